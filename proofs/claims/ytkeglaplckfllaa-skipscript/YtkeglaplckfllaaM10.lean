import Derived.Test.YtkeglaplckfllaaM09
import Derived.Deep.RegionHeldLaw
import Derived.StillTailTactics
/-
  Insert.
-/
namespace Go.Proofs.Ytkeglaplckfllaa
open Go.RowKit
set_option maxRecDepth 100000
set_option maxHeartbeats 4000000
theorem nodeNew (w : World) (kv vv : Value) (seq : Nat) (kind : Int) (H : Nat) (hH : H ≤ 12) : NodeAt (w.alloc (.cells #[kv, .int .u64 (seq : Nat), .int .i64 kind, vv, .int .i64 (H : Nat), .pointer none, .pointer none, .pointer none, .pointer none, .pointer none, .pointer none, .pointer none, .pointer none, .pointer none, .pointer none, .pointer none, .pointer none] 64)) w.heap.size H (fun _ => .pointer none) #[kv, .int .u64 (seq : Nat), .int .i64 kind, vv, .int .i64 (H : Nat), .pointer none, .pointer none, .pointer none, .pointer none, .pointer none, .pointer none, .pointer none, .pointer none, .pointer none, .pointer none, .pointer none, .pointer none] := by
  refine ⟨heap_alloc_new w _, rfl, rfl, fun l hl => ?_⟩
  have : l = 0 ∨ l = 1 ∨ l = 2 ∨ l = 3 ∨ l = 4 ∨ l = 5 ∨ l = 6 ∨ l = 7 ∨ l = 8 ∨ l = 9 ∨ l = 10 ∨ l = 11 := by omega
  rcases this with rfl | rfl | rfl | rfl | rfl | rfl | rfl | rfl | rfl | rfl | rfl | rfl <;> rfl
theorem insert_any (A : Nat → Prop) (t bg : Nat) (ts : List Tow) (w : World) (ka va : Option Addr) (kn kc vn vc seq : Nat) (kind hg : Int) (key val : List (BitVec 8)) (h : Tab A w t bg ts) (hk : Bytes w (.slice ka kn kc) key) (hv : Bytes w (.slice va vn vc) val) (hs : seq < 18446744073709551616) (hm : Smol [(kind, key, val)]) (hn : ts.length ≤ 100000) (hz : sizeT ts ≤ 900000) (R : Ending → World → Prop)
    (HE : chk seq [(kind, key, val)] ≠ 0 → ∀ w', Below w.heap.size w w' → R (.returned (.int .i64 (chk seq [(kind, key, val)]))) w')
    (HA : chk seq [(kind, key, val)] = 0 → (hg < 1 ∨ 12 < hg) → ∀ w', Below w.heap.size w w' → R (.returned (.int .i64 2)) w')
    (HT : chk seq [(kind, key, val)] = 0 → (1 ≤ hg ∧ hg ≤ 12) → ∀ x, atT ts (place (key, seq) ts) (key, seq) = some x → ∀ w', Below w.heap.size w w' → R (.returned (.int .i64 5)) w')
    (HN : chk seq [(kind, key, val)] = 0 → ∀ H : Nat, hg = (H : Int) → 1 ≤ H → H ≤ 12 → atT ts (place (key, seq) ts) (key, seq) = none → ∀ x w', x.e = ⟨key, seq, kind, val⟩ → x.h = H → Tab (Grow A w) w' t bg (ins ts (place (key, seq) ts) x) → Turns A w w' → R (.returned (.int .i64 0)) w') :
    Calls Try.prog 8 #[.pointer (some ⟨t, 0, none⟩), .agg #[.slice ka kn kc, .int .u64 (seq : Nat), .int .i64 kind, .slice va vn vc], .int .i64 hg] w R := by
  have T0 := hide ((Turns.refl (fun _ => False) w).alloc (.cells #[.slice ka kn kc, .int .u64 (seq : Nat), .int .i64 kind, .slice va vn vc] 29))
  have HB := hide (h.quiet T0.out)
  have HK := hide (hk.quiet T0.out)
  have HV := hide (hv.quiet T0.out)
  have HR := hide (heap_alloc_new w (.cells #[.slice ka kn kc, .int .u64 (seq : Nat), .int .i64 kind, .slice va vn vc] 29))
  have HM := hide (made_any A t bg ts _ HB.out)
  have HC := hide (checkEntry_any seq hs kind ka va kn kc vn vc key val _ HK.out HV.out hm)
  have HHE := hide HE
  have HHA := hide HA
  have HHT := hide HT
  have HHN := hide HN
  have HWS := hide (show (w.alloc (.cells #[.slice ka kn kc, .int .u64 (seq : Nat), .int .i64 kind, .slice va vn vc] 29)).heap.size = w.heap.size + 1 by simp)
  have HTW := hide h
  clear h hk hv HE HA HT HN
  go_enter Try.func8, Try.ntmps8
  go_upto_region 1 with (fail)
  generalize w.alloc (.cells #[.slice ka kn kc, .int .u64 (seq : Nat), .int .i64 kind, .slice va vn vc] 29) = w0 at *
  generalize hg0 : w.heap.size = g at *
  have a0 : w0.cell? ⟨g, 0, none⟩ = some (.slice ka kn kc) := cell_of_row w0 g 0 _ 29 (0, 0) HR.out
  have a1 : w0.cell? ⟨g, 1, none⟩ = some (.int .u64 (seq : Nat)) := cell_of_row w0 g 1 _ 29 (0, 0) HR.out
  have a2 : w0.cell? ⟨g, 2, none⟩ = some (.int .i64 kind) := cell_of_row w0 g 2 _ 29 (0, 0) HR.out
  have a3 : w0.cell? ⟨g, 3, none⟩ = some (.slice va vn vc) := cell_of_row w0 g 3 _ 29 (0, 0) HR.out
  generalize hck : chk seq [(kind, key, val)] = ck at *
  clear hck
  go_upto_region 4 with (first | (go_at_call 35; refine HM.out.mono ?_; rintro e w1 ⟨rfl, hw1⟩; subst hw1) | (go_at_call 36; refine HC.out.mono ?_; rintro e w2 ⟨rfl, b2⟩; have T2 := hide (Turns.of_below b2 (fun _ => False)); clear b2))
  have BF := hide (show ∀ (w' : World), Turns (fun _ => False) w2 w' → Below g w w' from fun w' tt => ((T0.out.trans T2.out).trans tt).below (by omega) (fun _ x => x.elim))
  by_cases hck0 : ck = 0
  · subst hck0
    by_cases hh : 1 ≤ hg ∧ hg ≤ 12
    · obtain ⟨H, rfl⟩ := Int.eq_ofNat_of_zero_le (show 0 ≤ hg by omega)
      have i1 : ¬ (H : Int) < 1 := by omega
      have i2 : ¬ (12 : Int) < H := by omega
      have c0 := T2.out.cell a0 (fun x => x)
      have c1 := T2.out.cell a1 (fun x => x)
      have HL := hide (look_any A t bg ts ka kn kc seq key w2 (HB.out.quiet T2.out) (HK.out.quiet T2.out) (by omega))
      have hpl := place_le (key, seq) ts
      generalize hpn : place (key, seq) ts = n at *
      have HPN := hide hpn
      clear hpn
      go_upto_region 9 with (first
        | (go_at_call 37; refine HL.out.mono ?_; rintro e w3 ⟨cs, rfl, hp, b3⟩; have PIN := hide hp; have T3 := hide (Turns.of_below b3 (fun _ => False)); have SZ := hide hp.size; have ONE := hide hp.one; obtain ⟨v0, v1, v2, v3, v4, v5, v6, v7, v8, v9, v10, v11, v12, v13, v14, v15, hcs⟩ := hp.explicit; have HCS := hide hcs; clear hp b3 hcs)
        | (refine wpList_store_row rfl 67 _ _ rfl _ cs rfl rfl _ _ (heap_alloc_new _ _) (by rw [SZ.out]; exact info67) (by rw [SZ.out]; rfl) ONE.out ?_))
      simp only [Act.put]
      have hal := (Below.refl w3.heap.size w3).alloc (Nat.le_refl _) (.cells #[.slice none 0 0, .int .u64 0, .int .i64 0, .slice none 0 0, .pointer none, .pointer none, .pointer none, .pointer none, .pointer none, .pointer none, .pointer none, .pointer none, .pointer none, .pointer none, .pointer none, .pointer none, .int .i64 0] 67)
      have T4 := hide (show Turns (fun _ => False) w3 _ from Turns.of_below (below_setRow hal (Nat.le_refl _) cs) _)
      have R4 := hide (setRow_heap (w3.alloc (.cells #[.slice none 0 0, .int .u64 0, .int .i64 0, .slice none 0 0, .pointer none, .pointer none, .pointer none, .pointer none, .pointer none, .pointer none, .pointer none, .pointer none, .pointer none, .pointer none, .pointer none, .pointer none, .int .i64 0] 67)) w3.heap.size _ cs 67 (0, 0) (heap_alloc_new w3 _))
      clear hal
      generalize (w3.alloc (.cells #[.slice none 0 0, .int .u64 0, .int .i64 0, .slice none 0 0, .pointer none, .pointer none, .pointer none, .pointer none, .pointer none, .pointer none, .pointer none, .pointer none, .pointer none, .pointer none, .pointer none, .pointer none, .int .i64 0] 67)).setRow w3.heap.size cs = w4 at *
      have hgp : w1.heap.size ≤ w3.heap.size := Nat.le_trans T2.out.size T3.out.size
      have hgp4 : w3.heap.size < w4.heap.size := lt_of_heap R4.out
      generalize w3.heap.size = gp at *
      have T24 := hide (T2.out.trans (T3.out.trans T4.out))
      have TB := hide (HB.out.quiet T24.out)
      have HAT := hide (at_any key w4 TB.out hpl PIN.out (HK.out.quiet T24.out))
      have d0 := T24.out.cell a0 (fun x => x)
      have d1 := T24.out.cell a1 (fun x => x)
      have d2 := T24.out.cell a2 (fun x => x)
      have d3 := T24.out.cell a3 (fun x => x)
      clear c0 c1 a0 a1 a2 a3
      cases hat : atT ts n (key, seq) with
      | some x =>
        have HA5 := hide (HHT.out (by trivial) ⟨hh.1, hh.2⟩ x hat)
        rw [hat] at HAT
        have HAT : Hid (Calls Try.prog 38 #[.agg cs] w4 fun e w' => e = .returned (.pointer (some ⟨x.b, 0, none⟩)) ∧ Below w4.heap.size w4 w') := HAT
        clear hat
        go_wp2_with (first
          | (refine wpList_load_row rfl 67 _ rfl _ rfl _ _ _ _ R4.out Try.underlying67 rfl (by rw [SZ.out]; exact info67) ?_)
          | (go_at_call 38; refine HAT.out.mono ?_; rintro e w5 ⟨rfl, b5⟩; have T5 := hide (Turns.of_below b5 (fun _ => False)); clear b5))
        exact HA5.out _ (BF.out _ (T3.out.trans (T4.out.trans T5.out)))
      | none =>
        rw [hat] at HAT
        have HAT : Hid (Calls Try.prog 38 #[.agg cs] w4 fun e w' => e = .returned (.pointer none) ∧ Below w4.heap.size w4 w') := HAT
        have HATN := hide hat
        clear hat
        go_upto_region 11 with (first
          | (refine wpList_load_row rfl 67 _ rfl _ rfl _ _ _ _ R4.out Try.underlying67 rfl (by rw [SZ.out]; exact info67) ?_)
          | (go_at_call 38; refine HAT.out.mono ?_; rintro e w5 ⟨rfl, b5⟩; have T5 := hide (Turns.of_below b5 (fun _ => False)); clear b5))
        have R5 := hide (T5.out.heap R4.out (fun x => x))
        have e0 := T5.out.cell d0 (fun x => x)
        have e1 := T5.out.cell d1 (fun x => x)
        have e2 := T5.out.cell d2 (fun x => x)
        have e3 := T5.out.cell d3 (fun x => x)
        have TB5 := hide (TB.out.quiet T5.out)
        have hcs := HCS.out
        have p0 : w5.cell? ⟨gp, 0, none⟩ = some (v0) := (cell_of_row w5 gp 0 cs 67 (0, 0) R5.out).trans (by rw [hcs]; rfl)
        have p1 : w5.cell? ⟨gp, 1, none⟩ = some (v1) := (cell_of_row w5 gp 1 cs 67 (0, 0) R5.out).trans (by rw [hcs]; rfl)
        have p2 : w5.cell? ⟨gp, 2, none⟩ = some (v2) := (cell_of_row w5 gp 2 cs 67 (0, 0) R5.out).trans (by rw [hcs]; rfl)
        have p3 : w5.cell? ⟨gp, 3, none⟩ = some (v3) := (cell_of_row w5 gp 3 cs 67 (0, 0) R5.out).trans (by rw [hcs]; rfl)
        have p4 : w5.cell? ⟨gp, 4, none⟩ = some (v4) := (cell_of_row w5 gp 4 cs 67 (0, 0) R5.out).trans (by rw [hcs]; rfl)
        have p5 : w5.cell? ⟨gp, 5, none⟩ = some (v5) := (cell_of_row w5 gp 5 cs 67 (0, 0) R5.out).trans (by rw [hcs]; rfl)
        have p6 : w5.cell? ⟨gp, 6, none⟩ = some (v6) := (cell_of_row w5 gp 6 cs 67 (0, 0) R5.out).trans (by rw [hcs]; rfl)
        have p7 : w5.cell? ⟨gp, 7, none⟩ = some (v7) := (cell_of_row w5 gp 7 cs 67 (0, 0) R5.out).trans (by rw [hcs]; rfl)
        have p8 : w5.cell? ⟨gp, 8, none⟩ = some (v8) := (cell_of_row w5 gp 8 cs 67 (0, 0) R5.out).trans (by rw [hcs]; rfl)
        have p9 : w5.cell? ⟨gp, 9, none⟩ = some (v9) := (cell_of_row w5 gp 9 cs 67 (0, 0) R5.out).trans (by rw [hcs]; rfl)
        have p10 : w5.cell? ⟨gp, 10, none⟩ = some (v10) := (cell_of_row w5 gp 10 cs 67 (0, 0) R5.out).trans (by rw [hcs]; rfl)
        have p11 : w5.cell? ⟨gp, 11, none⟩ = some (v11) := (cell_of_row w5 gp 11 cs 67 (0, 0) R5.out).trans (by rw [hcs]; rfl)
        have p12 : w5.cell? ⟨gp, 12, none⟩ = some (v12) := (cell_of_row w5 gp 12 cs 67 (0, 0) R5.out).trans (by rw [hcs]; rfl)
        have p13 : w5.cell? ⟨gp, 13, none⟩ = some (v13) := (cell_of_row w5 gp 13 cs 67 (0, 0) R5.out).trans (by rw [hcs]; rfl)
        have p14 : w5.cell? ⟨gp, 14, none⟩ = some (v14) := (cell_of_row w5 gp 14 cs 67 (0, 0) R5.out).trans (by rw [hcs]; rfl)
        have p15 : w5.cell? ⟨gp, 15, none⟩ = some (v15) := (cell_of_row w5 gp 15 cs 67 (0, 0) R5.out).trans (by rw [hcs]; rfl)
        have p16 : w5.cell? ⟨gp, 16, none⟩ = some (.int .i64 (walk 12 (seg ts n 0) : Nat)) := (cell_of_row w5 gp 16 cs 67 (0, 0) R5.out).trans (by rw [hcs]; rfl)
        clear hcs
        obtain ⟨Pf, hsp⟩ := PIN.out.spots
        have SP := hide hsp
        have HCL := hide (cloneE_any ka va kn kc vn vc seq kind key val w5.drew ((HK.out.quiet T24.out).quiet (T5.out.drew)) ((HV.out.quiet T24.out).quiet (T5.out.drew)) (by have := HK.out.len; have := hm.tot; simp [tot] at this; omega) (by have := HV.out.len; have := hm.tot; simp [tot] at this; omega))
        have CS := hide (show cs = cs.toList.toArray by simp)
        clear d0 d1 d2 d3 hsp
        have HND := hide (show ∀ p, p ≤ ts.length → nodeB bg ts p < g from fun p hp => by have := HTW.out.node_lt hp; omega)
        have HKL := hide (show kn = key.length from HK.out.len)
        have HVL := hide (show vn = val.length from HV.out.len)
        go_region_held_law (fun w' => w'.cell? ⟨gp, 0, none⟩ = some (v0) ∧ w'.cell? ⟨gp, 1, none⟩ = some (v1) ∧ w'.cell? ⟨gp, 2, none⟩ = some (v2) ∧ w'.cell? ⟨gp, 3, none⟩ = some (v3) ∧ w'.cell? ⟨gp, 4, none⟩ = some (v4) ∧ w'.cell? ⟨gp, 5, none⟩ = some (v5) ∧ w'.cell? ⟨gp, 6, none⟩ = some (v6) ∧ w'.cell? ⟨gp, 7, none⟩ = some (v7) ∧ w'.cell? ⟨gp, 8, none⟩ = some (v8) ∧ w'.cell? ⟨gp, 9, none⟩ = some (v9) ∧ w'.cell? ⟨gp, 10, none⟩ = some (v10) ∧ w'.cell? ⟨gp, 11, none⟩ = some (v11) ∧ w'.cell? ⟨gp, 12, none⟩ = some (v12) ∧ w'.cell? ⟨gp, 13, none⟩ = some (v13) ∧ w'.cell? ⟨gp, 14, none⟩ = some (v14) ∧ w'.cell? ⟨gp, 15, none⟩ = some (v15) ∧ w'.cell? ⟨gp, 16, none⟩ = some (.int .i64 (walk 12 (seg ts n 0) : Nat)) ∧ w'.cell? ⟨g, 0, none⟩ = some (.slice ka kn kc) ∧ w'.cell? ⟨g, 1, none⟩ = some (.int .u64 (seq : Nat)) ∧ w'.cell? ⟨g, 2, none⟩ = some (.int .i64 kind) ∧ w'.cell? ⟨g, 3, none⟩ = some (.slice va vn vc)) (first | (with_reducible exact ⟨r0, r1, r2, r3, r4, r5, r6, r7, r8, r9, r10, r11, r12, r13, r14, r15, r16, j0, j1, j2, j3⟩) | (exact ⟨alloc_keep q0 _, alloc_keep q1 _, alloc_keep q2 _, alloc_keep q3 _, alloc_keep q4 _, alloc_keep q5 _, alloc_keep q6 _, alloc_keep q7 _, alloc_keep q8 _, alloc_keep q9 _, alloc_keep q10 _, alloc_keep q11 _, alloc_keep q12 _, alloc_keep q13 _, alloc_keep q14 _, alloc_keep q15 _, alloc_keep q16 _, alloc_keep f0 _, alloc_keep f1 _, alloc_keep f2 _, alloc_keep f3 _⟩) | (with_reducible exact ⟨q0, q1, q2, q3, q4, q5, q6, q7, q8, q9, q10, q11, q12, q13, q14, q15, q16, f0, f1, f2, f3⟩) | (simp only [World.cell?_drew]; with_reducible exact ⟨p0, p1, p2, p3, p4, p5, p6, p7, p8, p9, p10, p11, p12, p13, p14, p15, p16, e0, e1, e2, e3⟩)) (first
          | (go_at_call 40; refine HCL.out.mono ?_; rintro e w6 ⟨ka', kc', va', vc', rfl, hk6, hv6, hkb, hvb, b6⟩; have t6 := T5.out.drew.trans (Turns.of_below b6 (fun _ => False)); have t56 := (Turns.refl (fun _ => False) w5).drew.trans (Turns.of_below b6 (fun _ => False)); have f0 := t56.cell e0 (fun x => x); have f1 := t56.cell e1 (fun x => x); have f2 := t56.cell e2 (fun x => x); have f3 := t56.cell e3 (fun x => x); have q0 := t56.cell p0 (fun x => x); have q1 := t56.cell p1 (fun x => x); have q2 := t56.cell p2 (fun x => x); have q3 := t56.cell p3 (fun x => x); have q4 := t56.cell p4 (fun x => x); have q5 := t56.cell p5 (fun x => x); have q6 := t56.cell p6 (fun x => x); have q7 := t56.cell p7 (fun x => x); have q8 := t56.cell p8 (fun x => x); have q9 := t56.cell p9 (fun x => x); have q10 := t56.cell p10 (fun x => x); have q11 := t56.cell p11 (fun x => x); have q12 := t56.cell p12 (fun x => x); have q13 := t56.cell p13 (fun x => x); have q14 := t56.cell p14 (fun x => x); have q15 := t56.cell p15 (fun x => x); have q16 := t56.cell p16 (fun x => x); have T6 := hide t6; have T56 := hide t56; have HK6 := hide hk6; have HV6 := hide hv6; have HKB := hide hkb; have HVB := hide hvb; clear t6 t56 hk6 hv6 hkb hvb b6)
          | (go_at_call 39; rw [← HCS.out]; refine (raise_any bg ts n Pf w6.heap.size H (fun _ => .pointer none) #[.slice ka' kn kc', .int .u64 (seq : Nat), .int .i64 kind, .slice va' vn vc', .int .i64 (H : Nat), .pointer none, .pointer none, .pointer none, .pointer none, .pointer none, .pointer none, .pointer none, .pointer none, .pointer none, .pointer none, .pointer none, .pointer none] ⟨w6.heap.size, ka', kc', va', vc', ⟨key, seq, kind, val⟩, H⟩ cs _ ((TB5.out.quiet (T56.out.alloc _)).nodes) SP.out hpl (fun p hp => (nodeH_le TB5.out hp).2) (nodeNew w6 (.slice ka' kn kc') (.slice va' vn vc') seq kind H (by omega)) (by rw [HKL.out, HVL.out]; exact ⟨rfl, rfl, rfl, rfl⟩) (by omega) (fun p hp e => by have h1 := HND.out p hp; have h2 := T24.out.size; have h3 := T6.out.size; have h4 := HWS.out; omega)).mono ?_; rintro e w7 ⟨⟨v7, rfl⟩, hn7, ho7, t7⟩; have hgpn : ¬ (gp = w6.heap.size ∨ ∃ p, p ≤ ts.length ∧ gp = nodeB bg ts p) := (fun h => h.elim (fun h1 => (by have h2 := T6.out.size; omega)) (fun ⟨p, hp, h1⟩ => (by have h2 := HND.out p hp; have h3 := HWS.out; omega))); have hgn : ¬ (g = w6.heap.size ∨ ∃ p, p ≤ ts.length ∧ g = nodeB bg ts p) := (fun h => h.elim (fun h1 => (by have h2 := T6.out.size; have h3 := T24.out.size; have h4 := HWS.out; omega)) (fun ⟨p, hp, h1⟩ => (by have h2 := HND.out p hp; omega))); have r0 := t7.cell (alloc_keep q0 _) hgpn; have r1 := t7.cell (alloc_keep q1 _) hgpn; have r2 := t7.cell (alloc_keep q2 _) hgpn; have r3 := t7.cell (alloc_keep q3 _) hgpn; have r4 := t7.cell (alloc_keep q4 _) hgpn; have r5 := t7.cell (alloc_keep q5 _) hgpn; have r6 := t7.cell (alloc_keep q6 _) hgpn; have r7 := t7.cell (alloc_keep q7 _) hgpn; have r8 := t7.cell (alloc_keep q8 _) hgpn; have r9 := t7.cell (alloc_keep q9 _) hgpn; have r10 := t7.cell (alloc_keep q10 _) hgpn; have r11 := t7.cell (alloc_keep q11 _) hgpn; have r12 := t7.cell (alloc_keep q12 _) hgpn; have r13 := t7.cell (alloc_keep q13 _) hgpn; have r14 := t7.cell (alloc_keep q14 _) hgpn; have r15 := t7.cell (alloc_keep q15 _) hgpn; have r16 := t7.cell (alloc_keep q16 _) hgpn; have j0 := t7.cell (alloc_keep f0 _) hgn; have j1 := t7.cell (alloc_keep f1 _) hgn; have j2 := t7.cell (alloc_keep f2 _) hgn; have j3 := t7.cell (alloc_keep f3 _) hgn; have N7 := hide hn7; have O7 := hide ho7; have T7 := hide t7; clear hn7 ho7 t7))
        clear r0 r1 r2 r3 r4 r5 r6 r7 r8 r9 r10 r11 r12 r13 r14 r15 r16 q0 q1 q2 q3 q4 q5 q6 q7 q8 q9 q10 q11 q12 q13 q14 q15 q16 p0 p1 p2 p3 p4 p5 p6 p7 p8 p9 p10 p11 p12 p13 p14 p15 p16 f0 f1 f2 f3 e0 e1 e2 e3 j1 j2
        have ht6 : t < w6.heap.size := by have h1 := lt_of_heap HB.out.tab; have h2 := T24.out.size; have h3 := T6.out.size; omega
        have htn : ¬ (t = w6.heap.size ∨ ∃ p, p ≤ ts.length ∧ t = nodeB bg ts p) := fun h => h.elim (fun h1 => by omega) (fun ⟨p, hp, h1⟩ => HB.out.node_ne hp h1.symm)
        have TR7 := hide (T7.out.heap (((Turns.refl (fun _ => False) w6).alloc _).heap ((T24.out.trans T6.out).heap HB.out.tab (fun x => x)) (fun x => x)) htn)
        have y1 := cell_of_row w7 t 1 _ 56 (0, 0) TR7.out
        have z1 := frozen_of_row w7 t 1 _ 56 TR7.out
        have y2 := cell_of_row w7 t 2 _ 56 (0, 0) TR7.out
        have z2 := frozen_of_row w7 t 2 _ 56 TR7.out
        have htg : t ≠ g := by have := lt_of_heap HTW.out.tab; omega
        have hlk : kn + vn ≤ 20000 := by have h1 := HKL.out; have h2 := HVL.out; have h3 := hm.tot; simp [tot] at h3; omega
        generalize hLN : ts.length = LN at *
        generalize hSZ : sizeT ts = SZT at *
        have HLNH := hide hLN
        have HSZH := hide hSZ
        clear hLN hSZ
        simp only [List.getElem?_toArray, List.getElem?_cons_succ, List.getElem?_cons_zero] at y1 y2
        go_upto_region 13 with (fail)
        have TK8 := hide ((Tick.refl TR7.out).set 1 (.int .i64 ((LN : Int) + 1)))
        have U8 := hide (Turns.of_tick TK8.out)
        have Y2 := cell_of_row _ t 2 _ 56 (0, 0) TK8.out.1
        have Z2 := frozen_of_row _ t 2 _ 56 TK8.out.1
        have J0 := U8.out.cell j0 (by show ¬ g = t; omega)
        have J3 := U8.out.cell j3 (by show ¬ g = t; omega)
        simp only [List.setIfInBounds_toArray, List.set_cons_succ, List.set_cons_zero, List.getElem?_toArray, List.getElem?_cons_succ, List.getElem?_cons_zero] at Y2
        clear y1 y2 z1 z2 j0 j3
        generalize w7.setCell ⟨t, 1, none⟩ (.int .i64 ((LN : Int) + 1)) = w8 at *
        have hszb : SZT ≤ 900000 := by have := HSZH.out; omega
        go_still_tail 15, (by kernel_rfl)
        repeat still_step
        have Z2' : ({ w8 with drawn := w8.drawn + 1 } : World).frozen? ⟨t, 2, none⟩ = false := Z2
        have Y2' : ({ w8 with drawn := w8.drawn + 1 } : World).cell? ⟨t, 2, none⟩ = some (.int .i64 (SZT : Nat)) := Y2
        have K9 := hide ((Tick.refl (w := ({ w8 with drawn := w8.drawn + 1 } : World)) (show ({ w8 with drawn := w8.drawn + 1 } : World).heap[t]? = _ from TK8.out.1)).set 2 (.int .i64 ((SZT : Int) + ((kn : Int) + (vn : Int) + 32))))
        have U9 := hide (show Turns (fun k => k = t) w7 _ from (U8.out.trans (show Turns (fun k => k = t) w8 ({ w8 with drawn := w8.drawn + 1 } : World) from (Turns.refl _ w8).drewN 1)).trans (Turns.of_tick K9.out))
        have hL0 := HLNH.out
        have hS0 := HSZH.out
        have hkl := HKL.out
        have hvl := HVL.out
        have hg1 := HWS.out
        have hs24 := T24.out.size
        have hs56 := T56.out.size
        have hs5 := T5.out.size
        have hno : ∀ y, ts[n]? = some y → cmpE y.e.en (key, seq) ≠ 0 := fun y hy e => by
          have h1 := HATN.out
          unfold atT at h1
          rw [hy] at h1
          simp only at h1
          rw [if_pos e] at h1
          cases h1
        have hfin := tab_ins (x := ⟨w6.heap.size, ka', kc', va', vc', ⟨key, seq, kind, val⟩, H⟩) HTW.out ((T0.out.trans T24.out).trans T6.out) rfl (by rw [hL0]; exact T7.out) N7.out O7.out U9.out (by
          rw [K9.out.1]
          simp only [List.setIfInBounds_toArray, List.set_cons_succ, List.set_cons_zero, hL0, hS0, hkl, hvl]
          congr 4) (by show Bytes w6 (.slice ka' key.length kc') key; rw [← hkl]; exact HK6.out) (by show Bytes w6 (.slice va' val.length vc') val; rw [← hvl]; exact HV6.out) (fun a e => ⟨by have := (HKB.out a e).1; have h9 : w5.heap.size ≤ a.block := this; omega, (HKB.out a e).2⟩) (fun a e => ⟨by have := (HVB.out a e).1; have h9 : w5.heap.size ≤ a.block := this; omega, (HVB.out a e).2⟩) SP.out HPN.out.symm hno ⟨show 1 ≤ H by omega, show H ≤ 12 by omega⟩
        have HFIN := hide hfin
        clear hfin hno hL0 hS0 hkl hvl hg1
        go_wp2_with fail
        exact HHN.out (by trivial) H rfl (by omega) (by omega) HATN.out _ _ rfl rfl HFIN.out.1 HFIN.out.2
    · have HAA := hide (HHA.out (by trivial) (by omega))
      go_wp2_with fail
      all_goals exact HAA.out _ (BF.out _ (Turns.refl _ _))
  · have HEE := hide (HHE.out hck0)
    have hb0 : (ck != 0) = true := by simp [hck0]
    clear hck0
    go_wp2_with fail
    exact HEE.out _ (BF.out _ (Turns.refl _ _))
end Go.Proofs.Ytkeglaplckfllaa
