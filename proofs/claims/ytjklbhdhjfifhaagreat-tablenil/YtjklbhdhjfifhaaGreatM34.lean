import Derived.Test.YtjklbhdhjfifhaaGreatM33
import Derived.Test.YtjklbhdhjfifhaaGreatM25
import Derived.Deep.RegionHeld
import Derived.Deep.Light
import Derived.Test.YtjklbhdhjfifhaaGreatM32
import Derived.Test.YtjklbhdhjfifhaaGreatM19
/-
  What is known when all blocks are; entries in order; what entries tell of their table.
-/
namespace Go.Proofs.YtjklbhdhjfifhaaGreat
open Go.RowKit
set_option maxRecDepth 100000
set_option maxHeartbeats 4000000
theorem complete_any (b n size : Nat) (pa : Option Addr) (pc : Nat) (e0 e1 e2 l1 l2 s1 s2 : Value) (w : World) (hb : w.heap[b]? = some (.cells #[.slice pa n pc, e0, e1, e2, l1, l2, s1, s2] 55 (0, 0))) :
    Calls Tryz.prog 58 #[.pointer (some ⟨b, 0, none⟩), .int .i64 (size : Nat)] w fun oo w' => (∃ v, oo = .returned v) ∧ w'.heap[b]? = some (.cells #[.slice pa n pc, e0, .int .i64 (n : Nat), .int .i64 (size : Nat), l1, l2, s1, s2] 55 (0, 0)) ∧ Turns (fun k => k = b) w w' := by
  have c0 := cell_of_row w b 0 _ 55 (0, 0) hb
  have f2 := frozen_of_row w b 2 _ 55 hb
  have f3 := frozen_of_row w b 3 _ 55 hb
  have c2 := cell_of_row w b 2 _ 55 (0, 0) hb
  have c3 := cell_of_row w b 3 _ 55 (0, 0) hb
  have TK := hide (((Tick.refl hb).set 2 (.int .i64 (n : Nat))).set 3 (.int .i64 (size : Nat)))
  simp at c0 c2 c3
  clear hb
  go_enter Tryz.func58, Tryz.ntmps58
  go_wp2_with fail
  go_end0
  exact ⟨⟨_, rfl⟩, TK.out.1, Turns.of_tick TK.out⟩
theorem tinOrder_any (a : Option Addr) (n c : Nat) (l : List Tow) (w : World) (h : Ents w a l) (hn : n = l.length) (hmx : n ≤ 1000000) :
    Calls Tryz.prog 107 #[.slice a n c] w fun e w' => e = .returned (.bool (inOrd (ents l))) ∧ Below w.heap.size w w' := by
  have HL := hide hn
  have HA := hide h
  generalize hB : w.heap.size = B
  have HB := hide hB
  clear hn h hB
  go_enter Tryz.func107, Tryz.ntmps107
  go_wp2_with fail
  go_loopw [3] (fun iv wr => ∃ k : Nat, iv = .int .i64 (k : Nat) ∧ 1 ≤ k ∧ k ≤ n + 1 ∧ (∀ j x y, j + 1 < k → (ents l)[j]? = some x → (ents l)[j + 1]? = some y → cmpE x.en y.en < 0) ∧ Below B w wr) (fun iv _ => n + 1 - (intOf iv).toNat)
  case atStart => exact ⟨1, rfl, by omega, by omega, fun j x y h => by omega, Below.refl _ _⟩
  case round =>
    obtain ⟨k, rfl, hk1, hk, hord, hbw⟩ := hrel
    have BW := hide hbw
    have HO := hide hord
    clear hord
    by_cases hk2 : k < n
    · obtain ⟨p, rfl⟩ : ∃ p, k = p + 1 := ⟨k - 1, by omega⟩
      have i1 : (p : Int) + 1 < n := by omega
      have i0 : (0 : Int) ≤ (p : Int) + 1 := by omega
      have i2 : (0 : Int) ≤ (p : Int) := by omega
      have i3 : (p : Int) < n := by omega
      have i4 : IntKind.i64.wrap (p : Int) = (p : Int) := wrapI _ (by omega) (by omega)
      have hkl : p + 1 < l.length := by have := HL.out; omega
      have hpl : p < l.length := by omega
      have tt := Turns.of_below (show Below w.heap.size w wr by rw [HB.out]; exact hbw) (fun _ => False)
      obtain ⟨⟨b, off, rfl, hc⟩, k1, k2⟩ := (HA.out.quiet tt) p l[p] (List.getElem?_eq_getElem hpl)
      obtain ⟨⟨b', off', e', hc'⟩, k3, k4⟩ := (HA.out.quiet tt) (p + 1) l[p + 1] (List.getElem?_eq_getElem hkl)
      cases e'
      have HE1 := hide (ents_at hpl)
      have HE2 := hide (ents_at hkl)
      have hsz : B ≤ wr.heap.size := by have := tt.size; have := HB.out; omega
      generalize l[p] = x at *
      generalize l[p + 1] = x' at *
      obtain ⟨ka, kc, va, vc, e⟩ := x
      obtain ⟨ka', kc', va', vc', e'⟩ := x'
      have c0 : wr.cell? ⟨b, off + p * 4, none⟩ = some (.slice ka e.key.length kc) := hc 0 _ rfl
      have c1 : wr.cell? ⟨b, off + p * 4 + 1, none⟩ = some (.int .u64 (e.seq : Nat)) := hc 1 _ rfl
      have c2 : wr.cell? ⟨b, off + p * 4 + 2, none⟩ = some (.int .i64 e.kind) := hc 2 _ rfl
      have c3 : wr.cell? ⟨b, off + p * 4 + 3, none⟩ = some (.slice va e.val.length vc) := hc 3 _ rfl
      have d0 : wr.cell? ⟨b, off + (p + 1) * 4, none⟩ = some (.slice ka' e'.key.length kc') := hc' 0 _ rfl
      have d1 : wr.cell? ⟨b, off + (p + 1) * 4 + 1, none⟩ = some (.int .u64 (e'.seq : Nat)) := hc' 1 _ rfl
      have d2 : wr.cell? ⟨b, off + (p + 1) * 4 + 2, none⟩ = some (.int .i64 e'.kind) := hc' 2 _ rfl
      have d3 : wr.cell? ⟨b, off + (p + 1) * 4 + 3, none⟩ = some (.slice va' e'.val.length vc') := hc' 3 _ rfl
      have t0 : Turns (fun _ => False) wr wr.drew := (Turns.refl _ _).drew
      have HQ := hide (compare_any ka ka' va va' e.key.length kc e.val.length vc e'.key.length kc' e'.val.length vc' e.kind e'.kind e.seq e'.seq e.key e'.key wr.drew (Bytes.quiet k1 t0) (Bytes.quiet k3 t0))
      clear hc hc' k1 k2 k3 k4 tt hbw t0
      have ep : ((p + 1 : Nat) : Int) - 1 = (p : Int) := by omega
      generalize hcv : cmpE (e.key, e.seq) (e'.key, e'.seq) = cv at *
      have HCV := hide hcv
      clear hcv
      go_wp2_with fail
      go_region_held (fun w' => (w'.cell? ⟨b, off + p * 4, none⟩ = some (.slice ka e.key.length kc) ∧ w'.cell? ⟨b, off + p * 4 + 1, none⟩ = some (.int .u64 (e.seq : Nat)) ∧ w'.cell? ⟨b, off + p * 4 + 2, none⟩ = some (.int .i64 e.kind) ∧ w'.cell? ⟨b, off + p * 4 + 3, none⟩ = some (.slice va e.val.length vc)) ∧ w'.cell? ⟨b, off + (p + 1) * 4, none⟩ = some (.slice ka' e'.key.length kc') ∧ w'.cell? ⟨b, off + (p + 1) * 4 + 1, none⟩ = some (.int .u64 (e'.seq : Nat)) ∧ w'.cell? ⟨b, off + (p + 1) * 4 + 2, none⟩ = some (.int .i64 e'.kind) ∧ w'.cell? ⟨b, off + (p + 1) * 4 + 3, none⟩ = some (.slice va' e'.val.length vc')) (first | (with_reducible exact ⟨⟨f0, f1, f2, f3⟩, g0, g1, g2, g3⟩) | (simp only [World.cell?_drew]; with_reducible exact ⟨⟨c0, c1, c2, c3⟩, d0, d1, d2, d3⟩)) (first
        | (go_at_call 87; refine HQ.out.mono ?_; rintro x w2 ⟨rfl, b2⟩; have t2 := (Turns.refl (fun _ => False) wr).drew.trans (Turns.of_below b2 (fun _ => False)); have f0 := t2.cell c0 (fun x => x); have f1 := t2.cell c1 (fun x => x); have f2 := t2.cell c2 (fun x => x); have f3 := t2.cell c3 (fun x => x); have g0 := t2.cell d0 (fun x => x); have g1 := t2.cell d1 (fun x => x); have g2 := t2.cell d2 (fun x => x); have g3 := t2.cell d3 (fun x => x); have T2 := hide t2; clear t2 b2))
      clear f0 f1 f2 f3 g0 g1 g2 g3
      by_cases hlt : cv < 0
      · have hlt' : ¬ (0 : Int) ≤ cv := by omega
        go_wp2_with fail
        go_roundw
        case rel =>
          refine ⟨p + 2, by go_num, by omega, by omega, fun j x y hj hx hy => ?_, BW.out.trans (T2.out.below hsz (fun _ h => h.elim))⟩
          by_cases hjp : j = p
          · subst hjp
            have e1 : e = x := by have := HE1.out; rw [hx] at this; exact (Option.some.inj this).symm
            have e2 : e' = y := by have := HE2.out; rw [hy] at this; exact (Option.some.inj this).symm
            subst e1 e2
            show cmpE (e.key, e.seq) (e'.key, e'.seq) < 0
            rw [HCV.out]; exact hlt
          · exact HO.out j x y (by omega) hx hy
        case measure => simp [intOf]; omega
      · have hlt' : (0 : Int) ≤ cv := by omega
        go_wp2_with fail
        go_ret
        refine ⟨congrArg Ending.returned (congrArg Value.bool (Eq.symm ?_)), BW.out.trans (T2.out.below hsz (fun _ h => h.elim))⟩
        refine Bool.eq_false_iff.2 fun q => ?_
        have := (inOrd_iff _).1 q p e e' HE1.out HE2.out
        have h9 := HCV.out
        unfold Ent.en at this
        omega
    · have i1 : ¬ (k : Int) < n := by omega
      go_wp2_with fail
      go_ret
      refine ⟨congrArg Ending.returned (congrArg Value.bool (Eq.symm ?_)), BW.out⟩
      refine (inOrd_iff _).2 fun j x y hx hy => HO.out j x y ?_ hx hy
      have := (List.getElem?_eq_some_iff.1 hy).1
      have h9 := HL.out
      simp only [ents, List.length_map] at this
      omega
theorem setup_ok (B b : Int) (h1 : 64 ≤ B) (h2 : B ≤ 65536) (h3 : 1 ≤ b) (h4 : b ≤ 32) (w : World) : Calls Tryz.prog 19 #[.agg #[.int .i64 B, .int .i64 b]] w fun e w' => e = .returned (.int .i64 0) ∧ Below w.heap.size w w' := by
  have i1 : ¬ B < 64 := by omega
  have i2 : ¬ 65536 < B := by omega
  have i3 : ¬ b < 1 := by omega
  have i4 : ¬ 32 < b := by omega
  go_enter Tryz.func19, Tryz.ntmps19
  go_wp2_with fail
  go_ret
  exact ⟨rfl, by first | exact Below.refl _ _ | exact (Below.refl _ _).alloc (Nat.le_refl _) _⟩
theorem setup_bad (B b : Int) (h : ¬ (64 ≤ B ∧ B ≤ 65536 ∧ 1 ≤ b ∧ b ≤ 32)) (w : World) : Calls Tryz.prog 19 #[.agg #[.int .i64 B, .int .i64 b]] w fun e w' => e = .returned (.int .i64 2) ∧ Below w.heap.size w w' := by
  have HB := hide (show Below w.heap.size w (w.alloc (.cells #[.int .i64 B, .int .i64 b] 32)) from (Below.refl _ _).alloc (Nat.le_refl _) _)
  by_cases h1 : B < 64
  · go_enter Tryz.func19, Tryz.ntmps19
    go_wp2_with fail
    go_ret
    exact ⟨rfl, HB.out⟩
  · by_cases h2 : 65536 < B
    · go_enter Tryz.func19, Tryz.ntmps19
      go_wp2_with fail
      go_ret
      exact ⟨rfl, HB.out⟩
    · by_cases h3 : b < 1
      · go_enter Tryz.func19, Tryz.ntmps19
        go_wp2_with fail
        go_ret
        exact ⟨rfl, HB.out⟩
      · have h4 : 32 < b := by omega
        go_enter Tryz.func19, Tryz.ntmps19
        go_wp2_with fail
        go_ret
        exact ⟨rfl, HB.out⟩
/- CHECK -/
theorem tcheck_good (B0 b0 : Int) (g1 : 64 ≤ B0) (g2 : B0 ≤ 65536) (g3 : 1 ≤ b0) (g4 : b0 ≤ 32) (a : Option Addr) (n c : Nat) (l : List Tow) (w : World) (h : Ents w a l) (hn : n = l.length) (hmx : n ≤ 1000000) (hf : Good l) :
    Calls Tryz.prog 65 #[.slice a n c, .agg #[.int .i64 B0, .int .i64 b0]] w fun e w' => e = .returned (.int .i64 (chkL (ents l))) ∧ Below w.heap.size w w' := by
  have HL := hide hn
  have HA := hide h
  have HF := hide hf
  generalize hB : w.heap.size = B
  have HB := hide hB
  clear hn h hB hf
  go_enter Tryz.func65, Tryz.ntmps65
  go_wp2_with fail
  refine (setup_ok B0 b0 g1 g2 g3 g4 _).mono ?_
  rintro oo w1 ⟨rfl, b1⟩
  have HB1 := hide (show Below B w w1 from by rw [← HB.out]; exact (((Below.refl w.heap.size w).alloc (Nat.le_refl _) _).trans (b1.mono (by simp))))
  clear b1
  go_wp2_with fail
  go_loopw [16] (fun iv wr => ∃ k : Nat, iv = .int .i64 (k : Nat) ∧ k ≤ n ∧ Below B w wr) (fun iv _ => n - (intOf iv).toNat)
  case atStart => exact ⟨0, rfl, by omega, HB1.out⟩
  case round =>
    obtain ⟨k, rfl, hk, hbw⟩ := hrel
    have BW := hide hbw
    have tt := Turns.of_below (show Below w.heap.size w wr by rw [HB.out]; exact hbw) (fun _ => False)
    have hsz : B ≤ wr.heap.size := by have := tt.size; have := HB.out; omega
    by_cases hk2 : k < n
    · have i1 : (k : Int) < n := by omega
      have i0 : (0 : Int) ≤ (k : Int) := by omega
      have hkl : k < l.length := by have := HL.out; omega
      obtain ⟨⟨b, off, rfl, hc⟩, k1, k2⟩ := (HA.out.quiet tt) k l[k] (List.getElem?_eq_getElem hkl)
      have hfk := HF.out l[k] (List.getElem_mem hkl)
      generalize l[k] = x at *
      obtain ⟨ka, kc, va, vc, e⟩ := x
      have c0 : wr.cell? ⟨b, off + k * 4, none⟩ = some (.slice ka e.key.length kc) := hc 0 _ rfl
      have c1 : wr.cell? ⟨b, off + k * 4 + 1, none⟩ = some (.int .u64 (e.seq : Nat)) := hc 1 _ rfl
      have c2 : wr.cell? ⟨b, off + k * 4 + 2, none⟩ = some (.int .i64 e.kind) := hc 2 _ rfl
      have c3 : wr.cell? ⟨b, off + k * 4 + 3, none⟩ = some (.slice va e.val.length vc) := hc 3 _ rfl
      have b1 := (Below.refl wr.heap.size wr).alloc (Nat.le_refl _) (.cells #[.slice ka e.key.length kc, .int .u64 (e.seq : Nat), .int .i64 e.kind, .slice va e.val.length vc] 35)
      have hseq : e.seq ≤ 72057594037927935 := (chk1_fine hfk.1).2.1
      have HQ := hide (checkEntry_any e.seq (by omega) e.kind ka va e.key.length kc e.val.length vc e.key e.val _ (Bytes.below k1 b1) (Bytes.below k2 b1) (smol_one hfk.1))
      have hz : chk e.seq [(e.kind, e.key, e.val)] = 0 := hfk.1
      rw [hz] at HQ
      have B1 := hide (hbw.trans (b1.mono hsz))
      have B1' := hide b1.size
      clear hc k1 k2 tt hbw b1 hz hfk hseq
      go_wp2_with fail
      refine HQ.out.mono ?_
      rintro e w2 ⟨rfl, b2⟩
      have B2 := hide (B1.out.trans (b2.mono (Nat.le_trans hsz B1'.out)))
      clear b2 HQ
      go_wp2_with fail
      go_roundw
      case rel => exact ⟨k + 1, by go_num, by omega, B2.out⟩
      case measure => simp [intOf]; omega
    · have i1 : ¬ (k : Int) < n := by omega
      by_cases h0 : n = 0
      · subst h0
        have hl : l = [] := List.eq_nil_of_length_eq_zero HL.out.symm
        have hv : chkL (ents l) = 2 := by rw [hl]; rfl
        have HV := hide hv
        clear hv hl
        go_wp2_with fail
        go_ret
        exact ⟨by rw [HV.out]; rfl, BW.out⟩
      · have h0' : ¬ (n : Int) = 0 := by omega
        have HQ := hide (tinOrder_any a n c l wr (HA.out.quiet tt) HL.out hmx)
        have hne : ents l ≠ [] := by
          intro q
          have : (ents l).length = 0 := by rw [q]; rfl
          simp only [ents, List.length_map] at this
          have := HL.out
          omega
        have HV := hide (show chkL (ents l) = if inOrd (ents l) = false then 2 else 0 by
          unfold chkL
          by_cases q : inOrd (ents l) = false
          · rw [if_pos (.inr q), if_pos q]
          · rw [if_neg (fun x => x.elim hne q), if_neg q])
        clear tt hne hbw
        go_wp2_with fail
        refine HQ.out.mono ?_
        rintro e w2 ⟨rfl, b2⟩
        have B2 := hide (BW.out.trans (b2.mono hsz))
        clear b2 HQ
        generalize hv : inOrd (ents l) = v at *
        cases v
        all_goals go_wp2_with fail
        all_goals go_ret
        all_goals exact ⟨by rw [HV.out]; rfl, B2.out⟩
end Go.Proofs.YtjklbhdhjfifhaaGreat

/-
  How many entries a block takes.
-/
namespace Go.Proofs.YtjklbhdhjfifhaaGreat
open Go.RowKit
set_option maxRecDepth 100000
set_option maxHeartbeats 4000000
theorem flat4 (l : List Nat) : (l.flatMap four).length = 4 * l.length := by
  induction l with
  | nil => rfl
  | cons x r ih => rw [List.flatMap_cons, List.length_append, ih, List.length_cons]; show 4 + _ = _; omega
theorem blk_szK (l : List Tow) (k : Nat) : (blkB (ents (l.take k))).length = szK l k := by
  unfold blkB szK
  rw [List.length_append, List.length_append, flat4]
  show _ + (_ + 4) = _
  omega
theorem blk_full (l : List Tow) : (blkB (ents l)).length = szK l l.length := by rw [← blk_szK, List.take_length]
theorem szK_0 (l : List Tow) : szK l 0 = 4 := rfl
theorem szK_one (x : Tow) : szK [x] 1 = 8 + (entB 0 x.e).length := by
  rw [szK_succ [x] 0 (by simp), szK_0]
  simp [shr]
theorem szK_two (x y : Tow) : szK [x, y] 2 = szK [x] 1 + (entB (alike x.e.key y.e.key) y.e).length := by
  rw [szK_succ [x, y] 1 (by simp), szK_succ [x, y] 0 (by simp), szK_one, szK_0]
  simp [shr, prevK]
/-- What one entry adds. -/
theorem adds_zero (l : List Tow) (i : Nat) (x : Tow) (hx : l[i]? = some x) (h : i % 16 = 0) : szK l (i + 1) - szK l i = szK [x] 1 - 4 := by
  obtain ⟨hi, rfl⟩ := List.getElem?_eq_some_iff.1 hx
  rw [szK_succ l i hi, szK_one, if_pos h, shr, if_pos h]
  omega
theorem adds_more (l : List Tow) (p : Nat) (x y : Tow) (hx : l[p]? = some x) (hy : l[p + 1]? = some y) (h : (p + 1) % 16 ≠ 0) : szK l (p + 1 + 1) - szK l (p + 1) = szK [x, y] 2 - szK [x] 1 := by
  obtain ⟨hi, rfl⟩ := List.getElem?_eq_some_iff.1 hy
  rw [szK_succ l (p + 1) hi, szK_two, if_neg h, shr, if_neg h]
  simp only [prevK, hx, Option.map_some, Option.getD_some]
  omega
theorem szK_mono (l : List Tow) (k : Nat) (h : k < l.length) : szK l k ≤ szK l (k + 1) := by
  rw [szK_succ l k h]
  omega
theorem Ents.part {w : World} {b off : Nat} {l : List Tow} (h : Ents w (some ⟨b, off, none⟩) l) (i m : Nat) : Ents w (some ⟨b, off + i * 4, none⟩) ((l.drop i).take m) := fun k x hx => by
  have hk : k < m := by
    have := (List.getElem?_eq_some_iff.1 hx).1
    rw [List.length_take] at this
    omega
  rw [List.getElem?_take_of_lt hk, List.getElem?_drop] at hx
  obtain ⟨⟨b', off', e, hc⟩, h2⟩ := h (i + k) x hx
  cases e
  refine ⟨⟨b, off + i * 4, rfl, fun j u hu => ?_⟩, h2⟩
  rw [show off + i * 4 + k * 4 + j = off + (i + k) * 4 + j by omega]
  exact hc j u hu
theorem Good.sub {l l' : List Tow} (h : Good l) (hs : ∀ x, x ∈ l' → x ∈ l) : Good l' := fun x hx => h x (hs x hx)
theorem wt_mem {l : List Tow} {x : Tow} (hx : x ∈ l) : x.e.key.length + x.e.val.length ≤ wt (ents l) := by
  induction l with
  | nil => cases hx
  | cons y r ih =>
    have e : wt (ents (y :: r)) = (y.e.key.length + y.e.val.length) + wt (ents r) := by simp [wt, ents]
    rcases List.mem_cons.1 hx with rfl | h
    · omega
    · have := ih h; omega
theorem added_any (a : Option Addr) (n c : Nat) (l : List Tow) (i : Nat) (w : World) (h : Ents w a l) (hn : n = l.length) (hnc : n ≤ c) (hmx : n ≤ 1000) (hw : wt (ents l) ≤ 400000) (hf : Good l) (hi : i < n) :
    Calls Tryz.prog 181 #[.slice a n c, .int .i64 (i : Nat)] w fun e w' => e = .returned (.int .i64 ((szK l (i + 1) - szK l i : Nat) : Int)) ∧ Below w.heap.size w w' := by
  obtain ⟨x, hx⟩ : ∃ x, l[i]? = some x := ⟨_, List.getElem?_eq_getElem (by omega)⟩
  obtain ⟨⟨b, off, rfl, _⟩, _⟩ := h i x hx
  have hxm := List.mem_of_getElem? hx
  have hwx := wt_mem hxm
  by_cases h16 : i % 16 = 0
  · have HD := hide (adds_zero l i x hx h16)
    have e1 : (l.drop i).take 1 = [x] := by rw [List.drop_eq_getElem_cons (by omega), List.take_succ_cons, List.take_zero, (List.getElem?_eq_some_iff.1 hx).2]
    have S1 := hide (fun (u : World) (t : Turns (fun _ => False) w u) => size_all (some ⟨b, off + i * 4, none⟩) 1 (c - i) [x] u (by rw [← e1]; exact (h.part i 1).quiet t) rfl (by omega) (by simp [ents, wt]; omega) (hf.sub fun y hy => by rw [List.mem_singleton.1 hy]; exact hxm))
    have S0 := hide (fun (u : World) => size_all none 0 0 [] u (fun k y hy => by simp at hy) rfl (by omega) (by simp [ents, wt]) (fun y hy => by cases hy))
    have z1 : (blkB (ents [x])).length = szK [x] 1 := blk_full [x]
    have z0 : (blkB (ents ([] : List Tow))).length = 4 := rfl
    rw [HD.out]
    rw [z1] at S1
    rw [z0] at S0
    have hb1 := szK_one x
    have hb2 := szK_le [x] (hf.sub fun y hy => by rw [List.mem_singleton.1 hy]; exact hxm) 1
    have hb3 : wt (ents [x]) ≤ 400000 := by simp [ents, wt]; omega
    have hlo : 4 ≤ szK [x] 1 := by omega
    have hhi : szK [x] 1 ≤ 1000000 := by simp only [List.length_singleton] at hb2; omega
    generalize szK [x] 1 = Z at *
    obtain ⟨D, rfl⟩ : ∃ D, Z = D + 4 := ⟨Z - 4, by omega⟩
    rw [show D + 4 - 4 = D by omega]
    have i16 : ((i : Int) % 16 == 0) = true := by simp; omega
    have i1 : (0 : Int) ≤ (i : Int) := by omega
    have i2 : (i : Int) < n := by omega
    clear HD h e1 z1 z0 hb1 hb2 hb3 hwx hxm hx hf
    go_enter Tryz.func181, Tryz.ntmps181
    go_wp2_with fail
    refine (S1.out _ (Turns.refl _ _)).mono ?_
    rintro e w1 ⟨rfl, b1⟩
    have B1 := hide b1
    clear b1 S1
    go_wp2_with fail
    refine (S0.out _).mono ?_
    rintro e w2 ⟨rfl, b2⟩
    have B2 := hide (B1.out.trans (b2.mono B1.out.size))
    clear b2 S0 B1
    go_wp2_with fail
    go_ret
    exact ⟨by go_num, B2.out⟩
  · obtain ⟨p, rfl⟩ : ∃ p, i = p + 1 := ⟨i - 1, by omega⟩
    obtain ⟨y, hy⟩ : ∃ y, l[p]? = some y := ⟨_, List.getElem?_eq_getElem (by omega)⟩
    have hym := List.mem_of_getElem? hy
    have hwy := wt_mem hym
    have HD := hide (adds_more l p y x hy hx h16)
    have e1 : (l.drop p).take 1 = [y] := by rw [List.drop_eq_getElem_cons (by omega), List.take_succ_cons, List.take_zero, (List.getElem?_eq_some_iff.1 hy).2]
    have e2 : (l.drop p).take 2 = [y, x] := by rw [List.drop_eq_getElem_cons (by omega), List.take_succ_cons, List.drop_eq_getElem_cons (by omega), List.take_succ_cons, List.take_zero, (List.getElem?_eq_some_iff.1 hy).2, (List.getElem?_eq_some_iff.1 hx).2]
    have hg1 : Good [y] := hf.sub fun z hz => by rw [List.mem_singleton.1 hz]; exact hym
    have hg2 : Good [y, x] := hf.sub fun z hz => by
      rcases List.mem_cons.1 hz with rfl | hz
      · exact hym
      · rw [List.mem_singleton.1 hz]; exact hxm
    have hw1 : wt (ents [y]) ≤ 400000 := by simp [ents, wt]; omega
    have hw2 : wt (ents [y, x]) ≤ 800000 := by simp [ents, wt]; omega
    have S1 := hide (fun (u : World) (t : Turns (fun _ => False) w u) => size_all (some ⟨b, off + p * 4, none⟩) 1 (c - p) [y] u (by rw [← e1]; exact (h.part p 1).quiet t) rfl (by omega) (by omega) hg1)
    have S2 := hide (fun (u : World) (t : Turns (fun _ => False) w u) => size_all (some ⟨b, off + p * 4, none⟩) 2 (c - p) [y, x] u (by rw [← e2]; exact (h.part p 2).quiet t) rfl (by omega) (by omega) hg2)
    have z1 : (blkB (ents [y])).length = szK [y] 1 := blk_full [y]
    have z2 : (blkB (ents [y, x])).length = szK [y, x] 2 := blk_full [y, x]
    rw [HD.out]
    rw [z1] at S1
    rw [z2] at S2
    have hb2 := szK_le [y, x] hg2 2
    have hle : szK [y] 1 ≤ szK [y, x] 2 := by rw [szK_two]; omega
    have hhi : szK [y, x] 2 ≤ 1000000 := by simp only [List.length_cons, List.length_nil] at hb2; omega
    generalize szK [y, x] 2 = Z2 at *
    generalize szK [y] 1 = Z1 at *
    obtain ⟨D, rfl⟩ : ∃ D, Z2 = D + Z1 := ⟨Z2 - Z1, by omega⟩
    rw [show D + Z1 - Z1 = D by omega]
    have HZ := hide (show ((D + Z1 : Nat) : Int) - (Z1 : Int) = (D : Int) by omega)
    have i16 : (((p : Int) + 1) % 16 == 0) = false := by simp; omega
    have i1 : (0 : Int) ≤ (p : Int) := by omega
    have i2 : (p : Int) + 1 < n := by omega
    clear HD h e1 e2 z1 z2 hb2 hle hwx hwy hxm hym hx hy hf hg1 hg2 hw1 hw2
    go_enter Tryz.func181, Tryz.ntmps181
    go_upto_region 3 with (fail)
    have tV : Turns (fun _ => False) w w.drew := (Turns.refl _ _).drew
    refine wp_region_held_drew (S := fun _ => True) (by kernel_rfl) trivial (fun _ => ?_)
    change wpAnyH _ _ _ _ _ 15 (Array.replicate 15 false) _ _
    refine wpAnyH_take (i := 0) (oi := { dst := some 16, op := Op.move (Operand.tmp 0), type := 37, pos := "make.go:136", after := #[], guard := none }) (v := .slice (some ⟨b, off, none⟩) n c) rfl (by kernel_rfl) (by kernel_rfl) (by kernel_rfl) (fun _ _ _ h => h) (Or.inl ⟨by rfl, ?_⟩) trivial ?_
    · rintro w -
      go_simp
    simp only [Act.put, List.setIfInBounds_toArray, List.set_cons_zero, List.set_cons_succ]
    refine wpAnyH_take (i := 1) (oi := { dst := some 17, op := Op.move (Operand.tmp 1), type := 3, pos := "make.go:136", after := #[], guard := none }) (v := .int .i64 ((p : Int) + 1)) rfl (by kernel_rfl) (by kernel_rfl) (by kernel_rfl) (fun _ _ _ h => h) (Or.inl ⟨by rfl, ?_⟩) trivial ?_
    · rintro w -
      go_simp
    simp only [Act.put, List.setIfInBounds_toArray, List.set_cons_zero, List.set_cons_succ]
    refine wpAnyH_take (i := 2) (oi := { dst := some 18, op := Op.binOp BinOp.sub 3 (Operand.tmp 17) (Operand.const (Value.int IntKind.i64 1)) 3, type := 3, pos := "make.go:136", after := #[{ on := 1, ground := Ground.data }], guard := none }) (v := .int .i64 (p : Nat)) rfl (by kernel_rfl) (by kernel_rfl) (by kernel_rfl) (fun _ _ _ h => h) (Or.inl ⟨by rfl, ?_⟩) trivial ?_
    · rintro w -
      go_simp; simp [IntKind.wrap, IntKind.bits, IntKind.signed]; omega
    simp only [Act.put, List.setIfInBounds_toArray, List.set_cons_zero, List.set_cons_succ]
    refine wpAnyH_take (i := 3) (oi := { dst := some 19, op := Op.move (Operand.tmp 1), type := 3, pos := "make.go:136", after := #[], guard := none }) (v := .int .i64 ((p : Int) + 1)) rfl (by kernel_rfl) (by kernel_rfl) (by kernel_rfl) (fun _ _ _ h => h) (Or.inl ⟨by rfl, ?_⟩) trivial ?_
    · rintro w -
      go_simp
    simp only [Act.put, List.setIfInBounds_toArray, List.set_cons_zero, List.set_cons_succ]
    refine wpAnyH_take (i := 4) (oi := { dst := some 20, op := Op.binOp BinOp.add 3 (Operand.tmp 19) (Operand.const (Value.int IntKind.i64 1)) 3, type := 3, pos := "make.go:136", after := #[{ on := 3, ground := Ground.data }], guard := none }) (v := .int .i64 ((p : Int) + 1 + 1)) rfl (by kernel_rfl) (by kernel_rfl) (by kernel_rfl) (fun _ _ _ h => h) (Or.inl ⟨by rfl, ?_⟩) trivial ?_
    · rintro w -
      go_simp; simp [IntKind.wrap, IntKind.bits, IntKind.signed]; omega
    simp only [Act.put, List.setIfInBounds_toArray, List.set_cons_zero, List.set_cons_succ]
    refine wpAnyH_take (i := 5) (oi := { dst := some 21, op := Op.slice 37 (Operand.tmp 16) (some (Operand.tmp 18)) (some (Operand.tmp 20)) none, type := 37, pos := "make.go:136", after := #[{ on := 0, ground := Ground.data }, { on := 2, ground := Ground.data }, { on := 4, ground := Ground.data }], guard := none }) (v := .slice (some ⟨b, off + p * 4, none⟩) 2 (c - p)) rfl (by kernel_rfl) (by kernel_rfl) (by kernel_rfl) (fun _ _ _ h => h) (Or.inl ⟨by rfl, ?_⟩) trivial ?_
    · rintro w -
      go_simp; rw [if_pos ⟨by omega, by omega⟩, if_pos (by omega), if_neg (by omega), show ((p : Int) + 1 + 1).toNat - p = 2 by omega]
    simp only [Act.put, List.setIfInBounds_toArray, List.set_cons_zero, List.set_cons_succ]
    refine wpAnyH_take (i := 7) (oi := { dst := some 23, op := Op.move (Operand.tmp 0), type := 37, pos := "make.go:136", after := #[], guard := none }) (v := .slice (some ⟨b, off, none⟩) n c) rfl (by kernel_rfl) (by kernel_rfl) (by kernel_rfl) (fun _ _ _ h => h) (Or.inl ⟨by rfl, ?_⟩) trivial ?_
    · rintro w -
      go_simp
    simp only [Act.put, List.setIfInBounds_toArray, List.set_cons_zero, List.set_cons_succ]
    refine wpAnyH_take (i := 8) (oi := { dst := some 24, op := Op.move (Operand.tmp 1), type := 3, pos := "make.go:136", after := #[], guard := none }) (v := .int .i64 ((p : Int) + 1)) rfl (by kernel_rfl) (by kernel_rfl) (by kernel_rfl) (fun _ _ _ h => h) (Or.inl ⟨by rfl, ?_⟩) trivial ?_
    · rintro w -
      go_simp
    simp only [Act.put, List.setIfInBounds_toArray, List.set_cons_zero, List.set_cons_succ]
    refine wpAnyH_take (i := 9) (oi := { dst := some 25, op := Op.binOp BinOp.sub 3 (Operand.tmp 24) (Operand.const (Value.int IntKind.i64 1)) 3, type := 3, pos := "make.go:136", after := #[{ on := 8, ground := Ground.data }], guard := none }) (v := .int .i64 (p : Nat)) rfl (by kernel_rfl) (by kernel_rfl) (by kernel_rfl) (fun _ _ _ h => h) (Or.inl ⟨by rfl, ?_⟩) trivial ?_
    · rintro w -
      go_simp; simp [IntKind.wrap, IntKind.bits, IntKind.signed]; omega
    simp only [Act.put, List.setIfInBounds_toArray, List.set_cons_zero, List.set_cons_succ]
    refine wpAnyH_take (i := 10) (oi := { dst := some 26, op := Op.move (Operand.tmp 1), type := 3, pos := "make.go:136", after := #[], guard := none }) (v := .int .i64 ((p : Int) + 1)) rfl (by kernel_rfl) (by kernel_rfl) (by kernel_rfl) (fun _ _ _ h => h) (Or.inl ⟨by rfl, ?_⟩) trivial ?_
    · rintro w -
      go_simp
    simp only [Act.put, List.setIfInBounds_toArray, List.set_cons_zero, List.set_cons_succ]
    refine wpAnyH_take (i := 11) (oi := { dst := some 27, op := Op.slice 37 (Operand.tmp 23) (some (Operand.tmp 25)) (some (Operand.tmp 26)) none, type := 37, pos := "make.go:136", after := #[{ on := 7, ground := Ground.data }, { on := 9, ground := Ground.data }, { on := 10, ground := Ground.data }], guard := none }) (v := .slice (some ⟨b, off + p * 4, none⟩) 1 (c - p)) rfl (by kernel_rfl) (by kernel_rfl) (by kernel_rfl) (fun _ _ _ h => h) (Or.inl ⟨by rfl, ?_⟩) trivial ?_
    · rintro w -
      go_simp; rw [if_pos ⟨by omega, by omega⟩, if_neg (by omega)]
    simp only [Act.put, List.setIfInBounds_toArray, List.set_cons_zero, List.set_cons_succ]
    refine wpAnyH_ready (rs := [6]) (by kernel_rfl) (by simp) ?_
    refine AllReadyH.cons rfl (fun K hK => ?_) AllReadyH.nil
    go_simp
    refine (S2.out _ tV).mono ?_
    rintro oo Vn ⟨rfl, b2⟩
    have tN := Turns.of_below b2 (fun _ => False)
    have tV := tV.trans tN
    clear b2 S2
    clear tN
    go_simp
    refine hK.out _ _ trivial (fun _ => ?_)
    clear hK K
    refine wpAnyH_ready (rs := [12]) (by kernel_rfl) (by simp) ?_
    refine AllReadyH.cons rfl (fun K hK => ?_) AllReadyH.nil
    go_simp
    refine (S1.out _ tV).mono ?_
    rintro oo Vn ⟨rfl, b2⟩
    have tN := Turns.of_below b2 (fun _ => False)
    have tV := tV.trans tN
    clear b2 S1
    clear tN
    go_simp
    refine hK.out _ _ trivial (fun _ => ?_)
    clear hK K
    refine wpAnyH_take (i := 13) (oi := { dst := some 29, op := Op.binOp BinOp.sub 3 (Operand.tmp 22) (Operand.tmp 28) 3, type := 3, pos := "make.go:136", after := #[{ on := 6, ground := Ground.data }, { on := 12, ground := Ground.data }], guard := none }) (v := .int .i64 ((D : Nat) : Int)) rfl (by kernel_rfl) (by kernel_rfl) (by kernel_rfl) (fun _ _ _ h => h) (Or.inl ⟨by rfl, ?_⟩) trivial ?_
    · rintro w -
      have hz := HZ.out; go_simp; (try simp [IntKind.wrap, IntKind.bits, IntKind.signed]); omega
    simp only [Act.put, List.setIfInBounds_toArray, List.set_cons_zero, List.set_cons_succ]
    refine wpAnyH_take (i := 14) (oi := { dst := some 4, op := Op.assign (Operand.tmp 29), type := 3, pos := "make.go:136", after := #[{ on := 13, ground := Ground.data }, { on := 12, ground := Ground.chain }, { on := 0, ground := Ground.phase }, { on := 1, ground := Ground.phase }, { on := 2, ground := Ground.phase }, { on := 3, ground := Ground.phase }, { on := 4, ground := Ground.phase }, { on := 5, ground := Ground.phase }, { on := 6, ground := Ground.phase }, { on := 7, ground := Ground.phase }, { on := 8, ground := Ground.phase }, { on := 9, ground := Ground.phase }, { on := 10, ground := Ground.phase }, { on := 11, ground := Ground.phase }, { on := 12, ground := Ground.phase }, { on := 13, ground := Ground.phase }], guard := none }) (v := .int .i64 ((D : Nat) : Int)) rfl (by kernel_rfl) (by kernel_rfl) (by kernel_rfl) (fun _ _ _ h => h) (Or.inl ⟨by rfl, ?_⟩) trivial ?_
    · rintro w -
      go_simp
    simp only [Act.put, List.setIfInBounds_toArray, List.set_cons_zero, List.set_cons_succ]
    refine wpAnyH_done (by kernel_rfl) ?_ _
    have TV := hide tV
    clear tV
    go_wp2_with fail
    go_ret
    exact ⟨rfl, TV.out.below (Nat.le_refl _) (fun _ x => x.elim)⟩
/-- How many entries of a row the first block takes. -/
def FirstN (l : List Tow) (F : Int) (m : Nat) : Prop := 1 ≤ m ∧ m ≤ l.length ∧ (∀ j, 1 ≤ j → j < m → ((szK l j : Nat) : Int) < F) ∧ (m = l.length ∨ F ≤ ((szK l m : Nat) : Int))
theorem firstBlock_any (a : Option Addr) (n c : Nat) (l : List Tow) (F : Int) (w : World) (h : Ents w a l) (hn : n = l.length) (hnc : n ≤ c) (hmx : n ≤ 1000) (hn1 : 1 ≤ n) (hw : wt (ents l) ≤ 400000) (hf : Good l) :
    Calls Tryz.prog 148 #[.slice a n c, .int .i64 F] w fun e w' => ∃ m, e = .returned (.int .i64 (m : Nat)) ∧ FirstN l F m ∧ Below w.heap.size w w' := by
  have HE := hide h
  have HN := hide hn
  have HF := hide hf
  have S0 := hide (fun (u : World) => size_all none 0 0 [] u (fun k y hy => by simp at hy) rfl (by omega) (by simp [ents, wt]) (fun y hy => by cases hy))
  have z0 : (blkB (ents ([] : List Tow))).length = 4 := rfl
  rw [z0] at S0
  have HSZ := hide (fun k => szK_le l hf k)
  clear h hn hf z0
  go_enter Tryz.func148, Tryz.ntmps148
  go_wp2_with fail
  refine (S0.out _).mono ?_
  rintro e w1 ⟨rfl, b1⟩
  have B1 := hide b1
  clear b1 S0
  go_wp2_with fail
  go_loopw [5, 10] (fun sv iv wr => ∃ k : Nat, sv = .int .i64 (szK l k : Nat) ∧ iv = .int .i64 (k : Nat) ∧ k ≤ n ∧ (∀ j, 1 ≤ j → j ≤ k → ((szK l j : Nat) : Int) < F) ∧ Below w.heap.size w wr) (fun _ iv _ => n - (intOf iv).toNat)
  case atStart => exact ⟨0, rfl, rfl, Nat.zero_le _, fun j h1 h2 => by omega, B1.out⟩
  case round =>
    obtain ⟨k, rfl, rfl, hk, hlt, hbw⟩ := hrel
    have HLT := hide hlt
    have BW := hide hbw
    have hsz := hbw.size
    clear hlt hbw B1
    by_cases hk2 : k < n
    · have i1 : (k : Int) < n := by omega
      have AD := hide (added_any a n c l k wr (HE.out.quiet (Turns.of_below BW.out (fun _ => False))) HN.out hnc hmx hw HF.out hk2)
      have hm1 := szK_mono l k (by have := HN.out; omega)
      have hm2 := HSZ.out (k + 1)
      have hm3 : szK l (k + 1) ≤ 1000000 := by have := HN.out; omega
      have hsum : szK l k + (szK l (k + 1) - szK l k) = szK l (k + 1) := by omega
      have HS := hide hsum
      clear hsum hm2
      generalize szK l (k + 1) - szK l k = D at *
      have hD : ((szK l k : Nat) : Int) + (D : Int) = ((szK l (k + 1) : Nat) : Int) := by have := HS.out; omega
      have HD := hide hD
      have hDb : (D : Int) ≤ 1000000 := by have := HS.out; omega
      have hkb : szK l k ≤ 1000000 := by omega
      clear hD
      by_cases hge : F ≤ ((szK l (k + 1) : Nat) : Int)
      · have hge' : F ≤ ((szK l k : Nat) : Int) + (D : Int) := by rw [HD.out]; exact hge
        generalize szK l k = Z at *
        go_wp2_with fail
        refine AD.out.mono ?_
        rintro e w2 ⟨rfl, b2⟩
        have B2 := hide (BW.out.trans (b2.mono hsz))
        clear b2 AD
        go_wp2_with fail
        go_ret
        exact ⟨k + 1, by go_num, ⟨by omega, by have := HN.out; omega, fun j h1 h2 => HLT.out j h1 (by omega), .inr hge⟩, B2.out⟩
      · have hge' : ¬ F ≤ ((szK l k : Nat) : Int) + (D : Int) := by rw [HD.out]; exact hge
        generalize hZ : szK l k = Z at *
        have HZ := hide hZ
        clear hZ
        go_wp2_with fail
        refine AD.out.mono ?_
        rintro e w2 ⟨rfl, b2⟩
        have B2 := hide (BW.out.trans (b2.mono hsz))
        clear b2 AD
        go_wp2_with fail
        go_roundw
        case rel => exact ⟨k + 1, by rw [← HD.out], by go_num, by omega, fun j h1 h2 => by
          by_cases hj : j ≤ k
          · exact HLT.out j h1 hj
          · obtain rfl : j = k + 1 := by omega
            omega, B2.out⟩
        case measure => simp [intOf]; omega
    · have i1 : ¬ (k : Int) < n := by omega
      go_wp2_with fail
      go_ret
      exact ⟨n, by go_num, ⟨hn1, by have := HN.out; omega, fun j h1 h2 => HLT.out j h1 (by omega), .inl HN.out⟩, BW.out⟩
end Go.Proofs.YtjklbhdhjfifhaaGreat

/-
  A number in order, read; a table's end.
-/
namespace Go.Proofs.YtjklbhdhjfifhaaGreat
open Go.RowKit
set_option maxRecDepth 100000
set_option maxHeartbeats 4000000
/-- The number that bytes in order tell. -/
def ordN (l : List (BitVec 8)) : Nat := l.foldl (fun a b => a * 256 + b.toNat) 0
theorem ordN_snoc (l : List (BitVec 8)) (b : BitVec 8) : ordN (l ++ [b]) = ordN l * 256 + b.toNat := by simp [ordN]
theorem ordN_take_lt (l : List (BitVec 8)) : ∀ k, ordN (l.take k) < 256 ^ k
  | 0 => by simp [ordN]
  | k + 1 => by
    have ih := ordN_take_lt l k
    rw [List.take_add_one]
    cases h : l[k]? with
    | none =>
      rw [Option.toList_none, List.append_nil, Nat.pow_succ]
      omega
    | some b =>
      rw [Option.toList_some, ordN_snoc, Nat.pow_succ]
      have := b.isLt
      omega
theorem or_shift (y : Nat) (b : BitVec 8) (h : y < 72057594037927936) : bits .or .u64 ((y : Int) * 256) (b.toNat : Int) = ((y * 256 + b.toNat : Nat) : Int) := by
  have hb := b.isLt
  have e : ((BitVec.ofInt 64 ((y : Int) * 256) ||| BitVec.ofInt 64 (b.toNat : Int)).toNat : Int) = ((y * 256 + b.toNat : Nat) : Int) := by
    rw [BitVec.toNat_or, BitVec.toNat_ofInt, BitVec.toNat_ofInt]
    have e1 : (((y : Int) * 256) % ((2 ^ 64 : Nat) : Int)).toNat = y * 2 ^ 8 := by omega
    have e2 : ((b.toNat : Int) % ((2 ^ 64 : Nat) : Int)).toNat = b.toNat := by omega
    rw [e1, e2, ← Nat.shiftLeft_eq, ← Nat.shiftLeft_add_eq_or_of_lt (by omega : b.toNat < 2 ^ 8), Nat.shiftLeft_eq]
  show IntKind.u64.wrap ((BitVec.ofInt 64 ((y : Int) * 256) ||| BitVec.ofInt 64 (b.toNat : Int)).toNat : Int) = _
  rw [e, wrapU _ (by omega) (by omega)]
theorem ordN_ordB (x : Nat) (h : x < 18446744073709551616) : ordN (ordB x) = x := by
  simp only [ordN, ordB, List.foldl_cons, List.foldl_nil, BitVec.toNat_ofNat]
  omega
theorem readOrdered_ok (a : Option Addr) (n c : Nat) (bs : List (BitVec 8)) (w : World) (h : Bytes w (.slice a n c) bs) (h8 : 8 ≤ n) (hnc : n ≤ c) (hn : n ≤ 1000000) :
    Calls Tryz.prog 94 #[.slice a n c] w fun e w' => e = .returned (.tuple #[.int .u64 (ordN (bs.take 8) : Nat), .int .i64 8, .int .i64 0]) ∧ ∃ m, w' = w.drewN m := by
  obtain ⟨b, off, rfl⟩ := h.addr (by omega)
  have hl := h.len
  have HL := hide hl
  have HB := hide h
  clear h hl
  go_enter Tryz.func94, Tryz.ntmps94
  go_wp2_with fail
  go_loopw [2, 13] (fun xv iv wr => ∃ k : Nat, xv = .int .u64 (ordN (bs.take k) : Nat) ∧ iv = .int .i64 (k : Nat) ∧ k ≤ 8 ∧ wr = w) (fun _ iv _ => 8 - (intOf iv).toNat)
  case atStart => exact ⟨0, rfl, rfl, by omega, rfl⟩
  case round =>
    obtain ⟨k, rfl, rfl, hk, rfl⟩ := hrel
    by_cases hk8 : k < 8
    · have i1 : (k : Int) < 8 := by omega
      have i0 : (0 : Int) ≤ (k : Int) := by omega
      have hc := HB.out.at k (by have := HL.out; omega)
      have hsn : ordN (bs.take (k + 1)) = ordN (bs.take k) * 256 + (bs.getD k 0).toNat := by
        have hkl : k < bs.length := by have := HL.out; omega
        rw [List.take_succ_eq_append_getElem hkl, ordN_snoc]
        simp [List.getD, hkl]
      have hlt : ordN (bs.take k) < 72057594037927936 := by
        have h1 := ordN_take_lt bs k
        have h2 : 256 ^ k ≤ 256 ^ 7 := Nat.pow_le_pow_right (by decide) (by omega)
        have h3 : (256 : Nat) ^ 7 = 72057594037927936 := by decide
        omega
      have HS := hide hsn
      generalize bs.getD k 0 = cb at *
      have HO := hide (or_shift (ordN (bs.take k)) cb hlt)
      generalize ordN (bs.take k) = y at *
      have hob := HO.out
      have hcb := cb.isLt
      clear hsn
      go_wp2_with fail
      go_roundw
      case rel => exact ⟨k + 1, by rw [HS.out]; go_num, by go_num, by omega, trivial⟩
      case measure => simp [intOf]; omega
    · have i1 : ¬ (k : Int) < 8 := by omega
      obtain rfl : k = 8 := by omega
      generalize hY : ordN (bs.take 8) = y at *
      have HY := hide hY
      clear hY
      go_wp2_with fail
      go_returns
      exact ⟨by rw [HY.out]; rfl, 0, rfl⟩
end Go.Proofs.YtjklbhdhjfifhaaGreat
