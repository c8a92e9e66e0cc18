import Derived.Test.YtmmcikbedegigaaGreatM15
import Derived.Test.YtmmcikbedegigaaGreatM14
import Derived.Test.YtmmcikbedegigaaGreatM13
/-
  editOf, of the options that Parse makes.
-/
namespace Go.Proofs.YtmmcikbedegigaaGreat
open Go.RowKit
set_option maxRecDepth 100000
set_option maxHeartbeats 4000000
/-- How far the edit has come. -/
structure Ep (w wr : World) (E B next seq log k nd : Nat) (D : List (Int × Nat)) (A : List (Int × Tf)) (da : Option Addr) (dn dc : Nat) (sa : Option Addr) (sn sc x y z : Nat) : Prop where
  hE : wr.heap[E]? = some (.cells #[.slice da dn dc, .slice sa sn sc, .int .u64 (x : Nat), .int .u64 (y : Nat), .int .u64 (z : Nat)] 33 (0, 0))
  dlen : dn = (D.take (k - 1)).length
  drow : GRow wr B da dc (D.take (k - 1))
  alen : sn = (A.take (k - 1 - nd)).length
  arow : ARow wr B sa sc (A.take (k - 1 - nd))
  num : 1 ≤ k → x = next ∧ y = seq ∧ z = log
  dnew : ∀ q, da = some ⟨q, 0, none⟩ → w.heap.size ≤ q
  anew : ∀ q, sa = some ⟨q, 0, none⟩ → w.heap.size ≤ q
  turn : Turns (fun j => w.heap.size ≤ j) w wr
theorem po_opt {u : World} {B og oc N1 N2 N3 next seq log : Nat} {ds : List (Nat × Nat)} {D : List (Int × Nat)} {es : List (Nat × Nat)} {A : List (Int × Tf)} (h : PO u B og oc N1 N2 N3 next seq log ds D es A) {k : Nat} {v : Value} (hk : (numOpt N1 N2 N3 :: (ds.map dropOpt ++ es.map addOpt))[k]? = some v) : u.cell? ⟨og, k, none⟩ = some v := by
  obtain ⟨cs, h1, h2, h3⟩ := h.row
  rw [cell_of_row u og k _ 81 (0, 0) h1, h3 k (List.getElem?_eq_some_iff.1 hk).1, hk]
/-- The files of adds, in memory. -/
def FTs (w : World) (B : Nat) (A : List (Int × Tf)) : Prop := ∀ d ∈ A, FT w B d.2
theorem editOf_po (og oc N1 N2 N3 next seq log B : Nat) (ds : List (Nat × Nat)) (D : List (Int × Nat)) (es : List (Nat × Nat)) (A : List (Int × Tf)) (n : Nat) (w : World) (h : PO w B og oc N1 N2 N3 next seq log ds D es A) (hn : n = 1 + ds.length + es.length) (hB : B ≤ w.heap.size) (hc : ds.length + es.length ≤ 100000) :
    Calls Tryz.prog 40 #[.slice (some ⟨og, 0, none⟩) n oc] w fun e w' => ∃ da dn dc sa sn sc, e = .returned (edAgg da dn dc sa sn sc next seq log) ∧ dn = D.length ∧ GRow w' B da dc D ∧ sn = A.length ∧ ARow w' B sa sc A ∧ FTs w' B A ∧ Turns (fun _ => False) w w' := by
  have T0 := hide (((Turns.refl (fun _ => False) w).alloc (.cells #[.slice none 0 0, .slice none 0 0, .int .u64 0, .int .u64 0, .int .u64 0] 33)).alloc (.cells #[.slice none 0 0, .slice none 0 0, .int .u64 0, .int .u64 0, .int .u64 0] 33))
  have R0 := hide (((Turns.refl (fun _ => False) (w.alloc (.cells #[.slice none 0 0, .slice none 0 0, .int .u64 0, .int .u64 0, .int .u64 0] 33))).alloc (.cells #[.slice none 0 0, .slice none 0 0, .int .u64 0, .int .u64 0, .int .u64 0] 33)).heap (heap_alloc_new w _) (fun x => x))
  have R1 := hide (heap_alloc_new (w.alloc (.cells #[.slice none 0 0, .slice none 0 0, .int .u64 0, .int .u64 0, .int .u64 0] 33)) (.cells #[.slice none 0 0, .slice none 0 0, .int .u64 0, .int .u64 0, .int .u64 0] 33))
  simp only [World.size_alloc] at R1
  have HO := hide (h.keep T0.out fun _ x => x.elim)
  have HN := hide hn
  have HB := hide hB
  have HC := hide hc
  have LD := hide h.pc.ld
  have LA := hide h.pc.la
  have hni : (n : Int) ≤ 1000000 := by omega
  clear h hn hB hc
  go_enter Tryz.func40, Tryz.ntmps40
  go_wp2_with fail
  generalize (w.alloc (.cells #[.slice none 0 0, .slice none 0 0, .int .u64 0, .int .u64 0, .int .u64 0] 33)).alloc (.cells #[.slice none 0 0, .slice none 0 0, .int .u64 0, .int .u64 0, .int .u64 0] 33) = w0 at *
  generalize hg : w.heap.size = g at *
  have HG := hide hg
  clear hg
  go_loopw [8] (fun i wr => ∃ (k : Nat) (da : Option Addr) (dn dc : Nat) (sa : Option Addr) (sn sc x y z : Nat), i = .int .i64 (k : Nat) ∧ k ≤ n ∧ Ep w wr (g + 1) B next seq log k ds.length D A da dn dc sa sn sc x y z ∧ PO wr B og oc N1 N2 N3 next seq log ds D es A ∧ wr.heap[g]? = some (.cells #[.slice none 0 0, .slice none 0 0, .int .u64 0, .int .u64 0, .int .u64 0] 33 (0, 0))) (fun i _ => n - (intOf i).toNat)
  case atStart => exact ⟨0, none, 0, 0, none, 0, 0, 0, 0, 0, rfl, Nat.zero_le _, ⟨R1.out, by simp, .inl ⟨rfl, by simp, rfl⟩, by simp, .inl ⟨rfl, by simp, rfl⟩, fun h => (by omega), fun q e => (by cases e), fun q e => (by cases e), T0.out.mono fun _ _ x => x.elim⟩, HO.out, R0.out⟩
  case round =>
    obtain ⟨k, da, dn, dc, sa, sn, sc, x, y, z, rfl, hk, he, ho, hr⟩ := hrel
    have HE := hide he
    have HOW := hide ho
    have HR := hide hr
    clear he ho hr
    have HGR := hide (show g ≠ g + 1 ∧ ¬ da = some ⟨g, 0, none⟩ ∧ ¬ sa = some ⟨g, 0, none⟩ from ⟨by omega, fun e => HE.out.drow.ne HR.out (by decide) g e rfl, fun e => HE.out.arow.ne HR.out (by decide) g e rfl⟩)
    have HAL := hide (show ∀ q, (q = g + 1 ∨ da = some ⟨q, 0, none⟩ ∨ sa = some ⟨q, 0, none⟩) → Alien wr q ∧ q ≠ og from fun q e => by
      rcases e with rfl | e | e
      · exact ⟨alien_of HE.out.hE (by decide), HOW.out.ne HE.out.hE (by decide)⟩
      · obtain ⟨cs, h1⟩ := HE.out.drow.ty e
        exact ⟨alien_of h1 (by decide), HOW.out.ne h1 (by decide)⟩
      · obtain ⟨cs, h1⟩ := HE.out.arow.ty e
        exact ⟨alien_of h1 (by decide), HOW.out.ne h1 (by decide)⟩)
    by_cases hkn : k < n
    · have i1 : (k : Int) < n := by omega
      have i0 : (0 : Int) ≤ k := by omega
      by_cases hk0 : k = 0
      · subst hk0
        have hcell : wr.cell? ⟨og, 0, none⟩ = some (.func (.func 63) #[] #[.pointer (some ⟨N1, 0, none⟩), .pointer (some ⟨N2, 0, none⟩), .pointer (some ⟨N3, 0, none⟩)]) := po_opt HOW.out rfl
        have CN := hide (num1_any (g + 1) N1 N2 N3 next seq log _ _ _ _ _ wr HE.out.hE HOW.out.pc.n1 HOW.out.pc.n2 HOW.out.pc.n3)
        go_wp2_with fail
        refine CN.out.mono ?_
        rintro e w1 ⟨rfl, hE1, t1⟩
        have REL := hide (show Ep w w1 (g + 1) B next seq log 1 ds.length D A da dn dc sa sn sc next seq log ∧ PO w1 B og oc N1 N2 N3 next seq log ds D es A ∧ w1.heap[g]? = some (.cells #[.slice none 0 0, .slice none 0 0, .int .u64 0, .int .u64 0, .int .u64 0] 33 (0, 0)) from by
          refine ⟨⟨hE1, HE.out.dlen, HE.out.drow.keep t1 fun q e e2 => ?_, HE.out.alen, HE.out.arow.keep t1 fun q e e2 => ?_, fun _ => ⟨rfl, rfl, rfl⟩, HE.out.dnew, HE.out.anew, HE.out.turn.trans (t1.mono fun j _ e => by have := HG.out; omega)⟩, HOW.out.keep t1 fun q e => HAL.out q (.inl e), t1.heap HR.out (by omega)⟩
          · exact HE.out.drow.ne HE.out.hE (by decide) q e e2
          · exact HE.out.arow.ne HE.out.hE (by decide) q e e2)
        clear hE1 t1 CN hcell
        go_wp2_with fail
        go_roundw
        case rel => exact ⟨1, da, dn, dc, sa, sn, sc, next, seq, log, by go_num, by omega, REL.out.1, REL.out.2.1, REL.out.2.2⟩
        case measure => simp [intOf]; omega
      · obtain ⟨i, rfl⟩ : ∃ i, k = i + 1 := ⟨k - 1, by omega⟩
        obtain ⟨rfl, rfl, rfl⟩ := HE.out.num (by omega)
        by_cases hid : i < ds.length
        · obtain ⟨p, hp⟩ : ∃ p, ds[i]? = some p := ⟨_, List.getElem?_eq_getElem hid⟩
          obtain ⟨d, hd⟩ : ∃ d, D[i]? = some d := ⟨_, List.getElem?_eq_getElem (by have := LD.out; omega)⟩
          have hcell : wr.cell? ⟨og, i + 1, none⟩ = some (.func (.func 67) #[] #[.pointer (some ⟨p.1, 0, none⟩), .pointer (some ⟨p.2, 0, none⟩)]) := po_opt HOW.out (by rw [List.getElem?_cons_succ, List.getElem?_append_left (by simpa using hid), List.getElem?_map, hp]; rfl)
          obtain ⟨hp1, hp2⟩ := HOW.out.pc.dc i p d hp hd
          have HAT := hide (show D.take (i + 1) = D.take i ++ [d] by rw [List.take_add_one, hd]; rfl)
          have HZ := hide (show i + 2 - 1 - ds.length = 0 ∧ i + 1 - 1 - ds.length = 0 by omega)
          have CD := hide (dropopt_any (g + 1) p.1 p.2 B d.1 d.2 da dn dc (D.take i) _ _ _ _ wr HE.out.hE hp1 hp2 HE.out.drow HE.out.dlen (by have := HB.out; have := HE.out.turn.size; have := HG.out; omega) (by rw [List.length_take]; have := HC.out; omega))
          obtain ⟨q1, q2⟩ := p
          simp only at *
          clear hp hd hp1 hp2
          go_wp2_with fail
          refine CD.out.mono ?_
          rintro e w1 ⟨rfl, da', dn', dc', hE1, hn1, hr1, t1, hnew1⟩
          have REL := hide (show Ep w w1 (g + 1) B x y z (i + 2) ds.length D A da' dn' dc' sa sn sc x y z ∧ PO w1 B og oc N1 N2 N3 x y z ds D es A ∧ w1.heap[g]? = some (.cells #[.slice none 0 0, .slice none 0 0, .int .u64 0, .int .u64 0, .int .u64 0] 33 (0, 0)) from by
            have e1 : D.take (i + 2 - 1) = D.take i ++ [d] := HAT.out
            refine ⟨⟨hE1, by rw [e1]; exact hn1, by rw [e1]; exact hr1, ?_, ?_, fun _ => ⟨rfl, rfl, rfl⟩, fun q e => ?_, HE.out.anew, HE.out.turn.trans (t1.mono fun j _ e => ?_)⟩, HOW.out.keep t1 fun q e => HAL.out q (e.imp id .inl), t1.heap HR.out (fun e => e.elim HGR.out.1 HGR.out.2.1)⟩
            · have h1 := HE.out.alen; rw [HZ.out.2] at h1; rw [HZ.out.1]; exact h1
            · have h1 := HE.out.arow
              rw [HZ.out.2] at h1
              rw [HZ.out.1]
              refine h1.keep t1 fun q e e2 => ?_
              rcases e2 with e2 | e2
              · exact h1.ne HE.out.hE (by decide) q e e2
              · obtain ⟨cs, h2⟩ := HE.out.drow.ty e2
                exact h1.ne h2 (by decide) q e rfl
            · rcases hnew1 q e with h1 | h1
              · exact HE.out.dnew q h1
              · exact Nat.le_trans HE.out.turn.size h1
            · rcases e with e | e
              · have := HG.out; omega
              · exact HE.out.dnew j e)
          clear hE1 hn1 hr1 t1 hnew1 CD hcell
          go_wp2_with fail
          go_roundw
          case rel => exact ⟨i + 2, da', dn', dc', sa, sn, sc, x, y, z, by go_num, by omega, REL.out.1, REL.out.2.1, REL.out.2.2⟩
          case measure => simp [intOf]; omega
        · obtain ⟨j, hj⟩ : ∃ j, i = ds.length + j := ⟨i - ds.length, by omega⟩
          have hjl : j < es.length := by have := HN.out; omega
          obtain ⟨p, hp⟩ : ∃ p, es[j]? = some p := ⟨_, List.getElem?_eq_getElem hjl⟩
          obtain ⟨d, hd⟩ : ∃ d, A[j]? = some d := ⟨_, List.getElem?_eq_getElem (by have := LA.out; omega)⟩
          have hcell : wr.cell? ⟨og, i + 1, none⟩ = some (.func (.func 68) #[] #[.pointer (some ⟨p.1, 0, none⟩), .pointer (some ⟨p.2, 0, none⟩)]) := po_opt HOW.out (by rw [List.getElem?_cons_succ, List.getElem?_append_right (by simp; omega), List.length_map, hj, Nat.add_sub_cancel_left, List.getElem?_map, hp]; rfl)
          obtain ⟨xa, xc, hp1, hp2, hrow⟩ := HOW.out.pc.ac j p d hp hd
          have HAT := hide (show A.take (j + 1) = A.take j ++ [d] by rw [List.take_add_one, hd]; rfl)
          have HZ := hide (show i + 2 - 1 - ds.length = j + 1 ∧ i + 1 - 1 - ds.length = j by omega)
          have HDT := hide (show D.take (i + 2 - 1) = D ∧ D.take (i + 1 - 1) = D from ⟨List.take_of_length_le (by have := LD.out; omega), List.take_of_length_le (by have := LD.out; omega)⟩)
          have har := HE.out.arow
          have hal := HE.out.alen
          rw [HZ.out.2] at har hal
          have CA := hide (ad1_any (g + 1) p.1 p.2 B d.1 xa 1 xc [d.2] sa sn sc (A.take j) _ _ _ _ wr HE.out.hE hp1 hp2 hrow rfl har hal (by have := HB.out; have := HE.out.turn.size; have := HG.out; omega) (by rw [List.length_take]; have := HC.out; omega))
          have HAR := hide har
          obtain ⟨q1, q2⟩ := p
          simp only at *
          clear hp hd hp1 hp2 hrow har hal hj
          go_wp2_with fail
          refine CA.out.mono ?_
          rintro e w1 ⟨rfl, sa', sn', sc', hop⟩
          have REL := hide (show Ep w w1 (g + 1) B x y z (i + 2) ds.length D A da dn dc sa' sn' sc' x y z ∧ PO w1 B og oc N1 N2 N3 x y z ds D es A ∧ w1.heap[g]? = some (.cells #[.slice none 0 0, .slice none 0 0, .int .u64 0, .int .u64 0, .int .u64 0] 33 (0, 0)) from by
            have e1 : A.take (i + 2 - 1 - ds.length) = A.take j ++ [d] := by rw [HZ.out.1]; exact HAT.out
            refine ⟨⟨hop.hE, ?_, ?_, by rw [e1]; exact hop.len, by rw [e1]; exact hop.row, fun _ => ⟨rfl, rfl, rfl⟩, HE.out.dnew, fun q e => ?_, HE.out.turn.trans (hop.turn.mono fun j _ e => ?_)⟩, HOW.out.keep hop.turn fun q e => HAL.out q (e.imp id .inr), hop.turn.heap HR.out (fun e => e.elim HGR.out.1 HGR.out.2.2)⟩
            · have h1 := HE.out.dlen; rw [HDT.out.2] at h1; rw [HDT.out.1]; exact h1
            · have h1 := HE.out.drow
              rw [HDT.out.2] at h1
              rw [HDT.out.1]
              refine h1.keep hop.turn fun q e e2 => ?_
              rcases e2 with e2 | e2
              · exact h1.ne HE.out.hE (by decide) q e e2
              · obtain ⟨cs, h2⟩ := HAR.out.ty e2
                exact h1.ne h2 (by decide) q e rfl
            · rcases hop.new q e with h1 | h1
              · exact HE.out.anew q h1
              · exact Nat.le_trans HE.out.turn.size h1
            · rcases e with e | e
              · have := HG.out; omega
              · exact HE.out.anew j e)
          clear hop CA hcell
          go_wp2_with fail
          go_roundw
          case rel => exact ⟨i + 2, da, dn, dc, sa', sn', sc', x, y, z, by go_num, by omega, REL.out.1, REL.out.2.1, REL.out.2.2⟩
          case measure => simp [intOf]; omega
    · have hkk : k = n := by omega
      have htd : D.take (k - 1) = D := List.take_of_length_le (by have := LD.out; have := HN.out; omega)
      have hta : A.take (k - 1 - ds.length) = A := List.take_of_length_le (by have := LA.out; have := HN.out; omega)
      obtain ⟨rfl, rfl, rfl⟩ := HE.out.num (by have := HN.out; omega)
      have DLEN := hide (show dn = D.length by have h1 := HE.out.dlen; rw [htd] at h1; exact h1)
      have DROW := hide (show GRow wr B da dc D by have h1 := HE.out.drow; rw [htd] at h1; exact h1)
      have ALEN := hide (show sn = A.length by have h1 := HE.out.alen; rw [hta] at h1; exact h1)
      have AROW := hide (show ARow wr B sa sc A by have h1 := HE.out.arow; rw [hta] at h1; exact h1)
      have FTS := hide (show FTs wr B A from HOW.out.pc.ft)
      have hge : ¬ (k : Int) < n := by omega
      have c0 := cell_of_row wr (g + 1) 0 _ 33 (0, 0) HE.out.hE
      have c1 := cell_of_row wr (g + 1) 1 _ 33 (0, 0) HE.out.hE
      have c2 := cell_of_row wr (g + 1) 2 _ 33 (0, 0) HE.out.hE
      have c3 := cell_of_row wr (g + 1) 3 _ 33 (0, 0) HE.out.hE
      have c4 := cell_of_row wr (g + 1) 4 _ 33 (0, 0) HE.out.hE
      have d0 := cell_of_row wr g 0 _ 33 (0, 0) HR.out
      have d1 := cell_of_row wr g 1 _ 33 (0, 0) HR.out
      have d2 := cell_of_row wr g 2 _ 33 (0, 0) HR.out
      have d3 := cell_of_row wr g 3 _ 33 (0, 0) HR.out
      have d4 := cell_of_row wr g 4 _ 33 (0, 0) HR.out
      have z0 := frozen_of_row wr g 0 _ 33 HR.out
      have z1 := frozen_of_row wr g 1 _ 33 HR.out
      have z2 := frozen_of_row wr g 2 _ 33 HR.out
      have z3 := frozen_of_row wr g 3 _ 33 HR.out
      have z4 := frozen_of_row wr g 4 _ 33 HR.out
      have TK := hide (((((Tick.refl HR.out).set 0 (.slice da dn dc)).set 1 (.slice sa sn sc)).set 2 (.int .u64 (x : Nat))).set 3 (.int .u64 (y : Nat)) |>.set 4 (.int .u64 (z : Nat)))
      clear htd hta hkk
      go_wp2_with fail
      refine bodyPost_ret (v := .agg #[.slice da dn dc, .slice sa sn sc, .int .u64 (x : Nat), .int .u64 (y : Nat), .int .u64 (z : Nat)]) ?_ rfl ?_
      · exact results_cell_row Tryz.results40 _ _ _ _ _ _ _ rfl TK.out.1 Tryz.underlying33 rfl sz33w
      · have u := Turns.of_tick TK.out
        refine ⟨da, dn, dc, sa, sn, sc, rfl, DLEN.out, DROW.out.keep u fun q e e2 => ?_, ALEN.out, AROW.out.keep u fun q e e2 => ?_, fun d hd => (FTS.out d hd).keep u fun q e _ cs z hz => ?_, ?_⟩
        · exact HE.out.drow.ne HR.out (by decide) q e e2
        · exact HE.out.arow.ne HR.out (by decide) q e e2
        · subst e
          rw [HR.out] at hz
          cases hz
        · have h1 : Turns (fun _ => False) w wr := HE.out.turn.mono fun j hj e => by omega
          exact h1.andThen u fun j hj e => by have := HG.out; omega
end Go.Proofs.YtmmcikbedegigaaGreat

/-
  Which drops and adds have bytes; the numbers of an add; pieces behind bytes.
-/
namespace Go.Proofs.YtmmcikbedegigaaGreat
open Go.RowKit
set_option maxRecDepth 100000
set_option maxHeartbeats 4000000
def wrongD (d : Int × Nat) : Bool := decide (d.1 < 0)
def wrongA (d : AddF) : Bool := decide (d.1 < 0) || decide (d.2.size < 0) || decide (d.2.ents < 0) || decide (1048576 < d.2.least.length) || decide (1048576 < d.2.most.length)
theorem isWrongDrop_any (l : Int) (n : Nat) (w : World) : Calls Tryz.prog 24 #[.agg #[.int .i64 l, .int .u64 (n : Nat)]] w fun e w' => e = .returned (.bool (wrongD (l, n))) ∧ Turns (fun _ => False) w w' := by
  have TA := hide ((Turns.refl (fun _ => False) w).alloc (.cells #[.int .i64 l, .int .u64 (n : Nat)] 52))
  go_enter Tryz.func24, Tryz.ntmps24
  go_wp2_with fail
  go_ret
  exact ⟨rfl, TA.out⟩
theorem isWrongAdd_any (l : Int) (x : Tf) (w : World) : Calls Tryz.prog 26 #[addAgg l x] w fun e w' => e = .returned (.bool (wrongA (l, x.f))) ∧ Turns (fun _ => False) w w' := by
  obtain ⟨la, lc, ma, mc, ⟨no, sz, ls, ms, en, sq⟩⟩ := x
  have TA := hide ((Turns.refl (fun _ => False) w).alloc (.cells #[.int .i64 l, .int .u64 (no : Nat), .int .i64 sz, .slice la ls.length lc, .slice ma ms.length mc, .int .i64 en, .int .u64 (sq : Nat)] 56))
  unfold addAgg
  simp only
  by_cases h0 : l < 0
  · go_enter Tryz.func26, Tryz.ntmps26
    go_wp2_with fail
    go_ret
    exact ⟨congrArg Ending.returned (congrArg Value.bool (by simp [wrongA, h0])), TA.out⟩
  by_cases h1 : sz < 0
  · go_enter Tryz.func26, Tryz.ntmps26
    go_wp2_with fail
    go_ret
    exact ⟨congrArg Ending.returned (congrArg Value.bool (by simp [wrongA, h1])), TA.out⟩
  by_cases h2 : en < 0
  · go_enter Tryz.func26, Tryz.ntmps26
    go_wp2_with fail
    go_ret
    exact ⟨congrArg Ending.returned (congrArg Value.bool (by simp [wrongA, h2])), TA.out⟩
  generalize hL1 : ls.length = L1 at *
  generalize hL2 : ms.length = L2 at *
  have E1 := hide hL1
  have E2 := hide hL2
  clear hL1 hL2
  by_cases h3 : 1048576 < L1
  · have i3 : (1048576 : Int) < L1 := by omega
    have H3 := hide h3
    clear h3
    go_enter Tryz.func26, Tryz.ntmps26
    go_wp2_with fail
    go_ret
    exact ⟨congrArg Ending.returned (congrArg Value.bool (by have e := E1.out; have := H3.out; simp [wrongA]; omega)), TA.out⟩
  have i3 : ¬ (1048576 : Int) < L1 := by omega
  have H3 := hide h3
  clear h3
  go_enter Tryz.func26, Tryz.ntmps26
  go_wp2_with fail
  go_ret
  refine ⟨congrArg Ending.returned (congrArg Value.bool (Bool.eq_iff_iff.2 ?_)), TA.out⟩
  have e1 := E1.out
  have e2 := E2.out
  have := H3.out
  simp [wrongA]
  omega
theorem index_dr (a : Option Addr) (n c : Nat) (l : List (Int × Nat)) (w : World) (h : Drops w a l) (hn : n = l.length) (hmx : n ≤ 1000000) :
    Calls Tryz.prog 60 #[.slice a n c, .func (.func 24) #[] #[]] w fun e w' => ∃ z : Int, e = .returned (.int .i64 z) ∧ (0 ≤ z ↔ l.any wrongD = true) ∧ Turns (fun _ => False) w w' := by
  have H := hide h
  have HL := hide hn
  have hni : (n : Int) ≤ 1000000 := by omega
  clear h hn
  go_enter Tryz.func60, Tryz.ntmps60
  go_wp2_with fail
  go_loopw [8] (fun i wr => ∃ k : Nat, i = .int .i64 (k : Nat) ∧ k ≤ n ∧ (l.take k).any wrongD = false ∧ Turns (fun _ => False) w wr) (fun i _ => n - (intOf i).toNat)
  case atStart => exact ⟨0, rfl, Nat.zero_le _, rfl, Turns.refl _ _⟩
  case round =>
    obtain ⟨k, rfl, hk, hno, hb⟩ := hrel
    have HNO := hide hno
    have HB := hide hb
    clear hno hb
    by_cases hkn : k < n
    · obtain ⟨x, hx⟩ : ∃ x, l[k]? = some x := ⟨_, List.getElem?_eq_getElem (by have := HL.out; omega)⟩
      obtain ⟨_, b, off, rfl, y0, y1⟩ := (H.out.quiet HB.out) k x hx
      have i1 : (k : Int) < (n : Int) := by omega
      have i0 : (0 : Int) ≤ (k : Int) := by omega
      have HTK := hide (show (l.take (k + 1)).any wrongD = wrongD x by rw [List.take_add_one, hx, List.any_append, HNO.out]; simp)
      have HANY := hide (show wrongD x = true → l.any wrongD = true from fun e => List.any_eq_true.2 ⟨x, List.mem_of_getElem? hx, e⟩)
      have CC := hide (isWrongDrop_any x.1 x.2 wr)
      obtain ⟨x1, x2⟩ := x
      simp only at *
      clear hx
      go_wp2_with fail
      refine CC.out.mono ?_
      rintro e w1 ⟨rfl, t1⟩
      have B1 := hide (HB.out.trans t1)
      clear t1 CC y0 y1
      generalize hq : wrongD (x1, x2) = q at *
      have HQ := hide hq
      clear hq
      cases q
      · go_wp2_with fail
        go_roundw
        case rel => exact ⟨k + 1, by go_num, by omega, HTK.out, B1.out⟩
        case measure => simp [intOf]; omega
      · go_wp2_with fail
        go_ret
        exact ⟨_, rfl, ⟨fun _ => HANY.out trivial, fun _ => by omega⟩, B1.out⟩
    · obtain rfl : k = n := by omega
      have ht : l.take k = l := List.take_of_length_le (by have := HL.out; omega)
      have HT := hide ht
      clear ht
      go_wp2_with fail
      go_ret
      refine ⟨_, rfl, ⟨fun h => by omega, fun h => ?_⟩, HB.out⟩
      have := HNO.out
      rw [HT.out, h] at this
      cases this
theorem contains_dr (a : Option Addr) (n c : Nat) (l : List (Int × Nat)) (w : World) (h : Drops w a l) (hn : n = l.length) (hmx : n ≤ 1000000) :
    Calls Tryz.prog 23 #[.slice a n c, .func (.func 24) #[] #[]] w fun e w' => e = .returned (.bool (l.any wrongD)) ∧ Turns (fun _ => False) w w' := by
  have IX := hide (index_dr a n c l w h hn hmx)
  clear h hn
  go_enter Tryz.func23, Tryz.ntmps23
  go_wp2_with fail
  refine IX.out.mono ?_
  rintro e w1 ⟨z, rfl, hz, t1⟩
  have HZ := hide hz
  have B1 := hide t1
  clear hz t1 IX
  go_wp2_with fail
  go_ret
  refine ⟨congrArg Ending.returned (congrArg Value.bool (Bool.eq_iff_iff.2 ?_)), B1.out⟩
  rw [← HZ.out]
  simp
theorem index_ad (a : Option Addr) (n c : Nat) (l : List (Int × Tf)) (w : World) (h : Adds w a l) (hn : n = l.length) (hmx : n ≤ 1000000) :
    Calls Tryz.prog 61 #[.slice a n c, .func (.func 26) #[] #[]] w fun e w' => ∃ z : Int, e = .returned (.int .i64 z) ∧ (0 ≤ z ↔ (fA l).any wrongA = true) ∧ Turns (fun _ => False) w w' := by
  have H := hide h
  have HL := hide hn
  have hni : (n : Int) ≤ 1000000 := by omega
  clear h hn
  go_enter Tryz.func61, Tryz.ntmps61
  go_wp2_with fail
  go_loopw [8] (fun i wr => ∃ k : Nat, i = .int .i64 (k : Nat) ∧ k ≤ n ∧ ((fA l).take k).any wrongA = false ∧ Turns (fun _ => False) w wr) (fun i _ => n - (intOf i).toNat)
  case atStart => exact ⟨0, rfl, Nat.zero_le _, rfl, Turns.refl _ _⟩
  case round =>
    obtain ⟨k, rfl, hk, hno, hb⟩ := hrel
    have HNO := hide hno
    have HB := hide hb
    clear hno hb
    by_cases hkn : k < n
    · obtain ⟨x, hx⟩ : ∃ x, l[k]? = some x := ⟨_, List.getElem?_eq_getElem (by have := HL.out; omega)⟩
      obtain ⟨⟨b, off, rfl, y6, h6⟩, _⟩ := (H.out.quiet HB.out) k x hx
      have hfx : (fA l)[k]? = some (x.1, x.2.f) := by unfold fA; rw [List.getElem?_map, hx]; rfl
      have i1 : (k : Int) < (n : Int) := by omega
      have i0 : (0 : Int) ≤ (k : Int) := by omega
      have HTK := hide (show ((fA l).take (k + 1)).any wrongA = wrongA (x.1, x.2.f) by rw [List.take_add_one, hfx, List.any_append, HNO.out]; simp)
      have HANY := hide (show wrongA (x.1, x.2.f) = true → (fA l).any wrongA = true from fun e => List.any_eq_true.2 ⟨_, List.mem_of_getElem? hfx, e⟩)
      have CC := hide (isWrongAdd_any x.1 x.2 wr)
      generalize hq : wrongA (x.1, x.2.f) = q at *
      clear hfx hq
      obtain ⟨x1, ⟨la, lc, ma, mc, ⟨no, sz, ls, ms, en, sq⟩⟩⟩ := x
      obtain ⟨y0, y1, y2, y3, y4, y5⟩ := h6
      unfold addAgg at CC
      simp only at *
      generalize ls.length = L1 at *
      generalize ms.length = L2 at *
      clear hx
      simp only [Nat.add_assoc, Nat.reduceAdd] at y0 y1 y2 y3 y4 y5
      simp only [← Nat.add_assoc] at y0 y1 y2 y3 y4 y5
      go_wp2_with fail
      refine CC.out.mono ?_
      rintro e w1 ⟨rfl, t1⟩
      have B1 := hide (HB.out.trans t1)
      clear t1 CC y0 y1 y2 y3 y4 y5 y6
      cases q
      · go_wp2_with fail
        go_roundw
        case rel => exact ⟨k + 1, by go_num, by omega, HTK.out, B1.out⟩
        case measure => simp [intOf]; omega
      · go_wp2_with fail
        go_ret
        exact ⟨_, rfl, ⟨fun _ => HANY.out trivial, fun _ => by omega⟩, B1.out⟩
    · obtain rfl : k = n := by omega
      have ht : (fA l).take k = fA l := List.take_of_length_le (by have := HL.out; unfold fA; rw [List.length_map]; omega)
      have HT := hide ht
      clear ht
      go_wp2_with fail
      go_ret
      refine ⟨_, rfl, ⟨fun h => by omega, fun h => ?_⟩, HB.out⟩
      have := HNO.out
      rw [HT.out, h] at this
      cases this
theorem contains_ad (a : Option Addr) (n c : Nat) (l : List (Int × Tf)) (w : World) (h : Adds w a l) (hn : n = l.length) (hmx : n ≤ 1000000) :
    Calls Tryz.prog 25 #[.slice a n c, .func (.func 26) #[] #[]] w fun e w' => e = .returned (.bool ((fA l).any wrongA)) ∧ Turns (fun _ => False) w w' := by
  have IX := hide (index_ad a n c l w h hn hmx)
  clear h hn
  go_enter Tryz.func25, Tryz.ntmps25
  go_wp2_with fail
  refine IX.out.mono ?_
  rintro e w1 ⟨z, rfl, hz, t1⟩
  have HZ := hide hz
  have B1 := hide t1
  clear hz t1 IX
  go_wp2_with fail
  go_ret
  refine ⟨congrArg Ending.returned (congrArg Value.bool (Bool.eq_iff_iff.2 ?_)), B1.out⟩
  rw [← HZ.out]
  simp
theorem wrap_u64N (z : Int) : IntKind.u64.wrap z = (u64N z : Nat) := by unfold u64N; rw [IntKind.wrap_u64]; omega
theorem numbersG_any (lev : Int) (x : Tf) (w : World) (h0 : x.f.no < 18446744073709551616) (h5 : x.f.seq < 18446744073709551616) :
    Calls Tryz.prog 29 #[addAgg lev x] w fun e w' => ∃ g, e = .returned (.slice (some ⟨g, 0, none⟩) 5 5) ∧ Nums w' (some ⟨g, 0, none⟩) (addN (lev, x.f)) ∧ (∃ cs, w'.heap[g]? = some (.cells cs 25 (0, 0))) ∧ w.heap.size ≤ g ∧ Turns (fun _ => False) w w' := by
  obtain ⟨la, lc, ma, mc, ⟨no, sz, ls, ms, en, sq⟩⟩ := x
  simp only at *
  unfold addAgg
  have TA := hide ((Turns.refl (fun _ => False) w).alloc (.cells #[.int .i64 lev, .int .u64 (no : Nat), .int .i64 sz, .slice la ls.length lc, .slice ma ms.length mc, .int .i64 en, .int .u64 (sq : Nat)] 56))
  have HB := hide (show no < 18446744073709551616 ∧ sq < 18446744073709551616 from ⟨h0, h5⟩)
  clear h0 h5
  go_enter Tryz.func29, Tryz.ntmps29
  go_wp2_with fail
  go_ret
  have e := heap_alloc_new (w.alloc (.cells #[.int .i64 lev, .int .u64 (no : Nat), .int .i64 sz, .slice la ls.length lc, .slice ma ms.length mc, .int .i64 en, .int .u64 (sq : Nat)] 56)) (.cells #[.int .u64 (u64N lev : Nat), .int .u64 (no : Nat), .int .u64 (u64N sz : Nat), .int .u64 (u64N en : Nat), .int .u64 (sq : Nat)] 25)
  rw [World.size_alloc] at e
  simp only [wrap_u64N]
  refine ⟨w.heap.size + 1, rfl, nums_of_block (t := 25) (q := (0, 0)) e (fun z hz => ?_), ⟨_, e⟩, by omega, TA.out.alloc _⟩
  have h1 := u64N_lt lev
  have h2 := u64N_lt sz
  have h3 := u64N_lt en
  simp only [addN, List.mem_cons, List.not_mem_nil, or_false] at hz
  have := HB.out
  rcases hz with rfl | rfl | rfl | rfl | rfl <;> omega
end Go.Proofs.YtmmcikbedegigaaGreat

/-
  Pieces behind bytes of one's own.
-/
namespace Go.Proofs.YtmmcikbedegigaaGreat
open Go.RowKit
set_option maxRecDepth 100000
set_option maxHeartbeats 4000000
def pcs (ls ms : List (BitVec 8)) : Nat → List (BitVec 8)
  | 0 => []
  | 1 => pieceB ls
  | _ => pieceB ls ++ pieceB ms
theorem pcs_le (ls ms : List (BitVec 8)) (h1 : ls.length ≤ 1048576) (h2 : ms.length ≤ 1048576) (k : Nat) : (pcs ls ms k).length ≤ 2100000 := by
  have e1 := short_len ls.length (by omega)
  have e2 := short_len ms.length (by omega)
  match k with
  | 0 => simp [pcs]
  | 1 => simp only [pcs, pieceB, List.length_append]; omega
  | _ + 2 => simp only [pcs, pieceB, List.length_append]; omega
theorem appendPieces_any (B G : Nat) (a : Option Addr) (m c : Nat) (bs : List (BitVec 8)) (hm : m = bs.length) (la : Option Addr) (L1 lc : Nat) (ma : Option Addr) (L2 mc : Nat) (ls ms : List (BitVec 8)) (w : World) (h : ORow w B a c bs) (hG : w.heap[G]? = some (.cells #[.slice la L1 lc, .slice ma L2 mc] 38 (0, 0))) (h1 : ∀ u, Turns (fun j => B ≤ j) w u → Bytes u (.slice la L1 lc) ls) (h2 : ∀ u, Turns (fun j => B ≤ j) w u → Bytes u (.slice ma L2 mc) ms) (l1 : L1 ≤ 1048576) (l2 : L2 ≤ 1048576) (hB : B ≤ w.heap.size) (hsm : m ≤ 600000000) :
    Calls Tryz.prog 30 #[.slice a m c, .slice (some ⟨G, 0, none⟩) 2 2] w fun e w' => ∃ a' n' c', e = .returned (.slice a' n' c') ∧ n' = (bs ++ (pieceB ls ++ pieceB ms)).length ∧ ORow w' B a' c' (bs ++ (pieceB ls ++ pieceB ms)) ∧ Turns (fun j => a = some ⟨j, 0, none⟩) w w' ∧ (∀ g, a' = some ⟨g, 0, none⟩ → a = some ⟨g, 0, none⟩ ∨ w.heap.size ≤ g) := by
  have hl1 := (h1 w (Turns.refl _ _)).len
  have hl2 := (h2 w (Turns.refl _ _)).len
  have HP := hide (pcs_le ls ms (by omega) (by omega))
  have H := hide h
  have HG := hide hG
  have HM := hide hm
  have H1 := hide h1
  have H2 := hide h2
  have HL := hide (show ls.length = L1 ∧ ms.length = L2 ∧ L1 ≤ 1048576 ∧ L2 ≤ 1048576 from ⟨hl1.symm, hl2.symm, l1, l2⟩)
  have HB := hide hB
  have HGE := hide (show ∀ g, a = some ⟨g, 0, none⟩ → B ≤ g from fun g e => by
    rcases h with ⟨e2, _⟩ | ⟨g2, e2, e3, _⟩
    · rw [e2] at e; cases e
    · rw [e2] at e; cases e; exact e3)
  have HNG := hide (show ∀ g, a = some ⟨g, 0, none⟩ → ¬ g = G from fun g e => h.ne hG (by decide) g e)
  have hmi : (m : Int) ≤ 600000000 := by omega
  clear h hG hm h1 h2 hB l1 l2 hl1 hl2
  go_enter Tryz.func30, Tryz.ntmps30
  go_wp2_with fail
  go_loopw [0, 9] (fun sv i wr => ∃ (k : Nat) (a1 : Option Addr) (n1 c1 : Nat), i = .int .i64 (k : Nat) ∧ sv = .slice a1 n1 c1 ∧ k ≤ 2 ∧ n1 = (bs ++ pcs ls ms k).length ∧ ORow wr B a1 c1 (bs ++ pcs ls ms k) ∧ Turns (fun j => a = some ⟨j, 0, none⟩) w wr ∧ (∀ g, a1 = some ⟨g, 0, none⟩ → a = some ⟨g, 0, none⟩ ∨ w.heap.size ≤ g)) (fun _ i _ => 2 - (intOf i).toNat)
  case atStart => exact ⟨0, a, m, c, rfl, rfl, by omega, by simpa [pcs] using HM.out, by simpa [pcs] using H.out, Turns.refl _ _, fun g e => .inl e⟩
  case round =>
    obtain ⟨k, a1, n1, c1, rfl, rfl, hk, hn1, hrow, ht, hnew⟩ := hrel
    have HN1 := hide hn1
    have HR := hide hrow
    have HT := hide ht
    have HW := hide hnew
    have HTB := hide (ht.mono (S' := fun j => B ≤ j) fun j _ e => HGE.out j e)
    clear hn1 hrow ht hnew
    have hg := HT.out.heap HG.out (fun e => HNG.out G e rfl)
    by_cases hkn : k < 2
    · obtain ⟨pa, pn, pc, pl, hcell, hb, hnext, hpn⟩ : ∃ (pa : Option Addr) (pn pc : Nat) (pl : List (BitVec 8)), wr.cell? ⟨G, k, none⟩ = some (.slice pa pn pc) ∧ (∀ u, Turns (fun j => B ≤ j) wr u → Bytes u (.slice pa pn pc) pl) ∧ pcs ls ms (k + 1) = pcs ls ms k ++ pieceB pl ∧ pn ≤ 1048576 := by
        have hk2 : k = 0 ∨ k = 1 := by omega
        rcases hk2 with rfl | rfl
        · exact ⟨la, L1, lc, ls, cell_of_row wr G 0 _ 38 (0, 0) hg, fun u t => H1.out u (HTB.out.trans t), rfl, HL.out.2.2.1⟩
        · exact ⟨ma, L2, mc, ms, cell_of_row wr G 1 _ 38 (0, 0) hg, fun u t => H2.out u (HTB.out.trans t), rfl, HL.out.2.2.2⟩
      have hlen := (hb wr (Turns.refl _ _)).len
      have HBY := hide hb
      have HNX := hide hnext
      have HLEN := hide hlen
      have hn1b : n1 ≤ 602100000 := by have := HN1.out; have := HM.out; have := HP.out k; rw [List.length_append] at *; omega
      have i1 : (k : Int) < 2 := by omega
      have i0 : (0 : Int) ≤ k := by omega
      have hpi : (pn : Int) ≤ 1048576 := by omega
      have ta : Turns (fun _ => False) wr (wr.alloc (.cells #[.int .u64 (pn : Nat)] 25)) := (Turns.refl _ _).alloc _
      have NZ := hide (nums_of_block (zs := [pn]) (heap_alloc_new wr (.cells #[.int .u64 (pn : Nat)] 25)) (by intro z hz; obtain rfl := List.mem_singleton.1 hz; omega))
      have CN := hide (appendNumbers_any B a1 n1 c1 (bs ++ pcs ls ms k) HN1.out (some ⟨wr.heap.size, 0, none⟩) 1 1 [pn] (wr.alloc (.cells #[.int .u64 (pn : Nat)] 25)) (HR.out.keep ta fun _ _ x => x) NZ.out rfl (by omega) (fun b off e e2 => by
        cases e
        exact (HR.out.keep ta fun _ _ x => x).ne (heap_alloc_new wr (.cells #[.int .u64 (pn : Nat)] 25)) (by decide) _ e2 rfl) (Nat.le_trans HB.out (Nat.le_trans HT.out.size ta.size)) (by omega))
      have TA := hide ta
      clear hb hnext hlen hg ta NZ hn1b
      go_wp2_with fail
      refine CN.out.mono ?_
      rintro e w1 ⟨a2, n2, c2, rfl, hn2, hr2, ht2, hw2⟩
      have hsh : shorts [pn] = short pn := by simp [shorts]
      rw [hsh] at hn2 hr2
      have hne : a2 ≠ none := by
        rintro rfl
        rcases hr2 with ⟨_, e2, _⟩ | ⟨_, e2, _⟩
        · exact short_ne pn (List.append_eq_nil_iff.1 e2).2
        · cases e2
      have T1 : Turns (fun j => B ≤ j) wr w1 := ((TA.out.mono fun _ _ x => x.elim).trans (ht2.mono fun j _ e => by
        rcases HW.out j e with e3 | e3
        · exact HGE.out j e3
        · exact Nat.le_trans HB.out e3))
      have hn2b : n2 ≤ 603000000 := by
        have h5 := short_len pn (by omega)
        have h6 := HN1.out
        have h7 := HM.out
        have h8 := HP.out k
        rw [List.length_append] at hn2 h6
        rw [List.length_append] at hn2
        omega
      obtain ⟨g', c', w2, hr, hr3, ht3, hn3⟩ := app_o w1 B a2 n2 c2 _ hn2 (.slice pa pn pc) pl pn HLEN.out hr2 (HBY.out w1 T1) (fun e => absurd e hne) (Nat.le_trans HB.out (Nat.le_trans HT.out.size T1.size)) (by omega)
      have HA := hide hr
      have REL := hide (show n2 + pn = (bs ++ pcs ls ms (k + 1)).length ∧ ORow w2 B (some ⟨g', 0, none⟩) c' (bs ++ pcs ls ms (k + 1)) ∧ Turns (fun j => a = some ⟨j, 0, none⟩) w w2 ∧ (∀ g, (some ⟨g', 0, none⟩ : Option Addr) = some ⟨g, 0, none⟩ → a = some ⟨g, 0, none⟩ ∨ w.heap.size ≤ g) from by
        have hs0 := HT.out.size
        have hs1 := TA.out.size
        have e1 : bs ++ pcs ls ms (k + 1) = bs ++ pcs ls ms k ++ short pn ++ pl := by rw [HNX.out, pieceB, ← HLEN.out]; simp only [List.append_assoc]
        rw [e1]
        refine ⟨by rw [List.length_append, ← hn2, HLEN.out], hr3, ?_, fun g e => ?_⟩
        · refine ((HT.out.trans (TA.out.mono fun _ _ x => x.elim)).andThen ht2 fun j hj e => ?_).andThen ht3 fun j hj e => ?_
          · rcases HW.out j e with e2 | e2
            · exact e2
            · omega
          · rcases hw2 j e with e2 | e2
            · rcases HW.out j e2 with e3 | e3
              · exact e3
              · omega
            · omega
        · cases e
          rcases hn3 with e2 | e2
          · rcases hw2 _ e2 with e3 | e3
            · exact HW.out _ e3
            · exact .inr (by omega)
          · have := ht2.size
            exact .inr (by omega))
      clear hr hr3 ht3 hn3 hn2 hr2 ht2 hw2 T1 hne hsh hcell TA
      go_wp2_with (at_builtin; refine wpList_append_run rfl (.tmp 18) (.tmp 19) 38 rfl (.slice a2 n2 c2) (.slice pa pn pc) rfl rfl _ _ (HA.out _) ?_)
      go_roundw
      case rel => exact ⟨k + 1, some ⟨g', 0, none⟩, n2 + pn, c', by go_num, rfl, by omega, REL.out⟩
      case measure => simp [intOf]; omega
    · obtain rfl : k = 2 := by omega
      clear hg
      go_wp2_with fail
      go_ret
      exact ⟨a1, n1, c1, rfl, HN1.out, HR.out, HT.out, HW.out⟩
end Go.Proofs.YtmmcikbedegigaaGreat

/-
  Whole.
-/
namespace Go.Proofs.YtmmcikbedegigaaGreat
open Go.RowKit
set_option maxRecDepth 100000
set_option maxHeartbeats 4000000
def wholeF (LL : List (List Fl)) : List AddF := LL.zipIdx.flatMap fun p => p.1.map fun f => ((p.2 : Int), f)
theorem adsOf_F (L : List Lv) : fA (adsOf L) = wholeF (flL L) := by
  unfold fA adsOf wholeF flL fls
  have : ∀ q, ((L.zipIdx q).flatMap fun p => p.1.l.map fun y => ((p.2 : Int), y)).map (fun d => (d.1, d.2.f)) = ((L.map fun x => x.l.map Tf.f).zipIdx q).flatMap fun p => p.1.map fun f => ((p.2 : Int), f) := by
    induction L with
    | nil => intro q; rfl
    | cons x r ih =>
      intro q
      rw [List.zipIdx_cons, List.flatMap_cons, List.map_append, List.map_cons, List.zipIdx_cons, List.flatMap_cons, ih, List.map_map, List.map_map]
      rfl
  exact this 0
theorem adsOf_mem {L : List Lv} {d : Int × Tf} (h : d ∈ adsOf L) : ∃ x ∈ L, d.2 ∈ x.l := by
  unfold adsOf at h
  obtain ⟨p, hp, h2⟩ := List.mem_flatMap.1 h
  obtain ⟨y, hy, rfl⟩ := List.mem_map.1 h2
  exact ⟨p.1, (List.mem_zipIdx_iff_getElem?.1 hp |> List.mem_of_getElem?), hy⟩
def zeroEd : Value := .agg #[.slice none 0 0, .slice none 0 0, .int .u64 0, .int .u64 0, .int .u64 0]
/-- What Whole answers. -/
def Wholed (w' : World) (LL : List (List Fl)) (next seq log : Nat) (e : Ending) : Prop :=
  (wrongVF LL next seq log = true ∧ e = .returned (.tuple #[zeroEd, .int .i64 2])) ∨ (wrongVF LL next seq log = false ∧ ∃ sa sn sc A, e = .returned (.tuple #[edAgg none 0 0 sa sn sc next seq log, .int .i64 0]) ∧ sn = List.length A ∧ fA A = wholeF LL ∧ Adds w' sa A)
theorem whole_any (a : Option Addr) (n c next seq log : Nat) (L : List Lv) (w : World) (h : VerIn w a n L next seq log) :
    Calls Tryz.prog 12 #[verAgg a n c next seq log] w fun e w' => Turns (fun _ => False) w w' ∧ Wholed w' (flL L) next seq log e := by
  have TA := hide (((Turns.refl (fun _ => False) w).alloc (.cells #[.slice a n c, .int .u64 (next : Nat), .int .u64 (seq : Nat), .int .u64 (log : Nat)] 27)).alloc (.cells #[.slice none 0 0, .slice none 0 0, .int .u64 0, .int .u64 0, .int .u64 0] 33))
  have R0 := hide (((Turns.refl (fun _ => False) (w.alloc (.cells #[.slice a n c, .int .u64 (next : Nat), .int .u64 (seq : Nat), .int .u64 (log : Nat)] 27))).alloc (.cells #[.slice none 0 0, .slice none 0 0, .int .u64 0, .int .u64 0, .int .u64 0] 33)).heap (heap_alloc_new w _) (fun x => x))
  have R1 := hide (heap_alloc_new (w.alloc (.cells #[.slice a n c, .int .u64 (next : Nat), .int .u64 (seq : Nat), .int .u64 (log : Nat)] 27)) (.cells #[.slice none 0 0, .slice none 0 0, .int .u64 0, .int .u64 0, .int .u64 0] 33))
  simp only [World.size_alloc] at R1
  have CK := hide (check_any a n c next seq log L _ (h.quiet TA.out))
  have HV := hide (show chkV L next seq log = if wrongV L next seq log then 2 else 0 from rfl)
  have HVI := hide h
  unfold verAgg at *
  clear h
  generalize hV : wrongV L next seq log = V at *
  have HWV := hide (show wrongVF (flL L) next seq log = V by rw [← wrongV_F]; exact hV)
  clear hV
  generalize chkV L next seq log = CV at *
  go_enter Tryz.func12, Tryz.ntmps12
  go_wp2_with fail
  refine CK.out.mono ?_
  rintro e w1 ⟨rfl, t1⟩
  have T1 := hide (TA.out.trans t1)
  have Q0 := hide (t1.heap R0.out (fun x => x))
  have Q1 := hide (t1.heap R1.out (fun x => x))
  clear t1 CK R0 R1
  generalize hg : w.heap.size = g at *
  have HG := hide hg
  clear hg
  cases V with
  | true =>
    have hcv : CV = 2 := HV.out
    subst hcv
    have d0 := cell_of_row w1 (g + 1) 0 _ 33 (0, 0) Q1.out
    have d1 := cell_of_row w1 (g + 1) 1 _ 33 (0, 0) Q1.out
    have d2 := cell_of_row w1 (g + 1) 2 _ 33 (0, 0) Q1.out
    have d3 := cell_of_row w1 (g + 1) 3 _ 33 (0, 0) Q1.out
    have d4 := cell_of_row w1 (g + 1) 4 _ 33 (0, 0) Q1.out
    have f0 := frozen_of_row w1 (g + 1) 0 _ 33 Q1.out
    have f1 := frozen_of_row w1 (g + 1) 1 _ 33 Q1.out
    have f2 := frozen_of_row w1 (g + 1) 2 _ 33 Q1.out
    have f3 := frozen_of_row w1 (g + 1) 3 _ 33 Q1.out
    have f4 := frozen_of_row w1 (g + 1) 4 _ 33 Q1.out
    go_wp2_with fail
    have tk := (((((Tick.refl Q1.out).set 0 (.slice none 0 0)).set 1 (.slice none 0 0)).set 2 (.int .u64 0)).set 3 (.int .u64 0)).set 4 (.int .u64 0)
    refine bodyPost_ret (v := .tuple #[.agg #[.slice none 0 0, .slice none 0 0, .int .u64 0, .int .u64 0, .int .u64 0], .int .i64 2]) ?_ rfl ?_
    · exact results_cell_tmp Tryz.results12 _ _ _ _ _ _ _ _ rfl rfl tk.1 Tryz.underlying33 rfl sz33w
    · exact ⟨T1.out.andThen (Turns.of_tick tk) fun j hj e => by have := HG.out; omega, .inl ⟨HWV.out, rfl⟩⟩
  | false =>
    have hcv : CV = 0 := HV.out
    subst hcv
    have hn5 : n = 5 := by
      have h1 := HWV.out
      unfold wrongVF at h1
      simp only [Bool.or_eq_false_iff, decide_eq_false_iff_not, flL_length] at h1
      have h2 := HVI.out.len
      omega
    subst hn5
    obtain ⟨ad, rfl⟩ : ∃ ad, a = some ad := by
      obtain ⟨x, hx⟩ : ∃ x, L[0]? = some x := ⟨_, List.getElem?_eq_getElem (by have := HVI.out.len; omega)⟩
      obtain ⟨⟨b, off, e, _⟩, _⟩ := HVI.out.levs 0 x hx
      exact ⟨_, e⟩
    have HKL := hide (show ∀ x ∈ L, ∀ y ∈ x.l, y.f.least.length ≤ 1000000 ∧ y.f.most.length ≤ 1000000 from fun x hx y hy => by
      have h1 := wrongF_false (wrongV_files (by rw [wrongV_F]; exact HWV.out) x hx y hy)
      omega)
    have CLS := hide (fun (u : World) (t : Turns (fun _ => False) w1 u) => listsOf_any ad c L u (HVI.out.levs.quiet (T1.out.trans t)) HVI.out.len.symm (by have := HVI.out.cnt; omega) HKL.out)
    have p1 := cell_of_row w1 g 1 _ 27 (0, 0) Q0.out
    have p2 := cell_of_row w1 g 2 _ 27 (0, 0) Q0.out
    have p3 := cell_of_row w1 g 3 _ 27 (0, 0) Q0.out
    go_wp2_with fail
    refine (numbered_any next seq log w1).mono ?_
    rintro e w2 ⟨rfl, n1, n2, n3, t2⟩
    have TN := hide ((Turns.refl (fun _ => False) w2).alloc (.cells #[numOpt w1.heap.size (w1.heap.size + 1) (w1.heap.size + 2)] 81))
    have NO := hide (heap_alloc_new w2 (.cells #[numOpt w1.heap.size (w1.heap.size + 1) (w1.heap.size + 2)] 81))
    have T3 := hide (t2.trans TN.out)
    have M1 := hide (TN.out.heap n1 (fun x => x))
    have M2 := hide (TN.out.heap n2 (fun x => x))
    have M3 := hide (TN.out.heap n3 (fun x => x))
    have HOG := hide (show w1.heap.size ≤ w2.heap.size from t2.size)
    have q0 := T3.out.cell (cell_of_row w1 g 0 _ 27 (0, 0) Q0.out) (fun x => x)
    clear n1 n2 n3 t2 p1 p2 p3
    unfold numOpt at q0
    go_wp2_with fail
    refine (CLS.out _ T3.out).mono ?_
    rintro e w4 ⟨G, c2, L1, rfl, hc2, hl1, hdr, hfl, t4⟩
    have HC2 := hide hc2
    have HL1 := hide hl1
    have HFL := hide hfl
    have HO := hide (show Opt2 w4 (w2.alloc (.cells #[numOpt w1.heap.size (w1.heap.size + 1) (w1.heap.size + 2)] 81)).heap.size w2.heap.size 1 w1.heap.size (w1.heap.size + 1) (w1.heap.size + 2) next seq log [] L1 from by
      have r0 := t4.heap NO.out (fun x => x)
      refine ⟨⟨⟨_, r0, rfl, fun k p hp => by simp at hp⟩, t4.heap M1.out (fun x => x), t4.heap M2.out (fun x => x), t4.heap M3.out (fun x => x), fun k p x hp => by simp at hp, hdr.rows⟩, ⟨_, r0, Nat.le_refl _, fun k hk => by cases k with | zero => rfl | succ k => simp at hk⟩, Nat.le_refl _⟩)
    have HDR := hide hdr
    have T4 := hide ((T1.out.trans T3.out).trans t4)
    have Q4 := hide (t4.heap (T3.out.heap Q1.out (fun x => x)) (fun x => x))
    have HS4 := hide (show (w2.alloc (.cells #[numOpt w1.heap.size (w1.heap.size + 1) (w1.heap.size + 2)] 81)).heap.size ≤ w4.heap.size from t4.size)
    have HGW := hide (show g + 1 < w1.heap.size from lt_of_heap Q1.out)
    clear hc2 hl1 hfl hdr t4 TN NO T3 M1 M2 M3 q0 CLS Q0 Q1 T1 TA HKL
    go_wp2_with fail
    have hf : Sem.run Tryz.prog (Instr.field 58 (.agg #[.slice (some ⟨G, 0, none⟩) 5 c2]) 0) w4 = .ok (.slice (some ⟨G, 0, none⟩) 5 c2) w4 := by kernel_rfl
    rw [hf]
    clear hf
    go_wp2_with fail
    generalize hB : (w2.alloc (.cells #[numOpt w1.heap.size (w1.heap.size + 1) (w1.heap.size + 2)] 81)).heap.size = B at *
    have HBO := hide (show w2.heap.size + 1 = B by rw [← hB]; simp)
    clear hB
    generalize w1.heap.size = N at *
    generalize w2.heap.size = C at *
    go_loopw [5, 27] (fun o i wr => ∃ (k og oc : Nat) (ps : List (Nat × Nat)), i = .int .i64 (k : Nat) ∧ o = .slice (some ⟨og, 0, none⟩) (ps.length + 1) oc ∧ k ≤ 5 ∧ ps.length = k ∧ C ≤ og ∧ Opt2 wr B og oc N (N + 1) (N + 2) next seq log ps L1 ∧ Turns (fun j => C ≤ j) w4 wr ∧ DR wr B G 5 L1) (fun _ i _ => 5 - (intOf i).toNat)
    case atStart => exact ⟨0, C, 1, [], rfl, rfl, Nat.zero_le _, rfl, Nat.le_refl _, HO.out, Turns.refl _ _, HDR.out⟩
    case round =>
      obtain ⟨k, og, oc, ps, rfl, rfl, hk, hps, hog, ho, ht, hd⟩ := hrel
      have HOW := hide ho
      have HT := hide ht
      have HD := hide hd
      have HPS := hide hps
      have HOG2 := hide hog
      clear ho ht hd hps hog
      by_cases hk5 : k < 5
      · obtain ⟨cs, hrow, hc0, hck⟩ := HD.out.head
        have i1 : (k : Int) < 5 := by omega
        have i0 : (0 : Int) ≤ k := by omega
        obtain ⟨xx, hx⟩ : ∃ xx, L1[k]? = some xx := ⟨_, List.getElem?_eq_getElem (by have := HL1.out; omega)⟩
        have hcell : wr.cell? ⟨G, k, none⟩ = some (.slice xx.a xx.l.length xx.c) := by rw [cell_of_row wr G k _ 53 (0, 0) hrow]; exact hck k xx hx
        have HX := hide hx
        clear hrow hc0 hck hx
        have CA := hide (adding_any (k : Nat) xx.a xx.l.length xx.c wr)
        go_wp2_with fail
        refine CA.out.mono ?_
        rintro e w5 ⟨rfl, e1, e2, t5⟩
        have HA := hide (show w5.heap.size = w5.heap.size from rfl)
        obtain ⟨uA, huA⟩ : ∃ uA, uA = w5.alloc (.cells #[addOpt (wr.heap.size + 1, wr.heap.size)] 81) := ⟨_, rfl⟩
        have hnA : uA.heap[w5.heap.size]? = some (.cells #[addOpt (wr.heap.size + 1, wr.heap.size)] 81) := by rw [huA]; exact heap_alloc_new _ _
        have tA : Turns (fun _ => False) w5 uA := by rw [huA]; exact (Turns.refl _ _).alloc _
        have tB := t5.trans tA
        obtain ⟨og', n', oc', w6, hr, hn', hog', ho6, t6⟩ := opt_append (HOW.out.quiet tB) C HOG2.out (by have h1 := HT.out.size; have h2 := tB.size; have h3 := HS4.out; have h4 := HBO.out; omega) (by have := HPS.out; omega) (wr.heap.size + 1, wr.heap.size) w5.heap.size 1 hnA (fun x hx => by
          have h1 := HX.out
          rw [HPS.out] at hx ⊢
          rw [h1] at hx
          cases hx
          exact ⟨tA.heap e2 (fun x => x), tA.heap e1 (fun x => x)⟩)
        have REL := hide (show n' = (ps ++ [(wr.heap.size + 1, wr.heap.size)]).length + 1 ∧ (ps ++ [(wr.heap.size + 1, wr.heap.size)]).length = k + 1 ∧ C ≤ og' ∧ Opt2 w6 B og' oc' N (N + 1) (N + 2) next seq log (ps ++ [(wr.heap.size + 1, wr.heap.size)]) L1 ∧ Turns (fun j => C ≤ j) w4 w6 ∧ DR w6 B G 5 L1 from by
          have h1 := HPS.out
          have h2 := HOG2.out
          obtain ⟨cs0, hcs0, _⟩ := (HOW.out.quiet tB).cell
          exact ⟨by simp; omega, by simp; omega, hog', ho6, (HT.out.trans (tB.mono fun _ _ x => x.elim)).trans (t6.mono fun j _ e => by subst e; exact h2), (HD.out.quiet tB).alien t6 hcs0 (by decide) (by decide) (by decide)⟩)
        unfold addOpt at huA
        have HR := hide hr
        have HUA := hide huA.symm
        clear hr huA hnA tA tB t5 t6 ho6 hog' hn' e1 e2 CA hcell
        generalize ps ++ [(wr.heap.size + 1, wr.heap.size)] = ps2 at *
        go_wp2_with (first | rw [HUA.out] | (at_builtin; refine wpList_append_run rfl _ _ 84 rfl (.slice (some ⟨og, 0, none⟩) (ps.length + 1) oc) (.slice (some ⟨w5.heap.size, 0, none⟩) 1 1) rfl rfl _ _ (HR.out _) ?_))
        go_roundw
        case rel => exact ⟨k + 1, og', oc', ps2, by go_num, by rw [REL.out.1], by omega, REL.out.2.1, REL.out.2.2.1, REL.out.2.2.2.1, REL.out.2.2.2.2.1, REL.out.2.2.2.2.2⟩
        case measure => simp [intOf]; omega
      · obtain rfl : k = 5 := by omega
        have hp5 := HPS.out
        have h6 : ps.length + 1 = 6 := by omega
        rw [h6]
        have CE := hide (editOf_whole og oc N (N + 1) (N + 2) next seq log B ps L1 wr HOW.out.opts HL1.out hp5 (Nat.le_trans HS4.out HT.out.size) (by
          have h1 := HVI.out.cnt
          have h2 : cnt L1 = cnt L := by rw [cnt_wt, cnt_wt, HFL.out]
          omega))
        have Q5 := hide (HT.out.heap Q4.out (by have h1 := HGW.out; have h2 := HOG.out; omega))
        clear h6 hp5
        go_wp2_with fail
        refine CE.out.mono ?_
        rintro e w5 ⟨sa, sn, sc, rfl, hsn, har, t5⟩
        have Q6 := hide (t5.heap Q5.out (fun x => x))
        unfold edAgg
        have d0 := cell_of_row w5 (g + 1) 0 _ 33 (0, 0) Q6.out
        have d1 := cell_of_row w5 (g + 1) 1 _ 33 (0, 0) Q6.out
        have d2 := cell_of_row w5 (g + 1) 2 _ 33 (0, 0) Q6.out
        have d3 := cell_of_row w5 (g + 1) 3 _ 33 (0, 0) Q6.out
        have d4 := cell_of_row w5 (g + 1) 4 _ 33 (0, 0) Q6.out
        have f0 := frozen_of_row w5 (g + 1) 0 _ 33 Q6.out
        have f1 := frozen_of_row w5 (g + 1) 1 _ 33 Q6.out
        have f2 := frozen_of_row w5 (g + 1) 2 _ 33 Q6.out
        have f3 := frozen_of_row w5 (g + 1) 3 _ 33 Q6.out
        have f4 := frozen_of_row w5 (g + 1) 4 _ 33 Q6.out
        have REL := hide (show sn = (adsOf L1).length ∧ ARow w5 B sa sc (adsOf L1) ∧ Turns (fun _ => False) wr w5 from ⟨hsn, har, t5⟩)
        clear hsn har t5 CE
        go_wp2_with fail
        have tk := (((((Tick.refl Q6.out).set 0 (.slice none 0 0)).set 1 (.slice sa sn sc)).set 2 (.int .u64 (next : Nat))).set 3 (.int .u64 (seq : Nat))).set 4 (.int .u64 (log : Nat))
        have u := Turns.of_tick tk
        have hs1 := HGW.out
        have hs2 := HOG.out
        have hs3 := HG.out
        refine bodyPost_ret (v := .tuple #[.agg #[.slice none 0 0, .slice sa sn sc, .int .u64 (next : Nat), .int .u64 (seq : Nat), .int .u64 (log : Nat)], .int .i64 0]) ?_ rfl ?_
        · exact results_cell_tmp Tryz.results12 _ _ _ _ _ _ _ _ rfl rfl tk.1 Tryz.underlying33 rfl sz33w
        · refine ⟨((T4.out.andThen HT.out fun j hj e => by omega).trans REL.out.2.2).andThen u fun j hj e => by omega, .inr ⟨HWV.out, sa, sn, sc, adsOf L1, rfl, REL.out.1, by rw [adsOf_F, HFL.out], ?_⟩⟩
          have hd := HD.out.quiet REL.out.2.2
          have hd6 := hd.alien u Q6.out (by decide) (by decide) (by decide)
          refine ARow.adds (REL.out.2.1.keep u fun q e e2 => REL.out.2.1.ne Q6.out (by decide) q e e2) fun d hm => ?_
          obtain ⟨x, hx, hy⟩ := adsOf_mem hm
          exact (hd6.files x hx d.2 hy).fb
end Go.Proofs.YtmmcikbedegigaaGreat

/-
  smallEdit.
-/
namespace Go.Proofs.YtmmcikbedegigaaGreat
open Go.RowKit
set_option maxRecDepth 100000
set_option maxHeartbeats 4000000
/-- A whole number, as the machine keeps it. -/
def w64 (z : Int) : Int := IntKind.i64.wrap z
theorem wr64 (z : Int) : wrap64 z = IntKind.i64.wrap z := by rw [IntKind.wrap_i64]; unfold wrap64; omega
theorem w64_add (a b : Int) : IntKind.i64.wrap (w64 a + b) = w64 (a + b) := by
  unfold w64
  simp only [IntKind.wrap_i64]
  omega
theorem w64_small (z : Int) (h0 : 0 ≤ z) (h1 : z < 9223372036854775808) : w64 z = z := wrapI z (by omega) h1
def keysN (A : List Fl) : Nat := (A.map fun f => f.least.length + f.most.length).sum
def addsN (A : List (Int × Tf)) : Nat := keysN (A.map fun d => d.2.f)
theorem addsN_snoc (A : List (Int × Tf)) (d : Int × Tf) : addsN (A ++ [d]) = addsN A + (d.2.f.least.length + d.2.f.most.length) := by simp [addsN, keysN]
theorem smallE_any (da : Option Addr) (dn dc : Nat) (aa : Option Addr) (an ac en es el : Nat) (A : List (Int × Tf)) (w : World) (h : Adds w aa A) (hn : an = A.length) (hmx : an ≤ reachBytes) (hdx : dn ≤ reachBytes) :
    Calls Tryz.prog 6 #[edAgg da dn dc aa an ac en es el] w fun e w' => e = .returned (.bool (decide (an ≤ 100) && (decide (dn ≤ 100) && decide (w64 (addsN A : Nat) ≤ 10000)))) ∧ Turns (fun _ => False) w w' := by
  have TA := hide ((Turns.refl (fun _ => False) w).alloc (.cells #[.slice da dn dc, .slice aa an ac, .int .u64 (en : Nat), .int .u64 (es : Nat), .int .u64 (el : Nat)] 33))
  have R0 := hide (heap_alloc_new w (.cells #[.slice da dn dc, .slice aa an ac, .int .u64 (en : Nat), .int .u64 (es : Nat), .int .u64 (el : Nat)] 33))
  have HL := hide hn
  have HA := hide h
  unfold reachBytes at hmx hdx
  have hmi : (an : Int) ≤ 140737488355328 := by omega
  have hdi : (dn : Int) ≤ 140737488355328 := by omega
  clear hn h
  unfold edAgg
  go_enter Tryz.func6, Tryz.ntmps6
  go_wp2_with fail
  generalize w.alloc (.cells #[.slice da dn dc, .slice aa an ac, .int .u64 (en : Nat), .int .u64 (es : Nat), .int .u64 (el : Nat)] 33) = w0 at *
  generalize w.heap.size = g at *
  go_loopw [3, 4] (fun sv iv wr => ∃ k : Nat, sv = .int .i64 (w64 (addsN (A.take k) : Nat)) ∧ iv = .int .i64 (k : Nat) ∧ k ≤ an ∧ Turns (fun _ => False) w0 wr) (fun _ iv _ => an - (intOf iv).toNat)
  case atStart => exact ⟨0, rfl, rfl, by omega, Turns.refl _ _⟩
  case round =>
    obtain ⟨k, rfl, rfl, hk, ht⟩ := hrel
    have TT := hide ht
    have p1 := ht.cell (cell_of_row w0 g 1 _ 33 (0, 0) R0.out) (fun x => x)
    by_cases hk2 : k < an
    · have i1 : (k : Int) < an := by omega
      have i0 : (0 : Int) ≤ (k : Int) := by omega
      have hkl : k < A.length := by have := HL.out; omega
      obtain ⟨⟨b, off, rfl, _, hc⟩, _⟩ := (HA.out.quiet (TA.out.trans ht)) k A[k] (List.getElem?_eq_getElem hkl)
      have HTK := hide (List.take_succ_eq_append_getElem hkl)
      have hws : addsN (A.take (k + 1)) = addsN (A.take k) + (A[k].2.f.least.length + A[k].2.f.most.length) := by rw [HTK.out, addsN_snoc]
      have HWS := hide hws
      have c2 := hc.c2
      have c3 := hc.c3
      generalize A[k].2.f.least.length = L1 at *
      generalize A[k].2.f.most.length = L2 at *
      clear hc ht hws
      have HQ := hide (show ∀ x y : Int, IntKind.i64.wrap (IntKind.i64.wrap (w64 (addsN (A.take k) : Nat) + x) + y) = w64 ((addsN (A.take k) : Nat) + (x + y)) from fun x y => by
        rw [w64_add]
        unfold w64
        simp only [IntKind.wrap_i64]
        omega)
      generalize hz : w64 (addsN (A.take k) : Nat) = z at *
      clear hz
      go_wp2_with fail
      go_quiet (fail)
      go_wp2
      go_roundw
      case rel =>
        refine ⟨k + 1, ?_, by go_num, by omega, ?_⟩
        · rw [HWS.out, Int.natCast_add, Int.natCast_add, ← HQ.out, wr64, wr64]
        · first
            | exact TT.out.drew
            | exact TT.out.drewN _
      case measure => simp [intOf]; omega
    · have i1 : ¬ (k : Int) < an := by omega
      have hkn : k = an := by omega
      have HK := hide hkn
      have p0 := ht.cell (cell_of_row w0 g 0 _ 33 (0, 0) R0.out) (fun x => x)
      have HZ := hide (show addsN (A.take k) = addsN A from by rw [HK.out, HL.out, List.take_length])
      rw [HZ.out]
      generalize hz : w64 (addsN A : Nat) = z at *
      have HZ2 := hide hz
      clear hk hk2 hkn ht HZ hz
      by_cases h1 : (an : Int) ≤ 100
      · have g1 : an ≤ 100 := by omega
        by_cases h2 : (dn : Int) ≤ 100
        · have g2 : dn ≤ 100 := by omega
          by_cases h3 : z ≤ 10000
          · have HF := hide (show (decide (an ≤ 100) && (decide (dn ≤ 100) && decide (z ≤ 10000))) = true by simp [g1, g2, h3])
            clear g1 g2
            go_wp2_with fail
            go_ret
            exact ⟨by rw [HZ2.out, HF.out]; rfl, TA.out.trans TT.out⟩
          · have HF := hide (show (decide (an ≤ 100) && (decide (dn ≤ 100) && decide (z ≤ 10000))) = false by simp [h3])
            clear g1 g2
            go_wp2_with fail
            go_ret
            exact ⟨by rw [HZ2.out, HF.out]; rfl, TA.out.trans TT.out⟩
        · have HF := hide (show (decide (an ≤ 100) && (decide (dn ≤ 100) && decide (z ≤ 10000))) = false by have : ¬ dn ≤ 100 := by omega
                                                                                                            simp [this])
          clear g1
          go_wp2_with fail
          go_ret
          exact ⟨by rw [HZ2.out, HF.out]; rfl, TA.out.trans TT.out⟩
      · have HF := hide (show (decide (an ≤ 100) && (decide (dn ≤ 100) && decide (z ≤ 10000))) = false by have : ¬ an ≤ 100 := by omega
                                                                                                          simp [this])
        go_wp2_with fail
        go_ret
        exact ⟨by rw [HZ2.out, HF.out]; rfl, TA.out.trans TT.out⟩
end Go.Proofs.YtmmcikbedegigaaGreat
