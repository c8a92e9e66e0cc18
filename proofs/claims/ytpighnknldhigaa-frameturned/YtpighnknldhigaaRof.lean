/-
  A row of frames that is put together, and where each frame ends.
-/
import Derived.Test.YtpighnknldhigaaOpenF
import Derived.Test.YtpighnknldhigaaApd2
import Derived.Test.YtpighnknldhigaaFMath3
namespace Go.Proofs.Ytpighnknldhigaa
open Go.RowKit

/-- Bytes in a row of one's own, or none. -/
def OwnB (w : World) (B : Nat) (v : Value) (bs : List (BitVec 8)) : Prop :=
  (bs = [] ∧ v = .slice none 0 0) ∨ ∃ (g c n : Nat), v = .slice (some ⟨g, 0, none⟩) n c ∧ n = bs.length ∧ 0 < n ∧ B ≤ g ∧ n ≤ c ∧ RowB w g c bs
theorem OwnB.bytes {w : World} {B : Nat} {v : Value} {bs : List (BitVec 8)} (h : OwnB w B v bs) : Bytes w v bs := by
  rcases h with ⟨rfl, rfl⟩ | ⟨g, c, n, rfl, rfl, _, _, _, h⟩
  · exact Bytes.none w
  · exact RowB.bytes h rfl
theorem OwnB.below {w w' : World} {B : Nat} {v : Value} {bs : List (BitVec 8)} (h : OwnB w B v bs) (hb : Below w.heap.size w w') : OwnB w' B v bs := by
  rcases h with h | ⟨g, c, n, h1, h2, h0, h3, h4, h5⟩
  · exact .inl h
  · exact .inr ⟨g, c, n, h1, h2, h0, h3, h4, RowC.below h5 hb⟩
/-- The cells of numbers. -/
def cellsI (zs : List Nat) : List Value := zs.map fun z => .int .i64 (z : Nat)
/-- Numbers in a row of one's own, or none. -/
def OwnI (w : World) (B : Nat) (v : Value) (zs : List Nat) : Prop :=
  (zs = [] ∧ v = .slice none 0 0) ∨ ∃ (g c n : Nat), v = .slice (some ⟨g, 0, none⟩) n c ∧ n = zs.length ∧ 0 < n ∧ B ≤ g ∧ n ≤ c ∧ RowC w g 3 c (cellsI zs)
theorem OwnI.below {w w' : World} {B : Nat} {v : Value} {zs : List Nat} (h : OwnI w B v zs) (hb : Below w.heap.size w w') : OwnI w' B v zs := by
  rcases h with h | ⟨g, c, n, h1, h2, h0, h3, h4, h5⟩
  · exact .inl h
  · exact .inr ⟨g, c, n, h1, h2, h0, h3, h4, RowC.below h5 hb⟩

theorem t3_size : Try.t3.size = 1 := by kernel_rfl
theorem t3_bytes : Try.t3.bytes = 8 := by kernel_rfl
theorem t3_info : Try.prog.info? 3 = some Try.t3 := by kernel_rfl
theorem t3_zero : Try.t3.zero = some (.int .i64 0) := by kernel_rfl

/-- One number that is appended to such a row: rows of bytes stay. -/
theorem append_int (w : World) (B : Nat) (hB : B ≤ w.heap.size) (v : Value) (zs : List Nat) (h : OwnI w B v zs) (hlen : zs.length ≤ 1000000000) (z : Nat) (a : Addr) (c : Nat) (ha : w.cell? a = some (.int .i64 (z : Nat))) :
    ∃ v' w', (∀ ty, (Builtin.append_ #[40, 40] ty #[v, .slice (some a) 1 c]).run Try.prog w = .ok v' w') ∧ OwnI w' B v' (zs ++ [z]) ∧ Below B w w' ∧ ∀ g c bs, RowB w g c bs → RowB w' g c bs := by
  have hsrc : Src Try.prog Try.t3.size 40 (.slice (some a) 1 c) 1 [.int .i64 (z : Nat)] w := Src.ofSlice w Try.underlying40 a 1 c _ (by rw [t3_size]; rfl) (fun j u hu => by
    have hj : j = 0 := by
      rcases Nat.lt_or_ge j 1 with h | h
      · omega
      · rw [List.getElem?_eq_none (by simpa using h)] at hu; cases hu
    subst hj
    obtain rfl : Value.int .i64 (z : Nat) = u := by simpa using hu
    simpa [Addr.add] using ha) (fun u hu => by
    simp only [List.mem_cons, List.not_mem_nil, or_false] at hu
    rw [hu]; rfl)
  have hcl : (cellsI zs).length = zs.length := by simp [cellsI]
  obtain ⟨base, sLen, sCap, rfl, hsl, hbase, hoth⟩ : ∃ (base : Option Addr) (sLen sCap : Nat), v = .slice base sLen sCap ∧ sLen = zs.length ∧ ((base = none ∧ sLen = 0 ∧ sCap = 0 ∧ 0 < 1) ∨ ∃ g, base = some ⟨g, 0, none⟩ ∧ B ≤ g ∧ sLen ≤ sCap ∧ RowC w g 3 (sCap * Try.t3.size) (cellsI zs)) ∧ ∀ g cs, w.heap[g]? = some (.cells cs 5 (0, 0)) → base ≠ some ⟨g, 0, none⟩ := by
    rcases h with ⟨rfl, rfl⟩ | ⟨g, c, n, rfl, rfl, _, h3, h4, h5⟩
    · exact ⟨none, 0, 0, rfl, rfl, .inl ⟨rfl, rfl, rfl, by omega⟩, fun _ _ _ e => by cases e⟩
    · refine ⟨_, _, _, rfl, rfl, .inr ⟨g, rfl, h3, h4, by rw [t3_size, Nat.mul_one]; exact h5⟩, fun g' cs hg e => ?_⟩
      obtain ⟨cs', h6, _⟩ := h5
      cases e
      rw [h6] at hg
      cases hg
  obtain ⟨g, cp, w', hr, hg, hrow, hb, hcp, _, _, hkeep⟩ := append_gen2 (P := Try.prog) w B 40 3 Try.t3 (.int .i64 0) Try.underlying40 t3_info t3_zero rfl base sLen sCap (cellsI zs) (by rw [hcl, t3_size, hsl, Nat.mul_one]) _ 1 _ hsrc hB hbase (by rw [t3_bytes]; omega) (by omega)
  refine ⟨_, w', hr, .inr ⟨g, cp, _, rfl, by simp [hsl], by omega, hg, hcp, ?_⟩, hb, fun g' c' bs hr' => ?_⟩
  · rw [t3_size, Nat.mul_one] at hrow
    have : cellsI (zs ++ [z]) = cellsI zs ++ [.int .i64 (z : Nat)] := by simp [cellsI]
    rw [this]
    exact hrow
  · obtain ⟨cs, h1, h2, h3⟩ := hr'
    exact ⟨cs, (hkeep g' (lt_of_heap h1) (hoth g' cs h1)).trans h1, h2, h3⟩

set_option maxRecDepth 100000 in
set_option maxHeartbeats 2000000 in
theorem rowOf_any (a : Option Addr) (n c : Nat) (fs : List Frm) (w : World) (h : Frs w (.slice a n c) fs) (hn : n ≤ 40) (ht : tot fs ≤ 4000) :
    Calls Try.prog 20 #[.slice a n c] w fun e w' => ∃ bv ev, e = .returned (.tuple #[bv, ev]) ∧ OwnB w' w.heap.size bv (Fr.rowB fs) ∧ OwnI w' w.heap.size ev ((List.range n).map (Fr.endAt fs)) ∧ Below w.heap.size w w' := by
  have hl := h.len
  have H := hide h
  have HL := hide hl
  have HT := hide ht
  clear h hl ht
  go_enter Try.func20, Try.ntmps20
  go_wp2
  go_loopw [4, 5, 6] (fun bv ev iv wr => ∃ k : Nat, iv = .int .i64 (k : Nat) ∧ k ≤ n ∧ OwnB wr w.heap.size bv (Fr.rowB (fs.take k)) ∧ OwnI wr w.heap.size ev ((List.range k).map (Fr.endAt fs)) ∧ Below w.heap.size w wr) (fun _ _ iv _ => n - (intOf iv).toNat)
  case atStart => exact ⟨0, rfl, Nat.zero_le _, .inl ⟨by rw [List.take_zero]; rfl, rfl⟩, .inl ⟨rfl, rfl⟩, Below.refl _ _⟩
  case round =>
    obtain ⟨k, rfl, hk, hob, hoi, hb⟩ := hrel
    have HOB := hide hob
    have HOI := hide hoi
    have HB := hide hb
    clear hob hoi hb
    by_cases hkn : k < n
    · have hkf : k < fs.length := by have := HL.out; omega
      obtain ⟨a1, c1, e1, g1⟩ := H.out.below HB.out
      cases e1
      obtain ⟨b, off, rfl, x1, ba, bc, x2, x3⟩ := g1 k fs[k] (List.getElem?_eq_getElem hkf)
      have hsz : (Fr.rowB (fs.take k)).length ≤ 4480 ∧ fs[k].2.length ≤ 4000 := by
        have h1 : (Fr.rowB (fs.take k)).length = tot (fs.take k) + 12 * (fs.take k).length := Fr.rowB_len _
        have h2 := tot_snoc fs k hkf
        have h3 : tot (fs.take (k + 1)) ≤ tot fs := by
          have : tot fs = tot (fs.take (k + 1)) + tot (fs.drop (k + 1)) := by
            unfold tot
            rw [← List.sum_append, ← List.map_append, List.take_append_drop]
          omega
        have h4 := HT.out
        have h5 : (fs.take k).length ≤ 40 := by rw [List.length_take]; omega
        omega
      have hsnoc : Fr.rowB (fs.take (k + 1)) = Fr.rowB (fs.take k) ++ Fr.frameB fs[k].1 fs[k].2 := by
        rw [List.take_succ_eq_append_getElem hkf, Fr.rowB_snoc]
      have HS := hide hsnoc
      generalize hkd : fs[k].1 = kd at *
      generalize hbd : fs[k].2 = body at *
      generalize hbl : body.length = bl at *
      have HBL := hide hbl
      have X3 := hide x3
      have i1 : (k : Int) < (fs.length : Int) := by omega
      have i0 : (0 : Int) ≤ (k : Int) := by omega
      clear x3 g1 hkd hbd hbl hsnoc
      go_wp2_with fail
      refine (append_any u4 (Fr.rowB (fs.take k)) kd ba bl bc body _ HOB.out.bytes X3.out (by omega) (by omega)).mono ?_
      rintro e w1 ⟨g, cp, m, rfl, hm, hg, hcp, hrow, b1⟩
      rw [← HS.out] at hm hrow
      have hg' : w.heap.size ≤ g := Nat.le_trans HB.out.size hg
      have B1 := hide (then_below HB.out b1 (Nat.le_refl _))
      have I1 := hide (HOI.out.below b1)
      have hm5 : m ≤ 1000000 ∧ 0 < m := by rw [hm, HS.out, List.length_append, Fr.frameB_length]; have := HBL.out; omega
      have b2 : Below w1.heap.size w1 (w1.alloc (.cells #[.int .i64 (m : Nat)] 3)) := (Below.refl _ _).alloc (Nat.le_refl _) _
      obtain ⟨ev', w3, hr3, i3, b3, hkeep⟩ := append_int (w1.alloc (.cells #[.int .i64 (m : Nat)] 3)) w.heap.size (Nat.le_trans B1.out.size b2.size) _ _ (I1.out.below b2) (by simp; omega) m ⟨w1.heap.size, 0, none⟩ 1 (by
          rw [cell_of_row _ _ _ _ _ _ (heap_alloc_new w1 _)]
          rfl)
      have R3 := hide (hkeep g cp _ (RowC.below hrow b2))
      have B3 := hide ((B1.out.trans (b2.mono B1.out.size)).trans b3)
      have I3 := hide i3
      have HR3 := hide hr3
      have HM := hide hm
      clear b1 b2 b3 i3 hr3 hkeep hrow hm
      go_wp2_with (at_builtin; refine wpList_append_run rfl _ _ 40 rfl _ _ rfl rfl _ _ (HR3.out _) ?_)
      go_roundw
      case rel =>
        refine ⟨k + 1, by go_num, by omega, .inr ⟨g, cp, m, rfl, HM.out, hm5.2, hg', hcp, R3.out⟩, ?_, B3.out⟩
        rw [List.range_succ, List.map_append, List.map_cons, List.map_nil, show Fr.endAt fs k = m from HM.out.symm]
        exact I3.out
      case measure => simp [intOf]; omega
    · obtain rfl : k = n := by omega
      have htk : fs.take k = fs := List.take_of_length_le (by have := HL.out; omega)
      have HTK := hide htk
      clear htk
      go_wp2_with fail
      go_returns
      exact ⟨_, _, rfl, by have := HOB.out; rw [HTK.out] at this; exact this, HOI.out, HB.out⟩
end Go.Proofs.Ytpighnknldhigaa
