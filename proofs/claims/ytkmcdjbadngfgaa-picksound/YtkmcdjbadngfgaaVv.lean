/-
  Adds in memory; one file more at the end of a list.
-/
import Derived.Test.YtkmcdjbadngfgaaVl
namespace Go.Proofs.Ytkmcdjbadngfgaa
open Go.RowKit
set_option maxRecDepth 100000
set_option maxHeartbeats 4000000
theorem append_fl (w : World) (B : Nat) (a : Option Addr) (c : Nat) (R : List Tf) (h : RowOk w B a c R) (hB : B ≤ w.heap.size) (hlen : R.length ≤ 1000000) (y : Tf) (g cy : Nat) (hg : w.heap[g]? = some (.cells y.cells.toArray 29 (0, 0))) :
    ∃ (a' : Option Addr) (n' c' : Nat) (w' : World), (∀ ty, (Builtin.append_ #[31, 31] ty #[.slice a R.length c, .slice (some ⟨g, 0, none⟩) 1 cy]).run Try.prog w = .ok (.slice a' n' c') w') ∧ n' = (R ++ [y]).length ∧ RowOk w' B a' c' (R ++ [y]) ∧ Turns (fun j => a = some ⟨j, 0, none⟩) w w' ∧ (∀ q, a' = some ⟨q, 0, none⟩ → a = some ⟨q, 0, none⟩ ∨ w.heap.size ≤ q) := by
  have hsrc : Src Try.prog Try.t29.size 31 (.slice (some ⟨g, 0, none⟩) 1 cy) 1 y.cells w := Src.ofSlice w Try.underlying31 ⟨g, 0, none⟩ 1 cy _ (by rw [t37_size]; rfl) (fun j u hu => by
    rw [Go.WideShapes.add_plain, Nat.zero_add, cell_of_row w g j _ 29 (0, 0) hg]
    simpa using hu) (fun u hu => y.cells_one u hu)
  have hbase : (a = none ∧ R.length = 0 ∧ c = 0 ∧ 0 < 1) ∨ ∃ g, a = some ⟨g, 0, none⟩ ∧ B ≤ g ∧ R.length ≤ c ∧ RowC w g 29 (c * Try.t29.size) (flCells R) := by
    rcases h with ⟨rfl, rfl, rfl⟩ | ⟨g, e, h1, h2, h3⟩
    · exact .inl ⟨rfl, rfl, rfl, by omega⟩
    · exact .inr ⟨g, e, h1, h2, by rw [t37_size]; exact h3⟩
  obtain ⟨g', cp, w', hr, hg', hrow, hb, hcp, hin, hnew, hkeep⟩ := append_gen2 (P := Try.prog) w B 31 29 Try.t29 _ Try.underlying31 info37 t37_zero rfl a R.length c (flCells R) (by rw [t37_size, flCells_length]) _ 1 _ hsrc hB hbase (by rw [t37_bytes]; omega) (by omega)
  refine ⟨some ⟨g', 0, none⟩, _, cp, w', hr, by simp, .inr ⟨g', rfl, hg', by simpa using hcp, ?_⟩, ⟨hb.os, hb.tape, hb.output, hb.size, fun k hk hn => hkeep k hk hn⟩, fun q e => ?_⟩
  · rw [t37_size] at hrow
    rw [flCells_append]
    simpa [flCells] using hrow
  · cases e
    rcases Nat.lt_or_ge c (R.length + 1) with h1 | h1
    · exact .inr (by rw [hnew h1]; exact Nat.le_refl _)
    · exact .inl (hin h1).1
/-- Adds in memory. -/
def Adds (w : World) (a : Option Addr) (A : List (Int × Tf)) : Prop := ∀ (k : Nat) (d : Int × Tf), A[k]? = some d → (∃ b off, a = some ⟨b, off, none⟩ ∧ w.cell? ⟨b, off + k * 7, none⟩ = some (.int .i64 d.1) ∧ F6 w b (off + k * 7 + 1) d.2) ∧ FB w d.2
theorem Adds.quiet {w w' : World} {a : Option Addr} {A : List (Int × Tf)} (h : Adds w a A) (t : Turns (fun _ => False) w w') : Adds w' a A := fun k d hd => by
  obtain ⟨⟨b, off, e, c1, c2⟩, h3⟩ := h k d hd
  exact ⟨⟨b, off, e, t.cell c1 (fun x => x), c2.quiet t⟩, h3.quiet t⟩
def okAdds : (Nat → Option Int) → List (Int × Nat) → Bool
  | _, [] => true
  | m, d :: r => (m d.2).isNone && okAdds (upd m d.2 (some d.1)) r
def addNos (A : List (Int × Tf)) : List (Int × Nat) := A.map fun d => (d.1, d.2.f.no)
theorem okAdds_drop {m m' : Nat → Option Int} {A : List (Int × Tf)} {k : Nat} {d : Int × Tf} (hd : A[k]? = some d) (h : okAdds m (addNos A) = okAdds m' (addNos (A.drop k))) : okAdds m (addNos A) = ((m' d.2.f.no).isNone && okAdds (upd m' d.2.f.no (some d.1)) (addNos (A.drop (k + 1)))) := by
  have hk := (List.getElem?_eq_some_iff.1 hd).1
  have e : A[k] = d := by rw [List.getElem?_eq_getElem hk] at hd; exact Option.some.inj hd
  rw [h, List.drop_eq_getElem_cons hk, e]
  rfl
def goodLev (z : Int) : Bool := decide (0 ≤ z) && decide (z < 5)
theorem isLevel_any (z : Int) (w : World) : Calls Try.prog 75 #[.int .i64 z] w fun e w' => e = .returned (.bool (goodLev z)) ∧ w' = w := by
  by_cases h1 : 0 ≤ z
  · go_enter Try.func75, Try.ntmps75
    go_wp2_with fail
    go_ret
    exact ⟨congrArg Ending.returned (congrArg Value.bool (Bool.eq_iff_iff.2 (by simp [goodLev]; omega))), rfl⟩
  · go_enter Try.func75, Try.ntmps75
    go_wp2_with fail
    go_ret
    exact ⟨congrArg Ending.returned (congrArg Value.bool (Bool.eq_iff_iff.2 (by simp [goodLev]; omega))), rfl⟩
/-- The files of adds on a level. -/
def addsOn (k : Nat) (A : List (Int × Tf)) : List Fl := (A.filter fun d => decide (d.1 = (k : Int))).map fun d => d.2.f
theorem addsOn_take {A : List (Int × Tf)} {i k : Nat} {d : Int × Tf} (h : A[i]? = some d) : addsOn k (A.take (i + 1)) = addsOn k (A.take i) ++ if d.1 = (k : Int) then [d.2.f] else [] := by
  unfold addsOn
  rw [List.take_add_one, h, List.filter_append, List.map_append]
  congr 1
  by_cases e : d.1 = (k : Int) <;> simp [e]
end Go.Proofs.Ytkmcdjbadngfgaa
