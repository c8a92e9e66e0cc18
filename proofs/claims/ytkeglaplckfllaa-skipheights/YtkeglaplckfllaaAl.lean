/-
  All: every entry of a table.
-/
import Derived.Test.YtkeglaplckfllaaFr
namespace Go.Proofs.Ytkeglaplckfllaa
open Go.RowKit Go.Shelf
set_option maxRecDepth 100000
set_option maxHeartbeats 4000000
theorem bytes_nil (w : World) : Bytes w (.slice none 0 0) [] := ⟨none, 0, rfl, fun k hk => by simp at hk⟩
theorem cmpB_none (k : List (BitVec 8)) (h : k ≠ []) : cmpB k [] = 1 := by
  cases k with
  | nil => exact absurd rfl h
  | cons a l => rfl
theorem place_first (n : Nat) : ∀ ts : List Tow, (∀ x, x ∈ ts → x.e.key ≠ []) → place ([], n) ts = 0
  | [], _ => rfl
  | x :: r, h => by
    unfold place
    have h1 := cmpB_none x.e.key (h x (List.mem_cons_self ..))
    rw [if_neg]
    unfold cmpE
    rw [show x.e.en.1 = x.e.key from rfl, h1, if_pos (by decide)]
    decide
theorem all_any (A : Nat → Prop) (t bg : Nat) (ts : List Tow) (w : World) (h : Tab A w t bg ts) (hk : ∀ x, x ∈ ts → x.e.key ≠ []) (hn : ts.length ≤ 100000) (hs : sizeT ts ≤ 900000) :
    Calls Try.prog 11 #[.pointer (some ⟨t, 0, none⟩)] w fun e w' => ∃ v R, e = .returned v ∧ ERow w' w.heap.size v R ∧ Shown w' w.heap.size R ∧ R.map (·.e) = ts.map (·.e) ∧ Below w.heap.size w w' := by
  have HL := hide (len_any A t bg ts w h)
  have HF := hide (from_any A t bg ts w none 0 0 [] (ts.length : Nat) h (bytes_nil w) hn hs)
  have HP := hide (place_first 18446744073709551615 ts hk)
  clear h hk hn hs
  go_enter Try.func11, Try.ntmps11
  go_wp2_with (first | (go_at_call 13; refine HL.out.mono ?_; rintro e w1 ⟨rfl, rfl⟩) | (go_at_call 29; refine HF.out.mono ?_; rintro e w1 ⟨v, R, rfl, h1, h2, h3, h4⟩))
  go_ret
  refine ⟨v, R, rfl, h1, h2, ?_, h4⟩
  rw [h3, HP.out, List.drop_zero, Int.toNat_natCast, List.take_of_length_le (by simp)]
end Go.Proofs.Ytkeglaplckfllaa
