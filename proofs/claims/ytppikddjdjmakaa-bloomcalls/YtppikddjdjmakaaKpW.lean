/-
  BloomKeeps, walked.
-/
import Derived.Test.YtppikddjdjmakaaK1
import Derived.Test.YtppikddjdjmakaaOpK
namespace Go.Proofs.Ytppikddjdjmakaa
open Go.RowKit
set_option maxRecDepth 100000
set_option maxHeartbeats 4000000
def wtK (ks : List (List (BitVec 8))) : Nat := (ks.map List.length).sum
theorem wtK_snoc (ks : List (List (BitVec 8))) (i : Nat) (x : List (BitVec 8)) (h : ks[i]? = some x) : wtK (ks.take (i + 1)) = wtK (ks.take i) + x.length := by
  unfold wtK
  rw [List.take_add_one, h]
  simp
theorem wtK_le (M : Nat) : ∀ (ks : List (List (BitVec 8))), (∀ x, x ∈ ks → x.length ≤ M) → wtK ks ≤ ks.length * M
  | [], _ => by simp [wtK]
  | x :: r, h => by
    have h1 := wtK_le M r (fun y hy => h y (List.mem_cons_of_mem _ hy))
    have h2 := h x (List.mem_cons_self ..)
    unfold wtK at *
    rw [List.map_cons, List.sum_cons, List.length_cons, Nat.add_mul, Nat.one_mul]
    omega
theorem wtK_mem {ks : List (List (BitVec 8))} {x : List (BitVec 8)} (h : x ∈ ks) : x.length ≤ wtK ks := by
  unfold wtK
  induction ks with
  | nil => cases h
  | cons y r ih =>
    rw [List.map_cons, List.sum_cons]
    rcases List.mem_cons.1 h with rfl | h
    · omega
    · have := ih h; omega
theorem weigh_any (a : Option Addr) (m c : Nat) (ks : List (List (BitVec 8))) (w : World) (hk : Keys w (.slice a m c) ks) (hm : m ≤ 200) (hw : ∀ x, x ∈ ks → x.length ≤ 140737488355328) :
    Calls Try.prog 10 #[.slice a m c] w fun e w' => e = .returned (.int .i64 (wtK ks : Nat)) ∧ w' = w := by
  have hl := hk.len
  have HK := hide hk
  have HL := hide hl
  have HW := hide hw
  clear hk hl hw
  go_enter Try.func10, Try.ntmps10
  go_wp2_with fail
  go_loop [3, 4] (fun s i => ∃ k : Nat, i = .int .i64 (k : Nat) ∧ k ≤ m ∧ s = .int .i64 (wtK (ks.take k) : Nat)) (fun _ i => m - (intOf i).toNat)
  case atStart => exact ⟨0, rfl, Nat.zero_le _, rfl⟩
  case round =>
    obtain ⟨k, rfl, hkm, rfl⟩ := hrel
    by_cases hlt : k < m
    · obtain ⟨x, hx⟩ : ∃ x, ks[k]? = some x := ⟨_, List.getElem?_eq_getElem (by have := HL.out; omega)⟩
      obtain ⟨b, off, ka, kc, rfl, hcell, _⟩ := HK.out.at k x hx
      have hxl := HW.out x (List.mem_of_getElem? hx)
      have hs : wtK (ks.take k) ≤ 200 * 140737488355328 := by
        refine Nat.le_trans (wtK_le 140737488355328 _ (fun y hy => HW.out y (List.mem_of_mem_take hy))) (Nat.mul_le_mul_right _ ?_)
        rw [List.length_take]
        omega
      have HS := hide (wtK_snoc ks k x hx)
      generalize wtK (ks.take k) = s at *
      generalize x.length = xl at *
      have i1 : (k : Int) < (m : Int) := by omega
      have i0 : (0 : Int) ≤ (k : Int) := by omega
      clear hx
      go_wp2_with fail
      go_round
      case rel => exact ⟨k + 1, by go_num, by omega, by rw [HS.out]; go_num⟩
      case measure => simp [intOf]; omega
    · obtain rfl : k = m := by omega
      have HT := hide (show ks.take k = ks from List.take_of_length_le (by have := HL.out; omega))
      go_wp2_with fail
      go_ret
      exact ⟨ret_int (by rw [HT.out]), rfl⟩
theorem keeps_many (a : Option Addr) (m c' : Nat) (c : Int) (ia : Option Addr) (im ic : Nat) (w : World) (h : 200 < m) :
    Calls Try.prog 5 #[.slice a m c', .int .i64 c, .slice ia im ic] w fun e w' => e = .returned (.bool true) ∧ Below w.heap.size w w' := by
  have h' : 200 < (m : Int) := by omega
  go_enter Try.func5, Try.ntmps5
  go_wp2_with (go_at_call 8; refine (lives_any _).mono ?_; rintro e w1 ⟨rfl, b1⟩)
  go_ret
  exact ⟨rfl, b1⟩
theorem keeps_heavy (a : Option Addr) (m c' : Nat) (ks : List (List (BitVec 8))) (c : Int) (ia : Option Addr) (im ic : Nat) (w : World) (hk : Keys w (.slice a m c') ks) (hm : m ≤ 200) (hw : ∀ x, x ∈ ks → x.length ≤ 140737488355328) (h : 20000 < wtK ks ∨ 200 < im) :
    Calls Try.prog 5 #[.slice a m c', .int .i64 c, .slice ia im ic] w fun e w' => e = .returned (.bool true) ∧ Below w.heap.size w w' := by
  have h' : ¬ 200 < (m : Int) := by omega
  have HWG := hide (fun (W : World) (b : Below w.heap.size w W) => weigh_any a m c' ks W (hk.below b) hm hw)
  clear hk hw
  by_cases h2 : 20000 < wtK ks
  · generalize wtK ks = s at *
    have h2' : 20000 < (s : Int) := by omega
    clear h
    go_enter Try.func5, Try.ntmps5
    go_wp2_with (first | (go_at_call 8; refine (lives_any _).mono ?_; rintro e w1 ⟨rfl, b1⟩) | (go_at_call 10; refine (HWG.out w1 b1).mono ?_; rintro e w2 ⟨rfl, rfl⟩))
    go_ret
    exact ⟨rfl, b1⟩
  · generalize wtK ks = s at *
    have h2' : ¬ 20000 < (s : Int) := by omega
    have h3 : 200 < (im : Int) := by omega
    clear h
    go_enter Try.func5, Try.ntmps5
    go_wp2_with (first | (go_at_call 8; refine (lives_any _).mono ?_; rintro e w1 ⟨rfl, b1⟩) | (go_at_call 10; refine (HWG.out w1 b1).mono ?_; rintro e w2 ⟨rfl, rfl⟩))
    go_ret
    exact ⟨rfl, b1⟩
theorem keeps_bad (a : Option Addr) (m c' : Nat) (ks : List (List (BitVec 8))) (c : Int) (ia : Option Addr) (im ic : Nat) (w : World) (hk : Keys w (.slice a m c') ks) (hm : m ≤ 200) (hw : wtK ks ≤ 20000) (him : im ≤ 200) (h : c < 1 ∨ 64 < c) :
    Calls Try.prog 5 #[.slice a m c', .int .i64 c, .slice ia im ic] w fun e w' => e = .returned (.bool true) ∧ Below w.heap.size w w' := by
  have h' : ¬ 200 < (m : Int) := by omega
  have h2 : ¬ 200 < (im : Int) := by omega
  have HWG := hide (fun (W : World) (b : Below w.heap.size w W) => weigh_any a m c' ks W (hk.below b) hm (fun x hx => by have := wtK_mem hx; omega))
  have HMB := hide (fun W => make_bad a m c' c W h)
  clear hk
  generalize wtK ks = s at *
  have h3 : ¬ 20000 < (s : Int) := by omega
  by_cases h4 : c < 1
  · clear h
    go_enter Try.func5, Try.ntmps5
    go_wp2_with (first | (go_at_call 8; refine (lives_any _).mono ?_; rintro e w1 ⟨rfl, b1⟩) | (go_at_call 10; refine (HWG.out w1 b1).mono ?_; rintro e w2 ⟨rfl, rfl⟩) | (go_at_call 7; refine (HMB.out _).mono ?_; rintro e w3 ⟨rfl, rfl⟩))
    go_ret
    exact ⟨rfl, b1⟩
  · have h5 : 64 < c := by omega
    clear h
    go_enter Try.func5, Try.ntmps5
    go_wp2_with (first | (go_at_call 8; refine (lives_any _).mono ?_; rintro e w1 ⟨rfl, b1⟩) | (go_at_call 10; refine (HWG.out w1 b1).mono ?_; rintro e w2 ⟨rfl, rfl⟩) | (go_at_call 7; refine (HMB.out _).mono ?_; rintro e w3 ⟨rfl, rfl⟩))
    go_ret
    exact ⟨rfl, b1⟩
end Go.Proofs.Ytppikddjdjmakaa
