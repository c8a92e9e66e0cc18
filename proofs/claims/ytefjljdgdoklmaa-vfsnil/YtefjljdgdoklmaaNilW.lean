/-
  A file system that is not there, or that nobody made, refuses every call: the whole of the law.
-/
import Derived.Test.YtefjljdgdoklmaaNoF
import Derived.Test.YtefjljdgdoklmaaRen
import Derived.Test.YtefjljdgdoklmaaLiv
namespace Go.Proofs.Ytefjljdgdoklmaa
open Go.RowKit Go.Maps

theorem rename_no (p : Option Addr) (a b : ByteArray) (w : World) (h : NoFs w p) : Calls Try.prog 15 #[.pointer p, .string a, .string b] w (Says 1 w) :=
  rename_via p a b w _ fun w1 t1 _ _ _ _ => (operate_no p _ _ w1 (h.keep t1)).mono fun e w' ⟨he, hw⟩ => ⟨1, he, ⟨rfl, by rw [hw]; exact kept t1⟩, by rw [hw]; exact Turns.refl _ _⟩

/-- What the law's rounds look at. -/
structure Acts (w : World) (g q s : Nat) (cs : Array Value) : Prop where
  act : w.heap[g]? = some (.cells cs 49 (0, 0))
  fs : w.cell? ⟨q, 1, none⟩ = some (.map none)
  row : w.heap[s]? = some (.cells #[.pointer none, .pointer (some ⟨q, 0, none⟩)] 22 (0, 0))
theorem Acts.keep {w w' : World} {g q s : Nat} {cs : Array Value} (h : Acts w g q s cs) (b : Below w.heap.size w w') : Acts w' g q s cs :=
  ⟨heap_keep b h.act, (Turns.of_below b (fun _ => False)).cell h.fs (fun x => x), heap_keep b h.row⟩
theorem NoFs.below {w w' : World} {p : Option Addr} (h : NoFs w p) (b : Below w.heap.size w w') : NoFs w' p := h.keep (Turns.of_below b _)

set_option maxRecDepth 100000 in
set_option maxHeartbeats 8000000 in
theorem vnil_any (kind N M E : Int) (A C : ByteArray) (ba ka : Option Addr) (bn bc kn kc : Nat) (w : World) :
    Calls Try.prog 6 #[.agg #[.int .i64 kind, .string A, .string C, .slice ba bn bc, .int .i64 N, .int .i64 M, .int .i64 E, .slice ka kn kc]] w fun e w' => e = .returned (.bool true) ∧ Below w.heap.size w w' := by
  go_enter Try.func6, Try.ntmps6
  go_wp2_with fail
  have hb1 : Below w.heap.size w (((w.alloc (.cells #[.int .i64 kind, .string A, .string C, .slice ba bn bc, .int .i64 N, .int .i64 M, .int .i64 E, .slice ka kn kc] 49)).alloc (.cells #[.int .i64 0, .map none, .map none, .slice none 0 0, .int .i64 0, .int .i64 0, .bool false, .int .i64 0, .int .i64 0, .int .i64 0, .int .i64 0] 57)).alloc (.cells #[.pointer none, .pointer (some ⟨w.heap.size + 1, 0, none⟩)] 22)) := (((Below.refl _ _).alloc (Nat.le_refl _) _).alloc (by simp) _).alloc (by simp; omega) _
  have ha : Acts (((w.alloc (.cells #[.int .i64 kind, .string A, .string C, .slice ba bn bc, .int .i64 N, .int .i64 M, .int .i64 E, .slice ka kn kc] 49)).alloc (.cells #[.int .i64 0, .map none, .map none, .slice none 0 0, .int .i64 0, .int .i64 0, .bool false, .int .i64 0, .int .i64 0, .int .i64 0, .int .i64 0] 57)).alloc (.cells #[.pointer none, .pointer (some ⟨w.heap.size + 1, 0, none⟩)] 22)) w.heap.size (w.heap.size + 1) (w.heap.size + 1 + 1) #[.int .i64 kind, .string A, .string C, .slice ba bn bc, .int .i64 N, .int .i64 M, .int .i64 E, .slice ka kn kc] := by
    refine ⟨?_, ?_, ?_⟩
    · exact (heap_alloc_old _ _ (by simp; omega)).trans ((heap_alloc_old _ _ (by simp)).trans (heap_alloc_new w _))
    · exact cell_of_row _ _ 1 _ 57 (0, 0) ((heap_alloc_old _ _ (by simp)).trans (heap_alloc2_new w _ _))
    · have := heap_alloc_new ((w.alloc (.cells #[.int .i64 kind, .string A, .string C, .slice ba bn bc, .int .i64 N, .int .i64 M, .int .i64 E, .slice ka kn kc] 49)).alloc (.cells #[.int .i64 0, .map none, .map none, .slice none 0 0, .int .i64 0, .int .i64 0, .bool false, .int .i64 0, .int .i64 0, .int .i64 0, .int .i64 0] 57)) (.cells #[.pointer none, .pointer (some ⟨w.heap.size + 1, 0, none⟩)] 22)
      rwa [show ((w.alloc (.cells #[.int .i64 kind, .string A, .string C, .slice ba bn bc, .int .i64 N, .int .i64 M, .int .i64 E, .slice ka kn kc] 49)).alloc (.cells #[.int .i64 0, .map none, .map none, .slice none 0 0, .int .i64 0, .int .i64 0, .bool false, .int .i64 0, .int .i64 0, .int .i64 0, .int .i64 0] 57)).heap.size = w.heap.size + 1 + 1 by simp] at this
  have HB1 := hide hb1
  have HA1 := hide ha
  clear hb1 ha
  generalize (((w.alloc (.cells #[.int .i64 kind, .string A, .string C, .slice ba bn bc, .int .i64 N, .int .i64 M, .int .i64 E, .slice ka kn kc] 49)).alloc (.cells #[.int .i64 0, .map none, .map none, .slice none 0 0, .int .i64 0, .int .i64 0, .bool false, .int .i64 0, .int .i64 0, .int .i64 0, .int .i64 0] 57)).alloc (.cells #[.pointer none, .pointer (some ⟨w.heap.size + 1, 0, none⟩)] 22)) = w1 at *
  generalize w.heap.size + 1 + 1 = s at *
  generalize w.heap.size + 1 = q at *
  generalize hg : w.heap.size = g at *
  go_loopw [4] (fun iv wr => ∃ i : Nat, iv = .int .i64 (i : Nat) ∧ i ≤ 2 ∧ Below w1.heap.size w1 wr) (fun iv _ => 2 - (intOf iv).toNat)
  case atStart => exact ⟨0, rfl, by omega, Below.refl _ _⟩
  case round =>
    obtain ⟨i, rfl, hi, hbr⟩ := hrel
    have HB := hide hbr
    have HA := hide (HA1.out.keep hbr)
    clear hbr
    by_cases hi2 : i < 2
    · have i1 : (i : Int) < 2 := by omega
      obtain ⟨p, hp, hn⟩ : ∃ p, wr.cell? ⟨s, i, none⟩ = some (.pointer p) ∧ NoFs wr p := by
        have hc := cell_of_row wr s i _ 22 (0, 0) HA.out.row
        have : i = 0 ∨ i = 1 := by omega
        rcases this with rfl | rfl
        · exact ⟨_, hc, .inl rfl⟩
        · exact ⟨_, hc, .inr ⟨_, rfl, HA.out.fs⟩⟩
      have HN := hide hn
      have a1 : wr.cell? ⟨g, 1, none⟩ = some (.string A) := cell_of_row wr g 1 _ 49 (0, 0) HA.out.act
      have a4 : wr.cell? ⟨g, 4, none⟩ = some (.int .i64 N) := cell_of_row wr g 4 _ 49 (0, 0) HA.out.act
      have a5 : wr.cell? ⟨g, 5, none⟩ = some (.int .i64 M) := cell_of_row wr g 5 _ 49 (0, 0) HA.out.act
      clear hn
      go_wp2_with fail
      refine (read_no p A N M _ HN.out).mono ?_
      rintro e v0 ⟨rfl, b⟩
      clear a1 a4 a5
      have HA := hide (HA.out.keep b)
      have HN := hide (HN.out.below b)
      have HB := hide (then_below HB.out b (Nat.le_refl _))
      clear b
      have c1 : v0.cell? ⟨g, 1, none⟩ = some (.string A) := cell_of_row v0 g 1 _ 49 (0, 0) HA.out.act
      go_wp2_with fail
      refine (create_no p A _ HN.out).mono ?_
      rintro e v1 ⟨rfl, b⟩
      clear c1
      have HA := hide (HA.out.keep b)
      have HN := hide (HN.out.below b)
      have HB := hide (then_below HB.out b (Nat.le_refl _))
      clear b
      have c1 : v1.cell? ⟨g, 1, none⟩ = some (.string A) := cell_of_row v1 g 1 _ 49 (0, 0) HA.out.act
      have c3 : v1.cell? ⟨g, 3, none⟩ = some (.slice ba bn bc) := cell_of_row v1 g 3 _ 49 (0, 0) HA.out.act
      go_wp2_with fail
      refine (append_no p A ba bn bc _ HN.out).mono ?_
      rintro e v2 ⟨rfl, b⟩
      clear c1 c3
      have HA := hide (HA.out.keep b)
      have HN := hide (HN.out.below b)
      have HB := hide (then_below HB.out b (Nat.le_refl _))
      clear b
      have c1 : v2.cell? ⟨g, 1, none⟩ = some (.string A) := cell_of_row v2 g 1 _ 49 (0, 0) HA.out.act
      go_wp2_with fail
      refine (sync_no p A _ HN.out).mono ?_
      rintro e v3 ⟨rfl, b⟩
      clear c1
      have HA := hide (HA.out.keep b)
      have HN := hide (HN.out.below b)
      have HB := hide (then_below HB.out b (Nat.le_refl _))
      clear b
      go_wp2_with fail
      refine (syncdir_no p _ HN.out).mono ?_
      rintro e v4 ⟨rfl, b⟩
      have HA := hide (HA.out.keep b)
      have HN := hide (HN.out.below b)
      have HB := hide (then_below HB.out b (Nat.le_refl _))
      clear b
      have c1 : v4.cell? ⟨g, 1, none⟩ = some (.string A) := cell_of_row v4 g 1 _ 49 (0, 0) HA.out.act
      have c2 : v4.cell? ⟨g, 2, none⟩ = some (.string C) := cell_of_row v4 g 2 _ 49 (0, 0) HA.out.act
      go_wp2_with fail
      refine (rename_no p A C _ HN.out).mono ?_
      rintro e v5 ⟨rfl, b⟩
      clear c1 c2
      have HA := hide (HA.out.keep b)
      have HN := hide (HN.out.below b)
      have HB := hide (then_below HB.out b (Nat.le_refl _))
      clear b
      have c1 : v5.cell? ⟨g, 1, none⟩ = some (.string A) := cell_of_row v5 g 1 _ 49 (0, 0) HA.out.act
      go_wp2_with fail
      refine (remove_no p A _ HN.out).mono ?_
      rintro e v6 ⟨rfl, b⟩
      clear c1
      have HA := hide (HA.out.keep b)
      have HN := hide (HN.out.below b)
      have HB := hide (then_below HB.out b (Nat.le_refl _))
      clear b
      have c4 : v6.cell? ⟨g, 4, none⟩ = some (.int .i64 N) := cell_of_row v6 g 4 _ 49 (0, 0) HA.out.act
      go_wp2_with fail
      refine (fuse_no p N _ HN.out).mono ?_
      rintro e v7 ⟨rfl, b⟩
      clear c4
      have HA := hide (HA.out.keep b)
      have HN := hide (HN.out.below b)
      have HB := hide (then_below HB.out b (Nat.le_refl _))
      clear b
      have c4 : v7.cell? ⟨g, 4, none⟩ = some (.int .i64 N) := cell_of_row v7 g 4 _ 49 (0, 0) HA.out.act
      have c6 : v7.cell? ⟨g, 6, none⟩ = some (.int .i64 E) := cell_of_row v7 g 6 _ 49 (0, 0) HA.out.act
      go_wp2_with fail
      refine (fault_no p N E _ HN.out).mono ?_
      rintro e v8 ⟨rfl, b⟩
      clear c4 c6
      have HA := hide (HA.out.keep b)
      have HN := hide (HN.out.below b)
      have HB := hide (then_below HB.out b (Nat.le_refl _))
      clear b
      have c4 : v8.cell? ⟨g, 4, none⟩ = some (.int .i64 N) := cell_of_row v8 g 4 _ 49 (0, 0) HA.out.act
      have c7 : v8.cell? ⟨g, 7, none⟩ = some (.slice ka kn kc) := cell_of_row v8 g 7 _ 49 (0, 0) HA.out.act
      go_wp2_with fail
      refine (crash_no p N ka kn kc _ HN.out).mono ?_
      rintro e v9 ⟨rfl, b⟩
      clear c4 c7
      have HA := hide (HA.out.keep b)
      have HN := hide (HN.out.below b)
      have HB := hide (then_below HB.out b (Nat.le_refl _))
      clear b
      have c1 : v9.cell? ⟨g, 1, none⟩ = some (.string A) := cell_of_row v9 g 1 _ 49 (0, 0) HA.out.act
      have c4 : v9.cell? ⟨g, 4, none⟩ = some (.int .i64 N) := cell_of_row v9 g 4 _ 49 (0, 0) HA.out.act
      go_wp2_with fail
      refine (turn_no p A N _ HN.out).mono ?_
      rintro e v10 ⟨rfl, b⟩
      clear c1 c4
      have HA := hide (HA.out.keep b)
      have HN := hide (HN.out.below b)
      have HB := hide (then_below HB.out b (Nat.le_refl _))
      clear b
      have c1 : v10.cell? ⟨g, 1, none⟩ = some (.string A) := cell_of_row v10 g 1 _ 49 (0, 0) HA.out.act
      go_wp2_with fail
      refine (size_no p A _ HN.out).mono ?_
      rintro e v11 ⟨rfl, b⟩
      clear c1
      have HA := hide (HA.out.keep b)
      have HN := hide (HN.out.below b)
      have HB := hide (then_below HB.out b (Nat.le_refl _))
      clear b
      go_wp2_with fail
      refine (names_no p _ HN.out).mono ?_
      rintro e v12 ⟨rfl, rfl⟩
      go_wp2_with fail
      refine (used_no p _ HN.out).mono ?_
      rintro e v13 ⟨rfl, b⟩
      have HA := hide (HA.out.keep b)
      have HN := hide (HN.out.below b)
      have HB := hide (then_below HB.out b (Nat.le_refl _))
      clear b
      go_wp2_with fail
      refine (on_no p _ HN.out).mono ?_
      rintro e v14 ⟨rfl, rfl⟩
      go_wp2_with fail
      refine (ops_no p _ HN.out).mono ?_
      rintro e v15 ⟨rfl, b⟩
      have HA := hide (HA.out.keep b)
      have HN := hide (HN.out.below b)
      have HB := hide (then_below HB.out b (Nat.le_refl _))
      clear b
      go_wp2_with fail
      go_roundw
      case rel => exact ⟨i + 1, by go_num, by omega, HB.out⟩
      case measure => simp [intOf]; omega
    · obtain rfl : i = 2 := by omega
      go_wp2_with fail
      refine (lives_any _).mono ?_
      rintro e w9 ⟨rfl, b⟩
      have BB := hide (then_below (then_below HB1.out HB.out (by have := HB1.out.size; omega)) b (by have := HB1.out.size; omega))
      clear b
      go_wp2_with fail
      go_ret
      exact ⟨rfl, by rw [hg]; exact BB.out⟩
end Go.Proofs.Ytefjljdgdoklmaa
