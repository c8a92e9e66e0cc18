/-
  Whether a batch is gone through; own bytes; how batches are compared.
-/
import Derived.Test.YtpdlbepkkfoadaaKb
namespace Go.Proofs.Ytpdlbepkkfoadaa
open Go.RowKit
set_option maxRecDepth 100000
set_option maxHeartbeats 4000000
theorem tot_le (fs : List Wr) (M : Nat) (h : ∀ f ∈ fs, f.2.1.length ≤ M ∧ f.2.2.length ≤ M) : tot fs ≤ fs.length * (2 * M) := by
  induction fs with
  | nil => simp [tot]
  | cons f r ih =>
    have h1 := h f (by simp)
    have h2 := ih (fun g hg => h g (by simp [hg]))
    simp only [tot, List.map_cons, List.sum_cons, List.length_cons] at h2 ⊢
    rw [Nat.add_mul]
    omega
theorem small_few (s : Nat) (a : Option Addr) (n c : Nat) (xs : List Wr) (w : World) (h : Wrs w (.slice a n c) xs) (hn : n ≤ 300) (hb : ∀ f ∈ xs, f.2.1.length ≤ 140737488355328 ∧ f.2.2.length ≤ 140737488355328) :
    Calls Try.prog 11 #[.agg #[.int .u64 s, .slice a n c]] w fun e w' => e = .returned (.bool (decide (tot xs ≤ 20000))) ∧ Below w.heap.size w w' := by
  have hl := h.len
  have b0 := (Below.refl w.heap.size w).alloc (Nat.le_refl _) (.cells #[.int .u64 s, .slice a n c] 31)
  have x0 := heap_alloc_new w (.cells #[.int .u64 s, .slice a n c] 31)
  have H := hide (h.below b0)
  have HL := hide hl
  have HB := hide hb
  have B0 := hide b0
  have X0 := hide x0
  clear h hl hb b0 x0
  go_enter Try.func11, Try.ntmps11
  go_wp2_with fail
  generalize w.alloc (.cells #[.int .u64 s, .slice a n c] 31) = w0 at *
  have c1 : w0.cell? ⟨w.heap.size, 1, none⟩ = some (.slice a n c) := cell_of_row w0 _ 1 _ 31 (0, 0) X0.out
  go_loopw [3, 4] (fun s' i wr => ∃ k : Nat, i = .int .i64 (k : Nat) ∧ s' = .int .i64 (tot (xs.take k) : Nat) ∧ k ≤ n ∧ ∃ m, wr = w0.drewN m) (fun _ i _ => n - (intOf i).toNat)
  case atStart => exact ⟨0, rfl, rfl, Nat.zero_le _, 0, rfl⟩
  case round =>
    obtain ⟨k, rfl, rfl, hk, m, rfl⟩ := hrel
    by_cases hkn : k < n
    · have hkf : k < xs.length := by have := HL.out; omega
      have hts := tot_snoc xs k hkf
      have htl := tot_le (xs.take k) 140737488355328 (fun f hf => HB.out f (List.mem_of_mem_take hf))
      rw [List.length_take] at htl
      have htb : tot (xs.take k) ≤ 84442493013196800 := by
        have : min k xs.length ≤ 300 := by omega
        exact Nat.le_trans htl (Nat.mul_le_mul_right (2 * 140737488355328) this)
      have hle := HB.out xs[k] (List.getElem_mem hkf)
      obtain ⟨b, off, rfl, y0, ka, kc, va, vc, y1, y2, _, _⟩ := H.out.at k hkf
      have i1 : (k : Int) < (n : Int) := by omega
      have i0 : (0 : Int) ≤ (k : Int) := by omega
      generalize xs[k].2.1.length = kl at *
      generalize xs[k].2.2.length = vl at *
      generalize htk : tot (xs.take k) = tk at *
      obtain ⟨hl1, hl2⟩ := hle
      have HTS := hide hts
      clear hts htl y0 htk
      go_wp2_with fail
      go_quiet (fail)
      go_wp2_with fail
      go_roundw
      case rel =>
        refine ⟨k + 1, by go_num, ?_, by omega, _, rfl⟩
        rw [HTS.out]
        go_num
      case measure => simp [intOf]; omega
    · obtain rfl : k = n := by omega
      have ht : xs.take k = xs := List.take_of_length_le (by have := HL.out; omega)
      rw [ht]
      have h40 : (k : Int) ≤ 300 := by omega
      generalize hT : tot xs = T at *
      have HT := hide hT
      clear hT
      go_wp2_with fail
      go_ret
      exact ⟨by rw [HT.out]; simp; omega, belowN B0.out m⟩
theorem small_many (s : Nat) (a : Option Addr) (n c : Nat) (xs : List Wr) (w : World) (h : Wrs w (.slice a n c) xs) (hn : 300 < n) (hm : n ≤ 140737488355328) (hb : ∀ f ∈ xs, f.2.1.length ≤ 140737488355328 ∧ f.2.2.length ≤ 140737488355328) :
    Calls Try.prog 11 #[.agg #[.int .u64 s, .slice a n c]] w fun e w' => e = .returned (.bool false) ∧ Below w.heap.size w w' := by
  have hl := h.len
  have b0 := (Below.refl w.heap.size w).alloc (Nat.le_refl _) (.cells #[.int .u64 s, .slice a n c] 31)
  have x0 := heap_alloc_new w (.cells #[.int .u64 s, .slice a n c] 31)
  have H := hide (h.below b0)
  have HL := hide hl
  have HB := hide hb
  have B0 := hide b0
  have X0 := hide x0
  clear h hl hb b0 x0
  go_enter Try.func11, Try.ntmps11
  go_wp2_with fail
  generalize w.alloc (.cells #[.int .u64 s, .slice a n c] 31) = w0 at *
  have c1 : w0.cell? ⟨w.heap.size, 1, none⟩ = some (.slice a n c) := cell_of_row w0 _ 1 _ 31 (0, 0) X0.out
  go_loopw [3, 4] (fun s' i wr => ∃ (k : Nat) (z : Int), i = .int .i64 (k : Nat) ∧ s' = .int .i64 z ∧ -9223372036854775808 ≤ z ∧ z ≤ 9223372036854775807 ∧ k ≤ n ∧ ∃ m, wr = w0.drewN m) (fun _ i _ => n - (intOf i).toNat)
  case atStart => exact ⟨0, 0, rfl, rfl, by decide, by decide, Nat.zero_le _, 0, rfl⟩
  case round =>
    obtain ⟨k, z, rfl, rfl, z1, z2, hk, m, rfl⟩ := hrel
    by_cases hkn : k < n
    · have hkf : k < xs.length := by have := HL.out; omega
      have hle := HB.out xs[k] (List.getElem_mem hkf)
      obtain ⟨b, off, rfl, y0, ka, kc, va, vc, y1, y2, _, _⟩ := H.out.at k hkf
      have i1 : (k : Int) < (n : Int) := by omega
      have i0 : (0 : Int) ≤ (k : Int) := by omega
      generalize xs[k].2.1.length = kl at *
      generalize xs[k].2.2.length = vl at *
      obtain ⟨hl1, hl2⟩ := hle
      clear y0
      go_wp2_with fail
      go_quiet (fail)
      go_wp2_with fail
      go_roundw
      case rel => exact ⟨k + 1, _, by go_num, rfl, by unfold wrap64; omega, by unfold wrap64; omega, by omega, _, rfl⟩
      case measure => simp [intOf]; omega
    · obtain rfl : k = n := by omega
      have h40 : ¬ (k : Int) ≤ 300 := by omega
      go_wp2_with fail
      go_ret
      exact ⟨rfl, belowN B0.out m⟩
theorem own_any (v : Value) (bs : List (BitVec 8)) (w : World) (h : Bytes w v bs) (hn : bs.length ≤ 140737488355328) :
    Calls Try.prog 14 #[v] w fun e w' => ∃ g c, e = .returned (.slice (some ⟨g, 0, none⟩) bs.length c) ∧ w.heap.size ≤ g ∧ bs.length ≤ c ∧ RowB w' g c bs ∧ Below w.heap.size w w' := by
  have hb : Below w.heap.size w (w.alloc (.cells #[] 5)) := (Below.refl _ _).alloc (Nat.le_refl _) _
  obtain ⟨g, c, w2, hr, hg, hrow, hb2, hc, _⟩ := append_bytes2 (w.alloc (.cells #[] 5)) w.heap.size (some ⟨w.heap.size, 0, none⟩) 0 0 [] rfl v bs bs.length rfl (h.below hb) (by simp)
    (.inr ⟨_, rfl, Nat.le_refl _, Nat.le_refl _, #[], heap_alloc_new w _, Nat.le_refl _, fun k hk => by simp [cellsOf] at hk⟩) (by omega)
  rw [Nat.zero_add] at hr hc
  rw [List.nil_append] at hrow
  have HR := hide hr
  have HW := hide hrow
  have HB := hide (hb.trans hb2)
  clear hr hrow hb hb2 h
  generalize hn' : bs.length = n at *
  go_enter Try.func14, Try.ntmps14
  go_wp2_with (at_builtin; refine wpList_append_run rfl _ _ 22 rfl (.slice (some ⟨w.heap.size, 0, none⟩) 0 0) v rfl rfl _ _ (HR.out _) ?_)
  go_ret
  exact ⟨g, c, rfl, hg, hc, HW.out, HB.out⟩
theorem Bytes.drew' {w : World} {v : Value} {bs : List (BitVec 8)} (h : Bytes w v bs) : Bytes w.drew v bs := h
theorem batch_same (s : Nat) (a a' : Option Addr) (n c c' : Nat) (xs : List Wr) (w : World) (h : Wrs w (.slice a n c) xs) (h' : Wrs w (.slice a' n c') xs) (hm : Smol xs) :
    Calls Try.prog 15 #[.agg #[.int .u64 s, .slice a n c], .agg #[.int .u64 s, .slice a' n c']] w fun e w' => e = .returned (.bool true) ∧ Below w.heap.size w w' := by
  have hl := h.len
  have b0 := (Below.refl w.heap.size w).alloc (Nat.le_refl _) (.cells #[.int .u64 s, .slice a n c] 31)
  have x0 := heap_alloc_new w (.cells #[.int .u64 s, .slice a n c] 31)
  have b1 := (Below.refl _ (w.alloc (.cells #[.int .u64 s, .slice a n c] 31))).alloc (Nat.le_refl _) (.cells #[.int .u64 s, .slice a' n c'] 31)
  have x1 := heap_alloc_new (w.alloc (.cells #[.int .u64 s, .slice a n c] 31)) (.cells #[.int .u64 s, .slice a' n c'] 31)
  rw [World.size_alloc] at x1
  have X0 := hide (heap_keep b1 x0)
  have X1 := hide x1
  have B1 := hide (b0.trans (b1.mono b0.size))
  have H := hide ((h.below b0).below b1)
  have H' := hide ((h'.below b0).below b1)
  have HL := hide hl
  have HM := hide hm
  have hn : n ≤ 300 := by have := hm.len; omega
  clear h h' hl hm b0 x0 b1 x1
  go_enter Try.func15, Try.ntmps15
  go_wp2_with fail
  generalize (w.alloc (.cells #[.int .u64 s, .slice a n c] 31)).alloc (.cells #[.int .u64 s, .slice a' n c'] 31) = w0 at *
  generalize hA : w.heap.size = A at *
  have c0 : w0.cell? ⟨A, 0, none⟩ = some (.int .u64 s) := cell_of_row w0 _ 0 _ 31 (0, 0) X0.out
  have c1 : w0.cell? ⟨A, 1, none⟩ = some (.slice a n c) := cell_of_row w0 _ 1 _ 31 (0, 0) X0.out
  have d0 : w0.cell? ⟨A + 1, 0, none⟩ = some (.int .u64 s) := cell_of_row w0 _ 0 _ 31 (0, 0) X1.out
  have d1 : w0.cell? ⟨A + 1, 1, none⟩ = some (.slice a' n c') := cell_of_row w0 _ 1 _ 31 (0, 0) X1.out
  go_loopw [5] (fun i wr => ∃ k : Nat, i = .int .i64 (k : Nat) ∧ k ≤ n ∧ Below w0.heap.size w0 wr) (fun i _ => n - (intOf i).toNat)
  case atStart => exact ⟨0, rfl, Nat.zero_le _, Below.refl _ _⟩
  case round =>
    obtain ⟨k, rfl, hk, hb⟩ := hrel
    have HB := hide hb
    have e1 := (hb.cell (block_lt_of_cell c1)).trans c1
    have e2 := (hb.cell (block_lt_of_cell d1)).trans d1
    by_cases hkn : k < n
    · have hkf : k < xs.length := by have := HL.out; omega
      obtain ⟨b, off, rfl, y0, ka, kc, va, vc, y1, y2, hk1, hv1⟩ := (H.out.below hb).at k hkf
      obtain ⟨b', off', rfl, z0, kb, kd, vb, vd, z1, z2, hk2, hv2⟩ := (H'.out.below hb).at k hkf
      have hme := tot_mem (List.getElem_mem hkf)
      have hto := HM.out.tot
      have i1 : (k : Int) < (n : Int) := by omega
      have i0 : (0 : Int) ≤ (k : Int) := by omega
      have K1 := hide hk1
      have V1 := hide hv1
      have K2 := hide hk2
      have V2 := hide hv2
      generalize xs[k] = x at *
      obtain ⟨kind, key, val⟩ := x
      simp only at *
      have hl1 : key.length ≤ 20000 := by omega
      have hl2 : val.length ≤ 20000 := by omega
      clear hb hk1 hv1 hk2 hv2 hme hto c0 c1 d0 d1
      go_wp2_with fail
      have e1a := fun o => alloc_keep e1 o
      have e1b := fun o o' => alloc_keep (e1a o) o'
      have e2a := fun o => alloc_keep e2 o
      have e2b := fun o o' => alloc_keep (e2a o) o'
      have y0a := fun o => alloc_keep y0 o
      have y0b := fun o o' => alloc_keep (y0a o) o'
      have y1a := fun o => alloc_keep y1 o
      have y1b := fun o o' => alloc_keep (y1a o) o'
      have y2a := fun o => alloc_keep y2 o
      have y2b := fun o o' => alloc_keep (y2a o) o'
      have z0a := fun o => alloc_keep z0 o
      have z0b := fun o o' => alloc_keep (z0a o) o'
      have z1a := fun o => alloc_keep z1 o
      have z1b := fun o o' => alloc_keep (z1a o) o'
      have z2a := fun o => alloc_keep z2 o
      have z2b := fun o o' => alloc_keep (z2a o) o'
      have KK1 : Hid (∀ o o' : Obj, Bytes ((wr.alloc o).alloc o') (.slice ka key.length kc) key) := hide (fun o o' => ((K1.out.below ((Below.refl _ _).alloc (Nat.le_refl _) o)).below ((Below.refl _ _).alloc (Nat.le_refl _) o')))
      have KK2 : Hid (∀ o o' : Obj, Bytes ((wr.alloc o).alloc o') (.slice kb key.length kd) key) := hide (fun o o' => ((K2.out.below ((Below.refl _ _).alloc (Nat.le_refl _) o)).below ((Below.refl _ _).alloc (Nat.le_refl _) o')))
      have VV1 : Hid (∀ o o' : Obj, Bytes ((wr.alloc o).alloc o') (.slice va val.length vc) val) := hide (fun o o' => ((V1.out.below ((Below.refl _ _).alloc (Nat.le_refl _) o)).below ((Below.refl _ _).alloc (Nat.le_refl _) o')))
      have VV2 : Hid (∀ o o' : Obj, Bytes ((wr.alloc o).alloc o') (.slice vb val.length vd) val) := hide (fun o o' => ((V2.out.below ((Below.refl _ _).alloc (Nat.le_refl _) o)).below ((Below.refl _ _).alloc (Nat.le_refl _) o')))
      have BW : Hid (∀ o o' : Obj, Below w0.heap.size w0 ((wr.alloc o).alloc o')) := hide (fun o o' => (HB.out.alloc HB.out.size o).alloc (Nat.le_trans HB.out.size (by simp)) o')
      clear K1 K2 V1 V2
      go_region
      all_goals clear e1a e1b e2a e2b y0a y0b y1a y1b y2a y2b z0a z0b z1a z1b z2a z2b
      all_goals go_wp2_with fail
      all_goals refine (bytes_any ka kb key.length key.length kc kd key key _ (Bytes.drew' (KK1.out _ _)) (Bytes.drew' (KK2.out _ _)) (by omega)).mono ?_
      all_goals rintro e w7 ⟨rfl, m7, hw7⟩
      all_goals subst hw7
      all_goals rw [decide_eq_true rfl]
      all_goals go_wp2_with fail
      all_goals refine (bytes_any va vb val.length val.length vc vd val val _ (Bytes.drewN (VV1.out _ _) (1 + m7)) (Bytes.drewN (VV2.out _ _) (1 + m7)) (by omega)).mono ?_
      all_goals rintro e w8 ⟨rfl, m8, hw8⟩
      all_goals rw [World.drewN_drewN] at hw8
      all_goals subst hw8
      all_goals rw [decide_eq_true rfl]
      all_goals go_wp2_with fail
      all_goals go_roundw
      case rel => exact ⟨k + 1, by go_num, by omega, by first | exact belowN (BW.out _ _) _ | exact belowN (BW.out _ _).drew _⟩
      case rel => exact ⟨k + 1, by go_num, by omega, by first | exact belowN (BW.out _ _) _ | exact belowN (BW.out _ _).drew _⟩
      all_goals simp [intOf]; omega
    · obtain rfl : k = n := by omega
      clear hb
      go_wp2_with fail
      go_ret
      exact ⟨rfl, by rw [hA]; exact B1.out.trans (HB.out.mono (by have := B1.out.size; rw [hA] at this; exact this))⟩
end Go.Proofs.Ytpdlbepkkfoadaa
