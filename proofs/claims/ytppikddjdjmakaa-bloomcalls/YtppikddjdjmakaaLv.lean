/-
  The chapter's examples.
-/
import Derived.Test.YtppikddjdjmakaaHs
import Derived.Lib.SlBytesConst
namespace Go.Proofs.Ytppikddjdjmakaa
open Go.RowKit
set_option maxRecDepth 100000
set_option maxHeartbeats 4000000
theorem conv25 (C : Array Value) (n c : Nat) (w : World) : (convert 25 25 (.slice (some ⟨w.heap.size, 0, none⟩) n c)).run Try.prog (w.alloc (.cells C 5)) = .ok (.slice (some ⟨w.heap.size, 0, none⟩) n c) (w.alloc (.cells C 5 (C.size, C.size + 1))) :=
  Lib.run_convert_bytes_const w 25 5 C n c Try.underlying25 Try.underlying5
theorem bytes_new (w : World) (C : Array Value) (fr : Nat × Nat) (n c : Nat) (bs : List (BitVec 8)) (hC : C = (cellsOf bs).toArray) (hn : n = bs.length) : Bytes (w.alloc (.cells C 5 fr)) (.slice (some ⟨w.heap.size, 0, none⟩) n c) bs := by
  subst hC hn
  refine ⟨_, c, rfl, fun k hk => ⟨w.heap.size, 0, rfl, ?_⟩⟩
  rw [Nat.zero_add, cell_of_row _ _ k _ 5 fr (heap_alloc_new w _)]
  simp [cellsOf, hk]
theorem bits_100 (w : World) : Calls Try.prog 6 #[.int .i64 100, .int .i64 10] w fun e w' => e = .returned (.tuple #[.int .i64 1000, .int .i64 6, .int .i64 0]) ∧ w' = w := bits_ok 100 10 (by decide) (by decide) (by decide) w
theorem bits_0 (w : World) : Calls Try.prog 6 #[.int .i64 0, .int .i64 10] w fun e w' => e = .returned (.tuple #[.int .i64 64, .int .i64 6, .int .i64 0]) ∧ w' = w := bits_ok 0 10 (by decide) (by decide) (by decide) w
theorem hash_nil (w : World) : Calls Try.prog 17 #[.slice none 0 0] w fun e w' => e = .returned (.int .u64 17280346270528514342) ∧ w' = w := by
  have h := hash_any none 0 0 [] w (Bytes.empty w) (by decide)
  rw [show (hashB []).toNat = 17280346270528514342 by kernel_rfl] at h
  exact h
theorem hash_a (a : Option Addr) (c : Nat) (w : World) (hb : Bytes w (.slice a 1 c) [97#8]) : Calls Try.prog 17 #[.slice a 1 c] w fun e w' => e = .returned (.int .u64 9413272369427828315) ∧ w' = w := by
  have h := hash_any a 1 c [97#8] w hb (by decide)
  rw [show (hashB [97#8]).toNat = 9413272369427828315 by kernel_rfl] at h
  exact h
/-- Two keys of one byte each. -/
theorem make_ab (w : World) (g : Nat) (ka kb : Option Addr) (kc kd : Nat) (hg : w.heap[g]? = some (.cells #[.slice ka 1 kc, .slice kb 1 kd] 25 (0, 0))) (h1 : Bytes w (.slice ka 1 kc) [97#8]) (h2 : Bytes w (.slice kb 1 kd) [98#8]) :
    Calls Try.prog 7 #[.slice (some ⟨g, 0, none⟩) 2 2, .int .i64 10] w fun e w' => e = .returned (.tuple #[.slice (some ⟨w.heap.size, 0, none⟩) 9 9, .int .i64 0]) ∧ FRow w' w.heap.size (filt [[97#8], [98#8]] 10) ∧ Below w.heap.size w w' := by
  refine make_ok (some ⟨g, 0, none⟩) 2 2 [[97#8], [98#8]] 10 w ⟨_, 2, rfl, fun i x hx => ?_⟩ (fun x hx => ?_) (by decide) (by decide) (by decide)
  · match i, hx with
    | 0, hx =>
      obtain rfl : [97#8] = x := by simpa using hx
      exact ⟨g, 0, ka, kc, rfl, cell_of_row w g 0 _ 25 (0, 0) hg, h1⟩
    | 1, hx =>
      obtain rfl : [98#8] = x := by simpa using hx
      exact ⟨g, 0, kb, kd, rfl, cell_of_row w g 1 _ 25 (0, 0) hg, h2⟩
    | i + 2, hx => simp at hx
  · rcases List.mem_cons.1 hx with rfl | hx
    · decide
    · obtain rfl := List.mem_singleton.1 hx
      decide
theorem make_a (w : World) (g : Nat) (ka : Option Addr) (kc : Nat) (hg : w.heap[g]? = some (.cells #[.slice ka 1 kc] 25 (0, 0))) (h1 : Bytes w (.slice ka 1 kc) [97#8]) :
    Calls Try.prog 7 #[.slice (some ⟨g, 0, none⟩) 1 1, .int .i64 10] w fun e w' => e = .returned (.tuple #[.slice (some ⟨w.heap.size, 0, none⟩) 9 9, .int .i64 0]) ∧ FRow w' w.heap.size (filt [[97#8]] 10) ∧ Below w.heap.size w w' := by
  refine make_ok (some ⟨g, 0, none⟩) 1 1 [[97#8]] 10 w ⟨_, 1, rfl, fun i x hx => ?_⟩ (fun x hx => ?_) (by decide) (by decide) (by decide)
  · match i, hx with
    | 0, hx =>
      obtain rfl : [97#8] = x := by simpa using hx
      exact ⟨g, 0, ka, kc, rfl, cell_of_row w g 0 _ 25 (0, 0) hg, h1⟩
    | i + 1, hx => simp at hx
  · obtain rfl := List.mem_singleton.1 hx
    decide
theorem frow_bytes {w : World} {g n c : Nat} {f : List (BitVec 8)} (h : FRow w g f) (hn : n = f.length) : Bytes w (.slice (some ⟨g, 0, none⟩) n c) f := (h.row (Nat.le_refl _)).bytes hn
theorem lives_any (w : World) : Calls Try.prog 8 #[] w fun e w' => e = .returned (.bool true) ∧ Below w.heap.size w w' := by
  have cv1 := conv25 #[.int .u8 97] 1 1 w
  have cv2 := conv25 #[.int .u8 98] 1 1 (w.alloc (.cells #[.int .u8 97] 5 (1, 2)))
  have x1 := bytes_new w #[.int .u8 97] (1, 2) 1 1 [97#8] rfl rfl
  have b1 := (Below.refl w.heap.size w).alloc (Nat.le_refl _) (.cells #[.int .u8 97] 5 (1, 2))
  have x2 := bytes_new (w.alloc (.cells #[.int .u8 97] 5 (1, 2))) #[.int .u8 98] (1, 2) 1 1 [98#8] rfl rfl
  have b2 := (Below.refl _ (w.alloc (.cells #[.int .u8 97] 5 (1, 2)))).alloc (Nat.le_refl _) (.cells #[.int .u8 98] 5 (1, 2))
  have x1 := x1.below b2
  have bb := b1.trans (b2.mono b1.size)
  rw [World.size_alloc] at cv2 x2
  clear b1 b2
  have n3 := heap_alloc_new ((w.alloc (.cells #[.int .u8 97] 5 (1, 2))).alloc (.cells #[.int .u8 98] 5 (1, 2))) (.cells #[.slice (some ⟨w.heap.size, 0, none⟩) 1 1, .slice (some ⟨w.heap.size + 1, 0, none⟩) 1 1] 25)
  have b3 := (Below.refl _ ((w.alloc (.cells #[.int .u8 97] 5 (1, 2))).alloc (.cells #[.int .u8 98] 5 (1, 2)))).alloc (Nat.le_refl _) (.cells #[.slice (some ⟨w.heap.size, 0, none⟩) 1 1, .slice (some ⟨w.heap.size + 1, 0, none⟩) 1 1] 25)
  have HMK := hide (make_ab _ _ _ _ 1 1 n3 (x1.below b3) (x2.below b3))
  simp only [World.size_alloc] at HMK
  have hsB : w.heap.size ≤ ((w.alloc (.cells #[.int .u8 97] 5 (1, 2))).alloc (.cells #[.int .u8 98] 5 (1, 2))).heap.size := by rw [World.size_alloc, World.size_alloc]; omega
  have BB := hide (bb.trans (b3.mono hsB))
  clear n3 x1 x2 b3 bb hsB
  go_enter Try.func8, Try.ntmps8
  go_wp2_with fail
  refine (bits_100 _).mono ?_
  rintro e w1 ⟨rfl, rfl⟩
  go_wp2_with fail
  refine (bits_0 _).mono ?_
  rintro e w2 ⟨rfl, rfl⟩
  go_wp2_with fail
  refine HMK.out.mono ?_
  rintro e w3 ⟨rfl, hrow, b3⟩
  have HROW := hide hrow
  have hb3 := BB.out.trans (b3.mono (by omega))
  have B3 := hide hb3
  have hs3 := hb3.size
  clear HMK hrow b3 hb3 cv1 cv2 BB
  have cv3 := conv25 #[.int .u8 97] 1 1 w3
  have x3 := bytes_new w3 #[.int .u8 97] (1, 2) 1 1 [97#8] rfl rfl
  have X3 := hide x3
  have b4 := (Below.refl w3.heap.size w3).alloc (Nat.le_refl _) (.cells #[.int .u8 97] 5 (1, 2))
  have B4 := hide b4
  clear x3 b4
  go_wp2_with fail
  refine (hash_nil _).mono ?_
  rintro e w5 ⟨rfl, hw5⟩
  subst hw5
  go_wp2_with fail
  refine (hash_a _ _ _ X3.out).mono ?_
  rintro e w6 ⟨rfl, hw6⟩
  have B6 : Hid (Below w2.heap.size w2 w6) := hide (by rw [hw6]; exact B3.out.trans (B4.out.mono hs3))
  have F6 : Hid (FRow w6 (w2.heap.size + 1 + 1 + 1) (filt [[97#8], [98#8]] 10)) := hide (by rw [hw6]; exact heap_keep B4.out HROW.out)
  have hs6 := B6.out.size
  clear hw6 cv3 X3 B4 B3 HROW
  have cv4 := conv25 #[.int .u8 97] 1 1 w6
  have x4 := bytes_new w6 #[.int .u8 97] (1, 2) 1 1 [97#8] rfl rfl
  have b7 := (Below.refl w6.heap.size w6).alloc (Nat.le_refl _) (.cells #[.int .u8 97] 5 (1, 2))
  have HHS := hide (has_any (some ⟨w2.heap.size + 1 + 1 + 1, 0, none⟩) (some ⟨w6.heap.size, 0, none⟩) 9 9 1 1 (filt [[97#8], [98#8]] 10) [97#8] _ ((frow_bytes F6.out (by rw [filt_length]; rfl)).below b7) x4 (by decide))
  rw [show hasB (filt [[97#8], [98#8]] 10) [97#8] = true by kernel_rfl] at HHS
  have B7 := hide (B6.out.trans (b7.mono hs6))
  have hs7 := B7.out.size
  clear x4 b7
  go_wp2_with fail
  refine HHS.out.mono ?_
  rintro e w8 ⟨rfl, b8⟩
  have B8 := hide (B7.out.trans (b8.mono hs7))
  clear b8 HHS
  go_wp2_with fail
  go_ret
  exact ⟨rfl, B8.out⟩
end Go.Proofs.Ytppikddjdjmakaa
