/-
  The chapter's examples: lives.
-/
import Derived.Test.YtkeglaplckfllaaNw
namespace Go.Proofs.Ytkeglaplckfllaa
open Go.RowKit
set_option maxRecDepth 100000
set_option maxHeartbeats 4000000
theorem cmpE_same (k : List (BitVec 8)) (i j : Nat) : cmpE (k, i) (k, j) = if j < i then -1 else if i < j then 1 else 0 := by
  unfold cmpE
  rw [if_neg (by rw [(cmpB_zero k k).2 rfl]; exact fun h => h rfl)]
abbrev From (B : Nat) : Nat → Prop := fun k => B ≤ k
theorem Tab.from {B : Nat} {w w' : World} {t bg : Nat} {ts : List Tow} (h : Tab (Grow (From B) w) w' t bg ts) (hB : B ≤ w.heap.size) : Tab (From B) w' t bg ts := h.mono fun k _ hk => by
  rcases hk with hk | hk
  · exact hk
  · exact Nat.le_trans hB hk
def eA : Ent := ⟨[97#8], 1, 1, [120#8]⟩
def eB : Ent := ⟨[97#8], 3, 1, [121#8]⟩
section
variable {x y : Tow}
theorem pl_one (hx : x.e = eA) : place ([97#8], 3) [x] = 0 := by simp [place, hx, eA, Ent.en, cmpE_same]
theorem at_one (hx : x.e = eA) : atT [x] 0 ([97#8], 3) = none := by simp [atT, hx, eA, Ent.en, cmpE_same]
theorem pl_two (hy : y.e = eB) : place ([97#8], 3) [y, x] = 0 := by simp [place, hy, eB, Ent.en, cmpE_same]
theorem at_two (hy : y.e = eB) : atT [y, x] 0 ([97#8], 3) = some y := by simp [atT, hy, eB, Ent.en, cmpE_same]
theorem pl_two2 (hx : x.e = eA) (hy : y.e = eB) : place ([97#8], 2) [y, x] = 1 := by simp [place, hx, hy, eA, eB, Ent.en, cmpE_same]
theorem pl_two9 (hy : y.e = eB) : place ([97#8], 9) [y, x] = 0 := by simp [place, hy, eB, Ent.en, cmpE_same]
theorem pl_two0 (hx : x.e = eA) (hy : y.e = eB) : place ([97#8], 0) [y, x] = 2 := by simp [place, hx, hy, eA, eB, Ent.en, cmpE_same]
theorem size_one (hx : x.e = eA) : sizeT [x] = 34 := by simp [sizeT, hx, eA]
theorem size_two (hx : x.e = eA) (hy : y.e = eB) : sizeT [y, x] = 68 := by simp [sizeT, hx, hy, eA, eB]
end
theorem smolA : Smol [((1 : Int), [97#8], [120#8])] := ⟨by decide, by decide⟩
theorem smolB : Smol [((1 : Int), [97#8], [121#8])] := ⟨by decide, by decide⟩
theorem smolC : Smol [((1 : Int), [97#8], [122#8])] := ⟨by decide, by decide⟩
/-- Two entries are put in. -/
theorem lives_any (w : World) : Calls Try.prog 12 #[] w fun e w' => e = .returned (.bool true) ∧ Below w.heap.size w w' := by
  have hcv := conv26
  have HN := hide (new_any w)
  generalize hB : w.heap.size = B at *
  have HB := hide hB
  clear hB
  go_enter Try.func12, Try.ntmps12
  go_wp2_with fail
  refine HN.out.mono ?_
  rintro e w1 ⟨rfl, hT1, b1⟩
  have T1 := hide hT1
  have B1 := hide b1
  have hsz1 : B ≤ w1.heap.size := by have := b1.size; have := HB.out; omega
  generalize B + 1 = t at *
  clear hT1 b1 HN
  go_wp2_with fail
  refine (entry_any _ _ 1 w1).mono ?_
  rintro e w2 ⟨ka, kc, va, vc, rfl, hk, hv, b2⟩
  have I1 := hide (insert_new (From B) t B [] w2 ka va 1 kc 1 vc 1 1 [97#8] [120#8] (T1.out.quiet (Turns.of_below b2 _)) hk hv (by decide) smolA (by decide) (by decide) (by decide) 1 (by decide) (by decide) rfl)
  have B2 := hide (B1.out.trans (b2.mono hsz1))
  have hsz2 : B ≤ w2.heap.size := Nat.le_trans hsz1 b2.size
  clear hk hv b2 T1 B1
  go_wp2_with fail
  refine I1.out.mono ?_
  rintro e w3 ⟨rfl, x, hx, hxh, hT3, t3⟩
  have hx : x.e = eA := hx
  have T3 := hide (show Tab (From B) w3 t B [x] from hT3.from hsz2)
  have B3 := hide (B2.out.trans (t3.below hsz2 (fun k h => h)))
  have hsz3 : B ≤ w3.heap.size := Nat.le_trans hsz2 t3.size
  have HX := hide hx
  have HXH := hide hxh
  clear hT3 t3 I1 B2 hx hxh
  go_wp2_with fail
  refine (entry_any _ _ 3 w3).mono ?_
  rintro e w4 ⟨ka2, kc2, va2, vc2, rfl, hk, hv, b4⟩
  have I2 := hide (insert_new (From B) t B [x] w4 ka2 va2 1 kc2 1 vc2 3 1 [97#8] [121#8] (T3.out.quiet (Turns.of_below b4 _)) hk hv (by decide) smolB (by simp) (by rw [size_one HX.out]; decide) (by decide) 2 (by decide) (by decide) (by rw [pl_one HX.out]; exact at_one HX.out))
  have B4 := hide (B3.out.trans (b4.mono hsz3))
  have hsz4 : B ≤ w4.heap.size := Nat.le_trans hsz3 b4.size
  clear hk hv b4 T3 B3
  go_wp2_with fail
  refine I2.out.mono ?_
  rintro e w5 ⟨rfl, y, hy, hyh, hT5, t5⟩
  have hy : y.e = eB := hy
  rw [pl_one HX.out] at hT5
  have T5 := hide (show Tab (From B) w5 t B [y, x] from hT5.from hsz4)
  have B5 := hide (B4.out.trans (t5.below hsz4 (fun k h => h)))
  have hsz5 : B ≤ w5.heap.size := Nat.le_trans hsz4 t5.size
  have HY := hide hy
  have HYH := hide hyh
  clear hT5 t5 I2 B4 hy hyh
  go_wp2_with fail
  refine (entry_any _ _ 3 w5).mono ?_
  rintro e w6 ⟨ka3, kc3, va3, vc3, rfl, hk, hv, b6⟩
  have T6 := hide (T5.out.quiet (Turns.of_below b6 _))
  have I3 := hide (insert_there (From B) t B [y, x] w6 ka3 va3 1 kc3 1 vc3 3 1 2 [97#8] [122#8] T6.out hk hv (by decide) smolC (by simp) (by rw [size_two HX.out HY.out]; decide) (by decide) (by decide) y (by rw [pl_two HY.out]; exact at_two HY.out))
  have B6 := hide (B5.out.trans (b6.mono hsz5))
  have hsz6 : B ≤ w6.heap.size := Nat.le_trans hsz5 b6.size
  clear hk hv b6 T5 B5
  go_wp2_with fail
  refine I3.out.mono ?_
  rintro e w7 ⟨rfl, b7⟩
  have T7 := hide (T6.out.quiet (Turns.of_below b7 _))
  have B7 := hide (B6.out.trans (b7.mono hsz6))
  have hsz7 : B ≤ w7.heap.size := Nat.le_trans hsz6 b7.size
  clear b7 T6 B6 I3
  go_wp2_with fail
  have tk8 : Turns (fun _ => False) w7 (w7.alloc (.cells #[.int .u8 97] 5 (1, 2))) := (Turns.refl _ _).alloc _
  have TA8 := hide (T7.out.quiet tk8)
  have G8 := get_hit (From B) t B [y, x] (w7.alloc (.cells #[.int .u8 97] 5 (1, 2))) (some ⟨w7.heap.size, 0, none⟩) 1 1 2 [97#8] TA8.out (Bytes.new w7 #[.int .u8 97] 5 1 (1, 2) [97#8] rfl) (by simp) (by rw [size_two HX.out HY.out]; decide) x (by rw [pl_two2 HX.out HY.out]; rfl) (by rw [HX.out]; rfl)
  rw [HX.out] at G8
  simp only [eA, List.length_cons, List.length_nil] at G8
  have G8 := hide G8
  refine G8.out.mono ?_
  rintro e w8 ⟨k8, kc8, v8, vc8, rfl, _, hv8, b8⟩
  have hs8 : (w7.alloc (.cells #[.int .u8 97] 5 (1, 2))).heap.size = w7.heap.size + 1 := by simp
  have tw8 := tk8.trans (Turns.of_below b8 (fun _ => False))
  have tx8 : Turns (fun _ => False) w8 (w8.alloc (.cells #[.slice k8 1 kc8, .int .u64 1, .int .i64 1, .slice v8 1 vc8] 29)) := (Turns.refl _ _).alloc _
  have T9 := hide ((TA8.out.quiet (Turns.of_below b8 _)).quiet tx8)
  have hsz8 : B ≤ w8.heap.size := by have := b8.size; omega
  have hsz9 : B ≤ (w8.alloc (.cells #[.slice k8 1 kc8, .int .u64 1, .int .i64 1, .slice v8 1 vc8] 29)).heap.size := by simp; omega
  have B9 := hide (B7.out.trans ((tw8.trans tx8).below hsz7 (fun _ h => h.elim)))
  have R8 := hide (heap_alloc_new w8 (.cells #[.slice k8 1 kc8, .int .u64 1, .int .i64 1, .slice v8 1 vc8] 29))
  have V8 := hide (hv8.quiet tx8)
  clear hv8 b8 tk8 TA8 G8 T7 B7 hs8 tw8 tx8
  go_upto_region 5 with (fail)
  generalize w8.alloc (.cells #[.slice k8 1 kc8, .int .u64 1, .int .i64 1, .slice v8 1 vc8] 29) = w9 at *
  generalize w8.heap.size = g8 at *
  go_wp2_with fail
  have tk10 : Turns (fun _ => False) w9 (w9.alloc (.cells #[.int .u8 97] 5 (1, 2))) := (Turns.refl _ _).alloc _
  have TA10 := hide (T9.out.quiet tk10)
  have G10 := get_hit (From B) t B [y, x] (w9.alloc (.cells #[.int .u8 97] 5 (1, 2))) (some ⟨w9.heap.size, 0, none⟩) 1 1 9 [97#8] TA10.out (Bytes.new w9 #[.int .u8 97] 5 1 (1, 2) [97#8] rfl) (by simp) (by rw [size_two HX.out HY.out]; decide) y (by rw [pl_two9 HY.out]; rfl) (by rw [HY.out]; rfl)
  rw [HY.out] at G10
  simp only [eB, List.length_cons, List.length_nil] at G10
  have G10 := hide G10
  refine G10.out.mono ?_
  rintro e w10 ⟨k10, kc10, v10, vc10, rfl, _, hv10, b10⟩
  have hs10 : (w9.alloc (.cells #[.int .u8 97] 5 (1, 2))).heap.size = w9.heap.size + 1 := by simp
  have tw10 := tk10.trans (Turns.of_below b10 (fun _ => False))
  have tx10 : Turns (fun _ => False) w10 (w10.alloc (.cells #[.slice k10 1 kc10, .int .u64 3, .int .i64 1, .slice v10 1 vc10] 29)) := (Turns.refl _ _).alloc _
  have T11 := hide ((TA10.out.quiet (Turns.of_below b10 _)).quiet tx10)
  have hsz10 : B ≤ w10.heap.size := by have := b10.size; omega
  have hsz11 : B ≤ (w10.alloc (.cells #[.slice k10 1 kc10, .int .u64 3, .int .i64 1, .slice v10 1 vc10] 29)).heap.size := by simp; omega
  have B11 := hide (B9.out.trans ((tw10.trans tx10).below hsz9 (fun _ h => h.elim)))
  have R10 := hide (heap_alloc_new w10 (.cells #[.slice k10 1 kc10, .int .u64 3, .int .i64 1, .slice v10 1 vc10] 29))
  have V10 := hide (hv10.quiet tx10)
  have R8 := hide ((tw10.trans tx10).heap R8.out (fun h => h))
  have V8 := hide (V8.out.quiet (tw10.trans tx10))
  clear hv10 b10 tk10 TA10 G10 T9 B9 hs10 tw10 tx10
  go_upto_region 6 with (fail)
  generalize w10.alloc (.cells #[.slice k10 1 kc10, .int .u64 3, .int .i64 1, .slice v10 1 vc10] 29) = w11 at *
  generalize w10.heap.size = g10 at *
  go_wp2_with fail
  have tk12 : Turns (fun _ => False) w11 (w11.alloc (.cells #[.int .u8 97] 5 (1, 2))) := (Turns.refl _ _).alloc _
  have TA12 := hide (T11.out.quiet tk12)
  have G12 := hide (get_miss (From B) t B [y, x] (w11.alloc (.cells #[.int .u8 97] 5 (1, 2))) (some ⟨w11.heap.size, 0, none⟩) 1 1 0 [97#8] TA12.out (Bytes.new w11 #[.int .u8 97] 5 1 (1, 2) [97#8] rfl) (by simp) (by rw [size_two HX.out HY.out]; decide) (fun z hz => by rw [pl_two0 HX.out HY.out] at hz; simp at hz))
  refine G12.out.mono ?_
  rintro e w12 ⟨rfl, b12⟩
  have hs12 : (w11.alloc (.cells #[.int .u8 97] 5 (1, 2))).heap.size = w11.heap.size + 1 := by simp
  have tw12 := tk12.trans (Turns.of_below b12 (fun _ => False))
  have tx12 : Turns (fun _ => False) w12 (w12.alloc (.cells #[.slice none 0 0, .int .u64 0, .int .i64 0, .slice none 0 0] 29)) := (Turns.refl _ _).alloc _
  have T13 := hide ((TA12.out.quiet (Turns.of_below b12 _)).quiet tx12)
  have hsz12 : B ≤ w12.heap.size := by have := b12.size; omega
  have hsz13 : B ≤ (w12.alloc (.cells #[.slice none 0 0, .int .u64 0, .int .i64 0, .slice none 0 0] 29)).heap.size := by simp; omega
  have B13 := hide (B11.out.trans ((tw12.trans tx12).below hsz11 (fun _ h => h.elim)))
  have R12 := hide (heap_alloc_new w12 (.cells #[.slice none 0 0, .int .u64 0, .int .i64 0, .slice none 0 0] 29))
  have R8 := hide ((tw12.trans tx12).heap R8.out (fun h => h))
  have V8 := hide (V8.out.quiet (tw12.trans tx12))
  have R10 := hide ((tw12.trans tx12).heap R10.out (fun h => h))
  have V10 := hide (V10.out.quiet (tw12.trans tx12))
  clear b12 tk12 TA12 G12 T11 B11 hs12 tw12 tx12
  go_upto_region 7 with (fail)
  generalize w12.alloc (.cells #[.slice none 0 0, .int .u64 0, .int .i64 0, .slice none 0 0] 29) = w13 at *
  generalize w12.heap.size = g12 at *
  have l8 : w13.cell? ⟨g8, 3, none⟩ = some (.slice v8 1 vc8) := cell_of_row w13 g8 3 _ 29 (0, 0) R8.out
  have l10 : w13.cell? ⟨g10, 3, none⟩ = some (.slice v10 1 vc10) := cell_of_row w13 g10 3 _ 29 (0, 0) R10.out
  have cv8 : (convert 26 9 (.slice v8 1 vc8)).run Try.prog w13 = .ok (.string ⟨#[120]⟩) w13 := conv_any V8.out
  have cv10 : (convert 26 9 (.slice v10 1 vc10)).run Try.prog w13 = .ok (.string ⟨#[121]⟩) w13 := conv_any V10.out
  have SZ := sizeT_any (From B) t B [y, x] w13 T13.out
  rw [size_two HX.out HY.out] at SZ
  have SZ := hide SZ
  have tk14 : Turns (fun _ => False) w13 (w13.alloc (.cells #[.int .u8 97] 5 (1, 2))) := (Turns.refl _ _).alloc _
  have HH := height_any (From B) t B [y, x] (w13.alloc (.cells #[.int .u8 97] 5 (1, 2))) (some ⟨w13.heap.size, 0, none⟩) 1 1 3 [97#8] (T13.out.quiet tk14) (Bytes.new w13 #[.int .u8 97] 5 1 (1, 2) [97#8] rfl) (by simp)
  rw [pl_two HY.out, at_two HY.out] at HH
  simp only [Option.map_some, Option.getD_some, HYH.out] at HH
  have HH := hide HH
  have TK14 := hide tk14
  clear tk14
  go_wp2_with fail
  refine SZ.out.mono ?_
  rintro e w14 ⟨rfl, hw14⟩
  subst hw14
  go_wp2_with fail
  refine HH.out.mono ?_
  rintro e w15 ⟨rfl, b15⟩
  have BF := hide (B13.out.trans ((TK14.out.trans (Turns.of_below b15 (fun _ => False))).below hsz13 (fun _ h => h.elim)))
  clear b15
  go_wp2_with fail
  go_ret
  exact ⟨rfl, BF.out⟩
end Go.Proofs.Ytkeglaplckfllaa
