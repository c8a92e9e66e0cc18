/-
  The chapter's examples: the whole of the law.
-/
import Derived.Test.YtkeglaplckfllaaAl
namespace Go.Proofs.Ytkeglaplckfllaa
open Go.RowKit
set_option maxRecDepth 100000
set_option maxHeartbeats 4000000
section
variable {x y : Tow}
theorem pl_twob (hx : x.e = eA) (hy : y.e = eB) : place ([98#8], 9) [y, x] = 2 := by
  have h1 : cmpE eA.en ([98#8], 9) = -1 := by decide
  have h2 : cmpE eB.en ([98#8], 9) = -1 := by decide
  simp [place, hx, hy, h1, h2]
theorem key_two (hx : x.e = eA) (hy : y.e = eB) : ∀ z, z ∈ [y, x] → z.e.key ≠ [] := fun z hz => by
  simp only [List.mem_cons, List.not_mem_nil, or_false] at hz
  rcases hz with rfl | rfl
  · rw [hy]; decide
  · rw [hx]; decide
end
theorem seek_none {A : Nat → Prop} {w : World} {t bg : Nat} {ts : List Tow} {ka : Option Addr} {kn kc seq : Nat} {key : List (BitVec 8)} (h : Tab A w t bg ts) (hk : Bytes w (.slice ka kn kc) key) (hn : ts.length ≤ 1000000) (hs : sizeT ts ≤ 1000000) (hp : ts[place (key, seq) ts]? = none) :
    Calls Try.prog 10 #[.pointer (some ⟨t, 0, none⟩), .slice ka kn kc, .int .u64 (seq : Nat)] w fun e w' => e = .returned (.tuple #[.agg #[.slice none 0 0, .int .u64 0, .int .i64 0, .slice none 0 0], .bool false]) ∧ Below w.heap.size w w' :=
  seek_any _ _ _ _ _ _ _ _ _ _ h hk hn hs _ (fun _ w' b => ⟨rfl, b⟩) (fun x hx => by rw [hp] at hx; cases hx)
theorem two_of {R : List Tow} {x y : Tow} (h : R.map (·.e) = [y, x].map (·.e)) (hy : y.e = eB) : ∃ r r', R = [r, r'] ∧ r.e = eB := by
  have hl : R.length = 2 := by simpa using congrArg List.length h
  obtain ⟨r, r', rfl⟩ : ∃ r r', R = [r, r'] := by
    cases R with
    | nil => cases hl
    | cons r l =>
      cases l with
      | nil => cases hl
      | cons r' l =>
        cases l with
        | nil => exact ⟨r, r', rfl⟩
        | cons _ _ => simp at hl
  simp only [List.map_cons, List.cons.injEq] at h
  exact ⟨r, r', rfl, h.1.trans hy⟩
theorem row_two {w : World} {B : Nat} {v : Value} {r r' : Tow} (h : ERow w B v [r, r']) (he : r.e = eB) : ∃ g c, v = .slice (some ⟨g, 0, none⟩) 2 c ∧ w.cell? ⟨g, 1, none⟩ = some (.int .u64 3) := by
  rcases h with ⟨h, _⟩ | ⟨g, c, n, rfl, rfl, _, _, cs, h1, h2, h3⟩
  · cases h
  · refine ⟨g, c, rfl, ?_⟩
    rw [cell_of_row w g 1 _ 29 _ h1]
    have := (entCells_at [r, r'] 0 r rfl).2.1
    rw [he] at this
    rw [h3 1 (by rw [entCells_length]; show 1 < 2 * 4; decide)]
    exact this
theorem smolD : Smol [((1 : Int), [98#8], [])] := ⟨by decide, by decide⟩
theorem smolE : Smol [((1 : Int), [], [])] := ⟨by decide, by decide⟩
theorem names_any (w : World) : Calls Try.prog 3 #[] w fun e w' => e = .returned (.bool true) ∧ Below w.heap.size w w' := by
  have hcv := conv26
  have HN := hide (new_any w)
  generalize hB : w.heap.size = B at *
  have HB := hide hB
  clear hB
  go_enter Try.func3, Try.ntmps3
  go_wp2_with fail
  refine HN.out.mono ?_
  rintro e w1 ⟨rfl, hT1, b1⟩
  have T1 := hide hT1
  have B1 := hide b1
  have hsz1 : B ≤ w1.heap.size := by have := b1.size; have := HB.out; omega
  generalize B + 1 = t at *
  clear hT1 b1 HN
  go_wp2_with fail
  refine (entry_any _ _ 1 w1).mono ?_
  rintro e w2 ⟨ka, kc, va, vc, rfl, hk, hv, b2⟩
  have I1 := hide (insert_new (From B) t B [] w2 ka va 1 kc 1 vc 1 1 [97#8] [120#8] (T1.out.quiet (Turns.of_below b2 _)) hk hv (by decide) smolA (by decide) (by decide) (by decide) 1 (by decide) (by decide) rfl)
  have B2 := hide (B1.out.trans (b2.mono hsz1))
  have hsz2 : B ≤ w2.heap.size := Nat.le_trans hsz1 b2.size
  clear hk hv b2 T1 B1
  go_wp2_with fail
  refine I1.out.mono ?_
  rintro e w3 ⟨rfl, x, hx, hxh, hT3, t3⟩
  have hx : x.e = eA := hx
  have T3 := hide (show Tab (From B) w3 t B [x] from hT3.from hsz2)
  have B3 := hide (B2.out.trans (t3.below hsz2 (fun k h => h)))
  have hsz3 : B ≤ w3.heap.size := Nat.le_trans hsz2 t3.size
  have HX := hide hx
  have HXH := hide hxh
  clear hT3 t3 I1 B2 hx hxh
  go_wp2_with fail
  refine (entry_any _ _ 3 w3).mono ?_
  rintro e w4 ⟨ka2, kc2, va2, vc2, rfl, hk, hv, b4⟩
  have I2 := hide (insert_new (From B) t B [x] w4 ka2 va2 1 kc2 1 vc2 3 1 [97#8] [121#8] (T3.out.quiet (Turns.of_below b4 _)) hk hv (by decide) smolB (by simp) (by rw [size_one HX.out]; decide) (by decide) 2 (by decide) (by decide) (by rw [pl_one HX.out]; exact at_one HX.out))
  have B4 := hide (B3.out.trans (b4.mono hsz3))
  have hsz4 : B ≤ w4.heap.size := Nat.le_trans hsz3 b4.size
  clear hk hv b4 T3 B3
  go_wp2_with fail
  refine I2.out.mono ?_
  rintro e w5 ⟨rfl, y, hy, hyh, hT5, t5⟩
  have hy : y.e = eB := hy
  rw [pl_one HX.out] at hT5
  have T5 := hide (show Tab (From B) w5 t B [y, x] from hT5.from hsz4)
  have B5 := hide (B4.out.trans (t5.below hsz4 (fun k h => h)))
  have hsz5 : B ≤ w5.heap.size := Nat.le_trans hsz4 t5.size
  have HY := hide hy
  have HYH := hide hyh
  clear hT5 t5 I2 B4 hy hyh
  go_wp2_with fail
  have tk6 : Turns (fun _ => False) w5 (w5.alloc (.cells #[.int .u8 98] 5 (1, 2))) := (Turns.refl _ _).alloc _
  have TA6 := hide (T5.out.quiet tk6)
  have S6 := hide (seek_none (seq := 9) TA6.out (Bytes.new w5 #[.int .u8 98] 5 1 (1, 2) [98#8] rfl) (by simp) (by rw [size_two HX.out HY.out]; decide) (by rw [pl_twob HX.out HY.out]; rfl))
  refine S6.out.mono ?_
  rintro e w6 ⟨rfl, b6⟩
  have hs6 : (w5.alloc (.cells #[.int .u8 98] 5 (1, 2))).heap.size = w5.heap.size + 1 := by simp
  have tw6 := tk6.trans (Turns.of_below b6 (fun _ => False))
  have T6 := hide (TA6.out.quiet (Turns.of_below b6 _))
  have hsz6 : B ≤ w6.heap.size := by have := b6.size; omega
  have B6 := hide (B5.out.trans (tw6.below hsz5 (fun _ h => h.elim)))
  clear b6 tk6 TA6 S6 tw6 hs6 T5 B5
  go_wp2_with fail
  have t6a : Turns (fun _ => False) w6 (w6.alloc (.cells #[.slice none 0 0, .int .u64 0, .int .i64 0, .slice none 0 0] 29)) := (Turns.refl _ _).alloc _
  have hs6 : (w6.alloc (.cells #[.slice none 0 0, .int .u64 0, .int .i64 0, .slice none 0 0] 29)).heap.size = w6.heap.size + 1 := by simp
  have T6 := hide (T6.out.quiet t6a)
  have B6 := hide (B6.out.trans (t6a.below hsz6 (fun _ h => h.elim)))
  have hsz6 : B ≤ (w6.alloc (.cells #[.slice none 0 0, .int .u64 0, .int .i64 0, .slice none 0 0] 29)).heap.size := by omega
  clear hs6 t6a
  generalize (w6.alloc (.cells #[.slice none 0 0, .int .u64 0, .int .i64 0, .slice none 0 0] 29)) = w6a at *
  have A7 := hide (all_any (From B) t B [y, x] w6a T6.out (key_two HX.out HY.out) (by simp) (by rw [size_two HX.out HY.out]; decide))
  refine A7.out.mono ?_
  rintro e w7 ⟨v, R, rfl, hrow, hsh, hR, b7⟩
  obtain ⟨r, r', rfl, hr⟩ := two_of hR HY.out
  obtain ⟨g, c, rfl, c7⟩ := row_two hrow hr
  have T7 := hide (T6.out.quiet (Turns.of_below b7 _))
  have hsz7 : B ≤ w7.heap.size := Nat.le_trans hsz6 b7.size
  have B7 := hide (B6.out.trans (b7.mono hsz6))
  have C7 := hide c7
  clear b7 T6 B6 A7 hrow hsh hR hr r r' c7
  go_wp2_with fail
  refine (lives_any w7).mono ?_
  rintro e w8 ⟨rfl, b8⟩
  have t8 := Turns.of_below b8 (fun _ => False)
  have c8 := t8.cell C7.out (fun x => x)
  have T8 := hide (T7.out.quiet t8)
  have hsz8 : B ≤ w8.heap.size := Nat.le_trans hsz7 b8.size
  have B8 := hide (B7.out.trans (b8.mono hsz7))
  clear b8 t8 T7 B7 C7
  go_wp2_with fail
  refine (entry_any _ _ 1 w8).mono ?_
  rintro e w9 ⟨ka3, kc3, va3, vc3, rfl, hk, hv, b9⟩
  have T9 := hide (T8.out.quiet (Turns.of_below b9 _))
  have I3 := hide (insert_high (From B) t B [y, x] w9 ka3 va3 1 kc3 0 vc3 1 1 13 [98#8] [] T9.out hk hv (by decide) smolD (by simp) (by rw [size_two HX.out HY.out]; decide) (by decide) (by decide))
  have B9 := hide (B8.out.trans (b9.mono hsz8))
  have hsz9 : B ≤ w9.heap.size := Nat.le_trans hsz8 b9.size
  clear hk hv b9 T8 B8
  go_wp2_with fail
  refine I3.out.mono ?_
  rintro e w10 ⟨rfl, b10⟩
  have T10 := hide (T9.out.quiet (Turns.of_below b10 _))
  have B10 := hide (B9.out.trans (b10.mono hsz9))
  have hsz10 : B ≤ w10.heap.size := Nat.le_trans hsz9 b10.size
  clear b10 T9 B9 I3
  go_wp2_with fail
  refine (entry_any _ _ 1 w10).mono ?_
  rintro e w11 ⟨ka4, kc4, va4, vc4, rfl, hk, hv, b11⟩
  have T11 := hide (T10.out.quiet (Turns.of_below b11 _))
  have I4 := hide (insert_wrong (From B) t B [y, x] w11 ka4 va4 0 kc4 0 vc4 1 1 1 [] [] T11.out hk hv (by decide) smolE (by simp) (by rw [size_two HX.out HY.out]; decide) (by decide))
  have B11 := hide (B10.out.trans (b11.mono hsz10))
  have hsz11 : B ≤ w11.heap.size := Nat.le_trans hsz10 b11.size
  clear hk hv b11 T10 B10
  go_wp2_with fail
  refine I4.out.mono ?_
  rintro e w12 ⟨rfl, b12⟩
  have T12 := hide (T11.out.quiet (Turns.of_below b12 _))
  have B12 := hide (B11.out.trans (b12.mono hsz11))
  clear b12 T11 B11 I4
  have hch : chk 1 [((1 : Int), [], [])] = 2 := by decide
  rw [hch]
  go_wp2_with fail
  refine (len_any (From B) t B [y, x] w12 T12.out).mono ?_
  rintro e w13 ⟨rfl, rfl⟩
  go_wp2_with fail
  go_ret
  exact ⟨rfl, B12.out⟩
end Go.Proofs.Ytkeglaplckfllaa
