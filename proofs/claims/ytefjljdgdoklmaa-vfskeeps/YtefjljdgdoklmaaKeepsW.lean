/-
  What was synced, in a file whose name was synced, is there behind every crash, and of what was not a first part: the whole of the law.
-/
import Derived.Test.YtefjljdgdoklmaaOnd
import Derived.Test.YtefjljdgdoklmaaKit2
import Derived.Test.YtefjljdgdoklmaaLiv
import Derived.Deep.Light
namespace Go.Proofs.Ytefjljdgdoklmaa
open Go.RowKit Go.Maps

def nX : ByteArray := ⟨#[120]⟩
theorem goodX : goodN nX = true := by decide +kernel
theorem sizeX : nX.size ≤ maxLen := by decide
theorem chgX (g : Nat) : ∀ x ∈ [(⟨⟨#[]⟩, nX, some g⟩ : Chg)], x.went.size ≤ maxLen ∧ x.became.size ≤ maxLen := by
  intro x hx
  simp at hx
  subst hx
  exact ⟨by show (⟨#[]⟩ : ByteArray).size ≤ maxLen; decide, sizeX⟩
theorem leftN (limit : Int) (g : Nat) (S : DataW Unit) (bytes : List (BitVec 8)) (s : Nat) (used lost ops dir : Int) : (oneDisk limit g nX [] S bytes s used lost ops).left dir = S := by
  unfold Disk.left
  show ([].take _).foldl applyD S = S
  rw [List.take_nil]
  rfl
theorem left0 (limit : Int) (g : Nat) (bytes : List (BitVec 8)) (s : Nat) (used lost ops dir : Int) (h : max dir 0 % 2 = 0) : (oneDisk limit g nX [⟨⟨#[]⟩, nX, some g⟩] (.map []) bytes s used lost ops).left dir = .map [] := by
  unfold Disk.left
  show (List.take (max dir 0 % 2).toNat [(⟨⟨#[]⟩, nX, some g⟩ : Chg)]).foldl applyD (.map []) = .map []
  rw [h]
  rfl
theorem left1 (limit : Int) (g : Nat) (bytes : List (BitVec 8)) (s : Nat) (used lost ops dir : Int) (h : max dir 0 % 2 = 1) : (oneDisk limit g nX [⟨⟨#[]⟩, nX, some g⟩] (.map []) bytes s used lost ops).left dir = one nX g := by
  unfold Disk.left
  show (List.take (max dir 0 % 2).toNat [(⟨⟨#[]⟩, nX, some g⟩ : Chg)]).foldl applyD (.map []) = one nX g
  rw [h]
  exact apply_first nX g

theorem Bytes.first {w : World} {a : Option Addr} {n c : Nat} {bs : List (BitVec 8)} (h : Bytes w (.slice a n c) bs) (k : Nat) (hk : k ≤ bs.length) : Bytes w (.slice a k c) (bs.take k) := by
  obtain ⟨a', c', e, hc⟩ := h
  cases e
  have hl : (bs.take k).length = k := by rw [List.length_take]; omega
  refine ⟨a, c, by rw [hl], fun j hj => ?_⟩
  rw [hl] at hj
  obtain ⟨q, o, e1, e2⟩ := hc j (by omega)
  refine ⟨q, o, e1, ?_⟩
  rw [e2]
  congr 2
  simp [List.getD, hj]

theorem Bytes.keep0 {S : Nat → Prop} {w w' : World} {a : Option Addr} {n c : Nat} {bs : List (BitVec 8)} (h : Bytes w (.slice a n c) bs) (t : Turns S w w') (ha : ∀ q o, a = some ⟨q, o, none⟩ → 0 < n → ¬ S q) : Bytes w' (.slice a n c) bs := by
  have hl := h.len
  obtain ⟨a', c', e, hc⟩ := h
  have e3 : a = a' := by cases e; rfl
  refine ⟨a', c', e, fun k hk => ?_⟩
  obtain ⟨q, o, e1, e2⟩ := hc k hk
  exact ⟨q, o, e1, t.cell e2 (ha q o (e3.trans e1) (by omega))⟩
def kbOf (ys : List (BitVec 8)) (keep : Int) : Nat := (max keep 0 % ((ys.length : Int) + 1)).toNat
theorem kbOf_le (ys : List (BitVec 8)) (keep : Int) : kbOf ys keep ≤ ys.length := by
  unfold kbOf
  have e2 := Int.emod_lt_of_pos (max keep 0) (show (0 : Int) < (ys.length : Int) + 1 by omega)
  omega
theorem kbOf_eq (ys : List (BitVec 8)) (keep : Int) : (kbOf ys keep : Int) = max keep 0 % ((ys.length : Int) + 1) := by
  unfold kbOf
  have e1 := Int.emod_nonneg (max keep 0) (show (ys.length : Int) + 1 ≠ 0 by omega)
  omega
theorem crashX (xs ys : List (BitVec 8)) (keep : Int) : crashN ⟨xs ++ ys, xs.length⟩ keep = xs.length + kbOf ys keep := by
  unfold crashN kbOf
  simp only [List.length_append]
  congr 4
  omega
theorem takeX (xs ys : List (BitVec 8)) (k : Nat) : (xs ++ ys).take (xs.length + k) = xs ++ ys.take k := by
  rw [List.take_append, List.take_of_length_le (by omega)]
  congr 2
  omega
theorem crashS (zs : List (BitVec 8)) (n : Nat) (hn : n = zs.length) (keep : Int) : crashN ⟨zs, n⟩ keep = zs.length := by
  unfold crashN
  subst hn
  simp only [Int.sub_self, Int.zero_add, Int.emod_one]
  rfl
theorem ints_one (w : World) (z : Int) (t : TypeId) : Ints (w.alloc (.cells #[.int .i64 z] t)) (some ⟨w.heap.size, 0, none⟩) 1 [z] := by
  refine ⟨rfl, fun k hk => ⟨w.heap.size, 0, rfl, ?_⟩⟩
  obtain rfl : k = 0 := by omega
  exact cell_of_row _ _ 0 _ t (0, 0) (heap_alloc_new w _)

/-- An append in a region that draws, whose guard lets it by. -/
theorem step_append_wanted {P : Program} {ops : Array Oper} {o : Oper} {a : Act} {w : World} {K : Act → World → Prop} {Q : Exit → Act → World → Prop} {E : Prop} (hw : Region.wanted o (yielded ops a.tmps) = true) (s x : Operand) (t : TypeId)
    (ho : o.op = .call { callee := .builtin .append, args := #[s, x], argTypes := #[t, t] }) (vs vx : Value) (hs : a.eval s = vs) (hx : a.eval x = vx) (v : Value) (w' : World)
    (hr : (Builtin.append_ #[t, t] o.type #[vs, vx]).run P w = .ok v w') (d : Nat) (hd : o.dst = some d) (h : K (a.put (some d) v) w') :
    if Region.wanted o (yielded ops a.tmps) = true then Oper.wp P o a w K Q else E := by
  rw [if_pos hw]
  unfold Oper.wp execOp
  simp only [ho, resolve, invoke, builtin, Sem.run_bind, Sem.run_pure, Result.andThen_ok, List.map_toArray, List.map_cons, List.map_nil, hs, hx, hr]
  show K (a.put o.dst v) w'
  rw [hd]
  exact h

set_option maxRecDepth 100000 in
set_option maxHeartbeats 8000000 in
theorem vkeeps_any (aa ba : Option Addr) (an ac bn bc : Nat) (xs ys : List (BitVec 8)) (dir keep : Int) (named : Bool) (w : World) (ha : Bytes w (.slice aa an ac) xs) (hb : Bytes w (.slice ba bn bc) ys) (hbc : bn ≤ bc) (d1 : dir ≤ 9223372036854775807) (d2 : -9223372036854775808 ≤ dir) (p1 : keep ≤ 9223372036854775807) (p2 : -9223372036854775808 ≤ keep) :
    Calls Try.prog 7 #[.slice aa an ac, .slice ba bn bc, .int .i64 dir, .int .i64 keep, .bool named] w fun e w' => e = .returned (.bool true) ∧ Below w.heap.size w w' := by
  have hal := ha.len
  have hbl := hb.len
  have HA := hide ha
  have HB := hide hb
  clear ha hb
  by_cases h1 : 300 < an
  · have g1 : (300 : Int) < (an : Int) := by omega
    clear hal hbl
    go_enter Try.func7, Try.ntmps7
    go_wp2_with fail
    refine (lives_any _).mono ?_
    rintro e w1 ⟨rfl, b1⟩
    have B1 := hide b1
    clear b1
    go_wp2_with fail
    go_ret
    exact ⟨rfl, B1.out⟩
  by_cases h2 : 300 < bn
  · have g1 : ¬ (300 : Int) < (an : Int) := by omega
    have g2 : (300 : Int) < (bn : Int) := by omega
    clear hal hbl
    go_enter Try.func7, Try.ntmps7
    go_wp2_with fail
    refine (lives_any _).mono ?_
    rintro e w1 ⟨rfl, b1⟩
    have B1 := hide b1
    clear b1
    go_wp2_with fail
    go_ret
    exact ⟨rfl, B1.out⟩
  have g1 : ¬ (300 : Int) < (an : Int) := by omega
  have g2 : ¬ (300 : Int) < (bn : Int) := by omega
  have hla : xs.length ≤ 300 := by omega
  have hlb : ys.length ≤ 300 := by omega
  have HAL := hide hal
  have HBL := hide hbl
  clear hal hbl
  go_enter Try.func7, Try.ntmps7
  go_wp2_with fail
  refine (lives_any _).mono ?_
  rintro e w1 ⟨rfl, b1⟩
  have B1 := hide b1
  have hB1 := b1.size
  clear b1
  go_wp2_with fail
  refine (new_rep 10000 _ (by decide) (by decide)).mono ?_
  rintro e w2 ⟨rfl, r2, b2⟩
  have R2 := hide r2
  have B2 := hide b2
  have hB2 := b2.size
  clear r2 b2
  generalize hBB : w1.heap.size = B at *
  go_wp2_with fail
  refine (create_1 B (B + 2) nX 10000 0 _ R2.out (by omega) (by decide) (by decide) goodX sizeX).mono ?_
  rintro e w3 ⟨rfl, g, r3, b3⟩
  have R3 := hide r3
  have B3 := hide (B2.out.trans b3)
  have hB3 := B3.out.size
  have hF3 := r3.lt
  clear r3 b3 R2 B2
  go_wp2_with fail
  have tA3 : Below w.heap.size w w3 := B1.out.trans (B3.out.mono (by omega))
  refine (own_any _ xs _ (HA.out.below tA3) (by omega)).mono ?_
  rintro e w4 ⟨q4, c4, rfl, hq4, hc4, row4, b4⟩
  have R4 := hide (R3.out.quiet (Turns.of_below b4 _))
  have X4 : Hid (Bytes w4 (.slice (some ⟨q4, 0, none⟩) xs.length c4) xs) := RowB.bytes row4 rfl
  have B4 := hide (then_below B3.out b4 (by omega))
  have hB4 := B4.out.size
  clear row4 b4 R3 tA3
  go_wp2_with fail
  refine (append_1 B (B + 2) g nX [⟨⟨#[]⟩, nX, some g⟩] (.map []) [] 0 10000 0 0 (0 + 1) _ R4.out (by omega) (one_num _ _ _ _ _ _ _ _ _ _ (by decide) (by decide) (by decide) (by decide) (by simp) (chgX g) (by decide)) _ _ _ xs X4.out (fun q o e => by cases e; omega) (by omega) goodX sizeX).mono ?_
  rintro e w5 ⟨rfl, r5, b5⟩
  rw [List.nil_append] at r5
  have R5 := hide r5
  have B5 := hide (B4.out.trans b5)
  have hB5 := B5.out.size
  clear r5 b5 R4 X4 B3 B4
  go_wp2_with fail
  refine (sync_1 B (B + 2) g nX [⟨⟨#[]⟩, nX, some g⟩] (.map []) xs 0 10000 (0 + xs.length) 0 (0 + 1 + 1) _ R5.out (by omega) (one_num _ _ _ _ _ _ _ _ _ _ (by omega) (by decide) (by omega) (by omega) (by simp) (chgX g) (by decide)) goodX sizeX).mono ?_
  rintro e w6 ⟨rfl, r6, b6⟩
  have R6 := hide r6
  have B6 := hide (B5.out.trans b6)
  have hB6 := B6.out.size
  clear r6 b6 R5 B5
  cases named with
  | true =>
    go_wp2_with fail
    refine (syncdir_1 B (B + 2) g nX [⟨⟨#[]⟩, nX, some g⟩] (.map []) xs xs.length 10000 (0 + xs.length) 0 (0 + 1 + 1 + 1) _ R6.out (by omega) (one_num _ _ _ _ _ _ _ _ _ _ (by omega) (by decide) (by omega) (by omega) (by simp) (chgX g) (by decide))).mono ?_
    rintro e w7 ⟨rfl, r7, b7⟩
    rw [show List.foldl applyD (DataW.map []) [(⟨⟨#[]⟩, nX, some g⟩ : Chg)] = one nX g from apply_first nX g] at r7
    have R7 := hide r7
    have B7 := hide (B6.out.trans b7)
    have hB7 := B7.out.size
    clear r7 b7 R6 B6
    go_wp2_with fail
    have tA8 : Below w.heap.size w w7 := B1.out.trans (B7.out.mono (by omega))
    have hFP := R7.out.lt
    refine (own_any _ ys _ (HB.out.below tA8) (by omega)).mono ?_
    rintro e w8 ⟨q8, c8, rfl, hq8, hc8, row8, b8⟩
    have R8 := hide (R7.out.quiet (Turns.of_below b8 _))
    have X8 : Hid (Bytes w8 (.slice (some ⟨q8, 0, none⟩) ys.length c8) ys) := RowB.bytes row8 rfl
    have B8 := hide (then_below B7.out b8 (by omega))
    have hB8 := B8.out.size
    clear row8 b8 R7 B7 tA8
    go_wp2_with fail
    refine (append_1 B (B + 2) g nX [] (one nX g) xs xs.length 10000 (0 + xs.length - 0) 0 (0 + 1 + 1 + 1 + 1) _ R8.out (by omega) (one_num _ _ _ _ _ _ _ _ _ _ (by omega) (by decide) (by omega) (by omega) (by simp) (by simp) (by show 1 ≤ 100; decide)) _ _ _ ys X8.out (fun q o e => by cases e; omega) (by omega) goodX sizeX).mono ?_
    rintro e w9 ⟨rfl, r9, b9⟩
    have R9 := hide r9
    have B9 := hide (B8.out.trans b9)
    have hB9 := B9.out.size
    clear r9 b9 R8 X8 B8
    go_wp2_with fail
    have tk : Turns (fun _ => False) w9 (w9.alloc (.cells #[.int .i64 keep] 3)) := (Turns.refl _ w9).alloc _
    have hI := ints_one w9 keep 3
    have R10 := hide ((R9.out.mono (A' := fun k => From B k ∧ k < w9.heap.size) fun k hk hA => ⟨hA, hk⟩).quiet tk)
    have B10 := hide (B9.out.trans (tk.below (B := B) (by omega) (fun _ x => x.elim)))
    have hB10 := B10.out.size
    clear R9 B9 tk
    generalize hN9 : w9.heap.size = N9 at *
    generalize w9.alloc (.cells #[.int .i64 keep] 3) = w10 at *
    refine (crash_1 _ (B + 2) g nX [] (one nX g) (xs ++ ys) xs.length 10000 ((0 + xs.length - 0) + ys.length) 0 (0 + 1 + 1 + 1 + 1 + 1) _ R10.out (one_num _ _ _ _ _ _ _ _ _ _ (by omega) (by decide) (by rw [List.length_append]; omega) (by rw [List.length_append]; omega) (by simp) (by simp) (by show 1 ≤ 100; decide)) dir keep _ 1 1 [keep] hI rfl (by intro z hz; simp at hz; subst hz; exact ⟨p1, p2⟩) (fun q o e hq => by cases e; have := hq.2; omega) d1 d2 (leftN _ _ _ _ _ _ _ _ _)).mono ?_
    rintro e w11 ⟨rfl, r11, t11⟩
    rw [crashX, takeX] at r11
    have R11 := hide (r11.mono (A' := From B) fun k _ hk => hk.elim And.left (fun e => Nat.le_trans (by omega) e))
    have B11 := hide (B10.out.trans ((t11.mono fun k _ e => e.1).from (B := B) (by omega)))
    have hB11 := B11.out.size
    clear r11 t11 R10 B10 hI
    have hkb := kbOf_le ys keep
    have hke := kbOf_eq ys keep
    generalize kbOf ys keep = kb at *
    go_upto_if 95 with (fail)
    go_cut [13] from 94 to 100 (fun v13 wx => v13 = .int .i64 (kb : Nat) ∧ wx = w11)
    case first =>
      rename_i qq kk rest jj kk' m1 m2
      clear rest
      by_cases hk0 : 0 < keep
      · have hkk : keep % ((bn : Int) + 1) = (kb : Int) := by
          have := HBL.out
          rw [hke, show max keep 0 = keep by omega, this]
        go_wp2_with fail
        go_meet
        exact ⟨by rw [hkk], rfl⟩
      · have HK00 : Hid ((0 : Int) = (kb : Int)) := by show (0 : Int) = (kb : Int); rw [hke, show max keep 0 = 0 by omega, Int.zero_emod]
        go_wp2_with fail
        go_meet
        exact ⟨by rw [← HK00.out], rfl⟩
    case rest =>
      obtain ⟨rfl, hwc⟩ := hcut
      rw [hwc]
      clear hke hwc
      go_wp2_with fail
      generalize hzs : xs ++ ys.take kb = zs at *
      have hzl : zs.length = xs.length + kb := by rw [← hzs, List.length_append, List.length_take]; omega
      refine (read_1 (fun k => From B k ∧ k < w11.heap.size) (B + 2) g nX [] (one nX g) zs (xs.length + kb) 10000 (zs.length : Int) 0 (0 + 1 + 1 + 1 + 1 + 1) _ (R11.out.mono fun k hk hA => ⟨hA, hk⟩) (one_num _ _ _ _ _ _ _ _ _ _ (by omega) (by decide) (by omega) (by omega) (by simp) (by simp) (by show 1 ≤ 100; decide)) 1048576 goodX sizeX (by decide) (by decide)).mono ?_
      rintro e w12 ⟨ga, gm, gc, rfl, o12, k12, r12, t12⟩
      rw [List.take_of_length_le (by omega)] at o12
      obtain rfl : gm = xs.length + kb := by
        have := o12.bytes.len
        omega
      have O12 := hide o12.bytes
      have KX : Hid (∀ q o, ga = some ⟨q, o, none⟩ → w11.heap.size ≤ q) := fun q o e => by
        rcases o12 with ⟨_, e1⟩ | ⟨r, c, n, e1, _⟩
        · rw [e] at e1; cases e1
        · rw [e] at e1
          cases e1
          exact k12 _ ⟨_, _, by rw [e]⟩
      have R12 := hide r12
      have B12 := hide (B11.out.trans ((t12.mono fun k _ e => e.1).from (B := B) (by omega)))
      have hB12 := B12.out.size
      have hs12 := t12.size
      clear o12 k12 r12 t12 R11 B11
      have tA12 : Below w.heap.size w w12 := B1.out.trans (B12.out.mono (by omega))
      have TA12 := hide tA12
      clear tA12
      go_wp2_with fail
      have HBK : Hid (Bytes w (.slice ba kb bc) (ys.take kb)) := (HB.out.first kb hkb)
      have i0 : (0 : Int) ≤ (kb : Int) := by omega
      have i1 : (kb : Int) ≤ (bc : Int) := by have := HBL.out; omega
      have hcap : kb ≤ bc := by have := HBL.out; omega
      go_cut [118] from 106 to 118 (fun v118 wx => v118 = .bool false ∧ Below w12.heap.size w12 wx)
      case first =>
        rename_i qq kk rest jj kk' m1 m2
        clear rest
        go_region_held_law (fun _ => True) (trivial) (first
          | (go_at_call 34; refine (own_any _ xs _ (HA.out.below TA12.out.drew) (by omega)).mono ?_; rintro e w13 ⟨q13, c13, rfl, hq13, hc13, row13, b13⟩; obtain ⟨q14, c14, w14, hr14, hq14, row14, b14, hc14, _⟩ := append_bytes2 w13 w12.heap.size (some ⟨q13, 0, none⟩) xs.length c13 xs rfl (.slice ba kb bc) (ys.take kb) kb (by rw [List.length_take]; omega) (HBK.out.below (TA12.out.drew.trans (b13.mono (by show w.heap.size ≤ w12.heap.size; omega)))) b13.size (.inr ⟨q13, rfl, hq13, hc13, row13⟩) (by omega); have ROW := hide row14; have BB14 : Hid (Below w12.heap.size w12 w14) := ((Below.refl _ w12).drew.trans b13).trans b14; have hq := hr14 28; clear hr14 row13 row14 b13 b14)
          | (refine step_append_wanted rfl (.tmp 111) (.tmp 114) 28 rfl _ _ rfl rfl _ _ hq 115 rfl ?_; simp only [Act.put, List.setIfInBounds_toArray, List.set_cons_zero, List.set_cons_succ])
          | (go_at_call 35; refine (bytes_same ga (some ⟨q14, 0, none⟩) (xs.length + kb) gc c14 zs _ (O12.out.below BB14.out) (by have := RowB.bytes (n := xs.length + kb) (c' := c14) ROW.out (by rw [hzs]; omega); rw [hzs] at this; exact this) (by omega)).mono ?_; rintro e w15 ⟨rfl, m15, rfl⟩))
        all_goals go_wp2_with fail
        all_goals go_meet
        all_goals exact ⟨rfl, below_drewN BB14.out m15⟩
      case rest =>
        obtain ⟨rfl, hcut⟩ := hcut
        have R13 := hide (R12.out.quiet (Turns.of_below hcut _))
        have O13 := hide (O12.out.below hcut)
        have B13 := hide (then_below B12.out hcut (by omega))
        have hB13 := B13.out.size
        have hs13 := hcut.size
        clear hcut R12 O12 B12 HBK
        go_wp2_with fail
        have tk : Turns (fun _ => False) wc (wc.alloc (.cells #[.int .i64 keep] 3)) := (Turns.refl _ wc).alloc _
        have hI := ints_one wc keep 3
        have R14 := hide (R13.out.quiet tk)
        have O14 := hide (O13.out.keep tk (fun _ _ _ x => x))
        have B14 := hide (B13.out.trans (tk.below (B := B) (by omega) (fun _ x => x.elim)))
        have hB14 := B14.out.size
        have hs14 := tk.size
        clear R13 O13 B13 tk
        generalize hN13 : wc.heap.size = N13 at *
        generalize wc.alloc (.cells #[.int .i64 keep] 3) = w14 at *
        refine (crash_1 _ (B + 2) g nX [] (one nX g) zs (xs.length + kb) 10000 (zs.length : Int) 0 (0 + 1 + 1 + 1 + 1 + 1 + 1) _ R14.out (one_num _ _ _ _ _ _ _ _ _ _ (by omega) (by decide) (by omega) (by omega) (by simp) (by simp) (by show 1 ≤ 100; decide)) dir keep _ 1 1 [keep] hI rfl (by intro z hz; simp at hz; subst hz; exact ⟨p1, p2⟩) (fun q o e hq => by cases e; have := hq.2; omega) d1 d2 (leftN _ _ _ _ _ _ _ _ _)).mono ?_
        rintro e w15 ⟨rfl, r15, t15⟩
        rw [crashS zs _ (by omega), List.take_length] at r15
        have hrow : ∀ q o, ga = some ⟨q, o, none⟩ → 0 < xs.length + kb → w11.heap.size ≤ q ∧ q < w14.heap.size := fun q o e h0 => by
          obtain ⟨a', c', e1, e2⟩ := O14.out
          obtain ⟨q', o', e3, e4⟩ := e2 0 (by omega)
          injection e1 with e1 e5 e6
          rw [← e1, e] at e3
          cases e3
          exact ⟨KX.out q o e, block_lt_of_cell e4⟩
        have HROW := hide hrow
        have R15 := hide r15
        have O15 := hide (O14.out.keep0 t15 (fun q o e h0 hq => by have := (hrow q o e h0).1; have := hq.2; omega))
        have B15 := hide (B14.out.trans ((t15.mono fun k _ e => e.1).from (B := B) (by omega)))
        have hB15 := B15.out.size
        clear r15 t15 R14 O14 B14 hI hrow
        go_wp2_with fail
        refine (read_1 _ (B + 2) g nX [] (one nX g) zs zs.length 10000 (zs.length : Int) 0 (0 + 1 + 1 + 1 + 1 + 1 + 1) _ R15.out (one_num _ _ _ _ _ _ _ _ _ _ (by omega) (by decide) (by omega) (by omega) (by simp) (by simp) (by show 1 ≤ 100; decide)) 1048576 goodX sizeX (by decide) (by decide)).mono ?_
        rintro e w16 ⟨ga2, gm2, gc2, rfl, o16, k16, r16, t16⟩
        rw [List.take_of_length_le (by omega)] at o16
        obtain rfl : gm2 = xs.length + kb := by
          have := o16.bytes.len
          omega
        have O16 := hide o16.bytes
        have O17 := hide (O15.out.keep0 t16 (fun q o e h0 hq => by
          have h1 := HROW.out q o e h0
          rcases hq with hq | hq
          · have := hq.2; omega
          · omega))
        have B16 := hide (B15.out.trans ((t16.mono fun k _ e => e.elim And.left (fun e => Nat.le_trans (by omega) e)).from (B := B) (by omega)))
        have hB16 := B16.out.size
        clear o16 k16 r16 t16 R15 O15 B15
        go_wp2_with fail
        refine (bytes_same ga ga2 (xs.length + kb) gc gc2 zs _ O17.out O16.out (by omega)).mono ?_
        rintro e w17 ⟨rfl, m17, rfl⟩
        have FIN : Hid (Below w.heap.size w (w16.drewN m17)) := below_drewN (B1.out.trans (B16.out.mono (by omega))) m17
        go_wp2_with fail
        go_ret
        exact ⟨rfl, FIN.out⟩
  | false =>
    go_wp2_with fail
    have tA8 : Below w.heap.size w w6 := B1.out.trans (B6.out.mono (by omega))
    have hFP := R6.out.lt
    refine (own_any _ ys _ (HB.out.below tA8) (by omega)).mono ?_
    rintro e w8 ⟨q8, c8, rfl, hq8, hc8, row8, b8⟩
    have R8 := hide (R6.out.quiet (Turns.of_below b8 _))
    have X8 : Hid (Bytes w8 (.slice (some ⟨q8, 0, none⟩) ys.length c8) ys) := RowB.bytes row8 rfl
    have B8 := hide (then_below B6.out b8 (by omega))
    have hB8 := B8.out.size
    clear row8 b8 R6 B6 tA8
    go_wp2_with fail
    refine (append_1 B (B + 2) g nX [⟨⟨#[]⟩, nX, some g⟩] (.map []) xs xs.length 10000 (0 + xs.length) 0 (0 + 1 + 1 + 1) _ R8.out (by omega) (one_num _ _ _ _ _ _ _ _ _ _ (by omega) (by decide) (by omega) (by omega) (by simp) (chgX g) (by decide)) _ _ _ ys X8.out (fun q o e => by cases e; omega) (by omega) goodX sizeX).mono ?_
    rintro e w9 ⟨rfl, r9, b9⟩
    have R9 := hide r9
    have B9 := hide (B8.out.trans b9)
    have hB9 := B9.out.size
    clear r9 b9 R8 X8 B8
    go_wp2_with fail
    have tk : Turns (fun _ => False) w9 (w9.alloc (.cells #[.int .i64 keep] 3)) := (Turns.refl _ w9).alloc _
    have hI := ints_one w9 keep 3
    have R10 := hide ((R9.out.mono (A' := fun k => From B k ∧ k < w9.heap.size) fun k hk hA => ⟨hA, hk⟩).quiet tk)
    have B10 := hide (B9.out.trans (tk.below (B := B) (by omega) (fun _ x => x.elim)))
    have hB10 := B10.out.size
    clear R9 B9 tk
    generalize hN9 : w9.heap.size = N9 at *
    generalize w9.alloc (.cells #[.int .i64 keep] 3) = w10 at *
    by_cases hdir : dir ≤ 0 ∨ dir % 2 = 0
    · have hm0 : max dir 0 % 2 = 0 := by omega
      refine (crash_0 _ (B + 2) g nX [⟨⟨#[]⟩, nX, some g⟩] (.map []) (xs ++ ys) xs.length 10000 (0 + xs.length + ys.length) 0 (0 + 1 + 1 + 1 + 1) _ R10.out (one_num _ _ _ _ _ _ _ _ _ _ (by omega) (by decide) (by rw [List.length_append]; omega) (by rw [List.length_append]; omega) (by simp) (chgX g) (by decide)) dir _ 1 1 [keep] hI (by intro z hz; simp at hz; subst hz; exact ⟨p1, p2⟩) (fun q o e hq => by cases e; have := hq.2; omega) d1 d2 (left0 _ _ _ _ _ _ _ _ hm0)).mono ?_
      rintro e w11 ⟨rfl, ⟨F, r11⟩, t11⟩
      have R11 := hide r11
      have B11 := hide (B10.out.trans ((t11.mono fun k _ e => e.1).from (B := B) (by omega)))
      have hB11 := B11.out.size
      clear r11 t11 R10 B10 hI hm0
      go_upto_region 8 with (fail)
      go_cut [84] from 74 to 84 (fun v84 wx => v84 = .bool true ∧ wx = w11)
      case first =>
        rename_i qq kk rest jj kk' m1 m2
        clear rest
        by_cases hd0 : dir ≤ 0
        · go_wp2_with fail
          go_meet
          exact ⟨rfl, rfl⟩
        · have hd2 : dir % 2 = 0 := by omega
          go_wp2_with fail
          go_meet
          exact ⟨rfl, rfl⟩
      case rest =>
        obtain ⟨rfl, hwc⟩ := hcut
        rw [hwc]
        clear hwc
        go_wp2_with fail
        refine (size_rep _ _ _ nX _ R11.out sizeX).mono ?_
        rintro e w12 ⟨rfl, rfl⟩
        rw [show ({ zeroDisk 10000 (0 + 1 + 1 + 1 + 1) with files := F } : Disk).size nX = -1 by unfold Disk.size; rw [show ({ zeroDisk 10000 (0 + 1 + 1 + 1 + 1) with files := F } : Disk).names = .map [] from rfl, none_file]]
        go_wp2_with fail
        refine (names_rep _ _ _ _ R11.out (by show 0 ≤ 1000000; decide)).mono ?_
        rintro e w13 ⟨va, vc, rfl, _, b13⟩
        rw [show (namesOf ({ zeroDisk 10000 (0 + 1 + 1 + 1 + 1) with files := F } : Disk).names).length = 0 by rw [show ({ zeroDisk 10000 (0 + 1 + 1 + 1 + 1) with files := F } : Disk).names = .map [] from rfl, namesOf_none]; rfl]
        have FIN : Hid (Below w.heap.size w w13) := B1.out.trans ((then_below B11.out b13 (by omega)).mono (by omega))
        clear b13
        go_wp2_with fail
        go_ret
        exact ⟨rfl, FIN.out⟩
    · have hm1 : max dir 0 % 2 = 1 := by omega
      refine (crash_1 _ (B + 2) g nX [⟨⟨#[]⟩, nX, some g⟩] (.map []) (xs ++ ys) xs.length 10000 ((0 + xs.length) + ys.length) 0 (0 + 1 + 1 + 1 + 1) _ R10.out (one_num _ _ _ _ _ _ _ _ _ _ (by omega) (by decide) (by rw [List.length_append]; omega) (by rw [List.length_append]; omega) (by simp) (chgX g) (by decide)) dir keep _ 1 1 [keep] hI rfl (by intro z hz; simp at hz; subst hz; exact ⟨p1, p2⟩) (fun q o e hq => by cases e; have := hq.2; omega) d1 d2 (left1 _ _ _ _ _ _ _ _ hm1)).mono ?_
      rintro e w11 ⟨rfl, r11, t11⟩
      rw [crashX, takeX] at r11
      have R11 := hide (r11.mono (A' := From B) fun k _ hk => hk.elim And.left (fun e => Nat.le_trans (by omega) e))
      have B11 := hide (B10.out.trans ((t11.mono fun k _ e => e.1).from (B := B) (by omega)))
      have hB11 := B11.out.size
      clear r11 t11 R10 B10 hI
      have hkb := kbOf_le ys keep
      have hke := kbOf_eq ys keep
      generalize kbOf ys keep = kb at *
      have hd0 : ¬ dir ≤ 0 := by omega
      have hd2 : ¬ dir % 2 = 0 := by omega
      have HF : Hid ((decide (dir ≤ 0) || dir % 2 == 0) = false) := by
        show (decide (dir ≤ 0) || dir % 2 == 0) = false
        rw [decide_eq_false hd0, Bool.false_or, beq_eq_false_iff_ne]
        exact hd2
      clear hm1 hdir
      go_upto_region 8 with (fail)
      go_cut [84] from 74 to 84 (fun v84 wx => v84 = .bool false ∧ wx = w11)
      case first =>
        rename_i qq kk rest jj kk' m1 m2
        clear rest
        go_wp2_with fail
        go_meet
        exact ⟨by rw [HF.out], rfl⟩
      rename_i hcut
      obtain ⟨rfl, hwc⟩ := hcut
      rw [hwc]
      clear hwc
      go_upto_if 95 with (fail)
      go_cut [13] from 94 to 100 (fun v13 wx => v13 = .int .i64 (kb : Nat) ∧ wx = w11)
      case first =>
        rename_i qq kk rest jj kk' m1 m2
        clear rest
        by_cases hk0 : 0 < keep
        · have hkk : keep % ((bn : Int) + 1) = (kb : Int) := by
            have := HBL.out
            rw [hke, show max keep 0 = keep by omega, this]
          go_wp2_with fail
          go_meet
          exact ⟨by rw [hkk], rfl⟩
        · have HK00 : Hid ((0 : Int) = (kb : Int)) := by show (0 : Int) = (kb : Int); rw [hke, show max keep 0 = 0 by omega, Int.zero_emod]
          go_wp2_with fail
          go_meet
          exact ⟨by rw [← HK00.out], rfl⟩
      case rest =>
        obtain ⟨rfl, hwc⟩ := hcut
        rw [hwc]
        clear hke hwc
        go_wp2_with fail
        generalize hzs : xs ++ ys.take kb = zs at *
        have hzl : zs.length = xs.length + kb := by rw [← hzs, List.length_append, List.length_take]; omega
        refine (read_1 (fun k => From B k ∧ k < w11.heap.size) (B + 2) g nX [] (one nX g) zs (xs.length + kb) 10000 (zs.length : Int) 0 (0 + 1 + 1 + 1 + 1) _ (R11.out.mono fun k hk hA => ⟨hA, hk⟩) (one_num _ _ _ _ _ _ _ _ _ _ (by omega) (by decide) (by omega) (by omega) (by simp) (by simp) (by show 1 ≤ 100; decide)) 1048576 goodX sizeX (by decide) (by decide)).mono ?_
        rintro e w12 ⟨ga, gm, gc, rfl, o12, k12, r12, t12⟩
        rw [List.take_of_length_le (by omega)] at o12
        obtain rfl : gm = xs.length + kb := by
          have := o12.bytes.len
          omega
        have O12 := hide o12.bytes
        have KX : Hid (∀ q o, ga = some ⟨q, o, none⟩ → w11.heap.size ≤ q) := fun q o e => by
          rcases o12 with ⟨_, e1⟩ | ⟨r, c, n, e1, _⟩
          · rw [e] at e1; cases e1
          · rw [e] at e1
            cases e1
            exact k12 _ ⟨_, _, by rw [e]⟩
        have R12 := hide r12
        have B12 := hide (B11.out.trans ((t12.mono fun k _ e => e.1).from (B := B) (by omega)))
        have hB12 := B12.out.size
        have hs12 := t12.size
        clear o12 k12 r12 t12 R11 B11
        have tA12 : Below w.heap.size w w12 := B1.out.trans (B12.out.mono (by omega))
        have TA12 := hide tA12
        clear tA12
        go_wp2_with fail
        have HBK : Hid (Bytes w (.slice ba kb bc) (ys.take kb)) := (HB.out.first kb hkb)
        have i0 : (0 : Int) ≤ (kb : Int) := by omega
        have i1 : (kb : Int) ≤ (bc : Int) := by have := HBL.out; omega
        have hcap : kb ≤ bc := by have := HBL.out; omega
        go_cut [118] from 106 to 118 (fun v118 wx => v118 = .bool false ∧ Below w12.heap.size w12 wx)
        case first =>
          rename_i qq kk rest jj kk' m1 m2
          clear rest
          go_region_held_law (fun _ => True) (trivial) (first
            | (go_at_call 34; refine (own_any _ xs _ (HA.out.below TA12.out.drew) (by omega)).mono ?_; rintro e w13 ⟨q13, c13, rfl, hq13, hc13, row13, b13⟩; obtain ⟨q14, c14, w14, hr14, hq14, row14, b14, hc14, _⟩ := append_bytes2 w13 w12.heap.size (some ⟨q13, 0, none⟩) xs.length c13 xs rfl (.slice ba kb bc) (ys.take kb) kb (by rw [List.length_take]; omega) (HBK.out.below (TA12.out.drew.trans (b13.mono (by show w.heap.size ≤ w12.heap.size; omega)))) b13.size (.inr ⟨q13, rfl, hq13, hc13, row13⟩) (by omega); have ROW := hide row14; have BB14 : Hid (Below w12.heap.size w12 w14) := ((Below.refl _ w12).drew.trans b13).trans b14; have hq := hr14 28; clear hr14 row13 row14 b13 b14)
            | (refine step_append_wanted rfl (.tmp 111) (.tmp 114) 28 rfl _ _ rfl rfl _ _ hq 115 rfl ?_; simp only [Act.put, List.setIfInBounds_toArray, List.set_cons_zero, List.set_cons_succ])
            | (go_at_call 35; refine (bytes_same ga (some ⟨q14, 0, none⟩) (xs.length + kb) gc c14 zs _ (O12.out.below BB14.out) (by have := RowB.bytes (n := xs.length + kb) (c' := c14) ROW.out (by rw [hzs]; omega); rw [hzs] at this; exact this) (by omega)).mono ?_; rintro e w15 ⟨rfl, m15, rfl⟩))
          all_goals go_wp2_with fail
          all_goals go_meet
          all_goals exact ⟨rfl, below_drewN BB14.out m15⟩
        case rest =>
          obtain ⟨rfl, hcut⟩ := hcut
          have R13 := hide (R12.out.quiet (Turns.of_below hcut _))
          have O13 := hide (O12.out.below hcut)
          have B13 := hide (then_below B12.out hcut (by omega))
          have hB13 := B13.out.size
          have hs13 := hcut.size
          clear hcut R12 O12 B12 HBK
          go_wp2_with fail
          have tk : Turns (fun _ => False) wc (wc.alloc (.cells #[.int .i64 keep] 3)) := (Turns.refl _ wc).alloc _
          have hI := ints_one wc keep 3
          have R14 := hide (R13.out.quiet tk)
          have O14 := hide (O13.out.keep tk (fun _ _ _ x => x))
          have B14 := hide (B13.out.trans (tk.below (B := B) (by omega) (fun _ x => x.elim)))
          have hB14 := B14.out.size
          have hs14 := tk.size
          clear R13 O13 B13 tk
          generalize hN13 : wc.heap.size = N13 at *
          generalize wc.alloc (.cells #[.int .i64 keep] 3) = w14 at *
          refine (crash_1 _ (B + 2) g nX [] (one nX g) zs (xs.length + kb) 10000 (zs.length : Int) 0 (0 + 1 + 1 + 1 + 1 + 1) _ R14.out (one_num _ _ _ _ _ _ _ _ _ _ (by omega) (by decide) (by omega) (by omega) (by simp) (by simp) (by show 1 ≤ 100; decide)) dir keep _ 1 1 [keep] hI rfl (by intro z hz; simp at hz; subst hz; exact ⟨p1, p2⟩) (fun q o e hq => by cases e; have := hq.2; omega) d1 d2 (leftN _ _ _ _ _ _ _ _ _)).mono ?_
          rintro e w15 ⟨rfl, r15, t15⟩
          rw [crashS zs _ (by omega), List.take_length] at r15
          have hrow : ∀ q o, ga = some ⟨q, o, none⟩ → 0 < xs.length + kb → w11.heap.size ≤ q ∧ q < w14.heap.size := fun q o e h0 => by
            obtain ⟨a', c', e1, e2⟩ := O14.out
            obtain ⟨q', o', e3, e4⟩ := e2 0 (by omega)
            injection e1 with e1 e5 e6
            rw [← e1, e] at e3
            cases e3
            exact ⟨KX.out q o e, block_lt_of_cell e4⟩
          have HROW := hide hrow
          have R15 := hide r15
          have O15 := hide (O14.out.keep0 t15 (fun q o e h0 hq => by have := (hrow q o e h0).1; have := hq.2; omega))
          have B15 := hide (B14.out.trans ((t15.mono fun k _ e => e.1).from (B := B) (by omega)))
          have hB15 := B15.out.size
          clear r15 t15 R14 O14 B14 hI hrow
          go_wp2_with fail
          refine (read_1 _ (B + 2) g nX [] (one nX g) zs zs.length 10000 (zs.length : Int) 0 (0 + 1 + 1 + 1 + 1 + 1) _ R15.out (one_num _ _ _ _ _ _ _ _ _ _ (by omega) (by decide) (by omega) (by omega) (by simp) (by simp) (by show 1 ≤ 100; decide)) 1048576 goodX sizeX (by decide) (by decide)).mono ?_
          rintro e w16 ⟨ga2, gm2, gc2, rfl, o16, k16, r16, t16⟩
          rw [List.take_of_length_le (by omega)] at o16
          obtain rfl : gm2 = xs.length + kb := by
            have := o16.bytes.len
            omega
          have O16 := hide o16.bytes
          have O17 := hide (O15.out.keep0 t16 (fun q o e h0 hq => by
            have h1 := HROW.out q o e h0
            rcases hq with hq | hq
            · have := hq.2; omega
            · omega))
          have B16 := hide (B15.out.trans ((t16.mono fun k _ e => e.elim And.left (fun e => Nat.le_trans (by omega) e)).from (B := B) (by omega)))
          have hB16 := B16.out.size
          clear o16 k16 r16 t16 R15 O15 B15
          go_wp2_with fail
          refine (bytes_same ga ga2 (xs.length + kb) gc gc2 zs _ O17.out O16.out (by omega)).mono ?_
          rintro e w17 ⟨rfl, m17, rfl⟩
          have FIN : Hid (Below w.heap.size w (w16.drewN m17)) := below_drewN (B1.out.trans (B16.out.mono (by omega))) m17
          go_wp2_with fail
          go_ret
          exact ⟨rfl, FIN.out⟩
end Go.Proofs.Ytefjljdgdoklmaa
