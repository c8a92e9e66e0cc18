import Derived.Test.YtkmcdjbadngfgaaM06
import Derived.Deep.Light
import Derived.Deep.RegionHeld
/-
  The document's order of keys; whether a file may be, and may stand behind another one.
-/
namespace Go.Proofs.Ytkmcdjbadngfgaa
open Go.RowKit
set_option maxRecDepth 100000
set_option maxHeartbeats 4000000
theorem cmpB_cons (a b : BitVec 8) (l r : List (BitVec 8)) : cmpB (a :: l) (b :: r) = if a.toNat < b.toNat then -1 else if b.toNat < a.toNat then 1 else cmpB l r := by
  have h : ∀ x y : BitVec 8, (UInt8.ofNat ((x.toNat : Int)).toNat < UInt8.ofNat ((y.toNat : Int)).toNat) ↔ x.toNat < y.toNat := fun x y => by
    have h1 := x.isLt
    have h2 := y.isLt
    rw [UInt8.lt_iff_toNat_lt]
    simp only [Int.toNat_natCast, UInt8.toNat_ofNat']
    omega
  show Lib.compareBytes (u8s (a :: l)) (u8s (b :: r)) = _
  have hu : ∀ (x : BitVec 8) (t : List (BitVec 8)), u8s (x :: t) = UInt8.ofNat ((x.toNat : Int)).toNat :: u8s t := fun x t => rfl
  rw [hu, hu, Lib.compareBytes]
  by_cases h1 : a.toNat < b.toNat
  · rw [if_pos h1, if_pos ((h a b).2 h1)]
  · rw [if_neg h1, if_neg (fun q => h1 ((h a b).1 q))]
    by_cases h2 : b.toNat < a.toNat
    · rw [if_pos h2, if_pos ((h b a).2 h2)]
    · rw [if_neg h2, if_neg (fun q => h2 ((h b a).1 q))]
      rfl
theorem cmpB_at : ∀ (k : Nat) (x y : List (BitVec 8)) (h1 : k < x.length) (h2 : k < y.length), x.take k = y.take k → x[k] ≠ y[k] → (cmpB x y < 0 ↔ x[k].toNat < y[k].toNat)
  | 0, a :: l, b :: r, _, _, _, hne => by
    have hne' : a.toNat ≠ b.toNat := fun q => hne (BitVec.eq_of_toNat_eq q)
    rw [cmpB_cons]
    simp only [List.getElem_cons_zero]
    split
    · simp_all
    · split
      · simp_all
      · omega
  | k + 1, a :: l, b :: r, h1, h2, ht, hne => by
    simp only [List.take_succ_cons, List.cons.injEq] at ht
    have := cmpB_at k l r (by simpa using h1) (by simpa using h2) ht.2 (by simpa using hne)
    rw [cmpB_cons, ht.1, if_neg (Nat.lt_irrefl _), if_neg (Nat.lt_irrefl _)]
    simpa using this
theorem cmpB_end : ∀ (k : Nat) (x y : List (BitVec 8)), x.take k = y.take k → (k = x.length ∧ k ≤ y.length ∨ k = y.length ∧ k ≤ x.length) → (cmpB x y < 0 ↔ x.length < y.length)
  | 0, [], [], _, _ => by decide
  | 0, [], b :: r, _, _ => by
    have : cmpB [] (b :: r) = -1 := rfl
    rw [this]; simp
  | 0, a :: l, [], _, _ => by
    have : cmpB (a :: l) [] = 1 := rfl
    rw [this]; simp
  | 0, a :: l, b :: r, _, h => by simp at h
  | k + 1, [], y, _, h => by
    rcases h with ⟨h, _⟩ | ⟨_, h⟩ <;> simp at h
  | k + 1, a :: l, [], _, h => by
    rcases h with ⟨_, h⟩ | ⟨h, _⟩ <;> simp at h
  | k + 1, a :: l, b :: r, ht, h => by
    simp only [List.take_succ_cons, List.cons.injEq] at ht
    have := cmpB_end k l r ht.2 (by simpa using h)
    rw [cmpB_cons, ht.1, if_neg (Nat.lt_irrefl _), if_neg (Nat.lt_irrefl _)]
    simpa using this
theorem rbefore_any (a a' : Option Addr) (n n' c c' : Nat) (x y : List (BitVec 8)) (w : World) (h : Bytes w (.slice a n c) x) (h' : Bytes w (.slice a' n' c') y) (hn : n ≤ 1000000000) (hn' : n' ≤ 1000000000) :
    Calls Try.prog 67 #[.slice a n c, .slice a' n' c'] w fun e w' => e = .returned (.bool (decide (cmpB x y < 0))) ∧ ∃ m, w' = w.drewN m := by
  have hl := h.len
  have hl' := h'.len
  have H := hide h
  have H' := hide h'
  have HL := hide hl
  have HL' := hide hl'
  clear h h' hl hl'
  go_enter Try.func67, Try.ntmps67
  go_wp2_with fail
  go_loopw [5] (fun i wr => ∃ k : Nat, i = .int .i64 (k : Nat) ∧ k ≤ n ∧ k ≤ n' ∧ x.take k = y.take k ∧ ∃ m, wr = w.drewN m) (fun i _ => n - (intOf i).toNat)
  case atStart => exact ⟨0, rfl, Nat.zero_le _, Nat.zero_le _, rfl, 0, rfl⟩
  case round =>
    obtain ⟨k, rfl, hk, hk', htk, m, rfl⟩ := hrel
    have HTK := hide htk
    clear htk
    by_cases hkn : k < n ∧ k < n'
    · obtain ⟨hk1, hk2⟩ := hkn
      obtain ⟨b, off, rfl⟩ := H.out.addr (by omega)
      obtain ⟨b', off', rfl⟩ := H'.out.addr (by omega)
      have hkx : k < x.length := by have := HL.out; omega
      have hky : k < y.length := by have := HL'.out; omega
      have h1 := H.out.at k hkx
      have h2 := H'.out.at k hky
      have e1 : x.getD k 0 = x[k] := by simp [List.getD, hkx]
      have e2 : y.getD k 0 = y[k] := by simp [List.getD, hky]
      rw [e1] at h1
      rw [e2] at h2
      have i1 : (k : Int) < (n : Int) := by omega
      have i2 : (k : Int) < (n' : Int) := by omega
      have i0 : (0 : Int) ≤ (k : Int) := by omega
      clear e1 e2
      by_cases hxy : x[k] = y[k]
      · have HT2 := hide (take_eq_succ hkx hky HTK.out hxy)
        rw [← hxy] at h2
        generalize x[k].toNat = q at *
        clear hxy
        go_wp2_with fail
        go_quiet (fail)
        go_wp2
        go_roundw
        case rel => exact ⟨k + 1, by go_num, by omega, by omega, HT2.out, _, rfl⟩
        case measure => simp [intOf]; omega
      · have hne : x[k].toNat ≠ y[k].toNat := fun e => hxy (BitVec.eq_of_toNat_eq e)
        have HC := hide (show decide (cmpB x y < 0) = decide (x[k].toNat < y[k].toNat) from decide_eq_decide.2 (cmpB_at k x y hkx hky HTK.out hxy))
        generalize x[k].toNat = q at *
        generalize y[k].toNat = q' at *
        have hne' : ¬ (q : Int) = (q' : Int) := by omega
        clear hxy hne
        go_wp2_with fail
        go_quiet (fail)
        go_wp2_with fail
        go_quiet (fail)
        go_wp2_with fail
        go_ret
        go_light
        refine ⟨congrArg Ending.returned (congrArg Value.bool HC.out.symm), ?_⟩
        first | exact ⟨_, rfl⟩ | (rw [World.drewN_drewN]; exact ⟨_, rfl⟩) | (rw [World.drewN_drewN, World.drewN_drewN]; exact ⟨_, rfl⟩)
    · have HC := hide (show decide (cmpB x y < 0) = decide (x.length < y.length) from decide_eq_decide.2 (cmpB_end k x y HTK.out (by go_light; have := HL.out; have := HL'.out; omega)))
      have hor : ¬ ((k : Int) < (n : Int) ∧ (k : Int) < (n' : Int)) := by omega
      have HD := hide (show decide (n < n') = decide (x.length < y.length) by rw [HL.out, HL'.out])
      by_cases h1 : (k : Int) < (n : Int)
      · have h2 : ¬ (k : Int) < (n' : Int) := fun q => hor ⟨h1, q⟩
        clear hkn hor
        go_wp2_with fail
        go_ret
        go_light
        exact ⟨congrArg Ending.returned (congrArg Value.bool (HD.out.trans HC.out.symm)), m, rfl⟩
      · clear hkn hor
        go_wp2_with fail
        go_ret
        go_light
        exact ⟨congrArg Ending.returned (congrArg Value.bool (HD.out.trans HC.out.symm)), m, rfl⟩
theorem drewN_turns (w : World) (m : Nat) : Turns (fun _ => False) w (w.drewN m) := (Turns.refl _ w).drewN m
theorem rBefore_any (a a' : Option Addr) (n n' c c' : Nat) (x y : List (BitVec 8)) (w : World) (h : Bytes w (.slice a n c) x) (h' : Bytes w (.slice a' n' c') y) (hn : n ≤ 1000000000) (hn' : n' ≤ 1000000000) :
    Calls Try.prog 50 #[.slice a n c, .slice a' n' c'] w fun e w' => e = .returned (.bool (decide (cmpB x y < 0))) ∧ Turns (fun _ => False) w w' := by
  have CB := hide (rbefore_any a a' n n' c c' x y w h h' hn hn')
  clear h h'
  go_enter Try.func50, Try.ntmps50
  go_wp2_with fail
  refine CB.out.mono ?_
  rintro e w1 ⟨rfl, m, rfl⟩
  have T := hide (drewN_turns w m)
  go_wp2_with fail
  go_ret
  exact ⟨rfl, T.out⟩
theorem rkey_any (a : Option Addr) (n c : Nat) (w : World) : Calls Try.prog 53 #[.slice a n c] w fun e w' => e = .returned (.bool (isK n)) ∧ w' = w := by
  by_cases h1 : (1 : Int) ≤ n
  · go_enter Try.func53, Try.ntmps53
    go_wp2_with fail
    go_ret
    exact ⟨congrArg Ending.returned (congrArg Value.bool (Bool.eq_iff_iff.2 (by unfold isK; simp; omega))), rfl⟩
  · go_enter Try.func53, Try.ntmps53
    go_wp2_with fail
    go_ret
    exact ⟨congrArg Ending.returned (congrArg Value.bool (Bool.eq_iff_iff.2 (by unfold isK; simp; omega))), rfl⟩
def okF (next : Nat) (f : Fl) : Bool := !wrongF f && decide (f.no < next)
theorem rfile_any (x : Tf) (next : Nat) (w : World) (h : FB w x) : Calls Try.prog 38 #[x.agg, .int .u64 (next : Nat)] w fun e w' => e = .returned (.bool (okF next x.f)) ∧ Turns (fun _ => False) w w' := by
  obtain ⟨la, lc, ma, mc, ⟨no, sz, ls, ms, en, sq⟩⟩ := x
  have H := hide h
  have TA := hide ((Turns.refl (fun _ => False) w).alloc (.cells #[.int .u64 (no : Nat), .int .i64 sz, .slice la ls.length lc, .slice ma ms.length mc, .int .i64 en, .int .u64 (sq : Nat)] 29))
  clear h
  unfold Tf.agg
  simp only
  by_cases h0 : no < 1
  · have i0 : ¬ (1 : Int) ≤ no := by omega
    go_enter Try.func38, Try.ntmps38
    go_wp2_with fail
    go_ret
    exact ⟨congrArg Ending.returned (congrArg Value.bool (by simp [okF, wrongF, h0])), TA.out⟩
  have i0 : (1 : Int) ≤ no := by omega
  by_cases h1 : ¬ no < next
  · have i1 : ¬ (no : Int) < next := by omega
    go_enter Try.func38, Try.ntmps38
    go_wp2_with fail
    go_ret
    exact ⟨congrArg Ending.returned (congrArg Value.bool (by simp [okF, wrongF, h1])), TA.out⟩
  have i1 : (no : Int) < next := by omega
  by_cases h2 : sz < 0
  · have i2 : ¬ (0 : Int) ≤ sz := by omega
    go_enter Try.func38, Try.ntmps38
    go_wp2_with fail
    go_ret
    exact ⟨congrArg Ending.returned (congrArg Value.bool (by simp [okF, wrongF, h2])), TA.out⟩
  have i2 : (0 : Int) ≤ sz := by omega
  by_cases h3 : 16777216 < sz
  · have i3 : ¬ sz ≤ 16777216 := by omega
    go_enter Try.func38, Try.ntmps38
    go_wp2_with fail
    go_ret
    exact ⟨congrArg Ending.returned (congrArg Value.bool (by simp [okF, wrongF, h3])), TA.out⟩
  have i3 : sz ≤ 16777216 := by omega
  by_cases h4 : en < 1
  · have i4 : ¬ (1 : Int) ≤ en := by omega
    go_enter Try.func38, Try.ntmps38
    go_wp2_with fail
    go_ret
    exact ⟨congrArg Ending.returned (congrArg Value.bool (by simp [okF, wrongF, h4])), TA.out⟩
  have i4 : (1 : Int) ≤ en := by omega
  by_cases h5 : 16777216 < en
  · have i5 : ¬ en ≤ 16777216 := by omega
    go_enter Try.func38, Try.ntmps38
    go_wp2_with fail
    go_ret
    exact ⟨congrArg Ending.returned (congrArg Value.bool (by simp [okF, wrongF, h5])), TA.out⟩
  have i5 : en ≤ 16777216 := by omega
  by_cases h6 : 72057594037927935 < sq
  · have i6 : ¬ (sq : Int) ≤ 72057594037927935 := by omega
    go_enter Try.func38, Try.ntmps38
    go_wp2_with fail
    go_ret
    exact ⟨congrArg Ending.returned (congrArg Value.bool (by simp [okF, wrongF, h6])), TA.out⟩
  have i6 : (sq : Int) ≤ 72057594037927935 := by omega
  cases k1 : isK ls.length with
  | false =>
    go_enter Try.func38, Try.ntmps38
    go_wp2_with fail
    refine (rkey_any la ls.length lc _).mono ?_
    rintro e w1 ⟨rfl, rfl⟩
    rw [k1]
    go_wp2_with fail
    go_ret
    exact ⟨congrArg Ending.returned (congrArg Value.bool (by simp [okF, wrongF, k1])), TA.out⟩
  | true =>
    cases k2 : isK ms.length with
    | false =>
      go_enter Try.func38, Try.ntmps38
      go_wp2_with fail
      refine (rkey_any la ls.length lc _).mono ?_
      rintro e w1 ⟨rfl, rfl⟩
      rw [k1]
      go_wp2_with fail
      refine (rkey_any ma ms.length mc _).mono ?_
      rintro e w2 ⟨rfl, rfl⟩
      rw [k2]
      go_wp2_with fail
      go_ret
      exact ⟨congrArg Ending.returned (congrArg Value.bool (by simp [okF, wrongF, k1, k2])), TA.out⟩
    | true =>
      have hb1 : ls.length ≤ 4096 := by unfold isK at k1; simp at k1; omega
      have hb2 : ms.length ≤ 4096 := by unfold isK at k2; simp at k2; omega
      have CB := hide (rBefore_any ma la ms.length ls.length mc lc ms ls _ (H.out.quiet TA.out).2 (H.out.quiet TA.out).1 (by omega) (by omega))
      go_enter Try.func38, Try.ntmps38
      go_wp2_with fail
      refine (rkey_any la ls.length lc _).mono ?_
      rintro e w1 ⟨rfl, rfl⟩
      rw [k1]
      go_wp2_with fail
      refine (rkey_any ma ms.length mc _).mono ?_
      rintro e w2 ⟨rfl, rfl⟩
      rw [k2]
      go_wp2_with fail
      refine CB.out.mono ?_
      rintro e w3 ⟨rfl, t3⟩
      have T3 := hide (TA.out.trans t3)
      clear t3
      have HS := hide (cmpB_swap ls ms)
      go_wp2_with fail
      go_ret
      exact ⟨congrArg Ending.returned (congrArg Value.bool (by have := HS.out; simp [okF, wrongF, k1, k2]; rw [Bool.eq_iff_iff]; simp; omega)), T3.out⟩
theorem rbehind_any (lev : Nat) (x y : Tf) (w : World) (h : FB w x) (h' : FB w y) (hx : x.f.most.length ≤ 1000000000) (hy : y.f.least.length ≤ 1000000000) : Calls Try.prog 39 #[x.agg, y.agg, .int .i64 (lev : Nat)] w fun e w' => e = .returned (.bool (aheadF lev x.f y.f)) ∧ Turns (fun _ => False) w w' := by
  obtain ⟨la, lc, ma, mc, ⟨no, sz, ls, ms, en, sq⟩⟩ := x
  obtain ⟨la', lc', ma', mc', ⟨no', sz', ls', ms', en', sq'⟩⟩ := y
  have TA := hide (((Turns.refl (fun _ => False) w).alloc (.cells #[.int .u64 (no : Nat), .int .i64 sz, .slice la ls.length lc, .slice ma ms.length mc, .int .i64 en, .int .u64 (sq : Nat)] 29)).alloc (.cells #[.int .u64 (no' : Nat), .int .i64 sz', .slice la' ls'.length lc', .slice ma' ms'.length mc', .int .i64 en', .int .u64 (sq' : Nat)] 29))
  have CB := hide (rBefore_any ma la' ms.length ls'.length mc lc' ms ls' _ (h.quiet TA.out).2 (h'.quiet TA.out).1 hx hy)
  unfold Tf.agg
  simp only
  clear h h'
  by_cases hl : lev = 0
  · subst hl
    go_enter Try.func39, Try.ntmps39
    go_wp2_with fail
    go_ret
    exact ⟨congrArg Ending.returned (congrArg Value.bool (Bool.eq_iff_iff.2 (by simp [aheadF]))), TA.out⟩
  · have hli : ¬ (lev : Int) = 0 := by omega
    go_enter Try.func39, Try.ntmps39
    go_wp2_with fail
    refine CB.out.mono ?_
    rintro e w1 ⟨rfl, t1⟩
    have T1 := hide (TA.out.trans t1)
    clear t1
    go_wp2_with fail
    go_ret
    exact ⟨congrArg Ending.returned (congrArg Value.bool (Bool.eq_iff_iff.2 (by simp [aheadF, hl]))), T1.out⟩
end Go.Proofs.Ytkmcdjbadngfgaa

/-
  The document's sizes of numbers: a bound.
-/
namespace Go.Proofs.Ytkmcdjbadngfgaa
open Go.RowKit
set_option maxRecDepth 100000
set_option maxHeartbeats 4000000
theorem bytes_one {w : World} (b : BitVec 8) : Bytes (w.alloc (.cells #[.int .u8 (b.toNat : Int)] 5)) (.slice (some ⟨w.heap.size, 0, none⟩) 1 1) [b] := by
  refine ⟨_, 1, rfl, fun k hk => ⟨w.heap.size, 0, rfl, ?_⟩⟩
  obtain rfl : k = 0 := by simpa using hk
  exact cell_of_row _ _ 0 _ 5 (0, 0) (heap_alloc_new w _)
theorem bytes_nat {w : World} (y : Nat) (hy : y < 256) : Bytes (w.alloc (.cells #[.int .u8 (y : Int)] 5)) (.slice (some ⟨w.heap.size, 0, none⟩) 1 1) [BitVec.ofNat 8 y] := by
  have := bytes_one (w := w) (BitVec.ofNat 8 y)
  rw [show (BitVec.ofNat 8 y).toNat = y by simp; omega] at this
  exact this
/-- Bytes of one's own that are put together. -/
def BRow (w : World) (B : Nat) (a : Option Addr) (k c : Nat) : Prop := (a = none ∧ k = 0 ∧ c = 0) ∨ ∃ g bs, a = some ⟨g, 0, none⟩ ∧ B ≤ g ∧ k ≤ c ∧ List.length bs = k ∧ RowB w g c bs
theorem append_brow (w : World) (B : Nat) (a : Option Addr) (k c : Nat) (h : BRow w B a k c) (hB : B ≤ w.heap.size) (hk : k ≤ 1000) (z : Int) (h0 : 0 ≤ z) (hz : z < 256) :
    ∃ a' k' c' w', (∀ ty, (Builtin.append_ #[27, 27] ty #[.slice a k c, .slice (some ⟨w.heap.size, 0, none⟩) 1 1]).run Try.prog (w.alloc (.cells #[.int .u8 z] 5)) = .ok (.slice a' k' c') w') ∧ k' = k + 1 ∧ BRow w' B a' k' c' ∧ Turns (fun j => B ≤ j) w w' := by
  obtain ⟨y, rfl⟩ : ∃ y : Nat, z = y := ⟨z.toNat, by omega⟩
  have hb := bytes_nat (w := w) y (by omega)
  have hta : Turns (fun _ => False) w (w.alloc (.cells #[.int .u8 (y : Int)] 5)) := (Turns.refl _ w).alloc _
  obtain ⟨bs, hbs, hbase⟩ : ∃ bs : List (BitVec 8), bs.length = k ∧ ((a = none ∧ k = 0 ∧ c = 0 ∧ 0 < 1) ∨ ∃ g, a = some ⟨g, 0, none⟩ ∧ B ≤ g ∧ k ≤ c ∧ RowB (w.alloc (.cells #[.int .u8 (y : Int)] 5)) g c bs) := by
    rcases h with ⟨h1, h2, h3⟩ | ⟨g, bs, h1, h2, h3, h4, h5⟩
    · exact ⟨[], by simp [h2], .inl ⟨h1, h2, h3, by omega⟩⟩
    · exact ⟨bs, h4, .inr ⟨g, h1, h2, h3, h5.turns hta (fun x => x)⟩⟩
  obtain ⟨g', c', w', hr, hg', hrow, hbl, hcp, hin, hnew, hkeep⟩ := append_bytes2 (w.alloc (.cells #[.int .u8 (y : Int)] 5)) B a k c bs hbs.symm _ _ 1 rfl hb (by rw [World.size_alloc]; omega) hbase (by omega)
  refine ⟨some ⟨g', 0, none⟩, _, c', w', hr, rfl, .inr ⟨g', _, rfl, hg', hcp, by simp [hbs], hrow⟩, ?_⟩
  exact (hta.mono fun _ _ (x : False) => x.elim).trans ⟨hbl.os, hbl.tape, hbl.output, hbl.size, fun k hk hn => hbl.block k (by omega)⟩
theorem turns_new {w w' : World} (h : Turns (fun j => w.heap.size ≤ j) w w') : Turns (fun _ => False) w w' := ⟨h.os, h.tape, h.output, h.size, fun k hk _ => h.block k hk (by omega)⟩
theorem rNumber_any (x : Nat) (hx : x < 18446744073709551616) (w : World) : Calls Try.prog 68 #[.slice none 0 0, .int .u64 (x : Nat)] w fun e w' => ∃ a k c, e = .returned (.slice a k c) ∧ k ≤ 10 ∧ Turns (fun _ => False) w w' := by
  have H0 : BRow w w.heap.size none 0 0 := .inl ⟨rfl, rfl, rfl⟩
  go_enter Try.func68, Try.ntmps68
  go_wp2_with fail
  go_loopw [0, 1] (fun b x' wr => ∃ a k c y, b = .slice a k c ∧ x' = .int .u64 ((y : Nat) : Int) ∧ (k ≤ 9 ∧ y * 128 ^ k ≤ x) ∧ BRow wr w.heap.size a k c ∧ Turns (fun j => w.heap.size ≤ j) w wr) (fun _ x' _ => (intOf x').toNat)
  case atStart => exact ⟨none, 0, 0, x, rfl, rfl, ⟨by omega, by simp⟩, H0, Turns.refl _ _⟩
  case round =>
    obtain ⟨a, k, c, y, rfl, rfl, ⟨hk, hy⟩, hb, ht⟩ := hrel
    have HBR := hide hb
    have HT := hide ht
    have hyl : y < 18446744073709551616 := Nat.lt_of_le_of_lt (Nat.le_trans (Nat.le_mul_of_pos_right y (Nat.pow_pos (by omega))) hy) hx
    have i2 : IntKind.u64.wrap ((y : Int) / 128) = (y : Int) / 128 := by rw [IntKind.wrap_u64]; omega
    by_cases h128 : 128 ≤ y
    · have i1 : (128 : Int) ≤ (y : Int) := by omega
      obtain ⟨a', k', c', w', hr, rfl, hrow, ht'⟩ := append_brow wr w.heap.size a k c hb ht.size (by omega) ((y : Int) % 128 + 128) (by omega) (by omega)
      have HR := hide hr
      have HRW := hide hrow
      have HTT := hide (ht.trans (ht'))
      clear hr hrow ht' hb ht
      go_wp2_with (at_builtin; refine wpList_append_run rfl _ _ 27 rfl (.slice a k c) (.slice (some ⟨wr.heap.size, 0, none⟩) 1 1) rfl rfl _ _ (HR.out _) ?_)
      go_roundw
      case rel =>
        refine ⟨a', k + 1, c', y / 128, rfl, by rfl, ?_, HRW.out, HTT.out⟩
        refine ⟨?_, ?_⟩
        · rcases Nat.lt_or_ge k 9 with h | h
          · omega
          · obtain rfl : k = 9 := by omega
            have : (128 : Nat) ^ 9 = 9223372036854775808 := by decide
            rw [this] at hy
            omega
        rw [Nat.pow_succ]
        have h1 : y / 128 * (128 ^ k * 128) = (y / 128 * 128) * 128 ^ k := by rw [Nat.mul_comm (128 ^ k) 128, Nat.mul_assoc]
        rw [h1]
        exact Nat.le_trans (Nat.mul_le_mul_right _ (by omega)) hy
      case measure => simp [intOf]; omega
    · have i1 : ¬ (128 : Int) ≤ (y : Int) := by omega
      obtain ⟨a', k', c', w', hr, rfl, hrow, ht'⟩ := append_brow wr w.heap.size a k c hb ht.size (by omega) (y : Int) (by omega) (by omega)
      have HR := hide hr
      have HRW := hide hrow
      have HTT := hide (ht.trans (ht'))
      clear hr hrow ht' hb ht
      go_wp2_with (at_builtin; refine wpList_append_run rfl _ _ 27 rfl (.slice a k c) (.slice (some ⟨wr.heap.size, 0, none⟩) 1 1) rfl rfl _ _ (HR.out _) ?_)
      go_ret
      first | exact ⟨a', k + 1, c', rfl, by omega, turns_new HTT.out⟩ | exact ⟨a', k + 1, ⟨c', rfl⟩, by omega, turns_new HTT.out⟩
theorem rSize_any (x : Nat) (hx : x < 18446744073709551616) (w : World) : Calls Try.prog 54 #[.int .u64 (x : Nat)] w fun e w' => ∃ k : Nat, e = .returned (.int .i64 (k : Nat)) ∧ k ≤ 10 ∧ Turns (fun _ => False) w w' := by
  have CN := hide (rNumber_any x hx w)
  go_enter Try.func54, Try.ntmps54
  go_wp2_with fail
  refine CN.out.mono ?_
  rintro e w1 ⟨a, k, c, rfl, hk, t1⟩
  have T1 := hide t1
  clear t1
  go_wp2_with fail
  go_ret
  first | exact ⟨k, rfl, hk, T1.out⟩ | exact ⟨k, ⟨rfl, hk⟩, T1.out⟩
theorem wraps9 (t a b c d e f g h i : Int) (ht : 0 ≤ t ∧ t ≤ 2000000) (ha : 0 ≤ a ∧ a ≤ 4096) (hb : 0 ≤ b ∧ b ≤ 4096) (hc : 0 ≤ c ∧ c ≤ 4096) (hd : 0 ≤ d ∧ d ≤ 4096) (he : 0 ≤ e ∧ e ≤ 4096) (hf : 0 ≤ f ∧ f ≤ 4096) (hg : 0 ≤ g ∧ g ≤ 4096) (hh : 0 ≤ h ∧ h ≤ 4096) (hi : 0 ≤ i ∧ i ≤ 4096) : IntKind.i64.wrap (IntKind.i64.wrap (IntKind.i64.wrap (IntKind.i64.wrap (IntKind.i64.wrap (IntKind.i64.wrap (IntKind.i64.wrap (IntKind.i64.wrap (IntKind.i64.wrap (t + a) + b) + c) + d) + e) + f) + g) + h) + i) = t + a + b + c + d + e + f + g + h + i := by
  rw [wrapI (t + a) (by omega) (by omega), wrapI (t + a + b) (by omega) (by omega), wrapI (t + a + b + c) (by omega) (by omega), wrapI (t + a + b + c + d) (by omega) (by omega), wrapI (t + a + b + c + d + e) (by omega) (by omega), wrapI (t + a + b + c + d + e + f) (by omega) (by omega), wrapI (t + a + b + c + d + e + f + g) (by omega) (by omega), wrapI (t + a + b + c + d + e + f + g + h) (by omega) (by omega), wrapI (t + a + b + c + d + e + f + g + h + i) (by omega) (by omega)]
theorem wraps5 (t a b c d e : Int) (ht : 0 ≤ t ∧ t ≤ 2000000) (ha : 0 ≤ a ∧ a ≤ 4096) (hb : 0 ≤ b ∧ b ≤ 4096) (hc : 0 ≤ c ∧ c ≤ 4096) (hd : 0 ≤ d ∧ d ≤ 4096) (he : 0 ≤ e ∧ e ≤ 4096) : IntKind.i64.wrap (IntKind.i64.wrap (IntKind.i64.wrap (IntKind.i64.wrap (IntKind.i64.wrap (t + a) + b) + c) + d) + e) = t + a + b + c + d + e := by
  rw [wrapI (t + a) (by omega) (by omega), wrapI (t + a + b) (by omega) (by omega), wrapI (t + a + b + c) (by omega) (by omega), wrapI (t + a + b + c + d) (by omega) (by omega), wrapI (t + a + b + c + d + e) (by omega) (by omega)]
theorem rbytes_any (a : Option Addr) (n c next seq log : Nat) (L : List Lv) (w : World) (h : Levs w a L) (hn : n = L.length) (hmx : n ≤ 1000) (hc : cnt L ≤ 10000) (hf : Fit L) (hw : ∀ x ∈ L, ∀ y ∈ x.l, wrongF y.f = false) (b1 : next < 18446744073709551616) (b2 : seq < 18446744073709551616) (b3 : log < 18446744073709551616) (hby : byts L ≤ 1000000) :
    Calls Try.prog 40 #[verAgg a n c next seq log] w fun e w' => ∃ t : Int, e = .returned (.int .i64 t) ∧ t ≤ 51 + 70 * cnt L + byts L ∧ Turns (fun _ => False) w w' := by
  have H := hide h
  have HL := hide hn
  have HC := hide hc
  have HF := hide hf
  have HWR := hide hw
  have HBY := hide hby
  have hni : (n : Int) ≤ 1000 := by omega
  have TA := hide ((Turns.refl (fun _ => False) w).alloc (.cells #[.slice a n c, .int .u64 (next : Nat), .int .u64 (seq : Nat), .int .u64 (log : Nat)] 25))
  have R0 := hide (heap_alloc_new w (.cells #[.slice a n c, .int .u64 (next : Nat), .int .u64 (seq : Nat), .int .u64 (log : Nat)] 25))
  have SZ := hide (fun (u : World) (z : Nat) (hz : z < 18446744073709551616) => rSize_any z hz u)
  unfold verAgg
  clear h hn hc hf hw hby
  go_enter Try.func40, Try.ntmps40
  go_wp2_with fail
  generalize w.alloc (.cells #[.slice a n c, .int .u64 (next : Nat), .int .u64 (seq : Nat), .int .u64 (log : Nat)] 25) = w0 at *
  go_loopw [3, 4, 5] (fun f s i wr => ∃ (k : Nat) (t : Int), i = .int .i64 (k : Nat) ∧ f = .int .i64 ((cnt (L.take k) : Nat) : Int) ∧ s = .int .i64 t ∧ k ≤ n ∧ (0 ≤ t ∧ t ≤ 70 * cnt (L.take k) + byts (L.take k)) ∧ Turns (fun _ => False) w0 wr) (fun _ _ i _ => n - (intOf i).toNat)
  case atStart => exact ⟨0, 0, rfl, rfl, rfl, Nat.zero_le _, by simp [cnt, byts], Turns.refl _ _⟩
  case round =>
    obtain ⟨k, t, rfl, rfl, rfl, hk, ht, hb⟩ := hrel
    have HB := hide (TA.out.trans hb)
    have HB0 := hide hb
    have HTT := hide ht
    have v0 : wr.cell? ⟨w.heap.size, 0, none⟩ = some (.slice a n c) := hb.cell (cell_of_row w0 w.heap.size 0 _ 25 (0, 0) R0.out) (fun x => x)
    have v1 : wr.cell? ⟨w.heap.size, 1, none⟩ = some (.int .u64 (next : Nat)) := hb.cell (cell_of_row w0 w.heap.size 1 _ 25 (0, 0) R0.out) (fun x => x)
    have v2 : wr.cell? ⟨w.heap.size, 2, none⟩ = some (.int .u64 (seq : Nat)) := hb.cell (cell_of_row w0 w.heap.size 2 _ 25 (0, 0) R0.out) (fun x => x)
    have v3 : wr.cell? ⟨w.heap.size, 3, none⟩ = some (.int .u64 (log : Nat)) := hb.cell (cell_of_row w0 w.heap.size 3 _ 25 (0, 0) R0.out) (fun x => x)
    clear hb ht
    by_cases hkn : k < n
    · obtain ⟨x, hx⟩ : ∃ x, L[k]? = some x := ⟨_, List.getElem?_eq_getElem (by have := HL.out; omega)⟩
      obtain ⟨⟨b, off, rfl, hcl⟩, hfb⟩ := (H.out.quiet HB.out) k x hx
      have i1 : (k : Int) < (n : Int) := by omega
      have i0 : (0 : Int) ≤ (k : Int) := by omega
      have HCT := hide (cnt_take hx)
      have HBT := hide (byts_take hx)
      have q1 := cnt_take_le L (k + 1)
      have q2 := byts_take_le L (k + 1)
      have q3 := HCT.out
      have q4 := HBT.out
      have q5 := HBY.out
      have q6 := HC.out
      have HFX := hide (HF.out x (List.mem_of_getElem? hx))
      have HWX := hide (HWR.out x (List.mem_of_getElem? hx))
      have HFI := hide (H.out k x hx).2
      have HLE := hide (show cnt (L.take k) + x.l.length ≤ 10000 ∧ byts (L.take k) + (x.l.map keyB).sum ≤ 1000000 by omega)
      obtain ⟨xa, xc, xl⟩ := x
      simp only at *
      clear hfb hx q1 q2 q3 q4 q5 q6
      generalize hXL : xl.length = XL at *
      have HXL := hide hXL
      have hxi : (XL : Int) ≤ 10000 := by have := HLE.out; omega
      clear hXL
      go_wp2_with fail
      go_loopw [3, 4, 6] (fun f s i wq => ∃ (q : Nat) (t : Int), i = .int .i64 (q : Nat) ∧ f = .int .i64 ((cnt (L.take k) + q : Nat) : Int) ∧ s = .int .i64 t ∧ q ≤ XL ∧ (0 ≤ t ∧ t ≤ 70 * (cnt (L.take k) + q : Nat) + (byts (L.take k) + ((xl.take q).map keyB).sum : Nat)) ∧ Turns (fun _ => False) wr wq) (fun _ _ i _ => XL - (intOf i).toNat)
      case atStart => exact ⟨0, t, rfl, rfl, rfl, Nat.zero_le _, by have := HTT.out; simp; omega, Turns.refl _ _⟩
      case round =>
        clear HTT
        obtain ⟨q, tq, rfl, rfl, rfl, hq, ht, hb⟩ := hrel
        have HB2 := hide (HB.out.trans hb)
        have HB3 := hide hb
        have HTT := hide ht
        have e0 := hb.cell v0 (fun x => x)
        have hcl2 := hb.cell hcl (fun x => x)
        clear hb ht
        by_cases hqn : q < XL
        · obtain ⟨y, hy⟩ : ∃ y, xl[q]? = some y := ⟨_, List.getElem?_eq_getElem (by have := HXL.out; omega)⟩
          obtain ⟨b', off', rfl, h6, hfb⟩ := fc_of (HFI.out.quiet HB2.out) hy
          have j1 : (q : Int) < (XL : Int) := by omega
          have j0 : (0 : Int) ≤ (q : Int) := by omega
          have hno := HFX.out y (List.mem_of_getElem? hy)
          obtain ⟨u1, u2, u3, u4, u5, u6, u7, u8, u9, u10, u11⟩ := wrongF_false (HWX.out y (List.mem_of_getElem? hy))
          have HKT := hide (keyB_take hy)
          have hkl := keyB_take_le xl (q + 1)
          have hle := HLE.out
          have htt := HTT.out
          have hkt := HKT.out
          have hcq : ((cnt (L.take k) + q : Nat) : Int) ≤ 20000 := by omega
          have htl : tq ≤ 2000000 := by omega
          have htl0 : 0 ≤ tq := htt.1
          unfold keyB at hkt
          have HKK := hide (show ((xl.take (q + 1)).map keyB).sum = ((xl.take q).map keyB).sum + (y.f.least.length + y.f.most.length) from HKT.out)
          clear hkl hle htt hkt HKT
          obtain ⟨la, lc, ma, mc, ⟨no, sz, ls, ms, en, sq⟩⟩ := y
          obtain ⟨y0, y1, y2, y3, y4, y5⟩ := h6
          simp only at *
          obtain ⟨s, rfl⟩ : ∃ s : Nat, sz = s := ⟨sz.toNat, by omega⟩
          obtain ⟨p, rfl⟩ : ∃ s : Nat, en = s := ⟨en.toNat, by omega⟩
          generalize hL1 : ls.length = L1 at *
          generalize hL2 : ms.length = L2 at *
          have v8i : (L1 : Int) ≤ 4096 := by omega
          have v10i : (L2 : Int) ≤ 4096 := by omega
          have v3i : (s : Int) ≤ 16777216 := by omega
          have v4i : (p : Int) ≤ 16777216 := by omega
          have v5i : (q : Int) ≤ 10000 := by omega
          generalize hCK : cnt (L.take k) + q = CK at *
          have TF := hide ((Turns.refl (fun _ => False) wr).alloc (.cells #[.int .u64 (no : Nat), .int .i64 (s : Nat), .slice la L1 lc, .slice ma L2 mc, .int .i64 (p : Nat), .int .u64 (sq : Nat)] 29))
          have RF := hide (heap_alloc_new wr (.cells #[.int .u64 (no : Nat), .int .i64 (s : Nat), .slice la L1 lc, .slice ma L2 mc, .int .i64 (p : Nat), .int .u64 (sq : Nat)] 29))
          go_wp2_with fail
          generalize hwA : wr.alloc (.cells #[.int .u64 (no : Nat), .int .i64 (s : Nat), .slice la L1 lc, .slice ma L2 mc, .int .i64 (p : Nat), .int .u64 (sq : Nat)] 29) = wA at *
          generalize hG : wr.heap.size = G at *
          have f0 : wA.cell? ⟨G, 0, none⟩ = some (.int .u64 (no : Nat)) := cell_of_row wA G 0 _ 29 (0, 0) RF.out
          have f1 : wA.cell? ⟨G, 1, none⟩ = some (.int .i64 (s : Nat)) := cell_of_row wA G 1 _ 29 (0, 0) RF.out
          have f2 : wA.cell? ⟨G, 2, none⟩ = some (.slice la L1 lc) := cell_of_row wA G 2 _ 29 (0, 0) RF.out
          have f3 : wA.cell? ⟨G, 3, none⟩ = some (.slice ma L2 mc) := cell_of_row wA G 3 _ 29 (0, 0) RF.out
          have f4 : wA.cell? ⟨G, 4, none⟩ = some (.int .i64 (p : Nat)) := cell_of_row wA G 4 _ 29 (0, 0) RF.out
          have f5 : wA.cell? ⟨G, 5, none⟩ = some (.int .u64 (sq : Nat)) := cell_of_row wA G 5 _ 29 (0, 0) RF.out
          have TU := hide (Turns.refl (fun _ => False) wA)
          have cv0 := conv_nat k (by omega)
          have cv1 := conv_nat s (by omega)
          have cv2 := conv_nat p (by omega)
          have cv3 := conv_nat L1 (by omega)
          have cv4 := conv_nat L2 (by omega)
          clear hfb hy hwA hG y0 y1 y2 y3 y4 y5
          go_region_held (fun w' => w'.cell? ⟨G, 0, none⟩ = some (.int .u64 (no : Nat)) ∧ w'.cell? ⟨G, 1, none⟩ = some (.int .i64 (s : Nat)) ∧ w'.cell? ⟨G, 2, none⟩ = some (.slice la L1 lc) ∧ w'.cell? ⟨G, 3, none⟩ = some (.slice ma L2 mc) ∧ w'.cell? ⟨G, 4, none⟩ = some (.int .i64 (p : Nat)) ∧ w'.cell? ⟨G, 5, none⟩ = some (.int .u64 (sq : Nat))) (first | (with_reducible exact ⟨f0, f1, f2, f3, f4, f5⟩) | (simp only [World.cell?_drew]; with_reducible exact ⟨f0, f1, f2, f3, f4, f5⟩)) (first
            | rw [cv0] | rw [cv1] | rw [cv2] | rw [cv3] | rw [cv4]
            | (go_at_call 54; refine (SZ.out _ _ (by omega)).mono ?_; rintro e w5 ⟨s1, rfl, hs1, t5⟩; (first | have t6 := (Turns.refl (fun _ => False) wA).drew.trans t5 | have t6 := t5); have f0 := t6.cell f0 (fun x => x); have f1 := t6.cell f1 (fun x => x); have f2 := t6.cell f2 (fun x => x); have f3 := t6.cell f3 (fun x => x); have f4 := t6.cell f4 (fun x => x); have f5 := t6.cell f5 (fun x => x); have TU := hide (TU.out.trans t6); clear t5 t6; have hs1i : (s1 : Int) ≤ 10 := by omega))
          go_wp2_with fail
          go_roundw
          case rel =>
            refine ⟨q + 1, _, by go_num, by rw [← Nat.add_assoc, hCK]; go_num, rfl, by omega, ?_, HB3.out.trans (TF.out.trans TU.out)⟩
            rw [wraps9 _ _ _ _ _ _ _ _ _ _ (by omega) (by omega) (by omega) (by omega) (by omega) (by omega) (by omega) (by omega) (by omega) (by omega)]
            have := HTT.out
            have := HKK.out
            constructor <;> omega
          case measure => simp [intOf]; omega
        · obtain rfl : q = XL := by omega
          have ht : xl.take q = xl := List.take_of_length_le (by have := HXL.out; omega)
          rw [ht] at HTT
          have hCQ := HCT.out
          have hBQ := HBT.out
          go_wp2_with fail
          go_roundw
          case rel => exact ⟨k + 1, tq, by go_num, by rw [hCQ], rfl, by omega, by have := HTT.out; rw [hCQ, hBQ]; omega, HB0.out.trans HB3.out⟩
          case measure => simp [intOf]; omega
    · obtain rfl : k = n := by omega
      have ht : L.take k = L := List.take_of_length_le (by have := HL.out; omega)
      rw [ht] at HTT ⊢
      have hc := HC.out
      have hby := HBY.out
      have htt := HTT.out
      generalize hCK : cnt L = CK at *
      have htl : t ≤ 2000000 := by omega
      have htl0 : 0 ≤ t := htt.1
      have f0 := v0
      have f1 := v1
      have f2 := v2
      have f3 := v3
      have TU := hide (Turns.refl (fun _ => False) wr)
      have cv0 := conv_nat CK (by omega)
      go_wp2_with fail
      generalize w.heap.size = G at *
      go_region_held (fun w' => w'.cell? ⟨G, 1, none⟩ = some (.int .u64 (next : Nat)) ∧ w'.cell? ⟨G, 2, none⟩ = some (.int .u64 (seq : Nat)) ∧ w'.cell? ⟨G, 3, none⟩ = some (.int .u64 (log : Nat))) (first | (with_reducible exact ⟨f1, f2, f3⟩) | (simp only [World.cell?_drew]; with_reducible exact ⟨f1, f2, f3⟩)) (first
        | rw [cv0]
        | (go_at_call 54; refine (SZ.out _ _ (by omega)).mono ?_; rintro e w5 ⟨s1, rfl, hs1, t5⟩; (first | have t6 := (Turns.refl (fun _ => False) wr).drew.trans t5 | have t6 := t5); have f1 := t6.cell f1 (fun x => x); have f2 := t6.cell f2 (fun x => x); have f3 := t6.cell f3 (fun x => x); have TU := hide (TU.out.trans t6); clear t5 t6; have hs1i : (s1 : Int) ≤ 10 := by omega))
      go_wp2_with fail
      go_ret
      refine ⟨_, rfl, ?_, HB.out.trans TU.out⟩
      rw [wraps5 _ _ _ _ _ _ (by omega) (by omega) (by omega) (by omega) (by omega) (by omega)]
      omega
end Go.Proofs.Ytkmcdjbadngfgaa
