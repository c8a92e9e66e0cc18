import Derived.Test.YtkmcdjbadngfgaaM03
import Derived.Test.YtkmcdjbadngfgaaM04
/-
  Files and where their bytes lie; whether a file may be.
-/
namespace Go.Proofs.Ytkmcdjbadngfgaa
open Go.RowKit
set_option maxRecDepth 100000
set_option maxHeartbeats 4000000
structure Fl where
  no : Nat
  size : Int
  least : List (BitVec 8)
  most : List (BitVec 8)
  ents : Int
  seq : Nat
/-- A file and where its bytes lie. -/
structure Tf where
  la : Option Addr
  lc : Nat
  ma : Option Addr
  mc : Nat
  f : Fl
def Tf.lv (x : Tf) : Value := .slice x.la x.f.least.length x.lc
def Tf.mv (x : Tf) : Value := .slice x.ma x.f.most.length x.mc
def Tf.cells (x : Tf) : List Value := [.int .u64 (x.f.no : Nat), .int .i64 x.f.size, x.lv, x.mv, .int .i64 x.f.ents, .int .u64 (x.f.seq : Nat)]
def Tf.agg (x : Tf) : Value := .agg #[.int .u64 (x.f.no : Nat), .int .i64 x.f.size, .slice x.la x.f.least.length x.lc, .slice x.ma x.f.most.length x.mc, .int .i64 x.f.ents, .int .u64 (x.f.seq : Nat)]
/-- The bytes of a file. -/
def FB (w : World) (x : Tf) : Prop := Bytes w (.slice x.la x.f.least.length x.lc) x.f.least ∧ Bytes w (.slice x.ma x.f.most.length x.mc) x.f.most
theorem FB.quiet {w w' : World} {x : Tf} (h : FB w x) (t : Turns (fun _ => False) w w') : FB w' x := ⟨h.1.quiet t, h.2.quiet t⟩
/-- Files, one behind the other. -/
def Fils (w : World) (a : Option Addr) (l : List Tf) : Prop :=
  ∀ (k : Nat) (x : Tf), l[k]? = some x → (∃ b off, a = some ⟨b, off, none⟩ ∧ ∀ (j : Nat) (u : Value), x.cells[j]? = some u → w.cell? ⟨b, off + k * 6 + j, none⟩ = some u) ∧ FB w x
theorem Fils.quiet {w w' : World} {a : Option Addr} {l : List Tf} (h : Fils w a l) (t : Turns (fun _ => False) w w') : Fils w' a l := fun k x hx => by
  obtain ⟨⟨b, off, h1, h2⟩, h3⟩ := h k x hx
  exact ⟨⟨b, off, h1, fun j u hu => t.cell (h2 j u hu) (fun x => x)⟩, h3.quiet t⟩
/-- The six cells of a file. -/
structure F6 (u : World) (b o : Nat) (x : Tf) : Prop where
  c0 : u.cell? ⟨b, o, none⟩ = some (.int .u64 (x.f.no : Nat))
  c1 : u.cell? ⟨b, o + 1, none⟩ = some (.int .i64 x.f.size)
  c2 : u.cell? ⟨b, o + 2, none⟩ = some (.slice x.la x.f.least.length x.lc)
  c3 : u.cell? ⟨b, o + 3, none⟩ = some (.slice x.ma x.f.most.length x.mc)
  c4 : u.cell? ⟨b, o + 4, none⟩ = some (.int .i64 x.f.ents)
  c5 : u.cell? ⟨b, o + 5, none⟩ = some (.int .u64 (x.f.seq : Nat))
theorem F6.quiet {w w' : World} {b o : Nat} {x : Tf} (h : F6 w b o x) (t : Turns (fun _ => False) w w') : F6 w' b o x :=
  ⟨t.cell h.c0 (fun x => x), t.cell h.c1 (fun x => x), t.cell h.c2 (fun x => x), t.cell h.c3 (fun x => x), t.cell h.c4 (fun x => x), t.cell h.c5 (fun x => x)⟩
theorem fc_of {w : World} {a : Option Addr} {l : List Tf} (h : Fils w a l) {k : Nat} {x : Tf} (hx : l[k]? = some x) : ∃ b off, a = some ⟨b, off, none⟩ ∧ F6 w b (off + k * 6) x ∧ FB w x := by
  obtain ⟨⟨b, off, h1, h2⟩, h3⟩ := h k x hx
  exact ⟨b, off, h1, ⟨h2 0 _ rfl, h2 1 _ rfl, h2 2 _ rfl, h2 3 _ rfl, h2 4 _ rfl, h2 5 _ rfl⟩, h3⟩
def isK (n : Nat) : Bool := decide (1 ≤ n) && decide (n ≤ 4096)
def wrongF (f : Fl) : Bool := decide (f.no < 1) || decide (72057594037927935 < f.seq) || decide (f.size < 0) || decide (16777216 < f.size) || decide (f.ents < 1) || decide (16777216 < f.ents) || !isK f.least.length || !isK f.most.length || decide (0 < cmpB f.least f.most)
theorem isKey_any (a : Option Addr) (n c : Nat) (w : World) : Calls Try.prog 82 #[.slice a n c] w fun e w' => e = .returned (.bool (isK n)) ∧ w' = w := by
  by_cases h1 : (1 : Int) ≤ n
  · go_enter Try.func82, Try.ntmps82
    go_wp2_with fail
    go_ret
    exact ⟨congrArg Ending.returned (congrArg Value.bool (Bool.eq_iff_iff.2 (by unfold isK; simp; omega))), rfl⟩
  · go_enter Try.func82, Try.ntmps82
    go_wp2_with fail
    go_ret
    exact ⟨congrArg Ending.returned (congrArg Value.bool (Bool.eq_iff_iff.2 (by unfold isK; simp; omega))), rfl⟩
theorem isWrongFile_any (x : Tf) (w : World) (h : FB w x) : Calls Try.prog 70 #[x.agg] w fun e w' => e = .returned (.bool (wrongF x.f)) ∧ Turns (fun _ => False) w w' := by
  obtain ⟨la, lc, ma, mc, ⟨no, sz, ls, ms, en, sq⟩⟩ := x
  have H := hide h
  have TA := hide ((Turns.refl (fun _ => False) w).alloc (.cells #[.int .u64 (no : Nat), .int .i64 sz, .slice la ls.length lc, .slice ma ms.length mc, .int .i64 en, .int .u64 (sq : Nat)] 29))
  clear h
  unfold Tf.agg
  simp only
  by_cases h0 : no < 1
  · have i0 : (no : Int) < 1 := by omega
    go_enter Try.func70, Try.ntmps70
    go_wp2_with fail
    go_ret
    exact ⟨congrArg Ending.returned (congrArg Value.bool (by simp [wrongF, h0])), TA.out⟩
  have i0 : ¬ (no : Int) < 1 := by omega
  by_cases h1 : 72057594037927935 < sq
  · have i1 : (72057594037927935 : Int) < sq := by omega
    go_enter Try.func70, Try.ntmps70
    go_wp2_with fail
    go_ret
    exact ⟨congrArg Ending.returned (congrArg Value.bool (by simp [wrongF, h1])), TA.out⟩
  have i1 : ¬ (72057594037927935 : Int) < sq := by omega
  by_cases h2 : sz < 0
  · skip
    go_enter Try.func70, Try.ntmps70
    go_wp2_with fail
    go_ret
    exact ⟨congrArg Ending.returned (congrArg Value.bool (by simp [wrongF, h2])), TA.out⟩
  by_cases h3 : 16777216 < sz
  · skip
    go_enter Try.func70, Try.ntmps70
    go_wp2_with fail
    go_ret
    exact ⟨congrArg Ending.returned (congrArg Value.bool (by simp [wrongF, h3])), TA.out⟩
  by_cases h4 : en < 1
  · skip
    go_enter Try.func70, Try.ntmps70
    go_wp2_with fail
    go_ret
    exact ⟨congrArg Ending.returned (congrArg Value.bool (by simp [wrongF, h4])), TA.out⟩
  by_cases h5 : 16777216 < en
  · skip
    go_enter Try.func70, Try.ntmps70
    go_wp2_with fail
    go_ret
    exact ⟨congrArg Ending.returned (congrArg Value.bool (by simp [wrongF, h5])), TA.out⟩
  cases k1 : isK ls.length with
  | false =>
    go_enter Try.func70, Try.ntmps70
    go_wp2_with fail
    refine (isKey_any la ls.length lc _).mono ?_
    rintro e w1 ⟨rfl, rfl⟩
    rw [k1]
    go_wp2_with fail
    go_ret
    exact ⟨congrArg Ending.returned (congrArg Value.bool (by simp [wrongF, k1])), TA.out⟩
  | true =>
    cases k2 : isK ms.length with
    | false =>
      go_enter Try.func70, Try.ntmps70
      go_wp2_with fail
      refine (isKey_any la ls.length lc _).mono ?_
      rintro e w1 ⟨rfl, rfl⟩
      rw [k1]
      go_wp2_with fail
      refine (isKey_any ma ms.length mc _).mono ?_
      rintro e w2 ⟨rfl, rfl⟩
      rw [k2]
      go_wp2_with fail
      go_ret
      exact ⟨congrArg Ending.returned (congrArg Value.bool (by simp [wrongF, k1, k2])), TA.out⟩
    | true =>
      have CB := hide (compareB_any la ma ls.length ms.length lc mc ls ms _ (H.out.quiet TA.out).1 (H.out.quiet TA.out).2)
      go_enter Try.func70, Try.ntmps70
      go_wp2_with fail
      refine (isKey_any la ls.length lc _).mono ?_
      rintro e w1 ⟨rfl, rfl⟩
      rw [k1]
      go_wp2_with fail
      refine (isKey_any ma ms.length mc _).mono ?_
      rintro e w2 ⟨rfl, rfl⟩
      rw [k2]
      go_wp2_with fail
      refine CB.out.mono ?_
      rintro e w3 ⟨rfl, rfl⟩
      go_wp2_with fail
      go_ret
      exact ⟨congrArg Ending.returned (congrArg Value.bool (by simp [wrongF, k1, k2, h0, h1]; intro h; omega)), TA.out⟩
end Go.Proofs.Ytkmcdjbadngfgaa

/-
  Whether a list of files has one that may not be, or that is too new; whether it is in order.
-/
namespace Go.Proofs.Ytkmcdjbadngfgaa
open Go.RowKit
set_option maxRecDepth 100000
set_option maxHeartbeats 4000000
def wrongT (x : Tf) : Bool := wrongF x.f
def newT (next : Nat) (x : Tf) : Bool := decide (next ≤ x.f.no)
theorem isWrongT_any (x : Tf) (w : World) (h : FB w x) : Calls Try.prog 70 #[x.agg] w fun e w' => e = .returned (.bool (wrongT x)) ∧ Turns (fun _ => False) w w' := isWrongFile_any x w h
theorem isTooNew_any (x : Tf) (vp next : Nat) (w : World) (hc : w.cell? ⟨vp, 1, none⟩ = some (.int .u64 (next : Nat))) : Calls Try.prog 69 #[x.agg, .pointer (some ⟨vp, 0, none⟩)] w fun e w' => e = .returned (.bool (newT next x)) ∧ Turns (fun _ => False) w w' := by
  obtain ⟨la, lc, ma, mc, ⟨no, sz, ls, ms, en, sq⟩⟩ := x
  have TA := hide ((Turns.refl (fun _ => False) w).alloc (.cells #[.int .u64 (no : Nat), .int .i64 sz, .slice la ls.length lc, .slice ma ms.length mc, .int .i64 en, .int .u64 (sq : Nat)] 29))
  have hc2 := TA.out.cell hc (fun x => x)
  unfold Tf.agg
  simp only
  go_enter Try.func69, Try.ntmps69
  go_wp2_with fail
  go_ret
  exact ⟨congrArg Ending.returned (congrArg Value.bool (Bool.eq_iff_iff.2 (by simp [newT]))), TA.out⟩
theorem index_wrong (a : Option Addr) (n c : Nat) (l : List Tf) (w : World) (h : Fils w a l) (hn : n = l.length) (hmx : n ≤ 1000000) :
    Calls Try.prog 81 #[.slice a n c, .func (.func 70) #[] #[]] w fun e w' => ∃ z : Int, e = .returned (.int .i64 z) ∧ (0 ≤ z ↔ l.any wrongT = true) ∧ Turns (fun _ => False) w w' := by
  have H := hide h
  have HL := hide hn
  have hni : (n : Int) ≤ 1000000 := by omega
  clear h hn
  go_enter Try.func81, Try.ntmps81
  go_wp2_with fail
  go_loopw [8] (fun i wr => ∃ k : Nat, i = .int .i64 (k : Nat) ∧ k ≤ n ∧ (l.take k).any wrongT = false ∧ Turns (fun _ => False) w wr) (fun i _ => n - (intOf i).toNat)
  case atStart => exact ⟨0, rfl, Nat.zero_le _, rfl, Turns.refl _ _⟩
  case round =>
    obtain ⟨k, rfl, hk, hno, hb⟩ := hrel
    have HNO := hide hno
    have HB := hide hb
    clear hno hb
    by_cases hkn : k < n
    · obtain ⟨x, hx⟩ : ∃ x, l[k]? = some x := ⟨_, List.getElem?_eq_getElem (by have := HL.out; omega)⟩
      obtain ⟨b, off, rfl, h6, hfb⟩ := fc_of (H.out.quiet HB.out) hx
      have i1 : (k : Int) < (n : Int) := by omega
      have i0 : (0 : Int) ≤ (k : Int) := by omega
      have HTK := hide (show (l.take (k + 1)).any wrongT = wrongT x by rw [List.take_add_one, hx, List.any_append, HNO.out]; simp)
      have HANY := hide (show wrongT x = true → l.any wrongT = true from fun e => List.any_eq_true.2 ⟨x, List.mem_of_getElem? hx, e⟩)
      have CC := hide (isWrongT_any x wr hfb)
      obtain ⟨y0, y1, y2, y3, y4, y5⟩ := h6
      unfold Tf.agg at CC
      clear hfb hx
      go_wp2_with fail
      refine CC.out.mono ?_
      rintro e w1 ⟨rfl, t1⟩
      have B1 := hide (HB.out.trans t1)
      clear t1 CC y0 y1 y2 y3 y4 y5
      generalize hq : wrongT x = q at *
      have HQ := hide hq
      clear hq
      cases q
      · go_wp2_with fail
        go_roundw
        case rel => exact ⟨k + 1, by go_num, by omega, HTK.out, B1.out⟩
        case measure => simp [intOf]; omega
      · go_wp2_with fail
        go_ret
        exact ⟨_, rfl, ⟨fun _ => HANY.out trivial, fun _ => by omega⟩, B1.out⟩
    · obtain rfl : k = n := by omega
      have ht : l.take k = l := List.take_of_length_le (by have := HL.out; omega)
      have HT := hide ht
      clear ht
      go_wp2_with fail
      go_ret
      refine ⟨_, rfl, ⟨fun h => by omega, fun h => ?_⟩, HB.out⟩
      have := HNO.out
      rw [HT.out, h] at this
      cases this
theorem contains_wrong (a : Option Addr) (n c : Nat) (l : List Tf) (w : World) (h : Fils w a l) (hn : n = l.length) (hmx : n ≤ 1000000) :
    Calls Try.prog 66 #[.slice a n c, .func (.func 70) #[] #[]] w fun e w' => e = .returned (.bool (l.any wrongT)) ∧ Turns (fun _ => False) w w' := by
  have IX := hide (index_wrong a n c l w h hn hmx)
  clear h hn
  go_enter Try.func66, Try.ntmps66
  go_wp2_with fail
  refine IX.out.mono ?_
  rintro e w1 ⟨z, rfl, hz, t1⟩
  have HZ := hide hz
  have B1 := hide t1
  clear hz t1 IX
  go_wp2_with fail
  go_ret
  refine ⟨congrArg Ending.returned (congrArg Value.bool (Bool.eq_iff_iff.2 ?_)), B1.out⟩
  rw [← HZ.out]
  simp
theorem index_new (a : Option Addr) (n c : Nat) (l : List Tf) (vp next : Nat) (w : World) (h : Fils w a l) (hn : n = l.length) (hmx : n ≤ 1000000) (hv : w.cell? ⟨vp, 1, none⟩ = some (.int .u64 (next : Nat))) :
    Calls Try.prog 81 #[.slice a n c, .func (.func 69) #[] #[.pointer (some ⟨vp, 0, none⟩)]] w fun e w' => ∃ z : Int, e = .returned (.int .i64 z) ∧ (0 ≤ z ↔ l.any (newT next) = true) ∧ Turns (fun _ => False) w w' := by
  have H := hide h
  have HL := hide hn
  have hni : (n : Int) ≤ 1000000 := by omega
  clear h hn
  go_enter Try.func81, Try.ntmps81
  go_wp2_with fail
  go_loopw [8] (fun i wr => ∃ k : Nat, i = .int .i64 (k : Nat) ∧ k ≤ n ∧ (l.take k).any (newT next) = false ∧ Turns (fun _ => False) w wr) (fun i _ => n - (intOf i).toNat)
  case atStart => exact ⟨0, rfl, Nat.zero_le _, rfl, Turns.refl _ _⟩
  case round =>
    obtain ⟨k, rfl, hk, hno, hb⟩ := hrel
    have HNO := hide hno
    have HB := hide hb
    clear hno hb
    by_cases hkn : k < n
    · obtain ⟨x, hx⟩ : ∃ x, l[k]? = some x := ⟨_, List.getElem?_eq_getElem (by have := HL.out; omega)⟩
      obtain ⟨b, off, rfl, h6, hfb⟩ := fc_of (H.out.quiet HB.out) hx
      have i1 : (k : Int) < (n : Int) := by omega
      have i0 : (0 : Int) ≤ (k : Int) := by omega
      have HTK := hide (show (l.take (k + 1)).any (newT next) = (newT next) x by rw [List.take_add_one, hx, List.any_append, HNO.out]; simp)
      have HANY := hide (show (newT next) x = true → l.any (newT next) = true from fun e => List.any_eq_true.2 ⟨x, List.mem_of_getElem? hx, e⟩)
      have CC := hide (isTooNew_any x vp next wr (HB.out.cell hv (fun x => x)))
      obtain ⟨y0, y1, y2, y3, y4, y5⟩ := h6
      unfold Tf.agg at CC
      clear hfb hx
      go_wp2_with fail
      refine CC.out.mono ?_
      rintro e w1 ⟨rfl, t1⟩
      have B1 := hide (HB.out.trans t1)
      clear t1 CC y0 y1 y2 y3 y4 y5
      generalize hq : (newT next) x = q at *
      have HQ := hide hq
      clear hq
      cases q
      · go_wp2_with fail
        go_roundw
        case rel => exact ⟨k + 1, by go_num, by omega, HTK.out, B1.out⟩
        case measure => simp [intOf]; omega
      · go_wp2_with fail
        go_ret
        exact ⟨_, rfl, ⟨fun _ => HANY.out trivial, fun _ => by omega⟩, B1.out⟩
    · obtain rfl : k = n := by omega
      have ht : l.take k = l := List.take_of_length_le (by have := HL.out; omega)
      have HT := hide ht
      clear ht
      go_wp2_with fail
      go_ret
      refine ⟨_, rfl, ⟨fun h => by omega, fun h => ?_⟩, HB.out⟩
      have := HNO.out
      rw [HT.out, h] at this
      cases this
theorem contains_new (a : Option Addr) (n c : Nat) (l : List Tf) (vp next : Nat) (w : World) (h : Fils w a l) (hn : n = l.length) (hmx : n ≤ 1000000) (hv : w.cell? ⟨vp, 1, none⟩ = some (.int .u64 (next : Nat))) :
    Calls Try.prog 66 #[.slice a n c, .func (.func 69) #[] #[.pointer (some ⟨vp, 0, none⟩)]] w fun e w' => e = .returned (.bool (l.any (newT next))) ∧ Turns (fun _ => False) w w' := by
  have IX := hide (index_new a n c l vp next w h hn hmx hv)
  clear h hn
  go_enter Try.func66, Try.ntmps66
  go_wp2_with fail
  refine IX.out.mono ?_
  rintro e w1 ⟨z, rfl, hz, t1⟩
  have HZ := hide hz
  have B1 := hide t1
  clear hz t1 IX
  go_wp2_with fail
  go_ret
  refine ⟨congrArg Ending.returned (congrArg Value.bool (Bool.eq_iff_iff.2 ?_)), B1.out⟩
  rw [← HZ.out]
  simp
def aheadF (lev : Nat) (a b : Fl) : Bool := if lev = 0 then decide (a.no < b.no) else decide (cmpB a.most b.least < 0)
theorem isAhead_any (lev : Nat) (x y : Tf) (w : World) (h : FB w x) (h' : FB w y) : Calls Try.prog 83 #[.int .i64 (lev : Nat), x.agg, y.agg] w fun e w' => e = .returned (.bool (aheadF lev x.f y.f)) ∧ Turns (fun _ => False) w w' := by
  obtain ⟨la, lc, ma, mc, ⟨no, sz, ls, ms, en, sq⟩⟩ := x
  obtain ⟨la', lc', ma', mc', ⟨no', sz', ls', ms', en', sq'⟩⟩ := y
  have TA := hide (((Turns.refl (fun _ => False) w).alloc (.cells #[.int .u64 (no : Nat), .int .i64 sz, .slice la ls.length lc, .slice ma ms.length mc, .int .i64 en, .int .u64 (sq : Nat)] 29)).alloc (.cells #[.int .u64 (no' : Nat), .int .i64 sz', .slice la' ls'.length lc', .slice ma' ms'.length mc', .int .i64 en', .int .u64 (sq' : Nat)] 29))
  have CB := hide (compareB_any ma la' ms.length ls'.length mc lc' ms ls' _ (h.quiet TA.out).2 (h'.quiet TA.out).1)
  unfold Tf.agg
  simp only
  clear h h'
  by_cases hl : lev = 0
  · subst hl
    go_enter Try.func83, Try.ntmps83
    go_wp2_with fail
    go_ret
    exact ⟨congrArg Ending.returned (congrArg Value.bool (Bool.eq_iff_iff.2 (by simp [aheadF]))), TA.out⟩
  · have hli : ¬ (lev : Int) = 0 := by omega
    go_enter Try.func83, Try.ntmps83
    go_wp2_with fail
    refine CB.out.mono ?_
    rintro e w1 ⟨rfl, rfl⟩
    go_wp2_with fail
    go_ret
    exact ⟨congrArg Ending.returned (congrArg Value.bool (Bool.eq_iff_iff.2 (by simp [aheadF, hl]))), TA.out⟩
end Go.Proofs.Ytkmcdjbadngfgaa

/-
  Whether the files of a level are in order.
-/
namespace Go.Proofs.Ytkmcdjbadngfgaa
open Go.RowKit
set_option maxRecDepth 100000
set_option maxHeartbeats 4000000
theorem wrapI (z : Int) (h0 : -9223372036854775808 ≤ z) (h1 : z < 9223372036854775808) : IntKind.i64.wrap z = z := by rw [IntKind.wrap_i64]; omega
def ordF (lev : Nat) : List Fl → Bool
  | [] => true
  | [_] => true
  | x :: y :: r => aheadF lev x y && ordF lev (y :: r)
theorem ordF_iff (lev : Nat) : ∀ l : List Fl, ordF lev l = true ↔ ∀ j x y, l[j]? = some x → l[j + 1]? = some y → aheadF lev x y = true
  | [] => by simp [ordF]
  | [_] => by simp [ordF]
  | a :: b :: r => by
    unfold ordF
    rw [Bool.and_eq_true, ordF_iff lev (b :: r)]
    constructor
    · rintro ⟨h1, h2⟩ j x y hx hy
      cases j with
      | zero => simp at hx hy; subst hx hy; exact h1
      | succ j => exact h2 j x y (by simpa using hx) (by simpa using hy)
    · intro h
      exact ⟨h 0 a b rfl rfl, fun j x y hx hy => h (j + 1) x y (by simpa using hx) (by simpa using hy)⟩
def fls (l : List Tf) : List Fl := l.map Tf.f
theorem fls_at {l : List Tf} {k : Nat} {x : Tf} (h : l[k]? = some x) : (fls l)[k]? = some x.f := by simp [fls, h]
theorem inOrder_any (lev : Nat) (a : Option Addr) (n c : Nat) (l : List Tf) (w : World) (h : Fils w a l) (hn : n = l.length) (hmx : n ≤ 1000000) :
    Calls Try.prog 71 #[.int .i64 (lev : Nat), .slice a n c] w fun e w' => e = .returned (.bool (ordF lev (fls l))) ∧ Turns (fun _ => False) w w' := by
  have H := hide h
  have HL := hide hn
  have hni : (n : Int) ≤ 1000000 := by omega
  clear h hn
  go_enter Try.func71, Try.ntmps71
  go_wp2_with fail
  go_loopw [5] (fun i wr => ∃ k : Nat, i = .int .i64 (k : Nat) ∧ 1 ≤ k ∧ k ≤ n + 1 ∧ (∀ j x y, j + 1 < k → (fls l)[j]? = some x → (fls l)[j + 1]? = some y → aheadF lev x y = true) ∧ Turns (fun _ => False) w wr) (fun i _ => n + 1 - (intOf i).toNat)
  case atStart => exact ⟨1, rfl, Nat.le_refl _, by omega, fun j x y hj => by omega, Turns.refl _ _⟩
  case round =>
    obtain ⟨k, rfl, hk1, hk, hno, hb⟩ := hrel
    have HO := hide hno
    have HB := hide hb
    clear hno hb
    by_cases hkn : k < n
    · obtain ⟨p, rfl⟩ : ∃ p, k = p + 1 := ⟨k - 1, by omega⟩
      obtain ⟨x, hx⟩ : ∃ x, l[p]? = some x := ⟨_, List.getElem?_eq_getElem (by have := HL.out; omega)⟩
      obtain ⟨y, hy⟩ : ∃ x, l[p + 1]? = some x := ⟨_, List.getElem?_eq_getElem (by have := HL.out; omega)⟩
      obtain ⟨b, off, rfl, h6, hfb⟩ := fc_of (H.out.quiet HB.out) hx
      obtain ⟨b', off', e', h6', hfb'⟩ := fc_of (H.out.quiet HB.out) hy
      cases e'
      have i1 : ((p + 1 : Nat) : Int) < n := by omega
      have i2 : (0 : Int) ≤ (p : Int) := by omega
      have i3 : (p : Int) < n := by omega
      have i4 : IntKind.i64.wrap (p : Int) = (p : Int) := wrapI _ (by omega) (by omega)
      have i5 : (0 : Int) ≤ ((p + 1 : Nat) : Int) := by omega
      have ep : ((p + 1 : Nat) : Int) - 1 = (p : Int) := by omega
      have t0 : Turns (fun _ => False) wr wr.drew := (Turns.refl _ _).drew
      have HQ := hide (isAhead_any lev x y wr.drew (hfb.quiet t0) (hfb'.quiet t0))
      have HX := hide (fls_at hx)
      have HY := hide (fls_at hy)
      clear hfb hfb' hx hy t0
      obtain ⟨la, lc, ma, mc, ⟨no, sz, ls, ms, en, sq⟩⟩ := x
      obtain ⟨la', lc', ma', mc', ⟨no', sz', ls', ms', en', sq'⟩⟩ := y
      obtain ⟨c0, c1, c2, c3, c4, c5⟩ := h6
      obtain ⟨d0, d1, d2, d3, d4, d5⟩ := h6'
      unfold Tf.agg at HQ
      simp only at *
      generalize hcv : aheadF lev ⟨no, sz, ls, ms, en, sq⟩ ⟨no', sz', ls', ms', en', sq'⟩ = cv at *
      have HCV := hide hcv
      clear hcv
      generalize ls.length = L1 at *
      generalize ms.length = L2 at *
      generalize ls'.length = L3 at *
      generalize ms'.length = L4 at *
      go_wp2_with fail
      go_region_held (fun w' => (w'.cell? ⟨b, off + p * 6, none⟩ = some (.int .u64 (no : Nat)) ∧ w'.cell? ⟨b, off + p * 6 + 1, none⟩ = some (.int .i64 sz) ∧ w'.cell? ⟨b, off + p * 6 + 2, none⟩ = some (.slice la L1 lc) ∧ w'.cell? ⟨b, off + p * 6 + 3, none⟩ = some (.slice ma L2 mc) ∧ w'.cell? ⟨b, off + p * 6 + 4, none⟩ = some (.int .i64 en) ∧ w'.cell? ⟨b, off + p * 6 + 5, none⟩ = some (.int .u64 (sq : Nat))) ∧ w'.cell? ⟨b, off + (p + 1) * 6, none⟩ = some (.int .u64 (no' : Nat)) ∧ w'.cell? ⟨b, off + (p + 1) * 6 + 1, none⟩ = some (.int .i64 sz') ∧ w'.cell? ⟨b, off + (p + 1) * 6 + 2, none⟩ = some (.slice la' L3 lc') ∧ w'.cell? ⟨b, off + (p + 1) * 6 + 3, none⟩ = some (.slice ma' L4 mc') ∧ w'.cell? ⟨b, off + (p + 1) * 6 + 4, none⟩ = some (.int .i64 en') ∧ w'.cell? ⟨b, off + (p + 1) * 6 + 5, none⟩ = some (.int .u64 (sq' : Nat))) (first | (with_reducible exact ⟨⟨f0, f1, f2, f3, f4, f5⟩, g0, g1, g2, g3, g4, g5⟩) | (simp only [World.cell?_drew]; with_reducible exact ⟨⟨c0, c1, c2, c3, c4, c5⟩, d0, d1, d2, d3, d4, d5⟩)) (first
        | (go_at_call 83; refine HQ.out.mono ?_; rintro x w2 ⟨rfl, b2⟩; have t2 := (Turns.refl (fun _ => False) wr).drew.trans b2; have f0 := t2.cell c0 (fun x => x); have f1 := t2.cell c1 (fun x => x); have f2 := t2.cell c2 (fun x => x); have f3 := t2.cell c3 (fun x => x); have f4 := t2.cell c4 (fun x => x); have f5 := t2.cell c5 (fun x => x); have g0 := t2.cell d0 (fun x => x); have g1 := t2.cell d1 (fun x => x); have g2 := t2.cell d2 (fun x => x); have g3 := t2.cell d3 (fun x => x); have g4 := t2.cell d4 (fun x => x); have g5 := t2.cell d5 (fun x => x); have T2 := hide t2; clear t2 b2))
      clear f0 f1 f2 f3 f4 f5 g0 g1 g2 g3 g4 g5
      cases cv
      · go_wp2_with fail
        go_ret
        refine ⟨congrArg Ending.returned (congrArg Value.bool (Eq.symm ?_)), HB.out.trans T2.out⟩
        refine Bool.eq_false_iff.2 fun q => ?_
        have := (ordF_iff _ _).1 q p _ _ HX.out HY.out
        rw [HCV.out] at this
        cases this
      · go_wp2_with fail
        go_roundw
        case rel =>
          refine ⟨p + 2, by go_num, by omega, by omega, fun j x y hj hx hy => ?_, HB.out.trans T2.out⟩
          by_cases hjp : j = p
          · subst hjp
            rw [HX.out] at hx
            rw [HY.out] at hy
            cases hx; cases hy
            exact HCV.out
          · exact HO.out j x y (by omega) hx hy
        case measure => simp [intOf]; omega
    · have i1 : ¬ (k : Int) < n := by omega
      go_wp2_with fail
      go_ret
      refine ⟨congrArg Ending.returned (congrArg Value.bool (Eq.symm ?_)), HB.out⟩
      refine (ordF_iff _ _).2 fun j x y hx hy => HO.out j x y ?_ hx hy
      have := (List.getElem?_eq_some_iff.1 hy).1
      have h9 := HL.out
      simp only [fls, List.length_map] at this
      omega
end Go.Proofs.Ytkmcdjbadngfgaa
