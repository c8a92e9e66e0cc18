/-
  Files and where their bytes lie; whether a file may be.
-/
import Derived.Test.YtkmcdjbadngfgaaCl
import Derived.Test.YtkmcdjbadngfgaaLe
namespace Go.Proofs.Ytkmcdjbadngfgaa
open Go.RowKit
set_option maxRecDepth 100000
set_option maxHeartbeats 4000000
structure Fl where
  no : Nat
  size : Int
  least : List (BitVec 8)
  most : List (BitVec 8)
  ents : Int
  seq : Nat
/-- A file and where its bytes lie. -/
structure Tf where
  la : Option Addr
  lc : Nat
  ma : Option Addr
  mc : Nat
  f : Fl
def Tf.lv (x : Tf) : Value := .slice x.la x.f.least.length x.lc
def Tf.mv (x : Tf) : Value := .slice x.ma x.f.most.length x.mc
def Tf.cells (x : Tf) : List Value := [.int .u64 (x.f.no : Nat), .int .i64 x.f.size, x.lv, x.mv, .int .i64 x.f.ents, .int .u64 (x.f.seq : Nat)]
def Tf.agg (x : Tf) : Value := .agg #[.int .u64 (x.f.no : Nat), .int .i64 x.f.size, .slice x.la x.f.least.length x.lc, .slice x.ma x.f.most.length x.mc, .int .i64 x.f.ents, .int .u64 (x.f.seq : Nat)]
/-- The bytes of a file. -/
def FB (w : World) (x : Tf) : Prop := Bytes w (.slice x.la x.f.least.length x.lc) x.f.least ∧ Bytes w (.slice x.ma x.f.most.length x.mc) x.f.most
theorem FB.quiet {w w' : World} {x : Tf} (h : FB w x) (t : Turns (fun _ => False) w w') : FB w' x := ⟨h.1.quiet t, h.2.quiet t⟩
/-- Files, one behind the other. -/
def Fils (w : World) (a : Option Addr) (l : List Tf) : Prop :=
  ∀ (k : Nat) (x : Tf), l[k]? = some x → (∃ b off, a = some ⟨b, off, none⟩ ∧ ∀ (j : Nat) (u : Value), x.cells[j]? = some u → w.cell? ⟨b, off + k * 6 + j, none⟩ = some u) ∧ FB w x
theorem Fils.quiet {w w' : World} {a : Option Addr} {l : List Tf} (h : Fils w a l) (t : Turns (fun _ => False) w w') : Fils w' a l := fun k x hx => by
  obtain ⟨⟨b, off, h1, h2⟩, h3⟩ := h k x hx
  exact ⟨⟨b, off, h1, fun j u hu => t.cell (h2 j u hu) (fun x => x)⟩, h3.quiet t⟩
/-- The six cells of a file. -/
structure F6 (u : World) (b o : Nat) (x : Tf) : Prop where
  c0 : u.cell? ⟨b, o, none⟩ = some (.int .u64 (x.f.no : Nat))
  c1 : u.cell? ⟨b, o + 1, none⟩ = some (.int .i64 x.f.size)
  c2 : u.cell? ⟨b, o + 2, none⟩ = some (.slice x.la x.f.least.length x.lc)
  c3 : u.cell? ⟨b, o + 3, none⟩ = some (.slice x.ma x.f.most.length x.mc)
  c4 : u.cell? ⟨b, o + 4, none⟩ = some (.int .i64 x.f.ents)
  c5 : u.cell? ⟨b, o + 5, none⟩ = some (.int .u64 (x.f.seq : Nat))
theorem F6.quiet {w w' : World} {b o : Nat} {x : Tf} (h : F6 w b o x) (t : Turns (fun _ => False) w w') : F6 w' b o x :=
  ⟨t.cell h.c0 (fun x => x), t.cell h.c1 (fun x => x), t.cell h.c2 (fun x => x), t.cell h.c3 (fun x => x), t.cell h.c4 (fun x => x), t.cell h.c5 (fun x => x)⟩
theorem fc_of {w : World} {a : Option Addr} {l : List Tf} (h : Fils w a l) {k : Nat} {x : Tf} (hx : l[k]? = some x) : ∃ b off, a = some ⟨b, off, none⟩ ∧ F6 w b (off + k * 6) x ∧ FB w x := by
  obtain ⟨⟨b, off, h1, h2⟩, h3⟩ := h k x hx
  exact ⟨b, off, h1, ⟨h2 0 _ rfl, h2 1 _ rfl, h2 2 _ rfl, h2 3 _ rfl, h2 4 _ rfl, h2 5 _ rfl⟩, h3⟩
def isK (n : Nat) : Bool := decide (1 ≤ n) && decide (n ≤ 4096)
def wrongF (f : Fl) : Bool := decide (f.no < 1) || decide (72057594037927935 < f.seq) || decide (f.size < 0) || decide (16777216 < f.size) || decide (f.ents < 1) || decide (16777216 < f.ents) || !isK f.least.length || !isK f.most.length || decide (0 < cmpB f.least f.most)
theorem isKey_any (a : Option Addr) (n c : Nat) (w : World) : Calls Try.prog 82 #[.slice a n c] w fun e w' => e = .returned (.bool (isK n)) ∧ w' = w := by
  by_cases h1 : (1 : Int) ≤ n
  · go_enter Try.func82, Try.ntmps82
    go_wp2_with fail
    go_ret
    exact ⟨congrArg Ending.returned (congrArg Value.bool (Bool.eq_iff_iff.2 (by unfold isK; simp; omega))), rfl⟩
  · go_enter Try.func82, Try.ntmps82
    go_wp2_with fail
    go_ret
    exact ⟨congrArg Ending.returned (congrArg Value.bool (Bool.eq_iff_iff.2 (by unfold isK; simp; omega))), rfl⟩
theorem isWrongFile_any (x : Tf) (w : World) (h : FB w x) : Calls Try.prog 70 #[x.agg] w fun e w' => e = .returned (.bool (wrongF x.f)) ∧ Turns (fun _ => False) w w' := by
  obtain ⟨la, lc, ma, mc, ⟨no, sz, ls, ms, en, sq⟩⟩ := x
  have H := hide h
  have TA := hide ((Turns.refl (fun _ => False) w).alloc (.cells #[.int .u64 (no : Nat), .int .i64 sz, .slice la ls.length lc, .slice ma ms.length mc, .int .i64 en, .int .u64 (sq : Nat)] 29))
  clear h
  unfold Tf.agg
  simp only
  by_cases h0 : no < 1
  · have i0 : (no : Int) < 1 := by omega
    go_enter Try.func70, Try.ntmps70
    go_wp2_with fail
    go_ret
    exact ⟨congrArg Ending.returned (congrArg Value.bool (by simp [wrongF, h0])), TA.out⟩
  have i0 : ¬ (no : Int) < 1 := by omega
  by_cases h1 : 72057594037927935 < sq
  · have i1 : (72057594037927935 : Int) < sq := by omega
    go_enter Try.func70, Try.ntmps70
    go_wp2_with fail
    go_ret
    exact ⟨congrArg Ending.returned (congrArg Value.bool (by simp [wrongF, h1])), TA.out⟩
  have i1 : ¬ (72057594037927935 : Int) < sq := by omega
  by_cases h2 : sz < 0
  · skip
    go_enter Try.func70, Try.ntmps70
    go_wp2_with fail
    go_ret
    exact ⟨congrArg Ending.returned (congrArg Value.bool (by simp [wrongF, h2])), TA.out⟩
  by_cases h3 : 16777216 < sz
  · skip
    go_enter Try.func70, Try.ntmps70
    go_wp2_with fail
    go_ret
    exact ⟨congrArg Ending.returned (congrArg Value.bool (by simp [wrongF, h3])), TA.out⟩
  by_cases h4 : en < 1
  · skip
    go_enter Try.func70, Try.ntmps70
    go_wp2_with fail
    go_ret
    exact ⟨congrArg Ending.returned (congrArg Value.bool (by simp [wrongF, h4])), TA.out⟩
  by_cases h5 : 16777216 < en
  · skip
    go_enter Try.func70, Try.ntmps70
    go_wp2_with fail
    go_ret
    exact ⟨congrArg Ending.returned (congrArg Value.bool (by simp [wrongF, h5])), TA.out⟩
  cases k1 : isK ls.length with
  | false =>
    go_enter Try.func70, Try.ntmps70
    go_wp2_with fail
    refine (isKey_any la ls.length lc _).mono ?_
    rintro e w1 ⟨rfl, rfl⟩
    rw [k1]
    go_wp2_with fail
    go_ret
    exact ⟨congrArg Ending.returned (congrArg Value.bool (by simp [wrongF, k1])), TA.out⟩
  | true =>
    cases k2 : isK ms.length with
    | false =>
      go_enter Try.func70, Try.ntmps70
      go_wp2_with fail
      refine (isKey_any la ls.length lc _).mono ?_
      rintro e w1 ⟨rfl, rfl⟩
      rw [k1]
      go_wp2_with fail
      refine (isKey_any ma ms.length mc _).mono ?_
      rintro e w2 ⟨rfl, rfl⟩
      rw [k2]
      go_wp2_with fail
      go_ret
      exact ⟨congrArg Ending.returned (congrArg Value.bool (by simp [wrongF, k1, k2])), TA.out⟩
    | true =>
      have CB := hide (compareB_any la ma ls.length ms.length lc mc ls ms _ (H.out.quiet TA.out).1 (H.out.quiet TA.out).2)
      go_enter Try.func70, Try.ntmps70
      go_wp2_with fail
      refine (isKey_any la ls.length lc _).mono ?_
      rintro e w1 ⟨rfl, rfl⟩
      rw [k1]
      go_wp2_with fail
      refine (isKey_any ma ms.length mc _).mono ?_
      rintro e w2 ⟨rfl, rfl⟩
      rw [k2]
      go_wp2_with fail
      refine CB.out.mono ?_
      rintro e w3 ⟨rfl, rfl⟩
      go_wp2_with fail
      go_ret
      exact ⟨congrArg Ending.returned (congrArg Value.bool (by simp [wrongF, k1, k2, h0, h1]; intro h; omega)), TA.out⟩
end Go.Proofs.Ytkmcdjbadngfgaa
