import Derived.Test.YtefjljdgdoklmaaM09
import Derived.Test.YtefjljdgdoklmaaM19
import Derived.StillTailTactics
/-
  Turn of any file system.
-/
namespace Go.Proofs.Ytefjljdgdoklmaa
open Go.RowKit Go.Maps

set_option maxRecDepth 100000 in
set_option maxHeartbeats 1000000 in
theorem turn_none (f bn : Nat) (D : DataW Unit) (n : Nat) (name : ByteArray) (at_ : Int) (b : BitVec 8) (w : World) (c1 : w.cell? ⟨f, 1, none⟩ = some (.map (some bn))) (hd : Dir w bn n D) (hnm : name.size ≤ maxLen) (hg : fileOf D name = none) :
    Calls Try.prog 30 #[.pointer (some ⟨f, 0, none⟩), .string name, .int .i64 at_, .int .u8 (b.toNat : Int)] w fun e w' => e = .returned (.int .i64 6) ∧ w' = w := by
  have hl := hd.look' name hnm
  rw [hg] at hl
  simp only [ptrOf] at hl
  clear hd hg
  go_enter Try.func30, Try.ntmps30
  go_wp2_with fail
  refine (made_yes f bn _ c1).mono ?_
  rintro e w1 ⟨rfl, rfl⟩
  go_wp2_with fail
  go_ret
  exact ⟨rfl, rfl⟩

set_option maxRecDepth 100000 in
set_option maxHeartbeats 1000000 in
theorem turn_out (f bn g L fc : Nat) (fa : Option Addr) (D : DataW Unit) (n : Nat) (name : ByteArray) (at_ : Int) (b : BitVec 8) (w : World) (c1 : w.cell? ⟨f, 1, none⟩ = some (.map (some bn))) (hd : Dir w bn n D) (hnm : name.size ≤ maxLen) (hg : fileOf D name = some g) (c0 : w.cell? ⟨g, 0, none⟩ = some (.slice fa L fc)) (ho : at_ < 0 ∨ (L : Int) ≤ at_) :
    Calls Try.prog 30 #[.pointer (some ⟨f, 0, none⟩), .string name, .int .i64 at_, .int .u8 (b.toNat : Int)] w fun e w' => e = .returned (.int .i64 2) ∧ w' = w := by
  have hl := hd.look' name hnm
  rw [hg] at hl
  simp only [ptrOf] at hl
  clear hd hg
  rcases ho with ho | ho
  · have x1 : decide (at_ < 0) = true := by simpa using ho
    go_enter Try.func30, Try.ntmps30
    go_wp2_with fail
    refine (made_yes f bn _ c1).mono ?_
    rintro e w1 ⟨rfl, rfl⟩
    go_wp2_with fail
    go_ret
    exact ⟨rfl, rfl⟩
  · have x1 : decide (at_ < 0) = false := by simp; omega
    have x2 : decide (at_ ≥ (L : Int)) = true := by simpa using ho
    go_enter Try.func30, Try.ntmps30
    go_wp2_with fail
    refine (made_yes f bn _ c1).mono ?_
    rintro e w1 ⟨rfl, rfl⟩
    go_wp2_with fail
    go_ret
    exact ⟨rfl, rfl⟩

theorem xor_b8 (x y : BitVec 8) : bits .xor .u8 (x.toNat : Int) (y.toNat : Int) = ((x ^^^ y).toNat : Int) := by
  have ho : ∀ z : BitVec 8, BitVec.ofInt 8 (z.toNat : Int) = z := fun z => by
    apply BitVec.eq_of_toNat_eq
    rw [BitVec.toNat_ofInt]
    have := z.isLt
    simp
    omega
  show IntKind.u8.wrap ((BitVec.ofInt 8 (x.toNat : Int) ^^^ BitVec.ofInt 8 (y.toNat : Int)).toNat : Int) = _
  rw [ho, ho]
  generalize x ^^^ y = z
  have := z.isLt
  simp only [IntKind.wrap, IntKind.bits, IntKind.signed]
  simp
  omega

set_option maxRecDepth 100000 in
set_option maxHeartbeats 1000000 in
theorem turn_in (f bn g L fc q k : Nat) (x : BitVec 8) (cs : Array Value) (D : DataW Unit) (n : Nat) (name : ByteArray) (b : BitVec 8) (w : World) (c1 : w.cell? ⟨f, 1, none⟩ = some (.map (some bn))) (hd : Dir w bn n D) (hnm : name.size ≤ maxLen) (hg : fileOf D name = some g) (c0 : w.cell? ⟨g, 0, none⟩ = some (.slice (some ⟨q, 0, none⟩) L fc)) (hk : k < L) (hq : w.heap[q]? = some (.cells cs 5 (0, 0))) (hc : cs[k]? = some (.int .u8 (x.toNat : Int))) :
    Calls Try.prog 30 #[.pointer (some ⟨f, 0, none⟩), .string name, .int .i64 (k : Nat), .int .u8 (b.toNat : Int)] w fun e w' => e = .returned (.int .i64 0) ∧ Tick w w' q 5 (cs.setIfInBounds k (.int .u8 ((x ^^^ b).toNat : Int))) := by
  have hl := hd.look' name hnm
  rw [hg] at hl
  simp only [ptrOf] at hl
  have T := hide ((Tick.refl hq).set k (.int .u8 ((x ^^^ b).toNat : Int)))
  have ck : w.cell? ⟨q, k, none⟩ = some (.int .u8 (x.toNat : Int)) := (cell_of_row w q k _ 5 (0, 0) hq).trans hc
  have zk : w.frozen? ⟨q, k, none⟩ = false := frozen_of_row w q k _ 5 hq
  have hx := xor_b8 x b
  have hbx := x.isLt
  have x1 : decide ((k : Int) < 0) = false := by simp
  have x2 : decide ((k : Int) ≥ (L : Int)) = false := by simp; omega
  clear hd hg hq hc
  generalize x ^^^ b = y at *
  go_enter Try.func30, Try.ntmps30
  go_wp2_with fail
  refine (made_yes f bn _ c1).mono ?_
  rintro e w1 ⟨rfl, rfl⟩
  go_wp2_with fail
  go_ret
  exact ⟨rfl, T.out⟩

/-- The bytes with one of them turned. -/
def turnAt (bs : List (BitVec 8)) (k : Nat) (b : BitVec 8) : List (BitVec 8) := bs.modify k (· ^^^ b)
def Disk.turned (d : Disk) (g : Nat) (x : Fil) (k : Nat) (b : BitVec 8) : Disk := d.setF g ⟨turnAt x.bytes k b, x.synced⟩

theorem turn_rep (A : Nat → Prop) (f : Nat) (d : Disk) (name : ByteArray) (at_ : Int) (b : BitVec 8) (w : World) (h : Rep A w f d) (hnm : name.size ≤ maxLen) (R : Ending → World → Prop)
    (HN : fileOf d.names name = none → R (.returned (.int .i64 6)) w)
    (HA : ∀ g x, fileOf d.names name = some g → d.files g = some x → (at_ < 0 ∨ (x.bytes.length : Int) ≤ at_) → R (.returned (.int .i64 2)) w)
    (HS : ∀ g x (k : Nat) w', fileOf d.names name = some g → d.files g = some x → at_ = (k : Int) → k < x.bytes.length → Rep A w' f (d.turned g x k b) → Turns A w w' → R (.returned (.int .i64 0)) w') :
    Calls Try.prog 30 #[.pointer (some ⟨f, 0, none⟩), .string name, .int .i64 at_, .int .u8 (b.toNat : Int)] w R := by
  obtain ⟨bn, bs, ch, fv, h⟩ := h
  have c1 : w.cell? ⟨f, 1, none⟩ = some (.map (some bn)) := cell_of_row w f 1 _ 57 (0, 0) h.cells
  cases e : fileOf d.names name with
  | none =>
    refine (turn_none f bn _ _ name at_ b w c1 h.names hnm e).mono ?_
    rintro _ _ ⟨rfl, rfl⟩
    exact HN e
  | some g =>
    obtain ⟨x, hx⟩ := h.refs.names name g e
    have hF := h.files.each g x hx
    by_cases ho : at_ < 0 ∨ (x.bytes.length : Int) ≤ at_
    · obtain ⟨fa, fc, hfv⟩ := hF.own.slice
      have hc := hF.cell
      rw [hfv] at hc
      refine (turn_out f bn g _ fc fa _ _ name at_ b w c1 h.names hnm e (cell_of_row w g 0 _ 70 (0, 0) hc) ho).mono ?_
      rintro _ _ ⟨rfl, rfl⟩
      exact HA g x e hx ho
    · obtain ⟨k, rfl⟩ : ∃ k : Nat, at_ = (k : Int) := ⟨at_.toNat, by omega⟩
      have hk : k < x.bytes.length := by omega
      have ho' := hF.own
      rcases ho' with ⟨e1, _⟩ | ⟨q, c, n, hfv, hn, hnc, cs, hq, hroom, hcs⟩
      · rw [e1] at hk; cases hk
      · have hc := hF.cell
        rw [hfv] at hc
        have hck : cs[k]? = some (.int .u8 ((x.bytes[k]).toNat : Int)) := by
          rw [hcs k (by simpa [cellsOf] using hk)]
          simp [cellsOf, hk]
        refine (turn_in f bn g n c q k (x.bytes[k]) cs _ _ name b w c1 h.names hnm e (cell_of_row w g 0 _ 70 (0, 0) hc) (by omega) hq hck).mono ?_
        rintro _ w2 ⟨rfl, k1⟩
        have u2 := Turns.of_tick k1
        have hin : inRow (fv g) q := ⟨n, c, hfv⟩
        have hrow := h.row hx hin
        have hgq : ¬ g = q := fun e => by
          have := hrow.2.2.2.2.1
          rw [← e, hx] at this
          cases this
        have hR : RepAt A w2 f (d.turned g x k b) bn bs ch _ := h.filedTo (A' := A) (fun _ hk => hk) (d' := d.turned g x k b) (g := g) (x := x) (x' := ⟨turnAt x.bytes k b, x.synced⟩) (v' := fv g) hx (u2.heap h.cells (fun e => hrow.1 e.symm)) (u2.heap hF.cell hgq) (by
            refine .inr ⟨q, c, n, hfv, ?_, hnc, _, k1.1, ?_, fun j hj => ?_⟩
            · simpa [turnAt] using hn
            · simpa using hroom
            · have hj' : j < x.bytes.length := by simpa [cellsOf, turnAt] using hj
              have := hcs j (by simpa [cellsOf] using hj')
              rw [Array.getElem?_setIfInBounds]
              by_cases ejk : k = j
              · subst ejk
                have hks : k < cs.size := by
                  have := (Array.getElem?_eq_some_iff.mp hck).1
                  exact this
                simp [cellsOf, turnAt, hk, hks]
              · rw [if_neg ejk, this]
                simp [cellsOf, turnAt, ejk]) (u2.mono fun k _ e => .inr (.inr (by rw [e]; exact hin))) (fun k hk => .inl hk) rfl rfl rfl rfl
        exact HS g x k w2 e hx rfl hk ⟨bn, bs, ch, _, hR⟩ (u2.mono fun k _ e => by rw [e]; exact hF.ar q hin)
end Go.Proofs.Ytefjljdgdoklmaa

/-
  The document's Turn.
-/
namespace Go.Proofs.Ytefjljdgdoklmaa
open Go.RowKit Go.Maps

theorem row_turned {w' : World} {q c k : Nat} {cs : Array Value} {bs : List (BitVec 8)} {b : BitVec 8} (hk : k < bs.length) (hroom : c ≤ cs.size) (hcs : ∀ j, j < (cellsOf bs).length → cs[j]? = (cellsOf bs)[j]?) (h : w'.heap[q]? = some (.cells (cs.setIfInBounds k (.int .u8 ((bs[k] ^^^ b).toNat : Int))) 5 (0, 0))) : RowB w' q c (turnAt bs k b) := by
  refine ⟨_, h, by simpa using hroom, fun j hj => ?_⟩
  have hj' : j < bs.length := by simpa [cellsOf, turnAt] using hj
  have := hcs j (by simpa [cellsOf] using hj')
  rw [Array.getElem?_setIfInBounds]
  by_cases ejk : k = j
  · subst ejk
    have hks : k < cs.size := by
      rw [List.getElem?_eq_getElem (by simpa [cellsOf] using hk)] at this
      exact (Array.getElem?_eq_some_iff.mp this).1
    simp [cellsOf, turnAt, hk, hks]
  · rw [if_neg ejk, this]
    simp [cellsOf, turnAt, ejk]

set_option maxRecDepth 100000 in
set_option maxHeartbeats 4000000 in
theorem rturn_rep (A : Nat → Prop) (q : Nat) (r : RDisk) (name : ByteArray) (at_ : Int) (b : BitVec 8) (w : World) (h : RRep A w q r) (hn : RNum r) (hnm : name.size ≤ maxLen) (R : Ending → World → Prop)
    (HN : fileOf r.now name = none → ∀ w', RRep A w' q r → Turns (fun _ => False) w w' → R (.returned (.int .i64 6)) w')
    (HA : ∀ g x w', fileOf r.now name = some g → r.files g = some x → (at_ < 0 ∨ (x.bytes.length : Int) ≤ at_) → RRep A w' q r → Turns (fun _ => False) w w' → R (.returned (.int .i64 2)) w')
    (HS : ∀ g x (k : Nat) w', fileOf r.now name = some g → r.files g = some x → at_ = (k : Int) → k < x.bytes.length → RRep (Grow A w) w' q (r.setF g ⟨turnAt x.bytes k b, x.synced⟩) → Turns A w w' → R (.returned (.int .i64 0)) w') :
    Calls Try.prog 65 #[.pointer (some ⟨q, 0, none⟩), .string name, .int .i64 at_, .int .u8 (b.toNat : Int)] w R := by
  obtain ⟨bs, ch, fv, h⟩ := h
  have H := hide h
  have HN1 := hide hn
  have HNN := hide HN
  have HAA := hide HA
  have HSS := hide HS
  clear h hn HN HA HS
  go_enter Try.func65, Try.ntmps65
  go_wp2_with fail
  refine (rnow_rep A q r w ⟨bs, ch, fv, H.out⟩ HN1.out).mono ?_
  rintro e w1 ⟨N, rfl, d1, b1⟩
  have hlk := d1.look81 name hnm
  have t1 : Turns (fun _ => False) w w1 := Turns.of_below b1 _
  have R1 := hide (H.out.quiet t1)
  have T1 := hide t1
  clear d1 b1 t1
  cases hfile : fileOf r.now name with
  | none =>
    rw [hfile] at hlk
    simp only [ptrOf] at hlk
    have HF := hide (HNN.out hfile w1 ⟨bs, ch, fv, R1.out⟩ T1.out)
    clear hfile
    go_wp2_with fail
    exact HF.out
  | some g =>
    rw [hfile] at hlk
    simp only [ptrOf] at hlk
    obtain ⟨x, hx⟩ := R1.out.look hfile
    have hF := R1.out.files.each g x hx
    obtain ⟨fa, fc, hfv⟩ := hF.own.slice
    have hc := hF.cell
    rw [hfv] at hc
    have c0 : w1.cell? ⟨g, 0, none⟩ = some (.slice fa x.bytes.length fc) := cell_of_row w1 g 0 _ 95 (0, 0) hc
    by_cases ho : at_ < 0 ∨ (x.bytes.length : Int) ≤ at_
    · have HF := hide (HAA.out g x w1 hfile hx ho ⟨bs, ch, fv, R1.out⟩ T1.out)
      clear hfile hx hF hfv hc
      generalize x.bytes.length = L at *
      rcases ho with ho | ho
      · go_wp2_with fail
        exact HF.out
      · have i1 : ¬ at_ < 0 := by omega
        go_wp2_with fail
        exact HF.out
    · obtain ⟨k, rfl⟩ : ∃ k : Nat, at_ = (k : Int) := ⟨at_.toNat, by omega⟩
      have hk : k < x.bytes.length := by omega
      have hxb := (HN1.out.bytes g x hx).1
      obtain ⟨j, hfa, hLc, hrow⟩ : ∃ k, fa = some ⟨k, 0, none⟩ ∧ x.bytes.length ≤ fc ∧ RowB w1 k fc x.bytes := by
        rcases hF.own with ⟨e, _⟩ | ⟨k, c, n', e, e2, e3, e4⟩
        · rw [e] at hk; simp at hk
        · rw [hfv] at e
          cases e
          exact ⟨k, rfl, e3, e4⟩
      subst hfa
      have hb : Below w1.heap.size w1 (w1.alloc (.cells #[] 5)) := (Below.refl _ _).alloc (Nat.le_refl _) _
      obtain ⟨g3, c3, w3, hr3, hg3, hrow3, hb3, hc3, _⟩ := append_bytes2 (w1.alloc (.cells #[] 5)) w1.heap.size (some ⟨w1.heap.size, 0, none⟩) 0 0 [] rfl (.slice (some ⟨j, 0, none⟩) x.bytes.length fc) x.bytes x.bytes.length rfl ((RowB.bytes (c' := fc) (n := x.bytes.length) hrow rfl).below hb) (by simp)
          (.inr ⟨_, rfl, Nat.le_refl _, Nat.le_refl _, #[], heap_alloc_new w1 _, Nat.le_refl _, fun k hk => by simp [cellsOf] at hk⟩) (by omega)
      rw [Nat.zero_add] at hr3 hc3
      rw [List.nil_append] at hrow3
      obtain ⟨cs, hq3, hroom, hcs⟩ := hrow3
      have t3 : Turns (fun _ => False) w1 w3 := Turns.of_below (hb.trans hb3) _
      have hg1 := lt_of_heap hc
      have hne : g ≠ g3 := by omega
      have h3 := t3.heap hc (fun x => x)
      have z3 : w3.frozen? ⟨g, 0, none⟩ = false := frozen_of_row w3 g 0 _ 95 h3
      have d3 : w3.cell? ⟨g, 0, none⟩ = some (.slice (some ⟨j, 0, none⟩) x.bytes.length fc) := cell_of_row w3 g 0 _ 95 (0, 0) h3
      have k4 := (Tick.refl h3).set 0 (.slice (some ⟨g3, 0, none⟩) x.bytes.length c3)
      obtain ⟨w4, hw4⟩ : ∃ w4, w4 = w3.setCell ⟨g, 0, none⟩ (.slice (some ⟨g3, 0, none⟩) x.bytes.length c3) := ⟨_, rfl⟩
      rw [← hw4] at k4
      have h4 : w4.heap[g3]? = some (.cells cs 5 (0, 0)) := (k4.2.2.1 g3 hne.symm).trans hq3
      have ck : w4.cell? ⟨g3, k, none⟩ = some (.int .u8 ((x.bytes[k]).toNat : Int)) := by
        rw [cell_of_row w4 g3 k _ 5 (0, 0) h4, hcs k (by simpa [cellsOf] using hk)]
        simp [cellsOf, hk]
      have zk : w4.frozen? ⟨g3, k, none⟩ = false := frozen_of_row w4 g3 k _ 5 h4
      have d4 : w4.cell? ⟨g, 0, none⟩ = some (.slice (some ⟨g3, 0, none⟩) x.bytes.length c3) := k4.cell 0
      have k5 := ((Tick.refl h4).drew).set k (.int .u8 ((x.bytes[k] ^^^ b).toNat : Int))
      have u5 : Turns (fun k => k = g) w1 (w4.drew.setCell ⟨g3, k, none⟩ (.int .u8 ((x.bytes[k] ^^^ b).toNat : Int))) :=
        ((t3.mono fun _ _ x => x.elim).trans (Turns.of_tick k4)).andThen (Turns.of_tick k5) (fun i hi e => by omega)
      have hR := R1.out.filed (x' := ⟨turnAt x.bytes k b, x.synced⟩) (v' := .slice (some ⟨g3, 0, none⟩) x.bytes.length c3) hx ((k5.2.2.1 g hne).trans k4.1) (.inr ⟨g3, c3, _, rfl, by simp [turnAt], hc3, row_turned hk hroom hcs k5.1⟩) u5 (fun i hi => by
        obtain ⟨_, _, e⟩ := hi
        cases e
        exact .inr hg3)
      have hag := hF.ag
      have HF := hide (HSS.out g x k _ hfile hx rfl hk ⟨bs, ch, _, hR.mono fun i _ => grow_of T1.out.size i⟩ ((T1.out.mono fun _ _ x => x.elim).trans (u5.mono fun i _ e => by rw [e]; exact hag)))
      have hq := hr3 28
      have c0a : (w1.alloc (.cells #[] 5)).cell? ⟨g, 0, none⟩ = some (.slice (some ⟨j, 0, none⟩) x.bytes.length fc) := (Turns.of_below hb (fun _ => False)).cell c0 (fun x => x)
      have hxx := xor_b8 x.bytes[k] b
      have HW := hide hw4
      have i1 : ¬ (k : Int) < 0 := by omega
      clear hw4 k5 u5 hR hag hF hfile hx hcs hroom hq3 h4 h3 hr3 hb hrow hb3 k4 t3 hc hfv ho hg1
      generalize x.bytes[k] ^^^ b = y at *
      generalize x.bytes[k] = z at *
      generalize x.bytes.length = L at *
      go_wp2_with (at_builtin; refine wpList_append_run rfl _ _ 28 rfl _ _ rfl rfl _ _ hq ?_)
      rw [← HW.out]
      go_still_tail 15, (by kernel_rfl)
      repeat still_step
      have zk' : ({ w4 with drawn := w4.drawn + 1 } : World).frozen? ⟨g3, k, none⟩ = false := zk
      have ck' : ({ w4 with drawn := w4.drawn + 1 } : World).cell? ⟨g3, k, none⟩ = some (.int .u8 (z.toNat : Int)) := ck
      go_wp2_with fail
      exact HF.out
end Go.Proofs.Ytefjljdgdoklmaa

/-
  What the document's Used works with: rows of pointers, the files that a file system's directories tell of.
-/
namespace Go.Proofs.Ytefjljdgdoklmaa
open Go.RowKit Go.Maps

theorem t92_size : Try.t92.size = 1 := by kernel_rfl
theorem t92_bytes : Try.t92.bytes = 8 := by kernel_rfl
theorem t92_info : Try.prog.info? 92 = some Try.t92 := by kernel_rfl
theorem t92_zero : Try.t92.zero = some (.pointer none) := by kernel_rfl

def ptrCells (ls : List Nat) : List Value := ls.map fun k => .pointer (some ⟨k, 0, none⟩)
/-- A row of pointers of one's own, behind B. -/
def PtrRow (w : World) (B : Nat) (v : Value) (ls : List Nat) : Prop :=
  (ls = [] ∧ v = .slice none 0 0) ∨ ∃ g c n : Nat, v = .slice (some ⟨g, 0, none⟩) n c ∧ n = ls.length ∧ n ≤ c ∧ B ≤ g ∧ RowC w g 92 c (ptrCells ls)
theorem PtrRow.row {w : World} {B : Nat} {v : Value} {ls : List Nat} (h : PtrRow w B v ls) {k : Nat} (hk : inRow v k) : B ≤ k ∧ ∃ cs, w.heap[k]? = some (.cells cs 92 (0, 0)) := by
  obtain ⟨n', c', e⟩ := hk
  rcases h with ⟨_, rfl⟩ | ⟨g, c, n, rfl, _, _, hB, cs, h1, _⟩
  · cases e
  · cases e; exact ⟨hB, cs, h1⟩
theorem PtrRow.keep {S : Nat → Prop} {w w' : World} {B : Nat} {v : Value} {ls : List Nat} (h : PtrRow w B v ls) (t : Turns S w w') (hn : ∀ k, inRow v k → ¬ S k) : PtrRow w' B v ls := by
  rcases h with h | ⟨g, c, n, h1, h2, h3, h4, cs, h5, h6, h7⟩
  · exact .inl h
  · exact .inr ⟨g, c, n, h1, h2, h3, h4, cs, t.heap h5 (hn g ⟨n, c, h1⟩), h6, h7⟩

theorem append_ptr (w : World) (B : Nat) (v : Value) (ls : List Nat) (h : PtrRow w B v ls) (hB : B ≤ w.heap.size) (hlen : ls.length ≤ 1000000000) (x : Nat) (a : Addr) (c : Nat) (ha : w.cell? a = some (.pointer (some ⟨x, 0, none⟩))) :
    ∃ (g' n' c' : Nat) (w' : World), (∀ ty, (Builtin.append_ #[100, 100] ty #[v, .slice (some a) 1 c]).run Try.prog w = .ok (.slice (some ⟨g', 0, none⟩) n' c') w') ∧ PtrRow w' B (.slice (some ⟨g', 0, none⟩) n' c') (ls ++ [x]) ∧ Turns (inRow v) w w' ∧ Below B w w' := by
  have hsrc : Src Try.prog Try.t92.size 100 (.slice (some a) 1 c) 1 [.pointer (some ⟨x, 0, none⟩)] w := Src.ofSlice w Try.underlying100 a 1 c _ (by rw [t92_size]; rfl) (fun j u hu => by
    cases j with
    | zero => cases hu; exact ha
    | succ j => cases hu) (fun u hu => by
    simp only [List.mem_cons, List.not_mem_nil, or_false] at hu
    rw [hu]; rfl)
  obtain ⟨base, sLen, sCap, rfl, hsl, hbase⟩ : ∃ (base : Option Addr) (sLen sCap : Nat), v = .slice base sLen sCap ∧ sLen = ls.length ∧ ((base = none ∧ sLen = 0 ∧ sCap = 0 ∧ 0 < 1) ∨ ∃ g, base = some ⟨g, 0, none⟩ ∧ B ≤ g ∧ sLen ≤ sCap ∧ RowC w g 92 (sCap * Try.t92.size) (ptrCells ls)) := by
    rcases h with ⟨rfl, rfl⟩ | ⟨g, c, n, rfl, rfl, h3, h4, h5⟩
    · exact ⟨none, 0, 0, rfl, rfl, .inl ⟨rfl, rfl, rfl, by omega⟩⟩
    · exact ⟨_, _, _, rfl, rfl, .inr ⟨g, rfl, h4, h3, by rw [t92_size, Nat.mul_one]; exact h5⟩⟩
  obtain ⟨g, cp, w', hr, hg, hrow, hb, hcp, _, _, hkeep⟩ := append_gen2 (P := Try.prog) w B 100 92 Try.t92 _ Try.underlying100 t92_info t92_zero rfl base sLen sCap (ptrCells ls) (by rw [t92_size, hsl]; simp [ptrCells]) _ 1 _ hsrc hB hbase (by rw [t92_bytes]; omega) (by omega)
  refine ⟨g, _, cp, w', hr, .inr ⟨g, cp, _, rfl, by simp [hsl], hcp, hg, ?_⟩, ⟨hb.os, hb.tape, hb.output, hb.size, fun k hk hn => hkeep k hk fun e => hn ⟨sLen, sCap, by rw [e]⟩⟩, hb⟩
  rw [t92_size, Nat.mul_one] at hrow
  rw [show ptrCells (ls ++ [x]) = ptrCells ls ++ [.pointer (some ⟨x, 0, none⟩)] by simp [ptrCells]]
  exact hrow

theorem ranges_keep {S : Nat → Prop} {w w' : World} {b r n : Nat} {D : DataW Unit} {left : Lit → Bool} {cnt : Nat} (h : w.ranges Try.prog 9 ptrR b r n D left cnt) (t : Turns S w w') (hb : ¬ S b) (hr : ¬ S r) : w'.ranges Try.prog 9 ptrR b r n D left cnt := by
  obtain ⟨es, clock, since, seen, c0, h1, F, hs, hD, h2, rest⟩ := h
  exact ⟨es, clock, since, seen, c0, t.heap h1 hb, F, hs, hD, t.heap h2 hr, rest⟩
theorem ranges_map {w : World} {b r n : Nat} {D : DataW Unit} {left : Lit → Bool} {cnt : Nat} (h : w.ranges Try.prog 9 ptrR b r n D left cnt) : (∀ cs t a, w.heap[b]? ≠ some (.cells cs t a)) ∧ ∀ cs t a, w.heap[r]? ≠ some (.cells cs t a) := by
  obtain ⟨es, clock, since, seen, c0, h1, F, hs, hD, h2, rest⟩ := h
  exact ⟨fun cs t a e => (by rw [h1] at e; cases e), fun cs t a e => (by rw [h2] at e; cases e)⟩

/-- The bytes of those files together. -/
def total (F : Nat → Option Fil) (ls : List Nat) : Nat := (ls.map fun g => match F g with | some x => x.bytes.length | none => 0).sum
theorem total_snoc (F : Nat → Option Fil) (ls : List Nat) (g : Nat) (x : Fil) (hx : F g = some x) : total F (ls ++ [g]) = total F ls + x.bytes.length := by
  simp [total, hx]
/-- The files that the directories before the i-th tell of. -/
def RDisk.tells (r : RDisk) (i : Nat) (g : Nat) : Prop := ∃ j, j < i ∧ ∃ s, fileOf (r.dir j) s = some g

/-- An entry that a range over a directory has shown. -/
theorem entry_file {D : DataW Unit} (hf : Full D) {s : ByteArray} {c : Option Nat} (hat : ∀ zd, D.atKey (key s) zd = ptrD c) : ∃ g, c = some g ∧ fileOf D s = some g := by
  cases c with
  | some g => exact ⟨g, rfl, fileOf_lit _ _ _ (hat _)⟩
  | none =>
    obtain ⟨es, rfl, h⟩ := hf
    have h1 := hat (.lit (.bool true))
    simp only [DataW.atKey, ptrD] at h1
    cases e : es.find? (fun p => p.1.sameKey (key s)) with
    | none => rw [e] at h1; cases h1
    | some q =>
      rw [e] at h1
      obtain ⟨_, g, rfl⟩ := h q (List.mem_of_find?_eq_some e)
      cases h1
theorem fileOf_has {D : DataW Unit} {s : ByteArray} {g : Nat} (h : fileOf D s = some g) : has D (key s) = true := by
  cases e : has D (key s) with
  | true => rfl
  | false =>
    unfold fileOf at h
    rw [atKey_of_not_has e] at h
    cases h
end Go.Proofs.Ytefjljdgdoklmaa
