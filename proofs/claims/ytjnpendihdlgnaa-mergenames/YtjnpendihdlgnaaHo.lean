/-
  Rows of entries in memory, and their heads.
-/
import Derived.Test.YtjnpendihdlgnaaNx
namespace Go.Proofs.Ytjnpendihdlgnaa
open Go.RowKit
set_option maxRecDepth 100000
set_option maxHeartbeats 4000000
/-- A row: where it lies, and its entries. -/
structure Rw where
  a : Option Addr
  c : Nat
  R : List Tow
def Rw.v (x : Rw) : Value := .slice x.a x.R.length x.c
/-- A row that lies there. -/
structure RwOk (w : World) (x : Rw) : Prop where
  ents : Ents w x.a x.R
  cap : x.R.length ≤ x.c
  size : x.R.length ≤ 1000000
/-- Rows, one behind the other. -/
def RowsIn (w : World) (a : Option Addr) (rs : List Rw) : Prop := ∀ k x, rs[k]? = some x → (∃ b off, a = some ⟨b, off, none⟩ ∧ w.cell? ⟨b, off + k, none⟩ = some (.slice x.a x.R.length x.c)) ∧ RwOk w x
theorem RwOk.quiet {w w' : World} {x : Rw} (h : RwOk w x) (t : Turns (fun _ => False) w w') : RwOk w' x := ⟨h.ents.quiet t, h.cap, h.size⟩
theorem RowsIn.quiet {w w' : World} {a : Option Addr} {rs : List Rw} (h : RowsIn w a rs) (t : Turns (fun _ => False) w w') : RowsIn w' a rs := fun k x hx => by
  obtain ⟨⟨b, off, e, hc⟩, ho⟩ := h k x hx
  exact ⟨⟨b, off, e, t.cell hc (fun x => x)⟩, ho.quiet t⟩
def hdOf (x : Rw) (i : Nat) : Option Hd := match x.a, x.R with
  | some a, y :: r => some ⟨a.block, a.off, x.c, y :: r, i⟩
  | _, _ => none
def hds (rs : List Rw) : List Hd := rs.zipIdx.filterMap fun p => hdOf p.1 p.2
theorem hds_take {rs : List Rw} {i : Nat} {x : Rw} (h : rs[i]? = some x) : hds (rs.take (i + 1)) = hds (rs.take i) ++ (hdOf x i).toList := by
  have hi := (List.getElem?_eq_some_iff.1 h).1
  have e : rs.take (i + 1) = rs.take i ++ [x] := by rw [List.take_add_one, h]; rfl
  have hl : (rs.take i).length = i := by rw [List.length_take]; omega
  unfold hds
  rw [e, List.zipIdx_append, List.filterMap_append, hl, Nat.zero_add]
  congr 1
theorem hds_length (rs : List Rw) : (hds rs).length ≤ rs.length := by
  unfold hds
  refine Nat.le_trans (List.length_filterMap_le _ _) ?_
  simp
theorem hdOf_ok {w : World} {x : Rw} {i : Nat} {h : Hd} (hx : RwOk w x) (hi : i ≤ 1000000) (e : hdOf x i = some h) : HdOk w h ∧ h.R = x.R ∧ h.no = i ∧ x.a = some ⟨h.b, h.off, none⟩ ∧ h.c = x.c := by
  obtain ⟨a, c, R⟩ := x
  unfold hdOf at e
  split at e
  · next ad y r e1 e2 =>
    simp only at e1 e2
    subst e1 e2
    cases e
    obtain ⟨⟨b, off, e3, _⟩, _⟩ := hx.ents 0 y rfl
    cases e3
    exact ⟨⟨by simp, hx.ents, hx.cap, hx.size, hi⟩, rfl, rfl, rfl, rfl⟩
  · cases e
theorem hdOf_none {x : Rw} {i : Nat} (e : x.R = []) : hdOf x i = none := by
  unfold hdOf
  rw [e]
  split
  · next h => cases h
  · rfl
theorem hdOf_some {w : World} {x : Rw} {i : Nat} (hx : RwOk w x) (e : x.R ≠ []) : ∃ b off, x.a = some ⟨b, off, none⟩ ∧ hdOf x i = some ⟨b, off, x.c, x.R, i⟩ := by
  obtain ⟨a, c, R⟩ := x
  cases R with
  | nil => exact absurd rfl e
  | cons y r =>
    obtain ⟨⟨b, off, e3, _⟩, _⟩ := hx.ents 0 y rfl
    simp only at e3
    subst e3
    exact ⟨b, off, rfl, rfl⟩
theorem mem_hds {rs : List Rw} {h : Hd} : h ∈ hds rs ↔ ∃ i x, rs[i]? = some x ∧ hdOf x i = some h := by
  unfold hds
  simp only [List.mem_filterMap, Prod.exists]
  constructor
  · rintro ⟨x, i, h1, h2⟩
    exact ⟨i, x, List.mem_zipIdx_iff_getElem?.1 h1, h2⟩
  · rintro ⟨i, x, h1, h2⟩
    exact ⟨x, i, List.mem_zipIdx_iff_getElem?.2 h1, h2⟩
theorem headsOf_any (a : Option Addr) (n c : Nat) (rs : List Rw) (w : World) (h : RowsIn w a rs) (hn : n = rs.length) (hmx : n ≤ 1000000) :
    Calls Try.prog 42 #[.slice a n c] w fun e w' => ∃ v L p0, e = .returned v ∧ HB (fun k => w.heap.size ≤ k) w' p0 0 50 #[.slice none 0 0] v L ∧ L.Perm (hds rs) ∧ Hp.Heap ltH (hf L) L.length ∧ Below w.heap.size w w' := by
  have H0 := hide h
  have HN := hide hn
  have T0 := hide ((Turns.refl (fun _ => False) w).alloc (.cells #[.slice none 0 0] 50))
  have hb0 := heap_alloc_new w (.cells #[.slice none 0 0] 50)
  have hs0 : (w.alloc (.cells #[.slice none 0 0] 50)).heap.size = w.heap.size + 1 := by simp
  have HS0 := hide hs0
  have B0 := hide (show HB (fun k => w.heap.size ≤ k) (w.alloc (.cells #[.slice none 0 0] 50)) w.heap.size 0 50 #[.slice none 0 0] (.slice none 0 0) [] from
    ⟨hb0, by decide, Nat.le_refl _, fun k hk => by show w.heap.size ≤ k; omega, .inl ⟨rfl, rfl⟩, fun x hx => (by cases hx), by simp⟩)
  clear h hn hb0 hs0
  go_enter Try.func42, Try.ntmps42
  go_wp2_with fail
  generalize w.alloc (.cells #[.slice none 0 0] 50) = w0 at *
  generalize hp0 : w.heap.size = p0 at *
  have HP0 := hide hp0
  clear hp0
  go_loopw [8] (fun v8 wr => ∃ (i : Nat) (v : Value) (L : List Hd), v8 = .int .i64 (i : Nat) ∧ i ≤ n ∧ HB (fun k => p0 ≤ k) wr p0 0 50 #[.slice none 0 0] v L ∧ L.Perm (hds (rs.take i)) ∧ Hp.Heap ltH (hf L) L.length ∧ Moved p0 (.slice none 0 0) v w0 wr) (fun v8 _ => n - (intOf v8).toNat)
  case atStart => exact ⟨0, _, [], rfl, Nat.zero_le _, B0.out, .refl _, fun k _ hk => by simp at hk, Moved.quiet (Turns.refl _ _)⟩
  case round =>
    obtain ⟨i, v, L, rfl, hi, hB, hP, hH, hM⟩ := hrel
    have B1 := hide hB
    have P1 := hide hP
    have H1 := hide hH
    have M1 := hide hM
    have TW := hide (show Turns (fun _ => False) w wr from T0.out.andThen hM.1 fun k hk e => by
      have := HP0.out
      rcases e with e | ⟨_, _, e⟩
      · omega
      · cases e)
    have hcell := hB.cell
    obtain ⟨va, vn, vc, hv⟩ : ∃ a n c, v = .slice a n c := by
      rcases hB.row with ⟨e, _⟩ | ⟨g, c, e, _⟩
      · exact ⟨_, _, _, e⟩
      · exact ⟨_, _, _, e⟩
    subst hv
    clear hB hP hH hM
    by_cases hin : i < n
    · obtain ⟨x, hx⟩ : ∃ x, rs[i]? = some x := ⟨_, List.getElem?_eq_getElem (by have := HN.out; omega)⟩
      obtain ⟨⟨b, off, rfl, hc⟩, hok⟩ := H0.out i x hx
      have hc1 := TW.out.cell hc (fun x => x)
      have i1 : (i : Int) < n := by omega
      have i0 : (0 : Int) ≤ i := by omega
      have HX := hide hx
      have HOK := hide hok
      have hll := P1.out.length_eq
      have hl2 := hds_length (rs.take i)
      rw [List.length_take] at hl2
      have HLL := hide (show L.length < 1000000 by have := HN.out; omega)
      clear hx hok hc hll hl2
      by_cases he : x.R = []
      · rw [he] at hc1
        have E := hide (hdOf_none (i := i) he)
        clear he
        go_wp2_with fail
        go_roundw
        case rel => exact ⟨i + 1, _, L, by go_num, by omega, B1.out, by rw [hds_take HX.out, E.out]; simpa using P1.out, H1.out, M1.out⟩
        case measure => simp [intOf]; omega
      · obtain ⟨xb, xo, ha, hd⟩ := hdOf_some (i := i) HOK.out he
        have hok1 := (hdOf_ok HOK.out (by omega) hd).1
        have HQ := hide (hpush_any (fun k => p0 ≤ k) p0 0 50 #[.slice none 0 0] _ L ⟨xb, xo, x.c, x.R, i⟩ wr B1.out H1.out (hok1.quiet TW.out) (fun q hq => by have := hok1.lt hq; have := HP0.out; omega) HLL.out)
        have hlen : 0 < x.R.length := List.length_pos_iff.2 he
        have hleni : (0 : Int) < x.R.length := by omega
        rw [ha] at hc1
        have HD := hide hd
        clear he ha hd hok1
        obtain ⟨xa, xc, xR⟩ := x
        simp only at *
        generalize xR.length = xl at *
        go_wp2_with fail
        refine HQ.out.mono ?_
        rintro e w3 ⟨v', L', ⟨u, rfl⟩, hB3, hP3, hH3, hM3⟩
        have REL := hide (show HB (fun k => p0 ≤ k) w3 p0 0 50 #[.slice none 0 0] v' L' ∧ L'.Perm (hds (rs.take (i + 1))) ∧ Hp.Heap ltH (hf L') L'.length ∧ Moved p0 (.slice none 0 0) v' w0 w3 by
          refine ⟨hB3, hP3.trans ?_, hH3, M1.out.trans hM3⟩
          rw [hds_take HX.out, HD.out]
          exact P1.out.append_right _)
        clear hB3 hP3 hH3 hM3
        go_wp2_with fail
        go_roundw
        case rel => exact ⟨i + 1, v', L', by go_num, by omega, REL.out⟩
        case measure => simp [intOf]; omega
    · obtain rfl : i = n := by omega
      have FIN := hide (show HB (fun k => p0 ≤ k) wr p0 0 50 #[.slice none 0 0] (.slice va vn vc) L ∧ L.Perm (hds rs) ∧ Hp.Heap ltH (hf L) L.length ∧ Below p0 w wr by
        refine ⟨B1.out, ?_, H1.out, TW.out.below (by have := HP0.out; omega) (fun _ x => x.elim)⟩
        have := P1.out
        rw [HN.out, List.take_length] at this
        exact this)
      go_wp2_with fail
      go_ret
      rw [HP0.out]
      exact ⟨_, L, p0, rfl, FIN.out⟩
end Go.Proofs.Ytjnpendihdlgnaa
