import Derived.Test.YtjnpendihdlgnaaM15
import Derived.Test.YtjnpendihdlgnaaM14
/-
  The document's All.
-/
namespace Go.Proofs.Ytjnpendihdlgnaa
open Go.RowKit
set_option maxRecDepth 100000
set_option maxHeartbeats 4000000
/-- Entries in a row of one's own whose bytes lie somewhere. -/
theorem ents_row {w : World} {B : Nat} {v : Value} {R : List Tow} (h : ERow w B v R) (hs : ∀ x, x ∈ R → Bytes w x.kv x.e.key ∧ Bytes w x.vv x.e.val) : ∃ a c, v = .slice a R.length c ∧ Ents w a R ∧ R.length ≤ c ∧ (a = none → c = 0) := by
  by_cases hne : R = []
  · subst hne
    rcases h with ⟨_, rfl⟩ | ⟨g, c, n, rfl, rfl, h3, _⟩
    · exact ⟨none, 0, rfl, fun k x hx => by simp at hx, by simp, fun _ => rfl⟩
    · exact ⟨_, _, rfl, fun k x hx => by simp at hx, h3, fun e => by cases e⟩
  · obtain ⟨g, c, rfl, hc⟩ := h.at hne
    have hcap : R.length ≤ c := by
      rcases h with ⟨e, _⟩ | ⟨g', c', n', e, rfl, h3, _⟩
      · exact absurd e hne
      · cases e; exact h3
    refine ⟨_, c, rfl, fun k x hx => ⟨⟨g, 0, rfl, fun j u hu => ?_⟩, (hs x (List.mem_of_getElem? hx)).1, (hs x (List.mem_of_getElem? hx)).2⟩, hcap, fun e => by cases e⟩
    obtain ⟨c0, c1, c2, c3⟩ := hc k x hx
    rw [Nat.zero_add]
    match j, hu with
    | 0, hu => obtain rfl : x.kv = u := by simpa using hu
               exact c0
    | 1, hu => obtain rfl : Value.int .u64 (x.e.seq : Nat) = u := by simpa using hu
               exact c1
    | 2, hu => obtain rfl : Value.int .i64 x.e.kind = u := by simpa using hu
               exact c2
    | 3, hu => obtain rfl : x.vv = u := by simpa using hu
               exact c3
    | j + 4, hu => simp at hu
theorem mg2_length (A B : List Tow) : (mg2 A B).length ≤ A.length + B.length := by
  fun_induction mg2 A B with
  | case1 bs => simp
  | case2 a r => simp
  | case3 a r b t h ih => simp only [List.length_cons] at *; omega
  | case4 a r b t h1 h2 ih => simp only [List.length_cons] at *; omega
  | case5 a r b t h1 h2 ih => simp only [List.length_cons] at *; omega
theorem mg_from {rs : List Rw} {xs : List Tow} (h : Mg (hds rs) xs) {x : Tow} (hx : x ∈ xs) : x ∈ allOf rs := by
  obtain ⟨g, g1, g2, _⟩ := h.of x hx
  obtain ⟨i, r, h1, h2, _⟩ := hds_is g1
  exact List.mem_flatMap.2 ⟨r, List.mem_of_getElem? h1, by rw [← h2]; exact g2⟩
theorem allOf_take {rs : List Rw} {i : Nat} {x : Tow} (h : x ∈ allOf (rs.take i)) : x ∈ allOf rs := by
  obtain ⟨r, h1, h2⟩ := List.mem_flatMap.1 h
  exact List.mem_flatMap.2 ⟨r, List.mem_of_mem_take h1, h2⟩
/-- One row more among those that are merged. -/
theorem mg_next {w : World} {rs : List Rw} {i : Nat} {x : Rw} {R : List Tow} (hx : rs[i]? = some x) (hok : RwOk w x) (hu : x.R.Pairwise ltT) (h : Mg (hds (rs.take i)) R) : Mg (hds (rs.take (i + 1))) (mg2 R x.R) := by
  rw [hds_take hx]
  by_cases hne : x.R = []
  · rw [hne, mg2_nil_right, hdOf_none (i := i) hne]
    simpa using h
  · obtain ⟨b, off, _, e⟩ := hdOf_some (i := i) hok hne
    rw [e]
    refine h.more hu fun h' hh' => ?_
    obtain ⟨j, y, hj, _, hno⟩ := hds_is hh'
    have := (List.getElem?_eq_some_iff.1 hj).1
    rw [List.length_take] at this
    show h'.no < i
    omega
/-- What the document's All answers. -/
def RAllOk (rs : List Rw) (R : List Tow) : Prop := (eachOrd rs = true ∧ Mg (hds rs) R ∧ R.length ≤ sumR rs) ∨ (eachOrd rs = false ∧ R = [])
theorem refAll_any (a : Option Addr) (n c : Nat) (rs : List Rw) (w : World) (h : RowsIn w a rs) (hn : n = rs.length) (hf : Few rs) :
    Calls Try.prog 15 #[.slice a n c] w fun e w' => ∃ v R, e = .returned (.tuple #[v, .int .i64 (ordE (eachOrd rs))]) ∧ ERow w' w.heap.size v R ∧ Below w.heap.size w w' ∧ RAllOk rs R := by
  have HC := hide (rcheck_any a n c rs w (fun k x hx => ⟨(h k x hx).1, (h k x hx).2.ents⟩) hn hf)
  have H0 := hide h
  have HN := hide hn
  have HF := hide hf
  have hmi : (n : Int) ≤ 20 := by have := hf.rows; omega
  clear h hn hf
  cases ho : eachOrd rs with
  | false =>
    rw [ho] at HC
    have HO := hide ho
    clear ho
    go_enter Try.func15, Try.ntmps15
    go_wp2_with fail
    refine HC.out.mono ?_
    rintro e w1 ⟨rfl, hb⟩
    rw [show ordE false = 2 from rfl]
    go_wp2_with fail
    go_ret2
    first
      | exact ⟨_, [], rfl, .inl ⟨rfl, rfl⟩, hb, .inr ⟨HO.out, rfl⟩⟩
      | exact ⟨_, rfl, [], .inl ⟨rfl, rfl⟩, hb, .inr ⟨HO.out, rfl⟩⟩
  | true =>
    rw [ho] at HC
    have HO := hide ho
    clear ho
    go_enter Try.func15, Try.ntmps15
    go_wp2_with fail
    refine HC.out.mono ?_
    rintro e w1 ⟨rfl, hb⟩
    rw [show ordE true = 0 from rfl]
    have B1 := hide hb
    clear hb
    go_wp2_with fail
    go_loopw [5, 6] (fun ov iv wr => ∃ (i : Nat) (R : List Tow), iv = .int .i64 (i : Nat) ∧ i ≤ n ∧ ERow wr w.heap.size ov R ∧ Mg (hds (rs.take i)) R ∧ R.length ≤ sumR (rs.take i) ∧ Below w.heap.size w wr) (fun _ iv _ => n - (intOf iv).toNat)
    case atStart => exact ⟨0, [], rfl, Nat.zero_le _, .inl ⟨rfl, rfl⟩, Mg.nil, Nat.zero_le _, B1.out⟩
    case round =>
      obtain ⟨i, R, rfl, hi, hE, hM, hl, hb⟩ := hrel
      have TW := hide (Turns.of_below hb (fun _ => False))
      have hrb : ∀ x, x ∈ R → Bytes wr x.kv x.e.key ∧ Bytes wr x.vv x.e.val := fun x hx => by
        have := all_bytes (H0.out.quiet TW.out) (allOf_take (mg_from hM hx))
        exact this
      have HM := hide hM
      have BW := hide hb
      have HL := hide hl
      have HE := hide hE
      obtain ⟨oa, oc, rfl, hen, _, _⟩ := ents_row hE hrb
      have HEN := hide hen
      have hsz := hb.size
      have HRS := hide (show ∀ x, x ∈ R → x.e.key.length ≤ 1000000 from fun x hx => by
        obtain ⟨r, hr, hxr⟩ := List.mem_flatMap.1 (allOf_take (mg_from hM hx))
        have := (HF.out.each r hr).2 x hxr
        omega)
      clear hE hM hl hb hrb hen
      by_cases hin : i < n
      · obtain ⟨x, hx⟩ : ∃ x, rs[i]? = some x := ⟨_, List.getElem?_eq_getElem (by have := HN.out; omega)⟩
        obtain ⟨⟨b, off, rfl, hc⟩, hok⟩ := H0.out i x hx
        have hc1 := TW.out.cell hc (fun x => x)
        have i1 : (i : Int) < n := by omega
        have i0 : (0 : Int) ≤ i := by omega
        have hfe := HF.out.each x (List.mem_of_getElem? hx)
        have hsum : sumR (rs.take (i + 1)) = sumR (rs.take i) + x.R.length := by rw [List.take_add_one, hx]; exact sumR_snoc _ _
        have hsum2 : sumR (rs.take (i + 1)) ≤ sumR rs := by
          have e : sumR rs = sumR (rs.take (i + 1)) + sumR (rs.drop (i + 1)) := by
            unfold sumR
            rw [List.map_take, List.map_drop, ← List.sum_append, List.take_append_drop]
          omega
        have hall := HF.out.all
        have TWO := hide (two_any oa x.a R.length oc x.R.length x.c R x.R wr HEN.out (hok.ents.quiet TW.out) rfl rfl (by have := HL.out; omega) HRS.out (fun y hy => by have := hfe.2 y hy; omega))
        have NX := hide (mg_next hx hok (ord_up HO.out i x hx) HM.out)
        have NL := hide (show (mg2 R x.R).length ≤ sumR (rs.take (i + 1)) by have := mg2_length R x.R; have := HL.out; omega)
        clear hc hx hok hfe hsum hsum2 hall
        obtain ⟨xa, xc, xR⟩ := x
        simp only at *
        generalize hxl : xR.length = xl at hc1 TWO
        clear hxl
        generalize hrl : R.length = rl at TWO
        clear hrl
        go_wp2_with fail
        refine TWO.out.mono ?_
        rintro e w2 ⟨v2, R2, rfl, hE2, rfl, b2⟩
        have E2 := hide (hE2.le hsz)
        have B2 := hide (then_below BW.out b2 (Nat.le_refl _))
        clear hE2 b2
        go_wp2_with fail
        go_roundw
        case rel => exact ⟨i + 1, _, by go_num, by omega, E2.out, NX.out, NL.out, B2.out⟩
        case measure => simp [intOf]; omega
      · have i1 : ¬ (i : Int) < n := by omega
        obtain rfl : i = n := by omega
        have X := hide (show Mg (hds rs) R ∧ R.length ≤ sumR rs by have h1 := HM.out; have h2 := HL.out; rw [HN.out, List.take_length] at h1 h2; exact ⟨h1, h2⟩)
        go_wp2_with fail
        go_ret2
        first
          | exact ⟨_, R, rfl, HE.out, BW.out, .inl ⟨HO.out, X.out⟩⟩
          | exact ⟨_, rfl, R, HE.out, BW.out, .inl ⟨HO.out, X.out⟩⟩
end Go.Proofs.Ytjnpendihdlgnaa

/-
  Rows that came in.
-/
namespace Go.Proofs.Ytjnpendihdlgnaa
open Go.RowKit
set_option maxRecDepth 100000
theorem open_entsC {H : Type} {enc : TypeId × Value → H} {W : World} {fuel : Nat} {v : Value} {x : DataW H × List MemPlace} (h : DataW.trod enc Try.prog W 0 (fun _ => true) true fuel 27 [v] = some x) (hw : ∀ q ∈ x.1.weights Try.prog 27, q ≤ reachBytes) :
    ∃ (a : Option Addr) (m c : Nat) (l : List Tow), v = .slice a m c ∧ m = l.length ∧ Ents W a l ∧ m ≤ reachBytes ∧ (∀ f ∈ l, Fit f) ∧ m ≤ c ∧ (a = none → c = 0) := by
  rcases Go.Deep.open_slice Try.underlying27 h with ⟨hv, _⟩ | ⟨a, len, cap, m, n, D, Pl, hv, _, hlc, hcap, hm, hx, hcells⟩
  · obtain rfl : v = .slice none 0 0 := by simpa using hv
    exact ⟨none, 0, 0, [], rfl, rfl, fun k f hf => by simp at hf, by decide, fun f hf => (by simp at hf), Nat.le_refl _, fun _ => rfl⟩
  · obtain rfl : v = .slice (some a) len cap := by simpa using hv
    have hm' : m = cap := by simpa using hm
    subst hm'
    subst hx
    have hcw : len ≤ reachBytes := by
      have hw1 := hw _ (by simp only [DataW.weights, Try.underlying27]; exact List.mem_cons_self ..)
      simp only [List.length_map, List.length_range, bytesOf29] at hw1
      omega
    have each : ∀ i, i < len → ∃ f : Tow, (∀ j u, [f.kv, .int .u64 (f.e.seq : Nat), .int .i64 f.e.kind, f.vv][j]? = some u → W.cell? (a.add (i * 4 + j)) = some u) ∧ (Bytes W f.kv f.e.key ∧ Bytes W f.vv f.e.val) ∧ Fit f := by
      intro i hi
      obtain ⟨cs', h1, h2⟩ := hcells i (by omega)
      rw [cells29] at h1
      obtain ⟨_, hlen, hcell⟩ := World.cells?_some h1
      obtain ⟨xs, k, _, hxy, _, hxl, hf⟩ := DataW.trod_struct Try.underlying25 h2
      match xs, hxl, cs', hlen with
      | [y0, y1, y2, y3], _, [v0, v1, v2, v3], _ =>
        have t0 : DataW.trod enc Try.prog W 0 (fun _ => true) true k 22 [v0] = some y0 := by simpa [cells26] using hf 0 _ rfl
        have t1 : DataW.trod enc Try.prog W 0 (fun _ => true) true k 23 [v1] = some y1 := by simpa [cells27] using hf 1 _ rfl
        have t2 : DataW.trod enc Try.prog W 0 (fun _ => true) true k 3 [v2] = some y2 := by simpa [cells3] using hf 2 _ rfl
        have t3 : DataW.trod enc Try.prog W 0 (fun _ => true) true k 22 [v3] = some y3 := by simpa [cells26] using hf 3 _ rfl
        have hD : D i = .agg [y0.1, y1.1, y2.1, y3.1] := by
          have := congrArg Prod.fst hxy
          simpa using this
        have hin : ∀ q ∈ (DataW.agg [y0.1, y1.1, y2.1, y3.1] : DataW H).weights Try.prog 25, q ≤ reachBytes := fun q hq => hw q (by
          simp only [DataW.weights, Try.underlying27, List.mem_cons, List.mem_append]
          refine Or.inr (Or.inl (weights_in (d := D i) (List.mem_map.2 ⟨i, List.mem_range.2 hi, rfl⟩) q ?_))
          rw [hD]
          exact hq)
        have hw0 : ∀ q ∈ y0.1.weights Try.prog 22, q ≤ reachBytes := fun q hq => hin q (by
          simp only [DataW.weights, Try.underlying25, DataW.weightsEach, List.map_cons, List.map_nil, List.mem_append]
          exact Or.inl hq)
        have hw3 : ∀ q ∈ y3.1.weights Try.prog 22, q ≤ reachBytes := fun q hq => hin q (by
          simp only [DataW.weights, Try.underlying25, DataW.weightsEach, List.map_cons, List.map_nil, List.mem_append]
          exact Or.inr (Or.inr (Or.inr (Or.inl hq))))
        obtain ⟨ka, kn, kc, key, rfl, hk, hkn⟩ := open_bytes_cell t0 hw0
        obtain ⟨s, rfl, hs⟩ := u64_cell Try.underlying23 t1
        obtain ⟨z, rfl⟩ := i64_cell Try.underlying3 t2
        obtain ⟨va, vn, vc, val, rfl, hv2, hvn⟩ := open_bytes_cell t3 hw3
        have l1 := hk.len
        have l2 := hv2.len
        subst l1 l2
        refine ⟨⟨ka, kc, va, vc, ⟨key, s, z, val⟩⟩, fun j u hu => ?_, ⟨hk, hv2⟩, hs, hkn, hvn⟩
        have hj : j < 4 := (List.getElem?_eq_some_iff.1 hu).1
        have e0 := hcell j (by omega)
        rw [Go.Deep.add_add] at e0
        rw [e0]
        exact hu
    obtain ⟨q, hq⟩ := Go.Deep.choose_lt each
    refine ⟨some a, len, m, (List.range len).map q, rfl, by simp, fun k f hf => ?_, hcw, fun f hf => ?_, hlc, fun e => (by cases e)⟩
    · have hk : k < len := by
        rcases Nat.lt_or_ge k len with h | h
        · exact h
        · rw [List.getElem?_eq_none (by simpa using h)] at hf; cases hf
      obtain rfl : q k = f := by simpa [hk] using hf
      have hq0 := (hq 0 (by omega)).1 0 _ rfl
      obtain ⟨b, off, spot⟩ := a
      have hspot : spot = none := by simpa [Addr.add] using World.cell?_spot hq0
      subst hspot
      refine ⟨⟨b, off, rfl, fun j u hu => ?_⟩, (hq k hk).2.1⟩
      have := (hq k hk).1 j u hu
      rw [Go.WideShapes.add_plain] at this
      rw [Nat.add_assoc]
      exact this
    · obtain ⟨i, hi, rfl⟩ := List.mem_map.1 hf
      exact (hq i (by simpa using hi)).2.2
theorem bytesOf27 : Try.prog.bytesOf 27 = 24 := by kernel_rfl
theorem cellsR : Try.prog.cellsOf 27 = 1 := by kernel_rfl
instance : Inhabited Rw := ⟨⟨none, 0, []⟩⟩
theorem open_rows_cell {H : Type} {enc : TypeId × Value → H} {W : World} {fuel : Nat} {v : Value} {x : DataW H × List MemPlace} (h : DataW.trod enc Try.prog W 0 (fun _ => true) true fuel 28 [v] = some x) (hw : ∀ q ∈ x.1.weights Try.prog 28, q ≤ reachBytes) :
    ∃ (a : Option Addr) (m c : Nat) (rs : List Rw), v = .slice a m c ∧ m = rs.length ∧ RowsOf W a rs ∧ m ≤ reachBytes := by
  rcases Go.Deep.open_slice Try.underlying28 h with ⟨hv, _⟩ | ⟨a, len, cap, m, n, D, Pl, hv, _, hlc, hcap, hm, hx, hcells⟩
  · obtain rfl : v = .slice none 0 0 := by simpa using hv
    exact ⟨none, 0, 0, [], rfl, rfl, fun k f hf => by simp at hf, by decide⟩
  · obtain rfl : v = .slice (some a) len cap := by simpa using hv
    have hm' : m = cap := by simpa using hm
    subst hm'
    subst hx
    have hcw : len ≤ reachBytes := by
      have hw1 := hw _ (by simp only [DataW.weights, Try.underlying28]; exact List.mem_cons_self ..)
      simp only [List.length_map, List.length_range, bytesOf27] at hw1
      omega
    have each : ∀ i, i < len → ∃ f : Rw, W.cell? (a.add i) = some (.slice f.a f.R.length f.c) ∧ RwIn W f := by
      intro i hi
      obtain ⟨cs', h1, h2⟩ := hcells i (by omega)
      rw [cellsR] at h1
      obtain ⟨_, hlen, hcell⟩ := World.cells?_some h1
      match cs', hlen with
      | [v0], _ =>
        have hin : ∀ q ∈ (D i).weights Try.prog 27, q ≤ reachBytes := fun q hq => hw q (by
          simp only [DataW.weights, Try.underlying28, List.mem_cons, List.mem_append]
          exact Or.inr (Or.inl (weights_in (d := D i) (List.mem_map.2 ⟨i, List.mem_range.2 hi, rfl⟩) q hq)))
        obtain ⟨fa, fm, fc, l, rfl, rfl, he, hre, hfit, hcap', hnil⟩ := open_entsC h2 hin
        refine ⟨⟨fa, fc, l⟩, ?_, ⟨he, hcap', hre, hfit, hnil⟩⟩
        have e0 := hcell 0 (by omega)
        rw [Go.Deep.add_add] at e0
        simpa using e0
    obtain ⟨q, hq⟩ := Go.Deep.choose_lt each
    refine ⟨some a, len, m, (List.range len).map q, rfl, by simp, fun k f hf => ?_, hcw⟩
    have hk : k < len := by
      rcases Nat.lt_or_ge k len with h | h
      · exact h
      · rw [List.getElem?_eq_none (by simpa using h)] at hf; cases hf
    obtain rfl : q k = f := by simpa [hk] using hf
    have hq0 := (hq 0 (by omega)).1
    obtain ⟨b, off, spot⟩ := a
    have hspot : spot = none := by simpa [Addr.add] using World.cell?_spot hq0
    subst hspot
    refine ⟨⟨b, off, rfl, ?_⟩, (hq k hk).2⟩
    have := (hq k hk).1
    rw [Go.WideShapes.add_plain] at this
    exact this
end Go.Proofs.Ytjnpendihdlgnaa

/-
  Numbers that came in: how many at most.
-/
namespace Go.Proofs.Ytjnpendihdlgnaa
open Go.ChangeShapes Go.WideShapes Go.ChangeAt Go.RowKit
set_option maxRecDepth 100000
theorem bytesOf3 : Try.prog.bytesOf 3 = 8 := by kernel_rfl
theorem ints_len {H : Type} {enc : TypeId × Value → H} {W : World} {n l c : Nat} {a : Option Addr} {x : DataW H × List MemPlace} (h : DataW.trod enc Try.prog W 0 (fun _ => true) true n 40 [.slice a l c] = some x) (hw : ∀ n ∈ x.1.weights Try.prog 40, n ≤ reachBytes) : l ≤ reachBytes := by
  rcases open_ints Try.underlying40 Try.underlying3 cells3 h with ⟨hv, _⟩ | ⟨a', len, cap, zs, hv, _, hlc, hcap, hlen, hx, hcell, hwf⟩
  · have e : (Value.slice a l c) = .slice none 0 0 := by simpa using hv
    cases e
    decide
  · have e : (Value.slice a l c) = .slice (some a') len cap := by simpa using hv
    cases e
    have hz : zs.length = c := by simpa using hlen
    subst hx
    have hw1 : ((lits .i64 (zs.take l) : List (DataW H)).length + (lits .i64 (zs.drop l) : List (DataW H)).length) * Try.prog.bytesOf 3 ≤ reachBytes := hw _ (by simp [DataW.weights, Try.underlying40])
    simp only [lits, List.length_map, List.length_take, List.length_drop, bytesOf3] at hw1
    omega
end Go.Proofs.Ytjnpendihdlgnaa
