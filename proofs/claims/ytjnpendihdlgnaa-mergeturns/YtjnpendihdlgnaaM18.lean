import Derived.Test.YtjnpendihdlgnaaM17
import Derived.Test.YtjnpendihdlgnaaM16
/-
  What is merged hangs on the entries alone.
-/
namespace Go.Proofs.Ytjnpendihdlgnaa
open Go.RowKit
set_option maxRecDepth 100000
/-- What the rows' entries are, merged: entries alone. -/
structure MgE (L : List (List Ent)) (es : List Ent) : Prop where
  rise : es.Pairwise ltE
  of : ∀ x, x ∈ es → ∃ (i : Nat) (r : List Ent), L[i]? = some r ∧ x ∈ r ∧ ∀ (j : Nat) (r' : List Ent), j < i → L[j]? = some r' → ∀ y, y ∈ r' → cmpE y.en x.en ≠ 0
  all : ∀ (i : Nat) (r : List Ent), L[i]? = some r → ∀ y, y ∈ r → ∃ x, x ∈ es ∧ cmpE x.en y.en = 0
theorem entR_at {rs : List Rw} {i : Nat} {r : List Ent} (h : (entR rs)[i]? = some r) : ∃ x, rs[i]? = some x ∧ r = x.R.map (·.e) := by
  simp only [entR, List.getElem?_map] at h
  obtain ⟨x, h1, h2⟩ := Option.map_eq_some_iff.1 h
  exact ⟨x, h1, h2.symm⟩
theorem at_entR {rs : List Rw} {i : Nat} {x : Rw} (h : rs[i]? = some x) : (entR rs)[i]? = some (x.R.map (·.e)) := by simp [entR, h]
theorem Mg.ents {w : World} {a : Option Addr} {rs : List Rw} {xs : List Tow} (hr : RowsIn w a rs) (h : Mg (hds rs) xs) : MgE (entR rs) (xs.map (·.e)) := by
  refine ⟨rise_map h.rise, fun x hx => ?_, fun i r hi y hy => ?_⟩
  · obtain ⟨t, ht, rfl⟩ := List.mem_map.1 hx
    obtain ⟨g, g1, g2, g3⟩ := h.of t ht
    obtain ⟨i, q, hi, hR, hno⟩ := hds_is g1
    refine ⟨i, _, at_entR hi, List.mem_map.2 ⟨t, by rw [← hR]; exact g2, rfl⟩, fun j r' hj hr' y hy => ?_⟩
    obtain ⟨q', hq', rfl⟩ := entR_at hr'
    obtain ⟨t', ht', rfl⟩ := List.mem_map.1 hy
    obtain ⟨g', g1', g2', g3'⟩ := hds_of (hr j q' hq').2 hq' (List.ne_nil_of_mem ht')
    exact g3 g' g1' (by omega) t' (by rw [g2']; exact ht')
  · obtain ⟨q, hq, rfl⟩ := entR_at hi
    obtain ⟨t, ht, rfl⟩ := List.mem_map.1 hy
    obtain ⟨g, g1, g2, _⟩ := hds_of (hr i q hq).2 hq (List.ne_nil_of_mem ht)
    obtain ⟨x, hx1, hx2⟩ := h.all g g1 t (by rw [g2]; exact ht)
    exact ⟨x.e, List.mem_map.2 ⟨x, hx1, rfl⟩, hx2⟩
theorem eq_of_riseE : ∀ {xs ys : List Ent}, xs.Pairwise ltE → ys.Pairwise ltE → (∀ x, x ∈ xs ↔ x ∈ ys) → xs = ys
  | [], [], _, _, _ => rfl
  | [], y :: ys, _, _, h => absurd ((h y).2 (by simp)) (by simp)
  | x :: xs, [], _, _, h => absurd ((h x).1 (by simp)) (by simp)
  | x :: xs, y :: ys, hx, hy, h => by
    have irr : ∀ z : Ent, ¬ ltE z z := fun z hz => by
      have := cmpE_self z.en
      unfold ltE at hz
      omega
    have asym : ∀ a b : Ent, ltE a b → ¬ ltE b a := fun a b h1 h2 => by
      have := cmpE_swap a.en b.en
      unfold ltE at h1 h2
      omega
    obtain ⟨hx1, hx2⟩ := List.pairwise_cons.1 hx
    obtain ⟨hy1, hy2⟩ := List.pairwise_cons.1 hy
    have e : x = y := by
      rcases List.mem_cons.1 ((h x).1 (by simp)) with e | e
      · exact e
      · rcases List.mem_cons.1 ((h y).2 (by simp)) with e2 | e2
        · exact e2.symm
        · exact absurd (hy1 x e) (asym _ _ (hx1 y e2))
    subst e
    refine congrArg (x :: ·) (eq_of_riseE hx2 hy2 fun z => ⟨fun hz => ?_, fun hz => ?_⟩)
    · rcases List.mem_cons.1 ((h z).1 (List.mem_cons_of_mem _ hz)) with e | e
      · subst e; exact absurd (hx1 z hz) (irr z)
      · exact e
    · rcases List.mem_cons.1 ((h z).2 (List.mem_cons_of_mem _ hz)) with e | e
      · subst e; exact absurd (hy1 z hz) (irr z)
      · exact e
theorem same_of_riseE {R : List Ent} (h : R.Pairwise ltE) {x y : Ent} (hx : x ∈ R) (hy : y ∈ R) (e : cmpE x.en y.en = 0) : x = y := by
  induction R with
  | nil => cases hx
  | cons z r ih =>
    obtain ⟨h1, h2⟩ := List.pairwise_cons.1 h
    rcases List.mem_cons.1 hx with rfl | hx'
    · rcases List.mem_cons.1 hy with rfl | hy'
      · rfl
      · have := h1 y hy'; unfold ltE at this; omega
    · rcases List.mem_cons.1 hy with rfl | hy'
      · have := h1 x hx'; unfold ltE at this; have := cmpE_swap x.en y.en; omega
      · exact ih h2 hx' hy'
theorem MgE.uniq {L : List (List Ent)} (hu : ∀ r, r ∈ L → r.Pairwise ltE) {xs ys : List Ent} (hx : MgE L xs) (hy : MgE L ys) : xs = ys := by
  have key : ∀ {xs ys : List Ent}, MgE L xs → MgE L ys → ∀ x, x ∈ xs → x ∈ ys := fun {xs ys} hx hy x hm => by
    obtain ⟨i, r, h1, h2, h3⟩ := hx.of x hm
    obtain ⟨y, y1, y2⟩ := hy.all i r h1 x h2
    obtain ⟨j, r', h4, h5, h6⟩ := hy.of y y1
    have s := cmpE_swap x.en y.en
    have e : i = j := by
      rcases Nat.lt_trichotomy i j with c | c | c
      · exact absurd (by omega) (h6 i r c h1 x h2)
      · exact c
      · exact absurd y2 (h3 j r' c h4 y h5)
    subst e
    rw [h1] at h4
    cases h4
    rw [← same_of_riseE (hu r (List.mem_of_getElem? h1)) h5 h2 y2]
    exact y1
  exact eq_of_riseE hx.rise hy.rise fun x => ⟨key hx hy x, key hy hx x⟩
theorem eachOrd_entR (rs : List Rw) : eachOrd rs = (entR rs).all inOrd := by
  unfold eachOrd entR
  rw [List.all_map]
  rfl
theorem entR_up {rs : List Rw} (h : eachOrd rs = true) : ∀ r, r ∈ entR rs → r.Pairwise ltE := fun r hr => by
  obtain ⟨x, hx, rfl⟩ := List.mem_map.1 hr
  exact rise_map (pairwise_of_ord (List.all_eq_true.1 h x hx))
/-- Both sides of All come to the same. -/
theorem all_both {w w' : World} {a a' : Option Addr} {ps rs : List Rw} {R R' : List Tow} (hp : RowsIn w a ps) (hr : RowsIn w' a' rs) (he : entR ps = entR rs) (h : AllOk ps R) (h' : RAllOk rs R') : ents R = ents R' := by
  have ho : eachOrd ps = eachOrd rs := by rw [eachOrd_entR, eachOrd_entR, he]
  rcases h with ⟨o1, xs, hx, e1⟩ | ⟨o1, rfl⟩
  · rcases h' with ⟨o2, hy, _⟩ | ⟨o2, _⟩
    · have h1 := hx.ents hp
      have h2 := hy.ents hr
      rw [he] at h1
      have := MgE.uniq (entR_up o2) h1 h2
      unfold ents
      rw [e1, this]
    · rw [ho, o2] at o1; cases o1
  · rcases h' with ⟨o2, _⟩ | ⟨_, rfl⟩
    · rw [ho, o2] at o1; cases o1
    · rfl
theorem rngE_key (fk tk : Ky) (x y : Ent) (h : x.key = y.key) : rngE fk tk x = rngE fk tk y := by unfold rngE; rw [h]
/-- Both sides of Between come to the same. -/
theorem between_both {w w' : World} {a a' : Option Addr} {ps rs : List Rw} {R R' : List Tow} {fk tk : Ky} {seq : Nat} {n m : Int} (hp : RowsIn w a ps) (hr : RowsIn w' a' rs) (he : entR ps = entR rs) (h : BetweenOk ps fk tk seq n R) (h' : RBetOk rs fk tk seq m R') (hnm : n = m ∨ (1000000 ≤ n ∧ 1000000 ≤ m)) : ents R = ents R' := by
  have ho : eachOrd ps = eachOrd rs := by rw [eachOrd_entR, eachOrd_entR, he]
  rcases h with ⟨o1, xs, hx, e1⟩ | ⟨o1, rfl⟩
  · rcases h' with ⟨o2, ys, hy, hl, _, e2⟩ | ⟨o2, _⟩
    · have h1 := hx.ents hp
      have h2 := hy.ents hr
      rw [he] at h1
      have hE := MgE.uniq (entR_up o2) h1 h2
      unfold ents
      rw [e1, e2]
      have hf : (xs.filter (rng fk tk)).map (·.e) = (xs.map (·.e)).filter (rngE fk tk) := by rw [List.filter_map]; rfl
      rw [hf, seen_rng seq _ _ (rngE_key fk tk) h1.rise, hE]
      show (((ys.map (·.e)).filter (pick18 seq (ys.map (·.e)) fk tk)).take n.toNat) = _
      rcases hnm with rfl | ⟨g1, g2⟩
      · rfl
      · have hq := List.length_filter_le (pick18 seq (ys.map (·.e)) fk tk) (ys.map (·.e))
        rw [List.length_map] at hq
        rw [List.take_of_length_le (by omega), List.take_of_length_le (by omega)]
    · rw [ho, o2] at o1; cases o1
  · rcases h' with ⟨o2, _⟩ | ⟨_, rfl⟩
    · rw [ho, o2] at o1; cases o1
    · rfl
end Go.Proofs.Ytjnpendihdlgnaa

/-
  Both sides, as the laws call them.
-/
namespace Go.Proofs.Ytjnpendihdlgnaa
open Go.RowKit
set_option maxRecDepth 100000
set_option maxHeartbeats 4000000
theorem few_rows {w : World} {a : Option Addr} {rs : List Rw} (h : RowsOf w a rs) (hf : Few rs) : RowsIn w a rs := fun k x hx => by
  obtain ⟨h1, h2⟩ := h k x hx
  have := (hf.each x (List.mem_of_getElem? hx)).1
  exact ⟨h1, ⟨h2.ents, h2.cap, by omega⟩⟩
theorem entR_mem {ps rs : List Rw} (he : entR ps = entR rs) {x : Rw} (hx : x ∈ ps) : ∃ y, y ∈ rs ∧ x.R.map (·.e) = y.R.map (·.e) := by
  have h1 : x.R.map (·.e) ∈ entR rs := by rw [← he]; exact List.mem_map.2 ⟨x, hx, rfl⟩
  obtain ⟨y, hy, e⟩ := List.mem_map.1 h1
  exact ⟨y, hy, e.symm⟩
theorem good_own {w : World} {B : Nat} {v : Value} {ps rs : List Rw} (ho : Owned w B v ps) (he : entR ps = entR rs) (hf : Few rs) : Good ps := by
  have hl : ps.length = rs.length := by have := congrArg List.length he; simpa [entR] using this
  refine ⟨by have := hf.rows; omega, by rw [entR_sum, he, ← entR_sum]; have := hf.all; omega, fun x hx => ?_, fun x hx => (ho x hx).2.2.1⟩
  obtain ⟨r, hr, hxr⟩ := List.mem_flatMap.1 hx
  obtain ⟨y, hy, e⟩ := entR_mem he hr
  have hm : x.e ∈ y.R.map (·.e) := by rw [← e]; exact List.mem_map.2 ⟨x, hxr, rfl⟩
  obtain ⟨z, hz, e2⟩ := List.mem_map.1 hm
  have := (hf.each y hy).2 z hz
  rw [← e2]
  omega
theorem small_own {w : World} {B : Nat} {v : Value} {ps rs : List Rw} (he : entR ps = entR rs) (hf : Few rs) (_ : Owned w B v ps) : ∀ x, x ∈ ps → x.R.length ≤ 1000000 := fun x hx => by
  obtain ⟨y, hy, e⟩ := entR_mem he hx
  have h1 := congrArg List.length e
  rw [List.length_map, List.length_map] at h1
  have := (hf.each y hy).1
  omega
/-- Rows of one's own, with the entries of others. -/
structure Copy (w : World) (v : Value) (ps rs : List Rw) : Prop where
  ex : ∃ a c, v = .slice a ps.length c ∧ RowsIn w a ps
  good : Good ps
  ent : entR ps = entR rs
theorem Copy.quiet {w w' : World} {v : Value} {ps rs : List Rw} (h : Copy w v ps rs) (t : Turns (fun _ => False) w w') : Copy w' v ps rs := by
  obtain ⟨a, c, e, hr⟩ := h.ex
  exact ⟨⟨a, c, e, hr.quiet t⟩, h.good, h.ent⟩
theorem copy_any (a : Option Addr) (n c : Nat) (rs : List Rw) (w : World) (h : RowsIn w a rs) (hn : n = rs.length) (hf : Few rs) :
    Calls Try.prog 14 #[.slice a n c] w fun e w' => ∃ a' n' c' ps, e = .returned (.slice a' n' c') ∧ Copy w' (.slice a' n' c') ps rs ∧ Below w.heap.size w w' := by
  refine (ownRows_any a n c rs w (fun k x hx => ⟨(h k x hx).1, (h k x hx).2.ents⟩) hn hf).mono ?_
  rintro e w' ⟨v, ps, rfl, h1, h2, h3, h4⟩
  obtain ⟨a', c', rfl, hr⟩ := Owned.rows h1 h2 (small_own h3 hf h2)
  exact ⟨a', _, c', ps, rfl, ⟨⟨a', c', rfl, hr⟩, good_own h2 h3 hf, h3⟩, h4⟩
/-- A result: entries that lie there. -/
def Got2 (w : World) (v : Value) (R : List Tow) : Prop := ∃ a c, v = .slice a R.length c ∧ Ents w a R
theorem Got2.quiet {w w' : World} {v : Value} {R : List Tow} (h : Got2 w v R) (t : Turns (fun _ => False) w w') : Got2 w' v R := by
  obtain ⟨a, c, e, h⟩ := h
  exact ⟨a, c, e, h.quiet t⟩
theorem ord_both {ps rs : List Rw} (he : entR ps = entR rs) : eachOrd ps = eachOrd rs := by rw [eachOrd_entR, eachOrd_entR, he]
theorem allC_any (a : Option Addr) (n c : Nat) (ps rs : List Rw) (w : World) (h : Copy w (.slice a n c) ps rs) :
    Calls Try.prog 10 #[.slice a n c] w fun e w' => ∃ a' n' c' R, e = .returned (.tuple #[.slice a' n' c', .int .i64 (ordE (eachOrd rs))]) ∧ Got2 w' (.slice a' n' c') R ∧ AllOk ps R ∧ Below w.heap.size w w' := by
  obtain ⟨a2, c2, e2, hr⟩ := h.ex
  cases e2
  refine (all_any a _ c ps w hr rfl h.good.fine).mono ?_
  rintro e w' ⟨v, R, rfl, hE, hS, hb, hA⟩
  obtain ⟨a', c', rfl, hen, _⟩ := ents_of hE hS
  exact ⟨a', _, c', R, by rw [ord_both h.ent], ⟨a', c', rfl, hen⟩, hA, hb⟩
theorem seenC_any (a : Option Addr) (n c : Nat) (ps rs : List Rw) (seq : Nat) (w : World) (h : Copy w (.slice a n c) ps rs) :
    Calls Try.prog 9 #[.slice a n c, .int .u64 (seq : Nat)] w fun e w' => ∃ a' n' c' R, e = .returned (.tuple #[.slice a' n' c', .int .i64 (ordE (eachOrd rs))]) ∧ Got2 w' (.slice a' n' c') R ∧ BetweenOk ps [] [] seq 9223372036854775807 R ∧ Below w.heap.size w w' := by
  obtain ⟨a2, c2, e2, hr⟩ := h.ex
  cases e2
  refine (seen9_any a _ c ps seq w hr rfl h.good).mono ?_
  rintro e w' ⟨v, R, rfl, hE, hS, hb, hA⟩
  obtain ⟨a', c', rfl, hen, _⟩ := ents_of hE hS
  exact ⟨a', _, c', R, by rw [ord_both h.ent], ⟨a', c', rfl, hen⟩, hA, hb⟩
theorem betC_any (a : Option Addr) (n c : Nat) (ps rs : List Rw) (fa ta : Option Addr) (fn fc tn tc : Nat) (fk tk : Ky) (seq : Nat) (m : Int) (w : World) (h : Copy w (.slice a n c) ps rs) (hf : Bytes w (.slice fa fn fc) fk) (ht : Bytes w (.slice ta tn tc) tk) :
    Calls Try.prog 17 #[.slice a n c, .slice fa fn fc, .slice ta tn tc, .int .u64 (seq : Nat), .int .i64 m] w fun e w' => ∃ a' n' c' R, e = .returned (.tuple #[.slice a' n' c', .int .i64 (ordE (eachOrd rs))]) ∧ Got2 w' (.slice a' n' c') R ∧ BetweenOk ps fk tk seq m R ∧ Below w.heap.size w w' := by
  obtain ⟨a2, c2, e2, hr⟩ := h.ex
  cases e2
  refine (between17_any a _ c ps fa ta fn fc tn tc fk tk seq m w hr rfl h.good hf ht).mono ?_
  rintro e w' ⟨v, R, rfl, hE, hS, hb, hA⟩
  obtain ⟨a', c', rfl, hen, _⟩ := ents_of hE hS
  exact ⟨a', _, c', R, by rw [ord_both h.ent], ⟨a', c', rfl, hen⟩, hA, hb⟩
/-- What the document's functions answer lies in the rows' memory. -/
def InRs (rs : List Rw) (R : List Tow) : Prop := ∀ x, x ∈ R → x ∈ allOf rs
theorem got_of {w : World} {a : Option Addr} {B : Nat} {rs : List Rw} {v : Value} {R : List Tow} (hr : RowsIn w a rs) (hE : ERow w B v R) (hi : InRs rs R) : ∃ a' c', v = .slice a' R.length c' ∧ Got2 w v R := by
  obtain ⟨a', c', e, hen, _⟩ := ents_row hE fun x hx => all_bytes hr (hi x hx)
  exact ⟨a', c', e, a', c', e, hen⟩
theorem rall_in {rs : List Rw} {R : List Tow} (h : RAllOk rs R) : InRs rs R := fun x hx => by
  rcases h with ⟨_, hm, _⟩ | ⟨_, rfl⟩
  · exact mg_from hm hx
  · cases hx
theorem rbet_in {rs : List Rw} {fk tk : Ky} {seq : Nat} {m : Int} {R : List Tow} (h : RBetOk rs fk tk seq m R) : InRs rs R := fun x hx => by
  rcases h with ⟨_, xs, hm, _, hi, _⟩ | ⟨_, rfl⟩
  · exact mg_from hm (hi x hx)
  · cases hx
theorem allR_any (a : Option Addr) (n c : Nat) (rs : List Rw) (w : World) (h : RowsIn w a rs) (hn : n = rs.length) (hf : Few rs) :
    Calls Try.prog 15 #[.slice a n c] w fun e w' => ∃ a' n' c' R, e = .returned (.tuple #[.slice a' n' c', .int .i64 (ordE (eachOrd rs))]) ∧ Got2 w' (.slice a' n' c') R ∧ RAllOk rs R ∧ Below w.heap.size w w' := by
  refine (refAll_any a n c rs w h hn hf).mono ?_
  rintro e w' ⟨v, R, rfl, hE, hb, hA⟩
  obtain ⟨a', c', rfl, hg⟩ := got_of (h.quiet (Turns.of_below hb _)) hE (rall_in hA)
  exact ⟨a', _, c', R, rfl, hg, hA, hb⟩
theorem seenR_any (a : Option Addr) (n c : Nat) (rs : List Rw) (seq : Nat) (w : World) (h : RowsIn w a rs) (hn : n = rs.length) (hf : Few rs) :
    Calls Try.prog 16 #[.slice a n c, .int .u64 (seq : Nat)] w fun e w' => ∃ a' n' c' R, e = .returned (.tuple #[.slice a' n' c', .int .i64 (ordE (eachOrd rs))]) ∧ Got2 w' (.slice a' n' c') R ∧ RBetOk rs [] [] seq 4611686018427387904 R ∧ Below w.heap.size w w' := by
  refine (rSeen_any a n c rs seq w h hn hf).mono ?_
  rintro e w' ⟨v, R, rfl, hE, hb, hA⟩
  obtain ⟨a', c', rfl, hg⟩ := got_of (h.quiet (Turns.of_below hb _)) hE (rbet_in hA)
  exact ⟨a', _, c', R, rfl, hg, hA, hb⟩
theorem betR_any (a : Option Addr) (n c : Nat) (rs : List Rw) (fa ta : Option Addr) (fn fc tn tc : Nat) (fk tk : Ky) (seq : Nat) (m : Int) (w : World) (h : RowsIn w a rs) (hn : n = rs.length) (hf : Few rs) (hfk : Bytes w (.slice fa fn fc) fk) (htk : Bytes w (.slice ta tn tc) tk) (hfn : fn ≤ 15000) (htn : tn ≤ 15000) :
    Calls Try.prog 18 #[.slice a n c, .slice fa fn fc, .slice ta tn tc, .int .u64 (seq : Nat), .int .i64 m] w fun e w' => ∃ a' n' c' R, e = .returned (.tuple #[.slice a' n' c', .int .i64 (ordE (eachOrd rs))]) ∧ Got2 w' (.slice a' n' c') R ∧ RBetOk rs fk tk seq m R ∧ Below w.heap.size w w' := by
  refine (rBetween_any a n c rs fa ta fn fc tn tc fk tk seq m w h hn hf hfk htk hfn htn).mono ?_
  rintro e w' ⟨v, R, rfl, hE, hb, hA⟩
  obtain ⟨a', c', rfl, hg⟩ := got_of (h.quiet (Turns.of_below hb _)) hE (rbet_in hA)
  exact ⟨a', _, c', R, rfl, hg, hA, hb⟩
/-- The same entries are found the same. -/
theorem sameC_any (a a' : Option Addr) (n n' c c' : Nat) (R R' : List Tow) (rs : List Rw) (w : World) (h : Got2 w (.slice a n c) R) (h' : Got2 w (.slice a' n' c') R') (he : ents R = ents R') (hi : InRs rs R') (hf : Few rs) (hl : R'.length ≤ 150) :
    Calls Try.prog 19 #[.slice a n c, .slice a' n' c'] w fun e w' => e = .returned (.bool true) ∧ Below w.heap.size w w' := by
  obtain ⟨_, _, e1, g1⟩ := h
  obtain ⟨_, _, e2, g2⟩ := h'
  cases e1
  cases e2
  have hll : R.length = R'.length := by have := congrArg List.length he; simpa [ents] using this
  refine (entriesEq_any a a' _ _ c c' R R' w g1 g2 rfl rfl (by omega) (fun x hx => ?_)).mono ?_
  · have hm : x.e ∈ ents R' := by rw [← he]; exact List.mem_map.2 ⟨x, hx, rfl⟩
    obtain ⟨z, hz, e⟩ := List.mem_map.1 hm
    obtain ⟨r, hr, hzr⟩ := List.mem_flatMap.1 (hi z hz)
    have := (hf.each r hr).2 z hzr
    rw [← e]
    omega
  · rintro e w' ⟨⟨d, rfl, hd⟩, hb⟩
    rw [hd.2 he]
    exact ⟨rfl, hb⟩
theorem rall_len {rs : List Rw} {R : List Tow} (h : RAllOk rs R) (hf : Few rs) : R.length ≤ 150 := by
  rcases h with ⟨_, _, hl⟩ | ⟨_, rfl⟩
  · have := hf.all; omega
  · simp
theorem rbet_len {rs : List Rw} {fk tk : Ky} {seq : Nat} {m : Int} {R : List Tow} (h : RBetOk rs fk tk seq m R) : R.length ≤ 150 := by
  rcases h with ⟨_, xs, _, hl, _, he⟩ | ⟨_, rfl⟩
  · have h1 := congrArg List.length he
    have h2 := List.length_filter_le (pick18 seq (xs.map (·.e)) fk tk) (xs.map (·.e))
    rw [List.length_map, List.length_take] at h1
    rw [List.length_map] at h2
    omega
  · simp
end Go.Proofs.Ytjnpendihdlgnaa

/-
  MergeCalls: the whole of the law.
-/
namespace Go.Proofs.Ytjnpendihdlgnaa
open Go.RowKit
set_option maxRecDepth 100000
set_option maxHeartbeats 8000000
/-- All that is carried along while the law calls. -/
structure Carry (w : World) (a : Option Addr) (rs : List Rw) (fa ta : Option Addr) (fn fc tn tc : Nat) (fk tk : Ky) : Prop where
  rows : RowsIn w a rs
  fb : Bytes w (.slice fa fn fc) fk
  tb : Bytes w (.slice ta tn tc) tk
theorem Carry.quiet {w w' : World} {a : Option Addr} {rs : List Rw} {fa ta : Option Addr} {fn fc tn tc : Nat} {fk tk : Ky} (h : Carry w a rs fa ta fn fc tn tc fk tk) (t : Turns (fun _ => False) w w') : Carry w' a rs fa ta fn fc tn tc fk tk := ⟨h.rows.quiet t, h.fb.quiet t, h.tb.quiet t⟩
theorem neq29 (q : Int) (w : World) : (binOp .neq 29 (.int .i64 q) (.int .i64 q)).run Try.prog w = .ok (.bool false) w := by
  have : (binOp .neq 29 (.int .i64 q) (.int .i64 q)).run Try.prog w = .ok (.bool (!(q == q))) w := by kernel_rfl
  rw [this]
  simp
theorem calls_any (a : Option Addr) (n c : Nat) (rs : List Rw) (fa ta : Option Addr) (fn fc tn tc : Nat) (fk tk : Ky) (seq : Nat) (N : Int) (w : World) (h : RowsOf w a rs) (hn : n = rs.length) (hmx : n ≤ reachBytes) (hf : Bytes w (.slice fa fn fc) fk) (ht : Bytes w (.slice ta tn tc) tk) (hfn : fn ≤ reachBytes) (htn : tn ≤ reachBytes) :
    Calls Try.prog 4 #[.slice a n c, .slice fa fn fc, .slice ta tn tc, .int .u64 (seq : Nat), .int .i64 N] w fun e w' => e = .returned (.bool true) ∧ Below w.heap.size w w' := by
  have H0 := hide h
  have HN := hide hn
  have HMX := hide hmx
  have HFB := hide hf
  have HTB := hide ht
  unfold reachBytes at hfn htn
  have hfi : (fn : Int) ≤ 140737488355328 := by omega
  have hti : (tn : Int) ≤ 140737488355328 := by omega
  clear h hn hmx hf ht
  go_enter Try.func4, Try.ntmps4
  go_wp2_with fail
  refine (lives_any w).mono ?_
  rintro e w1 ⟨rfl, b1⟩
  have T1 := hide (Turns.of_below b1 (fun _ => False))
  have SM := hide (small_any a n c rs w1 (fun k x hx => ⟨by obtain ⟨b, off, e, hc⟩ := (H0.out k x hx).1; exact ⟨b, off, e, T1.out.cell hc (fun x => x)⟩, ⟨(H0.out k x hx).2.ents.quiet T1.out, (H0.out k x hx).2.cap, (H0.out k x hx).2.reach, (H0.out k x hx).2.fit, (H0.out k x hx).2.nil⟩⟩) HN.out HMX.out)
  clear b1
  go_wp2_with fail
  refine SM.out.mono ?_
  rintro e w2 ⟨⟨d, rfl, hd⟩, t2⟩
  have T2 := hide (T1.out.trans t2)
  clear t2 SM T1
  cases d with
  | false =>
    clear hd
    go_wp2_with fail
    go_ret
    exact ⟨rfl, T2.out.below (Nat.le_refl _) (fun _ x => x.elim)⟩
  | true =>
    by_cases hbig : (15000 : Int) < (fn : Int) + (tn : Int)
    · clear hd
      go_wp2_with fail
      go_ret
      exact ⟨rfl, T2.out.below (Nat.le_refl _) (fun _ x => x.elim)⟩
    · have FEW := hide (show Few rs from ⟨(hd rfl).1, (hd rfl).2.1, (hd rfl).2.2⟩)
      have CA := hide (show Carry w2 a rs fa ta fn fc tn tc fk tk from (⟨few_rows H0.out FEW.out, HFB.out, HTB.out⟩ : Carry w a rs fa ta fn fc tn tc fk tk).quiet T2.out)
      have hf2 : fn ≤ 15000 := by omega
      have ht2 : tn ≤ 15000 := by omega
      have hni : (n : Int) ≤ 20 := by have := FEW.out.rows; have := HN.out; omega
      have QN := hide neq29
      clear hd hfn htn hfi hti
      generalize hoq : ordE (eachOrd rs) = oq at *
      have HOQ := hide hoq
      clear hoq
      go_wp2_with fail
      refine (copy_any a n c rs w2 CA.out.rows HN.out FEW.out).mono ?_
      rintro e w3 ⟨a3, n3, c3, p3, rfl, hc3, b3⟩
      have t3 := Turns.of_below b3 (fun _ => False)
      have CA3 := hide (CA.out.quiet t3)
      have CO3 := hide hc3
      have T3 := hide (T2.out.trans t3)
      clear b3 t3 hc3 CA T2
      go_wp2_with fail
      refine (allC_any a3 n3 c3 p3 rs w3 CO3.out).mono ?_
      rintro e w4 ⟨a4, n4, c4, R4, rfl, hg4, ho4, b4⟩
      rw [HOQ.out]
      have t4 := Turns.of_below b4 (fun _ => False)
      have CA4 := hide (CA3.out.quiet t4)
      have G4 := hide hg4
      have O4 := hide ho4
      have T4 := hide (T3.out.trans t4)
      clear b4 t4 hg4 ho4 T3
      go_wp2_with fail
      refine (allR_any a n c rs w4 CA4.out.rows HN.out FEW.out).mono ?_
      rintro e w5 ⟨a5, n5, c5, R5, rfl, hg5, ho5, b5⟩
      rw [HOQ.out]
      have t5 := Turns.of_below b5 (fun _ => False)
      have CA5 := hide (CA4.out.quiet t5)
      have G4b := hide (G4.out.quiet t5)
      have G5 := hide hg5
      obtain ⟨p3a, p3c, p3e, p3r⟩ := CO3.out.ex
      have E5 := hide (all_both p3r CA4.out.rows CO3.out.ent O4.out ho5)
      have I5 := hide (rall_in ho5)
      have L5 := hide (rall_len ho5 FEW.out)
      have T5 := hide (T4.out.trans t5)
      clear b5 t5 hg5 ho5 T4 G4 O4 CO3 p3r p3e CA4 CA3
      go_wp2_with fail
      refine (copy_any a n c rs w5 CA5.out.rows HN.out FEW.out).mono ?_
      rintro e w6 ⟨a6, n6, c6, p6, rfl, hc6, b6⟩
      have t6 := Turns.of_below b6 (fun _ => False)
      have CA6 := hide (CA5.out.quiet t6)
      have CO6 := hide hc6
      have G4c := hide (G4b.out.quiet t6)
      have G5c := hide (G5.out.quiet t6)
      have T6 := hide (T5.out.trans t6)
      clear b6 t6 hc6 CA5 T5 G4b G5
      go_wp2_with fail
      refine (seenC_any a6 n6 c6 p6 rs seq w6 CO6.out).mono ?_
      rintro e w7 ⟨a7, n7, c7, R7, rfl, hg7, ho7, b7⟩
      rw [HOQ.out]
      have t7 := Turns.of_below b7 (fun _ => False)
      have CA7 := hide (CA6.out.quiet t7)
      have G4d := hide (G4c.out.quiet t7)
      have G5d := hide (G5c.out.quiet t7)
      have G7 := hide hg7
      have O7 := hide ho7
      have T7 := hide (T6.out.trans t7)
      clear b7 t7 hg7 ho7 T6 G4c G5c
      go_wp2_with fail
      refine (seenR_any a n c rs seq w7 CA7.out.rows HN.out FEW.out).mono ?_
      rintro e w8 ⟨a8, n8, c8, R8, rfl, hg8, ho8, b8⟩
      rw [HOQ.out]
      have t8 := Turns.of_below b8 (fun _ => False)
      have CA8 := hide (CA7.out.quiet t8)
      have G4e := hide (G4d.out.quiet t8)
      have G5e := hide (G5d.out.quiet t8)
      have G7e := hide (G7.out.quiet t8)
      have G8 := hide hg8
      obtain ⟨p6a, p6c, p6e, p6r⟩ := CO6.out.ex
      have E8 := hide (between_both p6r CA7.out.rows CO6.out.ent O7.out ho8 (.inr ⟨by omega, by omega⟩))
      have I8 := hide (rbet_in ho8)
      have L8 := hide (rbet_len ho8)
      have T8 := hide (T7.out.trans t8)
      clear b8 t8 hg8 ho8 T7 G4d G5d G7 O7 CO6 p6r p6e CA7 CA6
      go_wp2_with fail
      refine (copy_any a n c rs w8 CA8.out.rows HN.out FEW.out).mono ?_
      rintro e w9 ⟨a9, n9, c9, p9, rfl, hc9, b9⟩
      have t9 := Turns.of_below b9 (fun _ => False)
      have CA9 := hide (CA8.out.quiet t9)
      have CO9 := hide hc9
      have G4f := hide (G4e.out.quiet t9)
      have G5f := hide (G5e.out.quiet t9)
      have G7f := hide (G7e.out.quiet t9)
      have G8f := hide (G8.out.quiet t9)
      have T9 := hide (T8.out.trans t9)
      clear b9 t9 hc9 CA8 T8 G4e G5e G7e G8
      go_wp2_with fail
      refine (betC_any a9 n9 c9 p9 rs fa ta fn fc tn tc fk tk seq N w9 CO9.out CA9.out.fb CA9.out.tb).mono ?_
      rintro e wa ⟨aa, na, ca, Ra, rfl, hga, hoa, ba⟩
      rw [HOQ.out]
      have ta' := Turns.of_below ba (fun _ => False)
      have CAa := hide (CA9.out.quiet ta')
      have G4g := hide (G4f.out.quiet ta')
      have G5g := hide (G5f.out.quiet ta')
      have G7g := hide (G7f.out.quiet ta')
      have G8g := hide (G8f.out.quiet ta')
      have Ga := hide hga
      have Oa := hide hoa
      have Ta := hide (T9.out.trans ta')
      clear ba ta' hga hoa T9 G4f G5f G7f G8f
      go_wp2_with fail
      refine (betR_any a n c rs fa ta fn fc tn tc fk tk seq N wa CAa.out.rows HN.out FEW.out CAa.out.fb CAa.out.tb hf2 ht2).mono ?_
      rintro e wb ⟨ab, nb, cb, Rb, rfl, hgb, hob, bb⟩
      rw [HOQ.out]
      have tb' := Turns.of_below bb (fun _ => False)
      have CAb := hide (CAa.out.quiet tb')
      have G4h := hide (G4g.out.quiet tb')
      have G5h := hide (G5g.out.quiet tb')
      have G7h := hide (G7g.out.quiet tb')
      have G8h := hide (G8g.out.quiet tb')
      have Gah := hide (Ga.out.quiet tb')
      have Gb := hide hgb
      obtain ⟨p9a, p9c, p9e, p9r⟩ := CO9.out.ex
      have Eb := hide (between_both p9r CAa.out.rows CO9.out.ent Oa.out hob (.inl rfl))
      have Ib := hide (rbet_in hob)
      have Lb := hide (rbet_len hob)
      have Tb := hide (Ta.out.trans tb')
      clear bb tb' hgb hob Ta G4g G5g G7g G8g Ga Oa CO9 p9r p9e CAa CA9
      have qn := QN.out oq
      go_wp2_with fail
      refine (sameC_any a4 a5 n4 n5 c4 c5 R4 R5 rs wb G4h.out G5h.out E5.out I5.out FEW.out L5.out).mono ?_
      rintro e wc ⟨rfl, bc⟩
      have tc' := Turns.of_below bc (fun _ => False)
      have CAc := hide (CAb.out.quiet tc')
      have G7i := hide (G7h.out.quiet tc')
      have G8i := hide (G8h.out.quiet tc')
      have Gai := hide (Gah.out.quiet tc')
      have Gbi := hide (Gb.out.quiet tc')
      have Tc := hide (Tb.out.trans tc')
      clear bc tc' CAb Tb G4h G5h G7h G8h Gah Gb E5 I5 L5
      go_wp2_with fail
      refine (sameC_any a7 a8 n7 n8 c7 c8 R7 R8 rs wc G7i.out G8i.out E8.out I8.out FEW.out L8.out).mono ?_
      rintro e wd ⟨rfl, bd⟩
      have td' := Turns.of_below bd (fun _ => False)
      have CAd := hide (CAc.out.quiet td')
      have Gaj := hide (Gai.out.quiet td')
      have Gbj := hide (Gbi.out.quiet td')
      have Td := hide (Tc.out.trans td')
      clear bd td' CAc Tc G7i G8i Gai Gbi E8 I8 L8
      go_wp2_with fail
      refine (sameC_any aa ab na nb ca cb Ra Rb rs wd Gaj.out Gbj.out Eb.out Ib.out FEW.out Lb.out).mono ?_
      rintro e we ⟨rfl, be⟩
      have te' := Turns.of_below be (fun _ => False)
      have CAe := hide (CAd.out.quiet te')
      have Te := hide (Td.out.trans te')
      clear be te' CAd Td Gaj Gbj Eb Ib Lb
      go_wp2_with fail
      go_loopw [23] (fun v wr => ∃ i : Nat, v = .int .i64 (i : Nat) ∧ i ≤ n ∧ Turns (fun _ => False) we wr) (fun v _ => n - (intOf v).toNat)
      case atStart => exact ⟨0, rfl, Nat.zero_le _, Turns.refl _ _⟩
      case round =>
        obtain ⟨i, rfl, hi, htr⟩ := hrel
        have TR := hide htr
        clear htr
        by_cases hin : i < n
        · obtain ⟨x, hx⟩ : ∃ x, rs[i]? = some x := ⟨_, List.getElem?_eq_getElem (by have := HN.out; omega)⟩
          obtain ⟨⟨b, off, rfl, hc⟩, hok⟩ := (CAe.out.rows.quiet TR.out) i x hx
          have i1 : (i : Int) < n := by omega
          have i0 : (0 : Int) ≤ i := by omega
          have hfe := FEW.out.each x (List.mem_of_getElem? hx)
          have CK := hide (fun (u : World) (t : Turns (fun _ => False) wr u) => check_any x.a x.R.length x.c x.R u (hok.ents.quiet t) rfl (by omega))
          have RK := hide (fun (u : World) (t : Turns (fun _ => False) wr u) => rCheck_any x.a x.R.length x.c x.R u (hok.ents.quiet t) rfl (by omega) (fun y hy => by have := hfe.2 y hy; omega))
          have SK := hide (fun (u : World) (t : Turns (fun _ => False) wr u) => show u.cell? ⟨b, off + i, none⟩ = some (.slice x.a x.R.length x.c) from t.cell hc (fun x => x))
          clear hc hok hfe hx
          obtain ⟨xa, xc, xR⟩ := x
          simp only at *
          generalize ordE (inOrd (ents xR)) = q at *
          have qq := QN.out q
          generalize xR.length = xl at *
          go_upto_region 16 with (fail)
          have tV : Turns (fun _ => False) wr wr.drew := (Turns.refl _ _).drew
          refine wp_region_held_drew (S := fun u => u.cell? ⟨b, off + i, none⟩ = some (.slice xa xl xc)) (by kernel_rfl) (SK.out _ tV) (fun _ => ?_)
          change wpAnyH _ _ _ _ _ 11 (Array.replicate 11 false) _ _
          refine wpAnyH_take (i := 0) (oi := { dst := some 117, op := Op.move (Operand.tmp 0), type := 28, pos := "law.go:78", after := #[], guard := none }) (v := .slice (some ⟨b, off, none⟩) n c) rfl (by kernel_rfl) (by kernel_rfl) (by kernel_rfl) (fun _ _ _ h => h) (Or.inl ⟨by rfl, ?_⟩) (SK.out _ tV) ?_
          · rintro w d0
            go_simp
          simp only [Act.put, List.setIfInBounds_toArray, List.set_cons_zero, List.set_cons_succ]
          refine wpAnyH_take (i := 1) (oi := { dst := some 118, op := Op.move (Operand.tmp 23), type := 3, pos := "law.go:78", after := #[], guard := none }) (v := .int .i64 (i : Nat)) rfl (by kernel_rfl) (by kernel_rfl) (by kernel_rfl) (fun _ _ _ h => h) (Or.inl ⟨by rfl, ?_⟩) (SK.out _ tV) ?_
          · rintro w d0
            go_simp
          simp only [Act.put, List.setIfInBounds_toArray, List.set_cons_zero, List.set_cons_succ]
          refine wpAnyH_take (i := 2) (oi := { dst := some 119, op := Op.indexAddr 28 (Operand.tmp 117) (Operand.tmp 118), type := 0, pos := "law.go:78", after := #[{ on := 0, ground := Ground.data }, { on := 1, ground := Ground.data }], guard := none }) (v := .pointer (some ⟨b, off + i, none⟩)) rfl (by kernel_rfl) (by kernel_rfl) (by kernel_rfl) (fun _ _ _ h => h) (Or.inl ⟨by rfl, ?_⟩) (SK.out _ tV) ?_
          · rintro w d0
            go_simp
          simp only [Act.put, List.setIfInBounds_toArray, List.set_cons_zero, List.set_cons_succ]
          refine wpAnyH_take (i := 3) (oi := { dst := some 120, op := Op.load 27 (Operand.tmp 119), type := 27, pos := "law.go:78", after := #[{ on := 2, ground := Ground.data }], guard := none }) (v := .slice xa xl xc) rfl (by kernel_rfl) (by kernel_rfl) (by kernel_rfl) (fun _ _ _ h => h) (Or.inl ⟨by rfl, ?_⟩) (SK.out _ tV) ?_
          · rintro w d0
            go_simp
          simp only [Act.put, List.setIfInBounds_toArray, List.set_cons_zero, List.set_cons_succ]
          refine wpAnyH_take (i := 5) (oi := { dst := some 122, op := Op.move (Operand.tmp 0), type := 28, pos := "law.go:78", after := #[], guard := none }) (v := .slice (some ⟨b, off, none⟩) n c) rfl (by kernel_rfl) (by kernel_rfl) (by kernel_rfl) (fun _ _ _ h => h) (Or.inl ⟨by rfl, ?_⟩) (SK.out _ tV) ?_
          · rintro w d0
            go_simp
          simp only [Act.put, List.setIfInBounds_toArray, List.set_cons_zero, List.set_cons_succ]
          refine wpAnyH_take (i := 6) (oi := { dst := some 123, op := Op.move (Operand.tmp 23), type := 3, pos := "law.go:78", after := #[], guard := none }) (v := .int .i64 (i : Nat)) rfl (by kernel_rfl) (by kernel_rfl) (by kernel_rfl) (fun _ _ _ h => h) (Or.inl ⟨by rfl, ?_⟩) (SK.out _ tV) ?_
          · rintro w d0
            go_simp
          simp only [Act.put, List.setIfInBounds_toArray, List.set_cons_zero, List.set_cons_succ]
          refine wpAnyH_take (i := 7) (oi := { dst := some 124, op := Op.indexAddr 28 (Operand.tmp 122) (Operand.tmp 123), type := 0, pos := "law.go:78", after := #[{ on := 5, ground := Ground.data }, { on := 6, ground := Ground.data }], guard := none }) (v := .pointer (some ⟨b, off + i, none⟩)) rfl (by kernel_rfl) (by kernel_rfl) (by kernel_rfl) (fun _ _ _ h => h) (Or.inl ⟨by rfl, ?_⟩) (SK.out _ tV) ?_
          · rintro w d0
            go_simp
          simp only [Act.put, List.setIfInBounds_toArray, List.set_cons_zero, List.set_cons_succ]
          refine wpAnyH_take (i := 8) (oi := { dst := some 125, op := Op.load 27 (Operand.tmp 124), type := 27, pos := "law.go:78", after := #[{ on := 7, ground := Ground.data }], guard := none }) (v := .slice xa xl xc) rfl (by kernel_rfl) (by kernel_rfl) (by kernel_rfl) (fun _ _ _ h => h) (Or.inl ⟨by rfl, ?_⟩) (SK.out _ tV) ?_
          · rintro w d0
            go_simp
          simp only [Act.put, List.setIfInBounds_toArray, List.set_cons_zero, List.set_cons_succ]
          refine wpAnyH_ready (rs := [4]) (by kernel_rfl) (by simp) ?_
          refine AllReadyH.cons rfl (fun K hK => ?_) AllReadyH.nil
          go_simp
          refine (CK.out _ tV).mono ?_
          rintro oo Vn ⟨rfl, b2⟩
          have tN := Turns.of_below b2 (fun _ => False)
          have tV := tV.trans tN
          clear b2 CK
          clear tN
          go_simp
          refine hK.out _ _ (SK.out _ tV) (fun _ => ?_)
          clear hK K
          refine wpAnyH_ready (rs := [9]) (by kernel_rfl) (by simp) ?_
          refine AllReadyH.cons rfl (fun K hK => ?_) AllReadyH.nil
          go_simp
          refine (RK.out _ tV).mono ?_
          rintro oo Vn ⟨rfl, b2⟩
          have tN := Turns.of_below b2 (fun _ => False)
          have tV := tV.trans tN
          clear b2 RK
          clear tN
          go_simp
          refine hK.out _ _ (SK.out _ tV) (fun _ => ?_)
          clear hK K
          refine wpAnyH_take (i := 10) (oi := { dst := some 127, op := Op.binOp BinOp.neq 29 (Operand.tmp 121) (Operand.tmp 126) 29, type := 4, pos := "law.go:78", after := #[{ on := 4, ground := Ground.data }, { on := 9, ground := Ground.data }], guard := none }) (v := .bool false) rfl (by kernel_rfl) (by kernel_rfl) (by kernel_rfl) (fun _ _ _ h => h) (Or.inl ⟨by rfl, ?_⟩) (SK.out _ tV) ?_
          · rintro w d0
            go_simp
          simp only [Act.put, List.setIfInBounds_toArray, List.set_cons_zero, List.set_cons_succ]
          refine wpAnyH_done (by kernel_rfl) ?_ _
          have TV := hide tV
          clear tV
          go_wp2_with fail
          go_roundw
          case rel => exact ⟨i + 1, by go_num, by omega, TR.out.trans TV.out⟩
          case measure => simp [intOf]; omega
        · have i1 : ¬ (i : Int) < n := by omega
          go_wp2_with fail
          go_ret
          exact ⟨rfl, (Te.out.trans TR.out).below (Nat.le_refl _) (fun _ x => x.elim)⟩
end Go.Proofs.Ytjnpendihdlgnaa
