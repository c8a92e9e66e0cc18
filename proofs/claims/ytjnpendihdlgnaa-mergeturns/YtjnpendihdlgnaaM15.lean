import Derived.Test.YtjnpendihdlgnaaM14
import Derived.Test.YtjnpendihdlgnaaM02
/-
  own: rows in memory of their own.
-/
namespace Go.Proofs.Ytjnpendihdlgnaa
open Go.RowKit
set_option maxRecDepth 100000
set_option maxHeartbeats 4000000
def rwCells (ps : List Rw) : List Value := ps.map Rw.v
/-- A row of rows, of one's own. -/
def RRow (w : World) (B : Nat) (v : Value) (ps : List Rw) : Prop :=
  (ps = [] ∧ v = .slice none 0 0) ∨ ∃ g c n : Nat, v = .slice (some ⟨g, 0, none⟩) n c ∧ n = ps.length ∧ n ≤ c ∧ B ≤ g ∧ RowC w g 27 c (rwCells ps)
theorem RRow.row {w : World} {B : Nat} {v : Value} {R : List Rw} (h : RRow w B v R) {k : Nat} (hk : inRow v k) : B ≤ k ∧ k < w.heap.size := by
  obtain ⟨n', c', e⟩ := hk
  rcases h with ⟨_, rfl⟩ | ⟨g, c, n, rfl, _, _, hB, cs, h1, _⟩
  · cases e
  · cases e; exact ⟨hB, lt_of_heap h1⟩
theorem RRow.keep {S : Nat → Prop} {w w' : World} {B : Nat} {v : Value} {R : List Rw} (h : RRow w B v R) (t : Turns S w w') (hn : ∀ k, inRow v k → ¬ S k) : RRow w' B v R := by
  rcases h with h | ⟨g, c, n, h1, h2, h3, h4, cs, h5, h6, h7⟩
  · exact .inl h
  · exact .inr ⟨g, c, n, h1, h2, h3, h4, cs, t.heap h5 (hn g ⟨n, c, h1⟩), h6, h7⟩
theorem RRow.len {w : World} {B : Nat} {v : Value} {R : List Rw} (h : RRow w B v R) : ∃ a c, v = .slice a R.length c := by
  rcases h with ⟨rfl, rfl⟩ | ⟨g, c, n, rfl, rfl, _⟩
  · exact ⟨none, 0, rfl⟩
  · exact ⟨_, _, rfl⟩
theorem append_rw (w : World) (B : Nat) (v : Value) (R : List Rw) (h : RRow w B v R) (hB : B ≤ w.heap.size) (hlen : R.length ≤ 1000000000) (x : Rw) (g c : Nat) (hg : w.heap[g]? = some (.cells #[x.v] 27 (0, 0))) :
    ∃ (g' n' c' : Nat) (w' : World), (∀ ty, (Builtin.append_ #[28, 28] ty #[v, .slice (some ⟨g, 0, none⟩) 1 c]).run Try.prog w = .ok (.slice (some ⟨g', 0, none⟩) n' c') w') ∧ RRow w' B (.slice (some ⟨g', 0, none⟩) n' c') (R ++ [x]) ∧ Turns (inRow v) w w' ∧ Below B w w' ∧ (inRow v g' ∨ g' = w.heap.size) := by
  have hcell : ∀ j, w.cell? ⟨g, j, none⟩ = (#[x.v] : Array Value)[j]? := fun j => cell_of_row w g j _ 27 (0, 0) hg
  have hsrc : Src Try.prog Try.t27.size 28 (.slice (some ⟨g, 0, none⟩) 1 c) 1 [x.v] w := Src.ofSlice w Try.underlying28 ⟨g, 0, none⟩ 1 c _ (by rw [t27_size]; rfl) (fun j u hu => by
    rw [Go.WideShapes.add_plain, Nat.zero_add, hcell j]
    simpa using hu) (fun u hu => by
    simp only [List.mem_cons, List.not_mem_nil, or_false] at hu
    subst hu
    rfl)
  obtain ⟨base, sLen, sCap, rfl, hsl, hbase⟩ : ∃ (base : Option Addr) (sLen sCap : Nat), v = .slice base sLen sCap ∧ sLen = R.length ∧ ((base = none ∧ sLen = 0 ∧ sCap = 0 ∧ 0 < 1) ∨ ∃ g, base = some ⟨g, 0, none⟩ ∧ B ≤ g ∧ sLen ≤ sCap ∧ RowC w g 27 (sCap * Try.t27.size) (rwCells R)) := by
    rcases h with ⟨rfl, rfl⟩ | ⟨g, c, n, rfl, rfl, h3, h4, h5⟩
    · exact ⟨none, 0, 0, rfl, rfl, .inl ⟨rfl, rfl, rfl, by omega⟩⟩
    · exact ⟨_, _, _, rfl, rfl, .inr ⟨g, rfl, h4, h3, by rw [t27_size, Nat.mul_one]; exact h5⟩⟩
  obtain ⟨g', cp, w', hr, hg', hrow, hb, hcp, hin, hnew, hkeep⟩ := append_gen2 (P := Try.prog) w B 28 27 Try.t27 _ Try.underlying28 t27_info t27_zero rfl base sLen sCap (rwCells R) (by rw [t27_size, hsl, Nat.mul_one]; simp [rwCells]) _ 1 _ hsrc hB hbase (by rw [t27_bytes]; omega) (by omega)
  refine ⟨g', _, cp, w', hr, .inr ⟨g', cp, _, rfl, by simp [hsl], hcp, hg', ?_⟩, ⟨hb.os, hb.tape, hb.output, hb.size, fun k hk hn => hkeep k hk fun e => hn ⟨sLen, sCap, by rw [e]⟩⟩, hb, ?_⟩
  · rw [t27_size, Nat.mul_one] at hrow
    have e : rwCells (R ++ [x]) = rwCells R ++ [x.v] := by simp [rwCells]
    rw [e]
    exact hrow
  · rcases Nat.lt_or_ge sCap (sLen + 1) with h1 | h1
    · exact .inr (hnew h1)
    · exact .inl ⟨sLen, sCap, by rw [(hin h1).1]⟩
/-- Entries of one's own lie there. -/
theorem ents_of {w : World} {B : Nat} {v : Value} {R : List Tow} (h : ERow w B v R) (hs : Shown w B R) : ∃ a c, v = .slice a R.length c ∧ Ents w a R ∧ R.length ≤ c ∧ (a = none → c = 0) := by
  by_cases hne : R = []
  · subst hne
    rcases h with ⟨_, rfl⟩ | ⟨g, c, n, rfl, rfl, h3, _⟩
    · exact ⟨none, 0, rfl, fun k x hx => by simp at hx, by simp, fun _ => rfl⟩
    · exact ⟨_, _, rfl, fun k x hx => by simp at hx, h3, fun e => by cases e⟩
  · obtain ⟨g, c, rfl, hc⟩ := h.at hne
    have hcap : R.length ≤ c := by
      rcases h with ⟨e, _⟩ | ⟨g', c', n', e, rfl, h3, _⟩
      · exact absurd e hne
      · cases e; exact h3
    refine ⟨_, c, rfl, fun k x hx => ⟨⟨g, 0, rfl, fun j u hu => ?_⟩, (hs x (List.mem_of_getElem? hx)).1, (hs x (List.mem_of_getElem? hx)).2.1⟩, hcap, fun e => by cases e⟩
    obtain ⟨c0, c1, c2, c3⟩ := hc k x hx
    rw [Nat.zero_add]
    match j, hu with
    | 0, hu => obtain rfl : x.kv = u := by simpa using hu
               exact c0
    | 1, hu => obtain rfl : Value.int .u64 (x.e.seq : Nat) = u := by simpa using hu
               exact c1
    | 2, hu => obtain rfl : Value.int .i64 x.e.kind = u := by simpa using hu
               exact c2
    | 3, hu => obtain rfl : x.vv = u := by simpa using hu
               exact c3
    | j + 4, hu => simp at hu
/-- Rows of one's own, apart from the row v. -/
def Owned (w : World) (B : Nat) (v : Value) (ps : List Rw) : Prop := ∀ x, x ∈ ps → ERow w B x.v x.R ∧ Shown w B x.R ∧ (x.a = none → x.c = 0) ∧ x.R.length ≤ x.c ∧ (∀ k, inRow x.v k → ¬ inRow v k) ∧ ∀ t, t ∈ x.R → ∀ q, t.bytesIn q → ¬ inRow v q
def entR (rs : List Rw) : List (List Ent) := rs.map fun x => x.R.map (·.e)
theorem entR_sum (rs : List Rw) : sumR rs = ((entR rs).map List.length).sum := by simp [sumR, entR, Function.comp_def]
theorem Owned.rows {w : World} {B : Nat} {v : Value} {ps : List Rw} (h : RRow w B v ps) (ho : Owned w B v ps) (hs : ∀ x, x ∈ ps → x.R.length ≤ 1000000) : ∃ a c, v = .slice a ps.length c ∧ RowsIn w a ps := by
  have hok : ∀ x, x ∈ ps → RwOk w x := fun x hx => by
    obtain ⟨h1, h2, _, h4, _⟩ := ho x hx
    obtain ⟨a, c, e, h5, _⟩ := ents_of h1 h2
    cases e
    exact ⟨h5, h4, hs x hx⟩
  rcases h with ⟨rfl, rfl⟩ | ⟨g, c, n, rfl, rfl, h3, h4, cs, h5, h6, h7⟩
  · exact ⟨none, 0, rfl, fun k x hx => by simp at hx⟩
  · refine ⟨_, c, rfl, fun k x hx => ⟨⟨g, 0, rfl, ?_⟩, hok x (List.mem_of_getElem? hx)⟩⟩
    have hk := (List.getElem?_eq_some_iff.1 hx).1
    rw [Nat.zero_add, cell_of_row w g k cs 27 (0, 0) h5, h7 k (by simpa [rwCells] using hk)]
    simp only [rwCells, List.getElem?_map, hx, Option.map_some]
    rfl
theorem le_sum : ∀ {l : List Nat} {x : Nat}, x ∈ l → x ≤ l.sum
  | y :: r, x, h => by
    rw [List.sum_cons]
    rcases List.mem_cons.1 h with rfl | h
    · omega
    · have := le_sum h
      omega
/-- Rows of which not too much is asked. -/
structure Few (rs : List Rw) : Prop where
  rows : rs.length ≤ 20
  all : sumR rs ≤ 150
  bytes : wAll rs ≤ 15000
theorem Few.each {rs : List Rw} (h : Few rs) : ∀ x, x ∈ rs → x.R.length ≤ 150 ∧ ∀ y, y ∈ x.R → y.e.key.length ≤ 15000 ∧ y.e.val.length ≤ 15000 := fun x hx => by
  have h1 : x.R.length ≤ sumR rs := le_sum (List.mem_map.2 ⟨x, hx, rfl⟩)
  have h2 : weigh x.R ≤ wAll rs := le_sum (List.mem_map.2 ⟨x, hx, rfl⟩)
  have := h.all
  have := h.bytes
  refine ⟨by omega, fun y hy => ?_⟩
  have := weigh_mem hy
  omega
theorem ownRows_any (a : Option Addr) (n c : Nat) (rs : List Rw) (w : World) (h : ∀ (k : Nat) (x : Rw), rs[k]? = some x → (∃ b off, a = some ⟨b, off, none⟩ ∧ w.cell? ⟨b, off + k, none⟩ = some (.slice x.a x.R.length x.c)) ∧ Ents w x.a x.R) (hn : n = rs.length) (hf : Few rs) :
    Calls Try.prog 14 #[.slice a n c] w fun e w' => ∃ v ps, e = .returned v ∧ RRow w' w.heap.size v ps ∧ Owned w' w.heap.size v ps ∧ entR ps = entR rs ∧ Below w.heap.size w w' := by
  have H0 := hide h
  have HN := hide hn
  have HF := hide hf
  have hmi : (n : Int) ≤ 20 := by have := hf.rows; omega
  clear h hn hf
  go_enter Try.func14, Try.ntmps14
  go_wp2_with fail
  go_loopw [3, 4] (fun ov iv wr => ∃ (k : Nat) (ps : List Rw), iv = .int .i64 (k : Nat) ∧ k ≤ n ∧ ps.length = k ∧ RRow wr w.heap.size ov ps ∧ Owned wr w.heap.size ov ps ∧ entR ps = entR (rs.take k) ∧ Below w.heap.size w wr) (fun _ iv _ => n - (intOf iv).toNat)
  case atStart => exact ⟨0, [], rfl, Nat.zero_le _, rfl, .inl ⟨rfl, rfl⟩, fun x hx => (by cases hx), rfl, Below.refl _ _⟩
  case round =>
    obtain ⟨k, ps, rfl, hk, hpl, hR, hO, hE, hb⟩ := hrel
    obtain ⟨oa, oc, rfl⟩ := hR.len
    have HR := hide hR
    have HO := hide hO
    have HE := hide hE
    have BW := hide hb
    have HPL := hide hpl
    have hsz := hb.size
    have TW := hide (Turns.of_below hb (fun _ => False))
    clear hR hO hE hb hpl
    by_cases hk2 : k < n
    · have i1 : (k : Int) < n := by omega
      have i0 : (0 : Int) ≤ (k : Int) := by omega
      obtain ⟨x, hx⟩ : ∃ x, rs[k]? = some x := ⟨_, List.getElem?_eq_getElem (by have := HN.out; omega)⟩
      obtain ⟨⟨b, off, rfl, hc⟩, hen⟩ := H0.out k x hx
      have hc1 := TW.out.cell hc (fun x => x)
      have hfe := HF.out.each x (List.mem_of_getElem? hx)
      have HT := hide (show entR (rs.take (k + 1)) = entR (rs.take k) ++ [x.R.map (·.e)] by rw [List.take_add_one, hx]; simp [entR])
      have OE := hide (ownEntries_any x.a x.R.length x.c x.R wr (hen.quiet TW.out) rfl (by omega) (fun y hy => by have := hfe.2 y hy; omega))
      clear hc hx hen hfe
      obtain ⟨xa, xc, xR⟩ := x
      simp only at *
      generalize hxl : xR.length = xl at hc1 OE
      clear hxl
      generalize hpn : ps.length = pl at HR HO
      have HPN := hide hpn
      clear hpn
      go_wp2_with fail
      refine OE.out.mono ?_
      rintro e w2 ⟨v2, rfl, R2, hE2, hS2, hm2, _, b2⟩
      obtain ⟨a2, c2, rfl, hen2, hcap2, hnil2⟩ := ents_of hE2 hS2
      have t2 := Turns.of_below b2 (fun _ => False)
      have ta : Turns (fun _ => False) wr (w2.alloc (.cells #[.slice a2 R2.length c2] 27)) := t2.alloc _
      have tal : Turns (fun _ => False) w2 (w2.alloc (.cells #[.slice a2 R2.length c2] 27)) := (Turns.refl _ w2).alloc _
      have hal : (w2.alloc (.cells #[.slice a2 R2.length c2] 27)).heap.size = w2.heap.size + 1 := by simp
      obtain ⟨g', n', c', w3, hr3, hrow3, t3, b3, hin3⟩ := append_rw (w2.alloc (.cells #[.slice a2 R2.length c2] 27)) w.heap.size (.slice oa pl oc) ps (HR.out.keep ta (fun _ _ x => x)) (by have := ta.size; omega) (by have := HPL.out; omega) ⟨a2, c2, R2⟩ w2.heap.size 1 (heap_alloc_new w2 _)
      have hq := hr3 28
      have hrowlt : ∀ q, inRow (.slice oa pl oc) q → q < wr.heap.size := fun q hq => (HR.out.row hq).2
      have hnew : ∀ {q : Nat}, inRow (.slice (some ⟨g', 0, none⟩) n' c') q → inRow (.slice oa pl oc) q ∨ w2.heap.size < q := fun {q} ⟨n2, c2', ee⟩ => by
        have : g' = q := by cases ee; rfl
        subst this
        rcases hin3 with h | h
        · exact .inl h
        · exact .inr (by omega)
      have OWN := hide (show Owned w3 w.heap.size (.slice (some ⟨g', 0, none⟩) n' c') (ps ++ [⟨a2, c2, R2⟩]) from fun y hy => by
        rcases List.mem_append.1 hy with hy | hy
        · obtain ⟨h1, h2, h3, h4, h5, h6⟩ := HO.out y hy
          refine ⟨(h1.keep ta (fun _ _ x => x)).keep t3 h5, (h2.keep ta (fun _ _ _ _ x => x)).keep t3 h6, h3, h4, fun q hq hr => ?_, fun t ht q hq hr => ?_⟩
          · rcases hnew hr with h | h
            · exact h5 q hq h
            · have := (h1.row hq).2; have := t2.size; omega
          · rcases hnew hr with h | h
            · exact h6 t ht q hq h
            · have := ((h2 t ht).2.2 q hq).2; have := t2.size; omega
        · obtain rfl := List.mem_singleton.1 hy
          have hE3 : ERow w2 wr.heap.size (.slice a2 R2.length c2) R2 := hE2
          have hno : ∀ q, inRow (.slice a2 R2.length c2) q → wr.heap.size ≤ q ∧ q < w2.heap.size := fun q hq => hE3.row hq
          refine ⟨((hE3.keep tal (fun _ _ x => x)).keep t3 fun q hq hr => ?_).le hsz, ((hS2.keep tal (fun _ _ _ _ x => x)).keep t3 fun t ht q hq hr => ?_).le hsz, hnil2, hcap2, fun q hq hr => ?_, fun t ht q hq hr => ?_⟩
          · have := (hno q hq).1; have := hrowlt q hr; omega
          · have := ((hS2 t ht).2.2 q hq).1; have := hrowlt q hr; omega
          · rcases hnew hr with h | h
            · have := (hno q hq).1; have := hrowlt q h; omega
            · have := (hno q hq).2; omega
          · rcases hnew hr with h | h
            · have := ((hS2 t ht).2.2 q hq).1; have := hrowlt q h; omega
            · have := ((hS2 t ht).2.2 q hq).2; omega)
      have HR3 := hide hrow3
      have HE3 := hide (show entR (ps ++ [⟨a2, c2, R2⟩]) = entR (rs.take (k + 1)) by rw [HT.out, ← HE.out]; simp [entR, hm2])
      have B3 := hide (BW.out.trans ((ta.below hsz (fun _ x => x.elim)).trans b3))
      clear hE2 hS2 hm2 b2 hen2 hcap2 hnil2 t2 ta tal hal hr3 hrow3 t3 b3 hin3 hrowlt hnew OE
      generalize R2.length = rl2 at *
      go_wp2_with (at_builtin; refine wpList_append_run rfl _ _ 28 rfl _ _ rfl rfl _ _ hq ?_)
      go_roundw
      case rel => exact ⟨k + 1, _, by go_num, by omega, by rw [List.length_append, HPN.out, ← HPN.out, HPL.out]; rfl, HR3.out, OWN.out, HE3.out, B3.out⟩
      case measure => simp [intOf]; omega
    · have i1 : ¬ (k : Int) < n := by omega
      obtain rfl : k = n := by omega
      have X := hide (show entR ps = entR rs by have := HE.out; rw [HN.out, List.take_length] at this; exact this)
      go_wp2_with fail
      go_ret
      exact ⟨_, rfl, ps, HR.out, HO.out, X.out, BW.out⟩
end Go.Proofs.Ytjnpendihdlgnaa

/-
  Rows, cloned.
-/
namespace Go.Proofs.Ytjnpendihdlgnaa
open Go.RowKit Go.Shelf
set_option maxRecDepth 100000
set_option maxHeartbeats 4000000
theorem t25_info : Try.prog.info? 25 = some Try.t25 := by kernel_rfl
theorem t25_zero : ∃ z, Try.t25.zero = some z := Option.isSome_iff_exists.1 (by kernel_rfl)
theorem t25_bytes : Try.t25.bytes = 64 := by kernel_rfl
theorem make27 (n : Nat) (hn : n ≤ 1000000) (w : World) : ∃ cs : Array Value, (Instr.makeSlice 27 (.int .i64 (n : Int)) (.int .i64 (n : Int))).run Try.prog w = .ok (.slice (some ⟨w.heap.size, 0, none⟩) n n) (w.alloc (.cells cs 25)) ∧ cs.size = n * 4 := by
  obtain ⟨z, hz⟩ := t25_zero
  refine ⟨_, run_makeSlice w 27 25 Try.t25 z Try.underlying27 t25_info hz .i64 .i64 n n (by omega) (by omega) (by rw [t29_size]; omega) (by rw [t25_bytes]; omega) (by omega), ?_⟩
  rw [size_madeCells, t29_size]
  omega
def F43 (u : World) (gp i gr xl gx : Nat) (ka : Option Addr) (kn kc sq : Nat) (kd : Int) (va : Option Addr) (vn vc : Nat) : Prop :=
  u.cell? ⟨gp, i, none⟩ = some (.slice (some ⟨gr, 0, none⟩) xl xl) ∧ u.cell? ⟨gx, 0, none⟩ = some (.slice ka kn kc) ∧ u.cell? ⟨gx, 1, none⟩ = some (.int .u64 (sq : Nat)) ∧ u.cell? ⟨gx, 2, none⟩ = some (.int .i64 kd) ∧ u.cell? ⟨gx, 3, none⟩ = some (.slice va vn vc)
theorem row_snoc {cs : Array Value} {R2 : List Tow} {x : Tow} {j : Nat} (hj : R2.length = j) (hsz : j * 4 + 4 ≤ cs.size) (hpre : ∀ k, k < (entCells R2).length → cs[k]? = (entCells R2)[k]?) : ∀ k, k < (entCells (R2 ++ [x])).length → ((((cs.setIfInBounds (j * 4) x.kv).setIfInBounds (j * 4 + 1) (.int .u64 (x.e.seq : Nat))).setIfInBounds (j * 4 + 2) (.int .i64 x.e.kind)).setIfInBounds (j * 4 + 3) x.vv)[k]? = (entCells (R2 ++ [x]))[k]? := fun k hk => by
  have hl := entCells_length R2
  rw [entCells_snoc] at hk ⊢
  rw [List.length_append] at hk
  simp only [List.length_cons, List.length_nil] at hk
  rcases Nat.lt_or_ge k (j * 4) with h | h
  · rw [List.getElem?_append_left (by omega), Array.getElem?_setIfInBounds_ne (by omega), Array.getElem?_setIfInBounds_ne (by omega), Array.getElem?_setIfInBounds_ne (by omega), Array.getElem?_setIfInBounds_ne (by omega)]
    exact hpre k (by omega)
  · obtain ⟨m, rfl⟩ : ∃ m, k = j * 4 + m := ⟨k - j * 4, by omega⟩
    rw [List.getElem?_append_right (by omega), show j * 4 + m - (entCells R2).length = m by omega]
    have hm : m = 0 ∨ m = 1 ∨ m = 2 ∨ m = 3 := by omega
    rcases hm with rfl | rfl | rfl | rfl <;> simp [Array.getElem?_setIfInBounds] <;> omega
/-- The entries of one row, cloned so far. -/
structure Cln (w0 ws : World) (gr xl : Nat) (xR : List Tow) (j : Nat) (R2 : List Tow) : Prop where
  len : R2.length = j
  le : j ≤ xl
  same : R2.map (·.e) = (xR.take j).map (·.e)
  row : RowC ws gr 25 (xl * 4) (entCells R2)
  shown : Shown ws (gr + 1) R2
  turn : Turns (fun k => k = gr) w0 ws
theorem cloneEach_any (a : Option Addr) (n c : Nat) (rs : List Rw) (w : World) (h : RowsIn w a rs) (hn : n = rs.length) (hmx : n ≤ 1000000) (hsz : ∀ x, x ∈ rs → ∀ y, y ∈ x.R → y.e.key.length ≤ 1000000 ∧ y.e.val.length ≤ 1000000) :
    Calls Try.prog 43 #[.slice a n c] w fun e w' => ∃ v ps, e = .returned v ∧ RRow w' w.heap.size v ps ∧ Owned w' w.heap.size v ps ∧ entR ps = entR rs ∧ Below w.heap.size w w' := by
  obtain ⟨cs, hmk, hcs⟩ := make28 n hmx w
  have T0 := hide ((Turns.refl (fun _ => False) w).alloc (.cells cs 27))
  have N0 := hide (heap_alloc_new w (.cells cs 27))
  have H0 := hide h
  have HN := hide hn
  have HZ := hide hsz
  have HCS := hide hcs
  clear h hn hsz hcs
  go_enter Try.func43, Try.ntmps43
  go_wp2_with fail
  clear hmk
  generalize hw1 : w.alloc (.cells cs 27) = w1 at *
  have HS1 := hide (show w1.heap.size = w.heap.size + 1 by rw [← hw1]; simp)
  generalize hgp : w.heap.size = gp at *
  clear hw1
  go_loopw [13] (fun v13 wr => ∃ (i : Nat) (ps : List Rw), v13 = .int .i64 (i : Nat) ∧ i ≤ n ∧ ps.length = i ∧ RowC wr gp 27 n (rwCells ps) ∧ Owned wr gp (.slice (some ⟨gp, 0, none⟩) n n) ps ∧ entR ps = entR (rs.take i) ∧ Turns (fun k => gp ≤ k) w1 wr) (fun v13 _ => n - (intOf v13).toNat)
  case atStart => exact ⟨0, [], rfl, Nat.zero_le _, rfl, ⟨cs, N0.out, Nat.le_of_eq HCS.out.symm, fun k hk => (by simp [rwCells] at hk)⟩, fun x hx => (by cases hx), rfl, Turns.refl _ _⟩
  case round =>
    obtain ⟨i, ps, rfl, hi, hpl, hR, hO, hE, hT⟩ := hrel
    have TW := hide (show Turns (fun _ => False) w wr from T0.out.andThen hT fun k hk e => by omega)
    have HR := hide hR
    have HO := hide hO
    have HE := hide hE
    have TR := hide hT
    have PL := hide hpl
    have WS := hide (show gp < wr.heap.size by have := HS1.out; have := hT.size; omega)
    clear hR hO hE hT hpl
    by_cases hin : i < n
    · obtain ⟨x, hx⟩ : ∃ x, rs[i]? = some x := ⟨_, List.getElem?_eq_getElem (by have := HN.out; omega)⟩
      obtain ⟨⟨b, off, rfl, hc⟩, hok⟩ := H0.out i x hx
      have hc1 := TW.out.cell hc (fun x => x)
      have i1 : (i : Int) < n := by omega
      have i0 : (0 : Int) ≤ i := by omega
      have HX := hide hx
      have OK := hide hok
      have KZ := hide (HZ.out x (List.mem_of_getElem? hx))
      clear hx hok hc
      obtain ⟨xa, xc, xR⟩ := x
      simp only at *
      generalize hxl : xR.length = xl at hc1
      have hxm : xl ≤ 1000000 := by have := OK.out.size; simp only at this; omega
      have HXL := hide hxl
      clear hxl
      obtain ⟨cs2, hmk2, hcs2⟩ := make27 xl hxm wr
      obtain ⟨cs1, hg1, hcs1, hpre1⟩ := HR.out
      have ta : Turns (fun _ => False) wr (wr.alloc (.cells cs2 25)) := (Turns.refl _ wr).alloc _
      have hg2 := ta.heap hg1 (fun x => x)
      obtain ⟨dv, d0⟩ : ∃ dv, (wr.alloc (.cells cs2 25)).cell? ⟨gp, i, none⟩ = some dv := ⟨_, by rw [cell_of_row _ gp i _ 27 (0, 0) hg2]; exact Array.getElem?_eq_getElem (by omega)⟩
      have z0 := frozen_of_row (wr.alloc (.cells cs2 25)) gp i _ 27 hg2
      have tk := (Tick.refl hg2).set i (.slice (some ⟨wr.heap.size, 0, none⟩) xl xl)
      have tt := Turns.of_tick tk
      have TA := hide ta
      have TT := hide tt
      have TK := hide tk
      have NG := hide (tt.heap (heap_alloc_new wr (.cells cs2 25)) (by have := WS.out; omega))
      have CS2 := hide hcs2
      have ZZ := hide (show (wr.alloc (.cells cs2 25)).heap.size = wr.heap.size + 1 by simp)
      have PRE := hide (And.intro hcs1 hpre1)
      clear hg1 hcs1 hpre1 ta hg2 tk tt hcs2
      go_upto_region 6 with (fail)
      clear hmk2 d0 z0
      have W3S := hide (show ((wr.alloc (.cells cs2 25)).setCell ⟨gp, i, none⟩ (.slice (some ⟨wr.heap.size, 0, none⟩) xl xl)).heap.size = wr.heap.size + 1 by simp)
      generalize hw3 : (wr.alloc (.cells cs2 25)).setCell ⟨gp, i, none⟩ (.slice (some ⟨wr.heap.size, 0, none⟩) xl xl) = w3 at *
      generalize hgr : wr.heap.size = gr at *
      have T3 := hide (show Turns (fun k => k = gp) wr w3 from (TA.out.mono fun _ _ x => x.elim).trans TT.out)
      have hd3 : w3.cell? ⟨gp, i, none⟩ = some (.slice (some ⟨gr, 0, none⟩) xl xl) := by
        have := TK.out.cell i
        rw [Array.getElem?_setIfInBounds_self_of_lt (by have := PRE.out.1; omega)] at this
        exact this
      clear hw3
      obtain ⟨wo, hwo⟩ : ∃ wo, wo = wr := ⟨_, rfl⟩
      subst hwo
      go_wp2_with fail
      go_loopw [26] (fun v26 ws => ∃ (j : Nat) (R2 : List Tow), v26 = .int .i64 (j : Nat) ∧ Cln w3 ws gr xl xR j R2) (fun v26 _ => xl - (intOf v26).toNat)
      case atStart => exact ⟨0, [], rfl, rfl, Nat.zero_le _, rfl, ⟨cs2, NG.out, Nat.le_of_eq CS2.out.symm, fun k hk => (by simp [entCells] at hk)⟩, fun x hx => (by cases hx), Turns.refl _ _⟩
      case round =>
        obtain ⟨j, R2, rfl, hcl⟩ := hrel
        have CN := hide hcl
        have hj := hcl.le
        clear hcl
        by_cases hjn : j < xl
        · obtain ⟨y, hy⟩ : ∃ y, xR[j]? = some y := ⟨_, List.getElem?_eq_getElem (by have := HXL.out; omega)⟩
          have tw : Turns (fun _ => False) w wr := (((TW.out.mono (S' := fun k => gp ≤ k) fun _ _ x => x.elim).trans (T3.out.mono fun _ _ e => by omega)).trans (CN.out.turn.mono fun _ _ e => by have := WS.out; omega)).mono fun k hk e => by omega
          have hmem := List.mem_of_getElem? hy
          obtain ⟨⟨b', off', hxa, hcc⟩, hb1, hb2⟩ := OK.out.ents j y hy
          have hl1 := (KZ.out y hmem).1
          have hl2 := (KZ.out y hmem).2
          have c0 := tw.cell (hcc 0 _ rfl) (fun x => x)
          have c1 := tw.cell (hcc 1 _ rfl) (fun x => x)
          have c2 := tw.cell (hcc 2 _ rfl) (fun x => x)
          have c3 := tw.cell (hcc 3 _ rfl) (fun x => x)
          simp only at hxa
          rw [Nat.add_zero] at c0
          have hb1 := hb1.quiet tw
          have hb2 := hb2.quiet tw
          have hgi := CN.out.turn.cell hd3 (show ¬ gp = gr by have := WS.out; omega)
          have YY := hide hy
          have j1 : (j : Int) < xl := by omega
          have j0 : (0 : Int) ≤ j := by omega
          simp only [Tow.kv, Tow.vv] at c0 c3 hb1 hb2
          subst hxa
          generalize hkn : y.e.key.length = kn at *
          generalize hvn : y.e.val.length = vn at *
          generalize hsq : y.e.seq = sq at *
          generalize hkd : y.e.kind = kd at *
          generalize y.ka = ka at *
          generalize y.va = va at *
          generalize y.kc = kc at *
          generalize y.vc = vc at *
          have HKN := hide hkn
          have HVN := hide hvn
          have HSQ := hide hsq
          have HKD := hide hkd
          clear hcc hy hmem hkn hvn hsq hkd
          have TW2 := hide ((Turns.refl (fun _ => False) wr).alloc (.cells #[.slice ka kn kc, .int .u64 (sq : Nat), .int .i64 kd, .slice va vn vc] 25))
          have NX := hide (heap_alloc_new wr (.cells #[.slice ka kn kc, .int .u64 (sq : Nat), .int .i64 kd, .slice va vn vc] 25))
          go_upto_region 9 with (fail)
          generalize wr.alloc (.cells #[.slice ka kn kc, .int .u64 (sq : Nat), .int .i64 kd, .slice va vn vc] 25) = W at *
          generalize hgx : wr.heap.size = gx at *
          have tW : Turns (fun _ => False) wr W.drew := TW2.out.drew
          have tV := tW
          have CL := hide (cloneTE_any ka va kn kc vn vc sq kd y.e.key y.e.val W.drew (hb1.quiet tW) (hb2.quiet tW) hl1 hl2)
          have SK := hide (fun (u : World) (tt : Turns (fun _ => False) wr u) (tx : Turns (fun _ => False) W u) => show F43 u gp i gr xl gx ka kn kc sq kd va vn vc from ⟨tt.cell hgi (fun x => x), tx.cell (cell_of_row W gx 0 _ 25 (0, 0) NX.out) (fun x => x), tx.cell (cell_of_row W gx 1 _ 25 (0, 0) NX.out) (fun x => x), tx.cell (cell_of_row W gx 2 _ 25 (0, 0) NX.out) (fun x => x), tx.cell (cell_of_row W gx 3 _ 25 (0, 0) NX.out) (fun x => x)⟩)
          have tX : Turns (fun _ => False) W W.drew := (Turns.refl _ W).drew
          clear c0 c1 c2 c3 tw hb1 hb2 hgi
          refine wp_region_z_drew 8 (S := fun u => F43 u gp i gr xl gx ka kn kc sq kd va vn vc) (by kernel_rfl) (SK.out _ tV tX) (fun _ => ?_)
          change wpAnyZ _ _ _ _ _ _ 9 (Array.replicate 9 false) _ _
          refine wpAnyZ_take (i := 0) (oi := { dst := some 31, op := Op.move (Operand.tmp 3), type := 28, pos := "merger.go:62", after := #[], guard := none }) (v := .slice (some ⟨gp, 0, none⟩) n n) rfl (by kernel_rfl) (by kernel_rfl) (by kernel_rfl) (by kernel_rfl) (fun _ _ _ h => h) (Or.inl ⟨by rfl, ?_⟩) (SK.out _ tV tX) ?_
          · rintro w ⟨d0, s0, s1, s2, s3⟩
            go_simp
          simp only [Act.put, List.setIfInBounds_toArray, List.set_cons_zero, List.set_cons_succ]
          refine wpAnyZ_take (i := 1) (oi := { dst := some 32, op := Op.move (Operand.tmp 4), type := 3, pos := "merger.go:62", after := #[], guard := none }) (v := .int .i64 (i : Nat)) rfl (by kernel_rfl) (by kernel_rfl) (by kernel_rfl) (by kernel_rfl) (fun _ _ _ h => h) (Or.inl ⟨by rfl, ?_⟩) (SK.out _ tV tX) ?_
          · rintro w ⟨d0, s0, s1, s2, s3⟩
            go_simp
          simp only [Act.put, List.setIfInBounds_toArray, List.set_cons_zero, List.set_cons_succ]
          refine wpAnyZ_take (i := 2) (oi := { dst := some 33, op := Op.indexAddr 28 (Operand.tmp 31) (Operand.tmp 32), type := 0, pos := "merger.go:62", after := #[{ on := 0, ground := Ground.data }, { on := 1, ground := Ground.data }], guard := none }) (v := .pointer (some ⟨gp, i, none⟩)) rfl (by kernel_rfl) (by kernel_rfl) (by kernel_rfl) (by kernel_rfl) (fun _ _ _ h => h) (Or.inl ⟨by rfl, ?_⟩) (SK.out _ tV tX) ?_
          · rintro w ⟨d0, s0, s1, s2, s3⟩
            go_simp
          simp only [Act.put, List.setIfInBounds_toArray, List.set_cons_zero, List.set_cons_succ]
          refine wpAnyZ_take (i := 3) (oi := { dst := some 34, op := Op.load 27 (Operand.tmp 33), type := 27, pos := "merger.go:62", after := #[{ on := 2, ground := Ground.data }], guard := none }) (v := .slice (some ⟨gr, 0, none⟩) xl xl) rfl (by kernel_rfl) (by kernel_rfl) (by kernel_rfl) (by kernel_rfl) (fun _ _ _ h => h) (Or.inl ⟨by rfl, ?_⟩) (SK.out _ tV tX) ?_
          · rintro w ⟨d0, s0, s1, s2, s3⟩
            go_simp
          simp only [Act.put, List.setIfInBounds_toArray, List.set_cons_zero, List.set_cons_succ]
          refine wpAnyZ_take (i := 4) (oi := { dst := some 35, op := Op.move (Operand.tmp 6), type := 3, pos := "merger.go:62", after := #[], guard := none }) (v := .int .i64 (j : Nat)) rfl (by kernel_rfl) (by kernel_rfl) (by kernel_rfl) (by kernel_rfl) (fun _ _ _ h => h) (Or.inl ⟨by rfl, ?_⟩) (SK.out _ tV tX) ?_
          · rintro w ⟨d0, s0, s1, s2, s3⟩
            go_simp
          simp only [Act.put, List.setIfInBounds_toArray, List.set_cons_zero, List.set_cons_succ]
          refine wpAnyZ_take (i := 5) (oi := { dst := some 36, op := Op.load 25 (Operand.tmp 7), type := 25, pos := "merger.go:62", after := #[], guard := none }) (v := .agg #[.slice ka kn kc, .int .u64 (sq : Nat), .int .i64 kd, .slice va vn vc]) rfl (by kernel_rfl) (by kernel_rfl) (by kernel_rfl) (by kernel_rfl) (fun _ _ _ h => h) (Or.inl ⟨by rfl, ?_⟩) (SK.out _ tV tX) ?_
          · rintro w ⟨d0, s0, s1, s2, s3⟩
            go_simp
          simp only [Act.put, List.setIfInBounds_toArray, List.set_cons_zero, List.set_cons_succ]
          refine wpAnyZ_ready (rs := [6]) (by kernel_rfl) (by simp) ?_
          refine AllReadyZ.cons rfl (fun K hK => ?_) AllReadyZ.nil
          go_simp
          refine CL.out.mono ?_
          rintro oo V ⟨ka', kc', va', vc', rfl, hk6, hv6, hkb, hvb, b6⟩
          have t6 := Turns.of_below b6 (fun _ => False)
          have tV := tV.trans t6
          have tX := tX.trans t6
          go_simp
          refine hK.out _ _ (SK.out _ tV tX) (fun _ => ?_)
          clear hK K
          obtain ⟨cs3, hg3, hsz3, hpre3⟩ := CN.out.row
          have hlt3 := lt_of_heap hg3
          have hg6 := tV.heap hg3 (fun x => x)
          have e0 := frozen_of_row V gr (j * 4) _ 25 hg6
          have e1 := frozen_of_row V gr (j * 4 + 1) _ 25 hg6
          have e2 := frozen_of_row V gr (j * 4 + 2) _ 25 hg6
          have e3 := frozen_of_row V gr (j * 4 + 3) _ 25 hg6
          have hcg : ∀ m, m < 4 → ∃ d, V.cell? ⟨gr, j * 4 + m, none⟩ = some d := fun m hm => ⟨_, by rw [cell_of_row V gr (j * 4 + m) _ 25 (0, 0) hg6]; exact Array.getElem?_eq_getElem (by omega)⟩
          obtain ⟨q0, f0⟩ := hcg 0 (by omega)
          obtain ⟨q1, f1⟩ := hcg 1 (by omega)
          obtain ⟨q2, f2⟩ := hcg 2 (by omega)
          obtain ⟨q3, f3⟩ := hcg 3 (by omega)
          rw [Nat.add_zero] at f0
          have k4 := ((((Tick.refl hg6).set (j * 4) (.slice ka' kn kc')).set (j * 4 + 1) (.int .u64 (sq : Nat))).set (j * 4 + 2) (.int .i64 kd)).set (j * 4 + 3) (.slice va' vn vc')
          have tk := Turns.of_tick k4
          have REL := hide (show ∃ (j2 : Nat) (R2 : List Tow), j2 = j + 1 ∧ Cln w3 ((((V.setCell ⟨gr, j * 4, none⟩ (.slice ka' kn kc')).setCell ⟨gr, j * 4 + 1, none⟩ (.int .u64 (sq : Nat))).setCell ⟨gr, j * 4 + 2, none⟩ (.int .i64 kd)).setCell ⟨gr, j * 4 + 3, none⟩ (.slice va' vn vc')) gr xl xR j2 R2 from by
            have hl2 := CN.out.len
            refine ⟨j + 1, R2 ++ [⟨ka', kc', va', vc', y.e⟩], rfl, by simp [hl2], by omega, ?_, ⟨_, k4.1, by simpa using hsz3, ?_⟩, fun z hz => ?_, (CN.out.turn.trans (tV.mono fun _ _ x => x.elim)).trans tk⟩
            · rw [List.map_append, CN.out.same, List.take_add_one, YY.out]; simp
            · have := row_snoc (x := ⟨ka', kc', va', vc', y.e⟩) hl2 (by omega) hpre3
              simp only [Tow.kv, Tow.vv, HKN.out, HVN.out, HSQ.out, HKD.out] at this ⊢
              exact this
            · rcases List.mem_append.1 hz with hz | hz
              · exact ((CN.out.shown.keep tV fun _ _ _ _ x => x).keep tk fun x hx q hq e => by have := ((CN.out.shown x hx).2.2 q hq).1; omega) z hz
              · obtain rfl : z = ⟨ka', kc', va', vc', y.e⟩ := by simpa using hz
                have hsv : wr.heap.size ≤ W.drew.heap.size := tW.size
                refine ⟨?_, ?_, fun q hq => ?_⟩
                · simp only [Tow.kv, HKN.out]; exact bytes_keep hk6 tk fun x e e2 => by have := (hkb x e).1; omega
                · simp only [Tow.vv, HVN.out]; exact bytes_keep hv6 tk fun x e e2 => by have := (hvb x e).1; omega
                · have hts := tk.size
                  rcases hq with ⟨x, e, rfl⟩ | ⟨x, e, rfl⟩
                  · have := (hkb x e).1; omega
                  · have := (hvb x e).1; omega)
          clear hg3 hsz3 hpre3 hlt3 hg6 hcg k4 tk hk6 hv6 hkb hvb b6 t6
          refine wpAnyZ_take (i := 7) (oi := { dst := some 38, op := Op.indexAddr 27 (Operand.tmp 34) (Operand.tmp 35), type := 0, pos := "merger.go:62", after := #[{ on := 3, ground := Ground.data }, { on := 4, ground := Ground.data }, { on := 0, ground := Ground.phase }, { on := 1, ground := Ground.phase }, { on := 2, ground := Ground.phase }, { on := 3, ground := Ground.phase }, { on := 4, ground := Ground.phase }, { on := 5, ground := Ground.phase }, { on := 6, ground := Ground.phase }], guard := none }) (v := .pointer (some ⟨gr, j * 4, none⟩)) rfl (by kernel_rfl) (by kernel_rfl) (by kernel_rfl) (by kernel_rfl) (fun _ _ _ h => h) (Or.inl ⟨by rfl, ?_⟩) (SK.out _ tV tX) ?_
          · rintro w ⟨d0, s0, s1, s2, s3⟩
            go_simp
          simp only [Act.put, List.setIfInBounds_toArray, List.set_cons_zero, List.set_cons_succ]
          refine wpAnyZ_ready (rs := [8]) (by kernel_rfl) (by simp) ?_
          refine AllReadyZ.free rfl (by kernel_rfl) (fun K hK => ?_) AllReadyZ.nil
          go_simp
          refine hK.out _ _ ?_
          clear hK K
          refine wpAnyZ_done (by kernel_rfl) ?_ _
          go_wp2_with fail
          obtain ⟨j2, R3, ej, hc3⟩ := REL.out
          subst ej
          go_roundw
          case rel => exact ⟨j + 1, R3, by go_num, hc3⟩
          case measure => simp [intOf]; omega
        · obtain rfl : j = xl := by omega
          have hx2 : R2.map (·.e) = xR.map (·.e) := by rw [CN.out.same, List.take_of_length_le (by have := HXL.out; omega)]
          have hg3 := TK.out.1
          have hgw := CN.out.turn.heap hg3 (show ¬ gp = gr by have := WS.out; omega)
          have REL := hide (show ∃ (i2 : Nat) (ps : List Rw), i2 = i + 1 ∧ i2 ≤ n ∧ ps.length = i2 ∧ RowC wr gp 27 n (rwCells ps) ∧ Owned wr gp (.slice (some ⟨gp, 0, none⟩) n n) ps ∧ entR ps = entR (rs.take i2) ∧ Turns (fun k => gp ≤ k) w1 wr from by
            refine ⟨i + 1, ps ++ [⟨some ⟨gr, 0, none⟩, j, R2⟩], rfl, by omega, by rw [List.length_append, PL.out]; rfl, ⟨_, hgw, by simpa using PRE.out.1, fun k hk => ?_⟩, fun z hz => ?_, ?_, (TR.out.trans (T3.out.mono fun _ _ e => by omega)).trans (CN.out.turn.mono fun _ _ e => by have := WS.out; omega)⟩
            · have hpl : (rwCells ps).length = i := by simp [rwCells, PL.out]
              have er : rwCells (ps ++ [⟨some ⟨gr, 0, none⟩, j, R2⟩]) = rwCells ps ++ [.slice (some ⟨gr, 0, none⟩) j j] := by simp [rwCells, Rw.v, CN.out.len]
              rw [er] at hk ⊢
              rw [List.length_append, hpl] at hk
              simp only [List.length_cons, List.length_nil] at hk
              rcases Nat.lt_or_ge k i with h | h
              · rw [List.getElem?_append_left (by omega), Array.getElem?_setIfInBounds_ne (by omega)]
                exact PRE.out.2 k (by omega)
              · obtain rfl : k = i := by omega
                rw [List.getElem?_append_right (by omega), Array.getElem?_setIfInBounds_self_of_lt (by have := PRE.out.1; omega), hpl]
                simp
            · rcases List.mem_append.1 hz with hz | hz
              · obtain ⟨h1, h2, h3, h4, h5, h6⟩ := HO.out z hz
                refine ⟨(h1.keep T3.out fun k hk e => h5 k hk (by rw [e]; exact ⟨_, _, rfl⟩)).keep CN.out.turn fun k hk e => ?_, (h2.keep T3.out fun t ht q hq e => h6 t ht q hq (by rw [e]; exact ⟨_, _, rfl⟩)).keep CN.out.turn fun t ht q hq e => ?_, h3, h4, h5, h6⟩
                · have := (h1.row hk).2; omega
                · have := ((h2 t ht).2.2 q hq).2; omega
              · obtain rfl : z = ⟨some ⟨gr, 0, none⟩, j, R2⟩ := by simpa using hz
                refine ⟨.inr ⟨gr, j, j, by simp [Rw.v, CN.out.len], CN.out.len.symm, Nat.le_refl _, by have := WS.out; omega, CN.out.row⟩, CN.out.shown.le (by have := WS.out; omega), fun e => (by cases e), Nat.le_of_eq CN.out.len, fun k ⟨_, _, e⟩ ⟨_, _, e2⟩ => ?_, fun t ht q hq ⟨_, _, e2⟩ => ?_⟩
                · simp only [Rw.v] at e
                  cases e; cases e2
                  have := WS.out; omega
                · have := ((CN.out.shown t ht).2.2 q hq).1
                  cases e2
                  have := WS.out; omega
            · rw [List.take_add_one, HX.out]
              simp only [entR, List.map_append, List.map_take] at HE ⊢
              have := HE.out
              simp [this, hx2])
          clear hx2 hg3 hgw
          go_wp2_with fail
          obtain ⟨i2, ps2, ei, hrel2⟩ := REL.out
          subst ei
          go_roundw
          case rel => exact ⟨i + 1, ps2, by go_num, hrel2⟩
          case measure => simp [intOf]; omega
    · obtain rfl : i = n := by omega
      have FIN := hide (show ∃ v ps, Ending.returned (Value.slice (some ⟨gp, 0, none⟩) i i) = .returned v ∧ RRow wr w.heap.size v ps ∧ Owned wr w.heap.size v ps ∧ entR ps = entR rs ∧ Below w.heap.size w wr from by
        rw [hgp]
        exact ⟨_, ps, rfl, .inr ⟨gp, i, i, rfl, PL.out.symm, Nat.le_refl _, Nat.le_refl _, HR.out⟩, HO.out, by rw [HE.out, List.take_of_length_le (by have := HN.out; omega)], TW.out.below (by omega) (fun _ x => x.elim)⟩)
      go_wp2_with fail
      go_ret
      exact FIN.out
end Go.Proofs.Ytjnpendihdlgnaa

/-
  Two rows as1 one, as plain mathematics; what is seen, by a predicate.
-/
namespace Go.Proofs.Ytjnpendihdlgnaa
open Go.RowKit
set_option maxRecDepth 100000
def mg2 : List Tow → List Tow → List Tow
  | [], bs => bs
  | a :: as1, [] => a :: as1
  | a :: as1, b :: bs => if cmpE a.e.en b.e.en < 0 then a :: mg2 as1 (b :: bs) else if cmpE a.e.en b.e.en = 0 then a :: mg2 as1 bs else b :: mg2 (a :: as1) bs
termination_by a b => a.length + b.length
theorem mg2_nil_right (as1 : List Tow) : mg2 as1 [] = as1 := by cases as1 <;> simp [mg2]
theorem cmpE_self (x : En) : cmpE x x = 0 := (cmpE_zero x x).2 ⟨rfl, rfl⟩
theorem mg2_mem : ∀ (as1 bs : List Tow), as1.Pairwise ltT → bs.Pairwise ltT → ∀ x, x ∈ mg2 as1 bs ↔ x ∈ as1 ∨ (x ∈ bs ∧ ∀ a, a ∈ as1 → cmpE a.e.en x.e.en ≠ 0)
  | [], bs, _, _, x => by simp [mg2]
  | a :: as1, [], _, _, x => by simp [mg2]
  | a :: as1, b :: bs, ha, hb, x => by
    obtain ⟨ha1, ha2⟩ := List.pairwise_cons.1 ha
    obtain ⟨hb1, hb2⟩ := List.pairwise_cons.1 hb
    unfold mg2
    split
    · next hlt =>
      rw [List.mem_cons, mg2_mem as1 (b :: bs) ha2 hb x]
      constructor
      · rintro (rfl | h | ⟨h1, h2⟩)
        · exact .inl (by simp)
        · exact .inl (List.mem_cons_of_mem _ h)
        · refine .inr ⟨h1, fun c hc => ?_⟩
          rcases List.mem_cons.1 hc with rfl | hc
          · have : cmpE c.e.en x.e.en < 0 := by
              rcases List.mem_cons.1 h1 with rfl | h1
              · exact hlt
              · have := hb1 x h1
                unfold ltT at this
                exact cmpE_lt_le hlt (by omega)
            omega
          · exact h2 c hc
      · rintro (h | ⟨h1, h2⟩)
        · rcases List.mem_cons.1 h with rfl | h
          · exact .inl rfl
          · exact .inr (.inl h)
        · exact .inr (.inr ⟨h1, fun c hc => h2 c (List.mem_cons_of_mem _ hc)⟩)
    · next hlt =>
      split
      · next heq =>
        rw [List.mem_cons, mg2_mem as1 bs ha2 hb2 x]
        constructor
        · rintro (rfl | h | ⟨h1, h2⟩)
          · exact .inl (by simp)
          · exact .inl (List.mem_cons_of_mem _ h)
          · refine .inr ⟨List.mem_cons_of_mem _ h1, fun c hc => ?_⟩
            rcases List.mem_cons.1 hc with rfl | hc
            · have := hb1 x h1
              unfold ltT at this
              have := cmpE_le_lt (x := c.e.en) (y := b.e.en) (z := x.e.en) (by omega) this
              omega
            · exact h2 c hc
        · rintro (h | ⟨h1, h2⟩)
          · rcases List.mem_cons.1 h with rfl | h
            · exact .inl rfl
            · exact .inr (.inl h)
          · rcases List.mem_cons.1 h1 with rfl | h1
            · exact absurd heq (h2 a (by simp))
            · exact .inr (.inr ⟨h1, fun c hc => h2 c (List.mem_cons_of_mem _ hc)⟩)
      · next hne =>
        rw [List.mem_cons, mg2_mem (a :: as1) bs ha hb2 x]
        constructor
        · rintro (rfl | h | ⟨h1, h2⟩)
          · refine .inr ⟨by simp, fun c hc e => ?_⟩
            rcases List.mem_cons.1 hc with rfl | hc
            · exact hne e
            · have := ha1 c hc
              unfold ltT at this
              have s := cmpE_swap a.e.en x.e.en
              have := cmpE_lt_le (x := a.e.en) (y := c.e.en) (z := x.e.en) this (by omega)
              omega
          · exact .inl h
          · exact .inr ⟨List.mem_cons_of_mem _ h1, h2⟩
        · rintro (h | ⟨h1, h2⟩)
          · exact .inr (.inl h)
          · rcases List.mem_cons.1 h1 with rfl | h1
            · exact .inl rfl
            · exact .inr (.inr ⟨h1, h2⟩)
termination_by a b => a.length + b.length
theorem mg2_rise : ∀ (as1 bs : List Tow), as1.Pairwise ltT → bs.Pairwise ltT → (mg2 as1 bs).Pairwise ltT
  | [], bs, _, hb => by simpa [mg2] using hb
  | a :: as1, [], ha, _ => by simpa [mg2] using ha
  | a :: as1, b :: bs, ha, hb => by
    obtain ⟨ha1, ha2⟩ := List.pairwise_cons.1 ha
    obtain ⟨hb1, hb2⟩ := List.pairwise_cons.1 hb
    unfold mg2
    split
    · next hlt =>
      refine List.pairwise_cons.2 ⟨fun x hx => ?_, mg2_rise as1 (b :: bs) ha2 hb⟩
      rcases (mg2_mem as1 (b :: bs) ha2 hb x).1 hx with h | ⟨h, _⟩
      · exact ha1 x h
      · rcases List.mem_cons.1 h with rfl | h
        · exact hlt
        · have := hb1 x h
          unfold ltT at this ⊢
          exact cmpE_lt_le hlt (by omega)
    · next hlt =>
      split
      · next heq =>
        refine List.pairwise_cons.2 ⟨fun x hx => ?_, mg2_rise as1 bs ha2 hb2⟩
        rcases (mg2_mem as1 bs ha2 hb2 x).1 hx with h | ⟨h, _⟩
        · exact ha1 x h
        · have := hb1 x h
          unfold ltT at this ⊢
          exact cmpE_le_lt (by omega) this
      · next hne =>
        refine List.pairwise_cons.2 ⟨fun x hx => ?_, mg2_rise (a :: as1) bs ha hb2⟩
        have s := cmpE_swap a.e.en b.e.en
        rcases (mg2_mem (a :: as1) bs ha hb2 x).1 hx with h | ⟨h, _⟩
        · rcases List.mem_cons.1 h with rfl | h
          · unfold ltT; omega
          · have := ha1 x h
            unfold ltT at this ⊢
            exact cmpE_lt_le (by omega) (show cmpE a.e.en x.e.en ≤ 0 by omega)
        · exact hb1 x h
termination_by a b => a.length + b.length
/-- One row more. -/
theorem Mg.more {L : List Hd} {h : Hd} {xs : List Tow} (hx : Mg L xs) (hu : h.R.Pairwise ltT) (hno : ∀ h', h' ∈ L → h'.no < h.no) : Mg (L ++ [h]) (mg2 xs h.R) := by
  have mem := mg2_mem xs h.R hx.rise hu
  refine ⟨mg2_rise xs h.R hx.rise hu, fun x hm => ?_, fun g hg y hy => ?_⟩
  · rcases (mem x).1 hm with h1 | ⟨h1, h2⟩
    · obtain ⟨h0, g1, g2, g3⟩ := hx.of x h1
      refine ⟨h0, List.mem_append_left _ g1, g2, fun h' hh' hn => ?_⟩
      rcases List.mem_append.1 hh' with hh' | hh'
      · exact g3 h' hh' hn
      · rw [List.mem_singleton.1 hh'] at hn
        have := hno h0 g1
        omega
    · refine ⟨h, List.mem_append_right _ (by simp), h1, fun h' hh' hn y hy e => ?_⟩
      rcases List.mem_append.1 hh' with hh' | hh'
      · obtain ⟨a, a1, a2⟩ := hx.all h' hh' y hy
        have := @cmpE_sub a.e.en y.e.en x.e.en (by omega) (by omega)
        have s1 := cmpE_swap a.e.en y.e.en
        have s2 := cmpE_swap y.e.en x.e.en
        have s3 := cmpE_swap a.e.en x.e.en
        have := @cmpE_sub x.e.en y.e.en a.e.en (by omega) (by omega)
        exact h2 a a1 (by omega)
      · rw [List.mem_singleton.1 hh'] at hn
        omega
  · rcases List.mem_append.1 hg with hg | hg
    · obtain ⟨a, a1, a2⟩ := hx.all g hg y hy
      exact ⟨a, (mem a).2 (.inl a1), a2⟩
    · rw [List.mem_singleton.1 hg] at hy
      by_cases he : ∃ a, a ∈ xs ∧ cmpE a.e.en y.e.en = 0
      · obtain ⟨a, a1, a2⟩ := he
        exact ⟨a, (mem a).2 (.inl a1), a2⟩
      · exact ⟨y, (mem y).2 (.inr ⟨hy, fun a ha e => he ⟨a, ha, e⟩⟩), cmpE_self _⟩
end Go.Proofs.Ytjnpendihdlgnaa

/-
  What is seen, told by a predicate.
-/
namespace Go.Proofs.Ytjnpendihdlgnaa
open Go.RowKit
set_option maxRecDepth 100000
def ltE (a b : Ent) : Prop := cmpE a.en b.en < 0
theorem ltE_key {a b : Ent} (h : ltE a b) : cmpB a.key b.key ≤ 0 := cmpB_of_E h
theorem ltE_seq {a b : Ent} (h : ltE a b) (e : a.key = b.key) : b.seq < a.seq := by
  unfold ltE cmpE Ent.en at h
  have hz : cmpB a.key b.key = 0 := (cmpB_zero _ _).2 e
  simp only [hz, ne_eq, not_true_eq_false, if_false] at h
  split at h
  · assumption
  · split at h <;> omega
theorem key_mid {a b c : Ent} (h1 : ltE a b) (h2 : ltE b c) (e : a.key = c.key) : b.key = c.key := by
  have k1 := ltE_key h1
  have k2 := ltE_key h2
  rw [e] at k1
  have s := cmpB_swap c.key b.key
  exact (cmpB_zero _ _).1 (by omega)
/-- Is x hidden by y at seq? -/
def hides (seq : Nat) (x y : Ent) : Bool := decide (y.key = x.key) && decide (y.seq ≤ seq) && decide (x.seq < y.seq)
def newest (seq : Nat) (xs : List Ent) (x : Ent) : Bool := decide (x.seq ≤ seq) && decide (x.kind = 1) && !(xs.any (hides seq x))
theorem seenK_snoc (seq : Nat) (p : List Ent) (y : Ent) : seenK seq none (p ++ [y]) = if seq < y.seq then seenK seq none p else some y.key := by
  rw [seenK_append]
  generalize seenK seq none p = k
  simp only [seenK]
  by_cases h : seq < y.seq
  · simp [skipIt, h]
  · rw [if_neg h]
    cases k with
    | none => simp [skipIt, h]
    | some k =>
      by_cases e : y.key = k
      · simp [skipIt, e]
      · simp [skipIt, h, e]
theorem seenK_iff (seq : Nat) : ∀ (n : Nat) (pre : List Ent) (z : Ent), pre.length = n → (pre ++ [z]).Pairwise ltE → (seenK seq none pre = some z.key ↔ ∃ y, y ∈ pre ∧ y.key = z.key ∧ y.seq ≤ seq)
  | 0, pre, z, hn, _ => by
    obtain rfl := List.eq_nil_of_length_eq_zero hn
    simp [seenK]
  | n + 1, pre, z, hn, hp => by
    obtain ⟨p, y, rfl⟩ : ∃ p y, pre = p ++ [y] := ⟨pre.dropLast, pre.getLast (by intro e; rw [e] at hn; cases hn), (List.dropLast_concat_getLast _).symm⟩
    have hl : p.length = n := by simpa using hn
    have hpz : (p ++ [z]).Pairwise ltE := by
      refine hp.sublist ?_
      rw [List.append_assoc]
      exact List.Sublist.append_left (List.sublist_append_right _ _) _
    have hyz : ltE y z := by
      have := (List.pairwise_append.1 hp).2.2 y (by simp) z (by simp)
      exact this
    have ih := seenK_iff seq n p z hl hpz
    rw [seenK_snoc]
    by_cases h : seq < y.seq
    · rw [if_pos h, ih]
      constructor
      · rintro ⟨a, h1, h2⟩
        exact ⟨a, List.mem_append_left _ h1, h2⟩
      · rintro ⟨a, h1, h2, h3⟩
        rcases List.mem_append.1 h1 with h1 | h1
        · exact ⟨a, h1, h2, h3⟩
        · rw [List.mem_singleton.1 h1] at h3; omega
    · rw [if_neg h]
      constructor
      · intro e
        exact ⟨y, by simp, Option.some.inj e, by omega⟩
      · rintro ⟨a, h1, h2, h3⟩
        rcases List.mem_append.1 h1 with h1 | h1
        · have hay : ltE a y := by
            have := (List.pairwise_append.1 (List.pairwise_append.1 hp).1).2.2 a h1 y (by simp)
            exact this
          rw [key_mid hay hyz h2]
        · rw [← List.mem_singleton.1 h1, h2]
theorem seen_filter_from (seq : Nat) : ∀ (xs pre : List Ent), (pre ++ xs).Pairwise ltE → seenO seq (seenK seq none pre) xs = xs.filter (newest seq (pre ++ xs))
  | [], pre, _ => rfl
  | x :: r, pre, hp => by
    have hp1 : (pre ++ [x]).Pairwise ltE := hp.sublist (List.Sublist.append_left (by simp) _)
    have hk := seenK_iff seq pre.length pre x rfl hp1
    have e : pre ++ x :: r = (pre ++ [x]) ++ r := by simp
    have ih := seen_filter_from seq r (pre ++ [x]) (by rw [← e]; exact hp)
    rw [← e] at ih
    have hr : ∀ y, y ∈ r → ltE x y := fun y hy => by
      have := (List.pairwise_cons.1 (List.pairwise_append.1 hp).2.1).1 y hy
      exact this
    have hpre : ∀ y, y ∈ pre → ltE y x := fun y hy => (List.pairwise_append.1 hp).2.2 y hy x (by simp)
    have hany : (pre ++ x :: r).any (hides seq x) = true ↔ ∃ y, y ∈ pre ∧ y.key = x.key ∧ y.seq ≤ seq := by
      rw [List.any_eq_true]
      constructor
      · rintro ⟨y, h1, h2⟩
        simp only [hides, Bool.and_eq_true, decide_eq_true_eq] at h2
        rcases List.mem_append.1 h1 with h1 | h1
        · exact ⟨y, h1, h2.1.1, h2.1.2⟩
        · rcases List.mem_cons.1 h1 with rfl | h1
          · omega
          · have := ltE_seq (hr y h1) h2.1.1.symm
            omega
      · rintro ⟨y, h1, h2, h3⟩
        refine ⟨y, List.mem_append_left _ h1, ?_⟩
        simp only [hides, Bool.and_eq_true, decide_eq_true_eq]
        exact ⟨⟨h2, h3⟩, ltE_seq (hpre y h1) h2⟩
    have hskip : skipIt seq (seenK seq none pre) x = true ↔ seq < x.seq ∨ ∃ y, y ∈ pre ∧ y.key = x.key ∧ y.seq ≤ seq := by
      rw [← hk]
      unfold skipIt
      rw [Bool.or_eq_true, decide_eq_true_eq]
      cases h : seenK seq none pre with
      | none => simp
      | some k =>
        simp only [decide_eq_true_eq, Option.some.injEq]
        constructor
        · rintro (h | h)
          · exact .inl h
          · exact .inr h.symm
        · rintro (h | h)
          · exact .inl h
          · exact .inr h.symm
    rw [seenK_snoc] at ih
    simp only [seenO]
    by_cases hs : skipIt seq (seenK seq none pre) x = true
    · rw [if_pos hs]
      have hnew : newest seq (pre ++ x :: r) x = false := by
        rcases hskip.1 hs with h | h
        · simp [newest, show ¬ x.seq ≤ seq by omega]
        · simp [newest, hany.2 h]
      rw [List.filter_cons_of_neg (by rw [hnew]; simp)]
      rcases hskip.1 hs with h | h
      · rw [if_pos h] at ih
        exact ih
      · by_cases hq : seq < x.seq
        · rw [if_pos hq] at ih
          exact ih
        · rw [if_neg hq] at ih
          rw [← ih, hk.2 h]
    · rw [if_neg hs]
      have hq : ¬ seq < x.seq := fun h => hs (hskip.2 (.inl h))
      have hno : (pre ++ x :: r).any (hides seq x) = false := Bool.eq_false_iff.2 fun h => hs (hskip.2 (.inr (hany.1 h)))
      rw [if_neg hq] at ih
      by_cases hkd : x.kind = 1
      · rw [if_pos hkd, ih, List.filter_cons_of_pos]
        simp only [newest, hkd, hno, Bool.not_false, Bool.and_true, decide_true, decide_eq_true_eq]
        omega
      · rw [if_neg hkd, ih, List.filter_cons_of_neg]
        simp [newest, hkd]
theorem seen_filter (seq : Nat) (xs : List Ent) (h : xs.Pairwise ltE) : seenO seq none xs = xs.filter (newest seq xs) := seen_filter_from seq xs [] h
def rngE (fk tk : Ky) (x : Ent) : Bool := decide (0 ≤ cmpB x.key fk) && (tk.isEmpty || !decide (0 ≤ cmpB x.key tk))
theorem rng_E (fk tk : Ky) (x : Tow) : rng fk tk x = rngE fk tk x.e := rfl
theorem seen_rng (seq : Nat) (es : List Ent) (g : Ent → Bool) (hg : ∀ x y : Ent, x.key = y.key → g x = g y) (h : es.Pairwise ltE) : seenO seq none (es.filter g) = es.filter (fun x => newest seq es x && g x) := by
  rw [seen_filter seq _ (h.filter _), List.filter_filter]
  refine List.filter_congr fun x hx => ?_
  cases hgx : g x with
  | false => simp
  | true =>
    rw [Bool.and_true, Bool.and_true]
    unfold newest
    congr 2
    rw [Bool.eq_iff_iff, List.any_eq_true, List.any_eq_true]
    constructor
    · rintro ⟨y, h1, h2⟩
      exact ⟨y, (List.mem_filter.1 h1).1, h2⟩
    · rintro ⟨y, h1, h2⟩
      refine ⟨y, List.mem_filter.2 ⟨h1, ?_⟩, h2⟩
      simp only [hides, Bool.and_eq_true, decide_eq_true_eq] at h2
      rw [hg y x h2.1.1]
      exact hgx
/-- The one ahead hides, if any does. -/
theorem prev_hides {seq : Nat} {es : List Ent} (h : es.Pairwise ltE) {i : Nat} {x : Ent} (hx : es[i]? = some x) : es.any (hides seq x) = true ↔ ∃ p, 0 < i ∧ es[i - 1]? = some p ∧ p.key = x.key ∧ p.seq ≤ seq := by
  obtain ⟨hi, rfl⟩ := List.getElem?_eq_some_iff.1 hx
  have hp := List.pairwise_iff_getElem.1 h
  rw [List.any_eq_true]
  constructor
  · rintro ⟨y, h1, h2⟩
    simp only [hides, Bool.and_eq_true, decide_eq_true_eq] at h2
    obtain ⟨j, hj, rfl⟩ := List.getElem_of_mem h1
    have hji : j < i := by
      rcases Nat.lt_trichotomy j i with c | c | c
      · exact c
      · subst c; omega
      · have := ltE_seq (hp i j hi hj c) h2.1.1.symm
        omega
    refine ⟨es[i - 1], by omega, List.getElem?_eq_getElem (by omega), ?_⟩
    by_cases e : j = i - 1
    · subst e; exact h2.1
    · have q1 := hp j (i - 1) hj (by omega) (by omega)
      have q2 := hp (i - 1) i (by omega) hi (by omega)
      have q3 := key_mid q1 q2 h2.1.1
      have := ltE_seq q1 (h2.1.1.trans q3.symm)
      exact ⟨q3, by omega⟩
  · rintro ⟨p, h0, h1, h2, h3⟩
    obtain ⟨hj, rfl⟩ := List.getElem?_eq_some_iff.1 h1
    refine ⟨_, List.getElem_mem hj, ?_⟩
    simp only [hides, Bool.and_eq_true, decide_eq_true_eq]
    exact ⟨⟨h2, h3⟩, ltE_seq (hp (i - 1) i hj hi (by omega)) h2⟩
end Go.Proofs.Ytjnpendihdlgnaa
