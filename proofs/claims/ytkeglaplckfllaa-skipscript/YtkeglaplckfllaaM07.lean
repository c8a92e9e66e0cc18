import Derived.Test.YtkeglaplckfllaaM06
import Derived.Deep.RegionHeld
/-
  A table in memory: its towers, and how they are linked.
-/
namespace Go.Proofs.Ytkeglaplckfllaa
open Go.RowKit
set_option maxRecDepth 100000
set_option maxHeartbeats 4000000
structure Ent where
  key : List (BitVec 8)
  seq : Nat
  kind : Int
  val : List (BitVec 8)
def Ent.en (e : Ent) : En := (e.key, e.seq)
/-- A tower: its block, its entry and where that lies, its height. -/
structure Tow where
  b : Nat
  ka : Option Addr
  kc : Nat
  va : Option Addr
  vc : Nat
  e : Ent
  h : Nat
def Tow.kv (x : Tow) : Value := .slice x.ka x.e.key.length x.kc
def Tow.vv (x : Tow) : Value := .slice x.va x.e.val.length x.vc
def Tow.ent (x : Tow) : Array Value := #[x.kv, .int .u64 (x.e.seq : Nat), .int .i64 x.e.kind, x.vv]
def ptrO : Option Nat → Value
  | none => .pointer none
  | some b => .pointer (some ⟨b, 0, none⟩)
/-- The next tower of a level. -/
def nxt (l : Nat) (L : List Tow) : Option Nat := (L.find? (fun x => decide (l < x.h))).map (·.b)
/-- The places from the beginning (0) on. -/
def nodeB (bg : Nat) (ts : List Tow) : Nat → Nat
  | 0 => bg
  | k + 1 => ((ts[k]?).map (·.b)).getD 0
def nodeH (ts : List Tow) : Nat → Nat
  | 0 => 12
  | k + 1 => ((ts[k]?).map (·.h)).getD 0
theorem nodeB_at {bg : Nat} {ts : List Tow} {k : Nat} {x : Tow} (h : ts[k]? = some x) : nodeB bg ts (k + 1) = x.b := by
  show ((ts[k]?).map (·.b)).getD 0 = x.b
  rw [h]; rfl
theorem nodeH_at {ts : List Tow} {k : Nat} {x : Tow} (h : ts[k]? = some x) : nodeH ts (k + 1) = x.h := by
  show ((ts[k]?).map (·.h)).getD 0 = x.h
  rw [h]; rfl
/-- A tower's block: its height, what its levels point to, its entry. -/
structure NodeAt (w : World) (b h : Nat) (rm : Nat → Value) (cs : Array Value) : Prop where
  heap : w.heap[b]? = some (.cells cs 64 (0, 0))
  size : cs.size = 17
  height : cs[4]? = some (.int .i64 (h : Nat))
  room : ∀ l, l < h → cs[5 + l]? = some (rm l)
def entIn (cs : Array Value) (x : Tow) : Prop := cs[0]? = some x.kv ∧ cs[1]? = some (.int .u64 (x.e.seq : Nat)) ∧ cs[2]? = some (.int .i64 x.e.kind) ∧ cs[3]? = some x.vv
structure Nodes (w : World) (bg : Nat) (ts : List Tow) (rm : Nat → Nat → Value) : Prop where
  node : ∀ p, p ≤ ts.length → ∃ cs, NodeAt w (nodeB bg ts p) (nodeH ts p) (rm p) cs ∧ ∀ k x, p = k + 1 → ts[k]? = some x → entIn cs x
  inj : ∀ p p', p ≤ ts.length → p' ≤ ts.length → nodeB bg ts p = nodeB bg ts p' → p = p'
theorem NodeAt.keep {S : Nat → Prop} {w w' : World} {b h : Nat} {rm : Nat → Value} {cs : Array Value} (n : NodeAt w b h rm cs) (t : Turns S w w') (hb : ¬ S b) : NodeAt w' b h rm cs := ⟨t.heap n.heap hb, n.size, n.height, n.room⟩
theorem Nodes.keep {S : Nat → Prop} {w w' : World} {bg : Nat} {ts : List Tow} {rm : Nat → Nat → Value} (n : Nodes w bg ts rm) (t : Turns S w w') (hb : ∀ p, p ≤ ts.length → ¬ S (nodeB bg ts p)) : Nodes w' bg ts rm :=
  ⟨fun p hp => let ⟨cs, h1, h2⟩ := n.node p hp; ⟨cs, h1.keep t (hb p hp), h2⟩, n.inj⟩
theorem Nodes.congr {w : World} {bg : Nat} {ts : List Tow} {rm rm' : Nat → Nat → Value} (n : Nodes w bg ts rm) (h : ∀ p l, p ≤ ts.length → l < nodeH ts p → rm p l = rm' p l) : Nodes w bg ts rm' :=
  ⟨fun p hp => let ⟨cs, h1, h2⟩ := n.node p hp; ⟨cs, ⟨h1.heap, h1.size, h1.height, fun l hl => by rw [← h p l hp hl]; exact h1.room l hl⟩, h2⟩, n.inj⟩
/-- One place's level is set. -/
theorem Nodes.set {w : World} {bg : Nat} {ts : List Tow} {rm : Nat → Nat → Value} (n : Nodes w bg ts rm) (P l : Nat) (hP : P ≤ ts.length) (v : Value) :
    Nodes (w.setCell ⟨nodeB bg ts P, 5 + l, none⟩ v) bg ts (fun p m => if p = P ∧ m = l then v else rm p m) ∧ Turns (fun k => k = nodeB bg ts P) w (w.setCell ⟨nodeB bg ts P, 5 + l, none⟩ v) := by
  obtain ⟨cs, h1, h2⟩ := n.node P hP
  have tk := (Tick.refl h1.heap).set (5 + l) v
  have tt := Turns.of_tick tk
  refine ⟨⟨fun p hp => ?_, n.inj⟩, tt⟩
  by_cases e : p = P
  · subst e
    refine ⟨cs.setIfInBounds (5 + l) v, ⟨tk.1, by simpa using h1.size, ?_, fun m hm => ?_⟩, fun k x hk hx => ?_⟩
    · rw [Array.getElem?_setIfInBounds_ne (by omega)]; exact h1.height
    · by_cases e2 : m = l
      · subst e2
        have hb : 5 + m < cs.size := by
          have := h1.room m hm
          rcases Nat.lt_or_ge (5 + m) cs.size with h | h
          · exact h
          · rw [Array.getElem?_eq_none h] at this; cases this
        rw [if_pos ⟨rfl, rfl⟩, Array.getElem?_setIfInBounds_self_of_lt hb]
      · rw [if_neg (fun h => e2 h.2), Array.getElem?_setIfInBounds_ne (by omega)]
        exact h1.room m hm
    · obtain ⟨a, b, c, d⟩ := h2 k x hk hx
      exact ⟨by rw [Array.getElem?_setIfInBounds_ne (by omega)]; exact a, by rw [Array.getElem?_setIfInBounds_ne (by omega)]; exact b, by rw [Array.getElem?_setIfInBounds_ne (by omega)]; exact c, by rw [Array.getElem?_setIfInBounds_ne (by omega)]; exact d⟩
  · obtain ⟨cs', h3, h4⟩ := n.node p hp
    refine ⟨cs', ⟨tt.heap h3.heap (fun x => e (n.inj p P hp hP x)), h3.size, h3.height, fun m hm => ?_⟩, h4⟩
    rw [if_neg (fun h => e h.1)]
    exact h3.room m hm
def sizeT (ts : List Tow) : Nat := (ts.map fun x => x.e.key.length + x.e.val.length + 32).sum
/-- A block that a tower's bytes lie in. -/
def Tow.bytesIn (x : Tow) (q : Nat) : Prop := (∃ a : Addr, x.ka = some a ∧ a.block = q) ∨ ∃ a : Addr, x.va = some a ∧ a.block = q
/-- A table in memory: all its blocks are among A. -/
structure Tab (A : Nat → Prop) (w : World) (t bg : Nat) (ts : List Tow) : Prop where
  tab : w.heap[t]? = some (.cells #[.pointer (some ⟨bg, 0, none⟩), .int .i64 (ts.length : Nat), .int .i64 (sizeT ts : Nat)] 56 (0, 0))
  nodes : Nodes w bg ts (fun p l => ptrO (nxt l (ts.drop p)))
  sorted : ts.Pairwise (fun x y => cmpE x.e.en y.e.en < 0)
  tall : ∀ x, x ∈ ts → 1 ≤ x.h ∧ x.h ≤ 12
  keys : ∀ x, x ∈ ts → Bytes w x.kv x.e.key ∧ Bytes w x.vv x.e.val
  at_ : A t
  an : ∀ p, p ≤ ts.length → A (nodeB bg ts p)
  ak : ∀ x, x ∈ ts → ∀ q, x.bytesIn q → A q ∧ q < w.heap.size ∧ q ≠ t ∧ ∀ p, p ≤ ts.length → q ≠ nodeB bg ts p
section
variable {A : Nat → Prop} {w w' : World} {t bg : Nat} {ts : List Tow}
theorem Tab.node_lt (h : Tab A w t bg ts) {p : Nat} (hp : p ≤ ts.length) : nodeB bg ts p < w.heap.size := by
  obtain ⟨cs, h1, _⟩ := h.nodes.node p hp
  exact lt_of_heap h1.heap
theorem Tab.node_ne (h : Tab A w t bg ts) {p : Nat} (hp : p ≤ ts.length) : nodeB bg ts p ≠ t := fun e => by
  obtain ⟨cs, h1, _⟩ := h.nodes.node p hp
  have h2 := h1.heap
  rw [e, h.tab] at h2
  injection h2 with h2
  injection h2 with _ h3
  exact absurd h3 (by decide)
theorem bytes_keep {S : Nat → Prop} {a : Option Addr} {n c : Nat} {bs : List (BitVec 8)} (h : Bytes w (.slice a n c) bs) (tt : Turns S w w') (hS : ∀ x : Addr, a = some x → ¬ S x.block) : Bytes w' (.slice a n c) bs :=
  h.turns tt fun x n c e => by cases e; exact hS x rfl
theorem Tab.keep {S : Nat → Prop} (h : Tab A w t bg ts) (tt : Turns S w w') (hS : ∀ k, k < w.heap.size → A k → ¬ S k) : Tab A w' t bg ts where
  tab := tt.heap h.tab (hS _ (lt_of_heap h.tab) h.at_)
  nodes := h.nodes.keep tt fun p hp => hS _ (h.node_lt hp) (h.an p hp)
  sorted := h.sorted
  tall := h.tall
  keys := fun x hx => ⟨bytes_keep (h.keys x hx).1 tt fun a e => let q := h.ak x hx a.block (.inl ⟨a, e, rfl⟩); hS _ q.2.1 q.1, bytes_keep (h.keys x hx).2 tt fun a e => let q := h.ak x hx a.block (.inr ⟨a, e, rfl⟩); hS _ q.2.1 q.1⟩
  at_ := h.at_
  an := h.an
  ak := fun x hx q hq => let r := h.ak x hx q hq; ⟨r.1, Nat.lt_of_lt_of_le r.2.1 tt.size, r.2.2⟩
theorem Tab.quiet (h : Tab A w t bg ts) (tt : Turns (fun _ => False) w w') : Tab A w' t bg ts := h.keep tt fun _ _ _ x => x
theorem Tab.mono {A' : Nat → Prop} (h : Tab A w t bg ts) (hA : ∀ k, k < w.heap.size → A k → A' k) : Tab A' w t bg ts :=
  { h with
    at_ := hA _ (lt_of_heap h.tab) h.at_
    an := fun p hp => hA _ (h.node_lt hp) (h.an p hp)
    ak := fun x hx q hq => let r := h.ak x hx q hq; ⟨hA _ r.2.1 r.1, r.2⟩ }
theorem nodeH_le (h : Tab A w t bg ts) {p : Nat} (hp : p ≤ ts.length) : 1 ≤ nodeH ts p ∧ nodeH ts p ≤ 12 := by
  cases p with
  | zero => exact ⟨show 1 ≤ 12 by decide, Nat.le_refl 12⟩
  | succ k =>
    have hk : k < ts.length := by omega
    rw [nodeH_at (List.getElem?_eq_getElem hk)]
    exact h.tall _ (List.getElem_mem hk)
end
theorem levels_any (b h : Nat) (rm : Nat → Value) (cs : Array Value) (w : World) (hn : NodeAt w b h rm cs) (hh : h ≤ 12) :
    Calls Try.prog 52 #[.pointer (some ⟨b, 0, none⟩)] w fun e w' => e = .returned (.slice (some ⟨b, 5, none⟩) h 12) ∧ ∃ m, w' = w.drewN m := by
  have c4 : w.cell? ⟨b, 4, none⟩ = some (.int .i64 (h : Nat)) := (cell_of_row w b 4 cs 64 (0, 0) hn.heap).trans hn.height
  have i1 : (h : Int) ≤ 12 := by omega
  have i0 : (0 : Int) ≤ h := by omega
  clear hn
  go_enter Try.func52, Try.ntmps52
  go_wp2_with fail
  go_region_held (fun w' => w'.cell? ⟨b, 4, none⟩ = some (.int .i64 (h : Nat))) (first | (simp only [World.cell?_drew]; with_reducible exact c4)) (fail)
  go_wp2_with fail
  go_ret
  exact ⟨rfl, 1, rfl⟩
end Go.Proofs.Ytkeglaplckfllaa

/-
  How a place is looked for: plain mathematics.
-/
namespace Go.Proofs.Ytkeglaplckfllaa
theorem cmpE_lt {x y z : En} (h1 : cmpE x y < 0) (h2 : cmpE y z < 0) : cmpE x z < 0 := by
  have h3 := cmpE_trans x y z (by omega) (by omega)
  rcases Int.lt_or_eq_of_le h3 with h | h
  · exact h
  · have h4 := (cmpE_zero x z).1 h
    have h5 : x = z := Prod.ext h4.1 h4.2
    rw [← h5, cmpE_swap x y] at h2
    omega
/-- How many entries are ahead of one. -/
def place (s : En) : List Tow → Nat
  | [] => 0
  | x :: r => if cmpE x.e.en s < 0 then place s r + 1 else 0
theorem place_le (s : En) : ∀ ts : List Tow, place s ts ≤ ts.length
  | [] => Nat.le_refl _
  | x :: r => by
    unfold place
    have := place_le s r
    split
    · rw [List.length_cons]; omega
    · exact Nat.zero_le _
theorem place_iff (s : En) : ∀ ts : List Tow, ts.Pairwise (fun x y => cmpE x.e.en y.e.en < 0) → ∀ k x, ts[k]? = some x → (k < place s ts ↔ cmpE x.e.en s < 0)
  | [], _, k, x, h => by simp at h
  | y :: r, hs, k, x, h => by
    obtain ⟨h1, h2⟩ := List.pairwise_cons.1 hs
    unfold place
    by_cases hy : cmpE y.e.en s < 0
    · rw [if_pos hy]
      cases k with
      | zero =>
        obtain rfl : y = x := by simpa using h
        exact ⟨fun _ => hy, fun _ => by omega⟩
      | succ k =>
        have := place_iff s r h2 k x (by simpa using h)
        rw [← this]
        omega
    · rw [if_neg hy]
      refine ⟨fun h => by omega, fun hx => ?_⟩
      cases k with
      | zero =>
        obtain rfl : y = x := by simpa using h
        exact absurd hx hy
      | succ k =>
        have hm : x ∈ r := List.mem_of_getElem? (by simpa using h)
        exact absurd (cmpE_lt (h1 x hm) hx) hy
/-- What a level goes by: how far, in how many steps. -/
def pass (l : Nat) : List Nat → Nat × Nat
  | [] => (0, 0)
  | h :: r => if l < h then ((pass l r).1 + 1, (pass l r).2 + 1) else if 0 < (pass l r).2 then ((pass l r).1 + 1, (pass l r).2) else (0, 0)
theorem pass_none (l : Nat) : ∀ L : List Nat, (∀ h, h ∈ L → ¬ l < h) → pass l L = (0, 0)
  | [], _ => rfl
  | h :: r, H => by
    have h1 := pass_none l r (fun x hx => H x (by simp [hx]))
    unfold pass
    rw [if_neg (H h (by simp)), h1]
    rfl
theorem pass_found (l : Nat) (h : Nat) (r : List Nat) (hl : l < h) : ∀ low : List Nat, (∀ x, x ∈ low → ¬ l < x) → pass l (low ++ h :: r) = (low.length + 1 + (pass l r).1, (pass l r).2 + 1)
  | [], _ => by
    show (if l < h then ((pass l r).1 + 1, (pass l r).2 + 1) else if 0 < (pass l r).2 then ((pass l r).1 + 1, (pass l r).2) else (0, 0)) = _
    rw [if_pos hl]
    exact Prod.ext (by show (pass l r).1 + 1 = 0 + 1 + (pass l r).1; omega) rfl
  | y :: low, H => by
    have h1 := pass_found l h r hl low (fun x hx => H x (by simp [hx]))
    show (if l < y then ((pass l (low ++ h :: r)).1 + 1, (pass l (low ++ h :: r)).2 + 1) else if 0 < (pass l (low ++ h :: r)).2 then ((pass l (low ++ h :: r)).1 + 1, (pass l (low ++ h :: r)).2) else (0, 0)) = _
    rw [if_neg (H y (by simp)), h1, if_pos (show 0 < (pass l r).2 + 1 by omega)]
    exact Prod.ext (by show low.length + 1 + (pass l r).1 + 1 = (low.length + 1) + 1 + (pass l r).1; omega) rfl
theorem pass_le (l : Nat) : ∀ L : List Nat, (pass l L).1 ≤ L.length ∧ (pass l L).2 ≤ (pass l L).1
  | [] => ⟨Nat.le_refl _, Nat.le_refl _⟩
  | h :: r => by
    have := pass_le l r
    unfold pass
    rw [List.length_cons]
    split
    · exact ⟨by show _ + 1 ≤ _; omega, by show _ + 1 ≤ _ + 1; omega⟩
    · split
      · exact ⟨by show _ + 1 ≤ _; omega, by show _ ≤ _ + 1; omega⟩
      · exact ⟨Nat.zero_le _, Nat.zero_le _⟩
/-- How many steps it takes from a level down. -/
def walk : Nat → List Nat → Nat
  | 0, _ => 0
  | l + 1, L => (pass l L).2 + 1 + walk l (L.drop (pass l L).1)
theorem walk_le : ∀ (l : Nat) (L : List Nat), walk l L ≤ L.length + l
  | 0, L => Nat.zero_le _
  | l + 1, L => by
    have h1 := pass_le l L
    have h2 := walk_le l (L.drop (pass l L).1)
    rw [List.length_drop] at h2
    show (pass l L).2 + 1 + walk l (L.drop (pass l L).1) ≤ L.length + (l + 1)
    omega
/-- The heights of the towers between a place and the one that is looked for. -/
def seg (ts : List Tow) (n p : Nat) : List Nat := ((ts.take n).drop p).map (·.h)
theorem seg_drop (ts : List Tow) (n p a : Nat) : (seg ts n p).drop a = seg ts n (p + a) := by
  unfold seg
  rw [← List.map_drop, List.drop_drop]
/-- The next tower of a level, and which it is. -/
theorem nxt_cases (l : Nat) (ts : List Tow) (p : Nat) : (nxt l (ts.drop p) = none ∧ ∀ j x, p ≤ j → ts[j]? = some x → ¬ l < x.h) ∨ ∃ j x, p ≤ j ∧ ts[j]? = some x ∧ l < x.h ∧ nxt l (ts.drop p) = some x.b ∧ ∀ i y, p ≤ i → i < j → ts[i]? = some y → ¬ l < y.h := by
  unfold nxt
  cases e : (ts.drop p).find? (fun x => decide (l < x.h)) with
  | none =>
    refine .inl ⟨rfl, fun j x hj hx hl => ?_⟩
    have h1 := List.find?_eq_none.1 e x (List.mem_iff_getElem?.2 ⟨j - p, by rw [List.getElem?_drop, show p + (j - p) = j by omega]; exact hx⟩)
    simp [hl] at h1
  | some x =>
    obtain ⟨h1, us, vs, h2, h3⟩ := List.find?_eq_some_iff_append.1 e
    have hat : ∀ i, ts[p + i]? = (us ++ x :: vs)[i]? := fun i => by rw [← h2, List.getElem?_drop]
    refine .inr ⟨p + us.length, x, by omega, by rw [hat]; simp, by simpa using h1, rfl, fun i y hi hj hy => ?_⟩
    have h4 : (us ++ x :: vs)[i - p]? = some y := by rw [← hat, show p + (i - p) = i by omega]; exact hy
    rw [List.getElem?_append_left (by omega)] at h4
    have := h3 y (List.mem_of_getElem? h4)
    simpa using this
/-- Behind the place that a level goes on to. -/
theorem seg_none {ts : List Tow} {n p l : Nat} (h : ∀ j x, p ≤ j → j < n → ts[j]? = some x → ¬ l < x.h) : pass l (seg ts n p) = (0, 0) := by
  refine pass_none l _ fun y hy => ?_
  obtain ⟨x, hx, rfl⟩ := List.mem_map.1 hy
  obtain ⟨i, hi⟩ := List.mem_iff_getElem?.1 hx
  rw [List.getElem?_drop, List.getElem?_take] at hi
  split at hi
  · exact h _ x (by omega) (by assumption) hi
  · cases hi
theorem seg_found {ts : List Tow} {n p l j : Nat} {x : Tow} (hp : p ≤ j) (hj : j < n) (hx : ts[j]? = some x) (hl : l < x.h) (h : ∀ i y, p ≤ i → i < j → ts[i]? = some y → ¬ l < y.h) : pass l (seg ts n p) = (j - p + 1 + (pass l (seg ts n (j + 1))).1, (pass l (seg ts n (j + 1))).2 + 1) := by
  have hjl : j < ts.length := (List.getElem?_eq_some_iff.1 hx).1
  have hsplit : seg ts n p = ((ts.take j).drop p).map (·.h) ++ x.h :: seg ts n (j + 1) := by
    unfold seg
    have h1 : (ts.take n).drop p = (ts.take j).drop p ++ x :: (ts.take n).drop (j + 1) := by
      refine List.ext_getElem? fun i => ?_
      rw [List.getElem?_drop, List.getElem?_take]
      rcases Nat.lt_trichotomy (p + i) j with h1 | h1 | h1
      · rw [List.getElem?_append_left (by simp; omega), List.getElem?_drop, List.getElem?_take, if_pos h1, if_pos (by omega)]
      · rw [List.getElem?_append_right (by simp; omega), if_pos (by omega), h1, hx]
        have : i - ((ts.take j).drop p).length = 0 := by simp; omega
        rw [this]; rfl
      · rw [List.getElem?_append_right (by simp; omega)]
        obtain ⟨m, hm⟩ : ∃ m, i - ((ts.take j).drop p).length = m + 1 := ⟨i - ((ts.take j).drop p).length - 1, by simp; omega⟩
        rw [hm, List.getElem?_cons_succ, List.getElem?_drop, List.getElem?_take]
        have : j + 1 + m = p + i := by simp at hm; omega
        rw [this]
    rw [h1, List.map_append, List.map_cons]
  rw [hsplit, pass_found l x.h _ hl _ (fun y hy => ?_)]
  · simp
    omega
  · obtain ⟨z, hz, rfl⟩ := List.mem_map.1 hy
    obtain ⟨i, hi⟩ := List.mem_iff_getElem?.1 hz
    rw [List.getElem?_drop, List.getElem?_take] at hi
    split at hi
    · exact h _ z (by omega) (by assumption) hi
    · cases hi
end Go.Proofs.Ytkeglaplckfllaa
