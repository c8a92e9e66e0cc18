import Derived.Test.YtkeglaplckfllaaM08
/-
  A tower is raised.
-/
namespace Go.Proofs.Ytkeglaplckfllaa
open Go.RowKit
set_option maxRecDepth 100000
set_option maxHeartbeats 4000000
/-- Where on each level the tower goes. -/
structure Spots (bg : Nat) (ts : List Tow) (n : Nat) (cs : Array Value) (Pf : Nat → Nat) : Prop where
  cell : ∀ m, m < 12 → cs[4 + m]? = some (.pointer (some ⟨nodeB bg ts (Pf m), 0, none⟩))
  le : ∀ m, m < 12 → Pf m ≤ n
  tall : ∀ m, m < 12 → m < nodeH ts (Pf m)
  none : ∀ m, m < 12 → ∀ j x, Pf m ≤ j → j < n → ts[j]? = some x → ¬ m < x.h
theorem PathIn.spots {bg : Nat} {ts : List Tow} {n : Nat} {kv : Value} {seq s : Nat} {cs : Array Value} (h : PathIn bg ts n kv seq 0 s cs) : ∃ Pf, Spots bg ts n cs Pf := by
  have each : ∀ m, ∃ P, m < 12 → cs[4 + m]? = some (.pointer (some ⟨nodeB bg ts P, 0, none⟩)) ∧ P ≤ n ∧ m < nodeH ts P ∧ ∀ j x, P ≤ j → j < n → ts[j]? = some x → ¬ m < x.h := fun m => by
    by_cases hm : m < 12
    · obtain ⟨v, hv, P, rfl, h1, h2, h3⟩ := h.ahead m (Nat.zero_le _) hm
      exact ⟨P, fun _ => ⟨hv, h1, h2, h3⟩⟩
    · exact ⟨0, fun e => absurd e hm⟩
  obtain ⟨Pf, hPf⟩ := Classical.axiomOfChoice each
  exact ⟨Pf, fun m hm => (hPf m hm).1, fun m hm => (hPf m hm).2.1, fun m hm => (hPf m hm).2.2.1, fun m hm => (hPf m hm).2.2.2⟩
theorem NodeAt.set {w : World} {b h : Nat} {rm : Nat → Value} {cs : Array Value} (n : NodeAt w b h rm cs) (l : Nat) (hl : l < h) (v : Value) :
    NodeAt (w.setCell ⟨b, 5 + l, none⟩ v) b h (fun m => if m = l then v else rm m) (cs.setIfInBounds (5 + l) v) ∧ Turns (fun k => k = b) w (w.setCell ⟨b, 5 + l, none⟩ v) := by
  have tk := (Tick.refl n.heap).set (5 + l) v
  refine ⟨⟨tk.1, by simpa using n.size, ?_, fun m hm => ?_⟩, Turns.of_tick tk⟩
  · rw [Array.getElem?_setIfInBounds_ne (by omega)]; exact n.height
  · by_cases e : m = l
    · subst e
      have hb : 5 + m < cs.size := by
        have := n.room m hm
        rcases Nat.lt_or_ge (5 + m) cs.size with h | h
        · exact h
        · rw [Array.getElem?_eq_none h] at this; cases this
      rw [if_pos rfl, Array.getElem?_setIfInBounds_self_of_lt hb]
    · rw [if_neg e, Array.getElem?_setIfInBounds_ne (by omega)]
      exact n.room m hm
def rm0 (ts : List Tow) (p l : Nat) : Value := ptrO (nxt l (ts.drop p))
def rmTo (ts : List Tow) (Pf : Nat → Nat) (nb k p l : Nat) : Value := if l < k ∧ p = Pf l then .pointer (some ⟨nb, 0, none⟩) else rm0 ts p l
def rnTo (ts : List Tow) (Pf : Nat → Nat) (rmn : Nat → Value) (k l : Nat) : Value := if l < k then rm0 ts (Pf l) l else rmn l
/-- In the midst of a tower's raising. -/
structure Mid (bg : Nat) (ts : List Tow) (Pf : Nat → Nat) (nb h : Nat) (rmn : Nat → Value) (x : Tow) (g : Nat) (cs : Array Value) (w : World) (k : Nat) (wr : World) : Prop where
  nodes : Nodes wr bg ts (rmTo ts Pf nb k)
  own : ∃ cn, NodeAt wr nb h (rnTo ts Pf rmn k) cn ∧ entIn cn x
  box : wr.heap[g]? = some (.cells cs 67 (0, 0))
  turns : Turns (fun j => j = nb ∨ ∃ p, p ≤ ts.length ∧ j = nodeB bg ts p) w wr
theorem Mid.drew {bg : Nat} {ts : List Tow} {Pf : Nat → Nat} {nb h : Nat} {rmn : Nat → Value} {x : Tow} {g : Nat} {cs : Array Value} {w : World} {k : Nat} {wr : World} (M : Mid bg ts Pf nb h rmn x g cs w k wr) (m : Nat) : Mid bg ts Pf nb h rmn x g cs w k (wr.drewN m) :=
  ⟨M.nodes.keep ((Turns.refl (fun _ => False) wr).drewN m) (fun _ _ x => x), let ⟨cn, h1, h2⟩ := M.own; ⟨cn, h1.keep ((Turns.refl (fun _ => False) wr).drewN m) (fun x => x), h2⟩, M.box, M.turns.drewN m⟩
theorem raise_any (bg : Nat) (ts : List Tow) (n : Nat) (Pf : Nat → Nat) (nb h : Nat) (rmn : Nat → Value) (cn : Array Value) (x : Tow) (cs : Array Value) (w : World) (hN : Nodes w bg ts (rm0 ts)) (hS : Spots bg ts n cs Pf) (hn : n ≤ ts.length) (hlen : ∀ p, p ≤ ts.length → nodeH ts p ≤ 12) (hb : NodeAt w nb h rmn cn) (hx : entIn cn x) (hh : h ≤ 12) (hne : ∀ p, p ≤ ts.length → nb ≠ nodeB bg ts p) :
    Calls Try.prog 39 #[.agg cs, .pointer (some ⟨nb, 0, none⟩)] w fun e w' => (∃ v, e = .returned v) ∧ Nodes w' bg ts (rmTo ts Pf nb h) ∧ (∃ cn', NodeAt w' nb h (rnTo ts Pf rmn h) cn' ∧ entIn cn' x) ∧ Turns (fun j => j = nb ∨ ∃ p, p ≤ ts.length ∧ j = nodeB bg ts p) w w' := by
  have T0 := hide ((Turns.refl (fun _ => False) w).alloc (.cells cs 67))
  have hlt : nb < w.heap.size := lt_of_heap hb.heap
  have hM : Mid bg ts Pf nb h rmn x w.heap.size cs w 0 (w.alloc (.cells cs 67)) := by
    refine ⟨(hN.keep T0.out (fun _ _ x => x)).congr fun p l _ _ => ?_, ⟨cn, ?_, hx⟩, heap_alloc_new w _, T0.out.mono fun _ _ x => x.elim⟩
    · unfold rmTo; rw [if_neg (fun h => by omega)]
    · have h1 := hb.keep T0.out (fun x => x)
      exact ⟨h1.heap, h1.size, h1.height, fun l hl => by unfold rnTo; rw [if_neg (by omega)]; exact h1.room l hl⟩
  have HM := hide hM
  have HGL := hide (show ∀ p, p ≤ ts.length → nodeB bg ts p < w.heap.size from fun p hp => by
    obtain ⟨c, h1, _⟩ := hN.node p hp
    exact lt_of_heap h1.heap)
  have HBN := hide (hb.keep T0.out (fun x => x))
  have HNE := hide hne
  have HS := hide hS
  have HLN := hide hlen
  have HLT := hide hlt
  clear hM hN hb hne hS hlen hx hlt
  go_enter Try.func39, Try.ntmps39
  go_upto_region 1 with (fail)
  generalize hw0 : w.alloc (.cells cs 67) = w0 at *
  have HW0 := hide (show w0.heap.size = w.heap.size + 1 by rw [← hw0]; simp)
  clear hw0
  generalize hg0 : w.heap.size = g at *
  go_wp2_with (go_at_call 52; refine (levels_any _ _ _ _ _ HBN.out hh).mono ?_; rintro e w1 ⟨rfl, m1, rfl⟩)
  have HM1 := hide (show Mid bg ts Pf nb h rmn x g cs w 0 (w0.drewN m1) from HM.out.drew m1)
  clear HM HBN
  generalize w0.drewN m1 = w2 at *
  go_loopw [11] (fun iv wr => ∃ k : Nat, iv = .int .i64 (k : Nat) ∧ k ≤ h ∧ Mid bg ts Pf nb h rmn x g cs w k wr) (fun iv _ => h - (intOf iv).toNat)
  case atStart => exact ⟨0, rfl, by omega, HM1.out⟩
  case round =>
    obtain ⟨k, rfl, hk, hm⟩ := hrel
    have MM := hide hm
    clear hm
    by_cases hk2 : k < h
    · have i1 : (k : Int) < h := by omega
      have i12 : (k : Int) < 12 := by omega
      have hk12 : k < 12 := by omega
      have c1 : wr.cell? ⟨g, 4 + k, none⟩ = some (.pointer (some ⟨nodeB bg ts (Pf k), 0, none⟩)) := (cell_of_row wr g (4 + k) cs 67 (0, 0) MM.out.box).trans (HS.out.cell k hk12)
      have hPl : Pf k ≤ ts.length := Nat.le_trans (HS.out.le k hk12) hn
      obtain ⟨cp, hnp, _⟩ := MM.out.nodes.node (Pf k) hPl
      have HNP := hide hnp
      have hH := HLN.out (Pf k) hPl
      have htall := HS.out.tall k hk12
      have i2 : (k : Int) < nodeH ts (Pf k) := by omega
      have d1 : wr.cell? ⟨nodeB bg ts (Pf k), 5 + k, none⟩ = some (rm0 ts (Pf k) k) := by
        rw [cell_of_row wr _ (5 + k) cp 64 (0, 0) hnp.heap, hnp.room k htall]
        unfold rmTo
        rw [if_neg (fun h => by omega)]
      have d2 : wr.frozen? ⟨nodeB bg ts (Pf k), 5 + k, none⟩ = false := frozen_of_row wr _ (5 + k) cp 64 hnp.heap
      obtain ⟨cm, hnm, hem⟩ := MM.out.own
      have HNM := hide hnm
      have HEM := hide hem
      have e1 : wr.cell? ⟨nb, 5 + k, none⟩ = some (rnTo ts Pf rmn k k) := by
        rw [cell_of_row wr _ (5 + k) cm 64 (0, 0) hnm.heap, hnm.room k hk2]
      have e2 : wr.frozen? ⟨nb, 5 + k, none⟩ = false := frozen_of_row wr _ (5 + k) cm 64 hnm.heap
      have hbn := HNE.out (Pf k) hPl
      have hbn' : nodeB bg ts (Pf k) ≠ nb := fun e => hbn e.symm
      clear hnp hnm hem
      obtain ⟨q, hrv⟩ : ∃ q, rm0 ts (Pf k) k = .pointer q := by
        unfold rm0
        cases nxt k (ts.drop (Pf k)) with
        | none => exact ⟨_, rfl⟩
        | some b => exact ⟨_, rfl⟩
      rw [hrv] at d1
      have HRV := hide hrv
      clear hrv
      go_wp2_with (go_at_call 52; refine (levels_any _ _ _ _ _ HNP.out hH).mono ?_; rintro e w3 ⟨rfl, m3, rfl⟩)
      have n1 := HNM.out.keep ((Turns.refl (fun _ => False) wr).drewN m3) (fun x => x)
      have s1 := n1.set k hk2 (.pointer q)
      have N1 := (MM.out.drew m3).nodes.keep s1.2 (fun p hp e => HNE.out p hp e.symm)
      have s2 := N1.set (Pf k) k hPl (.pointer (some ⟨nb, 0, none⟩))
      have S1 := hide s1
      have S2 := hide s2
      clear s1 s2 n1 N1
      go_roundw
      case rel =>
        refine ⟨k + 1, by go_num, by omega, ⟨S2.out.1.congr fun p l _ _ => ?_, ?_, ?_, ?_⟩⟩
        · unfold rmTo
          by_cases e : p = Pf k ∧ l = k
          · rw [if_pos e, if_pos ⟨by omega, by rw [e.2]; exact e.1⟩]
          · rw [if_neg e]
            by_cases e2 : l < k ∧ p = Pf l
            · rw [if_pos e2, if_pos ⟨by omega, e2.2⟩]
            · rw [if_neg e2, if_neg]
              rintro ⟨h1, h2⟩
              rcases Nat.lt_or_ge l k with h3 | h3
              · exact e2 ⟨h3, h2⟩
              · have : l = k := by omega
                subst this
                exact e ⟨h2, rfl⟩
        · have h3 := S1.out.1.keep S2.out.2 hbn
          refine ⟨_, ⟨h3.heap, h3.size, h3.height, fun l hl => (h3.room l hl).trans ?_⟩, ?_⟩
          · unfold rnTo
            by_cases e : l = k
            · subst e
              rw [if_pos rfl, if_pos (by omega), HRV.out]
            · by_cases e2 : l < k
              · rw [if_neg e, if_pos e2, if_pos (by omega)]
              · rw [if_neg e, if_neg e2, if_neg (by omega)]
          · obtain ⟨a, b, c, d⟩ := HEM.out
            exact ⟨by rw [Array.getElem?_setIfInBounds_ne (by omega)]; exact a, by rw [Array.getElem?_setIfInBounds_ne (by omega)]; exact b, by rw [Array.getElem?_setIfInBounds_ne (by omega)]; exact c, by rw [Array.getElem?_setIfInBounds_ne (by omega)]; exact d⟩
        · have hgl := HGL.out (Pf k) hPl
          have hlt := HLT.out
          exact S2.out.2.heap (S1.out.2.heap (MM.out.drew m3).box (by show ¬ g = nb; omega)) (by show ¬ g = _; omega)
        · exact ((MM.out.drew m3).turns.trans (S1.out.2.mono fun j _ e => .inl e)).trans (S2.out.2.mono fun j _ e => .inr ⟨Pf k, hPl, e⟩)
      case measure =>
        simp [intOf]
        omega
    · have i1 : ¬ (k : Int) < h := by omega
      have hkh : k = h := by omega
      have HKH := hide hkh
      clear hkh
      go_wp2_with fail
      go_end0
      have MF := MM.out
      rw [HKH.out] at MF
      exact ⟨⟨_, rfl⟩, MF.nodes, MF.own, MF.turns⟩
end Go.Proofs.Ytkeglaplckfllaa

/-
  A tower among the others: plain mathematics, and the table behind it.
-/
namespace Go.Proofs.Ytkeglaplckfllaa
open Go.RowKit
def ins (ts : List Tow) (n : Nat) (x : Tow) : List Tow := ts.take n ++ x :: ts.drop n
section
variable {ts : List Tow} {n : Nat} {x : Tow}
theorem ins_length (hn : n ≤ ts.length) : (ins ts n x).length = ts.length + 1 := by
  unfold ins
  rw [List.length_append, List.length_take, List.length_cons, List.length_drop]
  omega
theorem ins_lt (hn : n ≤ ts.length) {k : Nat} (hk : k < n) : (ins ts n x)[k]? = ts[k]? := by
  unfold ins
  rw [List.getElem?_append_left (by rw [List.length_take]; omega), List.getElem?_take, if_pos hk]
theorem ins_at (hn : n ≤ ts.length) : (ins ts n x)[n]? = some x := by
  unfold ins
  rw [List.getElem?_append_right (by rw [List.length_take]; omega), List.length_take, Nat.min_eq_left hn, Nat.sub_self]
  rfl
theorem ins_gt (hn : n ≤ ts.length) {k : Nat} (hk : n ≤ k) : (ins ts n x)[k + 1]? = ts[k]? := by
  unfold ins
  rw [List.getElem?_append_right (by rw [List.length_take]; omega), List.length_take, Nat.min_eq_left hn, show k + 1 - n = (k - n) + 1 by omega, List.getElem?_cons_succ, List.getElem?_drop, show n + (k - n) = k by omega]
theorem ins_mem {y : Tow} : y ∈ ins ts n x ↔ y = x ∨ y ∈ ts := by
  unfold ins
  rw [List.mem_append, List.mem_cons]
  constructor
  · rintro (h | h | h)
    · exact .inr (List.mem_of_mem_take h)
    · exact .inl h
    · exact .inr (List.mem_of_mem_drop h)
  · rintro (h | h)
    · exact .inr (.inl h)
    · rw [← List.take_append_drop n ts, List.mem_append] at h
      rcases h with h | h
      · exact .inl h
      · exact .inr (.inr h)
theorem ins_drop_le (hn : n ≤ ts.length) {p : Nat} (hp : p ≤ n) : (ins ts n x).drop p = (ts.take n).drop p ++ x :: ts.drop n := by
  unfold ins
  rw [List.drop_append_of_le_length (by rw [List.length_take]; omega)]
theorem drop_split (hn : n ≤ ts.length) {p : Nat} (hp : p ≤ n) : ts.drop p = (ts.take n).drop p ++ ts.drop n := by
  rw [← List.drop_append_of_le_length (by rw [List.length_take]; omega), List.take_append_drop]
theorem ins_drop_gt (hn : n ≤ ts.length) {p : Nat} (hp : n ≤ p) : (ins ts n x).drop (p + 1) = ts.drop p := by
  refine List.ext_getElem? fun i => ?_
  rw [List.getElem?_drop, List.getElem?_drop, show p + 1 + i = (p + i) + 1 by omega, ins_gt hn (by omega)]
theorem nodeB_ins {bg : Nat} (hn : n ≤ ts.length) (p : Nat) : nodeB bg (ins ts n x) p = if p ≤ n then nodeB bg ts p else if p = n + 1 then x.b else nodeB bg ts (p - 1) := by
  cases p with
  | zero => rw [if_pos (Nat.zero_le _)]; rfl
  | succ k =>
    show (((ins ts n x)[k]?).map (·.b)).getD 0 = _
    rcases Nat.lt_trichotomy k n with h | h | h
    · rw [if_pos (by omega), ins_lt hn h]; rfl
    · rw [if_neg (by omega), if_pos (by omega), h, ins_at hn]; rfl
    · rw [if_neg (by omega), if_neg (by omega)]
      obtain ⟨j, rfl⟩ : ∃ j, k = j + 1 := ⟨k - 1, by omega⟩
      rw [ins_gt hn (by omega)]
      rfl
theorem nodeH_ins (hn : n ≤ ts.length) (p : Nat) : nodeH (ins ts n x) p = if p ≤ n then nodeH ts p else if p = n + 1 then x.h else nodeH ts (p - 1) := by
  cases p with
  | zero => rw [if_pos (Nat.zero_le _)]; rfl
  | succ k =>
    show (((ins ts n x)[k]?).map (·.h)).getD 0 = _
    rcases Nat.lt_trichotomy k n with h | h | h
    · rw [if_pos (by omega), ins_lt hn h]; rfl
    · rw [if_neg (by omega), if_pos (by omega), h, ins_at hn]; rfl
    · rw [if_neg (by omega), if_neg (by omega)]
      obtain ⟨j, rfl⟩ : ∃ j, k = j + 1 := ⟨k - 1, by omega⟩
      rw [ins_gt hn (by omega)]
      rfl
theorem mid_none {p l : Nat} (h : ∀ j y, p ≤ j → j < n → ts[j]? = some y → ¬ l < y.h) : ((ts.take n).drop p).find? (fun y => decide (l < y.h)) = none := by
  refine List.find?_eq_none.2 fun y hy => ?_
  obtain ⟨i, hi⟩ := List.mem_iff_getElem?.1 hy
  rw [List.getElem?_drop, List.getElem?_take] at hi
  split at hi
  · simpa using h _ y (by omega) (by assumption) hi
  · cases hi
theorem nxt_skip (hn : n ≤ ts.length) {p l : Nat} (hp : p ≤ n) (h : ∀ j y, p ≤ j → j < n → ts[j]? = some y → ¬ l < y.h) : nxt l (ts.drop p) = nxt l (ts.drop n) := by
  unfold nxt
  rw [drop_split hn hp, List.find?_append, mid_none h, Option.none_or]
theorem nxt_ins_skip (hn : n ≤ ts.length) {p l : Nat} (hp : p ≤ n) (h : ∀ j y, p ≤ j → j < n → ts[j]? = some y → ¬ l < y.h) : nxt l ((ins ts n x).drop p) = if l < x.h then some x.b else nxt l (ts.drop n) := by
  unfold nxt
  rw [ins_drop_le hn hp, List.find?_append, mid_none h, Option.none_or, List.find?_cons]
  by_cases e : l < x.h
  · simp [e]
  · simp [e]
theorem nxt_ins_found (hn : n ≤ ts.length) {p l : Nat} (hp : p ≤ n) (h : ¬ ∀ j y, p ≤ j → j < n → ts[j]? = some y → ¬ l < y.h) : nxt l ((ins ts n x).drop p) = nxt l (ts.drop p) := by
  unfold nxt
  rw [ins_drop_le hn hp, drop_split hn hp, List.find?_append, List.find?_append]
  cases e : ((ts.take n).drop p).find? (fun y => decide (l < y.h)) with
  | none =>
    refine absurd (fun j y h1 h2 h3 => ?_) h
    have := List.find?_eq_none.1 e y (List.mem_iff_getElem?.2 ⟨j - p, by rw [List.getElem?_drop, List.getElem?_take, if_pos (by omega), show p + (j - p) = j by omega]; exact h3⟩)
    simpa using this
  | some y => rfl
/-- On a level there is one last place ahead. -/
theorem spot_one {P Q l : Nat} (hn : n ≤ ts.length) (hP : P ≤ n) (hQ : Q ≤ n) (h1 : l < nodeH ts P) (h2 : l < nodeH ts Q) (n1 : ∀ j y, P ≤ j → j < n → ts[j]? = some y → ¬ l < y.h) (n2 : ∀ j y, Q ≤ j → j < n → ts[j]? = some y → ¬ l < y.h) : P = Q := by
  have key : ∀ {P Q : Nat}, P < Q → Q ≤ n → l < nodeH ts Q → (∀ j y, P ≤ j → j < n → ts[j]? = some y → ¬ l < y.h) → False := fun {P Q} hl hQ h2 n1 => by
    obtain ⟨k, rfl⟩ : ∃ k, Q = k + 1 := ⟨Q - 1, by omega⟩
    have hk : k < ts.length := by omega
    have e := List.getElem?_eq_getElem hk
    rw [nodeH_at e] at h2
    exact n1 k _ (by omega) (by omega) e h2
  rcases Nat.lt_trichotomy P Q with h | h | h
  · exact (key h hQ h2 n1).elim
  · exact h
  · exact (key h hP h1 n2).elim
theorem sizeT_ins : sizeT (ins ts n x) = sizeT ts + (x.e.key.length + x.e.val.length + 32) := by
  unfold ins sizeT
  have h := congrArg (fun l : List Tow => (l.map fun y => y.e.key.length + y.e.val.length + 32).sum) (List.take_append_drop n ts)
  simp only [List.map_append, List.sum_append] at h
  rw [List.map_append, List.sum_append, List.map_cons, List.sum_cons]
  omega
theorem sorted_ins {s : En} (hx : x.e.en = s) (hs : ts.Pairwise (fun x y => cmpE x.e.en y.e.en < 0)) (hn : n = place s ts) (hno : ∀ y, ts[n]? = some y → cmpE y.e.en s ≠ 0) : (ins ts n x).Pairwise (fun x y => cmpE x.e.en y.e.en < 0) := by
  have hiff := place_iff s ts hs
  have hle := place_le s ts
  rw [← hn] at hiff hle
  unfold ins
  have hsplit := hs
  rw [← List.take_append_drop n ts, List.pairwise_append] at hsplit
  obtain ⟨p1, p2, p3⟩ := hsplit
  have hafter : ∀ y, y ∈ ts.drop n → cmpE x.e.en y.e.en < 0 := fun y hy => by
    obtain ⟨i, hi⟩ := List.mem_iff_getElem?.1 hy
    rw [List.getElem?_drop] at hi
    have h1 := mt (hiff (n + i) y hi).2 (by omega)
    have hsw := cmpE_swap x.e.en y.e.en
    rw [hx] at hsw ⊢
    rcases Nat.eq_zero_or_pos i with h0 | h0
    · subst h0
      have := hno y hi
      omega
    · have hnl : n < ts.length := by have := (List.getElem?_eq_some_iff.1 hi).1; omega
      have e0 := List.getElem?_eq_getElem hnl
      have h2 := mt (hiff n ts[n] e0).2 (by omega)
      have h3 := hno _ e0
      have hsw2 := cmpE_swap s ts[n].e.en
      have h4 : cmpE s ts[n].e.en < 0 := by omega
      have h5 : cmpE ts[n].e.en y.e.en < 0 := by
        have := List.pairwise_iff_getElem.1 hs n (n + i) hnl (List.getElem?_eq_some_iff.1 hi).1 (by omega)
        rwa [(List.getElem?_eq_some_iff.1 hi).2] at this
      exact cmpE_lt h4 h5
  refine List.pairwise_append.2 ⟨p1, List.pairwise_cons.2 ⟨hafter, p2⟩, fun a ha b hb => ?_⟩
  rcases List.mem_cons.1 hb with rfl | hb
  · obtain ⟨i, hi⟩ := List.mem_iff_getElem?.1 ha
    rw [List.getElem?_take] at hi
    split at hi
    · rw [hx]
      exact (hiff i a hi).1 (by assumption)
    · cases hi
  · exact p3 a ha b hb
theorem nodes_ins {bg : Nat} {cs : Array Value} {Pf : Nat → Nat} {w : World} {rmn : Nat → Value} (hn : n ≤ ts.length) (hS : Spots bg ts n cs Pf) (hh : x.h ≤ 12) (hH : ∀ p, p ≤ ts.length → nodeH ts p ≤ 12) (hN : Nodes w bg ts (rmTo ts Pf x.b x.h)) (hO : ∃ cn, NodeAt w x.b x.h (rnTo ts Pf rmn x.h) cn ∧ entIn cn x) (hne : ∀ p, p ≤ ts.length → x.b ≠ nodeB bg ts p) :
    Nodes w bg (ins ts n x) (fun p l => ptrO (nxt l ((ins ts n x).drop p))) := by
  refine ⟨fun p hp => ?_, fun p p' hp hp' e => ?_⟩
  · rw [ins_length hn] at hp
    rw [nodeB_ins hn, nodeH_ins hn]
    rcases Nat.lt_trichotomy p (n + 1) with h | h | h
    · rw [if_pos (by omega), if_pos (by omega)]
      obtain ⟨c, h1, h2⟩ := hN.node p (by omega)
      refine ⟨c, ⟨h1.heap, h1.size, h1.height, fun l hl => (h1.room l hl).trans ?_⟩, fun k y hk hy => h2 k y hk (by rw [← hy, ins_lt hn (by omega)])⟩
      have hl12 : l < 12 := by have := hH p (by omega); omega
      unfold rmTo rm0
      by_cases hmid : ∀ j y, p ≤ j → j < n → ts[j]? = some y → ¬ l < y.h
      · have hpp : p = Pf l := spot_one hn (by omega) (hS.le l hl12) hl (hS.tall l hl12) hmid (hS.none l hl12)
        rw [nxt_ins_skip hn (by omega) hmid]
        by_cases hlx : l < x.h
        · rw [if_pos ⟨hlx, hpp⟩, if_pos hlx]; rfl
        · rw [if_neg (fun h => hlx h.1), if_neg hlx, nxt_skip hn (by omega) hmid]
      · rw [nxt_ins_found hn (by omega) hmid, if_neg]
        rintro ⟨_, h4⟩
        rw [h4] at hmid
        exact hmid (hS.none l hl12)
    · subst h
      rw [if_neg (by omega), if_pos rfl, if_neg (by omega), if_pos rfl]
      obtain ⟨c, h1, h2⟩ := hO
      refine ⟨c, ⟨h1.heap, h1.size, h1.height, fun l hl => (h1.room l hl).trans ?_⟩, fun k y hk hy => ?_⟩
      · have hl12 : l < 12 := by omega
        unfold rnTo rm0
        rw [if_pos hl, ins_drop_gt hn (Nat.le_refl n), nxt_skip hn (hS.le l hl12) (hS.none l hl12)]
      · have : k = n := by omega
        subst this
        rw [ins_at hn] at hy
        cases hy
        exact h2
    · rw [if_neg (by omega), if_neg (by omega), if_neg (by omega), if_neg (by omega)]
      obtain ⟨q, rfl⟩ : ∃ q, p = q + 1 := ⟨p - 1, by omega⟩
      rw [Nat.add_sub_cancel]
      obtain ⟨c, h1, h2⟩ := hN.node q (by omega)
      refine ⟨c, ⟨h1.heap, h1.size, h1.height, fun l hl => (h1.room l hl).trans ?_⟩, fun k y hk hy => ?_⟩
      · have hl12 : l < 12 := by have := hH q (by omega); omega
        unfold rmTo rm0
        rw [if_neg (fun h4 => by have := hS.le l hl12; omega), ins_drop_gt hn (by omega)]
      · obtain ⟨k', rfl⟩ : ∃ k', k = k' + 1 := ⟨k - 1, by omega⟩
        rw [ins_gt hn (by omega)] at hy
        exact h2 k' y (by omega) hy
  · rw [ins_length hn] at hp hp'
    rw [nodeB_ins hn, nodeB_ins hn] at e
    have inj := hN.inj
    by_cases a1 : p ≤ n
    · rw [if_pos a1] at e
      by_cases b1 : p' ≤ n
      · rw [if_pos b1] at e; exact inj p p' (by omega) (by omega) e
      · rw [if_neg b1] at e
        by_cases b2 : p' = n + 1
        · rw [if_pos b2] at e; exact absurd e.symm (hne p (by omega))
        · rw [if_neg b2] at e
          have := inj p (p' - 1) (by omega) (by omega) e
          omega
    · rw [if_neg a1] at e
      by_cases a2 : p = n + 1
      · rw [if_pos a2] at e
        by_cases b1 : p' ≤ n
        · rw [if_pos b1] at e; exact absurd e (hne p' (by omega))
        · rw [if_neg b1] at e
          by_cases b2 : p' = n + 1
          · omega
          · rw [if_neg b2] at e; exact absurd e (hne (p' - 1) (by omega))
      · rw [if_neg a2] at e
        by_cases b1 : p' ≤ n
        · rw [if_pos b1] at e
          have := inj (p - 1) p' (by omega) (by omega) e
          omega
        · rw [if_neg b1] at e
          by_cases b2 : p' = n + 1
          · rw [if_pos b2] at e; exact absurd e.symm (hne (p - 1) (by omega))
          · rw [if_neg b2] at e
            have := inj (p - 1) (p' - 1) (by omega) (by omega) e
            omega
end
end Go.Proofs.Ytkeglaplckfllaa

/-
  The table behind an Insert.
-/
namespace Go.Proofs.Ytkeglaplckfllaa
open Go.RowKit
def Grow (A : Nat → Prop) (w : World) : Nat → Prop := fun k => A k ∨ w.heap.size ≤ k
theorem tab_ins {A : Nat → Prop} {w w6 w7 w9 : World} {t bg n : Nat} {ts : List Tow} {cs : Array Value} {Pf : Nat → Nat} {rmn : Nat → Value} {x : Tow} {o : Obj} (hT : Tab A w t bg ts) (t6 : Turns (fun _ => False) w w6) (hxb : x.b = w6.heap.size) (t7 : Turns (fun j => j = x.b ∨ ∃ p, p ≤ ts.length ∧ j = nodeB bg ts p) (w6.alloc o) w7)
    (hN : Nodes w7 bg ts (rmTo ts Pf x.b x.h)) (hO : ∃ cn, NodeAt w7 x.b x.h (rnTo ts Pf rmn x.h) cn ∧ entIn cn x) (t9 : Turns (fun k => k = t) w7 w9) (hrow : w9.heap[t]? = some (.cells #[.pointer (some ⟨bg, 0, none⟩), .int .i64 ((ts.length + 1 : Nat) : Int), .int .i64 ((sizeT ts + (x.e.key.length + x.e.val.length + 32) : Nat) : Int)] 56 (0, 0)))
    (hk : Bytes w6 x.kv x.e.key) (hv : Bytes w6 x.vv x.e.val) (hkb : ∀ a, x.ka = some a → w.heap.size ≤ a.block ∧ a.block < w6.heap.size) (hvb : ∀ a, x.va = some a → w.heap.size ≤ a.block ∧ a.block < w6.heap.size) (hS : Spots bg ts n cs Pf) (hn : n = place x.e.en ts) (hno : ∀ y, ts[n]? = some y → cmpE y.e.en x.e.en ≠ 0) (hh : 1 ≤ x.h ∧ x.h ≤ 12) :
    Tab (Grow A w) w9 t bg (ins ts n x) ∧ Turns A w w9 := by
  have hpl : n ≤ ts.length := hn ▸ place_le x.e.en ts
  have hlt : ∀ p, p ≤ ts.length → nodeB bg ts p < w.heap.size := fun p hp => hT.node_lt hp
  have htl : t < w.heap.size := lt_of_heap hT.tab
  have hsz := t6.size
  have ha : (w6.alloc o).heap.size = w6.heap.size + 1 := by simp
  have ta : Turns (fun _ => False) w6 (w6.alloc o) := (Turns.refl _ w6).alloc o
  have h7 := t7.size
  have h9 := t9.size
  have hne : ∀ p, p ≤ ts.length → x.b ≠ nodeB bg ts p := fun p hp e => by have := hlt p hp; omega
  have hN9 : Nodes w9 bg ts (rmTo ts Pf x.b x.h) := hN.keep t9 fun p hp e => hT.node_ne hp e
  have hO9 : ∃ cn, NodeAt w9 x.b x.h (rnTo ts Pf rmn x.h) cn ∧ entIn cn x := by
    obtain ⟨cn, h1, h2⟩ := hO
    exact ⟨cn, h1.keep t9 (by show ¬ x.b = t; omega), h2⟩
  -- bytes that no step turns
  have keepB : ∀ {a : Option Addr} {m c : Nat} {bs : List (BitVec 8)}, Bytes w6 (.slice a m c) bs → (∀ y : Addr, a = some y → y.block ≠ x.b ∧ (∀ p, p ≤ ts.length → y.block ≠ nodeB bg ts p) ∧ y.block ≠ t) → Bytes w9 (.slice a m c) bs := fun hb hy =>
    bytes_keep (bytes_keep (bytes_keep hb ta (fun _ _ x => x)) t7 (fun y e h => by
      rcases h with h | ⟨p, hp, h⟩
      · exact (hy y e).1 h
      · exact (hy y e).2.1 p hp h)) t9 (fun y e h => (hy y e).2.2 h)
  refine ⟨⟨?_, nodes_ins hpl hS hh.2 (fun p hp => (nodeH_le hT hp).2) hN9 hO9 hne, sorted_ins rfl hT.sorted hn hno, fun y hy => ?_, fun y hy => ?_, .inl hT.at_, fun p hp => ?_, fun y hy q hq => ?_⟩, ?_⟩
  · rw [ins_length hpl, sizeT_ins]; exact hrow
  · rcases ins_mem.1 hy with rfl | hy
    · exact hh
    · exact hT.tall y hy
  · rcases ins_mem.1 hy with rfl | hy
    · refine ⟨keepB hk fun a e => ?_, keepB hv fun a e => ?_⟩
      · have := hkb a e
        exact ⟨by omega, fun p hp h => by have := hlt p hp; omega, by omega⟩
      · have := hvb a e
        exact ⟨by omega, fun p hp h => by have := hlt p hp; omega, by omega⟩
    · refine ⟨keepB ((hT.keys y hy).1.quiet t6) fun a e => ?_, keepB ((hT.keys y hy).2.quiet t6) fun a e => ?_⟩
      · have := hT.ak y hy a.block (.inl ⟨a, e, rfl⟩)
        exact ⟨by omega, fun p hp h => this.2.2.2 p hp h, this.2.2.1⟩
      · have := hT.ak y hy a.block (.inr ⟨a, e, rfl⟩)
        exact ⟨by omega, fun p hp h => this.2.2.2 p hp h, this.2.2.1⟩
  · rw [ins_length hpl] at hp
    rw [nodeB_ins hpl]
    split
    · exact .inl (hT.an p (by omega))
    · split
      · exact .inr (by omega)
      · exact .inl (hT.an (p - 1) (by omega))
  · have hnodes : ∀ {q : Nat}, (∀ p, p ≤ ts.length → q ≠ nodeB bg ts p) → q ≠ x.b → ∀ p, p ≤ (ins ts n x).length → q ≠ nodeB bg (ins ts n x) p := fun h1 h2 p hp => by
      rw [ins_length hpl] at hp
      rw [nodeB_ins hpl]
      split
      · exact h1 p (by omega)
      · split
        · exact h2
        · exact h1 (p - 1) (by omega)
    rcases ins_mem.1 hy with rfl | hy
    · have hb : w.heap.size ≤ q ∧ q < w6.heap.size := by
        rcases hq with ⟨a, e, rfl⟩ | ⟨a, e, rfl⟩
        · exact hkb a e
        · exact hvb a e
      exact ⟨.inr hb.1, by omega, by omega, hnodes (fun p hp h => by have := hlt p hp; omega) (by omega)⟩
    · have h := hT.ak y hy q hq
      exact ⟨.inl h.1, by omega, h.2.2.1, hnodes h.2.2.2 (by omega)⟩
  · have h1 : Turns A w w7 := ((t6.trans ta).mono fun _ _ x => x.elim).andThen t7 fun k hk h => by
      rcases h with h | ⟨p, hp, h⟩
      · omega
      · rw [h]; exact hT.an p hp
    exact h1.andThen t9 fun k _ e => by rw [e]; exact hT.at_
end Go.Proofs.Ytkeglaplckfllaa
