/-
  A tower is raised.
-/
import Derived.Test.YtkeglaplckfllaaGe
namespace Go.Proofs.Ytkeglaplckfllaa
open Go.RowKit
set_option maxRecDepth 100000
set_option maxHeartbeats 4000000
/-- Where on each level the tower goes. -/
structure Spots (bg : Nat) (ts : List Tow) (n : Nat) (cs : Array Value) (Pf : Nat → Nat) : Prop where
  cell : ∀ m, m < 12 → cs[4 + m]? = some (.pointer (some ⟨nodeB bg ts (Pf m), 0, none⟩))
  le : ∀ m, m < 12 → Pf m ≤ n
  tall : ∀ m, m < 12 → m < nodeH ts (Pf m)
  none : ∀ m, m < 12 → ∀ j x, Pf m ≤ j → j < n → ts[j]? = some x → ¬ m < x.h
theorem PathIn.spots {bg : Nat} {ts : List Tow} {n : Nat} {kv : Value} {seq s : Nat} {cs : Array Value} (h : PathIn bg ts n kv seq 0 s cs) : ∃ Pf, Spots bg ts n cs Pf := by
  have each : ∀ m, ∃ P, m < 12 → cs[4 + m]? = some (.pointer (some ⟨nodeB bg ts P, 0, none⟩)) ∧ P ≤ n ∧ m < nodeH ts P ∧ ∀ j x, P ≤ j → j < n → ts[j]? = some x → ¬ m < x.h := fun m => by
    by_cases hm : m < 12
    · obtain ⟨v, hv, P, rfl, h1, h2, h3⟩ := h.ahead m (Nat.zero_le _) hm
      exact ⟨P, fun _ => ⟨hv, h1, h2, h3⟩⟩
    · exact ⟨0, fun e => absurd e hm⟩
  obtain ⟨Pf, hPf⟩ := Classical.axiomOfChoice each
  exact ⟨Pf, fun m hm => (hPf m hm).1, fun m hm => (hPf m hm).2.1, fun m hm => (hPf m hm).2.2.1, fun m hm => (hPf m hm).2.2.2⟩
theorem NodeAt.set {w : World} {b h : Nat} {rm : Nat → Value} {cs : Array Value} (n : NodeAt w b h rm cs) (l : Nat) (hl : l < h) (v : Value) :
    NodeAt (w.setCell ⟨b, 5 + l, none⟩ v) b h (fun m => if m = l then v else rm m) (cs.setIfInBounds (5 + l) v) ∧ Turns (fun k => k = b) w (w.setCell ⟨b, 5 + l, none⟩ v) := by
  have tk := (Tick.refl n.heap).set (5 + l) v
  refine ⟨⟨tk.1, by simpa using n.size, ?_, fun m hm => ?_⟩, Turns.of_tick tk⟩
  · rw [Array.getElem?_setIfInBounds_ne (by omega)]; exact n.height
  · by_cases e : m = l
    · subst e
      have hb : 5 + m < cs.size := by
        have := n.room m hm
        rcases Nat.lt_or_ge (5 + m) cs.size with h | h
        · exact h
        · rw [Array.getElem?_eq_none h] at this; cases this
      rw [if_pos rfl, Array.getElem?_setIfInBounds_self_of_lt hb]
    · rw [if_neg e, Array.getElem?_setIfInBounds_ne (by omega)]
      exact n.room m hm
def rm0 (ts : List Tow) (p l : Nat) : Value := ptrO (nxt l (ts.drop p))
def rmTo (ts : List Tow) (Pf : Nat → Nat) (nb k p l : Nat) : Value := if l < k ∧ p = Pf l then .pointer (some ⟨nb, 0, none⟩) else rm0 ts p l
def rnTo (ts : List Tow) (Pf : Nat → Nat) (rmn : Nat → Value) (k l : Nat) : Value := if l < k then rm0 ts (Pf l) l else rmn l
/-- In the midst of a tower's raising. -/
structure Mid (bg : Nat) (ts : List Tow) (Pf : Nat → Nat) (nb h : Nat) (rmn : Nat → Value) (x : Tow) (g : Nat) (cs : Array Value) (w : World) (k : Nat) (wr : World) : Prop where
  nodes : Nodes wr bg ts (rmTo ts Pf nb k)
  own : ∃ cn, NodeAt wr nb h (rnTo ts Pf rmn k) cn ∧ entIn cn x
  box : wr.heap[g]? = some (.cells cs 67 (0, 0))
  turns : Turns (fun j => j = nb ∨ ∃ p, p ≤ ts.length ∧ j = nodeB bg ts p) w wr
theorem Mid.drew {bg : Nat} {ts : List Tow} {Pf : Nat → Nat} {nb h : Nat} {rmn : Nat → Value} {x : Tow} {g : Nat} {cs : Array Value} {w : World} {k : Nat} {wr : World} (M : Mid bg ts Pf nb h rmn x g cs w k wr) (m : Nat) : Mid bg ts Pf nb h rmn x g cs w k (wr.drewN m) :=
  ⟨M.nodes.keep ((Turns.refl (fun _ => False) wr).drewN m) (fun _ _ x => x), let ⟨cn, h1, h2⟩ := M.own; ⟨cn, h1.keep ((Turns.refl (fun _ => False) wr).drewN m) (fun x => x), h2⟩, M.box, M.turns.drewN m⟩
theorem raise_any (bg : Nat) (ts : List Tow) (n : Nat) (Pf : Nat → Nat) (nb h : Nat) (rmn : Nat → Value) (cn : Array Value) (x : Tow) (cs : Array Value) (w : World) (hN : Nodes w bg ts (rm0 ts)) (hS : Spots bg ts n cs Pf) (hn : n ≤ ts.length) (hlen : ∀ p, p ≤ ts.length → nodeH ts p ≤ 12) (hb : NodeAt w nb h rmn cn) (hx : entIn cn x) (hh : h ≤ 12) (hne : ∀ p, p ≤ ts.length → nb ≠ nodeB bg ts p) :
    Calls Try.prog 39 #[.agg cs, .pointer (some ⟨nb, 0, none⟩)] w fun e w' => (∃ v, e = .returned v) ∧ Nodes w' bg ts (rmTo ts Pf nb h) ∧ (∃ cn', NodeAt w' nb h (rnTo ts Pf rmn h) cn' ∧ entIn cn' x) ∧ Turns (fun j => j = nb ∨ ∃ p, p ≤ ts.length ∧ j = nodeB bg ts p) w w' := by
  have T0 := hide ((Turns.refl (fun _ => False) w).alloc (.cells cs 67))
  have hlt : nb < w.heap.size := lt_of_heap hb.heap
  have hM : Mid bg ts Pf nb h rmn x w.heap.size cs w 0 (w.alloc (.cells cs 67)) := by
    refine ⟨(hN.keep T0.out (fun _ _ x => x)).congr fun p l _ _ => ?_, ⟨cn, ?_, hx⟩, heap_alloc_new w _, T0.out.mono fun _ _ x => x.elim⟩
    · unfold rmTo; rw [if_neg (fun h => by omega)]
    · have h1 := hb.keep T0.out (fun x => x)
      exact ⟨h1.heap, h1.size, h1.height, fun l hl => by unfold rnTo; rw [if_neg (by omega)]; exact h1.room l hl⟩
  have HM := hide hM
  have HGL := hide (show ∀ p, p ≤ ts.length → nodeB bg ts p < w.heap.size from fun p hp => by
    obtain ⟨c, h1, _⟩ := hN.node p hp
    exact lt_of_heap h1.heap)
  have HBN := hide (hb.keep T0.out (fun x => x))
  have HNE := hide hne
  have HS := hide hS
  have HLN := hide hlen
  have HLT := hide hlt
  clear hM hN hb hne hS hlen hx hlt
  go_enter Try.func39, Try.ntmps39
  go_upto_region 1 with (fail)
  generalize hw0 : w.alloc (.cells cs 67) = w0 at *
  have HW0 := hide (show w0.heap.size = w.heap.size + 1 by rw [← hw0]; simp)
  clear hw0
  generalize hg0 : w.heap.size = g at *
  go_wp2_with (go_at_call 52; refine (levels_any _ _ _ _ _ HBN.out hh).mono ?_; rintro e w1 ⟨rfl, m1, rfl⟩)
  have HM1 := hide (show Mid bg ts Pf nb h rmn x g cs w 0 (w0.drewN m1) from HM.out.drew m1)
  clear HM HBN
  generalize w0.drewN m1 = w2 at *
  go_loopw [11] (fun iv wr => ∃ k : Nat, iv = .int .i64 (k : Nat) ∧ k ≤ h ∧ Mid bg ts Pf nb h rmn x g cs w k wr) (fun iv _ => h - (intOf iv).toNat)
  case atStart => exact ⟨0, rfl, by omega, HM1.out⟩
  case round =>
    obtain ⟨k, rfl, hk, hm⟩ := hrel
    have MM := hide hm
    clear hm
    by_cases hk2 : k < h
    · have i1 : (k : Int) < h := by omega
      have i12 : (k : Int) < 12 := by omega
      have hk12 : k < 12 := by omega
      have c1 : wr.cell? ⟨g, 4 + k, none⟩ = some (.pointer (some ⟨nodeB bg ts (Pf k), 0, none⟩)) := (cell_of_row wr g (4 + k) cs 67 (0, 0) MM.out.box).trans (HS.out.cell k hk12)
      have hPl : Pf k ≤ ts.length := Nat.le_trans (HS.out.le k hk12) hn
      obtain ⟨cp, hnp, _⟩ := MM.out.nodes.node (Pf k) hPl
      have HNP := hide hnp
      have hH := HLN.out (Pf k) hPl
      have htall := HS.out.tall k hk12
      have i2 : (k : Int) < nodeH ts (Pf k) := by omega
      have d1 : wr.cell? ⟨nodeB bg ts (Pf k), 5 + k, none⟩ = some (rm0 ts (Pf k) k) := by
        rw [cell_of_row wr _ (5 + k) cp 64 (0, 0) hnp.heap, hnp.room k htall]
        unfold rmTo
        rw [if_neg (fun h => by omega)]
      have d2 : wr.frozen? ⟨nodeB bg ts (Pf k), 5 + k, none⟩ = false := frozen_of_row wr _ (5 + k) cp 64 hnp.heap
      obtain ⟨cm, hnm, hem⟩ := MM.out.own
      have HNM := hide hnm
      have HEM := hide hem
      have e1 : wr.cell? ⟨nb, 5 + k, none⟩ = some (rnTo ts Pf rmn k k) := by
        rw [cell_of_row wr _ (5 + k) cm 64 (0, 0) hnm.heap, hnm.room k hk2]
      have e2 : wr.frozen? ⟨nb, 5 + k, none⟩ = false := frozen_of_row wr _ (5 + k) cm 64 hnm.heap
      have hbn := HNE.out (Pf k) hPl
      have hbn' : nodeB bg ts (Pf k) ≠ nb := fun e => hbn e.symm
      clear hnp hnm hem
      obtain ⟨q, hrv⟩ : ∃ q, rm0 ts (Pf k) k = .pointer q := by
        unfold rm0
        cases nxt k (ts.drop (Pf k)) with
        | none => exact ⟨_, rfl⟩
        | some b => exact ⟨_, rfl⟩
      rw [hrv] at d1
      have HRV := hide hrv
      clear hrv
      go_wp2_with (go_at_call 52; refine (levels_any _ _ _ _ _ HNP.out hH).mono ?_; rintro e w3 ⟨rfl, m3, rfl⟩)
      have n1 := HNM.out.keep ((Turns.refl (fun _ => False) wr).drewN m3) (fun x => x)
      have s1 := n1.set k hk2 (.pointer q)
      have N1 := (MM.out.drew m3).nodes.keep s1.2 (fun p hp e => HNE.out p hp e.symm)
      have s2 := N1.set (Pf k) k hPl (.pointer (some ⟨nb, 0, none⟩))
      have S1 := hide s1
      have S2 := hide s2
      clear s1 s2 n1 N1
      go_roundw
      case rel =>
        refine ⟨k + 1, by go_num, by omega, ⟨S2.out.1.congr fun p l _ _ => ?_, ?_, ?_, ?_⟩⟩
        · unfold rmTo
          by_cases e : p = Pf k ∧ l = k
          · rw [if_pos e, if_pos ⟨by omega, by rw [e.2]; exact e.1⟩]
          · rw [if_neg e]
            by_cases e2 : l < k ∧ p = Pf l
            · rw [if_pos e2, if_pos ⟨by omega, e2.2⟩]
            · rw [if_neg e2, if_neg]
              rintro ⟨h1, h2⟩
              rcases Nat.lt_or_ge l k with h3 | h3
              · exact e2 ⟨h3, h2⟩
              · have : l = k := by omega
                subst this
                exact e ⟨h2, rfl⟩
        · have h3 := S1.out.1.keep S2.out.2 hbn
          refine ⟨_, ⟨h3.heap, h3.size, h3.height, fun l hl => (h3.room l hl).trans ?_⟩, ?_⟩
          · unfold rnTo
            by_cases e : l = k
            · subst e
              rw [if_pos rfl, if_pos (by omega), HRV.out]
            · by_cases e2 : l < k
              · rw [if_neg e, if_pos e2, if_pos (by omega)]
              · rw [if_neg e, if_neg e2, if_neg (by omega)]
          · obtain ⟨a, b, c, d⟩ := HEM.out
            exact ⟨by rw [Array.getElem?_setIfInBounds_ne (by omega)]; exact a, by rw [Array.getElem?_setIfInBounds_ne (by omega)]; exact b, by rw [Array.getElem?_setIfInBounds_ne (by omega)]; exact c, by rw [Array.getElem?_setIfInBounds_ne (by omega)]; exact d⟩
        · have hgl := HGL.out (Pf k) hPl
          have hlt := HLT.out
          exact S2.out.2.heap (S1.out.2.heap (MM.out.drew m3).box (by show ¬ g = nb; omega)) (by show ¬ g = _; omega)
        · exact ((MM.out.drew m3).turns.trans (S1.out.2.mono fun j _ e => .inl e)).trans (S2.out.2.mono fun j _ e => .inr ⟨Pf k, hPl, e⟩)
      case measure =>
        simp [intOf]
        omega
    · have i1 : ¬ (k : Int) < h := by omega
      have hkh : k = h := by omega
      have HKH := hide hkh
      clear hkh
      go_wp2_with fail
      go_end0
      have MF := MM.out
      rw [HKH.out] at MF
      exact ⟨⟨_, rfl⟩, MF.nodes, MF.own, MF.turns⟩
end Go.Proofs.Ytkeglaplckfllaa
