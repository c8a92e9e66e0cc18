/-
  What stands behind a place, and at it.
-/
import Derived.Test.YtkeglaplckfllaaLo
namespace Go.Proofs.Ytkeglaplckfllaa
open Go.RowKit
set_option maxRecDepth 100000
set_option maxHeartbeats 4000000
theorem nxt_zero {A : Nat → Prop} {w : World} {t bg : Nat} {ts : List Tow} (h : Tab A w t bg ts) (n : Nat) : nxt 0 (ts.drop n) = (ts[n]?).map (·.b) := by
  rcases nxt_cases 0 ts n with ⟨e, hall⟩ | ⟨j, x, hpj, hx, hlx, e, hlow⟩
  · rw [e]
    cases e2 : ts[n]? with
    | none => rfl
    | some y =>
      have := (h.tall y (List.mem_of_getElem? e2)).1
      exact absurd (by omega) (hall n y (Nat.le_refl _) e2)
  · rw [e]
    have hj : j = n := by
      rcases Nat.lt_or_ge n j with hl | hl
      · have hnl : n < ts.length := by have := (List.getElem?_eq_some_iff.1 hx).1; omega
        have h1 := hlow n ts[n] (Nat.le_refl _) hl (List.getElem?_eq_getElem hnl)
        have := (h.tall ts[n] (List.getElem_mem hnl)).1
        exact absurd (by omega) h1
      · omega
    rw [← hj, hx]
    rfl
theorem ahead_zero {A : Nat → Prop} {w : World} {t bg : Nat} {ts : List Tow} (h : Tab A w t bg ts) {n : Nat} (hn : n ≤ ts.length) {v : Value} (ha : AheadAt bg ts n 0 v) : v = .pointer (some ⟨nodeB bg ts n, 0, none⟩) := by
  obtain ⟨P, rfl, hP, _, h2⟩ := ha
  have : P = n := by
    rcases Nat.lt_or_ge P n with hl | hl
    · have hPl : P < ts.length := by omega
      have := (h.tall ts[P] (List.getElem_mem hPl)).1
      exact absurd (by omega) (h2 P ts[P] (Nat.le_refl _) hl (List.getElem?_eq_getElem hPl))
    · omega
  rw [this]
section
variable {A : Nat → Prop} {t bg : Nat} {ts : List Tow} {n seq s : Nat} {cs : Array Value} {ka : Option Addr} {kn kc : Nat}
theorem behind_any (w : World) (h : Tab A w t bg ts) (hn : n ≤ ts.length) (hp : PathIn bg ts n (.slice ka kn kc) seq 0 s cs) :
    Calls Try.prog 41 #[.agg cs] w fun e w' => e = .returned (ptrO ((ts[n]?).map (·.b))) ∧ Below w.heap.size w w' := by
  obtain ⟨v, hv, ha⟩ := hp.ahead 0 (Nat.le_refl _) (by omega)
  have hv0 := ahead_zero h hn ha
  subst hv0
  have hr := heap_alloc_new w (.cells cs 67)
  have T0 := hide ((Turns.refl (fun _ => False) w).alloc (.cells cs 67))
  have HT := hide (h.quiet T0.out)
  have hv4 : cs[4]? = some (.pointer (some ⟨nodeB bg ts n, 0, none⟩)) := hv
  have c4 : (w.alloc (.cells cs 67)).cell? ⟨w.heap.size, 4, none⟩ = some (.pointer (some ⟨nodeB bg ts n, 0, none⟩)) := (cell_of_row _ _ 4 cs 67 (0, 0) hr).trans hv4
  have hz := nxt_zero h n
  have hh := nodeH_le h hn
  obtain ⟨cn, hnode, _⟩ := HT.out.nodes.node n hn
  have HND := hide hnode
  have xl : (w.alloc (.cells cs 67)).cell? ⟨nodeB bg ts n, 5, none⟩ = some (ptrO ((ts[n]?).map (·.b))) := by
    rw [← hz]
    exact (cell_of_row _ _ 5 cn 64 (0, 0) hnode.heap).trans (hnode.room 0 (by omega))
  have i1 : (0 : Int) < nodeH ts n := by omega
  have hh12 := hh.2
  have SZ := hide hp.size
  have ONE := hide hp.one
  clear hnode hz hv hv4 hr hp ha h hh
  generalize hpo : ptrO ((ts[n]?).map (·.b)) = po at *
  clear hpo
  go_enter Try.func41, Try.ntmps41
  go_upto_region 1 with (fail)
  generalize w.alloc (.cells cs 67) = w0 at *
  go_wp2_with (go_at_call 52; refine (levels_any _ _ _ _ _ HND.out hh12).mono ?_; rintro e w1 ⟨rfl, m1, rfl⟩)
  go_ret
  exact ⟨rfl, (T0.out.drewN m1).below (Nat.le_refl _) (fun _ x => x.elim)⟩
/-- The tower at a place. -/
def atT (ts : List Tow) (n : Nat) (q : En) : Option Tow := match ts[n]? with
  | some x => if cmpE x.e.en q = 0 then some x else none
  | none => none
theorem at_any (key : List (BitVec 8)) (w : World) (h : Tab A w t bg ts) (hn : n ≤ ts.length) (hp : PathIn bg ts n (.slice ka kn kc) seq 0 s cs) (hk : Bytes w (.slice ka kn kc) key) :
    Calls Try.prog 38 #[.agg cs] w fun e w' => e = .returned (ptrO ((atT ts n (key, seq)).map (·.b))) ∧ Below w.heap.size w w' := by
  have hr := heap_alloc_new w (.cells cs 67)
  have HR := hide hr
  have T0 := hide ((Turns.refl (fun _ => False) w).alloc (.cells cs 67))
  have HT := hide (h.quiet T0.out)
  have HK := hide (hk.quiet T0.out)
  have PIN := hide hp
  have SZ := hide hp.size
  have HB := hide (behind_any (w.alloc (.cells cs 67)) HT.out hn hp)
  clear hr h hk hp
  obtain ⟨v, hv⟩ : ∃ v, ptrO ((atT ts n (key, seq)).map (·.b)) = v := ⟨_, rfl⟩
  rw [hv]
  have HV := hide hv
  clear hv
  go_enter Try.func38, Try.ntmps38
  go_upto_region 1 with (fail)
  generalize w.alloc (.cells cs 67) = w0 at *
  generalize hg0 : w.heap.size = g at *
  go_wp2_with (first
    | (refine wpList_load_row rfl 67 _ rfl _ rfl _ _ _ _ HR.out Try.underlying67 rfl (by rw [SZ.out]; exact info67) ?_)
    | (go_at_call 41; refine HB.out.mono ?_; rintro e w1 ⟨rfl, b1⟩; have T1 := hide (Turns.of_below b1 (fun _ => False)); clear b1))
  cases hx : ts[n]? with
  | none =>
    have hv0 : v = .pointer none := by rw [← HV.out]; unfold atT; rw [hx]; rfl
    subst hv0
    rw [show ptrO (Option.map (·.b) (none : Option Tow)) = Value.pointer none from rfl]
    clear hx
    go_quiet (fail)
    rename_i nq
    go_wp2_with fail
    go_ret
    exact ⟨rfl, ((T0.out.trans T1.out).drewN nq).below (by omega) (fun _ x => x.elim)⟩
  | some x =>
    have TB := hide (HT.out.quiet T1.out)
    obtain ⟨cx, hnx, hex⟩ := TB.out.nodes.node (n + 1) (by have := (List.getElem?_eq_some_iff.1 hx).1; omega)
    have hex := hex n x rfl hx
    rw [nodeB_at hx] at hnx
    have x0 : w1.cell? ⟨x.b, 0, none⟩ = some (.slice x.ka x.e.key.length x.kc) := (cell_of_row w1 x.b 0 cx 64 (0, 0) hnx.heap).trans hex.1
    have x1 : w1.cell? ⟨x.b, 1, none⟩ = some (.int .u64 (x.e.seq : Nat)) := (cell_of_row w1 x.b 1 cx 64 (0, 0) hnx.heap).trans hex.2.1
    have x2 : w1.cell? ⟨x.b, 2, none⟩ = some (.int .i64 x.e.kind) := (cell_of_row w1 x.b 2 cx 64 (0, 0) hnx.heap).trans hex.2.2.1
    have x3 : w1.cell? ⟨x.b, 3, none⟩ = some (.slice x.va x.e.val.length x.vc) := (cell_of_row w1 x.b 3 cx 64 (0, 0) hnx.heap).trans hex.2.2.2
    have HR1 := hide (T1.out.heap HR.out (fun x => x))
    have z0 : w1.cell? ⟨g, 0, none⟩ = some (.slice ka kn kc) := (cell_of_row w1 g 0 cs 67 (0, 0) HR1.out).trans PIN.out.c0
    have z1 : w1.cell? ⟨g, 1, none⟩ = some (.int .u64 (seq : Nat)) := (cell_of_row w1 g 1 cs 67 (0, 0) HR1.out).trans PIN.out.c1
    have z2 : w1.cell? ⟨g, 2, none⟩ = some (.int .i64 0) := (cell_of_row w1 g 2 cs 67 (0, 0) HR1.out).trans PIN.out.c2
    have z3 : w1.cell? ⟨g, 3, none⟩ = some (.slice none 0 0) := (cell_of_row w1 g 3 cs 67 (0, 0) HR1.out).trans PIN.out.c3
    have HCP := hide (compare_any x.ka ka x.va none x.e.key.length x.kc x.e.val.length x.vc kn kc 0 0 x.e.kind 0 x.e.seq seq x.e.key key w1.drew ((TB.out.keys x (List.mem_of_getElem? hx)).1.quiet (Turns.refl _ w1).drew) ((HK.out.quiet T1.out).quiet (Turns.refl _ w1).drew))
    have HV2 : Hid (v = if cmpE (x.e.key, x.e.seq) (key, seq) = 0 then .pointer (some ⟨x.b, 0, none⟩) else .pointer none) := by
      show _ = _
      rw [← HV.out]
      unfold atT
      rw [hx]
      show ptrO (Option.map (·.b) (if cmpE x.e.en (key, seq) = 0 then some x else none)) = _
      show ptrO (Option.map (·.b) (if cmpE (x.e.key, x.e.seq) (key, seq) = 0 then some x else none)) = _
      split <;> rfl
    rw [show ptrO (Option.map (·.b) (some x)) = Value.pointer (some ⟨x.b, 0, none⟩) from rfl]
    obtain ⟨z, hz⟩ : ∃ z, cmpE (x.e.key, x.e.seq) (key, seq) = z := ⟨_, rfl⟩
    rw [hz] at HV2
    have HZ := hide hz
    clear hnx hex hz hx HV
    go_region_held (fun w' => (w'.cell? ⟨x.b, 0, none⟩ = some (.slice x.ka x.e.key.length x.kc) ∧ w'.cell? ⟨x.b, 1, none⟩ = some (.int .u64 (x.e.seq : Nat)) ∧ w'.cell? ⟨x.b, 2, none⟩ = some (.int .i64 x.e.kind) ∧ w'.cell? ⟨x.b, 3, none⟩ = some (.slice x.va x.e.val.length x.vc)) ∧ w'.cell? ⟨g, 0, none⟩ = some (.slice ka kn kc) ∧ w'.cell? ⟨g, 1, none⟩ = some (.int .u64 (seq : Nat)) ∧ w'.cell? ⟨g, 2, none⟩ = some (.int .i64 0) ∧ w'.cell? ⟨g, 3, none⟩ = some (.slice none 0 0)) (first | (with_reducible exact ⟨⟨f0, f1, f2, f3⟩, g0, g1, g2, g3⟩) | (simp only [World.cell?_drew]; with_reducible exact ⟨⟨x0, x1, x2, x3⟩, z0, z1, z2, z3⟩)) (first
      | (go_at_call 53; refine HCP.out.mono ?_; rintro e w2 ⟨rfl, b2⟩; rw [HZ.out]; have t2 := (Turns.refl (fun _ => False) w1).drew.trans (Turns.of_below b2 (fun _ => False)); have f0 := t2.cell x0 (fun x => x); have f1 := t2.cell x1 (fun x => x); have f2 := t2.cell x2 (fun x => x); have f3 := t2.cell x3 (fun x => x); have g0 := t2.cell z0 (fun x => x); have g1 := t2.cell z1 (fun x => x); have g2 := t2.cell z2 (fun x => x); have g3 := t2.cell z3 (fun x => x); have T2 := hide t2; clear t2 b2))
    clear f0 f1 f2 f3 g0 g1 g2 g3 x0 x1 x2 x3 z0 z1 z2 z3
    have hfin : Below g w w2 := ((T0.out.trans T1.out).trans T2.out).below (by omega) (fun _ x => x.elim)
    have HF := hide hfin
    clear hfin
    by_cases hz0 : z = 0
    · have hv1 := HV2.out
      rw [if_pos hz0] at hv1
      have hb0 : (z != 0) = false := by simp [hz0]
      clear hz0
      go_wp2_with fail
      go_ret
      exact ⟨by rw [hv1]; rfl, by rw [hg0]; exact HF.out⟩
    · have hv1 := HV2.out
      rw [if_neg hz0] at hv1
      have hb0 : (z != 0) = true := by simp [hz0]
      clear hz0
      go_wp2_with fail
      go_ret
      exact ⟨by rw [hv1]; rfl, by rw [hg0]; exact HF.out⟩
end
end Go.Proofs.Ytkeglaplckfllaa
