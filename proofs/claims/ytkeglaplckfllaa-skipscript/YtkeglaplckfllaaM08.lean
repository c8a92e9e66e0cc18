import Derived.Test.YtkeglaplckfllaaM07
import Derived.Laws.CopyOwn
/-
  The search for a place.
-/
namespace Go.Proofs.Ytkeglaplckfllaa
open Go.RowKit
set_option maxRecDepth 100000
set_option maxHeartbeats 4000000
/-- On a level the last place ahead of the one that is looked for. -/
def AheadAt (bg : Nat) (ts : List Tow) (n m : Nat) (v : Value) : Prop :=
  ∃ P, v = .pointer (some ⟨nodeB bg ts P, 0, none⟩) ∧ P ≤ n ∧ m < nodeH ts P ∧ ∀ j x, P ≤ j → j < n → ts[j]? = some x → ¬ m < x.h
/-- A search, in cells. -/
structure PathIn (bg : Nat) (ts : List Tow) (n : Nat) (kv : Value) (seq : Nat) (L1 s : Nat) (cs : Array Value) : Prop where
  size : cs.size = 17
  c0 : cs[0]? = some kv
  c1 : cs[1]? = some (.int .u64 (seq : Nat))
  c2 : cs[2]? = some (.int .i64 0)
  c3 : cs[3]? = some (.slice none 0 0)
  steps : cs[16]? = some (.int .i64 (s : Nat))
  ahead : ∀ m, L1 ≤ m → m < 12 → ∃ v, cs[4 + m]? = some v ∧ AheadAt bg ts n m v
theorem PathIn.step {bg : Nat} {ts : List Tow} {n : Nat} {kv : Value} {seq L1 s : Nat} {cs : Array Value} (h : PathIn bg ts n kv seq L1 s cs) (s' : Nat) : PathIn bg ts n kv seq L1 s' (cs.setIfInBounds 16 (.int .i64 (s' : Nat))) where
  size := by simpa using h.size
  c0 := by rw [Array.getElem?_setIfInBounds_ne (by omega)]; exact h.c0
  c1 := by rw [Array.getElem?_setIfInBounds_ne (by omega)]; exact h.c1
  c2 := by rw [Array.getElem?_setIfInBounds_ne (by omega)]; exact h.c2
  c3 := by rw [Array.getElem?_setIfInBounds_ne (by omega)]; exact h.c3
  steps := Array.getElem?_setIfInBounds_self_of_lt (by rw [h.size]; omega)
  ahead := fun m h1 h2 => by rw [Array.getElem?_setIfInBounds_ne (by omega)]; exact h.ahead m h1 h2
theorem PathIn.down {bg : Nat} {ts : List Tow} {n : Nat} {kv : Value} {seq l s : Nat} {cs : Array Value} (h : PathIn bg ts n kv seq (l + 1) s cs) (hl : l < 12) {v : Value} (hv : AheadAt bg ts n l v) : PathIn bg ts n kv seq l s (cs.setIfInBounds (4 + l) v) where
  size := by simpa using h.size
  c0 := by rw [Array.getElem?_setIfInBounds_ne (by omega)]; exact h.c0
  c1 := by rw [Array.getElem?_setIfInBounds_ne (by omega)]; exact h.c1
  c2 := by rw [Array.getElem?_setIfInBounds_ne (by omega)]; exact h.c2
  c3 := by rw [Array.getElem?_setIfInBounds_ne (by omega)]; exact h.c3
  steps := by rw [Array.getElem?_setIfInBounds_ne (by omega)]; exact h.steps
  ahead := fun m h1 h2 => by
    by_cases e : m = l
    · subst e
      exact ⟨v, Array.getElem?_setIfInBounds_self_of_lt (by rw [h.size]; omega), hv⟩
    · rw [Array.getElem?_setIfInBounds_ne (by omega)]
      exact h.ahead m (by omega) h2

theorem PathIn.one {bg : Nat} {ts : List Tow} {n : Nat} {ka : Option Addr} {kn kc seq s : Nat} {cs : Array Value} (h : PathIn bg ts n (.slice ka kn kc) seq 0 s cs) : cs.all (·.oneCell') = true := by
  rw [Array.all_eq_true]
  intro i hi
  have hs := h.size
  have hat : ∀ v, cs[i]? = some v → cs[i] = v := fun v hv => by simpa [hi] using hv
  rcases (show i = 0 ∨ i = 1 ∨ i = 2 ∨ i = 3 ∨ i = 16 ∨ ∃ m, i = 4 + m ∧ m < 12 from by
    by_cases h4 : i < 4
    · omega
    · by_cases h16 : i = 16
      · omega
      · exact .inr (.inr (.inr (.inr (.inr ⟨i - 4, by omega, by omega⟩))))) with rfl | rfl | rfl | rfl | rfl | ⟨m, rfl, hm⟩
  · rw [hat _ h.c0]; rfl
  · rw [hat _ h.c1]; rfl
  · rw [hat _ h.c2]; rfl
  · rw [hat _ h.c3]; rfl
  · rw [hat _ h.steps]; rfl
  · obtain ⟨v, hv, P, rfl, _⟩ := h.ahead m (Nat.zero_le _) hm
    rw [hat _ hv]; rfl
theorem info67 : (Try.prog.info? 67).map (·.size) = some 17 := by kernel_rfl
def stepsOf (g : Nat) (w : World) : Nat := match w.cell? ⟨g, 16, none⟩ with | some (.int _ z) => z.toNat | _ => 0
theorem stepsOf_of {g s : Nat} {w : World} (h : w.cell? ⟨g, 16, none⟩ = some (.int .i64 (s : Nat))) : stepsOf g w = s := by
  unfold stepsOf
  rw [h]
  rfl
def pathZero (kv : Value) (seq : Nat) : Array Value := #[kv, .int .u64 (seq : Nat), .int .i64 0, .slice none 0 0, .pointer none, .pointer none, .pointer none, .pointer none, .pointer none, .pointer none, .pointer none, .pointer none, .pointer none, .pointer none, .pointer none, .pointer none, .int .i64 0]
theorem look_any (A : Nat → Prop) (t bg : Nat) (ts : List Tow) (ka : Option Addr) (kn kc seq : Nat) (key : List (BitVec 8)) (w : World) (h : Tab A w t bg ts) (hk : Bytes w (.slice ka kn kc) key) (hn : ts.length ≤ 1000000) :
    Calls Try.prog 37 #[.pointer (some ⟨t, 0, none⟩), .slice ka kn kc, .int .u64 (seq : Nat)] w fun e w' => ∃ cs, e = .returned (.agg cs) ∧ PathIn bg ts (place (key, seq) ts) (.slice ka kn kc) seq 0 (walk 12 (seg ts (place (key, seq) ts) 0)) cs ∧ Below w.heap.size w w' := by
  have T0 := hide (((Turns.refl (fun _ => False) w).alloc (.cells #[.slice none 0 0, .int .u64 0, .int .i64 0, .slice none 0 0, .pointer none, .pointer none, .pointer none, .pointer none, .pointer none, .pointer none, .pointer none, .pointer none, .pointer none, .pointer none, .pointer none, .pointer none, .int .i64 0] 67)).alloc (.cells #[.slice ka kn kc, .int .u64 (seq : Nat), .int .i64 0, .slice none 0 0, .pointer none, .pointer none, .pointer none, .pointer none, .pointer none, .pointer none, .pointer none, .pointer none, .pointer none, .pointer none, .pointer none, .pointer none, .int .i64 0] 67))
  have HT := hide ((h.mono (A' := fun k => A k ∧ k < w.heap.size) fun k hk ha => ⟨ha, hk⟩).quiet T0.out)
  have HK := hide hk
  have hr0 := heap_keep ((Below.refl _ (w.alloc (.cells #[.slice none 0 0, .int .u64 0, .int .i64 0, .slice none 0 0, .pointer none, .pointer none, .pointer none, .pointer none, .pointer none, .pointer none, .pointer none, .pointer none, .pointer none, .pointer none, .pointer none, .pointer none, .int .i64 0] 67))).alloc (Nat.le_refl _) (.cells #[.slice ka kn kc, .int .u64 (seq : Nat), .int .i64 0, .slice none 0 0, .pointer none, .pointer none, .pointer none, .pointer none, .pointer none, .pointer none, .pointer none, .pointer none, .pointer none, .pointer none, .pointer none, .pointer none, .int .i64 0] 67)) (heap_alloc_new w (.cells #[.slice none 0 0, .int .u64 0, .int .i64 0, .slice none 0 0, .pointer none, .pointer none, .pointer none, .pointer none, .pointer none, .pointer none, .pointer none, .pointer none, .pointer none, .pointer none, .pointer none, .pointer none, .int .i64 0] 67))
  have hr1 := heap_alloc_new (w.alloc (.cells #[.slice none 0 0, .int .u64 0, .int .i64 0, .slice none 0 0, .pointer none, .pointer none, .pointer none, .pointer none, .pointer none, .pointer none, .pointer none, .pointer none, .pointer none, .pointer none, .pointer none, .pointer none, .int .i64 0] 67)) (.cells #[.slice ka kn kc, .int .u64 (seq : Nat), .int .i64 0, .slice none 0 0, .pointer none, .pointer none, .pointer none, .pointer none, .pointer none, .pointer none, .pointer none, .pointer none, .pointer none, .pointer none, .pointer none, .pointer none, .int .i64 0] 67)
  rw [show (w.alloc (.cells #[.slice none 0 0, .int .u64 0, .int .i64 0, .slice none 0 0, .pointer none, .pointer none, .pointer none, .pointer none, .pointer none, .pointer none, .pointer none, .pointer none, .pointer none, .pointer none, .pointer none, .pointer none, .int .i64 0] 67)).heap.size = w.heap.size + 1 by simp] at hr1
  have R0 := hide hr0
  have R1 := hide hr1
  clear h hk hr0 hr1
  go_enter Try.func37, Try.ntmps37
  go_upto_region 2 with (fail)
  generalize ((w.alloc (.cells #[.slice none 0 0, .int .u64 0, .int .i64 0, .slice none 0 0, .pointer none, .pointer none, .pointer none, .pointer none, .pointer none, .pointer none, .pointer none, .pointer none, .pointer none, .pointer none, .pointer none, .pointer none, .int .i64 0] 67)).alloc (.cells #[.slice ka kn kc, .int .u64 (seq : Nat), .int .i64 0, .slice none 0 0, .pointer none, .pointer none, .pointer none, .pointer none, .pointer none, .pointer none, .pointer none, .pointer none, .pointer none, .pointer none, .pointer none, .pointer none, .int .i64 0] 67)) = w0 at *
  generalize hgr : w.heap.size = gr at *
  have HGR := hide hgr
  clear hgr
  have t0 : w0.cell? ⟨t, 0, none⟩ = some (.pointer (some ⟨bg, 0, none⟩)) := cell_of_row w0 t 0 _ 56 (0, 0) HT.out.tab
  have hn1 := place_le (key, seq) ts
  have hiff := place_iff (key, seq) ts HT.out.sorted
  generalize hpl : place (key, seq) ts = n at *
  have HPL := hide hpl
  clear hpl
  have HIFF := hide hiff
  have HGO := hide (show ∀ (wr : World), Turns (fun k => k = gr + 1) w0 wr → Tab (fun k => A k ∧ k < gr) wr t bg ts from fun wr tr => HT.out.keep tr fun k _ ha e => by omega)
  have HKO := hide (show ∀ (wr : World), Turns (fun k => k = gr + 1) w0 wr → Bytes wr (.slice ka kn kc) key from fun wr tr => HK.out.quiet (T0.out.andThen tr fun k hk e => by have := HGR.out; omega))
  clear hiff
  go_wp2_with fail
  go_loopw [8, 9] (fun v8 v9 wr => ∃ (p L1 s : Nat) (cs : Array Value), ((L1 = 0 ∧ v9 = .int .i64 (-1)) ∨ ∃ l, L1 = l + 1 ∧ v9 = .int .i64 (l : Nat)) ∧ L1 ≤ 12 ∧ v8 = .pointer (some ⟨nodeB bg ts p, 0, none⟩) ∧ p ≤ n ∧ L1 ≤ nodeH ts p ∧ s + walk L1 (seg ts n p) = walk 12 (seg ts n 0) ∧ wr.heap[gr + 1]? = some (.cells cs 67 (0, 0)) ∧ PathIn bg ts n (.slice ka kn kc) seq L1 s cs ∧ Turns (fun k => k = gr + 1) w0 wr) (fun _ v9 _ => (intOf v9 + 1).toNat)
  case atStart =>
    refine ⟨0, 12, 0, _, .inr ⟨11, rfl, rfl⟩, Nat.le_refl _, rfl, Nat.zero_le _, Nat.le_refl _, by rw [Nat.zero_add], R1.out, ⟨rfl, rfl, rfl, rfl, rfl, rfl, fun m h1 h2 => by omega⟩, Turns.refl _ _⟩
  case round =>
    obtain ⟨p0, L1, s0, cs0, hL, hL12, rfl, hp0, hH0, hW0, hC0, hP0, hT0⟩ := hrel
    have HC0 := hide hC0
    have HP0 := hide hP0
    have TR0 := hide hT0
    have HW := hide hW0
    clear hC0 hP0 hT0 hW0
    rcases hL with ⟨rfl, rfl⟩ | ⟨l, rfl, rfl⟩
    · have hr0 := TR0.out.heap R0.out (by show ¬ gr = gr + 1; omega)
      have RA := hide hr0
      have ONE := hide HP0.out.one
      have SZ := hide HP0.out.size
      clear hr0
      go_wp2_with (first
        | (refine wpList_load_row rfl 67 _ rfl _ rfl _ _ _ _ HC0.out Try.underlying67 rfl (by rw [SZ.out]; exact info67) ?_)
        | (refine wpList_store_row rfl 67 _ _ rfl _ cs0 rfl rfl _ _ RA.out (by rw [SZ.out]; exact info67) (by rw [SZ.out]; rfl) ONE.out ?_))
      have hfin := setRow_heap wr gr _ cs0 67 (0, 0) RA.out
      refine bodyPost_ret (v := .agg cs0) ?_ rfl ?_
      · exact results_cell_row Try.results37 _ _ _ _ _ _ _ rfl hfin Try.underlying67 rfl (by rw [SZ.out]; exact info67)
      · have h1 := HW.out
        have h2 : s0 = walk 12 (seg ts n 0) := by simpa [walk] using h1
        have hpz := HP0.out
        rw [h2] at hpz
        have hg := HGR.out
        have hTT : Turns (fun _ => False) w wr := T0.out.andThen TR0.out fun k hk e => by omega
        refine ⟨cs0, rfl, by rw [HPL.out]; exact hpz, ?_⟩
        exact below_setRow (hTT.below (by omega) (fun _ x => x.elim)) (by omega) cs0
    · have i0 : ¬ (l : Int) < 0 := by omega
      have i0' : (0 : Int) ≤ l := by omega
      have TB := hide (HGO.out wr TR0.out)
      obtain ⟨cn, hnode, _⟩ := TB.out.nodes.node p0 (by omega)
      have HND := hide hnode
      have hh := (nodeH_le TB.out (p := p0) (by omega)).2
      have xl : wr.cell? ⟨nodeB bg ts p0, 5 + l, none⟩ = some (ptrO (nxt l (ts.drop p0))) := (cell_of_row wr _ (5 + l) cn 64 (0, 0) hnode.heap).trans (hnode.room l (by omega))
      have i1 : (l : Int) < nodeH ts p0 := by omega
      clear hnode
      go_wp2_with (go_at_call 52; refine (levels_any _ _ _ _ _ HND.out hh).mono ?_; rintro e w1 ⟨rfl, m1, rfl⟩)
      have hS1 : s0 + (pass l (seg ts n p0)).2 = s0 + (pass l (seg ts n p0)).2 := rfl
      generalize hS : s0 + (pass l (seg ts n p0)).2 = S1 at *
      generalize hP : p0 + (pass l (seg ts n p0)).1 = P1
      have HWT : Hid (S1 + 1 + walk l (seg ts n P1) = walk 12 (seg ts n 0)) := by
        have h1 : s0 + ((pass l (seg ts n p0)).2 + 1 + walk l ((seg ts n p0).drop (pass l (seg ts n p0)).1)) = walk 12 (seg ts n 0) := HW.out
        rw [seg_drop, hP] at h1
        show S1 + 1 + walk l (seg ts n P1) = walk 12 (seg ts n 0)
        omega
      have HSS := hide hS
      have HPP := hide hP
      obtain ⟨v27, hv27⟩ : ∃ v, ptrO (nxt l (ts.drop p0)) = v := ⟨_, rfl⟩
      have HV27 := hide hv27.symm
      rw [hv27]
      clear hS1 hS hP xl TB HND hh i1 hv27
      have TR1 := hide (TR0.out.drewN m1)
      have HC1 := hide (show (wr.drewN m1).heap[gr + 1]? = some (.cells cs0 67 (0, 0)) from HC0.out)
      clear TR0 HC0 HW
      generalize wr.drewN m1 = w1 at *
      clear wr
      go_loopw [8, 10] (fun v8 v10 wr => ∃ (p s : Nat) (cs : Array Value), v8 = .pointer (some ⟨nodeB bg ts p, 0, none⟩) ∧ v10 = ptrO (nxt l (ts.drop p)) ∧ p ≤ n ∧ l + 1 ≤ nodeH ts p ∧ s + (pass l (seg ts n p)).2 = S1 ∧ p + (pass l (seg ts n p)).1 = P1 ∧ wr.heap[gr + 1]? = some (.cells cs 67 (0, 0)) ∧ PathIn bg ts n (.slice ka kn kc) seq (l + 1) s cs ∧ Turns (fun k => k = gr + 1) w0 wr) (fun _ _ wr => S1 - stepsOf (gr + 1) wr)
      case atStart => exact ⟨p0, s0, cs0, rfl, HV27.out, hp0, hH0, HSS.out, HPP.out, HC1.out, HP0.out, TR1.out⟩
      case round =>
        obtain ⟨p, s, cs, rfl, rfl, hp, hH, hS, hP, hC, hPin, hT⟩ := hrel
        have HS1 := hide hS
        have HP1 := hide hP
        have HC9 := hide hC
        have PIN := hide hPin
        have TR9 := hide hT
        clear hS hP hC hPin hT HP0 HC1 TR1 HSS HPP
        have hsb : s ≤ 2000000 := by
          have h1 := HS1.out
          have h2 := HWT.out
          have h3 := walk_le 12 (seg ts n 0)
          have h4 : (seg ts n 0).length ≤ ts.length := by unfold seg; simp; omega
          omega
        have hl12 : l < 12 := by omega
        have hl12' : (l : Int) < 12 := by omega
        obtain ⟨v4, hv4⟩ : ∃ v, cs[4 + l]? = some v := ⟨cs[4 + l]'(by have := PIN.out.size; omega), by simp⟩
        have y1 : wr.cell? ⟨gr + 1, 4 + l, none⟩ = some v4 := (cell_of_row wr (gr + 1) (4 + l) cs 67 (0, 0) HC9.out).trans hv4
        have y2 : wr.frozen? ⟨gr + 1, 4 + l, none⟩ = false := frozen_of_row wr (gr + 1) (4 + l) cs 67 HC9.out
        have y3 : wr.cell? ⟨gr + 1, 16, none⟩ = some (.int .i64 (s : Nat)) := (cell_of_row wr (gr + 1) 16 cs 67 (0, 0) HC9.out).trans PIN.out.steps
        have y4 : wr.frozen? ⟨gr + 1, 16, none⟩ = false := frozen_of_row wr (gr + 1) 16 cs 67 HC9.out
        clear hv4
        rcases nxt_cases l ts p with ⟨e, hall⟩ | ⟨j, x, hpj, hx, hlx, e, hlow⟩
        · rw [e]
          have AHD := hide (show AheadAt bg ts n l (.pointer (some ⟨nodeB bg ts p, 0, none⟩)) from ⟨p, rfl, hp, by omega, fun j x h1 _ h3 => hall j x h1 h3⟩)
          have PZ := hide (seg_none (ts := ts) (n := n) (p := p) (l := l) fun j x h1 _ h3 => hall j x h1 h3)
          clear e hall
          rw [show ptrO none = Value.pointer none from rfl]
          go_wp2_with fail
          go_quiet (fail)
          rename_i nq
          have RX := hide (show (wr.drewN nq).heap[gr + 1]? = some (.cells cs 67 (0, 0)) from HC9.out)
          have TX := hide (TR9.out.drewN nq)
          go_wp2_with fail
          have TK := hide (((Tick.refl (show (wr.drewN nq).heap[gr + 1]? = _ from RX.out)).set (4 + l) (.pointer (some ⟨nodeB bg ts p, 0, none⟩))).set 16 (.int .i64 ((s : Int) + 1)))
          go_roundw
          case rel =>
            have pin2 := (PIN.out.down hl12 AHD.out).step (s + 1)
            refine ⟨p, l, s + 1, _, ?_, by omega, rfl, hp, by omega, ?_, TK.out.1, pin2, TX.out.trans (Turns.of_tick TK.out)⟩
            · cases l with
              | zero => exact .inl ⟨rfl, by go_num⟩
              | succ l' => exact .inr ⟨l', rfl, by go_num⟩
            · have h1 := HS1.out
              have h2 := HP1.out
              have h3 := HWT.out
              rw [PZ.out] at h1 h2
              simp only [Nat.add_zero] at h1 h2
              rw [h1, h2]
              exact h3
          case measure =>
            simp [intOf]
        · rw [e]
          clear e
          have TB := hide (HGO.out wr TR9.out)
          obtain ⟨cx, hnx, hex⟩ := TB.out.nodes.node (j + 1) (by have := (List.getElem?_eq_some_iff.1 hx).1; omega)
          have hex := hex j x rfl hx
          rw [nodeB_at hx] at hnx
          have x0 : wr.cell? ⟨x.b, 0, none⟩ = some (.slice x.ka x.e.key.length x.kc) := (cell_of_row wr x.b 0 cx 64 (0, 0) hnx.heap).trans hex.1
          have x1 : wr.cell? ⟨x.b, 1, none⟩ = some (.int .u64 (x.e.seq : Nat)) := (cell_of_row wr x.b 1 cx 64 (0, 0) hnx.heap).trans hex.2.1
          have x2 : wr.cell? ⟨x.b, 2, none⟩ = some (.int .i64 x.e.kind) := (cell_of_row wr x.b 2 cx 64 (0, 0) hnx.heap).trans hex.2.2.1
          have x3 : wr.cell? ⟨x.b, 3, none⟩ = some (.slice x.va x.e.val.length x.vc) := (cell_of_row wr x.b 3 cx 64 (0, 0) hnx.heap).trans hex.2.2.2
          have z0 : wr.cell? ⟨gr + 1, 0, none⟩ = some (.slice ka kn kc) := (cell_of_row wr (gr + 1) 0 cs 67 (0, 0) HC9.out).trans PIN.out.c0
          have z1 : wr.cell? ⟨gr + 1, 1, none⟩ = some (.int .u64 (seq : Nat)) := (cell_of_row wr (gr + 1) 1 cs 67 (0, 0) HC9.out).trans PIN.out.c1
          have z2 : wr.cell? ⟨gr + 1, 2, none⟩ = some (.int .i64 0) := (cell_of_row wr (gr + 1) 2 cs 67 (0, 0) HC9.out).trans PIN.out.c2
          have z3 : wr.cell? ⟨gr + 1, 3, none⟩ = some (.slice none 0 0) := (cell_of_row wr (gr + 1) 3 cs 67 (0, 0) HC9.out).trans PIN.out.c3
          have HCP := hide (compare_any x.ka ka x.va none x.e.key.length x.kc x.e.val.length x.vc kn kc 0 0 x.e.kind 0 x.e.seq seq x.e.key key wr.drew ((TB.out.keys x (List.mem_of_getElem? hx)).1.quiet (Turns.refl _ wr).drew) ((HKO.out wr TR9.out).quiet (Turns.refl _ wr).drew))
          have HJ := hide (HIFF.out j x hx)
          clear hnx hex
          obtain ⟨z, hz⟩ : ∃ z, cmpE (x.e.key, x.e.seq) (key, seq) = z := ⟨_, rfl⟩
          have HZ := hide hz
          have HJ : Hid (j < n ↔ z < 0) := by rw [← hz]; exact HJ.out
          clear hz
          by_cases hjn : j < n
          · have zlt : z < 0 := HJ.out.1 hjn
            rw [show ptrO (some x.b) = Value.pointer (some ⟨x.b, 0, none⟩) from rfl]
            go_wp2_with fail
            go_region_held (fun w' => (w'.cell? ⟨x.b, 0, none⟩ = some (.slice x.ka x.e.key.length x.kc) ∧ w'.cell? ⟨x.b, 1, none⟩ = some (.int .u64 (x.e.seq : Nat)) ∧ w'.cell? ⟨x.b, 2, none⟩ = some (.int .i64 x.e.kind) ∧ w'.cell? ⟨x.b, 3, none⟩ = some (.slice x.va x.e.val.length x.vc)) ∧ w'.cell? ⟨gr + 1, 0, none⟩ = some (.slice ka kn kc) ∧ w'.cell? ⟨gr + 1, 1, none⟩ = some (.int .u64 (seq : Nat)) ∧ w'.cell? ⟨gr + 1, 2, none⟩ = some (.int .i64 0) ∧ w'.cell? ⟨gr + 1, 3, none⟩ = some (.slice none 0 0)) (first | (with_reducible exact ⟨⟨f0, f1, f2, f3⟩, g0, g1, g2, g3⟩) | (simp only [World.cell?_drew]; with_reducible exact ⟨⟨x0, x1, x2, x3⟩, z0, z1, z2, z3⟩)) (first
              | (go_at_call 53; refine HCP.out.mono ?_; rintro e w2 ⟨rfl, b2⟩; rw [HZ.out]; have t2 := (Turns.refl (fun _ => False) wr).drew.trans (Turns.of_below b2 (fun _ => False)); have f0 := t2.cell x0 (fun x => x); have f1 := t2.cell x1 (fun x => x); have f2 := t2.cell x2 (fun x => x); have f3 := t2.cell x3 (fun x => x); have g0 := t2.cell z0 (fun x => x); have g1 := t2.cell z1 (fun x => x); have g2 := t2.cell z2 (fun x => x); have g3 := t2.cell z3 (fun x => x); have T2 := hide t2; clear t2 b2))
            clear f0 f1 f2 f3 g0 g1 g2 g3 x0 x1 x2 x3 z0 z1 z2 z3
            have y1 := T2.out.cell y1 (fun x => x)
            have y2 := frozen_of_row w2 (gr + 1) (4 + l) cs 67 (T2.out.heap HC9.out (fun x => x))
            have y3 := T2.out.cell y3 (fun x => x)
            have y4 := frozen_of_row w2 (gr + 1) 16 cs 67 (T2.out.heap HC9.out (fun x => x))
            have RX := hide (T2.out.heap HC9.out (fun x => x))
            have TX := hide (TR9.out.trans (T2.out.mono fun _ _ x => x.elim))
            have TK := hide ((Tick.refl RX.out).set 16 (.int .i64 ((s : Int) + 1)))
            have TB3 := hide (HGO.out _ (TX.out.trans (Turns.of_tick TK.out)))
            obtain ⟨cy, hny, _⟩ := TB3.out.nodes.node (j + 1) (by have := (List.getElem?_eq_some_iff.1 hx).1; omega)
            have hxm := List.mem_of_getElem? hx
            have hhx := (TB3.out.tall x hxm).2
            rw [nodeB_at hx, nodeH_at hx] at hny
            have HNY := hide hny
            have xl := (cell_of_row _ _ (5 + l) cy 64 (0, 0) hny.heap).trans (hny.room l hlx)
            have i1 : (l : Int) < x.h := by omega
            have HXX := hide hx
            have PF := hide (seg_found (n := n) hpj hjn hx hlx hlow)
            clear hny hlow hx TB3 TB hxm
            go_wp2_with (go_at_call 52; refine (levels_any _ _ _ _ _ HNY.out hhx).mono ?_; rintro e w4 ⟨rfl, m4, rfl⟩)
            go_roundw
            case rel =>
              have h1 := HS1.out
              have h2 := HP1.out
              rw [PF.out] at h1 h2
              simp only at h1 h2
              refine ⟨j + 1, s + 1, _, by rw [nodeB_at HXX.out], rfl, by omega, by rw [nodeH_at HXX.out]; omega, by omega, by omega, TK.out.1, PIN.out.step (s + 1), (TX.out.trans (Turns.of_tick TK.out)).drewN m4⟩
            case measure =>
              have h1 := HS1.out
              rw [PF.out] at h1
              simp only at h1
              have h2 : stepsOf (gr + 1) wr = s := stepsOf_of ((cell_of_row wr (gr + 1) 16 cs 67 (0, 0) HC9.out).trans PIN.out.steps)
              have h3 : stepsOf (gr + 1) ((w2.setCell ⟨gr + 1, 16, none⟩ (.int .i64 ((s : Int) + 1))).drewN m4) = s + 1 := stepsOf_of (show (w2.setCell ⟨gr + 1, 16, none⟩ (.int .i64 ((s : Int) + 1))).cell? ⟨gr + 1, 16, none⟩ = _ from (cell_of_row _ (gr + 1) 16 _ 67 (0, 0) TK.out.1).trans (PIN.out.step (s + 1)).steps)
              rw [h2, h3]
              omega
          · have zge : ¬ z < 0 := fun h => hjn (HJ.out.2 h)
            have zge' : 0 ≤ z := by omega
            have AHD := hide (show AheadAt bg ts n l (.pointer (some ⟨nodeB bg ts p, 0, none⟩)) from ⟨p, rfl, hp, by omega, fun i y h1 h2 h3 => hlow i y h1 (by omega) h3⟩)
            have PZ := hide (seg_none (ts := ts) (n := n) (p := p) (l := l) fun i y h1 h2 h3 => hlow i y h1 (by omega) h3)
            clear zge hlow hx TB
            rw [show ptrO (some x.b) = Value.pointer (some ⟨x.b, 0, none⟩) from rfl]
            go_wp2_with fail
            go_region_held (fun w' => (w'.cell? ⟨x.b, 0, none⟩ = some (.slice x.ka x.e.key.length x.kc) ∧ w'.cell? ⟨x.b, 1, none⟩ = some (.int .u64 (x.e.seq : Nat)) ∧ w'.cell? ⟨x.b, 2, none⟩ = some (.int .i64 x.e.kind) ∧ w'.cell? ⟨x.b, 3, none⟩ = some (.slice x.va x.e.val.length x.vc)) ∧ w'.cell? ⟨gr + 1, 0, none⟩ = some (.slice ka kn kc) ∧ w'.cell? ⟨gr + 1, 1, none⟩ = some (.int .u64 (seq : Nat)) ∧ w'.cell? ⟨gr + 1, 2, none⟩ = some (.int .i64 0) ∧ w'.cell? ⟨gr + 1, 3, none⟩ = some (.slice none 0 0)) (first | (with_reducible exact ⟨⟨f0, f1, f2, f3⟩, g0, g1, g2, g3⟩) | (simp only [World.cell?_drew]; with_reducible exact ⟨⟨x0, x1, x2, x3⟩, z0, z1, z2, z3⟩)) (first
              | (go_at_call 53; refine HCP.out.mono ?_; rintro e w2 ⟨rfl, b2⟩; rw [HZ.out]; have t2 := (Turns.refl (fun _ => False) wr).drew.trans (Turns.of_below b2 (fun _ => False)); have f0 := t2.cell x0 (fun x => x); have f1 := t2.cell x1 (fun x => x); have f2 := t2.cell x2 (fun x => x); have f3 := t2.cell x3 (fun x => x); have g0 := t2.cell z0 (fun x => x); have g1 := t2.cell z1 (fun x => x); have g2 := t2.cell z2 (fun x => x); have g3 := t2.cell z3 (fun x => x); have T2 := hide t2; clear t2 b2))
            clear f0 f1 f2 f3 g0 g1 g2 g3 x0 x1 x2 x3 z0 z1 z2 z3
            have y1 := T2.out.cell y1 (fun x => x)
            have y2 := frozen_of_row w2 (gr + 1) (4 + l) cs 67 (T2.out.heap HC9.out (fun x => x))
            have y3 := T2.out.cell y3 (fun x => x)
            have y4 := frozen_of_row w2 (gr + 1) 16 cs 67 (T2.out.heap HC9.out (fun x => x))
            have RX := hide (T2.out.heap HC9.out (fun x => x))
            have TX := hide (TR9.out.trans (T2.out.mono fun _ _ x => x.elim))
            go_wp2_with fail
            have TK := hide (((Tick.refl (show w2.heap[gr + 1]? = _ from RX.out)).set (4 + l) (.pointer (some ⟨nodeB bg ts p, 0, none⟩))).set 16 (.int .i64 ((s : Int) + 1)))
            go_roundw
            case rel =>
              have pin2 := (PIN.out.down hl12 AHD.out).step (s + 1)
              refine ⟨p, l, s + 1, _, ?_, by omega, rfl, hp, by omega, ?_, TK.out.1, pin2, TX.out.trans (Turns.of_tick TK.out)⟩
              · cases l with
                | zero => exact .inl ⟨rfl, by go_num⟩
                | succ l' => exact .inr ⟨l', rfl, by go_num⟩
              · have h1 := HS1.out
                have h2 := HP1.out
                have h3 := HWT.out
                rw [PZ.out] at h1 h2
                simp only [Nat.add_zero] at h1 h2
                rw [h1, h2]
                exact h3
            case measure =>
              simp [intOf]
end Go.Proofs.Ytkeglaplckfllaa

/-
  What stands behind a place, and at it.
-/
namespace Go.Proofs.Ytkeglaplckfllaa
open Go.RowKit
set_option maxRecDepth 100000
set_option maxHeartbeats 4000000
theorem nxt_zero {A : Nat → Prop} {w : World} {t bg : Nat} {ts : List Tow} (h : Tab A w t bg ts) (n : Nat) : nxt 0 (ts.drop n) = (ts[n]?).map (·.b) := by
  rcases nxt_cases 0 ts n with ⟨e, hall⟩ | ⟨j, x, hpj, hx, hlx, e, hlow⟩
  · rw [e]
    cases e2 : ts[n]? with
    | none => rfl
    | some y =>
      have := (h.tall y (List.mem_of_getElem? e2)).1
      exact absurd (by omega) (hall n y (Nat.le_refl _) e2)
  · rw [e]
    have hj : j = n := by
      rcases Nat.lt_or_ge n j with hl | hl
      · have hnl : n < ts.length := by have := (List.getElem?_eq_some_iff.1 hx).1; omega
        have h1 := hlow n ts[n] (Nat.le_refl _) hl (List.getElem?_eq_getElem hnl)
        have := (h.tall ts[n] (List.getElem_mem hnl)).1
        exact absurd (by omega) h1
      · omega
    rw [← hj, hx]
    rfl
theorem ahead_zero {A : Nat → Prop} {w : World} {t bg : Nat} {ts : List Tow} (h : Tab A w t bg ts) {n : Nat} (hn : n ≤ ts.length) {v : Value} (ha : AheadAt bg ts n 0 v) : v = .pointer (some ⟨nodeB bg ts n, 0, none⟩) := by
  obtain ⟨P, rfl, hP, _, h2⟩ := ha
  have : P = n := by
    rcases Nat.lt_or_ge P n with hl | hl
    · have hPl : P < ts.length := by omega
      have := (h.tall ts[P] (List.getElem_mem hPl)).1
      exact absurd (by omega) (h2 P ts[P] (Nat.le_refl _) hl (List.getElem?_eq_getElem hPl))
    · omega
  rw [this]
section
variable {A : Nat → Prop} {t bg : Nat} {ts : List Tow} {n seq s : Nat} {cs : Array Value} {ka : Option Addr} {kn kc : Nat}
theorem behind_any (w : World) (h : Tab A w t bg ts) (hn : n ≤ ts.length) (hp : PathIn bg ts n (.slice ka kn kc) seq 0 s cs) :
    Calls Try.prog 41 #[.agg cs] w fun e w' => e = .returned (ptrO ((ts[n]?).map (·.b))) ∧ Below w.heap.size w w' := by
  obtain ⟨v, hv, ha⟩ := hp.ahead 0 (Nat.le_refl _) (by omega)
  have hv0 := ahead_zero h hn ha
  subst hv0
  have hr := heap_alloc_new w (.cells cs 67)
  have T0 := hide ((Turns.refl (fun _ => False) w).alloc (.cells cs 67))
  have HT := hide (h.quiet T0.out)
  have hv4 : cs[4]? = some (.pointer (some ⟨nodeB bg ts n, 0, none⟩)) := hv
  have c4 : (w.alloc (.cells cs 67)).cell? ⟨w.heap.size, 4, none⟩ = some (.pointer (some ⟨nodeB bg ts n, 0, none⟩)) := (cell_of_row _ _ 4 cs 67 (0, 0) hr).trans hv4
  have hz := nxt_zero h n
  have hh := nodeH_le h hn
  obtain ⟨cn, hnode, _⟩ := HT.out.nodes.node n hn
  have HND := hide hnode
  have xl : (w.alloc (.cells cs 67)).cell? ⟨nodeB bg ts n, 5, none⟩ = some (ptrO ((ts[n]?).map (·.b))) := by
    rw [← hz]
    exact (cell_of_row _ _ 5 cn 64 (0, 0) hnode.heap).trans (hnode.room 0 (by omega))
  have i1 : (0 : Int) < nodeH ts n := by omega
  have hh12 := hh.2
  have SZ := hide hp.size
  have ONE := hide hp.one
  clear hnode hz hv hv4 hr hp ha h hh
  generalize hpo : ptrO ((ts[n]?).map (·.b)) = po at *
  clear hpo
  go_enter Try.func41, Try.ntmps41
  go_upto_region 1 with (fail)
  generalize w.alloc (.cells cs 67) = w0 at *
  go_wp2_with (go_at_call 52; refine (levels_any _ _ _ _ _ HND.out hh12).mono ?_; rintro e w1 ⟨rfl, m1, rfl⟩)
  go_ret
  exact ⟨rfl, (T0.out.drewN m1).below (Nat.le_refl _) (fun _ x => x.elim)⟩
/-- The tower at a place. -/
def atT (ts : List Tow) (n : Nat) (q : En) : Option Tow := match ts[n]? with
  | some x => if cmpE x.e.en q = 0 then some x else none
  | none => none
theorem at_any (key : List (BitVec 8)) (w : World) (h : Tab A w t bg ts) (hn : n ≤ ts.length) (hp : PathIn bg ts n (.slice ka kn kc) seq 0 s cs) (hk : Bytes w (.slice ka kn kc) key) :
    Calls Try.prog 38 #[.agg cs] w fun e w' => e = .returned (ptrO ((atT ts n (key, seq)).map (·.b))) ∧ Below w.heap.size w w' := by
  have hr := heap_alloc_new w (.cells cs 67)
  have HR := hide hr
  have T0 := hide ((Turns.refl (fun _ => False) w).alloc (.cells cs 67))
  have HT := hide (h.quiet T0.out)
  have HK := hide (hk.quiet T0.out)
  have PIN := hide hp
  have SZ := hide hp.size
  have HB := hide (behind_any (w.alloc (.cells cs 67)) HT.out hn hp)
  clear hr h hk hp
  obtain ⟨v, hv⟩ : ∃ v, ptrO ((atT ts n (key, seq)).map (·.b)) = v := ⟨_, rfl⟩
  rw [hv]
  have HV := hide hv
  clear hv
  go_enter Try.func38, Try.ntmps38
  go_upto_region 1 with (fail)
  generalize w.alloc (.cells cs 67) = w0 at *
  generalize hg0 : w.heap.size = g at *
  go_wp2_with (first
    | (refine wpList_load_row rfl 67 _ rfl _ rfl _ _ _ _ HR.out Try.underlying67 rfl (by rw [SZ.out]; exact info67) ?_)
    | (go_at_call 41; refine HB.out.mono ?_; rintro e w1 ⟨rfl, b1⟩; have T1 := hide (Turns.of_below b1 (fun _ => False)); clear b1))
  cases hx : ts[n]? with
  | none =>
    have hv0 : v = .pointer none := by rw [← HV.out]; unfold atT; rw [hx]; rfl
    subst hv0
    rw [show ptrO (Option.map (·.b) (none : Option Tow)) = Value.pointer none from rfl]
    clear hx
    go_quiet (fail)
    rename_i nq
    go_wp2_with fail
    go_ret
    exact ⟨rfl, ((T0.out.trans T1.out).drewN nq).below (by omega) (fun _ x => x.elim)⟩
  | some x =>
    have TB := hide (HT.out.quiet T1.out)
    obtain ⟨cx, hnx, hex⟩ := TB.out.nodes.node (n + 1) (by have := (List.getElem?_eq_some_iff.1 hx).1; omega)
    have hex := hex n x rfl hx
    rw [nodeB_at hx] at hnx
    have x0 : w1.cell? ⟨x.b, 0, none⟩ = some (.slice x.ka x.e.key.length x.kc) := (cell_of_row w1 x.b 0 cx 64 (0, 0) hnx.heap).trans hex.1
    have x1 : w1.cell? ⟨x.b, 1, none⟩ = some (.int .u64 (x.e.seq : Nat)) := (cell_of_row w1 x.b 1 cx 64 (0, 0) hnx.heap).trans hex.2.1
    have x2 : w1.cell? ⟨x.b, 2, none⟩ = some (.int .i64 x.e.kind) := (cell_of_row w1 x.b 2 cx 64 (0, 0) hnx.heap).trans hex.2.2.1
    have x3 : w1.cell? ⟨x.b, 3, none⟩ = some (.slice x.va x.e.val.length x.vc) := (cell_of_row w1 x.b 3 cx 64 (0, 0) hnx.heap).trans hex.2.2.2
    have HR1 := hide (T1.out.heap HR.out (fun x => x))
    have z0 : w1.cell? ⟨g, 0, none⟩ = some (.slice ka kn kc) := (cell_of_row w1 g 0 cs 67 (0, 0) HR1.out).trans PIN.out.c0
    have z1 : w1.cell? ⟨g, 1, none⟩ = some (.int .u64 (seq : Nat)) := (cell_of_row w1 g 1 cs 67 (0, 0) HR1.out).trans PIN.out.c1
    have z2 : w1.cell? ⟨g, 2, none⟩ = some (.int .i64 0) := (cell_of_row w1 g 2 cs 67 (0, 0) HR1.out).trans PIN.out.c2
    have z3 : w1.cell? ⟨g, 3, none⟩ = some (.slice none 0 0) := (cell_of_row w1 g 3 cs 67 (0, 0) HR1.out).trans PIN.out.c3
    have HCP := hide (compare_any x.ka ka x.va none x.e.key.length x.kc x.e.val.length x.vc kn kc 0 0 x.e.kind 0 x.e.seq seq x.e.key key w1.drew ((TB.out.keys x (List.mem_of_getElem? hx)).1.quiet (Turns.refl _ w1).drew) ((HK.out.quiet T1.out).quiet (Turns.refl _ w1).drew))
    have HV2 : Hid (v = if cmpE (x.e.key, x.e.seq) (key, seq) = 0 then .pointer (some ⟨x.b, 0, none⟩) else .pointer none) := by
      show _ = _
      rw [← HV.out]
      unfold atT
      rw [hx]
      show ptrO (Option.map (·.b) (if cmpE x.e.en (key, seq) = 0 then some x else none)) = _
      show ptrO (Option.map (·.b) (if cmpE (x.e.key, x.e.seq) (key, seq) = 0 then some x else none)) = _
      split <;> rfl
    rw [show ptrO (Option.map (·.b) (some x)) = Value.pointer (some ⟨x.b, 0, none⟩) from rfl]
    obtain ⟨z, hz⟩ : ∃ z, cmpE (x.e.key, x.e.seq) (key, seq) = z := ⟨_, rfl⟩
    rw [hz] at HV2
    have HZ := hide hz
    clear hnx hex hz hx HV
    go_region_held (fun w' => (w'.cell? ⟨x.b, 0, none⟩ = some (.slice x.ka x.e.key.length x.kc) ∧ w'.cell? ⟨x.b, 1, none⟩ = some (.int .u64 (x.e.seq : Nat)) ∧ w'.cell? ⟨x.b, 2, none⟩ = some (.int .i64 x.e.kind) ∧ w'.cell? ⟨x.b, 3, none⟩ = some (.slice x.va x.e.val.length x.vc)) ∧ w'.cell? ⟨g, 0, none⟩ = some (.slice ka kn kc) ∧ w'.cell? ⟨g, 1, none⟩ = some (.int .u64 (seq : Nat)) ∧ w'.cell? ⟨g, 2, none⟩ = some (.int .i64 0) ∧ w'.cell? ⟨g, 3, none⟩ = some (.slice none 0 0)) (first | (with_reducible exact ⟨⟨f0, f1, f2, f3⟩, g0, g1, g2, g3⟩) | (simp only [World.cell?_drew]; with_reducible exact ⟨⟨x0, x1, x2, x3⟩, z0, z1, z2, z3⟩)) (first
      | (go_at_call 53; refine HCP.out.mono ?_; rintro e w2 ⟨rfl, b2⟩; rw [HZ.out]; have t2 := (Turns.refl (fun _ => False) w1).drew.trans (Turns.of_below b2 (fun _ => False)); have f0 := t2.cell x0 (fun x => x); have f1 := t2.cell x1 (fun x => x); have f2 := t2.cell x2 (fun x => x); have f3 := t2.cell x3 (fun x => x); have g0 := t2.cell z0 (fun x => x); have g1 := t2.cell z1 (fun x => x); have g2 := t2.cell z2 (fun x => x); have g3 := t2.cell z3 (fun x => x); have T2 := hide t2; clear t2 b2))
    clear f0 f1 f2 f3 g0 g1 g2 g3 x0 x1 x2 x3 z0 z1 z2 z3
    have hfin : Below g w w2 := ((T0.out.trans T1.out).trans T2.out).below (by omega) (fun _ x => x.elim)
    have HF := hide hfin
    clear hfin
    by_cases hz0 : z = 0
    · have hv1 := HV2.out
      rw [if_pos hz0] at hv1
      have hb0 : (z != 0) = false := by simp [hz0]
      clear hz0
      go_wp2_with fail
      go_ret
      exact ⟨by rw [hv1]; rfl, by rw [hg0]; exact HF.out⟩
    · have hv1 := HV2.out
      rw [if_neg hz0] at hv1
      have hb0 : (z != 0) = true := by simp [hz0]
      clear hz0
      go_wp2_with fail
      go_ret
      exact ⟨by rw [hv1]; rfl, by rw [hg0]; exact HF.out⟩
end
end Go.Proofs.Ytkeglaplckfllaa

/-
  What a table tells of one entry.
-/
namespace Go.Proofs.Ytkeglaplckfllaa
open Go.RowKit
set_option maxRecDepth 100000
set_option maxHeartbeats 4000000
theorem made_any (A : Nat → Prop) (t bg : Nat) (ts : List Tow) (w : World) (h : Tab A w t bg ts) : Calls Try.prog 35 #[.pointer (some ⟨t, 0, none⟩)] w fun e w' => e = .returned (.bool true) ∧ w' = w := by
  have t0 : w.cell? ⟨t, 0, none⟩ = some (.pointer (some ⟨bg, 0, none⟩)) := cell_of_row w t 0 _ 56 (0, 0) h.tab
  clear h
  go_enter Try.func35, Try.ntmps35
  go_wp2_with fail
  go_ret
  exact ⟨rfl, rfl⟩
/-- A table that is not there, or that nobody made. -/
def NoTab (w : World) (p : Option Addr) : Prop := p = none ∨ ∃ t, p = some ⟨t, 0, none⟩ ∧ w.cell? ⟨t, 0, none⟩ = some (.pointer none)
theorem made_no (p : Option Addr) (w : World) (h : NoTab w p) : Calls Try.prog 35 #[.pointer p] w fun e w' => e = .returned (.bool false) ∧ w' = w := by
  rcases h with rfl | ⟨t, rfl, h⟩
  · go_enter Try.func35, Try.ntmps35
    go_wp2_with fail
    go_ret
    exact ⟨rfl, rfl⟩
  · go_enter Try.func35, Try.ntmps35
    go_wp2_with fail
    go_ret
    exact ⟨rfl, rfl⟩
theorem equal_any (a a' : Option Addr) (n n' c c' : Nat) (x y : List (BitVec 8)) (w : World) (h : Bytes w (.slice a n c) x) (h' : Bytes w (.slice a' n' c') y) :
    Calls Try.prog 46 #[.slice a n c, .slice a' n' c'] w fun e w' => e = .returned (.bool (decide (x = y))) ∧ w' = w := by
  have h1 := conv_any h
  have h2 := conv_any h'
  have hd : (u8s x == u8s y) = decide (x = y) := by
    by_cases e : x = y
    · simp [e]
    · have : ¬ u8s x = u8s y := fun e2 => e (u8s_inj e2)
      simp [e, this]
  rw [← hd]
  clear h h' hd
  go_enter Try.func46, Try.ntmps46
  go_wp2_with fail
  go_ret
  exact ⟨rfl, rfl⟩
theorem sizeT_mem {x : Tow} : ∀ {ts : List Tow}, x ∈ ts → x.e.key.length + x.e.val.length + 32 ≤ sizeT ts
  | y :: r, h => by
    unfold sizeT
    rw [List.map_cons, List.sum_cons]
    rcases List.mem_cons.1 h with rfl | h
    · omega
    · have := sizeT_mem h
      unfold sizeT at this
      omega
theorem PathIn.explicit {bg : Nat} {ts : List Tow} {n : Nat} {kv : Value} {seq L1 s : Nat} {cs : Array Value} (h : PathIn bg ts n kv seq L1 s cs) : ∃ v0 v1 v2 v3 v4 v5 v6 v7 v8 v9 v10 v11 v12 v13 v14 v15 : Value, cs = #[v0, v1, v2, v3, v4, v5, v6, v7, v8, v9, v10, v11, v12, v13, v14, v15, .int .i64 (s : Nat)] := by
  obtain ⟨l⟩ := cs
  have hsz : l.length = 17 := h.size
  match l, hsz with
  | [v0, v1, v2, v3, v4, v5, v6, v7, v8, v9, v10, v11, v12, v13, v14, v15, v16], _ =>
    have e16 : v16 = .int .i64 (s : Nat) := by simpa using h.steps
    subst e16
    exact ⟨v0, v1, v2, v3, v4, v5, v6, v7, v8, v9, v10, v11, v12, v13, v14, v15, rfl⟩
theorem field_steps (v0 v1 v2 v3 v4 v5 v6 v7 v8 v9 v10 v11 v12 v13 v14 v15 x : Value) (w : World) : (Instr.field 67 (.agg #[v0, v1, v2, v3, v4, v5, v6, v7, v8, v9, v10, v11, v12, v13, v14, v15, x]) 2).run Try.prog w = .ok x w := by
  kernel_rfl
section
variable (A : Nat → Prop) (t bg : Nat) (ts : List Tow) (w : World)
theorem len_any (h : Tab A w t bg ts) : Calls Try.prog 13 #[.pointer (some ⟨t, 0, none⟩)] w fun e w' => e = .returned (.int .i64 (ts.length : Nat)) ∧ w' = w := by
  have t1 : w.cell? ⟨t, 1, none⟩ = some (.int .i64 (ts.length : Nat)) := cell_of_row w t 1 _ 56 (0, 0) h.tab
  have HM := hide (made_any A t bg ts w h)
  clear h
  go_enter Try.func13, Try.ntmps13
  go_wp2_with (go_at_call 35; refine HM.out.mono ?_; rintro e w1 ⟨rfl, rfl⟩)
  go_ret
  exact ⟨rfl, rfl⟩
theorem sizeT_any (h : Tab A w t bg ts) : Calls Try.prog 22 #[.pointer (some ⟨t, 0, none⟩)] w fun e w' => e = .returned (.int .i64 (sizeT ts : Nat)) ∧ w' = w := by
  have t1 : w.cell? ⟨t, 2, none⟩ = some (.int .i64 (sizeT ts : Nat)) := cell_of_row w t 2 _ 56 (0, 0) h.tab
  have HM := hide (made_any A t bg ts w h)
  clear h
  go_enter Try.func22, Try.ntmps22
  go_wp2_with (go_at_call 35; refine HM.out.mono ?_; rintro e w1 ⟨rfl, rfl⟩)
  go_ret
  exact ⟨rfl, rfl⟩
variable (ka : Option Addr) (kn kc seq : Nat) (key : List (BitVec 8))
theorem steps_any (h : Tab A w t bg ts) (hk : Bytes w (.slice ka kn kc) key) (hn : ts.length ≤ 1000000) :
    Calls Try.prog 26 #[.pointer (some ⟨t, 0, none⟩), .slice ka kn kc, .int .u64 (seq : Nat)] w fun e w' => e = .returned (.int .i64 (walk 12 (seg ts (place (key, seq) ts) 0) : Nat)) ∧ Below w.heap.size w w' := by
  have HM := hide (made_any A t bg ts w h)
  have HL := hide (look_any A t bg ts ka kn kc seq key w h hk hn)
  clear h hk
  go_enter Try.func26, Try.ntmps26
  go_wp2_with (first | (go_at_call 35; refine HM.out.mono ?_; rintro e w1 ⟨rfl, hw1⟩; subst hw1) | (go_at_call 37; refine HL.out.mono ?_; rintro e w2 ⟨cs, rfl, hp, b2⟩; obtain ⟨v0, v1, v2, v3, v4, v5, v6, v7, v8, v9, v10, v11, v12, v13, v14, v15, rfl⟩ := hp.explicit; have hfd := field_steps v0 v1 v2 v3 v4 v5 v6 v7 v8 v9 v10 v11 v12 v13 v14 v15 (.int .i64 (walk 12 (seg ts (place (key, seq) ts) 0) : Nat)) w2; have B2 := hide b2; clear hp b2))
  go_ret
  exact ⟨rfl, B2.out⟩
theorem height_any (h : Tab A w t bg ts) (hk : Bytes w (.slice ka kn kc) key) (hn : ts.length ≤ 1000000) :
    Calls Try.prog 24 #[.pointer (some ⟨t, 0, none⟩), .slice ka kn kc, .int .u64 (seq : Nat)] w fun e w' => e = .returned (.int .i64 (((atT ts (place (key, seq) ts) (key, seq)).map (·.h)).getD 0 : Nat)) ∧ Below w.heap.size w w' := by
  have HM := hide (made_any A t bg ts w h)
  have HL := hide (look_any A t bg ts ka kn kc seq key w h hk hn)
  have HT := hide h
  have HK := hide hk
  have hpl := place_le (key, seq) ts
  clear h hk
  generalize place (key, seq) ts = n at *
  obtain ⟨hv, HV⟩ : ∃ v, ((atT ts n (key, seq)).map (·.h)).getD 0 = v := ⟨_, rfl⟩
  rw [HV]
  go_enter Try.func24, Try.ntmps24
  go_upto_region 4 with (first | (go_at_call 35; refine HM.out.mono ?_; rintro e w1 ⟨rfl, hw1⟩; subst hw1) | (go_at_call 37; refine HL.out.mono ?_; rintro e w2 ⟨cs, rfl, hp, b2⟩; have PIN := hide hp; have T2 := hide (Turns.of_below b2 (fun _ => False)); clear hp b2) | (go_at_call 38; refine (at_any key w2 (HT.out.quiet T2.out) hpl PIN.out (HK.out.quiet T2.out)).mono ?_; rintro e w3 ⟨rfl, b3⟩; have T3 := hide (T2.out.trans (Turns.of_below b3 (fun _ => False))); clear b3))
  have HF := hide (T3.out.below (Nat.le_refl _) (fun _ x => x.elim))
  cases e : atT ts n (key, seq) with
  | none =>
    rw [show ptrO (Option.map (·.b) (none : Option Tow)) = Value.pointer none from rfl]
    rw [e] at HV
    have hv0 : hv = 0 := HV.symm
    subst hv0
    clear e HV
    go_wp2_with fail
    go_ret
    exact ⟨rfl, HF.out⟩
  | some x =>
    rw [show ptrO (Option.map (·.b) (some x)) = Value.pointer (some ⟨x.b, 0, none⟩) from rfl]
    have hv0 : x.h = hv := by rw [← HV, e]; rfl
    subst hv0
    clear HV
    have hx : ts[n]? = some x := by
      unfold atT at e
      cases e2 : ts[n]? with
      | none => rw [e2] at e; cases e
      | some y =>
        rw [e2] at e
        simp only at e
        split at e
        · cases e; rfl
        · cases e
    obtain ⟨cx, hnx, _⟩ := (HT.out.quiet T3.out).nodes.node (n + 1) (by have := (List.getElem?_eq_some_iff.1 hx).1; omega)
    rw [nodeB_at hx, nodeH_at hx] at hnx
    have x4 : w3.cell? ⟨x.b, 4, none⟩ = some (.int .i64 (x.h : Nat)) := (cell_of_row w3 x.b 4 cx 64 (0, 0) hnx.heap).trans hnx.height
    clear hnx hx e
    go_wp2_with fail
    go_ret
    exact ⟨rfl, HF.out⟩
theorem seek_any (h : Tab A w t bg ts) (hk : Bytes w (.slice ka kn kc) key) (hn : ts.length ≤ 1000000) (hs : sizeT ts ≤ 1000000) (R : Ending → World → Prop)
    (H0 : ts[place (key, seq) ts]? = none → ∀ w', Below w.heap.size w w' → R (.returned (.tuple #[.agg #[.slice none 0 0, .int .u64 0, .int .i64 0, .slice none 0 0], .bool false])) w')
    (H1 : ∀ x, ts[place (key, seq) ts]? = some x → ∀ w' ka' kc' va' vc', Bytes w' (.slice ka' x.e.key.length kc') x.e.key → Bytes w' (.slice va' x.e.val.length vc') x.e.val → Below w.heap.size w w' → R (.returned (.tuple #[.agg #[.slice ka' x.e.key.length kc', .int .u64 (x.e.seq : Nat), .int .i64 x.e.kind, .slice va' x.e.val.length vc'], .bool true])) w') :
    Calls Try.prog 10 #[.pointer (some ⟨t, 0, none⟩), .slice ka kn kc, .int .u64 (seq : Nat)] w R := by
  have T0 := hide ((Turns.refl (fun _ => False) w).alloc (.cells #[.slice none 0 0, .int .u64 0, .int .i64 0, .slice none 0 0] 29))
  have HT := hide (h.quiet T0.out)
  have HK := hide (hk.quiet T0.out)
  have HR := hide (heap_alloc_new w (.cells #[.slice none 0 0, .int .u64 0, .int .i64 0, .slice none 0 0] 29))
  have HM := hide (made_any A t bg ts _ HT.out)
  have HL := hide (look_any A t bg ts ka kn kc seq key _ HT.out HK.out hn)
  have hpl := place_le (key, seq) ts
  have HH0 := hide H0
  have HH1 := hide H1
  clear h hk H0 H1
  generalize place (key, seq) ts = n at *
  go_enter Try.func10, Try.ntmps10
  go_upto_region 1 with (fail)
  generalize w.alloc (.cells #[.slice none 0 0, .int .u64 0, .int .i64 0, .slice none 0 0] 29) = w0 at *
  generalize hg0 : w.heap.size = g at *
  go_upto_region 4 with (first | (go_at_call 35; refine HM.out.mono ?_; rintro e w1 ⟨rfl, hw1⟩; subst hw1) | (go_at_call 37; refine HL.out.mono ?_; rintro e w2 ⟨cs, rfl, hp, b2⟩; have PIN := hide hp; have T2 := hide (Turns.of_below b2 (fun _ => False)); clear hp b2) | (go_at_call 41; refine (behind_any w2 (HT.out.quiet T2.out) hpl PIN.out).mono ?_; rintro e w3 ⟨rfl, b3⟩; have T3 := hide (T2.out.trans (Turns.of_below b3 (fun _ => False))); clear b3))
  have HR3 := hide (T3.out.heap HR.out (fun x => x))
  cases hx : ts[n]? with
  | none =>
    rw [show ptrO (Option.map (·.b) (none : Option Tow)) = Value.pointer none from rfl]
    have HX := hide hx
    clear hx
    have q0 := cell_of_row w3 g 0 _ 29 (0, 0) HR3.out
    have q1 := cell_of_row w3 g 1 _ 29 (0, 0) HR3.out
    have q2 := cell_of_row w3 g 2 _ 29 (0, 0) HR3.out
    have q3 := cell_of_row w3 g 3 _ 29 (0, 0) HR3.out
    have f0 := frozen_of_row w3 g 0 _ 29 HR3.out
    have f1 := frozen_of_row w3 g 1 _ 29 HR3.out
    have f2 := frozen_of_row w3 g 2 _ 29 HR3.out
    have f3 := frozen_of_row w3 g 3 _ 29 HR3.out
    go_wp2_with fail
    have k3 := (((((Tick.refl HR3.out).set 0 (.slice none 0 0)).set 1 (.int .u64 0)).set 2 (.int .i64 0)).set 3 (.slice none 0 0))
    refine bodyPost_ret (v := .tuple #[.agg #[.slice none 0 0, .int .u64 0, .int .i64 0, .slice none 0 0], .bool false]) ?_ rfl ?_
    · exact results_cell_tmp Try.results10 _ _ _ _ _ _ _ _ rfl rfl k3.1 Try.underlying29 rfl info29
    · refine HH0.out HX.out _ ?_
      exact ((T0.out.trans T3.out).andThen (Turns.of_tick k3) (fun k hk e => by omega)).below (by omega) (fun _ x => x.elim)
  | some x =>
    rw [show ptrO (Option.map (·.b) (some x)) = Value.pointer (some ⟨x.b, 0, none⟩) from rfl]
    have HX := hide hx
    have TB := hide (HT.out.quiet T3.out)
    obtain ⟨cx, hnx, hex⟩ := TB.out.nodes.node (n + 1) (by have := (List.getElem?_eq_some_iff.1 hx).1; omega)
    have hex := hex n x rfl hx
    rw [nodeB_at hx] at hnx
    have x0 : w3.cell? ⟨x.b, 0, none⟩ = some (.slice x.ka x.e.key.length x.kc) := (cell_of_row w3 x.b 0 cx 64 (0, 0) hnx.heap).trans hex.1
    have x1 : w3.cell? ⟨x.b, 1, none⟩ = some (.int .u64 (x.e.seq : Nat)) := (cell_of_row w3 x.b 1 cx 64 (0, 0) hnx.heap).trans hex.2.1
    have x2 : w3.cell? ⟨x.b, 2, none⟩ = some (.int .i64 x.e.kind) := (cell_of_row w3 x.b 2 cx 64 (0, 0) hnx.heap).trans hex.2.2.1
    have x3 : w3.cell? ⟨x.b, 3, none⟩ = some (.slice x.va x.e.val.length x.vc) := (cell_of_row w3 x.b 3 cx 64 (0, 0) hnx.heap).trans hex.2.2.2
    have hmem := List.mem_of_getElem? hx
    have hle := sizeT_mem hmem
    have HCL := hide (cloneE_any x.ka x.va x.e.key.length x.kc x.e.val.length x.vc x.e.seq x.e.kind x.e.key x.e.val w3 (TB.out.keys x hmem).1 (TB.out.keys x hmem).2 (by omega) (by omega))
    clear hnx hex hx hmem
    go_wp2_with (go_at_call 40; refine HCL.out.mono ?_; rintro e w4 ⟨ka', kc', va', vc', rfl, hk4, hv4, hkb, hvb, b4⟩; have T4 := hide (T3.out.trans (Turns.of_below b4 (fun _ => False))); have HK4 := hide hk4; have HV4 := hide hv4; have HKB := hide hkb; have HVB := hide hvb; have hs34 := T3.out.size; have HR4 := hide (T4.out.heap HR.out (fun x => x)); have q0 := cell_of_row w4 g 0 _ 29 (0, 0) HR4.out; have q1 := cell_of_row w4 g 1 _ 29 (0, 0) HR4.out; have q2 := cell_of_row w4 g 2 _ 29 (0, 0) HR4.out; have q3 := cell_of_row w4 g 3 _ 29 (0, 0) HR4.out; have f0 := frozen_of_row w4 g 0 _ 29 HR4.out; have f1 := frozen_of_row w4 g 1 _ 29 HR4.out; have f2 := frozen_of_row w4 g 2 _ 29 HR4.out; have f3 := frozen_of_row w4 g 3 _ 29 HR4.out; clear hk4 hv4 hkb hvb b4 x0 x1 x2 x3)
    have k3 := (((((Tick.refl HR4.out).set 0 (.slice ka' x.e.key.length kc')).set 1 (.int .u64 (x.e.seq : Nat))).set 2 (.int .i64 x.e.kind)).set 3 (.slice va' x.e.val.length vc'))
    have u3 := Turns.of_tick k3
    have hgl : g < w1.heap.size := lt_of_heap HR.out
    refine bodyPost_ret (v := .tuple #[.agg #[.slice ka' x.e.key.length kc', .int .u64 (x.e.seq : Nat), .int .i64 x.e.kind, .slice va' x.e.val.length vc'], .bool true]) ?_ rfl ?_
    · exact results_cell_tmp Try.results10 _ _ _ _ _ _ _ _ rfl rfl k3.1 Try.underlying29 rfl info29
    · refine HH1.out x HX.out _ ka' kc' va' vc' (bytes_keep HK4.out u3 fun a e => ?_) (bytes_keep HV4.out u3 fun a e => ?_) ?_
      · have := (HKB.out a e).1; show ¬ a.block = g; omega
      · have := (HVB.out a e).1; show ¬ a.block = g; omega
      · exact ((T0.out.trans T4.out).andThen u3 (fun k hk e => by omega)).below (by omega) (fun _ x => x.elim)
end
end Go.Proofs.Ytkeglaplckfllaa

/-
  What a table tells of one key.
-/
namespace Go.Proofs.Ytkeglaplckfllaa
open Go.RowKit
set_option maxRecDepth 100000
set_option maxHeartbeats 4000000
section
variable (A : Nat → Prop) (t bg : Nat) (ts : List Tow) (w : World) (ka : Option Addr) (kn kc seq : Nat) (key : List (BitVec 8))
theorem get_any (h : Tab A w t bg ts) (hk : Bytes w (.slice ka kn kc) key) (hn : ts.length ≤ 1000000) (hs : sizeT ts ≤ 1000000) (R : Ending → World → Prop)
    (H0 : (∀ x, ts[place (key, seq) ts]? = some x → x.e.key ≠ key) → ∀ w', Below w.heap.size w w' → R (.returned (.tuple #[.agg #[.slice none 0 0, .int .u64 0, .int .i64 0, .slice none 0 0], .int .i64 6])) w')
    (H1 : ∀ x, ts[place (key, seq) ts]? = some x → x.e.key = key → ∀ w' ka' kc' va' vc', Bytes w' (.slice ka' x.e.key.length kc') x.e.key → Bytes w' (.slice va' x.e.val.length vc') x.e.val → Below w.heap.size w w' → R (.returned (.tuple #[.agg #[.slice ka' x.e.key.length kc', .int .u64 (x.e.seq : Nat), .int .i64 x.e.kind, .slice va' x.e.val.length vc'], .int .i64 0])) w') :
    Calls Try.prog 18 #[.pointer (some ⟨t, 0, none⟩), .slice ka kn kc, .int .u64 (seq : Nat)] w R := by
  have T0 := hide ((Turns.refl (fun _ => False) w).alloc (.cells #[.slice none 0 0, .int .u64 0, .int .i64 0, .slice none 0 0] 29))
  have HT := hide (h.quiet T0.out)
  have HK := hide (hk.quiet T0.out)
  have HR := hide (heap_alloc_new w (.cells #[.slice none 0 0, .int .u64 0, .int .i64 0, .slice none 0 0] 29))
  have HM := hide (made_any A t bg ts _ HT.out)
  have HL := hide (look_any A t bg ts ka kn kc seq key _ HT.out HK.out hn)
  have hpl := place_le (key, seq) ts
  have HH0 := hide H0
  have HH1 := hide H1
  clear h hk H0 H1
  generalize place (key, seq) ts = n at *
  go_enter Try.func18, Try.ntmps18
  go_upto_region 1 with (fail)
  generalize w.alloc (.cells #[.slice none 0 0, .int .u64 0, .int .i64 0, .slice none 0 0] 29) = w0 at *
  generalize hg0 : w.heap.size = g at *
  go_upto_region 4 with (first | (go_at_call 35; refine HM.out.mono ?_; rintro e w1 ⟨rfl, hw1⟩; subst hw1) | (go_at_call 37; refine HL.out.mono ?_; rintro e w2 ⟨cs, rfl, hp, b2⟩; have PIN := hide hp; have T2 := hide (Turns.of_below b2 (fun _ => False)); clear hp b2) | (go_at_call 41; refine (behind_any w2 (HT.out.quiet T2.out) hpl PIN.out).mono ?_; rintro e w3 ⟨rfl, b3⟩; have T3 := hide (T2.out.trans (Turns.of_below b3 (fun _ => False))); clear b3))
  have HR3 := hide (T3.out.heap HR.out (fun x => x))
  cases hx : ts[n]? with
  | none =>
    rw [show ptrO (Option.map (·.b) (none : Option Tow)) = Value.pointer none from rfl]
    have HX := hide hx
    clear hx
    have q0 := cell_of_row w3 g 0 _ 29 (0, 0) HR3.out
    have q1 := cell_of_row w3 g 1 _ 29 (0, 0) HR3.out
    have q2 := cell_of_row w3 g 2 _ 29 (0, 0) HR3.out
    have q3 := cell_of_row w3 g 3 _ 29 (0, 0) HR3.out
    have f0 := frozen_of_row w3 g 0 _ 29 HR3.out
    have f1 := frozen_of_row w3 g 1 _ 29 HR3.out
    have f2 := frozen_of_row w3 g 2 _ 29 HR3.out
    have f3 := frozen_of_row w3 g 3 _ 29 HR3.out
    go_wp2_with fail
    have k3 := (((((Tick.refl HR3.out).set 0 (.slice none 0 0)).set 1 (.int .u64 0)).set 2 (.int .i64 0)).set 3 (.slice none 0 0))
    refine bodyPost_ret (v := .tuple #[.agg #[.slice none 0 0, .int .u64 0, .int .i64 0, .slice none 0 0], .int .i64 6]) ?_ rfl ?_
    · exact results_cell_tmp Try.results18 _ _ _ _ _ _ _ _ rfl rfl k3.1 Try.underlying29 rfl info29
    · refine HH0.out (fun x hx => by rw [HX.out] at hx; cases hx) _ ?_
      exact ((T0.out.trans T3.out).andThen (Turns.of_tick k3) (fun k hk e => by omega)).below (by omega) (fun _ x => x.elim)
  | some x =>
    rw [show ptrO (Option.map (·.b) (some x)) = Value.pointer (some ⟨x.b, 0, none⟩) from rfl]
    have HX := hide hx
    have TB := hide (HT.out.quiet T3.out)
    obtain ⟨cx, hnx, hex⟩ := TB.out.nodes.node (n + 1) (by have := (List.getElem?_eq_some_iff.1 hx).1; omega)
    have hex := hex n x rfl hx
    rw [nodeB_at hx] at hnx
    have x0 : w3.cell? ⟨x.b, 0, none⟩ = some (.slice x.ka x.e.key.length x.kc) := (cell_of_row w3 x.b 0 cx 64 (0, 0) hnx.heap).trans hex.1
    have x1 : w3.cell? ⟨x.b, 1, none⟩ = some (.int .u64 (x.e.seq : Nat)) := (cell_of_row w3 x.b 1 cx 64 (0, 0) hnx.heap).trans hex.2.1
    have x2 : w3.cell? ⟨x.b, 2, none⟩ = some (.int .i64 x.e.kind) := (cell_of_row w3 x.b 2 cx 64 (0, 0) hnx.heap).trans hex.2.2.1
    have x3 : w3.cell? ⟨x.b, 3, none⟩ = some (.slice x.va x.e.val.length x.vc) := (cell_of_row w3 x.b 3 cx 64 (0, 0) hnx.heap).trans hex.2.2.2
    have hmem := List.mem_of_getElem? hx
    have hle := sizeT_mem hmem
    have HCL := hide (cloneE_any x.ka x.va x.e.key.length x.kc x.e.val.length x.vc x.e.seq x.e.kind x.e.key x.e.val w3 (TB.out.keys x hmem).1 (TB.out.keys x hmem).2 (by omega) (by omega))
    have HEQ := hide (equal_any x.ka ka x.e.key.length kn x.kc kc x.e.key key w3 (TB.out.keys x hmem).1 (HK.out.quiet T3.out))
    clear hnx hex hx hmem
    by_cases heq : x.e.key = key
    · have HD := hide (show decide (x.e.key = key) = true by simp [heq])
      have HEK := hide heq
      clear heq
      go_wp2_with (first | (go_at_call 46; refine HEQ.out.mono ?_; rintro e w9 ⟨rfl, hw9⟩; subst hw9; rw [HD.out]) | (go_at_call 40; refine HCL.out.mono ?_; rintro e w4 ⟨ka', kc', va', vc', rfl, hk4, hv4, hkb, hvb, b4⟩; have T4 := hide (T3.out.trans (Turns.of_below b4 (fun _ => False))); have HK4 := hide hk4; have HV4 := hide hv4; have HKB := hide hkb; have HVB := hide hvb; have hs34 := T3.out.size; have HR4 := hide (T4.out.heap HR.out (fun x => x)); have q0 := cell_of_row w4 g 0 _ 29 (0, 0) HR4.out; have q1 := cell_of_row w4 g 1 _ 29 (0, 0) HR4.out; have q2 := cell_of_row w4 g 2 _ 29 (0, 0) HR4.out; have q3 := cell_of_row w4 g 3 _ 29 (0, 0) HR4.out; have f0 := frozen_of_row w4 g 0 _ 29 HR4.out; have f1 := frozen_of_row w4 g 1 _ 29 HR4.out; have f2 := frozen_of_row w4 g 2 _ 29 HR4.out; have f3 := frozen_of_row w4 g 3 _ 29 HR4.out; clear hk4 hv4 hkb hvb b4 x0 x1 x2 x3))
      have k3 := (((((Tick.refl HR4.out).set 0 (.slice ka' x.e.key.length kc')).set 1 (.int .u64 (x.e.seq : Nat))).set 2 (.int .i64 x.e.kind)).set 3 (.slice va' x.e.val.length vc'))
      have u3 := Turns.of_tick k3
      have hgl : g < w1.heap.size := lt_of_heap HR.out
      refine bodyPost_ret (v := .tuple #[.agg #[.slice ka' x.e.key.length kc', .int .u64 (x.e.seq : Nat), .int .i64 x.e.kind, .slice va' x.e.val.length vc'], .int .i64 0]) ?_ rfl ?_
      · exact results_cell_tmp Try.results18 _ _ _ _ _ _ _ _ rfl rfl k3.1 Try.underlying29 rfl info29
      · refine HH1.out x HX.out HEK.out _ ka' kc' va' vc' (bytes_keep HK4.out u3 fun a e => ?_) (bytes_keep HV4.out u3 fun a e => ?_) ?_
        · have := (HKB.out a e).1; show ¬ a.block = g; omega
        · have := (HVB.out a e).1; show ¬ a.block = g; omega
        · exact ((T0.out.trans T4.out).andThen u3 (fun k hk e => by omega)).below (by omega) (fun _ x => x.elim)
    · have HD := hide (show decide (x.e.key = key) = false by simp [heq])
      have q0 := cell_of_row w3 g 0 _ 29 (0, 0) HR3.out
      have q1 := cell_of_row w3 g 1 _ 29 (0, 0) HR3.out
      have q2 := cell_of_row w3 g 2 _ 29 (0, 0) HR3.out
      have q3 := cell_of_row w3 g 3 _ 29 (0, 0) HR3.out
      have f0 := frozen_of_row w3 g 0 _ 29 HR3.out
      have f1 := frozen_of_row w3 g 1 _ 29 HR3.out
      have f2 := frozen_of_row w3 g 2 _ 29 HR3.out
      have f3 := frozen_of_row w3 g 3 _ 29 HR3.out
      have k3 := (((((Tick.refl HR3.out).set 0 (.slice none 0 0)).set 1 (.int .u64 0)).set 2 (.int .i64 0)).set 3 (.slice none 0 0))
      have K3 := hide k3
      clear k3
      have hfin := hide (((T0.out.trans T3.out).andThen (Turns.of_tick K3.out) (fun k hk e => by omega)).below (B := g) (by omega) (fun _ x => x.elim))
      go_wp2_with (first | (go_at_call 46; refine HEQ.out.mono ?_; rintro e w9 ⟨rfl, hw9⟩; subst hw9; rw [HD.out]))
      refine bodyPost_ret (v := .tuple #[.agg #[.slice none 0 0, .int .u64 0, .int .i64 0, .slice none 0 0], .int .i64 6]) ?_ rfl ?_
      · exact results_cell_tmp Try.results18 _ _ _ _ _ _ _ _ rfl rfl K3.out.1 Try.underlying29 rfl info29
      · exact HH0.out (fun y hy => by rw [HX.out] at hy; cases hy; exact heq) _ hfin.out
end
end Go.Proofs.Ytkeglaplckfllaa
