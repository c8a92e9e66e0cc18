import Derived.Test.YtmmcikbedegigaaM23
import Derived.Test.YtmmcikbedegigaaM02
import Derived.Test.YtmmcikbedegigaaM20
/-
  The document's Whole.
-/
namespace Go.Proofs.Ytmmcikbedegigaa
open Go.RowKit
set_option maxRecDepth 100000
set_option maxHeartbeats 4000000
theorem wholeF_take {L : List Lv} {k : Nat} {x : Lv} (h : L[k]? = some x) : wholeF (flL (L.take (k + 1))) = wholeF (flL (L.take k)) ++ (fls x.l).map fun f => ((k : Int), f) := by
  rw [← adsOf_F, ← adsOf_F, adsOf_take h]
  simp [fA, fls]
/-- How the memory stands while Whole goes. -/
structure Wz (w wr : World) (E next seq log : Nat) (vc : Array Value) (sa : Option Addr) (sn sc : Nat) (Ad : List (Int × Tf)) : Prop where
  hv : wr.heap[w.heap.size]? = some (.cells vc 25 (0, 0))
  hz : wr.heap[w.heap.size + 1]? = some (.cells #[.slice none 0 0, .slice none 0 0, .int .u64 0, .int .u64 0, .int .u64 0] 33 (0, 0))
  he : wr.heap[E]? = some (.cells #[.slice none 0 0, .slice sa sn sc, .int .u64 (next : Nat), .int .u64 (seq : Nat), .int .u64 (log : Nat)] 33 (0, 0))
  hE : w.heap.size + 1 < E
  len : sn = Ad.length
  row : ARow wr w.heap.size sa sc Ad
  fts : ∀ d ∈ Ad, FT wr w.heap.size d.2
  tw : Turns (fun _ => False) w wr
theorem Wz.quiet {w wr wr' : World} {E next seq log : Nat} {vc : Array Value} {sa : Option Addr} {sn sc : Nat} {Ad : List (Int × Tf)} (h : Wz w wr E next seq log vc sa sn sc Ad) (t : Turns (fun _ => False) wr wr') : Wz w wr' E next seq log vc sa sn sc Ad :=
  ⟨t.heap h.hv (fun x => x), t.heap h.hz (fun x => x), t.heap h.he (fun x => x), h.hE, h.len, h.row.keep t (fun _ _ x => x), fun d hd => (h.fts d hd).quiet t, h.tw.trans t⟩
theorem Wz.step {w wr w1 : World} {E next seq log : Nat} {vc : Array Value} {sa : Option Addr} {sn sc : Nat} {Ad : List (Int × Tf)} (h : Wz w wr E next seq log vc sa sn sc Ad) {d : Int × Tf} {a' : Option Addr} {n' c' : Nat} (t : Turns (fun j => sa = some ⟨j, 0, none⟩) wr w1) (hn : n' = (Ad ++ [d]).length) (hr : ARow w1 w.heap.size a' c' (Ad ++ [d])) (hf : FT wr w.heap.size d.2) : Wz w (w1.setCell ⟨E, 1, none⟩ (.slice a' n' c')) E next seq log vc a' n' c' (Ad ++ [d]) := by
  have hne : ∀ {p : Nat} {cs : Array Value} {ty : TypeId} {z : Nat × Nat}, wr.heap[p]? = some (.cells cs ty z) → ty ≠ 62 → ¬ sa = some ⟨p, 0, none⟩ := fun hp h1 e => h.row.ne hp h1 _ e rfl
  have v1 := t.heap h.hv (hne h.hv (by decide))
  have z1 := t.heap h.hz (hne h.hz (by decide))
  have e1 := t.heap h.he (hne h.he (by decide))
  have tk := (Tick.refl e1).set 1 (.slice a' n' c')
  have t2 := Turns.of_tick tk
  have hE := h.hE
  have tw1 : Turns (fun _ => False) w w1 := h.tw.andThen t fun j hj e => by
    rcases h.row with ⟨h0, _⟩ | ⟨g, h1, h2, _⟩
    · rw [h0] at e; cases e
    · rw [h1] at e; cases e; omega
  have n5 : ∀ k, sa = some ⟨k, 0, none⟩ → w.heap.size ≤ k → ∀ cs z, ¬ wr.heap[k]? = some (.cells cs 5 z) := fun k e _ cs z hz => h.row.ne hz (by decide) k e rfl
  have m5 : ∀ k, k = E → w.heap.size ≤ k → ∀ cs z, ¬ w1.heap[k]? = some (.cells cs 5 z) := fun k e _ cs z hz => by rw [e, e1] at hz; cases hz
  refine ⟨t2.heap v1 (by omega), t2.heap z1 (by omega), tk.1, h.hE, hn, hr.keep t2 fun g e e2 => hr.ne e1 (by decide) g e e2, fun x hx => ?_, tw1.andThen t2 fun j hj e => by omega⟩
  rcases List.mem_append.1 hx with h1 | h1
  · exact ((h.fts x h1).keep t n5).keep t2 m5
  · rw [List.mem_singleton.1 h1]; exact (hf.keep t n5).keep t2 m5
theorem rwhole_any (a : Option Addr) (n c next seq log : Nat) (L : List Lv) (w : World) (h : VerIn w a n L next seq log) :
    Calls Try.prog 17 #[verAgg a n c next seq log] w fun e w' => Turns (fun _ => False) w w' ∧ Wholed w' (flL L) next seq log e := by
  have H := hide h
  have TA := hide (((Turns.refl (fun _ => False) w).alloc (.cells #[.slice a n c, .int .u64 (next : Nat), .int .u64 (seq : Nat), .int .u64 (log : Nat)] 25)).alloc (.cells #[.slice none 0 0, .slice none 0 0, .int .u64 0, .int .u64 0, .int .u64 0] 33))
  have G0 := hide (show ((w.alloc (.cells #[.slice a n c, .int .u64 (next : Nat), .int .u64 (seq : Nat), .int .u64 (log : Nat)] 25)).alloc (.cells #[.slice none 0 0, .slice none 0 0, .int .u64 0, .int .u64 0, .int .u64 0] 33)).heap[w.heap.size]? = some (.cells #[.slice a n c, .int .u64 (next : Nat), .int .u64 (seq : Nat), .int .u64 (log : Nat)] 25) from ((Turns.refl (fun _ => False) (w.alloc (.cells #[.slice a n c, .int .u64 (next : Nat), .int .u64 (seq : Nat), .int .u64 (log : Nat)] 25))).alloc (.cells #[.slice none 0 0, .slice none 0 0, .int .u64 0, .int .u64 0, .int .u64 0] 33)).heap (heap_alloc_new w (.cells #[.slice a n c, .int .u64 (next : Nat), .int .u64 (seq : Nat), .int .u64 (log : Nat)] 25)) (fun x => x))
  have G1 := hide (show ((w.alloc (.cells #[.slice a n c, .int .u64 (next : Nat), .int .u64 (seq : Nat), .int .u64 (log : Nat)] 25)).alloc (.cells #[.slice none 0 0, .slice none 0 0, .int .u64 0, .int .u64 0, .int .u64 0] 33)).heap[w.heap.size + 1]? = some (.cells #[.slice none 0 0, .slice none 0 0, .int .u64 0, .int .u64 0, .int .u64 0] 33) from by have := heap_alloc_new (w.alloc (.cells #[.slice a n c, .int .u64 (next : Nat), .int .u64 (seq : Nat), .int .u64 (log : Nat)] 25)) (.cells #[.slice none 0 0, .slice none 0 0, .int .u64 0, .int .u64 0, .int .u64 0] 33); rwa [show (w.alloc (.cells #[.slice a n c, .int .u64 (next : Nat), .int .u64 (seq : Nat), .int .u64 (log : Nat)] 25)).heap.size = w.heap.size + 1 by simp] at this)
  have HS0 := hide (show w.heap.size + 1 < ((w.alloc (.cells #[.slice a n c, .int .u64 (next : Nat), .int .u64 (seq : Nat), .int .u64 (log : Nat)] 25)).alloc (.cells #[.slice none 0 0, .slice none 0 0, .int .u64 0, .int .u64 0, .int .u64 0] 33)).heap.size by simp)
  have CK := hide (rcheck_any a n c next seq log L _ (h.quiet TA.out))
  unfold verAgg at *
  clear h
  by_cases hw : wrongV L next seq log = true
  · rw [show chkV L next seq log = 2 by unfold chkV; rw [if_pos hw]] at CK
    have HWV := hide (show wrongVF (flL L) next seq log = true by rw [← wrongV_F]; exact hw)
    clear hw
    go_enter Try.func17, Try.ntmps17
    go_wp2_with fail
    generalize (w.alloc (.cells #[.slice a n c, .int .u64 (next : Nat), .int .u64 (seq : Nat), .int .u64 (log : Nat)] 25)).alloc (.cells #[.slice none 0 0, .slice none 0 0, .int .u64 0, .int .u64 0, .int .u64 0] 33) = w0 at *
    generalize hP : w.heap.size = P at *
    have HP := hide hP
    clear hP
    refine CK.out.mono ?_
    rintro e w1 ⟨rfl, t1⟩
    have T1 := hide (TA.out.trans t1)
    have G3 := hide (t1.heap G1.out (fun x => x))
    clear t1
    have rz0 := cell_of_row w1 (P + 1) 0 _ 33 (0, 0) G3.out
    have zz0 := frozen_of_row w1 (P + 1) 0 _ 33 G3.out
    have rz1 := cell_of_row w1 (P + 1) 1 _ 33 (0, 0) G3.out
    have zz1 := frozen_of_row w1 (P + 1) 1 _ 33 G3.out
    have rz2 := cell_of_row w1 (P + 1) 2 _ 33 (0, 0) G3.out
    have zz2 := frozen_of_row w1 (P + 1) 2 _ 33 G3.out
    have rz3 := cell_of_row w1 (P + 1) 3 _ 33 (0, 0) G3.out
    have zz3 := frozen_of_row w1 (P + 1) 3 _ 33 G3.out
    have rz4 := cell_of_row w1 (P + 1) 4 _ 33 (0, 0) G3.out
    have zz4 := frozen_of_row w1 (P + 1) 4 _ 33 G3.out
    go_wp2_with fail
    have tk := ((((((Tick.refl G3.out).set 0 (.slice none 0 0)).set 1 (.slice none 0 0)).set 2 (.int .u64 0)).set 3 (.int .u64 0)).set 4 (.int .u64 0))
    refine bodyPost_ret (v := .tuple #[.agg #[.slice none 0 0, .slice none 0 0, .int .u64 0, .int .u64 0, .int .u64 0], .int .i64 2]) ?_ rfl ?_
    · exact results_cell_tmp Try.results17 _ _ _ _ _ _ _ _ rfl rfl tk.1 Try.underlying33 rfl sz33w
    · exact ⟨T1.out.andThen (Turns.of_tick tk) (fun j hj e => by have := HP.out; omega), .inl ⟨HWV.out, rfl⟩⟩
  rw [Bool.not_eq_true] at hw
  rw [show chkV L next seq log = 0 by unfold chkV; rw [if_neg (by rw [hw]; simp)]] at CK
  have HWF := hide (show wrongVF (flL L) next seq log = false by rw [← wrongV_F]; exact hw)
  have h5 : L.length = 5 := by have := len_of_ok HWF.out; rwa [flL_length] at this
  obtain rfl : n = 5 := by have := H.out.len; omega
  have HKL := hide (fun (x : Lv) (hx : x ∈ L) (y : Tf) (hy : y ∈ x.l) => show y.f.least.length ≤ 1000000 ∧ y.f.most.length ≤ 1000000 by
    have := wrongF_false (wrongV_files hw x hx y hy)
    omega)
  have HL5 := hide h5
  clear hw h5
  go_enter Try.func17, Try.ntmps17
  go_wp2_with fail
  generalize (w.alloc (.cells #[.slice a 5 c, .int .u64 (next : Nat), .int .u64 (seq : Nat), .int .u64 (log : Nat)] 25)).alloc (.cells #[.slice none 0 0, .slice none 0 0, .int .u64 0, .int .u64 0, .int .u64 0] 33) = w0 at *
  generalize hP : w.heap.size = P at *
  have HP := hide hP
  clear hP
  refine CK.out.mono ?_
  rintro e w1 ⟨rfl, t1⟩
  have T1 := hide t1
  have r1 := t1.heap G0.out (fun x => x)
  have e0 := cell_of_row w1 P 0 _ 25 (0, 0) r1
  have e1 := cell_of_row w1 P 1 _ 25 (0, 0) r1
  have e2 := cell_of_row w1 P 2 _ 25 (0, 0) r1
  have e3 := cell_of_row w1 P 3 _ 25 (0, 0) r1
  have WZ0 := hide (show Wz w (w1.alloc (.cells #[.slice none 0 0, .slice none 0 0, .int .u64 (next : Nat), .int .u64 (seq : Nat), .int .u64 (log : Nat)] 33)) w1.heap.size next seq log #[.slice a 5 c, .int .u64 (next : Nat), .int .u64 (seq : Nat), .int .u64 (log : Nat)] none 0 0 [] from
    ⟨by rw [HP.out]; exact (t1.alloc _).heap G0.out (fun x => x), by rw [HP.out]; exact (t1.alloc _).heap G1.out (fun x => x), heap_alloc_new _ _, by have := t1.size; have := HS0.out; have := HP.out; omega, rfl, .inl ⟨rfl, rfl, rfl⟩, fun d hd => absurd hd (by simp), TA.out.trans (t1.alloc _)⟩)
  clear t1 r1
  go_wp2_with fail
  generalize w1.alloc (.cells #[.slice none 0 0, .slice none 0 0, .int .u64 (next : Nat), .int .u64 (seq : Nat), .int .u64 (log : Nat)] 33) = w3 at *
  generalize w1.heap.size = E at *
  clear e0 e1 e2 e3
  go_loopw [6] (fun i wr => ∃ (k : Nat) (sa : Option Addr) (sn sc : Nat) (Ad : List (Int × Tf)), i = .int .i64 (k : Nat) ∧ k ≤ 5 ∧ Wz w wr E next seq log #[.slice a 5 c, .int .u64 (next : Nat), .int .u64 (seq : Nat), .int .u64 (log : Nat)] sa sn sc Ad ∧ fA Ad = wholeF (flL (L.take k))) (fun i _ => 5 - (intOf i).toNat)
  case atStart => exact ⟨0, none, 0, 0, [], rfl, by omega, WZ0.out, by simp [fA, wholeF, flL]⟩
  case round =>
    clear WZ0
    obtain ⟨k, sa, sn, sc, Ad, rfl, hk, hwz, hfa⟩ := hrel
    obtain ⟨wu, rfl⟩ : ∃ u, u = wr := ⟨wr, rfl⟩
    have WZ := hide hwz
    have HFA := hide hfa
    have v0 : wu.cell? ⟨P, 0, none⟩ = some (.slice a 5 c) := cell_of_row wu P 0 _ 25 (0, 0) (by have := hwz.hv; rwa [HP.out] at this)
    clear hwz hfa
    by_cases hkn : k < 5
    · obtain ⟨x, hx⟩ : ∃ x, L[k]? = some x := ⟨_, List.getElem?_eq_getElem (by have := HL5.out; omega)⟩
      have k1 : (k : Int) < 5 := by omega
      have k0 : (0 : Int) ≤ (k : Int) := by omega
      have HLV := hide (fun (u : World) (t : Turns (fun _ => False) w u) => (H.out.levs.quiet t) k x hx)
      have HKX := hide (HKL.out x (List.mem_of_getElem? hx))
      have HXB := hide (show x.l.length ≤ 5000 by have q1 := cnt_take_le L (k + 1); have q2 := cnt_take hx; have := H.out.cnt; omega)
      have HAB := hide (show (wholeF (flL (L.take k))).length ≤ 5000 by
        rw [← adsOf_F]
        unfold fA
        rw [List.length_map, adsOf_length]
        have := cnt_take_le L k
        have := H.out.cnt
        omega)
      have HTK := hide (wholeF_take hx)
      obtain ⟨⟨b, off, ea, hcl⟩, _⟩ := HLV.out wu WZ.out.tw
      subst ea
      obtain ⟨xa, xc, xl⟩ := x
      simp only at *
      generalize hXL : xl.length = XL at *
      have HXL := hide hXL
      have hxi : (XL : Int) ≤ 5000 := by have := HXB.out; omega
      clear hXL hx
      go_wp2_with fail
      go_loopw [7] (fun i wq => ∃ (q : Nat) (sa : Option Addr) (sn sc : Nat) (Ad : List (Int × Tf)), i = .int .i64 (q : Nat) ∧ q ≤ XL ∧ Wz w wq E next seq log #[.slice (some ⟨b, off, none⟩) 5 c, .int .u64 (next : Nat), .int .u64 (seq : Nat), .int .u64 (log : Nat)] sa sn sc Ad ∧ fA Ad = wholeF (flL (L.take k)) ++ (fls (xl.take q)).map fun f => ((k : Int), f)) (fun i _ => XL - (intOf i).toNat)
      case atStart => exact ⟨0, sa, sn, sc, Ad, rfl, Nat.zero_le _, WZ.out, by rw [HFA.out]; simp [fls]⟩
      case round =>
        clear WZ HFA v0 hcl
        obtain ⟨q, sa, sn, sc, Ad, rfl, hq, hwz, hfa⟩ := hrel
        have WZ := hide hwz
        have HFA := hide hfa
        have HAL := hide (show Ad.length ≤ 10000 by
          have h1 := congrArg List.length hfa
          have h2 := HAB.out
          simp only [fA, List.length_map, List.length_append, fls, List.length_take] at h1
          omega)
        have v0 : wr.cell? ⟨P, 0, none⟩ = some (.slice (some ⟨b, off, none⟩) 5 c) := cell_of_row wr P 0 _ 25 (0, 0) (by have := hwz.hv; rwa [HP.out] at this)
        obtain ⟨⟨b9, off9, e9, hcl⟩, hfb⟩ := HLV.out wr hwz.tw
        cases e9
        (try simp only at hcl hfb)
        (try rw [HXL.out] at hcl)
        have HFB := hide hfb
        clear hwz hfa hfb
        by_cases hqn : q < XL
        · obtain ⟨y, hy⟩ : ∃ y, xl[q]? = some y := ⟨_, List.getElem?_eq_getElem (by have := HXL.out; omega)⟩
          obtain ⟨b', off', rfl, h6, hfb⟩ := fc_of HFB.out hy
          have q1 : (q : Int) < XL := by omega
          have q0 : (0 : Int) ≤ q := by omega
          have hkx := HKX.out y (List.mem_of_getElem? hy)
          have HTQ := hide (show fls (xl.take (q + 1)) = fls (xl.take q) ++ [y.f] by rw [List.take_add_one, hy]; simp [fls])
          have CO := hide (fun (u : World) (t : Turns (fun _ => False) wr u) => rown_any y u (hfb.quiet t) hkx.1 hkx.2)
          have f1 := cell_of_row wr E 1 _ 33 (0, 0) WZ.out.he
          have HQX := hide (show ¬ XL ≤ q by omega)
          obtain ⟨la2, lc2, ma2, mc2, ⟨no, sz, ls, ms, en, sq⟩⟩ := y
          have HQY := hide hy
          obtain ⟨y0, y1, y2, y3, y4, y5⟩ := h6
          unfold Tf.agg at CO
          simp only at *
          generalize hL1 : ls.length = L1 at *
          generalize hL2 : ms.length = L2 at *
          have HLL := hide (show ls.length = L1 ∧ ms.length = L2 from ⟨hL1, hL2⟩)
          clear hL1 hL2
          have SK := hide (fun (u : World) (t : Turns (fun _ => False) wr u) => show (fun u => u.cell? ⟨E, 1, none⟩ = some (.slice sa sn sc) ∧ u.cell? ⟨P, 0, none⟩ = some (.slice (some ⟨b, off, none⟩) 5 c) ∧ u.cell? ⟨b, off + k, none⟩ = some (.slice (some ⟨b', off', none⟩) XL xc) ∧ u.cell? ⟨b', off' + q * 6, none⟩ = some (.int .u64 (no : Nat)) ∧ u.cell? ⟨b', off' + q * 6 + 1, none⟩ = some (.int .i64 sz) ∧ u.cell? ⟨b', off' + q * 6 + 2, none⟩ = some (.slice la2 L1 lc2) ∧ u.cell? ⟨b', off' + q * 6 + 3, none⟩ = some (.slice ma2 L2 mc2) ∧ u.cell? ⟨b', off' + q * 6 + 4, none⟩ = some (.int .i64 en) ∧ u.cell? ⟨b', off' + q * 6 + 5, none⟩ = some (.int .u64 (sq : Nat))) u from ⟨t.cell f1 (fun x => x), t.cell v0 (fun x => x), t.cell hcl (fun x => x), t.cell y0 (fun x => x), t.cell y1 (fun x => x), t.cell y2 (fun x => x), t.cell y3 (fun x => x), t.cell y4 (fun x => x), t.cell y5 (fun x => x)⟩)
          clear hfb hy hkx f1 y0 y1 y2 y3 y4 y5
          go_upto_region 11 with (fail)
          have tV : Turns (fun _ => False) wr wr.drew := (Turns.refl _ _).drew
          refine wp_region_x_drew [15, 16] (S := fun u => u.cell? ⟨E, 1, none⟩ = some (.slice sa sn sc) ∧ u.cell? ⟨P, 0, none⟩ = some (.slice (some ⟨b, off, none⟩) 5 c) ∧ u.cell? ⟨b, off + k, none⟩ = some (.slice (some ⟨b', off', none⟩) XL xc) ∧ u.cell? ⟨b', off' + q * 6, none⟩ = some (.int .u64 (no : Nat)) ∧ u.cell? ⟨b', off' + q * 6 + 1, none⟩ = some (.int .i64 sz) ∧ u.cell? ⟨b', off' + q * 6 + 2, none⟩ = some (.slice la2 L1 lc2) ∧ u.cell? ⟨b', off' + q * 6 + 3, none⟩ = some (.slice ma2 L2 mc2) ∧ u.cell? ⟨b', off' + q * 6 + 4, none⟩ = some (.int .i64 en) ∧ u.cell? ⟨b', off' + q * 6 + 5, none⟩ = some (.int .u64 (sq : Nat))) (by kernel_rfl) (SK.out _ tV) (fun _ => ?_)
          change wpAnyX _ _ _ _ _ _ 17 (Array.replicate 17 false) _ _
          refine wpAnyX_take (i := 0) (oi := { dst := some 38, op := Op.fieldAddr 33 (Operand.tmp 5) 1, type := 0, pos := "ref.go:179", after := #[], guard := none }) (v := .pointer (some ⟨E, 1, none⟩)) rfl (by kernel_rfl) (by kernel_rfl) (by kernel_rfl) (by kernel_rfl) (by kernel_rfl) (fun _ _ _ h => h) (Or.inl ⟨by rfl, ?_⟩) (SK.out _ tV) ?_
          · rintro w ⟨d0, d1, d2, d3, d4, d5, d6, d7, d8⟩
            go_simp
          simp only [Act.put, List.setIfInBounds_toArray, List.set_cons_zero, List.set_cons_succ]
          refine wpAnyX_take (i := 1) (oi := { dst := some 39, op := Op.load 31 (Operand.tmp 38), type := 31, pos := "ref.go:179", after := #[{ on := 0, ground := Ground.data }], guard := none }) (v := .slice sa sn sc) rfl (by kernel_rfl) (by kernel_rfl) (by kernel_rfl) (by kernel_rfl) (by kernel_rfl) (fun _ _ _ h => h) (Or.inl ⟨by rfl, ?_⟩) (SK.out _ tV) ?_
          · rintro w ⟨d0, d1, d2, d3, d4, d5, d6, d7, d8⟩
            go_simp
          simp only [Act.put, List.setIfInBounds_toArray, List.set_cons_zero, List.set_cons_succ]
          refine wpAnyX_take (i := 2) (oi := { dst := some 40, op := Op.move (Operand.tmp 6), type := 3, pos := "ref.go:179", after := #[], guard := none }) (v := .int .i64 ((k : Nat) : Int)) rfl (by kernel_rfl) (by kernel_rfl) (by kernel_rfl) (by kernel_rfl) (by kernel_rfl) (fun _ _ _ h => h) (Or.inl ⟨by rfl, ?_⟩) (SK.out _ tV) ?_
          · rintro w ⟨d0, d1, d2, d3, d4, d5, d6, d7, d8⟩
            go_simp
          simp only [Act.put, List.setIfInBounds_toArray, List.set_cons_zero, List.set_cons_succ]
          refine wpAnyX_take (i := 3) (oi := { dst := some 41, op := Op.fieldAddr 25 (Operand.tmp 1) 0, type := 0, pos := "ref.go:179", after := #[], guard := none }) (v := .pointer (some ⟨P, 0, none⟩)) rfl (by kernel_rfl) (by kernel_rfl) (by kernel_rfl) (by kernel_rfl) (by kernel_rfl) (fun _ _ _ h => h) (Or.inl ⟨by rfl, ?_⟩) (SK.out _ tV) ?_
          · rintro w ⟨d0, d1, d2, d3, d4, d5, d6, d7, d8⟩
            go_simp
          simp only [Act.put, List.setIfInBounds_toArray, List.set_cons_zero, List.set_cons_succ]
          refine wpAnyX_take (i := 4) (oi := { dst := some 42, op := Op.load 22 (Operand.tmp 41), type := 22, pos := "ref.go:179", after := #[{ on := 3, ground := Ground.data }], guard := none }) (v := .slice (some ⟨b, off, none⟩) 5 c) rfl (by kernel_rfl) (by kernel_rfl) (by kernel_rfl) (by kernel_rfl) (by kernel_rfl) (fun _ _ _ h => h) (Or.inl ⟨by rfl, ?_⟩) (SK.out _ tV) ?_
          · rintro w ⟨d0, d1, d2, d3, d4, d5, d6, d7, d8⟩
            go_simp
          simp only [Act.put, List.setIfInBounds_toArray, List.set_cons_zero, List.set_cons_succ]
          refine wpAnyX_take (i := 5) (oi := { dst := some 43, op := Op.move (Operand.tmp 6), type := 3, pos := "ref.go:179", after := #[], guard := none }) (v := .int .i64 ((k : Nat) : Int)) rfl (by kernel_rfl) (by kernel_rfl) (by kernel_rfl) (by kernel_rfl) (by kernel_rfl) (fun _ _ _ h => h) (Or.inl ⟨by rfl, ?_⟩) (SK.out _ tV) ?_
          · rintro w ⟨d0, d1, d2, d3, d4, d5, d6, d7, d8⟩
            go_simp
          simp only [Act.put, List.setIfInBounds_toArray, List.set_cons_zero, List.set_cons_succ]
          refine wpAnyX_take (i := 6) (oi := { dst := some 44, op := Op.indexAddr 22 (Operand.tmp 42) (Operand.tmp 43), type := 0, pos := "ref.go:179", after := #[{ on := 4, ground := Ground.data }, { on := 5, ground := Ground.data }], guard := none }) (v := .pointer (some ⟨b, off + k, none⟩)) rfl (by kernel_rfl) (by kernel_rfl) (by kernel_rfl) (by kernel_rfl) (by kernel_rfl) (fun _ _ _ h => h) (Or.inl ⟨by rfl, ?_⟩) (SK.out _ tV) ?_
          · rintro w ⟨d0, d1, d2, d3, d4, d5, d6, d7, d8⟩
            go_simp
          simp only [Act.put, List.setIfInBounds_toArray, List.set_cons_zero, List.set_cons_succ]
          refine wpAnyX_take (i := 7) (oi := { dst := some 45, op := Op.load 50 (Operand.tmp 44), type := 50, pos := "ref.go:179", after := #[{ on := 6, ground := Ground.data }], guard := none }) (v := .slice (some ⟨b', off', none⟩) XL xc) rfl (by kernel_rfl) (by kernel_rfl) (by kernel_rfl) (by kernel_rfl) (by kernel_rfl) (fun _ _ _ h => h) (Or.inl ⟨by rfl, ?_⟩) (SK.out _ tV) ?_
          · rintro w ⟨d0, d1, d2, d3, d4, d5, d6, d7, d8⟩
            go_simp
          simp only [Act.put, List.setIfInBounds_toArray, List.set_cons_zero, List.set_cons_succ]
          refine wpAnyX_take (i := 8) (oi := { dst := some 46, op := Op.move (Operand.tmp 7), type := 3, pos := "ref.go:179", after := #[], guard := none }) (v := .int .i64 ((q : Nat) : Int)) rfl (by kernel_rfl) (by kernel_rfl) (by kernel_rfl) (by kernel_rfl) (by kernel_rfl) (fun _ _ _ h => h) (Or.inl ⟨by rfl, ?_⟩) (SK.out _ tV) ?_
          · rintro w ⟨d0, d1, d2, d3, d4, d5, d6, d7, d8⟩
            go_simp
          simp only [Act.put, List.setIfInBounds_toArray, List.set_cons_zero, List.set_cons_succ]
          refine wpAnyX_take (i := 9) (oi := { dst := some 47, op := Op.indexAddr 50 (Operand.tmp 45) (Operand.tmp 46), type := 0, pos := "ref.go:179", after := #[{ on := 7, ground := Ground.data }, { on := 8, ground := Ground.data }], guard := none }) (v := .pointer (some ⟨b', off' + q * 6, none⟩)) rfl (by kernel_rfl) (by kernel_rfl) (by kernel_rfl) (by kernel_rfl) (by kernel_rfl) (fun _ _ _ h => h) (Or.inl ⟨by rfl, ?_⟩) (SK.out _ tV) ?_
          · rintro w ⟨d0, d1, d2, d3, d4, d5, d6, d7, d8⟩
            go_simp
          simp only [Act.put, List.setIfInBounds_toArray, List.set_cons_zero, List.set_cons_succ]
          refine wpAnyX_take (i := 10) (oi := { dst := some 48, op := Op.load 37 (Operand.tmp 47), type := 37, pos := "ref.go:179", after := #[{ on := 9, ground := Ground.data }], guard := none }) (v := .agg #[.int .u64 (no : Nat), .int .i64 sz, .slice la2 L1 lc2, .slice ma2 L2 mc2, .int .i64 en, .int .u64 (sq : Nat)]) rfl (by kernel_rfl) (by kernel_rfl) (by kernel_rfl) (by kernel_rfl) (by kernel_rfl) (fun _ _ _ h => h) (Or.inl ⟨by rfl, ?_⟩) (SK.out _ tV) ?_
          · rintro w ⟨d0, d1, d2, d3, d4, d5, d6, d7, d8⟩
            go_simp
          simp only [Act.put, List.setIfInBounds_toArray, List.set_cons_zero, List.set_cons_succ]
          refine wpAnyX_ready (rs := [11]) (by kernel_rfl) (by simp) ?_
          refine AllReadyX.cons rfl (fun K hK => ?_) AllReadyX.nil
          go_simp
          refine (CO.out _ tV).mono ?_
          rintro oo w7 ⟨y', rfl, hyf, hft, tC⟩
          have HFT := hide (hft.mono (show w.heap.size ≤ wr.drew.heap.size from WZ.out.tw.size))
          have HYF := hide hyf
          have tV := tV.trans tC
          clear hyf hft tC
          go_simp
          refine hK.out _ _ (SK.out _ tV) (fun _ => ?_)
          clear hK K
          obtain ⟨la3, lc3, ma3, mc3, ⟨no3, sz3, ls3, ms3, en3, sq3⟩⟩ := y'
          refine wpAnyX_take (i := 12) (oi := { dst := some 50, op := Op.build 62 #[(0, Operand.tmp 40), (1, Operand.tmp 49)], type := 62, pos := "ref.go:179", after := #[{ on := 2, ground := Ground.data }, { on := 11, ground := Ground.data }], guard := none }) (v := .agg #[.int .i64 ((k : Nat) : Int), .int .u64 (no3 : Nat), .int .i64 sz3, .slice la3 ls3.length lc3, .slice ma3 ms3.length mc3, .int .i64 en3, .int .u64 (sq3 : Nat)]) rfl (by kernel_rfl) (by kernel_rfl) (by kernel_rfl) (by kernel_rfl) (by kernel_rfl) (fun _ _ _ h => h) (Or.inl ⟨by rfl, ?_⟩) (SK.out _ tV) ?_
          · rintro w ⟨d0, d1, d2, d3, d4, d5, d6, d7, d8⟩
            go_simp
          simp only [Act.put, List.setIfInBounds_toArray, List.set_cons_zero, List.set_cons_succ]
          obtain ⟨uA, huA⟩ : ∃ uu, uu = w7.alloc (.cells #[.int .i64 ((k : Nat) : Int), .int .u64 (no3 : Nat), .int .i64 sz3, .slice la3 ls3.length lc3, .slice ma3 ms3.length mc3, .int .i64 en3, .int .u64 (sq3 : Nat)] 62) := ⟨_, rfl⟩
          have hgA : uA.heap[w7.heap.size]? = some (.cells #[.int .i64 ((k : Nat) : Int), .int .u64 (no3 : Nat), .int .i64 sz3, .slice la3 ls3.length lc3, .slice ma3 ms3.length mc3, .int .i64 en3, .int .u64 (sq3 : Nat)] 62 (0, 0)) := by rw [huA]; exact heap_alloc_new _ _
          have tA : Turns (fun _ => False) w7 uA := by rw [huA]; exact (Turns.refl _ _).alloc _
          refine wpAnyX_ready (rs := [13]) (by kernel_rfl) (by simp) ?_
          refine AllReadyX.cons rfl (fun K hK => ?_) AllReadyX.nil
          go_simp
          rw [← huA]
          have tV := tV.trans tA
          refine hK.out _ _ (SK.out _ tV) (fun _ => ?_)
          clear hK K huA
          have WZA := hide (WZ.out.quiet tV)
          obtain ⟨a', n', c', w8, hr, hn', hro', ht', _⟩ := append_ad uA w.heap.size sa sc Ad WZA.out.row WZA.out.tw.size (by have := HAL.out; omega) ((k : Int), (⟨la3, lc3, ma3, mc3, ⟨no3, sz3, ls3, ms3, en3, sq3⟩⟩ : Tf)) w7.heap.size 1 hgA
          rw [← WZA.out.len] at hr
          have WZ8 := hide (WZA.out.step (d := ((k : Int), (⟨la3, lc3, ma3, mc3, ⟨no3, sz3, ls3, ms3, en3, sq3⟩⟩ : Tf))) ht' hn' hro' (HFT.out.quiet tA))
          have f1 : w8.cell? ⟨E, 1, none⟩ = some (.slice sa sn sc) := cell_of_row w8 E 1 _ 33 (0, 0) (ht'.heap WZA.out.he (fun e => WZA.out.row.ne WZA.out.he (by decide) E e rfl))
          have z1 : w8.frozen? ⟨E, 1, none⟩ = false := frozen_of_row w8 E 1 _ 33 (ht'.heap WZA.out.he (fun e => WZA.out.row.ne WZA.out.he (by decide) E e rfl))
          have SK8 : (fun u => u.cell? ⟨E, 1, none⟩ = some (.slice sa sn sc) ∧ u.cell? ⟨P, 0, none⟩ = some (.slice (some ⟨b, off, none⟩) 5 c) ∧ u.cell? ⟨b, off + k, none⟩ = some (.slice (some ⟨b', off', none⟩) XL xc) ∧ u.cell? ⟨b', off' + q * 6, none⟩ = some (.int .u64 (no : Nat)) ∧ u.cell? ⟨b', off' + q * 6 + 1, none⟩ = some (.int .i64 sz) ∧ u.cell? ⟨b', off' + q * 6 + 2, none⟩ = some (.slice la2 L1 lc2) ∧ u.cell? ⟨b', off' + q * 6 + 3, none⟩ = some (.slice ma2 L2 mc2) ∧ u.cell? ⟨b', off' + q * 6 + 4, none⟩ = some (.int .i64 en) ∧ u.cell? ⟨b', off' + q * 6 + 5, none⟩ = some (.int .u64 (sq : Nat))) w8 := by
            have hv8 := ht'.heap WZA.out.hv (fun e => WZA.out.row.ne WZA.out.hv (by decide) _ e rfl)
            have tw8 : Turns (fun j => w.heap.size ≤ j) w w8 := (WZA.out.tw.mono fun _ _ (x : False) => x.elim).trans (ht'.mono fun j _ e => by
              rcases WZA.out.row with ⟨h0, _⟩ | ⟨g, h1, h2, _⟩
              · rw [h0] at e; cases e
              · rw [h1] at e; cases e; exact h2)
            obtain ⟨⟨b9, off9, e9, hcl9⟩, hfb9⟩ := HLV.out w8 (turns_new tw8)
            cases e9
            (try simp only at hcl9 hfb9)
            (try rw [HXL.out] at hcl9)
            obtain ⟨b8, off8, e8, h68, _⟩ := fc_of hfb9 HQY.out
            cases e8
            obtain ⟨c0, c1, c2, c3, c4, c5⟩ := h68
            simp only [HLL.out.1, HLL.out.2] at c0 c1 c2 c3 c4 c5
            rw [HP.out] at hv8
            exact ⟨f1, cell_of_row w8 P 0 _ 25 (0, 0) hv8, hcl9, c0, c1, c2, c3, c4, c5⟩
          refine wpAnyX_ready (rs := [14]) (by kernel_rfl) (by simp) ?_
          refine AllReadyX.cons rfl (fun K hK => ?_) AllReadyX.nil
          refine step_append_run rfl _ _ 31 rfl (.slice sa sn sc) (.slice (some ⟨w7.heap.size, 0, none⟩) 1 1) rfl rfl _ _ (hr _) 52 rfl ?_
          refine hK.out _ _ SK8 (fun _ => ?_)
          clear hK K
          simp only [Act.put, List.setIfInBounds_toArray, List.set_cons_zero, List.set_cons_succ]
          refine wpAnyX_late (i := 15) (oi := { dst := some 53, op := Op.fieldAddr 33 (Operand.tmp 5) 1, type := 0, pos := "ref.go:179", after := #[{ on := 0, ground := Ground.phase }, { on := 1, ground := Ground.phase }, { on := 2, ground := Ground.phase }, { on := 3, ground := Ground.phase }, { on := 4, ground := Ground.phase }, { on := 5, ground := Ground.phase }, { on := 6, ground := Ground.phase }, { on := 7, ground := Ground.phase }, { on := 8, ground := Ground.phase }, { on := 9, ground := Ground.phase }, { on := 10, ground := Ground.phase }, { on := 11, ground := Ground.phase }, { on := 12, ground := Ground.phase }, { on := 13, ground := Ground.phase }, { on := 14, ground := Ground.phase }], guard := none }) (v := .pointer (some ⟨E, 1, none⟩)) rfl (by kernel_rfl) (by kernel_rfl) (by kernel_rfl) (by kernel_rfl) (fun _ _ _ h => h) (Or.inl ⟨by rfl, ?_⟩) ?_
          · rintro w -
            go_simp
          simp only [Act.put, List.setIfInBounds_toArray, List.set_cons_zero, List.set_cons_succ]
          clear hr hn' hro' ht' tV tA hgA SK8
          refine wpAnyX_ready (rs := [16]) (by kernel_rfl) (by simp) ?_
          refine AllReadyX.free rfl (by kernel_rfl) (fun K hK => ?_) AllReadyX.nil
          go_simp
          refine hK.out _ _ ?_
          clear hK K f1 z1
          refine wpAnyX_done (by kernel_rfl) ?_ _
          generalize w8.setCell ⟨E, 1, none⟩ (.slice a' n' c') = w9 at *
          go_wp2_with fail
          go_roundw
          case rel =>
            refine ⟨q + 1, a', n', c', _, by go_num, by omega, WZ8.out, ?_⟩
            rw [HTQ.out, List.map_append, ← List.append_assoc, ← HFA.out]
            simp only [fA, List.map_append, List.map_cons, List.map_nil]
            have hf : (⟨no3, sz3, ls3, ms3, en3, sq3⟩ : Fl) = ⟨no, sz, ls, ms, en, sq⟩ := HYF.out
            rw [hf]
          case measure => simp [intOf]; omega
        · obtain rfl : q = XL := by omega
          have htk : xl.take q = xl := List.take_of_length_le (by have := HXL.out; omega)
          rw [htk] at HFA
          clear htk
          go_wp2_with fail
          go_roundw
          case rel => exact ⟨k + 1, sa, sn, sc, Ad, by go_num, by omega, WZ.out, by rw [HTK.out]; exact HFA.out⟩
          case measure => simp [intOf]; omega
    · obtain rfl : k = 5 := by omega
      have ht : L.take 5 = L := List.take_of_length_le (by have := HL5.out; omega)
      rw [ht] at HFA
      have o0 := cell_of_row wu E 0 _ 33 (0, 0) WZ.out.he
      have o1 := cell_of_row wu E 1 _ 33 (0, 0) WZ.out.he
      have o2 := cell_of_row wu E 2 _ 33 (0, 0) WZ.out.he
      have o3 := cell_of_row wu E 3 _ 33 (0, 0) WZ.out.he
      have o4 := cell_of_row wu E 4 _ 33 (0, 0) WZ.out.he
      have HZ := hide (show wu.heap[P + 1]? = some (.cells #[.slice none 0 0, .slice none 0 0, .int .u64 0, .int .u64 0, .int .u64 0] 33) by have := WZ.out.hz; rwa [HP.out] at this)
      have rz0 := cell_of_row wu (P + 1) 0 _ 33 (0, 0) HZ.out
      have zz0 := frozen_of_row wu (P + 1) 0 _ 33 HZ.out
      have rz1 := cell_of_row wu (P + 1) 1 _ 33 (0, 0) HZ.out
      have zz1 := frozen_of_row wu (P + 1) 1 _ 33 HZ.out
      have rz2 := cell_of_row wu (P + 1) 2 _ 33 (0, 0) HZ.out
      have zz2 := frozen_of_row wu (P + 1) 2 _ 33 HZ.out
      have rz3 := cell_of_row wu (P + 1) 3 _ 33 (0, 0) HZ.out
      have zz3 := frozen_of_row wu (P + 1) 3 _ 33 HZ.out
      have rz4 := cell_of_row wu (P + 1) 4 _ 33 (0, 0) HZ.out
      have zz4 := frozen_of_row wu (P + 1) 4 _ 33 HZ.out
      clear ht
      go_wp2_with fail
      have tk := ((((((Tick.refl HZ.out).set 0 (.slice none 0 0)).set 1 (.slice sa sn sc)).set 2 (.int .u64 (next : Nat))).set 3 (.int .u64 (seq : Nat))).set 4 (.int .u64 (log : Nat)))
      have tt := Turns.of_tick tk
      refine bodyPost_ret (v := .tuple #[.agg #[.slice none 0 0, .slice sa sn sc, .int .u64 (next : Nat), .int .u64 (seq : Nat), .int .u64 (log : Nat)], .int .i64 0]) ?_ rfl ?_
      · exact results_cell_tmp Try.results17 _ _ _ _ _ _ _ _ rfl rfl tk.1 Try.underlying33 rfl sz33w
      · refine ⟨WZ.out.tw.andThen tt (fun j hj e => by have := HP.out; omega), .inr ⟨HWF.out, sa, sn, sc, Ad, rfl, WZ.out.len, HFA.out, ?_⟩⟩
        refine ARow.adds (WZ.out.row.keep tt fun g e e2 => WZ.out.row.ne HZ.out (by decide) g e e2) fun d hd => ((WZ.out.fts d hd).keep tt fun j e _ cs z hz => ?_).fb
        rw [e, HZ.out] at hz
        cases hz
end Go.Proofs.Ytmmcikbedegigaa
