import Derived.Test.YtjnpendihdlgnaaM19
import Derived.Test.YtjnpendihdlgnaaM18
/-
  MergeTurns: the whole of the law.
-/
namespace Go.Proofs.Ytjnpendihdlgnaa
open Go.RowKit
set_option maxRecDepth 100000
set_option maxHeartbeats 8000000
def F5 (u : World) (b o gx : Nat) (xa : Option Addr) (kn xc sq : Nat) (kd : Int) (xv : Option Addr) (vn xd : Nat) (ka : Option Addr) (kc : Nat) (va : Option Addr) (vc : Nat) : Prop :=
  u.cell? ⟨gx, 0, none⟩ = some (.slice xa kn xc) ∧ u.cell? ⟨gx, 1, none⟩ = some (.int .u64 (sq : Nat)) ∧ u.cell? ⟨gx, 2, none⟩ = some (.int .i64 kd) ∧ u.cell? ⟨gx, 3, none⟩ = some (.slice xv vn xd) ∧ u.cell? ⟨b, o, none⟩ = some (.slice ka kn kc) ∧ u.cell? ⟨b, o + 1, none⟩ = some (.int .u64 (sq : Nat)) ∧ u.cell? ⟨b, o + 2, none⟩ = some (.int .i64 kd) ∧ u.cell? ⟨b, o + 3, none⟩ = some (.slice va vn vc)
/-- Rows that may be turned, and their room. -/
def Zr (w5 wr : World) (ps : List Rw) : Prop := Turns (fun k => ∃ x, x ∈ ps ∧ inRow x.v k) w5 wr ∧ ∀ x, x ∈ ps → x.R ≠ [] → ∃ g, x.a = some ⟨g, 0, none⟩ ∧ ∃ cs, wr.heap[g]? = some (.cells cs 25 (0, 0)) ∧ x.R.length * 4 ≤ cs.size
theorem Zr.start {w3 w5 : World} {B : Nat} {v : Value} {ps : List Rw} (ho : Owned w3 B v ps) (t : Turns (fun _ => False) w3 w5) : Zr w5 w5 ps := by
  refine ⟨Turns.refl _ _, fun x hx hne => ?_⟩
  obtain ⟨h1, _⟩ := ho x hx
  rcases h1 with ⟨e, _⟩ | ⟨g, c, n, e, hn, hc, _, cs, h2, h3, _⟩
  · exact absurd e hne
  · obtain ⟨xa, xc, xR⟩ := x
    simp only [Rw.v] at e
    cases e
    exact ⟨g, rfl, cs, t.heap h2 (fun x => x), by simp only at hc ⊢; omega⟩
theorem Zr.set {w5 wr w' : World} {ps : List Rw} (h : Zr w5 wr ps) {x : Rw} (hx : x ∈ ps) {g : Nat} (hg : x.a = some ⟨g, 0, none⟩) {cs : Array Value} (hk : Tick wr w' g 25 cs) {cs0 : Array Value} (h0 : wr.heap[g]? = some (.cells cs0 25 (0, 0))) (hs : cs.size = cs0.size) : Zr w5 w' ps := by
  refine ⟨h.1.trans ((Turns.of_tick hk).mono fun k _ e => ⟨x, hx, x.R.length, x.c, by rw [e, Rw.v, hg]⟩), fun y hy hy2 => ?_⟩
  obtain ⟨g', e, cs', h1, h2⟩ := h.2 y hy hy2
  by_cases hgg : g' = g
  · subst hgg
    rw [h0] at h1
    cases h1
    exact ⟨g', e, cs, hk.1, by omega⟩
  · exact ⟨g', e, cs', (Turns.of_tick hk).heap h1 hgg, h2⟩
theorem turns_any (a : Option Addr) (n c : Nat) (rs : List Rw) (pa : Option Addr) (pn pc : Nat) (w : World) (h : RowsOf w a rs) (hn : n = rs.length) (hmx : n ≤ reachBytes) (hp : Ints w pa pn) (hpn : pn ≤ reachBytes) :
    Calls Try.prog 5 #[.slice a n c, .slice pa pn pc] w fun e w' => e = .returned (.bool true) ∧ Below w.heap.size w w' := by
  have H0 := hide h
  have HN := hide hn
  have HMX := hide hmx
  have HP := hide hp
  unfold reachBytes at hpn
  have hpi : (pn : Int) ≤ 140737488355328 := by omega
  clear h hn hmx hp hpn
  go_enter Try.func5, Try.ntmps5
  go_wp2_with fail
  refine (lives_any w).mono ?_
  rintro e w1 ⟨rfl, b1⟩
  have T1 := hide (Turns.of_below b1 (fun _ => False))
  have SM := hide (small_any a n c rs w1 (fun k x hx => ⟨by obtain ⟨b, off, e, hc⟩ := (H0.out k x hx).1; exact ⟨b, off, e, T1.out.cell hc (fun x => x)⟩, ⟨(H0.out k x hx).2.ents.quiet T1.out, (H0.out k x hx).2.cap, (H0.out k x hx).2.reach, (H0.out k x hx).2.fit, (H0.out k x hx).2.nil⟩⟩) HN.out HMX.out)
  clear b1
  go_wp2_with fail
  refine SM.out.mono ?_
  rintro e w2 ⟨⟨d, rfl, hd⟩, t2⟩
  have T2 := hide (T1.out.trans t2)
  clear t2 SM T1
  cases d with
  | false =>
    clear hd
    go_wp2_with fail
    go_ret
    exact ⟨rfl, T2.out.below (Nat.le_refl _) (fun _ x => x.elim)⟩
  | true =>
    have FEW := hide (show Few rs from ⟨(hd rfl).1, (hd rfl).2.1, (hd rfl).2.2⟩)
    have RI := hide (few_rows H0.out FEW.out)
    have hni : (n : Int) ≤ 20 := by have := FEW.out.rows; have := HN.out; omega
    clear hd
    go_wp2_with fail
    refine (ownRows_any a n c rs w2 (fun k x hx => ⟨((RI.out.quiet T2.out) k x hx).1, ((RI.out.quiet T2.out) k x hx).2.ents⟩) HN.out FEW.out).mono ?_
    rintro e w3 ⟨v3, ps, rfl, hR3, hO3, hE3, b3⟩
    obtain ⟨a3, c3, rfl, hr3⟩ := Owned.rows hR3 hO3 (small_own hE3 FEW.out hO3)
    have NW := hide (newS_any a3 ps.length c3 ps w3 hr3 rfl (good_own hO3 hE3 FEW.out))
    have hpl : ps.length = rs.length := by have := congrArg List.length hE3; simpa [entR] using this
    have hpl2 : (ps.length : Int) ≤ 20 := by have := FEW.out.rows; omega
    have R3 := hide hR3
    have O3 := hide hO3
    have E3 := hide hE3
    have I3 := hide hr3
    have T3 := hide (T2.out.trans (Turns.of_below b3 (fun _ => False)))
    have B3 := hide b3
    have S2 := hide (show w.heap.size ≤ w2.heap.size ∧ w2.heap.size ≤ w3.heap.size from ⟨T2.out.size, b3.size⟩)
    have PL := hide hpl
    clear hR3 hO3 hE3 hr3 b3 hpl
    go_wp2_with fail
    refine NW.out.mono ?_
    rintro e w4 ⟨b4, mv, rfl, hq, hst⟩
    rw [ord_both E3.out] at *
    have T34 := hide (Turns.of_below b4 (fun _ => False))
    have T4 := hide (T3.out.trans (Turns.of_below b4 (fun _ => False)))
    have ST := hide hst
    have S4 := hide b4.size
    clear hst b4 NW
    generalize hoq : ordE (eachOrd rs) = oq at *
    have q2 : ∀ u, (binOp .neq 29 (.int .i64 oq) (.int .i64 0)).run Try.prog u = .ok (.bool (! eachOrd rs)) u := fun u => by
      rw [← hoq]
      cases eachOrd rs <;> kernel_rfl
    have q3 : ∀ b u, (binOp .neq 4 (.bool b) (.bool b)).run Try.prog u = .ok (.bool false) u := fun b u => by cases b <;> kernel_rfl
    have q4 := neq29
    have HOQ := hide hoq
    clear hoq
    go_wp2_with fail
    refine (refAll_any a n c rs w4 (RI.out.quiet T4.out) HN.out FEW.out).mono ?_
    rintro e w5 ⟨vR, R, rfl, hER, b5, hRA⟩
    rw [HOQ.out]
    have t5 := Turns.of_below b5 (fun _ => False)
    obtain ⟨aR, cR, rfl, hgR⟩ := got_of ((RI.out.quiet T4.out).quiet t5) hER (rall_in hRA)
    have ST5 := hide ((ST.out _ R rs w a (fun k hk => (hER.row hk).1) hRA RI.out E3.out).quiet t5)
    have ER := hide hER
    have RA := hide hRA
    have T35 := hide (T34.out.trans t5)
    have T5 := hide (T4.out.trans t5)
    have Z5 := hide (Zr.start O3.out T35.out)
    have S5 := hide b5.size
    have hRl : (R.length : Int) ≤ 150 := by have := rall_len hRA FEW.out; omega
    have HDR := hide (show ∀ (u : World) (i : Nat) (x : Rw), Zr w5 u ps → ps[i]? = some x → ∃ b off, a3 = some ⟨b, off, none⟩ ∧ u.cell? ⟨b, off + i, none⟩ = some (.slice x.a x.R.length x.c) from fun u i x hz hx => by
      obtain ⟨⟨b, off, e, hc⟩, _⟩ := I3.out i x hx
      refine ⟨b, off, e, hz.1.cell (T35.out.cell hc (fun x => x)) ?_⟩
      rintro ⟨y, hy, hk⟩
      refine (O3.out y hy).2.2.2.2.1 _ hk ?_
      rcases R3.out with ⟨e2, _⟩ | ⟨g, c', n', e2, _⟩
      · subst e2; simp at hx
      · subst e; cases e2; exact ⟨_, _, rfl⟩)
    clear t5 hgR hER hRA b5 ST
    obtain ⟨mo, rfl⟩ : ∃ mo, mv = .pointer mo := by rcases ST5.out with ⟨e, _⟩ | ⟨p, _, _, _, _, e, _⟩ <;> exact ⟨_, e⟩
    have hbo : (! eachOrd rs) = (oq != 0) := by rw [← HOQ.out]; cases eachOrd rs <;> rfl
    rw [hbo] at hq
    clear hbo q2 q3
    go_wp2_with fail
    go_loopw [10] (fun v10 wr => ∃ i : Nat, v10 = .int .i64 (i : Nat) ∧ i ≤ ps.length ∧ Zr w5 wr ps) (fun v10 _ => ps.length - (intOf v10).toNat)
    case atStart => exact ⟨0, rfl, Nat.zero_le _, Z5.out⟩
    case round =>
      obtain ⟨i, rfl, hi, hz⟩ := hrel
      have ZZ := hide hz
      clear hz
      by_cases hin : i < ps.length
      · obtain ⟨x, hx⟩ : ∃ x, ps[i]? = some x := ⟨_, List.getElem?_eq_getElem hin⟩
        obtain ⟨b, off, rfl, hc⟩ := HDR.out wr i x ZZ.out hx
        have i1 : (i : Int) < ps.length := by omega
        have i0 : (0 : Int) ≤ i := by omega
        have HX := hide hx
        have hxm := List.mem_of_getElem? hx
        have hxl : (x.R.length : Int) ≤ 1000000 := by have := small_own E3.out FEW.out O3.out x hxm; omega
        clear hx hc
        obtain ⟨wo, hwo⟩ : ∃ wo, wo = wr := ⟨_, rfl⟩
        subst hwo
        go_wp2_with fail
        go_loopw [11] (fun v11 ws => ∃ k : Nat, v11 = .int .i64 (k : Nat) ∧ k ≤ x.R.length ∧ Zr w5 ws ps) (fun v11 _ => x.R.length - (intOf v11).toNat)
        case atStart => exact ⟨0, rfl, Nat.zero_le _, ZZ.out⟩
        case round =>
          obtain ⟨k, rfl, hk, hz⟩ := hrel
          have Z2 := hide hz
          obtain ⟨b', off', e', hc⟩ := HDR.out wr i x hz HX.out
          cases e'
          clear hz
          by_cases hkn : k < x.R.length
          · obtain ⟨g, hxa, cs, hg, hcs⟩ := Z2.out.2 x hxm (by intro e; rw [e] at hkn; simp at hkn)
            have k1 : (k : Int) < x.R.length := by omega
            have k0 : (0 : Int) ≤ k := by omega
            have e0 := frozen_of_row wr g (k * 4) _ 25 hg
            have e1 := frozen_of_row wr g (k * 4 + 1) _ 25 hg
            have e2 := frozen_of_row wr g (k * 4 + 2) _ 25 hg
            have e3 := frozen_of_row wr g (k * 4 + 3) _ 25 hg
            have hcg : ∀ m, m < 4 → ∃ d, wr.cell? ⟨g, k * 4 + m, none⟩ = some d := fun m hm => ⟨_, by rw [cell_of_row wr g (k * 4 + m) _ 25 (0, 0) hg]; exact Array.getElem?_eq_getElem (by omega)⟩
            obtain ⟨d0, f0⟩ := hcg 0 (by omega)
            obtain ⟨d1, f1⟩ := hcg 1 (by omega)
            obtain ⟨d2, f2⟩ := hcg 2 (by omega)
            obtain ⟨d3, f3⟩ := hcg 3 (by omega)
            rw [Nat.add_zero] at f0
            have tk := ((((Tick.refl hg).set (k * 4) (.slice none 0 0)).set (k * 4 + 1) (.int .u64 0)).set (k * 4 + 2) (.int .i64 0)).set (k * 4 + 3) (.slice none 0 0)
            have Z3 := hide (Z2.out.set hxm hxa tk hg (by simp))
            rw [hxa] at hc
            clear hg hcs hcg tk
            go_wp2_with fail
            go_roundw
            case rel => exact ⟨k + 1, by go_num, by omega, Z3.out⟩
            case measure => simp [intOf]; omega
          · obtain rfl : k = x.R.length := by omega
            go_wp2_with fail
            go_roundw
            case rel => exact ⟨i + 1, by go_num, by omega, Z2.out⟩
            case measure => simp [intOf]; omega
      · obtain rfl : i = ps.length := by omega
        obtain ⟨w6, hw6⟩ : ∃ w6, w6 = wr := ⟨_, rfl⟩
        subst hw6
        have zt : Turns (fun k => w2.heap.size ≤ k ∧ k < w3.heap.size) w5 w6 := ZZ.out.1.mono fun k _ ⟨x, hx, hk⟩ => (O3.out x hx).1.row hk
        have ST6 := hide (ST5.out.keep zt (fun k h => h.2))
        have T6 := hide (show Turns (fun _ => False) w w6 from T5.out.andThen zt fun k hk h => by have := S2.out; omega)
        have ER6 := hide (ER.out.keep zt (fun k hk h => by have := (ER.out.row hk).1; have := S4.out; omega))
        obtain ⟨M, hM⟩ : ∃ M, M = w3.heap.size := ⟨_, rfl⟩
        rw [← hM] at ST6
        have MLE := hide (show M ≤ w6.heap.size by have := S4.out; have := S5.out; have := zt.size; omega)
        have WM := hide (show w.heap.size ≤ M by have := S2.out; omega)
        have VLT := hide (show ∀ k, inRow (.slice aR R.length cR) k → k < w6.heap.size from fun k hk => (ER6.out.row hk).2)
        clear zt hM
        go_wp2_with fail
        go_loopw [12] (fun v12 wr => ∃ i : Nat, v12 = .int .i64 (i : Nat) ∧ i ≤ R.length ∧ St wr M (.slice aR R.length cR) (.pointer mo) R i ∧ Turns (fun k => M ≤ k ∧ ¬ inRow (.slice aR R.length cR) k) w6 wr) (fun v12 _ => R.length - (intOf v12).toNat)
        case atStart => exact ⟨0, rfl, Nat.zero_le _, ST6.out, Turns.refl _ _⟩
        case round =>
          obtain ⟨i, rfl, hi, hst, htt⟩ := hrel
          have STI := hide hst
          have TT := hide htt
          have TW := hide (show Turns (fun _ => False) w wr from T6.out.andThen htt fun k hk h => by have := WM.out; omega)
          clear hst htt
          by_cases hin : i < R.length
          · obtain ⟨y, hy⟩ : ∃ y, R[i]? = some y := ⟨_, List.getElem?_eq_getElem hin⟩
            have i1 : (i : Int) < R.length := by omega
            have i0 : (0 : Int) ≤ i := by omega
            have HLF := hide (show ((R.length - i : Nat) : Int) = (R.length : Int) - i by omega)
            have hlen : y.e.key.length ≤ 15000 ∧ y.e.val.length ≤ 15000 := by
              obtain ⟨r, hr, hyr⟩ := List.mem_flatMap.1 (rall_in RA.out y (List.mem_of_getElem? hy))
              exact (FEW.out.each r hr).2 y hyr
            have HF2 := hide (show y.e.key.length ≤ 1000000 ∧ y.e.val.length ≤ 1000000 by omega)
            have CEL0 := hide (show ∃ b off, aR = some ⟨b, off, none⟩ ∧ ∀ u, Turns (fun k => M ≤ k ∧ ¬ inRow (.slice aR R.length cR) k) w6 u → u.cell? ⟨b, off + i * 4, none⟩ = some (.slice y.ka y.e.key.length y.kc) ∧ u.cell? ⟨b, off + i * 4 + 1, none⟩ = some (.int .u64 (y.e.seq : Nat)) ∧ u.cell? ⟨b, off + i * 4 + 2, none⟩ = some (.int .i64 y.e.kind) ∧ u.cell? ⟨b, off + i * 4 + 3, none⟩ = some (.slice y.va y.e.val.length y.vc) ∧ Bytes u (.slice y.ka y.e.key.length y.kc) y.e.key ∧ Bytes u (.slice y.va y.e.val.length y.vc) y.e.val from by
              obtain ⟨a', c', e, a'', c'', e2, hen⟩ := got_of (RI.out.quiet T6.out) ER6.out (rall_in RA.out)
              cases e; cases e2
              obtain ⟨⟨b, off, e3, hc⟩, _⟩ := hen i y hy
              refine ⟨b, off, e3, fun u tu => ?_⟩
              obtain ⟨a', c', e, a'', c'', e2, hen⟩ := got_of (RI.out.quiet (T6.out.andThen tu fun k hk h => by have := WM.out; omega)) (ER6.out.keep tu fun k hk h => h.2 hk) (rall_in RA.out)
              cases e; cases e2
              obtain ⟨⟨b', off', e4, hc⟩, h1, h2⟩ := hen i y hy
              rw [e3] at e4
              cases e4
              exact ⟨hc 0 _ rfl, hc 1 _ rfl, hc 2 _ rfl, hc 3 _ rfl, h1, h2⟩)
            obtain ⟨b, off, haR, hcel⟩ := CEL0.out
            subst haR
            have HY := hide hy
            generalize hkn' : y.e.key.length = kn at hcel hlen
            generalize hvn' : y.e.val.length = vn at hcel hlen
            generalize hsq' : y.e.seq = sq at hcel
            generalize hkd' : y.e.kind = kd at hcel
            generalize y.ka = ka at hcel
            generalize y.kc = kc at hcel
            generalize y.va = va at hcel
            generalize y.vc = vc at hcel
            have HKN := hide hkn'
            have HVN := hide hvn'
            have HSQ := hide hsq'
            have HKD := hide hkd'
            have hkn : kn ≤ 1000000 := by omega
            have hvn : vn ≤ 1000000 := by omega
            clear hkn' hvn' hsq' hkd' hy CEL0 hlen
            generalize hrl : R.length = rl at *
            have HRLN := hide (show i < rl by omega)
            have CEL := hide hcel
            have HRL := hide hrl
            clear hcel hrl
            by_cases hip : i < pn
            · obtain ⟨pb, po, z, rfl, hpc⟩ := HP.out i hip
              have hpc := TW.out.cell hpc (fun x => x)
              have j1 : (i : Int) < pn := by omega
              go_wp2_with fail
              · clear hpc
                refine (STI.out.peek HY.out HF2.out).mono ?_
                rintro e wp ⟨xa, xc, xv, xd, rfl, hb1, hb2, bp⟩
                rw [HKN.out, HVN.out, HSQ.out, HKD.out]
                rw [HKN.out] at hb1
                rw [HVN.out] at hb2
                have tp := Turns.of_below bp (fun _ => False)
                have XB := hide (And.intro hb1 hb2)
                have TP := hide tp
                have tA : Turns (fun _ => False) wp (wp.alloc (.cells #[.slice xa kn xc, .int .u64 (sq : Nat), .int .i64 kd, .slice xv vn xd] 25)) := (Turns.refl _ _).alloc _
                have NX := hide (heap_alloc_new wp (.cells #[.slice xa kn xc, .int .u64 (sq : Nat), .int .i64 kd, .slice xv vn xd] 25))
                have TPA := hide tA
                clear hb1 hb2 tA tp bp
                go_upto_region 22 with (fail)
                generalize wp.alloc (.cells #[.slice xa kn xc, .int .u64 (sq : Nat), .int .i64 kd, .slice xv vn xd] 25) = W at *
                generalize wp.heap.size = gx at *
                obtain ⟨c0, c1, c2, c3, hy1, hy2⟩ := CEL.out wp (TT.out.trans (TP.out.mono fun _ _ x => x.elim))
                have tV : Turns (fun _ => False) W W.drew := (Turns.refl _ _).drew
                have SK := hide (fun (u : World) (tt : Turns (fun _ => False) W u) => show F5 u b (off + i * 4) gx xa kn xc sq kd xv vn xd ka kc va vc from ⟨tt.cell (cell_of_row W gx 0 _ 25 (0, 0) NX.out) (fun x => x), tt.cell (cell_of_row W gx 1 _ 25 (0, 0) NX.out) (fun x => x), tt.cell (cell_of_row W gx 2 _ 25 (0, 0) NX.out) (fun x => x), tt.cell (cell_of_row W gx 3 _ 25 (0, 0) NX.out) (fun x => x), (TPA.out.trans tt).cell c0 (fun x => x), (TPA.out.trans tt).cell c1 (fun x => x), (TPA.out.trans tt).cell c2 (fun x => x), (TPA.out.trans tt).cell c3 (fun x => x)⟩)
                have CQ := hide (fun (u : World) (tt : Turns (fun _ => False) W u) => entry_same xa xv ka va kn xc vn xd kc vc sq kd y.e.key y.e.val u (XB.out.1.quiet (TPA.out.trans tt)) (XB.out.2.quiet (TPA.out.trans tt)) (hy1.quiet (TPA.out.trans tt)) (hy2.quiet (TPA.out.trans tt)) hkn hvn)
                clear c0 c1 c2 c3 hy1 hy2
                refine wp_region_held_drew (S := fun u => F5 u b (off + i * 4) gx xa kn xc sq kd xv vn xd ka kc va vc) (by kernel_rfl) (SK.out _ tV) (fun _ => ?_)
                change wpAnyH _ _ _ _ _ 11 (Array.replicate 11 false) _ _
                refine wpAnyH_take (i := 0) (oi := { dst := some 94, op := Op.move (Operand.tmp 14), type := 4, pos := "law.go:108", after := #[], guard := none }) (v := .bool true) rfl (by kernel_rfl) (by kernel_rfl) (by kernel_rfl) (fun _ _ _ h => h) (Or.inl ⟨by rfl, ?_⟩) (SK.out _ tV) ?_
                · rintro w ⟨s0, s1, s2, s3, d0, d1, d2, d3⟩
                  go_simp
                simp only [Act.put, List.setIfInBounds_toArray, List.set_cons_zero, List.set_cons_succ]
                refine wpAnyH_take (i := 1) (oi := { dst := some 95, op := Op.unOp UnOp.not 4 (Operand.tmp 94), type := 4, pos := "law.go:108", after := #[{ on := 0, ground := Ground.data }], guard := none }) (v := .bool false) rfl (by kernel_rfl) (by kernel_rfl) (by kernel_rfl) (fun _ _ _ h => h) (Or.inl ⟨by rfl, ?_⟩) (SK.out _ tV) ?_
                · rintro w ⟨s0, s1, s2, s3, d0, d1, d2, d3⟩
                  go_simp
                simp only [Act.put, List.setIfInBounds_toArray, List.set_cons_zero, List.set_cons_succ]
                refine wpAnyH_take (i := 2) (oi := { dst := some 96, op := Op.move (Operand.tmp 95), type := 4, pos := "law.go:108", after := #[{ on := 1, ground := Ground.data }], guard := none }) (v := .bool false) rfl (by kernel_rfl) (by kernel_rfl) (by kernel_rfl) (fun _ _ _ h => h) (Or.inl ⟨by rfl, ?_⟩) (SK.out _ tV) ?_
                · rintro w ⟨s0, s1, s2, s3, d0, d1, d2, d3⟩
                  go_simp
                simp only [Act.put, List.setIfInBounds_toArray, List.set_cons_zero, List.set_cons_succ]
                refine wpAnyH_take (i := 3) (oi := { dst := some 97, op := Op.load 25 (Operand.tmp 13), type := 25, pos := "law.go:108", after := #[{ on := 2, ground := Ground.guard }], guard := some (2, false) }) (v := .agg #[.slice xa kn xc, .int .u64 (sq : Nat), .int .i64 kd, .slice xv vn xd]) rfl (by kernel_rfl) (by kernel_rfl) (by kernel_rfl) (fun _ _ _ h => h) (Or.inl ⟨by rfl, ?_⟩) (SK.out _ tV) ?_
                · rintro w ⟨s0, s1, s2, s3, d0, d1, d2, d3⟩
                  go_simp
                simp only [Act.put, List.setIfInBounds_toArray, List.set_cons_zero, List.set_cons_succ]
                refine wpAnyH_take (i := 4) (oi := { dst := some 98, op := Op.move (Operand.tmp 8), type := 27, pos := "law.go:108", after := #[{ on := 2, ground := Ground.guard }], guard := some (2, false) }) (v := .slice (some ⟨b, off, none⟩) rl cR) rfl (by kernel_rfl) (by kernel_rfl) (by kernel_rfl) (fun _ _ _ h => h) (Or.inl ⟨by rfl, ?_⟩) (SK.out _ tV) ?_
                · rintro w ⟨s0, s1, s2, s3, d0, d1, d2, d3⟩
                  go_simp
                simp only [Act.put, List.setIfInBounds_toArray, List.set_cons_zero, List.set_cons_succ]
                refine wpAnyH_take (i := 5) (oi := { dst := some 99, op := Op.move (Operand.tmp 12), type := 3, pos := "law.go:108", after := #[{ on := 2, ground := Ground.guard }], guard := some (2, false) }) (v := .int .i64 (i : Nat)) rfl (by kernel_rfl) (by kernel_rfl) (by kernel_rfl) (fun _ _ _ h => h) (Or.inl ⟨by rfl, ?_⟩) (SK.out _ tV) ?_
                · rintro w ⟨s0, s1, s2, s3, d0, d1, d2, d3⟩
                  go_simp
                simp only [Act.put, List.setIfInBounds_toArray, List.set_cons_zero, List.set_cons_succ]
                refine wpAnyH_take (i := 6) (oi := { dst := some 100, op := Op.indexAddr 27 (Operand.tmp 98) (Operand.tmp 99), type := 0, pos := "law.go:108", after := #[{ on := 4, ground := Ground.data }, { on := 5, ground := Ground.data }, { on := 2, ground := Ground.guard }], guard := some (2, false) }) (v := .pointer (some ⟨b, off + i * 4, none⟩)) rfl (by kernel_rfl) (by kernel_rfl) (by kernel_rfl) (fun _ _ _ h => h) (Or.inl ⟨by rfl, ?_⟩) (SK.out _ tV) ?_
                · rintro w ⟨s0, s1, s2, s3, d0, d1, d2, d3⟩
                  go_simp
                simp only [Act.put, List.setIfInBounds_toArray, List.set_cons_zero, List.set_cons_succ]
                refine wpAnyH_take (i := 7) (oi := { dst := some 101, op := Op.load 25 (Operand.tmp 100), type := 25, pos := "law.go:108", after := #[{ on := 6, ground := Ground.data }, { on := 2, ground := Ground.guard }], guard := some (2, false) }) (v := .agg #[.slice ka kn kc, .int .u64 (sq : Nat), .int .i64 kd, .slice va vn vc]) rfl (by kernel_rfl) (by kernel_rfl) (by kernel_rfl) (fun _ _ _ h => h) (Or.inl ⟨by rfl, ?_⟩) (SK.out _ tV) ?_
                · rintro w ⟨s0, s1, s2, s3, d0, d1, d2, d3⟩
                  go_simp
                simp only [Act.put, List.setIfInBounds_toArray, List.set_cons_zero, List.set_cons_succ]
                refine wpAnyH_ready (rs := [8]) (by kernel_rfl) (by simp) ?_
                refine AllReadyH.cons rfl (fun K hK => ?_) AllReadyH.nil
                go_simp
                refine (CQ.out _ tV).mono ?_
                rintro oo Vn ⟨rfl, bq⟩
                have tN := Turns.of_below bq (fun _ => False)
                have tV := tV.trans tN
                clear bq CQ
                clear tN
                go_simp
                refine hK.out _ _ (SK.out _ tV) (fun _ => ?_)
                clear hK K
                refine wpAnyH_take (i := 9) (oi := { dst := some 103, op := Op.unOp UnOp.not 4 (Operand.tmp 102), type := 4, pos := "law.go:108", after := #[{ on := 8, ground := Ground.data }, { on := 2, ground := Ground.guard }], guard := some (2, false) }) (v := .bool false) rfl (by kernel_rfl) (by kernel_rfl) (by kernel_rfl) (fun _ _ _ h => h) (Or.inl ⟨by rfl, ?_⟩) (SK.out _ tV) ?_
                · rintro w ⟨s0, s1, s2, s3, d0, d1, d2, d3⟩
                  go_simp
                simp only [Act.put, List.setIfInBounds_toArray, List.set_cons_zero, List.set_cons_succ]
                refine wpAnyH_take (i := 10) (oi := { dst := some 104, op := Op.pick (Operand.tmp 96) (Operand.const (Value.bool true)) (Operand.tmp 103), type := 4, pos := "law.go:108", after := #[{ on := 2, ground := Ground.data }, { on := 9, ground := Ground.data }], guard := none }) (v := .bool false) rfl (by kernel_rfl) (by kernel_rfl) (by kernel_rfl) (fun _ _ _ h => h) (Or.inl ⟨by rfl, ?_⟩) (SK.out _ tV) ?_
                · rintro w ⟨s0, s1, s2, s3, d0, d1, d2, d3⟩
                  go_simp
                simp only [Act.put, List.setIfInBounds_toArray, List.set_cons_zero, List.set_cons_succ]
                refine wpAnyH_done (by kernel_rfl) ?_ _
                have TX := hide ((TP.out.trans TPA.out).trans tV)
                have ST0 := hide (STI.out.quiet TX.out)
                clear tV SK NX XB
                go_wp2_with fail
                refine ST0.out.left.mono ?_
                rintro e wl ⟨rfl, rfl⟩
                rw [HRL.out, HLF.out]
                go_wp2_with fail
                refine (ST0.out.next HY.out (fun k hk => Nat.lt_of_lt_of_le (VLT.out k hk) (Nat.le_trans TT.out.size TX.out.size)) (Nat.le_trans MLE.out (Nat.le_trans TT.out.size TX.out.size))).mono ?_
                rintro e wn ⟨xa, xc, xv, xd, rfl, hb1, hb2, hst, tn⟩
                rw [HKN.out, HVN.out, HSQ.out, HKD.out]
                rw [HKN.out] at hb1
                rw [HVN.out] at hb2
                have TN := hide (TT.out.trans ((TX.out.mono (S' := fun k => M ≤ k ∧ ¬ inRow (.slice (some ⟨b, off, none⟩) rl cR) k) fun _ _ x => x.elim).trans tn))
                have XB := hide (And.intro hb1 hb2)
                have SN := hide hst
                have tA : Turns (fun _ => False) wn (wn.alloc (.cells #[.slice xa kn xc, .int .u64 (sq : Nat), .int .i64 kd, .slice xv vn xd] 25)) := (Turns.refl _ _).alloc _
                have NX := hide (heap_alloc_new wn (.cells #[.slice xa kn xc, .int .u64 (sq : Nat), .int .i64 kd, .slice xv vn xd] 25))
                have TNA := hide tA
                clear hb1 hb2 hst tn tA
                go_upto_region 26 with (fail)
                generalize wn.alloc (.cells #[.slice xa kn xc, .int .u64 (sq : Nat), .int .i64 kd, .slice xv vn xd] 25) = W at *
                generalize wn.heap.size = gx at *
                obtain ⟨c0, c1, c2, c3, hy1, hy2⟩ := CEL.out wn TN.out
                have tV : Turns (fun _ => False) W W.drew := (Turns.refl _ _).drew
                have SK := hide (fun (u : World) (tt : Turns (fun _ => False) W u) => show F5 u b (off + i * 4) gx xa kn xc sq kd xv vn xd ka kc va vc from ⟨tt.cell (cell_of_row W gx 0 _ 25 (0, 0) NX.out) (fun x => x), tt.cell (cell_of_row W gx 1 _ 25 (0, 0) NX.out) (fun x => x), tt.cell (cell_of_row W gx 2 _ 25 (0, 0) NX.out) (fun x => x), tt.cell (cell_of_row W gx 3 _ 25 (0, 0) NX.out) (fun x => x), (TNA.out.trans tt).cell c0 (fun x => x), (TNA.out.trans tt).cell c1 (fun x => x), (TNA.out.trans tt).cell c2 (fun x => x), (TNA.out.trans tt).cell c3 (fun x => x)⟩)
                have CQ := hide (fun (u : World) (tt : Turns (fun _ => False) W u) => entry_same xa xv ka va kn xc vn xd kc vc sq kd y.e.key y.e.val u (XB.out.1.quiet (TNA.out.trans tt)) (XB.out.2.quiet (TNA.out.trans tt)) (hy1.quiet (TNA.out.trans tt)) (hy2.quiet (TNA.out.trans tt)) hkn hvn)
                clear c0 c1 c2 c3 hy1 hy2
                refine wp_region_held_drew (S := fun u => F5 u b (off + i * 4) gx xa kn xc sq kd xv vn xd ka kc va vc) (by kernel_rfl) (SK.out _ tV) (fun _ => ?_)
                change wpAnyH _ _ _ _ _ 19 (Array.replicate 19 false) _ _
                refine wpAnyH_take (i := 0) (oi := { dst := some 112, op := Op.move (Operand.tmp 17), type := 4, pos := "law.go:114", after := #[], guard := none }) (v := .bool true) rfl (by kernel_rfl) (by kernel_rfl) (by kernel_rfl) (fun _ _ _ h => h) (Or.inl ⟨by rfl, ?_⟩) (SK.out _ tV) ?_
                · rintro w ⟨s0, s1, s2, s3, d0, d1, d2, d3⟩
                  go_simp
                simp only [Act.put, List.setIfInBounds_toArray, List.set_cons_zero, List.set_cons_succ]
                refine wpAnyH_take (i := 1) (oi := { dst := some 113, op := Op.unOp UnOp.not 4 (Operand.tmp 112), type := 4, pos := "law.go:114", after := #[{ on := 0, ground := Ground.data }], guard := none }) (v := .bool false) rfl (by kernel_rfl) (by kernel_rfl) (by kernel_rfl) (fun _ _ _ h => h) (Or.inl ⟨by rfl, ?_⟩) (SK.out _ tV) ?_
                · rintro w ⟨s0, s1, s2, s3, d0, d1, d2, d3⟩
                  go_simp
                simp only [Act.put, List.setIfInBounds_toArray, List.set_cons_zero, List.set_cons_succ]
                refine wpAnyH_take (i := 2) (oi := { dst := some 114, op := Op.move (Operand.tmp 113), type := 4, pos := "law.go:114", after := #[{ on := 1, ground := Ground.data }], guard := none }) (v := .bool false) rfl (by kernel_rfl) (by kernel_rfl) (by kernel_rfl) (fun _ _ _ h => h) (Or.inl ⟨by rfl, ?_⟩) (SK.out _ tV) ?_
                · rintro w ⟨s0, s1, s2, s3, d0, d1, d2, d3⟩
                  go_simp
                simp only [Act.put, List.setIfInBounds_toArray, List.set_cons_zero, List.set_cons_succ]
                refine wpAnyH_take (i := 3) (oi := { dst := some 115, op := Op.load 25 (Operand.tmp 16), type := 25, pos := "law.go:114", after := #[{ on := 2, ground := Ground.guard }], guard := some (2, false) }) (v := .agg #[.slice xa kn xc, .int .u64 (sq : Nat), .int .i64 kd, .slice xv vn xd]) rfl (by kernel_rfl) (by kernel_rfl) (by kernel_rfl) (fun _ _ _ h => h) (Or.inl ⟨by rfl, ?_⟩) (SK.out _ tV) ?_
                · rintro w ⟨s0, s1, s2, s3, d0, d1, d2, d3⟩
                  go_simp
                simp only [Act.put, List.setIfInBounds_toArray, List.set_cons_zero, List.set_cons_succ]
                refine wpAnyH_take (i := 4) (oi := { dst := some 116, op := Op.move (Operand.tmp 8), type := 27, pos := "law.go:114", after := #[{ on := 2, ground := Ground.guard }], guard := some (2, false) }) (v := .slice (some ⟨b, off, none⟩) rl cR) rfl (by kernel_rfl) (by kernel_rfl) (by kernel_rfl) (fun _ _ _ h => h) (Or.inl ⟨by rfl, ?_⟩) (SK.out _ tV) ?_
                · rintro w ⟨s0, s1, s2, s3, d0, d1, d2, d3⟩
                  go_simp
                simp only [Act.put, List.setIfInBounds_toArray, List.set_cons_zero, List.set_cons_succ]
                refine wpAnyH_take (i := 5) (oi := { dst := some 117, op := Op.move (Operand.tmp 12), type := 3, pos := "law.go:114", after := #[{ on := 2, ground := Ground.guard }], guard := some (2, false) }) (v := .int .i64 (i : Nat)) rfl (by kernel_rfl) (by kernel_rfl) (by kernel_rfl) (fun _ _ _ h => h) (Or.inl ⟨by rfl, ?_⟩) (SK.out _ tV) ?_
                · rintro w ⟨s0, s1, s2, s3, d0, d1, d2, d3⟩
                  go_simp
                simp only [Act.put, List.setIfInBounds_toArray, List.set_cons_zero, List.set_cons_succ]
                refine wpAnyH_take (i := 6) (oi := { dst := some 118, op := Op.indexAddr 27 (Operand.tmp 116) (Operand.tmp 117), type := 0, pos := "law.go:114", after := #[{ on := 4, ground := Ground.data }, { on := 5, ground := Ground.data }, { on := 2, ground := Ground.guard }], guard := some (2, false) }) (v := .pointer (some ⟨b, off + i * 4, none⟩)) rfl (by kernel_rfl) (by kernel_rfl) (by kernel_rfl) (fun _ _ _ h => h) (Or.inl ⟨by rfl, ?_⟩) (SK.out _ tV) ?_
                · rintro w ⟨s0, s1, s2, s3, d0, d1, d2, d3⟩
                  go_simp
                simp only [Act.put, List.setIfInBounds_toArray, List.set_cons_zero, List.set_cons_succ]
                refine wpAnyH_take (i := 7) (oi := { dst := some 119, op := Op.load 25 (Operand.tmp 118), type := 25, pos := "law.go:114", after := #[{ on := 6, ground := Ground.data }, { on := 2, ground := Ground.guard }], guard := some (2, false) }) (v := .agg #[.slice ka kn kc, .int .u64 (sq : Nat), .int .i64 kd, .slice va vn vc]) rfl (by kernel_rfl) (by kernel_rfl) (by kernel_rfl) (fun _ _ _ h => h) (Or.inl ⟨by rfl, ?_⟩) (SK.out _ tV) ?_
                · rintro w ⟨s0, s1, s2, s3, d0, d1, d2, d3⟩
                  go_simp
                simp only [Act.put, List.setIfInBounds_toArray, List.set_cons_zero, List.set_cons_succ]
                refine wpAnyH_ready (rs := [8]) (by kernel_rfl) (by simp) ?_
                refine AllReadyH.cons rfl (fun K hK => ?_) AllReadyH.nil
                go_simp
                refine (CQ.out _ tV).mono ?_
                rintro oo Vn ⟨rfl, bq⟩
                have tN := Turns.of_below bq (fun _ => False)
                have tV := tV.trans tN
                clear bq CQ
                clear tN
                go_simp
                refine hK.out _ _ (SK.out _ tV) (fun _ => ?_)
                clear hK K
                refine wpAnyH_take (i := 9) (oi := { dst := some 121, op := Op.unOp UnOp.not 4 (Operand.tmp 120), type := 4, pos := "law.go:114", after := #[{ on := 8, ground := Ground.data }, { on := 2, ground := Ground.guard }], guard := some (2, false) }) (v := .bool false) rfl (by kernel_rfl) (by kernel_rfl) (by kernel_rfl) (fun _ _ _ h => h) (Or.inl ⟨by rfl, ?_⟩) (SK.out _ tV) ?_
                · rintro w ⟨s0, s1, s2, s3, d0, d1, d2, d3⟩
                  go_simp
                simp only [Act.put, List.setIfInBounds_toArray, List.set_cons_zero, List.set_cons_succ]
                refine wpAnyH_take (i := 10) (oi := { dst := some 122, op := Op.pick (Operand.tmp 114) (Operand.const (Value.bool true)) (Operand.tmp 121), type := 4, pos := "law.go:114", after := #[{ on := 2, ground := Ground.data }, { on := 9, ground := Ground.data }], guard := none }) (v := .bool false) rfl (by kernel_rfl) (by kernel_rfl) (by kernel_rfl) (fun _ _ _ h => h) (Or.inl ⟨by rfl, ?_⟩) (SK.out _ tV) ?_
                · rintro w ⟨s0, s1, s2, s3, d0, d1, d2, d3⟩
                  go_simp
                simp only [Act.put, List.setIfInBounds_toArray, List.set_cons_zero, List.set_cons_succ]
                refine wpAnyH_take (i := 11) (oi := { dst := some 123, op := Op.move (Operand.tmp 122), type := 4, pos := "law.go:114", after := #[{ on := 10, ground := Ground.data }, { on := 8, ground := Ground.chain }], guard := none }) (v := .bool false) rfl (by kernel_rfl) (by kernel_rfl) (by kernel_rfl) (fun _ _ _ h => h) (Or.inl ⟨by rfl, ?_⟩) (SK.out _ tV) ?_
                · rintro w ⟨s0, s1, s2, s3, d0, d1, d2, d3⟩
                  go_simp
                simp only [Act.put, List.setIfInBounds_toArray, List.set_cons_zero, List.set_cons_succ]
                refine wpAnyH_take (i := 12) (oi := { dst := some 124, op := Op.move (Operand.tmp 15), type := 3, pos := "law.go:114", after := #[{ on := 11, ground := Ground.guard }], guard := some (11, false) }) (v := .int .i64 ((rl : Int) - i)) rfl (by kernel_rfl) (by kernel_rfl) (by kernel_rfl) (fun _ _ _ h => h) (Or.inl ⟨by rfl, ?_⟩) (SK.out _ tV) ?_
                · rintro w ⟨s0, s1, s2, s3, d0, d1, d2, d3⟩
                  go_simp
                simp only [Act.put, List.setIfInBounds_toArray, List.set_cons_zero, List.set_cons_succ]
                refine wpAnyH_take (i := 13) (oi := { dst := some 125, op := Op.move (Operand.tmp 8), type := 27, pos := "law.go:114", after := #[{ on := 11, ground := Ground.guard }], guard := some (11, false) }) (v := .slice (some ⟨b, off, none⟩) rl cR) rfl (by kernel_rfl) (by kernel_rfl) (by kernel_rfl) (fun _ _ _ h => h) (Or.inl ⟨by rfl, ?_⟩) (SK.out _ tV) ?_
                · rintro w ⟨s0, s1, s2, s3, d0, d1, d2, d3⟩
                  go_simp
                simp only [Act.put, List.setIfInBounds_toArray, List.set_cons_zero, List.set_cons_succ]
                refine wpAnyH_take (i := 14) (oi := { dst := some 126, op := Op.call { callee := Callee.builtin Builtin.len, args := #[Operand.tmp 125], argTypes := #[27] }, type := 3, pos := "law.go:114", after := #[{ on := 13, ground := Ground.data }, { on := 11, ground := Ground.guard }], guard := some (11, false) }) (v := .int .i64 (rl : Nat)) rfl (by kernel_rfl) (by kernel_rfl) (by kernel_rfl) (fun _ _ _ h => h) (Or.inl ⟨by rfl, ?_⟩) (SK.out _ tV) ?_
                · rintro w ⟨s0, s1, s2, s3, d0, d1, d2, d3⟩
                  go_simp
                simp only [Act.put, List.setIfInBounds_toArray, List.set_cons_zero, List.set_cons_succ]
                refine wpAnyH_take (i := 15) (oi := { dst := some 127, op := Op.move (Operand.tmp 12), type := 3, pos := "law.go:114", after := #[{ on := 11, ground := Ground.guard }], guard := some (11, false) }) (v := .int .i64 (i : Nat)) rfl (by kernel_rfl) (by kernel_rfl) (by kernel_rfl) (fun _ _ _ h => h) (Or.inl ⟨by rfl, ?_⟩) (SK.out _ tV) ?_
                · rintro w ⟨s0, s1, s2, s3, d0, d1, d2, d3⟩
                  go_simp
                simp only [Act.put, List.setIfInBounds_toArray, List.set_cons_zero, List.set_cons_succ]
                refine wpAnyH_take (i := 16) (oi := { dst := some 128, op := Op.binOp BinOp.sub 3 (Operand.tmp 126) (Operand.tmp 127) 3, type := 3, pos := "law.go:114", after := #[{ on := 14, ground := Ground.data }, { on := 15, ground := Ground.data }, { on := 11, ground := Ground.guard }], guard := some (11, false) }) (v := .int .i64 ((rl : Int) - i)) rfl (by kernel_rfl) (by kernel_rfl) (by kernel_rfl) (fun _ _ _ h => h) (Or.inl ⟨by rfl, ?_⟩) (SK.out _ tV) ?_
                · rintro w ⟨s0, s1, s2, s3, d0, d1, d2, d3⟩
                  (go_simp; exact wrapI _ (by omega) (by omega))
                simp only [Act.put, List.setIfInBounds_toArray, List.set_cons_zero, List.set_cons_succ]
                refine wpAnyH_take (i := 17) (oi := { dst := some 129, op := Op.binOp BinOp.neq 3 (Operand.tmp 124) (Operand.tmp 128) 3, type := 4, pos := "law.go:114", after := #[{ on := 12, ground := Ground.data }, { on := 16, ground := Ground.data }, { on := 11, ground := Ground.guard }], guard := some (11, false) }) (v := .bool false) rfl (by kernel_rfl) (by kernel_rfl) (by kernel_rfl) (fun _ _ _ h => h) (Or.inl ⟨by rfl, ?_⟩) (SK.out _ tV) ?_
                · rintro w ⟨s0, s1, s2, s3, d0, d1, d2, d3⟩
                  go_simp
                simp only [Act.put, List.setIfInBounds_toArray, List.set_cons_zero, List.set_cons_succ]
                refine wpAnyH_take (i := 18) (oi := { dst := some 130, op := Op.pick (Operand.tmp 123) (Operand.const (Value.bool true)) (Operand.tmp 129), type := 4, pos := "law.go:114", after := #[{ on := 11, ground := Ground.data }, { on := 17, ground := Ground.data }], guard := none }) (v := .bool false) rfl (by kernel_rfl) (by kernel_rfl) (by kernel_rfl) (fun _ _ _ h => h) (Or.inl ⟨by rfl, ?_⟩) (SK.out _ tV) ?_
                · rintro w ⟨s0, s1, s2, s3, d0, d1, d2, d3⟩
                  go_simp
                simp only [Act.put, List.setIfInBounds_toArray, List.set_cons_zero, List.set_cons_succ]
                refine wpAnyH_done (by kernel_rfl) ?_ _
                have REL := hide (And.intro (SN.out.quiet (TNA.out.trans tV)) (TN.out.trans ((TNA.out.trans tV).mono fun _ _ x => x.elim)))
                go_wp2_with fail
                go_roundw
                case rel => exact ⟨i + 1, by go_num, by have := HRLN.out; omega, REL.out⟩
                case measure => simp [intOf]; have := HRLN.out; omega
              · clear hpc
                have TX := hide (Turns.refl (fun _ => False) wr)
                have ST0 := STI
                refine ST0.out.left.mono ?_
                rintro e wl ⟨rfl, rfl⟩
                rw [HRL.out, HLF.out]
                go_wp2_with fail
                refine (ST0.out.next HY.out (fun k hk => Nat.lt_of_lt_of_le (VLT.out k hk) (Nat.le_trans TT.out.size TX.out.size)) (Nat.le_trans MLE.out (Nat.le_trans TT.out.size TX.out.size))).mono ?_
                rintro e wn ⟨xa, xc, xv, xd, rfl, hb1, hb2, hst, tn⟩
                rw [HKN.out, HVN.out, HSQ.out, HKD.out]
                rw [HKN.out] at hb1
                rw [HVN.out] at hb2
                have TN := hide (TT.out.trans ((TX.out.mono (S' := fun k => M ≤ k ∧ ¬ inRow (.slice (some ⟨b, off, none⟩) rl cR) k) fun _ _ x => x.elim).trans tn))
                have XB := hide (And.intro hb1 hb2)
                have SN := hide hst
                have tA : Turns (fun _ => False) wn (wn.alloc (.cells #[.slice xa kn xc, .int .u64 (sq : Nat), .int .i64 kd, .slice xv vn xd] 25)) := (Turns.refl _ _).alloc _
                have NX := hide (heap_alloc_new wn (.cells #[.slice xa kn xc, .int .u64 (sq : Nat), .int .i64 kd, .slice xv vn xd] 25))
                have TNA := hide tA
                clear hb1 hb2 hst tn tA
                go_upto_region 26 with (fail)
                generalize wn.alloc (.cells #[.slice xa kn xc, .int .u64 (sq : Nat), .int .i64 kd, .slice xv vn xd] 25) = W at *
                generalize wn.heap.size = gx at *
                obtain ⟨c0, c1, c2, c3, hy1, hy2⟩ := CEL.out wn TN.out
                have tV : Turns (fun _ => False) W W.drew := (Turns.refl _ _).drew
                have SK := hide (fun (u : World) (tt : Turns (fun _ => False) W u) => show F5 u b (off + i * 4) gx xa kn xc sq kd xv vn xd ka kc va vc from ⟨tt.cell (cell_of_row W gx 0 _ 25 (0, 0) NX.out) (fun x => x), tt.cell (cell_of_row W gx 1 _ 25 (0, 0) NX.out) (fun x => x), tt.cell (cell_of_row W gx 2 _ 25 (0, 0) NX.out) (fun x => x), tt.cell (cell_of_row W gx 3 _ 25 (0, 0) NX.out) (fun x => x), (TNA.out.trans tt).cell c0 (fun x => x), (TNA.out.trans tt).cell c1 (fun x => x), (TNA.out.trans tt).cell c2 (fun x => x), (TNA.out.trans tt).cell c3 (fun x => x)⟩)
                have CQ := hide (fun (u : World) (tt : Turns (fun _ => False) W u) => entry_same xa xv ka va kn xc vn xd kc vc sq kd y.e.key y.e.val u (XB.out.1.quiet (TNA.out.trans tt)) (XB.out.2.quiet (TNA.out.trans tt)) (hy1.quiet (TNA.out.trans tt)) (hy2.quiet (TNA.out.trans tt)) hkn hvn)
                clear c0 c1 c2 c3 hy1 hy2
                refine wp_region_held_drew (S := fun u => F5 u b (off + i * 4) gx xa kn xc sq kd xv vn xd ka kc va vc) (by kernel_rfl) (SK.out _ tV) (fun _ => ?_)
                change wpAnyH _ _ _ _ _ 19 (Array.replicate 19 false) _ _
                refine wpAnyH_take (i := 0) (oi := { dst := some 112, op := Op.move (Operand.tmp 17), type := 4, pos := "law.go:114", after := #[], guard := none }) (v := .bool true) rfl (by kernel_rfl) (by kernel_rfl) (by kernel_rfl) (fun _ _ _ h => h) (Or.inl ⟨by rfl, ?_⟩) (SK.out _ tV) ?_
                · rintro w ⟨s0, s1, s2, s3, d0, d1, d2, d3⟩
                  go_simp
                simp only [Act.put, List.setIfInBounds_toArray, List.set_cons_zero, List.set_cons_succ]
                refine wpAnyH_take (i := 1) (oi := { dst := some 113, op := Op.unOp UnOp.not 4 (Operand.tmp 112), type := 4, pos := "law.go:114", after := #[{ on := 0, ground := Ground.data }], guard := none }) (v := .bool false) rfl (by kernel_rfl) (by kernel_rfl) (by kernel_rfl) (fun _ _ _ h => h) (Or.inl ⟨by rfl, ?_⟩) (SK.out _ tV) ?_
                · rintro w ⟨s0, s1, s2, s3, d0, d1, d2, d3⟩
                  go_simp
                simp only [Act.put, List.setIfInBounds_toArray, List.set_cons_zero, List.set_cons_succ]
                refine wpAnyH_take (i := 2) (oi := { dst := some 114, op := Op.move (Operand.tmp 113), type := 4, pos := "law.go:114", after := #[{ on := 1, ground := Ground.data }], guard := none }) (v := .bool false) rfl (by kernel_rfl) (by kernel_rfl) (by kernel_rfl) (fun _ _ _ h => h) (Or.inl ⟨by rfl, ?_⟩) (SK.out _ tV) ?_
                · rintro w ⟨s0, s1, s2, s3, d0, d1, d2, d3⟩
                  go_simp
                simp only [Act.put, List.setIfInBounds_toArray, List.set_cons_zero, List.set_cons_succ]
                refine wpAnyH_take (i := 3) (oi := { dst := some 115, op := Op.load 25 (Operand.tmp 16), type := 25, pos := "law.go:114", after := #[{ on := 2, ground := Ground.guard }], guard := some (2, false) }) (v := .agg #[.slice xa kn xc, .int .u64 (sq : Nat), .int .i64 kd, .slice xv vn xd]) rfl (by kernel_rfl) (by kernel_rfl) (by kernel_rfl) (fun _ _ _ h => h) (Or.inl ⟨by rfl, ?_⟩) (SK.out _ tV) ?_
                · rintro w ⟨s0, s1, s2, s3, d0, d1, d2, d3⟩
                  go_simp
                simp only [Act.put, List.setIfInBounds_toArray, List.set_cons_zero, List.set_cons_succ]
                refine wpAnyH_take (i := 4) (oi := { dst := some 116, op := Op.move (Operand.tmp 8), type := 27, pos := "law.go:114", after := #[{ on := 2, ground := Ground.guard }], guard := some (2, false) }) (v := .slice (some ⟨b, off, none⟩) rl cR) rfl (by kernel_rfl) (by kernel_rfl) (by kernel_rfl) (fun _ _ _ h => h) (Or.inl ⟨by rfl, ?_⟩) (SK.out _ tV) ?_
                · rintro w ⟨s0, s1, s2, s3, d0, d1, d2, d3⟩
                  go_simp
                simp only [Act.put, List.setIfInBounds_toArray, List.set_cons_zero, List.set_cons_succ]
                refine wpAnyH_take (i := 5) (oi := { dst := some 117, op := Op.move (Operand.tmp 12), type := 3, pos := "law.go:114", after := #[{ on := 2, ground := Ground.guard }], guard := some (2, false) }) (v := .int .i64 (i : Nat)) rfl (by kernel_rfl) (by kernel_rfl) (by kernel_rfl) (fun _ _ _ h => h) (Or.inl ⟨by rfl, ?_⟩) (SK.out _ tV) ?_
                · rintro w ⟨s0, s1, s2, s3, d0, d1, d2, d3⟩
                  go_simp
                simp only [Act.put, List.setIfInBounds_toArray, List.set_cons_zero, List.set_cons_succ]
                refine wpAnyH_take (i := 6) (oi := { dst := some 118, op := Op.indexAddr 27 (Operand.tmp 116) (Operand.tmp 117), type := 0, pos := "law.go:114", after := #[{ on := 4, ground := Ground.data }, { on := 5, ground := Ground.data }, { on := 2, ground := Ground.guard }], guard := some (2, false) }) (v := .pointer (some ⟨b, off + i * 4, none⟩)) rfl (by kernel_rfl) (by kernel_rfl) (by kernel_rfl) (fun _ _ _ h => h) (Or.inl ⟨by rfl, ?_⟩) (SK.out _ tV) ?_
                · rintro w ⟨s0, s1, s2, s3, d0, d1, d2, d3⟩
                  go_simp
                simp only [Act.put, List.setIfInBounds_toArray, List.set_cons_zero, List.set_cons_succ]
                refine wpAnyH_take (i := 7) (oi := { dst := some 119, op := Op.load 25 (Operand.tmp 118), type := 25, pos := "law.go:114", after := #[{ on := 6, ground := Ground.data }, { on := 2, ground := Ground.guard }], guard := some (2, false) }) (v := .agg #[.slice ka kn kc, .int .u64 (sq : Nat), .int .i64 kd, .slice va vn vc]) rfl (by kernel_rfl) (by kernel_rfl) (by kernel_rfl) (fun _ _ _ h => h) (Or.inl ⟨by rfl, ?_⟩) (SK.out _ tV) ?_
                · rintro w ⟨s0, s1, s2, s3, d0, d1, d2, d3⟩
                  go_simp
                simp only [Act.put, List.setIfInBounds_toArray, List.set_cons_zero, List.set_cons_succ]
                refine wpAnyH_ready (rs := [8]) (by kernel_rfl) (by simp) ?_
                refine AllReadyH.cons rfl (fun K hK => ?_) AllReadyH.nil
                go_simp
                refine (CQ.out _ tV).mono ?_
                rintro oo Vn ⟨rfl, bq⟩
                have tN := Turns.of_below bq (fun _ => False)
                have tV := tV.trans tN
                clear bq CQ
                clear tN
                go_simp
                refine hK.out _ _ (SK.out _ tV) (fun _ => ?_)
                clear hK K
                refine wpAnyH_take (i := 9) (oi := { dst := some 121, op := Op.unOp UnOp.not 4 (Operand.tmp 120), type := 4, pos := "law.go:114", after := #[{ on := 8, ground := Ground.data }, { on := 2, ground := Ground.guard }], guard := some (2, false) }) (v := .bool false) rfl (by kernel_rfl) (by kernel_rfl) (by kernel_rfl) (fun _ _ _ h => h) (Or.inl ⟨by rfl, ?_⟩) (SK.out _ tV) ?_
                · rintro w ⟨s0, s1, s2, s3, d0, d1, d2, d3⟩
                  go_simp
                simp only [Act.put, List.setIfInBounds_toArray, List.set_cons_zero, List.set_cons_succ]
                refine wpAnyH_take (i := 10) (oi := { dst := some 122, op := Op.pick (Operand.tmp 114) (Operand.const (Value.bool true)) (Operand.tmp 121), type := 4, pos := "law.go:114", after := #[{ on := 2, ground := Ground.data }, { on := 9, ground := Ground.data }], guard := none }) (v := .bool false) rfl (by kernel_rfl) (by kernel_rfl) (by kernel_rfl) (fun _ _ _ h => h) (Or.inl ⟨by rfl, ?_⟩) (SK.out _ tV) ?_
                · rintro w ⟨s0, s1, s2, s3, d0, d1, d2, d3⟩
                  go_simp
                simp only [Act.put, List.setIfInBounds_toArray, List.set_cons_zero, List.set_cons_succ]
                refine wpAnyH_take (i := 11) (oi := { dst := some 123, op := Op.move (Operand.tmp 122), type := 4, pos := "law.go:114", after := #[{ on := 10, ground := Ground.data }, { on := 8, ground := Ground.chain }], guard := none }) (v := .bool false) rfl (by kernel_rfl) (by kernel_rfl) (by kernel_rfl) (fun _ _ _ h => h) (Or.inl ⟨by rfl, ?_⟩) (SK.out _ tV) ?_
                · rintro w ⟨s0, s1, s2, s3, d0, d1, d2, d3⟩
                  go_simp
                simp only [Act.put, List.setIfInBounds_toArray, List.set_cons_zero, List.set_cons_succ]
                refine wpAnyH_take (i := 12) (oi := { dst := some 124, op := Op.move (Operand.tmp 15), type := 3, pos := "law.go:114", after := #[{ on := 11, ground := Ground.guard }], guard := some (11, false) }) (v := .int .i64 ((rl : Int) - i)) rfl (by kernel_rfl) (by kernel_rfl) (by kernel_rfl) (fun _ _ _ h => h) (Or.inl ⟨by rfl, ?_⟩) (SK.out _ tV) ?_
                · rintro w ⟨s0, s1, s2, s3, d0, d1, d2, d3⟩
                  go_simp
                simp only [Act.put, List.setIfInBounds_toArray, List.set_cons_zero, List.set_cons_succ]
                refine wpAnyH_take (i := 13) (oi := { dst := some 125, op := Op.move (Operand.tmp 8), type := 27, pos := "law.go:114", after := #[{ on := 11, ground := Ground.guard }], guard := some (11, false) }) (v := .slice (some ⟨b, off, none⟩) rl cR) rfl (by kernel_rfl) (by kernel_rfl) (by kernel_rfl) (fun _ _ _ h => h) (Or.inl ⟨by rfl, ?_⟩) (SK.out _ tV) ?_
                · rintro w ⟨s0, s1, s2, s3, d0, d1, d2, d3⟩
                  go_simp
                simp only [Act.put, List.setIfInBounds_toArray, List.set_cons_zero, List.set_cons_succ]
                refine wpAnyH_take (i := 14) (oi := { dst := some 126, op := Op.call { callee := Callee.builtin Builtin.len, args := #[Operand.tmp 125], argTypes := #[27] }, type := 3, pos := "law.go:114", after := #[{ on := 13, ground := Ground.data }, { on := 11, ground := Ground.guard }], guard := some (11, false) }) (v := .int .i64 (rl : Nat)) rfl (by kernel_rfl) (by kernel_rfl) (by kernel_rfl) (fun _ _ _ h => h) (Or.inl ⟨by rfl, ?_⟩) (SK.out _ tV) ?_
                · rintro w ⟨s0, s1, s2, s3, d0, d1, d2, d3⟩
                  go_simp
                simp only [Act.put, List.setIfInBounds_toArray, List.set_cons_zero, List.set_cons_succ]
                refine wpAnyH_take (i := 15) (oi := { dst := some 127, op := Op.move (Operand.tmp 12), type := 3, pos := "law.go:114", after := #[{ on := 11, ground := Ground.guard }], guard := some (11, false) }) (v := .int .i64 (i : Nat)) rfl (by kernel_rfl) (by kernel_rfl) (by kernel_rfl) (fun _ _ _ h => h) (Or.inl ⟨by rfl, ?_⟩) (SK.out _ tV) ?_
                · rintro w ⟨s0, s1, s2, s3, d0, d1, d2, d3⟩
                  go_simp
                simp only [Act.put, List.setIfInBounds_toArray, List.set_cons_zero, List.set_cons_succ]
                refine wpAnyH_take (i := 16) (oi := { dst := some 128, op := Op.binOp BinOp.sub 3 (Operand.tmp 126) (Operand.tmp 127) 3, type := 3, pos := "law.go:114", after := #[{ on := 14, ground := Ground.data }, { on := 15, ground := Ground.data }, { on := 11, ground := Ground.guard }], guard := some (11, false) }) (v := .int .i64 ((rl : Int) - i)) rfl (by kernel_rfl) (by kernel_rfl) (by kernel_rfl) (fun _ _ _ h => h) (Or.inl ⟨by rfl, ?_⟩) (SK.out _ tV) ?_
                · rintro w ⟨s0, s1, s2, s3, d0, d1, d2, d3⟩
                  (go_simp; exact wrapI _ (by omega) (by omega))
                simp only [Act.put, List.setIfInBounds_toArray, List.set_cons_zero, List.set_cons_succ]
                refine wpAnyH_take (i := 17) (oi := { dst := some 129, op := Op.binOp BinOp.neq 3 (Operand.tmp 124) (Operand.tmp 128) 3, type := 4, pos := "law.go:114", after := #[{ on := 12, ground := Ground.data }, { on := 16, ground := Ground.data }, { on := 11, ground := Ground.guard }], guard := some (11, false) }) (v := .bool false) rfl (by kernel_rfl) (by kernel_rfl) (by kernel_rfl) (fun _ _ _ h => h) (Or.inl ⟨by rfl, ?_⟩) (SK.out _ tV) ?_
                · rintro w ⟨s0, s1, s2, s3, d0, d1, d2, d3⟩
                  go_simp
                simp only [Act.put, List.setIfInBounds_toArray, List.set_cons_zero, List.set_cons_succ]
                refine wpAnyH_take (i := 18) (oi := { dst := some 130, op := Op.pick (Operand.tmp 123) (Operand.const (Value.bool true)) (Operand.tmp 129), type := 4, pos := "law.go:114", after := #[{ on := 11, ground := Ground.data }, { on := 17, ground := Ground.data }], guard := none }) (v := .bool false) rfl (by kernel_rfl) (by kernel_rfl) (by kernel_rfl) (fun _ _ _ h => h) (Or.inl ⟨by rfl, ?_⟩) (SK.out _ tV) ?_
                · rintro w ⟨s0, s1, s2, s3, d0, d1, d2, d3⟩
                  go_simp
                simp only [Act.put, List.setIfInBounds_toArray, List.set_cons_zero, List.set_cons_succ]
                refine wpAnyH_done (by kernel_rfl) ?_ _
                have REL := hide (And.intro (SN.out.quiet (TNA.out.trans tV)) (TN.out.trans ((TNA.out.trans tV).mono fun _ _ x => x.elim)))
                go_wp2_with fail
                go_roundw
                case rel => exact ⟨i + 1, by go_num, by have := HRLN.out; omega, REL.out⟩
                case measure => simp [intOf]; have := HRLN.out; omega
            · have j1 : ¬ (i : Int) < pn := by omega
              have TX := hide (Turns.refl (fun _ => False) wr)
              have ST0 := STI
              go_wp2_with fail
              refine ST0.out.left.mono ?_
              rintro e wl ⟨rfl, rfl⟩
              rw [HRL.out, HLF.out]
              go_wp2_with fail
              refine (ST0.out.next HY.out (fun k hk => Nat.lt_of_lt_of_le (VLT.out k hk) (Nat.le_trans TT.out.size TX.out.size)) (Nat.le_trans MLE.out (Nat.le_trans TT.out.size TX.out.size))).mono ?_
              rintro e wn ⟨xa, xc, xv, xd, rfl, hb1, hb2, hst, tn⟩
              rw [HKN.out, HVN.out, HSQ.out, HKD.out]
              rw [HKN.out] at hb1
              rw [HVN.out] at hb2
              have TN := hide (TT.out.trans ((TX.out.mono (S' := fun k => M ≤ k ∧ ¬ inRow (.slice (some ⟨b, off, none⟩) rl cR) k) fun _ _ x => x.elim).trans tn))
              have XB := hide (And.intro hb1 hb2)
              have SN := hide hst
              have tA : Turns (fun _ => False) wn (wn.alloc (.cells #[.slice xa kn xc, .int .u64 (sq : Nat), .int .i64 kd, .slice xv vn xd] 25)) := (Turns.refl _ _).alloc _
              have NX := hide (heap_alloc_new wn (.cells #[.slice xa kn xc, .int .u64 (sq : Nat), .int .i64 kd, .slice xv vn xd] 25))
              have TNA := hide tA
              clear hb1 hb2 hst tn tA
              go_upto_region 26 with (fail)
              generalize wn.alloc (.cells #[.slice xa kn xc, .int .u64 (sq : Nat), .int .i64 kd, .slice xv vn xd] 25) = W at *
              generalize wn.heap.size = gx at *
              obtain ⟨c0, c1, c2, c3, hy1, hy2⟩ := CEL.out wn TN.out
              have tV : Turns (fun _ => False) W W.drew := (Turns.refl _ _).drew
              have SK := hide (fun (u : World) (tt : Turns (fun _ => False) W u) => show F5 u b (off + i * 4) gx xa kn xc sq kd xv vn xd ka kc va vc from ⟨tt.cell (cell_of_row W gx 0 _ 25 (0, 0) NX.out) (fun x => x), tt.cell (cell_of_row W gx 1 _ 25 (0, 0) NX.out) (fun x => x), tt.cell (cell_of_row W gx 2 _ 25 (0, 0) NX.out) (fun x => x), tt.cell (cell_of_row W gx 3 _ 25 (0, 0) NX.out) (fun x => x), (TNA.out.trans tt).cell c0 (fun x => x), (TNA.out.trans tt).cell c1 (fun x => x), (TNA.out.trans tt).cell c2 (fun x => x), (TNA.out.trans tt).cell c3 (fun x => x)⟩)
              have CQ := hide (fun (u : World) (tt : Turns (fun _ => False) W u) => entry_same xa xv ka va kn xc vn xd kc vc sq kd y.e.key y.e.val u (XB.out.1.quiet (TNA.out.trans tt)) (XB.out.2.quiet (TNA.out.trans tt)) (hy1.quiet (TNA.out.trans tt)) (hy2.quiet (TNA.out.trans tt)) hkn hvn)
              clear c0 c1 c2 c3 hy1 hy2
              refine wp_region_held_drew (S := fun u => F5 u b (off + i * 4) gx xa kn xc sq kd xv vn xd ka kc va vc) (by kernel_rfl) (SK.out _ tV) (fun _ => ?_)
              change wpAnyH _ _ _ _ _ 19 (Array.replicate 19 false) _ _
              refine wpAnyH_take (i := 0) (oi := { dst := some 112, op := Op.move (Operand.tmp 17), type := 4, pos := "law.go:114", after := #[], guard := none }) (v := .bool true) rfl (by kernel_rfl) (by kernel_rfl) (by kernel_rfl) (fun _ _ _ h => h) (Or.inl ⟨by rfl, ?_⟩) (SK.out _ tV) ?_
              · rintro w ⟨s0, s1, s2, s3, d0, d1, d2, d3⟩
                go_simp
              simp only [Act.put, List.setIfInBounds_toArray, List.set_cons_zero, List.set_cons_succ]
              refine wpAnyH_take (i := 1) (oi := { dst := some 113, op := Op.unOp UnOp.not 4 (Operand.tmp 112), type := 4, pos := "law.go:114", after := #[{ on := 0, ground := Ground.data }], guard := none }) (v := .bool false) rfl (by kernel_rfl) (by kernel_rfl) (by kernel_rfl) (fun _ _ _ h => h) (Or.inl ⟨by rfl, ?_⟩) (SK.out _ tV) ?_
              · rintro w ⟨s0, s1, s2, s3, d0, d1, d2, d3⟩
                go_simp
              simp only [Act.put, List.setIfInBounds_toArray, List.set_cons_zero, List.set_cons_succ]
              refine wpAnyH_take (i := 2) (oi := { dst := some 114, op := Op.move (Operand.tmp 113), type := 4, pos := "law.go:114", after := #[{ on := 1, ground := Ground.data }], guard := none }) (v := .bool false) rfl (by kernel_rfl) (by kernel_rfl) (by kernel_rfl) (fun _ _ _ h => h) (Or.inl ⟨by rfl, ?_⟩) (SK.out _ tV) ?_
              · rintro w ⟨s0, s1, s2, s3, d0, d1, d2, d3⟩
                go_simp
              simp only [Act.put, List.setIfInBounds_toArray, List.set_cons_zero, List.set_cons_succ]
              refine wpAnyH_take (i := 3) (oi := { dst := some 115, op := Op.load 25 (Operand.tmp 16), type := 25, pos := "law.go:114", after := #[{ on := 2, ground := Ground.guard }], guard := some (2, false) }) (v := .agg #[.slice xa kn xc, .int .u64 (sq : Nat), .int .i64 kd, .slice xv vn xd]) rfl (by kernel_rfl) (by kernel_rfl) (by kernel_rfl) (fun _ _ _ h => h) (Or.inl ⟨by rfl, ?_⟩) (SK.out _ tV) ?_
              · rintro w ⟨s0, s1, s2, s3, d0, d1, d2, d3⟩
                go_simp
              simp only [Act.put, List.setIfInBounds_toArray, List.set_cons_zero, List.set_cons_succ]
              refine wpAnyH_take (i := 4) (oi := { dst := some 116, op := Op.move (Operand.tmp 8), type := 27, pos := "law.go:114", after := #[{ on := 2, ground := Ground.guard }], guard := some (2, false) }) (v := .slice (some ⟨b, off, none⟩) rl cR) rfl (by kernel_rfl) (by kernel_rfl) (by kernel_rfl) (fun _ _ _ h => h) (Or.inl ⟨by rfl, ?_⟩) (SK.out _ tV) ?_
              · rintro w ⟨s0, s1, s2, s3, d0, d1, d2, d3⟩
                go_simp
              simp only [Act.put, List.setIfInBounds_toArray, List.set_cons_zero, List.set_cons_succ]
              refine wpAnyH_take (i := 5) (oi := { dst := some 117, op := Op.move (Operand.tmp 12), type := 3, pos := "law.go:114", after := #[{ on := 2, ground := Ground.guard }], guard := some (2, false) }) (v := .int .i64 (i : Nat)) rfl (by kernel_rfl) (by kernel_rfl) (by kernel_rfl) (fun _ _ _ h => h) (Or.inl ⟨by rfl, ?_⟩) (SK.out _ tV) ?_
              · rintro w ⟨s0, s1, s2, s3, d0, d1, d2, d3⟩
                go_simp
              simp only [Act.put, List.setIfInBounds_toArray, List.set_cons_zero, List.set_cons_succ]
              refine wpAnyH_take (i := 6) (oi := { dst := some 118, op := Op.indexAddr 27 (Operand.tmp 116) (Operand.tmp 117), type := 0, pos := "law.go:114", after := #[{ on := 4, ground := Ground.data }, { on := 5, ground := Ground.data }, { on := 2, ground := Ground.guard }], guard := some (2, false) }) (v := .pointer (some ⟨b, off + i * 4, none⟩)) rfl (by kernel_rfl) (by kernel_rfl) (by kernel_rfl) (fun _ _ _ h => h) (Or.inl ⟨by rfl, ?_⟩) (SK.out _ tV) ?_
              · rintro w ⟨s0, s1, s2, s3, d0, d1, d2, d3⟩
                go_simp
              simp only [Act.put, List.setIfInBounds_toArray, List.set_cons_zero, List.set_cons_succ]
              refine wpAnyH_take (i := 7) (oi := { dst := some 119, op := Op.load 25 (Operand.tmp 118), type := 25, pos := "law.go:114", after := #[{ on := 6, ground := Ground.data }, { on := 2, ground := Ground.guard }], guard := some (2, false) }) (v := .agg #[.slice ka kn kc, .int .u64 (sq : Nat), .int .i64 kd, .slice va vn vc]) rfl (by kernel_rfl) (by kernel_rfl) (by kernel_rfl) (fun _ _ _ h => h) (Or.inl ⟨by rfl, ?_⟩) (SK.out _ tV) ?_
              · rintro w ⟨s0, s1, s2, s3, d0, d1, d2, d3⟩
                go_simp
              simp only [Act.put, List.setIfInBounds_toArray, List.set_cons_zero, List.set_cons_succ]
              refine wpAnyH_ready (rs := [8]) (by kernel_rfl) (by simp) ?_
              refine AllReadyH.cons rfl (fun K hK => ?_) AllReadyH.nil
              go_simp
              refine (CQ.out _ tV).mono ?_
              rintro oo Vn ⟨rfl, bq⟩
              have tN := Turns.of_below bq (fun _ => False)
              have tV := tV.trans tN
              clear bq CQ
              clear tN
              go_simp
              refine hK.out _ _ (SK.out _ tV) (fun _ => ?_)
              clear hK K
              refine wpAnyH_take (i := 9) (oi := { dst := some 121, op := Op.unOp UnOp.not 4 (Operand.tmp 120), type := 4, pos := "law.go:114", after := #[{ on := 8, ground := Ground.data }, { on := 2, ground := Ground.guard }], guard := some (2, false) }) (v := .bool false) rfl (by kernel_rfl) (by kernel_rfl) (by kernel_rfl) (fun _ _ _ h => h) (Or.inl ⟨by rfl, ?_⟩) (SK.out _ tV) ?_
              · rintro w ⟨s0, s1, s2, s3, d0, d1, d2, d3⟩
                go_simp
              simp only [Act.put, List.setIfInBounds_toArray, List.set_cons_zero, List.set_cons_succ]
              refine wpAnyH_take (i := 10) (oi := { dst := some 122, op := Op.pick (Operand.tmp 114) (Operand.const (Value.bool true)) (Operand.tmp 121), type := 4, pos := "law.go:114", after := #[{ on := 2, ground := Ground.data }, { on := 9, ground := Ground.data }], guard := none }) (v := .bool false) rfl (by kernel_rfl) (by kernel_rfl) (by kernel_rfl) (fun _ _ _ h => h) (Or.inl ⟨by rfl, ?_⟩) (SK.out _ tV) ?_
              · rintro w ⟨s0, s1, s2, s3, d0, d1, d2, d3⟩
                go_simp
              simp only [Act.put, List.setIfInBounds_toArray, List.set_cons_zero, List.set_cons_succ]
              refine wpAnyH_take (i := 11) (oi := { dst := some 123, op := Op.move (Operand.tmp 122), type := 4, pos := "law.go:114", after := #[{ on := 10, ground := Ground.data }, { on := 8, ground := Ground.chain }], guard := none }) (v := .bool false) rfl (by kernel_rfl) (by kernel_rfl) (by kernel_rfl) (fun _ _ _ h => h) (Or.inl ⟨by rfl, ?_⟩) (SK.out _ tV) ?_
              · rintro w ⟨s0, s1, s2, s3, d0, d1, d2, d3⟩
                go_simp
              simp only [Act.put, List.setIfInBounds_toArray, List.set_cons_zero, List.set_cons_succ]
              refine wpAnyH_take (i := 12) (oi := { dst := some 124, op := Op.move (Operand.tmp 15), type := 3, pos := "law.go:114", after := #[{ on := 11, ground := Ground.guard }], guard := some (11, false) }) (v := .int .i64 ((rl : Int) - i)) rfl (by kernel_rfl) (by kernel_rfl) (by kernel_rfl) (fun _ _ _ h => h) (Or.inl ⟨by rfl, ?_⟩) (SK.out _ tV) ?_
              · rintro w ⟨s0, s1, s2, s3, d0, d1, d2, d3⟩
                go_simp
              simp only [Act.put, List.setIfInBounds_toArray, List.set_cons_zero, List.set_cons_succ]
              refine wpAnyH_take (i := 13) (oi := { dst := some 125, op := Op.move (Operand.tmp 8), type := 27, pos := "law.go:114", after := #[{ on := 11, ground := Ground.guard }], guard := some (11, false) }) (v := .slice (some ⟨b, off, none⟩) rl cR) rfl (by kernel_rfl) (by kernel_rfl) (by kernel_rfl) (fun _ _ _ h => h) (Or.inl ⟨by rfl, ?_⟩) (SK.out _ tV) ?_
              · rintro w ⟨s0, s1, s2, s3, d0, d1, d2, d3⟩
                go_simp
              simp only [Act.put, List.setIfInBounds_toArray, List.set_cons_zero, List.set_cons_succ]
              refine wpAnyH_take (i := 14) (oi := { dst := some 126, op := Op.call { callee := Callee.builtin Builtin.len, args := #[Operand.tmp 125], argTypes := #[27] }, type := 3, pos := "law.go:114", after := #[{ on := 13, ground := Ground.data }, { on := 11, ground := Ground.guard }], guard := some (11, false) }) (v := .int .i64 (rl : Nat)) rfl (by kernel_rfl) (by kernel_rfl) (by kernel_rfl) (fun _ _ _ h => h) (Or.inl ⟨by rfl, ?_⟩) (SK.out _ tV) ?_
              · rintro w ⟨s0, s1, s2, s3, d0, d1, d2, d3⟩
                go_simp
              simp only [Act.put, List.setIfInBounds_toArray, List.set_cons_zero, List.set_cons_succ]
              refine wpAnyH_take (i := 15) (oi := { dst := some 127, op := Op.move (Operand.tmp 12), type := 3, pos := "law.go:114", after := #[{ on := 11, ground := Ground.guard }], guard := some (11, false) }) (v := .int .i64 (i : Nat)) rfl (by kernel_rfl) (by kernel_rfl) (by kernel_rfl) (fun _ _ _ h => h) (Or.inl ⟨by rfl, ?_⟩) (SK.out _ tV) ?_
              · rintro w ⟨s0, s1, s2, s3, d0, d1, d2, d3⟩
                go_simp
              simp only [Act.put, List.setIfInBounds_toArray, List.set_cons_zero, List.set_cons_succ]
              refine wpAnyH_take (i := 16) (oi := { dst := some 128, op := Op.binOp BinOp.sub 3 (Operand.tmp 126) (Operand.tmp 127) 3, type := 3, pos := "law.go:114", after := #[{ on := 14, ground := Ground.data }, { on := 15, ground := Ground.data }, { on := 11, ground := Ground.guard }], guard := some (11, false) }) (v := .int .i64 ((rl : Int) - i)) rfl (by kernel_rfl) (by kernel_rfl) (by kernel_rfl) (fun _ _ _ h => h) (Or.inl ⟨by rfl, ?_⟩) (SK.out _ tV) ?_
              · rintro w ⟨s0, s1, s2, s3, d0, d1, d2, d3⟩
                (go_simp; exact wrapI _ (by omega) (by omega))
              simp only [Act.put, List.setIfInBounds_toArray, List.set_cons_zero, List.set_cons_succ]
              refine wpAnyH_take (i := 17) (oi := { dst := some 129, op := Op.binOp BinOp.neq 3 (Operand.tmp 124) (Operand.tmp 128) 3, type := 4, pos := "law.go:114", after := #[{ on := 12, ground := Ground.data }, { on := 16, ground := Ground.data }, { on := 11, ground := Ground.guard }], guard := some (11, false) }) (v := .bool false) rfl (by kernel_rfl) (by kernel_rfl) (by kernel_rfl) (fun _ _ _ h => h) (Or.inl ⟨by rfl, ?_⟩) (SK.out _ tV) ?_
              · rintro w ⟨s0, s1, s2, s3, d0, d1, d2, d3⟩
                go_simp
              simp only [Act.put, List.setIfInBounds_toArray, List.set_cons_zero, List.set_cons_succ]
              refine wpAnyH_take (i := 18) (oi := { dst := some 130, op := Op.pick (Operand.tmp 123) (Operand.const (Value.bool true)) (Operand.tmp 129), type := 4, pos := "law.go:114", after := #[{ on := 11, ground := Ground.data }, { on := 17, ground := Ground.data }], guard := none }) (v := .bool false) rfl (by kernel_rfl) (by kernel_rfl) (by kernel_rfl) (fun _ _ _ h => h) (Or.inl ⟨by rfl, ?_⟩) (SK.out _ tV) ?_
              · rintro w ⟨s0, s1, s2, s3, d0, d1, d2, d3⟩
                go_simp
              simp only [Act.put, List.setIfInBounds_toArray, List.set_cons_zero, List.set_cons_succ]
              refine wpAnyH_done (by kernel_rfl) ?_ _
              have REL := hide (And.intro (SN.out.quiet (TNA.out.trans tV)) (TN.out.trans ((TNA.out.trans tV).mono fun _ _ x => x.elim)))
              go_wp2_with fail
              go_roundw
              case rel => exact ⟨i + 1, by go_num, by have := HRLN.out; omega, REL.out⟩
              case measure => simp [intOf]; have := HRLN.out; omega
          · obtain rfl : i = R.length := by omega
            have EN := hide (fun (u : World) (t : Turns (fun _ => False) wr u) => (STI.out.quiet t).ends (Nat.le_refl _))
            have LE := hide (fun (u : World) (t : Turns (fun _ => False) wr u) => (STI.out.quiet t).left)
            go_wp2_with fail
            refine (EN.out _ (Turns.refl _ _)).1.mono ?_
            rintro e u1 ⟨rfl, k1⟩
            have U1 := hide ((Turns.of_below k1 (fun _ => False)).alloc (.cells #[.slice none 0 0, .int .u64 0, .int .i64 0, .slice none 0 0] 25))
            clear k1
            go_wp2_with fail
            refine (EN.out _ U1.out).2.mono ?_
            rintro e u2 ⟨rfl, k2⟩
            have U2 := hide (U1.out.trans ((Turns.of_below k2 (fun _ => False)).alloc (.cells #[.slice none 0 0, .int .u64 0, .int .i64 0, .slice none 0 0] 25)))
            clear k2
            go_wp2_with fail
            refine (LE.out _ U2.out).mono ?_
            rintro e u3 ⟨rfl, rfl⟩
            rw [show ((R.length - R.length : Nat) : Int) = 0 by omega]
            go_wp2_with fail
            go_ret
            exact ⟨rfl, (TW.out.trans U2.out).below (Nat.le_refl _) (fun _ x => x.elim)⟩
end Go.Proofs.Ytjnpendihdlgnaa
