import Derived.Test.YtmmcikbedegigaaM26
import Derived.Test.YtmmcikbedegigaaM27
import Derived.Test.YtmmcikbedegigaaM28
import Derived.Test.YtmmcikbedegigaaM35
import Derived.Test.YtmmcikbedegigaaM32
import Derived.Test.YtmmcikbedegigaaM30
/-
  VersionCalls: the walk.
-/
namespace Go.Proofs.Ytmmcikbedegigaa
open Go.RowKit
set_option maxRecDepth 100000
set_option maxHeartbeats 4000000
/-- What Apply answered, in memory. -/
structure VR (w : World) (r : Option (List (List Fl))) (en es el : Nat) (pa : Option Addr) (pn p1 p2 p3 : Nat) (L1 : List Lv) : Prop where
  levs : Levs w pa L1
  len : pn = L1.length
  le : pn ≤ 5
  fl : flL L1 = r.getD []
  q1 : p1 = if r.isSome then en else 0
  q2 : p2 = if r.isSome then es else 0
  q3 : p3 = if r.isSome then el else 0
theorem VR.quiet {w w' : World} {r : Option (List (List Fl))} {en es el : Nat} {pa : Option Addr} {pn p1 p2 p3 : Nat} {L1 : List Lv} (h : VR w r en es el pa pn p1 p2 p3 L1) (t : Turns (fun _ => False) w w') : VR w' r en es el pa pn p1 p2 p3 L1 := { h with levs := h.levs.quiet t }
theorem applied_vr {w0 w' : World} {LL : List (List Fl)} {next seq log : Nat} {D : List (Int × Nat)} {A : List AddF} {en es el : Nat} {e : Ending} (h : Applied w0 w' LL next seq log D A en es el e) : ∃ er r pa pn pc p1 p2 p3 L1, e = .returned (.tuple #[verAgg pa pn pc p1 p2 p3, .int .i64 er]) ∧ ApplyR LL next seq log D A en es el r er ∧ VR w' r en es el pa pn p1 p2 p3 L1 ∧ cnt L1 ≤ 5000 ∧ byts L1 ≤ 600000 := by
  obtain ⟨v, er, r, rfl, h1, h2, h3⟩ := h
  cases r with
  | none =>
    rw [h2 rfl]
    exact ⟨er, none, none, 0, 0, 0, 0, 0, [], rfl, h1, ⟨fun k x hx => by simp at hx, rfl, by omega, rfl, rfl, rfl, rfl⟩, by simp [cnt], by simp [byts]⟩
  | some LL' =>
    obtain ⟨G, c, L', rfl, h4, h5, _⟩ := h3 LL' rfl
    exact ⟨er, some LL', some ⟨G, 0, none⟩, 5, c, en, es, el, L', rfl, h1, ⟨h5.levs, h5.len, by omega, h4, rfl, rfl, rfl⟩, h5.cnt, h5.byts⟩
theorem rapplied_vr {w' : World} {LL : List (List Fl)} {next seq log : Nat} {D : List (Int × Nat)} {A : List AddF} {en es el : Nat} {e : Ending} (h : RApplied w' LL next seq log D A en es el e) : ∃ er r pa pn pc p1 p2 p3 L1, e = .returned (.tuple #[verAgg pa pn pc p1 p2 p3, .int .i64 er]) ∧ ApplyR LL next seq log D A en es el r er ∧ VR w' r en es el pa pn p1 p2 p3 L1 := by
  obtain ⟨v, er, r, rfl, h1, h2, h3⟩ := h
  cases r with
  | none =>
    rw [h2 rfl]
    exact ⟨er, none, none, 0, 0, 0, 0, 0, [], rfl, h1, ⟨fun k x hx => by simp at hx, rfl, by omega, rfl, rfl, rfl, rfl⟩⟩
  | some LL' =>
    obtain ⟨a, c, L', rfl, h4, h5, h6⟩ := h3 LL' rfl
    exact ⟨er, some LL', a, 5, c, en, es, el, L', rfl, h1, ⟨h5, h6.symm, by omega, h4, rfl, rfl, rfl⟩⟩
/-- What Whole answered, in memory. -/
structure WR (w : World) (LL : List (List Fl)) (next seq log : Nat) (sa : Option Addr) (sn q1 q2 q3 : Nat) (er : Int) (A : List (Int × Tf)) : Prop where
  adds : Adds w sa A
  len : sn = A.length
  fa : fA A = if wrongVF LL next seq log then [] else wholeF LL
  h1 : q1 = if wrongVF LL next seq log then 0 else next
  h2 : q2 = if wrongVF LL next seq log then 0 else seq
  h3 : q3 = if wrongVF LL next seq log then 0 else log
  he : er = if wrongVF LL next seq log then 2 else 0
theorem WR.quiet {w w' : World} {LL : List (List Fl)} {next seq log : Nat} {sa : Option Addr} {sn q1 q2 q3 : Nat} {er : Int} {A : List (Int × Tf)} (h : WR w LL next seq log sa sn q1 q2 q3 er A) (t : Turns (fun _ => False) w w') : WR w' LL next seq log sa sn q1 q2 q3 er A := { h with adds := h.adds.quiet t }
theorem wholed_wr {w' : World} {LL : List (List Fl)} {next seq log : Nat} {e : Ending} (h : Wholed w' LL next seq log e) : ∃ er sa sn sc q1 q2 q3 A, e = .returned (.tuple #[edAgg none 0 0 sa sn sc q1 q2 q3, .int .i64 er]) ∧ WR w' LL next seq log sa sn q1 q2 q3 er A := by
  rcases h with ⟨hw, rfl⟩ | ⟨hw, sa, sn, sc, A, rfl, h1, h2, h3⟩
  · exact ⟨2, none, 0, 0, 0, 0, 0, [], rfl, ⟨fun k x hx => by simp at hx, rfl, by rw [hw]; rfl, by rw [hw]; rfl, by rw [hw]; rfl, by rw [hw]; rfl, by rw [hw]; rfl⟩⟩
  · exact ⟨0, sa, sn, sc, next, seq, log, A, rfl, ⟨h3, h1, by rw [hw]; exact h2, by rw [hw]; rfl, by rw [hw]; rfl, by rw [hw]; rfl, by rw [hw]; rfl⟩⟩
theorem wholeF_mem {LL : List (List Fl)} {d : AddF} (h : d ∈ wholeF LL) : ∃ l ∈ LL, d.2 ∈ l := by
  unfold wholeF at h
  obtain ⟨⟨l, k⟩, hp, h2⟩ := List.mem_flatMap.1 h
  obtain ⟨f, hf, rfl⟩ := List.mem_map.1 h2
  exact ⟨l, List.mem_of_getElem? (List.mem_zipIdx_iff_getElem?.1 hp), hf⟩
theorem fils_ok {w : World} {B B' : Nat} {a : Option Addr} {c : Nat} {R : List Tf} (h : RowOk w B a c R) (hf : ∀ y ∈ R, FT w B' y) : Fils w a R := by
  rcases h with ⟨_, e, _⟩ | ⟨g, e, _, _, hr⟩
  · rw [e]; intro k y hy; simp at hy
  · rw [e]; exact fils_of_row hr fun y hy => (hf y hy).fb
theorem calls_any (a : Option Addr) (n c next seq log : Nat) (L : List Lv) (da : Option Addr) (dn dc : Nat) (aa : Option Addr) (an ac en es el : Nat) (D : List (Int × Nat)) (A : List (Int × Tf)) (z : Int) (a1 : Option Addr) (n1 c1 : Nat) (a2 : Option Addr) (n2 c2 : Nat) (least most : List (BitVec 8)) (w : World)
    (hL : Levs w a L) (hn : n = L.length) (hnr : n ≤ reachBytes) (hf : ∀ x ∈ L, x.l.length ≤ reachBytes ∧ ∀ f ∈ x.l, FitF f) (b1 : next < 18446744073709551616) (b2 : seq < 18446744073709551616) (b3 : log < 18446744073709551616)
    (hD : Drops w da D) (hdn : dn = D.length) (hdr : dn ≤ reachBytes) (hA : Adds w aa A) (han : an = A.length) (har : an ≤ reachBytes) (hfa : ∀ d ∈ A, FitF d.2) (b4 : en < 18446744073709551616) (b5 : es < 18446744073709551616) (b6 : el < 18446744073709551616)
    (h1 : Bytes w (.slice a1 n1 c1) least) (h2 : Bytes w (.slice a2 n2 c2) most) (hr1 : n1 ≤ reachBytes) (hr2 : n2 ≤ reachBytes) :
    Calls Try.prog 4 #[verAgg a n c next seq log, edAgg da dn dc aa an ac en es el, .int .i64 z, .slice a1 n1 c1, .slice a2 n2 c2] w fun e w' => e = .returned (.bool true) ∧ Turns (fun _ => False) w w' := by
  have TA := hide (((Turns.refl (fun _ => False) w).alloc (.cells #[.slice a n c, .int .u64 (next : Nat), .int .u64 (seq : Nat), .int .u64 (log : Nat)] 25)).alloc (.cells #[.slice da dn dc, .slice aa an ac, .int .u64 (en : Nat), .int .u64 (es : Nat), .int .u64 (el : Nat)] 33))
  have G0 := hide (show ((w.alloc (.cells #[.slice a n c, .int .u64 (next : Nat), .int .u64 (seq : Nat), .int .u64 (log : Nat)] 25)).alloc (.cells #[.slice da dn dc, .slice aa an ac, .int .u64 (en : Nat), .int .u64 (es : Nat), .int .u64 (el : Nat)] 33)).heap[w.heap.size]? = some (.cells #[.slice a n c, .int .u64 (next : Nat), .int .u64 (seq : Nat), .int .u64 (log : Nat)] 25) from ((Turns.refl (fun _ => False) (w.alloc (.cells #[.slice a n c, .int .u64 (next : Nat), .int .u64 (seq : Nat), .int .u64 (log : Nat)] 25))).alloc (.cells #[.slice da dn dc, .slice aa an ac, .int .u64 (en : Nat), .int .u64 (es : Nat), .int .u64 (el : Nat)] 33)).heap (heap_alloc_new w (.cells #[.slice a n c, .int .u64 (next : Nat), .int .u64 (seq : Nat), .int .u64 (log : Nat)] 25)) (fun x => x))
  have G1 := hide (show ((w.alloc (.cells #[.slice a n c, .int .u64 (next : Nat), .int .u64 (seq : Nat), .int .u64 (log : Nat)] 25)).alloc (.cells #[.slice da dn dc, .slice aa an ac, .int .u64 (en : Nat), .int .u64 (es : Nat), .int .u64 (el : Nat)] 33)).heap[w.heap.size + 1]? = some (.cells #[.slice da dn dc, .slice aa an ac, .int .u64 (en : Nat), .int .u64 (es : Nat), .int .u64 (el : Nat)] 33) from by have := heap_alloc_new (w.alloc (.cells #[.slice a n c, .int .u64 (next : Nat), .int .u64 (seq : Nat), .int .u64 (log : Nat)] 25)) (.cells #[.slice da dn dc, .slice aa an ac, .int .u64 (en : Nat), .int .u64 (es : Nat), .int .u64 (el : Nat)] 33); rwa [show (w.alloc (.cells #[.slice a n c, .int .u64 (next : Nat), .int .u64 (seq : Nat), .int .u64 (log : Nat)] 25)).heap.size = w.heap.size + 1 by simp] at this)
  have HL := hide hL
  have HA := hide hA
  have HD := hide hD
  have H1 := hide h1
  have H2 := hide h2
  have HN := hide (show n = L.length ∧ dn = D.length ∧ an = A.length from ⟨hn, hdn, han⟩)
  have HF := hide hf
  have HFA := hide hfa
  have HNR := hide (show n ≤ reachBytes ∧ dn ≤ reachBytes ∧ an ≤ reachBytes from ⟨hnr, hdr, har⟩)
  have hr1' : (n1 : Int) ≤ 140737488355328 := by unfold reachBytes at hr1; omega
  have hr2' : (n2 : Int) ≤ 140737488355328 := by unfold reachBytes at hr2; omega
  have CSM := hide (fun (u : World) (t : Turns (fun _ => False) w u) => small_any a n c next seq log L u (HL.out.quiet t) HN.out.1 HNR.out.1 (fun x hx => (HF.out x hx).1))
  have CSE := hide (fun (u : World) (t : Turns (fun _ => False) w u) => smallE_any da dn dc aa an ac en es el A u (HA.out.quiet t) HN.out.2.2 HNR.out.2.2 HNR.out.2.1)
  have HB := hide (show next < 18446744073709551616 ∧ seq < 18446744073709551616 ∧ log < 18446744073709551616 ∧ en < 18446744073709551616 ∧ es < 18446744073709551616 ∧ el < 18446744073709551616 from ⟨b1, b2, b3, b4, b5, b6⟩)
  unfold verAgg edAgg at *
  clear hL hA hD h1 h2 hn hdn han hf hfa hnr hdr har b1 b2 b3 b4 b5 b6 hr1 hr2
  go_enter Try.func4, Try.ntmps4
  go_wp2_with fail
  generalize (w.alloc (.cells #[.slice a n c, .int .u64 (next : Nat), .int .u64 (seq : Nat), .int .u64 (log : Nat)] 25)).alloc (.cells #[.slice da dn dc, .slice aa an ac, .int .u64 (en : Nat), .int .u64 (es : Nat), .int .u64 (el : Nat)] 33) = w0 at *
  generalize w.heap.size = P at *
  refine (lives_any w0).mono ?_
  rintro e w1 ⟨rfl, t1⟩
  have T1 := hide t1
  have v1 := t1.heap G0.out (fun x => x)
  have u1 := t1.heap G1.out (fun x => x)
  have e0 := cell_of_row w1 P 0 _ 25 (0, 0) v1
  have e1 := cell_of_row w1 P 1 _ 25 (0, 0) v1
  have e2 := cell_of_row w1 P 2 _ 25 (0, 0) v1
  have e3 := cell_of_row w1 P 3 _ 25 (0, 0) v1
  clear t1
  have HSM := hide (show (decide (n ≤ 10) && (decide (w64 (cnt L : Nat) ≤ 100) && decide (w64 (levN L : Nat) ≤ 10000))) = true → L.length ≤ 10 ∧ cnt L ≤ 100 ∧ byts L ≤ 10000 from fun q => by
    simp only [Bool.and_eq_true, decide_eq_true_eq] at q
    have h3 := HN.out.1
    exact ⟨by omega, small_fin HF.out (by omega) q.2.1 q.2.2⟩)
  have HSE := hide (show (decide (an ≤ 100) && (decide (dn ≤ 100) && decide (w64 (addsN A : Nat) ≤ 10000))) = true → an ≤ 100 ∧ dn ≤ 100 ∧ addsN A ≤ 10000 from fun q => by
    simp only [Bool.and_eq_true, decide_eq_true_eq] at q
    exact ⟨q.1, q.2.1, smallE_fin HFA.out (by have := HN.out.2.2; omega) q.2.2⟩)
  go_wp2_with fail
  refine (CSM.out _ (TA.out.trans T1.out)).mono ?_
  rintro e w2 ⟨rfl, t2⟩
  have T2 := hide (T1.out.trans t2)
  have u2 := t2.heap u1 (fun x => x)
  have v2 := t2.heap v1 (fun x => x)
  clear t2 u1 v1
  generalize (decide (n ≤ 10) && (decide (w64 (cnt L : Nat) ≤ 100) && decide (w64 (levN L : Nat) ≤ 10000))) = SB at *
  cases SB with
  | false =>
    go_wp2_with fail
    go_ret
    exact ⟨rfl, TA.out.trans T2.out⟩
  | true =>
    have f0 := cell_of_row w2 (P + 1) 0 _ 33 (0, 0) u2
    have f1 := cell_of_row w2 (P + 1) 1 _ 33 (0, 0) u2
    have f2 := cell_of_row w2 (P + 1) 2 _ 33 (0, 0) u2
    have f3 := cell_of_row w2 (P + 1) 3 _ 33 (0, 0) u2
    have f4 := cell_of_row w2 (P + 1) 4 _ 33 (0, 0) u2
    go_wp2_with fail
    refine (CSE.out _ (TA.out.trans T2.out)).mono ?_
    rintro e w3 ⟨rfl, t3⟩
    have T3 := hide (T2.out.trans t3)
    have u3 := t3.heap u2 (fun x => x)
    have v3 := t3.heap v2 (fun x => x)
    clear t3 u2 v2
    generalize (decide (an ≤ 100) && (decide (dn ≤ 100) && decide (w64 (addsN A : Nat) ≤ 10000))) = SB at *
    cases SB with
    | false =>
      go_wp2_with fail
      go_ret
      exact ⟨rfl, TA.out.trans T3.out⟩
    | true =>
      by_cases hsz : (n1 : Int) + n2 ≤ 10000
      · have hcb := HSM.out (by first | rfl | trivial)
        have heb := HSE.out (by first | rfl | trivial)
        have HCB := hide hcb
        have HEB := hide heb
        have HVI := hide (fun (u : World) (t : Turns (fun _ => False) w u) => verIn_small (HL.out.quiet t) HN.out.1 HF.out HCB.out.2.1 HCB.out.2.2 HB.out.1 HB.out.2.1 HB.out.2.2.1)
        have HED := hide (fun (u : World) (t : Turns (fun _ => False) w u) => edIn_small (HD.out.quiet t) HN.out.2.1 (HA.out.quiet t) HN.out.2.2 HFA.out HEB.out.1 HEB.out.2.1 HEB.out.2.2 HB.out.2.2.2.1 HB.out.2.2.2.2.1 HB.out.2.2.2.2.2)
        have HAK := hide (show byts L + ((fA A).map fun d => keyF d.2).sum ≤ 600000 by rw [addsN_key]; have := HCB.out.2.2; have := HEB.out.2.2; omega)
        have CA := hide (fun (u : World) (t : Turns (fun _ => False) w u) => apply_any a n c next seq log L da dn dc aa an ac en es el D A u (HVI.out u t) (HED.out u t) (by have := HCB.out.2.1; have := HEB.out.1; omega) HAK.out)
        have CR := hide (fun (u : World) (t : Turns (fun _ => False) w u) => rapply_any a n c next seq log L da dn dc aa an ac en es el D A u (HVI.out u t) (HED.out u t) (by have := HCB.out.2.1; have := HEB.out.1; omega) HAK.out)
        have CW := hide (fun (u : World) (t : Turns (fun _ => False) w u) => whole_any a n c next seq log L u (HVI.out u t))
        have CX := hide (fun (u : World) (t : Turns (fun _ => False) w u) => rwhole_any a n c next seq log L u (HVI.out u t))
        have HMM := hide (show n1 ≤ 1000000 ∧ n2 ≤ 1000000 by omega)
        unfold verAgg edAgg at CA CR
        unfold verAgg at CW CX
        clear hcb heb
        have e0 := cell_of_row w3 P 0 _ 25 (0, 0) v3
        have e1 := cell_of_row w3 P 1 _ 25 (0, 0) v3
        have e2 := cell_of_row w3 P 2 _ 25 (0, 0) v3
        have e3 := cell_of_row w3 P 3 _ 25 (0, 0) v3
        have f0 := cell_of_row w3 (P + 1) 0 _ 33 (0, 0) u3
        have f1 := cell_of_row w3 (P + 1) 1 _ 33 (0, 0) u3
        have f2 := cell_of_row w3 (P + 1) 2 _ 33 (0, 0) u3
        have f3 := cell_of_row w3 (P + 1) 3 _ 33 (0, 0) u3
        have f4 := cell_of_row w3 (P + 1) 4 _ 33 (0, 0) u3
        go_wp2_with fail
        refine (CA.out _ (TA.out.trans T3.out)).mono ?_
        rintro e w4 ⟨t4, hap⟩
        obtain ⟨er, r, pa, pn, pc, p1, p2, p3, LA, rfl, har, hvr, hcA, hbA⟩ := applied_vr hap
        have HAR := hide har
        have HVR := hide hvr
        have HCA := hide (show cnt LA ≤ 5000 ∧ byts LA ≤ 600000 from ⟨hcA, hbA⟩)
        have NA := hide (heap_alloc_new w4 (.cells #[.slice pa pn pc, .int .u64 (p1 : Nat), .int .u64 (p2 : Nat), .int .u64 (p3 : Nat)] 25))
        have tA := t4.alloc (.cells #[.slice pa pn pc, .int .u64 (p1 : Nat), .int .u64 (p2 : Nat), .int .u64 (p3 : Nat)] 25)
        have T5 := hide (T3.out.trans tA)
        have v5 := tA.heap v3 (fun x => x)
        have u5 := tA.heap u3 (fun x => x)
        have HVR := hide (HVR.out.quiet ((Turns.refl _ w4).alloc (.cells #[.slice pa pn pc, .int .u64 (p1 : Nat), .int .u64 (p2 : Nat), .int .u64 (p3 : Nat)] 25)))
        clear t4 tA hap har hvr hcA hbA v3 u3 e0 e1 e2 e3 f0 f1 f2 f3 f4
        unfold verAgg at *
        have e0 := cell_of_row _ P 0 _ 25 (0, 0) v5
        have e1 := cell_of_row _ P 1 _ 25 (0, 0) v5
        have e2 := cell_of_row _ P 2 _ 25 (0, 0) v5
        have e3 := cell_of_row _ P 3 _ 25 (0, 0) v5
        have f0 := cell_of_row _ (P + 1) 0 _ 33 (0, 0) u5
        have f1 := cell_of_row _ (P + 1) 1 _ 33 (0, 0) u5
        have f2 := cell_of_row _ (P + 1) 2 _ 33 (0, 0) u5
        have f3 := cell_of_row _ (P + 1) 3 _ 33 (0, 0) u5
        have f4 := cell_of_row _ (P + 1) 4 _ 33 (0, 0) u5
        go_wp2_with fail
        generalize w4.alloc (.cells #[.slice pa pn pc, .int .u64 (p1 : Nat), .int .u64 (p2 : Nat), .int .u64 (p3 : Nat)] 25) = w5 at *
        generalize w4.heap.size = PA at *
        refine (CR.out _ (TA.out.trans T5.out)).mono ?_
        rintro e w6 ⟨t6, hap⟩
        obtain ⟨er', r', pa', pn', pc', p1', p2', p3', LB, rfl, har', hvr'⟩ := rapplied_vr hap
        obtain ⟨rfl, rfl⟩ := HAR.out.one har'
        obtain rfl : p1' = p1 := by rw [hvr'.q1, HVR.out.q1]
        obtain rfl : p2' = p2 := by rw [hvr'.q2, HVR.out.q2]
        obtain rfl : p3' = p3 := by rw [hvr'.q3, HVR.out.q3]
        have HFE := hide (show flL LA = flL LB by rw [hvr'.fl, HVR.out.fl])
        have NB := hide (heap_alloc_new w6 (.cells #[.slice pa' pn' pc', .int .u64 (p1' : Nat), .int .u64 (p2' : Nat), .int .u64 (p3' : Nat)] 25))
        have tA := t6.alloc (.cells #[.slice pa' pn' pc', .int .u64 (p1' : Nat), .int .u64 (p2' : Nat), .int .u64 (p3' : Nat)] 25)
        have T7 := hide (T5.out.trans tA)
        have v7 := tA.heap v5 (fun x => x)
        have u7 := tA.heap u5 (fun x => x)
        have NA := hide (tA.heap NA.out (fun x => x))
        have HVR := hide (HVR.out.quiet tA)
        have HVS := hide (hvr'.quiet ((Turns.refl _ w6).alloc (.cells #[.slice pa' pn' pc', .int .u64 (p1' : Nat), .int .u64 (p2' : Nat), .int .u64 (p3' : Nat)] 25)))
        clear t6 tA hap har' hvr' v5 u5 e0 e1 e2 e3 f0 f1 f2 f3 f4
        unfold verAgg at *
        have e0 := cell_of_row _ P 0 _ 25 (0, 0) v7
        have e1 := cell_of_row _ P 1 _ 25 (0, 0) v7
        have e2 := cell_of_row _ P 2 _ 25 (0, 0) v7
        have e3 := cell_of_row _ P 3 _ 25 (0, 0) v7
        go_wp2_with fail
        generalize w6.alloc (.cells #[.slice pa' pn' pc', .int .u64 (p1' : Nat), .int .u64 (p2' : Nat), .int .u64 (p3' : Nat)] 25) = w7 at *
        generalize w6.heap.size = PB at *
        refine (CW.out _ (TA.out.trans T7.out)).mono ?_
        rintro e w8 ⟨t8, hap⟩
        obtain ⟨ew, sa, sn, sc, q1, q2, q3, AW, rfl, hwr⟩ := wholed_wr hap
        have NC := hide (heap_alloc_new w8 (.cells #[.slice none 0 0, .slice sa sn sc, .int .u64 (q1 : Nat), .int .u64 (q2 : Nat), .int .u64 (q3 : Nat)] 33))
        have tA := t8.alloc (.cells #[.slice none 0 0, .slice sa sn sc, .int .u64 (q1 : Nat), .int .u64 (q2 : Nat), .int .u64 (q3 : Nat)] 33)
        have T9 := hide (T7.out.trans tA)
        have v9 := tA.heap v7 (fun x => x)
        have NA := hide (tA.heap NA.out (fun x => x))
        have NB := hide (tA.heap NB.out (fun x => x))
        have HVR := hide (HVR.out.quiet tA)
        have HVS := hide (HVS.out.quiet tA)
        have HWR := hide (hwr.quiet ((Turns.refl _ w8).alloc (.cells #[.slice none 0 0, .slice sa sn sc, .int .u64 (q1 : Nat), .int .u64 (q2 : Nat), .int .u64 (q3 : Nat)] 33)))
        clear t8 tA hap hwr v7 u7 e0 e1 e2 e3
        unfold edAgg at *
        have e0 := cell_of_row _ P 0 _ 25 (0, 0) v9
        have e1 := cell_of_row _ P 1 _ 25 (0, 0) v9
        have e2 := cell_of_row _ P 2 _ 25 (0, 0) v9
        have e3 := cell_of_row _ P 3 _ 25 (0, 0) v9
        go_wp2_with fail
        generalize w8.alloc (.cells #[.slice none 0 0, .slice sa sn sc, .int .u64 (q1 : Nat), .int .u64 (q2 : Nat), .int .u64 (q3 : Nat)] 33) = w9 at *
        generalize w8.heap.size = PC at *
        refine (CX.out _ (TA.out.trans T9.out)).mono ?_
        rintro e wa ⟨t8, hap⟩
        obtain ⟨ew', sa', sn', sc', q1', q2', q3', AX, rfl, hwr⟩ := wholed_wr hap
        obtain rfl : ew' = ew := by rw [hwr.he, HWR.out.he]
        obtain rfl : q1' = q1 := by rw [hwr.h1, HWR.out.h1]
        obtain rfl : q2' = q2 := by rw [hwr.h2, HWR.out.h2]
        obtain rfl : q3' = q3 := by rw [hwr.h3, HWR.out.h3]
        have HFW := hide (show fA AW = fA AX by rw [hwr.fa, HWR.out.fa])
        obtain rfl : sn' = sn := by
          have h3 := congrArg List.length HFW.out
          have h4 := hwr.len
          have h5 := HWR.out.len
          unfold fA at h3
          simp only [List.length_map] at h3
          omega
        have ND := hide (heap_alloc_new wa (.cells #[.slice none 0 0, .slice sa' sn' sc', .int .u64 (q1' : Nat), .int .u64 (q2' : Nat), .int .u64 (q3' : Nat)] 33))
        have tA := t8.alloc (.cells #[.slice none 0 0, .slice sa' sn' sc', .int .u64 (q1' : Nat), .int .u64 (q2' : Nat), .int .u64 (q3' : Nat)] 33)
        have Tb := hide (T9.out.trans tA)
        have vb := tA.heap v9 (fun x => x)
        have NA := hide (tA.heap NA.out (fun x => x))
        have NB := hide (tA.heap NB.out (fun x => x))
        have NC := hide (tA.heap NC.out (fun x => x))
        have HVR := hide (HVR.out.quiet tA)
        have HVS := hide (HVS.out.quiet tA)
        have HWR := hide (HWR.out.quiet tA)
        have HWS := hide (hwr.quiet ((Turns.refl _ wa).alloc (.cells #[.slice none 0 0, .slice sa' sn' sc', .int .u64 (q1' : Nat), .int .u64 (q2' : Nat), .int .u64 (q3' : Nat)] 33)))
        clear t8 tA hap hwr v9 e0 e1 e2 e3
        unfold edAgg at *
        go_wp2_with fail
        generalize wa.alloc (.cells #[.slice none 0 0, .slice sa' sn' sc', .int .u64 (q1' : Nat), .int .u64 (q2' : Nat), .int .u64 (q3' : Nat)] 33) = wb at *
        generalize wa.heap.size = PD at *
        have VB := hide vb
        clear vb
        have HVIW := hide (fun (u : World) (t : Turns (fun _ => False) wb u) => HVI.out u ((TA.out.trans Tb.out).trans t))
        have SK := hide (fun (u : World) (t : Turns (fun _ => False) wb u) => show (fun u => (u.cell? ⟨P, 0, none⟩ = some (.slice a n c) ∧ u.cell? ⟨P, 1, none⟩ = some (.int .u64 (next : Nat)) ∧ u.cell? ⟨P, 2, none⟩ = some (.int .u64 (seq : Nat)) ∧ u.cell? ⟨P, 3, none⟩ = some (.int .u64 (log : Nat))) ∧ (u.cell? ⟨PA, 0, none⟩ = some (.slice pa pn pc) ∧ u.cell? ⟨PA, 1, none⟩ = some (.int .u64 (p1' : Nat)) ∧ u.cell? ⟨PA, 2, none⟩ = some (.int .u64 (p2' : Nat)) ∧ u.cell? ⟨PA, 3, none⟩ = some (.int .u64 (p3' : Nat))) ∧ (u.cell? ⟨PB, 0, none⟩ = some (.slice pa' pn' pc') ∧ u.cell? ⟨PB, 1, none⟩ = some (.int .u64 (p1' : Nat)) ∧ u.cell? ⟨PB, 2, none⟩ = some (.int .u64 (p2' : Nat)) ∧ u.cell? ⟨PB, 3, none⟩ = some (.int .u64 (p3' : Nat))) ∧ (u.cell? ⟨PC, 0, none⟩ = some (.slice none 0 0) ∧ u.cell? ⟨PC, 1, none⟩ = some (.slice sa sn' sc) ∧ u.cell? ⟨PC, 2, none⟩ = some (.int .u64 (q1' : Nat)) ∧ u.cell? ⟨PC, 3, none⟩ = some (.int .u64 (q2' : Nat)) ∧ u.cell? ⟨PC, 4, none⟩ = some (.int .u64 (q3' : Nat))) ∧ (u.cell? ⟨PD, 0, none⟩ = some (.slice none 0 0) ∧ u.cell? ⟨PD, 1, none⟩ = some (.slice sa' sn' sc') ∧ u.cell? ⟨PD, 2, none⟩ = some (.int .u64 (q1' : Nat)) ∧ u.cell? ⟨PD, 3, none⟩ = some (.int .u64 (q2' : Nat)) ∧ u.cell? ⟨PD, 4, none⟩ = some (.int .u64 (q3' : Nat)))) u from ⟨⟨t.cell (cell_of_row wb P 0 _ 25 (0, 0) VB.out) (fun x => x), t.cell (cell_of_row wb P 1 _ 25 (0, 0) VB.out) (fun x => x), t.cell (cell_of_row wb P 2 _ 25 (0, 0) VB.out) (fun x => x), t.cell (cell_of_row wb P 3 _ 25 (0, 0) VB.out) (fun x => x)⟩, ⟨t.cell (cell_of_row wb PA 0 _ 25 (0, 0) NA.out) (fun x => x), t.cell (cell_of_row wb PA 1 _ 25 (0, 0) NA.out) (fun x => x), t.cell (cell_of_row wb PA 2 _ 25 (0, 0) NA.out) (fun x => x), t.cell (cell_of_row wb PA 3 _ 25 (0, 0) NA.out) (fun x => x)⟩, ⟨t.cell (cell_of_row wb PB 0 _ 25 (0, 0) NB.out) (fun x => x), t.cell (cell_of_row wb PB 1 _ 25 (0, 0) NB.out) (fun x => x), t.cell (cell_of_row wb PB 2 _ 25 (0, 0) NB.out) (fun x => x), t.cell (cell_of_row wb PB 3 _ 25 (0, 0) NB.out) (fun x => x)⟩, ⟨t.cell (cell_of_row wb PC 0 _ 33 (0, 0) NC.out) (fun x => x), t.cell (cell_of_row wb PC 1 _ 33 (0, 0) NC.out) (fun x => x), t.cell (cell_of_row wb PC 2 _ 33 (0, 0) NC.out) (fun x => x), t.cell (cell_of_row wb PC 3 _ 33 (0, 0) NC.out) (fun x => x), t.cell (cell_of_row wb PC 4 _ 33 (0, 0) NC.out) (fun x => x)⟩, ⟨t.cell (cell_of_row wb PD 0 _ 33 (0, 0) ND.out) (fun x => x), t.cell (cell_of_row wb PD 1 _ 33 (0, 0) ND.out) (fun x => x), t.cell (cell_of_row wb PD 2 _ 33 (0, 0) ND.out) (fun x => x), t.cell (cell_of_row wb PD 3 _ 33 (0, 0) ND.out) (fun x => x), t.cell (cell_of_row wb PD 4 _ 33 (0, 0) ND.out) (fun x => x)⟩⟩)
        have K10 := hide (fun (u : World) (t : Turns (fun _ => False) wb u) => check_any a n c next seq log L u (HVIW.out u t))
        have K18 := hide (fun (u : World) (t : Turns (fun _ => False) wb u) => rcheck_any a n c next seq log L u (HVIW.out u t))
        have K19 := hide (fun (u : World) (t : Turns (fun _ => False) wb u) => kversion_same pa pn pc LA pa' pn' pc' LB p1' p2' p3' u (HVR.out.levs.quiet t) (HVS.out.levs.quiet t) HVR.out.len HVS.out.len HFE.out (by have := HVR.out.le; omega) (by have := HCA.out.1; omega) (keyOk_small HCA.out.2))
        have HAW := hide (show AW.length ≤ 100000 ∧ ∀ d ∈ AW, d.2.f.least.length ≤ 1000000000 ∧ d.2.f.most.length ≤ 1000000000 by
          have hfa := HWR.out.fa
          refine ⟨?_, fun d hd => ?_⟩
          · have h3 := congrArg List.length hfa
            simp only [fA, List.length_map] at h3
            rw [h3]
            split
            · simp
            · rw [← adsOf_F]
              unfold fA
              rw [List.length_map, adsOf_length]
              have := HCB.out.2.1
              omega
          · have h4 : (d.1, d.2.f) ∈ fA AW := List.mem_map.2 ⟨d, hd, rfl⟩
            rw [hfa] at h4
            split at h4
            · simp at h4
            · obtain ⟨l, hl, hf⟩ := wholeF_mem h4
              exact keyOk_small (by have := HCB.out.2.2; omega) l hl d.2.f hf)
        have K20 := hide (fun (u : World) (t : Turns (fun _ => False) wb u) => kedit_same none 0 0 [] sa sn' sc AW none 0 sa' sc' AX q1' q2' q3' u (fun k x hx => by simp at hx) (fun k x hx => by simp at hx) (HWR.out.adds.quiet t) (HWS.out.adds.quiet t) rfl HWR.out.len HFW.out (by omega) (by have := HAW.out.1; have := HWR.out.len; omega) HAW.out.2)
        have K22 := hide (fun (u : World) (t : Turns (fun _ => False) wb u) => overlap_any a n c next seq log L z a1 n1 c1 a2 n2 c2 least most u (HVIW.out u t) (H1.out.quiet ((TA.out.trans Tb.out).trans t)) (H2.out.quiet ((TA.out.trans Tb.out).trans t)))
        have K23 := hide (fun (u : World) (t : Turns (fun _ => False) wb u) => rOverlap_any a n c next seq log L z a1 n1 c1 a2 n2 c2 least most u (HVIW.out u t) (H1.out.quiet ((TA.out.trans Tb.out).trans t)) (H2.out.quiet ((TA.out.trans Tb.out).trans t)) HMM.out.1 HMM.out.2)
        have K11 := hide (fun (u : World) (t : Turns (fun _ => False) wb u) => vbytes_any a n c next seq log L z u (HVIW.out u t))
        have K24 := hide (fun (u : World) (t : Turns (fun _ => False) wb u) => rBytes_any a n c next seq log L z u (HVIW.out u t))
        have K12 := hide (fun (u : World) (t : Turns (fun _ => False) wb u) => deepest_any a n c next seq log L z a1 n1 c1 a2 n2 c2 least most u (HVIW.out u t) (H1.out.quiet ((TA.out.trans Tb.out).trans t)) (H2.out.quiet ((TA.out.trans Tb.out).trans t)))
        have K25 := hide (fun (u : World) (t : Turns (fun _ => False) wb u) => rDeepest_any a n c next seq log L z a1 n1 c1 a2 n2 c2 least most u (HVIW.out u t) (H1.out.quiet ((TA.out.trans Tb.out).trans t)) (H2.out.quiet ((TA.out.trans Tb.out).trans t)) HMM.out.1 HMM.out.2)
        have HFLN := hide (filesF_len L next seq log z (by have := HCB.out.2.1; omega))
        have HFKO := hide (show KeyOk (filesF (flL L) next seq log z) from fun f hf => by
          unfold filesF at hf
          split at hf
          · rw [List.getD_eq_getElem?_getD] at hf
            cases hk : (flL L)[z.toNat]? with
            | none => rw [hk] at hf; simp at hf
            | some l => rw [hk] at hf; exact keyOk_small (by have := HCB.out.2.2; omega) l (List.mem_of_getElem? hk) f hf
          · simp at hf)
        unfold verAgg at K10 K18 K19 K22 K23 K11 K24 K12 K25
        unfold edAgg at K20
        generalize chkV L next seq log = CV at *
        generalize sizesF (filesF (flL L) next seq log z) = SV at *
        generalize deepF (flL L) next seq log z least most = DV at *
        have tV : Turns (fun _ => False) wb wb.drew := (Turns.refl _ _).drew
        refine wp_region_held_drew (S := fun u => (u.cell? ⟨P, 0, none⟩ = some (.slice a n c) ∧ u.cell? ⟨P, 1, none⟩ = some (.int .u64 (next : Nat)) ∧ u.cell? ⟨P, 2, none⟩ = some (.int .u64 (seq : Nat)) ∧ u.cell? ⟨P, 3, none⟩ = some (.int .u64 (log : Nat))) ∧ (u.cell? ⟨PA, 0, none⟩ = some (.slice pa pn pc) ∧ u.cell? ⟨PA, 1, none⟩ = some (.int .u64 (p1' : Nat)) ∧ u.cell? ⟨PA, 2, none⟩ = some (.int .u64 (p2' : Nat)) ∧ u.cell? ⟨PA, 3, none⟩ = some (.int .u64 (p3' : Nat))) ∧ (u.cell? ⟨PB, 0, none⟩ = some (.slice pa' pn' pc') ∧ u.cell? ⟨PB, 1, none⟩ = some (.int .u64 (p1' : Nat)) ∧ u.cell? ⟨PB, 2, none⟩ = some (.int .u64 (p2' : Nat)) ∧ u.cell? ⟨PB, 3, none⟩ = some (.int .u64 (p3' : Nat))) ∧ (u.cell? ⟨PC, 0, none⟩ = some (.slice none 0 0) ∧ u.cell? ⟨PC, 1, none⟩ = some (.slice sa sn' sc) ∧ u.cell? ⟨PC, 2, none⟩ = some (.int .u64 (q1' : Nat)) ∧ u.cell? ⟨PC, 3, none⟩ = some (.int .u64 (q2' : Nat)) ∧ u.cell? ⟨PC, 4, none⟩ = some (.int .u64 (q3' : Nat))) ∧ (u.cell? ⟨PD, 0, none⟩ = some (.slice none 0 0) ∧ u.cell? ⟨PD, 1, none⟩ = some (.slice sa' sn' sc') ∧ u.cell? ⟨PD, 2, none⟩ = some (.int .u64 (q1' : Nat)) ∧ u.cell? ⟨PD, 3, none⟩ = some (.int .u64 (q2' : Nat)) ∧ u.cell? ⟨PD, 4, none⟩ = some (.int .u64 (q3' : Nat)))) (by kernel_rfl) (SK.out _ tV) (fun _ => ?_)
        change wpAnyH _ _ _ _ _ 61 (Array.replicate 61 false) _ _
        refine wpAnyH_take (i := 0) (oi := { dst := some 59, op := Op.load 25 (Operand.tmp 5), type := 25, pos := "law.go:78", after := #[], guard := none }) (v := .agg #[.slice a n c, .int .u64 (next : Nat), .int .u64 (seq : Nat), .int .u64 (log : Nat)]) rfl (by kernel_rfl) (by kernel_rfl) (by kernel_rfl) (fun _ _ _ h => h) (Or.inl ⟨by rfl, ?_⟩) (SK.out _ tV) ?_
        · rintro w ⟨⟨c0, c1, c2, c3⟩, ⟨d0, d1, d2, d3⟩, ⟨e0, e1, e2, e3⟩, ⟨f0, f1, f2, f3, f4⟩, g0, g1, g2, g3, g4⟩
          go_simp
        simp only [Act.put, List.setIfInBounds_toArray, List.set_cons_zero, List.set_cons_succ]
        refine wpAnyH_take (i := 2) (oi := { dst := some 61, op := Op.load 25 (Operand.tmp 5), type := 25, pos := "law.go:78", after := #[], guard := none }) (v := .agg #[.slice a n c, .int .u64 (next : Nat), .int .u64 (seq : Nat), .int .u64 (log : Nat)]) rfl (by kernel_rfl) (by kernel_rfl) (by kernel_rfl) (fun _ _ _ h => h) (Or.inl ⟨by rfl, ?_⟩) (SK.out _ tV) ?_
        · rintro w ⟨⟨c0, c1, c2, c3⟩, ⟨d0, d1, d2, d3⟩, ⟨e0, e1, e2, e3⟩, ⟨f0, f1, f2, f3, f4⟩, g0, g1, g2, g3, g4⟩
          go_simp
        simp only [Act.put, List.setIfInBounds_toArray, List.set_cons_zero, List.set_cons_succ]
        refine wpAnyH_ready (rs := [1]) (by kernel_rfl) (by simp) ?_
        refine AllReadyH.cons rfl (fun K hK => ?_) AllReadyH.nil
        go_simp
        refine (K10.out _ tV).mono ?_
        rintro oo Vn ⟨rfl, tC⟩
        have tN := tC
        have tV := tV.trans tN
        clear tC
        clear tN
        go_simp
        refine hK.out _ _ (SK.out _ tV) (fun _ => ?_)
        clear hK K
        refine wpAnyH_ready (rs := [3]) (by kernel_rfl) (by simp) ?_
        refine AllReadyH.cons rfl (fun K hK => ?_) AllReadyH.nil
        go_simp
        refine (K18.out _ tV).mono ?_
        rintro oo Vn ⟨rfl, tC⟩
        have tN := tC
        have tV := tV.trans tN
        clear tC
        clear tN
        go_simp
        refine hK.out _ _ (SK.out _ tV) (fun _ => ?_)
        clear hK K
        refine wpAnyH_take (i := 4) (oi := { dst := some 63, op := Op.binOp BinOp.eql 26 (Operand.tmp 60) (Operand.tmp 62) 26, type := 4, pos := "law.go:78", after := #[{ on := 1, ground := Ground.data }, { on := 3, ground := Ground.data }], guard := none }) (v := .bool true) rfl (by kernel_rfl) (by kernel_rfl) (by kernel_rfl) (fun _ _ _ h => h) (Or.inl ⟨by rfl, ?_⟩) (SK.out _ tV) ?_
        · rintro w ⟨⟨c0, c1, c2, c3⟩, ⟨d0, d1, d2, d3⟩, ⟨e0, e1, e2, e3⟩, ⟨f0, f1, f2, f3, f4⟩, g0, g1, g2, g3, g4⟩
          go_simp
        simp only [Act.put, List.setIfInBounds_toArray, List.set_cons_zero, List.set_cons_succ]
        refine wpAnyH_take (i := 5) (oi := { dst := some 64, op := Op.move (Operand.tmp 63), type := 4, pos := "law.go:78", after := #[{ on := 4, ground := Ground.data }, { on := 3, ground := Ground.chain }], guard := none }) (v := .bool true) rfl (by kernel_rfl) (by kernel_rfl) (by kernel_rfl) (fun _ _ _ h => h) (Or.inl ⟨by rfl, ?_⟩) (SK.out _ tV) ?_
        · rintro w ⟨⟨c0, c1, c2, c3⟩, ⟨d0, d1, d2, d3⟩, ⟨e0, e1, e2, e3⟩, ⟨f0, f1, f2, f3, f4⟩, g0, g1, g2, g3, g4⟩
          go_simp
        simp only [Act.put, List.setIfInBounds_toArray, List.set_cons_zero, List.set_cons_succ]
        refine wpAnyH_take (i := 6) (oi := { dst := some 65, op := Op.load 25 (Operand.tmp 11), type := 25, pos := "law.go:78", after := #[{ on := 5, ground := Ground.guard }], guard := some (5, true) }) (v := .agg #[.slice pa pn pc, .int .u64 (p1' : Nat), .int .u64 (p2' : Nat), .int .u64 (p3' : Nat)]) rfl (by kernel_rfl) (by kernel_rfl) (by kernel_rfl) (fun _ _ _ h => h) (Or.inl ⟨by rfl, ?_⟩) (SK.out _ tV) ?_
        · rintro w ⟨⟨c0, c1, c2, c3⟩, ⟨d0, d1, d2, d3⟩, ⟨e0, e1, e2, e3⟩, ⟨f0, f1, f2, f3, f4⟩, g0, g1, g2, g3, g4⟩
          go_simp
        simp only [Act.put, List.setIfInBounds_toArray, List.set_cons_zero, List.set_cons_succ]
        refine wpAnyH_take (i := 7) (oi := { dst := some 66, op := Op.load 25 (Operand.tmp 13), type := 25, pos := "law.go:78", after := #[{ on := 5, ground := Ground.guard }], guard := some (5, true) }) (v := .agg #[.slice pa' pn' pc', .int .u64 (p1' : Nat), .int .u64 (p2' : Nat), .int .u64 (p3' : Nat)]) rfl (by kernel_rfl) (by kernel_rfl) (by kernel_rfl) (fun _ _ _ h => h) (Or.inl ⟨by rfl, ?_⟩) (SK.out _ tV) ?_
        · rintro w ⟨⟨c0, c1, c2, c3⟩, ⟨d0, d1, d2, d3⟩, ⟨e0, e1, e2, e3⟩, ⟨f0, f1, f2, f3, f4⟩, g0, g1, g2, g3, g4⟩
          go_simp
        simp only [Act.put, List.setIfInBounds_toArray, List.set_cons_zero, List.set_cons_succ]
        refine wpAnyH_ready (rs := [8]) (by kernel_rfl) (by simp) ?_
        refine AllReadyH.cons rfl (fun K hK => ?_) AllReadyH.nil
        go_simp
        refine (K19.out _ tV).mono ?_
        rintro oo Vn ⟨rfl, tC⟩
        have tN := tC
        have tV := tV.trans tN
        clear tC
        clear tN
        go_simp
        refine hK.out _ _ (SK.out _ tV) (fun _ => ?_)
        clear hK K
        refine wpAnyH_take (i := 9) (oi := { dst := some 68, op := Op.pick (Operand.tmp 64) (Operand.tmp 67) (Operand.const (Value.bool false)), type := 4, pos := "law.go:78", after := #[{ on := 5, ground := Ground.data }, { on := 8, ground := Ground.data }], guard := none }) (v := .bool true) rfl (by kernel_rfl) (by kernel_rfl) (by kernel_rfl) (fun _ _ _ h => h) (Or.inl ⟨by rfl, ?_⟩) (SK.out _ tV) ?_
        · rintro w ⟨⟨c0, c1, c2, c3⟩, ⟨d0, d1, d2, d3⟩, ⟨e0, e1, e2, e3⟩, ⟨f0, f1, f2, f3, f4⟩, g0, g1, g2, g3, g4⟩
          go_simp
        simp only [Act.put, List.setIfInBounds_toArray, List.set_cons_zero, List.set_cons_succ]
        refine wpAnyH_take (i := 10) (oi := { dst := some 69, op := Op.move (Operand.tmp 68), type := 4, pos := "law.go:78", after := #[{ on := 9, ground := Ground.data }, { on := 8, ground := Ground.chain }], guard := none }) (v := .bool true) rfl (by kernel_rfl) (by kernel_rfl) (by kernel_rfl) (fun _ _ _ h => h) (Or.inl ⟨by rfl, ?_⟩) (SK.out _ tV) ?_
        · rintro w ⟨⟨c0, c1, c2, c3⟩, ⟨d0, d1, d2, d3⟩, ⟨e0, e1, e2, e3⟩, ⟨f0, f1, f2, f3, f4⟩, g0, g1, g2, g3, g4⟩
          go_simp
        simp only [Act.put, List.setIfInBounds_toArray, List.set_cons_zero, List.set_cons_succ]
        refine wpAnyH_take (i := 11) (oi := { dst := some 70, op := Op.move (Operand.tmp 12), type := 26, pos := "law.go:78", after := #[{ on := 10, ground := Ground.guard }], guard := some (10, true) }) (v := .int .i64 er) rfl (by kernel_rfl) (by kernel_rfl) (by kernel_rfl) (fun _ _ _ h => h) (Or.inl ⟨by rfl, ?_⟩) (SK.out _ tV) ?_
        · rintro w ⟨⟨c0, c1, c2, c3⟩, ⟨d0, d1, d2, d3⟩, ⟨e0, e1, e2, e3⟩, ⟨f0, f1, f2, f3, f4⟩, g0, g1, g2, g3, g4⟩
          go_simp
        simp only [Act.put, List.setIfInBounds_toArray, List.set_cons_zero, List.set_cons_succ]
        refine wpAnyH_take (i := 12) (oi := { dst := some 71, op := Op.move (Operand.tmp 14), type := 26, pos := "law.go:78", after := #[{ on := 10, ground := Ground.guard }], guard := some (10, true) }) (v := .int .i64 er) rfl (by kernel_rfl) (by kernel_rfl) (by kernel_rfl) (fun _ _ _ h => h) (Or.inl ⟨by rfl, ?_⟩) (SK.out _ tV) ?_
        · rintro w ⟨⟨c0, c1, c2, c3⟩, ⟨d0, d1, d2, d3⟩, ⟨e0, e1, e2, e3⟩, ⟨f0, f1, f2, f3, f4⟩, g0, g1, g2, g3, g4⟩
          go_simp
        simp only [Act.put, List.setIfInBounds_toArray, List.set_cons_zero, List.set_cons_succ]
        refine wpAnyH_take (i := 13) (oi := { dst := some 72, op := Op.binOp BinOp.eql 26 (Operand.tmp 70) (Operand.tmp 71) 26, type := 4, pos := "law.go:78", after := #[{ on := 11, ground := Ground.data }, { on := 12, ground := Ground.data }, { on := 10, ground := Ground.guard }], guard := some (10, true) }) (v := .bool true) rfl (by kernel_rfl) (by kernel_rfl) (by kernel_rfl) (fun _ _ _ h => h) (Or.inl ⟨by rfl, ?_⟩) (SK.out _ tV) ?_
        · rintro w ⟨⟨c0, c1, c2, c3⟩, ⟨d0, d1, d2, d3⟩, ⟨e0, e1, e2, e3⟩, ⟨f0, f1, f2, f3, f4⟩, g0, g1, g2, g3, g4⟩
          go_simp
        simp only [Act.put, List.setIfInBounds_toArray, List.set_cons_zero, List.set_cons_succ]
        refine wpAnyH_take (i := 14) (oi := { dst := some 73, op := Op.pick (Operand.tmp 69) (Operand.tmp 72) (Operand.const (Value.bool false)), type := 4, pos := "law.go:78", after := #[{ on := 10, ground := Ground.data }, { on := 13, ground := Ground.data }], guard := none }) (v := .bool true) rfl (by kernel_rfl) (by kernel_rfl) (by kernel_rfl) (fun _ _ _ h => h) (Or.inl ⟨by rfl, ?_⟩) (SK.out _ tV) ?_
        · rintro w ⟨⟨c0, c1, c2, c3⟩, ⟨d0, d1, d2, d3⟩, ⟨e0, e1, e2, e3⟩, ⟨f0, f1, f2, f3, f4⟩, g0, g1, g2, g3, g4⟩
          go_simp
        simp only [Act.put, List.setIfInBounds_toArray, List.set_cons_zero, List.set_cons_succ]
        refine wpAnyH_take (i := 15) (oi := { dst := some 74, op := Op.move (Operand.tmp 73), type := 4, pos := "law.go:78", after := #[{ on := 14, ground := Ground.data }, { on := 10, ground := Ground.chain }], guard := none }) (v := .bool true) rfl (by kernel_rfl) (by kernel_rfl) (by kernel_rfl) (fun _ _ _ h => h) (Or.inl ⟨by rfl, ?_⟩) (SK.out _ tV) ?_
        · rintro w ⟨⟨c0, c1, c2, c3⟩, ⟨d0, d1, d2, d3⟩, ⟨e0, e1, e2, e3⟩, ⟨f0, f1, f2, f3, f4⟩, g0, g1, g2, g3, g4⟩
          go_simp
        simp only [Act.put, List.setIfInBounds_toArray, List.set_cons_zero, List.set_cons_succ]
        refine wpAnyH_take (i := 16) (oi := { dst := some 75, op := Op.load 33 (Operand.tmp 15), type := 33, pos := "law.go:78", after := #[{ on := 15, ground := Ground.guard }], guard := some (15, true) }) (v := .agg #[.slice none 0 0, .slice sa sn' sc, .int .u64 (q1' : Nat), .int .u64 (q2' : Nat), .int .u64 (q3' : Nat)]) rfl (by kernel_rfl) (by kernel_rfl) (by kernel_rfl) (fun _ _ _ h => h) (Or.inl ⟨by rfl, ?_⟩) (SK.out _ tV) ?_
        · rintro w ⟨⟨c0, c1, c2, c3⟩, ⟨d0, d1, d2, d3⟩, ⟨e0, e1, e2, e3⟩, ⟨f0, f1, f2, f3, f4⟩, g0, g1, g2, g3, g4⟩
          go_simp
        simp only [Act.put, List.setIfInBounds_toArray, List.set_cons_zero, List.set_cons_succ]
        refine wpAnyH_take (i := 17) (oi := { dst := some 76, op := Op.load 33 (Operand.tmp 17), type := 33, pos := "law.go:78", after := #[{ on := 15, ground := Ground.guard }], guard := some (15, true) }) (v := .agg #[.slice none 0 0, .slice sa' sn' sc', .int .u64 (q1' : Nat), .int .u64 (q2' : Nat), .int .u64 (q3' : Nat)]) rfl (by kernel_rfl) (by kernel_rfl) (by kernel_rfl) (fun _ _ _ h => h) (Or.inl ⟨by rfl, ?_⟩) (SK.out _ tV) ?_
        · rintro w ⟨⟨c0, c1, c2, c3⟩, ⟨d0, d1, d2, d3⟩, ⟨e0, e1, e2, e3⟩, ⟨f0, f1, f2, f3, f4⟩, g0, g1, g2, g3, g4⟩
          go_simp
        simp only [Act.put, List.setIfInBounds_toArray, List.set_cons_zero, List.set_cons_succ]
        refine wpAnyH_ready (rs := [18]) (by kernel_rfl) (by simp) ?_
        refine AllReadyH.cons rfl (fun K hK => ?_) AllReadyH.nil
        go_simp
        refine (K20.out _ tV).mono ?_
        rintro oo Vn ⟨rfl, tC⟩
        have tN := tC
        have tV := tV.trans tN
        clear tC
        clear tN
        go_simp
        refine hK.out _ _ (SK.out _ tV) (fun _ => ?_)
        clear hK K
        refine wpAnyH_take (i := 19) (oi := { dst := some 78, op := Op.pick (Operand.tmp 74) (Operand.tmp 77) (Operand.const (Value.bool false)), type := 4, pos := "law.go:78", after := #[{ on := 15, ground := Ground.data }, { on := 18, ground := Ground.data }], guard := none }) (v := .bool true) rfl (by kernel_rfl) (by kernel_rfl) (by kernel_rfl) (fun _ _ _ h => h) (Or.inl ⟨by rfl, ?_⟩) (SK.out _ tV) ?_
        · rintro w ⟨⟨c0, c1, c2, c3⟩, ⟨d0, d1, d2, d3⟩, ⟨e0, e1, e2, e3⟩, ⟨f0, f1, f2, f3, f4⟩, g0, g1, g2, g3, g4⟩
          go_simp
        simp only [Act.put, List.setIfInBounds_toArray, List.set_cons_zero, List.set_cons_succ]
        refine wpAnyH_take (i := 20) (oi := { dst := some 79, op := Op.move (Operand.tmp 78), type := 4, pos := "law.go:78", after := #[{ on := 19, ground := Ground.data }, { on := 18, ground := Ground.chain }], guard := none }) (v := .bool true) rfl (by kernel_rfl) (by kernel_rfl) (by kernel_rfl) (fun _ _ _ h => h) (Or.inl ⟨by rfl, ?_⟩) (SK.out _ tV) ?_
        · rintro w ⟨⟨c0, c1, c2, c3⟩, ⟨d0, d1, d2, d3⟩, ⟨e0, e1, e2, e3⟩, ⟨f0, f1, f2, f3, f4⟩, g0, g1, g2, g3, g4⟩
          go_simp
        simp only [Act.put, List.setIfInBounds_toArray, List.set_cons_zero, List.set_cons_succ]
        refine wpAnyH_take (i := 21) (oi := { dst := some 80, op := Op.move (Operand.tmp 16), type := 26, pos := "law.go:78", after := #[{ on := 20, ground := Ground.guard }], guard := some (20, true) }) (v := .int .i64 ew') rfl (by kernel_rfl) (by kernel_rfl) (by kernel_rfl) (fun _ _ _ h => h) (Or.inl ⟨by rfl, ?_⟩) (SK.out _ tV) ?_
        · rintro w ⟨⟨c0, c1, c2, c3⟩, ⟨d0, d1, d2, d3⟩, ⟨e0, e1, e2, e3⟩, ⟨f0, f1, f2, f3, f4⟩, g0, g1, g2, g3, g4⟩
          go_simp
        simp only [Act.put, List.setIfInBounds_toArray, List.set_cons_zero, List.set_cons_succ]
        refine wpAnyH_take (i := 22) (oi := { dst := some 81, op := Op.move (Operand.tmp 18), type := 26, pos := "law.go:78", after := #[{ on := 20, ground := Ground.guard }], guard := some (20, true) }) (v := .int .i64 ew') rfl (by kernel_rfl) (by kernel_rfl) (by kernel_rfl) (fun _ _ _ h => h) (Or.inl ⟨by rfl, ?_⟩) (SK.out _ tV) ?_
        · rintro w ⟨⟨c0, c1, c2, c3⟩, ⟨d0, d1, d2, d3⟩, ⟨e0, e1, e2, e3⟩, ⟨f0, f1, f2, f3, f4⟩, g0, g1, g2, g3, g4⟩
          go_simp
        simp only [Act.put, List.setIfInBounds_toArray, List.set_cons_zero, List.set_cons_succ]
        refine wpAnyH_take (i := 23) (oi := { dst := some 82, op := Op.binOp BinOp.eql 26 (Operand.tmp 80) (Operand.tmp 81) 26, type := 4, pos := "law.go:78", after := #[{ on := 21, ground := Ground.data }, { on := 22, ground := Ground.data }, { on := 20, ground := Ground.guard }], guard := some (20, true) }) (v := .bool true) rfl (by kernel_rfl) (by kernel_rfl) (by kernel_rfl) (fun _ _ _ h => h) (Or.inl ⟨by rfl, ?_⟩) (SK.out _ tV) ?_
        · rintro w ⟨⟨c0, c1, c2, c3⟩, ⟨d0, d1, d2, d3⟩, ⟨e0, e1, e2, e3⟩, ⟨f0, f1, f2, f3, f4⟩, g0, g1, g2, g3, g4⟩
          go_simp
        simp only [Act.put, List.setIfInBounds_toArray, List.set_cons_zero, List.set_cons_succ]
        refine wpAnyH_take (i := 24) (oi := { dst := some 83, op := Op.pick (Operand.tmp 79) (Operand.tmp 82) (Operand.const (Value.bool false)), type := 4, pos := "law.go:78", after := #[{ on := 20, ground := Ground.data }, { on := 23, ground := Ground.data }], guard := none }) (v := .bool true) rfl (by kernel_rfl) (by kernel_rfl) (by kernel_rfl) (fun _ _ _ h => h) (Or.inl ⟨by rfl, ?_⟩) (SK.out _ tV) ?_
        · rintro w ⟨⟨c0, c1, c2, c3⟩, ⟨d0, d1, d2, d3⟩, ⟨e0, e1, e2, e3⟩, ⟨f0, f1, f2, f3, f4⟩, g0, g1, g2, g3, g4⟩
          go_simp
        simp only [Act.put, List.setIfInBounds_toArray, List.set_cons_zero, List.set_cons_succ]
        refine wpAnyH_take (i := 25) (oi := { dst := some 84, op := Op.move (Operand.tmp 83), type := 4, pos := "law.go:78", after := #[{ on := 24, ground := Ground.data }, { on := 20, ground := Ground.chain }], guard := none }) (v := .bool true) rfl (by kernel_rfl) (by kernel_rfl) (by kernel_rfl) (fun _ _ _ h => h) (Or.inl ⟨by rfl, ?_⟩) (SK.out _ tV) ?_
        · rintro w ⟨⟨c0, c1, c2, c3⟩, ⟨d0, d1, d2, d3⟩, ⟨e0, e1, e2, e3⟩, ⟨f0, f1, f2, f3, f4⟩, g0, g1, g2, g3, g4⟩
          go_simp
        simp only [Act.put, List.setIfInBounds_toArray, List.set_cons_zero, List.set_cons_succ]
        refine wpAnyH_take (i := 26) (oi := { dst := some 85, op := Op.load 25 (Operand.tmp 5), type := 25, pos := "law.go:78", after := #[{ on := 25, ground := Ground.guard }], guard := some (25, true) }) (v := .agg #[.slice a n c, .int .u64 (next : Nat), .int .u64 (seq : Nat), .int .u64 (log : Nat)]) rfl (by kernel_rfl) (by kernel_rfl) (by kernel_rfl) (fun _ _ _ h => h) (Or.inl ⟨by rfl, ?_⟩) (SK.out _ tV) ?_
        · rintro w ⟨⟨c0, c1, c2, c3⟩, ⟨d0, d1, d2, d3⟩, ⟨e0, e1, e2, e3⟩, ⟨f0, f1, f2, f3, f4⟩, g0, g1, g2, g3, g4⟩
          go_simp
        simp only [Act.put, List.setIfInBounds_toArray, List.set_cons_zero, List.set_cons_succ]
        refine wpAnyH_take (i := 27) (oi := { dst := some 86, op := Op.move (Operand.tmp 2), type := 3, pos := "law.go:78", after := #[{ on := 25, ground := Ground.guard }], guard := some (25, true) }) (v := .int .i64 z) rfl (by kernel_rfl) (by kernel_rfl) (by kernel_rfl) (fun _ _ _ h => h) (Or.inl ⟨by rfl, ?_⟩) (SK.out _ tV) ?_
        · rintro w ⟨⟨c0, c1, c2, c3⟩, ⟨d0, d1, d2, d3⟩, ⟨e0, e1, e2, e3⟩, ⟨f0, f1, f2, f3, f4⟩, g0, g1, g2, g3, g4⟩
          go_simp
        simp only [Act.put, List.setIfInBounds_toArray, List.set_cons_zero, List.set_cons_succ]
        refine wpAnyH_take (i := 28) (oi := { dst := some 87, op := Op.move (Operand.tmp 3), type := 35, pos := "law.go:78", after := #[{ on := 25, ground := Ground.guard }], guard := some (25, true) }) (v := .slice a1 n1 c1) rfl (by kernel_rfl) (by kernel_rfl) (by kernel_rfl) (fun _ _ _ h => h) (Or.inl ⟨by rfl, ?_⟩) (SK.out _ tV) ?_
        · rintro w ⟨⟨c0, c1, c2, c3⟩, ⟨d0, d1, d2, d3⟩, ⟨e0, e1, e2, e3⟩, ⟨f0, f1, f2, f3, f4⟩, g0, g1, g2, g3, g4⟩
          go_simp
        simp only [Act.put, List.setIfInBounds_toArray, List.set_cons_zero, List.set_cons_succ]
        refine wpAnyH_take (i := 29) (oi := { dst := some 88, op := Op.move (Operand.tmp 4), type := 35, pos := "law.go:78", after := #[{ on := 25, ground := Ground.guard }], guard := some (25, true) }) (v := .slice a2 n2 c2) rfl (by kernel_rfl) (by kernel_rfl) (by kernel_rfl) (fun _ _ _ h => h) (Or.inl ⟨by rfl, ?_⟩) (SK.out _ tV) ?_
        · rintro w ⟨⟨c0, c1, c2, c3⟩, ⟨d0, d1, d2, d3⟩, ⟨e0, e1, e2, e3⟩, ⟨f0, f1, f2, f3, f4⟩, g0, g1, g2, g3, g4⟩
          go_simp
        simp only [Act.put, List.setIfInBounds_toArray, List.set_cons_zero, List.set_cons_succ]
        refine wpAnyH_take (i := 31) (oi := { dst := some 90, op := Op.load 25 (Operand.tmp 5), type := 25, pos := "law.go:78", after := #[{ on := 25, ground := Ground.guard }], guard := some (25, true) }) (v := .agg #[.slice a n c, .int .u64 (next : Nat), .int .u64 (seq : Nat), .int .u64 (log : Nat)]) rfl (by kernel_rfl) (by kernel_rfl) (by kernel_rfl) (fun _ _ _ h => h) (Or.inl ⟨by rfl, ?_⟩) (SK.out _ tV) ?_
        · rintro w ⟨⟨c0, c1, c2, c3⟩, ⟨d0, d1, d2, d3⟩, ⟨e0, e1, e2, e3⟩, ⟨f0, f1, f2, f3, f4⟩, g0, g1, g2, g3, g4⟩
          go_simp
        simp only [Act.put, List.setIfInBounds_toArray, List.set_cons_zero, List.set_cons_succ]
        refine wpAnyH_take (i := 32) (oi := { dst := some 91, op := Op.move (Operand.tmp 2), type := 3, pos := "law.go:78", after := #[{ on := 25, ground := Ground.guard }], guard := some (25, true) }) (v := .int .i64 z) rfl (by kernel_rfl) (by kernel_rfl) (by kernel_rfl) (fun _ _ _ h => h) (Or.inl ⟨by rfl, ?_⟩) (SK.out _ tV) ?_
        · rintro w ⟨⟨c0, c1, c2, c3⟩, ⟨d0, d1, d2, d3⟩, ⟨e0, e1, e2, e3⟩, ⟨f0, f1, f2, f3, f4⟩, g0, g1, g2, g3, g4⟩
          go_simp
        simp only [Act.put, List.setIfInBounds_toArray, List.set_cons_zero, List.set_cons_succ]
        refine wpAnyH_take (i := 33) (oi := { dst := some 92, op := Op.move (Operand.tmp 3), type := 35, pos := "law.go:78", after := #[{ on := 25, ground := Ground.guard }], guard := some (25, true) }) (v := .slice a1 n1 c1) rfl (by kernel_rfl) (by kernel_rfl) (by kernel_rfl) (fun _ _ _ h => h) (Or.inl ⟨by rfl, ?_⟩) (SK.out _ tV) ?_
        · rintro w ⟨⟨c0, c1, c2, c3⟩, ⟨d0, d1, d2, d3⟩, ⟨e0, e1, e2, e3⟩, ⟨f0, f1, f2, f3, f4⟩, g0, g1, g2, g3, g4⟩
          go_simp
        simp only [Act.put, List.setIfInBounds_toArray, List.set_cons_zero, List.set_cons_succ]
        refine wpAnyH_take (i := 34) (oi := { dst := some 93, op := Op.move (Operand.tmp 4), type := 35, pos := "law.go:78", after := #[{ on := 25, ground := Ground.guard }], guard := some (25, true) }) (v := .slice a2 n2 c2) rfl (by kernel_rfl) (by kernel_rfl) (by kernel_rfl) (fun _ _ _ h => h) (Or.inl ⟨by rfl, ?_⟩) (SK.out _ tV) ?_
        · rintro w ⟨⟨c0, c1, c2, c3⟩, ⟨d0, d1, d2, d3⟩, ⟨e0, e1, e2, e3⟩, ⟨f0, f1, f2, f3, f4⟩, g0, g1, g2, g3, g4⟩
          go_simp
        simp only [Act.put, List.setIfInBounds_toArray, List.set_cons_zero, List.set_cons_succ]
        refine wpAnyH_ready (rs := [30]) (by kernel_rfl) (by simp) ?_
        refine AllReadyH.cons rfl (fun K hK => ?_) AllReadyH.nil
        go_simp
        refine (K22.out _ tV).mono ?_
        rintro oo Vn ⟨xa, xc, RA, rfl, hra, hfa9, hfta, tC⟩
        have tN := tC
        have tV := tV.trans tN
        have HRA := hide hra
        have HFA9 := hide hfa9
        have HFTA := hide hfta
        clear hfta
        clear tC hra hfa9
        clear tN
        go_simp
        refine hK.out _ _ (SK.out _ tV) (fun _ => ?_)
        clear hK K
        refine wpAnyH_ready (rs := [35]) (by kernel_rfl) (by simp) ?_
        refine AllReadyH.cons rfl (fun K hK => ?_) AllReadyH.nil
        go_simp
        refine (K23.out _ tV).mono ?_
        rintro oo Vn ⟨ya, yn, yc, RB, rfl, hyn, hrb, hfb9, hftb, tC⟩
        have tN := tC
        have tV := tV.trans tN
        have HRB := hide hrb
        have HFB9 := hide hfb9
        have HFTB := hide hftb
        have HFTA := hide (fun y hy => (HFTA.out y hy).quiet tC)
        clear hftb
        have HYN := hide hyn
        have HRA := hide (HRA.out.keep tC fun _ _ x => x)
        clear tC hrb hfb9 hyn
        clear tN
        go_simp
        refine hK.out _ _ (SK.out _ tV) (fun _ => ?_)
        clear hK K
        refine wpAnyH_ready (rs := [36]) (by kernel_rfl) (by simp) ?_
        refine AllReadyH.cons rfl (fun K hK => ?_) AllReadyH.nil
        go_simp
        refine (kfiles_same xa RA.length xc RA ya yn yc RB _ (fils_ok HRA.out HFTA.out) (fils_ok HRB.out HFTB.out) rfl HYN.out (by rw [HFA9.out, HFB9.out]) (by
          have h3 := congrArg List.length HFA9.out
          simp only [fls, List.length_map] at h3
          have h4 := List.length_filter_le (overF least most) (filesF (flL L) next seq log z)
          have h5 := HFLN.out
          omega) (by rw [HFA9.out]; exact fun f hf => HFKO.out f (List.mem_filter.1 hf).1)).mono ?_
        rintro oo Vn ⟨rfl, tC⟩
        have tN := tC
        have tV := tV.trans tN
        clear tC
        clear tN
        go_simp
        refine hK.out _ _ (SK.out _ tV) (fun _ => ?_)
        clear hK K
        refine wpAnyH_take (i := 37) (oi := { dst := some 96, op := Op.pick (Operand.tmp 84) (Operand.tmp 95) (Operand.const (Value.bool false)), type := 4, pos := "law.go:78", after := #[{ on := 25, ground := Ground.data }, { on := 36, ground := Ground.data }], guard := none }) (v := .bool true) rfl (by kernel_rfl) (by kernel_rfl) (by kernel_rfl) (fun _ _ _ h => h) (Or.inl ⟨by rfl, ?_⟩) (SK.out _ tV) ?_
        · rintro w ⟨⟨c0, c1, c2, c3⟩, ⟨d0, d1, d2, d3⟩, ⟨e0, e1, e2, e3⟩, ⟨f0, f1, f2, f3, f4⟩, g0, g1, g2, g3, g4⟩
          go_simp
        simp only [Act.put, List.setIfInBounds_toArray, List.set_cons_zero, List.set_cons_succ]
        refine wpAnyH_take (i := 38) (oi := { dst := some 97, op := Op.move (Operand.tmp 96), type := 4, pos := "law.go:78", after := #[{ on := 37, ground := Ground.data }, { on := 36, ground := Ground.chain }], guard := none }) (v := .bool true) rfl (by kernel_rfl) (by kernel_rfl) (by kernel_rfl) (fun _ _ _ h => h) (Or.inl ⟨by rfl, ?_⟩) (SK.out _ tV) ?_
        · rintro w ⟨⟨c0, c1, c2, c3⟩, ⟨d0, d1, d2, d3⟩, ⟨e0, e1, e2, e3⟩, ⟨f0, f1, f2, f3, f4⟩, g0, g1, g2, g3, g4⟩
          go_simp
        simp only [Act.put, List.setIfInBounds_toArray, List.set_cons_zero, List.set_cons_succ]
        refine wpAnyH_take (i := 39) (oi := { dst := some 98, op := Op.load 25 (Operand.tmp 5), type := 25, pos := "law.go:78", after := #[{ on := 38, ground := Ground.guard }], guard := some (38, true) }) (v := .agg #[.slice a n c, .int .u64 (next : Nat), .int .u64 (seq : Nat), .int .u64 (log : Nat)]) rfl (by kernel_rfl) (by kernel_rfl) (by kernel_rfl) (fun _ _ _ h => h) (Or.inl ⟨by rfl, ?_⟩) (SK.out _ tV) ?_
        · rintro w ⟨⟨c0, c1, c2, c3⟩, ⟨d0, d1, d2, d3⟩, ⟨e0, e1, e2, e3⟩, ⟨f0, f1, f2, f3, f4⟩, g0, g1, g2, g3, g4⟩
          go_simp
        simp only [Act.put, List.setIfInBounds_toArray, List.set_cons_zero, List.set_cons_succ]
        refine wpAnyH_take (i := 40) (oi := { dst := some 99, op := Op.move (Operand.tmp 2), type := 3, pos := "law.go:78", after := #[{ on := 38, ground := Ground.guard }], guard := some (38, true) }) (v := .int .i64 z) rfl (by kernel_rfl) (by kernel_rfl) (by kernel_rfl) (fun _ _ _ h => h) (Or.inl ⟨by rfl, ?_⟩) (SK.out _ tV) ?_
        · rintro w ⟨⟨c0, c1, c2, c3⟩, ⟨d0, d1, d2, d3⟩, ⟨e0, e1, e2, e3⟩, ⟨f0, f1, f2, f3, f4⟩, g0, g1, g2, g3, g4⟩
          go_simp
        simp only [Act.put, List.setIfInBounds_toArray, List.set_cons_zero, List.set_cons_succ]
        refine wpAnyH_take (i := 42) (oi := { dst := some 101, op := Op.load 25 (Operand.tmp 5), type := 25, pos := "law.go:78", after := #[{ on := 38, ground := Ground.guard }], guard := some (38, true) }) (v := .agg #[.slice a n c, .int .u64 (next : Nat), .int .u64 (seq : Nat), .int .u64 (log : Nat)]) rfl (by kernel_rfl) (by kernel_rfl) (by kernel_rfl) (fun _ _ _ h => h) (Or.inl ⟨by rfl, ?_⟩) (SK.out _ tV) ?_
        · rintro w ⟨⟨c0, c1, c2, c3⟩, ⟨d0, d1, d2, d3⟩, ⟨e0, e1, e2, e3⟩, ⟨f0, f1, f2, f3, f4⟩, g0, g1, g2, g3, g4⟩
          go_simp
        simp only [Act.put, List.setIfInBounds_toArray, List.set_cons_zero, List.set_cons_succ]
        refine wpAnyH_take (i := 43) (oi := { dst := some 102, op := Op.move (Operand.tmp 2), type := 3, pos := "law.go:78", after := #[{ on := 38, ground := Ground.guard }], guard := some (38, true) }) (v := .int .i64 z) rfl (by kernel_rfl) (by kernel_rfl) (by kernel_rfl) (fun _ _ _ h => h) (Or.inl ⟨by rfl, ?_⟩) (SK.out _ tV) ?_
        · rintro w ⟨⟨c0, c1, c2, c3⟩, ⟨d0, d1, d2, d3⟩, ⟨e0, e1, e2, e3⟩, ⟨f0, f1, f2, f3, f4⟩, g0, g1, g2, g3, g4⟩
          go_simp
        simp only [Act.put, List.setIfInBounds_toArray, List.set_cons_zero, List.set_cons_succ]
        refine wpAnyH_ready (rs := [41]) (by kernel_rfl) (by simp) ?_
        refine AllReadyH.cons rfl (fun K hK => ?_) AllReadyH.nil
        go_simp
        refine (K11.out _ tV).mono ?_
        rintro oo Vn ⟨rfl, tC⟩
        have tN := tC
        have tV := tV.trans tN
        clear tC
        clear tN
        go_simp
        refine hK.out _ _ (SK.out _ tV) (fun _ => ?_)
        clear hK K
        refine wpAnyH_ready (rs := [44]) (by kernel_rfl) (by simp) ?_
        refine AllReadyH.cons rfl (fun K hK => ?_) AllReadyH.nil
        go_simp
        refine (K24.out _ tV).mono ?_
        rintro oo Vn ⟨rfl, tC⟩
        have tN := tC
        have tV := tV.trans tN
        clear tC
        clear tN
        go_simp
        refine hK.out _ _ (SK.out _ tV) (fun _ => ?_)
        clear hK K
        refine wpAnyH_take (i := 45) (oi := { dst := some 104, op := Op.binOp BinOp.eql 3 (Operand.tmp 100) (Operand.tmp 103) 3, type := 4, pos := "law.go:78", after := #[{ on := 41, ground := Ground.data }, { on := 44, ground := Ground.data }, { on := 38, ground := Ground.guard }], guard := some (38, true) }) (v := .bool true) rfl (by kernel_rfl) (by kernel_rfl) (by kernel_rfl) (fun _ _ _ h => h) (Or.inl ⟨by rfl, ?_⟩) (SK.out _ tV) ?_
        · rintro w ⟨⟨c0, c1, c2, c3⟩, ⟨d0, d1, d2, d3⟩, ⟨e0, e1, e2, e3⟩, ⟨f0, f1, f2, f3, f4⟩, g0, g1, g2, g3, g4⟩
          go_simp
        simp only [Act.put, List.setIfInBounds_toArray, List.set_cons_zero, List.set_cons_succ]
        refine wpAnyH_take (i := 46) (oi := { dst := some 105, op := Op.pick (Operand.tmp 97) (Operand.tmp 104) (Operand.const (Value.bool false)), type := 4, pos := "law.go:78", after := #[{ on := 38, ground := Ground.data }, { on := 45, ground := Ground.data }], guard := none }) (v := .bool true) rfl (by kernel_rfl) (by kernel_rfl) (by kernel_rfl) (fun _ _ _ h => h) (Or.inl ⟨by rfl, ?_⟩) (SK.out _ tV) ?_
        · rintro w ⟨⟨c0, c1, c2, c3⟩, ⟨d0, d1, d2, d3⟩, ⟨e0, e1, e2, e3⟩, ⟨f0, f1, f2, f3, f4⟩, g0, g1, g2, g3, g4⟩
          go_simp
        simp only [Act.put, List.setIfInBounds_toArray, List.set_cons_zero, List.set_cons_succ]
        refine wpAnyH_take (i := 47) (oi := { dst := some 106, op := Op.move (Operand.tmp 105), type := 4, pos := "law.go:78", after := #[{ on := 46, ground := Ground.data }, { on := 44, ground := Ground.chain }], guard := none }) (v := .bool true) rfl (by kernel_rfl) (by kernel_rfl) (by kernel_rfl) (fun _ _ _ h => h) (Or.inl ⟨by rfl, ?_⟩) (SK.out _ tV) ?_
        · rintro w ⟨⟨c0, c1, c2, c3⟩, ⟨d0, d1, d2, d3⟩, ⟨e0, e1, e2, e3⟩, ⟨f0, f1, f2, f3, f4⟩, g0, g1, g2, g3, g4⟩
          go_simp
        simp only [Act.put, List.setIfInBounds_toArray, List.set_cons_zero, List.set_cons_succ]
        refine wpAnyH_take (i := 48) (oi := { dst := some 107, op := Op.load 25 (Operand.tmp 5), type := 25, pos := "law.go:78", after := #[{ on := 47, ground := Ground.guard }], guard := some (47, true) }) (v := .agg #[.slice a n c, .int .u64 (next : Nat), .int .u64 (seq : Nat), .int .u64 (log : Nat)]) rfl (by kernel_rfl) (by kernel_rfl) (by kernel_rfl) (fun _ _ _ h => h) (Or.inl ⟨by rfl, ?_⟩) (SK.out _ tV) ?_
        · rintro w ⟨⟨c0, c1, c2, c3⟩, ⟨d0, d1, d2, d3⟩, ⟨e0, e1, e2, e3⟩, ⟨f0, f1, f2, f3, f4⟩, g0, g1, g2, g3, g4⟩
          go_simp
        simp only [Act.put, List.setIfInBounds_toArray, List.set_cons_zero, List.set_cons_succ]
        refine wpAnyH_take (i := 49) (oi := { dst := some 108, op := Op.move (Operand.tmp 2), type := 3, pos := "law.go:78", after := #[{ on := 47, ground := Ground.guard }], guard := some (47, true) }) (v := .int .i64 z) rfl (by kernel_rfl) (by kernel_rfl) (by kernel_rfl) (fun _ _ _ h => h) (Or.inl ⟨by rfl, ?_⟩) (SK.out _ tV) ?_
        · rintro w ⟨⟨c0, c1, c2, c3⟩, ⟨d0, d1, d2, d3⟩, ⟨e0, e1, e2, e3⟩, ⟨f0, f1, f2, f3, f4⟩, g0, g1, g2, g3, g4⟩
          go_simp
        simp only [Act.put, List.setIfInBounds_toArray, List.set_cons_zero, List.set_cons_succ]
        refine wpAnyH_take (i := 50) (oi := { dst := some 109, op := Op.move (Operand.tmp 3), type := 35, pos := "law.go:78", after := #[{ on := 47, ground := Ground.guard }], guard := some (47, true) }) (v := .slice a1 n1 c1) rfl (by kernel_rfl) (by kernel_rfl) (by kernel_rfl) (fun _ _ _ h => h) (Or.inl ⟨by rfl, ?_⟩) (SK.out _ tV) ?_
        · rintro w ⟨⟨c0, c1, c2, c3⟩, ⟨d0, d1, d2, d3⟩, ⟨e0, e1, e2, e3⟩, ⟨f0, f1, f2, f3, f4⟩, g0, g1, g2, g3, g4⟩
          go_simp
        simp only [Act.put, List.setIfInBounds_toArray, List.set_cons_zero, List.set_cons_succ]
        refine wpAnyH_take (i := 51) (oi := { dst := some 110, op := Op.move (Operand.tmp 4), type := 35, pos := "law.go:78", after := #[{ on := 47, ground := Ground.guard }], guard := some (47, true) }) (v := .slice a2 n2 c2) rfl (by kernel_rfl) (by kernel_rfl) (by kernel_rfl) (fun _ _ _ h => h) (Or.inl ⟨by rfl, ?_⟩) (SK.out _ tV) ?_
        · rintro w ⟨⟨c0, c1, c2, c3⟩, ⟨d0, d1, d2, d3⟩, ⟨e0, e1, e2, e3⟩, ⟨f0, f1, f2, f3, f4⟩, g0, g1, g2, g3, g4⟩
          go_simp
        simp only [Act.put, List.setIfInBounds_toArray, List.set_cons_zero, List.set_cons_succ]
        refine wpAnyH_take (i := 53) (oi := { dst := some 112, op := Op.load 25 (Operand.tmp 5), type := 25, pos := "law.go:78", after := #[{ on := 47, ground := Ground.guard }], guard := some (47, true) }) (v := .agg #[.slice a n c, .int .u64 (next : Nat), .int .u64 (seq : Nat), .int .u64 (log : Nat)]) rfl (by kernel_rfl) (by kernel_rfl) (by kernel_rfl) (fun _ _ _ h => h) (Or.inl ⟨by rfl, ?_⟩) (SK.out _ tV) ?_
        · rintro w ⟨⟨c0, c1, c2, c3⟩, ⟨d0, d1, d2, d3⟩, ⟨e0, e1, e2, e3⟩, ⟨f0, f1, f2, f3, f4⟩, g0, g1, g2, g3, g4⟩
          go_simp
        simp only [Act.put, List.setIfInBounds_toArray, List.set_cons_zero, List.set_cons_succ]
        refine wpAnyH_take (i := 54) (oi := { dst := some 113, op := Op.move (Operand.tmp 2), type := 3, pos := "law.go:78", after := #[{ on := 47, ground := Ground.guard }], guard := some (47, true) }) (v := .int .i64 z) rfl (by kernel_rfl) (by kernel_rfl) (by kernel_rfl) (fun _ _ _ h => h) (Or.inl ⟨by rfl, ?_⟩) (SK.out _ tV) ?_
        · rintro w ⟨⟨c0, c1, c2, c3⟩, ⟨d0, d1, d2, d3⟩, ⟨e0, e1, e2, e3⟩, ⟨f0, f1, f2, f3, f4⟩, g0, g1, g2, g3, g4⟩
          go_simp
        simp only [Act.put, List.setIfInBounds_toArray, List.set_cons_zero, List.set_cons_succ]
        refine wpAnyH_take (i := 55) (oi := { dst := some 114, op := Op.move (Operand.tmp 3), type := 35, pos := "law.go:78", after := #[{ on := 47, ground := Ground.guard }], guard := some (47, true) }) (v := .slice a1 n1 c1) rfl (by kernel_rfl) (by kernel_rfl) (by kernel_rfl) (fun _ _ _ h => h) (Or.inl ⟨by rfl, ?_⟩) (SK.out _ tV) ?_
        · rintro w ⟨⟨c0, c1, c2, c3⟩, ⟨d0, d1, d2, d3⟩, ⟨e0, e1, e2, e3⟩, ⟨f0, f1, f2, f3, f4⟩, g0, g1, g2, g3, g4⟩
          go_simp
        simp only [Act.put, List.setIfInBounds_toArray, List.set_cons_zero, List.set_cons_succ]
        refine wpAnyH_take (i := 56) (oi := { dst := some 115, op := Op.move (Operand.tmp 4), type := 35, pos := "law.go:78", after := #[{ on := 47, ground := Ground.guard }], guard := some (47, true) }) (v := .slice a2 n2 c2) rfl (by kernel_rfl) (by kernel_rfl) (by kernel_rfl) (fun _ _ _ h => h) (Or.inl ⟨by rfl, ?_⟩) (SK.out _ tV) ?_
        · rintro w ⟨⟨c0, c1, c2, c3⟩, ⟨d0, d1, d2, d3⟩, ⟨e0, e1, e2, e3⟩, ⟨f0, f1, f2, f3, f4⟩, g0, g1, g2, g3, g4⟩
          go_simp
        simp only [Act.put, List.setIfInBounds_toArray, List.set_cons_zero, List.set_cons_succ]
        refine wpAnyH_ready (rs := [52]) (by kernel_rfl) (by simp) ?_
        refine AllReadyH.cons rfl (fun K hK => ?_) AllReadyH.nil
        go_simp
        refine (K12.out _ tV).mono ?_
        rintro oo Vn ⟨rfl, tC⟩
        have tN := tC
        have tV := tV.trans tN
        clear tC
        clear tN
        go_simp
        refine hK.out _ _ (SK.out _ tV) (fun _ => ?_)
        clear hK K
        refine wpAnyH_ready (rs := [57]) (by kernel_rfl) (by simp) ?_
        refine AllReadyH.cons rfl (fun K hK => ?_) AllReadyH.nil
        go_simp
        refine (K25.out _ tV).mono ?_
        rintro oo Vn ⟨rfl, tC⟩
        have tN := tC
        have tV := tV.trans tN
        clear tC
        clear tN
        go_simp
        refine hK.out _ _ (SK.out _ tV) (fun _ => ?_)
        clear hK K
        refine wpAnyH_take (i := 58) (oi := { dst := some 117, op := Op.binOp BinOp.eql 4 (Operand.tmp 111) (Operand.tmp 116) 4, type := 4, pos := "law.go:78", after := #[{ on := 52, ground := Ground.data }, { on := 57, ground := Ground.data }, { on := 47, ground := Ground.guard }], guard := some (47, true) }) (v := .bool true) rfl (by kernel_rfl) (by kernel_rfl) (by kernel_rfl) (fun _ _ _ h => h) (Or.inl ⟨by rfl, ?_⟩) (SK.out _ tV) ?_
        · rintro w ⟨⟨c0, c1, c2, c3⟩, ⟨d0, d1, d2, d3⟩, ⟨e0, e1, e2, e3⟩, ⟨f0, f1, f2, f3, f4⟩, g0, g1, g2, g3, g4⟩
          go_simp
        simp only [Act.put, List.setIfInBounds_toArray, List.set_cons_zero, List.set_cons_succ]
        refine wpAnyH_take (i := 59) (oi := { dst := some 118, op := Op.pick (Operand.tmp 106) (Operand.tmp 117) (Operand.const (Value.bool false)), type := 4, pos := "law.go:78", after := #[{ on := 47, ground := Ground.data }, { on := 58, ground := Ground.data }], guard := none }) (v := .bool true) rfl (by kernel_rfl) (by kernel_rfl) (by kernel_rfl) (fun _ _ _ h => h) (Or.inl ⟨by rfl, ?_⟩) (SK.out _ tV) ?_
        · rintro w ⟨⟨c0, c1, c2, c3⟩, ⟨d0, d1, d2, d3⟩, ⟨e0, e1, e2, e3⟩, ⟨f0, f1, f2, f3, f4⟩, g0, g1, g2, g3, g4⟩
          go_simp
        simp only [Act.put, List.setIfInBounds_toArray, List.set_cons_zero, List.set_cons_succ]
        refine wpAnyH_take (i := 60) (oi := { dst := some 10, op := Op.assign (Operand.tmp 118), type := 4, pos := "law.go:78", after := #[{ on := 59, ground := Ground.data }, { on := 57, ground := Ground.chain }, { on := 0, ground := Ground.phase }, { on := 1, ground := Ground.phase }, { on := 2, ground := Ground.phase }, { on := 3, ground := Ground.phase }, { on := 4, ground := Ground.phase }, { on := 5, ground := Ground.phase }, { on := 6, ground := Ground.phase }, { on := 7, ground := Ground.phase }, { on := 8, ground := Ground.phase }, { on := 9, ground := Ground.phase }, { on := 10, ground := Ground.phase }, { on := 11, ground := Ground.phase }, { on := 12, ground := Ground.phase }, { on := 13, ground := Ground.phase }, { on := 14, ground := Ground.phase }, { on := 15, ground := Ground.phase }, { on := 16, ground := Ground.phase }, { on := 17, ground := Ground.phase }, { on := 18, ground := Ground.phase }, { on := 19, ground := Ground.phase }, { on := 20, ground := Ground.phase }, { on := 21, ground := Ground.phase }, { on := 22, ground := Ground.phase }, { on := 23, ground := Ground.phase }, { on := 24, ground := Ground.phase }, { on := 25, ground := Ground.phase }, { on := 26, ground := Ground.phase }, { on := 27, ground := Ground.phase }, { on := 28, ground := Ground.phase }, { on := 29, ground := Ground.phase }, { on := 30, ground := Ground.phase }, { on := 31, ground := Ground.phase }, { on := 32, ground := Ground.phase }, { on := 33, ground := Ground.phase }, { on := 34, ground := Ground.phase }, { on := 35, ground := Ground.phase }, { on := 36, ground := Ground.phase }, { on := 37, ground := Ground.phase }, { on := 38, ground := Ground.phase }, { on := 39, ground := Ground.phase }, { on := 40, ground := Ground.phase }, { on := 41, ground := Ground.phase }, { on := 42, ground := Ground.phase }, { on := 43, ground := Ground.phase }, { on := 44, ground := Ground.phase }, { on := 45, ground := Ground.phase }, { on := 46, ground := Ground.phase }, { on := 47, ground := Ground.phase }, { on := 48, ground := Ground.phase }, { on := 49, ground := Ground.phase }, { on := 50, ground := Ground.phase }, { on := 51, ground := Ground.phase }, { on := 52, ground := Ground.phase }, { on := 53, ground := Ground.phase }, { on := 54, ground := Ground.phase }, { on := 55, ground := Ground.phase }, { on := 56, ground := Ground.phase }, { on := 57, ground := Ground.phase }, { on := 58, ground := Ground.phase }, { on := 59, ground := Ground.phase }], guard := none }) (v := .bool true) rfl (by kernel_rfl) (by kernel_rfl) (by kernel_rfl) (fun _ _ _ h => h) (Or.inl ⟨by rfl, ?_⟩) (SK.out _ tV) ?_
        · rintro w ⟨⟨c0, c1, c2, c3⟩, ⟨d0, d1, d2, d3⟩, ⟨e0, e1, e2, e3⟩, ⟨f0, f1, f2, f3, f4⟩, g0, g1, g2, g3, g4⟩
          go_simp
        simp only [Act.put, List.setIfInBounds_toArray, List.set_cons_zero, List.set_cons_succ]
        refine wpAnyH_done (by kernel_rfl) ?_ _
        have TZ := hide tV
        clear tV
        go_wp2_with fail
        go_ret
        exact ⟨rfl, (TA.out.trans Tb.out).trans TZ.out⟩
      · go_wp2_with fail
        go_ret
        exact ⟨rfl, TA.out.trans T3.out⟩
end Go.Proofs.Ytmmcikbedegigaa
