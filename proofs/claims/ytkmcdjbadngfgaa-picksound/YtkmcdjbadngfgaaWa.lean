/-
  filesOf, overlaps, Bytes, Overlap, Deepest.
-/
import Derived.Test.YtkmcdjbadngfgaaVx
namespace Go.Proofs.Ytkmcdjbadngfgaa
open Go.RowKit
set_option maxRecDepth 100000
set_option maxHeartbeats 4000000
def filesF (LL : List (List Fl)) (next seq log : Nat) (z : Int) : List Fl := if goodLev z && !wrongVF LL next seq log then LL.getD z.toNat [] else []
theorem filesOf_any (a : Option Addr) (n c next seq log : Nat) (L : List Lv) (z : Int) (w : World) (h : VerIn w a n L next seq log) :
    Calls Try.prog 57 #[verAgg a n c next seq log, .int .i64 z] w fun e w' => ∃ xa xn xc xl, e = .returned (.slice xa xn xc) ∧ xn = List.length xl ∧ Fils w' xa xl ∧ fls xl = filesF (flL L) next seq log z ∧ (∀ y ∈ xl, wrongF y.f = false) ∧ Turns (fun _ => False) w w' := by
  have TA := hide ((Turns.refl (fun _ => False) w).alloc (.cells #[.slice a n c, .int .u64 (next : Nat), .int .u64 (seq : Nat), .int .u64 (log : Nat)] 25))
  have R0 := hide (heap_alloc_new w (.cells #[.slice a n c, .int .u64 (next : Nat), .int .u64 (seq : Nat), .int .u64 (log : Nat)] 25))
  have CK := hide (check_any a n c next seq log L _ (h.quiet TA.out))
  have HCV := hide (show chkV L next seq log = if wrongV L next seq log then 2 else 0 from rfl)
  have HV := hide h
  have CL := hide (isLevel_any z)
  unfold verAgg at *
  clear h
  have HF := hide (show filesF (flL L) next seq log z = if goodLev z && !wrongV L next seq log then (flL L).getD z.toNat [] else [] by unfold filesF; rw [wrongV_F])
  generalize hV : wrongV L next seq log = V at *
  have HWV := hide hV
  clear hV
  generalize chkV L next seq log = C at *
  generalize hg : goodLev z = gl at *
  have HGL := hide hg
  clear hg
  generalize filesF (flL L) next seq log z = FF at *
  have NIL : Fils w none [] := fun k x hx => by simp at hx
  cases gl with
  | false =>
    go_enter Try.func57, Try.ntmps57
    go_wp2_with fail
    refine (CL.out _).mono ?_
    rintro e w1 ⟨rfl, rfl⟩
    go_wp2_with fail
    go_ret
    exact ⟨none, 0, 0, [], rfl, rfl, NIL.quiet TA.out, by rw [HF.out]; simp [fls], fun y hy => by simp at hy, TA.out⟩
  | true =>
    have hz : 0 ≤ z ∧ z < 5 := by simpa [goodLev] using HGL.out
    obtain ⟨k, rfl⟩ : ∃ k : Nat, z = k := ⟨z.toNat, by omega⟩
    have k5 : k < 5 := by omega
    have k5i : (k : Int) < 5 := by omega
    have k0i : (0 : Int) ≤ k := by omega
    clear hz
    cases V with
    | true =>
      have hc : C = 2 := HCV.out
      subst hc
      go_enter Try.func57, Try.ntmps57
      go_wp2_with fail
      refine (CL.out _).mono ?_
      rintro e w1 ⟨rfl, rfl⟩
      go_wp2_with fail
      refine CK.out.mono ?_
      rintro e w2 ⟨rfl, t2⟩
      have T2 := hide (TA.out.trans t2)
      clear t2
      go_wp2_with fail
      go_ret
      exact ⟨none, 0, 0, [], rfl, rfl, NIL.quiet T2.out, by rw [HF.out]; simp [fls], fun y hy => by simp at hy, T2.out⟩
    | false =>
      have hc : C = 0 := HCV.out
      subst hc
      have hn5 : n = 5 := by
        have h1 := HWV.out
        unfold wrongV at h1
        simp only [Bool.or_eq_false_iff, decide_eq_false_iff_not] at h1
        have h2 := HV.out.len
        omega
      subst hn5
      obtain ⟨x, hx⟩ : ∃ x, L[k]? = some x := ⟨_, List.getElem?_eq_getElem (by have := HV.out.len; omega)⟩
      obtain ⟨⟨b, off, rfl, hcl⟩, hfi⟩ := HV.out.levs k x hx
      have HCL := hide hcl
      have HFI := hide hfi
      have HEQ := hide (show fls x.l = FF by rw [HF.out]; have := flL_at hx; simp [List.getD, this])
      have HNW := hide (wrongV_files HWV.out x (List.mem_of_getElem? hx))
      obtain ⟨xa, xc, xl⟩ := x
      simp only at *
      generalize hXL : xl.length = XL at *
      have HXL := hide hXL
      clear hx hXL hcl hfi NIL
      go_enter Try.func57, Try.ntmps57
      go_wp2_with fail
      refine (CL.out _).mono ?_
      rintro e w1 ⟨rfl, rfl⟩
      go_wp2_with fail
      refine CK.out.mono ?_
      rintro e w2 ⟨rfl, t2⟩
      have T2 := hide (TA.out.trans t2)
      have q0 := cell_of_row w2 w.heap.size 0 _ 25 (0, 0) (t2.heap R0.out (fun x => x))
      have q1 := T2.out.cell HCL.out (fun x => x)
      clear t2
      go_wp2_with fail
      go_ret
      exact ⟨xa, XL, xc, xl, rfl, HXL.out.symm, HFI.out.quiet T2.out, HEQ.out, HNW.out, T2.out⟩
def overF (least most : List (BitVec 8)) (f : Fl) : Bool := decide (0 ≤ cmpB f.most least) && (decide (most.length = 0) || decide (cmpB f.least most ≤ 0))
theorem over1_any (x : Tf) (P1 P2 : Nat) (a1 : Option Addr) (n1 c1 : Nat) (a2 : Option Addr) (n2 c2 : Nat) (least most : List (BitVec 8)) (w : World) (h : FB w x) (h1 : w.cell? ⟨P1, 0, none⟩ = some (.slice a1 n1 c1)) (h2 : w.cell? ⟨P2, 0, none⟩ = some (.slice a2 n2 c2)) (b1 : Bytes w (.slice a1 n1 c1) least) (b2 : Bytes w (.slice a2 n2 c2) most) :
    Calls Try.prog 79 #[x.agg, .pointer (some ⟨P1, 0, none⟩), .pointer (some ⟨P2, 0, none⟩)] w fun e w' => e = .returned (.bool (overF least most x.f)) ∧ Turns (fun _ => False) w w' := by
  obtain ⟨la, lc, ma, mc, ⟨no, sz, ls, ms, en, sq⟩⟩ := x
  have TA := hide ((Turns.refl (fun _ => False) w).alloc (.cells #[.int .u64 (no : Nat), .int .i64 sz, .slice la ls.length lc, .slice ma ms.length mc, .int .i64 en, .int .u64 (sq : Nat)] 29))
  have C1 := hide (compareB_any ma a1 ms.length n1 mc c1 ms least _ (h.quiet TA.out).2 (b1.quiet TA.out))
  have C2 := hide (compareB_any la a2 ls.length n2 lc c2 ls most _ (h.quiet TA.out).1 (b2.quiet TA.out))
  have q1 := TA.out.cell h1 (fun x => x)
  have q2 := TA.out.cell h2 (fun x => x)
  have HL2 := hide b2.len
  unfold Tf.agg
  simp only
  clear h h1 h2 b1 b2
  generalize hx1 : cmpB ms least = x1 at *
  generalize hx2 : cmpB ls most = x2 at *
  have HO := hide (show overF least most ⟨no, sz, ls, ms, en, sq⟩ = (decide (0 ≤ x1) && (decide (n2 = 0) || decide (x2 ≤ 0))) by simp only [overF, hx1, hx2, HL2.out])
  clear hx1 hx2
  generalize overF least most ⟨no, sz, ls, ms, en, sq⟩ = O at *
  by_cases i1 : 0 ≤ x1
  · by_cases i2 : n2 = 0
    · subst i2
      go_enter Try.func79, Try.ntmps79
      go_wp2_with fail
      refine C1.out.mono ?_
      rintro e w1 ⟨rfl, rfl⟩
      go_wp2_with fail
      go_ret
      exact ⟨congrArg Ending.returned (congrArg Value.bool (by rw [HO.out]; simp [i1])), TA.out⟩
    · have i3 : ¬ (n2 : Int) = 0 := by omega
      go_enter Try.func79, Try.ntmps79
      go_wp2_with fail
      refine C1.out.mono ?_
      rintro e w1 ⟨rfl, rfl⟩
      go_wp2_with fail
      refine C2.out.mono ?_
      rintro e w1 ⟨rfl, rfl⟩
      go_wp2_with fail
      go_ret
      exact ⟨congrArg Ending.returned (congrArg Value.bool (by rw [HO.out]; simp [i1, i2])), TA.out⟩
  · go_enter Try.func79, Try.ntmps79
    go_wp2_with fail
    refine C1.out.mono ?_
    rintro e w1 ⟨rfl, rfl⟩
    go_wp2_with fail
    go_ret
    exact ⟨congrArg Ending.returned (congrArg Value.bool (by rw [HO.out]; simp; intro h; omega)), TA.out⟩
end Go.Proofs.Ytkmcdjbadngfgaa
