/-
  Whether a version may be.
-/
import Derived.Test.YtkmcdjbadngfgaaVh
namespace Go.Proofs.Ytkmcdjbadngfgaa
open Go.RowKit Go.Maps
set_option maxRecDepth 100000
set_option maxHeartbeats 4000000
/-- What is wrong with a level. -/
def wrongLv (next lev : Nat) (l : List Tf) : Bool := l.any wrongT || l.any (newT next) || !ordF lev (fls l)
def headBad (next seq log : Nat) : Bool := decide (next < 1) || decide (1000000000000 < next) || decide (72057594037927935 < seq) || decide (1000000000000 ≤ log)
/-- What is wrong with a version. -/
def wrongV (L : List Lv) (next seq log : Nat) : Bool :=
  headBad next seq log || decide (L.length ≠ 5) || L.zipIdx.any (fun p => wrongLv next p.2 p.1.l) || !decide (numsL L).Nodup
theorem wrongLv_take {L : List Lv} {next k : Nat} {x : Lv} (h : L[k]? = some x) : (L.take (k + 1)).zipIdx.any (fun p => wrongLv next p.2 p.1.l) = ((L.take k).zipIdx.any (fun p => wrongLv next p.2 p.1.l) || wrongLv next k x.l) := by
  have hi := (List.getElem?_eq_some_iff.1 h).1
  have e : L.take (k + 1) = L.take k ++ [x] := by rw [List.take_add_one, h]; rfl
  have hl : (L.take k).length = k := by rw [List.length_take]; omega
  rw [e, List.zipIdx_append, List.any_append, hl, Nat.zero_add]
  simp
theorem wrongLv_mem {L : List Lv} {next k : Nat} {x : Lv} (h : L[k]? = some x) (hw : wrongLv next k x.l = true) : L.zipIdx.any (fun p => wrongLv next p.2 p.1.l) = true :=
  List.any_eq_true.2 ⟨(x, k), List.mem_zipIdx_iff_getElem?.2 h, hw⟩
theorem isWrong_any (a : Option Addr) (n c next seq log : Nat) (L : List Lv) (w : World) (h : Levs w a L) (hn : n = L.length) (hc : cnt L ≤ 1000000) (hf : Fit L) :
    Calls Try.prog 55 #[verAgg a n c next seq log] w fun e w' => e = .returned (.bool (wrongV L next seq log)) ∧ Turns (fun _ => False) w w' := by
  have H := hide h
  have HL := hide hn
  have HC := hide hc
  have HF := hide hf
  have TA := hide ((Turns.refl (fun _ => False) w).alloc (.cells #[.slice a n c, .int .u64 (next : Nat), .int .u64 (seq : Nat), .int .u64 (log : Nat)] 25))
  have R0 := hide (heap_alloc_new w (.cells #[.slice a n c, .int .u64 (next : Nat), .int .u64 (seq : Nat), .int .u64 (log : Nat)] 25))
  unfold verAgg
  clear h hn hc hf
  by_cases h1 : next < 1
  · have i1 : (next : Int) < 1 := by omega
    go_enter Try.func55, Try.ntmps55
    go_wp2_with fail
    go_ret
    exact ⟨congrArg Ending.returned (congrArg Value.bool (by simp [wrongV, headBad, h1])), TA.out⟩
  have i1 : ¬ (next : Int) < 1 := by omega
  by_cases h2 : 1000000000000 < next
  · have i2 : (1000000000000 : Int) < next := by omega
    go_enter Try.func55, Try.ntmps55
    go_wp2_with fail
    go_ret
    exact ⟨congrArg Ending.returned (congrArg Value.bool (by simp [wrongV, headBad, h2])), TA.out⟩
  have i2 : ¬ (1000000000000 : Int) < next := by omega
  by_cases h3 : 72057594037927935 < seq
  · have i3 : (72057594037927935 : Int) < seq := by omega
    go_enter Try.func55, Try.ntmps55
    go_wp2_with fail
    go_ret
    exact ⟨congrArg Ending.returned (congrArg Value.bool (by simp [wrongV, headBad, h3])), TA.out⟩
  have i3 : ¬ (72057594037927935 : Int) < seq := by omega
  by_cases h4 : 1000000000000 ≤ log
  · have i4 : (1000000000000 : Int) ≤ log := by omega
    go_enter Try.func55, Try.ntmps55
    go_wp2_with fail
    go_ret
    exact ⟨congrArg Ending.returned (congrArg Value.bool (by simp [wrongV, headBad, h4])), TA.out⟩
  have i4 : ¬ (1000000000000 : Int) ≤ log := by omega
  have HH := hide (show headBad next seq log = false by simp [headBad]; omega)
  by_cases h5 : n ≠ 5
  · have i5 : ¬ (n : Int) = 5 := by omega
    go_enter Try.func55, Try.ntmps55
    go_wp2_with fail
    go_ret
    exact ⟨congrArg Ending.returned (congrArg Value.bool (by have := HL.out; simp [wrongV]; omega)), TA.out⟩
  obtain rfl : n = 5 := by omega
  clear h5 h1 h2 h3 h4
  go_enter Try.func55, Try.ntmps55
  go_wp2_with fail
  generalize w.alloc (.cells #[.slice a 5 c, .int .u64 (next : Nat), .int .u64 (seq : Nat), .int .u64 (log : Nat)] 25) = w0 at *
  have hT := HL.out
  go_loopw [28] (fun i wr => ∃ k : Nat, i = .int .i64 (k : Nat) ∧ k ≤ 5 ∧ (L.take k).zipIdx.any (fun p => wrongLv next p.2 p.1.l) = false ∧ Turns (fun _ => False) w0 wr) (fun i _ => 5 - (intOf i).toNat)
  case atStart => exact ⟨0, rfl, Nat.zero_le _, by simp, Turns.refl _ _⟩
  case round =>
    obtain ⟨k, rfl, hk, hno, hb⟩ := hrel
    have HB := hide (TA.out.trans hb)
    have HB0 := hide hb
    have HNO := hide hno
    clear hb hno hT
    by_cases hkn : k < 5
    · obtain ⟨x, hx⟩ : ∃ x, L[k]? = some x := ⟨_, List.getElem?_eq_getElem (by have := HL.out; omega)⟩
      obtain ⟨⟨b, off, rfl, hcl⟩, hfb⟩ := (H.out.quiet HB.out) k x hx
      have i5 : (k : Int) < 5 := by omega
      have i0 : (0 : Int) ≤ (k : Int) := by omega
      have HX := hide hx
      have q1 := cnt_take_le L (k + 1)
      have q2 := cnt_take hx
      have q3 := HC.out
      have hxl : x.l.length ≤ 1000000 := by omega
      have vn : wr.cell? ⟨w.heap.size, 1, none⟩ = some (.int .u64 (next : Nat)) := HB0.out.cell (cell_of_row w0 w.heap.size 1 _ 25 (0, 0) R0.out) (fun x => x)
      have CW := hide (fun (u : World) (t : Turns (fun _ => False) wr u) => contains_wrong x.a x.l.length x.c x.l u (hfb.quiet t) rfl hxl)
      have CNW := hide (fun (u : World) (t : Turns (fun _ => False) wr u) => contains_new x.a x.l.length x.c x.l w.heap.size next u (hfb.quiet t) rfl hxl (t.cell vn (fun x => x)))
      have CI := hide (fun (u : World) (t : Turns (fun _ => False) wr u) => inOrder_any k x.a x.l.length x.c x.l u (hfb.quiet t) rfl hxl)
      have HWT := hide (wrongLv_take (next := next) hx)
      have HWM := hide (wrongLv_mem (next := next) hx)
      obtain ⟨xa, xc, xl⟩ := x
      unfold wrongLv at HWT HWM
      simp only at *
      clear hfb hx q1 q2 q3 hxl
      generalize xl.length = XL at *
      generalize hA : xl.any wrongT = A at *
      generalize hB' : xl.any (newT next) = A' at *
      generalize hC' : ordF k (fls xl) = A'' at *
      clear hA hB' hC'
      go_wp2_with fail
      refine (CW.out _ (Turns.refl _ _)).mono ?_
      rintro e w1 ⟨rfl, t1⟩
      have T1 := hide t1
      clear t1
      cases A
      · go_wp2_with fail
        refine (CNW.out _ T1.out).mono ?_
        rintro e w2 ⟨rfl, t2⟩
        have T2 := hide (T1.out.trans t2)
        clear t2
        cases A'
        · go_wp2_with fail
          refine (CI.out _ T2.out).mono ?_
          rintro e w3 ⟨rfl, t3⟩
          have T3 := hide (T2.out.trans t3)
          clear t3
          cases A''
          · go_wp2_with fail
            go_ret
            exact ⟨congrArg Ending.returned (congrArg Value.bool (by have := HWM.out rfl; unfold wrongV wrongLv; simp [this])), HB.out.trans T3.out⟩
          · go_wp2_with fail
            go_roundw
            case rel => exact ⟨k + 1, by go_num, by omega, by unfold wrongLv; rw [HWT.out]; have := HNO.out; unfold wrongLv at this; rw [this]; rfl, HB0.out.trans T3.out⟩
            case measure => simp [intOf]; omega
        · go_wp2_with fail
          go_ret
          exact ⟨congrArg Ending.returned (congrArg Value.bool (by have := HWM.out rfl; unfold wrongV wrongLv; simp [this])), HB.out.trans T2.out⟩
      · go_wp2_with fail
        go_ret
        exact ⟨congrArg Ending.returned (congrArg Value.bool (by have := HWM.out rfl; unfold wrongV wrongLv; simp [this])), HB.out.trans T1.out⟩
    · obtain rfl : k = 5 := by omega
      have ht : L.take 5 = L := List.take_of_length_le (by have := HL.out; omega)
      rw [ht] at HNO
      have d0 : wr.cell? ⟨w.heap.size, 0, none⟩ = some (.slice a 5 c) := HB0.out.cell (cell_of_row w0 w.heap.size 0 _ 25 (0, 0) R0.out) (fun x => x)
      have CT := hide (hasTwice_any a 5 c L wr (H.out.quiet HB.out) HL.out (by omega) HC.out HF.out)
      clear ht
      generalize hD : decide (numsL L).Nodup = D at *
      have HD := hide hD
      clear hD
      go_wp2_with fail
      refine CT.out.mono ?_
      rintro e w1 ⟨rfl, t1⟩
      have T1 := hide t1
      clear t1
      go_wp2_with fail
      go_ret
      refine ⟨congrArg Ending.returned (congrArg Value.bool ?_), HB.out.trans T1.out⟩
      unfold wrongV
      rw [HH.out, HNO.out, HD.out, ← HL.out]
      simp
end Go.Proofs.Ytkmcdjbadngfgaa
