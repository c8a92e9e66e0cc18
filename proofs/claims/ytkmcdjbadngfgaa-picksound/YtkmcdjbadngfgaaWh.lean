/-
  Deepest.
-/
import Derived.Test.YtkmcdjbadngfgaaWc
namespace Go.Proofs.Ytkmcdjbadngfgaa
open Go.RowKit
set_option maxRecDepth 100000
set_option maxHeartbeats 4000000
def overT (least most : List (BitVec 8)) (x : Tf) : Bool := overF least most x.f
theorem index_over (a : Option Addr) (n c : Nat) (l : List Tf) (P1 P2 : Nat) (a1 : Option Addr) (n1 c1 : Nat) (a2 : Option Addr) (n2 c2 : Nat) (least most : List (BitVec 8)) (w : World) (h : Fils w a l) (hn : n = l.length) (hmx : n ≤ 1000000) (h1 : w.cell? ⟨P1, 0, none⟩ = some (.slice a1 n1 c1)) (h2 : w.cell? ⟨P2, 0, none⟩ = some (.slice a2 n2 c2)) (b1 : Bytes w (.slice a1 n1 c1) least) (b2 : Bytes w (.slice a2 n2 c2) most) :
    Calls Try.prog 81 #[.slice a n c, .func (.func 79) #[] #[.pointer (some ⟨P1, 0, none⟩), .pointer (some ⟨P2, 0, none⟩)]] w fun e w' => ∃ z : Int, e = .returned (.int .i64 z) ∧ (0 ≤ z ↔ l.any (overT least most) = true) ∧ Turns (fun _ => False) w w' := by
  have H := hide h
  have HL := hide hn
  have hni : (n : Int) ≤ 1000000 := by omega
  have CV := hide (fun (u : World) (t : Turns (fun _ => False) w u) (x : Tf) (hfb : FB u x) => over1_any x P1 P2 a1 n1 c1 a2 n2 c2 least most u hfb (t.cell h1 (fun x => x)) (t.cell h2 (fun x => x)) (b1.quiet t) (b2.quiet t))
  clear h hn h1 h2 b1 b2
  go_enter Try.func81, Try.ntmps81
  go_wp2_with fail
  go_loopw [8] (fun i wr => ∃ k : Nat, i = .int .i64 (k : Nat) ∧ k ≤ n ∧ (l.take k).any (overT least most) = false ∧ Turns (fun _ => False) w wr) (fun i _ => n - (intOf i).toNat)
  case atStart => exact ⟨0, rfl, Nat.zero_le _, rfl, Turns.refl _ _⟩
  case round =>
    obtain ⟨k, rfl, hk, hno, hb⟩ := hrel
    have HNO := hide hno
    have HB := hide hb
    clear hno hb
    by_cases hkn : k < n
    · obtain ⟨x, hx⟩ : ∃ x, l[k]? = some x := ⟨_, List.getElem?_eq_getElem (by have := HL.out; omega)⟩
      obtain ⟨b, off, rfl, h6, hfb⟩ := fc_of (H.out.quiet HB.out) hx
      have i1 : (k : Int) < (n : Int) := by omega
      have i0 : (0 : Int) ≤ (k : Int) := by omega
      have HTK := hide (show (l.take (k + 1)).any (overT least most) = (overT least most) x by rw [List.take_add_one, hx, List.any_append, HNO.out]; simp)
      have HANY := hide (show (overT least most) x = true → l.any (overT least most) = true from fun e => List.any_eq_true.2 ⟨x, List.mem_of_getElem? hx, e⟩)
      have CC := hide (show Calls Try.prog 79 #[x.agg, .pointer (some ⟨P1, 0, none⟩), .pointer (some ⟨P2, 0, none⟩)] wr fun e w' => e = .returned (.bool (overT least most x)) ∧ Turns (fun _ => False) wr w' from CV.out wr HB.out x hfb)
      obtain ⟨y0, y1, y2, y3, y4, y5⟩ := h6
      unfold Tf.agg at CC
      clear hfb hx
      go_wp2_with fail
      refine CC.out.mono ?_
      rintro e w1 ⟨rfl, t1⟩
      have B1 := hide (HB.out.trans t1)
      clear t1 CC y0 y1 y2 y3 y4 y5
      generalize hq : (overT least most) x = q at *
      have HQ := hide hq
      clear hq
      cases q
      · go_wp2_with fail
        go_roundw
        case rel => exact ⟨k + 1, by go_num, by omega, HTK.out, B1.out⟩
        case measure => simp [intOf]; omega
      · go_wp2_with fail
        go_ret
        exact ⟨_, rfl, ⟨fun _ => HANY.out trivial, fun _ => by omega⟩, B1.out⟩
    · obtain rfl : k = n := by omega
      have ht : l.take k = l := List.take_of_length_le (by have := HL.out; omega)
      have HT := hide ht
      clear ht
      go_wp2_with fail
      go_ret
      refine ⟨_, rfl, ⟨fun h => by omega, fun h => ?_⟩, HB.out⟩
      have := HNO.out
      rw [HT.out, h] at this
      cases this
theorem contains_over (a : Option Addr) (n c : Nat) (l : List Tf) (P1 P2 : Nat) (a1 : Option Addr) (n1 c1 : Nat) (a2 : Option Addr) (n2 c2 : Nat) (least most : List (BitVec 8)) (w : World) (h : Fils w a l) (hn : n = l.length) (hmx : n ≤ 1000000) (h1 : w.cell? ⟨P1, 0, none⟩ = some (.slice a1 n1 c1)) (h2 : w.cell? ⟨P2, 0, none⟩ = some (.slice a2 n2 c2)) (b1 : Bytes w (.slice a1 n1 c1) least) (b2 : Bytes w (.slice a2 n2 c2) most) :
    Calls Try.prog 66 #[.slice a n c, .func (.func 79) #[] #[.pointer (some ⟨P1, 0, none⟩), .pointer (some ⟨P2, 0, none⟩)]] w fun e w' => e = .returned (.bool (l.any (overT least most))) ∧ Turns (fun _ => False) w w' := by
  have IX := hide (index_over a n c l P1 P2 a1 n1 c1 a2 n2 c2 least most w h hn hmx h1 h2 b1 b2)
  clear h hn h1 h2 b1 b2
  go_enter Try.func66, Try.ntmps66
  go_wp2_with fail
  refine IX.out.mono ?_
  rintro e w1 ⟨z, rfl, hz, t1⟩
  have HZ := hide hz
  have B1 := hide t1
  clear hz t1 IX
  go_wp2_with fail
  go_ret
  refine ⟨congrArg Ending.returned (congrArg Value.bool (Bool.eq_iff_iff.2 ?_)), B1.out⟩
  rw [← HZ.out]
  simp
theorem len_of5 {LL : List (List Fl)} {next seq log : Nat} (h : wrongVF LL next seq log = false) : LL.length = 5 := by
  unfold wrongVF at h
  simp only [Bool.or_eq_false_iff, decide_eq_false_iff_not] at h
  omega
def deepF (LL : List (List Fl)) (next seq log : Nat) (z : Int) (least most : List (BitVec 8)) : Bool := decide (z < 0) || wrongVF LL next seq log || !(LL.zipIdx.any fun p => decide (z < (p.2 : Int)) && p.1.any (overF least most))
theorem deep_take {L : List Lv} {k : Nat} {x : Lv} (z : Int) (least most : List (BitVec 8)) (h : L[k]? = some x) : ((flL (L.take (k + 1))).zipIdx.any fun p => decide (z < (p.2 : Int)) && p.1.any (overF least most)) = (((flL (L.take k)).zipIdx.any fun p => decide (z < (p.2 : Int)) && p.1.any (overF least most)) || (decide (z < (k : Int)) && x.l.any (overT least most))) := by
  have hi := (List.getElem?_eq_some_iff.1 h).1
  have e : L.take (k + 1) = L.take k ++ [x] := by rw [List.take_add_one, h]; rfl
  have hl : (flL (L.take k)).length = k := by rw [flL_length, List.length_take]; omega
  rw [e, show flL (L.take k ++ [x]) = flL (L.take k) ++ [fls x.l] by simp [flL], List.zipIdx_append, List.any_append, hl, Nat.zero_add]
  congr 1
  simp only [List.zipIdx_singleton, List.any_cons, List.any_nil, Bool.or_false, fls, List.any_map]
  rfl
theorem deepest_any (a : Option Addr) (n c next seq log : Nat) (L : List Lv) (z : Int) (a1 : Option Addr) (n1 c1 : Nat) (a2 : Option Addr) (n2 c2 : Nat) (least most : List (BitVec 8)) (w : World) (h : VerIn w a n L next seq log) (b1 : Bytes w (.slice a1 n1 c1) least) (b2 : Bytes w (.slice a2 n2 c2) most) :
    Calls Try.prog 49 #[verAgg a n c next seq log, .int .i64 z, .slice a1 n1 c1, .slice a2 n2 c2] w fun e w' => e = .returned (.bool (deepF (flL L) next seq log z least most)) ∧ Turns (fun _ => False) w w' := by
  have TA := hide ((Turns.refl (fun _ => False) w).alloc (.cells #[.slice a n c, .int .u64 (next : Nat), .int .u64 (seq : Nat), .int .u64 (log : Nat)] 25))
  have R0 := hide (heap_alloc_new w (.cells #[.slice a n c, .int .u64 (next : Nat), .int .u64 (seq : Nat), .int .u64 (log : Nat)] 25))
  have CK := hide (check_any a n c next seq log L _ (h.quiet TA.out))
  have HCV := hide (show chkV L next seq log = if wrongV L next seq log then 2 else 0 from rfl)
  have HV := hide h
  have HB1 := hide b1
  have HB2 := hide b2
  unfold verAgg at *
  clear h b1 b2
  by_cases hz : z < 0
  · have HD := hide (show deepF (flL L) next seq log z least most = true by simp [deepF, hz])
    generalize deepF (flL L) next seq log z least most = DD at *
    go_enter Try.func49, Try.ntmps49
    go_wp2_with fail
    go_ret
    exact ⟨congrArg Ending.returned (congrArg Value.bool HD.out.symm), TA.out⟩
  generalize hV : wrongV L next seq log = V at *
  have HWV := hide (show wrongVF (flL L) next seq log = V by rw [← wrongV_F]; exact hV)
  clear hV
  generalize chkV L next seq log = C at *
  cases V with
  | true =>
    have hc : C = 2 := HCV.out
    subst hc
    have HD := hide (show deepF (flL L) next seq log z least most = true by simp [deepF, HWV.out])
    generalize deepF (flL L) next seq log z least most = DD at *
    go_enter Try.func49, Try.ntmps49
    go_wp2_with fail
    refine CK.out.mono ?_
    rintro e w1 ⟨rfl, t1⟩
    have T1 := hide (TA.out.trans t1)
    clear t1
    go_wp2_with fail
    go_ret
    exact ⟨congrArg Ending.returned (congrArg Value.bool HD.out.symm), T1.out⟩
  | false =>
    have hc : C = 0 := HCV.out
    subst hc
    have HD := hide (show deepF (flL L) next seq log z least most = !((flL L).zipIdx.any fun p => decide (z < (p.2 : Int)) && p.1.any (overF least most)) by simp [deepF, HWV.out, hz])
    generalize deepF (flL L) next seq log z least most = DD at *
    obtain rfl : n = 5 := by have h1 := len_of5 HWV.out; rw [flL_length] at h1; have := HV.out.len; omega
    go_enter Try.func49, Try.ntmps49
    go_wp2_with fail
    refine CK.out.mono ?_
    rintro e w1 ⟨rfl, t1⟩
    have T1 := hide (TA.out.trans t1)
    have R1 := hide (t1.heap R0.out (fun x => x))
    clear t1 CK
    go_wp2_with fail
    refine (overlaps_any a1 n1 c1 a2 n2 c2 w1).mono ?_
    rintro e w2 ⟨rfl, q1, q2, t2⟩
    have T2 := hide (T1.out.trans t2)
    have Q1 := hide q1
    have Q2 := hide q2
    have p0 := cell_of_row w2 w.heap.size 0 _ 25 (0, 0) (t2.heap R1.out (fun x => x))
    clear q1 q2 t2
    generalize w1.heap.size = P1 at *
    go_wp2_with fail
    clear p0
    go_loopw [25] (fun i wr => ∃ k : Nat, i = .int .i64 (k : Nat) ∧ k ≤ 5 ∧ ((flL (L.take k)).zipIdx.any fun p => decide (z < (p.2 : Int)) && p.1.any (overF least most)) = false ∧ Turns (fun _ => False) w2 wr) (fun i _ => 5 - (intOf i).toNat)
    case atStart => exact ⟨0, rfl, Nat.zero_le _, by simp [flL], Turns.refl _ _⟩
    case round =>
      obtain ⟨k, rfl, hk, hno, hb⟩ := hrel
      have HNO := hide hno
      have HB := hide hb
      clear hno hb
      by_cases hkn : k < 5
      · obtain ⟨x, hx⟩ : ∃ x, L[k]? = some x := ⟨_, List.getElem?_eq_getElem (by have := HV.out.len; omega)⟩
        obtain ⟨⟨b, off, rfl, hcl⟩, hfi⟩ := (HV.out.levs.quiet (T2.out.trans HB.out)) k x hx
        have i1 : (k : Int) < 5 := by omega
        have i0 : (0 : Int) ≤ (k : Int) := by omega
        have HTK := hide (deep_take z least most hx)
        have hxl : x.l.length ≤ 1000000 := by have := cnt_take hx; have := cnt_take_le L (k + 1); have := HV.out.cnt; omega
        have CC := hide (contains_over x.a x.l.length x.c x.l P1 (P1 + 1) a1 n1 c1 a2 n2 c2 least most wr hfi rfl hxl (HB.out.cell Q1.out (fun x => x)) (HB.out.cell Q2.out (fun x => x)) (HB1.out.quiet (T2.out.trans HB.out)) (HB2.out.quiet (T2.out.trans HB.out)))
        have HTRUE := hide (show z < (k : Int) → x.l.any (overT least most) = true → ((flL L).zipIdx.any fun p => decide (z < (p.2 : Int)) && p.1.any (overF least most)) = true from fun e1 e2 => List.any_eq_true.2 ⟨(fls x.l, k), List.mem_zipIdx_iff_getElem?.2 (flL_at hx), by simp only [fls, List.any_map, e1, decide_true, Bool.true_and]; exact e2⟩)
        obtain ⟨xa, xc, xl⟩ := x
        simp only at *
        generalize xl.length = XL at *
        generalize xl.any (overT least most) = OV at *
        clear hx hfi hxl
        by_cases hzk : z < (k : Int)
        · go_wp2_with fail
          refine CC.out.mono ?_
          rintro e w3 ⟨rfl, t3⟩
          have T3 := hide (HB.out.trans t3)
          clear t3 CC
          cases OV with
          | false =>
            go_wp2_with fail
            go_roundw
            case rel => exact ⟨k + 1, by go_num, by omega, by rw [HTK.out, HNO.out]; simp, T3.out⟩
            case measure => simp [intOf]; omega
          | true =>
            go_wp2_with fail
            go_ret
            exact ⟨congrArg Ending.returned (congrArg Value.bool (by rw [HD.out, HTRUE.out hzk trivial]; rfl)), T2.out.trans T3.out⟩
        · go_wp2_with fail
          go_roundw
          case rel => exact ⟨k + 1, by go_num, by omega, by rw [HTK.out, HNO.out]; simp; omega, HB.out⟩
          case measure => simp [intOf]; omega
      · obtain rfl : k = 5 := by omega
        have ht : L.take 5 = L := List.take_of_length_le (by have := HV.out.len; omega)
        rw [ht] at HNO
        clear ht
        go_wp2_with fail
        go_ret
        exact ⟨congrArg Ending.returned (congrArg Value.bool (by rw [HD.out, HNO.out]; rfl)), T2.out.trans HB.out⟩
end Go.Proofs.Ytkmcdjbadngfgaa
