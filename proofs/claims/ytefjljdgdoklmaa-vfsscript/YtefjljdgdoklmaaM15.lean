import Derived.Test.YtefjljdgdoklmaaM08
import Derived.Test.YtefjljdgdoklmaaM14
import Derived.StillTailTactics
/-
  What a crash leaves of a file.
-/
namespace Go.Proofs.Ytefjljdgdoklmaa
open Go.RowKit Go.Maps

set_option maxRecDepth 100000 in
set_option maxHeartbeats 4000000 in
theorem fcrash_any (g L c s0 : Nat) (k : Nat) (keep : Int) (w : World) (h : w.heap[g]? = some (.cells #[.slice (some ⟨k, 0, none⟩) L c, .int .i64 (s0 : Nat)] 70 (0, 0))) (h1 : s0 ≤ L) (h2 : L ≤ c) (h3 : L ≤ 1073741824) (k1 : keep ≤ 9223372036854775807) (k2 : -9223372036854775808 ≤ keep) :
    Calls Try.prog 46 #[.pointer (some ⟨g, 0, none⟩), .int .i64 keep] w fun e w' => (∃ v, e = .returned v) ∧ ∃ N : Nat, (N : Int) = s0 + max keep 0 % ((L : Int) - s0 + 1) ∧ N ≤ L ∧ w'.heap[g]? = some (.cells #[.slice (some ⟨k, 0, none⟩) N c, .int .i64 (N : Nat)] 70 (0, 0)) ∧ Turns (fun j => j = g) w w' := by
  have c0 : w.cell? ⟨g, 0, none⟩ = some (.slice (some ⟨k, 0, none⟩) L c) := cell_of_row w g 0 _ 70 (0, 0) h
  have c1 : w.cell? ⟨g, 1, none⟩ = some (.int .i64 (s0 : Nat)) := cell_of_row w g 1 _ 70 (0, 0) h
  have z0 : w.frozen? ⟨g, 0, none⟩ = false := frozen_of_row w g 0 _ 70 h
  obtain ⟨q, hq, hq2⟩ : ∃ q : Nat, (q : Int) = max keep 0 % ((L : Int) - s0 + 1) ∧ q ≤ L - s0 := by
    have e1 := Int.emod_nonneg (max keep 0) (show (L : Int) - s0 + 1 ≠ 0 by omega)
    have e2 := Int.emod_lt_of_pos (max keep 0) (show (0 : Int) < (L : Int) - s0 + 1 by omega)
    exact ⟨(max keep 0 % ((L : Int) - s0 + 1)).toNat, by omega, by omega⟩
  have HQ := hide hq
  have H := hide h
  clear hq h
  have hw1 : IntKind.i64.wrap ((L : Int) - s0) = (L : Int) - s0 := wrapI _ (by omega) (by omega)
  have hw2 : IntKind.i64.wrap ((s0 : Int) + q) = (s0 : Int) + q := wrapI _ (by omega) (by omega)
  have i1 : (s0 : Int) + q ≤ (c : Int) := by omega
  have i0 : (0 : Int) ≤ (s0 : Int) + q := by omega
  go_enter Try.func46, Try.ntmps46
  go_wp2_with fail
  go_still_tail 25, (by kernel_rfl)
  still_call (within_any keep ((L : Int) - s0) _ (by omega) (by omega) k1 k2)
  rw [← HQ.out]
  repeat still_step
  refine wpStill_nil ?_
  have t1 : Tick w (({ w with drawn := w.drawn + 1 } : World).setCell ⟨g, 0, none⟩ (.slice (some ⟨k, 0, none⟩) (s0 + q) c)) g 70 #[.slice (some ⟨k, 0, none⟩) (s0 + q) c, .int .i64 (s0 : Nat)] := ((Tick.refl H.out).drew).set 0 (.slice (some ⟨k, 0, none⟩) (s0 + q) c)
  have T1 := hide t1
  have z0' : ({ w with drawn := w.drawn + 1 } : World).frozen? ⟨g, 0, none⟩ = false := z0
  have c0' : ({ w with drawn := w.drawn + 1 } : World).cell? ⟨g, 0, none⟩ = some (.slice (some ⟨k, 0, none⟩) L c) := c0
  clear t1
  go_wp2_with fail
  refine (sync_any g (s0 + q) (s0 : Nat) _ c (w.setCell ⟨g, 0, none⟩ (.slice (some ⟨k, 0, none⟩) (s0 + q) c)).drew T1.out.1).mono ?_
  rintro e w2 ⟨⟨v, rfl⟩, t2⟩
  have T2 := hide t2
  have U2 : Hid (Turns (fun j => j = g) w w2) := (Turns.of_tick (w' := (w.setCell ⟨g, 0, none⟩ (.slice (some ⟨k, 0, none⟩) (s0 + q) c)).drew) T1.out).trans (Turns.of_tick t2)
  clear t2
  go_wp2_with fail
  go_end0
  exact ⟨⟨_, rfl⟩, s0 + q, by have := HQ.out; omega, by omega, T2.out.1, U2.out⟩
end Go.Proofs.Ytefjljdgdoklmaa

/-
  A crash of a file system with one file in its synced directory.
-/
namespace Go.Proofs.Ytefjljdgdoklmaa
open Go.RowKit Go.Maps Go.Sort

/-- A directory with one name. -/
def oneD (name : ByteArray) (g : Nat) : DataW Unit := .map [(key name, .lit (.int .i64 (g : Nat)))]
theorem oneD_keys (name : ByteArray) (g : Nat) : strKeys (oneD name g) = [name.data.toList] := rfl
theorem oneD_file (name : ByteArray) (g : Nat) : fileOf (oneD name g) name = some g := by
  have : (oneD name g).atKey (key name) .nil = .lit (.int .i64 (g : Nat)) := by
    simp [oneD, DataW.atKey, key, Lit.sameKey]
  unfold fileOf
  rw [this]
  simp
/-- The names of such a directory, as a slice. -/
theorem names_one {w : World} {B : Nat} {v : Value} {ss : List (List UInt8)} {name : ByteArray} {g : Nat} (hp : ss.Perm (strKeys (oneD name g))) (hr : w.ownsRow B 9 1 v ss.length ((ss.mergeSort (fun x y => decide (x ≤ y))).map encStr)) :
    ∃ q c, v = .slice (some ⟨q, 0, none⟩) 1 c ∧ 1 ≤ c ∧ w.cell? ⟨q, 0, none⟩ = some (.string name) ∧ B ≤ q := by
  rw [oneD_keys] at hp
  obtain rfl := List.perm_singleton.1 hp
  obtain ⟨_, ⟨_, h⟩ | ⟨q, c, cur, rfl, hq, hh, hc, _, _, ht⟩⟩ := hr
  · cases h
  · refine ⟨q, c, rfl, hc, ?_, hq⟩
    rw [cell_of_row w q 0 cur 9 (0, 0) hh]
    have : cur.toList[0]? = some (encStr name.data.toList) := by
      have h2 := congrArg (fun l => l[0]?) ht
      simpa using h2
    rw [← Array.getElem?_toList, this]

set_option maxRecDepth 100000 in
set_option maxHeartbeats 4000000 in
theorem crash_one (f bn bs ns : Nat) (S : DataW Unit) (l : List Chg) (limit used lost ops fuse fault fail : Int) (on : Bool) (ch : Value) (dir : Int) (ka : Option Addr) (kn kc : Nat) (kp : Int) (name : ByteArray) (g r L c s0 k : Nat) (w : World)
    (h : w.heap[f]? = some (.cells (fsCells limit (.map (some bn)) (.map (some bs)) ch used lost on ops fuse fault fail) 57 (0, 0))) (hd : Dir w bs ns S) (hl : Chs w ch l) (hlen : l.length ≤ 1000000) (hns : ns ≤ 1000000) (hnm : ∀ x ∈ l, x.went.size ≤ maxLen ∧ x.became.size ≤ maxLen)
    (d1 : dir ≤ 9223372036854775807) (d2 : -9223372036854775808 ≤ dir) (hk : (k : Int) = max dir 0 % ((l.length : Int) + 1)) (hone : (l.take k).foldl applyD S = oneD name g) (hname : name.size ≤ maxLen)
    (hkeep : (kn = 0 ∧ kp = 0) ∨ (0 < kn ∧ ∃ q o, ka = some ⟨q, o, none⟩ ∧ w.cell? ⟨q, o, none⟩ = some (.int .i64 kp) ∧ q ≠ f ∧ q ≠ bs)) (p1 : kp ≤ 9223372036854775807) (p2 : -9223372036854775808 ≤ kp)
    (hg : w.heap[g]? = some (.cells #[.slice (some ⟨r, 0, none⟩) L c, .int .i64 (s0 : Nat)] 70 (0, 0))) (h1 : s0 ≤ L) (h2 : L ≤ c) (h3 : L ≤ 1073741824) :
    Calls Try.prog 11 #[.pointer (some ⟨f, 0, none⟩), .int .i64 dir, .slice ka kn kc] w fun e w' => e = .returned (.int .i64 0) ∧ ∃ (bn' ns' N : Nat), (N : Int) = s0 + max kp 0 % ((L : Int) - s0 + 1) ∧ N ≤ L ∧ w'.heap[g]? = some (.cells #[.slice (some ⟨r, 0, none⟩) N c, .int .i64 (N : Nat)] 70 (0, 0)) ∧
      w'.heap[f]? = some (.cells (fsCells limit (.map (some bn')) (.map (some bs)) (.slice none 0 0) N 0 true ops (-1) (-1) fail) 57 (0, 0)) ∧ Dir w' bn' ns' (oneD name g) ∧ Dir w' bs ns' (oneD name g) ∧ w.heap.size ≤ bn' ∧ Turns (fun j => j = f ∨ j = bs ∨ j = g) w w' := by
  have hfb : f ≠ bs := hd.ne_cells h
  have hgb : g ≠ bs := hd.ne_cells hg
  have hgf : g ≠ f := fun e => by rw [e, h] at hg; cases hg
  have hkl : k ≤ l.length := by
    have := Int.emod_lt_of_pos (max dir 0) (show (0 : Int) < (l.length : Int) + 1 by omega)
    omega
  obtain ⟨ca, cc, rfl⟩ := hl.len
  have c1 : w.cell? ⟨f, 1, none⟩ = some (.map (some bn)) := cell_of_row w f 1 _ 57 (0, 0) h
  have c3 : w.cell? ⟨f, 3, none⟩ = some (.slice ca l.length cc) := cell_of_row w f 3 _ 57 (0, 0) h
  have H := hide h
  have HD := hide hd
  have HL := hide hl
  have HNM := hide hnm
  have HK := hide hk
  have HO := hide hone
  have HKP := hide hkeep
  have HG := hide hg
  have hfw := lt_of_heap h
  clear h hd hl hnm hk hone hkeep hg
  generalize hll : l.length = ll at *
  go_enter Try.func11, Try.ntmps11
  go_wp2_with fail
  refine (made_yes f bn _ c1).mono ?_
  rintro e w1 ⟨rfl, rfl⟩
  go_wp2_with fail
  refine (within_any dir (ll : Nat) _ (by omega) (by omega) d1 d2).mono ?_
  rintro e w2 ⟨rfl, rfl⟩
  rw [← HK.out]
  go_wp2_with fail
  refine (settle_any f bs ns k S l limit used lost ops fuse fault fail on (.map (some bn)) _ _ H.out HD.out HL.out (by omega) (by omega) (by omega) HNM.out).mono ?_
  rintro e w3 ⟨⟨v3, rfl⟩, s1, s2, s3⟩
  rw [HO.out] at s2
  have S1 := hide s1
  have S2 := hide s2
  have S3 := hide s3
  have e2 : w3.cell? ⟨f, 2, none⟩ = some (.map (some bs)) := cell_of_row w3 f 2 _ 57 (0, 0) s1
  clear s1 s2 s3 c1 c3
  go_wp2_with fail
  refine (mapclone_any bs (ns + k) (oneD name g) _ S2.out).mono ?_
  rintro e w4 ⟨rfl, m1, m2⟩
  have A1 := hide (m2.heap S1.out (fun x => x))
  have A2 := hide (S2.out.keep m2 (fun x => x))
  have A3 := hide m1
  have A4 := hide (S3.out.andThen m2 (fun _ _ x => x.elim))
  have hbn : w2.heap.size ≤ w3.heap.size := S3.out.size
  have hbf : w3.heap.size ≠ f := by omega
  have hbb : w3.heap.size ≠ bs := fun e => by have := HD.out.lt; omega
  have hsz4 : w3.heap.size < w4.heap.size := A3.out.lt
  have z1 : w4.frozen? ⟨f, 1, none⟩ = false := frozen_of_row w4 f 1 _ 57 A1.out
  have z4 : w4.frozen? ⟨f, 4, none⟩ = false := frozen_of_row w4 f 4 _ 57 A1.out
  have z5 : w4.frozen? ⟨f, 5, none⟩ = false := frozen_of_row w4 f 5 _ 57 A1.out
  have y1 : w4.cell? ⟨f, 1, none⟩ = some (.map (some bn)) := cell_of_row w4 f 1 _ 57 (0, 0) A1.out
  have y4 : w4.cell? ⟨f, 4, none⟩ = some (.int .i64 used) := cell_of_row w4 f 4 _ 57 (0, 0) A1.out
  have y5 : w4.cell? ⟨f, 5, none⟩ = some (.int .i64 lost) := cell_of_row w4 f 5 _ 57 (0, 0) A1.out
  clear m1 m2 e2
  generalize hbn' : w3.heap.size = bn' at *
  go_wp2_with fail
  have t5 := (((Tick.refl A1.out).set 1 (.map (some bn'))).set 4 (.int .i64 0)).set 5 (.int .i64 0)
  have u5 := Turns.of_tick t5
  have T5 : Hid ((((w4.setCell ⟨f, 1, none⟩ (.map (some bn'))).setCell ⟨f, 4, none⟩ (.int .i64 0)).setCell ⟨f, 5, none⟩ (.int .i64 0)).heap[f]? = some (.cells (fsCells limit (.map (some bn')) (.map (some bs)) (.slice none 0 0) 0 0 on ops fuse fault fail) 57 (0, 0))) := t5.1
  have D5 := hide (A3.out.keep u5 hbf)
  have E5 := hide (A2.out.keep u5 (fun e => hfb e.symm))
  have U5 := hide (A4.out.trans (u5.mono fun _ _ e => .inl e))
  clear t5 u5 z1 z4 z5 y1 y4 y5 A1 A2 A3 A4 S1 S2 S3
  generalize ((w4.setCell ⟨f, 1, none⟩ (.map (some bn'))).setCell ⟨f, 4, none⟩ (.int .i64 0)).setCell ⟨f, 5, none⟩ (.int .i64 0) = w5 at *
  refine (rising_any bn' (ns + k) (oneD name g) _ D5.out (by omega)).mono ?_
  rintro e w6 ⟨v, ss, rfl, r1, r2, r3, r4⟩
  obtain ⟨q, qc, rfl, hqc, hqn, hqB⟩ := names_one r1 r2
  have t6 : Turns (fun _ => False) w5 w6 := Turns.of_below r4 _
  have F6 := hide (t6.heap T5.out (fun x => x))
  have D6 := hide (D5.out.keep t6 (fun x => x))
  have E6 := hide (E5.out.keep t6 (fun x => x))
  have U6 := hide (U5.out.andThen t6 (fun _ _ x => x.elim))
  have G6 := hide (U6.out.heap HG.out (fun x => x.elim hgf hgb))
  have K6 : Hid ((kn = 0 ∧ kp = 0) ∨ (0 < kn ∧ ∃ q o, ka = some ⟨q, o, none⟩ ∧ w6.cell? ⟨q, o, none⟩ = some (.int .i64 kp))) := by
    rcases HKP.out with h | ⟨h, q, o, e1, e2, e3, e4⟩
    · exact .inl h
    · exact .inr ⟨h, q, o, e1, U6.out.cell e2 (fun x => x.elim e3 e4)⟩
  have hqf : q ≠ f := by have := U5.out.size; omega
  clear r1 r2 r3 r4 t6 T5 D5 E5 U5
  go_wp2_with fail
  go_loopw [43] (fun iv wr => (iv = .int .i64 0 ∧ wr = w6) ∨ (iv = .int .i64 1 ∧ ∃ N : Nat, (N : Int) = s0 + max kp 0 % ((L : Int) - s0 + 1) ∧ N ≤ L ∧ wr.heap[g]? = some (.cells #[.slice (some ⟨r, 0, none⟩) N c, .int .i64 (N : Nat)] 70 (0, 0)) ∧
    wr.heap[f]? = some (.cells (fsCells limit (.map (some bn')) (.map (some bs)) (.slice none 0 0) N 0 on ops fuse fault fail) 57 (0, 0)) ∧ Dir wr bn' (ns + k) (oneD name g) ∧ Dir wr bs (ns + k) (oneD name g) ∧ Turns (fun j => j = f ∨ j = bs ∨ j = g) w2 wr)) (fun iv _ => 2 - (intOf iv).toNat)
  case atStart => exact .inl ⟨rfl, rfl⟩
  case round =>
    rcases hrel with ⟨rfl, rfl⟩ | ⟨rfl, N, n1, n2, n3, n4, n5, n6, n7⟩
    · have b1 : wr.cell? ⟨f, 1, none⟩ = some (.map (some bn')) := cell_of_row wr f 1 _ 57 (0, 0) F6.out
      have hlk := D6.out.look' name hname
      rw [oneD_file] at hlk
      simp only [ptrOf] at hlk
      have HLK := hide hlk
      clear hlk
      rcases K6.out with ⟨rfl, rfl⟩ | ⟨hkn, q', o', rfl, hkc⟩
      · have hlk := HLK.out
        go_wp2_with fail
        refine (fcrash_any g L c s0 r 0 wr G6.out h1 h2 h3 p1 p2).mono ?_
        rintro e w7 ⟨⟨v7, rfl⟩, N, n1, n2, n3, t7⟩
        have F7 := hide (t7.heap F6.out (fun e => hgf e.symm))
        have D7 := hide (D6.out.keep t7 (fun e => D6.out.ne_cells G6.out e.symm))
        have E7 := hide (E6.out.keep t7 (fun e => hgb e.symm))
        have U7 : Hid (Turns (fun j => j = f ∨ j = bs ∨ j = g) w2 w7) := (U6.out.mono fun j _ x => x.elim Or.inl (fun y => Or.inr (Or.inl y))).trans (t7.mono fun _ _ e => Or.inr (Or.inr e))
        have x0 : w7.cell? ⟨g, 0, none⟩ = some (.slice (some ⟨r, 0, none⟩) N c) := cell_of_row w7 g 0 _ 70 (0, 0) n3
        have x4 : w7.cell? ⟨f, 4, none⟩ = some (.int .i64 0) := cell_of_row w7 f 4 _ 57 (0, 0) F7.out
        have z4 : w7.frozen? ⟨f, 4, none⟩ = false := frozen_of_row w7 f 4 _ 57 F7.out
        have N1 := hide n1
        have N3 := hide n3
        clear n1 n3 t7 b1 hlk HLK
        have t8 := ((Tick.refl F7.out).set 4 (.int .i64 (N : Nat))).drew
        have u8 := Turns.of_tick t8
        have FIN : Hid ((N : Int) = s0 + max 0 0 % ((L : Int) - s0 + 1) ∧ N ≤ L ∧ (w7.setCell ⟨f, 4, none⟩ (.int .i64 (N : Nat))).drew.heap[g]? = some (.cells #[.slice (some ⟨r, 0, none⟩) N c, .int .i64 (N : Nat)] 70 (0, 0)) ∧ (w7.setCell ⟨f, 4, none⟩ (.int .i64 (N : Nat))).drew.heap[f]? = some (.cells (fsCells limit (.map (some bn')) (.map (some bs)) (.slice none 0 0) N 0 on ops fuse fault fail) 57 (0, 0)) ∧ Dir (w7.setCell ⟨f, 4, none⟩ (.int .i64 (N : Nat))).drew bn' (ns + k) (oneD name g) ∧ Dir (w7.setCell ⟨f, 4, none⟩ (.int .i64 (N : Nat))).drew bs (ns + k) (oneD name g) ∧ Turns (fun j => j = f ∨ j = bs ∨ j = g) w2 (w7.setCell ⟨f, 4, none⟩ (.int .i64 (N : Nat))).drew) :=
          ⟨N1.out, n2, u8.heap N3.out hgf, t8.1, D7.out.keep u8 hbf, E7.out.keep u8 (fun e => hfb e.symm), U7.out.trans (u8.mono fun _ _ e => .inl e)⟩
        clear t8 u8
        go_wp2_with fail
        go_region_with (fail)
        all_goals go_wp2_with fail
        all_goals exact ⟨Or.inr ⟨by go_num, N, FIN.out⟩, by simp [intOf]⟩
      · have hlk := HLK.out
        have i1 : (0 : Int) < (kn : Int) := by omega
        go_wp2_with fail
        refine (fcrash_any g L c s0 r kp wr G6.out h1 h2 h3 p1 p2).mono ?_
        rintro e w7 ⟨⟨v7, rfl⟩, N, n1, n2, n3, t7⟩
        have F7 := hide (t7.heap F6.out (fun e => hgf e.symm))
        have D7 := hide (D6.out.keep t7 (fun e => D6.out.ne_cells G6.out e.symm))
        have E7 := hide (E6.out.keep t7 (fun e => hgb e.symm))
        have U7 : Hid (Turns (fun j => j = f ∨ j = bs ∨ j = g) w2 w7) := (U6.out.mono fun j _ x => x.elim Or.inl (fun y => Or.inr (Or.inl y))).trans (t7.mono fun _ _ e => Or.inr (Or.inr e))
        have x0 : w7.cell? ⟨g, 0, none⟩ = some (.slice (some ⟨r, 0, none⟩) N c) := cell_of_row w7 g 0 _ 70 (0, 0) n3
        have x4 : w7.cell? ⟨f, 4, none⟩ = some (.int .i64 0) := cell_of_row w7 f 4 _ 57 (0, 0) F7.out
        have z4 : w7.frozen? ⟨f, 4, none⟩ = false := frozen_of_row w7 f 4 _ 57 F7.out
        have N1 := hide n1
        have N3 := hide n3
        clear n1 n3 t7 b1 hlk HLK
        have t8 := ((Tick.refl F7.out).set 4 (.int .i64 (N : Nat))).drew
        have u8 := Turns.of_tick t8
        have FIN : Hid ((N : Int) = s0 + max kp 0 % ((L : Int) - s0 + 1) ∧ N ≤ L ∧ (w7.setCell ⟨f, 4, none⟩ (.int .i64 (N : Nat))).drew.heap[g]? = some (.cells #[.slice (some ⟨r, 0, none⟩) N c, .int .i64 (N : Nat)] 70 (0, 0)) ∧ (w7.setCell ⟨f, 4, none⟩ (.int .i64 (N : Nat))).drew.heap[f]? = some (.cells (fsCells limit (.map (some bn')) (.map (some bs)) (.slice none 0 0) N 0 on ops fuse fault fail) 57 (0, 0)) ∧ Dir (w7.setCell ⟨f, 4, none⟩ (.int .i64 (N : Nat))).drew bn' (ns + k) (oneD name g) ∧ Dir (w7.setCell ⟨f, 4, none⟩ (.int .i64 (N : Nat))).drew bs (ns + k) (oneD name g) ∧ Turns (fun j => j = f ∨ j = bs ∨ j = g) w2 (w7.setCell ⟨f, 4, none⟩ (.int .i64 (N : Nat))).drew) :=
          ⟨N1.out, n2, u8.heap N3.out hgf, t8.1, D7.out.keep u8 hbf, E7.out.keep u8 (fun e => hfb e.symm), U7.out.trans (u8.mono fun _ _ e => .inl e)⟩
        clear t8 u8
        go_wp2_with fail
        go_region_with (fail)
        all_goals go_wp2_with fail
        all_goals exact ⟨Or.inr ⟨by go_num, N, FIN.out⟩, by simp [intOf]⟩
    · have N1 := hide n1
      have N3 := hide n3
      have N4 := hide n4
      have N5 := hide n5
      have N6 := hide n6
      have N7 := hide n7
      have z6 : wr.frozen? ⟨f, 6, none⟩ = false := frozen_of_row wr f 6 _ 57 n4
      have z8 : wr.frozen? ⟨f, 8, none⟩ = false := frozen_of_row wr f 8 _ 57 n4
      have z9 : wr.frozen? ⟨f, 9, none⟩ = false := frozen_of_row wr f 9 _ 57 n4
      have x6 : wr.cell? ⟨f, 6, none⟩ = some (.bool on) := cell_of_row wr f 6 _ 57 (0, 0) n4
      have x8 : wr.cell? ⟨f, 8, none⟩ = some (.int .i64 fuse) := cell_of_row wr f 8 _ 57 (0, 0) n4
      have x9 : wr.cell? ⟨f, 9, none⟩ = some (.int .i64 fault) := cell_of_row wr f 9 _ 57 (0, 0) n4
      clear n1 n3 n4 n5 n6 n7
      go_wp2_with fail
      go_ret
      have t9 := (((Tick.refl N4.out).set 6 (.bool true)).set 8 (.int .i64 (-1))).set 9 (.int .i64 (-1))
      have u9 := Turns.of_tick t9
      exact ⟨rfl, bn', ns + k, N, N1.out, n2, u9.heap N3.out hgf, t9.1, N5.out.keep u9 hbf, N6.out.keep u9 (fun e => hfb e.symm), hbn, N7.out.trans (u9.mono fun _ _ e => .inl e)⟩
end Go.Proofs.Ytefjljdgdoklmaa

/-
  A file system with one file: Sync, Create of a name that is there, a crash, Read.
-/
namespace Go.Proofs.Ytefjljdgdoklmaa
open Go.RowKit Go.Maps

set_option maxHeartbeats 1000000 in
theorem sync_one (B f g : Nat) (name : ByteArray) (l : List Chg) (S : DataW Unit) (bytes : List (BitVec 8)) (s0 : Nat) (limit used lost ops : Int) (w : World) (h : One B w f g name l S bytes s0 limit used lost ops) (ho : 0 ≤ ops ∧ ops ≤ 1000) (hB : B ≤ w.heap.size) (hgn : goodN name = true) (hnm : name.size ≤ maxLen) :
    Calls Try.prog 14 #[.pointer (some ⟨f, 0, none⟩), .string name] w fun e w' => e = .returned (.int .i64 0) ∧ One B w' f g name l S bytes bytes.length limit used lost (ops + 1) ∧ Below B w w' := by
  obtain ⟨fB, gB, bn, bs, nn, ns, ch, fv, hf, hd, hs, hch, hg, hown, hne, b1, b2, b3, b4, m1, m2⟩ := h
  refine sync_via _ name w _ fun w1 t1 hv => ?_
  obtain ⟨v0, v1, v2⟩ := hv
  rw [hgn]
  have hf1 := t1.heap hf (fun x => x)
  have hd1 : Dir w1 bn nn (one name g) := hd.keep t1 (fun x => x)
  have hs1 : Dir w1 bs ns S := hs.keep t1 (fun x => x)
  have hfn : f ≠ bn := hd1.ne_cells hf1
  have hfs : f ≠ bs := hs1.ne_cells hf1
  have hfw := lt_of_heap hf
  have hgf : g ≠ f := fun e => by rw [e, hf] at hg; cases hg
  have hgbn : g ≠ bn := hd.ne_cells hg
  have hgs : g ≠ bs := hs.ne_cells hg
  have hrow : ∀ k, inRow ch k → k ≠ f ∧ k ≠ g := fun k hk => by
    obtain ⟨cs, hc⟩ := hch.row hk
    exact ⟨fun e => (by rw [e, hf] at hc; cases hc), fun e => (by rw [e, hg] at hc; cases hc)⟩
  have hrowf : ∀ k, inRow fv k → k ≠ f ∧ k ≠ g := fun k hk => by
    obtain ⟨cs, hc⟩ := hown.row hk
    exact ⟨fun e => (by rw [e, hf] at hc; cases hc), fun e => (by rw [e, hg] at hc; cases hc)⟩
  obtain ⟨fa, fc, rfl⟩ : ∃ fa fc, fv = .slice fa bytes.length fc := by
    rcases hown with ⟨rfl, rfl⟩ | ⟨r, c, n, rfl, rfl, _⟩
    · exact ⟨_, _, rfl⟩
    · exact ⟨_, _, rfl⟩
  refine operate_go f bn 73 _ (enters73 _) limit used lost ops (-1) (-1) 0 _ _ w1 hf1 (by omega) (by decide) (by decide) (by decide) (by decide) _ fun wc hTk => ?_
  have u := Turns.of_tick hTk
  have xf : ∀ q, q ≠ f → ∀ v, w1.cell? ⟨q, 0, none⟩ = some v → wc.cell? ⟨q, 0, none⟩ = some v := fun q hq v hv => u.cell hv hq
  refine onFile1_some f bn nn w.heap.size (w.heap.size + 1) (w.heap.size + 2) g 48 _ (one name g) name wc (fun w => enters48 _ w) (xf _ (by omega) _ v0) (xf _ (by omega) _ v1) (hTk.cell 1) (xf _ (by omega) _ v2) (hd1.keep u hfn.symm) hnm (one_file name g) _ fun m => ?_
  refine (sync1_any g bytes.length (s0 : Nat) fa fc (wc.drewN m) (u.heap (t1.heap hg (fun x => x)) hgf)).mono ?_
  rintro e w2 ⟨rfl, k1⟩
  have u2 := Turns.of_tick k1
  have tall : Turns (fun k => k = f ∨ k = g) w w2 := (((t1.mono fun _ _ x => x.elim).trans (u.mono fun _ _ e => Or.inl e)).drewN m).trans (u2.mono fun _ _ e => Or.inr e)
  have tf : w2.heap[f]? = _ := u2.heap (a := wc.drewN m) hTk.1 (fun e => hgf e.symm)
  refine ⟨0, rfl, 0, rfl, 0, rfl, rfl, ⟨fB, gB, bn, bs, nn, ns, ch, _, tf, ?_, ?_, ?_, k1.1, ?_, hne, b1, b2, b3, b4, m1, m2⟩, ?_⟩
  · exact hd.keep tall fun e => e.elim (fun e => hfn e.symm) (fun e => hgbn e.symm)
  · exact hs.keep tall fun e => e.elim (fun e => hfs e.symm) (fun e => hgs e.symm)
  · exact hch.keep tall fun k hk e => e.elim (hrow k hk).1 (hrow k hk).2
  · exact hown.keep tall fun k hk e => e.elim (hrowf k hk).1 (hrowf k hk).2
  · exact tall.below hB fun k e => by
      rcases e with e | e
      · omega
      · omega

set_option maxHeartbeats 1000000 in
theorem create_there (B f g : Nat) (name : ByteArray) (l : List Chg) (S : DataW Unit) (bytes : List (BitVec 8)) (s0 : Nat) (limit used lost ops : Int) (w : World) (h : One B w f g name l S bytes s0 limit used lost ops) (ho : 0 ≤ ops ∧ ops ≤ 1000) (hB : B ≤ w.heap.size) (hgn : goodN name = true) (hnm : name.size ≤ maxLen) :
    Calls Try.prog 9 #[.pointer (some ⟨f, 0, none⟩), .string name] w fun e w' => e = .returned (.int .i64 5) ∧ Below B w w' := by
  obtain ⟨fB, gB, bn, bs, nn, ns, ch, fv, hf, hd, hs, hch, hg, hown, hne, b1, b2, b3, b4, m1, m2⟩ := h
  refine create_via _ name w _ fun w1 pf pn t1 x0 x1 hpf hpn => ?_
  rw [hgn]
  have hf1 := t1.heap hf (fun x => x)
  have hd1 : Dir w1 bn nn (one name g) := hd.keep t1 (fun x => x)
  have hfn : f ≠ bn := hd1.ne_cells hf1
  have hfw := lt_of_heap hf
  refine operate_go f bn 37 _ (enters37 _) limit used lost ops (-1) (-1) 0 _ _ w1 hf1 (by omega) (by decide) (by decide) (by decide) (by decide) _ fun wc hTk => ?_
  have u := Turns.of_tick hTk
  refine (create1_there f bn nn pf pn g (one name g) name wc (u.cell x0 (by show ¬ pf = f; omega)) (u.cell x1 (by show ¬ pn = f; omega)) (hTk.cell 1) (hd1.keep u hfn.symm) hnm (one_file name g)).mono ?_
  rintro e w2 ⟨rfl, m, rfl⟩
  refine ⟨5, rfl, 5, rfl, ⟨rfl, ?_⟩, ((u.mono fun k _ (e : k = f) => by omega).drewN m)⟩
  have := t1.below hB (fun _ x => x.elim)
  exact below_drewN (this.trans (u.below (by have := t1.size; omega) (fun k e => by have e' : k = f := e; omega))) m
end Go.Proofs.Ytefjljdgdoklmaa

/-
  A file system with one file: a crash, and Read.
-/
namespace Go.Proofs.Ytefjljdgdoklmaa
open Go.RowKit Go.Maps

theorem RowB.take {w : World} {g c : Nat} {bs : List (BitVec 8)} (h : RowB w g c bs) (N : Nat) : RowB w g c (bs.take N) := by
  obtain ⟨cs, h1, h2, h3⟩ := h
  refine ⟨cs, h1, h2, fun k hk => ?_⟩
  have hk' : k < N ∧ k < bs.length := by
    rw [cellsOf_length, List.length_take] at hk
    omega
  rw [h3 k (by rw [cellsOf_length]; exact hk'.2)]
  simp [cellsOf, hk'.1]

set_option maxHeartbeats 1000000 in
theorem crash_here (B f g : Nat) (name : ByteArray) (l : List Chg) (S : DataW Unit) (bytes : List (BitVec 8)) (s0 k : Nat) (limit used lost ops dir kp : Int) (ka : Option Addr) (kn kc : Nat) (w : World) (h : One B w f g name l S bytes s0 limit used lost ops) (hB : B ≤ w.heap.size) (hnm : name.size ≤ maxLen) (hl : l.length ≤ 100) (hln : ∀ x ∈ l, x.went.size ≤ maxLen ∧ x.became.size ≤ maxLen)
    (d1 : dir ≤ 9223372036854775807) (d2 : -9223372036854775808 ≤ dir) (hk : (k : Int) = max dir 0 % ((l.length : Int) + 1)) (hone : (l.take k).foldl applyD S = one name g) (hkeep : (kn = 0 ∧ kp = 0) ∨ (0 < kn ∧ ∃ q o, ka = some ⟨q, o, none⟩ ∧ w.cell? ⟨q, o, none⟩ = some (.int .i64 kp) ∧ (q < B ∨ ∃ cs, w.heap[q]? = some (.cells cs 3 (0, 0))))) (p1 : kp ≤ 9223372036854775807) (p2 : -9223372036854775808 ≤ kp)
    (hne : bytes ≠ []) (h1 : s0 ≤ bytes.length) (h3 : bytes.length ≤ 1073741824) :
    Calls Try.prog 11 #[.pointer (some ⟨f, 0, none⟩), .int .i64 dir, .slice ka kn kc] w fun e w' => e = .returned (.int .i64 0) ∧ ∃ N : Nat, (N : Int) = s0 + max kp 0 % ((bytes.length : Int) - s0 + 1) ∧ N ≤ bytes.length ∧ One B w' f g name [] (one name g) (bytes.take N) N limit N 0 ops ∧ Below B w w' := by
  obtain ⟨fB, gB, bn, bs, nn, ns, ch, fv, hf, hd, hs, hch, hg, hown, hnb, b1, b2, b3, b4, m1, m2⟩ := h
  rcases hown with ⟨e, _⟩ | ⟨r, c, n, rfl, rfl, hc, hrow⟩
  · exact absurd e hne
  have hgf : g ≠ f := fun e => by rw [e, hf] at hg; cases hg
  have hrf : r ≠ f ∧ r ≠ bs ∧ r ≠ g := by
    obtain ⟨cs, hcs, _⟩ := hrow
    exact ⟨fun e => (by rw [e, hf] at hcs; cases hcs), hs.ne_cells hcs, fun e => (by rw [e, hg] at hcs; cases hcs)⟩
  refine (crash_one f bn bs ns S l limit used lost ops (-1) (-1) 0 true ch dir ka kn kc kp name g r bytes.length c s0 k w hf hs hch (by omega) (by omega) hln d1 d2 hk hone hnm ?_ p1 p2 hg h1 hc h3).mono ?_
  · rcases hkeep with e | ⟨e, q, o, e1, e2, e3⟩
    · exact .inl e
    · refine .inr ⟨e, q, o, e1, e2, ?_, ?_⟩
      · rintro rfl
        rcases e3 with e3 | ⟨cs, e3⟩
        · omega
        · rw [hf] at e3; cases e3
      · rintro rfl
        rcases e3 with e3 | ⟨cs, e3⟩
        · omega
        · exact hs.ne_cells e3 rfl
  · rintro e w2 ⟨rfl, bn', ns', N, n1, n2, n3, n4, n5, n6, n7, n8⟩
    have hrow2 : RowB w2 r c bytes := by
      obtain ⟨cs, q1, q2, q3⟩ := hrow
      exact ⟨cs, n8.heap q1 (fun x => x.elim hrf.1 (fun y => y.elim hrf.2.1 hrf.2.2)), q2, q3⟩
    refine ⟨rfl, N, n1, n2, ?_, n8.below hB (fun k x => ?_)⟩
    · refine ⟨fB, gB, bn', bs, 1, 1, _, _, n4, Dir.tight n5, Dir.tight n6, .inl ⟨rfl, rfl⟩, n3, .inr ⟨r, c, N, rfl, ?_, by omega, hrow2.take N⟩, fun e => ?_, Nat.le_trans hB n7, b2, ?_, ?_, by decide, by decide⟩
      · rw [List.length_take]; omega
      · have := hs.lt; omega
      · intro k hk
        obtain ⟨_, _, e⟩ := hk
        cases e
      · intro k hk
        obtain ⟨_, _, e⟩ := hk
        cases e
        exact b4 r ⟨_, _, rfl⟩
    · rcases x with x | x | x
      · omega
      · omega
      · omega

set_option maxHeartbeats 1000000 in
theorem read_here (B f g : Nat) (name : ByteArray) (l : List Chg) (S : DataW Unit) (bytes : List (BitVec 8)) (s0 at' n : Nat) (limit used lost ops : Int) (w : World) (h : One B w f g name l S bytes s0 limit used lost ops) (ho : 0 ≤ ops ∧ ops ≤ 1000) (hB : B ≤ w.heap.size) (hgn : goodN name = true) (hnm : name.size ≤ maxLen) (ha : at' < bytes.length) (hn : n ≤ 9223372036854775807) (hb : bytes.length ≤ 1073741824) :
    Calls Try.prog 20 #[.pointer (some ⟨f, 0, none⟩), .string name, .int .i64 (at' : Nat), .int .i64 (n : Nat)] w fun e w' => ∃ q m c, e = .returned (.tuple #[.slice (some ⟨q, 0, none⟩) m c, .int .i64 0]) ∧ m = (readOf bytes at' n).length ∧ RowB w' q c (readOf bytes at' n) ∧ B ≤ q ∧ One B w' f g name l S bytes s0 limit used lost (ops + 1) ∧ Below B w w' := by
  obtain ⟨fB, gB, bn, bs, nn, ns, ch, fv, hf, hd, hs, hch, hg, hown, hne, b1, b2, b3, b4, m1, m2⟩ := h
  refine read_via _ name _ _ w _ (fun w1 t1 x0 x1 x2 hv => ?_) (by omega) (by omega)
  obtain ⟨v0, v1, v2⟩ := hv
  rw [hgn]
  have hf1 := t1.heap hf (fun x => x)
  have hd1 : Dir w1 bn nn (one name g) := hd.keep t1 (fun x => x)
  have hs1 : Dir w1 bs ns S := hs.keep t1 (fun x => x)
  have hfn : f ≠ bn := hd1.ne_cells hf1
  have hfs : f ≠ bs := hs1.ne_cells hf1
  have hfw := lt_of_heap hf
  have hgw := lt_of_heap hg
  have hdw := hd.lt
  have hsw := hs.lt
  have hgf : g ≠ f := fun e => by rw [e, hf] at hg; cases hg
  have hrow : ∀ k, inRow ch k → k ≠ f ∧ k < w.heap.size := fun k hk => by
    obtain ⟨cs, hc⟩ := hch.row hk
    exact ⟨fun e => (by rw [e, hf] at hc; cases hc), lt_of_heap hc⟩
  have hrowf : ∀ k, inRow fv k → k ≠ f ∧ k < w.heap.size := fun k hk => by
    obtain ⟨cs, hc⟩ := hown.row hk
    exact ⟨fun e => (by rw [e, hf] at hc; cases hc), lt_of_heap hc⟩
  refine operate_go f bn 73 _ (enters73 _) limit used lost ops (-1) (-1) 0 _ _ w1 hf1 (by omega) (by decide) (by decide) (by decide) (by decide) _ fun wc hTk => ?_
  have u := Turns.of_tick hTk
  have xf : ∀ q, q ≠ f → ∀ v, w1.cell? ⟨q, 0, none⟩ = some v → wc.cell? ⟨q, 0, none⟩ = some v := fun q hq v hv => u.cell hv hq
  refine onFile1_some f bn nn (w.heap.size + 3) (w.heap.size + 3 + 1) (w.heap.size + 3 + 2) g 52 _ (one name g) name wc (fun w => enters52 _ w) (xf _ (by omega) _ v0) (xf _ (by omega) _ v1) (hTk.cell 1) (xf _ (by omega) _ v2) (hd1.keep u hfn.symm) hnm (one_file name g) _ fun m => ?_
  have tm : Turns (fun k => k = f) w1 (wc.drewN m) := u.drewN m
  have hown' := (hown.keep t1 (fun _ _ x => x)).keep tm (fun k hk => (hrowf k hk).1)
  rcases id hown with ⟨e, _⟩ | ⟨r, c, L, rfl, rfl, hc, _⟩
  · rw [e] at ha; simp at ha
  obtain ⟨r', c', L', e', _, _, hrow'⟩ : ∃ r' c' L', Value.slice (some ⟨r, 0, none⟩) bytes.length c = .slice (some ⟨r', 0, none⟩) L' c' ∧ L' = bytes.length ∧ L' ≤ c' ∧ RowB (wc.drewN m) r' c' bytes := by
    rcases hown' with ⟨_, e⟩ | ⟨g', c', n', e, e2, e3, e4⟩
    · cases e
    · exact ⟨g', c', n', e, e2, e3, e4⟩
  cases e'
  refine (read1_in g r c bytes.length w.heap.size (w.heap.size + 1) (w.heap.size + 2) (s0 : Nat) bytes at' n (wc.drewN m) (xf _ (by omega) _ x0) (xf _ (by omega) _ x1) (tm.heap x2 (by show ¬ w.heap.size + 2 = f; omega)) (tm.heap (t1.heap hg (fun x => x)) hgf) rfl hrow' hc hb (by omega) hn ha).mono ?_
  rintro e w2 ⟨rfl, q, mm, cq, k1, k2, k3, k4, k5⟩
  have tall : Turns (fun k => k = f) w w2 := ((t1.mono fun _ _ x => x.elim).trans tm).andThen k5 (fun k hk (e : k = w.heap.size + 2) => by omega)
  have tf : w2.heap[f]? = _ := k5.heap (a := wc.drewN m) hTk.1 (by show ¬ f = w.heap.size + 2; omega)
  refine ⟨0, rfl, 0, rfl, 0, _, rfl, k1, q, mm, cq, rfl, k2, k4, ?_, ⟨fB, gB, bn, bs, nn, ns, ch, _, tf, hd.keep tall hfn.symm, hs.keep tall hfs.symm, hch.keep tall (fun k hk => (hrow k hk).1), tall.heap hg hgf, hown.keep tall (fun k hk => (hrowf k hk).1), hne, b1, b2, b3, b4, m1, m2⟩, tall.below hB (fun k (e : k = f) => by omega)⟩
  have h1 := t1.size
  have h2 := tm.size
  omega
end Go.Proofs.Ytefjljdgdoklmaa
