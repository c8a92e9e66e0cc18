/-
  A crash of a file system with one file in its synced directory.
-/
import Derived.Test.YtefjljdgdoklmaaFcr
namespace Go.Proofs.Ytefjljdgdoklmaa
open Go.RowKit Go.Maps Go.Sort

/-- A directory with one name. -/
def oneD (name : ByteArray) (g : Nat) : DataW Unit := .map [(key name, .lit (.int .i64 (g : Nat)))]
theorem oneD_keys (name : ByteArray) (g : Nat) : strKeys (oneD name g) = [name.data.toList] := rfl
theorem oneD_file (name : ByteArray) (g : Nat) : fileOf (oneD name g) name = some g := by
  have : (oneD name g).atKey (key name) .nil = .lit (.int .i64 (g : Nat)) := by
    simp [oneD, DataW.atKey, key, Lit.sameKey]
  unfold fileOf
  rw [this]
  simp
/-- The names of such a directory, as a slice. -/
theorem names_one {w : World} {B : Nat} {v : Value} {ss : List (List UInt8)} {name : ByteArray} {g : Nat} (hp : ss.Perm (strKeys (oneD name g))) (hr : w.ownsRow B 9 1 v ss.length ((ss.mergeSort (fun x y => decide (x ≤ y))).map encStr)) :
    ∃ q c, v = .slice (some ⟨q, 0, none⟩) 1 c ∧ 1 ≤ c ∧ w.cell? ⟨q, 0, none⟩ = some (.string name) ∧ B ≤ q := by
  rw [oneD_keys] at hp
  obtain rfl := List.perm_singleton.1 hp
  obtain ⟨_, ⟨_, h⟩ | ⟨q, c, cur, rfl, hq, hh, hc, _, _, ht⟩⟩ := hr
  · cases h
  · refine ⟨q, c, rfl, hc, ?_, hq⟩
    rw [cell_of_row w q 0 cur 9 (0, 0) hh]
    have : cur.toList[0]? = some (encStr name.data.toList) := by
      have h2 := congrArg (fun l => l[0]?) ht
      simpa using h2
    rw [← Array.getElem?_toList, this]

set_option maxRecDepth 100000 in
set_option maxHeartbeats 4000000 in
theorem crash_one (f bn bs ns : Nat) (S : DataW Unit) (l : List Chg) (limit used lost ops fuse fault fail : Int) (on : Bool) (ch : Value) (dir : Int) (ka : Option Addr) (kn kc : Nat) (kp : Int) (name : ByteArray) (g r L c s0 k : Nat) (w : World)
    (h : w.heap[f]? = some (.cells (fsCells limit (.map (some bn)) (.map (some bs)) ch used lost on ops fuse fault fail) 57 (0, 0))) (hd : Dir w bs ns S) (hl : Chs w ch l) (hlen : l.length ≤ 1000000) (hns : ns ≤ 1000000) (hnm : ∀ x ∈ l, x.went.size ≤ maxLen ∧ x.became.size ≤ maxLen)
    (d1 : dir ≤ 9223372036854775807) (d2 : -9223372036854775808 ≤ dir) (hk : (k : Int) = max dir 0 % ((l.length : Int) + 1)) (hone : (l.take k).foldl applyD S = oneD name g) (hname : name.size ≤ maxLen)
    (hkeep : (kn = 0 ∧ kp = 0) ∨ (0 < kn ∧ ∃ q o, ka = some ⟨q, o, none⟩ ∧ w.cell? ⟨q, o, none⟩ = some (.int .i64 kp) ∧ q ≠ f ∧ q ≠ bs)) (p1 : kp ≤ 9223372036854775807) (p2 : -9223372036854775808 ≤ kp)
    (hg : w.heap[g]? = some (.cells #[.slice (some ⟨r, 0, none⟩) L c, .int .i64 (s0 : Nat)] 70 (0, 0))) (h1 : s0 ≤ L) (h2 : L ≤ c) (h3 : L ≤ 1073741824) :
    Calls Try.prog 11 #[.pointer (some ⟨f, 0, none⟩), .int .i64 dir, .slice ka kn kc] w fun e w' => e = .returned (.int .i64 0) ∧ ∃ (bn' ns' N : Nat), (N : Int) = s0 + max kp 0 % ((L : Int) - s0 + 1) ∧ N ≤ L ∧ w'.heap[g]? = some (.cells #[.slice (some ⟨r, 0, none⟩) N c, .int .i64 (N : Nat)] 70 (0, 0)) ∧
      w'.heap[f]? = some (.cells (fsCells limit (.map (some bn')) (.map (some bs)) (.slice none 0 0) N 0 true ops (-1) (-1) fail) 57 (0, 0)) ∧ Dir w' bn' ns' (oneD name g) ∧ Dir w' bs ns' (oneD name g) ∧ w.heap.size ≤ bn' ∧ Turns (fun j => j = f ∨ j = bs ∨ j = g) w w' := by
  have hfb : f ≠ bs := hd.ne_cells h
  have hgb : g ≠ bs := hd.ne_cells hg
  have hgf : g ≠ f := fun e => by rw [e, h] at hg; cases hg
  have hkl : k ≤ l.length := by
    have := Int.emod_lt_of_pos (max dir 0) (show (0 : Int) < (l.length : Int) + 1 by omega)
    omega
  obtain ⟨ca, cc, rfl⟩ := hl.len
  have c1 : w.cell? ⟨f, 1, none⟩ = some (.map (some bn)) := cell_of_row w f 1 _ 57 (0, 0) h
  have c3 : w.cell? ⟨f, 3, none⟩ = some (.slice ca l.length cc) := cell_of_row w f 3 _ 57 (0, 0) h
  have H := hide h
  have HD := hide hd
  have HL := hide hl
  have HNM := hide hnm
  have HK := hide hk
  have HO := hide hone
  have HKP := hide hkeep
  have HG := hide hg
  have hfw := lt_of_heap h
  clear h hd hl hnm hk hone hkeep hg
  generalize hll : l.length = ll at *
  go_enter Try.func11, Try.ntmps11
  go_wp2_with fail
  refine (made_yes f bn _ c1).mono ?_
  rintro e w1 ⟨rfl, rfl⟩
  go_wp2_with fail
  refine (within_any dir (ll : Nat) _ (by omega) (by omega) d1 d2).mono ?_
  rintro e w2 ⟨rfl, rfl⟩
  rw [← HK.out]
  go_wp2_with fail
  refine (settle_any f bs ns k S l limit used lost ops fuse fault fail on (.map (some bn)) _ _ H.out HD.out HL.out (by omega) (by omega) (by omega) HNM.out).mono ?_
  rintro e w3 ⟨⟨v3, rfl⟩, s1, s2, s3⟩
  rw [HO.out] at s2
  have S1 := hide s1
  have S2 := hide s2
  have S3 := hide s3
  have e2 : w3.cell? ⟨f, 2, none⟩ = some (.map (some bs)) := cell_of_row w3 f 2 _ 57 (0, 0) s1
  clear s1 s2 s3 c1 c3
  go_wp2_with fail
  refine (mapclone_any bs (ns + k) (oneD name g) _ S2.out).mono ?_
  rintro e w4 ⟨rfl, m1, m2⟩
  have A1 := hide (m2.heap S1.out (fun x => x))
  have A2 := hide (S2.out.keep m2 (fun x => x))
  have A3 := hide m1
  have A4 := hide (S3.out.andThen m2 (fun _ _ x => x.elim))
  have hbn : w2.heap.size ≤ w3.heap.size := S3.out.size
  have hbf : w3.heap.size ≠ f := by omega
  have hbb : w3.heap.size ≠ bs := fun e => by have := HD.out.lt; omega
  have hsz4 : w3.heap.size < w4.heap.size := A3.out.lt
  have z1 : w4.frozen? ⟨f, 1, none⟩ = false := frozen_of_row w4 f 1 _ 57 A1.out
  have z4 : w4.frozen? ⟨f, 4, none⟩ = false := frozen_of_row w4 f 4 _ 57 A1.out
  have z5 : w4.frozen? ⟨f, 5, none⟩ = false := frozen_of_row w4 f 5 _ 57 A1.out
  have y1 : w4.cell? ⟨f, 1, none⟩ = some (.map (some bn)) := cell_of_row w4 f 1 _ 57 (0, 0) A1.out
  have y4 : w4.cell? ⟨f, 4, none⟩ = some (.int .i64 used) := cell_of_row w4 f 4 _ 57 (0, 0) A1.out
  have y5 : w4.cell? ⟨f, 5, none⟩ = some (.int .i64 lost) := cell_of_row w4 f 5 _ 57 (0, 0) A1.out
  clear m1 m2 e2
  generalize hbn' : w3.heap.size = bn' at *
  go_wp2_with fail
  have t5 := (((Tick.refl A1.out).set 1 (.map (some bn'))).set 4 (.int .i64 0)).set 5 (.int .i64 0)
  have u5 := Turns.of_tick t5
  have T5 : Hid ((((w4.setCell ⟨f, 1, none⟩ (.map (some bn'))).setCell ⟨f, 4, none⟩ (.int .i64 0)).setCell ⟨f, 5, none⟩ (.int .i64 0)).heap[f]? = some (.cells (fsCells limit (.map (some bn')) (.map (some bs)) (.slice none 0 0) 0 0 on ops fuse fault fail) 57 (0, 0))) := t5.1
  have D5 := hide (A3.out.keep u5 hbf)
  have E5 := hide (A2.out.keep u5 (fun e => hfb e.symm))
  have U5 := hide (A4.out.trans (u5.mono fun _ _ e => .inl e))
  clear t5 u5 z1 z4 z5 y1 y4 y5 A1 A2 A3 A4 S1 S2 S3
  generalize ((w4.setCell ⟨f, 1, none⟩ (.map (some bn'))).setCell ⟨f, 4, none⟩ (.int .i64 0)).setCell ⟨f, 5, none⟩ (.int .i64 0) = w5 at *
  refine (rising_any bn' (ns + k) (oneD name g) _ D5.out (by omega)).mono ?_
  rintro e w6 ⟨v, ss, rfl, r1, r2, r3, r4⟩
  obtain ⟨q, qc, rfl, hqc, hqn, hqB⟩ := names_one r1 r2
  have t6 : Turns (fun _ => False) w5 w6 := Turns.of_below r4 _
  have F6 := hide (t6.heap T5.out (fun x => x))
  have D6 := hide (D5.out.keep t6 (fun x => x))
  have E6 := hide (E5.out.keep t6 (fun x => x))
  have U6 := hide (U5.out.andThen t6 (fun _ _ x => x.elim))
  have G6 := hide (U6.out.heap HG.out (fun x => x.elim hgf hgb))
  have K6 : Hid ((kn = 0 ∧ kp = 0) ∨ (0 < kn ∧ ∃ q o, ka = some ⟨q, o, none⟩ ∧ w6.cell? ⟨q, o, none⟩ = some (.int .i64 kp))) := by
    rcases HKP.out with h | ⟨h, q, o, e1, e2, e3, e4⟩
    · exact .inl h
    · exact .inr ⟨h, q, o, e1, U6.out.cell e2 (fun x => x.elim e3 e4)⟩
  have hqf : q ≠ f := by have := U5.out.size; omega
  clear r1 r2 r3 r4 t6 T5 D5 E5 U5
  go_wp2_with fail
  go_loopw [43] (fun iv wr => (iv = .int .i64 0 ∧ wr = w6) ∨ (iv = .int .i64 1 ∧ ∃ N : Nat, (N : Int) = s0 + max kp 0 % ((L : Int) - s0 + 1) ∧ N ≤ L ∧ wr.heap[g]? = some (.cells #[.slice (some ⟨r, 0, none⟩) N c, .int .i64 (N : Nat)] 70 (0, 0)) ∧
    wr.heap[f]? = some (.cells (fsCells limit (.map (some bn')) (.map (some bs)) (.slice none 0 0) N 0 on ops fuse fault fail) 57 (0, 0)) ∧ Dir wr bn' (ns + k) (oneD name g) ∧ Dir wr bs (ns + k) (oneD name g) ∧ Turns (fun j => j = f ∨ j = bs ∨ j = g) w2 wr)) (fun iv _ => 2 - (intOf iv).toNat)
  case atStart => exact .inl ⟨rfl, rfl⟩
  case round =>
    rcases hrel with ⟨rfl, rfl⟩ | ⟨rfl, N, n1, n2, n3, n4, n5, n6, n7⟩
    · have b1 : wr.cell? ⟨f, 1, none⟩ = some (.map (some bn')) := cell_of_row wr f 1 _ 57 (0, 0) F6.out
      have hlk := D6.out.look' name hname
      rw [oneD_file] at hlk
      simp only [ptrOf] at hlk
      have HLK := hide hlk
      clear hlk
      rcases K6.out with ⟨rfl, rfl⟩ | ⟨hkn, q', o', rfl, hkc⟩
      · have hlk := HLK.out
        go_wp2_with fail
        refine (fcrash_any g L c s0 r 0 wr G6.out h1 h2 h3 p1 p2).mono ?_
        rintro e w7 ⟨⟨v7, rfl⟩, N, n1, n2, n3, t7⟩
        have F7 := hide (t7.heap F6.out (fun e => hgf e.symm))
        have D7 := hide (D6.out.keep t7 (fun e => D6.out.ne_cells G6.out e.symm))
        have E7 := hide (E6.out.keep t7 (fun e => hgb e.symm))
        have U7 : Hid (Turns (fun j => j = f ∨ j = bs ∨ j = g) w2 w7) := (U6.out.mono fun j _ x => x.elim Or.inl (fun y => Or.inr (Or.inl y))).trans (t7.mono fun _ _ e => Or.inr (Or.inr e))
        have x0 : w7.cell? ⟨g, 0, none⟩ = some (.slice (some ⟨r, 0, none⟩) N c) := cell_of_row w7 g 0 _ 70 (0, 0) n3
        have x4 : w7.cell? ⟨f, 4, none⟩ = some (.int .i64 0) := cell_of_row w7 f 4 _ 57 (0, 0) F7.out
        have z4 : w7.frozen? ⟨f, 4, none⟩ = false := frozen_of_row w7 f 4 _ 57 F7.out
        have N1 := hide n1
        have N3 := hide n3
        clear n1 n3 t7 b1 hlk HLK
        have t8 := ((Tick.refl F7.out).set 4 (.int .i64 (N : Nat))).drew
        have u8 := Turns.of_tick t8
        have FIN : Hid ((N : Int) = s0 + max 0 0 % ((L : Int) - s0 + 1) ∧ N ≤ L ∧ (w7.setCell ⟨f, 4, none⟩ (.int .i64 (N : Nat))).drew.heap[g]? = some (.cells #[.slice (some ⟨r, 0, none⟩) N c, .int .i64 (N : Nat)] 70 (0, 0)) ∧ (w7.setCell ⟨f, 4, none⟩ (.int .i64 (N : Nat))).drew.heap[f]? = some (.cells (fsCells limit (.map (some bn')) (.map (some bs)) (.slice none 0 0) N 0 on ops fuse fault fail) 57 (0, 0)) ∧ Dir (w7.setCell ⟨f, 4, none⟩ (.int .i64 (N : Nat))).drew bn' (ns + k) (oneD name g) ∧ Dir (w7.setCell ⟨f, 4, none⟩ (.int .i64 (N : Nat))).drew bs (ns + k) (oneD name g) ∧ Turns (fun j => j = f ∨ j = bs ∨ j = g) w2 (w7.setCell ⟨f, 4, none⟩ (.int .i64 (N : Nat))).drew) :=
          ⟨N1.out, n2, u8.heap N3.out hgf, t8.1, D7.out.keep u8 hbf, E7.out.keep u8 (fun e => hfb e.symm), U7.out.trans (u8.mono fun _ _ e => .inl e)⟩
        clear t8 u8
        go_wp2_with fail
        go_region_with (fail)
        all_goals go_wp2_with fail
        all_goals exact ⟨Or.inr ⟨by go_num, N, FIN.out⟩, by simp [intOf]⟩
      · have hlk := HLK.out
        have i1 : (0 : Int) < (kn : Int) := by omega
        go_wp2_with fail
        refine (fcrash_any g L c s0 r kp wr G6.out h1 h2 h3 p1 p2).mono ?_
        rintro e w7 ⟨⟨v7, rfl⟩, N, n1, n2, n3, t7⟩
        have F7 := hide (t7.heap F6.out (fun e => hgf e.symm))
        have D7 := hide (D6.out.keep t7 (fun e => D6.out.ne_cells G6.out e.symm))
        have E7 := hide (E6.out.keep t7 (fun e => hgb e.symm))
        have U7 : Hid (Turns (fun j => j = f ∨ j = bs ∨ j = g) w2 w7) := (U6.out.mono fun j _ x => x.elim Or.inl (fun y => Or.inr (Or.inl y))).trans (t7.mono fun _ _ e => Or.inr (Or.inr e))
        have x0 : w7.cell? ⟨g, 0, none⟩ = some (.slice (some ⟨r, 0, none⟩) N c) := cell_of_row w7 g 0 _ 70 (0, 0) n3
        have x4 : w7.cell? ⟨f, 4, none⟩ = some (.int .i64 0) := cell_of_row w7 f 4 _ 57 (0, 0) F7.out
        have z4 : w7.frozen? ⟨f, 4, none⟩ = false := frozen_of_row w7 f 4 _ 57 F7.out
        have N1 := hide n1
        have N3 := hide n3
        clear n1 n3 t7 b1 hlk HLK
        have t8 := ((Tick.refl F7.out).set 4 (.int .i64 (N : Nat))).drew
        have u8 := Turns.of_tick t8
        have FIN : Hid ((N : Int) = s0 + max kp 0 % ((L : Int) - s0 + 1) ∧ N ≤ L ∧ (w7.setCell ⟨f, 4, none⟩ (.int .i64 (N : Nat))).drew.heap[g]? = some (.cells #[.slice (some ⟨r, 0, none⟩) N c, .int .i64 (N : Nat)] 70 (0, 0)) ∧ (w7.setCell ⟨f, 4, none⟩ (.int .i64 (N : Nat))).drew.heap[f]? = some (.cells (fsCells limit (.map (some bn')) (.map (some bs)) (.slice none 0 0) N 0 on ops fuse fault fail) 57 (0, 0)) ∧ Dir (w7.setCell ⟨f, 4, none⟩ (.int .i64 (N : Nat))).drew bn' (ns + k) (oneD name g) ∧ Dir (w7.setCell ⟨f, 4, none⟩ (.int .i64 (N : Nat))).drew bs (ns + k) (oneD name g) ∧ Turns (fun j => j = f ∨ j = bs ∨ j = g) w2 (w7.setCell ⟨f, 4, none⟩ (.int .i64 (N : Nat))).drew) :=
          ⟨N1.out, n2, u8.heap N3.out hgf, t8.1, D7.out.keep u8 hbf, E7.out.keep u8 (fun e => hfb e.symm), U7.out.trans (u8.mono fun _ _ e => .inl e)⟩
        clear t8 u8
        go_wp2_with fail
        go_region_with (fail)
        all_goals go_wp2_with fail
        all_goals exact ⟨Or.inr ⟨by go_num, N, FIN.out⟩, by simp [intOf]⟩
    · have N1 := hide n1
      have N3 := hide n3
      have N4 := hide n4
      have N5 := hide n5
      have N6 := hide n6
      have N7 := hide n7
      have z6 : wr.frozen? ⟨f, 6, none⟩ = false := frozen_of_row wr f 6 _ 57 n4
      have z8 : wr.frozen? ⟨f, 8, none⟩ = false := frozen_of_row wr f 8 _ 57 n4
      have z9 : wr.frozen? ⟨f, 9, none⟩ = false := frozen_of_row wr f 9 _ 57 n4
      have x6 : wr.cell? ⟨f, 6, none⟩ = some (.bool on) := cell_of_row wr f 6 _ 57 (0, 0) n4
      have x8 : wr.cell? ⟨f, 8, none⟩ = some (.int .i64 fuse) := cell_of_row wr f 8 _ 57 (0, 0) n4
      have x9 : wr.cell? ⟨f, 9, none⟩ = some (.int .i64 fault) := cell_of_row wr f 9 _ 57 (0, 0) n4
      clear n1 n3 n4 n5 n6 n7
      go_wp2_with fail
      go_ret
      have t9 := (((Tick.refl N4.out).set 6 (.bool true)).set 8 (.int .i64 (-1))).set 9 (.int .i64 (-1))
      have u9 := Turns.of_tick t9
      exact ⟨rfl, bn', ns + k, N, N1.out, n2, u9.heap N3.out hgf, t9.1, N5.out.keep u9 hbf, N6.out.keep u9 (fun e => hfb e.symm), hbn, N7.out.trans (u9.mono fun _ _ e => .inl e)⟩
end Go.Proofs.Ytefjljdgdoklmaa
