import Derived.Test.YtefjljdgdoklmaaM15
import Derived.Lib.SlBytesConst
import Derived.Laws.IdiomStrings
/-
  The chapter's first examples come out as it tells.
-/
namespace Go.Proofs.Ytefjljdgdoklmaa
open Go.RowKit Go.Maps

/-- Bytes in a new row. -/
theorem Bytes.new (w : World) (cs : Array Value) (t c : Nat) (fr : Nat × Nat) (bs : List (BitVec 8)) (h : cs = (bs.map fun b => Value.int .u8 (b.toNat : Int)).toArray) :
    Bytes (w.alloc (.cells cs t fr)) (.slice (some ⟨w.heap.size, 0, none⟩) bs.length c) bs :=
  ⟨_, c, rfl, fun k hk => ⟨w.heap.size, 0, rfl, by
    rw [Nat.zero_add, cell_of_row _ _ k cs t fr (heap_alloc_new w _), h]
    simp [hk]⟩⟩
theorem conv28 (C : Array Value) (n c : Nat) (w : World) : (convert 28 28 (.slice (some ⟨w.heap.size, 0, none⟩) n c)).run Try.prog (w.alloc (.cells C 5)) = .ok (.slice (some ⟨w.heap.size, 0, none⟩) n c) (w.alloc (.cells C 5 (C.size, C.size + 1))) :=
  Lib.run_convert_bytes_const w 28 5 C n c Try.underlying28 Try.underlying5
theorem One.keep {B : Nat} {w w' : World} {f g : Nat} {name : ByteArray} {l : List Chg} {S : DataW Unit} {bytes : List (BitVec 8)} {s0 : Nat} {limit used lost ops : Int} (h : One B w f g name l S bytes s0 limit used lost ops) (t : Turns (fun _ => False) w w') : One B w' f g name l S bytes s0 limit used lost ops := by
  obtain ⟨fB, gB, bn, bs, nn, ns, ch, fv, hf, hd, hs, hch, hg, hown, hne, b1, b2, b3, b4, m1, m2⟩ := h
  exact ⟨fB, gB, bn, bs, nn, ns, ch, fv, t.heap hf (fun x => x), hd.keep t (fun x => x), hs.keep t (fun x => x), hch.keep t (fun _ _ x => x), t.heap hg (fun x => x), hown.keep t (fun _ _ x => x), hne, b1, b2, b3, b4, m1, m2⟩
theorem One.lt {B : Nat} {w : World} {f g : Nat} {name : ByteArray} {l : List Chg} {S : DataW Unit} {bytes : List (BitVec 8)} {s0 : Nat} {limit used lost ops : Int} (h : One B w f g name l S bytes s0 limit used lost ops) : f < w.heap.size := by
  obtain ⟨fB, gB, bn, bs, nn, ns, ch, fv, hf, _⟩ := h
  exact lt_of_heap hf
def nA : ByteArray := ⟨#[97]⟩
def nB : ByteArray := ⟨#[98]⟩
theorem goodA : goodN nA = true := by decide +kernel
theorem other_file (g : Nat) : fileOf (one nA g) nB = none := by
  have : (one nA g).atKey (key nB) .nil = .nil := by
    simp [one, DataW.atKey, key, Lit.sameKey, nA, nB]
  unfold fileOf
  rw [this]

set_option maxRecDepth 100000 in
set_option maxHeartbeats 4000000 in
theorem lives_any (w : World) :
    Calls Try.prog 21 #[] w fun e w' => e = .returned (.bool true) ∧ Below w.heap.size w w' := by
  have hcv := conv28
  go_enter Try.func21, Try.ntmps21
  go_wp2_with fail
  refine (new_good 100 _ (by decide) (by decide)).mono ?_
  rintro e w1 ⟨rfl, n1, n2, n3, b1⟩
  have N1 := hide n1
  have N2 := hide n2
  have N3 := hide n3
  have B1 := hide b1
  clear n1 n2 n3 b1
  generalize hB : w.heap.size = B at *
  go_wp2_with fail
  refine (create_first B (B + 2) B (B + 1) 0 0 nA 100 0 _ N1.out N2.out N3.out (by omega) (by omega) (by omega) (by omega) (by have := B1.out.size; omega) (by decide) (by decide) (by decide) goodA (by decide)).mono ?_
  rintro e w2 ⟨rfl, g, o2, b2⟩
  have O2 := hide o2
  have B2 := hide (B1.out.trans b2)
  clear o2 b2 N1 N2 N3 B1
  go_wp2_with fail
  have hBw : B ≤ w2.heap.size := by have := B2.out.size; omega
  refine (syncdir_one B (B + 2) g nA [⟨⟨#[]⟩, nA, some g⟩] (.map []) (one nA g) [] 0 100 0 0 (0 + 1) _ O2.out (apply_first nA g) (by simp) (by intro x hx; simp at hx; subst hx; exact ⟨by show (⟨#[]⟩ : ByteArray).size ≤ maxLen; decide, by show nA.size ≤ maxLen; decide⟩) (by decide) (by decide) hBw (by decide)).mono ?_
  rintro e w3 ⟨rfl, o3, b3⟩
  have O3 := hide o3
  have B3 := hide (B2.out.trans b3)
  clear o3 b3 O2 B2 hBw
  go_wp2_with fail
  have t4 : Turns (fun _ => False) w3 (w3.alloc (.cells #[.int .u8 120, .int .u8 121] 5 (2, 3))) := (Turns.refl _ w3).alloc _
  have v4 := Bytes.new w3 #[.int .u8 120, .int .u8 121] 5 2 (2, 3) [120#8, 121#8] rfl
  have B4 := hide (B3.out.trans (t4.below (B := B) (by have := B3.out.size; omega) (fun _ x => x.elim)))
  have hBw : B ≤ (w3.alloc (.cells #[.int .u8 120, .int .u8 121] 5 (2, 3))).heap.size := by have := B4.out.size; omega
  refine (append_one B (B + 2) g nA [] (one nA g) [] [120#8, 121#8] 0 100 0 0 (0 + 1 + 1) _ 2 2 _ (O3.out.keep t4) v4 (by decide) (by decide) (by decide) (by decide) (by decide) hBw goodA (by decide) (fun q o e => by have := O3.out.lt; cases e; omega)).mono ?_
  rintro e w5 ⟨rfl, o5, b5⟩
  have O5 := hide o5
  have B5 := hide (B4.out.trans b5)
  clear o5 b5 O3 B3 B4 t4 v4 hBw
  go_wp2_with fail
  refine (sync_one B (B + 2) g nA [] (one nA g) _ 0 100 _ 0 _ _ O5.out (by decide) (by have := B5.out.size; omega) goodA (by decide)).mono ?_
  rintro e w6 ⟨rfl, o6, b6⟩
  have O6 := hide o6
  have B6 := hide (B5.out.trans b6)
  clear o6 b6 O5 B5
  go_wp2_with fail
  have t7 : Turns (fun _ => False) w6 (w6.alloc (.cells #[.int .u8 122] 5 (1, 2))) := (Turns.refl _ w6).alloc _
  have v7 := Bytes.new w6 #[.int .u8 122] 5 1 (1, 2) [122#8] rfl
  have B7 := hide (B6.out.trans (t7.below (B := B) (by have := B6.out.size; omega) (fun _ x => x.elim)))
  refine (append_one B (B + 2) g nA [] (one nA g) _ [122#8] _ 100 _ 0 _ _ 1 1 _ (O6.out.keep t7) v7 (by decide) (by decide) (by decide) (by decide) (by decide) (by have := B7.out.size; omega) goodA (by decide) (fun q o e => by have := O6.out.lt; cases e; omega)).mono ?_
  rintro e w8 ⟨rfl, o8, b8⟩
  have O8 := hide o8
  have B8 := hide (B7.out.trans b8)
  clear o8 b8 O6 B6 B7 t7 v7
  go_wp2_with fail
  have t9 : Turns (fun _ => False) w8 (w8.alloc (.cells #[.int .i64 1] 3)) := (Turns.refl _ w8).alloc _
  have k9 := heap_alloc_new w8 (.cells #[.int .i64 1] 3)
  have B9 := hide (B8.out.trans (t9.below (B := B) (by have := B8.out.size; omega) (fun _ x => x.elim)))
  refine (crash_here B (B + 2) g nA [] (one nA g) _ _ 0 100 _ 0 _ 0 1 _ 1 1 _ (O8.out.keep t9) (by have := B9.out.size; omega) (by decide) (by decide) (by intro x hx; simp at hx) (by decide) (by decide) (by decide) rfl (.inr ⟨by decide, w8.heap.size, 0, rfl, cell_of_row _ _ 0 _ 3 (0, 0) k9, .inr ⟨_, k9⟩⟩) (by decide) (by decide) (by decide) (by decide) (by decide)).mono ?_
  rintro e w10 ⟨rfl, N, hN, hN2, o10, b10⟩
  have hN3 : N = 3 := by
    have e1 : (([] ++ [120#8, 121#8] ++ [122#8] : List (BitVec 8)).length) = 3 := rfl
    have e2 : (([] ++ [120#8, 121#8] : List (BitVec 8)).length) = 2 := rfl
    rw [e1, e2] at hN
    have e3 : (max (1 : Int) 0 % (((3 : Nat) : Int) - ((2 : Nat) : Int) + 1)) = 1 := by decide
    rw [e3] at hN
    omega
  subst hN3
  have O10 := hide o10
  have B10 := hide (B9.out.trans b10)
  clear o10 b10 O8 B8 B9 t9 k9 hN hN2
  go_wp2_with fail
  refine (read_here B (B + 2) g nA [] (one nA g) _ _ 0 9 100 _ 0 _ _ O10.out (by decide) (by have := B10.out.size; omega) goodA (by decide) (by decide) (by decide) (by decide)).mono ?_
  rintro e w11 ⟨q, m, c, rfl, hm, hr, hq, o11, b11⟩
  have hm3 : m = 3 := hm
  subst hm3
  have O11 := hide o11
  have B11 := hide (B10.out.trans b11)
  have hb7 : Bytes w11 (.slice (some ⟨q, 0, none⟩) 3 c) [120#8, 121#8, 122#8] := RowB.bytes hr rfl
  have k0 : w11.cell? ⟨q, 0, none⟩ = some (.int .u8 120) := hb7.at 0 (by decide)
  have k1 : w11.cell? ⟨q, 1, none⟩ = some (.int .u8 121) := by have := hb7.at 1 (by decide); simpa using this
  have k2 : w11.cell? ⟨q, 2, none⟩ = some (.int .u8 122) := by have := hb7.at 2 (by decide); simpa using this
  have hcs : (convert 28 9 (.slice (some ⟨q, 0, none⟩) 3 c)).run Try.prog w11 = .ok (.string ⟨#[120, 121, 122]⟩) w11 :=
    run_convert_bytes_back (P := Try.prog) w11 28 9 5 ⟨q, 0, none⟩ c [120, 121, 122] Try.underlying28 Try.underlying5 Try.underlying9 (fun j hj => by
      have : j = 0 ∨ j = 1 ∨ j = 2 := by simp at hj; omega
      rw [Go.WideShapes.add_plain, Nat.zero_add]
      rcases this with rfl | rfl | rfl
      · exact k0
      · exact k1
      · exact k2)
  clear hm hr o11 b11 O10 B10 hb7 k0 k1 k2
  go_wp2_with fail
  obtain ⟨bn, nn, hmap, hdir⟩ : ∃ bn nn, w11.cell? ⟨B + 2, 1, none⟩ = some (.map (some bn)) ∧ Dir w11 bn nn (one nA g) := by
    obtain ⟨_, _, bn, bs, nn, ns, ch, fv, hf, hd, _⟩ := O11.out
    exact ⟨bn, nn, cell_of_row w11 (B + 2) 1 _ 57 (0, 0) hf, hd⟩
  refine (size_none (B + 2) bn nn (one nA g) nB w11 hmap hdir (by decide) (other_file g)).mono ?_
  rintro e w12 ⟨rfl, rfl⟩
  clear hmap hdir
  go_wp2_with fail
  refine (create_there B (B + 2) g nA _ _ _ _ 100 _ _ _ _ O11.out (by decide) (by have := B11.out.size; omega) goodA (by decide)).mono ?_
  rintro e w13 ⟨rfl, b13⟩
  have B13 := hide (B11.out.trans b13)
  clear b13
  go_wp2_with fail
  go_ret
  exact ⟨rfl, by rw [hB]; exact B13.out⟩
end Go.Proofs.Ytefjljdgdoklmaa
