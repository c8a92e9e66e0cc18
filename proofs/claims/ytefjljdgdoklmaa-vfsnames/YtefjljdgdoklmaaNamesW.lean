/-
  The chapter's examples come out as it tells: the whole of the law.
-/
import Derived.Test.YtefjljdgdoklmaaOnf
import Derived.Test.YtefjljdgdoklmaaStr
import Derived.Test.YtefjljdgdoklmaaLiv
namespace Go.Proofs.Ytefjljdgdoklmaa
open Go.RowKit Go.Maps

theorem goodB' : goodN nB = true := by decide +kernel
theorem sizeA : nA.size ≤ maxLen := by decide
theorem sizeB : nB.size ≤ maxLen := by decide
theorem empty_size : (⟨#[]⟩ : ByteArray).size ≤ maxLen := by decide
theorem chgA (g : Nat) : ∀ x ∈ [(⟨⟨#[]⟩, nA, some g⟩ : Chg)], x.went.size ≤ maxLen ∧ x.became.size ≤ maxLen := by
  intro x hx
  simp at hx
  subst hx
  exact ⟨empty_size, sizeA⟩
theorem chgAB (g : Nat) : ∀ x ∈ [(⟨nA, nB, some g⟩ : Chg)], x.went.size ≤ maxLen ∧ x.became.size ≤ maxLen := by
  intro x hx
  simp at hx
  subst hx
  exact ⟨sizeA, sizeB⟩
theorem neAB : nA ≠ nB := by decide
def xy : List (BitVec 8) := [120#8, 121#8]
theorem leftA (limit : Int) (g : Nat) (bytes : List (BitVec 8)) (s : Nat) (used lost ops : Int) : (oneDisk limit g nA [⟨⟨#[]⟩, nA, some g⟩] (.map []) bytes s used lost ops).left 0 = .map [] := rfl
theorem leftAB (F : Nat → Option Fil) (limit : Int) (g : Nat) (bytes : List (BitVec 8)) (s : Nat) (used lost : Int) (on : Bool) (ops fuse fault fail : Int) : (oneF F limit g nB [⟨nA, nB, some g⟩] (one nA g) bytes s used lost on ops fuse fault fail).left 1 = one nB g := apply_rename nA nB g
theorem leftB (F : Nat → Option Fil) (limit : Int) (g : Nat) (bytes : List (BitVec 8)) (s : Nat) (used lost : Int) (on : Bool) (ops fuse fault fail : Int) : (oneF F limit g nB [] (one nB g) bytes s used lost on ops fuse fault fail).left 0 = one nB g := rfl
theorem sizeOne (n : ByteArray) (g : Nat) : Maps.size (one n g) ≤ 100 := by show 1 ≤ 100; decide

/-- A crash that leaves no name. -/
theorem crash_Z (B f g : Nat) (name : ByteArray) (l : List Chg) (S : DataW Unit) (bytes : List (BitVec 8)) (s : Nat) (limit used lost ops : Int) (w : World) (h : Rep (From B) w f (oneDisk limit g name l S bytes s used lost ops)) (hB : B ≤ w.heap.size) (hn : Num (oneDisk limit g name l S bytes s used lost ops)) (hone : (oneDisk limit g name l S bytes s used lost ops).left 0 = .map []) :
    Calls Try.prog 11 #[.pointer (some ⟨f, 0, none⟩), .int .i64 0, .slice none 0 0] w fun e w' => e = .returned (.int .i64 0) ∧ (∃ F, Small F ∧ Rep (From B) w' f (zeroF F limit ops)) ∧ Below B w w' := by
  refine (crash_rep _ f _ 0 none 0 0 [] w h hn (by decide) (by decide) (ints_none w) (fun z hz => by cases hz) (fun q o e => by cases e)).mono ?_
  rintro e w' ⟨rfl, hr, ht⟩
  refine ⟨rfl, ⟨(oneDisk limit g name l S bytes s used lost ops).files, hn.bytes, ?_⟩, ht.from hB⟩
  have hd : (oneDisk limit g name l S bytes s used lost ops).crashed 0 [] = zeroF (oneDisk limit g name l S bytes s used lost ops).files limit ops := by
    unfold Disk.crashed
    rw [hone, namesOf_none]
    rfl
  rw [← hd]
  exact hr.from hB

set_option maxRecDepth 100000 in
set_option maxHeartbeats 8000000 in
theorem vnames_any (w : World) :
    Calls Try.prog 3 #[] w fun e w' => e = .returned (.bool true) ∧ Below w.heap.size w w' := by
  have hcv := conv28
  go_enter Try.func3, Try.ntmps3
  go_wp2_with fail
  refine (new_rep 100 _ (by decide) (by decide)).mono ?_
  rintro e w1 ⟨rfl, r1, b1⟩
  have R1 := hide r1
  have B1 := hide b1
  have hB1 := b1.size
  clear r1 b1
  generalize hBB : w.heap.size = B at *
  go_wp2_with fail
  refine (create_1 B (B + 2) nA 100 0 _ R1.out (by omega) (by decide) (by decide) goodA sizeA).mono ?_
  rintro e w2 ⟨rfl, g, r2, b2⟩
  have R2 := hide r2
  have B2 := hide (B1.out.trans b2)
  have hB2 := B2.out.size
  clear r2 b2 R1 B1
  go_wp2_with fail
  have t3 : Turns (fun _ => False) w2 (w2.alloc (.cells #[.int .u8 120, .int .u8 121] 5 (2, 3))) := (Turns.refl _ w2).alloc _
  have v3 := Bytes.new w2 #[.int .u8 120, .int .u8 121] 5 2 (2, 3) xy rfl
  have hF2 := R2.out.lt
  have R3 := hide (R2.out.quiet t3)
  have B3 := hide (B2.out.trans (t3.below (B := B) (by omega) (fun _ x => x.elim)))
  have hB3 := B3.out.size
  refine (append_1 B (B + 2) g nA [⟨⟨#[]⟩, nA, some g⟩] (.map []) [] 0 100 0 0 (0 + 1) _ R3.out (by omega) (one_num _ _ _ _ _ _ _ _ _ _ (by decide) (by decide) (by decide) (by decide) (by simp) (chgA g) (by decide)) _ 2 _ xy v3 (fun q o e => by cases e; omega) (by decide) goodA sizeA).mono ?_
  rintro e w4 ⟨rfl, r4, b4⟩
  have R4 := hide r4
  have B4 := hide (B3.out.trans b4)
  have hB4 := B4.out.size
  clear r4 b4 R3 B3 R2 B2 t3 v3
  go_wp2_with fail
  refine (crash_Z B (B + 2) g nA [⟨⟨#[]⟩, nA, some g⟩] (.map []) ([] ++ xy) 0 100 (0 + xy.length) 0 (0 + 1 + 1) _ R4.out (by omega) (one_num _ _ _ _ _ _ _ _ _ _ (by decide) (by decide) (by decide) (by decide) (by simp) (chgA g) (by decide)) (leftA _ _ _ _ _ _ _)).mono ?_
  rintro e w5 ⟨rfl, ⟨F, hF, r5⟩, b5⟩
  have R5 := hide r5
  have B5 := hide (B4.out.trans b5)
  have hB5 := B5.out.size
  clear r5 b5 R4 B4
  go_wp2_with fail
  refine (names_rep _ _ _ _ R5.out (by show 0 ≤ 1000000; decide)).mono ?_
  rintro e w6 ⟨va, vc, rfl, _, b6⟩
  rw [show (namesOf (zeroF F 100 (0 + 1 + 1)).names).length = 0 by rw [show (zeroF F 100 (0 + 1 + 1)).names = .map [] from rfl, namesOf_none]; rfl]
  have R6 := hide (R5.out.quiet (Turns.of_below b6 _))
  have B6 := hide (then_below B5.out b6 (by omega))
  have hB6 := B6.out.size
  clear b6 R5 B5
  go_wp2_with fail
  refine (create_F B (B + 2) F hF nA 100 (0 + 1 + 1) _ R6.out (by omega) (by decide) (by decide) goodA sizeA).mono ?_
  rintro e w7 ⟨rfl, g2, r7, b7⟩
  have R7 := hide r7
  have B7 := hide (B6.out.trans b7)
  have hB7 := B7.out.size
  clear r7 b7 R6 B6
  go_wp2_with fail
  refine (syncdir_F B (B + 2) g2 F nA [⟨⟨#[]⟩, nA, some g2⟩] (.map []) [] 0 100 0 0 (0 + 1 + 1 + 1) (-1) (-1) 0 _ R7.out (by omega) (oneF_num F hF _ _ _ _ _ _ _ _ _ _ _ _ _ _ (by decide) (by decide) (by decide) (by decide) (by decide) (by decide) (by simp) (chgA g2) (by decide)) (by decide) (by decide)).mono ?_
  rintro e w8 ⟨rfl, r8, b8⟩
  rw [show List.foldl applyD (DataW.map []) [(⟨⟨#[]⟩, nA, some g2⟩ : Chg)] = one nA g2 from apply_first nA g2] at r8
  have R8 := hide r8
  have B8 := hide (B7.out.trans b8)
  have hB8 := B8.out.size
  clear r8 b8 R7 B7
  go_wp2_with fail
  have t9 : Turns (fun _ => False) w8 (w8.alloc (.cells #[.int .u8 120, .int .u8 121] 5 (2, 3))) := (Turns.refl _ w8).alloc _
  have v9 := Bytes.new w8 #[.int .u8 120, .int .u8 121] 5 2 (2, 3) xy rfl
  have hF8 := R8.out.lt
  have R9 := hide (R8.out.quiet t9)
  have B9 := hide (B8.out.trans (t9.below (B := B) (by omega) (fun _ x => x.elim)))
  have hB9 := B9.out.size
  refine (append_F B (B + 2) g2 F nA [] (one nA g2) [] 0 100 (0 - 0) 0 (0 + 1 + 1 + 1 + 1) (tick (-1)) (tick (-1)) 0 _ R9.out (by omega) (oneF_num F hF _ _ _ _ _ _ _ _ _ _ _ _ _ _ (by decide) (by decide) (by decide) (by decide) (by decide) (by decide) (by simp) (by simp) (sizeOne _ _)) (by decide) (by decide) _ 2 _ xy v9 (fun q o e => by cases e; omega) (by decide) goodA sizeA).mono ?_
  rintro e w10 ⟨rfl, r10, b10⟩
  have R10 := hide r10
  have B10 := hide (B9.out.trans b10)
  have hB10 := B10.out.size
  clear r10 b10 R9 B9 R8 B8 t9 v9
  go_wp2_with fail
  refine (sync_F B (B + 2) g2 F nA [] (one nA g2) ([] ++ xy) 0 100 _ 0 _ _ _ 0 _ R10.out (by omega) (oneF_num F hF _ _ _ _ _ _ _ _ _ _ _ _ _ _ (by decide) (by decide) (by decide) (by decide) (by decide) (by decide) (by simp) (by simp) (sizeOne _ _)) (by decide) (by decide) goodA sizeA).mono ?_
  rintro e w11 ⟨rfl, r11, b11⟩
  have R11 := hide r11
  have B11 := hide (B10.out.trans b11)
  have hB11 := B11.out.size
  clear r11 b11 R10 B10
  go_wp2_with fail
  refine (rename_F B (B + 2) g2 F nA [] (one nA g2) ([] ++ xy) _ 100 _ 0 _ _ _ 0 _ R11.out (by omega) (oneF_num F hF _ _ _ _ _ _ _ _ _ _ _ _ _ _ (by decide) (by decide) (by decide) (by decide) (by decide) (by decide) (by simp) (by simp) (sizeOne _ _)) nB (by decide) (by decide) goodA goodB' sizeA sizeB neAB).mono ?_
  rintro e w12 ⟨rfl, r12, b12⟩
  have R12 := hide r12
  have B12 := hide (B11.out.trans b12)
  have hB12 := B12.out.size
  clear r12 b12 R11 B11
  go_wp2_with fail
  refine (crash_F B (B + 2) g2 F nB nB [⟨nA, nB, some g2⟩] (one nA g2) ([] ++ xy) _ 100 _ 0 true _ _ _ 0 1 _ R12.out (by omega) (oneF_num F hF _ _ _ _ _ _ _ _ _ _ _ _ _ _ (by decide) (by decide) (by decide) (by decide) (by decide) (by decide) (by simp) (chgAB g2) (sizeOne _ _)) (by decide) (by decide) (leftAB _ _ _ _ _ _ _ _ _ _ _ _) rfl).mono ?_
  rintro e w13 ⟨rfl, r13, b13⟩
  have R13 := hide r13
  have B13 := hide (B12.out.trans b13)
  have hB13 := B13.out.size
  clear r13 b13 R12 B12
  go_wp2_with fail
  refine (names_rep _ _ _ _ R13.out (by show 1 ≤ 1000000; decide)).mono ?_
  rintro e w14 ⟨va, vc, rfl, hn14, b14⟩
  have hnm : namesOf (one nB g2) = [nB] := namesOf_one nB g2
  have hn14' : ∀ j, j < (namesOf (one nB g2)).length → ∃ q, va = some ⟨q, 0, none⟩ ∧ w13.heap.size < q ∧ w14.cell? ⟨q, j, none⟩ = some (.string ((namesOf (one nB g2)).getD j ⟨#[]⟩)) := hn14
  rw [hnm] at hn14'
  obtain ⟨q14, rfl, hq14, hc14⟩ := hn14' 0 (by decide)
  have hlen : ∀ d : Disk, d.names = one nB g2 → (namesOf d.names).length = 1 := fun d hd => by rw [hd, hnm]; rfl
  rw [hlen _ rfl]
  have R14 := hide (R13.out.quiet (Turns.of_below b14 _))
  have B14 := hide (then_below B13.out b14 (by omega))
  have hB14 := B14.out.size
  have C14 := hide hc14
  clear b14 R13 B13 hn14 hn14' hnm hc14 hlen
  go_wp2_with fail
  have t15 : Turns (fun _ => False) w14 (w14.alloc (.cells #[.string nB] 9)) := (Turns.refl _ w14).alloc _
  have s1 : Strs (w14.alloc (.cells #[.string nB] 9)) (some ⟨q14, 0, none⟩) 1 [nB] := ⟨rfl, fun k hk => ⟨q14, 0, rfl, by
    obtain rfl : k = 0 := by omega
    exact t15.cell C14.out (fun x => x)⟩⟩
  have s2 : Strs (w14.alloc (.cells #[.string nB] 9)) (some ⟨w14.heap.size, 0, none⟩) 1 [nB] := ⟨rfl, fun k hk => ⟨w14.heap.size, 0, rfl, by
    obtain rfl : k = 0 := by omega
    exact cell_of_row _ _ 0 _ 9 (0, 0) (heap_alloc_new w14 _)⟩⟩
  have R15 := hide (R14.out.quiet t15)
  have B15 := hide (B14.out.trans (t15.below (B := B) (by omega) (fun _ x => x.elim)))
  have hB15 := B15.out.size
  refine (strings_same _ _ 1 _ _ [nB] _ s1 s2 (by decide)).mono ?_
  rintro e w16 ⟨rfl, m16, rfl⟩
  have R16 := hide (R15.out.quiet ((Turns.refl _ _).drewN m16))
  have B16 := hide (below_drewN B15.out m16)
  have hB16 := B16.out.size
  clear R14 B14 C14 t15 s1 s2 R15 B15
  generalize (w14.alloc (.cells #[.string nB] 9)).drewN m16 = w16 at *
  go_wp2_with fail
  refine (fuse_rep _ _ _ 1 _ R16.out).mono ?_
  rintro e w17 ⟨rfl, r17, t17⟩
  have R17 : Hid (Rep (From B) w17 (B + 2) (oneF F 100 g2 nB [] (one nB g2) ([] ++ xy) ([] ++ xy).length (([] ++ xy).length : Int) 0 true (0 + 1 + 1 + 1 + 1 + 1 + 1 + 1) 1 (-1) 0)) := r17
  have B17 := hide (B16.out.trans (t17.from (by omega)))
  have hB17 := B17.out.size
  clear r17 t17 R16 B16
  go_wp2_with fail
  refine (sync_F B (B + 2) g2 F nB [] (one nB g2) ([] ++ xy) _ 100 _ 0 _ _ _ 0 _ R17.out (by omega) (oneF_num F hF _ _ _ _ _ _ _ _ _ _ _ _ _ _ (by decide) (by decide) (by decide) (by decide) (by decide) (by decide) (by simp) (by simp) (sizeOne _ _)) (by decide) (by decide) goodB' sizeB).mono ?_
  rintro e w18 ⟨rfl, r18, b18⟩
  have R18 := hide r18
  have B18 := hide (B17.out.trans b18)
  have hB18 := B18.out.size
  clear r18 b18 R17 B17
  go_wp2_with fail
  refine (sync_off B (B + 2) g2 F nB [] (one nB g2) ([] ++ xy) _ 100 _ 0 _ _ _ 0 _ R18.out (by omega) (oneF_num F hF _ _ _ _ _ _ _ _ _ _ _ _ _ _ (by decide) (by decide) (by decide) (by decide) (by decide) (by decide) (by simp) (by simp) (sizeOne _ _)) (by decide) goodB' sizeB).mono ?_
  rintro e w19 ⟨rfl, r19, b19⟩
  have R19 := hide r19
  have B19 := hide (B18.out.trans b19)
  have hB19 := B19.out.size
  clear r19 b19 R18 B18
  go_wp2_with fail
  refine (on_rep _ _ _ _ R19.out).mono ?_
  rintro e w20 ⟨rfl, rfl⟩
  go_wp2_with fail
  refine (crash_F B (B + 2) g2 F nB nB [] (one nB g2) ([] ++ xy) _ 100 _ 0 false _ _ _ 0 0 _ R19.out (by omega) (oneF_num F hF _ _ _ _ _ _ _ _ _ _ _ _ _ _ (by decide) (by decide) (by decide) (by decide) (by decide) (by decide) (by simp) (by simp) (sizeOne _ _)) (by decide) (by decide) (leftB _ _ _ _ _ _ _ _ _ _ _ _) rfl).mono ?_
  rintro e w21 ⟨rfl, r21, b21⟩
  have R21 := hide r21
  have B21 := hide (B19.out.trans b21)
  have hB21 := B21.out.size
  clear r21 b21 R19 B19
  go_wp2_with fail
  refine (on_rep _ _ _ _ R21.out).mono ?_
  rintro e w22 ⟨rfl, rfl⟩
  go_wp2_with fail
  refine (fault_rep _ _ _ 0 8 _ R21.out (.inr rfl)).mono ?_
  rintro e w23 ⟨rfl, r23, t23⟩
  have R23 : Hid (Rep (From B) w23 (B + 2) (oneF F 100 g2 nB [] (one nB g2) ([] ++ xy) ([] ++ xy).length (([] ++ xy).length : Int) 0 true (0 + 1 + 1 + 1 + 1 + 1 + 1 + 1 + 1 + 1) (-1) 0 8)) := r23
  have B23 := hide (B21.out.trans (t23.from (by omega)))
  have hB23 := B23.out.size
  clear r23 t23 R21 B21
  go_wp2_with fail
  refine (read_fault B (B + 2) g2 F nB [] (one nB g2) ([] ++ xy) _ 100 _ 0 _ _ _ 8 _ R23.out (by omega) (oneF_num F hF _ _ _ _ _ _ _ _ _ _ _ _ _ _ (by decide) (by decide) (by decide) (by decide) (by decide) (by decide) (by simp) (by simp) (sizeOne _ _)) 9 (by decide) (by decide) goodB' sizeB (by decide) (by decide)).mono ?_
  rintro e w24 ⟨rfl, r24, b24⟩
  have R24 := hide r24
  have B24 := hide (B23.out.trans b24)
  have hB24 := B24.out.size
  clear r24 b24 R23 B23
  go_wp2_with fail
  refine (read_F B (B + 2) g2 F nB [] (one nB g2) ([] ++ xy) _ 100 _ 0 _ _ _ 8 _ R24.out (by omega) (oneF_num F hF _ _ _ _ _ _ _ _ _ _ _ _ _ _ (by decide) (by decide) (by decide) (by decide) (by decide) (by decide) (by simp) (by simp) (sizeOne _ _)) 9 (by decide) (by decide) goodB' sizeB (by decide) (by decide)).mono ?_
  rintro e w25 ⟨ga, gm, gc, rfl, o25, b25⟩
  have O25 : Hid (Bytes w25 (.slice ga gm gc) xy) := o25.bytes
  obtain rfl : gm = 2 := O25.out.len
  obtain ⟨gq, go, rfl⟩ := O25.out.addr (by decide)
  have B25 := hide (B24.out.trans b25)
  have hB25 := B25.out.size
  clear o25 b25 R24 B24
  go_wp2_with fail
  refine (new_bad (-1) _ (.inl (by decide))).mono ?_
  rintro e w26 ⟨rfl, rfl⟩
  go_wp2_with fail
  refine (lives_any _).mono ?_
  rintro e w27 ⟨rfl, b27⟩
  have O27 := hide (O25.out.below b27)
  have B27 := hide (then_below B25.out b27 (by omega))
  have k0 : w27.cell? ⟨gq, go + 0, none⟩ = some (.int .u8 120) := O27.out.at 0 (by decide)
  have k1 : w27.cell? ⟨gq, go + 1, none⟩ = some (.int .u8 121) := O27.out.at 1 (by decide)
  have hcs : (convert 28 9 (.slice (some ⟨gq, go, none⟩) 2 gc)).run Try.prog w27 = .ok (.string ⟨#[120, 121]⟩) w27 :=
    run_convert_bytes_back (P := Try.prog) w27 28 9 5 ⟨gq, go, none⟩ gc [120, 121] Try.underlying28 Try.underlying5 Try.underlying9 (fun j hj => by
      have : j = 0 ∨ j = 1 := by simp at hj; omega
      rw [Go.WideShapes.add_plain]
      rcases this with rfl | rfl
      · exact k0
      · exact k1)
  clear b27 O25 O27 B25 k0 k1
  go_wp2_with fail
  refine (name_any _ _).mono ?_
  rintro e w28 ⟨rfl, rfl⟩
  rw [show goodN ⟨#[97, 45, 49, 46, 98]⟩ = true by decide +kernel]
  go_wp2_with fail
  refine (name_any _ _).mono ?_
  rintro e w29 ⟨rfl, rfl⟩
  rw [show goodN ⟨#[65]⟩ = false by decide +kernel]
  go_wp2_with fail
  refine (name_any _ _).mono ?_
  rintro e w30 ⟨rfl, rfl⟩
  rw [show goodN ⟨#[]⟩ = false by decide +kernel]
  go_wp2_with fail
  go_ret
  exact ⟨rfl, by rw [hBB]; exact B27.out⟩
end Go.Proofs.Ytefjljdgdoklmaa
