/-
  The document's answer for frames: a number's bytes, and a frame's head.
-/
import Derived.Test.YtpighnknldhigaaFrames
import Derived.Test.YtpighnknldhigaaLives
namespace Go.Proofs.Ytpighnknldhigaa
open Go.RowKit

set_option maxRecDepth 100000 in
set_option maxHeartbeats 1000000 in
/-- Four bytes behind bytes of one's own, or behind none. -/
theorem four_any (B : Nat) (base : Option Addr) (sLen sCap : Nat) (bs : List (BitVec 8)) (hl : sLen = bs.length) (x : BitVec 32) (w : World) (hB : B ≤ w.heap.size)
    (hbase : (base = none ∧ sLen = 0 ∧ sCap = 0) ∨ ∃ g, base = some ⟨g, 0, none⟩ ∧ B ≤ g ∧ sLen ≤ sCap ∧ RowB w g sCap bs) (hsm : sLen ≤ 1000000000) :
    Calls Try.prog 29 #[.slice base sLen sCap, .int .u32 x.toNat] w fun e w' => ∃ g c, e = .returned (.slice (some ⟨g, 0, none⟩) (sLen + 4) c) ∧ B ≤ g ∧ sLen + 4 ≤ c ∧ RowB w' g c (bs ++ Fr.four x) ∧ Below B w w' := by
  have e0 := byte0_w x
  have e1 := byte1_w x
  have e2 := byte2_w x
  have e3 := byte3_w x
  have hf : Fr.four x = [x.setWidth 8, (x >>> 8).setWidth 8, (x >>> 16).setWidth 8, (x >>> 24).setWidth 8] := rfl
  generalize x.setWidth 8 = x0 at *
  generalize (x >>> 8).setWidth 8 = x1 at *
  generalize (x >>> 16).setWidth 8 = x2 at *
  generalize (x >>> 24).setWidth 8 = x3 at *
  have bA : Below w.heap.size w (w.alloc (.cells #[.int .u8 x0.toNat, .int .u8 x1.toNat, .int .u8 x2.toNat, .int .u8 x3.toNat] 5)) := (Below.refl _ _).alloc (Nat.le_refl _) _
  obtain ⟨g, c, w', hr, hg, hrow, hb, hc, _⟩ := append_bytes (w.alloc (.cells #[.int .u8 x0.toNat, .int .u8 x1.toNat, .int .u8 x2.toNat, .int .u8 x3.toNat] 5)) B base sLen sCap bs hl (.slice (some ⟨w.heap.size, 0, none⟩) 4 4) [x0, x1, x2, x3] 4 rfl (Bytes.new w _ 5 4 _ [x0, x1, x2, x3] rfl) (Nat.le_trans hB bA.size)
    (by rcases hbase with ⟨h1, h2, h3⟩ | ⟨g, h1, h2, h3, h4⟩
        · exact .inl ⟨h1, h2, h3, by decide⟩
        · exact .inr ⟨g, h1, h2, h3, RowC.below h4 bA⟩) (by omega)
  have HR := hide hr
  have HROW := hide hrow
  have HB := hide ((bA.mono hB).trans hb)
  have HF := hide hf
  have E := hide (And.intro e0 (And.intro e1 (And.intro e2 e3)))
  clear hr hrow hb bA hf hbase e0 e1 e2 e3 hl
  go_enter Try.func29, Try.ntmps29
  go_wp2_with (at_builtin; rw [E.out.1, E.out.2.1, E.out.2.2.1, E.out.2.2.2]; refine wpList_append_run rfl _ _ 22 rfl _ _ rfl rfl _ _ (HR.out _) ?_)
  go_ret
  exact ⟨g, c, rfl, hg, hc, by rw [HF.out]; exact HROW.out, HB.out⟩

set_option maxRecDepth 100000 in
set_option maxHeartbeats 1000000 in
theorem rhead_any (k : BitVec 8) (n : Nat) (hn : n ≤ 16777215) (w : World) :
    Calls Try.prog 28 #[.int .u8 k.toNat, .int .i64 (n : Nat)] w fun e w' => ∃ g c, e = .returned (.slice (some ⟨g, 0, none⟩) 8 c) ∧ w.heap.size ≤ g ∧ 8 ≤ c ∧ RowB w' g c (Fr.headB k n) ∧ Below w.heap.size w w' := by
  have e1 : (n : Int) % (256 : Int) = ((BitVec.ofNat 8 n).toNat : Int) := by rw [BitVec.toNat_ofNat]; omega
  have e2 : (n : Int) / (256 : Int) % (256 : Int) = ((BitVec.ofNat 8 (n / 256)).toNat : Int) := by rw [BitVec.toNat_ofNat]; omega
  have e3 : (n : Int) / (65536 : Int) = ((BitVec.ofNat 8 (n / 65536)).toNat : Int) := by rw [BitVec.toNat_ofNat]; omega
  have hp : Fr.plain k n = [k, BitVec.ofNat 8 n, BitVec.ofNat 8 (n / 256), BitVec.ofNat 8 (n / 65536)] := rfl
  generalize BitVec.ofNat 8 n = p1 at *
  generalize BitVec.ofNat 8 (n / 256) = p2 at *
  generalize BitVec.ofNat 8 (n / 65536) = p3 at *
  have E := hide (And.intro e1 (And.intro e2 e3))
  have HP := hide hp
  clear e1 e2 e3 hp
  go_enter Try.func28, Try.ntmps28
  go_wp2_with fail
  rw [E.out.1, E.out.2.1, E.out.2.2]
  have b0 : Below w.heap.size w (w.alloc (.cells #[.int .u8 k.toNat, .int .u8 p1.toNat, .int .u8 p2.toNat, .int .u8 p3.toNat] 5)) := (Below.refl _ _).alloc (Nat.le_refl _) _
  have hby := Bytes.new w #[.int .u8 k.toNat, .int .u8 p1.toNat, .int .u8 p2.toNat, .int .u8 p3.toNat] 5 4 (0, 0) [k, p1, p2, p3] rfl
  have hro : RowB (w.alloc (.cells #[.int .u8 k.toNat, .int .u8 p1.toNat, .int .u8 p2.toNat, .int .u8 p3.toNat] 5)) w.heap.size 4 [k, p1, p2, p3] := ⟨_, heap_alloc_new w _, Nat.le_refl _, fun j hj => by simp [cellsOf]⟩
  generalize w.alloc (.cells #[.int .u8 k.toNat, .int .u8 p1.toNat, .int .u8 p2.toNat, .int .u8 p3.toNat] 5) = w1 at *
  refine (rsum_any _ [k, p1, p2, p3] _ hby (four_max _ _ _ _)).mono ?_
  rintro e w2 ⟨rfl, hw⟩
  subst hw
  have B0 := hide b0
  have RO := hide hro
  clear b0 hby hro
  go_wp2_with fail
  refine (rmask_any _ _).mono ?_
  rintro e w3 ⟨rfl, hw⟩
  subst hw
  generalize hx : mask (Crc32.sum [k, p1, p2, p3]) = x
  have HX := hide hx
  clear hx
  go_wp2_with fail
  refine (four_any w.heap.size (some ⟨w.heap.size, 0, none⟩) 4 4 [k, p1, p2, p3] rfl x _ B0.out.size (.inr ⟨_, rfl, Nat.le_refl _, Nat.le_refl _, RO.out⟩) (by decide)).mono ?_
  rintro e w4 ⟨g, c, rfl, hg, hc, hrow, hb⟩
  have B1 := hide (B0.out.trans hb)
  have HR := hide hrow
  clear hb hrow
  go_wp2_with fail
  go_ret
  refine ⟨g, c, rfl, hg, hc, ?_, B1.out⟩
  have hh : Fr.headB k n = [k, p1, p2, p3] ++ Fr.four x := by
    unfold Fr.headB Fr.msum
    rw [HP.out, HX.out]
  rw [hh]
  exact HR.out

set_option maxRecDepth 100000 in
set_option maxHeartbeats 1000000 in
/-- Whether bytes are the same, as the document's answer finds it. -/
theorem same_any (a a' : Option Addr) (n c c' : Nat) (xs ys : List (BitVec 8)) (w : World) (h : Bytes w (.slice a n c) xs) (h' : Bytes w (.slice a' n c') ys) (hn : n ≤ 1000000000) :
    Calls Try.prog 32 #[.slice a n c, .slice a' n c'] w fun e w' => e = .returned (.bool (decide (xs = ys))) ∧ ∃ m, w' = w.drewN m := by
  have hl := h.len
  have hl' := h'.len
  have H := hide h
  have H' := hide h'
  have HL := hide hl
  have HL' := hide hl'
  clear h h' hl hl'
  go_enter Try.func32, Try.ntmps32
  go_wp2
  go_loopw [5] (fun i wr => ∃ k : Nat, i = .int .i64 (k : Nat) ∧ k ≤ n ∧ xs.take k = ys.take k ∧ ∃ m, wr = w.drewN m) (fun i _ => n - (intOf i).toNat)
  case atStart => exact ⟨0, rfl, Nat.zero_le _, rfl, 0, rfl⟩
  case round =>
    obtain ⟨k, rfl, hk, ht, m, rfl⟩ := hrel
    have HT := hide ht
    clear ht
    by_cases hkn : k < n
    · have hx : k < xs.length := by have := HL.out; omega
      have hy : k < ys.length := by have := HL'.out; omega
      obtain ⟨b, off, rfl⟩ := H.out.addr (by omega)
      obtain ⟨b', off', rfl⟩ := H'.out.addr (by omega)
      have h1 := H.out.at k hx
      have h2 := H'.out.at k hy
      have i1 : (k : Int) < (n : Int) := by omega
      have i0 : (0 : Int) ≤ (k : Int) := by omega
      have gx : xs.getD k 0 = xs[k] := by simp [List.getD, hx]
      have gy : ys.getD k 0 = ys[k] := by simp [List.getD, hy]
      by_cases he : xs[k] = ys[k]
      · rw [gx, he] at h1
        rw [gy] at h2
        generalize hq : ys[k].toNat = q at *
        have HE := hide he
        clear gx gy hq he
        go_wp2_with fail
        go_quiet (fail)
        go_wp2
        go_roundw
        case rel =>
          refine ⟨k + 1, by go_num, by omega, ?_, _, rfl⟩
          rw [List.take_succ_eq_append_getElem hx, List.take_succ_eq_append_getElem hy, HT.out, HE.out]
        case measure => simp [intOf]; omega
      · rw [gx] at h1
        rw [gy] at h2
        have hne : ((xs[k].toNat : Int) != (ys[k].toNat : Int)) = true := by
          rw [bne_iff_ne]
          intro e
          exact he (BitVec.eq_of_toNat_eq (by exact_mod_cast e))
        have hxy : decide (xs = ys) = false := decide_eq_false (fun e => he (by subst e; rfl))
        have HXY := hide hxy
        generalize xs[k].toNat = p at *
        generalize ys[k].toNat = q at *
        clear gx gy he hxy
        go_wp2_with fail
        go_quiet (fail)
        go_wp2
        go_ret
        exact ⟨by rw [HXY.out]; rfl, m + nq, World.drewN_drewN _ _ _⟩
    · obtain rfl : k = n := by omega
      have hxy : decide (xs = ys) = true := by
        apply decide_eq_true
        have := HT.out
        rwa [List.take_of_length_le (by have := HL.out; omega), List.take_of_length_le (by have := HL'.out; omega)] at this
      have HXY := hide hxy
      clear hxy
      go_wp2
      go_ret
      exact ⟨by rw [HXY.out]; rfl, m, rfl⟩
end Go.Proofs.Ytpighnknldhigaa
