/-
  The order of entries is one.
-/
import Derived.Test.YtpdlbepkkfoadaaLv
namespace Go.Proofs.Ytpdlbepkkfoadaa
open Go.RowKit
set_option maxRecDepth 100000
set_option maxHeartbeats 4000000
theorem order_any (ka kb kc va vb vc : Option Addr) (na nb nc ca cb cc na' nb' nc' ca' cb' cc' : Nat) (ta tb tc : Int) (sa sb sc : Nat) (x y z : List (BitVec 8)) (w : World) (hx : Bytes w (.slice ka na ca) x) (hy : Bytes w (.slice kb nb cb) y) (hz : Bytes w (.slice kc nc cc) z)
    (h1 : na ≤ 140737488355328) (h2 : nb ≤ 140737488355328) (h3 : nc ≤ 140737488355328) :
    Calls Try.prog 5 #[.agg #[.slice ka na ca, .int .u64 sa, .int .i64 ta, .slice va na' ca'], .agg #[.slice kb nb cb, .int .u64 sb, .int .i64 tb, .slice vb nb' cb'], .agg #[.slice kc nc cc, .int .u64 sc, .int .i64 tc, .slice vc nc' cc']] w fun e w' => e = .returned (.bool true) ∧ Below w.heap.size w w' := by
  have n1 := heap_alloc_new w (.cells #[.slice ka na ca, .int .u64 sa, .int .i64 ta, .slice va na' ca'] 34)
  have b1 := (Below.refl w.heap.size w).alloc (Nat.le_refl _) (.cells #[.slice ka na ca, .int .u64 sa, .int .i64 ta, .slice va na' ca'] 34)
  have n2 := heap_alloc_new (w.alloc (.cells #[.slice ka na ca, .int .u64 sa, .int .i64 ta, .slice va na' ca'] 34)) (.cells #[.slice kb nb cb, .int .u64 sb, .int .i64 tb, .slice vb nb' cb'] 34)
  have b2 := (Below.refl _ (w.alloc (.cells #[.slice ka na ca, .int .u64 sa, .int .i64 ta, .slice va na' ca'] 34))).alloc (Nat.le_refl _) (.cells #[.slice kb nb cb, .int .u64 sb, .int .i64 tb, .slice vb nb' cb'] 34)
  have n3 := heap_alloc_new ((w.alloc (.cells #[.slice ka na ca, .int .u64 sa, .int .i64 ta, .slice va na' ca'] 34)).alloc (.cells #[.slice kb nb cb, .int .u64 sb, .int .i64 tb, .slice vb nb' cb'] 34)) (.cells #[.slice kc nc cc, .int .u64 sc, .int .i64 tc, .slice vc nc' cc'] 34)
  have b3 := (Below.refl _ ((w.alloc (.cells #[.slice ka na ca, .int .u64 sa, .int .i64 ta, .slice va na' ca'] 34)).alloc (.cells #[.slice kb nb cb, .int .u64 sb, .int .i64 tb, .slice vb nb' cb'] 34))).alloc (Nat.le_refl _) (.cells #[.slice kc nc cc, .int .u64 sc, .int .i64 tc, .slice vc nc' cc'] 34)
  have bA := (b1.trans (b2.mono b1.size)).trans (b3.mono (Nat.le_trans b1.size b2.size))
  have n1' := heap_keep b3 (heap_keep b2 n1)
  have n2' := heap_keep b3 n2
  have HX := hide (hx.below bA)
  have HY := hide (hy.below bA)
  have HZ := hide (hz.below bA)
  rw [World.size_alloc] at n2'
  rw [World.size_alloc, World.size_alloc] at n3
  have BA := hide bA
  have N1 := hide n1'
  have N2 := hide n2'
  have N3 := hide n3
  clear n1 n2 n1' n2' n3 b1 b2 b3 bA hx hy hz
  go_enter Try.func5, Try.ntmps5
  go_wp2_with fail
  generalize ((w.alloc (.cells #[.slice ka na ca, .int .u64 sa, .int .i64 ta, .slice va na' ca'] 34)).alloc (.cells #[.slice kb nb cb, .int .u64 sb, .int .i64 tb, .slice vb nb' cb'] 34)).alloc (.cells #[.slice kc nc cc, .int .u64 sc, .int .i64 tc, .slice vc nc' cc'] 34) = w1 at *
  refine (lives_any w1).mono ?_
  rintro e w2 ⟨rfl, b2⟩
  have M1 := hide (heap_keep b2 N1.out)
  have M2 := hide (heap_keep b2 N2.out)
  have M3 := hide (heap_keep b2 N3.out)
  have KX := hide (HX.out.below b2)
  have KY := hide (HY.out.below b2)
  have KZ := hide (HZ.out.below b2)
  have B2 := hide (BA.out.trans (b2.mono BA.out.size))
  clear N1 N2 N3 HX HY HZ BA b2
  generalize hA : w.heap.size = A at *
  have a0 := cell_of_row w2 _ 0 _ 34 (0, 0) M1.out
  have d0 := cell_of_row w2 _ 0 _ 34 (0, 0) M2.out
  have e0 := cell_of_row w2 _ 0 _ 34 (0, 0) M3.out
  simp at a0 d0 e0
  by_cases hs : na + nb + nc ≤ 20000
  · have hs' : ¬ (20000 : Int) < (na : Int) + (nb : Int) + (nc : Int) := by omega
    have KX0 := hide KX.out
    have KY0 := hide KY.out
    have KZ0 := hide KZ.out
    have M10 := hide M1.out
    have M20 := hide M2.out
    have M30 := hide M3.out
    have B0q := hide B2.out
    have sz0 : A ≤ w2.heap.size := by rw [← hA]; exact B2.out.size
    clear KX KY KZ M1 M2 M3 B2 a0 d0 e0
    have p0a0 := cell_of_row w2 _ 0 _ 34 (0, 0) M10.out
    have p0a1 := cell_of_row w2 _ 1 _ 34 (0, 0) M10.out
    have p0a2 := cell_of_row w2 _ 2 _ 34 (0, 0) M10.out
    have p0a3 := cell_of_row w2 _ 3 _ 34 (0, 0) M10.out
    have p0d0 := cell_of_row w2 _ 0 _ 34 (0, 0) M20.out
    have p0d1 := cell_of_row w2 _ 1 _ 34 (0, 0) M20.out
    have p0d2 := cell_of_row w2 _ 2 _ 34 (0, 0) M20.out
    have p0d3 := cell_of_row w2 _ 3 _ 34 (0, 0) M20.out
    have p0e0 := cell_of_row w2 _ 0 _ 34 (0, 0) M30.out
    have p0e1 := cell_of_row w2 _ 1 _ 34 (0, 0) M30.out
    have p0e2 := cell_of_row w2 _ 2 _ 34 (0, 0) M30.out
    have p0e3 := cell_of_row w2 _ 3 _ 34 (0, 0) M30.out
    simp at p0a0 p0a1 p0a2 p0a3 p0d0 p0d1 p0d2 p0d3 p0e0 p0e1 p0e2 p0e3
    go_wp2_with fail
    go_region_held (fun w' => w'.cell? ⟨A, 0, none⟩ = some (.slice ka na ca) ∧ w'.cell? ⟨A, 1, none⟩ = some (.int .u64 sa) ∧ w'.cell? ⟨A, 2, none⟩ = some (.int .i64 ta) ∧ w'.cell? ⟨A, 3, none⟩ = some (.slice va na' ca') ∧ w'.cell? ⟨A + 1, 0, none⟩ = some (.slice kb nb cb) ∧ w'.cell? ⟨A + 1, 1, none⟩ = some (.int .u64 sb) ∧ w'.cell? ⟨A + 1, 2, none⟩ = some (.int .i64 tb) ∧ w'.cell? ⟨A + 1, 3, none⟩ = some (.slice vb nb' cb') ∧ w'.cell? ⟨A + 1 + 1, 0, none⟩ = some (.slice kc nc cc) ∧ w'.cell? ⟨A + 1 + 1, 1, none⟩ = some (.int .u64 sc) ∧ w'.cell? ⟨A + 1 + 1, 2, none⟩ = some (.int .i64 tc) ∧ w'.cell? ⟨A + 1 + 1, 3, none⟩ = some (.slice vc nc' cc')) (first | (with_reducible exact ⟨p3a0, p3a1, p3a2, p3a3, p3d0, p3d1, p3d2, p3d3, p3e0, p3e1, p3e2, p3e3⟩) | (with_reducible exact ⟨p2a0, p2a1, p2a2, p2a3, p2d0, p2d1, p2d2, p2d3, p2e0, p2e1, p2e2, p2e3⟩) | (with_reducible exact ⟨p1a0, p1a1, p1a2, p1a3, p1d0, p1d1, p1d2, p1d3, p1e0, p1e1, p1e2, p1e3⟩) | (simp only [World.cell?_drew]; with_reducible exact ⟨p0a0, p0a1, p0a2, p0a3, p0d0, p0d1, p0d2, p0d3, p0e0, p0e1, p0e2, p0e3⟩)) (first
      | (go_at_call 16; refine (compare_any ka kc va vc na ca na' ca' nc cc nc' cc' ta tc sa sc x z w4 KX2.out KZ2.out).mono ?_; rintro e w5 ⟨rfl, bq⟩; have KX3 := hide (Bytes.below (w := w4) KX2.out bq); have KY3 := hide (Bytes.below (w := w4) KY2.out bq); have KZ3 := hide (Bytes.below (w := w4) KZ2.out bq); have M13 := hide (heap_keep (w := w4) bq M12.out); have M23 := hide (heap_keep (w := w4) bq M22.out); have M33 := hide (heap_keep (w := w4) bq M32.out); have B3q := hide (B2q.out.trans (bq.mono sz2)); have sz3 := Nat.le_trans sz2 bq.size; have p3a0 := cell_of_row w5 _ 0 _ 34 (0, 0) M13.out; have p3a1 := cell_of_row w5 _ 1 _ 34 (0, 0) M13.out; have p3a2 := cell_of_row w5 _ 2 _ 34 (0, 0) M13.out; have p3a3 := cell_of_row w5 _ 3 _ 34 (0, 0) M13.out; have p3d0 := cell_of_row w5 _ 0 _ 34 (0, 0) M23.out; have p3d1 := cell_of_row w5 _ 1 _ 34 (0, 0) M23.out; have p3d2 := cell_of_row w5 _ 2 _ 34 (0, 0) M23.out; have p3d3 := cell_of_row w5 _ 3 _ 34 (0, 0) M23.out; have p3e0 := cell_of_row w5 _ 0 _ 34 (0, 0) M33.out; have p3e1 := cell_of_row w5 _ 1 _ 34 (0, 0) M33.out; have p3e2 := cell_of_row w5 _ 2 _ 34 (0, 0) M33.out; have p3e3 := cell_of_row w5 _ 3 _ 34 (0, 0) M33.out; simp at p3a0 p3a1 p3a2 p3a3 p3d0 p3d1 p3d2 p3d3 p3e0 p3e1 p3e2 p3e3; clear bq)
      | (go_at_call 16; refine (compare_any kb kc vb vc nb cb nb' cb' nc cc nc' cc' tb tc sb sc y z w3 KY1.out KZ1.out).mono ?_; rintro e w4 ⟨rfl, bq⟩; have KX2 := hide (Bytes.below (w := w3) KX1.out bq); have KY2 := hide (Bytes.below (w := w3) KY1.out bq); have KZ2 := hide (Bytes.below (w := w3) KZ1.out bq); have M12 := hide (heap_keep (w := w3) bq M11.out); have M22 := hide (heap_keep (w := w3) bq M21.out); have M32 := hide (heap_keep (w := w3) bq M31.out); have B2q := hide (B1q.out.trans (bq.mono sz1)); have sz2 := Nat.le_trans sz1 bq.size; have p2a0 := cell_of_row w4 _ 0 _ 34 (0, 0) M12.out; have p2a1 := cell_of_row w4 _ 1 _ 34 (0, 0) M12.out; have p2a2 := cell_of_row w4 _ 2 _ 34 (0, 0) M12.out; have p2a3 := cell_of_row w4 _ 3 _ 34 (0, 0) M12.out; have p2d0 := cell_of_row w4 _ 0 _ 34 (0, 0) M22.out; have p2d1 := cell_of_row w4 _ 1 _ 34 (0, 0) M22.out; have p2d2 := cell_of_row w4 _ 2 _ 34 (0, 0) M22.out; have p2d3 := cell_of_row w4 _ 3 _ 34 (0, 0) M22.out; have p2e0 := cell_of_row w4 _ 0 _ 34 (0, 0) M32.out; have p2e1 := cell_of_row w4 _ 1 _ 34 (0, 0) M32.out; have p2e2 := cell_of_row w4 _ 2 _ 34 (0, 0) M32.out; have p2e3 := cell_of_row w4 _ 3 _ 34 (0, 0) M32.out; simp at p2a0 p2a1 p2a2 p2a3 p2d0 p2d1 p2d2 p2d3 p2e0 p2e1 p2e2 p2e3; clear bq)
      | (go_at_call 16; refine (compare_any ka kb va vb na ca na' ca' nb cb nb' cb' ta tb sa sb x y w2.drew KX0.out KY0.out).mono ?_; rintro e w3 ⟨rfl, bq⟩; have KX1 := hide (Bytes.below (w := w2.drew) KX0.out bq); have KY1 := hide (Bytes.below (w := w2.drew) KY0.out bq); have KZ1 := hide (Bytes.below (w := w2.drew) KZ0.out bq); have M11 := hide (heap_keep (w := w2.drew) bq M10.out); have M21 := hide (heap_keep (w := w2.drew) bq M20.out); have M31 := hide (heap_keep (w := w2.drew) bq M30.out); have B1q := hide (B0q.out.drew.trans (bq.mono sz0)); have sz1 := Nat.le_trans sz0 bq.size; have p1a0 := cell_of_row w3 _ 0 _ 34 (0, 0) M11.out; have p1a1 := cell_of_row w3 _ 1 _ 34 (0, 0) M11.out; have p1a2 := cell_of_row w3 _ 2 _ 34 (0, 0) M11.out; have p1a3 := cell_of_row w3 _ 3 _ 34 (0, 0) M11.out; have p1d0 := cell_of_row w3 _ 0 _ 34 (0, 0) M21.out; have p1d1 := cell_of_row w3 _ 1 _ 34 (0, 0) M21.out; have p1d2 := cell_of_row w3 _ 2 _ 34 (0, 0) M21.out; have p1d3 := cell_of_row w3 _ 3 _ 34 (0, 0) M21.out; have p1e0 := cell_of_row w3 _ 0 _ 34 (0, 0) M31.out; have p1e1 := cell_of_row w3 _ 1 _ 34 (0, 0) M31.out; have p1e2 := cell_of_row w3 _ 2 _ 34 (0, 0) M31.out; have p1e3 := cell_of_row w3 _ 3 _ 34 (0, 0) M31.out; simp at p1a0 p1a1 p1a2 p1a3 p1d0 p1d1 p1d2 p1d3 p1e0 p1e1 p1e2 p1e3; clear bq))
    have hT1 := cmpE_trans (x, sa) (y, sb) (z, sc)
    have hT2 : 0 ≤ cmpE (x, sa) (y, sb) → 0 ≤ cmpE (y, sb) (z, sc) → 0 ≤ cmpE (x, sa) (z, sc) := by
      intro h1 h2
      have h3 := cmpE_trans (z, sc) (y, sb) (x, sa)
      rw [cmpE_swap (y, sb) (z, sc), cmpE_swap (x, sa) (y, sb), cmpE_swap (x, sa) (z, sc)] at h3
      omega
    have hS := cmpE_swap (x, sa) (y, sb)
    have hZ := cmpE_zero (x, sa) (y, sb)
    have hV : cmpE (x, sa) (y, sb) = -1 ∨ cmpE (x, sa) (y, sb) = 0 ∨ cmpE (x, sa) (y, sb) = 1 := by
      have := cmpB_vals x y
      unfold cmpE
      simp only
      repeat' split
      all_goals omega
    have hL : cmpB x y = -1 → cmpE (x, sa) (y, sb) = -1 := by
      intro e
      unfold cmpE
      simp only [e]
      rfl
    have hG : x = y → sb < sa → cmpE (x, sa) (y, sb) = -1 := by
      intro e h
      have e0 : cmpB x y = 0 := (cmpB_zero _ _).2 e
      unfold cmpE
      simp only [e0]
      rw [if_neg (by simp), if_pos h]
    have ST1 := hide hT1
    have ST2 := hide hT2
    have SS := hide hS
    have SZ := hide hZ
    have SV := hide hV
    have SL := hide hL
    have SG := hide hG
    clear hT1 hT2 hS hZ hV hL hG
    go_wp2_with fail
    refine (compare_any kb ka vb va nb cb nb' cb' na ca na' ca' tb ta sb sa y x w5 KY3.out KX3.out).mono ?_
    rintro e w6 ⟨rfl, bq⟩
    rw [SS.out]
    have KX4 := hide (KX3.out.below bq)
    have KY4 := hide (KY3.out.below bq)
    have M14 := hide (heap_keep bq M13.out)
    have M24 := hide (heap_keep bq M23.out)
    have B4q := hide (B3q.out.trans (bq.mono sz3))
    have sz4 := Nat.le_trans sz3 bq.size
    have q0 := cell_of_row w6 _ 0 _ 34 (0, 0) M14.out
    have q1 := cell_of_row w6 _ 1 _ 34 (0, 0) M14.out
    have q2 := cell_of_row w6 _ 0 _ 34 (0, 0) M24.out
    have q3 := cell_of_row w6 _ 1 _ 34 (0, 0) M24.out
    simp at q0 q1 q2 q3
    clear bq
    generalize hX : cmpE (x, sa) (y, sb) = X at *
    generalize hY : cmpE (y, sb) (z, sc) = Y at *
    generalize hZZ : cmpE (x, sa) (z, sc) = Z at *
    clear hX hY hZZ
    have hV := SV.out
    rcases hV with rfl | rfl | rfl
    · have hEq : ((-1 : Int) = 0) ↔ (x = y ∧ sa = sb) := SZ.out
      have hZ1 : Y ≤ 0 → ¬ 0 < Z := fun h => by have := ST1.out (by decide) h; omega
      have HhZ1 := hide hZ1
      have HEQ := hide hEq
      clear hEq hZ1
      go_wp2_with fail
      refine (bytes_any ka kb na nb ca cb x y w6 KX4.out KY4.out (by omega)).mono ?_
      rintro e w7 ⟨rfl, m, hw7⟩
      subst hw7
      have KX5 := hide (KX4.out.drewN m)
      have KY5 := hide (KY4.out.drewN m)
      have B5q := hide (belowN B4q.out m)
      generalize hD : decide (x = y) = D
      have HD := hide hD
      clear hD
      cases D
      · skip
        by_cases hY : Y ≤ 0
        · have hZ3 := HhZ1.out hY
          go_wp2_with fail
          refine (before_any ka kb na nb ca cb x y _ KX5.out KY5.out).mono ?_
          rintro e w8 ⟨rfl, hw8⟩
          subst hw8
          generalize hBf : Op.bytesLess (u8s x) (u8s y) = Bf
          have HBf := hide hBf
          clear hBf
          cases Bf
          · go_wp2_with fail
            refine (bytes_any ka kb na nb ca cb x y _ KX5.out KY5.out (by omega)).mono ?_
            rintro e w9 ⟨rfl, m2, hw9⟩
            subst hw9
            rw [HD.out]
            have B6q := hide (belowN B5q.out m2)
            go_wp2_with fail
            go_ret
            exact ⟨rfl, by rw [hA]; first | exact B6q.out | exact belowN B4q.out _⟩
          · go_wp2_with fail
            go_ret
            exact ⟨rfl, by rw [hA]; exact B5q.out⟩
        · have hY' : 0 < Y := by omega
          go_wp2_with fail
          refine (before_any ka kb na nb ca cb x y _ KX5.out KY5.out).mono ?_
          rintro e w8 ⟨rfl, hw8⟩
          subst hw8
          generalize hBf : Op.bytesLess (u8s x) (u8s y) = Bf
          have HBf := hide hBf
          clear hBf
          cases Bf
          · go_wp2_with fail
            refine (bytes_any ka kb na nb ca cb x y _ KX5.out KY5.out (by omega)).mono ?_
            rintro e w9 ⟨rfl, m2, hw9⟩
            subst hw9
            rw [HD.out]
            have B6q := hide (belowN B5q.out m2)
            go_wp2_with fail
            go_ret
            exact ⟨rfl, by rw [hA]; first | exact B6q.out | exact belowN B4q.out _⟩
          · go_wp2_with fail
            go_ret
            exact ⟨rfl, by rw [hA]; exact B5q.out⟩
      · have hss : ((sa : Int) == (sb : Int)) = false := by
          rw [beq_eq_false_iff_ne]
          exact fun h => absurd (HEQ.out.2 ⟨of_decide_eq_true HD.out, by omega⟩) (by simp)
        by_cases hY : Y ≤ 0
        · have hZ3 := HhZ1.out hY
          go_wp2_with fail
          refine (before_any ka kb na nb ca cb x y _ KX5.out KY5.out).mono ?_
          rintro e w8 ⟨rfl, hw8⟩
          subst hw8
          generalize hBf : Op.bytesLess (u8s x) (u8s y) = Bf
          have HBf := hide hBf
          clear hBf
          cases Bf
          · go_wp2_with fail
            refine (bytes_any ka kb na nb ca cb x y _ KX5.out KY5.out (by omega)).mono ?_
            rintro e w9 ⟨rfl, m2, hw9⟩
            subst hw9
            rw [HD.out]
            have B6q := hide (belowN B5q.out m2)
            by_cases hle : sa ≤ sb
            · have hle' : (sa : Int) ≤ (sb : Int) := by omega
              go_wp2_with fail
              go_ret
              exact ⟨rfl, by rw [hA]; first | exact B6q.out | exact belowN B4q.out _⟩
            · have hle' : ¬ (sa : Int) ≤ (sb : Int) := by omega
              go_wp2_with fail
              go_ret
              exact ⟨rfl, by rw [hA]; first | exact B6q.out | exact belowN B4q.out _⟩
          · go_wp2_with fail
            go_ret
            exact ⟨rfl, by rw [hA]; exact B5q.out⟩
        · have hY' : 0 < Y := by omega
          go_wp2_with fail
          refine (before_any ka kb na nb ca cb x y _ KX5.out KY5.out).mono ?_
          rintro e w8 ⟨rfl, hw8⟩
          subst hw8
          generalize hBf : Op.bytesLess (u8s x) (u8s y) = Bf
          have HBf := hide hBf
          clear hBf
          cases Bf
          · go_wp2_with fail
            refine (bytes_any ka kb na nb ca cb x y _ KX5.out KY5.out (by omega)).mono ?_
            rintro e w9 ⟨rfl, m2, hw9⟩
            subst hw9
            rw [HD.out]
            have B6q := hide (belowN B5q.out m2)
            by_cases hle : sa ≤ sb
            · have hle' : (sa : Int) ≤ (sb : Int) := by omega
              go_wp2_with fail
              go_ret
              exact ⟨rfl, by rw [hA]; first | exact B6q.out | exact belowN B4q.out _⟩
            · have hle' : ¬ (sa : Int) ≤ (sb : Int) := by omega
              go_wp2_with fail
              go_ret
              exact ⟨rfl, by rw [hA]; first | exact B6q.out | exact belowN B4q.out _⟩
          · go_wp2_with fail
            go_ret
            exact ⟨rfl, by rw [hA]; exact B5q.out⟩
    · have hEq : ((0 : Int) = 0) ↔ (x = y ∧ sa = sb) := SZ.out
      have hZ1 : Y ≤ 0 → ¬ 0 < Z := fun h => by have := ST1.out (by decide) h; omega
      have hZ2 : 0 ≤ Y → ¬ Z < 0 := fun h => by have := ST2.out (by decide) h; omega
      have HhZ1 := hide hZ1
      have HhZ2 := hide hZ2
      have HEQ := hide hEq
      clear hEq hZ1 hZ2
      go_wp2_with fail
      refine (bytes_any ka kb na nb ca cb x y w6 KX4.out KY4.out (by omega)).mono ?_
      rintro e w7 ⟨rfl, m, hw7⟩
      subst hw7
      have KX5 := hide (KX4.out.drewN m)
      have KY5 := hide (KY4.out.drewN m)
      have B5q := hide (belowN B4q.out m)
      generalize hD : decide (x = y) = D
      have HD := hide hD
      clear hD
      cases D
      · exact absurd (HEQ.out.1 trivial).1 (of_decide_eq_false HD.out)
      · obtain ⟨_, hss⟩ := HEQ.out.1 trivial
        have hss' : ((sa : Int) == (sb : Int)) = true := by rw [hss]; simp
        have HSS := hide hss
        clear hss
        rcases Int.lt_trichotomy Y 0 with hY | hY | hY
        · have hY2 : ¬ 0 ≤ Y := by omega
          have hY1 : Y ≤ 0 := by omega
          have hZ3 := HhZ1.out hY1
          go_wp2_with fail
          refine (before_any ka kb na nb ca cb x y _ KX5.out KY5.out).mono ?_
          rintro e w8 ⟨rfl, hw8⟩
          subst hw8
          generalize hBf : Op.bytesLess (u8s x) (u8s y) = Bf
          have HBf := hide hBf
          clear hBf
          cases Bf
          · go_wp2_with fail
            refine (bytes_any ka kb na nb ca cb x y _ KX5.out KY5.out (by omega)).mono ?_
            rintro e w9 ⟨rfl, m2, hw9⟩
            subst hw9
            rw [HD.out]
            have B6q := hide (belowN B5q.out m2)
            have hle : sa ≤ sb := by
              rcases Nat.lt_or_ge sb sa with h | h
              · have := SG.out (of_decide_eq_true HD.out) h; omega
              · exact h
            have hle' : (sa : Int) ≤ (sb : Int) := by omega
            go_wp2_with fail
            go_ret
            exact ⟨rfl, by rw [hA]; first | exact B6q.out | exact belowN B4q.out _⟩
          · exact absurd (SL.out ((less_cmp _ _).1 HBf.out)) (by decide)
        · subst hY
          have hZ3 := HhZ1.out (by decide)
          have hZ4 := HhZ2.out (by decide)
          go_wp2_with fail
          refine (before_any ka kb na nb ca cb x y _ KX5.out KY5.out).mono ?_
          rintro e w8 ⟨rfl, hw8⟩
          subst hw8
          generalize hBf : Op.bytesLess (u8s x) (u8s y) = Bf
          have HBf := hide hBf
          clear hBf
          cases Bf
          · go_wp2_with fail
            refine (bytes_any ka kb na nb ca cb x y _ KX5.out KY5.out (by omega)).mono ?_
            rintro e w9 ⟨rfl, m2, hw9⟩
            subst hw9
            rw [HD.out]
            have B6q := hide (belowN B5q.out m2)
            have hle : sa ≤ sb := by
              rcases Nat.lt_or_ge sb sa with h | h
              · have := SG.out (of_decide_eq_true HD.out) h; omega
              · exact h
            have hle' : (sa : Int) ≤ (sb : Int) := by omega
            go_wp2_with fail
            go_ret
            exact ⟨rfl, by rw [hA]; first | exact B6q.out | exact belowN B4q.out _⟩
          · exact absurd (SL.out ((less_cmp _ _).1 HBf.out)) (by decide)
        · have hY2 : ¬ Y ≤ 0 := by omega
          have hY1 : 0 ≤ Y := by omega
          have hZ4 := HhZ2.out hY1
          go_wp2_with fail
          refine (before_any ka kb na nb ca cb x y _ KX5.out KY5.out).mono ?_
          rintro e w8 ⟨rfl, hw8⟩
          subst hw8
          generalize hBf : Op.bytesLess (u8s x) (u8s y) = Bf
          have HBf := hide hBf
          clear hBf
          cases Bf
          · go_wp2_with fail
            refine (bytes_any ka kb na nb ca cb x y _ KX5.out KY5.out (by omega)).mono ?_
            rintro e w9 ⟨rfl, m2, hw9⟩
            subst hw9
            rw [HD.out]
            have B6q := hide (belowN B5q.out m2)
            have hle : sa ≤ sb := by
              rcases Nat.lt_or_ge sb sa with h | h
              · have := SG.out (of_decide_eq_true HD.out) h; omega
              · exact h
            have hle' : (sa : Int) ≤ (sb : Int) := by omega
            go_wp2_with fail
            go_ret
            exact ⟨rfl, by rw [hA]; first | exact B6q.out | exact belowN B4q.out _⟩
          · exact absurd (SL.out ((less_cmp _ _).1 HBf.out)) (by decide)
    · have hEq : ((1 : Int) = 0) ↔ (x = y ∧ sa = sb) := SZ.out
      have hZ2 : 0 ≤ Y → ¬ Z < 0 := fun h => by have := ST2.out (by decide) h; omega
      have HhZ2 := hide hZ2
      have HEQ := hide hEq
      clear hEq hZ2
      go_wp2_with fail
      refine (bytes_any ka kb na nb ca cb x y w6 KX4.out KY4.out (by omega)).mono ?_
      rintro e w7 ⟨rfl, m, hw7⟩
      subst hw7
      have KX5 := hide (KX4.out.drewN m)
      have KY5 := hide (KY4.out.drewN m)
      have B5q := hide (belowN B4q.out m)
      generalize hD : decide (x = y) = D
      have HD := hide hD
      clear hD
      cases D
      · skip
        by_cases hY : 0 ≤ Y
        · have hZ3 := HhZ2.out hY
          go_wp2_with fail
          refine (before_any ka kb na nb ca cb x y _ KX5.out KY5.out).mono ?_
          rintro e w8 ⟨rfl, hw8⟩
          subst hw8
          generalize hBf : Op.bytesLess (u8s x) (u8s y) = Bf
          have HBf := hide hBf
          clear hBf
          cases Bf
          · go_wp2_with fail
            refine (bytes_any ka kb na nb ca cb x y _ KX5.out KY5.out (by omega)).mono ?_
            rintro e w9 ⟨rfl, m2, hw9⟩
            subst hw9
            rw [HD.out]
            have B6q := hide (belowN B5q.out m2)
            go_wp2_with fail
            go_ret
            exact ⟨rfl, by rw [hA]; first | exact B6q.out | exact belowN B4q.out _⟩
          · exact absurd (SL.out ((less_cmp _ _).1 HBf.out)) (by decide)
        · have hY' : Y < 0 := by omega
          go_wp2_with fail
          refine (before_any ka kb na nb ca cb x y _ KX5.out KY5.out).mono ?_
          rintro e w8 ⟨rfl, hw8⟩
          subst hw8
          generalize hBf : Op.bytesLess (u8s x) (u8s y) = Bf
          have HBf := hide hBf
          clear hBf
          cases Bf
          · go_wp2_with fail
            refine (bytes_any ka kb na nb ca cb x y _ KX5.out KY5.out (by omega)).mono ?_
            rintro e w9 ⟨rfl, m2, hw9⟩
            subst hw9
            rw [HD.out]
            have B6q := hide (belowN B5q.out m2)
            go_wp2_with fail
            go_ret
            exact ⟨rfl, by rw [hA]; first | exact B6q.out | exact belowN B4q.out _⟩
          · exact absurd (SL.out ((less_cmp _ _).1 HBf.out)) (by decide)
      · have hss : ((sa : Int) == (sb : Int)) = false := by
          rw [beq_eq_false_iff_ne]
          exact fun h => absurd (HEQ.out.2 ⟨of_decide_eq_true HD.out, by omega⟩) (by simp)
        by_cases hY : 0 ≤ Y
        · have hZ3 := HhZ2.out hY
          go_wp2_with fail
          refine (before_any ka kb na nb ca cb x y _ KX5.out KY5.out).mono ?_
          rintro e w8 ⟨rfl, hw8⟩
          subst hw8
          generalize hBf : Op.bytesLess (u8s x) (u8s y) = Bf
          have HBf := hide hBf
          clear hBf
          cases Bf
          · go_wp2_with fail
            refine (bytes_any ka kb na nb ca cb x y _ KX5.out KY5.out (by omega)).mono ?_
            rintro e w9 ⟨rfl, m2, hw9⟩
            subst hw9
            rw [HD.out]
            have B6q := hide (belowN B5q.out m2)
            have hle : sa ≤ sb := by
              rcases Nat.lt_or_ge sb sa with h | h
              · have := SG.out (of_decide_eq_true HD.out) h; omega
              · exact h
            have hle' : (sa : Int) ≤ (sb : Int) := by omega
            go_wp2_with fail
            go_ret
            exact ⟨rfl, by rw [hA]; first | exact B6q.out | exact belowN B4q.out _⟩
          · exact absurd (SL.out ((less_cmp _ _).1 HBf.out)) (by decide)
        · have hY' : Y < 0 := by omega
          go_wp2_with fail
          refine (before_any ka kb na nb ca cb x y _ KX5.out KY5.out).mono ?_
          rintro e w8 ⟨rfl, hw8⟩
          subst hw8
          generalize hBf : Op.bytesLess (u8s x) (u8s y) = Bf
          have HBf := hide hBf
          clear hBf
          cases Bf
          · go_wp2_with fail
            refine (bytes_any ka kb na nb ca cb x y _ KX5.out KY5.out (by omega)).mono ?_
            rintro e w9 ⟨rfl, m2, hw9⟩
            subst hw9
            rw [HD.out]
            have B6q := hide (belowN B5q.out m2)
            have hle : sa ≤ sb := by
              rcases Nat.lt_or_ge sb sa with h | h
              · have := SG.out (of_decide_eq_true HD.out) h; omega
              · exact h
            have hle' : (sa : Int) ≤ (sb : Int) := by omega
            go_wp2_with fail
            go_ret
            exact ⟨rfl, by rw [hA]; first | exact B6q.out | exact belowN B4q.out _⟩
          · exact absurd (SL.out ((less_cmp _ _).1 HBf.out)) (by decide)
  · have hs' : (20000 : Int) < (na : Int) + (nb : Int) + (nc : Int) := by omega
    go_wp2_with fail
    go_ret
    exact ⟨rfl, by rw [hA]; exact B2.out⟩
end Go.Proofs.Ytpdlbepkkfoadaa
