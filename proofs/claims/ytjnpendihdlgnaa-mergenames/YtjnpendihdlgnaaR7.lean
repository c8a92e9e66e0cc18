/-
  The document's Compare and CheckEntry.
-/
import Derived.Test.YtjnpendihdlgnaaR6
namespace Go.Proofs.Ytjnpendihdlgnaa
open Go.RowKit
set_option maxRecDepth 100000
set_option maxHeartbeats 4000000
theorem rcompare_any (ka kb va vb : Option Addr) (kn kc vn vc kn' kc' vn' vc' : Nat) (kx ky : Int) (sx sy : Nat) (x y : List (BitVec 8)) (w : World) (h : Bytes w (.slice ka kn kc) x) (h' : Bytes w (.slice kb kn' kc') y) (hn : kn ≤ 1000000000) (hn' : kn' ≤ 1000000000) :
    Calls Try.prog 48 #[.agg #[.slice ka kn kc, .int .u64 sx, .int .i64 kx, .slice va vn vc], .agg #[.slice kb kn' kc', .int .u64 sy, .int .i64 ky, .slice vb vn' vc']] w fun e w' => e = .returned (.int .i64 (cmpE (x, sx) (y, sy))) ∧ Below w.heap.size w w' := by
  have b0 := (Below.refl w.heap.size w).alloc (Nat.le_refl _) (.cells #[.slice ka kn kc, .int .u64 sx, .int .i64 kx, .slice va vn vc] 25)
  have b1 := b0.alloc b0.size (.cells #[.slice kb kn' kc', .int .u64 sy, .int .i64 ky, .slice vb vn' vc'] 25)
  have n0' := heap_keep ((Below.refl _ (w.alloc (.cells #[.slice ka kn kc, .int .u64 sx, .int .i64 kx, .slice va vn vc] 25))).alloc (Nat.le_refl _) (.cells #[.slice kb kn' kc', .int .u64 sy, .int .i64 ky, .slice vb vn' vc'] 25)) (heap_alloc_new w (.cells #[.slice ka kn kc, .int .u64 sx, .int .i64 kx, .slice va vn vc] 25))
  have n1 := heap_alloc_new (w.alloc (.cells #[.slice ka kn kc, .int .u64 sx, .int .i64 kx, .slice va vn vc] 25)) (.cells #[.slice kb kn' kc', .int .u64 sy, .int .i64 ky, .slice vb vn' vc'] 25)
  rw [World.size_alloc] at n1
  have B1 := hide b1
  have K := hide (h.below b1)
  have K' := hide (h'.below b1)
  have N0 := hide n0'
  have N1 := hide n1
  have hval : cmpE (x, sx) (y, sy) = if cmpB x y < 0 then -1 else if cmpB y x < 0 then 1 else if sy < sx then -1 else if sx < sy then 1 else 0 := by
    unfold cmpE
    have h1 := cmpB_vals x y
    have h2 := cmpB_swap x y
    simp only
    repeat' split
    all_goals omega
  have HV := hide hval
  clear b0 b1 n0' n1 h h' hval
  go_enter Try.func48, Try.ntmps48
  go_wp2_with fail
  generalize (w.alloc (.cells #[.slice ka kn kc, .int .u64 sx, .int .i64 kx, .slice va vn vc] 25)).alloc (.cells #[.slice kb kn' kc', .int .u64 sy, .int .i64 ky, .slice vb vn' vc'] 25) = w0 at *
  generalize hG : w.heap.size = G at *
  have HG := hide hG
  clear hG
  refine (rbefore_any ka kb kn kn' kc kc' x y w0 K.out K'.out hn hn').mono ?_
  rintro e w1 ⟨rfl, m1, rfl⟩
  have c0 : (w0.drewN m1).cell? ⟨G, 0, none⟩ = some (.slice ka kn kc) := cell_of_row w0 G 0 _ 25 (0, 0) N0.out
  have c1 : (w0.drewN m1).cell? ⟨G, 1, none⟩ = some (.int .u64 sx) := cell_of_row w0 G 1 _ 25 (0, 0) N0.out
  have d0 : (w0.drewN m1).cell? ⟨G + 1, 0, none⟩ = some (.slice kb kn' kc') := cell_of_row w0 (G + 1) 0 _ 25 (0, 0) N1.out
  have d1 : (w0.drewN m1).cell? ⟨G + 1, 1, none⟩ = some (.int .u64 sy) := cell_of_row w0 (G + 1) 1 _ 25 (0, 0) N1.out
  have BB := hide (belowN B1.out m1)
  have K2 := hide (K.out.drewN m1)
  have K2' := hide (K'.out.drewN m1)
  generalize w0.drewN m1 = w2 at *
  by_cases h1 : cmpB x y < 0
  · rw [decide_eq_true h1]
    go_wp2_with fail
    go_ret
    go_light
    exact ⟨by rw [HV.out, if_pos (by omega)]; rfl, by rw [HG.out]; exact BB.out⟩
  · rw [decide_eq_false h1]
    go_wp2_with fail
    refine (rbefore_any kb ka kn' kn kc' kc y x w2 K2'.out K2.out hn' hn).mono ?_
    rintro e w3 ⟨rfl, m3, rfl⟩
    have c1' : (w2.drewN m3).cell? ⟨G, 1, none⟩ = some (.int .u64 sx) := c1
    have d1' : (w2.drewN m3).cell? ⟨G + 1, 1, none⟩ = some (.int .u64 sy) := d1
    have BB3 := hide (belowN BB.out m3)
    generalize w2.drewN m3 = w3 at *
    clear c0 c1 d0 d1
    by_cases h2 : cmpB y x < 0
    · rw [decide_eq_true h2]
      go_wp2_with fail
      go_ret
      go_light
      exact ⟨by rw [HV.out, if_neg (by omega), if_pos (by omega)]; rfl, by rw [HG.out]; exact BB3.out⟩
    · rw [decide_eq_false h2]
      by_cases h3 : sy < sx
      · have h3' : (sy : Int) < (sx : Int) := by omega
        go_wp2_with fail
        go_ret
        go_light
        exact ⟨by rw [HV.out, if_neg (by omega), if_neg (by omega), if_pos (by omega)]; rfl, by rw [HG.out]; exact BB3.out⟩
      · have h3' : ¬ (sy : Int) < (sx : Int) := by omega
        by_cases h4 : sx < sy
        · have h4' : (sx : Int) < (sy : Int) := by omega
          go_wp2_with fail
          go_ret
          go_light
          exact ⟨by rw [HV.out, if_neg (by omega), if_neg (by omega), if_neg (by omega), if_pos (by omega)]; rfl, by rw [HG.out]; exact BB3.out⟩
        · have h4' : ¬ (sx : Int) < (sy : Int) := by omega
          go_wp2_with fail
          go_ret
          go_light
          exact ⟨by rw [HV.out, if_neg (by omega), if_neg (by omega), if_neg (by omega), if_neg (by omega)]; rfl, by rw [HG.out]; exact BB3.out⟩
end Go.Proofs.Ytjnpendihdlgnaa
