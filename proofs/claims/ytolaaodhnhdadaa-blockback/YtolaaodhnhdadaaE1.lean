/-
  Looking through a block: is an entry ahead? which restart is the last that is?
-/
import Derived.Test.YtolaaodhnhdadaaC7
namespace Go.Proofs.Ytolaaodhnhdadaa
open Go.RowKit
set_option maxRecDepth 100000
set_option maxHeartbeats 8000000
/-- What is looked for, and how many entries were looked at. -/
def SB (w : World) (b : Nat) (ea : Option Addr) (n ec : Nat) (ka : Option Addr) (kn kc : Nat) (seq rd : Nat) : Prop :=
  w.heap[b]? = some (.cells #[.slice ea n ec, .slice ka kn kc, .int .u64 (seq : Nat), .int .i64 0, .slice none 0 0, .int .i64 (rd : Nat)] 60 (0, 0))
theorem isAhead_any (b : Nat) (ea : Option Addr) (n ec : Nat) (ka : Option Addr) (kn kc seq rd : Nat) (R : List Tow) (key : List (BitVec 8)) (w : World) (hb : SB w b ea n ec ka kn kc seq rd) (hn : n = R.length) (i : Nat) (x : Tow) (hx : R[i]? = some x) (hrd : rd ≤ 1000000)
    (hbE : ∀ u, Turns (fun j => j = b) w u → Ents u ea R ∧ Bytes u (.slice ka kn kc) key) :
    Calls Try.prog 32 #[.pointer (some ⟨b, 0, none⟩), .int .i64 (i : Nat)] w fun e w' => e = .returned (.bool (decide (cmpE x.e.en (key, seq) < 0))) ∧ SB w' b ea n ec ka kn kc seq (rd + 1) ∧ Turns (fun j => j = b) w w' := by
  have hil : i < R.length := (List.getElem?_eq_some_iff.1 hx).1
  have c5 : w.cell? ⟨b, 5, none⟩ = some (.int .i64 (rd : Nat)) := cell_of_row w b 5 _ 60 (0, 0) hb
  have z5 := frozen_of_row w b 5 _ 60 hb
  have hb1 := heap_setCell_same _ b 5 _ 60 (.int .i64 ((rd : Int) + 1)) hb
  simp only [List.setIfInBounds_toArray, List.set_cons_succ, List.set_cons_zero] at hb1
  have t1 := tq w b 5 (.int .i64 ((rd : Int) + 1))
  have HB1 := hide hb1
  have T1 := hide t1
  obtain ⟨hE1, hk1⟩ := hbE _ t1
  obtain ⟨⟨b', off, rfl, hc⟩, k1, k2⟩ := hE1 i x hx
  obtain ⟨xa, xc, va, vc, e⟩ := x
  have i1 : (i : Int) < (n : Int) := by omega
  have i0 : (0 : Int) ≤ (i : Int) := by omega
  clear hb hbE hx hil hn
  go_enter Try.func32, Try.ntmps32
  go_wp2_with fail
  generalize w.setCell ⟨b, 5, none⟩ (.int .i64 ((rd : Int) + 1)) = w1 at *
  have f0 : w1.cell? ⟨b', off + i * 4, none⟩ = some (.slice xa e.key.length xc) := hc 0 _ rfl
  have f1 : w1.cell? ⟨b', off + i * 4 + 1, none⟩ = some (.int .u64 (e.seq : Nat)) := hc 1 _ rfl
  have f2 : w1.cell? ⟨b', off + i * 4 + 2, none⟩ = some (.int .i64 e.kind) := hc 2 _ rfl
  have f3 : w1.cell? ⟨b', off + i * 4 + 3, none⟩ = some (.slice va e.val.length vc) := hc 3 _ rfl
  have d0 : w1.cell? ⟨b, 0, none⟩ = some (.slice (some ⟨b', off, none⟩) n ec) := cell_of_row w1 b 0 _ 60 (0, 0) hb1
  have d1 : w1.cell? ⟨b, 1, none⟩ = some (.slice ka kn kc) := cell_of_row w1 b 1 _ 60 (0, 0) hb1
  have d2 : w1.cell? ⟨b, 2, none⟩ = some (.int .u64 (seq : Nat)) := cell_of_row w1 b 2 _ 60 (0, 0) hb1
  have d3 : w1.cell? ⟨b, 3, none⟩ = some (.int .i64 0) := cell_of_row w1 b 3 _ 60 (0, 0) hb1
  have d4 : w1.cell? ⟨b, 4, none⟩ = some (.slice none 0 0) := cell_of_row w1 b 4 _ 60 (0, 0) hb1
  have t0 : Turns (fun _ => False) w1 w1.drew := (Turns.refl _ _).drew
  have HQ := hide (compare_any xa ka va none e.key.length xc e.val.length vc kn kc 0 0 e.kind 0 e.seq seq e.key key w1.drew (Bytes.quiet k1 t0) (Bytes.quiet hk1 t0))
  clear hc k1 k2 hk1 hE1 t0 hb1 t1 c5 z5
  generalize hcv : cmpE (e.key, e.seq) (key, seq) = cv at *
  have HCV := hide hcv
  clear hcv
  go_region_held (fun w' => ((w'.cell? ⟨b', off + i * 4, none⟩ = some (.slice xa e.key.length xc) ∧ w'.cell? ⟨b', off + i * 4 + 1, none⟩ = some (.int .u64 (e.seq : Nat)) ∧ w'.cell? ⟨b', off + i * 4 + 2, none⟩ = some (.int .i64 e.kind) ∧ w'.cell? ⟨b', off + i * 4 + 3, none⟩ = some (.slice va e.val.length vc)) ∧ w'.cell? ⟨b, 0, none⟩ = some (.slice (some ⟨b', off, none⟩) n ec)) ∧ w'.cell? ⟨b, 1, none⟩ = some (.slice ka kn kc) ∧ w'.cell? ⟨b, 2, none⟩ = some (.int .u64 (seq : Nat)) ∧ w'.cell? ⟨b, 3, none⟩ = some (.int .i64 0) ∧ w'.cell? ⟨b, 4, none⟩ = some (.slice none 0 0)) (first | (with_reducible exact ⟨⟨⟨g0, g1, g2, g3⟩, y0⟩, y1, y2, y3, y4⟩) | (simp only [World.cell?_drew]; with_reducible exact ⟨⟨⟨f0, f1, f2, f3⟩, d0⟩, d1, d2, d3, d4⟩)) (first
    | (go_at_call 46; refine HQ.out.mono ?_; rintro x w2 ⟨rfl, b2⟩; have t2 := (Turns.refl (fun _ => False) w1).drew.trans (Turns.of_below b2 (fun _ => False)); have g0 := t2.cell f0 (fun x => x); have g1 := t2.cell f1 (fun x => x); have g2 := t2.cell f2 (fun x => x); have g3 := t2.cell f3 (fun x => x); have y0 := t2.cell d0 (fun x => x); have y1 := t2.cell d1 (fun x => x); have y2 := t2.cell d2 (fun x => x); have y3 := t2.cell d3 (fun x => x); have y4 := t2.cell d4 (fun x => x); have T2 := hide t2; clear t2 b2))
  clear g0 g1 g2 g3 y0 y1 y2 y3 y4
  go_wp2_with fail
  go_ret
  go_light
  refine ⟨?_, T2.out.heap HB1.out (fun x => x), T1.out.trans (T2.out.mono fun _ _ x => x.elim)⟩
  unfold Ent.en
  rw [HCV.out]
  rfl
/-- How often so many can be halved. -/
def cl (r : Nat) : Nat := if r ≤ 1 then 0 else cl ((r + 1) / 2) + 1
termination_by r
decreasing_by omega
theorem cl_le1 {r : Nat} (h : r ≤ 1) : cl r = 0 := by rw [cl, if_pos h]
theorem cl_gt1 {r : Nat} (h : ¬ r ≤ 1) : cl r = cl ((r + 1) / 2) + 1 := by rw [cl, if_neg h]
theorem cl_mono : ∀ (b a : Nat), a ≤ b → cl a ≤ cl b := by
  intro b
  induction b using Nat.strongRecOn with
  | ind b ih =>
    intro a hab
    by_cases ha : a ≤ 1
    · rw [cl_le1 ha]; omega
    · rw [cl_gt1 ha, cl_gt1 (by omega : ¬ b ≤ 1)]
      have := ih ((b + 1) / 2) (by omega) ((a + 1) / 2) (by omega)
      omega
theorem cl_le : ∀ r : Nat, cl r ≤ r := by
  intro r
  induction r using Nat.strongRecOn with
  | ind r ih =>
    by_cases h : r ≤ 1
    · rw [cl_le1 h]; omega
    · rw [cl_gt1 h]
      have := ih ((r + 1) / 2) (by omega)
      omega
theorem halve_any (b : Nat) (ea : Option Addr) (n ec : Nat) (ka : Option Addr) (kn kc seq : Nat) (R : List Tow) (key : List (BitVec 8)) (w : World) (hb : SB w b ea n ec ka kn kc seq 0) (hn : n = R.length) (hmx : n ≤ 100000) (h0 : 0 < n) (K : Nat) (hK : ∀ j x, R[j]? = some x → (cmpE x.e.en (key, seq) < 0 ↔ j < K))
    (hbE : ∀ u, Turns (fun j => j = b) w u → Ents u ea R ∧ Bytes u (.slice ka kn kc) key) :
    Calls Try.prog 31 #[.pointer (some ⟨b, 0, none⟩)] w fun e w' => ∃ lo looks : Nat, e = .returned (.int .i64 (lo : Nat)) ∧ SB w' b ea n ec ka kn kc seq looks ∧ looks ≤ cl ((n - 1) / 16 + 1) ∧ (lo = 0 ∨ 16 * lo < K) ∧ 16 * lo < n ∧ (lo = (n - 1) / 16 ∨ K ≤ 16 * (lo + 1)) ∧ Turns (fun j => j = b) w w' := by
  have d0 : w.cell? ⟨b, 0, none⟩ = some (.slice ea n ec) := cell_of_row w b 0 _ 60 (0, 0) hb
  have HB := hide hb
  have HL := hide hn
  have HK := hide hK
  have HE := hide hbE
  obtain ⟨n1, rfl⟩ : ∃ n1, n = n1 + 1 := ⟨n - 1, by omega⟩
  rw [Nat.add_sub_cancel]
  have hw1 : IntKind.i64.wrap (n1 : Int) = (n1 : Int) := wrapI _ (by omega) (by omega)
  clear hb hn hK hbE
  go_enter Try.func31, Try.ntmps31
  go_wp2_with fail
  go_quiet (fail)
  go_wp2_with fail
  have hdv : (n1 : Int) / 16 = ((n1 / 16 : Nat) : Int) := by omega
  go_loopw [3, 4] (fun v3 v4 wr => ∃ lo hi looks : Nat, v3 = .int .i64 (lo : Nat) ∧ v4 = .int .i64 (hi : Nat) ∧ lo ≤ hi ∧ hi ≤ n1 / 16 ∧ (lo = 0 ∨ 16 * lo < K) ∧ (hi = n1 / 16 ∨ K ≤ 16 * (hi + 1)) ∧ looks + cl (hi - lo + 1) ≤ cl (n1 / 16 + 1) ∧ SB wr b ea (n1 + 1) ec ka kn kc seq looks ∧ Turns (fun j => j = b) w wr) (fun v3 v4 _ => (intOf v4).toNat - (intOf v3).toNat)
  case atStart =>
    refine ⟨0, n1 / 16, 0, rfl, ?_, by omega, Nat.le_refl _, .inl rfl, .inl rfl, by simp, HB.out, turnsN _ _⟩
    first | rfl | (rw [← hdv]) | (congr 1; omega)
  case round =>
    clear hdv
    obtain ⟨lo, hi, looks, rfl, rfl, h1, h2, h3, h4, h5, hS, hT⟩ := hrel
    have HS := hide hS
    have HT := hide hT
    have H3 := hide h3
    have H4 := hide h4
    have H5 := hide h5
    clear hS hT h3 h4 h5
    by_cases hlt : lo < hi
    · have hlt' : (lo : Int) < (hi : Int) := by omega
      obtain ⟨m, hm⟩ : ∃ m, m = (lo + hi + 1) / 2 := ⟨_, rfl⟩
      have hmv : ((lo : Int) + (hi : Int) + 1) / 2 = (m : Int) := by omega
      have hm1 : lo < m := by omega
      have hm2 : m ≤ hi := by omega
      have hml : 16 * m < R.length := by have := HL.out; omega
      have hmm : (m : Int) * 16 = ((m * 16 : Nat) : Int) := by omega
      have hlk : looks ≤ 100000 := by have h1 := H5.out; have h2 := cl_le (n1 / 16 + 1); omega
      have HQ := hide (isAhead_any b ea (n1 + 1) ec ka kn kc seq looks R key wr HS.out HL.out (m * 16) R[16 * m] (by rw [Nat.mul_comm]; exact List.getElem?_eq_getElem hml) (by omega) (fun u t => HE.out u (HT.out.trans t)))
      have hah := HK.out (16 * m) R[16 * m] (List.getElem?_eq_getElem hml)
      have hdec : decide (cmpE R[16 * m].e.en (key, seq) < 0) = decide (16 * m < K) := decide_eq_decide.2 hah
      rw [hdec] at HQ
      clear hah hdec
      have hw2 : IntKind.i64.wrap ((m : Int) - 1) = ((m - 1 : Nat) : Int) := by rw [wrapI _ (by omega) (by omega)]; omega
      have hmi : ((m * 16 : Nat) : Int) = (m : Int) * 16 := by omega
      rw [hmi] at HQ
      have hcl : cl (hi - m + 1) + 1 ≤ cl (hi - lo + 1) ∧ cl (m - 1 - lo + 1) + 1 ≤ cl (hi - lo + 1) := by
        rw [cl_gt1 (by omega : ¬ hi - lo + 1 ≤ 1)]
        have c1 := cl_mono ((hi - lo + 1 + 1) / 2) (hi - m + 1) (by omega)
        have c2 := cl_mono ((hi - lo + 1 + 1) / 2) (m - 1 - lo + 1) (by omega)
        omega
      have HCL := hide hcl
      have hb0 : (lo : Int) ≤ 100000 := by omega
      have hb1 : (hi : Int) ≤ 100000 := by omega
      have hb2 : (m : Int) ≤ 100000 := by omega
      clear hcl hmm hmi hm
      go_upto_region 3 with (fail)
      go_cut [5] from 13 to 27 (fun v5 wx => v5 = .int .i64 (m : Nat) ∧ wx = wr)
      case first =>
        rename_i kk rest jj kk' m1 m2
        clear rest
        go_wp2_with fail
        go_meet
        exact ⟨by rw [hmv], rfl⟩
      case rest =>
        obtain ⟨rfl, hwc⟩ := hcut
        rw [hwc]
        clear hwc hmv hlt'
        by_cases hah : 16 * m < K
        · go_wp2_with fail
          refine HQ.out.mono ?_
          rintro e w2 ⟨rfl, hS2, t2⟩
          rw [decide_eq_true hah]
          have HS2 := hide hS2
          have HT2 := hide (HT.out.trans t2)
          clear hS2 t2 HQ
          go_wp2_with fail
          go_roundw
          case rel =>
            go_light
            exact ⟨m, hi, looks + 1, rfl, rfl, hm2, h2, .inr hah, H4.out, by have := H5.out; have := HCL.out.1; omega, HS2.out, HT2.out⟩
          case measure => go_light; simp [intOf]; omega
        · go_wp2_with fail
          refine HQ.out.mono ?_
          rintro e w2 ⟨rfl, hS2, t2⟩
          rw [decide_eq_false hah]
          have HS2 := hide hS2
          have HT2 := hide (HT.out.trans t2)
          clear hS2 t2 HQ
          go_wp2_with fail
          go_roundw
          case rel =>
            go_light
            exact ⟨lo, m - 1, looks + 1, rfl, by first | rfl | go_num | rw [hw2], by omega, by omega, H3.out, .inr (by omega), by have := H5.out; have := HCL.out.2; omega, HS2.out, HT2.out⟩
          case measure => go_light; simp [intOf]; omega
    · have hlt' : ¬ (lo : Int) < (hi : Int) := by omega
      obtain rfl : lo = hi := by omega
      go_wp2_with fail
      go_ret
      go_light
      exact ⟨lo, rfl, looks, HS.out, by have := H5.out; omega, H3.out, by omega, H4.out, HT.out⟩
end Go.Proofs.Ytolaaodhnhdadaa
