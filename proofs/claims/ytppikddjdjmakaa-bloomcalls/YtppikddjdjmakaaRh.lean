/-
  The document's answer: Has.
-/
import Derived.Test.YtppikddjdjmakaaRm
namespace Go.Proofs.Ytppikddjdjmakaa
open Go.RowKit
set_option maxRecDepth 100000
set_option maxHeartbeats 4000000
theorem bit_m (x : BitVec 8) (n : Nat) : ((x.toNat : Int) / 2 ^ n) % 2 = if x.getLsbD n then 1 else 0 := by
  have e2 : ((x.toNat : Int) / 2 ^ n) = ((x.toNat >>> n : Nat) : Int) := by
    rw [Nat.shiftRight_eq_div_pow, Int.natCast_ediv]
    norm_cast
  rw [e2, BitVec.getLsbD, Nat.testBit, Nat.and_comm, Nat.and_one_is_mod]
  have : x.toNat >>> n % 2 = 0 ∨ x.toNat >>> n % 2 = 1 := by omega
  rcases this with h | h
  · rw [h, show ((x.toNat >>> n : Nat) : Int) % 2 = 0 by omega]; rfl
  · rw [h, show ((x.toNat >>> n : Nat) : Int) % 2 = 1 by omega]; rfl
theorem bit_t (x : BitVec 8) (n : Nat) : (((x.toNat : Int) / 2 ^ n).tmod 2 == 0) = !(x.getLsbD n) := by
  have h0 : (0 : Int) ≤ (x.toNat : Int) / 2 ^ n := Int.ediv_nonneg (by omega) (Int.pow_nonneg (by decide))
  rw [Int.tmod_eq_emod_of_nonneg h0, bit_m]
  cases x.getLsbD n <;> rfl
theorem rhas_short (a ka : Option Addr) (n c kn kc : Nat) (w : World) (h : n < 2 ∨ 1048577 < n) :
    Calls Try.prog 20 #[.slice a n c, .slice ka kn kc] w fun e w' => e = .returned (.bool true) ∧ Below w.heap.size w w' := by
  by_cases h2 : n < 2
  · have h2' : (n : Int) < 2 := by omega
    clear h
    go_enter Try.func20, Try.ntmps20
    go_wp2_with fail
    go_ret
    exact ⟨rfl, Below.refl _ _⟩
  · have h3 : 1048577 < (n : Int) := by omega
    have h2' : ¬ (n : Int) < 2 := by omega
    clear h
    go_enter Try.func20, Try.ntmps20
    go_wp2_with fail
    go_ret
    exact ⟨rfl, Below.refl _ _⟩
theorem rhas_loop (b off c s kn kc : Nat) (ka : Option Addr) (f key : List (BitVec 8)) (w : World) (hf : Bytes w (.slice (some ⟨b, off, none⟩) (s + 1) c) f) (hk : Bytes w (.slice ka kn kc) key) (hkn : kn ≤ 1000000000) (h1 : 1 ≤ s) (h2 : s ≤ 1048576) :
    Calls Try.prog 20 #[.slice (some ⟨b, off, none⟩) (s + 1) c, .slice ka kn kc] w fun e w' => e = .returned (.bool (hasB f key)) ∧ Below w.heap.size w w' := by
  have hl := hf.len
  have HF := hide hf
  have HH := hide (rhash_any ka kn kc key w hk hkn)
  have hkc : w.cell? ⟨b, off + s, none⟩ = some (.int .u8 ((f.getD s 0).toNat : Int)) := hf.at s (by omega)
  have HV : Hid (hasB f key = (decide ((f.getD s 0).toNat < 1) || decide (30 < (f.getD s 0).toNat) || (probes (hashB key).toNat (s * 8) (f.getD s 0).toNat).all (bitOf f))) := hide (by
    have e1 : decide (f.length < 2) = false := decide_eq_false (by omega)
    have e2 : decide (1048577 < f.length) = false := decide_eq_false (by omega)
    unfold hasB lastB
    rw [e1, e2, ← hl, Nat.add_sub_cancel]
    rfl)
  have hvl := (hashB key).isLt
  generalize (hashB key).toNat = hv at *
  have hkb := (f.getD s 0).isLt
  generalize (f.getD s 0).toNat = k at *
  have HL := hide hl
  obtain ⟨N, hN⟩ : ∃ N, s * 8 = N := ⟨_, rfl⟩
  have hN8 : (s : Int) * 8 = (N : Int) := by omega
  rw [hN] at HV
  have HNS := hide hN
  have hbw := block_lt_of_cell hkc
  have n1 : ¬ ((s : Int) + 1 < 2) := by omega
  have n2 : ¬ (1048577 < (s : Int) + 1) := by omega
  have i1 : (s : Int) < (s : Int) + 1 := by omega
  have hN1 : 1 ≤ N := by omega
  have hN2 : N ≤ 8388608 := by omega
  clear hf hk hl hN
  by_cases hkk : k < 1 ∨ 30 < k
  · have HPR := hide (rprobes_bad hv (N : Nat) (k : Nat) w (by omega))
    have HVT : Hid (hasB f key = true) := hide (by
      rw [HV.out]
      rcases hkk with h | h
      · rw [decide_eq_true h]; rfl
      · rw [decide_eq_true h]; simp)
    clear hkk
    go_enter Try.func20, Try.ntmps20
    go_wp2_with (first | (go_at_call 19; refine HH.out.mono ?_; rintro e w2 ⟨rfl, hw2⟩; subst hw2) | (go_at_call 14; refine HPR.out.mono ?_; rintro e w3 ⟨rfl, hw3⟩; subst hw3))
    go_ret
    exact ⟨by rw [HVT.out]; rfl, Below.refl _ _⟩
  · have HPR := hide (rprobes_ok hv N k w hvl hN1 hN2 (by omega) (by omega))
    rw [decide_eq_false (show ¬ k < 1 by omega), decide_eq_false (show ¬ 30 < k by omega)] at HV
    have hk30 : k ≤ 30 := by omega
    clear hkk
    go_enter Try.func20, Try.ntmps20
    go_wp2_with (first | (go_at_call 19; refine HH.out.mono ?_; rintro e w2 ⟨rfl, hw2⟩; subst hw2) | (go_at_call 14; refine HPR.out.mono ?_; rintro e w3 ⟨v, rfl, hir, b3⟩; obtain ⟨va, vc, hv2⟩ := hir.len; rw [probes_length] at hv2; subst hv2))
    have HIR := hide hir
    have B3 := hide b3
    clear hir b3 HPR HH hkc
    go_loopw [8] (fun x wr => ∃ j m : Nat, x = .int .i64 (j : Nat) ∧ j ≤ k ∧ (∀ p, p ∈ (probes hv N k).take j → bitOf f p = true) ∧ wr = w3.drewN m) (fun x _ => k - (intOf x).toNat)
    case atStart => exact ⟨0, 0, rfl, Nat.zero_le _, fun p hp => (by simp at hp), rfl⟩
    case round =>
      obtain ⟨j, m, rfl, hjk, hall, hwr⟩ := hrel
      have HALL := hide hall
      have hia : IntsAt wr (.slice va k vc) (probes hv N k) := by rw [hwr]; exact HIR.out.at
      have BW : Hid (Below w2.heap.size w2 wr) := hide (by rw [hwr]; exact ⟨B3.out.os, B3.out.tape, B3.out.output, B3.out.size, B3.out.block⟩)
      have HWR := hide hwr
      clear hall hwr
      by_cases hj : j < k
      · obtain ⟨ht1, ht2⟩ := take_probes hv N k j hj
        have HT1 := hide ht1
        have HM : Hid (prb hv N j ∈ probes hv N k) := hide (List.mem_of_getElem? ht2)
        obtain ⟨b', off', rfl, hc2⟩ := hia.at j _ ht2
        have hpN := prb_lt hv N j hN1
        have hpl : prb hv N j / 8 < s := by have := HNS.out; omega
        have c3 : wr.cell? ⟨b, off + prb hv N j / 8, none⟩ = some (.int .u8 ((f.getD (prb hv N j / 8) 0).toNat : Int)) := (BW.out.cell (p := ⟨b, off + prb hv N j / 8, none⟩) hbw).trans (HF.out.at (prb hv N j / 8) (by have := HL.out; omega))
        have HBX : Hid (bitOf f (prb hv N j) = (f.getD (prb hv N j / 8) 0).getLsbD (prb hv N j % 8)) := hide rfl
        have hq := bit_t (f.getD (prb hv N j / 8) 0) (prb hv N j % 8)
        generalize prb hv N j = p at *
        obtain ⟨pb, hpb⟩ : ∃ pb, p / 8 = pb := ⟨_, rfl⟩
        obtain ⟨pm, hpm⟩ : ∃ pm, p % 8 = pm := ⟨_, rfl⟩
        have hpm8 : pm < 8 := by omega
        rw [hpb] at c3 hq hpl HBX
        rw [hpm] at hq HBX
        have HQ := hide hq
        clear hq
        have e1 : (p : Int) / 8 = (pb : Int) := by omega
        have e2 : (p : Int) % 8 = (pm : Int) := by omega
        have j0 : (0 : Int) ≤ (pb : Int) := by omega
        have j1 : (pb : Int) < (s : Int) + 1 := by omega
        have jj1 : (j : Int) < (k : Int) := by omega
        have jj0 : (0 : Int) ≤ (j : Int) := by omega
        have ho := (f.getD pb 0).isLt
        clear hia ht1 ht2
        by_cases hbit : (f.getD pb 0).getLsbD pm = true
        · rw [hbit] at HQ
          have HB2 := hide (HBX.out.trans hbit)
          clear hbit hpb hpm HBX
          generalize (f.getD pb 0).toNat = old at *
          go_wp2_with fail
          go_quiet (fail)
          rw [HQ.out]
          clear e1 e2 HQ
          generalize ((old : Int) / 2 ^ pm).tmod 2 = t1
          generalize (old : Int) / 2 ^ pm = t2
          generalize (p : Int) % 8 = t3
          clear n1 n2 i1 j0 j1 jj0 jj1 hpm8 hpl hpN
          go_wp2
          exact ⟨⟨j + 1, m + nq, by go_num, by omega, fun y hy => by
            rw [HT1.out] at hy
            rcases List.mem_append.1 hy with hy | hy
            · exact HALL.out y hy
            · obtain rfl := List.mem_singleton.1 hy
              exact HB2.out, by rw [HWR.out, World.drewN_drewN]⟩, by simp [intOf]; omega⟩
        · rw [Bool.eq_false_iff.2 hbit] at HQ
          have HB2 := hide (HBX.out.trans (Bool.eq_false_iff.2 hbit))
          clear hbit hpb hpm HBX
          generalize (f.getD pb 0).toNat = old at *
          go_wp2_with fail
          go_quiet (fail)
          rw [HQ.out]
          clear e1 e2 HQ
          generalize ((old : Int) / 2 ^ pm).tmod 2 = t1
          generalize (old : Int) / 2 ^ pm = t2
          generalize (p : Int) % 8 = t3
          clear n1 n2 i1 j0 j1 jj0 jj1 hpm8 hpl hpN
          go_wp2
          go_ret
          refine ⟨?_, ⟨BW.out.os, BW.out.tape, BW.out.output, BW.out.size, BW.out.block⟩⟩
          rw [HV.out]
          refine congrArg Ending.returned (congrArg Value.bool ?_)
          symm
          show List.all _ _ = false
          rw [List.all_eq_false]
          exact ⟨p, HM.out, by rw [HB2.out]; decide⟩
      · obtain rfl : j = k := by omega
        have HTK := hide (show (probes hv N j).take j = probes hv N j from List.take_of_length_le (by rw [probes_length]; exact Nat.le_refl _))
        clear hia
        go_wp2_with fail
        go_ret
        refine ⟨?_, BW.out⟩
        rw [HV.out]
        refine congrArg Ending.returned (congrArg Value.bool ?_)
        symm
        show List.all _ _ = true
        rw [List.all_eq_true]
        intro y hy
        exact HALL.out y (by rw [HTK.out]; exact hy)
theorem rhas_any (a ka : Option Addr) (n c kn kc : Nat) (f key : List (BitVec 8)) (w : World) (hf : Bytes w (.slice a n c) f) (hk : Bytes w (.slice ka kn kc) key) (hkn : kn ≤ 1000000000) :
    Calls Try.prog 20 #[.slice a n c, .slice ka kn kc] w fun e w' => e = .returned (.bool (hasB f key)) ∧ Below w.heap.size w w' := by
  have hl := hf.len
  by_cases h : n < 2 ∨ 1048577 < n
  · have e : hasB f key = true := by
      unfold hasB
      rw [← hl]
      rcases h with h | h <;> simp [h]
    rw [e]
    exact rhas_short a ka n c kn kc w h
  · obtain ⟨s, rfl⟩ : ∃ s, n = s + 1 := ⟨n - 1, by omega⟩
    obtain ⟨b, off, rfl⟩ := hf.addr (by omega)
    exact rhas_loop b off c s kn kc ka f key w hf hk hkn (by omega) (by omega)
end Go.Proofs.Ytppikddjdjmakaa
