/-
  BloomKeeps where there is a filter, walked.
-/
import Derived.Test.YtppikddjdjmakaaKpW
namespace Go.Proofs.Ytppikddjdjmakaa
open Go.RowKit
set_option maxRecDepth 100000
set_option maxHeartbeats 4000000
theorem setB_last (f : List (BitVec 8)) (p : Nat) (h : p / 8 + 1 < f.length) : lastB (setB f p) = lastB f := by
  unfold lastB
  rw [setB_length]
  unfold setB
  rw [List.getD_eq_getElem?_getD, List.getElem?_set_ne (by omega), ← List.getD_eq_getElem?_getD]
/-- A filter with more bits set. -/
structure More (ks : List (List (BitVec 8))) (c N k : Nat) (f : List (BitVec 8)) : Prop where
  len : f.length = N / 8 + 1
  last : lastB f = k
  bits : ∀ p, p < N → bitOf (filt ks c) p = true → bitOf f p = true
theorem More.set {ks : List (List (BitVec 8))} {c N k : Nat} {f : List (BitVec 8)} (h : More ks c N k f) (hN : N % 8 = 0) (p : Nat) (hp : p < N) : More ks c N k (setB f p) := by
  have hl := h.len
  refine ⟨by rw [setB_length]; exact hl, by rw [setB_last f p (by omega)]; exact h.last, fun q hq hb => ?_⟩
  rw [bitOf_set f p q (by omega), h.bits q hq hb]
  rfl
theorem pick_facts {w : World} {g : Nat} {f : List (BitVec 8)} (h : FRow w g f) (q p : Nat) (hl : f.length = q + 1) (hp : p / 8 < q) :
    ∃ (pb pm : Nat) (old sh nw : BitVec 8), (p : Int) / 8 = (pb : Int) ∧ (p : Int) % 8 = (pm : Int) ∧ (0 : Int) ≤ (pb : Int) ∧ (pb : Int) < (q : Int) + 1 ∧ w.cell? ⟨g, pb, none⟩ = some (.int .u8 (old.toNat : Int)) ∧ w.frozen? ⟨g, pb, none⟩ = false ∧ pm < 8 ∧
      IntKind.u8.wrap (2 ^ pm) = (sh.toNat : Int) ∧ bits BinOp.or IntKind.u8 (old.toNat : Int) (sh.toNat : Int) = (nw.toNat : Int) ∧ Hid (setB f p = f.set pb nw) :=
  ⟨p / 8, p % 8, f.getD (p / 8) 0, 1#8 <<< (p % 8), f.getD (p / 8) 0 ||| 1#8 <<< (p % 8), by omega, by omega, by omega, by omega, h.cell (p / 8) (by omega), h.frozen _, by omega, shl_b _ (by omega), or_b _ _, rfl⟩
theorem keeps_ok (a : Option Addr) (m c' : Nat) (ks : List (List (BitVec 8))) (c : Nat) (ia : Option Addr) (im ic : Nat) (w : World) (hk : Keys w (.slice a m c') ks) (hI : Ints w ia im) (hm : m ≤ 200) (hw : wtK ks ≤ 20000) (him : im ≤ 200) (h1 : 1 ≤ c) (h2 : c ≤ 64) :
    Calls Try.prog 5 #[.slice a m c', .int .i64 (c : Nat), .slice ia im ic] w fun e w' => e = .returned (.bool true) ∧ Below w.heap.size w w' := by
  have hl := hk.len
  have h3 : ¬ 200 < (m : Int) := by omega
  have h4 : ¬ 200 < (im : Int) := by omega
  have hxl : ∀ x, x ∈ ks → x.length ≤ 20000 := fun x hx => by have := wtK_mem hx; omega
  have hmc : ks.length * c ≤ 8388608 := by
    have h5 := Nat.mul_le_mul (show ks.length ≤ 200 by omega) h2
    omega
  have HWG := hide (fun (W : World) (b : Below w.heap.size w W) => weigh_any a m c' ks W (hk.below b) hm (fun x hx => by have := hxl x hx; omega))
  have HMK := hide (fun (W : World) (b : Below w.heap.size w W) => make_ok a m c' ks c W (hk.below b) (fun x hx => by have := hxl x hx; omega) h1 h2 hmc)
  have HF0 : Hid (More ks c (nBits ks.length c) (kOf c) (filt ks c)) := hide ⟨filt_length ks c, filt_last ks c, fun _ _ h => h⟩
  have HHB : Hid (∀ f, More ks c (nBits ks.length c) (kOf c) f → ∀ x, x ∈ ks → hasB f x = true) := hide fun f hf x hx => has_keeps ks c f (by rw [hf.len, filt_length]) hf.last hf.bits x hx
  have hN := nBits_pos ks.length c
  have hN2 := nBits_le ks.length c hmc
  have HK := hide hk
  have HI := hide hI
  have HL := hide hl
  have HXL := hide hxl
  clear hk hI hl hmc hxl
  generalize nBits ks.length c = N at *
  generalize kOf c = k at *
  obtain ⟨hN64, hN8⟩ := hN
  have HN8 := hide hN8
  obtain ⟨q, hq⟩ : ∃ q, N / 8 = q := ⟨_, rfl⟩
  rw [hq] at HMK
  have HQ := hide hq
  have hqN : (q : Int) * 8 = (N : Int) := by omega
  have hq1 : q ≤ 1048576 := by omega
  generalize wtK ks = s at *
  have h5 : ¬ 20000 < (s : Int) := by omega
  clear hN8 hq
  go_enter Try.func5, Try.ntmps5
  go_wp2_with (first | (go_at_call 8; refine (lives_any _).mono ?_; rintro e w1 ⟨rfl, b1⟩) | (go_at_call 10; refine (HWG.out w1 b1).mono ?_; rintro e w2 ⟨rfl, rfl⟩) | (go_at_call 7; refine (HMK.out _ b1).mono ?_; rintro e w3 ⟨rfl, hrow, b3⟩))
  have hs1 := b1.size
  have B3 := hide (b1.trans (b3.mono hs1))
  have HROW := hide hrow
  generalize hg : w2.heap.size = g at *
  clear b1 b3 hrow hg
  go_loopw [9] (fun i wr => ∃ (j : Nat) (f : List (BitVec 8)), i = .int .i64 (j : Nat) ∧ j ≤ im ∧ FRow wr g f ∧ More ks c N k f ∧ Below w.heap.size w wr) (fun i _ => im - (intOf i).toNat)
  case atStart => exact ⟨0, filt ks c, rfl, Nat.zero_le _, HROW.out, HF0.out, B3.out⟩
  case round =>
    obtain ⟨j, f, rfl, hj, hrow, hmo, hb⟩ := hrel
    have HRW := hide hrow
    have HMO := hide hmo
    have HBW := hide hb
    clear hrow hmo hb
    by_cases hlt : j < im
    · obtain ⟨b, off, z, rfl, hc⟩ := HI.out j hlt
      have hc2 : wr.cell? ⟨b, off + j, none⟩ = some (.int .i64 z) := (HBW.out.cell (p := ⟨b, off + j, none⟩) (block_lt_of_cell hc)).trans hc
      have i1 : (j : Int) < (im : Int) := by omega
      have i0 : (0 : Int) ≤ (j : Int) := by omega
      have HPK := hide (pick_any z N (by omega) (by omega))
      clear hc
      go_wp2_with (go_at_call 21; refine (HPK.out _).mono ?_; rintro e w4 ⟨p, hp, rfl, rfl⟩; obtain ⟨pb, pm, old, sh, nw, e1, e2, j0, j1, c3, z3, e8, hsh, hnw, HSB⟩ := pick_facts HRW.out q p (by rw [HMO.out.len, HQ.out]) (by have := HQ.out; have := HN8.out; omega))
      exact ⟨⟨j + 1, f.set pb nw, by go_num, by omega, HRW.out.set pb nw, by rw [← HSB.out]; exact HMO.out.set HN8.out p hp, HBW.out.setCell (p := ⟨g, pb, none⟩) (by exact hs1) _⟩, by simp [intOf]; omega⟩
    · obtain rfl : j = im := by omega
      clear hj hlt
      go_wp2_with fail
      go_loopw [11] (fun i wt => ∃ (j : Nat), i = .int .i64 (j : Nat) ∧ j ≤ m ∧ FRow wt g f ∧ Below w.heap.size w wt) (fun i _ => m - (intOf i).toNat)
      case atStart => exact ⟨0, rfl, Nat.zero_le _, HRW.out, HBW.out⟩
      case round =>
        obtain ⟨i, rfl, hi, hrow2, hb2⟩ := hrel
        have HR2 := hide hrow2
        have HB2 := hide hb2
        clear hrow2 hb2
        by_cases hlt2 : i < m
        · obtain ⟨x, hx⟩ : ∃ x, ks[i]? = some x := ⟨_, List.getElem?_eq_getElem (by have := HL.out; omega)⟩
          obtain ⟨b, off, ka, kc, rfl, hcell, hB⟩ := (HK.out.below HB2.out).at i x hx
          have hmem := List.mem_of_getElem? hx
          have hxl := HXL.out x hmem
          have HHS := hide (has_any (some ⟨g, 0, none⟩) ka (q + 1) (q + 1) x.length kc f x _ (frow_bytes HR2.out (by rw [HMO.out.len, HQ.out])) hB (by omega))
          rw [HHB.out f HMO.out x hmem] at HHS
          generalize x.length = xl at *
          have i1 : (i : Int) < (m : Int) := by omega
          have i0 : (0 : Int) ≤ (i : Int) := by omega
          clear hx hB hmem
          go_wp2_with (go_at_call 9; refine HHS.out.mono ?_; rintro e w5 ⟨rfl, b5⟩)
          have hs2 := HB2.out.size
          exact ⟨⟨i + 1, by go_num, by omega, heap_keep b5 HR2.out, HB2.out.trans (b5.mono hs2)⟩, by simp [intOf]; omega⟩
        · have : ¬ (i : Int) < (m : Int) := by omega
          go_wp2_with fail
          go_ret
          exact ⟨rfl, HB2.out⟩
theorem keeps_any (a : Option Addr) (m c' : Nat) (ks : List (List (BitVec 8))) (c : Int) (ia : Option Addr) (im ic : Nat) (w : World) (hk : Keys w (.slice a m c') ks) (hI : Ints w ia im) (hw : ∀ x, x ∈ ks → x.length ≤ 140737488355328) :
    Calls Try.prog 5 #[.slice a m c', .int .i64 c, .slice ia im ic] w fun e w' => e = .returned (.bool true) ∧ Below w.heap.size w w' := by
  by_cases h1 : 200 < m
  · exact keeps_many a m c' c ia im ic w h1
  · by_cases h2 : 20000 < wtK ks ∨ 200 < im
    · exact keeps_heavy a m c' ks c ia im ic w hk (by omega) hw h2
    · by_cases h3 : c < 1 ∨ 64 < c
      · exact keeps_bad a m c' ks c ia im ic w hk (by omega) (by omega) (by omega) h3
      · obtain ⟨n, rfl⟩ : ∃ n : Nat, c = (n : Nat) := ⟨c.toNat, by omega⟩
        exact keeps_ok a m c' ks n ia im ic w hk hI (by omega) (by omega) (by omega) (by omega) (by omega)
end Go.Proofs.Ytppikddjdjmakaa
