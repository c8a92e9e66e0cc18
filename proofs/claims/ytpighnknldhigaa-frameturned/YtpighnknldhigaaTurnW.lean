/-
  A row in which any bit is turned tells the frames ahead of it, and an error.
-/
import Derived.Test.YtpighnknldhigaaCutW
namespace Go.Proofs.Ytpighnknldhigaa
open Go.RowKit

/-- A number's row does not lie in a row of bytes. -/
theorem OwnI.other {w : World} {B g p : Nat} {v u : Value} {zs : List Nat} {cs : Array Value} (h : OwnI w B v zs) (hg : w.heap[g]? = some (.cells cs 5 (0, 0))) : OwnI (w.setCell ⟨g, p, none⟩ u) B v zs := by
  rcases h with h | ⟨g', c, n, h1, h2, h0, h3, h4, cs', h5, h6, h7⟩
  · exact .inl h
  · refine .inr ⟨g', c, n, h1, h2, h0, h3, h4, cs', ?_, h6, h7⟩
    rw [heap_setCell_other _ _ _ _ (fun e => ?_), h5]
    have e' : g' = g := e
    rw [e', hg] at h5
    cases h5

theorem shl1_b (k : Nat) (h : k < 8) : (2 : Int) ^ k % (256 : Int) = ((1#8 <<< k).toNat : Int) := by
  have : ∀ k : Fin 8, (2 : Int) ^ k.val % (256 : Int) = ((1#8 <<< k.val).toNat : Int) := by decide +kernel
  exact this ⟨k, h⟩

set_option maxRecDepth 100000 in
set_option maxHeartbeats 4000000 in
theorem turned_any (a : Option Addr) (n c : Nat) (fs : List Frm) (at' : Int) (w : World) (h : Frs w (.slice a n c) fs) (hnc : n ≤ c) (hc : c ≤ reachBytes) (hb : ∀ f ∈ fs, f.2.length ≤ reachBytes) (ha1 : -9223372036854775808 ≤ at') (ha2 : at' ≤ 9223372036854775807) :
    Calls Try.prog 6 #[.slice a n c, .int .i64 at'] w fun e w' => e = .returned (.bool true) ∧ Below w.heap.size w w' := by
  have hr : reachBytes = 140737488351232 := rfl
  rw [hr] at hc hb
  have hb' : ∀ f ∈ fs, f.2.length ≤ 140737488355328 := fun f hf => Nat.le_trans (hb f hf) (by decide)
  have hl := h.len
  have H := hide h
  have HL := hide hl
  have HB := hide hb'
  clear h hl hb hb' hr
  by_cases h40 : 40 < n
  · go_enter Try.func6, Try.ntmps6
    go_wp2_with fail
    refine (lives_any _).mono ?_
    rintro e w1 ⟨rfl, b1⟩
    have B1 := hide b1
    clear b1
    go_wp2_with fail
    refine (small_many a n c fs _ (H.out.below B1.out) h40 (by omega) HB.out).mono ?_
    rintro e w2 ⟨rfl, rfl⟩
    go_wp2_with fail
    go_ret
    exact ⟨rfl, B1.out⟩
  by_cases htot : tot fs ≤ 4000
  · by_cases hn0 : n = 0
    · subst hn0
      go_enter Try.func6, Try.ntmps6
      go_wp2_with fail
      refine (lives_any _).mono ?_
      rintro e w1 ⟨rfl, b1⟩
      have B1 := hide b1
      clear b1
      go_wp2_with fail
      refine (small_few a 0 c fs _ (H.out.below B1.out) (by omega) HB.out).mono ?_
      rintro e w2 ⟨rfl, rfl⟩
      rw [decide_eq_true htot]
      go_wp2_with fail
      go_ret
      exact ⟨rfl, B1.out⟩
    have hn0' : ((n : Int) == 0) = false := by rw [beq_eq_false_iff_ne]; omega
    go_enter Try.func6, Try.ntmps6
    go_wp2_with fail
    refine (lives_any _).mono ?_
    rintro e w1 ⟨rfl, b1⟩
    have B1 := hide b1
    clear b1
    go_wp2_with fail
    refine (small_few a n c fs _ (H.out.below B1.out) (by omega) HB.out).mono ?_
    rintro e w2 ⟨rfl, rfl⟩
    rw [decide_eq_true htot]
    go_wp2_with fail
    refine (rowOf_any a n c fs _ (H.out.below B1.out) (by omega) htot).mono ?_
    rintro e w3 ⟨bv, ev, rfl, hob, hoi, b3⟩
    have hrl : (Fr.rowB fs).length ≤ 4480 ∧ 0 < (Fr.rowB fs).length := by
      have h1 : (Fr.rowB fs).length = tot fs + 12 * fs.length := Fr.rowB_len _
      have h2 := HL.out
      omega
    have hbod : ∀ f ∈ fs, f.2.length ≤ 1048576 := by
      intro f hf
      have := tot_mem fs f hf
      omega
    have B3 := hide (then_below B1.out b3 (Nat.le_refl _))
    obtain ⟨g, cb, L, rfl, hRL, hL0, hg, hLc, hrow⟩ : ∃ g cb L, bv = .slice (some ⟨g, 0, none⟩) L cb ∧ L = (Fr.rowB fs).length ∧ 0 < L ∧ w2.heap.size ≤ g ∧ L ≤ cb ∧ RowB w3 g cb (Fr.rowB fs) := by
      rcases hob with ⟨e, _⟩ | ⟨g, c, n, h1, h2, h3, h4, h5, h6⟩
      · rw [e] at hrl; simp at hrl
      · exact ⟨g, c, n, h1, h2, h3, h4, h5, h6⟩
    obtain ⟨ae, ce, rfl⟩ := hoi.len
    rw [← hRL] at hrl
    have hgw : w.heap.size ≤ g := Nat.le_trans B1.out.size hg
    have HROW := hide hrow
    have HOI := hide hoi
    have HBOD := hide hbod
    have HRL := hide hRL
    clear hoi b3 hbod hrow hRL hob
    generalize hR : Fr.rowB fs = R at *
    have HR := hide hR
    clear hR
    have hnn : ((n : Int) != (n : Int)) = false := by simp
    go_wp2_with fail
    refine (pick_any at' (L * 8 : Nat) _ (by omega) (by omega) ha1 ha2).mono ?_
    rintro e w4 ⟨rfl, rfl⟩
    obtain ⟨p, hK, hKL⟩ : ∃ p : Nat, pick at' (L * 8 : Nat) = p ∧ p < L * 8 := by
      have := pick_range at' (L * 8 : Nat) (by omega)
      exact ⟨(pick at' (L * 8 : Nat)).toNat, by omega, by omega⟩
    rw [hK]
    clear hK
    have hp8 : p / 8 < R.length := by have := HRL.out; omega
    have hcell : w4.cell? ⟨g, p / 8, none⟩ = some (.int .u8 ((R.getD (p / 8) 0).toNat : Nat)) := by
      have := (RowB.bytes (c' := cb) HROW.out rfl).at (p / 8) hp8
      rw [Nat.zero_add] at this
      exact this
    have hfrz : w4.frozen? ⟨g, p / 8, none⟩ = false := frozen_of_row w4 g (p / 8) _ 5 (HROW.out.choose_spec.1)
    have hset := RowB.set HROW.out p hp8
    have HSET := hide hset
    clear hset
    generalize hx : R.getD (p / 8) 0 = x at *
    clear hx
    have hxor : bits BinOp.xor IntKind.u8 (x.toNat : Int) (2 ^ (p % 8) % (256 : Int)) = ((x ^^^ 1#8 <<< (p % 8)).toNat : Int) := by
      rw [shl1_b _ (Nat.mod_lt _ (by omega)), xor_b]
    have HX := hide hxor
    clear hxor
    go_wp2_with fail
    rw [HX.out]
    have O5 := hide (HOI.out.other (p := p / 8) (u := .int .u8 ((x ^^^ 1#8 <<< (p % 8)).toNat : Int)) HROW.out.choose_spec.1)
    have B5 := hide (B3.out.setCell (p := ⟨g, p / 8, none⟩) hgw (.int .u8 ((x ^^^ 1#8 <<< (p % 8)).toNat : Int)))
    clear hcell hfrz
    generalize w4.setCell ⟨g, p / 8, none⟩ (.int .u8 ((x ^^^ 1#8 <<< (p % 8)).toNat : Int)) = w5 at *
    have F5 := hide (H.out.below B5.out)
    obtain ⟨K, hK⟩ : ∃ K : Nat, K = p / 8 := ⟨_, rfl⟩
    have hwl := Fr.wholes_le fs K
    have HWL := hide hwl
    clear hwl
    go_loopw [8] (fun nv wr => ∃ j : Nat, nv = .int .i64 (j : Nat) ∧ j ≤ Fr.wholes fs K ∧ wr = w5) (fun nv _ => n - (intOf nv).toNat)
    case atStart => exact ⟨0, rfl, Nat.zero_le _, rfl⟩
    case round =>
      obtain ⟨j, rfl, hj, rfl⟩ := hrel
      have HJ := hide hj
      have hjn : j ≤ n := by have := HWL.out; have := HL.out; omega
      clear hj
      by_cases hjw : j < Fr.wholes fs K
      · have hjn' : j < n := by have := HWL.out; have := HL.out; omega
        obtain ⟨ge, ce', e1, hce, hcell⟩ := O5.out.at j hjn'
        cases e1
        have hend : Fr.endAt fs j ≤ K := (Fr.wholes_iff fs j K (by have := HL.out; omega)).2 hjw
        generalize hE : Fr.endAt fs j = E at *
        have HE := hide hE
        clear hE
        have hend' : (E : Int) ≤ (p : Int) / 8 := by omega
        go_wp2_with fail
        go_roundw
        case rel => exact ⟨j + 1, by go_num, by omega, by trivial⟩
        case measure => simp [intOf]; omega
      · have hje : j = Fr.wholes fs K := by have := HJ.out; omega
        have HJE := hide hje
        have hrow : (Fr.row (Crc32.turn R p)).1 = fs.take j ∧ (Fr.row (Crc32.turn R p)).2.2 ≠ 0 := by
          have := Fr.row_turn fs HBOD.out p (by rw [HR.out]; exact hp8)
          rw [HR.out, ← hK, ← hje] at this
          exact this
        have HRT := hide hrow
        have htl : (fs.take j).length = j := by rw [List.length_take]; have := HL.out; omega
        have HTL := hide htl
        have hjc : (j : Int) ≤ (c : Int) := by omega
        have htake : (Crc32.turn R p).length = L := by rw [Crc32.turn_length, HRL.out]
        have HTK := hide htake
        clear hje hrow htl htake
        have hfit : ∀ f ∈ fs.take j, f.2.length ≤ 1000000000 := fun f hf => Nat.le_trans (HBOD.out f (List.mem_of_mem_take hf)) (by decide)
        have HFIT := hide hfit
        clear hfit
        have hcases : (j < n ∧ ∃ (ge E : Nat), ae = some ⟨ge, 0, none⟩ ∧ n ≤ ce ∧ wr.cell? ⟨ge, j, none⟩ = some (.int .i64 (E : Nat)) ∧ ¬ (E : Int) ≤ (p : Int) / 8) ∨ j = n := by
          rcases Nat.lt_or_ge j n with h | h
          · left
            obtain ⟨ge, ce', e1, hce, hcell⟩ := O5.out.at j h
            cases e1
            refine ⟨h, ge, _, rfl, hce, hcell, ?_⟩
            have := (Fr.wholes_iff fs j K (by have := HL.out; omega))
            unfold Fr.endAt
            omega
          · right; omega
        obtain ⟨y, rfl⟩ : ∃ y, a = some y := by
          obtain ⟨a1, c1, e1, g1⟩ := F5.out
          cases e1
          obtain ⟨b, off, e2, _⟩ := g1 0 fs[0] (List.getElem?_eq_getElem (by omega))
          exact ⟨_, e2⟩
        clear hjw
        rcases hcases with ⟨hjn2, ge, E, rfl, hce, hcell, hKE⟩ | hjn3
        · go_wp2_with fail
          refine (row_any _ _ _ _ _ (RowB.bytes (c' := cb) HSET.out HTK.out.symm) hLc (by rw [HTK.out]; omega)).mono ?_
          rintro e w6 ⟨lv, rfl, hl6, b6⟩
          rw [HRT.out.1] at hl6
          have hne := HRT.out.2
          have hfr := hl6.frs
          obtain ⟨al, cl, e6, _⟩ := id hfr
          subst e6
          rw [HTL.out] at hfr ⊢
          have FR := hide hfr
          have F6 := hide (Frs.pre (F5.out.below b6) _ hjn)
          have B6 := hide (then_below B5.out b6 (Nat.le_refl _))
          clear hfr hl6 b6
          generalize hq1 : (Fr.row (Crc32.turn R p)).2.1 = q1 at *
          generalize hq2 : (Fr.row (Crc32.turn R p)).2.2 = q2 at *
          clear hq1
          have HQ2 := hide hq2
          clear hq2
          have hne' : ((q2 : Int) != 0) = true := by simpa using hne
          go_wp2_with fail
          refine (frames_same _ _ _ _ _ _ _ FR.out F6.out (by omega) HFIT.out).mono ?_
          rintro e w7 ⟨rfl, m7, rfl⟩
          go_wp2_with fail
          go_ret
          exact ⟨rfl, below_drewN B6.out m7⟩
        · subst hjn3
          go_wp2_with fail
          refine (row_any _ _ _ _ _ (RowB.bytes (c' := cb) HSET.out HTK.out.symm) hLc (by rw [HTK.out]; omega)).mono ?_
          rintro e w6 ⟨lv, rfl, hl6, b6⟩
          rw [HRT.out.1] at hl6
          have hne := HRT.out.2
          have hfr := hl6.frs
          obtain ⟨al, cl, e6, _⟩ := id hfr
          subst e6
          rw [HTL.out] at hfr ⊢
          have FR := hide hfr
          have F6 := hide (Frs.pre (F5.out.below b6) _ hjn)
          have B6 := hide (then_below B5.out b6 (Nat.le_refl _))
          clear hfr hl6 b6
          generalize hq1 : (Fr.row (Crc32.turn R p)).2.1 = q1 at *
          generalize hq2 : (Fr.row (Crc32.turn R p)).2.2 = q2 at *
          clear hq1
          have HQ2 := hide hq2
          clear hq2
          have hne' : ((q2 : Int) != 0) = true := by simpa using hne
          go_wp2_with fail
          refine (frames_same _ _ _ _ _ _ _ FR.out F6.out (by omega) HFIT.out).mono ?_
          rintro e w7 ⟨rfl, m7, rfl⟩
          go_wp2_with fail
          go_ret
          exact ⟨rfl, below_drewN B6.out m7⟩
  · go_enter Try.func6, Try.ntmps6
    go_wp2_with fail
    refine (lives_any _).mono ?_
    rintro e w1 ⟨rfl, b1⟩
    have B1 := hide b1
    clear b1
    go_wp2_with fail
    refine (small_few a n c fs _ (H.out.below B1.out) (by omega) HB.out).mono ?_
    rintro e w2 ⟨rfl, rfl⟩
    rw [decide_eq_false htot]
    go_wp2_with fail
    go_ret
    exact ⟨rfl, B1.out⟩
end Go.Proofs.Ytpighnknldhigaa
