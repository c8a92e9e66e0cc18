/-
  Update and Sum, of the code and of the document's answer: both tell the register that the plain mathematics tells.
-/
import Derived.Test.YtpighnknldhigaaBase
namespace Go.Proofs.Ytpighnknldhigaa
open Go.RowKit

theorem not_w (x : BitVec 32) : bits .xor .u32 IntKind.u32.max (x.toNat : Int) = ((~~~x).toNat : Int) := by
  have e := xor_w 4294967295#32 x
  rw [BitVec.xor_comm, ← Crc32.not_eq] at e
  exact e
theorem low8_w (x : BitVec 32) : (x.toNat : Int) % (256 : Int) = ((x.setWidth 8).toNat : Int) := by
  rw [BitVec.toNat_setWidth]
  rfl
theorem hide {p : Prop} (h : p) : Hid p := h

/-- The bytes of a slice. -/
def Bytes (w : World) (v : Value) (bs : List (BitVec 8)) : Prop :=
  ∃ (a : Option Addr) (c : Nat), v = .slice a bs.length c ∧ ∀ k, k < bs.length → ∃ b off, a = some ⟨b, off, none⟩ ∧ w.cell? ⟨b, off + k, none⟩ = some (.int .u8 ((bs.getD k 0).toNat : Int))

theorem Bytes.below {w w' : World} {v : Value} {bs : List (BitVec 8)} (h : Bytes w v bs) (hb : Below w.heap.size w w') : Bytes w' v bs := by
  obtain ⟨a, c, hv, hc⟩ := h
  refine ⟨a, c, hv, fun k hk => ?_⟩
  obtain ⟨b, off, ha, hcell⟩ := hc k hk
  refine ⟨b, off, ha, ?_⟩
  rw [hb.cell (p := ⟨b, off + k, none⟩) (block_lt_of_cell hcell), hcell]

def zeros256 : Array Value := Array.replicate 256 (.int .u32 0)
theorem zero42 (w : World) : Sem.run Try.prog (zeroValue 65) w = .ok (.agg zeros256) w := by kernel_rfl

/-- The table, made as far as the places that are multiples of m. -/
def TabAt (w : World) (b : Nat) (ok : Nat → Bool) : Prop :=
  ∃ cs : Array Value, w.heap[b]? = some (.cells cs 65 (0, 0)) ∧ cs.size = 256 ∧ ∀ j, j < 256 → ok j = true → cs[j]? = some (.int .u32 ((Crc32.tab j).toNat : Int))

theorem TabAt.below {w w' : World} {b : Nat} {ok : Nat → Bool} (h : TabAt w b ok) (hb : Below w.heap.size w w') : TabAt w' b ok := by
  obtain ⟨cs, h1, h2, h3⟩ := h
  refine ⟨cs, ?_, h2, h3⟩
  rw [hb.block b, h1]
  rcases Nat.lt_or_ge b w.heap.size with h | h
  · exact h
  · rw [Array.getElem?_eq_none h] at h1; cases h1
theorem TabAt.cell {w : World} {b : Nat} {ok : Nat → Bool} (h : TabAt w b ok) (j : Nat) (hj : j < 256) (ho : ok j = true) : w.cell? ⟨b, j, none⟩ = some (.int .u32 ((Crc32.tab j).toNat : Int)) := by
  obtain ⟨cs, h1, h2, h3⟩ := h
  rw [cell_of_row w b j cs 65 (0, 0) h1, h3 j hj ho]
theorem TabAt.frozen {w : World} {b : Nat} {ok : Nat → Bool} (h : TabAt w b ok) (j : Nat) : w.frozen? ⟨b, j, none⟩ = false := by
  obtain ⟨cs, h1, h2, h3⟩ := h
  exact frozen_of_row w b j cs 65 h1
theorem TabAt.there {w : World} {b : Nat} {ok : Nat → Bool} (h : TabAt w b ok) (j : Nat) (hj : j < 256) : ∃ v, w.cell? ⟨b, j, none⟩ = some v := by
  obtain ⟨cs, h1, h2, h3⟩ := h
  rw [cell_of_row w b j cs 65 (0, 0) h1]
  exact ⟨cs[j], by simp [h2, hj]⟩


theorem half_nums (r : Nat) (hr : r < 8) : 128 / 2 ^ r = 2 ^ (7 - r) ∧ 1 ≤ 2 ^ (7 - r) ∧ 2 ^ (7 - r) ≤ 128 ∧ 2 ^ (8 - r) = 2 * 2 ^ (7 - r) ∧ 2 ^ (7 - r) / 2 = 128 / 2 ^ (r + 1) ∧ 8 - (r + 1) = 7 - r := by
  have : ∀ r : Fin 8, 128 / 2 ^ r.val = 2 ^ (7 - r.val) ∧ 1 ≤ 2 ^ (7 - r.val) ∧ 2 ^ (7 - r.val) ≤ 128 ∧ 2 ^ (8 - r.val) = 2 * 2 ^ (7 - r.val) ∧ 2 ^ (7 - r.val) / 2 = 128 / 2 ^ (r.val + 1) ∧ 8 - (r.val + 1) = 7 - r.val := by decide +kernel
  exact this ⟨r, hr⟩

/-- A round of the inner loop stays within the table. -/
theorem inner_nums (r i : Nat) (hr : r < 8) (hi : i < 256) (hm : i % 2 ^ (8 - r) = 0) : i + 2 ^ (7 - r) < 256 ∧ i + 2 * 2 ^ (7 - r) ≤ 256 ∧ (i + 2 * 2 ^ (7 - r)) % 2 ^ (8 - r) = 0 := by
  have : ∀ r : Fin 8, ∀ i : Fin 256, i.val % 2 ^ (8 - r.val) = 0 → i.val + 2 ^ (7 - r.val) < 256 ∧ i.val + 2 * 2 ^ (7 - r.val) ≤ 256 ∧ (i.val + 2 * 2 ^ (7 - r.val)) % 2 ^ (8 - r.val) = 0 := by decide +kernel
  exact this ⟨r, hr⟩ ⟨i, hi⟩ hm

theorem inner_last (r i j : Nat) (hr : r < 8) (hm : i % 2 ^ (8 - r) = 0) (hj : j % 2 ^ (7 - r) = 0) (hlt : j < i + 2 * 2 ^ (7 - r)) (hne : j ≠ i + 2 ^ (7 - r)) (hj2 : j % 2 ^ (8 - r) ≠ 0) : j < i := by
  have : r = 0 ∨ r = 1 ∨ r = 2 ∨ r = 3 ∨ r = 4 ∨ r = 5 ∨ r = 6 ∨ r = 7 := by omega
  rcases this with rfl | rfl | rfl | rfl | rfl | rfl | rfl | rfl <;> simp at hm hj hlt hne hj2 ⊢ <;> omega

/-- What is made when the inner loop has come to i. -/
def okIn (r i : Nat) (j : Nat) : Bool := j % 2 ^ (8 - r) == 0 || (j % 2 ^ (7 - r) == 0 && decide (j < i))

theorem TabAt.mono {w : World} {b : Nat} {ok ok' : Nat → Bool} (h : TabAt w b ok) (hk : ∀ j, j < 256 → ok' j = true → ok j = true) : TabAt w b ok' := by
  obtain ⟨cs, h1, h2, h3⟩ := h
  exact ⟨cs, h1, h2, fun j hj ho => h3 j hj (hk j hj ho)⟩

theorem TabAt.store {w : World} {b r i : Nat} (h : TabAt w b (okIn r i)) (hr : r < 8) (hi : i < 256) (hm : i % 2 ^ (8 - r) = 0) :
    TabAt (w.setCell ⟨b, i + 2 ^ (7 - r), none⟩ (.int .u32 ((Crc32.tab i ^^^ Crc32.tab (2 ^ (7 - r))).toNat : Int))) b (okIn r (i + 2 * 2 ^ (7 - r))) := by
  obtain ⟨cs, h1, h2, h3⟩ := h
  have hn := inner_nums r i hr hi hm
  refine ⟨_, heap_setCell_same w b _ cs 65 _ h1, by simpa using h2, fun j hj ho => ?_⟩
  rw [Array.getElem?_setIfInBounds]
  by_cases e : i + 2 ^ (7 - r) = j
  · subst e
    rw [if_pos rfl, if_pos (by omega), Crc32.tab_add ⟨r, hr⟩ ⟨i, hi⟩ hm]
  · rw [if_neg e]
    apply h3 j hj
    unfold okIn at ho ⊢
    by_cases h8 : j % 2 ^ (8 - r) = 0
    · simp [h8]
    · have h7 : j % 2 ^ (7 - r) = 0 ∧ j < i + 2 * 2 ^ (7 - r) := by simpa [h8] using ho
      have := inner_last r i j hr hm h7.1 h7.2 (fun x => e x.symm) h8
      simp [h7.1, this]

set_option maxRecDepth 100000 in
set_option maxHeartbeats 1000000 in
theorem update_any (s : BitVec 32) (v : Value) (bs : List (BitVec 8)) (w : World) (h : Bytes w v bs) (hl : bs.length ≤ maxLen) :
    Calls Try.prog 40 #[.int .u32 s.toNat, v] w fun e w' => e = .returned (.int .u32 (Crc32.update s bs).toNat) ∧ Below w.heap.size w w' := by
  unfold maxLen at hl
  obtain ⟨a, c, rfl, hc⟩ := h
  have HC := hide hc
  clear hc
  have hz := zero42
  generalize hn : bs.length = n at *
  have HN := hide hn
  clear hn
  go_enter Try.func40, Try.ntmps40
  go_wp2
  go_loopw [6, 7] (fun bit half wr => ∃ r : Nat, r ≤ 8 ∧ bit = .int .u32 (Crc32.it Crc32.step r 1#32).toNat ∧ half = .int .i64 ((128 / 2 ^ r : Nat) : Int) ∧ Below w.heap.size w wr ∧ TabAt wr w.heap.size (fun j => j % 2 ^ (8 - r) == 0)) (fun _ half _ => (intOf half).toNat)
  case atStart =>
    refine ⟨0, by omega, rfl, rfl, (Below.refl _ _).alloc (Nat.le_refl _) _, zeros256, heap_alloc_new _ _, by simp [zeros256], ?_⟩
    intro j hj ho
    have : j = 0 := by simp at ho; omega
    subst this
    rw [show Crc32.tab 0 = 0#32 by decide]
    simp [zeros256]
  case round =>
    clear hz
    obtain ⟨r, hr, rfl, rfl, hb, ht⟩ := hrel
    have HB := hide hb
    have HT := hide ht
    clear hb ht
    by_cases hlt : r < 8
    · obtain ⟨e1, e2, e3, e4, e5, e6⟩ := half_nums r hlt
      have hbit := Crc32.tab_half ⟨r, hlt⟩
      rw [e1]
      generalize hh : 2 ^ (7 - r) = h at *
      have HH := hide hh
      have HE := hide (And.intro e1 (And.intro e4 (And.intro e5 e6)))
      have HBit := hide hbit
      clear hh e1 e4 e5 e6 hbit
      go_wp2_with fail
      refine (step_any _ _).mono ?_
      rintro e w' ⟨rfl, hw⟩
      subst hw
      rw [show Crc32.step (Crc32.it Crc32.step r 1#32) = Crc32.tab h from HBit.out]
      go_wp2
      go_loopw [8] (fun i w2 => ∃ k : Nat, k ≤ 256 ∧ i = .int .i64 k ∧ k % 2 ^ (8 - r) = 0 ∧ Below w.heap.size w w2 ∧ TabAt w2 w.heap.size (okIn r k)) (fun i _ => (256 - intOf i).toNat)
      case atStart =>
        exact ⟨0, by omega, rfl, by simp, HB.out, HT.out.mono (fun j _ ho => by unfold okIn at ho; simpa using ho)⟩
      case round =>
        obtain ⟨k, hk, rfl, hm, hb2, ht2⟩ := hrel
        have HM := hide hm
        have HB2 := hide hb2
        have HT2 := hide ht2
        clear hm hb2 ht2
        by_cases hkl : k < 256
        · obtain ⟨n1, n2, n3⟩ := inner_nums r k hlt hkl HM.out
          rw [HH.out] at n1 n2 n3
          have N3 := hide n3
          clear n3
          have c1 := HT2.out.cell k hkl (by unfold okIn; simp [HM.out])
          have c2 := HT2.out.frozen (k + h)
          obtain ⟨v3, c3⟩ := HT2.out.there (k + h) n1
          have hx := xor_w (Crc32.tab k) (Crc32.tab h)
          go_wp2
          go_roundw
          case rel =>
            refine ⟨k + 2 * h, by omega, by go_num, N3.out, HB2.out.setCell (Nat.le_refl _) _, ?_⟩
            have := HT2.out.store hlt hkl HM.out
            rw [HH.out] at this
            exact this
          case measure => simp [intOf]; omega
        · obtain rfl : k = 256 := by omega
          go_wp2
          go_roundw
          case rel =>
            refine ⟨r + 1, by omega, ?_, ?_, HB2.out, HT2.out.mono (fun j hj ho => ?_)⟩
            · rw [Crc32.it_succ, HBit.out]
            · rw [← HE.out.2.2.1]; go_num
            · rw [HE.out.2.2.2] at ho
              unfold okIn
              simp at ho
              simp [ho, hj]
          case measure => simp [intOf]; omega
    · obtain rfl : r = 8 := by omega
      rw [show 128 / 2 ^ 8 = 0 from rfl]
      go_wp2
      rw [not_w]
      generalize hs0 : ~~~s = s0
      have HS := hide hs0
      clear hs0
      go_loop [9, 37] (fun reg i => ∃ k : Nat, k ≤ n ∧ i = .int .i64 k ∧ reg = .int .u32 (Crc32.upd s0 (bs.take k)).toNat) (fun _ i => n - (intOf i).toNat)
      case atStart => exact ⟨0, Nat.zero_le _, rfl, rfl⟩
      case round =>
        obtain ⟨k, hk, rfl, rfl⟩ := hrel
        by_cases hkn : k < n
        · obtain ⟨b, off, rfl, hcell⟩ := HC.out k hkn
          have hc1 : wr.cell? ⟨b, off + k, none⟩ = some (.int .u8 ((bs.getD k 0).toNat : Int)) := by
            rw [HB.out.cell (p := ⟨b, off + k, none⟩) (block_lt_of_cell hcell), hcell]
          clear hcell
          generalize hbk : bs.getD k 0 = bk at *
          generalize hrg : Crc32.upd s0 (bs.take k) = rg at *
          have HR := hide (And.intro hbk hrg)
          clear hbk hrg
          obtain ⟨ix, hix⟩ : ∃ ix : Nat, ix = (rg.setWidth 8 ^^^ bk).toNat := ⟨_, rfl⟩
          have hx : bits .xor .u8 ((rg.toNat : Int) % (256 : Int)) (bk.toNat : Int) = (ix : Int) := by rw [low8_w, xor_b, hix]
          have hlt : ix < 256 := by rw [hix]; exact BitVec.isLt _
          have hc2 := HT.out.cell ix hlt (by simp [Nat.mod_one])
          have HX : Hid (bits .xor .u32 ((Crc32.tab ix).toNat : Int) ((rg.toNat : Int) / (256 : Int)) = ((Crc32.s8 (rg ^^^ bk.setWidth 32)).toNat : Int)) := by
            unfold Hid
            rw [shr8_w, xor_w, Crc32.s8_table, hix]
          have HI := hide hix
          clear hix
          go_wp2
          go_round
          case rel =>
            refine ⟨k + 1, by omega, by go_num, ?_⟩
            rw [HX.out]
            have : bs.take (k + 1) = bs.take k ++ [bk] := by
              have hkl : k < bs.length := by rw [HN.out]; exact hkn
              rw [List.take_succ_eq_append_getElem hkl, ← HR.out.1, List.getD_eq_getElem?_getD, List.getElem?_eq_getElem hkl]
              rfl
            rw [this, Crc32.upd_snoc, HR.out.2]
          case measure => simp [intOf]; omega
        · go_wp2
          go_ret
          rw [not_w]
          refine ⟨ret_w ?_, HB.out⟩
          rw [List.take_of_length_le (by rw [HN.out]; omega), ← HS.out]
          rfl
set_option maxHeartbeats 400000 in
theorem sum_any (v : Value) (bs : List (BitVec 8)) (w : World) (h : Bytes w v bs) (hl : bs.length ≤ maxLen) :
    Calls Try.prog 34 #[v] w fun e w' => e = .returned (.int .u32 (Crc32.sum bs).toNat) ∧ Below w.heap.size w w' := by
  have H := hide h
  clear h
  go_enter Try.func34, Try.ntmps34
  go_wp2_with fail
  refine (update_any 0#32 v bs _ H.out hl).mono ?_
  rintro e w' ⟨rfl, hb⟩
  go_wp2
  go_ret
  exact ⟨rfl, hb⟩

theorem byte_w (x : BitVec 8) : (x.toNat : Int) = ((x.setWidth 32).toNat : Int) := by
  have := x.isLt
  rw [BitVec.toNat_setWidth, Nat.mod_eq_of_lt (by omega)]

set_option maxRecDepth 100000 in
set_option maxHeartbeats 1000000 in
theorem rupdate_any (s : BitVec 32) (v : Value) (bs : List (BitVec 8)) (w : World) (h : Bytes w v bs) (hl : bs.length ≤ maxLen) :
    Calls Try.prog 38 #[.int .u32 s.toNat, v] w fun e w' => e = .returned (.int .u32 (Crc32.update s bs).toNat) ∧ w' = w := by
  unfold maxLen at hl
  obtain ⟨a, c, rfl, hc⟩ := h
  have HC := hide hc
  clear hc
  generalize hn : bs.length = n at *
  have HN := hide hn
  clear hn
  go_enter Try.func38, Try.ntmps38
  go_wp2
  rw [not_w]
  generalize hs0 : ~~~s = s0
  have HS := hide hs0
  clear hs0
  go_loopw [5, 6] (fun reg i wr => ∃ k : Nat, k ≤ n ∧ i = .int .i64 k ∧ reg = .int .u32 (Crc32.upd s0 (bs.take k)).toNat ∧ wr = w) (fun _ i _ => n - (intOf i).toNat)
  case atStart => exact ⟨0, Nat.zero_le _, rfl, rfl, rfl⟩
  case round =>
    obtain ⟨k, hk, rfl, rfl, rfl⟩ := hrel
    by_cases hkn : k < n
    · obtain ⟨b, off, rfl, hcell⟩ := HC.out k hkn
      generalize hbk : bs.getD k 0 = bk at *
      generalize hrg : Crc32.upd s0 (bs.take k) = rg at *
      have HR := hide (And.intro hbk hrg)
      clear hbk hrg
      have hx : bits .xor .u32 (rg.toNat : Int) (bk.toNat : Int) = ((rg ^^^ bk.setWidth 32).toNat : Int) := by rw [byte_w bk, xor_w]
      generalize hy : rg ^^^ bk.setWidth 32 = y at *
      have HY := hide hy
      clear hy
      go_wp2
      go_loopw [5, 7] (fun reg j w2 => ∃ q : Nat, q ≤ 8 ∧ j = .int .i64 q ∧ reg = .int .u32 (Crc32.it Crc32.step q y).toNat ∧ w2 = wr) (fun _ j _ => 8 - (intOf j).toNat)
      case atStart => exact ⟨0, Nat.zero_le _, rfl, rfl, rfl⟩
      case round =>
        obtain ⟨q, hq, rfl, rfl, rfl⟩ := hrel
        by_cases hq8 : q < 8
        · go_wp2_with fail
          refine (rstep_any _ _).mono ?_
          rintro e w' ⟨rfl, hw⟩
          subst hw
          rw [← Crc32.it_succ Crc32.step]
          go_wp2
          go_roundw
          case rel => exact ⟨q + 1, by omega, by go_num, rfl, by trivial⟩
          case measure => simp [intOf]; omega
        · obtain rfl : q = 8 := by omega
          go_wp2
          go_roundw
          case rel =>
            refine ⟨k + 1, by omega, by go_num, ?_, by trivial⟩
            have : bs.take (k + 1) = bs.take k ++ [bk] := by
              have hkl : k < bs.length := by rw [HN.out]; exact hkn
              rw [List.take_succ_eq_append_getElem hkl, ← HR.out.1, List.getD_eq_getElem?_getD, List.getElem?_eq_getElem hkl]
              rfl
            rw [this, Crc32.upd_snoc, HR.out.2, HY.out]
            rfl
          case measure => simp [intOf]; omega
    · go_wp2
      go_ret
      rw [not_w]
      refine ⟨ret_w ?_, rfl⟩
      rw [List.take_of_length_le (by rw [HN.out]; omega), ← HS.out]
      rfl

set_option maxHeartbeats 400000 in
theorem rsum_any (v : Value) (bs : List (BitVec 8)) (w : World) (h : Bytes w v bs) (hl : bs.length ≤ maxLen) :
    Calls Try.prog 31 #[v] w fun e w' => e = .returned (.int .u32 (Crc32.sum bs).toNat) ∧ w' = w := by
  have H := hide h
  clear h
  go_enter Try.func31, Try.ntmps31
  go_wp2_with fail
  refine (rupdate_any 0#32 v bs _ H.out hl).mono ?_
  rintro e w' ⟨rfl, rfl⟩
  go_wp2
  go_ret
  exact ⟨rfl, rfl⟩

end Go.Proofs.Ytpighnknldhigaa
