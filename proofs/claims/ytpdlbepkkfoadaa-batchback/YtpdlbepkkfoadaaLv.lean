/-
  The chapter's examples.
-/
import Derived.Test.YtpdlbepkkfoadaaKb
import Derived.Lib.SlBytesConst
import Derived.Lib.ConvBytes
namespace Go.Proofs.Ytpdlbepkkfoadaa
open Go.RowKit
set_option maxRecDepth 100000
set_option maxHeartbeats 4000000
/-- A text's bytes. -/
def bsOf (s : ByteArray) : List (BitVec 8) := s.data.toList.map fun u => BitVec.ofNat 8 u.toNat
theorem conv_new (s : ByteArray) (w : World) : ∃ c w', (convert 9 22 (.string s)).run Try.prog w = .ok (.slice (some ⟨w.heap.size, 0, none⟩) s.size c) w' ∧ Bytes w' (.slice (some ⟨w.heap.size, 0, none⟩) s.size c) (bsOf s) ∧ Below w.heap.size w w' := by
  refine ⟨_, _, Lib.run_convert_string_bytes w 9 22 5 s Try.underlying9 Try.underlying22 Try.underlying5, ⟨_, _, by simp [bsOf]; rfl, fun k hk => ⟨w.heap.size, 0, rfl, ?_⟩⟩, ⟨rfl, rfl, rfl, by rw [Lib.bytesWorld_size]; omega, fun k hk => Lib.bytesWorld_at_old w 5 s k hk⟩⟩
  have hk' : k < s.data.toList.length := by simpa [bsOf] using hk
  rw [Nat.zero_add, Lib.bytesWorld_cell w 5 s k (by simpa using hk')]
  have h1 : s.data.toList.getD k 0 = s.data.toList[k] := by simp [List.getD, List.getElem?_eq_getElem hk']
  have h2 : (bsOf s).getD k 0 = BitVec.ofNat 8 (s.data.toList[k]).toNat := by
    simp only [bsOf, List.getD, List.getElem?_map, List.getElem?_eq_getElem hk', Option.map_some, Option.getD_some]
  rw [h1, h2]
  have := (s.data.toList[k]).toNat_lt
  congr 2
  simp only [BitVec.toNat_ofNat]
  omega
theorem put_any (s t : ByteArray) (w : World) : Calls Try.prog 10 #[.string s, .string t] w fun e w' => ∃ ka kc va vc, e = .returned (.agg #[.int .i64 1, .slice ka s.size kc, .slice va t.size vc]) ∧ Bytes w' (.slice ka s.size kc) (bsOf s) ∧ Bytes w' (.slice va t.size vc) (bsOf t) ∧ Below w.heap.size w w' := by
  have n0 := heap_alloc_new w (.cells #[.int .i64 0, .slice none 0 0, .slice none 0 0] 24)
  have b0 := (Below.refl w.heap.size w).alloc (Nat.le_refl _) (.cells #[.int .i64 0, .slice none 0 0, .slice none 0 0] 24)
  obtain ⟨c1, w1, hc1, hy1, b1⟩ := conv_new s (w.alloc (.cells #[.int .i64 0, .slice none 0 0, .slice none 0 0] 24))
  obtain ⟨c2, w2, hc2, hy2, b2⟩ := conv_new t w1
  have HN := hide (heap_keep b2 (heap_keep b1 n0))
  have HY1 := hide (hy1.below b2)
  have HY2 := hide hy2
  have hs1 := b1.size
  rw [World.size_alloc] at hc1 HY1 hs1
  have B2 := hide ((b0.trans (b1.mono b0.size)).trans (b2.mono (Nat.le_trans b0.size b1.size)))
  clear n0 b0 hy1 b1 hy2 b2
  go_enter Try.func10, Try.ntmps10
  go_wp2_with (refine wpList_store_row rfl 24 _ _ rfl _ _ rfl rfl _ _ HN.out ?_ ?_ ?_ ?_; (exact info24); (simp only [List.size_toArray, List.length_cons, List.length_nil]); (simp [Value.oneCell']))
  have tr : Turns (fun j => j = w.heap.size) w2 (w2.setRow w.heap.size #[.int .i64 1, .slice (some ⟨w.heap.size + 1, 0, none⟩) s.size c1, .slice (some ⟨w1.heap.size, 0, none⟩) t.size c2]) := ⟨rfl, rfl, rfl, by simp, fun k _ hk => setRow_other _ _ _ _ hk⟩
  refine bodyPost_ret (v := .agg #[.int .i64 1, .slice (some ⟨w.heap.size + 1, 0, none⟩) s.size c1, .slice (some ⟨w1.heap.size, 0, none⟩) t.size c2]) ?_ rfl ?_
  · exact results_cell_row Try.results10 _ _ _ _ _ _ _ rfl (setRow_heap _ _ _ _ _ _ HN.out) Try.underlying24 rfl info24
  · exact ⟨_, _, _, _, rfl, HY1.out.turns tr (fun a n c e => by cases e; show ¬ w.heap.size + 1 = w.heap.size; omega), HY2.out.turns tr (fun a n c e => by cases e; show ¬ w1.heap.size = w.heap.size; omega), B2.out.trans (tr.below B2.out.size (fun k e => by omega))⟩
theorem conv22 (C : Array Value) (n c : Nat) (w : World) : (convert 22 22 (.slice (some ⟨w.heap.size, 0, none⟩) n c)).run Try.prog (w.alloc (.cells C 5)) = .ok (.slice (some ⟨w.heap.size, 0, none⟩) n c) (w.alloc (.cells C 5 (C.size, C.size + 1))) :=
  Lib.run_convert_bytes_const w 22 5 C n c Try.underlying22 Try.underlying5
/-- Bytes in a new row. -/
theorem Bytes.new (w : World) (cs : Array Value) (t c : Nat) (fr : Nat × Nat) (bs : List (BitVec 8)) (h : cs = (bs.map fun b => Value.int .u8 (b.toNat : Int)).toArray) :
    Bytes (w.alloc (.cells cs t fr)) (.slice (some ⟨w.heap.size, 0, none⟩) bs.length c) bs :=
  ⟨_, c, rfl, fun k hk => ⟨w.heap.size, 0, rfl, by
    rw [Nat.zero_add, cell_of_row _ _ k cs t fr (heap_alloc_new w _), h]
    simp [hk]⟩⟩
def first : List Wr := [(1, [97#8], [120#8]), (2, [98#8], [])]
theorem first_smol : Smol first := ⟨by decide, by decide⟩
theorem first_chk : chk 7 first = 0 := by decide
theorem short_one (n : Nat) (h : n < 128) : short n = [BitVec.ofNat 8 n] := short_lt h
theorem first_bytes : batchB 7 first = [7#8, 2#8, 1#8, 1#8, 97#8, 1#8, 120#8, 2#8, 1#8, 98#8] := by
  simp [batchB, first, writesB, writeB, pieceB, short_one]
theorem none_smol : Smol [] := ⟨by decide, by decide⟩
theorem lives_any (w : World) : Calls Try.prog 6 #[] w fun e w' => e = .returned (.bool true) ∧ Below w.heap.size w w' := by
  have hcv := conv22
  go_enter Try.func6, Try.ntmps6
  go_wp2_with fail
  refine (put_any _ _ _).mono ?_
  rintro e w1 ⟨ka, kc, va, vc, rfl, hk, hv, b1⟩
  have hk' : Bytes w1 (.slice ka 1 kc) [97#8] := hk
  have hv' : Bytes w1 (.slice va 1 vc) [120#8] := hv
  have bb := (Below.refl w1.heap.size w1).alloc (Nat.le_refl _) (.cells #[.int .u8 98] 5 (1, 2))
  have hnb := Bytes.new w1 #[.int .u8 98] 5 1 (1, 2) [98#8] rfl
  have K := hide (hk'.below bb)
  have V := hide (hv'.below bb)
  have NB := hide hnb
  have B2 := hide (b1.trans (bb.mono b1.size))
  clear hk hv hk' hv' hnb b1
  generalize hw2 : w1.alloc (.cells #[.int .u8 98] 5 (1, 2)) = w2 at *
  go_wp2_with fail
  have n3 := heap_alloc_new w2 (.cells #[.int .i64 1, .slice ka 1 kc, .slice va 1 vc, .int .i64 2, .slice (some ⟨w1.heap.size, 0, none⟩) 1 1, .slice none 0 0] 24)
  have b3 := (Below.refl w2.heap.size w2).alloc (Nat.le_refl _) (.cells #[.int .i64 1, .slice ka 1 kc, .slice va 1 vc, .int .i64 2, .slice (some ⟨w1.heap.size, 0, none⟩) 1 1, .slice none 0 0] 24)
  have hws := wrs_two (c := 2) n3 (K.out.below b3) (V.out.below b3) (show Bytes _ (.slice (some ⟨w1.heap.size, 0, none⟩) 1 1) [98#8] from NB.out.below b3) (Bytes.empty _)
  have HWS := hide hws
  have B3 := hide (B2.out.trans (b3.mono B2.out.size))
  clear n3 b3 hws K V NB B2 bb hw2
  generalize w2.alloc (.cells #[.int .i64 1, .slice ka 1 kc, .slice va 1 vc, .int .i64 2, .slice (some ⟨w1.heap.size, 0, none⟩) 1 1, .slice none 0 0] 24) = w3 at *
  refine (append_good 7 (by decide) _ 2 2 first w3 HWS.out first_smol first_chk).mono ?_
  rintro e w4 ⟨g4, c4, rfl, hg4, hc4, hrow4, b4⟩
  rw [first_bytes] at hrow4 hc4 ⊢
  have R4 := hide hrow4
  have B4 := hide (B3.out.trans (b4.mono B3.out.size))
  clear hrow4 b4 HWS B3
  go_wp2_with fail
  refine (put_any _ _ _).mono ?_
  rintro e w5 ⟨ka5, kc5, va5, vc5, rfl, hk5, hv5, b5⟩
  have hk5' : Bytes w5 (.slice ka5 1 kc5) [97#8] := hk5
  have hv5' : Bytes w5 (.slice va5 1 vc5) [49#8] := hv5
  have K5 := hide hk5'
  have V5 := hide hv5'
  have R5 := hide (RowC.below R4.out b5)
  have B5 := hide (B4.out.trans (b5.mono B4.out.size))
  clear hk5 hv5 hk5' hv5' b5 R4 B4
  go_wp2_with fail
  refine (put_any _ _ _).mono ?_
  rintro e w6 ⟨ka6, kc6, va6, vc6, rfl, hk6, hv6, b6⟩
  have hk6' : Bytes w6 (.slice ka6 1 kc6) [97#8] := hk6
  have hv6' : Bytes w6 (.slice va6 1 vc6) [50#8] := hv6
  have n7 := heap_alloc_new w6 (.cells #[.int .i64 1, .slice ka5 1 kc5, .slice va5 1 vc5, .int .i64 1, .slice ka6 1 kc6, .slice va6 1 vc6] 24)
  have b7 := (Below.refl w6.heap.size w6).alloc (Nat.le_refl _) (.cells #[.int .i64 1, .slice ka5 1 kc5, .slice va5 1 vc5, .int .i64 1, .slice ka6 1 kc6, .slice va6 1 vc6] 24)
  have HW7 := hide (wrs_two (c := 2) n7 ((K5.out.below b6).below b7) ((V5.out.below b6).below b7) (hk6'.below b7) (hv6'.below b7))
  have B7 := hide ((B5.out.trans (b6.mono B5.out.size)).trans (b7.mono (Nat.le_trans B5.out.size b6.size)))
  have R7 := hide (RowC.below (RowC.below R5.out b6) b7)
  clear hk6 hv6 hk6' hv6' b6 b7 n7 R5 B5 K5 V5
  go_wp2_with fail
  generalize w6.alloc (.cells #[.int .i64 1, .slice ka5 1 kc5, .slice va5 1 vc5, .int .i64 1, .slice ka6 1 kc6, .slice va6 1 vc6] 24) = w7 at *
  refine (entries_lives _ 2 w7 HW7.out).mono ?_
  rintro e w8 ⟨g8, rfl, hs1, hs2, b8⟩
  have B8 := hide (B7.out.trans (b8.mono B7.out.size))
  have R8 := hide (RowC.below R7.out b8)
  have S1 := hide hs1
  have S2 := hide hs2
  clear b8 R7 B7 HW7 hs1 hs2
  go_wp2_with fail
  have b9 := (Below.refl w8.heap.size w8).alloc (Nat.le_refl _) (.cells #[.int .u8 7, .int .u8 2, .int .u8 1, .int .u8 1, .int .u8 97, .int .u8 1, .int .u8 120, .int .u8 2, .int .u8 1, .int .u8 98] 5)
  have hlit := Bytes.new w8 #[.int .u8 7, .int .u8 2, .int .u8 1, .int .u8 1, .int .u8 97, .int .u8 1, .int .u8 120, .int .u8 2, .int .u8 1, .int .u8 98] 5 10 (0, 0) [7#8, 2#8, 1#8, 1#8, 97#8, 1#8, 120#8, 2#8, 1#8, 98#8] rfl
  have hown : Bytes (w8.alloc (.cells #[.int .u8 7, .int .u8 2, .int .u8 1, .int .u8 1, .int .u8 97, .int .u8 1, .int .u8 120, .int .u8 2, .int .u8 1, .int .u8 98] 5)) (.slice (some ⟨g4, 0, none⟩) 10 c4) [7#8, 2#8, 1#8, 1#8, 97#8, 1#8, 120#8, 2#8, 1#8, 98#8] := Bytes.below (RowB.bytes R8.out rfl) b9
  refine (bytes_any (some ⟨g4, 0, none⟩) (some ⟨w8.heap.size, 0, none⟩) 10 10 c4 10 [7#8, 2#8, 1#8, 1#8, 97#8, 1#8, 120#8, 2#8, 1#8, 98#8] [7#8, 2#8, 1#8, 1#8, 97#8, 1#8, 120#8, 2#8, 1#8, 98#8] _ hown hlit (by decide)).mono ?_
  rintro e w9 ⟨rfl, m, hw9⟩
  rw [decide_eq_true rfl]
  have s1 : w9.cell? ⟨g8, 1, none⟩ = some (.int .u64 2) := by rw [hw9, World.cell?_drewN]; exact alloc_keep S1.out _
  have s2 : w9.cell? ⟨g8, 5, none⟩ = some (.int .u64 1) := by rw [hw9, World.cell?_drewN]; exact alloc_keep S2.out _
  have B9 := hide (show Below w.heap.size w w9 by rw [hw9]; exact belowN (B8.out.trans (b9.mono B8.out.size)) m)
  clear hw9 hown hlit b9 R8 S1 S2 B8
  go_wp2_with fail
  refine (check_any 1 (by decide) none 0 0 [] _ ⟨none, 0, rfl, fun k x hx => by simp at hx⟩ none_smol).mono ?_
  rintro e w10 ⟨rfl, b10⟩
  rw [show chk 1 [] = 2 from rfl]
  have B10 := hide (B9.out.trans (b10.mono B9.out.size))
  clear b10
  go_wp2_with fail
  go_ret
  exact ⟨rfl, B10.out⟩
end Go.Proofs.Ytpdlbepkkfoadaa
