/-
  New, entries of texts, and what Insert, Get come to where it is known.
-/
import Derived.Test.YtolaaodhnhdadaaB9
import Derived.Test.YtolaaodhnhdadaaC7
import Derived.Lib.SlBytesConst
import Derived.Lib.ConvBytes
namespace Go.Proofs.Ytolaaodhnhdadaa
open Go.RowKit
set_option maxRecDepth 100000
set_option maxHeartbeats 4000000
/-- A text's bytes. -/
def bsOf (s : ByteArray) : List (BitVec 8) := s.data.toList.map fun u => BitVec.ofNat 8 u.toNat
theorem conv_new (s : ByteArray) (w : World) : ∃ c w', (convert 9 22 (.string s)).run Try.prog w = .ok (.slice (some ⟨w.heap.size, 0, none⟩) s.size c) w' ∧ Bytes w' (.slice (some ⟨w.heap.size, 0, none⟩) s.size c) (bsOf s) ∧ s.size ≤ c ∧ Below w.heap.size w w' := by
  refine ⟨_, _, Lib.run_convert_string_bytes w 9 22 5 s Try.underlying9 Try.underlying22 Try.underlying5, ⟨_, _, by simp [bsOf]; rfl, fun k hk => ⟨w.heap.size, 0, rfl, ?_⟩⟩, grownCap_ge _ _ _ _, ⟨rfl, rfl, rfl, by rw [Lib.bytesWorld_size]; omega, fun k hk => Lib.bytesWorld_at_old w 5 s k hk⟩⟩
  have hk' : k < s.data.toList.length := by simpa [bsOf] using hk
  rw [Nat.zero_add, Lib.bytesWorld_cell w 5 s k (by simpa using hk')]
  have h1 : s.data.toList.getD k 0 = s.data.toList[k] := by simp [List.getD, List.getElem?_eq_getElem hk']
  have h2 : (bsOf s).getD k 0 = BitVec.ofNat 8 (s.data.toList[k]).toNat := by
    simp only [bsOf, List.getD, List.getElem?_map, List.getElem?_eq_getElem hk', Option.map_some, Option.getD_some]
  rw [h1, h2]
  have := (s.data.toList[k]).toNat_lt
  congr 2
  simp only [BitVec.toNat_ofNat]
  omega
theorem entry_any (s t : ByteArray) (q : Nat) (w : World) : Calls Try.prog 7 #[.string s, .int .u64 (q : Nat), .string t] w fun e w' => ∃ ka kc va vc, e = .returned (.agg #[.slice ka s.size kc, .int .u64 (q : Nat), .int .i64 1, .slice va t.size vc]) ∧ Bytes w' (.slice ka s.size kc) (bsOf s) ∧ Bytes w' (.slice va t.size vc) (bsOf t) ∧ s.size ≤ kc ∧ Below w.heap.size w w' := by
  have n0 := heap_alloc_new w (.cells #[.slice none 0 0, .int .u64 0, .int .i64 0, .slice none 0 0] 28)
  have b0 := (Below.refl w.heap.size w).alloc (Nat.le_refl _) (.cells #[.slice none 0 0, .int .u64 0, .int .i64 0, .slice none 0 0] 28)
  obtain ⟨c1, w1, hc1, hy1, hcap1, b1⟩ := conv_new s (w.alloc (.cells #[.slice none 0 0, .int .u64 0, .int .i64 0, .slice none 0 0] 28))
  obtain ⟨c2, w2, hc2, hy2, _, b2⟩ := conv_new t w1
  have HN := hide (heap_keep b2 (heap_keep b1 n0))
  have HY1 := hide (hy1.below b2)
  have HY2 := hide hy2
  have hs1 := b1.size
  rw [World.size_alloc] at hc1 HY1 hs1
  have B2 := hide ((b0.trans (b1.mono b0.size)).trans (b2.mono (Nat.le_trans b0.size b1.size)))
  clear n0 b0 hy1 b1 hy2 b2
  go_enter Try.func7, Try.ntmps7
  go_wp2_with (refine wpList_store_row rfl 28 _ _ rfl _ _ rfl rfl _ _ HN.out ?_ ?_ ?_ ?_; (exact info29); (simp only [List.size_toArray, List.length_cons, List.length_nil]); (simp [Value.oneCell']))
  have tr : Turns (fun j => j = w.heap.size) w2 (w2.setRow w.heap.size #[.slice (some ⟨w.heap.size + 1, 0, none⟩) s.size c1, .int .u64 (q : Nat), .int .i64 1, .slice (some ⟨w1.heap.size, 0, none⟩) t.size c2]) := ⟨rfl, rfl, rfl, by simp, fun k _ hk => setRow_other _ _ _ _ hk⟩
  refine bodyPost_ret (v := .agg #[.slice (some ⟨w.heap.size + 1, 0, none⟩) s.size c1, .int .u64 (q : Nat), .int .i64 1, .slice (some ⟨w1.heap.size, 0, none⟩) t.size c2]) ?_ rfl ?_
  · exact results_cell_row Try.results7 _ _ _ _ _ _ _ rfl (setRow_heap _ _ _ _ _ _ HN.out) Try.underlying28 rfl info29
  · exact ⟨_, _, _, _, rfl, HY1.out.turns tr (fun a n c e => by cases e; show ¬ w.heap.size + 1 = w.heap.size; omega), HY2.out.turns tr (fun a n c e => by cases e; show ¬ w1.heap.size = w.heap.size; omega), hcap1, B2.out.trans (tr.below B2.out.size (fun k e => by omega))⟩
theorem conv26 (C : Array Value) (n c : Nat) (w : World) : (convert 22 22 (.slice (some ⟨w.heap.size, 0, none⟩) n c)).run Try.prog (w.alloc (.cells C 5)) = .ok (.slice (some ⟨w.heap.size, 0, none⟩) n c) (w.alloc (.cells C 5 (C.size, C.size + 1))) :=
  Lib.run_convert_bytes_const w 22 5 C n c Try.underlying22 Try.underlying5
/-- Bytes in a new row. -/
theorem Bytes.new (w : World) (cs : Array Value) (t c : Nat) (fr : Nat × Nat) (bs : List (BitVec 8)) (h : cs = (bs.map fun b => Value.int .u8 (b.toNat : Int)).toArray) :
    Bytes (w.alloc (.cells cs t fr)) (.slice (some ⟨w.heap.size, 0, none⟩) bs.length c) bs :=
  ⟨_, c, rfl, fun k hk => ⟨w.heap.size, 0, rfl, by
    rw [Nat.zero_add, cell_of_row _ _ k cs t fr (heap_alloc_new w _), h]
    simp [hk]⟩⟩
theorem ents_two {w : World} {g : Nat} {x y : Tow} (h : w.heap[g]? = some (.cells #[x.kv, .int .u64 (x.e.seq : Nat), .int .i64 x.e.kind, x.vv, y.kv, .int .u64 (y.e.seq : Nat), .int .i64 y.e.kind, y.vv] 28 (0, 0))) (h1 : Bytes w x.kv x.e.key) (h2 : Bytes w x.vv x.e.val) (h3 : Bytes w y.kv y.e.key) (h4 : Bytes w y.vv y.e.val) : Ents w (some ⟨g, 0, none⟩) [x, y] := by
  intro k z hz
  have hc : ∀ j, w.cell? ⟨g, j, none⟩ = (#[x.kv, .int .u64 (x.e.seq : Nat), .int .i64 x.e.kind, x.vv, y.kv, .int .u64 (y.e.seq : Nat), .int .i64 y.e.kind, y.vv] : Array Value)[j]? := fun j => cell_of_row w g j _ 28 (0, 0) h
  match k, hz with
  | 0, hz =>
    obtain rfl : x = z := by simpa using hz
    refine ⟨⟨g, 0, rfl, fun j u hu => ?_⟩, h1, h2⟩
    match j, hu with
    | 0, hu => rw [hc]; simpa using hu
    | 1, hu => rw [hc]; simpa using hu
    | 2, hu => rw [hc]; simpa using hu
    | 3, hu => rw [hc]; simpa using hu
    | j + 4, hu => simp at hu
  | 1, hz =>
    obtain rfl : y = z := by simpa using hz
    refine ⟨⟨g, 0, rfl, fun j u hu => ?_⟩, h3, h4⟩
    match j, hu with
    | 0, hu => rw [hc]; simpa using hu
    | 1, hu => rw [hc]; simpa using hu
    | 2, hu => rw [hc]; simpa using hu
    | 3, hu => rw [hc]; simpa using hu
    | j + 4, hu => simp at hu
  | k + 2, hz => simp at hz
def eA : Ent := ⟨[97#8, 98#8], 1, 1, [120#8]⟩
def eB : Ent := ⟨[97#8, 99#8], 1, 1, [121#8]⟩
theorem blk_ex : blkB [eA, eB] = [0#8, 2#8, 5#8, 1#8, 97#8, 98#8, 120#8, 1#8, 1#8, 5#8, 1#8, 99#8, 121#8, 0#8, 0#8, 0#8, 0#8, 1#8, 0#8, 0#8, 0#8] := by
  simp [blkB, mk, marks, rowB, entB, shr, alike, short_lt, four, eA, eB]
theorem fine_ex : Fine [eA, eB] := ⟨fun e he => by
  simp only [List.mem_cons, List.not_mem_nil, or_false] at he
  rcases he with rfl | rfl <;> decide, by simp, by decide⟩
theorem parse_ex : parseK (blkB [eA, eB]) = some [eA, eB] := blk_back fine_ex (by rw [blk_ex]; decide)
theorem ahead_ac : ∀ j e, [eA, eB][j]? = some e → (cmpE e.en ([97#8, 99#8], 9) < 0 ↔ j < 1)
  | 0, e, h => by obtain rfl : eA = e := by simpa using h
                  decide
  | 1, e, h => by obtain rfl : eB = e := by simpa using h
                  decide
  | j + 2, e, h => by simp at h
theorem ahead_ad : ∀ j e, [eA, eB][j]? = some e → (cmpE e.en ([97#8, 100#8], 1) < 0 ↔ j < 2)
  | 0, e, h => by obtain rfl : eA = e := by simpa using h
                  decide
  | 1, e, h => by obtain rfl : eB = e := by simpa using h
                  decide
  | j + 2, e, h => by simp at h
theorem zeros_bad : parseK [0#8, 0#8, 0#8, 0#8] = none := by
  have h : at4 [0#8, 0#8, 0#8, 0#8] 0 = 0 := by decide
  unfold parseK
  simp [h, rdRow_nil]
end Go.Proofs.Ytolaaodhnhdadaa
