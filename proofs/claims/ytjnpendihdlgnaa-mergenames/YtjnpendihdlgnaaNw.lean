/-
  What is merged is one; the law's put; rows of one entry and of two.
-/
import Derived.Test.YtjnpendihdlgnaaAl
import Derived.Lib.SlBytesConst
import Derived.Lib.ConvBytes
namespace Go.Proofs.Ytjnpendihdlgnaa
open Go.RowKit
set_option maxRecDepth 100000
set_option maxHeartbeats 4000000
theorem eq_of_rise : ∀ {xs ys : List Tow}, xs.Pairwise ltT → ys.Pairwise ltT → (∀ x, x ∈ xs ↔ x ∈ ys) → xs = ys
  | [], [], _, _, _ => rfl
  | [], y :: ys, _, _, h => absurd ((h y).2 (by simp)) (by simp)
  | x :: xs, [], _, _, h => absurd ((h x).1 (by simp)) (by simp)
  | x :: xs, y :: ys, hx, hy, h => by
    have irr : ∀ z : Tow, ¬ ltT z z := fun z hz => by
      have := (cmpE_zero z.e.en z.e.en).2 ⟨rfl, rfl⟩
      unfold ltT at hz
      omega
    have asym : ∀ a b : Tow, ltT a b → ¬ ltT b a := fun a b h1 h2 => by
      have := cmpE_swap a.e.en b.e.en
      unfold ltT at h1 h2
      omega
    obtain ⟨hx1, hx2⟩ := List.pairwise_cons.1 hx
    obtain ⟨hy1, hy2⟩ := List.pairwise_cons.1 hy
    have e : x = y := by
      rcases List.mem_cons.1 ((h x).1 (by simp)) with e | e
      · exact e
      · rcases List.mem_cons.1 ((h y).2 (by simp)) with e2 | e2
        · exact e2.symm
        · exact absurd (hy1 x e) (asym _ _ (hx1 y e2))
    subst e
    refine congrArg (x :: ·) (eq_of_rise hx2 hy2 fun z => ⟨fun hz => ?_, fun hz => ?_⟩)
    · rcases List.mem_cons.1 ((h z).1 (List.mem_cons_of_mem _ hz)) with e | e
      · subst e; exact absurd (hx1 z hz) (irr z)
      · exact e
    · rcases List.mem_cons.1 ((h z).2 (List.mem_cons_of_mem _ hz)) with e | e
      · subst e; exact absurd (hy1 z hz) (irr z)
      · exact e
theorem same_of_rise {R : List Tow} (h : R.Pairwise ltT) {x y : Tow} (hx : x ∈ R) (hy : y ∈ R) (e : cmpE x.e.en y.e.en = 0) : x = y := by
  induction R with
  | nil => cases hx
  | cons z r ih =>
    obtain ⟨h1, h2⟩ := List.pairwise_cons.1 h
    rcases List.mem_cons.1 hx with rfl | hx'
    · rcases List.mem_cons.1 hy with rfl | hy'
      · rfl
      · have := h1 y hy'; unfold ltT at this; omega
    · rcases List.mem_cons.1 hy with rfl | hy'
      · have := h1 x hx'; unfold ltT at this; have := cmpE_swap x.e.en y.e.en; omega
      · exact ih h2 hx' hy'
/-- What is merged is one. -/
theorem Mg.uniq {L : List Hd} (hu : Up L) (hno : ∀ h h', h ∈ L → h' ∈ L → h.no = h'.no → h = h') {xs ys : List Tow} (hx : Mg L xs) (hy : Mg L ys) : xs = ys := by
  have key : ∀ {xs ys : List Tow}, Mg L xs → Mg L ys → ∀ x, x ∈ xs → x ∈ ys := fun {xs ys} hx hy x hm => by
    obtain ⟨h, h1, h2, h3⟩ := hx.of x hm
    obtain ⟨y, y1, y2⟩ := hy.all h h1 x h2
    obtain ⟨h', h4, h5, h6⟩ := hy.of y y1
    have s := cmpE_swap x.e.en y.e.en
    have e : h = h' := by
      refine hno h h' h1 h4 ?_
      rcases Nat.lt_trichotomy h.no h'.no with c | c | c
      · exact absurd (by omega) (h6 h h1 c x h2)
      · exact c
      · exact absurd y2 (h3 h' h4 c y h5)
    subst e
    rw [← same_of_rise (hu h h1) h5 h2 y2]
    exact y1
  exact eq_of_rise hx.rise hy.rise fun x => ⟨key hx hy x, key hy hx x⟩
theorem hds_no {rs : List Rw} : ∀ h h', h ∈ hds rs → h' ∈ hds rs → h.no = h'.no → h = h' := fun h h' hh hh' e => by
  obtain ⟨i, x, h1, h2⟩ := mem_hds.1 hh
  obtain ⟨i', x', h1', h2'⟩ := mem_hds.1 hh'
  have no : ∀ {x : Rw} {i : Nat} {h : Hd}, hdOf x i = some h → h.no = i := fun {x i h} e => by
    unfold hdOf at e
    split at e
    · cases e; rfl
    · cases e
  have e1 : i = i' := by rw [← no h2, ← no h2', e]
  subst e1
  rw [h1] at h1'
  cases h1'
  rw [h2] at h2'
  cases h2'
  rfl
theorem hds_up {w : World} {a : Option Addr} {rs : List Rw} (hr : RowsIn w a rs) (hn : rs.length ≤ 1000000) (ho : eachOrd rs = true) : Up (hds rs) := fun h hh => by
  obtain ⟨_, i, x, h1, h2, _⟩ := hds_mem hr hn hh
  rw [h2]
  exact ord_up ho i x h1
/-- A text's bytes. -/
def bsOf (s : ByteArray) : List (BitVec 8) := s.data.toList.map fun u => BitVec.ofNat 8 u.toNat
theorem conv_new (s : ByteArray) (w : World) : ∃ c w', (convert 9 22 (.string s)).run Try.prog w = .ok (.slice (some ⟨w.heap.size, 0, none⟩) s.size c) w' ∧ Bytes w' (.slice (some ⟨w.heap.size, 0, none⟩) s.size c) (bsOf s) ∧ s.size ≤ c ∧ Below w.heap.size w w' := by
  refine ⟨_, _, Lib.run_convert_string_bytes w 9 22 5 s Try.underlying9 Try.underlying22 Try.underlying5, ⟨_, _, by simp [bsOf]; rfl, fun k hk => ⟨w.heap.size, 0, rfl, ?_⟩⟩, grownCap_ge _ _ _ _, ⟨rfl, rfl, rfl, by rw [Lib.bytesWorld_size]; omega, fun k hk => Lib.bytesWorld_at_old w 5 s k hk⟩⟩
  have hk' : k < s.data.toList.length := by simpa [bsOf] using hk
  rw [Nat.zero_add, Lib.bytesWorld_cell w 5 s k (by simpa using hk')]
  have h1 : s.data.toList.getD k 0 = s.data.toList[k] := by simp [List.getD, List.getElem?_eq_getElem hk']
  have h2 : (bsOf s).getD k 0 = BitVec.ofNat 8 (s.data.toList[k]).toNat := by
    simp only [bsOf, List.getD, List.getElem?_map, List.getElem?_eq_getElem hk', Option.map_some, Option.getD_some]
  rw [h1, h2]
  have := (s.data.toList[k]).toNat_lt
  congr 2
  simp only [BitVec.toNat_ofNat]
  omega
theorem put_any (s t : ByteArray) (q : Nat) (w : World) : Calls Try.prog 8 #[.string s, .int .u64 (q : Nat), .string t] w fun e w' => ∃ ka kc va vc, e = .returned (.agg #[.slice ka s.size kc, .int .u64 (q : Nat), .int .i64 1, .slice va t.size vc]) ∧ Bytes w' (.slice ka s.size kc) (bsOf s) ∧ Bytes w' (.slice va t.size vc) (bsOf t) ∧ s.size ≤ kc ∧ Below w.heap.size w w' := by
  have n0 := heap_alloc_new w (.cells #[.slice none 0 0, .int .u64 0, .int .i64 0, .slice none 0 0] 25)
  have b0 := (Below.refl w.heap.size w).alloc (Nat.le_refl _) (.cells #[.slice none 0 0, .int .u64 0, .int .i64 0, .slice none 0 0] 25)
  obtain ⟨c1, w1, hc1, hy1, hcap1, b1⟩ := conv_new s (w.alloc (.cells #[.slice none 0 0, .int .u64 0, .int .i64 0, .slice none 0 0] 25))
  obtain ⟨c2, w2, hc2, hy2, _, b2⟩ := conv_new t w1
  have HN := hide (heap_keep b2 (heap_keep b1 n0))
  have HY1 := hide (hy1.below b2)
  have HY2 := hide hy2
  have hs1 := b1.size
  rw [World.size_alloc] at hc1 HY1 hs1
  have B2 := hide ((b0.trans (b1.mono b0.size)).trans (b2.mono (Nat.le_trans b0.size b1.size)))
  clear n0 b0 hy1 b1 hy2 b2
  go_enter Try.func8, Try.ntmps8
  go_wp2_with (refine wpList_store_row rfl 25 _ _ rfl _ _ rfl rfl _ _ HN.out ?_ ?_ ?_ ?_; (exact info29); (simp only [List.size_toArray, List.length_cons, List.length_nil]); (simp [Value.oneCell']))
  have tr : Turns (fun j => j = w.heap.size) w2 (w2.setRow w.heap.size #[.slice (some ⟨w.heap.size + 1, 0, none⟩) s.size c1, .int .u64 (q : Nat), .int .i64 1, .slice (some ⟨w1.heap.size, 0, none⟩) t.size c2]) := ⟨rfl, rfl, rfl, by simp, fun k _ hk => setRow_other _ _ _ _ hk⟩
  refine bodyPost_ret (v := .agg #[.slice (some ⟨w.heap.size + 1, 0, none⟩) s.size c1, .int .u64 (q : Nat), .int .i64 1, .slice (some ⟨w1.heap.size, 0, none⟩) t.size c2]) ?_ rfl ?_
  · exact results_cell_row Try.results8 _ _ _ _ _ _ _ rfl (setRow_heap _ _ _ _ _ _ HN.out) Try.underlying25 rfl info29
  · exact ⟨_, _, _, _, rfl, HY1.out.turns tr (fun a n c e => by cases e; show ¬ w.heap.size + 1 = w.heap.size; omega), HY2.out.turns tr (fun a n c e => by cases e; show ¬ w1.heap.size = w.heap.size; omega), hcap1, B2.out.trans (tr.below B2.out.size (fun k e => by omega))⟩
theorem ents_two {w : World} {g : Nat} {x y : Tow} (h : w.heap[g]? = some (.cells #[x.kv, .int .u64 (x.e.seq : Nat), .int .i64 x.e.kind, x.vv, y.kv, .int .u64 (y.e.seq : Nat), .int .i64 y.e.kind, y.vv] 25 (0, 0))) (h1 : Bytes w x.kv x.e.key) (h2 : Bytes w x.vv x.e.val) (h3 : Bytes w y.kv y.e.key) (h4 : Bytes w y.vv y.e.val) : Ents w (some ⟨g, 0, none⟩) [x, y] := by
  intro k z hz
  have hc : ∀ j, w.cell? ⟨g, j, none⟩ = (#[x.kv, .int .u64 (x.e.seq : Nat), .int .i64 x.e.kind, x.vv, y.kv, .int .u64 (y.e.seq : Nat), .int .i64 y.e.kind, y.vv] : Array Value)[j]? := fun j => cell_of_row w g j _ 25 (0, 0) h
  match k, hz with
  | 0, hz =>
    obtain rfl : x = z := by simpa using hz
    refine ⟨⟨g, 0, rfl, fun j u hu => ?_⟩, h1, h2⟩
    match j, hu with
    | 0, hu => rw [hc]; simpa using hu
    | 1, hu => rw [hc]; simpa using hu
    | 2, hu => rw [hc]; simpa using hu
    | 3, hu => rw [hc]; simpa using hu
    | j + 4, hu => simp at hu
  | 1, hz =>
    obtain rfl : y = z := by simpa using hz
    refine ⟨⟨g, 0, rfl, fun j u hu => ?_⟩, h3, h4⟩
    match j, hu with
    | 0, hu => rw [hc]; simpa using hu
    | 1, hu => rw [hc]; simpa using hu
    | 2, hu => rw [hc]; simpa using hu
    | 3, hu => rw [hc]; simpa using hu
    | j + 4, hu => simp at hu
  | k + 2, hz => simp at hz
theorem ents_one {w : World} {g : Nat} {x : Tow} (h : w.heap[g]? = some (.cells #[x.kv, .int .u64 (x.e.seq : Nat), .int .i64 x.e.kind, x.vv] 25 (0, 0))) (h1 : Bytes w x.kv x.e.key) (h2 : Bytes w x.vv x.e.val) : Ents w (some ⟨g, 0, none⟩) [x] := by
  intro k z hz
  have hc : ∀ j, w.cell? ⟨g, j, none⟩ = (#[x.kv, .int .u64 (x.e.seq : Nat), .int .i64 x.e.kind, x.vv] : Array Value)[j]? := fun j => cell_of_row w g j _ 25 (0, 0) h
  match k, hz with
  | 0, hz =>
    obtain rfl : x = z := by simpa using hz
    refine ⟨⟨g, 0, rfl, fun j u hu => ?_⟩, h1, h2⟩
    match j, hu with
    | 0, hu => rw [hc]; simpa using hu
    | 1, hu => rw [hc]; simpa using hu
    | 2, hu => rw [hc]; simpa using hu
    | 3, hu => rw [hc]; simpa using hu
    | j + 4, hu => simp at hu
  | k + 1, hz => simp at hz
theorem rows_one {w : World} {g : Nat} {x : Rw} (h : w.heap[g]? = some (.cells #[x.v] 27 (0, 0))) (h1 : RwOk w x) : RowsIn w (some ⟨g, 0, none⟩) [x] := by
  intro k z hz
  match k, hz with
  | 0, hz =>
    obtain rfl : x = z := by simpa using hz
    exact ⟨⟨g, 0, rfl, cell_of_row w g 0 _ 27 (0, 0) h⟩, h1⟩
  | k + 1, hz => simp at hz
theorem rows_two {w : World} {g : Nat} {x y : Rw} (h : w.heap[g]? = some (.cells #[x.v, y.v] 27 (0, 0))) (h1 : RwOk w x) (h2 : RwOk w y) : RowsIn w (some ⟨g, 0, none⟩) [x, y] := by
  intro k z hz
  match k, hz with
  | 0, hz =>
    obtain rfl : x = z := by simpa using hz
    exact ⟨⟨g, 0, rfl, cell_of_row w g 0 _ 27 (0, 0) h⟩, h1⟩
  | 1, hz =>
    obtain rfl : y = z := by simpa using hz
    exact ⟨⟨g, 0, rfl, cell_of_row w g 1 _ 27 (0, 0) h⟩, h2⟩
  | k + 2, hz => simp at hz
end Go.Proofs.Ytjnpendihdlgnaa
