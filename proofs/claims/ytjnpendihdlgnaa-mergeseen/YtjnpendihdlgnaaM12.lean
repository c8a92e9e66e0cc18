import Derived.Test.YtjnpendihdlgnaaM11
import Derived.Lib.SlBytesConst
import Derived.Lib.ConvBytes
import Derived.Deep.RegionHeld
import Derived.Deep.Light
/-
  What is merged is one; the law's put; rows of one entry and of two.
-/
namespace Go.Proofs.Ytjnpendihdlgnaa
open Go.RowKit
set_option maxRecDepth 100000
set_option maxHeartbeats 4000000
theorem eq_of_rise : ∀ {xs ys : List Tow}, xs.Pairwise ltT → ys.Pairwise ltT → (∀ x, x ∈ xs ↔ x ∈ ys) → xs = ys
  | [], [], _, _, _ => rfl
  | [], y :: ys, _, _, h => absurd ((h y).2 (by simp)) (by simp)
  | x :: xs, [], _, _, h => absurd ((h x).1 (by simp)) (by simp)
  | x :: xs, y :: ys, hx, hy, h => by
    have irr : ∀ z : Tow, ¬ ltT z z := fun z hz => by
      have := (cmpE_zero z.e.en z.e.en).2 ⟨rfl, rfl⟩
      unfold ltT at hz
      omega
    have asym : ∀ a b : Tow, ltT a b → ¬ ltT b a := fun a b h1 h2 => by
      have := cmpE_swap a.e.en b.e.en
      unfold ltT at h1 h2
      omega
    obtain ⟨hx1, hx2⟩ := List.pairwise_cons.1 hx
    obtain ⟨hy1, hy2⟩ := List.pairwise_cons.1 hy
    have e : x = y := by
      rcases List.mem_cons.1 ((h x).1 (by simp)) with e | e
      · exact e
      · rcases List.mem_cons.1 ((h y).2 (by simp)) with e2 | e2
        · exact e2.symm
        · exact absurd (hy1 x e) (asym _ _ (hx1 y e2))
    subst e
    refine congrArg (x :: ·) (eq_of_rise hx2 hy2 fun z => ⟨fun hz => ?_, fun hz => ?_⟩)
    · rcases List.mem_cons.1 ((h z).1 (List.mem_cons_of_mem _ hz)) with e | e
      · subst e; exact absurd (hx1 z hz) (irr z)
      · exact e
    · rcases List.mem_cons.1 ((h z).2 (List.mem_cons_of_mem _ hz)) with e | e
      · subst e; exact absurd (hy1 z hz) (irr z)
      · exact e
theorem same_of_rise {R : List Tow} (h : R.Pairwise ltT) {x y : Tow} (hx : x ∈ R) (hy : y ∈ R) (e : cmpE x.e.en y.e.en = 0) : x = y := by
  induction R with
  | nil => cases hx
  | cons z r ih =>
    obtain ⟨h1, h2⟩ := List.pairwise_cons.1 h
    rcases List.mem_cons.1 hx with rfl | hx'
    · rcases List.mem_cons.1 hy with rfl | hy'
      · rfl
      · have := h1 y hy'; unfold ltT at this; omega
    · rcases List.mem_cons.1 hy with rfl | hy'
      · have := h1 x hx'; unfold ltT at this; have := cmpE_swap x.e.en y.e.en; omega
      · exact ih h2 hx' hy'
/-- What is merged is one. -/
theorem Mg.uniq {L : List Hd} (hu : Up L) (hno : ∀ h h', h ∈ L → h' ∈ L → h.no = h'.no → h = h') {xs ys : List Tow} (hx : Mg L xs) (hy : Mg L ys) : xs = ys := by
  have key : ∀ {xs ys : List Tow}, Mg L xs → Mg L ys → ∀ x, x ∈ xs → x ∈ ys := fun {xs ys} hx hy x hm => by
    obtain ⟨h, h1, h2, h3⟩ := hx.of x hm
    obtain ⟨y, y1, y2⟩ := hy.all h h1 x h2
    obtain ⟨h', h4, h5, h6⟩ := hy.of y y1
    have s := cmpE_swap x.e.en y.e.en
    have e : h = h' := by
      refine hno h h' h1 h4 ?_
      rcases Nat.lt_trichotomy h.no h'.no with c | c | c
      · exact absurd (by omega) (h6 h h1 c x h2)
      · exact c
      · exact absurd y2 (h3 h' h4 c y h5)
    subst e
    rw [← same_of_rise (hu h h1) h5 h2 y2]
    exact y1
  exact eq_of_rise hx.rise hy.rise fun x => ⟨key hx hy x, key hy hx x⟩
theorem hds_no {rs : List Rw} : ∀ h h', h ∈ hds rs → h' ∈ hds rs → h.no = h'.no → h = h' := fun h h' hh hh' e => by
  obtain ⟨i, x, h1, h2⟩ := mem_hds.1 hh
  obtain ⟨i', x', h1', h2'⟩ := mem_hds.1 hh'
  have no : ∀ {x : Rw} {i : Nat} {h : Hd}, hdOf x i = some h → h.no = i := fun {x i h} e => by
    unfold hdOf at e
    split at e
    · cases e; rfl
    · cases e
  have e1 : i = i' := by rw [← no h2, ← no h2', e]
  subst e1
  rw [h1] at h1'
  cases h1'
  rw [h2] at h2'
  cases h2'
  rfl
theorem hds_up {w : World} {a : Option Addr} {rs : List Rw} (hr : RowsIn w a rs) (hn : rs.length ≤ 1000000) (ho : eachOrd rs = true) : Up (hds rs) := fun h hh => by
  obtain ⟨_, i, x, h1, h2, _⟩ := hds_mem hr hn hh
  rw [h2]
  exact ord_up ho i x h1
/-- A text's bytes. -/
def bsOf (s : ByteArray) : List (BitVec 8) := s.data.toList.map fun u => BitVec.ofNat 8 u.toNat
theorem conv_new (s : ByteArray) (w : World) : ∃ c w', (convert 9 22 (.string s)).run Try.prog w = .ok (.slice (some ⟨w.heap.size, 0, none⟩) s.size c) w' ∧ Bytes w' (.slice (some ⟨w.heap.size, 0, none⟩) s.size c) (bsOf s) ∧ s.size ≤ c ∧ Below w.heap.size w w' := by
  refine ⟨_, _, Lib.run_convert_string_bytes w 9 22 5 s Try.underlying9 Try.underlying22 Try.underlying5, ⟨_, _, by simp [bsOf]; rfl, fun k hk => ⟨w.heap.size, 0, rfl, ?_⟩⟩, grownCap_ge _ _ _ _, ⟨rfl, rfl, rfl, by rw [Lib.bytesWorld_size]; omega, fun k hk => Lib.bytesWorld_at_old w 5 s k hk⟩⟩
  have hk' : k < s.data.toList.length := by simpa [bsOf] using hk
  rw [Nat.zero_add, Lib.bytesWorld_cell w 5 s k (by simpa using hk')]
  have h1 : s.data.toList.getD k 0 = s.data.toList[k] := by simp [List.getD, List.getElem?_eq_getElem hk']
  have h2 : (bsOf s).getD k 0 = BitVec.ofNat 8 (s.data.toList[k]).toNat := by
    simp only [bsOf, List.getD, List.getElem?_map, List.getElem?_eq_getElem hk', Option.map_some, Option.getD_some]
  rw [h1, h2]
  have := (s.data.toList[k]).toNat_lt
  congr 2
  simp only [BitVec.toNat_ofNat]
  omega
theorem put_any (s t : ByteArray) (q : Nat) (w : World) : Calls Try.prog 8 #[.string s, .int .u64 (q : Nat), .string t] w fun e w' => ∃ ka kc va vc, e = .returned (.agg #[.slice ka s.size kc, .int .u64 (q : Nat), .int .i64 1, .slice va t.size vc]) ∧ Bytes w' (.slice ka s.size kc) (bsOf s) ∧ Bytes w' (.slice va t.size vc) (bsOf t) ∧ s.size ≤ kc ∧ Below w.heap.size w w' := by
  have n0 := heap_alloc_new w (.cells #[.slice none 0 0, .int .u64 0, .int .i64 0, .slice none 0 0] 25)
  have b0 := (Below.refl w.heap.size w).alloc (Nat.le_refl _) (.cells #[.slice none 0 0, .int .u64 0, .int .i64 0, .slice none 0 0] 25)
  obtain ⟨c1, w1, hc1, hy1, hcap1, b1⟩ := conv_new s (w.alloc (.cells #[.slice none 0 0, .int .u64 0, .int .i64 0, .slice none 0 0] 25))
  obtain ⟨c2, w2, hc2, hy2, _, b2⟩ := conv_new t w1
  have HN := hide (heap_keep b2 (heap_keep b1 n0))
  have HY1 := hide (hy1.below b2)
  have HY2 := hide hy2
  have hs1 := b1.size
  rw [World.size_alloc] at hc1 HY1 hs1
  have B2 := hide ((b0.trans (b1.mono b0.size)).trans (b2.mono (Nat.le_trans b0.size b1.size)))
  clear n0 b0 hy1 b1 hy2 b2
  go_enter Try.func8, Try.ntmps8
  go_wp2_with (refine wpList_store_row rfl 25 _ _ rfl _ _ rfl rfl _ _ HN.out ?_ ?_ ?_ ?_; (exact info29); (simp only [List.size_toArray, List.length_cons, List.length_nil]); (simp [Value.oneCell']))
  have tr : Turns (fun j => j = w.heap.size) w2 (w2.setRow w.heap.size #[.slice (some ⟨w.heap.size + 1, 0, none⟩) s.size c1, .int .u64 (q : Nat), .int .i64 1, .slice (some ⟨w1.heap.size, 0, none⟩) t.size c2]) := ⟨rfl, rfl, rfl, by simp, fun k _ hk => setRow_other _ _ _ _ hk⟩
  refine bodyPost_ret (v := .agg #[.slice (some ⟨w.heap.size + 1, 0, none⟩) s.size c1, .int .u64 (q : Nat), .int .i64 1, .slice (some ⟨w1.heap.size, 0, none⟩) t.size c2]) ?_ rfl ?_
  · exact results_cell_row Try.results8 _ _ _ _ _ _ _ rfl (setRow_heap _ _ _ _ _ _ HN.out) Try.underlying25 rfl info29
  · exact ⟨_, _, _, _, rfl, HY1.out.turns tr (fun a n c e => by cases e; show ¬ w.heap.size + 1 = w.heap.size; omega), HY2.out.turns tr (fun a n c e => by cases e; show ¬ w1.heap.size = w.heap.size; omega), hcap1, B2.out.trans (tr.below B2.out.size (fun k e => by omega))⟩
theorem ents_two {w : World} {g : Nat} {x y : Tow} (h : w.heap[g]? = some (.cells #[x.kv, .int .u64 (x.e.seq : Nat), .int .i64 x.e.kind, x.vv, y.kv, .int .u64 (y.e.seq : Nat), .int .i64 y.e.kind, y.vv] 25 (0, 0))) (h1 : Bytes w x.kv x.e.key) (h2 : Bytes w x.vv x.e.val) (h3 : Bytes w y.kv y.e.key) (h4 : Bytes w y.vv y.e.val) : Ents w (some ⟨g, 0, none⟩) [x, y] := by
  intro k z hz
  have hc : ∀ j, w.cell? ⟨g, j, none⟩ = (#[x.kv, .int .u64 (x.e.seq : Nat), .int .i64 x.e.kind, x.vv, y.kv, .int .u64 (y.e.seq : Nat), .int .i64 y.e.kind, y.vv] : Array Value)[j]? := fun j => cell_of_row w g j _ 25 (0, 0) h
  match k, hz with
  | 0, hz =>
    obtain rfl : x = z := by simpa using hz
    refine ⟨⟨g, 0, rfl, fun j u hu => ?_⟩, h1, h2⟩
    match j, hu with
    | 0, hu => rw [hc]; simpa using hu
    | 1, hu => rw [hc]; simpa using hu
    | 2, hu => rw [hc]; simpa using hu
    | 3, hu => rw [hc]; simpa using hu
    | j + 4, hu => simp at hu
  | 1, hz =>
    obtain rfl : y = z := by simpa using hz
    refine ⟨⟨g, 0, rfl, fun j u hu => ?_⟩, h3, h4⟩
    match j, hu with
    | 0, hu => rw [hc]; simpa using hu
    | 1, hu => rw [hc]; simpa using hu
    | 2, hu => rw [hc]; simpa using hu
    | 3, hu => rw [hc]; simpa using hu
    | j + 4, hu => simp at hu
  | k + 2, hz => simp at hz
theorem ents_one {w : World} {g : Nat} {x : Tow} (h : w.heap[g]? = some (.cells #[x.kv, .int .u64 (x.e.seq : Nat), .int .i64 x.e.kind, x.vv] 25 (0, 0))) (h1 : Bytes w x.kv x.e.key) (h2 : Bytes w x.vv x.e.val) : Ents w (some ⟨g, 0, none⟩) [x] := by
  intro k z hz
  have hc : ∀ j, w.cell? ⟨g, j, none⟩ = (#[x.kv, .int .u64 (x.e.seq : Nat), .int .i64 x.e.kind, x.vv] : Array Value)[j]? := fun j => cell_of_row w g j _ 25 (0, 0) h
  match k, hz with
  | 0, hz =>
    obtain rfl : x = z := by simpa using hz
    refine ⟨⟨g, 0, rfl, fun j u hu => ?_⟩, h1, h2⟩
    match j, hu with
    | 0, hu => rw [hc]; simpa using hu
    | 1, hu => rw [hc]; simpa using hu
    | 2, hu => rw [hc]; simpa using hu
    | 3, hu => rw [hc]; simpa using hu
    | j + 4, hu => simp at hu
  | k + 1, hz => simp at hz
theorem rows_one {w : World} {g : Nat} {x : Rw} (h : w.heap[g]? = some (.cells #[x.v] 27 (0, 0))) (h1 : RwOk w x) : RowsIn w (some ⟨g, 0, none⟩) [x] := by
  intro k z hz
  match k, hz with
  | 0, hz =>
    obtain rfl : x = z := by simpa using hz
    exact ⟨⟨g, 0, rfl, cell_of_row w g 0 _ 27 (0, 0) h⟩, h1⟩
  | k + 1, hz => simp at hz
theorem rows_two {w : World} {g : Nat} {x y : Rw} (h : w.heap[g]? = some (.cells #[x.v, y.v] 27 (0, 0))) (h1 : RwOk w x) (h2 : RwOk w y) : RowsIn w (some ⟨g, 0, none⟩) [x, y] := by
  intro k z hz
  match k, hz with
  | 0, hz =>
    obtain rfl : x = z := by simpa using hz
    exact ⟨⟨g, 0, rfl, cell_of_row w g 0 _ 27 (0, 0) h⟩, h1⟩
  | 1, hz =>
    obtain rfl : y = z := by simpa using hz
    exact ⟨⟨g, 0, rfl, cell_of_row w g 1 _ 27 (0, 0) h⟩, h2⟩
  | k + 2, hz => simp at hz
end Go.Proofs.Ytjnpendihdlgnaa

/-
  The chapter's first examples: lives.
-/
namespace Go.Proofs.Ytjnpendihdlgnaa
open Go.RowKit
set_option maxRecDepth 100000
set_option maxHeartbeats 8000000
theorem put_a1x (w : World) : Calls Try.prog 8 #[.string ⟨#[97]⟩, .int .u64 1, .string ⟨#[120]⟩] w fun e w' => ∃ ka kc va vc, e = .returned (.agg #[.slice ka 1 kc, .int .u64 1, .int .i64 1, .slice va 1 vc]) ∧ Bytes w' (.slice ka 1 kc) [97#8] ∧ Bytes w' (.slice va 1 vc) [120#8] ∧ 1 ≤ kc ∧ Below w.heap.size w w' := put_any ⟨#[97]⟩ ⟨#[120]⟩ 1 w
theorem put_a1y (w : World) : Calls Try.prog 8 #[.string ⟨#[97]⟩, .int .u64 1, .string ⟨#[121]⟩] w fun e w' => ∃ ka kc va vc, e = .returned (.agg #[.slice ka 1 kc, .int .u64 1, .int .i64 1, .slice va 1 vc]) ∧ Bytes w' (.slice ka 1 kc) [97#8] ∧ Bytes w' (.slice va 1 vc) [121#8] ∧ 1 ≤ kc ∧ Below w.heap.size w w' := put_any ⟨#[97]⟩ ⟨#[121]⟩ 1 w
theorem put_a2y (w : World) : Calls Try.prog 8 #[.string ⟨#[97]⟩, .int .u64 2, .string ⟨#[121]⟩] w fun e w' => ∃ ka kc va vc, e = .returned (.agg #[.slice ka 1 kc, .int .u64 2, .int .i64 1, .slice va 1 vc]) ∧ Bytes w' (.slice ka 1 kc) [97#8] ∧ Bytes w' (.slice va 1 vc) [121#8] ∧ 1 ≤ kc ∧ Below w.heap.size w w' := put_any ⟨#[97]⟩ ⟨#[121]⟩ 2 w
theorem put_b1z (w : World) : Calls Try.prog 8 #[.string ⟨#[98]⟩, .int .u64 1, .string ⟨#[122]⟩] w fun e w' => ∃ ka kc va vc, e = .returned (.agg #[.slice ka 1 kc, .int .u64 1, .int .i64 1, .slice va 1 vc]) ∧ Bytes w' (.slice ka 1 kc) [98#8] ∧ Bytes w' (.slice va 1 vc) [122#8] ∧ 1 ≤ kc ∧ Below w.heap.size w w' := put_any ⟨#[98]⟩ ⟨#[122]⟩ 1 w
def eA1x : Ent := ⟨[97#8], 1, 1, [120#8]⟩
def eA1y : Ent := ⟨[97#8], 1, 1, [121#8]⟩
def eA2y : Ent := ⟨[97#8], 2, 1, [121#8]⟩
def eB1z : Ent := ⟨[98#8], 1, 1, [122#8]⟩
theorem mg_ex1 (a b : Addr) (c d : Nat) (t1 t2 t3 : Tow) (h1 : t1.e = eA1x) (h2 : t2.e = eA2y) (h3 : t3.e = eB1z) : Mg (hds [⟨some a, c, [t1]⟩, ⟨some b, d, [t2, t3]⟩]) [t2, t1, t3] := by
  have hh : hds [⟨some a, c, [t1]⟩, ⟨some b, d, [t2, t3]⟩] = [⟨a.block, a.off, c, [t1], 0⟩, ⟨b.block, b.off, d, [t2, t3], 1⟩] := rfl
  rw [hh]
  have d21 : cmpE eA2y.en eA1x.en < 0 := by decide
  have d23 : cmpE eA2y.en eB1z.en < 0 := by decide
  have d13 : cmpE eA1x.en eB1z.en < 0 := by decide
  have z1 : cmpE eA1x.en eA1x.en = 0 := by decide
  have z2 : cmpE eA2y.en eA2y.en = 0 := by decide
  have z3 : cmpE eB1z.en eB1z.en = 0 := by decide
  have n12 : cmpE eA1x.en eA2y.en ≠ 0 := by decide
  have n13 : cmpE eA1x.en eB1z.en ≠ 0 := by decide
  refine ⟨?_, fun x hx => ?_, fun h hh y hy => ?_⟩
  · simp only [List.pairwise_cons, List.mem_cons, List.not_mem_nil, or_false, forall_eq_or_imp, forall_eq, ltT, h1, h2, h3, d21, d23, d13, List.Pairwise.nil, and_true, false_implies, implies_true]
  · simp only [List.mem_cons, List.not_mem_nil, or_false] at hx
    rcases hx with rfl | rfl | rfl
    · refine ⟨_, List.mem_cons_of_mem _ (List.mem_cons_self ..), by simp, fun h' hh' hno y hy => ?_⟩
      simp only [List.mem_cons, List.not_mem_nil, or_false] at hh'
      rcases hh' with rfl | rfl
      · obtain rfl : y = t1 := by simpa using hy
        rw [h1, h2]; exact n12
      · exact absurd hno (by simp)
    · refine ⟨_, List.mem_cons_self .., by simp, fun h' hh' hno y hy => ?_⟩
      exact absurd hno (by simp)
    · refine ⟨_, List.mem_cons_of_mem _ (List.mem_cons_self ..), by simp, fun h' hh' hno y hy => ?_⟩
      simp only [List.mem_cons, List.not_mem_nil, or_false] at hh'
      rcases hh' with rfl | rfl
      · obtain rfl : y = t1 := by simpa using hy
        rw [h1, h3]; exact n13
      · exact absurd hno (by simp)
  · simp only [List.mem_cons, List.not_mem_nil, or_false] at hh
    rcases hh with rfl | rfl
    · obtain rfl : y = t1 := by simpa using hy
      exact ⟨y, by simp, by rw [h1]; exact z1⟩
    · have : y = t2 ∨ y = t3 := by simpa using hy
      rcases this with rfl | rfl
      · exact ⟨y, by simp, by rw [h2]; exact z2⟩
      · exact ⟨y, by simp, by rw [h3]; exact z3⟩
theorem mg_ex2 (a b : Addr) (c d : Nat) (t1 t2 : Tow) (h1 : t1.e = eA1x) (h2 : t2.e = eA1y) : Mg (hds [⟨some a, c, [t1]⟩, ⟨some b, d, [t2]⟩]) [t1] := by
  have hh : hds [⟨some a, c, [t1]⟩, ⟨some b, d, [t2]⟩] = [⟨a.block, a.off, c, [t1], 0⟩, ⟨b.block, b.off, d, [t2], 1⟩] := rfl
  rw [hh]
  have z1 : cmpE eA1x.en eA1x.en = 0 := by decide
  have z2 : cmpE eA1x.en eA1y.en = 0 := by decide
  refine ⟨by simp, fun x hx => ?_, fun h hh y hy => ?_⟩
  · obtain rfl : x = t1 := by simpa using hx
    exact ⟨_, List.mem_cons_self .., by simp, fun h' hh' hno y hy => absurd hno (by simp)⟩
  · simp only [List.mem_cons, List.not_mem_nil, or_false] at hh
    rcases hh with rfl | rfl
    · obtain rfl : y = t1 := by simpa using hy
      exact ⟨y, by simp, by rw [h1]; exact z1⟩
    · obtain rfl : y = t2 := by simpa using hy
      exact ⟨t1, by simp, by rw [h1, h2]; exact z2⟩
/-- What All answers where it is known. -/
theorem all_known (a : Option Addr) (n c : Nat) (rs : List Rw) (w : World) (h : RowsIn w a rs) (hn : n = rs.length) (hf : Fine rs) (ho : eachOrd rs = true) (ys : List Tow) (hy : Mg (hds rs) ys) :
    Calls Try.prog 10 #[.slice a n c] w fun e w' => ∃ v R, e = .returned (.tuple #[v, .int .i64 0]) ∧ ERow w' w.heap.size v R ∧ Shown w' w.heap.size R ∧ R.map (·.e) = ys.map (·.e) ∧ Below w.heap.size w w' := by
  refine (all_any a n c rs w h hn hf).mono ?_
  rintro e w' ⟨v, R, rfl, hE, hS, hb, hA⟩
  refine ⟨v, R, by rw [ho]; rfl, hE, hS, ?_, hb⟩
  rcases hA with ⟨_, xs, hx, he⟩ | ⟨e, _⟩
  · rw [he, Mg.uniq (hds_up h hf.rows ho) hds_no hx hy]
  · rw [ho] at e; cases e
theorem ERow.at {w : World} {B : Nat} {v : Value} {R : List Tow} (h : ERow w B v R) (hne : R ≠ []) : ∃ g c : Nat, v = .slice (some ⟨g, 0, none⟩) R.length c ∧ ∀ k x, R[k]? = some x → w.cell? ⟨g, k * 4, none⟩ = some x.kv ∧ w.cell? ⟨g, k * 4 + 1, none⟩ = some (.int .u64 (x.e.seq : Nat)) ∧ w.cell? ⟨g, k * 4 + 2, none⟩ = some (.int .i64 x.e.kind) ∧ w.cell? ⟨g, k * 4 + 3, none⟩ = some x.vv := by
  rcases h with ⟨rfl, _⟩ | ⟨g, c, n, rfl, rfl, _, _, cs, h1, _, h3⟩
  · exact absurd rfl hne
  · refine ⟨g, c, rfl, fun k x hx => ?_⟩
    have hk := (List.getElem?_eq_some_iff.1 hx).1
    have hl := entCells_length R
    obtain ⟨a0, a1, a2, a3⟩ := entCells_at R k x hx
    refine ⟨?_, ?_, ?_, ?_⟩
    · rw [cell_of_row w g _ cs 25 (0, 0) h1, h3 _ (by omega), a0]
    · rw [cell_of_row w g _ cs 25 (0, 0) h1, h3 _ (by omega), a1]
    · rw [cell_of_row w g _ cs 25 (0, 0) h1, h3 _ (by omega), a2]
    · rw [cell_of_row w g _ cs 25 (0, 0) h1, h3 _ (by omega), a3]
theorem all_ex1 (g g1 g2 : Nat) (t1 t2 t3 : Tow) (w : World) (h1 : t1.e = eA1x) (h2 : t2.e = eA2y) (h3 : t3.e = eB1z) (hr : RowsIn w (some ⟨g, 0, none⟩) [⟨some ⟨g1, 0, none⟩, 1, [t1]⟩, ⟨some ⟨g2, 0, none⟩, 2, [t2, t3]⟩]) :
    Calls Try.prog 10 #[.slice (some ⟨g, 0, none⟩) 2 2] w fun e w' => ∃ q c, e = .returned (.tuple #[.slice (some ⟨q, 0, none⟩) 3 c, .int .i64 0]) ∧ w'.cell? ⟨q, 1, none⟩ = some (.int .u64 2) ∧ w'.cell? ⟨q, 5, none⟩ = some (.int .u64 1) ∧ Below w.heap.size w w' := by
  refine (all_known (some ⟨g, 0, none⟩) 2 2 _ w hr rfl ⟨by simp, by show 3 ≤ 1000000; omega, fun x hx => ?_⟩ ?_ [t2, t1, t3] (mg_ex1 _ _ _ _ t1 t2 t3 h1 h2 h3)).mono ?_
  · have : x = t1 ∨ x = t2 ∨ x = t3 := by simpa [allOf] using hx
    rcases this with rfl | rfl | rfl
    · rw [h1]; decide
    · rw [h2]; decide
    · rw [h3]; decide
  · show (inOrd [t1.e] && (inOrd [t2.e, t3.e] && true)) = true
    rw [h1, h2, h3]; decide
  · rintro e w' ⟨v, R, rfl, hE, hS, hm, hb⟩
    have hm' : R.map (·.e) = [eA2y, eA1x, eB1z] := by rw [hm]; simp [h1, h2, h3]
    obtain ⟨r1, R1, rfl, e1, hm1⟩ := List.map_eq_cons_iff.1 hm'
    obtain ⟨r2, R2, rfl, e2, hm2⟩ := List.map_eq_cons_iff.1 hm1
    obtain ⟨r3, R3, rfl, e3, hm3⟩ := List.map_eq_cons_iff.1 hm2
    obtain rfl : R3 = [] := by simpa using hm3
    obtain ⟨q, c, rfl, hc⟩ := hE.at (by simp)
    refine ⟨q, c, rfl, ?_, ?_, hb⟩
    · have := (hc 0 r1 rfl).2.1
      rw [e1] at this
      exact this
    · have := (hc 1 r2 rfl).2.1
      rw [e2] at this
      exact this
theorem all_ex2 (g g1 g2 : Nat) (t1 t2 : Tow) (w : World) (h1 : t1.e = eA1x) (h2 : t2.e = eA1y) (hr : RowsIn w (some ⟨g, 0, none⟩) [⟨some ⟨g1, 0, none⟩, 1, [t1]⟩, ⟨some ⟨g2, 0, none⟩, 1, [t2]⟩]) :
    Calls Try.prog 10 #[.slice (some ⟨g, 0, none⟩) 2 2] w fun e w' => ∃ q c va vc, e = .returned (.tuple #[.slice (some ⟨q, 0, none⟩) 1 c, .int .i64 0]) ∧ w'.cell? ⟨q, 3, none⟩ = some (.slice va 1 vc) ∧ Bytes w' (.slice va 1 vc) [120#8] ∧ Below w.heap.size w w' := by
  refine (all_known (some ⟨g, 0, none⟩) 2 2 _ w hr rfl ⟨by simp, by show 2 ≤ 1000000; omega, fun x hx => ?_⟩ ?_ [t1] (mg_ex2 _ _ _ _ t1 t2 h1 h2)).mono ?_
  · have : x = t1 ∨ x = t2 := by simpa [allOf] using hx
    rcases this with rfl | rfl
    · rw [h1]; decide
    · rw [h2]; decide
  · show (inOrd [t1.e] && (inOrd [t2.e] && true)) = true
    rw [h1, h2]; decide
  · rintro e w' ⟨v, R, rfl, hE, hS, hm, hb⟩
    have hm' : R.map (·.e) = [eA1x] := by rw [hm]; simp [h1]
    obtain ⟨r1, R1, rfl, e1, hm1⟩ := List.map_eq_cons_iff.1 hm'
    obtain rfl : R1 = [] := by simpa using hm1
    obtain ⟨q, c, rfl, hc⟩ := hE.at (by simp)
    have h4 := (hc 0 r1 rfl).2.2.2
    have h5 := (hS r1 (by simp)).2.1
    obtain ⟨ka, kc, va, vc, e⟩ := r1
    simp only at e1
    subst e1
    exact ⟨q, c, va, vc, rfl, h4, h5, hb⟩
end Go.Proofs.Ytjnpendihdlgnaa

/-
  lives.
-/
namespace Go.Proofs.Ytjnpendihdlgnaa
open Go.RowKit
set_option maxRecDepth 100000
set_option maxHeartbeats 8000000
theorem lives_any (w : World) : Calls Try.prog 11 #[] w fun e w' => e = .returned (.bool true) ∧ Below w.heap.size w w' := by
  go_enter Try.func11, Try.ntmps11
  go_wp2_with fail
  refine (put_a1x w).mono ?_
  rintro e w1 ⟨k1, kc1, v1, vc1, rfl, hk1, hv1, _, b1⟩
  have t1 := Turns.of_below b1 (fun _ => False)
  have t2 : Turns (fun _ => False) w1 (w1.alloc (.cells #[.slice k1 1 kc1, .int .u64 1, .int .i64 1, .slice v1 1 vc1] 25)) := (Turns.refl _ _).alloc _
  have n2 := heap_alloc_new w1 (.cells #[.slice k1 1 kc1, .int .u64 1, .int .i64 1, .slice v1 1 vc1] 25)
  have N2 := hide n2
  have K1 := hide (hk1.quiet t2)
  have V1 := hide (hv1.quiet t2)
  have T2 := hide (t1.trans t2)
  clear b1 t1 t2 hk1 hv1 n2
  go_wp2_with fail
  generalize w1.alloc (.cells #[.slice k1 1 kc1, .int .u64 1, .int .i64 1, .slice v1 1 vc1] 25) = w2 at *
  generalize w1.heap.size = g1 at *
  refine (put_a2y w2).mono ?_
  rintro e w3 ⟨k2, kc2, v2, vc2, rfl, hk2, hv2, _, b3⟩
  have t3 := Turns.of_below b3 (fun _ => False)
  have N3 := hide (t3.heap N2.out (fun x => x))
  have K2 := hide (K1.out.quiet t3)
  have V2 := hide (V1.out.quiet t3)
  have K3 := hide hk2
  have V3 := hide hv2
  have T3 := hide (T2.out.trans t3)
  clear b3 t3 hk2 hv2 K1 V1 N2 T2
  go_wp2_with fail
  refine (put_b1z w3).mono ?_
  rintro e w4 ⟨k3, kc3, v3, vc3, rfl, hk3, hv3, _, b4⟩
  have t4 := Turns.of_below b4 (fun _ => False)
  have ta : Turns (fun _ => False) w4 (w4.alloc (.cells #[.slice k2 1 kc2, .int .u64 2, .int .i64 1, .slice v2 1 vc2, .slice k3 1 kc3, .int .u64 1, .int .i64 1, .slice v3 1 vc3] 25)) := (Turns.refl _ _).alloc _
  have na := heap_alloc_new w4 (.cells #[.slice k2 1 kc2, .int .u64 2, .int .i64 1, .slice v2 1 vc2, .slice k3 1 kc3, .int .u64 1, .int .i64 1, .slice v3 1 vc3] 25)
  obtain ⟨w5, hw5⟩ : ∃ w5, w5 = w4.alloc (.cells #[.slice k2 1 kc2, .int .u64 2, .int .i64 1, .slice v2 1 vc2, .slice k3 1 kc3, .int .u64 1, .int .i64 1, .slice v3 1 vc3] 25) := ⟨_, rfl⟩
  rw [← hw5] at ta na
  have tb : Turns (fun _ => False) w5 (w5.alloc (.cells #[.slice (some ⟨g1, 0, none⟩) 1 1, .slice (some ⟨w4.heap.size, 0, none⟩) 2 2] 27)) := (Turns.refl _ _).alloc _
  have nb := heap_alloc_new w5 (.cells #[.slice (some ⟨g1, 0, none⟩) 1 1, .slice (some ⟨w4.heap.size, 0, none⟩) 2 2] 27)
  have tab := ta.trans tb
  have hE1 : Ents (w5.alloc (.cells #[.slice (some ⟨g1, 0, none⟩) 1 1, .slice (some ⟨w4.heap.size, 0, none⟩) 2 2] 27)) (some ⟨g1, 0, none⟩) [⟨k1, kc1, v1, vc1, eA1x⟩] := ents_one ((t4.trans tab).heap N3.out (fun x => x)) (K2.out.quiet (t4.trans tab)) (V2.out.quiet (t4.trans tab))
  have hE2 : Ents (w5.alloc (.cells #[.slice (some ⟨g1, 0, none⟩) 1 1, .slice (some ⟨w4.heap.size, 0, none⟩) 2 2] 27)) (some ⟨w4.heap.size, 0, none⟩) [⟨k2, kc2, v2, vc2, eA2y⟩, ⟨k3, kc3, v3, vc3, eB1z⟩] := ents_two (tb.heap na (fun x => x)) (K3.out.quiet (t4.trans tab)) (V3.out.quiet (t4.trans tab)) (hk3.quiet tab) (hv3.quiet tab)
  have AL := hide (all_ex1 w5.heap.size g1 w4.heap.size _ _ _ _ rfl rfl rfl (rows_two nb ⟨hE1, Nat.le_refl _, by simp⟩ ⟨hE2, Nat.le_refl _, by simp⟩))
  have hsz5 : w5.heap.size = w4.heap.size + 1 := by rw [hw5]; simp
  rw [hsz5] at AL
  have T5 := hide ((T3.out.trans t4).trans tab)
  have HW5 := hide hw5
  clear b4 t4 ta na tb nb tab hE1 hE2 hk3 hv3 hw5 hsz5 K2 V2 K3 V3 N3 T3
  go_wp2_with fail
  rw [← HW5.out]
  refine AL.out.mono ?_
  rintro e w6 ⟨q, c, rfl, hq1, hq5, b6⟩
  have t6 := Turns.of_below b6 (fun _ => False)
  have T6 := hide (T5.out.trans t6)
  have Q1 := hide hq1
  have Q5 := hide hq5
  clear AL b6 t6 hq1 hq5 T5 HW5
  generalize w5.alloc (.cells #[.slice (some ⟨g1, 0, none⟩) 1 1, .slice (some ⟨w4.heap.size, 0, none⟩) 2 2] 27) = w50 at *
  go_wp2_with fail
  refine (put_a1x w6).mono ?_
  rintro e w7 ⟨k4, kc4, v4, vc4, rfl, hk4, hv4, _, b7⟩
  have t7 := Turns.of_below b7 (fun _ => False)
  have ta : Turns (fun _ => False) w7 (w7.alloc (.cells #[.slice k4 1 kc4, .int .u64 1, .int .i64 1, .slice v4 1 vc4] 25)) := (Turns.refl _ _).alloc _
  have na := heap_alloc_new w7 (.cells #[.slice k4 1 kc4, .int .u64 1, .int .i64 1, .slice v4 1 vc4] 25)
  have N8 := hide na
  have K4 := hide (hk4.quiet ta)
  have V4 := hide (hv4.quiet ta)
  have T8 := hide (T6.out.trans (t7.trans ta))
  have U8 := hide (t7.trans ta)
  clear b7 t7 ta na hk4 hv4 T6
  go_wp2_with fail
  generalize w7.alloc (.cells #[.slice k4 1 kc4, .int .u64 1, .int .i64 1, .slice v4 1 vc4] 25) = w8 at *
  generalize w7.heap.size = g7 at *
  refine (put_a1y w8).mono ?_
  rintro e w9 ⟨k5, kc5, v5, vc5, rfl, hk5, hv5, _, b9⟩
  have t9 := Turns.of_below b9 (fun _ => False)
  have ta : Turns (fun _ => False) w9 (w9.alloc (.cells #[.slice k5 1 kc5, .int .u64 1, .int .i64 1, .slice v5 1 vc5] 25)) := (Turns.refl _ _).alloc _
  have na := heap_alloc_new w9 (.cells #[.slice k5 1 kc5, .int .u64 1, .int .i64 1, .slice v5 1 vc5] 25)
  obtain ⟨wa, hwa⟩ : ∃ wa, wa = w9.alloc (.cells #[.slice k5 1 kc5, .int .u64 1, .int .i64 1, .slice v5 1 vc5] 25) := ⟨_, rfl⟩
  rw [← hwa] at ta na
  have tb : Turns (fun _ => False) wa (wa.alloc (.cells #[.slice (some ⟨g7, 0, none⟩) 1 1, .slice (some ⟨w9.heap.size, 0, none⟩) 1 1] 27)) := (Turns.refl _ _).alloc _
  have nb := heap_alloc_new wa (.cells #[.slice (some ⟨g7, 0, none⟩) 1 1, .slice (some ⟨w9.heap.size, 0, none⟩) 1 1] 27)
  have tab := ta.trans tb
  have hE1 : Ents (wa.alloc (.cells #[.slice (some ⟨g7, 0, none⟩) 1 1, .slice (some ⟨w9.heap.size, 0, none⟩) 1 1] 27)) (some ⟨g7, 0, none⟩) [⟨k4, kc4, v4, vc4, eA1x⟩] := ents_one ((t9.trans tab).heap N8.out (fun x => x)) (K4.out.quiet (t9.trans tab)) (V4.out.quiet (t9.trans tab))
  have hE2 : Ents (wa.alloc (.cells #[.slice (some ⟨g7, 0, none⟩) 1 1, .slice (some ⟨w9.heap.size, 0, none⟩) 1 1] 27)) (some ⟨w9.heap.size, 0, none⟩) [⟨k5, kc5, v5, vc5, eA1y⟩] := ents_one (tb.heap na (fun x => x)) (hk5.quiet tab) (hv5.quiet tab)
  have AL := hide (all_ex2 wa.heap.size g7 w9.heap.size _ _ _ rfl rfl (rows_two nb ⟨hE1, Nat.le_refl _, by simp⟩ ⟨hE2, Nat.le_refl _, by simp⟩))
  have hsza : wa.heap.size = w9.heap.size + 1 := by rw [hwa]; simp
  rw [hsza] at AL
  have Tb := hide ((T8.out.trans t9).trans tab)
  have Ub := hide ((U8.out.trans t9).trans tab)
  have HWA := hide hwa
  clear b9 t9 ta na tb nb tab hE1 hE2 hk5 hv5 hwa hsza K4 V4 N8 T8 U8
  go_wp2_with fail
  rw [← HWA.out]
  refine AL.out.mono ?_
  rintro e wc ⟨q2, c2, va, vc, rfl, hq3, hby, bc⟩
  have tc := Turns.of_below bc (fun _ => False)
  have Tc := hide (Tb.out.trans tc)
  have hq1 := (Ub.out.trans tc).cell Q1.out (fun x => x)
  have hq5 := (Ub.out.trans tc).cell Q5.out (fun x => x)
  have hcv : (convert 22 9 (.slice va 1 vc)).run Try.prog wc = .ok (.string ⟨#[120]⟩) wc := conv_any hby
  clear AL bc tc Tb Ub HWA hby
  generalize wa.alloc (.cells #[.slice (some ⟨g7, 0, none⟩) 1 1, .slice (some ⟨w9.heap.size, 0, none⟩) 1 1] 27) = wb at *
  go_wp2_with fail
  go_ret
  exact ⟨rfl, Tc.out.below (Nat.le_refl _) (fun _ x => x.elim)⟩
end Go.Proofs.Ytjnpendihdlgnaa

/-
  What is seen, as plain mathematics; bytes.Equal; seen.
-/
namespace Go.Proofs.Ytjnpendihdlgnaa
open Go.RowKit Go.Shelf
set_option maxRecDepth 100000
set_option maxHeartbeats 4000000
abbrev Ky := List (BitVec 8)
/-- Is an entry passed by? -/
def skipIt (seq : Nat) (k : Option Ky) (x : Ent) : Bool := decide (seq < x.seq) || (match k with | some k => decide (x.key = k) | none => false)
def seenO (seq : Nat) : Option Ky → List Ent → List Ent
  | _, [] => []
  | k, x :: r => if skipIt seq k x = true then seenO seq k r else if x.kind = 1 then x :: seenO seq (some x.key) r else seenO seq (some x.key) r
def seenK (seq : Nat) : Option Ky → List Ent → Option Ky
  | k, [] => k
  | k, x :: r => if skipIt seq k x = true then seenK seq k r else seenK seq (some x.key) r
theorem seenO_append (seq : Nat) : ∀ (a b : List Ent) (k : Option Ky), seenO seq k (a ++ b) = seenO seq k a ++ seenO seq (seenK seq k a) b
  | [], b, k => rfl
  | x :: a, b, k => by
    have ih := fun k => seenO_append seq a b k
    simp only [List.cons_append, seenO, seenK, ih]
    repeat' split
    all_goals rfl
theorem seenK_append (seq : Nat) : ∀ (a b : List Ent) (k : Option Ky), seenK seq k (a ++ b) = seenK seq (seenK seq k a) b
  | [], b, k => rfl
  | x :: a, b, k => by
    have ih := fun k => seenK_append seq a b k
    simp only [List.cons_append, seenK, ih]
    split <;> rfl
theorem seenO_length (seq : Nat) : ∀ (a : List Ent) (k : Option Ky), (seenO seq k a).length ≤ a.length
  | [], k => Nat.le_refl _
  | x :: a, k => by
    have ih := fun k => seenO_length seq a k
    simp only [seenO]
    repeat' split
    · have := ih k; simp only [List.length_cons]; omega
    · have := ih (some x.key); simp only [List.length_cons]; omega
    · have := ih (some x.key); simp only [List.length_cons]; omega
theorem equal_any (a a' : Option Addr) (n n' c c' : Nat) (x y : List (BitVec 8)) (w : World) (h : Bytes w (.slice a n c) x) (h' : Bytes w (.slice a' n' c') y) :
    Calls Try.prog 56 #[.slice a n c, .slice a' n' c'] w fun e w' => e = .returned (.bool (decide (x = y))) ∧ w' = w := by
  have h1 := conv_any h
  have h2 := conv_any h'
  have hd : (u8s x == u8s y) = decide (x = y) := by
    by_cases e : x = y
    · simp [e]
    · have : ¬ u8s x = u8s y := fun e2 => e (u8s_inj e2)
      simp [e, this]
  rw [← hd]
  clear h h' hd
  go_enter Try.func56, Try.ntmps56
  go_wp2_with fail
  go_ret
  exact ⟨rfl, rfl⟩
theorem seen_any (seq : Nat) (a : Option Addr) (n c : Nat) (w : World) : Calls Try.prog 39 #[.int .u64 (seq : Nat), .slice a n c] w fun e w' => e = .returned (.func (.func 55) #[] #[.pointer (some ⟨w.heap.size + 1, 0, none⟩), .pointer (some ⟨w.heap.size, 0, none⟩)]) ∧ w' = (w.alloc (.cells #[.int .u64 (seq : Nat)] 23)).alloc (.cells #[.slice a n c] 28) := by
  go_enter Try.func39, Try.ntmps39
  go_wp2_with fail
  go_ret
  exact ⟨rfl, rfl⟩
/-- The types of the cells of what is seen. -/
def TS : TypeId → Prop := fun t => TM t ∨ t = 22 ∨ t = 4 ∨ t = 75
theorem far_TS : Far TS := by
  have h : ∀ t : TypeId, ¬ TM t → t ≠ 22 → t ≠ 4 → t ≠ 75 → ¬ TS t := fun t h1 h2 h3 h4 h => by
    rcases h with h | h | h | h
    · exact h1 h
    · exact h2 h
    · exact h3 h
    · exact h4 h
  exact ⟨h _ far_TM.h3 (by decide) (by decide) (by decide), h _ far_TM.h5 (by decide) (by decide) (by decide), h _ far_TM.h25 (by decide) (by decide) (by decide), h _ far_TM.h27 (by decide) (by decide) (by decide)⟩
theorem loose_TM {B B' : Nat} {A : World} {k : Nat} (hB : B' ≤ B) (h : Loose TM B A k) : Loose TS B' A k := by
  obtain ⟨h1, o, h2, h3⟩ := h
  refine ⟨Nat.le_trans hB h1, o, h2, ?_⟩
  rcases h3 with h3 | ⟨cs, t, fr, h4, h5⟩
  · exact .inl h3
  · exact .inr ⟨cs, t, fr, .inl h4, h5⟩
theorem kpM_of_kpT {B : Nat} {W W' : World} (h : KpT TS B W W') : KpM B W W' := h.mono fun _ _ hk => ⟨hk.1, fun ⟨cs, t, fr, h1, h2⟩ => hk.2 ⟨cs, t, fr, .inl h1, h2⟩⟩
theorem OwnX.lower {β : Type} {B B' : Nat} {J : β → World → Prop} (h : OwnX TS B' J) (hB : B' ≤ B) : OwnX TM B J := fun s A A' hj t => h s A A' hj (t.mono fun _ _ hk => loose_TM hB hk)
end Go.Proofs.Ytjnpendihdlgnaa

/-
  sort.Search of a function that only reads.
-/
namespace Go.Proofs.Ytjnpendihdlgnaa
open Go.RowKit
set_option maxRecDepth 100000
set_option maxHeartbeats 4000000
/-- Where a property begins to hold. -/
def Found (p : Nat → Bool) (n k : Nat) : Prop := k ≤ n ∧ (∀ i, i < k → p i = false) ∧ (∀ i, k ≤ i → i < n → p i = true)
theorem search_any (F : Nat) (c0 c1 : Value) (hent : ∀ h w, (callFunc F #[.int .i64 h, c0, c1]).run Try.prog w = .ok (.enter F #[.int .i64 h, c0, c1]) w) (p : Nat → Bool) (n : Nat) (hn : n ≤ 1000000) (w : World)
    (hf : ∀ h : Nat, h < n → ∀ u, Turns (fun _ => False) w u → Calls Try.prog F #[.int .i64 (h : Nat), c0, c1] u fun e u' => e = .returned (.bool (p h)) ∧ Below u.heap.size u u')
    (hm : ∀ i j, i ≤ j → j < n → p i = true → p j = true) :
    Calls Try.prog 63 #[.int .i64 (n : Nat), .func (.func F) #[] #[c0, c1]] w fun e w' => ∃ k : Nat, e = .returned (.int .i64 (k : Nat)) ∧ Found p n k ∧ Below w.heap.size w w' := by
  have HF := hide hf
  have HM := hide hm
  clear hf hm
  go_enter Try.func63, Try.ntmps63
  go_wp2_with fail
  go_loopw [5, 6] (fun iv jv wr => ∃ i j : Nat, iv = .int .i64 (i : Nat) ∧ jv = .int .i64 (j : Nat) ∧ i ≤ j ∧ j ≤ n ∧ (∀ k, k < i → p k = false) ∧ (∀ k, j ≤ k → k < n → p k = true) ∧ Below w.heap.size w wr) (fun iv jv _ => (intOf jv).toNat - (intOf iv).toNat)
  case atStart => exact ⟨0, n, rfl, rfl, Nat.zero_le _, Nat.le_refl _, fun k hk => by omega, fun k h1 h2 => by omega, Below.refl _ _⟩
  case round =>
    obtain ⟨i, j, rfl, rfl, hij, hjn, h1, h2, hbw⟩ := hrel
    have H1 := hide h1
    have H2 := hide h2
    have BW := hide hbw
    have hsz := hbw.size
    clear h1 h2 hbw
    by_cases hlt : i < j
    · have i1 : (i : Int) < (j : Int) := by omega
      have hmid : ((i : Int) + (j : Int)) / 2 = (((i + j) / 2 : Nat) : Int) := by omega
      have HMID := hide hmid
      clear hmid
      go_upto_region 4 with (fail)
      rw [HMID.out]
      have hm1 : i ≤ (i + j) / 2 := by omega
      have hm2 : (i + j) / 2 < j := by omega
      have CF := hide (HF.out ((i + j) / 2) (by omega) wr (Turns.of_below BW.out (fun _ => False)))
      clear HMID
      generalize (i + j) / 2 = m at *
      generalize hpm : p m = pm at CF
      have HPM := hide hpm
      clear hpm
      cases pm with
      | false =>
        go_wp2_with fail
        refine CF.out.mono ?_
        rintro e w2 ⟨rfl, b2⟩
        have B2 := hide (BW.out.trans (b2.mono hsz))
        clear b2 CF
        go_wp2_with fail
        go_roundw
        case rel => exact ⟨m + 1, j, by go_num, rfl, by omega, hjn, fun k hk => by
          cases hk2 : p k with
          | false => rfl
          | true => rw [HM.out k m (by omega) (by omega) hk2] at HPM; exact absurd HPM.out (by simp), H2.out, B2.out⟩
        case measure => simp [intOf]; omega
      | true =>
        go_wp2_with fail
        refine CF.out.mono ?_
        rintro e w2 ⟨rfl, b2⟩
        have B2 := hide (BW.out.trans (b2.mono hsz))
        clear b2 CF
        go_wp2_with fail
        go_roundw
        case rel => exact ⟨i, m, rfl, rfl, hm1, by omega, H1.out, fun k h1 h2 => HM.out m k h1 h2 HPM.out, B2.out⟩
        case measure => simp [intOf]; omega
    · have i1 : ¬ (i : Int) < (j : Int) := by omega
      obtain rfl : i = j := by omega
      go_wp2_with fail
      go_ret
      exact ⟨i, rfl, ⟨hjn, H1.out, H2.out⟩, BW.out⟩
end Go.Proofs.Ytjnpendihdlgnaa

/-
  The part of a row between two keys.
-/
namespace Go.Proofs.Ytjnpendihdlgnaa
open Go.RowKit
set_option maxRecDepth 100000
set_option maxHeartbeats 4000000
theorem below1_any (gx gs b o n c i : Nat) (ta sa : Option Addr) (tn tc sn sc : Nat) (tk key : Ky) (w : World) (hin : i < n) (e0 : w.cell? ⟨gx, 0, none⟩ = some (.slice (some ⟨b, o, none⟩) n c)) (e1 : w.cell? ⟨gs, 0, none⟩ = some (.slice sa sn sc)) (e2 : w.cell? ⟨b, o + i * 4, none⟩ = some (.slice ta tn tc)) (h1 : Bytes w (.slice ta tn tc) tk) (h2 : Bytes w (.slice sa sn sc) key) :
    Calls Try.prog 64 #[.int .i64 (i : Nat), .pointer (some ⟨gx, 0, none⟩), .pointer (some ⟨gs, 0, none⟩)] w fun e w' => e = .returned (.bool (decide (0 ≤ cmpB tk key))) ∧ Below w.heap.size w w' := by
  have SK := hide (fun (u : World) (t : Turns (fun _ => False) w u) => show u.cell? ⟨gx, 0, none⟩ = some (.slice (some ⟨b, o, none⟩) n c) ∧ u.cell? ⟨gs, 0, none⟩ = some (.slice sa sn sc) ∧ u.cell? ⟨b, o + i * 4, none⟩ = some (.slice ta tn tc) from ⟨t.cell e0 (fun x => x), t.cell e1 (fun x => x), t.cell e2 (fun x => x)⟩)
  have CP := hide (fun (u : World) (t : Turns (fun _ => False) w u) => compareB_any ta sa tn sn tc sc tk key u (h1.quiet t) (h2.quiet t))
  generalize hcv : cmpB tk key = cv at *
  have i0 : (0 : Int) ≤ (i : Int) := by omega
  have i1 : (i : Int) < (n : Int) := by omega
  clear e0 e1 e2 h1 h2 hcv
  go_enter Try.func64, Try.ntmps64
  go_upto_region 1 with (fail)
  have tV : Turns (fun _ => False) w w.drew := (Turns.refl _ _).drew
  refine wp_region_held_drew (S := fun u => u.cell? ⟨gx, 0, none⟩ = some (.slice (some ⟨b, o, none⟩) n c) ∧ u.cell? ⟨gs, 0, none⟩ = some (.slice sa sn sc) ∧ u.cell? ⟨b, o + i * 4, none⟩ = some (.slice ta tn tc)) (by kernel_rfl) (SK.out _ tV) (fun _ => ?_)
  change wpAnyH _ _ _ _ _ 9 (Array.replicate 9 false) _ _
  refine wpAnyH_take (i := 0) (oi := { dst := some 5, op := Op.load 27 (Operand.tmp 1), type := 27, pos := "merge.go:74", after := #[], guard := none }) (v := .slice (some ⟨b, o, none⟩) n c) rfl (by kernel_rfl) (by kernel_rfl) (by kernel_rfl) (fun _ _ _ h => h) (Or.inl ⟨by rfl, ?_⟩) (SK.out _ tV) ?_
  · rintro w ⟨d0, d1, d2⟩
    go_simp
  simp only [Act.put, List.setIfInBounds_toArray, List.set_cons_zero, List.set_cons_succ]
  refine wpAnyH_take (i := 1) (oi := { dst := some 6, op := Op.move (Operand.tmp 0), type := 3, pos := "merge.go:74", after := #[], guard := none }) (v := .int .i64 (i : Nat)) rfl (by kernel_rfl) (by kernel_rfl) (by kernel_rfl) (fun _ _ _ h => h) (Or.inl ⟨by rfl, ?_⟩) (SK.out _ tV) ?_
  · rintro w ⟨d0, d1, d2⟩
    go_simp
  simp only [Act.put, List.setIfInBounds_toArray, List.set_cons_zero, List.set_cons_succ]
  refine wpAnyH_take (i := 2) (oi := { dst := some 7, op := Op.indexAddr 27 (Operand.tmp 5) (Operand.tmp 6), type := 0, pos := "merge.go:74", after := #[{ on := 0, ground := Ground.data }, { on := 1, ground := Ground.data }], guard := none }) (v := .pointer (some ⟨b, o + i * 4, none⟩)) rfl (by kernel_rfl) (by kernel_rfl) (by kernel_rfl) (fun _ _ _ h => h) (Or.inl ⟨by rfl, ?_⟩) (SK.out _ tV) ?_
  · rintro w ⟨d0, d1, d2⟩
    go_simp
  simp only [Act.put, List.setIfInBounds_toArray, List.set_cons_zero, List.set_cons_succ]
  refine wpAnyH_take (i := 3) (oi := { dst := some 8, op := Op.fieldAddr 25 (Operand.tmp 7) 0, type := 0, pos := "merge.go:74", after := #[{ on := 2, ground := Ground.data }], guard := none }) (v := .pointer (some ⟨b, o + i * 4, none⟩)) rfl (by kernel_rfl) (by kernel_rfl) (by kernel_rfl) (fun _ _ _ h => h) (Or.inl ⟨by rfl, ?_⟩) (SK.out _ tV) ?_
  · rintro w ⟨d0, d1, d2⟩
    go_simp
  simp only [Act.put, List.setIfInBounds_toArray, List.set_cons_zero, List.set_cons_succ]
  refine wpAnyH_take (i := 4) (oi := { dst := some 9, op := Op.load 22 (Operand.tmp 8), type := 22, pos := "merge.go:74", after := #[{ on := 3, ground := Ground.data }], guard := none }) (v := .slice ta tn tc) rfl (by kernel_rfl) (by kernel_rfl) (by kernel_rfl) (fun _ _ _ h => h) (Or.inl ⟨by rfl, ?_⟩) (SK.out _ tV) ?_
  · rintro w ⟨d0, d1, d2⟩
    go_simp
  simp only [Act.put, List.setIfInBounds_toArray, List.set_cons_zero, List.set_cons_succ]
  refine wpAnyH_take (i := 5) (oi := { dst := some 10, op := Op.load 22 (Operand.tmp 2), type := 22, pos := "merge.go:74", after := #[], guard := none }) (v := .slice sa sn sc) rfl (by kernel_rfl) (by kernel_rfl) (by kernel_rfl) (fun _ _ _ h => h) (Or.inl ⟨by rfl, ?_⟩) (SK.out _ tV) ?_
  · rintro w ⟨d0, d1, d2⟩
    go_simp
  simp only [Act.put, List.setIfInBounds_toArray, List.set_cons_zero, List.set_cons_succ]
  refine wpAnyH_ready (rs := [6]) (by kernel_rfl) (by simp) ?_
  refine AllReadyH.cons rfl (fun K hK => ?_) AllReadyH.nil
  go_simp
  refine (CP.out _ tV).mono ?_
  rintro oo Vn ⟨rfl, b2⟩
  have tN := show Turns (fun _ => False) w.drew Vn from b2 ▸ Turns.refl _ _
  have tV := tV.trans tN
  clear b2 CP
  clear tN
  go_simp
  refine hK.out _ _ (SK.out _ tV) (fun _ => ?_)
  clear hK K
  refine wpAnyH_take (i := 7) (oi := { dst := some 12, op := Op.binOp BinOp.geq 3 (Operand.tmp 11) (Operand.const (Value.int IntKind.i64 0)) 3, type := 4, pos := "merge.go:74", after := #[{ on := 6, ground := Ground.data }], guard := none }) (v := .bool (decide (0 ≤ cv))) rfl (by kernel_rfl) (by kernel_rfl) (by kernel_rfl) (fun _ _ _ h => h) (Or.inl ⟨by rfl, ?_⟩) (SK.out _ tV) ?_
  · rintro w ⟨d0, d1, d2⟩
    go_simp
  simp only [Act.put, List.setIfInBounds_toArray, List.set_cons_zero, List.set_cons_succ]
  refine wpAnyH_take (i := 8) (oi := { dst := some 4, op := Op.assign (Operand.tmp 12), type := 4, pos := "merge.go:74", after := #[{ on := 7, ground := Ground.data }, { on := 6, ground := Ground.chain }, { on := 0, ground := Ground.phase }, { on := 1, ground := Ground.phase }, { on := 2, ground := Ground.phase }, { on := 3, ground := Ground.phase }, { on := 4, ground := Ground.phase }, { on := 5, ground := Ground.phase }, { on := 6, ground := Ground.phase }, { on := 7, ground := Ground.phase }], guard := none }) (v := .bool (decide (0 ≤ cv))) rfl (by kernel_rfl) (by kernel_rfl) (by kernel_rfl) (fun _ _ _ h => h) (Or.inl ⟨by rfl, ?_⟩) (SK.out _ tV) ?_
  · rintro w ⟨d0, d1, d2⟩
    go_simp
  simp only [Act.put, List.setIfInBounds_toArray, List.set_cons_zero, List.set_cons_succ]
  refine wpAnyH_done (by kernel_rfl) ?_ _
  have TV := hide tV
  clear tV
  go_wp2_with fail
  go_ret
  exact ⟨rfl, TV.out.below (Nat.le_refl _) (fun _ x => x.elim)⟩
/-- Is an entry's key at or above? -/
def atOr (key : Ky) (x : Tow) : Bool := decide (0 ≤ cmpB x.e.key key)
def atN (R : List Tow) (key : Ky) (i : Nat) : Bool := match R[i]? with | some x => atOr key x | none => true
theorem cmpB_le_trans {x y z : Ky} (h1 : cmpB x y ≤ 0) (h2 : cmpB y z ≤ 0) : cmpB x z ≤ 0 := by
  rcases cmpB_vals x y with a | a | a
  · rcases cmpB_vals y z with b | b | b
    · have := cmpB_lt a b; omega
    · rw [(cmpB_zero y z).1 b] at a; omega
    · omega
  · rw [(cmpB_zero x y).1 a]; exact h2
  · omega
theorem cmpB_of_E {x y : Ent} (h : cmpE x.en y.en < 0) : cmpB x.key y.key ≤ 0 := by
  unfold cmpE Ent.en at h
  rcases cmpB_vals x.key y.key with a | a | a
  · omega
  · omega
  · simp only at h
    rw [if_pos (by omega)] at h
    omega
theorem keys_rise {R : List Tow} (h : R.Pairwise ltT) {i j : Nat} {x y : Tow} (hij : i ≤ j) (hi : R[i]? = some x) (hj : R[j]? = some y) : cmpB x.e.key y.e.key ≤ 0 := by
  rcases Nat.lt_or_ge i j with hl | hl
  · obtain ⟨h1, rfl⟩ := List.getElem?_eq_some_iff.1 hi
    obtain ⟨h2, rfl⟩ := List.getElem?_eq_some_iff.1 hj
    exact cmpB_of_E (List.pairwise_iff_getElem.1 h i j h1 h2 hl)
  · obtain rfl : i = j := by omega
    rw [hi] at hj
    cases hj
    have := (cmpB_zero x.e.key x.e.key).2 rfl
    omega
theorem atN_mono {R : List Tow} (h : R.Pairwise ltT) (key : Ky) : ∀ i j, i ≤ j → j < R.length → atN R key i = true → atN R key j = true := fun i j hij hj hi => by
  unfold atN at hi ⊢
  rw [List.getElem?_eq_getElem (by omega : i < R.length)] at hi
  rw [List.getElem?_eq_getElem hj]
  simp only [atOr, decide_eq_true_eq] at hi ⊢
  have h1 := keys_rise h hij (List.getElem?_eq_getElem (by omega : i < R.length)) (List.getElem?_eq_getElem hj)
  have h2 := cmpB_swap R[j].e.key key
  have h3 := cmpB_swap R[i].e.key key
  have := cmpB_le_trans (x := key) (by omega) h1
  omega
theorem enters64 (c0 c1 : Value) : ∀ h w, (callFunc 64 #[.int .i64 h, c0, c1]).run Try.prog w = .ok (.enter 64 #[.int .i64 h, c0, c1]) w := fun h w => enters_of Try.func64 (by kernel_rfl) rfl _ w
theorem below_any (a : Option Addr) (n c : Nat) (R : List Tow) (ka : Option Addr) (kn kc : Nat) (key : Ky) (w : World) (h : Ents w a R) (hn : n = R.length) (hmx : n ≤ 1000000) (hk : Bytes w (.slice ka kn kc) key) (hup : R.Pairwise ltT) :
    Calls Try.prog 54 #[.slice a n c, .slice ka kn kc] w fun e w' => ∃ k : Nat, e = .returned (.int .i64 (k : Nat)) ∧ Found (atN R key) n k ∧ Below w.heap.size w w' := by
  have T0 := hide (((Turns.refl (fun _ => False) w).alloc (.cells #[.slice a n c] 27)).alloc (.cells #[.slice ka kn kc] 22))
  have n0 := ((Turns.refl (fun _ => False) (w.alloc (.cells #[.slice a n c] 27))).alloc (.cells #[.slice ka kn kc] 22)).heap (heap_alloc_new w (.cells #[.slice a n c] 27)) (fun x => x)
  have n1 := heap_alloc_new (w.alloc (.cells #[.slice a n c] 27)) (.cells #[.slice ka kn kc] 22)
  rw [World.size_alloc] at n1
  have c0 := cell_of_row _ _ 0 _ 27 (0, 0) n0
  have c1 := cell_of_row _ _ 0 _ 22 (0, 0) n1
  have SE := hide (search_any 64 (.pointer (some ⟨w.heap.size, 0, none⟩)) (.pointer (some ⟨w.heap.size + 1, 0, none⟩)) (enters64 _ _) (atN R key) n hmx ((w.alloc (.cells #[.slice a n c] 27)).alloc (.cells #[.slice ka kn kc] 22)) (fun i hi u t => by
    obtain ⟨x, hx⟩ : ∃ x, R[i]? = some x := ⟨_, List.getElem?_eq_getElem (by omega)⟩
    have tt := T0.out.trans t
    obtain ⟨⟨b, off, rfl, hc⟩, k1, _⟩ := h i x hx
    have := below1_any w.heap.size (w.heap.size + 1) b off n c i x.ka ka x.e.key.length x.kc kn kc x.e.key key u hi (t.cell c0 (fun x => x)) (t.cell c1 (fun x => x)) (tt.cell (hc 0 _ rfl) (fun x => x)) (k1.quiet tt) (hk.quiet tt)
    have e : atN R key i = decide (0 ≤ cmpB x.e.key key) := by unfold atN; rw [hx]; rfl
    rw [e]
    exact this) (fun i j hij hj hi => atN_mono hup key i j hij (by omega) hi))
  have hlen : (n : Int) ≤ 1000000 := by omega
  clear n0 n1 h hk hup hn c1
  have c0' : ((w.alloc (.cells #[.slice a n c] 27)).alloc (.cells #[.slice ka kn kc] 22)).cell? ⟨w.heap.size, 0, none⟩ = some (.slice a n c) := c0
  clear c0
  go_enter Try.func54, Try.ntmps54
  go_wp2_with fail
  refine SE.out.mono ?_
  rintro e w2 ⟨k, rfl, hF, b2⟩
  have FIN := hide (show Found (atN R key) n k ∧ Below w.heap.size w w2 from ⟨hF, then_below (T0.out.below (Nat.le_refl _) (fun _ x => x.elim)) b2 (Nat.le_refl _)⟩)
  clear hF b2
  go_wp2_with fail
  go_ret
  exact ⟨k, rfl, FIN.out⟩
end Go.Proofs.Ytjnpendihdlgnaa
