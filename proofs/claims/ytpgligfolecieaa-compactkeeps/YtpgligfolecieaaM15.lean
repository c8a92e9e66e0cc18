import Derived.Test.YtpgligfolecieaaM14
import Derived.Lib.SlBytesConst
import Derived.Lib.ConvBytes
import Derived.Deep.RegionHeld
import Derived.Deep.Light
/-
  What is merged is one; the law's put; rows of one entry and of two.
-/
namespace Go.Proofs.Ytpgligfolecieaa
open Go.RowKit
set_option maxRecDepth 100000
set_option maxHeartbeats 4000000
theorem eq_of_rise : ∀ {xs ys : List Tow}, xs.Pairwise ltT → ys.Pairwise ltT → (∀ x, x ∈ xs ↔ x ∈ ys) → xs = ys
  | [], [], _, _, _ => rfl
  | [], y :: ys, _, _, h => absurd ((h y).2 (by simp)) (by simp)
  | x :: xs, [], _, _, h => absurd ((h x).1 (by simp)) (by simp)
  | x :: xs, y :: ys, hx, hy, h => by
    have irr : ∀ z : Tow, ¬ ltT z z := fun z hz => by
      have := (cmpE_zero z.e.en z.e.en).2 ⟨rfl, rfl⟩
      unfold ltT at hz
      omega
    have asym : ∀ a b : Tow, ltT a b → ¬ ltT b a := fun a b h1 h2 => by
      have := cmpE_swap a.e.en b.e.en
      unfold ltT at h1 h2
      omega
    obtain ⟨hx1, hx2⟩ := List.pairwise_cons.1 hx
    obtain ⟨hy1, hy2⟩ := List.pairwise_cons.1 hy
    have e : x = y := by
      rcases List.mem_cons.1 ((h x).1 (by simp)) with e | e
      · exact e
      · rcases List.mem_cons.1 ((h y).2 (by simp)) with e2 | e2
        · exact e2.symm
        · exact absurd (hy1 x e) (asym _ _ (hx1 y e2))
    subst e
    refine congrArg (x :: ·) (eq_of_rise hx2 hy2 fun z => ⟨fun hz => ?_, fun hz => ?_⟩)
    · rcases List.mem_cons.1 ((h z).1 (List.mem_cons_of_mem _ hz)) with e | e
      · subst e; exact absurd (hx1 z hz) (irr z)
      · exact e
    · rcases List.mem_cons.1 ((h z).2 (List.mem_cons_of_mem _ hz)) with e | e
      · subst e; exact absurd (hy1 z hz) (irr z)
      · exact e
theorem same_of_rise {R : List Tow} (h : R.Pairwise ltT) {x y : Tow} (hx : x ∈ R) (hy : y ∈ R) (e : cmpE x.e.en y.e.en = 0) : x = y := by
  induction R with
  | nil => cases hx
  | cons z r ih =>
    obtain ⟨h1, h2⟩ := List.pairwise_cons.1 h
    rcases List.mem_cons.1 hx with rfl | hx'
    · rcases List.mem_cons.1 hy with rfl | hy'
      · rfl
      · have := h1 y hy'; unfold ltT at this; omega
    · rcases List.mem_cons.1 hy with rfl | hy'
      · have := h1 x hx'; unfold ltT at this; have := cmpE_swap x.e.en y.e.en; omega
      · exact ih h2 hx' hy'
/-- What is merged is one. -/
theorem Mg.uniq {L : List Hd} (hu : Up L) (hno : ∀ h h', h ∈ L → h' ∈ L → h.no = h'.no → h = h') {xs ys : List Tow} (hx : Mg L xs) (hy : Mg L ys) : xs = ys := by
  have key : ∀ {xs ys : List Tow}, Mg L xs → Mg L ys → ∀ x, x ∈ xs → x ∈ ys := fun {xs ys} hx hy x hm => by
    obtain ⟨h, h1, h2, h3⟩ := hx.of x hm
    obtain ⟨y, y1, y2⟩ := hy.all h h1 x h2
    obtain ⟨h', h4, h5, h6⟩ := hy.of y y1
    have s := cmpE_swap x.e.en y.e.en
    have e : h = h' := by
      refine hno h h' h1 h4 ?_
      rcases Nat.lt_trichotomy h.no h'.no with c | c | c
      · exact absurd (by omega) (h6 h h1 c x h2)
      · exact c
      · exact absurd y2 (h3 h' h4 c y h5)
    subst e
    rw [← same_of_rise (hu h h1) h5 h2 y2]
    exact y1
  exact eq_of_rise hx.rise hy.rise fun x => ⟨key hx hy x, key hy hx x⟩
theorem hds_no {rs : List Rw} : ∀ h h', h ∈ hds rs → h' ∈ hds rs → h.no = h'.no → h = h' := fun h h' hh hh' e => by
  obtain ⟨i, x, h1, h2⟩ := mem_hds.1 hh
  obtain ⟨i', x', h1', h2'⟩ := mem_hds.1 hh'
  have no : ∀ {x : Rw} {i : Nat} {h : Hd}, hdOf x i = some h → h.no = i := fun {x i h} e => by
    unfold hdOf at e
    split at e
    · cases e; rfl
    · cases e
  have e1 : i = i' := by rw [← no h2, ← no h2', e]
  subst e1
  rw [h1] at h1'
  cases h1'
  rw [h2] at h2'
  cases h2'
  rfl
theorem hds_up {w : World} {a : Option Addr} {rs : List Rw} (hr : RowsIn w a rs) (hn : rs.length ≤ 1000000) (ho : eachOrd rs = true) : Up (hds rs) := fun h hh => by
  obtain ⟨_, i, x, h1, h2, _⟩ := hds_mem hr hn hh
  rw [h2]
  exact ord_up ho i x h1
/-- A text's bytes. -/
def bsOf (s : ByteArray) : List (BitVec 8) := s.data.toList.map fun u => BitVec.ofNat 8 u.toNat
theorem conv_new (s : ByteArray) (w : World) : ∃ c w', (convert 9 26 (.string s)).run Try.prog w = .ok (.slice (some ⟨w.heap.size, 0, none⟩) s.size c) w' ∧ Bytes w' (.slice (some ⟨w.heap.size, 0, none⟩) s.size c) (bsOf s) ∧ s.size ≤ c ∧ Below w.heap.size w w' := by
  refine ⟨_, _, Lib.run_convert_string_bytes w 9 26 5 s Try.underlying9 Try.underlying26 Try.underlying5, ⟨_, _, by simp [bsOf]; rfl, fun k hk => ⟨w.heap.size, 0, rfl, ?_⟩⟩, grownCap_ge _ _ _ _, ⟨rfl, rfl, rfl, by rw [Lib.bytesWorld_size]; omega, fun k hk => Lib.bytesWorld_at_old w 5 s k hk⟩⟩
  have hk' : k < s.data.toList.length := by simpa [bsOf] using hk
  rw [Nat.zero_add, Lib.bytesWorld_cell w 5 s k (by simpa using hk')]
  have h1 : s.data.toList.getD k 0 = s.data.toList[k] := by simp [List.getD, List.getElem?_eq_getElem hk']
  have h2 : (bsOf s).getD k 0 = BitVec.ofNat 8 (s.data.toList[k]).toNat := by
    simp only [bsOf, List.getD, List.getElem?_map, List.getElem?_eq_getElem hk', Option.map_some, Option.getD_some]
  rw [h1, h2]
  have := (s.data.toList[k]).toNat_lt
  congr 2
  simp only [BitVec.toNat_ofNat]
  omega
theorem ents_two {w : World} {g : Nat} {x y : Tow} (h : w.heap[g]? = some (.cells #[x.kv, .int .u64 (x.e.seq : Nat), .int .i64 x.e.kind, x.vv, y.kv, .int .u64 (y.e.seq : Nat), .int .i64 y.e.kind, y.vv] 29 (0, 0))) (h1 : Bytes w x.kv x.e.key) (h2 : Bytes w x.vv x.e.val) (h3 : Bytes w y.kv y.e.key) (h4 : Bytes w y.vv y.e.val) : Ents w (some ⟨g, 0, none⟩) [x, y] := by
  intro k z hz
  have hc : ∀ j, w.cell? ⟨g, j, none⟩ = (#[x.kv, .int .u64 (x.e.seq : Nat), .int .i64 x.e.kind, x.vv, y.kv, .int .u64 (y.e.seq : Nat), .int .i64 y.e.kind, y.vv] : Array Value)[j]? := fun j => cell_of_row w g j _ 29 (0, 0) h
  match k, hz with
  | 0, hz =>
    obtain rfl : x = z := by simpa using hz
    refine ⟨⟨g, 0, rfl, fun j u hu => ?_⟩, h1, h2⟩
    match j, hu with
    | 0, hu => rw [hc]; simpa using hu
    | 1, hu => rw [hc]; simpa using hu
    | 2, hu => rw [hc]; simpa using hu
    | 3, hu => rw [hc]; simpa using hu
    | j + 4, hu => simp at hu
  | 1, hz =>
    obtain rfl : y = z := by simpa using hz
    refine ⟨⟨g, 0, rfl, fun j u hu => ?_⟩, h3, h4⟩
    match j, hu with
    | 0, hu => rw [hc]; simpa using hu
    | 1, hu => rw [hc]; simpa using hu
    | 2, hu => rw [hc]; simpa using hu
    | 3, hu => rw [hc]; simpa using hu
    | j + 4, hu => simp at hu
  | k + 2, hz => simp at hz
theorem ents_one {w : World} {g : Nat} {x : Tow} (h : w.heap[g]? = some (.cells #[x.kv, .int .u64 (x.e.seq : Nat), .int .i64 x.e.kind, x.vv] 29 (0, 0))) (h1 : Bytes w x.kv x.e.key) (h2 : Bytes w x.vv x.e.val) : Ents w (some ⟨g, 0, none⟩) [x] := by
  intro k z hz
  have hc : ∀ j, w.cell? ⟨g, j, none⟩ = (#[x.kv, .int .u64 (x.e.seq : Nat), .int .i64 x.e.kind, x.vv] : Array Value)[j]? := fun j => cell_of_row w g j _ 29 (0, 0) h
  match k, hz with
  | 0, hz =>
    obtain rfl : x = z := by simpa using hz
    refine ⟨⟨g, 0, rfl, fun j u hu => ?_⟩, h1, h2⟩
    match j, hu with
    | 0, hu => rw [hc]; simpa using hu
    | 1, hu => rw [hc]; simpa using hu
    | 2, hu => rw [hc]; simpa using hu
    | 3, hu => rw [hc]; simpa using hu
    | j + 4, hu => simp at hu
  | k + 1, hz => simp at hz
theorem rows_one {w : World} {g : Nat} {x : Rw} (h : w.heap[g]? = some (.cells #[x.v] 31 (0, 0))) (h1 : RwOk w x) : RowsIn w (some ⟨g, 0, none⟩) [x] := by
  intro k z hz
  match k, hz with
  | 0, hz =>
    obtain rfl : x = z := by simpa using hz
    exact ⟨⟨g, 0, rfl, cell_of_row w g 0 _ 31 (0, 0) h⟩, h1⟩
  | k + 1, hz => simp at hz
theorem rows_two {w : World} {g : Nat} {x y : Rw} (h : w.heap[g]? = some (.cells #[x.v, y.v] 31 (0, 0))) (h1 : RwOk w x) (h2 : RwOk w y) : RowsIn w (some ⟨g, 0, none⟩) [x, y] := by
  intro k z hz
  match k, hz with
  | 0, hz =>
    obtain rfl : x = z := by simpa using hz
    exact ⟨⟨g, 0, rfl, cell_of_row w g 0 _ 31 (0, 0) h⟩, h1⟩
  | 1, hz =>
    obtain rfl : y = z := by simpa using hz
    exact ⟨⟨g, 0, rfl, cell_of_row w g 1 _ 31 (0, 0) h⟩, h2⟩
  | k + 2, hz => simp at hz
end Go.Proofs.Ytpgligfolecieaa

/-
  The chapter's first examples: lives.
-/
namespace Go.Proofs.Ytpgligfolecieaa
open Go.RowKit
set_option maxRecDepth 100000
set_option maxHeartbeats 8000000
def eA1x : Ent := ⟨[97#8], 1, 1, [120#8]⟩
def eA1y : Ent := ⟨[97#8], 1, 1, [121#8]⟩
def eA2y : Ent := ⟨[97#8], 2, 1, [121#8]⟩
def eB1z : Ent := ⟨[98#8], 1, 1, [122#8]⟩
theorem mg_ex1 (a b : Addr) (c d : Nat) (t1 t2 t3 : Tow) (h1 : t1.e = eA1x) (h2 : t2.e = eA2y) (h3 : t3.e = eB1z) : Mg (hds [⟨some a, c, [t1]⟩, ⟨some b, d, [t2, t3]⟩]) [t2, t1, t3] := by
  have hh : hds [⟨some a, c, [t1]⟩, ⟨some b, d, [t2, t3]⟩] = [⟨a.block, a.off, c, [t1], 0⟩, ⟨b.block, b.off, d, [t2, t3], 1⟩] := rfl
  rw [hh]
  have d21 : cmpE eA2y.en eA1x.en < 0 := by decide
  have d23 : cmpE eA2y.en eB1z.en < 0 := by decide
  have d13 : cmpE eA1x.en eB1z.en < 0 := by decide
  have z1 : cmpE eA1x.en eA1x.en = 0 := by decide
  have z2 : cmpE eA2y.en eA2y.en = 0 := by decide
  have z3 : cmpE eB1z.en eB1z.en = 0 := by decide
  have n12 : cmpE eA1x.en eA2y.en ≠ 0 := by decide
  have n13 : cmpE eA1x.en eB1z.en ≠ 0 := by decide
  refine ⟨?_, fun x hx => ?_, fun h hh y hy => ?_⟩
  · simp only [List.pairwise_cons, List.mem_cons, List.not_mem_nil, or_false, forall_eq_or_imp, forall_eq, ltT, h1, h2, h3, d21, d23, d13, List.Pairwise.nil, and_true, false_implies, implies_true]
  · simp only [List.mem_cons, List.not_mem_nil, or_false] at hx
    rcases hx with rfl | rfl | rfl
    · refine ⟨_, List.mem_cons_of_mem _ (List.mem_cons_self ..), by simp, fun h' hh' hno y hy => ?_⟩
      simp only [List.mem_cons, List.not_mem_nil, or_false] at hh'
      rcases hh' with rfl | rfl
      · obtain rfl : y = t1 := by simpa using hy
        rw [h1, h2]; exact n12
      · exact absurd hno (by simp)
    · refine ⟨_, List.mem_cons_self .., by simp, fun h' hh' hno y hy => ?_⟩
      exact absurd hno (by simp)
    · refine ⟨_, List.mem_cons_of_mem _ (List.mem_cons_self ..), by simp, fun h' hh' hno y hy => ?_⟩
      simp only [List.mem_cons, List.not_mem_nil, or_false] at hh'
      rcases hh' with rfl | rfl
      · obtain rfl : y = t1 := by simpa using hy
        rw [h1, h3]; exact n13
      · exact absurd hno (by simp)
  · simp only [List.mem_cons, List.not_mem_nil, or_false] at hh
    rcases hh with rfl | rfl
    · obtain rfl : y = t1 := by simpa using hy
      exact ⟨y, by simp, by rw [h1]; exact z1⟩
    · have : y = t2 ∨ y = t3 := by simpa using hy
      rcases this with rfl | rfl
      · exact ⟨y, by simp, by rw [h2]; exact z2⟩
      · exact ⟨y, by simp, by rw [h3]; exact z3⟩
theorem mg_ex2 (a b : Addr) (c d : Nat) (t1 t2 : Tow) (h1 : t1.e = eA1x) (h2 : t2.e = eA1y) : Mg (hds [⟨some a, c, [t1]⟩, ⟨some b, d, [t2]⟩]) [t1] := by
  have hh : hds [⟨some a, c, [t1]⟩, ⟨some b, d, [t2]⟩] = [⟨a.block, a.off, c, [t1], 0⟩, ⟨b.block, b.off, d, [t2], 1⟩] := rfl
  rw [hh]
  have z1 : cmpE eA1x.en eA1x.en = 0 := by decide
  have z2 : cmpE eA1x.en eA1y.en = 0 := by decide
  refine ⟨by simp, fun x hx => ?_, fun h hh y hy => ?_⟩
  · obtain rfl : x = t1 := by simpa using hx
    exact ⟨_, List.mem_cons_self .., by simp, fun h' hh' hno y hy => absurd hno (by simp)⟩
  · simp only [List.mem_cons, List.not_mem_nil, or_false] at hh
    rcases hh with rfl | rfl
    · obtain rfl : y = t1 := by simpa using hy
      exact ⟨y, by simp, by rw [h1]; exact z1⟩
    · obtain rfl : y = t2 := by simpa using hy
      exact ⟨t1, by simp, by rw [h1, h2]; exact z2⟩
/-- What All answers where it is known. -/
theorem all_known (a : Option Addr) (n c : Nat) (rs : List Rw) (w : World) (h : RowsIn w a rs) (hn : n = rs.length) (hf : Fine rs) (ho : eachOrd rs = true) (ys : List Tow) (hy : Mg (hds rs) ys) :
    Calls Try.prog 36 #[.slice a n c] w fun e w' => ∃ v R, e = .returned (.tuple #[v, .int .i64 0]) ∧ ERow w' w.heap.size v R ∧ Shown w' w.heap.size R ∧ R.map (·.e) = ys.map (·.e) ∧ Below w.heap.size w w' := by
  refine (all_any a n c rs w h hn hf).mono ?_
  rintro e w' ⟨v, R, rfl, hE, hS, hb, hA, _⟩
  refine ⟨v, R, by rw [ho]; rfl, hE, hS, ?_, hb⟩
  rcases hA with ⟨_, xs, hx, he⟩ | ⟨e, _⟩
  · rw [he, Mg.uniq (hds_up h hf.rows ho) hds_no hx hy]
  · rw [ho] at e; cases e
theorem ERow.at {w : World} {B : Nat} {v : Value} {R : List Tow} (h : ERow w B v R) (hne : R ≠ []) : ∃ g c : Nat, v = .slice (some ⟨g, 0, none⟩) R.length c ∧ ∀ k x, R[k]? = some x → w.cell? ⟨g, k * 4, none⟩ = some x.kv ∧ w.cell? ⟨g, k * 4 + 1, none⟩ = some (.int .u64 (x.e.seq : Nat)) ∧ w.cell? ⟨g, k * 4 + 2, none⟩ = some (.int .i64 x.e.kind) ∧ w.cell? ⟨g, k * 4 + 3, none⟩ = some x.vv := by
  rcases h with ⟨rfl, _⟩ | ⟨g, c, n, rfl, rfl, _, _, cs, h1, _, h3⟩
  · exact absurd rfl hne
  · refine ⟨g, c, rfl, fun k x hx => ?_⟩
    have hk := (List.getElem?_eq_some_iff.1 hx).1
    have hl := entCells_length R
    obtain ⟨a0, a1, a2, a3⟩ := entCells_at R k x hx
    refine ⟨?_, ?_, ?_, ?_⟩
    · rw [cell_of_row w g _ cs 29 (0, 0) h1, h3 _ (by omega), a0]
    · rw [cell_of_row w g _ cs 29 (0, 0) h1, h3 _ (by omega), a1]
    · rw [cell_of_row w g _ cs 29 (0, 0) h1, h3 _ (by omega), a2]
    · rw [cell_of_row w g _ cs 29 (0, 0) h1, h3 _ (by omega), a3]
theorem all_ex1 (g g1 g2 : Nat) (t1 t2 t3 : Tow) (w : World) (h1 : t1.e = eA1x) (h2 : t2.e = eA2y) (h3 : t3.e = eB1z) (hr : RowsIn w (some ⟨g, 0, none⟩) [⟨some ⟨g1, 0, none⟩, 1, [t1]⟩, ⟨some ⟨g2, 0, none⟩, 2, [t2, t3]⟩]) :
    Calls Try.prog 36 #[.slice (some ⟨g, 0, none⟩) 2 2] w fun e w' => ∃ q c, e = .returned (.tuple #[.slice (some ⟨q, 0, none⟩) 3 c, .int .i64 0]) ∧ w'.cell? ⟨q, 1, none⟩ = some (.int .u64 2) ∧ w'.cell? ⟨q, 5, none⟩ = some (.int .u64 1) ∧ Below w.heap.size w w' := by
  refine (all_known (some ⟨g, 0, none⟩) 2 2 _ w hr rfl ⟨by simp, by show 3 ≤ 1000000; omega, fun x hx => ?_⟩ ?_ [t2, t1, t3] (mg_ex1 _ _ _ _ t1 t2 t3 h1 h2 h3)).mono ?_
  · have : x = t1 ∨ x = t2 ∨ x = t3 := by simpa [allOf] using hx
    rcases this with rfl | rfl | rfl
    · rw [h1]; decide
    · rw [h2]; decide
    · rw [h3]; decide
  · show (inOrd [t1.e] && (inOrd [t2.e, t3.e] && true)) = true
    rw [h1, h2, h3]; decide
  · rintro e w' ⟨v, R, rfl, hE, hS, hm, hb⟩
    have hm' : R.map (·.e) = [eA2y, eA1x, eB1z] := by rw [hm]; simp [h1, h2, h3]
    obtain ⟨r1, R1, rfl, e1, hm1⟩ := List.map_eq_cons_iff.1 hm'
    obtain ⟨r2, R2, rfl, e2, hm2⟩ := List.map_eq_cons_iff.1 hm1
    obtain ⟨r3, R3, rfl, e3, hm3⟩ := List.map_eq_cons_iff.1 hm2
    obtain rfl : R3 = [] := by simpa using hm3
    obtain ⟨q, c, rfl, hc⟩ := hE.at (by simp)
    refine ⟨q, c, rfl, ?_, ?_, hb⟩
    · have := (hc 0 r1 rfl).2.1
      rw [e1] at this
      exact this
    · have := (hc 1 r2 rfl).2.1
      rw [e2] at this
      exact this
theorem all_ex2 (g g1 g2 : Nat) (t1 t2 : Tow) (w : World) (h1 : t1.e = eA1x) (h2 : t2.e = eA1y) (hr : RowsIn w (some ⟨g, 0, none⟩) [⟨some ⟨g1, 0, none⟩, 1, [t1]⟩, ⟨some ⟨g2, 0, none⟩, 1, [t2]⟩]) :
    Calls Try.prog 36 #[.slice (some ⟨g, 0, none⟩) 2 2] w fun e w' => ∃ q c va vc, e = .returned (.tuple #[.slice (some ⟨q, 0, none⟩) 1 c, .int .i64 0]) ∧ w'.cell? ⟨q, 3, none⟩ = some (.slice va 1 vc) ∧ Bytes w' (.slice va 1 vc) [120#8] ∧ Below w.heap.size w w' := by
  refine (all_known (some ⟨g, 0, none⟩) 2 2 _ w hr rfl ⟨by simp, by show 2 ≤ 1000000; omega, fun x hx => ?_⟩ ?_ [t1] (mg_ex2 _ _ _ _ t1 t2 h1 h2)).mono ?_
  · have : x = t1 ∨ x = t2 := by simpa [allOf] using hx
    rcases this with rfl | rfl
    · rw [h1]; decide
    · rw [h2]; decide
  · show (inOrd [t1.e] && (inOrd [t2.e] && true)) = true
    rw [h1, h2]; decide
  · rintro e w' ⟨v, R, rfl, hE, hS, hm, hb⟩
    have hm' : R.map (·.e) = [eA1x] := by rw [hm]; simp [h1]
    obtain ⟨r1, R1, rfl, e1, hm1⟩ := List.map_eq_cons_iff.1 hm'
    obtain rfl : R1 = [] := by simpa using hm1
    obtain ⟨q, c, rfl, hc⟩ := hE.at (by simp)
    have h4 := (hc 0 r1 rfl).2.2.2
    have h5 := (hS r1 (by simp)).2.1
    obtain ⟨ka, kc, va, vc, e⟩ := r1
    simp only at e1
    subst e1
    exact ⟨q, c, va, vc, rfl, h4, h5, hb⟩
end Go.Proofs.Ytpgligfolecieaa

/-
  lives.
-/
namespace Go.Proofs.Ytpgligfolecieaa
open Go.RowKit
set_option maxRecDepth 100000
set_option maxHeartbeats 8000000
end Go.Proofs.Ytpgligfolecieaa

/-
  What is seen, as plain mathematics; bytes.Equal; seen.
-/
namespace Go.Proofs.Ytpgligfolecieaa
open Go.RowKit Go.Shelf
set_option maxRecDepth 100000
set_option maxHeartbeats 4000000
abbrev Ky := List (BitVec 8)
/-- Is an entry passed by? -/
def skipIt (seq : Nat) (k : Option Ky) (x : Ent) : Bool := decide (seq < x.seq) || (match k with | some k => decide (x.key = k) | none => false)
def seenO (seq : Nat) : Option Ky → List Ent → List Ent
  | _, [] => []
  | k, x :: r => if skipIt seq k x = true then seenO seq k r else if x.kind = 1 then x :: seenO seq (some x.key) r else seenO seq (some x.key) r
def seenK (seq : Nat) : Option Ky → List Ent → Option Ky
  | k, [] => k
  | k, x :: r => if skipIt seq k x = true then seenK seq k r else seenK seq (some x.key) r
theorem seenO_append (seq : Nat) : ∀ (a b : List Ent) (k : Option Ky), seenO seq k (a ++ b) = seenO seq k a ++ seenO seq (seenK seq k a) b
  | [], b, k => rfl
  | x :: a, b, k => by
    have ih := fun k => seenO_append seq a b k
    simp only [List.cons_append, seenO, seenK, ih]
    repeat' split
    all_goals rfl
theorem seenK_append (seq : Nat) : ∀ (a b : List Ent) (k : Option Ky), seenK seq k (a ++ b) = seenK seq (seenK seq k a) b
  | [], b, k => rfl
  | x :: a, b, k => by
    have ih := fun k => seenK_append seq a b k
    simp only [List.cons_append, seenK, ih]
    split <;> rfl
theorem seenO_length (seq : Nat) : ∀ (a : List Ent) (k : Option Ky), (seenO seq k a).length ≤ a.length
  | [], k => Nat.le_refl _
  | x :: a, k => by
    have ih := fun k => seenO_length seq a k
    simp only [seenO]
    repeat' split
    · have := ih k; simp only [List.length_cons]; omega
    · have := ih (some x.key); simp only [List.length_cons]; omega
    · have := ih (some x.key); simp only [List.length_cons]; omega
theorem equal_any (a a' : Option Addr) (n n' c c' : Nat) (x y : List (BitVec 8)) (w : World) (h : Bytes w (.slice a n c) x) (h' : Bytes w (.slice a' n' c') y) :
    Calls Try.prog 67 #[.slice a n c, .slice a' n' c'] w fun e w' => e = .returned (.bool (decide (x = y))) ∧ w' = w := by
  have h1 := conv_any h
  have h2 := conv_any h'
  have hd : (u8s x == u8s y) = decide (x = y) := by
    by_cases e : x = y
    · simp [e]
    · have : ¬ u8s x = u8s y := fun e2 => e (u8s_inj e2)
      simp [e, this]
  rw [← hd]
  clear h h' hd
  go_enter Try.func67, Try.ntmps67
  go_wp2_with fail
  go_ret
  exact ⟨rfl, rfl⟩
/-- The types of the cells of what is seen. -/
def TS : TypeId → Prop := fun t => TM t ∨ t = 26 ∨ t = 4 ∨ t = 75
theorem far_TS : Far TS := by
  have h : ∀ t : TypeId, ¬ TM t → t ≠ 26 → t ≠ 4 → t ≠ 75 → ¬ TS t := fun t h1 h2 h3 h4 h => by
    rcases h with h | h | h | h
    · exact h1 h
    · exact h2 h
    · exact h3 h
    · exact h4 h
  exact ⟨h _ far_TM.h3 (by decide) (by decide) (by decide), h _ far_TM.h5 (by decide) (by decide) (by decide), h _ far_TM.h25 (by decide) (by decide) (by decide), h _ far_TM.h27 (by decide) (by decide) (by decide)⟩
theorem loose_TM {B B' : Nat} {A : World} {k : Nat} (hB : B' ≤ B) (h : Loose TM B A k) : Loose TS B' A k := by
  obtain ⟨h1, o, h2, h3⟩ := h
  refine ⟨Nat.le_trans hB h1, o, h2, ?_⟩
  rcases h3 with h3 | ⟨cs, t, fr, h4, h5⟩
  · exact .inl h3
  · exact .inr ⟨cs, t, fr, .inl h4, h5⟩
theorem kpM_of_kpT {B : Nat} {W W' : World} (h : KpT TS B W W') : KpM B W W' := h.mono fun _ _ hk => ⟨hk.1, fun ⟨cs, t, fr, h1, h2⟩ => hk.2 ⟨cs, t, fr, .inl h1, h2⟩⟩
theorem OwnX.lower {β : Type} {B B' : Nat} {J : β → World → Prop} (h : OwnX TS B' J) (hB : B' ≤ B) : OwnX TM B J := fun s A A' hj t => h s A A' hj (t.mono fun _ _ hk => loose_TM hB hk)
end Go.Proofs.Ytpgligfolecieaa

/-
  sort.Search of a function that only reads.
-/
namespace Go.Proofs.Ytpgligfolecieaa
open Go.RowKit
set_option maxRecDepth 100000
set_option maxHeartbeats 4000000
/-- Where a property begins to hold. -/
def Found (p : Nat → Bool) (n k : Nat) : Prop := k ≤ n ∧ (∀ i, i < k → p i = false) ∧ (∀ i, k ≤ i → i < n → p i = true)
end Go.Proofs.Ytpgligfolecieaa

/-
  The part of a row between two keys.
-/
namespace Go.Proofs.Ytpgligfolecieaa
open Go.RowKit
set_option maxRecDepth 100000
set_option maxHeartbeats 4000000
/-- Is an entry's key at or above? -/
def atOr (key : Ky) (x : Tow) : Bool := decide (0 ≤ cmpB x.e.key key)
def atN (R : List Tow) (key : Ky) (i : Nat) : Bool := match R[i]? with | some x => atOr key x | none => true
theorem cmpB_le_trans {x y z : Ky} (h1 : cmpB x y ≤ 0) (h2 : cmpB y z ≤ 0) : cmpB x z ≤ 0 := by
  rcases cmpB_vals x y with a | a | a
  · rcases cmpB_vals y z with b | b | b
    · have := cmpB_lt a b; omega
    · rw [(cmpB_zero y z).1 b] at a; omega
    · omega
  · rw [(cmpB_zero x y).1 a]; exact h2
  · omega
theorem cmpB_of_E {x y : Ent} (h : cmpE x.en y.en < 0) : cmpB x.key y.key ≤ 0 := by
  unfold cmpE Ent.en at h
  rcases cmpB_vals x.key y.key with a | a | a
  · omega
  · omega
  · simp only at h
    rw [if_pos (by omega)] at h
    omega
theorem keys_rise {R : List Tow} (h : R.Pairwise ltT) {i j : Nat} {x y : Tow} (hij : i ≤ j) (hi : R[i]? = some x) (hj : R[j]? = some y) : cmpB x.e.key y.e.key ≤ 0 := by
  rcases Nat.lt_or_ge i j with hl | hl
  · obtain ⟨h1, rfl⟩ := List.getElem?_eq_some_iff.1 hi
    obtain ⟨h2, rfl⟩ := List.getElem?_eq_some_iff.1 hj
    exact cmpB_of_E (List.pairwise_iff_getElem.1 h i j h1 h2 hl)
  · obtain rfl : i = j := by omega
    rw [hi] at hj
    cases hj
    have := (cmpB_zero x.e.key x.e.key).2 rfl
    omega
theorem atN_mono {R : List Tow} (h : R.Pairwise ltT) (key : Ky) : ∀ i j, i ≤ j → j < R.length → atN R key i = true → atN R key j = true := fun i j hij hj hi => by
  unfold atN at hi ⊢
  rw [List.getElem?_eq_getElem (by omega : i < R.length)] at hi
  rw [List.getElem?_eq_getElem hj]
  simp only [atOr, decide_eq_true_eq] at hi ⊢
  have h1 := keys_rise h hij (List.getElem?_eq_getElem (by omega : i < R.length)) (List.getElem?_eq_getElem hj)
  have h2 := cmpB_swap R[j].e.key key
  have h3 := cmpB_swap R[i].e.key key
  have := cmpB_le_trans (x := key) (by omega) h1
  omega
end Go.Proofs.Ytpgligfolecieaa

/-
  What 'seen' hands back: its contract.
-/
namespace Go.Proofs.Ytpgligfolecieaa
open Go.RowKit Go.Shelf
set_option maxRecDepth 100000
set_option maxHeartbeats 4000000
attribute [local go_sem] Oper.semAt_some
def entsOf {rs : List Rw} (l : List (El rs)) : List Ent := l.map (·.val.e)
theorem entsOf_vals {rs : List Rw} (l : List (El rs)) : entsOf l = (valsOf l).map (·.e) := by simp [entsOf, valsOf]
/-- What has been seen so far. -/
structure SeenI (seq : Nat) (rs : List Rw) (J : List (El rs) → World → Prop) (l By Bk Bd B0 : Nat) (W0 : World) (pre : List (El rs)) (W : World) : Prop where
  ex : ∃ (out : List (El rs)) (k : Option Ky) (kv : Value), J out W ∧ entsOf out = seenO seq none (entsOf pre) ∧ k = seenK seq none (entsOf pre) ∧ W.heap[Bk]? = some (.cells #[kv] 26 (0, 0)) ∧ W.heap[Bd]? = some (.cells #[.bool k.isSome] 4 (0, 0)) ∧ ((k = none ∧ kv = .slice none 0 0) ∨ ∃ x : El rs, k = some x.val.e.key ∧ kv = .slice x.val.ka x.val.e.key.length x.val.kc)
  yb : W.heap[By]? = some (.cells #[.func (.yield l) #[] #[]] 75 (0, 0))
  low : Turns (fun k => B0 ≤ k) W0 W
theorem SeenI.own {seq : Nat} {rs : List Rw} {J : List (El rs) → World → Prop} {l By Bk Bd B0 B BJ : Nat} {W0 : World} (hJ : OwnX TS BJ J) (hB : BJ ≤ B) (hB0 : B0 ≤ B) : OwnX TM B (SeenI seq rs J l By Bk Bd B0 W0) := fun s A A' h t => by
  have n22 : ¬ TM 26 := fun h => h.elim (by decide) (by decide)
  have n4 : ¬ TM 4 := fun h => h.elim (by decide) (by decide)
  have n75 : ¬ TM 75 := fun h => h.elim (by decide) (by decide)
  obtain ⟨⟨out, k, kv, h1, h2, h3, h4, h5, h6⟩, hy, hl⟩ := h
  exact ⟨⟨out, k, kv, hJ.lower hB _ A A' h1 t, h2, h3, loose_cells t h4 n22, loose_cells t h5 n4, h6⟩, loose_cells t hy n75, hl.trans (loose_low t hB0)⟩
theorem round_wide {P : Program} {m m' l : Nat} {f : FuncId} {tmps : Array Value} {assign body : Code} {w : World} {R : Ending → World → Prop} (l' : Nat) (h : RoundIn Fence.wide m P l f tmps assign body w R) : RoundIn (Fence.wide.inRound l') m' P l f tmps assign body w R :=
  ⟨trivial, fun c cs _ => h.2 c cs (room_wide _)⟩
end Go.Proofs.Ytpgligfolecieaa

/-
  The part of a row between two keys, as a row.
-/
namespace Go.Proofs.Ytpgligfolecieaa
open Go.RowKit
set_option maxRecDepth 100000
set_option maxHeartbeats 4000000
def rng (fk tk : Ky) (x : Tow) : Bool := atOr fk x && (tk.isEmpty || !atOr tk x)
theorem filter_interval {α : Type} : ∀ (R : List α) (f : α → Bool) (s e : Nat), s ≤ e → (∀ i x, R[i]? = some x → (f x = true ↔ s ≤ i ∧ i < e)) → R.filter f = (R.drop s).take (e - s)
  | [], f, s, e, _, _ => by simp
  | x :: r, f, s, e, hse, h => by
    have h0 := h 0 x rfl
    cases e with
    | zero =>
      obtain rfl : s = 0 := by omega
      have ih := filter_interval r f 0 0 (Nat.le_refl _) fun i y hy => by have := h (i + 1) y (by simpa using hy); rw [this]; omega
      have hf : ¬ f x = true := by rw [h0]; omega
      rw [List.filter_cons_of_neg hf, ih]
      simp
    | succ e =>
      cases s with
      | zero =>
        have ih := filter_interval r f 0 e (Nat.zero_le _) fun i y hy => by have := h (i + 1) y (by simpa using hy); rw [this]; omega
        have hf : f x = true := by rw [h0]; omega
        rw [List.filter_cons_of_pos hf, ih]
        simp
      | succ s =>
        have ih := filter_interval r f s e (by omega) fun i y hy => by have := h (i + 1) y (by simpa using hy); rw [this]; omega
        have hf : ¬ f x = true := by rw [h0]; omega
        rw [List.filter_cons_of_neg hf, ih, show e + 1 - (s + 1) = e - s by omega]
        simp
theorem found_at {R : List Tow} {key : Ky} {k i : Nat} {x : Tow} (h : Found (atN R key) R.length k) (hi : R[i]? = some x) : atOr key x = true ↔ k ≤ i := by
  have hl := (List.getElem?_eq_some_iff.1 hi).1
  have e : atN R key i = atOr key x := by unfold atN; rw [hi]
  rw [← e]
  constructor
  · intro h1
    rcases Nat.lt_or_ge i k with h2 | h2
    · rw [h.2.1 i h2] at h1; cases h1
    · exact h2
  · intro h1
    exact h.2.2 i h1 hl
theorem rng_part {R : List Tow} {fk tk : Ky} {k1 k2 : Nat} (h1 : Found (atN R fk) R.length k1) (h2 : Found (atN R tk) R.length k2) (hto : tk ≠ []) : R.filter (rng fk tk) = (R.drop k1).take (max k1 k2 - k1) := by
  refine filter_interval R _ k1 (max k1 k2) (by omega) fun i x hx => ?_
  have e : tk.isEmpty = false := by simpa using hto
  simp only [rng, e, Bool.false_or, Bool.and_eq_true, Bool.not_eq_true', found_at h1 hx]
  have := found_at h2 hx
  cases h3 : atOr tk x with
  | true => have := this.1 h3; simp; omega
  | false =>
    have : ¬ k2 ≤ i := fun h => by rw [this.2 h] at h3; cases h3
    simp
    omega
theorem rng_all {R : List Tow} {fk : Ky} {k1 : Nat} (h1 : Found (atN R fk) R.length k1) : R.filter (rng fk []) = (R.drop k1).take (R.length - k1) := by
  have hk := h1.1
  refine filter_interval R _ k1 R.length hk fun i x hx => ?_
  have hl := (List.getElem?_eq_some_iff.1 hx).1
  simp only [rng, List.isEmpty_nil, Bool.true_or, Bool.and_true, found_at h1 hx]
  omega
/-- A part of a row. -/
theorem RwOk.part {w : World} {b off c s m : Nat} {R : List Tow} (h : RwOk w ⟨some ⟨b, off, none⟩, c, R⟩) (hs : s + m ≤ R.length) (c' : Nat) (hc : m ≤ c') : RwOk w ⟨some ⟨b, off + s * 4, none⟩, c', (R.drop s).take m⟩ := by
  have hl : ((R.drop s).take m).length = m := by rw [List.length_take, List.length_drop]; omega
  refine ⟨fun k x hx => ?_, by simp only [hl]; exact hc, by have := h.size; simp only at this; simp only [hl]; omega⟩
  have hk := (List.getElem?_eq_some_iff.1 hx).1
  simp only [hl] at hk
  have hx' : R[s + k]? = some x := by
    simp only at hx
    rw [List.getElem?_take_of_lt hk, List.getElem?_drop] at hx
    exact hx
  obtain ⟨⟨b', off', e, hc'⟩, h1, h2⟩ := h.ents (s + k) x hx'
  simp only [Option.some.injEq, Addr.mk.injEq, and_true] at e
  obtain ⟨rfl, rfl⟩ := e
  refine ⟨⟨_, _, rfl, fun j u hu => ?_⟩, h1, h2⟩
  have := hc' j u hu
  rw [show off + (s + k) * 4 + j = off + s * 4 + k * 4 + j by omega] at this
  exact this
theorem RwOk.piece {w : World} {ad : Addr} {c s m : Nat} {R : List Tow} (h : RwOk w ⟨some ad, c, R⟩) (hs : s + m ≤ R.length) (c' : Nat) (hc : m ≤ c') : RwOk w ⟨some (ad.add (s * 4)), c', (R.drop s).take m⟩ := by
  cases m with
  | zero => exact ⟨fun k x hx => by simp at hx, by simp, by simp⟩
  | succ m =>
    obtain ⟨y, r, e⟩ := List.exists_cons_of_ne_nil (show R ≠ [] from fun e => by rw [e] at hs; simp at hs)
    obtain ⟨⟨b', o', e2, _⟩, _⟩ := h.ents 0 y (by simp only; rw [e]; rfl)
    simp only [Option.some.injEq] at e2
    subst e2
    rw [Go.WideShapes.add_plain]
    exact h.part hs c' hc
/-- What a slice of a row comes to. -/
theorem piece_end {w : World} {ad : Addr} {c s m n : Nat} {R : List Tow} (h : RwOk w ⟨some ad, c, R⟩) (hs : s + m ≤ n) (hn : n = R.length) (f : Tow → Bool) (hf : R.filter f = (R.drop s).take m) :
    (s < c → ∃ x' : Rw, Value.slice (some (ad.add (s * 4))) m (c - s) = .slice x'.a x'.R.length x'.c ∧ (∀ u, RwOk u ⟨some ad, c, R⟩ → RwOk u x') ∧ x'.R = R.filter f ∧ (x'.a = none → x'.c = 0)) ∧
    (c ≤ s → m = 0 ∧ ∃ x' : Rw, Value.slice (some ad) m 0 = .slice x'.a x'.R.length x'.c ∧ (∀ u, RwOk u ⟨some ad, c, R⟩ → RwOk u x') ∧ x'.R = R.filter f ∧ (x'.a = none → x'.c = 0)) := by
  have hc := h.cap
  simp only at hc
  have hl : ((R.drop s).take m).length = m := by rw [List.length_take, List.length_drop]; omega
  refine ⟨fun h1 => ⟨⟨_, c - s, (R.drop s).take m⟩, by simp only [hl], fun u hu => hu.piece (by omega) _ (by omega), hf.symm, fun e => by cases e⟩, fun h1 => ?_⟩
  obtain rfl : m = 0 := by omega
  exact ⟨rfl, ⟨some ad, 0, []⟩, rfl, fun u _ => ⟨fun k x hx => by simp at hx, by simp, by simp⟩, by rw [hf]; simp, fun e => by cases e⟩
end Go.Proofs.Ytpgligfolecieaa

/-
  Between and Seen.
-/
namespace Go.Proofs.Ytpgligfolecieaa
open Go.RowKit Go.Shelf
set_option maxRecDepth 100000
set_option maxHeartbeats 4000000
def sumR (rs : List Rw) : Nat := (rs.map fun x => x.R.length).sum
theorem tot_hds_from : ∀ (rs : List Rw) (k : Nat), tot ((rs.zipIdx k).filterMap fun p => hdOf p.1 p.2) ≤ sumR rs
  | [], k => by simp [tot]
  | x :: r, k => by
    have ih := tot_hds_from r (k + 1)
    have hx : ∀ h, hdOf x k = some h → h.R = x.R := fun h e => by
      unfold hdOf at e
      split at e
      · next e1 e2 => cases e; exact e2.symm
      · cases e
    simp only [List.zipIdx_cons, sumR, List.map_cons, List.sum_cons] at ih ⊢
    cases e : hdOf x k with
    | none => rw [List.filterMap_cons_none (by exact e)]; omega
    | some h =>
      rw [List.filterMap_cons_some (by exact e)]
      have h1 := hx h e
      simp only [tot, List.map_cons, List.sum_cons, h1] at ih ⊢
      omega
theorem tot_hds (rs : List Rw) : tot (hds rs) ≤ sumR rs := tot_hds_from rs 0
/-- Each row's part. -/
structure Parts (w : World) (f : Tow → Bool) (rs ps : List Rw) : Prop where
  len : ps.length ≤ rs.length
  part : ∀ (i : Nat) (x y : Rw), rs[i]? = some x → ps[i]? = some y → y.R = x.R.filter f ∧ RwOk w y
theorem Parts.sum {w : World} {f : Tow → Bool} : ∀ {rs ps : List Rw}, Parts w f rs ps → sumR ps ≤ sumR rs
  | _, [], _ => Nat.zero_le _
  | [], _ :: _, h => by have := h.len; simp at this
  | x :: rs, y :: ps, h => by
    have ih := Parts.sum (rs := rs) (ps := ps) ⟨by have := h.len; simpa using this, fun i a b h1 h2 => h.part (i + 1) a b (by simpa using h1) (by simpa using h2)⟩
    have := (h.part 0 x y rfl rfl).1
    have hl := List.length_filter_le f x.R
    simp only [sumR, List.map_cons, List.sum_cons, this] at ih ⊢
    omega
theorem hds_of {w : World} {rs : List Rw} {i : Nat} {x : Rw} (h : RwOk w x) (hi : rs[i]? = some x) (hne : x.R ≠ []) : ∃ h, h ∈ hds rs ∧ h.R = x.R ∧ h.no = i := by
  obtain ⟨b, off, _, e⟩ := hdOf_some (i := i) h hne
  exact ⟨_, mem_hds.2 ⟨i, x, hi, e⟩, rfl, rfl⟩
theorem hds_is {rs : List Rw} {h : Hd} (hh : h ∈ hds rs) : ∃ (i : Nat) (x : Rw), rs[i]? = some x ∧ h.R = x.R ∧ h.no = i := by
  obtain ⟨i, x, h1, h2⟩ := mem_hds.1 hh
  refine ⟨i, x, h1, ?_⟩
  unfold hdOf at h2
  split at h2
  · next e1 e2 => cases h2; exact ⟨e2.symm, rfl⟩
  · cases h2
theorem Mg.filter {w : World} {a : Option Addr} {rs ps : List Rw} (hr : RowsIn w a rs) (f : Tow → Bool) (hf : ∀ x y : Tow, x.e.key = y.e.key → f x = f y) (hl : ps.length = rs.length) (hp : Parts w f rs ps) {xs : List Tow} (hx : Mg (hds rs) xs) : Mg (hds ps) (xs.filter f) := by
  have same : ∀ x y : Tow, cmpE x.e.en y.e.en = 0 → f x = f y := fun x y e => hf x y ((cmpE_zero _ _).1 e).1
  have get : ∀ (i : Nat) (x : Rw), rs[i]? = some x → ∃ y, ps[i]? = some y := fun i x hi => ⟨_, List.getElem?_eq_getElem (by have := (List.getElem?_eq_some_iff.1 hi).1; omega)⟩
  have get' : ∀ (i : Nat) (y : Rw), ps[i]? = some y → ∃ x, rs[i]? = some x := fun i y hi => ⟨_, List.getElem?_eq_getElem (by have := (List.getElem?_eq_some_iff.1 hi).1; omega)⟩
  refine ⟨hx.rise.filter _, fun x hm => ?_, fun h hh y hy => ?_⟩
  · obtain ⟨h1, h2⟩ := List.mem_filter.1 hm
    obtain ⟨h, h3, h4, h5⟩ := hx.of x h1
    obtain ⟨i, r, hi, hR, hno⟩ := hds_is h3
    obtain ⟨p, hpi⟩ := get i r hi
    obtain ⟨hpR, hpo⟩ := hp.part i r p hi hpi
    have hxp : x ∈ p.R := by rw [hpR]; exact List.mem_filter.2 ⟨by rw [← hR]; exact h4, h2⟩
    obtain ⟨h', h6, h7, h8⟩ := hds_of hpo hpi (List.ne_nil_of_mem hxp)
    refine ⟨h', h6, by rw [h7]; exact hxp, fun h'' hh'' hn y hy => ?_⟩
    obtain ⟨j, q, hj, hqR, hqn⟩ := hds_is hh''
    obtain ⟨r2, hr2⟩ := get' j q hj
    rw [hqR, (hp.part j r2 q hr2 hj).1] at hy
    have hy2 := (List.mem_filter.1 hy).1
    obtain ⟨g, g1, g2, g3⟩ := hds_of (hr j r2 hr2).2 hr2 (List.ne_nil_of_mem hy2)
    exact h5 g g1 (by omega) y (by rw [g2]; exact hy2)
  · obtain ⟨i, p, hi, hR, hno⟩ := hds_is hh
    obtain ⟨r, hri⟩ := get' i p hi
    rw [hR, (hp.part i r p hri hi).1] at hy
    obtain ⟨hy1, hy2⟩ := List.mem_filter.1 hy
    obtain ⟨g, g1, g2, g3⟩ := hds_of (hr i r hri).2 hri (List.ne_nil_of_mem hy1)
    obtain ⟨x, hx1, hx2⟩ := hx.all g g1 y (by rw [g2]; exact hy1)
    exact ⟨x, List.mem_filter.2 ⟨hx1, by rw [same x y hx2]; exact hy2⟩, hx2⟩
theorem rng_key (fk tk : Ky) (x y : Tow) (h : x.e.key = y.e.key) : rng fk tk x = rng fk tk y := by unfold rng atOr; rw [h]
theorem t27_info : Try.prog.info? 31 = some Try.t31 := by kernel_rfl
theorem t27_zero : Try.t31.zero = some (.slice none 0 0) := by kernel_rfl
theorem t27_size : Try.t31.size = 1 := by kernel_rfl
theorem t27_bytes : Try.t31.bytes = 24 := by kernel_rfl
theorem make28 (n : Nat) (hn : n ≤ 1000000) (w : World) : ∃ cs : Array Value, (Instr.makeSlice 22 (.int .i64 (n : Int)) (.int .i64 (n : Int))).run Try.prog w = .ok (.slice (some ⟨w.heap.size, 0, none⟩) n n) (w.alloc (.cells cs 31)) ∧ cs.size = n := by
  refine ⟨_, run_makeSlice w 22 31 Try.t31 _ Try.underlying22 t27_info t27_zero .i64 .i64 n n (by omega) (by omega) (by rw [t27_size]; omega) (by rw [t27_bytes]; omega) (by omega), ?_⟩
  rw [size_madeCells, t27_size]
  omega
/-- Rows that may be looked at. -/
structure Good (rs : List Rw) : Prop where
  rows : rs.length ≤ 1000000
  all : sumR rs ≤ 1000000
  size : ∀ x, x ∈ allOf rs → x.e.key.length ≤ 1000000 ∧ x.e.val.length ≤ 1000000
  nil : ∀ x, x ∈ rs → x.a = none → x.c = 0
theorem Good.fine {rs : List Rw} (h : Good rs) : Fine rs := ⟨h.rows, Nat.le_trans (tot_hds rs) h.all, h.size⟩
/-- What Between answers. -/
def BetweenOk (rs : List Rw) (fk tk : Ky) (seq : Nat) (n : Int) (R : List Tow) : Prop := (eachOrd rs = true ∧ ∃ xs, Mg (hds rs) xs ∧ R.map (·.e) = (seenO seq none ((xs.filter (rng fk tk)).map (·.e))).take n.toNat) ∨ (eachOrd rs = false ∧ R = [])
theorem first_take {rs : List Rw} {seq : Nat} {n : Int} {N : Nat} {R zs : List Tow} (hu : Up (hds rs)) (hz : Mg (hds rs) zs) (h : FirstOk (fun x : El rs => x.val) (fun ys => ∃ xs, Mg (hds rs) xs ∧ entsOf ys = seenO seq none (xs.map (·.e))) (fun pre => ∃ xs, Mg (hds rs) xs ∧ entsOf pre <+: seenO seq none (xs.map (·.e))) N n R) : R.map (·.e) = (seenO seq none (zs.map (·.e))).take n.toNat := by
  rcases h with ⟨hn, rfl⟩ | ⟨hn, ys, ⟨xs, hx, he⟩, hR, hl⟩ | ⟨hn, ys, ⟨xs, hx, he⟩, hR, hl, _⟩
  · rw [show n.toNat = 0 by omega]; rfl
  · have e := Mg.uniq hu hds_no hx hz
    subst e
    rw [hR, ← he, List.take_of_length_le (by simp [entsOf]; omega)]
    rfl
  · have e := Mg.uniq hu hds_no hx hz
    subst e
    obtain ⟨t, ht⟩ := he
    rw [hR, ← ht, List.take_append_of_le_length (by simp [entsOf]; omega), List.take_of_length_le (by simp [entsOf]; omega)]
    rfl
theorem ord_of_pairwise {R : List Tow} (h : R.Pairwise ltT) : inOrd (ents R) = true := (inOrd_iff _).2 fun j x y hx hy => by
  simp only [ents, List.getElem?_map] at hx hy
  obtain ⟨a, ha, rfl⟩ := Option.map_eq_some_iff.1 hx
  obtain ⟨b, hb, rfl⟩ := Option.map_eq_some_iff.1 hy
  obtain ⟨h1, rfl⟩ := List.getElem?_eq_some_iff.1 ha
  obtain ⟨h2, rfl⟩ := List.getElem?_eq_some_iff.1 hb
  exact List.pairwise_iff_getElem.1 h j (j + 1) h1 h2 (by omega)
end Go.Proofs.Ytpgligfolecieaa
