import Derived.Test.YtefjljdgdoklmaaM11
import Derived.Test.YtefjljdgdoklmaaM13
import Derived.Test.YtefjljdgdoklmaaM01
import Derived.Deep.Slices
import Derived.Test.YtefjljdgdoklmaaM08
import Derived.Maps.RangeWalk
import Derived.Sort.KeysCollected
/-
  A crash of any file system.
-/
namespace Go.Proofs.Ytefjljdgdoklmaa
open Go.RowKit Go.Maps Go.Sort

def toBA (l : List UInt8) : ByteArray := ⟨l.toArray⟩
/-- The names of a directory, rising. -/
def namesOf (S : DataW Unit) : List ByteArray := ((strKeys S).mergeSort leB).map toBA
def crashStep (S : DataW Unit) (st : (Nat → Option Fil) × Int) (p : ByteArray × Int) : (Nat → Option Fil) × Int :=
  match fileOf S p.1 with
  | none => st
  | some g => match st.1 g with
    | none => st
    | some x => (fun k => if k = g then some (x.crash p.2) else st.1 k, st.2 + ((x.crash p.2).bytes.length : Int))
def crashList (names : List ByteArray) (ks : List Int) : List (ByteArray × Int) := names.zipIdx.map fun p => (p.1, ks.getD p.2 0)
def Disk.left (d : Disk) (dir : Int) : DataW Unit := (d.changes.take (max dir 0 % ((d.changes.length : Int) + 1)).toNat).foldl applyD d.synced
/-- A file system in the midst of a crash: so many of its files have crashed. -/
def Disk.midst (d : Disk) (S : DataW Unit) (l : List (ByteArray × Int)) : Disk :=
  { d with names := S, synced := S, changes := [], files := (l.foldl (crashStep S) (d.files, 0)).1, used := (l.foldl (crashStep S) (d.files, 0)).2, lost := 0 }
def Disk.crashed (d : Disk) (dir : Int) (ks : List Int) : Disk :=
  { d.midst (d.left dir) (crashList (namesOf (d.left dir)) ks) with on := true, fuse := -1, fault := -1 }
/-- Numbers in a slice. -/
def Ints (w : World) (a : Option Addr) (n : Nat) (ks : List Int) : Prop :=
  n = ks.length ∧ ∀ k, k < n → ∃ q o, a = some ⟨q, o, none⟩ ∧ w.cell? ⟨q, o + k, none⟩ = some (.int .i64 (ks.getD k 0))
theorem Ints.keep {S : Nat → Prop} {w w' : World} {a : Option Addr} {n : Nat} {ks : List Int} (h : Ints w a n ks) (t : Turns S w w') (ha : ∀ q o, a = some ⟨q, o, none⟩ → ¬ S q) : Ints w' a n ks := by
  refine ⟨h.1, fun k hk => ?_⟩
  obtain ⟨q, o, e1, e2⟩ := h.2 k hk
  exact ⟨q, o, e1, t.cell e2 (ha q o e1)⟩

theorem crashList_length (names : List ByteArray) (ks : List Int) : (crashList names ks).length = names.length := by simp [crashList]
theorem crashList_at (names : List ByteArray) (ks : List Int) (i : Nat) (hi : i < names.length) : (crashList names ks)[i]? = some (names[i], ks.getD i 0) := by
  simp [crashList, hi]

theorem crash_inv (S : DataW Unit) (l : List (ByteArray × Int)) : ∀ (st : (Nat → Option Fil) × Int), (∀ g x, st.1 g = some x → x.bytes.length ≤ 1073741824 ∧ x.synced ≤ x.bytes.length) → 0 ≤ st.2 →
    (∀ g x, (l.foldl (crashStep S) st).1 g = some x → x.bytes.length ≤ 1073741824 ∧ x.synced ≤ x.bytes.length) ∧ 0 ≤ (l.foldl (crashStep S) st).2 ∧ (l.foldl (crashStep S) st).2 ≤ st.2 + l.length * 1073741824 ∧
      ∀ g, (∃ x, st.1 g = some x) → ∃ x, (l.foldl (crashStep S) st).1 g = some x := by
  induction l with
  | nil => exact fun st h1 h2 => ⟨h1, h2, by simp, fun g h => h⟩
  | cons p r ih =>
    intro st h1 h2
    rw [List.foldl_cons]
    have key : (∀ g x, (crashStep S st p).1 g = some x → x.bytes.length ≤ 1073741824 ∧ x.synced ≤ x.bytes.length) ∧ 0 ≤ (crashStep S st p).2 ∧ (crashStep S st p).2 ≤ st.2 + 1073741824 ∧ ∀ g, (∃ x, st.1 g = some x) → ∃ x, (crashStep S st p).1 g = some x := by
      unfold crashStep
      cases e : fileOf S p.1 with
      | none => exact ⟨h1, h2, by simp; omega, fun g h => h⟩
      | some g =>
        simp only
        cases e2 : st.1 g with
        | none => exact ⟨h1, h2, by simp; omega, fun g h => h⟩
        | some x =>
          have hN := crashN_le x p.2 (h1 g x e2).2
          have hl : (x.crash p.2).bytes.length = crashN x p.2 := by unfold Fil.crash; simp; omega
          have hL := (h1 g x e2).1
          refine ⟨fun q y hq => ?_, by simp only; omega, by simp only; omega, fun q hq => ?_⟩
          · simp only at hq
            split at hq
            · obtain rfl : x.crash p.2 = y := by simpa using hq
              exact ⟨by omega, by rw [hl]; exact Nat.le_refl _⟩
            · exact h1 q y hq
          · simp only
            split
            · exact ⟨_, rfl⟩
            · exact hq
    obtain ⟨k1, k2, k3, k4⟩ := key
    obtain ⟨m1, m2, m3, m4⟩ := ih _ k1 k2
    refine ⟨m1, m2, ?_, fun g h => m4 g (k4 g h)⟩
    rw [List.length_cons]
    omega

/-- Each name of a directory is a file. -/
theorem Full.name {S : DataW Unit} (h : Full S) {x : List UInt8} (hx : x ∈ strKeys S) : ∃ g, fileOf S (toBA x) = some g := by
  obtain ⟨es, rfl, h⟩ := h
  obtain ⟨p, hp, rfl⟩ := List.mem_map.1 hx
  obtain ⟨y, g, rfl⟩ := h p hp
  have hk : key (toBA y) = .string y := by simp [key, toBA]
  have hfind : ∃ q, q ∈ es ∧ es.find? (fun p => p.1.sameKey (.string y)) = some q := by
    cases e : es.find? (fun p => p.1.sameKey (.string y)) with
    | none =>
      have := List.find?_eq_none.1 e _ hp
      simp [Lit.sameKey] at this
    | some q => exact ⟨q, List.mem_of_find?_eq_some e, rfl⟩
  obtain ⟨q, hq, he⟩ := hfind
  obtain ⟨z, g', rfl⟩ := h q hq
  refine ⟨g', ?_⟩
  show fileOf (.map es) (toBA y) = some g'
  exact fileOf_lit _ _ _ (by rw [hk]; simp only [DataW.atKey, he])
theorem names_file {S : DataW Unit} (h : Full S) {s : ByteArray} (hs : s ∈ namesOf S) : ∃ g, fileOf S s = some g := by
  obtain ⟨x, hx, rfl⟩ := List.mem_map.1 hs
  exact h.name ((List.mergeSort_perm _ _).mem_iff.1 hx)

/-- The names of a directory as 'rising' answers them. -/
theorem rising_names (b n : Nat) (D : DataW Unit) (w : World) (hd : Dir w b n D) (hn : n ≤ 1000000000) :
    Calls Try.prog 45 #[.map (some b)] w fun e w' => ∃ (va : Option Addr) (vc : Nat), e = .returned (.slice va (namesOf D).length vc) ∧ (namesOf D).length ≤ vc ∧ (∀ j, j < (namesOf D).length → ∃ q, va = some ⟨q, 0, none⟩ ∧ w.heap.size < q ∧ w'.cell? ⟨q, j, none⟩ = some (.string ((namesOf D).getD j ⟨#[]⟩))) ∧ (∀ j, j < (namesOf D).length → ((namesOf D).getD j ⟨#[]⟩).size ≤ maxLen) ∧ (namesOf D = [] → va = none ∧ vc = 0) ∧ Below w.heap.size w w' := by
  have hle := strKeys_le hd Try.underlying9
  refine (rising_any b n D w hd hn).mono ?_
  rintro e w' ⟨v, ss, rfl, h1, h2, h3, h4⟩
  have hms : (ss.mergeSort fun x y => decide (x ≤ y)) = (strKeys D).mergeSort leB := mergeSort_of_perm h1
  rw [hms] at h2
  have hlen : ss.length = (namesOf D).length := by
    unfold namesOf
    rw [List.length_map, List.length_mergeSort, h1.length_eq]
  have henc : ∀ l : List (List UInt8), l.map encStr = (l.map toBA).map Value.string := fun l => by
    rw [List.map_map]
    apply List.map_congr_left
    intro x _
    rfl
  have hbound : ∀ j, j < (namesOf D).length → ((namesOf D).getD j ⟨#[]⟩).size ≤ maxLen := fun j hj => by
    rw [List.getD_eq_getElem?_getD, List.getElem?_eq_getElem hj, Option.getD_some]
    have hm : (namesOf D)[j] ∈ namesOf D := List.getElem_mem hj
    obtain ⟨x, hx, he⟩ := List.mem_map.1 hm
    rw [← he]
    have := hle x ((List.mergeSort_perm _ _).mem_iff.1 hx)
    simpa [toBA, ByteArray.size] using this
  rw [henc] at h2
  change w'.ownsRow (w.heap.size + 1) 9 1 v ss.length ((namesOf D).map Value.string) at h2
  rcases id h2 with ⟨hl, ⟨rfl, hv⟩ | ⟨q, c, cur, rfl, hq, hh, hc, hx, hy, ht⟩⟩
  · have h0 : (namesOf D).length = 0 := by
      rw [← hlen]; exact hv
    refine ⟨none, 0, by rw [h0], by omega, fun j hj => by omega, hbound, fun _ => ⟨rfl, rfl⟩, h4⟩
  · refine ⟨_, c, by rw [hlen], by omega, fun j hj => ⟨q, rfl, hq, ?_⟩, hbound, fun e => ?_, h4⟩
    · rw [cell_of_row w' q j cur 9 (0, 0) hh, List.getD_eq_getElem?_getD, List.getElem?_eq_getElem hj, Option.getD_some]
      have h5 := congrArg (fun l => l[j]?) ht
      simp [hlen, hj] at h5
      rw [← Array.getElem?_toList]
      simpa using h5
    · have : ss = [] := by
        have h0 : ss.length = 0 := by rw [hlen, e]; rfl
        simpa using h0
      have := h3.2 this
      cases this
end Go.Proofs.Ytefjljdgdoklmaa

/-
  A script of calls that came in, opened.
-/
namespace Go.Proofs.Ytefjljdgdoklmaa
open Go.ChangeShapes Go.WideShapes Go.ChangeAt Go.RowKit
/-- One call of a script, as it lies in memory. -/
structure ActP where
  kind : Int
  N : Int
  M : Int
  E : Int
  s : ByteArray
  t : ByteArray
  ba : Option Addr
  ka : Option Addr
  bn : Nat
  bc : Nat
  kn : Nat
  kc : Nat
  bs : List (BitVec 8)
  ks : List Int
instance : Inhabited ActP := ⟨⟨0, 0, 0, 0, ⟨#[]⟩, ⟨#[]⟩, none, none, 0, 0, 0, 0, [], []⟩⟩
def ActP.cells (x : ActP) : List Value := [.int .i64 x.kind, .string x.s, .string x.t, .slice x.ba x.bn x.bc, .int .i64 x.N, .int .i64 x.M, .int .i64 x.E, .slice x.ka x.kn x.kc]
structure ActP.okay (w : World) (x : ActP) : Prop where
  bytes : Bytes w (.slice x.ba x.bn x.bc) x.bs
  ints : Ints w x.ka x.kn x.ks
  n : -9223372036854775808 ≤ x.N ∧ x.N ≤ 9223372036854775807
  m : x.M ≤ 9223372036854775807
  each : ∀ z, z ∈ x.ks → z ≤ 9223372036854775807 ∧ -9223372036854775808 ≤ z
  bb : ∀ p o, x.ba = some ⟨p, o, none⟩ → 0 < x.bn → p < w.heap.size
  kb : ∀ p o, x.ka = some ⟨p, o, none⟩ → 0 < x.kn → p < w.heap.size
def Acts0 (w : World) (a : Option Addr) (l : List ActP) : Prop :=
  ∀ k x, l[k]? = some x → (∃ b off, a = some ⟨b, off, none⟩ ∧ b < w.heap.size ∧ ∀ j u, x.cells[j]? = some u → w.cell? ⟨b, off + k * 8 + j, none⟩ = some u) ∧ x.okay w
theorem block_lt {w : World} {a : Addr} {v : Value} (h : w.cell? a = some v) : a.block < w.heap.size := block_lt_of_cell h
theorem bytes_block {w : World} {a : Option Addr} {n c : Nat} {bs : List (BitVec 8)} (h : Bytes w (.slice a n c) bs) (p o : Nat) (e : a = some ⟨p, o, none⟩) (h0 : 0 < n) : p < w.heap.size := by
  have hl := h.len
  obtain ⟨a', c', e', h⟩ := h
  cases e'
  obtain ⟨b, off, h1, h2⟩ := h 0 (by omega)
  rw [e] at h1
  cases h1
  exact block_lt h2
theorem ints_block {w : World} {a : Option Addr} {n : Nat} {ks : List Int} (h : Ints w a n ks) (p o : Nat) (e : a = some ⟨p, o, none⟩) (h0 : 0 < n) : p < w.heap.size := by
  obtain ⟨b, off, h1, h2⟩ := h.2 0 h0
  rw [e] at h1
  cases h1
  exact block_lt h2
theorem i64_cell {H : Type} {enc : TypeId × Value → H} {W : World} {n t : Nat} {v : Value} {x : DataW H × List MemPlace} (ht : Try.prog.underlying t = some (.int .i64)) (h : DataW.trod enc Try.prog W 0 (fun _ => true) true n t [v] = some x) :
    ∃ z : Int, v = .int .i64 z ∧ -9223372036854775808 ≤ z ∧ z ≤ 9223372036854775807 := by
  obtain ⟨z, hz, _, hw⟩ := DataW.trod_int ht h
  have hb := bounds_i64 hw
  exact ⟨z, by simpa using hz, by omega, by omega⟩
set_option maxRecDepth 100000 in
theorem open_ints_cell {H : Type} {enc : TypeId × Value → H} {W : World} {n : Nat} {v : Value} {x : DataW H × List MemPlace} (h : DataW.trod enc Try.prog W 0 (fun _ => true) true n 47 [v] = some x) :
    ∃ (a : Option Addr) (m c : Nat) (ks : List Int), v = .slice a m c ∧ Ints W a m ks ∧ ∀ z, z ∈ ks → z ≤ 9223372036854775807 ∧ -9223372036854775808 ≤ z := by
  rcases open_ints Try.underlying47 Try.underlying3 cells3 h with ⟨hv, _⟩ | ⟨a, len, cap, zs, hv, _, hlc, hcap, hlen, _, hcell, hwf⟩
  · obtain rfl : v = .slice none 0 0 := by simpa using hv
    exact ⟨none, 0, 0, [], rfl, ⟨rfl, fun k hk => by omega⟩, fun z hz => by cases hz⟩
  · obtain rfl : v = .slice (some a) len cap := by simpa using hv
    have hz : zs.length = cap := by simpa using hlen
    refine ⟨some a, len, cap, zs.take len, rfl, ⟨by rw [List.length_take]; omega, fun k hk => ?_⟩, fun z hz => ?_⟩
    · obtain ⟨b, off, rfl, hc⟩ := ints_at hcell (by omega)
      refine ⟨b, off, rfl, ?_⟩
      rw [hc k (by omega)]
      have hk' : k < zs.length := by omega
      simp [List.getD, hk, hk']
    · have hb := bounds_i64 (hwf z (List.mem_of_mem_take hz))
      omega
set_option maxRecDepth 100000 in
theorem open_acts {H : Type} {enc : TypeId × Value → H} {W : World} {r : Reach} {b0 : Nat} {v : Value} {d : DataW H} {p : List MemPlace} (hval : Value.okWide Try.prog W r b0 41 v) (h : DataW.Trod enc Try.prog W 0 (fun _ => true) true 41 v d p) :
    ∃ (a : Option Addr) (n c : Nat) (l : List ActP), v = .slice a n c ∧ n = l.length ∧ Acts0 W a l := by
  obtain ⟨fuel, h⟩ := h
  obtain ⟨a0, len0, cap0, rfl⟩ := okWide_slice Try.underlying41 hval
  have h' : DataW.trod enc Try.prog W 0 (fun _ => true) true fuel 41 [.slice a0 len0 cap0] = some (d, p) := h
  rcases Go.Deep.open_slice Try.underlying41 h' with ⟨hv, _⟩ | ⟨a, len, cap, m, n, D, Pl, hv, _, hlc, hcap, hm, hx, hcells⟩
  · obtain ⟨rfl, rfl, rfl⟩ : a0 = none ∧ len0 = 0 ∧ cap0 = 0 := by simpa using hv
    exact ⟨none, 0, 0, [], rfl, rfl, fun k x hx => by simp at hx⟩
  · obtain ⟨rfl, rfl, rfl⟩ : a0 = some a ∧ len0 = len ∧ cap0 = cap := by simpa using hv
    have hm' : m = cap0 := by simpa using hm
    subst hm'
    have each : ∀ i, i < len0 → ∃ x : ActP, (∀ j u, x.cells[j]? = some u → W.cell? (a.add (i * 8 + j)) = some u) ∧ x.okay W := by
      intro i hi
      obtain ⟨cs', h1, h2⟩ := hcells i (by omega)
      rw [cells49] at h1
      obtain ⟨_, hlen, hcell⟩ := World.cells?_some h1
      obtain ⟨xs, k, _, _, _, hxl, hf⟩ := DataW.trod_struct Try.underlying49 h2
      match xs, hxl, cs', hlen with
      | [y0, y1, y2, y3, y4, y5, y6, y7], _, [c0, c1, c2, c3, c4, c5, c6, c7], _ =>
        have t0 : DataW.trod enc Try.prog W 0 (fun _ => true) true k 3 [c0] = some y0 := by simpa [cells3] using hf 0 _ rfl
        have t1 : DataW.trod enc Try.prog W 0 (fun _ => true) true k 9 [c1] = some y1 := by simpa [cells9] using hf 1 _ rfl
        have t2 : DataW.trod enc Try.prog W 0 (fun _ => true) true k 9 [c2] = some y2 := by simpa [cells9] using hf 2 _ rfl
        have t3 : DataW.trod enc Try.prog W 0 (fun _ => true) true k 28 [c3] = some y3 := by simpa [cells28] using hf 3 _ rfl
        have t4 : DataW.trod enc Try.prog W 0 (fun _ => true) true k 3 [c4] = some y4 := by simpa [cells3] using hf 4 _ rfl
        have t5 : DataW.trod enc Try.prog W 0 (fun _ => true) true k 3 [c5] = some y5 := by simpa [cells3] using hf 5 _ rfl
        have t6 : DataW.trod enc Try.prog W 0 (fun _ => true) true k 23 [c6] = some y6 := by simpa [cells23] using hf 6 _ rfl
        have t7 : DataW.trod enc Try.prog W 0 (fun _ => true) true k 47 [c7] = some y7 := by simpa [cells47] using hf 7 _ rfl
        obtain ⟨kind, rfl⟩ := int_cell Try.underlying3 t0
        obtain ⟨A, rfl⟩ := text_cell Try.underlying9 t1
        obtain ⟨C, rfl⟩ := text_cell Try.underlying9 t2
        obtain ⟨ba, bn, bc, bs, rfl, hbs, _⟩ := open_cell t3
        obtain ⟨N, rfl, hn⟩ := i64_cell Try.underlying3 t4
        obtain ⟨M, rfl, hmm⟩ := i64_cell Try.underlying3 t5
        obtain ⟨E, rfl⟩ := int_cell Try.underlying23 t6
        obtain ⟨ka, kn, kc, ks, rfl, hks, hkb⟩ := open_ints_cell t7
        refine ⟨⟨kind, N, M, E, A, C, ba, ka, bn, bc, kn, kc, bs, ks⟩, fun j u hu => ?_, ⟨hbs, hks, hn, hmm.2, hkb, bytes_block hbs, ints_block hks⟩⟩
        have hj : j < 8 := (List.getElem?_eq_some_iff.1 hu).1
        have e0 := hcell j (by omega)
        rw [Go.Deep.add_add] at e0
        rw [e0]
        exact hu
    obtain ⟨q, hq⟩ := Go.Deep.choose_lt each
    refine ⟨some a, len0, m, (List.range len0).map q, rfl, by simp, fun k x hx => ?_⟩
    have hk : k < len0 := by
      rcases Nat.lt_or_ge k len0 with h | h
      · exact h
      · rw [List.getElem?_eq_none (by simpa using h)] at hx; cases hx
    obtain rfl : q k = x := by simpa [hk] using hx
    have hq0 := (hq 0 (by omega)).1 0 _ rfl
    obtain ⟨b, off, spot⟩ := a
    have hspot : spot = none := by simpa [Addr.add] using World.cell?_spot hq0
    subst hspot
    refine ⟨⟨b, off, rfl, by have := block_lt hq0; simpa [Addr.add] using this, fun j u hu => ?_⟩, (hq k hk).2⟩
    have := (hq k hk).1 j u hu
    rw [Go.WideShapes.add_plain] at this
    rw [Nat.add_assoc]
    exact this
end Go.Proofs.Ytefjljdgdoklmaa

/-
  The document's file system: its changes, and the directory behind some of them.
-/
namespace Go.Proofs.Ytefjljdgdoklmaa
open Go.RowKit Go.Maps

/-- The cells of the document's changes. -/
def rcCells (l : List Chg) : List Value := l.flatMap fun c => [.string c.became, ptrOf c.file, .string c.went]
theorem rcCells_length (l : List Chg) : (rcCells l).length = l.length * 3 := by
  induction l with
  | nil => rfl
  | cons c r ih => simp only [rcCells, List.flatMap_cons, List.length_append, List.length_cons, List.length_nil] at ih ⊢; omega
theorem rcCells_snoc (l : List Chg) (c : Chg) : rcCells (l ++ [c]) = rcCells l ++ [.string c.became, ptrOf c.file, .string c.went] := by simp [rcCells]
theorem rcCells_at (l : List Chg) (k : Nat) (c : Chg) (h : l[k]? = some c) : (rcCells l)[k * 3]? = some (.string c.became) ∧ (rcCells l)[k * 3 + 1]? = some (ptrOf c.file) ∧ (rcCells l)[k * 3 + 2]? = some (.string c.went) := by
  induction l generalizing k with
  | nil => simp at h
  | cons q r ih =>
    cases k with
    | zero =>
      obtain rfl : q = c := by simpa using h
      exact ⟨rfl, rfl, rfl⟩
    | succ k =>
      have := ih k (by simpa using h)
      rw [show (k + 1) * 3 = k * 3 + 3 by omega, show k * 3 + 3 + 1 = k * 3 + 1 + 3 by omega, show k * 3 + 3 + 2 = k * 3 + 2 + 3 by omega]
      exact this
/-- The document's changes in a list of one's own, or none. -/
def RChs (w : World) (v : Value) (l : List Chg) : Prop :=
  (l = [] ∧ v = .slice none 0 0) ∨ ∃ (g c n : Nat), v = .slice (some ⟨g, 0, none⟩) n c ∧ n = l.length ∧ 0 < n ∧ n ≤ c ∧ RowC w g 97 (c * 3) (rcCells l)
theorem RChs.keep {S : Nat → Prop} {w w' : World} {v : Value} {l : List Chg} (h : RChs w v l) (ht : Turns S w w') (hn : ∀ k, inRow v k → ¬ S k) : RChs w' v l := by
  rcases h with h | ⟨g, c, n, h1, h2, h3, h4, cs, h5, h6, h7⟩
  · exact .inl h
  · exact .inr ⟨g, c, n, h1, h2, h3, h4, cs, ht.heap h5 (hn g ⟨n, c, h1⟩), h6, h7⟩
theorem RChs.row {w : World} {v : Value} {l : List Chg} (h : RChs w v l) {k : Nat} (hk : inRow v k) : ∃ cs, w.heap[k]? = some (.cells cs 97 (0, 0)) := by
  obtain ⟨n', c', e⟩ := hk
  rcases h with ⟨_, h⟩ | ⟨g, c, n, h1, h2, h3, h4, cs, h5, h6, h7⟩
  · rw [h] at e; cases e
  · rw [h1] at e; cases e; exact ⟨cs, h5⟩
theorem RChs.len {w : World} {v : Value} {l : List Chg} (h : RChs w v l) : ∃ a c, v = .slice a l.length c := by
  rcases h with ⟨rfl, rfl⟩ | ⟨g, c, n, rfl, rfl, _⟩
  · exact ⟨_, _, rfl⟩
  · exact ⟨_, _, rfl⟩

/-- What a change makes of a directory, in the document's words. -/
def applyR (D : DataW Unit) (c : Chg) : DataW Unit :=
  let E := if c.went.size = 0 then D else D.del (key c.went)
  match c.file with
  | none => E
  | some g => E.put (key c.became) (.lit (.int .i64 (g : Nat)))
/-- The cells of the document's file system. -/
def rfCells (limit : Int) (sy ch : Value) (off : Bool) (fuse fault fail n : Int) : Array Value :=
  #[.int .i64 limit, sy, ch, .bool off, .int .i64 fuse, .int .i64 fault, .int .i64 fail, .int .i64 n]

def ptrD (c : Option Nat) : DataW Unit := match c with | none => .nil | some g => .lit (.int .i64 (g : Nat))
theorem ptrR_of (c : Option Nat) : ptrR (ptrOf c) = some (ptrD c, []) := by cases c <;> rfl
theorem ptrR_shape (v : Value) (y : DataW Unit × List MemPlace) (h : ptrR v = some y) : ∃ c, v = ptrOf c := by
  rcases ptrR_inv (d := y.1) (ps := y.2) h with ⟨rfl, _⟩ | ⟨g, rfl, _⟩
  · exact ⟨none, rfl⟩
  · exact ⟨some g, rfl⟩
theorem strK_shape (key : Value) (kl : Lit) (h : keyOf Try.prog 9 key = some kl) : ∃ x, key = encStr x := by
  obtain ⟨x, rfl, _⟩ := Go.Maps.keyOf_str Try.underlying9 h
  exact ⟨x, rfl⟩
end Go.Proofs.Ytefjljdgdoklmaa
