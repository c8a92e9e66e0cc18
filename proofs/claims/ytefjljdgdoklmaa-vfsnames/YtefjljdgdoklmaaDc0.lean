/-
  A crash of any file system.
-/
import Derived.Test.YtefjljdgdoklmaaDrr
import Derived.Test.YtefjljdgdoklmaaFc2
namespace Go.Proofs.Ytefjljdgdoklmaa
open Go.RowKit Go.Maps Go.Sort

def toBA (l : List UInt8) : ByteArray := ⟨l.toArray⟩
/-- The names of a directory, rising. -/
def namesOf (S : DataW Unit) : List ByteArray := ((strKeys S).mergeSort leB).map toBA
def crashStep (S : DataW Unit) (st : (Nat → Option Fil) × Int) (p : ByteArray × Int) : (Nat → Option Fil) × Int :=
  match fileOf S p.1 with
  | none => st
  | some g => match st.1 g with
    | none => st
    | some x => (fun k => if k = g then some (x.crash p.2) else st.1 k, st.2 + ((x.crash p.2).bytes.length : Int))
def crashList (names : List ByteArray) (ks : List Int) : List (ByteArray × Int) := names.zipIdx.map fun p => (p.1, ks.getD p.2 0)
def Disk.left (d : Disk) (dir : Int) : DataW Unit := (d.changes.take (max dir 0 % ((d.changes.length : Int) + 1)).toNat).foldl applyD d.synced
/-- A file system in the midst of a crash: so many of its files have crashed. -/
def Disk.midst (d : Disk) (S : DataW Unit) (l : List (ByteArray × Int)) : Disk :=
  { d with names := S, synced := S, changes := [], files := (l.foldl (crashStep S) (d.files, 0)).1, used := (l.foldl (crashStep S) (d.files, 0)).2, lost := 0 }
def Disk.crashed (d : Disk) (dir : Int) (ks : List Int) : Disk :=
  { d.midst (d.left dir) (crashList (namesOf (d.left dir)) ks) with on := true, fuse := -1, fault := -1 }
/-- Numbers in a slice. -/
def Ints (w : World) (a : Option Addr) (n : Nat) (ks : List Int) : Prop :=
  n = ks.length ∧ ∀ k, k < n → ∃ q o, a = some ⟨q, o, none⟩ ∧ w.cell? ⟨q, o + k, none⟩ = some (.int .i64 (ks.getD k 0))
theorem Ints.keep {S : Nat → Prop} {w w' : World} {a : Option Addr} {n : Nat} {ks : List Int} (h : Ints w a n ks) (t : Turns S w w') (ha : ∀ q o, a = some ⟨q, o, none⟩ → ¬ S q) : Ints w' a n ks := by
  refine ⟨h.1, fun k hk => ?_⟩
  obtain ⟨q, o, e1, e2⟩ := h.2 k hk
  exact ⟨q, o, e1, t.cell e2 (ha q o e1)⟩

theorem crashList_length (names : List ByteArray) (ks : List Int) : (crashList names ks).length = names.length := by simp [crashList]
theorem crashList_at (names : List ByteArray) (ks : List Int) (i : Nat) (hi : i < names.length) : (crashList names ks)[i]? = some (names[i], ks.getD i 0) := by
  simp [crashList, hi]

theorem crash_inv (S : DataW Unit) (l : List (ByteArray × Int)) : ∀ (st : (Nat → Option Fil) × Int), (∀ g x, st.1 g = some x → x.bytes.length ≤ 1073741824 ∧ x.synced ≤ x.bytes.length) → 0 ≤ st.2 →
    (∀ g x, (l.foldl (crashStep S) st).1 g = some x → x.bytes.length ≤ 1073741824 ∧ x.synced ≤ x.bytes.length) ∧ 0 ≤ (l.foldl (crashStep S) st).2 ∧ (l.foldl (crashStep S) st).2 ≤ st.2 + l.length * 1073741824 ∧
      ∀ g, (∃ x, st.1 g = some x) → ∃ x, (l.foldl (crashStep S) st).1 g = some x := by
  induction l with
  | nil => exact fun st h1 h2 => ⟨h1, h2, by simp, fun g h => h⟩
  | cons p r ih =>
    intro st h1 h2
    rw [List.foldl_cons]
    have key : (∀ g x, (crashStep S st p).1 g = some x → x.bytes.length ≤ 1073741824 ∧ x.synced ≤ x.bytes.length) ∧ 0 ≤ (crashStep S st p).2 ∧ (crashStep S st p).2 ≤ st.2 + 1073741824 ∧ ∀ g, (∃ x, st.1 g = some x) → ∃ x, (crashStep S st p).1 g = some x := by
      unfold crashStep
      cases e : fileOf S p.1 with
      | none => exact ⟨h1, h2, by simp; omega, fun g h => h⟩
      | some g =>
        simp only
        cases e2 : st.1 g with
        | none => exact ⟨h1, h2, by simp; omega, fun g h => h⟩
        | some x =>
          have hN := crashN_le x p.2 (h1 g x e2).2
          have hl : (x.crash p.2).bytes.length = crashN x p.2 := by unfold Fil.crash; simp; omega
          have hL := (h1 g x e2).1
          refine ⟨fun q y hq => ?_, by simp only; omega, by simp only; omega, fun q hq => ?_⟩
          · simp only at hq
            split at hq
            · obtain rfl : x.crash p.2 = y := by simpa using hq
              exact ⟨by omega, by rw [hl]; exact Nat.le_refl _⟩
            · exact h1 q y hq
          · simp only
            split
            · exact ⟨_, rfl⟩
            · exact hq
    obtain ⟨k1, k2, k3, k4⟩ := key
    obtain ⟨m1, m2, m3, m4⟩ := ih _ k1 k2
    refine ⟨m1, m2, ?_, fun g h => m4 g (k4 g h)⟩
    rw [List.length_cons]
    omega

/-- Each name of a directory is a file. -/
theorem Full.name {S : DataW Unit} (h : Full S) {x : List UInt8} (hx : x ∈ strKeys S) : ∃ g, fileOf S (toBA x) = some g := by
  obtain ⟨es, rfl, h⟩ := h
  obtain ⟨p, hp, rfl⟩ := List.mem_map.1 hx
  obtain ⟨y, g, rfl⟩ := h p hp
  have hk : key (toBA y) = .string y := by simp [key, toBA]
  have hfind : ∃ q, q ∈ es ∧ es.find? (fun p => p.1.sameKey (.string y)) = some q := by
    cases e : es.find? (fun p => p.1.sameKey (.string y)) with
    | none =>
      have := List.find?_eq_none.1 e _ hp
      simp [Lit.sameKey] at this
    | some q => exact ⟨q, List.mem_of_find?_eq_some e, rfl⟩
  obtain ⟨q, hq, he⟩ := hfind
  obtain ⟨z, g', rfl⟩ := h q hq
  refine ⟨g', ?_⟩
  show fileOf (.map es) (toBA y) = some g'
  exact fileOf_lit _ _ _ (by rw [hk]; simp only [DataW.atKey, he])
theorem names_file {S : DataW Unit} (h : Full S) {s : ByteArray} (hs : s ∈ namesOf S) : ∃ g, fileOf S s = some g := by
  obtain ⟨x, hx, rfl⟩ := List.mem_map.1 hs
  exact h.name ((List.mergeSort_perm _ _).mem_iff.1 hx)

/-- The names of a directory as 'rising' answers them. -/
theorem rising_names (b n : Nat) (D : DataW Unit) (w : World) (hd : Dir w b n D) (hn : n ≤ 1000000000) :
    Calls Try.prog 45 #[.map (some b)] w fun e w' => ∃ (va : Option Addr) (vc : Nat), e = .returned (.slice va (namesOf D).length vc) ∧ (namesOf D).length ≤ vc ∧ (∀ j, j < (namesOf D).length → ∃ q, va = some ⟨q, 0, none⟩ ∧ w.heap.size < q ∧ w'.cell? ⟨q, j, none⟩ = some (.string ((namesOf D).getD j ⟨#[]⟩))) ∧ (∀ j, j < (namesOf D).length → ((namesOf D).getD j ⟨#[]⟩).size ≤ maxLen) ∧ (namesOf D = [] → va = none ∧ vc = 0) ∧ Below w.heap.size w w' := by
  have hle := strKeys_le hd Try.underlying9
  refine (rising_any b n D w hd hn).mono ?_
  rintro e w' ⟨v, ss, rfl, h1, h2, h3, h4⟩
  have hms : (ss.mergeSort fun x y => decide (x ≤ y)) = (strKeys D).mergeSort leB := mergeSort_of_perm h1
  rw [hms] at h2
  have hlen : ss.length = (namesOf D).length := by
    unfold namesOf
    rw [List.length_map, List.length_mergeSort, h1.length_eq]
  have henc : ∀ l : List (List UInt8), l.map encStr = (l.map toBA).map Value.string := fun l => by
    rw [List.map_map]
    apply List.map_congr_left
    intro x _
    rfl
  have hbound : ∀ j, j < (namesOf D).length → ((namesOf D).getD j ⟨#[]⟩).size ≤ maxLen := fun j hj => by
    rw [List.getD_eq_getElem?_getD, List.getElem?_eq_getElem hj, Option.getD_some]
    have hm : (namesOf D)[j] ∈ namesOf D := List.getElem_mem hj
    obtain ⟨x, hx, he⟩ := List.mem_map.1 hm
    rw [← he]
    have := hle x ((List.mergeSort_perm _ _).mem_iff.1 hx)
    simpa [toBA, ByteArray.size] using this
  rw [henc] at h2
  change w'.ownsRow (w.heap.size + 1) 9 1 v ss.length ((namesOf D).map Value.string) at h2
  rcases id h2 with ⟨hl, ⟨rfl, hv⟩ | ⟨q, c, cur, rfl, hq, hh, hc, hx, hy, ht⟩⟩
  · have h0 : (namesOf D).length = 0 := by
      rw [← hlen]; exact hv
    refine ⟨none, 0, by rw [h0], by omega, fun j hj => by omega, hbound, fun _ => ⟨rfl, rfl⟩, h4⟩
  · refine ⟨_, c, by rw [hlen], by omega, fun j hj => ⟨q, rfl, hq, ?_⟩, hbound, fun e => ?_, h4⟩
    · rw [cell_of_row w' q j cur 9 (0, 0) hh, List.getD_eq_getElem?_getD, List.getElem?_eq_getElem hj, Option.getD_some]
      have h5 := congrArg (fun l => l[j]?) ht
      simp [hlen, hj] at h5
      rw [← Array.getElem?_toList]
      simpa using h5
    · have : ss = [] := by
        have h0 : ss.length = 0 := by rw [hlen, e]; rfl
        simpa using h0
      have := h3.2 this
      cases this
end Go.Proofs.Ytefjljdgdoklmaa
