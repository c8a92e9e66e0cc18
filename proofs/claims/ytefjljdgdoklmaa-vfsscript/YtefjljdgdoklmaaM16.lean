import Derived.Test.YtefjljdgdoklmaaM15
import Derived.Test.YtefjljdgdoklmaaM09
import Derived.Test.YtefjljdgdoklmaaM12
/-
  What a crash leaves of a file, whatever its bytes.
-/
namespace Go.Proofs.Ytefjljdgdoklmaa
open Go.RowKit Go.Maps

set_option maxRecDepth 100000 in
set_option maxHeartbeats 1000000 in
theorem fcrash_nil (g : Nat) (keep : Int) (w : World) (h : w.heap[g]? = some (.cells #[.slice none 0 0, .int .i64 0] 70 (0, 0))) (k1 : keep ≤ 9223372036854775807) (k2 : -9223372036854775808 ≤ keep) :
    Calls Try.prog 46 #[.pointer (some ⟨g, 0, none⟩), .int .i64 keep] w fun e w' => (∃ v, e = .returned v) ∧ w'.heap[g]? = some (.cells #[.slice none 0 0, .int .i64 0] 70 (0, 0)) ∧ Turns (fun j => j = g) w w' := by
  have c0 : w.cell? ⟨g, 0, none⟩ = some (.slice none 0 0) := cell_of_row w g 0 _ 70 (0, 0) h
  have c1 : w.cell? ⟨g, 1, none⟩ = some (.int .i64 0) := cell_of_row w g 1 _ 70 (0, 0) h
  have z0 : w.frozen? ⟨g, 0, none⟩ = false := frozen_of_row w g 0 _ 70 h
  have hmod : max keep 0 % (0 + 1) = 0 := by omega
  have hw0 : IntKind.i64.wrap 0 = 0 := wrapI 0 (by decide) (by decide)
  have H := hide h
  clear h
  go_enter Try.func46, Try.ntmps46
  go_wp2_with fail
  go_still_tail 25, (by kernel_rfl)
  still_call (within_any keep 0 _ (by omega) (by omega) k1 k2)
  rw [hmod]
  repeat still_step
  refine wpStill_nil ?_
  have t1 : Tick w (({ w with drawn := w.drawn + 1 } : World).setCell ⟨g, 0, none⟩ (.slice none 0 0)) g 70 #[.slice none 0 0, .int .i64 0] := ((Tick.refl H.out).drew).set 0 (.slice none 0 0)
  have T1 := hide t1
  have z0' : ({ w with drawn := w.drawn + 1 } : World).frozen? ⟨g, 0, none⟩ = false := z0
  have c0' : ({ w with drawn := w.drawn + 1 } : World).cell? ⟨g, 0, none⟩ = some (.slice none 0 0) := c0
  clear t1
  go_wp2_with fail
  refine (sync_any g 0 0 none 0 (w.setCell ⟨g, 0, none⟩ (.slice none 0 0)).drew T1.out.1).mono ?_
  rintro e w2 ⟨⟨v, rfl⟩, t2⟩
  have T2 := hide t2
  have U2 : Hid (Turns (fun j => j = g) w w2) := (Turns.of_tick (w' := (w.setCell ⟨g, 0, none⟩ (.slice none 0 0)).drew) T1.out).trans (Turns.of_tick t2)
  clear t2
  go_wp2_with fail
  go_end0
  exact ⟨⟨_, rfl⟩, T2.out.1, U2.out⟩

/-- How many bytes a crash leaves. -/
def crashN (x : Fil) (k : Int) : Nat := x.synced + (max k 0 % ((x.bytes.length : Int) - x.synced + 1)).toNat
def Fil.crash (x : Fil) (k : Int) : Fil := ⟨x.bytes.take (crashN x k), crashN x k⟩
theorem crashN_le (x : Fil) (k : Int) (h : x.synced ≤ x.bytes.length) : crashN x k ≤ x.bytes.length := by
  unfold crashN
  have e2 := Int.emod_lt_of_pos (max k 0) (show (0 : Int) < (x.bytes.length : Int) - x.synced + 1 by omega)
  have e1 := Int.emod_nonneg (max k 0) (show (x.bytes.length : Int) - x.synced + 1 ≠ 0 by omega)
  omega

theorem fcrash_all (g : Nat) (v : Value) (x : Fil) (keep : Int) (w : World) (h : w.heap[g]? = some (.cells #[v, .int .i64 (x.synced : Nat)] 70 (0, 0))) (hown : OwnB w v x.bytes) (h1 : x.synced ≤ x.bytes.length) (h3 : x.bytes.length ≤ 1073741824) (k1 : keep ≤ 9223372036854775807) (k2 : -9223372036854775808 ≤ keep) :
    Calls Try.prog 46 #[.pointer (some ⟨g, 0, none⟩), .int .i64 keep] w fun e w' => (∃ v, e = .returned v) ∧ ∃ a m c, w'.heap[g]? = some (.cells #[.slice a m c, .int .i64 ((x.crash keep).synced : Nat)] 70 (0, 0)) ∧ OwnB w' (.slice a m c) (x.crash keep).bytes ∧ m = (x.crash keep).bytes.length ∧ (∀ k, inRow (.slice a m c) k → inRow v k) ∧ Turns (fun j => j = g) w w' := by
  rcases id hown with ⟨hb, rfl⟩ | ⟨k, c, n, rfl, rfl, hc, hrow⟩
  · have hs : x.synced = 0 := by rw [hb] at h1; simpa using h1
    have hcr : x.crash keep = ⟨[], 0⟩ := by
      unfold Fil.crash
      have : crashN x keep = 0 := by
        have := crashN_le x keep h1
        rw [hb] at this
        simpa using this
      rw [this, hb]
      rfl
    rw [hs] at h
    refine (fcrash_nil g keep w h k1 k2).mono ?_
    rintro e w' ⟨he, h4, t⟩
    rw [hcr]
    exact ⟨he, none, 0, 0, h4, .inl ⟨rfl, rfl⟩, rfl, fun k hk => hk, t⟩
  · refine (fcrash_any g x.bytes.length c x.synced k keep w h h1 hc h3 k1 k2).mono ?_
    rintro e w' ⟨he, N, n1, n2, n3, t⟩
    have hN : crashN x keep = N := by
      unfold crashN
      have e1 := Int.emod_nonneg (max keep 0) (show (x.bytes.length : Int) - x.synced + 1 ≠ 0 by omega)
      omega
    have hkg : k ≠ g := fun e => by
      obtain ⟨cs, h5, _⟩ := hrow
      rw [e] at h5
      exact absurd (one_type h h5) (by decide)
    have hrow' : RowB w' k c x.bytes := by
      obtain ⟨cs, h5, h6, h7⟩ := hrow
      exact ⟨cs, t.heap h5 hkg, h6, h7⟩
    unfold Fil.crash
    rw [hN]
    refine ⟨he, _, N, c, n3, .inr ⟨k, c, N, rfl, by rw [List.length_take]; omega, by omega, hrow'.take N⟩, by rw [List.length_take]; omega, fun q hq => ?_, t⟩
    obtain ⟨_, _, e⟩ := hq
    cases e
    exact ⟨_, _, rfl⟩
end Go.Proofs.Ytefjljdgdoklmaa

/-
  A crash of any file system.
-/
namespace Go.Proofs.Ytefjljdgdoklmaa
open Go.RowKit Go.Maps Go.Sort

def toBA (l : List UInt8) : ByteArray := ⟨l.toArray⟩
/-- The names of a directory, rising. -/
def namesOf (S : DataW Unit) : List ByteArray := ((strKeys S).mergeSort leB).map toBA
def crashStep (S : DataW Unit) (st : (Nat → Option Fil) × Int) (p : ByteArray × Int) : (Nat → Option Fil) × Int :=
  match fileOf S p.1 with
  | none => st
  | some g => match st.1 g with
    | none => st
    | some x => (fun k => if k = g then some (x.crash p.2) else st.1 k, st.2 + ((x.crash p.2).bytes.length : Int))
def crashList (names : List ByteArray) (ks : List Int) : List (ByteArray × Int) := names.zipIdx.map fun p => (p.1, ks.getD p.2 0)
def Disk.left (d : Disk) (dir : Int) : DataW Unit := (d.changes.take (max dir 0 % ((d.changes.length : Int) + 1)).toNat).foldl applyD d.synced
/-- A file system in the midst of a crash: so many of its files have crashed. -/
def Disk.midst (d : Disk) (S : DataW Unit) (l : List (ByteArray × Int)) : Disk :=
  { d with names := S, synced := S, changes := [], files := (l.foldl (crashStep S) (d.files, 0)).1, used := (l.foldl (crashStep S) (d.files, 0)).2, lost := 0 }
def Disk.crashed (d : Disk) (dir : Int) (ks : List Int) : Disk :=
  { d.midst (d.left dir) (crashList (namesOf (d.left dir)) ks) with on := true, fuse := -1, fault := -1 }
/-- Numbers in a slice. -/
def Ints (w : World) (a : Option Addr) (n : Nat) (ks : List Int) : Prop :=
  n = ks.length ∧ ∀ k, k < n → ∃ q o, a = some ⟨q, o, none⟩ ∧ w.cell? ⟨q, o + k, none⟩ = some (.int .i64 (ks.getD k 0))
theorem Ints.keep {S : Nat → Prop} {w w' : World} {a : Option Addr} {n : Nat} {ks : List Int} (h : Ints w a n ks) (t : Turns S w w') (ha : ∀ q o, a = some ⟨q, o, none⟩ → ¬ S q) : Ints w' a n ks := by
  refine ⟨h.1, fun k hk => ?_⟩
  obtain ⟨q, o, e1, e2⟩ := h.2 k hk
  exact ⟨q, o, e1, t.cell e2 (ha q o e1)⟩

theorem crashList_length (names : List ByteArray) (ks : List Int) : (crashList names ks).length = names.length := by simp [crashList]
theorem crashList_at (names : List ByteArray) (ks : List Int) (i : Nat) (hi : i < names.length) : (crashList names ks)[i]? = some (names[i], ks.getD i 0) := by
  simp [crashList, hi]

theorem crash_inv (S : DataW Unit) (l : List (ByteArray × Int)) : ∀ (st : (Nat → Option Fil) × Int), (∀ g x, st.1 g = some x → x.bytes.length ≤ 1073741824 ∧ x.synced ≤ x.bytes.length) → 0 ≤ st.2 →
    (∀ g x, (l.foldl (crashStep S) st).1 g = some x → x.bytes.length ≤ 1073741824 ∧ x.synced ≤ x.bytes.length) ∧ 0 ≤ (l.foldl (crashStep S) st).2 ∧ (l.foldl (crashStep S) st).2 ≤ st.2 + l.length * 1073741824 ∧
      ∀ g, (∃ x, st.1 g = some x) → ∃ x, (l.foldl (crashStep S) st).1 g = some x := by
  induction l with
  | nil => exact fun st h1 h2 => ⟨h1, h2, by simp, fun g h => h⟩
  | cons p r ih =>
    intro st h1 h2
    rw [List.foldl_cons]
    have key : (∀ g x, (crashStep S st p).1 g = some x → x.bytes.length ≤ 1073741824 ∧ x.synced ≤ x.bytes.length) ∧ 0 ≤ (crashStep S st p).2 ∧ (crashStep S st p).2 ≤ st.2 + 1073741824 ∧ ∀ g, (∃ x, st.1 g = some x) → ∃ x, (crashStep S st p).1 g = some x := by
      unfold crashStep
      cases e : fileOf S p.1 with
      | none => exact ⟨h1, h2, by simp; omega, fun g h => h⟩
      | some g =>
        simp only
        cases e2 : st.1 g with
        | none => exact ⟨h1, h2, by simp; omega, fun g h => h⟩
        | some x =>
          have hN := crashN_le x p.2 (h1 g x e2).2
          have hl : (x.crash p.2).bytes.length = crashN x p.2 := by unfold Fil.crash; simp; omega
          have hL := (h1 g x e2).1
          refine ⟨fun q y hq => ?_, by simp only; omega, by simp only; omega, fun q hq => ?_⟩
          · simp only at hq
            split at hq
            · obtain rfl : x.crash p.2 = y := by simpa using hq
              exact ⟨by omega, by rw [hl]; exact Nat.le_refl _⟩
            · exact h1 q y hq
          · simp only
            split
            · exact ⟨_, rfl⟩
            · exact hq
    obtain ⟨k1, k2, k3, k4⟩ := key
    obtain ⟨m1, m2, m3, m4⟩ := ih _ k1 k2
    refine ⟨m1, m2, ?_, fun g h => m4 g (k4 g h)⟩
    rw [List.length_cons]
    omega

/-- Each name of a directory is a file. -/
theorem Full.name {S : DataW Unit} (h : Full S) {x : List UInt8} (hx : x ∈ strKeys S) : ∃ g, fileOf S (toBA x) = some g := by
  obtain ⟨es, rfl, h⟩ := h
  obtain ⟨p, hp, rfl⟩ := List.mem_map.1 hx
  obtain ⟨y, g, rfl⟩ := h p hp
  have hk : key (toBA y) = .string y := by simp [key, toBA]
  have hfind : ∃ q, q ∈ es ∧ es.find? (fun p => p.1.sameKey (.string y)) = some q := by
    cases e : es.find? (fun p => p.1.sameKey (.string y)) with
    | none =>
      have := List.find?_eq_none.1 e _ hp
      simp [Lit.sameKey] at this
    | some q => exact ⟨q, List.mem_of_find?_eq_some e, rfl⟩
  obtain ⟨q, hq, he⟩ := hfind
  obtain ⟨z, g', rfl⟩ := h q hq
  refine ⟨g', ?_⟩
  show fileOf (.map es) (toBA y) = some g'
  exact fileOf_lit _ _ _ (by rw [hk]; simp only [DataW.atKey, he])
theorem names_file {S : DataW Unit} (h : Full S) {s : ByteArray} (hs : s ∈ namesOf S) : ∃ g, fileOf S s = some g := by
  obtain ⟨x, hx, rfl⟩ := List.mem_map.1 hs
  exact h.name ((List.mergeSort_perm _ _).mem_iff.1 hx)

/-- The names of a directory as 'rising' answers them. -/
theorem rising_names (b n : Nat) (D : DataW Unit) (w : World) (hd : Dir w b n D) (hn : n ≤ 1000000000) :
    Calls Try.prog 45 #[.map (some b)] w fun e w' => ∃ (va : Option Addr) (vc : Nat), e = .returned (.slice va (namesOf D).length vc) ∧ (namesOf D).length ≤ vc ∧ (∀ j, j < (namesOf D).length → ∃ q, va = some ⟨q, 0, none⟩ ∧ w.heap.size < q ∧ w'.cell? ⟨q, j, none⟩ = some (.string ((namesOf D).getD j ⟨#[]⟩))) ∧ (∀ j, j < (namesOf D).length → ((namesOf D).getD j ⟨#[]⟩).size ≤ maxLen) ∧ (namesOf D = [] → va = none ∧ vc = 0) ∧ Below w.heap.size w w' := by
  have hle := strKeys_le hd Try.underlying9
  refine (rising_any b n D w hd hn).mono ?_
  rintro e w' ⟨v, ss, rfl, h1, h2, h3, h4⟩
  have hms : (ss.mergeSort fun x y => decide (x ≤ y)) = (strKeys D).mergeSort leB := mergeSort_of_perm h1
  rw [hms] at h2
  have hlen : ss.length = (namesOf D).length := by
    unfold namesOf
    rw [List.length_map, List.length_mergeSort, h1.length_eq]
  have henc : ∀ l : List (List UInt8), l.map encStr = (l.map toBA).map Value.string := fun l => by
    rw [List.map_map]
    apply List.map_congr_left
    intro x _
    rfl
  have hbound : ∀ j, j < (namesOf D).length → ((namesOf D).getD j ⟨#[]⟩).size ≤ maxLen := fun j hj => by
    rw [List.getD_eq_getElem?_getD, List.getElem?_eq_getElem hj, Option.getD_some]
    have hm : (namesOf D)[j] ∈ namesOf D := List.getElem_mem hj
    obtain ⟨x, hx, he⟩ := List.mem_map.1 hm
    rw [← he]
    have := hle x ((List.mergeSort_perm _ _).mem_iff.1 hx)
    simpa [toBA, ByteArray.size] using this
  rw [henc] at h2
  change w'.ownsRow (w.heap.size + 1) 9 1 v ss.length ((namesOf D).map Value.string) at h2
  rcases id h2 with ⟨hl, ⟨rfl, hv⟩ | ⟨q, c, cur, rfl, hq, hh, hc, hx, hy, ht⟩⟩
  · have h0 : (namesOf D).length = 0 := by
      rw [← hlen]; exact hv
    refine ⟨none, 0, by rw [h0], by omega, fun j hj => by omega, hbound, fun _ => ⟨rfl, rfl⟩, h4⟩
  · refine ⟨_, c, by rw [hlen], by omega, fun j hj => ⟨q, rfl, hq, ?_⟩, hbound, fun e => ?_, h4⟩
    · rw [cell_of_row w' q j cur 9 (0, 0) hh, List.getD_eq_getElem?_getD, List.getElem?_eq_getElem hj, Option.getD_some]
      have h5 := congrArg (fun l => l[j]?) ht
      simp [hlen, hj] at h5
      rw [← Array.getElem?_toList]
      simpa using h5
    · have : ss = [] := by
        have h0 : ss.length = 0 := by rw [hlen, e]; rfl
        simpa using h0
      have := h3.2 this
      cases this
end Go.Proofs.Ytefjljdgdoklmaa

/-
  What a file system tells, and what is set in it.
-/
namespace Go.Proofs.Ytefjljdgdoklmaa
open Go.RowKit Go.Maps

def Disk.size (d : Disk) (s : ByteArray) : Int := match fileOf d.names s with
  | none => -1
  | some g => match d.files g with
    | none => -1
    | some x => (x.bytes.length : Int)

set_option maxRecDepth 100000 in
set_option maxHeartbeats 1000000 in
theorem size_rep (A : Nat → Prop) (f : Nat) (d : Disk) (name : ByteArray) (w : World) (h : Rep A w f d) (hnm : name.size ≤ maxLen) :
    Calls Try.prog 31 #[.pointer (some ⟨f, 0, none⟩), .string name] w fun e w' => e = .returned (.int .i64 (d.size name)) ∧ w' = w := by
  obtain ⟨bn, bs, ch, fv, h⟩ := h
  have c1 : w.cell? ⟨f, 1, none⟩ = some (.map (some bn)) := cell_of_row w f 1 _ 57 (0, 0) h.cells
  have hl := h.names.look' name hnm
  cases e : fileOf d.names name with
  | none =>
    have hsz : d.size name = -1 := by unfold Disk.size; rw [e]
    rw [e] at hl
    simp only [ptrOf] at hl
    rw [hsz]
    clear h e hsz
    go_enter Try.func31, Try.ntmps31
    go_wp2_with fail
    refine (made_yes f bn _ c1).mono ?_
    rintro e w1 ⟨rfl, rfl⟩
    go_wp2_with fail
    go_ret
    exact ⟨rfl, rfl⟩
  | some g =>
    obtain ⟨x, hx⟩ := h.refs.names name g e
    have hsz : d.size name = (x.bytes.length : Int) := by unfold Disk.size; rw [e]; simp only [hx]
    have hF := h.files.each g x hx
    obtain ⟨fa, fc, hfv⟩ := hF.own.slice
    have hc := hF.cell
    rw [hfv] at hc
    have c0 : w.cell? ⟨g, 0, none⟩ = some (.slice fa x.bytes.length fc) := cell_of_row w g 0 _ 70 (0, 0) hc
    rw [e] at hl
    simp only [ptrOf] at hl
    rw [hsz]
    clear h e hsz hF hfv hc hx
    generalize x.bytes.length = L at *
    go_enter Try.func31, Try.ntmps31
    go_wp2_with fail
    refine (made_yes f bn _ c1).mono ?_
    rintro e w1 ⟨rfl, rfl⟩
    go_wp2_with fail
    go_ret
    exact ⟨rfl, rfl⟩

set_option maxRecDepth 100000 in
set_option maxHeartbeats 1000000 in
theorem names_rep (A : Nat → Prop) (f : Nat) (d : Disk) (w : World) (h : Rep A w f d) (hn : Maps.size d.names ≤ 1000000) :
    Calls Try.prog 12 #[.pointer (some ⟨f, 0, none⟩)] w fun e w' => ∃ (va : Option Addr) (vc : Nat), e = .returned (.slice va (namesOf d.names).length vc) ∧ (∀ j, j < (namesOf d.names).length → ∃ q, va = some ⟨q, 0, none⟩ ∧ w.heap.size < q ∧ w'.cell? ⟨q, j, none⟩ = some (.string ((namesOf d.names).getD j ⟨#[]⟩))) ∧ Below w.heap.size w w' := by
  obtain ⟨bn, bs, ch, fv, h⟩ := h
  have c1 : w.cell? ⟨f, 1, none⟩ = some (.map (some bn)) := cell_of_row w f 1 _ 57 (0, 0) h.cells
  have HD := hide h.names
  clear h
  go_enter Try.func12, Try.ntmps12
  go_wp2_with fail
  refine (made_yes f bn _ c1).mono ?_
  rintro e w1 ⟨rfl, rfl⟩
  go_wp2_with fail
  refine (rising_names bn (Maps.size d.names) d.names _ HD.out (by omega)).mono ?_
  rintro e w2 ⟨va, vc, rfl, r1, r2, r3, r4, r5⟩
  have R2 := hide r2
  have R5 := hide r5
  clear r2 r3 r4 r5
  generalize hLn : (namesOf d.names).length = Ln at *
  go_wp2_with fail
  go_ret
  subst hLn
  exact ⟨va, vc, rfl, R2.out, R5.out⟩

set_option maxRecDepth 100000 in
set_option maxHeartbeats 1000000 in
theorem used_rep (A : Nat → Prop) (f : Nat) (d : Disk) (w : World) (h : Rep A w f d) : Calls Try.prog 32 #[.pointer (some ⟨f, 0, none⟩)] w fun e w' => e = .returned (.int .i64 d.used) ∧ w' = w := by
  obtain ⟨bn, bs, ch, fv, h⟩ := h
  have c1 : w.cell? ⟨f, 1, none⟩ = some (.map (some bn)) := cell_of_row w f 1 _ 57 (0, 0) h.cells
  have c4 : w.cell? ⟨f, 4, none⟩ = some (.int .i64 d.used) := cell_of_row w f 4 _ 57 (0, 0) h.cells
  clear h
  go_enter Try.func32, Try.ntmps32
  go_wp2_with fail
  refine (made_yes f bn _ c1).mono ?_
  rintro e w1 ⟨rfl, rfl⟩
  go_wp2_with fail
  go_ret
  exact ⟨rfl, rfl⟩
set_option maxRecDepth 100000 in
set_option maxHeartbeats 1000000 in
theorem ops_rep (A : Nat → Prop) (f : Nat) (d : Disk) (w : World) (h : Rep A w f d) : Calls Try.prog 33 #[.pointer (some ⟨f, 0, none⟩)] w fun e w' => e = .returned (.int .i64 d.ops) ∧ w' = w := by
  obtain ⟨bn, bs, ch, fv, h⟩ := h
  have c1 : w.cell? ⟨f, 1, none⟩ = some (.map (some bn)) := cell_of_row w f 1 _ 57 (0, 0) h.cells
  have c4 : w.cell? ⟨f, 7, none⟩ = some (.int .i64 d.ops) := cell_of_row w f 7 _ 57 (0, 0) h.cells
  clear h
  go_enter Try.func33, Try.ntmps33
  go_wp2_with fail
  refine (made_yes f bn _ c1).mono ?_
  rintro e w1 ⟨rfl, rfl⟩
  go_wp2_with fail
  go_ret
  exact ⟨rfl, rfl⟩
set_option maxRecDepth 100000 in
set_option maxHeartbeats 1000000 in
theorem on_rep (A : Nat → Prop) (f : Nat) (d : Disk) (w : World) (h : Rep A w f d) : Calls Try.prog 18 #[.pointer (some ⟨f, 0, none⟩)] w fun e w' => e = .returned (.bool d.on) ∧ w' = w := by
  obtain ⟨bn, bs, ch, fv, h⟩ := h
  have c1 : w.cell? ⟨f, 1, none⟩ = some (.map (some bn)) := cell_of_row w f 1 _ 57 (0, 0) h.cells
  have c4 : w.cell? ⟨f, 6, none⟩ = some (.bool d.on) := cell_of_row w f 6 _ 57 (0, 0) h.cells
  clear h
  generalize d.on = on at *
  go_enter Try.func18, Try.ntmps18
  go_wp2_with fail
  refine (made_yes f bn _ c1).mono ?_
  rintro e w1 ⟨rfl, rfl⟩
  go_wp2_with fail
  go_ret
  exact ⟨rfl, rfl⟩
set_option maxRecDepth 100000 in
set_option maxHeartbeats 1000000 in
theorem fuse_rep (A : Nat → Prop) (f : Nat) (d : Disk) (n : Int) (w : World) (h : Rep A w f d) : Calls Try.prog 17 #[.pointer (some ⟨f, 0, none⟩), .int .i64 n] w fun e w' => e = .returned (.int .i64 0) ∧ Rep A w' f { d with fuse := n } ∧ Turns A w w' := by
  obtain ⟨bn, bs, ch, fv, h⟩ := h
  have c1 : w.cell? ⟨f, 1, none⟩ = some (.map (some bn)) := cell_of_row w f 1 _ 57 (0, 0) h.cells
  have c8 : w.cell? ⟨f, 8, none⟩ = some (.int .i64 d.fuse) := cell_of_row w f 8 _ 57 (0, 0) h.cells
  have z8 : w.frozen? ⟨f, 8, none⟩ = false := frozen_of_row w f 8 _ 57 h.cells
  have t := (Tick.refl h.cells).set 8 (.int .i64 n)
  have FIN : Hid (Rep A (w.setCell ⟨f, 8, none⟩ (.int .i64 n)) f { d with fuse := n } ∧ Turns A w (w.setCell ⟨f, 8, none⟩ (.int .i64 n))) :=
    ⟨⟨bn, bs, ch, fv, h.turn (Turns.of_tick t) t.1 rfl rfl rfl rfl⟩, (Turns.of_tick t).mono fun k _ e => by rw [e]; exact h.af⟩
  clear h t
  go_enter Try.func17, Try.ntmps17
  go_wp2_with fail
  refine (made_yes f bn _ c1).mono ?_
  rintro e w1 ⟨rfl, rfl⟩
  go_wp2_with fail
  go_ret
  exact ⟨rfl, FIN.out⟩
set_option maxRecDepth 100000 in
set_option maxHeartbeats 1000000 in
theorem fault_bad (A : Nat → Prop) (f : Nat) (d : Disk) (n z : Int) (w : World) (h : Rep A w f d) (h7 : z ≠ 7) (h8 : z ≠ 8) : Calls Try.prog 19 #[.pointer (some ⟨f, 0, none⟩), .int .i64 n, .int .i64 z] w fun e w' => e = .returned (.int .i64 2) ∧ w' = w := by
  obtain ⟨bn, bs, ch, fv, h⟩ := h
  have c1 : w.cell? ⟨f, 1, none⟩ = some (.map (some bn)) := cell_of_row w f 1 _ 57 (0, 0) h.cells
  have g7 : (z != 7) = true := by rw [bne_iff_ne]; exact h7
  have g8 : (z != 8) = true := by rw [bne_iff_ne]; exact h8
  clear h
  go_enter Try.func19, Try.ntmps19
  go_wp2_with fail
  refine (made_yes f bn _ c1).mono ?_
  rintro e w1 ⟨rfl, rfl⟩
  go_wp2_with fail
  go_ret
  exact ⟨rfl, rfl⟩
set_option maxRecDepth 100000 in
set_option maxHeartbeats 1000000 in
theorem fault_rep (A : Nat → Prop) (f : Nat) (d : Disk) (n z : Int) (w : World) (h : Rep A w f d) (hz : z = 7 ∨ z = 8) : Calls Try.prog 19 #[.pointer (some ⟨f, 0, none⟩), .int .i64 n, .int .i64 z] w fun e w' => e = .returned (.int .i64 0) ∧ Rep A w' f { d with fault := n, fail := z } ∧ Turns A w w' := by
  obtain ⟨bn, bs, ch, fv, h⟩ := h
  have c1 : w.cell? ⟨f, 1, none⟩ = some (.map (some bn)) := cell_of_row w f 1 _ 57 (0, 0) h.cells
  have c8 : w.cell? ⟨f, 9, none⟩ = some (.int .i64 d.fault) := cell_of_row w f 9 _ 57 (0, 0) h.cells
  have z8 : w.frozen? ⟨f, 9, none⟩ = false := frozen_of_row w f 9 _ 57 h.cells
  have c9 : w.cell? ⟨f, 10, none⟩ = some (.int .i64 d.fail) := cell_of_row w f 10 _ 57 (0, 0) h.cells
  have z9 : w.frozen? ⟨f, 10, none⟩ = false := frozen_of_row w f 10 _ 57 h.cells
  have t := ((Tick.refl h.cells).set 9 (.int .i64 n)).set 10 (.int .i64 z)
  have FIN : Hid (Rep A ((w.setCell ⟨f, 9, none⟩ (.int .i64 n)).setCell ⟨f, 10, none⟩ (.int .i64 z)) f { d with fault := n, fail := z } ∧ Turns A w ((w.setCell ⟨f, 9, none⟩ (.int .i64 n)).setCell ⟨f, 10, none⟩ (.int .i64 z))) :=
    ⟨⟨bn, bs, ch, fv, h.turn (Turns.of_tick t) t.1 rfl rfl rfl rfl⟩, (Turns.of_tick t).mono fun k _ e => by rw [e]; exact h.af⟩
  clear h t
  rcases hz with rfl | rfl
  all_goals
    go_enter Try.func19, Try.ntmps19
    go_wp2_with fail
    refine (made_yes f bn _ c1).mono ?_
    rintro e w1 ⟨rfl, rfl⟩
    go_wp2_with fail
    go_ret
    exact ⟨rfl, FIN.out⟩
end Go.Proofs.Ytefjljdgdoklmaa

/-
  Turn of any file system.
-/
namespace Go.Proofs.Ytefjljdgdoklmaa
open Go.RowKit Go.Maps

set_option maxRecDepth 100000 in
set_option maxHeartbeats 1000000 in
theorem turn_none (f bn : Nat) (D : DataW Unit) (n : Nat) (name : ByteArray) (at_ : Int) (b : BitVec 8) (w : World) (c1 : w.cell? ⟨f, 1, none⟩ = some (.map (some bn))) (hd : Dir w bn n D) (hnm : name.size ≤ maxLen) (hg : fileOf D name = none) :
    Calls Try.prog 30 #[.pointer (some ⟨f, 0, none⟩), .string name, .int .i64 at_, .int .u8 (b.toNat : Int)] w fun e w' => e = .returned (.int .i64 6) ∧ w' = w := by
  have hl := hd.look' name hnm
  rw [hg] at hl
  simp only [ptrOf] at hl
  clear hd hg
  go_enter Try.func30, Try.ntmps30
  go_wp2_with fail
  refine (made_yes f bn _ c1).mono ?_
  rintro e w1 ⟨rfl, rfl⟩
  go_wp2_with fail
  go_ret
  exact ⟨rfl, rfl⟩

set_option maxRecDepth 100000 in
set_option maxHeartbeats 1000000 in
theorem turn_out (f bn g L fc : Nat) (fa : Option Addr) (D : DataW Unit) (n : Nat) (name : ByteArray) (at_ : Int) (b : BitVec 8) (w : World) (c1 : w.cell? ⟨f, 1, none⟩ = some (.map (some bn))) (hd : Dir w bn n D) (hnm : name.size ≤ maxLen) (hg : fileOf D name = some g) (c0 : w.cell? ⟨g, 0, none⟩ = some (.slice fa L fc)) (ho : at_ < 0 ∨ (L : Int) ≤ at_) :
    Calls Try.prog 30 #[.pointer (some ⟨f, 0, none⟩), .string name, .int .i64 at_, .int .u8 (b.toNat : Int)] w fun e w' => e = .returned (.int .i64 2) ∧ w' = w := by
  have hl := hd.look' name hnm
  rw [hg] at hl
  simp only [ptrOf] at hl
  clear hd hg
  rcases ho with ho | ho
  · have x1 : decide (at_ < 0) = true := by simpa using ho
    go_enter Try.func30, Try.ntmps30
    go_wp2_with fail
    refine (made_yes f bn _ c1).mono ?_
    rintro e w1 ⟨rfl, rfl⟩
    go_wp2_with fail
    go_ret
    exact ⟨rfl, rfl⟩
  · have x1 : decide (at_ < 0) = false := by simp; omega
    have x2 : decide (at_ ≥ (L : Int)) = true := by simpa using ho
    go_enter Try.func30, Try.ntmps30
    go_wp2_with fail
    refine (made_yes f bn _ c1).mono ?_
    rintro e w1 ⟨rfl, rfl⟩
    go_wp2_with fail
    go_ret
    exact ⟨rfl, rfl⟩

theorem xor_b8 (x y : BitVec 8) : bits .xor .u8 (x.toNat : Int) (y.toNat : Int) = ((x ^^^ y).toNat : Int) := by
  have ho : ∀ z : BitVec 8, BitVec.ofInt 8 (z.toNat : Int) = z := fun z => by
    apply BitVec.eq_of_toNat_eq
    rw [BitVec.toNat_ofInt]
    have := z.isLt
    simp
    omega
  show IntKind.u8.wrap ((BitVec.ofInt 8 (x.toNat : Int) ^^^ BitVec.ofInt 8 (y.toNat : Int)).toNat : Int) = _
  rw [ho, ho]
  generalize x ^^^ y = z
  have := z.isLt
  simp only [IntKind.wrap, IntKind.bits, IntKind.signed]
  simp
  omega

set_option maxRecDepth 100000 in
set_option maxHeartbeats 1000000 in
theorem turn_in (f bn g L fc q k : Nat) (x : BitVec 8) (cs : Array Value) (D : DataW Unit) (n : Nat) (name : ByteArray) (b : BitVec 8) (w : World) (c1 : w.cell? ⟨f, 1, none⟩ = some (.map (some bn))) (hd : Dir w bn n D) (hnm : name.size ≤ maxLen) (hg : fileOf D name = some g) (c0 : w.cell? ⟨g, 0, none⟩ = some (.slice (some ⟨q, 0, none⟩) L fc)) (hk : k < L) (hq : w.heap[q]? = some (.cells cs 5 (0, 0))) (hc : cs[k]? = some (.int .u8 (x.toNat : Int))) :
    Calls Try.prog 30 #[.pointer (some ⟨f, 0, none⟩), .string name, .int .i64 (k : Nat), .int .u8 (b.toNat : Int)] w fun e w' => e = .returned (.int .i64 0) ∧ Tick w w' q 5 (cs.setIfInBounds k (.int .u8 ((x ^^^ b).toNat : Int))) := by
  have hl := hd.look' name hnm
  rw [hg] at hl
  simp only [ptrOf] at hl
  have T := hide ((Tick.refl hq).set k (.int .u8 ((x ^^^ b).toNat : Int)))
  have ck : w.cell? ⟨q, k, none⟩ = some (.int .u8 (x.toNat : Int)) := (cell_of_row w q k _ 5 (0, 0) hq).trans hc
  have zk : w.frozen? ⟨q, k, none⟩ = false := frozen_of_row w q k _ 5 hq
  have hx := xor_b8 x b
  have hbx := x.isLt
  have x1 : decide ((k : Int) < 0) = false := by simp
  have x2 : decide ((k : Int) ≥ (L : Int)) = false := by simp; omega
  clear hd hg hq hc
  generalize x ^^^ b = y at *
  go_enter Try.func30, Try.ntmps30
  go_wp2_with fail
  refine (made_yes f bn _ c1).mono ?_
  rintro e w1 ⟨rfl, rfl⟩
  go_wp2_with fail
  go_ret
  exact ⟨rfl, T.out⟩

/-- The bytes with one of them turned. -/
def turnAt (bs : List (BitVec 8)) (k : Nat) (b : BitVec 8) : List (BitVec 8) := bs.modify k (· ^^^ b)
def Disk.turned (d : Disk) (g : Nat) (x : Fil) (k : Nat) (b : BitVec 8) : Disk := d.setF g ⟨turnAt x.bytes k b, x.synced⟩

theorem turn_rep (A : Nat → Prop) (f : Nat) (d : Disk) (name : ByteArray) (at_ : Int) (b : BitVec 8) (w : World) (h : Rep A w f d) (hnm : name.size ≤ maxLen) (R : Ending → World → Prop)
    (HN : fileOf d.names name = none → R (.returned (.int .i64 6)) w)
    (HA : ∀ g x, fileOf d.names name = some g → d.files g = some x → (at_ < 0 ∨ (x.bytes.length : Int) ≤ at_) → R (.returned (.int .i64 2)) w)
    (HS : ∀ g x (k : Nat) w', fileOf d.names name = some g → d.files g = some x → at_ = (k : Int) → k < x.bytes.length → Rep A w' f (d.turned g x k b) → Turns A w w' → R (.returned (.int .i64 0)) w') :
    Calls Try.prog 30 #[.pointer (some ⟨f, 0, none⟩), .string name, .int .i64 at_, .int .u8 (b.toNat : Int)] w R := by
  obtain ⟨bn, bs, ch, fv, h⟩ := h
  have c1 : w.cell? ⟨f, 1, none⟩ = some (.map (some bn)) := cell_of_row w f 1 _ 57 (0, 0) h.cells
  cases e : fileOf d.names name with
  | none =>
    refine (turn_none f bn _ _ name at_ b w c1 h.names hnm e).mono ?_
    rintro _ _ ⟨rfl, rfl⟩
    exact HN e
  | some g =>
    obtain ⟨x, hx⟩ := h.refs.names name g e
    have hF := h.files.each g x hx
    by_cases ho : at_ < 0 ∨ (x.bytes.length : Int) ≤ at_
    · obtain ⟨fa, fc, hfv⟩ := hF.own.slice
      have hc := hF.cell
      rw [hfv] at hc
      refine (turn_out f bn g _ fc fa _ _ name at_ b w c1 h.names hnm e (cell_of_row w g 0 _ 70 (0, 0) hc) ho).mono ?_
      rintro _ _ ⟨rfl, rfl⟩
      exact HA g x e hx ho
    · obtain ⟨k, rfl⟩ : ∃ k : Nat, at_ = (k : Int) := ⟨at_.toNat, by omega⟩
      have hk : k < x.bytes.length := by omega
      have ho' := hF.own
      rcases ho' with ⟨e1, _⟩ | ⟨q, c, n, hfv, hn, hnc, cs, hq, hroom, hcs⟩
      · rw [e1] at hk; cases hk
      · have hc := hF.cell
        rw [hfv] at hc
        have hck : cs[k]? = some (.int .u8 ((x.bytes[k]).toNat : Int)) := by
          rw [hcs k (by simpa [cellsOf] using hk)]
          simp [cellsOf, hk]
        refine (turn_in f bn g n c q k (x.bytes[k]) cs _ _ name b w c1 h.names hnm e (cell_of_row w g 0 _ 70 (0, 0) hc) (by omega) hq hck).mono ?_
        rintro _ w2 ⟨rfl, k1⟩
        have u2 := Turns.of_tick k1
        have hin : inRow (fv g) q := ⟨n, c, hfv⟩
        have hrow := h.row hx hin
        have hgq : ¬ g = q := fun e => by
          have := hrow.2.2.2.2.1
          rw [← e, hx] at this
          cases this
        have hR : RepAt A w2 f (d.turned g x k b) bn bs ch _ := h.filedTo (A' := A) (fun _ hk => hk) (d' := d.turned g x k b) (g := g) (x := x) (x' := ⟨turnAt x.bytes k b, x.synced⟩) (v' := fv g) hx (u2.heap h.cells (fun e => hrow.1 e.symm)) (u2.heap hF.cell hgq) (by
            refine .inr ⟨q, c, n, hfv, ?_, hnc, _, k1.1, ?_, fun j hj => ?_⟩
            · simpa [turnAt] using hn
            · simpa using hroom
            · have hj' : j < x.bytes.length := by simpa [cellsOf, turnAt] using hj
              have := hcs j (by simpa [cellsOf] using hj')
              rw [Array.getElem?_setIfInBounds]
              by_cases ejk : k = j
              · subst ejk
                have hks : k < cs.size := by
                  have := (Array.getElem?_eq_some_iff.mp hck).1
                  exact this
                simp [cellsOf, turnAt, hk, hks]
              · rw [if_neg ejk, this]
                simp [cellsOf, turnAt, ejk]) (u2.mono fun k _ e => .inr (.inr (by rw [e]; exact hin))) (fun k hk => .inl hk) rfl rfl rfl rfl
        exact HS g x k w2 e hx rfl hk ⟨bn, bs, ch, _, hR⟩ (u2.mono fun k _ e => by rw [e]; exact hF.ar q hin)
end Go.Proofs.Ytefjljdgdoklmaa

/-
  A crash of any file system: the walk.
-/
namespace Go.Proofs.Ytefjljdgdoklmaa
open Go.RowKit Go.Maps Go.Sort

/-- The blocks of a file system in the midst of a crash. -/
def Mid (A : Nat → Prop) (w : World) (b : Nat) : Nat → Prop := fun k => (A k ∧ k < w.heap.size) ∨ k = b

theorem crashStep_some (S : DataW Unit) (st : (Nat → Option Fil) × Int) (s : ByteArray) (kv : Int) (g : Nat) (x : Fil) (hs : fileOf S s = some g) (hx : st.1 g = some x) : crashStep S st (s, kv) = (fun k => if k = g then some (x.crash kv) else st.1 k, st.2 + ((x.crash kv).bytes.length : Int)) := by
  unfold crashStep
  simp only [hs, hx]

theorem midst_step (d : Disk) (S : DataW Unit) (l : List (ByteArray × Int)) (i : Nat) (s : ByteArray) (kv : Int) (g : Nat) (x : Fil) (hl : l[i]? = some (s, kv)) (hs : fileOf S s = some g) (hx : (d.midst S (l.take i)).files g = some x) :
    (d.midst S (l.take (i + 1))).files = ((d.midst S (l.take i)).setF g (x.crash kv)).files ∧ (d.midst S (l.take (i + 1))).used = (d.midst S (l.take i)).used + ((x.crash kv).bytes.length : Int) := by
  have hx' : ((l.take i).foldl (crashStep S) (d.files, 0)).1 g = some x := hx
  have hst : (l.take (i + 1)).foldl (crashStep S) (d.files, 0) = crashStep S ((l.take i).foldl (crashStep S) (d.files, 0)) (s, kv) := by
    rw [List.take_add_one, hl]
    simp
  unfold Disk.midst Disk.setF
  simp only [hst]
  generalize (l.take i).foldl (crashStep S) (d.files, 0) = st at *
  rw [crashStep_some S st s kv g x hs hx']
  exact ⟨rfl, rfl⟩

set_option maxRecDepth 100000 in
set_option maxHeartbeats 4000000 in
theorem crash_rep (A : Nat → Prop) (f : Nat) (d : Disk) (dir : Int) (ka : Option Addr) (kn kc : Nat) (ks : List Int) (w : World) (h : Rep A w f d) (hn : Num d) (d1 : dir ≤ 9223372036854775807) (d2 : -9223372036854775808 ≤ dir) (hks : Ints w ka kn ks) (hkb : ∀ z, z ∈ ks → z ≤ 9223372036854775807 ∧ -9223372036854775808 ≤ z) (hka : ∀ q o, ka = some ⟨q, o, none⟩ → ¬ A q) :
    Calls Try.prog 11 #[.pointer (some ⟨f, 0, none⟩), .int .i64 dir, .slice ka kn kc] w fun e w' => e = .returned (.int .i64 0) ∧ Rep (Grow A w) w' f (d.crashed dir ks) ∧ Turns A w w' := by
  obtain ⟨bn, bs, ch, fv, h⟩ := h
  obtain ⟨ca, cc, rfl⟩ := h.chs.len
  obtain ⟨k, hk, hkl⟩ : ∃ k : Nat, (k : Int) = max dir 0 % ((d.changes.length : Int) + 1) ∧ k ≤ d.changes.length := by
    have e2 := Int.emod_lt_of_pos (max dir 0) (show (0 : Int) < (d.changes.length : Int) + 1 by omega)
    have e1 := Int.emod_nonneg (max dir 0) (show (d.changes.length : Int) + 1 ≠ 0 by omega)
    exact ⟨(max dir 0 % ((d.changes.length : Int) + 1)).toNat, by omega, by omega⟩
  have hS : (d.changes.take k).foldl applyD d.synced = d.left dir := by
    unfold Disk.left
    rw [← hk]
    rfl
  have hfw := lt_of_heap h.cells
  have hsw := h.synced.lt
  have hc : w.heap[f]? = some (.cells (fsCells d.limit (.map (some bn)) (.map (some bs)) (.slice ca d.changes.length cc) d.used d.lost d.on d.ops d.fuse d.fault d.fail) 57 (0, 0)) := h.cells
  have c1 : w.cell? ⟨f, 1, none⟩ = some (.map (some bn)) := cell_of_row w f 1 _ 57 (0, 0) hc
  have c3 : w.cell? ⟨f, 3, none⟩ = some (.slice ca d.changes.length cc) := cell_of_row w f 3 _ 57 (0, 0) hc
  have hnl := hn.changes
  have hns := hn.synced
  have H := hide h
  have HC := hide hc
  have HN := hide hn
  have HK := hide hk
  have HS := hide hS
  have HKS := hide hks
  have HKB := hide hkb
  have HKA := hide hka
  clear h hc hn hk hS hks hkb hka
  generalize hS' : d.left dir = S at *
  generalize hll : d.changes.length = ll at *
  go_enter Try.func11, Try.ntmps11
  go_wp2_with fail
  refine (made_yes f bn _ c1).mono ?_
  rintro e w1 ⟨rfl, rfl⟩
  go_wp2_with fail
  refine (within_any dir (ll : Nat) _ (by omega) (by omega) d1 d2).mono ?_
  rintro e w2 ⟨rfl, rfl⟩
  rw [← HK.out]
  go_wp2_with fail
  refine (settle_any f bs (Maps.size d.synced) k d.synced d.changes d.limit d.used d.lost d.ops d.fuse d.fault d.fail d.on (.map (some bn)) _ _ HC.out H.out.synced H.out.chs (by omega) (by omega) (by omega) HN.out.text).mono ?_
  rintro e w3 ⟨⟨v3, rfl⟩, s1, s2, s3⟩
  rw [HS.out] at s2
  have S1 := hide s1
  have S2 := hide s2.tight
  have hsz : Maps.size S ≤ 1000000000 := by have := World.ownsMap.size_le s2; omega
  have S3 := hide s3
  have e2 : w3.cell? ⟨f, 2, none⟩ = some (.map (some bs)) := cell_of_row w3 f 2 _ 57 (0, 0) s1
  clear s1 s2 s3 c1 c3
  go_wp2_with fail
  refine (mapclone_any bs (Maps.size S) S _ S2.out).mono ?_
  rintro e w4 ⟨rfl, m1, m2⟩
  have A1 := hide (m2.heap S1.out (fun x => x))
  have A2 := hide (S2.out.keep m2 (fun x => x))
  have A3 := hide m1
  have A4 := hide (S3.out.andThen m2 (fun _ _ x => x.elim))
  have hbn : w2.heap.size ≤ w3.heap.size := S3.out.size
  have hbf : w3.heap.size ≠ f := by omega
  have hbb : w3.heap.size ≠ bs := fun e => by omega
  have hsz4 : w3.heap.size < w4.heap.size := A3.out.lt
  have z1 : w4.frozen? ⟨f, 1, none⟩ = false := frozen_of_row w4 f 1 _ 57 A1.out
  have z4 : w4.frozen? ⟨f, 4, none⟩ = false := frozen_of_row w4 f 4 _ 57 A1.out
  have z5 : w4.frozen? ⟨f, 5, none⟩ = false := frozen_of_row w4 f 5 _ 57 A1.out
  have y1 : w4.cell? ⟨f, 1, none⟩ = some (.map (some bn)) := cell_of_row w4 f 1 _ 57 (0, 0) A1.out
  have y4 : w4.cell? ⟨f, 4, none⟩ = some (.int .i64 d.used) := cell_of_row w4 f 4 _ 57 (0, 0) A1.out
  have y5 : w4.cell? ⟨f, 5, none⟩ = some (.int .i64 d.lost) := cell_of_row w4 f 5 _ 57 (0, 0) A1.out
  clear m1 m2 e2
  generalize hbn' : w3.heap.size = bn' at *
  go_wp2_with fail
  have t5 := (((Tick.refl A1.out).set 1 (.map (some bn'))).set 4 (.int .i64 0)).set 5 (.int .i64 0)
  have u5 := Turns.of_tick t5
  have T5 : Hid ((((w4.setCell ⟨f, 1, none⟩ (.map (some bn'))).setCell ⟨f, 4, none⟩ (.int .i64 0)).setCell ⟨f, 5, none⟩ (.int .i64 0)).heap[f]? = some (.cells (fsCells d.limit (.map (some bn')) (.map (some bs)) (.slice none 0 0) 0 0 d.on d.ops d.fuse d.fault d.fail) 57 (0, 0))) := t5.1
  have D5 := hide (A3.out.keep u5 hbf)
  have E5 := hide (A2.out.keep u5 (fun e => H.out.fs e.symm))
  have U5 := hide (A4.out.trans (u5.mono fun _ _ e => .inl e))
  have hsz5 : w4.heap.size ≤ (((w4.setCell ⟨f, 1, none⟩ (.map (some bn'))).setCell ⟨f, 4, none⟩ (.int .i64 0)).setCell ⟨f, 5, none⟩ (.int .i64 0)).heap.size := u5.size
  clear t5 u5 z1 z4 z5 y1 y4 y5 A1 A2 A3 A4 S1 S2 S3
  generalize ((w4.setCell ⟨f, 1, none⟩ (.map (some bn'))).setCell ⟨f, 4, none⟩ (.int .i64 0)).setCell ⟨f, 5, none⟩ (.int .i64 0) = w5 at *
  have hR5 : RepAt (Mid A w2 bn') w5 f (d.midst S []) bn' bs (.slice none 0 0) fv := by
    have h := H.out
    have hfull : Full S := by rw [← HS.out]; exact h.refs.fs.fold _
    have href : ∀ s g, fileOf S s = some g → ∃ x, d.files g = some x := fun s g hs => by
      rw [← HS.out] at hs
      rcases fileOf_folded _ h.synced.isMap hs with hs | ⟨c, q1, q2⟩
      · exact h.refs.synced s g hs
      · exact h.refs.changes c (List.mem_of_mem_take q1) g q2
    refine ⟨T5.out, D5.out, E5.out, .inl ⟨rfl, rfl⟩, hbb, .inl ⟨h.af, hfw⟩, .inr rfl, .inl ⟨h.ay, hsw⟩, fun q hq => ?_, ⟨fun g x hg => ?_, fun g g' x x' q hg hg' => h.files.apart g g' x x' q hg hg'⟩, ⟨hfull, hfull, href, href, fun c hc => by cases hc⟩⟩
    · obtain ⟨_, _, e⟩ := hq
      cases e
    · have hg' : d.files g = some x := hg
      refine ((h.files.each g x hg').mono (A' := Mid A w2 bn') fun q hq hA => .inl ⟨hA, hq⟩).keep U5.out (fun e => ?_) (fun q hq e => ?_)
      · rcases e with e | e
        · exact (h.file hg').1 e
        · exact (h.file hg').2.2.1 e
      · rcases e with e | e
        · exact (h.row hg' hq).1 e
        · exact (h.row hg' hq).2.2.1 e
  have HR5 := hide hR5
  have hfull : Full S := hR5.refs.fn
  have HFU := hide hfull
  have HKS5 := hide (HKS.out.keep U5.out (fun q o e hq => by
    have hna := HKA.out q o e
    rcases hq with hq | hq
    · rw [hq] at hna; exact hna H.out.af
    · rw [hq] at hna; exact hna H.out.ay))
  have HU5 : Hid (Turns A w2 w5) := U5.out.mono fun q _ e => by
    rcases e with e | e
    · rw [e]; exact H.out.af
    · rw [e]; exact H.out.ay
  have hb5 : bn' < w5.heap.size := by omega
  have hkn5 : ∀ q o, ka = some ⟨q, o, none⟩ → 0 < kn → q < w2.heap.size := fun q o e h0 => by
    obtain ⟨q', o', e1, e2⟩ := HKS.out.2 0 h0
    rw [e] at e1
    cases e1
    exact block_lt_of_cell e2
  have HKN := hide hkn5
  clear hR5 hfull T5 D5 E5 U5 hkn5
  refine (rising_names bn' (Maps.size S) S _ HR5.out.names (by omega)).mono ?_
  rintro e w6 ⟨va, vc, rfl, r1, r2, r3, r4, r5⟩
  have t6 : Turns (fun _ => False) w5 w6 := Turns.of_below r5 _
  have HR6 := hide (HR5.out.quiet t6)
  have HKS6 := hide (HKS5.out.keep t6 (fun _ _ _ x => x))
  have HROW := hide r2
  have HTX := hide r3
  have HU6 := hide (HU5.out.trans (t6.mono fun _ _ x => x.elim))
  have hL : (namesOf S).length ≤ 1000000000 := by
    have : (namesOf S).length = Maps.size S := by
      unfold namesOf
      rw [List.length_map, List.length_mergeSort]
      obtain ⟨es, rfl, _⟩ := HFU.out
      simp [strKeys, Maps.size]
    omega
  have hsz6 : w5.heap.size ≤ w6.heap.size := t6.size
  have hsz0 : w2.heap.size ≤ w5.heap.size := HU5.out.size
  clear r2 r3 r4 r5 t6 HR5 HKS5 HU5
  generalize hLn : (namesOf S).length = Ln at *
  go_wp2_with fail
  go_loopw [43] (fun iv wr => ∃ i : Nat, iv = .int .i64 (i : Nat) ∧ i ≤ Ln ∧ (∃ fv, RepAt (Mid A w2 bn') wr f (d.midst S ((crashList (namesOf S) ks).take i)) bn' bs (.slice none 0 0) fv) ∧ Turns (Mid A w2 bn') w6 wr) (fun iv _ => Ln - (intOf iv).toNat)
  case atStart => exact ⟨0, rfl, Nat.zero_le _, ⟨fv, HR6.out⟩, Turns.refl _ _⟩
  case round =>
    obtain ⟨i, rfl, hi, ⟨fv', hr⟩, ht⟩ := hrel
    have HR := hide hr
    have HT := hide ht
    clear hr ht
    by_cases hiL : i < Ln
    · have i1 : (i : Int) < (Ln : Int) := by omega
      have hiN : i < (namesOf S).length := by omega
      obtain ⟨qn, rfl, hqn, hcell⟩ := HROW.out i hiL
      have hgd : (namesOf S).getD i ⟨#[]⟩ = (namesOf S)[i] := by rw [List.getD_eq_getElem?_getD, List.getElem?_eq_getElem hiN, Option.getD_some]
      rw [hgd] at hcell
      have hcell' : wr.cell? ⟨qn, i, none⟩ = some (.string (namesOf S)[i]) := HT.out.cell hcell (fun e => by
        rcases e with e | e
        · have := e.2; simp only at this; omega
        · simp only at e; omega)
      have htx := HTX.out i hiL
      rw [hgd] at htx
      clear hgd
      have hmem : (namesOf S)[i] ∈ namesOf S := List.getElem_mem hiN
      have hat := crashList_at (namesOf S) ks i hiN
      generalize (namesOf S)[i] = s at *
      obtain ⟨g, hg⟩ := names_file HFU.out hmem
      obtain ⟨x, hx⟩ := HR.out.refs.names s g hg
      have hlk := HR.out.names.look' s htx
      rw [show fileOf (d.midst S ((crashList (namesOf S) ks).take i)).names s = some g from hg] at hlk
      simp only [ptrOf] at hlk
      obtain ⟨v1, v2, v3, _⟩ := crash_inv S ((crashList (namesOf S) ks).take i) (d.files, 0) HN.out.bytes (Int.le_refl _)
      have hxb := v1 g x hx
      have hub : 0 ≤ (d.midst S ((crashList (namesOf S) ks).take i)).used ∧ (d.midst S ((crashList (namesOf S) ks).take i)).used ≤ 1000000000 * 1073741824 := by
        refine ⟨v2, ?_⟩
        have : (((crashList (namesOf S) ks).take i).length : Int) ≤ 1000000000 := by rw [List.length_take]; omega
        have v3' : (d.midst S ((crashList (namesOf S) ks).take i)).used ≤ 0 + (((crashList (namesOf S) ks).take i).length : Int) * 1073741824 := v3
        omega
      obtain ⟨st1, st2⟩ := midst_step d S (crashList (namesOf S) ks) i s (ks.getD i 0) g x hat hg hx
      have hkv : ks.getD i 0 ≤ 9223372036854775807 ∧ -9223372036854775808 ≤ ks.getD i 0 := by
        rw [List.getD_eq_getElem?_getD]
        rcases Nat.lt_or_ge i ks.length with hl | hl
        · rw [List.getElem?_eq_getElem hl, Option.getD_some]
          exact HKB.out _ (List.getElem_mem hl)
        · rw [List.getElem?_eq_none hl, Option.getD_none]
          exact ⟨by decide, by decide⟩
      have ST1 := hide st1
      have ST2 := hide st2
      have HX := hide hx
      have b1 : wr.cell? ⟨f, 1, none⟩ = some (.map (some bn')) := cell_of_row wr f 1 _ 57 (0, 0) HR.out.cells
      clear st1 st2 v1 v2 v3 hx hat hmem hg hcell
      have hkn : kn = ks.length := HKS.out.1
      by_cases hik : i < kn
      · obtain ⟨q', o', rfl, hkc'⟩ := HKS6.out.2 i hik
        have hkcell : wr.cell? ⟨q', o' + i, none⟩ = some (.int .i64 (ks.getD i 0)) := HT.out.cell hkc' (fun e => by
          have h1 := HKN.out q' o' rfl (by omega)
          rcases e with e | e
          · exact HKA.out q' o' rfl e.1
          · simp only at e; omega)
        have i2 : (i : Int) < (kn : Int) := by omega
        clear hkc' hkn
        generalize ks.getD i 0 = kv at *
        have hlk := hlk
        go_wp2_with fail
        refine (fcrash_all g (fv' g) x kv wr (HR.out.files.each g x HX.out).cell (HR.out.files.each g x HX.out).own hxb.2 hxb.1 hkv.1 hkv.2).mono ?_
        rintro e w7 ⟨⟨v7, rfl⟩, fa, fm, fc, n1, n2, n3, n4, t7⟩
        have hgf := (HR.out.file HX.out).1
        have hcells7 := t7.heap HR.out.cells (fun e => hgf e.symm)
        have x0 : w7.cell? ⟨g, 0, none⟩ = some (.slice fa fm fc) := cell_of_row w7 g 0 _ 70 (0, 0) n1
        have x4 : w7.cell? ⟨f, 4, none⟩ = some (.int .i64 (d.midst S ((crashList (namesOf S) ks).take i)).used) := cell_of_row w7 f 4 _ 57 (0, 0) hcells7
        have z4 : w7.frozen? ⟨f, 4, none⟩ = false := frozen_of_row w7 f 4 _ 57 hcells7
        have hfm : fm ≤ 1073741824 := by
          have := crashN_le x kv hxb.2
          rw [n3]
          unfold Fil.crash
          rw [List.length_take]
          omega
        have t8 := ((Tick.refl hcells7).set 4 (.int .i64 ((d.midst S ((crashList (namesOf S) ks).take i)).used + fm))).drew
        have u8 := Turns.of_tick t8
        have FIN : Hid ((∃ fv, RepAt (Mid A w2 bn') (w7.setCell ⟨f, 4, none⟩ (.int .i64 ((d.midst S ((crashList (namesOf S) ks).take i)).used + fm))).drew f (d.midst S ((crashList (namesOf S) ks).take (i + 1))) bn' bs (.slice none 0 0) fv) ∧ Turns (Mid A w2 bn') w6 (w7.setCell ⟨f, 4, none⟩ (.int .i64 ((d.midst S ((crashList (namesOf S) ks).take i)).used + fm))).drew) := by
          have tt : Turns (fun q => q = f ∨ q = g ∨ inRow (fv' g) q) wr (w7.setCell ⟨f, 4, none⟩ (.int .i64 ((d.midst S ((crashList (namesOf S) ks).take i)).used + fm))).drew := (t7.mono fun q _ e => .inr (.inl e)).trans (u8.mono fun q _ e => .inl e)
          have hsl : ∀ q, inRow (.slice fa fm fc) q → ¬ q = f := fun q hq e => (HR.out.row HX.out (n4 q hq)).1 e
          refine ⟨⟨_, HR.out.filedTo (A' := Mid A w2 bn') (fun _ hk => hk) (d' := d.midst S ((crashList (namesOf S) ks).take (i + 1))) (g := g) (x := x) (x' := x.crash kv) (v' := .slice fa fm fc) HX.out ?_ (u8.heap n1 hgf) (n2.keep u8 hsl) tt (fun q hq => .inl (n4 q hq)) rfl rfl rfl ST1.out⟩, HT.out.trans (tt.mono fun q _ e => ?_)⟩
          · rw [t8.1]
            unfold Disk.cells
            rw [ST2.out, ← n3]
            rfl
          · rcases e with e | e | e
            · rw [e]; exact HR.out.af
            · rw [e]; exact (HR.out.files.each g x HX.out).ag
            · exact (HR.out.files.each g x HX.out).ar q e
        have hw : IntKind.i64.wrap ((d.midst S ((crashList (namesOf S) ks).take i)).used + fm) = (d.midst S ((crashList (namesOf S) ks).take i)).used + fm := wrapI _ (by omega) (by omega)
        clear t8 u8 n1 n2 n3 n4 t7 hcells7 b1 hlk
        generalize (d.midst S ((crashList (namesOf S) ks).take i)).used = us at *
        go_wp2_with fail
        go_region_with (fail)
        all_goals go_wp2_with fail
        all_goals exact ⟨⟨i + 1, by go_num, by omega, FIN.out⟩, by simp [intOf]; omega⟩
      · have hkv0 : ks.getD i 0 = 0 := by
          rw [List.getD_eq_getElem?_getD, List.getElem?_eq_none (by omega), Option.getD_none]
        have i2 : ¬ (i : Int) < (kn : Int) := by omega
        rw [hkv0] at ST1 ST2
        clear hkn hkv hkv0
        have hkv : (0 : Int) ≤ 9223372036854775807 ∧ -9223372036854775808 ≤ (0 : Int) := ⟨by decide, by decide⟩
        have hlk := hlk
        go_wp2_with fail
        refine (fcrash_all g (fv' g) x 0 wr (HR.out.files.each g x HX.out).cell (HR.out.files.each g x HX.out).own hxb.2 hxb.1 hkv.1 hkv.2).mono ?_
        rintro e w7 ⟨⟨v7, rfl⟩, fa, fm, fc, n1, n2, n3, n4, t7⟩
        have hgf := (HR.out.file HX.out).1
        have hcells7 := t7.heap HR.out.cells (fun e => hgf e.symm)
        have x0 : w7.cell? ⟨g, 0, none⟩ = some (.slice fa fm fc) := cell_of_row w7 g 0 _ 70 (0, 0) n1
        have x4 : w7.cell? ⟨f, 4, none⟩ = some (.int .i64 (d.midst S ((crashList (namesOf S) ks).take i)).used) := cell_of_row w7 f 4 _ 57 (0, 0) hcells7
        have z4 : w7.frozen? ⟨f, 4, none⟩ = false := frozen_of_row w7 f 4 _ 57 hcells7
        have hfm : fm ≤ 1073741824 := by
          have := crashN_le x 0 hxb.2
          rw [n3]
          unfold Fil.crash
          rw [List.length_take]
          omega
        have t8 := ((Tick.refl hcells7).set 4 (.int .i64 ((d.midst S ((crashList (namesOf S) ks).take i)).used + fm))).drew
        have u8 := Turns.of_tick t8
        have FIN : Hid ((∃ fv, RepAt (Mid A w2 bn') (w7.setCell ⟨f, 4, none⟩ (.int .i64 ((d.midst S ((crashList (namesOf S) ks).take i)).used + fm))).drew f (d.midst S ((crashList (namesOf S) ks).take (i + 1))) bn' bs (.slice none 0 0) fv) ∧ Turns (Mid A w2 bn') w6 (w7.setCell ⟨f, 4, none⟩ (.int .i64 ((d.midst S ((crashList (namesOf S) ks).take i)).used + fm))).drew) := by
          have tt : Turns (fun q => q = f ∨ q = g ∨ inRow (fv' g) q) wr (w7.setCell ⟨f, 4, none⟩ (.int .i64 ((d.midst S ((crashList (namesOf S) ks).take i)).used + fm))).drew := (t7.mono fun q _ e => .inr (.inl e)).trans (u8.mono fun q _ e => .inl e)
          have hsl : ∀ q, inRow (.slice fa fm fc) q → ¬ q = f := fun q hq e => (HR.out.row HX.out (n4 q hq)).1 e
          refine ⟨⟨_, HR.out.filedTo (A' := Mid A w2 bn') (fun _ hk => hk) (d' := d.midst S ((crashList (namesOf S) ks).take (i + 1))) (g := g) (x := x) (x' := x.crash 0) (v' := .slice fa fm fc) HX.out ?_ (u8.heap n1 hgf) (n2.keep u8 hsl) tt (fun q hq => .inl (n4 q hq)) rfl rfl rfl ST1.out⟩, HT.out.trans (tt.mono fun q _ e => ?_)⟩
          · rw [t8.1]
            unfold Disk.cells
            rw [ST2.out, ← n3]
            rfl
          · rcases e with e | e | e
            · rw [e]; exact HR.out.af
            · rw [e]; exact (HR.out.files.each g x HX.out).ag
            · exact (HR.out.files.each g x HX.out).ar q e
        have hw : IntKind.i64.wrap ((d.midst S ((crashList (namesOf S) ks).take i)).used + fm) = (d.midst S ((crashList (namesOf S) ks).take i)).used + fm := wrapI _ (by omega) (by omega)
        clear t8 u8 n1 n2 n3 n4 t7 hcells7 b1 hlk
        generalize (d.midst S ((crashList (namesOf S) ks).take i)).used = us at *
        go_wp2_with fail
        go_region_with (fail)
        all_goals go_wp2_with fail
        all_goals exact ⟨⟨i + 1, by go_num, by omega, FIN.out⟩, by simp [intOf]; omega⟩
    · obtain rfl : i = Ln := by omega
      have hfin : (crashList (namesOf S) ks).take i = crashList (namesOf S) ks := List.take_of_length_le (by rw [crashList_length]; omega)
      have HR' := HR.out
      rw [hfin] at HR'
      have HRF := hide HR'
      have x6 : wr.cell? ⟨f, 6, none⟩ = some (.bool d.on) := cell_of_row wr f 6 _ 57 (0, 0) HRF.out.cells
      have x8 : wr.cell? ⟨f, 8, none⟩ = some (.int .i64 d.fuse) := cell_of_row wr f 8 _ 57 (0, 0) HRF.out.cells
      have x9 : wr.cell? ⟨f, 9, none⟩ = some (.int .i64 d.fault) := cell_of_row wr f 9 _ 57 (0, 0) HRF.out.cells
      have z6 : wr.frozen? ⟨f, 6, none⟩ = false := frozen_of_row wr f 6 _ 57 HRF.out.cells
      have z8 : wr.frozen? ⟨f, 8, none⟩ = false := frozen_of_row wr f 8 _ 57 HRF.out.cells
      have z9 : wr.frozen? ⟨f, 9, none⟩ = false := frozen_of_row wr f 9 _ 57 HRF.out.cells
      clear HR' hfin
      go_wp2_with fail
      go_ret
      have t9 := (((Tick.refl HRF.out.cells).set 6 (.bool true)).set 8 (.int .i64 (-1))).set 9 (.int .i64 (-1))
      have u9 := Turns.of_tick t9
      have hfinal : RepAt (Mid A w2 bn') _ f (d.crashed dir ks) bn' bs (.slice none 0 0) fv' := HRF.out.turn u9 (by rw [t9.1]; unfold Disk.crashed; rw [hS']; rfl) (by unfold Disk.crashed; rw [hS']) (by unfold Disk.crashed; rw [hS']) (by unfold Disk.crashed; rw [hS']) (by unfold Disk.crashed; rw [hS'])
      refine ⟨rfl, ⟨bn', bs, _, fv', hfinal.mono fun q _ hq => ?_⟩, ?_⟩
      · rcases hq with hq | hq
        · exact .inl hq.1
        · exact .inr (by omega)
      · refine (HU6.out.andThen HT.out fun q hq e => ?_).trans (u9.mono fun q _ e => by rw [e]; exact H.out.af)
        rcases e with e | e
        · exact e.1
        · omega
end Go.Proofs.Ytefjljdgdoklmaa
