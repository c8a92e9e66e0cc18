/-
  File systems without a file, and with one: what each operation makes of them.
-/
import Derived.Test.YtefjljdgdoklmaaDcs
import Derived.Test.YtefjljdgdoklmaaDob
namespace Go.Proofs.Ytefjljdgdoklmaa
open Go.RowKit Go.Maps Go.Sort

/-- All blocks from B on. -/
def From (B : Nat) : Nat → Prop := fun k => B ≤ k
theorem from_grow {B : Nat} {w : World} (hB : B ≤ w.heap.size) : ∀ k, Grow (From B) w k → From B k := fun _ hk => hk.elim id (Nat.le_trans hB)
theorem Rep.from {B : Nat} {w w' : World} {f : Nat} {d : Disk} (h : Rep (Grow (From B) w) w' f d) (hB : B ≤ w.heap.size) : Rep (From B) w' f d := h.mono fun k _ => from_grow hB k
theorem Turns.from {B : Nat} {w w' : World} (t : Turns (From B) w w') (hB : B ≤ w.heap.size) : Below B w w' := t.below hB fun _ h => h

def zeroDisk (limit ops : Int) : Disk := { limit := limit, names := .map [], synced := .map [], changes := [], files := fun _ => none, used := 0, lost := 0, on := true, ops := ops, fuse := -1, fault := -1, fail := 0 }
def oneDisk (limit : Int) (g : Nat) (name : ByteArray) (l : List Chg) (S : DataW Unit) (bytes : List (BitVec 8)) (s : Nat) (used lost ops : Int) : Disk :=
  { limit := limit, names := one name g, synced := S, changes := l, files := fun k => if k = g then some ⟨bytes, s⟩ else none, used := used, lost := lost, on := true, ops := ops, fuse := -1, fault := -1, fail := 0 }

theorem zero_num (limit ops : Int) (h1 : 0 ≤ limit ∧ limit ≤ 1073741824) (h2 : 0 ≤ ops ∧ ops ≤ 1000) : Num (zeroDisk limit ops) :=
  ⟨by show 0 ≤ ops ∧ ops ≤ 1000000; omega, by show (-1 : Int) ≤ 9223372036854775807; decide, by show (-1 : Int) ≤ 9223372036854775807; decide, by show (0 : Int) ≤ 0 ∧ (0 : Int) ≤ 0 ∧ 0 ≤ limit ∧ limit ≤ 1073741824; omega, by show 0 ≤ 1000000; decide, by show 0 ≤ 1000000; decide, by show 0 ≤ 1000000; decide, fun c hc => (by cases hc), fun g x hx => (by cases hx)⟩
theorem one_num (limit : Int) (g : Nat) (name : ByteArray) (l : List Chg) (S : DataW Unit) (bytes : List (BitVec 8)) (s : Nat) (used lost ops : Int) (h1 : 0 ≤ lost ∧ lost ≤ used ∧ used ≤ limit ∧ limit ≤ 1073741824) (h2 : 0 ≤ ops ∧ ops ≤ 1000) (h3 : bytes.length ≤ 1073741824) (h4 : s ≤ bytes.length) (h5 : l.length ≤ 100) (h6 : ∀ x ∈ l, x.went.size ≤ maxLen ∧ x.became.size ≤ maxLen) (h7 : Maps.size S ≤ 100) : Num (oneDisk limit g name l S bytes s used lost ops) := by
  refine ⟨by show 0 ≤ ops ∧ ops ≤ 1000000; omega, by show (-1 : Int) ≤ 9223372036854775807; decide, by show (-1 : Int) ≤ 9223372036854775807; decide, h1, ?_, by show Maps.size S ≤ 1000000; omega, by show l.length ≤ 1000000; omega, h6, fun q x hx => ?_⟩
  · show Maps.size (one name g) ≤ 1000000
    show 1 ≤ 1000000
    decide
  · have hx' : (if q = g then some (⟨bytes, s⟩ : Fil) else none) = some x := hx
    split at hx'
    · obtain rfl : (⟨bytes, s⟩ : Fil) = x := by simpa using hx'
      exact ⟨h3, h4⟩
    · cases hx'
theorem zero_tick (limit ops : Int) : (zeroDisk limit ops).tick = zeroDisk limit (ops + 1) := rfl
theorem one_tick (limit : Int) (g : Nat) (name : ByteArray) (l : List Chg) (S : DataW Unit) (bytes : List (BitVec 8)) (s : Nat) (used lost ops : Int) : (oneDisk limit g name l S bytes s used lost ops).tick = oneDisk limit g name l S bytes s used lost (ops + 1) := rfl
theorem zero_guard (limit ops : Int) : (zeroDisk limit ops).guard true = (none, zeroDisk limit (ops + 1)) := rfl
theorem one_guard (limit : Int) (g : Nat) (name : ByteArray) (l : List Chg) (S : DataW Unit) (bytes : List (BitVec 8)) (s : Nat) (used lost ops : Int) : (oneDisk limit g name l S bytes s used lost ops).guard true = (none, oneDisk limit g name l S bytes s used lost (ops + 1)) := rfl
theorem one_files (g : Nat) (x y : Fil) : (fun k => if k = g then some y else if k = g then some x else none) = fun k => if k = g then some y else none := by
  funext k
  split <;> rfl
theorem one_at (limit : Int) (g : Nat) (name : ByteArray) (l : List Chg) (S : DataW Unit) (bytes : List (BitVec 8)) (s : Nat) (used lost ops : Int) {q : Nat} {x : Fil} (hq : fileOf (oneDisk limit g name l S bytes s used lost ops).names name = some q) (hx : (oneDisk limit g name l S bytes s used lost ops).files q = some x) : q = g ∧ x = ⟨bytes, s⟩ := by
  have h1 : fileOf (one name g) name = some q := hq
  rw [one_file] at h1
  obtain rfl : g = q := by simpa using h1
  refine ⟨rfl, ?_⟩
  have h2 : (if g = g then some (⟨bytes, s⟩ : Fil) else none) = some x := hx
  rw [if_pos rfl] at h2
  exact (Option.some.inj h2).symm

theorem new_rep (limit : Int) (w : World) (h1 : 0 ≤ limit) (h2 : limit ≤ 1073741824) :
    Calls Try.prog 8 #[.int .i64 limit] w fun e w' => e = .returned (.tuple #[.pointer (some ⟨w.heap.size + 2, 0, none⟩), .int .i64 0]) ∧ Rep (From w.heap.size) w' (w.heap.size + 2) (zeroDisk limit 0) ∧ Below w.heap.size w w' := by
  refine (new_good limit w h1 h2).mono ?_
  rintro e w' ⟨rfl, k1, k2, k3, k4⟩
  refine ⟨rfl, ⟨w.heap.size, w.heap.size + 1, .slice none 0 0, fun _ => .slice none 0 0, ⟨k1, k2, k3, .inl ⟨rfl, rfl⟩, by omega, Nat.le_add_right _ _, Nat.le_refl _, Nat.le_add_right _ _, fun k hk => ?_, ⟨fun g x hx => (by cases hx), fun g g' x x' k hg => (by cases hg)⟩, ⟨Full.empty, Full.empty, fun s g hs => ?_, fun s g hs => ?_, fun c hc => by cases hc⟩⟩⟩, k4⟩
  · obtain ⟨_, _, e⟩ := hk
    cases e
  · have hs' : fileOf (.map []) s = some g := hs
    rw [none_file] at hs'; cases hs'
  · have hs' : fileOf (.map []) s = some g := hs
    rw [none_file] at hs'; cases hs'

theorem create_1 (B f : Nat) (name : ByteArray) (limit ops : Int) (w : World) (h : Rep (From B) w f (zeroDisk limit ops)) (hB : B ≤ w.heap.size) (h1 : 0 ≤ limit ∧ limit ≤ 1073741824) (h2 : 0 ≤ ops ∧ ops ≤ 1000) (hgn : goodN name = true) (hnm : name.size ≤ maxLen) :
    Calls Try.prog 9 #[.pointer (some ⟨f, 0, none⟩), .string name] w fun e w' => e = .returned (.int .i64 0) ∧ ∃ g, Rep (From B) w' f (oneDisk limit g name [⟨⟨#[]⟩, name, some g⟩] (.map []) [] 0 0 0 (ops + 1)) ∧ Below B w w' := by
  have hg : (zeroDisk limit ops).guard (goodN name) = (none, zeroDisk limit (ops + 1)) := by rw [hgn]; rfl
  refine create_rep (From B) f _ name w h (zero_num limit ops h1 h2) hnm _ (fun z w' e => by rw [hg] at e; cases e) (fun _ g w' e => ?_) (fun _ _ g w' hgw hr ht => ?_)
  · have e' : fileOf (.map []) name = some g := e
    rw [none_file] at e'; cases e'
  · refine ⟨rfl, g, ?_, ht.from hB⟩
    have hd : (zeroDisk limit ops).tick.add name g = oneDisk limit g name [⟨⟨#[]⟩, name, some g⟩] (.map []) [] 0 0 0 (ops + 1) := by
      rw [zero_tick]
      unfold Disk.add Disk.change Disk.setF zeroDisk oneDisk
      simp only [apply_first, List.nil_append]
    rw [← hd]
    exact hr.from hB

section
variable (B f g : Nat) (name : ByteArray) (l : List Chg) (S : DataW Unit) (bytes : List (BitVec 8)) (s : Nat) (limit used lost ops : Int) (w : World) (h : Rep (From B) w f (oneDisk limit g name l S bytes s used lost ops)) (hB : B ≤ w.heap.size) (hn : Num (oneDisk limit g name l S bytes s used lost ops))
include h hB hn

theorem append_1 (a : Option Addr) (n c : Nat) (news : List (BitVec 8)) (hb : Bytes w (.slice a n c) news) (hbf : ∀ q o, a = some ⟨q, o, none⟩ → q ≠ f) (hroom : (news.length : Int) ≤ limit - used) (hgn : goodN name = true) (hnm : name.size ≤ maxLen) :
    Calls Try.prog 10 #[.pointer (some ⟨f, 0, none⟩), .string name, .slice a n c] w fun e w' => e = .returned (.int .i64 0) ∧ Rep (From B) w' f (oneDisk limit g name l S (bytes ++ news) s (used + news.length) lost (ops + 1)) ∧ Below B w w' := by
  have hg : (oneDisk limit g name l S bytes s used lost ops).guard (goodN name) = (none, oneDisk limit g name l S bytes s used lost (ops + 1)) := by rw [hgn]; rfl
  refine append_rep (From B) f _ name a n c news w h hn hnm hb hbf _ (fun z w' e => by rw [hg] at e; cases e) (fun _ e => ?_) (fun _ q x w' _ _ e => ?_) (fun _ q x w' hq hx _ hr ht => ?_)
  · have e' : fileOf (one name g) name = none := e
    rw [one_file] at e'; cases e'
  · have e' : limit - used < (news.length : Int) := e
    omega
  · obtain ⟨rfl, rfl⟩ := one_at limit g name l S bytes s used lost ops hq hx
    refine ⟨rfl, ?_, ht.from hB⟩
    have hd : (oneDisk limit q name l S bytes s used lost ops).tick.put q ⟨bytes, s⟩ news = oneDisk limit q name l S (bytes ++ news) s (used + news.length) lost (ops + 1) := by
      rw [one_tick]
      unfold Disk.put Disk.setF oneDisk
      simp only [one_files]
    rw [← hd]
    exact hr.from hB
theorem sync_1 (hgn : goodN name = true) (hnm : name.size ≤ maxLen) :
    Calls Try.prog 14 #[.pointer (some ⟨f, 0, none⟩), .string name] w fun e w' => e = .returned (.int .i64 0) ∧ Rep (From B) w' f (oneDisk limit g name l S bytes bytes.length used lost (ops + 1)) ∧ Below B w w' := by
  have hg : (oneDisk limit g name l S bytes s used lost ops).guard (goodN name) = (none, oneDisk limit g name l S bytes s used lost (ops + 1)) := by rw [hgn]; rfl
  refine sync_rep (From B) f _ name w h hn hnm _ (fun z w' e => by rw [hg] at e; cases e) (fun _ e => ?_) (fun _ q x w' hq hx hr ht => ?_)
  · have e' : fileOf (one name g) name = none := e
    rw [one_file] at e'; cases e'
  · obtain ⟨rfl, rfl⟩ := one_at limit g name l S bytes s used lost ops hq hx
    refine ⟨rfl, ?_, ht.from hB⟩
    have hd : (oneDisk limit q name l S bytes s used lost ops).tick.setF q ⟨bytes, bytes.length⟩ = oneDisk limit q name l S bytes bytes.length used lost (ops + 1) := by
      rw [one_tick]
      unfold Disk.setF oneDisk
      simp only [one_files]
    rw [← hd]
    exact hr.from hB
theorem syncdir_1 : Calls Try.prog 13 #[.pointer (some ⟨f, 0, none⟩)] w fun e w' => e = .returned (.int .i64 0) ∧ Rep (From B) w' f (oneDisk limit g name [] (l.foldl applyD S) bytes s (used - lost) 0 (ops + 1)) ∧ Below B w w' :=
  syncdir_rep (From B) f _ w h hn _ (fun z w' e => by cases e) (fun _ w' hr ht => ⟨rfl, hr.from hB, ht.from hB⟩)
end
theorem namesOf_one (name : ByteArray) (g : Nat) : namesOf (one name g) = [name] := by
  unfold namesOf
  show (List.mergeSort [name.data.toList] leB).map toBA = [name]
  rw [List.mergeSort_singleton]
  simp [toBA]
theorem namesOf_none : namesOf (.map []) = [] := by
  unfold namesOf
  show (List.mergeSort ([] : List (List UInt8)) leB).map toBA = []
  simp

section
variable (A : Nat → Prop) (f g : Nat) (name : ByteArray) (l : List Chg) (S : DataW Unit) (bytes : List (BitVec 8)) (s : Nat) (limit used lost ops : Int) (w : World) (h : Rep A w f (oneDisk limit g name l S bytes s used lost ops)) (hn : Num (oneDisk limit g name l S bytes s used lost ops))
include h hn
theorem read_1 (n : Int) (hgn : goodN name = true) (hnm : name.size ≤ maxLen) (b1 : 0 ≤ n) (b2 : n ≤ 9223372036854775807) :
    Calls Try.prog 20 #[.pointer (some ⟨f, 0, none⟩), .string name, .int .i64 0, .int .i64 n] w fun e w' => ∃ a m c, e = .returned (.tuple #[.slice a m c, .int .i64 0]) ∧ OwnB w' (.slice a m c) (bytes.take n.toNat) ∧ (∀ k, inRow (.slice a m c) k → w.heap.size ≤ k) ∧ Rep A w' f (oneDisk limit g name l S bytes s used lost (ops + 1)) ∧ Turns A w w' := by
  have hr : Disk.right name 0 n = true := by
    unfold Disk.right
    rw [hgn, decide_eq_true (by omega), decide_eq_true b1]
    rfl
  refine read_rep A f _ name 0 n w h hn hnm (by decide) b2 _ (fun z w' e => by rw [hr] at e; cases e) (fun _ e => ?_) (fun _ q x w' a m c hq hx ho hk hR ht => ?_)
  · have e' : fileOf (one name g) name = none := e
    rw [one_file] at e'; cases e'
  · obtain ⟨rfl, rfl⟩ := one_at limit g name l S bytes s used lost ops hq hx
    exact ⟨a, m, c, rfl, ho, hk, hR, ht⟩
/-- A crash behind which the file is there. -/
theorem crash_1 (dir kp : Int) (ka : Option Addr) (kn kc : Nat) (ks : List Int) (hks : Ints w ka kn ks) (hkp : ks.getD 0 0 = kp) (hkb : ∀ z, z ∈ ks → z ≤ 9223372036854775807 ∧ -9223372036854775808 ≤ z) (hkq : ∀ q o, ka = some ⟨q, o, none⟩ → ¬ A q) (d1 : dir ≤ 9223372036854775807) (d2 : -9223372036854775808 ≤ dir) (hone : (oneDisk limit g name l S bytes s used lost ops).left dir = one name g) :
    Calls Try.prog 11 #[.pointer (some ⟨f, 0, none⟩), .int .i64 dir, .slice ka kn kc] w fun e w' => e = .returned (.int .i64 0) ∧ Rep (Grow A w) w' f (oneDisk limit g name [] (one name g) (bytes.take (crashN ⟨bytes, s⟩ kp)) (crashN ⟨bytes, s⟩ kp) ((bytes.take (crashN ⟨bytes, s⟩ kp)).length : Int) 0 ops) ∧ Turns A w w' := by
  refine (crash_rep _ f _ dir ka kn kc ks w h hn d1 d2 hks hkb hkq).mono ?_
  rintro e w' ⟨rfl, hr, ht⟩
  refine ⟨rfl, ?_, ht⟩
  have hd : (oneDisk limit g name l S bytes s used lost ops).crashed dir ks = oneDisk limit g name [] (one name g) (bytes.take (crashN ⟨bytes, s⟩ kp)) (crashN ⟨bytes, s⟩ kp) ((bytes.take (crashN ⟨bytes, s⟩ kp)).length : Int) 0 ops := by
    unfold Disk.crashed
    rw [hone, namesOf_one]
    have hcl : crashList [name] ks = [(name, kp)] := by
      unfold crashList
      simp [List.zipIdx, ← hkp]
    rw [hcl]
    unfold Disk.midst
    rw [List.foldl_cons, List.foldl_nil, crashStep_some (one name g) _ name kp g ⟨bytes, s⟩ (one_file name g) (if_pos rfl)]
    unfold oneDisk
    simp only [one_files, Fil.crash, Int.zero_add]
  rw [← hd]
  exact hr
/-- A crash behind which no file is there. -/
theorem crash_0 (dir : Int) (ka : Option Addr) (kn kc : Nat) (ks : List Int) (hks : Ints w ka kn ks) (hkb : ∀ z, z ∈ ks → z ≤ 9223372036854775807 ∧ -9223372036854775808 ≤ z) (hkq : ∀ q o, ka = some ⟨q, o, none⟩ → ¬ A q) (d1 : dir ≤ 9223372036854775807) (d2 : -9223372036854775808 ≤ dir) (hone : (oneDisk limit g name l S bytes s used lost ops).left dir = .map []) :
    Calls Try.prog 11 #[.pointer (some ⟨f, 0, none⟩), .int .i64 dir, .slice ka kn kc] w fun e w' => e = .returned (.int .i64 0) ∧ (∃ F, Rep (Grow A w) w' f { zeroDisk limit ops with files := F }) ∧ Turns A w w' := by
  refine (crash_rep _ f _ dir ka kn kc ks w h hn d1 d2 hks hkb hkq).mono ?_
  rintro e w' ⟨rfl, hr, ht⟩
  refine ⟨rfl, ⟨(oneDisk limit g name l S bytes s used lost ops).files, ?_⟩, ht⟩
  have hd : (oneDisk limit g name l S bytes s used lost ops).crashed dir ks = { zeroDisk limit ops with files := (oneDisk limit g name l S bytes s used lost ops).files } := by
    unfold Disk.crashed
    rw [hone, namesOf_none]
    rfl
  rw [← hd]
  exact hr
end
end Go.Proofs.Ytefjljdgdoklmaa
