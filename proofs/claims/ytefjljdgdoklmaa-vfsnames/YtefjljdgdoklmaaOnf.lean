/-
  File systems with one name, whatever files are forgotten: what each operation makes of them.
-/
import Derived.Test.YtefjljdgdoklmaaOnd
namespace Go.Proofs.Ytefjljdgdoklmaa
open Go.RowKit Go.Maps Go.Sort

def Small (F : Nat → Option Fil) : Prop := ∀ k x, F k = some x → x.bytes.length ≤ 1073741824 ∧ x.synced ≤ x.bytes.length
def zeroF (F : Nat → Option Fil) (limit ops : Int) : Disk := { zeroDisk limit ops with files := F }
def oneF (F : Nat → Option Fil) (limit : Int) (g : Nat) (name : ByteArray) (l : List Chg) (S : DataW Unit) (bytes : List (BitVec 8)) (s : Nat) (used lost : Int) (on : Bool) (ops fuse fault fail : Int) : Disk :=
  { limit := limit, names := one name g, synced := S, changes := l, files := fun k => if k = g then some ⟨bytes, s⟩ else F k, used := used, lost := lost, on := on, ops := ops, fuse := fuse, fault := fault, fail := fail }

theorem oneF_num (F : Nat → Option Fil) (hF : Small F) (limit : Int) (g : Nat) (name : ByteArray) (l : List Chg) (S : DataW Unit) (bytes : List (BitVec 8)) (s : Nat) (used lost : Int) (on : Bool) (ops fuse fault fail : Int) (h1 : 0 ≤ lost ∧ lost ≤ used ∧ used ≤ limit ∧ limit ≤ 1073741824) (h2 : 0 ≤ ops ∧ ops ≤ 1000) (h8 : fuse ≤ 1000) (h9 : fault ≤ 1000) (h3 : bytes.length ≤ 1073741824) (h4 : s ≤ bytes.length) (h5 : l.length ≤ 100) (h6 : ∀ x ∈ l, x.went.size ≤ maxLen ∧ x.became.size ≤ maxLen) (h7 : Maps.size S ≤ 100) : Num (oneF F limit g name l S bytes s used lost on ops fuse fault fail) := by
  refine ⟨by show 0 ≤ ops ∧ ops ≤ 1000000; omega, by show fuse ≤ 9223372036854775807; omega, by show fault ≤ 9223372036854775807; omega, h1, ?_, by show Maps.size S ≤ 1000000; omega, by show l.length ≤ 1000000; omega, h6, fun q x hx => ?_⟩
  · show 1 ≤ 1000000
    decide
  · have hx' : (if q = g then some (⟨bytes, s⟩ : Fil) else F q) = some x := hx
    split at hx'
    · obtain rfl : (⟨bytes, s⟩ : Fil) = x := by simpa using hx'
      exact ⟨h3, h4⟩
    · exact hF q x hx'
theorem oneF_files (F : Nat → Option Fil) (g : Nat) (x y : Fil) : (fun k => if k = g then some y else if k = g then some x else F k) = fun k => if k = g then some y else F k := by
  funext k
  split <;> rfl
theorem oneF_at {F : Nat → Option Fil} {limit : Int} {g : Nat} {name : ByteArray} {l : List Chg} {S : DataW Unit} {bytes : List (BitVec 8)} {s : Nat} {used lost : Int} {on : Bool} {ops fuse fault fail : Int} {q : Nat} {x : Fil} (hq : fileOf (oneF F limit g name l S bytes s used lost on ops fuse fault fail).names name = some q) (hx : (oneF F limit g name l S bytes s used lost on ops fuse fault fail).files q = some x) : q = g ∧ x = ⟨bytes, s⟩ := by
  have h1 : fileOf (one name g) name = some q := hq
  rw [one_file] at h1
  obtain rfl : g = q := by simpa using h1
  refine ⟨rfl, ?_⟩
  have h2 : (if g = g then some (⟨bytes, s⟩ : Fil) else F g) = some x := hx
  rw [if_pos rfl] at h2
  exact (Option.some.inj h2).symm
theorem guard_go (d : Disk) {r : Bool} (hr : r = true) (hon : d.on = true) (h8 : d.fuse ≠ 0) (h9 : d.fault ≠ 0) : d.guard r = (none, d.tick) := by
  subst hr
  unfold Disk.guard
  rw [if_neg (by decide), if_neg (by rw [hon]; decide), if_neg h8, if_neg h9]
theorem guard_blown (d : Disk) {r : Bool} (hr : r = true) (hon : d.on = true) (h8 : d.fuse = 0) : d.guard r = (some 9, { d.tick with on := false }) := by
  subst hr
  unfold Disk.guard
  rw [if_neg (by decide), if_neg (by rw [hon]; decide), if_pos h8]
theorem guard_faulty (d : Disk) {r : Bool} (hr : r = true) (hon : d.on = true) (h8 : d.fuse ≠ 0) (h9 : d.fault = 0) : d.guard r = (some d.fail, d.tick) := by
  subst hr
  unfold Disk.guard
  rw [if_neg (by decide), if_neg (by rw [hon]; decide), if_neg h8, if_pos h9]

theorem create_F (B f : Nat) (F : Nat → Option Fil) (hF : Small F) (name : ByteArray) (limit ops : Int) (w : World) (h : Rep (From B) w f (zeroF F limit ops)) (hB : B ≤ w.heap.size) (h1 : 0 ≤ limit ∧ limit ≤ 1073741824) (h2 : 0 ≤ ops ∧ ops ≤ 1000) (hgn : goodN name = true) (hnm : name.size ≤ maxLen) :
    Calls Try.prog 9 #[.pointer (some ⟨f, 0, none⟩), .string name] w fun e w' => e = .returned (.int .i64 0) ∧ ∃ g, Rep (From B) w' f (oneF F limit g name [⟨⟨#[]⟩, name, some g⟩] (.map []) [] 0 0 0 true (ops + 1) (-1) (-1) 0) ∧ Below B w w' := by
  have hg : (zeroF F limit ops).guard (goodN name) = (none, zeroF F limit (ops + 1)) := by rw [hgn]; rfl
  have hn : Num (zeroF F limit ops) := by
    have := zero_num limit ops h1 h2
    exact ⟨this.ops, this.fuse, this.fault, this.used, this.names, this.synced, this.changes, this.text, fun k x hx => hF k x hx⟩
  refine create_rep (From B) f _ name w h hn hnm _ (fun z w' e => by rw [hg] at e; cases e) (fun _ g w' e => ?_) (fun _ _ g w' hgw hr ht => ?_)
  · have e' : fileOf (.map []) name = some g := e
    rw [none_file] at e'; cases e'
  · refine ⟨rfl, g, ?_, ht.from hB⟩
    have hd : (zeroF F limit ops).tick.add name g = oneF F limit g name [⟨⟨#[]⟩, name, some g⟩] (.map []) [] 0 0 0 true (ops + 1) (-1) (-1) 0 := by
      unfold Disk.add Disk.change Disk.setF Disk.tick zeroF zeroDisk oneF
      simp only [apply_first, List.nil_append]
      rfl
    rw [← hd]
    exact hr.from hB

theorem apply_rename (name t : ByteArray) (g : Nat) : applyD (one name g) ⟨name, t, some g⟩ = one t g := by
  have hd : (one name g).del (key name) = .map [] := by
    simp [one, DataW.del, key, Lit.sameKey]
  unfold applyD
  simp only [hd]
  simp [one, DataW.put, DataW.insert]

section
variable (B f g : Nat) (F : Nat → Option Fil) (name : ByteArray) (l : List Chg) (S : DataW Unit) (bytes : List (BitVec 8)) (s : Nat) (limit used lost ops fuse fault fail : Int) (w : World) (h : Rep (From B) w f (oneF F limit g name l S bytes s used lost true ops fuse fault fail)) (hB : B ≤ w.heap.size) (hn : Num (oneF F limit g name l S bytes s used lost true ops fuse fault fail))
include h hB hn
theorem append_F (h8 : fuse ≠ 0) (h9 : fault ≠ 0) (a : Option Addr) (n c : Nat) (news : List (BitVec 8)) (hb : Bytes w (.slice a n c) news) (hbf : ∀ q o, a = some ⟨q, o, none⟩ → q ≠ f) (hroom : (news.length : Int) ≤ limit - used) (hgn : goodN name = true) (hnm : name.size ≤ maxLen) :
    Calls Try.prog 10 #[.pointer (some ⟨f, 0, none⟩), .string name, .slice a n c] w fun e w' => e = .returned (.int .i64 0) ∧ Rep (From B) w' f (oneF F limit g name l S (bytes ++ news) s (used + news.length) lost true (ops + 1) (tick fuse) (tick fault) fail) ∧ Below B w w' := by
  have hg := guard_go (oneF F limit g name l S bytes s used lost true ops fuse fault fail) hgn rfl h8 h9
  refine append_rep (From B) f _ name a n c news w h hn hnm hb hbf _ (fun z w' e => by rw [hg] at e; cases e) (fun _ e => ?_) (fun _ q x w' _ _ e => ?_) (fun _ q x w' hq hx _ hr ht => ?_)
  · have e' : fileOf (one name g) name = none := e
    rw [one_file] at e'; cases e'
  · have e' : limit - used < (news.length : Int) := e
    omega
  · obtain ⟨rfl, rfl⟩ := oneF_at hq hx
    refine ⟨rfl, ?_, ht.from hB⟩
    have hd : (oneF F limit q name l S bytes s used lost true ops fuse fault fail).tick.put q ⟨bytes, s⟩ news = oneF F limit q name l S (bytes ++ news) s (used + news.length) lost true (ops + 1) (tick fuse) (tick fault) fail := by
      unfold Disk.put Disk.setF Disk.tick oneF
      simp only [oneF_files]
    rw [← hd]
    exact hr.from hB
theorem sync_F (h8 : fuse ≠ 0) (h9 : fault ≠ 0) (hgn : goodN name = true) (hnm : name.size ≤ maxLen) :
    Calls Try.prog 14 #[.pointer (some ⟨f, 0, none⟩), .string name] w fun e w' => e = .returned (.int .i64 0) ∧ Rep (From B) w' f (oneF F limit g name l S bytes bytes.length used lost true (ops + 1) (tick fuse) (tick fault) fail) ∧ Below B w w' := by
  have hg := guard_go (oneF F limit g name l S bytes s used lost true ops fuse fault fail) hgn rfl h8 h9
  refine sync_rep (From B) f _ name w h hn hnm _ (fun z w' e => by rw [hg] at e; cases e) (fun _ e => ?_) (fun _ q x w' hq hx hr ht => ?_)
  · have e' : fileOf (one name g) name = none := e
    rw [one_file] at e'; cases e'
  · obtain ⟨rfl, rfl⟩ := oneF_at hq hx
    refine ⟨rfl, ?_, ht.from hB⟩
    have hd : (oneF F limit q name l S bytes s used lost true ops fuse fault fail).tick.setF q ⟨bytes, bytes.length⟩ = oneF F limit q name l S bytes bytes.length used lost true (ops + 1) (tick fuse) (tick fault) fail := by
      unfold Disk.setF Disk.tick oneF
      simp only [oneF_files]
    rw [← hd]
    exact hr.from hB
/-- The fuse goes off. -/
theorem sync_off (h8 : fuse = 0) (hgn : goodN name = true) (hnm : name.size ≤ maxLen) :
    Calls Try.prog 14 #[.pointer (some ⟨f, 0, none⟩), .string name] w fun e w' => e = .returned (.int .i64 9) ∧ Rep (From B) w' f (oneF F limit g name l S bytes s used lost false (ops + 1) (tick fuse) (tick fault) fail) ∧ Below B w w' := by
  have hg := guard_blown (oneF F limit g name l S bytes s used lost true ops fuse fault fail) hgn rfl h8
  refine sync_rep (From B) f _ name w h hn hnm _ (fun z w' e hr ht => ?_) (fun e => by rw [hg] at e; cases e) (fun e => by rw [hg] at e; cases e)
  rw [hg] at e hr
  obtain rfl : 9 = z := Option.some.inj e
  exact ⟨rfl, hr.from hB, ht.from hB⟩
theorem syncdir_F (h8 : fuse ≠ 0) (h9 : fault ≠ 0) : Calls Try.prog 13 #[.pointer (some ⟨f, 0, none⟩)] w fun e w' => e = .returned (.int .i64 0) ∧ Rep (From B) w' f (oneF F limit g name [] (l.foldl applyD S) bytes s (used - lost) 0 true (ops + 1) (tick fuse) (tick fault) fail) ∧ Below B w w' := by
  have hg := guard_go (oneF F limit g name l S bytes s used lost true ops fuse fault fail) (r := true) rfl rfl h8 h9
  exact syncdir_rep (From B) f _ w h hn _ (fun z w' e => by rw [hg] at e; cases e) (fun _ w' hr ht => ⟨rfl, hr.from hB, ht.from hB⟩)
theorem rename_F (t : ByteArray) (h8 : fuse ≠ 0) (h9 : fault ≠ 0) (hgn : goodN name = true) (hgt : goodN t = true) (hnm : name.size ≤ maxLen) (htm : t.size ≤ maxLen) (hne : name ≠ t) :
    Calls Try.prog 15 #[.pointer (some ⟨f, 0, none⟩), .string name, .string t] w fun e w' => e = .returned (.int .i64 0) ∧ Rep (From B) w' f (oneF F limit g t (l ++ [⟨name, t, some g⟩]) S bytes s used lost true (ops + 1) (tick fuse) (tick fault) fail) ∧ Below B w w' := by
  have hg := guard_go (oneF F limit g name l S bytes s used lost true ops fuse fault fail) (r := goodN name && goodN t) (by rw [hgn, hgt]; rfl) rfl h8 h9
  have hnt : fileOf (one name g) t = none := by
    have : (one name g).atKey (key t) .nil = .nil := by
      have hk := key_ne hne
      simp only [one, DataW.atKey, List.find?_cons]
      rw [show (key name).sameKey (key t) = false from sameKey_ne hk]
      rfl
    unfold fileOf
    rw [this]
  refine rename_rep (From B) f _ name t w h hn hnm htm _ (fun z w' e => by rw [hg] at e; cases e) (fun _ e => ?_) (fun _ e => absurd e hne) (fun _ _ q x w' hq hx hr ht => ?_)
  · have e' : fileOf (one name g) name = none := e
    rw [one_file] at e'; cases e'
  · obtain ⟨rfl, rfl⟩ := oneF_at hq hx
    refine ⟨rfl, ?_, ht.from hB⟩
    have hl : (oneF F limit q name l S bytes s used lost true ops fuse fault fail).lenAt t = 0 := by
      unfold Disk.lenAt
      rw [show fileOf (oneF F limit q name l S bytes s used lost true ops fuse fault fail).names t = none from hnt]
    have hd : ((oneF F limit q name l S bytes s used lost true ops fuse fault fail).tick.lose ((oneF F limit q name l S bytes s used lost true ops fuse fault fail).lenAt t)).change ⟨name, t, some q⟩ = oneF F limit q t (l ++ [⟨name, t, some q⟩]) S bytes s used lost true (ops + 1) (tick fuse) (tick fault) fail := by
      rw [hl]
      unfold Disk.change Disk.lose Disk.tick oneF
      simp only [apply_rename, Int.add_zero]
    rw [← hd]
    exact hr.from hB
/-- A fault strikes a read. -/
theorem read_fault (n : Int) (h8 : fuse ≠ 0) (h9 : fault = 0) (hgn : goodN name = true) (hnm : name.size ≤ maxLen) (b1 : 0 ≤ n) (b2 : n ≤ 9223372036854775807) :
    Calls Try.prog 20 #[.pointer (some ⟨f, 0, none⟩), .string name, .int .i64 0, .int .i64 n] w fun e w' => e = .returned (.tuple #[.slice none 0 0, .int .i64 fail]) ∧ Rep (From B) w' f (oneF F limit g name l S bytes s used lost true (ops + 1) (tick fuse) (tick fault) fail) ∧ Below B w w' := by
  have hr : Disk.right name 0 n = true := by
    unfold Disk.right
    rw [hgn, decide_eq_true (by omega), decide_eq_true b1]
    rfl
  have hg := guard_faulty (oneF F limit g name l S bytes s used lost true ops fuse fault fail) hr rfl h8 h9
  refine read_rep (From B) f _ name 0 n w h hn hnm (by decide) b2 _ (fun z w' e hr ht => ?_) (fun e => by rw [hg] at e; cases e) (fun e => by rw [hg] at e; cases e)
  rw [hg] at e hr
  obtain rfl : fail = z := Option.some.inj e
  exact ⟨rfl, hr.from hB, ht.from hB⟩
theorem read_F (n : Int) (h8 : fuse ≠ 0) (h9 : fault ≠ 0) (hgn : goodN name = true) (hnm : name.size ≤ maxLen) (b1 : 0 ≤ n) (b2 : n ≤ 9223372036854775807) :
    Calls Try.prog 20 #[.pointer (some ⟨f, 0, none⟩), .string name, .int .i64 0, .int .i64 n] w fun e w' => ∃ a m c, e = .returned (.tuple #[.slice a m c, .int .i64 0]) ∧ OwnB w' (.slice a m c) (bytes.take n.toNat) ∧ Below B w w' := by
  have hr : Disk.right name 0 n = true := by
    unfold Disk.right
    rw [hgn, decide_eq_true (by omega), decide_eq_true b1]
    rfl
  have hg := guard_go (oneF F limit g name l S bytes s used lost true ops fuse fault fail) hr rfl h8 h9
  refine read_rep (From B) f _ name 0 n w h hn hnm (by decide) b2 _ (fun z w' e => by rw [hg] at e; cases e) (fun _ e => ?_) (fun _ q x w' a m c hq hx ho hk hR ht => ?_)
  · have e' : fileOf (one name g) name = none := e
    rw [one_file] at e'; cases e'
  · obtain ⟨rfl, rfl⟩ := oneF_at hq hx
    exact ⟨a, m, c, rfl, ho, ht.from hB⟩
end
theorem ints_none (w : World) : Ints w none 0 [] := ⟨rfl, fun k hk => by omega⟩
/-- A crash that keeps nothing, behind which the file has a name. -/
theorem crash_F (B f g : Nat) (F : Nat → Option Fil) (name t : ByteArray) (l : List Chg) (S : DataW Unit) (bytes : List (BitVec 8)) (s : Nat) (limit used lost : Int) (on : Bool) (ops fuse fault fail dir : Int) (w : World) (h : Rep (From B) w f (oneF F limit g name l S bytes s used lost on ops fuse fault fail)) (hB : B ≤ w.heap.size) (hn : Num (oneF F limit g name l S bytes s used lost on ops fuse fault fail)) (d1 : dir ≤ 9223372036854775807) (d2 : -9223372036854775808 ≤ dir) (hone : (oneF F limit g name l S bytes s used lost on ops fuse fault fail).left dir = one t g) (hs : s = bytes.length) :
    Calls Try.prog 11 #[.pointer (some ⟨f, 0, none⟩), .int .i64 dir, .slice none 0 0] w fun e w' => e = .returned (.int .i64 0) ∧ Rep (From B) w' f (oneF F limit g t [] (one t g) bytes s (bytes.length : Int) 0 true ops (-1) (-1) fail) ∧ Below B w w' := by
  refine (crash_rep _ f _ dir none 0 0 [] w h hn d1 d2 (ints_none w) (fun z hz => by cases hz) (fun q o e => by cases e)).mono ?_
  rintro e w' ⟨rfl, hr, ht⟩
  refine ⟨rfl, ?_, ht.from hB⟩
  have hd : (oneF F limit g name l S bytes s used lost on ops fuse fault fail).crashed dir [] = oneF F limit g t [] (one t g) bytes s (bytes.length : Int) 0 true ops (-1) (-1) fail := by
    unfold Disk.crashed
    rw [hone, namesOf_one]
    have hcl : crashList [t] [] = [(t, 0)] := by simp [crashList, List.zipIdx]
    rw [hcl]
    unfold Disk.midst
    rw [List.foldl_cons, List.foldl_nil, crashStep_some (one t g) _ t 0 g ⟨bytes, s⟩ (one_file t g) (if_pos rfl)]
    have hc : (⟨bytes, s⟩ : Fil).crash 0 = ⟨bytes, s⟩ := by
      subst hs
      unfold Fil.crash
      have : crashN ⟨bytes, bytes.length⟩ 0 = bytes.length := by
        unfold crashN
        simp
      rw [this]
      simp
    rw [hc]
    unfold oneF
    simp only [oneF_files, Int.zero_add]
  rw [← hd]
  exact hr.from hB
end Go.Proofs.Ytefjljdgdoklmaa
