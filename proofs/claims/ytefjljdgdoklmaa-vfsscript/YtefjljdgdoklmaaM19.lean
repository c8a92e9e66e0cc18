import Derived.Test.YtefjljdgdoklmaaM18
import Derived.Test.YtefjljdgdoklmaaM16
/-
  The document's Crash: files that are made anew.
-/
namespace Go.Proofs.Ytefjljdgdoklmaa
open Go.RowKit Go.Maps
set_option maxRecDepth 100000
set_option maxHeartbeats 1000000
section
variable {A : Nat → Prop} {w w' : World} {q : Nat} {r : RDisk} {bs : Nat} {ch : Value} {fv : Nat → Value}
/-- A new file, with its bytes in new memory. -/
theorem RRepAt.fresh2 (h : RRepAt A w q r bs ch fv) {A' : Nat → Prop} {g : Nat} {v : Value} {x : Fil} (hg : w.heap.size ≤ g) (t : Turns (fun _ => False) w w') (hc : w'.heap[g]? = some (.cells #[v, .int .i64 (x.synced : Nat)] 95 (0, 0))) (ho : OwnB w' v x.bytes) (hr : ∀ k, inRow v k → w.heap.size ≤ k)
    (hA : ∀ k, k < w.heap.size → A k → A' k) (hag : A' g) (har : ∀ k, inRow v k → A' k) : RRepAt A' w' q (r.setF g x) bs ch (fun k => if k = g then v else fv k) := by
  have h' := h.quiet t
  have hm := (h.mono hA).quiet t
  refine ⟨hm.cells, hm.synced, hm.chs, hm.af, hm.ay, hm.ac, ⟨fun p y hp => ?_, fun p p' y y' k hp hp' hne hk => ?_⟩, ?_⟩
  · by_cases e : p = g
    · subst e
      have hx : x = y := by simpa [RDisk.setF] using hp
      subst hx
      rw [if_pos rfl]
      exact ⟨hc, ho, hag, har⟩
    · rw [if_neg e]
      have hp' : r.files p = some y := by simpa [RDisk.setF, e] using hp
      exact hm.files.each p y hp'
  · by_cases e : p = g
    · rw [if_pos e] at hk
      have e' : ¬ p' = g := fun e2 => hne (e.trans e2.symm)
      rw [if_neg e']
      intro hk'
      have hp2 : r.files p' = some y' := by simpa [RDisk.setF, e'] using hp'
      have h1 := (h.row hp2 hk').2.2.2.2
      have h2 := hr k hk
      omega
    · rw [if_neg e] at hk
      have hp1 : r.files p = some y := by simpa [RDisk.setF, e] using hp
      by_cases e' : p' = g
      · rw [if_pos e']
        intro hk'
        have h1 := (h.row hp1 hk).2.2.2.2
        have h2 := hr k hk'
        omega
      · rw [if_neg e']
        exact h.files.apart p p' y y' k hp1 (by simpa [RDisk.setF, e'] using hp') hne hk
  · have hup : ∀ p, (∃ y, r.files p = some y) → ∃ y, (r.setF g x).files p = some y := fun p ⟨y, hy⟩ => by
      by_cases e : p = g
      · exact ⟨x, by simp [RDisk.setF, e]⟩
      · exact ⟨y, by simp [RDisk.setF, e, hy]⟩
    exact ⟨h.refs.fs, fun s p hs => hup p (h.refs.synced s p hs), fun c hc p hp => hup p (h.refs.changes c hc p hp)⟩
end
theorem fileOf_put (D : DataW Unit) (hD : IsMap D) (s t : ByteArray) (g : Nat) : fileOf (D.put (key t) (.lit (.int .i64 (g : Nat)))) s = if s = t then some g else fileOf D s := by
  by_cases e : s = t
  · rw [if_pos e, e]
    exact fileOf_lit _ _ _ (atKey_put_same hD (keyLit _) _ _)
  · rw [if_neg e]
    exact fileOf_congr (atKey_put_other (key_ne e) _ _)
/-- Files that were made anew: a name, its block, the file. -/
abbrev Anew := ByteArray × Nat × Fil
def newD (D : DataW Unit) (gs : List Anew) : DataW Unit := gs.foldl (fun E p => E.put (key p.1) (.lit (.int .i64 (p.2.1 : Nat)))) D
def newR (r : RDisk) (gs : List Anew) : RDisk := gs.foldl (fun r p => r.setF p.2.1 p.2.2) r
theorem newD_snoc (D : DataW Unit) (gs : List Anew) (p : Anew) : newD D (gs ++ [p]) = (newD D gs).put (key p.1) (.lit (.int .i64 (p.2.1 : Nat))) := by simp [newD]
theorem newR_snoc (r : RDisk) (gs : List Anew) (p : Anew) : newR r (gs ++ [p]) = (newR r gs).setF p.2.1 p.2.2 := by simp [newR]
theorem newD_map {D : DataW Unit} (hD : IsMap D) (gs : List Anew) : IsMap (newD D gs) := by
  induction gs generalizing D with
  | nil => exact hD
  | cons p r ih => exact ih (hD.put _ _)
theorem newD_other {D : DataW Unit} (hD : IsMap D) (gs : List Anew) (s : ByteArray) (hs : ∀ p ∈ gs, s ≠ p.1) : fileOf (newD D gs) s = fileOf D s := by
  induction gs generalizing D with
  | nil => rfl
  | cons p r ih =>
    show fileOf (newD (D.put (key p.1) _) r) s = _
    rw [ih (hD.put _ _) (fun q hq => hs q (by simp [hq])), fileOf_put D hD, if_neg (hs p (by simp))]
theorem newD_mem {D : DataW Unit} (hD : IsMap D) (gs : List Anew) (hnd : (gs.map (·.1)).Nodup) (p : Anew) (hp : p ∈ gs) : fileOf (newD D gs) p.1 = some p.2.1 := by
  induction gs generalizing D with
  | nil => cases hp
  | cons a r ih =>
    rw [List.map_cons, List.nodup_cons] at hnd
    rcases List.mem_cons.1 hp with rfl | hp
    · show fileOf (newD (D.put (key p.1) _) r) p.1 = _
      rw [newD_other (hD.put _ _) r p.1 (fun q hq e => hnd.1 (List.mem_map.2 ⟨q, hq, e.symm⟩)), fileOf_put D hD, if_pos rfl]
    · exact ih (hD.put _ _) hnd.2 hp
theorem newR_old (r : RDisk) (gs : List Anew) (g : Nat) (hg : ∀ p ∈ gs, g ≠ p.2.1) : (newR r gs).files g = r.files g := by
  induction gs generalizing r with
  | nil => rfl
  | cons p l ih =>
    show (newR (r.setF p.2.1 p.2.2) l).files g = _
    rw [ih _ (fun q hq => hg q (by simp [hq]))]
    simp [RDisk.setF, hg p (by simp)]
theorem newR_mem (r : RDisk) (gs : List Anew) (hnd : (gs.map (·.2.1)).Nodup) (p : Anew) (hp : p ∈ gs) : (newR r gs).files p.2.1 = some p.2.2 := by
  induction gs generalizing r with
  | nil => cases hp
  | cons a l ih =>
    rw [List.map_cons, List.nodup_cons] at hnd
    rcases List.mem_cons.1 hp with rfl | hp
    · show (newR (r.setF p.2.1 p.2.2) l).files p.2.1 = _
      rw [newR_old _ _ _ (fun q hq e => hnd.1 (List.mem_map.2 ⟨q, hq, e.symm⟩))]
      simp [RDisk.setF]
    · exact ih _ hnd.2 hp
theorem newR_rest (r : RDisk) (gs : List Anew) : (newR r gs).limit = r.limit ∧ (newR r gs).synced = r.synced ∧ (newR r gs).changes = r.changes ∧ (newR r gs).off = r.off ∧ (newR r gs).fuse = r.fuse ∧ (newR r gs).fault = r.fault ∧ (newR r gs).fail = r.fail ∧ (newR r gs).n = r.n := by
  induction gs generalizing r with
  | nil => exact ⟨rfl, rfl, rfl, rfl, rfl, rfl, rfl, rfl⟩
  | cons p l ih => exact ih (r.setF p.2.1 p.2.2)
theorem names_nodup {w : World} {b n : Nat} {D : DataW Unit} (h : Dir w b n D) : (namesOf D).Nodup := by
  obtain ⟨es, hD, hpw, _⟩ := World.ownsMap.entries h law9
  obtain ⟨es', hD', hko⟩ := World.ownsMap.keysOf h
  obtain rfl : es = es' := by rw [hD] at hD'; simpa using hD'
  subst hD
  have h1 : (strKeys (.map es : DataW Unit)).Nodup := by
    show (es.map fun p => strOf p.1).Nodup
    refine List.pairwise_map.2 (hpw.imp_of_mem fun {p q} hp' hq' hne e => hne ?_)
    obtain ⟨v1, hv1⟩ := hko p hp'
    obtain ⟨v2, hv2⟩ := hko q hq'
    obtain ⟨a, _, ha, _⟩ := Maps.keyOf_str Try.underlying9 hv1
    obtain ⟨c, _, hc, _⟩ := Maps.keyOf_str Try.underlying9 hv2
    rw [ha, hc] at e ⊢
    exact congrArg _ e
  have h2 : ((strKeys (.map es : DataW Unit)).mergeSort leB).Nodup := ((List.mergeSort_perm _ _).nodup_iff).2 h1
  unfold namesOf
  refine List.pairwise_map.2 (h2.imp fun hne e => hne ?_)
  have := congrArg (fun b : ByteArray => b.data.toList) e
  simpa [toBA] using this
theorem dir_look {A : Nat → Prop} {w : World} {q : Nat} {r : RDisk} {bs : Nat} {ch : Value} {fv : Nat → Value} (h : RRepAt A w q r bs ch fv) {K : Nat} {s : ByteArray} {g : Nat} (hs : fileOf (r.dir K) s = some g) : ∃ x, r.files g = some x := by
  rcases fileOf_foldR (r.changes.take K) h.synced.isMap hs with hs | ⟨c, h1, h2⟩
  · exact h.refs.synced s g hs
  · exact h.refs.changes c (List.mem_of_mem_take h1) g h2
theorem bytes_first {w : World} {a : Option Addr} {n c : Nat} {l : List (BitVec 8)} (h : Bytes w (.slice a n c) l) (m c' : Nat) (hm : m ≤ n) : Bytes w (.slice a m c') (l.take m) := by
  have hl := h.len
  obtain ⟨a', c'', e, hx⟩ := h
  cases e
  refine ⟨a, c', by rw [List.length_take, Nat.min_eq_left (by omega)], fun k hk => ?_⟩
  rw [List.length_take, Nat.min_eq_left (by omega)] at hk
  obtain ⟨b, off, e, hc⟩ := hx k (by omega)
  refine ⟨b, off, e, ?_⟩
  rw [hc]
  congr 2
  simp [List.getD, hk]
end Go.Proofs.Ytefjljdgdoklmaa

/-
  The document's Crash.
-/
namespace Go.Proofs.Ytefjljdgdoklmaa
open Go.RowKit Go.Maps
set_option maxRecDepth 100000
set_option maxHeartbeats 2000000
theorem alloc_keep {w : World} {a : Addr} {v : Value} (h : w.cell? a = some v) (o : Obj) : (w.alloc o).cell? a = some v :=
  (((Below.refl w.heap.size w).alloc (Nat.le_refl _) o).cell (block_lt_of_cell h)).trans h
/-- The blocks of a file system in the midst of the document's crash. -/
def Ab (A : Nat → Prop) (b : Nat) : Nat → Prop := fun k => (A k ∧ k < b) ∨ b < k
/-- The document's file system in the midst of a crash: so many of its files are made anew. -/
structure CMid (A : Nat → Prop) (w : World) (q : Nat) (r : RDisk) (D : DataW Unit) (ks : List Int) (bs : Nat) (ch : Value) (v : Value) (ka : Option Addr) (kn : Nat) (k : Nat) (gs : List Anew) (wr : World) : Prop where
  len : gs.length = k
  each : ∀ j p, gs[j]? = some p → (namesOf D)[j]? = some p.1 ∧ w.heap.size < p.2.1 ∧ p.2.1 < wr.heap.size ∧ ∃ g x, fileOf D p.1 = some g ∧ r.files g = some x ∧ p.2.2 = x.crash (ks.getD j 0)
  nd : (gs.map (·.2.1)).Nodup
  rep : ∃ fv, RRepAt (Ab A w.heap.size) wr q (newR r gs) bs ch fv
  dir : ∃ N, N ≤ 1000000 + k ∧ Dir wr w.heap.size N (newD D gs)
  names : SRow wr (w.heap.size + 1) v ((strKeys D).mergeSort leB)
  ints : Ints wr ka kn ks
  below : Below w.heap.size w wr
theorem newD_full {D : DataW Unit} (h : Full D) (gs : List Anew) : Full (newD D gs) := by
  induction gs generalizing D with
  | nil => exact h
  | cons p r ih => exact ih (h.put p.1.data.toList p.2.1)
/-- How many changes are kept. -/
theorem Ints.keep0 {S : Nat → Prop} {w w' : World} {a : Option Addr} {n : Nat} {ks : List Int} (h : Ints w a n ks) (t : Turns S w w') (ha : ∀ q o, a = some ⟨q, o, none⟩ → 0 < n → ¬ S q) : Ints w' a n ks :=
  ⟨h.1, fun k hk => let ⟨q, o, h1, h2⟩ := h.2 k hk; ⟨q, o, h1, t.cell h2 (ha q o h1 (by omega))⟩⟩
def keptN (dir : Int) (l : Nat) : Nat := (max dir 0 % ((l : Int) + 1)).toNat
theorem keptN_le (dir : Int) (l : Nat) : keptN dir l ≤ l ∧ ((keptN dir l : Nat) : Int) = max dir 0 % ((l : Int) + 1) := by
  have e1 := Int.emod_lt_of_pos (max dir 0) (show (0 : Int) < (l : Int) + 1 by omega)
  have e2 := Int.emod_nonneg (max dir 0) (show (l : Int) + 1 ≠ 0 by omega)
  unfold keptN
  omega
theorem rcrash_rep (A : Nat → Prop) (q : Nat) (r : RDisk) (dir : Int) (ka : Option Addr) (kn kc : Nat) (ks : List Int) (w : World) (h : RRep A w q r) (hn : RNum r) (hI : Ints w ka kn ks) (hIa : ∀ a o, ka = some ⟨a, o, none⟩ → 0 < kn → a < w.heap.size)
    (hks : ∀ k, -9223372036854775808 ≤ ks.getD k 0 ∧ ks.getD k 0 ≤ 9223372036854775807) (hsz : Maps.size (r.dir (keptN dir r.changes.length)) ≤ 1000000) (R : Ending → World → Prop)
    (HS : ∀ (gs : List Anew) w', gs.length = (namesOf (r.dir (keptN dir r.changes.length))).length →
      (∀ j p, gs[j]? = some p → (namesOf (r.dir (keptN dir r.changes.length)))[j]? = some p.1 ∧ w.heap.size < p.2.1 ∧ ∃ g x, fileOf (r.dir (keptN dir r.changes.length)) p.1 = some g ∧ r.files g = some x ∧ p.2.2 = x.crash (ks.getD j 0)) → (gs.map (·.2.1)).Nodup →
      RRep (Grow A w) w' q { newR r gs with synced := newD (r.dir (keptN dir r.changes.length)) gs, changes := [], off := false, fuse := -1, fault := -1 } → Turns A w w' → ∀ e, R (.returned e) w') :
    Calls Try.prog 64 #[.pointer (some ⟨q, 0, none⟩), .int .i64 dir, .slice ka kn kc] w R := by
  obtain ⟨bs, ch, fv, h⟩ := h
  obtain ⟨hk1, hk2⟩ := keptN_le dir r.changes.length
  have hdir := rdir_rep A q (keptN dir r.changes.length) r w ⟨bs, ch, fv, h⟩ hn hk1
  obtain ⟨ca, cc, hch⟩ := h.chs.len
  have c2 : w.cell? ⟨q, 2, none⟩ = some (.slice ca r.changes.length cc) := by rw [← hch]; exact cell_of_row w q 2 _ 84 (0, 0) h.cells
  have H := hide h
  have HN := hide hn
  have HI := hide hI
  have HIA := hide hIa
  have HKS := hide hks
  have HSZ := hide hsz
  have HD := hide hdir
  have HCH := hide hch
  have HSS := hide HS
  have hlc := hn.changes
  clear h hn hI hdir hch hIa hks hsz HS
  generalize hK : keptN dir r.changes.length = K at *
  clear hK
  generalize hLL : r.changes.length = LL at *
  have HK2 := hide hk2
  clear hk2
  go_enter Try.func64, Try.ntmps64
  go_upto_if 13 with (fail)
  go_cut [6] from 12 to 21 (fun v6 wx => v6 = .int .i64 (K : Nat) ∧ wx = w)
  case first =>
    rename_i kk rest jj kk' m1 m2
    clear rest
    by_cases hk0 : 0 < dir
    · have hkk : dir % ((LL : Int) + 1) = (K : Int) := by
        rw [HK2.out, show max dir 0 = dir by omega]
      go_wp2_with fail
      go_meet
      exact ⟨rfl, rfl⟩
    · have HK00 : Hid ((0 : Int) = (K : Int)) := by show (0 : Int) = (K : Int); rw [HK2.out, show max dir 0 = 0 by omega, Int.zero_emod]
      go_wp2_with fail
      go_meet
      exact ⟨by rw [← HK00.out], rfl⟩
  case rest =>
    obtain ⟨rfl, hwc⟩ := hcut
    rw [hwc]
    clear hwc c2
    have hqw := lt_of_heap H.out.cells
    generalize hDD : r.dir K = D at *
    have HDD := hide hDD
    clear hDD
    go_wp2_with fail
    refine HD.out.mono ?_
    rintro e w1 ⟨N, rfl, d1, b1⟩
    have D1 := hide d1
    have B1 := hide b1
    have hW1 : w.heap.size < w1.heap.size := d1.lt
    clear d1 b1 HD
    go_wp2_with fail
    refine (rsorted_any w.heap.size N D w1 D1.out HSZ.out).mono ?_
    rintro e w2 ⟨v, rfl, hr, b2⟩
    have hnod := names_nodup D1.out
    have hfull : Full D := by rw [← HDD.out]; exact fullR_fold _ H.out.refs.fs
    have hkle := strKeys_le D1.out Try.underlying9
    have hmap := D1.out.isMap
    have NOD := hide hnod
    have FULL := hide hfull
    have KLE := hide hkle
    have MAP := hide hmap
    have hnl : (namesOf D).length ≤ 1000000 := by
      obtain ⟨es, hes, _⟩ := hfull
      have h1 := HSZ.out
      rw [hes] at h1 ⊢
      simpa [namesOf, strKeys, Maps.size] using h1
    have M0 : Hid (CMid A w q r D ks bs ch v ka kn 0 [] w2) := hide (by
      have t2 : Turns (fun _ => False) w w2 := Turns.of_below (B1.out.trans (b2.mono B1.out.size)) _
      refine ⟨rfl, fun j p hp => by simp at hp, List.nodup_nil, ⟨fv, (H.out.mono (fun k hk ha => .inl ⟨ha, hk⟩)).quiet t2⟩, ⟨Maps.size D, by have := HSZ.out; omega, (D1.out.keep (Turns.of_below b2 (fun _ => False)) (fun x => x)).tight⟩, ?_, HI.out.keep t2 (fun _ _ _ x => x), B1.out.trans (b2.mono B1.out.size)⟩
      rcases hr with h | ⟨g, c, n, e1, e2, e3, e4, e5⟩
      · exact .inl h
      · exact .inr ⟨g, c, n, e1, e2, e3, by omega, e5⟩)
    clear hr b2 D1 B1 hnod hfull hkle hmap
    have hvl : ∃ va vc, v = .slice va (namesOf D).length vc := by
      rcases M0.out.names with ⟨h1, h2⟩ | ⟨g, c, n, e1, e2, _⟩
      · refine ⟨none, 0, ?_⟩
        rw [h2]
        unfold namesOf
        rw [h1]
        rfl
      · refine ⟨some ⟨g, 0, none⟩, c, ?_⟩
        rw [e1, e2]
        unfold namesOf
        rw [List.length_map]
    obtain ⟨va, vc, rfl⟩ := hvl
    generalize hNL : (namesOf D).length = NL at *
    have HNL := hide hNL
    clear hNL
    go_wp2_with fail
    go_loopw [9] (fun i wr => ∃ (k : Nat) (gs : List Anew), i = .int .i64 (k : Nat) ∧ k ≤ NL ∧ CMid A w q r D ks bs ch (.slice va NL vc) ka kn k gs wr) (fun i _ => NL - (intOf i).toNat)
    case atStart => exact ⟨0, [], rfl, Nat.zero_le _, M0.out⟩
    case round =>
      obtain ⟨k, gs, rfl, hk, hm⟩ := hrel
      have MM := hide hm
      clear hm M0
      by_cases hkn2 : k < NL
      · obtain ⟨s, hs⟩ : ∃ s, (namesOf D)[k]? = some s := ⟨_, List.getElem?_eq_getElem (by rw [HNL.out]; exact hkn2)⟩
        have hsm : s ∈ namesOf D := List.mem_of_getElem? hs
        obtain ⟨g1, hg1⟩ := names_file FULL.out hsm
        obtain ⟨x, hx⟩ := dir_look H.out (K := K) (by rw [HDD.out]; exact hg1)
        have hg1w := (H.out.file hx).2.2.2
        have hxb := HN.out.bytes g1 x hx
        have hssz : s.size ≤ maxLen := by
          obtain ⟨y, hy, he⟩ := List.mem_map.1 hsm
          rw [← he]
          have := KLE.out y ((List.mergeSort_perm _ _).mem_iff.1 hy)
          simpa [toBA, ByteArray.size] using this
        have hother : ∀ p ∈ gs, s ≠ p.1 := fun p hp e => by
          obtain ⟨j, hj, hpj⟩ := List.getElem_of_mem hp
          have h1 := (MM.out.each j p (by rw [List.getElem?_eq_getElem hj, hpj])).1
          rw [← e] at h1
          have hjk : j < k := by rw [← MM.out.len]; exact hj
          have hkl : k < (namesOf D).length := by rw [HNL.out]; exact hkn2
          have hjl : j < (namesOf D).length := by omega
          have e1 : (namesOf D)[j] = s := by rw [List.getElem?_eq_getElem hjl] at h1; simpa using h1
          have e2 : (namesOf D)[k] = s := by rw [List.getElem?_eq_getElem hkl] at hs; simpa using hs
          exact (List.pairwise_iff_getElem.1 NOD.out j k hjl hkl hjk) (e1.trans e2.symm)
        have hlook : fileOf (newD D gs) s = some g1 := by rw [newD_other MAP.out gs s hother]; exact hg1
        have hxr : (newR r gs).files g1 = some x := by
          rw [newR_old r gs g1 (fun p hp e => by
            obtain ⟨j, hj, hpj⟩ := List.getElem_of_mem hp
            have h1 := (MM.out.each j p (by rw [List.getElem?_eq_getElem hj, hpj])).2.1
            omega)]
          exact hx
        obtain ⟨fv2, hrep⟩ := MM.out.rep
        obtain ⟨N2, hN2, hdir2⟩ := MM.out.dir
        have hfile := hrep.files.each g1 x hxr
        obtain ⟨fa, fc, hfv⟩ := hfile.own.slice
        have hown : Bytes wr (.slice fa x.bytes.length fc) x.bytes := by rw [← hfv]; exact hfile.own.bytes
        have hfc : x.bytes.length ≤ fc := by
          rcases hfile.own with ⟨e1, e2⟩ | ⟨_, _, _, e1, e2, e3, _⟩
          · rw [e1]; exact Nat.zero_le _
          · rw [hfv] at e1; cases e1; omega
        have y0 : wr.cell? ⟨g1, 0, none⟩ = some (.slice fa x.bytes.length fc) := by rw [← hfv]; exact cell_of_row wr _ 0 _ 95 (0, 0) hfile.cell
        have y1 : wr.cell? ⟨g1, 1, none⟩ = some (.int .i64 (x.synced : Nat)) := cell_of_row wr _ 1 _ 95 (0, 0) hfile.cell
        obtain ⟨gn, hgn, rfl, n0⟩ : ∃ gn, w.heap.size < gn ∧ va = some ⟨gn, 0, none⟩ ∧ wr.cell? ⟨gn, k, none⟩ = some (.string s) := by
          rcases MM.out.names with ⟨_, h2⟩ | ⟨g, c, n, e1, e2, e3, e4, cs, e5, e6, e7⟩
          · cases h2; omega
          · cases e1
            refine ⟨g, e4, rfl, ?_⟩
            rw [cell_of_row wr g k cs 9 (0, 0) e5, e7 k (by simp only [strCells, List.length_map]; omega)]
            unfold namesOf at hs
            rw [List.getElem?_map] at hs
            unfold strCells
            rw [List.getElem?_map]
            cases hq : ((strKeys D).mergeSort leB)[k]? with
            | none => rw [hq] at hs; cases hs
            | some y =>
              rw [hq] at hs
              obtain rfl : toBA y = s := by simpa using hs
              rfl
        have hlk := hdir2.look81 s hssz
        rw [hlook] at hlk
        simp only [ptrOf] at hlk
        have i1 : (k : Int) < (NL : Int) := by omega
        have i0 : (0 : Int) ≤ (k : Int) := by omega
        have hcN := crashN_le x (ks.getD k 0) hxb.2
        have HOWN := hide hown
        have HREP := hide hrep
        have HDIR := hide hdir2
        have HX := hide hx
        have HG1 := hide hg1
        have HSK := hide hs
        have HOTH := hide hother
        obtain ⟨hxb1, hxb2⟩ := hxb
        have hcn : (crashN x (ks.getD k 0) : Int) = (x.synced : Int) + max (ks.getD k 0) 0 % ((x.bytes.length : Int) - x.synced + 1) := by
          have e1 := Int.emod_nonneg (max (ks.getD k 0) 0) (show (x.bytes.length : Int) - x.synced + 1 ≠ 0 by omega)
          unfold crashN
          omega
        have HCN := hide hcn
        clear hown hrep hdir2 hx hg1 hs hother hcn hfile hfv hlook hxr hsm
        generalize hXL : x.bytes.length = XL at *
        generalize hXS : x.synced = XS at *
        generalize hmm : crashN x (ks.getD k 0) = mm at *
        obtain ⟨kv, hkv⟩ : ∃ kv : Nat, mm = XS + kv := ⟨mm - XS, by have := HCN.out; have := Int.emod_nonneg (max (ks.getD k 0) 0) (show (XL : Int) - XS + 1 ≠ 0 by omega); omega⟩
        have HKV := hide hkv
        clear hkv
        obtain ⟨qb, hqb⟩ : ∃ qb : Bool, qb = decide (k < kn ∧ 0 < ks.getD k 0) := ⟨_, rfl⟩
        have HQB := hide hqb
        clear hqb
        go_upto_region 10 with (fail)
        go_cut [49] from 39 to 49 (fun v49 wx => v49 = .bool qb ∧ wx = wr)
        case first =>
          rename_i kk rest jj kk' m1 m2
          clear rest
          by_cases hkk : k < kn
          · obtain ⟨qa, oa, rfl, hka⟩ := MM.out.ints.2 k hkk
            have hki : (k : Int) < (kn : Int) := by omega
            have hqv : (decide (0 < ks.getD k 0)) = qb := by rw [HQB.out]; simp [hkk]
            generalize hkv2 : ks.getD k 0 = kz at *
            have HQV := hide hqv
            clear hqv
            go_wp2_with fail
            all_goals go_meet
            all_goals exact ⟨by rw [← HQV.out], rfl⟩
          · have hki : ¬ (k : Int) < (kn : Int) := by omega
            have hqv : qb = false := by rw [HQB.out]; simp [hkk]
            have HQV := hide hqv
            clear hqv
            go_wp2_with fail
            go_meet
            exact ⟨by rw [HQV.out], rfl⟩
        case rest =>
        obtain ⟨rfl, hwc1⟩ := hcut
        rw [hwc1]
        clear hwc1
        go_upto_if 49 with (fail)
        go_cut [11] from 50 to 65 (fun v11 wx => v11 = .int .i64 (kv : Nat) ∧ ∃ m, wx = wr.drewN m)
        case first =>
          rename_i kk rest jj kk' m1 m2
          clear rest
          cases qb with
          | true =>
            obtain ⟨hkk, hpos⟩ := of_decide_eq_true HQB.out.symm
            obtain ⟨qa, oa, rfl, hka⟩ := MM.out.ints.2 k hkk
            have hki : (k : Int) < (kn : Int) := by omega
            obtain ⟨hb1, hb2⟩ := HKS.out k
            generalize hkv2 : ks.getD k 0 = kz at *
            have hval : kz % ((XL : Int) - XS + 1) = (kv : Int) := by
              have e1 := HCN.out
              have e2 := HKV.out
              rw [show max kz 0 = kz by omega] at e1
              omega
            have hnz : ¬ ((XL : Int) - XS + 1) = 0 := by omega
            go_wp2_with fail
            go_quiet (fail)
            go_wp2_with fail
            go_meet
            exact ⟨by first | rfl | rw [hval], _, rfl⟩
          | false =>
            have hqf := of_decide_eq_false HQB.out.symm
            have h0 : (0 : Int) = (kv : Int) := by
              have e1 := HCN.out
              have e2 := HKV.out
              have e3 : max (ks.getD k 0) 0 = 0 := by
                by_cases hkk : k < kn
                · have : ¬ 0 < ks.getD k 0 := fun h => hqf ⟨hkk, h⟩
                  omega
                · have := MM.out.ints.1
                  rw [List.getD_eq_getElem?_getD, List.getElem?_eq_none (by omega)]; rfl
              rw [e3, Int.zero_emod] at e1
              omega
            have H00 := hide h0
            clear h0
            go_wp2_with fail
            go_meet
            exact ⟨by rw [← H00.out], 0, rfl⟩
        case rest =>
          obtain ⟨rfl, m, hwc⟩ := hcut
          have tW : Turns (fun _ => False) wr (wr.drewN m) := (Turns.refl _ wr).drewN m
          have n1 : (wr.drewN m).cell? ⟨gn, k, none⟩ = some (.string s) := n0
          have y2 : (wr.drewN m).cell? ⟨g1, 0, none⟩ = some (.slice fa XL fc) := y0
          have y3 : (wr.drewN m).cell? ⟨g1, 1, none⟩ = some (.int .i64 (XS : Nat)) := y1
          have HREP2 := hide (HREP.out.quiet tW)
          have HDIR2 := hide (HDIR.out.keep tW (fun x => x))
          have HOWN2 : Hid (Bytes (wr.drewN m) (.slice fa XL fc) x.bytes) := HOWN.out
          have NAM2 := hide (MM.out.names.keep tW (fun _ _ x => x))
          have INT2 := hide (MM.out.ints.keep tW (fun _ _ _ x => x))
          have BEL2 := hide (show Below w.heap.size w (wr.drewN m) from MM.out.below.trans (tW.below (by exact MM.out.below.size) (fun _ x => x.elim)))
          have HSZW := hide (show (wr.drewN m).heap.size = wr.heap.size from rfl)
          rw [hwc]
          clear hwc n0 y0 y1 tW hlk
          generalize wr.drewN m = W at *
          have hWw : w.heap.size ≤ W.heap.size := BEL2.out.size
          -- the bytes, in new memory
          have bA : Below W.heap.size W (W.drew.alloc (.cells #[] 5)) := ((Below.refl _ _).drew).alloc (Nat.le_refl _) _
          have hsA : (W.drew.alloc (.cells #[] 5)).heap.size = W.heap.size + 1 := by rw [World.size_alloc]; rfl
          obtain ⟨g3, c3, w3, hr3, hg3, hrow3, hb3, hc3, _⟩ := append_bytes2 (W.drew.alloc (.cells #[] 5)) W.heap.size (some ⟨W.heap.size, 0, none⟩) 0 0 [] rfl (.slice fa mm fc) (x.bytes.take mm) mm (by rw [List.length_take, Nat.min_eq_left (by rw [hXL]; exact hcN)]) (Bytes.below (bytes_first HOWN2.out mm fc hcN) bA) (by omega)
            (.inr ⟨_, rfl, Nat.le_refl _, Nat.le_refl _, #[], heap_alloc_new W.drew _, Nat.le_refl _, fun k hk => by simp [cellsOf] at hk⟩) (by omega)
          rw [Nat.zero_add] at hr3 hc3
          rw [List.nil_append] at hrow3
          have b3 : Below W.heap.size W w3 := bA.trans hb3
          have x4 := heap_alloc_new w3 (.cells #[.slice (some ⟨g3, 0, none⟩) mm c3, .int .i64 (mm : Nat)] 95)
          have b4 : Below W.heap.size W (w3.alloc (.cells #[.slice (some ⟨g3, 0, none⟩) mm c3, .int .i64 (mm : Nat)] 95)) := b3.alloc b3.size _
          have hdir4 : Dir (w3.alloc (.cells #[.slice (some ⟨g3, 0, none⟩) mm c3, .int .i64 (mm : Nat)] 95)) w.heap.size N2 (newD D gs) := HDIR2.out.keep (Turns.of_below b4 (fun _ => False)) (fun x => x)
          obtain ⟨w5, hup, hdir5, ht5⟩ := hdir4.store law9 Try.underlying81 (by unfold maxLen; omega) (keyOf9 s hssz) (ptrR_some w3.heap.size)
          have u3 := (b3.cell (block_lt_of_cell n1)).trans n1
          have u3a := (b3.cell (block_lt_of_cell y2)).trans y2
          have u3b := (b3.cell (block_lt_of_cell y3)).trans y3
          have u4 := alloc_keep u3 (.cells #[.slice (some ⟨g3, 0, none⟩) mm c3, .int .i64 (mm : Nat)] 95)
          have u4a := alloc_keep u3a (.cells #[.slice (some ⟨g3, 0, none⟩) mm c3, .int .i64 (mm : Nat)] 95)
          have u4b := alloc_keep u3b (.cells #[.slice (some ⟨g3, 0, none⟩) mm c3, .int .i64 (mm : Nat)] 95)
          have t5 : Turns (fun j => j = w.heap.size) (w3.alloc (.cells #[.slice (some ⟨g3, 0, none⟩) mm c3, .int .i64 (mm : Nat)] 95)) w5 := (Turns.of_grown ht5.grown).mono fun k _ e => by cases e; rfl
          have u5 := t5.cell u4 (by show ¬ gn = w.heap.size; omega)
          have u5a := t5.cell u4a (by show ¬ g1 = w.heap.size; omega)
          have u5b := t5.cell u4b (by show ¬ g1 = w.heap.size; omega)
          have hmm2 : (XS : Int) + (kv : Int) = (mm : Int) := by have := HKV.out; omega
          have HR3 := hide hr3
          have ROW3 := hide hrow3
          have B3 := hide b3
          have B4 := hide b4
          have X4 := hide x4
          have D5 := hide hdir5
          have T5 := hide t5
          have m1 : (0 : Int) ≤ (mm : Int) := by omega
          have m2 : (mm : Int) ≤ (XL : Int) := by omega
          have m3 : (mm : Int) ≤ (fc : Int) := by omega
          have m4 : mm ≤ fc := by omega
          have hwr : IntKind.i64.wrap (mm : Int) = (mm : Int) := wrapI _ (by omega) (by omega)
          have hwr2 : IntKind.i64.wrap ((XS : Int) + (kv : Int)) = (mm : Int) := by rw [hmm2]; exact hwr
          clear hr3 hrow3 hb3 b3 b4 x4 hdir4 hdir5 ht5 t5 bA
          go_wp2_with fail
          go_region_held_law (fun w' => w'.cell? ⟨gn, k, none⟩ = some (.string s) ∧ w'.cell? ⟨g1, 0, none⟩ = some (.slice fa XL fc) ∧ w'.cell? ⟨g1, 1, none⟩ = some (.int .i64 (XS : Nat))) (first | (with_reducible exact ⟨u5, u5a, u5b⟩) | (with_reducible exact ⟨u4, u4a, u4b⟩) | (with_reducible exact ⟨u3, u3a, u3b⟩) | (simp only [World.cell?_drew]; with_reducible exact ⟨n1, y2, y3⟩) | exact ⟨alloc_keep (w := W.drew) n1 _, alloc_keep (w := W.drew) y2 _, alloc_keep (w := W.drew) y3 _⟩) (first
            | (refine step_append_run rfl (.tmp 71) (.tmp 82) 28 rfl (.slice (some ⟨W.heap.size, 0, none⟩) 0 0) (.slice fa mm fc) rfl rfl _ _ (HR3.out _) 83 rfl ?_; simp only [Act.put, List.setIfInBounds_toArray, List.set_cons_zero, List.set_cons_succ]))
          go_wp2_with fail
          go_roundw
          case rel =>
            have hcr : x.crash (ks.getD k 0) = ⟨x.bytes.take mm, mm⟩ := by unfold Fil.crash; rw [hmm]
            have hs3 : W.heap.size ≤ w3.heap.size := B3.out.size
            have hs5 : w3.heap.size < w5.heap.size := Nat.lt_of_lt_of_le (by rw [World.size_alloc]; omega) T5.out.size
            have hszw := HSZW.out
            have t4 : Turns (fun _ => False) W (w3.alloc (.cells #[.slice (some ⟨g3, 0, none⟩) mm c3, .int .i64 (mm : Nat)] 95)) := Turns.of_below B4.out _
            have hbw : w.heap.size < W.heap.size := HDIR2.out.lt
            refine ⟨k + 1, gs ++ [(s, w3.heap.size, x.crash (ks.getD k 0))], by go_num, by omega, ⟨by rw [List.length_append, MM.out.len]; rfl, fun j p hp => ?_, ?_, ?_, ⟨N2 + 1, by omega, by rw [newD_snoc]; exact D5.out⟩, ?_, ?_, ?_⟩⟩
            · rcases Nat.lt_or_ge j gs.length with hj | hj
              · rw [List.getElem?_append_left hj] at hp
                obtain ⟨e1, e2, e3, e4⟩ := MM.out.each j p hp
                exact ⟨e1, e2, by omega, e4⟩
              · rw [List.getElem?_append_right hj] at hp
                have hj0 : j - gs.length = 0 := by
                  rcases Nat.eq_zero_or_pos (j - gs.length) with h | h
                  · exact h
                  · rw [List.getElem?_eq_none (by simp; omega)] at hp; cases hp
                rw [hj0] at hp
                obtain rfl : (s, w3.heap.size, x.crash (ks.getD k 0)) = p := by simpa using hp
                have hjk : j = k := by have := MM.out.len; omega
                subst hjk
                exact ⟨HSK.out, by show w.heap.size < w3.heap.size; omega, by show w3.heap.size < w5.heap.size; omega, g1, x, HG1.out, HX.out, rfl⟩
            · rw [List.map_append]
              refine List.nodup_append.2 ⟨MM.out.nd, by simp, fun a ha b hb e => ?_⟩
              obtain ⟨p, hp, rfl⟩ := List.mem_map.1 ha
              obtain ⟨j, hj, hpj⟩ := List.getElem_of_mem hp
              have h1 := (MM.out.each j p (by rw [List.getElem?_eq_getElem hj, hpj])).2.2.1
              have h2 : b = w3.heap.size := by simpa using hb
              omega
            · rw [newR_snoc]
              refine ⟨_, (RRepAt.fresh2 (A' := Ab A w.heap.size) (v := .slice (some ⟨g3, 0, none⟩) mm c3) (x := x.crash (ks.getD k 0)) HREP2.out hs3 t4 (by rw [hcr]; exact X4.out) ?_ ?_ (fun _ _ h => h) (.inr (by omega)) ?_).keep T5.out ?_⟩
              · rw [hcr]
                refine .inr ⟨g3, c3, mm, rfl, ?_, hc3, RowC.below ROW3.out ((Below.refl _ _).alloc (Nat.le_refl _) _)⟩
                rw [List.length_take, Nat.min_eq_left (by rw [hXL]; exact hcN)]
              · intro k hk
                obtain ⟨_, _, e⟩ := hk
                cases e
                exact hg3
              · intro k hk
                obtain ⟨_, _, e⟩ := hk
                cases e
                exact .inr (by omega)
              · intro k _ hk e
                rcases hk with ⟨_, h⟩ | h <;> omega
            · refine (NAM2.out.keep t4 (fun _ _ x => x)).keep T5.out (fun k hk e => ?_)
              have := ((NAM2.out.keep t4 (fun _ _ x => x)).row hk).1
              omega
            · exact (INT2.out.keep t4 (fun _ _ _ x => x)).keep0 T5.out (fun a o e h0 => by have := HIA.out a o e h0; omega)
            · exact (BEL2.out.trans (B4.out.mono hWw)).trans (T5.out.below (Nat.le_trans hWw B4.out.size) (fun k e => by omega))
          case measure => simp [intOf]; omega
      · obtain rfl : k = NL := by omega
        obtain ⟨fv2, hrep⟩ := MM.out.rep
        obtain ⟨N2, hN2, hdir2⟩ := MM.out.dir
        have hcells := hrep.cells
        have q1 := cell_of_row wr q 1 _ 84 (0, 0) hcells
        have q2 := cell_of_row wr q 2 _ 84 (0, 0) hcells
        have q3 := cell_of_row wr q 3 _ 84 (0, 0) hcells
        have q4 := cell_of_row wr q 4 _ 84 (0, 0) hcells
        have q5 := cell_of_row wr q 5 _ 84 (0, 0) hcells
        have z1 := frozen_of_row wr q 1 _ 84 hcells
        have z2 := frozen_of_row wr q 2 _ 84 hcells
        have z3 := frozen_of_row wr q 3 _ 84 hcells
        have z4 := frozen_of_row wr q 4 _ 84 hcells
        have z5 := frozen_of_row wr q 5 _ 84 hcells
        simp [RDisk.cells, rfCells] at q1 q2 q3 q4 q5
        have HREP := hide hrep
        have HDIR := hide hdir2
        have HCELLS := hide hcells
        clear hrep hdir2 hcells
        go_wp2_with fail
        go_end0
        have t5 := (((((Tick.refl HCELLS.out).set 1 (.map (some w.heap.size))).set 2 (.slice none 0 0)).set 3 (.bool false)).set 4 (.int .i64 (-1))).set 5 (.int .i64 (-1))
        have u5 := Turns.of_tick t5
        have hlen : gs.length = (namesOf D).length := by rw [HNL.out]; exact MM.out.len
        have hnames : gs.map (·.1) = namesOf D := by
          refine List.ext_getElem (by rw [List.length_map]; exact hlen) fun j h1 h2 => ?_
          have hj : j < gs.length := by simpa using h1
          have := (MM.out.each j gs[j] (List.getElem?_eq_getElem hj)).1
          rw [List.getElem?_eq_getElem h2] at this
          rw [List.getElem_map]
          simpa using this.symm
        have hnd1 : (gs.map (·.1)).Nodup := by rw [hnames]; exact NOD.out
        have hold : ∀ g, g < w.heap.size → (newR r gs).files g = r.files g := fun g hg => newR_old r gs g (fun p hp e => by
          obtain ⟨j, hj, hpj⟩ := List.getElem_of_mem hp
          have h1 := (MM.out.each j p (by rw [List.getElem?_eq_getElem hj, hpj])).2.1
          omega)
        refine HSS.out gs _ (by rw [hlen, HNL.out]) (fun j p hp => by
          obtain ⟨e1, e2, _, e4⟩ := MM.out.each j p hp
          exact ⟨e1, e2, e4⟩) MM.out.nd ⟨w.heap.size, .slice none 0 0, fv2, ?_⟩ ?_ _
        · refine ⟨t5.1, (HDIR.out.keep u5 (by omega)).tight, .inl ⟨rfl, rfl⟩, .inl H.out.af, .inr (Nat.le_refl _), fun k hk => ?_, ⟨fun g x hg => ?_, HREP.out.files.apart⟩, ⟨newD_full FULL.out gs, fun s g hs => ?_, fun c hc => by cases hc⟩⟩
          · obtain ⟨_, _, e⟩ := hk
            cases e
          · have hg' : (newR r gs).files g = some x := hg
            exact ((HREP.out.files.each g x hg').mono (A' := Grow A w) fun k _ hk => hk.elim (fun h => .inl h.1) (fun h => .inr (Nat.le_of_lt h))).keep u5 (HREP.out.file hg').1 fun k hk => (HREP.out.row hg' hk).1
          · by_cases hm : ∃ p ∈ gs, s = p.1
            · obtain ⟨p, hp, rfl⟩ := hm
              have h1 := newD_mem MAP.out gs hnd1 p hp
              have h2 : fileOf (newD D gs) p.1 = some g := hs
              rw [h1] at h2
              obtain rfl : p.2.1 = g := by simpa using h2
              exact ⟨p.2.2, newR_mem r gs MM.out.nd p hp⟩
            · have h1 : fileOf (newD D gs) s = some g := hs
              rw [newD_other MAP.out gs s (fun p hp e => hm ⟨p, hp, e⟩)] at h1
              obtain ⟨x, hx⟩ := dir_look H.out (K := K) (by rw [HDD.out]; exact h1)
              exact ⟨x, by show (newR r gs).files g = some x; rw [hold g (H.out.file hx).2.2.2]; exact hx⟩
        · exact (Turns.of_below MM.out.below A).trans (u5.mono fun k _ e => by rw [e]; exact H.out.af)
end Go.Proofs.Ytefjljdgdoklmaa

/-
  The two file systems side by side: plain mathematics.
-/
namespace Go.Proofs.Ytefjljdgdoklmaa
open Go.RowKit Go.Maps

def noName : ByteArray := ⟨#[]⟩
/-- A change, its file called by another name. -/
def Chg.to (rho : Nat → Nat) (c : Chg) : Chg := ⟨c.went, c.became, c.file.map rho⟩
/-- The directory behind the first k changes. -/
def Disk.dirAt (d : Disk) (k : Nat) : DataW Unit := (d.changes.take k).foldl applyD d.synced
/-- A file that the synced directory or a change tells of. -/
def Disk.live (d : Disk) (g : Nat) : Prop := (∃ s, fileOf d.synced s = some g) ∨ ∃ c, c ∈ d.changes ∧ c.file = some g
structure Sim (rho : Nat → Nat) (d : Disk) (r : RDisk) : Prop where
  limit : r.limit = d.limit
  on : r.off = !d.on
  n : r.n = d.ops
  fuse : r.fuse = max d.fuse (-1)
  fault : r.fault = max d.fault (-1)
  fail : 0 ≤ d.fault → r.fail = d.fail ∧ d.fail ≠ 0
  changes : r.changes = d.changes.map (Chg.to rho)
  synced : ∀ s, fileOf r.synced s = (fileOf d.synced s).map rho
  files : ∀ g, d.live g → r.files (rho g) = d.files g
  inj : ∀ g g', d.live g → d.live g' → rho g = rho g' → g = g'
  names : ∀ s, fileOf d.names s = fileOf (d.changes.foldl applyD d.synced) s
  empty : fileOf d.synced noName = none
  became : ∀ c, c ∈ d.changes → ∀ g, c.file = some g → c.became ≠ noName
  dmap : IsMap d.synced
  nmap : IsMap d.names
  rmap : IsMap r.synced

theorem size_zero {s : ByteArray} (h : s.size = 0) : s = noName := by
  obtain ⟨⟨l⟩⟩ := s
  cases l with
  | nil => rfl
  | cons a t => simp [ByteArray.size] at h
/-- One change, in both words. -/
theorem apply_both (rho : Nat → Nat) (D E : DataW Unit) (hD : IsMap D) (hE : IsMap E) (c : Chg) (h : ∀ s, fileOf E s = (fileOf D s).map rho) (h0 : fileOf D noName = none) (hc : ∀ g, c.file = some g → c.became ≠ noName) :
    (∀ s, fileOf (applyR E (c.to rho)) s = (fileOf (applyD D c) s).map rho) ∧ fileOf (applyD D c) noName = none := by
  obtain ⟨went, became, file⟩ := c
  refine ⟨fun s => ?_, ?_⟩
  · rw [fileOf_applyR' E hE, fileOf_apply D hD]
    cases file with
    | none =>
      show (if s = went ∧ went.size ≠ 0 then none else fileOf E s) = (if s = went then none else fileOf D s).map rho
      by_cases e : s = went
      · rw [if_pos e]
        by_cases hw : went.size = 0
        · rw [if_neg (fun x => x.2 hw), h, e, size_zero hw, h0]
        · rw [if_pos ⟨e, hw⟩]; rfl
      · rw [if_neg e, if_neg (fun x => e x.1), h]
    | some g =>
      show (if s = became then some (rho g) else if s = went ∧ went.size ≠ 0 then none else fileOf E s) = (if s = became then some g else if s = went then none else fileOf D s).map rho
      by_cases e1 : s = became
      · rw [if_pos e1, if_pos e1]; rfl
      · rw [if_neg e1, if_neg e1]
        by_cases e : s = went
        · rw [if_pos e]
          by_cases hw : went.size = 0
          · rw [if_neg (fun x => x.2 hw), h, e, size_zero hw, h0]
          · rw [if_pos ⟨e, hw⟩]; rfl
        · rw [if_neg e, if_neg (fun x => e x.1), h]
  · rw [fileOf_apply D hD]
    cases file with
    | none =>
      show (if noName = went then none else fileOf D noName) = none
      split
      · rfl
      · exact h0
    | some g =>
      show (if noName = became then some g else if noName = went then none else fileOf D noName) = none
      rw [if_neg (fun e => hc g rfl e.symm)]
      split
      · rfl
      · exact h0
theorem fold_both (rho : Nat → Nat) (l : List Chg) : ∀ (D E : DataW Unit), IsMap D → IsMap E → (∀ s, fileOf E s = (fileOf D s).map rho) → fileOf D noName = none → (∀ c, c ∈ l → ∀ g, c.file = some g → c.became ≠ noName) →
    (∀ s, fileOf ((l.map (Chg.to rho)).foldl applyR E) s = (fileOf (l.foldl applyD D) s).map rho) ∧ fileOf (l.foldl applyD D) noName = none := by
  induction l with
  | nil => exact fun D E _ _ h h0 _ => ⟨h, h0⟩
  | cons c r ih =>
    intro D E hD hE h h0 hc
    have h1 := apply_both rho D E hD hE c h h0 (hc c (by simp))
    exact ih _ _ (isMap_apply hD c) (isMap_applyR hE _) h1.1 h1.2 (fun c' h' => hc c' (by simp [h']))
section
variable {rho : Nat → Nat} {d : Disk} {r : RDisk}
theorem Sim.dir (h : Sim rho d r) (k : Nat) (s : ByteArray) : fileOf (r.dir k) s = (fileOf (d.dirAt k) s).map rho := by
  unfold RDisk.dir Disk.dirAt
  rw [h.changes, ← List.map_take]
  exact (fold_both rho (d.changes.take k) d.synced r.synced h.dmap h.rmap h.synced h.empty (fun c hc => h.became c (List.mem_of_mem_take hc))).1 s
theorem Sim.now (h : Sim rho d r) (s : ByteArray) : fileOf r.now s = (fileOf d.names s).map rho := by
  rw [h.names]
  unfold RDisk.now
  rw [h.changes]
  exact (fold_both rho d.changes d.synced r.synced h.dmap h.rmap h.synced h.empty h.became).1 s
theorem Sim.noEmpty (h : Sim rho d r) : fileOf d.names noName = none := by
  rw [h.names]
  exact (fold_both rho d.changes d.synced r.synced h.dmap h.rmap h.synced h.empty h.became).2
/-- What is named now is live. -/
theorem Sim.named (h : Sim rho d r) {s : ByteArray} {g : Nat} (hs : fileOf d.names s = some g) : d.live g := by
  rw [h.names] at hs
  rcases fileOf_folded d.changes h.dmap hs with hs | ⟨c, h1, h2⟩
  · exact .inl ⟨s, hs⟩
  · exact .inr ⟨c, h1, h2⟩
theorem tick_max (z : Int) : tick (max z (-1)) = max (tick z) (-1) := by
  unfold tick
  split <;> split <;> omega
theorem Sim.tick (h : Sim rho d r) : Sim rho d.tick r.tick where
  limit := h.limit
  on := h.on
  n := by show r.n + 1 = d.ops + 1; rw [h.n]
  fuse := by show Ytefjljdgdoklmaa.tick r.fuse = max (Ytefjljdgdoklmaa.tick d.fuse) (-1); rw [h.fuse, tick_max]
  fault := by show Ytefjljdgdoklmaa.tick r.fault = max (Ytefjljdgdoklmaa.tick d.fault) (-1); rw [h.fault, tick_max]
  fail := fun h0 => h.fail (by
    have h1 : 0 ≤ Ytefjljdgdoklmaa.tick d.fault := h0
    unfold Ytefjljdgdoklmaa.tick at h1
    split at h1 <;> omega)
  changes := h.changes
  synced := h.synced
  files := h.files
  inj := h.inj
  names := h.names
  empty := h.empty
  became := h.became
  dmap := h.dmap
  nmap := h.nmap
  rmap := h.rmap
theorem Sim.guard (h : Sim rho d r) (right : Bool) : Sim rho (d.guard right).2 (r.begin right).2 ∧ ((d.guard right).1 = none → (r.begin right).1 = 0 ∧ (d.guard right).2 = d.tick ∧ (r.begin right).2 = r.tick) ∧ ∀ z, (d.guard right).1 = some z → (r.begin right).1 = z ∧ z ≠ 0 := by
  have bad : ∀ (e : Int) (d1 : Disk) (r1 : RDisk), d.guard right = (some e, d1) → r.begin right = (e, r1) → e ≠ 0 → Sim rho d1 r1 → Sim rho (d.guard right).2 (r.begin right).2 ∧ ((d.guard right).1 = none → (r.begin right).1 = 0 ∧ (d.guard right).2 = d.tick ∧ (r.begin right).2 = r.tick) ∧ ∀ z, (d.guard right).1 = some z → (r.begin right).1 = z ∧ z ≠ 0 := by
    intro e d1 r1 h1 h2 h3 h4
    rw [h1, h2]
    refine ⟨h4, fun x => (by cases x), fun z x => ?_⟩
    obtain rfl : e = z := by simpa using x
    exact ⟨rfl, h3⟩
  have hon := h.on
  have hf := h.fuse
  have hg := h.fault
  cases right with
  | false => exact bad 2 d r rfl rfl (by decide) h
  | true =>
    cases hd : d.on with
    | false =>
      have ho : r.off = true := by rw [hon, hd]; rfl
      refine bad 9 d r ?_ ?_ (by decide) h
      · unfold Disk.guard; rw [if_neg (by decide), if_pos hd]
      · unfold RDisk.begin RDisk.op; rw [if_pos rfl, if_pos ho]
    | true =>
      have ho : ¬ r.off = true := by rw [hon, hd]; decide
      have hd' : ¬ d.on = false := by rw [hd]; decide
      by_cases h1 : d.fuse = 0
      · refine bad 9 { d.tick with on := false } { r.tick with off := true } ?_ ?_ (by decide) { h.tick with on := rfl }
        · unfold Disk.guard; rw [if_neg (by decide), if_neg hd', if_pos h1]
        · unfold RDisk.begin RDisk.op; rw [if_pos rfl, if_neg ho, if_pos (by omega)]
      · by_cases h2 : d.fault = 0
        · have h3 := h.fail (by omega)
          refine bad d.fail d.tick r.tick ?_ ?_ h3.2 h.tick
          · unfold Disk.guard; rw [if_neg (by decide), if_neg hd', if_neg h1, if_pos h2]
          · unfold RDisk.begin RDisk.op; rw [if_pos rfl, if_neg ho, if_neg (by omega), if_pos (by omega), h3.1]
        · have e1 : d.guard true = (none, d.tick) := by unfold Disk.guard; rw [if_neg (by decide), if_neg hd', if_neg h1, if_neg h2]
          have e2 : r.begin true = (0, r.tick) := by unfold RDisk.begin RDisk.op; rw [if_pos rfl, if_neg ho, if_neg (by omega), if_neg (by omega)]
          rw [e1, e2]
          exact ⟨h.tick, fun _ => ⟨rfl, rfl, rfl⟩, fun z x => by cases x⟩
/-- A file's bytes are others, in both. -/
theorem Sim.setF (h : Sim rho d r) {g : Nat} (hg : d.live g) (x : Fil) : Sim rho (d.setF g x) (r.setF (rho g) x) where
  limit := h.limit
  on := h.on
  n := h.n
  fuse := h.fuse
  fault := h.fault
  fail := h.fail
  changes := h.changes
  synced := h.synced
  files := fun g' hg' => by
    show (if rho g' = rho g then some x else r.files (rho g')) = if g' = g then some x else d.files g'
    by_cases e : g' = g
    · rw [if_pos e, e, if_pos rfl]
    · rw [if_neg e, if_neg (fun e' => e (h.inj g' g hg' hg e'))]
      exact h.files g' hg'
  inj := h.inj
  names := h.names
  empty := h.empty
  became := h.became
  dmap := h.dmap
  nmap := h.nmap
  rmap := h.rmap
/-- A change that tells of no new file, in both. -/
theorem Sim.change (h : Sim rho d r) (c : Chg) (hc : ∀ g, c.file = some g → d.live g ∧ c.became ≠ noName) : Sim rho (d.change c) (r.change (c.to rho)) := by
  have hlive : ∀ g, (d.change c).live g → d.live g := fun g hg => by
    rcases hg with hg | ⟨c', h1, h2⟩
    · exact .inl hg
    · rcases List.mem_append.1 h1 with h1 | h1
      · exact .inr ⟨c', h1, h2⟩
      · obtain rfl : c' = c := by simpa using h1
        exact (hc g h2).1
  exact {
    limit := h.limit
    on := h.on
    n := h.n
    fuse := h.fuse
    fault := h.fault
    fail := h.fail
    changes := by show r.changes ++ [c.to rho] = (d.changes ++ [c]).map (Chg.to rho); rw [h.changes, List.map_append]; rfl
    synced := h.synced
    files := fun g hg => h.files g (hlive g hg)
    inj := fun g g' hg hg' => h.inj g g' (hlive g hg) (hlive g' hg')
    names := fun s => by
      show fileOf (applyD d.names c) s = fileOf ((d.changes ++ [c]).foldl applyD d.synced) s
      rw [List.foldl_append]
      show _ = fileOf (applyD (d.changes.foldl applyD d.synced) c) s
      rw [fileOf_apply d.names h.nmap, fileOf_apply _ (isMap_fold d.changes h.dmap), h.names]
    empty := h.empty
    became := fun c' h1 g hg => by
      rcases List.mem_append.1 h1 with h1 | h1
      · exact h.became c' h1 g hg
      · obtain rfl : c' = c := by simpa using h1
        exact (hc g hg).2
    dmap := h.dmap
    nmap := isMap_apply h.nmap c
    rmap := h.rmap }
end
end Go.Proofs.Ytefjljdgdoklmaa

/-
  The two file systems side by side: new files, a synced directory, a crash.
-/
namespace Go.Proofs.Ytefjljdgdoklmaa
open Go.RowKit Go.Maps
section
variable {rho : Nat → Nat} {d : Disk} {r : RDisk}
/-- What files that are not live are called does not matter. -/
theorem Sim.recall (h : Sim rho d r) {rho' : Nat → Nat} (he : ∀ g, d.live g → rho' g = rho g) : Sim rho' d r where
  limit := h.limit
  on := h.on
  n := h.n
  fuse := h.fuse
  fault := h.fault
  fail := h.fail
  changes := by
    rw [h.changes]
    refine List.map_congr_left fun c hc => ?_
    obtain ⟨went, became, file⟩ := c
    cases file with
    | none => rfl
    | some g => show Chg.mk went became (some (rho g)) = Chg.mk went became (some (rho' g)); rw [he g (.inr ⟨_, hc, rfl⟩)]
  synced := fun s => by
    rw [h.synced]
    cases e : fileOf d.synced s with
    | none => rfl
    | some g => show some (rho g) = some (rho' g); rw [he g (.inl ⟨s, e⟩)]
  files := fun g hg => by rw [he g hg]; exact h.files g hg
  inj := fun g g' hg hg' e => h.inj g g' hg hg' (by rw [← he g hg, ← he g' hg']; exact e)
  names := h.names
  empty := h.empty
  became := h.became
  dmap := h.dmap
  nmap := h.nmap
  rmap := h.rmap
theorem Sim.add (h : Sim rho d r) (name : ByteArray) (hn : name ≠ noName) (g g' : Nat) (hg : ¬ d.live g) (hg' : ∀ k, d.live k → rho k ≠ g') : Sim (fun k => if k = g then g' else rho k) (d.add name g) (r.add name g') := by
  have hne : ∀ k, d.live k → k ≠ g := fun k hk e => hg (e ▸ hk)
  have h1 : Sim (fun k => if k = g then g' else rho k) d r := h.recall (fun k hk => if_neg (hne k hk))
  have hlive : ∀ k, (d.add name g).live k → d.live k ∨ k = g := fun k hk => by
    rcases hk with hk | ⟨c, h1, h2⟩
    · exact .inl (.inl hk)
    · rcases List.mem_append.1 h1 with h1 | h1
      · exact .inl (.inr ⟨c, h1, h2⟩)
      · obtain rfl : c = ⟨⟨#[]⟩, name, some g⟩ := by simpa using h1
        exact .inr (by simpa using h2.symm)
  exact {
    limit := h.limit
    on := h.on
    n := h.n
    fuse := h.fuse
    fault := h.fault
    fail := h.fail
    changes := by
      show r.changes ++ [⟨⟨#[]⟩, name, some g'⟩] = (d.changes ++ [(⟨⟨#[]⟩, name, some g⟩ : Chg)]).map (Chg.to fun k => if k = g then g' else rho k)
      rw [h1.changes, List.map_append]
      simp [Chg.to]
    synced := h1.synced
    files := fun k hk => by
      show (if (if k = g then g' else rho k) = g' then some ⟨[], 0⟩ else r.files (if k = g then g' else rho k)) = if k = g then some ⟨[], 0⟩ else d.files k
      rcases hlive k hk with hk | rfl
      · have e := hne k hk
        rw [if_neg e, if_neg (hg' k hk), if_neg e]
        exact h.files k hk
      · rw [if_pos rfl, if_pos rfl, if_pos rfl]
    inj := fun a b ha hb e => by
      show a = b
      have e : (if a = g then g' else rho a) = (if b = g then g' else rho b) := e
      rcases hlive a ha with ha | ea
      · rcases hlive b hb with hb | eb
        · rw [if_neg (hne a ha), if_neg (hne b hb)] at e
          exact h.inj a b ha hb e
        · rw [if_neg (hne a ha), if_pos eb] at e
          exact absurd e (hg' a ha)
      · rcases hlive b hb with hb | eb
        · rw [if_pos ea, if_neg (hne b hb)] at e
          exact absurd e.symm (hg' b hb)
        · rw [ea, eb]
    names := fun s => by
      show fileOf (applyD d.names ⟨⟨#[]⟩, name, some g⟩) s = fileOf ((d.changes ++ [(⟨⟨#[]⟩, name, some g⟩ : Chg)]).foldl applyD d.synced) s
      rw [List.foldl_append, List.foldl_cons, List.foldl_nil]
      rw [fileOf_apply d.names h.nmap, fileOf_apply _ (isMap_fold d.changes h.dmap), h.names]
    empty := h.empty
    became := fun c h2 k hk => by
      rcases List.mem_append.1 h2 with h2 | h2
      · exact h.became c h2 k hk
      · obtain rfl : c = ⟨⟨#[]⟩, name, some g⟩ := by simpa using h2
        exact hn
    dmap := h.dmap
    nmap := isMap_apply h.nmap ⟨⟨#[]⟩, name, some g⟩
    rmap := h.rmap }
theorem isMap_foldR (l : List Chg) : ∀ {D : DataW Unit}, IsMap D → IsMap (l.foldl applyR D) := by
  induction l with
  | nil => exact fun h => h
  | cons c r ih => exact fun h => ih (isMap_applyR h c)
/-- The directory is synced, in both. -/
theorem Sim.settled (h : Sim rho d r) : Sim rho d.settled { r with synced := r.now, changes := [] } := by
  have hfold := fold_both rho d.changes d.synced r.synced h.dmap h.rmap h.synced h.empty h.became
  have hlive : ∀ g, d.settled.live g → d.live g := fun g hg => by
    rcases hg with ⟨s, hs⟩ | ⟨c, h1, _⟩
    · exact h.named (s := s) (by rw [h.names]; exact hs)
    · cases h1
  exact {
    limit := h.limit
    on := h.on
    n := h.n
    fuse := h.fuse
    fault := h.fault
    fail := h.fail
    changes := rfl
    synced := fun s => by show fileOf r.now s = _; rw [h.now, h.names]; rfl
    files := fun g hg => h.files g (hlive g hg)
    inj := fun g g' hg hg' => h.inj g g' (hlive g hg) (hlive g' hg')
    names := fun s => h.names s
    empty := hfold.2
    became := fun c hc => by cases hc
    dmap := isMap_fold d.changes h.dmap
    nmap := h.nmap
    rmap := isMap_foldR r.changes h.rmap }
/-- Fuses and faults, in both. -/
theorem Sim.fused (h : Sim rho d r) (a : Int) : Sim rho { d with fuse := a } { r with fuse := max (-1) a } := { h with fuse := Int.max_comm _ _ }
theorem Sim.faulted (h : Sim rho d r) (a z : Int) (hz : z ≠ 0) : Sim rho { d with fault := a, fail := z } { r with fault := max (-1) a, fail := z } := { h with fault := Int.max_comm _ _, fail := fun _ => ⟨rfl, hz⟩ }
end
end Go.Proofs.Ytefjljdgdoklmaa

/-
  The two file systems side by side: the names of a directory, and which files have them.
-/
namespace Go.Proofs.Ytefjljdgdoklmaa
open Go.RowKit Go.Maps Go.Sort
theorem mem_strKeys {S : DataW Unit} (h : Full S) {s : ByteArray} {g : Nat} (hs : fileOf S s = some g) : s.data.toList ∈ strKeys S := by
  obtain ⟨es, rfl, h⟩ := h
  unfold fileOf at hs
  simp only [DataW.atKey] at hs
  cases e : es.find? (fun p => p.1.sameKey (key s)) with
  | none => rw [e] at hs; simp at hs
  | some q =>
    have hq := List.mem_of_find?_eq_some e
    have hk := List.find?_some e
    obtain ⟨y, g', rfl⟩ := h q hq
    have : y = s.data.toList := by simpa [Lit.sameKey, key] using hk
    exact List.mem_map.2 ⟨_, hq, by rw [← this]; rfl⟩
/-- A name is in the list of a directory's names just if it is a file there. -/
theorem mem_namesOf {S : DataW Unit} (h : Full S) (s : ByteArray) : s ∈ namesOf S ↔ ∃ g, fileOf S s = some g := by
  refine ⟨names_file h, fun ⟨g, hg⟩ => ?_⟩
  refine List.mem_map.2 ⟨s.data.toList, (List.mergeSort_perm _ _).mem_iff.2 (mem_strKeys h hg), ?_⟩
  simp [toBA]
/-- Two directories with the same names list them alike. -/
theorem namesOf_eq {D E : DataW Unit} (hD : Full D) (hE : Full E) (dD : (strKeys D).Nodup) (dE : (strKeys E).Nodup) (h : ∀ s, (∃ g, fileOf D s = some g) ↔ ∃ g, fileOf E s = some g) : namesOf D = namesOf E := by
  have hm : ∀ x, x ∈ strKeys D ↔ x ∈ strKeys E := fun x => by
    constructor
    · intro hx
      obtain ⟨g, hg⟩ := (h (toBA x)).1 (hD.name hx)
      have := mem_strKeys hE hg
      simpa [toBA] using this
    · intro hx
      obtain ⟨g, hg⟩ := (h (toBA x)).2 (hE.name hx)
      have := mem_strKeys hD hg
      simpa [toBA] using this
  have hp : (strKeys D).Perm (strKeys E) := (List.perm_ext_iff_of_nodup dD dE).2 hm
  unfold namesOf
  rw [show (strKeys D).mergeSort leB = (strKeys E).mergeSort leB from mergeSort_of_perm hp]
theorem insert_perm {H : Type} (x : Lit × DataW H) : ∀ l : List (Lit × DataW H), (DataW.insert x l).Perm (x :: l)
  | [] => by simp [DataW.insert]
  | y :: r => by
    unfold DataW.insert
    split
    · exact List.Perm.refl _
    · exact ((insert_perm x r).cons y).trans (List.Perm.swap x y r)
/-- A directory: names with files, each name once. -/
def Nod (D : DataW Unit) : Prop := Full D ∧ (strKeys D).Nodup
theorem Nod.del {D : DataW Unit} (h : Nod D) (k : Lit) : Nod (D.del k) := by
  refine ⟨h.1.del k, ?_⟩
  obtain ⟨⟨es, rfl, _⟩, hn⟩ := h
  show ((es.filter fun p => !p.1.sameKey k).map fun p => strOf p.1).Nodup
  exact List.Nodup.sublist (List.Sublist.map _ List.filter_sublist) hn
theorem Nod.put {D : DataW Unit} (h : Nod D) (x : List UInt8) (g : Nat) : Nod (D.put (.string x) (.lit (.int .i64 (g : Nat)))) := by
  refine ⟨h.1.put x g, ?_⟩
  obtain ⟨⟨es, rfl, hf⟩, hn⟩ := h
  show ((DataW.insert (.string x, .lit (.int .i64 (g : Nat))) (es.filter fun p => !p.1.sameKey (.string x))).map fun p => strOf p.1).Nodup
  refine (((insert_perm _ _).map _).nodup_iff).2 ?_
  rw [List.map_cons, List.nodup_cons]
  refine ⟨fun hx => ?_, List.Nodup.sublist (List.Sublist.map _ List.filter_sublist) hn⟩
  obtain ⟨p, hp, e⟩ := List.mem_map.1 hx
  obtain ⟨h1, h2⟩ := List.mem_filter.1 hp
  obtain ⟨y, g', rfl⟩ := hf p h1
  have : y = x := by simpa [strOf] using e
  subst this
  simp [Lit.sameKey] at h2
theorem Nod.apply {D : DataW Unit} (h : Nod D) (c : Chg) : Nod (applyD D c) := by
  obtain ⟨went, became, file⟩ := c
  cases file with
  | none => exact h.del _
  | some g => exact (h.del _).put _ _
theorem Nod.applyR {D : DataW Unit} (h : Nod D) (c : Chg) : Nod (applyR D c) := by
  have hE : Nod (if c.went.size = 0 then D else D.del (key c.went)) := by
    split
    · exact h
    · exact h.del _
  obtain ⟨went, became, file⟩ := c
  cases file with
  | none => exact hE
  | some g => exact hE.put _ _
theorem Nod.fold (l : List Chg) : ∀ {D : DataW Unit}, Nod D → Nod (l.foldl applyD D) := by
  induction l with
  | nil => exact fun h => h
  | cons c r ih => exact fun h => ih (h.apply c)
theorem Nod.foldR (l : List Chg) : ∀ {D : DataW Unit}, Nod D → Nod (l.foldl Go.Proofs.Ytefjljdgdoklmaa.applyR D) := by
  induction l with
  | nil => exact fun h => h
  | cons c r ih => exact fun h => ih (h.applyR c)
/-- Both sides list the same names. -/
theorem namesOf_both {rho : Nat → Nat} {D E : DataW Unit} (hD : Nod D) (hE : Nod E) (h : ∀ s, fileOf E s = (fileOf D s).map rho) : namesOf E = namesOf D := by
  refine (namesOf_eq hD.1 hE.1 hD.2 hE.2 fun s => ?_).symm
  rw [h]
  cases fileOf D s with
  | none => simp
  | some g => simp
end Go.Proofs.Ytefjljdgdoklmaa
