import Derived.Test.YtefjljdgdoklmaaM26
import Derived.Test.YtefjljdgdoklmaaM20
import Derived.LaidEqlPtr
/-
  The two file systems side by side behind a crash.
-/
namespace Go.Proofs.Ytefjljdgdoklmaa
open Go.RowKit Go.Maps Go.Sort
/-- What the files are called behind a crash. -/
def rhoC (rho : Nat → Nat) (S : DataW Unit) (gs : List Anew) (g : Nat) : Nat :=
  match gs.find? (fun p => decide (fileOf S p.1 = some g)) with
  | some p => p.2.1
  | none => rho g
theorem nod_names {S : DataW Unit} (h : Nod S) : (namesOf S).Nodup := by
  unfold namesOf
  have h2 : ((strKeys S).mergeSort leB).Nodup := ((List.mergeSort_perm _ _).nodup_iff).2 h.2
  refine List.pairwise_map.2 (h2.imp fun hne e => hne ?_)
  have := congrArg (fun b : ByteArray => b.data.toList) e
  simpa [toBA] using this
theorem crashList_fst (l : List ByteArray) (ks : List Int) : (crashList l ks).map (·.1) = l := by
  unfold crashList
  rw [List.map_map]
  show l.zipIdx.map Prod.fst = l
  simp
theorem Sim.crashed {rho : Nat → Nat} {d : Disk} {r : RDisk} (h : Sim rho d r) (hu : d.uni) (nd : Nod d.synced) (nr : Nod r.synced) (dir : Int) (ks : List Int) (K : Nat) (hK : K = keptN dir r.changes.length) (gs : List Anew)
    (hlen : gs.length = (namesOf (r.dir K)).length)
    (hg : ∀ (j : Nat) (p : Anew), gs[j]? = some p → (namesOf (r.dir K))[j]? = some p.1 ∧ ∃ g x, fileOf (r.dir K) p.1 = some g ∧ r.files g = some x ∧ p.2.2 = x.crash (ks.getD j 0)) (hnd : (gs.map (·.2.1)).Nodup) :
    Sim (rhoC rho (d.left dir) gs) (d.crashed dir ks) { newR r gs with synced := newD (r.dir K) gs, changes := [], off := false, fuse := -1, fault := -1 } := by
  have hK' : d.left dir = d.dirAt K := by rw [left_eq, hK, h.changes, List.length_map]
  have hdir := h.dir K
  have hun : Uni (d.left dir) := hK' ▸ hu K
  rw [← hK'] at hdir
  have hnS : Nod (d.left dir) := by rw [hK']; exact Nod.fold _ nd
  have hnE : Nod (r.dir K) := Nod.foldR _ nr
  have hmE : IsMap (r.dir K) := isMap_foldR _ h.rmap
  have hmS : IsMap (d.left dir) := by rw [hK']; exact isMap_fold _ h.dmap
  have hnames : namesOf (r.dir K) = namesOf (d.left dir) := namesOf_both hnS hnE hdir
  have hfst : gs.map (·.1) = namesOf (r.dir K) := by
    refine List.ext_getElem? fun j => ?_
    rw [List.getElem?_map]
    cases e : gs[j]? with
    | none =>
      have := List.getElem?_eq_none_iff.1 e
      rw [List.getElem?_eq_none (by omega)]; rfl
    | some p => rw [(hg j p e).1]; rfl
  have hnf : (gs.map (·.1)).Nodup := by rw [hfst]; exact nod_names hnE
  have hempty : fileOf (d.left dir) noName = none := by
    rw [hK']
    exact (fold_both rho (d.changes.take K) d.synced r.synced h.dmap h.rmap h.synced h.empty (fun c hc => h.became c (List.mem_of_mem_take hc))).2
  have hlive : ∀ s g, fileOf (d.left dir) s = some g → d.live g := fun s g hs => by
    rw [hK'] at hs
    rcases fileOf_folded (d.changes.take K) h.dmap hs with hs | ⟨c, h1, h2⟩
    · exact .inl ⟨s, hs⟩
    · exact .inr ⟨c, List.mem_of_mem_take h1, h2⟩
  -- each name's new file
  have hat : ∀ s g, fileOf (d.left dir) s = some g → ∃ j p, gs[j]? = some p ∧ p ∈ gs ∧ p.1 = s ∧ rhoC rho (d.left dir) gs g = p.2.1 := fun s g hs => by
    have hm : s ∈ gs.map (·.1) := by rw [hfst, hnames]; exact (mem_namesOf hnS.1 s).2 ⟨g, hs⟩
    obtain ⟨p, hp, rfl⟩ := List.mem_map.1 hm
    obtain ⟨j, hj⟩ := List.mem_iff_getElem?.1 hp
    refine ⟨j, p, hj, hp, rfl, ?_⟩
    unfold rhoC
    cases e : gs.find? (fun p => decide (fileOf (d.left dir) p.1 = some g)) with
    | none =>
      have := List.find?_eq_none.1 e p hp
      simp [hs] at this
    | some q =>
      have h1 := List.mem_of_find?_eq_some e
      have h2 := List.find?_some e
      have h3 : fileOf (d.left dir) q.1 = some g := by simpa using h2
      have h4 : q.1 = p.1 := hun _ _ g h3 hs
      obtain ⟨i, hi⟩ := List.mem_iff_getElem?.1 h1
      have h5 : (gs.map (·.1))[i]? = (gs.map (·.1))[j]? := by rw [List.getElem?_map, List.getElem?_map, hi, hj]; simp [h4]
      have hil : i < (gs.map (·.1)).length := by rw [List.length_map]; exact (List.getElem?_eq_some_iff.1 hi).1
      have h6 : i = j := (List.getElem?_inj hil hnf).1 h5
      rw [h6, hj] at hi
      cases hi
      rfl
  obtain ⟨r1, r2, r3, r4, r5, r6, r7, r8⟩ := newR_rest r gs
  exact {
    limit := r1.trans h.limit
    on := rfl
    n := r8.trans h.n
    fuse := rfl
    fault := rfl
    fail := fun x => absurd x (by show ¬ (0 : Int) ≤ -1; omega)
    changes := rfl
    synced := fun s => by
      show fileOf (newD (r.dir K) gs) s = (fileOf (d.left dir) s).map _
      cases e : fileOf (d.left dir) s with
      | none =>
        rw [newD_other hmE gs s (fun p hp e1 => ?_), hdir, e]
        · rfl
        · have : s ∈ namesOf (d.left dir) := by rw [← hnames, ← hfst]; exact List.mem_map.2 ⟨p, hp, e1.symm⟩
          obtain ⟨g, hg⟩ := (mem_namesOf hnS.1 s).1 this
          rw [e] at hg
          cases hg
      | some g =>
        obtain ⟨j, p, _, hp, rfl, e2⟩ := hat s g e
        rw [newD_mem hmE gs hnf p hp, Option.map_some, e2]
    files := fun g hg' => by
      rcases hg' with ⟨s, hs⟩ | ⟨c, h1, _⟩
      · replace hs : fileOf (d.left dir) s = some g := hs
        obtain ⟨j, p, hj, hp, e1, e2⟩ := hat s g hs
        show (newR r gs).files (rhoC rho (d.left dir) gs g) = (List.foldl (crashStep (d.left dir)) (d.files, 0) (crashList (namesOf (d.left dir)) ks)).1 g
        rw [e2, newR_mem r gs hnd p hp]
        obtain ⟨h1, g', x, h2, h3, h4⟩ := hg j p hj
        rw [e1, hdir, hs] at h2
        have h5 : rho g = g' := by simpa using h2
        rw [← h5, h.files g (hlive s g hs)] at h3
        rw [hnames] at h1
        have hjl : j < (namesOf (d.left dir)).length := (List.getElem?_eq_some_iff.1 h1).1
        have h6 := crashList_at (namesOf (d.left dir)) ks j hjl
        have h7 : (namesOf (d.left dir))[j] = p.1 := (List.getElem?_eq_some_iff.1 h1).2
        rw [h7] at h6
        rw [crash_file hun _ (d.files, 0) (by rw [crashList_fst]; exact nod_names hnS) _ (List.mem_of_getElem? h6) g x (by rw [e1]; exact hs) h3, h4]
      · cases h1
    inj := fun g g' hg1 hg2 e => by
      rcases hg1 with ⟨s, hs⟩ | ⟨c, h1, _⟩
      · rcases hg2 with ⟨s', hs'⟩ | ⟨c, h1, _⟩
        · replace hs : fileOf (d.left dir) s = some g := hs
          replace hs' : fileOf (d.left dir) s' = some g' := hs'
          obtain ⟨j, p, hj, hp, e1, e2⟩ := hat s g hs
          obtain ⟨j', p', hj', hp', e1', e2'⟩ := hat s' g' hs'
          have e3 : p.2.1 = p'.2.1 := by rw [← e2, ← e2']; exact e
          have h5 : (gs.map (·.2.1))[j]? = (gs.map (·.2.1))[j']? := by rw [List.getElem?_map, List.getElem?_map, hj, hj']; simp [e3]
          have hil : j < (gs.map (·.2.1)).length := by rw [List.length_map]; exact (List.getElem?_eq_some_iff.1 hj).1
          have h6 : j = j' := (List.getElem?_inj hil hnd).1 h5
          rw [h6, hj'] at hj
          cases hj
          rw [← e1, e1', hs'] at hs
          cases hs
          rfl
        · cases h1
      · cases h1
    names := fun s => rfl
    empty := hempty
    became := fun c hc => by cases hc
    dmap := hmS
    nmap := hmS
    rmap := newD_map hmE gs }
end Go.Proofs.Ytefjljdgdoklmaa

/-
  The document's Used.
-/
namespace Go.Proofs.Ytefjljdgdoklmaa
open Go.RowKit Go.Maps

theorem RRepAt.lookAt {A : Nat → Prop} {w : World} {q : Nat} {r : RDisk} {bs : Nat} {ch : Value} {fv : Nat → Value} (h : RRepAt A w q r bs ch fv) {i : Nat} {s : ByteArray} {g : Nat} (hs : fileOf (r.dir i) s = some g) : ∃ x, r.files g = some x := by
  rcases fileOf_foldR (r.changes.take i) h.synced.isMap hs with hs | ⟨c, h1, h2⟩
  · exact h.refs.synced s g hs
  · exact h.refs.changes c (List.mem_of_mem_take h1) g h2

theorem tells_step {D : DataW Unit} {P : Nat → Prop} {left : Lit → Bool} {l2 l3 : List Nat} {t : ByteArray} {g : Nat} (htl : ∀ z, z ∈ l2 ↔ P z ∨ ∃ s, fileOf D s = some z ∧ left (key s) = false) (hfile : fileOf D t = some g) (h3 : ∀ z, z ∈ l3 ↔ z ∈ l2 ∨ z = g) (z : Nat) :
    z ∈ l3 ↔ P z ∨ ∃ s, fileOf D s = some z ∧ (left (key s) && !(key s).sameKey (key t)) = false := by
  rw [h3 z, htl z]
  constructor
  · rintro ((h | ⟨s, h1, h2⟩) | rfl)
    · exact .inl h
    · exact .inr ⟨s, h1, by rw [h2]; rfl⟩
    · exact .inr ⟨t, hfile, by rw [WideAt.sameKey_self (keyLit t)]; simp⟩
  · rintro (h | ⟨s, h1, h2⟩)
    · exact .inl (.inl h)
    · rcases Bool.and_eq_false_iff.1 h2 with h2 | h2
      · exact .inl (.inr ⟨s, h1, h2⟩)
      · by_cases e : s = t
        · rw [e, hfile] at h1
          cases h1
          exact .inr rfl
        · rw [sameKey_ne (key_ne e)] at h2
          cases h2

theorem t95_info : Try.prog.info? 95 = some Try.t95 := by kernel_rfl
theorem t95_some : Try.t95.size ≠ 0 := by
  rw [show Try.t95.size = 2 by kernel_rfl]
  decide

set_option maxRecDepth 100000 in
set_option maxHeartbeats 4000000 in
theorem rused_rep (A : Nat → Prop) (q : Nat) (r : RDisk) (w : World) (h : RRep A w q r) (hn : RNum r)
    (hcap : ∀ ls : List Nat, ls.Nodup → (∀ g, g ∈ ls → r.tells (r.changes.length + 1) g) → ls.length ≤ 1000000000 ∧ total r.files ls ≤ 4611686018427387904) :
    Calls Try.prog 68 #[.pointer (some ⟨q, 0, none⟩)] w fun e w' => ∃ ls : List Nat, e = .returned (.int .i64 (total r.files ls : Nat)) ∧ ls.Nodup ∧ (∀ g, g ∈ ls ↔ r.tells (r.changes.length + 1) g) ∧ Below w.heap.size w w' := by
  obtain ⟨bs, ch, fv, h⟩ := h
  obtain ⟨L, hL⟩ : ∃ L, L = r.changes.length := ⟨_, rfl⟩
  obtain ⟨ca, cc, hch⟩ : ∃ a c, ch = .slice a L c := by
    rcases h.chs with ⟨e1, e2⟩ | ⟨g, c, n, e1, e2, _⟩
    · exact ⟨none, 0, by rw [e2, hL, e1]; rfl⟩
    · exact ⟨_, _, by rw [e1, e2, hL]⟩
  have hLb : L ≤ 1000000 := by rw [hL]; exact hn.changes
  rw [← hL] at hcap ⊢
  have hqw := lt_of_heap h.cells
  have HL := hide hL
  have HCH := hide hch
  have H := hide h
  have HN := hide hn
  have HCAP := hide hcap
  clear h hn hcap hL hch
  go_enter Try.func68, Try.ntmps68
  go_wp2_with fail
  go_loopw [3, 4, 5] (fun lv nv iv wz => ∃ (i : Nat) (ls : List Nat), iv = .int .i64 (i : Nat) ∧ i ≤ L + 1 ∧ nv = .int .i64 (total r.files ls : Nat) ∧ ls.Nodup ∧ (∀ g, g ∈ ls ↔ r.tells i g) ∧ PtrRow wz w.heap.size lv ls ∧ Below w.heap.size w wz) (fun _ _ iv _ => L + 1 - (intOf iv).toNat)
  case atStart => exact ⟨0, [], rfl, Nat.zero_le _, rfl, List.nodup_nil, fun g => ⟨fun h => (by cases h), fun ⟨j, h, _⟩ => (by omega)⟩, .inl ⟨rfl, rfl⟩, Below.refl _ _⟩
  case round =>
    obtain ⟨i, ls, rfl, hi, rfl, hnd, htl, hrow, hbz⟩ := hrel
    have R1 := hide (H.out.quiet (Turns.of_below hbz _))
    have c2 : wr.cell? ⟨q, 2, none⟩ = some (.slice ca L cc) := by
      rw [← HCH.out]
      exact cell_of_row wr q 2 _ 84 (0, 0) R1.out.cells
    have HND := hide hnd
    have HTL := hide htl
    have HROW := hide hrow
    have HB := hide hbz
    clear hnd htl hrow hbz
    by_cases hiL : i ≤ L
    · have i1 : (i : Int) ≤ (L : Int) := by omega
      go_wp2_with fail
      refine (rdir_rep A q i r wr ⟨bs, ch, fv, R1.out⟩ HN.out (by have := HL.out; omega)).mono ?_
      rintro e w1 ⟨N, rfl, d1, b1⟩
      have PR1 : PtrRow w1 w.heap.size u3 ls := HROW.out.keep (Turns.of_below b1 (fun _ => False)) (fun _ _ x => x)
      have B1 : Below w.heap.size w w1 := HB.out.trans ((Turns.of_below b1 (fun _ => False)).below HB.out.size (fun k h => h.elim))
      have hbd := HB.out.size
      have hfull : Full (r.dir i) := fullR_fold _ H.out.refs.fs
      have HFULL := hide hfull
      have HPR := hide PR1
      have HB1 := hide B1
      clear b1 PR1 B1 R1 HROW HB c2 hfull
      generalize wr.heap.size = bd at *
      go_wp2_with (first
        | (at_range; refine wpList_range_own _ rfl _ 81 rfl 9 92 law9 Try.underlying81 _ bd N _ rfl d1 ?_; intro w0 hrg0 hg0 hs0)
        | go_in)
      go_frame
      have T0 : Turns (fun _ => False) w1 w0 := (Turns.of_grown hg0).mono fun k _ e => by cases e
      have HPR0 := hide (HPR.out.keep T0 (fun _ _ x => x))
      have HB0 := hide (HB1.out.trans (T0.below HB1.out.size (fun k h => h.elim)))
      have hrr := HB1.out.size
      clear T0 HPR HB1 d1 hs0 hg0
      generalize w1.heap.size = rr at *
      go_loopw [3, 4] (fun lv nv wz => ∃ (left : Lit → Bool) (cnt : Nat) (l2 : List Nat), wz.ranges Try.prog 9 ptrR bd rr N (r.dir i) left cnt ∧ nv = .int .i64 (total r.files l2 : Nat) ∧ l2.Nodup ∧ (∀ g, g ∈ l2 ↔ r.tells i g ∨ ∃ s, fileOf (r.dir i) s = some g ∧ left (key s) = false) ∧ PtrRow wz w.heap.size lv l2 ∧ Below w.heap.size w wz) (fun _ _ wz => wz.rangeLeft bd rr)
      case atStart =>
        refine ⟨_, _, ls, hrg0, rfl, HND.out, fun g => ?_, HPR0.out, HB0.out⟩
        rw [HTL.out g]
        refine ⟨.inl, fun h => h.elim id ?_⟩
        rintro ⟨s, h1, h2⟩
        rw [fileOf_has h1] at h2
        cases h2
      case round =>
        clear HPR0 HB0 hrg0 HND HTL
        obtain ⟨left, cnt, l2, hrg, rfl, hnd, htl, hrow, hbz⟩ := hrel
        have HND := hide hnd
        have HTL := hide htl
        have HROW := hide hrow
        have HB := hide hbz
        clear hnd htl hrow hbz
        go_wp2_with (first
          | (at_next; refine wpList_next_ranges _ rfl _ rfl 9 law9 ptrR encStr ptrOf strK_shape ptrR_shape bd rr N _ _ _ rfl hrg ?_ ?_)
          | go_in)
        · intro hc0 hl0
          have HL0 := hide hl0
          clear hl0 hc0 hrg
          go_wp2_with fail
          refine ⟨⟨i + 1, l2, by go_num, by omega, rfl, HND.out, fun g => ?_, HROW.out, HB.out⟩, by simp [intOf]; omega⟩
          rw [HTL.out g]
          constructor
          · rintro (⟨j, h1, h2⟩ | ⟨s, h1, _⟩)
            · exact ⟨j, by omega, h2⟩
            · exact ⟨i, by omega, s, h1⟩
          · rintro ⟨j, h1, s, h2⟩
            rcases Nat.lt_or_ge j i with h3 | h3
            · exact .inl ⟨j, h3, s, h2⟩
            · obtain rfl : j = i := by omega
              exact .inr ⟨s, h2, HL0.out _⟩
        · intro x c kl y1 y2 w2 cnt1 hkey hlx hR hat hrg1 hlt hg1 hs1 hen
          have hkl : kl = key (toBA x) := by
            obtain ⟨x', ex, hkl, _⟩ := Go.Maps.keyOf_str Try.underlying9 hkey
            rw [hkl, encStr_inj ex]
            simp [key, toBA]
          subst hkl
          rw [ptrR_of] at hR
          obtain ⟨rfl, rfl⟩ : ptrD c = y1 ∧ [] = y2 := by simpa using hR
          obtain ⟨g, rfl, hfile⟩ := entry_file HFULL.out hat
          obtain ⟨fx, hfx⟩ := H.out.lookAt hfile
          have T2 : Turns (fun k => k = rr) wr w2 := (Turns.of_grown hg1).mono fun k _ e => by cases e; rfl
          have hnr := (ranges_map hrg).2
          have HROW2 := hide (HROW.out.keep T2 (fun k hk e => by
            obtain ⟨_, cs, h1⟩ := HROW.out.row hk
            rw [e] at h1
            exact hnr _ _ _ h1))
          have HB2 := hide (HB.out.trans (T2.below HB.out.size (fun k e => by rw [e]; exact hrr)))
          have hF := (H.out.quiet (Turns.of_below HB2.out _)).files.each g fx hfx
          obtain ⟨fa, fc, hfv⟩ := hF.own.slice
          have hc := hF.cell
          rw [hfv] at hc
          have c0 : w2.cell? ⟨g, 0, none⟩ = some (.slice fa fx.bytes.length fc) := cell_of_row w2 g 0 _ 95 (0, 0) hc
          obtain ⟨la, ln, lc, rfl, hln, hcell⟩ : ∃ la ln lc, u3 = .slice la ln lc ∧ ln = l2.length ∧ ∀ k y, l2[k]? = some y → ∃ lg, la = some ⟨lg, 0, none⟩ ∧ w2.cell? ⟨lg, k, none⟩ = some (.pointer (some ⟨y, 0, none⟩)) := by
            rcases HROW2.out with ⟨e1, e2⟩ | ⟨lg, c, n, e1, e2, e3, e4, cs, h1, h2, h3⟩
            · exact ⟨_, _, _, e2, by rw [e1]; rfl, fun k y hk => by rw [e1] at hk; cases hk⟩
            · refine ⟨_, _, _, e1, e2, fun k y hk => ⟨lg, rfl, ?_⟩⟩
              have hkl := (List.getElem?_eq_some_iff.1 hk).1
              rw [cell_of_row w2 lg k _ 92 (0, 0) h1, h3 k (by simpa [ptrCells] using hkl)]
              simp [ptrCells, hk]
          have hsub : ∀ g', g' ∈ l2 → r.tells (L + 1) g' := fun g' hg' => by
            rcases (HTL.out g').1 hg' with ⟨j, h1, h2⟩ | ⟨s, h1, _⟩
            · exact ⟨j, by omega, h2⟩
            · exact ⟨i, by omega, s, h1⟩
          have HSUB := hide hsub
          have hlnb : ln ≤ 1000000000 := by rw [hln]; exact (HCAP.out l2 HND.out hsub).1
          clear hsub
          have HLN := hide hln
          have HCELL := hide hcell
          have HFILE := hide hfile
          have HFX := hide hfx
          have HR1 := hide hrg1
          have HRG := hide hrg
          have HC := hide hc
          clear hcell hln hfile hfx hrg1 hc hF hfv hat hR hlx hkey T2 hnr HROW HB hg1 hs1 hrg
          simp only [ptrOf] at hen ⊢
          go_wp2_with fail
          go_loopw [9, 10] (fun kv iv wz => ∃ k : Nat, iv = .int .i64 (k : Nat) ∧ k ≤ ln ∧ kv = .bool (decide (g ∈ l2.take k)) ∧ wz = w2) (fun _ iv _ => ln - (intOf iv).toNat)
          case atStart => exact ⟨0, rfl, Nat.zero_le _, by simp, rfl⟩
          case round =>
            obtain ⟨k, rfl, hk, rfl, rfl⟩ := hrel
            by_cases hkl : k < ln
            · have i2 : (k : Int) < (ln : Int) := by omega
              have i3 : (0 : Int) ≤ (k : Int) := by omega
              obtain ⟨y, hy⟩ : ∃ y, l2[k]? = some y := ⟨l2[k]'(by have := HLN.out; omega), List.getElem?_eq_getElem _⟩
              obtain ⟨lg, rfl, ck⟩ := HCELL.out k y hy
              have hyc : ∃ cs, wr.heap[y]? = some (.cells cs 95 (0, 0)) := by
                obtain ⟨j, _, s, h2⟩ := HSUB.out y (List.mem_of_getElem? hy)
                obtain ⟨fy, hfy⟩ := H.out.lookAt h2
                exact ⟨_, ((H.out.quiet (Turns.of_below HB2.out _)).files.each y fy hfy).cell⟩
              have HYC := hide hyc
              clear hyc
              have hsn : decide (g ∈ l2.take (k + 1)) = (decide (g ∈ l2.take k) || decide (y = g)) := by
                rw [List.take_add_one, hy]
                simp [Bool.decide_or, eq_comm]
              have HSN := hide hsn
              clear hsn hy
              generalize decide (g ∈ l2.take k) = kn at *
              cases kn with
              | true =>
                go_wp2_with fail
                exact ⟨⟨k + 1, by go_num, by omega, by rw [HSN.out]; rfl, trivial⟩, by simp [intOf]; omega⟩
              | false =>
                by_cases hyg : y = g
                · subst hyg
                  have heq := run_eql_ptr_same (P := Try.prog) wr ⟨y, 0, none⟩ Try.underlying92 t95_info
                  go_wp2_with fail
                  exact ⟨⟨k + 1, by go_num, by omega, by rw [HSN.out]; simp, trivial⟩, by simp [intOf]; omega⟩
                · have heq : (binOp .eql 92 (.pointer (some ⟨y, 0, none⟩)) (.pointer (some ⟨g, 0, none⟩))).run Try.prog wr = .ok (.bool false) wr := by
                    obtain ⟨cs, hcs⟩ := HYC.out
                    exact run_eql_ptr_other (P := Try.prog) wr Try.underlying92 t95_info t95_some (fun e => hyg (by cases e; rfl)) hcs HC.out
                  go_wp2_with fail
                  exact ⟨⟨k + 1, by go_num, by omega, by rw [HSN.out]; simp [hyg], trivial⟩, by simp [intOf]; omega⟩
            · obtain rfl : k = ln := by omega
              have hall : decide (g ∈ l2.take k) = decide (g ∈ l2) := by rw [HLN.out, List.take_length]
              rw [hall]
              by_cases hin : g ∈ l2
              · rw [decide_eq_true hin]
                have HIN := hide hin
                clear hin hall
                go_wp2_with fail
                refine ⟨⟨_, cnt1, l2, HR1.out, rfl, HND.out, fun g' => ?_, HROW2.out, HB2.out⟩, by rw [HR1.out.left_eq, HRG.out.left_eq]; exact hlt⟩
                exact tells_step HTL.out HFILE.out (fun z => ⟨.inl, fun h => h.elim id fun e => by rw [e]; exact HIN.out⟩) g'
              · rw [decide_eq_false hin]
                have HIN := hide hin
                have TA : Turns (fun _ => False) wr (wr.alloc (.cells #[.pointer (some ⟨g, 0, none⟩)] 92)) := (Turns.refl _ wr).alloc _
                have BA : Below w.heap.size w (wr.alloc (.cells #[.pointer (some ⟨g, 0, none⟩)] 92)) := HB2.out.alloc (by have := HB2.out.size; omega) _
                have PA := HROW2.out.keep TA (fun _ _ x => x)
                have RA := ranges_keep HR1.out TA (fun x => x) (fun x => x)
                obtain ⟨g3, n3, c3, w3, hr3, hp3, t3, b3⟩ := append_ptr _ w.heap.size _ l2 PA BA.size (by have := HLN.out; omega) g ⟨wr.heap.size, 0, none⟩ 1 (cell_of_row _ _ 0 _ 92 (0, 0) (heap_alloc_new wr _))
                have hgw := (H.out.file HFX.out).2.2.2
                have R3 := hide (ranges_keep RA t3 (fun hk => (ranges_map RA).1 _ _ _ (PA.row hk).2.choose_spec) (fun hk => (ranges_map RA).2 _ _ _ (PA.row hk).2.choose_spec))
                have hc3 : w3.cell? ⟨g, 0, none⟩ = some (.slice fa fx.bytes.length fc) := cell_of_row w3 g 0 _ 95 (0, 0) ((b3.block g hgw).trans (TA.heap HC.out (fun x => x)))
                have HP3 := hide hp3
                have HB3 := hide (BA.trans b3)
                have hnd3 : (l2 ++ [g]).Nodup := List.nodup_append.2 ⟨HND.out, by simp, fun a ha b hb e => HIN.out (by
                  rw [List.mem_singleton] at hb
                  rw [← hb, ← e]
                  exact ha)⟩
                have HND3 := hide hnd3
                have hq := hr3 100
                have hts := total_snoc r.files l2 g fx HFX.out
                have hTb : total r.files l2 + fx.bytes.length ≤ 4611686018427387904 := by
                  rw [← hts]
                  refine (HCAP.out _ hnd3 fun z hz => ?_).2
                  rcases List.mem_append.1 hz with hz | hz
                  · exact HSUB.out z hz
                  · rw [List.mem_singleton.1 hz]
                    exact ⟨i, by omega, _, HFILE.out⟩
                have HTS := hide hts
                clear hin hall TA BA PA RA hr3 hp3 t3 b3 hnd3 hts
                generalize total r.files l2 = T at *
                generalize fx.bytes.length = F at *
                go_wp2_with (at_builtin; refine wpList_append_run rfl _ _ 100 rfl _ _ rfl rfl _ _ hq ?_)
                refine ⟨⟨_, cnt1, l2 ++ [g], R3.out, by rw [HTS.out]; go_num, HND3.out, tells_step HTL.out HFILE.out (fun z => by simp), HP3.out, HB3.out⟩, by rw [R3.out.left_eq, HRG.out.left_eq]; exact hlt⟩
    · obtain rfl : i = L + 1 := by omega
      have i1 : ¬ ((L + 1 : Nat) : Int) ≤ (L : Int) := by omega
      go_wp2_with fail
      go_ret
      exact ⟨ls, rfl, HND.out, HTL.out, HB.out⟩
end Go.Proofs.Ytefjljdgdoklmaa
