import Derived.Test.YtefjljdgdoklmaaM14
/-
  The directory behind the first changes: the document's own.
-/
namespace Go.Proofs.Ytefjljdgdoklmaa
open Go.RowKit Go.Maps

theorem applyR_e_none (D : DataW Unit) (became : ByteArray) : applyR D ⟨⟨#[]⟩, became, none⟩ = D := rfl
theorem applyR_e_some (D : DataW Unit) (became : ByteArray) (g : Nat) : applyR D ⟨⟨#[]⟩, became, some g⟩ = D.put (key became) (.lit (.int .i64 (g : Nat))) := rfl
theorem applyR_n_none (D : DataW Unit) (went became : ByteArray) (h : ¬ went.size = 0) : applyR D ⟨went, became, none⟩ = D.del (key went) := by
  unfold applyR
  simp only [h, if_false]
theorem applyR_n_some (D : DataW Unit) (went became : ByteArray) (g : Nat) (h : ¬ went.size = 0) : applyR D ⟨went, became, some g⟩ = (D.del (key went)).put (key became) (.lit (.int .i64 (g : Nat))) := by
  unfold applyR
  simp only [h, if_false]

set_option maxRecDepth 100000 in
set_option maxHeartbeats 2000000 in
theorem rdir_any (q bs ns k : Nat) (S : DataW Unit) (l : List Chg) (limit fuse fault fail n : Int) (off : Bool) (ch : Value) (w : World) (hc : w.heap[q]? = some (.cells (rfCells limit (.map (some bs)) ch off fuse fault fail n) 84 (0, 0))) (hd : Dir w bs ns S) (hl : RChs w ch l) (hk : k ≤ l.length) (hsz : Maps.size S ≤ 1000000) (hlen : l.length ≤ 1000000) (hnm : ∀ x ∈ l, x.went.size ≤ maxLen ∧ x.became.size ≤ maxLen) :
    Calls Try.prog 81 #[.pointer (some ⟨q, 0, none⟩), .int .i64 (k : Nat)] w fun e w' => ∃ N, e = .returned (.map (some w.heap.size)) ∧ Dir w' w.heap.size N ((l.take k).foldl applyR S) ∧ Below w.heap.size w w' := by
  have hmm := @run_makeMap Try.prog
  have hbl := hd.lt
  have hql := lt_of_heap hc
  have e1 : (w.alloc (.map #[] 0)).heap.size = w.heap.size + 1 := by simp
  have c1 : (w.alloc (.map #[] 0)).cell? ⟨q, 1, none⟩ = some (.map (some bs)) := cell_of_row _ q 1 _ 84 (0, 0) ((heap_alloc_old w _ hql).trans hc)
  have HD := hide hd
  have HC := hide hc
  have HL := hide hl
  have HNM := hide hnm
  clear hd hc hl hnm
  go_enter Try.func81, Try.ntmps81
  go_wp2_with (first
    | (at_range; refine wpList_range_own _ rfl _ 81 rfl 9 92 law9 Try.underlying81 _ bs ns _ rfl (World.ownsMap.alloc HD.out _) ?_; intro w0 hrg0 hg0 hs0)
    | go_in)
  go_frame
  rw [e1] at hrg0 hs0 ⊢
  go_loopw [16] (fun _ wr => ∃ (left : Lit → Bool) (cnt : Nat) (Dout : DataW Unit), wr.ranges Try.prog 9 ptrR bs (w.heap.size + 1) ns S left cnt ∧ cnt ≤ Maps.size S ∧
      wr.ownsMap Try.prog 9 ptrR w.heap.size (Maps.size S - cnt) Dout ∧ Agree Dout S left ∧ Below w.heap.size w wr)
    (fun _ wr => wr.rangeLeft bs (w.heap.size + 1))
  case atStart =>
    exact ⟨_, _, .map [], hrg0, Nat.le_refl _, ((World.ownsMap_made _ _ _ _).kept hg0 (by simp)).mono (Nat.zero_le _), agree_start S, ((Below.refl _ _).alloc (Nat.le_refl _) _).grown hg0 (by simp) (fun j hj => by cases hj)⟩
  case round =>
    obtain ⟨left, cnt, Dout, hrg, hcs, hout, hA, hnx⟩ := hrel
    have HNX := hide hnx
    have HOUT := hide hout
    have HAG := hide hA
    clear hnx hout hA
    go_wp2_with (first
      | (at_next; refine wpList_next_ranges _ rfl _ rfl 9 law9 ptrR encStr ptrOf strK_shape ptrR_shape bs (w.heap.size + 1) ns _ _ _ rfl hrg ?_ ?_)
      | go_in)
    · intro hc0 hl0
      subst hc0
      have e := agree_end HAG.out hl0 (HOUT.out.canon law9) (HD.out.canon law9)
      subst e
      have HO := hide (World.ownsMap.mono HOUT.out (Nat.sub_le _ _))
      clear HOUT HAG hl0 hrg hcs hrg0 hg0 hs0
      go_wp2_with fail
      go_loopw [8] (fun iv wz => ∃ i : Nat, iv = .int .i64 (i : Nat) ∧ i ≤ k ∧ Dir wz w.heap.size (Maps.size Dout + i) ((l.take i).foldl applyR Dout) ∧ Below w.heap.size w wz) (fun iv _ => k - (intOf iv).toNat)
      case atStart => exact ⟨0, rfl, Nat.zero_le _, HO.out, HNX.out⟩
      case round =>
        obtain ⟨i, rfl, hi, hdz, hbz⟩ := hrel
        have HDZ := hide hdz
        have HBZ := hide hbz
        clear hdz hbz
        by_cases hik : i < k
        · have i1 : (i : Int) < (k : Int) := by omega
          have hil : i < l.length := by omega
          obtain ⟨x, hx⟩ : ∃ x, l[i]? = some x := ⟨l[i], List.getElem?_eq_getElem hil⟩
          obtain ⟨m1, m2⟩ := HNM.out x (List.mem_of_getElem? hx)
          obtain ⟨g, c, nn, rfl, hnn, hnc, hgw, a0, a1, a2⟩ : ∃ g c nn : Nat, ch = .slice (some ⟨g, 0, none⟩) nn c ∧ i < nn ∧ nn ≤ c ∧ g < w.heap.size ∧ wr.cell? ⟨g, i * 3, none⟩ = some (.string x.became) ∧ wr.cell? ⟨g, i * 3 + 1, none⟩ = some (ptrOf x.file) ∧ wr.cell? ⟨g, i * 3 + 2, none⟩ = some (.string x.went) := by
            rcases HL.out with ⟨e, _⟩ | ⟨g, c, n', e, h2, h3, h4, cs', h5, h6, h7⟩
            · rw [e] at hil; simp at hil
            · obtain ⟨b0, b1, b2⟩ := rcCells_at l i x hx
              have hlc := rcCells_length l
              have h5' := (HBZ.out.block g (lt_of_heap h5)).trans h5
              refine ⟨g, c, n', e, by omega, h4, lt_of_heap h5, ?_, ?_, ?_⟩
              · rw [cell_of_row wr g _ cs' 97 (0, 0) h5', h7 _ (by omega), b0]
              · rw [cell_of_row wr g _ cs' 97 (0, 0) h5', h7 _ (by omega), b1]
              · rw [cell_of_row wr g _ cs' 97 (0, 0) h5', h7 _ (by omega), b2]
          have c2 : wr.cell? ⟨q, 2, none⟩ = some (.slice (some ⟨g, 0, none⟩) nn c) := cell_of_row wr q 2 _ 84 (0, 0) ((HBZ.out.block q hql).trans HC.out)
          have i0 : (0 : Int) ≤ (i : Int) := by omega
          have i2 : (i : Int) < (nn : Int) := by omega
          have hsn : (l.take (i + 1)).foldl applyR Dout = applyR ((l.take i).foldl applyR Dout) x := by
            rw [List.take_add_one, hx]
            simp
          have HSN := hide hsn
          obtain ⟨went, became, file⟩ := x
          simp only at a0 a1 a2 m1 m2
          clear hsn hx
          generalize (l.take i).foldl applyR Dout = Di at *
          have hnew := heap_alloc_new wr (.cells #[.string became, ptrOf file, .string went] 97)
          have TA : Turns (fun _ => False) wr (wr.alloc (.cells #[.string became, ptrOf file, .string went] 97)) := (Turns.refl _ wr).alloc _
          have HDA := hide (HDZ.out.keep TA (fun x => x))
          have HBA := hide (HBZ.out.alloc (by have := HBZ.out.size; omega) (.cells #[.string became, ptrOf file, .string went] 97))
          have hgb : wr.heap.size ≠ w.heap.size := fun e => by have := HDZ.out.lt; omega
          obtain ⟨wd, hdel, hdd, htd⟩ := World.ownsMap.drop HDA.out law9 Try.underlying81 (keyOf9 went m1) 0
          have kd : Turns (fun k => k = w.heap.size) (wr.alloc (.cells #[.string became, ptrOf file, .string went] 97)) wd := (Turns.of_grown htd.grown).mono fun k _ e => by cases e; rfl
          have d0 : (wr.alloc (.cells #[.string became, ptrOf file, .string went] 97)).cell? ⟨wr.heap.size, 0, none⟩ = some (.string became) := cell_of_row _ _ 0 _ 97 (0, 0) hnew
          have d1 : (wr.alloc (.cells #[.string became, ptrOf file, .string went] 97)).cell? ⟨wr.heap.size, 1, none⟩ = some (ptrOf file) := cell_of_row _ _ 1 _ 97 (0, 0) hnew
          have d2 : (wr.alloc (.cells #[.string became, ptrOf file, .string went] 97)).cell? ⟨wr.heap.size, 2, none⟩ = some (.string went) := cell_of_row _ _ 2 _ 97 (0, 0) hnew
          have e0 := kd.cell d0 hgb
          have e1' := kd.cell d1 hgb
          have HDD := hide hdd
          have HBD := hide (HBA.out.trans (kd.below (B := w.heap.size) (by have := HBZ.out.size; simp; omega) (fun k e => by rw [e]; exact Nat.le_refl _)))
          clear hdd htd kd TA
          by_cases hw : went.size = 0
          · obtain rfl : went = ⟨#[]⟩ := by
              cases went with
              | mk d => cases d with
                | mk ls => cases ls with
                  | nil => rfl
                  | cons a r => simp [ByteArray.size] at hw
            clear hdel e0 e1' HDD HBD
            cases file with
            | none =>
              simp only [ptrOf] at a1 d1 hnew HDA HBA d0 d2
              go_wp2_with fail
              exact ⟨⟨i + 1, by go_num, by omega, by rw [HSN.out, applyR_e_none]; exact HDA.out.mono (by omega), HBA.out⟩, by simp [intOf]; omega⟩
            | some gf =>
              simp only [ptrOf] at a1 d1 hnew HDA HBA d0 d2
              obtain ⟨wu, hup, hdu, htu⟩ := World.ownsMap.store HDA.out law9 Try.underlying81 (by unfold maxLen; omega) (keyOf9 became m2) (ptrR_some gf)
              have ku : Turns (fun k => k = w.heap.size) _ wu := (Turns.of_grown htu.grown).mono fun k _ e => by cases e; rfl
              have HDU := hide hdu
              have HBU := hide (HBA.out.trans (ku.below (B := w.heap.size) (by have := HBZ.out.size; simp; omega) (fun k e => by rw [e]; exact Nat.le_refl _)))
              clear hdu htu ku
              go_wp2_with fail
              exact ⟨⟨i + 1, by go_num, by omega, by rw [HSN.out, applyR_e_some]; exact HDU.out.mono (by omega), HBU.out⟩, by simp [intOf]; omega⟩
          · have HW := hide hw
            have hwe : went ≠ ByteArray.empty := fun e => hw (by rw [e]; rfl)
            have hwl : went.toList.isEmpty = false := by
              rw [List.isEmpty_eq_false_iff]
              exact fun e => hwe ((toList_nil_iff_emptyBytes went).1 e)
            clear hwe
            clear HDA HBA hw
            cases file with
            | none =>
              simp only [ptrOf] at a1 d1 hnew d0 d2 hdel e0 e1'
              go_wp2_with fail
              exact ⟨⟨i + 1, by go_num, by omega, by rw [HSN.out, applyR_n_none _ _ _ HW.out]; exact HDD.out.mono (by omega), HBD.out⟩, by simp [intOf]; omega⟩
            | some gf =>
              simp only [ptrOf] at a1 d1 hnew d0 d2 hdel e0 e1'
              obtain ⟨wu, hup, hdu, htu⟩ := World.ownsMap.store HDD.out law9 Try.underlying81 (by unfold maxLen; omega) (keyOf9 became m2) (ptrR_some gf)
              have ku : Turns (fun k => k = w.heap.size) wd wu := (Turns.of_grown htu.grown).mono fun k _ e => by cases e; rfl
              have HDU := hide hdu
              have HBU := hide (HBD.out.trans (ku.below (B := w.heap.size) HBD.out.size (fun k e => by rw [e]; exact Nat.le_refl _)))
              clear hdu htu ku
              go_wp2_with fail
              exact ⟨⟨i + 1, by go_num, by omega, by rw [HSN.out, applyR_n_some _ _ _ _ HW.out]; exact HDU.out.mono (by omega), HBU.out⟩, by simp [intOf]; omega⟩
        · obtain rfl : i = k := by omega
          go_wp2_with fail
          go_ret
          exact ⟨_, rfl, HDZ.out, HBZ.out⟩
    · intro x c kl y1 y2 w1 cnt1 hkey hlx hR hat hrg1 hlt hg1 hs1 hen
      have hout1 := HOUT.out.kept hg1 (by simp)
      have hkl : kl = .string x := by
        obtain ⟨x', ex, hkl, _⟩ := Go.Maps.keyOf_str Try.underlying9 hkey
        rw [hkl, encStr_inj ex]
      rw [ptrR_of] at hR
      obtain ⟨rfl, rfl⟩ : ptrD c = y1 ∧ [] = y2 := by simpa using hR
      have hz : Maps.size S - cnt < maxLen := by unfold maxLen; omega
      have HKL := hide hkl
      clear hkl hR
      go_wp2_with (first
        | (at_mapUpdate; refine wpList_mapUpdate_own _ rfl _ _ _ 81 rfl 9 92 law9 Try.underlying81 _ w.heap.size _ _ rfl hout1 hz _ _ _ rfl rfl hkey _ [] (ptrR_of c) ?_; intro w2 hout2 hg2; go_frame)
        | go_in)
      have hrg2 := hrg1.kept hg2 (fun e => by have := Option.some.inj e; omega) (fun e => by have := Option.some.inj e; omega)
      go_roundw
      case rel =>
        exact ⟨_, cnt1, _, hrg2, by omega, hout2.mono (by omega), agree_step HAG.out HOUT.out.isMap (by rw [HKL.out]; trivial) hat,
          (HNX.out.grown hg1 HNX.out.size (fun j hj => by cases hj; exact Nat.le_succ _)).grown hg2 (by have := HNX.out.size; omega) (fun j hj => by cases hj; exact Nat.le_refl _)⟩
      case measure => rw [hrg2.left_eq, hrg.left_eq]; exact hlt
end Go.Proofs.Ytefjljdgdoklmaa

/-
  The document's file system in memory, its guard, and the directory as it is now.
-/
namespace Go.Proofs.Ytefjljdgdoklmaa
open Go.RowKit Go.Maps

/-- The document's file system. A file is named by its block. -/
structure RDisk where
  limit : Int
  synced : DataW Unit
  changes : List Chg
  files : Nat → Option Fil
  off : Bool
  fuse : Int
  fault : Int
  fail : Int
  n : Int
def RDisk.cells (r : RDisk) (bs : Nat) (ch : Value) : Array Value := rfCells r.limit (.map (some bs)) ch r.off r.fuse r.fault r.fail r.n
def RDisk.dir (r : RDisk) (k : Nat) : DataW Unit := (r.changes.take k).foldl applyR r.synced
def RDisk.now (r : RDisk) : DataW Unit := r.changes.foldl applyR r.synced
structure RFileAt (A : Nat → Prop) (w : World) (g : Nat) (v : Value) (x : Fil) : Prop where
  cell : w.heap[g]? = some (.cells #[v, .int .i64 (x.synced : Nat)] 95 (0, 0))
  own : OwnB w v x.bytes
  ag : A g
  ar : ∀ k, inRow v k → A k
structure RFiles (A : Nat → Prop) (w : World) (fv : Nat → Value) (F : Nat → Option Fil) : Prop where
  each : ∀ g x, F g = some x → RFileAt A w g (fv g) x
  apart : ∀ g g' x x' k, F g = some x → F g' = some x' → g ≠ g' → inRow (fv g) k → ¬ inRow (fv g') k
structure RRefs (r : RDisk) : Prop where
  fs : Full r.synced
  synced : ∀ s g, fileOf r.synced s = some g → ∃ x, r.files g = some x
  changes : ∀ c, c ∈ r.changes → ∀ g, c.file = some g → ∃ x, r.files g = some x
structure RRepAt (A : Nat → Prop) (w : World) (q : Nat) (r : RDisk) (bs : Nat) (ch : Value) (fv : Nat → Value) : Prop where
  cells : w.heap[q]? = some (.cells (r.cells bs ch) 84 (0, 0))
  synced : Dir w bs (Maps.size r.synced) r.synced
  chs : RChs w ch r.changes
  af : A q
  ay : A bs
  ac : ∀ k, inRow ch k → A k
  files : RFiles A w fv r.files
  refs : RRefs r
def RRep (A : Nat → Prop) (w : World) (q : Nat) (r : RDisk) : Prop := ∃ bs ch fv, RRepAt A w q r bs ch fv

theorem RFileAt.keep {A S : Nat → Prop} {w w' : World} {g : Nat} {v : Value} {x : Fil} (h : RFileAt A w g v x) (t : Turns S w w') (hg : ¬ S g) (hr : ∀ k, inRow v k → ¬ S k) : RFileAt A w' g v x :=
  ⟨t.heap h.cell hg, h.own.keep t hr, h.ag, h.ar⟩
theorem RFileAt.mono {A A' : Nat → Prop} {w : World} {g : Nat} {v : Value} {x : Fil} (h : RFileAt A w g v x) (hA : ∀ k, k < w.heap.size → A k → A' k) : RFileAt A' w g v x :=
  ⟨h.cell, h.own, hA _ (lt_of_heap h.cell) h.ag, fun k hk => by
    obtain ⟨cs, hc⟩ := h.own.row hk
    exact hA _ (lt_of_heap hc) (h.ar k hk)⟩

section
variable {A : Nat → Prop} {w : World} {q : Nat} {r : RDisk} {bs : Nat} {ch : Value} {fv : Nat → Value}
theorem RRepAt.fs (h : RRepAt A w q r bs ch fv) : q ≠ bs := h.synced.ne_cells h.cells
theorem RRepAt.file (h : RRepAt A w q r bs ch fv) {g : Nat} {x : Fil} (hg : r.files g = some x) : g ≠ q ∧ g ≠ bs ∧ ¬ inRow ch g ∧ g < w.heap.size := by
  have hc := (h.files.each g x hg).cell
  refine ⟨fun e => ?_, h.synced.ne_cells hc, fun e => ?_, lt_of_heap hc⟩
  · rw [e] at hc; exact absurd (one_type h.cells hc) (by decide)
  · obtain ⟨cs, hc'⟩ := h.chs.row e
    exact absurd (one_type hc hc') (by decide)
theorem RRepAt.row (h : RRepAt A w q r bs ch fv) {g k : Nat} {x : Fil} (hg : r.files g = some x) (hk : inRow (fv g) k) : k ≠ q ∧ k ≠ bs ∧ ¬ inRow ch k ∧ r.files k = none ∧ k < w.heap.size := by
  obtain ⟨cs, hc⟩ := (h.files.each g x hg).own.row hk
  refine ⟨fun e => ?_, h.synced.ne_cells hc, fun e => ?_, ?_, lt_of_heap hc⟩
  · rw [e] at hc; exact absurd (one_type h.cells hc) (by decide)
  · obtain ⟨cs', hc'⟩ := h.chs.row e
    exact absurd (one_type hc hc') (by decide)
  · cases e : r.files k with
    | none => rfl
    | some y =>
      have hc' := (h.files.each k y e).cell
      exact absurd (one_type hc hc') (by decide)
theorem RRepAt.chrow (h : RRepAt A w q r bs ch fv) {k : Nat} (hk : inRow ch k) : k ≠ q ∧ k ≠ bs ∧ r.files k = none ∧ k < w.heap.size := by
  obtain ⟨cs, hc⟩ := h.chs.row hk
  refine ⟨fun e => ?_, h.synced.ne_cells hc, ?_, lt_of_heap hc⟩
  · rw [e] at hc; exact absurd (one_type h.cells hc) (by decide)
  · cases e : r.files k with
    | none => rfl
    | some y =>
      have hc' := (h.files.each k y e).cell
      exact absurd (one_type hc hc') (by decide)
theorem RRepAt.new (h : RRepAt A w q r bs ch fv) {k : Nat} (hk : w.heap.size ≤ k) : r.files k = none := by
  cases e : r.files k with
  | none => rfl
  | some y => have := (h.file e).2.2.2; omega
theorem RRepAt.keep (h : RRepAt A w q r bs ch fv) {S : Nat → Prop} {w' : World} (t : Turns S w w') (hS : ∀ k, k < w.heap.size → A k → ¬ S k) : RRepAt A w' q r bs ch fv where
  cells := t.heap h.cells (hS _ (lt_of_heap h.cells) h.af)
  synced := h.synced.keep t (hS _ h.synced.lt h.ay)
  chs := h.chs.keep t fun k hk => hS _ (h.chrow hk).2.2.2 (h.ac k hk)
  af := h.af
  ay := h.ay
  ac := h.ac
  files := ⟨fun g x hg => (h.files.each g x hg).keep t (hS _ (h.file hg).2.2.2 (h.files.each g x hg).ag) fun k hk => hS _ (h.row hg hk).2.2.2.2 ((h.files.each g x hg).ar k hk), h.files.apart⟩
  refs := h.refs
theorem RRepAt.mono (h : RRepAt A w q r bs ch fv) {A' : Nat → Prop} (hA : ∀ k, k < w.heap.size → A k → A' k) : RRepAt A' w q r bs ch fv where
  cells := h.cells
  synced := h.synced
  chs := h.chs
  af := hA _ (lt_of_heap h.cells) h.af
  ay := hA _ h.synced.lt h.ay
  ac := fun k hk => hA _ (h.chrow hk).2.2.2 (h.ac k hk)
  files := ⟨fun g x hg => (h.files.each g x hg).mono hA, h.files.apart⟩
  refs := h.refs
theorem RRepAt.quiet (h : RRepAt A w q r bs ch fv) {w' : World} (t : Turns (fun _ => False) w w') : RRepAt A w' q r bs ch fv := h.keep t fun _ _ _ x => x
/-- Only the file system's own block has turned: its numbers are others. -/
theorem RRepAt.turn (h : RRepAt A w q r bs ch fv) {w' : World} {r' : RDisk} (t : Turns (fun k => k = q) w w') (hc : w'.heap[q]? = some (.cells (r'.cells bs ch) 84 (0, 0))) (e2 : r'.synced = r.synced) (e3 : r'.changes = r.changes) (e4 : r'.files = r.files) : RRepAt A w' q r' bs ch fv where
  cells := hc
  synced := by rw [e2]; exact h.synced.keep t h.fs.symm
  chs := by rw [e3]; exact h.chs.keep t fun k hk => (h.chrow hk).1
  af := h.af
  ay := h.ay
  ac := h.ac
  files := by rw [e4]; exact ⟨fun g x hg => (h.files.each g x hg).keep t (h.file hg).1 fun k hk => (h.row hg hk).1, h.files.apart⟩
  refs := ⟨by rw [e2]; exact h.refs.fs, by rw [e2, e4]; exact h.refs.synced, by rw [e3, e4]; exact h.refs.changes⟩
end

/-- What the numbers of the document's file system keep to. -/
structure RNum (r : RDisk) : Prop where
  n : 0 ≤ r.n ∧ r.n ≤ 1000000
  fuse : -1 ≤ r.fuse ∧ r.fuse ≤ 9223372036854775807
  fault : -1 ≤ r.fault ∧ r.fault ≤ 9223372036854775807
  limit : 0 ≤ r.limit ∧ r.limit ≤ 1073741824
  synced : Maps.size r.synced ≤ 1000000
  changes : r.changes.length ≤ 1000000
  text : ∀ c, c ∈ r.changes → c.went.size ≤ maxLen ∧ c.became.size ≤ maxLen
  bytes : ∀ g x, r.files g = some x → x.bytes.length ≤ 1073741824 ∧ x.synced ≤ x.bytes.length

def RDisk.tick (r : RDisk) : RDisk := { r with n := r.n + 1, fuse := Ytefjljdgdoklmaa.tick r.fuse, fault := Ytefjljdgdoklmaa.tick r.fault }
/-- The document's guard: 0, if the operation is done. -/
def RDisk.op (r : RDisk) : Int × RDisk :=
  if r.off = true then (9, r)
  else if r.fuse = 0 then (9, { r.tick with off := true })
  else if r.fault = 0 then (r.fail, r.tick)
  else (0, r.tick)

theorem rdir_rep (A : Nat → Prop) (q k : Nat) (r : RDisk) (w : World) (h : RRep A w q r) (hn : RNum r) (hk : k ≤ r.changes.length) :
    Calls Try.prog 81 #[.pointer (some ⟨q, 0, none⟩), .int .i64 (k : Nat)] w fun e w' => ∃ N, e = .returned (.map (some w.heap.size)) ∧ Dir w' w.heap.size N (r.dir k) ∧ Below w.heap.size w w' := by
  obtain ⟨bs, ch, fv, h⟩ := h
  exact rdir_any q bs _ k r.synced r.changes r.limit r.fuse r.fault r.fail r.n r.off ch w h.cells h.synced h.chs hk hn.synced hn.changes hn.text

set_option maxRecDepth 100000 in
set_option maxHeartbeats 1000000 in
theorem rnow_rep (A : Nat → Prop) (q : Nat) (r : RDisk) (w : World) (h : RRep A w q r) (hn : RNum r) :
    Calls Try.prog 79 #[.pointer (some ⟨q, 0, none⟩)] w fun e w' => ∃ N, e = .returned (.map (some w.heap.size)) ∧ Dir w' w.heap.size N r.now ∧ Below w.heap.size w w' := by
  have hD := rdir_rep A q r.changes.length r w h hn (Nat.le_refl _)
  rw [show r.dir r.changes.length = r.now by unfold RDisk.dir RDisk.now; rw [List.take_length]] at hD
  have HD := hide hD
  obtain ⟨bs, ch, fv, h⟩ := h
  obtain ⟨ca, cc, rfl⟩ := h.chs.len
  have c2 : w.cell? ⟨q, 2, none⟩ = some (.slice ca r.changes.length cc) := cell_of_row w q 2 _ 84 (0, 0) h.cells
  clear h hD
  generalize r.changes.length = ll at *
  go_enter Try.func79, Try.ntmps79
  go_wp2_with fail
  refine HD.out.mono ?_
  rintro e w1 ⟨N, rfl, d1, b1⟩
  have D1 := hide d1
  have B1 := hide b1
  clear d1 b1
  go_wp2_with fail
  go_ret
  exact ⟨N, rfl, D1.out, B1.out⟩
end Go.Proofs.Ytefjljdgdoklmaa
