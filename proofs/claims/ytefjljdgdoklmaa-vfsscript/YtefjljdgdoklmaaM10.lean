import Derived.Test.YtefjljdgdoklmaaM09
import Derived.Maps.RangeWalk
import Derived.Sort.KeysCollected
import Derived.Test.YtefjljdgdoklmaaM03
/-
  The document's file system: its changes, and the directory behind some of them.
-/
namespace Go.Proofs.Ytefjljdgdoklmaa
open Go.RowKit Go.Maps

/-- The cells of the document's changes. -/
def rcCells (l : List Chg) : List Value := l.flatMap fun c => [.string c.became, ptrOf c.file, .string c.went]
theorem rcCells_length (l : List Chg) : (rcCells l).length = l.length * 3 := by
  induction l with
  | nil => rfl
  | cons c r ih => simp only [rcCells, List.flatMap_cons, List.length_append, List.length_cons, List.length_nil] at ih ⊢; omega
theorem rcCells_snoc (l : List Chg) (c : Chg) : rcCells (l ++ [c]) = rcCells l ++ [.string c.became, ptrOf c.file, .string c.went] := by simp [rcCells]
theorem rcCells_at (l : List Chg) (k : Nat) (c : Chg) (h : l[k]? = some c) : (rcCells l)[k * 3]? = some (.string c.became) ∧ (rcCells l)[k * 3 + 1]? = some (ptrOf c.file) ∧ (rcCells l)[k * 3 + 2]? = some (.string c.went) := by
  induction l generalizing k with
  | nil => simp at h
  | cons q r ih =>
    cases k with
    | zero =>
      obtain rfl : q = c := by simpa using h
      exact ⟨rfl, rfl, rfl⟩
    | succ k =>
      have := ih k (by simpa using h)
      rw [show (k + 1) * 3 = k * 3 + 3 by omega, show k * 3 + 3 + 1 = k * 3 + 1 + 3 by omega, show k * 3 + 3 + 2 = k * 3 + 2 + 3 by omega]
      exact this
/-- The document's changes in a list of one's own, or none. -/
def RChs (w : World) (v : Value) (l : List Chg) : Prop :=
  (l = [] ∧ v = .slice none 0 0) ∨ ∃ (g c n : Nat), v = .slice (some ⟨g, 0, none⟩) n c ∧ n = l.length ∧ 0 < n ∧ n ≤ c ∧ RowC w g 97 (c * 3) (rcCells l)
theorem RChs.keep {S : Nat → Prop} {w w' : World} {v : Value} {l : List Chg} (h : RChs w v l) (ht : Turns S w w') (hn : ∀ k, inRow v k → ¬ S k) : RChs w' v l := by
  rcases h with h | ⟨g, c, n, h1, h2, h3, h4, cs, h5, h6, h7⟩
  · exact .inl h
  · exact .inr ⟨g, c, n, h1, h2, h3, h4, cs, ht.heap h5 (hn g ⟨n, c, h1⟩), h6, h7⟩
theorem RChs.row {w : World} {v : Value} {l : List Chg} (h : RChs w v l) {k : Nat} (hk : inRow v k) : ∃ cs, w.heap[k]? = some (.cells cs 97 (0, 0)) := by
  obtain ⟨n', c', e⟩ := hk
  rcases h with ⟨_, h⟩ | ⟨g, c, n, h1, h2, h3, h4, cs, h5, h6, h7⟩
  · rw [h] at e; cases e
  · rw [h1] at e; cases e; exact ⟨cs, h5⟩
theorem RChs.len {w : World} {v : Value} {l : List Chg} (h : RChs w v l) : ∃ a c, v = .slice a l.length c := by
  rcases h with ⟨rfl, rfl⟩ | ⟨g, c, n, rfl, rfl, _⟩
  · exact ⟨_, _, rfl⟩
  · exact ⟨_, _, rfl⟩

/-- What a change makes of a directory, in the document's words. -/
def applyR (D : DataW Unit) (c : Chg) : DataW Unit :=
  let E := if c.went.size = 0 then D else D.del (key c.went)
  match c.file with
  | none => E
  | some g => E.put (key c.became) (.lit (.int .i64 (g : Nat)))
/-- The cells of the document's file system. -/
def rfCells (limit : Int) (sy ch : Value) (off : Bool) (fuse fault fail n : Int) : Array Value :=
  #[.int .i64 limit, sy, ch, .bool off, .int .i64 fuse, .int .i64 fault, .int .i64 fail, .int .i64 n]

def ptrD (c : Option Nat) : DataW Unit := match c with | none => .nil | some g => .lit (.int .i64 (g : Nat))
theorem ptrR_of (c : Option Nat) : ptrR (ptrOf c) = some (ptrD c, []) := by cases c <;> rfl
theorem ptrR_shape (v : Value) (y : DataW Unit × List MemPlace) (h : ptrR v = some y) : ∃ c, v = ptrOf c := by
  rcases ptrR_inv (d := y.1) (ps := y.2) h with ⟨rfl, _⟩ | ⟨g, rfl, _⟩
  · exact ⟨none, rfl⟩
  · exact ⟨some g, rfl⟩
theorem strK_shape (key : Value) (kl : Lit) (h : keyOf Try.prog 9 key = some kl) : ∃ x, key = encStr x := by
  obtain ⟨x, rfl, _⟩ := Go.Maps.keyOf_str Try.underlying9 h
  exact ⟨x, rfl⟩
end Go.Proofs.Ytefjljdgdoklmaa

/-
  The directory behind the first changes: the document's own.
-/
namespace Go.Proofs.Ytefjljdgdoklmaa
open Go.RowKit Go.Maps

theorem applyR_e_none (D : DataW Unit) (became : ByteArray) : applyR D ⟨⟨#[]⟩, became, none⟩ = D := rfl
theorem applyR_e_some (D : DataW Unit) (became : ByteArray) (g : Nat) : applyR D ⟨⟨#[]⟩, became, some g⟩ = D.put (key became) (.lit (.int .i64 (g : Nat))) := rfl
theorem applyR_n_none (D : DataW Unit) (went became : ByteArray) (h : ¬ went.size = 0) : applyR D ⟨went, became, none⟩ = D.del (key went) := by
  unfold applyR
  simp only [h, if_false]
theorem applyR_n_some (D : DataW Unit) (went became : ByteArray) (g : Nat) (h : ¬ went.size = 0) : applyR D ⟨went, became, some g⟩ = (D.del (key went)).put (key became) (.lit (.int .i64 (g : Nat))) := by
  unfold applyR
  simp only [h, if_false]

set_option maxRecDepth 100000 in
set_option maxHeartbeats 2000000 in
theorem rdir_any (q bs ns k : Nat) (S : DataW Unit) (l : List Chg) (limit fuse fault fail n : Int) (off : Bool) (ch : Value) (w : World) (hc : w.heap[q]? = some (.cells (rfCells limit (.map (some bs)) ch off fuse fault fail n) 84 (0, 0))) (hd : Dir w bs ns S) (hl : RChs w ch l) (hk : k ≤ l.length) (hsz : Maps.size S ≤ 1000000) (hlen : l.length ≤ 1000000) (hnm : ∀ x ∈ l, x.went.size ≤ maxLen ∧ x.became.size ≤ maxLen) :
    Calls Try.prog 81 #[.pointer (some ⟨q, 0, none⟩), .int .i64 (k : Nat)] w fun e w' => ∃ N, e = .returned (.map (some w.heap.size)) ∧ Dir w' w.heap.size N ((l.take k).foldl applyR S) ∧ Below w.heap.size w w' := by
  have hmm := @run_makeMap Try.prog
  have hbl := hd.lt
  have hql := lt_of_heap hc
  have e1 : (w.alloc (.map #[] 0)).heap.size = w.heap.size + 1 := by simp
  have c1 : (w.alloc (.map #[] 0)).cell? ⟨q, 1, none⟩ = some (.map (some bs)) := cell_of_row _ q 1 _ 84 (0, 0) ((heap_alloc_old w _ hql).trans hc)
  have HD := hide hd
  have HC := hide hc
  have HL := hide hl
  have HNM := hide hnm
  clear hd hc hl hnm
  go_enter Try.func81, Try.ntmps81
  go_wp2_with (first
    | (at_range; refine wpList_range_own _ rfl _ 81 rfl 9 92 law9 Try.underlying81 _ bs ns _ rfl (World.ownsMap.alloc HD.out _) ?_; intro w0 hrg0 hg0 hs0)
    | go_in)
  go_frame
  rw [e1] at hrg0 hs0 ⊢
  go_loopw [16] (fun _ wr => ∃ (left : Lit → Bool) (cnt : Nat) (Dout : DataW Unit), wr.ranges Try.prog 9 ptrR bs (w.heap.size + 1) ns S left cnt ∧ cnt ≤ Maps.size S ∧
      wr.ownsMap Try.prog 9 ptrR w.heap.size (Maps.size S - cnt) Dout ∧ Agree Dout S left ∧ Below w.heap.size w wr)
    (fun _ wr => wr.rangeLeft bs (w.heap.size + 1))
  case atStart =>
    exact ⟨_, _, .map [], hrg0, Nat.le_refl _, ((World.ownsMap_made _ _ _ _).kept hg0 (by simp)).mono (Nat.zero_le _), agree_start S, ((Below.refl _ _).alloc (Nat.le_refl _) _).grown hg0 (by simp) (fun j hj => by cases hj)⟩
  case round =>
    obtain ⟨left, cnt, Dout, hrg, hcs, hout, hA, hnx⟩ := hrel
    have HNX := hide hnx
    have HOUT := hide hout
    have HAG := hide hA
    clear hnx hout hA
    go_wp2_with (first
      | (at_next; refine wpList_next_ranges _ rfl _ rfl 9 law9 ptrR encStr ptrOf strK_shape ptrR_shape bs (w.heap.size + 1) ns _ _ _ rfl hrg ?_ ?_)
      | go_in)
    · intro hc0 hl0
      subst hc0
      have e := agree_end HAG.out hl0 (HOUT.out.canon law9) (HD.out.canon law9)
      subst e
      have HO := hide (World.ownsMap.mono HOUT.out (Nat.sub_le _ _))
      clear HOUT HAG hl0 hrg hcs hrg0 hg0 hs0
      go_wp2_with fail
      go_loopw [8] (fun iv wz => ∃ i : Nat, iv = .int .i64 (i : Nat) ∧ i ≤ k ∧ Dir wz w.heap.size (Maps.size Dout + i) ((l.take i).foldl applyR Dout) ∧ Below w.heap.size w wz) (fun iv _ => k - (intOf iv).toNat)
      case atStart => exact ⟨0, rfl, Nat.zero_le _, HO.out, HNX.out⟩
      case round =>
        obtain ⟨i, rfl, hi, hdz, hbz⟩ := hrel
        have HDZ := hide hdz
        have HBZ := hide hbz
        clear hdz hbz
        by_cases hik : i < k
        · have i1 : (i : Int) < (k : Int) := by omega
          have hil : i < l.length := by omega
          obtain ⟨x, hx⟩ : ∃ x, l[i]? = some x := ⟨l[i], List.getElem?_eq_getElem hil⟩
          obtain ⟨m1, m2⟩ := HNM.out x (List.mem_of_getElem? hx)
          obtain ⟨g, c, nn, rfl, hnn, hnc, hgw, a0, a1, a2⟩ : ∃ g c nn : Nat, ch = .slice (some ⟨g, 0, none⟩) nn c ∧ i < nn ∧ nn ≤ c ∧ g < w.heap.size ∧ wr.cell? ⟨g, i * 3, none⟩ = some (.string x.became) ∧ wr.cell? ⟨g, i * 3 + 1, none⟩ = some (ptrOf x.file) ∧ wr.cell? ⟨g, i * 3 + 2, none⟩ = some (.string x.went) := by
            rcases HL.out with ⟨e, _⟩ | ⟨g, c, n', e, h2, h3, h4, cs', h5, h6, h7⟩
            · rw [e] at hil; simp at hil
            · obtain ⟨b0, b1, b2⟩ := rcCells_at l i x hx
              have hlc := rcCells_length l
              have h5' := (HBZ.out.block g (lt_of_heap h5)).trans h5
              refine ⟨g, c, n', e, by omega, h4, lt_of_heap h5, ?_, ?_, ?_⟩
              · rw [cell_of_row wr g _ cs' 97 (0, 0) h5', h7 _ (by omega), b0]
              · rw [cell_of_row wr g _ cs' 97 (0, 0) h5', h7 _ (by omega), b1]
              · rw [cell_of_row wr g _ cs' 97 (0, 0) h5', h7 _ (by omega), b2]
          have c2 : wr.cell? ⟨q, 2, none⟩ = some (.slice (some ⟨g, 0, none⟩) nn c) := cell_of_row wr q 2 _ 84 (0, 0) ((HBZ.out.block q hql).trans HC.out)
          have i0 : (0 : Int) ≤ (i : Int) := by omega
          have i2 : (i : Int) < (nn : Int) := by omega
          have hsn : (l.take (i + 1)).foldl applyR Dout = applyR ((l.take i).foldl applyR Dout) x := by
            rw [List.take_add_one, hx]
            simp
          have HSN := hide hsn
          obtain ⟨went, became, file⟩ := x
          simp only at a0 a1 a2 m1 m2
          clear hsn hx
          generalize (l.take i).foldl applyR Dout = Di at *
          have hnew := heap_alloc_new wr (.cells #[.string became, ptrOf file, .string went] 97)
          have TA : Turns (fun _ => False) wr (wr.alloc (.cells #[.string became, ptrOf file, .string went] 97)) := (Turns.refl _ wr).alloc _
          have HDA := hide (HDZ.out.keep TA (fun x => x))
          have HBA := hide (HBZ.out.alloc (by have := HBZ.out.size; omega) (.cells #[.string became, ptrOf file, .string went] 97))
          have hgb : wr.heap.size ≠ w.heap.size := fun e => by have := HDZ.out.lt; omega
          obtain ⟨wd, hdel, hdd, htd⟩ := World.ownsMap.drop HDA.out law9 Try.underlying81 (keyOf9 went m1) 0
          have kd : Turns (fun k => k = w.heap.size) (wr.alloc (.cells #[.string became, ptrOf file, .string went] 97)) wd := (Turns.of_grown htd.grown).mono fun k _ e => by cases e; rfl
          have d0 : (wr.alloc (.cells #[.string became, ptrOf file, .string went] 97)).cell? ⟨wr.heap.size, 0, none⟩ = some (.string became) := cell_of_row _ _ 0 _ 97 (0, 0) hnew
          have d1 : (wr.alloc (.cells #[.string became, ptrOf file, .string went] 97)).cell? ⟨wr.heap.size, 1, none⟩ = some (ptrOf file) := cell_of_row _ _ 1 _ 97 (0, 0) hnew
          have d2 : (wr.alloc (.cells #[.string became, ptrOf file, .string went] 97)).cell? ⟨wr.heap.size, 2, none⟩ = some (.string went) := cell_of_row _ _ 2 _ 97 (0, 0) hnew
          have e0 := kd.cell d0 hgb
          have e1' := kd.cell d1 hgb
          have HDD := hide hdd
          have HBD := hide (HBA.out.trans (kd.below (B := w.heap.size) (by have := HBZ.out.size; simp; omega) (fun k e => by rw [e]; exact Nat.le_refl _)))
          clear hdd htd kd TA
          by_cases hw : went.size = 0
          · obtain rfl : went = ⟨#[]⟩ := by
              cases went with
              | mk d => cases d with
                | mk ls => cases ls with
                  | nil => rfl
                  | cons a r => simp [ByteArray.size] at hw
            clear hdel e0 e1' HDD HBD
            cases file with
            | none =>
              simp only [ptrOf] at a1 d1 hnew HDA HBA d0 d2
              go_wp2_with fail
              exact ⟨⟨i + 1, by go_num, by omega, by rw [HSN.out, applyR_e_none]; exact HDA.out.mono (by omega), HBA.out⟩, by simp [intOf]; omega⟩
            | some gf =>
              simp only [ptrOf] at a1 d1 hnew HDA HBA d0 d2
              obtain ⟨wu, hup, hdu, htu⟩ := World.ownsMap.store HDA.out law9 Try.underlying81 (by unfold maxLen; omega) (keyOf9 became m2) (ptrR_some gf)
              have ku : Turns (fun k => k = w.heap.size) _ wu := (Turns.of_grown htu.grown).mono fun k _ e => by cases e; rfl
              have HDU := hide hdu
              have HBU := hide (HBA.out.trans (ku.below (B := w.heap.size) (by have := HBZ.out.size; simp; omega) (fun k e => by rw [e]; exact Nat.le_refl _)))
              clear hdu htu ku
              go_wp2_with fail
              exact ⟨⟨i + 1, by go_num, by omega, by rw [HSN.out, applyR_e_some]; exact HDU.out.mono (by omega), HBU.out⟩, by simp [intOf]; omega⟩
          · have HW := hide hw
            have hwe : went ≠ ByteArray.empty := fun e => hw (by rw [e]; rfl)
            have hwl : went.toList.isEmpty = false := by
              rw [List.isEmpty_eq_false_iff]
              exact fun e => hwe ((toList_nil_iff_emptyBytes went).1 e)
            clear hwe
            clear HDA HBA hw
            cases file with
            | none =>
              simp only [ptrOf] at a1 d1 hnew d0 d2 hdel e0 e1'
              go_wp2_with fail
              exact ⟨⟨i + 1, by go_num, by omega, by rw [HSN.out, applyR_n_none _ _ _ HW.out]; exact HDD.out.mono (by omega), HBD.out⟩, by simp [intOf]; omega⟩
            | some gf =>
              simp only [ptrOf] at a1 d1 hnew d0 d2 hdel e0 e1'
              obtain ⟨wu, hup, hdu, htu⟩ := World.ownsMap.store HDD.out law9 Try.underlying81 (by unfold maxLen; omega) (keyOf9 became m2) (ptrR_some gf)
              have ku : Turns (fun k => k = w.heap.size) wd wu := (Turns.of_grown htu.grown).mono fun k _ e => by cases e; rfl
              have HDU := hide hdu
              have HBU := hide (HBD.out.trans (ku.below (B := w.heap.size) HBD.out.size (fun k e => by rw [e]; exact Nat.le_refl _)))
              clear hdu htu ku
              go_wp2_with fail
              exact ⟨⟨i + 1, by go_num, by omega, by rw [HSN.out, applyR_n_some _ _ _ _ HW.out]; exact HDU.out.mono (by omega), HBU.out⟩, by simp [intOf]; omega⟩
        · obtain rfl : i = k := by omega
          go_wp2_with fail
          go_ret
          exact ⟨_, rfl, HDZ.out, HBZ.out⟩
    · intro x c kl y1 y2 w1 cnt1 hkey hlx hR hat hrg1 hlt hg1 hs1 hen
      have hout1 := HOUT.out.kept hg1 (by simp)
      have hkl : kl = .string x := by
        obtain ⟨x', ex, hkl, _⟩ := Go.Maps.keyOf_str Try.underlying9 hkey
        rw [hkl, encStr_inj ex]
      rw [ptrR_of] at hR
      obtain ⟨rfl, rfl⟩ : ptrD c = y1 ∧ [] = y2 := by simpa using hR
      have hz : Maps.size S - cnt < maxLen := by unfold maxLen; omega
      have HKL := hide hkl
      clear hkl hR
      go_wp2_with (first
        | (at_mapUpdate; refine wpList_mapUpdate_own _ rfl _ _ _ 81 rfl 9 92 law9 Try.underlying81 _ w.heap.size _ _ rfl hout1 hz _ _ _ rfl rfl hkey _ [] (ptrR_of c) ?_; intro w2 hout2 hg2; go_frame)
        | go_in)
      have hrg2 := hrg1.kept hg2 (fun e => by have := Option.some.inj e; omega) (fun e => by have := Option.some.inj e; omega)
      go_roundw
      case rel =>
        exact ⟨_, cnt1, _, hrg2, by omega, hout2.mono (by omega), agree_step HAG.out HOUT.out.isMap (by rw [HKL.out]; trivial) hat,
          (HNX.out.grown hg1 HNX.out.size (fun j hj => by cases hj; exact Nat.le_succ _)).grown hg2 (by have := HNX.out.size; omega) (fun j hj => by cases hj; exact Nat.le_refl _)⟩
      case measure => rw [hrg2.left_eq, hrg.left_eq]; exact hlt
end Go.Proofs.Ytefjljdgdoklmaa

/-
  The document's file system in memory, its guard, and the directory as it is now.
-/
namespace Go.Proofs.Ytefjljdgdoklmaa
open Go.RowKit Go.Maps

/-- The document's file system. A file is named by its block. -/
structure RDisk where
  limit : Int
  synced : DataW Unit
  changes : List Chg
  files : Nat → Option Fil
  off : Bool
  fuse : Int
  fault : Int
  fail : Int
  n : Int
def RDisk.cells (r : RDisk) (bs : Nat) (ch : Value) : Array Value := rfCells r.limit (.map (some bs)) ch r.off r.fuse r.fault r.fail r.n
def RDisk.dir (r : RDisk) (k : Nat) : DataW Unit := (r.changes.take k).foldl applyR r.synced
def RDisk.now (r : RDisk) : DataW Unit := r.changes.foldl applyR r.synced
structure RFileAt (A : Nat → Prop) (w : World) (g : Nat) (v : Value) (x : Fil) : Prop where
  cell : w.heap[g]? = some (.cells #[v, .int .i64 (x.synced : Nat)] 95 (0, 0))
  own : OwnB w v x.bytes
  ag : A g
  ar : ∀ k, inRow v k → A k
structure RFiles (A : Nat → Prop) (w : World) (fv : Nat → Value) (F : Nat → Option Fil) : Prop where
  each : ∀ g x, F g = some x → RFileAt A w g (fv g) x
  apart : ∀ g g' x x' k, F g = some x → F g' = some x' → g ≠ g' → inRow (fv g) k → ¬ inRow (fv g') k
structure RRefs (r : RDisk) : Prop where
  fs : Full r.synced
  synced : ∀ s g, fileOf r.synced s = some g → ∃ x, r.files g = some x
  changes : ∀ c, c ∈ r.changes → ∀ g, c.file = some g → ∃ x, r.files g = some x
structure RRepAt (A : Nat → Prop) (w : World) (q : Nat) (r : RDisk) (bs : Nat) (ch : Value) (fv : Nat → Value) : Prop where
  cells : w.heap[q]? = some (.cells (r.cells bs ch) 84 (0, 0))
  synced : Dir w bs (Maps.size r.synced) r.synced
  chs : RChs w ch r.changes
  af : A q
  ay : A bs
  ac : ∀ k, inRow ch k → A k
  files : RFiles A w fv r.files
  refs : RRefs r
def RRep (A : Nat → Prop) (w : World) (q : Nat) (r : RDisk) : Prop := ∃ bs ch fv, RRepAt A w q r bs ch fv

theorem RFileAt.keep {A S : Nat → Prop} {w w' : World} {g : Nat} {v : Value} {x : Fil} (h : RFileAt A w g v x) (t : Turns S w w') (hg : ¬ S g) (hr : ∀ k, inRow v k → ¬ S k) : RFileAt A w' g v x :=
  ⟨t.heap h.cell hg, h.own.keep t hr, h.ag, h.ar⟩
theorem RFileAt.mono {A A' : Nat → Prop} {w : World} {g : Nat} {v : Value} {x : Fil} (h : RFileAt A w g v x) (hA : ∀ k, k < w.heap.size → A k → A' k) : RFileAt A' w g v x :=
  ⟨h.cell, h.own, hA _ (lt_of_heap h.cell) h.ag, fun k hk => by
    obtain ⟨cs, hc⟩ := h.own.row hk
    exact hA _ (lt_of_heap hc) (h.ar k hk)⟩

section
variable {A : Nat → Prop} {w : World} {q : Nat} {r : RDisk} {bs : Nat} {ch : Value} {fv : Nat → Value}
theorem RRepAt.fs (h : RRepAt A w q r bs ch fv) : q ≠ bs := h.synced.ne_cells h.cells
theorem RRepAt.file (h : RRepAt A w q r bs ch fv) {g : Nat} {x : Fil} (hg : r.files g = some x) : g ≠ q ∧ g ≠ bs ∧ ¬ inRow ch g ∧ g < w.heap.size := by
  have hc := (h.files.each g x hg).cell
  refine ⟨fun e => ?_, h.synced.ne_cells hc, fun e => ?_, lt_of_heap hc⟩
  · rw [e] at hc; exact absurd (one_type h.cells hc) (by decide)
  · obtain ⟨cs, hc'⟩ := h.chs.row e
    exact absurd (one_type hc hc') (by decide)
theorem RRepAt.row (h : RRepAt A w q r bs ch fv) {g k : Nat} {x : Fil} (hg : r.files g = some x) (hk : inRow (fv g) k) : k ≠ q ∧ k ≠ bs ∧ ¬ inRow ch k ∧ r.files k = none ∧ k < w.heap.size := by
  obtain ⟨cs, hc⟩ := (h.files.each g x hg).own.row hk
  refine ⟨fun e => ?_, h.synced.ne_cells hc, fun e => ?_, ?_, lt_of_heap hc⟩
  · rw [e] at hc; exact absurd (one_type h.cells hc) (by decide)
  · obtain ⟨cs', hc'⟩ := h.chs.row e
    exact absurd (one_type hc hc') (by decide)
  · cases e : r.files k with
    | none => rfl
    | some y =>
      have hc' := (h.files.each k y e).cell
      exact absurd (one_type hc hc') (by decide)
theorem RRepAt.chrow (h : RRepAt A w q r bs ch fv) {k : Nat} (hk : inRow ch k) : k ≠ q ∧ k ≠ bs ∧ r.files k = none ∧ k < w.heap.size := by
  obtain ⟨cs, hc⟩ := h.chs.row hk
  refine ⟨fun e => ?_, h.synced.ne_cells hc, ?_, lt_of_heap hc⟩
  · rw [e] at hc; exact absurd (one_type h.cells hc) (by decide)
  · cases e : r.files k with
    | none => rfl
    | some y =>
      have hc' := (h.files.each k y e).cell
      exact absurd (one_type hc hc') (by decide)
theorem RRepAt.new (h : RRepAt A w q r bs ch fv) {k : Nat} (hk : w.heap.size ≤ k) : r.files k = none := by
  cases e : r.files k with
  | none => rfl
  | some y => have := (h.file e).2.2.2; omega
theorem RRepAt.keep (h : RRepAt A w q r bs ch fv) {S : Nat → Prop} {w' : World} (t : Turns S w w') (hS : ∀ k, k < w.heap.size → A k → ¬ S k) : RRepAt A w' q r bs ch fv where
  cells := t.heap h.cells (hS _ (lt_of_heap h.cells) h.af)
  synced := h.synced.keep t (hS _ h.synced.lt h.ay)
  chs := h.chs.keep t fun k hk => hS _ (h.chrow hk).2.2.2 (h.ac k hk)
  af := h.af
  ay := h.ay
  ac := h.ac
  files := ⟨fun g x hg => (h.files.each g x hg).keep t (hS _ (h.file hg).2.2.2 (h.files.each g x hg).ag) fun k hk => hS _ (h.row hg hk).2.2.2.2 ((h.files.each g x hg).ar k hk), h.files.apart⟩
  refs := h.refs
theorem RRepAt.mono (h : RRepAt A w q r bs ch fv) {A' : Nat → Prop} (hA : ∀ k, k < w.heap.size → A k → A' k) : RRepAt A' w q r bs ch fv where
  cells := h.cells
  synced := h.synced
  chs := h.chs
  af := hA _ (lt_of_heap h.cells) h.af
  ay := hA _ h.synced.lt h.ay
  ac := fun k hk => hA _ (h.chrow hk).2.2.2 (h.ac k hk)
  files := ⟨fun g x hg => (h.files.each g x hg).mono hA, h.files.apart⟩
  refs := h.refs
theorem RRepAt.quiet (h : RRepAt A w q r bs ch fv) {w' : World} (t : Turns (fun _ => False) w w') : RRepAt A w' q r bs ch fv := h.keep t fun _ _ _ x => x
/-- Only the file system's own block has turned: its numbers are others. -/
theorem RRepAt.turn (h : RRepAt A w q r bs ch fv) {w' : World} {r' : RDisk} (t : Turns (fun k => k = q) w w') (hc : w'.heap[q]? = some (.cells (r'.cells bs ch) 84 (0, 0))) (e2 : r'.synced = r.synced) (e3 : r'.changes = r.changes) (e4 : r'.files = r.files) : RRepAt A w' q r' bs ch fv where
  cells := hc
  synced := by rw [e2]; exact h.synced.keep t h.fs.symm
  chs := by rw [e3]; exact h.chs.keep t fun k hk => (h.chrow hk).1
  af := h.af
  ay := h.ay
  ac := h.ac
  files := by rw [e4]; exact ⟨fun g x hg => (h.files.each g x hg).keep t (h.file hg).1 fun k hk => (h.row hg hk).1, h.files.apart⟩
  refs := ⟨by rw [e2]; exact h.refs.fs, by rw [e2, e4]; exact h.refs.synced, by rw [e3, e4]; exact h.refs.changes⟩
end

/-- What the numbers of the document's file system keep to. -/
structure RNum (r : RDisk) : Prop where
  n : 0 ≤ r.n ∧ r.n ≤ 1000000
  fuse : -1 ≤ r.fuse ∧ r.fuse ≤ 9223372036854775807
  fault : -1 ≤ r.fault ∧ r.fault ≤ 9223372036854775807
  limit : 0 ≤ r.limit ∧ r.limit ≤ 1073741824
  synced : Maps.size r.synced ≤ 1000000
  changes : r.changes.length ≤ 1000000
  text : ∀ c, c ∈ r.changes → c.went.size ≤ maxLen ∧ c.became.size ≤ maxLen
  bytes : ∀ g x, r.files g = some x → x.bytes.length ≤ 1073741824 ∧ x.synced ≤ x.bytes.length

def RDisk.tick (r : RDisk) : RDisk := { r with n := r.n + 1, fuse := Ytefjljdgdoklmaa.tick r.fuse, fault := Ytefjljdgdoklmaa.tick r.fault }
/-- The document's guard: 0, if the operation is done. -/
def RDisk.op (r : RDisk) : Int × RDisk :=
  if r.off = true then (9, r)
  else if r.fuse = 0 then (9, { r.tick with off := true })
  else if r.fault = 0 then (r.fail, r.tick)
  else (0, r.tick)

theorem rdir_rep (A : Nat → Prop) (q k : Nat) (r : RDisk) (w : World) (h : RRep A w q r) (hn : RNum r) (hk : k ≤ r.changes.length) :
    Calls Try.prog 81 #[.pointer (some ⟨q, 0, none⟩), .int .i64 (k : Nat)] w fun e w' => ∃ N, e = .returned (.map (some w.heap.size)) ∧ Dir w' w.heap.size N (r.dir k) ∧ Below w.heap.size w w' := by
  obtain ⟨bs, ch, fv, h⟩ := h
  exact rdir_any q bs _ k r.synced r.changes r.limit r.fuse r.fault r.fail r.n r.off ch w h.cells h.synced h.chs hk hn.synced hn.changes hn.text

set_option maxRecDepth 100000 in
set_option maxHeartbeats 1000000 in
theorem rnow_rep (A : Nat → Prop) (q : Nat) (r : RDisk) (w : World) (h : RRep A w q r) (hn : RNum r) :
    Calls Try.prog 79 #[.pointer (some ⟨q, 0, none⟩)] w fun e w' => ∃ N, e = .returned (.map (some w.heap.size)) ∧ Dir w' w.heap.size N r.now ∧ Below w.heap.size w w' := by
  have hD := rdir_rep A q r.changes.length r w h hn (Nat.le_refl _)
  rw [show r.dir r.changes.length = r.now by unfold RDisk.dir RDisk.now; rw [List.take_length]] at hD
  have HD := hide hD
  obtain ⟨bs, ch, fv, h⟩ := h
  obtain ⟨ca, cc, rfl⟩ := h.chs.len
  have c2 : w.cell? ⟨q, 2, none⟩ = some (.slice ca r.changes.length cc) := cell_of_row w q 2 _ 84 (0, 0) h.cells
  clear h hD
  generalize r.changes.length = ll at *
  go_enter Try.func79, Try.ntmps79
  go_wp2_with fail
  refine HD.out.mono ?_
  rintro e w1 ⟨N, rfl, d1, b1⟩
  have D1 := hide d1
  have B1 := hide b1
  clear d1 b1
  go_wp2_with fail
  go_ret
  exact ⟨N, rfl, D1.out, B1.out⟩
end Go.Proofs.Ytefjljdgdoklmaa

/-
  The document's guard.
-/
namespace Go.Proofs.Ytefjljdgdoklmaa
open Go.RowKit Go.Maps

set_option maxRecDepth 100000 in
set_option maxHeartbeats 1000000 in
theorem rop_off (q : Nat) (limit fuse fault fail n : Int) (sy ch : Value) (w : World) (h : w.heap[q]? = some (.cells (rfCells limit sy ch true fuse fault fail n) 84 (0, 0))) :
    Calls Try.prog 80 #[.pointer (some ⟨q, 0, none⟩)] w fun e w' => e = .returned (.int .i64 9) ∧ w' = w := by
  have c3 : w.cell? ⟨q, 3, none⟩ = some (.bool true) := cell_of_row w q 3 _ 84 (0, 0) h
  clear h
  go_enter Try.func80, Try.ntmps80
  go_wp2_with fail
  go_ret
  exact ⟨rfl, rfl⟩

theorem tick_neg {n : Int} (h : n < 0) : tick n = n := by unfold tick; rw [if_pos h]
theorem tick_pos {n : Int} (h : 0 < n) : tick n = n - 1 := by unfold tick; rw [if_neg (by omega)]
/-- What the guard answers. -/
def opZ (fuse fault fail : Int) : Int := if fuse = 0 then 9 else if fault = 0 then fail else 0

set_option maxRecDepth 100000 in
set_option maxHeartbeats 4000000 in
theorem rop_on (q : Nat) (limit fuse fault fail n : Int) (sy ch : Value) (w : World) (h : w.heap[q]? = some (.cells (rfCells limit sy ch false fuse fault fail n) 84 (0, 0))) (h7 : 0 ≤ n ∧ n ≤ 1000000) (h8 : fuse ≤ 9223372036854775807) (h9 : fault ≤ 9223372036854775807) :
    Calls Try.prog 80 #[.pointer (some ⟨q, 0, none⟩)] w fun e w' => e = .returned (.int .i64 (opZ fuse fault fail)) ∧ Tick w w' q 84 (rfCells limit sy ch (decide (fuse = 0)) (tick fuse) (tick fault) fail (n + 1)) := by
  have c3 : w.cell? ⟨q, 3, none⟩ = some (.bool false) := cell_of_row w q 3 _ 84 (0, 0) h
  have c4 : w.cell? ⟨q, 4, none⟩ = some (.int .i64 fuse) := cell_of_row w q 4 _ 84 (0, 0) h
  have c5 : w.cell? ⟨q, 5, none⟩ = some (.int .i64 fault) := cell_of_row w q 5 _ 84 (0, 0) h
  have c6 : w.cell? ⟨q, 6, none⟩ = some (.int .i64 fail) := cell_of_row w q 6 _ 84 (0, 0) h
  have c7 : w.cell? ⟨q, 7, none⟩ = some (.int .i64 n) := cell_of_row w q 7 _ 84 (0, 0) h
  have z3 : w.frozen? ⟨q, 3, none⟩ = false := frozen_of_row w q 3 _ 84 h
  have z4 : w.frozen? ⟨q, 4, none⟩ = false := frozen_of_row w q 4 _ 84 h
  have z5 : w.frozen? ⟨q, 5, none⟩ = false := frozen_of_row w q 5 _ 84 h
  have z7 : w.frozen? ⟨q, 7, none⟩ = false := frozen_of_row w q 7 _ 84 h
  have T0 := hide ((Tick.refl h).set 7 (.int .i64 (n + 1)))
  clear h
  go_enter Try.func80, Try.ntmps80
  go_wp2_with fail
  have T1 : ∀ m, Hid (Tick w ((w.setCell ⟨q, 7, none⟩ (.int .i64 (n + 1))).drewN m) q 84 (rfCells limit sy ch false fuse fault fail (n + 1))) := fun m => by
    have := T0.out
    exact ⟨this.1, this.2.1, this.2.2.1, fun B hB => below_drewN (this.2.2.2 B hB) m⟩
  go_quiet (fail)
  have TN := T1 nq
  clear T1 T0 c3 c4 c5 c6 c7 z3 z4 z5 z7
  generalize (w.setCell ⟨q, 7, none⟩ (.int .i64 (n + 1))).drewN nq = w1 at *
  have c3 : w1.cell? ⟨q, 3, none⟩ = some (.bool false) := TN.out.cell 3
  have c4 : w1.cell? ⟨q, 4, none⟩ = some (.int .i64 fuse) := TN.out.cell 4
  have c5 : w1.cell? ⟨q, 5, none⟩ = some (.int .i64 fault) := TN.out.cell 5
  have c6 : w1.cell? ⟨q, 6, none⟩ = some (.int .i64 fail) := TN.out.cell 6
  have z3 := TN.out.frozen 3
  have z4 := TN.out.frozen 4
  have z5 := TN.out.frozen 5
  have hcase : (fuse < 0 ∨ fuse = 0 ∨ 0 < fuse) ∧ (fault < 0 ∨ fault = 0 ∨ 0 < fault) := by omega
  obtain ⟨hf | hf | hf, hg | hg | hg⟩ := hcase
  all_goals
    have HF := hide hf
    have HG := hide hg
    try have p1 : ¬ (0 : Int) ≤ fuse := by omega
    try have p2 : (0 : Int) ≤ fuse := by omega
    try have p3 : ¬ (0 : Int) ≤ fault := by omega
    try have p4 : (0 : Int) ≤ fault := by omega
    try have p5 : (fuse == 0) = false := by rw [beq_eq_false_iff_ne]; omega
    try have p6 : (fault == 0) = false := by rw [beq_eq_false_iff_ne]; omega
    try subst hf
    try subst hg
    go_wp2_with fail
  · go_ret
    refine ⟨?_, ?_⟩
    · rw [show opZ fuse fault fail = 0 from by unfold opZ; rw [if_neg (by have := HF.out; omega), if_neg (by have := HG.out; omega)]]
      rfl
    · rw [show decide ((fuse : Int) = 0) = false from decide_eq_false (by have := HF.out; omega), show tick fuse = fuse from tick_neg HF.out, show tick fault = fault from tick_neg HG.out]
      exact TN.out
  · go_ret
    refine ⟨?_, ?_⟩
    · rw [show opZ fuse 0 fail = fail from by unfold opZ; rw [if_neg (by have := HF.out; omega), if_pos rfl]]
      rfl
    · rw [show decide ((fuse : Int) = 0) = false from decide_eq_false (by have := HF.out; omega), show tick fuse = fuse from tick_neg HF.out, show tick 0 = -1 from rfl]
      exact (TN.out.set 5 (.int .i64 (-1)))
  · go_ret
    refine ⟨?_, ?_⟩
    · rw [show opZ fuse fault fail = 0 from by unfold opZ; rw [if_neg (by have := HF.out; omega), if_neg (by have := HG.out; omega)]]
      rfl
    · rw [show decide ((fuse : Int) = 0) = false from decide_eq_false (by have := HF.out; omega), show tick fuse = fuse from tick_neg HF.out, show tick fault = fault - 1 from tick_pos HG.out]
      exact (TN.out.set 5 (.int .i64 (fault - 1)))
  · go_ret
    refine ⟨?_, ?_⟩
    · rw [show opZ 0 fault fail = 9 from rfl]
      rfl
    · rw [show tick 0 = -1 from rfl, show tick fault = fault from tick_neg HG.out]
      exact ((TN.out.set 4 (.int .i64 (-1))).set 3 (.bool true))
  · go_ret
    refine ⟨?_, ?_⟩
    · rw [show opZ 0 0 fail = 9 from rfl]
      rfl
    · rw [show tick 0 = -1 from rfl]
      exact (((TN.out.set 4 (.int .i64 (-1))).set 5 (.int .i64 (-1))).set 3 (.bool true))
  · go_ret
    refine ⟨?_, ?_⟩
    · rw [show opZ 0 fault fail = 9 from rfl]
      rfl
    · rw [show tick 0 = -1 from rfl, show tick fault = fault - 1 from tick_pos HG.out]
      exact (((TN.out.set 4 (.int .i64 (-1))).set 5 (.int .i64 (fault - 1))).set 3 (.bool true))
  · go_ret
    refine ⟨?_, ?_⟩
    · rw [show opZ fuse fault fail = 0 from by unfold opZ; rw [if_neg (by have := HF.out; omega), if_neg (by have := HG.out; omega)]]
      rfl
    · rw [show decide ((fuse : Int) = 0) = false from decide_eq_false (by have := HF.out; omega), show tick fuse = fuse - 1 from tick_pos HF.out, show tick fault = fault from tick_neg HG.out]
      exact (TN.out.set 4 (.int .i64 (fuse - 1)))
  · go_ret
    refine ⟨?_, ?_⟩
    · rw [show opZ fuse 0 fail = fail from by unfold opZ; rw [if_neg (by have := HF.out; omega), if_pos rfl]]
      rfl
    · rw [show decide ((fuse : Int) = 0) = false from decide_eq_false (by have := HF.out; omega), show tick fuse = fuse - 1 from tick_pos HF.out, show tick 0 = -1 from rfl]
      exact ((TN.out.set 4 (.int .i64 (fuse - 1))).set 5 (.int .i64 (-1)))
  · go_ret
    refine ⟨?_, ?_⟩
    · rw [show opZ fuse fault fail = 0 from by unfold opZ; rw [if_neg (by have := HF.out; omega), if_neg (by have := HG.out; omega)]]
      rfl
    · rw [show decide ((fuse : Int) = 0) = false from decide_eq_false (by have := HF.out; omega), show tick fuse = fuse - 1 from tick_pos HF.out, show tick fault = fault - 1 from tick_pos HG.out]
      exact ((TN.out.set 4 (.int .i64 (fuse - 1))).set 5 (.int .i64 (fault - 1)))

theorem rop_rep (A : Nat → Prop) (q : Nat) (r : RDisk) (w : World) (bs : Nat) (ch : Value) (fv : Nat → Value) (h : RRepAt A w q r bs ch fv) (hn : RNum r) :
    Calls Try.prog 80 #[.pointer (some ⟨q, 0, none⟩)] w fun e w' => e = .returned (.int .i64 r.op.1) ∧ RRepAt A w' q r.op.2 bs ch fv ∧ Turns (fun k => k = q) w w' := by
  have hc := h.cells
  unfold RDisk.cells at hc
  cases hoff : r.off with
  | true =>
    have ho : r.op = (9, r) := by unfold RDisk.op; rw [if_pos hoff]
    rw [hoff] at hc
    refine (rop_off q r.limit r.fuse r.fault r.fail r.n _ ch w hc).mono ?_
    rintro e w' ⟨rfl, rfl⟩
    rw [ho]
    exact ⟨rfl, h, Turns.refl _ _⟩
  | false =>
    rw [hoff] at hc
    refine (rop_on q r.limit r.fuse r.fault r.fail r.n _ ch w hc hn.n hn.fuse.2 hn.fault.2).mono ?_
    rintro e w' ⟨rfl, t⟩
    have hoff' : ¬ r.off = true := by rw [hoff]; decide
    unfold opZ at *
    by_cases h8 : r.fuse = 0
    · have ho : r.op = (9, { r.tick with off := true }) := by unfold RDisk.op; rw [if_neg hoff', if_pos h8]
      rw [ho, if_pos h8]
      rw [decide_eq_true h8] at t
      exact ⟨rfl, h.turn (Turns.of_tick t) t.1 rfl rfl rfl, Turns.of_tick t⟩
    · rw [decide_eq_false h8] at t
      rw [if_neg h8]
      by_cases h9 : r.fault = 0
      · have ho : r.op = (r.fail, r.tick) := by unfold RDisk.op; rw [if_neg hoff', if_neg h8, if_pos h9]
        rw [ho, if_pos h9]
        refine ⟨rfl, h.turn (Turns.of_tick t) ?_ rfl rfl rfl, Turns.of_tick t⟩
        rw [t.1, RDisk.cells, RDisk.tick, hoff]
      · have ho : r.op = (0, r.tick) := by unfold RDisk.op; rw [if_neg hoff', if_neg h8, if_neg h9]
        rw [ho, if_neg h9]
        refine ⟨rfl, h.turn (Turns.of_tick t) ?_ rfl rfl rfl, Turns.of_tick t⟩
        rw [t.1, RDisk.cells, RDisk.tick, hoff]
end Go.Proofs.Ytefjljdgdoklmaa

/-
  The document's guard of an operation with names.
-/
namespace Go.Proofs.Ytefjljdgdoklmaa
open Go.RowKit Go.Maps

def RDisk.begin (r : RDisk) (right : Bool) : Int × RDisk := if right = true then r.op else (2, r)

set_option maxRecDepth 100000 in
set_option maxHeartbeats 2000000 in
theorem rbegin_rep (A : Nat → Prop) (q : Nat) (r : RDisk) (a : Option Addr) (n c : Nat) (ss : List ByteArray) (w : World) (bs : Nat) (ch : Value) (fv : Nat → Value) (h : RRepAt A w q r bs ch fv) (hn : RNum r) (hs : Strs w a n ss) (hn2 : n ≤ 1000) (hsz : ∀ s, s ∈ ss → s.size ≤ 1000) :
    Calls Try.prog 78 #[.pointer (some ⟨q, 0, none⟩), .slice a n c] w fun e w' => e = .returned (.int .i64 (r.begin (ss.all goodN)).1) ∧ RRepAt A w' q (r.begin (ss.all goodN)).2 bs ch fv ∧ Turns (fun k => k = q) w w' := by
  have H := hide h
  have HN := hide hn
  have HS := hide hs
  have HZ := hide hsz
  clear h hn hs hsz
  go_enter Try.func78, Try.ntmps78
  go_wp2_with fail
  go_loopw [5] (fun iv wr => ∃ i : Nat, iv = .int .i64 (i : Nat) ∧ i ≤ n ∧ (∀ s, s ∈ ss.take i → goodN s = true) ∧ wr = w) (fun iv _ => n - (intOf iv).toNat)
  case atStart => exact ⟨0, rfl, Nat.zero_le _, fun s hs => by simp at hs, rfl⟩
  case round =>
    obtain ⟨i, rfl, hi, hall, rfl⟩ := hrel
    have HALL := hide hall
    clear hall
    have hnl : n = ss.length := HS.out.1
    by_cases hin : i < n
    · obtain ⟨b, off, rfl, h1⟩ := HS.out.2 i hin
      have hil : i < ss.length := by omega
      have hgd : ss.getD i ⟨#[]⟩ = ss[i] := by rw [List.getD_eq_getElem?_getD, List.getElem?_eq_getElem hil, Option.getD_some]
      rw [hgd] at h1
      have hmem : ss[i] ∈ ss := List.getElem_mem hil
      have hz := HZ.out _ hmem
      have hst : ∀ s, s ∈ ss.take (i + 1) → s ∈ ss.take i ∨ s = ss[i] := fun s hs => by
        rw [List.take_add_one, List.getElem?_eq_getElem hil, Option.toList_some, List.mem_append, List.mem_singleton] at hs
        exact hs
      have HST := hide hst
      have HM := hide hmem
      clear hst hgd hmem hnl
      generalize ss[i] = s0 at *
      have i1 : (i : Int) < (n : Int) := by omega
      have i0 : (0 : Int) ≤ (i : Int) := by omega
      go_wp2_with fail
      refine (rname_any s0 _ hz).mono ?_
      rintro e w1 ⟨rfl, rfl⟩
      cases hg : goodN s0 with
      | true =>
        have HG := hide hg
        clear hg
        go_wp2_with fail
        go_roundw
        case rel =>
          refine ⟨i + 1, by go_num, by omega, fun s hs => ?_, by trivial⟩
          rcases HST.out s hs with hs | rfl
          · exact HALL.out s hs
          · exact HG.out
        case measure => simp [intOf]; omega
      | false =>
        have hb : ss.all goodN = false := by
          rw [Bool.eq_false_iff]
          intro e
          have := List.all_eq_true.1 e s0 HM.out
          rw [hg] at this
          cases this
        have HB := hide hb
        clear hb hg
        go_wp2_with fail
        go_ret
        rw [HB.out]
        exact ⟨rfl, H.out, Turns.refl _ _⟩
    · obtain rfl : i = n := by omega
      have hg : ss.all goodN = true := List.all_eq_true.2 fun s hs => HALL.out s (by rw [hnl, List.take_length]; exact hs)
      have HG := hide hg
      clear hg hnl
      go_wp2_with fail
      refine (rop_rep A q r _ bs ch fv H.out HN.out).mono ?_
      rintro e w1 ⟨rfl, r1, t1⟩
      have R1 := hide r1
      have T1 := hide t1
      clear r1 t1
      go_wp2_with fail
      go_ret
      rw [HG.out]
      exact ⟨rfl, R1.out, T1.out⟩
theorem strs_one (w : World) (s : ByteArray) : Strs (w.alloc (.cells #[.string s] 9)) (some ⟨w.heap.size, 0, none⟩) 1 [s] :=
  ⟨rfl, fun k hk => ⟨w.heap.size, 0, rfl, by
    obtain rfl : k = 0 := by omega
    exact cell_of_row _ _ 0 _ 9 (0, 0) (heap_alloc_new w _)⟩⟩
theorem strs_two (w : World) (s t : ByteArray) : Strs (w.alloc (.cells #[.string s, .string t] 9)) (some ⟨w.heap.size, 0, none⟩) 2 [s, t] :=
  ⟨rfl, fun k hk => ⟨w.heap.size, 0, rfl, by
    have : k = 0 ∨ k = 1 := by omega
    rcases this with rfl | rfl
    · exact cell_of_row _ _ 0 _ 9 (0, 0) (heap_alloc_new w _)
    · exact cell_of_row _ _ 1 _ 9 (0, 0) (heap_alloc_new w _)⟩⟩
end Go.Proofs.Ytefjljdgdoklmaa

/-
  The document's Create and Sync.
-/
namespace Go.Proofs.Ytefjljdgdoklmaa
open Go.RowKit Go.Maps

theorem zero92 (w : World) : (zeroValue 92).run Try.prog w = .ok (.pointer none) w := by kernel_rfl
theorem Dir.look81 {w : World} {b n : Nat} {D : DataW Unit} (h : Dir w b n D) (s : ByteArray) (hs : s.size ≤ maxLen) :
    (Instr.lookup 81 (.map (some b)) (.string s) false).run Try.prog w = .ok (ptrOf (fileOf D s)) w := by
  obtain ⟨v, ps, hr, hv⟩ := World.ownsMap.lookup h law9 Try.underlying81 (zero92 w) ptrR_none (keyOf9 s hs)
  have : v = ptrOf (fileOf D s) := by
    rcases ptrR_inv hv with ⟨rfl, hd⟩ | ⟨g, rfl, hd⟩
    · have : fileOf D s = none := by unfold fileOf; rw [hd]
      rw [this]; rfl
    · rw [fileOf_lit D s g hd]; rfl
  rw [this] at hr
  exact hr

theorem t97_size : Try.t97.size = 3 := by kernel_rfl
theorem t97_bytes : Try.t97.bytes = 40 := by kernel_rfl
theorem t97_info : Try.prog.info? 97 = some Try.t97 := by kernel_rfl
theorem t97_zero : Try.t97.zero = some (.agg #[.string ⟨#[]⟩, .pointer none, .string ⟨#[]⟩]) := by kernel_rfl
/-- One of the document's changes that is appended. -/
theorem append_rchg (w : World) (v : Value) (l : List Chg) (h : RChs w v l) (hlen : l.length ≤ 1000000000) (x : Chg) (a : Addr) (c : Nat) (ha : ∀ j u, [Value.string x.became, ptrOf x.file, .string x.went][j]? = some u → w.cell? (a.add j) = some u) :
    ∃ (g' n' c' : Nat) (w' : World), (∀ ty, (Builtin.append_ #[82, 82] ty #[v, .slice (some a) 1 c]).run Try.prog w = .ok (.slice (some ⟨g', 0, none⟩) n' c') w') ∧ RChs w' (.slice (some ⟨g', 0, none⟩) n' c') (l ++ [x]) ∧ Turns (inRow v) w w' ∧ ∀ k, inRow (.slice (some ⟨g', 0, none⟩) n' c') k → inRow v k ∨ w.heap.size ≤ k := by
  have hsrc : Src Try.prog Try.t97.size 82 (.slice (some a) 1 c) 1 [.string x.became, ptrOf x.file, .string x.went] w := Src.ofSlice w Try.underlying82 a 1 c _ (by rw [t97_size]; rfl) ha (fun u hu => by
    simp only [List.mem_cons, List.not_mem_nil, or_false] at hu
    rcases hu with rfl | rfl | rfl
    · rfl
    · cases x.file <;> rfl
    · rfl)
  obtain ⟨base, sLen, sCap, rfl, hsl, hbase⟩ : ∃ (base : Option Addr) (sLen sCap : Nat), v = .slice base sLen sCap ∧ sLen = l.length ∧ ((base = none ∧ sLen = 0 ∧ sCap = 0 ∧ 0 < 1) ∨ ∃ g, base = some ⟨g, 0, none⟩ ∧ 0 ≤ g ∧ sLen ≤ sCap ∧ RowC w g 97 (sCap * Try.t97.size) (rcCells l)) := by
    rcases h with ⟨rfl, rfl⟩ | ⟨g, c, n, rfl, rfl, _, h4, h5⟩
    · exact ⟨none, 0, 0, rfl, rfl, .inl ⟨rfl, rfl, rfl, by omega⟩⟩
    · exact ⟨_, _, _, rfl, rfl, .inr ⟨g, rfl, Nat.zero_le _, h4, by rw [t97_size]; exact h5⟩⟩
  obtain ⟨g, cp, w', hr, hg, hrow, hb, hcp, hin, hout, hkeep⟩ := append_gen2 (P := Try.prog) w 0 82 97 Try.t97 _ Try.underlying82 t97_info t97_zero rfl base sLen sCap (rcCells l) (by rw [rcCells_length, t97_size, hsl]) _ 1 _ hsrc (Nat.zero_le _) hbase (by rw [t97_bytes]; omega) (by omega)
  refine ⟨g, _, cp, w', hr, .inr ⟨g, cp, _, rfl, by simp [hsl], by omega, hcp, ?_⟩, ⟨hb.os, hb.tape, hb.output, hb.size, fun k hk hn => hkeep k hk fun e => hn ⟨sLen, sCap, by rw [e]⟩⟩, fun k hk => ?_⟩
  · rw [t97_size] at hrow
    rw [rcCells_snoc]
    exact hrow
  · obtain ⟨n', c', e⟩ := hk
    cases e
    rcases Nat.lt_or_ge sCap (sLen + 1) with hc | hc
    · exact .inr (by rw [hout hc]; exact Nat.le_refl _)
    · exact .inl ⟨sLen, sCap, by rw [(hin hc).1]⟩

def RDisk.setF (r : RDisk) (g : Nat) (x : Fil) : RDisk := { r with files := fun k => if k = g then some x else r.files k }
def RDisk.change (r : RDisk) (c : Chg) : RDisk := { r with changes := r.changes ++ [c] }

section
variable {A : Nat → Prop} {w w' : World} {q : Nat} {r : RDisk} {bs : Nat} {ch ch' : Value} {fv : Nat → Value}
/-- A change was kept, with a file that may be new. -/
theorem RRepAt.changed (h : RRepAt A w q r bs ch fv) (c : Chg) (hf : w'.heap[q]? = some (.cells ((r.change c).cells bs ch') 84 (0, 0))) (hc : RChs w' ch' (r.changes ++ [c])) (t : Turns (fun k => k = q ∨ inRow ch k) w w') (hr : ∀ k, inRow ch' k → inRow ch k ∨ w.heap.size ≤ k)
    (hx : ∀ g, c.file = some g → ∃ x, r.files g = some x) : RRepAt (Grow A w) w' q (r.change c) bs ch' fv where
  cells := hf
  synced := h.synced.keep t fun e => by
    rcases e with e | e
    · exact h.fs e.symm
    · exact (h.chrow e).2.1 rfl
  chs := hc
  af := .inl h.af
  ay := .inl h.ay
  ac := fun k hk => (hr k hk).imp (h.ac k) id
  files := by
    refine ⟨fun g x hg => ?_, h.files.apart⟩
    have hg' : r.files g = some x := hg
    refine ((h.files.each g x hg').mono (A' := Grow A w) fun k _ hk => .inl hk).keep t (fun e => ?_) (fun k hk e => ?_)
    · rcases e with e | e
      · exact (h.file hg').1 e
      · exact (h.file hg').2.2.1 e
    · rcases e with e | e
      · exact (h.row hg' hk).1 e
      · exact (h.row hg' hk).2.2.1 e
  refs := by
    refine ⟨h.refs.fs, h.refs.synced, fun x hxm g hg => ?_⟩
    have hxm' : x ∈ r.changes ++ [c] := hxm
    rcases List.mem_append.1 hxm' with hxm | hxm
    · exact h.refs.changes x hxm g hg
    · obtain rfl : x = c := by simpa using hxm
      exact hx g hg
/-- A file without bytes is new. -/
theorem RRepAt.fresh (h : RRepAt A w q r bs ch fv) {g : Nat} (hg : w.heap.size ≤ g) (t : Turns (fun _ => False) w w') (hc : w'.heap[g]? = some (.cells #[.slice none 0 0, .int .i64 0] 95 (0, 0))) : RRepAt (Grow A w) w' q (r.setF g ⟨[], 0⟩) bs ch (fun k => if k = g then .slice none 0 0 else fv k) := by
  have h' := h.quiet t
  have hnil : ∀ k, ¬ inRow (.slice none 0 0) k := fun k hk => by obtain ⟨_, _, e⟩ := hk; cases e
  refine ⟨h'.cells, h'.synced, h'.chs, .inl h.af, .inl h.ay, fun k hk => .inl (h.ac k hk), ⟨fun p x hp => ?_, fun p p' x x' k hp hp' hne hk => ?_⟩, ?_⟩
  · by_cases e : p = g
    · subst e
      have hx : (⟨[], 0⟩ : Fil) = x := by simpa [RDisk.setF] using hp
      subst hx
      rw [if_pos rfl]
      exact ⟨hc, .inl ⟨rfl, rfl⟩, .inr hg, fun k hk => (hnil k hk).elim⟩
    · rw [if_neg e]
      have hp' : r.files p = some x := by simpa [RDisk.setF, e] using hp
      exact (h'.files.each p x hp').mono fun k _ hk => .inl hk
  · by_cases e : p = g
    · rw [if_pos e] at hk
      exact (hnil k hk).elim
    · rw [if_neg e] at hk
      by_cases e' : p' = g
      · rw [if_pos e']
        exact hnil k
      · rw [if_neg e']
        exact h.files.apart p p' x x' k (by simpa [RDisk.setF, e] using hp) (by simpa [RDisk.setF, e'] using hp') hne hk
  · have hup : ∀ p, (∃ x, r.files p = some x) → ∃ x, (r.setF g ⟨[], 0⟩).files p = some x := fun p ⟨x, hx⟩ => by
      by_cases e : p = g
      · exact ⟨⟨[], 0⟩, by simp [RDisk.setF, e]⟩
      · exact ⟨x, by simp [RDisk.setF, e, hx]⟩
    exact ⟨h.refs.fs, fun s p hs => hup p (h.refs.synced s p hs), fun c hc p hp => hup p (h.refs.changes c hc p hp)⟩
end
end Go.Proofs.Ytefjljdgdoklmaa

/-
  The document's Create: the walk.
-/
namespace Go.Proofs.Ytefjljdgdoklmaa
open Go.RowKit Go.Maps

def RDisk.add (r : RDisk) (name : ByteArray) (g : Nat) : RDisk := (r.setF g ⟨[], 0⟩).change ⟨⟨#[]⟩, name, some g⟩

set_option maxRecDepth 100000 in
set_option maxHeartbeats 2000000 in
theorem rcreate_rep (A : Nat → Prop) (q : Nat) (r r1 : RDisk) (z : Int) (name : ByteArray) (w : World) (h : RRep A w q r) (hn : RNum r) (hn1 : RNum r1) (hnm : name.size ≤ 1000) (hz : r.begin (goodN name) = (z, r1)) (R : Ending → World → Prop)
    (HE : z ≠ 0 → ∀ w', RRep (Grow A w) w' q r1 → Turns A w w' → R (.returned (.int .i64 z)) w')
    (HT : z = 0 → ∀ g w', fileOf r1.now name = some g → RRep (Grow A w) w' q r1 → Turns A w w' → R (.returned (.int .i64 5)) w')
    (HN : z = 0 → fileOf r1.now name = none → ∀ g w', w.heap.size ≤ g → RRep (Grow A w) w' q (r1.add name g) → Turns A w w' → R (.returned (.int .i64 0)) w') :
    Calls Try.prog 56 #[.pointer (some ⟨q, 0, none⟩), .string name] w R := by
  obtain ⟨bs, ch, fv, h⟩ := h
  have t0 : Turns (fun _ => False) w (w.alloc (.cells #[.string name] 9)) := (Turns.refl _ w).alloc _
  have hB := rbegin_rep A q r (some ⟨w.heap.size, 0, none⟩) 1 1 [name] _ bs ch fv (h.quiet t0) hn (strs_one w name) (by decide) (fun s hs => by simp at hs; rw [hs]; exact hnm)
  rw [show [name].all goodN = goodN name by simp, hz] at hB
  have HB := hide hB
  have hqa := h.af
  have hsz0 := t0.size
  have HEE := hide HE
  have HTT := hide HT
  have HNN := hide HN
  have T0 := hide t0
  have HN1 := hide hn1
  have hqw := lt_of_heap h.cells
  clear hB h hn hz HE HT HN t0 hn1
  go_enter Try.func56, Try.ntmps56
  go_wp2_with fail
  refine HB.out.mono ?_
  rintro e w1 ⟨rfl, r1r, t1⟩
  have R1 := hide r1r
  have tw1 : Turns (fun k => k = q) w w1 := (T0.out.mono fun _ _ x => x.elim).trans t1
  have TW1 := hide tw1
  have hsz1 := tw1.size
  clear r1r t1 tw1 HB
  by_cases hz0 : z = 0
  · subst hz0
    go_wp2_with fail
    refine (rnow_rep A q r1 w1 ⟨bs, ch, fv, R1.out⟩ HN1.out).mono ?_
    rintro e w2 ⟨N, rfl, d2, b2⟩
    have hlk := d2.look81 name (by unfold maxLen; omega)
    have t2 : Turns (fun _ => False) w1 w2 := Turns.of_below b2 _
    have R2 := hide (R1.out.quiet t2)
    have TW2 := hide (TW1.out.trans (t2.mono fun _ _ x => x.elim))
    have hsz2 := t2.size
    clear d2 b2 t2 R1 TW1
    cases hfile : fileOf r1.now name with
    | some g =>
      rw [hfile] at hlk
      simp only [ptrOf] at hlk
      have HF := hide (HTT.out (by trivial) g w2 hfile ⟨bs, ch, fv, R2.out.mono fun k _ hk => .inl hk⟩ (TW2.out.mono fun k _ e => by rw [e]; exact hqa))
      clear hfile
      go_wp2_with fail
      exact HF.out
    | none =>
      rw [hfile] at hlk
      simp only [ptrOf] at hlk
      have ta : Turns (fun _ => False) w2 (w2.alloc (.cells #[.slice none 0 0, .int .i64 0] 95)) := (Turns.refl _ w2).alloc _
      have Ra := R2.out.fresh (Nat.le_refl _) ta (heap_alloc_new w2 _)
      have ea : (w2.alloc (.cells #[.slice none 0 0, .int .i64 0] 95)).heap.size = w2.heap.size + 1 := by simp
      have tb : Turns (fun _ => False) (w2.alloc (.cells #[.slice none 0 0, .int .i64 0] 95)) ((w2.alloc (.cells #[.slice none 0 0, .int .i64 0] 95)).alloc (.cells #[.string name, .pointer (some ⟨w2.heap.size, 0, none⟩), .string ⟨#[]⟩] 97)) := (Turns.refl _ _).alloc _
      have Rb := Ra.quiet tb
      have hrow := heap_alloc_new (w2.alloc (.cells #[.slice none 0 0, .int .i64 0] 95)) (.cells #[.string name, .pointer (some ⟨w2.heap.size, 0, none⟩), .string ⟨#[]⟩] 97)
      rw [ea] at hrow
      obtain ⟨g3, n3, c3, w3, hr3, hl3, t3, hin3⟩ := append_rchg _ ch (r1.setF w2.heap.size ⟨[], 0⟩).changes Rb.chs (by have := HN1.out.changes; show r1.changes.length ≤ 1000000000; omega) ⟨⟨#[]⟩, name, some w2.heap.size⟩ ⟨w2.heap.size + 1, 0, none⟩ 1 (fun j u hu => by
        rw [Go.WideShapes.add_plain, Nat.zero_add, cell_of_row _ _ _ _ _ _ hrow, List.getElem?_toArray]
        exact hu)
      have hq2 : w2.cell? ⟨q, 2, none⟩ = some ch := cell_of_row w2 q 2 _ 84 (0, 0) R2.out.cells
      have hc3 := t3.heap Rb.cells (fun e => (Rb.chrow e).1 rfl)
      have y3 : w3.cell? ⟨q, 2, none⟩ = some ch := cell_of_row w3 q 2 _ 84 (0, 0) hc3
      have z3 : w3.frozen? ⟨q, 2, none⟩ = false := frozen_of_row w3 q 2 _ 84 hc3
      have t4 := (Tick.refl hc3).set 2 (.slice (some ⟨g3, 0, none⟩) n3 c3)
      have u4 := Turns.of_tick t4
      have hin4 : ∀ k, inRow (.slice (some ⟨g3, 0, none⟩) n3 c3) k → ¬ k = q := fun k hk e => by
        obtain ⟨cs, hc⟩ := hl3.row hk
        rw [e] at hc
        exact absurd (one_type hc3 hc) (by decide)
      have hszb : w2.heap.size ≤ ((w2.alloc (.cells #[.slice none 0 0, .int .i64 0] 95)).alloc (.cells #[.string name, .pointer (some ⟨w2.heap.size, 0, none⟩), .string ⟨#[]⟩] 97)).heap.size := Nat.le_trans ta.size tb.size
      have Rc := Rb.changed (w' := w3.setCell ⟨q, 2, none⟩ (.slice (some ⟨g3, 0, none⟩) n3 c3)) ⟨⟨#[]⟩, name, some w2.heap.size⟩ (ch' := .slice (some ⟨g3, 0, none⟩) n3 c3) t4.1 (hl3.keep u4 hin4) ((t3.mono fun k _ e => .inr e).trans (u4.mono fun k _ e => .inl e)) hin3 (fun g hg => by
        obtain rfl : w2.heap.size = g := by simpa using hg
        exact ⟨⟨[], 0⟩, by simp [RDisk.setF]⟩)
      have HF := hide (HNN.out (by trivial) hfile w2.heap.size (w3.setCell ⟨q, 2, none⟩ (.slice (some ⟨g3, 0, none⟩) n3 c3)) (by omega) ⟨bs, _, _, Rc.mono fun k _ hk => by
          rcases hk with (hk | hk) | hk
          · exact .inl hk
          · exact .inr (by omega)
          · exact .inr (by omega)⟩ (((TW2.out.mono fun k _ e => by rw [e]; exact hqa).trans ((ta.trans tb).mono fun _ _ x => x.elim)).andThen ((t3.mono (S' := fun k => k = q ∨ inRow ch k) fun k _ e => .inr e).trans (u4.mono fun k _ e => .inl e)) (fun k hk e => by
          rcases e with e | e
          · rw [e]; exact hqa
          · exact R2.out.ac k e)))
      have hq := hr3 82
      clear hfile ta Ra tb Rb hrow hr3 hl3 t3 hin3 hc3 t4 u4 hin4 Rc ea hszb
      go_wp2_with (at_builtin; refine wpList_append_run rfl _ _ 82 rfl _ _ rfl rfl _ _ hq ?_)
      exact HF.out
  · have hzz : (z != 0) = true := by rw [bne_iff_ne]; exact hz0
    have HF := hide (HEE.out hz0 w1 ⟨bs, ch, fv, R1.out.mono fun k _ hk => .inl hk⟩ (TW1.out.mono fun k _ e => by rw [e]; exact hqa))
    clear hz0
    go_wp2_with fail
    exact HF.out
end Go.Proofs.Ytefjljdgdoklmaa

/-
  One of the document's files has turned; a name of its directory is a file.
-/
namespace Go.Proofs.Ytefjljdgdoklmaa
open Go.RowKit Go.Maps

section
variable {A : Nat → Prop} {w w' : World} {q : Nat} {r : RDisk} {bs : Nat} {ch : Value} {fv : Nat → Value}
/-- One file has turned. -/
theorem RRepAt.filed (h : RRepAt A w q r bs ch fv) {g : Nat} {x x' : Fil} {v' : Value} (hx : r.files g = some x) (hg : w'.heap[g]? = some (.cells #[v', .int .i64 (x'.synced : Nat)] 95 (0, 0))) (ho : OwnB w' v' x'.bytes) (t : Turns (fun k => k = g) w w') (hr : ∀ k, inRow v' k → inRow (fv g) k ∨ w.heap.size ≤ k) : RRepAt (Grow A w) w' q (r.setF g x') bs ch (fun k => if k = g then v' else fv k) where
  cells := t.heap h.cells (fun e => (h.file hx).1 e.symm)
  synced := h.synced.keep t fun e => (h.file hx).2.1 e.symm
  chs := h.chs.keep t fun k hk e => by rw [e] at hk; exact (h.file hx).2.2.1 hk
  af := .inl h.af
  ay := .inl h.ay
  ac := fun k hk => .inl (h.ac k hk)
  files := by
    refine ⟨fun p y hp => ?_, fun p p' y y' k hp hp' hne hk => ?_⟩
    · by_cases e : p = g
      · subst e
        have hy : x' = y := by simpa [RDisk.setF] using hp
        subst hy
        rw [if_pos rfl]
        exact ⟨hg, ho, .inl (h.files.each p x hx).ag, fun k hk => (hr k hk).imp ((h.files.each p x hx).ar k) id⟩
      · rw [if_neg e]
        have hp' : r.files p = some y := by simpa [RDisk.setF, e] using hp
        refine ((h.files.each p y hp').mono (A' := Grow A w) fun k _ hk => .inl hk).keep t e (fun k hk u => ?_)
        have := (h.row hp' hk).2.2.2.1
        rw [u, hx] at this
        cases this
    · by_cases e : p = g
      · rw [if_pos e] at hk
        have e' : p' ≠ g := fun e' => hne (e.trans e'.symm)
        rw [if_neg e']
        have hq2 : r.files p' = some y' := by simpa [RDisk.setF, e'] using hp'
        intro u
        rcases hr k hk with v | v
        · exact h.files.apart p' g y' x k hq2 hx e' u v
        · have := (h.row hq2 u).2.2.2.2; omega
      · rw [if_neg e] at hk
        have hq2 : r.files p = some y := by simpa [RDisk.setF, e] using hp
        by_cases e' : p' = g
        · rw [if_pos e']
          intro u
          rcases hr k u with v | v
          · exact h.files.apart p g y x k hq2 hx e hk v
          · have := (h.row hq2 hk).2.2.2.2; omega
        · rw [if_neg e']
          exact h.files.apart p p' y y' k hq2 (by simpa [RDisk.setF, e'] using hp') hne hk
  refs := by
    have hup : ∀ p, (∃ y, r.files p = some y) → ∃ y, (r.setF g x').files p = some y := fun p ⟨y, hy⟩ => by
      by_cases e : p = g
      · exact ⟨x', by simp [RDisk.setF, e]⟩
      · exact ⟨y, by simp [RDisk.setF, e, hy]⟩
    exact ⟨h.refs.fs, fun s p hs => hup p (h.refs.synced s p hs), fun c hc p hp => hup p (h.refs.changes c hc p hp)⟩
end
def putR (E : DataW Unit) (file : Option Nat) (became : ByteArray) : DataW Unit := match file with
  | none => E
  | some g => E.put (key became) (.lit (.int .i64 (g : Nat)))
theorem applyR_eq (D : DataW Unit) (c : Chg) : applyR D c = putR (if c.went.size = 0 then D else D.del (key c.went)) c.file c.became := rfl
/-- Which file a name is behind a change, in the document's words. -/
theorem fileOf_applyR' (D : DataW Unit) (hD : IsMap D) (c : Chg) (s : ByteArray) :
    fileOf (applyR D c) s = match c.file with
      | none => if s = c.went ∧ c.went.size ≠ 0 then none else fileOf D s
      | some g => if s = c.became then some g else if s = c.went ∧ c.went.size ≠ 0 then none else fileOf D s := by
  rw [applyR_eq]
  obtain ⟨went, became, file⟩ := c
  have hdel : IsMap (if went.size = 0 then D else D.del (key went)) ∧ fileOf (if went.size = 0 then D else D.del (key went)) s = if s = went ∧ went.size ≠ 0 then none else fileOf D s := by
    by_cases hw : went.size = 0
    · rw [if_pos hw, if_neg (fun e => e.2 hw)]
      exact ⟨hD, rfl⟩
    · rw [if_neg hw]
      refine ⟨hD.del _, ?_⟩
      by_cases e : s = went
      · rw [if_pos ⟨e, hw⟩, e]
        unfold fileOf
        rw [atKey_del_same]
      · rw [if_neg (fun e' => e e'.1)]
        exact fileOf_congr (atKey_del_other (key_ne e) _)
  show fileOf (putR (if went.size = 0 then D else D.del (key went)) file became) s = _
  generalize (if went.size = 0 then D else D.del (key went)) = E at *
  cases file with
  | none => exact hdel.2
  | some g =>
    show fileOf (E.put (key became) (.lit (.int .i64 (g : Nat)))) s = if s = became then some g else if s = went ∧ went.size ≠ 0 then none else fileOf D s
    by_cases e : s = became
    · rw [if_pos e, e]
      exact fileOf_lit _ _ _ (atKey_put_same hdel.1 (keyLit _) _ _)
    · rw [if_neg e, ← hdel.2]
      exact fileOf_congr (atKey_put_other (key_ne e) _ _)
theorem fileOf_applyR (D : DataW Unit) (hD : IsMap D) (c : Chg) {s : ByteArray} {g : Nat} (h : fileOf (applyR D c) s = some g) : fileOf D s = some g ∨ c.file = some g := by
  rw [fileOf_applyR' D hD] at h
  cases e : c.file with
  | none =>
    rw [e] at h
    simp only at h
    split at h
    · cases h
    · exact .inl h
  | some q =>
    rw [e] at h
    simp only at h
    split at h
    · exact .inr h
    · split at h
      · cases h
      · exact .inl h
theorem isMap_applyR {D : DataW Unit} (hD : IsMap D) (c : Chg) : IsMap (applyR D c) := by
  rw [applyR_eq]
  have hE : IsMap (if c.went.size = 0 then D else D.del (key c.went)) := by
    split
    · exact hD
    · exact hD.del _
  cases c.file with
  | none => exact hE
  | some g => exact hE.put _ _
theorem fileOf_foldR (l : List Chg) : ∀ {D : DataW Unit}, IsMap D → ∀ {s : ByteArray} {g : Nat}, fileOf (l.foldl applyR D) s = some g → fileOf D s = some g ∨ ∃ c, c ∈ l ∧ c.file = some g := by
  induction l with
  | nil =>
    intro D hD s g h
    exact .inl h
  | cons c r ih =>
    intro D hD s g h
    rcases ih (isMap_applyR hD c) h with h | ⟨x, h1, h2⟩
    · rcases fileOf_applyR D hD c h with h | h
      · exact .inl h
      · exact .inr ⟨c, by simp, h⟩
    · exact .inr ⟨x, by simp [h1], h2⟩
theorem RRepAt.look {A : Nat → Prop} {w : World} {q : Nat} {r : RDisk} {bs : Nat} {ch : Value} {fv : Nat → Value} (h : RRepAt A w q r bs ch fv) {s : ByteArray} {g : Nat} (hs : fileOf r.now s = some g) : ∃ x, r.files g = some x := by
  rcases fileOf_foldR r.changes h.synced.isMap hs with hs | ⟨c, h1, h2⟩
  · exact h.refs.synced s g hs
  · exact h.refs.changes c h1 g h2
end Go.Proofs.Ytefjljdgdoklmaa
