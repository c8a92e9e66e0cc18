import Derived.Test.YtefjljdgdoklmaaM17
import Derived.LaidEqlPtr
/-
  The document's Used.
-/
namespace Go.Proofs.Ytefjljdgdoklmaa
open Go.RowKit Go.Maps

theorem RRepAt.lookAt {A : Nat → Prop} {w : World} {q : Nat} {r : RDisk} {bs : Nat} {ch : Value} {fv : Nat → Value} (h : RRepAt A w q r bs ch fv) {i : Nat} {s : ByteArray} {g : Nat} (hs : fileOf (r.dir i) s = some g) : ∃ x, r.files g = some x := by
  rcases fileOf_foldR (r.changes.take i) h.synced.isMap hs with hs | ⟨c, h1, h2⟩
  · exact h.refs.synced s g hs
  · exact h.refs.changes c (List.mem_of_mem_take h1) g h2

theorem tells_step {D : DataW Unit} {P : Nat → Prop} {left : Lit → Bool} {l2 l3 : List Nat} {t : ByteArray} {g : Nat} (htl : ∀ z, z ∈ l2 ↔ P z ∨ ∃ s, fileOf D s = some z ∧ left (key s) = false) (hfile : fileOf D t = some g) (h3 : ∀ z, z ∈ l3 ↔ z ∈ l2 ∨ z = g) (z : Nat) :
    z ∈ l3 ↔ P z ∨ ∃ s, fileOf D s = some z ∧ (left (key s) && !(key s).sameKey (key t)) = false := by
  rw [h3 z, htl z]
  constructor
  · rintro ((h | ⟨s, h1, h2⟩) | rfl)
    · exact .inl h
    · exact .inr ⟨s, h1, by rw [h2]; rfl⟩
    · exact .inr ⟨t, hfile, by rw [WideAt.sameKey_self (keyLit t)]; simp⟩
  · rintro (h | ⟨s, h1, h2⟩)
    · exact .inl (.inl h)
    · rcases Bool.and_eq_false_iff.1 h2 with h2 | h2
      · exact .inl (.inr ⟨s, h1, h2⟩)
      · by_cases e : s = t
        · rw [e, hfile] at h1
          cases h1
          exact .inr rfl
        · rw [sameKey_ne (key_ne e)] at h2
          cases h2

theorem t95_info : Try.prog.info? 95 = some Try.t95 := by kernel_rfl
theorem t95_some : Try.t95.size ≠ 0 := by
  rw [show Try.t95.size = 2 by kernel_rfl]
  decide

set_option maxRecDepth 100000 in
set_option maxHeartbeats 4000000 in
theorem rused_rep (A : Nat → Prop) (q : Nat) (r : RDisk) (w : World) (h : RRep A w q r) (hn : RNum r)
    (hcap : ∀ ls : List Nat, ls.Nodup → (∀ g, g ∈ ls → r.tells (r.changes.length + 1) g) → ls.length ≤ 1000000000 ∧ total r.files ls ≤ 4611686018427387904) :
    Calls Try.prog 68 #[.pointer (some ⟨q, 0, none⟩)] w fun e w' => ∃ ls : List Nat, e = .returned (.int .i64 (total r.files ls : Nat)) ∧ ls.Nodup ∧ (∀ g, g ∈ ls ↔ r.tells (r.changes.length + 1) g) ∧ Below w.heap.size w w' := by
  obtain ⟨bs, ch, fv, h⟩ := h
  obtain ⟨L, hL⟩ : ∃ L, L = r.changes.length := ⟨_, rfl⟩
  obtain ⟨ca, cc, hch⟩ : ∃ a c, ch = .slice a L c := by
    rcases h.chs with ⟨e1, e2⟩ | ⟨g, c, n, e1, e2, _⟩
    · exact ⟨none, 0, by rw [e2, hL, e1]; rfl⟩
    · exact ⟨_, _, by rw [e1, e2, hL]⟩
  have hLb : L ≤ 1000000 := by rw [hL]; exact hn.changes
  rw [← hL] at hcap ⊢
  have hqw := lt_of_heap h.cells
  have HL := hide hL
  have HCH := hide hch
  have H := hide h
  have HN := hide hn
  have HCAP := hide hcap
  clear h hn hcap hL hch
  go_enter Try.func68, Try.ntmps68
  go_wp2_with fail
  go_loopw [3, 4, 5] (fun lv nv iv wz => ∃ (i : Nat) (ls : List Nat), iv = .int .i64 (i : Nat) ∧ i ≤ L + 1 ∧ nv = .int .i64 (total r.files ls : Nat) ∧ ls.Nodup ∧ (∀ g, g ∈ ls ↔ r.tells i g) ∧ PtrRow wz w.heap.size lv ls ∧ Below w.heap.size w wz) (fun _ _ iv _ => L + 1 - (intOf iv).toNat)
  case atStart => exact ⟨0, [], rfl, Nat.zero_le _, rfl, List.nodup_nil, fun g => ⟨fun h => (by cases h), fun ⟨j, h, _⟩ => (by omega)⟩, .inl ⟨rfl, rfl⟩, Below.refl _ _⟩
  case round =>
    obtain ⟨i, ls, rfl, hi, rfl, hnd, htl, hrow, hbz⟩ := hrel
    have R1 := hide (H.out.quiet (Turns.of_below hbz _))
    have c2 : wr.cell? ⟨q, 2, none⟩ = some (.slice ca L cc) := by
      rw [← HCH.out]
      exact cell_of_row wr q 2 _ 84 (0, 0) R1.out.cells
    have HND := hide hnd
    have HTL := hide htl
    have HROW := hide hrow
    have HB := hide hbz
    clear hnd htl hrow hbz
    by_cases hiL : i ≤ L
    · have i1 : (i : Int) ≤ (L : Int) := by omega
      go_wp2_with fail
      refine (rdir_rep A q i r wr ⟨bs, ch, fv, R1.out⟩ HN.out (by have := HL.out; omega)).mono ?_
      rintro e w1 ⟨N, rfl, d1, b1⟩
      have PR1 : PtrRow w1 w.heap.size u3 ls := HROW.out.keep (Turns.of_below b1 (fun _ => False)) (fun _ _ x => x)
      have B1 : Below w.heap.size w w1 := HB.out.trans ((Turns.of_below b1 (fun _ => False)).below HB.out.size (fun k h => h.elim))
      have hbd := HB.out.size
      have hfull : Full (r.dir i) := fullR_fold _ H.out.refs.fs
      have HFULL := hide hfull
      have HPR := hide PR1
      have HB1 := hide B1
      clear b1 PR1 B1 R1 HROW HB c2 hfull
      generalize wr.heap.size = bd at *
      go_wp2_with (first
        | (at_range; refine wpList_range_own _ rfl _ 81 rfl 9 92 law9 Try.underlying81 _ bd N _ rfl d1 ?_; intro w0 hrg0 hg0 hs0)
        | go_in)
      go_frame
      have T0 : Turns (fun _ => False) w1 w0 := (Turns.of_grown hg0).mono fun k _ e => by cases e
      have HPR0 := hide (HPR.out.keep T0 (fun _ _ x => x))
      have HB0 := hide (HB1.out.trans (T0.below HB1.out.size (fun k h => h.elim)))
      have hrr := HB1.out.size
      clear T0 HPR HB1 d1 hs0 hg0
      generalize w1.heap.size = rr at *
      go_loopw [3, 4] (fun lv nv wz => ∃ (left : Lit → Bool) (cnt : Nat) (l2 : List Nat), wz.ranges Try.prog 9 ptrR bd rr N (r.dir i) left cnt ∧ nv = .int .i64 (total r.files l2 : Nat) ∧ l2.Nodup ∧ (∀ g, g ∈ l2 ↔ r.tells i g ∨ ∃ s, fileOf (r.dir i) s = some g ∧ left (key s) = false) ∧ PtrRow wz w.heap.size lv l2 ∧ Below w.heap.size w wz) (fun _ _ wz => wz.rangeLeft bd rr)
      case atStart =>
        refine ⟨_, _, ls, hrg0, rfl, HND.out, fun g => ?_, HPR0.out, HB0.out⟩
        rw [HTL.out g]
        refine ⟨.inl, fun h => h.elim id ?_⟩
        rintro ⟨s, h1, h2⟩
        rw [fileOf_has h1] at h2
        cases h2
      case round =>
        clear HPR0 HB0 hrg0 HND HTL
        obtain ⟨left, cnt, l2, hrg, rfl, hnd, htl, hrow, hbz⟩ := hrel
        have HND := hide hnd
        have HTL := hide htl
        have HROW := hide hrow
        have HB := hide hbz
        clear hnd htl hrow hbz
        go_wp2_with (first
          | (at_next; refine wpList_next_ranges _ rfl _ rfl 9 law9 ptrR encStr ptrOf strK_shape ptrR_shape bd rr N _ _ _ rfl hrg ?_ ?_)
          | go_in)
        · intro hc0 hl0
          have HL0 := hide hl0
          clear hl0 hc0 hrg
          go_wp2_with fail
          refine ⟨⟨i + 1, l2, by go_num, by omega, rfl, HND.out, fun g => ?_, HROW.out, HB.out⟩, by simp [intOf]; omega⟩
          rw [HTL.out g]
          constructor
          · rintro (⟨j, h1, h2⟩ | ⟨s, h1, _⟩)
            · exact ⟨j, by omega, h2⟩
            · exact ⟨i, by omega, s, h1⟩
          · rintro ⟨j, h1, s, h2⟩
            rcases Nat.lt_or_ge j i with h3 | h3
            · exact .inl ⟨j, h3, s, h2⟩
            · obtain rfl : j = i := by omega
              exact .inr ⟨s, h2, HL0.out _⟩
        · intro x c kl y1 y2 w2 cnt1 hkey hlx hR hat hrg1 hlt hg1 hs1 hen
          have hkl : kl = key (toBA x) := by
            obtain ⟨x', ex, hkl, _⟩ := Go.Maps.keyOf_str Try.underlying9 hkey
            rw [hkl, encStr_inj ex]
            simp [key, toBA]
          subst hkl
          rw [ptrR_of] at hR
          obtain ⟨rfl, rfl⟩ : ptrD c = y1 ∧ [] = y2 := by simpa using hR
          obtain ⟨g, rfl, hfile⟩ := entry_file HFULL.out hat
          obtain ⟨fx, hfx⟩ := H.out.lookAt hfile
          have T2 : Turns (fun k => k = rr) wr w2 := (Turns.of_grown hg1).mono fun k _ e => by cases e; rfl
          have hnr := (ranges_map hrg).2
          have HROW2 := hide (HROW.out.keep T2 (fun k hk e => by
            obtain ⟨_, cs, h1⟩ := HROW.out.row hk
            rw [e] at h1
            exact hnr _ _ _ h1))
          have HB2 := hide (HB.out.trans (T2.below HB.out.size (fun k e => by rw [e]; exact hrr)))
          have hF := (H.out.quiet (Turns.of_below HB2.out _)).files.each g fx hfx
          obtain ⟨fa, fc, hfv⟩ := hF.own.slice
          have hc := hF.cell
          rw [hfv] at hc
          have c0 : w2.cell? ⟨g, 0, none⟩ = some (.slice fa fx.bytes.length fc) := cell_of_row w2 g 0 _ 95 (0, 0) hc
          obtain ⟨la, ln, lc, rfl, hln, hcell⟩ : ∃ la ln lc, u3 = .slice la ln lc ∧ ln = l2.length ∧ ∀ k y, l2[k]? = some y → ∃ lg, la = some ⟨lg, 0, none⟩ ∧ w2.cell? ⟨lg, k, none⟩ = some (.pointer (some ⟨y, 0, none⟩)) := by
            rcases HROW2.out with ⟨e1, e2⟩ | ⟨lg, c, n, e1, e2, e3, e4, cs, h1, h2, h3⟩
            · exact ⟨_, _, _, e2, by rw [e1]; rfl, fun k y hk => by rw [e1] at hk; cases hk⟩
            · refine ⟨_, _, _, e1, e2, fun k y hk => ⟨lg, rfl, ?_⟩⟩
              have hkl := (List.getElem?_eq_some_iff.1 hk).1
              rw [cell_of_row w2 lg k _ 92 (0, 0) h1, h3 k (by simpa [ptrCells] using hkl)]
              simp [ptrCells, hk]
          have hsub : ∀ g', g' ∈ l2 → r.tells (L + 1) g' := fun g' hg' => by
            rcases (HTL.out g').1 hg' with ⟨j, h1, h2⟩ | ⟨s, h1, _⟩
            · exact ⟨j, by omega, h2⟩
            · exact ⟨i, by omega, s, h1⟩
          have HSUB := hide hsub
          have hlnb : ln ≤ 1000000000 := by rw [hln]; exact (HCAP.out l2 HND.out hsub).1
          clear hsub
          have HLN := hide hln
          have HCELL := hide hcell
          have HFILE := hide hfile
          have HFX := hide hfx
          have HR1 := hide hrg1
          have HRG := hide hrg
          have HC := hide hc
          clear hcell hln hfile hfx hrg1 hc hF hfv hat hR hlx hkey T2 hnr HROW HB hg1 hs1 hrg
          simp only [ptrOf] at hen ⊢
          go_wp2_with fail
          go_loopw [9, 10] (fun kv iv wz => ∃ k : Nat, iv = .int .i64 (k : Nat) ∧ k ≤ ln ∧ kv = .bool (decide (g ∈ l2.take k)) ∧ wz = w2) (fun _ iv _ => ln - (intOf iv).toNat)
          case atStart => exact ⟨0, rfl, Nat.zero_le _, by simp, rfl⟩
          case round =>
            obtain ⟨k, rfl, hk, rfl, rfl⟩ := hrel
            by_cases hkl : k < ln
            · have i2 : (k : Int) < (ln : Int) := by omega
              have i3 : (0 : Int) ≤ (k : Int) := by omega
              obtain ⟨y, hy⟩ : ∃ y, l2[k]? = some y := ⟨l2[k]'(by have := HLN.out; omega), List.getElem?_eq_getElem _⟩
              obtain ⟨lg, rfl, ck⟩ := HCELL.out k y hy
              have hyc : ∃ cs, wr.heap[y]? = some (.cells cs 95 (0, 0)) := by
                obtain ⟨j, _, s, h2⟩ := HSUB.out y (List.mem_of_getElem? hy)
                obtain ⟨fy, hfy⟩ := H.out.lookAt h2
                exact ⟨_, ((H.out.quiet (Turns.of_below HB2.out _)).files.each y fy hfy).cell⟩
              have HYC := hide hyc
              clear hyc
              have hsn : decide (g ∈ l2.take (k + 1)) = (decide (g ∈ l2.take k) || decide (y = g)) := by
                rw [List.take_add_one, hy]
                simp [Bool.decide_or, eq_comm]
              have HSN := hide hsn
              clear hsn hy
              generalize decide (g ∈ l2.take k) = kn at *
              cases kn with
              | true =>
                go_wp2_with fail
                exact ⟨⟨k + 1, by go_num, by omega, by rw [HSN.out]; rfl, trivial⟩, by simp [intOf]; omega⟩
              | false =>
                by_cases hyg : y = g
                · subst hyg
                  have heq := run_eql_ptr_same (P := Try.prog) wr ⟨y, 0, none⟩ Try.underlying92 t95_info
                  go_wp2_with fail
                  exact ⟨⟨k + 1, by go_num, by omega, by rw [HSN.out]; simp, trivial⟩, by simp [intOf]; omega⟩
                · have heq : (binOp .eql 92 (.pointer (some ⟨y, 0, none⟩)) (.pointer (some ⟨g, 0, none⟩))).run Try.prog wr = .ok (.bool false) wr := by
                    obtain ⟨cs, hcs⟩ := HYC.out
                    exact run_eql_ptr_other (P := Try.prog) wr Try.underlying92 t95_info t95_some (fun e => hyg (by cases e; rfl)) hcs HC.out
                  go_wp2_with fail
                  exact ⟨⟨k + 1, by go_num, by omega, by rw [HSN.out]; simp [hyg], trivial⟩, by simp [intOf]; omega⟩
            · obtain rfl : k = ln := by omega
              have hall : decide (g ∈ l2.take k) = decide (g ∈ l2) := by rw [HLN.out, List.take_length]
              rw [hall]
              by_cases hin : g ∈ l2
              · rw [decide_eq_true hin]
                have HIN := hide hin
                clear hin hall
                go_wp2_with fail
                refine ⟨⟨_, cnt1, l2, HR1.out, rfl, HND.out, fun g' => ?_, HROW2.out, HB2.out⟩, by rw [HR1.out.left_eq, HRG.out.left_eq]; exact hlt⟩
                exact tells_step HTL.out HFILE.out (fun z => ⟨.inl, fun h => h.elim id fun e => by rw [e]; exact HIN.out⟩) g'
              · rw [decide_eq_false hin]
                have HIN := hide hin
                have TA : Turns (fun _ => False) wr (wr.alloc (.cells #[.pointer (some ⟨g, 0, none⟩)] 92)) := (Turns.refl _ wr).alloc _
                have BA : Below w.heap.size w (wr.alloc (.cells #[.pointer (some ⟨g, 0, none⟩)] 92)) := HB2.out.alloc (by have := HB2.out.size; omega) _
                have PA := HROW2.out.keep TA (fun _ _ x => x)
                have RA := ranges_keep HR1.out TA (fun x => x) (fun x => x)
                obtain ⟨g3, n3, c3, w3, hr3, hp3, t3, b3⟩ := append_ptr _ w.heap.size _ l2 PA BA.size (by have := HLN.out; omega) g ⟨wr.heap.size, 0, none⟩ 1 (cell_of_row _ _ 0 _ 92 (0, 0) (heap_alloc_new wr _))
                have hgw := (H.out.file HFX.out).2.2.2
                have R3 := hide (ranges_keep RA t3 (fun hk => (ranges_map RA).1 _ _ _ (PA.row hk).2.choose_spec) (fun hk => (ranges_map RA).2 _ _ _ (PA.row hk).2.choose_spec))
                have hc3 : w3.cell? ⟨g, 0, none⟩ = some (.slice fa fx.bytes.length fc) := cell_of_row w3 g 0 _ 95 (0, 0) ((b3.block g hgw).trans (TA.heap HC.out (fun x => x)))
                have HP3 := hide hp3
                have HB3 := hide (BA.trans b3)
                have hnd3 : (l2 ++ [g]).Nodup := List.nodup_append.2 ⟨HND.out, by simp, fun a ha b hb e => HIN.out (by
                  rw [List.mem_singleton] at hb
                  rw [← hb, ← e]
                  exact ha)⟩
                have HND3 := hide hnd3
                have hq := hr3 100
                have hts := total_snoc r.files l2 g fx HFX.out
                have hTb : total r.files l2 + fx.bytes.length ≤ 4611686018427387904 := by
                  rw [← hts]
                  refine (HCAP.out _ hnd3 fun z hz => ?_).2
                  rcases List.mem_append.1 hz with hz | hz
                  · exact HSUB.out z hz
                  · rw [List.mem_singleton.1 hz]
                    exact ⟨i, by omega, _, HFILE.out⟩
                have HTS := hide hts
                clear hin hall TA BA PA RA hr3 hp3 t3 b3 hnd3 hts
                generalize total r.files l2 = T at *
                generalize fx.bytes.length = F at *
                go_wp2_with (at_builtin; refine wpList_append_run rfl _ _ 100 rfl _ _ rfl rfl _ _ hq ?_)
                refine ⟨⟨_, cnt1, l2 ++ [g], R3.out, by rw [HTS.out]; go_num, HND3.out, tells_step HTL.out HFILE.out (fun z => by simp), HP3.out, HB3.out⟩, by rw [R3.out.left_eq, HRG.out.left_eq]; exact hlt⟩
    · obtain rfl : i = L + 1 := by omega
      have i1 : ¬ ((L + 1 : Nat) : Int) ≤ (L : Int) := by omega
      go_wp2_with fail
      go_ret
      exact ⟨ls, rfl, HND.out, HTL.out, HB.out⟩
end Go.Proofs.Ytefjljdgdoklmaa

/-
  The document's Append.
-/
namespace Go.Proofs.Ytefjljdgdoklmaa
open Go.RowKit Go.Maps

/-- No more files are told of than a list may hold, nor more bytes in them than an int. -/
def RDisk.fits (r : RDisk) : Prop := ∀ ls : List Nat, ls.Nodup → (∀ g, g ∈ ls → r.tells (r.changes.length + 1) g) → ls.length ≤ 1000000000 ∧ total r.files ls ≤ 4611686018427387904
theorem Bytes.keep0 {S : Nat → Prop} {w w' : World} {a : Option Addr} {n c : Nat} {bs : List (BitVec 8)} (h : Bytes w (.slice a n c) bs) (t : Turns S w w') (ha : ∀ q o, a = some ⟨q, o, none⟩ → 0 < n → ¬ S q) : Bytes w' (.slice a n c) bs := by
  have hl := h.len
  obtain ⟨a', c', e, h⟩ := h
  cases e
  exact ⟨_, _, rfl, fun k hk => let ⟨q, o, h1, h2⟩ := h k hk; ⟨q, o, h1, t.cell h2 (ha q o h1 (by omega))⟩⟩
def RDisk.told (r : RDisk) (ls : List Nat) : Prop := ls.Nodup ∧ ∀ g, g ∈ ls ↔ r.tells (r.changes.length + 1) g

set_option maxRecDepth 100000 in
set_option maxHeartbeats 4000000 in
theorem rappend_rep (A : Nat → Prop) (q : Nat) (r r1 : RDisk) (z : Int) (name : ByteArray) (a : Option Addr) (n c : Nat) (news : List (BitVec 8)) (w : World) (h : RRep A w q r) (hn : RNum r) (hn1 : RNum r1) (hnm : name.size ≤ 1000) (hz : r.begin (goodN name) = (z, r1)) (hft : r1.fits) (hb : Bytes w (.slice a n c) news) (hbf : ∀ p o, a = some ⟨p, o, none⟩ → 0 < n → p ≠ q) (hnb : n ≤ 1073741824) (R : Ending → World → Prop)
    (HE : z ≠ 0 → ∀ w', RRep (Grow A w) w' q r1 → Turns A w w' → R (.returned (.int .i64 z)) w')
    (HN : z = 0 → fileOf r1.now name = none → ∀ w', RRep (Grow A w) w' q r1 → Turns A w w' → R (.returned (.int .i64 6)) w')
    (HF : z = 0 → ∀ g x ls w', fileOf r1.now name = some g → r1.files g = some x → r1.told ls → r1.limit < (total r1.files ls : Int) + n → RRep (Grow A w) w' q r1 → Turns A w w' → R (.returned (.int .i64 7)) w')
    (HS : z = 0 → ∀ g x ls w', fileOf r1.now name = some g → r1.files g = some x → r1.told ls → (total r1.files ls : Int) + n ≤ r1.limit → RRep (Grow A w) w' q (r1.setF g ⟨x.bytes ++ news, x.synced⟩) → Turns A w w' → R (.returned (.int .i64 0)) w') :
    Calls Try.prog 66 #[.pointer (some ⟨q, 0, none⟩), .string name, .slice a n c] w R := by
  obtain ⟨bs, ch, fv, h⟩ := h
  have t0 : Turns (fun _ => False) w (w.alloc (.cells #[.string name] 9)) := (Turns.refl _ w).alloc _
  have hB := rbegin_rep A q r (some ⟨w.heap.size, 0, none⟩) 1 1 [name] _ bs ch fv (h.quiet t0) hn (strs_one w name) (by decide) (fun s hs => by simp at hs; rw [hs]; exact hnm)
  rw [show [name].all goodN = goodN name by simp, hz] at hB
  have HB := hide hB
  have hqa := h.af
  have hsz0 := t0.size
  have hnl := hb.len
  have HEE := hide HE
  have HNN := hide HN
  have HFF := hide HF
  have HSS := hide HS
  have T0 := hide t0
  have HN1 := hide hn1
  have HFT := hide hft
  have HBY := hide hb
  have HBF := hide hbf
  have HNL := hide hnl
  have hqw := lt_of_heap h.cells
  clear hB h hn hz HE HN HF HS t0 hn1 hft hb hbf hnl
  go_enter Try.func66, Try.ntmps66
  go_wp2_with fail
  refine HB.out.mono ?_
  rintro e w1 ⟨rfl, r1r, t1⟩
  have R1 := hide r1r
  have tw1 : Turns (fun k => k = q) w w1 := (T0.out.mono fun _ _ x => x.elim).trans t1
  have TW1 := hide tw1
  have hsz1 := tw1.size
  clear r1r t1 tw1 HB
  by_cases hz0 : z = 0
  · subst hz0
    go_wp2_with fail
    refine (rnow_rep A q r1 w1 ⟨bs, ch, fv, R1.out⟩ HN1.out).mono ?_
    rintro e w2 ⟨N, rfl, d2, b2⟩
    have hlk := d2.look81 name (by unfold maxLen; omega)
    have t2 : Turns (fun _ => False) w1 w2 := Turns.of_below b2 _
    have R2 := hide (R1.out.quiet t2)
    have TW2 := hide (TW1.out.trans (t2.mono fun _ _ x => x.elim))
    have hsz2 := t2.size
    clear d2 b2 t2 R1 TW1
    cases hfile : fileOf r1.now name with
    | none =>
      rw [hfile] at hlk
      simp only [ptrOf] at hlk
      have HF := hide (HNN.out (by trivial) hfile w2 ⟨bs, ch, fv, R2.out.mono fun k _ hk => .inl hk⟩ (TW2.out.mono fun k _ e => by rw [e]; exact hqa))
      clear hfile
      go_wp2_with fail
      exact HF.out
    | some g =>
      rw [hfile] at hlk
      simp only [ptrOf] at hlk
      obtain ⟨x, hx⟩ := R2.out.look hfile
      have k0 : w2.cell? ⟨q, 0, none⟩ = some (.int .i64 r1.limit) := cell_of_row w2 q 0 _ 84 (0, 0) R2.out.cells
      have hu := rused_rep A q r1 w2.drew ⟨bs, ch, fv, R2.out.quiet (Turns.refl _ w2).drew⟩ HN1.out HFT.out
      have HU := hide hu
      have HFILE := hide hfile
      have HX := hide hx
      clear hu hfile hx
      go_wp2_with fail
      go_region_held (fun w' => w'.cell? ⟨q, 0, none⟩ = some (.int .i64 r1.limit)) (first | (with_reducible exact f1) | (simp only [World.cell?_drew]; with_reducible exact k0)) (first
        | (go_at_call 68; refine HU.out.mono ?_; rintro e w3 ⟨ls, rfl, hnd, htl, b3⟩; have f1 := (b3.cell (p := ⟨q, 0, none⟩) (block_lt_of_cell (w := w2.drew) k0)).trans k0; have B3 := hide b3; have HND := hide hnd; have HTL := hide htl; clear b3 hnd htl))
      have htb := (HFT.out ls HND.out (fun g hg => (HTL.out g).1 hg)).2
      have T3 : Turns (fun _ => False) w2 w3 := (Turns.refl _ w2).drew.trans (Turns.of_below B3.out _)
      have R3 := hide (R2.out.quiet T3)
      have TW3 := hide (TW2.out.trans (T3.mono fun _ _ x => x.elim))
      have hsz3 := T3.size
      have HTOLD := hide (show r1.told ls from ⟨HND.out, HTL.out⟩)
      have HFG := hide (HFF.out (by trivial) g x ls w3 HFILE.out HX.out HTOLD.out)
      have HSG := hide (fun w' => HSS.out (by trivial) g x ls w' HFILE.out HX.out HTOLD.out)
      clear HFF HSS HNN HEE T3 R2 TW2 B3 HU HND HTL HTOLD
      generalize total r1.files ls = T at *
      have hwr : IntKind.i64.wrap ((T : Int) + (n : Int)) = (T : Int) + (n : Int) := wrapI _ (by omega) (by omega)
      by_cases hroom : (T : Int) + n ≤ r1.limit
      · have i1 : ¬ r1.limit < (T : Int) + (n : Int) := by omega
        have hF := R3.out.files.each g x HX.out
        have hxb := (HN1.out.bytes g x HX.out).1
        obtain ⟨fa, fc, hfv⟩ := hF.own.slice
        have hc := hF.cell
        rw [hfv] at hc
        have hown := hF.own
        rw [hfv] at hown
        have ta : Turns (fun _ => False) w3 (w3.alloc (.cells #[] 5)) := (Turns.refl _ w3).alloc _
        have ha : (w3.alloc (.cells #[] 5)).heap.size = w3.heap.size + 1 := by simp
        have c0 : (w3.alloc (.cells #[] 5)).cell? ⟨g, 0, none⟩ = some (.slice fa x.bytes.length fc) := cell_of_row _ g 0 _ 95 (0, 0) (ta.heap hc (fun x => x))
        obtain ⟨g4, c4, w4, hr4, hg4, hrow4, b4, hc4, _⟩ := append_bytes2 (w3.alloc (.cells #[] 5)) w3.heap.size (some ⟨w3.heap.size, 0, none⟩) 0 0 [] rfl (.slice fa x.bytes.length fc) x.bytes x.bytes.length rfl ((hown.keep ta (fun _ _ x => x)).bytes) (by simp)
          (.inr ⟨_, rfl, Nat.le_refl _, Nat.le_refl _, #[], heap_alloc_new w3 _, Nat.le_refl _, fun k hk => by simp [cellsOf] at hk⟩) (by omega)
        rw [Nat.zero_add] at hr4 hc4
        rw [List.nil_append] at hrow4
        have hbA : Below w3.heap.size w3 (w3.alloc (.cells #[] 5)) := (Below.refl _ _).alloc (Nat.le_refl _) _
        have b34 := hbA.trans b4
        have t4 : Turns (fun _ => False) w3 w4 := Turns.of_below b34 _
        have hby3 : Bytes w3 (.slice a n c) news := HBY.out.keep0 TW3.out HBF.out
        have hnl := HNL.out
        obtain ⟨g5, c5, w5, hr5, hg5, hrow5, b5, hc5, _⟩ := append_bytes2 w4 w3.heap.size (some ⟨g4, 0, none⟩) x.bytes.length c4 x.bytes rfl (.slice a n c) news n (by omega) (hby3.keep t4 (fun _ _ _ x => x)) b34.size (.inr ⟨g4, rfl, hg4, hc4, hrow4⟩) (by omega)
        have t5 : Turns (fun _ => False) w3 w5 := Turns.of_below (b34.trans b5) _
        have hgw := lt_of_heap hc
        have hc5' := t5.heap hc (fun x => x)
        have z5 : w5.frozen? ⟨g, 0, none⟩ = false := frozen_of_row w5 g 0 _ 95 hc5'
        have d5 : w5.cell? ⟨g, 0, none⟩ = some (.slice fa x.bytes.length fc) := cell_of_row w5 g 0 _ 95 (0, 0) hc5'
        have k6 := (Tick.refl hc5').set 0 (.slice (some ⟨g5, 0, none⟩) (x.bytes.length + n) c5)
        have u6 : Turns (fun k => k = g) w3 (w5.setCell ⟨g, 0, none⟩ (.slice (some ⟨g5, 0, none⟩) (x.bytes.length + n) c5)) := (t5.mono fun _ _ x => x.elim).trans (Turns.of_tick k6)
        have hR := R3.out.filed (x' := ⟨x.bytes ++ news, x.synced⟩) (v' := .slice (some ⟨g5, 0, none⟩) (x.bytes.length + n) c5) HX.out k6.1 (by
          refine .inr ⟨g5, c5, _, rfl, by simp [hnl], hc5, ?_⟩
          obtain ⟨cs, h1, h2, h3⟩ := hrow5
          exact ⟨cs, (k6.2.2.1 g5 (by omega)).trans h1, h2, h3⟩) u6 (fun i hi => by
          obtain ⟨_, _, e⟩ := hi
          cases e
          exact .inr hg5)
        have hag := hF.ag
        have HF := hide (HSG.out _ hroom ⟨bs, ch, _, hR.mono fun i _ => grow_of (by omega) i⟩ ((TW3.out.mono fun i _ e => by rw [e]; exact hqa).trans (u6.mono fun i _ e => by rw [e]; exact hag)))
        have hq4 := hr4 28
        have hq5 := hr5 28
        clear hR u6 k6 hc5' t5 hrow5 b5 hr5 hby3 t4 b34 hbA hr4 hrow4 b4 hown hc hfv hF ta hag hg4 hg5 hc4 hc5 hnl HX
        generalize x.bytes.length = F at *
        go_wp2_with (first
          | (at_builtin; refine wpList_append_run rfl _ _ 28 rfl _ _ rfl rfl _ _ hq4 ?_)
          | (at_builtin; refine wpList_append_run rfl _ _ 28 rfl _ _ rfl rfl _ _ hq5 ?_))
        exact HF.out
      · have i1 : r1.limit < (T : Int) + (n : Int) := by omega
        have HF := hide (HFG.out i1 ⟨bs, ch, fv, R3.out.mono fun k _ hk => .inl hk⟩ (TW3.out.mono fun k _ e => by rw [e]; exact hqa))
        go_wp2_with fail
        exact HF.out
  · have hzz : (z != 0) = true := by rw [bne_iff_ne]; exact hz0
    have HF := hide (HEE.out hz0 w1 ⟨bs, ch, fv, R1.out.mono fun k _ hk => .inl hk⟩ (TW1.out.mono fun k _ e => by rw [e]; exact hqa))
    clear hz0
    go_wp2_with fail
    exact HF.out
end Go.Proofs.Ytefjljdgdoklmaa
