import Derived.Test.YtefjljdgdoklmaaM22
import Derived.Test.YtefjljdgdoklmaaM14
/-
  The document's Names.
-/
namespace Go.Proofs.Ytefjljdgdoklmaa
open Go.RowKit Go.Maps

set_option maxRecDepth 100000 in
set_option maxHeartbeats 1000000 in
theorem rnames_rep (A : Nat → Prop) (q : Nat) (r : RDisk) (w : World) (h : RRep A w q r) (hn : RNum r) (hsz : Maps.size r.now ≤ 1000000) :
    Calls Try.prog 67 #[.pointer (some ⟨q, 0, none⟩)] w fun e w' => ∃ v, e = .returned v ∧ SRow w' w.heap.size v ((strKeys r.now).mergeSort leB) ∧ Below w.heap.size w w' := by
  have H := hide h
  have HN := hide hn
  have HS := hide hsz
  clear h hn hsz
  go_enter Try.func67, Try.ntmps67
  go_wp2_with fail
  refine (rnow_rep A q r _ H.out HN.out).mono ?_
  rintro e w1 ⟨N, rfl, d1, b1⟩
  have D1 := hide d1
  have B1 := hide b1
  clear d1 b1
  go_wp2_with fail
  refine (rsorted_any w.heap.size N r.now w1 D1.out HS.out).mono ?_
  rintro e w2 ⟨v, rfl, hr, b2⟩
  have HR := hide hr
  have B2 := hide b2
  clear hr b2
  go_wp2_with fail
  go_ret
  have hsz := B1.out.size
  refine ⟨v, rfl, ?_, B1.out.trans (B2.out.mono hsz)⟩
  rcases HR.out with h | ⟨g, c, n, h1, h2, h3, h4, h5⟩
  · exact .inl h
  · exact .inr ⟨g, c, n, h1, h2, h3, by omega, h5⟩
end Go.Proofs.Ytefjljdgdoklmaa

/-
  A crash of any file system: the walk.
-/
namespace Go.Proofs.Ytefjljdgdoklmaa
open Go.RowKit Go.Maps Go.Sort

/-- The blocks of a file system in the midst of a crash. -/
def Mid (A : Nat → Prop) (w : World) (b : Nat) : Nat → Prop := fun k => (A k ∧ k < w.heap.size) ∨ k = b

theorem crashStep_some (S : DataW Unit) (st : (Nat → Option Fil) × Int) (s : ByteArray) (kv : Int) (g : Nat) (x : Fil) (hs : fileOf S s = some g) (hx : st.1 g = some x) : crashStep S st (s, kv) = (fun k => if k = g then some (x.crash kv) else st.1 k, st.2 + ((x.crash kv).bytes.length : Int)) := by
  unfold crashStep
  simp only [hs, hx]

theorem midst_step (d : Disk) (S : DataW Unit) (l : List (ByteArray × Int)) (i : Nat) (s : ByteArray) (kv : Int) (g : Nat) (x : Fil) (hl : l[i]? = some (s, kv)) (hs : fileOf S s = some g) (hx : (d.midst S (l.take i)).files g = some x) :
    (d.midst S (l.take (i + 1))).files = ((d.midst S (l.take i)).setF g (x.crash kv)).files ∧ (d.midst S (l.take (i + 1))).used = (d.midst S (l.take i)).used + ((x.crash kv).bytes.length : Int) := by
  have hx' : ((l.take i).foldl (crashStep S) (d.files, 0)).1 g = some x := hx
  have hst : (l.take (i + 1)).foldl (crashStep S) (d.files, 0) = crashStep S ((l.take i).foldl (crashStep S) (d.files, 0)) (s, kv) := by
    rw [List.take_add_one, hl]
    simp
  unfold Disk.midst Disk.setF
  simp only [hst]
  generalize (l.take i).foldl (crashStep S) (d.files, 0) = st at *
  rw [crashStep_some S st s kv g x hs hx']
  exact ⟨rfl, rfl⟩

set_option maxRecDepth 100000 in
set_option maxHeartbeats 4000000 in
theorem crash_rep (A : Nat → Prop) (f : Nat) (d : Disk) (dir : Int) (ka : Option Addr) (kn kc : Nat) (ks : List Int) (w : World) (h : Rep A w f d) (hn : Num d) (d1 : dir ≤ 9223372036854775807) (d2 : -9223372036854775808 ≤ dir) (hks : Ints w ka kn ks) (hkb : ∀ z, z ∈ ks → z ≤ 9223372036854775807 ∧ -9223372036854775808 ≤ z) (hka : ∀ q o, ka = some ⟨q, o, none⟩ → ¬ A q) :
    Calls Try.prog 11 #[.pointer (some ⟨f, 0, none⟩), .int .i64 dir, .slice ka kn kc] w fun e w' => e = .returned (.int .i64 0) ∧ Rep (Grow A w) w' f (d.crashed dir ks) ∧ Turns A w w' := by
  obtain ⟨bn, bs, ch, fv, h⟩ := h
  obtain ⟨ca, cc, rfl⟩ := h.chs.len
  obtain ⟨k, hk, hkl⟩ : ∃ k : Nat, (k : Int) = max dir 0 % ((d.changes.length : Int) + 1) ∧ k ≤ d.changes.length := by
    have e2 := Int.emod_lt_of_pos (max dir 0) (show (0 : Int) < (d.changes.length : Int) + 1 by omega)
    have e1 := Int.emod_nonneg (max dir 0) (show (d.changes.length : Int) + 1 ≠ 0 by omega)
    exact ⟨(max dir 0 % ((d.changes.length : Int) + 1)).toNat, by omega, by omega⟩
  have hS : (d.changes.take k).foldl applyD d.synced = d.left dir := by
    unfold Disk.left
    rw [← hk]
    rfl
  have hfw := lt_of_heap h.cells
  have hsw := h.synced.lt
  have hc : w.heap[f]? = some (.cells (fsCells d.limit (.map (some bn)) (.map (some bs)) (.slice ca d.changes.length cc) d.used d.lost d.on d.ops d.fuse d.fault d.fail) 57 (0, 0)) := h.cells
  have c1 : w.cell? ⟨f, 1, none⟩ = some (.map (some bn)) := cell_of_row w f 1 _ 57 (0, 0) hc
  have c3 : w.cell? ⟨f, 3, none⟩ = some (.slice ca d.changes.length cc) := cell_of_row w f 3 _ 57 (0, 0) hc
  have hnl := hn.changes
  have hns := hn.synced
  have H := hide h
  have HC := hide hc
  have HN := hide hn
  have HK := hide hk
  have HS := hide hS
  have HKS := hide hks
  have HKB := hide hkb
  have HKA := hide hka
  clear h hc hn hk hS hks hkb hka
  generalize hS' : d.left dir = S at *
  generalize hll : d.changes.length = ll at *
  go_enter Try.func11, Try.ntmps11
  go_wp2_with fail
  refine (made_yes f bn _ c1).mono ?_
  rintro e w1 ⟨rfl, rfl⟩
  go_wp2_with fail
  refine (within_any dir (ll : Nat) _ (by omega) (by omega) d1 d2).mono ?_
  rintro e w2 ⟨rfl, rfl⟩
  rw [← HK.out]
  go_wp2_with fail
  refine (settle_any f bs (Maps.size d.synced) k d.synced d.changes d.limit d.used d.lost d.ops d.fuse d.fault d.fail d.on (.map (some bn)) _ _ HC.out H.out.synced H.out.chs (by omega) (by omega) (by omega) HN.out.text).mono ?_
  rintro e w3 ⟨⟨v3, rfl⟩, s1, s2, s3⟩
  rw [HS.out] at s2
  have S1 := hide s1
  have S2 := hide s2.tight
  have hsz : Maps.size S ≤ 1000000000 := by have := World.ownsMap.size_le s2; omega
  have S3 := hide s3
  have e2 : w3.cell? ⟨f, 2, none⟩ = some (.map (some bs)) := cell_of_row w3 f 2 _ 57 (0, 0) s1
  clear s1 s2 s3 c1 c3
  go_wp2_with fail
  refine (mapclone_any bs (Maps.size S) S _ S2.out).mono ?_
  rintro e w4 ⟨rfl, m1, m2⟩
  have A1 := hide (m2.heap S1.out (fun x => x))
  have A2 := hide (S2.out.keep m2 (fun x => x))
  have A3 := hide m1
  have A4 := hide (S3.out.andThen m2 (fun _ _ x => x.elim))
  have hbn : w2.heap.size ≤ w3.heap.size := S3.out.size
  have hbf : w3.heap.size ≠ f := by omega
  have hbb : w3.heap.size ≠ bs := fun e => by omega
  have hsz4 : w3.heap.size < w4.heap.size := A3.out.lt
  have z1 : w4.frozen? ⟨f, 1, none⟩ = false := frozen_of_row w4 f 1 _ 57 A1.out
  have z4 : w4.frozen? ⟨f, 4, none⟩ = false := frozen_of_row w4 f 4 _ 57 A1.out
  have z5 : w4.frozen? ⟨f, 5, none⟩ = false := frozen_of_row w4 f 5 _ 57 A1.out
  have y1 : w4.cell? ⟨f, 1, none⟩ = some (.map (some bn)) := cell_of_row w4 f 1 _ 57 (0, 0) A1.out
  have y4 : w4.cell? ⟨f, 4, none⟩ = some (.int .i64 d.used) := cell_of_row w4 f 4 _ 57 (0, 0) A1.out
  have y5 : w4.cell? ⟨f, 5, none⟩ = some (.int .i64 d.lost) := cell_of_row w4 f 5 _ 57 (0, 0) A1.out
  clear m1 m2 e2
  generalize hbn' : w3.heap.size = bn' at *
  go_wp2_with fail
  have t5 := (((Tick.refl A1.out).set 1 (.map (some bn'))).set 4 (.int .i64 0)).set 5 (.int .i64 0)
  have u5 := Turns.of_tick t5
  have T5 : Hid ((((w4.setCell ⟨f, 1, none⟩ (.map (some bn'))).setCell ⟨f, 4, none⟩ (.int .i64 0)).setCell ⟨f, 5, none⟩ (.int .i64 0)).heap[f]? = some (.cells (fsCells d.limit (.map (some bn')) (.map (some bs)) (.slice none 0 0) 0 0 d.on d.ops d.fuse d.fault d.fail) 57 (0, 0))) := t5.1
  have D5 := hide (A3.out.keep u5 hbf)
  have E5 := hide (A2.out.keep u5 (fun e => H.out.fs e.symm))
  have U5 := hide (A4.out.trans (u5.mono fun _ _ e => .inl e))
  have hsz5 : w4.heap.size ≤ (((w4.setCell ⟨f, 1, none⟩ (.map (some bn'))).setCell ⟨f, 4, none⟩ (.int .i64 0)).setCell ⟨f, 5, none⟩ (.int .i64 0)).heap.size := u5.size
  clear t5 u5 z1 z4 z5 y1 y4 y5 A1 A2 A3 A4 S1 S2 S3
  generalize ((w4.setCell ⟨f, 1, none⟩ (.map (some bn'))).setCell ⟨f, 4, none⟩ (.int .i64 0)).setCell ⟨f, 5, none⟩ (.int .i64 0) = w5 at *
  have hR5 : RepAt (Mid A w2 bn') w5 f (d.midst S []) bn' bs (.slice none 0 0) fv := by
    have h := H.out
    have hfull : Full S := by rw [← HS.out]; exact h.refs.fs.fold _
    have href : ∀ s g, fileOf S s = some g → ∃ x, d.files g = some x := fun s g hs => by
      rw [← HS.out] at hs
      rcases fileOf_folded _ h.synced.isMap hs with hs | ⟨c, q1, q2⟩
      · exact h.refs.synced s g hs
      · exact h.refs.changes c (List.mem_of_mem_take q1) g q2
    refine ⟨T5.out, D5.out, E5.out, .inl ⟨rfl, rfl⟩, hbb, .inl ⟨h.af, hfw⟩, .inr rfl, .inl ⟨h.ay, hsw⟩, fun q hq => ?_, ⟨fun g x hg => ?_, fun g g' x x' q hg hg' => h.files.apart g g' x x' q hg hg'⟩, ⟨hfull, hfull, href, href, fun c hc => by cases hc⟩⟩
    · obtain ⟨_, _, e⟩ := hq
      cases e
    · have hg' : d.files g = some x := hg
      refine ((h.files.each g x hg').mono (A' := Mid A w2 bn') fun q hq hA => .inl ⟨hA, hq⟩).keep U5.out (fun e => ?_) (fun q hq e => ?_)
      · rcases e with e | e
        · exact (h.file hg').1 e
        · exact (h.file hg').2.2.1 e
      · rcases e with e | e
        · exact (h.row hg' hq).1 e
        · exact (h.row hg' hq).2.2.1 e
  have HR5 := hide hR5
  have hfull : Full S := hR5.refs.fn
  have HFU := hide hfull
  have HKS5 := hide (HKS.out.keep U5.out (fun q o e hq => by
    have hna := HKA.out q o e
    rcases hq with hq | hq
    · rw [hq] at hna; exact hna H.out.af
    · rw [hq] at hna; exact hna H.out.ay))
  have HU5 : Hid (Turns A w2 w5) := U5.out.mono fun q _ e => by
    rcases e with e | e
    · rw [e]; exact H.out.af
    · rw [e]; exact H.out.ay
  have hb5 : bn' < w5.heap.size := by omega
  have hkn5 : ∀ q o, ka = some ⟨q, o, none⟩ → 0 < kn → q < w2.heap.size := fun q o e h0 => by
    obtain ⟨q', o', e1, e2⟩ := HKS.out.2 0 h0
    rw [e] at e1
    cases e1
    exact block_lt_of_cell e2
  have HKN := hide hkn5
  clear hR5 hfull T5 D5 E5 U5 hkn5
  refine (rising_names bn' (Maps.size S) S _ HR5.out.names (by omega)).mono ?_
  rintro e w6 ⟨va, vc, rfl, r1, r2, r3, r4, r5⟩
  have t6 : Turns (fun _ => False) w5 w6 := Turns.of_below r5 _
  have HR6 := hide (HR5.out.quiet t6)
  have HKS6 := hide (HKS5.out.keep t6 (fun _ _ _ x => x))
  have HROW := hide r2
  have HTX := hide r3
  have HU6 := hide (HU5.out.trans (t6.mono fun _ _ x => x.elim))
  have hL : (namesOf S).length ≤ 1000000000 := by
    have : (namesOf S).length = Maps.size S := by
      unfold namesOf
      rw [List.length_map, List.length_mergeSort]
      obtain ⟨es, rfl, _⟩ := HFU.out
      simp [strKeys, Maps.size]
    omega
  have hsz6 : w5.heap.size ≤ w6.heap.size := t6.size
  have hsz0 : w2.heap.size ≤ w5.heap.size := HU5.out.size
  clear r2 r3 r4 r5 t6 HR5 HKS5 HU5
  generalize hLn : (namesOf S).length = Ln at *
  go_wp2_with fail
  go_loopw [43] (fun iv wr => ∃ i : Nat, iv = .int .i64 (i : Nat) ∧ i ≤ Ln ∧ (∃ fv, RepAt (Mid A w2 bn') wr f (d.midst S ((crashList (namesOf S) ks).take i)) bn' bs (.slice none 0 0) fv) ∧ Turns (Mid A w2 bn') w6 wr) (fun iv _ => Ln - (intOf iv).toNat)
  case atStart => exact ⟨0, rfl, Nat.zero_le _, ⟨fv, HR6.out⟩, Turns.refl _ _⟩
  case round =>
    obtain ⟨i, rfl, hi, ⟨fv', hr⟩, ht⟩ := hrel
    have HR := hide hr
    have HT := hide ht
    clear hr ht
    by_cases hiL : i < Ln
    · have i1 : (i : Int) < (Ln : Int) := by omega
      have hiN : i < (namesOf S).length := by omega
      obtain ⟨qn, rfl, hqn, hcell⟩ := HROW.out i hiL
      have hgd : (namesOf S).getD i ⟨#[]⟩ = (namesOf S)[i] := by rw [List.getD_eq_getElem?_getD, List.getElem?_eq_getElem hiN, Option.getD_some]
      rw [hgd] at hcell
      have hcell' : wr.cell? ⟨qn, i, none⟩ = some (.string (namesOf S)[i]) := HT.out.cell hcell (fun e => by
        rcases e with e | e
        · have := e.2; simp only at this; omega
        · simp only at e; omega)
      have htx := HTX.out i hiL
      rw [hgd] at htx
      clear hgd
      have hmem : (namesOf S)[i] ∈ namesOf S := List.getElem_mem hiN
      have hat := crashList_at (namesOf S) ks i hiN
      generalize (namesOf S)[i] = s at *
      obtain ⟨g, hg⟩ := names_file HFU.out hmem
      obtain ⟨x, hx⟩ := HR.out.refs.names s g hg
      have hlk := HR.out.names.look' s htx
      rw [show fileOf (d.midst S ((crashList (namesOf S) ks).take i)).names s = some g from hg] at hlk
      simp only [ptrOf] at hlk
      obtain ⟨v1, v2, v3, _⟩ := crash_inv S ((crashList (namesOf S) ks).take i) (d.files, 0) HN.out.bytes (Int.le_refl _)
      have hxb := v1 g x hx
      have hub : 0 ≤ (d.midst S ((crashList (namesOf S) ks).take i)).used ∧ (d.midst S ((crashList (namesOf S) ks).take i)).used ≤ 1000000000 * 1073741824 := by
        refine ⟨v2, ?_⟩
        have : (((crashList (namesOf S) ks).take i).length : Int) ≤ 1000000000 := by rw [List.length_take]; omega
        have v3' : (d.midst S ((crashList (namesOf S) ks).take i)).used ≤ 0 + (((crashList (namesOf S) ks).take i).length : Int) * 1073741824 := v3
        omega
      obtain ⟨st1, st2⟩ := midst_step d S (crashList (namesOf S) ks) i s (ks.getD i 0) g x hat hg hx
      have hkv : ks.getD i 0 ≤ 9223372036854775807 ∧ -9223372036854775808 ≤ ks.getD i 0 := by
        rw [List.getD_eq_getElem?_getD]
        rcases Nat.lt_or_ge i ks.length with hl | hl
        · rw [List.getElem?_eq_getElem hl, Option.getD_some]
          exact HKB.out _ (List.getElem_mem hl)
        · rw [List.getElem?_eq_none hl, Option.getD_none]
          exact ⟨by decide, by decide⟩
      have ST1 := hide st1
      have ST2 := hide st2
      have HX := hide hx
      have b1 : wr.cell? ⟨f, 1, none⟩ = some (.map (some bn')) := cell_of_row wr f 1 _ 57 (0, 0) HR.out.cells
      clear st1 st2 v1 v2 v3 hx hat hmem hg hcell
      have hkn : kn = ks.length := HKS.out.1
      by_cases hik : i < kn
      · obtain ⟨q', o', rfl, hkc'⟩ := HKS6.out.2 i hik
        have hkcell : wr.cell? ⟨q', o' + i, none⟩ = some (.int .i64 (ks.getD i 0)) := HT.out.cell hkc' (fun e => by
          have h1 := HKN.out q' o' rfl (by omega)
          rcases e with e | e
          · exact HKA.out q' o' rfl e.1
          · simp only at e; omega)
        have i2 : (i : Int) < (kn : Int) := by omega
        clear hkc' hkn
        generalize ks.getD i 0 = kv at *
        have hlk := hlk
        go_wp2_with fail
        refine (fcrash_all g (fv' g) x kv wr (HR.out.files.each g x HX.out).cell (HR.out.files.each g x HX.out).own hxb.2 hxb.1 hkv.1 hkv.2).mono ?_
        rintro e w7 ⟨⟨v7, rfl⟩, fa, fm, fc, n1, n2, n3, n4, t7⟩
        have hgf := (HR.out.file HX.out).1
        have hcells7 := t7.heap HR.out.cells (fun e => hgf e.symm)
        have x0 : w7.cell? ⟨g, 0, none⟩ = some (.slice fa fm fc) := cell_of_row w7 g 0 _ 70 (0, 0) n1
        have x4 : w7.cell? ⟨f, 4, none⟩ = some (.int .i64 (d.midst S ((crashList (namesOf S) ks).take i)).used) := cell_of_row w7 f 4 _ 57 (0, 0) hcells7
        have z4 : w7.frozen? ⟨f, 4, none⟩ = false := frozen_of_row w7 f 4 _ 57 hcells7
        have hfm : fm ≤ 1073741824 := by
          have := crashN_le x kv hxb.2
          rw [n3]
          unfold Fil.crash
          rw [List.length_take]
          omega
        have t8 := ((Tick.refl hcells7).set 4 (.int .i64 ((d.midst S ((crashList (namesOf S) ks).take i)).used + fm))).drew
        have u8 := Turns.of_tick t8
        have FIN : Hid ((∃ fv, RepAt (Mid A w2 bn') (w7.setCell ⟨f, 4, none⟩ (.int .i64 ((d.midst S ((crashList (namesOf S) ks).take i)).used + fm))).drew f (d.midst S ((crashList (namesOf S) ks).take (i + 1))) bn' bs (.slice none 0 0) fv) ∧ Turns (Mid A w2 bn') w6 (w7.setCell ⟨f, 4, none⟩ (.int .i64 ((d.midst S ((crashList (namesOf S) ks).take i)).used + fm))).drew) := by
          have tt : Turns (fun q => q = f ∨ q = g ∨ inRow (fv' g) q) wr (w7.setCell ⟨f, 4, none⟩ (.int .i64 ((d.midst S ((crashList (namesOf S) ks).take i)).used + fm))).drew := (t7.mono fun q _ e => .inr (.inl e)).trans (u8.mono fun q _ e => .inl e)
          have hsl : ∀ q, inRow (.slice fa fm fc) q → ¬ q = f := fun q hq e => (HR.out.row HX.out (n4 q hq)).1 e
          refine ⟨⟨_, HR.out.filedTo (A' := Mid A w2 bn') (fun _ hk => hk) (d' := d.midst S ((crashList (namesOf S) ks).take (i + 1))) (g := g) (x := x) (x' := x.crash kv) (v' := .slice fa fm fc) HX.out ?_ (u8.heap n1 hgf) (n2.keep u8 hsl) tt (fun q hq => .inl (n4 q hq)) rfl rfl rfl ST1.out⟩, HT.out.trans (tt.mono fun q _ e => ?_)⟩
          · rw [t8.1]
            unfold Disk.cells
            rw [ST2.out, ← n3]
            rfl
          · rcases e with e | e | e
            · rw [e]; exact HR.out.af
            · rw [e]; exact (HR.out.files.each g x HX.out).ag
            · exact (HR.out.files.each g x HX.out).ar q e
        have hw : IntKind.i64.wrap ((d.midst S ((crashList (namesOf S) ks).take i)).used + fm) = (d.midst S ((crashList (namesOf S) ks).take i)).used + fm := wrapI _ (by omega) (by omega)
        clear t8 u8 n1 n2 n3 n4 t7 hcells7 b1 hlk
        generalize (d.midst S ((crashList (namesOf S) ks).take i)).used = us at *
        go_wp2_with fail
        go_region_with (fail)
        all_goals go_wp2_with fail
        all_goals exact ⟨⟨i + 1, by go_num, by omega, FIN.out⟩, by simp [intOf]; omega⟩
      · have hkv0 : ks.getD i 0 = 0 := by
          rw [List.getD_eq_getElem?_getD, List.getElem?_eq_none (by omega), Option.getD_none]
        have i2 : ¬ (i : Int) < (kn : Int) := by omega
        rw [hkv0] at ST1 ST2
        clear hkn hkv hkv0
        have hkv : (0 : Int) ≤ 9223372036854775807 ∧ -9223372036854775808 ≤ (0 : Int) := ⟨by decide, by decide⟩
        have hlk := hlk
        go_wp2_with fail
        refine (fcrash_all g (fv' g) x 0 wr (HR.out.files.each g x HX.out).cell (HR.out.files.each g x HX.out).own hxb.2 hxb.1 hkv.1 hkv.2).mono ?_
        rintro e w7 ⟨⟨v7, rfl⟩, fa, fm, fc, n1, n2, n3, n4, t7⟩
        have hgf := (HR.out.file HX.out).1
        have hcells7 := t7.heap HR.out.cells (fun e => hgf e.symm)
        have x0 : w7.cell? ⟨g, 0, none⟩ = some (.slice fa fm fc) := cell_of_row w7 g 0 _ 70 (0, 0) n1
        have x4 : w7.cell? ⟨f, 4, none⟩ = some (.int .i64 (d.midst S ((crashList (namesOf S) ks).take i)).used) := cell_of_row w7 f 4 _ 57 (0, 0) hcells7
        have z4 : w7.frozen? ⟨f, 4, none⟩ = false := frozen_of_row w7 f 4 _ 57 hcells7
        have hfm : fm ≤ 1073741824 := by
          have := crashN_le x 0 hxb.2
          rw [n3]
          unfold Fil.crash
          rw [List.length_take]
          omega
        have t8 := ((Tick.refl hcells7).set 4 (.int .i64 ((d.midst S ((crashList (namesOf S) ks).take i)).used + fm))).drew
        have u8 := Turns.of_tick t8
        have FIN : Hid ((∃ fv, RepAt (Mid A w2 bn') (w7.setCell ⟨f, 4, none⟩ (.int .i64 ((d.midst S ((crashList (namesOf S) ks).take i)).used + fm))).drew f (d.midst S ((crashList (namesOf S) ks).take (i + 1))) bn' bs (.slice none 0 0) fv) ∧ Turns (Mid A w2 bn') w6 (w7.setCell ⟨f, 4, none⟩ (.int .i64 ((d.midst S ((crashList (namesOf S) ks).take i)).used + fm))).drew) := by
          have tt : Turns (fun q => q = f ∨ q = g ∨ inRow (fv' g) q) wr (w7.setCell ⟨f, 4, none⟩ (.int .i64 ((d.midst S ((crashList (namesOf S) ks).take i)).used + fm))).drew := (t7.mono fun q _ e => .inr (.inl e)).trans (u8.mono fun q _ e => .inl e)
          have hsl : ∀ q, inRow (.slice fa fm fc) q → ¬ q = f := fun q hq e => (HR.out.row HX.out (n4 q hq)).1 e
          refine ⟨⟨_, HR.out.filedTo (A' := Mid A w2 bn') (fun _ hk => hk) (d' := d.midst S ((crashList (namesOf S) ks).take (i + 1))) (g := g) (x := x) (x' := x.crash 0) (v' := .slice fa fm fc) HX.out ?_ (u8.heap n1 hgf) (n2.keep u8 hsl) tt (fun q hq => .inl (n4 q hq)) rfl rfl rfl ST1.out⟩, HT.out.trans (tt.mono fun q _ e => ?_)⟩
          · rw [t8.1]
            unfold Disk.cells
            rw [ST2.out, ← n3]
            rfl
          · rcases e with e | e | e
            · rw [e]; exact HR.out.af
            · rw [e]; exact (HR.out.files.each g x HX.out).ag
            · exact (HR.out.files.each g x HX.out).ar q e
        have hw : IntKind.i64.wrap ((d.midst S ((crashList (namesOf S) ks).take i)).used + fm) = (d.midst S ((crashList (namesOf S) ks).take i)).used + fm := wrapI _ (by omega) (by omega)
        clear t8 u8 n1 n2 n3 n4 t7 hcells7 b1 hlk
        generalize (d.midst S ((crashList (namesOf S) ks).take i)).used = us at *
        go_wp2_with fail
        go_region_with (fail)
        all_goals go_wp2_with fail
        all_goals exact ⟨⟨i + 1, by go_num, by omega, FIN.out⟩, by simp [intOf]; omega⟩
    · obtain rfl : i = Ln := by omega
      have hfin : (crashList (namesOf S) ks).take i = crashList (namesOf S) ks := List.take_of_length_le (by rw [crashList_length]; omega)
      have HR' := HR.out
      rw [hfin] at HR'
      have HRF := hide HR'
      have x6 : wr.cell? ⟨f, 6, none⟩ = some (.bool d.on) := cell_of_row wr f 6 _ 57 (0, 0) HRF.out.cells
      have x8 : wr.cell? ⟨f, 8, none⟩ = some (.int .i64 d.fuse) := cell_of_row wr f 8 _ 57 (0, 0) HRF.out.cells
      have x9 : wr.cell? ⟨f, 9, none⟩ = some (.int .i64 d.fault) := cell_of_row wr f 9 _ 57 (0, 0) HRF.out.cells
      have z6 : wr.frozen? ⟨f, 6, none⟩ = false := frozen_of_row wr f 6 _ 57 HRF.out.cells
      have z8 : wr.frozen? ⟨f, 8, none⟩ = false := frozen_of_row wr f 8 _ 57 HRF.out.cells
      have z9 : wr.frozen? ⟨f, 9, none⟩ = false := frozen_of_row wr f 9 _ 57 HRF.out.cells
      clear HR' hfin
      go_wp2_with fail
      go_ret
      have t9 := (((Tick.refl HRF.out.cells).set 6 (.bool true)).set 8 (.int .i64 (-1))).set 9 (.int .i64 (-1))
      have u9 := Turns.of_tick t9
      have hfinal : RepAt (Mid A w2 bn') _ f (d.crashed dir ks) bn' bs (.slice none 0 0) fv' := HRF.out.turn u9 (by rw [t9.1]; unfold Disk.crashed; rw [hS']; rfl) (by unfold Disk.crashed; rw [hS']) (by unfold Disk.crashed; rw [hS']) (by unfold Disk.crashed; rw [hS']) (by unfold Disk.crashed; rw [hS'])
      refine ⟨rfl, ⟨bn', bs, _, fv', hfinal.mono fun q _ hq => ?_⟩, ?_⟩
      · rcases hq with hq | hq
        · exact .inl hq.1
        · exact .inr (by omega)
      · refine (HU6.out.andThen HT.out fun q hq e => ?_).trans (u9.mono fun q _ e => by rw [e]; exact H.out.af)
        rcases e with e | e
        · exact e.1
        · omega
end Go.Proofs.Ytefjljdgdoklmaa
