import Derived.Test.YtefjljdgdoklmaaM24
/-
  The document's Crash.
-/
namespace Go.Proofs.Ytefjljdgdoklmaa
open Go.RowKit Go.Maps
set_option maxRecDepth 100000
set_option maxHeartbeats 2000000
theorem alloc_keep {w : World} {a : Addr} {v : Value} (h : w.cell? a = some v) (o : Obj) : (w.alloc o).cell? a = some v :=
  (((Below.refl w.heap.size w).alloc (Nat.le_refl _) o).cell (block_lt_of_cell h)).trans h
/-- The blocks of a file system in the midst of the document's crash. -/
def Ab (A : Nat → Prop) (b : Nat) : Nat → Prop := fun k => (A k ∧ k < b) ∨ b < k
/-- The document's file system in the midst of a crash: so many of its files are made anew. -/
structure CMid (A : Nat → Prop) (w : World) (q : Nat) (r : RDisk) (D : DataW Unit) (ks : List Int) (bs : Nat) (ch : Value) (v : Value) (ka : Option Addr) (kn : Nat) (k : Nat) (gs : List Anew) (wr : World) : Prop where
  len : gs.length = k
  each : ∀ j p, gs[j]? = some p → (namesOf D)[j]? = some p.1 ∧ w.heap.size < p.2.1 ∧ p.2.1 < wr.heap.size ∧ ∃ g x, fileOf D p.1 = some g ∧ r.files g = some x ∧ p.2.2 = x.crash (ks.getD j 0)
  nd : (gs.map (·.2.1)).Nodup
  rep : ∃ fv, RRepAt (Ab A w.heap.size) wr q (newR r gs) bs ch fv
  dir : ∃ N, N ≤ 1000000 + k ∧ Dir wr w.heap.size N (newD D gs)
  names : SRow wr (w.heap.size + 1) v ((strKeys D).mergeSort leB)
  ints : Ints wr ka kn ks
  below : Below w.heap.size w wr
theorem newD_full {D : DataW Unit} (h : Full D) (gs : List Anew) : Full (newD D gs) := by
  induction gs generalizing D with
  | nil => exact h
  | cons p r ih => exact ih (h.put p.1.data.toList p.2.1)
/-- How many changes are kept. -/
theorem Ints.keep0 {S : Nat → Prop} {w w' : World} {a : Option Addr} {n : Nat} {ks : List Int} (h : Ints w a n ks) (t : Turns S w w') (ha : ∀ q o, a = some ⟨q, o, none⟩ → 0 < n → ¬ S q) : Ints w' a n ks :=
  ⟨h.1, fun k hk => let ⟨q, o, h1, h2⟩ := h.2 k hk; ⟨q, o, h1, t.cell h2 (ha q o h1 (by omega))⟩⟩
def keptN (dir : Int) (l : Nat) : Nat := (max dir 0 % ((l : Int) + 1)).toNat
theorem keptN_le (dir : Int) (l : Nat) : keptN dir l ≤ l ∧ ((keptN dir l : Nat) : Int) = max dir 0 % ((l : Int) + 1) := by
  have e1 := Int.emod_lt_of_pos (max dir 0) (show (0 : Int) < (l : Int) + 1 by omega)
  have e2 := Int.emod_nonneg (max dir 0) (show (l : Int) + 1 ≠ 0 by omega)
  unfold keptN
  omega
theorem rcrash_rep (A : Nat → Prop) (q : Nat) (r : RDisk) (dir : Int) (ka : Option Addr) (kn kc : Nat) (ks : List Int) (w : World) (h : RRep A w q r) (hn : RNum r) (hI : Ints w ka kn ks) (hIa : ∀ a o, ka = some ⟨a, o, none⟩ → 0 < kn → a < w.heap.size)
    (hks : ∀ k, -9223372036854775808 ≤ ks.getD k 0 ∧ ks.getD k 0 ≤ 9223372036854775807) (hsz : Maps.size (r.dir (keptN dir r.changes.length)) ≤ 1000000) (R : Ending → World → Prop)
    (HS : ∀ (gs : List Anew) w', gs.length = (namesOf (r.dir (keptN dir r.changes.length))).length →
      (∀ j p, gs[j]? = some p → (namesOf (r.dir (keptN dir r.changes.length)))[j]? = some p.1 ∧ w.heap.size < p.2.1 ∧ ∃ g x, fileOf (r.dir (keptN dir r.changes.length)) p.1 = some g ∧ r.files g = some x ∧ p.2.2 = x.crash (ks.getD j 0)) → (gs.map (·.2.1)).Nodup →
      RRep (Grow A w) w' q { newR r gs with synced := newD (r.dir (keptN dir r.changes.length)) gs, changes := [], off := false, fuse := -1, fault := -1 } → Turns A w w' → ∀ e, R (.returned e) w') :
    Calls Try.prog 64 #[.pointer (some ⟨q, 0, none⟩), .int .i64 dir, .slice ka kn kc] w R := by
  obtain ⟨bs, ch, fv, h⟩ := h
  obtain ⟨hk1, hk2⟩ := keptN_le dir r.changes.length
  have hdir := rdir_rep A q (keptN dir r.changes.length) r w ⟨bs, ch, fv, h⟩ hn hk1
  obtain ⟨ca, cc, hch⟩ := h.chs.len
  have c2 : w.cell? ⟨q, 2, none⟩ = some (.slice ca r.changes.length cc) := by rw [← hch]; exact cell_of_row w q 2 _ 84 (0, 0) h.cells
  have H := hide h
  have HN := hide hn
  have HI := hide hI
  have HIA := hide hIa
  have HKS := hide hks
  have HSZ := hide hsz
  have HD := hide hdir
  have HCH := hide hch
  have HSS := hide HS
  have hlc := hn.changes
  clear h hn hI hdir hch hIa hks hsz HS
  generalize hK : keptN dir r.changes.length = K at *
  clear hK
  generalize hLL : r.changes.length = LL at *
  have HK2 := hide hk2
  clear hk2
  go_enter Try.func64, Try.ntmps64
  go_upto_if 13 with (fail)
  go_cut [6] from 12 to 21 (fun v6 wx => v6 = .int .i64 (K : Nat) ∧ wx = w)
  case first =>
    rename_i kk rest jj kk' m1 m2
    clear rest
    by_cases hk0 : 0 < dir
    · have hkk : dir % ((LL : Int) + 1) = (K : Int) := by
        rw [HK2.out, show max dir 0 = dir by omega]
      go_wp2_with fail
      go_meet
      exact ⟨rfl, rfl⟩
    · have HK00 : Hid ((0 : Int) = (K : Int)) := by show (0 : Int) = (K : Int); rw [HK2.out, show max dir 0 = 0 by omega, Int.zero_emod]
      go_wp2_with fail
      go_meet
      exact ⟨by rw [← HK00.out], rfl⟩
  case rest =>
    obtain ⟨rfl, hwc⟩ := hcut
    rw [hwc]
    clear hwc c2
    have hqw := lt_of_heap H.out.cells
    generalize hDD : r.dir K = D at *
    have HDD := hide hDD
    clear hDD
    go_wp2_with fail
    refine HD.out.mono ?_
    rintro e w1 ⟨N, rfl, d1, b1⟩
    have D1 := hide d1
    have B1 := hide b1
    have hW1 : w.heap.size < w1.heap.size := d1.lt
    clear d1 b1 HD
    go_wp2_with fail
    refine (rsorted_any w.heap.size N D w1 D1.out HSZ.out).mono ?_
    rintro e w2 ⟨v, rfl, hr, b2⟩
    have hnod := names_nodup D1.out
    have hfull : Full D := by rw [← HDD.out]; exact fullR_fold _ H.out.refs.fs
    have hkle := strKeys_le D1.out Try.underlying9
    have hmap := D1.out.isMap
    have NOD := hide hnod
    have FULL := hide hfull
    have KLE := hide hkle
    have MAP := hide hmap
    have hnl : (namesOf D).length ≤ 1000000 := by
      obtain ⟨es, hes, _⟩ := hfull
      have h1 := HSZ.out
      rw [hes] at h1 ⊢
      simpa [namesOf, strKeys, Maps.size] using h1
    have M0 : Hid (CMid A w q r D ks bs ch v ka kn 0 [] w2) := hide (by
      have t2 : Turns (fun _ => False) w w2 := Turns.of_below (B1.out.trans (b2.mono B1.out.size)) _
      refine ⟨rfl, fun j p hp => by simp at hp, List.nodup_nil, ⟨fv, (H.out.mono (fun k hk ha => .inl ⟨ha, hk⟩)).quiet t2⟩, ⟨Maps.size D, by have := HSZ.out; omega, (D1.out.keep (Turns.of_below b2 (fun _ => False)) (fun x => x)).tight⟩, ?_, HI.out.keep t2 (fun _ _ _ x => x), B1.out.trans (b2.mono B1.out.size)⟩
      rcases hr with h | ⟨g, c, n, e1, e2, e3, e4, e5⟩
      · exact .inl h
      · exact .inr ⟨g, c, n, e1, e2, e3, by omega, e5⟩)
    clear hr b2 D1 B1 hnod hfull hkle hmap
    have hvl : ∃ va vc, v = .slice va (namesOf D).length vc := by
      rcases M0.out.names with ⟨h1, h2⟩ | ⟨g, c, n, e1, e2, _⟩
      · refine ⟨none, 0, ?_⟩
        rw [h2]
        unfold namesOf
        rw [h1]
        rfl
      · refine ⟨some ⟨g, 0, none⟩, c, ?_⟩
        rw [e1, e2]
        unfold namesOf
        rw [List.length_map]
    obtain ⟨va, vc, rfl⟩ := hvl
    generalize hNL : (namesOf D).length = NL at *
    have HNL := hide hNL
    clear hNL
    go_wp2_with fail
    go_loopw [9] (fun i wr => ∃ (k : Nat) (gs : List Anew), i = .int .i64 (k : Nat) ∧ k ≤ NL ∧ CMid A w q r D ks bs ch (.slice va NL vc) ka kn k gs wr) (fun i _ => NL - (intOf i).toNat)
    case atStart => exact ⟨0, [], rfl, Nat.zero_le _, M0.out⟩
    case round =>
      obtain ⟨k, gs, rfl, hk, hm⟩ := hrel
      have MM := hide hm
      clear hm M0
      by_cases hkn2 : k < NL
      · obtain ⟨s, hs⟩ : ∃ s, (namesOf D)[k]? = some s := ⟨_, List.getElem?_eq_getElem (by rw [HNL.out]; exact hkn2)⟩
        have hsm : s ∈ namesOf D := List.mem_of_getElem? hs
        obtain ⟨g1, hg1⟩ := names_file FULL.out hsm
        obtain ⟨x, hx⟩ := dir_look H.out (K := K) (by rw [HDD.out]; exact hg1)
        have hg1w := (H.out.file hx).2.2.2
        have hxb := HN.out.bytes g1 x hx
        have hssz : s.size ≤ maxLen := by
          obtain ⟨y, hy, he⟩ := List.mem_map.1 hsm
          rw [← he]
          have := KLE.out y ((List.mergeSort_perm _ _).mem_iff.1 hy)
          simpa [toBA, ByteArray.size] using this
        have hother : ∀ p ∈ gs, s ≠ p.1 := fun p hp e => by
          obtain ⟨j, hj, hpj⟩ := List.getElem_of_mem hp
          have h1 := (MM.out.each j p (by rw [List.getElem?_eq_getElem hj, hpj])).1
          rw [← e] at h1
          have hjk : j < k := by rw [← MM.out.len]; exact hj
          have hkl : k < (namesOf D).length := by rw [HNL.out]; exact hkn2
          have hjl : j < (namesOf D).length := by omega
          have e1 : (namesOf D)[j] = s := by rw [List.getElem?_eq_getElem hjl] at h1; simpa using h1
          have e2 : (namesOf D)[k] = s := by rw [List.getElem?_eq_getElem hkl] at hs; simpa using hs
          exact (List.pairwise_iff_getElem.1 NOD.out j k hjl hkl hjk) (e1.trans e2.symm)
        have hlook : fileOf (newD D gs) s = some g1 := by rw [newD_other MAP.out gs s hother]; exact hg1
        have hxr : (newR r gs).files g1 = some x := by
          rw [newR_old r gs g1 (fun p hp e => by
            obtain ⟨j, hj, hpj⟩ := List.getElem_of_mem hp
            have h1 := (MM.out.each j p (by rw [List.getElem?_eq_getElem hj, hpj])).2.1
            omega)]
          exact hx
        obtain ⟨fv2, hrep⟩ := MM.out.rep
        obtain ⟨N2, hN2, hdir2⟩ := MM.out.dir
        have hfile := hrep.files.each g1 x hxr
        obtain ⟨fa, fc, hfv⟩ := hfile.own.slice
        have hown : Bytes wr (.slice fa x.bytes.length fc) x.bytes := by rw [← hfv]; exact hfile.own.bytes
        have hfc : x.bytes.length ≤ fc := by
          rcases hfile.own with ⟨e1, e2⟩ | ⟨_, _, _, e1, e2, e3, _⟩
          · rw [e1]; exact Nat.zero_le _
          · rw [hfv] at e1; cases e1; omega
        have y0 : wr.cell? ⟨g1, 0, none⟩ = some (.slice fa x.bytes.length fc) := by rw [← hfv]; exact cell_of_row wr _ 0 _ 95 (0, 0) hfile.cell
        have y1 : wr.cell? ⟨g1, 1, none⟩ = some (.int .i64 (x.synced : Nat)) := cell_of_row wr _ 1 _ 95 (0, 0) hfile.cell
        obtain ⟨gn, hgn, rfl, n0⟩ : ∃ gn, w.heap.size < gn ∧ va = some ⟨gn, 0, none⟩ ∧ wr.cell? ⟨gn, k, none⟩ = some (.string s) := by
          rcases MM.out.names with ⟨_, h2⟩ | ⟨g, c, n, e1, e2, e3, e4, cs, e5, e6, e7⟩
          · cases h2; omega
          · cases e1
            refine ⟨g, e4, rfl, ?_⟩
            rw [cell_of_row wr g k cs 9 (0, 0) e5, e7 k (by simp only [strCells, List.length_map]; omega)]
            unfold namesOf at hs
            rw [List.getElem?_map] at hs
            unfold strCells
            rw [List.getElem?_map]
            cases hq : ((strKeys D).mergeSort leB)[k]? with
            | none => rw [hq] at hs; cases hs
            | some y =>
              rw [hq] at hs
              obtain rfl : toBA y = s := by simpa using hs
              rfl
        have hlk := hdir2.look81 s hssz
        rw [hlook] at hlk
        simp only [ptrOf] at hlk
        have i1 : (k : Int) < (NL : Int) := by omega
        have i0 : (0 : Int) ≤ (k : Int) := by omega
        have hcN := crashN_le x (ks.getD k 0) hxb.2
        have HOWN := hide hown
        have HREP := hide hrep
        have HDIR := hide hdir2
        have HX := hide hx
        have HG1 := hide hg1
        have HSK := hide hs
        have HOTH := hide hother
        obtain ⟨hxb1, hxb2⟩ := hxb
        have hcn : (crashN x (ks.getD k 0) : Int) = (x.synced : Int) + max (ks.getD k 0) 0 % ((x.bytes.length : Int) - x.synced + 1) := by
          have e1 := Int.emod_nonneg (max (ks.getD k 0) 0) (show (x.bytes.length : Int) - x.synced + 1 ≠ 0 by omega)
          unfold crashN
          omega
        have HCN := hide hcn
        clear hown hrep hdir2 hx hg1 hs hother hcn hfile hfv hlook hxr hsm
        generalize hXL : x.bytes.length = XL at *
        generalize hXS : x.synced = XS at *
        generalize hmm : crashN x (ks.getD k 0) = mm at *
        obtain ⟨kv, hkv⟩ : ∃ kv : Nat, mm = XS + kv := ⟨mm - XS, by have := HCN.out; have := Int.emod_nonneg (max (ks.getD k 0) 0) (show (XL : Int) - XS + 1 ≠ 0 by omega); omega⟩
        have HKV := hide hkv
        clear hkv
        obtain ⟨qb, hqb⟩ : ∃ qb : Bool, qb = decide (k < kn ∧ 0 < ks.getD k 0) := ⟨_, rfl⟩
        have HQB := hide hqb
        clear hqb
        go_upto_region 10 with (fail)
        go_cut [49] from 39 to 49 (fun v49 wx => v49 = .bool qb ∧ wx = wr)
        case first =>
          rename_i kk rest jj kk' m1 m2
          clear rest
          by_cases hkk : k < kn
          · obtain ⟨qa, oa, rfl, hka⟩ := MM.out.ints.2 k hkk
            have hki : (k : Int) < (kn : Int) := by omega
            have hqv : (decide (0 < ks.getD k 0)) = qb := by rw [HQB.out]; simp [hkk]
            generalize hkv2 : ks.getD k 0 = kz at *
            have HQV := hide hqv
            clear hqv
            go_wp2_with fail
            all_goals go_meet
            all_goals exact ⟨by rw [← HQV.out], rfl⟩
          · have hki : ¬ (k : Int) < (kn : Int) := by omega
            have hqv : qb = false := by rw [HQB.out]; simp [hkk]
            have HQV := hide hqv
            clear hqv
            go_wp2_with fail
            go_meet
            exact ⟨by rw [HQV.out], rfl⟩
        case rest =>
        obtain ⟨rfl, hwc1⟩ := hcut
        rw [hwc1]
        clear hwc1
        go_upto_if 49 with (fail)
        go_cut [11] from 50 to 65 (fun v11 wx => v11 = .int .i64 (kv : Nat) ∧ ∃ m, wx = wr.drewN m)
        case first =>
          rename_i kk rest jj kk' m1 m2
          clear rest
          cases qb with
          | true =>
            obtain ⟨hkk, hpos⟩ := of_decide_eq_true HQB.out.symm
            obtain ⟨qa, oa, rfl, hka⟩ := MM.out.ints.2 k hkk
            have hki : (k : Int) < (kn : Int) := by omega
            obtain ⟨hb1, hb2⟩ := HKS.out k
            generalize hkv2 : ks.getD k 0 = kz at *
            have hval : kz % ((XL : Int) - XS + 1) = (kv : Int) := by
              have e1 := HCN.out
              have e2 := HKV.out
              rw [show max kz 0 = kz by omega] at e1
              omega
            have hnz : ¬ ((XL : Int) - XS + 1) = 0 := by omega
            go_wp2_with fail
            go_quiet (fail)
            go_wp2_with fail
            go_meet
            exact ⟨by first | rfl | rw [hval], _, rfl⟩
          | false =>
            have hqf := of_decide_eq_false HQB.out.symm
            have h0 : (0 : Int) = (kv : Int) := by
              have e1 := HCN.out
              have e2 := HKV.out
              have e3 : max (ks.getD k 0) 0 = 0 := by
                by_cases hkk : k < kn
                · have : ¬ 0 < ks.getD k 0 := fun h => hqf ⟨hkk, h⟩
                  omega
                · have := MM.out.ints.1
                  rw [List.getD_eq_getElem?_getD, List.getElem?_eq_none (by omega)]; rfl
              rw [e3, Int.zero_emod] at e1
              omega
            have H00 := hide h0
            clear h0
            go_wp2_with fail
            go_meet
            exact ⟨by rw [← H00.out], 0, rfl⟩
        case rest =>
          obtain ⟨rfl, m, hwc⟩ := hcut
          have tW : Turns (fun _ => False) wr (wr.drewN m) := (Turns.refl _ wr).drewN m
          have n1 : (wr.drewN m).cell? ⟨gn, k, none⟩ = some (.string s) := n0
          have y2 : (wr.drewN m).cell? ⟨g1, 0, none⟩ = some (.slice fa XL fc) := y0
          have y3 : (wr.drewN m).cell? ⟨g1, 1, none⟩ = some (.int .i64 (XS : Nat)) := y1
          have HREP2 := hide (HREP.out.quiet tW)
          have HDIR2 := hide (HDIR.out.keep tW (fun x => x))
          have HOWN2 : Hid (Bytes (wr.drewN m) (.slice fa XL fc) x.bytes) := HOWN.out
          have NAM2 := hide (MM.out.names.keep tW (fun _ _ x => x))
          have INT2 := hide (MM.out.ints.keep tW (fun _ _ _ x => x))
          have BEL2 := hide (show Below w.heap.size w (wr.drewN m) from MM.out.below.trans (tW.below (by exact MM.out.below.size) (fun _ x => x.elim)))
          have HSZW := hide (show (wr.drewN m).heap.size = wr.heap.size from rfl)
          rw [hwc]
          clear hwc n0 y0 y1 tW hlk
          generalize wr.drewN m = W at *
          have hWw : w.heap.size ≤ W.heap.size := BEL2.out.size
          -- the bytes, in new memory
          have bA : Below W.heap.size W (W.drew.alloc (.cells #[] 5)) := ((Below.refl _ _).drew).alloc (Nat.le_refl _) _
          have hsA : (W.drew.alloc (.cells #[] 5)).heap.size = W.heap.size + 1 := by rw [World.size_alloc]; rfl
          obtain ⟨g3, c3, w3, hr3, hg3, hrow3, hb3, hc3, _⟩ := append_bytes2 (W.drew.alloc (.cells #[] 5)) W.heap.size (some ⟨W.heap.size, 0, none⟩) 0 0 [] rfl (.slice fa mm fc) (x.bytes.take mm) mm (by rw [List.length_take, Nat.min_eq_left (by rw [hXL]; exact hcN)]) (Bytes.below (bytes_first HOWN2.out mm fc hcN) bA) (by omega)
            (.inr ⟨_, rfl, Nat.le_refl _, Nat.le_refl _, #[], heap_alloc_new W.drew _, Nat.le_refl _, fun k hk => by simp [cellsOf] at hk⟩) (by omega)
          rw [Nat.zero_add] at hr3 hc3
          rw [List.nil_append] at hrow3
          have b3 : Below W.heap.size W w3 := bA.trans hb3
          have x4 := heap_alloc_new w3 (.cells #[.slice (some ⟨g3, 0, none⟩) mm c3, .int .i64 (mm : Nat)] 95)
          have b4 : Below W.heap.size W (w3.alloc (.cells #[.slice (some ⟨g3, 0, none⟩) mm c3, .int .i64 (mm : Nat)] 95)) := b3.alloc b3.size _
          have hdir4 : Dir (w3.alloc (.cells #[.slice (some ⟨g3, 0, none⟩) mm c3, .int .i64 (mm : Nat)] 95)) w.heap.size N2 (newD D gs) := HDIR2.out.keep (Turns.of_below b4 (fun _ => False)) (fun x => x)
          obtain ⟨w5, hup, hdir5, ht5⟩ := hdir4.store law9 Try.underlying81 (by unfold maxLen; omega) (keyOf9 s hssz) (ptrR_some w3.heap.size)
          have u3 := (b3.cell (block_lt_of_cell n1)).trans n1
          have u3a := (b3.cell (block_lt_of_cell y2)).trans y2
          have u3b := (b3.cell (block_lt_of_cell y3)).trans y3
          have u4 := alloc_keep u3 (.cells #[.slice (some ⟨g3, 0, none⟩) mm c3, .int .i64 (mm : Nat)] 95)
          have u4a := alloc_keep u3a (.cells #[.slice (some ⟨g3, 0, none⟩) mm c3, .int .i64 (mm : Nat)] 95)
          have u4b := alloc_keep u3b (.cells #[.slice (some ⟨g3, 0, none⟩) mm c3, .int .i64 (mm : Nat)] 95)
          have t5 : Turns (fun j => j = w.heap.size) (w3.alloc (.cells #[.slice (some ⟨g3, 0, none⟩) mm c3, .int .i64 (mm : Nat)] 95)) w5 := (Turns.of_grown ht5.grown).mono fun k _ e => by cases e; rfl
          have u5 := t5.cell u4 (by show ¬ gn = w.heap.size; omega)
          have u5a := t5.cell u4a (by show ¬ g1 = w.heap.size; omega)
          have u5b := t5.cell u4b (by show ¬ g1 = w.heap.size; omega)
          have hmm2 : (XS : Int) + (kv : Int) = (mm : Int) := by have := HKV.out; omega
          have HR3 := hide hr3
          have ROW3 := hide hrow3
          have B3 := hide b3
          have B4 := hide b4
          have X4 := hide x4
          have D5 := hide hdir5
          have T5 := hide t5
          have m1 : (0 : Int) ≤ (mm : Int) := by omega
          have m2 : (mm : Int) ≤ (XL : Int) := by omega
          have m3 : (mm : Int) ≤ (fc : Int) := by omega
          have m4 : mm ≤ fc := by omega
          have hwr : IntKind.i64.wrap (mm : Int) = (mm : Int) := wrapI _ (by omega) (by omega)
          have hwr2 : IntKind.i64.wrap ((XS : Int) + (kv : Int)) = (mm : Int) := by rw [hmm2]; exact hwr
          clear hr3 hrow3 hb3 b3 b4 x4 hdir4 hdir5 ht5 t5 bA
          go_wp2_with fail
          go_region_held_law (fun w' => w'.cell? ⟨gn, k, none⟩ = some (.string s) ∧ w'.cell? ⟨g1, 0, none⟩ = some (.slice fa XL fc) ∧ w'.cell? ⟨g1, 1, none⟩ = some (.int .i64 (XS : Nat))) (first | (with_reducible exact ⟨u5, u5a, u5b⟩) | (with_reducible exact ⟨u4, u4a, u4b⟩) | (with_reducible exact ⟨u3, u3a, u3b⟩) | (simp only [World.cell?_drew]; with_reducible exact ⟨n1, y2, y3⟩) | exact ⟨alloc_keep (w := W.drew) n1 _, alloc_keep (w := W.drew) y2 _, alloc_keep (w := W.drew) y3 _⟩) (first
            | (refine step_append_run rfl (.tmp 71) (.tmp 82) 28 rfl (.slice (some ⟨W.heap.size, 0, none⟩) 0 0) (.slice fa mm fc) rfl rfl _ _ (HR3.out _) 83 rfl ?_; simp only [Act.put, List.setIfInBounds_toArray, List.set_cons_zero, List.set_cons_succ]))
          go_wp2_with fail
          go_roundw
          case rel =>
            have hcr : x.crash (ks.getD k 0) = ⟨x.bytes.take mm, mm⟩ := by unfold Fil.crash; rw [hmm]
            have hs3 : W.heap.size ≤ w3.heap.size := B3.out.size
            have hs5 : w3.heap.size < w5.heap.size := Nat.lt_of_lt_of_le (by rw [World.size_alloc]; omega) T5.out.size
            have hszw := HSZW.out
            have t4 : Turns (fun _ => False) W (w3.alloc (.cells #[.slice (some ⟨g3, 0, none⟩) mm c3, .int .i64 (mm : Nat)] 95)) := Turns.of_below B4.out _
            have hbw : w.heap.size < W.heap.size := HDIR2.out.lt
            refine ⟨k + 1, gs ++ [(s, w3.heap.size, x.crash (ks.getD k 0))], by go_num, by omega, ⟨by rw [List.length_append, MM.out.len]; rfl, fun j p hp => ?_, ?_, ?_, ⟨N2 + 1, by omega, by rw [newD_snoc]; exact D5.out⟩, ?_, ?_, ?_⟩⟩
            · rcases Nat.lt_or_ge j gs.length with hj | hj
              · rw [List.getElem?_append_left hj] at hp
                obtain ⟨e1, e2, e3, e4⟩ := MM.out.each j p hp
                exact ⟨e1, e2, by omega, e4⟩
              · rw [List.getElem?_append_right hj] at hp
                have hj0 : j - gs.length = 0 := by
                  rcases Nat.eq_zero_or_pos (j - gs.length) with h | h
                  · exact h
                  · rw [List.getElem?_eq_none (by simp; omega)] at hp; cases hp
                rw [hj0] at hp
                obtain rfl : (s, w3.heap.size, x.crash (ks.getD k 0)) = p := by simpa using hp
                have hjk : j = k := by have := MM.out.len; omega
                subst hjk
                exact ⟨HSK.out, by show w.heap.size < w3.heap.size; omega, by show w3.heap.size < w5.heap.size; omega, g1, x, HG1.out, HX.out, rfl⟩
            · rw [List.map_append]
              refine List.nodup_append.2 ⟨MM.out.nd, by simp, fun a ha b hb e => ?_⟩
              obtain ⟨p, hp, rfl⟩ := List.mem_map.1 ha
              obtain ⟨j, hj, hpj⟩ := List.getElem_of_mem hp
              have h1 := (MM.out.each j p (by rw [List.getElem?_eq_getElem hj, hpj])).2.2.1
              have h2 : b = w3.heap.size := by simpa using hb
              omega
            · rw [newR_snoc]
              refine ⟨_, (RRepAt.fresh2 (A' := Ab A w.heap.size) (v := .slice (some ⟨g3, 0, none⟩) mm c3) (x := x.crash (ks.getD k 0)) HREP2.out hs3 t4 (by rw [hcr]; exact X4.out) ?_ ?_ (fun _ _ h => h) (.inr (by omega)) ?_).keep T5.out ?_⟩
              · rw [hcr]
                refine .inr ⟨g3, c3, mm, rfl, ?_, hc3, RowC.below ROW3.out ((Below.refl _ _).alloc (Nat.le_refl _) _)⟩
                rw [List.length_take, Nat.min_eq_left (by rw [hXL]; exact hcN)]
              · intro k hk
                obtain ⟨_, _, e⟩ := hk
                cases e
                exact hg3
              · intro k hk
                obtain ⟨_, _, e⟩ := hk
                cases e
                exact .inr (by omega)
              · intro k _ hk e
                rcases hk with ⟨_, h⟩ | h <;> omega
            · refine (NAM2.out.keep t4 (fun _ _ x => x)).keep T5.out (fun k hk e => ?_)
              have := ((NAM2.out.keep t4 (fun _ _ x => x)).row hk).1
              omega
            · exact (INT2.out.keep t4 (fun _ _ _ x => x)).keep0 T5.out (fun a o e h0 => by have := HIA.out a o e h0; omega)
            · exact (BEL2.out.trans (B4.out.mono hWw)).trans (T5.out.below (Nat.le_trans hWw B4.out.size) (fun k e => by omega))
          case measure => simp [intOf]; omega
      · obtain rfl : k = NL := by omega
        obtain ⟨fv2, hrep⟩ := MM.out.rep
        obtain ⟨N2, hN2, hdir2⟩ := MM.out.dir
        have hcells := hrep.cells
        have q1 := cell_of_row wr q 1 _ 84 (0, 0) hcells
        have q2 := cell_of_row wr q 2 _ 84 (0, 0) hcells
        have q3 := cell_of_row wr q 3 _ 84 (0, 0) hcells
        have q4 := cell_of_row wr q 4 _ 84 (0, 0) hcells
        have q5 := cell_of_row wr q 5 _ 84 (0, 0) hcells
        have z1 := frozen_of_row wr q 1 _ 84 hcells
        have z2 := frozen_of_row wr q 2 _ 84 hcells
        have z3 := frozen_of_row wr q 3 _ 84 hcells
        have z4 := frozen_of_row wr q 4 _ 84 hcells
        have z5 := frozen_of_row wr q 5 _ 84 hcells
        simp [RDisk.cells, rfCells] at q1 q2 q3 q4 q5
        have HREP := hide hrep
        have HDIR := hide hdir2
        have HCELLS := hide hcells
        clear hrep hdir2 hcells
        go_wp2_with fail
        go_end0
        have t5 := (((((Tick.refl HCELLS.out).set 1 (.map (some w.heap.size))).set 2 (.slice none 0 0)).set 3 (.bool false)).set 4 (.int .i64 (-1))).set 5 (.int .i64 (-1))
        have u5 := Turns.of_tick t5
        have hlen : gs.length = (namesOf D).length := by rw [HNL.out]; exact MM.out.len
        have hnames : gs.map (·.1) = namesOf D := by
          refine List.ext_getElem (by rw [List.length_map]; exact hlen) fun j h1 h2 => ?_
          have hj : j < gs.length := by simpa using h1
          have := (MM.out.each j gs[j] (List.getElem?_eq_getElem hj)).1
          rw [List.getElem?_eq_getElem h2] at this
          rw [List.getElem_map]
          simpa using this.symm
        have hnd1 : (gs.map (·.1)).Nodup := by rw [hnames]; exact NOD.out
        have hold : ∀ g, g < w.heap.size → (newR r gs).files g = r.files g := fun g hg => newR_old r gs g (fun p hp e => by
          obtain ⟨j, hj, hpj⟩ := List.getElem_of_mem hp
          have h1 := (MM.out.each j p (by rw [List.getElem?_eq_getElem hj, hpj])).2.1
          omega)
        refine HSS.out gs _ (by rw [hlen, HNL.out]) (fun j p hp => by
          obtain ⟨e1, e2, _, e4⟩ := MM.out.each j p hp
          exact ⟨e1, e2, e4⟩) MM.out.nd ⟨w.heap.size, .slice none 0 0, fv2, ?_⟩ ?_ _
        · refine ⟨t5.1, (HDIR.out.keep u5 (by omega)).tight, .inl ⟨rfl, rfl⟩, .inl H.out.af, .inr (Nat.le_refl _), fun k hk => ?_, ⟨fun g x hg => ?_, HREP.out.files.apart⟩, ⟨newD_full FULL.out gs, fun s g hs => ?_, fun c hc => by cases hc⟩⟩
          · obtain ⟨_, _, e⟩ := hk
            cases e
          · have hg' : (newR r gs).files g = some x := hg
            exact ((HREP.out.files.each g x hg').mono (A' := Grow A w) fun k _ hk => hk.elim (fun h => .inl h.1) (fun h => .inr (Nat.le_of_lt h))).keep u5 (HREP.out.file hg').1 fun k hk => (HREP.out.row hg' hk).1
          · by_cases hm : ∃ p ∈ gs, s = p.1
            · obtain ⟨p, hp, rfl⟩ := hm
              have h1 := newD_mem MAP.out gs hnd1 p hp
              have h2 : fileOf (newD D gs) p.1 = some g := hs
              rw [h1] at h2
              obtain rfl : p.2.1 = g := by simpa using h2
              exact ⟨p.2.2, newR_mem r gs MM.out.nd p hp⟩
            · have h1 : fileOf (newD D gs) s = some g := hs
              rw [newD_other MAP.out gs s (fun p hp e => hm ⟨p, hp, e⟩)] at h1
              obtain ⟨x, hx⟩ := dir_look H.out (K := K) (by rw [HDD.out]; exact h1)
              exact ⟨x, by show (newR r gs).files g = some x; rw [hold g (H.out.file hx).2.2.2]; exact hx⟩
        · exact (Turns.of_below MM.out.below A).trans (u5.mono fun k _ e => by rw [e]; exact H.out.af)
end Go.Proofs.Ytefjljdgdoklmaa
