import Derived.Test.YtpgligfolecieaaM27
import Derived.Test.YtpgligfolecieaaM20
/-
  The document's Visible.
-/
namespace Go.Proofs.Ytpgligfolecieaa
open Go.RowKit
set_option maxRecDepth 100000
set_option maxHeartbeats 4000000
theorem numCells_length (ks : List Nat) : (numCells ks).length = ks.length := by simp [numCells]
theorem src_of_u64s {w : World} {a : Option Addr} {ks : List Nat} {c : Nat} (h : U64s w a ks) : Src Try.prog Try.t27.size 35 (.slice a ks.length c) ks.length (numCells ks) w := by
  cases a with
  | none =>
    obtain rfl : ks = [] := by
      cases ks with
      | nil => rfl
      | cons x r => obtain ⟨⟨b, off, e, _⟩, _⟩ := h 0 x rfl; cases e
    exact Src.ofNil w Try.underlying35 c
  | some ad =>
    refine Src.ofSlice w Try.underlying35 ad _ c _ (by rw [numCells_length, size27n, Nat.mul_one]) (fun j u hu => ?_) (fun u hu => by
      simp only [numCells, List.mem_map] at hu
      obtain ⟨s, _, rfl⟩ := hu
      rfl)
    simp only [numCells, List.getElem?_map, Option.map_eq_some_iff] at hu
    obtain ⟨s, hs, rfl⟩ := hu
    obtain ⟨⟨b, off, ha, hc⟩, _⟩ := h j s hs
    obtain rfl : ad = ⟨b, off, none⟩ := by simpa using ha
    rw [Go.WideShapes.add_plain]
    exact hc
theorem u64s_row {w : World} {g room : Nat} {ks : List Nat} (h : RowC w g 27 room (numCells ks)) (hs : ∀ s, s ∈ ks → s < 18446744073709551616) : U64s w (some ⟨g, 0, none⟩) ks := fun k s hk => by
  obtain ⟨cs, h1, h2, h3⟩ := h
  have hlt := (List.getElem?_eq_some_iff.1 hk).1
  refine ⟨⟨g, 0, rfl, ?_⟩, hs s (List.mem_of_getElem? hk)⟩
  rw [Nat.zero_add, cell_of_row w g k cs 27 (0, 0) h1, h3 k (by rw [numCells_length]; exact hlt)]
  simp [numCells, hk]
theorem u64s_lt {w : World} {a : Option Addr} {ks : List Nat} (h : U64s w a ks) : ∀ s, s ∈ ks → s < 18446744073709551616 := fun s hs => by
  obtain ⟨k, hk⟩ := List.getElem?_of_mem hs
  exact (h k s hk).2
/-- All who look, in new memory. -/
theorem all_new (w : World) (la : Option Addr) (lc : Nat) (ks : List Nat) (h : U64s w la ks) (hm : ks.length ≤ 1000000) :
    ∃ (g1 c1 : Nat) (w1 : World), (∀ ty, (Builtin.append_ #[35, 35] ty #[.slice (some ⟨w.heap.size, 0, none⟩) 0 0, .slice la ks.length lc]).run Try.prog (w.alloc (.cells #[] 27)) = .ok (.slice (some ⟨g1, 0, none⟩) ks.length c1) w1) ∧ ∃ (g2 c2 : Nat) (w2 : World), (∀ ty, (Builtin.append_ #[35, 35] ty #[.slice (some ⟨g1, 0, none⟩) ks.length c1, .slice (some ⟨w1.heap.size, 0, none⟩) 1 1]).run Try.prog (w1.alloc (.cells #[.int .u64 72057594037927935] 27)) = .ok (.slice (some ⟨g2, 0, none⟩) (ks.length + 1) c2) w2) ∧ RowC w2 g2 27 c2 (numCells (allN ks)) ∧ Turns (fun _ => False) w w2 := by
  have tA := (Turns.refl (fun _ => False) w).alloc (.cells #[] 27)
  obtain ⟨g1, c1, w1, hr1, hg1, hrow1, hb1, hc1, _⟩ := append_gen2 (P := Try.prog) (w.alloc (.cells #[] 27)) w.heap.size 35 27 Try.t27 _ Try.underlying35 info27n zero27n rfl (some ⟨w.heap.size, 0, none⟩) 0 0 [] (by simp) (.slice la ks.length lc) ks.length (numCells ks) (src_of_u64s (h.quiet tA)) (by simp) (.inr ⟨_, rfl, Nat.le_refl _, Nat.le_refl _, #[], heap_alloc_new w _, by simp, fun k hk => by simp at hk⟩) (by rw [bytes27n]; omega) (by omega)
  rw [Nat.zero_add] at hr1 hc1
  rw [List.nil_append] at hrow1
  have t1 : Turns (fun _ => False) w w1 := Turns.of_below (((Below.refl _ w).alloc (Nat.le_refl _) (.cells #[] 27)).trans hb1) _
  have tB := (Turns.refl (fun _ => False) w1).alloc (.cells #[.int .u64 72057594037927935] 27)
  have hsrc : Src Try.prog Try.t27.size 35 (.slice (some ⟨w1.heap.size, 0, none⟩) 1 1) 1 [.int .u64 72057594037927935] (w1.alloc (.cells #[.int .u64 72057594037927935] 27)) := Src.ofSlice _ Try.underlying35 ⟨w1.heap.size, 0, none⟩ 1 1 _ (by rw [size27n]; rfl) (fun j u hu => by
    rw [Go.WideShapes.add_plain, Nat.zero_add, cell_of_row _ w1.heap.size j _ 27 (0, 0) (heap_alloc_new w1 _)]
    simpa using hu) (fun u hu => by
    obtain rfl := List.mem_singleton.1 hu
    rfl)
  obtain ⟨g2, c2, w2, hr2, hg2, hrow2, hb2, hc2, _⟩ := append_gen2 (P := Try.prog) (w1.alloc (.cells #[.int .u64 72057594037927935] 27)) w.heap.size 35 27 Try.t27 _ Try.underlying35 info27n zero27n rfl (some ⟨g1, 0, none⟩) ks.length c1 (numCells ks) (by rw [numCells_length, size27n, Nat.mul_one]) _ 1 _ hsrc (Nat.le_trans t1.size tB.size) (.inr ⟨g1, rfl, hg1, hc1, hrow1.turns tB (fun x => x)⟩) (by rw [bytes27n]; omega) (by omega)
  refine ⟨g1, c1, w1, hr1, g2, c2, w2, hr2, ?_, Turns.of_below (((t1.trans tB).below (Nat.le_refl _) (fun _ x => x.elim)).trans hb2) _⟩
  have e : numCells (allN ks) = numCells ks ++ [.int .u64 72057594037927935] := by simp [numCells, allN, topN]
  rw [e]
  have := hrow2
  rwa [size27n, Nat.mul_one] at this
def parK (all : List Nat) (es : List Ent) (i k : Nat) : Bool := match es[i]? with
  | none => false
  | some x => (all.take k).any fun s => decide (x.seq ≤ s) && !hid1 x s (prevOf es i)
def vrF (all : List Nat) (es : List Ent) (i k j : Nat) : Bool := if j < i then visAt all es j else if j = i then parK all es i k else false
/-- How far the document's Visible has come. -/
structure Vr (w0 w2 W : World) (g n : Nat) (all : List Nat) (es : List Ent) (i k : Nat) : Prop where
  row : ∃ cs, W.heap[g]? = some (.cells cs 4 (0, 0)) ∧ cs.size = n ∧ ∀ j, j < n → cs[j]? = some (Value.bool (vrF all es i k j))
  turn : Turns (fun _ => False) w0 W
  part : Turns (fun q => q = g) w2 W
theorem Vr.quiet {w0 w2 W W' : World} {g n : Nat} {all : List Nat} {es : List Ent} {i k : Nat} (h : Vr w0 w2 W g n all es i k) (t : Turns (fun _ => False) W W') : Vr w0 w2 W' g n all es i k := by
  obtain ⟨⟨cs, h1, h2⟩, h3, h4⟩ := h
  exact ⟨⟨cs, t.heap h1 (fun x => x), h2⟩, h3.trans t, h4.trans (t.mono fun _ _ x => x.elim)⟩
theorem Vr.same {w0 w2 W : World} {g n : Nat} {all : List Nat} {es : List Ent} {i k i' k' : Nat} (h : Vr w0 w2 W g n all es i k) (e : ∀ j, j < n → vrF all es i k j = vrF all es i' k' j) : Vr w0 w2 W g n all es i' k' := by
  obtain ⟨⟨cs, h1, h2, h3⟩, h4, h5⟩ := h
  exact ⟨⟨cs, h1, h2, fun j hj => by rw [h3 j hj, e j hj]⟩, h4, h5⟩
theorem parK_step {all : List Nat} {es : List Ent} {i k s : Nat} {x : Ent} (hx : es[i]? = some x) (hs : all[k]? = some s) : parK all es i (k + 1) = (parK all es i k || (decide (x.seq ≤ s) && !hid1 x s (prevOf es i))) := by
  unfold parK
  rw [hx]
  simp only
  rw [List.take_add_one, hs, List.any_append]
  simp
theorem vrF_skip {all : List Nat} {es : List Ent} {i k s : Nat} {x : Ent} (hx : es[i]? = some x) (hs : all[k]? = some s) (hf : (decide (x.seq ≤ s) && !hid1 x s (prevOf es i)) = false) (j : Nat) : vrF all es i k j = vrF all es i (k + 1) j := by
  unfold vrF
  rw [parK_step hx hs, hf, Bool.or_false]
theorem vrF_next {all : List Nat} {es : List Ent} {i : Nat} {x : Ent} (hx : es[i]? = some x) (j : Nat) : vrF all es i all.length j = vrF all es (i + 1) 0 j := by
  have e : parK all es i all.length = visAt all es i := by
    unfold parK visAt visOf
    rw [hx, List.take_length]
  have z : parK all es (i + 1) 0 = false := by
    unfold parK
    split <;> simp
  unfold vrF
  rw [e, z]
  by_cases h1 : j < i
  · rw [if_pos h1, if_pos (by omega)]
  · by_cases h2 : j = i
    · subst h2
      rw [if_neg (by omega), if_pos rfl, if_pos (by omega)]
    · rw [if_neg h1, if_neg h2, if_neg (by omega)]
      split <;> rfl
theorem Vr.put {w0 w2 W : World} {g n : Nat} {all : List Nat} {es : List Ent} {i k s : Nat} {x : Ent} (h : Vr w0 w2 W g n all es i k) (hg : w0.heap.size ≤ g) (hi : i < n) (hx : es[i]? = some x) (hs : all[k]? = some s) (hf : (decide (x.seq ≤ s) && !hid1 x s (prevOf es i)) = true) : Vr w0 w2 (W.setCell ⟨g, i, none⟩ (.bool true)) g n all es i (k + 1) := by
  obtain ⟨⟨cs, h1, h2, h3⟩, h4, h5⟩ := h
  refine ⟨⟨cs.setIfInBounds i (.bool true), heap_setCell_row _ _ _ _ _ _ h1, by simp [h2], fun j hj => ?_⟩, ?_, ?_⟩
  · by_cases e : i = j
    · subst e
      rw [Array.getElem?_setIfInBounds_self_of_lt (by omega)]
      unfold vrF
      rw [if_neg (by omega), if_pos rfl, parK_step hx hs, hf, Bool.or_true]
    · rw [Array.getElem?_setIfInBounds_ne e, h3 j hj]
      unfold vrF
      by_cases h6 : j < i
      · rw [if_pos h6, if_pos h6]
      · rw [if_neg h6, if_neg h6, if_neg (by omega), if_neg (by omega)]
  · exact ⟨h4.os, h4.tape, h4.output, by rw [World.size_setCell]; exact h4.size, fun q k1 k2 => by
      rw [heap_setCell_other _ _ _ _ (by show q ≠ g; omega)]
      exact h4.block q k1 k2⟩
  · exact ⟨h5.os, h5.tape, h5.output, by rw [World.size_setCell]; exact h5.size, fun q k1 k2 => by
      rw [heap_setCell_other _ _ _ _ (by exact k2)]
      exact h5.block q k1 k2⟩
theorem rVisible_any (a la : Option Addr) (n c ln lc : Nat) (l : List Tow) (ks : List Nat) (w : World) (h : Ents w a l) (hn : n = l.length) (hmx : n ≤ 1000000) (hkb : ∀ x, x ∈ l → x.e.key.length ≤ 1000000) (hk : U64s w la ks) (hkn : ln = ks.length) (hkm : ln ≤ 100000) :
    Calls Try.prog 18 #[.slice a n c, .slice la ln lc] w fun e w' => SeenOk w' n (inOrd (ents l) && looksOk ks) (vis (allN ks) (ents l)) e ∧ Turns (fun _ => False) w w' := by
  have CK := hide (rCheck_any a n c l w h hn hmx hkb)
  have H := hide h
  have HN := hide hn
  have HK := hide hk
  have HKN := hide hkn
  have HKB := hide hkb
  obtain ⟨o1, ho1⟩ : ∃ o, inOrd (ents l) = o := ⟨_, rfl⟩
  rw [ho1] at CK ⊢
  clear h hn hk hkn ho1 hkb
  go_enter Try.func18, Try.ntmps18
  go_wp2_with fail
  refine CK.out.mono ?_
  rintro e w1 ⟨rfl, hb⟩
  have T1 := hide (Turns.of_below hb (fun _ => False))
  clear hb CK
  cases o1
  · rw [show ordE false = 2 from rfl]
    go_wp2_with fail
    go_ret2
    exact ⟨.inl ⟨rfl, rfl⟩, T1.out⟩
  rw [show ordE true = 0 from rfl]
  go_wp2_with fail
  go_loopw [6] (fun iv wr => ∃ i : Nat, iv = .int .i64 (i : Nat) ∧ i ≤ ln ∧ (∀ j, j < i → lkAt ks j = true) ∧ Turns (fun _ => False) w wr) (fun iv _ => ln - (intOf iv).toNat)
  case atStart => exact ⟨0, rfl, Nat.zero_le _, fun j hj => by omega, T1.out⟩
  case round =>
    obtain ⟨i, rfl, hi, h1, hb⟩ := hrel
    have H1 := hide h1
    have HB := hide hb
    clear h1 hb
    by_cases hin : i < ln
    · obtain ⟨s, hks⟩ : ∃ s, ks[i]? = some s := ⟨_, List.getElem?_eq_getElem (by have := HKN.out; omega)⟩
      obtain ⟨⟨b, off, rfl, hc⟩, hsb⟩ := (HK.out.quiet HB.out) i s hks
      have i2 : (i : Int) < ln := by omega
      have i0 : (0 : Int) ≤ i := by omega
      have hlk : lkAt ks i = (decide (s ≤ topN) && (decide (i = 0) || decide (ks.getD (i - 1) 0 < s))) := by unfold lkAt; rw [getD_at hks]
      have HLK := hide hlk
      clear hks hlk
      have hbad : lkAt ks i = false → looksOk ks = false := fun e => by
        rw [Bool.eq_false_iff]
        intro hh
        have h3 := looksOk_iff.1 hh i (by have := HKN.out; omega)
        rw [e] at h3
        cases h3
      have HBAD := hide hbad
      clear hbad
      by_cases hbig : 72057594037927935 < s
      · have i3 : (72057594037927935 : Int) < s := by omega
        have d3 : decide ((72057594037927935 : Int) < (s : Int)) = true := decide_eq_true i3
        have d4 : decide (72057594037927935 < s) = true := decide_eq_true hbig
        have hf : looksOk ks = false := HBAD.out (by
          rw [HLK.out]
          have : ¬ s ≤ topN := by show ¬ s ≤ 72057594037927935; omega
          simp [this])
        have HF := hide hf
        clear hf
        go_wp2_with fail
        go_quiet (fail)
        go_wp2_with fail
        go_ret2
        exact ⟨.inl ⟨by rw [HF.out]; rfl, rfl⟩, HB.out.trans ((Turns.refl _ _).drewN _)⟩
      · have i3 : ¬ (72057594037927935 : Int) < s := by omega
        have d3 : decide ((72057594037927935 : Int) < (s : Int)) = false := decide_eq_false i3
        have d4 : decide (72057594037927935 < s) = false := decide_eq_false hbig
        rcases i with _ | i
        · have hc0 : wr.cell? ⟨b, off, none⟩ = some (.int .u64 (s : Nat)) := by simpa using hc
          go_wp2_with fail
          go_quiet (fail)
          go_wp2_with fail
          go_roundw
          case rel => exact ⟨1, by go_num, by omega, fun j hj => by
            obtain rfl : j = 0 := by omega
            rw [HLK.out]
            have h4 : s ≤ 72057594037927935 := by omega
            have h5 : s ≤ topN := h4
            simp [h5], HB.out.trans ((Turns.refl _ _).drewN _)⟩
          case measure => (simp [intOf]; try omega)
        · obtain ⟨p, hkp⟩ : ∃ p, ks[i]? = some p := ⟨_, List.getElem?_eq_getElem (by have := HKN.out; omega)⟩
          obtain ⟨⟨b', off', e', hc'⟩, hpb⟩ := (HK.out.quiet HB.out) i p hkp
          cases e'
          have HLK2 := hide (show lkAt ks (i + 1) = (decide (s ≤ topN) && decide (p < s)) by
            rw [HLK.out]
            simp only [Nat.add_sub_cancel]
            rw [getD_at hkp]
            simp)
          clear hkp HLK
          have i4 : (0 : Int) < (i : Int) + 1 := by omega
          have i5 : (i : Int) < ln := by omega
          have d5 : decide ((0 : Int) < (i : Int) + 1) = true := decide_eq_true i4
          by_cases hsp : s ≤ p
          · have i6 : (s : Int) ≤ p := by omega
            have d6 : decide ((s : Int) ≤ (p : Int)) = true := decide_eq_true i6
            have d7 : decide (s ≤ p) = true := decide_eq_true hsp
            have hf : looksOk ks = false := HBAD.out (by
              rw [HLK2.out]
              have : ¬ p < s := by omega
              simp [this])
            have HF := hide hf
            clear hf
            go_wp2_with fail
            go_quiet (fail)
            go_wp2_with fail
            go_ret2
            exact ⟨.inl ⟨by rw [HF.out]; rfl, rfl⟩, HB.out.trans ((Turns.refl _ _).drewN _)⟩
          · have i6 : ¬ (s : Int) ≤ p := by omega
            have d6 : decide ((s : Int) ≤ (p : Int)) = false := decide_eq_false i6
            have d7 : decide (s ≤ p) = false := decide_eq_false hsp
            go_wp2_with fail
            go_quiet (fail)
            go_wp2_with fail
            go_roundw
            case rel => exact ⟨i + 2, by go_num, by omega, fun j hj => by
              rcases Nat.lt_or_ge j (i + 1) with hj2 | hj2
              · exact H1.out j hj2
              · obtain rfl : j = i + 1 := by omega
                rw [HLK2.out]
                have h4 : s ≤ 72057594037927935 := by omega
                have h5 : s ≤ topN := h4
                have h6 : p < s := by omega
                simp [h5, h6], HB.out.trans ((Turns.refl _ _).drewN _)⟩
            case measure => (simp [intOf]; try omega)
    · obtain rfl : ln = i := by omega
      have HOK := hide (show looksOk ks = true from looksOk_iff.2 fun j hj => H1.out j (by have := HKN.out; omega))
      have i2 : ¬ (ln : Int) < ln := by omega
      obtain ⟨g1, c1, wA, hr1, g2, c2, wB, hr2, hrow, tB⟩ := all_new wr la lc ks (HK.out.quiet HB.out) (by have := HKN.out; omega)
      rw [← HKN.out] at hr1 hr2
      have HR1 := hide hr1
      have HR2 := hide hr2
      have T2 := hide (HB.out.trans tB)
      have HAL := hide hrow
      have HLT := hide (u64s_lt HK.out)
      have HML := hide (show (allN ks).length = ln + 1 by unfold allN; rw [List.length_append, ← HKN.out]; rfl)
      have HT72 := hide (show ∀ s, s ∈ allN ks → s < 18446744073709551616 from fun s hs => by
        unfold allN at hs
        rcases List.mem_append.1 hs with hs | hs
        · exact HLT.out s hs
        · rw [List.mem_singleton.1 hs]; decide)
      clear hr1 hr2 hrow tB HLT
      have HUA := hide (u64s_row HAL.out HT72.out)
      obtain ⟨ac, hac, _⟩ := HAL.out
      have HAC := hide hac
      clear hac HAL HT72
      have hmk := make32 n (by omega) wB
      go_wp2_with (first | (at_builtin; refine wpList_append_run rfl _ _ 35 rfl (.slice (some ⟨wr.heap.size, 0, none⟩) 0 0) (.slice la ln lc) rfl rfl _ _ (HR1.out _) ?_) | (at_builtin; refine wpList_append_run rfl _ _ 35 rfl (.slice (some ⟨g1, 0, none⟩) ln c1) (.slice (some ⟨wA.heap.size, 0, none⟩) 1 1) rfl rfl _ _ (HR2.out _) ?_))
      obtain ⟨g, hg⟩ : ∃ g, g = wB.heap.size := ⟨_, rfl⟩
      have tC : Turns (fun _ => False) wB (wB.alloc (.cells (Array.replicate n (Value.bool false)) 4)) := (Turns.refl _ _).alloc _
      have V0 := hide (show Vr w (wB.alloc (.cells (Array.replicate n (Value.bool false)) 4)) (wB.alloc (.cells (Array.replicate n (Value.bool false)) 4)) g n (allN ks) (ents l) 0 0 from ⟨⟨_, by rw [hg]; exact heap_alloc_new wB _, by simp, fun j hj => by
        have e : vrF (allN ks) (ents l) 0 0 j = false := by
          unfold vrF parK
          rw [if_neg (by omega)]
          split
          · split <;> simp
          · rfl
        rw [e]
        simp [hj]⟩, T2.out.trans tC, Turns.refl _ _⟩)
      have HG := hide (show w.heap.size ≤ g by rw [hg]; exact T2.out.size)
      have HGA := hide (show g2 ≠ g by rw [hg]; have := lt_of_heap HAC.out; omega)
      have HUC := hide (HUA.out.quiet tC)
      rw [← hg]
      clear hg hmk tC HR1 HR2 HUA
      generalize wB.alloc (.cells (Array.replicate n (Value.bool false)) 4) = w0 at *
      generalize hall : allN ks = all at *
      have HALL := hide hall
      clear hall
      go_loopw [9] (fun iv wr => ∃ i : Nat, iv = .int .i64 (i : Nat) ∧ i ≤ n ∧ Vr w w0 wr g n all (ents l) i 0) (fun iv _ => n - (intOf iv).toNat)
      case atStart => exact ⟨0, rfl, Nat.zero_le _, V0.out⟩
      case round =>
        obtain ⟨i, rfl, hi, hv⟩ := hrel
        have HV := hide hv
        clear hv V0
        by_cases hin : i < n
        · obtain ⟨x, hx⟩ : ∃ x, l[i]? = some x := ⟨_, List.getElem?_eq_getElem (by have := HN.out; omega)⟩
          have HX := hide hx
          have i3 : (i : Int) < n := by omega
          have i4 : (0 : Int) ≤ i := by omega
          clear hx
          have HPO := hide (show ∀ s, all[0]? = some s ∨ True from fun _ => .inr trivial)
          clear HPO
          go_wp2_with fail
          go_loopw [10] (fun kv wr => ∃ k : Nat, kv = .int .i64 (k : Nat) ∧ k ≤ ln + 1 ∧ Vr w w0 wr g n all (ents l) i k) (fun kv _ => ln + 1 - (intOf kv).toNat)
          case atStart => exact ⟨0, rfl, Nat.zero_le _, HV.out⟩
          case round =>
            obtain ⟨k, rfl, hk, hv⟩ := hrel
            have HVI := hide hv
            clear hv
            by_cases hkn : k < ln + 1
            · obtain ⟨s, hs⟩ : ∃ s, all[k]? = some s := ⟨_, List.getElem?_eq_getElem (by have := HML.out; omega)⟩
              have HUW := hide (HUC.out.keep HVI.out.part (fun a e => by cases e; exact HGA.out))
              obtain ⟨⟨b9, off9, e9, hsc⟩, _⟩ := HUW.out k s hs
              cases e9
              rw [Nat.zero_add] at hsc
              have HW := hide (H.out.quiet HVI.out.turn)
              obtain ⟨b, off, rfl, hc, hkx, _⟩ := ents_at2 HW.out HX.out
              have HC := hide hc
              have HBX := hide hkx
              have HS := hide hs
              have HSC := hide hsc
              have i5 : (k : Int) < (ln : Int) + 1 := by omega
              have i6 : (0 : Int) ≤ k := by omega
              clear hs hc hkx hsc
              go_upto_region 16 with (fail)
              go_cut [11] from 56 to 105 (fun v11 wc => ∃ nb : Bool, v11 = .bool nb ∧ Turns (fun _ => False) wr wc ∧ nb = hid1 x.e s (prevOf (ents l) i))
              case first =>
                rename_i kk rest jj kk' m1 m2
                clear rest
                rcases i with _ | i
                · have d1 : decide ((0 : Int) < 0) = false := by decide
                  go_quiet (fail)
                  go_wp2_with fail
                  go_meet
                  exact ⟨false, rfl, (Turns.refl _ _).drewN _, rfl⟩
                · obtain ⟨p, hp⟩ : ∃ p, l[i]? = some p := ⟨_, List.getElem?_eq_getElem (by have := HN.out; omega)⟩
                  obtain ⟨b', off', e', hcp, hkp, hvp⟩ := ents_at2 HW.out hp
                  cases e'
                  have SC := hide (fun (u : World) (t : Turns (fun _ => False) wr u) => rsame41 p x u (hkp.quiet t) (HBX.out.quiet t) (HKB.out p (List.mem_of_getElem? hp)) (HKB.out x (List.mem_of_getElem? HX.out)))
                  have HCP := hide hcp
                  have HPV := hide (prev_some hp)
                  have j1 : (i : Int) < n := by omega
                  have j2 : (i : Int) + 1 < n := by omega
                  have j3 : (0 : Int) ≤ (i : Int) + 1 := by omega
                  have j0 : (0 : Int) ≤ (i : Int) := by omega
                  clear hp hcp hkp hvp
                  obtain ⟨ka, kc, va, vc, ⟨key, sq, kd, val⟩⟩ := x
                  obtain ⟨ka2, kc2, va2, vc2, ⟨key2, sq2, kd2, val2⟩⟩ := p
                  unfold Tow.ent Tow.kv Tow.vv at *
                  simp only at *
                  obtain ⟨sk, hsk⟩ : ∃ sk : Bool, decide (key2 = key) = sk := ⟨_, rfl⟩
                  rw [hsk] at SC
                  have HSK := hide hsk
                  clear hsk
                  generalize key.length = L1 at *
                  generalize key2.length = L3 at *
                  generalize val.length = L2 at *
                  generalize val2.length = L4 at *
                  have tV : Turns (fun _ => False) wr wr.drew := (Turns.refl _ _).drew
                  have SK := hide (fun (u : World) (t : Turns (fun _ => False) wr u) => show (u.cell? ⟨b, off + (i + 1) * 4, none⟩ = some (.slice ka L1 kc) ∧ u.cell? ⟨b, off + (i + 1) * 4 + 1, none⟩ = some (.int .u64 (sq : Nat)) ∧ u.cell? ⟨b, off + (i + 1) * 4 + 2, none⟩ = some (.int .i64 kd) ∧ u.cell? ⟨b, off + (i + 1) * 4 + 3, none⟩ = some (.slice va L2 vc)) ∧ (u.cell? ⟨b, off + i * 4, none⟩ = some (.slice ka2 L3 kc2) ∧ u.cell? ⟨b, off + i * 4 + 1, none⟩ = some (.int .u64 (sq2 : Nat)) ∧ u.cell? ⟨b, off + i * 4 + 2, none⟩ = some (.int .i64 kd2) ∧ u.cell? ⟨b, off + i * 4 + 3, none⟩ = some (.slice va2 L4 vc2)) ∧ u.cell? ⟨g2, k, none⟩ = some (.int .u64 (s : Nat)) from ⟨⟨t.cell HC.out.1 (fun x => x), t.cell HC.out.2.1 (fun x => x), t.cell HC.out.2.2.1 (fun x => x), t.cell HC.out.2.2.2 (fun x => x)⟩, ⟨t.cell HCP.out.1 (fun x => x), t.cell HCP.out.2.1 (fun x => x), t.cell HCP.out.2.2.1 (fun x => x), t.cell HCP.out.2.2.2 (fun x => x)⟩, t.cell HSC.out (fun x => x)⟩)
                  cases sk
                  · refine wp_region_held_drew (S := fun u => (u.cell? ⟨b, off + (i + 1) * 4, none⟩ = some (.slice ka L1 kc) ∧ u.cell? ⟨b, off + (i + 1) * 4 + 1, none⟩ = some (.int .u64 (sq : Nat)) ∧ u.cell? ⟨b, off + (i + 1) * 4 + 2, none⟩ = some (.int .i64 kd) ∧ u.cell? ⟨b, off + (i + 1) * 4 + 3, none⟩ = some (.slice va L2 vc)) ∧ (u.cell? ⟨b, off + i * 4, none⟩ = some (.slice ka2 L3 kc2) ∧ u.cell? ⟨b, off + i * 4 + 1, none⟩ = some (.int .u64 (sq2 : Nat)) ∧ u.cell? ⟨b, off + i * 4 + 2, none⟩ = some (.int .i64 kd2) ∧ u.cell? ⟨b, off + i * 4 + 3, none⟩ = some (.slice va2 L4 vc2)) ∧ u.cell? ⟨g2, k, none⟩ = some (.int .u64 (s : Nat))) (by kernel_rfl) (SK.out _ tV) (fun _ => ?_)
                    change wpAnyH _ _ _ _ _ 28 (Array.replicate 28 false) _ _
                    refine wpAnyH_take (i := 0) (oi := { dst := some 62, op := Op.move (Operand.tmp 9), type := 3, pos := "ref.go:30", after := #[], guard := none }) (v := .int .i64 ((i : Int) + 1)) rfl (by kernel_rfl) (by kernel_rfl) (by kernel_rfl) (fun _ _ _ h => h) (Or.inl ⟨by rfl, ?_⟩) (SK.out _ tV) ?_
                    · rintro w ⟨⟨s0, s1, s2, s3⟩, ⟨s4, s5, s6, s7⟩, s8⟩
                      go_simp
                    simp only [Act.put, List.setIfInBounds_toArray, List.set_cons_zero, List.set_cons_succ]
                    refine wpAnyH_take (i := 1) (oi := { dst := some 63, op := Op.binOp BinOp.gtr 3 (Operand.tmp 62) (Operand.const (Value.int IntKind.i64 0)) 3, type := 4, pos := "ref.go:30", after := #[{ on := 0, ground := Ground.data }], guard := none }) (v := .bool true) rfl (by kernel_rfl) (by kernel_rfl) (by kernel_rfl) (fun _ _ _ h => h) (Or.inl ⟨by rfl, ?_⟩) (SK.out _ tV) ?_
                    · rintro w ⟨⟨s0, s1, s2, s3⟩, ⟨s4, s5, s6, s7⟩, s8⟩
                      go_simp
                    simp only [Act.put, List.setIfInBounds_toArray, List.set_cons_zero, List.set_cons_succ]
                    refine wpAnyH_take (i := 2) (oi := { dst := some 64, op := Op.move (Operand.tmp 63), type := 4, pos := "ref.go:30", after := #[{ on := 1, ground := Ground.data }], guard := none }) (v := .bool true) rfl (by kernel_rfl) (by kernel_rfl) (by kernel_rfl) (fun _ _ _ h => h) (Or.inl ⟨by rfl, ?_⟩) (SK.out _ tV) ?_
                    · rintro w ⟨⟨s0, s1, s2, s3⟩, ⟨s4, s5, s6, s7⟩, s8⟩
                      go_simp
                    simp only [Act.put, List.setIfInBounds_toArray, List.set_cons_zero, List.set_cons_succ]
                    refine wpAnyH_take (i := 3) (oi := { dst := some 65, op := Op.move (Operand.tmp 0), type := 31, pos := "ref.go:30", after := #[{ on := 2, ground := Ground.guard }], guard := some (2, true) }) (v := .slice (some ⟨b, off, none⟩) n c) rfl (by kernel_rfl) (by kernel_rfl) (by kernel_rfl) (fun _ _ _ h => h) (Or.inl ⟨by rfl, ?_⟩) (SK.out _ tV) ?_
                    · rintro w ⟨⟨s0, s1, s2, s3⟩, ⟨s4, s5, s6, s7⟩, s8⟩
                      go_simp
                    simp only [Act.put, List.setIfInBounds_toArray, List.set_cons_zero, List.set_cons_succ]
                    refine wpAnyH_take (i := 4) (oi := { dst := some 66, op := Op.move (Operand.tmp 9), type := 3, pos := "ref.go:30", after := #[{ on := 2, ground := Ground.guard }], guard := some (2, true) }) (v := .int .i64 ((i : Int) + 1)) rfl (by kernel_rfl) (by kernel_rfl) (by kernel_rfl) (fun _ _ _ h => h) (Or.inl ⟨by rfl, ?_⟩) (SK.out _ tV) ?_
                    · rintro w ⟨⟨s0, s1, s2, s3⟩, ⟨s4, s5, s6, s7⟩, s8⟩
                      go_simp
                    simp only [Act.put, List.setIfInBounds_toArray, List.set_cons_zero, List.set_cons_succ]
                    refine wpAnyH_take (i := 5) (oi := { dst := some 67, op := Op.binOp BinOp.sub 3 (Operand.tmp 66) (Operand.const (Value.int IntKind.i64 1)) 3, type := 3, pos := "ref.go:30", after := #[{ on := 4, ground := Ground.data }, { on := 2, ground := Ground.guard }], guard := some (2, true) }) (v := .int .i64 (i : Nat)) rfl (by kernel_rfl) (by kernel_rfl) (by kernel_rfl) (fun _ _ _ h => h) (Or.inl ⟨by rfl, ?_⟩) (SK.out _ tV) ?_
                    · rintro w ⟨⟨s0, s1, s2, s3⟩, ⟨s4, s5, s6, s7⟩, s8⟩
                      go_simp; rw [wrapI _ (by omega) (by omega)]
                    simp only [Act.put, List.setIfInBounds_toArray, List.set_cons_zero, List.set_cons_succ]
                    refine wpAnyH_take (i := 6) (oi := { dst := some 68, op := Op.indexAddr 31 (Operand.tmp 65) (Operand.tmp 67), type := 0, pos := "ref.go:30", after := #[{ on := 3, ground := Ground.data }, { on := 5, ground := Ground.data }, { on := 2, ground := Ground.guard }], guard := some (2, true) }) (v := .pointer (some ⟨b, off + i * 4, none⟩)) rfl (by kernel_rfl) (by kernel_rfl) (by kernel_rfl) (fun _ _ _ h => h) (Or.inl ⟨by rfl, ?_⟩) (SK.out _ tV) ?_
                    · rintro w ⟨⟨s0, s1, s2, s3⟩, ⟨s4, s5, s6, s7⟩, s8⟩
                      go_simp
                    simp only [Act.put, List.setIfInBounds_toArray, List.set_cons_zero, List.set_cons_succ]
                    refine wpAnyH_take (i := 7) (oi := { dst := some 69, op := Op.load 29 (Operand.tmp 68), type := 29, pos := "ref.go:30", after := #[{ on := 6, ground := Ground.data }, { on := 2, ground := Ground.guard }], guard := some (2, true) }) (v := .agg #[.slice ka2 L3 kc2, .int .u64 (sq2 : Nat), .int .i64 kd2, .slice va2 L4 vc2]) rfl (by kernel_rfl) (by kernel_rfl) (by kernel_rfl) (fun _ _ _ h => h) (Or.inl ⟨by rfl, ?_⟩) (SK.out _ tV) ?_
                    · rintro w ⟨⟨s0, s1, s2, s3⟩, ⟨s4, s5, s6, s7⟩, s8⟩
                      go_simp
                    simp only [Act.put, List.setIfInBounds_toArray, List.set_cons_zero, List.set_cons_succ]
                    refine wpAnyH_take (i := 8) (oi := { dst := some 70, op := Op.move (Operand.tmp 0), type := 31, pos := "ref.go:30", after := #[{ on := 2, ground := Ground.guard }], guard := some (2, true) }) (v := .slice (some ⟨b, off, none⟩) n c) rfl (by kernel_rfl) (by kernel_rfl) (by kernel_rfl) (fun _ _ _ h => h) (Or.inl ⟨by rfl, ?_⟩) (SK.out _ tV) ?_
                    · rintro w ⟨⟨s0, s1, s2, s3⟩, ⟨s4, s5, s6, s7⟩, s8⟩
                      go_simp
                    simp only [Act.put, List.setIfInBounds_toArray, List.set_cons_zero, List.set_cons_succ]
                    refine wpAnyH_take (i := 9) (oi := { dst := some 71, op := Op.move (Operand.tmp 9), type := 3, pos := "ref.go:30", after := #[{ on := 2, ground := Ground.guard }], guard := some (2, true) }) (v := .int .i64 ((i : Int) + 1)) rfl (by kernel_rfl) (by kernel_rfl) (by kernel_rfl) (fun _ _ _ h => h) (Or.inl ⟨by rfl, ?_⟩) (SK.out _ tV) ?_
                    · rintro w ⟨⟨s0, s1, s2, s3⟩, ⟨s4, s5, s6, s7⟩, s8⟩
                      go_simp
                    simp only [Act.put, List.setIfInBounds_toArray, List.set_cons_zero, List.set_cons_succ]
                    refine wpAnyH_take (i := 10) (oi := { dst := some 72, op := Op.indexAddr 31 (Operand.tmp 70) (Operand.tmp 71), type := 0, pos := "ref.go:30", after := #[{ on := 8, ground := Ground.data }, { on := 9, ground := Ground.data }, { on := 2, ground := Ground.guard }], guard := some (2, true) }) (v := .pointer (some ⟨b, off + (i + 1) * 4, none⟩)) rfl (by kernel_rfl) (by kernel_rfl) (by kernel_rfl) (fun _ _ _ h => h) (Or.inl ⟨by rfl, ?_⟩) (SK.out _ tV) ?_
                    · rintro w ⟨⟨s0, s1, s2, s3⟩, ⟨s4, s5, s6, s7⟩, s8⟩
                      go_simp
                    simp only [Act.put, List.setIfInBounds_toArray, List.set_cons_zero, List.set_cons_succ]
                    refine wpAnyH_take (i := 11) (oi := { dst := some 73, op := Op.load 29 (Operand.tmp 72), type := 29, pos := "ref.go:30", after := #[{ on := 10, ground := Ground.data }, { on := 2, ground := Ground.guard }], guard := some (2, true) }) (v := .agg #[.slice ka L1 kc, .int .u64 (sq : Nat), .int .i64 kd, .slice va L2 vc]) rfl (by kernel_rfl) (by kernel_rfl) (by kernel_rfl) (fun _ _ _ h => h) (Or.inl ⟨by rfl, ?_⟩) (SK.out _ tV) ?_
                    · rintro w ⟨⟨s0, s1, s2, s3⟩, ⟨s4, s5, s6, s7⟩, s8⟩
                      go_simp
                    simp only [Act.put, List.setIfInBounds_toArray, List.set_cons_zero, List.set_cons_succ]
                    refine wpAnyH_ready (rs := [12]) (by kernel_rfl) (by simp) ?_
                    refine AllReadyH.cons rfl (fun K hK => ?_) AllReadyH.nil
                    go_simp
                    refine (SC.out _ tV).mono ?_
                    rintro oo Vn ⟨rfl, tC⟩
                    have tN := tC
                    have tV := tV.trans tN
                    clear tC
                    clear tN
                    go_simp
                    refine hK.out _ _ (SK.out _ tV) (fun _ => ?_)
                    clear hK K
                    refine wpAnyH_take (i := 13) (oi := { dst := some 75, op := Op.pick (Operand.tmp 64) (Operand.tmp 74) (Operand.const (Value.bool false)), type := 4, pos := "ref.go:30", after := #[{ on := 2, ground := Ground.data }, { on := 12, ground := Ground.data }], guard := none }) (v := .bool false) rfl (by kernel_rfl) (by kernel_rfl) (by kernel_rfl) (fun _ _ _ h => h) (Or.inl ⟨by rfl, ?_⟩) (SK.out _ tV) ?_
                    · rintro w ⟨⟨s0, s1, s2, s3⟩, ⟨s4, s5, s6, s7⟩, s8⟩
                      go_simp
                    simp only [Act.put, List.setIfInBounds_toArray, List.set_cons_zero, List.set_cons_succ]
                    refine wpAnyH_take (i := 14) (oi := { dst := some 76, op := Op.move (Operand.tmp 75), type := 4, pos := "ref.go:30", after := #[{ on := 13, ground := Ground.data }, { on := 12, ground := Ground.chain }], guard := none }) (v := .bool false) rfl (by kernel_rfl) (by kernel_rfl) (by kernel_rfl) (fun _ _ _ h => h) (Or.inl ⟨by rfl, ?_⟩) (SK.out _ tV) ?_
                    · rintro w ⟨⟨s0, s1, s2, s3⟩, ⟨s4, s5, s6, s7⟩, s8⟩
                      go_simp
                    simp only [Act.put, List.setIfInBounds_toArray, List.set_cons_zero, List.set_cons_succ]
                    refine wpAnyH_take (i := 15) (oi := { dst := some 77, op := Op.move (Operand.tmp 0), type := 31, pos := "ref.go:30", after := #[{ on := 14, ground := Ground.guard }], guard := some (14, true) }) (v := undef) rfl (by kernel_rfl) (by kernel_rfl) (by kernel_rfl) (fun _ _ _ h => h) (Or.inr ⟨by rfl, rfl⟩) (SK.out _ tV) ?_
                    simp only [Act.put, List.setIfInBounds_toArray, List.set_cons_zero, List.set_cons_succ]
                    refine wpAnyH_take (i := 16) (oi := { dst := some 78, op := Op.move (Operand.tmp 9), type := 3, pos := "ref.go:30", after := #[{ on := 14, ground := Ground.guard }], guard := some (14, true) }) (v := undef) rfl (by kernel_rfl) (by kernel_rfl) (by kernel_rfl) (fun _ _ _ h => h) (Or.inr ⟨by rfl, rfl⟩) (SK.out _ tV) ?_
                    simp only [Act.put, List.setIfInBounds_toArray, List.set_cons_zero, List.set_cons_succ]
                    refine wpAnyH_take (i := 17) (oi := { dst := some 79, op := Op.binOp BinOp.sub 3 (Operand.tmp 78) (Operand.const (Value.int IntKind.i64 1)) 3, type := 3, pos := "ref.go:30", after := #[{ on := 16, ground := Ground.data }, { on := 14, ground := Ground.guard }], guard := some (14, true) }) (v := undef) rfl (by kernel_rfl) (by kernel_rfl) (by kernel_rfl) (fun _ _ _ h => h) (Or.inr ⟨by rfl, rfl⟩) (SK.out _ tV) ?_
                    simp only [Act.put, List.setIfInBounds_toArray, List.set_cons_zero, List.set_cons_succ]
                    refine wpAnyH_take (i := 18) (oi := { dst := some 80, op := Op.indexAddr 31 (Operand.tmp 77) (Operand.tmp 79), type := 0, pos := "ref.go:30", after := #[{ on := 15, ground := Ground.data }, { on := 17, ground := Ground.data }, { on := 14, ground := Ground.guard }], guard := some (14, true) }) (v := undef) rfl (by kernel_rfl) (by kernel_rfl) (by kernel_rfl) (fun _ _ _ h => h) (Or.inr ⟨by rfl, rfl⟩) (SK.out _ tV) ?_
                    simp only [Act.put, List.setIfInBounds_toArray, List.set_cons_zero, List.set_cons_succ]
                    refine wpAnyH_take (i := 19) (oi := { dst := some 81, op := Op.fieldAddr 29 (Operand.tmp 80) 1, type := 0, pos := "ref.go:30", after := #[{ on := 18, ground := Ground.data }, { on := 14, ground := Ground.guard }], guard := some (14, true) }) (v := undef) rfl (by kernel_rfl) (by kernel_rfl) (by kernel_rfl) (fun _ _ _ h => h) (Or.inr ⟨by rfl, rfl⟩) (SK.out _ tV) ?_
                    simp only [Act.put, List.setIfInBounds_toArray, List.set_cons_zero, List.set_cons_succ]
                    refine wpAnyH_take (i := 20) (oi := { dst := some 82, op := Op.load 27 (Operand.tmp 81), type := 27, pos := "ref.go:30", after := #[{ on := 19, ground := Ground.data }, { on := 14, ground := Ground.guard }], guard := some (14, true) }) (v := undef) rfl (by kernel_rfl) (by kernel_rfl) (by kernel_rfl) (fun _ _ _ h => h) (Or.inr ⟨by rfl, rfl⟩) (SK.out _ tV) ?_
                    simp only [Act.put, List.setIfInBounds_toArray, List.set_cons_zero, List.set_cons_succ]
                    refine wpAnyH_take (i := 21) (oi := { dst := some 83, op := Op.move (Operand.tmp 7), type := 35, pos := "ref.go:30", after := #[{ on := 14, ground := Ground.guard }], guard := some (14, true) }) (v := undef) rfl (by kernel_rfl) (by kernel_rfl) (by kernel_rfl) (fun _ _ _ h => h) (Or.inr ⟨by rfl, rfl⟩) (SK.out _ tV) ?_
                    simp only [Act.put, List.setIfInBounds_toArray, List.set_cons_zero, List.set_cons_succ]
                    refine wpAnyH_take (i := 22) (oi := { dst := some 84, op := Op.move (Operand.tmp 10), type := 3, pos := "ref.go:30", after := #[{ on := 14, ground := Ground.guard }], guard := some (14, true) }) (v := undef) rfl (by kernel_rfl) (by kernel_rfl) (by kernel_rfl) (fun _ _ _ h => h) (Or.inr ⟨by rfl, rfl⟩) (SK.out _ tV) ?_
                    simp only [Act.put, List.setIfInBounds_toArray, List.set_cons_zero, List.set_cons_succ]
                    refine wpAnyH_take (i := 23) (oi := { dst := some 85, op := Op.indexAddr 35 (Operand.tmp 83) (Operand.tmp 84), type := 0, pos := "ref.go:30", after := #[{ on := 21, ground := Ground.data }, { on := 22, ground := Ground.data }, { on := 14, ground := Ground.guard }], guard := some (14, true) }) (v := undef) rfl (by kernel_rfl) (by kernel_rfl) (by kernel_rfl) (fun _ _ _ h => h) (Or.inr ⟨by rfl, rfl⟩) (SK.out _ tV) ?_
                    simp only [Act.put, List.setIfInBounds_toArray, List.set_cons_zero, List.set_cons_succ]
                    refine wpAnyH_take (i := 24) (oi := { dst := some 86, op := Op.load 27 (Operand.tmp 85), type := 27, pos := "ref.go:30", after := #[{ on := 23, ground := Ground.data }, { on := 14, ground := Ground.guard }], guard := some (14, true) }) (v := undef) rfl (by kernel_rfl) (by kernel_rfl) (by kernel_rfl) (fun _ _ _ h => h) (Or.inr ⟨by rfl, rfl⟩) (SK.out _ tV) ?_
                    simp only [Act.put, List.setIfInBounds_toArray, List.set_cons_zero, List.set_cons_succ]
                    refine wpAnyH_take (i := 25) (oi := { dst := some 87, op := Op.binOp BinOp.leq 27 (Operand.tmp 82) (Operand.tmp 86) 27, type := 4, pos := "ref.go:30", after := #[{ on := 20, ground := Ground.data }, { on := 24, ground := Ground.data }, { on := 14, ground := Ground.guard }], guard := some (14, true) }) (v := undef) rfl (by kernel_rfl) (by kernel_rfl) (by kernel_rfl) (fun _ _ _ h => h) (Or.inr ⟨by rfl, rfl⟩) (SK.out _ tV) ?_
                    simp only [Act.put, List.setIfInBounds_toArray, List.set_cons_zero, List.set_cons_succ]
                    refine wpAnyH_take (i := 26) (oi := { dst := some 88, op := Op.pick (Operand.tmp 76) (Operand.tmp 87) (Operand.const (Value.bool false)), type := 4, pos := "ref.go:30", after := #[{ on := 14, ground := Ground.data }, { on := 25, ground := Ground.data }], guard := none }) (v := .bool false) rfl (by kernel_rfl) (by kernel_rfl) (by kernel_rfl) (fun _ _ _ h => h) (Or.inl ⟨by rfl, ?_⟩) (SK.out _ tV) ?_
                    · rintro w ⟨⟨s0, s1, s2, s3⟩, ⟨s4, s5, s6, s7⟩, s8⟩
                      go_simp
                    simp only [Act.put, List.setIfInBounds_toArray, List.set_cons_zero, List.set_cons_succ]
                    refine wpAnyH_take (i := 27) (oi := { dst := some 11, op := Op.assign (Operand.tmp 88), type := 4, pos := "ref.go:30", after := #[{ on := 26, ground := Ground.data }, { on := 14, ground := Ground.chain }, { on := 0, ground := Ground.phase }, { on := 1, ground := Ground.phase }, { on := 2, ground := Ground.phase }, { on := 3, ground := Ground.phase }, { on := 4, ground := Ground.phase }, { on := 5, ground := Ground.phase }, { on := 6, ground := Ground.phase }, { on := 7, ground := Ground.phase }, { on := 8, ground := Ground.phase }, { on := 9, ground := Ground.phase }, { on := 10, ground := Ground.phase }, { on := 11, ground := Ground.phase }, { on := 12, ground := Ground.phase }, { on := 13, ground := Ground.phase }, { on := 14, ground := Ground.phase }, { on := 15, ground := Ground.phase }, { on := 16, ground := Ground.phase }, { on := 17, ground := Ground.phase }, { on := 18, ground := Ground.phase }, { on := 19, ground := Ground.phase }, { on := 20, ground := Ground.phase }, { on := 21, ground := Ground.phase }, { on := 22, ground := Ground.phase }, { on := 23, ground := Ground.phase }, { on := 24, ground := Ground.phase }, { on := 25, ground := Ground.phase }, { on := 26, ground := Ground.phase }], guard := none }) (v := .bool false) rfl (by kernel_rfl) (by kernel_rfl) (by kernel_rfl) (fun _ _ _ h => h) (Or.inl ⟨by rfl, ?_⟩) (SK.out _ tV) ?_
                    · rintro w ⟨⟨s0, s1, s2, s3⟩, ⟨s4, s5, s6, s7⟩, s8⟩
                      go_simp
                    simp only [Act.put, List.setIfInBounds_toArray, List.set_cons_zero, List.set_cons_succ]
                    refine wpAnyH_done (by kernel_rfl) ?_ _
                    have TU := hide tV
                    clear tV
                    go_wp2_with fail
                    go_meet
                    refine ⟨_, rfl, TU.out, ?_⟩
                    rw [HPV.out]
                    show false = (decide (key2 = key) && decide (sq2 ≤ s))
                    rw [HSK.out]
                    rfl
                  · obtain ⟨bb, hbb⟩ : ∃ bb : Bool, decide (sq2 ≤ s) = bb := ⟨_, rfl⟩
                    have HBB := hide hbb
                    clear hbb
                    refine wp_region_held_drew (S := fun u => (u.cell? ⟨b, off + (i + 1) * 4, none⟩ = some (.slice ka L1 kc) ∧ u.cell? ⟨b, off + (i + 1) * 4 + 1, none⟩ = some (.int .u64 (sq : Nat)) ∧ u.cell? ⟨b, off + (i + 1) * 4 + 2, none⟩ = some (.int .i64 kd) ∧ u.cell? ⟨b, off + (i + 1) * 4 + 3, none⟩ = some (.slice va L2 vc)) ∧ (u.cell? ⟨b, off + i * 4, none⟩ = some (.slice ka2 L3 kc2) ∧ u.cell? ⟨b, off + i * 4 + 1, none⟩ = some (.int .u64 (sq2 : Nat)) ∧ u.cell? ⟨b, off + i * 4 + 2, none⟩ = some (.int .i64 kd2) ∧ u.cell? ⟨b, off + i * 4 + 3, none⟩ = some (.slice va2 L4 vc2)) ∧ u.cell? ⟨g2, k, none⟩ = some (.int .u64 (s : Nat))) (by kernel_rfl) (SK.out _ tV) (fun _ => ?_)
                    change wpAnyH _ _ _ _ _ 28 (Array.replicate 28 false) _ _
                    refine wpAnyH_take (i := 0) (oi := { dst := some 62, op := Op.move (Operand.tmp 9), type := 3, pos := "ref.go:30", after := #[], guard := none }) (v := .int .i64 ((i : Int) + 1)) rfl (by kernel_rfl) (by kernel_rfl) (by kernel_rfl) (fun _ _ _ h => h) (Or.inl ⟨by rfl, ?_⟩) (SK.out _ tV) ?_
                    · rintro w ⟨⟨s0, s1, s2, s3⟩, ⟨s4, s5, s6, s7⟩, s8⟩
                      go_simp
                    simp only [Act.put, List.setIfInBounds_toArray, List.set_cons_zero, List.set_cons_succ]
                    refine wpAnyH_take (i := 1) (oi := { dst := some 63, op := Op.binOp BinOp.gtr 3 (Operand.tmp 62) (Operand.const (Value.int IntKind.i64 0)) 3, type := 4, pos := "ref.go:30", after := #[{ on := 0, ground := Ground.data }], guard := none }) (v := .bool true) rfl (by kernel_rfl) (by kernel_rfl) (by kernel_rfl) (fun _ _ _ h => h) (Or.inl ⟨by rfl, ?_⟩) (SK.out _ tV) ?_
                    · rintro w ⟨⟨s0, s1, s2, s3⟩, ⟨s4, s5, s6, s7⟩, s8⟩
                      go_simp
                    simp only [Act.put, List.setIfInBounds_toArray, List.set_cons_zero, List.set_cons_succ]
                    refine wpAnyH_take (i := 2) (oi := { dst := some 64, op := Op.move (Operand.tmp 63), type := 4, pos := "ref.go:30", after := #[{ on := 1, ground := Ground.data }], guard := none }) (v := .bool true) rfl (by kernel_rfl) (by kernel_rfl) (by kernel_rfl) (fun _ _ _ h => h) (Or.inl ⟨by rfl, ?_⟩) (SK.out _ tV) ?_
                    · rintro w ⟨⟨s0, s1, s2, s3⟩, ⟨s4, s5, s6, s7⟩, s8⟩
                      go_simp
                    simp only [Act.put, List.setIfInBounds_toArray, List.set_cons_zero, List.set_cons_succ]
                    refine wpAnyH_take (i := 3) (oi := { dst := some 65, op := Op.move (Operand.tmp 0), type := 31, pos := "ref.go:30", after := #[{ on := 2, ground := Ground.guard }], guard := some (2, true) }) (v := .slice (some ⟨b, off, none⟩) n c) rfl (by kernel_rfl) (by kernel_rfl) (by kernel_rfl) (fun _ _ _ h => h) (Or.inl ⟨by rfl, ?_⟩) (SK.out _ tV) ?_
                    · rintro w ⟨⟨s0, s1, s2, s3⟩, ⟨s4, s5, s6, s7⟩, s8⟩
                      go_simp
                    simp only [Act.put, List.setIfInBounds_toArray, List.set_cons_zero, List.set_cons_succ]
                    refine wpAnyH_take (i := 4) (oi := { dst := some 66, op := Op.move (Operand.tmp 9), type := 3, pos := "ref.go:30", after := #[{ on := 2, ground := Ground.guard }], guard := some (2, true) }) (v := .int .i64 ((i : Int) + 1)) rfl (by kernel_rfl) (by kernel_rfl) (by kernel_rfl) (fun _ _ _ h => h) (Or.inl ⟨by rfl, ?_⟩) (SK.out _ tV) ?_
                    · rintro w ⟨⟨s0, s1, s2, s3⟩, ⟨s4, s5, s6, s7⟩, s8⟩
                      go_simp
                    simp only [Act.put, List.setIfInBounds_toArray, List.set_cons_zero, List.set_cons_succ]
                    refine wpAnyH_take (i := 5) (oi := { dst := some 67, op := Op.binOp BinOp.sub 3 (Operand.tmp 66) (Operand.const (Value.int IntKind.i64 1)) 3, type := 3, pos := "ref.go:30", after := #[{ on := 4, ground := Ground.data }, { on := 2, ground := Ground.guard }], guard := some (2, true) }) (v := .int .i64 (i : Nat)) rfl (by kernel_rfl) (by kernel_rfl) (by kernel_rfl) (fun _ _ _ h => h) (Or.inl ⟨by rfl, ?_⟩) (SK.out _ tV) ?_
                    · rintro w ⟨⟨s0, s1, s2, s3⟩, ⟨s4, s5, s6, s7⟩, s8⟩
                      go_simp; rw [wrapI _ (by omega) (by omega)]
                    simp only [Act.put, List.setIfInBounds_toArray, List.set_cons_zero, List.set_cons_succ]
                    refine wpAnyH_take (i := 6) (oi := { dst := some 68, op := Op.indexAddr 31 (Operand.tmp 65) (Operand.tmp 67), type := 0, pos := "ref.go:30", after := #[{ on := 3, ground := Ground.data }, { on := 5, ground := Ground.data }, { on := 2, ground := Ground.guard }], guard := some (2, true) }) (v := .pointer (some ⟨b, off + i * 4, none⟩)) rfl (by kernel_rfl) (by kernel_rfl) (by kernel_rfl) (fun _ _ _ h => h) (Or.inl ⟨by rfl, ?_⟩) (SK.out _ tV) ?_
                    · rintro w ⟨⟨s0, s1, s2, s3⟩, ⟨s4, s5, s6, s7⟩, s8⟩
                      go_simp
                    simp only [Act.put, List.setIfInBounds_toArray, List.set_cons_zero, List.set_cons_succ]
                    refine wpAnyH_take (i := 7) (oi := { dst := some 69, op := Op.load 29 (Operand.tmp 68), type := 29, pos := "ref.go:30", after := #[{ on := 6, ground := Ground.data }, { on := 2, ground := Ground.guard }], guard := some (2, true) }) (v := .agg #[.slice ka2 L3 kc2, .int .u64 (sq2 : Nat), .int .i64 kd2, .slice va2 L4 vc2]) rfl (by kernel_rfl) (by kernel_rfl) (by kernel_rfl) (fun _ _ _ h => h) (Or.inl ⟨by rfl, ?_⟩) (SK.out _ tV) ?_
                    · rintro w ⟨⟨s0, s1, s2, s3⟩, ⟨s4, s5, s6, s7⟩, s8⟩
                      go_simp
                    simp only [Act.put, List.setIfInBounds_toArray, List.set_cons_zero, List.set_cons_succ]
                    refine wpAnyH_take (i := 8) (oi := { dst := some 70, op := Op.move (Operand.tmp 0), type := 31, pos := "ref.go:30", after := #[{ on := 2, ground := Ground.guard }], guard := some (2, true) }) (v := .slice (some ⟨b, off, none⟩) n c) rfl (by kernel_rfl) (by kernel_rfl) (by kernel_rfl) (fun _ _ _ h => h) (Or.inl ⟨by rfl, ?_⟩) (SK.out _ tV) ?_
                    · rintro w ⟨⟨s0, s1, s2, s3⟩, ⟨s4, s5, s6, s7⟩, s8⟩
                      go_simp
                    simp only [Act.put, List.setIfInBounds_toArray, List.set_cons_zero, List.set_cons_succ]
                    refine wpAnyH_take (i := 9) (oi := { dst := some 71, op := Op.move (Operand.tmp 9), type := 3, pos := "ref.go:30", after := #[{ on := 2, ground := Ground.guard }], guard := some (2, true) }) (v := .int .i64 ((i : Int) + 1)) rfl (by kernel_rfl) (by kernel_rfl) (by kernel_rfl) (fun _ _ _ h => h) (Or.inl ⟨by rfl, ?_⟩) (SK.out _ tV) ?_
                    · rintro w ⟨⟨s0, s1, s2, s3⟩, ⟨s4, s5, s6, s7⟩, s8⟩
                      go_simp
                    simp only [Act.put, List.setIfInBounds_toArray, List.set_cons_zero, List.set_cons_succ]
                    refine wpAnyH_take (i := 10) (oi := { dst := some 72, op := Op.indexAddr 31 (Operand.tmp 70) (Operand.tmp 71), type := 0, pos := "ref.go:30", after := #[{ on := 8, ground := Ground.data }, { on := 9, ground := Ground.data }, { on := 2, ground := Ground.guard }], guard := some (2, true) }) (v := .pointer (some ⟨b, off + (i + 1) * 4, none⟩)) rfl (by kernel_rfl) (by kernel_rfl) (by kernel_rfl) (fun _ _ _ h => h) (Or.inl ⟨by rfl, ?_⟩) (SK.out _ tV) ?_
                    · rintro w ⟨⟨s0, s1, s2, s3⟩, ⟨s4, s5, s6, s7⟩, s8⟩
                      go_simp
                    simp only [Act.put, List.setIfInBounds_toArray, List.set_cons_zero, List.set_cons_succ]
                    refine wpAnyH_take (i := 11) (oi := { dst := some 73, op := Op.load 29 (Operand.tmp 72), type := 29, pos := "ref.go:30", after := #[{ on := 10, ground := Ground.data }, { on := 2, ground := Ground.guard }], guard := some (2, true) }) (v := .agg #[.slice ka L1 kc, .int .u64 (sq : Nat), .int .i64 kd, .slice va L2 vc]) rfl (by kernel_rfl) (by kernel_rfl) (by kernel_rfl) (fun _ _ _ h => h) (Or.inl ⟨by rfl, ?_⟩) (SK.out _ tV) ?_
                    · rintro w ⟨⟨s0, s1, s2, s3⟩, ⟨s4, s5, s6, s7⟩, s8⟩
                      go_simp
                    simp only [Act.put, List.setIfInBounds_toArray, List.set_cons_zero, List.set_cons_succ]
                    refine wpAnyH_ready (rs := [12]) (by kernel_rfl) (by simp) ?_
                    refine AllReadyH.cons rfl (fun K hK => ?_) AllReadyH.nil
                    go_simp
                    refine (SC.out _ tV).mono ?_
                    rintro oo Vn ⟨rfl, tC⟩
                    have tN := tC
                    have tV := tV.trans tN
                    clear tC
                    clear tN
                    go_simp
                    refine hK.out _ _ (SK.out _ tV) (fun _ => ?_)
                    clear hK K
                    refine wpAnyH_take (i := 13) (oi := { dst := some 75, op := Op.pick (Operand.tmp 64) (Operand.tmp 74) (Operand.const (Value.bool false)), type := 4, pos := "ref.go:30", after := #[{ on := 2, ground := Ground.data }, { on := 12, ground := Ground.data }], guard := none }) (v := .bool true) rfl (by kernel_rfl) (by kernel_rfl) (by kernel_rfl) (fun _ _ _ h => h) (Or.inl ⟨by rfl, ?_⟩) (SK.out _ tV) ?_
                    · rintro w ⟨⟨s0, s1, s2, s3⟩, ⟨s4, s5, s6, s7⟩, s8⟩
                      go_simp
                    simp only [Act.put, List.setIfInBounds_toArray, List.set_cons_zero, List.set_cons_succ]
                    refine wpAnyH_take (i := 14) (oi := { dst := some 76, op := Op.move (Operand.tmp 75), type := 4, pos := "ref.go:30", after := #[{ on := 13, ground := Ground.data }, { on := 12, ground := Ground.chain }], guard := none }) (v := .bool true) rfl (by kernel_rfl) (by kernel_rfl) (by kernel_rfl) (fun _ _ _ h => h) (Or.inl ⟨by rfl, ?_⟩) (SK.out _ tV) ?_
                    · rintro w ⟨⟨s0, s1, s2, s3⟩, ⟨s4, s5, s6, s7⟩, s8⟩
                      go_simp
                    simp only [Act.put, List.setIfInBounds_toArray, List.set_cons_zero, List.set_cons_succ]
                    refine wpAnyH_take (i := 15) (oi := { dst := some 77, op := Op.move (Operand.tmp 0), type := 31, pos := "ref.go:30", after := #[{ on := 14, ground := Ground.guard }], guard := some (14, true) }) (v := .slice (some ⟨b, off, none⟩) n c) rfl (by kernel_rfl) (by kernel_rfl) (by kernel_rfl) (fun _ _ _ h => h) (Or.inl ⟨by rfl, ?_⟩) (SK.out _ tV) ?_
                    · rintro w ⟨⟨s0, s1, s2, s3⟩, ⟨s4, s5, s6, s7⟩, s8⟩
                      go_simp
                    simp only [Act.put, List.setIfInBounds_toArray, List.set_cons_zero, List.set_cons_succ]
                    refine wpAnyH_take (i := 16) (oi := { dst := some 78, op := Op.move (Operand.tmp 9), type := 3, pos := "ref.go:30", after := #[{ on := 14, ground := Ground.guard }], guard := some (14, true) }) (v := .int .i64 ((i : Int) + 1)) rfl (by kernel_rfl) (by kernel_rfl) (by kernel_rfl) (fun _ _ _ h => h) (Or.inl ⟨by rfl, ?_⟩) (SK.out _ tV) ?_
                    · rintro w ⟨⟨s0, s1, s2, s3⟩, ⟨s4, s5, s6, s7⟩, s8⟩
                      go_simp
                    simp only [Act.put, List.setIfInBounds_toArray, List.set_cons_zero, List.set_cons_succ]
                    refine wpAnyH_take (i := 17) (oi := { dst := some 79, op := Op.binOp BinOp.sub 3 (Operand.tmp 78) (Operand.const (Value.int IntKind.i64 1)) 3, type := 3, pos := "ref.go:30", after := #[{ on := 16, ground := Ground.data }, { on := 14, ground := Ground.guard }], guard := some (14, true) }) (v := .int .i64 (i : Nat)) rfl (by kernel_rfl) (by kernel_rfl) (by kernel_rfl) (fun _ _ _ h => h) (Or.inl ⟨by rfl, ?_⟩) (SK.out _ tV) ?_
                    · rintro w ⟨⟨s0, s1, s2, s3⟩, ⟨s4, s5, s6, s7⟩, s8⟩
                      go_simp; rw [wrapI _ (by omega) (by omega)]
                    simp only [Act.put, List.setIfInBounds_toArray, List.set_cons_zero, List.set_cons_succ]
                    refine wpAnyH_take (i := 18) (oi := { dst := some 80, op := Op.indexAddr 31 (Operand.tmp 77) (Operand.tmp 79), type := 0, pos := "ref.go:30", after := #[{ on := 15, ground := Ground.data }, { on := 17, ground := Ground.data }, { on := 14, ground := Ground.guard }], guard := some (14, true) }) (v := .pointer (some ⟨b, off + i * 4, none⟩)) rfl (by kernel_rfl) (by kernel_rfl) (by kernel_rfl) (fun _ _ _ h => h) (Or.inl ⟨by rfl, ?_⟩) (SK.out _ tV) ?_
                    · rintro w ⟨⟨s0, s1, s2, s3⟩, ⟨s4, s5, s6, s7⟩, s8⟩
                      go_simp
                    simp only [Act.put, List.setIfInBounds_toArray, List.set_cons_zero, List.set_cons_succ]
                    refine wpAnyH_take (i := 19) (oi := { dst := some 81, op := Op.fieldAddr 29 (Operand.tmp 80) 1, type := 0, pos := "ref.go:30", after := #[{ on := 18, ground := Ground.data }, { on := 14, ground := Ground.guard }], guard := some (14, true) }) (v := .pointer (some ⟨b, off + i * 4 + 1, none⟩)) rfl (by kernel_rfl) (by kernel_rfl) (by kernel_rfl) (fun _ _ _ h => h) (Or.inl ⟨by rfl, ?_⟩) (SK.out _ tV) ?_
                    · rintro w ⟨⟨s0, s1, s2, s3⟩, ⟨s4, s5, s6, s7⟩, s8⟩
                      go_simp
                    simp only [Act.put, List.setIfInBounds_toArray, List.set_cons_zero, List.set_cons_succ]
                    refine wpAnyH_take (i := 20) (oi := { dst := some 82, op := Op.load 27 (Operand.tmp 81), type := 27, pos := "ref.go:30", after := #[{ on := 19, ground := Ground.data }, { on := 14, ground := Ground.guard }], guard := some (14, true) }) (v := .int .u64 (sq2 : Nat)) rfl (by kernel_rfl) (by kernel_rfl) (by kernel_rfl) (fun _ _ _ h => h) (Or.inl ⟨by rfl, ?_⟩) (SK.out _ tV) ?_
                    · rintro w ⟨⟨s0, s1, s2, s3⟩, ⟨s4, s5, s6, s7⟩, s8⟩
                      go_simp
                    simp only [Act.put, List.setIfInBounds_toArray, List.set_cons_zero, List.set_cons_succ]
                    refine wpAnyH_take (i := 21) (oi := { dst := some 83, op := Op.move (Operand.tmp 7), type := 35, pos := "ref.go:30", after := #[{ on := 14, ground := Ground.guard }], guard := some (14, true) }) (v := .slice (some ⟨g2, 0, none⟩) (ln + 1) c2) rfl (by kernel_rfl) (by kernel_rfl) (by kernel_rfl) (fun _ _ _ h => h) (Or.inl ⟨by rfl, ?_⟩) (SK.out _ tV) ?_
                    · rintro w ⟨⟨s0, s1, s2, s3⟩, ⟨s4, s5, s6, s7⟩, s8⟩
                      go_simp
                    simp only [Act.put, List.setIfInBounds_toArray, List.set_cons_zero, List.set_cons_succ]
                    refine wpAnyH_take (i := 22) (oi := { dst := some 84, op := Op.move (Operand.tmp 10), type := 3, pos := "ref.go:30", after := #[{ on := 14, ground := Ground.guard }], guard := some (14, true) }) (v := .int .i64 (k : Nat)) rfl (by kernel_rfl) (by kernel_rfl) (by kernel_rfl) (fun _ _ _ h => h) (Or.inl ⟨by rfl, ?_⟩) (SK.out _ tV) ?_
                    · rintro w ⟨⟨s0, s1, s2, s3⟩, ⟨s4, s5, s6, s7⟩, s8⟩
                      go_simp
                    simp only [Act.put, List.setIfInBounds_toArray, List.set_cons_zero, List.set_cons_succ]
                    refine wpAnyH_take (i := 23) (oi := { dst := some 85, op := Op.indexAddr 35 (Operand.tmp 83) (Operand.tmp 84), type := 0, pos := "ref.go:30", after := #[{ on := 21, ground := Ground.data }, { on := 22, ground := Ground.data }, { on := 14, ground := Ground.guard }], guard := some (14, true) }) (v := .pointer (some ⟨g2, k, none⟩)) rfl (by kernel_rfl) (by kernel_rfl) (by kernel_rfl) (fun _ _ _ h => h) (Or.inl ⟨by rfl, ?_⟩) (SK.out _ tV) ?_
                    · rintro w ⟨⟨s0, s1, s2, s3⟩, ⟨s4, s5, s6, s7⟩, s8⟩
                      go_simp
                    simp only [Act.put, List.setIfInBounds_toArray, List.set_cons_zero, List.set_cons_succ]
                    refine wpAnyH_take (i := 24) (oi := { dst := some 86, op := Op.load 27 (Operand.tmp 85), type := 27, pos := "ref.go:30", after := #[{ on := 23, ground := Ground.data }, { on := 14, ground := Ground.guard }], guard := some (14, true) }) (v := .int .u64 (s : Nat)) rfl (by kernel_rfl) (by kernel_rfl) (by kernel_rfl) (fun _ _ _ h => h) (Or.inl ⟨by rfl, ?_⟩) (SK.out _ tV) ?_
                    · rintro w ⟨⟨s0, s1, s2, s3⟩, ⟨s4, s5, s6, s7⟩, s8⟩
                      go_simp
                    simp only [Act.put, List.setIfInBounds_toArray, List.set_cons_zero, List.set_cons_succ]
                    refine wpAnyH_take (i := 25) (oi := { dst := some 87, op := Op.binOp BinOp.leq 27 (Operand.tmp 82) (Operand.tmp 86) 27, type := 4, pos := "ref.go:30", after := #[{ on := 20, ground := Ground.data }, { on := 24, ground := Ground.data }, { on := 14, ground := Ground.guard }], guard := some (14, true) }) (v := .bool bb) rfl (by kernel_rfl) (by kernel_rfl) (by kernel_rfl) (fun _ _ _ h => h) (Or.inl ⟨by rfl, ?_⟩) (SK.out _ tV) ?_
                    · rintro w ⟨⟨s0, s1, s2, s3⟩, ⟨s4, s5, s6, s7⟩, s8⟩
                      go_simp; exact HBB.out
                    simp only [Act.put, List.setIfInBounds_toArray, List.set_cons_zero, List.set_cons_succ]
                    refine wpAnyH_take (i := 26) (oi := { dst := some 88, op := Op.pick (Operand.tmp 76) (Operand.tmp 87) (Operand.const (Value.bool false)), type := 4, pos := "ref.go:30", after := #[{ on := 14, ground := Ground.data }, { on := 25, ground := Ground.data }], guard := none }) (v := .bool bb) rfl (by kernel_rfl) (by kernel_rfl) (by kernel_rfl) (fun _ _ _ h => h) (Or.inl ⟨by rfl, ?_⟩) (SK.out _ tV) ?_
                    · rintro w ⟨⟨s0, s1, s2, s3⟩, ⟨s4, s5, s6, s7⟩, s8⟩
                      go_simp
                    simp only [Act.put, List.setIfInBounds_toArray, List.set_cons_zero, List.set_cons_succ]
                    refine wpAnyH_take (i := 27) (oi := { dst := some 11, op := Op.assign (Operand.tmp 88), type := 4, pos := "ref.go:30", after := #[{ on := 26, ground := Ground.data }, { on := 14, ground := Ground.chain }, { on := 0, ground := Ground.phase }, { on := 1, ground := Ground.phase }, { on := 2, ground := Ground.phase }, { on := 3, ground := Ground.phase }, { on := 4, ground := Ground.phase }, { on := 5, ground := Ground.phase }, { on := 6, ground := Ground.phase }, { on := 7, ground := Ground.phase }, { on := 8, ground := Ground.phase }, { on := 9, ground := Ground.phase }, { on := 10, ground := Ground.phase }, { on := 11, ground := Ground.phase }, { on := 12, ground := Ground.phase }, { on := 13, ground := Ground.phase }, { on := 14, ground := Ground.phase }, { on := 15, ground := Ground.phase }, { on := 16, ground := Ground.phase }, { on := 17, ground := Ground.phase }, { on := 18, ground := Ground.phase }, { on := 19, ground := Ground.phase }, { on := 20, ground := Ground.phase }, { on := 21, ground := Ground.phase }, { on := 22, ground := Ground.phase }, { on := 23, ground := Ground.phase }, { on := 24, ground := Ground.phase }, { on := 25, ground := Ground.phase }, { on := 26, ground := Ground.phase }], guard := none }) (v := .bool bb) rfl (by kernel_rfl) (by kernel_rfl) (by kernel_rfl) (fun _ _ _ h => h) (Or.inl ⟨by rfl, ?_⟩) (SK.out _ tV) ?_
                    · rintro w ⟨⟨s0, s1, s2, s3⟩, ⟨s4, s5, s6, s7⟩, s8⟩
                      go_simp
                    simp only [Act.put, List.setIfInBounds_toArray, List.set_cons_zero, List.set_cons_succ]
                    refine wpAnyH_done (by kernel_rfl) ?_ _
                    have TU := hide tV
                    clear tV
                    go_wp2_with fail
                    go_meet
                    refine ⟨_, rfl, TU.out, ?_⟩
                    rw [HPV.out]
                    show bb = (decide (key2 = key) && decide (sq2 ≤ s))
                    rw [HSK.out, HBB.out]
                    rfl
              case rest =>
                obtain ⟨nb, rfl, tc, hnb⟩ := hcut
                have HNB := hide hnb
                have HVC := hide (HVI.out.quiet tc)
                have y1 := tc.cell HC.out.2.1 (fun x => x)
                have y2 := tc.cell HSC.out (fun x => x)
                clear hnb tc
                generalize hsq : x.e.seq = sq at *
                have HSQ := hide hsq
                clear hsq
                by_cases hxs : sq ≤ s
                · have d1 : decide ((sq : Int) ≤ (s : Int)) = true := decide_eq_true (by omega)
                  have d2 : decide (sq ≤ s) = true := decide_eq_true hxs
                  cases nb
                  · have PUT := hide (HVC.out.quiet ((Turns.refl (fun _ => False) wc).drewN 1) |>.put HG.out hin (ents_get HX.out) HS.out (by rw [HSQ.out, d2, ← HNB.out]; rfl))
                    have PUTN := hide (fun m => (HVC.out.quiet ((Turns.refl (fun _ => False) wc).drewN m)).put HG.out hin (ents_get HX.out) HS.out (by rw [HSQ.out, d2, ← HNB.out]; rfl))
                    obtain ⟨⟨cs, k1, k2, _⟩, _⟩ := HVC.out
                    have z0 := frozen_of_row wc g i _ 4 k1
                    obtain ⟨q0, z1⟩ : ∃ d, wc.cell? ⟨g, i, none⟩ = some d := ⟨_, by rw [cell_of_row wc g i _ 4 (0, 0) k1]; exact Array.getElem?_eq_getElem (by omega)⟩
                    clear k1 k2 PUT
                    go_wp2_with fail
                    go_quiet (fail)
                    go_wp2_with fail
                    go_roundw
                    case rel => exact ⟨k + 1, by go_num, by omega, PUTN.out _⟩
                    case measure => (simp [intOf]; try omega)
                  · have SKP := hide (fun m => (HVC.out.quiet ((Turns.refl (fun _ => False) wc).drewN m)).same (fun j _ => vrF_skip (ents_get HX.out) HS.out (by rw [HSQ.out, d2, ← HNB.out]; rfl) j))
                    go_wp2_with fail
                    go_quiet (fail)
                    go_wp2_with fail
                    go_roundw
                    case rel => exact ⟨k + 1, by go_num, by omega, SKP.out _⟩
                    case measure => (simp [intOf]; try omega)
                · have d1 : decide ((sq : Int) ≤ (s : Int)) = false := decide_eq_false (by omega)
                  have d2 : decide (sq ≤ s) = false := decide_eq_false hxs
                  have SKP := hide (fun m => (HVC.out.quiet ((Turns.refl (fun _ => False) wc).drewN m)).same (fun j _ => vrF_skip (ents_get HX.out) HS.out (by rw [HSQ.out, d2]; rfl) j))
                  go_wp2_with fail
                  go_quiet (fail)
                  go_wp2_with fail
                  go_roundw
                  case rel => exact ⟨k + 1, by go_num, by omega, SKP.out _⟩
                  case measure => (simp [intOf]; try omega)
            · obtain rfl : k = ln + 1 := by omega
              have NXT := hide (show Vr w w0 wr g n all (ents l) (i + 1) 0 from HVI.out.same (fun j _ => by rw [← HML.out]; exact vrF_next (ents_get HX.out) j))
              have i5 : ¬ (ln : Int) + 1 < (ln : Int) + 1 := by omega
              go_wp2_with fail
              go_roundw
              case rel => exact ⟨i + 1, by go_num, by omega, NXT.out⟩
              case measure => (simp [intOf]; try omega)
        · obtain rfl : i = n := by omega
          have FIN := hide (show SeenOk wr i true (vis all (ents l)) (.returned (.tuple #[.slice (some ⟨g, 0, none⟩) i i, .int .i64 0])) ∧ Turns (fun _ => False) w wr from ⟨.inr ⟨rfl, g, rfl, by
            obtain ⟨⟨cs, k1, k2, k3⟩, _⟩ := HV.out
            refine ⟨cs, k1, by rw [vis_length, k2]; simp [ents]; exact HN.out, fun j b hb => ?_⟩
            have hlt : j < (ents l).length := by rw [← vis_length all]; exact (List.getElem?_eq_some_iff.1 hb).1
            have hlt2 : j < i := by rw [HN.out]; simpa [ents] using hlt
            rw [vis_at _ _ hlt] at hb
            cases hb
            rw [k3 j hlt2]
            unfold vrF
            rw [if_pos hlt2]⟩, HV.out.turn⟩)
          go_wp2_with fail
          go_ret2
          rw [HOK.out, HALL.out]
          exact FIN.out
end Go.Proofs.Ytpgligfolecieaa
