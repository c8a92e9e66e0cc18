import Derived.Test.YtjklbhdhjfifhaaGreatM35
import Derived.Test.YtjklbhdhjfifhaaGreatM02
/-
  lay: its contract.
-/
namespace Go.Proofs.YtjklbhdhjfifhaaGreat
open Go.RowKit Go.Shelf
set_option maxRecDepth 100000
set_option maxHeartbeats 4000000
attribute [local go_sem] Oper.semAt_some
theorem lay_any (bx b off n c B : Nat) (l : List Tow) (F : Int) (e0 e1 e2 l1 l2 s1 s2 : Value) (w : World) (hE : ∀ u, Turns (fun k => B ≤ k) w u → Ents u (some ⟨b, off, none⟩) l) (hn : n = l.length) (hnc : n ≤ c) (hmx : n ≤ 1000) (hw : wt (ents l) ≤ 100000) (hf : Good l) (hord : inOrd (ents l) = true) (hB : B ≤ bx) (hx : w.heap[bx]? = some (.cells #[.slice none 0 0, e0, e1, e2, l1, l2, s1, s2] 55 (0, 0))) :
    Calls Tryz.prog 67 #[.pointer (some ⟨bx, 0, none⟩), .slice (some ⟨b, off, none⟩) n c, .int .i64 F] w fun e w' => ∃ v pv L, e = .returned v ∧ Cuts F l 0 L l.length ∧ PartOk w.heap.size w' v (L.flatMap (frB l)) ∧ w'.heap[bx]? = some (.cells #[pv, e0, e1, e2, l1, l2, s1, s2] 55 (0, 0)) ∧ PRow w' w.heap.size pv (plcs l 0 L) ∧ Turns (fun k => k = bx ∨ w.heap.size ≤ k) w w' := by
  subst hn
  have hbx := lt_of_heap hx
  have HE := hide hE
  have HF := hide hf
  have HO := hide hord
  have HX := hide hx
  obtain ⟨N0, hN0⟩ : ∃ N0, N0 = w.heap.size := ⟨_, rfl⟩
  have HN0 := hide hN0
  clear hE hf hord hx
  refine (callsIn_wide (n := 5)).1 ?_
  refine callsIn_of_wp_marks Tryz.func67 rfl trivial ?_ rfl
  simp only [Tryz.ntmps67, List.size_toArray, List.length_cons, List.length_nil, Nat.reduceAdd, Nat.reduceSub, Array.replicate_succ, Array.replicate_zero, List.push_toArray, List.append_toArray, List.nil_append, List.cons_append]
  gi_wp2
  refine ⟨trivial, ?_⟩
  obtain ⟨w0, hw0⟩ : ∃ w0, w0 = ((w.alloc (.cells #[.pointer (some ⟨bx, 0, none⟩)] 116)).alloc (.cells #[.slice none 0 0, .int .i64 0] 119)).alloc (.cells #[.slice none 0 0] 159) := ⟨_, rfl⟩
  have n3 : w0.heap[w.heap.size]? = some (.cells #[.pointer (some ⟨bx, 0, none⟩)] 116 (0, 0)) := by
    rw [hw0]
    exact (heap_alloc_old _ _ (by simp; omega)).trans ((heap_alloc_old _ _ (by simp)).trans (heap_alloc_new w _))
  have n6 : w0.heap[w.heap.size + 1]? = some (.cells #[.slice none 0 0, .int .i64 0] 119 (0, 0)) := by
    rw [hw0]
    have := heap_alloc_new (w.alloc (.cells #[.pointer (some ⟨bx, 0, none⟩)] 116)) (.cells #[.slice none 0 0, .int .i64 0] 119)
    rw [World.size_alloc] at this
    exact (heap_alloc_old _ _ (by simp)).trans this
  have n7 : w0.heap[w.heap.size + 2]? = some (.cells #[.slice none 0 0] 159 (0, 0)) := by
    rw [hw0]
    have := heap_alloc_new ((w.alloc (.cells #[.pointer (some ⟨bx, 0, none⟩)] 116)).alloc (.cells #[.slice none 0 0, .int .i64 0] 119)) (.cells #[.slice none 0 0] 159)
    rw [World.size_alloc, World.size_alloc] at this
    exact this
  have T0 := hide (show Turns (fun _ => False) w w0 by rw [hw0]; exact (((Turns.refl _ _).alloc _).alloc _).alloc _)
  have hs0 : w0.heap.size = w.heap.size + 3 := by rw [hw0]; simp
  rw [← hw0]
  clear hw0
  refine (callsIn_wide.2 (blocks_any _ _ _ _ _)).mono ?_
  rintro e w1 ⟨rfl, hw1⟩
  have m0 : w1.heap[w.heap.size + 3]? = some (.cells #[.slice (some ⟨b, off, none⟩) l.length c] 37 (0, 0)) := by
    rw [hw1, ← hs0]
    exact (heap_alloc_old _ _ (by simp)).trans (heap_alloc_new w0 _)
  have m1 : w1.heap[w.heap.size + 4]? = some (.cells #[.int .i64 F] 3 (0, 0)) := by
    have := heap_alloc_new (w0.alloc (.cells #[.slice (some ⟨b, off, none⟩) l.length c] 37)) (.cells #[.int .i64 F] 3)
    rw [World.size_alloc, hs0] at this
    rw [hw1]
    exact this
  have t1 : Turns (fun _ => False) w0 w1 := by rw [hw1]; exact ((Turns.refl _ _).alloc _).alloc _
  have hs1 : w1.heap.size = w.heap.size + 5 := by rw [hw1]; simp [hs0]
  have TW := hide (T0.out.trans t1)
  have HI := hide (show LayI l w.heap.size (w.heap.size + 1) (w.heap.size + 2) bx (w.heap.size + 5) w.heap.size e0 e1 e2 l1 l2 s1 s2 w [] (.slice none 0 0) (.slice none 0 0) [] w1 from
    ⟨t1.heap n7 (fun x => x), .inl ⟨rfl, rfl⟩, fun x hx => (by cases hx), rfl, TW.out.heap HX.out (fun x => x), .inl ⟨rfl, rfl⟩, t1.heap n3 (fun x => x), t1.heap n6 (fun x => x), TW.out.mono fun _ _ x => x.elim⟩)
  have SEQ := hide (blocks_seq 4 (w.heap.size + 3) (w.heap.size + 4) b off c (by omega) l F hnc hmx (by omega) HF.out (fun k => B ≤ k ∧ k ≠ w.heap.size + 3 ∧ k ≠ w.heap.size + 4) (fun h => h.2.1 rfl) (fun h => h.2.2 rfl) (by omega) w1 (fun u hu => HE.out u ((TW.out.mono fun _ _ x => x.elim).trans (hu.mono fun k _ hk => hk.elim (fun h => h.1) (fun h => by show B ≤ k; omega)))) m0 m1)
  rw [hs0]
  clear hw1 n3 n6 n7 m0 m1 t1 hs0 T0
  rw [← hN0] at HI SEQ hs1 hbx ⊢
  have HNE := hide hN0
  simp only [Nat.add_assoc, Nat.reduceAdd]
  obtain ⟨b6, h6⟩ : ∃ b6, b6 = N0 + 1 := ⟨_, rfl⟩
  obtain ⟨b7, h7⟩ : ∃ b7, b7 = N0 + 2 := ⟨_, rfl⟩
  obtain ⟨x0, h0⟩ : ∃ x0, x0 = N0 + 3 := ⟨_, rfl⟩
  obtain ⟨x1, h1⟩ : ∃ x1, x1 = N0 + 4 := ⟨_, rfl⟩
  obtain ⟨NL, hL⟩ : ∃ NL, NL = N0 + 5 := ⟨_, rfl⟩
  rw [← h6, ← h7, ← h0, ← h1]
  rw [← h6, ← h7, ← hL] at HI
  rw [← h0, ← h1] at SEQ
  rw [← hL] at hs1
  have HQ := hide (show b6 = N0 + 1 ∧ b7 = N0 + 2 ∧ x0 = N0 + 3 ∧ x1 = N0 + 4 ∧ NL = N0 + 5 from ⟨h6, h7, h0, h1, hL⟩)
  have HS1 := hide hs1
  clear h6 h7 h0 h1 hL hN0 hs1
  gi_wp2
  have hq := HQ.out
  have hs1 := HS1.out
  have hne := HNE.out
  refine range_x (w := w1) (n := 5) rfl (by decide) (gf := 147) (lb := #[.pointer (some ⟨x0, 0, none⟩), .pointer (some ⟨x1, 0, none⟩)]) rfl trivial enters147 (x0 := x0) (by omega) (hseq := SEQ.out) (fun h k => h.trans k) (fun W lp o o' hl ho hc => (turns_put o' ho).mono fun k _ e => by subst e; exact ⟨by omega, by omega, by omega⟩) (Below.refl _ _) (fun _ => rfl)
    (LayIE l N0 b6 b7 bx NL N0 e0 e1 e2 l1 l2 s1 s2 w)
    (fun _ _ _ => False)
    (fun pre A A' ⟨fv, pv, pts, h⟩ tt => ⟨fv, pv, pts, h.own tt (by omega) (by omega) (by omega) (by omega) (by omega) (by omega) (by omega)⟩)
    (fun _ _ _ _ h _ => h)
    ⟨_, _, _, HI.out⟩
    (fun (x : Cu l) a' _ => a' = { tmps := #[.pointer (some ⟨bx, 0, none⟩), .slice (some ⟨b, off, none⟩) l.length c, .int .i64 F, .pointer (some ⟨N0, 0, none⟩), undef, undef, .pointer (some ⟨b6, 0, none⟩), .pointer (some ⟨b7, 0, none⟩), cutV b off c x, undef, .slice (some ⟨b, off, none⟩) l.length c, .int .i64 F, .func (.func 147) #[] #[.pointer (some ⟨x0, 0, none⟩), .pointer (some ⟨x1, 0, none⟩)], cutV b off c x, undef, undef, undef, undef, undef, undef, undef, undef, undef, undef, undef, undef, undef, undef, undef, undef, undef, undef, undef, undef, undef, undef, undef, undef, undef, undef, undef], defers := [] })
    (fun x a' s A A' h _ => h) ?assign ?body ?done ?stop
  case assign =>
    rintro lp pre x W K hI hK
    clear hq hne hs1
    gi_wp2
    exact hK _ _ (KeepsFrom.refl _ _) (Turns.refl _ _) hI rfl
  case body =>
    rintro lp pre x a' W hl ⟨r, hr⟩ ⟨fv, pv, pts, hI⟩ rfl ⟨j, hj, hcut⟩
    obtain ⟨⟨i, m⟩, hm1, hm2⟩ := x
    simp only at hm1 hm2
    obtain ⟨p, rfl⟩ : ∃ p, m = p + 1 := ⟨m - 1, by omega⟩
    have hWs : NL ≤ W.heap.size := by have := lt_of_heap hr; omega
    have tW : Turns (fun k => B ≤ k) w W := hI.low.mono fun k _ hk => hk.elim (fun h => by show B ≤ k; omega) (fun h => by show B ≤ k; omega)
    have EN := hide ((HE.out W tW).part i (p + 1))
    have AP := hide (append_ok (some ⟨b, off + i * 4, none⟩) (p + 1) (c - i) (part l (i, p + 1)) W EN.out (part_length (x := (i, p + 1)) hm2).symm (by omega) (by have := wt_part l i (p + 1); have := wt_take_le l (i + (p + 1)); omega) (part_good HF.out _) (part_chk HO.out (x := (i, p + 1)) hm1 hm2))
    obtain ⟨hb1, hb2, hb3⟩ := frB_le HF.out hm1 hm2
    have hwp : wt (ents (part l (i, p + 1))) ≤ 100000 := by have := wt_part l i (p + 1); have := wt_take_le l (i + (p + 1)); omega
    obtain ⟨fa, fc, rfl⟩ := hI.tr.len
    obtain ⟨pa, pc, rfl⟩ := hI.pr.len
    have HI := hide hI
    have HC := hide hcut
    have HTW := hide tW
    have HL := hide hl
    have HWS := hide hWs
    have FB := hide (show frB l (i, p + 1) = Fr.frameB 2#8 (blkB (ents (part l (i, p + 1)))) from rfl)
    generalize hblk : blkB (ents (part l (i, p + 1))) = bk at *
    have HBK := hide hblk
    clear hq hne hs1 hl hr hcut hI tW hWs hblk
    unfold cutV
    simp only
    gi_wp2
    refine ⟨trivial, ?_⟩
    refine (callsIn_wide.2 AP.out).mono ?_
    rintro e w2 ⟨⟨g, gc, rfl, hg, hgc, hrow⟩, bl2⟩
    rw [HBK.out] at hgc hrow ⊢
    have B2 := hide bl2
    have RW := hide hrow
    have hbk : bk.length ≤ 144004 := by omega
    clear bl2 hrow AP
    gi_wp2
    refine ⟨trivial, ?_⟩
    refine (callsIn_wide.2 (partOf_any _ _ _ _ _)).mono ?_
    rintro e w3 ⟨rfl, bl3⟩
    have B3 := hide (B2.out.trans (bl3.mono B2.out.size))
    have RW3 := hide (RW.out.turns (Turns.of_below bl3 (fun _ => False)) (fun x => x))
    clear bl3
    gi_wp2
    refine ⟨trivial, ?_⟩
    have FO := framed_ok 2#8 (some ⟨g, 0, none⟩) bk.length gc bk w3 (RowB.bytes (show RowB w3 g gc bk from RW3.out) rfl) (by omega)
    rw [← FB.out] at FO
    refine (callsIn_wide.2 FO).mono ?_
    rintro e w4 ⟨v, rfl, hp4, bl4⟩
    have hfl : 0 < (frB l (i, p + 1)).length := by omega
    have hfl2 : (frB l (i, p + 1)).length ≤ 144016 := by rw [hb3]; omega
    obtain ⟨xv, rfl, hfr⟩ := hp4
    obtain ⟨xa, xc, rfl⟩ := hfr.len
    have B4 := hide (B3.out.trans (bl4.mono B3.out.size))
    have FR := hide hfr
    have HS3 := hide (show W.heap.size ≤ w3.heap.size from B3.out.size)
    have HFL := hide (show 0 < (frB l (i, p + 1)).length ∧ (frB l (i, p + 1)).length ≤ 144016 from ⟨hfl, hfl2⟩)
    have LAST := part_last (l := l) (j := i) (m := p + 1) hm1 hm2
    rw [show p + 1 - 1 = p by omega] at LAST
    generalize hY : l.getD (i + (p + 1) - 1) default = y at LAST
    have HY := hide hY
    obtain ⟨ka, kc, va, vc, e⟩ := y
    have HLA := hide LAST
    clear bl4 hfr hbk hfl hfl2 FO hb1 hb2 hb3 RW RW3 B2 B3 hg hgc EN LAST hY
    generalize hfb : frB l (i, p + 1) = fb at *
    have HFB := hide hfb
    clear hfb FB
    have t5 : Turns (fun _ => False) W (w4.alloc (.cells #[.slice xa fb.length xc, .int .i64 0] 119)) := (Turns.of_below B4.out (fun _ => False)).alloc _
    have T5 := hide t5
    have c7 := t5.cell (cell_of_row W b7 0 _ 159 (0, 0) HI.out.c7) (fun x => x)
    have FZ := frozen_of_row _ b7 0 _ 159 (t5.heap HI.out.c7 (fun x => x))
    clear t5
    have TA := hide (T5.out.alloc (.cells #[.slice xa fb.length xc, .int .i64 0] 119))
    obtain ⟨g5, n5, c5, w5, hr5, hn5, hro5, ht5, hb5, hi5⟩ := append_pt ((w4.alloc (.cells #[.slice xa fb.length xc, .int .i64 0] 119)).alloc (.cells #[.slice xa fb.length xc, .int .i64 0] 119)) NL (.slice fa pts.length fc) pts (HI.out.tr.keep TA.out (fun _ _ x => x)) (Nat.le_trans HWS.out TA.out.size) (by have := cuts_bound HF.out HC.out hj hmx hw; have e := congrArg List.length HI.out.bs; simp only [cutsOf, List.length_map, List.length_append, List.length_singleton] at e this; omega) ⟨xa, xc, fb⟩ (w4.heap.size + 1) 1 (by have := heap_alloc_new (w4.alloc (.cells #[.slice xa fb.length xc, .int .i64 0] 119)) (.cells #[.slice xa fb.length xc, .int .i64 0] 119); rw [World.size_alloc] at this; exact this)
    have HR5 := hide hr5
    have HN5 := hide hn5
    have HO5 := hide hro5
    have HT5 := hide ht5
    have HI5 := hide hi5
    clear hr5 hn5 hro5 ht5 hb5 hi5
    have hq := HQ.out
    have hne := HNE.out
    have hRb : ∀ k, inRow (.slice fa pts.length fc) k → NL ≤ k ∧ k < W.heap.size := fun k h => ⟨(HI.out.tr.row h).1, (HI.out.tr.row h).2.1⟩
    have hb7 : w5.heap[b7]? = some (.cells #[.slice fa pts.length fc] 159 (0, 0)) := HT5.out.heap (TA.out.heap HI.out.c7 (fun x => x)) (fun h => by have := (hRb _ h).1; omega)
    have c75 := cell_of_row w5 b7 0 _ 159 (0, 0) hb7
    have FZ5 := frozen_of_row w5 b7 0 _ 159 hb7
    have TK := hide ((Tick.refl hb7).set 0 (.slice (some ⟨g5, 0, none⟩) n5 c5))
    have W4S := hide (show W.heap.size ≤ w4.heap.size from B4.out.size)
    have HQC := hide (show w5.heap[w4.heap.size]? = some (.cells #[.slice xa fb.length xc, .int .i64 0] 119 (0, 0)) from HT5.out.heap (heap_keep ((Below.refl _ _).alloc (Nat.le_refl _) _) (heap_alloc_new w4 _)) (fun h => by have := (hRb _ h).2; have := W4S.out; omega))
    have HFX := hide (show Fresh NL w5 (.slice xa fb.length xc) fb from ((((FR.out.turns ((Turns.refl (fun _ => False) w4).alloc (.cells #[.slice xa fb.length xc, .int .i64 0] 119)) (fun _ _ x => x)).turns ((Turns.refl (fun _ => False) (w4.alloc (.cells #[.slice xa fb.length xc, .int .i64 0] 119))).alloc (.cells #[.slice xa fb.length xc, .int .i64 0] 119)) (fun _ _ x => x))).turns HT5.out (fun k hk h => by have := (hRb _ h).2; have := HS3.out; omega)).le (Nat.le_trans HWS.out HS3.out))
    have T5W := hide (show Turns (inRow (.slice fa pts.length fc)) W w5 from (TA.out.mono fun _ _ x => x.elim).trans HT5.out)
    clear hb7 hq hne hRb
    gi_wp2_with (refine wpListIn_append_run rfl (.tmp 20) (.tmp 22) 159 rfl (.slice fa pts.length fc) (.slice (some ⟨w4.heap.size + 1, 0, none⟩) 1 1) rfl rfl _ _ (HR5.out _) ?_)
    have hq := HQ.out
    have hne := HNE.out
    have u6 := Turns.of_tick TK.out
    have N7 := hide (show (w5.setCell ⟨b7, 0, none⟩ (.slice (some ⟨g5, 0, none⟩) n5 c5)).heap[b7]? = some (.cells #[.slice (some ⟨g5, 0, none⟩) n5 c5] 159 (0, 0)) from TK.out.1)
    have TR6 := hide (HO5.out.keep u6 (fun k h e => by have := (HO5.out.row h).1; omega))
    have W4S' := W4S.out
    have CQ := hide (u6.heap HQC.out (fun e => by have := HWS.out; omega))
    have FX6 := hide (HFX.out.turns u6 (fun k hk e => by omega))
    have T6 := hide (show Turns (fun k => k = b7 ∨ inRow (.slice fa pts.length fc) k) W (w5.setCell ⟨b7, 0, none⟩ (.slice (some ⟨g5, 0, none⟩) n5 c5)) from (T5W.out.mono fun _ _ x => .inr x).trans (u6.mono fun _ _ x => .inl x))
    clear u6 c75 FZ5 TK HQC HFX T5W HO5 HT5 HR5 TA c7 FZ T5 FR HS3 B4
    generalize w5.setCell ⟨b7, 0, none⟩ (.slice (some ⟨g5, 0, none⟩) n5 c5) = W6 at *
    generalize hqq : w4.heap.size = q at *
    have C6 := hide (show W6.heap[b6]? = some (.cells #[.slice none 0 0, .int .i64 0] 119 (0, 0)) from T6.out.heap HI.out.c6 (fun h => h.elim (fun h => by omega) (fun h => by have := (HI.out.tr.row h).1; omega)))
    have C3 := hide (show W6.heap[N0]? = some (.cells #[.pointer (some ⟨bx, 0, none⟩)] 116 (0, 0)) from T6.out.heap HI.out.c3 (fun h => h.elim (fun h => by omega) (fun h => by have := (HI.out.tr.row h).1; omega)))
    have CX := hide (show W6.heap[bx]? = some (.cells #[.slice pa (plcs l 0 (cutsOf pre)).length pc, e0, e1, e2, l1, l2, s1, s2] 55 (0, 0)) from T6.out.heap HI.out.cx (fun h => h.elim (fun h => by omega) (fun h => by have := (HI.out.tr.row h).1; omega)))
    have PR6 := hide (HI.out.pr.keep T6.out (fun k hk h => by
      rcases h with h | h
      · have := (HI.out.pr.row hk).1; omega
      · obtain ⟨cs, e1⟩ := HI.out.pr.typed hk
        obtain ⟨_, _, cs2, e2⟩ := HI.out.tr.row h
        rw [e1] at e2
        cases e2))
    have PB := hide (fun k (h : inRow (.slice pa (plcs l 0 (cutsOf pre)).length pc) k) => show NL ≤ k ∧ k < W.heap.size ∧ ∃ cs, W6.heap[k]? = some (.cells cs 147 (0, 0)) from ⟨(HI.out.pr.row h).1, (HI.out.pr.row h).2, PR6.out.typed h⟩)
    have NQ := hide (fun k (h1 : k ≠ bx) (h2 : k < NL ∨ W.heap.size ≤ k) => show ¬ (k = bx ∨ inRow (.slice pa (plcs l 0 (cutsOf pre)).length pc) k) from fun h => h.elim h1 (fun h => by have := (PB.out k h).1; have := (PB.out k h).2.1; omega))
    have LOW := hide (show Turns (fun k => k = bx ∨ N0 ≤ k) w W6 from HI.out.low.trans (T6.out.mono fun k _ h => h.elim (fun h => .inr (by omega)) (fun h => .inr (by have := (HI.out.tr.row h).1; omega))))
    have SK := hide (fun (u : World) (tu : Turns (fun k => k = bx ∨ inRow (.slice pa (plcs l 0 (cutsOf pre)).length pc) k) W6 u) => show u.cell? ⟨N0, 0, none⟩ = some (.pointer (some ⟨bx, 0, none⟩)) ∧ u.cell? ⟨q, 0, none⟩ = some (.slice xa fb.length xc) ∧ u.cell? ⟨b, off + i * 4 + p * 4, none⟩ = some (.slice ka e.key.length kc) ∧ u.cell? ⟨b, off + i * 4 + p * 4 + 1, none⟩ = some (.int .u64 (e.seq : Nat)) ∧ u.cell? ⟨b, off + i * 4 + p * 4 + 2, none⟩ = some (.int .i64 e.kind) ∧ u.cell? ⟨b, off + i * 4 + p * 4 + 3, none⟩ = some (.slice va e.val.length vc) from by
      have hen := (HE.out u ((LOW.out.trans (tu.mono fun k _ h => h.elim .inl (fun h => .inr (by have := (PB.out k h).1; omega)))).mono fun k _ h => h.elim (fun h => by show B ≤ k; omega) (fun h => by show B ≤ k; omega))).part i (p + 1) p _ HLA.out
      obtain ⟨⟨b', off', e', hc'⟩, _, _⟩ := hen
      cases e'
      exact ⟨tu.cell (cell_of_row W6 N0 0 _ 116 (0, 0) C3.out) (NQ.out N0 (by omega) (by omega)), tu.cell (cell_of_row W6 q 0 _ 119 (0, 0) CQ.out) (NQ.out q (by have := HWS.out; omega) (by omega)), hc' 0 _ rfl, hc' 1 _ rfl, hc' 2 _ rfl, hc' 3 _ rfl⟩)
    have HLEN := hide (show (cutsOf pre).length ≤ 1000 from by
      have h1 := (cuts_bound HF.out HC.out hj hmx hw).2
      have h2 : (cutsOf (pre ++ [(⟨(i, p + 1), hm1, hm2⟩ : Cu l)])).length = (cutsOf pre).length + 1 := by simp [cutsOf]
      omega)
    have NT := hide (note_any bx 0 55 #[.slice pa (plcs l 0 (cutsOf pre)).length pc, e0, e1, e2, l1, l2, s1, s2] (plcs l 0 (cutsOf pre)) pa pc fb.length NL ka va kc vc e W6.drew ((Turns.refl (fun _ => False) W6).drew.heap CX.out (fun x => x)) rfl (by rw [plcs_length]; have := HLEN.out; omega) (PR6.out.keep (Turns.refl (fun _ => False) W6).drew (fun _ _ x => x)) (by have h1 := T6.out.size; have h2 := HWS.out; have h3 := (Turns.refl (fun _ => False) W6).drew.size; omega) (fun h => by have := (PB.out _ h).1; omega) (fun z hz => by
      have h1 := plcs_le l (cutsOf pre) 0 z hz
      have h2 := (cuts_bound HF.out HC.out hj hmx hw).1
      have h3 : sumF l (cutsOf (pre ++ [(⟨(i, p + 1), hm1, hm2⟩ : Cu l)])) = sumF l (cutsOf pre) + (frB l (i, p + 1)).length := by
        rw [show cutsOf (pre ++ [(⟨(i, p + 1), hm1, hm2⟩ : Cu l)]) = cutsOf pre ++ [(i, p + 1)] by simp [cutsOf], sumF_snoc]
      omega))
    have tV : Turns (fun k => k = bx ∨ inRow (.slice pa (plcs l 0 (cutsOf pre)).length pc) k) W6 W6.drew := (Turns.refl _ _).drew
    clear hq hne
    refine region_round (S := fun u => u.cell? ⟨N0, 0, none⟩ = some (.pointer (some ⟨bx, 0, none⟩)) ∧ u.cell? ⟨q, 0, none⟩ = some (.slice xa fb.length xc) ∧ u.cell? ⟨b, off + i * 4 + p * 4, none⟩ = some (.slice ka e.key.length kc) ∧ u.cell? ⟨b, off + i * 4 + p * 4 + 1, none⟩ = some (.int .u64 (e.seq : Nat)) ∧ u.cell? ⟨b, off + i * 4 + p * 4 + 2, none⟩ = some (.int .i64 e.kind) ∧ u.cell? ⟨b, off + i * 4 + p * 4 + 3, none⟩ = some (.slice va e.val.length vc)) (by kernel_rfl) (by kernel_rfl) ?_
    change wpAnyH _ _ _ _ _ 11 (Array.replicate 11 false) _ _
    refine wpAnyH_take (i := 0) (oi := { dst := some 24, op := Op.load 116 (Operand.tmp 3), type := 116, pos := "make.go:96", after := #[], guard := none }) (v := .pointer (some ⟨bx, 0, none⟩)) rfl (by kernel_rfl) (by kernel_rfl) (by kernel_rfl) (fun _ _ _ h => by cases h.1) (Or.inl ⟨by rfl, ?_⟩) (SK.out _ tV) ?_
    · rintro w ⟨d0, d1, d2, d3, d4, d5⟩
      go_simp
    simp only [Act.put, List.setIfInBounds_toArray, List.set_cons_zero, List.set_cons_succ]
    refine wpAnyH_take (i := 1) (oi := { dst := some 25, op := Op.fieldAddr 119 (Operand.tmp 9) 0, type := 0, pos := "make.go:96", after := #[], guard := none }) (v := .pointer (some ⟨q, 0, none⟩)) rfl (by kernel_rfl) (by kernel_rfl) (by kernel_rfl) (fun _ _ _ h => by cases h.1) (Or.inl ⟨by rfl, ?_⟩) (SK.out _ tV) ?_
    · rintro w ⟨d0, d1, d2, d3, d4, d5⟩
      go_simp
    simp only [Act.put, List.setIfInBounds_toArray, List.set_cons_zero, List.set_cons_succ]
    refine wpAnyH_take (i := 2) (oi := { dst := some 26, op := Op.load 28 (Operand.tmp 25), type := 28, pos := "make.go:96", after := #[{ on := 1, ground := Ground.data }], guard := none }) (v := .slice xa fb.length xc) rfl (by kernel_rfl) (by kernel_rfl) (by kernel_rfl) (fun _ _ _ h => by cases h.1) (Or.inl ⟨by rfl, ?_⟩) (SK.out _ tV) ?_
    · rintro w ⟨d0, d1, d2, d3, d4, d5⟩
      go_simp
    simp only [Act.put, List.setIfInBounds_toArray, List.set_cons_zero, List.set_cons_succ]
    refine wpAnyH_take (i := 3) (oi := { dst := some 27, op := Op.call { callee := Callee.builtin Builtin.len, args := #[Operand.tmp 26], argTypes := #[28] }, type := 3, pos := "make.go:96", after := #[{ on := 2, ground := Ground.data }], guard := none }) (v := .int .i64 (fb.length : Nat)) rfl (by kernel_rfl) (by kernel_rfl) (by kernel_rfl) (fun _ _ _ h => by cases h.1) (Or.inl ⟨by rfl, ?_⟩) (SK.out _ tV) ?_
    · rintro w ⟨d0, d1, d2, d3, d4, d5⟩
      go_simp
    simp only [Act.put, List.setIfInBounds_toArray, List.set_cons_zero, List.set_cons_succ]
    refine wpAnyH_take (i := 4) (oi := { dst := some 28, op := Op.move (Operand.tmp 8), type := 37, pos := "make.go:96", after := #[], guard := none }) (v := .slice (some ⟨b, off + i * 4, none⟩) (p + 1) (c - i)) rfl (by kernel_rfl) (by kernel_rfl) (by kernel_rfl) (fun _ _ _ h => by cases h.1) (Or.inl ⟨by rfl, ?_⟩) (SK.out _ tV) ?_
    · rintro w ⟨d0, d1, d2, d3, d4, d5⟩
      go_simp
    simp only [Act.put, List.setIfInBounds_toArray, List.set_cons_zero, List.set_cons_succ]
    refine wpAnyH_take (i := 5) (oi := { dst := some 29, op := Op.move (Operand.tmp 8), type := 37, pos := "make.go:96", after := #[], guard := none }) (v := .slice (some ⟨b, off + i * 4, none⟩) (p + 1) (c - i)) rfl (by kernel_rfl) (by kernel_rfl) (by kernel_rfl) (fun _ _ _ h => by cases h.1) (Or.inl ⟨by rfl, ?_⟩) (SK.out _ tV) ?_
    · rintro w ⟨d0, d1, d2, d3, d4, d5⟩
      go_simp
    simp only [Act.put, List.setIfInBounds_toArray, List.set_cons_zero, List.set_cons_succ]
    refine wpAnyH_take (i := 6) (oi := { dst := some 30, op := Op.call { callee := Callee.builtin Builtin.len, args := #[Operand.tmp 29], argTypes := #[37] }, type := 3, pos := "make.go:96", after := #[{ on := 5, ground := Ground.data }], guard := none }) (v := .int .i64 ((p : Int) + 1)) rfl (by kernel_rfl) (by kernel_rfl) (by kernel_rfl) (fun _ _ _ h => by cases h.1) (Or.inl ⟨by rfl, ?_⟩) (SK.out _ tV) ?_
    · rintro w ⟨d0, d1, d2, d3, d4, d5⟩
      go_simp
    simp only [Act.put, List.setIfInBounds_toArray, List.set_cons_zero, List.set_cons_succ]
    refine wpAnyH_take (i := 7) (oi := { dst := some 31, op := Op.binOp BinOp.sub 3 (Operand.tmp 30) (Operand.const (Value.int IntKind.i64 1)) 3, type := 3, pos := "make.go:96", after := #[{ on := 6, ground := Ground.data }], guard := none }) (v := .int .i64 (p : Nat)) rfl (by kernel_rfl) (by kernel_rfl) (by kernel_rfl) (fun _ _ _ h => by cases h.1) (Or.inl ⟨by rfl, ?_⟩) (SK.out _ tV) ?_
    · rintro w ⟨d0, d1, d2, d3, d4, d5⟩
      go_simp; (try simp [IntKind.wrap, IntKind.bits, IntKind.signed]); omega
    simp only [Act.put, List.setIfInBounds_toArray, List.set_cons_zero, List.set_cons_succ]
    refine wpAnyH_take (i := 8) (oi := { dst := some 32, op := Op.indexAddr 37 (Operand.tmp 28) (Operand.tmp 31), type := 0, pos := "make.go:96", after := #[{ on := 4, ground := Ground.data }, { on := 7, ground := Ground.data }], guard := none }) (v := .pointer (some ⟨b, off + i * 4 + p * 4, none⟩)) rfl (by kernel_rfl) (by kernel_rfl) (by kernel_rfl) (fun _ _ _ h => by cases h.1) (Or.inl ⟨by rfl, ?_⟩) (SK.out _ tV) ?_
    · rintro w ⟨d0, d1, d2, d3, d4, d5⟩
      go_simp; intro h; omega
    simp only [Act.put, List.setIfInBounds_toArray, List.set_cons_zero, List.set_cons_succ]
    refine wpAnyH_take (i := 9) (oi := { dst := some 33, op := Op.load 35 (Operand.tmp 32), type := 35, pos := "make.go:96", after := #[{ on := 8, ground := Ground.data }], guard := none }) (v := .agg #[.slice ka e.key.length kc, .int .u64 (e.seq : Nat), .int .i64 e.kind, .slice va e.val.length vc]) rfl (by kernel_rfl) (by kernel_rfl) (by kernel_rfl) (fun _ _ _ h => by cases h.1) (Or.inl ⟨by rfl, ?_⟩) (SK.out _ tV) ?_
    · rintro w ⟨d0, d1, d2, d3, d4, d5⟩
      go_simp
    simp only [Act.put, List.setIfInBounds_toArray, List.set_cons_zero, List.set_cons_succ]
    refine wpAnyH_ready (rs := [10]) (by kernel_rfl) (by simp) ?_
    refine AllReadyH.cons rfl (fun K hK => ?_) AllReadyH.nil
    go_simp
    refine NT.out.mono ?_
    rintro oo V1 ⟨⟨rv, rfl⟩, pv1, hx1, hp1, hi1, ht1⟩
    have tV := tV.trans ht1
    go_simp
    refine hK.out _ _ (SK.out _ tV) (fun _ => ?_)
    clear hK K
    refine wpAnyH_done (by kernel_rfl) ?_ _
    refine ⟨rfl, ?_⟩
    have PLC := hide (show plcs l 0 (cutsOf (pre ++ [(⟨(i, p + 1), hm1, hm2⟩ : Cu l)])) = plcs l 0 (cutsOf pre) ++ [⟨endP (plcs l 0 (cutsOf pre)), fb.length, ⟨ka, kc, va, vc, e⟩⟩] from by
      rw [show cutsOf (pre ++ [(⟨(i, p + 1), hm1, hm2⟩ : Cu l)]) = cutsOf pre ++ [(i, p + 1)] by simp [cutsOf], plcs_snoc, plcs_end, Nat.zero_add, HFB.out, HY.out])
    rw [← PLC.out] at hp1
    obtain ⟨pa1, pc1, rfl⟩ := hp1.len
    have hx1' : V1.heap[bx]? = some (.cells #[.slice pa1 (plcs l 0 (cutsOf (pre ++ [(⟨(i, p + 1), hm1, hm2⟩ : Cu l)]))).length pc1, e0, e1, e2, l1, l2, s1, s2] 55 (0, 0)) := hx1
    have TV := hide tV
    have X1 := hide hx1'
    have P1 := hide hp1
    have SUM := hide (show sumF l (cutsOf (pre ++ [(⟨(i, p + 1), hm1, hm2⟩ : Cu l)])) ≤ 160000 from (cuts_bound HF.out HC.out hj hmx hw).1)
    have EA := hide (end_any bx 0 (plcs l 0 (cutsOf (pre ++ [(⟨(i, p + 1), hm1, hm2⟩ : Cu l)]))) pa1 pc1 V1 (cell_of_row V1 bx 0 _ 55 (0, 0) hx1') (by have e1 : (cutsOf (pre ++ [(⟨(i, p + 1), hm1, hm2⟩ : Cu l)])).length = (cutsOf pre).length + 1 := (by simp [cutsOf]); have := HLEN.out; rw [plcs_length]; omega) NL hp1 (fun z hz => by have := plcs_le l _ 0 z hz; have := SUM.out; omega))
    rw [plcs_end] at EA
    have hep := SUM.out
    generalize sumF l (cutsOf (pre ++ [(⟨(i, p + 1), hm1, hm2⟩ : Cu l)])) = ep at EA hep
    have hs3 := (SK.out _ tV).1
    clear hx1 hx1' hp1 hi1 ht1 tV SK NT
    gi_wp2
    refine ⟨trivial, ?_⟩
    refine (callsIn_wide.2 EA.out).mono ?_
    rintro oo V2 ⟨rfl, b2⟩
    have B2 := hide (Turns.of_below b2 (fun _ => False))
    clear b2 EA
    have hle : ¬ (16777216 : Int) < (ep : Int) := by omega
    gi_wp2
    have hq := HQ.out
    have hs1 := HS1.out
    have hrf : ∀ k, inRow (.slice fa pts.length fc) k → NL ≤ k ∧ ∃ cs, W.heap[k]? = some (.cells cs 119 (0, 0)) := fun k h => ⟨(HI.out.tr.row h).1, (HI.out.tr.row h).2.2⟩
    have hrp : ∀ k, inRow (.slice pa (plcs l 0 (cutsOf pre)).length pc) k → NL ≤ k ∧ ∃ cs, W.heap[k]? = some (.cells cs 147 (0, 0)) := fun k h => ⟨(HI.out.pr.row h).1, HI.out.pr.typed h⟩
    have TWV : Turns (fun k => (k = b7 ∨ inRow (.slice fa pts.length fc) k) ∨ (k = bx ∨ inRow (.slice pa (plcs l 0 (cutsOf pre)).length pc) k)) W V2 := ((T6.out.mono fun _ _ x => .inl x).trans (TV.out.mono fun _ _ x => .inr x)).trans (B2.out.mono fun _ _ x => x.elim)
    have h5 : ∀ k, (k = b7 ∨ inRow (.slice fa pts.length fc) k) → k < NL ∨ ∃ cs ty fr, W.heap[k]? = some (.cells cs ty fr) ∧ ty ≠ 5 := fun k h => h.elim (fun h => .inl (by omega)) (fun h => by obtain ⟨_, cs, e⟩ := hrf k h; exact .inr ⟨cs, _, _, e, by decide⟩)
    have h6 : ∀ k, (k = bx ∨ inRow (.slice pa (plcs l 0 (cutsOf pre)).length pc) k) → k < NL ∨ ∃ cs ty fr, W6.heap[k]? = some (.cells cs ty fr) ∧ ty ≠ 5 := fun k h => h.elim (fun h => .inl (by omega)) (fun h => by obtain ⟨_, _, cs, e⟩ := PB.out k h; exact .inr ⟨cs, _, _, e, by decide⟩)
    refine ⟨keepsFrom_turns TWV ?_, TWV.mono ?_, .slice (some ⟨g5, 0, none⟩) n5 c5, .slice pa1 (plcs l 0 (cutsOf (pre ++ [(⟨(i, p + 1), hm1, hm2⟩ : Cu l)]))).length pc1, pts ++ [⟨xa, xc, fb⟩], ?_⟩
    · rintro k ((h | h) | (h | h))
      · exact .inl (by omega)
      · obtain ⟨_, cs, e⟩ := hrf k h
        exact .inr (.inr ⟨cs, _, _, e⟩)
      · exact .inl (by omega)
      · obtain ⟨_, cs, e⟩ := hrp k h
        exact .inr (.inr ⟨cs, _, _, e⟩)
    · rintro k _ ((h | h) | (h | h))
      · exact ⟨by omega, by omega, by omega⟩
      · have := (hrf k h).1; exact ⟨by omega, by omega, by omega⟩
      · exact ⟨by omega, by omega, by omega⟩
      · have := (hrp k h).1; exact ⟨by omega, by omega, by omega⟩
    · refine ⟨B2.out.heap (TV.out.heap N7.out (NQ.out b7 (by omega) (by omega))) (fun x => x), (TR6.out.keep TV.out fun k hk h => ?_).keep B2.out (fun _ _ x => x), ?_, ?_, B2.out.heap X1.out (fun x => x), P1.out.keep B2.out (fun _ _ x => x), B2.out.heap (TV.out.heap C3.out (NQ.out N0 (by omega) (by omega))) (fun x => x), B2.out.heap (TV.out.heap C6.out (NQ.out b6 (by omega) (by omega))) (fun x => x), (LOW.out.trans (TV.out.mono fun k _ h => ?_)).trans (B2.out.mono fun _ _ x => x.elim)⟩
      · obtain ⟨h1, h2, cs, e1⟩ := TR6.out.row hk
        rcases h with h | h
        · omega
        · obtain ⟨_, _, cs2, e2⟩ := PB.out k h
          rw [e1] at e2
          cases e2
      · intro y hy
        rcases List.mem_append.1 hy with hy | hy
        · have := HI.out.fr y hy
          exact ⟨((this.1.keep5 T6.out h5).keep5 TV.out h6).turns B2.out (fun _ _ x => x), this.2⟩
        · obtain rfl := List.mem_singleton.1 hy
          exact ⟨((show Fresh NL W6 (.slice xa fb.length xc) fb from FX6.out).keep5 TV.out h6).turns B2.out (fun _ _ x => x), HFL.out.1⟩
      · rw [show cutsOf (pre ++ [(⟨(i, p + 1), hm1, hm2⟩ : Cu l)]) = cutsOf pre ++ [(i, p + 1)] by simp [cutsOf], List.map_append, List.map_append, HI.out.bs]
        simp [HFB.out]
      · rcases h with h | h
        · exact .inl h
        · exact .inr (by have := (PB.out k h).1; omega)
  case done =>
    rintro D xs W hD hS ⟨fv, pv, pts, hI⟩ hK
    obtain ⟨fa, fc, rfl⟩ := hI.tr.len
    have hbd := cuts_bound HF.out hS (Nat.le_refl _) hmx hw
    have hall : allB pts = (cutsOf xs).flatMap (frB l) := by
      unfold allB
      rw [List.flatMap_def, hI.bs, ← List.flatMap_def]
    have hal : (allB pts).length = sumF l (cutsOf xs) := by
      rw [hall, List.length_flatMap]
      rfl
    have hpl : pts.length = (cutsOf xs).length := by have := congrArg List.length hI.bs; simpa using this
    have TG := hide (together_ok fa pts.length fc pts W (hI.tr.pts fun y hy => ⟨(hI.fr y hy).1.bytes, (hI.fr y hy).2⟩) rfl (by omega) (by omega))
    rw [hall] at TG
    have c3 : W.cell? ⟨b7, 0, none⟩ = some (.slice fa pts.length fc) := cell_of_row W b7 0 _ 159 (0, 0) hI.c7
    have HI := hide hI
    have HK := hide hK
    have HS := hide hS
    have HD := hide hD
    clear hq hne hs1 hI hK hS hbd hall hal hpl
    gi_wp2
    refine ⟨trivial, ?_⟩
    refine (callsIn_wide.2 TG.out).mono ?_
    rintro e w2 ⟨v, rfl, ⟨xv, rfl, hfr⟩, b2⟩
    obtain ⟨xa, xc, rfl⟩ := hfr.len
    have B2 := hide b2
    have FR := hide hfr
    have N6 := hide ((Turns.of_below b2 (fun _ => False)).heap HI.out.c6 (fun x => x))
    clear b2 hfr TG
    generalize hfb : (cutsOf xs).flatMap (frB l) = fb at *
    have HFB := hide hfb
    clear hfb
    gi_wp2_with (refine wpListIn_store_row rfl 119 (.tmp 6) (.tmp 40) rfl _ #[.slice xa fb.length xc, .int .i64 0] rfl rfl _ _ N6.out ?_ ?_ ?_ ?_; (exact info119); (simp only [List.size_toArray, List.length_cons, List.length_nil]); (simp [Value.oneCell']))
    have hq := HQ.out
    have hs1 := HS1.out
    have hD := HD.out
    have hDW := lt_of_heap HK.out
    have t2 := Turns.of_below B2.out (fun _ => False)
    have tr : Turns (fun j => j = b6) w2 (w2.setRow b6 #[.slice xa fb.length xc, .int .i64 0]) := ⟨rfl, rfl, rfl, by simp, fun k _ hk => setRow_other _ _ _ _ hk⟩
    have hd3 := tr.heap (t2.heap HK.out (fun x => x)) (fun e => by omega)
    have tp := turns_put (.deferred none) hd3
    have tA : Turns (fun k => k = b6 ∨ k = D) W ((w2.setRow b6 #[.slice xa fb.length xc, .int .i64 0]).putObj D (.deferred none)) := ((t2.mono fun _ _ x => x.elim).trans (tr.mono fun _ _ e => .inl e)).trans (tp.mono fun _ _ e => .inr e)
    have h6 := tp.heap (setRow_heap _ _ _ _ _ _ N6.out) (fun e => by omega) (k := b6)
    refine ⟨by simp, .inl ⟨_, _, rfl, run_takeDeferred hd3, ?_⟩⟩
    refine ⟨_, results_cell_row Tryz.results67 _ _ _ _ _ _ _ rfl h6 Tryz.underlying119 rfl info119, _, pv, cutsOf xs, rfl, HS.out, ⟨_, rfl, ?_⟩, tA.heap HI.out.cx (fun h => h.elim (fun e => by omega) (fun e => by omega)), (HI.out.pr.keep tA fun k hk h => ?_).le (by have := HNE.out; omega), (HI.out.low.trans (tA.mono fun k _ h => ?_)).mono fun k _ h => ?_⟩
    · rw [HFB.out]
      exact ((FR.out.turns tr (fun k hk e => by omega)).turns tp (fun k hk e => by omega)).le (by have := HI.out.low.size; omega)
    · have := (HI.out.pr.row hk).1
      rcases h with h | h
      · omega
      · obtain ⟨cs, e⟩ := HI.out.pr.typed hk
        rw [h, HK.out] at e
        cases e
    · exact .inr (h.elim (fun e => by omega) (fun e => by omega))
    · exact h.imp id (fun e => by have := HNE.out; omega)
  case stop =>
    rintro D cc pre W hD hS hI hK
    exact hI.elim
end Go.Proofs.YtjklbhdhjfifhaaGreat
