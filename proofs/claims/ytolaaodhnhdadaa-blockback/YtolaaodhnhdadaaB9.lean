/-
  Append of a block with nothing ahead.
-/
import Derived.Test.YtolaaodhnhdadaaB8
namespace Go.Proofs.Ytolaaodhnhdadaa
open Go.RowKit
set_option maxRecDepth 100000
set_option maxHeartbeats 8000000
theorem lt_of_row {w : World} {g c : Nat} {bs : List (BitVec 8)} (h : RowB w g c bs) : g < w.heap.size := by
  obtain ⟨cs, h1, _⟩ := h
  exact lt_of_heap h1
def apOk (w : World) (es : List Ent) (e : Ending) (w' : World) : Prop :=
  ∃ g c, e = .returned (.tuple #[.slice (some ⟨g, 0, none⟩) (blkB es).length c, .int .i64 0]) ∧ w.heap.size ≤ g ∧ (blkB es).length ≤ c ∧ RowB w' g c (blkB es)
theorem append_bad (a : Option Addr) (n c : Nat) (l : List Tow) (w : World) (h : Ents w a l) (hn : n = l.length) (hmx : n ≤ 1000) (hf : Good l) (hc : chkL (ents l) = 2) :
    Calls Try.prog 6 #[.slice none 0 0, .slice a n c] w fun e w' => e = .returned (.tuple #[.slice none 0 0, .int .i64 2]) ∧ Below w.heap.size w w' := by
  have HQ := hide (check_all a n c l w h hn (by omega) hf)
  rw [hc] at HQ
  clear h hf hc hn
  go_enter Try.func6, Try.ntmps6
  go_wp2_with fail
  refine HQ.out.mono ?_
  rintro e w1 ⟨rfl, b1⟩
  have B1 := hide b1
  clear b1
  go_wp2_with fail
  go_returns
  exact ⟨rfl, B1.out⟩
theorem append_ok (a : Option Addr) (n c : Nat) (l : List Tow) (w : World) (h : Ents w a l) (hn : n = l.length) (hmx : n ≤ 1000) (hw : wt (ents l) ≤ 100000) (hf : Good l) (hc : chkL (ents l) = 0) :
    Calls Try.prog 6 #[.slice none 0 0, .slice a n c] w fun e w' => apOk w (ents l) e w' ∧ Below w.heap.size w w' := by
  have HQ := hide (check_all a n c l w h hn (by omega) hf)
  rw [hc] at HQ
  have HS := hide (fun u (t : Turns (fun _ => False) w u) => size_all a n c l u (h.quiet t) hn hmx (by omega) hf)
  have hblk : (blkB (ents l)).length ≤ 200000 := by
    have h1 := szK_le l hf n
    rw [szK, List.take_of_length_le (by omega)] at h1
    rw [blkB_len]
    omega
  have HL := hide hn
  have HA := hide h
  have HF := hide hf
  have HBL := hide (blkB_len (ents l))
  clear h hf hc hn
  generalize hB : w.heap.size = B
  have HB := hide hB
  clear hB
  generalize hLn : (blkB (ents l)).length = LEN at *
  have HLN := hide hLn
  clear hLn
  go_enter Try.func6, Try.ntmps6
  go_wp2_with fail
  refine HQ.out.mono ?_
  rintro e w1 ⟨rfl, b1⟩
  have T1 := hide (Turns.of_below b1 (fun _ => False))
  clear b1 HQ
  go_wp2_with fail
  refine (HS.out w1 T1.out).mono ?_
  rintro e w2 ⟨rfl, b2⟩
  have T2 := hide (T1.out.trans (Turns.of_below b2 (fun _ => False)))
  have hlt : ¬ (262144 : Int) < (LEN : Int) := by omega
  clear b2 T1
  obtain ⟨cs, hmk, hcs⟩ := make22 LEN (by omega) w2
  obtain ⟨g, cg, w3, hr, hg, hrow, hb3, hcg, hroom, _⟩ := append_bytes2 (w2.alloc (.cells cs 5)) w2.heap.size (some ⟨w2.heap.size, 0, none⟩) 0 LEN [] rfl (.slice none 0 0) [] 0 rfl (Bytes.empty _) (by simp)
    (.inr ⟨_, rfl, Nat.le_refl _, Nat.zero_le _, row_made hcs⟩) (by omega)
  obtain ⟨e1, rfl⟩ := hroom (by omega)
  obtain rfl : g = w2.heap.size := by cases e1; rfl
  rw [Nat.add_zero] at hr
  have T3 := hide (T2.out.trans (Turns.of_below (((Below.refl w2.heap.size w2).alloc (Nat.le_refl _) _).trans hb3) (fun _ => False)))
  have HA := hide hr
  have ROW := hide hrow
  have hw2 := T2.out.size
  rw [HB.out] at hw2
  generalize hG : w2.heap.size = G at *
  clear hcs hr hrow hb3 hroom e1 hcg hG
  go_wp2_with (at_builtin; refine wpList_append_run rfl (.tmp 25) (.tmp 26) 22 rfl (.slice (some ⟨G, 0, none⟩) 0 cg) (.slice none 0 0) rfl rfl _ _ (HA.out _) ?_)
  clear HA hmk
  go_loopw [8, 9, 30] (fun o rs i wr => ∃ (k g1 c1 m1 : Nat) (v : Value), o = .slice (some ⟨g1, 0, none⟩) m1 c1 ∧ rs = v ∧ i = .int .i64 (k : Nat) ∧ k ≤ n ∧ m1 = (rowB 0 [] (ents (l.take k))).length ∧ m1 ≤ c1 ∧ RowB wr g1 c1 (rowB 0 [] (ents (l.take k))) ∧ IRow wr B v (mk (ents (l.take k))) ∧ B ≤ g1 ∧ ¬ inRow v g1 ∧ Turns (fun _ => False) w wr) (fun _ _ i _ => n - (intOf i).toNat)
  case atStart => exact ⟨0, G, cg, 0, _, rfl, rfl, rfl, by omega, rfl, by omega, ROW.out, .inl ⟨rfl, rfl⟩, hw2, (fun ⟨_, _, q⟩ => by cases q), T3.out⟩
  case round =>
    obtain ⟨k, g1, c1, m1, _, rfl, rfl, rfl, hk, hm1, hmc1, hrow1, hI1, hg1, hni, ht⟩ := hrel
    have hll := HL.out
    have hml : m1 ≤ 200000 := by
      have h1 := szK_le l HF.out k
      unfold szK at h1
      omega
    have HM1 := hide hm1
    have HROW := hide hrow1
    have HIw := hide hI1
    have HNI := hide hni
    have HT := hide ht
    by_cases hk2 : k < n
    · have i1 : (k : Int) < n := by omega
      have i0 : (0 : Int) ≤ (k : Int) := by omega
      have hkl : k < l.length := by omega
      have henT := HA.out.quiet ht
      obtain ⟨⟨b, off, rfl, hc⟩, _, _⟩ := henT k l[k] (List.getElem?_eq_getElem hkl)
      obtain ⟨_, k1, k2⟩ := HA.out k l[k] (List.getElem?_eq_getElem hkl)
      have hfk := HF.out l[k] (List.getElem_mem hkl)
      have hxk : l[k]? = some l[k] := List.getElem?_eq_getElem hkl
      have hs := (shr_le k (prevK l k) l[k].e.key).2
      have HTE := hide (show ents (l.take (k + 1)) = ents (l.take k) ++ [l[k].e] by rw [List.take_succ_eq_append_getElem hkl, ents, List.map_append]; rfl)
      have HTL := hide (show (ents (l.take k)).length = k by simp [ents]; omega)
      have HRB := hide (show rowB 0 [] (ents (l.take (k + 1))) = rowB 0 [] (ents (l.take k)) ++ entB (shr k (prevK l k) l[k].e.key) l[k].e by rw [HTE.out, rowB_snoc, HTL.out, Nat.zero_add, lastK_prev l k (by omega)])
      generalize l[k] = x at *
      have HSH := hide (fun u (t : Turns (fun _ => False) w u) => shared_any (some ⟨b, off, none⟩) n c l u (HA.out.quiet t) k x hxk HL.out (by omega) (fun y hy => by have := (chk1_fine (HF.out y hy).1).2.2.2.2.1; omega))
      have HAE := hide (fun u (t : Turns (fun _ => False) w u) (r : RowB u g1 c1 (rowB 0 [] (ents (l.take k)))) => appendEntry_any g1 c1 _ m1 HM1.out x hfk.1 _ hs hfk.2 u hmc1 r (by omega)
        (fun w' t' => Bytes.below k1 ((t.andThen t' (S := fun _ => False) (fun j hj q => by have := HB.out; omega)).below (Nat.le_refl _) (fun _ q => q.elim)))
        (fun w' t' => Bytes.below k2 ((t.andThen t' (S := fun _ => False) (fun j hj q => by have := HB.out; omega)).below (Nat.le_refl _) (fun _ q => q.elim))))
      have b1 := (Below.refl wr.heap.size wr).alloc (Nat.le_refl _) (.cells #[x.kv, .int .u64 (x.e.seq : Nat), .int .i64 x.e.kind, x.vv] 28)
      have HBOX := hide (heap_alloc_new wr (.cells #[x.kv, .int .u64 (x.e.seq : Nat), .int .i64 x.e.kind, x.vv] 28))
      have TW := hide (HT.out.trans (Turns.of_below b1 (fun _ => False)))
      have HI1 := hide (hI1.keep (Turns.of_below b1 (fun _ => False)) (fun _ _ x => x))
      have HRW := hide (show RowB _ g1 c1 _ from RowC.below hrow1 b1)
      have hsW : (wr.alloc (.cells #[x.kv, .int .u64 (x.e.seq : Nat), .int .i64 x.e.kind, x.vv] 28)).heap.size = wr.heap.size + 1 := by simp
      have hBw : B ≤ wr.heap.size := by have := HT.out.size; have := HB.out; omega
      have hG01 : ¬ wr.heap.size = g1 := by have := lt_of_row hrow1; omega
      generalize hEL : (entB (shr k (prevK l k) x.e.key) x.e).length = EL at *
      have HEL := hide hEL
      generalize hsh : shr k (prevK l k) x.e.key = s at *
      obtain ⟨ka, kc, va, vc, e⟩ := x
      simp only [Tow.kv, Tow.vv] at *
      have c0 : wr.cell? ⟨b, off + k * 4, none⟩ = some (.slice ka e.key.length kc) := hc 0 _ rfl
      have c1' : wr.cell? ⟨b, off + k * 4 + 1, none⟩ = some (.int .u64 (e.seq : Nat)) := hc 1 _ rfl
      have c2' : wr.cell? ⟨b, off + k * 4 + 2, none⟩ = some (.int .i64 e.kind) := hc 2 _ rfl
      have c3' : wr.cell? ⟨b, off + k * 4 + 3, none⟩ = some (.slice va e.val.length vc) := hc 3 _ rfl
      clear hc k1 k2 ht b1 hfk henT hxk hs hsh hEL hll hm1 hrow1 hI1 hni
      generalize hW : wr.alloc (.cells #[.slice ka e.key.length kc, .int .u64 (e.seq : Nat), .int .i64 e.kind, .slice va e.val.length vc] 28) = W at *
      by_cases hr16 : k % 16 = 0
      · obtain ⟨gr, nr, cr, w4, hr, hI4, t4, b4, hg4⟩ := append_int W B u9 _ HI1.out (by omega) (by rw [mk_len, HTL.out]; omega) m1
        rw [hsW] at hr
        have hrow4 := RowC.turns HRW.out t4 (fun q => HNI.out q)
        have hbox4 := t4.heap HBOX.out (fun q => by have := (HIw.out.row q).2; omega)
        have hT4 := TW.out.andThen t4 (fun j hj q => by have := (HIw.out.row q).1; have := HB.out; omega)
        have hni4 : ¬ inRow (.slice (some ⟨gr, 0, none⟩) nr cr) g1 := fun q => by
          obtain ⟨n', c', e⟩ := q
          cases e
          rcases hg4 with q | q
          · exact HNI.out q
          · have := lt_of_row HROW.out; omega
        have hmk : mk (ents (l.take k)) ++ [m1] = mk (ents (l.take (k + 1))) := by
          rw [HTE.out, mk, mk, marks_snoc, HTL.out, Nat.zero_add, if_pos hr16, Nat.zero_add, HM1.out]
        rw [hmk] at hI4
        have hbox1 := hbox4
        have HA := hide hr
        have HROW4 := hide (show RowB w4 g1 c1 _ from hrow4)
        have HI4 := hide hI4
        have HT4 := hide hT4
        have HNI4 := hide hni4
        have HSZ4 := hide t4.size
        have f0 : w4.cell? ⟨wr.heap.size, 0, none⟩ = some (.slice ka e.key.length kc) := cell_of_row w4 _ 0 _ 28 (0, 0) hbox4
        have f1 : w4.cell? ⟨wr.heap.size, 1, none⟩ = some (.int .u64 (e.seq : Nat)) := cell_of_row w4 _ 1 _ 28 (0, 0) hbox4
        have f2 : w4.cell? ⟨wr.heap.size, 2, none⟩ = some (.int .i64 e.kind) := cell_of_row w4 _ 2 _ 28 (0, 0) hbox4
        have f3 : w4.cell? ⟨wr.heap.size, 3, none⟩ = some (.slice va e.val.length vc) := cell_of_row w4 _ 3 _ 28 (0, 0) hbox4
        clear hr hI4 t4 b4 hg4 hrow4 hbox4 hT4 hni4 hmk hbox1
        go_wp2_with (first
          | (go_at_call 21; refine (isRestart_any k _).mono ?_; rintro e' w1' ⟨rfl, rfl⟩; rw [decide_eq_true hr16])
          | (at_builtin; refine wpList_append_run rfl (.tmp 37) (.tmp 43) 47 rfl u9 (.slice (some ⟨wr.heap.size + 1, 0, none⟩) 1 1) rfl rfl _ _ (HA.out _) ?_))
        generalize (.slice (some ⟨gr, 0, none⟩) nr cr : Value) = v4 at *
        have HSH1 := hide (HSH.out w4.drew HT4.out.drew)
        generalize wr.heap.size = G0 at *
        go_region_held (fun w' => w'.cell? ⟨G0, 0, none⟩ = some (.slice ka e.key.length kc) ∧ w'.cell? ⟨G0, 1, none⟩ = some (.int .u64 (e.seq : Nat)) ∧ w'.cell? ⟨G0, 2, none⟩ = some (.int .i64 e.kind) ∧ w'.cell? ⟨G0, 3, none⟩ = some (.slice va e.val.length vc)) (first | (with_reducible exact ⟨p0, p1, p2, p3⟩) | (with_reducible exact ⟨q0, q1, q2, q3⟩) | (simp only [World.cell?_drew]; with_reducible exact ⟨f0, f1, f2, f3⟩)) (first
          | (go_at_call 23; refine HSH1.out.mono ?_; rintro y w5 ⟨rfl, m2, hw5⟩; have t5 : Turns (fun _ => False) w4 w5 := by rw [hw5]; exact (Turns.refl _ w4).drew.drewN m2
             have q0 := t5.cell f0 (fun x => x); have q1 := t5.cell f1 (fun x => x); have q2 := t5.cell f2 (fun x => x); have q3 := t5.cell f3 (fun x => x); have T5 := hide t5; clear t5 hw5)
          | (go_at_call 22; refine (HAE.out w5 (HT4.out.trans T5.out) (RowC.turns HROW4.out T5.out (fun x => x))).mono ?_; rintro y w6 ⟨g2, c2, rfl, hc2, hrow6, hg6⟩; have p0 := hg6.turns.cell q0 hG01; have p1 := hg6.turns.cell q1 hG01; have p2 := hg6.turns.cell q2 hG01; have p3 := hg6.turns.cell q3 hG01; have HG6 := hide hg6; have HR6 := hide hrow6; clear hg6 hrow6))
        clear p0 p1 p2 p3 q0 q1 q2 q3
        go_wp2_with fail
        go_roundw
        case rel =>
          have hT6 := (HT4.out.trans T5.out).andThen HG6.out.turns (fun j hj q => by have := HB.out; omega)
          refine ⟨k + 1, g2, c2, m1 + EL, v4, rfl, rfl, by go_num, by omega, ?_, hc2, ?_, ?_, ?_, ?_, hT6⟩
          · rw [HRB.out, List.length_append, ← HM1.out, HEL.out]
          · rw [HRB.out]; exact HR6.out
          · exact (HI4.out.keep T5.out (fun _ _ x => x)).keep HG6.out.turns (fun j hj q => HNI4.out (by rw [← q]; exact hj))
          · have h9 := T5.out.size
            have h8 := HT4.out.size
            have h7 := HB.out
            rcases HG6.out.own with q | q <;> omega
          · intro q
            have h9 := T5.out.size
            rcases HG6.out.own with q' | q'
            · rw [q'] at q; exact HNI4.out q
            · have := (HI4.out.row q).2; omega
        case measure => simp [intOf]; omega
      · have hmk : mk (ents (l.take k)) = mk (ents (l.take (k + 1))) := by
          rw [HTE.out, mk, mk, marks_snoc, HTL.out, Nat.zero_add, if_neg hr16, List.append_nil]
        have hI4 := HI1.out
        rw [hmk] at hI4
        have HI4 := hide hI4
        have HROW4 := hide HRW.out
        have HT4 := hide TW.out
        have HNI4 := hide HNI.out
        have HSZ4 := hide (Nat.le_refl W.heap.size)
        have f0 : W.cell? ⟨wr.heap.size, 0, none⟩ = some (.slice ka e.key.length kc) := cell_of_row W _ 0 _ 28 (0, 0) HBOX.out
        have f1 : W.cell? ⟨wr.heap.size, 1, none⟩ = some (.int .u64 (e.seq : Nat)) := cell_of_row W _ 1 _ 28 (0, 0) HBOX.out
        have f2 : W.cell? ⟨wr.heap.size, 2, none⟩ = some (.int .i64 e.kind) := cell_of_row W _ 2 _ 28 (0, 0) HBOX.out
        have f3 : W.cell? ⟨wr.heap.size, 3, none⟩ = some (.slice va e.val.length vc) := cell_of_row W _ 3 _ 28 (0, 0) HBOX.out
        clear hI4 hmk
        go_wp2_with (first
          | (go_at_call 21; refine (isRestart_any k _).mono ?_; rintro e' w1' ⟨rfl, rfl⟩; rw [decide_eq_false hr16]))
        generalize u9 = v4 at *
        have HSH1 := hide (HSH.out w1'.drew HT4.out.drew)
        generalize wr.heap.size = G0 at *
        go_region_held (fun w' => w'.cell? ⟨G0, 0, none⟩ = some (.slice ka e.key.length kc) ∧ w'.cell? ⟨G0, 1, none⟩ = some (.int .u64 (e.seq : Nat)) ∧ w'.cell? ⟨G0, 2, none⟩ = some (.int .i64 e.kind) ∧ w'.cell? ⟨G0, 3, none⟩ = some (.slice va e.val.length vc)) (first | (with_reducible exact ⟨p0, p1, p2, p3⟩) | (with_reducible exact ⟨q0, q1, q2, q3⟩) | (simp only [World.cell?_drew]; with_reducible exact ⟨f0, f1, f2, f3⟩)) (first
          | (go_at_call 23; refine HSH1.out.mono ?_; rintro y w5 ⟨rfl, m2, hw5⟩; have t5 : Turns (fun _ => False) w1' w5 := by rw [hw5]; exact (Turns.refl _ w1').drew.drewN m2
             have q0 := t5.cell f0 (fun x => x); have q1 := t5.cell f1 (fun x => x); have q2 := t5.cell f2 (fun x => x); have q3 := t5.cell f3 (fun x => x); have T5 := hide t5; clear t5 hw5)
          | (go_at_call 22; refine (HAE.out w5 (HT4.out.trans T5.out) (RowC.turns HROW4.out T5.out (fun x => x))).mono ?_; rintro y w6 ⟨g2, c2, rfl, hc2, hrow6, hg6⟩; have p0 := hg6.turns.cell q0 hG01; have p1 := hg6.turns.cell q1 hG01; have p2 := hg6.turns.cell q2 hG01; have p3 := hg6.turns.cell q3 hG01; have HG6 := hide hg6; have HR6 := hide hrow6; clear hg6 hrow6))
        clear p0 p1 p2 p3 q0 q1 q2 q3
        go_wp2_with fail
        go_roundw
        case rel =>
          have hT6 := (HT4.out.trans T5.out).andThen HG6.out.turns (fun j hj q => by have := HB.out; omega)
          refine ⟨k + 1, g2, c2, m1 + EL, v4, rfl, rfl, by go_num, by omega, ?_, hc2, ?_, ?_, ?_, ?_, hT6⟩
          · rw [HRB.out, List.length_append, ← HM1.out, HEL.out]
          · rw [HRB.out]; exact HR6.out
          · exact (HI4.out.keep T5.out (fun _ _ x => x)).keep HG6.out.turns (fun j hj q => HNI4.out (by rw [← q]; exact hj))
          · have h9 := T5.out.size
            have h8 := HT4.out.size
            have h7 := HB.out
            rcases HG6.out.own with q | q <;> omega
          · intro q
            have h9 := T5.out.size
            rcases HG6.out.own with q' | q'
            · rw [q'] at q; exact HNI4.out q
            · have := (HI4.out.row q).2; omega
        case measure => simp [intOf]; omega
    · have i1 : ¬ (k : Int) < n := by omega
      obtain rfl : k = n := by omega
      obtain ⟨av, cv, rfl⟩ := hI1.len
      have hml2 : ∀ x ∈ mk (ents (l.take k)), x ≤ 1000000000 := fun x hx => by have := (marks_lt _ 0 0 [] x hx).2; rw [← hm1] at this; omega
      have hl16 : (mk (ents (l.take k))).length ≤ 100000 := by rw [mk_len]; simp [ents]; omega
      have HQ := hide (appendPlaces_any g1 c1 m1 _ hm1 av (mk (ents (l.take k))).length cv (mk (ents (l.take k))) wr hmc1 hrow1 hI1.at (fun x hx q => hni (by
        rcases hI1 with ⟨_, e⟩ | ⟨gg, cc, nn, e, _⟩
        · injection e with e1; rw [e1] at hx; cases hx
        · injection e with e1; rw [e1] at hx; cases hx; exact ⟨_, _, by rw [e1, ← q]⟩)) hl16 (by omega) hml2)
      have htk : l.take k = l := List.take_of_length_le (by omega)
      rw [htk] at HQ HM1
      rw [htk]
      clear hll hm1 hrow1 hI1 hni ht hml2 hl16 HROW HIw HNI
      generalize hNM : (mk (ents l)).length = NM at *
      have HNM := hide hNM
      clear hNM htk
      go_wp2_with fail
      refine HQ.out.mono ?_
      rintro e w6 ⟨g2, c2, rfl, hc2, hrow6, hg6⟩
      have HR6 := hide hrow6
      have HG6 := hide hg6
      clear hrow6 hg6 HQ
      go_wp2_with fail
      go_returns
      have hfin : m1 + 4 * NM + 4 = cg := by have h1 := HBL.out; have h2 := HM1.out; omega
      refine ⟨⟨g2, c2, ?_, ?_, ?_, ?_⟩, ?_⟩
      · rw [HLN.out, ← hfin]; rfl
      · have h1 := HG6.out.own; have h2 := HB.out; have h3 := HT.out.size; omega
      · rw [HLN.out, ← hfin]; exact hc2
      · rw [blkB, HNM.out]; exact HR6.out
      · have h2 := HB.out
        have h9 := HT.out.andThen HG6.out.turns (S := fun _ => False) (fun j hj q => by omega)
        exact h9.below (by omega) (fun _ q => q.elim)
end Go.Proofs.Ytolaaodhnhdadaa
