import Derived.Test.YtjklbhdhjfifhaaGreatM45
import Derived.Test.YtjklbhdhjfifhaaGreatM05
import Derived.Test.YtjklbhdhjfifhaaGreatM48
/-
  A table, made.
-/
namespace Go.Proofs.YtjklbhdhjfifhaaGreat
open Go.RowKit Go.Shelf
set_option maxRecDepth 100000
set_option maxHeartbeats 4000000
theorem layN (bx b off n c B : Nat) (l : List Tow) (F : Int) (e0 e1 e2 l1 l2 s1 s2 : Value) (w : World) (hE : ∀ u, Turns (fun k => B ≤ k) w u → Ents u (some ⟨b, off, none⟩) l) (hn : n = l.length) (hnc : n ≤ c) (hmx : n ≤ 1000) (hw : wt (ents l) ≤ 100000) (hf : Good l) (hord : inOrd (ents l) = true) (hB : B ≤ bx) (hx : w.heap[bx]? = some (.cells #[.slice none 0 0, e0, e1, e2, l1, l2, s1, s2] 55 (0, 0))) :
    Calls Tryz.prog 67 #[.pointer (some ⟨bx, 0, none⟩), .slice (some ⟨b, off, none⟩) n c, .int .i64 F] w fun e w' => ∃ fa fc pv L blk, e = .returned (.agg #[.slice fa blk.length fc, .int .i64 0]) ∧ Hid (blk = L.flatMap (frB l)) ∧ Cuts F l 0 L l.length ∧ Fresh w.heap.size w' (.slice fa blk.length fc) blk ∧ w'.heap[bx]? = some (.cells #[pv, e0, e1, e2, l1, l2, s1, s2] 55 (0, 0)) ∧ PRow w' w.heap.size pv (plcs l 0 L) ∧ Turns (fun k => k = bx ∨ w.heap.size ≤ k) w w' := by
  refine (lay_any bx b off n c B l F e0 e1 e2 l1 l2 s1 s2 w hE hn hnc hmx hw hf hord hB hx).mono ?_
  rintro e w' ⟨v, pv, L, rfl, h1, h2, h3, h4, h5⟩
  obtain ⟨fa, fc, rfl, hf⟩ := h2.pt
  exact ⟨fa, fc, pv, L, _, rfl, hide rfl, h1, hf, h3, h4, h5⟩
theorem noU8_55 (pa : Option Addr) (pn pc : Nat) (n s0 s1 : Int) (a1 : Option Addr) (n1 c1 : Nat) (a2 : Option Addr) (n2 c2 : Nat) (lo hi : Nat) : noU8 #[.slice pa pn pc, .int .i64 n, .int .i64 s0, .int .i64 s1, .slice a1 n1 c1, .slice a2 n2 c2, .int .u64 (lo : Nat), .int .u64 (hi : Nat)] := by
  intro k z h
  match k with
  | 0 | 1 | 2 | 3 | 4 | 5 | 6 | 7 => simp at h
  | k + 8 => simp at h
theorem build_ok (b off n c : Nat) (l : List Tow) (F : Int) (bits : Nat) (w : World) (h : Ents w (some ⟨b, off, none⟩) l) (hn : n = l.length) (h1 : 1 ≤ n) (hmx : n ≤ 200) (hnc : n ≤ c) (hw : wt (ents l) ≤ 100000) (hf : Good l) (hord : inOrd (ents l) = true) (hF1 : 64 ≤ F) (hF2 : F ≤ 65536) (hb1 : 1 ≤ bits) (hb2 : bits ≤ 32) (x0 xz : Tow) (hx0 : l[0]? = some x0) (hxz : l[n - 1]? = some xz) :
    Calls Tryz.prog 39 #[.slice (some ⟨b, off, none⟩) n c, .agg #[.int .i64 F, .int .i64 (bits : Nat)]] w fun e w' => ∃ v L la lc ma mc size, e = .returned (.tuple #[v, .agg #[.int .i64 (n : Nat), .int .i64 (L.length : Nat), .int .i64 (size : Nat), .slice la x0.e.key.length lc, .slice ma xz.e.key.length mc, .int .u64 (loS x0.e.seq l : Nat), .int .u64 (hiS x0.e.seq l : Nat)], .int .i64 0]) ∧ Cuts F l 0 L l.length ∧ size = (tblB l L (fltT l bits) (idxT l L n (loS x0.e.seq l) (hiS x0.e.seq l) x0.e.key xz.e.key)).length ∧ Fresh w.heap.size w' v (tblB l L (fltT l bits) (idxT l L n (loS x0.e.seq l) (hiS x0.e.seq l) x0.e.key xz.e.key)) ∧ Bytes w' (.slice la x0.e.key.length lc) x0.e.key ∧ Bytes w' (.slice ma xz.e.key.length mc) xz.e.key ∧ Turns (fun _ => False) w w' := by
  subst hn
  have HF := hide hf
  have HO := hide hord
  have HE := hide h
  have HW := hide hw
  have HX0 := hide hx0
  have HXZ := hide hxz
  have fx := chk1_fine (hf x0 (List.mem_of_getElem? hx0)).1
  have fz := chk1_fine (hf xz (List.mem_of_getElem? hxz)).1
  have FX := hide (show x0.e.key.length ≤ 4096 ∧ x0.e.seq < 18446744073709551616 from ⟨fx.2.2.2.2.1, by have := fx.2.1; omega⟩)
  have FZ := hide (show xz.e.key.length ≤ 4096 from fz.2.2.2.2.1)
  have hck : chkL (ents l) = 0 := by
    unfold chkL
    rw [if_neg]
    rintro (e | e)
    · have h9 : (ents l).length = 0 := by rw [e]; rfl
      unfold ents at h9
      rw [List.length_map] at h9
      omega
    · rw [hord] at e; cases e
  have CK := hide (fun (u : World) (t : Turns (fun _ => False) w u) => tcheck_good F bits hF1 hF2 (by omega) (by omega) (some ⟨b, off, none⟩) l.length c l u (h.quiet t) rfl (by omega) hf)
  rw [hck] at CK
  have INF := hide (fun (u : World) (t : Turns (fun _ => False) w u) => infoOf_any b off l.length c l u (h.quiet t) rfl h1 (by omega) hnc x0 xz hx0 hxz (by have := FX.out; omega) (by have := FZ.out; omega))
  have LAY := hide (fun (u : World) (bx : Nat) (e0 e1 e2 l1 l2 s1 s2 : Value) (t : Turns (fun _ => False) w u) (hB : w.heap.size ≤ bx) (hx : u.heap[bx]? = some (.cells #[.slice none 0 0, e0, e1, e2, l1, l2, s1, s2] 55 (0, 0))) => layN bx b off l.length c w.heap.size l F e0 e1 e2 l1 l2 s1 s2 u (fun u' t' => h.quiet (turns_fromQ t t' fun j hj => hj)) rfl hnc (by omega) hw hf hord hB hx)
  have KEYS := hide (fun (u : World) (t : Turns (fun _ => False) w u) => keysOf_any b off l.length c l u (h.quiet t) rfl (by omega) hnc)
  have hlo := loS_lt (N := 18446744073709551616) l x0.e.seq FX.out.2
  have hhi := hiS_lt (N := 18446744073709551616) l x0.e.seq FX.out.2 (fun x hx => by have := (chk1_fine (hf x hx).1).2.1; omega)
  have HLH := hide (And.intro hlo hhi)
  have T0 := hide (((Turns.refl (fun _ => False) w).alloc (.cells #[.int .i64 F, .int .i64 (bits : Nat)] 32)).alloc (.cells #[.int .i64 0, .int .i64 0, .int .i64 0, .slice none 0 0, .slice none 0 0, .int .u64 0, .int .u64 0] 42))
  have n3 : ((w.alloc (.cells #[.int .i64 F, .int .i64 (bits : Nat)] 32)).alloc (.cells #[.int .i64 0, .int .i64 0, .int .i64 0, .slice none 0 0, .slice none 0 0, .int .u64 0, .int .u64 0] 42)).heap[w.heap.size]? = some (.cells #[.int .i64 F, .int .i64 (bits : Nat)] 32 (0, 0)) := (heap_alloc_old _ _ (by simp)).trans (heap_alloc_new w _)
  have n5 : ((w.alloc (.cells #[.int .i64 F, .int .i64 (bits : Nat)] 32)).alloc (.cells #[.int .i64 0, .int .i64 0, .int .i64 0, .slice none 0 0, .slice none 0 0, .int .u64 0, .int .u64 0] 42)).heap[w.heap.size + 1]? = some (.cells #[.int .i64 0, .int .i64 0, .int .i64 0, .slice none 0 0, .slice none 0 0, .int .u64 0, .int .u64 0] 42 (0, 0)) := by
    have h9 : (w.alloc (.cells #[.int .i64 F, .int .i64 (bits : Nat)] 32)).heap.size = w.heap.size + 1 := by simp
    rw [← h9]
    exact heap_alloc_new _ _
  have N3 := hide n3
  have N5 := hide n5
  clear h hw hf hord hx0 hxz fx fz hck n3 n5 hlo hhi
  generalize loS x0.e.seq l = lo at *
  generalize hiS x0.e.seq l = hi at *
  go_enter Tryz.func39, Tryz.ntmps39
  go_upto_region 1 with (fail)
  generalize ((w.alloc (.cells #[.int .i64 F, .int .i64 (bits : Nat)] 32)).alloc (.cells #[.int .i64 0, .int .i64 0, .int .i64 0, .slice none 0 0, .slice none 0 0, .int .u64 0, .int .u64 0] 42)) = w0 at *
  have c0 := cell_of_row w0 w.heap.size 0 _ 32 (0, 0) N3.out
  have c1 := cell_of_row w0 w.heap.size 1 _ 32 (0, 0) N3.out
  simp only [List.getElem?_toArray, List.getElem?_cons_zero, List.getElem?_cons_succ] at c0 c1
  go_upto_region 4 with (go_at_call 65; refine (CK.out _ T0.out).mono ?_; rintro e w1 ⟨rfl, b1⟩)
  have t1 := Turns.of_below b1 (fun _ => False)
  have T1 := hide (T0.out.trans t1)
  have N3 := hide (t1.heap N3.out (fun x => x))
  have N5 := hide (t1.heap N5.out (fun x => x))
  clear b1 t1 c0 c1 T0 CK
  go_upto_region 5 with (go_at_call 66; refine (INF.out _ T1.out).mono ?_; rintro e w2 ⟨la, lc, ma, mc, rfl, hb1, hb2, hx1, hx2, b2⟩)
  have t2 := Turns.of_below b2 (fun _ => False)
  have GE := hide (lt_of_heap (t2.heap N5.out (fun x => x)))
  obtain ⟨w3, hw3⟩ : ∃ u, u = w2.alloc (.cells #[.slice none 0 0, .int .i64 (l.length : Nat), .int .i64 0, .int .i64 0, .slice la x0.e.key.length lc, .slice ma xz.e.key.length mc, .int .u64 (lo : Nat), .int .u64 (hi : Nat)] 55) := ⟨_, rfl⟩
  have t3 : Turns (fun _ => False) w2 w3 := by rw [hw3]; exact (Turns.refl _ _).alloc _
  have hbx : w3.heap[w2.heap.size]? = some (.cells #[.slice none 0 0, .int .i64 (l.length : Nat), .int .i64 0, .int .i64 0, .slice la x0.e.key.length lc, .slice ma xz.e.key.length mc, .int .u64 (lo : Nat), .int .u64 (hi : Nat)] 55 (0, 0)) := by rw [hw3]; exact heap_alloc_new _ _
  have HBX := hide hbx
  have T3 := hide ((T1.out.trans t2).trans t3)
  have N3 := hide (t3.heap (t2.heap N3.out (fun x => x)) (fun x => x))
  have N5 := hide (t3.heap (t2.heap N5.out (fun x => x)) (fun x => x))
  have B1 := hide (hb1.quiet t3)
  have B2 := hide (hb2.quiet t3)
  have X1 := hide (fun x hx => (hx1 x hx).2)
  have X2 := hide (fun x hx => (hx2 x hx).2)
  rw [← hw3]
  clear hw3 t2 t3 hbx hb1 hb2 hx1 hx2 b2 INF T1
  generalize w2.heap.size = bx at *
  have c0 := cell_of_row w3 w.heap.size 0 _ 32 (0, 0) N3.out
  simp only [List.getElem?_toArray, List.getElem?_cons_zero] at c0
  go_upto_region 6 with (go_at_call 67; refine (LAY.out _ bx _ _ _ _ _ _ _ T3.out (by have := GE.out; omega) HBX.out).mono ?_; rintro e w4 ⟨fa, fc, pv, L, blk, rfl, hblk, hcut, hfr, hbx4, hpr, t4⟩)
  have HBLK := hblk
  have HCUT := hide hcut
  have hw3n := lt_of_heap N3.out
  have hw3m := lt_of_heap N5.out
  have t45 : Turns (fun _ => False) w4 (w4.alloc (.cells #[.slice fa blk.length fc, .int .i64 0] 119)) := (Turns.refl _ _).alloc _
  have T5 := hide ((turns_fromQ T3.out t4 (fun j hj => by have := GE.out; have := T3.out.size; rcases hj with hj | hj <;> omega)).trans t45)
  have PB9 := hide (pbox_new (hfr.le T3.out.size))
  have HBX := hide (t45.heap hbx4 (fun x => x))
  have HPR := hide (hpr.keep t45 (fun _ _ x => x))
  have B1 := hide ((bytes_keepL B1.out t4 (fun x hx hlt => by have := X1.out x hx; rintro (h9 | h9) <;> omega)).quiet t45)
  have B2 := hide ((bytes_keepL B2.out t4 (fun x hx hlt => by have := X2.out x hx; rintro (h9 | h9) <;> omega)).quiet t45)
  have N3 := hide (t45.heap (t4.heap N3.out (by have := GE.out; rintro (h9 | h9) <;> omega)) (fun x => x))
  have N5 := hide (t45.heap (t4.heap N5.out (by have := GE.out; rintro (h9 | h9) <;> omega)) (fun x => x))
  clear hblk hcut hbx4 hpr t4 hfr t45 c0 T3 X1 X2 LAY hw3n hw3m
  obtain ⟨w5, hw5⟩ : ∃ u, u = w4.alloc (.cells #[.slice fa blk.length fc, .int .i64 0] 119) := ⟨_, rfl⟩
  obtain ⟨g9, hg9⟩ : ∃ g, g = w4.heap.size := ⟨_, rfl⟩
  rw [← hw5] at T5 PB9 HBX HPR B1 B2 N3 N5 ⊢
  rw [← hg9] at PB9 ⊢
  clear hw5 hg9
  obtain ⟨flt, hflt⟩ : ∃ x, x = fltT l bits := ⟨_, rfl⟩
  have HFLT := hide hflt
  have hfl := fltT_len l bits hmx hb2
  rw [← hflt] at hfl
  have HFL := hide hfl
  have SK := hide (fun (u : World) (t : Turns (fun _ => False) w5 u) => show u.cell? ⟨w.heap.size, 1, none⟩ = some (.int .i64 (bits : Nat)) from cell_of_row u w.heap.size 1 _ 32 (0, 0) (t.heap N3.out (fun x => x)))
  have MKF := hide (fun (u : World) (va : Option Addr) (vn vc : Nat) (hk : Keys u (.slice va vn vc) ((ksT l l.length).map (·.e.key))) (hN : w.heap.size ≤ u.heap.size) => makeFN l bits w.heap.size hmx hb1 hb2 HF.out va vn vc u hk hN flt hflt.symm)
  have FR3 := hide (fun (u : World) (a : Option Addr) (c : Nat) (hf : Fresh w.heap.size u (.slice a flt.length c) flt) (hN : w.heap.size ≤ u.heap.size) => framedPN 3#8 a c w.heap.size flt u hf (by omega) hN)
  obtain ⟨fr3, hfr3⟩ : ∃ x, x = Fr.frameB 3#8 flt := ⟨_, rfl⟩
  rw [← hfr3] at FR3
  have HFR3 := hide hfr3
  clear hflt hfl hfr3
  have tV : Turns (fun _ => False) w5 w5.drew := (Turns.refl _ _).drew
  go_cut [10] from 11 (fun v10 wc => ∃ G, v10 = .pointer (some ⟨G, 0, none⟩) ∧ PBox wc G w.heap.size fr3 ∧ Turns (fun _ => False) w5 wc)
  case first =>
    rename_i kk rest jj kk' m1 m2
    clear rest
    refine wp_region_z_drew 10 (S := fun u => u.cell? ⟨w.heap.size, 1, none⟩ = some (.int .i64 (bits : Nat))) (by kernel_rfl) (SK.out _ tV) (fun _ => ?_)
    change wpAnyZ _ _ _ _ _ _ 11 (Array.replicate 11 false) _ _
    refine wpAnyZ_take (i := 0) (oi := { dst := some 29, op := Op.move (Operand.tmp 0), type := 37, pos := "make.go:32", after := #[], guard := none }) (v := .slice (some ⟨b, off, none⟩) l.length c) rfl (by kernel_rfl) (by kernel_rfl) (by kernel_rfl) (by kernel_rfl) (fun _ _ _ h => h) (Or.inl ⟨by rfl, ?_⟩) (SK.out _ tV) ?_
    · rintro w s0
      go_simp
    simp only [Act.put, List.setIfInBounds_toArray, List.set_cons_zero, List.set_cons_succ]
    refine wpAnyZ_take (i := 2) (oi := { dst := some 31, op := Op.fieldAddr 32 (Operand.tmp 3) 1, type := 0, pos := "make.go:32", after := #[], guard := none }) (v := .pointer (some ⟨w.heap.size, 1, none⟩)) rfl (by kernel_rfl) (by kernel_rfl) (by kernel_rfl) (by kernel_rfl) (fun _ _ _ h => h) (Or.inl ⟨by rfl, ?_⟩) (SK.out _ tV) ?_
    · rintro w s0
      go_simp
    simp only [Act.put, List.setIfInBounds_toArray, List.set_cons_zero, List.set_cons_succ]
    refine wpAnyZ_take (i := 3) (oi := { dst := some 32, op := Op.load 3 (Operand.tmp 31), type := 3, pos := "make.go:32", after := #[{ on := 2, ground := Ground.data }], guard := none }) (v := .int .i64 (bits : Nat)) rfl (by kernel_rfl) (by kernel_rfl) (by kernel_rfl) (by kernel_rfl) (fun _ _ _ h => h) (Or.inl ⟨by rfl, ?_⟩) (SK.out _ tV) ?_
    · rintro w s0
      go_simp
    simp only [Act.put, List.setIfInBounds_toArray, List.set_cons_zero, List.set_cons_succ]
    refine wpAnyZ_ready (rs := [1, 9]) (by kernel_rfl) (by simp) ?_
    refine AllReadyZ.cons rfl (fun K hK => ?_) (AllReadyZ.cons rfl (fun K hK => ?_) AllReadyZ.nil)
    · go_simp
      refine (KEYS.out _ (T5.out.trans tV)).mono ?_
      rintro oo V1 ⟨va, vn, vc, rfl, hky, bN⟩
      have tN := Turns.of_below bN (fun _ => False)
      have KY := hide hky
      have tV := tV.trans tN
      clear tN bN hky
      go_simp
      refine hK.out _ _ (SK.out _ tV) (fun _ => ?_)
      clear hK K
      refine wpAnyZ_ready (rs := [4, 9]) (by kernel_rfl) (by simp) ?_
      refine AllReadyZ.cons rfl (fun K hK => ?_) (AllReadyZ.cons rfl (fun K hK => ?_) AllReadyZ.nil)
      · go_simp
        refine (MKF.out _ va vn vc KY.out (Nat.le_trans T5.out.size tV.size)).mono ?_
        rintro oo V2 ⟨fla, flc, rfl, hfr, bN⟩
        have tN := Turns.of_below bN (fun _ => False)
        have F1 := hide hfr
        have tV := tV.trans tN
        clear tN bN hfr
        go_simp
        refine hK.out _ _ (SK.out _ tV) (fun _ => ?_)
        clear hK K
        refine wpAnyZ_take (i := 5) (oi := { dst := some 34, op := Op.extract (Operand.tmp 33) 0, type := 28, pos := "make.go:32", after := #[{ on := 4, ground := Ground.data }], guard := none }) (v := .slice fla flt.length flc) rfl (by kernel_rfl) (by kernel_rfl) (by kernel_rfl) (by kernel_rfl) (fun _ _ _ h => h) (Or.inl ⟨by rfl, ?_⟩) (SK.out _ tV) ?_
        · rintro w s0
          go_simp
        simp only [Act.put, List.setIfInBounds_toArray, List.set_cons_zero, List.set_cons_succ]
        refine wpAnyZ_take (i := 6) (oi := { dst := some 35, op := Op.extract (Operand.tmp 33) 1, type := 23, pos := "make.go:32", after := #[{ on := 4, ground := Ground.data }], guard := none }) (v := .int .i64 0) rfl (by kernel_rfl) (by kernel_rfl) (by kernel_rfl) (by kernel_rfl) (fun _ _ _ h => h) (Or.inl ⟨by rfl, ?_⟩) (SK.out _ tV) ?_
        · rintro w s0
          go_simp
        simp only [Act.put, List.setIfInBounds_toArray, List.set_cons_zero, List.set_cons_succ]
        refine wpAnyZ_ready (rs := [7, 9]) (by kernel_rfl) (by simp) ?_
        refine AllReadyZ.cons rfl (fun K hK => ?_) (AllReadyZ.cons rfl (fun K hK => ?_) AllReadyZ.nil)
        · go_simp
          refine (partOf_any fla flt.length flc 0 _).mono ?_
          rintro oo V3 ⟨rfl, bN⟩
          have tN := Turns.of_below bN (fun _ => False)
          have F1 := hide (F1.out.turns tN (fun _ _ x => x))
          have tV := tV.trans tN
          clear tN bN
          go_simp
          refine hK.out _ _ (SK.out _ tV) (fun _ => ?_)
          clear hK K
          refine wpAnyZ_ready (rs := [8, 9]) (by kernel_rfl) (by simp) ?_
          refine AllReadyZ.cons rfl (fun K hK => ?_) (AllReadyZ.cons rfl (fun K hK => ?_) AllReadyZ.nil)
          · go_simp
            refine (FR3.out _ fla flc F1.out (Nat.le_trans T5.out.size tV.size)).mono ?_
            rintro oo V4 ⟨ga, gc, rfl, hfr, bN⟩
            have tN := Turns.of_below bN (fun _ => False)
            have FL := hide hfr
            have tV := tV.trans tN
            clear tN bN hfr
            go_simp
            refine hK.out _ _ (SK.out _ tV) (fun _ => ?_)
            clear hK K
            refine wpAnyZ_ready (rs := [9]) (by kernel_rfl) (by simp) ?_
            refine AllReadyZ.cons rfl (fun K hK => ?_) AllReadyZ.nil
            go_simp
            obtain ⟨U0, hU0⟩ : ∃ u, u = V4.alloc (.cells #[.slice none 0 0, .int .i64 0] 119) := ⟨_, rfl⟩
            have HG0 : U0.heap[V4.heap.size]? = some (.cells #[.slice none 0 0, .int .i64 0] 119 (0, 0)) := by rw [hU0]; exact heap_alloc_new _ _
            have tA : Turns (fun _ => False) V4 U0 := by rw [hU0]; exact (Turns.refl _ _).alloc _
            obtain ⟨G, hGG⟩ : ∃ g, g = V4.heap.size := ⟨_, rfl⟩
            have HG := hide (show U0.heap[G]? = some (.cells #[.slice none 0 0, .int .i64 0] 119 (0, 0)) by rw [hGG]; exact HG0)
            have HGS := hide (show w5.heap.size ≤ G by rw [hGG]; exact tV.size)
            rw [← hU0, ← hGG]
            have tV := tV.trans tA
            have FL := hide (FL.out.turns tA (fun _ _ x => x))
            clear tA HG0
            refine hK.out _ _ (SK.out _ tV) (fun _ => ?_)
            clear hK K hU0 hGG
            have e0 := cell_of_row U0 G 0 _ 119 (0, 0) HG.out
            have z0 := frozen_of_row U0 G 0 _ 119 HG.out
            have e1 := cell_of_row U0 G 1 _ 119 (0, 0) HG.out
            have z1 := frozen_of_row U0 G 1 _ 119 HG.out
            have TV := hide tV
            clear tV
            refine wpAnyZ_ready (rs := [10]) (by kernel_rfl) (by simp) ?_
            refine AllReadyZ.free rfl (by kernel_rfl) (fun K hK => ?_) AllReadyZ.nil
            go_simp
            refine hK.out _ _ ?_
            clear hK K
            refine wpAnyZ_done (by kernel_rfl) ?_ _
            go_wp2_with fail
            go_meet
            obtain ⟨pq, tq⟩ := pbox_set HG.out FL.out rfl
            exact ⟨G, rfl, pq, TV.out.andThen tq fun k hk e => absurd hk (Nat.not_lt.2 (by rw [show k = G from e]; exact HGS.out))⟩
          · go_simp
            obtain ⟨U0, hU0⟩ : ∃ u, u = V3.alloc (.cells #[.slice none 0 0, .int .i64 0] 119) := ⟨_, rfl⟩
            have HG0 : U0.heap[V3.heap.size]? = some (.cells #[.slice none 0 0, .int .i64 0] 119 (0, 0)) := by rw [hU0]; exact heap_alloc_new _ _
            have tA : Turns (fun _ => False) V3 U0 := by rw [hU0]; exact (Turns.refl _ _).alloc _
            obtain ⟨G, hGG⟩ : ∃ g, g = V3.heap.size := ⟨_, rfl⟩
            have HG := hide (show U0.heap[G]? = some (.cells #[.slice none 0 0, .int .i64 0] 119 (0, 0)) by rw [hGG]; exact HG0)
            have HGS := hide (show w5.heap.size ≤ G by rw [hGG]; exact tV.size)
            rw [← hU0, ← hGG]
            have tV := tV.trans tA
            have F1 := hide (F1.out.turns tA (fun _ _ x => x))
            clear tA HG0
            refine hK.out _ _ (SK.out _ tV) (fun _ => ?_)
            clear hK K hU0 hGG
            refine wpAnyZ_ready (rs := [8]) (by kernel_rfl) (by simp) ?_
            refine AllReadyZ.cons rfl (fun K hK => ?_) AllReadyZ.nil
            go_simp
            refine (FR3.out _ fla flc F1.out (Nat.le_trans T5.out.size tV.size)).mono ?_
            rintro oo V4 ⟨ga, gc, rfl, hfr, bN⟩
            have tN := Turns.of_below bN (fun _ => False)
            have HG := hide (tN.heap HG.out (fun x => x))
            have FL := hide hfr
            have tV := tV.trans tN
            clear tN bN hfr
            go_simp
            refine hK.out _ _ (SK.out _ tV) (fun _ => ?_)
            clear hK K
            have e0 := cell_of_row V4 G 0 _ 119 (0, 0) HG.out
            have z0 := frozen_of_row V4 G 0 _ 119 HG.out
            have e1 := cell_of_row V4 G 1 _ 119 (0, 0) HG.out
            have z1 := frozen_of_row V4 G 1 _ 119 HG.out
            have TV := hide tV
            clear tV
            refine wpAnyZ_ready (rs := [10]) (by kernel_rfl) (by simp) ?_
            refine AllReadyZ.free rfl (by kernel_rfl) (fun K hK => ?_) AllReadyZ.nil
            go_simp
            refine hK.out _ _ ?_
            clear hK K
            refine wpAnyZ_done (by kernel_rfl) ?_ _
            go_wp2_with fail
            go_meet
            obtain ⟨pq, tq⟩ := pbox_set HG.out FL.out rfl
            exact ⟨G, rfl, pq, TV.out.andThen tq fun k hk e => absurd hk (Nat.not_lt.2 (by rw [show k = G from e]; exact HGS.out))⟩
        · go_simp
          obtain ⟨U0, hU0⟩ : ∃ u, u = V2.alloc (.cells #[.slice none 0 0, .int .i64 0] 119) := ⟨_, rfl⟩
          have HG0 : U0.heap[V2.heap.size]? = some (.cells #[.slice none 0 0, .int .i64 0] 119 (0, 0)) := by rw [hU0]; exact heap_alloc_new _ _
          have tA : Turns (fun _ => False) V2 U0 := by rw [hU0]; exact (Turns.refl _ _).alloc _
          obtain ⟨G, hGG⟩ : ∃ g, g = V2.heap.size := ⟨_, rfl⟩
          have HG := hide (show U0.heap[G]? = some (.cells #[.slice none 0 0, .int .i64 0] 119 (0, 0)) by rw [hGG]; exact HG0)
          have HGS := hide (show w5.heap.size ≤ G by rw [hGG]; exact tV.size)
          rw [← hU0, ← hGG]
          have tV := tV.trans tA
          have F1 := hide (F1.out.turns tA (fun _ _ x => x))
          clear tA HG0
          refine hK.out _ _ (SK.out _ tV) (fun _ => ?_)
          clear hK K hU0 hGG
          refine wpAnyZ_ready (rs := [7]) (by kernel_rfl) (by simp) ?_
          refine AllReadyZ.cons rfl (fun K hK => ?_) AllReadyZ.nil
          go_simp
          refine (partOf_any fla flt.length flc 0 _).mono ?_
          rintro oo V3 ⟨rfl, bN⟩
          have tN := Turns.of_below bN (fun _ => False)
          have F1 := hide (F1.out.turns tN (fun _ _ x => x))
          have HG := hide (tN.heap HG.out (fun x => x))
          have tV := tV.trans tN
          clear tN bN
          go_simp
          refine hK.out _ _ (SK.out _ tV) (fun _ => ?_)
          clear hK K
          refine wpAnyZ_ready (rs := [8]) (by kernel_rfl) (by simp) ?_
          refine AllReadyZ.cons rfl (fun K hK => ?_) AllReadyZ.nil
          go_simp
          refine (FR3.out _ fla flc F1.out (Nat.le_trans T5.out.size tV.size)).mono ?_
          rintro oo V4 ⟨ga, gc, rfl, hfr, bN⟩
          have tN := Turns.of_below bN (fun _ => False)
          have HG := hide (tN.heap HG.out (fun x => x))
          have FL := hide hfr
          have tV := tV.trans tN
          clear tN bN hfr
          go_simp
          refine hK.out _ _ (SK.out _ tV) (fun _ => ?_)
          clear hK K
          have e0 := cell_of_row V4 G 0 _ 119 (0, 0) HG.out
          have z0 := frozen_of_row V4 G 0 _ 119 HG.out
          have e1 := cell_of_row V4 G 1 _ 119 (0, 0) HG.out
          have z1 := frozen_of_row V4 G 1 _ 119 HG.out
          have TV := hide tV
          clear tV
          refine wpAnyZ_ready (rs := [10]) (by kernel_rfl) (by simp) ?_
          refine AllReadyZ.free rfl (by kernel_rfl) (fun K hK => ?_) AllReadyZ.nil
          go_simp
          refine hK.out _ _ ?_
          clear hK K
          refine wpAnyZ_done (by kernel_rfl) ?_ _
          go_wp2_with fail
          go_meet
          obtain ⟨pq, tq⟩ := pbox_set HG.out FL.out rfl
          exact ⟨G, rfl, pq, TV.out.andThen tq fun k hk e => absurd hk (Nat.not_lt.2 (by rw [show k = G from e]; exact HGS.out))⟩
      · go_simp
        obtain ⟨U0, hU0⟩ : ∃ u, u = V1.alloc (.cells #[.slice none 0 0, .int .i64 0] 119) := ⟨_, rfl⟩
        have HG0 : U0.heap[V1.heap.size]? = some (.cells #[.slice none 0 0, .int .i64 0] 119 (0, 0)) := by rw [hU0]; exact heap_alloc_new _ _
        have tA : Turns (fun _ => False) V1 U0 := by rw [hU0]; exact (Turns.refl _ _).alloc _
        obtain ⟨G, hGG⟩ : ∃ g, g = V1.heap.size := ⟨_, rfl⟩
        have HG := hide (show U0.heap[G]? = some (.cells #[.slice none 0 0, .int .i64 0] 119 (0, 0)) by rw [hGG]; exact HG0)
        have HGS := hide (show w5.heap.size ≤ G by rw [hGG]; exact tV.size)
        rw [← hU0, ← hGG]
        have tV := tV.trans tA
        have KY := hide (KY.out.quiet tA)
        clear tA HG0
        refine hK.out _ _ (SK.out _ tV) (fun _ => ?_)
        clear hK K hU0 hGG
        refine wpAnyZ_ready (rs := [4]) (by kernel_rfl) (by simp) ?_
        refine AllReadyZ.cons rfl (fun K hK => ?_) AllReadyZ.nil
        go_simp
        refine (MKF.out _ va vn vc KY.out (Nat.le_trans T5.out.size tV.size)).mono ?_
        rintro oo V2 ⟨fla, flc, rfl, hfr, bN⟩
        have tN := Turns.of_below bN (fun _ => False)
        have HG := hide (tN.heap HG.out (fun x => x))
        have F1 := hide hfr
        have tV := tV.trans tN
        clear tN bN hfr
        go_simp
        refine hK.out _ _ (SK.out _ tV) (fun _ => ?_)
        clear hK K
        refine wpAnyZ_take (i := 5) (oi := { dst := some 34, op := Op.extract (Operand.tmp 33) 0, type := 28, pos := "make.go:32", after := #[{ on := 4, ground := Ground.data }], guard := none }) (v := .slice fla flt.length flc) rfl (by kernel_rfl) (by kernel_rfl) (by kernel_rfl) (by kernel_rfl) (fun _ _ _ h => h) (Or.inl ⟨by rfl, ?_⟩) (SK.out _ tV) ?_
        · rintro w s0
          go_simp
        simp only [Act.put, List.setIfInBounds_toArray, List.set_cons_zero, List.set_cons_succ]
        refine wpAnyZ_take (i := 6) (oi := { dst := some 35, op := Op.extract (Operand.tmp 33) 1, type := 23, pos := "make.go:32", after := #[{ on := 4, ground := Ground.data }], guard := none }) (v := .int .i64 0) rfl (by kernel_rfl) (by kernel_rfl) (by kernel_rfl) (by kernel_rfl) (fun _ _ _ h => h) (Or.inl ⟨by rfl, ?_⟩) (SK.out _ tV) ?_
        · rintro w s0
          go_simp
        simp only [Act.put, List.setIfInBounds_toArray, List.set_cons_zero, List.set_cons_succ]
        refine wpAnyZ_ready (rs := [7]) (by kernel_rfl) (by simp) ?_
        refine AllReadyZ.cons rfl (fun K hK => ?_) AllReadyZ.nil
        go_simp
        refine (partOf_any fla flt.length flc 0 _).mono ?_
        rintro oo V3 ⟨rfl, bN⟩
        have tN := Turns.of_below bN (fun _ => False)
        have F1 := hide (F1.out.turns tN (fun _ _ x => x))
        have HG := hide (tN.heap HG.out (fun x => x))
        have tV := tV.trans tN
        clear tN bN
        go_simp
        refine hK.out _ _ (SK.out _ tV) (fun _ => ?_)
        clear hK K
        refine wpAnyZ_ready (rs := [8]) (by kernel_rfl) (by simp) ?_
        refine AllReadyZ.cons rfl (fun K hK => ?_) AllReadyZ.nil
        go_simp
        refine (FR3.out _ fla flc F1.out (Nat.le_trans T5.out.size tV.size)).mono ?_
        rintro oo V4 ⟨ga, gc, rfl, hfr, bN⟩
        have tN := Turns.of_below bN (fun _ => False)
        have HG := hide (tN.heap HG.out (fun x => x))
        have FL := hide hfr
        have tV := tV.trans tN
        clear tN bN hfr
        go_simp
        refine hK.out _ _ (SK.out _ tV) (fun _ => ?_)
        clear hK K
        have e0 := cell_of_row V4 G 0 _ 119 (0, 0) HG.out
        have z0 := frozen_of_row V4 G 0 _ 119 HG.out
        have e1 := cell_of_row V4 G 1 _ 119 (0, 0) HG.out
        have z1 := frozen_of_row V4 G 1 _ 119 HG.out
        have TV := hide tV
        clear tV
        refine wpAnyZ_ready (rs := [10]) (by kernel_rfl) (by simp) ?_
        refine AllReadyZ.free rfl (by kernel_rfl) (fun K hK => ?_) AllReadyZ.nil
        go_simp
        refine hK.out _ _ ?_
        clear hK K
        refine wpAnyZ_done (by kernel_rfl) ?_ _
        go_wp2_with fail
        go_meet
        obtain ⟨pq, tq⟩ := pbox_set HG.out FL.out rfl
        exact ⟨G, rfl, pq, TV.out.andThen tq fun k hk e => absurd hk (Nat.not_lt.2 (by rw [show k = G from e]; exact HGS.out))⟩
    · go_simp
      obtain ⟨U0, hU0⟩ : ∃ u, u = (w5.alloc (.cells #[.slice none 0 0, .int .i64 0] 119)).drew := ⟨_, rfl⟩
      have HG0 : U0.heap[w5.heap.size]? = some (.cells #[.slice none 0 0, .int .i64 0] 119 (0, 0)) := by rw [hU0]; exact heap_alloc_new _ _
      have tA : Turns (fun _ => False) w5 U0 := by rw [hU0]; exact ((Turns.refl _ _).alloc _).drew
      obtain ⟨G, hGG⟩ : ∃ g, g = w5.heap.size := ⟨_, rfl⟩
      have HG := hide (show U0.heap[G]? = some (.cells #[.slice none 0 0, .int .i64 0] 119 (0, 0)) by rw [hGG]; exact HG0)
      have HGS := hide (show w5.heap.size ≤ G by rw [hGG]; exact Nat.le_refl _)
      rw [← hU0, ← hGG]
      have tV := tA
      clear tA HG0
      refine hK.out _ _ (SK.out _ tV) (fun _ => ?_)
      clear hK K hU0 hGG
      refine wpAnyZ_ready (rs := [1]) (by kernel_rfl) (by simp) ?_
      refine AllReadyZ.cons rfl (fun K hK => ?_) AllReadyZ.nil
      go_simp
      refine (KEYS.out _ (T5.out.trans tV)).mono ?_
      rintro oo V1 ⟨va, vn, vc, rfl, hky, bN⟩
      have tN := Turns.of_below bN (fun _ => False)
      have HG := hide (tN.heap HG.out (fun x => x))
      have KY := hide hky
      have tV := tV.trans tN
      clear tN bN hky
      go_simp
      refine hK.out _ _ (SK.out _ tV) (fun _ => ?_)
      clear hK K
      refine wpAnyZ_ready (rs := [4]) (by kernel_rfl) (by simp) ?_
      refine AllReadyZ.cons rfl (fun K hK => ?_) AllReadyZ.nil
      go_simp
      refine (MKF.out _ va vn vc KY.out (Nat.le_trans T5.out.size tV.size)).mono ?_
      rintro oo V2 ⟨fla, flc, rfl, hfr, bN⟩
      have tN := Turns.of_below bN (fun _ => False)
      have HG := hide (tN.heap HG.out (fun x => x))
      have F1 := hide hfr
      have tV := tV.trans tN
      clear tN bN hfr
      go_simp
      refine hK.out _ _ (SK.out _ tV) (fun _ => ?_)
      clear hK K
      refine wpAnyZ_take (i := 5) (oi := { dst := some 34, op := Op.extract (Operand.tmp 33) 0, type := 28, pos := "make.go:32", after := #[{ on := 4, ground := Ground.data }], guard := none }) (v := .slice fla flt.length flc) rfl (by kernel_rfl) (by kernel_rfl) (by kernel_rfl) (by kernel_rfl) (fun _ _ _ h => h) (Or.inl ⟨by rfl, ?_⟩) (SK.out _ tV) ?_
      · rintro w s0
        go_simp
      simp only [Act.put, List.setIfInBounds_toArray, List.set_cons_zero, List.set_cons_succ]
      refine wpAnyZ_take (i := 6) (oi := { dst := some 35, op := Op.extract (Operand.tmp 33) 1, type := 23, pos := "make.go:32", after := #[{ on := 4, ground := Ground.data }], guard := none }) (v := .int .i64 0) rfl (by kernel_rfl) (by kernel_rfl) (by kernel_rfl) (by kernel_rfl) (fun _ _ _ h => h) (Or.inl ⟨by rfl, ?_⟩) (SK.out _ tV) ?_
      · rintro w s0
        go_simp
      simp only [Act.put, List.setIfInBounds_toArray, List.set_cons_zero, List.set_cons_succ]
      refine wpAnyZ_ready (rs := [7]) (by kernel_rfl) (by simp) ?_
      refine AllReadyZ.cons rfl (fun K hK => ?_) AllReadyZ.nil
      go_simp
      refine (partOf_any fla flt.length flc 0 _).mono ?_
      rintro oo V3 ⟨rfl, bN⟩
      have tN := Turns.of_below bN (fun _ => False)
      have F1 := hide (F1.out.turns tN (fun _ _ x => x))
      have HG := hide (tN.heap HG.out (fun x => x))
      have tV := tV.trans tN
      clear tN bN
      go_simp
      refine hK.out _ _ (SK.out _ tV) (fun _ => ?_)
      clear hK K
      refine wpAnyZ_ready (rs := [8]) (by kernel_rfl) (by simp) ?_
      refine AllReadyZ.cons rfl (fun K hK => ?_) AllReadyZ.nil
      go_simp
      refine (FR3.out _ fla flc F1.out (Nat.le_trans T5.out.size tV.size)).mono ?_
      rintro oo V4 ⟨ga, gc, rfl, hfr, bN⟩
      have tN := Turns.of_below bN (fun _ => False)
      have HG := hide (tN.heap HG.out (fun x => x))
      have FL := hide hfr
      have tV := tV.trans tN
      clear tN bN hfr
      go_simp
      refine hK.out _ _ (SK.out _ tV) (fun _ => ?_)
      clear hK K
      have e0 := cell_of_row V4 G 0 _ 119 (0, 0) HG.out
      have z0 := frozen_of_row V4 G 0 _ 119 HG.out
      have e1 := cell_of_row V4 G 1 _ 119 (0, 0) HG.out
      have z1 := frozen_of_row V4 G 1 _ 119 HG.out
      have TV := hide tV
      clear tV
      refine wpAnyZ_ready (rs := [10]) (by kernel_rfl) (by simp) ?_
      refine AllReadyZ.free rfl (by kernel_rfl) (fun K hK => ?_) AllReadyZ.nil
      go_simp
      refine hK.out _ _ ?_
      clear hK K
      refine wpAnyZ_done (by kernel_rfl) ?_ _
      go_wp2_with fail
      go_meet
      obtain ⟨pq, tq⟩ := pbox_set HG.out FL.out rfl
      exact ⟨G, rfl, pq, TV.out.andThen tq fun k hk e => absurd hk (Nat.not_lt.2 (by rw [show k = G from e]; exact HGS.out))⟩
  obtain ⟨G10, rfl, hpb, t6⟩ := hcut
  obtain ⟨w6, hw6⟩ : ∃ u, u = wc := ⟨_, rfl⟩
  subst hw6
  have T6 := hide (T5.out.trans t6)
  have P9 := hide (PB9.out.quiet t6)
  have P10 := hide hpb
  have HBX := hide (t6.heap HBX.out (fun x => x))
  have HPR := hide (HPR.out.keep t6 (fun _ _ x => x))
  have B1 := hide (B1.out.quiet t6)
  have B2 := hide (B2.out.quiet t6)
  have N5 := hide (t6.heap N5.out (fun x => x))
  clear hpb t6 T5 N3 SK MKF FR3 KEYS tV PB9
  obtain ⟨fa, fc, c9, hf9⟩ := P9.out.ex
  obtain ⟨ga, gc, c10, hf10⟩ := P10.out.ex
  have FA := hide hf9
  have FB := hide hf10
  have a0 := cell_of_row w6 g9 0 _ 119 (0, 0) c9
  have a1 := cell_of_row w6 g9 1 _ 119 (0, 0) c9
  have a2 := cell_of_row w6 G10 0 _ 119 (0, 0) c10
  have a3 := cell_of_row w6 G10 1 _ 119 (0, 0) c10
  simp only [List.getElem?_toArray, List.getElem?_cons_zero, List.getElem?_cons_succ] at a0 a1 a2 a3
  clear c9 c10 hf9 hf10 P9 P10
  have hsum := cuts_bound HF.out HCUT.out (Nat.le_refl _) (by omega) HW.out
  have hcs := (cuts_sum HF.out HCUT.out (Nat.le_refl _)).2.1
  have hin := (cuts_in HCUT.out (Nat.le_refl _)).2
  have hL0 : 0 < sumF l L := by
    cases hLL : L with
    | nil =>
      have h9 := HCUT.out
      rw [hLL] at h9
      have h8 : 0 = l.length := h9
      omega
    | cons x r =>
      have h9 : 0 < (frB l x).length := by unfold frB; rw [Fr.frameB_length]; omega
      simp only [sumF, List.map_cons, List.sum_cons]
      omega
  have hl0 : l ≠ [] := fun e => by rw [e] at h1; simp at h1
  obtain ⟨ahd, hahd⟩ : ∃ x, x = blk ++ fr3 := ⟨_, rfl⟩
  have hblen : blk.length = sumF l L := by rw [HBLK.out, flat_length]
  have hf3l : fr3.length = flt.length + 12 := by rw [HFR3.out, Fr.frameB_length]
  have hal : ahd.length = blk.length + fr3.length := by rw [hahd, List.length_append]
  have HAL := hide (show ahd.length ≤ 200000 ∧ 0 < ahd.length ∧ 0 < blk.length ∧ 0 < fr3.length from by have := HFL.out; omega)
  have HLL := hide (show L.length ≤ 200 ∧ sumF l L ≤ 160000 from by omega)
  have HAHD := hide hahd
  have TOG2 := hide (tog_ok w6.heap.size w.heap.size [⟨fa, fc, blk⟩, ⟨ga, gc, fr3⟩] (w6.alloc (.cells #[.slice fa blk.length fc, .int .i64 0, .slice ga fr3.length gc, .int .i64 0] 119)) (heap_alloc_new _ _) (fun x hx => by
    have tq : Turns (fun _ => False) w6 (w6.alloc (.cells #[.slice fa blk.length fc, .int .i64 0, .slice ga fr3.length gc, .int .i64 0] 119)) := (Turns.refl _ _).alloc _
    simp only [List.mem_cons, List.not_mem_nil, or_false] at hx
    rcases hx with rfl | rfl
    · exact ⟨FA.out.turns tq (fun _ _ x => x), HAL.out.2.2.1⟩
    · exact ⟨FB.out.turns tq (fun _ _ x => x), HAL.out.2.2.2⟩) (by simp) ahd (by rw [HAHD.out]; simp [allB]) (by have := HAL.out; omega) (Nat.le_trans T6.out.size (by simp)) 2 rfl)
  have HIN := hide hin
  have HL0 := hide hl0
  clear hsum hcs hin hL0 hahd hblen hf3l hal hl0
  go_upto_region 8 with (go_at_call 72; refine TOG2.out.mono ?_; rintro e w7a ⟨ha, hc, rfl, hfr, b7⟩)
  have t67 : Turns (fun _ => False) w6 w7a := ((Turns.refl (fun _ => False) w6).alloc _).trans (Turns.of_below b7 _)
  have t77 : Turns (fun _ => False) w7a (w7a.alloc (.cells #[.slice ha ahd.length hc, .int .i64 0] 119)) := (Turns.refl _ _).alloc _
  have PB11 := hide (pbox_new hfr)
  have FAA := hide (hfr.turns t77 (fun _ _ x => x))
  have T7 := hide ((T6.out.trans t67).trans t77)
  have HBX := hide ((t67.trans t77).heap HBX.out (fun x => x))
  have HPR := hide (HPR.out.keep (t67.trans t77) (fun _ _ x => x))
  have B1 := hide (B1.out.quiet (t67.trans t77))
  have B2 := hide (B2.out.quiet (t67.trans t77))
  have N5 := hide ((t67.trans t77).heap N5.out (fun x => x))
  have R11 := hide (heap_alloc_new w7a (.cells #[.slice ha ahd.length hc, .int .i64 0] 119))
  clear hfr b7 t67 t77 TOG2 FA FB a0 a1 a2 a3 T6
  obtain ⟨w7, hw7⟩ : ∃ u, u = w7a.alloc (.cells #[.slice ha ahd.length hc, .int .i64 0] 119) := ⟨_, rfl⟩
  obtain ⟨g11, hg11⟩ : ∃ g, g = w7a.heap.size := ⟨_, rfl⟩
  rw [← hw7] at T7 PB11 FAA HBX HPR B1 B2 N5 R11 ⊢
  rw [← hg11] at PB11 R11 ⊢
  clear hw7 hg11
  obtain ⟨idx, hidx⟩ : ∃ x, x = idxT l L l.length lo hi x0.e.key xz.e.key := ⟨_, rfl⟩
  have hidl : idx.length ≤ 1000000 := by
    rw [hidx]
    exact idxT_len l L HL0.out (fun x hx => (HIN.out x hx).2) HLL.out.1 (by have := HLL.out; omega) HF.out _ lo hi (by omega) HLH.out.1 HLH.out.2 _ _ FX.out.1 FZ.out
  have hid2 : idx = short (plcs l 0 L).length ++ ((plcs l 0 L).flatMap plcB ++ (short l.length ++ (short lo ++ (short hi ++ (pieceB x0.e.key ++ pieceB xz.e.key))))) := by
    rw [hidx]
    unfold idxT idxB
    rw [zsT_length, plcs_length, plcs_pz]
    simp only [List.append_nil]
    rfl
  have HID := hide hidx
  have HIL := hide hidl
  have BODY := hide (fun (u : World) (t : Turns (fun _ => False) w7 u) => bodyPN bx w.heap.size pv (plcs l 0 L) l.length lo hi la ma lc mc x0.e.key xz.e.key (.int .i64 0) (.int .i64 0) w3.heap.size w7 HBX.out HPR.out (fun q hq => by
    have hm := plcs_t l HL0.out L 0 (fun x hx => (HIN.out x hx).2) q hq
    have h8 := chk1_fine (HF.out _ hm).1
    have h9 := plcs_le l L 0 q hq
    have h7 := HLL.out.2
    exact ⟨((HE.out.quiet T7.out).mem hm).1, by have := h8.2.2.2.2.1; omega, by have := h8.2.1; omega, by omega, by omega⟩) B1.out B2.out (by have := FX.out.1; omega) (by have := FZ.out; omega) (by omega) HLH.out.1 HLH.out.2 (by rw [plcs_length]; have := HLL.out; omega) idx hid2 (by omega) u t T7.out.size)
  have FR4 := hide (fun (u : World) (a : Option Addr) (c : Nat) (hf : Fresh w.heap.size u (.slice a idx.length c) idx) (hN : w.heap.size ≤ u.heap.size) => framedPN 4#8 a c w.heap.size idx u hf (by omega) hN)
  obtain ⟨fr4, hfr4⟩ : ∃ x, x = Fr.frameB 4#8 idx := ⟨_, rfl⟩
  have hf4l : fr4.length = idx.length + 12 := by rw [hfr4, Fr.frameB_length]
  rw [← hfr4] at FR4
  obtain ⟨tl, htl⟩ : ∃ x, x = ordB ahd.length ++ markB := ⟨_, rfl⟩
  have htll : tl.length = 16 := by rw [htl]; rfl
  have ENDO := hide (fun (u : World) (hN : w.heap.size ≤ u.heap.size) => endPartN ahd.length w.heap.size (by have := HAL.out; omega) u hN tl htl.symm)
  obtain ⟨tbl, htbl⟩ : ∃ x, x = ahd ++ (fr4 ++ tl) := ⟨_, rfl⟩
  have htbll : tbl.length = ahd.length + (fr4.length + tl.length) := by rw [htbl, List.length_append, List.length_append]
  have TOG := hide (fun (A : Nat) (u : World) (ja : Option Addr) (jc : Nat) (ka : Option Addr) (kc : Nat) (h : u.heap[A]? = some (.cells #[.slice ha ahd.length hc, .int .i64 0, .slice ja fr4.length jc, .int .i64 0, .slice ka tl.length kc, .int .i64 0] 119 (0, 0))) (f0 : Fresh w.heap.size u (.slice ha ahd.length hc) ahd) (f2 : Fresh w.heap.size u (.slice ja fr4.length jc) fr4) (f3 : Fresh w.heap.size u (.slice ka tl.length kc) tl) (hN : w.heap.size ≤ u.heap.size) =>
    tog_ok A w.heap.size [⟨ha, hc, ahd⟩, ⟨ja, jc, fr4⟩, ⟨ka, kc, tl⟩] u h (fun x hx => by
      simp only [List.mem_cons, List.not_mem_nil, or_false] at hx
      rcases hx with rfl | rfl | rfl
      · exact ⟨f0, HAL.out.2.1⟩
      · exact ⟨f2, by simp only; omega⟩
      · exact ⟨f3, by simp only; omega⟩) (by simp) tbl (by rw [htbl]; simp [allB]) (by have := HAL.out; omega) hN 3 rfl)
  have AHF := hide (fun (u : World) (t : Turns (fun _ => False) w7 u) => Fresh.le (FAA.out.turns t (fun _ _ x => x)) (Nat.le_refl _))
  have HTB := hide (show tbl.length ≤ 2000000 from by have := HAL.out; omega)
  have HTL := hide htbl
  have HFR4 := hide hfr4
  have HTLL := hide htl
  clear hidx hidl hid2 hfr4 hf4l htl htll htbl htbll FAA
  have SK := hide (fun (u : World) (t : Turns (fun _ => False) w7 u) => show u.cell? ⟨g11, 0, none⟩ = some (.slice ha ahd.length hc) ∧ u.cell? ⟨g11, 1, none⟩ = some (.int .i64 0) from ⟨cell_of_row u g11 0 _ 119 (0, 0) (t.heap R11.out (fun x => x)), cell_of_row u g11 1 _ 119 (0, 0) (t.heap R11.out (fun x => x))⟩)
  have tV : Turns (fun _ => False) w7 w7.drew := (Turns.refl _ _).drew
  go_cut [12] from 13 (fun v12 wc => ∃ G, v12 = .pointer (some ⟨G, 0, none⟩) ∧ PBox wc G w.heap.size tbl ∧ Turns (fun _ => False) w7 wc)
  case first =>
    rename_i kk rest jj kk' m1 m2
    clear rest
    refine wp_region_z_drew 11 (S := fun u => u.cell? ⟨g11, 0, none⟩ = some (.slice ha ahd.length hc) ∧ u.cell? ⟨g11, 1, none⟩ = some (.int .i64 0)) (by kernel_rfl) (SK.out _ tV) (fun _ => ?_)
    change wpAnyZ _ _ _ _ _ _ 12 (Array.replicate 12 false) _ _
    refine wpAnyZ_take (i := 0) (oi := { dst := some 42, op := Op.load 119 (Operand.tmp 11), type := 119, pos := "make.go:34", after := #[], guard := none }) (v := .agg #[.slice ha ahd.length hc, .int .i64 0]) rfl (by kernel_rfl) (by kernel_rfl) (by kernel_rfl) (by kernel_rfl) (fun _ _ _ h => h) (Or.inl ⟨by rfl, ?_⟩) (SK.out _ tV) ?_
    · rintro w ⟨s0, s1⟩
      go_simp
    simp only [Act.put, List.setIfInBounds_toArray, List.set_cons_zero, List.set_cons_succ]
    refine wpAnyZ_take (i := 1) (oi := { dst := some 43, op := Op.move (Operand.tmp 8), type := 116, pos := "make.go:34", after := #[], guard := none }) (v := .pointer (some ⟨bx, 0, none⟩)) rfl (by kernel_rfl) (by kernel_rfl) (by kernel_rfl) (by kernel_rfl) (fun _ _ _ h => h) (Or.inl ⟨by rfl, ?_⟩) (SK.out _ tV) ?_
    · rintro w ⟨s0, s1⟩
      go_simp
    simp only [Act.put, List.setIfInBounds_toArray, List.set_cons_zero, List.set_cons_succ]
    refine wpAnyZ_take (i := 4) (oi := { dst := some 46, op := Op.fieldAddr 119 (Operand.tmp 11) 0, type := 0, pos := "make.go:34", after := #[], guard := none }) (v := .pointer (some ⟨g11, 0, none⟩)) rfl (by kernel_rfl) (by kernel_rfl) (by kernel_rfl) (by kernel_rfl) (fun _ _ _ h => h) (Or.inl ⟨by rfl, ?_⟩) (SK.out _ tV) ?_
    · rintro w ⟨s0, s1⟩
      go_simp
    simp only [Act.put, List.setIfInBounds_toArray, List.set_cons_zero, List.set_cons_succ]
    refine wpAnyZ_take (i := 5) (oi := { dst := some 47, op := Op.load 28 (Operand.tmp 46), type := 28, pos := "make.go:34", after := #[{ on := 4, ground := Ground.data }], guard := none }) (v := .slice ha ahd.length hc) rfl (by kernel_rfl) (by kernel_rfl) (by kernel_rfl) (by kernel_rfl) (fun _ _ _ h => h) (Or.inl ⟨by rfl, ?_⟩) (SK.out _ tV) ?_
    · rintro w ⟨s0, s1⟩
      go_simp
    simp only [Act.put, List.setIfInBounds_toArray, List.set_cons_zero, List.set_cons_succ]
    refine wpAnyZ_take (i := 6) (oi := { dst := some 48, op := Op.call { callee := Callee.builtin Builtin.len, args := #[Operand.tmp 47], argTypes := #[28] }, type := 3, pos := "make.go:34", after := #[{ on := 5, ground := Ground.data }], guard := none }) (v := .int .i64 (ahd.length : Nat)) rfl (by kernel_rfl) (by kernel_rfl) (by kernel_rfl) (by kernel_rfl) (fun _ _ _ h => h) (Or.inl ⟨by rfl, ?_⟩) (SK.out _ tV) ?_
    · rintro w ⟨s0, s1⟩
      go_simp
    simp only [Act.put, List.setIfInBounds_toArray, List.set_cons_zero, List.set_cons_succ]
    refine wpAnyZ_ready (rs := [2, 10]) (by kernel_rfl) (by simp) ?_
    refine AllReadyZ.cons rfl (fun K hK => ?_) (AllReadyZ.cons rfl (fun K hK => ?_) AllReadyZ.nil)
    · go_simp
      refine (BODY.out _ tV).mono ?_
      rintro oo V1 ⟨ia, ic, rfl, hfr, tN⟩
      have F1 := hide hfr
      have tV := tV.trans tN
      clear tN hfr
      go_simp
      refine hK.out _ _ (SK.out _ tV) (fun _ => ?_)
      clear hK K
      refine wpAnyZ_ready (rs := [3, 10]) (by kernel_rfl) (by simp) ?_
      refine AllReadyZ.cons rfl (fun K hK => ?_) (AllReadyZ.cons rfl (fun K hK => ?_) AllReadyZ.nil)
      · go_simp
        refine (FR4.out _ ia ic F1.out (Nat.le_trans T7.out.size tV.size)).mono ?_
        rintro oo V2 ⟨ja, jc, rfl, hfr, bN⟩
        have tN := Turns.of_below bN (fun _ => False)
        have F2 := hide hfr
        have tV := tV.trans tN
        clear tN bN hfr
        go_simp
        refine hK.out _ _ (SK.out _ tV) (fun _ => ?_)
        clear hK K
        refine wpAnyZ_ready (rs := [7, 10]) (by kernel_rfl) (by simp) ?_
        refine AllReadyZ.cons rfl (fun K hK => ?_) (AllReadyZ.cons rfl (fun K hK => ?_) AllReadyZ.nil)
        · go_simp
          refine (ENDO.out _ (Nat.le_trans T7.out.size tV.size)).mono ?_
          rintro oo V3 ⟨ka, kc, rfl, hfr, bN⟩
          have tN := Turns.of_below bN (fun _ => False)
          have F2 := hide (F2.out.turns tN (fun _ _ x => x))
          have F3 := hide hfr
          have tV := tV.trans tN
          clear tN bN hfr
          go_simp
          refine hK.out _ _ (SK.out _ tV) (fun _ => ?_)
          clear hK K
          refine wpAnyZ_ready (rs := [8, 10]) (by kernel_rfl) (by simp) ?_
          refine AllReadyZ.cons rfl (fun K hK => ?_) (AllReadyZ.cons rfl (fun K hK => ?_) AllReadyZ.nil)
          · go_simp
            obtain ⟨V4, hV4⟩ : ∃ u, u = V3.alloc (.cells #[.slice ha ahd.length hc, .int .i64 0, .slice ja fr4.length jc, .int .i64 0, .slice ka tl.length kc, .int .i64 0] 119) := ⟨_, rfl⟩
            have hA9 : V4.heap[V3.heap.size]? = some (.cells #[.slice ha ahd.length hc, .int .i64 0, .slice ja fr4.length jc, .int .i64 0, .slice ka tl.length kc, .int .i64 0] 119) := by rw [hV4]; exact heap_alloc_new _ _
            have tN : Turns (fun _ => False) V3 V4 := by rw [hV4]; exact (Turns.refl _ _).alloc _
            obtain ⟨A, hAA⟩ : ∃ g, g = V3.heap.size := ⟨_, rfl⟩
            have PT := hide (show V4.heap[A]? = some (.cells #[.slice ha ahd.length hc, .int .i64 0, .slice ja fr4.length jc, .int .i64 0, .slice ka tl.length kc, .int .i64 0] 119) by rw [hAA]; exact hA9)
            rw [← hV4, ← hAA]
            clear hA9 hV4 hAA
            have F2 := hide (F2.out.turns tN (fun _ _ x => x))
            have F3 := hide (F3.out.turns tN (fun _ _ x => x))
            have tV := tV.trans tN
            clear tN
            refine hK.out _ _ (SK.out _ tV) (fun _ => ?_)
            clear hK K
            refine wpAnyZ_ready (rs := [9, 10]) (by kernel_rfl) (by simp) ?_
            refine AllReadyZ.cons rfl (fun K hK => ?_) (AllReadyZ.cons rfl (fun K hK => ?_) AllReadyZ.nil)
            · go_simp
              refine (TOG.out A _ ja jc ka kc PT.out (AHF.out _ tV) F2.out F3.out (Nat.le_trans T7.out.size tV.size)).mono ?_
              rintro oo V5 ⟨ta, tc, rfl, hfr, bN⟩
              have tN := Turns.of_below bN (fun _ => False)
              have FL := hide hfr
              have tV := tV.trans tN
              clear tN bN hfr
              go_simp
              refine hK.out _ _ (SK.out _ tV) (fun _ => ?_)
              clear hK K
              refine wpAnyZ_ready (rs := [10]) (by kernel_rfl) (by simp) ?_
              refine AllReadyZ.cons rfl (fun K hK => ?_) AllReadyZ.nil
              go_simp
              obtain ⟨U0, hU0⟩ : ∃ u, u = V5.alloc (.cells #[.slice none 0 0, .int .i64 0] 119) := ⟨_, rfl⟩
              have HG0 : U0.heap[V5.heap.size]? = some (.cells #[.slice none 0 0, .int .i64 0] 119 (0, 0)) := by rw [hU0]; exact heap_alloc_new _ _
              have tA : Turns (fun _ => False) V5 U0 := by rw [hU0]; exact (Turns.refl _ _).alloc _
              obtain ⟨G, hGG⟩ : ∃ g, g = V5.heap.size := ⟨_, rfl⟩
              have HG := hide (show U0.heap[G]? = some (.cells #[.slice none 0 0, .int .i64 0] 119 (0, 0)) by rw [hGG]; exact HG0)
              have HGS := hide (show w7.heap.size ≤ G by rw [hGG]; exact tV.size)
              rw [← hU0, ← hGG]
              have tV := tV.trans tA
              have FL := hide (FL.out.turns tA (fun _ _ x => x))
              clear tA HG0
              refine hK.out _ _ (SK.out _ tV) (fun _ => ?_)
              clear hK K hU0 hGG
              have e0 := cell_of_row U0 G 0 _ 119 (0, 0) HG.out
              have z0 := frozen_of_row U0 G 0 _ 119 HG.out
              have e1 := cell_of_row U0 G 1 _ 119 (0, 0) HG.out
              have z1 := frozen_of_row U0 G 1 _ 119 HG.out
              have TV := hide tV
              clear tV
              refine wpAnyZ_ready (rs := [11]) (by kernel_rfl) (by simp) ?_
              refine AllReadyZ.free rfl (by kernel_rfl) (fun K hK => ?_) AllReadyZ.nil
              go_simp
              refine hK.out _ _ ?_
              clear hK K
              refine wpAnyZ_done (by kernel_rfl) ?_ _
              go_wp2_with fail
              go_meet
              obtain ⟨pq, tq⟩ := pbox_set HG.out FL.out rfl
              exact ⟨G, rfl, pq, TV.out.andThen tq fun k hk e => absurd hk (Nat.not_lt.2 (by rw [show k = G from e]; exact HGS.out))⟩
            · go_simp
              obtain ⟨U0, hU0⟩ : ∃ u, u = V4.alloc (.cells #[.slice none 0 0, .int .i64 0] 119) := ⟨_, rfl⟩
              have HG0 : U0.heap[V4.heap.size]? = some (.cells #[.slice none 0 0, .int .i64 0] 119 (0, 0)) := by rw [hU0]; exact heap_alloc_new _ _
              have tA : Turns (fun _ => False) V4 U0 := by rw [hU0]; exact (Turns.refl _ _).alloc _
              obtain ⟨G, hGG⟩ : ∃ g, g = V4.heap.size := ⟨_, rfl⟩
              have HG := hide (show U0.heap[G]? = some (.cells #[.slice none 0 0, .int .i64 0] 119 (0, 0)) by rw [hGG]; exact HG0)
              have HGS := hide (show w7.heap.size ≤ G by rw [hGG]; exact tV.size)
              rw [← hU0, ← hGG]
              have tV := tV.trans tA
              have F2 := hide (F2.out.turns tA (fun _ _ x => x))
              have F3 := hide (F3.out.turns tA (fun _ _ x => x))
              have PT := hide (tA.heap PT.out (fun x => x))
              clear tA HG0
              refine hK.out _ _ (SK.out _ tV) (fun _ => ?_)
              clear hK K hU0 hGG
              refine wpAnyZ_ready (rs := [9]) (by kernel_rfl) (by simp) ?_
              refine AllReadyZ.cons rfl (fun K hK => ?_) AllReadyZ.nil
              go_simp
              refine (TOG.out A _ ja jc ka kc PT.out (AHF.out _ tV) F2.out F3.out (Nat.le_trans T7.out.size tV.size)).mono ?_
              rintro oo V5 ⟨ta, tc, rfl, hfr, bN⟩
              have tN := Turns.of_below bN (fun _ => False)
              have HG := hide (tN.heap HG.out (fun x => x))
              have FL := hide hfr
              have tV := tV.trans tN
              clear tN bN hfr
              go_simp
              refine hK.out _ _ (SK.out _ tV) (fun _ => ?_)
              clear hK K
              have e0 := cell_of_row V5 G 0 _ 119 (0, 0) HG.out
              have z0 := frozen_of_row V5 G 0 _ 119 HG.out
              have e1 := cell_of_row V5 G 1 _ 119 (0, 0) HG.out
              have z1 := frozen_of_row V5 G 1 _ 119 HG.out
              have TV := hide tV
              clear tV
              refine wpAnyZ_ready (rs := [11]) (by kernel_rfl) (by simp) ?_
              refine AllReadyZ.free rfl (by kernel_rfl) (fun K hK => ?_) AllReadyZ.nil
              go_simp
              refine hK.out _ _ ?_
              clear hK K
              refine wpAnyZ_done (by kernel_rfl) ?_ _
              go_wp2_with fail
              go_meet
              obtain ⟨pq, tq⟩ := pbox_set HG.out FL.out rfl
              exact ⟨G, rfl, pq, TV.out.andThen tq fun k hk e => absurd hk (Nat.not_lt.2 (by rw [show k = G from e]; exact HGS.out))⟩
          · go_simp
            obtain ⟨U0, hU0⟩ : ∃ u, u = V3.alloc (.cells #[.slice none 0 0, .int .i64 0] 119) := ⟨_, rfl⟩
            have HG0 : U0.heap[V3.heap.size]? = some (.cells #[.slice none 0 0, .int .i64 0] 119 (0, 0)) := by rw [hU0]; exact heap_alloc_new _ _
            have tA : Turns (fun _ => False) V3 U0 := by rw [hU0]; exact (Turns.refl _ _).alloc _
            obtain ⟨G, hGG⟩ : ∃ g, g = V3.heap.size := ⟨_, rfl⟩
            have HG := hide (show U0.heap[G]? = some (.cells #[.slice none 0 0, .int .i64 0] 119 (0, 0)) by rw [hGG]; exact HG0)
            have HGS := hide (show w7.heap.size ≤ G by rw [hGG]; exact tV.size)
            rw [← hU0, ← hGG]
            have tV := tV.trans tA
            have F2 := hide (F2.out.turns tA (fun _ _ x => x))
            have F3 := hide (F3.out.turns tA (fun _ _ x => x))
            clear tA HG0
            refine hK.out _ _ (SK.out _ tV) (fun _ => ?_)
            clear hK K hU0 hGG
            refine wpAnyZ_ready (rs := [8]) (by kernel_rfl) (by simp) ?_
            refine AllReadyZ.cons rfl (fun K hK => ?_) AllReadyZ.nil
            go_simp
            obtain ⟨V4, hV4⟩ : ∃ u, u = U0.alloc (.cells #[.slice ha ahd.length hc, .int .i64 0, .slice ja fr4.length jc, .int .i64 0, .slice ka tl.length kc, .int .i64 0] 119) := ⟨_, rfl⟩
            have hA9 : V4.heap[U0.heap.size]? = some (.cells #[.slice ha ahd.length hc, .int .i64 0, .slice ja fr4.length jc, .int .i64 0, .slice ka tl.length kc, .int .i64 0] 119) := by rw [hV4]; exact heap_alloc_new _ _
            have tN : Turns (fun _ => False) U0 V4 := by rw [hV4]; exact (Turns.refl _ _).alloc _
            obtain ⟨A, hAA⟩ : ∃ g, g = U0.heap.size := ⟨_, rfl⟩
            have PT := hide (show V4.heap[A]? = some (.cells #[.slice ha ahd.length hc, .int .i64 0, .slice ja fr4.length jc, .int .i64 0, .slice ka tl.length kc, .int .i64 0] 119) by rw [hAA]; exact hA9)
            rw [← hV4, ← hAA]
            clear hA9 hV4 hAA
            have F2 := hide (F2.out.turns tN (fun _ _ x => x))
            have F3 := hide (F3.out.turns tN (fun _ _ x => x))
            have HG := hide (tN.heap HG.out (fun x => x))
            have tV := tV.trans tN
            clear tN
            refine hK.out _ _ (SK.out _ tV) (fun _ => ?_)
            clear hK K
            refine wpAnyZ_ready (rs := [9]) (by kernel_rfl) (by simp) ?_
            refine AllReadyZ.cons rfl (fun K hK => ?_) AllReadyZ.nil
            go_simp
            refine (TOG.out A _ ja jc ka kc PT.out (AHF.out _ tV) F2.out F3.out (Nat.le_trans T7.out.size tV.size)).mono ?_
            rintro oo V5 ⟨ta, tc, rfl, hfr, bN⟩
            have tN := Turns.of_below bN (fun _ => False)
            have HG := hide (tN.heap HG.out (fun x => x))
            have FL := hide hfr
            have tV := tV.trans tN
            clear tN bN hfr
            go_simp
            refine hK.out _ _ (SK.out _ tV) (fun _ => ?_)
            clear hK K
            have e0 := cell_of_row V5 G 0 _ 119 (0, 0) HG.out
            have z0 := frozen_of_row V5 G 0 _ 119 HG.out
            have e1 := cell_of_row V5 G 1 _ 119 (0, 0) HG.out
            have z1 := frozen_of_row V5 G 1 _ 119 HG.out
            have TV := hide tV
            clear tV
            refine wpAnyZ_ready (rs := [11]) (by kernel_rfl) (by simp) ?_
            refine AllReadyZ.free rfl (by kernel_rfl) (fun K hK => ?_) AllReadyZ.nil
            go_simp
            refine hK.out _ _ ?_
            clear hK K
            refine wpAnyZ_done (by kernel_rfl) ?_ _
            go_wp2_with fail
            go_meet
            obtain ⟨pq, tq⟩ := pbox_set HG.out FL.out rfl
            exact ⟨G, rfl, pq, TV.out.andThen tq fun k hk e => absurd hk (Nat.not_lt.2 (by rw [show k = G from e]; exact HGS.out))⟩
        · go_simp
          obtain ⟨U0, hU0⟩ : ∃ u, u = V2.alloc (.cells #[.slice none 0 0, .int .i64 0] 119) := ⟨_, rfl⟩
          have HG0 : U0.heap[V2.heap.size]? = some (.cells #[.slice none 0 0, .int .i64 0] 119 (0, 0)) := by rw [hU0]; exact heap_alloc_new _ _
          have tA : Turns (fun _ => False) V2 U0 := by rw [hU0]; exact (Turns.refl _ _).alloc _
          obtain ⟨G, hGG⟩ : ∃ g, g = V2.heap.size := ⟨_, rfl⟩
          have HG := hide (show U0.heap[G]? = some (.cells #[.slice none 0 0, .int .i64 0] 119 (0, 0)) by rw [hGG]; exact HG0)
          have HGS := hide (show w7.heap.size ≤ G by rw [hGG]; exact tV.size)
          rw [← hU0, ← hGG]
          have tV := tV.trans tA
          have F2 := hide (F2.out.turns tA (fun _ _ x => x))
          clear tA HG0
          refine hK.out _ _ (SK.out _ tV) (fun _ => ?_)
          clear hK K hU0 hGG
          refine wpAnyZ_ready (rs := [7]) (by kernel_rfl) (by simp) ?_
          refine AllReadyZ.cons rfl (fun K hK => ?_) AllReadyZ.nil
          go_simp
          refine (ENDO.out _ (Nat.le_trans T7.out.size tV.size)).mono ?_
          rintro oo V3 ⟨ka, kc, rfl, hfr, bN⟩
          have tN := Turns.of_below bN (fun _ => False)
          have F2 := hide (F2.out.turns tN (fun _ _ x => x))
          have HG := hide (tN.heap HG.out (fun x => x))
          have F3 := hide hfr
          have tV := tV.trans tN
          clear tN bN hfr
          go_simp
          refine hK.out _ _ (SK.out _ tV) (fun _ => ?_)
          clear hK K
          refine wpAnyZ_ready (rs := [8]) (by kernel_rfl) (by simp) ?_
          refine AllReadyZ.cons rfl (fun K hK => ?_) AllReadyZ.nil
          go_simp
          obtain ⟨V4, hV4⟩ : ∃ u, u = V3.alloc (.cells #[.slice ha ahd.length hc, .int .i64 0, .slice ja fr4.length jc, .int .i64 0, .slice ka tl.length kc, .int .i64 0] 119) := ⟨_, rfl⟩
          have hA9 : V4.heap[V3.heap.size]? = some (.cells #[.slice ha ahd.length hc, .int .i64 0, .slice ja fr4.length jc, .int .i64 0, .slice ka tl.length kc, .int .i64 0] 119) := by rw [hV4]; exact heap_alloc_new _ _
          have tN : Turns (fun _ => False) V3 V4 := by rw [hV4]; exact (Turns.refl _ _).alloc _
          obtain ⟨A, hAA⟩ : ∃ g, g = V3.heap.size := ⟨_, rfl⟩
          have PT := hide (show V4.heap[A]? = some (.cells #[.slice ha ahd.length hc, .int .i64 0, .slice ja fr4.length jc, .int .i64 0, .slice ka tl.length kc, .int .i64 0] 119) by rw [hAA]; exact hA9)
          rw [← hV4, ← hAA]
          clear hA9 hV4 hAA
          have F2 := hide (F2.out.turns tN (fun _ _ x => x))
          have F3 := hide (F3.out.turns tN (fun _ _ x => x))
          have HG := hide (tN.heap HG.out (fun x => x))
          have tV := tV.trans tN
          clear tN
          refine hK.out _ _ (SK.out _ tV) (fun _ => ?_)
          clear hK K
          refine wpAnyZ_ready (rs := [9]) (by kernel_rfl) (by simp) ?_
          refine AllReadyZ.cons rfl (fun K hK => ?_) AllReadyZ.nil
          go_simp
          refine (TOG.out A _ ja jc ka kc PT.out (AHF.out _ tV) F2.out F3.out (Nat.le_trans T7.out.size tV.size)).mono ?_
          rintro oo V5 ⟨ta, tc, rfl, hfr, bN⟩
          have tN := Turns.of_below bN (fun _ => False)
          have HG := hide (tN.heap HG.out (fun x => x))
          have FL := hide hfr
          have tV := tV.trans tN
          clear tN bN hfr
          go_simp
          refine hK.out _ _ (SK.out _ tV) (fun _ => ?_)
          clear hK K
          have e0 := cell_of_row V5 G 0 _ 119 (0, 0) HG.out
          have z0 := frozen_of_row V5 G 0 _ 119 HG.out
          have e1 := cell_of_row V5 G 1 _ 119 (0, 0) HG.out
          have z1 := frozen_of_row V5 G 1 _ 119 HG.out
          have TV := hide tV
          clear tV
          refine wpAnyZ_ready (rs := [11]) (by kernel_rfl) (by simp) ?_
          refine AllReadyZ.free rfl (by kernel_rfl) (fun K hK => ?_) AllReadyZ.nil
          go_simp
          refine hK.out _ _ ?_
          clear hK K
          refine wpAnyZ_done (by kernel_rfl) ?_ _
          go_wp2_with fail
          go_meet
          obtain ⟨pq, tq⟩ := pbox_set HG.out FL.out rfl
          exact ⟨G, rfl, pq, TV.out.andThen tq fun k hk e => absurd hk (Nat.not_lt.2 (by rw [show k = G from e]; exact HGS.out))⟩
      · go_simp
        obtain ⟨U0, hU0⟩ : ∃ u, u = V1.alloc (.cells #[.slice none 0 0, .int .i64 0] 119) := ⟨_, rfl⟩
        have HG0 : U0.heap[V1.heap.size]? = some (.cells #[.slice none 0 0, .int .i64 0] 119 (0, 0)) := by rw [hU0]; exact heap_alloc_new _ _
        have tA : Turns (fun _ => False) V1 U0 := by rw [hU0]; exact (Turns.refl _ _).alloc _
        obtain ⟨G, hGG⟩ : ∃ g, g = V1.heap.size := ⟨_, rfl⟩
        have HG := hide (show U0.heap[G]? = some (.cells #[.slice none 0 0, .int .i64 0] 119 (0, 0)) by rw [hGG]; exact HG0)
        have HGS := hide (show w7.heap.size ≤ G by rw [hGG]; exact tV.size)
        rw [← hU0, ← hGG]
        have tV := tV.trans tA
        have F1 := hide (F1.out.turns tA (fun _ _ x => x))
        clear tA HG0
        refine hK.out _ _ (SK.out _ tV) (fun _ => ?_)
        clear hK K hU0 hGG
        refine wpAnyZ_ready (rs := [3]) (by kernel_rfl) (by simp) ?_
        refine AllReadyZ.cons rfl (fun K hK => ?_) AllReadyZ.nil
        go_simp
        refine (FR4.out _ ia ic F1.out (Nat.le_trans T7.out.size tV.size)).mono ?_
        rintro oo V2 ⟨ja, jc, rfl, hfr, bN⟩
        have tN := Turns.of_below bN (fun _ => False)
        have HG := hide (tN.heap HG.out (fun x => x))
        have F2 := hide hfr
        have tV := tV.trans tN
        clear tN bN hfr
        go_simp
        refine hK.out _ _ (SK.out _ tV) (fun _ => ?_)
        clear hK K
        refine wpAnyZ_ready (rs := [7]) (by kernel_rfl) (by simp) ?_
        refine AllReadyZ.cons rfl (fun K hK => ?_) AllReadyZ.nil
        go_simp
        refine (ENDO.out _ (Nat.le_trans T7.out.size tV.size)).mono ?_
        rintro oo V3 ⟨ka, kc, rfl, hfr, bN⟩
        have tN := Turns.of_below bN (fun _ => False)
        have F2 := hide (F2.out.turns tN (fun _ _ x => x))
        have HG := hide (tN.heap HG.out (fun x => x))
        have F3 := hide hfr
        have tV := tV.trans tN
        clear tN bN hfr
        go_simp
        refine hK.out _ _ (SK.out _ tV) (fun _ => ?_)
        clear hK K
        refine wpAnyZ_ready (rs := [8]) (by kernel_rfl) (by simp) ?_
        refine AllReadyZ.cons rfl (fun K hK => ?_) AllReadyZ.nil
        go_simp
        obtain ⟨V4, hV4⟩ : ∃ u, u = V3.alloc (.cells #[.slice ha ahd.length hc, .int .i64 0, .slice ja fr4.length jc, .int .i64 0, .slice ka tl.length kc, .int .i64 0] 119) := ⟨_, rfl⟩
        have hA9 : V4.heap[V3.heap.size]? = some (.cells #[.slice ha ahd.length hc, .int .i64 0, .slice ja fr4.length jc, .int .i64 0, .slice ka tl.length kc, .int .i64 0] 119) := by rw [hV4]; exact heap_alloc_new _ _
        have tN : Turns (fun _ => False) V3 V4 := by rw [hV4]; exact (Turns.refl _ _).alloc _
        obtain ⟨A, hAA⟩ : ∃ g, g = V3.heap.size := ⟨_, rfl⟩
        have PT := hide (show V4.heap[A]? = some (.cells #[.slice ha ahd.length hc, .int .i64 0, .slice ja fr4.length jc, .int .i64 0, .slice ka tl.length kc, .int .i64 0] 119) by rw [hAA]; exact hA9)
        rw [← hV4, ← hAA]
        clear hA9 hV4 hAA
        have F2 := hide (F2.out.turns tN (fun _ _ x => x))
        have F3 := hide (F3.out.turns tN (fun _ _ x => x))
        have HG := hide (tN.heap HG.out (fun x => x))
        have tV := tV.trans tN
        clear tN
        refine hK.out _ _ (SK.out _ tV) (fun _ => ?_)
        clear hK K
        refine wpAnyZ_ready (rs := [9]) (by kernel_rfl) (by simp) ?_
        refine AllReadyZ.cons rfl (fun K hK => ?_) AllReadyZ.nil
        go_simp
        refine (TOG.out A _ ja jc ka kc PT.out (AHF.out _ tV) F2.out F3.out (Nat.le_trans T7.out.size tV.size)).mono ?_
        rintro oo V5 ⟨ta, tc, rfl, hfr, bN⟩
        have tN := Turns.of_below bN (fun _ => False)
        have HG := hide (tN.heap HG.out (fun x => x))
        have FL := hide hfr
        have tV := tV.trans tN
        clear tN bN hfr
        go_simp
        refine hK.out _ _ (SK.out _ tV) (fun _ => ?_)
        clear hK K
        have e0 := cell_of_row V5 G 0 _ 119 (0, 0) HG.out
        have z0 := frozen_of_row V5 G 0 _ 119 HG.out
        have e1 := cell_of_row V5 G 1 _ 119 (0, 0) HG.out
        have z1 := frozen_of_row V5 G 1 _ 119 HG.out
        have TV := hide tV
        clear tV
        refine wpAnyZ_ready (rs := [11]) (by kernel_rfl) (by simp) ?_
        refine AllReadyZ.free rfl (by kernel_rfl) (fun K hK => ?_) AllReadyZ.nil
        go_simp
        refine hK.out _ _ ?_
        clear hK K
        refine wpAnyZ_done (by kernel_rfl) ?_ _
        go_wp2_with fail
        go_meet
        obtain ⟨pq, tq⟩ := pbox_set HG.out FL.out rfl
        exact ⟨G, rfl, pq, TV.out.andThen tq fun k hk e => absurd hk (Nat.not_lt.2 (by rw [show k = G from e]; exact HGS.out))⟩
    · go_simp
      obtain ⟨U0, hU0⟩ : ∃ u, u = (w7.alloc (.cells #[.slice none 0 0, .int .i64 0] 119)).drew := ⟨_, rfl⟩
      have HG0 : U0.heap[w7.heap.size]? = some (.cells #[.slice none 0 0, .int .i64 0] 119 (0, 0)) := by rw [hU0]; exact heap_alloc_new _ _
      have tA : Turns (fun _ => False) w7 U0 := by rw [hU0]; exact ((Turns.refl _ _).alloc _).drew
      obtain ⟨G, hGG⟩ : ∃ g, g = w7.heap.size := ⟨_, rfl⟩
      have HG := hide (show U0.heap[G]? = some (.cells #[.slice none 0 0, .int .i64 0] 119 (0, 0)) by rw [hGG]; exact HG0)
      have HGS := hide (show w7.heap.size ≤ G by rw [hGG]; exact Nat.le_refl _)
      rw [← hU0, ← hGG]
      have tV := tA
      clear tA HG0
      refine hK.out _ _ (SK.out _ tV) (fun _ => ?_)
      clear hK K hU0 hGG
      refine wpAnyZ_ready (rs := [2]) (by kernel_rfl) (by simp) ?_
      refine AllReadyZ.cons rfl (fun K hK => ?_) AllReadyZ.nil
      go_simp
      refine (BODY.out _ tV).mono ?_
      rintro oo V1 ⟨ia, ic, rfl, hfr, tN⟩
      have HG := hide (tN.heap HG.out (fun x => x))
      have F1 := hide hfr
      have tV := tV.trans tN
      clear tN hfr
      go_simp
      refine hK.out _ _ (SK.out _ tV) (fun _ => ?_)
      clear hK K
      refine wpAnyZ_ready (rs := [3]) (by kernel_rfl) (by simp) ?_
      refine AllReadyZ.cons rfl (fun K hK => ?_) AllReadyZ.nil
      go_simp
      refine (FR4.out _ ia ic F1.out (Nat.le_trans T7.out.size tV.size)).mono ?_
      rintro oo V2 ⟨ja, jc, rfl, hfr, bN⟩
      have tN := Turns.of_below bN (fun _ => False)
      have HG := hide (tN.heap HG.out (fun x => x))
      have F2 := hide hfr
      have tV := tV.trans tN
      clear tN bN hfr
      go_simp
      refine hK.out _ _ (SK.out _ tV) (fun _ => ?_)
      clear hK K
      refine wpAnyZ_ready (rs := [7]) (by kernel_rfl) (by simp) ?_
      refine AllReadyZ.cons rfl (fun K hK => ?_) AllReadyZ.nil
      go_simp
      refine (ENDO.out _ (Nat.le_trans T7.out.size tV.size)).mono ?_
      rintro oo V3 ⟨ka, kc, rfl, hfr, bN⟩
      have tN := Turns.of_below bN (fun _ => False)
      have F2 := hide (F2.out.turns tN (fun _ _ x => x))
      have HG := hide (tN.heap HG.out (fun x => x))
      have F3 := hide hfr
      have tV := tV.trans tN
      clear tN bN hfr
      go_simp
      refine hK.out _ _ (SK.out _ tV) (fun _ => ?_)
      clear hK K
      refine wpAnyZ_ready (rs := [8]) (by kernel_rfl) (by simp) ?_
      refine AllReadyZ.cons rfl (fun K hK => ?_) AllReadyZ.nil
      go_simp
      obtain ⟨V4, hV4⟩ : ∃ u, u = V3.alloc (.cells #[.slice ha ahd.length hc, .int .i64 0, .slice ja fr4.length jc, .int .i64 0, .slice ka tl.length kc, .int .i64 0] 119) := ⟨_, rfl⟩
      have hA9 : V4.heap[V3.heap.size]? = some (.cells #[.slice ha ahd.length hc, .int .i64 0, .slice ja fr4.length jc, .int .i64 0, .slice ka tl.length kc, .int .i64 0] 119) := by rw [hV4]; exact heap_alloc_new _ _
      have tN : Turns (fun _ => False) V3 V4 := by rw [hV4]; exact (Turns.refl _ _).alloc _
      obtain ⟨A, hAA⟩ : ∃ g, g = V3.heap.size := ⟨_, rfl⟩
      have PT := hide (show V4.heap[A]? = some (.cells #[.slice ha ahd.length hc, .int .i64 0, .slice ja fr4.length jc, .int .i64 0, .slice ka tl.length kc, .int .i64 0] 119) by rw [hAA]; exact hA9)
      rw [← hV4, ← hAA]
      clear hA9 hV4 hAA
      have F2 := hide (F2.out.turns tN (fun _ _ x => x))
      have F3 := hide (F3.out.turns tN (fun _ _ x => x))
      have HG := hide (tN.heap HG.out (fun x => x))
      have tV := tV.trans tN
      clear tN
      refine hK.out _ _ (SK.out _ tV) (fun _ => ?_)
      clear hK K
      refine wpAnyZ_ready (rs := [9]) (by kernel_rfl) (by simp) ?_
      refine AllReadyZ.cons rfl (fun K hK => ?_) AllReadyZ.nil
      go_simp
      refine (TOG.out A _ ja jc ka kc PT.out (AHF.out _ tV) F2.out F3.out (Nat.le_trans T7.out.size tV.size)).mono ?_
      rintro oo V5 ⟨ta, tc, rfl, hfr, bN⟩
      have tN := Turns.of_below bN (fun _ => False)
      have HG := hide (tN.heap HG.out (fun x => x))
      have FL := hide hfr
      have tV := tV.trans tN
      clear tN bN hfr
      go_simp
      refine hK.out _ _ (SK.out _ tV) (fun _ => ?_)
      clear hK K
      have e0 := cell_of_row V5 G 0 _ 119 (0, 0) HG.out
      have z0 := frozen_of_row V5 G 0 _ 119 HG.out
      have e1 := cell_of_row V5 G 1 _ 119 (0, 0) HG.out
      have z1 := frozen_of_row V5 G 1 _ 119 HG.out
      have TV := hide tV
      clear tV
      refine wpAnyZ_ready (rs := [11]) (by kernel_rfl) (by simp) ?_
      refine AllReadyZ.free rfl (by kernel_rfl) (fun K hK => ?_) AllReadyZ.nil
      go_simp
      refine hK.out _ _ ?_
      clear hK K
      refine wpAnyZ_done (by kernel_rfl) ?_ _
      go_wp2_with fail
      go_meet
      obtain ⟨pq, tq⟩ := pbox_set HG.out FL.out rfl
      exact ⟨G, rfl, pq, TV.out.andThen tq fun k hk e => absurd hk (Nat.not_lt.2 (by rw [show k = G from e]; exact HGS.out))⟩
  obtain ⟨G12, rfl, hpb, t8⟩ := hcut
  obtain ⟨w8, hw8⟩ : ∃ u, u = wc := ⟨_, rfl⟩
  subst hw8
  have T8 := hide (T7.out.trans t8)
  have HBX := hide (t8.heap HBX.out (fun x => x))
  have HPR := hide (HPR.out.keep t8 (fun _ _ x => x))
  have B1 := hide (B1.out.quiet t8)
  have B2 := hide (B2.out.quiet t8)
  have N5 := hide (t8.heap N5.out (fun x => x))
  obtain ⟨ta, tc, c12, hft⟩ := hpb.ex
  have R12 := hide c12
  have FT := hide hft
  have q0 := cell_of_row w8 G12 0 _ 119 (0, 0) c12
  have q1 := cell_of_row w8 G12 1 _ 119 (0, 0) c12
  simp only [List.getElem?_toArray, List.getElem?_cons_zero, List.getElem?_cons_succ] at q0 q1
  have i9 : ¬ (16777216 : Int) < (tbl.length : Int) := by have := HTB.out; omega
  obtain ⟨pa, pc, hpv⟩ := HPR.out.len
  rw [plcs_length] at hpv
  obtain ⟨pn, hpn⟩ : ∃ m, m = L.length := ⟨_, rfl⟩
  rw [← hpn] at hpv
  have HPN := hide hpn
  rw [hpv] at HBX
  have COM := hide (complete_any bx pn tbl.length pa pc (.int .i64 (l.length : Nat)) (.int .i64 0) (.int .i64 0) (.slice la x0.e.key.length lc) (.slice ma xz.e.key.length mc) (.int .u64 (lo : Nat)) (.int .u64 (hi : Nat)) w8 HBX.out)
  clear hpb t8 c12 hft SK tV BODY FR4 ENDO TOG AHF T7 PB11 R11 hpv hpn
  go_upto_region 14 with (go_at_call 58; refine COM.out.mono ?_; rintro e w9 ⟨⟨vv, rfl⟩, hbx9, t9⟩)
  have hbg : bx ≠ G12 := fun e9 => by
    have h8 := HBX.out
    rw [e9, R12.out] at h8
    simp only [Option.some.injEq, Obj.cells.injEq] at h8
    exact absurd h8.2.1 (by decide)
  have hb5 : w.heap.size + 1 ≠ bx := by have := GE.out; omega
  have HBX9 := hide hbx9
  have T9 := hide t9
  have R12 := hide (t9.heap R12.out (fun e9 => hbg (Eq.symm e9)))
  have N59 := hide (t9.heap N5.out (fun e9 => hb5 e9))
  have SK := hide (fun (u : World) (t : Turns (fun k => k = w.heap.size + 1) w9 u) => show u.cell? ⟨G12, 0, none⟩ = some (.slice ta tbl.length tc) ∧ (u.cell? ⟨bx, 1, none⟩ = some (.int .i64 (l.length : Nat)) ∧ u.cell? ⟨bx, 2, none⟩ = some (.int .i64 (pn : Nat)) ∧ u.cell? ⟨bx, 3, none⟩ = some (.int .i64 (tbl.length : Nat)) ∧ u.cell? ⟨bx, 4, none⟩ = some (.slice la x0.e.key.length lc) ∧ u.cell? ⟨bx, 5, none⟩ = some (.slice ma xz.e.key.length mc) ∧ u.cell? ⟨bx, 6, none⟩ = some (.int .u64 (lo : Nat)) ∧ u.cell? ⟨bx, 7, none⟩ = some (.int .u64 (hi : Nat))) from by
    have h5 := t.heap HBX9.out (fun e9 => hb5 (Eq.symm e9))
    have h6 := t.heap R12.out (fun e9 => by
      have h8 := N59.out
      rw [← (show G12 = w.heap.size + 1 from e9), R12.out] at h8
      simp only [Option.some.injEq, Obj.cells.injEq] at h8
      exact absurd h8.2.1 (by decide))
    exact ⟨cell_of_row u G12 0 _ 119 (0, 0) h6, cell_of_row u bx 1 _ 55 (0, 0) h5, cell_of_row u bx 2 _ 55 (0, 0) h5, cell_of_row u bx 3 _ 55 (0, 0) h5, cell_of_row u bx 4 _ 55 (0, 0) h5, cell_of_row u bx 5 _ 55 (0, 0) h5, cell_of_row u bx 6 _ 55 (0, 0) h5, cell_of_row u bx 7 _ 55 (0, 0) h5⟩)
  have tV : Turns (fun k => k = w.heap.size + 1) w9 w9.drew := (Turns.refl _ _).drew
  have e0 := cell_of_row w9 (w.heap.size + 1) 0 _ 42 (0, 0) N59.out
  have e1 := cell_of_row w9 (w.heap.size + 1) 1 _ 42 (0, 0) N59.out
  have e2 := cell_of_row w9 (w.heap.size + 1) 2 _ 42 (0, 0) N59.out
  have e3 := cell_of_row w9 (w.heap.size + 1) 3 _ 42 (0, 0) N59.out
  have e4 := cell_of_row w9 (w.heap.size + 1) 4 _ 42 (0, 0) N59.out
  have e5 := cell_of_row w9 (w.heap.size + 1) 5 _ 42 (0, 0) N59.out
  have e6 := cell_of_row w9 (w.heap.size + 1) 6 _ 42 (0, 0) N59.out
  have z0 := frozen_of_row w9 (w.heap.size + 1) 0 _ 42 N59.out
  have z1 := frozen_of_row w9 (w.heap.size + 1) 1 _ 42 N59.out
  have z2 := frozen_of_row w9 (w.heap.size + 1) 2 _ 42 N59.out
  have z3 := frozen_of_row w9 (w.heap.size + 1) 3 _ 42 N59.out
  have z4 := frozen_of_row w9 (w.heap.size + 1) 4 _ 42 N59.out
  have z5 := frozen_of_row w9 (w.heap.size + 1) 5 _ 42 N59.out
  have z6 := frozen_of_row w9 (w.heap.size + 1) 6 _ 42 N59.out
  clear hbx9 t9 COM q0 q1 i9
  have HB5 := hide hb5
  have ROW := hide (row42 N59.out (.int .i64 (l.length : Nat)) (.int .i64 (pn : Nat)) (.int .i64 (tbl.length : Nat)) (.slice la x0.e.key.length lc) (.slice ma xz.e.key.length mc) (.int .u64 (lo : Nat)) (.int .u64 (hi : Nat)))
  clear hb5 hbg
  refine wp_region_z_drew 7 (S := fun u => u.cell? ⟨G12, 0, none⟩ = some (.slice ta tbl.length tc) ∧ (u.cell? ⟨bx, 1, none⟩ = some (.int .i64 (l.length : Nat)) ∧ u.cell? ⟨bx, 2, none⟩ = some (.int .i64 (pn : Nat)) ∧ u.cell? ⟨bx, 3, none⟩ = some (.int .i64 (tbl.length : Nat)) ∧ u.cell? ⟨bx, 4, none⟩ = some (.slice la x0.e.key.length lc) ∧ u.cell? ⟨bx, 5, none⟩ = some (.slice ma xz.e.key.length mc) ∧ u.cell? ⟨bx, 6, none⟩ = some (.int .u64 (lo : Nat)) ∧ u.cell? ⟨bx, 7, none⟩ = some (.int .u64 (hi : Nat)))) (by kernel_rfl) (SK.out _ tV) (fun _ => ?_)
  change wpAnyZ _ _ _ _ _ _ 9 (Array.replicate 9 false) _ _
  refine wpAnyZ_take (i := 0) (oi := { dst := some 70, op := Op.fieldAddr 119 (Operand.tmp 12) 0, type := 0, pos := "make.go:42", after := #[], guard := none }) (v := .pointer (some ⟨G12, 0, none⟩)) rfl (by kernel_rfl) (by kernel_rfl) (by kernel_rfl) (by kernel_rfl) (fun _ _ _ h => h) (Or.inl ⟨by rfl, ?_⟩) (SK.out _ tV) ?_
  · rintro w ⟨s0, s1, s2, s3, s4, s5, s6, s7⟩
    go_simp
  simp only [Act.put, List.setIfInBounds_toArray, List.set_cons_zero, List.set_cons_succ]
  refine wpAnyZ_take (i := 1) (oi := { dst := some 71, op := Op.load 28 (Operand.tmp 70), type := 28, pos := "make.go:42", after := #[{ on := 0, ground := Ground.data }], guard := none }) (v := .slice ta tbl.length tc) rfl (by kernel_rfl) (by kernel_rfl) (by kernel_rfl) (by kernel_rfl) (fun _ _ _ h => h) (Or.inl ⟨by rfl, ?_⟩) (SK.out _ tV) ?_
  · rintro w ⟨s0, s1, s2, s3, s4, s5, s6, s7⟩
    go_simp
  simp only [Act.put, List.setIfInBounds_toArray, List.set_cons_zero, List.set_cons_succ]
  refine wpAnyZ_take (i := 2) (oi := { dst := some 72, op := Op.move (Operand.tmp 8), type := 116, pos := "make.go:42", after := #[{ on := 6, ground := Ground.gcOnly Departure.lateStores }], guard := none }) (v := .pointer (some ⟨bx, 0, none⟩)) rfl (by kernel_rfl) (by kernel_rfl) (by kernel_rfl) (by kernel_rfl) (fun _ _ _ h => h) (Or.inl ⟨by rfl, ?_⟩) (SK.out _ tV) ?_
  · rintro w ⟨s0, s1, s2, s3, s4, s5, s6, s7⟩
    go_simp
  simp only [Act.put, List.setIfInBounds_toArray, List.set_cons_zero, List.set_cons_succ]
  refine wpAnyZ_take (i := 3) (oi := { dst := some 73, op := Op.nilCheck (Operand.tmp 72), type := 0, pos := "make.go:42", after := #[{ on := 2, ground := Ground.data }, { on := 6, ground := Ground.gcOnly Departure.lateStores }], guard := none }) (v := .pointer (some ⟨bx, 0, none⟩)) rfl (by kernel_rfl) (by kernel_rfl) (by kernel_rfl) (by kernel_rfl) (fun _ _ _ h => h) (Or.inl ⟨by rfl, ?_⟩) (SK.out _ tV) ?_
  · rintro w ⟨s0, s1, s2, s3, s4, s5, s6, s7⟩
    go_simp
  simp only [Act.put, List.setIfInBounds_toArray, List.set_cons_zero, List.set_cons_succ]
  refine wpAnyZ_take (i := 4) (oi := { dst := some 74, op := Op.fieldAddr 55 (Operand.tmp 73) 1, type := 0, pos := "make.go:42", after := #[{ on := 3, ground := Ground.data }, { on := 6, ground := Ground.gcOnly Departure.lateStores }], guard := none }) (v := .pointer (some ⟨bx, 1, none⟩)) rfl (by kernel_rfl) (by kernel_rfl) (by kernel_rfl) (by kernel_rfl) (fun _ _ _ h => h) (Or.inl ⟨by rfl, ?_⟩) (SK.out _ tV) ?_
  · rintro w ⟨s0, s1, s2, s3, s4, s5, s6, s7⟩
    go_simp
  simp only [Act.put, List.setIfInBounds_toArray, List.set_cons_zero, List.set_cons_succ]
  refine wpAnyZ_take (i := 5) (oi := { dst := some 75, op := Op.load 42 (Operand.tmp 74), type := 42, pos := "make.go:42", after := #[{ on := 4, ground := Ground.data }, { on := 6, ground := Ground.gcOnly Departure.lateStores }], guard := none }) (v := .agg #[.int .i64 (l.length : Nat), .int .i64 (pn : Nat), .int .i64 (tbl.length : Nat), .slice la x0.e.key.length lc, .slice ma xz.e.key.length mc, .int .u64 (lo : Nat), .int .u64 (hi : Nat)]) rfl (by kernel_rfl) (by kernel_rfl) (by kernel_rfl) (by kernel_rfl) (fun _ _ _ h => h) (Or.inl ⟨by rfl, ?_⟩) (SK.out _ tV) ?_
  · rintro w ⟨s0, s1, s2, s3, s4, s5, s6, s7⟩
    go_simp
  simp only [Act.put, List.setIfInBounds_toArray, List.set_cons_zero, List.set_cons_succ]
  refine wpAnyZ_take (i := 6) (oi := { dst := some 4, op := Op.assign (Operand.tmp 71), type := 28, pos := "make.go:42", after := #[{ on := 1, ground := Ground.data }, { on := 0, ground := Ground.phase }, { on := 1, ground := Ground.phase }, { on := 2, ground := Ground.textOnly Departure.lateStores }, { on := 3, ground := Ground.textOnly Departure.lateStores }, { on := 4, ground := Ground.textOnly Departure.lateStores }, { on := 5, ground := Ground.textOnly Departure.lateStores }], guard := none }) (v := .slice ta tbl.length tc) rfl (by kernel_rfl) (by kernel_rfl) (by kernel_rfl) (by kernel_rfl) (fun _ _ _ h => h) (Or.inl ⟨by rfl, ?_⟩) (SK.out _ tV) ?_
  · rintro w ⟨s0, s1, s2, s3, s4, s5, s6, s7⟩
    go_simp
  simp only [Act.put, List.setIfInBounds_toArray, List.set_cons_zero, List.set_cons_succ]
  refine wpAnyZ_ready (rs := [7]) (by kernel_rfl) (by simp) ?_
  refine AllReadyZ.free rfl (by kernel_rfl) (fun K hK => ?_) AllReadyZ.nil
  go_simp
  refine hK.out _ _ ?_
  clear hK K
  refine wpAnyZ_late (i := 8) (oi := { dst := some 6, op := Op.assign (Operand.const (Value.int IntKind.i64 0)), type := 23, pos := "make.go:42", after := #[{ on := 7, ground := Ground.chain }, { on := 0, ground := Ground.phase }, { on := 1, ground := Ground.phase }, { on := 2, ground := Ground.phase }, { on := 3, ground := Ground.phase }, { on := 4, ground := Ground.phase }, { on := 5, ground := Ground.phase }, { on := 6, ground := Ground.phase }, { on := 7, ground := Ground.phase }], guard := none }) (v := .int .i64 0) rfl (by kernel_rfl) (by kernel_rfl) (by kernel_rfl) (by kernel_rfl) (fun _ _ _ h => h) (Or.inl ⟨by rfl, ?_⟩) (.inl (by kernel_rfl)) ?_
  · rintro w -
    go_simp
  simp only [Act.put, List.setIfInBounds_toArray, List.set_cons_zero, List.set_cons_succ]
  refine wpAnyZ_done (by kernel_rfl) ?_ _
  go_wp2_with fail
  obtain ⟨W, hW⟩ : ∃ W, W = ((((((((w9.setCell ⟨w.heap.size + 1, 0, none⟩ (.int .i64 (l.length : Nat))).setCell ⟨w.heap.size + 1, 1, none⟩ (.int .i64 (pn : Nat))).setCell ⟨w.heap.size + 1, 2, none⟩ (.int .i64 (tbl.length : Nat))).setCell ⟨w.heap.size + 1, 3, none⟩ (.slice la x0.e.key.length lc)).setCell ⟨w.heap.size + 1, 4, none⟩ (.slice ma xz.e.key.length mc)).setCell ⟨w.heap.size + 1, 5, none⟩ (.int .u64 (lo : Nat))).setCell ⟨w.heap.size + 1, 6, none⟩ (.int .u64 (hi : Nat)))) := ⟨_, rfl⟩
  rw [← hW] at ROW ⊢
  clear hW
  have k1 := ROW.out.1
  have k2 := ROW.out.2
  refine bodyPost_ret (v := .tuple #[.slice ta tbl.length tc, .agg #[.int .i64 (l.length : Nat), .int .i64 (pn : Nat), .int .i64 (tbl.length : Nat), .slice la x0.e.key.length lc, .slice ma xz.e.key.length mc, .int .u64 (lo : Nat), .int .u64 (hi : Nat)], .int .i64 0]) ?_ rfl ?_
  · exact results_tmp_cell_tmp Tryz.results39 _ _ _ _ _ _ _ _ _ rfl rfl rfl k1 Tryz.underlying42 rfl info42u
  · have td : Turns (fun _ => False) W W.drew := (Turns.refl _ _).drew
    have T10 := (T8.out.andThen T9.out (fun k hk e9 => by have h9 : k = bx := e9; have := GE.out; omega)).andThen k2 (fun k hk e9 => by have h9 : k = w.heap.size + 1 := e9; omega)
    have nb : ∀ {v : Value} {bs : List (BitVec 8)}, Bytes w8 v bs → Bytes W.drew v bs := fun h => (bytes_over8 (bytes_over8 h HBX.out (noU8_55 _ _ _ _ _ _ _ _ _ _ _ _ _ _) T9.out) N59.out (noU8_42 0 none 0 0 none 0 0 0 0) k2).quiet td
    have htb : tbl = tblB l L (fltT l bits) (idxT l L l.length lo hi x0.e.key xz.e.key) := by
      rw [HTL.out, HFR4.out, HTLL.out, HAHD.out, HBLK.out, HFR3.out, HFLT.out, HID.out]
      rfl
    have hfr : Fresh w.heap.size W.drew (.slice ta tbl.length tc) tbl := ((FT.out.keep5 T9.out fun k hk => .inr (by obtain rfl : k = bx := hk; exact ⟨_, 55, _, HBX.out, by decide⟩)).keep5 k2 fun k hk => .inr (by obtain rfl : k = w.heap.size + 1 := hk; exact ⟨_, 42, _, N59.out, by decide⟩)).turns td (fun _ _ x => x)
    exact ⟨_, L, la, lc, ma, mc, tbl.length, by rw [HPN.out], HCUT.out, by rw [← htb], by rw [← htb]; exact hfr, nb B1.out, nb B2.out, T10.trans td⟩
end Go.Proofs.YtjklbhdhjfifhaaGreat
