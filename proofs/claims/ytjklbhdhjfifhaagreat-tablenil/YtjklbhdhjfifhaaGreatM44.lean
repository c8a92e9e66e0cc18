import Derived.Test.YtjklbhdhjfifhaaGreatM42
import Derived.Test.YtjklbhdhjfifhaaGreatM43
import Derived.Test.YtjklbhdhjfifhaaGreatM36
/-
  body: its contract.
-/
namespace Go.Proofs.YtjklbhdhjfifhaaGreat
open Go.RowKit Go.Shelf
set_option maxRecDepth 100000
set_option maxHeartbeats 4000000
theorem body_any (bx : Nat) (pa : Option Addr) (pc : Nat) (pl : List Plc) (B n lo hi : Nat) (la ma : Option Addr) (lc mc : Nat) (least most : List (BitVec 8)) (s0 s1 : Value) (w : World)
    (hx : w.heap[bx]? = some (.cells (idxCells (.slice pa pl.length pc) (.int .i64 (n : Nat)) s0 s1 (.slice la least.length lc) (.slice ma most.length mc) (.int .u64 (lo : Nat)) (.int .u64 (hi : Nat))) 55 (0, 0)))
    (hp : PRow w B (.slice pa pl.length pc) pl) (hk : ∀ q ∈ pl, Bytes w q.t.kv q.t.e.key ∧ q.t.e.key.length ≤ 900000 ∧ q.t.e.seq < 18446744073709551616 ∧ q.pos < 9223372036854775808 ∧ q.size < 9223372036854775808)
    (hla : Bytes w (.slice la least.length lc) least) (hma : Bytes w (.slice ma most.length mc) most) (hlb : least.length ≤ 900000) (hmb : most.length ≤ 900000) (hn : n < 9223372036854775808) (hlo : lo < 18446744073709551616) (hhi : hi < 18446744073709551616) (hpl : pl.length ≤ 10000)
    (bs : List (BitVec 8)) (hbs : bs = short pl.length ++ (pl.flatMap plcB ++ (short n ++ (short lo ++ (short hi ++ (pieceB least ++ pieceB most)))))) (hI : bs.length ≤ 10000000) :
    Calls Tryz.prog 73 #[.pointer (some ⟨bx, 0, none⟩)] w fun e w' => ∃ v, e = .returned v ∧ PartOk w.heap.size w' v bs ∧ Turns (fun _ => False) w w' := by
  have HC := hide (cell119_new w)
  have T0 := hide ((Turns.refl (fun _ => False) w).alloc (.cells #[.slice none 0 0, .int .i64 0] 119))
  have HXF := hide (fun (u : World) (t : Turns (fun _ => False) w u) => t.heap hx (fun x => x))
  have HPF := hide (fun (u : World) (t : Turns (fun _ => False) w u) => hp.keep t (fun _ _ x => x))
  have HKF := hide (fun (u : World) (t : Turns (fun _ => False) w u) (q : Plc) (hq : q ∈ pl) => (hk q hq).1.quiet t)
  have HKB := hide (fun (q : Plc) (hq : q ∈ pl) => (hk q hq).2)
  have HLA := hide (fun (u : World) (t : Turns (fun _ => False) w u) => hla.quiet t)
  have HMA := hide (fun (u : World) (t : Turns (fun _ => False) w u) => hma.quiet t)
  have HBS := hide hbs
  have HI := hide hI
  have c0 := cell_of_row w bx 0 _ 55 (0, 0) hx
  simp only [idxCells, List.getElem?_toArray, List.getElem?_cons_zero] at c0
  have c1 := T0.out.cell c0 (fun x => x)
  clear hx hp hk hla hma hbs hI c0
  have hpn : (pl.length : Int) < 18446744073709551616 := by omega
  go_enter Tryz.func73, Tryz.ntmps73
  go_upto_region 1 with (fail)
  have HW0S := hide (show (w.alloc (.cells #[.slice none 0 0, .int .i64 0] 119)).heap.size = w.heap.size + 1 by simp)
  obtain ⟨N, hN⟩ : ∃ N, w.heap.size = N := ⟨_, rfl⟩
  rw [hN] at HC HW0S ⊢
  have HN := hide hN
  clear hN
  generalize w.alloc (.cells #[.slice none 0 0, .int .i64 0] 119) = w0 at *
  generalize hL : pl.length = L at *
  have HL := hide hL
  clear hL
  go_wp2_with fail
  refine (number_part L (by omega) _).mono ?_
  rintro e w1 ⟨v1, rfl, hp1, b1⟩
  obtain ⟨fa, fc, rfl, hf1⟩ := hp1.pt
  have HS0 := hide (show w0.heap.size = N + 1 from HW0S.out)
  have T1 := hide (T0.out.trans (Turns.of_below b1 (fun _ => False)))
  have F1 := hide (hf1.le (show N + 1 ≤ _ by have := HS0.out; omega))
  have HCC := hide ((Turns.of_below b1 (fun _ => False)).heap HC.out.cell (fun x => x))
  have HZ1 := hide (show N + 1 ≤ w1.heap.size by have := HS0.out; have := b1.size; omega)
  clear hp1 b1 hf1 c1 HC T0 HS0 HW0S
  go_upto_region 2 with (fail)
  generalize hZ : (short L).length = Z at *
  have HZ := hide hZ
  clear hZ
  obtain ⟨w2, hw2⟩ : ∃ u, u = w1.alloc (.cells #[.slice fa Z fc, .int .i64 0] 119) := ⟨_, rfl⟩
  have T2 := hide (show Turns (fun _ => False) w w2 by rw [hw2]; exact T1.out.alloc _)
  have A2 := hide (show Acc w2 (N + 1) (.slice (some ⟨w1.heap.size, 0, none⟩) 1 1) (short L ++ (pl.take 0).flatMap plcB) (1 + 4 * 0) from by
    rw [hw2, List.take_zero, List.flatMap_nil, List.append_nil]
    refine Acc.first ⟨fa, fc, short L⟩ ?_ (short_pos L) w1.heap.size 1 HZ1.out (Nat.le_refl _) ?_ rfl
    · exact (by have h1 := F1.out; have h2 : (Pt.v ⟨fa, fc, short L⟩) = .slice fa Z fc := by simp only [Pt.v, HZ.out]
                rw [h2] at h1 ⊢; exact h1.turns ((Turns.refl (fun _ => False) w1).alloc _) (fun _ _ x => x))
    · rw [heap_alloc_new]
      simp [ptCells, Pt.cells, Pt.v, HZ.out])
  have C2 := hide (show w2.heap[N]? = some (.cells #[.slice none 0 0, .int .i64 0] 119 (0, 0)) by rw [hw2]; exact ((Turns.refl (fun _ => False) w1).alloc _).heap HCC.out (fun x => x))
  have Z2 := hide (show N + 1 ≤ w2.heap.size by rw [hw2]; have := HZ1.out; simp; omega)
  rw [← hw2]
  have c0 := cell_of_row w2 bx 0 _ 55 (0, 0) (HXF.out w2 T2.out)
  simp only [idxCells, List.getElem?_toArray, List.getElem?_cons_zero] at c0
  generalize w1.heap.size = g1 at *
  clear F1 HCC HZ1 HZ hw2 T1
  go_wp2_with fail
  go_loopw [3, 19] (fun v3 iv wr => ∃ k : Nat, iv = .int .i64 (k : Nat) ∧ k ≤ L ∧ Acc wr (N + 1) v3 (short L ++ (pl.take k).flatMap plcB) (1 + 4 * k) ∧ wr.heap[N]? = some (.cells #[.slice none 0 0, .int .i64 0] 119 (0, 0)) ∧ N + 1 ≤ wr.heap.size ∧ Turns (fun _ => False) w wr) (fun _ iv _ => L - (intOf iv).toNat)
  case atStart => exact ⟨0, rfl, Nat.zero_le _, A2.out, C2.out, Z2.out, T2.out⟩
  case round =>
    obtain ⟨k, rfl, hk, hac, hcc, hsz, htw⟩ := hrel
    have AC := hide hac
    have CC := hide hcc
    have HNS := hide hsz
    have TW := hide htw
    obtain ⟨va, vc, rfl⟩ := hac.len
    clear hac hcc hsz htw c0 A2 C2 Z2 T2
    by_cases hk2 : k < L
    · have i1 : (k : Int) < (L : Int) := by omega
      have i0 : (0 : Int) ≤ (k : Int) := by omega
      obtain ⟨x, hx⟩ : ∃ x, pl[k]? = some x := ⟨_, List.getElem?_eq_getElem (by rw [HL.out]; exact hk2)⟩
      obtain ⟨g, pc', hv, hcell⟩ := (HPF.out wr TW.out).at_ hx
      obtain ⟨rfl, rfl⟩ : pa = some ⟨g, 0, none⟩ ∧ pc = pc' := by cases hv; exact ⟨rfl, rfl⟩
      have hxm := List.mem_of_getElem? hx
      have KY := hide (HKF.out wr TW.out x hxm)
      have KBD0 := hide (HKB.out x hxm)
      have HTK := hide (show (pl.take (k + 1)).flatMap plcB = (pl.take k).flatMap plcB ++ plcB x by rw [List.take_add_one, hx, List.flatMap_append]; simp)
      obtain ⟨pos, size, ⟨ka, kc, ya, yc, e⟩⟩ := x
      have KBD := hide (show e.key.length ≤ 900000 ∧ e.seq < 18446744073709551616 from ⟨KBD0.out.1, KBD0.out.2.1⟩)
      obtain ⟨hpb, hsb⟩ : pos < 9223372036854775808 ∧ size < 9223372036854775808 := KBD0.out.2.2
      have d0 : wr.cell? ⟨g, k * 6, none⟩ = some (.int .i64 (pos : Nat)) := hcell 0 _ rfl
      have d1 : wr.cell? ⟨g, k * 6 + 1, none⟩ = some (.int .i64 (size : Nat)) := hcell 1 _ rfl
      have d2 : wr.cell? ⟨g, k * 6 + 2, none⟩ = some (.slice ka e.key.length kc) := hcell 2 _ rfl
      have d3 : wr.cell? ⟨g, k * 6 + 3, none⟩ = some (.int .u64 (e.seq : Nat)) := hcell 3 _ rfl
      have d4 : wr.cell? ⟨g, k * 6 + 4, none⟩ = some (.int .i64 e.kind) := hcell 4 _ rfl
      have d5 : wr.cell? ⟨g, k * 6 + 5, none⟩ = some (.slice ya e.val.length yc) := hcell 5 _ rfl
      have hkk : k < 10000 := by omega
      clear hx hcell hv hxm KBD0
      go_upto_region 5 with (fail)
      obtain ⟨w2, hw2⟩ : ∃ u, u = wr.alloc (.cells #[.int .i64 (pos : Nat), .int .i64 (size : Nat), .slice ka e.key.length kc, .int .u64 (e.seq : Nat), .int .i64 e.kind, .slice ya e.val.length yc] 147) := ⟨_, rfl⟩
      have ta : Turns (fun _ => False) wr w2 := by rw [hw2]; exact (Turns.refl _ _).alloc _
      have hq2 : w2.heap[wr.heap.size]? = some (.cells #[.int .i64 (pos : Nat), .int .i64 (size : Nat), .slice ka e.key.length kc, .int .u64 (e.seq : Nat), .int .i64 e.kind, .slice ya e.val.length yc] 147 (0, 0)) := by rw [hw2]; exact heap_alloc_new _ _
      have HQ2 := hide hq2
      have AR := hide (fun j (hj : inRow (.slice va (1 + 4 * k) vc) j) => AC.out.row hj)
      rw [← hw2]
      clear d0 d1 d2 d3 d4 d5 hw2 hq2
      generalize wr.heap.size = q at *
      have AC := hide (AC.out.quiet ta)
      have CC := hide (ta.heap CC.out (fun x => x))
      have TW := hide (TW.out.trans ta)
      have HKY := hide (Bytes.quiet (show Bytes wr (.slice ka e.key.length kc) e.key from KY.out) ta)
      have HNS := hide (show N + 1 ≤ w2.heap.size from Nat.le_trans HNS.out (Nat.le_of_lt (lt_of_heap HQ2.out)))
      have SK := hide (fun (u : World) (t : Turns (inRow (.slice va (1 + 4 * k) vc)) w2 u) => show u.cell? ⟨q, 0, none⟩ = some (.int .i64 (pos : Nat)) ∧ u.cell? ⟨q, 1, none⟩ = some (.int .i64 (size : Nat)) ∧ u.cell? ⟨q, 2, none⟩ = some (.slice ka e.key.length kc) ∧ u.cell? ⟨q, 3, none⟩ = some (.int .u64 (e.seq : Nat)) from by
        have h5 := t.heap HQ2.out (fun hj => absurd (AR.out _ hj).2 (Nat.lt_irrefl _))
        exact ⟨cell_of_row u q 0 _ 147 (0, 0) h5, cell_of_row u q 1 _ 147 (0, 0) h5, cell_of_row u q 2 _ 147 (0, 0) h5, cell_of_row u q 3 _ 147 (0, 0) h5⟩)
      have tV : Turns (inRow (.slice va (1 + 4 * k) vc)) w2 w2.drew := (Turns.refl _ _).drew
      clear ta KY
      refine wp_region_held_drew (S := fun u => u.cell? ⟨q, 0, none⟩ = some (.int .i64 (pos : Nat)) ∧ u.cell? ⟨q, 1, none⟩ = some (.int .i64 (size : Nat)) ∧ u.cell? ⟨q, 2, none⟩ = some (.slice ka e.key.length kc) ∧ u.cell? ⟨q, 3, none⟩ = some (.int .u64 (e.seq : Nat))) (by kernel_rfl) (SK.out _ tV) (fun _ => ?_)
      change wpAnyH _ _ _ _ _ 20 (Array.replicate 20 false) _ _
      refine wpAnyH_take (i := 0) (oi := { dst := some 23, op := Op.move (Operand.tmp 3), type := 159, pos := "index.go:61", after := #[], guard := none }) (v := .slice va (1 + 4 * k) vc) rfl (by kernel_rfl) (by kernel_rfl) (by kernel_rfl) (fun _ _ _ h => h) (Or.inl ⟨by rfl, ?_⟩) (SK.out _ tV) ?_
      · rintro w ⟨s0, s1, s2, s3⟩
        go_simp
      simp only [Act.put, List.setIfInBounds_toArray, List.set_cons_zero, List.set_cons_succ]
      refine wpAnyH_take (i := 1) (oi := { dst := some 24, op := Op.fieldAddr 147 (Operand.tmp 5) 0, type := 0, pos := "index.go:61", after := #[], guard := none }) (v := .pointer (some ⟨q, 0, none⟩)) rfl (by kernel_rfl) (by kernel_rfl) (by kernel_rfl) (fun _ _ _ h => h) (Or.inl ⟨by rfl, ?_⟩) (SK.out _ tV) ?_
      · rintro w ⟨s0, s1, s2, s3⟩
        go_simp
      simp only [Act.put, List.setIfInBounds_toArray, List.set_cons_zero, List.set_cons_succ]
      refine wpAnyH_take (i := 2) (oi := { dst := some 25, op := Op.load 3 (Operand.tmp 24), type := 3, pos := "index.go:61", after := #[{ on := 1, ground := Ground.data }], guard := none }) (v := .int .i64 (pos : Nat)) rfl (by kernel_rfl) (by kernel_rfl) (by kernel_rfl) (fun _ _ _ h => h) (Or.inl ⟨by rfl, ?_⟩) (SK.out _ tV) ?_
      · rintro w ⟨s0, s1, s2, s3⟩
        go_simp
      simp only [Act.put, List.setIfInBounds_toArray, List.set_cons_zero, List.set_cons_succ]
      refine wpAnyH_take (i := 3) (oi := { dst := some 26, op := Op.convert 3 33 (Operand.tmp 25), type := 33, pos := "index.go:61", after := #[{ on := 2, ground := Ground.data }], guard := none }) (v := .int .u64 (pos : Nat)) rfl (by kernel_rfl) (by kernel_rfl) (by kernel_rfl) (fun _ _ _ h => h) (Or.inl ⟨by rfl, ?_⟩) (SK.out _ tV) ?_
      · rintro w ⟨s0, s1, s2, s3⟩
        go_simp; (try simp [IntKind.wrap, IntKind.bits, IntKind.signed]); (try omega)
      simp only [Act.put, List.setIfInBounds_toArray, List.set_cons_zero, List.set_cons_succ]
      refine wpAnyH_take (i := 5) (oi := { dst := some 28, op := Op.fieldAddr 147 (Operand.tmp 5) 1, type := 0, pos := "index.go:61", after := #[], guard := none }) (v := .pointer (some ⟨q, 1, none⟩)) rfl (by kernel_rfl) (by kernel_rfl) (by kernel_rfl) (fun _ _ _ h => h) (Or.inl ⟨by rfl, ?_⟩) (SK.out _ tV) ?_
      · rintro w ⟨s0, s1, s2, s3⟩
        go_simp
      simp only [Act.put, List.setIfInBounds_toArray, List.set_cons_zero, List.set_cons_succ]
      refine wpAnyH_take (i := 6) (oi := { dst := some 29, op := Op.load 3 (Operand.tmp 28), type := 3, pos := "index.go:61", after := #[{ on := 5, ground := Ground.data }], guard := none }) (v := .int .i64 (size : Nat)) rfl (by kernel_rfl) (by kernel_rfl) (by kernel_rfl) (fun _ _ _ h => h) (Or.inl ⟨by rfl, ?_⟩) (SK.out _ tV) ?_
      · rintro w ⟨s0, s1, s2, s3⟩
        go_simp
      simp only [Act.put, List.setIfInBounds_toArray, List.set_cons_zero, List.set_cons_succ]
      refine wpAnyH_take (i := 7) (oi := { dst := some 30, op := Op.convert 3 33 (Operand.tmp 29), type := 33, pos := "index.go:61", after := #[{ on := 6, ground := Ground.data }], guard := none }) (v := .int .u64 (size : Nat)) rfl (by kernel_rfl) (by kernel_rfl) (by kernel_rfl) (fun _ _ _ h => h) (Or.inl ⟨by rfl, ?_⟩) (SK.out _ tV) ?_
      · rintro w ⟨s0, s1, s2, s3⟩
        go_simp; (try simp [IntKind.wrap, IntKind.bits, IntKind.signed]); (try omega)
      simp only [Act.put, List.setIfInBounds_toArray, List.set_cons_zero, List.set_cons_succ]
      refine wpAnyH_take (i := 9) (oi := { dst := some 32, op := Op.fieldAddr 147 (Operand.tmp 5) 2, type := 0, pos := "index.go:61", after := #[], guard := none }) (v := .pointer (some ⟨q, 2, none⟩)) rfl (by kernel_rfl) (by kernel_rfl) (by kernel_rfl) (fun _ _ _ h => h) (Or.inl ⟨by rfl, ?_⟩) (SK.out _ tV) ?_
      · rintro w ⟨s0, s1, s2, s3⟩
        go_simp
      simp only [Act.put, List.setIfInBounds_toArray, List.set_cons_zero, List.set_cons_succ]
      refine wpAnyH_take (i := 10) (oi := { dst := some 33, op := Op.fieldAddr 35 (Operand.tmp 32) 0, type := 0, pos := "index.go:61", after := #[{ on := 9, ground := Ground.data }], guard := none }) (v := .pointer (some ⟨q, 2, none⟩)) rfl (by kernel_rfl) (by kernel_rfl) (by kernel_rfl) (fun _ _ _ h => h) (Or.inl ⟨by rfl, ?_⟩) (SK.out _ tV) ?_
      · rintro w ⟨s0, s1, s2, s3⟩
        go_simp
      simp only [Act.put, List.setIfInBounds_toArray, List.set_cons_zero, List.set_cons_succ]
      refine wpAnyH_take (i := 11) (oi := { dst := some 34, op := Op.load 28 (Operand.tmp 33), type := 28, pos := "index.go:61", after := #[{ on := 10, ground := Ground.data }], guard := none }) (v := .slice ka e.key.length kc) rfl (by kernel_rfl) (by kernel_rfl) (by kernel_rfl) (fun _ _ _ h => h) (Or.inl ⟨by rfl, ?_⟩) (SK.out _ tV) ?_
      · rintro w ⟨s0, s1, s2, s3⟩
        go_simp
      simp only [Act.put, List.setIfInBounds_toArray, List.set_cons_zero, List.set_cons_succ]
      refine wpAnyH_take (i := 13) (oi := { dst := some 36, op := Op.fieldAddr 147 (Operand.tmp 5) 2, type := 0, pos := "index.go:61", after := #[], guard := none }) (v := .pointer (some ⟨q, 2, none⟩)) rfl (by kernel_rfl) (by kernel_rfl) (by kernel_rfl) (fun _ _ _ h => h) (Or.inl ⟨by rfl, ?_⟩) (SK.out _ tV) ?_
      · rintro w ⟨s0, s1, s2, s3⟩
        go_simp
      simp only [Act.put, List.setIfInBounds_toArray, List.set_cons_zero, List.set_cons_succ]
      refine wpAnyH_take (i := 14) (oi := { dst := some 37, op := Op.fieldAddr 35 (Operand.tmp 36) 1, type := 0, pos := "index.go:61", after := #[{ on := 13, ground := Ground.data }], guard := none }) (v := .pointer (some ⟨q, 3, none⟩)) rfl (by kernel_rfl) (by kernel_rfl) (by kernel_rfl) (fun _ _ _ h => h) (Or.inl ⟨by rfl, ?_⟩) (SK.out _ tV) ?_
      · rintro w ⟨s0, s1, s2, s3⟩
        go_simp
      simp only [Act.put, List.setIfInBounds_toArray, List.set_cons_zero, List.set_cons_succ]
      refine wpAnyH_take (i := 15) (oi := { dst := some 38, op := Op.load 33 (Operand.tmp 37), type := 33, pos := "index.go:61", after := #[{ on := 14, ground := Ground.data }], guard := none }) (v := .int .u64 (e.seq : Nat)) rfl (by kernel_rfl) (by kernel_rfl) (by kernel_rfl) (fun _ _ _ h => h) (Or.inl ⟨by rfl, ?_⟩) (SK.out _ tV) ?_
      · rintro w ⟨s0, s1, s2, s3⟩
        go_simp
      simp only [Act.put, List.setIfInBounds_toArray, List.set_cons_zero, List.set_cons_succ]
      have tq : Turns (fun _ => False) w2 w2.drew := (Turns.refl _ _).drew
      refine wpAnyH_ready (rs := [4]) (by kernel_rfl) (by simp) ?_
      refine AllReadyH.cons rfl (fun K hK => ?_) AllReadyH.nil
      go_simp
      refine (number_part pos (by omega) _).mono ?_
      rintro oo V1 ⟨pv, rfl, hp1, b1⟩
      obtain ⟨a1, c1, rfl, hf1⟩ := hp1.pt
      have t1 := Turns.of_below b1 (fun _ => False)
      have F1 := hide (hf1.le (show N + 1 ≤ _ from Nat.le_trans HNS.out tq.size))
      have tq := tq.trans t1
      clear hf1 hp1 b1 t1
      go_simp
      refine hK.out _ _ (SK.out _ (tq.mono fun _ _ x => x.elim)) (fun _ => ?_)
      clear hK K
      refine wpAnyH_ready (rs := [8]) (by kernel_rfl) (by simp) ?_
      refine AllReadyH.cons rfl (fun K hK => ?_) AllReadyH.nil
      go_simp
      refine (number_part size (by omega) _).mono ?_
      rintro oo V2 ⟨pv, rfl, hp2, b2⟩
      obtain ⟨a2, c2, rfl, hf2⟩ := hp2.pt
      have t2 := Turns.of_below b2 (fun _ => False)
      have F2 := hide (hf2.le (show N + 1 ≤ _ from Nat.le_trans HNS.out tq.size))
      have F1 := hide (F1.out.turns t2 (fun _ _ x => x))
      have tq := tq.trans t2
      clear hf2 hp2 b2 t2
      go_simp
      refine hK.out _ _ (SK.out _ (tq.mono fun _ _ x => x.elim)) (fun _ => ?_)
      clear hK K
      refine wpAnyH_ready (rs := [12]) (by kernel_rfl) (by simp) ?_
      refine AllReadyH.cons rfl (fun K hK => ?_) AllReadyH.nil
      go_simp
      refine (piece_part ka e.key.length kc e.key _ (HKY.out.quiet tq) KBD.out.1).mono ?_
      rintro oo V3 ⟨pv, rfl, hp3, b3⟩
      obtain ⟨a3, c3, rfl, hf3⟩ := hp3.pt
      have t3 := Turns.of_below b3 (fun _ => False)
      have F3 := hide (hf3.le (show N + 1 ≤ _ from Nat.le_trans HNS.out tq.size))
      have F1 := hide (F1.out.turns t3 (fun _ _ x => x))
      have F2 := hide (F2.out.turns t3 (fun _ _ x => x))
      have tq := tq.trans t3
      clear hf3 hp3 b3 t3
      go_simp
      refine hK.out _ _ (SK.out _ (tq.mono fun _ _ x => x.elim)) (fun _ => ?_)
      clear hK K
      refine wpAnyH_ready (rs := [16]) (by kernel_rfl) (by simp) ?_
      refine AllReadyH.cons rfl (fun K hK => ?_) AllReadyH.nil
      go_simp
      refine (number_part e.seq KBD.out.2 _).mono ?_
      rintro oo V4 ⟨pv, rfl, hp4, b4⟩
      obtain ⟨a4, c4, rfl, hf4⟩ := hp4.pt
      have t4 := Turns.of_below b4 (fun _ => False)
      have F4 := hide (hf4.le (show N + 1 ≤ _ from Nat.le_trans HNS.out tq.size))
      have F1 := hide (F1.out.turns t4 (fun _ _ x => x))
      have F2 := hide (F2.out.turns t4 (fun _ _ x => x))
      have F3 := hide (F3.out.turns t4 (fun _ _ x => x))
      have tq := tq.trans t4
      clear hf4 hp4 b4 t4
      go_simp
      refine hK.out _ _ (SK.out _ (tq.mono fun _ _ x => x.elim)) (fun _ => ?_)
      clear hK K
      refine wpAnyH_ready (rs := [17]) (by kernel_rfl) (by simp) ?_
      refine AllReadyH.cons rfl (fun K hK => ?_) AllReadyH.nil
      go_simp
      obtain ⟨W9, hW9⟩ : ∃ u, u = V4.alloc (.cells #[.slice a1 (short pos).length c1, .int .i64 0, .slice a2 (short size).length c2, .int .i64 0, .slice a3 (pieceB e.key).length c3, .int .i64 0, .slice a4 (short e.seq).length c4, .int .i64 0] 119) := ⟨_, rfl⟩
      have h9 : W9.heap[V4.heap.size]? = some (.cells #[.slice a1 (short pos).length c1, .int .i64 0, .slice a2 (short size).length c2, .int .i64 0, .slice a3 (pieceB e.key).length c3, .int .i64 0, .slice a4 (short e.seq).length c4, .int .i64 0] 119 (0, 0)) := by rw [hW9]; exact heap_alloc_new _ _
      have t9 : Turns (fun _ => False) V4 W9 := by rw [hW9]; exact (Turns.refl _ _).alloc _
      have F1 := hide (F1.out.turns t9 (fun _ _ x => x))
      have F2 := hide (F2.out.turns t9 (fun _ _ x => x))
      have F3 := hide (F3.out.turns t9 (fun _ _ x => x))
      have F4 := hide (F4.out.turns t9 (fun _ _ x => x))
      have tq := tq.trans t9
      rw [← hW9]
      refine hK.out _ _ (SK.out _ (tq.mono fun _ _ x => x.elim)) (fun _ => ?_)
      clear hK K hW9
      obtain ⟨na, nc, W10, hr10, hac10, t10, ti10⟩ := (AC.out.quiet tq).add (Nat.le_trans HNS.out tq.size) (by omega) [⟨a1, c1, short pos⟩, ⟨a2, c2, short size⟩, ⟨a3, c3, pieceB e.key⟩, ⟨a4, c4, short e.seq⟩] (by simp) (by simp) (by
        intro x hx
        simp only [List.mem_cons, List.not_mem_nil, or_false] at hx
        rcases hx with rfl | rfl | rfl | rfl
        · exact ⟨F1.out, short_pos _⟩
        · exact ⟨F2.out, short_pos _⟩
        · exact ⟨F3.out, pieceB_pos _⟩
        · exact ⟨F4.out, short_pos _⟩
        ) 4 4 rfl V4.heap.size h9
      have tF := (tq.mono (S' := fun j => inRow (.slice va (1 + 4 * k) vc) j) (fun _ _ x => x.elim)).trans ti10
      have HQ := hide hr10
      have AC9 := hide hac10
      clear hr10 hac10 t10 h9 t9
      refine wpAnyH_ready (rs := [18]) (by kernel_rfl) (by simp) ?_
      refine AllReadyH.cons rfl (fun K hK => ?_) AllReadyH.nil
      refine step_append_run rfl _ _ 159 rfl (.slice va (1 + 4 * k) vc) (.slice (some ⟨V4.heap.size, 0, none⟩) 4 4) rfl rfl _ _ (HQ.out _) 41 rfl ?_
      refine hK.out _ _ (SK.out _ tF) (fun _ => ?_)
      clear hK K
      simp only [Act.put, List.setIfInBounds_toArray, List.set_cons_zero, List.set_cons_succ]
      refine wpAnyH_take (i := 19) (oi := { dst := some 3, op := Op.assign (Operand.tmp 41), type := 159, pos := "index.go:61", after := #[{ on := 18, ground := Ground.data }, { on := 18, ground := Ground.chain }, { on := 0, ground := Ground.phase }, { on := 1, ground := Ground.phase }, { on := 2, ground := Ground.phase }, { on := 3, ground := Ground.phase }, { on := 4, ground := Ground.phase }, { on := 5, ground := Ground.phase }, { on := 6, ground := Ground.phase }, { on := 7, ground := Ground.phase }, { on := 8, ground := Ground.phase }, { on := 9, ground := Ground.phase }, { on := 10, ground := Ground.phase }, { on := 11, ground := Ground.phase }, { on := 12, ground := Ground.phase }, { on := 13, ground := Ground.phase }, { on := 14, ground := Ground.phase }, { on := 15, ground := Ground.phase }, { on := 16, ground := Ground.phase }, { on := 17, ground := Ground.phase }, { on := 18, ground := Ground.phase }], guard := none }) (v := .slice na (1 + 4 * k + 4) nc) rfl (by kernel_rfl) (by kernel_rfl) (by kernel_rfl) (fun _ _ _ h => h) (Or.inl ⟨by rfl, ?_⟩) (SK.out _ tF) ?_
      · rintro w ⟨s0, s1, s2, s3⟩
        go_simp
      simp only [Act.put, List.setIfInBounds_toArray, List.set_cons_zero, List.set_cons_succ]
      have TF := hide tF
      clear tF tq ti10 tV HQ
      refine wpAnyH_done (by kernel_rfl) ?_ _
      have AC9 := hide (show Acc W10 (N + 1) (.slice na (1 + 4 * k + 4) nc) (short L ++ (pl.take (k + 1)).flatMap plcB) (1 + 4 * (k + 1)) from by
        have h1 := AC9.out
        rw [HTK.out, ← List.append_assoc, show 1 + 4 * (k + 1) = 1 + 4 * k + 4 by omega]
        exact (by simpa [allB, plcB] using h1))
      have CC9 := hide (TF.out.heap CC.out (fun hj => by have := (AR.out _ hj).1; omega))
      have NS9 := hide (Nat.le_trans HNS.out TF.out.size)
      have TW9 := hide (turns_fromQ TW.out TF.out fun j hj => by have := (AR.out _ hj).1; have := HN.out; omega)
      clear F1 F2 F3 F4 SK AR
      go_wp2_with fail
      go_roundw
      case rel => exact ⟨k + 1, by go_num, by omega, AC9.out, CC9.out, NS9.out, TW9.out⟩
      case measure => simp [intOf]; omega
    · obtain rfl : k = L := by omega
      have i1 : ¬ (k : Int) < (k : Int) := by omega
      rw [List.take_of_length_le (Nat.le_of_eq HL.out)] at AC
      generalize k = L at *
      go_upto_region 7 with (fail)
      have AR := hide (fun j (hj : inRow (.slice va (1 + 4 * L) vc) j) => AC.out.row hj)
      have SK := hide (fun (u : World) (t : Turns (inRow (.slice va (1 + 4 * L) vc)) wr u) => show u.cell? ⟨bx, 1, none⟩ = some (.int .i64 (n : Nat)) ∧ u.cell? ⟨bx, 6, none⟩ = some (.int .u64 (lo : Nat)) ∧ u.cell? ⟨bx, 7, none⟩ = some (.int .u64 (hi : Nat)) ∧ u.cell? ⟨bx, 4, none⟩ = some (.slice la least.length lc) ∧ u.cell? ⟨bx, 5, none⟩ = some (.slice ma most.length mc) from by
        have h6 := HXF.out wr TW.out
        have h5 := t.heap h6 (fun hj => by have h7 := (AR.out _ hj).1; have h8 := lt_of_heap (HXF.out w (Turns.refl _ _)); have h9 := HN.out; omega)
        exact ⟨cell_of_row u bx 1 _ 55 (0, 0) h5, cell_of_row u bx 6 _ 55 (0, 0) h5, cell_of_row u bx 7 _ 55 (0, 0) h5, cell_of_row u bx 4 _ 55 (0, 0) h5, cell_of_row u bx 5 _ 55 (0, 0) h5⟩)
      have tV : Turns (inRow (.slice va (1 + 4 * L) vc)) wr wr.drew := (Turns.refl _ _).drew
      refine wp_region_held_drew (S := fun u => u.cell? ⟨bx, 1, none⟩ = some (.int .i64 (n : Nat)) ∧ u.cell? ⟨bx, 6, none⟩ = some (.int .u64 (lo : Nat)) ∧ u.cell? ⟨bx, 7, none⟩ = some (.int .u64 (hi : Nat)) ∧ u.cell? ⟨bx, 4, none⟩ = some (.slice la least.length lc) ∧ u.cell? ⟨bx, 5, none⟩ = some (.slice ma most.length mc)) (by kernel_rfl) (SK.out _ tV) (fun _ => ?_)
      change wpAnyH _ _ _ _ _ 35 (Array.replicate 35 false) _ _
      refine wpAnyH_take (i := 0) (oi := { dst := some 43, op := Op.move (Operand.tmp 3), type := 159, pos := "index.go:63", after := #[], guard := none }) (v := .slice va (1 + 4 * L) vc) rfl (by kernel_rfl) (by kernel_rfl) (by kernel_rfl) (fun _ _ _ h => h) (Or.inl ⟨by rfl, ?_⟩) (SK.out _ tV) ?_
      · rintro w ⟨s0, s1, s2, s3, s4⟩
        go_simp
      simp only [Act.put, List.setIfInBounds_toArray, List.set_cons_zero, List.set_cons_succ]
      refine wpAnyH_take (i := 1) (oi := { dst := some 44, op := Op.move (Operand.tmp 0), type := 116, pos := "index.go:63", after := #[], guard := none }) (v := .pointer (some ⟨bx, 0, none⟩)) rfl (by kernel_rfl) (by kernel_rfl) (by kernel_rfl) (fun _ _ _ h => h) (Or.inl ⟨by rfl, ?_⟩) (SK.out _ tV) ?_
      · rintro w ⟨s0, s1, s2, s3, s4⟩
        go_simp
      simp only [Act.put, List.setIfInBounds_toArray, List.set_cons_zero, List.set_cons_succ]
      refine wpAnyH_take (i := 2) (oi := { dst := some 45, op := Op.nilCheck (Operand.tmp 44), type := 0, pos := "index.go:63", after := #[{ on := 1, ground := Ground.data }], guard := none }) (v := .pointer (some ⟨bx, 0, none⟩)) rfl (by kernel_rfl) (by kernel_rfl) (by kernel_rfl) (fun _ _ _ h => h) (Or.inl ⟨by rfl, ?_⟩) (SK.out _ tV) ?_
      · rintro w ⟨s0, s1, s2, s3, s4⟩
        go_simp
      simp only [Act.put, List.setIfInBounds_toArray, List.set_cons_zero, List.set_cons_succ]
      refine wpAnyH_take (i := 3) (oi := { dst := some 46, op := Op.fieldAddr 55 (Operand.tmp 45) 1, type := 0, pos := "index.go:63", after := #[{ on := 2, ground := Ground.data }], guard := none }) (v := .pointer (some ⟨bx, 1, none⟩)) rfl (by kernel_rfl) (by kernel_rfl) (by kernel_rfl) (fun _ _ _ h => h) (Or.inl ⟨by rfl, ?_⟩) (SK.out _ tV) ?_
      · rintro w ⟨s0, s1, s2, s3, s4⟩
        go_simp
      simp only [Act.put, List.setIfInBounds_toArray, List.set_cons_zero, List.set_cons_succ]
      refine wpAnyH_take (i := 4) (oi := { dst := some 47, op := Op.fieldAddr 42 (Operand.tmp 46) 0, type := 0, pos := "index.go:63", after := #[{ on := 3, ground := Ground.data }], guard := none }) (v := .pointer (some ⟨bx, 1, none⟩)) rfl (by kernel_rfl) (by kernel_rfl) (by kernel_rfl) (fun _ _ _ h => h) (Or.inl ⟨by rfl, ?_⟩) (SK.out _ tV) ?_
      · rintro w ⟨s0, s1, s2, s3, s4⟩
        go_simp
      simp only [Act.put, List.setIfInBounds_toArray, List.set_cons_zero, List.set_cons_succ]
      refine wpAnyH_take (i := 5) (oi := { dst := some 48, op := Op.load 3 (Operand.tmp 47), type := 3, pos := "index.go:63", after := #[{ on := 4, ground := Ground.data }], guard := none }) (v := .int .i64 (n : Nat)) rfl (by kernel_rfl) (by kernel_rfl) (by kernel_rfl) (fun _ _ _ h => h) (Or.inl ⟨by rfl, ?_⟩) (SK.out _ tV) ?_
      · rintro w ⟨s0, s1, s2, s3, s4⟩
        go_simp
      simp only [Act.put, List.setIfInBounds_toArray, List.set_cons_zero, List.set_cons_succ]
      refine wpAnyH_take (i := 6) (oi := { dst := some 49, op := Op.convert 3 33 (Operand.tmp 48), type := 33, pos := "index.go:63", after := #[{ on := 5, ground := Ground.data }], guard := none }) (v := .int .u64 (n : Nat)) rfl (by kernel_rfl) (by kernel_rfl) (by kernel_rfl) (fun _ _ _ h => h) (Or.inl ⟨by rfl, ?_⟩) (SK.out _ tV) ?_
      · rintro w ⟨s0, s1, s2, s3, s4⟩
        go_simp; (try simp [IntKind.wrap, IntKind.bits, IntKind.signed]); (try omega)
      simp only [Act.put, List.setIfInBounds_toArray, List.set_cons_zero, List.set_cons_succ]
      refine wpAnyH_take (i := 8) (oi := { dst := some 51, op := Op.move (Operand.tmp 0), type := 116, pos := "index.go:63", after := #[], guard := none }) (v := .pointer (some ⟨bx, 0, none⟩)) rfl (by kernel_rfl) (by kernel_rfl) (by kernel_rfl) (fun _ _ _ h => h) (Or.inl ⟨by rfl, ?_⟩) (SK.out _ tV) ?_
      · rintro w ⟨s0, s1, s2, s3, s4⟩
        go_simp
      simp only [Act.put, List.setIfInBounds_toArray, List.set_cons_zero, List.set_cons_succ]
      refine wpAnyH_take (i := 9) (oi := { dst := some 52, op := Op.nilCheck (Operand.tmp 51), type := 0, pos := "index.go:63", after := #[{ on := 8, ground := Ground.data }], guard := none }) (v := .pointer (some ⟨bx, 0, none⟩)) rfl (by kernel_rfl) (by kernel_rfl) (by kernel_rfl) (fun _ _ _ h => h) (Or.inl ⟨by rfl, ?_⟩) (SK.out _ tV) ?_
      · rintro w ⟨s0, s1, s2, s3, s4⟩
        go_simp
      simp only [Act.put, List.setIfInBounds_toArray, List.set_cons_zero, List.set_cons_succ]
      refine wpAnyH_take (i := 10) (oi := { dst := some 53, op := Op.fieldAddr 55 (Operand.tmp 52) 1, type := 0, pos := "index.go:63", after := #[{ on := 9, ground := Ground.data }], guard := none }) (v := .pointer (some ⟨bx, 1, none⟩)) rfl (by kernel_rfl) (by kernel_rfl) (by kernel_rfl) (fun _ _ _ h => h) (Or.inl ⟨by rfl, ?_⟩) (SK.out _ tV) ?_
      · rintro w ⟨s0, s1, s2, s3, s4⟩
        go_simp
      simp only [Act.put, List.setIfInBounds_toArray, List.set_cons_zero, List.set_cons_succ]
      refine wpAnyH_take (i := 11) (oi := { dst := some 54, op := Op.fieldAddr 42 (Operand.tmp 53) 5, type := 0, pos := "index.go:63", after := #[{ on := 10, ground := Ground.data }], guard := none }) (v := .pointer (some ⟨bx, 6, none⟩)) rfl (by kernel_rfl) (by kernel_rfl) (by kernel_rfl) (fun _ _ _ h => h) (Or.inl ⟨by rfl, ?_⟩) (SK.out _ tV) ?_
      · rintro w ⟨s0, s1, s2, s3, s4⟩
        go_simp
      simp only [Act.put, List.setIfInBounds_toArray, List.set_cons_zero, List.set_cons_succ]
      refine wpAnyH_take (i := 12) (oi := { dst := some 55, op := Op.load 33 (Operand.tmp 54), type := 33, pos := "index.go:63", after := #[{ on := 11, ground := Ground.data }], guard := none }) (v := .int .u64 (lo : Nat)) rfl (by kernel_rfl) (by kernel_rfl) (by kernel_rfl) (fun _ _ _ h => h) (Or.inl ⟨by rfl, ?_⟩) (SK.out _ tV) ?_
      · rintro w ⟨s0, s1, s2, s3, s4⟩
        go_simp
      simp only [Act.put, List.setIfInBounds_toArray, List.set_cons_zero, List.set_cons_succ]
      refine wpAnyH_take (i := 14) (oi := { dst := some 57, op := Op.move (Operand.tmp 0), type := 116, pos := "index.go:63", after := #[], guard := none }) (v := .pointer (some ⟨bx, 0, none⟩)) rfl (by kernel_rfl) (by kernel_rfl) (by kernel_rfl) (fun _ _ _ h => h) (Or.inl ⟨by rfl, ?_⟩) (SK.out _ tV) ?_
      · rintro w ⟨s0, s1, s2, s3, s4⟩
        go_simp
      simp only [Act.put, List.setIfInBounds_toArray, List.set_cons_zero, List.set_cons_succ]
      refine wpAnyH_take (i := 15) (oi := { dst := some 58, op := Op.nilCheck (Operand.tmp 57), type := 0, pos := "index.go:63", after := #[{ on := 14, ground := Ground.data }], guard := none }) (v := .pointer (some ⟨bx, 0, none⟩)) rfl (by kernel_rfl) (by kernel_rfl) (by kernel_rfl) (fun _ _ _ h => h) (Or.inl ⟨by rfl, ?_⟩) (SK.out _ tV) ?_
      · rintro w ⟨s0, s1, s2, s3, s4⟩
        go_simp
      simp only [Act.put, List.setIfInBounds_toArray, List.set_cons_zero, List.set_cons_succ]
      refine wpAnyH_take (i := 16) (oi := { dst := some 59, op := Op.fieldAddr 55 (Operand.tmp 58) 1, type := 0, pos := "index.go:63", after := #[{ on := 15, ground := Ground.data }], guard := none }) (v := .pointer (some ⟨bx, 1, none⟩)) rfl (by kernel_rfl) (by kernel_rfl) (by kernel_rfl) (fun _ _ _ h => h) (Or.inl ⟨by rfl, ?_⟩) (SK.out _ tV) ?_
      · rintro w ⟨s0, s1, s2, s3, s4⟩
        go_simp
      simp only [Act.put, List.setIfInBounds_toArray, List.set_cons_zero, List.set_cons_succ]
      refine wpAnyH_take (i := 17) (oi := { dst := some 60, op := Op.fieldAddr 42 (Operand.tmp 59) 6, type := 0, pos := "index.go:63", after := #[{ on := 16, ground := Ground.data }], guard := none }) (v := .pointer (some ⟨bx, 7, none⟩)) rfl (by kernel_rfl) (by kernel_rfl) (by kernel_rfl) (fun _ _ _ h => h) (Or.inl ⟨by rfl, ?_⟩) (SK.out _ tV) ?_
      · rintro w ⟨s0, s1, s2, s3, s4⟩
        go_simp
      simp only [Act.put, List.setIfInBounds_toArray, List.set_cons_zero, List.set_cons_succ]
      refine wpAnyH_take (i := 18) (oi := { dst := some 61, op := Op.load 33 (Operand.tmp 60), type := 33, pos := "index.go:63", after := #[{ on := 17, ground := Ground.data }], guard := none }) (v := .int .u64 (hi : Nat)) rfl (by kernel_rfl) (by kernel_rfl) (by kernel_rfl) (fun _ _ _ h => h) (Or.inl ⟨by rfl, ?_⟩) (SK.out _ tV) ?_
      · rintro w ⟨s0, s1, s2, s3, s4⟩
        go_simp
      simp only [Act.put, List.setIfInBounds_toArray, List.set_cons_zero, List.set_cons_succ]
      refine wpAnyH_take (i := 20) (oi := { dst := some 63, op := Op.move (Operand.tmp 0), type := 116, pos := "index.go:63", after := #[], guard := none }) (v := .pointer (some ⟨bx, 0, none⟩)) rfl (by kernel_rfl) (by kernel_rfl) (by kernel_rfl) (fun _ _ _ h => h) (Or.inl ⟨by rfl, ?_⟩) (SK.out _ tV) ?_
      · rintro w ⟨s0, s1, s2, s3, s4⟩
        go_simp
      simp only [Act.put, List.setIfInBounds_toArray, List.set_cons_zero, List.set_cons_succ]
      refine wpAnyH_take (i := 21) (oi := { dst := some 64, op := Op.nilCheck (Operand.tmp 63), type := 0, pos := "index.go:63", after := #[{ on := 20, ground := Ground.data }], guard := none }) (v := .pointer (some ⟨bx, 0, none⟩)) rfl (by kernel_rfl) (by kernel_rfl) (by kernel_rfl) (fun _ _ _ h => h) (Or.inl ⟨by rfl, ?_⟩) (SK.out _ tV) ?_
      · rintro w ⟨s0, s1, s2, s3, s4⟩
        go_simp
      simp only [Act.put, List.setIfInBounds_toArray, List.set_cons_zero, List.set_cons_succ]
      refine wpAnyH_take (i := 22) (oi := { dst := some 65, op := Op.fieldAddr 55 (Operand.tmp 64) 1, type := 0, pos := "index.go:63", after := #[{ on := 21, ground := Ground.data }], guard := none }) (v := .pointer (some ⟨bx, 1, none⟩)) rfl (by kernel_rfl) (by kernel_rfl) (by kernel_rfl) (fun _ _ _ h => h) (Or.inl ⟨by rfl, ?_⟩) (SK.out _ tV) ?_
      · rintro w ⟨s0, s1, s2, s3, s4⟩
        go_simp
      simp only [Act.put, List.setIfInBounds_toArray, List.set_cons_zero, List.set_cons_succ]
      refine wpAnyH_take (i := 23) (oi := { dst := some 66, op := Op.fieldAddr 42 (Operand.tmp 65) 3, type := 0, pos := "index.go:63", after := #[{ on := 22, ground := Ground.data }], guard := none }) (v := .pointer (some ⟨bx, 4, none⟩)) rfl (by kernel_rfl) (by kernel_rfl) (by kernel_rfl) (fun _ _ _ h => h) (Or.inl ⟨by rfl, ?_⟩) (SK.out _ tV) ?_
      · rintro w ⟨s0, s1, s2, s3, s4⟩
        go_simp
      simp only [Act.put, List.setIfInBounds_toArray, List.set_cons_zero, List.set_cons_succ]
      refine wpAnyH_take (i := 24) (oi := { dst := some 67, op := Op.load 28 (Operand.tmp 66), type := 28, pos := "index.go:63", after := #[{ on := 23, ground := Ground.data }], guard := none }) (v := .slice la least.length lc) rfl (by kernel_rfl) (by kernel_rfl) (by kernel_rfl) (fun _ _ _ h => h) (Or.inl ⟨by rfl, ?_⟩) (SK.out _ tV) ?_
      · rintro w ⟨s0, s1, s2, s3, s4⟩
        go_simp
      simp only [Act.put, List.setIfInBounds_toArray, List.set_cons_zero, List.set_cons_succ]
      refine wpAnyH_take (i := 26) (oi := { dst := some 69, op := Op.move (Operand.tmp 0), type := 116, pos := "index.go:63", after := #[], guard := none }) (v := .pointer (some ⟨bx, 0, none⟩)) rfl (by kernel_rfl) (by kernel_rfl) (by kernel_rfl) (fun _ _ _ h => h) (Or.inl ⟨by rfl, ?_⟩) (SK.out _ tV) ?_
      · rintro w ⟨s0, s1, s2, s3, s4⟩
        go_simp
      simp only [Act.put, List.setIfInBounds_toArray, List.set_cons_zero, List.set_cons_succ]
      refine wpAnyH_take (i := 27) (oi := { dst := some 70, op := Op.nilCheck (Operand.tmp 69), type := 0, pos := "index.go:63", after := #[{ on := 26, ground := Ground.data }], guard := none }) (v := .pointer (some ⟨bx, 0, none⟩)) rfl (by kernel_rfl) (by kernel_rfl) (by kernel_rfl) (fun _ _ _ h => h) (Or.inl ⟨by rfl, ?_⟩) (SK.out _ tV) ?_
      · rintro w ⟨s0, s1, s2, s3, s4⟩
        go_simp
      simp only [Act.put, List.setIfInBounds_toArray, List.set_cons_zero, List.set_cons_succ]
      refine wpAnyH_take (i := 28) (oi := { dst := some 71, op := Op.fieldAddr 55 (Operand.tmp 70) 1, type := 0, pos := "index.go:63", after := #[{ on := 27, ground := Ground.data }], guard := none }) (v := .pointer (some ⟨bx, 1, none⟩)) rfl (by kernel_rfl) (by kernel_rfl) (by kernel_rfl) (fun _ _ _ h => h) (Or.inl ⟨by rfl, ?_⟩) (SK.out _ tV) ?_
      · rintro w ⟨s0, s1, s2, s3, s4⟩
        go_simp
      simp only [Act.put, List.setIfInBounds_toArray, List.set_cons_zero, List.set_cons_succ]
      refine wpAnyH_take (i := 29) (oi := { dst := some 72, op := Op.fieldAddr 42 (Operand.tmp 71) 4, type := 0, pos := "index.go:63", after := #[{ on := 28, ground := Ground.data }], guard := none }) (v := .pointer (some ⟨bx, 5, none⟩)) rfl (by kernel_rfl) (by kernel_rfl) (by kernel_rfl) (fun _ _ _ h => h) (Or.inl ⟨by rfl, ?_⟩) (SK.out _ tV) ?_
      · rintro w ⟨s0, s1, s2, s3, s4⟩
        go_simp
      simp only [Act.put, List.setIfInBounds_toArray, List.set_cons_zero, List.set_cons_succ]
      refine wpAnyH_take (i := 30) (oi := { dst := some 73, op := Op.load 28 (Operand.tmp 72), type := 28, pos := "index.go:63", after := #[{ on := 29, ground := Ground.data }], guard := none }) (v := .slice ma most.length mc) rfl (by kernel_rfl) (by kernel_rfl) (by kernel_rfl) (fun _ _ _ h => h) (Or.inl ⟨by rfl, ?_⟩) (SK.out _ tV) ?_
      · rintro w ⟨s0, s1, s2, s3, s4⟩
        go_simp
      simp only [Act.put, List.setIfInBounds_toArray, List.set_cons_zero, List.set_cons_succ]
      have tq : Turns (fun _ => False) wr wr.drew := (Turns.refl _ _).drew
      refine wpAnyH_ready (rs := [7]) (by kernel_rfl) (by simp) ?_
      refine AllReadyH.cons rfl (fun K hK => ?_) AllReadyH.nil
      go_simp
      refine (number_part n (by omega) _).mono ?_
      rintro oo V1 ⟨pv, rfl, hp1, b1⟩
      obtain ⟨a1, c1, rfl, hf1⟩ := hp1.pt
      have t1 := Turns.of_below b1 (fun _ => False)
      have F1 := hide (hf1.le (show N + 1 ≤ _ from Nat.le_trans HNS.out tq.size))
      have tq := tq.trans t1
      clear hf1 hp1 b1 t1
      go_simp
      refine hK.out _ _ (SK.out _ (tq.mono fun _ _ x => x.elim)) (fun _ => ?_)
      clear hK K
      refine wpAnyH_ready (rs := [13]) (by kernel_rfl) (by simp) ?_
      refine AllReadyH.cons rfl (fun K hK => ?_) AllReadyH.nil
      go_simp
      refine (number_part lo hlo _).mono ?_
      rintro oo V2 ⟨pv, rfl, hp2, b2⟩
      obtain ⟨a2, c2, rfl, hf2⟩ := hp2.pt
      have t2 := Turns.of_below b2 (fun _ => False)
      have F2 := hide (hf2.le (show N + 1 ≤ _ from Nat.le_trans HNS.out tq.size))
      have F1 := hide (F1.out.turns t2 (fun _ _ x => x))
      have tq := tq.trans t2
      clear hf2 hp2 b2 t2
      go_simp
      refine hK.out _ _ (SK.out _ (tq.mono fun _ _ x => x.elim)) (fun _ => ?_)
      clear hK K
      refine wpAnyH_ready (rs := [19]) (by kernel_rfl) (by simp) ?_
      refine AllReadyH.cons rfl (fun K hK => ?_) AllReadyH.nil
      go_simp
      refine (number_part hi hhi _).mono ?_
      rintro oo V3 ⟨pv, rfl, hp3, b3⟩
      obtain ⟨a3, c3, rfl, hf3⟩ := hp3.pt
      have t3 := Turns.of_below b3 (fun _ => False)
      have F3 := hide (hf3.le (show N + 1 ≤ _ from Nat.le_trans HNS.out tq.size))
      have F1 := hide (F1.out.turns t3 (fun _ _ x => x))
      have F2 := hide (F2.out.turns t3 (fun _ _ x => x))
      have tq := tq.trans t3
      clear hf3 hp3 b3 t3
      go_simp
      refine hK.out _ _ (SK.out _ (tq.mono fun _ _ x => x.elim)) (fun _ => ?_)
      clear hK K
      refine wpAnyH_ready (rs := [25]) (by kernel_rfl) (by simp) ?_
      refine AllReadyH.cons rfl (fun K hK => ?_) AllReadyH.nil
      go_simp
      refine (piece_part la least.length lc least _ (HLA.out _ (TW.out.trans tq)) hlb).mono ?_
      rintro oo V4 ⟨pv, rfl, hp4, b4⟩
      obtain ⟨a4, c4, rfl, hf4⟩ := hp4.pt
      have t4 := Turns.of_below b4 (fun _ => False)
      have F4 := hide (hf4.le (show N + 1 ≤ _ from Nat.le_trans HNS.out tq.size))
      have F1 := hide (F1.out.turns t4 (fun _ _ x => x))
      have F2 := hide (F2.out.turns t4 (fun _ _ x => x))
      have F3 := hide (F3.out.turns t4 (fun _ _ x => x))
      have tq := tq.trans t4
      clear hf4 hp4 b4 t4
      go_simp
      refine hK.out _ _ (SK.out _ (tq.mono fun _ _ x => x.elim)) (fun _ => ?_)
      clear hK K
      refine wpAnyH_ready (rs := [31]) (by kernel_rfl) (by simp) ?_
      refine AllReadyH.cons rfl (fun K hK => ?_) AllReadyH.nil
      go_simp
      refine (piece_part ma most.length mc most _ (HMA.out _ (TW.out.trans tq)) hmb).mono ?_
      rintro oo V5 ⟨pv, rfl, hp5, b5⟩
      obtain ⟨a5, c5, rfl, hf5⟩ := hp5.pt
      have t5 := Turns.of_below b5 (fun _ => False)
      have F5 := hide (hf5.le (show N + 1 ≤ _ from Nat.le_trans HNS.out tq.size))
      have F1 := hide (F1.out.turns t5 (fun _ _ x => x))
      have F2 := hide (F2.out.turns t5 (fun _ _ x => x))
      have F3 := hide (F3.out.turns t5 (fun _ _ x => x))
      have F4 := hide (F4.out.turns t5 (fun _ _ x => x))
      have tq := tq.trans t5
      clear hf5 hp5 b5 t5
      go_simp
      refine hK.out _ _ (SK.out _ (tq.mono fun _ _ x => x.elim)) (fun _ => ?_)
      clear hK K
      refine wpAnyH_ready (rs := [32]) (by kernel_rfl) (by simp) ?_
      refine AllReadyH.cons rfl (fun K hK => ?_) AllReadyH.nil
      go_simp
      obtain ⟨W9, hW9⟩ : ∃ u, u = V5.alloc (.cells #[.slice a1 (short n).length c1, .int .i64 0, .slice a2 (short lo).length c2, .int .i64 0, .slice a3 (short hi).length c3, .int .i64 0, .slice a4 (pieceB least).length c4, .int .i64 0, .slice a5 (pieceB most).length c5, .int .i64 0] 119) := ⟨_, rfl⟩
      have h9 : W9.heap[V5.heap.size]? = some (.cells #[.slice a1 (short n).length c1, .int .i64 0, .slice a2 (short lo).length c2, .int .i64 0, .slice a3 (short hi).length c3, .int .i64 0, .slice a4 (pieceB least).length c4, .int .i64 0, .slice a5 (pieceB most).length c5, .int .i64 0] 119 (0, 0)) := by rw [hW9]; exact heap_alloc_new _ _
      have t9 : Turns (fun _ => False) V5 W9 := by rw [hW9]; exact (Turns.refl _ _).alloc _
      have F1 := hide (F1.out.turns t9 (fun _ _ x => x))
      have F2 := hide (F2.out.turns t9 (fun _ _ x => x))
      have F3 := hide (F3.out.turns t9 (fun _ _ x => x))
      have F4 := hide (F4.out.turns t9 (fun _ _ x => x))
      have F5 := hide (F5.out.turns t9 (fun _ _ x => x))
      have tq := tq.trans t9
      rw [← hW9]
      refine hK.out _ _ (SK.out _ (tq.mono fun _ _ x => x.elim)) (fun _ => ?_)
      clear hK K hW9
      obtain ⟨na, nc, W10, hr10, hac10, t10, ti10⟩ := (AC.out.quiet tq).add (Nat.le_trans HNS.out tq.size) (by omega) [⟨a1, c1, short n⟩, ⟨a2, c2, short lo⟩, ⟨a3, c3, short hi⟩, ⟨a4, c4, pieceB least⟩, ⟨a5, c5, pieceB most⟩] (by simp) (by simp) (by
        intro x hx
        simp only [List.mem_cons, List.not_mem_nil, or_false] at hx
        rcases hx with rfl | rfl | rfl | rfl | rfl
        · exact ⟨F1.out, short_pos _⟩
        · exact ⟨F2.out, short_pos _⟩
        · exact ⟨F3.out, short_pos _⟩
        · exact ⟨F4.out, pieceB_pos _⟩
        · exact ⟨F5.out, pieceB_pos _⟩
        ) 5 5 rfl V5.heap.size h9
      have tF := (tq.mono (S' := fun j => inRow (.slice va (1 + 4 * L) vc) j) (fun _ _ x => x.elim)).trans ti10
      have HQ := hide hr10
      have AC9 := hide hac10
      clear hr10 hac10 t10 h9 t9
      refine wpAnyH_ready (rs := [33]) (by kernel_rfl) (by simp) ?_
      refine AllReadyH.cons rfl (fun K hK => ?_) AllReadyH.nil
      refine step_append_run rfl _ _ 159 rfl (.slice va (1 + 4 * L) vc) (.slice (some ⟨V5.heap.size, 0, none⟩) 5 5) rfl rfl _ _ (HQ.out _) 76 rfl ?_
      refine hK.out _ _ (SK.out _ tF) (fun _ => ?_)
      clear hK K
      simp only [Act.put, List.setIfInBounds_toArray, List.set_cons_zero, List.set_cons_succ]
      refine wpAnyH_take (i := 34) (oi := { dst := some 3, op := Op.assign (Operand.tmp 76), type := 159, pos := "index.go:63", after := #[{ on := 33, ground := Ground.data }, { on := 33, ground := Ground.chain }, { on := 0, ground := Ground.phase }, { on := 1, ground := Ground.phase }, { on := 2, ground := Ground.phase }, { on := 3, ground := Ground.phase }, { on := 4, ground := Ground.phase }, { on := 5, ground := Ground.phase }, { on := 6, ground := Ground.phase }, { on := 7, ground := Ground.phase }, { on := 8, ground := Ground.phase }, { on := 9, ground := Ground.phase }, { on := 10, ground := Ground.phase }, { on := 11, ground := Ground.phase }, { on := 12, ground := Ground.phase }, { on := 13, ground := Ground.phase }, { on := 14, ground := Ground.phase }, { on := 15, ground := Ground.phase }, { on := 16, ground := Ground.phase }, { on := 17, ground := Ground.phase }, { on := 18, ground := Ground.phase }, { on := 19, ground := Ground.phase }, { on := 20, ground := Ground.phase }, { on := 21, ground := Ground.phase }, { on := 22, ground := Ground.phase }, { on := 23, ground := Ground.phase }, { on := 24, ground := Ground.phase }, { on := 25, ground := Ground.phase }, { on := 26, ground := Ground.phase }, { on := 27, ground := Ground.phase }, { on := 28, ground := Ground.phase }, { on := 29, ground := Ground.phase }, { on := 30, ground := Ground.phase }, { on := 31, ground := Ground.phase }, { on := 32, ground := Ground.phase }, { on := 33, ground := Ground.phase }], guard := none }) (v := .slice na (1 + 4 * L + 5) nc) rfl (by kernel_rfl) (by kernel_rfl) (by kernel_rfl) (fun _ _ _ h => h) (Or.inl ⟨by rfl, ?_⟩) (SK.out _ tF) ?_
      · rintro w ⟨s0, s1, s2, s3, s4⟩
        go_simp
      simp only [Act.put, List.setIfInBounds_toArray, List.set_cons_zero, List.set_cons_succ]
      have TF := hide tF
      clear tF tq ti10 tV HQ
      refine wpAnyH_done (by kernel_rfl) ?_ _
      have AC9 := hide (show Acc W10 (N + 1) (.slice na (1 + 4 * L + 5) nc) bs (1 + 4 * L + 5) from by
        have h1 := AC9.out
        rw [HBS.out]
        exact (by simpa [allB] using h1))
      have CC9 := hide (TF.out.heap CC.out (fun hj => by have := (AR.out _ hj).1; omega))
      have TW9 := hide (turns_fromQ TW.out TF.out fun j hj => by have := (AR.out _ hj).1; have := HN.out; omega)
      clear F1 F2 F3 F4 F5 SK AR
      obtain ⟨R, hr1, hr2, hr3, hr4⟩ := AC9.out.ex
      have PT := hide (hr1.pts fun x hx => ⟨(hr2 x hx).1.bytes, (hr2 x hx).2⟩)
      have HR3 := hide hr3
      have HR4 := hide hr4
      clear hr1 hr2 hr3 hr4
      go_wp2_with fail
      refine (together_ok na (1 + 4 * L + 5) nc R _ PT.out HR4.out.symm (by omega) (by rw [HR3.out]; exact Nat.le_trans HI.out (by decide))).mono ?_
      rintro e w11 ⟨v, rfl, hp, b11⟩
      obtain ⟨a, c, rfl, hf⟩ := hp.pt
      rw [HR3.out] at hf ⊢
      have T11 := Turns.of_below b11 (fun _ => False)
      have CC11 := hide (T11.heap CC9.out (fun x => x))
      have TW11 := hide (TW9.out.trans T11)
      have HF := hide (hf.le (show N + 1 ≤ _ from Nat.le_trans HNS.out TF.out.size))
      clear hf hp b11 T11
      generalize hbl : bs.length = bl at *
      have HBL := hide hbl
      clear hbl
      go_wp2_with (refine wpList_store_row rfl 119 _ _ rfl _ _ rfl rfl _ _ CC11.out ?_ ?_ ?_ ?_; (exact info119); (simp only [List.size_toArray, List.length_cons, List.length_nil]); (simp [Value.oneCell']))
      have hset := Cell119.set (B := N) (w0 := w) ⟨CC11.out, TW11.out.below (Nat.le_of_eq HN.out.symm) (fun _ x => x.elim), lt_of_heap CC11.out⟩ (.slice a bl c) 0
      obtain ⟨h1, h2, h3⟩ := hset
      refine bodyPost_ret (v := .agg #[.slice a bl c, .int .i64 0]) ?_ rfl ?_
      · exact results_cell_row Tryz.results73 _ _ _ _ _ _ _ rfl h1 Tryz.underlying119 rfl info119
      · refine ⟨_, rfl, ⟨_, rfl, ?_⟩, Turns.of_below (h2.mono (Nat.le_of_eq HN.out)) _⟩
        have h4 := HF.out
        simp only [Pt.v, HBL.out] at h4
        exact (h4.turns h3 (fun k hk e => by omega)).le (show w.heap.size ≤ N + 1 by have := HN.out; omega)
end Go.Proofs.YtjklbhdhjfifhaaGreat

/-
  A table, made: what it takes.
-/
namespace Go.Proofs.YtjklbhdhjfifhaaGreat
open Go.RowKit Go.Shelf
set_option maxRecDepth 100000
set_option maxHeartbeats 4000000
section
variable {P : Program}
theorem results_tmp_cell_tmp {fn : Func} {i j p : Tmp} {ty : TypeId} (h : fn.results = #[.tmp i, .cell p ty, .tmp j]) (tmps : Array Value) (w : World) (v u : Value) (g : Nat) (t : TypeId) (cs : Array Value) (fr : Nat × Nat) (d : TypeDesc)
    (hv : tmps.getD i undef = v) (hu' : tmps.getD j undef = u) (hp : tmps.getD p undef = .pointer (some ⟨g, 0, none⟩)) (hg : w.heap[g]? = some (.cells cs t fr))
    (hu : P.underlying ty = some d) (hd : (match d with | .struct _ | .array _ _ => true | _ => false) = true) (hi : (P.info? ty).map (·.size) = some cs.size) :
    (results fn tmps).run P w = .ok (.tuple #[v, .agg cs, u]) w := by
  have hp' : tmps[p]?.getD undef = .pointer (some ⟨g, 0, none⟩) := by simpa using hp
  have hv' : tmps[i]?.getD undef = v := by simpa using hv
  have hw' : tmps[j]?.getD undef = u := by simpa using hu'
  simp [results, h, hp', hv', hw', asAddr, run_loadVar_row w g t ty cs fr d hg hu hd hi]
end
def fltT (l : List Tow) (bits : Nat) : List (BitVec 8) := filt ((ksT l l.length).map (·.e.key)) bits
theorem fltT_len (l : List Tow) (bits : Nat) (h : l.length ≤ 200) (hb : bits ≤ 32) : 0 < (fltT l bits).length ∧ (fltT l bits).length ≤ 1000 := by
  unfold fltT
  rw [filt_length, List.length_map]
  have h1 := ksT_len l l.length
  have h2 : (ksT l l.length).length * bits ≤ 200 * 32 := Nat.mul_le_mul (by omega) hb
  unfold nBits
  omega
/-- A part that stands in a box of its own. -/
structure PBox (w : World) (G N : Nat) (bs : List (BitVec 8)) : Prop where
  ex : ∃ a c, w.heap[G]? = some (.cells #[.slice a bs.length c, .int .i64 0] 119 (0, 0)) ∧ Fresh N w (.slice a bs.length c) bs
theorem PBox.quiet {w w' : World} {G N : Nat} {bs : List (BitVec 8)} (h : PBox w G N bs) (t : Turns (fun _ => False) w w') : PBox w' G N bs := by
  obtain ⟨a, c, h1, h2⟩ := h.ex
  exact ⟨a, c, t.heap h1 (fun x => x), h2.turns t (fun _ _ x => x)⟩
theorem short_ten (x : Nat) (h : x < 18446744073709551616) : (short x).length ≤ 10 := by
  have h1 := szN_le x
  have h2 := szN_short x h
  omega
theorem pzB_len : ∀ (ps : List Pz) (E : Nat), E + sumZ ps < 18446744073709551616 → (∀ z ∈ ps, z.2.1.length ≤ 4096 ∧ z.2.2 < 18446744073709551616) → (pzB E ps).length ≤ 4136 * ps.length
  | [], _, _, _ => by simp [pzB]
  | (sz, key, seq) :: r, E, hs, h => by
    have h0 := h _ (List.mem_cons_self ..)
    simp only [sumZ, List.map_cons, List.sum_cons] at hs
    have ih := pzB_len r (E + sz) (by simp only [sumZ]; omega) (fun z hz => h z (List.mem_cons_of_mem _ hz))
    have h1 := short_ten E (by omega)
    have h2 := short_ten sz (by omega)
    have h3 := short_ten seq h0.2
    have h4 := short_ten key.length (by have := h0.1; simp only at this; omega)
    have h5 := h0.1
    simp only [pzB, List.length_append, pieceB_len, List.length_cons] at *
    omega
theorem plcs_t (l : List Tow) (hl : l ≠ []) : ∀ (L : List (Nat × Nat)) (p : Nat), (∀ x ∈ L, x.1 + x.2 ≤ l.length) → ∀ q ∈ plcs l p L, q.t ∈ l
  | [], _, _, q, h => by simp [plcs] at h
  | y :: r, p, hL, q, h => by
    simp only [plcs, List.mem_cons] at h
    rcases h with rfl | h
    · have h0 := hL y (List.mem_cons_self ..)
      have h1 := List.length_pos_iff.2 hl
      simp only [List.getD]
      rw [List.getElem?_eq_getElem (show y.1 + y.2 - 1 < l.length by omega)]
      exact List.getElem_mem _
    · exact plcs_t l hl r _ (fun x hx => hL x (List.mem_cons_of_mem _ hx)) q h
theorem cuts_in {F : Int} {l : List Tow} : ∀ {L : List (Nat × Nat)} {i j : Nat}, Cuts F l i L j → j ≤ l.length → i ≤ j ∧ ∀ x ∈ L, 1 ≤ x.2 ∧ x.1 + x.2 ≤ j
  | [], i, j, h, hj => ⟨Nat.le_of_eq h, fun x hx => by cases hx⟩
  | y :: r, i, j, h, hj => by
    obtain ⟨h1, h2, h3⟩ := h
    obtain ⟨h4, h5⟩ := cuts_in h3 hj
    have h6 := h2.1
    refine ⟨by omega, fun x hx => ?_⟩
    rcases List.mem_cons.1 hx with rfl | hx
    · exact ⟨h6, by omega⟩
    · exact h5 x hx
theorem pts_new {w : World} {A : Nat} {xs : List Pt} (h : w.heap[A]? = some (.cells (ptCells xs).toArray 119 (0, 0))) (hb : ∀ x ∈ xs, Bytes w x.v x.bs ∧ 0 < x.bs.length) : Pts w (some ⟨A, 0, none⟩) xs :=
  TRow.pts (B := 0) (n := xs.length) (c := xs.length) (.inr ⟨A, xs.length, xs.length, rfl, rfl, Nat.le_refl _, Nat.zero_le _, _, h, by simp [ptCells_length], fun k hk => by simp⟩) hb
theorem idxT_len (l : List Tow) (L : List (Nat × Nat)) (hl : l ≠ []) (hL : ∀ x ∈ L, x.1 + x.2 ≤ l.length) (hn : L.length ≤ 200) (hs : sumF l L ≤ 1000000) (hf : Good l) (n lo hi : Nat) (h1 : n < 18446744073709551616) (h2 : lo < 18446744073709551616) (h3 : hi < 18446744073709551616) (least most : List (BitVec 8)) (h4 : least.length ≤ 4096) (h5 : most.length ≤ 4096) : (idxT l L n lo hi least most).length ≤ 1000000 := by
  unfold idxT idxB
  have hz := pzB_len (zsT l L) 0 (by rw [zsT_sum]; omega) (fun z hz => by
    obtain ⟨q, hq, rfl⟩ := List.mem_map.1 hz
    have h9 := chk1_fine (hf _ (plcs_t l hl L 0 hL q hq)).1
    exact ⟨h9.2.2.2.2.1, by have := h9.2.1; simp only [Plc.z]; omega⟩)
  rw [zsT_length] at hz
  have k1 := short_ten (zsT l L).length (by rw [zsT_length]; omega)
  have k2 := short_ten n h1
  have k3 := short_ten lo h2
  have k4 := short_ten hi h3
  have k5 := short_ten least.length (by omega)
  have k6 := short_ten most.length (by omega)
  simp only [List.length_append, pieceB_len, List.length_nil]
  omega
end Go.Proofs.YtjklbhdhjfifhaaGreat
