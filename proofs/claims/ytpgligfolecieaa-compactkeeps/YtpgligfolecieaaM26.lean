import Derived.Test.YtpgligfolecieaaM25
import Derived.Test.YtpgligfolecieaaM14
/-
  cut: the files into which a row is cut.
-/
namespace Go.Proofs.Ytpgligfolecieaa
open Go.RowKit
set_option maxRecDepth 100000
set_option maxHeartbeats 4000000
theorem sum_take_le : ∀ (l : List Nat) (i : Nat), (l.take i).sum ≤ l.sum
  | [], i => by simp
  | x :: r, 0 => by simp
  | x :: r, i + 1 => by
    have := sum_take_le r i
    simp only [List.take_succ_cons, List.sum_cons]
    omega
theorem sum_drop_le : ∀ (l : List Nat) (i : Nat), (l.drop i).sum ≤ l.sum
  | [], i => by simp
  | x :: r, 0 => by simp
  | x :: r, i + 1 => by
    have := sum_drop_le r i
    simp only [List.drop_succ_cons, List.sum_cons]
    omega
theorem sizeEs_seg (es : List Ent) (b i : Nat) : sizeEs (segE es b i) ≤ sizeEs es := by
  unfold sizeEs
  rw [segE_map]
  unfold segE
  exact Nat.le_trans (sum_drop_le _ _) (sum_take_le _ _)
/-- A file that is a part of a row. -/
def Part (g : Nat) (R : List Tow) (p : Rw) : Prop := ∃ b i, b < i ∧ i ≤ R.length ∧ p = ⟨some ⟨g, b * 4, none⟩, i - b, segE R b i⟩
/-- How far cut has come. -/
structure CutI (w wr : World) (g n : Nat) (t : Int) (R : List Tow) (fv : Value) (b i : Nat) (ps : List Rw) : Prop where
  row : RRow wr w.heap.size fv ps
  part : ∀ p, p ∈ ps → Part g R p
  bi : b < i ∨ (i = 0 ∧ b = 0)
  le : i ≤ n
  num : ps.length ≤ b
  tot : entR ps ++ cutG t (segE (ents R) b i) ((ents R).drop i) = cutE t (ents R)
  turn : Turns (fun _ => False) w wr
theorem cut_append (w wc : World) (fa : Option Addr) (fc g b i : Nat) (R : List Tow) (ps : List Rw) (h : RRow wc w.heap.size (.slice fa ps.length fc) ps) (t : Turns (fun _ => False) w wc) (hp : ps.length ≤ 1000000) (hi : i ≤ R.length) :
    ∃ (g' n' c' : Nat) (w2 : World), (∀ ty, (Builtin.append_ #[22, 22] ty #[.slice fa ps.length fc, .slice (some ⟨wc.heap.size, 0, none⟩) 1 1]).run Try.prog (wc.alloc (.cells #[.slice (some ⟨g, b * 4, none⟩) (i - b) (i - b)] 31)) = .ok (.slice (some ⟨g', 0, none⟩) n' c') w2) ∧ RRow w2 w.heap.size (.slice (some ⟨g', 0, none⟩) n' c') (ps ++ [⟨some ⟨g, b * 4, none⟩, i - b, segE R b i⟩]) ∧ Turns (fun _ => False) w w2 ∧ ∀ k o, wc.heap[k]? = some o → ¬ inRow (.slice fa ps.length fc) k → w2.heap[k]? = some o := by
  have tA := (Turns.refl (fun _ => False) wc).alloc (.cells #[.slice (some ⟨g, b * 4, none⟩) (i - b) (i - b)] 31)
  obtain ⟨g', n', c', w2, hr, hrow, t4, b4, _⟩ := append_rw (wc.alloc (.cells #[.slice (some ⟨g, b * 4, none⟩) (i - b) (i - b)] 31)) w.heap.size (.slice fa ps.length fc) ps (h.keep tA (fun _ _ x => x)) (t.trans tA).size (by omega) ⟨some ⟨g, b * 4, none⟩, i - b, segE R b i⟩ wc.heap.size 1 (by
    have e := heap_alloc_new wc (.cells #[.slice (some ⟨g, b * 4, none⟩) (i - b) (i - b)] 31)
    unfold Rw.v
    rw [segE_length R b i hi]
    exact e)
  exact ⟨g', n', c', w2, hr, hrow, Turns.of_below (((t.trans tA).below (Nat.le_refl _) (fun _ x => x.elim)).trans b4) _, fun k o hk hn => t4.heap (tA.heap hk (fun x => x)) hn⟩
theorem cut_row (g n c : Nat) (t : Int) (R : List Tow) (w : World) (h : Ents w (some ⟨g, 0, none⟩) R) (hc : n ≤ c) (hn : n = R.length) (hmx : n ≤ 1000000) (ht : 1 ≤ t) (hs : sizeEs (ents R) ≤ 1000000000000) :
    Calls Try.prog 29 #[.slice (some ⟨g, 0, none⟩) n c, .int .i64 t] w fun e w' => ∃ v ps, e = .returned v ∧ RRow w' w.heap.size v ps ∧ (∀ p, p ∈ ps → Part g R p) ∧ ps.length ≤ n ∧ entR ps = cutE t (ents R) ∧ Turns (fun _ => False) w w' := by
  have H := hide h
  have HN := hide hn
  have C0 := hide (show CutI w w g n t R (.slice none 0 0) 0 0 [] from ⟨.inl ⟨rfl, rfl⟩, fun p hp => (by cases hp), .inr ⟨rfl, rfl⟩, Nat.zero_le _, Nat.zero_le _, rfl, Turns.refl _ _⟩)
  have HS := hide (fun b i => Nat.le_trans (sizeEs_seg (ents R) b i) hs)
  clear h hn hs
  go_enter Try.func29, Try.ntmps29
  go_wp2_with fail
  go_loopw [5, 6, 7, 12] (fun fv bv sv iv wr => ∃ (b i : Nat) (ps : List Rw), bv = .int .i64 (b : Nat) ∧ sv = .int .i64 (sizeEs (segE (ents R) b i) : Nat) ∧ iv = .int .i64 (i : Nat) ∧ CutI w wr g n t R fv b i ps) (fun _ _ _ iv _ => n - (intOf iv).toNat)
  case atStart => exact ⟨0, 0, [], rfl, rfl, rfl, C0.out⟩
  case round =>
    obtain ⟨b, i, ps, rfl, rfl, rfl, ho⟩ := hrel
    have HO := hide ho
    have hle := ho.le
    obtain ⟨fa, fc, rfl⟩ := ho.row.len
    have hpl := ho.num
    clear ho C0
    by_cases hin : i < n
    · obtain ⟨x, hx⟩ : ∃ x, R[i]? = some x := ⟨_, List.getElem?_eq_getElem (by have := HN.out; omega)⟩
      have HW := hide (H.out.quiet HO.out.turn)
      obtain ⟨b', off, e', hc4, hkx, hvx⟩ := ents_at2 HW.out hx
      cases e'
      have HX := hide hx
      have HBX := hide hkx
      have j1 : (i : Int) < n := by omega
      have j0 : (0 : Int) ≤ i := by omega
      have hbi : b ≤ i := by have := HO.out.bi; omega
      have HSEG := hide (segE_succ (ents_get hx) hbi)
      have HDR := hide (drop_cons (ents_get hx))
      have hs1 := HS.out b i
      have hs2 := HS.out b (i + 1)
      rw [HSEG.out, sizeEs_snoc] at hs2
      unfold sizE at hs2
      obtain ⟨sz, hsz⟩ : ∃ sz, sizeEs (segE (ents R) b i) = sz := ⟨_, rfl⟩
      have HSZ := hide hsz
      rw [hsz] at hs1 hs2 ⊢
      obtain ⟨q0, q1, q2, q3⟩ := hc4
      clear hx hkx hvx hsz
      rw [Nat.zero_add] at q0 q1 q2 q3
      obtain ⟨ka, kc, va, vc, ⟨key, sq, kd, val⟩⟩ := x
      unfold Tow.kv Tow.vv at *
      simp only at *
      have HEX := hide (ents_get HX.out)
      obtain ⟨L1, hL1⟩ : ∃ m, key.length = m := ⟨_, rfl⟩
      obtain ⟨L2, hL2⟩ : ∃ m, val.length = m := ⟨_, rfl⟩
      have HSX := hide (show sizE ⟨key, sq, kd, val⟩ = L1 + L2 + 32 by unfold sizE; rw [hL1, hL2])
      have SCX := hide (fun (p : Tow) (u : World) (hp : Bytes u p.kv p.e.key) (t : Turns (fun _ => False) wr u) => sameKey_any p ⟨ka, kc, va, vc, ⟨key, sq, kd, val⟩⟩ u hp (HBX.out.quiet t))
      rw [hL1] at q0 hs2 HBX
      rw [hL2] at q3 hs2
      unfold Tow.ent Tow.kv Tow.vv at SCX
      simp only at SCX
      rw [hL1, hL2] at SCX
      clear hL1 hL2
      have TF := hide ((Turns.refl (fun _ => False) wr).alloc (.cells #[.slice ka L1 kc, .int .u64 (sq : Nat), .int .i64 kd, .slice va L2 vc] 29))
      have RF := hide (heap_alloc_new wr (.cells #[.slice ka L1 kc, .int .u64 (sq : Nat), .int .i64 kd, .slice va L2 vc] 29))
      go_upto_region 6 with (fail)
      generalize hwb : wr.alloc (.cells #[.slice ka L1 kc, .int .u64 (sq : Nat), .int .i64 kd, .slice va L2 vc] 29) = wb at *
      clear hwb
      have HGN := hide (show ∀ k, inRow (.slice fa ps.length fc) k → k ≠ wr.heap.size from fun k hh e => by have := (HO.out.row.row hh).2; omega)
      generalize hGX : wr.heap.size = GX at *
      clear hGX q0 q1 q2 q3
      go_cut [12, 29] from 12 to 49 (fun v12 v29 wc => v12 = .int .i64 (i : Nat) ∧ ∃ q : Bool, v29 = .bool q ∧ Turns (fun _ => False) wb wc ∧ (decide (t ≤ (sz : Int)) && diffL (segE (ents R) b i) ⟨key, sq, kd, val⟩) = q)
      case first =>
        rename_i kk rest jj kk' m1 m2
        clear rest
        by_cases hst : t ≤ (sz : Int)
        · have hb1 : b < i := by
            rcases HO.out.bi with h1 | ⟨h1, h2⟩
            · exact h1
            · exfalso
              have h3 := HSZ.out
              rw [h1, h2, segE_self] at h3
              simp [sizeEs] at h3
              omega
          obtain ⟨i, rfl⟩ : ∃ i', i = i' + 1 := ⟨i - 1, by omega⟩
          obtain ⟨p, hp⟩ : ∃ p, R[i]? = some p := ⟨_, List.getElem?_eq_getElem (by have := HN.out; omega)⟩
          obtain ⟨b', off', e', hcp, hkp, hvp⟩ := ents_at2 HW.out hp
          cases e'
          rw [Nat.zero_add] at hcp
          have HDF := hide (show diffL (segE (ents R) b (i + 1)) ⟨key, sq, kd, val⟩ = !decide (p.e.key = key) by
            unfold diffL
            rw [segE_last (ents_get hp) (by omega)])
          have SC := hide (fun (u : World) (t : Turns (fun _ => False) wr u) => SCX.out p u (hkp.quiet t) t)
          have HCP := hide hcp
          have j2 : (i : Int) < n := by omega
          have j3 : (0 : Int) ≤ (i : Int) := by omega
          have E1 := hide hst
          clear hp hcp hkp hvp
          obtain ⟨ka2, kc2, va2, vc2, ⟨key2, sq2, kd2, val2⟩⟩ := p
          unfold Tow.ent Tow.kv Tow.vv at *
          simp only at *
          obtain ⟨sk, hsk⟩ : ∃ sk : Bool, decide (key2 = key) = sk := ⟨_, rfl⟩
          rw [hsk] at SC HDF
          clear hsk
          generalize key2.length = L3 at *
          generalize val2.length = L4 at *
          have tV : Turns (fun _ => False) wb wb.drew := (Turns.refl _ _).drew
          have SK := hide (fun (u : World) (t : Turns (fun _ => False) wb u) => show (u.cell? ⟨g, i * 4, none⟩ = some (.slice ka2 L3 kc2) ∧ u.cell? ⟨g, i * 4 + 1, none⟩ = some (.int .u64 (sq2 : Nat)) ∧ u.cell? ⟨g, i * 4 + 2, none⟩ = some (.int .i64 kd2) ∧ u.cell? ⟨g, i * 4 + 3, none⟩ = some (.slice va2 L4 vc2)) ∧ u.cell? ⟨GX, 0, none⟩ = some (.slice ka L1 kc) ∧ u.cell? ⟨GX, 1, none⟩ = some (.int .u64 (sq : Nat)) ∧ u.cell? ⟨GX, 2, none⟩ = some (.int .i64 kd) ∧ u.cell? ⟨GX, 3, none⟩ = some (.slice va L2 vc) from ⟨⟨(TF.out.trans t).cell HCP.out.1 (fun x => x), (TF.out.trans t).cell HCP.out.2.1 (fun x => x), (TF.out.trans t).cell HCP.out.2.2.1 (fun x => x), (TF.out.trans t).cell HCP.out.2.2.2 (fun x => x)⟩, cell_of_row u GX 0 _ 29 (0, 0) (t.heap RF.out (fun x => x)), cell_of_row u GX 1 _ 29 (0, 0) (t.heap RF.out (fun x => x)), cell_of_row u GX 2 _ 29 (0, 0) (t.heap RF.out (fun x => x)), cell_of_row u GX 3 _ 29 (0, 0) (t.heap RF.out (fun x => x))⟩)
          refine wp_region_held_drew (S := fun u => (u.cell? ⟨g, i * 4, none⟩ = some (.slice ka2 L3 kc2) ∧ u.cell? ⟨g, i * 4 + 1, none⟩ = some (.int .u64 (sq2 : Nat)) ∧ u.cell? ⟨g, i * 4 + 2, none⟩ = some (.int .i64 kd2) ∧ u.cell? ⟨g, i * 4 + 3, none⟩ = some (.slice va2 L4 vc2)) ∧ u.cell? ⟨GX, 0, none⟩ = some (.slice ka L1 kc) ∧ u.cell? ⟨GX, 1, none⟩ = some (.int .u64 (sq : Nat)) ∧ u.cell? ⟨GX, 2, none⟩ = some (.int .i64 kd) ∧ u.cell? ⟨GX, 3, none⟩ = some (.slice va L2 vc)) (by kernel_rfl) (SK.out _ tV) (fun _ => ?_)
          change wpAnyH _ _ _ _ _ 13 (Array.replicate 13 false) _ _
          refine wpAnyH_take (i := 0) (oi := { dst := some 17, op := Op.move (Operand.tmp 7), type := 3, pos := "cut.go:13", after := #[], guard := none }) (v := .int .i64 (sz : Nat)) rfl (by kernel_rfl) (by kernel_rfl) (by kernel_rfl) (fun _ _ _ h => h) (Or.inl ⟨by rfl, ?_⟩) (SK.out _ tV) ?_
          · rintro w ⟨⟨s0, s1, s2, s3⟩, s4, s5, s6, s7⟩
            go_simp
          simp only [Act.put, List.setIfInBounds_toArray, List.set_cons_zero, List.set_cons_succ]
          refine wpAnyH_take (i := 1) (oi := { dst := some 18, op := Op.move (Operand.tmp 1), type := 3, pos := "cut.go:13", after := #[], guard := none }) (v := .int .i64 t) rfl (by kernel_rfl) (by kernel_rfl) (by kernel_rfl) (fun _ _ _ h => h) (Or.inl ⟨by rfl, ?_⟩) (SK.out _ tV) ?_
          · rintro w ⟨⟨s0, s1, s2, s3⟩, s4, s5, s6, s7⟩
            go_simp
          simp only [Act.put, List.setIfInBounds_toArray, List.set_cons_zero, List.set_cons_succ]
          refine wpAnyH_take (i := 2) (oi := { dst := some 19, op := Op.binOp BinOp.geq 3 (Operand.tmp 17) (Operand.tmp 18) 3, type := 4, pos := "cut.go:13", after := #[{ on := 0, ground := Ground.data }, { on := 1, ground := Ground.data }], guard := none }) (v := .bool true) rfl (by kernel_rfl) (by kernel_rfl) (by kernel_rfl) (fun _ _ _ h => h) (Or.inl ⟨by rfl, ?_⟩) (SK.out _ tV) ?_
          · rintro w ⟨⟨s0, s1, s2, s3⟩, s4, s5, s6, s7⟩
            go_simp
          simp only [Act.put, List.setIfInBounds_toArray, List.set_cons_zero, List.set_cons_succ]
          refine wpAnyH_take (i := 3) (oi := { dst := some 20, op := Op.move (Operand.tmp 19), type := 4, pos := "cut.go:13", after := #[{ on := 2, ground := Ground.data }], guard := none }) (v := .bool true) rfl (by kernel_rfl) (by kernel_rfl) (by kernel_rfl) (fun _ _ _ h => h) (Or.inl ⟨by rfl, ?_⟩) (SK.out _ tV) ?_
          · rintro w ⟨⟨s0, s1, s2, s3⟩, s4, s5, s6, s7⟩
            go_simp
          simp only [Act.put, List.setIfInBounds_toArray, List.set_cons_zero, List.set_cons_succ]
          refine wpAnyH_take (i := 4) (oi := { dst := some 21, op := Op.move (Operand.tmp 0), type := 31, pos := "cut.go:13", after := #[{ on := 3, ground := Ground.guard }], guard := some (3, true) }) (v := .slice (some ⟨g, 0, none⟩) n c) rfl (by kernel_rfl) (by kernel_rfl) (by kernel_rfl) (fun _ _ _ h => h) (Or.inl ⟨by rfl, ?_⟩) (SK.out _ tV) ?_
          · rintro w ⟨⟨s0, s1, s2, s3⟩, s4, s5, s6, s7⟩
            go_simp
          simp only [Act.put, List.setIfInBounds_toArray, List.set_cons_zero, List.set_cons_succ]
          refine wpAnyH_take (i := 5) (oi := { dst := some 22, op := Op.move (Operand.tmp 8), type := 3, pos := "cut.go:13", after := #[{ on := 3, ground := Ground.guard }], guard := some (3, true) }) (v := .int .i64 ((i : Int) + 1)) rfl (by kernel_rfl) (by kernel_rfl) (by kernel_rfl) (fun _ _ _ h => h) (Or.inl ⟨by rfl, ?_⟩) (SK.out _ tV) ?_
          · rintro w ⟨⟨s0, s1, s2, s3⟩, s4, s5, s6, s7⟩
            go_simp
          simp only [Act.put, List.setIfInBounds_toArray, List.set_cons_zero, List.set_cons_succ]
          refine wpAnyH_take (i := 6) (oi := { dst := some 23, op := Op.binOp BinOp.sub 3 (Operand.tmp 22) (Operand.const (Value.int IntKind.i64 1)) 3, type := 3, pos := "cut.go:13", after := #[{ on := 5, ground := Ground.data }, { on := 3, ground := Ground.guard }], guard := some (3, true) }) (v := .int .i64 (i : Nat)) rfl (by kernel_rfl) (by kernel_rfl) (by kernel_rfl) (fun _ _ _ h => h) (Or.inl ⟨by rfl, ?_⟩) (SK.out _ tV) ?_
          · rintro w ⟨⟨s0, s1, s2, s3⟩, s4, s5, s6, s7⟩
            go_simp; rw [wrapI _ (by omega) (by omega)]
          simp only [Act.put, List.setIfInBounds_toArray, List.set_cons_zero, List.set_cons_succ]
          refine wpAnyH_take (i := 7) (oi := { dst := some 24, op := Op.indexAddr 31 (Operand.tmp 21) (Operand.tmp 23), type := 0, pos := "cut.go:13", after := #[{ on := 4, ground := Ground.data }, { on := 6, ground := Ground.data }, { on := 3, ground := Ground.guard }], guard := some (3, true) }) (v := .pointer (some ⟨g, i * 4, none⟩)) rfl (by kernel_rfl) (by kernel_rfl) (by kernel_rfl) (fun _ _ _ h => h) (Or.inl ⟨by rfl, ?_⟩) (SK.out _ tV) ?_
          · rintro w ⟨⟨s0, s1, s2, s3⟩, s4, s5, s6, s7⟩
            go_simp
          simp only [Act.put, List.setIfInBounds_toArray, List.set_cons_zero, List.set_cons_succ]
          refine wpAnyH_take (i := 8) (oi := { dst := some 25, op := Op.load 29 (Operand.tmp 24), type := 29, pos := "cut.go:13", after := #[{ on := 7, ground := Ground.data }, { on := 3, ground := Ground.guard }], guard := some (3, true) }) (v := .agg #[.slice ka2 L3 kc2, .int .u64 (sq2 : Nat), .int .i64 kd2, .slice va2 L4 vc2]) rfl (by kernel_rfl) (by kernel_rfl) (by kernel_rfl) (fun _ _ _ h => h) (Or.inl ⟨by rfl, ?_⟩) (SK.out _ tV) ?_
          · rintro w ⟨⟨s0, s1, s2, s3⟩, s4, s5, s6, s7⟩
            go_simp
          simp only [Act.put, List.setIfInBounds_toArray, List.set_cons_zero, List.set_cons_succ]
          refine wpAnyH_take (i := 9) (oi := { dst := some 26, op := Op.load 29 (Operand.tmp 9), type := 29, pos := "cut.go:13", after := #[{ on := 3, ground := Ground.guard }], guard := some (3, true) }) (v := .agg #[.slice ka L1 kc, .int .u64 (sq : Nat), .int .i64 kd, .slice va L2 vc]) rfl (by kernel_rfl) (by kernel_rfl) (by kernel_rfl) (fun _ _ _ h => h) (Or.inl ⟨by rfl, ?_⟩) (SK.out _ tV) ?_
          · rintro w ⟨⟨s0, s1, s2, s3⟩, s4, s5, s6, s7⟩
            go_simp
          simp only [Act.put, List.setIfInBounds_toArray, List.set_cons_zero, List.set_cons_succ]
          refine wpAnyH_ready (rs := [10]) (by kernel_rfl) (by simp) ?_
          refine AllReadyH.cons rfl (fun K hK => ?_) AllReadyH.nil
          go_simp
          refine (SC.out _ (TF.out.trans tV)).mono ?_
          rintro oo Vn ⟨rfl, tC⟩
          have tN := tC
          have tV := tV.trans tN
          clear tC
          clear tN
          go_simp
          refine hK.out _ _ (SK.out _ tV) (fun _ => ?_)
          clear hK K
          refine wpAnyH_take (i := 11) (oi := { dst := some 28, op := Op.unOp UnOp.not 4 (Operand.tmp 27), type := 4, pos := "cut.go:13", after := #[{ on := 10, ground := Ground.data }, { on := 3, ground := Ground.guard }], guard := some (3, true) }) (v := .bool (!sk)) rfl (by kernel_rfl) (by kernel_rfl) (by kernel_rfl) (fun _ _ _ h => h) (Or.inl ⟨by rfl, ?_⟩) (SK.out _ tV) ?_
          · rintro w ⟨⟨s0, s1, s2, s3⟩, s4, s5, s6, s7⟩
            go_simp
          simp only [Act.put, List.setIfInBounds_toArray, List.set_cons_zero, List.set_cons_succ]
          refine wpAnyH_take (i := 12) (oi := { dst := some 29, op := Op.pick (Operand.tmp 20) (Operand.tmp 28) (Operand.const (Value.bool false)), type := 4, pos := "cut.go:13", after := #[{ on := 3, ground := Ground.data }, { on := 11, ground := Ground.data }], guard := none }) (v := .bool (!sk)) rfl (by kernel_rfl) (by kernel_rfl) (by kernel_rfl) (fun _ _ _ h => h) (Or.inl ⟨by rfl, ?_⟩) (SK.out _ tV) ?_
          · rintro w ⟨⟨s0, s1, s2, s3⟩, s4, s5, s6, s7⟩
            go_simp
          simp only [Act.put, List.setIfInBounds_toArray, List.set_cons_zero, List.set_cons_succ]
          refine wpAnyH_done (by kernel_rfl) ?_ _
          have TU := hide tV
          clear tV
          go_wp2_with fail
          go_meet
          exact ⟨rfl, _, rfl, TU.out, by rw [HDF.out, decide_eq_true E1.out]; rfl⟩
        · have d0 : decide (t ≤ (sz : Int)) = false := decide_eq_false hst
          go_quiet (fail)
          go_wp2_with fail
          go_meet
          exact ⟨rfl, false, rfl, (Turns.refl _ _).drewN _, by rw [d0]; rfl⟩
      case rest =>
        obtain ⟨rfl, q, rfl, tc, hq⟩ := hcut
        have HQ := hide hq
        have TC := hide (TF.out.trans tc)
        have RC := hide (tc.heap RF.out (fun x => x))
        have y0 := cell_of_row wc GX 0 _ 29 (0, 0) RC.out
        have y1 := cell_of_row wc GX 3 _ 29 (0, 0) RC.out
        have HTOT := hide (show entR ps ++ cutG t (segE (ents R) b i) (⟨key, sq, kd, val⟩ :: (ents R).drop (i + 1)) = cutE t (ents R) by rw [← HDR.out]; exact HO.out.tot)
        clear hq tc
        have k1 : (0 : Int) ≤ (b : Int) := by omega
        have k2 : (b : Int) ≤ i := by omega
        have k3 : (i : Int) ≤ c := by omega
        cases q
        · have HC1 := hide (show CutI w wc g n t R (.slice fa ps.length fc) b (i + 1) ps from ⟨HO.out.row.keep TC.out (fun _ _ x => x), HO.out.part, .inl (by omega), by omega, by omega, by
            rw [← HTOT.out, cutG_go (by rw [HSZ.out]; exact HQ.out), HSEG.out], HO.out.turn.trans TC.out⟩)
          have HS1 := hide (show sizeEs (segE (ents R) b (i + 1)) = sz + (L1 + L2 + 32) by rw [HSEG.out, sizeEs_snoc, HSX.out, HSZ.out])
          go_wp2_with fail
          go_roundw
          case rel => exact ⟨b, i + 1, ps, rfl, by rw [HS1.out]; go_num, by go_num, HC1.out⟩
          case measure => (simp [intOf]; try omega)
        · have hsz1 : t ≤ (sz : Int) := by
            have h1 := HQ.out
            rw [Bool.and_eq_true] at h1
            exact of_decide_eq_true h1.1
          have hb1 : b < i := by
            rcases HO.out.bi with h1 | ⟨h1, h2⟩
            · exact h1
            · exfalso
              have h3 := HSZ.out
              rw [h1, h2, segE_self] at h3
              simp [sizeEs] at h3
              omega
          obtain ⟨g', n', c', w2, hq, hrow, t2, hk2⟩ := cut_append w wc fa fc g b i R ps (HO.out.row.keep TC.out (fun _ _ x => x)) (HO.out.turn.trans TC.out) (by omega) (by have := HN.out; omega)
          have RC2 := hk2 GX _ RC.out (fun hh => HGN.out GX hh rfl)
          have HC1 := hide (show CutI w w2 g n t R (.slice (some ⟨g', 0, none⟩) n' c') i (i + 1) (ps ++ [⟨some ⟨g, b * 4, none⟩, i - b, segE R b i⟩]) from ⟨hrow, fun p hp => by
            rcases List.mem_append.1 hp with hp | hp
            · exact HO.out.part p hp
            · exact ⟨b, i, hb1, by have := HN.out; omega, List.mem_singleton.1 hp⟩, .inl (by omega), by omega, by simp; omega, by
            have e1 : entR (ps ++ [⟨some ⟨g, b * 4, none⟩, i - b, segE R b i⟩]) = entR ps ++ [segE (ents R) b i] := by
              simp only [entR, List.map_append, List.map_cons, List.map_nil, segE_map, ents]
            have e2 : segE (ents R) i (i + 1) = [⟨key, sq, kd, val⟩] := by
              rw [segE_succ HEX.out (Nat.le_refl _), segE_self]
              rfl
            rw [← HTOT.out, cutG_stop (by rw [HSZ.out]; exact HQ.out), e1, e2, List.append_assoc]
            rfl, t2⟩)
          have HS1 := hide (show sizeEs (segE (ents R) i (i + 1)) = L1 + L2 + 32 by rw [segE_succ HEX.out (Nat.le_refl _), segE_self, List.nil_append, sizeEs_one, HSX.out])
          have z0 := cell_of_row w2 GX 0 _ 29 (0, 0) RC2
          have z1 := cell_of_row w2 GX 3 _ 29 (0, 0) RC2
          have HQQ := hide hq
          clear hq hrow t2 hk2 RC2
          go_wp2_with (at_builtin; refine wpList_append_run rfl _ _ 22 rfl _ _ rfl rfl _ _ (HQQ.out _) ?_)
          go_roundw
          case rel => exact ⟨i, i + 1, _, rfl, by rw [HS1.out]; go_num, by go_num, HC1.out⟩
          case measure => (simp [intOf]; try omega)
    · obtain rfl : i = n := by omega
      have HDN := hide (show (ents R).drop i = [] from List.drop_eq_nil_of_le (by have := HN.out; simp [ents]; omega))
      by_cases hbn : b < i
      · have k0 : (b : Int) < i := by omega
        have k1 : (0 : Int) ≤ (b : Int) := by omega
        have k2 : (b : Int) ≤ i := by omega
        have k3 : (i : Int) ≤ c := by omega
        obtain ⟨g', n', c', w2, hq, hrow, t2, hk2⟩ := cut_append w wr fa fc g b i R ps HO.out.row HO.out.turn (by omega) (by have := HN.out; omega)
        have HF := hide (show RRow w2 w.heap.size (.slice (some ⟨g', 0, none⟩) n' c') (ps ++ [⟨some ⟨g, b * 4, none⟩, i - b, segE R b i⟩]) ∧ (∀ p, p ∈ ps ++ [⟨some ⟨g, b * 4, none⟩, i - b, segE R b i⟩] → Part g R p) ∧ (ps ++ [(⟨some ⟨g, b * 4, none⟩, i - b, segE R b i⟩ : Rw)]).length ≤ i ∧ entR (ps ++ [⟨some ⟨g, b * 4, none⟩, i - b, segE R b i⟩]) = cutE t (ents R) ∧ Turns (fun _ => False) w w2 from ⟨hrow, fun p hp => by
          rcases List.mem_append.1 hp with hp | hp
          · exact HO.out.part p hp
          · exact ⟨b, i, hbn, by have := HN.out; omega, List.mem_singleton.1 hp⟩, by have := HO.out.num; simp; omega, by
          have e1 : entR (ps ++ [⟨some ⟨g, b * 4, none⟩, i - b, segE R b i⟩]) = entR ps ++ [segE (ents R) b i] := by
            simp only [entR, List.map_append, List.map_cons, List.map_nil, segE_map, ents]
          have h1 := HO.out.tot
          rw [HDN.out, cutG, if_neg (fun e => by have := congrArg List.length e; rw [segE_length _ _ _ (by have := HN.out; simp [ents]; omega)] at this; simp at this; omega)] at h1
          rw [e1, h1], t2⟩)
        have HQQ := hide hq
        clear hq hrow t2 hk2
        go_wp2_with (at_builtin; refine wpList_append_run rfl _ _ 22 rfl _ _ rfl rfl _ _ (HQQ.out _) ?_)
        go_ret
        exact ⟨_, _, rfl, HF.out⟩
      · have hz : i = 0 ∧ b = 0 := by
          have := HO.out.bi
          omega
        have k0 : ¬ (b : Int) < i := by omega
        have HF := hide (show RRow wr w.heap.size (.slice fa ps.length fc) ps ∧ (∀ p, p ∈ ps → Part g R p) ∧ ps.length ≤ i ∧ entR ps = cutE t (ents R) ∧ Turns (fun _ => False) w wr from ⟨HO.out.row, HO.out.part, by have := HO.out.num; omega, by
          have h1 := HO.out.tot
          rw [HDN.out, hz.1, hz.2, segE_self, cutG, if_pos rfl, List.append_nil] at h1
          exact h1, HO.out.turn⟩)
        clear hz
        go_wp2_with fail
        go_ret
        first | exact ⟨_, rfl, ps, HF.out⟩ | exact ⟨_, ps, rfl, HF.out⟩
end Go.Proofs.Ytpgligfolecieaa

/-
  check, Visible, Row, Cut.
-/
namespace Go.Proofs.Ytpgligfolecieaa
open Go.RowKit
set_option maxRecDepth 100000
set_option maxHeartbeats 4000000
theorem check32 (a la : Option Addr) (n c ln lc : Nat) (l : List Tow) (ks : List Nat) (w : World) (h : Ents w a l) (hn : n = l.length) (hmx : n ≤ 1000000) (hk : U64s w la ks) (hkn : ln = ks.length) (hkm : ln ≤ 1000000) :
    Calls Try.prog 32 #[.slice a n c, .slice la ln lc] w fun e w' => e = .returned (.int .i64 (ordB (inOrd (ents l) && looksOk ks))) ∧ Turns (fun _ => False) w w' := by
  have CK := hide (check_any a n c l w h hn hmx)
  have LK := hide (fun (u : World) (t : Turns (fun _ => False) w u) => checkLooks_any la ln lc ks u (hk.quiet t) hkn hkm)
  generalize inOrd (ents l) = o1 at *
  generalize looksOk ks = o2 at *
  clear h hn hk hkn
  go_enter Try.func32, Try.ntmps32
  go_wp2_with fail
  refine CK.out.mono ?_
  rintro e w1 ⟨rfl, hb⟩
  have T1 := hide (Turns.of_below hb (fun _ => False))
  clear hb
  cases o1
  · rw [show ordE false = 2 from rfl]
    go_wp2_with fail
    go_ret
    exact ⟨rfl, T1.out⟩
  · rw [show ordE true = 0 from rfl]
    go_wp2_with fail
    refine (LK.out _ T1.out).mono ?_
    rintro e w2 ⟨rfl, t2⟩
    have T2 := hide (T1.out.trans t2)
    clear t2
    go_wp2_with fail
    go_ret
    exact ⟨rfl, T2.out⟩
theorem allC_ne (ks : List Nat) : allC ks ≠ [] := by
  unfold allC
  split
  · next h => intro e; rw [e] at h; cases h
  · simp
theorem u64s_some {w : World} {a : Option Addr} {ks : List Nat} (h : U64s w a ks) (hne : ks ≠ []) : ∃ b off, a = some ⟨b, off, none⟩ := by
  cases ks with
  | nil => exact absurd rfl hne
  | cons s r => obtain ⟨⟨b, off, e, _⟩, _⟩ := h 0 s rfl; exact ⟨b, off, e⟩
/-- What Visible answers. -/
def SeenOk (w' : World) (n : Nat) (ok : Bool) (bs : List Bool) (e : Ending) : Prop := (ok = false ∧ e = .returned (.tuple #[.slice none 0 0, .int .i64 2])) ∨ (ok = true ∧ ∃ g, e = .returned (.tuple #[.slice (some ⟨g, 0, none⟩) n n, .int .i64 0]) ∧ Bools w' g bs)
theorem Visible_any (a la : Option Addr) (n c ln lc : Nat) (l : List Tow) (ks : List Nat) (w : World) (h : Ents w a l) (hn : n = l.length) (hmx : n ≤ 1000000) (hk : U64s w la ks) (hkn : ln = ks.length) (hlc : ln ≤ lc) (hkm : ln ≤ 100000) :
    Calls Try.prog 8 #[.slice a n c, .slice la ln lc] w fun e w' => SeenOk w' n (inOrd (ents l) && looksOk ks) (vis (allC ks) (ents l)) e ∧ Turns (fun _ => False) w w' := by
  have CK := hide (check32 a la n c ln lc l ks w h hn hmx hk hkn (by omega))
  have EV := hide (fun (u : World) (t : Turns (fun _ => False) w u) => everybody_any la ln lc ks u (hk.quiet t) hkn hlc (by omega))
  have VI := hide (fun (u : World) (kb ko m d : Nat) (h1 : inOrd (ents l) = true) (h2 : looksOk ks = true) (t : Turns (fun _ => False) w u) (hu : U64s u (some ⟨kb, ko, none⟩) (allC ks)) (hm : m = (allC ks).length) (hd : m ≤ d) (hmm : m ≤ 1000000) => visible_any a n c l kb ko m d (allC ks) u (h.quiet t) hn hmx h1 hu hm hd (allC_rise h2) hmm)
  obtain ⟨ok, hok⟩ : ∃ ok, (inOrd (ents l) && looksOk ks) = ok := ⟨_, rfl⟩
  rw [hok] at CK ⊢
  have HOK := hide hok
  clear h hn hk hkn hok
  go_enter Try.func8, Try.ntmps8
  go_wp2_with fail
  refine CK.out.mono ?_
  rintro e w1 ⟨rfl, t1⟩
  have T1 := hide t1
  clear t1 CK
  cases ok
  · rw [show ordB false = 2 from rfl]
    go_wp2_with fail
    go_ret2
    exact ⟨.inl ⟨rfl, rfl⟩, T1.out⟩
  · rw [show ordB true = 0 from rfl]
    have h12 := HOK.out
    rw [Bool.and_eq_true] at h12
    have H1 := hide h12.1
    have H2 := hide h12.2
    clear h12
    go_wp2_with fail
    refine (EV.out _ T1.out).mono ?_
    rintro e w2 ⟨a', n', c', rfl, hu, hn', hn2, hc', t2⟩
    have T2 := hide (T1.out.trans t2)
    obtain ⟨kb, ko, rfl⟩ := u64s_some hu (allC_ne ks)
    have V2 := hide (VI.out w2 kb ko n' c' H1.out H2.out T2.out hu hn' hc' (by omega))
    clear t2 hu hn' hn2 hc' VI EV
    go_wp2_with fail
    refine V2.out.mono ?_
    rintro e w3 ⟨g, rfl, hg, hbs, t3⟩
    have T3 := hide (T2.out.trans t3)
    have HB := hide hbs
    clear t3 hg hbs
    go_wp2_with fail
    go_ret2
    exact ⟨.inr ⟨rfl, g, rfl, HB.out⟩, T3.out⟩
end Go.Proofs.Ytpgligfolecieaa

/-
  Row and Cut.
-/
namespace Go.Proofs.Ytpgligfolecieaa
open Go.RowKit
set_option maxRecDepth 100000
set_option maxHeartbeats 4000000
theorem Turns.past {S : Nat → Prop} {w w1 w2 : World} (h : Turns (fun _ => False) w w1) (t : Turns S w1 w2) (hS : ∀ k, S k → w.heap.size ≤ k) : Turns (fun _ => False) w w2 := by
  have t2 := (h.mono (S' := S) fun _ _ x => x.elim).trans t
  exact ⟨t2.os, t2.tape, t2.output, t2.size, fun k k1 _ => t2.block k k1 fun e => by have := hS k e; omega⟩
theorem keepB_mem {α : Type} : ∀ (l : List α) (v : List Bool) (x : α), x ∈ keepB l v → x ∈ l
  | [], v, x, h => by rw [keepB_nil] at h; cases h
  | y :: r, [], x, h => by cases h
  | y :: r, b :: t, x, h => by
    simp only [keepB] at h
    split at h
    · rcases List.mem_cons.1 h with rfl | h
      · exact List.mem_cons_self
      · exact List.mem_cons_of_mem _ (keepB_mem r t x h)
    · exact List.mem_cons_of_mem _ (keepB_mem r t x h)
theorem ents_keepB (R : List Tow) (v : List Bool) : ents (keepB R v) = keepB (ents R) v := keepB_map _ _ _
theorem row_eq (ks : List Nat) (bot : Bool) (R : List Tow) : ents (keepB R (rowB (allC ks) bot (ents R))) = rowE (allC ks) bot (ents R) := ents_keepB _ _
/-- What Row answers. -/
def RowOk (w w' : World) (ok : Bool) (es : List Ent) (e : Ending) : Prop := (ok = false ∧ e = .returned (.tuple #[.slice none 0 0, .int .i64 2])) ∨ (ok = true ∧ ∃ (a : Option Addr) (n c : Nat) (Q : List Tow), e = .returned (.tuple #[.slice a n c, .int .i64 0]) ∧ n = Q.length ∧ ERow w' w.heap.size (.slice a n c) Q ∧ ents Q = es ∧ Shown w' w.heap.size Q ∧ Typ5 w' Q)
theorem Row_any (a la : Option Addr) (n c ln lc : Nat) (l : List Tow) (ks : List Nat) (bot : Bool) (w : World) (h : Ents w a l) (hn : n = l.length) (hmx : n ≤ 1000000) (hl : ∀ x, x ∈ l → x.e.key.length ≤ 1000000 ∧ x.e.val.length ≤ 1000000) (hk : U64s w la ks) (hkn : ln = ks.length) (hlc : ln ≤ lc) (hkm : ln ≤ 100000) :
    Calls Try.prog 15 #[.slice a n c, .slice la ln lc, .bool bot] w fun e w' => RowOk w w' (inOrd (ents l) && looksOk ks) (rowE (allC ks) bot (ents l)) e ∧ Turns (fun _ => False) w w' := by
  have CK := hide (check32 a la n c ln lc l ks w h hn hmx hk hkn (by omega))
  have EV := hide (fun (u : World) (t : Turns (fun _ => False) w u) => everybody_any la ln lc ks u (hk.quiet t) hkn hlc (by omega))
  have CE := hide (fun (u : World) (t : Turns (fun _ => False) w u) => cloneEs_any a n c l u (h.quiet t) hn hmx)
  have HBY := hide (fun (u : World) (t : Turns (fun _ => False) w u) (x : Tow) (hx : x ∈ l) => show Bytes u x.kv x.e.key ∧ Bytes u x.vv x.e.val from by
    obtain ⟨i, hi⟩ := List.getElem?_of_mem hx
    have := (h.quiet t i x hi).2
    exact this)
  have HN := hide hn
  have HL := hide hl
  obtain ⟨ok, hok⟩ : ∃ ok, (inOrd (ents l) && looksOk ks) = ok := ⟨_, rfl⟩
  rw [hok] at CK ⊢
  have HOK := hide hok
  clear h hn hk hkn hok hl
  go_enter Try.func15, Try.ntmps15
  go_wp2_with fail
  refine CK.out.mono ?_
  rintro e w1 ⟨rfl, t1⟩
  have T1 := hide t1
  clear t1 CK
  cases ok
  · rw [show ordB false = 2 from rfl]
    go_wp2_with fail
    go_ret2
    exact ⟨.inl ⟨rfl, rfl⟩, T1.out⟩
  · rw [show ordB true = 0 from rfl]
    have h12 := HOK.out
    rw [Bool.and_eq_true] at h12
    have H1 := hide h12.1
    have H2 := hide h12.2
    clear h12
    go_wp2_with fail
    refine (CE.out _ T1.out).mono ?_
    rintro e w2 ⟨a', c', rfl, hE, _, t2⟩
    have T2 := hide (T1.out.trans t2)
    have HE := hide (hE.le T1.out.size)
    clear t2 hE CE
    go_wp2_with fail
    refine (EV.out _ T2.out).mono ?_
    rintro e w3 ⟨la', n', lc', rfl, hu, hn', hn2, hc', t3⟩
    have T3 := hide (T2.out.trans t3)
    obtain ⟨kb, ko, rfl⟩ := u64s_some hu (allC_ne ks)
    have L3 := hide (left_any a' n c' w.heap.size l kb ko n' lc' (allC ks) bot w3 (HE.out.keep t3 (fun _ _ x => x)) (HBY.out w3 T3.out) HN.out hmx H1.out hu hn' hc' (allC_rise H2.out) (by omega))
    have HE3 := hide (HE.out.keep t3 (fun _ _ x => x))
    clear t3 hu hn' hn2 hc' EV
    go_wp2_with fail
    refine L3.out.mono ?_
    rintro e w4 ⟨m, rfl, hm, hmn, hE4, t4⟩
    have HM := hide hm
    have hrw : ∀ k, inRow (.slice a' n c') k → w.heap.size ≤ k := fun k hk => (HE3.out.row hk).1
    have hrw2 : ∀ k, inRow (.slice a' m c') k → w.heap.size ≤ k := fun k hk => (hE4.row hk).1
    have T4 := hide (T3.out.past t4 hrw)
    have OW := hide (own_any3 a' m c' w.heap.size _ w4 hE4 (fun u t x hx => HBY.out u (T4.out.past t hrw2) x (keepB_mem _ _ _ hx)) hm (by omega) (fun x hx => HL.out x (keepB_mem _ _ _ hx)))
    have HRW2 := hide hrw2
    clear hm hE4 t4 hrw hrw2 L3
    go_wp2_with fail
    refine OW.out.mono ?_
    rintro e w5 ⟨Q, rfl, hE5, hes, hsh, hty, t5⟩
    have HF := hide (show RowOk w w5 true (rowE (allC ks) bot (ents l)) (.returned (.tuple #[.slice a' m c', .int .i64 0])) ∧ Turns (fun _ => False) w w5 from ⟨.inr ⟨rfl, a', m, c', Q, rfl, by
      have e1 := congrArg List.length hes
      simp only [ents, List.length_map] at e1
      rw [e1]
      exact HM.out, hE5, by rw [hes]; exact row_eq ks bot l, hsh.le T4.out.size, hty⟩, T4.out.past t5 HRW2.out⟩)
    clear hE5 hes hsh hty t5
    go_wp2_with fail
    go_ret2
    exact HF.out
theorem cut_nil (t : Int) (w : World) : Calls Try.prog 29 #[.slice none 0 0, .int .i64 t] w fun e w' => e = .returned (.slice none 0 0) ∧ Turns (fun _ => False) w w' := by
  go_enter Try.func29, Try.ntmps29
  go_wp2_with fail
  go_loopw [5, 6, 7, 12] (fun fv bv sv iv wr => fv = .slice none 0 0 ∧ bv = .int .i64 0 ∧ iv = .int .i64 0 ∧ Turns (fun _ => False) w wr) (fun _ _ _ _ _ => 0)
  case atStart => exact ⟨rfl, rfl, rfl, Turns.refl _ _⟩
  case round =>
    obtain ⟨rfl, rfl, rfl, hb⟩ := hrel
    have HB := hide hb
    clear hb
    go_wp2_with fail
    go_ret
    exact ⟨rfl, HB.out⟩
/-- Files of a row. -/
def Files (w' : World) (B : Nat) (es : List (List Ent)) (v : Value) : Prop := ∃ ps, RRow w' B v ps ∧ (∀ p, p ∈ ps → Ents w' p.a p.R ∧ p.R.length ≤ p.c) ∧ entR ps = es ∧ ps.length ≤ 1000000
theorem cut_any (a : Option Addr) (n c B : Nat) (t : Int) (R : List Tow) (w : World) (h : ERow w B (.slice a n c) R) (hb : ∀ x, x ∈ R → Bytes w x.kv x.e.key ∧ Bytes w x.vv x.e.val) (hn : n = R.length) (hmx : n ≤ 1000000) (ht : 1 ≤ t) (hs : sizeEs (ents R) ≤ 1000000000000) :
    Calls Try.prog 29 #[.slice a n c, .int .i64 t] w fun e w' => ∃ v, e = .returned v ∧ Files w' w.heap.size (cutE t (ents R)) v ∧ Turns (fun _ => False) w w' := by
  have hE : Ents w a R := by
    obtain ⟨a', c', e, hE, _⟩ := ents_row (B := B) h hb
    cases e
    exact hE
  rcases h with ⟨rfl, e⟩ | ⟨g, c', n', e, hn', hc, hB, hrow⟩
  · cases e
    refine (cut_nil t w).mono ?_
    rintro e w' ⟨rfl, t⟩
    exact ⟨_, rfl, ⟨[], .inl ⟨rfl, rfl⟩, fun p hp => (by cases hp), rfl, by simp⟩, t⟩
  · cases e
    refine (cut_row g n c t R w hE hc hn hmx ht hs).mono ?_
    rintro e w' ⟨v, ps, rfl, h1, h2, h3, h4, t⟩
    refine ⟨v, rfl, ⟨ps, h1, fun p hp => ?_, h4, by omega⟩, t⟩
    obtain ⟨b, i, hbi, hi, rfl⟩ := h2 p hp
    refine ⟨?_, by rw [segE_length _ _ _ hi]; exact Nat.le_refl _⟩
    have := (hE.quiet t).seg b i
    rwa [Nat.zero_add] at this
/-- What Cut answers. -/
def CutOk (w w' : World) (ok : Bool) (es : List (List Ent)) (e : Ending) : Prop := (ok = false ∧ e = .returned (.tuple #[.slice none 0 0, .int .i64 2])) ∨ (ok = true ∧ ∃ v, e = .returned (.tuple #[v, .int .i64 0]) ∧ Files w' w.heap.size es v)
def tgt (t : Int) : Bool := decide (1 ≤ t) && decide (t ≤ 16777216)
theorem Files.le {w : World} {B B' : Nat} {es : List (List Ent)} {v : Value} (h : Files w B es v) (hB : B' ≤ B) : Files w B' es v := by
  obtain ⟨ps, h1, h2⟩ := h
  refine ⟨ps, ?_, h2⟩
  rcases h1 with h1 | ⟨g, c, n, k1, k2, k3, k4, k5⟩
  · exact .inl h1
  · exact .inr ⟨g, c, n, k1, k2, k3, Nat.le_trans hB k4, k5⟩
theorem Cut_any (a : Option Addr) (n c : Nat) (t : Int) (l : List Tow) (w : World) (h : Ents w a l) (hn : n = l.length) (hmx : n ≤ 1000000) (hl : ∀ x, x ∈ l → x.e.key.length ≤ 1000000 ∧ x.e.val.length ≤ 1000000) (hs : sizeEs (ents l) ≤ 1000000000000) :
    Calls Try.prog 6 #[.slice a n c, .int .i64 t] w fun e w' => CutOk w w' (inOrd (ents l) && tgt t) (cutE t (ents l)) e ∧ Turns (fun _ => False) w w' := by
  have CK := hide (check_any a n c l w h hn hmx)
  have CT := hide (fun (u : World) => checkTarget_any t u)
  have CE := hide (fun (u : World) (t : Turns (fun _ => False) w u) => cloneEs_any a n c l u (h.quiet t) hn hmx)
  have HBY := hide (fun (u : World) (t : Turns (fun _ => False) w u) (x : Tow) (hx : x ∈ l) => show Bytes u x.kv x.e.key ∧ Bytes u x.vv x.e.val from by
    obtain ⟨i, hi⟩ := List.getElem?_of_mem hx
    have := (h.quiet t i x hi).2
    exact this)
  have HN := hide hn
  have HL := hide hl
  have HT := hide (show tgt t = true → 1 ≤ t from fun e => by unfold tgt at e; simp at e; exact e.1)
  change Hid (∀ u, Calls Try.prog 28 #[.int .i64 t] u fun e w' => e = .returned (.int .i64 (ordB (tgt t))) ∧ Turns (fun _ => False) u w') at CT
  generalize tgt t = o2 at *
  obtain ⟨o1, ho1⟩ : ∃ o, inOrd (ents l) = o := ⟨_, rfl⟩
  rw [ho1] at CK ⊢
  clear h hn hl ho1
  go_enter Try.func6, Try.ntmps6
  go_wp2_with fail
  refine CK.out.mono ?_
  rintro e w1 ⟨rfl, hb⟩
  have T1 := hide (Turns.of_below hb (fun _ => False))
  clear hb CK
  cases o1
  · rw [show ordE false = 2 from rfl]
    go_wp2_with fail
    go_ret2
    exact ⟨.inl ⟨rfl, rfl⟩, T1.out⟩
  rw [show ordE true = 0 from rfl]
  go_wp2_with fail
  refine (CT.out _).mono ?_
  rintro e w2 ⟨rfl, t2⟩
  have T2 := hide (T1.out.trans t2)
  clear t2 CT
  cases o2
  · rw [show ordB false = 2 from rfl]
    go_wp2_with fail
    go_ret2
    exact ⟨.inl ⟨rfl, rfl⟩, T2.out⟩
  rw [show ordB true = 0 from rfl]
  go_wp2_with fail
  refine (CE.out _ T2.out).mono ?_
  rintro e w3 ⟨a', c', rfl, hE, _, t3⟩
  have T3 := hide (T2.out.trans t3)
  have HE := hide (hE.le T2.out.size)
  have OW := hide (own_any3 a' n c' w.heap.size l w3 HE.out (fun u t => HBY.out u (T3.out.past t fun k hk => (HE.out.row hk).1)) HN.out hmx HL.out)
  clear t3 hE CE
  go_wp2_with fail
  refine OW.out.mono ?_
  rintro e w4 ⟨Q, rfl, hE4, hes, hsh, hty, t4⟩
  have T4 := hide (T3.out.past t4 fun k hk => (HE.out.row hk).1)
  have HES := hide hes
  have CU := hide (cut_any a' n c' w.heap.size t Q w4 hE4 (fun x hx => ⟨(hsh x hx).1, (hsh x hx).2.1⟩) (by
    have e1 := congrArg List.length hes
    simp only [ents, List.length_map] at e1
    rw [e1]
    exact HN.out) hmx (HT.out trivial) (by rw [hes]; exact hs))
  clear hE4 hes hsh hty t4 OW
  go_wp2_with fail
  refine CU.out.mono ?_
  rintro e w5 ⟨v, rfl, hf, t5⟩
  have HF := hide (show CutOk w w5 (true && true) (cutE t (ents l)) (.returned (.tuple #[v, .int .i64 0])) ∧ Turns (fun _ => False) w w5 from ⟨.inr ⟨rfl, v, rfl, by rw [← HES.out]; exact hf.le T4.out.size⟩, T4.out.trans t5⟩)
  clear hf t5
  go_wp2_with fail
  go_ret2
  exact HF.out
end Go.Proofs.Ytpgligfolecieaa
