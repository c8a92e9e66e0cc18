import Derived.Test.YtpgligfolecieaaM27
/-
  The document's Cut.
-/
namespace Go.Proofs.Ytpgligfolecieaa
open Go.RowKit
set_option maxRecDepth 100000
set_option maxHeartbeats 8000000
theorem Ents.seg2 {w : World} {g off : Nat} {R : List Tow} (h : Ents w (some ⟨g, off, none⟩) R) (b i : Nat) : Ents w (some ⟨g, off + b * 4, none⟩) (segE R b i) := h.seg b i
/-- A file that is a part of a row that lies anywhere. -/
def PartR (g off c : Nat) (R : List Tow) (p : Rw) : Prop := ∃ b i, b < i ∧ i ≤ R.length ∧ p = ⟨some ⟨g, off + b * 4, none⟩, c - b, segE R b i⟩
/-- How far the document's Cut has come: ahead of the entry i. -/
structure CutR (w wr : World) (g off c n : Nat) (t : Int) (R : List Tow) (fv : Value) (b i : Nat) (ps : List Rw) : Prop where
  row : RRow wr w.heap.size fv ps
  part : ∀ p, p ∈ ps → PartR g off c R p
  bi : b ≤ i
  le : i ≤ n
  num : ps.length ≤ b
  tot : ∀ x, (ents R)[i]? = some x → entR ps ++ cutG t (segE (ents R) b (i + 1)) ((ents R).drop (i + 1)) = cutE t (ents R)
  fin : i = n → b = n ∧ entR ps = cutE t (ents R)
  turn : Turns (fun _ => False) w wr
theorem cut_append2 (w wc : World) (fa : Option Addr) (fc g off c b i : Nat) (R : List Tow) (ps : List Rw) (h : RRow wc w.heap.size (.slice fa ps.length fc) ps) (t : Turns (fun _ => False) w wc) (hp : ps.length ≤ 1000000) (hi : i ≤ R.length) :
    ∃ (g' n' c' : Nat) (w2 : World), (∀ ty, (Builtin.append_ #[22, 22] ty #[.slice fa ps.length fc, .slice (some ⟨wc.heap.size, 0, none⟩) 1 1]).run Try.prog (wc.alloc (.cells #[.slice (some ⟨g, off + b * 4, none⟩) (i - b) (c - b)] 31)) = .ok (.slice (some ⟨g', 0, none⟩) n' c') w2) ∧ RRow w2 w.heap.size (.slice (some ⟨g', 0, none⟩) n' c') (ps ++ [⟨some ⟨g, off + b * 4, none⟩, c - b, segE R b i⟩]) ∧ Turns (fun _ => False) w w2 := by
  have tA := (Turns.refl (fun _ => False) wc).alloc (.cells #[.slice (some ⟨g, off + b * 4, none⟩) (i - b) (c - b)] 31)
  obtain ⟨g', n', c', w2, hr, hrow, t4, b4, _⟩ := append_rw (wc.alloc (.cells #[.slice (some ⟨g, off + b * 4, none⟩) (i - b) (c - b)] 31)) w.heap.size (.slice fa ps.length fc) ps (h.keep tA (fun _ _ x => x)) (t.trans tA).size (by omega) ⟨some ⟨g, off + b * 4, none⟩, c - b, segE R b i⟩ wc.heap.size 1 (by
    have e := heap_alloc_new wc (.cells #[.slice (some ⟨g, off + b * 4, none⟩) (i - b) (c - b)] 31)
    unfold Rw.v
    rw [segE_length R b i hi]
    exact e)
  exact ⟨g', n', c', w2, hr, hrow, Turns.of_below (((t.trans tA).below (Nat.le_refl _) (fun _ x => x.elim)).trans b4) _⟩
theorem tgt_false1 {t : Int} (h : t < 1) : tgt t = false := by unfold tgt; have : ¬ 1 ≤ t := by omega
                                                               simp [this]
theorem tgt_false2 {t : Int} (h : 16777216 < t) : tgt t = false := by unfold tgt; have : ¬ t ≤ 16777216 := by omega
                                                                      simp [this]
theorem tgt_true {t : Int} (h1 : ¬ t < 1) (h2 : ¬ 16777216 < t) : tgt t = true := by
  unfold tgt
  have h3 : 1 ≤ t := by omega
  have h4 : t ≤ 16777216 := by omega
  simp [h3, h4]
/-- What the document's Cut answers. -/
def CutOkR (w w' : World) (ok : Bool) (es : List (List Ent)) (e : Ending) : Prop := (ok = false ∧ e = .returned (.tuple #[.slice none 0 0, .int .i64 2])) ∨ (ok = true ∧ ∃ v, e = .returned (.tuple #[v, .int .i64 0]) ∧ Files w' w.heap.size es v)
theorem rCut_any (a : Option Addr) (n c : Nat) (t : Int) (l : List Tow) (w : World) (h : Ents w a l) (hn : n = l.length) (hc : n ≤ c) (hmx : n ≤ 1000000) (hkb : ∀ x, x ∈ l → x.e.key.length ≤ 1000000) (hs : sizeEs (ents l) ≤ 1000000000000) :
    Calls Try.prog 17 #[.slice a n c, .int .i64 t] w fun e w' => CutOkR w w' (inOrd (ents l) && tgt t) (cutE t (ents l)) e ∧ Turns (fun _ => False) w w' := by
  have CK := hide (rCheck_any a n c l w h hn hmx hkb)
  have H := hide h
  have HN := hide hn
  have HKB := hide hkb
  have HS := hide (fun b i => Nat.le_trans (sizeEs_seg (ents l) b i) hs)
  obtain ⟨o1, ho1⟩ : ∃ o, inOrd (ents l) = o := ⟨_, rfl⟩
  rw [ho1] at CK ⊢
  clear h hn ho1 hkb hs
  go_enter Try.func17, Try.ntmps17
  go_wp2_with fail
  refine CK.out.mono ?_
  rintro e w1 ⟨rfl, hb⟩
  have T1 := hide (Turns.of_below hb (fun _ => False))
  clear hb CK
  cases o1
  · rw [show ordE false = 2 from rfl]
    go_wp2_with fail
    go_ret2
    exact ⟨.inl ⟨rfl, rfl⟩, T1.out⟩
  rw [show ordE true = 0 from rfl]
  by_cases h1 : t < 1
  · have HF := hide (tgt_false1 h1)
    have d1 : decide (t < 1) = true := decide_eq_true h1
    go_wp2_with fail
    go_ret2
    exact ⟨.inl ⟨by rw [HF.out]; rfl, rfl⟩, T1.out⟩
  by_cases h2 : 16777216 < t
  · have HF := hide (tgt_false2 h2)
    go_wp2_with fail
    go_ret2
    exact ⟨.inl ⟨by rw [HF.out]; rfl, rfl⟩, T1.out⟩
  have HF := hide (tgt_true h1 h2)
  have ht1 : 1 ≤ t := by omega
  by_cases hn0 : n = 0
  · subst hn0
    have hl0 : l = [] := List.eq_nil_of_length_eq_zero HN.out.symm
    have HE := hide (show cutE t (ents l) = [] by rw [hl0]; rfl)
    clear hl0
    go_wp2_with fail
    go_loopw [6, 7, 8] (fun fv bv iv wr => fv = .slice none 0 0 ∧ iv = .int .i64 0 ∧ Turns (fun _ => False) w wr) (fun _ _ _ _ => 0)
    case atStart => exact ⟨rfl, rfl, T1.out⟩
    case round =>
      obtain ⟨rfl, rfl, hb⟩ := hrel
      have HB := hide hb
      clear hb
      go_wp2_with fail
      go_ret2
      exact ⟨.inr ⟨by rw [HF.out]; rfl, _, rfl, [], .inl ⟨rfl, rfl⟩, fun p hp => (by cases hp), HE.out.symm, by simp⟩, HB.out⟩
  obtain ⟨x0, hx0⟩ : ∃ x, l[0]? = some x := ⟨_, List.getElem?_eq_getElem (by have := HN.out; omega)⟩
  obtain ⟨g, off, ha, _, _, _⟩ := ents_at2 H.out hx0
  subst ha
  have C0 := hide (show CutR w w1 g off c n t l (.slice none 0 0) 0 0 [] from ⟨.inl ⟨rfl, rfl⟩, fun p hp => (by cases hp), Nat.le_refl _, Nat.zero_le _, Nat.zero_le _, fun x hx => by
    have e1 : (ents l) = x :: (ents l).drop (0 + 1) := by
      have := drop_cons hx
      rwa [List.drop_zero] at this
    have e2 : segE (ents l) 0 (0 + 1) = [x] := by rw [segE_succ hx (Nat.le_refl _), segE_self]; rfl
    rw [e2]
    conv => rhs; rw [e1]
    rw [cutE_cons]
    rfl, fun e => by omega, T1.out⟩)
  clear hx0
  go_wp2_with fail
  go_loopw [6, 7, 8] (fun fv bv iv wr => ∃ (b i : Nat) (ps : List Rw), bv = .int .i64 (b : Nat) ∧ iv = .int .i64 (i : Nat) ∧ CutR w wr g off c n t l fv b i ps) (fun _ _ iv _ => n - (intOf iv).toNat)
  case atStart => exact ⟨0, 0, [], rfl, rfl, C0.out⟩
  case round =>
    obtain ⟨b, i, ps, rfl, rfl, ho⟩ := hrel
    have HO := hide ho
    have hle := ho.le
    have hbi := ho.bi
    have hnum := ho.num
    obtain ⟨fa, fc, rfl⟩ := ho.row.len
    clear ho C0
    by_cases hin : i < n
    · obtain ⟨x, hx⟩ : ∃ x, l[i]? = some x := ⟨_, List.getElem?_eq_getElem (by have := HN.out; omega)⟩
      have HW := hide (H.out.quiet HO.out.turn)
      obtain ⟨b', off', e', hc4, hkx, _⟩ := ents_at2 HW.out hx
      cases e'
      have HX := hide hx
      have HBX := hide hkx
      have HC := hide hc4
      have j1 : (i : Int) < n := by omega
      have j0 : (0 : Int) ≤ i := by omega
      have HTOT := hide (HO.out.tot _ (ents_get hx))
      have HSL := hide (segE_last (ents_get hx) hbi)
      have k0 : (0 : Int) ≤ (b : Int) := by omega
      have k1 : (b : Int) ≤ (i : Int) + 1 := by omega
      have k2 : (i : Int) + 1 ≤ c := by omega
      have RS := hide (fun (u : World) (tt : Turns (fun _ => False) wr u) => rsize26 (some ⟨g, off + b * 4, none⟩) (i + 1 - b) (c - b) (segE l b (i + 1)) u ((HW.out.quiet tt).seg b (i + 1)) (by rw [segE_length _ _ _ (by have := HN.out; omega)]) (by omega) (by
        have e : ents (segE l b (i + 1)) = segE (ents l) b (i + 1) := by unfold ents; rw [segE_map]
        rw [e]
        exact HS.out b (i + 1)))
      have e9 : ents (segE l b (i + 1)) = segE (ents l) b (i + 1) := by unfold ents; rw [segE_map]
      rw [e9] at RS
      have hsz := HS.out b (i + 1)
      clear hx hkx hc4 e9
      go_upto_region 8 with (fail)
      go_cut [53] from 20 to 63 (fun v53 wd => ∃ q : Bool, v53 = .bool q ∧ Turns (fun _ => False) wr wd ∧ (q = true → i + 1 = n ∨ ∃ y, l[i + 1]? = some y ∧ (decide (t ≤ (sizeEs (segE (ents l) b (i + 1)) : Int)) && diffL (segE (ents l) b (i + 1)) y.e) = true) ∧ (q = false → ∃ y, l[i + 1]? = some y ∧ (decide (t ≤ (sizeEs (segE (ents l) b (i + 1)) : Int)) && diffL (segE (ents l) b (i + 1)) y.e) = false))
      case first =>
        rename_i kk rest jj kk' m1 m2
        clear rest
        by_cases hl : i + 1 = n
        · have d1 : (i : Int) + 1 = (n : Int) := by omega
          have d0 : decide ((i : Int) + 1 = (n : Int)) = true := decide_eq_true d1
          have e0 : (((i : Int) + 1) == (n : Int)) = true := by simpa using d1
          have HL := hide hl
          clear hl
          go_quiet (fail)
          go_wp2_with fail
          go_meet
          exact ⟨true, rfl, (Turns.refl _ _).drewN _, fun _ => .inl HL.out, fun e => (by cases e)⟩
        · obtain ⟨y, hy⟩ : ∃ y, l[i + 1]? = some y := ⟨_, List.getElem?_eq_getElem (by have := HN.out; omega)⟩
          have d1 : ¬ (i : Int) + 1 = (n : Int) := by omega
          have E0 := hide d1
          obtain ⟨b', off', e', hcy, hky, hvy⟩ := ents_at2 HW.out hy
          cases e'
          have SC := hide (fun (u : World) (tt : Turns (fun _ => False) wr u) => rsame41 x y u (HBX.out.quiet tt) (hky.quiet tt) (HKB.out x (List.mem_of_getElem? HX.out)) (HKB.out y (List.mem_of_getElem? hy)))
          have HCY := hide hcy
          have HY := hide hy
          have i1 : (i : Int) + 1 < n := by omega
          have i0 : (0 : Int) ≤ (i : Int) + 1 := by omega
          have hcb : ¬ c = b := by omega
          have hcb2 : ¬ (c : Int) = b := by omega
          have HDF := hide (show diffL (segE (ents l) b (i + 1)) y.e = !decide (x.e.key = y.e.key) by
            unfold diffL
            rw [HSL.out])
          clear hy hcy hky hvy d1 hl
          obtain ⟨sz, hsz2⟩ : ∃ sz, sizeEs (segE (ents l) b (i + 1)) = sz := ⟨_, rfl⟩
          rw [hsz2] at RS hsz
          have HSZ := hide hsz2
          clear hsz2
          obtain ⟨sk, hsk⟩ : ∃ sk : Bool, decide (x.e.key = y.e.key) = sk := ⟨_, rfl⟩
          rw [hsk] at SC HDF
          clear hsk
          obtain ⟨ka, kc, va, vc, ⟨key, sq, kd, val⟩⟩ := x
          obtain ⟨ka2, kc2, va2, vc2, ⟨key2, sq2, kd2, val2⟩⟩ := y
          unfold Tow.ent Tow.kv Tow.vv at *
          simp only at *
          generalize key.length = L1 at *
          generalize key2.length = L3 at *
          generalize val.length = L2 at *
          generalize val2.length = L4 at *
          have tV : Turns (fun _ => False) wr wr.drew := (Turns.refl _ _).drew
          have SK := hide (fun (u : World) (t : Turns (fun _ => False) wr u) => show (u.cell? ⟨g, off + i * 4, none⟩ = some (.slice ka L1 kc) ∧ u.cell? ⟨g, off + i * 4 + 1, none⟩ = some (.int .u64 (sq : Nat)) ∧ u.cell? ⟨g, off + i * 4 + 2, none⟩ = some (.int .i64 kd) ∧ u.cell? ⟨g, off + i * 4 + 3, none⟩ = some (.slice va L2 vc)) ∧ u.cell? ⟨g, off + (i + 1) * 4, none⟩ = some (.slice ka2 L3 kc2) ∧ u.cell? ⟨g, off + (i + 1) * 4 + 1, none⟩ = some (.int .u64 (sq2 : Nat)) ∧ u.cell? ⟨g, off + (i + 1) * 4 + 2, none⟩ = some (.int .i64 kd2) ∧ u.cell? ⟨g, off + (i + 1) * 4 + 3, none⟩ = some (.slice va2 L4 vc2) from ⟨⟨t.cell HC.out.1 (fun x => x), t.cell HC.out.2.1 (fun x => x), t.cell HC.out.2.2.1 (fun x => x), t.cell HC.out.2.2.2 (fun x => x)⟩, t.cell HCY.out.1 (fun x => x), t.cell HCY.out.2.1 (fun x => x), t.cell HCY.out.2.2.1 (fun x => x), t.cell HCY.out.2.2.2 (fun x => x)⟩)
          by_cases hst : t ≤ (sz : Int)
          · have E1 := hide hst
            have HCD := hide (show (decide (t ≤ (sizeEs (segE (ents l) b (i + 1)) : Int)) && diffL (segE (ents l) b (i + 1)) ⟨key2, sq2, kd2, val2⟩) = !sk by rw [HSZ.out, decide_eq_true E1.out, HDF.out]; rfl)
            clear hst
            refine wp_region_held_drew (S := fun u => (u.cell? ⟨g, off + i * 4, none⟩ = some (.slice ka L1 kc) ∧ u.cell? ⟨g, off + i * 4 + 1, none⟩ = some (.int .u64 (sq : Nat)) ∧ u.cell? ⟨g, off + i * 4 + 2, none⟩ = some (.int .i64 kd) ∧ u.cell? ⟨g, off + i * 4 + 3, none⟩ = some (.slice va L2 vc)) ∧ u.cell? ⟨g, off + (i + 1) * 4, none⟩ = some (.slice ka2 L3 kc2) ∧ u.cell? ⟨g, off + (i + 1) * 4 + 1, none⟩ = some (.int .u64 (sq2 : Nat)) ∧ u.cell? ⟨g, off + (i + 1) * 4 + 2, none⟩ = some (.int .i64 kd2) ∧ u.cell? ⟨g, off + (i + 1) * 4 + 3, none⟩ = some (.slice va2 L4 vc2)) (by kernel_rfl) (SK.out _ tV) (fun _ => ?_)
            change wpAnyH _ _ _ _ _ 28 (Array.replicate 28 false) _ _
            refine wpAnyH_take (i := 0) (oi := { dst := some 26, op := Op.move (Operand.tmp 8), type := 3, pos := "ref.go:69", after := #[], guard := none }) (v := .int .i64 (i : Nat)) rfl (by kernel_rfl) (by kernel_rfl) (by kernel_rfl) (fun _ _ _ h => h) (Or.inl ⟨by rfl, ?_⟩) (SK.out _ tV) ?_
            · rintro w ⟨⟨s0, s1, s2, s3⟩, s4, s5, s6, s7⟩
              go_simp
            simp only [Act.put, List.setIfInBounds_toArray, List.set_cons_zero, List.set_cons_succ]
            refine wpAnyH_take (i := 1) (oi := { dst := some 27, op := Op.binOp BinOp.add 3 (Operand.tmp 26) (Operand.const (Value.int IntKind.i64 1)) 3, type := 3, pos := "ref.go:69", after := #[{ on := 0, ground := Ground.data }], guard := none }) (v := .int .i64 ((i : Int) + 1)) rfl (by kernel_rfl) (by kernel_rfl) (by kernel_rfl) (fun _ _ _ h => h) (Or.inl ⟨by rfl, ?_⟩) (SK.out _ tV) ?_
            · rintro w ⟨⟨s0, s1, s2, s3⟩, s4, s5, s6, s7⟩
              go_simp; exact wrapI _ (by omega) (by omega)
            simp only [Act.put, List.setIfInBounds_toArray, List.set_cons_zero, List.set_cons_succ]
            refine wpAnyH_take (i := 2) (oi := { dst := some 28, op := Op.move (Operand.tmp 0), type := 31, pos := "ref.go:69", after := #[], guard := none }) (v := .slice (some ⟨g, off, none⟩) n c) rfl (by kernel_rfl) (by kernel_rfl) (by kernel_rfl) (fun _ _ _ h => h) (Or.inl ⟨by rfl, ?_⟩) (SK.out _ tV) ?_
            · rintro w ⟨⟨s0, s1, s2, s3⟩, s4, s5, s6, s7⟩
              go_simp
            simp only [Act.put, List.setIfInBounds_toArray, List.set_cons_zero, List.set_cons_succ]
            refine wpAnyH_take (i := 3) (oi := { dst := some 29, op := Op.call { callee := Callee.builtin Builtin.len, args := #[Operand.tmp 28], argTypes := #[31] }, type := 3, pos := "ref.go:69", after := #[{ on := 2, ground := Ground.data }], guard := none }) (v := .int .i64 (n : Nat)) rfl (by kernel_rfl) (by kernel_rfl) (by kernel_rfl) (fun _ _ _ h => h) (Or.inl ⟨by rfl, ?_⟩) (SK.out _ tV) ?_
            · rintro w ⟨⟨s0, s1, s2, s3⟩, s4, s5, s6, s7⟩
              go_simp
            simp only [Act.put, List.setIfInBounds_toArray, List.set_cons_zero, List.set_cons_succ]
            refine wpAnyH_take (i := 4) (oi := { dst := some 30, op := Op.binOp BinOp.eql 3 (Operand.tmp 27) (Operand.tmp 29) 3, type := 4, pos := "ref.go:69", after := #[{ on := 1, ground := Ground.data }, { on := 3, ground := Ground.data }], guard := none }) (v := .bool false) rfl (by kernel_rfl) (by kernel_rfl) (by kernel_rfl) (fun _ _ _ h => h) (Or.inl ⟨by rfl, ?_⟩) (SK.out _ tV) ?_
            · rintro w ⟨⟨s0, s1, s2, s3⟩, s4, s5, s6, s7⟩
              go_simp; exact E0.out
            simp only [Act.put, List.setIfInBounds_toArray, List.set_cons_zero, List.set_cons_succ]
            refine wpAnyH_take (i := 5) (oi := { dst := some 31, op := Op.move (Operand.tmp 30), type := 4, pos := "ref.go:69", after := #[{ on := 4, ground := Ground.data }], guard := none }) (v := .bool false) rfl (by kernel_rfl) (by kernel_rfl) (by kernel_rfl) (fun _ _ _ h => h) (Or.inl ⟨by rfl, ?_⟩) (SK.out _ tV) ?_
            · rintro w ⟨⟨s0, s1, s2, s3⟩, s4, s5, s6, s7⟩
              go_simp
            simp only [Act.put, List.setIfInBounds_toArray, List.set_cons_zero, List.set_cons_succ]
            refine wpAnyH_take (i := 6) (oi := { dst := some 32, op := Op.move (Operand.tmp 0), type := 31, pos := "ref.go:69", after := #[{ on := 5, ground := Ground.guard }], guard := some (5, false) }) (v := .slice (some ⟨g, off, none⟩) n c) rfl (by kernel_rfl) (by kernel_rfl) (by kernel_rfl) (fun _ _ _ h => h) (Or.inl ⟨by rfl, ?_⟩) (SK.out _ tV) ?_
            · rintro w ⟨⟨s0, s1, s2, s3⟩, s4, s5, s6, s7⟩
              go_simp
            simp only [Act.put, List.setIfInBounds_toArray, List.set_cons_zero, List.set_cons_succ]
            refine wpAnyH_take (i := 7) (oi := { dst := some 33, op := Op.move (Operand.tmp 7), type := 3, pos := "ref.go:69", after := #[{ on := 5, ground := Ground.guard }], guard := some (5, false) }) (v := .int .i64 (b : Nat)) rfl (by kernel_rfl) (by kernel_rfl) (by kernel_rfl) (fun _ _ _ h => h) (Or.inl ⟨by rfl, ?_⟩) (SK.out _ tV) ?_
            · rintro w ⟨⟨s0, s1, s2, s3⟩, s4, s5, s6, s7⟩
              go_simp
            simp only [Act.put, List.setIfInBounds_toArray, List.set_cons_zero, List.set_cons_succ]
            refine wpAnyH_take (i := 8) (oi := { dst := some 34, op := Op.move (Operand.tmp 8), type := 3, pos := "ref.go:69", after := #[{ on := 5, ground := Ground.guard }], guard := some (5, false) }) (v := .int .i64 (i : Nat)) rfl (by kernel_rfl) (by kernel_rfl) (by kernel_rfl) (fun _ _ _ h => h) (Or.inl ⟨by rfl, ?_⟩) (SK.out _ tV) ?_
            · rintro w ⟨⟨s0, s1, s2, s3⟩, s4, s5, s6, s7⟩
              go_simp
            simp only [Act.put, List.setIfInBounds_toArray, List.set_cons_zero, List.set_cons_succ]
            refine wpAnyH_take (i := 9) (oi := { dst := some 35, op := Op.binOp BinOp.add 3 (Operand.tmp 34) (Operand.const (Value.int IntKind.i64 1)) 3, type := 3, pos := "ref.go:69", after := #[{ on := 8, ground := Ground.data }, { on := 5, ground := Ground.guard }], guard := some (5, false) }) (v := .int .i64 ((i : Int) + 1)) rfl (by kernel_rfl) (by kernel_rfl) (by kernel_rfl) (fun _ _ _ h => h) (Or.inl ⟨by rfl, ?_⟩) (SK.out _ tV) ?_
            · rintro w ⟨⟨s0, s1, s2, s3⟩, s4, s5, s6, s7⟩
              go_simp; exact wrapI _ (by omega) (by omega)
            simp only [Act.put, List.setIfInBounds_toArray, List.set_cons_zero, List.set_cons_succ]
            refine wpAnyH_take (i := 10) (oi := { dst := some 36, op := Op.slice 31 (Operand.tmp 32) (some (Operand.tmp 33)) (some (Operand.tmp 35)) none, type := 31, pos := "ref.go:69", after := #[{ on := 6, ground := Ground.data }, { on := 7, ground := Ground.data }, { on := 9, ground := Ground.data }, { on := 5, ground := Ground.guard }], guard := some (5, false) }) (v := .slice (some ⟨g, off + b * 4, none⟩) (i + 1 - b) (c - b)) rfl (by kernel_rfl) (by kernel_rfl) (by kernel_rfl) (fun _ _ _ h => h) (Or.inl ⟨by rfl, ?_⟩) (SK.out _ tV) ?_
            · rintro w ⟨⟨s0, s1, s2, s3⟩, s4, s5, s6, s7⟩
              go_simp
            simp only [Act.put, List.setIfInBounds_toArray, List.set_cons_zero, List.set_cons_succ]
            refine wpAnyH_take (i := 12) (oi := { dst := some 38, op := Op.move (Operand.tmp 1), type := 3, pos := "ref.go:69", after := #[{ on := 5, ground := Ground.guard }], guard := some (5, false) }) (v := .int .i64 t) rfl (by kernel_rfl) (by kernel_rfl) (by kernel_rfl) (fun _ _ _ h => h) (Or.inl ⟨by rfl, ?_⟩) (SK.out _ tV) ?_
            · rintro w ⟨⟨s0, s1, s2, s3⟩, s4, s5, s6, s7⟩
              go_simp
            simp only [Act.put, List.setIfInBounds_toArray, List.set_cons_zero, List.set_cons_succ]
            refine wpAnyH_ready (rs := [11]) (by kernel_rfl) (by simp) ?_
            refine AllReadyH.cons rfl (fun K hK => ?_) AllReadyH.nil
            go_simp
            refine (RS.out _ tV).mono ?_
            rintro oo Vn ⟨rfl, tC⟩
            have tN := tC
            have tV := tV.trans tN
            clear tC
            clear tN
            go_simp
            refine hK.out _ _ (SK.out _ tV) (fun _ => ?_)
            clear hK K
            refine wpAnyH_take (i := 13) (oi := { dst := some 39, op := Op.binOp BinOp.geq 3 (Operand.tmp 37) (Operand.tmp 38) 3, type := 4, pos := "ref.go:69", after := #[{ on := 11, ground := Ground.data }, { on := 12, ground := Ground.data }, { on := 5, ground := Ground.guard }], guard := some (5, false) }) (v := .bool true) rfl (by kernel_rfl) (by kernel_rfl) (by kernel_rfl) (fun _ _ _ h => h) (Or.inl ⟨by rfl, ?_⟩) (SK.out _ tV) ?_
            · rintro w ⟨⟨s0, s1, s2, s3⟩, s4, s5, s6, s7⟩
              go_simp; exact E1.out
            simp only [Act.put, List.setIfInBounds_toArray, List.set_cons_zero, List.set_cons_succ]
            refine wpAnyH_take (i := 14) (oi := { dst := some 40, op := Op.move (Operand.tmp 39), type := 4, pos := "ref.go:69", after := #[{ on := 13, ground := Ground.data }, { on := 11, ground := Ground.chain }, { on := 5, ground := Ground.guard }], guard := some (5, false) }) (v := .bool true) rfl (by kernel_rfl) (by kernel_rfl) (by kernel_rfl) (fun _ _ _ h => h) (Or.inl ⟨by rfl, ?_⟩) (SK.out _ tV) ?_
            · rintro w ⟨⟨s0, s1, s2, s3⟩, s4, s5, s6, s7⟩
              go_simp
            simp only [Act.put, List.setIfInBounds_toArray, List.set_cons_zero, List.set_cons_succ]
            refine wpAnyH_take (i := 15) (oi := { dst := some 41, op := Op.move (Operand.tmp 0), type := 31, pos := "ref.go:69", after := #[{ on := 14, ground := Ground.guard }], guard := some (14, true) }) (v := .slice (some ⟨g, off, none⟩) n c) rfl (by kernel_rfl) (by kernel_rfl) (by kernel_rfl) (fun _ _ _ h => h) (Or.inl ⟨by rfl, ?_⟩) (SK.out _ tV) ?_
            · rintro w ⟨⟨s0, s1, s2, s3⟩, s4, s5, s6, s7⟩
              go_simp
            simp only [Act.put, List.setIfInBounds_toArray, List.set_cons_zero, List.set_cons_succ]
            refine wpAnyH_take (i := 16) (oi := { dst := some 42, op := Op.move (Operand.tmp 8), type := 3, pos := "ref.go:69", after := #[{ on := 14, ground := Ground.guard }], guard := some (14, true) }) (v := .int .i64 (i : Nat)) rfl (by kernel_rfl) (by kernel_rfl) (by kernel_rfl) (fun _ _ _ h => h) (Or.inl ⟨by rfl, ?_⟩) (SK.out _ tV) ?_
            · rintro w ⟨⟨s0, s1, s2, s3⟩, s4, s5, s6, s7⟩
              go_simp
            simp only [Act.put, List.setIfInBounds_toArray, List.set_cons_zero, List.set_cons_succ]
            refine wpAnyH_take (i := 17) (oi := { dst := some 43, op := Op.indexAddr 31 (Operand.tmp 41) (Operand.tmp 42), type := 0, pos := "ref.go:69", after := #[{ on := 15, ground := Ground.data }, { on := 16, ground := Ground.data }, { on := 14, ground := Ground.guard }], guard := some (14, true) }) (v := .pointer (some ⟨g, off + i * 4, none⟩)) rfl (by kernel_rfl) (by kernel_rfl) (by kernel_rfl) (fun _ _ _ h => h) (Or.inl ⟨by rfl, ?_⟩) (SK.out _ tV) ?_
            · rintro w ⟨⟨s0, s1, s2, s3⟩, s4, s5, s6, s7⟩
              go_simp
            simp only [Act.put, List.setIfInBounds_toArray, List.set_cons_zero, List.set_cons_succ]
            refine wpAnyH_take (i := 18) (oi := { dst := some 44, op := Op.load 29 (Operand.tmp 43), type := 29, pos := "ref.go:69", after := #[{ on := 17, ground := Ground.data }, { on := 14, ground := Ground.guard }], guard := some (14, true) }) (v := .agg #[.slice ka L1 kc, .int .u64 (sq : Nat), .int .i64 kd, .slice va L2 vc]) rfl (by kernel_rfl) (by kernel_rfl) (by kernel_rfl) (fun _ _ _ h => h) (Or.inl ⟨by rfl, ?_⟩) (SK.out _ tV) ?_
            · rintro w ⟨⟨s0, s1, s2, s3⟩, s4, s5, s6, s7⟩
              go_simp
            simp only [Act.put, List.setIfInBounds_toArray, List.set_cons_zero, List.set_cons_succ]
            refine wpAnyH_take (i := 19) (oi := { dst := some 45, op := Op.move (Operand.tmp 0), type := 31, pos := "ref.go:69", after := #[{ on := 14, ground := Ground.guard }], guard := some (14, true) }) (v := .slice (some ⟨g, off, none⟩) n c) rfl (by kernel_rfl) (by kernel_rfl) (by kernel_rfl) (fun _ _ _ h => h) (Or.inl ⟨by rfl, ?_⟩) (SK.out _ tV) ?_
            · rintro w ⟨⟨s0, s1, s2, s3⟩, s4, s5, s6, s7⟩
              go_simp
            simp only [Act.put, List.setIfInBounds_toArray, List.set_cons_zero, List.set_cons_succ]
            refine wpAnyH_take (i := 20) (oi := { dst := some 46, op := Op.move (Operand.tmp 8), type := 3, pos := "ref.go:69", after := #[{ on := 14, ground := Ground.guard }], guard := some (14, true) }) (v := .int .i64 (i : Nat)) rfl (by kernel_rfl) (by kernel_rfl) (by kernel_rfl) (fun _ _ _ h => h) (Or.inl ⟨by rfl, ?_⟩) (SK.out _ tV) ?_
            · rintro w ⟨⟨s0, s1, s2, s3⟩, s4, s5, s6, s7⟩
              go_simp
            simp only [Act.put, List.setIfInBounds_toArray, List.set_cons_zero, List.set_cons_succ]
            refine wpAnyH_take (i := 21) (oi := { dst := some 47, op := Op.binOp BinOp.add 3 (Operand.tmp 46) (Operand.const (Value.int IntKind.i64 1)) 3, type := 3, pos := "ref.go:69", after := #[{ on := 20, ground := Ground.data }, { on := 14, ground := Ground.guard }], guard := some (14, true) }) (v := .int .i64 ((i : Int) + 1)) rfl (by kernel_rfl) (by kernel_rfl) (by kernel_rfl) (fun _ _ _ h => h) (Or.inl ⟨by rfl, ?_⟩) (SK.out _ tV) ?_
            · rintro w ⟨⟨s0, s1, s2, s3⟩, s4, s5, s6, s7⟩
              go_simp; exact wrapI _ (by omega) (by omega)
            simp only [Act.put, List.setIfInBounds_toArray, List.set_cons_zero, List.set_cons_succ]
            refine wpAnyH_take (i := 22) (oi := { dst := some 48, op := Op.indexAddr 31 (Operand.tmp 45) (Operand.tmp 47), type := 0, pos := "ref.go:69", after := #[{ on := 19, ground := Ground.data }, { on := 21, ground := Ground.data }, { on := 14, ground := Ground.guard }], guard := some (14, true) }) (v := .pointer (some ⟨g, off + (i + 1) * 4, none⟩)) rfl (by kernel_rfl) (by kernel_rfl) (by kernel_rfl) (fun _ _ _ h => h) (Or.inl ⟨by rfl, ?_⟩) (SK.out _ tV) ?_
            · rintro w ⟨⟨s0, s1, s2, s3⟩, s4, s5, s6, s7⟩
              go_simp
            simp only [Act.put, List.setIfInBounds_toArray, List.set_cons_zero, List.set_cons_succ]
            refine wpAnyH_take (i := 23) (oi := { dst := some 49, op := Op.load 29 (Operand.tmp 48), type := 29, pos := "ref.go:69", after := #[{ on := 22, ground := Ground.data }, { on := 14, ground := Ground.guard }], guard := some (14, true) }) (v := .agg #[.slice ka2 L3 kc2, .int .u64 (sq2 : Nat), .int .i64 kd2, .slice va2 L4 vc2]) rfl (by kernel_rfl) (by kernel_rfl) (by kernel_rfl) (fun _ _ _ h => h) (Or.inl ⟨by rfl, ?_⟩) (SK.out _ tV) ?_
            · rintro w ⟨⟨s0, s1, s2, s3⟩, s4, s5, s6, s7⟩
              go_simp
            simp only [Act.put, List.setIfInBounds_toArray, List.set_cons_zero, List.set_cons_succ]
            refine wpAnyH_ready (rs := [24]) (by kernel_rfl) (by simp) ?_
            refine AllReadyH.cons rfl (fun K hK => ?_) AllReadyH.nil
            go_simp
            refine (SC.out _ tV).mono ?_
            rintro oo Vn ⟨rfl, tC⟩
            have tN := tC
            have tV := tV.trans tN
            clear tC
            clear tN
            go_simp
            refine hK.out _ _ (SK.out _ tV) (fun _ => ?_)
            clear hK K
            refine wpAnyH_take (i := 25) (oi := { dst := some 51, op := Op.unOp UnOp.not 4 (Operand.tmp 50), type := 4, pos := "ref.go:69", after := #[{ on := 24, ground := Ground.data }, { on := 14, ground := Ground.guard }], guard := some (14, true) }) (v := .bool (!sk)) rfl (by kernel_rfl) (by kernel_rfl) (by kernel_rfl) (fun _ _ _ h => h) (Or.inl ⟨by rfl, ?_⟩) (SK.out _ tV) ?_
            · rintro w ⟨⟨s0, s1, s2, s3⟩, s4, s5, s6, s7⟩
              go_simp
            simp only [Act.put, List.setIfInBounds_toArray, List.set_cons_zero, List.set_cons_succ]
            refine wpAnyH_take (i := 26) (oi := { dst := some 52, op := Op.pick (Operand.tmp 40) (Operand.tmp 51) (Operand.const (Value.bool false)), type := 4, pos := "ref.go:69", after := #[{ on := 14, ground := Ground.data }, { on := 25, ground := Ground.data }, { on := 5, ground := Ground.guard }], guard := some (5, false) }) (v := .bool (!sk)) rfl (by kernel_rfl) (by kernel_rfl) (by kernel_rfl) (fun _ _ _ h => h) (Or.inl ⟨by rfl, ?_⟩) (SK.out _ tV) ?_
            · rintro w ⟨⟨s0, s1, s2, s3⟩, s4, s5, s6, s7⟩
              go_simp
            simp only [Act.put, List.setIfInBounds_toArray, List.set_cons_zero, List.set_cons_succ]
            refine wpAnyH_take (i := 27) (oi := { dst := some 53, op := Op.pick (Operand.tmp 31) (Operand.const (Value.bool true)) (Operand.tmp 52), type := 4, pos := "ref.go:69", after := #[{ on := 5, ground := Ground.data }, { on := 26, ground := Ground.data }], guard := none }) (v := .bool (!sk)) rfl (by kernel_rfl) (by kernel_rfl) (by kernel_rfl) (fun _ _ _ h => h) (Or.inl ⟨by rfl, ?_⟩) (SK.out _ tV) ?_
            · rintro w ⟨⟨s0, s1, s2, s3⟩, s4, s5, s6, s7⟩
              go_simp
            simp only [Act.put, List.setIfInBounds_toArray, List.set_cons_zero, List.set_cons_succ]
            refine wpAnyH_done (by kernel_rfl) ?_ _
            have TU := hide tV
            clear tV
            go_wp2_with fail
            go_meet
            refine ⟨_, rfl, TU.out, fun e => .inr ⟨_, HY.out, by rw [HCD.out]; exact e⟩, fun e => ⟨_, HY.out, by rw [HCD.out]; exact e⟩⟩
          · have E1 := hide hst
            have HCD := hide (show (decide (t ≤ (sizeEs (segE (ents l) b (i + 1)) : Int)) && diffL (segE (ents l) b (i + 1)) ⟨key2, sq2, kd2, val2⟩) = false by rw [HSZ.out, decide_eq_false E1.out]; rfl)
            clear hst
            refine wp_region_held_drew (S := fun u => (u.cell? ⟨g, off + i * 4, none⟩ = some (.slice ka L1 kc) ∧ u.cell? ⟨g, off + i * 4 + 1, none⟩ = some (.int .u64 (sq : Nat)) ∧ u.cell? ⟨g, off + i * 4 + 2, none⟩ = some (.int .i64 kd) ∧ u.cell? ⟨g, off + i * 4 + 3, none⟩ = some (.slice va L2 vc)) ∧ u.cell? ⟨g, off + (i + 1) * 4, none⟩ = some (.slice ka2 L3 kc2) ∧ u.cell? ⟨g, off + (i + 1) * 4 + 1, none⟩ = some (.int .u64 (sq2 : Nat)) ∧ u.cell? ⟨g, off + (i + 1) * 4 + 2, none⟩ = some (.int .i64 kd2) ∧ u.cell? ⟨g, off + (i + 1) * 4 + 3, none⟩ = some (.slice va2 L4 vc2)) (by kernel_rfl) (SK.out _ tV) (fun _ => ?_)
            change wpAnyH _ _ _ _ _ 28 (Array.replicate 28 false) _ _
            refine wpAnyH_take (i := 0) (oi := { dst := some 26, op := Op.move (Operand.tmp 8), type := 3, pos := "ref.go:69", after := #[], guard := none }) (v := .int .i64 (i : Nat)) rfl (by kernel_rfl) (by kernel_rfl) (by kernel_rfl) (fun _ _ _ h => h) (Or.inl ⟨by rfl, ?_⟩) (SK.out _ tV) ?_
            · rintro w ⟨⟨s0, s1, s2, s3⟩, s4, s5, s6, s7⟩
              go_simp
            simp only [Act.put, List.setIfInBounds_toArray, List.set_cons_zero, List.set_cons_succ]
            refine wpAnyH_take (i := 1) (oi := { dst := some 27, op := Op.binOp BinOp.add 3 (Operand.tmp 26) (Operand.const (Value.int IntKind.i64 1)) 3, type := 3, pos := "ref.go:69", after := #[{ on := 0, ground := Ground.data }], guard := none }) (v := .int .i64 ((i : Int) + 1)) rfl (by kernel_rfl) (by kernel_rfl) (by kernel_rfl) (fun _ _ _ h => h) (Or.inl ⟨by rfl, ?_⟩) (SK.out _ tV) ?_
            · rintro w ⟨⟨s0, s1, s2, s3⟩, s4, s5, s6, s7⟩
              go_simp; exact wrapI _ (by omega) (by omega)
            simp only [Act.put, List.setIfInBounds_toArray, List.set_cons_zero, List.set_cons_succ]
            refine wpAnyH_take (i := 2) (oi := { dst := some 28, op := Op.move (Operand.tmp 0), type := 31, pos := "ref.go:69", after := #[], guard := none }) (v := .slice (some ⟨g, off, none⟩) n c) rfl (by kernel_rfl) (by kernel_rfl) (by kernel_rfl) (fun _ _ _ h => h) (Or.inl ⟨by rfl, ?_⟩) (SK.out _ tV) ?_
            · rintro w ⟨⟨s0, s1, s2, s3⟩, s4, s5, s6, s7⟩
              go_simp
            simp only [Act.put, List.setIfInBounds_toArray, List.set_cons_zero, List.set_cons_succ]
            refine wpAnyH_take (i := 3) (oi := { dst := some 29, op := Op.call { callee := Callee.builtin Builtin.len, args := #[Operand.tmp 28], argTypes := #[31] }, type := 3, pos := "ref.go:69", after := #[{ on := 2, ground := Ground.data }], guard := none }) (v := .int .i64 (n : Nat)) rfl (by kernel_rfl) (by kernel_rfl) (by kernel_rfl) (fun _ _ _ h => h) (Or.inl ⟨by rfl, ?_⟩) (SK.out _ tV) ?_
            · rintro w ⟨⟨s0, s1, s2, s3⟩, s4, s5, s6, s7⟩
              go_simp
            simp only [Act.put, List.setIfInBounds_toArray, List.set_cons_zero, List.set_cons_succ]
            refine wpAnyH_take (i := 4) (oi := { dst := some 30, op := Op.binOp BinOp.eql 3 (Operand.tmp 27) (Operand.tmp 29) 3, type := 4, pos := "ref.go:69", after := #[{ on := 1, ground := Ground.data }, { on := 3, ground := Ground.data }], guard := none }) (v := .bool false) rfl (by kernel_rfl) (by kernel_rfl) (by kernel_rfl) (fun _ _ _ h => h) (Or.inl ⟨by rfl, ?_⟩) (SK.out _ tV) ?_
            · rintro w ⟨⟨s0, s1, s2, s3⟩, s4, s5, s6, s7⟩
              go_simp; exact E0.out
            simp only [Act.put, List.setIfInBounds_toArray, List.set_cons_zero, List.set_cons_succ]
            refine wpAnyH_take (i := 5) (oi := { dst := some 31, op := Op.move (Operand.tmp 30), type := 4, pos := "ref.go:69", after := #[{ on := 4, ground := Ground.data }], guard := none }) (v := .bool false) rfl (by kernel_rfl) (by kernel_rfl) (by kernel_rfl) (fun _ _ _ h => h) (Or.inl ⟨by rfl, ?_⟩) (SK.out _ tV) ?_
            · rintro w ⟨⟨s0, s1, s2, s3⟩, s4, s5, s6, s7⟩
              go_simp
            simp only [Act.put, List.setIfInBounds_toArray, List.set_cons_zero, List.set_cons_succ]
            refine wpAnyH_take (i := 6) (oi := { dst := some 32, op := Op.move (Operand.tmp 0), type := 31, pos := "ref.go:69", after := #[{ on := 5, ground := Ground.guard }], guard := some (5, false) }) (v := .slice (some ⟨g, off, none⟩) n c) rfl (by kernel_rfl) (by kernel_rfl) (by kernel_rfl) (fun _ _ _ h => h) (Or.inl ⟨by rfl, ?_⟩) (SK.out _ tV) ?_
            · rintro w ⟨⟨s0, s1, s2, s3⟩, s4, s5, s6, s7⟩
              go_simp
            simp only [Act.put, List.setIfInBounds_toArray, List.set_cons_zero, List.set_cons_succ]
            refine wpAnyH_take (i := 7) (oi := { dst := some 33, op := Op.move (Operand.tmp 7), type := 3, pos := "ref.go:69", after := #[{ on := 5, ground := Ground.guard }], guard := some (5, false) }) (v := .int .i64 (b : Nat)) rfl (by kernel_rfl) (by kernel_rfl) (by kernel_rfl) (fun _ _ _ h => h) (Or.inl ⟨by rfl, ?_⟩) (SK.out _ tV) ?_
            · rintro w ⟨⟨s0, s1, s2, s3⟩, s4, s5, s6, s7⟩
              go_simp
            simp only [Act.put, List.setIfInBounds_toArray, List.set_cons_zero, List.set_cons_succ]
            refine wpAnyH_take (i := 8) (oi := { dst := some 34, op := Op.move (Operand.tmp 8), type := 3, pos := "ref.go:69", after := #[{ on := 5, ground := Ground.guard }], guard := some (5, false) }) (v := .int .i64 (i : Nat)) rfl (by kernel_rfl) (by kernel_rfl) (by kernel_rfl) (fun _ _ _ h => h) (Or.inl ⟨by rfl, ?_⟩) (SK.out _ tV) ?_
            · rintro w ⟨⟨s0, s1, s2, s3⟩, s4, s5, s6, s7⟩
              go_simp
            simp only [Act.put, List.setIfInBounds_toArray, List.set_cons_zero, List.set_cons_succ]
            refine wpAnyH_take (i := 9) (oi := { dst := some 35, op := Op.binOp BinOp.add 3 (Operand.tmp 34) (Operand.const (Value.int IntKind.i64 1)) 3, type := 3, pos := "ref.go:69", after := #[{ on := 8, ground := Ground.data }, { on := 5, ground := Ground.guard }], guard := some (5, false) }) (v := .int .i64 ((i : Int) + 1)) rfl (by kernel_rfl) (by kernel_rfl) (by kernel_rfl) (fun _ _ _ h => h) (Or.inl ⟨by rfl, ?_⟩) (SK.out _ tV) ?_
            · rintro w ⟨⟨s0, s1, s2, s3⟩, s4, s5, s6, s7⟩
              go_simp; exact wrapI _ (by omega) (by omega)
            simp only [Act.put, List.setIfInBounds_toArray, List.set_cons_zero, List.set_cons_succ]
            refine wpAnyH_take (i := 10) (oi := { dst := some 36, op := Op.slice 31 (Operand.tmp 32) (some (Operand.tmp 33)) (some (Operand.tmp 35)) none, type := 31, pos := "ref.go:69", after := #[{ on := 6, ground := Ground.data }, { on := 7, ground := Ground.data }, { on := 9, ground := Ground.data }, { on := 5, ground := Ground.guard }], guard := some (5, false) }) (v := .slice (some ⟨g, off + b * 4, none⟩) (i + 1 - b) (c - b)) rfl (by kernel_rfl) (by kernel_rfl) (by kernel_rfl) (fun _ _ _ h => h) (Or.inl ⟨by rfl, ?_⟩) (SK.out _ tV) ?_
            · rintro w ⟨⟨s0, s1, s2, s3⟩, s4, s5, s6, s7⟩
              go_simp
            simp only [Act.put, List.setIfInBounds_toArray, List.set_cons_zero, List.set_cons_succ]
            refine wpAnyH_take (i := 12) (oi := { dst := some 38, op := Op.move (Operand.tmp 1), type := 3, pos := "ref.go:69", after := #[{ on := 5, ground := Ground.guard }], guard := some (5, false) }) (v := .int .i64 t) rfl (by kernel_rfl) (by kernel_rfl) (by kernel_rfl) (fun _ _ _ h => h) (Or.inl ⟨by rfl, ?_⟩) (SK.out _ tV) ?_
            · rintro w ⟨⟨s0, s1, s2, s3⟩, s4, s5, s6, s7⟩
              go_simp
            simp only [Act.put, List.setIfInBounds_toArray, List.set_cons_zero, List.set_cons_succ]
            refine wpAnyH_ready (rs := [11]) (by kernel_rfl) (by simp) ?_
            refine AllReadyH.cons rfl (fun K hK => ?_) AllReadyH.nil
            go_simp
            refine (RS.out _ tV).mono ?_
            rintro oo Vn ⟨rfl, tC⟩
            have tN := tC
            have tV := tV.trans tN
            clear tC
            clear tN
            go_simp
            refine hK.out _ _ (SK.out _ tV) (fun _ => ?_)
            clear hK K
            refine wpAnyH_take (i := 13) (oi := { dst := some 39, op := Op.binOp BinOp.geq 3 (Operand.tmp 37) (Operand.tmp 38) 3, type := 4, pos := "ref.go:69", after := #[{ on := 11, ground := Ground.data }, { on := 12, ground := Ground.data }, { on := 5, ground := Ground.guard }], guard := some (5, false) }) (v := .bool false) rfl (by kernel_rfl) (by kernel_rfl) (by kernel_rfl) (fun _ _ _ h => h) (Or.inl ⟨by rfl, ?_⟩) (SK.out _ tV) ?_
            · rintro w ⟨⟨s0, s1, s2, s3⟩, s4, s5, s6, s7⟩
              go_simp; have := E1.out; omega
            simp only [Act.put, List.setIfInBounds_toArray, List.set_cons_zero, List.set_cons_succ]
            refine wpAnyH_take (i := 14) (oi := { dst := some 40, op := Op.move (Operand.tmp 39), type := 4, pos := "ref.go:69", after := #[{ on := 13, ground := Ground.data }, { on := 11, ground := Ground.chain }, { on := 5, ground := Ground.guard }], guard := some (5, false) }) (v := .bool false) rfl (by kernel_rfl) (by kernel_rfl) (by kernel_rfl) (fun _ _ _ h => h) (Or.inl ⟨by rfl, ?_⟩) (SK.out _ tV) ?_
            · rintro w ⟨⟨s0, s1, s2, s3⟩, s4, s5, s6, s7⟩
              go_simp
            simp only [Act.put, List.setIfInBounds_toArray, List.set_cons_zero, List.set_cons_succ]
            refine wpAnyH_take (i := 15) (oi := { dst := some 41, op := Op.move (Operand.tmp 0), type := 31, pos := "ref.go:69", after := #[{ on := 14, ground := Ground.guard }], guard := some (14, true) }) (v := undef) rfl (by kernel_rfl) (by kernel_rfl) (by kernel_rfl) (fun _ _ _ h => h) (Or.inr ⟨by rfl, rfl⟩) (SK.out _ tV) ?_
            simp only [Act.put, List.setIfInBounds_toArray, List.set_cons_zero, List.set_cons_succ]
            refine wpAnyH_take (i := 16) (oi := { dst := some 42, op := Op.move (Operand.tmp 8), type := 3, pos := "ref.go:69", after := #[{ on := 14, ground := Ground.guard }], guard := some (14, true) }) (v := undef) rfl (by kernel_rfl) (by kernel_rfl) (by kernel_rfl) (fun _ _ _ h => h) (Or.inr ⟨by rfl, rfl⟩) (SK.out _ tV) ?_
            simp only [Act.put, List.setIfInBounds_toArray, List.set_cons_zero, List.set_cons_succ]
            refine wpAnyH_take (i := 17) (oi := { dst := some 43, op := Op.indexAddr 31 (Operand.tmp 41) (Operand.tmp 42), type := 0, pos := "ref.go:69", after := #[{ on := 15, ground := Ground.data }, { on := 16, ground := Ground.data }, { on := 14, ground := Ground.guard }], guard := some (14, true) }) (v := undef) rfl (by kernel_rfl) (by kernel_rfl) (by kernel_rfl) (fun _ _ _ h => h) (Or.inr ⟨by rfl, rfl⟩) (SK.out _ tV) ?_
            simp only [Act.put, List.setIfInBounds_toArray, List.set_cons_zero, List.set_cons_succ]
            refine wpAnyH_take (i := 18) (oi := { dst := some 44, op := Op.load 29 (Operand.tmp 43), type := 29, pos := "ref.go:69", after := #[{ on := 17, ground := Ground.data }, { on := 14, ground := Ground.guard }], guard := some (14, true) }) (v := undef) rfl (by kernel_rfl) (by kernel_rfl) (by kernel_rfl) (fun _ _ _ h => h) (Or.inr ⟨by rfl, rfl⟩) (SK.out _ tV) ?_
            simp only [Act.put, List.setIfInBounds_toArray, List.set_cons_zero, List.set_cons_succ]
            refine wpAnyH_take (i := 19) (oi := { dst := some 45, op := Op.move (Operand.tmp 0), type := 31, pos := "ref.go:69", after := #[{ on := 14, ground := Ground.guard }], guard := some (14, true) }) (v := undef) rfl (by kernel_rfl) (by kernel_rfl) (by kernel_rfl) (fun _ _ _ h => h) (Or.inr ⟨by rfl, rfl⟩) (SK.out _ tV) ?_
            simp only [Act.put, List.setIfInBounds_toArray, List.set_cons_zero, List.set_cons_succ]
            refine wpAnyH_take (i := 20) (oi := { dst := some 46, op := Op.move (Operand.tmp 8), type := 3, pos := "ref.go:69", after := #[{ on := 14, ground := Ground.guard }], guard := some (14, true) }) (v := undef) rfl (by kernel_rfl) (by kernel_rfl) (by kernel_rfl) (fun _ _ _ h => h) (Or.inr ⟨by rfl, rfl⟩) (SK.out _ tV) ?_
            simp only [Act.put, List.setIfInBounds_toArray, List.set_cons_zero, List.set_cons_succ]
            refine wpAnyH_take (i := 21) (oi := { dst := some 47, op := Op.binOp BinOp.add 3 (Operand.tmp 46) (Operand.const (Value.int IntKind.i64 1)) 3, type := 3, pos := "ref.go:69", after := #[{ on := 20, ground := Ground.data }, { on := 14, ground := Ground.guard }], guard := some (14, true) }) (v := undef) rfl (by kernel_rfl) (by kernel_rfl) (by kernel_rfl) (fun _ _ _ h => h) (Or.inr ⟨by rfl, rfl⟩) (SK.out _ tV) ?_
            simp only [Act.put, List.setIfInBounds_toArray, List.set_cons_zero, List.set_cons_succ]
            refine wpAnyH_take (i := 22) (oi := { dst := some 48, op := Op.indexAddr 31 (Operand.tmp 45) (Operand.tmp 47), type := 0, pos := "ref.go:69", after := #[{ on := 19, ground := Ground.data }, { on := 21, ground := Ground.data }, { on := 14, ground := Ground.guard }], guard := some (14, true) }) (v := undef) rfl (by kernel_rfl) (by kernel_rfl) (by kernel_rfl) (fun _ _ _ h => h) (Or.inr ⟨by rfl, rfl⟩) (SK.out _ tV) ?_
            simp only [Act.put, List.setIfInBounds_toArray, List.set_cons_zero, List.set_cons_succ]
            refine wpAnyH_take (i := 23) (oi := { dst := some 49, op := Op.load 29 (Operand.tmp 48), type := 29, pos := "ref.go:69", after := #[{ on := 22, ground := Ground.data }, { on := 14, ground := Ground.guard }], guard := some (14, true) }) (v := undef) rfl (by kernel_rfl) (by kernel_rfl) (by kernel_rfl) (fun _ _ _ h => h) (Or.inr ⟨by rfl, rfl⟩) (SK.out _ tV) ?_
            simp only [Act.put, List.setIfInBounds_toArray, List.set_cons_zero, List.set_cons_succ]
            refine wpAnyH_take (i := 24) (oi := { dst := some 50, op := Op.call { callee := Callee.value (Operand.func 41), args := #[Operand.tmp 44, Operand.tmp 49], argTypes := #[29, 29] }, type := 4, pos := "ref.go:69", after := #[{ on := 18, ground := Ground.data }, { on := 23, ground := Ground.data }, { on := 14, ground := Ground.chain }, { on := 14, ground := Ground.guard }], guard := some (14, true) }) (v := undef) rfl (by kernel_rfl) (by kernel_rfl) (by kernel_rfl) (fun _ _ _ h => h) (Or.inr ⟨by rfl, rfl⟩) (SK.out _ tV) ?_
            simp only [Act.put, List.setIfInBounds_toArray, List.set_cons_zero, List.set_cons_succ]
            refine wpAnyH_take (i := 25) (oi := { dst := some 51, op := Op.unOp UnOp.not 4 (Operand.tmp 50), type := 4, pos := "ref.go:69", after := #[{ on := 24, ground := Ground.data }, { on := 14, ground := Ground.guard }], guard := some (14, true) }) (v := undef) rfl (by kernel_rfl) (by kernel_rfl) (by kernel_rfl) (fun _ _ _ h => h) (Or.inr ⟨by rfl, rfl⟩) (SK.out _ tV) ?_
            simp only [Act.put, List.setIfInBounds_toArray, List.set_cons_zero, List.set_cons_succ]
            refine wpAnyH_take (i := 26) (oi := { dst := some 52, op := Op.pick (Operand.tmp 40) (Operand.tmp 51) (Operand.const (Value.bool false)), type := 4, pos := "ref.go:69", after := #[{ on := 14, ground := Ground.data }, { on := 25, ground := Ground.data }, { on := 5, ground := Ground.guard }], guard := some (5, false) }) (v := .bool false) rfl (by kernel_rfl) (by kernel_rfl) (by kernel_rfl) (fun _ _ _ h => h) (Or.inl ⟨by rfl, ?_⟩) (SK.out _ tV) ?_
            · rintro w ⟨⟨s0, s1, s2, s3⟩, s4, s5, s6, s7⟩
              go_simp
            simp only [Act.put, List.setIfInBounds_toArray, List.set_cons_zero, List.set_cons_succ]
            refine wpAnyH_take (i := 27) (oi := { dst := some 53, op := Op.pick (Operand.tmp 31) (Operand.const (Value.bool true)) (Operand.tmp 52), type := 4, pos := "ref.go:69", after := #[{ on := 5, ground := Ground.data }, { on := 26, ground := Ground.data }], guard := none }) (v := .bool false) rfl (by kernel_rfl) (by kernel_rfl) (by kernel_rfl) (fun _ _ _ h => h) (Or.inl ⟨by rfl, ?_⟩) (SK.out _ tV) ?_
            · rintro w ⟨⟨s0, s1, s2, s3⟩, s4, s5, s6, s7⟩
              go_simp
            simp only [Act.put, List.setIfInBounds_toArray, List.set_cons_zero, List.set_cons_succ]
            refine wpAnyH_done (by kernel_rfl) ?_ _
            have TU := hide tV
            clear tV
            go_wp2_with fail
            go_meet
            exact ⟨_, rfl, TU.out, fun e => (by cases e), fun _ => ⟨_, HY.out, HCD.out⟩⟩
      case rest =>
        obtain ⟨q, rfl, tc, hqt, hqf⟩ := hcut
        have HQT := hide hqt
        have HQF := hide hqf
        have HROW := hide (HO.out.row.keep tc (fun _ _ x => x))
        have HTC := hide (HO.out.turn.trans tc)
        clear hqt hqf tc
        cases q
        · obtain ⟨y, hy, hcd⟩ := HQF.out rfl
          have HC1 := hide (show CutR w wc g off c n t l (.slice fa ps.length fc) b (i + 1) ps from ⟨HROW.out, HO.out.part, by omega, by omega, hnum, fun x' hx' => by
            have h1 := HTOT.out
            rw [drop_cons hx'] at h1
            have hxy := ents_get hy
            rw [hx'] at hxy
            cases hxy
            rw [cutG_go hcd] at h1
            rw [segE_succ hx' (by omega)]
            exact h1, fun e => by
              have := (List.getElem?_eq_some_iff.1 hy).1
              have := HN.out
              omega, HTC.out⟩)
          clear hy hcd HQT HQF
          go_wp2_with fail
          go_roundw
          case rel => exact ⟨b, i + 1, ps, rfl, by go_num, HC1.out⟩
          case measure => (simp [intOf]; try omega)
        · obtain ⟨g', n', c', w2, hq, hrow, t2⟩ := cut_append2 w wc fa fc g off c b (i + 1) l ps HROW.out HTC.out (by omega) (by have := HN.out; omega)
          have hcb : ¬ c = b := by omega
          have hcb2 : ¬ (c : Int) = b := by omega
          have e1 : entR (ps ++ [⟨some ⟨g, off + b * 4, none⟩, c - b, segE l b (i + 1)⟩]) = entR ps ++ [segE (ents l) b (i + 1)] := by
            simp only [entR, List.map_append, List.map_cons, List.map_nil, segE_map, ents]
          have HC1 := hide (show CutR w w2 g off c n t l (.slice (some ⟨g', 0, none⟩) n' c') (i + 1) (i + 1) (ps ++ [⟨some ⟨g, off + b * 4, none⟩, c - b, segE l b (i + 1)⟩]) from ⟨hrow, fun p hp => by
            rcases List.mem_append.1 hp with hp | hp
            · exact HO.out.part p hp
            · exact ⟨b, i + 1, by omega, by have := HN.out; omega, List.mem_singleton.1 hp⟩, Nat.le_refl _, by omega, by simp; omega, fun x' hx' => by
            rcases HQT.out rfl with hl | ⟨y, hy, hcd⟩
            · have := (List.getElem?_eq_some_iff.1 hx').1
              have := HN.out
              simp [ents] at *
              omega
            · have h1 := HTOT.out
              rw [drop_cons hx'] at h1
              have hxy := ents_get hy
              rw [hx'] at hxy
              cases hxy
              rw [cutG_stop hcd] at h1
              rw [e1, segE_succ hx' (Nat.le_refl _), segE_self, List.append_assoc]
              exact h1, fun e => ⟨e, by
              have h1 := HTOT.out
              rw [List.drop_eq_nil_of_le (show (ents l).length ≤ i + 1 by have := HN.out; simp [ents]; omega), cutG, if_neg (fun e => by have := congrArg List.length e; rw [segE_length _ _ _ (by have := HN.out; simp [ents]; omega)] at this; simp at this; omega)] at h1
              rw [e1, h1]⟩, t2⟩)
          have HQQ := hide hq
          clear hq hrow t2 e1 HQT HQF
          go_wp2_with (at_builtin; refine wpList_append_run rfl _ _ 22 rfl _ _ rfl rfl _ _ (HQQ.out _) ?_)
          go_roundw
          case rel => exact ⟨i + 1, i + 1, _, by go_num, by go_num, HC1.out⟩
          case measure => (simp [intOf]; try omega)
    · obtain rfl : i = n := by omega
      have HFI := hide (show Files wr w.heap.size (cutE t (ents l)) (.slice fa ps.length fc) ∧ Turns (fun _ => False) w wr from ⟨⟨ps, HO.out.row, fun p hp => by
        obtain ⟨b1, i1, hb1, hi1, rfl⟩ := HO.out.part p hp
        refine ⟨(H.out.quiet HO.out.turn).seg b1 i1, ?_⟩
        rw [segE_length _ _ _ hi1]
        have := HN.out
        show i1 - b1 ≤ c - b1
        omega, (HO.out.fin rfl).2, by omega⟩, HO.out.turn⟩)
      go_wp2_with fail
      go_ret2
      exact ⟨.inr ⟨by rw [HF.out]; rfl, _, rfl, HFI.out.1⟩, HFI.out.2⟩
end Go.Proofs.Ytpgligfolecieaa
