import Derived.Test.YtpgligfolecieaaM22
/-
  uncover: deletes that hide nothing go.
-/
namespace Go.Proofs.Ytpgligfolecieaa
open Go.RowKit
set_option maxRecDepth 100000
set_option maxHeartbeats 4000000
/-- How far it has come: from the end down to r. -/
structure Un (w0 w W : World) (g n r : Nat) (P : List (Ent × Bool)) : Prop where
  row : ∃ cs, W.heap[g]? = some (.cells cs 4 (0, 0)) ∧ cs.size = n ∧ ∀ (k : Nat) (x : Ent) (b : Bool), P[k]? = some (x, b) → cs[k]? = some (Value.bool (if k < r then b else (b && oldS (P.drop k))))
  turn : Turns (fun _ => False) w0 W
  part : Turns (fun k => k = g) w W
theorem Un.quiet {w0 w W W' : World} {g n r : Nat} {P : List (Ent × Bool)} (h : Un w0 w W g n r P) (t : Turns (fun _ => False) W W') : Un w0 w W' g n r P := by
  obtain ⟨⟨cs, h1, h2⟩, h3, h4⟩ := h
  exact ⟨⟨cs, t.heap h1 (fun x => x), h2⟩, h3.trans t, h4.trans (t.mono fun _ _ x => x.elim)⟩
theorem Un.skip {w0 w W : World} {g n r : Nat} {P : List (Ent × Bool)} (h : Un w0 w W g n (r + 1) P) {x : Ent} {b : Bool} (hr : P[r]? = some (x, b)) (hb : (b && oldS (P.drop r)) = b) : Un w0 w W g n r P := by
  obtain ⟨⟨cs, h1, h2, h3⟩, h4, h5⟩ := h
  refine ⟨⟨cs, h1, h2, fun k y d hk => ?_⟩, h4, h5⟩
  rw [h3 k y d hk]
  by_cases e : k = r
  · subst e
    rw [hr] at hk
    cases hk
    rw [if_pos (by omega), if_neg (by omega), hb]
  · by_cases e2 : k < r
    · rw [if_pos (by omega), if_pos e2]
    · rw [if_neg (by omega), if_neg e2]
theorem Un.put {w0 w W : World} {g n r : Nat} {P : List (Ent × Bool)} (h : Un w0 w W g n (r + 1) P) (hg : w0.heap.size ≤ g) (hn : P.length = n) {x : Ent} {b : Bool} (hr : P[r]? = some (x, b)) (hb : (b && oldS (P.drop r)) = false) : Un w0 w (W.setCell ⟨g, r, none⟩ (.bool false)) g n r P := by
  obtain ⟨⟨cs, h1, h2, h3⟩, h4, h5⟩ := h
  have hlt := (List.getElem?_eq_some_iff.1 hr).1
  refine ⟨⟨cs.setIfInBounds r (.bool false), heap_setCell_row _ _ _ _ _ _ h1, by simp [h2], fun k y d hk => ?_⟩, ?_, ?_⟩
  · by_cases e : r = k
    · subst e
      rw [hr] at hk
      cases hk
      rw [Array.getElem?_setIfInBounds_self_of_lt (by omega), if_neg (by omega), hb]
    · rw [Array.getElem?_setIfInBounds_ne e, h3 k y d hk]
      by_cases e2 : k < r
      · rw [if_pos (by omega), if_pos e2]
      · rw [if_neg (by omega), if_neg e2]
  · exact ⟨h4.os, h4.tape, h4.output, by rw [World.size_setCell]; exact h4.size, fun k k1 k2 => by
      rw [heap_setCell_other _ _ _ _ (by show k ≠ g; omega)]
      exact h4.block k k1 k2⟩
  · exact ⟨h5.os, h5.tape, h5.output, by rw [World.size_setCell]; exact h5.size, fun k k1 k2 => by
      rw [heap_setCell_other _ _ _ _ (by exact k2)]
      exact h5.block k k1 k2⟩
theorem Un.cell {w0 w W : World} {g n r : Nat} {P : List (Ent × Bool)} (h : Un w0 w W g n (r + 1) P) {x : Ent} {b : Bool} (hr : P[r]? = some (x, b)) : W.cell? ⟨g, r, none⟩ = some (.bool b) ∧ W.frozen? ⟨g, r, none⟩ = false := by
  obtain ⟨⟨cs, h1, h2, h3⟩, _⟩ := h
  refine ⟨?_, frozen_of_row W g _ _ 4 h1⟩
  rw [cell_of_row W g r cs 4 (0, 0) h1, h3 r x b hr, if_pos (by omega)]
theorem drop_cons {α : Type} {P : List α} {i : Nat} {x : α} (h : P[i]? = some x) : P.drop i = x :: P.drop (i + 1) := by
  obtain ⟨hi, e⟩ := List.getElem?_eq_some_iff.1 h
  rw [List.drop_eq_getElem_cons hi, e]
theorem uncover_any (a : Option Addr) (n c : Nat) (l : List Tow) (g : Nat) (vs : List Bool) (w0 w : World) (h : Ents w0 a l) (t0 : Turns (fun _ => False) w0 w) (hg : w0.heap.size ≤ g) (hn : n = l.length) (hmx : n ≤ 1000000) (hv : vs.length = n) (hb : Bools w g vs) :
    Calls Try.prog 56 #[.slice a n c, .slice (some ⟨g, 0, none⟩) n n] w fun e w' => (∃ u, e = .returned u) ∧ Bools w' g (stayB ((ents l).zip vs)) ∧ Turns (fun _ => False) w0 w' ∧ Turns (fun k => k = g) w w' := by
  have H := hide h
  have HN := hide hn
  have HG := hide hg
  have PL : ((ents l).zip vs).length = n := by rw [List.length_zip, hv]; simp [ents]; omega
  have PA : ∀ (i : Nat) (x : Tow), l[i]? = some x → ∃ b, ((ents l).zip vs)[i]? = some (x.e, b) := fun i x hx => by
    have hi := (List.getElem?_eq_some_iff.1 hx).1
    refine ⟨vs[i]'(by omega), ?_⟩
    rw [List.getElem?_zip_eq_some]
    exact ⟨ents_get hx, List.getElem?_eq_getElem _⟩
  have U0 := hide (show Un w0 w w g n n ((ents l).zip vs) by
    obtain ⟨cs, h1, h2, h3⟩ := hb
    refine ⟨⟨cs, h1, by omega, fun k x b hk => ?_⟩, t0, Turns.refl _ _⟩
    have hlt := (List.getElem?_eq_some_iff.1 hk).1
    rw [if_pos (by omega)]
    exact h3 k b (List.getElem?_zip_eq_some.1 hk).2)
  have HPL := hide PL
  have HPA := hide PA
  clear h t0 hg hn hv hb PL PA
  generalize (ents l).zip vs = P at *
  have i9 : (n : Int) ≤ 1000000 := by omega
  go_enter Try.func56, Try.ntmps56
  go_wp2_with fail
  go_loopw [4, 5] (fun ov iv wr => ∃ (r : Nat) (z : Int), ov = .bool (oldS (P.drop r)) ∧ iv = .int .i64 z ∧ z = (r : Int) - 1 ∧ r ≤ n ∧ Un w0 w wr g n r P) (fun _ iv _ => (intOf iv + 1).toNat)
  case atStart => exact ⟨n, _, by rw [List.drop_eq_nil_of_le (by have := HPL.out; omega)]; rfl, rfl, rfl, Nat.le_refl _, U0.out⟩
  case round =>
    obtain ⟨r, z, rfl, rfl, hz, hr, hu⟩ := hrel
    have HU := hide hu
    clear hu U0
    rcases r with _ | i
    · obtain rfl : z = -1 := by omega
      clear hz
      go_wp2_with fail
      go_end0
      obtain ⟨⟨cs, g1, g2, g3⟩, t, t2⟩ := HU.out
      refine ⟨⟨_, rfl⟩, ⟨cs, g1, by rw [stayB_length, HPL.out, g2], fun k b hk => ?_⟩, t, t2⟩
      have hlt := (List.getElem?_eq_some_iff.1 hk).1
      rw [stayB_length] at hlt
      have e : P[k]? = some (P[k].1, P[k].2) := List.getElem?_eq_getElem hlt
      rw [stayB_at P k _ _ e] at hk
      cases hk
      rw [g3 k _ _ e, if_neg (by omega)]
    · obtain rfl : z = (i : Int) := by omega
      clear hz
      obtain ⟨x, hx⟩ : ∃ x, l[i]? = some x := ⟨_, List.getElem?_eq_getElem (by have := HN.out; omega)⟩
      obtain ⟨pb, hpb⟩ := HPA.out i x hx
      have HW := hide (H.out.quiet HU.out.turn)
      obtain ⟨b, off, rfl, hc, hkx, hvx⟩ := ents_at2 HW.out hx
      have HX := hide hx
      have HC := hide hc
      have HBX := hide hkx
      have HPB := hide hpb
      have HD := hide (drop_cons hpb)
      clear hx hc hkx hvx hpb
      have i1 : (0 : Int) ≤ (i : Int) := by omega
      have i2 : (i : Int) < n := by omega
      go_upto_region 4 with (fail)
      go_cut [4] from 9 to 45 (fun v4 wc => ∃ o1 : Bool, v4 = .bool o1 ∧ Turns (fun _ => False) wr wc ∧ o1 = (oldS (P.drop (i + 1)) && sameHd x.e (P.drop (i + 1))))
      case first =>
        rename_i kk rest jj kk' m1 m2
        clear rest
        have hob : ∃ ob : Bool, oldS (P.drop (i + 1)) = ob := ⟨_, rfl⟩
        obtain ⟨ob, hob⟩ := hob
        have HOB := hide hob
        rw [hob]
        cases ob
        · clear hob
          go_quiet (fail)
          go_wp2_with fail
          go_meet
          exact ⟨false, rfl, (Turns.refl _ _).drewN _, by rw [HOB.out]; rfl⟩
        · obtain ⟨y, hy⟩ : ∃ y, l[i + 1]? = some y := ⟨_, List.getElem?_eq_getElem (by
            have := HN.out
            rcases Nat.lt_or_ge (i + 1) l.length with h1 | h1
            · exact h1
            · rw [List.drop_eq_nil_of_le (by have := HPL.out; omega)] at hob
              cases hob)⟩
          clear hob
          obtain ⟨pb2, hpb2⟩ := HPA.out (i + 1) y hy
          have HD2 := hide (drop_cons hpb2)
          obtain ⟨b', off', e', hcy, hky, hvy⟩ := ents_at2 HW.out hy
          cases e'
          have SC := hide (fun (u : World) (t : Turns (fun _ => False) wr u) => sameKey_any x y u (HBX.out.quiet t) (hky.quiet t))
          have HCY := hide hcy
          have j1 : (i : Int) + 1 < n := by have := (List.getElem?_eq_some_iff.1 hy).1; have := HN.out; omega
          have j0 : (0 : Int) ≤ (i : Int) + 1 := by omega
          clear hy hcy hky hvy hpb2
          obtain ⟨ka, kc, va, vc, ⟨key, sq, kd, val⟩⟩ := x
          obtain ⟨ka2, kc2, va2, vc2, ⟨key2, sq2, kd2, val2⟩⟩ := y
          unfold Tow.ent Tow.kv Tow.vv at *
          simp only at *
          obtain ⟨sk, hsk⟩ : ∃ sk : Bool, decide (key = key2) = sk := ⟨_, rfl⟩
          rw [hsk] at SC
          have HSK := hide hsk
          clear hsk
          generalize key.length = L1 at *
          generalize key2.length = L3 at *
          generalize val.length = L2 at *
          generalize val2.length = L4 at *
          have tV : Turns (fun _ => False) wr wr.drew := (Turns.refl _ _).drew
          have SK := hide (fun (u : World) (t : Turns (fun _ => False) wr u) => show (u.cell? ⟨b, off + i * 4, none⟩ = some (.slice ka L1 kc) ∧ u.cell? ⟨b, off + i * 4 + 1, none⟩ = some (.int .u64 (sq : Nat)) ∧ u.cell? ⟨b, off + i * 4 + 2, none⟩ = some (.int .i64 kd) ∧ u.cell? ⟨b, off + i * 4 + 3, none⟩ = some (.slice va L2 vc)) ∧ u.cell? ⟨b, off + (i + 1) * 4, none⟩ = some (.slice ka2 L3 kc2) ∧ u.cell? ⟨b, off + (i + 1) * 4 + 1, none⟩ = some (.int .u64 (sq2 : Nat)) ∧ u.cell? ⟨b, off + (i + 1) * 4 + 2, none⟩ = some (.int .i64 kd2) ∧ u.cell? ⟨b, off + (i + 1) * 4 + 3, none⟩ = some (.slice va2 L4 vc2) from ⟨⟨t.cell HC.out.1 (fun x => x), t.cell HC.out.2.1 (fun x => x), t.cell HC.out.2.2.1 (fun x => x), t.cell HC.out.2.2.2 (fun x => x)⟩, t.cell HCY.out.1 (fun x => x), t.cell HCY.out.2.1 (fun x => x), t.cell HCY.out.2.2.1 (fun x => x), t.cell HCY.out.2.2.2 (fun x => x)⟩)
          refine wp_region_held_drew (S := fun u => (u.cell? ⟨b, off + i * 4, none⟩ = some (.slice ka L1 kc) ∧ u.cell? ⟨b, off + i * 4 + 1, none⟩ = some (.int .u64 (sq : Nat)) ∧ u.cell? ⟨b, off + i * 4 + 2, none⟩ = some (.int .i64 kd) ∧ u.cell? ⟨b, off + i * 4 + 3, none⟩ = some (.slice va L2 vc)) ∧ u.cell? ⟨b, off + (i + 1) * 4, none⟩ = some (.slice ka2 L3 kc2) ∧ u.cell? ⟨b, off + (i + 1) * 4 + 1, none⟩ = some (.int .u64 (sq2 : Nat)) ∧ u.cell? ⟨b, off + (i + 1) * 4 + 2, none⟩ = some (.int .i64 kd2) ∧ u.cell? ⟨b, off + (i + 1) * 4 + 3, none⟩ = some (.slice va2 L4 vc2)) (by kernel_rfl) (SK.out _ tV) (fun _ => ?_)
          change wpAnyH _ _ _ _ _ 14 (Array.replicate 14 false) _ _
          refine wpAnyH_take (i := 0) (oi := { dst := some 13, op := Op.move (Operand.tmp 4), type := 4, pos := "left.go:27", after := #[], guard := none }) (v := .bool true) rfl (by kernel_rfl) (by kernel_rfl) (by kernel_rfl) (fun _ _ _ h => h) (Or.inl ⟨by rfl, ?_⟩) (SK.out _ tV) ?_
          · rintro w ⟨⟨s0, s1, s2, s3⟩, s4, s5, s6, s7⟩
            go_simp
          simp only [Act.put, List.setIfInBounds_toArray, List.set_cons_zero, List.set_cons_succ]
          refine wpAnyH_take (i := 1) (oi := { dst := some 14, op := Op.move (Operand.tmp 13), type := 4, pos := "left.go:27", after := #[{ on := 0, ground := Ground.data }], guard := none }) (v := .bool true) rfl (by kernel_rfl) (by kernel_rfl) (by kernel_rfl) (fun _ _ _ h => h) (Or.inl ⟨by rfl, ?_⟩) (SK.out _ tV) ?_
          · rintro w ⟨⟨s0, s1, s2, s3⟩, s4, s5, s6, s7⟩
            go_simp
          simp only [Act.put, List.setIfInBounds_toArray, List.set_cons_zero, List.set_cons_succ]
          refine wpAnyH_take (i := 2) (oi := { dst := some 15, op := Op.move (Operand.tmp 0), type := 31, pos := "left.go:27", after := #[{ on := 1, ground := Ground.guard }], guard := some (1, true) }) (v := .slice (some ⟨b, off, none⟩) n c) rfl (by kernel_rfl) (by kernel_rfl) (by kernel_rfl) (fun _ _ _ h => h) (Or.inl ⟨by rfl, ?_⟩) (SK.out _ tV) ?_
          · rintro w ⟨⟨s0, s1, s2, s3⟩, s4, s5, s6, s7⟩
            go_simp
          simp only [Act.put, List.setIfInBounds_toArray, List.set_cons_zero, List.set_cons_succ]
          refine wpAnyH_take (i := 3) (oi := { dst := some 16, op := Op.move (Operand.tmp 5), type := 3, pos := "left.go:27", after := #[{ on := 1, ground := Ground.guard }], guard := some (1, true) }) (v := .int .i64 (i : Nat)) rfl (by kernel_rfl) (by kernel_rfl) (by kernel_rfl) (fun _ _ _ h => h) (Or.inl ⟨by rfl, ?_⟩) (SK.out _ tV) ?_
          · rintro w ⟨⟨s0, s1, s2, s3⟩, s4, s5, s6, s7⟩
            go_simp
          simp only [Act.put, List.setIfInBounds_toArray, List.set_cons_zero, List.set_cons_succ]
          refine wpAnyH_take (i := 4) (oi := { dst := some 17, op := Op.indexAddr 31 (Operand.tmp 15) (Operand.tmp 16), type := 0, pos := "left.go:27", after := #[{ on := 2, ground := Ground.data }, { on := 3, ground := Ground.data }, { on := 1, ground := Ground.guard }], guard := some (1, true) }) (v := .pointer (some ⟨b, off + i * 4, none⟩)) rfl (by kernel_rfl) (by kernel_rfl) (by kernel_rfl) (fun _ _ _ h => h) (Or.inl ⟨by rfl, ?_⟩) (SK.out _ tV) ?_
          · rintro w ⟨⟨s0, s1, s2, s3⟩, s4, s5, s6, s7⟩
            go_simp
          simp only [Act.put, List.setIfInBounds_toArray, List.set_cons_zero, List.set_cons_succ]
          refine wpAnyH_take (i := 5) (oi := { dst := some 18, op := Op.load 29 (Operand.tmp 17), type := 29, pos := "left.go:27", after := #[{ on := 4, ground := Ground.data }, { on := 1, ground := Ground.guard }], guard := some (1, true) }) (v := .agg #[.slice ka L1 kc, .int .u64 (sq : Nat), .int .i64 kd, .slice va L2 vc]) rfl (by kernel_rfl) (by kernel_rfl) (by kernel_rfl) (fun _ _ _ h => h) (Or.inl ⟨by rfl, ?_⟩) (SK.out _ tV) ?_
          · rintro w ⟨⟨s0, s1, s2, s3⟩, s4, s5, s6, s7⟩
            go_simp
          simp only [Act.put, List.setIfInBounds_toArray, List.set_cons_zero, List.set_cons_succ]
          refine wpAnyH_take (i := 6) (oi := { dst := some 19, op := Op.move (Operand.tmp 0), type := 31, pos := "left.go:27", after := #[{ on := 1, ground := Ground.guard }], guard := some (1, true) }) (v := .slice (some ⟨b, off, none⟩) n c) rfl (by kernel_rfl) (by kernel_rfl) (by kernel_rfl) (fun _ _ _ h => h) (Or.inl ⟨by rfl, ?_⟩) (SK.out _ tV) ?_
          · rintro w ⟨⟨s0, s1, s2, s3⟩, s4, s5, s6, s7⟩
            go_simp
          simp only [Act.put, List.setIfInBounds_toArray, List.set_cons_zero, List.set_cons_succ]
          refine wpAnyH_take (i := 7) (oi := { dst := some 20, op := Op.move (Operand.tmp 5), type := 3, pos := "left.go:27", after := #[{ on := 1, ground := Ground.guard }], guard := some (1, true) }) (v := .int .i64 (i : Nat)) rfl (by kernel_rfl) (by kernel_rfl) (by kernel_rfl) (fun _ _ _ h => h) (Or.inl ⟨by rfl, ?_⟩) (SK.out _ tV) ?_
          · rintro w ⟨⟨s0, s1, s2, s3⟩, s4, s5, s6, s7⟩
            go_simp
          simp only [Act.put, List.setIfInBounds_toArray, List.set_cons_zero, List.set_cons_succ]
          refine wpAnyH_take (i := 8) (oi := { dst := some 21, op := Op.binOp BinOp.add 3 (Operand.tmp 20) (Operand.const (Value.int IntKind.i64 1)) 3, type := 3, pos := "left.go:27", after := #[{ on := 7, ground := Ground.data }, { on := 1, ground := Ground.guard }], guard := some (1, true) }) (v := .int .i64 ((i : Int) + 1)) rfl (by kernel_rfl) (by kernel_rfl) (by kernel_rfl) (fun _ _ _ h => h) (Or.inl ⟨by rfl, ?_⟩) (SK.out _ tV) ?_
          · rintro w ⟨⟨s0, s1, s2, s3⟩, s4, s5, s6, s7⟩
            go_simp; exact wrapI _ (by omega) (by omega)
          simp only [Act.put, List.setIfInBounds_toArray, List.set_cons_zero, List.set_cons_succ]
          refine wpAnyH_take (i := 9) (oi := { dst := some 22, op := Op.indexAddr 31 (Operand.tmp 19) (Operand.tmp 21), type := 0, pos := "left.go:27", after := #[{ on := 6, ground := Ground.data }, { on := 8, ground := Ground.data }, { on := 1, ground := Ground.guard }], guard := some (1, true) }) (v := .pointer (some ⟨b, off + (i + 1) * 4, none⟩)) rfl (by kernel_rfl) (by kernel_rfl) (by kernel_rfl) (fun _ _ _ h => h) (Or.inl ⟨by rfl, ?_⟩) (SK.out _ tV) ?_
          · rintro w ⟨⟨s0, s1, s2, s3⟩, s4, s5, s6, s7⟩
            go_simp
          simp only [Act.put, List.setIfInBounds_toArray, List.set_cons_zero, List.set_cons_succ]
          refine wpAnyH_take (i := 10) (oi := { dst := some 23, op := Op.load 29 (Operand.tmp 22), type := 29, pos := "left.go:27", after := #[{ on := 9, ground := Ground.data }, { on := 1, ground := Ground.guard }], guard := some (1, true) }) (v := .agg #[.slice ka2 L3 kc2, .int .u64 (sq2 : Nat), .int .i64 kd2, .slice va2 L4 vc2]) rfl (by kernel_rfl) (by kernel_rfl) (by kernel_rfl) (fun _ _ _ h => h) (Or.inl ⟨by rfl, ?_⟩) (SK.out _ tV) ?_
          · rintro w ⟨⟨s0, s1, s2, s3⟩, s4, s5, s6, s7⟩
            go_simp
          simp only [Act.put, List.setIfInBounds_toArray, List.set_cons_zero, List.set_cons_succ]
          refine wpAnyH_ready (rs := [11]) (by kernel_rfl) (by simp) ?_
          refine AllReadyH.cons rfl (fun K hK => ?_) AllReadyH.nil
          go_simp
          refine (SC.out _ tV).mono ?_
          rintro oo Vn ⟨rfl, tC⟩
          have tN := tC
          have tV := tV.trans tN
          clear tC
          clear tN
          go_simp
          refine hK.out _ _ (SK.out _ tV) (fun _ => ?_)
          clear hK K
          refine wpAnyH_take (i := 12) (oi := { dst := some 25, op := Op.pick (Operand.tmp 14) (Operand.tmp 24) (Operand.const (Value.bool false)), type := 4, pos := "left.go:27", after := #[{ on := 1, ground := Ground.data }, { on := 11, ground := Ground.data }], guard := none }) (v := .bool sk) rfl (by kernel_rfl) (by kernel_rfl) (by kernel_rfl) (fun _ _ _ h => h) (Or.inl ⟨by rfl, ?_⟩) (SK.out _ tV) ?_
          · rintro w ⟨⟨s0, s1, s2, s3⟩, s4, s5, s6, s7⟩
            go_simp
          simp only [Act.put, List.setIfInBounds_toArray, List.set_cons_zero, List.set_cons_succ]
          refine wpAnyH_take (i := 13) (oi := { dst := some 4, op := Op.assign (Operand.tmp 25), type := 4, pos := "left.go:27", after := #[{ on := 12, ground := Ground.data }, { on := 11, ground := Ground.chain }, { on := 0, ground := Ground.phase }, { on := 1, ground := Ground.phase }, { on := 2, ground := Ground.phase }, { on := 3, ground := Ground.phase }, { on := 4, ground := Ground.phase }, { on := 5, ground := Ground.phase }, { on := 6, ground := Ground.phase }, { on := 7, ground := Ground.phase }, { on := 8, ground := Ground.phase }, { on := 9, ground := Ground.phase }, { on := 10, ground := Ground.phase }, { on := 11, ground := Ground.phase }, { on := 12, ground := Ground.phase }], guard := none }) (v := .bool sk) rfl (by kernel_rfl) (by kernel_rfl) (by kernel_rfl) (fun _ _ _ h => h) (Or.inl ⟨by rfl, ?_⟩) (SK.out _ tV) ?_
          · rintro w ⟨⟨s0, s1, s2, s3⟩, s4, s5, s6, s7⟩
            go_simp
          simp only [Act.put, List.setIfInBounds_toArray, List.set_cons_zero, List.set_cons_succ]
          refine wpAnyH_done (by kernel_rfl) ?_ _
          have TU := hide tV
          clear tV
          go_wp2_with fail
          go_meet
          refine ⟨_, rfl, TU.out, ?_⟩
          rw [HOB.out, HD2.out]
          exact HSK.out.symm
      case rest =>
        obtain ⟨o1, rfl, tc, ho1⟩ := hcut
        have HO1 := hide ho1
        have HUC := hide (HU.out.quiet tc)
        have HOLD := hide (show oldS (P.drop i) = (o1 || (pb && decide (x.e.kind ≠ 2))) by rw [HD.out, HO1.out]; rfl)
        have hk2 := tc.cell HC.out.2.2.1 (fun x => x)
        clear ho1 tc
        generalize hkd : x.e.kind = kd at *
        cases o1
        · by_cases h2 : kd = 2
          · subst h2
            obtain ⟨c0, f0⟩ := HUC.out.cell HPB.out
            have UP := hide (HUC.out.put HG.out HPL.out HPB.out (by rw [HOLD.out]; simp))
            have hold : oldS (P.drop i) = false := by rw [HOLD.out]; simp
            have C1 := hide (show (wc.setCell ⟨g, i, none⟩ (.bool false)).cell? ⟨g, i, none⟩ = some (.bool false) by
              obtain ⟨⟨cs, g1, g2, g3⟩, _⟩ := UP.out
              rw [cell_of_row _ g i cs 4 (0, 0) g1, g3 i _ _ HPB.out, if_neg (by omega), HOLD.out]
              simp)
            generalize hW2 : wc.setCell ⟨g, i, none⟩ (.bool false) = w2 at *
            have c1 := C1.out
            go_wp2_with fail
            go_roundw
            case rel => exact ⟨i, _, by rw [hold], rfl, by first | rfl | (rw [wrapI _ (by omega) (by omega)]), by omega, UP.out⟩
            case measure => (simp [intOf]; try omega)
          · cases pb
            · have hold : oldS (P.drop i) = false := by rw [HOLD.out]; simp
              have UP := hide (HUC.out.skip HPB.out (by rw [hold]; rfl))
              obtain ⟨c0, f0⟩ := HUC.out.cell HPB.out
              go_wp2_with fail
              go_roundw
              case rel => exact ⟨i, _, by rw [hold], rfl, by first | rfl | (rw [wrapI _ (by omega) (by omega)]), by omega, UP.out⟩
              case measure => (simp [intOf]; try omega)
            · have hold : oldS (P.drop i) = true := by rw [HOLD.out]; simp [h2]
              have UP := hide (HUC.out.skip HPB.out (by rw [hold]; rfl))
              obtain ⟨c0, f0⟩ := HUC.out.cell HPB.out
              go_wp2_with fail
              go_roundw
              case rel => exact ⟨i, _, by rw [hold], rfl, by first | rfl | (rw [wrapI _ (by omega) (by omega)]), by omega, UP.out⟩
              case measure => (simp [intOf]; try omega)
        · have hold : oldS (P.drop i) = true := by rw [HOLD.out]; simp
          have UP := hide (HUC.out.skip HPB.out (by rw [hold, Bool.and_true]))
          go_wp2_with fail
          go_roundw
          case rel => exact ⟨i, _, by rw [hold], rfl, by first | rfl | (rw [wrapI _ (by omega) (by omega)]), by omega, UP.out⟩
          case measure => (simp [intOf]; try omega)
end Go.Proofs.Ytpgligfolecieaa
