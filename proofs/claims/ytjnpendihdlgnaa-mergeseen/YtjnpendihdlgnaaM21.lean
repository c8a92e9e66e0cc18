import Derived.Test.YtjnpendihdlgnaaM19
import Derived.Test.YtjnpendihdlgnaaM20
/-
  MergeSeen: the whole of the law.
-/
namespace Go.Proofs.Ytjnpendihdlgnaa
open Go.RowKit
set_option maxRecDepth 100000
set_option maxHeartbeats 8000000
theorem Dealt.short {Q : List Tow} {rows : List (List Tow)} (h : Dealt Q rows) {r : List Tow} (hr : r ∈ rows) : r.length ≤ Q.length := by
  have nd : ∀ {R : List Tow}, R.Pairwise ltT → R.Nodup := fun h => h.imp fun {a b} hl e => by subst e; unfold ltT at hl; have := (cmpE_zero a.e.en a.e.en).2 ⟨rfl, rfl⟩; omega
  exact (nd (h.each r hr)).length_le_of_subset (h.sub r hr)
theorem weigh_fit : ∀ {l : List Tow}, (∀ f, f ∈ l → Fit f) → weigh l ≤ l.length * 281474976710656
  | [], _ => by simp [weigh]
  | x :: r, h => by
    have h1 := weigh_fit (l := r) fun f hf => h f (List.mem_cons_of_mem _ hf)
    obtain ⟨_, h2, h3⟩ := h x (by simp)
    unfold reachBytes at h2 h3
    simp only [weigh, List.length_cons] at h1 ⊢
    omega
def F7 (u : World) (gp kk : Nat) (rv : Value) (b o : Nat) (xa : Option Addr) (kn xc sq : Nat) (kd : Int) (xv : Option Addr) (vn xd : Nat) : Prop :=
  u.cell? ⟨gp, kk, none⟩ = some rv ∧ u.cell? ⟨b, o, none⟩ = some (.slice xa kn xc) ∧ u.cell? ⟨b, o + 1, none⟩ = some (.int .u64 (sq : Nat)) ∧ u.cell? ⟨b, o + 2, none⟩ = some (.int .i64 kd) ∧ u.cell? ⟨b, o + 3, none⟩ = some (.slice xv vn xd)
def F26 (u : World) (b o o' : Nat) (x y : Tow) : Prop :=
  u.cell? ⟨b, o, none⟩ = some (.slice y.ka y.e.key.length y.kc) ∧ u.cell? ⟨b, o + 1, none⟩ = some (.int .u64 (y.e.seq : Nat)) ∧ u.cell? ⟨b, o', none⟩ = some (.slice x.ka x.e.key.length x.kc) ∧ u.cell? ⟨b, o' + 1, none⟩ = some (.int .u64 (x.e.seq : Nat))
theorem bytesT_any (a a' : Option Addr) (n n' c c' : Nat) (x y : List (BitVec 8)) (w : World) (h : Bytes w (.slice a n c) x) (h' : Bytes w (.slice a' n' c') y) (hn : n ≤ 1000000000) :
    Calls Try.prog 30 #[.slice a n c, .slice a' n' c'] w fun e w' => e = .returned (.bool (decide (x = y))) ∧ Turns (fun _ => False) w w' := by
  refine (bytes_any a a' n n' c c' x y w h h' hn).mono ?_
  rintro e w' ⟨rfl, m, rfl⟩
  exact ⟨rfl, (Turns.refl _ _).drewN m⟩
def flag (seq : Nat) (x : Ent) (p : List Ent) : Bool := decide (x.seq ≤ seq) && !(p.any (hides seq x))
theorem newest_flag (seq : Nat) (xs : List Ent) (x : Ent) : newest seq xs x = (flag seq x xs && decide (x.kind = 1)) := by
  unfold newest flag
  cases decide (x.seq ≤ seq) <;> cases decide (x.kind = 1) <;> simp
theorem flag_next {seq : Nat} {x y : Ent} {es : List Ent} {k : Nat} {b : Bool} (hy : es[k]? = some y) (hb : hides seq x y = b) : flag seq x (es.take (k + 1)) = (flag seq x (es.take k) && !b) := by
  unfold flag
  rw [List.take_add_one, hy, List.any_append]
  simp only [Option.toList_some, List.any_cons, List.any_nil, Bool.or_false, hb]
  cases decide (x.seq ≤ seq) <;> cases (es.take k).any (hides seq x) <;> cases b <;> rfl
theorem ords_part {L1 L2 : List Rw} (h : eachOrd (L1 ++ L2) = true) : eachOrd L1 = true ∧ eachOrd L2 = true := by
  unfold eachOrd at h ⊢
  rw [List.all_append, Bool.and_eq_true] at h
  exact h
theorem Dm.split {w wr : World} {l : List Tow} {gp : Nat} {av : Value} {Q : List Tow} {rows : List (List Tow)} (h : Dm w wr l gp av Q rows) (hb : ∀ x, x ∈ l → Bytes wr x.kv x.e.key ∧ Bytes wr x.vv x.e.val) (hl : Q.length ≤ 150) :
    ∃ L1 L2 : List Rw, L1.length = 2 ∧ L2.length = 2 ∧ Dealt Q ((L1 ++ L2).map (·.R)) ∧ RowsIn wr (some ⟨gp, 0, none⟩) (L1 ++ L2) := by
  obtain ⟨x0, x1, x2, x3, e, hr⟩ := h.rows4 hb hl
  refine ⟨[x0, x1], [x2, x3], rfl, rfl, ?_, hr⟩
  have := h.dealt
  rw [e] at this
  exact this
theorem seen_any7 (a : Option Addr) (n c : Nat) (l : List Tow) (pa : Option Addr) (pn pc : Nat) (seq : Nat) (w : World) (h : Ents w a l) (hn : n = l.length) (hmx : n ≤ reachBytes) (hfit : ∀ f, f ∈ l → Fit f) (hp : Ints w pa pn) (hpn : pn ≤ reachBytes) :
    Calls Try.prog 7 #[.slice a n c, .slice pa pn pc, .int .u64 (seq : Nat)] w fun e w' => e = .returned (.bool true) ∧ Below w.heap.size w w' := by
  have H0 := hide h
  have HN := hide hn
  have HMX := hide hmx
  have HP := hide hp
  unfold reachBytes at hpn
  have hni : (n : Int) ≤ 140737488355328 := by unfold reachBytes at hmx; omega
  have hpi : (pn : Int) ≤ 140737488355328 := by omega
  have HFIT := hide hfit
  clear h hn hmx hp hpn hfit
  go_enter Try.func7, Try.ntmps7
  go_wp2_with fail
  refine (lives_any w).mono ?_
  rintro e w1 ⟨rfl, b1⟩
  have T1 := hide (Turns.of_below b1 (fun _ => False))
  clear b1
  by_cases hbig : (150 : Int) < n
  · go_wp2_with fail
    all_goals first
      | (go_ret; exact ⟨rfl, T1.out.below (Nat.le_refl _) (fun _ x => x.elim)⟩)
      | skip
  have WG := hide (weighW_any a n c l w1 (H0.out.quiet T1.out) HN.out HMX.out)
  go_wp2_with fail
  refine WG.out.mono ?_
  rintro e w2 ⟨rfl, t2⟩
  have T2 := hide (T1.out.trans t2)
  clear t2 WG T1
  by_cases hw : (15000 : Int) < w64 (weigh l : Nat)
  · go_wp2_with fail
    go_ret
    exact ⟨rfl, T2.out.below (Nat.le_refl _) (fun _ x => x.elim)⟩
  have hwl : weigh l ≤ 15000 := by
    have h1 := weigh_fit HFIT.out
    have h2 : l.length ≤ 150 := by have := HN.out; omega
    have h3 : weigh l ≤ 150 * 281474976710656 := Nat.le_trans h1 (Nat.mul_le_mul_right _ h2)
    have h4 := hw
    rw [w64_small _ (by omega) (by omega)] at h4
    omega
  have KB := hide (show ∀ x, x ∈ l → x.e.key.length ≤ 15000 ∧ x.e.val.length ≤ 15000 from fun x hx => by have := weigh_mem hx; omega)
  have HWL := hide hwl
  have hn150 : n ≤ 150 := by omega
  have mk := make4 w2
  have D0 := hide (Dm.start w2 l)
  go_wp2_with fail
  clear mk hw hbig hwl
  generalize w2.alloc (.cells #[.slice none 0 0, .slice none 0 0, .slice none 0 0, .slice none 0 0] 27) = w3 at *
  generalize hgp : w2.heap.size = gp at *
  have QL := hide (show ∀ (wr : World) (av : Value) (Q : List Tow) (rows : List (List Tow)), Dm w2 wr l gp av Q rows → Turns (fun _ => False) w wr from fun wr av Q rows h => T2.out.trans (Turns.of_below h.turn _))
  have QB := hide (show ∀ (wr : World), Turns (fun _ => False) w wr → ∀ x, x ∈ l → Bytes wr x.kv x.e.key ∧ Bytes wr x.vv x.e.val from fun wr t x hx => by
    obtain ⟨i, hi⟩ := List.getElem?_of_mem hx
    have := (H0.out.quiet t) i x hi
    exact this.2)
  go_loopw [8, 9] (fun av iv wr => ∃ (i : Nat) (Q : List Tow) (rows : List (List Tow)), iv = .int .i64 (i : Nat) ∧ i ≤ n ∧ Q.length ≤ i ∧ Dm w2 wr l gp av Q rows) (fun _ iv _ => n - (intOf iv).toNat)
  case atStart => exact ⟨0, [], _, rfl, Nat.zero_le _, Nat.le_refl _, D0.out⟩
  case round =>
    obtain ⟨i, Q, rows, rfl, hi, hQ, hd⟩ := hrel
    have DM := hide hd
    have TW := hide (QL.out wr _ Q rows hd)
    obtain ⟨aa, ac, rfl⟩ := hd.all.len
    clear hd
    by_cases hin : i < n
    · obtain ⟨x, hx⟩ : ∃ x, l[i]? = some x := ⟨_, List.getElem?_eq_getElem (by have := HN.out; omega)⟩
      have hxm := List.mem_of_getElem? hx
      obtain ⟨⟨b, off, rfl, hc⟩, hb1, _⟩ := (H0.out.quiet TW.out) i x hx
      have i1 : (i : Int) < n := by omega
      have i0 : (0 : Int) ≤ i := by omega
      have c0 : wr.cell? ⟨b, off + i * 4, none⟩ = some (.slice x.ka x.e.key.length x.kc) := hc 0 _ rfl
      have c1 : wr.cell? ⟨b, off + i * 4 + 1, none⟩ = some (.int .u64 (x.e.seq : Nat)) := hc 1 _ rfl
      have c2 : wr.cell? ⟨b, off + i * 4 + 2, none⟩ = some (.int .i64 x.e.kind) := hc 2 _ rfl
      have c3 : wr.cell? ⟨b, off + i * 4 + 3, none⟩ = some (.slice x.va x.e.val.length x.vc) := hc 3 _ rfl
      have PA := hide (rputE_any (.slice aa Q.length ac) Q x w2.heap.size wr DM.out.all (fun y hy => QB.out wr TW.out y (DM.out.sub y hy)) (by omega) hb1 (by have := KB.out x hxm; omega) (fun y hy => by have := KB.out y (DM.out.sub y hy); omega))
      go_wp2_with fail
      refine PA.out.mono ?_
      rintro e w4 ⟨g1, c4, rfl, hg1, hc1, hr1, b4⟩
      have t4 := Turns.of_below b4 (fun _ => False)
      have hw4 : Turns (fun _ => False) w w4 := TW.out.trans t4
      have hE4 : ERow w4 w2.heap.size (.slice (some ⟨g1, 0, none⟩) (Q.length + 1) c4) (putL x Q) := row_of_put (by have := DM.out.turn.size; omega) hc1 hr1
      have hsub4 : ∀ y, y ∈ putL x Q → y ∈ l := fun y hy => (mem_putL.1 hy).elim (fun e => e ▸ hxm) (DM.out.sub y)
      obtain ⟨a4, c5, e4, hen4, _⟩ := ents_row hE4 (fun y hy => QB.out w4 hw4 y (hsub4 y hy))
      rw [putL_length] at e4
      cases e4
      have RR := hide (rrow_any (some ⟨g1, 0, none⟩) (Q.length + 1) c4 (putL x Q) w4 hen4 (putL_length x Q).symm (by omega) (fun y hy => by have := KB.out y (hsub4 y hy); omega))
      have B4 := hide b4
      have T4 := hide hw4
      have R1 := hide (And.intro hg1 (And.intro hc1 hr1))
      clear b4 t4 hw4 hE4 hen4 hg1 hc1 hr1 hsub4 PA
      generalize hod : inOrd (ents (putL x Q)) = od at RR
      have HOD := hide hod
      clear hod
      go_wp2_with fail
      refine RR.out.mono ?_
      rintro e w5 ⟨rfl, b5⟩
      have B5 := hide (then_below B4.out b5 (Nat.le_refl _))
      have B45 := hide b5
      have T5 := hide (T4.out.trans (Turns.of_below b5 (fun _ => False)))
      clear b5 RR
      cases od with
      | false =>
        have D5 := hide (DM.out.quiet B5.out)
        go_wp2_with fail
        go_roundw
        case rel => exact ⟨i + 1, Q, rows, by go_num, by omega, by omega, D5.out⟩
        case measure => simp [intOf]; omega
      | true =>
        by_cases hip : i < pn
        · obtain ⟨pb, po, z, rfl, hpc⟩ := HP.out i hip
          have hpc := T5.out.cell hpc (fun x => x)
          have j1 : (i : Int) < pn := by omega
          go_wp2_with fail
          refine (pick4_any z w5).mono ?_
          rintro e w5' ⟨kk, hk4, rfl, hw5⟩
          rw [hw5]
          clear hw5 w5'
          clear hpc
          have hk4i : (kk : Int) < 4 := by omega
          have hk0i : (0 : Int) ≤ kk := by omega
          have D5 := hide (DM.out.quiet B5.out)
          obtain ⟨cs, k1, k2, k3⟩ := D5.out.blk
          obtain ⟨r, hr⟩ : ∃ r, rows[kk]? = some r := ⟨_, List.getElem?_eq_getElem (by have := D5.out.four; omega)⟩
          obtain ⟨rv, hrv, hre, hrn⟩ := k3 kk r hr
          obtain ⟨ra, rc, rfl⟩ := hre.len
          have hrsub : ∀ y, y ∈ r → y ∈ l := fun y hy => D5.out.sub y (D5.out.dealt.sub r (List.mem_of_getElem? hr) y hy)
          have HRL := hide (show r.length ≤ 1000 by
            have h1 : r.length ≤ Q.length := D5.out.dealt.short (List.mem_of_getElem? hr)
            omega)
          have PT := hide (fun (u : World) (tt : Turns (fun _ => False) w5 u) => rputE_any (.slice ra r.length rc) r x w2.heap.size u (hre.keep tt (fun _ _ x => x)) (fun y hy => QB.out u (T5.out.trans tt) y (hrsub y hy)) HRL.out (QB.out u (T5.out.trans tt) x hxm).1 (by have := KB.out x hxm; omega) (fun y hy => by have := KB.out y (hrsub y hy); omega))
          have FRZ := hide (fun (u : World) (tt : Turns (fun _ => False) w5 u) => frozen_of_row u gp kk _ 27 (tt.heap k1 (fun x => x)))
          have GC := hide (show w5.cell? ⟨gp, kk, none⟩ = some (.slice ra r.length rc) by rw [cell_of_row w5 gp kk _ 27 (0, 0) k1]; exact hrv)
          have HR := hide hr
          have PUT5 := hide (fun (V : World) (tt : Below w5.heap.size w5 V) (g2 c2 : Nat) (hg2 : w5.heap.size ≤ g2) (hc2 : r.length + 1 ≤ c2) (hr2 : RowC V g2 25 (c2 * 4) (entCells (putL x r))) => DM.out.put hxm HOD.out hr (then_below B4.out B45.out (Nat.le_refl _)) R1.out.1 R1.out.2.1 (by obtain ⟨cz, z1, z2, z3⟩ := R1.out.2.2; exact ⟨cz, heap_keep B45.out z1, z2, z3⟩) tt hg2 hc2 hr2)
          have tw45 := (Turns.of_below B5.out (fun _ => False))
          have c0 := tw45.cell c0 (fun x => x)
          have c1 := tw45.cell c1 (fun x => x)
          have c2 := tw45.cell c2 (fun x => x)
          have c3 := tw45.cell c3 (fun x => x)
          have PT := hide (show ∀ (u : World), Turns (fun _ => False) w5 u → Calls Try.prog 27 #[.slice ra r.length rc, .agg #[.slice x.ka x.e.key.length x.kc, .int .u64 (x.e.seq : Nat), .int .i64 x.e.kind, .slice x.va x.e.val.length x.vc]] u (PutOk u x r) from PT.out)
          generalize x.ka = xa at c0 PT
          generalize x.kc = xc at c0 PT
          generalize x.va = xv at c3 PT
          generalize x.vc = xd at c3 PT
          generalize x.e.key.length = kn at c0 PT
          generalize x.e.val.length = vn at c3 PT
          generalize x.e.seq = sq at c1 PT
          generalize x.e.kind = kd at c2 PT
          clear k1 k2 k3 hre hrn hr hrsub hrv tw45 hc hb1
          have SK := hide (fun (u : World) (tt : Turns (fun _ => False) w5 u) => show F7 u gp kk (.slice ra r.length rc) b (off + i * 4) xa kn xc sq kd xv vn xd from ⟨tt.cell GC.out (fun x => x), tt.cell c0 (fun x => x), tt.cell c1 (fun x => x), tt.cell c2 (fun x => x), tt.cell c3 (fun x => x)⟩)
          have tV : Turns (fun _ => False) w5 w5.drew := (Turns.refl _ _).drew
          go_upto_region 16 with (fail)
          refine wp_region_z_drew 12 (S := fun u => F7 u gp kk (.slice ra r.length rc) b (off + i * 4) xa kn xc sq kd xv vn xd) (by kernel_rfl) (SK.out _ tV) (fun _ => ?_)
          change wpAnyZ _ _ _ _ _ _ 13 (Array.replicate 13 false) _ _
          refine wpAnyZ_take (i := 0) (oi := { dst := some 60, op := Op.move (Operand.tmp 7), type := 28, pos := "law.go:158", after := #[], guard := none }) (v := .slice (some ⟨gp, 0, none⟩) 4 4) rfl (by kernel_rfl) (by kernel_rfl) (by kernel_rfl) (by kernel_rfl) (fun _ _ _ h => h) (Or.inl ⟨by rfl, ?_⟩) (SK.out _ tV) ?_
          · rintro w ⟨s0, d0, d1, d2, d3⟩
            go_simp
          simp only [Act.put, List.setIfInBounds_toArray, List.set_cons_zero, List.set_cons_succ]
          refine wpAnyZ_take (i := 1) (oi := { dst := some 61, op := Op.move (Operand.tmp 11), type := 3, pos := "law.go:158", after := #[], guard := none }) (v := .int .i64 (kk : Nat)) rfl (by kernel_rfl) (by kernel_rfl) (by kernel_rfl) (by kernel_rfl) (fun _ _ _ h => h) (Or.inl ⟨by rfl, ?_⟩) (SK.out _ tV) ?_
          · rintro w ⟨s0, d0, d1, d2, d3⟩
            go_simp
          simp only [Act.put, List.setIfInBounds_toArray, List.set_cons_zero, List.set_cons_succ]
          refine wpAnyZ_take (i := 2) (oi := { dst := some 62, op := Op.move (Operand.tmp 7), type := 28, pos := "law.go:158", after := #[], guard := none }) (v := .slice (some ⟨gp, 0, none⟩) 4 4) rfl (by kernel_rfl) (by kernel_rfl) (by kernel_rfl) (by kernel_rfl) (fun _ _ _ h => h) (Or.inl ⟨by rfl, ?_⟩) (SK.out _ tV) ?_
          · rintro w ⟨s0, d0, d1, d2, d3⟩
            go_simp
          simp only [Act.put, List.setIfInBounds_toArray, List.set_cons_zero, List.set_cons_succ]
          refine wpAnyZ_take (i := 3) (oi := { dst := some 63, op := Op.move (Operand.tmp 11), type := 3, pos := "law.go:158", after := #[], guard := none }) (v := .int .i64 (kk : Nat)) rfl (by kernel_rfl) (by kernel_rfl) (by kernel_rfl) (by kernel_rfl) (fun _ _ _ h => h) (Or.inl ⟨by rfl, ?_⟩) (SK.out _ tV) ?_
          · rintro w ⟨s0, d0, d1, d2, d3⟩
            go_simp
          simp only [Act.put, List.setIfInBounds_toArray, List.set_cons_zero, List.set_cons_succ]
          refine wpAnyZ_take (i := 4) (oi := { dst := some 64, op := Op.indexAddr 28 (Operand.tmp 62) (Operand.tmp 63), type := 0, pos := "law.go:158", after := #[{ on := 2, ground := Ground.data }, { on := 3, ground := Ground.data }], guard := none }) (v := .pointer (some ⟨gp, kk, none⟩)) rfl (by kernel_rfl) (by kernel_rfl) (by kernel_rfl) (by kernel_rfl) (fun _ _ _ h => h) (Or.inl ⟨by rfl, ?_⟩) (SK.out _ tV) ?_
          · rintro w ⟨s0, d0, d1, d2, d3⟩
            go_simp
          simp only [Act.put, List.setIfInBounds_toArray, List.set_cons_zero, List.set_cons_succ]
          refine wpAnyZ_take (i := 5) (oi := { dst := some 65, op := Op.load 27 (Operand.tmp 64), type := 27, pos := "law.go:158", after := #[{ on := 4, ground := Ground.data }], guard := none }) (v := .slice ra r.length rc) rfl (by kernel_rfl) (by kernel_rfl) (by kernel_rfl) (by kernel_rfl) (fun _ _ _ h => h) (Or.inl ⟨by rfl, ?_⟩) (SK.out _ tV) ?_
          · rintro w ⟨s0, d0, d1, d2, d3⟩
            go_simp
          simp only [Act.put, List.setIfInBounds_toArray, List.set_cons_zero, List.set_cons_succ]
          refine wpAnyZ_take (i := 6) (oi := { dst := some 66, op := Op.move (Operand.tmp 0), type := 27, pos := "law.go:158", after := #[], guard := none }) (v := .slice (some ⟨b, off, none⟩) n c) rfl (by kernel_rfl) (by kernel_rfl) (by kernel_rfl) (by kernel_rfl) (fun _ _ _ h => h) (Or.inl ⟨by rfl, ?_⟩) (SK.out _ tV) ?_
          · rintro w ⟨s0, d0, d1, d2, d3⟩
            go_simp
          simp only [Act.put, List.setIfInBounds_toArray, List.set_cons_zero, List.set_cons_succ]
          refine wpAnyZ_take (i := 7) (oi := { dst := some 67, op := Op.move (Operand.tmp 9), type := 3, pos := "law.go:158", after := #[], guard := none }) (v := .int .i64 (i : Nat)) rfl (by kernel_rfl) (by kernel_rfl) (by kernel_rfl) (by kernel_rfl) (fun _ _ _ h => h) (Or.inl ⟨by rfl, ?_⟩) (SK.out _ tV) ?_
          · rintro w ⟨s0, d0, d1, d2, d3⟩
            go_simp
          simp only [Act.put, List.setIfInBounds_toArray, List.set_cons_zero, List.set_cons_succ]
          refine wpAnyZ_take (i := 8) (oi := { dst := some 68, op := Op.indexAddr 27 (Operand.tmp 66) (Operand.tmp 67), type := 0, pos := "law.go:158", after := #[{ on := 6, ground := Ground.data }, { on := 7, ground := Ground.data }], guard := none }) (v := .pointer (some ⟨b, off + i * 4, none⟩)) rfl (by kernel_rfl) (by kernel_rfl) (by kernel_rfl) (by kernel_rfl) (fun _ _ _ h => h) (Or.inl ⟨by rfl, ?_⟩) (SK.out _ tV) ?_
          · rintro w ⟨s0, d0, d1, d2, d3⟩
            go_simp
          simp only [Act.put, List.setIfInBounds_toArray, List.set_cons_zero, List.set_cons_succ]
          refine wpAnyZ_take (i := 9) (oi := { dst := some 69, op := Op.load 25 (Operand.tmp 68), type := 25, pos := "law.go:158", after := #[{ on := 8, ground := Ground.data }], guard := none }) (v := .agg #[.slice xa kn xc, .int .u64 (sq : Nat), .int .i64 kd, .slice xv vn xd]) rfl (by kernel_rfl) (by kernel_rfl) (by kernel_rfl) (by kernel_rfl) (fun _ _ _ h => h) (Or.inl ⟨by rfl, ?_⟩) (SK.out _ tV) ?_
          · rintro w ⟨s0, d0, d1, d2, d3⟩
            go_simp
          simp only [Act.put, List.setIfInBounds_toArray, List.set_cons_zero, List.set_cons_succ]
          refine wpAnyZ_ready (rs := [10]) (by kernel_rfl) (by simp) ?_
          refine AllReadyZ.cons rfl (fun K hK => ?_) AllReadyZ.nil
          go_simp
          refine (PT.out _ tV).mono ?_
          rintro oo V ⟨g2, c2, rfl, hg2, hc2, hr2, b6⟩
          have t6 := Turns.of_below b6 (fun _ => False)
          have tV := tV.trans t6
          go_simp
          refine hK.out _ _ (SK.out _ tV) (fun _ => ?_)
          clear hK K
          have f0 := FRZ.out _ tV
          have c0 := (SK.out _ tV).1
          refine wpAnyZ_take (i := 11) (oi := { dst := some 71, op := Op.indexAddr 28 (Operand.tmp 60) (Operand.tmp 61), type := 0, pos := "law.go:158", after := #[{ on := 0, ground := Ground.data }, { on := 1, ground := Ground.data }, { on := 0, ground := Ground.phase }, { on := 1, ground := Ground.phase }, { on := 2, ground := Ground.phase }, { on := 3, ground := Ground.phase }, { on := 4, ground := Ground.phase }, { on := 5, ground := Ground.phase }, { on := 6, ground := Ground.phase }, { on := 7, ground := Ground.phase }, { on := 8, ground := Ground.phase }, { on := 9, ground := Ground.phase }, { on := 10, ground := Ground.phase }], guard := none }) (v := .pointer (some ⟨gp, kk, none⟩)) rfl (by kernel_rfl) (by kernel_rfl) (by kernel_rfl) (by kernel_rfl) (fun _ _ _ h => h) (Or.inl ⟨by rfl, ?_⟩) (SK.out _ tV) ?_
          · rintro w ⟨s0, d0, d1, d2, d3⟩
            go_simp
          simp only [Act.put, List.setIfInBounds_toArray, List.set_cons_zero, List.set_cons_succ]
          refine wpAnyZ_ready (rs := [12]) (by kernel_rfl) (by simp) ?_
          refine AllReadyZ.free rfl (by kernel_rfl) (fun K hK => ?_) AllReadyZ.nil
          go_simp
          refine hK.out _ _ ?_
          clear hK K
          refine wpAnyZ_done (by kernel_rfl) ?_ _
          have D6 := hide (PUT5.out V (then_below ((Turns.refl (fun _ => False) w5).drew.below (Nat.le_refl _) (fun _ x => x.elim)) b6 (Nat.le_refl _)) g2 c2 hg2 hc2 hr2)
          go_wp2_with fail
          go_roundw
          case rel => exact ⟨i + 1, putL x Q, _, by go_num, by omega, by rw [putL_length]; omega, D6.out⟩
          case measure => simp [intOf]; omega
        · have j1 : ¬ (i : Int) < pn := by omega
          have D5 := hide (DM.out.quiet B5.out)
          obtain ⟨cs, k1, k2, k3⟩ := D5.out.blk
          obtain ⟨r, hr⟩ : ∃ r, rows[0]? = some r := ⟨_, List.getElem?_eq_getElem (by have := D5.out.four; omega)⟩
          obtain ⟨rv, hrv, hre, hrn⟩ := k3 0 r hr
          obtain ⟨ra, rc, rfl⟩ := hre.len
          have hrsub : ∀ y, y ∈ r → y ∈ l := fun y hy => D5.out.sub y (D5.out.dealt.sub r (List.mem_of_getElem? hr) y hy)
          have HRL := hide (show r.length ≤ 1000 by
            have h1 : r.length ≤ Q.length := D5.out.dealt.short (List.mem_of_getElem? hr)
            omega)
          have PT := hide (fun (u : World) (tt : Turns (fun _ => False) w5 u) => rputE_any (.slice ra r.length rc) r x w2.heap.size u (hre.keep tt (fun _ _ x => x)) (fun y hy => QB.out u (T5.out.trans tt) y (hrsub y hy)) HRL.out (QB.out u (T5.out.trans tt) x hxm).1 (by have := KB.out x hxm; omega) (fun y hy => by have := KB.out y (hrsub y hy); omega))
          have FRZ := hide (fun (u : World) (tt : Turns (fun _ => False) w5 u) => frozen_of_row u gp 0 _ 27 (tt.heap k1 (fun x => x)))
          have GC := hide (show w5.cell? ⟨gp, 0, none⟩ = some (.slice ra r.length rc) by rw [cell_of_row w5 gp 0 _ 27 (0, 0) k1]; exact hrv)
          have HR := hide hr
          have PUT5 := hide (fun (V : World) (tt : Below w5.heap.size w5 V) (g2 c2 : Nat) (hg2 : w5.heap.size ≤ g2) (hc2 : r.length + 1 ≤ c2) (hr2 : RowC V g2 25 (c2 * 4) (entCells (putL x r))) => DM.out.put hxm HOD.out hr (then_below B4.out B45.out (Nat.le_refl _)) R1.out.1 R1.out.2.1 (by obtain ⟨cz, z1, z2, z3⟩ := R1.out.2.2; exact ⟨cz, heap_keep B45.out z1, z2, z3⟩) tt hg2 hc2 hr2)
          have tw45 := (Turns.of_below B5.out (fun _ => False))
          have c0 := tw45.cell c0 (fun x => x)
          have c1 := tw45.cell c1 (fun x => x)
          have c2 := tw45.cell c2 (fun x => x)
          have c3 := tw45.cell c3 (fun x => x)
          have PT := hide (show ∀ (u : World), Turns (fun _ => False) w5 u → Calls Try.prog 27 #[.slice ra r.length rc, .agg #[.slice x.ka x.e.key.length x.kc, .int .u64 (x.e.seq : Nat), .int .i64 x.e.kind, .slice x.va x.e.val.length x.vc]] u (PutOk u x r) from PT.out)
          generalize x.ka = xa at c0 PT
          generalize x.kc = xc at c0 PT
          generalize x.va = xv at c3 PT
          generalize x.vc = xd at c3 PT
          generalize x.e.key.length = kn at c0 PT
          generalize x.e.val.length = vn at c3 PT
          generalize x.e.seq = sq at c1 PT
          generalize x.e.kind = kd at c2 PT
          clear k1 k2 k3 hre hrn hr hrsub hrv tw45 hc hb1
          have SK := hide (fun (u : World) (tt : Turns (fun _ => False) w5 u) => show F7 u gp 0 (.slice ra r.length rc) b (off + i * 4) xa kn xc sq kd xv vn xd from ⟨tt.cell GC.out (fun x => x), tt.cell c0 (fun x => x), tt.cell c1 (fun x => x), tt.cell c2 (fun x => x), tt.cell c3 (fun x => x)⟩)
          have tV : Turns (fun _ => False) w5 w5.drew := (Turns.refl _ _).drew
          go_upto_region 16 with (fail)
          refine wp_region_z_drew 12 (S := fun u => F7 u gp 0 (.slice ra r.length rc) b (off + i * 4) xa kn xc sq kd xv vn xd) (by kernel_rfl) (SK.out _ tV) (fun _ => ?_)
          change wpAnyZ _ _ _ _ _ _ 13 (Array.replicate 13 false) _ _
          refine wpAnyZ_take (i := 0) (oi := { dst := some 60, op := Op.move (Operand.tmp 7), type := 28, pos := "law.go:158", after := #[], guard := none }) (v := .slice (some ⟨gp, 0, none⟩) 4 4) rfl (by kernel_rfl) (by kernel_rfl) (by kernel_rfl) (by kernel_rfl) (fun _ _ _ h => h) (Or.inl ⟨by rfl, ?_⟩) (SK.out _ tV) ?_
          · rintro w ⟨s0, d0, d1, d2, d3⟩
            go_simp
          simp only [Act.put, List.setIfInBounds_toArray, List.set_cons_zero, List.set_cons_succ]
          refine wpAnyZ_take (i := 1) (oi := { dst := some 61, op := Op.move (Operand.tmp 11), type := 3, pos := "law.go:158", after := #[], guard := none }) (v := .int .i64 0) rfl (by kernel_rfl) (by kernel_rfl) (by kernel_rfl) (by kernel_rfl) (fun _ _ _ h => h) (Or.inl ⟨by rfl, ?_⟩) (SK.out _ tV) ?_
          · rintro w ⟨s0, d0, d1, d2, d3⟩
            go_simp
          simp only [Act.put, List.setIfInBounds_toArray, List.set_cons_zero, List.set_cons_succ]
          refine wpAnyZ_take (i := 2) (oi := { dst := some 62, op := Op.move (Operand.tmp 7), type := 28, pos := "law.go:158", after := #[], guard := none }) (v := .slice (some ⟨gp, 0, none⟩) 4 4) rfl (by kernel_rfl) (by kernel_rfl) (by kernel_rfl) (by kernel_rfl) (fun _ _ _ h => h) (Or.inl ⟨by rfl, ?_⟩) (SK.out _ tV) ?_
          · rintro w ⟨s0, d0, d1, d2, d3⟩
            go_simp
          simp only [Act.put, List.setIfInBounds_toArray, List.set_cons_zero, List.set_cons_succ]
          refine wpAnyZ_take (i := 3) (oi := { dst := some 63, op := Op.move (Operand.tmp 11), type := 3, pos := "law.go:158", after := #[], guard := none }) (v := .int .i64 0) rfl (by kernel_rfl) (by kernel_rfl) (by kernel_rfl) (by kernel_rfl) (fun _ _ _ h => h) (Or.inl ⟨by rfl, ?_⟩) (SK.out _ tV) ?_
          · rintro w ⟨s0, d0, d1, d2, d3⟩
            go_simp
          simp only [Act.put, List.setIfInBounds_toArray, List.set_cons_zero, List.set_cons_succ]
          refine wpAnyZ_take (i := 4) (oi := { dst := some 64, op := Op.indexAddr 28 (Operand.tmp 62) (Operand.tmp 63), type := 0, pos := "law.go:158", after := #[{ on := 2, ground := Ground.data }, { on := 3, ground := Ground.data }], guard := none }) (v := .pointer (some ⟨gp, 0, none⟩)) rfl (by kernel_rfl) (by kernel_rfl) (by kernel_rfl) (by kernel_rfl) (fun _ _ _ h => h) (Or.inl ⟨by rfl, ?_⟩) (SK.out _ tV) ?_
          · rintro w ⟨s0, d0, d1, d2, d3⟩
            go_simp
          simp only [Act.put, List.setIfInBounds_toArray, List.set_cons_zero, List.set_cons_succ]
          refine wpAnyZ_take (i := 5) (oi := { dst := some 65, op := Op.load 27 (Operand.tmp 64), type := 27, pos := "law.go:158", after := #[{ on := 4, ground := Ground.data }], guard := none }) (v := .slice ra r.length rc) rfl (by kernel_rfl) (by kernel_rfl) (by kernel_rfl) (by kernel_rfl) (fun _ _ _ h => h) (Or.inl ⟨by rfl, ?_⟩) (SK.out _ tV) ?_
          · rintro w ⟨s0, d0, d1, d2, d3⟩
            go_simp
          simp only [Act.put, List.setIfInBounds_toArray, List.set_cons_zero, List.set_cons_succ]
          refine wpAnyZ_take (i := 6) (oi := { dst := some 66, op := Op.move (Operand.tmp 0), type := 27, pos := "law.go:158", after := #[], guard := none }) (v := .slice (some ⟨b, off, none⟩) n c) rfl (by kernel_rfl) (by kernel_rfl) (by kernel_rfl) (by kernel_rfl) (fun _ _ _ h => h) (Or.inl ⟨by rfl, ?_⟩) (SK.out _ tV) ?_
          · rintro w ⟨s0, d0, d1, d2, d3⟩
            go_simp
          simp only [Act.put, List.setIfInBounds_toArray, List.set_cons_zero, List.set_cons_succ]
          refine wpAnyZ_take (i := 7) (oi := { dst := some 67, op := Op.move (Operand.tmp 9), type := 3, pos := "law.go:158", after := #[], guard := none }) (v := .int .i64 (i : Nat)) rfl (by kernel_rfl) (by kernel_rfl) (by kernel_rfl) (by kernel_rfl) (fun _ _ _ h => h) (Or.inl ⟨by rfl, ?_⟩) (SK.out _ tV) ?_
          · rintro w ⟨s0, d0, d1, d2, d3⟩
            go_simp
          simp only [Act.put, List.setIfInBounds_toArray, List.set_cons_zero, List.set_cons_succ]
          refine wpAnyZ_take (i := 8) (oi := { dst := some 68, op := Op.indexAddr 27 (Operand.tmp 66) (Operand.tmp 67), type := 0, pos := "law.go:158", after := #[{ on := 6, ground := Ground.data }, { on := 7, ground := Ground.data }], guard := none }) (v := .pointer (some ⟨b, off + i * 4, none⟩)) rfl (by kernel_rfl) (by kernel_rfl) (by kernel_rfl) (by kernel_rfl) (fun _ _ _ h => h) (Or.inl ⟨by rfl, ?_⟩) (SK.out _ tV) ?_
          · rintro w ⟨s0, d0, d1, d2, d3⟩
            go_simp
          simp only [Act.put, List.setIfInBounds_toArray, List.set_cons_zero, List.set_cons_succ]
          refine wpAnyZ_take (i := 9) (oi := { dst := some 69, op := Op.load 25 (Operand.tmp 68), type := 25, pos := "law.go:158", after := #[{ on := 8, ground := Ground.data }], guard := none }) (v := .agg #[.slice xa kn xc, .int .u64 (sq : Nat), .int .i64 kd, .slice xv vn xd]) rfl (by kernel_rfl) (by kernel_rfl) (by kernel_rfl) (by kernel_rfl) (fun _ _ _ h => h) (Or.inl ⟨by rfl, ?_⟩) (SK.out _ tV) ?_
          · rintro w ⟨s0, d0, d1, d2, d3⟩
            go_simp
          simp only [Act.put, List.setIfInBounds_toArray, List.set_cons_zero, List.set_cons_succ]
          refine wpAnyZ_ready (rs := [10]) (by kernel_rfl) (by simp) ?_
          refine AllReadyZ.cons rfl (fun K hK => ?_) AllReadyZ.nil
          go_simp
          refine (PT.out _ tV).mono ?_
          rintro oo V ⟨g2, c2, rfl, hg2, hc2, hr2, b6⟩
          have t6 := Turns.of_below b6 (fun _ => False)
          have tV := tV.trans t6
          go_simp
          refine hK.out _ _ (SK.out _ tV) (fun _ => ?_)
          clear hK K
          have f0 := FRZ.out _ tV
          have c0 := (SK.out _ tV).1
          refine wpAnyZ_take (i := 11) (oi := { dst := some 71, op := Op.indexAddr 28 (Operand.tmp 60) (Operand.tmp 61), type := 0, pos := "law.go:158", after := #[{ on := 0, ground := Ground.data }, { on := 1, ground := Ground.data }, { on := 0, ground := Ground.phase }, { on := 1, ground := Ground.phase }, { on := 2, ground := Ground.phase }, { on := 3, ground := Ground.phase }, { on := 4, ground := Ground.phase }, { on := 5, ground := Ground.phase }, { on := 6, ground := Ground.phase }, { on := 7, ground := Ground.phase }, { on := 8, ground := Ground.phase }, { on := 9, ground := Ground.phase }, { on := 10, ground := Ground.phase }], guard := none }) (v := .pointer (some ⟨gp, 0, none⟩)) rfl (by kernel_rfl) (by kernel_rfl) (by kernel_rfl) (by kernel_rfl) (fun _ _ _ h => h) (Or.inl ⟨by rfl, ?_⟩) (SK.out _ tV) ?_
          · rintro w ⟨s0, d0, d1, d2, d3⟩
            go_simp
          simp only [Act.put, List.setIfInBounds_toArray, List.set_cons_zero, List.set_cons_succ]
          refine wpAnyZ_ready (rs := [12]) (by kernel_rfl) (by simp) ?_
          refine AllReadyZ.free rfl (by kernel_rfl) (fun K hK => ?_) AllReadyZ.nil
          go_simp
          refine hK.out _ _ ?_
          clear hK K
          refine wpAnyZ_done (by kernel_rfl) ?_ _
          have D6 := hide (PUT5.out V (then_below ((Turns.refl (fun _ => False) w5).drew.below (Nat.le_refl _) (fun _ x => x.elim)) b6 (Nat.le_refl _)) g2 c2 hg2 hc2 hr2)
          go_wp2_with fail
          go_roundw
          case rel => exact ⟨i + 1, putL x Q, _, by go_num, by omega, by rw [putL_length]; omega, D6.out⟩
          case measure => simp [intOf]; omega
    · have i1 : ¬ (i : Int) < n := by omega
      have hQ150 : Q.length ≤ 150 := by omega
      have BW := hide (QB.out wr TW.out)
      obtain ⟨L1, L2, hl1, hl2, hdl, hri⟩ := DM.out.split BW.out hQ150
      have HD := hide hdl
      have HRI := hide hri
      have FW := hide (few_of (l := l) HD.out DM.out.sub (by have := HN.out; omega) HWL.out rfl (by rw [List.length_append, hl1, hl2]; omega))
      have HL4 := hide (show 4 = (L1 ++ L2).length by rw [List.length_append, hl1, hl2])
      have HL1 := hide hl1
      have HL2 := hide hl2
      obtain ⟨aa2, ac2, e2, hen, _, _⟩ := ents_row DM.out.all (fun x hx => BW.out x (DM.out.sub x hx))
      cases e2
      have HEN := hide hen
      have KQ := hide (show ∀ x, x ∈ Q → x.e.key.length ≤ 15000 from fun x hx => (KB.out x (DM.out.sub x hx)).1)
      have INQ := hide (show InRs (L1 ++ L2) Q from fun x hx => by
        obtain ⟨r, h1, h2⟩ := HD.out.all x hx
        obtain ⟨z, h3, rfl⟩ := List.mem_map.1 h1
        exact List.mem_flatMap.2 ⟨z, h3, h2⟩)
      generalize hlq : Q.length = ln at *
      have HLQ := hide hlq
      have hlni : (ln : Int) ≤ 150 := by omega
      clear hdl hri hl1 hl2 hen hlq DM QB QL D0 H0 HP HFIT KB HWL HN HMX BW hgp T2 hQ
      go_wp2_with fail
      refine (copy_any (some ⟨gp, 0, none⟩) 4 4 (L1 ++ L2) wr HRI.out HL4.out FW.out).mono ?_
      rintro e w6 ⟨a6, n6, c6, p6, rfl, hc6, b6⟩
      have T6 := hide (Turns.of_below b6 (fun _ => False))
      have CO6 := hide hc6
      clear hc6 b6
      go_wp2_with fail
      refine (seenC_any a6 n6 c6 p6 (L1 ++ L2) seq w6 CO6.out).mono ?_
      rintro e w7 ⟨a7, n7, c7, R7, rfl, hg7, ho7, b7⟩
      rw [HD.out.ords, show ordE true = 0 from rfl]
      have T7 := hide (T6.out.trans (Turns.of_below b7 (fun _ => False)))
      obtain ⟨p6a, p6c, p6e, p6r⟩ := CO6.out.ex
      have E7 := hide (seen_dealt p6r CO6.out.ent HD.out (by rw [HLQ.out]; exact hQ150) ho7)
      have G7 := hide hg7
      clear hg7 ho7 b7 p6r p6e CO6 T6
      have EN7 := hide (HEN.out.quiet T7.out)
      have RI7 := hide (HRI.out.quiet T7.out)
      have TW7 := hide (TW.out.trans T7.out)
      clear HEN HRI TW T7
      go_wp2_with fail
      go_loopw [14, 15] (fun ov iv wx => ∃ (j : Nat) (W : List Tow), iv = .int .i64 (j : Nat) ∧ j ≤ ln ∧ ERow wx w7.heap.size ov W ∧ (∀ x, x ∈ W → x ∈ Q) ∧ W.map (·.e) = ((Q.map (·.e)).take j).filter (newest seq (Q.map (·.e))) ∧ Turns (fun _ => False) w7 wx) (fun _ iv _ => ln - (intOf iv).toNat)
      case atStart => exact ⟨0, [], rfl, Nat.zero_le _, .inl ⟨rfl, rfl⟩, fun x hx => (by cases hx), rfl, Turns.refl _ _⟩
      case round =>
        obtain ⟨wx, hwx⟩ : ∃ u, u = wr := ⟨_, rfl⟩
        subst hwx
        obtain ⟨j, W, rfl, hj, hE, hin, hm, ht⟩ := hrel
        obtain ⟨oa, oc, rfl⟩ := hE.len
        have HE := hide hE
        have HI := hide hin
        have HMM := hide hm
        have TT := hide ht
        have HRL := hide (show W.length ≤ 150 by
          have h1 := congrArg List.length hm
          have h2 := List.length_filter_le (newest seq (Q.map (·.e))) ((Q.map (·.e)).take j)
          rw [List.length_map] at h1
          rw [List.length_take] at h2
          omega)
        have hrli : (W.length : Int) ≤ 150 := by have := HRL.out; omega
        clear hE hin hm ht
        by_cases hjl : j < ln
        · obtain ⟨x, hx⟩ : ∃ x, Q[j]? = some x := ⟨_, List.getElem?_eq_getElem (by have := HLQ.out; omega)⟩
          obtain ⟨ab, ao, hab, hfx, hkx⟩ := fc_of (EN7.out.quiet TT.out) hx
          subst hab
          have j1 : (j : Int) < ln := by omega
          have j0 : (0 : Int) ≤ j := by omega
          have HX := hide hx
          have HXE := hide (show (Q.map (·.e))[j]? = some x.e by rw [List.getElem?_map, hx]; rfl)
          have STEP := hide (show ((Q.map (·.e)).take (j + 1)).filter (newest seq (Q.map (·.e))) = ((Q.map (·.e)).take j).filter (newest seq (Q.map (·.e))) ++ [x.e].filter (newest seq (Q.map (·.e))) by
            rw [List.take_add_one, HXE.out, List.filter_append]; rfl)
          have hkl := KQ.out x (List.mem_of_getElem? hx)
          have FX := hide hfx
          obtain ⟨x0, x1, x2, x3⟩ := hfx
          clear hx hkx
          go_wp2_with fail
          clear x0 x1 x2 x3
          go_loopw [16, 17] (fun bv kv wk => ∃ k : Nat, kv = .int .i64 (k : Nat) ∧ k ≤ ln ∧ bv = .bool (flag seq x.e ((Q.map (·.e)).take k)) ∧ Turns (fun _ => False) wx wk) (fun _ kv _ => ln - (intOf kv).toNat)
          case atStart => exact ⟨0, rfl, Nat.zero_le _, by simp [flag], Turns.refl _ _⟩
          case round =>
            obtain ⟨wk, hwk⟩ : ∃ u, u = wr := ⟨_, rfl⟩
            subst hwk
            obtain ⟨k, rfl, hk, rfl, htk⟩ := hrel
            have TK := hide htk
            clear htk
            by_cases hkl2 : k < ln
            · obtain ⟨y, hy⟩ : ∃ y, Q[k]? = some y := ⟨_, List.getElem?_eq_getElem (by have := HLQ.out; omega)⟩
              obtain ⟨ab', ao', hab, hfy, hkyb⟩ := fc_of (EN7.out.quiet (TT.out.trans TK.out)) hy
              cases hab
              have HYE := hide (show (Q.map (·.e))[k]? = some y.e by rw [List.getElem?_map, hy]; rfl)
              have hyl := KQ.out y (List.mem_of_getElem? hy)
              obtain ⟨_, _, e9, _, hkxb⟩ := fc_of (EN7.out.quiet (TT.out.trans TK.out)) HX.out
              clear e9
              have KEQ := hide (fun (u : World) (tt : Turns (fun _ => False) wk u) => bytesT_any y.ka x.ka y.e.key.length x.e.key.length y.kc x.kc y.e.key x.e.key u (hkyb.quiet tt) (hkxb.quiet tt) (by omega))
              have SK := hide (fun (u : World) (tt : Turns (fun _ => False) wk u) => show F26 u ab (ao + k * 4) (ao + j * 4) x y from ⟨tt.cell hfy.1 (fun x => x), tt.cell hfy.2.1 (fun x => x), (TK.out.trans tt).cell FX.out.1 (fun x => x), (TK.out.trans tt).cell FX.out.2.1 (fun x => x)⟩)
              have k1 : (k : Int) < ln := by omega
              have k0 : (0 : Int) ≤ k := by omega
              clear hfy hkyb hkxb hy
              by_cases hky : y.e.key = x.e.key
              · rw [show decide (y.e.key = x.e.key) = true by simpa using hky] at KEQ
                have HKY := hide hky
                clear hky
                by_cases hsq : y.e.seq ≤ seq
                · have hsqi : (y.e.seq : Int) ≤ seq := by omega
                  by_cases hgt : x.e.seq < y.e.seq
                  · have hgti : (x.e.seq : Int) < y.e.seq := by omega
                    go_upto_region 26 with (fail)
                    have tV : Turns (fun _ => False) wk wk.drew := (Turns.refl _ _).drew
                    refine wp_region_held_drew (S := fun u => F26 u ab (ao + k * 4) (ao + j * 4) x y) (by kernel_rfl) (SK.out _ tV) (fun _ => ?_)
                    change wpAnyH _ _ _ _ _ 33 (Array.replicate 33 false) _ _
                    refine wpAnyH_take (i := 0) (oi := { dst := some 98, op := Op.move (Operand.tmp 8), type := 27, pos := "law.go:165", after := #[], guard := none }) (v := .slice (some ⟨ab, ao, none⟩) ln ac) rfl (by kernel_rfl) (by kernel_rfl) (by kernel_rfl) (fun _ _ _ h => h) (Or.inl ⟨by rfl, ?_⟩) (SK.out _ tV) ?_
                    · rintro w ⟨d0, d1, d2, d3⟩
                      go_simp
                    simp only [Act.put, List.setIfInBounds_toArray, List.set_cons_zero, List.set_cons_succ]
                    refine wpAnyH_take (i := 1) (oi := { dst := some 99, op := Op.move (Operand.tmp 17), type := 3, pos := "law.go:165", after := #[], guard := none }) (v := .int .i64 (k : Nat)) rfl (by kernel_rfl) (by kernel_rfl) (by kernel_rfl) (fun _ _ _ h => h) (Or.inl ⟨by rfl, ?_⟩) (SK.out _ tV) ?_
                    · rintro w ⟨d0, d1, d2, d3⟩
                      go_simp
                    simp only [Act.put, List.setIfInBounds_toArray, List.set_cons_zero, List.set_cons_succ]
                    refine wpAnyH_take (i := 2) (oi := { dst := some 100, op := Op.indexAddr 27 (Operand.tmp 98) (Operand.tmp 99), type := 0, pos := "law.go:165", after := #[{ on := 0, ground := Ground.data }, { on := 1, ground := Ground.data }], guard := none }) (v := .pointer (some ⟨ab, ao + k * 4, none⟩)) rfl (by kernel_rfl) (by kernel_rfl) (by kernel_rfl) (fun _ _ _ h => h) (Or.inl ⟨by rfl, ?_⟩) (SK.out _ tV) ?_
                    · rintro w ⟨d0, d1, d2, d3⟩
                      go_simp
                    simp only [Act.put, List.setIfInBounds_toArray, List.set_cons_zero, List.set_cons_succ]
                    refine wpAnyH_take (i := 3) (oi := { dst := some 101, op := Op.fieldAddr 25 (Operand.tmp 100) 0, type := 0, pos := "law.go:165", after := #[{ on := 2, ground := Ground.data }], guard := none }) (v := .pointer (some ⟨ab, ao + k * 4, none⟩)) rfl (by kernel_rfl) (by kernel_rfl) (by kernel_rfl) (fun _ _ _ h => h) (Or.inl ⟨by rfl, ?_⟩) (SK.out _ tV) ?_
                    · rintro w ⟨d0, d1, d2, d3⟩
                      go_simp
                    simp only [Act.put, List.setIfInBounds_toArray, List.set_cons_zero, List.set_cons_succ]
                    refine wpAnyH_take (i := 4) (oi := { dst := some 102, op := Op.load 22 (Operand.tmp 101), type := 22, pos := "law.go:165", after := #[{ on := 3, ground := Ground.data }], guard := none }) (v := .slice y.ka y.e.key.length y.kc) rfl (by kernel_rfl) (by kernel_rfl) (by kernel_rfl) (fun _ _ _ h => h) (Or.inl ⟨by rfl, ?_⟩) (SK.out _ tV) ?_
                    · rintro w ⟨d0, d1, d2, d3⟩
                      go_simp
                    simp only [Act.put, List.setIfInBounds_toArray, List.set_cons_zero, List.set_cons_succ]
                    refine wpAnyH_take (i := 5) (oi := { dst := some 103, op := Op.move (Operand.tmp 8), type := 27, pos := "law.go:165", after := #[], guard := none }) (v := .slice (some ⟨ab, ao, none⟩) ln ac) rfl (by kernel_rfl) (by kernel_rfl) (by kernel_rfl) (fun _ _ _ h => h) (Or.inl ⟨by rfl, ?_⟩) (SK.out _ tV) ?_
                    · rintro w ⟨d0, d1, d2, d3⟩
                      go_simp
                    simp only [Act.put, List.setIfInBounds_toArray, List.set_cons_zero, List.set_cons_succ]
                    refine wpAnyH_take (i := 6) (oi := { dst := some 104, op := Op.move (Operand.tmp 15), type := 3, pos := "law.go:165", after := #[], guard := none }) (v := .int .i64 (j : Nat)) rfl (by kernel_rfl) (by kernel_rfl) (by kernel_rfl) (fun _ _ _ h => h) (Or.inl ⟨by rfl, ?_⟩) (SK.out _ tV) ?_
                    · rintro w ⟨d0, d1, d2, d3⟩
                      go_simp
                    simp only [Act.put, List.setIfInBounds_toArray, List.set_cons_zero, List.set_cons_succ]
                    refine wpAnyH_take (i := 7) (oi := { dst := some 105, op := Op.indexAddr 27 (Operand.tmp 103) (Operand.tmp 104), type := 0, pos := "law.go:165", after := #[{ on := 5, ground := Ground.data }, { on := 6, ground := Ground.data }], guard := none }) (v := .pointer (some ⟨ab, ao + j * 4, none⟩)) rfl (by kernel_rfl) (by kernel_rfl) (by kernel_rfl) (fun _ _ _ h => h) (Or.inl ⟨by rfl, ?_⟩) (SK.out _ tV) ?_
                    · rintro w ⟨d0, d1, d2, d3⟩
                      go_simp
                    simp only [Act.put, List.setIfInBounds_toArray, List.set_cons_zero, List.set_cons_succ]
                    refine wpAnyH_take (i := 8) (oi := { dst := some 106, op := Op.fieldAddr 25 (Operand.tmp 105) 0, type := 0, pos := "law.go:165", after := #[{ on := 7, ground := Ground.data }], guard := none }) (v := .pointer (some ⟨ab, ao + j * 4, none⟩)) rfl (by kernel_rfl) (by kernel_rfl) (by kernel_rfl) (fun _ _ _ h => h) (Or.inl ⟨by rfl, ?_⟩) (SK.out _ tV) ?_
                    · rintro w ⟨d0, d1, d2, d3⟩
                      go_simp
                    simp only [Act.put, List.setIfInBounds_toArray, List.set_cons_zero, List.set_cons_succ]
                    refine wpAnyH_take (i := 9) (oi := { dst := some 107, op := Op.load 22 (Operand.tmp 106), type := 22, pos := "law.go:165", after := #[{ on := 8, ground := Ground.data }], guard := none }) (v := .slice x.ka x.e.key.length x.kc) rfl (by kernel_rfl) (by kernel_rfl) (by kernel_rfl) (fun _ _ _ h => h) (Or.inl ⟨by rfl, ?_⟩) (SK.out _ tV) ?_
                    · rintro w ⟨d0, d1, d2, d3⟩
                      go_simp
                    simp only [Act.put, List.setIfInBounds_toArray, List.set_cons_zero, List.set_cons_succ]
                    refine wpAnyH_ready (rs := [10]) (by kernel_rfl) (by simp) ?_
                    refine AllReadyH.cons rfl (fun K hK => ?_) AllReadyH.nil
                    go_simp
                    refine (KEQ.out _ tV).mono ?_
                    rintro oo Vn ⟨rfl, tN⟩
                    have tV := tV.trans tN
                    clear tN
                    go_simp
                    refine hK.out _ _ (SK.out _ tV) (fun _ => ?_)
                    clear hK K
                    refine wpAnyH_take (i := 11) (oi := { dst := some 109, op := Op.move (Operand.tmp 108), type := 4, pos := "law.go:165", after := #[{ on := 10, ground := Ground.data }, { on := 10, ground := Ground.chain }], guard := none }) (v := .bool true) rfl (by kernel_rfl) (by kernel_rfl) (by kernel_rfl) (fun _ _ _ h => h) (Or.inl ⟨by rfl, ?_⟩) (SK.out _ tV) ?_
                    · rintro w ⟨d0, d1, d2, d3⟩
                      go_simp
                    simp only [Act.put, List.setIfInBounds_toArray, List.set_cons_zero, List.set_cons_succ]
                    refine wpAnyH_take (i := 12) (oi := { dst := some 110, op := Op.move (Operand.tmp 8), type := 27, pos := "law.go:165", after := #[{ on := 11, ground := Ground.guard }], guard := some (11, true) }) (v := .slice (some ⟨ab, ao, none⟩) ln ac) rfl (by kernel_rfl) (by kernel_rfl) (by kernel_rfl) (fun _ _ _ h => h) (Or.inl ⟨by rfl, ?_⟩) (SK.out _ tV) ?_
                    · rintro w ⟨d0, d1, d2, d3⟩
                      go_simp
                    simp only [Act.put, List.setIfInBounds_toArray, List.set_cons_zero, List.set_cons_succ]
                    refine wpAnyH_take (i := 13) (oi := { dst := some 111, op := Op.move (Operand.tmp 17), type := 3, pos := "law.go:165", after := #[{ on := 11, ground := Ground.guard }], guard := some (11, true) }) (v := .int .i64 (k : Nat)) rfl (by kernel_rfl) (by kernel_rfl) (by kernel_rfl) (fun _ _ _ h => h) (Or.inl ⟨by rfl, ?_⟩) (SK.out _ tV) ?_
                    · rintro w ⟨d0, d1, d2, d3⟩
                      go_simp
                    simp only [Act.put, List.setIfInBounds_toArray, List.set_cons_zero, List.set_cons_succ]
                    refine wpAnyH_take (i := 14) (oi := { dst := some 112, op := Op.indexAddr 27 (Operand.tmp 110) (Operand.tmp 111), type := 0, pos := "law.go:165", after := #[{ on := 12, ground := Ground.data }, { on := 13, ground := Ground.data }, { on := 11, ground := Ground.guard }], guard := some (11, true) }) (v := .pointer (some ⟨ab, ao + k * 4, none⟩)) rfl (by kernel_rfl) (by kernel_rfl) (by kernel_rfl) (fun _ _ _ h => h) (Or.inl ⟨by rfl, ?_⟩) (SK.out _ tV) ?_
                    · rintro w ⟨d0, d1, d2, d3⟩
                      go_simp
                    simp only [Act.put, List.setIfInBounds_toArray, List.set_cons_zero, List.set_cons_succ]
                    refine wpAnyH_take (i := 15) (oi := { dst := some 113, op := Op.fieldAddr 25 (Operand.tmp 112) 1, type := 0, pos := "law.go:165", after := #[{ on := 14, ground := Ground.data }, { on := 11, ground := Ground.guard }], guard := some (11, true) }) (v := .pointer (some ⟨ab, ao + k * 4 + 1, none⟩)) rfl (by kernel_rfl) (by kernel_rfl) (by kernel_rfl) (fun _ _ _ h => h) (Or.inl ⟨by rfl, ?_⟩) (SK.out _ tV) ?_
                    · rintro w ⟨d0, d1, d2, d3⟩
                      go_simp
                    simp only [Act.put, List.setIfInBounds_toArray, List.set_cons_zero, List.set_cons_succ]
                    refine wpAnyH_take (i := 16) (oi := { dst := some 114, op := Op.load 23 (Operand.tmp 113), type := 23, pos := "law.go:165", after := #[{ on := 15, ground := Ground.data }, { on := 11, ground := Ground.guard }], guard := some (11, true) }) (v := .int .u64 (y.e.seq : Nat)) rfl (by kernel_rfl) (by kernel_rfl) (by kernel_rfl) (fun _ _ _ h => h) (Or.inl ⟨by rfl, ?_⟩) (SK.out _ tV) ?_
                    · rintro w ⟨d0, d1, d2, d3⟩
                      go_simp
                    simp only [Act.put, List.setIfInBounds_toArray, List.set_cons_zero, List.set_cons_succ]
                    refine wpAnyH_take (i := 17) (oi := { dst := some 115, op := Op.move (Operand.tmp 2), type := 23, pos := "law.go:165", after := #[{ on := 11, ground := Ground.guard }], guard := some (11, true) }) (v := .int .u64 (seq : Nat)) rfl (by kernel_rfl) (by kernel_rfl) (by kernel_rfl) (fun _ _ _ h => h) (Or.inl ⟨by rfl, ?_⟩) (SK.out _ tV) ?_
                    · rintro w ⟨d0, d1, d2, d3⟩
                      go_simp
                    simp only [Act.put, List.setIfInBounds_toArray, List.set_cons_zero, List.set_cons_succ]
                    refine wpAnyH_take (i := 18) (oi := { dst := some 116, op := Op.binOp BinOp.leq 23 (Operand.tmp 114) (Operand.tmp 115) 23, type := 4, pos := "law.go:165", after := #[{ on := 16, ground := Ground.data }, { on := 17, ground := Ground.data }, { on := 11, ground := Ground.guard }], guard := some (11, true) }) (v := .bool true) rfl (by kernel_rfl) (by kernel_rfl) (by kernel_rfl) (fun _ _ _ h => h) (Or.inl ⟨by rfl, ?_⟩) (SK.out _ tV) ?_
                    · rintro w ⟨d0, d1, d2, d3⟩
                      go_simp
                    simp only [Act.put, List.setIfInBounds_toArray, List.set_cons_zero, List.set_cons_succ]
                    refine wpAnyH_take (i := 19) (oi := { dst := some 117, op := Op.pick (Operand.tmp 109) (Operand.tmp 116) (Operand.const (Value.bool false)), type := 4, pos := "law.go:165", after := #[{ on := 11, ground := Ground.data }, { on := 18, ground := Ground.data }], guard := none }) (v := .bool true) rfl (by kernel_rfl) (by kernel_rfl) (by kernel_rfl) (fun _ _ _ h => h) (Or.inl ⟨by rfl, ?_⟩) (SK.out _ tV) ?_
                    · rintro w ⟨d0, d1, d2, d3⟩
                      go_simp
                    simp only [Act.put, List.setIfInBounds_toArray, List.set_cons_zero, List.set_cons_succ]
                    refine wpAnyH_take (i := 20) (oi := { dst := some 118, op := Op.move (Operand.tmp 117), type := 4, pos := "law.go:165", after := #[{ on := 19, ground := Ground.data }, { on := 11, ground := Ground.chain }], guard := none }) (v := .bool true) rfl (by kernel_rfl) (by kernel_rfl) (by kernel_rfl) (fun _ _ _ h => h) (Or.inl ⟨by rfl, ?_⟩) (SK.out _ tV) ?_
                    · rintro w ⟨d0, d1, d2, d3⟩
                      go_simp
                    simp only [Act.put, List.setIfInBounds_toArray, List.set_cons_zero, List.set_cons_succ]
                    refine wpAnyH_take (i := 21) (oi := { dst := some 119, op := Op.move (Operand.tmp 8), type := 27, pos := "law.go:165", after := #[{ on := 20, ground := Ground.guard }], guard := some (20, true) }) (v := .slice (some ⟨ab, ao, none⟩) ln ac) rfl (by kernel_rfl) (by kernel_rfl) (by kernel_rfl) (fun _ _ _ h => h) (Or.inl ⟨by rfl, ?_⟩) (SK.out _ tV) ?_
                    · rintro w ⟨d0, d1, d2, d3⟩
                      go_simp
                    simp only [Act.put, List.setIfInBounds_toArray, List.set_cons_zero, List.set_cons_succ]
                    refine wpAnyH_take (i := 22) (oi := { dst := some 120, op := Op.move (Operand.tmp 17), type := 3, pos := "law.go:165", after := #[{ on := 20, ground := Ground.guard }], guard := some (20, true) }) (v := .int .i64 (k : Nat)) rfl (by kernel_rfl) (by kernel_rfl) (by kernel_rfl) (fun _ _ _ h => h) (Or.inl ⟨by rfl, ?_⟩) (SK.out _ tV) ?_
                    · rintro w ⟨d0, d1, d2, d3⟩
                      go_simp
                    simp only [Act.put, List.setIfInBounds_toArray, List.set_cons_zero, List.set_cons_succ]
                    refine wpAnyH_take (i := 23) (oi := { dst := some 121, op := Op.indexAddr 27 (Operand.tmp 119) (Operand.tmp 120), type := 0, pos := "law.go:165", after := #[{ on := 21, ground := Ground.data }, { on := 22, ground := Ground.data }, { on := 20, ground := Ground.guard }], guard := some (20, true) }) (v := .pointer (some ⟨ab, ao + k * 4, none⟩)) rfl (by kernel_rfl) (by kernel_rfl) (by kernel_rfl) (fun _ _ _ h => h) (Or.inl ⟨by rfl, ?_⟩) (SK.out _ tV) ?_
                    · rintro w ⟨d0, d1, d2, d3⟩
                      go_simp
                    simp only [Act.put, List.setIfInBounds_toArray, List.set_cons_zero, List.set_cons_succ]
                    refine wpAnyH_take (i := 24) (oi := { dst := some 122, op := Op.fieldAddr 25 (Operand.tmp 121) 1, type := 0, pos := "law.go:165", after := #[{ on := 23, ground := Ground.data }, { on := 20, ground := Ground.guard }], guard := some (20, true) }) (v := .pointer (some ⟨ab, ao + k * 4 + 1, none⟩)) rfl (by kernel_rfl) (by kernel_rfl) (by kernel_rfl) (fun _ _ _ h => h) (Or.inl ⟨by rfl, ?_⟩) (SK.out _ tV) ?_
                    · rintro w ⟨d0, d1, d2, d3⟩
                      go_simp
                    simp only [Act.put, List.setIfInBounds_toArray, List.set_cons_zero, List.set_cons_succ]
                    refine wpAnyH_take (i := 25) (oi := { dst := some 123, op := Op.load 23 (Operand.tmp 122), type := 23, pos := "law.go:165", after := #[{ on := 24, ground := Ground.data }, { on := 20, ground := Ground.guard }], guard := some (20, true) }) (v := .int .u64 (y.e.seq : Nat)) rfl (by kernel_rfl) (by kernel_rfl) (by kernel_rfl) (fun _ _ _ h => h) (Or.inl ⟨by rfl, ?_⟩) (SK.out _ tV) ?_
                    · rintro w ⟨d0, d1, d2, d3⟩
                      go_simp
                    simp only [Act.put, List.setIfInBounds_toArray, List.set_cons_zero, List.set_cons_succ]
                    refine wpAnyH_take (i := 26) (oi := { dst := some 124, op := Op.move (Operand.tmp 8), type := 27, pos := "law.go:165", after := #[{ on := 20, ground := Ground.guard }], guard := some (20, true) }) (v := .slice (some ⟨ab, ao, none⟩) ln ac) rfl (by kernel_rfl) (by kernel_rfl) (by kernel_rfl) (fun _ _ _ h => h) (Or.inl ⟨by rfl, ?_⟩) (SK.out _ tV) ?_
                    · rintro w ⟨d0, d1, d2, d3⟩
                      go_simp
                    simp only [Act.put, List.setIfInBounds_toArray, List.set_cons_zero, List.set_cons_succ]
                    refine wpAnyH_take (i := 27) (oi := { dst := some 125, op := Op.move (Operand.tmp 15), type := 3, pos := "law.go:165", after := #[{ on := 20, ground := Ground.guard }], guard := some (20, true) }) (v := .int .i64 (j : Nat)) rfl (by kernel_rfl) (by kernel_rfl) (by kernel_rfl) (fun _ _ _ h => h) (Or.inl ⟨by rfl, ?_⟩) (SK.out _ tV) ?_
                    · rintro w ⟨d0, d1, d2, d3⟩
                      go_simp
                    simp only [Act.put, List.setIfInBounds_toArray, List.set_cons_zero, List.set_cons_succ]
                    refine wpAnyH_take (i := 28) (oi := { dst := some 126, op := Op.indexAddr 27 (Operand.tmp 124) (Operand.tmp 125), type := 0, pos := "law.go:165", after := #[{ on := 26, ground := Ground.data }, { on := 27, ground := Ground.data }, { on := 20, ground := Ground.guard }], guard := some (20, true) }) (v := .pointer (some ⟨ab, ao + j * 4, none⟩)) rfl (by kernel_rfl) (by kernel_rfl) (by kernel_rfl) (fun _ _ _ h => h) (Or.inl ⟨by rfl, ?_⟩) (SK.out _ tV) ?_
                    · rintro w ⟨d0, d1, d2, d3⟩
                      go_simp
                    simp only [Act.put, List.setIfInBounds_toArray, List.set_cons_zero, List.set_cons_succ]
                    refine wpAnyH_take (i := 29) (oi := { dst := some 127, op := Op.fieldAddr 25 (Operand.tmp 126) 1, type := 0, pos := "law.go:165", after := #[{ on := 28, ground := Ground.data }, { on := 20, ground := Ground.guard }], guard := some (20, true) }) (v := .pointer (some ⟨ab, ao + j * 4 + 1, none⟩)) rfl (by kernel_rfl) (by kernel_rfl) (by kernel_rfl) (fun _ _ _ h => h) (Or.inl ⟨by rfl, ?_⟩) (SK.out _ tV) ?_
                    · rintro w ⟨d0, d1, d2, d3⟩
                      go_simp
                    simp only [Act.put, List.setIfInBounds_toArray, List.set_cons_zero, List.set_cons_succ]
                    refine wpAnyH_take (i := 30) (oi := { dst := some 128, op := Op.load 23 (Operand.tmp 127), type := 23, pos := "law.go:165", after := #[{ on := 29, ground := Ground.data }, { on := 20, ground := Ground.guard }], guard := some (20, true) }) (v := .int .u64 (x.e.seq : Nat)) rfl (by kernel_rfl) (by kernel_rfl) (by kernel_rfl) (fun _ _ _ h => h) (Or.inl ⟨by rfl, ?_⟩) (SK.out _ tV) ?_
                    · rintro w ⟨d0, d1, d2, d3⟩
                      go_simp
                    simp only [Act.put, List.setIfInBounds_toArray, List.set_cons_zero, List.set_cons_succ]
                    refine wpAnyH_take (i := 31) (oi := { dst := some 129, op := Op.binOp BinOp.gtr 23 (Operand.tmp 123) (Operand.tmp 128) 23, type := 4, pos := "law.go:165", after := #[{ on := 25, ground := Ground.data }, { on := 30, ground := Ground.data }, { on := 20, ground := Ground.guard }], guard := some (20, true) }) (v := .bool true) rfl (by kernel_rfl) (by kernel_rfl) (by kernel_rfl) (fun _ _ _ h => h) (Or.inl ⟨by rfl, ?_⟩) (SK.out _ tV) ?_
                    · rintro w ⟨d0, d1, d2, d3⟩
                      go_simp
                    simp only [Act.put, List.setIfInBounds_toArray, List.set_cons_zero, List.set_cons_succ]
                    refine wpAnyH_take (i := 32) (oi := { dst := some 130, op := Op.pick (Operand.tmp 118) (Operand.tmp 129) (Operand.const (Value.bool false)), type := 4, pos := "law.go:165", after := #[{ on := 20, ground := Ground.data }, { on := 31, ground := Ground.data }], guard := none }) (v := .bool true) rfl (by kernel_rfl) (by kernel_rfl) (by kernel_rfl) (fun _ _ _ h => h) (Or.inl ⟨by rfl, ?_⟩) (SK.out _ tV) ?_
                    · rintro w ⟨d0, d1, d2, d3⟩
                      go_simp
                    simp only [Act.put, List.setIfInBounds_toArray, List.set_cons_zero, List.set_cons_succ]
                    refine wpAnyH_done (by kernel_rfl) ?_ _
                    have TK2 := hide (TK.out.trans tV)
                    clear tV
                    go_wp2_with fail
                    go_roundw
                    case rel => exact ⟨k + 1, by go_num, by omega, by rw [flag_next HYE.out (show hides seq x.e y.e = true by simp [hides, HKY.out, hsq, hgt])]; simp, TK2.out⟩
                    case measure => simp [intOf]; omega
                  · have hgti : ¬ (x.e.seq : Int) < y.e.seq := by omega
                    go_upto_region 26 with (fail)
                    have tV : Turns (fun _ => False) wk wk.drew := (Turns.refl _ _).drew
                    refine wp_region_held_drew (S := fun u => F26 u ab (ao + k * 4) (ao + j * 4) x y) (by kernel_rfl) (SK.out _ tV) (fun _ => ?_)
                    change wpAnyH _ _ _ _ _ 33 (Array.replicate 33 false) _ _
                    refine wpAnyH_take (i := 0) (oi := { dst := some 98, op := Op.move (Operand.tmp 8), type := 27, pos := "law.go:165", after := #[], guard := none }) (v := .slice (some ⟨ab, ao, none⟩) ln ac) rfl (by kernel_rfl) (by kernel_rfl) (by kernel_rfl) (fun _ _ _ h => h) (Or.inl ⟨by rfl, ?_⟩) (SK.out _ tV) ?_
                    · rintro w ⟨d0, d1, d2, d3⟩
                      go_simp
                    simp only [Act.put, List.setIfInBounds_toArray, List.set_cons_zero, List.set_cons_succ]
                    refine wpAnyH_take (i := 1) (oi := { dst := some 99, op := Op.move (Operand.tmp 17), type := 3, pos := "law.go:165", after := #[], guard := none }) (v := .int .i64 (k : Nat)) rfl (by kernel_rfl) (by kernel_rfl) (by kernel_rfl) (fun _ _ _ h => h) (Or.inl ⟨by rfl, ?_⟩) (SK.out _ tV) ?_
                    · rintro w ⟨d0, d1, d2, d3⟩
                      go_simp
                    simp only [Act.put, List.setIfInBounds_toArray, List.set_cons_zero, List.set_cons_succ]
                    refine wpAnyH_take (i := 2) (oi := { dst := some 100, op := Op.indexAddr 27 (Operand.tmp 98) (Operand.tmp 99), type := 0, pos := "law.go:165", after := #[{ on := 0, ground := Ground.data }, { on := 1, ground := Ground.data }], guard := none }) (v := .pointer (some ⟨ab, ao + k * 4, none⟩)) rfl (by kernel_rfl) (by kernel_rfl) (by kernel_rfl) (fun _ _ _ h => h) (Or.inl ⟨by rfl, ?_⟩) (SK.out _ tV) ?_
                    · rintro w ⟨d0, d1, d2, d3⟩
                      go_simp
                    simp only [Act.put, List.setIfInBounds_toArray, List.set_cons_zero, List.set_cons_succ]
                    refine wpAnyH_take (i := 3) (oi := { dst := some 101, op := Op.fieldAddr 25 (Operand.tmp 100) 0, type := 0, pos := "law.go:165", after := #[{ on := 2, ground := Ground.data }], guard := none }) (v := .pointer (some ⟨ab, ao + k * 4, none⟩)) rfl (by kernel_rfl) (by kernel_rfl) (by kernel_rfl) (fun _ _ _ h => h) (Or.inl ⟨by rfl, ?_⟩) (SK.out _ tV) ?_
                    · rintro w ⟨d0, d1, d2, d3⟩
                      go_simp
                    simp only [Act.put, List.setIfInBounds_toArray, List.set_cons_zero, List.set_cons_succ]
                    refine wpAnyH_take (i := 4) (oi := { dst := some 102, op := Op.load 22 (Operand.tmp 101), type := 22, pos := "law.go:165", after := #[{ on := 3, ground := Ground.data }], guard := none }) (v := .slice y.ka y.e.key.length y.kc) rfl (by kernel_rfl) (by kernel_rfl) (by kernel_rfl) (fun _ _ _ h => h) (Or.inl ⟨by rfl, ?_⟩) (SK.out _ tV) ?_
                    · rintro w ⟨d0, d1, d2, d3⟩
                      go_simp
                    simp only [Act.put, List.setIfInBounds_toArray, List.set_cons_zero, List.set_cons_succ]
                    refine wpAnyH_take (i := 5) (oi := { dst := some 103, op := Op.move (Operand.tmp 8), type := 27, pos := "law.go:165", after := #[], guard := none }) (v := .slice (some ⟨ab, ao, none⟩) ln ac) rfl (by kernel_rfl) (by kernel_rfl) (by kernel_rfl) (fun _ _ _ h => h) (Or.inl ⟨by rfl, ?_⟩) (SK.out _ tV) ?_
                    · rintro w ⟨d0, d1, d2, d3⟩
                      go_simp
                    simp only [Act.put, List.setIfInBounds_toArray, List.set_cons_zero, List.set_cons_succ]
                    refine wpAnyH_take (i := 6) (oi := { dst := some 104, op := Op.move (Operand.tmp 15), type := 3, pos := "law.go:165", after := #[], guard := none }) (v := .int .i64 (j : Nat)) rfl (by kernel_rfl) (by kernel_rfl) (by kernel_rfl) (fun _ _ _ h => h) (Or.inl ⟨by rfl, ?_⟩) (SK.out _ tV) ?_
                    · rintro w ⟨d0, d1, d2, d3⟩
                      go_simp
                    simp only [Act.put, List.setIfInBounds_toArray, List.set_cons_zero, List.set_cons_succ]
                    refine wpAnyH_take (i := 7) (oi := { dst := some 105, op := Op.indexAddr 27 (Operand.tmp 103) (Operand.tmp 104), type := 0, pos := "law.go:165", after := #[{ on := 5, ground := Ground.data }, { on := 6, ground := Ground.data }], guard := none }) (v := .pointer (some ⟨ab, ao + j * 4, none⟩)) rfl (by kernel_rfl) (by kernel_rfl) (by kernel_rfl) (fun _ _ _ h => h) (Or.inl ⟨by rfl, ?_⟩) (SK.out _ tV) ?_
                    · rintro w ⟨d0, d1, d2, d3⟩
                      go_simp
                    simp only [Act.put, List.setIfInBounds_toArray, List.set_cons_zero, List.set_cons_succ]
                    refine wpAnyH_take (i := 8) (oi := { dst := some 106, op := Op.fieldAddr 25 (Operand.tmp 105) 0, type := 0, pos := "law.go:165", after := #[{ on := 7, ground := Ground.data }], guard := none }) (v := .pointer (some ⟨ab, ao + j * 4, none⟩)) rfl (by kernel_rfl) (by kernel_rfl) (by kernel_rfl) (fun _ _ _ h => h) (Or.inl ⟨by rfl, ?_⟩) (SK.out _ tV) ?_
                    · rintro w ⟨d0, d1, d2, d3⟩
                      go_simp
                    simp only [Act.put, List.setIfInBounds_toArray, List.set_cons_zero, List.set_cons_succ]
                    refine wpAnyH_take (i := 9) (oi := { dst := some 107, op := Op.load 22 (Operand.tmp 106), type := 22, pos := "law.go:165", after := #[{ on := 8, ground := Ground.data }], guard := none }) (v := .slice x.ka x.e.key.length x.kc) rfl (by kernel_rfl) (by kernel_rfl) (by kernel_rfl) (fun _ _ _ h => h) (Or.inl ⟨by rfl, ?_⟩) (SK.out _ tV) ?_
                    · rintro w ⟨d0, d1, d2, d3⟩
                      go_simp
                    simp only [Act.put, List.setIfInBounds_toArray, List.set_cons_zero, List.set_cons_succ]
                    refine wpAnyH_ready (rs := [10]) (by kernel_rfl) (by simp) ?_
                    refine AllReadyH.cons rfl (fun K hK => ?_) AllReadyH.nil
                    go_simp
                    refine (KEQ.out _ tV).mono ?_
                    rintro oo Vn ⟨rfl, tN⟩
                    have tV := tV.trans tN
                    clear tN
                    go_simp
                    refine hK.out _ _ (SK.out _ tV) (fun _ => ?_)
                    clear hK K
                    refine wpAnyH_take (i := 11) (oi := { dst := some 109, op := Op.move (Operand.tmp 108), type := 4, pos := "law.go:165", after := #[{ on := 10, ground := Ground.data }, { on := 10, ground := Ground.chain }], guard := none }) (v := .bool true) rfl (by kernel_rfl) (by kernel_rfl) (by kernel_rfl) (fun _ _ _ h => h) (Or.inl ⟨by rfl, ?_⟩) (SK.out _ tV) ?_
                    · rintro w ⟨d0, d1, d2, d3⟩
                      go_simp
                    simp only [Act.put, List.setIfInBounds_toArray, List.set_cons_zero, List.set_cons_succ]
                    refine wpAnyH_take (i := 12) (oi := { dst := some 110, op := Op.move (Operand.tmp 8), type := 27, pos := "law.go:165", after := #[{ on := 11, ground := Ground.guard }], guard := some (11, true) }) (v := .slice (some ⟨ab, ao, none⟩) ln ac) rfl (by kernel_rfl) (by kernel_rfl) (by kernel_rfl) (fun _ _ _ h => h) (Or.inl ⟨by rfl, ?_⟩) (SK.out _ tV) ?_
                    · rintro w ⟨d0, d1, d2, d3⟩
                      go_simp
                    simp only [Act.put, List.setIfInBounds_toArray, List.set_cons_zero, List.set_cons_succ]
                    refine wpAnyH_take (i := 13) (oi := { dst := some 111, op := Op.move (Operand.tmp 17), type := 3, pos := "law.go:165", after := #[{ on := 11, ground := Ground.guard }], guard := some (11, true) }) (v := .int .i64 (k : Nat)) rfl (by kernel_rfl) (by kernel_rfl) (by kernel_rfl) (fun _ _ _ h => h) (Or.inl ⟨by rfl, ?_⟩) (SK.out _ tV) ?_
                    · rintro w ⟨d0, d1, d2, d3⟩
                      go_simp
                    simp only [Act.put, List.setIfInBounds_toArray, List.set_cons_zero, List.set_cons_succ]
                    refine wpAnyH_take (i := 14) (oi := { dst := some 112, op := Op.indexAddr 27 (Operand.tmp 110) (Operand.tmp 111), type := 0, pos := "law.go:165", after := #[{ on := 12, ground := Ground.data }, { on := 13, ground := Ground.data }, { on := 11, ground := Ground.guard }], guard := some (11, true) }) (v := .pointer (some ⟨ab, ao + k * 4, none⟩)) rfl (by kernel_rfl) (by kernel_rfl) (by kernel_rfl) (fun _ _ _ h => h) (Or.inl ⟨by rfl, ?_⟩) (SK.out _ tV) ?_
                    · rintro w ⟨d0, d1, d2, d3⟩
                      go_simp
                    simp only [Act.put, List.setIfInBounds_toArray, List.set_cons_zero, List.set_cons_succ]
                    refine wpAnyH_take (i := 15) (oi := { dst := some 113, op := Op.fieldAddr 25 (Operand.tmp 112) 1, type := 0, pos := "law.go:165", after := #[{ on := 14, ground := Ground.data }, { on := 11, ground := Ground.guard }], guard := some (11, true) }) (v := .pointer (some ⟨ab, ao + k * 4 + 1, none⟩)) rfl (by kernel_rfl) (by kernel_rfl) (by kernel_rfl) (fun _ _ _ h => h) (Or.inl ⟨by rfl, ?_⟩) (SK.out _ tV) ?_
                    · rintro w ⟨d0, d1, d2, d3⟩
                      go_simp
                    simp only [Act.put, List.setIfInBounds_toArray, List.set_cons_zero, List.set_cons_succ]
                    refine wpAnyH_take (i := 16) (oi := { dst := some 114, op := Op.load 23 (Operand.tmp 113), type := 23, pos := "law.go:165", after := #[{ on := 15, ground := Ground.data }, { on := 11, ground := Ground.guard }], guard := some (11, true) }) (v := .int .u64 (y.e.seq : Nat)) rfl (by kernel_rfl) (by kernel_rfl) (by kernel_rfl) (fun _ _ _ h => h) (Or.inl ⟨by rfl, ?_⟩) (SK.out _ tV) ?_
                    · rintro w ⟨d0, d1, d2, d3⟩
                      go_simp
                    simp only [Act.put, List.setIfInBounds_toArray, List.set_cons_zero, List.set_cons_succ]
                    refine wpAnyH_take (i := 17) (oi := { dst := some 115, op := Op.move (Operand.tmp 2), type := 23, pos := "law.go:165", after := #[{ on := 11, ground := Ground.guard }], guard := some (11, true) }) (v := .int .u64 (seq : Nat)) rfl (by kernel_rfl) (by kernel_rfl) (by kernel_rfl) (fun _ _ _ h => h) (Or.inl ⟨by rfl, ?_⟩) (SK.out _ tV) ?_
                    · rintro w ⟨d0, d1, d2, d3⟩
                      go_simp
                    simp only [Act.put, List.setIfInBounds_toArray, List.set_cons_zero, List.set_cons_succ]
                    refine wpAnyH_take (i := 18) (oi := { dst := some 116, op := Op.binOp BinOp.leq 23 (Operand.tmp 114) (Operand.tmp 115) 23, type := 4, pos := "law.go:165", after := #[{ on := 16, ground := Ground.data }, { on := 17, ground := Ground.data }, { on := 11, ground := Ground.guard }], guard := some (11, true) }) (v := .bool true) rfl (by kernel_rfl) (by kernel_rfl) (by kernel_rfl) (fun _ _ _ h => h) (Or.inl ⟨by rfl, ?_⟩) (SK.out _ tV) ?_
                    · rintro w ⟨d0, d1, d2, d3⟩
                      go_simp
                    simp only [Act.put, List.setIfInBounds_toArray, List.set_cons_zero, List.set_cons_succ]
                    refine wpAnyH_take (i := 19) (oi := { dst := some 117, op := Op.pick (Operand.tmp 109) (Operand.tmp 116) (Operand.const (Value.bool false)), type := 4, pos := "law.go:165", after := #[{ on := 11, ground := Ground.data }, { on := 18, ground := Ground.data }], guard := none }) (v := .bool true) rfl (by kernel_rfl) (by kernel_rfl) (by kernel_rfl) (fun _ _ _ h => h) (Or.inl ⟨by rfl, ?_⟩) (SK.out _ tV) ?_
                    · rintro w ⟨d0, d1, d2, d3⟩
                      go_simp
                    simp only [Act.put, List.setIfInBounds_toArray, List.set_cons_zero, List.set_cons_succ]
                    refine wpAnyH_take (i := 20) (oi := { dst := some 118, op := Op.move (Operand.tmp 117), type := 4, pos := "law.go:165", after := #[{ on := 19, ground := Ground.data }, { on := 11, ground := Ground.chain }], guard := none }) (v := .bool true) rfl (by kernel_rfl) (by kernel_rfl) (by kernel_rfl) (fun _ _ _ h => h) (Or.inl ⟨by rfl, ?_⟩) (SK.out _ tV) ?_
                    · rintro w ⟨d0, d1, d2, d3⟩
                      go_simp
                    simp only [Act.put, List.setIfInBounds_toArray, List.set_cons_zero, List.set_cons_succ]
                    refine wpAnyH_take (i := 21) (oi := { dst := some 119, op := Op.move (Operand.tmp 8), type := 27, pos := "law.go:165", after := #[{ on := 20, ground := Ground.guard }], guard := some (20, true) }) (v := .slice (some ⟨ab, ao, none⟩) ln ac) rfl (by kernel_rfl) (by kernel_rfl) (by kernel_rfl) (fun _ _ _ h => h) (Or.inl ⟨by rfl, ?_⟩) (SK.out _ tV) ?_
                    · rintro w ⟨d0, d1, d2, d3⟩
                      go_simp
                    simp only [Act.put, List.setIfInBounds_toArray, List.set_cons_zero, List.set_cons_succ]
                    refine wpAnyH_take (i := 22) (oi := { dst := some 120, op := Op.move (Operand.tmp 17), type := 3, pos := "law.go:165", after := #[{ on := 20, ground := Ground.guard }], guard := some (20, true) }) (v := .int .i64 (k : Nat)) rfl (by kernel_rfl) (by kernel_rfl) (by kernel_rfl) (fun _ _ _ h => h) (Or.inl ⟨by rfl, ?_⟩) (SK.out _ tV) ?_
                    · rintro w ⟨d0, d1, d2, d3⟩
                      go_simp
                    simp only [Act.put, List.setIfInBounds_toArray, List.set_cons_zero, List.set_cons_succ]
                    refine wpAnyH_take (i := 23) (oi := { dst := some 121, op := Op.indexAddr 27 (Operand.tmp 119) (Operand.tmp 120), type := 0, pos := "law.go:165", after := #[{ on := 21, ground := Ground.data }, { on := 22, ground := Ground.data }, { on := 20, ground := Ground.guard }], guard := some (20, true) }) (v := .pointer (some ⟨ab, ao + k * 4, none⟩)) rfl (by kernel_rfl) (by kernel_rfl) (by kernel_rfl) (fun _ _ _ h => h) (Or.inl ⟨by rfl, ?_⟩) (SK.out _ tV) ?_
                    · rintro w ⟨d0, d1, d2, d3⟩
                      go_simp
                    simp only [Act.put, List.setIfInBounds_toArray, List.set_cons_zero, List.set_cons_succ]
                    refine wpAnyH_take (i := 24) (oi := { dst := some 122, op := Op.fieldAddr 25 (Operand.tmp 121) 1, type := 0, pos := "law.go:165", after := #[{ on := 23, ground := Ground.data }, { on := 20, ground := Ground.guard }], guard := some (20, true) }) (v := .pointer (some ⟨ab, ao + k * 4 + 1, none⟩)) rfl (by kernel_rfl) (by kernel_rfl) (by kernel_rfl) (fun _ _ _ h => h) (Or.inl ⟨by rfl, ?_⟩) (SK.out _ tV) ?_
                    · rintro w ⟨d0, d1, d2, d3⟩
                      go_simp
                    simp only [Act.put, List.setIfInBounds_toArray, List.set_cons_zero, List.set_cons_succ]
                    refine wpAnyH_take (i := 25) (oi := { dst := some 123, op := Op.load 23 (Operand.tmp 122), type := 23, pos := "law.go:165", after := #[{ on := 24, ground := Ground.data }, { on := 20, ground := Ground.guard }], guard := some (20, true) }) (v := .int .u64 (y.e.seq : Nat)) rfl (by kernel_rfl) (by kernel_rfl) (by kernel_rfl) (fun _ _ _ h => h) (Or.inl ⟨by rfl, ?_⟩) (SK.out _ tV) ?_
                    · rintro w ⟨d0, d1, d2, d3⟩
                      go_simp
                    simp only [Act.put, List.setIfInBounds_toArray, List.set_cons_zero, List.set_cons_succ]
                    refine wpAnyH_take (i := 26) (oi := { dst := some 124, op := Op.move (Operand.tmp 8), type := 27, pos := "law.go:165", after := #[{ on := 20, ground := Ground.guard }], guard := some (20, true) }) (v := .slice (some ⟨ab, ao, none⟩) ln ac) rfl (by kernel_rfl) (by kernel_rfl) (by kernel_rfl) (fun _ _ _ h => h) (Or.inl ⟨by rfl, ?_⟩) (SK.out _ tV) ?_
                    · rintro w ⟨d0, d1, d2, d3⟩
                      go_simp
                    simp only [Act.put, List.setIfInBounds_toArray, List.set_cons_zero, List.set_cons_succ]
                    refine wpAnyH_take (i := 27) (oi := { dst := some 125, op := Op.move (Operand.tmp 15), type := 3, pos := "law.go:165", after := #[{ on := 20, ground := Ground.guard }], guard := some (20, true) }) (v := .int .i64 (j : Nat)) rfl (by kernel_rfl) (by kernel_rfl) (by kernel_rfl) (fun _ _ _ h => h) (Or.inl ⟨by rfl, ?_⟩) (SK.out _ tV) ?_
                    · rintro w ⟨d0, d1, d2, d3⟩
                      go_simp
                    simp only [Act.put, List.setIfInBounds_toArray, List.set_cons_zero, List.set_cons_succ]
                    refine wpAnyH_take (i := 28) (oi := { dst := some 126, op := Op.indexAddr 27 (Operand.tmp 124) (Operand.tmp 125), type := 0, pos := "law.go:165", after := #[{ on := 26, ground := Ground.data }, { on := 27, ground := Ground.data }, { on := 20, ground := Ground.guard }], guard := some (20, true) }) (v := .pointer (some ⟨ab, ao + j * 4, none⟩)) rfl (by kernel_rfl) (by kernel_rfl) (by kernel_rfl) (fun _ _ _ h => h) (Or.inl ⟨by rfl, ?_⟩) (SK.out _ tV) ?_
                    · rintro w ⟨d0, d1, d2, d3⟩
                      go_simp
                    simp only [Act.put, List.setIfInBounds_toArray, List.set_cons_zero, List.set_cons_succ]
                    refine wpAnyH_take (i := 29) (oi := { dst := some 127, op := Op.fieldAddr 25 (Operand.tmp 126) 1, type := 0, pos := "law.go:165", after := #[{ on := 28, ground := Ground.data }, { on := 20, ground := Ground.guard }], guard := some (20, true) }) (v := .pointer (some ⟨ab, ao + j * 4 + 1, none⟩)) rfl (by kernel_rfl) (by kernel_rfl) (by kernel_rfl) (fun _ _ _ h => h) (Or.inl ⟨by rfl, ?_⟩) (SK.out _ tV) ?_
                    · rintro w ⟨d0, d1, d2, d3⟩
                      go_simp
                    simp only [Act.put, List.setIfInBounds_toArray, List.set_cons_zero, List.set_cons_succ]
                    refine wpAnyH_take (i := 30) (oi := { dst := some 128, op := Op.load 23 (Operand.tmp 127), type := 23, pos := "law.go:165", after := #[{ on := 29, ground := Ground.data }, { on := 20, ground := Ground.guard }], guard := some (20, true) }) (v := .int .u64 (x.e.seq : Nat)) rfl (by kernel_rfl) (by kernel_rfl) (by kernel_rfl) (fun _ _ _ h => h) (Or.inl ⟨by rfl, ?_⟩) (SK.out _ tV) ?_
                    · rintro w ⟨d0, d1, d2, d3⟩
                      go_simp
                    simp only [Act.put, List.setIfInBounds_toArray, List.set_cons_zero, List.set_cons_succ]
                    refine wpAnyH_take (i := 31) (oi := { dst := some 129, op := Op.binOp BinOp.gtr 23 (Operand.tmp 123) (Operand.tmp 128) 23, type := 4, pos := "law.go:165", after := #[{ on := 25, ground := Ground.data }, { on := 30, ground := Ground.data }, { on := 20, ground := Ground.guard }], guard := some (20, true) }) (v := .bool false) rfl (by kernel_rfl) (by kernel_rfl) (by kernel_rfl) (fun _ _ _ h => h) (Or.inl ⟨by rfl, ?_⟩) (SK.out _ tV) ?_
                    · rintro w ⟨d0, d1, d2, d3⟩
                      go_simp
                    simp only [Act.put, List.setIfInBounds_toArray, List.set_cons_zero, List.set_cons_succ]
                    refine wpAnyH_take (i := 32) (oi := { dst := some 130, op := Op.pick (Operand.tmp 118) (Operand.tmp 129) (Operand.const (Value.bool false)), type := 4, pos := "law.go:165", after := #[{ on := 20, ground := Ground.data }, { on := 31, ground := Ground.data }], guard := none }) (v := .bool false) rfl (by kernel_rfl) (by kernel_rfl) (by kernel_rfl) (fun _ _ _ h => h) (Or.inl ⟨by rfl, ?_⟩) (SK.out _ tV) ?_
                    · rintro w ⟨d0, d1, d2, d3⟩
                      go_simp
                    simp only [Act.put, List.setIfInBounds_toArray, List.set_cons_zero, List.set_cons_succ]
                    refine wpAnyH_done (by kernel_rfl) ?_ _
                    have TK2 := hide (TK.out.trans tV)
                    clear tV
                    go_wp2_with fail
                    go_roundw
                    case rel => exact ⟨k + 1, by go_num, by omega, by rw [flag_next HYE.out (show hides seq x.e y.e = false by simp [hides, HKY.out, hsq, hgt])]; simp, TK2.out⟩
                    case measure => simp [intOf]; omega
                · have hsqi : ¬ (y.e.seq : Int) ≤ seq := by omega
                  go_upto_region 26 with (fail)
                  have tV : Turns (fun _ => False) wk wk.drew := (Turns.refl _ _).drew
                  refine wp_region_held_drew (S := fun u => F26 u ab (ao + k * 4) (ao + j * 4) x y) (by kernel_rfl) (SK.out _ tV) (fun _ => ?_)
                  change wpAnyH _ _ _ _ _ 33 (Array.replicate 33 false) _ _
                  refine wpAnyH_take (i := 0) (oi := { dst := some 98, op := Op.move (Operand.tmp 8), type := 27, pos := "law.go:165", after := #[], guard := none }) (v := .slice (some ⟨ab, ao, none⟩) ln ac) rfl (by kernel_rfl) (by kernel_rfl) (by kernel_rfl) (fun _ _ _ h => h) (Or.inl ⟨by rfl, ?_⟩) (SK.out _ tV) ?_
                  · rintro w ⟨d0, d1, d2, d3⟩
                    go_simp
                  simp only [Act.put, List.setIfInBounds_toArray, List.set_cons_zero, List.set_cons_succ]
                  refine wpAnyH_take (i := 1) (oi := { dst := some 99, op := Op.move (Operand.tmp 17), type := 3, pos := "law.go:165", after := #[], guard := none }) (v := .int .i64 (k : Nat)) rfl (by kernel_rfl) (by kernel_rfl) (by kernel_rfl) (fun _ _ _ h => h) (Or.inl ⟨by rfl, ?_⟩) (SK.out _ tV) ?_
                  · rintro w ⟨d0, d1, d2, d3⟩
                    go_simp
                  simp only [Act.put, List.setIfInBounds_toArray, List.set_cons_zero, List.set_cons_succ]
                  refine wpAnyH_take (i := 2) (oi := { dst := some 100, op := Op.indexAddr 27 (Operand.tmp 98) (Operand.tmp 99), type := 0, pos := "law.go:165", after := #[{ on := 0, ground := Ground.data }, { on := 1, ground := Ground.data }], guard := none }) (v := .pointer (some ⟨ab, ao + k * 4, none⟩)) rfl (by kernel_rfl) (by kernel_rfl) (by kernel_rfl) (fun _ _ _ h => h) (Or.inl ⟨by rfl, ?_⟩) (SK.out _ tV) ?_
                  · rintro w ⟨d0, d1, d2, d3⟩
                    go_simp
                  simp only [Act.put, List.setIfInBounds_toArray, List.set_cons_zero, List.set_cons_succ]
                  refine wpAnyH_take (i := 3) (oi := { dst := some 101, op := Op.fieldAddr 25 (Operand.tmp 100) 0, type := 0, pos := "law.go:165", after := #[{ on := 2, ground := Ground.data }], guard := none }) (v := .pointer (some ⟨ab, ao + k * 4, none⟩)) rfl (by kernel_rfl) (by kernel_rfl) (by kernel_rfl) (fun _ _ _ h => h) (Or.inl ⟨by rfl, ?_⟩) (SK.out _ tV) ?_
                  · rintro w ⟨d0, d1, d2, d3⟩
                    go_simp
                  simp only [Act.put, List.setIfInBounds_toArray, List.set_cons_zero, List.set_cons_succ]
                  refine wpAnyH_take (i := 4) (oi := { dst := some 102, op := Op.load 22 (Operand.tmp 101), type := 22, pos := "law.go:165", after := #[{ on := 3, ground := Ground.data }], guard := none }) (v := .slice y.ka y.e.key.length y.kc) rfl (by kernel_rfl) (by kernel_rfl) (by kernel_rfl) (fun _ _ _ h => h) (Or.inl ⟨by rfl, ?_⟩) (SK.out _ tV) ?_
                  · rintro w ⟨d0, d1, d2, d3⟩
                    go_simp
                  simp only [Act.put, List.setIfInBounds_toArray, List.set_cons_zero, List.set_cons_succ]
                  refine wpAnyH_take (i := 5) (oi := { dst := some 103, op := Op.move (Operand.tmp 8), type := 27, pos := "law.go:165", after := #[], guard := none }) (v := .slice (some ⟨ab, ao, none⟩) ln ac) rfl (by kernel_rfl) (by kernel_rfl) (by kernel_rfl) (fun _ _ _ h => h) (Or.inl ⟨by rfl, ?_⟩) (SK.out _ tV) ?_
                  · rintro w ⟨d0, d1, d2, d3⟩
                    go_simp
                  simp only [Act.put, List.setIfInBounds_toArray, List.set_cons_zero, List.set_cons_succ]
                  refine wpAnyH_take (i := 6) (oi := { dst := some 104, op := Op.move (Operand.tmp 15), type := 3, pos := "law.go:165", after := #[], guard := none }) (v := .int .i64 (j : Nat)) rfl (by kernel_rfl) (by kernel_rfl) (by kernel_rfl) (fun _ _ _ h => h) (Or.inl ⟨by rfl, ?_⟩) (SK.out _ tV) ?_
                  · rintro w ⟨d0, d1, d2, d3⟩
                    go_simp
                  simp only [Act.put, List.setIfInBounds_toArray, List.set_cons_zero, List.set_cons_succ]
                  refine wpAnyH_take (i := 7) (oi := { dst := some 105, op := Op.indexAddr 27 (Operand.tmp 103) (Operand.tmp 104), type := 0, pos := "law.go:165", after := #[{ on := 5, ground := Ground.data }, { on := 6, ground := Ground.data }], guard := none }) (v := .pointer (some ⟨ab, ao + j * 4, none⟩)) rfl (by kernel_rfl) (by kernel_rfl) (by kernel_rfl) (fun _ _ _ h => h) (Or.inl ⟨by rfl, ?_⟩) (SK.out _ tV) ?_
                  · rintro w ⟨d0, d1, d2, d3⟩
                    go_simp
                  simp only [Act.put, List.setIfInBounds_toArray, List.set_cons_zero, List.set_cons_succ]
                  refine wpAnyH_take (i := 8) (oi := { dst := some 106, op := Op.fieldAddr 25 (Operand.tmp 105) 0, type := 0, pos := "law.go:165", after := #[{ on := 7, ground := Ground.data }], guard := none }) (v := .pointer (some ⟨ab, ao + j * 4, none⟩)) rfl (by kernel_rfl) (by kernel_rfl) (by kernel_rfl) (fun _ _ _ h => h) (Or.inl ⟨by rfl, ?_⟩) (SK.out _ tV) ?_
                  · rintro w ⟨d0, d1, d2, d3⟩
                    go_simp
                  simp only [Act.put, List.setIfInBounds_toArray, List.set_cons_zero, List.set_cons_succ]
                  refine wpAnyH_take (i := 9) (oi := { dst := some 107, op := Op.load 22 (Operand.tmp 106), type := 22, pos := "law.go:165", after := #[{ on := 8, ground := Ground.data }], guard := none }) (v := .slice x.ka x.e.key.length x.kc) rfl (by kernel_rfl) (by kernel_rfl) (by kernel_rfl) (fun _ _ _ h => h) (Or.inl ⟨by rfl, ?_⟩) (SK.out _ tV) ?_
                  · rintro w ⟨d0, d1, d2, d3⟩
                    go_simp
                  simp only [Act.put, List.setIfInBounds_toArray, List.set_cons_zero, List.set_cons_succ]
                  refine wpAnyH_ready (rs := [10]) (by kernel_rfl) (by simp) ?_
                  refine AllReadyH.cons rfl (fun K hK => ?_) AllReadyH.nil
                  go_simp
                  refine (KEQ.out _ tV).mono ?_
                  rintro oo Vn ⟨rfl, tN⟩
                  have tV := tV.trans tN
                  clear tN
                  go_simp
                  refine hK.out _ _ (SK.out _ tV) (fun _ => ?_)
                  clear hK K
                  refine wpAnyH_take (i := 11) (oi := { dst := some 109, op := Op.move (Operand.tmp 108), type := 4, pos := "law.go:165", after := #[{ on := 10, ground := Ground.data }, { on := 10, ground := Ground.chain }], guard := none }) (v := .bool true) rfl (by kernel_rfl) (by kernel_rfl) (by kernel_rfl) (fun _ _ _ h => h) (Or.inl ⟨by rfl, ?_⟩) (SK.out _ tV) ?_
                  · rintro w ⟨d0, d1, d2, d3⟩
                    go_simp
                  simp only [Act.put, List.setIfInBounds_toArray, List.set_cons_zero, List.set_cons_succ]
                  refine wpAnyH_take (i := 12) (oi := { dst := some 110, op := Op.move (Operand.tmp 8), type := 27, pos := "law.go:165", after := #[{ on := 11, ground := Ground.guard }], guard := some (11, true) }) (v := .slice (some ⟨ab, ao, none⟩) ln ac) rfl (by kernel_rfl) (by kernel_rfl) (by kernel_rfl) (fun _ _ _ h => h) (Or.inl ⟨by rfl, ?_⟩) (SK.out _ tV) ?_
                  · rintro w ⟨d0, d1, d2, d3⟩
                    go_simp
                  simp only [Act.put, List.setIfInBounds_toArray, List.set_cons_zero, List.set_cons_succ]
                  refine wpAnyH_take (i := 13) (oi := { dst := some 111, op := Op.move (Operand.tmp 17), type := 3, pos := "law.go:165", after := #[{ on := 11, ground := Ground.guard }], guard := some (11, true) }) (v := .int .i64 (k : Nat)) rfl (by kernel_rfl) (by kernel_rfl) (by kernel_rfl) (fun _ _ _ h => h) (Or.inl ⟨by rfl, ?_⟩) (SK.out _ tV) ?_
                  · rintro w ⟨d0, d1, d2, d3⟩
                    go_simp
                  simp only [Act.put, List.setIfInBounds_toArray, List.set_cons_zero, List.set_cons_succ]
                  refine wpAnyH_take (i := 14) (oi := { dst := some 112, op := Op.indexAddr 27 (Operand.tmp 110) (Operand.tmp 111), type := 0, pos := "law.go:165", after := #[{ on := 12, ground := Ground.data }, { on := 13, ground := Ground.data }, { on := 11, ground := Ground.guard }], guard := some (11, true) }) (v := .pointer (some ⟨ab, ao + k * 4, none⟩)) rfl (by kernel_rfl) (by kernel_rfl) (by kernel_rfl) (fun _ _ _ h => h) (Or.inl ⟨by rfl, ?_⟩) (SK.out _ tV) ?_
                  · rintro w ⟨d0, d1, d2, d3⟩
                    go_simp
                  simp only [Act.put, List.setIfInBounds_toArray, List.set_cons_zero, List.set_cons_succ]
                  refine wpAnyH_take (i := 15) (oi := { dst := some 113, op := Op.fieldAddr 25 (Operand.tmp 112) 1, type := 0, pos := "law.go:165", after := #[{ on := 14, ground := Ground.data }, { on := 11, ground := Ground.guard }], guard := some (11, true) }) (v := .pointer (some ⟨ab, ao + k * 4 + 1, none⟩)) rfl (by kernel_rfl) (by kernel_rfl) (by kernel_rfl) (fun _ _ _ h => h) (Or.inl ⟨by rfl, ?_⟩) (SK.out _ tV) ?_
                  · rintro w ⟨d0, d1, d2, d3⟩
                    go_simp
                  simp only [Act.put, List.setIfInBounds_toArray, List.set_cons_zero, List.set_cons_succ]
                  refine wpAnyH_take (i := 16) (oi := { dst := some 114, op := Op.load 23 (Operand.tmp 113), type := 23, pos := "law.go:165", after := #[{ on := 15, ground := Ground.data }, { on := 11, ground := Ground.guard }], guard := some (11, true) }) (v := .int .u64 (y.e.seq : Nat)) rfl (by kernel_rfl) (by kernel_rfl) (by kernel_rfl) (fun _ _ _ h => h) (Or.inl ⟨by rfl, ?_⟩) (SK.out _ tV) ?_
                  · rintro w ⟨d0, d1, d2, d3⟩
                    go_simp
                  simp only [Act.put, List.setIfInBounds_toArray, List.set_cons_zero, List.set_cons_succ]
                  refine wpAnyH_take (i := 17) (oi := { dst := some 115, op := Op.move (Operand.tmp 2), type := 23, pos := "law.go:165", after := #[{ on := 11, ground := Ground.guard }], guard := some (11, true) }) (v := .int .u64 (seq : Nat)) rfl (by kernel_rfl) (by kernel_rfl) (by kernel_rfl) (fun _ _ _ h => h) (Or.inl ⟨by rfl, ?_⟩) (SK.out _ tV) ?_
                  · rintro w ⟨d0, d1, d2, d3⟩
                    go_simp
                  simp only [Act.put, List.setIfInBounds_toArray, List.set_cons_zero, List.set_cons_succ]
                  refine wpAnyH_take (i := 18) (oi := { dst := some 116, op := Op.binOp BinOp.leq 23 (Operand.tmp 114) (Operand.tmp 115) 23, type := 4, pos := "law.go:165", after := #[{ on := 16, ground := Ground.data }, { on := 17, ground := Ground.data }, { on := 11, ground := Ground.guard }], guard := some (11, true) }) (v := .bool false) rfl (by kernel_rfl) (by kernel_rfl) (by kernel_rfl) (fun _ _ _ h => h) (Or.inl ⟨by rfl, ?_⟩) (SK.out _ tV) ?_
                  · rintro w ⟨d0, d1, d2, d3⟩
                    go_simp
                  simp only [Act.put, List.setIfInBounds_toArray, List.set_cons_zero, List.set_cons_succ]
                  refine wpAnyH_take (i := 19) (oi := { dst := some 117, op := Op.pick (Operand.tmp 109) (Operand.tmp 116) (Operand.const (Value.bool false)), type := 4, pos := "law.go:165", after := #[{ on := 11, ground := Ground.data }, { on := 18, ground := Ground.data }], guard := none }) (v := .bool false) rfl (by kernel_rfl) (by kernel_rfl) (by kernel_rfl) (fun _ _ _ h => h) (Or.inl ⟨by rfl, ?_⟩) (SK.out _ tV) ?_
                  · rintro w ⟨d0, d1, d2, d3⟩
                    go_simp
                  simp only [Act.put, List.setIfInBounds_toArray, List.set_cons_zero, List.set_cons_succ]
                  refine wpAnyH_take (i := 20) (oi := { dst := some 118, op := Op.move (Operand.tmp 117), type := 4, pos := "law.go:165", after := #[{ on := 19, ground := Ground.data }, { on := 11, ground := Ground.chain }], guard := none }) (v := .bool false) rfl (by kernel_rfl) (by kernel_rfl) (by kernel_rfl) (fun _ _ _ h => h) (Or.inl ⟨by rfl, ?_⟩) (SK.out _ tV) ?_
                  · rintro w ⟨d0, d1, d2, d3⟩
                    go_simp
                  simp only [Act.put, List.setIfInBounds_toArray, List.set_cons_zero, List.set_cons_succ]
                  refine wpAnyH_take (i := 21) (oi := { dst := some 119, op := Op.move (Operand.tmp 8), type := 27, pos := "law.go:165", after := #[{ on := 20, ground := Ground.guard }], guard := some (20, true) }) (v := undef) rfl (by kernel_rfl) (by kernel_rfl) (by kernel_rfl) (fun _ _ _ h => h) (Or.inr ⟨by rfl, rfl⟩) (SK.out _ tV) ?_
                  simp only [Act.put, List.setIfInBounds_toArray, List.set_cons_zero, List.set_cons_succ]
                  refine wpAnyH_take (i := 22) (oi := { dst := some 120, op := Op.move (Operand.tmp 17), type := 3, pos := "law.go:165", after := #[{ on := 20, ground := Ground.guard }], guard := some (20, true) }) (v := undef) rfl (by kernel_rfl) (by kernel_rfl) (by kernel_rfl) (fun _ _ _ h => h) (Or.inr ⟨by rfl, rfl⟩) (SK.out _ tV) ?_
                  simp only [Act.put, List.setIfInBounds_toArray, List.set_cons_zero, List.set_cons_succ]
                  refine wpAnyH_take (i := 23) (oi := { dst := some 121, op := Op.indexAddr 27 (Operand.tmp 119) (Operand.tmp 120), type := 0, pos := "law.go:165", after := #[{ on := 21, ground := Ground.data }, { on := 22, ground := Ground.data }, { on := 20, ground := Ground.guard }], guard := some (20, true) }) (v := undef) rfl (by kernel_rfl) (by kernel_rfl) (by kernel_rfl) (fun _ _ _ h => h) (Or.inr ⟨by rfl, rfl⟩) (SK.out _ tV) ?_
                  simp only [Act.put, List.setIfInBounds_toArray, List.set_cons_zero, List.set_cons_succ]
                  refine wpAnyH_take (i := 24) (oi := { dst := some 122, op := Op.fieldAddr 25 (Operand.tmp 121) 1, type := 0, pos := "law.go:165", after := #[{ on := 23, ground := Ground.data }, { on := 20, ground := Ground.guard }], guard := some (20, true) }) (v := undef) rfl (by kernel_rfl) (by kernel_rfl) (by kernel_rfl) (fun _ _ _ h => h) (Or.inr ⟨by rfl, rfl⟩) (SK.out _ tV) ?_
                  simp only [Act.put, List.setIfInBounds_toArray, List.set_cons_zero, List.set_cons_succ]
                  refine wpAnyH_take (i := 25) (oi := { dst := some 123, op := Op.load 23 (Operand.tmp 122), type := 23, pos := "law.go:165", after := #[{ on := 24, ground := Ground.data }, { on := 20, ground := Ground.guard }], guard := some (20, true) }) (v := undef) rfl (by kernel_rfl) (by kernel_rfl) (by kernel_rfl) (fun _ _ _ h => h) (Or.inr ⟨by rfl, rfl⟩) (SK.out _ tV) ?_
                  simp only [Act.put, List.setIfInBounds_toArray, List.set_cons_zero, List.set_cons_succ]
                  refine wpAnyH_take (i := 26) (oi := { dst := some 124, op := Op.move (Operand.tmp 8), type := 27, pos := "law.go:165", after := #[{ on := 20, ground := Ground.guard }], guard := some (20, true) }) (v := undef) rfl (by kernel_rfl) (by kernel_rfl) (by kernel_rfl) (fun _ _ _ h => h) (Or.inr ⟨by rfl, rfl⟩) (SK.out _ tV) ?_
                  simp only [Act.put, List.setIfInBounds_toArray, List.set_cons_zero, List.set_cons_succ]
                  refine wpAnyH_take (i := 27) (oi := { dst := some 125, op := Op.move (Operand.tmp 15), type := 3, pos := "law.go:165", after := #[{ on := 20, ground := Ground.guard }], guard := some (20, true) }) (v := undef) rfl (by kernel_rfl) (by kernel_rfl) (by kernel_rfl) (fun _ _ _ h => h) (Or.inr ⟨by rfl, rfl⟩) (SK.out _ tV) ?_
                  simp only [Act.put, List.setIfInBounds_toArray, List.set_cons_zero, List.set_cons_succ]
                  refine wpAnyH_take (i := 28) (oi := { dst := some 126, op := Op.indexAddr 27 (Operand.tmp 124) (Operand.tmp 125), type := 0, pos := "law.go:165", after := #[{ on := 26, ground := Ground.data }, { on := 27, ground := Ground.data }, { on := 20, ground := Ground.guard }], guard := some (20, true) }) (v := undef) rfl (by kernel_rfl) (by kernel_rfl) (by kernel_rfl) (fun _ _ _ h => h) (Or.inr ⟨by rfl, rfl⟩) (SK.out _ tV) ?_
                  simp only [Act.put, List.setIfInBounds_toArray, List.set_cons_zero, List.set_cons_succ]
                  refine wpAnyH_take (i := 29) (oi := { dst := some 127, op := Op.fieldAddr 25 (Operand.tmp 126) 1, type := 0, pos := "law.go:165", after := #[{ on := 28, ground := Ground.data }, { on := 20, ground := Ground.guard }], guard := some (20, true) }) (v := undef) rfl (by kernel_rfl) (by kernel_rfl) (by kernel_rfl) (fun _ _ _ h => h) (Or.inr ⟨by rfl, rfl⟩) (SK.out _ tV) ?_
                  simp only [Act.put, List.setIfInBounds_toArray, List.set_cons_zero, List.set_cons_succ]
                  refine wpAnyH_take (i := 30) (oi := { dst := some 128, op := Op.load 23 (Operand.tmp 127), type := 23, pos := "law.go:165", after := #[{ on := 29, ground := Ground.data }, { on := 20, ground := Ground.guard }], guard := some (20, true) }) (v := undef) rfl (by kernel_rfl) (by kernel_rfl) (by kernel_rfl) (fun _ _ _ h => h) (Or.inr ⟨by rfl, rfl⟩) (SK.out _ tV) ?_
                  simp only [Act.put, List.setIfInBounds_toArray, List.set_cons_zero, List.set_cons_succ]
                  refine wpAnyH_take (i := 31) (oi := { dst := some 129, op := Op.binOp BinOp.gtr 23 (Operand.tmp 123) (Operand.tmp 128) 23, type := 4, pos := "law.go:165", after := #[{ on := 25, ground := Ground.data }, { on := 30, ground := Ground.data }, { on := 20, ground := Ground.guard }], guard := some (20, true) }) (v := undef) rfl (by kernel_rfl) (by kernel_rfl) (by kernel_rfl) (fun _ _ _ h => h) (Or.inr ⟨by rfl, rfl⟩) (SK.out _ tV) ?_
                  simp only [Act.put, List.setIfInBounds_toArray, List.set_cons_zero, List.set_cons_succ]
                  refine wpAnyH_take (i := 32) (oi := { dst := some 130, op := Op.pick (Operand.tmp 118) (Operand.tmp 129) (Operand.const (Value.bool false)), type := 4, pos := "law.go:165", after := #[{ on := 20, ground := Ground.data }, { on := 31, ground := Ground.data }], guard := none }) (v := .bool false) rfl (by kernel_rfl) (by kernel_rfl) (by kernel_rfl) (fun _ _ _ h => h) (Or.inl ⟨by rfl, ?_⟩) (SK.out _ tV) ?_
                  · rintro w ⟨d0, d1, d2, d3⟩
                    go_simp
                  simp only [Act.put, List.setIfInBounds_toArray, List.set_cons_zero, List.set_cons_succ]
                  refine wpAnyH_done (by kernel_rfl) ?_ _
                  have TK2 := hide (TK.out.trans tV)
                  clear tV
                  go_wp2_with fail
                  go_roundw
                  case rel => exact ⟨k + 1, by go_num, by omega, by rw [flag_next HYE.out (show hides seq x.e y.e = false by simp [hides, HKY.out, hsq])]; simp, TK2.out⟩
                  case measure => simp [intOf]; omega
              · rw [show decide (y.e.key = x.e.key) = false by simpa using hky] at KEQ
                have HKY := hide hky
                clear hky
                go_upto_region 26 with (fail)
                have tV : Turns (fun _ => False) wk wk.drew := (Turns.refl _ _).drew
                refine wp_region_held_drew (S := fun u => F26 u ab (ao + k * 4) (ao + j * 4) x y) (by kernel_rfl) (SK.out _ tV) (fun _ => ?_)
                change wpAnyH _ _ _ _ _ 33 (Array.replicate 33 false) _ _
                refine wpAnyH_take (i := 0) (oi := { dst := some 98, op := Op.move (Operand.tmp 8), type := 27, pos := "law.go:165", after := #[], guard := none }) (v := .slice (some ⟨ab, ao, none⟩) ln ac) rfl (by kernel_rfl) (by kernel_rfl) (by kernel_rfl) (fun _ _ _ h => h) (Or.inl ⟨by rfl, ?_⟩) (SK.out _ tV) ?_
                · rintro w ⟨d0, d1, d2, d3⟩
                  go_simp
                simp only [Act.put, List.setIfInBounds_toArray, List.set_cons_zero, List.set_cons_succ]
                refine wpAnyH_take (i := 1) (oi := { dst := some 99, op := Op.move (Operand.tmp 17), type := 3, pos := "law.go:165", after := #[], guard := none }) (v := .int .i64 (k : Nat)) rfl (by kernel_rfl) (by kernel_rfl) (by kernel_rfl) (fun _ _ _ h => h) (Or.inl ⟨by rfl, ?_⟩) (SK.out _ tV) ?_
                · rintro w ⟨d0, d1, d2, d3⟩
                  go_simp
                simp only [Act.put, List.setIfInBounds_toArray, List.set_cons_zero, List.set_cons_succ]
                refine wpAnyH_take (i := 2) (oi := { dst := some 100, op := Op.indexAddr 27 (Operand.tmp 98) (Operand.tmp 99), type := 0, pos := "law.go:165", after := #[{ on := 0, ground := Ground.data }, { on := 1, ground := Ground.data }], guard := none }) (v := .pointer (some ⟨ab, ao + k * 4, none⟩)) rfl (by kernel_rfl) (by kernel_rfl) (by kernel_rfl) (fun _ _ _ h => h) (Or.inl ⟨by rfl, ?_⟩) (SK.out _ tV) ?_
                · rintro w ⟨d0, d1, d2, d3⟩
                  go_simp
                simp only [Act.put, List.setIfInBounds_toArray, List.set_cons_zero, List.set_cons_succ]
                refine wpAnyH_take (i := 3) (oi := { dst := some 101, op := Op.fieldAddr 25 (Operand.tmp 100) 0, type := 0, pos := "law.go:165", after := #[{ on := 2, ground := Ground.data }], guard := none }) (v := .pointer (some ⟨ab, ao + k * 4, none⟩)) rfl (by kernel_rfl) (by kernel_rfl) (by kernel_rfl) (fun _ _ _ h => h) (Or.inl ⟨by rfl, ?_⟩) (SK.out _ tV) ?_
                · rintro w ⟨d0, d1, d2, d3⟩
                  go_simp
                simp only [Act.put, List.setIfInBounds_toArray, List.set_cons_zero, List.set_cons_succ]
                refine wpAnyH_take (i := 4) (oi := { dst := some 102, op := Op.load 22 (Operand.tmp 101), type := 22, pos := "law.go:165", after := #[{ on := 3, ground := Ground.data }], guard := none }) (v := .slice y.ka y.e.key.length y.kc) rfl (by kernel_rfl) (by kernel_rfl) (by kernel_rfl) (fun _ _ _ h => h) (Or.inl ⟨by rfl, ?_⟩) (SK.out _ tV) ?_
                · rintro w ⟨d0, d1, d2, d3⟩
                  go_simp
                simp only [Act.put, List.setIfInBounds_toArray, List.set_cons_zero, List.set_cons_succ]
                refine wpAnyH_take (i := 5) (oi := { dst := some 103, op := Op.move (Operand.tmp 8), type := 27, pos := "law.go:165", after := #[], guard := none }) (v := .slice (some ⟨ab, ao, none⟩) ln ac) rfl (by kernel_rfl) (by kernel_rfl) (by kernel_rfl) (fun _ _ _ h => h) (Or.inl ⟨by rfl, ?_⟩) (SK.out _ tV) ?_
                · rintro w ⟨d0, d1, d2, d3⟩
                  go_simp
                simp only [Act.put, List.setIfInBounds_toArray, List.set_cons_zero, List.set_cons_succ]
                refine wpAnyH_take (i := 6) (oi := { dst := some 104, op := Op.move (Operand.tmp 15), type := 3, pos := "law.go:165", after := #[], guard := none }) (v := .int .i64 (j : Nat)) rfl (by kernel_rfl) (by kernel_rfl) (by kernel_rfl) (fun _ _ _ h => h) (Or.inl ⟨by rfl, ?_⟩) (SK.out _ tV) ?_
                · rintro w ⟨d0, d1, d2, d3⟩
                  go_simp
                simp only [Act.put, List.setIfInBounds_toArray, List.set_cons_zero, List.set_cons_succ]
                refine wpAnyH_take (i := 7) (oi := { dst := some 105, op := Op.indexAddr 27 (Operand.tmp 103) (Operand.tmp 104), type := 0, pos := "law.go:165", after := #[{ on := 5, ground := Ground.data }, { on := 6, ground := Ground.data }], guard := none }) (v := .pointer (some ⟨ab, ao + j * 4, none⟩)) rfl (by kernel_rfl) (by kernel_rfl) (by kernel_rfl) (fun _ _ _ h => h) (Or.inl ⟨by rfl, ?_⟩) (SK.out _ tV) ?_
                · rintro w ⟨d0, d1, d2, d3⟩
                  go_simp
                simp only [Act.put, List.setIfInBounds_toArray, List.set_cons_zero, List.set_cons_succ]
                refine wpAnyH_take (i := 8) (oi := { dst := some 106, op := Op.fieldAddr 25 (Operand.tmp 105) 0, type := 0, pos := "law.go:165", after := #[{ on := 7, ground := Ground.data }], guard := none }) (v := .pointer (some ⟨ab, ao + j * 4, none⟩)) rfl (by kernel_rfl) (by kernel_rfl) (by kernel_rfl) (fun _ _ _ h => h) (Or.inl ⟨by rfl, ?_⟩) (SK.out _ tV) ?_
                · rintro w ⟨d0, d1, d2, d3⟩
                  go_simp
                simp only [Act.put, List.setIfInBounds_toArray, List.set_cons_zero, List.set_cons_succ]
                refine wpAnyH_take (i := 9) (oi := { dst := some 107, op := Op.load 22 (Operand.tmp 106), type := 22, pos := "law.go:165", after := #[{ on := 8, ground := Ground.data }], guard := none }) (v := .slice x.ka x.e.key.length x.kc) rfl (by kernel_rfl) (by kernel_rfl) (by kernel_rfl) (fun _ _ _ h => h) (Or.inl ⟨by rfl, ?_⟩) (SK.out _ tV) ?_
                · rintro w ⟨d0, d1, d2, d3⟩
                  go_simp
                simp only [Act.put, List.setIfInBounds_toArray, List.set_cons_zero, List.set_cons_succ]
                refine wpAnyH_ready (rs := [10]) (by kernel_rfl) (by simp) ?_
                refine AllReadyH.cons rfl (fun K hK => ?_) AllReadyH.nil
                go_simp
                refine (KEQ.out _ tV).mono ?_
                rintro oo Vn ⟨rfl, tN⟩
                have tV := tV.trans tN
                clear tN
                go_simp
                refine hK.out _ _ (SK.out _ tV) (fun _ => ?_)
                clear hK K
                refine wpAnyH_take (i := 11) (oi := { dst := some 109, op := Op.move (Operand.tmp 108), type := 4, pos := "law.go:165", after := #[{ on := 10, ground := Ground.data }, { on := 10, ground := Ground.chain }], guard := none }) (v := .bool false) rfl (by kernel_rfl) (by kernel_rfl) (by kernel_rfl) (fun _ _ _ h => h) (Or.inl ⟨by rfl, ?_⟩) (SK.out _ tV) ?_
                · rintro w ⟨d0, d1, d2, d3⟩
                  go_simp
                simp only [Act.put, List.setIfInBounds_toArray, List.set_cons_zero, List.set_cons_succ]
                refine wpAnyH_take (i := 12) (oi := { dst := some 110, op := Op.move (Operand.tmp 8), type := 27, pos := "law.go:165", after := #[{ on := 11, ground := Ground.guard }], guard := some (11, true) }) (v := undef) rfl (by kernel_rfl) (by kernel_rfl) (by kernel_rfl) (fun _ _ _ h => h) (Or.inr ⟨by rfl, rfl⟩) (SK.out _ tV) ?_
                simp only [Act.put, List.setIfInBounds_toArray, List.set_cons_zero, List.set_cons_succ]
                refine wpAnyH_take (i := 13) (oi := { dst := some 111, op := Op.move (Operand.tmp 17), type := 3, pos := "law.go:165", after := #[{ on := 11, ground := Ground.guard }], guard := some (11, true) }) (v := undef) rfl (by kernel_rfl) (by kernel_rfl) (by kernel_rfl) (fun _ _ _ h => h) (Or.inr ⟨by rfl, rfl⟩) (SK.out _ tV) ?_
                simp only [Act.put, List.setIfInBounds_toArray, List.set_cons_zero, List.set_cons_succ]
                refine wpAnyH_take (i := 14) (oi := { dst := some 112, op := Op.indexAddr 27 (Operand.tmp 110) (Operand.tmp 111), type := 0, pos := "law.go:165", after := #[{ on := 12, ground := Ground.data }, { on := 13, ground := Ground.data }, { on := 11, ground := Ground.guard }], guard := some (11, true) }) (v := undef) rfl (by kernel_rfl) (by kernel_rfl) (by kernel_rfl) (fun _ _ _ h => h) (Or.inr ⟨by rfl, rfl⟩) (SK.out _ tV) ?_
                simp only [Act.put, List.setIfInBounds_toArray, List.set_cons_zero, List.set_cons_succ]
                refine wpAnyH_take (i := 15) (oi := { dst := some 113, op := Op.fieldAddr 25 (Operand.tmp 112) 1, type := 0, pos := "law.go:165", after := #[{ on := 14, ground := Ground.data }, { on := 11, ground := Ground.guard }], guard := some (11, true) }) (v := undef) rfl (by kernel_rfl) (by kernel_rfl) (by kernel_rfl) (fun _ _ _ h => h) (Or.inr ⟨by rfl, rfl⟩) (SK.out _ tV) ?_
                simp only [Act.put, List.setIfInBounds_toArray, List.set_cons_zero, List.set_cons_succ]
                refine wpAnyH_take (i := 16) (oi := { dst := some 114, op := Op.load 23 (Operand.tmp 113), type := 23, pos := "law.go:165", after := #[{ on := 15, ground := Ground.data }, { on := 11, ground := Ground.guard }], guard := some (11, true) }) (v := undef) rfl (by kernel_rfl) (by kernel_rfl) (by kernel_rfl) (fun _ _ _ h => h) (Or.inr ⟨by rfl, rfl⟩) (SK.out _ tV) ?_
                simp only [Act.put, List.setIfInBounds_toArray, List.set_cons_zero, List.set_cons_succ]
                refine wpAnyH_take (i := 17) (oi := { dst := some 115, op := Op.move (Operand.tmp 2), type := 23, pos := "law.go:165", after := #[{ on := 11, ground := Ground.guard }], guard := some (11, true) }) (v := undef) rfl (by kernel_rfl) (by kernel_rfl) (by kernel_rfl) (fun _ _ _ h => h) (Or.inr ⟨by rfl, rfl⟩) (SK.out _ tV) ?_
                simp only [Act.put, List.setIfInBounds_toArray, List.set_cons_zero, List.set_cons_succ]
                refine wpAnyH_take (i := 18) (oi := { dst := some 116, op := Op.binOp BinOp.leq 23 (Operand.tmp 114) (Operand.tmp 115) 23, type := 4, pos := "law.go:165", after := #[{ on := 16, ground := Ground.data }, { on := 17, ground := Ground.data }, { on := 11, ground := Ground.guard }], guard := some (11, true) }) (v := undef) rfl (by kernel_rfl) (by kernel_rfl) (by kernel_rfl) (fun _ _ _ h => h) (Or.inr ⟨by rfl, rfl⟩) (SK.out _ tV) ?_
                simp only [Act.put, List.setIfInBounds_toArray, List.set_cons_zero, List.set_cons_succ]
                refine wpAnyH_take (i := 19) (oi := { dst := some 117, op := Op.pick (Operand.tmp 109) (Operand.tmp 116) (Operand.const (Value.bool false)), type := 4, pos := "law.go:165", after := #[{ on := 11, ground := Ground.data }, { on := 18, ground := Ground.data }], guard := none }) (v := .bool false) rfl (by kernel_rfl) (by kernel_rfl) (by kernel_rfl) (fun _ _ _ h => h) (Or.inl ⟨by rfl, ?_⟩) (SK.out _ tV) ?_
                · rintro w ⟨d0, d1, d2, d3⟩
                  go_simp
                simp only [Act.put, List.setIfInBounds_toArray, List.set_cons_zero, List.set_cons_succ]
                refine wpAnyH_take (i := 20) (oi := { dst := some 118, op := Op.move (Operand.tmp 117), type := 4, pos := "law.go:165", after := #[{ on := 19, ground := Ground.data }, { on := 11, ground := Ground.chain }], guard := none }) (v := .bool false) rfl (by kernel_rfl) (by kernel_rfl) (by kernel_rfl) (fun _ _ _ h => h) (Or.inl ⟨by rfl, ?_⟩) (SK.out _ tV) ?_
                · rintro w ⟨d0, d1, d2, d3⟩
                  go_simp
                simp only [Act.put, List.setIfInBounds_toArray, List.set_cons_zero, List.set_cons_succ]
                refine wpAnyH_take (i := 21) (oi := { dst := some 119, op := Op.move (Operand.tmp 8), type := 27, pos := "law.go:165", after := #[{ on := 20, ground := Ground.guard }], guard := some (20, true) }) (v := undef) rfl (by kernel_rfl) (by kernel_rfl) (by kernel_rfl) (fun _ _ _ h => h) (Or.inr ⟨by rfl, rfl⟩) (SK.out _ tV) ?_
                simp only [Act.put, List.setIfInBounds_toArray, List.set_cons_zero, List.set_cons_succ]
                refine wpAnyH_take (i := 22) (oi := { dst := some 120, op := Op.move (Operand.tmp 17), type := 3, pos := "law.go:165", after := #[{ on := 20, ground := Ground.guard }], guard := some (20, true) }) (v := undef) rfl (by kernel_rfl) (by kernel_rfl) (by kernel_rfl) (fun _ _ _ h => h) (Or.inr ⟨by rfl, rfl⟩) (SK.out _ tV) ?_
                simp only [Act.put, List.setIfInBounds_toArray, List.set_cons_zero, List.set_cons_succ]
                refine wpAnyH_take (i := 23) (oi := { dst := some 121, op := Op.indexAddr 27 (Operand.tmp 119) (Operand.tmp 120), type := 0, pos := "law.go:165", after := #[{ on := 21, ground := Ground.data }, { on := 22, ground := Ground.data }, { on := 20, ground := Ground.guard }], guard := some (20, true) }) (v := undef) rfl (by kernel_rfl) (by kernel_rfl) (by kernel_rfl) (fun _ _ _ h => h) (Or.inr ⟨by rfl, rfl⟩) (SK.out _ tV) ?_
                simp only [Act.put, List.setIfInBounds_toArray, List.set_cons_zero, List.set_cons_succ]
                refine wpAnyH_take (i := 24) (oi := { dst := some 122, op := Op.fieldAddr 25 (Operand.tmp 121) 1, type := 0, pos := "law.go:165", after := #[{ on := 23, ground := Ground.data }, { on := 20, ground := Ground.guard }], guard := some (20, true) }) (v := undef) rfl (by kernel_rfl) (by kernel_rfl) (by kernel_rfl) (fun _ _ _ h => h) (Or.inr ⟨by rfl, rfl⟩) (SK.out _ tV) ?_
                simp only [Act.put, List.setIfInBounds_toArray, List.set_cons_zero, List.set_cons_succ]
                refine wpAnyH_take (i := 25) (oi := { dst := some 123, op := Op.load 23 (Operand.tmp 122), type := 23, pos := "law.go:165", after := #[{ on := 24, ground := Ground.data }, { on := 20, ground := Ground.guard }], guard := some (20, true) }) (v := undef) rfl (by kernel_rfl) (by kernel_rfl) (by kernel_rfl) (fun _ _ _ h => h) (Or.inr ⟨by rfl, rfl⟩) (SK.out _ tV) ?_
                simp only [Act.put, List.setIfInBounds_toArray, List.set_cons_zero, List.set_cons_succ]
                refine wpAnyH_take (i := 26) (oi := { dst := some 124, op := Op.move (Operand.tmp 8), type := 27, pos := "law.go:165", after := #[{ on := 20, ground := Ground.guard }], guard := some (20, true) }) (v := undef) rfl (by kernel_rfl) (by kernel_rfl) (by kernel_rfl) (fun _ _ _ h => h) (Or.inr ⟨by rfl, rfl⟩) (SK.out _ tV) ?_
                simp only [Act.put, List.setIfInBounds_toArray, List.set_cons_zero, List.set_cons_succ]
                refine wpAnyH_take (i := 27) (oi := { dst := some 125, op := Op.move (Operand.tmp 15), type := 3, pos := "law.go:165", after := #[{ on := 20, ground := Ground.guard }], guard := some (20, true) }) (v := undef) rfl (by kernel_rfl) (by kernel_rfl) (by kernel_rfl) (fun _ _ _ h => h) (Or.inr ⟨by rfl, rfl⟩) (SK.out _ tV) ?_
                simp only [Act.put, List.setIfInBounds_toArray, List.set_cons_zero, List.set_cons_succ]
                refine wpAnyH_take (i := 28) (oi := { dst := some 126, op := Op.indexAddr 27 (Operand.tmp 124) (Operand.tmp 125), type := 0, pos := "law.go:165", after := #[{ on := 26, ground := Ground.data }, { on := 27, ground := Ground.data }, { on := 20, ground := Ground.guard }], guard := some (20, true) }) (v := undef) rfl (by kernel_rfl) (by kernel_rfl) (by kernel_rfl) (fun _ _ _ h => h) (Or.inr ⟨by rfl, rfl⟩) (SK.out _ tV) ?_
                simp only [Act.put, List.setIfInBounds_toArray, List.set_cons_zero, List.set_cons_succ]
                refine wpAnyH_take (i := 29) (oi := { dst := some 127, op := Op.fieldAddr 25 (Operand.tmp 126) 1, type := 0, pos := "law.go:165", after := #[{ on := 28, ground := Ground.data }, { on := 20, ground := Ground.guard }], guard := some (20, true) }) (v := undef) rfl (by kernel_rfl) (by kernel_rfl) (by kernel_rfl) (fun _ _ _ h => h) (Or.inr ⟨by rfl, rfl⟩) (SK.out _ tV) ?_
                simp only [Act.put, List.setIfInBounds_toArray, List.set_cons_zero, List.set_cons_succ]
                refine wpAnyH_take (i := 30) (oi := { dst := some 128, op := Op.load 23 (Operand.tmp 127), type := 23, pos := "law.go:165", after := #[{ on := 29, ground := Ground.data }, { on := 20, ground := Ground.guard }], guard := some (20, true) }) (v := undef) rfl (by kernel_rfl) (by kernel_rfl) (by kernel_rfl) (fun _ _ _ h => h) (Or.inr ⟨by rfl, rfl⟩) (SK.out _ tV) ?_
                simp only [Act.put, List.setIfInBounds_toArray, List.set_cons_zero, List.set_cons_succ]
                refine wpAnyH_take (i := 31) (oi := { dst := some 129, op := Op.binOp BinOp.gtr 23 (Operand.tmp 123) (Operand.tmp 128) 23, type := 4, pos := "law.go:165", after := #[{ on := 25, ground := Ground.data }, { on := 30, ground := Ground.data }, { on := 20, ground := Ground.guard }], guard := some (20, true) }) (v := undef) rfl (by kernel_rfl) (by kernel_rfl) (by kernel_rfl) (fun _ _ _ h => h) (Or.inr ⟨by rfl, rfl⟩) (SK.out _ tV) ?_
                simp only [Act.put, List.setIfInBounds_toArray, List.set_cons_zero, List.set_cons_succ]
                refine wpAnyH_take (i := 32) (oi := { dst := some 130, op := Op.pick (Operand.tmp 118) (Operand.tmp 129) (Operand.const (Value.bool false)), type := 4, pos := "law.go:165", after := #[{ on := 20, ground := Ground.data }, { on := 31, ground := Ground.data }], guard := none }) (v := .bool false) rfl (by kernel_rfl) (by kernel_rfl) (by kernel_rfl) (fun _ _ _ h => h) (Or.inl ⟨by rfl, ?_⟩) (SK.out _ tV) ?_
                · rintro w ⟨d0, d1, d2, d3⟩
                  go_simp
                simp only [Act.put, List.setIfInBounds_toArray, List.set_cons_zero, List.set_cons_succ]
                refine wpAnyH_done (by kernel_rfl) ?_ _
                have TK2 := hide (TK.out.trans tV)
                clear tV
                go_wp2_with fail
                go_roundw
                case rel => exact ⟨k + 1, by go_num, by omega, by rw [flag_next HYE.out (show hides seq x.e y.e = false by simp [hides, HKY.out])]; simp, TK2.out⟩
                case measure => simp [intOf]; omega
            · have k1 : ¬ (k : Int) < ln := by omega
              have hfull : (Q.map (·.e)).take k = Q.map (·.e) := List.take_of_length_le (by rw [List.length_map]; have := HLQ.out; omega)
              rw [hfull]
              clear hfull
              have TK9 := hide (TT.out.trans TK.out)
              have E9 := hide (HE.out.keep TK.out (fun _ _ x => x))
              have FW9 := hide (show Fc wk ab (ao + j * 4) x from ⟨TK.out.cell FX.out.1 (fun x => x), TK.out.cell FX.out.2.1 (fun x => x), TK.out.cell FX.out.2.2.1 (fun x => x), TK.out.cell FX.out.2.2.2 (fun x => x)⟩)
              obtain ⟨y0, y1, y2, y3⟩ := FW9.out
              by_cases hkd : x.e.kind = 1
              · have hkd' : (x.e.kind == 1) = true := by simpa using hkd
                have HKD := hide hkd
                clear hkd
                cases hfl : flag seq x.e (Q.map (·.e)) with
                | true =>
                  have PF := hide (show newest seq (Q.map (·.e)) x.e = true by rw [newest_flag, hfl, HKD.out]; rfl)
                  clear hfl
                  obtain ⟨g', n', c', w3, hr3, hrow3, t3, b3, _⟩ := append_ent (wk.alloc (.cells #[.slice x.ka x.e.key.length x.kc, .int .u64 (x.e.seq : Nat), .int .i64 x.e.kind, .slice x.va x.e.val.length x.vc] 25)) w7.heap.size (.slice oa W.length oc) W (E9.out.keep ((Turns.refl (fun _ => False) wk).alloc _) (fun _ _ x => x)) (by have h1 := TK9.out.size; simp; omega) (by have := HRL.out; omega) x wk.heap.size 1 (heap_alloc_new wk _)
                  have hq := hr3 27
                  have HR3 := hide hrow3
                  have T3 := hide (Turns.of_below (((TK9.out.below (B := w7.heap.size) (Nat.le_refl _) (fun _ x => x.elim)).alloc TK9.out.size _).trans b3) (fun _ => False))
                  clear hr3 hrow3 t3 b3
                  go_wp2_with (at_builtin; refine wpList_append_run rfl _ _ 27 rfl (.slice oa W.length oc) (.slice (some ⟨wk.heap.size, 0, none⟩) 1 1) rfl rfl _ _ hq ?_)
                  go_roundw
                  case rel => exact ⟨j + 1, W ++ [x], by go_num, by omega, HR3.out, fun y hy => (List.mem_append.1 hy).elim (HI.out y) (fun hy => by rw [List.mem_singleton.1 hy]; exact List.mem_of_getElem? HX.out), by rw [STEP.out, ← HMM.out, List.filter_cons_of_pos (by rw [PF.out])]; simp, T3.out⟩
                  case measure => simp [intOf]; omega
                | false =>
                  have PF := hide (show newest seq (Q.map (·.e)) x.e = false by rw [newest_flag, hfl]; rfl)
                  clear hfl
                  go_wp2_with fail
                  go_roundw
                  case rel => exact ⟨j + 1, W, by go_num, by omega, E9.out, HI.out, by rw [STEP.out, ← HMM.out, List.filter_cons_of_neg (by rw [PF.out]; simp)]; simp, TK9.out⟩
                  case measure => simp [intOf]; omega
              · have hkd' : (x.e.kind == 1) = false := by simpa using hkd
                have PF := hide (show newest seq (Q.map (·.e)) x.e = false by rw [newest_flag, show decide (x.e.kind = 1) = false by simpa using hkd]; simp)
                clear hkd
                generalize flag seq x.e (Q.map (·.e)) = fl
                cases fl
                all_goals
                  go_wp2_with fail
                  go_roundw
                  case rel => exact ⟨j + 1, W, by go_num, by omega, E9.out, HI.out, by rw [STEP.out, ← HMM.out, List.filter_cons_of_neg (by rw [PF.out]; simp)]; simp, TK9.out⟩
                  case measure => simp [intOf]; omega
        · have j1 : ¬ (j : Int) < ln := by omega
          have hfull : (Q.map (·.e)).take j = Q.map (·.e) := List.take_of_length_le (by rw [List.length_map]; have := HLQ.out; omega)
          have EW := hide (show ents R7 = ents W by show R7.map (·.e) = W.map (·.e); rw [E7.out, HMM.out, hfull])
          have IW := hide (show InRs (L1 ++ L2) W from fun x hx => INQ.out x (HI.out x hx))
          have RX := hide (RI7.out.quiet TT.out)
          have GX := hide (G7.out.quiet TT.out)
          have GW := hide (show Got2 wx (.slice oa W.length oc) W by obtain ⟨_, _, _, h⟩ := got_of RX.out HE.out IW.out; exact h)
          have TX := hide (TW7.out.trans TT.out)
          have ENX := hide (EN7.out.quiet TT.out)
          clear hfull RI7 G7 TW7 EN7 HMM HI E7 HE TT
          go_wp2_with fail
          refine (sameC_any a7 oa n7 W.length c7 oc R7 W (L1 ++ L2) wx GX.out GW.out EW.out IW.out FW.out HRL.out).mono ?_
          rintro e w8 ⟨rfl, b8⟩
          have t8 := Turns.of_below b8 (fun _ => False)
          have T8 := hide (TX.out.trans t8)
          have R8 := hide (RX.out.quiet t8)
          have EN8 := hide (ENX.out.quiet t8)
          clear b8 t8 GX GW EW IW RX TX ENX
          go_wp2_with fail
          refine (copy_any (some ⟨gp, 0, none⟩) 2 4 L1 w8 R8.out.part.1 HL1.out.symm FW.out.part.1).mono ?_
          rintro e w9 ⟨a9, n9, c9, p9, rfl, hc9, b9⟩
          have t9 := Turns.of_below b9 (fun _ => False)
          have T9 := hide (T8.out.trans t9)
          have R9 := hide (R8.out.quiet t9)
          have EN9 := hide (EN8.out.quiet t9)
          have CO9 := hide hc9
          clear b9 t9 hc9 T8 R8 EN8
          go_wp2_with fail
          refine (allD_any a9 n9 c9 p9 L1 w9 CO9.out (ords_part HD.out.ords).1 FW.out.part.1).mono ?_
          rintro e wA ⟨ra, rfl, okA, mgA, upA, lnA, szA, bA⟩
          have tA := Turns.of_below bA (fun _ => False)
          have TA := hide (T9.out.trans tA)
          have RA := hide (R9.out.quiet tA)
          have ENA := hide (EN9.out.quiet tA)
          have OKA := hide okA
          have HA := hide (And.intro mgA (And.intro upA (And.intro lnA szA)))
          clear bA tA okA mgA upA lnA szA T9 R9 EN9 CO9
          go_wp2_with fail
          refine (copy_any (some ⟨gp, 2, none⟩) 2 2 L2 wA (by have h := RA.out.part.2; rw [HL1.out] at h; exact h) HL2.out.symm FW.out.part.2).mono ?_
          rintro e wB ⟨aB, nB, cB, pB, rfl, hcB, bB⟩
          have tB := Turns.of_below bB (fun _ => False)
          have TB := hide (TA.out.trans tB)
          have ENB := hide (ENA.out.quiet tB)
          have OKA2 := hide (OKA.out.quiet tB)
          have COB := hide hcB
          clear bB tB hcB TA RA ENA OKA
          go_wp2_with fail
          refine (allD_any aB nB cB pB L2 wB COB.out (ords_part HD.out.ords).2 FW.out.part.2).mono ?_
          rintro e wC ⟨rb, rfl, okB, mgB, upB, lnB, szB, bC⟩
          have tC := Turns.of_below bC (fun _ => False)
          have tD := (Turns.refl (fun _ => False) wC).alloc (.cells #[ra.v, rb.v] 27)
          have TC := hide ((TB.out.trans tC).trans tD)
          have ENC := hide ((ENB.out.quiet tC).quiet tD)
          have ROWS := hide (rows_two (heap_alloc_new wC (.cells #[ra.v, rb.v] 27)) ((OKA2.out.quiet tC).quiet tD) (okB.quiet tD))
          have HB := hide (And.intro mgB (And.intro upB (And.intro lnB szB)))
          have AC := hide (all_any (some ⟨wC.heap.size, 0, none⟩) 2 2 [ra, rb] (wC.alloc (.cells #[ra.v, rb.v] 27)) ROWS.out rfl (good_two HA.out.2.2.1 HB.out.2.2.1 HA.out.2.2.2 HB.out.2.2.2))
          clear bC tC tD okB mgB upB lnB szB TB ENB OKA2 COB
          unfold Rw.v at AC ROWS TC ENC
          go_wp2_with fail
          refine AC.out.mono ?_
          rintro e wE ⟨v, R, rfl, hE, hS, hb, hA⟩
          obtain ⟨o1, o2⟩ := all_two ROWS.out HD.out HA.out.1 HB.out.1 HA.out.2.1 HB.out.2.1 hA
          rw [o1, show ordE true = 0 from rfl]
          obtain ⟨a', c', rfl, hen, _, _⟩ := ents_of hE hS
          have tE := Turns.of_below hb (fun _ => False)
          have SC := hide (sameC_any a' aa R.length ln c' ac R Q (L1 ++ L2) wE ⟨_, _, rfl, hen⟩ ⟨aa, ac, by rw [HLQ.out], ENC.out.quiet tE⟩ o2 INQ.out FW.out (by rw [HLQ.out]; exact hQ150))
          have TE := hide (TC.out.trans tE)
          clear hE hS hb hA hen o1 o2 tE AC ENC TC ROWS HA HB
          go_wp2_with fail
          refine SC.out.mono ?_
          rintro e wF ⟨rfl, bF⟩
          have TF := hide (TE.out.trans (Turns.of_below bF (fun _ => False)))
          clear bF SC TE
          go_wp2_with fail
          go_ret
          exact ⟨rfl, TF.out.below (Nat.le_refl _) (fun _ x => x.elim)⟩

end Go.Proofs.Ytjnpendihdlgnaa
