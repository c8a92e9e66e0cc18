/-
  Scores.
-/
import Derived.Test.YtkmcdjbadngfgaaPa
import Derived.Test.YtkmcdjbadngfgaaTx
namespace Go.Proofs.Ytkmcdjbadngfgaa
open Go.RowKit
set_option maxRecDepth 100000
set_option maxHeartbeats 4000000
def scoreP (LL : List (List Fl)) (t b f z : Int) : Int := if z = 0 then ((LL.getD 0 []).length : Int) * 100 / t else if z = 4 then 0 else sizesF (LL.getD z.toNat []) * 100 / boundP t b f z
theorem div_wrap {x t : Int} (h0 : 0 ≤ x) (h1 : x < 9223372036854775808) (ht : 1 ≤ t) : IntKind.i64.wrap (x.tdiv t) = x / t := by
  rw [Int.tdiv_eq_ediv_of_nonneg h0]
  have a1 : 0 ≤ x / t := Int.ediv_nonneg h0 (by omega)
  have a2 : x / t ≤ x := Int.ediv_le_self t h0
  exact wrapI _ (by omega) (by omega)
theorem sizes_le : ∀ (l : List Fl), (∀ f ∈ l, wrongF f = false) → 0 ≤ sizesF l ∧ sizesF l ≤ l.length * 16777216
  | [], _ => by simp [sizesF]
  | f :: r, h => by
    obtain ⟨h1, h2⟩ := sizes_le r fun x hx => h x (List.mem_cons_of_mem _ hx)
    obtain ⟨v1, v2, v3, v4, _⟩ := wrongF_false (h f List.mem_cons_self)
    unfold sizesF at *
    simp only [List.map_cons, List.sum_cons, List.length_cons]
    push_cast
    omega
theorem score_any (a : Option Addr) (n c next seq log : Nat) (L : List Lv) (t b f z : Int) (w : World) (h : VerIn w a n L next seq log) (hv : wrongVF (flL L) next seq log = false) (hs : setBad t b f = false) (h0 : 0 ≤ z) (h4 : z < 5) :
    Calls Try.prog 26 #[verAgg a n c next seq log, setAgg t b f, .int .i64 z] w fun e w' => e = .returned (.int .i64 (scoreP (flL L) t b f z)) ∧ Turns (fun _ => False) w w' := by
  have TA := hide (((Turns.refl (fun _ => False) w).alloc (.cells #[.slice a n c, .int .u64 (next : Nat), .int .u64 (seq : Nat), .int .u64 (log : Nat)] 25)).alloc (.cells #[.int .i64 t, .int .i64 b, .int .i64 f] 35))
  have R0 := hide (((Turns.refl (fun _ => False) (w.alloc (.cells #[.slice a n c, .int .u64 (next : Nat), .int .u64 (seq : Nat), .int .u64 (log : Nat)] 25))).alloc (.cells #[.int .i64 t, .int .i64 b, .int .i64 f] 35)).heap (heap_alloc_new w (.cells #[.slice a n c, .int .u64 (next : Nat), .int .u64 (seq : Nat), .int .u64 (log : Nat)] 25)) (fun x => x))
  have R1 := hide (heap_alloc_new (w.alloc (.cells #[.slice a n c, .int .u64 (next : Nat), .int .u64 (seq : Nat), .int .u64 (log : Nat)] 25)) (.cells #[.int .i64 t, .int .i64 b, .int .i64 f] 35))
  have H5 := len_of_ok hv
  rw [flL_length] at H5
  have hn := h.len
  have hcnt := h.cnt
  have hwf := wrongV_files ((wrongV_F L next seq log).trans hv)
  obtain ⟨s1, s2, _, _, _, _⟩ := setBad_false hs
  have hscore : scoreP (flL L) t b f z = if z = 0 then (((flL L).getD 0 []).length : Int) * 100 / t else if z = 4 then 0 else sizesF ((flL L).getD z.toNat []) * 100 / boundP t b f z := rfl
  have hfl : ∀ k : Nat, k < 5 → ∃ x : Lv, L[k]? = some x ∧ (flL L).getD k [] = fls x.l ∧ x.l.length ≤ 5000 ∧ 0 ≤ sizesF (fls x.l) ∧ sizesF (fls x.l) ≤ 5000 * 16777216 := fun k hk => by
    obtain ⟨x, hx⟩ : ∃ x, L[k]? = some x := ⟨_, List.getElem?_eq_getElem (by omega)⟩
    have c1 := cnt_take hx
    have c2 := cnt_take_le L (k + 1)
    obtain ⟨q1, q2⟩ := sizes_le (fls x.l) fun g hg => by
      obtain ⟨y, hy, rfl⟩ := List.mem_map.1 hg
      exact hwf x (List.mem_of_getElem? hx) y hy
    have hl : (fls x.l).length = x.l.length := by simp [fls]
    rw [hl] at q2
    exact ⟨x, hx, by rw [List.getD, flL_at hx]; rfl, by omega, q1, by omega⟩
  have BD := hide (fun u => bound_any t b f z u)
  have VB := hide (fun (u : World) (tu : Turns (fun _ => False) w u) => vbytes_any a n c next seq log L z u (h.quiet tu))
  simp only [World.size_alloc] at R1
  by_cases z0 : z = 0
  · subst z0
    obtain ⟨x, hx, hg, hxl, _⟩ := hfl 0 (by omega)
    obtain ⟨⟨bk, off, rfl, hc⟩, _⟩ := (h.quiet TA.out).levs 0 x hx
    have hbp : boundP t b f 0 = t := by unfold boundP; rw [hs]; simp
    rw [hbp] at BD
    rw [if_pos rfl, hg, show (fls x.l).length = x.l.length by simp [fls]] at hscore
    have HSC := hide hscore
    have hxi : (x.l.length : Int) ≤ 5000 := by omega
    have e0 : n ≠ 0 := by omega
    generalize x.l.length = XL at *
    generalize scoreP (flL L) t b f 0 = SC at *
    have q2 := cell_of_row _ w.heap.size 0 _ 25 (0, 0) R0.out
    obtain rfl : n = 5 := by omega
    have t0 : ¬ t = 0 := by omega
    rw [Nat.add_zero] at hc
    have hm : IntKind.i64.wrap ((XL : Int) * 100) = (XL : Int) * 100 := wrapI _ (by omega) (by omega)
    have hq : IntKind.i64.wrap (((XL : Int) * 100).tdiv t) = (XL : Int) * 100 / t := div_wrap (by omega) (by omega) (by omega)
    clear hfl hwf hscore hx hg h hv VB hxl hcnt H5 hs hbp hn e0
    unfold verAgg setAgg at *
    go_enter Try.func26, Try.ntmps26
    go_wp2_with fail
    generalize hP : w.heap.size = P at *
    generalize hw0 : (w.alloc (.cells #[.slice (some ⟨bk, off, none⟩) 5 c, .int .u64 (next : Nat), .int .u64 (seq : Nat), .int .u64 (log : Nat)] 25)).alloc (.cells #[.int .i64 t, .int .i64 b, .int .i64 f] 35) = w0 at *
    clear hw0 hP
    have SK := hide (fun (u : World) (tu : Turns (fun _ => False) w0 u) => show u.cell? ⟨P, 0, none⟩ = some (.slice (some ⟨bk, off, none⟩) 5 c) ∧ u.cell? ⟨bk, off, none⟩ = some (.slice x.a XL x.c) ∧ u.cell? ⟨P + 1, 0, none⟩ = some (.int .i64 t) ∧ u.cell? ⟨P + 1, 1, none⟩ = some (.int .i64 b) ∧ u.cell? ⟨P + 1, 2, none⟩ = some (.int .i64 f) from ⟨tu.cell q2 (fun x => x), tu.cell hc (fun x => x), cell_of_row u (P + 1) 0 _ 35 (0, 0) (tu.heap R1.out (fun x => x)), cell_of_row u (P + 1) 1 _ 35 (0, 0) (tu.heap R1.out (fun x => x)), cell_of_row u (P + 1) 2 _ 35 (0, 0) (tu.heap R1.out (fun x => x))⟩)
    clear q2 hc
    have tV := (Turns.refl (fun _ => False) w0).drew
    refine wp_region_held_drew (S := fun u => u.cell? ⟨P, 0, none⟩ = some (.slice (some ⟨bk, off, none⟩) 5 c) ∧ u.cell? ⟨bk, off, none⟩ = some (.slice x.a XL x.c) ∧ u.cell? ⟨P + 1, 0, none⟩ = some (.int .i64 t) ∧ u.cell? ⟨P + 1, 1, none⟩ = some (.int .i64 b) ∧ u.cell? ⟨P + 1, 2, none⟩ = some (.int .i64 f)) (by kernel_rfl) (SK.out _ tV) (fun _ => ?_)
    change wpAnyH _ _ _ _ _ 10 (Array.replicate 10 false) _ _
    refine wpAnyH_take (i := 0) (oi := { dst := some 10, op := Op.fieldAddr 25 (Operand.tmp 3) 0, type := 0, pos := "score.go:28", after := #[], guard := none }) (v := .pointer (some ⟨P, 0, none⟩)) rfl (by kernel_rfl) (by kernel_rfl) (by kernel_rfl) (fun _ _ _ h => h) (Or.inl ⟨by rfl, ?_⟩) (SK.out _ tV) ?_
    · rintro w ⟨s1, s2, s3, s4, s5⟩
      go_simp
    simp only [Act.put, List.setIfInBounds_toArray, List.set_cons_zero, List.set_cons_succ]
    refine wpAnyH_take (i := 1) (oi := { dst := some 11, op := Op.load 22 (Operand.tmp 10), type := 22, pos := "score.go:28", after := #[{ on := 0, ground := Ground.data }], guard := none }) (v := .slice (some ⟨bk, off, none⟩) 5 c) rfl (by kernel_rfl) (by kernel_rfl) (by kernel_rfl) (fun _ _ _ h => h) (Or.inl ⟨by rfl, ?_⟩) (SK.out _ tV) ?_
    · rintro w ⟨s1, s2, s3, s4, s5⟩
      go_simp
    simp only [Act.put, List.setIfInBounds_toArray, List.set_cons_zero, List.set_cons_succ]
    refine wpAnyH_take (i := 2) (oi := { dst := some 12, op := Op.indexAddr 22 (Operand.tmp 11) (Operand.const (Value.int IntKind.i64 0)), type := 0, pos := "score.go:28", after := #[{ on := 1, ground := Ground.data }], guard := none }) (v := .pointer (some ⟨bk, off, none⟩)) rfl (by kernel_rfl) (by kernel_rfl) (by kernel_rfl) (fun _ _ _ h => h) (Or.inl ⟨by rfl, ?_⟩) (SK.out _ tV) ?_
    · rintro w ⟨s1, s2, s3, s4, s5⟩
      go_simp
    simp only [Act.put, List.setIfInBounds_toArray, List.set_cons_zero, List.set_cons_succ]
    refine wpAnyH_take (i := 3) (oi := { dst := some 13, op := Op.load 31 (Operand.tmp 12), type := 31, pos := "score.go:28", after := #[{ on := 2, ground := Ground.data }], guard := none }) (v := .slice x.a XL x.c) rfl (by kernel_rfl) (by kernel_rfl) (by kernel_rfl) (fun _ _ _ h => h) (Or.inl ⟨by rfl, ?_⟩) (SK.out _ tV) ?_
    · rintro w ⟨s1, s2, s3, s4, s5⟩
      go_simp
    simp only [Act.put, List.setIfInBounds_toArray, List.set_cons_zero, List.set_cons_succ]
    refine wpAnyH_take (i := 4) (oi := { dst := some 14, op := Op.call { callee := Callee.builtin Builtin.len, args := #[Operand.tmp 13], argTypes := #[31] }, type := 3, pos := "score.go:28", after := #[{ on := 3, ground := Ground.data }], guard := none }) (v := .int .i64 ((XL : Nat) : Int)) rfl (by kernel_rfl) (by kernel_rfl) (by kernel_rfl) (fun _ _ _ h => h) (Or.inl ⟨by rfl, ?_⟩) (SK.out _ tV) ?_
    · rintro w ⟨s1, s2, s3, s4, s5⟩
      go_simp
    simp only [Act.put, List.setIfInBounds_toArray, List.set_cons_zero, List.set_cons_succ]
    refine wpAnyH_take (i := 5) (oi := { dst := some 15, op := Op.binOp BinOp.mul 3 (Operand.tmp 14) (Operand.const (Value.int IntKind.i64 100)) 3, type := 3, pos := "score.go:28", after := #[{ on := 4, ground := Ground.data }], guard := none }) (v := .int .i64 ((XL : Int) * 100)) rfl (by kernel_rfl) (by kernel_rfl) (by kernel_rfl) (fun _ _ _ h => h) (Or.inl ⟨by rfl, ?_⟩) (SK.out _ tV) ?_
    · rintro w ⟨s1, s2, s3, s4, s5⟩
      go_simp
    simp only [Act.put, List.setIfInBounds_toArray, List.set_cons_zero, List.set_cons_succ]
    refine wpAnyH_take (i := 6) (oi := { dst := some 16, op := Op.load 35 (Operand.tmp 4), type := 35, pos := "score.go:28", after := #[], guard := none }) (v := .agg #[.int .i64 t, .int .i64 b, .int .i64 f]) rfl (by kernel_rfl) (by kernel_rfl) (by kernel_rfl) (fun _ _ _ h => h) (Or.inl ⟨by rfl, ?_⟩) (SK.out _ tV) ?_
    · rintro w ⟨s1, s2, s3, s4, s5⟩
      go_simp
    simp only [Act.put, List.setIfInBounds_toArray, List.set_cons_zero, List.set_cons_succ]
    refine wpAnyH_ready (rs := [7]) (by kernel_rfl) (by simp) ?_
    refine AllReadyH.cons rfl (fun K hK => ?_) AllReadyH.nil
    go_simp
    refine (BD.out _).mono ?_
    rintro oo Vn ⟨rfl, tC⟩
    have tN := tC
    have tV := tV.trans tN
    clear tC
    clear tN
    go_simp
    refine hK.out _ _ (SK.out _ tV) (fun _ => ?_)
    clear hK K
    refine wpAnyH_take (i := 8) (oi := { dst := some 18, op := Op.binOp BinOp.quo 3 (Operand.tmp 15) (Operand.tmp 17) 3, type := 3, pos := "score.go:28", after := #[{ on := 5, ground := Ground.data }, { on := 7, ground := Ground.data }], guard := none }) (v := .int .i64 ((XL : Int) * 100 / t)) rfl (by kernel_rfl) (by kernel_rfl) (by kernel_rfl) (fun _ _ _ h => h) (Or.inl ⟨by rfl, ?_⟩) (SK.out _ tV) ?_
    · rintro w ⟨s1, s2, s3, s4, s5⟩
      go_simp
    simp only [Act.put, List.setIfInBounds_toArray, List.set_cons_zero, List.set_cons_succ]
    refine wpAnyH_take (i := 9) (oi := { dst := some 6, op := Op.assign (Operand.tmp 18), type := 3, pos := "score.go:28", after := #[{ on := 8, ground := Ground.data }, { on := 7, ground := Ground.chain }, { on := 0, ground := Ground.phase }, { on := 1, ground := Ground.phase }, { on := 2, ground := Ground.phase }, { on := 3, ground := Ground.phase }, { on := 4, ground := Ground.phase }, { on := 5, ground := Ground.phase }, { on := 6, ground := Ground.phase }, { on := 7, ground := Ground.phase }, { on := 8, ground := Ground.phase }], guard := none }) (v := .int .i64 ((XL : Int) * 100 / t)) rfl (by kernel_rfl) (by kernel_rfl) (by kernel_rfl) (fun _ _ _ h => h) (Or.inl ⟨by rfl, ?_⟩) (SK.out _ tV) ?_
    · rintro w ⟨s1, s2, s3, s4, s5⟩
      go_simp
    simp only [Act.put, List.setIfInBounds_toArray, List.set_cons_zero, List.set_cons_succ]
    refine wpAnyH_done (by kernel_rfl) ?_ _
    go_wp2_with fail
    go_ret
    exact ⟨by rw [HSC.out]; rfl, TA.out.trans tV⟩
  by_cases z4 : z = 4
  · subst z4
    rw [if_neg (by decide), if_pos rfl] at hscore
    have HSC := hide hscore
    generalize scoreP (flL L) t b f 4 = SC at *
    clear hfl hwf hscore h hv VB BD hcnt H5 hs hn
    unfold verAgg setAgg at *
    go_enter Try.func26, Try.ntmps26
    go_wp2_with fail
    go_ret
    exact ⟨by rw [HSC.out]; rfl, TA.out⟩
  · obtain ⟨x, hx, hg, hxl, hsz0, hsz1⟩ := hfl z.toNat (by omega)
    obtain ⟨hb1, hb2⟩ := boundP_pos hs h0 (show z < 4 by omega)
    have hff : filesF (flL L) next seq log z = fls x.l := by unfold filesF goodLev; rw [hv, hg]; simp; omega
    rw [hff] at VB
    rw [if_neg z0, if_neg z4, hg] at hscore
    have HSC := hide hscore
    have hvq : ∀ (u : World) (tu : Turns (fun _ => False) w u), True := fun _ _ => trivial
    generalize scoreP (flL L) t b f z = SC at *
    generalize sizesF (fls x.l) = SZ at *
    generalize boundP t b f z = BP at *
    have hm : IntKind.i64.wrap (SZ * 100) = SZ * 100 := wrapI _ (by omega) (by omega)
    have hq : IntKind.i64.wrap ((SZ * 100).tdiv BP) = SZ * 100 / BP := div_wrap (by omega) (by omega) (by omega)
    have t0 : ¬ BP = 0 := by omega
    have z5 : z < 4 := by omega
    clear hfl hwf hscore hx hg h hv hxl hcnt H5 hs hn hff hb1 hb2 hsz0 hsz1 hvq
    unfold verAgg setAgg at *
    go_enter Try.func26, Try.ntmps26
    go_wp2_with fail
    generalize hw0 : (w.alloc (.cells #[.slice a n c, .int .u64 (next : Nat), .int .u64 (seq : Nat), .int .u64 (log : Nat)] 25)).alloc (.cells #[.int .i64 t, .int .i64 b, .int .i64 f] 35) = w0 at *
    replace VB := hide (fun (u : World) (tu : Turns (fun _ => False) w0 u) => VB.out u (TA.out.trans tu))
    generalize hP : w.heap.size = P at *
    clear hw0 hP
    have SK := hide (fun (u : World) (tu : Turns (fun _ => False) w0 u) => show (u.cell? ⟨P, 0, none⟩ = some (.slice a n c) ∧ u.cell? ⟨P, 1, none⟩ = some (.int .u64 (next : Nat)) ∧ u.cell? ⟨P, 2, none⟩ = some (.int .u64 (seq : Nat)) ∧ u.cell? ⟨P, 3, none⟩ = some (.int .u64 (log : Nat))) ∧ u.cell? ⟨P + 1, 0, none⟩ = some (.int .i64 t) ∧ u.cell? ⟨P + 1, 1, none⟩ = some (.int .i64 b) ∧ u.cell? ⟨P + 1, 2, none⟩ = some (.int .i64 f) from ⟨⟨cell_of_row u P 0 _ 25 (0, 0) (tu.heap R0.out (fun x => x)), cell_of_row u P 1 _ 25 (0, 0) (tu.heap R0.out (fun x => x)), cell_of_row u P 2 _ 25 (0, 0) (tu.heap R0.out (fun x => x)), cell_of_row u P 3 _ 25 (0, 0) (tu.heap R0.out (fun x => x))⟩, cell_of_row u (P + 1) 0 _ 35 (0, 0) (tu.heap R1.out (fun x => x)), cell_of_row u (P + 1) 1 _ 35 (0, 0) (tu.heap R1.out (fun x => x)), cell_of_row u (P + 1) 2 _ 35 (0, 0) (tu.heap R1.out (fun x => x))⟩)
    have tV := (Turns.refl (fun _ => False) w0).drew
    refine wp_region_held_drew (S := fun u => (u.cell? ⟨P, 0, none⟩ = some (.slice a n c) ∧ u.cell? ⟨P, 1, none⟩ = some (.int .u64 (next : Nat)) ∧ u.cell? ⟨P, 2, none⟩ = some (.int .u64 (seq : Nat)) ∧ u.cell? ⟨P, 3, none⟩ = some (.int .u64 (log : Nat))) ∧ u.cell? ⟨P + 1, 0, none⟩ = some (.int .i64 t) ∧ u.cell? ⟨P + 1, 1, none⟩ = some (.int .i64 b) ∧ u.cell? ⟨P + 1, 2, none⟩ = some (.int .i64 f)) (by kernel_rfl) (SK.out _ tV) (fun _ => ?_)
    change wpAnyH _ _ _ _ _ 9 (Array.replicate 9 false) _ _
    refine wpAnyH_take (i := 0) (oi := { dst := some 21, op := Op.load 25 (Operand.tmp 3), type := 25, pos := "score.go:32", after := #[], guard := none }) (v := .agg #[.slice a n c, .int .u64 (next : Nat), .int .u64 (seq : Nat), .int .u64 (log : Nat)]) rfl (by kernel_rfl) (by kernel_rfl) (by kernel_rfl) (fun _ _ _ h => h) (Or.inl ⟨by rfl, ?_⟩) (SK.out _ tV) ?_
    · rintro w ⟨⟨s1, s2, s3, s4⟩, s5, s6, s7⟩
      go_simp
    simp only [Act.put, List.setIfInBounds_toArray, List.set_cons_zero, List.set_cons_succ]
    refine wpAnyH_take (i := 1) (oi := { dst := some 22, op := Op.move (Operand.tmp 2), type := 3, pos := "score.go:32", after := #[], guard := none }) (v := .int .i64 z) rfl (by kernel_rfl) (by kernel_rfl) (by kernel_rfl) (fun _ _ _ h => h) (Or.inl ⟨by rfl, ?_⟩) (SK.out _ tV) ?_
    · rintro w ⟨⟨s1, s2, s3, s4⟩, s5, s6, s7⟩
      go_simp
    simp only [Act.put, List.setIfInBounds_toArray, List.set_cons_zero, List.set_cons_succ]
    refine wpAnyH_take (i := 4) (oi := { dst := some 25, op := Op.load 35 (Operand.tmp 4), type := 35, pos := "score.go:32", after := #[], guard := none }) (v := .agg #[.int .i64 t, .int .i64 b, .int .i64 f]) rfl (by kernel_rfl) (by kernel_rfl) (by kernel_rfl) (fun _ _ _ h => h) (Or.inl ⟨by rfl, ?_⟩) (SK.out _ tV) ?_
    · rintro w ⟨⟨s1, s2, s3, s4⟩, s5, s6, s7⟩
      go_simp
    simp only [Act.put, List.setIfInBounds_toArray, List.set_cons_zero, List.set_cons_succ]
    refine wpAnyH_take (i := 5) (oi := { dst := some 26, op := Op.move (Operand.tmp 2), type := 3, pos := "score.go:32", after := #[], guard := none }) (v := .int .i64 z) rfl (by kernel_rfl) (by kernel_rfl) (by kernel_rfl) (fun _ _ _ h => h) (Or.inl ⟨by rfl, ?_⟩) (SK.out _ tV) ?_
    · rintro w ⟨⟨s1, s2, s3, s4⟩, s5, s6, s7⟩
      go_simp
    simp only [Act.put, List.setIfInBounds_toArray, List.set_cons_zero, List.set_cons_succ]
    refine wpAnyH_ready (rs := [2]) (by kernel_rfl) (by simp) ?_
    refine AllReadyH.cons rfl (fun K hK => ?_) AllReadyH.nil
    go_simp
    refine (VB.out _ tV).mono ?_
    rintro oo Vn ⟨rfl, tC⟩
    have tV := tV.trans tC
    clear tC
    go_simp
    refine hK.out _ _ (SK.out _ tV) (fun _ => ?_)
    clear hK K
    refine wpAnyH_take (i := 3) (oi := { dst := some 24, op := Op.binOp BinOp.mul 3 (Operand.tmp 23) (Operand.const (Value.int IntKind.i64 100)) 3, type := 3, pos := "score.go:32", after := #[{ on := 2, ground := Ground.data }], guard := none }) (v := .int .i64 (SZ * 100)) rfl (by kernel_rfl) (by kernel_rfl) (by kernel_rfl) (fun _ _ _ h => h) (Or.inl ⟨by rfl, ?_⟩) (SK.out _ tV) ?_
    · rintro w ⟨⟨s1, s2, s3, s4⟩, s5, s6, s7⟩
      go_simp
    simp only [Act.put, List.setIfInBounds_toArray, List.set_cons_zero, List.set_cons_succ]
    refine wpAnyH_ready (rs := [6]) (by kernel_rfl) (by simp) ?_
    refine AllReadyH.cons rfl (fun K hK => ?_) AllReadyH.nil
    go_simp
    refine (BD.out _).mono ?_
    rintro oo Vn ⟨rfl, tC⟩
    have tV := tV.trans tC
    clear tC
    go_simp
    refine hK.out _ _ (SK.out _ tV) (fun _ => ?_)
    clear hK K
    refine wpAnyH_take (i := 7) (oi := { dst := some 28, op := Op.binOp BinOp.quo 3 (Operand.tmp 24) (Operand.tmp 27) 3, type := 3, pos := "score.go:32", after := #[{ on := 3, ground := Ground.data }, { on := 6, ground := Ground.data }], guard := none }) (v := .int .i64 (SZ * 100 / BP)) rfl (by kernel_rfl) (by kernel_rfl) (by kernel_rfl) (fun _ _ _ h => h) (Or.inl ⟨by rfl, ?_⟩) (SK.out _ tV) ?_
    · rintro w ⟨⟨s1, s2, s3, s4⟩, s5, s6, s7⟩
      go_simp
    simp only [Act.put, List.setIfInBounds_toArray, List.set_cons_zero, List.set_cons_succ]
    refine wpAnyH_take (i := 8) (oi := { dst := some 6, op := Op.assign (Operand.tmp 28), type := 3, pos := "score.go:32", after := #[{ on := 7, ground := Ground.data }, { on := 6, ground := Ground.chain }, { on := 0, ground := Ground.phase }, { on := 1, ground := Ground.phase }, { on := 2, ground := Ground.phase }, { on := 3, ground := Ground.phase }, { on := 4, ground := Ground.phase }, { on := 5, ground := Ground.phase }, { on := 6, ground := Ground.phase }, { on := 7, ground := Ground.phase }], guard := none }) (v := .int .i64 (SZ * 100 / BP)) rfl (by kernel_rfl) (by kernel_rfl) (by kernel_rfl) (fun _ _ _ h => h) (Or.inl ⟨by rfl, ?_⟩) (SK.out _ tV) ?_
    · rintro w ⟨⟨s1, s2, s3, s4⟩, s5, s6, s7⟩
      go_simp
    simp only [Act.put, List.setIfInBounds_toArray, List.set_cons_zero, List.set_cons_succ]
    refine wpAnyH_done (by kernel_rfl) ?_ _
    go_wp2_with fail
    go_ret
    exact ⟨by rw [HSC.out]; rfl, TA.out.trans tV⟩
end Go.Proofs.Ytkmcdjbadngfgaa
