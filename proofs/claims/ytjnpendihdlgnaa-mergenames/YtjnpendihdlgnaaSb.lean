/-
  The part of a row between two keys.
-/
import Derived.Test.YtjnpendihdlgnaaTj
namespace Go.Proofs.Ytjnpendihdlgnaa
open Go.RowKit
set_option maxRecDepth 100000
set_option maxHeartbeats 4000000
theorem below1_any (gx gs b o n c i : Nat) (ta sa : Option Addr) (tn tc sn sc : Nat) (tk key : Ky) (w : World) (hin : i < n) (e0 : w.cell? ⟨gx, 0, none⟩ = some (.slice (some ⟨b, o, none⟩) n c)) (e1 : w.cell? ⟨gs, 0, none⟩ = some (.slice sa sn sc)) (e2 : w.cell? ⟨b, o + i * 4, none⟩ = some (.slice ta tn tc)) (h1 : Bytes w (.slice ta tn tc) tk) (h2 : Bytes w (.slice sa sn sc) key) :
    Calls Try.prog 64 #[.int .i64 (i : Nat), .pointer (some ⟨gx, 0, none⟩), .pointer (some ⟨gs, 0, none⟩)] w fun e w' => e = .returned (.bool (decide (0 ≤ cmpB tk key))) ∧ Below w.heap.size w w' := by
  have SK := hide (fun (u : World) (t : Turns (fun _ => False) w u) => show u.cell? ⟨gx, 0, none⟩ = some (.slice (some ⟨b, o, none⟩) n c) ∧ u.cell? ⟨gs, 0, none⟩ = some (.slice sa sn sc) ∧ u.cell? ⟨b, o + i * 4, none⟩ = some (.slice ta tn tc) from ⟨t.cell e0 (fun x => x), t.cell e1 (fun x => x), t.cell e2 (fun x => x)⟩)
  have CP := hide (fun (u : World) (t : Turns (fun _ => False) w u) => compareB_any ta sa tn sn tc sc tk key u (h1.quiet t) (h2.quiet t))
  generalize hcv : cmpB tk key = cv at *
  have i0 : (0 : Int) ≤ (i : Int) := by omega
  have i1 : (i : Int) < (n : Int) := by omega
  clear e0 e1 e2 h1 h2 hcv
  go_enter Try.func64, Try.ntmps64
  go_upto_region 1 with (fail)
  have tV : Turns (fun _ => False) w w.drew := (Turns.refl _ _).drew
  refine wp_region_held_drew (S := fun u => u.cell? ⟨gx, 0, none⟩ = some (.slice (some ⟨b, o, none⟩) n c) ∧ u.cell? ⟨gs, 0, none⟩ = some (.slice sa sn sc) ∧ u.cell? ⟨b, o + i * 4, none⟩ = some (.slice ta tn tc)) (by kernel_rfl) (SK.out _ tV) (fun _ => ?_)
  change wpAnyH _ _ _ _ _ 9 (Array.replicate 9 false) _ _
  refine wpAnyH_take (i := 0) (oi := { dst := some 5, op := Op.load 27 (Operand.tmp 1), type := 27, pos := "merge.go:74", after := #[], guard := none }) (v := .slice (some ⟨b, o, none⟩) n c) rfl (by kernel_rfl) (by kernel_rfl) (by kernel_rfl) (fun _ _ _ h => h) (Or.inl ⟨by rfl, ?_⟩) (SK.out _ tV) ?_
  · rintro w ⟨d0, d1, d2⟩
    go_simp
  simp only [Act.put, List.setIfInBounds_toArray, List.set_cons_zero, List.set_cons_succ]
  refine wpAnyH_take (i := 1) (oi := { dst := some 6, op := Op.move (Operand.tmp 0), type := 3, pos := "merge.go:74", after := #[], guard := none }) (v := .int .i64 (i : Nat)) rfl (by kernel_rfl) (by kernel_rfl) (by kernel_rfl) (fun _ _ _ h => h) (Or.inl ⟨by rfl, ?_⟩) (SK.out _ tV) ?_
  · rintro w ⟨d0, d1, d2⟩
    go_simp
  simp only [Act.put, List.setIfInBounds_toArray, List.set_cons_zero, List.set_cons_succ]
  refine wpAnyH_take (i := 2) (oi := { dst := some 7, op := Op.indexAddr 27 (Operand.tmp 5) (Operand.tmp 6), type := 0, pos := "merge.go:74", after := #[{ on := 0, ground := Ground.data }, { on := 1, ground := Ground.data }], guard := none }) (v := .pointer (some ⟨b, o + i * 4, none⟩)) rfl (by kernel_rfl) (by kernel_rfl) (by kernel_rfl) (fun _ _ _ h => h) (Or.inl ⟨by rfl, ?_⟩) (SK.out _ tV) ?_
  · rintro w ⟨d0, d1, d2⟩
    go_simp
  simp only [Act.put, List.setIfInBounds_toArray, List.set_cons_zero, List.set_cons_succ]
  refine wpAnyH_take (i := 3) (oi := { dst := some 8, op := Op.fieldAddr 25 (Operand.tmp 7) 0, type := 0, pos := "merge.go:74", after := #[{ on := 2, ground := Ground.data }], guard := none }) (v := .pointer (some ⟨b, o + i * 4, none⟩)) rfl (by kernel_rfl) (by kernel_rfl) (by kernel_rfl) (fun _ _ _ h => h) (Or.inl ⟨by rfl, ?_⟩) (SK.out _ tV) ?_
  · rintro w ⟨d0, d1, d2⟩
    go_simp
  simp only [Act.put, List.setIfInBounds_toArray, List.set_cons_zero, List.set_cons_succ]
  refine wpAnyH_take (i := 4) (oi := { dst := some 9, op := Op.load 22 (Operand.tmp 8), type := 22, pos := "merge.go:74", after := #[{ on := 3, ground := Ground.data }], guard := none }) (v := .slice ta tn tc) rfl (by kernel_rfl) (by kernel_rfl) (by kernel_rfl) (fun _ _ _ h => h) (Or.inl ⟨by rfl, ?_⟩) (SK.out _ tV) ?_
  · rintro w ⟨d0, d1, d2⟩
    go_simp
  simp only [Act.put, List.setIfInBounds_toArray, List.set_cons_zero, List.set_cons_succ]
  refine wpAnyH_take (i := 5) (oi := { dst := some 10, op := Op.load 22 (Operand.tmp 2), type := 22, pos := "merge.go:74", after := #[], guard := none }) (v := .slice sa sn sc) rfl (by kernel_rfl) (by kernel_rfl) (by kernel_rfl) (fun _ _ _ h => h) (Or.inl ⟨by rfl, ?_⟩) (SK.out _ tV) ?_
  · rintro w ⟨d0, d1, d2⟩
    go_simp
  simp only [Act.put, List.setIfInBounds_toArray, List.set_cons_zero, List.set_cons_succ]
  refine wpAnyH_ready (rs := [6]) (by kernel_rfl) (by simp) ?_
  refine AllReadyH.cons rfl (fun K hK => ?_) AllReadyH.nil
  go_simp
  refine (CP.out _ tV).mono ?_
  rintro oo Vn ⟨rfl, b2⟩
  have tN := show Turns (fun _ => False) w.drew Vn from b2 ▸ Turns.refl _ _
  have tV := tV.trans tN
  clear b2 CP
  clear tN
  go_simp
  refine hK.out _ _ (SK.out _ tV) (fun _ => ?_)
  clear hK K
  refine wpAnyH_take (i := 7) (oi := { dst := some 12, op := Op.binOp BinOp.geq 3 (Operand.tmp 11) (Operand.const (Value.int IntKind.i64 0)) 3, type := 4, pos := "merge.go:74", after := #[{ on := 6, ground := Ground.data }], guard := none }) (v := .bool (decide (0 ≤ cv))) rfl (by kernel_rfl) (by kernel_rfl) (by kernel_rfl) (fun _ _ _ h => h) (Or.inl ⟨by rfl, ?_⟩) (SK.out _ tV) ?_
  · rintro w ⟨d0, d1, d2⟩
    go_simp
  simp only [Act.put, List.setIfInBounds_toArray, List.set_cons_zero, List.set_cons_succ]
  refine wpAnyH_take (i := 8) (oi := { dst := some 4, op := Op.assign (Operand.tmp 12), type := 4, pos := "merge.go:74", after := #[{ on := 7, ground := Ground.data }, { on := 6, ground := Ground.chain }, { on := 0, ground := Ground.phase }, { on := 1, ground := Ground.phase }, { on := 2, ground := Ground.phase }, { on := 3, ground := Ground.phase }, { on := 4, ground := Ground.phase }, { on := 5, ground := Ground.phase }, { on := 6, ground := Ground.phase }, { on := 7, ground := Ground.phase }], guard := none }) (v := .bool (decide (0 ≤ cv))) rfl (by kernel_rfl) (by kernel_rfl) (by kernel_rfl) (fun _ _ _ h => h) (Or.inl ⟨by rfl, ?_⟩) (SK.out _ tV) ?_
  · rintro w ⟨d0, d1, d2⟩
    go_simp
  simp only [Act.put, List.setIfInBounds_toArray, List.set_cons_zero, List.set_cons_succ]
  refine wpAnyH_done (by kernel_rfl) ?_ _
  have TV := hide tV
  clear tV
  go_wp2_with fail
  go_ret
  exact ⟨rfl, TV.out.below (Nat.le_refl _) (fun _ x => x.elim)⟩
/-- Is an entry's key at or above? -/
def atOr (key : Ky) (x : Tow) : Bool := decide (0 ≤ cmpB x.e.key key)
def atN (R : List Tow) (key : Ky) (i : Nat) : Bool := match R[i]? with | some x => atOr key x | none => true
theorem cmpB_le_trans {x y z : Ky} (h1 : cmpB x y ≤ 0) (h2 : cmpB y z ≤ 0) : cmpB x z ≤ 0 := by
  rcases cmpB_vals x y with a | a | a
  · rcases cmpB_vals y z with b | b | b
    · have := cmpB_lt a b; omega
    · rw [(cmpB_zero y z).1 b] at a; omega
    · omega
  · rw [(cmpB_zero x y).1 a]; exact h2
  · omega
theorem cmpB_of_E {x y : Ent} (h : cmpE x.en y.en < 0) : cmpB x.key y.key ≤ 0 := by
  unfold cmpE Ent.en at h
  rcases cmpB_vals x.key y.key with a | a | a
  · omega
  · omega
  · simp only at h
    rw [if_pos (by omega)] at h
    omega
theorem keys_rise {R : List Tow} (h : R.Pairwise ltT) {i j : Nat} {x y : Tow} (hij : i ≤ j) (hi : R[i]? = some x) (hj : R[j]? = some y) : cmpB x.e.key y.e.key ≤ 0 := by
  rcases Nat.lt_or_ge i j with hl | hl
  · obtain ⟨h1, rfl⟩ := List.getElem?_eq_some_iff.1 hi
    obtain ⟨h2, rfl⟩ := List.getElem?_eq_some_iff.1 hj
    exact cmpB_of_E (List.pairwise_iff_getElem.1 h i j h1 h2 hl)
  · obtain rfl : i = j := by omega
    rw [hi] at hj
    cases hj
    have := (cmpB_zero x.e.key x.e.key).2 rfl
    omega
theorem atN_mono {R : List Tow} (h : R.Pairwise ltT) (key : Ky) : ∀ i j, i ≤ j → j < R.length → atN R key i = true → atN R key j = true := fun i j hij hj hi => by
  unfold atN at hi ⊢
  rw [List.getElem?_eq_getElem (by omega : i < R.length)] at hi
  rw [List.getElem?_eq_getElem hj]
  simp only [atOr, decide_eq_true_eq] at hi ⊢
  have h1 := keys_rise h hij (List.getElem?_eq_getElem (by omega : i < R.length)) (List.getElem?_eq_getElem hj)
  have h2 := cmpB_swap R[j].e.key key
  have h3 := cmpB_swap R[i].e.key key
  have := cmpB_le_trans (x := key) (by omega) h1
  omega
theorem enters64 (c0 c1 : Value) : ∀ h w, (callFunc 64 #[.int .i64 h, c0, c1]).run Try.prog w = .ok (.enter 64 #[.int .i64 h, c0, c1]) w := fun h w => enters_of Try.func64 (by kernel_rfl) rfl _ w
theorem below_any (a : Option Addr) (n c : Nat) (R : List Tow) (ka : Option Addr) (kn kc : Nat) (key : Ky) (w : World) (h : Ents w a R) (hn : n = R.length) (hmx : n ≤ 1000000) (hk : Bytes w (.slice ka kn kc) key) (hup : R.Pairwise ltT) :
    Calls Try.prog 54 #[.slice a n c, .slice ka kn kc] w fun e w' => ∃ k : Nat, e = .returned (.int .i64 (k : Nat)) ∧ Found (atN R key) n k ∧ Below w.heap.size w w' := by
  have T0 := hide (((Turns.refl (fun _ => False) w).alloc (.cells #[.slice a n c] 27)).alloc (.cells #[.slice ka kn kc] 22))
  have n0 := ((Turns.refl (fun _ => False) (w.alloc (.cells #[.slice a n c] 27))).alloc (.cells #[.slice ka kn kc] 22)).heap (heap_alloc_new w (.cells #[.slice a n c] 27)) (fun x => x)
  have n1 := heap_alloc_new (w.alloc (.cells #[.slice a n c] 27)) (.cells #[.slice ka kn kc] 22)
  rw [World.size_alloc] at n1
  have c0 := cell_of_row _ _ 0 _ 27 (0, 0) n0
  have c1 := cell_of_row _ _ 0 _ 22 (0, 0) n1
  have SE := hide (search_any 64 (.pointer (some ⟨w.heap.size, 0, none⟩)) (.pointer (some ⟨w.heap.size + 1, 0, none⟩)) (enters64 _ _) (atN R key) n hmx ((w.alloc (.cells #[.slice a n c] 27)).alloc (.cells #[.slice ka kn kc] 22)) (fun i hi u t => by
    obtain ⟨x, hx⟩ : ∃ x, R[i]? = some x := ⟨_, List.getElem?_eq_getElem (by omega)⟩
    have tt := T0.out.trans t
    obtain ⟨⟨b, off, rfl, hc⟩, k1, _⟩ := h i x hx
    have := below1_any w.heap.size (w.heap.size + 1) b off n c i x.ka ka x.e.key.length x.kc kn kc x.e.key key u hi (t.cell c0 (fun x => x)) (t.cell c1 (fun x => x)) (tt.cell (hc 0 _ rfl) (fun x => x)) (k1.quiet tt) (hk.quiet tt)
    have e : atN R key i = decide (0 ≤ cmpB x.e.key key) := by unfold atN; rw [hx]; rfl
    rw [e]
    exact this) (fun i j hij hj hi => atN_mono hup key i j hij (by omega) hi))
  have hlen : (n : Int) ≤ 1000000 := by omega
  clear n0 n1 h hk hup hn c1
  have c0' : ((w.alloc (.cells #[.slice a n c] 27)).alloc (.cells #[.slice ka kn kc] 22)).cell? ⟨w.heap.size, 0, none⟩ = some (.slice a n c) := c0
  clear c0
  go_enter Try.func54, Try.ntmps54
  go_wp2_with fail
  refine SE.out.mono ?_
  rintro e w2 ⟨k, rfl, hF, b2⟩
  have FIN := hide (show Found (atN R key) n k ∧ Below w.heap.size w w2 from ⟨hF, then_below (T0.out.below (Nat.le_refl _) (fun _ x => x.elim)) b2 (Nat.le_refl _)⟩)
  clear hF b2
  go_wp2_with fail
  go_ret
  exact ⟨k, rfl, FIN.out⟩
end Go.Proofs.Ytjnpendihdlgnaa
