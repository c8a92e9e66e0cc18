import Derived.Test.YtjklbhdhjfifhaaGreatM35
import Derived.Test.YtjklbhdhjfifhaaGreatM40
import Derived.Test.YtjklbhdhjfifhaaGreatM18
/-
  The keys of a row of entries, each once.
-/
namespace Go.Proofs.YtjklbhdhjfifhaaGreat
open Go.RowKit Go.Shelf
set_option maxRecDepth 100000
set_option maxHeartbeats 4000000
/-- Rows of slices of one's own. -/
def VRow (w : World) (B : Nat) (v : Value) (vs : List Value) : Prop :=
  (vs = [] ∧ v = .slice none 0 0) ∨ ∃ g c n : Nat, v = .slice (some ⟨g, 0, none⟩) n c ∧ n = vs.length ∧ n ≤ c ∧ B ≤ g ∧ RowC w g 28 c vs
theorem VRow.len {w : World} {B : Nat} {v : Value} {vs : List Value} (h : VRow w B v vs) : ∃ a c, v = .slice a vs.length c := by
  rcases h with ⟨rfl, rfl⟩ | ⟨g, c, n, rfl, rfl, _⟩
  · exact ⟨none, 0, rfl⟩
  · exact ⟨_, _, rfl⟩
theorem VRow.quiet {w w' : World} {B : Nat} {v : Value} {vs : List Value} (h : VRow w B v vs) (t : Turns (fun _ => False) w w') : VRow w' B v vs := by
  rcases h with h | ⟨g, c, n, h1, h2, h3, h4, h5⟩
  · exact .inl h
  · exact .inr ⟨g, c, n, h1, h2, h3, h4, h5.turns t (fun x => x)⟩
theorem t28_size : Tryz.t28.size = 1 := by kernel_rfl
theorem t28_bytes : Tryz.t28.bytes = 24 := by kernel_rfl
theorem t28_info : Tryz.prog.info? 28 = some Tryz.t28 := by kernel_rfl
theorem t28_zero : Tryz.t28.zero = some (.slice none 0 0) := by kernel_rfl
theorem append_keyV (w : World) (B : Nat) (v : Value) (vs : List Value) (h : VRow w B v vs) (hB : B ≤ w.heap.size) (hlen : vs.length ≤ 1000000) (x : Value) (hx : x.oneCell' = true) (g c : Nat) (hg : w.heap[g]? = some (.cells #[x] 28 (0, 0))) :
    ∃ (v' : Value) (w' : World), (∀ ty, (Builtin.append_ #[124, 124] ty #[v, .slice (some ⟨g, 0, none⟩) 1 c]).run Tryz.prog w = .ok v' w') ∧ VRow w' B v' (vs ++ [x]) ∧ Below B w w' := by
  have hsrc : Src Tryz.prog Tryz.t28.size 124 (.slice (some ⟨g, 0, none⟩) 1 c) 1 [x] w := Src.ofSlice w Tryz.underlying124 ⟨g, 0, none⟩ 1 c _ (by rw [t28_size]; rfl) (fun j u hu => by
    rw [Go.WideShapes.add_plain, Nat.zero_add, cell_of_row w g j _ 28 (0, 0) hg]
    simpa using hu) (fun u hu => by
    obtain rfl := List.mem_singleton.1 hu
    exact hx)
  obtain ⟨base, sLen, sCap, rfl, hsl, hbase⟩ : ∃ (base : Option Addr) (sLen sCap : Nat), v = .slice base sLen sCap ∧ sLen = vs.length ∧ ((base = none ∧ sLen = 0 ∧ sCap = 0 ∧ 0 < 1) ∨ ∃ g, base = some ⟨g, 0, none⟩ ∧ B ≤ g ∧ sLen ≤ sCap ∧ RowC w g 28 (sCap * Tryz.t28.size) vs) := by
    rcases h with ⟨rfl, rfl⟩ | ⟨g, c, n, rfl, rfl, h3, h4, h5⟩
    · exact ⟨none, 0, 0, rfl, rfl, .inl ⟨rfl, rfl, rfl, by omega⟩⟩
    · exact ⟨_, _, _, rfl, rfl, .inr ⟨g, rfl, h4, h3, by rw [t28_size, Nat.mul_one]; exact h5⟩⟩
  obtain ⟨g', cp, w', hr, hg', hrow, hb, hcp, hin, hnew, hkeep⟩ := append_gen2 (P := Tryz.prog) w B 124 28 Tryz.t28 _ Tryz.underlying124 t28_info t28_zero rfl base sLen sCap vs (by rw [t28_size, hsl, Nat.mul_one]) _ 1 _ hsrc hB hbase (by rw [t28_bytes]; omega) (by omega)
  refine ⟨_, w', hr, .inr ⟨g', cp, _, rfl, by simp [hsl], hcp, hg', ?_⟩, hb⟩
  rw [t28_size, Nat.mul_one] at hrow
  exact hrow
/-- The entries whose keys are new. -/
def ksT (l : List Tow) : Nat → List Tow
  | 0 => []
  | k + 1 => match l[k]? with
    | none => ksT l k
    | some x => if k = 0 ∨ (l[k - 1]?.map (·.e.key)) ≠ some x.e.key then ksT l k ++ [x] else ksT l k
theorem ksT_mem {l : List Tow} {x : Tow} : ∀ {k : Nat}, x ∈ ksT l k → x ∈ l
  | 0, h => by cases h
  | k + 1, h => by
    unfold ksT at h
    split at h
    · exact ksT_mem h
    · rename_i y hy
      split at h
      · rcases List.mem_append.1 h with h | h
        · exact ksT_mem h
        · rw [List.mem_singleton.1 h]; exact List.mem_of_getElem? hy
      · exact ksT_mem h
theorem ksT_len (l : List Tow) : ∀ k, (ksT l k).length ≤ k
  | 0 => Nat.le_refl _
  | k + 1 => by
    have := ksT_len l k
    unfold ksT
    split
    · omega
    · split
      · rw [List.length_append, List.length_singleton]; omega
      · omega
theorem Ents.mem {w : World} {a : Option Addr} {l : List Tow} (h : Ents w a l) {x : Tow} (hx : x ∈ l) : Bytes w x.kv x.e.key ∧ Bytes w x.vv x.e.val := by
  obtain ⟨k, hk⟩ := List.getElem?_of_mem hx
  exact (h k x hk).2
theorem VRow.keys {w : World} {B : Nat} {v : Value} {R : List Tow} (h : VRow w B v (R.map Tow.kv)) (hb : ∀ x ∈ R, Bytes w x.kv x.e.key) : Keys w v (R.map (·.e.key)) := by
  rcases h with ⟨e, rfl⟩ | ⟨g, c, n, rfl, hn, hc, _, cs, h1, h2, h3⟩
  · have : R = [] := by simpa using e
    subst this
    exact ⟨none, 0, rfl, fun i x hx => by simp at hx⟩
  · refine ⟨some ⟨g, 0, none⟩, c, by rw [hn]; simp, fun i x hx => ?_⟩
    rw [List.getElem?_map] at hx
    obtain ⟨t, ht, rfl⟩ := Option.map_eq_some_iff.1 hx
    have hi := (List.getElem?_eq_some_iff.1 ht).1
    refine ⟨g, 0, t.ka, t.kc, rfl, ?_, hb t (List.mem_of_getElem? ht)⟩
    rw [cell_of_row w g _ cs 28 (0, 0) h1, Nat.zero_add, h3 i (by rw [List.length_map]; exact hi), List.getElem?_map, ht]
    rfl
theorem keysOf_any (b off n c : Nat) (l : List Tow) (w : World) (h : Ents w (some ⟨b, off, none⟩) l) (hn : n = l.length) (hmx : n ≤ 1000) (hnc : n ≤ c) :
    Calls Tryz.prog 71 #[.slice (some ⟨b, off, none⟩) n c] w fun e w' => ∃ va vn vc, e = .returned (.slice va vn vc) ∧ Keys w' (.slice va vn vc) ((ksT l n).map (·.e.key)) ∧ Below w.heap.size w w' := by
  have HE := hide h
  have HN := hide hn
  clear h hn
  go_enter Tryz.func71, Tryz.ntmps71
  go_wp2_with fail
  go_loopw [3, 8] (fun kv iv wr => ∃ (k : Nat) (R : List Tow), iv = .int .i64 (k : Nat) ∧ k ≤ n ∧ Hid (R = ksT l k) ∧ VRow wr w.heap.size kv (R.map Tow.kv) ∧ Below w.heap.size w wr) (fun _ iv _ => n - (intOf iv).toNat)
  case atStart => exact ⟨0, [], rfl, Nat.zero_le _, hide rfl, .inl ⟨rfl, rfl⟩, Below.refl _ _⟩
  case round =>
    obtain ⟨k, R, rfl, hk, HRK, hrow, hbw⟩ := hrel
    have BW := hide hbw
    have ROW := hide hrow
    have hlen : R.length ≤ k := by rw [HRK.out]; exact ksT_len l k
    have hl0 := hrow.len
    rw [List.length_map] at hl0
    obtain ⟨ra, rc, rfl⟩ := hl0
    by_cases hk2 : k < n
    · have i1 : (k : Int) < n := by omega
      have i0 : (0 : Int) ≤ (k : Int) := by omega
      have hkl : k < l.length := by have := HN.out; omega
      have HW := hide (HE.out.quiet (Turns.of_below hbw (fun _ => False)))
      obtain ⟨x, hx⟩ : ∃ x, l[k]? = some x := ⟨_, List.getElem?_eq_getElem hkl⟩
      obtain ⟨⟨b', off', e', hc⟩, kb, _⟩ := HW.out k x hx
      cases e'
      have HX := hide hx
      obtain ⟨ka, kc, va, vc, e⟩ := x
      have c0 : wr.cell? ⟨b, off + k * 4, none⟩ = some (.slice ka e.key.length kc) := hc 0 _ rfl
      have c1 : wr.cell? ⟨b, off + k * 4 + 1, none⟩ = some (.int .u64 (e.seq : Nat)) := hc 1 _ rfl
      have c2 : wr.cell? ⟨b, off + k * 4 + 2, none⟩ = some (.int .i64 e.kind) := hc 2 _ rfl
      have c3 : wr.cell? ⟨b, off + k * 4 + 3, none⟩ = some (.slice va e.val.length vc) := hc 3 _ rfl
      have KB := hide kb
      have T1 := hide ((Turns.refl (fun _ => False) wr).alloc (.cells #[.slice ka e.key.length kc, .int .u64 (e.seq : Nat), .int .i64 e.kind, .slice va e.val.length vc] 35))
      have N1 := hide (heap_alloc_new wr (.cells #[.slice ka e.key.length kc, .int .u64 (e.seq : Nat), .int .i64 e.kind, .slice va e.val.length vc] 35))
      clear hc kb hx hrow hbw
      go_upto_region 5 with (fail)
      generalize wr.alloc (.cells #[.slice ka e.key.length kc, .int .u64 (e.seq : Nat), .int .i64 e.kind, .slice va e.val.length vc] 35) = w1 at *
      generalize hq : wr.heap.size = q at *
      have tV : Turns (fun _ => False) w1 w1.drew := (Turns.refl _ _).drew
      have BW1 := hide (show Below w.heap.size w w1 from (Turns.of_below BW.out (fun _ => False) |>.trans T1.out).below (Nat.le_refl _) (fun _ x => x.elim))
      have ROW1 := hide (ROW.out.quiet T1.out)
      have HW1 := hide (HW.out.quiet T1.out)
      have hk6 : R.length ≤ 1000 := by omega
      -- one key more
      have ADD := hide (fun (u : World) (t : Turns (fun _ => False) w1 u) => append_keyV (u.alloc (.cells #[.slice ka e.key.length kc] 28)) w.heap.size (.slice ra R.length rc) (R.map Tow.kv) ((ROW1.out.quiet t).quiet ((Turns.refl _ u).alloc _)) (by have := BW1.out.size; have := t.size; simp; omega) (by rw [List.length_map]; omega) (.slice ka e.key.length kc) rfl u.heap.size 1 (heap_alloc_new u _))
      rcases k with _ | p
      · have HK1 := hide (show R ++ [⟨ka, kc, va, vc, e⟩] = ksT l (0 + 1) from by rw [HRK.out]; simp [ksT, HX.out])
        refine wp_region_held_drew (S := fun _ => True) (by kernel_rfl) trivial (fun _ => ?_)
        change wpAnyH _ _ _ _ _ 14 (Array.replicate 14 false) _ _
        refine wpAnyH_take (i := 0) (oi := { dst := some 13, op := Op.move (Operand.tmp 4), type := 3, pos := "make.go:143", after := #[], guard := none }) (v := .int .i64 0) rfl (by kernel_rfl) (by kernel_rfl) (by kernel_rfl) (fun _ _ _ h => h) (Or.inl ⟨by rfl, ?_⟩) trivial ?_
        · rintro w -
          go_simp
        simp only [Act.put, List.setIfInBounds_toArray, List.set_cons_zero, List.set_cons_succ]
        refine wpAnyH_take (i := 1) (oi := { dst := some 14, op := Op.binOp BinOp.eql 3 (Operand.tmp 13) (Operand.const (Value.int IntKind.i64 0)) 3, type := 4, pos := "make.go:143", after := #[{ on := 0, ground := Ground.data }], guard := none }) (v := .bool true) rfl (by kernel_rfl) (by kernel_rfl) (by kernel_rfl) (fun _ _ _ h => h) (Or.inl ⟨by rfl, ?_⟩) trivial ?_
        · rintro w -
          go_simp
        simp only [Act.put, List.setIfInBounds_toArray, List.set_cons_zero, List.set_cons_succ]
        refine wpAnyH_take (i := 2) (oi := { dst := some 15, op := Op.move (Operand.tmp 14), type := 4, pos := "make.go:143", after := #[{ on := 1, ground := Ground.data }], guard := none }) (v := .bool true) rfl (by kernel_rfl) (by kernel_rfl) (by kernel_rfl) (fun _ _ _ h => h) (Or.inl ⟨by rfl, ?_⟩) trivial ?_
        · rintro w -
          go_simp
        simp only [Act.put, List.setIfInBounds_toArray, List.set_cons_zero, List.set_cons_succ]
        refine wpAnyH_take (i := 3) (oi := { dst := some 16, op := Op.move (Operand.tmp 0), type := 37, pos := "make.go:143", after := #[{ on := 2, ground := Ground.guard }], guard := some (2, false) }) (v := undef) rfl (by kernel_rfl) (by kernel_rfl) (by kernel_rfl) (fun _ _ _ h => h) (Or.inr ⟨by rfl, rfl⟩) trivial ?_
        simp only [Act.put, List.setIfInBounds_toArray, List.set_cons_zero, List.set_cons_succ]
        refine wpAnyH_take (i := 4) (oi := { dst := some 17, op := Op.move (Operand.tmp 4), type := 3, pos := "make.go:143", after := #[{ on := 2, ground := Ground.guard }], guard := some (2, false) }) (v := undef) rfl (by kernel_rfl) (by kernel_rfl) (by kernel_rfl) (fun _ _ _ h => h) (Or.inr ⟨by rfl, rfl⟩) trivial ?_
        simp only [Act.put, List.setIfInBounds_toArray, List.set_cons_zero, List.set_cons_succ]
        refine wpAnyH_take (i := 5) (oi := { dst := some 18, op := Op.binOp BinOp.sub 3 (Operand.tmp 17) (Operand.const (Value.int IntKind.i64 1)) 3, type := 3, pos := "make.go:143", after := #[{ on := 4, ground := Ground.data }, { on := 2, ground := Ground.guard }], guard := some (2, false) }) (v := undef) rfl (by kernel_rfl) (by kernel_rfl) (by kernel_rfl) (fun _ _ _ h => h) (Or.inr ⟨by rfl, rfl⟩) trivial ?_
        simp only [Act.put, List.setIfInBounds_toArray, List.set_cons_zero, List.set_cons_succ]
        refine wpAnyH_take (i := 6) (oi := { dst := some 19, op := Op.indexAddr 37 (Operand.tmp 16) (Operand.tmp 18), type := 0, pos := "make.go:143", after := #[{ on := 3, ground := Ground.data }, { on := 5, ground := Ground.data }, { on := 2, ground := Ground.guard }], guard := some (2, false) }) (v := undef) rfl (by kernel_rfl) (by kernel_rfl) (by kernel_rfl) (fun _ _ _ h => h) (Or.inr ⟨by rfl, rfl⟩) trivial ?_
        simp only [Act.put, List.setIfInBounds_toArray, List.set_cons_zero, List.set_cons_succ]
        refine wpAnyH_take (i := 7) (oi := { dst := some 20, op := Op.fieldAddr 35 (Operand.tmp 19) 0, type := 0, pos := "make.go:143", after := #[{ on := 6, ground := Ground.data }, { on := 2, ground := Ground.guard }], guard := some (2, false) }) (v := undef) rfl (by kernel_rfl) (by kernel_rfl) (by kernel_rfl) (fun _ _ _ h => h) (Or.inr ⟨by rfl, rfl⟩) trivial ?_
        simp only [Act.put, List.setIfInBounds_toArray, List.set_cons_zero, List.set_cons_succ]
        refine wpAnyH_take (i := 8) (oi := { dst := some 21, op := Op.load 28 (Operand.tmp 20), type := 28, pos := "make.go:143", after := #[{ on := 7, ground := Ground.data }, { on := 2, ground := Ground.guard }], guard := some (2, false) }) (v := undef) rfl (by kernel_rfl) (by kernel_rfl) (by kernel_rfl) (fun _ _ _ h => h) (Or.inr ⟨by rfl, rfl⟩) trivial ?_
        simp only [Act.put, List.setIfInBounds_toArray, List.set_cons_zero, List.set_cons_succ]
        refine wpAnyH_take (i := 9) (oi := { dst := some 22, op := Op.fieldAddr 35 (Operand.tmp 5) 0, type := 0, pos := "make.go:143", after := #[{ on := 2, ground := Ground.guard }], guard := some (2, false) }) (v := undef) rfl (by kernel_rfl) (by kernel_rfl) (by kernel_rfl) (fun _ _ _ h => h) (Or.inr ⟨by rfl, rfl⟩) trivial ?_
        simp only [Act.put, List.setIfInBounds_toArray, List.set_cons_zero, List.set_cons_succ]
        refine wpAnyH_take (i := 10) (oi := { dst := some 23, op := Op.load 28 (Operand.tmp 22), type := 28, pos := "make.go:143", after := #[{ on := 9, ground := Ground.data }, { on := 2, ground := Ground.guard }], guard := some (2, false) }) (v := undef) rfl (by kernel_rfl) (by kernel_rfl) (by kernel_rfl) (fun _ _ _ h => h) (Or.inr ⟨by rfl, rfl⟩) trivial ?_
        simp only [Act.put, List.setIfInBounds_toArray, List.set_cons_zero, List.set_cons_succ]
        refine wpAnyH_take (i := 11) (oi := { dst := some 24, op := Op.call { callee := Callee.value (Operand.func 46), args := #[Operand.tmp 21, Operand.tmp 23], argTypes := #[28, 28] }, type := 4, pos := "make.go:143", after := #[{ on := 8, ground := Ground.data }, { on := 10, ground := Ground.data }, { on := 2, ground := Ground.chain }, { on := 2, ground := Ground.guard }], guard := some (2, false) }) (v := undef) rfl (by kernel_rfl) (by kernel_rfl) (by kernel_rfl) (fun _ _ _ h => h) (Or.inr ⟨by rfl, rfl⟩) trivial ?_
        simp only [Act.put, List.setIfInBounds_toArray, List.set_cons_zero, List.set_cons_succ]
        refine wpAnyH_take (i := 12) (oi := { dst := some 25, op := Op.unOp UnOp.not 4 (Operand.tmp 24), type := 4, pos := "make.go:143", after := #[{ on := 11, ground := Ground.data }, { on := 2, ground := Ground.guard }], guard := some (2, false) }) (v := undef) rfl (by kernel_rfl) (by kernel_rfl) (by kernel_rfl) (fun _ _ _ h => h) (Or.inr ⟨by rfl, rfl⟩) trivial ?_
        simp only [Act.put, List.setIfInBounds_toArray, List.set_cons_zero, List.set_cons_succ]
        refine wpAnyH_take (i := 13) (oi := { dst := some 26, op := Op.pick (Operand.tmp 15) (Operand.const (Value.bool true)) (Operand.tmp 25), type := 4, pos := "make.go:143", after := #[{ on := 2, ground := Ground.data }, { on := 12, ground := Ground.data }], guard := none }) (v := .bool true) rfl (by kernel_rfl) (by kernel_rfl) (by kernel_rfl) (fun _ _ _ h => h) (Or.inl ⟨by rfl, ?_⟩) trivial ?_
        · rintro w -
          go_simp
        simp only [Act.put, List.setIfInBounds_toArray, List.set_cons_zero, List.set_cons_succ]
        refine wpAnyH_done (by kernel_rfl) ?_ _
        obtain ⟨v', w3, hr3, hro3, hb3⟩ := ADD.out w1.drew tV
        rw [show R.map Tow.kv ++ [.slice ka e.key.length kc] = (R ++ [(⟨ka, kc, va, vc, e⟩ : Tow)]).map Tow.kv by rw [List.map_append]; rfl] at hro3
        generalize R ++ [(⟨ka, kc, va, vc, e⟩ : Tow)] = R2 at hro3 HK1
        have HQ := hide hr3
        have RO3 := hide hro3
        have B3 := hide (((BW1.out.trans (tV.below (Nat.le_refl _) (fun _ x => x.elim) |>.mono BW1.out.size)).alloc (by have := BW1.out.size; have := tV.size; omega) (.cells #[.slice ka e.key.length kc] 28)).trans hb3)
        have d0 := tV.cell (cell_of_row w1 q 0 _ 35 (0, 0) N1.out) (fun x => x)
        obtain ⟨va3, vc3, rfl⟩ : ∃ a c, v' = .slice a R2.length c := by have := hro3.len; rw [List.length_map] at this; exact this
        clear hr3 hro3 hb3 ADD
        go_wp2_with (at_builtin; refine wpList_append_run rfl _ _ 124 rfl _ _ rfl rfl _ _ (HQ.out _) ?_)
        go_roundw
        case rel => exact ⟨0 + 1, R2, by go_num, by omega, HK1, RO3.out, B3.out⟩
        case measure => simp [intOf]; omega
      · obtain ⟨⟨ja, jc, jva, jvc, ye⟩, hy⟩ : ∃ y, l[p]? = some y := ⟨_, List.getElem?_eq_getElem (by omega)⟩
        obtain ⟨⟨b', off', e', hc'⟩, kb', _⟩ := HW1.out p _ hy
        cases e'
        have HY := hide hy
        have CY := hide (show w1.cell? ⟨b, off + p * 4, none⟩ = some (.slice ja ye.key.length jc) from hc' 0 _ rfl)
        have EQ := hide (fun (u : World) (t : Turns (fun _ => False) w1 u) => equal_any ja ka ye.key.length e.key.length jc kc ye.key e.key u (Bytes.quiet (show Bytes w1 (.slice ja ye.key.length jc) ye.key from kb') t) ((KB.out.quiet T1.out).quiet t))
        have SK := hide (fun (u : World) (t : Turns (fun _ => False) w1 u) => show u.cell? ⟨q, 0, none⟩ = some (.slice ka e.key.length kc) ∧ u.cell? ⟨b, off + p * 4, none⟩ = some (.slice ja ye.key.length jc) from ⟨t.cell (cell_of_row w1 q 0 _ 35 (0, 0) N1.out) (fun x => x), t.cell CY.out (fun x => x)⟩)
        clear hc' kb' hy c0 c1 c2 c3
        by_cases hsm : ye.key = e.key
        · have HSM := hide hsm
          have hdq : decide (ye.key = e.key) = true := by simp [hsm]
          simp only [hdq] at EQ
          clear hdq hsm
          have HK1 := hide (show R = ksT l (p + 1 + 1) from by
            rw [HRK.out]
            have h1 := HX.out
            have h2 := HY.out
            conv => rhs; unfold ksT
            simp only [h1, Nat.add_sub_cancel, h2, Option.map_some]
            rw [if_neg (by simp [HSM.out])])
          refine wp_region_held_drew (S := fun u => u.cell? ⟨q, 0, none⟩ = some (.slice ka e.key.length kc) ∧ u.cell? ⟨b, off + p * 4, none⟩ = some (.slice ja ye.key.length jc)) (by kernel_rfl) (SK.out _ tV) (fun _ => ?_)
          change wpAnyH _ _ _ _ _ 14 (Array.replicate 14 false) _ _
          refine wpAnyH_take (i := 0) (oi := { dst := some 13, op := Op.move (Operand.tmp 4), type := 3, pos := "make.go:143", after := #[], guard := none }) (v := .int .i64 ((p : Int) + 1)) rfl (by kernel_rfl) (by kernel_rfl) (by kernel_rfl) (fun _ _ _ h => h) (Or.inl ⟨by rfl, ?_⟩) (SK.out _ tV) ?_
          · rintro w ⟨d0, d1⟩
            go_simp
          simp only [Act.put, List.setIfInBounds_toArray, List.set_cons_zero, List.set_cons_succ]
          refine wpAnyH_take (i := 1) (oi := { dst := some 14, op := Op.binOp BinOp.eql 3 (Operand.tmp 13) (Operand.const (Value.int IntKind.i64 0)) 3, type := 4, pos := "make.go:143", after := #[{ on := 0, ground := Ground.data }], guard := none }) (v := .bool false) rfl (by kernel_rfl) (by kernel_rfl) (by kernel_rfl) (fun _ _ _ h => h) (Or.inl ⟨by rfl, ?_⟩) (SK.out _ tV) ?_
          · rintro w ⟨d0, d1⟩
            go_simp; omega
          simp only [Act.put, List.setIfInBounds_toArray, List.set_cons_zero, List.set_cons_succ]
          refine wpAnyH_take (i := 2) (oi := { dst := some 15, op := Op.move (Operand.tmp 14), type := 4, pos := "make.go:143", after := #[{ on := 1, ground := Ground.data }], guard := none }) (v := .bool false) rfl (by kernel_rfl) (by kernel_rfl) (by kernel_rfl) (fun _ _ _ h => h) (Or.inl ⟨by rfl, ?_⟩) (SK.out _ tV) ?_
          · rintro w ⟨d0, d1⟩
            go_simp
          simp only [Act.put, List.setIfInBounds_toArray, List.set_cons_zero, List.set_cons_succ]
          refine wpAnyH_take (i := 3) (oi := { dst := some 16, op := Op.move (Operand.tmp 0), type := 37, pos := "make.go:143", after := #[{ on := 2, ground := Ground.guard }], guard := some (2, false) }) (v := .slice (some ⟨b, off, none⟩) n c) rfl (by kernel_rfl) (by kernel_rfl) (by kernel_rfl) (fun _ _ _ h => h) (Or.inl ⟨by rfl, ?_⟩) (SK.out _ tV) ?_
          · rintro w ⟨d0, d1⟩
            go_simp
          simp only [Act.put, List.setIfInBounds_toArray, List.set_cons_zero, List.set_cons_succ]
          refine wpAnyH_take (i := 4) (oi := { dst := some 17, op := Op.move (Operand.tmp 4), type := 3, pos := "make.go:143", after := #[{ on := 2, ground := Ground.guard }], guard := some (2, false) }) (v := .int .i64 ((p : Int) + 1)) rfl (by kernel_rfl) (by kernel_rfl) (by kernel_rfl) (fun _ _ _ h => h) (Or.inl ⟨by rfl, ?_⟩) (SK.out _ tV) ?_
          · rintro w ⟨d0, d1⟩
            go_simp
          simp only [Act.put, List.setIfInBounds_toArray, List.set_cons_zero, List.set_cons_succ]
          refine wpAnyH_take (i := 5) (oi := { dst := some 18, op := Op.binOp BinOp.sub 3 (Operand.tmp 17) (Operand.const (Value.int IntKind.i64 1)) 3, type := 3, pos := "make.go:143", after := #[{ on := 4, ground := Ground.data }, { on := 2, ground := Ground.guard }], guard := some (2, false) }) (v := .int .i64 (p : Nat)) rfl (by kernel_rfl) (by kernel_rfl) (by kernel_rfl) (fun _ _ _ h => h) (Or.inl ⟨by rfl, ?_⟩) (SK.out _ tV) ?_
          · rintro w ⟨d0, d1⟩
            go_simp; (try simp [IntKind.wrap, IntKind.bits, IntKind.signed]); omega
          simp only [Act.put, List.setIfInBounds_toArray, List.set_cons_zero, List.set_cons_succ]
          refine wpAnyH_take (i := 6) (oi := { dst := some 19, op := Op.indexAddr 37 (Operand.tmp 16) (Operand.tmp 18), type := 0, pos := "make.go:143", after := #[{ on := 3, ground := Ground.data }, { on := 5, ground := Ground.data }, { on := 2, ground := Ground.guard }], guard := some (2, false) }) (v := .pointer (some ⟨b, off + p * 4, none⟩)) rfl (by kernel_rfl) (by kernel_rfl) (by kernel_rfl) (fun _ _ _ h => h) (Or.inl ⟨by rfl, ?_⟩) (SK.out _ tV) ?_
          · rintro w ⟨d0, d1⟩
            go_simp; intro h; omega
          simp only [Act.put, List.setIfInBounds_toArray, List.set_cons_zero, List.set_cons_succ]
          refine wpAnyH_take (i := 7) (oi := { dst := some 20, op := Op.fieldAddr 35 (Operand.tmp 19) 0, type := 0, pos := "make.go:143", after := #[{ on := 6, ground := Ground.data }, { on := 2, ground := Ground.guard }], guard := some (2, false) }) (v := .pointer (some ⟨b, off + p * 4, none⟩)) rfl (by kernel_rfl) (by kernel_rfl) (by kernel_rfl) (fun _ _ _ h => h) (Or.inl ⟨by rfl, ?_⟩) (SK.out _ tV) ?_
          · rintro w ⟨d0, d1⟩
            go_simp
          simp only [Act.put, List.setIfInBounds_toArray, List.set_cons_zero, List.set_cons_succ]
          refine wpAnyH_take (i := 8) (oi := { dst := some 21, op := Op.load 28 (Operand.tmp 20), type := 28, pos := "make.go:143", after := #[{ on := 7, ground := Ground.data }, { on := 2, ground := Ground.guard }], guard := some (2, false) }) (v := .slice ja ye.key.length jc) rfl (by kernel_rfl) (by kernel_rfl) (by kernel_rfl) (fun _ _ _ h => h) (Or.inl ⟨by rfl, ?_⟩) (SK.out _ tV) ?_
          · rintro w ⟨d0, d1⟩
            go_simp
          simp only [Act.put, List.setIfInBounds_toArray, List.set_cons_zero, List.set_cons_succ]
          refine wpAnyH_take (i := 9) (oi := { dst := some 22, op := Op.fieldAddr 35 (Operand.tmp 5) 0, type := 0, pos := "make.go:143", after := #[{ on := 2, ground := Ground.guard }], guard := some (2, false) }) (v := .pointer (some ⟨q, 0, none⟩)) rfl (by kernel_rfl) (by kernel_rfl) (by kernel_rfl) (fun _ _ _ h => h) (Or.inl ⟨by rfl, ?_⟩) (SK.out _ tV) ?_
          · rintro w ⟨d0, d1⟩
            go_simp
          simp only [Act.put, List.setIfInBounds_toArray, List.set_cons_zero, List.set_cons_succ]
          refine wpAnyH_take (i := 10) (oi := { dst := some 23, op := Op.load 28 (Operand.tmp 22), type := 28, pos := "make.go:143", after := #[{ on := 9, ground := Ground.data }, { on := 2, ground := Ground.guard }], guard := some (2, false) }) (v := .slice ka e.key.length kc) rfl (by kernel_rfl) (by kernel_rfl) (by kernel_rfl) (fun _ _ _ h => h) (Or.inl ⟨by rfl, ?_⟩) (SK.out _ tV) ?_
          · rintro w ⟨d0, d1⟩
            go_simp
          simp only [Act.put, List.setIfInBounds_toArray, List.set_cons_zero, List.set_cons_succ]
          refine wpAnyH_ready (rs := [11]) (by kernel_rfl) (by simp) ?_
          refine AllReadyH.cons rfl (fun K hK => ?_) AllReadyH.nil
          go_simp
          refine (EQ.out _ tV).mono ?_
          rintro oo Vn ⟨rfl, rfl⟩
          have tN := Turns.refl (fun _ => False) w1.drew
          have tV := tV.trans tN
          clear tN
          go_simp
          refine hK.out _ _ (SK.out _ tV) (fun _ => ?_)
          clear hK K
          refine wpAnyH_take (i := 12) (oi := { dst := some 25, op := Op.unOp UnOp.not 4 (Operand.tmp 24), type := 4, pos := "make.go:143", after := #[{ on := 11, ground := Ground.data }, { on := 2, ground := Ground.guard }], guard := some (2, false) }) (v := .bool false) rfl (by kernel_rfl) (by kernel_rfl) (by kernel_rfl) (fun _ _ _ h => h) (Or.inl ⟨by rfl, ?_⟩) (SK.out _ tV) ?_
          · rintro w ⟨d0, d1⟩
            go_simp
          simp only [Act.put, List.setIfInBounds_toArray, List.set_cons_zero, List.set_cons_succ]
          refine wpAnyH_take (i := 13) (oi := { dst := some 26, op := Op.pick (Operand.tmp 15) (Operand.const (Value.bool true)) (Operand.tmp 25), type := 4, pos := "make.go:143", after := #[{ on := 2, ground := Ground.data }, { on := 12, ground := Ground.data }], guard := none }) (v := .bool false) rfl (by kernel_rfl) (by kernel_rfl) (by kernel_rfl) (fun _ _ _ h => h) (Or.inl ⟨by rfl, ?_⟩) (SK.out _ tV) ?_
          · rintro w ⟨d0, d1⟩
            go_simp
          simp only [Act.put, List.setIfInBounds_toArray, List.set_cons_zero, List.set_cons_succ]
          refine wpAnyH_done (by kernel_rfl) ?_ _
          have B3 := hide (BW1.out.trans (tV.below (Nat.le_refl _) (fun _ x => x.elim) |>.mono BW1.out.size))
          have RO3 := hide (ROW1.out.quiet tV)
          clear ADD EQ SK
          go_wp2_with fail
          go_roundw
          case rel => exact ⟨p + 1 + 1, R, by go_num, by omega, HK1, RO3.out, B3.out⟩
          case measure => simp [intOf]; omega
        · have HSM := hide hsm
          have hdq : decide (ye.key = e.key) = false := by simp [hsm]
          simp only [hdq] at EQ
          clear hdq hsm
          have HK1 := hide (show R ++ [(⟨ka, kc, va, vc, e⟩ : Tow)] = ksT l (p + 1 + 1) from by
            rw [HRK.out]
            have h1 := HX.out
            have h2 := HY.out
            conv => rhs; unfold ksT
            simp only [h1, Nat.add_sub_cancel, h2, Option.map_some]
            rw [if_pos (.inr (by simp [HSM.out]))])
          refine wp_region_held_drew (S := fun u => u.cell? ⟨q, 0, none⟩ = some (.slice ka e.key.length kc) ∧ u.cell? ⟨b, off + p * 4, none⟩ = some (.slice ja ye.key.length jc)) (by kernel_rfl) (SK.out _ tV) (fun _ => ?_)
          change wpAnyH _ _ _ _ _ 14 (Array.replicate 14 false) _ _
          refine wpAnyH_take (i := 0) (oi := { dst := some 13, op := Op.move (Operand.tmp 4), type := 3, pos := "make.go:143", after := #[], guard := none }) (v := .int .i64 ((p : Int) + 1)) rfl (by kernel_rfl) (by kernel_rfl) (by kernel_rfl) (fun _ _ _ h => h) (Or.inl ⟨by rfl, ?_⟩) (SK.out _ tV) ?_
          · rintro w ⟨d0, d1⟩
            go_simp
          simp only [Act.put, List.setIfInBounds_toArray, List.set_cons_zero, List.set_cons_succ]
          refine wpAnyH_take (i := 1) (oi := { dst := some 14, op := Op.binOp BinOp.eql 3 (Operand.tmp 13) (Operand.const (Value.int IntKind.i64 0)) 3, type := 4, pos := "make.go:143", after := #[{ on := 0, ground := Ground.data }], guard := none }) (v := .bool false) rfl (by kernel_rfl) (by kernel_rfl) (by kernel_rfl) (fun _ _ _ h => h) (Or.inl ⟨by rfl, ?_⟩) (SK.out _ tV) ?_
          · rintro w ⟨d0, d1⟩
            go_simp; omega
          simp only [Act.put, List.setIfInBounds_toArray, List.set_cons_zero, List.set_cons_succ]
          refine wpAnyH_take (i := 2) (oi := { dst := some 15, op := Op.move (Operand.tmp 14), type := 4, pos := "make.go:143", after := #[{ on := 1, ground := Ground.data }], guard := none }) (v := .bool false) rfl (by kernel_rfl) (by kernel_rfl) (by kernel_rfl) (fun _ _ _ h => h) (Or.inl ⟨by rfl, ?_⟩) (SK.out _ tV) ?_
          · rintro w ⟨d0, d1⟩
            go_simp
          simp only [Act.put, List.setIfInBounds_toArray, List.set_cons_zero, List.set_cons_succ]
          refine wpAnyH_take (i := 3) (oi := { dst := some 16, op := Op.move (Operand.tmp 0), type := 37, pos := "make.go:143", after := #[{ on := 2, ground := Ground.guard }], guard := some (2, false) }) (v := .slice (some ⟨b, off, none⟩) n c) rfl (by kernel_rfl) (by kernel_rfl) (by kernel_rfl) (fun _ _ _ h => h) (Or.inl ⟨by rfl, ?_⟩) (SK.out _ tV) ?_
          · rintro w ⟨d0, d1⟩
            go_simp
          simp only [Act.put, List.setIfInBounds_toArray, List.set_cons_zero, List.set_cons_succ]
          refine wpAnyH_take (i := 4) (oi := { dst := some 17, op := Op.move (Operand.tmp 4), type := 3, pos := "make.go:143", after := #[{ on := 2, ground := Ground.guard }], guard := some (2, false) }) (v := .int .i64 ((p : Int) + 1)) rfl (by kernel_rfl) (by kernel_rfl) (by kernel_rfl) (fun _ _ _ h => h) (Or.inl ⟨by rfl, ?_⟩) (SK.out _ tV) ?_
          · rintro w ⟨d0, d1⟩
            go_simp
          simp only [Act.put, List.setIfInBounds_toArray, List.set_cons_zero, List.set_cons_succ]
          refine wpAnyH_take (i := 5) (oi := { dst := some 18, op := Op.binOp BinOp.sub 3 (Operand.tmp 17) (Operand.const (Value.int IntKind.i64 1)) 3, type := 3, pos := "make.go:143", after := #[{ on := 4, ground := Ground.data }, { on := 2, ground := Ground.guard }], guard := some (2, false) }) (v := .int .i64 (p : Nat)) rfl (by kernel_rfl) (by kernel_rfl) (by kernel_rfl) (fun _ _ _ h => h) (Or.inl ⟨by rfl, ?_⟩) (SK.out _ tV) ?_
          · rintro w ⟨d0, d1⟩
            go_simp; (try simp [IntKind.wrap, IntKind.bits, IntKind.signed]); omega
          simp only [Act.put, List.setIfInBounds_toArray, List.set_cons_zero, List.set_cons_succ]
          refine wpAnyH_take (i := 6) (oi := { dst := some 19, op := Op.indexAddr 37 (Operand.tmp 16) (Operand.tmp 18), type := 0, pos := "make.go:143", after := #[{ on := 3, ground := Ground.data }, { on := 5, ground := Ground.data }, { on := 2, ground := Ground.guard }], guard := some (2, false) }) (v := .pointer (some ⟨b, off + p * 4, none⟩)) rfl (by kernel_rfl) (by kernel_rfl) (by kernel_rfl) (fun _ _ _ h => h) (Or.inl ⟨by rfl, ?_⟩) (SK.out _ tV) ?_
          · rintro w ⟨d0, d1⟩
            go_simp; intro h; omega
          simp only [Act.put, List.setIfInBounds_toArray, List.set_cons_zero, List.set_cons_succ]
          refine wpAnyH_take (i := 7) (oi := { dst := some 20, op := Op.fieldAddr 35 (Operand.tmp 19) 0, type := 0, pos := "make.go:143", after := #[{ on := 6, ground := Ground.data }, { on := 2, ground := Ground.guard }], guard := some (2, false) }) (v := .pointer (some ⟨b, off + p * 4, none⟩)) rfl (by kernel_rfl) (by kernel_rfl) (by kernel_rfl) (fun _ _ _ h => h) (Or.inl ⟨by rfl, ?_⟩) (SK.out _ tV) ?_
          · rintro w ⟨d0, d1⟩
            go_simp
          simp only [Act.put, List.setIfInBounds_toArray, List.set_cons_zero, List.set_cons_succ]
          refine wpAnyH_take (i := 8) (oi := { dst := some 21, op := Op.load 28 (Operand.tmp 20), type := 28, pos := "make.go:143", after := #[{ on := 7, ground := Ground.data }, { on := 2, ground := Ground.guard }], guard := some (2, false) }) (v := .slice ja ye.key.length jc) rfl (by kernel_rfl) (by kernel_rfl) (by kernel_rfl) (fun _ _ _ h => h) (Or.inl ⟨by rfl, ?_⟩) (SK.out _ tV) ?_
          · rintro w ⟨d0, d1⟩
            go_simp
          simp only [Act.put, List.setIfInBounds_toArray, List.set_cons_zero, List.set_cons_succ]
          refine wpAnyH_take (i := 9) (oi := { dst := some 22, op := Op.fieldAddr 35 (Operand.tmp 5) 0, type := 0, pos := "make.go:143", after := #[{ on := 2, ground := Ground.guard }], guard := some (2, false) }) (v := .pointer (some ⟨q, 0, none⟩)) rfl (by kernel_rfl) (by kernel_rfl) (by kernel_rfl) (fun _ _ _ h => h) (Or.inl ⟨by rfl, ?_⟩) (SK.out _ tV) ?_
          · rintro w ⟨d0, d1⟩
            go_simp
          simp only [Act.put, List.setIfInBounds_toArray, List.set_cons_zero, List.set_cons_succ]
          refine wpAnyH_take (i := 10) (oi := { dst := some 23, op := Op.load 28 (Operand.tmp 22), type := 28, pos := "make.go:143", after := #[{ on := 9, ground := Ground.data }, { on := 2, ground := Ground.guard }], guard := some (2, false) }) (v := .slice ka e.key.length kc) rfl (by kernel_rfl) (by kernel_rfl) (by kernel_rfl) (fun _ _ _ h => h) (Or.inl ⟨by rfl, ?_⟩) (SK.out _ tV) ?_
          · rintro w ⟨d0, d1⟩
            go_simp
          simp only [Act.put, List.setIfInBounds_toArray, List.set_cons_zero, List.set_cons_succ]
          refine wpAnyH_ready (rs := [11]) (by kernel_rfl) (by simp) ?_
          refine AllReadyH.cons rfl (fun K hK => ?_) AllReadyH.nil
          go_simp
          refine (EQ.out _ tV).mono ?_
          rintro oo Vn ⟨rfl, rfl⟩
          have tN := Turns.refl (fun _ => False) w1.drew
          have tV := tV.trans tN
          clear tN
          go_simp
          refine hK.out _ _ (SK.out _ tV) (fun _ => ?_)
          clear hK K
          refine wpAnyH_take (i := 12) (oi := { dst := some 25, op := Op.unOp UnOp.not 4 (Operand.tmp 24), type := 4, pos := "make.go:143", after := #[{ on := 11, ground := Ground.data }, { on := 2, ground := Ground.guard }], guard := some (2, false) }) (v := .bool true) rfl (by kernel_rfl) (by kernel_rfl) (by kernel_rfl) (fun _ _ _ h => h) (Or.inl ⟨by rfl, ?_⟩) (SK.out _ tV) ?_
          · rintro w ⟨d0, d1⟩
            go_simp
          simp only [Act.put, List.setIfInBounds_toArray, List.set_cons_zero, List.set_cons_succ]
          refine wpAnyH_take (i := 13) (oi := { dst := some 26, op := Op.pick (Operand.tmp 15) (Operand.const (Value.bool true)) (Operand.tmp 25), type := 4, pos := "make.go:143", after := #[{ on := 2, ground := Ground.data }, { on := 12, ground := Ground.data }], guard := none }) (v := .bool true) rfl (by kernel_rfl) (by kernel_rfl) (by kernel_rfl) (fun _ _ _ h => h) (Or.inl ⟨by rfl, ?_⟩) (SK.out _ tV) ?_
          · rintro w ⟨d0, d1⟩
            go_simp
          simp only [Act.put, List.setIfInBounds_toArray, List.set_cons_zero, List.set_cons_succ]
          refine wpAnyH_done (by kernel_rfl) ?_ _
          obtain ⟨v', w3, hr3, hro3, hb3⟩ := ADD.out _ tV
          rw [show R.map Tow.kv ++ [.slice ka e.key.length kc] = (R ++ [(⟨ka, kc, va, vc, e⟩ : Tow)]).map Tow.kv by rw [List.map_append]; rfl] at hro3
          generalize R ++ [(⟨ka, kc, va, vc, e⟩ : Tow)] = R2 at hro3 HK1
          have HQ := hide hr3
          have RO3 := hide hro3
          have B3 := hide (((BW1.out.trans (tV.below (Nat.le_refl _) (fun _ x => x.elim) |>.mono BW1.out.size)).alloc (by have := BW1.out.size; have := tV.size; omega) (.cells #[.slice ka e.key.length kc] 28)).trans hb3)
          have d0 := (SK.out _ tV).1
          obtain ⟨va3, vc3, rfl⟩ : ∃ a c, v' = .slice a R2.length c := by have := hro3.len; rw [List.length_map] at this; exact this
          clear hr3 hro3 hb3 ADD EQ SK
          go_wp2_with (at_builtin; refine wpList_append_run rfl _ _ 124 rfl _ _ rfl rfl _ _ (HQ.out _) ?_)
          go_roundw
          case rel => exact ⟨p + 1 + 1, R2, by go_num, by omega, HK1, RO3.out, B3.out⟩
          case measure => simp [intOf]; omega
    · obtain rfl : k = n := by omega
      have i1 : ¬ (k : Int) < k := by omega
      have KY := hide (ROW.out.keys fun x hx => (HE.out.quiet (Turns.of_below BW.out (fun _ => False)) |>.mem (ksT_mem (by rw [← HRK.out]; exact hx))).1)
      clear hrow hbw
      go_wp2_with fail
      go_ret
      exact ⟨_, _, _, rfl, by rw [← HRK.out]; exact KY.out, BW.out⟩
end Go.Proofs.YtjklbhdhjfifhaaGreat
