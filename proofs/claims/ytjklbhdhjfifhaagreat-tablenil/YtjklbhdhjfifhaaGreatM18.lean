import Derived.Test.YtjklbhdhjfifhaaGreatM16
import Derived.Test.YtjklbhdhjfifhaaGreatM02
/-
  Make: the filter of some keys.
-/
namespace Go.Proofs.YtjklbhdhjfifhaaGreat
open Go.RowKit Go.Shelf
set_option maxRecDepth 100000
set_option maxHeartbeats 4000000
attribute [local go_sem] Oper.semAt_some
theorem make25 (L : Nat) (hL : L ≤ 1048577) (w : World) : (Instr.makeSlice 28 (.int .i64 (L : Int)) (.int .i64 (L : Int))).run Tryz.prog w = .ok (.slice (some ⟨w.heap.size, 0, none⟩) L L) (w.alloc (.cells (cellsOf (zeros L)).toArray 5)) := by
  have hr := run_make (P := Tryz.prog) w 28 5 Tryz.t5 (.int .u8 0) Tryz.underlying28 info5 zero5 .i64 .i64 L L (by omega) (by omega) (by rw [bytes5]; omega) (by omega)
  rw [sz5] at hr
  simp only [Int.toNat_natCast, Nat.mul_one] at hr
  rw [hr]
  congr 3
  refine Array.ext (by simp [size_madeCells, cellsOf, zeros]) fun k h1 h2 => ?_
  simp only [madeCells, Array.getElem_map, Array.getElem_range]
  have h3 : (Value.int .u8 0).cells = #[Value.int .u8 0] := rfl
  rw [h3]
  have h4 : k % (#[Value.int .u8 0] : Array Value).size = 0 := by show k % 1 = 0; omega
  rw [h4]
  simp [cellsOf, zeros]
theorem wrap_i (x : Nat) (h : x ≤ 1000000000000) : IntKind.i64.wrap (x : Int) = (x : Int) := by
  simp [IntKind.wrap, IntKind.bits, IntKind.signed]
  omega
theorem shl_b (n : Nat) (h : n < 8) : IntKind.u8.wrap (2 ^ n) = ((1#8 <<< n).toNat : Int) := by
  have : n = 0 ∨ n = 1 ∨ n = 2 ∨ n = 3 ∨ n = 4 ∨ n = 5 ∨ n = 6 ∨ n = 7 := by omega
  rcases this with rfl | rfl | rfl | rfl | rfl | rfl | rfl | rfl <;> rfl
/-- What lies in memory between two rounds. -/
structure MkI (w : World) (L : Nat) (f : List (BitVec 8)) (Ds : List Nat) (W : World) : Prop where
  row : FRow W w.heap.size f
  box : W.heap[w.heap.size + 1]? = some (.cells #[.slice (some ⟨w.heap.size, 0, none⟩) L L] 28 (0, 0))
  below : Below w.heap.size w W
  mark : MarksAt Ds W
theorem MkI.own {w : World} {L : Nat} {f : List (BitVec 8)} {Ds : List Nat} {B : Nat} (hD : ∀ D, D ∈ Ds → D < B) (hB : w.heap.size ≤ B) {W W' : World} {row : Option Nat} (h : MkI w L f Ds W) (hg : W.grownBy W' row) (hr : ∀ r, row = some r → B ≤ r ∧ ∃ o : Obj, W.heap[r]? = some o ∧ o.isCells = false) : MkI w L f Ds W' := by
  have hr' := fun r e => (hr r e).2
  refine ⟨heap_own hg hr' h.row, heap_own hg hr' h.box, ownFrom_below (β := Unit) (Nat.le_refl _) hB () W W' row h.below hg hr, fun D hm => ?_⟩
  have hd := h.mark D hm
  refine (hg.block D (lt_of_heap hd) fun e => ?_).trans hd
  have := (hr D e.symm).1
  have := hD D hm
  omega
theorem MkI.set {w : World} {L : Nat} {f : List (BitVec 8)} {Ds : List Nat} {W : World} (h : MkI w L f Ds W) (i : Nat) (x : BitVec 8) : MkI w L (f.set i x) Ds (W.setCell ⟨w.heap.size, i, none⟩ (.int .u8 (x.toNat : Int))).drew := by
  have ho : ∀ b, b ≠ w.heap.size → (W.setCell ⟨w.heap.size, i, none⟩ (.int .u8 (x.toNat : Int))).heap[b]? = W.heap[b]? := fun b hb => heap_setCell_other _ _ _ _ (by exact hb)
  refine ⟨h.row.set i x, (ho _ (by omega)).trans h.box, (h.below.setCell (p := ⟨w.heap.size, i, none⟩) (Nat.le_refl _) _).drew, fun D hD => ?_⟩
  have hd := h.mark D hD
  exact (ho D (fun e => by rw [e, h.row] at hd; cases hd)).trans hd
set_option maxHeartbeats 8000000 in
theorem make_ok (a : Option Addr) (m c' : Nat) (ks : List (List (BitVec 8))) (c : Nat) (w : World) (hk : Keys w (.slice a m c') ks) (hw : ∀ x, x ∈ ks → x.length ≤ 1000000000) (h1 : 1 ≤ c) (h2 : c ≤ 64) (h : ks.length * c ≤ 8388608) :
    Calls Tryz.prog 70 #[.slice a m c', .int .i64 (c : Nat)] w fun e w' => e = .returned (.tuple #[.slice (some ⟨w.heap.size, 0, none⟩) (nBits ks.length c / 8 + 1) (nBits ks.length c / 8 + 1), .int .i64 0]) ∧ FRow w' w.heap.size (filt ks c) ∧ Below w.heap.size w w' := by
  have hm := hk.len
  have HM := hide hm
  have HK := hide hk
  have HW := hide hw
  have HB := hide (bits_ok ks.length c h1 h2 h)
  have hml : m ≤ 8388608 := by
    have := Nat.le_mul_of_pos_right ks.length (Nat.lt_of_lt_of_le Nat.zero_lt_one h1)
    omega
  have hN := nBits_pos ks.length c
  have hN2 := nBits_le ks.length c h
  have hk1 := kOf_bd c
  have HF := hide (show filt ks c = keyBits (nBits ks.length c) (kOf c) ks (zeros (nBits ks.length c / 8)) ++ [BitVec.ofNat 8 (kOf c)] from rfl)
  rw [← hm] at HB hN hN2 HF ⊢
  clear hk hw hm h
  generalize nBits m c = N at *
  generalize kOf c = k at *
  obtain ⟨hNl, hNm⟩ := hN
  have HNM := hide hNm
  obtain ⟨q, hq⟩ : ∃ q, N / 8 = q := ⟨_, rfl⟩
  have hq2 : q ≤ 1048576 := by omega
  have HQ := hide hq
  have hqi : (N : Int) / 8 = (q : Int) := by omega
  have hmk := make25 (q + 1) (by omega)
  rw [hq] at HF ⊢
  have hqq : ((q + 1 : Nat) : Int) = (q : Int) + 1 := by omega
  rw [hqq] at hmk
  clear hNm hq hqq
  refine (callsIn_wide (n := 7)).1 ?_
  refine callsIn_of_wp_marks Tryz.func70 rfl trivial ?_ rfl
  simp only [Tryz.ntmps70, List.size_toArray, List.length_cons, List.length_nil, Nat.reduceAdd, Nat.reduceSub, Array.replicate_succ, Array.replicate_zero, List.push_toArray, List.append_toArray, List.nil_append, List.cons_append]
  gi_wp2_with (refine ⟨trivial, ?_⟩; gi_at_call 112; refine (callsIn_wide.2 (HB.out _)).mono ?_; rintro e w1 ⟨rfl, hw1⟩; subst hw1)
  have HM0 : Hid (MkI w1 (q + 1) (zeros q ++ [0#8]) [] ((w1.alloc (.cells (cellsOf (zeros (q + 1))).toArray 5)).alloc (.cells #[.slice (some ⟨w1.heap.size, 0, none⟩) (q + 1) (q + 1)] 28))) := by
    refine hide ⟨?_, ?_, ((Below.refl _ _).alloc (Nat.le_refl _) _).alloc (by simp) _, fun D hD => by cases hD⟩
    · rw [show zeros q ++ [0#8] = zeros (q + 1) by simp [zeros, List.replicate_succ']]
      exact heap_keep ((Below.refl _ _).alloc (Nat.le_refl _) _) (heap_alloc_new w1 _)
    · have := heap_alloc_new (w1.alloc (.cells (cellsOf (zeros (q + 1))).toArray 5)) (.cells #[.slice (some ⟨w1.heap.size, 0, none⟩) (q + 1) (q + 1)] 28)
      rwa [World.size_alloc] at this
  clear hmk
  refine wpIn_loop (fun a' wr => ∃ (i : Nat) (Ds : List Nat) (u11 u31 u32 u33 u34 u35 u36 u37 u38 u50 : Value), i ≤ m ∧ MkI w1 (q + 1) (keyBits N k (ks.take i) (zeros q) ++ [0#8]) Ds wr ∧ Ds.Nodup ∧ (∀ D, D ∈ Ds → w1.heap.size ≤ D ∧ D < wr.heap.size) ∧ a' = { tmps := #[Value.slice a m c', Value.int IntKind.i64 (c : Nat), undef, undef, Value.slice none 0 0, Value.int IntKind.i64 0, Value.int IntKind.i64 (N : Nat), Value.int IntKind.i64 (k : Nat), Value.int IntKind.i64 0, Value.pointer (some ⟨w1.heap.size + 1, 0, none⟩), undef, u11, undef, Value.tuple #[Value.int IntKind.i64 (N : Nat), Value.int IntKind.i64 (k : Nat), Value.int IntKind.i64 0], Value.slice a m c', Value.int IntKind.i64 (m : Nat), Value.int IntKind.i64 (c : Nat), Value.tuple #[Value.int IntKind.i64 (N : Nat), Value.int IntKind.i64 (k : Nat), Value.int IntKind.i64 0], Value.int IntKind.i64 (N : Nat), Value.int IntKind.i64 (k : Nat), Value.int IntKind.i64 0, Value.int IntKind.i64 0, Value.bool false, undef, Value.int IntKind.i64 (N : Nat), Value.int IntKind.i64 (q : Nat), Value.int IntKind.i64 ((q : Nat) + 1), Value.slice (some ⟨w1.heap.size, 0, none⟩) (q + 1) (q + 1), Value.slice a m c', Value.int IntKind.i64 (m : Nat), Value.int IntKind.i64 (i : Nat), u31, u32, u33, u34, u35, u36, u37, u38, undef, undef, undef, undef, undef, undef, undef, undef, undef, undef, undef, u50, undef, undef, undef, undef, undef, undef, undef], defers := marksF Ds }) (fun a' _ => m - (intOf (a'.tmps.getD 30 undef)).toNat) ?_ ?_
  · exact ⟨0, [], undef, undef, undef, undef, undef, undef, undef, undef, undef, undef, Nat.zero_le _, HM0.out, List.nodup_nil, fun D hD => (by cases hD), rfl⟩
  rintro a' wr ⟨i, Ds, u11, u31, u32, u33, u34, u35, u36, u37, u38, u50, hi, hI, hnd, hds, rfl⟩
  have HI := hide hI
  have HND := hide hnd
  have HDS := hide hds
  clear hI hnd hds HM0
  by_cases him : i < m
  · obtain ⟨x, hx⟩ : ∃ x, ks[i]? = some x := ⟨_, List.getElem?_eq_getElem (by have := HM.out; omega)⟩
    obtain ⟨b, off, ka, kc, ha, hcell, hB⟩ := (HK.out.below HI.out.below).at i x hx
    subst ha
    have hxl := HW.out x (List.mem_of_getElem? hx)
    have HH := hide (hash_any ka x.length kc x wr hB hxl)
    have hsz : w1.heap.size + 2 ≤ wr.heap.size := lt_of_heap HI.out.box
    have hKB : keyBits N k (ks.take (i + 1)) (zeros q) = setAll (keyBits N k (ks.take i) (zeros q)) (probes (hashB x).toNat N k) := by
      rw [← keyBits_snoc, List.take_add_one, hx]
      rfl
    have HKB := hide hKB
    have hvl := (hashB x).isLt
    have HFL := hide (show (keyBits N k (ks.take i) (zeros q)).length = q by rw [keyBits_length, zeros, List.length_replicate])
    generalize (hashB x).toNat = hv at *
    generalize keyBits N k (ks.take i) (zeros q) = f at *
    have HPL := hide (places_any hv N k wr)
    have HCN := hide (caught_new hv N k wr)
    generalize x.length = xl at *
    have i1 : (i : Int) < (m : Int) := by omega
    have i0 : (0 : Int) ≤ (i : Int) := by omega
    clear hx hB hKB
    gi_wp2_with (first
      | (refine ⟨trivial, ?_⟩; gi_at_call 84; refine (callsIn_wide.2 HH.out).mono ?_; rintro e w2 ⟨rfl, hw2⟩; subst hw2)
      | (refine ⟨trivial, ?_⟩; gi_at_call 83; refine (callsIn_wide.2 HPL.out).mono ?_; rintro e w3 ⟨rfl, hw3⟩; subst hw3))
    obtain ⟨W0, hW0⟩ : ∃ W0, ((w2.alloc (.cells #[.int .u64 (hv : Nat)] 33)).alloc (.cells #[.int .i64 (N : Nat)] 3)).alloc (.cells #[.int .i64 (k : Nat)] 3) = W0 := ⟨_, rfl⟩
    have hs0 : W0.heap.size = w2.heap.size + 3 := by rw [← hW0]; simp
    have hI0 : MkI w1 (q + 1) (f ++ [0#8]) Ds W0 := by
      rw [← hW0]
      have hd : ∀ D, D ∈ Ds → D < w2.heap.size := fun D hD => (HDS.out D hD).2
      have hle : w1.heap.size ≤ w2.heap.size := by omega
      exact ((HI.out.own hd hle (World.grownBy_alloc _ _ none) (fun r e => by cases e)).own hd hle (World.grownBy_alloc _ _ none) (fun r e => by cases e)).own hd hle (World.grownBy_alloc _ _ none) (fun r e => by cases e)
    rw [hW0] at HCN ⊢
    have HI0 := hide hI0
    clear hI0 hW0 HPL hcell HH
    refine wpIn_rangeFunc_ownH (w := W0) rfl (by decide) (gf := 128) (lb := #[.pointer (some ⟨w2.heap.size, 0, none⟩), .pointer (some ⟨w2.heap.size + 2, 0, none⟩), .pointer (some ⟨w2.heap.size + 1, 0, none⟩)]) rfl trivial (enters_of Tryz.func128 (by kernel_rfl) rfl)
      (places_stops 6 w2.heap.size hv N k (by decide) hvl (by omega) hN2 hk1.2 W0 HCN.out) Keep3.trans (fun W l o o' _ ho hc _ => Keep3.put W l o o' ho hc) (Below.refl _ _) (fun _ => rfl)
      (fun (pre : List (Fin N)) W => MkI w1 (q + 1) (setAll f (pre.map (·.val)) ++ [0#8]) Ds W)
      (fun _ _ _ => False)
      (fun s W W' row h hg hr => h.own (fun D hD => by have := (HDS.out D hD).2; omega) (by omega) hg hr)
      (fun _ _ _ _ _ h _ _ => h)
      HI0.out
      (fun (x : Fin N) a' _ => a' = { tmps := #[Value.slice (some ⟨b, off, none⟩) m c', Value.int IntKind.i64 (c : Nat), undef, undef, Value.slice none 0 0, Value.int IntKind.i64 0, Value.int IntKind.i64 (N : Nat), Value.int IntKind.i64 (k : Nat), Value.int IntKind.i64 0, Value.pointer (some ⟨w1.heap.size + 1, 0, none⟩), undef, Value.slice ka xl kc, Value.int IntKind.i64 (x.val : Nat), Value.tuple #[Value.int IntKind.i64 (N : Nat), Value.int IntKind.i64 (k : Nat), Value.int IntKind.i64 0], Value.slice (some ⟨b, off, none⟩) m c', Value.int IntKind.i64 (m : Nat), Value.int IntKind.i64 (c : Nat), Value.tuple #[Value.int IntKind.i64 (N : Nat), Value.int IntKind.i64 (k : Nat), Value.int IntKind.i64 0], Value.int IntKind.i64 (N : Nat), Value.int IntKind.i64 (k : Nat), Value.int IntKind.i64 0, Value.int IntKind.i64 0, Value.bool false, undef, Value.int IntKind.i64 (N : Nat), Value.int IntKind.i64 (q : Nat), Value.int IntKind.i64 ((q : Nat) + 1), Value.slice (some ⟨w1.heap.size, 0, none⟩) (q + 1) (q + 1), Value.slice (some ⟨b, off, none⟩) m c', Value.int IntKind.i64 (m : Nat), Value.int IntKind.i64 (i : Nat), Value.bool true, Value.pointer (some ⟨b, off + i, none⟩), Value.slice ka xl kc, Value.slice ka xl kc, Value.int IntKind.u64 (hv : Nat), Value.int IntKind.i64 (N : Nat), Value.int IntKind.i64 (k : Nat), Value.func (Fn.func 128) #[] #[Value.pointer (some ⟨w2.heap.size, 0, none⟩), Value.pointer (some ⟨w2.heap.size + 2, 0, none⟩), Value.pointer (some ⟨w2.heap.size + 1, 0, none⟩)], Value.int IntKind.i64 (x.val : Nat), undef, undef, undef, undef, undef, undef, undef, undef, undef, undef, u50, undef, undef, undef, undef, undef, undef, undef], defers := [] })
      (fun _ _ _ _ _ _ h _ _ => h) ?assign ?body ?done ?stop
    case assign =>
      rintro l pre x W K hI hK
      gi_wp2
      exact hK _ _ ((KeepsOthers.refl _).from _) (fun _ _ _ _ _ _ e => e) hI rfl
    case body =>
      rintro l pre x a' W hl ⟨r, hr⟩ hI rfl hlt
      have HIW := hide hI
      have s1 : W.drew.cell? ⟨w1.heap.size + 1, 0, none⟩ = some (.slice (some ⟨w1.heap.size, 0, none⟩) (q + 1) (q + 1)) := cell_of_row W _ 0 _ 28 (0, 0) hI.box
      have hxN := x.isLt
      have HSA : Hid (setAll f ((pre ++ [x]).map (·.val)) = setB (setAll f (pre.map (·.val))) x.val) := hide (by rw [List.map_append, List.map_singleton, setAll_snoc])
      have HFL2 : Hid ((setAll f (pre.map (·.val))).length = q) := hide (by rw [setAll_length]; exact HFL.out)
      generalize hxp : x.val = p at *
      generalize setAll f (pre.map (·.val)) = fp at *
      obtain ⟨pb, hpb⟩ : ∃ pb, p / 8 = pb := ⟨_, rfl⟩
      obtain ⟨pm, hpm⟩ : ∃ pm, p % 8 = pm := ⟨_, rfl⟩
      have hpl : pb < q := by have := HQ.out; have := HNM.out; omega
      have hpm8 : pm < 8 := by omega
      have s2 : W.drew.cell? ⟨w1.heap.size, pb, none⟩ = some (.int .u8 (((fp ++ [0#8]).getD pb 0).toNat : Int)) := hI.row.cell pb (by rw [List.length_append, HFL2.out]; omega)
      have s3 : W.drew.frozen? ⟨w1.heap.size, pb, none⟩ = false := hI.row.frozen pb
      have HO : Hid ((fp ++ [0#8]).getD pb 0 = fp.getD pb 0) := hide (getD_app _ _ (by rw [HFL2.out]; exact hpl))
      rw [HO.out] at s2
      have HPB := hide hpb
      have HPM := hide hpm
      have e1 : (p : Int) / 8 = (pb : Int) := by omega
      have e2 : (p : Int) % 8 = (pm : Int) := by omega
      have j0 : (0 : Int) ≤ (pb : Int) := by omega
      have j1 : (pb : Int) < (q : Int) + 1 := by omega
      generalize hold : fp.getD pb 0 = old at *
      obtain ⟨sh, hsh⟩ : ∃ sh, 1#8 <<< pm = sh := ⟨_, rfl⟩
      obtain ⟨nw, hnw⟩ : ∃ nw, old ||| sh = nw := ⟨_, rfl⟩
      have HQ6 : Hid ((p : Int).tmod 8 = (pm : Int)) := hide (by rw [Int.tmod_eq_emod_of_nonneg (by omega)]; exact e2)
      have HQ7 : Hid (IntKind.u8.wrap (2 ^ pm) = (sh.toNat : Int)) := hide (by rw [← hsh]; exact shl_b pm hpm8)
      have HQ8 : Hid (bits BinOp.or IntKind.u8 (old.toNat : Int) (sh.toNat : Int) = (nw.toNat : Int)) := hide (by rw [← hnw]; exact or_b old sh)
      have HSB : Hid (setB fp p ++ [0#8] = (fp ++ [0#8]).set pb nw) := hide (by rw [List.set_append_left _ _ (by rw [HFL2.out]; exact hpl), ← hnw, ← hsh, ← hold]; unfold setB; rw [HPB.out, HPM.out])
      clear hsh hnw
      have HOLD := hide hold
      clear hI hpb hpm hxp hold
      gi_wp2
      refine region_round (S := fun w' => w'.cell? ⟨w1.heap.size + 1, 0, none⟩ = some (.slice (some ⟨w1.heap.size, 0, none⟩) (q + 1) (q + 1))) (by kernel_rfl) (by kernel_rfl) ?_
      change wpAnyH _ _ _ _ _ 11 (Array.replicate 11 false) _ _
      refine wpAnyH_take (i := 0) (oi := ⟨some 40, .load 28 (.tmp 9), 28, "bloom.go:51", #[], none⟩) (v := .slice (some ⟨w1.heap.size, 0, none⟩) (q + 1) (q + 1)) rfl (by kernel_rfl) (by kernel_rfl) (by kernel_rfl) (fun _ _ _ h => by cases h.1) (Or.inl ⟨by rfl, ?_⟩) s1 ?_
      · intro w c1
        go_simp
      simp only [Act.put, List.setIfInBounds_toArray, List.set_cons_zero, List.set_cons_succ]
      refine wpAnyH_take (i := 1) (oi := ⟨some 41, .move (.tmp 12), 3, "bloom.go:51", #[], none⟩) (v := .int .i64 (p : Nat)) rfl (by kernel_rfl) (by kernel_rfl) (by kernel_rfl) (fun _ _ _ h => by cases h.1) (Or.inl ⟨by rfl, ?_⟩) s1 ?_
      · intro w c1
        go_simp
      simp only [Act.put, List.setIfInBounds_toArray, List.set_cons_zero, List.set_cons_succ]
      refine wpAnyH_take (i := 2) (oi := ⟨some 42, .binOp .quo 3 (.tmp 41) (.const (.int .i64 8)) 3, 3, "bloom.go:51", #[⟨1, .data⟩], none⟩) (v := .int .i64 (pb : Nat)) rfl (by kernel_rfl) (by kernel_rfl) (by kernel_rfl) (fun _ _ _ h => by cases h.1) (Or.inl ⟨by rfl, ?_⟩) s1 ?_
      · intro w c1
        go_simp
        exact wrap_i pb (by omega)
      simp only [Act.put, List.setIfInBounds_toArray, List.set_cons_zero, List.set_cons_succ]
      refine wpAnyH_take (i := 3) (oi := ⟨some 43, .indexAddr 28 (.tmp 40) (.tmp 42), 0, "bloom.go:51", #[⟨0, .data⟩, ⟨2, .data⟩], none⟩) (v := .pointer (some ⟨w1.heap.size, pb, none⟩)) rfl (by kernel_rfl) (by kernel_rfl) (by kernel_rfl) (fun _ _ _ h => by cases h.1) (Or.inl ⟨by rfl, ?_⟩) s1 ?_
      · intro w c1
        go_simp
      simp only [Act.put, List.setIfInBounds_toArray, List.set_cons_zero, List.set_cons_succ]
      refine wpAnyH_take (i := 5) (oi := ⟨some 45, .move (.tmp 12), 3, "bloom.go:51", #[], none⟩) (v := .int .i64 (p : Nat)) rfl (by kernel_rfl) (by kernel_rfl) (by kernel_rfl) (fun _ _ _ h => by cases h.1) (Or.inl ⟨by rfl, ?_⟩) s1 ?_
      · intro w c1
        go_simp
      simp only [Act.put, List.setIfInBounds_toArray, List.set_cons_zero, List.set_cons_succ]
      refine wpAnyH_take (i := 6) (oi := ⟨some 46, .binOp .rem 3 (.tmp 45) (.const (.int .i64 8)) 3, 3, "bloom.go:51", #[⟨5, .data⟩], none⟩) (v := .int .i64 (pm : Nat)) rfl (by kernel_rfl) (by kernel_rfl) (by kernel_rfl) (fun _ _ _ h => by cases h.1) (Or.inl ⟨by rfl, ?_⟩) s1 ?_
      · intro w c1
        go_simp
        exact HQ6.out
      simp only [Act.put, List.setIfInBounds_toArray, List.set_cons_zero, List.set_cons_succ]
      refine wpAnyH_take (i := 7) (oi := ⟨some 47, .binOp .shl 5 (.const (.int .u8 1)) (.tmp 46) 3, 5, "bloom.go:51", #[⟨6, .data⟩], none⟩) (v := .int .u8 (sh.toNat : Int)) rfl (by kernel_rfl) (by kernel_rfl) (by kernel_rfl) (fun _ _ _ h => by cases h.1) (Or.inl ⟨by rfl, ?_⟩) s1 ?_
      · intro w c1
        go_simp
        exact HQ7.out
      simp only [Act.put, List.setIfInBounds_toArray, List.set_cons_zero, List.set_cons_succ]
      have hq8 := HQ8.out
      have wpb := wrap_i pb (by omega)
      refine wpAnyH_ready (rs := [4]) (by kernel_rfl) (by simp) ?_
      refine AllReadyH.cons rfl (fun K hK => ?_) AllReadyH.nil
      go_simp
      refine hK.out _ _ s1 (fun _ => ?_)
      clear hK K
      refine wpAnyH_ready (rs := [8]) (by kernel_rfl) (by simp) ?_
      refine AllReadyH.cons rfl (fun K hK => ?_) AllReadyH.nil
      go_simp
      refine hK.out _ _ s1 (fun _ => ?_)
      clear hK K
      refine wpAnyH_ready (rs := [9]) (by kernel_rfl) (by simp) ?_
      refine AllReadyH.cons rfl (fun K hK => ?_) AllReadyH.nil
      go_simp
      refine hK.out _ _ s1 (fun _ => ?_)
      clear hK K
      refine wpAnyH_ready (rs := [10]) (by kernel_rfl) (by simp) ?_
      refine AllReadyH.cons rfl (fun K hK => ?_) AllReadyH.nil
      go_simp
      have hI2 := HIW.out.set pb nw
      refine hK.out _ _ (cell_of_row _ _ 0 _ 28 (0, 0) hI2.box) (fun _ => wpAnyH_done (by kernel_rfl) ⟨rfl, ?_⟩ _)
      refine ⟨((KeepsOthers.setCell W ⟨w1.heap.size, pb, none⟩ _).trans (KeepsOthers.drew _)).from _, ?_, ?_⟩
      · intro b' h1 h2 cs t fr e
        exact (heap_setCell_other _ _ _ _ (by show ¬ b' = w1.heap.size; omega)).trans e
      · show MkI w1 (q + 1) (setAll f (List.map (fun x => x.val) (pre ++ [x])) ++ [0#8]) Ds _
        rw [HSA.out, HSB.out]
        exact hI2
    case done =>
      rintro D xs W hD rfl hI hK
      rw [probesF_val, ← HKB.out] at hI
      have HIW := hide hI
      have HK2 := hide hK
      clear hI hK
      gi_wp2
      have hDl := lt_of_heap HK2.out
      refine ⟨⟨i + 1, D :: Ds, _, _, _, _, _, _, _, _, _, _, by omega, ⟨HIW.out.row, HIW.out.box, HIW.out.below, fun D' hD' => ?_⟩, List.nodup_cons.2 ⟨fun hm => ?_, HND.out⟩, fun D' hD' => ?_, rfl⟩, ?_⟩
      · rcases List.mem_cons.1 hD' with rfl | hD'
        · exact HK2.out
        · exact HIW.out.mark D' hD'
      · have := (HDS.out D hm).2
        omega
      · rcases List.mem_cons.1 hD' with rfl | hD'
        · exact ⟨by omega, hDl⟩
        · exact ⟨(HDS.out D' hD').1, lt_of_heap (HIW.out.mark D' hD')⟩
      · show m - ((i : Int) + 1).toNat < m - ((i : Nat) : Int).toNat
        omega
    case stop =>
      rintro D c pre W _ _ h _
      exact h.elim
  · obtain rfl : i = m := by omega
    have HT := hide (show ks.take i = ks from List.take_of_length_le (by have := HM.out; omega))
    rw [HT.out] at HI
    have HFL := hide (show (keyBits N k ks (zeros q)).length = q by rw [keyBits_length, zeros, List.length_replicate])
    generalize keyBits N k ks (zeros q) = f at *
    have s1 : wr.cell? ⟨w1.heap.size + 1, 0, none⟩ = some (.slice (some ⟨w1.heap.size, 0, none⟩) (q + 1) (q + 1)) := cell_of_row wr _ 0 _ 28 (0, 0) HI.out.box
    have s2 : wr.cell? ⟨w1.heap.size, q, none⟩ = some (.int .u8 (((f ++ [0#8]).getD q 0).toNat : Int)) := HI.out.row.cell q (by rw [List.length_append, HFL.out]; exact Nat.lt_succ_self q)
    have s3 : wr.frozen? ⟨w1.heap.size, q, none⟩ = false := HI.out.row.frozen q
    have hne : w1.heap.size + 1 ≠ w1.heap.size := by omega
    have j1 : (q : Int) < (q : Int) + 1 := by omega
    have j0 : (0 : Int) ≤ (q : Int) := by omega
    obtain ⟨hk2, hk3⟩ := hk1
    have HKW := hide (show ((BitVec.ofNat 8 k).toNat : Int) = (k : Int) by rw [BitVec.toNat_ofNat]; omega)
    gi_wp2
    have hI3 := HI.out.set q (BitVec.ofNat 8 k)
    rw [HKW.out, List.set_append_right _ _ (by rw [HFL.out]; exact Nat.le_refl _), HFL.out, Nat.sub_self] at hI3
    refine leaves_marks w1.heap.size Ds _ HND.out (fun D hD => (HDS.out D hD).1) (fun D hD => hI3.mark D hD) (fun w' hb hc => ⟨.tuple #[.slice (some ⟨w1.heap.size, 0, none⟩) (q + 1) (q + 1), .int .i64 0], by simp [results, Tryz.results70, go_sem], rfl, ?_, hI3.below.trans ⟨hb.os, hb.tape, hb.output, hb.size, hb.block⟩⟩)
    rw [HF.out]
    exact hc _ _ _ _ hI3.row
end Go.Proofs.YtjklbhdhjfifhaaGreat

/-
  Has: whether a key may be one of a filter's.
-/
namespace Go.Proofs.YtjklbhdhjfifhaaGreat
open Go.RowKit Go.Shelf
set_option maxRecDepth 100000
set_option maxHeartbeats 4000000
attribute [local go_sem] Oper.semAt_some
/-- What lies in memory while a filter is asked. -/
structure HsI (w : World) (v : Value) (r : Bool) (W : World) : Prop where
  box : W.heap[w.heap.size]? = some (.cells #[v] 28 (0, 0))
  res : W.heap[w.heap.size + 1]? = some (.cells #[.bool r] 4 (0, 0))
  below : Below w.heap.size w W
theorem HsI.own {w : World} {v : Value} {r : Bool} {B : Nat} (hB : w.heap.size ≤ B) {W W' : World} {row : Option Nat} (h : HsI w v r W) (hg : W.grownBy W' row) (hr : ∀ r, row = some r → B ≤ r ∧ ∃ o : Obj, W.heap[r]? = some o ∧ o.isCells = false) : HsI w v r W' := by
  have hr' := fun r e => (hr r e).2
  exact ⟨heap_own hg hr' h.box, heap_own hg hr' h.res, ownFrom_below (β := Unit) (Nat.le_refl _) hB () W W' row h.below hg hr⟩
theorem HsI.set {w : World} {v : Value} {r : Bool} {W : World} (h : HsI w v r W) (r' : Bool) : HsI w v r' (W.setCell ⟨w.heap.size + 1, 0, none⟩ (.bool r')) := by
  refine ⟨(heap_setCell_other _ _ _ _ (by show w.heap.size ≠ w.heap.size + 1; omega)).trans h.box, ?_, h.below.setCell (p := ⟨w.heap.size + 1, 0, none⟩) (by show w.heap.size ≤ w.heap.size + 1; omega) _⟩
  have := heap_setCell_same W (w.heap.size + 1) 0 _ 4 (.bool r') h.res
  exact this
theorem hsI_new (w : World) (v : Value) (r : Bool) : HsI w v r ((w.alloc (.cells #[v] 28)).alloc (.cells #[.bool r] 4)) := by
  refine ⟨heap_keep ((Below.refl _ _).alloc (Nat.le_refl _) _) (heap_alloc_new w _), ?_, ((Below.refl _ _).alloc (Nat.le_refl _) _).alloc (by simp) _⟩
  have := heap_alloc_new (w.alloc (.cells #[v] 28)) (.cells #[.bool r] 4)
  rwa [World.size_alloc] at this
/-- The end: the answer is read out of its cell. -/
theorem hs_end {w : World} {v : Value} {r : Bool} {W : World} {tmps : Array Value} {b : Bool} (Ds : List Nat) (h : HsI w v r W) (ht : tmps[4]? = some (.pointer (some ⟨w.heap.size + 1, 0, none⟩))) (hnd : Ds.Nodup) (hds : ∀ D, D ∈ Ds → w.heap.size ≤ D) (hm : MarksAt Ds W) (hb : r = b) :
    LeavesInM Fence.wide 5 Tryz.prog Tryz.f42 tmps (fun e w' => e = .returned (.bool b) ∧ Below w.heap.size w w') (marksF Ds) .returning W := by
  subst hb
  refine leaves_marks w.heap.size Ds W hnd hds hm (fun w' hb hc => ⟨.bool r, ?_, rfl, h.below.trans hb⟩)
  have hcell : w'.cell? ⟨w.heap.size + 1, 0, none⟩ = some (.bool r) := cell_of_row w' _ 0 _ 4 (0, 0) (hc _ _ _ _ h.res)
  simp [results, Tryz.results42, go_sem, ht, hcell]
theorem has_short (a ka : Option Addr) (n c kn kc : Nat) (w : World) (h : n < 2 ∨ 1048577 < n) :
    Calls Tryz.prog 42 #[.slice a n c, .slice ka kn kc] w fun e w' => e = .returned (.bool true) ∧ Below w.heap.size w w' := by
  have HN := hide (hsI_new w (.slice a n c) true)
  refine (callsIn_wide (n := 5)).1 ?_
  refine callsIn_of_wp_marks Tryz.func42 rfl trivial ?_ rfl
  simp only [Tryz.ntmps42, List.size_toArray, List.length_cons, List.length_nil, Nat.reduceAdd, Nat.reduceSub, Array.replicate_succ, Array.replicate_zero, List.push_toArray, List.append_toArray, List.nil_append, List.cons_append]
  by_cases h2 : n < 2
  · have h2' : (n : Int) < 2 := by omega
    clear h
    gi_wp2
    exact hs_end [] HN.out rfl List.nodup_nil (fun D hD => (by cases hD)) (fun D hD => (by cases hD)) rfl
  · have h3 : 1048577 < (n : Int) := by omega
    have h2' : ¬ (n : Int) < 2 := by omega
    clear h
    gi_wp2
    exact hs_end [] HN.out rfl List.nodup_nil (fun D hD => (by cases hD)) (fun D hD => (by cases hD)) rfl
theorem and_b (x y : BitVec 8) : bits .and .u8 (x.toNat : Int) (y.toNat : Int) = ((x &&& y).toNat : Int) := by
  show IntKind.u8.wrap ((BitVec.ofInt 8 (x.toNat : Int) &&& BitVec.ofInt 8 (y.toNat : Int)).toNat : Int) = _
  rw [ofInt_b, ofInt_b, wrap_b]
theorem bit_q (x : BitVec 8) (n : Nat) : bits BinOp.and IntKind.u8 ((x.toNat : Int) / 2 ^ n) 1 = if x.getLsbD n then 1 else 0 := by
  have e := and_b (x >>> n) 1#8
  have e2 : ((x.toNat : Int) / 2 ^ n) = ((x >>> n).toNat : Int) := by
    rw [BitVec.toNat_ushiftRight, Nat.shiftRight_eq_div_pow, Int.natCast_ediv]
    norm_cast
  rw [e2, show (1 : Int) = ((1#8).toNat : Int) from rfl, e, BitVec.toNat_and, BitVec.toNat_ushiftRight]
  show ((x.toNat >>> n &&& 1 : Nat) : Int) = _
  rw [Nat.and_one_is_mod, BitVec.getLsbD, Nat.testBit]
  rw [Nat.and_comm, Nat.and_one_is_mod]
  have : x.toNat >>> n % 2 = 0 ∨ x.toNat >>> n % 2 = 1 := by omega
  rcases this with h | h <;> rw [h] <;> rfl
theorem has_loop (b off c s kn kc : Nat) (ka : Option Addr) (f key : List (BitVec 8)) (w : World) (hf : Bytes w (.slice (some ⟨b, off, none⟩) (s + 1) c) f) (hk : Bytes w (.slice ka kn kc) key) (hkn : kn ≤ 1000000000) (h1 : 1 ≤ s) (h2 : s ≤ 1048576) :
    Calls Tryz.prog 42 #[.slice (some ⟨b, off, none⟩) (s + 1) c, .slice ka kn kc] w fun e w' => e = .returned (.bool (hasB f key)) ∧ Below w.heap.size w w' := by
  have hl := hf.len
  have HF := hide hf
  have HH := hide (fun (W : World) (hb : Below w.heap.size w W) => hash_any ka kn kc key W (hk.below hb) hkn)
  have hkc : w.cell? ⟨b, off + s, none⟩ = some (.int .u8 ((f.getD s 0).toNat : Int)) := hf.at s (by omega)
  have HV : Hid (hasB f key = (decide ((f.getD s 0).toNat < 1) || decide (30 < (f.getD s 0).toNat) || (probes (hashB key).toNat (s * 8) (f.getD s 0).toNat).all (bitOf f))) := hide (by
    have e1 : decide (f.length < 2) = false := decide_eq_false (by omega)
    have e2 : decide (1048577 < f.length) = false := decide_eq_false (by omega)
    unfold hasB lastB
    rw [e1, e2, ← hl, Nat.add_sub_cancel]
    rfl)
  have hvl := (hashB key).isLt
  generalize (hashB key).toNat = hv at *
  have hkb := (f.getD s 0).isLt
  generalize (f.getD s 0).toNat = k at *
  have HL := hide hl
  obtain ⟨N, hN⟩ : ∃ N, s * 8 = N := ⟨_, rfl⟩
  have hN8 : (s : Int) * 8 = (N : Int) := by omega
  rw [hN] at HV
  have HNS := hide hN
  have hbw := block_lt_of_cell hkc
  have HN := hide (hsI_new w (.slice (some ⟨b, off, none⟩) (s + 1) c) false)
  have HN1 := hide (hsI_new w (.slice (some ⟨b, off, none⟩) (s + 1) c) true)
  have s1 : ((w.alloc (.cells #[.slice (some ⟨b, off, none⟩) (s + 1) c] 28)).alloc (.cells #[.bool false] 4)).cell? ⟨b, off + s, none⟩ = some (.int .u8 (k : Int)) := (HN.out.below.cell (p := ⟨b, off + s, none⟩) hbw).trans hkc
  have n1 : ¬ ((s : Int) + 1 < 2) := by omega
  have n2 : ¬ (1048577 < (s : Int) + 1) := by omega
  have i1 : (s : Int) < (s : Int) + 1 := by omega
  clear hf hk hl hN hkc
  refine (callsIn_wide (n := 5)).1 ?_
  refine callsIn_of_wp_marks Tryz.func42 rfl trivial ?_ rfl
  simp only [Tryz.ntmps42, List.size_toArray, List.length_cons, List.length_nil, Nat.reduceAdd, Nat.reduceSub, Array.replicate_succ, Array.replicate_zero, List.push_toArray, List.append_toArray, List.nil_append, List.cons_append]
  by_cases hm : mayB (k : Int) = true
  · have hk1 : 1 ≤ k ∧ k ≤ 30 := by
      unfold mayB at hm
      have := of_decide_eq_true hm
      omega
    gi_wp2_with (first
      | (refine ⟨trivial, ?_⟩; gi_at_call 82; refine (callsIn_wide.2 (mayProbe_any _ _)).mono ?_; rintro e w1 ⟨rfl, hw1⟩; subst hw1; rw [hm])
      | (refine ⟨trivial, ?_⟩; gi_at_call 84; refine (callsIn_wide.2 (HH.out _ HN.out.below)).mono ?_; rintro e w2 ⟨rfl, hw2⟩; subst hw2)
      | (refine ⟨trivial, ?_⟩; gi_at_call 83; refine (callsIn_wide.2 (places_any hv N k _)).mono ?_; rintro e w3 ⟨rfl, hw3⟩; subst hw3))
    have HCN := hide (caught_new hv N k ((w.alloc (.cells #[.slice (some ⟨b, off, none⟩) (s + 1) c] 28)).alloc (.cells #[.bool false] 4)))
    rw [show ((w.alloc (.cells #[.slice (some ⟨b, off, none⟩) (s + 1) c] 28)).alloc (.cells #[.bool false] 4)).heap.size = w.heap.size + 1 + 1 by simp] at HCN
    have hI0 := (((HN.out.own (Nat.le_refl _) (World.grownBy_alloc _ (.cells #[.int .u64 (hv : Nat)] 33) none) (fun r e => by cases e)).own (Nat.le_refl _) (World.grownBy_alloc _ (.cells #[.int .i64 (N : Nat)] 3) none) (fun r e => by cases e)).own (Nat.le_refl _) (World.grownBy_alloc _ (.cells #[.int .i64 (k : Nat)] 3) none) (fun r e => by cases e))
    have hs0 : (((((w.alloc (.cells #[.slice (some ⟨b, off, none⟩) (s + 1) c] 28)).alloc (.cells #[.bool false] 4)).alloc (.cells #[.int .u64 (hv : Nat)] 33)).alloc (.cells #[.int .i64 (N : Nat)] 3)).alloc (.cells #[.int .i64 (k : Nat)] 3)).heap.size = w.heap.size + 5 := by simp
    generalize (((((w.alloc (.cells #[.slice (some ⟨b, off, none⟩) (s + 1) c] 28)).alloc (.cells #[.bool false] 4)).alloc (.cells #[.int .u64 (hv : Nat)] 33)).alloc (.cells #[.int .i64 (N : Nat)] 3)).alloc (.cells #[.int .i64 (k : Nat)] 3)) = W0 at *
    have HI0 := hide hI0
    have hN1 : 1 ≤ N := by have := HNS.out; omega
    have hN2 : N ≤ 8388608 := by have := HNS.out; omega
    clear hI0 s1 HN HN1
    refine wpIn_rangeFunc_ownH (w := W0) rfl (by decide) (gf := 128) (lb := #[.pointer (some ⟨w.heap.size + 1 + 1, 0, none⟩), .pointer (some ⟨w.heap.size + 1 + 1 + 2, 0, none⟩), .pointer (some ⟨w.heap.size + 1 + 1 + 1, 0, none⟩)]) rfl trivial (enters_of Tryz.func128 (by kernel_rfl) rfl)
      (places_stops 4 (w.heap.size + 1 + 1) hv N k (by decide) hvl hN1 hN2 hk1.2 W0 HCN.out) Keep3.trans (fun W l o o' _ ho hc _ => Keep3.put W l o o' ho hc) (Below.refl _ _) (fun _ => rfl)
      (fun (pre : List (Fin N)) W => HsI w (.slice (some ⟨b, off, none⟩) (s + 1) c) false W ∧ ∀ x, x ∈ pre → bitOf f x.val = true)
      (fun cd (pre : List (Fin N)) W => cd = .ret ∧ HsI w (.slice (some ⟨b, off, none⟩) (s + 1) c) false W ∧ ∃ x, x ∈ pre ∧ bitOf f x.val = false)
      (fun _ W W' row h hg hr => ⟨h.1.own (by omega) hg hr, h.2⟩)
      (fun _ _ W W' row h hg hr => ⟨h.1, h.2.1.own (by omega) hg hr, h.2.2⟩)
      ⟨HI0.out, fun x hx => by cases hx⟩
      (fun (x : Fin N) a' _ => a' = { tmps := #[Value.slice (some ⟨b, off, none⟩) (s + 1) c, Value.slice ka kn kc, Value.pointer (some ⟨w.heap.size, 0, none⟩), undef, Value.pointer (some ⟨w.heap.size + 1, 0, none⟩), Value.int IntKind.i64 (s : Nat), Value.int IntKind.i64 (k : Nat), Value.int IntKind.i64 (x.val : Nat), Value.slice (some ⟨b, off, none⟩) (s + 1) c, Value.int IntKind.i64 ((s : Nat) + 1), Value.bool false, Value.bool false, Value.slice (some ⟨b, off, none⟩) (s + 1) c, Value.int IntKind.i64 ((s : Nat) + 1), Value.bool false, Value.bool false, Value.slice (some ⟨b, off, none⟩) (s + 1) c, Value.int IntKind.i64 ((s : Nat) + 1), Value.int IntKind.i64 (s : Nat), Value.slice (some ⟨b, off, none⟩) (s + 1) c, Value.int IntKind.i64 (s : Nat), Value.pointer (some ⟨b, off + s, none⟩), Value.int IntKind.u8 (k : Nat), Value.int IntKind.i64 (k : Nat), Value.int IntKind.i64 (k : Nat), Value.bool true, Value.bool false, Value.slice ka kn kc, Value.int IntKind.u64 (hv : Nat), Value.int IntKind.i64 (s : Nat), Value.int IntKind.i64 (N : Nat), Value.int IntKind.i64 (k : Nat), Value.func (Fn.func 128) #[] #[Value.pointer (some ⟨w.heap.size + 1 + 1, 0, none⟩), Value.pointer (some ⟨w.heap.size + 1 + 1 + 2, 0, none⟩), Value.pointer (some ⟨w.heap.size + 1 + 1 + 1, 0, none⟩)], Value.int IntKind.i64 (x.val : Nat), undef, undef, undef, undef, undef, undef, undef, undef, undef, undef], defers := [] })
      (fun _ _ _ _ _ _ h _ _ => h) ?assign ?body ?done ?stop
    case assign =>
      rintro l pre x W K hI hK
      gi_wp2
      exact hK _ _ ((KeepsOthers.refl _).from _) (fun _ _ _ _ _ _ e => e) hI rfl
    case body =>
      rintro l pre x a' W hl ⟨r, hr⟩ ⟨hI, hall⟩ rfl hlt
      have HIW := hide hI
      have HALL := hide hall
      have c1 : W.cell? ⟨w.heap.size, 0, none⟩ = some (.slice (some ⟨b, off, none⟩) (s + 1) c) := cell_of_row W _ 0 _ 28 (0, 0) hI.box
      have c2 : W.cell? ⟨w.heap.size + 1, 0, none⟩ = some (.bool false) := cell_of_row W _ 0 _ 4 (0, 0) hI.res
      have z2 : W.frozen? ⟨w.heap.size + 1, 0, none⟩ = false := frozen_of_row W _ 0 _ 4 hI.res
      have hxN := x.isLt
      have hpl : x.val / 8 < s := by have := HNS.out; omega
      have c3 : W.cell? ⟨b, off + x.val / 8, none⟩ = some (.int .u8 ((f.getD (x.val / 8) 0).toNat : Int)) := (hI.below.cell (p := ⟨b, off + x.val / 8, none⟩) hbw).trans (HF.out.at (x.val / 8) (by have := HL.out; omega))
      have HBX : Hid (bitOf f x.val = (f.getD (x.val / 8) 0).getLsbD (x.val % 8)) := hide rfl
      have hq := bit_q (f.getD (x.val / 8) 0) (x.val % 8)
      obtain ⟨pb, hpb⟩ : ∃ pb, x.val / 8 = pb := ⟨_, rfl⟩
      obtain ⟨pm, hpm⟩ : ∃ pm, x.val % 8 = pm := ⟨_, rfl⟩
      have hpm8 : pm < 8 := by omega
      rw [hpb] at c3 hq hpl HBX
      rw [hpm] at hq HBX
      have e1 : (x.val : Int) / 8 = (pb : Int) := by omega
      have e2 : (x.val : Int) % 8 = (pm : Int) := by omega
      have j0 : (0 : Int) ≤ (pb : Int) := by omega
      have j1 : (pb : Int) < (s : Int) + 1 := by omega
      have ho := (f.getD pb 0).isLt
      by_cases hbit : (f.getD pb 0).getLsbD pm = true
      · rw [hbit, if_pos rfl] at hq
        have HB2 := hide (HBX.out.trans hbit)
        clear hbit hI hall hpb hpm HBX
        generalize (f.getD pb 0).toNat = old at *
        gi_wp2
        refine ⟨(KeepsOthers.refl _).from _, fun _ _ _ _ _ _ e => e, HIW.out, fun y hy => ?_⟩
        rcases List.mem_append.1 hy with hy | hy
        · exact HALL.out y hy
        · obtain rfl := List.mem_singleton.1 hy
          exact HB2.out
      · rw [if_neg hbit] at hq
        have HB2 := hide (HBX.out.trans (Bool.eq_false_iff.2 hbit))
        clear hbit hI hall hpb hpm HBX
        generalize (f.getD pb 0).toNat = old at *
        gi_wp2
        exact ⟨(KeepsOthers.setCell _ _ _).from _, rfl, HIW.out.set false, x, by simp, HB2.out⟩
    case done =>
      rintro D xs W hD rfl ⟨hI, hall⟩ hK
      have HIW := hide hI
      have HK2 := hide hK
      have HALL := hide hall
      have c2 : W.cell? ⟨w.heap.size + 1, 0, none⟩ = some (.bool false) := cell_of_row W _ 0 _ 4 (0, 0) hI.res
      have z2 : W.frozen? ⟨w.heap.size + 1, 0, none⟩ = false := frozen_of_row W _ 0 _ 4 hI.res
      clear hI hK hall
      gi_wp2
      refine hs_end [D] (HIW.out.set true) rfl (List.nodup_cons.2 ⟨fun h => (by cases h), List.nodup_nil⟩) (fun D' h => by obtain rfl := List.mem_singleton.1 h; omega) (fun D' h => ?_) ?_
      · obtain rfl := List.mem_singleton.1 h
        exact (heap_setCell_other _ _ _ _ (by show D' ≠ w.heap.size + 1; omega)).trans HK2.out
      · rw [HV.out]
        symm
        rw [Bool.or_eq_true]
        right
        rw [List.all_eq_true, ← probesF_val hv hN1 k]
        intro y hy
        obtain ⟨z, hz, rfl⟩ := List.mem_map.1 hy
        exact HALL.out z hz
    case stop =>
      rintro D cd pre W hD hpre ⟨rfl, hI, x, hx, hbx⟩ hK
      have HIW := hide hI
      have HK2 := hide hK
      clear hI hK
      gi_wp2
      refine hs_end [D] HIW.out rfl (List.nodup_cons.2 ⟨fun h => (by cases h), List.nodup_nil⟩) (fun D' h => by obtain rfl := List.mem_singleton.1 h; omega) (fun D' h => ?_) ?_
      · obtain rfl := List.mem_singleton.1 h
        exact HK2.out
      · rw [HV.out, decide_eq_false (show ¬ k < 1 by omega), decide_eq_false (show ¬ 30 < k by omega)]
        symm
        show List.all _ _ = false
        rw [List.all_eq_false]
        refine ⟨x.val, ?_, by rw [hbx]; decide⟩
        rw [← probesF_val hv hN1 k]
        exact List.mem_map.2 ⟨x, hpre.subset hx, rfl⟩
  · have hm0 : mayB (k : Int) = false := by simpa using hm
    gi_wp2_with (refine ⟨trivial, ?_⟩; gi_at_call 82; refine (callsIn_wide.2 (mayProbe_any _ _)).mono ?_; rintro e w1 ⟨rfl, hw1⟩; subst hw1; rw [hm0])
    refine hs_end [] HN1.out rfl List.nodup_nil (fun D hD => (by cases hD)) (fun D hD => (by cases hD)) ?_
    rw [HV.out]
    unfold mayB at hm
    have : ¬ (1 ≤ (k : Int) ∧ (k : Int) ≤ 30) := fun h => hm (decide_eq_true h)
    by_cases hk0 : k < 1
    · rw [decide_eq_true hk0]; rfl
    · rw [decide_eq_true (show 30 < k by omega)]; simp
theorem has_any (a ka : Option Addr) (n c kn kc : Nat) (f key : List (BitVec 8)) (w : World) (hf : Bytes w (.slice a n c) f) (hk : Bytes w (.slice ka kn kc) key) (hkn : kn ≤ 1000000000) :
    Calls Tryz.prog 42 #[.slice a n c, .slice ka kn kc] w fun e w' => e = .returned (.bool (hasB f key)) ∧ Below w.heap.size w w' := by
  have hl := hf.len
  by_cases h : n < 2 ∨ 1048577 < n
  · have e : hasB f key = true := by
      unfold hasB
      rw [← hl]
      rcases h with h | h <;> simp [h]
    rw [e]
    exact has_short a ka n c kn kc w h
  · obtain ⟨s, rfl⟩ : ∃ s, n = s + 1 := ⟨n - 1, by omega⟩
    obtain ⟨b, off, rfl⟩ := hf.addr (by omega)
    exact has_loop b off c s kn kc ka f key w hf hk hkn (by omega) (by omega)
end Go.Proofs.YtjklbhdhjfifhaaGreat
