/-
  Make: the filter of some keys.
-/
import Derived.Test.YtppikddjdjmakaaFr
namespace Go.Proofs.Ytppikddjdjmakaa
open Go.RowKit Go.Shelf
set_option maxRecDepth 100000
set_option maxHeartbeats 4000000
attribute [local go_sem] Oper.semAt_some
theorem make25 (L : Nat) (hL : L ≤ 1048577) (w : World) : (Instr.makeSlice 25 (.int .i64 (L : Int)) (.int .i64 (L : Int))).run Try.prog w = .ok (.slice (some ⟨w.heap.size, 0, none⟩) L L) (w.alloc (.cells (cellsOf (zeros L)).toArray 5)) := by
  have hr := run_make (P := Try.prog) w 25 5 Try.t5 (.int .u8 0) Try.underlying25 info5 zero5 .i64 .i64 L L (by omega) (by omega) (by rw [bytes5]; omega) (by omega)
  rw [sz5] at hr
  simp only [Int.toNat_natCast, Nat.mul_one] at hr
  rw [hr]
  congr 3
  refine Array.ext (by simp [size_madeCells, cellsOf, zeros]) fun k h1 h2 => ?_
  simp only [madeCells, Array.getElem_map, Array.getElem_range]
  have h3 : (Value.int .u8 0).cells = #[Value.int .u8 0] := rfl
  rw [h3]
  have h4 : k % (#[Value.int .u8 0] : Array Value).size = 0 := by show k % 1 = 0; omega
  rw [h4]
  simp [cellsOf, zeros]
theorem wrap_i (x : Nat) (h : x ≤ 1000000000000) : IntKind.i64.wrap (x : Int) = (x : Int) := by
  simp [IntKind.wrap, IntKind.bits, IntKind.signed]
  omega
theorem ofInt_b (x : BitVec 8) : BitVec.ofInt 8 (x.toNat : Int) = x := by
  rw [BitVec.ofInt_natCast, BitVec.ofNat_toNat]
  simp
theorem wrap_b (x : BitVec 8) : IntKind.u8.wrap (x.toNat : Int) = x.toNat := by
  have := x.isLt
  simp [IntKind.wrap, IntKind.bits, IntKind.signed]
  omega
theorem or_b (x y : BitVec 8) : bits .or .u8 (x.toNat : Int) (y.toNat : Int) = ((x ||| y).toNat : Int) := by
  show IntKind.u8.wrap ((BitVec.ofInt 8 (x.toNat : Int) ||| BitVec.ofInt 8 (y.toNat : Int)).toNat : Int) = _
  rw [ofInt_b, ofInt_b, wrap_b]
theorem shl_b (n : Nat) (h : n < 8) : IntKind.u8.wrap (2 ^ n) = ((1#8 <<< n).toNat : Int) := by
  have : n = 0 ∨ n = 1 ∨ n = 2 ∨ n = 3 ∨ n = 4 ∨ n = 5 ∨ n = 6 ∨ n = 7 := by omega
  rcases this with rfl | rfl | rfl | rfl | rfl | rfl | rfl | rfl <;> rfl
/-- What lies in memory between two rounds. -/
structure MkI (w : World) (L : Nat) (f : List (BitVec 8)) (Ds : List Nat) (W : World) : Prop where
  row : FRow W w.heap.size f
  box : W.heap[w.heap.size + 1]? = some (.cells #[.slice (some ⟨w.heap.size, 0, none⟩) L L] 25 (0, 0))
  below : Below w.heap.size w W
  mark : MarksAt Ds W
theorem MkI.own {w : World} {L : Nat} {f : List (BitVec 8)} {Ds : List Nat} {B : Nat} (hD : ∀ D, D ∈ Ds → D < B) (hB : w.heap.size ≤ B) {W W' : World} {row : Option Nat} (h : MkI w L f Ds W) (hg : W.grownBy W' row) (hr : ∀ r, row = some r → B ≤ r ∧ ∃ o : Obj, W.heap[r]? = some o ∧ o.isCells = false) : MkI w L f Ds W' := by
  have hr' := fun r e => (hr r e).2
  refine ⟨heap_own hg hr' h.row, heap_own hg hr' h.box, ownFrom_below (β := Unit) (Nat.le_refl _) hB () W W' row h.below hg hr, fun D hm => ?_⟩
  have hd := h.mark D hm
  refine (hg.block D (lt_of_heap hd) fun e => ?_).trans hd
  have := (hr D e.symm).1
  have := hD D hm
  omega
theorem MkI.set {w : World} {L : Nat} {f : List (BitVec 8)} {Ds : List Nat} {W : World} (h : MkI w L f Ds W) (i : Nat) (x : BitVec 8) : MkI w L (f.set i x) Ds (W.setCell ⟨w.heap.size, i, none⟩ (.int .u8 (x.toNat : Int))).drew := by
  have ho : ∀ b, b ≠ w.heap.size → (W.setCell ⟨w.heap.size, i, none⟩ (.int .u8 (x.toNat : Int))).heap[b]? = W.heap[b]? := fun b hb => heap_setCell_other _ _ _ _ (by exact hb)
  refine ⟨h.row.set i x, (ho _ (by omega)).trans h.box, (h.below.setCell (p := ⟨w.heap.size, i, none⟩) (Nat.le_refl _) _).drew, fun D hD => ?_⟩
  have hd := h.mark D hD
  exact (ho D (fun e => by rw [e, h.row] at hd; cases hd)).trans hd
set_option maxHeartbeats 8000000 in
theorem make_ok (a : Option Addr) (m c' : Nat) (ks : List (List (BitVec 8))) (c : Nat) (w : World) (hk : Keys w (.slice a m c') ks) (hw : ∀ x, x ∈ ks → x.length ≤ 1000000000) (h1 : 1 ≤ c) (h2 : c ≤ 64) (h : ks.length * c ≤ 8388608) :
    Calls Try.prog 7 #[.slice a m c', .int .i64 (c : Nat)] w fun e w' => e = .returned (.tuple #[.slice (some ⟨w.heap.size, 0, none⟩) (nBits ks.length c / 8 + 1) (nBits ks.length c / 8 + 1), .int .i64 0]) ∧ FRow w' w.heap.size (filt ks c) ∧ Below w.heap.size w w' := by
  have hm := hk.len
  have HM := hide hm
  have HK := hide hk
  have HW := hide hw
  have HB := hide (bits_ok ks.length c h1 h2 h)
  have hml : m ≤ 8388608 := by
    have := Nat.le_mul_of_pos_right ks.length (Nat.lt_of_lt_of_le Nat.zero_lt_one h1)
    omega
  have hN := nBits_pos ks.length c
  have hN2 := nBits_le ks.length c h
  have hk1 := kOf_bd c
  have HF := hide (show filt ks c = keyBits (nBits ks.length c) (kOf c) ks (zeros (nBits ks.length c / 8)) ++ [BitVec.ofNat 8 (kOf c)] from rfl)
  rw [← hm] at HB hN hN2 HF ⊢
  clear hk hw hm h
  generalize nBits m c = N at *
  generalize kOf c = k at *
  obtain ⟨hNl, hNm⟩ := hN
  have HNM := hide hNm
  obtain ⟨q, hq⟩ : ∃ q, N / 8 = q := ⟨_, rfl⟩
  have hq2 : q ≤ 1048576 := by omega
  have HQ := hide hq
  have hqi : (N : Int) / 8 = (q : Int) := by omega
  have hmk := make25 (q + 1) (by omega)
  rw [hq] at HF ⊢
  have hqq : ((q + 1 : Nat) : Int) = (q : Int) + 1 := by omega
  rw [hqq] at hmk
  clear hNm hq hqq
  refine (callsIn_wide (n := 7)).1 ?_
  refine callsIn_of_wp_marks Try.func7 rfl trivial ?_ rfl
  simp only [Try.ntmps7, List.size_toArray, List.length_cons, List.length_nil, Nat.reduceAdd, Nat.reduceSub, Array.replicate_succ, Array.replicate_zero, List.push_toArray, List.append_toArray, List.nil_append, List.cons_append]
  gi_wp2_with (refine ⟨trivial, ?_⟩; gi_at_call 6; refine (callsIn_wide.2 (HB.out _)).mono ?_; rintro e w1 ⟨rfl, hw1⟩; subst hw1)
  have HM0 : Hid (MkI w1 (q + 1) (zeros q ++ [0#8]) [] ((w1.alloc (.cells (cellsOf (zeros (q + 1))).toArray 5)).alloc (.cells #[.slice (some ⟨w1.heap.size, 0, none⟩) (q + 1) (q + 1)] 25))) := by
    refine hide ⟨?_, ?_, ((Below.refl _ _).alloc (Nat.le_refl _) _).alloc (by simp) _, fun D hD => by cases hD⟩
    · rw [show zeros q ++ [0#8] = zeros (q + 1) by simp [zeros, List.replicate_succ']]
      exact heap_keep ((Below.refl _ _).alloc (Nat.le_refl _) _) (heap_alloc_new w1 _)
    · have := heap_alloc_new (w1.alloc (.cells (cellsOf (zeros (q + 1))).toArray 5)) (.cells #[.slice (some ⟨w1.heap.size, 0, none⟩) (q + 1) (q + 1)] 25)
      rwa [World.size_alloc] at this
  clear hmk
  refine wpIn_loop (fun a' wr => ∃ (i : Nat) (Ds : List Nat) (u11 u31 u32 u33 u34 u35 u36 u37 u38 u50 : Value), i ≤ m ∧ MkI w1 (q + 1) (keyBits N k (ks.take i) (zeros q) ++ [0#8]) Ds wr ∧ Ds.Nodup ∧ (∀ D, D ∈ Ds → w1.heap.size ≤ D ∧ D < wr.heap.size) ∧ a' = { tmps := #[Value.slice a m c', Value.int IntKind.i64 (c : Nat), undef, undef, Value.slice none 0 0, Value.int IntKind.i64 0, Value.int IntKind.i64 (N : Nat), Value.int IntKind.i64 (k : Nat), Value.int IntKind.i64 0, Value.pointer (some ⟨w1.heap.size + 1, 0, none⟩), undef, u11, undef, Value.tuple #[Value.int IntKind.i64 (N : Nat), Value.int IntKind.i64 (k : Nat), Value.int IntKind.i64 0], Value.slice a m c', Value.int IntKind.i64 (m : Nat), Value.int IntKind.i64 (c : Nat), Value.tuple #[Value.int IntKind.i64 (N : Nat), Value.int IntKind.i64 (k : Nat), Value.int IntKind.i64 0], Value.int IntKind.i64 (N : Nat), Value.int IntKind.i64 (k : Nat), Value.int IntKind.i64 0, Value.int IntKind.i64 0, Value.bool false, undef, Value.int IntKind.i64 (N : Nat), Value.int IntKind.i64 (q : Nat), Value.int IntKind.i64 ((q : Nat) + 1), Value.slice (some ⟨w1.heap.size, 0, none⟩) (q + 1) (q + 1), Value.slice a m c', Value.int IntKind.i64 (m : Nat), Value.int IntKind.i64 (i : Nat), u31, u32, u33, u34, u35, u36, u37, u38, undef, undef, undef, undef, undef, undef, undef, undef, undef, undef, undef, u50, undef, undef, undef, undef, undef, undef, undef], defers := marks Ds }) (fun a' _ => m - (intOf (a'.tmps.getD 30 undef)).toNat) ?_ ?_
  · exact ⟨0, [], undef, undef, undef, undef, undef, undef, undef, undef, undef, undef, Nat.zero_le _, HM0.out, List.nodup_nil, fun D hD => (by cases hD), rfl⟩
  rintro a' wr ⟨i, Ds, u11, u31, u32, u33, u34, u35, u36, u37, u38, u50, hi, hI, hnd, hds, rfl⟩
  have HI := hide hI
  have HND := hide hnd
  have HDS := hide hds
  clear hI hnd hds HM0
  by_cases him : i < m
  · obtain ⟨x, hx⟩ : ∃ x, ks[i]? = some x := ⟨_, List.getElem?_eq_getElem (by have := HM.out; omega)⟩
    obtain ⟨b, off, ka, kc, ha, hcell, hB⟩ := (HK.out.below HI.out.below).at i x hx
    subst ha
    have hxl := HW.out x (List.mem_of_getElem? hx)
    have HH := hide (hash_any ka x.length kc x wr hB hxl)
    have hsz : w1.heap.size + 2 ≤ wr.heap.size := lt_of_heap HI.out.box
    have hKB : keyBits N k (ks.take (i + 1)) (zeros q) = setAll (keyBits N k (ks.take i) (zeros q)) (probes (hashB x).toNat N k) := by
      rw [← keyBits_snoc, List.take_add_one, hx]
      rfl
    have HKB := hide hKB
    have hvl := (hashB x).isLt
    have HFL := hide (show (keyBits N k (ks.take i) (zeros q)).length = q by rw [keyBits_length, zeros, List.length_replicate])
    generalize (hashB x).toNat = hv at *
    generalize keyBits N k (ks.take i) (zeros q) = f at *
    have HPL := hide (places_any hv N k wr)
    have HCN := hide (caught_new hv N k wr)
    generalize x.length = xl at *
    have i1 : (i : Int) < (m : Int) := by omega
    have i0 : (0 : Int) ≤ (i : Int) := by omega
    clear hx hB hKB
    gi_wp2_with (first
      | (refine ⟨trivial, ?_⟩; gi_at_call 17; refine (callsIn_wide.2 HH.out).mono ?_; rintro e w2 ⟨rfl, hw2⟩; subst hw2)
      | (refine ⟨trivial, ?_⟩; gi_at_call 24; refine (callsIn_wide.2 HPL.out).mono ?_; rintro e w3 ⟨rfl, hw3⟩; subst hw3))
    obtain ⟨W0, hW0⟩ : ∃ W0, ((w2.alloc (.cells #[.int .u64 (hv : Nat)] 31)).alloc (.cells #[.int .i64 (N : Nat)] 3)).alloc (.cells #[.int .i64 (k : Nat)] 3) = W0 := ⟨_, rfl⟩
    have hs0 : W0.heap.size = w2.heap.size + 3 := by rw [← hW0]; simp
    have hI0 : MkI w1 (q + 1) (f ++ [0#8]) Ds W0 := by
      rw [← hW0]
      have hd : ∀ D, D ∈ Ds → D < w2.heap.size := fun D hD => (HDS.out D hD).2
      have hle : w1.heap.size ≤ w2.heap.size := by omega
      exact ((HI.out.own hd hle (World.grownBy_alloc _ _ none) (fun r e => by cases e)).own hd hle (World.grownBy_alloc _ _ none) (fun r e => by cases e)).own hd hle (World.grownBy_alloc _ _ none) (fun r e => by cases e)
    rw [hW0] at HCN ⊢
    have HI0 := hide hI0
    clear hI0 hW0 HPL hcell HH
    refine wpIn_rangeFunc_ownH (w := W0) rfl (by decide) (gf := 28) (lb := #[.pointer (some ⟨w2.heap.size, 0, none⟩), .pointer (some ⟨w2.heap.size + 2, 0, none⟩), .pointer (some ⟨w2.heap.size + 1, 0, none⟩)]) rfl trivial (enters_of Try.func28 (by kernel_rfl) rfl)
      (places_stops 6 w2.heap.size hv N k (by decide) hvl (by omega) hN2 hk1.2 W0 HCN.out) Keep3.trans (fun W l o o' _ ho hc _ => Keep3.put W l o o' ho hc) (Below.refl _ _) (fun _ => rfl)
      (fun (pre : List (Fin N)) W => MkI w1 (q + 1) (setAll f (pre.map (·.val)) ++ [0#8]) Ds W)
      (fun _ _ _ => False)
      (fun s W W' row h hg hr => h.own (fun D hD => by have := (HDS.out D hD).2; omega) (by omega) hg hr)
      (fun _ _ _ _ _ h _ _ => h)
      HI0.out
      (fun (x : Fin N) a' _ => a' = { tmps := #[Value.slice (some ⟨b, off, none⟩) m c', Value.int IntKind.i64 (c : Nat), undef, undef, Value.slice none 0 0, Value.int IntKind.i64 0, Value.int IntKind.i64 (N : Nat), Value.int IntKind.i64 (k : Nat), Value.int IntKind.i64 0, Value.pointer (some ⟨w1.heap.size + 1, 0, none⟩), undef, Value.slice ka xl kc, Value.int IntKind.i64 (x.val : Nat), Value.tuple #[Value.int IntKind.i64 (N : Nat), Value.int IntKind.i64 (k : Nat), Value.int IntKind.i64 0], Value.slice (some ⟨b, off, none⟩) m c', Value.int IntKind.i64 (m : Nat), Value.int IntKind.i64 (c : Nat), Value.tuple #[Value.int IntKind.i64 (N : Nat), Value.int IntKind.i64 (k : Nat), Value.int IntKind.i64 0], Value.int IntKind.i64 (N : Nat), Value.int IntKind.i64 (k : Nat), Value.int IntKind.i64 0, Value.int IntKind.i64 0, Value.bool false, undef, Value.int IntKind.i64 (N : Nat), Value.int IntKind.i64 (q : Nat), Value.int IntKind.i64 ((q : Nat) + 1), Value.slice (some ⟨w1.heap.size, 0, none⟩) (q + 1) (q + 1), Value.slice (some ⟨b, off, none⟩) m c', Value.int IntKind.i64 (m : Nat), Value.int IntKind.i64 (i : Nat), Value.bool true, Value.pointer (some ⟨b, off + i, none⟩), Value.slice ka xl kc, Value.slice ka xl kc, Value.int IntKind.u64 (hv : Nat), Value.int IntKind.i64 (N : Nat), Value.int IntKind.i64 (k : Nat), Value.func (Fn.func 28) #[] #[Value.pointer (some ⟨w2.heap.size, 0, none⟩), Value.pointer (some ⟨w2.heap.size + 2, 0, none⟩), Value.pointer (some ⟨w2.heap.size + 1, 0, none⟩)], Value.int IntKind.i64 (x.val : Nat), undef, undef, undef, undef, undef, undef, undef, undef, undef, undef, u50, undef, undef, undef, undef, undef, undef, undef], defers := [] })
      (fun _ _ _ _ _ _ h _ _ => h) ?assign ?body ?done ?stop
    case assign =>
      rintro l pre x W K hI hK
      gi_wp2
      exact hK _ _ ((KeepsOthers.refl _).from _) (fun _ _ _ _ _ _ e => e) hI rfl
    case body =>
      rintro l pre x a' W hl ⟨r, hr⟩ hI rfl hlt
      have HIW := hide hI
      have s1 : W.drew.cell? ⟨w1.heap.size + 1, 0, none⟩ = some (.slice (some ⟨w1.heap.size, 0, none⟩) (q + 1) (q + 1)) := cell_of_row W _ 0 _ 25 (0, 0) hI.box
      have hxN := x.isLt
      have HSA : Hid (setAll f ((pre ++ [x]).map (·.val)) = setB (setAll f (pre.map (·.val))) x.val) := hide (by rw [List.map_append, List.map_singleton, setAll_snoc])
      have HFL2 : Hid ((setAll f (pre.map (·.val))).length = q) := hide (by rw [setAll_length]; exact HFL.out)
      generalize hxp : x.val = p at *
      generalize setAll f (pre.map (·.val)) = fp at *
      obtain ⟨pb, hpb⟩ : ∃ pb, p / 8 = pb := ⟨_, rfl⟩
      obtain ⟨pm, hpm⟩ : ∃ pm, p % 8 = pm := ⟨_, rfl⟩
      have hpl : pb < q := by have := HQ.out; have := HNM.out; omega
      have hpm8 : pm < 8 := by omega
      have s2 : W.drew.cell? ⟨w1.heap.size, pb, none⟩ = some (.int .u8 (((fp ++ [0#8]).getD pb 0).toNat : Int)) := hI.row.cell pb (by rw [List.length_append, HFL2.out]; omega)
      have s3 : W.drew.frozen? ⟨w1.heap.size, pb, none⟩ = false := hI.row.frozen pb
      have HO : Hid ((fp ++ [0#8]).getD pb 0 = fp.getD pb 0) := hide (getD_app _ _ (by rw [HFL2.out]; exact hpl))
      rw [HO.out] at s2
      have HPB := hide hpb
      have HPM := hide hpm
      have e1 : (p : Int) / 8 = (pb : Int) := by omega
      have e2 : (p : Int) % 8 = (pm : Int) := by omega
      have j0 : (0 : Int) ≤ (pb : Int) := by omega
      have j1 : (pb : Int) < (q : Int) + 1 := by omega
      generalize hold : fp.getD pb 0 = old at *
      obtain ⟨sh, hsh⟩ : ∃ sh, 1#8 <<< pm = sh := ⟨_, rfl⟩
      obtain ⟨nw, hnw⟩ : ∃ nw, old ||| sh = nw := ⟨_, rfl⟩
      have HQ6 : Hid ((p : Int).tmod 8 = (pm : Int)) := hide (by rw [Int.tmod_eq_emod_of_nonneg (by omega)]; exact e2)
      have HQ7 : Hid (IntKind.u8.wrap (2 ^ pm) = (sh.toNat : Int)) := hide (by rw [← hsh]; exact shl_b pm hpm8)
      have HQ8 : Hid (bits BinOp.or IntKind.u8 (old.toNat : Int) (sh.toNat : Int) = (nw.toNat : Int)) := hide (by rw [← hnw]; exact or_b old sh)
      have HSB : Hid (setB fp p ++ [0#8] = (fp ++ [0#8]).set pb nw) := hide (by rw [List.set_append_left _ _ (by rw [HFL2.out]; exact hpl), ← hnw, ← hsh, ← hold]; unfold setB; rw [HPB.out, HPM.out])
      clear hsh hnw
      have HOLD := hide hold
      clear hI hpb hpm hxp hold
      gi_wp2
      refine region_round (S := fun w' => w'.cell? ⟨w1.heap.size + 1, 0, none⟩ = some (.slice (some ⟨w1.heap.size, 0, none⟩) (q + 1) (q + 1))) (by kernel_rfl) (by kernel_rfl) ?_
      change wpAnyH _ _ _ _ _ 11 (Array.replicate 11 false) _ _
      refine wpAnyH_take (i := 0) (oi := ⟨some 40, .load 25 (.tmp 9), 25, "bloom.go:51", #[], none⟩) (v := .slice (some ⟨w1.heap.size, 0, none⟩) (q + 1) (q + 1)) rfl (by kernel_rfl) (by kernel_rfl) (by kernel_rfl) (fun _ _ _ h => by cases h.1) (Or.inl ⟨by rfl, ?_⟩) s1 ?_
      · intro w c1
        go_simp
      simp only [Act.put, List.setIfInBounds_toArray, List.set_cons_zero, List.set_cons_succ]
      refine wpAnyH_take (i := 1) (oi := ⟨some 41, .move (.tmp 12), 3, "bloom.go:51", #[], none⟩) (v := .int .i64 (p : Nat)) rfl (by kernel_rfl) (by kernel_rfl) (by kernel_rfl) (fun _ _ _ h => by cases h.1) (Or.inl ⟨by rfl, ?_⟩) s1 ?_
      · intro w c1
        go_simp
      simp only [Act.put, List.setIfInBounds_toArray, List.set_cons_zero, List.set_cons_succ]
      refine wpAnyH_take (i := 2) (oi := ⟨some 42, .binOp .quo 3 (.tmp 41) (.const (.int .i64 8)) 3, 3, "bloom.go:51", #[⟨1, .data⟩], none⟩) (v := .int .i64 (pb : Nat)) rfl (by kernel_rfl) (by kernel_rfl) (by kernel_rfl) (fun _ _ _ h => by cases h.1) (Or.inl ⟨by rfl, ?_⟩) s1 ?_
      · intro w c1
        go_simp
        exact wrap_i pb (by omega)
      simp only [Act.put, List.setIfInBounds_toArray, List.set_cons_zero, List.set_cons_succ]
      refine wpAnyH_take (i := 3) (oi := ⟨some 43, .indexAddr 25 (.tmp 40) (.tmp 42), 0, "bloom.go:51", #[⟨0, .data⟩, ⟨2, .data⟩], none⟩) (v := .pointer (some ⟨w1.heap.size, pb, none⟩)) rfl (by kernel_rfl) (by kernel_rfl) (by kernel_rfl) (fun _ _ _ h => by cases h.1) (Or.inl ⟨by rfl, ?_⟩) s1 ?_
      · intro w c1
        go_simp
      simp only [Act.put, List.setIfInBounds_toArray, List.set_cons_zero, List.set_cons_succ]
      refine wpAnyH_take (i := 5) (oi := ⟨some 45, .move (.tmp 12), 3, "bloom.go:51", #[], none⟩) (v := .int .i64 (p : Nat)) rfl (by kernel_rfl) (by kernel_rfl) (by kernel_rfl) (fun _ _ _ h => by cases h.1) (Or.inl ⟨by rfl, ?_⟩) s1 ?_
      · intro w c1
        go_simp
      simp only [Act.put, List.setIfInBounds_toArray, List.set_cons_zero, List.set_cons_succ]
      refine wpAnyH_take (i := 6) (oi := ⟨some 46, .binOp .rem 3 (.tmp 45) (.const (.int .i64 8)) 3, 3, "bloom.go:51", #[⟨5, .data⟩], none⟩) (v := .int .i64 (pm : Nat)) rfl (by kernel_rfl) (by kernel_rfl) (by kernel_rfl) (fun _ _ _ h => by cases h.1) (Or.inl ⟨by rfl, ?_⟩) s1 ?_
      · intro w c1
        go_simp
        exact HQ6.out
      simp only [Act.put, List.setIfInBounds_toArray, List.set_cons_zero, List.set_cons_succ]
      refine wpAnyH_take (i := 7) (oi := ⟨some 47, .binOp .shl 5 (.const (.int .u8 1)) (.tmp 46) 3, 5, "bloom.go:51", #[⟨6, .data⟩], none⟩) (v := .int .u8 (sh.toNat : Int)) rfl (by kernel_rfl) (by kernel_rfl) (by kernel_rfl) (fun _ _ _ h => by cases h.1) (Or.inl ⟨by rfl, ?_⟩) s1 ?_
      · intro w c1
        go_simp
        exact HQ7.out
      simp only [Act.put, List.setIfInBounds_toArray, List.set_cons_zero, List.set_cons_succ]
      have hq8 := HQ8.out
      have wpb := wrap_i pb (by omega)
      refine wpAnyH_ready (rs := [4]) (by kernel_rfl) (by simp) ?_
      refine AllReadyH.cons rfl (fun K hK => ?_) AllReadyH.nil
      go_simp
      refine hK.out _ _ s1 (fun _ => ?_)
      clear hK K
      refine wpAnyH_ready (rs := [8]) (by kernel_rfl) (by simp) ?_
      refine AllReadyH.cons rfl (fun K hK => ?_) AllReadyH.nil
      go_simp
      refine hK.out _ _ s1 (fun _ => ?_)
      clear hK K
      refine wpAnyH_ready (rs := [9]) (by kernel_rfl) (by simp) ?_
      refine AllReadyH.cons rfl (fun K hK => ?_) AllReadyH.nil
      go_simp
      refine hK.out _ _ s1 (fun _ => ?_)
      clear hK K
      refine wpAnyH_ready (rs := [10]) (by kernel_rfl) (by simp) ?_
      refine AllReadyH.cons rfl (fun K hK => ?_) AllReadyH.nil
      go_simp
      have hI2 := HIW.out.set pb nw
      refine hK.out _ _ (cell_of_row _ _ 0 _ 25 (0, 0) hI2.box) (fun _ => wpAnyH_done (by kernel_rfl) ⟨rfl, ?_⟩ _)
      refine ⟨((KeepsOthers.setCell W ⟨w1.heap.size, pb, none⟩ _).trans (KeepsOthers.drew _)).from _, ?_, ?_⟩
      · intro b' h1 h2 cs t fr e
        exact (heap_setCell_other _ _ _ _ (by show ¬ b' = w1.heap.size; omega)).trans e
      · show MkI w1 (q + 1) (setAll f (List.map (fun x => x.val) (pre ++ [x])) ++ [0#8]) Ds _
        rw [HSA.out, HSB.out]
        exact hI2
    case done =>
      rintro D xs W hD rfl hI hK
      rw [probesF_val, ← HKB.out] at hI
      have HIW := hide hI
      have HK2 := hide hK
      clear hI hK
      gi_wp2
      have hDl := lt_of_heap HK2.out
      refine ⟨⟨i + 1, D :: Ds, _, _, _, _, _, _, _, _, _, _, by omega, ⟨HIW.out.row, HIW.out.box, HIW.out.below, fun D' hD' => ?_⟩, List.nodup_cons.2 ⟨fun hm => ?_, HND.out⟩, fun D' hD' => ?_, rfl⟩, ?_⟩
      · rcases List.mem_cons.1 hD' with rfl | hD'
        · exact HK2.out
        · exact HIW.out.mark D' hD'
      · have := (HDS.out D hm).2
        omega
      · rcases List.mem_cons.1 hD' with rfl | hD'
        · exact ⟨by omega, hDl⟩
        · exact ⟨(HDS.out D' hD').1, lt_of_heap (HIW.out.mark D' hD')⟩
      · show m - ((i : Int) + 1).toNat < m - ((i : Nat) : Int).toNat
        omega
    case stop =>
      rintro D c pre W _ _ h _
      exact h.elim
  · obtain rfl : i = m := by omega
    have HT := hide (show ks.take i = ks from List.take_of_length_le (by have := HM.out; omega))
    rw [HT.out] at HI
    have HFL := hide (show (keyBits N k ks (zeros q)).length = q by rw [keyBits_length, zeros, List.length_replicate])
    generalize keyBits N k ks (zeros q) = f at *
    have s1 : wr.cell? ⟨w1.heap.size + 1, 0, none⟩ = some (.slice (some ⟨w1.heap.size, 0, none⟩) (q + 1) (q + 1)) := cell_of_row wr _ 0 _ 25 (0, 0) HI.out.box
    have s2 : wr.cell? ⟨w1.heap.size, q, none⟩ = some (.int .u8 (((f ++ [0#8]).getD q 0).toNat : Int)) := HI.out.row.cell q (by rw [List.length_append, HFL.out]; exact Nat.lt_succ_self q)
    have s3 : wr.frozen? ⟨w1.heap.size, q, none⟩ = false := HI.out.row.frozen q
    have hne : w1.heap.size + 1 ≠ w1.heap.size := by omega
    have j1 : (q : Int) < (q : Int) + 1 := by omega
    have j0 : (0 : Int) ≤ (q : Int) := by omega
    obtain ⟨hk2, hk3⟩ := hk1
    have HKW := hide (show ((BitVec.ofNat 8 k).toNat : Int) = (k : Int) by rw [BitVec.toNat_ofNat]; omega)
    gi_wp2
    have hI3 := HI.out.set q (BitVec.ofNat 8 k)
    rw [HKW.out, List.set_append_right _ _ (by rw [HFL.out]; exact Nat.le_refl _), HFL.out, Nat.sub_self] at hI3
    refine leaves_marks w1.heap.size Ds _ HND.out (fun D hD => (HDS.out D hD).1) (fun D hD => hI3.mark D hD) (fun w' hb hc => ⟨.tuple #[.slice (some ⟨w1.heap.size, 0, none⟩) (q + 1) (q + 1), .int .i64 0], by simp [results, Try.results7, go_sem], rfl, ?_, hI3.below.trans ⟨hb.os, hb.tape, hb.output, hb.size, hb.block⟩⟩)
    rw [HF.out]
    exact hc _ _ _ _ hI3.row
theorem make_bad (a : Option Addr) (m c' : Nat) (c : Int) (w : World) (h : c < 1 ∨ 64 < c) :
    Calls Try.prog 7 #[.slice a m c', .int .i64 c] w fun e w' => e = .returned (.tuple #[.slice none 0 0, .int .i64 2]) ∧ w' = w := by
  have HB := hide (bits_arg m c (.inr h))
  clear h
  go_enter Try.func7, Try.ntmps7
  go_wp2_with (go_at_call 6; refine (HB.out _).mono ?_; rintro e w1 ⟨rfl, rfl⟩)
  go_ret2
  exact ⟨rfl, rfl⟩
end Go.Proofs.Ytppikddjdjmakaa
