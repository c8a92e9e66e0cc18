/-
  Has: whether a key may be one of a filter's.
-/
import Derived.Test.YtppikddjdjmakaaMk
namespace Go.Proofs.Ytppikddjdjmakaa
open Go.RowKit Go.Shelf
set_option maxRecDepth 100000
set_option maxHeartbeats 4000000
attribute [local go_sem] Oper.semAt_some
/-- What lies in memory while a filter is asked. -/
structure HsI (w : World) (v : Value) (r : Bool) (W : World) : Prop where
  box : W.heap[w.heap.size]? = some (.cells #[v] 25 (0, 0))
  res : W.heap[w.heap.size + 1]? = some (.cells #[.bool r] 4 (0, 0))
  below : Below w.heap.size w W
theorem HsI.own {w : World} {v : Value} {r : Bool} {B : Nat} (hB : w.heap.size ≤ B) {W W' : World} {row : Option Nat} (h : HsI w v r W) (hg : W.grownBy W' row) (hr : ∀ r, row = some r → B ≤ r ∧ ∃ o : Obj, W.heap[r]? = some o ∧ o.isCells = false) : HsI w v r W' := by
  have hr' := fun r e => (hr r e).2
  exact ⟨heap_own hg hr' h.box, heap_own hg hr' h.res, ownFrom_below (β := Unit) (Nat.le_refl _) hB () W W' row h.below hg hr⟩
theorem HsI.set {w : World} {v : Value} {r : Bool} {W : World} (h : HsI w v r W) (r' : Bool) : HsI w v r' (W.setCell ⟨w.heap.size + 1, 0, none⟩ (.bool r')) := by
  refine ⟨(heap_setCell_other _ _ _ _ (by show w.heap.size ≠ w.heap.size + 1; omega)).trans h.box, ?_, h.below.setCell (p := ⟨w.heap.size + 1, 0, none⟩) (by show w.heap.size ≤ w.heap.size + 1; omega) _⟩
  have := heap_setCell_same W (w.heap.size + 1) 0 _ 4 (.bool r') h.res
  exact this
theorem hsI_new (w : World) (v : Value) (r : Bool) : HsI w v r ((w.alloc (.cells #[v] 25)).alloc (.cells #[.bool r] 4)) := by
  refine ⟨heap_keep ((Below.refl _ _).alloc (Nat.le_refl _) _) (heap_alloc_new w _), ?_, ((Below.refl _ _).alloc (Nat.le_refl _) _).alloc (by simp) _⟩
  have := heap_alloc_new (w.alloc (.cells #[v] 25)) (.cells #[.bool r] 4)
  rwa [World.size_alloc] at this
/-- The end: the answer is read out of its cell. -/
theorem hs_end {w : World} {v : Value} {r : Bool} {W : World} {tmps : Array Value} {b : Bool} (Ds : List Nat) (h : HsI w v r W) (ht : tmps[4]? = some (.pointer (some ⟨w.heap.size + 1, 0, none⟩))) (hnd : Ds.Nodup) (hds : ∀ D, D ∈ Ds → w.heap.size ≤ D) (hm : MarksAt Ds W) (hb : r = b) :
    LeavesInM Fence.wide 5 Try.prog Try.f9 tmps (fun e w' => e = .returned (.bool b) ∧ Below w.heap.size w w') (marks Ds) .returning W := by
  subst hb
  refine leaves_marks w.heap.size Ds W hnd hds hm (fun w' hb hc => ⟨.bool r, ?_, rfl, h.below.trans hb⟩)
  have hcell : w'.cell? ⟨w.heap.size + 1, 0, none⟩ = some (.bool r) := cell_of_row w' _ 0 _ 4 (0, 0) (hc _ _ _ _ h.res)
  simp [results, Try.results9, go_sem, ht, hcell]
theorem has_short (a ka : Option Addr) (n c kn kc : Nat) (w : World) (h : n < 2 ∨ 1048577 < n) :
    Calls Try.prog 9 #[.slice a n c, .slice ka kn kc] w fun e w' => e = .returned (.bool true) ∧ Below w.heap.size w w' := by
  have HN := hide (hsI_new w (.slice a n c) true)
  refine (callsIn_wide (n := 5)).1 ?_
  refine callsIn_of_wp_marks Try.func9 rfl trivial ?_ rfl
  simp only [Try.ntmps9, List.size_toArray, List.length_cons, List.length_nil, Nat.reduceAdd, Nat.reduceSub, Array.replicate_succ, Array.replicate_zero, List.push_toArray, List.append_toArray, List.nil_append, List.cons_append]
  by_cases h2 : n < 2
  · have h2' : (n : Int) < 2 := by omega
    clear h
    gi_wp2
    exact hs_end [] HN.out rfl List.nodup_nil (fun D hD => (by cases hD)) (fun D hD => (by cases hD)) rfl
  · have h3 : 1048577 < (n : Int) := by omega
    have h2' : ¬ (n : Int) < 2 := by omega
    clear h
    gi_wp2
    exact hs_end [] HN.out rfl List.nodup_nil (fun D hD => (by cases hD)) (fun D hD => (by cases hD)) rfl
theorem and_b (x y : BitVec 8) : bits .and .u8 (x.toNat : Int) (y.toNat : Int) = ((x &&& y).toNat : Int) := by
  show IntKind.u8.wrap ((BitVec.ofInt 8 (x.toNat : Int) &&& BitVec.ofInt 8 (y.toNat : Int)).toNat : Int) = _
  rw [ofInt_b, ofInt_b, wrap_b]
theorem bit_q (x : BitVec 8) (n : Nat) : bits BinOp.and IntKind.u8 ((x.toNat : Int) / 2 ^ n) 1 = if x.getLsbD n then 1 else 0 := by
  have e := and_b (x >>> n) 1#8
  have e2 : ((x.toNat : Int) / 2 ^ n) = ((x >>> n).toNat : Int) := by
    rw [BitVec.toNat_ushiftRight, Nat.shiftRight_eq_div_pow, Int.natCast_ediv]
    norm_cast
  rw [e2, show (1 : Int) = ((1#8).toNat : Int) from rfl, e, BitVec.toNat_and, BitVec.toNat_ushiftRight]
  show ((x.toNat >>> n &&& 1 : Nat) : Int) = _
  rw [Nat.and_one_is_mod, BitVec.getLsbD, Nat.testBit]
  rw [Nat.and_comm, Nat.and_one_is_mod]
  have : x.toNat >>> n % 2 = 0 ∨ x.toNat >>> n % 2 = 1 := by omega
  rcases this with h | h <;> rw [h] <;> rfl
theorem has_loop (b off c s kn kc : Nat) (ka : Option Addr) (f key : List (BitVec 8)) (w : World) (hf : Bytes w (.slice (some ⟨b, off, none⟩) (s + 1) c) f) (hk : Bytes w (.slice ka kn kc) key) (hkn : kn ≤ 1000000000) (h1 : 1 ≤ s) (h2 : s ≤ 1048576) :
    Calls Try.prog 9 #[.slice (some ⟨b, off, none⟩) (s + 1) c, .slice ka kn kc] w fun e w' => e = .returned (.bool (hasB f key)) ∧ Below w.heap.size w w' := by
  have hl := hf.len
  have HF := hide hf
  have HH := hide (fun (W : World) (hb : Below w.heap.size w W) => hash_any ka kn kc key W (hk.below hb) hkn)
  have hkc : w.cell? ⟨b, off + s, none⟩ = some (.int .u8 ((f.getD s 0).toNat : Int)) := hf.at s (by omega)
  have HV : Hid (hasB f key = (decide ((f.getD s 0).toNat < 1) || decide (30 < (f.getD s 0).toNat) || (probes (hashB key).toNat (s * 8) (f.getD s 0).toNat).all (bitOf f))) := hide (by
    have e1 : decide (f.length < 2) = false := decide_eq_false (by omega)
    have e2 : decide (1048577 < f.length) = false := decide_eq_false (by omega)
    unfold hasB lastB
    rw [e1, e2, ← hl, Nat.add_sub_cancel]
    rfl)
  have hvl := (hashB key).isLt
  generalize (hashB key).toNat = hv at *
  have hkb := (f.getD s 0).isLt
  generalize (f.getD s 0).toNat = k at *
  have HL := hide hl
  obtain ⟨N, hN⟩ : ∃ N, s * 8 = N := ⟨_, rfl⟩
  have hN8 : (s : Int) * 8 = (N : Int) := by omega
  rw [hN] at HV
  have HNS := hide hN
  have hbw := block_lt_of_cell hkc
  have HN := hide (hsI_new w (.slice (some ⟨b, off, none⟩) (s + 1) c) false)
  have HN1 := hide (hsI_new w (.slice (some ⟨b, off, none⟩) (s + 1) c) true)
  have s1 : ((w.alloc (.cells #[.slice (some ⟨b, off, none⟩) (s + 1) c] 25)).alloc (.cells #[.bool false] 4)).cell? ⟨b, off + s, none⟩ = some (.int .u8 (k : Int)) := (HN.out.below.cell (p := ⟨b, off + s, none⟩) hbw).trans hkc
  have n1 : ¬ ((s : Int) + 1 < 2) := by omega
  have n2 : ¬ (1048577 < (s : Int) + 1) := by omega
  have i1 : (s : Int) < (s : Int) + 1 := by omega
  clear hf hk hl hN hkc
  refine (callsIn_wide (n := 5)).1 ?_
  refine callsIn_of_wp_marks Try.func9 rfl trivial ?_ rfl
  simp only [Try.ntmps9, List.size_toArray, List.length_cons, List.length_nil, Nat.reduceAdd, Nat.reduceSub, Array.replicate_succ, Array.replicate_zero, List.push_toArray, List.append_toArray, List.nil_append, List.cons_append]
  by_cases hm : mayB (k : Int) = true
  · have hk1 : 1 ≤ k ∧ k ≤ 30 := by
      unfold mayB at hm
      have := of_decide_eq_true hm
      omega
    gi_wp2_with (first
      | (refine ⟨trivial, ?_⟩; gi_at_call 25; refine (callsIn_wide.2 (mayProbe_any _ _)).mono ?_; rintro e w1 ⟨rfl, hw1⟩; subst hw1; rw [hm])
      | (refine ⟨trivial, ?_⟩; gi_at_call 17; refine (callsIn_wide.2 (HH.out _ HN.out.below)).mono ?_; rintro e w2 ⟨rfl, hw2⟩; subst hw2)
      | (refine ⟨trivial, ?_⟩; gi_at_call 24; refine (callsIn_wide.2 (places_any hv N k _)).mono ?_; rintro e w3 ⟨rfl, hw3⟩; subst hw3))
    have HCN := hide (caught_new hv N k ((w.alloc (.cells #[.slice (some ⟨b, off, none⟩) (s + 1) c] 25)).alloc (.cells #[.bool false] 4)))
    rw [show ((w.alloc (.cells #[.slice (some ⟨b, off, none⟩) (s + 1) c] 25)).alloc (.cells #[.bool false] 4)).heap.size = w.heap.size + 1 + 1 by simp] at HCN
    have hI0 := (((HN.out.own (Nat.le_refl _) (World.grownBy_alloc _ (.cells #[.int .u64 (hv : Nat)] 31) none) (fun r e => by cases e)).own (Nat.le_refl _) (World.grownBy_alloc _ (.cells #[.int .i64 (N : Nat)] 3) none) (fun r e => by cases e)).own (Nat.le_refl _) (World.grownBy_alloc _ (.cells #[.int .i64 (k : Nat)] 3) none) (fun r e => by cases e))
    have hs0 : (((((w.alloc (.cells #[.slice (some ⟨b, off, none⟩) (s + 1) c] 25)).alloc (.cells #[.bool false] 4)).alloc (.cells #[.int .u64 (hv : Nat)] 31)).alloc (.cells #[.int .i64 (N : Nat)] 3)).alloc (.cells #[.int .i64 (k : Nat)] 3)).heap.size = w.heap.size + 5 := by simp
    generalize (((((w.alloc (.cells #[.slice (some ⟨b, off, none⟩) (s + 1) c] 25)).alloc (.cells #[.bool false] 4)).alloc (.cells #[.int .u64 (hv : Nat)] 31)).alloc (.cells #[.int .i64 (N : Nat)] 3)).alloc (.cells #[.int .i64 (k : Nat)] 3)) = W0 at *
    have HI0 := hide hI0
    have hN1 : 1 ≤ N := by have := HNS.out; omega
    have hN2 : N ≤ 8388608 := by have := HNS.out; omega
    clear hI0 s1 HN HN1
    refine wpIn_rangeFunc_ownH (w := W0) rfl (by decide) (gf := 28) (lb := #[.pointer (some ⟨w.heap.size + 1 + 1, 0, none⟩), .pointer (some ⟨w.heap.size + 1 + 1 + 2, 0, none⟩), .pointer (some ⟨w.heap.size + 1 + 1 + 1, 0, none⟩)]) rfl trivial (enters_of Try.func28 (by kernel_rfl) rfl)
      (places_stops 4 (w.heap.size + 1 + 1) hv N k (by decide) hvl hN1 hN2 hk1.2 W0 HCN.out) Keep3.trans (fun W l o o' _ ho hc _ => Keep3.put W l o o' ho hc) (Below.refl _ _) (fun _ => rfl)
      (fun (pre : List (Fin N)) W => HsI w (.slice (some ⟨b, off, none⟩) (s + 1) c) false W ∧ ∀ x, x ∈ pre → bitOf f x.val = true)
      (fun cd (pre : List (Fin N)) W => cd = .ret ∧ HsI w (.slice (some ⟨b, off, none⟩) (s + 1) c) false W ∧ ∃ x, x ∈ pre ∧ bitOf f x.val = false)
      (fun _ W W' row h hg hr => ⟨h.1.own (by omega) hg hr, h.2⟩)
      (fun _ _ W W' row h hg hr => ⟨h.1, h.2.1.own (by omega) hg hr, h.2.2⟩)
      ⟨HI0.out, fun x hx => by cases hx⟩
      (fun (x : Fin N) a' _ => a' = { tmps := #[Value.slice (some ⟨b, off, none⟩) (s + 1) c, Value.slice ka kn kc, Value.pointer (some ⟨w.heap.size, 0, none⟩), undef, Value.pointer (some ⟨w.heap.size + 1, 0, none⟩), Value.int IntKind.i64 (s : Nat), Value.int IntKind.i64 (k : Nat), Value.int IntKind.i64 (x.val : Nat), Value.slice (some ⟨b, off, none⟩) (s + 1) c, Value.int IntKind.i64 ((s : Nat) + 1), Value.bool false, Value.bool false, Value.slice (some ⟨b, off, none⟩) (s + 1) c, Value.int IntKind.i64 ((s : Nat) + 1), Value.bool false, Value.bool false, Value.slice (some ⟨b, off, none⟩) (s + 1) c, Value.int IntKind.i64 ((s : Nat) + 1), Value.int IntKind.i64 (s : Nat), Value.slice (some ⟨b, off, none⟩) (s + 1) c, Value.int IntKind.i64 (s : Nat), Value.pointer (some ⟨b, off + s, none⟩), Value.int IntKind.u8 (k : Nat), Value.int IntKind.i64 (k : Nat), Value.int IntKind.i64 (k : Nat), Value.bool true, Value.bool false, Value.slice ka kn kc, Value.int IntKind.u64 (hv : Nat), Value.int IntKind.i64 (s : Nat), Value.int IntKind.i64 (N : Nat), Value.int IntKind.i64 (k : Nat), Value.func (Fn.func 28) #[] #[Value.pointer (some ⟨w.heap.size + 1 + 1, 0, none⟩), Value.pointer (some ⟨w.heap.size + 1 + 1 + 2, 0, none⟩), Value.pointer (some ⟨w.heap.size + 1 + 1 + 1, 0, none⟩)], Value.int IntKind.i64 (x.val : Nat), undef, undef, undef, undef, undef, undef, undef, undef, undef, undef], defers := [] })
      (fun _ _ _ _ _ _ h _ _ => h) ?assign ?body ?done ?stop
    case assign =>
      rintro l pre x W K hI hK
      gi_wp2
      exact hK _ _ ((KeepsOthers.refl _).from _) (fun _ _ _ _ _ _ e => e) hI rfl
    case body =>
      rintro l pre x a' W hl ⟨r, hr⟩ ⟨hI, hall⟩ rfl hlt
      have HIW := hide hI
      have HALL := hide hall
      have c1 : W.cell? ⟨w.heap.size, 0, none⟩ = some (.slice (some ⟨b, off, none⟩) (s + 1) c) := cell_of_row W _ 0 _ 25 (0, 0) hI.box
      have c2 : W.cell? ⟨w.heap.size + 1, 0, none⟩ = some (.bool false) := cell_of_row W _ 0 _ 4 (0, 0) hI.res
      have z2 : W.frozen? ⟨w.heap.size + 1, 0, none⟩ = false := frozen_of_row W _ 0 _ 4 hI.res
      have hxN := x.isLt
      have hpl : x.val / 8 < s := by have := HNS.out; omega
      have c3 : W.cell? ⟨b, off + x.val / 8, none⟩ = some (.int .u8 ((f.getD (x.val / 8) 0).toNat : Int)) := (hI.below.cell (p := ⟨b, off + x.val / 8, none⟩) hbw).trans (HF.out.at (x.val / 8) (by have := HL.out; omega))
      have HBX : Hid (bitOf f x.val = (f.getD (x.val / 8) 0).getLsbD (x.val % 8)) := hide rfl
      have hq := bit_q (f.getD (x.val / 8) 0) (x.val % 8)
      obtain ⟨pb, hpb⟩ : ∃ pb, x.val / 8 = pb := ⟨_, rfl⟩
      obtain ⟨pm, hpm⟩ : ∃ pm, x.val % 8 = pm := ⟨_, rfl⟩
      have hpm8 : pm < 8 := by omega
      rw [hpb] at c3 hq hpl HBX
      rw [hpm] at hq HBX
      have e1 : (x.val : Int) / 8 = (pb : Int) := by omega
      have e2 : (x.val : Int) % 8 = (pm : Int) := by omega
      have j0 : (0 : Int) ≤ (pb : Int) := by omega
      have j1 : (pb : Int) < (s : Int) + 1 := by omega
      have ho := (f.getD pb 0).isLt
      by_cases hbit : (f.getD pb 0).getLsbD pm = true
      · rw [hbit, if_pos rfl] at hq
        have HB2 := hide (HBX.out.trans hbit)
        clear hbit hI hall hpb hpm HBX
        generalize (f.getD pb 0).toNat = old at *
        gi_wp2
        refine ⟨(KeepsOthers.refl _).from _, fun _ _ _ _ _ _ e => e, HIW.out, fun y hy => ?_⟩
        rcases List.mem_append.1 hy with hy | hy
        · exact HALL.out y hy
        · obtain rfl := List.mem_singleton.1 hy
          exact HB2.out
      · rw [if_neg hbit] at hq
        have HB2 := hide (HBX.out.trans (Bool.eq_false_iff.2 hbit))
        clear hbit hI hall hpb hpm HBX
        generalize (f.getD pb 0).toNat = old at *
        gi_wp2
        exact ⟨(KeepsOthers.setCell _ _ _).from _, rfl, HIW.out.set false, x, by simp, HB2.out⟩
    case done =>
      rintro D xs W hD rfl ⟨hI, hall⟩ hK
      have HIW := hide hI
      have HK2 := hide hK
      have HALL := hide hall
      have c2 : W.cell? ⟨w.heap.size + 1, 0, none⟩ = some (.bool false) := cell_of_row W _ 0 _ 4 (0, 0) hI.res
      have z2 : W.frozen? ⟨w.heap.size + 1, 0, none⟩ = false := frozen_of_row W _ 0 _ 4 hI.res
      clear hI hK hall
      gi_wp2
      refine hs_end [D] (HIW.out.set true) rfl (List.nodup_cons.2 ⟨fun h => (by cases h), List.nodup_nil⟩) (fun D' h => by obtain rfl := List.mem_singleton.1 h; omega) (fun D' h => ?_) ?_
      · obtain rfl := List.mem_singleton.1 h
        exact (heap_setCell_other _ _ _ _ (by show D' ≠ w.heap.size + 1; omega)).trans HK2.out
      · rw [HV.out]
        symm
        rw [Bool.or_eq_true]
        right
        rw [List.all_eq_true, ← probesF_val hv hN1 k]
        intro y hy
        obtain ⟨z, hz, rfl⟩ := List.mem_map.1 hy
        exact HALL.out z hz
    case stop =>
      rintro D cd pre W hD hpre ⟨rfl, hI, x, hx, hbx⟩ hK
      have HIW := hide hI
      have HK2 := hide hK
      clear hI hK
      gi_wp2
      refine hs_end [D] HIW.out rfl (List.nodup_cons.2 ⟨fun h => (by cases h), List.nodup_nil⟩) (fun D' h => by obtain rfl := List.mem_singleton.1 h; omega) (fun D' h => ?_) ?_
      · obtain rfl := List.mem_singleton.1 h
        exact HK2.out
      · rw [HV.out, decide_eq_false (show ¬ k < 1 by omega), decide_eq_false (show ¬ 30 < k by omega)]
        symm
        show List.all _ _ = false
        rw [List.all_eq_false]
        refine ⟨x.val, ?_, by rw [hbx]; decide⟩
        rw [← probesF_val hv hN1 k]
        exact List.mem_map.2 ⟨x, hpre.subset hx, rfl⟩
  · have hm0 : mayB (k : Int) = false := by simpa using hm
    gi_wp2_with (refine ⟨trivial, ?_⟩; gi_at_call 25; refine (callsIn_wide.2 (mayProbe_any _ _)).mono ?_; rintro e w1 ⟨rfl, hw1⟩; subst hw1; rw [hm0])
    refine hs_end [] HN1.out rfl List.nodup_nil (fun D hD => (by cases hD)) (fun D hD => (by cases hD)) ?_
    rw [HV.out]
    unfold mayB at hm
    have : ¬ (1 ≤ (k : Int) ∧ (k : Int) ≤ 30) := fun h => hm (decide_eq_true h)
    by_cases hk0 : k < 1
    · rw [decide_eq_true hk0]; rfl
    · rw [decide_eq_true (show 30 < k by omega)]; simp
theorem has_any (a ka : Option Addr) (n c kn kc : Nat) (f key : List (BitVec 8)) (w : World) (hf : Bytes w (.slice a n c) f) (hk : Bytes w (.slice ka kn kc) key) (hkn : kn ≤ 1000000000) :
    Calls Try.prog 9 #[.slice a n c, .slice ka kn kc] w fun e w' => e = .returned (.bool (hasB f key)) ∧ Below w.heap.size w w' := by
  have hl := hf.len
  by_cases h : n < 2 ∨ 1048577 < n
  · have e : hasB f key = true := by
      unfold hasB
      rw [← hl]
      rcases h with h | h <;> simp [h]
    rw [e]
    exact has_short a ka n c kn kc w h
  · obtain ⟨s, rfl⟩ : ∃ s, n = s + 1 := ⟨n - 1, by omega⟩
    obtain ⟨b, off, rfl⟩ := hf.addr (by omega)
    exact has_loop b off c s kn kc ka f key w hf hk hkn (by omega) (by omega)
end Go.Proofs.Ytppikddjdjmakaa
