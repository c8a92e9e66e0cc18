import Derived.Test.YtkmcdjbadngfgaaM05
import Derived.Maps.OwnSet
import Derived.Maps.Ext
/-
  A map from numbers to ints; the lists of a version in memory; how many files; on which level each number stands; whether one stands twice.
-/
namespace Go.Proofs.Ytkmcdjbadngfgaa
open Go.RowKit Go.Maps
set_option maxRecDepth 100000
set_option maxHeartbeats 4000000
theorem law23 : Keyed Try.prog 23 := int_keyed Try.underlying23
theorem zero3 (w : World) : (zeroValue 3).run Try.prog w = .ok (.int .i64 0) w := by kernel_rfl
def keyN (k : Nat) : Lit := .int .u64 (k : Nat)
theorem keyN_ne {j k : Nat} (h : j ≠ k) : keyN j ≠ keyN k := fun e => h (by unfold keyN at e; injection e with _ e; omega)
theorem keyN_lit (k : Nat) : WideAt.IsKeyLit (keyN k) := trivial
theorem keyOfN (k : Nat) (h : k < 18446744073709551616) : keyOf Try.prog 23 (.int .u64 (k : Nat)) = some (keyN k) :=
  keyOf_int_mk Try.underlying23 (by simp [Lit.wf, IntKind.min, IntKind.max, IntKind.bits, IntKind.signed]; omega)
def intR : Value → Option (DataW Unit × List MemPlace)
  | .int .i64 z => some (.lit (.int .i64 z), [])
  | _ => none
theorem intR_inv {v : Value} {z : Int} {ps : List MemPlace} (h : intR v = some (.lit (.int .i64 z), ps)) : v = .int .i64 z := by
  unfold intR at h
  split at h
  · cases h; rfl
  · cases h
/-- A map from numbers to ints, of so many keys. -/
def MapN (w : World) (b n : Nat) (m : Nat → Option Int) (s : Nat) : Prop :=
  ∃ D, w.ownsMap Try.prog 23 intR b n D ∧ (∀ k, Maps.has D (keyN k) = (m k).isSome) ∧ (∀ k v, m k = some v → D.atKey (keyN k) (.lit (.int .i64 0)) = .lit (.int .i64 v)) ∧ Maps.size D = s
def upd (m : Nat → Option Int) (k : Nat) (v : Option Int) : Nat → Option Int := fun j => if j = k then v else m j
theorem MapN.keep {S : Nat → Prop} {w w' : World} {b n s : Nat} {m : Nat → Option Int} (h : MapN w b n m s) (t : Turns S w w') (hb : ¬ S b) : MapN w' b n m s := by
  obtain ⟨D, ⟨es, clock, hh, F, hs, hD⟩, r⟩ := h
  exact ⟨D, ⟨es, clock, t.heap hh hb, F, hs, hD⟩, r⟩
theorem MapN.lt {w : World} {b n s : Nat} {m : Nat → Option Int} (h : MapN w b n m s) : b < w.heap.size := by
  obtain ⟨D, ⟨es, clock, hh, F, hs, hD⟩, r⟩ := h
  exact lt_of_heap hh
theorem MapN.notCells {w : World} {b n s : Nat} {m : Nat → Option Int} (h : MapN w b n m s) {cs : Array Value} {t : TypeId} {z : Nat × Nat} : ¬ w.heap[b]? = some (.cells cs t z) := by
  obtain ⟨D, ⟨es, clock, hh, F, hs, hD⟩, r⟩ := h
  intro e; rw [hh] at e; cases e
theorem MapN.size_le {w : World} {b n s : Nat} {m : Nat → Option Int} (h : MapN w b n m s) : s ≤ n := by
  obtain ⟨D, ho, _, _, e⟩ := h
  rw [← e]; exact ho.size_le
theorem MapN.made (w : World) : MapN (w.alloc (.map #[] 0)) w.heap.size 0 (fun _ => none) 0 :=
  ⟨.map [], World.ownsMap_made w Try.prog 23 intR, fun _ => rfl, fun _ _ e => (by cases e), rfl⟩
theorem MapN.store {w : World} {b n s : Nat} {m : Nat → Option Int} (h : MapN w b n m s) (hn : n < maxLen) (k : Nat) (hk : k < 18446744073709551616) (v : Int) :
    ∃ w', (Instr.mapUpdate 96 (.map (some b)) (.int .u64 (k : Nat)) (.int .i64 v)).run Try.prog w = .ok () w' ∧ MapN w' b (n + 1) (upd m k (some v)) (if (m k).isSome then s else s + 1) ∧ Turns (fun j => j = b) w w' := by
  obtain ⟨D, ho, h1, h2, h3⟩ := h
  obtain ⟨w', hr, ho', ht⟩ := ho.store law23 Try.underlying96 hn (keyOfN k hk) (show intR (.int .i64 v) = some (.lit (.int .i64 v), []) from rfl)
  refine ⟨w', hr, ⟨_, ho', fun j => ?_, fun j u hu => ?_, ?_⟩, (Turns.of_grown ht.grown).mono fun j _ e => by cases e; rfl⟩
  · by_cases hj : j = k
    · subst hj; rw [has_put_same ho.isMap (keyN_lit j)]; simp [upd]
    · rw [has_put_other (keyN_ne hj), h1]; simp [upd, hj]
  · by_cases hj : j = k
    · subst hj; rw [atKey_put_same ho.isMap (keyN_lit j)]; simp [upd] at hu; rw [hu]
    · rw [atKey_put_other (keyN_ne hj)]; simp [upd, hj] at hu; exact h2 j u hu
  · rw [size_put (ho.tidy law23), h1, h3]
theorem MapN.drop {w : World} {b n s : Nat} {m : Nat → Option Int} (h : MapN w b n m s) (k : Nat) (hk : k < 18446744073709551616) (ty : TypeId) :
    ∃ w', (Builtin.delete_ #[96, 23] ty #[.map (some b), .int .u64 (k : Nat)]).run Try.prog w = .ok (.tuple #[]) w' ∧ MapN w' b n (upd m k none) (if (m k).isSome then s - 1 else s) ∧ Turns (fun j => j = b) w w' := by
  obtain ⟨D, ho, h1, h2, h3⟩ := h
  obtain ⟨w', hr, ho', ht⟩ := ho.drop law23 Try.underlying96 (keyOfN k hk) ty
  refine ⟨w', hr, ⟨_, ho', fun j => ?_, fun j u hu => ?_, ?_⟩, (Turns.of_grown ht.grown).mono fun j _ e => by cases e; rfl⟩
  · by_cases hj : j = k
    · subst hj; rw [has_del_same]; simp [upd]
    · rw [has_del_other (keyN_ne hj), h1]; simp [upd, hj]
  · by_cases hj : j = k
    · subst hj; simp [upd] at hu
    · rw [atKey_del_other (keyN_ne hj)]; simp [upd, hj] at hu; exact h2 j u hu
  · have := size_del (k := keyN k) (ho.tidy law23)
    rw [h1, h3] at this
    split at this <;> simp_all <;> omega
theorem MapN.look {w : World} {b n s : Nat} {m : Nat → Option Int} (h : MapN w b n m s) (k : Nat) (hk : k < 18446744073709551616) :
    ∃ v : Value, (Instr.lookup 96 (.map (some b)) (.int .u64 (k : Nat)) true).run Try.prog w = .ok (.tuple #[v, .bool (m k).isSome]) w ∧ (∃ z, v = .int .i64 z) ∧ ∀ z, m k = some z → v = .int .i64 z := by
  obtain ⟨D, ho, h1, h2, h3⟩ := h
  obtain ⟨v, ps, hr, hv⟩ := ho.look_ok law23 Try.underlying96 (zero3 w) (zd := .lit (.int .i64 0)) (zp := []) rfl (keyOfN k hk)
  rw [h1] at hr
  refine ⟨v, hr, ?_, fun z hz => by rw [h2 k z hz] at hv; exact intR_inv hv⟩
  cases hm : m k with
  | none => rw [atKey_of_not_has (by rw [h1, hm]; rfl)] at hv; exact ⟨0, intR_inv hv⟩
  | some z => rw [h2 k z hm] at hv; exact ⟨z, intR_inv hv⟩
theorem MapN.len {w : World} {b n s : Nat} {m : Nat → Option Int} (h : MapN w b n m s) (ty : TypeId) : (Builtin.len_ #[96] ty #[.map (some b)]).run Try.prog w = .ok (.int .i64 (s : Nat)) w := by
  obtain ⟨D, ho, h1, h2, h3⟩ := h
  rw [ho.len Try.underlying96 ty, h3]
theorem run_makeMap23 (n : Nat) (w : World) : (Instr.makeMap 96 (some (.int .i64 (n : Nat)))).run Try.prog w = .ok (.map (some w.heap.size)) (w.alloc (.map #[] 0)) := by
  simp [Instr.makeMap, asInt]
  rfl
end Go.Proofs.Ytkmcdjbadngfgaa

/-
  The lists of a version in memory; how many files; on which level each number stands; whether one stands twice.
-/
namespace Go.Proofs.Ytkmcdjbadngfgaa
open Go.RowKit Go.Maps
set_option maxRecDepth 100000
set_option maxHeartbeats 4000000
/-- A list of files: where it lies. -/
structure Lv where
  a : Option Addr
  c : Nat
  l : List Tf
/-- Lists, one behind the other. -/
def Levs (w : World) (a : Option Addr) (L : List Lv) : Prop := ∀ (k : Nat) (x : Lv), L[k]? = some x → (∃ b off, a = some ⟨b, off, none⟩ ∧ w.cell? ⟨b, off + k, none⟩ = some (.slice x.a x.l.length x.c)) ∧ Fils w x.a x.l
theorem Levs.quiet {w w' : World} {a : Option Addr} {L : List Lv} (h : Levs w a L) (t : Turns (fun _ => False) w w') : Levs w' a L := fun k x hx => by
  obtain ⟨⟨b, off, e, hc⟩, ho⟩ := h k x hx
  exact ⟨⟨b, off, e, t.cell hc (fun x => x)⟩, ho.quiet t⟩
def cnt (L : List Lv) : Nat := (L.map fun x => x.l.length).sum
theorem cnt_take {L : List Lv} {i : Nat} {x : Lv} (h : L[i]? = some x) : cnt (L.take (i + 1)) = cnt (L.take i) + x.l.length := by
  have e : L.take (i + 1) = L.take i ++ [x] := by rw [List.take_add_one, h]; rfl
  unfold cnt
  rw [e, List.map_append, List.sum_append]
  simp
theorem cnt_take_le (L : List Lv) (i : Nat) : cnt (L.take i) ≤ cnt L := by
  have : cnt L = cnt (L.take i) + cnt (L.drop i) := by unfold cnt; rw [← List.sum_append, ← List.map_append, List.take_append_drop]
  omega
theorem count_any (a : Option Addr) (n c : Nat) (L : List Lv) (w : World) (h : Levs w a L) (hn : n = L.length) (hmx : n ≤ 1000) (hc : cnt L ≤ 1000000) :
    Calls Try.prog 73 #[.agg #[.slice a n c]] w fun e w' => e = .returned (.int .i64 (cnt L : Nat)) ∧ Turns (fun _ => False) w w' := by
  have H := hide h
  have HL := hide hn
  have HC := hide hc
  have hni : (n : Int) ≤ 1000 := by omega
  have TA := hide ((Turns.refl (fun _ => False) w).alloc (.cells #[.slice a n c] 90))
  clear h hn hc
  go_enter Try.func73, Try.ntmps73
  go_wp2_with fail
  generalize w.alloc (.cells #[.slice a n c] 90) = w0 at *
  go_loopw [3, 9] (fun s i wr => ∃ k : Nat, i = .int .i64 (k : Nat) ∧ s = .int .i64 (cnt (L.take k) : Nat) ∧ k ≤ n ∧ Turns (fun _ => False) w wr) (fun _ i _ => n - (intOf i).toNat)
  case atStart => exact ⟨0, rfl, rfl, Nat.zero_le _, TA.out⟩
  case round =>
    obtain ⟨k, rfl, rfl, hk, hb⟩ := hrel
    have HB := hide hb
    clear hb
    by_cases hkn : k < n
    · obtain ⟨x, hx⟩ : ∃ x, L[k]? = some x := ⟨_, List.getElem?_eq_getElem (by have := HL.out; omega)⟩
      obtain ⟨⟨b, off, rfl, hcl⟩, hfb⟩ := (H.out.quiet HB.out) k x hx
      have i1 : (k : Int) < (n : Int) := by omega
      have i0 : (0 : Int) ≤ (k : Int) := by omega
      have HTK := hide (cnt_take hx)
      have h1 := cnt_take_le L (k + 1)
      have h2 := cnt_take hx
      have h3 := HC.out
      obtain ⟨xa, xc, xl⟩ := x
      simp only at *
      have HLE := hide (show cnt (L.take k) + xl.length ≤ 1000000 by omega)
      clear hfb hx h1 h2 h3
      generalize xl.length = XL at *
      generalize hT : cnt (L.take k) = T at *
      have hTi : (T : Int) + XL ≤ 1000000 := by have := HLE.out; omega
      clear hT
      go_wp2_with fail
      go_roundw
      case rel => exact ⟨k + 1, by go_num, by rw [HTK.out]; go_num, by omega, HB.out⟩
      case measure => simp [intOf]; omega
    · obtain rfl : k = n := by omega
      have ht : L.take k = L := List.take_of_length_le (by have := HL.out; omega)
      rw [ht]
      have h3 := HC.out
      clear ht
      generalize hT : cnt L = T at *
      have HT := hide hT
      clear hT
      go_wp2_with fail
      go_ret
      exact ⟨by rw [HT.out]; rfl, HB.out⟩
/-- What stands in a map behind so many stores. -/
def mp : List (Nat × Int) → (Nat → Option Int) := fun ps => ps.foldl (fun m p => upd m p.1 (some p.2)) (fun _ => none)
def sz : List (Nat × Int) → Nat := fun ps => (ps.foldl (fun (q : (Nat → Option Int) × Nat) p => (upd q.1 p.1 (some p.2), if (q.1 p.1).isSome then q.2 else q.2 + 1)) ((fun _ => none), 0)).2
theorem fold_fst (ps : List (Nat × Int)) (m : Nat → Option Int) (s : Nat) : (ps.foldl (fun (q : (Nat → Option Int) × Nat) p => (upd q.1 p.1 (some p.2), if (q.1 p.1).isSome then q.2 else q.2 + 1)) (m, s)).1 = ps.foldl (fun m p => upd m p.1 (some p.2)) m := by
  induction ps generalizing m s with
  | nil => rfl
  | cons p r ih => exact ih _ _
theorem mp_snoc (ps : List (Nat × Int)) (k : Nat) (v : Int) : mp (ps ++ [(k, v)]) = upd (mp ps) k (some v) := by simp [mp, List.foldl_append]
theorem sz_snoc (ps : List (Nat × Int)) (k : Nat) (v : Int) : sz (ps ++ [(k, v)]) = if (mp ps k).isSome then sz ps else sz ps + 1 := by
  unfold sz
  rw [List.foldl_append]
  simp only [List.foldl_cons, List.foldl_nil]
  rw [fold_fst]
  rfl
theorem snocRec {α : Type} {motive : List α → Prop} (nil : motive []) (snoc : ∀ (r : List α) (p : α), motive r → motive (r ++ [p])) (l : List α) : motive l := by
  rw [← List.reverse_reverse l]
  induction l.reverse with
  | nil => exact nil
  | cons p r ih => rw [List.reverse_cons]; exact snoc _ _ ih
theorem mp_isSome (ps : List (Nat × Int)) (k : Nat) : (mp ps k).isSome = true ↔ ∃ v, (k, v) ∈ ps := by
  induction ps using snocRec with
  | nil => simp [mp]
  | snoc r p ih =>
    obtain ⟨j, u⟩ := p
    rw [mp_snoc]
    by_cases h : k = j
    · subst h; simp [upd]
    · simp [upd, h, ih]
theorem sz_le (ps : List (Nat × Int)) : sz ps ≤ ps.length := by
  induction ps using snocRec with
  | nil => exact Nat.le_refl _
  | snoc r p ih =>
    obtain ⟨j, u⟩ := p
    rw [sz_snoc, List.length_append]
    split <;> simp <;> omega
theorem sz_eq (ps : List (Nat × Int)) : sz ps = ps.length ↔ (ps.map Prod.fst).Nodup := by
  induction ps using snocRec with
  | nil => simp [sz]
  | snoc r p ih =>
    obtain ⟨j, u⟩ := p
    have h1 := sz_le r
    rw [sz_snoc, List.length_append, List.map_append, List.nodup_append, ← ih]
    by_cases hs : (mp r j).isSome = true
    · rw [if_pos hs]
      have := (mp_isSome r j).1 hs
      simp
      constructor
      · intro h; omega
      · rintro ⟨_, h⟩
        obtain ⟨v, hv⟩ := this
        exact absurd rfl (h j v hv)
    · rw [if_neg hs]
      have := fun v hv => hs ((mp_isSome r j).2 ⟨v, hv⟩)
      simp
      exact fun _ x v hv e => this v (e ▸ hv)
theorem mp_of_nodup (ps : List (Nat × Int)) (h : (ps.map Prod.fst).Nodup) (k : Nat) (v : Int) : mp ps k = some v ↔ (k, v) ∈ ps := by
  induction ps using snocRec with
  | nil => simp [mp]
  | snoc r p ih =>
    obtain ⟨j, u⟩ := p
    rw [List.map_append, List.nodup_append] at h
    rw [mp_snoc]
    by_cases e : k = j
    · subst e
      simp [upd]
      constructor
      · intro e; exact .inr e.symm
      · rintro (hv | e)
        · exact absurd rfl (h.2.2 k (List.mem_map.2 ⟨_, hv, rfl⟩) k (by simp))
        · exact e.symm
    · simp [upd, e, ih h.1]
def prs (i : Nat) (l : List Tf) : List (Nat × Int) := l.map fun x => (x.f.no, (i : Int))
def pairsL (L : List Lv) : List (Nat × Int) := L.zipIdx.flatMap fun p => prs p.2 p.1.l
theorem pairsL_take {L : List Lv} {i : Nat} {x : Lv} (h : L[i]? = some x) : pairsL (L.take (i + 1)) = pairsL (L.take i) ++ prs i x.l := by
  have hi := (List.getElem?_eq_some_iff.1 h).1
  have e : L.take (i + 1) = L.take i ++ [x] := by rw [List.take_add_one, h]; rfl
  have hl : (L.take i).length = i := by rw [List.length_take]; omega
  unfold pairsL
  rw [e, List.zipIdx_append, List.flatMap_append, hl, Nat.zero_add]
  simp
theorem prs_take {i j : Nat} {l : List Tf} {x : Tf} (h : l[j]? = some x) : prs i (l.take (j + 1)) = prs i (l.take j) ++ [(x.f.no, (i : Int))] := by
  unfold prs
  rw [List.take_add_one, h, List.map_append]
  rfl
theorem pairsL_length (L : List Lv) : (pairsL L).length = cnt L := by
  unfold pairsL cnt prs
  rw [List.length_flatMap]
  simp only [List.length_map]
  congr 1
  have : ∀ q, (L.zipIdx q).map (fun a => a.1.l.length) = L.map fun x => x.l.length := by
    induction L with
    | nil => intro q; rfl
    | cons x r ih => intro q; rw [List.zipIdx_cons, List.map_cons, List.map_cons, ih]
  exact this 0
def numsL (L : List Lv) : List Nat := L.flatMap fun x => x.l.map fun y => y.f.no
theorem pairsL_nums (L : List Lv) : (pairsL L).map Prod.fst = numsL L := by
  unfold pairsL numsL prs
  rw [List.map_flatMap]
  simp only [List.map_map]
  have : ∀ (q : Nat), (L.zipIdx q).flatMap (fun a => List.map (Prod.fst ∘ fun x => (x.f.no, (a.2 : Int))) a.1.l) = L.flatMap fun x => x.l.map fun y => y.f.no := by
    induction L with
    | nil => intro q; rfl
    | cons x r ih =>
      intro q
      rw [List.zipIdx_cons, List.flatMap_cons, List.flatMap_cons, ih]
      rfl
  exact this 0
/-- The numbers have room. -/
def Fit (L : List Lv) : Prop := ∀ x ∈ L, ∀ y ∈ x.l, y.f.no < 18446744073709551616
end Go.Proofs.Ytkmcdjbadngfgaa

/-
  On which level each number stands; whether one stands twice.
-/
namespace Go.Proofs.Ytkmcdjbadngfgaa
open Go.RowKit Go.Maps
set_option maxRecDepth 100000
set_option maxHeartbeats 4000000
theorem levelOf_any (a : Option Addr) (n c : Nat) (L : List Lv) (w : World) (h : Levs w a L) (hn : n = L.length) (hmx : n ≤ 1000) (hc : cnt L ≤ 1000000) (hf : Fit L) :
    Calls Try.prog 84 #[.agg #[.slice a n c]] w fun e w' => ∃ M, e = .returned (.map (some M)) ∧ w.heap.size ≤ M ∧ MapN w' M (cnt L) (mp (pairsL L)) (sz (pairsL L)) ∧ Turns (fun _ => False) w w' := by
  have H := hide h
  have HL := hide hn
  have HC := hide hc
  have HF := hide hf
  have hni : (n : Int) ≤ 1000 := by omega
  have TA := hide ((Turns.refl (fun _ => False) w).alloc (.cells #[.slice a n c] 90))
  have CN := hide (count_any a n c L _ (h.quiet TA.out) hn hmx hc)
  have R0 := hide (heap_alloc_new w (.cells #[.slice a n c] 90))
  have hmm := run_makeMap23 (cnt L)
  clear h hn hc hf
  go_enter Try.func84, Try.ntmps84
  go_wp2_with fail
  refine CN.out.mono ?_
  rintro e w1 ⟨rfl, t1⟩
  have T1 := hide (TA.out.trans t1)
  have c0 := cell_of_row w1 w.heap.size 0 _ 90 (0, 0) (t1.heap R0.out (fun x => x))
  have c1 : (w1.alloc (.map #[] 0)).cell? ⟨w.heap.size, 0, none⟩ = some (.slice a n c) := ((Turns.refl (fun _ => False) w1).alloc _).cell c0 (fun x => x)
  have T2 := hide (T1.out.alloc (.map #[] 0))
  have HM := hide (MapN.made w1)
  have HS := hide (show w.heap.size < w1.heap.size by have := (t1.heap R0.out (fun x => x)); exact lt_of_heap this)
  clear t1 CN c0
  generalize hT : cnt L = T at *
  have HT := hide hT
  clear hT
  go_wp2_with fail
  clear hmm
  generalize hw2 : w1.alloc (.map #[] 0) = w2 at *
  clear hw2
  generalize w1.heap.size = M at *
  go_loopw [14] (fun i wr => ∃ k : Nat, i = .int .i64 (k : Nat) ∧ k ≤ n ∧ MapN wr M (cnt (L.take k)) (mp (pairsL (L.take k))) (sz (pairsL (L.take k))) ∧ Turns (fun j => j = M) w2 wr) (fun i _ => n - (intOf i).toNat)
  case atStart => exact ⟨0, rfl, Nat.zero_le _, HM.out, Turns.refl _ _⟩
  case round =>
    obtain ⟨k, rfl, hk, hm, hb⟩ := hrel
    have HB := hide hb
    have HMK := hide hm
    have HW := hide (show Turns (fun _ => False) w wr from T2.out.andThen hb fun j hj e => by have := HS.out; omega)
    clear hb hm
    by_cases hkn : k < n
    · obtain ⟨x, hx⟩ : ∃ x, L[k]? = some x := ⟨_, List.getElem?_eq_getElem (by have := HL.out; omega)⟩
      obtain ⟨⟨b, off, rfl, hcl⟩, hfb⟩ := (H.out.quiet HW.out) k x hx
      have i1 : (k : Int) < (n : Int) := by omega
      have i0 : (0 : Int) ≤ (k : Int) := by omega
      have HP := hide (pairsL_take hx)
      have HCT := hide (cnt_take hx)
      have h1 := cnt_take_le L (k + 1)
      have h3 := HC.out
      have h4 := HCT.out
      have h5 := HT.out
      have HFX := hide (HF.out x (List.mem_of_getElem? hx))
      have HFI := hide (H.out k x hx).2
      have HLE := hide (show cnt (L.take k) + x.l.length ≤ 1000000 by omega)
      obtain ⟨xa, xc, xl⟩ := x
      simp only at *
      clear hfb hx h1 h3 h4 h5
      generalize hXL : xl.length = XL at *
      have HXL := hide hXL
      have hxi : (XL : Int) ≤ 1000000 := by have := HLE.out; omega
      clear hXL
      go_wp2_with fail
      go_loopw [21] (fun i wq => ∃ q : Nat, i = .int .i64 (q : Nat) ∧ q ≤ XL ∧ MapN wq M (cnt (L.take k) + q) (mp (pairsL (L.take k) ++ prs k (xl.take q))) (sz (pairsL (L.take k) ++ prs k (xl.take q))) ∧ Turns (fun j => j = M) w2 wq) (fun i _ => XL - (intOf i).toNat)
      case atStart => exact ⟨0, rfl, Nat.zero_le _, by simpa [prs] using HMK.out, HB.out⟩
      case round =>
        obtain ⟨q, rfl, hq, hm, hb⟩ := hrel
        have HB2 := hide hb
        have HMQ := hide hm
        have HW2 := hide (show Turns (fun _ => False) w wr from T2.out.andThen hb fun j hj e => by have := HS.out; omega)
        clear hb hm
        by_cases hqn : q < XL
        · obtain ⟨y, hy⟩ : ∃ y, xl[q]? = some y := ⟨_, List.getElem?_eq_getElem (by have := HXL.out; omega)⟩
          obtain ⟨b', off', rfl, h6, hfb⟩ := fc_of (HFI.out.quiet HW2.out) hy
          have j1 : (q : Int) < (XL : Int) := by omega
          have j0 : (0 : Int) ≤ (q : Int) := by omega
          have HPY := hide (prs_take (i := k) hy)
          have hno := HFX.out y (List.mem_of_getElem? hy)
          obtain ⟨la, lc, ma, mc, ⟨no, sz, ls, ms, en, sq⟩⟩ := y
          obtain ⟨y0, y1, y2, y3, y4, y5⟩ := h6
          simp only at *
          clear hfb hy
          have hlt := HLE.out
          obtain ⟨w3, hup, hm3, ht3⟩ := (HMQ.out.keep (S := fun _ => False) ((Turns.refl (fun _ => False) wr).alloc (.cells #[.int .u64 (no : Nat), .int .i64 sz, .slice la ls.length lc, .slice ma ms.length mc, .int .i64 en, .int .u64 (sq : Nat)] 29)) (fun x => x)).store (by unfold maxLen; omega) no hno (k : Int)
          have B3 := hide (((HB2.out.alloc (.cells #[.int .u64 (no : Nat), .int .i64 sz, .slice la ls.length lc, .slice ma ms.length mc, .int .i64 en, .int .u64 (sq : Nat)] 29)).trans ht3))
          have M3 := hide hm3
          clear hm3 ht3 hlt hno
          go_wp2_with fail
          go_roundw
          case rel => exact ⟨q + 1, by go_num, by omega, by rw [HPY.out, ← List.append_assoc, mp_snoc, sz_snoc]; exact M3.out, B3.out⟩
          case measure => simp [intOf]; omega
        · obtain rfl : q = XL := by omega
          have ht : xl.take q = xl := List.take_of_length_le (by have := HXL.out; omega)
          rw [ht] at HMQ
          go_wp2_with fail
          go_roundw
          case rel => exact ⟨k + 1, by go_num, by omega, by rw [HCT.out, HP.out]; exact HMQ.out, HB2.out⟩
          case measure => simp [intOf]; omega
    · obtain rfl : k = n := by omega
      have ht : L.take k = L := List.take_of_length_le (by have := HL.out; omega)
      rw [ht] at HMK
      go_wp2_with fail
      go_ret
      exact ⟨M, rfl, by have := HS.out; omega, HMK.out, HW.out⟩
theorem hasTwice_any (a : Option Addr) (n c : Nat) (L : List Lv) (w : World) (h : Levs w a L) (hn : n = L.length) (hmx : n ≤ 1000) (hc : cnt L ≤ 1000000) (hf : Fit L) :
    Calls Try.prog 72 #[.agg #[.slice a n c]] w fun e w' => e = .returned (.bool (!decide (numsL L).Nodup)) ∧ Turns (fun _ => False) w w' := by
  have TA := hide ((Turns.refl (fun _ => False) w).alloc (.cells #[.slice a n c] 90))
  have LO := hide (fun (w2 : World) (t : Turns (fun _ => False) w w2) => levelOf_any a n c L w2 (h.quiet t) hn hmx hc hf)
  have CN := hide (fun (w2 : World) (t : Turns (fun _ => False) w w2) => count_any a n c L w2 (h.quiet t) hn hmx hc)
  have R0 := hide (heap_alloc_new w (.cells #[.slice a n c] 90))
  have HEND := hide (show decide (sz (pairsL L) < cnt L) = !decide (numsL L).Nodup by
    have h1 := sz_le (pairsL L)
    have h2 := sz_eq (pairsL L)
    rw [pairsL_length] at h1 h2
    rw [pairsL_nums] at h2
    by_cases hd : (numsL L).Nodup
    · have := h2.2 hd; simp [hd]; omega
    · have : ¬ sz (pairsL L) = cnt L := fun e => hd (h2.1 e)
      simp [hd]; omega)
  clear h hn hc hf
  go_enter Try.func72, Try.ntmps72
  go_wp2_with fail
  generalize w.alloc (.cells #[.slice a n c] 90) = w0 at *
  have c0 : w0.cell? ⟨w.heap.size, 0, none⟩ = some (.slice a n c) := cell_of_row w0 w.heap.size 0 _ 90 (0, 0) R0.out
  generalize w.heap.size = B at *
  have T1 := hide (TA.out.drew)
  have hd0 : (w0.drew).cell? ⟨B, 0, none⟩ = some (.slice a n c) := c0
  generalize hS : sz (pairsL L) = S at *
  generalize hC : cnt L = C at *
  go_region_held (fun w' => w'.cell? ⟨B, 0, none⟩ = some (.slice a n c)) (first | (with_reducible exact k5) | (with_reducible exact k4) | (with_reducible exact k3) | (with_reducible exact k2) | (simp only [World.cell?_drew]; with_reducible exact c0)) (first
    | (go_at_call 73; refine (CN.out _ T2.out).mono ?_; rintro e w3 ⟨rfl, t3⟩; have k3 := t3.cell k2 (fun x => x); have T3 := hide (T2.out.trans t3); have hl3 := (MN.out.keep t3 (fun x => x)).len 3; clear t3)
    | (go_at_call 84; refine (LO.out _ T4.out).mono ?_; rintro e w5 ⟨M, rfl, hM, hm, t5⟩; have k5 := t5.cell k4 (fun x => x); have T3 := hide (T4.out.trans t5); have hl5 := hm.len 3; clear t5 hm)
    | (go_at_call 84; refine (LO.out _ T1.out).mono ?_; rintro e w2 ⟨M, rfl, hM, hm, t2⟩; have k2 := t2.cell hd0 (fun x => x); have T2 := hide (T1.out.trans t2); have hl2 := hm.len 3; have MN := hide hm; clear t2 hm)
    | (go_at_call 73; refine (CN.out _ T1.out).mono ?_; rintro e w4 ⟨rfl, t4⟩; have k4 := t4.cell hd0 (fun x => x); have T4 := hide (T1.out.trans t4); clear t4))
  all_goals go_wp2_with fail
  all_goals go_ret
  all_goals exact ⟨congrArg Ending.returned (congrArg Value.bool (by rw [← HEND.out])), T3.out⟩
end Go.Proofs.Ytkmcdjbadngfgaa

/-
  How many bytes numbers have, and the whole edit of a version: bounds.
-/
namespace Go.Proofs.Ytkmcdjbadngfgaa
open Go.RowKit Go.Maps
set_option maxRecDepth 100000
set_option maxHeartbeats 4000000
/-- Numbers, one behind the other. -/
def Nums (w : World) (a : Option Addr) (zs : List Nat) : Prop := ∀ (k : Nat) (z : Nat), zs[k]? = some z → z < 18446744073709551616 ∧ ∃ b off, a = some ⟨b, off, none⟩ ∧ w.cell? ⟨b, off + k, none⟩ = some (.int .u64 (z : Nat))
theorem Nums.quiet {w w' : World} {a : Option Addr} {zs : List Nat} (h : Nums w a zs) (t : Turns (fun _ => False) w w') : Nums w' a zs := fun k z hz => by
  obtain ⟨h0, b, off, e, hc⟩ := h k z hz
  exact ⟨h0, b, off, e, t.cell hc (fun x => x)⟩
theorem nums_of_block {w : World} {g : Nat} {zs : List Nat} {t : TypeId} {q : Nat × Nat} (h : w.heap[g]? = some (.cells (zs.map fun (z : Nat) => Value.int .u64 (z : Nat)).toArray t q)) (hz : ∀ z ∈ zs, z < 18446744073709551616) : Nums w (some ⟨g, 0, none⟩) zs := fun k z hk =>
  ⟨hz z (List.mem_of_getElem? hk), g, 0, rfl, by rw [Nat.zero_add, cell_of_row w g k _ t q h]; simp [hk]⟩
theorem numbersSize_any (a : Option Addr) (n c : Nat) (zs : List Nat) (w : World) (h : Nums w a zs) (hn : n = zs.length) (hmx : n ≤ 1000) :
    Calls Try.prog 85 #[.slice a n c] w fun e w' => ∃ t : Nat, e = .returned (.int .i64 (t : Nat)) ∧ t ≤ 10 * n ∧ w' = w := by
  have H := hide h
  have HL := hide hn
  have hni : (n : Int) ≤ 1000 := by omega
  clear h hn
  go_enter Try.func85, Try.ntmps85
  go_wp2_with fail
  go_loopw [3, 8] (fun s i wr => ∃ k t : Nat, i = .int .i64 (k : Nat) ∧ s = .int .i64 (t : Nat) ∧ k ≤ n ∧ t ≤ 10 * k ∧ wr = w) (fun _ i _ => n - (intOf i).toNat)
  case atStart => exact ⟨0, 0, rfl, rfl, Nat.zero_le _, Nat.zero_le _, rfl⟩
  case round =>
    obtain ⟨k, t, rfl, rfl, hk, ht, rfl⟩ := hrel
    by_cases hkn : k < n
    · obtain ⟨z, hz⟩ : ∃ x, zs[k]? = some x := ⟨_, List.getElem?_eq_getElem (by have := HL.out; omega)⟩
      obtain ⟨hzb, b, off, rfl, hcl⟩ := H.out k z hz
      have i1 : (k : Int) < (n : Int) := by omega
      have i0 : (0 : Int) ≤ (k : Int) := by omega
      obtain ⟨s, hs⟩ : ∃ s : Nat, szN (z : Int) = s := ⟨(szN z).toNat, by have := szN_le (z : Int); omega⟩
      have hs2 : s ≤ 10 := by have := szN_le (z : Int); omega
      have CS := hide (size_any z hzb wr)
      rw [hs] at CS
      clear hz hs
      go_wp2_with fail
      refine CS.out.mono ?_
      rintro e w1 ⟨rfl, rfl⟩
      go_wp2_with fail
      go_roundw
      case rel => exact ⟨k + 1, t + s, by go_num, by go_num, by omega, by omega, trivial⟩
      case measure => simp [intOf]; omega
    · obtain rfl : k = n := by omega
      go_wp2_with fail
      go_ret
      exact ⟨t, rfl, ht, rfl⟩
/-- An add as a value: a level, and a file. -/
def addAgg (lev : Int) (x : Tf) : Value := .agg #[.int .i64 lev, .int .u64 (x.f.no : Nat), .int .i64 x.f.size, .slice x.la x.f.least.length x.lc, .slice x.ma x.f.most.length x.mc, .int .i64 x.f.ents, .int .u64 (x.f.seq : Nat)]
theorem numbersOf_any (lev : Nat) (x : Tf) (w : World) (hl : lev ≤ 1000000) (h0 : x.f.no < 18446744073709551616) (h1 : 0 ≤ x.f.size) (h2 : x.f.size ≤ 16777216) (h3 : 0 ≤ x.f.ents) (h4 : x.f.ents ≤ 16777216) (h5 : x.f.seq < 18446744073709551616) :
    Calls Try.prog 86 #[addAgg lev x] w fun e w' => ∃ g, e = .returned (.slice (some ⟨g, 0, none⟩) 5 5) ∧ Nums w' (some ⟨g, 0, none⟩) [lev, x.f.no, x.f.size.toNat, x.f.ents.toNat, x.f.seq] ∧ Turns (fun _ => False) w w' := by
  obtain ⟨la, lc, ma, mc, ⟨no, sz, ls, ms, en, sq⟩⟩ := x
  simp only at *
  obtain ⟨s, rfl⟩ : ∃ s : Nat, sz = s := ⟨sz.toNat, by omega⟩
  obtain ⟨t, rfl⟩ : ∃ s : Nat, en = s := ⟨en.toNat, by omega⟩
  unfold addAgg
  simp only [Int.toNat_natCast]
  have TA := hide ((Turns.refl (fun _ => False) w).alloc (.cells #[.int .i64 (lev : Nat), .int .u64 (no : Nat), .int .i64 (s : Nat), .slice la ls.length lc, .slice ma ms.length mc, .int .i64 (t : Nat), .int .u64 (sq : Nat)] 102))
  have l1 : (lev : Int) ≤ 1000000 := by omega
  go_enter Try.func86, Try.ntmps86
  go_wp2_with fail
  go_ret
  refine ⟨w.heap.size + 1, rfl, nums_of_block (t := 23) (q := (0, 0)) ?_ (by simp; omega), TA.out.alloc _⟩
  have e := heap_alloc_new (w.alloc (.cells #[.int .i64 (lev : Nat), .int .u64 (no : Nat), .int .i64 (s : Nat), .slice la ls.length lc, .slice ma ms.length mc, .int .i64 (t : Nat), .int .u64 (sq : Nat)] 102)) (.cells #[.int .u64 (lev : Nat), .int .u64 (no : Nat), .int .u64 (s : Nat), .int .u64 (t : Nat), .int .u64 (sq : Nat)] 23)
  rw [World.size_alloc] at e
  exact e
def keyB (y : Tf) : Nat := y.f.least.length + y.f.most.length
def byts (L : List Lv) : Nat := (L.map fun x => (x.l.map keyB).sum).sum
theorem byts_take {L : List Lv} {i : Nat} {x : Lv} (h : L[i]? = some x) : byts (L.take (i + 1)) = byts (L.take i) + (x.l.map keyB).sum := by
  have e : L.take (i + 1) = L.take i ++ [x] := by rw [List.take_add_one, h]; rfl
  unfold byts
  rw [e, List.map_append, List.sum_append]
  simp
theorem byts_take_le (L : List Lv) (i : Nat) : byts (L.take i) ≤ byts L := by
  have : byts L = byts (L.take i) + byts (L.drop i) := by unfold byts; rw [← List.sum_append, ← List.map_append, List.take_append_drop]
  omega
theorem keyB_take {l : List Tf} {i : Nat} {x : Tf} (h : l[i]? = some x) : ((l.take (i + 1)).map keyB).sum = ((l.take i).map keyB).sum + keyB x := by
  have e : l.take (i + 1) = l.take i ++ [x] := by rw [List.take_add_one, h]; rfl
  rw [e, List.map_append, List.sum_append]
  simp
theorem keyB_take_le (l : List Tf) (i : Nat) : ((l.take i).map keyB).sum ≤ (l.map keyB).sum := by
  have : (l.map keyB).sum = ((l.take i).map keyB).sum + ((l.drop i).map keyB).sum := by rw [← List.sum_append, ← List.map_append, List.take_append_drop]
  omega
theorem wrongF_false {f : Fl} (h : wrongF f = false) : 1 ≤ f.no ∧ f.seq ≤ 72057594037927935 ∧ 0 ≤ f.size ∧ f.size ≤ 16777216 ∧ 1 ≤ f.ents ∧ f.ents ≤ 16777216 ∧ 1 ≤ f.least.length ∧ f.least.length ≤ 4096 ∧ 1 ≤ f.most.length ∧ f.most.length ≤ 4096 ∧ cmpB f.least f.most ≤ 0 := by
  simp [wrongF, isK] at h
  omega
end Go.Proofs.Ytkmcdjbadngfgaa

/-
  How many bytes the whole edit has: a bound.
-/
namespace Go.Proofs.Ytkmcdjbadngfgaa
open Go.RowKit Go.Maps
set_option maxRecDepth 100000
set_option maxHeartbeats 4000000
def verAgg (a : Option Addr) (n c next seq log : Nat) : Value := .agg #[.slice a n c, .int .u64 (next : Nat), .int .u64 (seq : Nat), .int .u64 (log : Nat)]
theorem conv_nat (k : Nat) (h : k < 18446744073709551616) (w : World) : (convert 3 23 (.int .i64 (k : Nat))).run Try.prog w = .ok (.int .u64 (k : Nat)) w := by
  have e : IntKind.u64.wrap (k : Int) = k := by simp [IntKind.wrap, IntKind.bits, IntKind.signed]; omega
  have : (convert 3 23 (.int .i64 (k : Nat))).run Try.prog w = .ok (.int .u64 (IntKind.u64.wrap (k : Nat))) w := by kernel_rfl
  rw [this, e]
theorem wholeSize_any (a : Option Addr) (n c next seq log : Nat) (L : List Lv) (w : World) (h : Levs w a L) (hn : n = L.length) (hmx : n ≤ 1000) (hc : cnt L ≤ 10000) (hf : Fit L) (hw : ∀ x ∈ L, ∀ y ∈ x.l, wrongF y.f = false)
    (h1 : next < 18446744073709551616) (h2 : seq < 18446744073709551616) (h3 : log < 18446744073709551616) (hby : byts L ≤ 100000000) :
    Calls Try.prog 74 #[verAgg a n c next seq log] w fun e w' => ∃ t : Nat, e = .returned (.int .i64 (t : Nat)) ∧ t ≤ 50 + 70 * cnt L + byts L ∧ Turns (fun _ => False) w w' := by
  have H := hide h
  have HL := hide hn
  have HC := hide hc
  have HF := hide hf
  have HWR := hide hw
  have HBY := hide hby
  have hni : (n : Int) ≤ 1000 := by omega
  have TA := hide ((Turns.refl (fun _ => False) w).alloc (.cells #[.slice a n c, .int .u64 (next : Nat), .int .u64 (seq : Nat), .int .u64 (log : Nat)] 25))
  have CN := hide (count_any a n c L _ (h.quiet TA.out) hn hmx (by omega))
  have R0 := hide (heap_alloc_new w (.cells #[.slice a n c, .int .u64 (next : Nat), .int .u64 (seq : Nat), .int .u64 (log : Nat)] 25))
  unfold verAgg
  have hci : (cnt L : Int) ≤ 10000 := by omega
  clear h hn hc hf hw hby
  go_enter Try.func74, Try.ntmps74
  go_wp2_with fail
  refine CN.out.mono ?_
  rintro e w1 ⟨rfl, t1⟩
  have r1 := t1.heap R0.out (fun x => x)
  have c0 := cell_of_row w1 w.heap.size 0 _ 25 (0, 0) r1
  have c1 := cell_of_row w1 w.heap.size 1 _ 25 (0, 0) r1
  have c2 := cell_of_row w1 w.heap.size 2 _ 25 (0, 0) r1
  have c3 := cell_of_row w1 w.heap.size 3 _ 25 (0, 0) r1
  have T1 := hide (TA.out.trans t1)
  generalize hT : cnt L = T at *
  have HT := hide hT
  have hTN : T ≤ 10000 := HC.out
  have HN := hide (numbersSize_any (some ⟨w1.heap.size, 0, none⟩) 5 5 [next, seq, log, 0, T] (w1.alloc (.cells #[.int .u64 (next : Nat), .int .u64 (seq : Nat), .int .u64 (log : Nat), .int .u64 0, .int .u64 (T : Nat)] 23)) (nums_of_block (heap_alloc_new w1 _) (by simp; omega)) rfl (by omega))
  have T2 := hide ((Turns.refl (fun _ => False) w1).alloc (.cells #[.int .u64 (next : Nat), .int .u64 (seq : Nat), .int .u64 (log : Nat), .int .u64 0, .int .u64 (T : Nat)] 23))
  have d0 := T2.out.cell c0 (fun x => x)
  have C0 := hide c0
  clear hT t1 CN r1
  go_wp2_with fail
  refine HN.out.mono ?_
  rintro e w2 ⟨t0, rfl, ht0, rfl⟩
  clear c0 c1 c2 c3 HN
  generalize hw2 : w1.alloc (.cells #[.int .u64 (next : Nat), .int .u64 (seq : Nat), .int .u64 (log : Nat), .int .u64 0, .int .u64 (T : Nat)] 23) = w2 at *
  have TW := hide (T1.out.trans T2.out)
  clear hw2 T2 T1
  go_wp2_with fail
  go_loopw [5, 29] (fun s i wr => ∃ k t : Nat, i = .int .i64 (k : Nat) ∧ s = .int .i64 (t : Nat) ∧ k ≤ n ∧ t ≤ 50 + 70 * cnt (L.take k) + byts (L.take k) ∧ Turns (fun _ => False) w wr) (fun _ i _ => n - (intOf i).toNat)
  case atStart => exact ⟨0, t0, rfl, rfl, Nat.zero_le _, by simp [cnt, byts]; omega, TW.out⟩
  case round =>
    obtain ⟨k, t, rfl, rfl, hk, ht, hb⟩ := hrel
    have HB := hide hb
    have HTT := hide ht
    clear hb ht
    by_cases hkn : k < n
    · obtain ⟨x, hx⟩ : ∃ x, L[k]? = some x := ⟨_, List.getElem?_eq_getElem (by have := HL.out; omega)⟩
      obtain ⟨⟨b, off, rfl, hcl⟩, hfb⟩ := (H.out.quiet HB.out) k x hx
      have i1 : (k : Int) < (n : Int) := by omega
      have i0 : (0 : Int) ≤ (k : Int) := by omega
      have HCT := hide (cnt_take hx)
      have HBT := hide (byts_take hx)
      have q1 := cnt_take_le L (k + 1)
      have q2 := byts_take_le L (k + 1)
      have q3 := HCT.out
      have q4 := HBT.out
      have q5 := HBY.out
      have q6 := HT.out
      have HFX := hide (HF.out x (List.mem_of_getElem? hx))
      have HWX := hide (HWR.out x (List.mem_of_getElem? hx))
      have HFI := hide (H.out k x hx).2
      have HLE := hide (show cnt (L.take k) + x.l.length ≤ 10000 ∧ byts (L.take k) + (x.l.map keyB).sum ≤ 100000000 by omega)
      obtain ⟨xa, xc, xl⟩ := x
      simp only at *
      clear hfb hx q1 q2 q3 q4 q5 q6
      generalize hXL : xl.length = XL at *
      have HXL := hide hXL
      have hxi : (XL : Int) ≤ 10000 := by have := HLE.out; omega
      clear hXL
      go_wp2_with fail
      go_loopw [5, 36] (fun s i wq => ∃ q t : Nat, i = .int .i64 (q : Nat) ∧ s = .int .i64 (t : Nat) ∧ q ≤ XL ∧ t ≤ 50 + 70 * (cnt (L.take k) + q) + (byts (L.take k) + ((xl.take q).map keyB).sum) ∧ Turns (fun _ => False) w wq) (fun _ i _ => XL - (intOf i).toNat)
      case atStart => exact ⟨0, t, rfl, rfl, Nat.zero_le _, by have := HTT.out; simp; omega, HB.out⟩
      case round =>
        clear HTT
        obtain ⟨q, tq, rfl, rfl, hq, ht, hb⟩ := hrel
        have HB2 := hide hb
        have HTT := hide ht
        clear hb ht
        by_cases hqn : q < XL
        · obtain ⟨y, hy⟩ : ∃ y, xl[q]? = some y := ⟨_, List.getElem?_eq_getElem (by have := HXL.out; omega)⟩
          obtain ⟨b', off', rfl, h6, hfb⟩ := fc_of (HFI.out.quiet HB2.out) hy
          have j1 : (q : Int) < (XL : Int) := by omega
          have j0 : (0 : Int) ≤ (q : Int) := by omega
          have hno := HFX.out y (List.mem_of_getElem? hy)
          obtain ⟨v1, v2, v3, v4, v5, v6, v7, v8, v9, v10, v11⟩ := wrongF_false (HWX.out y (List.mem_of_getElem? hy))
          have HKT := hide (keyB_take hy)
          have hkl := keyB_take_le xl (q + 1)
          have hle := HLE.out
          have htt := HTT.out
          have hkt := HKT.out
          have htl : (tq : Int) ≤ 200000000 := by omega
          have CO := hide (fun (u : World) => numbersOf_any k y u (by omega) hno v3 v4 (by omega) v6 (by omega))
          unfold keyB at hkt
          have HKK := hide (show ((xl.take (q + 1)).map keyB).sum = ((xl.take q).map keyB).sum + (y.f.least.length + y.f.most.length) from HKT.out)
          clear hkl hle htt hkt HKT
          obtain ⟨la, lc, ma, mc, ⟨no, sz, ls, ms, en, sq⟩⟩ := y
          obtain ⟨y0, y1, y2, y3, y4, y5⟩ := h6
          unfold addAgg at CO
          simp only at *
          generalize hL1 : ls.length = L1 at *
          generalize hL2 : ms.length = L2 at *
          have v8i : (L1 : Int) ≤ 4096 := by omega
          have v10i : (L2 : Int) ≤ 4096 := by omega
          clear hfb hy hno v1 v2 v3 v4 v5 v6 v7 v9 v11 hL1 hL2
          have TF := hide ((Turns.refl (fun _ => False) wr).alloc (.cells #[.int .u64 (no : Nat), .int .i64 sz, .slice la L1 lc, .slice ma L2 mc, .int .i64 en, .int .u64 (sq : Nat)] 29))
          have RF := hide (heap_alloc_new wr (.cells #[.int .u64 (no : Nat), .int .i64 sz, .slice la L1 lc, .slice ma L2 mc, .int .i64 en, .int .u64 (sq : Nat)] 29))
          go_wp2_with fail
          refine (CO.out _).mono ?_
          rintro e w3 ⟨g, rfl, hnm, t3⟩
          have T3 := hide (TF.out.trans t3)
          have r3 := t3.heap RF.out (fun x => x)
          have HN3 := hide (numbersSize_any (some ⟨g, 0, none⟩) 5 5 _ w3 hnm rfl (by omega))
          clear hnm t3 CO y0 y1 y2 y3 y4 y5
          go_wp2_with fail
          refine HN3.out.mono ?_
          rintro e w4 ⟨s1, rfl, hs1, rfl⟩
          have e2 : w4.cell? ⟨wr.heap.size, 2, none⟩ = some (.slice la L1 lc) := cell_of_row w4 wr.heap.size 2 _ 29 (0, 0) r3
          have e3 : w4.cell? ⟨wr.heap.size, 3, none⟩ = some (.slice ma L2 mc) := cell_of_row w4 wr.heap.size 3 _ 29 (0, 0) r3
          clear r3 HN3 RF
          generalize wr.heap.size = G at *
          go_wp2_with fail
          have HN4 := hide (numbersSize_any (some ⟨w4.heap.size, 0, none⟩) 2 2 [L1, L2] (w4.drew.alloc (.cells #[.int .u64 (L1 : Nat), .int .u64 (L2 : Nat)] 23)) (nums_of_block (heap_alloc_new w4.drew _) (by simp; omega)) rfl (by omega))
          have t4 := ((Turns.refl (fun _ => False) w4).drew.alloc (.cells #[.int .u64 (L1 : Nat), .int .u64 (L2 : Nat)] 23))
          have k2 := t4.cell e2 (fun x => x)
          have k3 := t4.cell e3 (fun x => x)
          have T4 := hide t4
          clear t4
          have cv1 := conv_nat L1 (by omega)
          have cv2 := conv_nat L2 (by omega)
          have t5 := ((Turns.refl (fun _ => False) w4).alloc (.cells #[.int .u64 (L1 : Nat), .int .u64 (L2 : Nat)] 23))
          have k4 := t5.cell e2 (fun x => x)
          have k5 := t5.cell e3 (fun x => x)
          clear t5
          go_region_held (fun w' => w'.cell? ⟨G, 2, none⟩ = some (.slice la L1 lc) ∧ w'.cell? ⟨G, 3, none⟩ = some (.slice ma L2 mc)) (first | (with_reducible exact ⟨k2, k3⟩) | (simp only [World.cell?_drew]; with_reducible exact ⟨k4, k5⟩) | (simp only [World.cell?_drew]; with_reducible exact ⟨e2, e3⟩)) (first
            | (go_at_call 85; refine HN4.out.mono ?_; rintro e w5 ⟨s2, rfl, hs2, rfl⟩))
          have hs2i : (s2 : Int) ≤ 20 := by omega
          have hs1i : (s1 : Int) ≤ 50 := by omega
          go_wp2_with fail
          go_roundw
          case rel => exact ⟨q + 1, tq + s1 + (s2 + L1 + L2), by go_num, by rw [wrapI ((s2 : Int) + L1) (by omega) (by omega), wrapI ((s2 : Int) + L1 + L2) (by omega) (by omega), wrapI ((tq : Int) + s1 + (s2 + L1 + L2)) (by omega) (by omega)]; simp, by omega, by have := HTT.out; have := HKK.out; omega, HB2.out.trans (T3.out.trans T4.out)⟩
          case measure => simp [intOf]; omega
        · obtain rfl : q = XL := by omega
          have ht : xl.take q = xl := List.take_of_length_le (by have := HXL.out; omega)
          rw [ht] at HTT
          go_wp2_with fail
          go_roundw
          case rel => exact ⟨k + 1, tq, by go_num, rfl, by omega, by have := HTT.out; rw [HCT.out, HBT.out]; omega, HB2.out⟩
          case measure => simp [intOf]; omega
    · obtain rfl : k = n := by omega
      have ht : L.take k = L := List.take_of_length_le (by have := HL.out; omega)
      rw [ht] at HTT
      go_wp2_with fail
      go_ret
      exact ⟨t, rfl, by have := HTT.out; have := HT.out; omega, HB.out⟩
end Go.Proofs.Ytkmcdjbadngfgaa

/-
  Whether a version may be.
-/
namespace Go.Proofs.Ytkmcdjbadngfgaa
open Go.RowKit Go.Maps
set_option maxRecDepth 100000
set_option maxHeartbeats 4000000
/-- What is wrong with a level. -/
def wrongLv (next lev : Nat) (l : List Tf) : Bool := l.any wrongT || l.any (newT next) || !ordF lev (fls l)
def headBad (next seq log : Nat) : Bool := decide (next < 1) || decide (1000000000000 < next) || decide (72057594037927935 < seq) || decide (1000000000000 ≤ log)
/-- What is wrong with a version. -/
def wrongV (L : List Lv) (next seq log : Nat) : Bool :=
  headBad next seq log || decide (L.length ≠ 5) || L.zipIdx.any (fun p => wrongLv next p.2 p.1.l) || !decide (numsL L).Nodup
theorem wrongLv_take {L : List Lv} {next k : Nat} {x : Lv} (h : L[k]? = some x) : (L.take (k + 1)).zipIdx.any (fun p => wrongLv next p.2 p.1.l) = ((L.take k).zipIdx.any (fun p => wrongLv next p.2 p.1.l) || wrongLv next k x.l) := by
  have hi := (List.getElem?_eq_some_iff.1 h).1
  have e : L.take (k + 1) = L.take k ++ [x] := by rw [List.take_add_one, h]; rfl
  have hl : (L.take k).length = k := by rw [List.length_take]; omega
  rw [e, List.zipIdx_append, List.any_append, hl, Nat.zero_add]
  simp
theorem wrongLv_mem {L : List Lv} {next k : Nat} {x : Lv} (h : L[k]? = some x) (hw : wrongLv next k x.l = true) : L.zipIdx.any (fun p => wrongLv next p.2 p.1.l) = true :=
  List.any_eq_true.2 ⟨(x, k), List.mem_zipIdx_iff_getElem?.2 h, hw⟩
theorem isWrong_any (a : Option Addr) (n c next seq log : Nat) (L : List Lv) (w : World) (h : Levs w a L) (hn : n = L.length) (hc : cnt L ≤ 1000000) (hf : Fit L) :
    Calls Try.prog 55 #[verAgg a n c next seq log] w fun e w' => e = .returned (.bool (wrongV L next seq log)) ∧ Turns (fun _ => False) w w' := by
  have H := hide h
  have HL := hide hn
  have HC := hide hc
  have HF := hide hf
  have TA := hide ((Turns.refl (fun _ => False) w).alloc (.cells #[.slice a n c, .int .u64 (next : Nat), .int .u64 (seq : Nat), .int .u64 (log : Nat)] 25))
  have R0 := hide (heap_alloc_new w (.cells #[.slice a n c, .int .u64 (next : Nat), .int .u64 (seq : Nat), .int .u64 (log : Nat)] 25))
  unfold verAgg
  clear h hn hc hf
  by_cases h1 : next < 1
  · have i1 : (next : Int) < 1 := by omega
    go_enter Try.func55, Try.ntmps55
    go_wp2_with fail
    go_ret
    exact ⟨congrArg Ending.returned (congrArg Value.bool (by simp [wrongV, headBad, h1])), TA.out⟩
  have i1 : ¬ (next : Int) < 1 := by omega
  by_cases h2 : 1000000000000 < next
  · have i2 : (1000000000000 : Int) < next := by omega
    go_enter Try.func55, Try.ntmps55
    go_wp2_with fail
    go_ret
    exact ⟨congrArg Ending.returned (congrArg Value.bool (by simp [wrongV, headBad, h2])), TA.out⟩
  have i2 : ¬ (1000000000000 : Int) < next := by omega
  by_cases h3 : 72057594037927935 < seq
  · have i3 : (72057594037927935 : Int) < seq := by omega
    go_enter Try.func55, Try.ntmps55
    go_wp2_with fail
    go_ret
    exact ⟨congrArg Ending.returned (congrArg Value.bool (by simp [wrongV, headBad, h3])), TA.out⟩
  have i3 : ¬ (72057594037927935 : Int) < seq := by omega
  by_cases h4 : 1000000000000 ≤ log
  · have i4 : (1000000000000 : Int) ≤ log := by omega
    go_enter Try.func55, Try.ntmps55
    go_wp2_with fail
    go_ret
    exact ⟨congrArg Ending.returned (congrArg Value.bool (by simp [wrongV, headBad, h4])), TA.out⟩
  have i4 : ¬ (1000000000000 : Int) ≤ log := by omega
  have HH := hide (show headBad next seq log = false by simp [headBad]; omega)
  by_cases h5 : n ≠ 5
  · have i5 : ¬ (n : Int) = 5 := by omega
    go_enter Try.func55, Try.ntmps55
    go_wp2_with fail
    go_ret
    exact ⟨congrArg Ending.returned (congrArg Value.bool (by have := HL.out; simp [wrongV]; omega)), TA.out⟩
  obtain rfl : n = 5 := by omega
  clear h5 h1 h2 h3 h4
  go_enter Try.func55, Try.ntmps55
  go_wp2_with fail
  generalize w.alloc (.cells #[.slice a 5 c, .int .u64 (next : Nat), .int .u64 (seq : Nat), .int .u64 (log : Nat)] 25) = w0 at *
  have hT := HL.out
  go_loopw [28] (fun i wr => ∃ k : Nat, i = .int .i64 (k : Nat) ∧ k ≤ 5 ∧ (L.take k).zipIdx.any (fun p => wrongLv next p.2 p.1.l) = false ∧ Turns (fun _ => False) w0 wr) (fun i _ => 5 - (intOf i).toNat)
  case atStart => exact ⟨0, rfl, Nat.zero_le _, by simp, Turns.refl _ _⟩
  case round =>
    obtain ⟨k, rfl, hk, hno, hb⟩ := hrel
    have HB := hide (TA.out.trans hb)
    have HB0 := hide hb
    have HNO := hide hno
    clear hb hno hT
    by_cases hkn : k < 5
    · obtain ⟨x, hx⟩ : ∃ x, L[k]? = some x := ⟨_, List.getElem?_eq_getElem (by have := HL.out; omega)⟩
      obtain ⟨⟨b, off, rfl, hcl⟩, hfb⟩ := (H.out.quiet HB.out) k x hx
      have i5 : (k : Int) < 5 := by omega
      have i0 : (0 : Int) ≤ (k : Int) := by omega
      have HX := hide hx
      have q1 := cnt_take_le L (k + 1)
      have q2 := cnt_take hx
      have q3 := HC.out
      have hxl : x.l.length ≤ 1000000 := by omega
      have vn : wr.cell? ⟨w.heap.size, 1, none⟩ = some (.int .u64 (next : Nat)) := HB0.out.cell (cell_of_row w0 w.heap.size 1 _ 25 (0, 0) R0.out) (fun x => x)
      have CW := hide (fun (u : World) (t : Turns (fun _ => False) wr u) => contains_wrong x.a x.l.length x.c x.l u (hfb.quiet t) rfl hxl)
      have CNW := hide (fun (u : World) (t : Turns (fun _ => False) wr u) => contains_new x.a x.l.length x.c x.l w.heap.size next u (hfb.quiet t) rfl hxl (t.cell vn (fun x => x)))
      have CI := hide (fun (u : World) (t : Turns (fun _ => False) wr u) => inOrder_any k x.a x.l.length x.c x.l u (hfb.quiet t) rfl hxl)
      have HWT := hide (wrongLv_take (next := next) hx)
      have HWM := hide (wrongLv_mem (next := next) hx)
      obtain ⟨xa, xc, xl⟩ := x
      unfold wrongLv at HWT HWM
      simp only at *
      clear hfb hx q1 q2 q3 hxl
      generalize xl.length = XL at *
      generalize hA : xl.any wrongT = A at *
      generalize hB' : xl.any (newT next) = A' at *
      generalize hC' : ordF k (fls xl) = A'' at *
      clear hA hB' hC'
      go_wp2_with fail
      refine (CW.out _ (Turns.refl _ _)).mono ?_
      rintro e w1 ⟨rfl, t1⟩
      have T1 := hide t1
      clear t1
      cases A
      · go_wp2_with fail
        refine (CNW.out _ T1.out).mono ?_
        rintro e w2 ⟨rfl, t2⟩
        have T2 := hide (T1.out.trans t2)
        clear t2
        cases A'
        · go_wp2_with fail
          refine (CI.out _ T2.out).mono ?_
          rintro e w3 ⟨rfl, t3⟩
          have T3 := hide (T2.out.trans t3)
          clear t3
          cases A''
          · go_wp2_with fail
            go_ret
            exact ⟨congrArg Ending.returned (congrArg Value.bool (by have := HWM.out rfl; unfold wrongV wrongLv; simp [this])), HB.out.trans T3.out⟩
          · go_wp2_with fail
            go_roundw
            case rel => exact ⟨k + 1, by go_num, by omega, by unfold wrongLv; rw [HWT.out]; have := HNO.out; unfold wrongLv at this; rw [this]; rfl, HB0.out.trans T3.out⟩
            case measure => simp [intOf]; omega
        · go_wp2_with fail
          go_ret
          exact ⟨congrArg Ending.returned (congrArg Value.bool (by have := HWM.out rfl; unfold wrongV wrongLv; simp [this])), HB.out.trans T2.out⟩
      · go_wp2_with fail
        go_ret
        exact ⟨congrArg Ending.returned (congrArg Value.bool (by have := HWM.out rfl; unfold wrongV wrongLv; simp [this])), HB.out.trans T1.out⟩
    · obtain rfl : k = 5 := by omega
      have ht : L.take 5 = L := List.take_of_length_le (by have := HL.out; omega)
      rw [ht] at HNO
      have d0 : wr.cell? ⟨w.heap.size, 0, none⟩ = some (.slice a 5 c) := HB0.out.cell (cell_of_row w0 w.heap.size 0 _ 25 (0, 0) R0.out) (fun x => x)
      have CT := hide (hasTwice_any a 5 c L wr (H.out.quiet HB.out) HL.out (by omega) HC.out HF.out)
      clear ht
      generalize hD : decide (numsL L).Nodup = D at *
      have HD := hide hD
      clear hD
      go_wp2_with fail
      refine CT.out.mono ?_
      rintro e w1 ⟨rfl, t1⟩
      have T1 := hide t1
      clear t1
      go_wp2_with fail
      go_ret
      refine ⟨congrArg Ending.returned (congrArg Value.bool ?_), HB.out.trans T1.out⟩
      unfold wrongV
      rw [HH.out, HNO.out, HD.out, ← HL.out]
      simp
end Go.Proofs.Ytkmcdjbadngfgaa

/-
  Check.
-/
namespace Go.Proofs.Ytkmcdjbadngfgaa
open Go.RowKit Go.Maps
set_option maxRecDepth 100000
set_option maxHeartbeats 4000000
def chkV (L : List Lv) (next seq log : Nat) : Int := if wrongV L next seq log then 2 else 0
theorem wrongV_files {L : List Lv} {next seq log : Nat} (h : wrongV L next seq log = false) : ∀ x ∈ L, ∀ y ∈ x.l, wrongF y.f = false := by
  intro x hx y hy
  unfold wrongV at h
  simp only [Bool.or_eq_false_iff] at h
  obtain ⟨k, hk⟩ := List.getElem?_of_mem hx
  have := List.any_eq_false.1 h.1.2 (x, k) (List.mem_zipIdx_iff_getElem?.2 hk)
  simp only [wrongLv, Bool.or_eq_true, not_or] at this
  have h2 := this.1.1
  rw [Bool.not_eq_true] at h2
  have := List.any_eq_false.1 h2 y hy
  simpa [wrongT] using this
/-- A version in memory that is not too long. -/
structure VerIn (w : World) (a : Option Addr) (n : Nat) (L : List Lv) (next seq log : Nat) : Prop where
  levs : Levs w a L
  len : n = L.length
  cnt : cnt L ≤ 5000
  byts : byts L ≤ 600000
  fit : Fit L
  b1 : next < 18446744073709551616
  b2 : seq < 18446744073709551616
  b3 : log < 18446744073709551616
theorem VerIn.quiet {w w' : World} {a : Option Addr} {n : Nat} {L : List Lv} {next seq log : Nat} (h : VerIn w a n L next seq log) (t : Turns (fun _ => False) w w') : VerIn w' a n L next seq log := ⟨h.levs.quiet t, h.len, h.cnt, h.byts, h.fit, h.b1, h.b2, h.b3⟩
theorem isLong_any (a : Option Addr) (n c next seq log : Nat) (L : List Lv) (w : World) (h : VerIn w a n L next seq log) (h0 : wrongV L next seq log = false) :
    Calls Try.prog 56 #[verAgg a n c next seq log] w fun e w' => e = .returned (.bool false) ∧ Turns (fun _ => False) w w' := by
  have H5 : n = 5 := by
    unfold wrongV at h0
    simp only [Bool.or_eq_false_iff, decide_eq_false_iff_not] at h0
    have := h.len
    omega
  subst H5
  have TA := hide ((Turns.refl (fun _ => False) w).alloc (.cells #[.slice a 5 c, .int .u64 (next : Nat), .int .u64 (seq : Nat), .int .u64 (log : Nat)] 25))
  have R0 := hide (heap_alloc_new w (.cells #[.slice a 5 c, .int .u64 (next : Nat), .int .u64 (seq : Nat), .int .u64 (log : Nat)] 25))
  have CN := hide (count_any a 5 c L _ (h.levs.quiet TA.out) h.len (by omega) (by have := h.cnt; omega))
  have WS := hide (fun (u : World) (t : Turns (fun _ => False) w u) => wholeSize_any a 5 c next seq log L u (h.levs.quiet t) h.len (by omega) (by have := h.cnt; omega) h.fit (wrongV_files h0) h.b1 h.b2 h.b3 (by have := h.byts; omega))
  have HC := hide h.cnt
  have HBY := hide h.byts
  unfold verAgg at WS ⊢
  clear h h0
  go_enter Try.func56, Try.ntmps56
  go_wp2_with fail
  refine CN.out.mono ?_
  rintro e w1 ⟨rfl, t1⟩
  have r1 := t1.heap R0.out (fun x => x)
  have c0 := cell_of_row w1 w.heap.size 0 _ 25 (0, 0) r1
  have c1 := cell_of_row w1 w.heap.size 1 _ 25 (0, 0) r1
  have c2 := cell_of_row w1 w.heap.size 2 _ 25 (0, 0) r1
  have c3 := cell_of_row w1 w.heap.size 3 _ 25 (0, 0) r1
  have T1 := hide (TA.out.trans t1)
  have hl : ¬ (10000 : Int) < (cnt L : Nat) := by have := HC.out; omega
  clear t1 r1 CN
  go_wp2_with fail
  refine (WS.out _ T1.out).mono ?_
  rintro e w2 ⟨t, rfl, ht, t2⟩
  have hl2 : ¬ (1048576 : Int) < (t : Nat) := by have := HC.out; have := HBY.out; omega
  have T2 := hide (T1.out.trans t2)
  clear t2 ht c0 c1 c2 c3
  go_wp2_with fail
  go_ret
  refine ⟨congrArg Ending.returned (congrArg Value.bool ?_), T2.out⟩
  first | rfl | (simp; omega)
theorem check_any (a : Option Addr) (n c next seq log : Nat) (L : List Lv) (w : World) (h : VerIn w a n L next seq log) :
    Calls Try.prog 42 #[verAgg a n c next seq log] w fun e w' => e = .returned (.int .i64 (chkV L next seq log)) ∧ Turns (fun _ => False) w w' := by
  have TA := hide ((Turns.refl (fun _ => False) w).alloc (.cells #[.slice a n c, .int .u64 (next : Nat), .int .u64 (seq : Nat), .int .u64 (log : Nat)] 25))
  have R0 := hide (heap_alloc_new w (.cells #[.slice a n c, .int .u64 (next : Nat), .int .u64 (seq : Nat), .int .u64 (log : Nat)] 25))
  have CW := hide (isWrong_any a n c next seq log L _ (h.levs.quiet TA.out) h.len (by have := h.cnt; omega) h.fit)
  have CL := hide (fun (u : World) (t : Turns (fun _ => False) w u) (h0 : wrongV L next seq log = false) => isLong_any a n c next seq log L u (h.quiet t) h0)
  have HV := hide (show chkV L next seq log = if wrongV L next seq log then 2 else 0 from rfl)
  unfold verAgg at *
  clear h
  generalize hV : wrongV L next seq log = V at *
  clear hV
  generalize chkV L next seq log = CV at *
  go_enter Try.func42, Try.ntmps42
  go_wp2_with fail
  refine CW.out.mono ?_
  rintro e w1 ⟨rfl, t1⟩
  have r1 := t1.heap R0.out (fun x => x)
  have c0 := cell_of_row w1 w.heap.size 0 _ 25 (0, 0) r1
  have c1 := cell_of_row w1 w.heap.size 1 _ 25 (0, 0) r1
  have c2 := cell_of_row w1 w.heap.size 2 _ 25 (0, 0) r1
  have c3 := cell_of_row w1 w.heap.size 3 _ 25 (0, 0) r1
  have T1 := hide (TA.out.trans t1)
  clear t1 r1 CW
  cases V
  · go_wp2_with fail
    refine (CL.out _ T1.out trivial).mono ?_
    rintro e w2 ⟨rfl, t2⟩
    have T2 := hide (T1.out.trans t2)
    clear t2
    go_wp2_with fail
    go_ret
    exact ⟨congrArg Ending.returned (by rw [HV.out]; rfl), T2.out⟩
  · go_wp2_with fail
    go_ret
    exact ⟨congrArg Ending.returned (by rw [HV.out]; rfl), T1.out⟩
end Go.Proofs.Ytkmcdjbadngfgaa
