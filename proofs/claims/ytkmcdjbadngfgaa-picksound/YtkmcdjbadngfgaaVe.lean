/-
  The lists of a version in memory; how many files; on which level each number stands; whether one stands twice.
-/
import Derived.Test.YtkmcdjbadngfgaaVd
namespace Go.Proofs.Ytkmcdjbadngfgaa
open Go.RowKit Go.Maps
set_option maxRecDepth 100000
set_option maxHeartbeats 4000000
/-- A list of files: where it lies. -/
structure Lv where
  a : Option Addr
  c : Nat
  l : List Tf
/-- Lists, one behind the other. -/
def Levs (w : World) (a : Option Addr) (L : List Lv) : Prop := ∀ (k : Nat) (x : Lv), L[k]? = some x → (∃ b off, a = some ⟨b, off, none⟩ ∧ w.cell? ⟨b, off + k, none⟩ = some (.slice x.a x.l.length x.c)) ∧ Fils w x.a x.l
theorem Levs.quiet {w w' : World} {a : Option Addr} {L : List Lv} (h : Levs w a L) (t : Turns (fun _ => False) w w') : Levs w' a L := fun k x hx => by
  obtain ⟨⟨b, off, e, hc⟩, ho⟩ := h k x hx
  exact ⟨⟨b, off, e, t.cell hc (fun x => x)⟩, ho.quiet t⟩
def cnt (L : List Lv) : Nat := (L.map fun x => x.l.length).sum
theorem cnt_take {L : List Lv} {i : Nat} {x : Lv} (h : L[i]? = some x) : cnt (L.take (i + 1)) = cnt (L.take i) + x.l.length := by
  have e : L.take (i + 1) = L.take i ++ [x] := by rw [List.take_add_one, h]; rfl
  unfold cnt
  rw [e, List.map_append, List.sum_append]
  simp
theorem cnt_take_le (L : List Lv) (i : Nat) : cnt (L.take i) ≤ cnt L := by
  have : cnt L = cnt (L.take i) + cnt (L.drop i) := by unfold cnt; rw [← List.sum_append, ← List.map_append, List.take_append_drop]
  omega
theorem count_any (a : Option Addr) (n c : Nat) (L : List Lv) (w : World) (h : Levs w a L) (hn : n = L.length) (hmx : n ≤ 1000) (hc : cnt L ≤ 1000000) :
    Calls Try.prog 73 #[.agg #[.slice a n c]] w fun e w' => e = .returned (.int .i64 (cnt L : Nat)) ∧ Turns (fun _ => False) w w' := by
  have H := hide h
  have HL := hide hn
  have HC := hide hc
  have hni : (n : Int) ≤ 1000 := by omega
  have TA := hide ((Turns.refl (fun _ => False) w).alloc (.cells #[.slice a n c] 90))
  clear h hn hc
  go_enter Try.func73, Try.ntmps73
  go_wp2_with fail
  generalize w.alloc (.cells #[.slice a n c] 90) = w0 at *
  go_loopw [3, 9] (fun s i wr => ∃ k : Nat, i = .int .i64 (k : Nat) ∧ s = .int .i64 (cnt (L.take k) : Nat) ∧ k ≤ n ∧ Turns (fun _ => False) w wr) (fun _ i _ => n - (intOf i).toNat)
  case atStart => exact ⟨0, rfl, rfl, Nat.zero_le _, TA.out⟩
  case round =>
    obtain ⟨k, rfl, rfl, hk, hb⟩ := hrel
    have HB := hide hb
    clear hb
    by_cases hkn : k < n
    · obtain ⟨x, hx⟩ : ∃ x, L[k]? = some x := ⟨_, List.getElem?_eq_getElem (by have := HL.out; omega)⟩
      obtain ⟨⟨b, off, rfl, hcl⟩, hfb⟩ := (H.out.quiet HB.out) k x hx
      have i1 : (k : Int) < (n : Int) := by omega
      have i0 : (0 : Int) ≤ (k : Int) := by omega
      have HTK := hide (cnt_take hx)
      have h1 := cnt_take_le L (k + 1)
      have h2 := cnt_take hx
      have h3 := HC.out
      obtain ⟨xa, xc, xl⟩ := x
      simp only at *
      have HLE := hide (show cnt (L.take k) + xl.length ≤ 1000000 by omega)
      clear hfb hx h1 h2 h3
      generalize xl.length = XL at *
      generalize hT : cnt (L.take k) = T at *
      have hTi : (T : Int) + XL ≤ 1000000 := by have := HLE.out; omega
      clear hT
      go_wp2_with fail
      go_roundw
      case rel => exact ⟨k + 1, by go_num, by rw [HTK.out]; go_num, by omega, HB.out⟩
      case measure => simp [intOf]; omega
    · obtain rfl : k = n := by omega
      have ht : L.take k = L := List.take_of_length_le (by have := HL.out; omega)
      rw [ht]
      have h3 := HC.out
      clear ht
      generalize hT : cnt L = T at *
      have HT := hide hT
      clear hT
      go_wp2_with fail
      go_ret
      exact ⟨by rw [HT.out]; rfl, HB.out⟩
/-- What stands in a map behind so many stores. -/
def mp : List (Nat × Int) → (Nat → Option Int) := fun ps => ps.foldl (fun m p => upd m p.1 (some p.2)) (fun _ => none)
def sz : List (Nat × Int) → Nat := fun ps => (ps.foldl (fun (q : (Nat → Option Int) × Nat) p => (upd q.1 p.1 (some p.2), if (q.1 p.1).isSome then q.2 else q.2 + 1)) ((fun _ => none), 0)).2
theorem fold_fst (ps : List (Nat × Int)) (m : Nat → Option Int) (s : Nat) : (ps.foldl (fun (q : (Nat → Option Int) × Nat) p => (upd q.1 p.1 (some p.2), if (q.1 p.1).isSome then q.2 else q.2 + 1)) (m, s)).1 = ps.foldl (fun m p => upd m p.1 (some p.2)) m := by
  induction ps generalizing m s with
  | nil => rfl
  | cons p r ih => exact ih _ _
theorem mp_snoc (ps : List (Nat × Int)) (k : Nat) (v : Int) : mp (ps ++ [(k, v)]) = upd (mp ps) k (some v) := by simp [mp, List.foldl_append]
theorem sz_snoc (ps : List (Nat × Int)) (k : Nat) (v : Int) : sz (ps ++ [(k, v)]) = if (mp ps k).isSome then sz ps else sz ps + 1 := by
  unfold sz
  rw [List.foldl_append]
  simp only [List.foldl_cons, List.foldl_nil]
  rw [fold_fst]
  rfl
theorem snocRec {α : Type} {motive : List α → Prop} (nil : motive []) (snoc : ∀ (r : List α) (p : α), motive r → motive (r ++ [p])) (l : List α) : motive l := by
  rw [← List.reverse_reverse l]
  induction l.reverse with
  | nil => exact nil
  | cons p r ih => rw [List.reverse_cons]; exact snoc _ _ ih
theorem mp_isSome (ps : List (Nat × Int)) (k : Nat) : (mp ps k).isSome = true ↔ ∃ v, (k, v) ∈ ps := by
  induction ps using snocRec with
  | nil => simp [mp]
  | snoc r p ih =>
    obtain ⟨j, u⟩ := p
    rw [mp_snoc]
    by_cases h : k = j
    · subst h; simp [upd]
    · simp [upd, h, ih]
theorem sz_le (ps : List (Nat × Int)) : sz ps ≤ ps.length := by
  induction ps using snocRec with
  | nil => exact Nat.le_refl _
  | snoc r p ih =>
    obtain ⟨j, u⟩ := p
    rw [sz_snoc, List.length_append]
    split <;> simp <;> omega
theorem sz_eq (ps : List (Nat × Int)) : sz ps = ps.length ↔ (ps.map Prod.fst).Nodup := by
  induction ps using snocRec with
  | nil => simp [sz]
  | snoc r p ih =>
    obtain ⟨j, u⟩ := p
    have h1 := sz_le r
    rw [sz_snoc, List.length_append, List.map_append, List.nodup_append, ← ih]
    by_cases hs : (mp r j).isSome = true
    · rw [if_pos hs]
      have := (mp_isSome r j).1 hs
      simp
      constructor
      · intro h; omega
      · rintro ⟨_, h⟩
        obtain ⟨v, hv⟩ := this
        exact absurd rfl (h j v hv)
    · rw [if_neg hs]
      have := fun v hv => hs ((mp_isSome r j).2 ⟨v, hv⟩)
      simp
      exact fun _ x v hv e => this v (e ▸ hv)
theorem mp_of_nodup (ps : List (Nat × Int)) (h : (ps.map Prod.fst).Nodup) (k : Nat) (v : Int) : mp ps k = some v ↔ (k, v) ∈ ps := by
  induction ps using snocRec with
  | nil => simp [mp]
  | snoc r p ih =>
    obtain ⟨j, u⟩ := p
    rw [List.map_append, List.nodup_append] at h
    rw [mp_snoc]
    by_cases e : k = j
    · subst e
      simp [upd]
      constructor
      · intro e; exact .inr e.symm
      · rintro (hv | e)
        · exact absurd rfl (h.2.2 k (List.mem_map.2 ⟨_, hv, rfl⟩) k (by simp))
        · exact e.symm
    · simp [upd, e, ih h.1]
def prs (i : Nat) (l : List Tf) : List (Nat × Int) := l.map fun x => (x.f.no, (i : Int))
def pairsL (L : List Lv) : List (Nat × Int) := L.zipIdx.flatMap fun p => prs p.2 p.1.l
theorem pairsL_take {L : List Lv} {i : Nat} {x : Lv} (h : L[i]? = some x) : pairsL (L.take (i + 1)) = pairsL (L.take i) ++ prs i x.l := by
  have hi := (List.getElem?_eq_some_iff.1 h).1
  have e : L.take (i + 1) = L.take i ++ [x] := by rw [List.take_add_one, h]; rfl
  have hl : (L.take i).length = i := by rw [List.length_take]; omega
  unfold pairsL
  rw [e, List.zipIdx_append, List.flatMap_append, hl, Nat.zero_add]
  simp
theorem prs_take {i j : Nat} {l : List Tf} {x : Tf} (h : l[j]? = some x) : prs i (l.take (j + 1)) = prs i (l.take j) ++ [(x.f.no, (i : Int))] := by
  unfold prs
  rw [List.take_add_one, h, List.map_append]
  rfl
theorem pairsL_length (L : List Lv) : (pairsL L).length = cnt L := by
  unfold pairsL cnt prs
  rw [List.length_flatMap]
  simp only [List.length_map]
  congr 1
  have : ∀ q, (L.zipIdx q).map (fun a => a.1.l.length) = L.map fun x => x.l.length := by
    induction L with
    | nil => intro q; rfl
    | cons x r ih => intro q; rw [List.zipIdx_cons, List.map_cons, List.map_cons, ih]
  exact this 0
def numsL (L : List Lv) : List Nat := L.flatMap fun x => x.l.map fun y => y.f.no
theorem pairsL_nums (L : List Lv) : (pairsL L).map Prod.fst = numsL L := by
  unfold pairsL numsL prs
  rw [List.map_flatMap]
  simp only [List.map_map]
  have : ∀ (q : Nat), (L.zipIdx q).flatMap (fun a => List.map (Prod.fst ∘ fun x => (x.f.no, (a.2 : Int))) a.1.l) = L.flatMap fun x => x.l.map fun y => y.f.no := by
    induction L with
    | nil => intro q; rfl
    | cons x r ih =>
      intro q
      rw [List.zipIdx_cons, List.flatMap_cons, List.flatMap_cons, ih]
      rfl
  exact this 0
/-- The numbers have room. -/
def Fit (L : List Lv) : Prop := ∀ x ∈ L, ∀ y ∈ x.l, y.f.no < 18446744073709551616
end Go.Proofs.Ytkmcdjbadngfgaa
