import Derived.Test.YtpgligfolecieaaM31
import Derived.Test.YtpgligfolecieaaM21
import Derived.Test.YtpgligfolecieaaM27
/-
  CompactCalls: both sides' answers are the same.
-/
namespace Go.Proofs.Ytpgligfolecieaa
open Go.RowKit
set_option maxRecDepth 100000
set_option maxHeartbeats 4000000
theorem cutG_flat (t : Int) : ∀ (r G : List Ent), (cutG t G r).flatten = G ++ r
  | [], G => by
    rw [cutG]
    split
    · next h => rw [h]; rfl
    · simp
  | x :: r, G => by
    rw [cutG]
    split
    · rw [List.flatten_cons, cutG_flat t r [x]]
      rfl
    · rw [cutG_flat t r (G ++ [x])]
      simp
theorem cutE_flat (t : Int) (es : List Ent) : (cutE t es).flatten = es := cutG_flat t es []
theorem flat_len {α : Type} : ∀ (L : List (List α)) (r : List α), r ∈ L → r.length ≤ L.flatten.length
  | x :: L, r, h => by
    rw [List.flatten_cons, List.length_append]
    rcases List.mem_cons.1 h with rfl | h
    · omega
    · have := flat_len L r h
      omega
theorem cut_sizes {t : Int} {es : List Ent} {m : Nat} (h1 : es.length ≤ m) (h2 : ∀ x, x ∈ es → x.key.length ≤ 1000000 ∧ x.val.length ≤ 1000000) : ∀ r, r ∈ cutE t es → r.length ≤ m ∧ ∀ x, x ∈ r → x.key.length ≤ 1000000 ∧ x.val.length ≤ 1000000 := fun r hr => by
  refine ⟨?_, fun x hx => h2 x ?_⟩
  · have := flat_len _ r hr
    rw [cutE_flat] at this
    omega
  · have : x ∈ (cutE t es).flatten := List.mem_flatten.2 ⟨r, hr, hx⟩
    rwa [cutE_flat] at this
theorem mg_len {rs : List Rw} {xs : List Tow} (h : Mg (hds rs) xs) : xs.length ≤ sumR rs := by
  have hnd : (xs.map (·.e.en)).Nodup := by
    rw [List.nodup_iff_pairwise_ne, List.pairwise_map]
    exact h.1.imp fun {x y} hxy e => by
      unfold ltT at hxy
      rw [(cmpE_zero x.e.en y.e.en).2 (by rw [e]; exact ⟨rfl, rfl⟩)] at hxy
      omega
  have hsub : xs.map (·.e.en) ⊆ (allOf rs).map (·.e.en) := fun z hz => by
    obtain ⟨x, hx, rfl⟩ := List.mem_map.1 hz
    exact List.mem_map.2 ⟨x, mg_from h hx, rfl⟩
  have h1 := hnd.length_le_of_subset hsub
  rw [List.length_map, List.length_map] at h1
  have h2 : (allOf rs).length = sumR rs := by unfold allOf sumR; rw [List.length_flatMap]
  omega
theorem few_fine {rs : List Rw} (h : Few rs) : Fine rs where
  rows := by have := h.rows; omega
  all := Nat.le_trans (tot_hds rs) (by have := h.all; omega)
  size := fun x hx => by
    obtain ⟨r, hr, hxr⟩ := List.mem_flatMap.1 hx
    have := (h.each r hr).2 x hxr
    omega
theorem few_mg {rs : List Rw} (h : Few rs) : ∀ xs, Mg (hds rs) xs → xs.length ≤ 1000000 ∧ ∀ es, (∀ x, x ∈ es → x ∈ ents xs) → es.length ≤ xs.length → sizeEs es ≤ 1000000000000 := fun xs hm => by
  have h1 := mg_len hm
  have h2 := h.all
  refine ⟨by omega, fun es he hl => ?_⟩
  have hz : ∀ x, x ∈ es → sizE x ≤ 31000 := fun x hx => by
    obtain ⟨y, hy, rfl⟩ := List.mem_map.1 (he x hx)
    obtain ⟨r, hr, hxr⟩ := List.mem_flatMap.1 (mg_from hm hy)
    have := (h.each r hr).2 y hxr
    unfold sizE
    omega
  have key : ∀ es : List Ent, (∀ x, x ∈ es → sizE x ≤ 31000) → sizeEs es ≤ es.length * 31000 := fun es => by
    induction es with
    | nil => intro _; simp [sizeEs]
    | cons x r ih =>
      intro hh
      have i1 := ih fun y hy => hh y (List.mem_cons_of_mem _ hy)
      have i2 := hh x List.mem_cons_self
      unfold sizeEs at i1 ⊢
      rw [List.map_cons, List.sum_cons, List.length_cons, Nat.add_mul]
      omega
  have := key es hz
  omega
theorem files_none (w : World) (B : Nat) : Files w B [] (.slice none 0 0) := ⟨[], .inl ⟨rfl, rfl⟩, fun p hp => (by cases hp), rfl, by simp⟩
/-- Files that are of short rows. -/
def Shorts (es : List (List Ent)) : Prop := ∀ r, r ∈ es → r.length ≤ 1000000 ∧ ∀ x, x ∈ r → x.key.length ≤ 1000000 ∧ x.val.length ≤ 1000000
theorem shorts_nil : Shorts [] := fun r hr => by cases hr
theorem rowE_len (ks : List Nat) (bot : Bool) (es : List Ent) : (rowE ks bot es).length ≤ es.length := (keepB_sub es _).length_le
theorem rowE_sub {ks : List Nat} {bot : Bool} {es : List Ent} {x : Ent} (h : x ∈ rowE ks bot es) : x ∈ es := keepB_mem _ _ _ h
def Two1 (w w' : World) (B B' : Nat) (e e' : Ending) : Prop := ∃ (v v' : Value) (q : Int) (es : List (List Ent)), e = .returned (.tuple #[v, .int .i64 q]) ∧ e' = .returned (.tuple #[v', .int .i64 q]) ∧ Files w B es v ∧ Files w' B' es v' ∧ Shorts es
theorem run_both {w0 w w' w1 w1' : World} {a : Option Addr} {rs : List Rw} {ks : List Nat} {bot : Bool} {t : Int} {e e' : Ending} (hr : RowsIn w0 a rs) (hf : Few rs) (h : RunOk w w' rs ks bot t e) (h' : RunOkR w1 w1' rs ks bot t (eachOrd rs && looksOk ks && tgt t) e') : Two1 w' w1' w.heap.size w1.heap.size e e' := by
  rcases h with ⟨h0, rfl⟩ | ⟨h0, v, xs, rfl, hm, hfi⟩
  · rcases h' with ⟨_, rfl⟩ | ⟨h1, _⟩
    · exact ⟨_, _, 2, [], rfl, rfl, files_none _ _, files_none _ _, shorts_nil⟩
    · rw [h0] at h1; cases h1
  · rcases h' with ⟨h1, _⟩ | ⟨_, v', xs', rfl, hm', hfi'⟩
    · rw [h0] at h1; cases h1
    · have ho : eachOrd rs = true := by
        rw [Bool.and_eq_true, Bool.and_eq_true] at h0
        exact h0.1.1
      have hx : xs' = xs := Mg.uniq (hds_up hr (few_fine hf).rows ho) hds_no hm' hm
      subst hx
      rw [rowE_mem (allC_mem ks)] at hfi
      refine ⟨v, v', 0, _, rfl, rfl, hfi, hfi', fun r hr => ?_⟩
      have h2 := cut_sizes (t := t) (es := rowE (allN ks) bot (ents xs')) (m := 1000000) (by
        have h3 := rowE_len (allN ks) bot (ents xs')
        have h4 := ((few_mg hf) xs' hm).1
        have h5 : (ents xs').length = xs'.length := by simp [ents]
        omega) (fun x hx => by
        obtain ⟨y, hy, rfl⟩ := List.mem_map.1 (rowE_sub hx)
        have := (few_fine hf).size y (mg_from hm hy)
        exact this)
      exact h2 r hr
def Two2 (w w' : World) (e e' : Ending) : Prop := ∃ (a a' : Option Addr) (n c c' : Nat) (Q Q' : List Tow) (q : Int), e = .returned (.tuple #[.slice a n c, .int .i64 q]) ∧ e' = .returned (.tuple #[.slice a' n c', .int .i64 q]) ∧ Ents w a Q ∧ Ents w' a' Q' ∧ n = Q.length ∧ Q.map (·.e) = Q'.map (·.e) ∧ n ≤ 1000000 ∧ ∀ x, x ∈ Q → x.e.key.length ≤ 1000000 ∧ x.e.val.length ≤ 1000000
theorem ents_nil2 (w : World) : Ents w none [] := fun k x h => by simp at h
theorem row_both {w w' w1 w1' : World} {l0 l : List Tow} {ks : List Nat} {bot : Bool} {e e' : Ending} {a : Option Addr} (hl : ents l0 = ents l) (hE : Ents w1' a l) (hn : l.length ≤ 1000000) (hs : ∀ x, x ∈ l → x.e.key.length ≤ 1000000 ∧ x.e.val.length ≤ 1000000) (h : RowOk w w' (inOrd (ents l0) && looksOk ks) (rowE (allC ks) bot (ents l0)) e) (h' : RRowR w1 w1' l (rowE (allN ks) bot (ents l)) (inOrd (ents l) && looksOk ks) e') : Two2 w' w1' e e' := by
  rw [hl] at h
  rcases h with ⟨h0, rfl⟩ | ⟨h0, a1, n, c, Q, rfl, h1, h2, h3, h4, _⟩
  · rcases h' with ⟨_, rfl⟩ | ⟨h1, _⟩
    · exact ⟨none, none, 0, 0, 0, [], [], 2, rfl, rfl, ents_nil2 _, ents_nil2 _, rfl, rfl, by omega, fun x hx => (by cases hx)⟩
    · rw [h0] at h1; cases h1
  · rcases h' with ⟨k1, _⟩ | ⟨_, v', Q', rfl, hk, hq⟩
    · rw [h0] at k1; cases k1
    · rw [rowE_mem (allC_mem ks)] at h3
      have hm : Q.map (·.e) = Q'.map (·.e) := by
        have := h3.trans hq.symm
        exact this
      obtain ⟨a2, c2, e2, hEQ, _⟩ := ents_row h2 fun x hx => ⟨(h4 x hx).1, (h4 x hx).2.1⟩
      cases e2
      obtain ⟨a3, c3, rfl, hEQ', _⟩ := ents_row hk.row fun x hx => by
        obtain ⟨i, hi⟩ := List.getElem?_of_mem (hk.mem x hx)
        have := (hE i x hi).2
        exact this
      have hlen : Q'.length = Q.length := by
        have := congrArg List.length hm
        simpa using this.symm
      refine ⟨_, _, Q.length, c, c3, Q, Q', 0, rfl, by rw [hlen], hEQ, hEQ', rfl, hm, ?_, fun x hx => ?_⟩
      · have h5 := rowE_len (allN ks) bot (ents l)
        have h6 := congrArg List.length h3
        have h7 : (ents Q).length = Q.length := by simp [ents]
        have h8 : (ents l).length = l.length := by simp [ents]
        omega
      · have h5 : x.e ∈ ents Q := List.mem_map.2 ⟨x, hx, rfl⟩
        rw [h3] at h5
        obtain ⟨y, hy, e⟩ := List.mem_map.1 (rowE_sub h5)
        have := hs y hy
        have e2 : y.e = x.e := e
        rw [← e2]
        exact this
theorem cut_both {w w' w1 w1' : World} {l0 l : List Tow} {t : Int} {e e' : Ending} (hl : ents l0 = ents l) (hn : l.length ≤ 1000000) (hs : ∀ x, x ∈ l → x.e.key.length ≤ 1000000 ∧ x.e.val.length ≤ 1000000) (h : CutOk w w' (inOrd (ents l0) && tgt t) (cutE t (ents l0)) e) (h' : CutOkR w1 w1' (inOrd (ents l) && tgt t) (cutE t (ents l)) e') : Two1 w' w1' w.heap.size w1.heap.size e e' := by
  rw [hl] at h
  rcases h with ⟨h0, rfl⟩ | ⟨h0, v, rfl, hfi⟩
  · rcases h' with ⟨_, rfl⟩ | ⟨h1, _⟩
    · exact ⟨_, _, 2, [], rfl, rfl, files_none _ _, files_none _ _, shorts_nil⟩
    · rw [h0] at h1; cases h1
  · rcases h' with ⟨h1, _⟩ | ⟨_, v', rfl, hfi'⟩
    · rw [h0] at h1; cases h1
    · exact ⟨v, v', 0, _, rfl, rfl, hfi, hfi', cut_sizes (by simp [ents]; exact hn) fun x hx => by
        obtain ⟨y, hy, rfl⟩ := List.mem_map.1 hx
        exact hs y hy⟩
/-- Truth values, or none. -/
def BV (w : World) (a : Option Addr) (bs : List Bool) : Prop := ∀ k b, bs[k]? = some b → ∃ g, a = some ⟨g, 0, none⟩ ∧ w.cell? ⟨g, k, none⟩ = some (.bool b)
def Two3 (w w' : World) (m : Nat) (e e' : Ending) : Prop := ∃ (a a' : Option Addr) (n : Nat) (bs : List Bool) (q : Int), e = .returned (.tuple #[.slice a n n, .int .i64 q]) ∧ e' = .returned (.tuple #[.slice a' n n, .int .i64 q]) ∧ BV w a bs ∧ BV w' a' bs ∧ n = bs.length ∧ n ≤ m
theorem bv_of {w : World} {g : Nat} {bs : List Bool} (h : Bools w g bs) : BV w (some ⟨g, 0, none⟩) bs := fun k b hk => by
  obtain ⟨cs, h1, _, h3⟩ := h
  exact ⟨g, rfl, by rw [cell_of_row w g k cs 4 (0, 0) h1]; exact h3 k b hk⟩
theorem BV.quiet {w w' : World} {a : Option Addr} {bs : List Bool} (h : BV w a bs) (t : Turns (fun _ => False) w w') : BV w' a bs := fun k b hk => by
  obtain ⟨g, e, hc⟩ := h k b hk
  exact ⟨g, e, t.cell hc (fun x => x)⟩
theorem seen_both {w w' : World} {l0 l : List Tow} {n : Nat} {ks : List Nat} {e e' : Ending} (hl : ents l0 = ents l) (hn : n = l.length) (h : SeenOk w n (inOrd (ents l0) && looksOk ks) (vis (allC ks) (ents l0)) e) (h' : SeenOk w' n (inOrd (ents l) && looksOk ks) (vis (allN ks) (ents l)) e') : Two3 w w' n e e' := by
  rw [hl, vis_mem (allC_mem ks)] at h
  rcases h with ⟨h0, rfl⟩ | ⟨h0, g, rfl, hb⟩
  · rcases h' with ⟨_, rfl⟩ | ⟨h1, _⟩
    · exact ⟨none, none, 0, [], 2, rfl, rfl, fun k b hk => by simp at hk, fun k b hk => by simp at hk, rfl, Nat.zero_le _⟩
    · rw [h0] at h1; cases h1
  · rcases h' with ⟨h1, _⟩ | ⟨_, g', rfl, hb'⟩
    · rw [h0] at h1; cases h1
    · exact ⟨_, _, n, _, 0, rfl, rfl, bv_of hb, bv_of hb', by rw [vis_length, hn]; simp [ents], Nat.le_refl _⟩
theorem Files.quiet {w w' : World} {B : Nat} {es : List (List Ent)} {v : Value} (h : Files w B es v) (t : Turns (fun _ => False) w w') : Files w' B es v := by
  obtain ⟨ps, h1, h2, h3⟩ := h
  exact ⟨ps, h1.keep t (fun _ _ x => x), fun p hp => ⟨(h2 p hp).1.quiet t, (h2 p hp).2⟩, h3⟩
end Go.Proofs.Ytpgligfolecieaa

/-
  lives, and CompactNames' walk.
-/
namespace Go.Proofs.Ytpgligfolecieaa
open Go.RowKit
set_option maxRecDepth 100000
set_option maxHeartbeats 8000000
theorem u64s_nil (w : World) : U64s w none [] := fun k s h => by simp at h
theorem u64s_one {w : World} {g : Nat} (h : w.heap[g]? = some (.cells #[.int .u64 1] 27 (0, 0))) : U64s w (some ⟨g, 0, none⟩) [1] := fun k s hk => by
  obtain ⟨rfl, rfl⟩ : k = 0 ∧ s = 1 := by
    rcases k with _ | k
    · exact ⟨rfl, by simpa using hk.symm⟩
    · simp at hk
  exact ⟨⟨g, 0, rfl, cell_of_row w g 0 _ 27 (0, 0) h⟩, by decide⟩
theorem bytes_nov {w : World} {t : Tow} (h1 : t.va = none) (h2 : t.vc = 0) (h3 : t.e.val = []) : Bytes w t.vv t.e.val := by
  unfold Tow.vv
  rw [h1, h2, h3]
  exact Bytes.empty w
def l3 : List Ent := [pA 3, pA 2, pA 1]
def l2 : List Ent := [dA 3, pA 1]
theorem ex1 : (inOrd l3 && looksOk []) = true := by decide
theorem ex2 : (inOrd l3 && looksOk [1]) = true := by decide
theorem ex3 : (inOrd l2 && looksOk []) = true := by decide
theorem ex4 : (inOrd l2 && looksOk [1]) = true := by decide
theorem er1 : rowE (allC []) false l3 = [pA 3] := by rfl
theorem er2 : rowE (allC [1]) false l3 = [pA 3, pA 1] := by rfl
theorem er3 : rowE (allC []) true l2 = [] := by rfl
theorem er4 : rowE (allC [1]) true l2 = [dA 3, pA 1] := by rfl
theorem putA1 (w : World) : Calls Try.prog 7 #[.string ⟨#[97]⟩, .int .u64 1] w fun e w' => ∃ ka kc, e = .returned (.agg #[.slice ka 1 kc, .int .u64 1, .int .i64 1, .slice none 0 0]) ∧ Bytes w' (.slice ka 1 kc) [97#8] ∧ Turns (fun _ => False) w w' := by
  refine (show Calls Try.prog 7 #[.string ⟨#[97]⟩, .int .u64 1] w _ from put_any ⟨#[97]⟩ 1 w).mono ?_
  rintro e w' ⟨ka, kc, rfl, hb, hw⟩
  exact ⟨ka, kc, rfl, hb, Turns.of_below hw _⟩
theorem putA2 (w : World) : Calls Try.prog 7 #[.string ⟨#[97]⟩, .int .u64 2] w fun e w' => ∃ ka kc, e = .returned (.agg #[.slice ka 1 kc, .int .u64 2, .int .i64 1, .slice none 0 0]) ∧ Bytes w' (.slice ka 1 kc) [97#8] ∧ Turns (fun _ => False) w w' := by
  refine (show Calls Try.prog 7 #[.string ⟨#[97]⟩, .int .u64 2] w _ from put_any ⟨#[97]⟩ 2 w).mono ?_
  rintro e w' ⟨ka, kc, rfl, hb, hw⟩
  exact ⟨ka, kc, rfl, hb, Turns.of_below hw _⟩
theorem putA3 (w : World) : Calls Try.prog 7 #[.string ⟨#[97]⟩, .int .u64 3] w fun e w' => ∃ ka kc, e = .returned (.agg #[.slice ka 1 kc, .int .u64 3, .int .i64 1, .slice none 0 0]) ∧ Bytes w' (.slice ka 1 kc) [97#8] ∧ Turns (fun _ => False) w w' := by
  refine (show Calls Try.prog 7 #[.string ⟨#[97]⟩, .int .u64 3] w _ from put_any ⟨#[97]⟩ 3 w).mono ?_
  rintro e w' ⟨ka, kc, rfl, hb, hw⟩
  exact ⟨ka, kc, rfl, hb, Turns.of_below hw _⟩
theorem delA3 (w : World) : Calls Try.prog 35 #[.string ⟨#[97]⟩, .int .u64 3] w fun e w' => ∃ ka kc, e = .returned (.agg #[.slice ka 1 kc, .int .u64 3, .int .i64 2, .slice none 0 0]) ∧ Bytes w' (.slice ka 1 kc) [97#8] ∧ Turns (fun _ => False) w w' := by
  refine (show Calls Try.prog 35 #[.string ⟨#[97]⟩, .int .u64 3] w _ from del_any ⟨#[97]⟩ 3 w).mono ?_
  rintro e w' ⟨ka, kc, rfl, hb, hw⟩
  exact ⟨ka, kc, rfl, hb, Turns.of_below hw _⟩
theorem putB1 (w : World) : Calls Try.prog 7 #[.string ⟨#[98]⟩, .int .u64 1] w fun e w' => ∃ ka kc, e = .returned (.agg #[.slice ka 1 kc, .int .u64 1, .int .i64 1, .slice none 0 0]) ∧ Bytes w' (.slice ka 1 kc) [98#8] ∧ Turns (fun _ => False) w w' := by
  refine (show Calls Try.prog 7 #[.string ⟨#[98]⟩, .int .u64 1] w _ from put_any ⟨#[98]⟩ 1 w).mono ?_
  rintro e w' ⟨ka, kc, rfl, hb, hw⟩
  exact ⟨ka, kc, rfl, hb, Turns.of_below hw _⟩
theorem putC1 (w : World) : Calls Try.prog 7 #[.string ⟨#[99]⟩, .int .u64 1] w fun e w' => ∃ ka kc, e = .returned (.agg #[.slice ka 1 kc, .int .u64 1, .int .i64 1, .slice none 0 0]) ∧ Bytes w' (.slice ka 1 kc) [99#8] ∧ Turns (fun _ => False) w w' := by
  refine (show Calls Try.prog 7 #[.string ⟨#[99]⟩, .int .u64 1] w _ from put_any ⟨#[99]⟩ 1 w).mono ?_
  rintro e w' ⟨ka, kc, rfl, hb, hw⟩
  exact ⟨ka, kc, rfl, hb, Turns.of_below hw _⟩
theorem lives_any (w : World) : Calls Try.prog 9 #[] w fun e w' => e = .returned (.bool true) ∧ Turns (fun _ => False) w w' := by
  have T0 := hide (Turns.refl (fun _ => False) w)
  go_enter Try.func9, Try.ntmps9
  go_wp2_with fail
  refine (putA3 w).mono ?_
  rintro e w10 ⟨k10, c10, rfl, hb, ht⟩
  have K10 := hide hb
  have U10 := hide ht
  have T10 := hide (T0.out.trans ht)
  clear hb ht
  go_wp2_with fail
  refine (putA2 w10).mono ?_
  rintro e w11 ⟨k11, c11, rfl, hb, ht⟩
  have K11 := hide hb
  have U11 := hide ht
  have T11 := hide (T10.out.trans ht)
  clear hb ht
  go_wp2_with fail
  refine (putA1 w11).mono ?_
  rintro e w12 ⟨k12, c12, rfl, hb, ht⟩
  have K12 := hide hb
  have U12 := hide ht
  have T12 := hide (T11.out.trans ht)
  clear hb ht
  go_wp2_with fail
  have tA : Turns (fun _ => False) w12 (w12.alloc (.cells #[.slice k10 1 c10, .int .u64 3, .int .i64 1, .slice none 0 0, .slice k11 1 c11, .int .u64 2, .int .i64 1, .slice none 0 0, .slice k12 1 c12, .int .u64 1, .int .i64 1, .slice none 0 0] 29)) := (Turns.refl _ _).alloc _
  have hE : Ents (w12.alloc (.cells #[.slice k10 1 c10, .int .u64 3, .int .i64 1, .slice none 0 0, .slice k11 1 c11, .int .u64 2, .int .i64 1, .slice none 0 0, .slice k12 1 c12, .int .u64 1, .int .i64 1, .slice none 0 0] 29)) (some ⟨w12.heap.size, 0, none⟩) [⟨k10, c10, none, 0, pA 3⟩, ⟨k11, c11, none, 0, pA 2⟩, ⟨k12, c12, none, 0, pA 1⟩] := ents_new w12 [⟨k10, c10, none, 0, pA 3⟩, ⟨k11, c11, none, 0, pA 2⟩, ⟨k12, c12, none, 0, pA 1⟩] _ rfl fun x hx => by
    simp only [List.mem_cons, List.not_mem_nil, or_false] at hx
    rcases hx with rfl | rfl | rfl
    · exact ⟨(((K10.out.quiet U11.out).quiet U12.out)).quiet tA, bytes_nov rfl rfl rfl⟩
    · exact ⟨((K11.out.quiet U12.out)).quiet tA, bytes_nov rfl rfl rfl⟩
    · exact ⟨(K12.out).quiet tA, bytes_nov rfl rfl rfl⟩
  have RX := hide (row_ex (some ⟨w12.heap.size, 0, none⟩) none 3 0 [⟨k10, c10, none, 0, pA 3⟩, ⟨k11, c11, none, 0, pA 2⟩, ⟨k12, c12, none, 0, pA 1⟩] [] false l3 [pA 3] _ hE rfl rfl (by omega) (fun x hx => by
    simp only [List.mem_cons, List.not_mem_nil, or_false] at hx
    rcases hx with rfl | rfl | rfl <;> exact ⟨show 1 ≤ 1000000 by decide, show 0 ≤ 1000000 by decide⟩) (u64s_nil _) rfl (by decide) ex1 er1)
  have TT := hide (T12.out.trans (tA))
  clear tA hE
  refine RX.out.mono ?_
  rintro e w1 ⟨a1, n1, d1, rfl, hn, hg, ht⟩
  have T1 := hide (TT.out.trans ht)
  have P1 := hide (Turns.refl (fun _ => False) w1)
  obtain rfl : n1 = 1 := hn
  obtain ⟨g1, rfl, hc⟩ := hg (by simp)
  have C10 := hide (hc 0 _ rfl)
  clear hc
  clear ht RX TT
  go_wp2_with fail
  refine (putA3 w1).mono ?_
  rintro e w20 ⟨k20, c20, rfl, hb, ht⟩
  have K20 := hide hb
  have U20 := hide ht
  have T20 := hide (T1.out.trans ht)
  have P11 := hide (P1.out.trans (ht))
  clear P1
  clear hb ht
  go_wp2_with fail
  refine (putA2 w20).mono ?_
  rintro e w21 ⟨k21, c21, rfl, hb, ht⟩
  have K21 := hide hb
  have U21 := hide ht
  have T21 := hide (T20.out.trans ht)
  have P12 := hide (P11.out.trans (ht))
  clear P11
  clear hb ht
  go_wp2_with fail
  refine (putA1 w21).mono ?_
  rintro e w22 ⟨k22, c22, rfl, hb, ht⟩
  have K22 := hide hb
  have U22 := hide ht
  have T22 := hide (T21.out.trans ht)
  have P13 := hide (P12.out.trans (ht))
  clear P12
  clear hb ht
  go_wp2_with fail
  have tA : Turns (fun _ => False) w22 (w22.alloc (.cells #[.slice k20 1 c20, .int .u64 3, .int .i64 1, .slice none 0 0, .slice k21 1 c21, .int .u64 2, .int .i64 1, .slice none 0 0, .slice k22 1 c22, .int .u64 1, .int .i64 1, .slice none 0 0] 29)) := (Turns.refl _ _).alloc _
  have hE : Ents (w22.alloc (.cells #[.slice k20 1 c20, .int .u64 3, .int .i64 1, .slice none 0 0, .slice k21 1 c21, .int .u64 2, .int .i64 1, .slice none 0 0, .slice k22 1 c22, .int .u64 1, .int .i64 1, .slice none 0 0] 29)) (some ⟨w22.heap.size, 0, none⟩) [⟨k20, c20, none, 0, pA 3⟩, ⟨k21, c21, none, 0, pA 2⟩, ⟨k22, c22, none, 0, pA 1⟩] := ents_new w22 [⟨k20, c20, none, 0, pA 3⟩, ⟨k21, c21, none, 0, pA 2⟩, ⟨k22, c22, none, 0, pA 1⟩] _ rfl fun x hx => by
    simp only [List.mem_cons, List.not_mem_nil, or_false] at hx
    rcases hx with rfl | rfl | rfl
    · exact ⟨(((K20.out.quiet U21.out).quiet U22.out)).quiet tA, bytes_nov rfl rfl rfl⟩
    · exact ⟨((K21.out.quiet U22.out)).quiet tA, bytes_nov rfl rfl rfl⟩
    · exact ⟨(K22.out).quiet tA, bytes_nov rfl rfl rfl⟩
  have tB : Turns (fun _ => False) (w22.alloc (.cells #[.slice k20 1 c20, .int .u64 3, .int .i64 1, .slice none 0 0, .slice k21 1 c21, .int .u64 2, .int .i64 1, .slice none 0 0, .slice k22 1 c22, .int .u64 1, .int .i64 1, .slice none 0 0] 29)) ((w22.alloc (.cells #[.slice k20 1 c20, .int .u64 3, .int .i64 1, .slice none 0 0, .slice k21 1 c21, .int .u64 2, .int .i64 1, .slice none 0 0, .slice k22 1 c22, .int .u64 1, .int .i64 1, .slice none 0 0] 29)).alloc (.cells #[.int .u64 1] 27)) := (Turns.refl _ _).alloc _
  have hU : U64s ((w22.alloc (.cells #[.slice k20 1 c20, .int .u64 3, .int .i64 1, .slice none 0 0, .slice k21 1 c21, .int .u64 2, .int .i64 1, .slice none 0 0, .slice k22 1 c22, .int .u64 1, .int .i64 1, .slice none 0 0] 29)).alloc (.cells #[.int .u64 1] 27)) (some ⟨w22.heap.size + 1, 0, none⟩) [1] := by
    have := u64s_one (heap_alloc_new (w22.alloc (.cells #[.slice k20 1 c20, .int .u64 3, .int .i64 1, .slice none 0 0, .slice k21 1 c21, .int .u64 2, .int .i64 1, .slice none 0 0, .slice k22 1 c22, .int .u64 1, .int .i64 1, .slice none 0 0] 29)) (.cells #[.int .u64 1] 27))
    rwa [World.size_alloc] at this
  have RX := hide (row_ex (some ⟨w22.heap.size, 0, none⟩) (some ⟨w22.heap.size + 1, 0, none⟩) 3 1 [⟨k20, c20, none, 0, pA 3⟩, ⟨k21, c21, none, 0, pA 2⟩, ⟨k22, c22, none, 0, pA 1⟩] [1] false l3 [pA 3, pA 1] _ (hE.quiet tB) rfl rfl (by omega) (fun x hx => by
    simp only [List.mem_cons, List.not_mem_nil, or_false] at hx
    rcases hx with rfl | rfl | rfl <;> exact ⟨show 1 ≤ 1000000 by decide, show 0 ≤ 1000000 by decide⟩) hU rfl (by decide) ex2 er2)
  have TT := hide (T22.out.trans (tA.trans tB))
  have P14 := hide (P13.out.trans (tA.trans tB))
  clear P13
  clear tA hE tB hU
  refine RX.out.mono ?_
  rintro e w2 ⟨a2, n2, d2, rfl, hn, hg, ht⟩
  have T2 := hide (TT.out.trans ht)
  have P15 := hide (P14.out.trans (ht))
  clear P14
  have P2 := hide (Turns.refl (fun _ => False) w2)
  obtain rfl : n2 = 2 := hn
  obtain ⟨g2, rfl, hc⟩ := hg (by simp)
  have C20 := hide (hc 0 _ rfl)
  have C21 := hide (hc 1 _ rfl)
  clear hc
  clear ht RX TT
  go_wp2_with fail
  refine (delA3 w2).mono ?_
  rintro e w30 ⟨k30, c30, rfl, hb, ht⟩
  have K30 := hide hb
  have U30 := hide ht
  have T30 := hide (T2.out.trans ht)
  have P16 := hide (P15.out.trans (ht))
  clear P15
  have P27 := hide (P2.out.trans (ht))
  clear P2
  clear hb ht
  go_wp2_with fail
  refine (putA1 w30).mono ?_
  rintro e w31 ⟨k31, c31, rfl, hb, ht⟩
  have K31 := hide hb
  have U31 := hide ht
  have T31 := hide (T30.out.trans ht)
  have P18 := hide (P16.out.trans (ht))
  clear P16
  have P29 := hide (P27.out.trans (ht))
  clear P27
  clear hb ht
  go_wp2_with fail
  have tA : Turns (fun _ => False) w31 (w31.alloc (.cells #[.slice k30 1 c30, .int .u64 3, .int .i64 2, .slice none 0 0, .slice k31 1 c31, .int .u64 1, .int .i64 1, .slice none 0 0] 29)) := (Turns.refl _ _).alloc _
  have hE : Ents (w31.alloc (.cells #[.slice k30 1 c30, .int .u64 3, .int .i64 2, .slice none 0 0, .slice k31 1 c31, .int .u64 1, .int .i64 1, .slice none 0 0] 29)) (some ⟨w31.heap.size, 0, none⟩) [⟨k30, c30, none, 0, dA 3⟩, ⟨k31, c31, none, 0, pA 1⟩] := ents_new w31 [⟨k30, c30, none, 0, dA 3⟩, ⟨k31, c31, none, 0, pA 1⟩] _ rfl fun x hx => by
    simp only [List.mem_cons, List.not_mem_nil, or_false] at hx
    rcases hx with rfl | rfl
    · exact ⟨((K30.out.quiet U31.out)).quiet tA, bytes_nov rfl rfl rfl⟩
    · exact ⟨(K31.out).quiet tA, bytes_nov rfl rfl rfl⟩
  have RX := hide (row_ex (some ⟨w31.heap.size, 0, none⟩) none 2 0 [⟨k30, c30, none, 0, dA 3⟩, ⟨k31, c31, none, 0, pA 1⟩] [] true l2 [] _ hE rfl rfl (by omega) (fun x hx => by
    simp only [List.mem_cons, List.not_mem_nil, or_false] at hx
    rcases hx with rfl | rfl <;> exact ⟨show 1 ≤ 1000000 by decide, show 0 ≤ 1000000 by decide⟩) (u64s_nil _) rfl (by decide) ex3 er3)
  have TT := hide (T31.out.trans (tA))
  have P110 := hide (P18.out.trans (tA))
  clear P18
  have P211 := hide (P29.out.trans (tA))
  clear P29
  clear tA hE
  refine RX.out.mono ?_
  rintro e w3 ⟨a3, n3, d3, rfl, hn, hg, ht⟩
  have T3 := hide (TT.out.trans ht)
  have P112 := hide (P110.out.trans (ht))
  clear P110
  have P213 := hide (P211.out.trans (ht))
  clear P211
  obtain rfl : n3 = 0 := hn
  clear hg
  clear ht RX TT
  go_wp2_with fail
  refine (delA3 w3).mono ?_
  rintro e w40 ⟨k40, c40, rfl, hb, ht⟩
  have K40 := hide hb
  have U40 := hide ht
  have T40 := hide (T3.out.trans ht)
  have P114 := hide (P112.out.trans (ht))
  clear P112
  have P215 := hide (P213.out.trans (ht))
  clear P213
  clear hb ht
  go_wp2_with fail
  refine (putA1 w40).mono ?_
  rintro e w41 ⟨k41, c41, rfl, hb, ht⟩
  have K41 := hide hb
  have U41 := hide ht
  have T41 := hide (T40.out.trans ht)
  have P116 := hide (P114.out.trans (ht))
  clear P114
  have P217 := hide (P215.out.trans (ht))
  clear P215
  clear hb ht
  go_wp2_with fail
  have tA : Turns (fun _ => False) w41 (w41.alloc (.cells #[.slice k40 1 c40, .int .u64 3, .int .i64 2, .slice none 0 0, .slice k41 1 c41, .int .u64 1, .int .i64 1, .slice none 0 0] 29)) := (Turns.refl _ _).alloc _
  have hE : Ents (w41.alloc (.cells #[.slice k40 1 c40, .int .u64 3, .int .i64 2, .slice none 0 0, .slice k41 1 c41, .int .u64 1, .int .i64 1, .slice none 0 0] 29)) (some ⟨w41.heap.size, 0, none⟩) [⟨k40, c40, none, 0, dA 3⟩, ⟨k41, c41, none, 0, pA 1⟩] := ents_new w41 [⟨k40, c40, none, 0, dA 3⟩, ⟨k41, c41, none, 0, pA 1⟩] _ rfl fun x hx => by
    simp only [List.mem_cons, List.not_mem_nil, or_false] at hx
    rcases hx with rfl | rfl
    · exact ⟨((K40.out.quiet U41.out)).quiet tA, bytes_nov rfl rfl rfl⟩
    · exact ⟨(K41.out).quiet tA, bytes_nov rfl rfl rfl⟩
  have tB : Turns (fun _ => False) (w41.alloc (.cells #[.slice k40 1 c40, .int .u64 3, .int .i64 2, .slice none 0 0, .slice k41 1 c41, .int .u64 1, .int .i64 1, .slice none 0 0] 29)) ((w41.alloc (.cells #[.slice k40 1 c40, .int .u64 3, .int .i64 2, .slice none 0 0, .slice k41 1 c41, .int .u64 1, .int .i64 1, .slice none 0 0] 29)).alloc (.cells #[.int .u64 1] 27)) := (Turns.refl _ _).alloc _
  have hU : U64s ((w41.alloc (.cells #[.slice k40 1 c40, .int .u64 3, .int .i64 2, .slice none 0 0, .slice k41 1 c41, .int .u64 1, .int .i64 1, .slice none 0 0] 29)).alloc (.cells #[.int .u64 1] 27)) (some ⟨w41.heap.size + 1, 0, none⟩) [1] := by
    have := u64s_one (heap_alloc_new (w41.alloc (.cells #[.slice k40 1 c40, .int .u64 3, .int .i64 2, .slice none 0 0, .slice k41 1 c41, .int .u64 1, .int .i64 1, .slice none 0 0] 29)) (.cells #[.int .u64 1] 27))
    rwa [World.size_alloc] at this
  have RX := hide (row_ex (some ⟨w41.heap.size, 0, none⟩) (some ⟨w41.heap.size + 1, 0, none⟩) 2 1 [⟨k40, c40, none, 0, dA 3⟩, ⟨k41, c41, none, 0, pA 1⟩] [1] true l2 [dA 3, pA 1] _ (hE.quiet tB) rfl rfl (by omega) (fun x hx => by
    simp only [List.mem_cons, List.not_mem_nil, or_false] at hx
    rcases hx with rfl | rfl <;> exact ⟨show 1 ≤ 1000000 by decide, show 0 ≤ 1000000 by decide⟩) hU rfl (by decide) ex4 er4)
  have TT := hide (T41.out.trans (tA.trans tB))
  have P118 := hide (P116.out.trans (tA.trans tB))
  clear P116
  have P219 := hide (P217.out.trans (tA.trans tB))
  clear P217
  clear tA hE tB hU
  refine RX.out.mono ?_
  rintro e w4 ⟨a4, n4, d4, rfl, hn, hg, ht⟩
  have T4 := hide (TT.out.trans ht)
  have P120 := hide (P118.out.trans (ht))
  clear P118
  have P221 := hide (P219.out.trans (ht))
  clear P219
  obtain rfl : n4 = 2 := hn
  obtain ⟨g4, rfl, hc⟩ := hg (by simp)
  have C40 := hide (hc 0 _ rfl)
  have C41 := hide (hc 1 _ rfl)
  clear hc
  clear ht RX TT
  have y1 : w4.cell? ⟨g1, 1, none⟩ = some (.int .u64 3) := P120.out.cell C10.out (fun x => x)
  have y2 : w4.cell? ⟨g2, 5, none⟩ = some (.int .u64 1) := P221.out.cell C21.out (fun x => x)
  go_wp2_with fail
  go_ret
  exact ⟨rfl, T4.out⟩

def pB : Ent := ⟨[98#8], 1, 1, []⟩
def pC : Ent := ⟨[99#8], 1, 1, []⟩
theorem ec1 : (inOrd [pA 1, pB, pC] && tgt 60) = true := by decide
theorem ec2 : cutE 60 [pA 1, pB, pC] = [[pA 1, pB], [pC]] := by
  unfold cutE
  rw [cutG_go (by decide), cutG_go (by decide), cutG_stop (by decide), cutG]
  simp
theorem ec3 : (inOrd [] && tgt 0) = false := by decide
theorem ec4 : (inOrd [] && looksOk [2, 1]) = false := by decide
theorem u64s_two {w : World} {g : Nat} (h : w.heap[g]? = some (.cells #[.int .u64 2, .int .u64 1] 27 (0, 0))) : U64s w (some ⟨g, 0, none⟩) [2, 1] := fun k s hk => by
  rcases k with _ | k
  · obtain rfl : s = 2 := by simpa using hk.symm
    exact ⟨⟨g, 0, rfl, cell_of_row w g 0 _ 27 (0, 0) h⟩, by decide⟩
  · rcases k with _ | k
    · obtain rfl : s = 1 := by simpa using hk.symm
      exact ⟨⟨g, 0, rfl, cell_of_row w g 1 _ 27 (0, 0) h⟩, by decide⟩
    · simp at hk
theorem ents_nil (w : World) : Ents w none [] := fun k x h => by simp at h
theorem names_any (w : World) : Calls Try.prog 3 #[] w fun e w' => e = .returned (.bool true) ∧ Below w.heap.size w w' := by
  go_enter Try.func3, Try.ntmps3
  go_wp2_with fail
  refine (putA1 w).mono ?_
  rintro e w0 ⟨k0, c0, rfl, hb, ht⟩
  have K0 := hide hb
  have U0 := hide ht
  have T0 := hide (ht)
  clear hb ht
  go_wp2_with fail
  refine (putB1 w0).mono ?_
  rintro e w1 ⟨k1, c1, rfl, hb, ht⟩
  have K1 := hide hb
  have U1 := hide ht
  have T1 := hide (T0.out.trans ht)
  clear hb ht
  go_wp2_with fail
  refine (putC1 w1).mono ?_
  rintro e w2 ⟨k2, c2, rfl, hb, ht⟩
  have K2 := hide hb
  have U2 := hide ht
  have T2 := hide (T1.out.trans ht)
  clear hb ht
  go_wp2_with fail
  have tA : Turns (fun _ => False) w2 (w2.alloc (.cells #[.slice k0 1 c0, .int .u64 1, .int .i64 1, .slice none 0 0, .slice k1 1 c1, .int .u64 1, .int .i64 1, .slice none 0 0, .slice k2 1 c2, .int .u64 1, .int .i64 1, .slice none 0 0] 29)) := (Turns.refl _ _).alloc _
  have hE : Ents (w2.alloc (.cells #[.slice k0 1 c0, .int .u64 1, .int .i64 1, .slice none 0 0, .slice k1 1 c1, .int .u64 1, .int .i64 1, .slice none 0 0, .slice k2 1 c2, .int .u64 1, .int .i64 1, .slice none 0 0] 29)) (some ⟨w2.heap.size, 0, none⟩) [⟨k0, c0, none, 0, pA 1⟩, ⟨k1, c1, none, 0, pB⟩, ⟨k2, c2, none, 0, pC⟩] := ents_new w2 [⟨k0, c0, none, 0, pA 1⟩, ⟨k1, c1, none, 0, pB⟩, ⟨k2, c2, none, 0, pC⟩] _ rfl fun x hx => by
    simp only [List.mem_cons, List.not_mem_nil, or_false] at hx
    rcases hx with rfl | rfl | rfl
    · exact ⟨((K0.out.quiet U1.out).quiet U2.out).quiet tA, bytes_nov rfl rfl rfl⟩
    · exact ⟨(K1.out.quiet U2.out).quiet tA, bytes_nov rfl rfl rfl⟩
    · exact ⟨K2.out.quiet tA, bytes_nov rfl rfl rfl⟩
  have CX := hide (Cut_any (some ⟨w2.heap.size, 0, none⟩) 3 3 60 [⟨k0, c0, none, 0, pA 1⟩, ⟨k1, c1, none, 0, pB⟩, ⟨k2, c2, none, 0, pC⟩] _ hE rfl (by omega) (fun x hx => by
    simp only [List.mem_cons, List.not_mem_nil, or_false] at hx
    rcases hx with rfl | rfl | rfl <;> exact ⟨show 1 ≤ 1000000 by decide, show 0 ≤ 1000000 by decide⟩) (show 99 ≤ 1000000000000 by decide))
  have TA := hide (T2.out.trans tA)
  clear tA hE
  refine CX.out.mono ?_
  rintro e w3 ⟨hc, t3⟩
  have T3 := hide (TA.out.trans t3)
  obtain ⟨g, cc, h0, rfl⟩ : ∃ g cc, (∃ a c, w3.cell? ⟨g, 0, none⟩ = some (.slice a 2 c)) ∧ e = .returned (.tuple #[.slice (some ⟨g, 0, none⟩) 2 cc, .int .i64 0]) := by
    have e1 : (inOrd (ents ([⟨k0, c0, none, 0, pA 1⟩, ⟨k1, c1, none, 0, pB⟩, ⟨k2, c2, none, 0, pC⟩] : List Tow)) && tgt 60) = true := ec1
    rw [e1] at hc
    rcases hc with ⟨h, _⟩ | ⟨_, v, rfl, ps, hr, hp, he, _⟩
    · cases h
    · have e2 : cutE 60 (ents ([⟨k0, c0, none, 0, pA 1⟩, ⟨k1, c1, none, 0, pB⟩, ⟨k2, c2, none, 0, pC⟩] : List Tow)) = [[pA 1, pB], [pC]] := ec2
      rw [e2] at he
      obtain ⟨p1, r1, rfl, hp1, hr1⟩ := List.map_eq_cons_iff.1 he
      obtain ⟨p2, r2, rfl, hp2, hr2⟩ := List.map_eq_cons_iff.1 hr1
      obtain rfl : r2 = [] := by simpa using hr2
      rcases hr with ⟨h, _⟩ | ⟨g, c, n, rfl, rfl, _, _, cs, k1, k2, k3⟩
      · cases h
      · have hl := congrArg List.length hp1
        simp only [List.length_map, List.length_cons, List.length_nil] at hl
        refine ⟨g, c, ⟨p1.a, p1.c, ?_⟩, rfl⟩
        rw [cell_of_row w3 g 0 cs 31 (0, 0) k1, k3 0 (by simp [rwCells])]
        show some (Value.slice p1.a p1.R.length p1.c) = _
        rw [hl]
  obtain ⟨ra, rc, h0⟩ := h0
  have H0 := hide h0
  clear hc t3 CX h0
  go_wp2_with fail
  have CY := hide (Cut_any none 0 0 0 [] w3 (ents_nil w3) rfl (by omega) (fun x hx => by cases hx) (show 0 ≤ 1000000000000 by decide))
  refine CY.out.mono ?_
  rintro e w4 ⟨hc, t4⟩
  have T4 := hide (T3.out.trans t4)
  have H1 := hide (t4.cell H0.out (fun x => x))
  obtain rfl : e = .returned (.tuple #[.slice none 0 0, .int .i64 2]) := by
    rcases hc with ⟨_, h⟩ | ⟨h, _⟩
    · exact h
    · have e3 : (inOrd (ents []) && tgt 0) = false := ec3
      rw [e3] at h; cases h
  clear hc t4 CY H0
  have n5 := heap_alloc_new w4 (.cells #[.int .u64 2, .int .u64 1] 27)
  have t5 := (Turns.refl (fun _ => False) w4).alloc (.cells #[.int .u64 2, .int .u64 1] 27)
  have VX := hide (Visible_any none (some ⟨w4.heap.size, 0, none⟩) 0 0 2 2 [] [2, 1] _ (ents_nil _) rfl (by omega) (u64s_two n5) rfl (Nat.le_refl _) (by omega))
  have T5 := hide (T4.out.trans t5)
  have H2 := hide (t5.cell H1.out (fun x => x))
  clear n5 t5 H1
  go_wp2_with fail
  refine VX.out.mono ?_
  rintro e w6 ⟨hv, t6⟩
  have T6 := hide (T5.out.trans t6)
  have H3 := hide (t6.cell H2.out (fun x => x))
  obtain rfl : e = .returned (.tuple #[.slice none 0 0, .int .i64 2]) := by
    rcases hv with ⟨_, h⟩ | ⟨h, _⟩
    · exact h
    · have e3 : (inOrd (ents []) && looksOk [2, 1]) = false := ec4
      rw [e3] at h; cases h
  clear hv t6 VX H2
  go_wp2_with fail
  refine (lives_any w6).mono ?_
  rintro e w7 ⟨rfl, t7⟩
  have T7 := hide (T6.out.trans t7)
  have h4 := t7.cell H3.out (fun x => x)
  clear t7
  go_wp2_with fail
  go_ret
  exact ⟨rfl, T7.out.below (Nat.le_refl _) (fun _ x => x.elim)⟩
end Go.Proofs.Ytpgligfolecieaa
