import Derived.Test.YtjklbhdhjfifhaaGreatM01
import Derived.Deep.Light
import Derived.Test.YtjklbhdhjfifhaaGreatM14
/-
  The small functions: how long a number is at most, what may be, what is too long.
-/
namespace Go.Proofs.YtjklbhdhjfifhaaGreat
open Go.RowKit
set_option maxRecDepth 100000
set_option maxHeartbeats 4000000
theorem isKind_any (k : Int) (w : World) : Calls Tryz.prog 195 #[.int .i64 k] w fun e w' => e = .returned (.bool (k == 1 || k == 2)) ∧ w' = w := by
  go_enter Tryz.func195, Tryz.ntmps195
  go_wp2_with fail
  all_goals go_ret
  all_goals refine ⟨?_, rfl⟩
  all_goals simp_all

theorem isWrong_any (k : Int) (ka va : Option Addr) (kn kc vn vc : Nat) (w : World) (x : Wr) (hk : x.1 = k) (hkn : x.2.1.length = kn) (hvn : x.2.2.length = vn) : Calls Tryz.prog 179 #[.agg #[.int .i64 k, .slice ka kn kc, .slice va vn vc]] w fun e w' => e = .returned (.bool (wrongW x)) ∧ Below w.heap.size w w' := by
  have H1 := hide hk
  have H2 := hide hkn
  have H3 := hide hvn
  clear hk hkn hvn
  go_enter Tryz.func179, Tryz.ntmps179
  go_wp2_with fail
  refine (isKind_any _ _).mono ?_
  rintro e w1 ⟨rfl, rfl⟩
  generalize hq : (k == 1 || k == 2) = q
  have HQ := hide hq
  clear hq
  cases q
  all_goals go_wp2_with fail
  all_goals go_ret
  all_goals refine ⟨?_, (Below.refl w.heap.size w).alloc (Nat.le_refl _) _⟩
  all_goals have e1 := H1.out
  all_goals have e2 := H2.out
  all_goals have e3 := H3.out
  all_goals have e4 := HQ.out
  all_goals unfold wrongW
  all_goals rw [e1, e2, e3]
  all_goals simp only [e4]
  all_goals refine congrArg Ending.returned (congrArg Value.bool (Bool.eq_iff_iff.2 ?_))
  all_goals simp_all
  all_goals try omega
theorem hasLong_any (k : Int) (ka va : Option Addr) (kn kc vn vc : Nat) (w : World) (x : Wr) (hkn : x.2.1.length = kn) (hvn : x.2.2.length = vn) : Calls Tryz.prog 196 #[.agg #[.int .i64 k, .slice ka kn kc, .slice va vn vc]] w fun e w' => e = .returned (.bool (longW x)) ∧ Below w.heap.size w w' := by
  have H2 := hide hkn
  have H3 := hide hvn
  clear hkn hvn
  go_enter Tryz.func196, Tryz.ntmps196
  go_wp2_with fail
  all_goals go_ret
  all_goals refine ⟨?_, (Below.refl w.heap.size w).alloc (Nat.le_refl _) _⟩
  all_goals have e2 := H2.out
  all_goals have e3 := H3.out
  all_goals unfold longW
  all_goals rw [e2, e3]
  all_goals refine congrArg Ending.returned (congrArg Value.bool (Bool.eq_iff_iff.2 ?_))
  all_goals simp_all
  all_goals try omega
theorem last_any (s : Nat) (a : Option Addr) (n c : Nat) (w : World) : Calls Tryz.prog 197 #[.agg #[.int .u64 s, .slice a n c]] w fun e w' => e = .returned (.int .u64 (((s + n + 18446744073709551615) % 18446744073709551616 : Nat) : Int)) ∧ Below w.heap.size w w' := by
  go_enter Tryz.func197, Tryz.ntmps197
  go_wp2_with fail
  go_ret
  refine ⟨?_, (Below.refl w.heap.size w).alloc (Nat.le_refl _) _⟩
  exact congrArg Ending.returned (congrArg (Value.int .u64) (by rw [IntKind.wrap_u64, IntKind.wrap_u64, IntKind.wrap_u64]; omega))
theorem pieceSize_any (a : Option Addr) (n c : Nat) (hn : n ≤ 100000) (w : World) : Calls Tryz.prog 203 #[.slice a n c] w fun e w' => e = .returned (.int .i64 (szN n + n)) ∧ w' = w := by
  have hz := szN_le n
  go_enter Tryz.func203, Tryz.ntmps203
  go_wp2_with fail
  refine (size_any n (by omega) _).mono ?_
  rintro e w1 ⟨rfl, rfl⟩
  go_wp2_with fail
  go_ret
  exact ⟨rfl, rfl⟩
end Go.Proofs.YtjklbhdhjfifhaaGreat

/-
  Writes in memory; whether some write is wrong, or too long.
-/
namespace Go.Proofs.YtjklbhdhjfifhaaGreat
open Go.RowKit
set_option maxRecDepth 100000
set_option maxHeartbeats 4000000
/-- A list of writes in memory. -/
def Wrs (w : World) (v : Value) (xs : List Wr) : Prop :=
  ∃ (a : Option Addr) (c : Nat), v = .slice a xs.length c ∧ ∀ k x, xs[k]? = some x → ∃ b off, a = some ⟨b, off, none⟩ ∧ w.cell? ⟨b, off + k * 3, none⟩ = some (.int .i64 x.1) ∧
    ∃ (ka : Option Addr) (kc : Nat) (va : Option Addr) (vc : Nat), w.cell? ⟨b, off + k * 3 + 1, none⟩ = some (.slice ka x.2.1.length kc) ∧ w.cell? ⟨b, off + k * 3 + 2, none⟩ = some (.slice va x.2.2.length vc) ∧
      Bytes w (.slice ka x.2.1.length kc) x.2.1 ∧ Bytes w (.slice va x.2.2.length vc) x.2.2
theorem Wrs.below {w w' : World} {v : Value} {xs : List Wr} (h : Wrs w v xs) (hb : Below w.heap.size w w') : Wrs w' v xs := by
  obtain ⟨a, c, rfl, hx⟩ := h
  refine ⟨a, c, rfl, fun k f hf => ?_⟩
  obtain ⟨b, off, rfl, y0, ka, kc, va, vc, y1, y2, y3, y4⟩ := hx k f hf
  exact ⟨b, off, rfl, (hb.cell (block_lt_of_cell y0)).trans y0, ka, kc, va, vc, (hb.cell (block_lt_of_cell y1)).trans y1, (hb.cell (block_lt_of_cell y2)).trans y2, y3.below hb, y4.below hb⟩
theorem Wrs.len {w : World} {a : Option Addr} {n c : Nat} {xs : List Wr} (h : Wrs w (.slice a n c) xs) : n = xs.length := by
  obtain ⟨_, _, e, _⟩ := h
  cases e
  rfl
/-- The write at a place. -/
theorem Wrs.at {w : World} {a : Option Addr} {n c : Nat} {xs : List Wr} (h : Wrs w (.slice a n c) xs) (k : Nat) (hk : k < xs.length) : ∃ b off, a = some ⟨b, off, none⟩ ∧ w.cell? ⟨b, off + k * 3, none⟩ = some (.int .i64 xs[k].1) ∧
    ∃ (ka : Option Addr) (kc : Nat) (va : Option Addr) (vc : Nat), w.cell? ⟨b, off + k * 3 + 1, none⟩ = some (.slice ka xs[k].2.1.length kc) ∧ w.cell? ⟨b, off + k * 3 + 2, none⟩ = some (.slice va xs[k].2.2.length vc) ∧
      Bytes w (.slice ka xs[k].2.1.length kc) xs[k].2.1 ∧ Bytes w (.slice va xs[k].2.2.length vc) xs[k].2.2 := by
  obtain ⟨_, _, e, hx⟩ := h
  cases e
  exact hx k xs[k] (List.getElem?_eq_getElem hk)

theorem index_wrong (a : Option Addr) (n c : Nat) (xs : List Wr) (w : World) (h : Wrs w (.slice a n c) xs) (hn : n ≤ 140737488355328) :
    Calls Tryz.prog 194 #[.slice a n c, .func (.func 179) #[] #[]] w fun e w' => ∃ z : Int, e = .returned (.int .i64 z) ∧ (0 ≤ z ↔ xs.any wrongW = true) ∧ Below w.heap.size w w' := by
  have hl := h.len
  have H := hide h
  have HL := hide hl
  clear h hl
  go_enter Tryz.func194, Tryz.ntmps194
  go_wp2_with fail
  go_loopw [8] (fun i wr => ∃ k : Nat, i = .int .i64 (k : Nat) ∧ k ≤ n ∧ (xs.take k).any wrongW = false ∧ Below w.heap.size w wr) (fun i _ => n - (intOf i).toNat)
  case atStart => exact ⟨0, rfl, Nat.zero_le _, rfl, Below.refl _ _⟩
  case round =>
    obtain ⟨k, rfl, hk, hno, hb⟩ := hrel
    have HNO := hide hno
    have HB := hide hb
    clear hno
    by_cases hkn : k < n
    · have hkf : k < xs.length := by have := HL.out; omega
      have HW := hide (H.out.below hb)
      obtain ⟨b, off, rfl, y0, ka, kc, va, vc, y1, y2, _, _⟩ := HW.out.at k hkf
      have i1 : (k : Int) < (n : Int) := by omega
      have i0 : (0 : Int) ≤ (k : Int) := by omega
      have htk : (xs.take (k + 1)).any wrongW = wrongW xs[k] := by
        rw [List.take_succ_eq_append_getElem hkf, List.any_append, HNO.out]
        simp
      have HTK := hide htk
      have hany : wrongW xs[k] = true → xs.any wrongW = true := fun e => List.any_eq_true.2 ⟨xs[k], List.getElem_mem hkf, e⟩
      have HANY := hide hany
      clear htk hany hb
      generalize hx : xs[k] = x at *
      have HX := hide hx
      clear hx
      obtain ⟨kd, key, val⟩ := x
      simp only at y0 y1 y2
      go_wp2_with fail
      refine (isWrong_any kd ka va key.length kc val.length vc _ (kd, key, val) rfl rfl rfl).mono ?_
      rintro e w1 ⟨rfl, b1⟩
      have B1 := hide (then_below HB.out b1 (Nat.le_refl _))
      clear b1
      generalize hq : wrongW (kd, key, val) = q at *
      have HQ := hide hq
      clear hq
      cases q
      · go_wp2_with fail
        go_roundw
        case rel => exact ⟨k + 1, by go_num, by omega, HTK.out, B1.out⟩
        case measure => simp [intOf]; omega
      · go_wp2_with fail
        go_ret
        exact ⟨_, rfl, ⟨fun _ => HANY.out trivial, fun _ => by omega⟩, B1.out⟩
    · obtain rfl : k = n := by omega
      have ht : xs.take k = xs := List.take_of_length_le (by have := HL.out; omega)
      go_wp2_with fail
      go_ret
      refine ⟨_, rfl, ⟨fun h => by omega, fun h => ?_⟩, HB.out⟩
      have := HNO.out
      rw [ht, h] at this
      cases this
theorem contains_wrong (a : Option Addr) (n c : Nat) (xs : List Wr) (w : World) (h : Wrs w (.slice a n c) xs) (hn : n ≤ 140737488355328) :
    Calls Tryz.prog 178 #[.slice a n c, .func (.func 179) #[] #[]] w fun e w' => e = .returned (.bool (xs.any wrongW)) ∧ Below w.heap.size w w' := by
  go_enter Tryz.func178, Tryz.ntmps178
  go_wp2_with fail
  refine (index_wrong a n c xs _ h hn).mono ?_
  rintro e w1 ⟨z, rfl, hz, b1⟩
  have HZ := hide hz
  have B1 := hide b1
  clear hz b1 h
  go_wp2_with fail
  go_ret
  refine ⟨congrArg Ending.returned (congrArg Value.bool (Bool.eq_iff_iff.2 ?_)), B1.out⟩
  rw [← HZ.out]
  simp
theorem index_long (a : Option Addr) (n c : Nat) (xs : List Wr) (w : World) (h : Wrs w (.slice a n c) xs) (hn : n ≤ 140737488355328) :
    Calls Tryz.prog 194 #[.slice a n c, .func (.func 196) #[] #[]] w fun e w' => ∃ z : Int, e = .returned (.int .i64 z) ∧ (0 ≤ z ↔ xs.any longW = true) ∧ Below w.heap.size w w' := by
  have hl := h.len
  have H := hide h
  have HL := hide hl
  clear h hl
  go_enter Tryz.func194, Tryz.ntmps194
  go_wp2_with fail
  go_loopw [8] (fun i wr => ∃ k : Nat, i = .int .i64 (k : Nat) ∧ k ≤ n ∧ (xs.take k).any longW = false ∧ Below w.heap.size w wr) (fun i _ => n - (intOf i).toNat)
  case atStart => exact ⟨0, rfl, Nat.zero_le _, rfl, Below.refl _ _⟩
  case round =>
    obtain ⟨k, rfl, hk, hno, hb⟩ := hrel
    have HNO := hide hno
    have HB := hide hb
    clear hno
    by_cases hkn : k < n
    · have hkf : k < xs.length := by have := HL.out; omega
      have HW := hide (H.out.below hb)
      obtain ⟨b, off, rfl, y0, ka, kc, va, vc, y1, y2, _, _⟩ := HW.out.at k hkf
      have i1 : (k : Int) < (n : Int) := by omega
      have i0 : (0 : Int) ≤ (k : Int) := by omega
      have htk : (xs.take (k + 1)).any longW = longW xs[k] := by
        rw [List.take_succ_eq_append_getElem hkf, List.any_append, HNO.out]
        simp
      have HTK := hide htk
      have hany : longW xs[k] = true → xs.any longW = true := fun e => List.any_eq_true.2 ⟨xs[k], List.getElem_mem hkf, e⟩
      have HANY := hide hany
      clear htk hany hb
      generalize hx : xs[k] = x at *
      have HX := hide hx
      clear hx
      obtain ⟨kd, key, val⟩ := x
      simp only at y0 y1 y2
      go_wp2_with fail
      refine (hasLong_any kd ka va key.length kc val.length vc _ (kd, key, val) rfl rfl).mono ?_
      rintro e w1 ⟨rfl, b1⟩
      have B1 := hide (then_below HB.out b1 (Nat.le_refl _))
      clear b1
      generalize hq : longW (kd, key, val) = q at *
      have HQ := hide hq
      clear hq
      cases q
      · go_wp2_with fail
        go_roundw
        case rel => exact ⟨k + 1, by go_num, by omega, HTK.out, B1.out⟩
        case measure => simp [intOf]; omega
      · go_wp2_with fail
        go_ret
        exact ⟨_, rfl, ⟨fun _ => HANY.out trivial, fun _ => by omega⟩, B1.out⟩
    · obtain rfl : k = n := by omega
      have ht : xs.take k = xs := List.take_of_length_le (by have := HL.out; omega)
      go_wp2_with fail
      go_ret
      refine ⟨_, rfl, ⟨fun h => by omega, fun h => ?_⟩, HB.out⟩
      have := HNO.out
      rw [ht, h] at this
      cases this
theorem contains_long (a : Option Addr) (n c : Nat) (xs : List Wr) (w : World) (h : Wrs w (.slice a n c) xs) (hn : n ≤ 140737488355328) :
    Calls Tryz.prog 178 #[.slice a n c, .func (.func 196) #[] #[]] w fun e w' => e = .returned (.bool (xs.any longW)) ∧ Below w.heap.size w w' := by
  go_enter Tryz.func178, Tryz.ntmps178
  go_wp2_with fail
  refine (index_long a n c xs _ h hn).mono ?_
  rintro e w1 ⟨z, rfl, hz, b1⟩
  have HZ := hide hz
  have B1 := hide b1
  clear hz b1 h
  go_wp2_with fail
  go_ret
  refine ⟨congrArg Ending.returned (congrArg Value.bool (Bool.eq_iff_iff.2 ?_)), B1.out⟩
  rw [← HZ.out]
  simp
end Go.Proofs.YtjklbhdhjfifhaaGreat

/-
  Size, Check and CheckEntry.
-/
namespace Go.Proofs.YtjklbhdhjfifhaaGreat
open Go.RowKit
set_option maxRecDepth 100000
set_option maxHeartbeats 4000000
theorem belowN {B : Nat} {a w : World} (h : Below B a w) (n : Nat) : Below B a (w.drewN n) := ⟨h.os, h.tape, h.output, h.size, h.block⟩
/-- How many bytes keys and values have together. -/
def tot (xs : List Wr) : Nat := (xs.map fun x => x.2.1.length + x.2.2.length).sum
theorem tot_take (fs : List Wr) (k : Nat) : tot (fs.take k) ≤ tot fs := by
  induction fs generalizing k with
  | nil => simp [tot]
  | cons f r ih =>
    cases k with
    | zero => simp [tot]
    | succ k =>
      have := ih k
      simp only [tot, List.take_succ_cons, List.map_cons, List.sum_cons] at this ⊢
      omega
theorem tot_mem {fs : List Wr} {x : Wr} (h : x ∈ fs) : x.2.1.length + x.2.2.length ≤ tot fs := by
  induction fs with
  | nil => cases h
  | cons f r ih =>
    simp only [tot, List.map_cons, List.sum_cons] at ih ⊢
    rcases List.mem_cons.1 h with rfl | h
    · omega
    · have := ih h
      omega
/-- A batch that is gone through. -/
structure Smol (xs : List Wr) : Prop where
  len : xs.length ≤ 300
  tot : tot xs ≤ 100000

/-- How many bytes a write has. -/
def wsz (x : Wr) : Int := 1 + (szN x.2.1.length + x.2.1.length) + if x.1 = 1 then szN x.2.2.length + x.2.2.length else 0
def wszs (xs : List Wr) : Int := (xs.map wsz).sum
theorem wszs_snoc (fs : List Wr) (k : Nat) (h : k < fs.length) : wszs (fs.take (k + 1)) = wszs (fs.take k) + wsz fs[k] := by
  unfold wszs
  rw [List.take_succ_eq_append_getElem h, List.map_append, List.sum_append]
  simp
theorem wsz_le (x : Wr) : 0 ≤ wsz x ∧ wsz x ≤ 21 + x.2.1.length + x.2.2.length := by
  have h1 := szN_le x.2.1.length
  have h2 := szN_le x.2.2.length
  unfold wsz
  split <;> omega
theorem wszs_le (xs : List Wr) : 0 ≤ wszs xs ∧ wszs xs ≤ 21 * xs.length + tot xs := by
  induction xs with
  | nil => simp [wszs, tot]
  | cons x r ih =>
    have := wsz_le x
    simp only [wszs, tot, List.map_cons, List.sum_cons, List.length_cons] at ih ⊢
    omega
/-- How many bytes a batch has. -/
def sizeN (s : Nat) (xs : List Wr) : Int := szN s + szN xs.length + wszs xs
theorem sizeN_le (s : Nat) {xs : List Wr} (h : Smol xs) : 0 ≤ sizeN s xs ∧ sizeN s xs ≤ 126320 := by
  have h1 := szN_le s
  have h2 := szN_le xs.length
  have h3 := wszs_le xs
  have h4 := h.len
  have h5 := h.tot
  unfold sizeN
  omega

theorem sizeB_any (s : Nat) (hs : s < 18446744073709551616) (a : Option Addr) (n c : Nat) (xs : List Wr) (w : World) (h : Wrs w (.slice a n c) xs) (hm : Smol xs) :
    Calls Tryz.prog 198 #[.agg #[.int .u64 s, .slice a n c]] w fun e w' => e = .returned (.int .i64 (sizeN s xs)) ∧ Below w.heap.size w w' := by
  have hl := h.len
  have hn : n ≤ 300 := by have := hm.len; omega
  have hb0 := (Below.refl w.heap.size w).alloc (Nat.le_refl _) (.cells #[.int .u64 s, .slice a n c] 204)
  have H := hide (h.below hb0)
  have HL := hide hl
  have HM := hide hm
  have HB0 := hide hb0
  clear h hl hm hb0
  have hz1 := szN_le s
  have hz2 := szN_le n
  go_enter Tryz.func198, Tryz.ntmps198
  go_wp2_with fail
  go_quiet (first | (go_at_call_of 189 (Value.int .u64 (s : Int)); refine Calls.quiet_of_same (size_any s hs _)) | (go_at_call_of 189 (Value.int .u64 (n : Int)); refine Calls.quiet_of_same (size_any n (by omega) _)))
  go_wp2_with fail
  have HB1 := hide (belowN HB0.out nq)
  have HX := hide (Wrs.below H.out (belowN (Below.refl _ _) nq))
  generalize (w.alloc (Obj.cells #[Value.int IntKind.u64 ↑s, Value.slice a n c] 204)).drewN nq = w0 at *
  clear H HB0
  go_loopw [3, 18] (fun z i wr => ∃ k : Nat, i = .int .i64 (k : Nat) ∧ z = .int .i64 (szN s + szN n + wszs (xs.take k)) ∧ k ≤ n ∧ Below w0.heap.size w0 wr) (fun _ i _ => n - (intOf i).toNat)
  case atStart => exact ⟨0, rfl, by simp [wszs], Nat.zero_le _, Below.refl _ _⟩
  case round =>
    obtain ⟨k, rfl, rfl, hk, hb⟩ := hrel
    have HB := hide hb
    by_cases hkn : k < n
    · have hkf : k < xs.length := by have := HL.out; omega
      have HW := hide (HX.out.below hb)
      obtain ⟨b, off, rfl, y0, ka, kc, va, vc, y1, y2, _, _⟩ := HW.out.at k hkf
      have i1 : (k : Int) < (n : Int) := by omega
      have i0 : (0 : Int) ≤ (k : Int) := by omega
      have HTK := hide (wszs_snoc xs k hkf)
      have hw1 := wszs_le (xs.take k)
      have hw2 := tot_take xs k
      have hw3 := HM.out.tot
      have hw4 := tot_mem (List.getElem_mem hkf)
      rw [List.length_take] at hw1
      have hacc : 0 ≤ wszs (xs.take k) ∧ wszs (xs.take k) ≤ 130000 := by omega
      have hsx : wsz xs[k] = 1 + (szN xs[k].2.1.length + xs[k].2.1.length) + if xs[k].1 = 1 then szN xs[k].2.2.length + xs[k].2.2.length else 0 := rfl
      have HSX := hide hsx
      clear hb hw1 hw2 hsx
      generalize hx : xs[k] = x at *
      have HX2 := hide hx
      clear hx
      obtain ⟨kd, key, val⟩ := x
      simp only at y0 y1 y2 hw4
      have hkl : key.length ≤ 100000 := by omega
      have hvl : val.length ≤ 100000 := by omega
      have hk1 := szN_le key.length
      have hk2 := szN_le val.length
      generalize key.length = kl at *
      generalize val.length = vl at *
      clear hw4 hw3
      generalize wszs (xs.take k) = acc at *
      go_wp2_with fail
      refine (pieceSize_any ka kl kc (by omega) _).mono ?_
      rintro e w1 ⟨rfl, rfl⟩
      have HB2 := hide ((HB.out).alloc HB.out.size (.cells #[.int .i64 kd, .slice ka kl kc, .slice va vl vc] 207))
      by_cases hkd : kd = 1
      · subst hkd
        go_wp2_with fail
        refine (pieceSize_any va vl vc (by omega) _).mono ?_
        rintro e w1 ⟨rfl, rfl⟩
        go_wp2_with fail
        go_roundw
        case rel =>
          refine ⟨k + 1, by go_num, ?_, by omega, HB2.out⟩
          rw [HTK.out, HSX.out]
          exact congrArg (Value.int IntKind.i64) (by simp; omega)
        case measure => simp [intOf]; omega
      · go_wp2_with fail
        go_roundw
        case rel =>
          refine ⟨k + 1, by go_num, ?_, by omega, HB2.out⟩
          rw [HTK.out, HSX.out]
          exact congrArg (Value.int IntKind.i64) (by simp [hkd]; omega)
        case measure => simp [intOf]; omega
    · obtain rfl : k = n := by omega
      have ht : xs.take k = xs := List.take_of_length_le (by have := HL.out; omega)
      rw [ht]
      go_wp2_with fail
      go_ret
      refine ⟨?_, HB1.out.trans (HB.out.mono HB1.out.size)⟩
      rw [HL.out]
      rfl
end Go.Proofs.YtjklbhdhjfifhaaGreat
