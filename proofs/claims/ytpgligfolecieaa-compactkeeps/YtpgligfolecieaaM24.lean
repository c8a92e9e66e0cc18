import Derived.Test.YtpgligfolecieaaM23
import Derived.Test.YtpgligfolecieaaM04
import Derived.Lib.SliceRun
import Derived.Test.YtpgligfolecieaaM18
/-
  The closure of left: how many entries were asked for; IndexFunc.
-/
namespace Go.Proofs.Ytpgligfolecieaa
open Go.RowKit
set_option maxRecDepth 100000
set_option maxHeartbeats 4000000
theorem entCells_append (R R' : List Tow) : entCells (R ++ R') = entCells R ++ entCells R' := by simp [entCells]
def Tow.cells4 (x : Tow) : List Value := [x.kv, .int .u64 (x.e.seq : Nat), .int .i64 x.e.kind, x.vv]
theorem entCells_mid (ys r : List Tow) (y : Tow) (k : Nat) : (entCells (ys ++ y :: r))[k]? = if ys.length * 4 ≤ k ∧ k < ys.length * 4 + 4 then y.cells4[k - ys.length * 4]? else if k < ys.length * 4 then (entCells ys)[k]? else (entCells r)[k - (ys.length * 4 + 4)]? := by
  have e : entCells (ys ++ y :: r) = entCells ys ++ (y.cells4 ++ entCells r) := by rw [entCells_append]; rfl
  have l1 := entCells_length ys
  have l2 : y.cells4.length = 4 := rfl
  rw [e]
  rcases Nat.lt_or_ge k (ys.length * 4) with h | h
  · rw [List.getElem?_append_left (by omega), if_neg (by omega), if_pos h]
  · rw [List.getElem?_append_right (by omega), l1]
    rcases Nat.lt_or_ge k (ys.length * 4 + 4) with h2 | h2
    · rw [List.getElem?_append_left (by omega), if_pos ⟨h, h2⟩]
    · rw [List.getElem?_append_right (by omega), if_neg (by omega), if_neg (by omega), l2]
      congr 1
theorem row_put4 {w : World} {g c j : Nat} {ys r : List Tow} {x y : Tow} (h : RowC w g 29 (c * 4) (entCells (ys ++ x :: r))) (hj : ys.length = j) : RowC (w.setCells g (j * 4) y.cells4) g 29 (c * 4) (entCells (ys ++ y :: r)) := by
  obtain ⟨cs, h1, h2, h3⟩ := h
  obtain ⟨cs', k1, k2, k3⟩ := heap_setCells g 29 y.cells4 (j * 4) w cs h1
  refine ⟨cs', k1, by omega, fun k hk => ?_⟩
  rw [entCells_length] at hk
  have hk2 : k < cs.size := by
    rcases Nat.lt_or_ge k cs.size with h | h
    · exact h
    · have h4 := h3 k (by rw [entCells_length]; simpa using hk)
      rw [Array.getElem?_eq_none h] at h4
      have := List.getElem?_eq_none_iff.1 h4.symm
      rw [entCells_length] at this
      simp at this hk
      omega
  rw [k3 k hk2, entCells_mid, show y.cells4.length = 4 from rfl, hj]
  split
  · rfl
  · rename_i hn
    rw [h3 k (by rw [entCells_length]; simpa using hk), entCells_mid, hj, if_neg hn]
theorem turns_setCells (g o : Nat) (vs : List Value) (w : World) : Turns (fun k => k = g) w (w.setCells g o vs) := by
  have hb := below_cells (Nat.zero_le g) vs o (Below.refl 0 w)
  exact ⟨hb.os, hb.tape, hb.output, hb.size, fun k _ hk => heap_setCells_ne g vs o w k hk⟩
theorem row_e4 {w : World} {g c : Nat} {R : List Tow} (h : RowC w g 29 (c * 4) (entCells R)) {k : Nat} {x : Tow} (hx : R[k]? = some x) : w.cell? ⟨g, k * 4, none⟩ = some x.kv ∧ w.cell? ⟨g, k * 4 + 1, none⟩ = some (.int .u64 (x.e.seq : Nat)) ∧ w.cell? ⟨g, k * 4 + 2, none⟩ = some (.int .i64 x.e.kind) ∧ w.cell? ⟨g, k * 4 + 3, none⟩ = some x.vv := by
  obtain ⟨cs, h1, h2, h3⟩ := h
  have hk := (List.getElem?_eq_some_iff.1 hx).1
  have hl := entCells_length R
  obtain ⟨a0, a1, a2, a3⟩ := entCells_at R k x hx
  refine ⟨?_, ?_, ?_, ?_⟩ <;> rw [cell_of_row w g _ cs 29 (0, 0) h1, h3 _ (by omega)] <;> assumption
theorem set_split {Q : List Tow} {i : Nat} {x : Tow} (h : Q[i]? = some x) : Q = Q.take i ++ x :: Q.drop (i + 1) := by
  have hi := (List.getElem?_eq_some_iff.1 h).1
  have e : Q[i] = x := by rw [List.getElem?_eq_getElem hi] at h; exact Option.some.inj h
  conv => lhs; rw [← List.take_append_drop i Q]
  rw [List.drop_eq_getElem_cons hi, e]
theorem row_cut4 {w : World} {g c i : Nat} {Q : List Tow} (h : RowC w g 29 (c * 4) (entCells Q)) (hi : i ≤ Q.length) (vs : List Value) : RowC (w.setCells g (i * 4) vs) g 29 (c * 4) (entCells (Q.take i)) := by
  obtain ⟨cs, h1, h2, h3⟩ := h
  obtain ⟨cs', k1, k2, k3⟩ := heap_setCells g 29 vs (i * 4) w cs h1
  have hl := entCells_length Q
  have hsplit : entCells Q = entCells (Q.take i) ++ entCells (Q.drop i) := by rw [← entCells_append, List.take_append_drop]
  refine ⟨cs', k1, by omega, fun k hk => ?_⟩
  have hk' := hk
  rw [entCells_length, List.length_take] at hk'
  have h4 := h3 k (by omega)
  have hks : k < cs.size := by
    rcases Nat.lt_or_ge k cs.size with h | h
    · exact h
    · rw [Array.getElem?_eq_none h] at h4
      have := List.getElem?_eq_none_iff.1 h4.symm
      omega
  rw [k3 k hks, if_neg (by omega), h4, hsplit, List.getElem?_append_left hk]
theorem keepB_snoc {α : Type} : ∀ (l : List α) (v : List Bool) (j : Nat) (y : α) (b : Bool), l[j]? = some y → v[j]? = some b → keepB (l.take (j + 1)) (v.take (j + 1)) = keepB (l.take j) (v.take j) ++ (if b then [y] else [])
  | [], v, j, y, b, h, _ => by simp at h
  | x :: r, [], j, y, b, _, h => by simp at h
  | x :: r, d :: t, 0, y, b, h1, h2 => by
    obtain rfl : x = y := by simpa using h1
    obtain rfl : d = b := by simpa using h2
    cases d <;> simp [keepB]
  | x :: r, d :: t, j + 1, y, b, h1, h2 => by
    have ih := keepB_snoc r t j y b (by simpa using h1) (by simpa using h2)
    simp only [List.take_succ_cons, keepB]
    rw [ih]
    cases d <;> simp
theorem keepB_all {α : Type} : ∀ (l : List α) (v : List Bool), l.length = v.length → (∀ (k : Nat) (b : Bool), v[k]? = some b → b = true) → keepB l v = l
  | [], v, _, _ => keepB_nil v
  | x :: r, [], h, _ => by simp at h
  | x :: r, d :: t, h, ha => by
    have hd := ha 0 d rfl
    subst hd
    simp only [keepB, if_true]
    rw [keepB_all r t (by simpa using h) fun k b hk => ha (k + 1) b (by simpa using hk)]
/-- What left's closure holds: the count, what stays. -/
structure Env (w : World) (K V g n : Nat) (bs : List Bool) (k : Nat) : Prop where
  cnt : w.heap[K]? = some (.cells #[.int .i64 (k : Nat)] 3 (0, 0))
  box : w.heap[V]? = some (.cells #[.slice (some ⟨g, 0, none⟩) n n] 32 (0, 0))
  row : Bools w g bs
theorem Env.keep {S : Nat → Prop} {w w' : World} {K V g n : Nat} {bs : List Bool} {k : Nat} (h : Env w K V g n bs k) (t : Turns S w w') (h1 : ¬ S K) (h2 : ¬ S V) (h3 : ¬ S g) : Env w' K V g n bs k := by
  obtain ⟨cs, c1, c2⟩ := h.row
  exact ⟨t.heap h.cnt h1, t.heap h.box h2, cs, t.heap c1 h3, c2⟩
theorem left1_any (x : Tow) (K V g n : Nat) (bs : List Bool) (k : Nat) (b : Bool) (w : World) (h : Env w K V g n bs k) (hb : bs[k]? = some b) (hn : bs.length = n) (hmx : n ≤ 1000000) :
    Calls Try.prog 58 #[.agg x.ent, .pointer (some ⟨K, 0, none⟩), .pointer (some ⟨V, 0, none⟩)] w fun e w' => e = .returned (.bool (!b)) ∧ Env w' K V g n bs (k + 1) ∧ Turns (fun q => q = K) w w' := by
  obtain ⟨ka, kc, va, vc, ⟨key, sq, kd, val⟩⟩ := x
  have TA := hide ((Turns.refl (fun _ => False) w).alloc (.cells #[.slice ka key.length kc, .int .u64 (sq : Nat), .int .i64 kd, .slice va val.length vc] 29))
  have HA := hide (h.keep TA.out (fun x => x) (fun x => x) (fun x => x))
  have hk := (List.getElem?_eq_some_iff.1 hb).1
  unfold Tow.ent Tow.kv Tow.vv
  simp only
  generalize key.length = L1 at *
  generalize val.length = L2 at *
  have c1 := cell_of_row _ K 0 _ 3 (0, 0) HA.out.cnt
  have z1 := frozen_of_row _ K 0 _ 3 HA.out.cnt
  have TK := hide ((Tick.refl HA.out.cnt).set 0 (.int .i64 ((k : Int) + 1)))
  have HKV := hide (show V ≠ K from fun e => by have h1 := h.box; rw [e, h.cnt] at h1; cases h1)
  have HKG := hide (show g ≠ K from fun e => by obtain ⟨cs, h1, _⟩ := h.row; rw [e, h.cnt] at h1; cases h1)
  have HB := hide hb
  have c3 : ((w.alloc (.cells #[.slice ka L1 kc, .int .u64 (sq : Nat), .int .i64 kd, .slice va L2 vc] 29)).setCell ⟨K, 0, none⟩ (.int .i64 ((k : Int) + 1))).cell? ⟨K, 0, none⟩ = some (.int .i64 ((k : Int) + 1)) := TK.out.cell 0
  have TT := hide (Turns.of_tick TK.out)
  have hcV : ((w.alloc (.cells #[.slice ka L1 kc, .int .u64 (sq : Nat), .int .i64 kd, .slice va L2 vc] 29)).setCell ⟨K, 0, none⟩ (.int .i64 ((k : Int) + 1))).cell? ⟨V, 0, none⟩ = some (.slice (some ⟨g, 0, none⟩) n n) := cell_of_row _ V 0 _ 32 (0, 0) (TT.out.heap HA.out.box HKV.out)
  have HE := hide (show Env ((w.alloc (.cells #[.slice ka L1 kc, .int .u64 (sq : Nat), .int .i64 kd, .slice va L2 vc] 29)).setCell ⟨K, 0, none⟩ (.int .i64 ((k : Int) + 1))) K V g n bs (k + 1) from ⟨TK.out.1, TT.out.heap HA.out.box HKV.out, by
    obtain ⟨cs, q1, q2⟩ := HA.out.row
    exact ⟨cs, TT.out.heap q1 HKG.out, q2⟩⟩)
  obtain ⟨cs, q1, q2, q3⟩ := HE.out.row
  have hcG := cell_of_row _ g k _ 4 (0, 0) q1
  rw [q3 k b hb] at hcG
  have c1' : (w.alloc (.cells #[.slice ka L1 kc, .int .u64 (sq : Nat), .int .i64 kd, .slice va L2 vc] 29)).cell? ⟨K, 0, none⟩ = some (.int .i64 (k : Nat)) := c1
  clear c1
  have i1 : (k : Int) < n := by omega
  have i0 : (0 : Int) ≤ k := by omega
  clear h hb q1 q2 q3
  have FIN := hide (show Turns (fun q => q = K) w ((w.alloc (.cells #[.slice ka L1 kc, .int .u64 (sq : Nat), .int .i64 kd, .slice va L2 vc] 29)).setCell ⟨K, 0, none⟩ (.int .i64 ((k : Int) + 1))) from (TA.out.mono fun _ _ x => x.elim).trans TT.out)
  go_enter Try.func58, Try.ntmps58
  go_wp2_with fail
  go_ret
  exact ⟨rfl, HE.out, FIN.out⟩
/-- The four cells of an entry. -/
def E4 (w : World) (b o : Nat) (x : Tow) : Prop := w.cell? ⟨b, o, none⟩ = some x.kv ∧ w.cell? ⟨b, o + 1, none⟩ = some (.int .u64 (x.e.seq : Nat)) ∧ w.cell? ⟨b, o + 2, none⟩ = some (.int .i64 x.e.kind) ∧ w.cell? ⟨b, o + 3, none⟩ = some x.vv
theorem E4.keep {S : Nat → Prop} {w w' : World} {b o : Nat} {x : Tow} (h : E4 w b o x) (t : Turns S w w') (hb : ¬ S b) : E4 w' b o x := ⟨t.cell h.1 hb, t.cell h.2.1 hb, t.cell h.2.2.1 hb, t.cell h.2.2.2 hb⟩
theorem index_left (g0 n c : Nat) (l : List Tow) (K V g : Nat) (bs : List Bool) (w : World) (h : ∀ (k : Nat) (x : Tow), l[k]? = some x → E4 w g0 (k * 4) x) (hg0 : g0 ≠ K) (hn : n = l.length) (hmx : n ≤ 1000000) (he : Env w K V g n bs 0) (hbs : bs.length = n) :
    Calls Try.prog 74 #[.slice (some ⟨g0, 0, none⟩) n c, .func (.func 58) #[] #[.pointer (some ⟨K, 0, none⟩), .pointer (some ⟨V, 0, none⟩)]] w fun e w' => ∃ z : Int, e = .returned (.int .i64 z) ∧ ((z = -1 ∧ (∀ (k : Nat) (b : Bool), bs[k]? = some b → b = true)) ∨ ∃ i : Nat, z = i ∧ i < n ∧ (∀ (k : Nat) (b : Bool), k < i → bs[k]? = some b → b = true) ∧ bs[i]? = some false ∧ Env w' K V g n bs (i + 1)) ∧ Turns (fun q => q = K) w w' := by
  have H := hide h
  have HL := hide hn
  have hni : (n : Int) ≤ 1000000 := by omega
  have HB := hide hbs
  have E0 := hide he
  have HG := hide hg0
  clear h hn he hbs hg0
  go_enter Try.func74, Try.ntmps74
  go_wp2_with fail
  go_loopw [8] (fun i wr => ∃ k : Nat, i = .int .i64 (k : Nat) ∧ k ≤ n ∧ (∀ (j : Nat) (b : Bool), j < k → bs[j]? = some b → b = true) ∧ Env wr K V g n bs k ∧ Turns (fun q => q = K) w wr) (fun i _ => n - (intOf i).toNat)
  case atStart => exact ⟨0, rfl, Nat.zero_le _, fun j b hj => by omega, E0.out, Turns.refl _ _⟩
  case round =>
    obtain ⟨k, rfl, hk, hal, hen, hb⟩ := hrel
    have HAL := hide hal
    have HEN := hide hen
    have HT := hide hb
    clear hal hb hen
    by_cases hkn : k < n
    · obtain ⟨x, hx⟩ : ∃ x, l[k]? = some x := ⟨_, List.getElem?_eq_getElem (by have := HL.out; omega)⟩
      obtain ⟨b, hb⟩ : ∃ b, bs[k]? = some b := ⟨_, List.getElem?_eq_getElem (by have := HB.out; omega)⟩
      have h6 := (H.out k x hx).keep HT.out HG.out
      have i1 : (k : Int) < (n : Int) := by omega
      have i0 : (0 : Int) ≤ (k : Int) := by omega
      have CC := hide (left1_any x K V g n bs k b wr HEN.out hb HB.out hmx)
      have HBB := hide hb
      obtain ⟨ka, kc, va, vc, ⟨key, sq, kd, val⟩⟩ := x
      obtain ⟨y0, y1, y2, y3⟩ := h6
      unfold Tow.ent Tow.kv Tow.vv at *
      simp only at *
      generalize key.length = L1 at *
      generalize val.length = L2 at *
      clear hx hb
      go_wp2_with fail
      refine CC.out.mono ?_
      rintro e w1 ⟨rfl, e1, t1⟩
      have B1 := hide (HT.out.trans t1)
      have E1 := hide e1
      clear t1 e1 CC y0 y1 y2 y3
      cases b
      · simp only [Bool.not_false]
        go_wp2_with fail
        go_ret
        exact ⟨_, rfl, .inr ⟨k, rfl, hkn, HAL.out, HBB.out, E1.out⟩, B1.out⟩
      · simp only [Bool.not_true]
        go_wp2_with fail
        go_roundw
        case rel => exact ⟨k + 1, by go_num, by omega, fun j b hj hb => by
          rcases Nat.lt_or_ge j k with h1 | h1
          · exact HAL.out j b h1 hb
          · obtain rfl : j = k := by omega
            rw [HBB.out] at hb
            cases hb
            rfl, E1.out, B1.out⟩
        case measure => simp [intOf]; omega
    · obtain rfl : k = n := by omega
      go_wp2_with fail
      go_ret
      exact ⟨_, rfl, .inl ⟨rfl, fun j b hb => HAL.out j b (by have := (List.getElem?_eq_some_iff.1 hb).1; have := HB.out; omega) hb⟩, HT.out⟩
end Go.Proofs.Ytpgligfolecieaa

/-
  DeleteFunc of what does not stay.
-/
namespace Go.Proofs.Ytpgligfolecieaa
open Go.RowKit
set_option maxRecDepth 100000
set_option maxHeartbeats 4000000
theorem clear29 (b o n c : Nat) (w : World) (hn : 0 < n) (hc : ∀ j, j < n * 4 → (w.cell? ⟨b, o + j, none⟩).isSome = true) (hf : ∀ j, j < n * 4 → w.frozen? ⟨b, o + j, none⟩ = false) :
    ∃ vs : List Value, ∀ ty, (Builtin.clear_ #[31] ty #[.slice (some ⟨b, o, none⟩) n c]).run Try.prog w = .ok (.tuple #[]) (w.setCells b o vs) := by
  have hzv : ∀ w, (zeroValue 29).run Try.prog w = .ok (.agg #[.slice none 0 0, .int .u64 0, .int .i64 0, .slice none 0 0]) w := by intro w; kernel_rfl
  have hzc : (Value.agg #[.slice none 0 0, .int .u64 0, .int .i64 0, .slice none 0 0]).cells = #[.slice none 0 0, .int .u64 0, .int .i64 0, .slice none 0 0] := by rfl
  obtain ⟨vs, hvs⟩ : ∃ vs : List Value, vs = (Builtin.zeroCells #[.slice none 0 0, .int .u64 0, .int .i64 0, .slice none 0 0] n).toList := ⟨_, rfl⟩
  have hl : vs.length = n * 4 := by rw [hvs]; simp [Builtin.zeroCells]
  have h1 : ∀ v ∈ vs, v.oneCell' = true := by
    intro v hv
    rw [hvs] at hv
    simp [Builtin.zeroCells] at hv
    obtain ⟨j, hj, rfl⟩ := hv
    have : j % 4 < 4 := Nat.mod_lt _ (by decide)
    generalize j % 4 = t at *
    rcases (by omega : t = 0 ∨ t = 1 ∨ t = 2 ∨ t = 3) with rfl | rfl | rfl | rfl <;> rfl
  have hst := run_storeCells_cells (P := Try.prog) b o vs 0 w (by rw [hl]; simpa using hc) (by rw [hl]; simpa using hf) h1
  simp only [Nat.add_zero] at hst
  refine ⟨vs, fun ty => ?_⟩
  obtain ⟨q, rfl⟩ : ∃ q, n = q + 1 := ⟨n - 1, by omega⟩
  simp [Builtin.clear_, run_underlying Try.underlying31, hzv, hzc, ← hvs, hst, Result.andThen]
theorem cells4 (w : World) (g o : Nat) (y : Tow) : w.setCells g o y.cells4 = (((w.setCell ⟨g, o, none⟩ (.slice y.ka y.e.key.length y.kc)).setCell ⟨g, o + 1, none⟩ (.int .u64 (y.e.seq : Nat))).setCell ⟨g, o + 2, none⟩ (.int .i64 y.e.kind)).setCell ⟨g, o + 3, none⟩ (.slice y.va y.e.val.length y.vc) := rfl
/-- How far the filtering has come. -/
structure Del (w ws : World) (K V gb g c n : Nat) (R : List Tow) (bs : List Bool) (i j : Nat) (Q : List Tow) : Prop where
  lt : i < j
  le : j ≤ n
  len : Q.length = n
  pre : Q.take i = keepB (R.take j) (bs.take j)
  post : Q.drop j = R.drop j
  row : RowC ws g 29 (c * 4) (entCells Q)
  env : Env ws K V gb n bs j
  turn : Turns (fun k => k = g ∨ k = K) w ws
theorem delFunc_any (g n c : Nat) (R : List Tow) (K V gb : Nat) (bs : List Bool) (w : World) (h : RowC w g 29 (c * 4) (entCells R)) (hc : n ≤ c) (hn : n = R.length) (hmx : n ≤ 1000000) (he : Env w K V gb n bs 0) (hbs : bs.length = n) :
    Calls Try.prog 57 #[.slice (some ⟨g, 0, none⟩) n c, .func (.func 58) #[] #[.pointer (some ⟨K, 0, none⟩), .pointer (some ⟨V, 0, none⟩)]] w fun e w' => ∃ n', e = .returned (.slice (some ⟨g, 0, none⟩) n' c) ∧ n' = (keepB R bs).length ∧ n' ≤ n ∧ RowC w' g 29 (c * 4) (entCells (keepB R bs)) ∧ Turns (fun k => k = g ∨ k = K) w w' := by
  have KG := hide (show g ≠ K from fun e => by obtain ⟨cs, h1, _⟩ := h; rw [e, he.cnt] at h1; cases h1)
  have VG := hide (show V ≠ g from fun e => by obtain ⟨cs, h1, _⟩ := h; have h2 := he.box; rw [e, h1] at h2; cases h2)
  have GG := hide (show gb ≠ g from fun e => by obtain ⟨cs, h1, _⟩ := h; obtain ⟨cs2, h2, _⟩ := he.row; rw [e, h1] at h2; cases h2)
  have IX := hide (index_left g n c R K V gb bs w (fun k x hx => row_e4 h hx) KG.out hn hmx he hbs)
  have H := hide h
  have HL := hide hn
  have hni : (n : Int) ≤ 1000000 := by omega
  have HBS := hide hbs
  clear h hn he hbs
  go_enter Try.func57, Try.ntmps57
  go_wp2_with fail
  refine IX.out.mono ?_
  rintro e w1 ⟨z, rfl, hz, t1⟩
  have T1 := hide t1
  clear t1 IX
  rcases hz with ⟨rfl, hall⟩ | ⟨i0, rfl, hi0, hal, hfi, he1⟩
  · have HF := hide (keepB_all R bs (by rw [← HL.out, HBS.out]) hall)
    clear hall
    go_wp2_with fail
    go_ret
    exact ⟨n, rfl, by rw [HF.out]; exact HL.out, Nat.le_refl _, by rw [HF.out]; exact H.out.turns T1.out (fun e => KG.out e), T1.out.mono fun _ _ x => .inr x⟩
  · have hpre0 : R.take i0 = keepB (R.take (i0 + 1)) (bs.take (i0 + 1)) := by
      have h1 : keepB (R.take i0) (bs.take i0) = R.take i0 := keepB_all _ _ (by simp; have := HL.out; have := HBS.out; omega) fun k b hk => by
        rw [List.getElem?_take] at hk
        split at hk
        · exact hal k b (by assumption) hk
        · cases hk
      obtain ⟨y, hy⟩ : ∃ y, R[i0]? = some y := ⟨_, List.getElem?_eq_getElem (by have := HL.out; omega)⟩
      rw [keepB_snoc R bs i0 y false hy hfi, h1]
      simp
    have D0 := hide (show Del w w1 K V gb g c n R bs i0 (i0 + 1) R from ⟨by omega, by omega, HL.out.symm, hpre0, rfl, H.out.turns T1.out (fun e => KG.out e), he1, T1.out.mono fun _ _ x => .inr x⟩)
    have ii : ¬ (i0 : Int) = -1 := by omega
    have hcn : (n : Int) ≤ c := by omega
    clear hfi hal hpre0 he1
    go_wp2_with fail
    rw [show ((i0 : Int) == -1) = false by simp]
    go_loopw [5, 6] (fun vi vj ws => ∃ (i j : Nat) (Q : List Tow), vi = .int .i64 (i : Nat) ∧ vj = .int .i64 (j : Nat) ∧ Del w ws K V gb g c n R bs i j Q) (fun _ vj _ => n - (intOf vj).toNat)
    case atStart => exact ⟨i0, i0 + 1, R, rfl, by go_num, D0.out⟩
    case round =>
      obtain ⟨i, j, Q, rfl, rfl, hd⟩ := hrel
      have HD := hide hd
      have hij := hd.lt
      have hjn := hd.le
      clear hd
      by_cases hj : j < n
      · obtain ⟨y, hy⟩ : ∃ y, Q[j]? = some y := ⟨_, List.getElem?_eq_getElem (by have := HD.out.len; omega)⟩
        obtain ⟨kp, hkp⟩ : ∃ b, bs[j]? = some b := ⟨_, List.getElem?_eq_getElem (by have := HBS.out; omega)⟩
        have hyR : R[j]? = some y := by
          have e := HD.out.post
          have h1 : (Q.drop j)[0]? = some y := by rw [List.getElem?_drop]; exact hy
          rw [e, List.getElem?_drop] at h1
          exact h1
        obtain ⟨y0, y1, y2, y3⟩ := row_e4 HD.out.row hy
        have j1 : (j : Int) < n := by omega
        have j0 : (0 : Int) ≤ j := by omega
        have i0' : (0 : Int) ≤ i := by omega
        have i1' : (i : Int) < n := by omega
        have CC := hide (fun (u : World) (t : Turns (fun _ => False) wr u) => left1_any y K V gb n bs j kp u (HD.out.env.keep t (fun x => x) (fun x => x) (fun x => x)) hkp HBS.out hmx)
        have DN := hide (show ∀ u, Turns (fun q => q = K) wr u → Env u K V gb n bs (j + 1) → kp = false → Del w u K V gb g c n R bs i (j + 1) Q from fun u t hen e => ⟨by omega, by omega, HD.out.len, by rw [HD.out.pre, keepB_snoc R bs j y kp hyR hkp, e]; simp, by rw [← List.drop_drop, HD.out.post, List.drop_drop], HD.out.row.turns t KG.out, hen, HD.out.turn.trans (t.mono fun _ _ x => .inr x)⟩)
        obtain ⟨x, hx⟩ : ∃ x, Q[i]? = some x := ⟨_, List.getElem?_eq_getElem (by have := HD.out.len; omega)⟩
        have DK := hide (show ∀ u, Turns (fun q => q = K) wr u → Env u K V gb n bs (j + 1) → kp = true → Del w (u.setCells g (i * 4) y.cells4) K V gb g c n R bs (i + 1) (j + 1) (Q.take i ++ y :: Q.drop (i + 1)) from fun u t hen e => by
          have hlq := HD.out.len
          have htl : (Q.take i).length = i := by rw [List.length_take]; omega
          have tt := turns_setCells g (i * 4) y.cells4 u
          refine ⟨by omega, by omega, by simp; omega, ?_, ?_, ?_, hen.keep tt (fun e => KG.out e.symm) VG.out GG.out, (HD.out.turn.trans (t.mono fun _ _ x => .inr x)).trans (tt.mono fun _ _ x => .inl x)⟩
          · rw [List.take_append, htl, List.take_of_length_le (by omega), HD.out.pre, keepB_snoc R bs j y kp hyR hkp, e]
            simp
          · have : (Q.take i ++ y :: Q.drop (i + 1)).drop (j + 1) = Q.drop (j + 1) := by
              rw [List.drop_append, htl, List.drop_eq_nil_of_le (by omega), List.nil_append, show j + 1 - i = (j - i) + 1 by omega, List.drop_succ_cons, List.drop_drop]
              congr 1; omega
            rw [this, ← List.drop_drop, HD.out.post, List.drop_drop]
          · have h1 := HD.out.row.turns t KG.out
            rw [set_split hx] at h1
            exact row_put4 h1 htl)
        have HCELL := hide (show ∀ u, Turns (fun q => q = K) wr u → ∃ cs, u.heap[g]? = some (.cells cs 29 (0, 0)) ∧ i * 4 + 4 ≤ cs.size from fun u t => by
          obtain ⟨cs, h1, h2, h3⟩ := HD.out.row
          exact ⟨cs, t.heap h1 KG.out, by omega⟩)
        obtain ⟨ka, kc, va, vc, ⟨key, sq, kd, val⟩⟩ := y
        simp only [cells4] at DK
        unfold Tow.ent Tow.kv Tow.vv at *
        simp only at *
        generalize key.length = L1 at *
        generalize val.length = L2 at *
        clear hy hyR hx hkp
        have TF := hide ((Turns.refl (fun _ => False) wr).alloc (.cells #[.slice ka L1 kc, .int .u64 (sq : Nat), .int .i64 kd, .slice va L2 vc] 29))
        have RF := hide (heap_alloc_new wr (.cells #[.slice ka L1 kc, .int .u64 (sq : Nat), .int .i64 kd, .slice va L2 vc] 29))
        have hKlt := lt_of_heap HD.out.env.cnt
        have GK := hide (show wr.heap.size ≠ K from fun e => by omega)
        clear hKlt
        go_wp2_with fail
        refine (CC.out _ TF.out).mono ?_
        rintro e w2 ⟨rfl, e2, t2⟩
        have T2 := hide ((TF.out.mono fun _ _ x => x.elim).trans t2)
        have R2 := hide (t2.heap RF.out GK.out)
        have E2 := hide e2
        clear t2 e2 y0 y1 y2 y3 CC
        cases kp
        · simp only [Bool.not_false]
          go_wp2_with fail
          go_roundw
          case rel => exact ⟨i, j + 1, Q, rfl, by go_num, DN.out _ T2.out E2.out rfl⟩
          case measure => simp [intOf]; omega
        · simp only [Bool.not_true]
          obtain ⟨cs, hg, hsz⟩ := HCELL.out _ T2.out
          have c0 := cell_of_row w2 wr.heap.size 0 _ 29 (0, 0) R2.out
          have c1 := cell_of_row w2 wr.heap.size 1 _ 29 (0, 0) R2.out
          have c2 := cell_of_row w2 wr.heap.size 2 _ 29 (0, 0) R2.out
          have c3 := cell_of_row w2 wr.heap.size 3 _ 29 (0, 0) R2.out
          have e0 := frozen_of_row w2 g (i * 4) _ 29 hg
          have e1 := frozen_of_row w2 g (i * 4 + 1) _ 29 hg
          have e2 := frozen_of_row w2 g (i * 4 + 2) _ 29 hg
          have e3 := frozen_of_row w2 g (i * 4 + 3) _ 29 hg
          have hcg : ∀ t, t < 4 → ∃ d, w2.cell? ⟨g, i * 4 + t, none⟩ = some d := fun t ht => ⟨_, by rw [cell_of_row w2 g (i * 4 + t) _ 29 (0, 0) hg]; exact Array.getElem?_eq_getElem (by omega)⟩
          obtain ⟨q0, f0⟩ := hcg 0 (by omega)
          obtain ⟨q1, f1⟩ := hcg 1 (by omega)
          obtain ⟨q2, f2⟩ := hcg 2 (by omega)
          obtain ⟨q3, f3⟩ := hcg 3 (by omega)
          rw [Nat.add_zero] at f0
          have DD := hide (DK.out _ T2.out E2.out rfl)
          clear hcg hg hsz R2 RF TF DK
          generalize wr.heap.size = GX at *
          go_wp2_with fail
          go_roundw
          case rel => exact ⟨i + 1, j + 1, _, by go_num, by go_num, DD.out⟩
          case measure => simp [intOf]; omega
      · obtain rfl : j = n := by omega
        have hcl : ∀ t, t < (j - i) * 4 → (wr.cell? ⟨g, i * 4 + t, none⟩).isSome = true ∧ wr.frozen? ⟨g, i * 4 + t, none⟩ = false := fun t ht => by
          obtain ⟨cs, h1, h2, h3⟩ := HD.out.row
          refine ⟨?_, frozen_of_row wr g _ _ 29 h1⟩
          rw [cell_of_row wr g _ _ 29 (0, 0) h1, Array.getElem?_eq_getElem (by omega)]; rfl
        obtain ⟨vs, hvs⟩ := clear29 g (i * 4) (j - i) (c - i) wr (by omega) (fun t ht => (hcl t ht).1) (fun t ht => (hcl t ht).2)
        have hvs2 : (Builtin.clear_ #[31] 0 #[.slice (some ⟨g, i * 4, none⟩) (j - i) (c - i)]).run Try.prog wr = .ok (.tuple #[]) (wr.setCells g (i * 4) vs) := hvs 0
        have i0' : (0 : Int) ≤ i := by omega
        have i1' : (i : Int) ≤ j := by omega
        have i2' : (i : Int) ≤ c := by omega
        clear hcl hvs
        have HQ := hide (show Q.take i = keepB R bs by rw [HD.out.pre, List.take_of_length_le (by have := HL.out; omega), List.take_of_length_le (by have := HBS.out; omega)])
        go_wp2_with fail
        go_ret
        have hlen : (Q.take i).length = i := by rw [List.length_take, HD.out.len]; omega
        refine ⟨i, rfl, by rw [← HQ.out, hlen], by omega, ?_, HD.out.turn.trans ((turns_setCells _ _ _ _).mono fun k _ e => .inl e)⟩
        rw [← HQ.out]
        exact row_cut4 HD.out.row (by rw [HD.out.len]; omega) vs
end Go.Proofs.Ytpgligfolecieaa

/-
  Clone of a row; left: what is left of a row of one's own.
-/
namespace Go.Proofs.Ytpgligfolecieaa
open Go.RowKit
set_option maxRecDepth 100000
set_option maxHeartbeats 4000000
theorem entCells_inv (R : List Tow) (i : Nat) (u : Value) (h : (entCells R)[i]? = some u) : ∃ x, R[i / 4]? = some x ∧ x.cells4[i % 4]? = some u := by
  have hi : i < R.length * 4 := by rw [← entCells_length]; exact (List.getElem?_eq_some_iff.1 h).1
  have hq : i / 4 < R.length := by omega
  refine ⟨R[i / 4], List.getElem?_eq_getElem hq, ?_⟩
  obtain ⟨a0, a1, a2, a3⟩ := entCells_at R (i / 4) _ (List.getElem?_eq_getElem hq)
  obtain ⟨m, hm⟩ : ∃ m, i % 4 = m := ⟨_, rfl⟩
  have hm4 : m < 4 := by omega
  have hi2 : i = i / 4 * 4 + m := by omega
  rw [hm, ← h]
  generalize i / 4 = q at *
  subst hi2
  rcases (by omega : m = 0 ∨ m = 1 ∨ m = 2 ∨ m = 3) with rfl | rfl | rfl | rfl
  · exact a0.symm
  · exact a1.symm
  · exact a2.symm
  · exact a3.symm
theorem src_of_ents {w : World} {a : Option Addr} {R : List Tow} {c : Nat} (h : Ents w a R) : Src Try.prog Try.t29.size 31 (.slice a R.length c) R.length (entCells R) w := by
  cases a with
  | none =>
    obtain rfl : R = [] := by
      cases R with
      | nil => rfl
      | cons x r => obtain ⟨⟨b, off, e, _⟩, _⟩ := h 0 x rfl; cases e
    exact Src.ofNil w Try.underlying31 c
  | some ad =>
    refine Src.ofSlice w Try.underlying31 ad _ c _ (by rw [entCells_length, t29_size]) (fun j u hu => ?_) (fun u hu => entCells_one hu)
    obtain ⟨x, hx, hu2⟩ := entCells_inv R j u hu
    obtain ⟨⟨b, off, ha, hc⟩, _⟩ := h _ x hx
    obtain rfl : ad = ⟨b, off, none⟩ := by simpa using ha
    rw [Go.WideShapes.add_plain, ← hc _ u hu2]
    congr 2
    omega
theorem nil_eql31 (a : Option Addr) (n c : Nat) (w : World) : (binOp .eql 31 (.slice a n c) (.slice none 0 0)).run Try.prog w = .ok (.bool a.isNone) w := by
  cases a <;> kernel_rfl
theorem cloneEs_any (a : Option Addr) (n c : Nat) (R : List Tow) (w : World) (h : Ents w a R) (hn : n = R.length) (hmx : n ≤ 1000000) :
    Calls Try.prog 31 #[.slice a n c] w fun e w' => ∃ a' c', e = .returned (.slice a' n c') ∧ ERow w' w.heap.size (.slice a' n c') R ∧ (a' = none → c' = 0) ∧ Turns (fun _ => False) w w' := by
  subst hn
  cases a with
  | none =>
    obtain rfl : R = [] := by
      cases R with
      | nil => rfl
      | cons x r => obtain ⟨⟨b, off, e, _⟩, _⟩ := h 0 x rfl; cases e
    have he : (binOp .eql 31 (.slice none 0 c) (.slice none 0 0)).run Try.prog w = .ok (.bool true) w := nil_eql31 none 0 c w
    show Calls Try.prog 31 #[.slice none 0 c] w _
    go_enter Try.func31, Try.ntmps31
    go_wp2_with fail
    go_ret
    exact ⟨none, 0, rfl, .inl ⟨rfl, rfl⟩, fun _ => rfl, Turns.refl _ _⟩
  | some ad =>
    have hb : Turns (fun _ => False) w (w.alloc (.cells #[] 29)) := (Turns.refl _ _).alloc _
    obtain ⟨g, c2, w2, hr, hg, hrow, hb2, hc, _⟩ := append_gen2 (P := Try.prog) (w.alloc (.cells #[] 29)) w.heap.size 31 29 Try.t29 _ Try.underlying31 t29_info t29_zero rfl (some ⟨w.heap.size, 0, none⟩) 0 0 [] (by simp) (.slice (some ad) R.length c) R.length (entCells R) (src_of_ents (h.quiet hb)) (by simp)
      (.inr ⟨_, rfl, Nat.le_refl _, Nat.le_refl _, #[], heap_alloc_new w _, by simp, fun k hk => by simp at hk⟩) (by rw [t29_bytes]; omega) (by omega)
    rw [Nat.zero_add] at hr hc
    rw [List.nil_append, t29_size] at hrow
    have HR := hide hr
    have HW := hide hrow
    have HB := hide (show Turns (fun _ => False) w w2 from Turns.of_below (((Below.refl _ w).alloc (Nat.le_refl _) (.cells #[] 29)).trans hb2) _)
    have HC := hide hc
    clear hr hrow hb hb2 h hc
    generalize hN : R.length = N at *
    have HN := hide hN
    clear hN
    have he : (binOp .eql 31 (.slice (some ad) N c) (.slice none 0 0)).run Try.prog w = .ok (.bool false) w := nil_eql31 (some ad) N c w
    go_enter Try.func31, Try.ntmps31
    go_wp2_with (at_builtin; refine wpList_append_run rfl _ _ 31 rfl (.slice (some ⟨w.heap.size, 0, none⟩) 0 0) (.slice (some ad) N c) rfl rfl _ _ (HR.out _) ?_)
    go_ret
    exact ⟨_, c2, rfl, .inr ⟨g, c2, N, rfl, HN.out.symm, HC.out, hg, HW.out⟩, (fun e => by cases e), HB.out⟩
theorem delFunc_nil (K V : Nat) (w : World) : Calls Try.prog 57 #[.slice none 0 0, .func (.func 58) #[] #[.pointer (some ⟨K, 0, none⟩), .pointer (some ⟨V, 0, none⟩)]] w fun e w' => e = .returned (.slice none 0 0) ∧ Turns (fun _ => False) w w' := by
  have IX := hide (show Calls Try.prog 74 #[.slice none 0 0, .func (.func 58) #[] #[.pointer (some ⟨K, 0, none⟩), .pointer (some ⟨V, 0, none⟩)]] w (fun e w' => e = .returned (.int .i64 (-1)) ∧ Turns (fun _ => False) w w') by
    go_enter Try.func74, Try.ntmps74
    go_wp2_with fail
    go_loopw [8] (fun i wr => i = .int .i64 0 ∧ Turns (fun _ => False) w wr) (fun _ _ => 0)
    case atStart => exact ⟨rfl, Turns.refl _ _⟩
    case round =>
      obtain ⟨rfl, hb⟩ := hrel
      have HB := hide hb
      clear hb
      go_wp2_with fail
      go_ret
      exact ⟨rfl, HB.out⟩)
  go_enter Try.func57, Try.ntmps57
  go_wp2_with fail
  refine IX.out.mono ?_
  rintro e w1 ⟨rfl, t1⟩
  have T1 := hide t1
  clear t1
  go_wp2_with fail
  go_ret
  exact ⟨rfl, T1.out⟩
theorem delFunc_row (a : Option Addr) (n c B : Nat) (R : List Tow) (K V gb : Nat) (bs : List Bool) (w : World) (h : ERow w B (.slice a n c) R) (hn : n = R.length) (hmx : n ≤ 1000000) (he : Env w K V gb n bs 0) (hbs : bs.length = n) :
    Calls Try.prog 57 #[.slice a n c, .func (.func 58) #[] #[.pointer (some ⟨K, 0, none⟩), .pointer (some ⟨V, 0, none⟩)]] w fun e w' => ∃ n', e = .returned (.slice a n' c) ∧ n' = (keepB R bs).length ∧ n' ≤ n ∧ ERow w' B (.slice a n' c) (keepB R bs) ∧ Turns (fun k => inRow (.slice a n c) k ∨ k = K) w w' := by
  rcases h with ⟨rfl, e⟩ | ⟨g, c', n', e, hn', hc, hB, hrow⟩
  · cases e
    refine (delFunc_nil K V w).mono ?_
    rintro e w' ⟨rfl, t⟩
    exact ⟨0, rfl, by rw [keepB_nil]; rfl, Nat.le_refl _, .inl ⟨keepB_nil _, rfl⟩, t.mono fun _ _ x => x.elim⟩
  · cases e
    refine (delFunc_any g n c R K V gb bs w hrow hc hn hmx he hbs).mono ?_
    rintro e w' ⟨m, rfl, hm, hmn, hr, t⟩
    exact ⟨m, rfl, hm, hmn, .inr ⟨g, c, m, rfl, hm, by omega, hB, hr⟩, t.mono fun k _ e => e.elim (fun e => .inl ⟨n, c, by rw [e]⟩) .inr⟩
theorem Turns.fresh {S : Nat → Prop} {K : Nat} {w w1 w2 : World} (h : Turns S w w1) (t : Turns (fun k => S k ∨ k = K) w1 w2) (hK : w.heap.size ≤ K) : Turns S w w2 := by
  have t2 := (h.mono (S' := fun k => S k ∨ k = K) fun _ _ x => .inl x).trans t
  exact ⟨t2.os, t2.tape, t2.output, t2.size, fun k k1 k2 => t2.block k k1 fun e => e.elim k2 fun e => by omega⟩
theorem left_end (a : Option Addr) (n c B : Nat) (R : List Tow) (V g K : Nat) (bs : List Bool) (w w2 : World) (h : ERow w B (.slice a n c) R) (hn : n = R.length) (hmx : n ≤ 1000000) (t : Turns (fun _ => False) w w2) (hv : w2.heap[V]? = some (.cells #[.slice (some ⟨g, 0, none⟩) n n] 32 (0, 0))) (hb : Bools w2 g bs) (hbs : bs.length = n) (hK : K = w2.heap.size) :
    Calls Try.prog 57 #[.slice a n c, .func (.func 58) #[] #[.pointer (some ⟨K, 0, none⟩), .pointer (some ⟨V, 0, none⟩)]] (w2.alloc (.cells #[.int .i64 0] 3)) fun e w' => ∃ n', e = .returned (.slice a n' c) ∧ n' = (keepB R bs).length ∧ n' ≤ n ∧ ERow w' B (.slice a n' c) (keepB R bs) ∧ Turns (fun k => inRow (.slice a n c) k) w w' := by
  subst hK
  have tA := (Turns.refl (fun _ => False) w2).alloc (.cells #[.int .i64 0] 3)
  obtain ⟨cs, q1, q2⟩ := hb
  have he : Env (w2.alloc (.cells #[.int .i64 0] 3)) w2.heap.size V g n bs 0 := ⟨heap_alloc_new w2 _, tA.heap hv (fun x => x), cs, tA.heap q1 (fun x => x), q2⟩
  refine (delFunc_row a n c B R w2.heap.size V g bs _ (h.keep (t.trans tA) (fun _ _ x => x)) hn hmx he hbs).mono ?_
  rintro e w' ⟨m, rfl, h1, h2, h3, h4⟩
  exact ⟨m, rfl, h1, h2, h3, (((t.trans tA).mono (S' := fun k => inRow (.slice a n c) k) fun _ _ x => x.elim)).fresh h4 t.size⟩
theorem left_any (a : Option Addr) (n c B : Nat) (R : List Tow) (kb ko ln lc : Nat) (ks : List Nat) (bot : Bool) (w : World) (h : ERow w B (.slice a n c) R) (hb : ∀ x, x ∈ R → Bytes w x.kv x.e.key ∧ Bytes w x.vv x.e.val) (hn : n = R.length) (hmx : n ≤ 1000000) (ho : inOrd (ents R) = true) (hk : U64s w (some ⟨kb, ko, none⟩) ks) (hkn : ln = ks.length) (hlc : ln ≤ lc) (hks : ks.Pairwise (· < ·)) (hkm : ln ≤ 1000000) :
    Calls Try.prog 38 #[.slice a n c, .slice (some ⟨kb, ko, none⟩) ln lc, .bool bot] w fun e w' => ∃ n', e = .returned (.slice a n' c) ∧ n' = (keepB R (rowB ks bot (ents R))).length ∧ n' ≤ n ∧ ERow w' B (.slice a n' c) (keepB R (rowB ks bot (ents R))) ∧ Turns (fun k => inRow (.slice a n c) k) w w' := by
  have hE : Ents w a R := by
    obtain ⟨a', c', e, hE, _⟩ := ents_row (B := B) h hb
    cases e
    exact hE
  have VI := hide (visible_any a n c R kb ko ln lc ks w hE hn hmx ho hk hkn hlc hks hkm)
  have HV := hide (show (vis ks (ents R)).length = n by rw [vis_length]; simp [ents]; exact hn.symm)
  have HE := hide hE
  have HN := hide hn
  have HR := hide h
  clear h hb hn ho hk hkn hks hE
  go_enter Try.func38, Try.ntmps38
  go_wp2_with fail
  refine VI.out.mono ?_
  rintro e w1 ⟨g, rfl, hg, hbs, t1⟩
  have HG := hide hg
  have hV := heap_alloc_new w1 (.cells #[.slice (some ⟨g, 0, none⟩) n n] 32)
  have tV := (Turns.refl (fun _ => False) w1).alloc (.cells #[.slice (some ⟨g, 0, none⟩) n n] 32)
  have hVs := t1.size
  have HVS := hide hVs
  have hcV := cell_of_row _ w1.heap.size 0 _ 32 (0, 0) hV
  have T2 := hide (t1.trans tV)
  have HB2 := hide (show Bools (w1.alloc (.cells #[.slice (some ⟨g, 0, none⟩) n n] 32)) g (vis ks (ents R)) by obtain ⟨cs, q1, q2⟩ := hbs; exact ⟨cs, tV.heap q1 (fun x => x), q2⟩)
  have HV2 := hide hV
  clear hg hbs t1 tV hVs VI hV
  cases bot
  · have LE := hide (fun (K : Nat) (hK : K = w1.heap.size + 1) => left_end a n c B R w1.heap.size g K (vis ks (ents R)) w _ HR.out HN.out hmx T2.out HV2.out HB2.out HV.out (by rw [hK]; simp))
    go_wp2_with fail
    generalize hw2 : w1.alloc (.cells #[.slice (some ⟨g, 0, none⟩) n n] 32) = w2 at *
    refine (LE.out _ rfl).mono ?_
    rintro e w3 ⟨n', rfl, h1, h2, h3, h4⟩
    have H1 := hide h1
    clear h1
    go_wp2_with fail
    go_ret
    exact ⟨n', rfl, H1.out, h2, h3, h4⟩
  · have UN := hide (uncover_any a n c R g (vis ks (ents R)) w _ HE.out T2.out HG.out HN.out hmx HV.out HB2.out)
    go_wp2_with fail
    generalize hw2 : w1.alloc (.cells #[.slice (some ⟨g, 0, none⟩) n n] 32) = w2 at *
    refine UN.out.mono ?_
    rintro e w3 ⟨⟨u, rfl⟩, b3, t3, t4⟩
    have LE := hide (left_end a n c B R w1.heap.size g w3.heap.size (stayB ((ents R).zip (vis ks (ents R)))) w w3 HR.out HN.out hmx t3 (t4.heap HV2.out (fun e => by obtain ⟨cs, q1, _⟩ := HB2.out; have := HV2.out; rw [e, q1] at this; cases this)) b3 (by rw [stayB_length, List.length_zip, HV.out]; simp [ents]; have := HN.out; omega) rfl)
    clear b3 t3 t4 UN
    go_wp2_with fail
    refine LE.out.mono ?_
    rintro e w4 ⟨n', rfl, h1, h2, h3, h4⟩
    have H1 := hide h1
    clear h1
    go_wp2_with fail
    go_ret
    exact ⟨n', rfl, H1.out, h2, h3, h4⟩
end Go.Proofs.Ytpgligfolecieaa
