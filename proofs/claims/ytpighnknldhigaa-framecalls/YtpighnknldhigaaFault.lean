/-
  What is wrong with the frame that stands first: the code's own tests.
-/
import Derived.Test.YtpighnknldhigaaOwn
import Derived.Handy
namespace Go.Proofs.Ytpighnknldhigaa
open Go.RowKit

/-- A cell of bytes. -/
theorem Bytes.at {w : World} {b off n c : Nat} {bs : List (BitVec 8)} (h : Bytes w (.slice (some ⟨b, off, none⟩) n c) bs) (k : Nat) (hk : k < bs.length) : w.cell? ⟨b, off + k, none⟩ = some (.int .u8 ((bs.getD k 0).toNat : Int)) := by
  obtain ⟨a, c', hv, hc⟩ := h
  cases hv
  obtain ⟨b', off', ha, hcell⟩ := hc k hk
  cases ha
  exact hcell
theorem Bytes.len {w : World} {a : Option Addr} {n c : Nat} {bs : List (BitVec 8)} (h : Bytes w (.slice a n c) bs) : n = bs.length := by
  obtain ⟨a', c', hv, hc⟩ := h
  cases hv
  rfl
theorem Bytes.addr {w : World} {a : Option Addr} {n c : Nat} {bs : List (BitVec 8)} (h : Bytes w (.slice a n c) bs) (h0 : 0 < n) : ∃ b off, a = some ⟨b, off, none⟩ := by
  obtain ⟨a', c', hv, hc⟩ := h
  cases hv
  obtain ⟨b, off, ha, _⟩ := hc 0 h0
  exact ⟨b, off, ha⟩
/-- A part of bytes. -/
theorem Bytes.part {w : World} {b off n c : Nat} {bs : List (BitVec 8)} (h : Bytes w (.slice (some ⟨b, off, none⟩) n c) bs) (i m c' : Nat) (hm : i + m ≤ bs.length) : Bytes w (.slice (some ⟨b, off + i, none⟩) m c') ((bs.drop i).take m) := by
  have hl : ((bs.drop i).take m).length = m := by rw [List.length_take, List.length_drop]; omega
  refine ⟨_, c', by rw [hl], fun k hk => ⟨b, off + i, rfl, ?_⟩⟩
  rw [hl] at hk
  have := h.at (i + k) (by omega)
  rw [show off + i + k = off + (i + k) by omega, this]
  congr 2
  simp [List.getD, hk]
theorem Bytes.nothing {w : World} (a : Option Addr) (c : Nat) : Bytes w (.slice a 0 c) [] := ⟨a, c, rfl, fun k hk => by simp at hk⟩

/-- The first eight bytes. -/
theorem eight {bs : List (BitVec 8)} (h : 8 ≤ bs.length) : ∃ b0 b1 b2 b3 b4 b5 b6 b7 t, bs = b0 :: b1 :: b2 :: b3 :: b4 :: b5 :: b6 :: b7 :: t := by
  match bs, h with
  | b0 :: b1 :: b2 :: b3 :: b4 :: b5 :: b6 :: b7 :: t, _ => exact ⟨b0, b1, b2, b3, b4, b5, b6, b7, t, rfl⟩

theorem set4 {w : World} {g : Nat} {t : TypeId} {x0 x1 x2 x3 : Value} (h : w.heap[g]? = some (.cells #[x0, x1, x2, x3] t (0, 0))) (a b c d : Value) :
    ((((w.setCell ⟨g, 0, none⟩ a).setCell ⟨g, 1, none⟩ b).setCell ⟨g, 2, none⟩ c).setCell ⟨g, 3, none⟩ d).heap[g]? = some (.cells #[a, b, c, d] t (0, 0)) :=
  heap_setCell_same _ g 3 _ t d (heap_setCell_same _ g 2 _ t c (heap_setCell_same _ g 1 _ t b (heap_setCell_same w g 0 _ t a h)))
section
variable {P : Program}
theorem results_tmp_cell {fn : Func} {i p : Tmp} {ty : TypeId} (h : fn.results = #[.tmp i, .cell p ty]) (tmps : Array Value) (w : World) (v : Value) (g : Nat) (t : TypeId) (cs : Array Value) (fr : Nat × Nat) (d : TypeDesc)
    (hv : tmps.getD i undef = v) (hp : tmps.getD p undef = .pointer (some ⟨g, 0, none⟩)) (hg : w.heap[g]? = some (.cells cs t fr))
    (hu : P.underlying ty = some d) (hd : (match d with | .struct _ | .array _ _ => true | _ => false) = true) (hi : (P.info? ty).map (·.size) = some cs.size) :
    (results fn tmps).run P w = .ok (.tuple #[v, .agg cs]) w := by
  have hp' : tmps[p]?.getD undef = .pointer (some ⟨g, 0, none⟩) := by simpa using hp
  have hv' : tmps[i]?.getD undef = v := by simpa using hv
  simp [results, h, hp', hv', asAddr, run_loadVar_row w g t ty cs fr d hg hu hd hi]
theorem results_cell_tmp2 {fn : Func} {i j p : Tmp} {ty : TypeId} (h : fn.results = #[.cell p ty, .tmp i, .tmp j]) (tmps : Array Value) (w : World) (v u : Value) (g : Nat) (t : TypeId) (cs : Array Value) (fr : Nat × Nat) (d : TypeDesc)
    (hv : tmps.getD i undef = v) (hu' : tmps.getD j undef = u) (hp : tmps.getD p undef = .pointer (some ⟨g, 0, none⟩)) (hg : w.heap[g]? = some (.cells cs t fr))
    (hu : P.underlying ty = some d) (hd : (match d with | .struct _ | .array _ _ => true | _ => false) = true) (hi : (P.info? ty).map (·.size) = some cs.size) :
    (results fn tmps).run P w = .ok (.tuple #[.agg cs, v, u]) w := by
  have hp' : tmps[p]?.getD undef = .pointer (some ⟨g, 0, none⟩) := by simpa using hp
  have hv' : tmps[i]?.getD undef = v := by simpa using hv
  have hw' : tmps[j]?.getD undef = u := by simpa using hu'
  simp [results, h, hp', hv', hw', asAddr, run_loadVar_row w g t ty cs fr d hg hu hd hi]
end

set_option maxRecDepth 100000 in
set_option maxHeartbeats 1000000 in
theorem behind_any (b off n c : Nat) (bs : List (BitVec 8)) (w : World) (hv : Bytes w (.slice (some ⟨b, off, none⟩) n c) bs) (hnc : n ≤ c) (h8 : Fr.lenOf bs + 12 ≤ n) :
    Calls Try.prog 25 #[.slice (some ⟨b, off, none⟩) n c] w fun e w' => ∃ (cb : Nat) (s0 s1 s2 s3 : BitVec 8), e = .returned (.tuple #[.slice (some ⟨b, off + 8, none⟩) (Fr.lenOf bs) cb, .agg #[.int .u8 s0.toNat, .int .u8 s1.toNat, .int .u8 s2.toNat, .int .u8 s3.toNat]]) ∧ (bs.drop (8 + Fr.lenOf bs)).take 4 = [s0, s1, s2, s3] ∧ Below w.heap.size w w' := by
  have hn := hv.len
  have HV := hide hv
  obtain ⟨b0, b1, b2, b3, b4, b5, b6, b7, t, hbs⟩ := eight (bs := bs) (by omega)
  have k0 : w.cell? ⟨b, off, none⟩ = some (.int .u8 b0.toNat) := by have := hv.at 0 (by omega); rw [hbs] at this; exact this
  have k1 : w.cell? ⟨b, off + 1, none⟩ = some (.int .u8 b1.toNat) := by have := hv.at 1 (by omega); rw [hbs] at this; exact this
  have k2 : w.cell? ⟨b, off + 2, none⟩ = some (.int .u8 b2.toNat) := by have := hv.at 2 (by omega); rw [hbs] at this; exact this
  have k3 : w.cell? ⟨b, off + 3, none⟩ = some (.int .u8 b3.toNat) := by have := hv.at 3 (by omega); rw [hbs] at this; exact this
  have k4 : w.cell? ⟨b, off + 4, none⟩ = some (.int .u8 b4.toNat) := by have := hv.at 4 (by omega); rw [hbs] at this; exact this
  have k5 : w.cell? ⟨b, off + 5, none⟩ = some (.int .u8 b5.toNat) := by have := hv.at 5 (by omega); rw [hbs] at this; exact this
  have k6 : w.cell? ⟨b, off + 6, none⟩ = some (.int .u8 b6.toNat) := by have := hv.at 6 (by omega); rw [hbs] at this; exact this
  have k7 : w.cell? ⟨b, off + 7, none⟩ = some (.int .u8 b7.toNat) := by have := hv.at 7 (by omega); rw [hbs] at this; exact this
  have hL : Fr.lenOf bs = b1.toNat + 256 * b2.toNat + 65536 * b3.toNat := by rw [hbs]; rfl
  have hlt := block_lt_of_cell k0
  have hat := at47 (some ⟨b, off, none⟩) n c (by omega)
  have HBS := hide hbs
  have HN := hide hn
  have HL := hide hL
  clear hbs hn hL hv
  generalize hLL : Fr.lenOf bs = L at *
  have hp := HV.out.part (8 + L) 4 (n - (8 + L)) (by have := HN.out; omega)
  obtain ⟨s0, s1, s2, s3, hs⟩ := Fr.of_four (l := (bs.drop (8 + L)).take 4) (by have := HN.out; rw [List.length_take, List.length_drop]; omega)
  rw [hs] at hp
  have p0 : w.cell? ⟨b, off + (8 + L), none⟩ = some (.int .u8 s0.toNat) := hp.at 0 (by simp)
  have p1 : w.cell? ⟨b, off + (8 + L) + 1, none⟩ = some (.int .u8 s1.toNat) := hp.at 1 (by simp)
  have p2 : w.cell? ⟨b, off + (8 + L) + 2, none⟩ = some (.int .u8 s2.toNat) := hp.at 2 (by simp)
  have p3 : w.cell? ⟨b, off + (8 + L) + 3, none⟩ = some (.int .u8 s3.toNat) := hp.at 3 (by simp)
  have HS := hide hs
  have P0 := hide p0
  have P1 := hide p1
  have P2 := hide p2
  have P3 := hide p3
  have HLL := hide hLL
  clear hs p0 p1 p2 p3 hp hLL
  go_enter Try.func25, Try.ntmps25
  go_wp2_with fail
  refine (length_any _ _ _ _ _ _ _ _ _).mono ?_
  rintro e w1 ⟨rfl, b1'⟩
  rw [← HL.out]
  have B1 := hide (((Below.refl w.heap.size w).alloc (Nat.le_refl _) _).trans (b1'.mono (by simp)))
  have hrow : w1.heap[w.heap.size]? = some (.cells #[.int .u8 0, .int .u8 0, .int .u8 0, .int .u8 0] 50 (0, 0)) := (b1'.block _ (by simp)).trans (heap_alloc_new w _)
  clear k0 k1 k2 k3 k4 k5 k6 k7 b1'
  have q0 := (B1.out.cell (p := ⟨b, off + (8 + L), none⟩) hlt).trans P0.out
  have q1 := (B1.out.cell (p := ⟨b, off + (8 + L) + 1, none⟩) hlt).trans P1.out
  have q2 := (B1.out.cell (p := ⟨b, off + (8 + L) + 2, none⟩) hlt).trans P2.out
  have q3 := (B1.out.cell (p := ⟨b, off + (8 + L) + 3, none⟩) hlt).trans P3.out
  obtain ⟨E, hE⟩ : ∃ E : Nat, E = 8 + L := ⟨_, rfl⟩
  rw [← hE] at q0 q1 q2 q3
  have hEi : (8 : Int) + (L : Int) = (E : Int) := by omega
  have hE1 : (E : Int) ≤ (c : Int) := by omega
  have hE2 : (E : Int) ≤ (n : Int) := by omega
  have hE3 : (8 : Int) ≤ (E : Int) := by omega
  have hLt := Fr.lenOf_lt bs
  rw [HLL.out] at hLt
  have hw64 : wrap64 (E : Int) = (E : Int) := by unfold wrap64; omega
  have hE4 : ¬ c = E := by omega
  have hE5 : ¬ c = 8 := by omega
  have hat2 := at50 (some ⟨b, off + E, none⟩) (n - E) (c - E) (by omega)
  have z0 : w1.cell? ⟨w.heap.size, 0, none⟩ = some (.int .u8 0) := cell_of_row w1 _ 0 _ 50 (0, 0) hrow
  have z1 : w1.cell? ⟨w.heap.size, 1, none⟩ = some (.int .u8 0) := cell_of_row w1 _ 1 _ 50 (0, 0) hrow
  have z2 : w1.cell? ⟨w.heap.size, 2, none⟩ = some (.int .u8 0) := cell_of_row w1 _ 2 _ 50 (0, 0) hrow
  have z3 : w1.cell? ⟨w.heap.size, 3, none⟩ = some (.int .u8 0) := cell_of_row w1 _ 3 _ 50 (0, 0) hrow
  have f0 := frozen_of_row w1 _ 0 _ 50 hrow
  have f1 := frozen_of_row w1 _ 1 _ 50 hrow
  have f2 := frozen_of_row w1 _ 2 _ 50 hrow
  have f3 := frozen_of_row w1 _ 3 _ 50 hrow
  have HE := hide hE
  have HR := hide hrow
  clear hE hrow hat
  go_wp2_with fail
  go_region
  go_wp2_with fail
  refine bodyPost_ret (v := .tuple #[.slice (some ⟨b, off + 8, none⟩) (E - 8) (c - 8), .agg #[.int .u8 s0.toNat, .int .u8 s1.toNat, .int .u8 s2.toNat, .int .u8 s3.toNat]]) ?_ rfl ?_
  · exact results_tmp_cell Try.results25 _ _ _ _ _ _ _ _ rfl rfl (set4 (w := w1.drew) HR.out _ _ _ _) Try.underlying50 rfl info50
  · refine ⟨c - 8, s0, s1, s2, s3, ?_, HS.out, ?_⟩
    · rw [show E - 8 = L by have := HE.out; omega]
    · exact (((B1.out.setCell (Nat.le_refl _) _).setCell (Nat.le_refl _) _).setCell (Nat.le_refl _) _).setCell (Nat.le_refl _) _ |>.drew

set_option maxRecDepth 100000 in
set_option maxHeartbeats 1000000 in
theorem bodyWhole_any (b off n c : Nat) (bs : List (BitVec 8)) (w : World) (hv : Bytes w (.slice (some ⟨b, off, none⟩) n c) bs) (hnc : n ≤ c) (h8 : Fr.lenOf bs + 12 ≤ n) (hx : bs.length ≤ maxLen) :
    Calls Try.prog 37 #[.slice (some ⟨b, off, none⟩) n c] w fun e w' => e = .returned (.bool (decide ((bs.drop (8 + Fr.lenOf bs)).take 4 = Fr.msum (Fr.bodyOf bs)))) ∧ Below w.heap.size w w' := by
  have hn := hv.len
  have HV := hide hv
  have hbl : (Fr.bodyOf bs).length ≤ maxLen := by
    unfold Fr.bodyOf
    rw [List.length_take, List.length_drop]
    omega
  have hpart := fun (cb : Nat) => hv.part 8 (Fr.lenOf bs) cb (by omega)
  have HP := hide hpart
  have HBL := hide hbl
  clear hpart hbl hv hn hx
  go_enter Try.func37, Try.ntmps37
  go_wp2_with fail
  refine (behind_any b off n c bs _ HV.out hnc h8).mono ?_
  rintro e w1 ⟨cb, s0, s1, s2, s3, rfl, hs, b1⟩
  have HS := hide hs
  have B1 := hide b1
  clear hs b1
  generalize hLL : Fr.lenOf bs = L at *
  have HLL := hide hLL
  clear hLL
  go_wp2_with fail
  have B2 := hide (B1.out.alloc B1.out.size (.cells #[.int .u8 s0.toNat, .int .u8 s1.toNat, .int .u8 s2.toNat, .int .u8 s3.toNat] 50))
  have hnew := heap_alloc_new w1 (.cells #[.int .u8 s0.toNat, .int .u8 s1.toNat, .int .u8 s2.toNat, .int .u8 s3.toNat] 50)
  generalize w1.alloc (.cells #[.int .u8 s0.toNat, .int .u8 s1.toNat, .int .u8 s2.toNat, .int .u8 s3.toNat] 50) = w2 at *
  have z0 : w2.cell? ⟨w1.heap.size, 0, none⟩ = some (.int .u8 s0.toNat) := cell_of_row w2 _ 0 _ 50 (0, 0) hnew
  have z1 : w2.cell? ⟨w1.heap.size, 1, none⟩ = some (.int .u8 s1.toNat) := cell_of_row w2 _ 1 _ 50 (0, 0) hnew
  have z2 : w2.cell? ⟨w1.heap.size, 2, none⟩ = some (.int .u8 s2.toNat) := cell_of_row w2 _ 2 _ 50 (0, 0) hnew
  have z3 : w2.cell? ⟨w1.heap.size, 3, none⟩ = some (.int .u8 s3.toNat) := cell_of_row w2 _ 3 _ 50 (0, 0) hnew
  have hg := block_lt_of_cell z0
  have Y0 : Hid (w2.drew.cell? ⟨w1.heap.size, 0, none⟩ = some (.int .u8 s0.toNat)) := (World.cell?_drew _ _).trans z0
  have Y1 : Hid (w2.drew.cell? ⟨w1.heap.size, 1, none⟩ = some (.int .u8 s1.toNat)) := (World.cell?_drew _ _).trans z1
  have Y2 : Hid (w2.drew.cell? ⟨w1.heap.size, 2, none⟩ = some (.int .u8 s2.toNat)) := (World.cell?_drew _ _).trans z2
  have Y3 : Hid (w2.drew.cell? ⟨w1.heap.size, 3, none⟩ = some (.int .u8 s3.toNat)) := (World.cell?_drew _ _).trans z3
  have HG : Hid (w1.heap.size < w2.drew.heap.size) := hg
  clear hnew hg
  generalize hgg : w1.heap.size = gg at *
  have HB : Hid (Bytes w2.drew (.slice (some ⟨b, off + 8, none⟩) L cb) (Fr.bodyOf bs)) := by
    have := (HP.out cb).below B2.out.drew
    unfold Fr.bodyOf
    rw [HLL.out]
    exact this
  go_region_with (go_at_call 23; refine (sumOf_x _ (Fr.bodyOf bs) _ HB.out HBL.out).mono ?_; rintro e w3 ⟨t0, t1, t2, t3, ht, rfl, b3⟩; have d0 := (b3.cell (p := ⟨gg, 0, none⟩) HG.out).trans Y0.out; have d1 := (b3.cell (p := ⟨gg, 1, none⟩) HG.out).trans Y1.out; have d2 := (b3.cell (p := ⟨gg, 2, none⟩) HG.out).trans Y2.out; have d3 := (b3.cell (p := ⟨gg, 3, none⟩) HG.out).trans Y3.out; have hq := eq50' s0 s1 s2 s3 _ t0 t1 t2 t3 ht; have B3 := hide (then_below B2.out.drew b3 (Nat.le_refl _)); clear ht b3)
  all_goals go_wp2_with fail
  all_goals go_ret
  all_goals (refine ⟨?_, B3.out⟩; rw [HLL.out, HS.out]; first | done | rfl)

/-- The first eight cells of bytes. -/
theorem head8 {w : World} {b off n c : Nat} {b0 b1 b2 b3 b4 b5 b6 b7 : BitVec 8} {t : List (BitVec 8)} (hv : Bytes w (.slice (some ⟨b, off, none⟩) n c) (b0 :: b1 :: b2 :: b3 :: b4 :: b5 :: b6 :: b7 :: t)) :
    w.cell? ⟨b, off, none⟩ = some (.int .u8 b0.toNat) ∧ w.cell? ⟨b, off + 1, none⟩ = some (.int .u8 b1.toNat) ∧ w.cell? ⟨b, off + 2, none⟩ = some (.int .u8 b2.toNat) ∧ w.cell? ⟨b, off + 3, none⟩ = some (.int .u8 b3.toNat) ∧ w.cell? ⟨b, off + 4, none⟩ = some (.int .u8 b4.toNat) ∧ w.cell? ⟨b, off + 5, none⟩ = some (.int .u8 b5.toNat) ∧ w.cell? ⟨b, off + 6, none⟩ = some (.int .u8 b6.toNat) ∧ w.cell? ⟨b, off + 7, none⟩ = some (.int .u8 b7.toNat) :=
  ⟨hv.at 0 (by simp), hv.at 1 (by simp), hv.at 2 (by simp), hv.at 3 (by simp), hv.at 4 (by simp), hv.at 5 (by simp), hv.at 6 (by simp), hv.at 7 (by simp)⟩

set_option maxRecDepth 100000 in
set_option maxHeartbeats 1000000 in
theorem fault_short (a : Option Addr) (n c : Nat) (w : World) (h : n < 8) :
    Calls Try.prog 24 #[.slice a n c] w fun e w' => e = .returned (.int .i64 12) ∧ w' = w := by
  have hlt : (n : Int) < 8 := by omega
  go_enter Try.func24, Try.ntmps24
  go_wp2_with fail
  go_ret
  exact ⟨rfl, rfl⟩

set_option maxRecDepth 100000 in
set_option maxHeartbeats 4000000 in
theorem fault_long (b off n c : Nat) (bs : List (BitVec 8)) (w : World) (hv : Bytes w (.slice (some ⟨b, off, none⟩) n c) bs) (hnc : n ≤ c) (h8 : 8 ≤ n) (hx : bs.length ≤ maxLen) :
    Calls Try.prog 24 #[.slice (some ⟨b, off, none⟩) n c] w fun e w' => e = .returned (.int .i64 (Fr.fault bs : Nat)) ∧ Below w.heap.size w w' := by
  have hn := hv.len
  have hat := at47 (some ⟨b, off, none⟩) n c (by omega)
  obtain ⟨b0, b1, b2, b3, b4, b5, b6, b7, t, hbs⟩ := eight (bs := bs) (by omega)
  have hwh : ((bs.drop 4).take 4 = Fr.msum (bs.take 4)) = ([b4, b5, b6, b7] = Fr.msum [b0, b1, b2, b3]) := by rw [hbs]; rfl
  have hL : Fr.lenOf bs = b1.toNat + 256 * b2.toNat + 65536 * b3.toNat := by rw [hbs]; rfl
  have hLt := Fr.lenOf_lt bs
  have hfd : Fr.fault bs = if (bs.drop 4).take 4 ≠ Fr.msum (bs.take 4) then 4
      else if 1048576 < Fr.lenOf bs then 3
      else if bs.length < Fr.lenOf bs + 12 then 12
      else if (bs.drop (8 + Fr.lenOf bs)).take 4 ≠ Fr.msum (Fr.bodyOf bs) then 4
      else 0 := by
    unfold Fr.fault
    rw [if_neg (by omega)]
  have hge : ¬ (n : Int) < 8 := by omega
  have HV : Hid (Bytes w (.slice (some ⟨b, off, none⟩) n c) (b0 :: b1 :: b2 :: b3 :: b4 :: b5 :: b6 :: b7 :: t)) := by rw [hbs] at hv; exact hv
  have HV' := hide hv
  have HX := hide hx
  have HN := hide hn
  have HWH := hide hwh
  have HL := hide hL
  have HFD := hide hfd
  obtain ⟨k0, k1, k2, k3, k4, k5, k6, k7⟩ := head8 HV.out
  clear hv hn hwh hL hfd hbs hx
  generalize hLL : Fr.lenOf bs = L at *
  have HLL := hide hLL
  clear hLL
  by_cases q1 : [b4, b5, b6, b7] = Fr.msum [b0, b1, b2, b3]
  · have Q1 := hide q1
    have dq1 : decide ([b4, b5, b6, b7] = Fr.msum [b0, b1, b2, b3]) = true := decide_eq_true q1
    clear q1
    have hF1 : Hid (Fr.fault bs = if 1048576 < L then 3 else if bs.length < L + 12 then 12 else if (bs.drop (8 + L)).take 4 ≠ Fr.msum (Fr.bodyOf bs) then 4 else 0) := by
      unfold Hid
      rw [HFD.out, if_neg]
      rw [ne_eq, HWH.out, Classical.not_not]
      exact Q1.out
    clear HFD HWH
    by_cases q2 : 1048576 < L
    · have hq2 : (1048576 : Int) < (L : Int) := by omega
      have hF2 : Hid (Fr.fault bs = 3) := by unfold Hid; rw [hF1.out, if_pos q2]
      go_enter Try.func24, Try.ntmps24
      go_wp2_with fail
      refine (whole_any _ _ _ _ _ _ _ _ _).mono ?_
      rintro e w1 ⟨rfl, x1⟩
      rw [dq1]
      have X1 := hide x1
      obtain ⟨k0, k1, k2, k3, k4, k5, k6, k7⟩ := head8 (HV.out.below X1.out)
      clear x1
      go_wp2_with fail
      refine (length_any _ _ _ _ _ _ _ _ _).mono ?_
      rintro e w2 ⟨rfl, x2⟩
      rw [← HL.out]
      have X2 := hide (then_below X1.out x2 (Nat.le_refl _))
      clear x2
      go_wp2_with fail
      go_ret
      exact ⟨by rw [hF2.out]; rfl, X2.out⟩
    · have hq2 : ¬ (1048576 : Int) < (L : Int) := by omega
      by_cases q3 : n < L + 12
      · have hq3 : (n : Int) < max (L : Int) 0 + 12 := by omega
        have hF2 : Hid (Fr.fault bs = 12) := by unfold Hid; rw [hF1.out, if_neg q2, if_pos (by have := HN.out; omega)]
        go_enter Try.func24, Try.ntmps24
        go_wp2_with fail
        refine (whole_any _ _ _ _ _ _ _ _ _).mono ?_
        rintro e w1 ⟨rfl, x1⟩
        rw [dq1]
        have X1 := hide x1
        obtain ⟨k0, k1, k2, k3, k4, k5, k6, k7⟩ := head8 (HV.out.below X1.out)
        clear x1
        go_wp2_with fail
        refine (length_any _ _ _ _ _ _ _ _ _).mono ?_
        rintro e w2 ⟨rfl, x2⟩
        rw [← HL.out]
        have X2 := hide (then_below X1.out x2 (Nat.le_refl _))
        obtain ⟨k0, k1, k2, k3, k4, k5, k6, k7⟩ := head8 (HV.out.below X2.out)
        clear x2
        go_wp2_with fail
        refine (length_any _ _ _ _ _ _ _ _ _).mono ?_
        rintro e w3 ⟨rfl, x3⟩
        rw [← HL.out]
        have X3 := hide (then_below X2.out x3 (Nat.le_refl _))
        clear x3
        go_wp2_with fail
        refine (size_any (L : Int) _ (by omega) (by omega)).mono ?_
        rintro e w4 ⟨rfl, hw⟩
        subst hw
        rw [show max (L : Int) 0 + 12 = ((L + 12 : Nat) : Int) by omega] at *
        generalize hM : L + 12 = M at *
        have HM := hide hM
        clear hM
        go_wp2_with fail
        go_ret
        exact ⟨by rw [hF2.out]; rfl, X3.out⟩
      · have hq3 : ¬ (n : Int) < max (L : Int) 0 + 12 := by omega
        have hF2 : Hid (Fr.fault bs = if (bs.drop (8 + L)).take 4 ≠ Fr.msum (Fr.bodyOf bs) then 4 else 0) := by unfold Hid; rw [hF1.out, if_neg q2, if_neg (by have := HN.out; omega)]
        have hbw : ∀ w', Below w.heap.size w w' → Calls Try.prog 37 #[.slice (some ⟨b, off, none⟩) n c] w' fun e w'' => e = .returned (.bool (decide ((bs.drop (8 + L)).take 4 = Fr.msum (Fr.bodyOf bs)))) ∧ Below w'.heap.size w' w'' := fun w' hb => by
          have := bodyWhole_any b off n c bs w' (HV'.out.below hb) hnc (by rw [HLL.out]; omega) HX.out
          rw [HLL.out] at this
          exact this
        have HBW := hide hbw
        clear hbw
        by_cases q4 : (bs.drop (8 + L)).take 4 = Fr.msum (Fr.bodyOf bs)
        · have dq4 : decide ((bs.drop (8 + L)).take 4 = Fr.msum (Fr.bodyOf bs)) = true := decide_eq_true q4
          have hF3 : Hid (Fr.fault bs = 0) := by unfold Hid; rw [hF2.out, if_neg (by simpa using q4)]
          clear q4
          go_enter Try.func24, Try.ntmps24
          go_wp2_with fail
          refine (whole_any _ _ _ _ _ _ _ _ _).mono ?_
          rintro e w1 ⟨rfl, x1⟩
          rw [dq1]
          have X1 := hide x1
          obtain ⟨k0, k1, k2, k3, k4, k5, k6, k7⟩ := head8 (HV.out.below X1.out)
          clear x1
          go_wp2_with fail
          refine (length_any _ _ _ _ _ _ _ _ _).mono ?_
          rintro e w2 ⟨rfl, x2⟩
          rw [← HL.out]
          have X2 := hide (then_below X1.out x2 (Nat.le_refl _))
          obtain ⟨k0, k1, k2, k3, k4, k5, k6, k7⟩ := head8 (HV.out.below X2.out)
          clear x2
          go_wp2_with fail
          refine (length_any _ _ _ _ _ _ _ _ _).mono ?_
          rintro e w3 ⟨rfl, x3⟩
          rw [← HL.out]
          have X3 := hide (then_below X2.out x3 (Nat.le_refl _))
          clear x3
          go_wp2_with fail
          refine (size_any (L : Int) _ (by omega) (by omega)).mono ?_
          rintro e w4 ⟨rfl, hw⟩
          subst hw
          rw [show max (L : Int) 0 + 12 = ((L + 12 : Nat) : Int) by omega] at *
          generalize hM : L + 12 = M at *
          have HM := hide hM
          clear hM
          go_wp2_with fail
          refine (HBW.out _ X3.out).mono ?_
          rintro e w5 ⟨rfl, x5⟩
          rw [dq4]
          have X5 := hide (then_below X3.out x5 (Nat.le_refl _))
          clear x5
          go_wp2_with fail
          go_ret
          exact ⟨by rw [hF3.out]; rfl, X5.out⟩
        · have dq4 : decide ((bs.drop (8 + L)).take 4 = Fr.msum (Fr.bodyOf bs)) = false := decide_eq_false q4
          have hF3 : Hid (Fr.fault bs = 4) := by unfold Hid; rw [hF2.out, if_pos (by simpa using q4)]
          clear q4
          go_enter Try.func24, Try.ntmps24
          go_wp2_with fail
          refine (whole_any _ _ _ _ _ _ _ _ _).mono ?_
          rintro e w1 ⟨rfl, x1⟩
          rw [dq1]
          have X1 := hide x1
          obtain ⟨k0, k1, k2, k3, k4, k5, k6, k7⟩ := head8 (HV.out.below X1.out)
          clear x1
          go_wp2_with fail
          refine (length_any _ _ _ _ _ _ _ _ _).mono ?_
          rintro e w2 ⟨rfl, x2⟩
          rw [← HL.out]
          have X2 := hide (then_below X1.out x2 (Nat.le_refl _))
          obtain ⟨k0, k1, k2, k3, k4, k5, k6, k7⟩ := head8 (HV.out.below X2.out)
          clear x2
          go_wp2_with fail
          refine (length_any _ _ _ _ _ _ _ _ _).mono ?_
          rintro e w3 ⟨rfl, x3⟩
          rw [← HL.out]
          have X3 := hide (then_below X2.out x3 (Nat.le_refl _))
          clear x3
          go_wp2_with fail
          refine (size_any (L : Int) _ (by omega) (by omega)).mono ?_
          rintro e w4 ⟨rfl, hw⟩
          subst hw
          rw [show max (L : Int) 0 + 12 = ((L + 12 : Nat) : Int) by omega] at *
          generalize hM : L + 12 = M at *
          have HM := hide hM
          clear hM
          go_wp2_with fail
          refine (HBW.out _ X3.out).mono ?_
          rintro e w5 ⟨rfl, x5⟩
          rw [dq4]
          have X5 := hide (then_below X3.out x5 (Nat.le_refl _))
          clear x5
          go_wp2_with fail
          go_ret
          exact ⟨by rw [hF3.out]; rfl, X5.out⟩
  · have dq1 : decide ([b4, b5, b6, b7] = Fr.msum [b0, b1, b2, b3]) = false := decide_eq_false q1
    have hF1 : Hid (Fr.fault bs = 4) := by
      unfold Hid
      rw [HFD.out, if_pos]
      rw [ne_eq, HWH.out]
      exact q1
    clear q1
    go_enter Try.func24, Try.ntmps24
    go_wp2_with fail
    refine (whole_any _ _ _ _ _ _ _ _ _).mono ?_
    rintro e w1 ⟨rfl, x1⟩
    rw [dq1]
    go_wp2_with fail
    go_ret
    exact ⟨by rw [hF1.out]; rfl, x1⟩
end Go.Proofs.Ytpighnknldhigaa
