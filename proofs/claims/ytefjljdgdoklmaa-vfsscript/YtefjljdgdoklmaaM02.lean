import Derived.Test.YtefjljdgdoklmaaM01
/-
  What may be a file's name: the code's answer and the document's, of any text.
-/
namespace Go.Proofs.Ytefjljdgdoklmaa
open Go.RowKit

/-- May a byte be in a name? -/
def goodB (c : UInt8) : Bool := (97 ≤ c.toNat && c.toNat ≤ 122) || (48 ≤ c.toNat && c.toNat ≤ 57) || c.toNat == 45 || c.toNat == 46
/-- May a text be a name? -/
def goodN (s : ByteArray) : Bool := decide (1 ≤ s.size) && decide (s.size ≤ 64) && s.data.toList.all goodB

theorem ret_bool {b x : Bool} (h : b = x) : Ending.returned (.bool b) = .returned (.bool x) := by rw [h]

set_option maxRecDepth 100000 in
set_option maxHeartbeats 1000000 in
theorem stands_any (c : UInt8) (w : World) :
    Calls Try.prog 54 #[.int .u8 (c.toNat : Int)] w fun e w' => e = .returned (.bool (goodB c)) ∧ w' = w := by
  go_enter Try.func54, Try.ntmps54
  go_wp2
  all_goals
    go_ret
    refine ⟨ret_bool (x := goodB c) ?_, rfl⟩
    rw [Bool.eq_iff_iff]
    simp [goodB]
    try omega

theorem all_good (s : ByteArray) : s.data.toList.all goodB = true ↔ ∀ j (hj : j < s.size), goodB s[j] = true := by
  rw [List.all_eq_true]
  constructor
  · intro h j hj
    exact h _ (by rw [show s[j] = s.data[j] from rfl]; exact Array.mem_toList_iff.2 (Array.getElem_mem hj))
  · intro h x hx
    obtain ⟨j, hj, rfl⟩ := Array.mem_iff_getElem.1 (Array.mem_toList_iff.1 hx)
    exact h j hj

set_option maxRecDepth 100000 in
set_option maxHeartbeats 1000000 in
theorem name_any (s : ByteArray) (w : World) :
    Calls Try.prog 22 #[.string s] w fun e w' => e = .returned (.bool (goodN s)) ∧ w' = w := by
  by_cases hlen : 1 ≤ s.size ∧ s.size ≤ 64
  · obtain ⟨l1, l2⟩ := hlen
    have g1 : ¬ (s.size : Int) < 1 := by omega
    have g2 : ¬ (64 : Int) < (s.size : Int) := by omega
    have hgn : goodN s = s.data.toList.all goodB := by unfold goodN; rw [decide_eq_true l1, decide_eq_true l2]; rfl
    have HGN := hide hgn
    clear hgn
    go_enter Try.func22, Try.ntmps22
    go_wp2
    go_loopw [14] (fun iv wr => ∃ k : Nat, iv = .int .i64 (k : Nat) ∧ k ≤ s.size ∧ (∀ j (_ : j < s.size), j < k → goodB s[j] = true) ∧ wr = w) (fun iv _ => s.size - (intOf iv).toNat)
    case atStart => exact ⟨0, rfl, Nat.zero_le _, fun j _ hj => by omega, rfl⟩
    case round =>
      obtain ⟨k, rfl, hk, hall, rfl⟩ := hrel
      have HA := hide hall
      clear hall
      by_cases hkn : k < s.size
      · have i1 : (k : Int) < (s.size : Int) := by omega
        go_wp2_with fail
        refine (stands_any _ _).mono ?_
        rintro e w1 ⟨rfl, rfl⟩
        by_cases hg : goodB s[k] = true
        · rw [hg]
          go_wp2_with fail
          go_roundw
          case rel =>
            refine ⟨k + 1, by go_num, by omega, fun j hj hjk => ?_, by trivial⟩
            rcases Nat.lt_or_ge j k with h | h
            · exact HA.out j hj h
            · obtain rfl : j = k := by omega
              exact hg
          case measure => simp [intOf]; omega
        · rw [Bool.not_eq_true] at hg
          have HG := hide hg
          rw [hg]
          clear hg
          go_wp2_with fail
          go_ret
          refine ⟨ret_bool (x := goodN s) ?_, rfl⟩
          rw [HGN.out, eq_comm, Bool.eq_false_iff]
          intro h
          have := (all_good s).1 h k hkn
          rw [HG.out] at this
          cases this
      · obtain rfl : k = s.size := by omega
        go_wp2_with fail
        go_ret
        refine ⟨ret_bool (x := goodN s) ?_, rfl⟩
        rw [HGN.out, eq_comm]
        exact (all_good s).2 fun j hj => HA.out j hj hj
  · have hgn : goodN s = false := by
      unfold goodN
      rw [Bool.and_eq_false_iff, Bool.and_eq_false_iff]
      left
      rcases Nat.lt_or_ge s.size 1 with h | h
      · left
        exact decide_eq_false (by omega)
      · right
        exact decide_eq_false (by omega)
    have HGN := hide hgn
    clear hgn
    by_cases h1 : s.size < 1
    · have g1 : (s.size : Int) < 1 := by omega
      go_enter Try.func22, Try.ntmps22
      go_wp2
      go_ret
      exact ⟨by rw [HGN.out]; rfl, rfl⟩
    · have g1 : ¬ (s.size : Int) < 1 := by omega
      have g2 : (64 : Int) < (s.size : Int) := by omega
      go_enter Try.func22, Try.ntmps22
      go_wp2
      go_ret
      exact ⟨by rw [HGN.out]; rfl, rfl⟩

theorem byteClass (c : Nat) : (97 ≤ c ∧ c ≤ 122) ∨ (48 ≤ c ∧ c ≤ 57) ∨ c = 45 ∨ c = 46 ∨ 122 < c ∨ (57 < c ∧ c < 97) ∨ (c < 48 ∧ c ≠ 45 ∧ c ≠ 46) := by omega

set_option maxRecDepth 100000 in
set_option maxHeartbeats 2000000 in
theorem rname_any (s : ByteArray) (w : World) (hs : s.size ≤ 1000) :
    Calls Try.prog 28 #[.string s] w fun e w' => e = .returned (.bool (goodN s)) ∧ w' = w := by
  go_enter Try.func28, Try.ntmps28
  go_wp2
  go_loopw [3] (fun iv wr => ∃ k : Nat, iv = .int .i64 (k : Nat) ∧ k ≤ s.size ∧ (∀ j (_ : j < s.size), j < k → goodB s[j] = true) ∧ wr = w) (fun iv _ => s.size - (intOf iv).toNat)
  case atStart => exact ⟨0, rfl, Nat.zero_le _, fun j _ hj => by omega, rfl⟩
  case round =>
    obtain ⟨k, rfl, hk, hall, rfl⟩ := hrel
    have HA := hide hall
    clear hall
    by_cases hkn : k < s.size
    · have i1 : (k : Int) < (s.size : Int) := by omega
      have hgb : goodB s[k] = ((97 ≤ s[k].toNat && s[k].toNat ≤ 122) || (48 ≤ s[k].toNat && s[k].toNat ≤ 57) || s[k].toNat == 45 || s[k].toNat == 46) := rfl
      have hbad : goodB s[k] = false → goodN s = false := fun h => by
        rw [Bool.eq_false_iff]
        intro h2
        unfold goodN at h2
        rw [Bool.and_eq_true] at h2
        have := (all_good s).1 h2.2 k hkn
        rw [h] at this
        cases this
      have hgood : goodB s[k] = true → ∀ j (_ : j < s.size), j < k + 1 → goodB s[j] = true := fun hg j hj hjk => by
        rcases Nat.lt_or_ge j k with h | h
        · exact HA.out j hj h
        · obtain rfl : j = k := by omega
          exact hg
      have HGB := hide hgb
      have HBAD := hide hbad
      have HGOOD := hide hgood
      clear hgb hbad hgood
      rcases byteClass s[k].toNat with ⟨p1, p2⟩ | ⟨p1, p2⟩ | p1 | p1 | p1 | ⟨p1, p2⟩ | ⟨p1, p2, p3⟩
      all_goals
        try have f1 : (97 : Int) ≤ (s[k].toNat : Int) := by omega
        try have f2 : ¬ (97 : Int) ≤ (s[k].toNat : Int) := by omega
        try have f3 : (s[k].toNat : Int) ≤ 122 := by omega
        try have f4 : ¬ (s[k].toNat : Int) ≤ 122 := by omega
        try have f5 : (48 : Int) ≤ (s[k].toNat : Int) := by omega
        try have f6 : ¬ (48 : Int) ≤ (s[k].toNat : Int) := by omega
        try have f7 : (s[k].toNat : Int) ≤ 57 := by omega
        try have f8 : ¬ (s[k].toNat : Int) ≤ 57 := by omega
        try have f9 : ((s[k].toNat : Int) == 45) = true := by rw [beq_iff_eq]; omega
        try have f10 : ((s[k].toNat : Int) == 45) = false := by rw [beq_eq_false_iff_ne]; omega
        try have f11 : ((s[k].toNat : Int) == 46) = true := by rw [beq_iff_eq]; omega
        try have f12 : ((s[k].toNat : Int) == 46) = false := by rw [beq_eq_false_iff_ne]; omega
        go_wp2_with fail
      all_goals first
        | (go_ret
           refine ⟨ret_bool (x := goodN s) ?_, rfl⟩
           rw [HBAD.out (by rw [HGB.out, Bool.eq_false_iff]; simp; omega)])
        | (refine ⟨⟨k + 1, by go_num, by omega, HGOOD.out (by rw [HGB.out]; simp; omega), by trivial⟩, ?_⟩
           simp [intOf]
           omega)
    · obtain rfl : k = s.size := by omega
      have hgn : goodN s = (decide (1 ≤ s.size) && decide (s.size ≤ 64)) := by
        unfold goodN
        rw [(all_good s).2 fun j hj => HA.out j hj hj, Bool.and_true]
      have HGN := hide hgn
      clear hgn
      by_cases h1 : 1 ≤ s.size
      · by_cases h2 : s.size ≤ 64
        · have g1 : (1 : Int) ≤ (s.size : Int) := by omega
          have g2 : (s.size : Int) ≤ 64 := by omega
          go_wp2_with fail
          go_ret
          exact ⟨by rw [HGN.out, decide_eq_true h1, decide_eq_true h2]; rfl, rfl⟩
        · have g1 : (1 : Int) ≤ (s.size : Int) := by omega
          have g2 : ¬ (s.size : Int) ≤ 64 := by omega
          go_wp2_with fail
          go_ret
          exact ⟨by rw [HGN.out, decide_eq_true h1, decide_eq_false h2]; rfl, rfl⟩
      · have g1 : ¬ (1 : Int) ≤ (s.size : Int) := by omega
        go_wp2_with fail
        go_ret
        exact ⟨by rw [HGN.out, decide_eq_false h1]; rfl, rfl⟩
end Go.Proofs.Ytefjljdgdoklmaa

/-
  The guard that every operation goes through.
-/
namespace Go.Proofs.Ytefjljdgdoklmaa
open Go.RowKit

/-- The cells of a file system. -/
def fsCells (limit : Int) (nm sy ch : Value) (used lost : Int) (on : Bool) (ops fuse fault fail : Int) : Array Value :=
  #[.int .i64 limit, nm, sy, ch, .int .i64 used, .int .i64 lost, .bool on, .int .i64 ops, .int .i64 fuse, .int .i64 fault, .int .i64 fail]

theorem map_ne (b : Nat) (w : World) : (binOp .neq 53 (.map (some b)) (.map none)).run Try.prog w = .ok (.bool true) w := by kernel_rfl
theorem map_nil (w : World) : (binOp .neq 53 (.map none) (.map none)).run Try.prog w = .ok (.bool false) w := by kernel_rfl

set_option maxRecDepth 100000 in
set_option maxHeartbeats 1000000 in
theorem made_yes (f b : Nat) (w : World) (h : w.cell? ⟨f, 1, none⟩ = some (.map (some b))) :
    Calls Try.prog 41 #[.pointer (some ⟨f, 0, none⟩)] w fun e w' => e = .returned (.bool true) ∧ w' = w := by
  have hm := map_ne b
  go_enter Try.func41, Try.ntmps41
  go_wp2
  go_ret
  exact ⟨rfl, rfl⟩
set_option maxRecDepth 100000 in
set_option maxHeartbeats 1000000 in
theorem made_not (f : Nat) (w : World) (h : w.cell? ⟨f, 1, none⟩ = some (.map none)) :
    Calls Try.prog 41 #[.pointer (some ⟨f, 0, none⟩)] w fun e w' => e = .returned (.bool false) ∧ w' = w := by
  have hm := map_nil
  go_enter Try.func41, Try.ntmps41
  go_wp2
  go_ret
  exact ⟨rfl, rfl⟩
set_option maxRecDepth 100000 in
set_option maxHeartbeats 1000000 in
theorem made_nil (w : World) :
    Calls Try.prog 41 #[.pointer none] w fun e w' => e = .returned (.bool false) ∧ w' = w := by
  go_enter Try.func41, Try.ntmps41
  go_wp2
  go_ret
  exact ⟨rfl, rfl⟩
/-- What a countdown is behind one operation. -/
def tick (n : Int) : Int := if n < 0 then n else n - 1
set_option maxRecDepth 100000 in
set_option maxHeartbeats 1000000 in
theorem strikes_neg (g o : Nat) (n : Int) (w : World) (h : w.cell? ⟨g, o, none⟩ = some (.int .i64 n)) (h0 : n < 0) :
    Calls Try.prog 71 #[.pointer (some ⟨g, o, none⟩)] w fun e w' => e = .returned (.bool false) ∧ w' = w := by
  go_enter Try.func71, Try.ntmps71
  go_wp2
  go_ret
  exact ⟨rfl, rfl⟩
set_option maxRecDepth 100000 in
set_option maxHeartbeats 1000000 in
theorem strikes_pos (g o : Nat) (n : Int) (w : World) (h : w.cell? ⟨g, o, none⟩ = some (.int .i64 n)) (hf : w.frozen? ⟨g, o, none⟩ = false) (hn : n ≤ 9223372036854775807) (h0 : ¬ n < 0) :
    Calls Try.prog 71 #[.pointer (some ⟨g, o, none⟩)] w fun e w' => e = .returned (.bool (decide (n = 0))) ∧ w' = w.setCell ⟨g, o, none⟩ (.int .i64 (n - 1)) := by
  go_enter Try.func71, Try.ntmps71
  go_wp2
  go_ret
  exact ⟨ret_bool (by rw [decide_eq_decide]; omega), rfl⟩

/-- Only block f has turned, and it holds these cells. -/
def Tick (w w' : World) (f : Nat) (t : TypeId) (cs : Array Value) : Prop :=
  w'.heap[f]? = some (.cells cs t (0, 0)) ∧ w'.heap.size = w.heap.size ∧ (∀ b, b ≠ f → w'.heap[b]? = w.heap[b]?) ∧ ∀ B, B ≤ f → Below B w w'
theorem Tick.refl {w : World} {f : Nat} {t : TypeId} {cs : Array Value} (h : w.heap[f]? = some (.cells cs t (0, 0))) : Tick w w f t cs := ⟨h, rfl, fun _ _ => rfl, fun _ _ => Below.refl _ _⟩
theorem Tick.set {w w' : World} {f : Nat} {t : TypeId} {cs : Array Value} (h : Tick w w' f t cs) (o : Nat) (v : Value) : Tick w (w'.setCell ⟨f, o, none⟩ v) f t (cs.setIfInBounds o v) := by
  obtain ⟨h1, h2, h3, h4⟩ := h
  exact ⟨heap_setCell_same w' f o cs t v h1, by rw [← h2]; simp, fun b hb => (heap_setCell_other _ _ _ _ (by exact hb)).trans (h3 b hb), fun B hB => (h4 B hB).setCell (by exact hB) v⟩
theorem Tick.drew {w w' : World} {f : Nat} {t : TypeId} {cs : Array Value} (h : Tick w w' f t cs) : Tick w w'.drew f t cs := by
  obtain ⟨h1, h2, h3, h4⟩ := h
  exact ⟨h1, h2, h3, fun B hB => (h4 B hB).drew⟩
theorem Tick.cell {w w' : World} {f : Nat} {t : TypeId} {cs : Array Value} (h : Tick w w' f t cs) (o : Nat) : w'.cell? ⟨f, o, none⟩ = cs[o]? := cell_of_row w' f o cs t (0, 0) h.1
theorem Tick.frozen {w w' : World} {f : Nat} {t : TypeId} {cs : Array Value} (h : Tick w w' f t cs) (o : Nat) : w'.frozen? ⟨f, o, none⟩ = false := frozen_of_row w' f o cs t h.1
theorem strikes_any {W w : World} {f : Nat} {t : TypeId} {cs : Array Value} (h : Tick W w f t cs) (o : Nat) (n : Int) (ho : cs[o]? = some (.int .i64 n)) (hn : n ≤ 9223372036854775807) :
    Calls Try.prog 71 #[.pointer (some ⟨f, o, none⟩)] w fun e w' => e = .returned (.bool (decide (n = 0))) ∧ Tick W w' f t (cs.setIfInBounds o (.int .i64 (tick n))) := by
  by_cases h0 : n < 0
  · refine (strikes_neg f o n w ((h.cell o).trans ho) h0).mono fun e w' ⟨he, hw⟩ => ⟨?_, ?_⟩
    · rw [he, decide_eq_false (by omega)]
    · subst hw
      have : cs.setIfInBounds o (.int .i64 (tick n)) = cs := by
        unfold tick
        rw [if_pos h0]
        apply Array.ext_getElem?
        intro i
        rw [Array.getElem?_setIfInBounds]
        by_cases e : o = i
        · subst e
          rw [if_pos rfl, ho]
          have : o < cs.size := by
            rcases Nat.lt_or_ge o cs.size with l | l
            · exact l
            · rw [Array.getElem?_eq_none l] at ho; cases ho
          rw [if_pos this]
        · rw [if_neg e]
      rw [this]
      exact h
  · refine (strikes_pos f o n w ((h.cell o).trans ho) (h.frozen o) hn h0).mono fun e w' ⟨he, hw⟩ => ⟨he, ?_⟩
    subst hw
    have := h.set o (.int .i64 (n - 1))
    unfold tick
    rw [if_neg h0]
    exact this

set_option maxRecDepth 100000 in
set_option maxHeartbeats 4000000 in
theorem operate_go (f b N : Nat) (caps : Array Value) (hent : ∀ w, (callFunc N caps).run Try.prog w = .ok (.enter N caps) w) (limit used lost ops fuse fault fail : Int) (sy ch : Value) (w : World) (h : w.heap[f]? = some (.cells (fsCells limit (.map (some b)) sy ch used lost true ops fuse fault fail) 57 (0, 0)))
    (h7 : 0 ≤ ops ∧ ops ≤ 1000000) (h8 : fuse ≤ 9223372036854775807) (h9 : fault ≤ 9223372036854775807) (n8 : fuse ≠ 0) (n9 : fault ≠ 0) (R : Ending → World → Prop)
    (HR : ∀ wc, Tick w wc f 57 (fsCells limit (.map (some b)) sy ch used lost true (ops + 1) (tick fuse) (tick fault) fail) → Calls Try.prog N caps wc fun e w' => ∃ z : Int, e = .returned (.int .i64 z) ∧ R (.returned (.int .i64 z)) w') :
    Calls Try.prog 36 #[.pointer (some ⟨f, 0, none⟩), .bool true, .func (.func N) #[] caps] w R := by
  have c1 : w.cell? ⟨f, 1, none⟩ = some (.map (some b)) := cell_of_row w f 1 _ 57 (0, 0) h
  have c6 : w.cell? ⟨f, 6, none⟩ = some (.bool true) := cell_of_row w f 6 _ 57 (0, 0) h
  have c7 : w.cell? ⟨f, 7, none⟩ = some (.int .i64 ops) := cell_of_row w f 7 _ 57 (0, 0) h
  have z7 : w.frozen? ⟨f, 7, none⟩ = false := frozen_of_row w f 7 _ 57 h
  have T0 := hide ((Tick.refl h).set 7 (.int .i64 (ops + 1)))
  clear h
  have HRR := hide HR
  clear HR
  go_enter Try.func36, Try.ntmps36
  go_wp2_with fail
  refine (made_yes f b _ c1).mono ?_
  rintro e w1 ⟨rfl, rfl⟩
  go_wp2_with fail
  go_cut [7, 8] from 29 to 36 (fun v7 v8 wx => v7 = .bool false ∧ v8 = .bool false ∧ Tick w1 wx f 57 (fsCells limit (.map (some b)) sy ch used lost true (ops + 1) (tick fuse) (tick fault) fail))
  case first =>
    have TC := hide T0.out.drew
    go_region_with (first
      | (go_at_call_of 71 (Value.pointer (some ⟨f, 8, none⟩)); refine (strikes_any TC.out 8 fuse rfl h8).mono ?_; rintro e w2 ⟨rfl, t2⟩; have TC := hide t2; rw [decide_eq_false n8]; clear t2)
      | (go_at_call_of 71 (Value.pointer (some ⟨f, 9, none⟩)); refine (strikes_any TC.out 9 fault rfl h9).mono ?_; rintro e w3 ⟨rfl, t3⟩; have TC := hide t3; rw [decide_eq_false n9]; clear t3))
    all_goals go_wp2_with fail
    all_goals go_meet
    all_goals exact ⟨rfl, rfl, TC.out⟩
  case rest =>
    obtain ⟨rfl, rfl, hT⟩ := hcut
    have HT := hide hT
    clear hT c1 c6 c7 z7 T0
    go_wp2_with fail
    refine (HRR.out wc HT.out).mono ?_
    rintro e w2 ⟨z, rfl, hz⟩
    go_wp2_with fail
    exact hz

set_option maxRecDepth 100000 in
set_option maxHeartbeats 4000000 in
theorem operate_fuse (f b : Nat) (fv : Value) (limit used lost ops fuse fault fail : Int) (sy ch : Value) (w : World) (h : w.heap[f]? = some (.cells (fsCells limit (.map (some b)) sy ch used lost true ops fuse fault fail) 57 (0, 0)))
    (h7 : 0 ≤ ops ∧ ops ≤ 1000000) (h8 : fuse ≤ 9223372036854775807) (h9 : fault ≤ 9223372036854775807) (n8 : fuse = 0) :
    Calls Try.prog 36 #[.pointer (some ⟨f, 0, none⟩), .bool true, fv] w fun e w' => e = .returned (.int .i64 9) ∧ Tick w w' f 57 (fsCells limit (.map (some b)) sy ch used lost false (ops + 1) (tick fuse) (tick fault) fail) := by
  have c1 : w.cell? ⟨f, 1, none⟩ = some (.map (some b)) := cell_of_row w f 1 _ 57 (0, 0) h
  have c6 : w.cell? ⟨f, 6, none⟩ = some (.bool true) := cell_of_row w f 6 _ 57 (0, 0) h
  have c7 : w.cell? ⟨f, 7, none⟩ = some (.int .i64 ops) := cell_of_row w f 7 _ 57 (0, 0) h
  have z7 : w.frozen? ⟨f, 7, none⟩ = false := frozen_of_row w f 7 _ 57 h
  have T0 := hide ((Tick.refl h).set 7 (.int .i64 (ops + 1)))
  clear h
  go_enter Try.func36, Try.ntmps36
  go_wp2_with fail
  refine (made_yes f b _ c1).mono ?_
  rintro e w1 ⟨rfl, rfl⟩
  go_wp2_with fail
  go_cut [7, 8] from 29 to 36 (fun v7 v8 wx => v7 = .bool true ∧ v8 = .bool (decide (fault = 0)) ∧ Tick w1 wx f 57 (fsCells limit (.map (some b)) sy ch used lost true (ops + 1) (tick fuse) (tick fault) fail))
  case first =>
    rename_i qq kk rest jj kk' m1 m2
    clear rest
    have TC := hide T0.out.drew
    go_region_with (first
      | (go_at_call_of 71 (Value.pointer (some ⟨f, 8, none⟩)); refine (strikes_any TC.out 8 fuse rfl h8).mono ?_; rintro e w2 ⟨rfl, t2⟩; have TC := hide t2; rw [decide_eq_true n8]; clear t2)
      | (go_at_call_of 71 (Value.pointer (some ⟨f, 9, none⟩)); refine (strikes_any TC.out 9 fault rfl h9).mono ?_; rintro e w3 ⟨rfl, t3⟩; have TC := hide t3; clear t3))
    all_goals go_wp2_with fail
    all_goals go_meet
    all_goals exact ⟨rfl, rfl, TC.out⟩
  case rest =>
    obtain ⟨rfl, rfl, hT⟩ := hcut
    have HT := hide hT
    clear hT c1 c6 c7 z7 T0
    have z6 := HT.out.frozen 6
    have k6 : wc.cell? ⟨f, 6, none⟩ = some (.bool true) := HT.out.cell 6
    go_wp2_with fail
    go_ret
    exact ⟨rfl, HT.out.set 6 (.bool false)⟩

set_option maxRecDepth 100000 in
set_option maxHeartbeats 4000000 in
theorem operate_fault (f b : Nat) (fv : Value) (limit used lost ops fuse fault fail : Int) (sy ch : Value) (w : World) (h : w.heap[f]? = some (.cells (fsCells limit (.map (some b)) sy ch used lost true ops fuse fault fail) 57 (0, 0)))
    (h7 : 0 ≤ ops ∧ ops ≤ 1000000) (h8 : fuse ≤ 9223372036854775807) (h9 : fault ≤ 9223372036854775807) (n8 : fuse ≠ 0) (n9 : fault = 0) :
    Calls Try.prog 36 #[.pointer (some ⟨f, 0, none⟩), .bool true, fv] w fun e w' => e = .returned (.int .i64 fail) ∧ Tick w w' f 57 (fsCells limit (.map (some b)) sy ch used lost true (ops + 1) (tick fuse) (tick fault) fail) := by
  have c1 : w.cell? ⟨f, 1, none⟩ = some (.map (some b)) := cell_of_row w f 1 _ 57 (0, 0) h
  have c6 : w.cell? ⟨f, 6, none⟩ = some (.bool true) := cell_of_row w f 6 _ 57 (0, 0) h
  have c7 : w.cell? ⟨f, 7, none⟩ = some (.int .i64 ops) := cell_of_row w f 7 _ 57 (0, 0) h
  have z7 : w.frozen? ⟨f, 7, none⟩ = false := frozen_of_row w f 7 _ 57 h
  have T0 := hide ((Tick.refl h).set 7 (.int .i64 (ops + 1)))
  clear h
  go_enter Try.func36, Try.ntmps36
  go_wp2_with fail
  refine (made_yes f b _ c1).mono ?_
  rintro e w1 ⟨rfl, rfl⟩
  go_wp2_with fail
  go_cut [7, 8] from 29 to 36 (fun v7 v8 wx => v7 = .bool false ∧ v8 = .bool true ∧ Tick w1 wx f 57 (fsCells limit (.map (some b)) sy ch used lost true (ops + 1) (tick fuse) (tick fault) fail))
  case first =>
    rename_i qq kk rest jj kk' m1 m2
    clear rest
    have TC := hide T0.out.drew
    go_region_with (first
      | (go_at_call_of 71 (Value.pointer (some ⟨f, 8, none⟩)); refine (strikes_any TC.out 8 fuse rfl h8).mono ?_; rintro e w2 ⟨rfl, t2⟩; have TC := hide t2; rw [decide_eq_false n8]; clear t2)
      | (go_at_call_of 71 (Value.pointer (some ⟨f, 9, none⟩)); refine (strikes_any TC.out 9 fault rfl h9).mono ?_; rintro e w3 ⟨rfl, t3⟩; have TC := hide t3; rw [decide_eq_true n9]; clear t3))
    all_goals go_wp2_with fail
    all_goals go_meet
    all_goals exact ⟨rfl, rfl, TC.out⟩
  case rest =>
    obtain ⟨rfl, rfl, hT⟩ := hcut
    have HT := hide hT
    clear hT c1 c6 c7 z7 T0
    have k10 : wc.cell? ⟨f, 10, none⟩ = some (.int .i64 fail) := HT.out.cell 10
    go_wp2_with fail
    go_ret
    exact ⟨rfl, HT.out⟩

set_option maxRecDepth 100000 in
set_option maxHeartbeats 4000000 in
theorem operate_off (f b : Nat) (fv : Value) (limit used lost ops fuse fault fail : Int) (sy ch : Value) (w : World) (h : w.heap[f]? = some (.cells (fsCells limit (.map (some b)) sy ch used lost false ops fuse fault fail) 57 (0, 0))) :
    Calls Try.prog 36 #[.pointer (some ⟨f, 0, none⟩), .bool true, fv] w fun e w' => e = .returned (.int .i64 9) ∧ w' = w := by
  have c1 : w.cell? ⟨f, 1, none⟩ = some (.map (some b)) := cell_of_row w f 1 _ 57 (0, 0) h
  have c6 : w.cell? ⟨f, 6, none⟩ = some (.bool false) := cell_of_row w f 6 _ 57 (0, 0) h
  clear h
  go_enter Try.func36, Try.ntmps36
  go_wp2_with fail
  refine (made_yes f b _ c1).mono ?_
  rintro e w1 ⟨rfl, rfl⟩
  go_wp2_with fail
  go_ret
  exact ⟨rfl, rfl⟩

set_option maxRecDepth 100000 in
set_option maxHeartbeats 4000000 in
theorem operate_arg (f b : Nat) (fv : Value) (w : World) (c1 : w.cell? ⟨f, 1, none⟩ = some (.map (some b))) :
    Calls Try.prog 36 #[.pointer (some ⟨f, 0, none⟩), .bool false, fv] w fun e w' => e = .returned (.int .i64 2) ∧ w' = w := by
  go_enter Try.func36, Try.ntmps36
  go_wp2_with fail
  refine (made_yes f b _ c1).mono ?_
  rintro e w1 ⟨rfl, rfl⟩
  go_wp2_with fail
  go_ret
  exact ⟨rfl, rfl⟩

/-- A file system that is not there, or that nobody made. -/
def NoFs (w : World) (p : Option Addr) : Prop := p = none ∨ ∃ f : Nat, p = some ⟨f, 0, none⟩ ∧ w.cell? ⟨f, 1, none⟩ = some (.map none)
theorem made_no (p : Option Addr) (w : World) (h : NoFs w p) :
    Calls Try.prog 41 #[.pointer p] w fun e w' => e = .returned (.bool false) ∧ w' = w := by
  rcases h with rfl | ⟨f, rfl, h⟩
  · exact made_nil w
  · exact made_not f w h
set_option maxRecDepth 100000 in
set_option maxHeartbeats 4000000 in
theorem operate_no (p : Option Addr) (x : Bool) (fv : Value) (w : World) (h : NoFs w p) :
    Calls Try.prog 36 #[.pointer p, .bool x, fv] w fun e w' => e = .returned (.int .i64 1) ∧ w' = w := by
  have H := hide h
  clear h
  go_enter Try.func36, Try.ntmps36
  go_wp2_with fail
  refine (made_no p _ H.out).mono ?_
  rintro e w1 ⟨rfl, rfl⟩
  go_wp2_with fail
  go_ret
  exact ⟨rfl, rfl⟩
end Go.Proofs.Ytefjljdgdoklmaa
