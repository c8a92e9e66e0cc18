import Derived.Test.YtkeglaplckfllaaM15
import Derived.Test.YtkeglaplckfllaaM11
import Derived.Deep.Light
import Derived.Test.YtkeglaplckfllaaM08
/-
  Rows of entries: are they the same? how much do they weigh?
-/
namespace Go.Proofs.Ytkeglaplckfllaa
open Go.RowKit
set_option maxRecDepth 100000
set_option maxHeartbeats 4000000
theorem Ents.quiet {w w' : World} {a : Option Addr} {l : List Tow} (h : Ents w a l) (t : Turns (fun _ => False) w w') : Ents w' a l := fun k x hx => by
  obtain ⟨⟨b, off, h1, h2⟩, h3, h4⟩ := h k x hx
  exact ⟨⟨b, off, h1, fun j u hu => t.cell (h2 j u hu) (fun x => x)⟩, h3.quiet t, h4.quiet t⟩
theorem entries_same (a a' : Option Addr) (n c c' : Nat) (l l' : List Tow) (w : World) (h : Ents w a l) (h' : Ents w a' l') (he : l.map (·.e) = l'.map (·.e)) (hn : n = l.length) (hmx : n ≤ 1000000) (hb : ∀ x, x ∈ l → x.e.key.length ≤ 1000000 ∧ x.e.val.length ≤ 1000000) :
    Calls Try.prog 28 #[.slice a n c, .slice a' n c'] w fun e w' => e = .returned (.bool true) ∧ Below w.heap.size w w' := by
  have hl' : n = l'.length := by
    have := congrArg List.length he
    simp only [List.length_map] at this
    omega
  have HE := hide he
  have HL := hide hn
  have HL' := hide hl'
  have HA := hide h
  have HA' := hide h'
  have HBO := hide hb
  generalize hB : w.heap.size = B
  have HB := hide hB
  clear he hn h h' hb hl' hB
  go_enter Try.func28, Try.ntmps28
  go_wp2_with fail
  go_loopw [5] (fun iv wr => ∃ k : Nat, iv = .int .i64 (k : Nat) ∧ k ≤ n ∧ Below B w wr) (fun iv _ => n - (intOf iv).toNat)
  case atStart => exact ⟨0, rfl, by omega, Below.refl _ _⟩
  case round =>
    obtain ⟨k, rfl, hk, hbw⟩ := hrel
    have BW := hide hbw
    by_cases hk2 : k < n
    · have i1 : (k : Int) < n := by omega
      have i0 : (0 : Int) ≤ (k : Int) := by omega
      have hkl : k < l.length := by have := HL.out; omega
      have hkl' : k < l'.length := by have := HL'.out; omega
      have tt := Turns.of_below (show Below w.heap.size w wr by rw [HB.out]; exact hbw) (fun _ => False)
      obtain ⟨⟨b, off, rfl, hc⟩, k1, k2⟩ := (HA.out.quiet tt) k l[k] (List.getElem?_eq_getElem hkl)
      obtain ⟨⟨b', off', rfl, hc'⟩, k3, k4⟩ := (HA'.out.quiet tt) k l'[k] (List.getElem?_eq_getElem hkl')
      have hee : l[k].e = l'[k].e := by
        have h1 : (l.map (·.e))[k]? = (l'.map (·.e))[k]? := by rw [HE.out]
        rw [List.getElem?_map, List.getElem?_map, List.getElem?_eq_getElem hkl, List.getElem?_eq_getElem hkl'] at h1
        simpa using h1
      have hbo := HBO.out l[k] (List.getElem_mem hkl)
      have hsz : B ≤ wr.heap.size := by have := tt.size; have := HB.out; omega
      generalize l[k] = x at *
      generalize l'[k] = x' at *
      obtain ⟨_, ka, kc, va, vc, e, _⟩ := x
      obtain ⟨_, ka', kc', va', vc', e', _⟩ := x'
      obtain rfl : e = e' := hee
      have HS := hide (fun u => entry_same ka va ka' va' e.key.length kc e.val.length vc kc' vc' e.seq e.kind e.key e.val u)
      have c0 : wr.cell? ⟨b, off + k * 4, none⟩ = some (.slice ka e.key.length kc) := hc 0 _ rfl
      have c1 : wr.cell? ⟨b, off + k * 4 + 1, none⟩ = some (.int .u64 (e.seq : Nat)) := hc 1 _ rfl
      have c2 : wr.cell? ⟨b, off + k * 4 + 2, none⟩ = some (.int .i64 e.kind) := hc 2 _ rfl
      have c3 : wr.cell? ⟨b, off + k * 4 + 3, none⟩ = some (.slice va e.val.length vc) := hc 3 _ rfl
      have d0 : wr.cell? ⟨b', off' + k * 4, none⟩ = some (.slice ka' e.key.length kc') := hc' 0 _ rfl
      have d1 : wr.cell? ⟨b', off' + k * 4 + 1, none⟩ = some (.int .u64 (e.seq : Nat)) := hc' 1 _ rfl
      have d2 : wr.cell? ⟨b', off' + k * 4 + 2, none⟩ = some (.int .i64 e.kind) := hc' 2 _ rfl
      have d3 : wr.cell? ⟨b', off' + k * 4 + 3, none⟩ = some (.slice va' e.val.length vc') := hc' 3 _ rfl
      have K1 := hide k1
      have K2 := hide k2
      have K3 := hide k3
      have K4 := hide k4
      clear hc hc' k1 k2 k3 k4 tt hbw
      have HQ : ∀ u, Turns (fun _ => False) wr u → Calls Try.prog 21 #[.agg #[.slice ka e.key.length kc, .int .u64 (e.seq : Nat), .int .i64 e.kind, .slice va e.val.length vc], .agg #[.slice ka' e.key.length kc', .int .u64 (e.seq : Nat), .int .i64 e.kind, .slice va' e.val.length vc']] u fun x w' => x = .returned (.bool true) ∧ Below u.heap.size u w' := fun u t => HS.out u (K1.out.quiet t) (K2.out.quiet t) (K3.out.quiet t) (K4.out.quiet t) hbo.1 hbo.2
      have HQ := hide HQ
      clear HS K1 K2 K3 K4
      have HQ := hide (HQ.out wr.drew (Turns.refl _ _).drew)
      go_wp2_with fail
      go_region_held (fun w' => (w'.cell? ⟨b, off + k * 4, none⟩ = some (.slice ka e.key.length kc) ∧ w'.cell? ⟨b, off + k * 4 + 1, none⟩ = some (.int .u64 (e.seq : Nat)) ∧ w'.cell? ⟨b, off + k * 4 + 2, none⟩ = some (.int .i64 e.kind) ∧ w'.cell? ⟨b, off + k * 4 + 3, none⟩ = some (.slice va e.val.length vc)) ∧ w'.cell? ⟨b', off' + k * 4, none⟩ = some (.slice ka' e.key.length kc') ∧ w'.cell? ⟨b', off' + k * 4 + 1, none⟩ = some (.int .u64 (e.seq : Nat)) ∧ w'.cell? ⟨b', off' + k * 4 + 2, none⟩ = some (.int .i64 e.kind) ∧ w'.cell? ⟨b', off' + k * 4 + 3, none⟩ = some (.slice va' e.val.length vc')) (first | (with_reducible exact ⟨⟨f0, f1, f2, f3⟩, g0, g1, g2, g3⟩) | (simp only [World.cell?_drew]; with_reducible exact ⟨⟨c0, c1, c2, c3⟩, d0, d1, d2, d3⟩)) (first
        | (go_at_call 21; refine HQ.out.mono ?_; rintro x w2 ⟨rfl, b2⟩; have t2 := (Turns.refl (fun _ => False) wr).drew.trans (Turns.of_below b2 (fun _ => False)); have f0 := t2.cell c0 (fun x => x); have f1 := t2.cell c1 (fun x => x); have f2 := t2.cell c2 (fun x => x); have f3 := t2.cell c3 (fun x => x); have g0 := t2.cell d0 (fun x => x); have g1 := t2.cell d1 (fun x => x); have g2 := t2.cell d2 (fun x => x); have g3 := t2.cell d3 (fun x => x); have T2 := hide t2; clear t2 b2))
      clear f0 f1 f2 f3 g0 g1 g2 g3
      go_wp2_with fail
      go_roundw
      case rel => exact ⟨k + 1, by go_num, by omega, BW.out.trans (T2.out.below hsz (fun _ h => h.elim))⟩
      case measure => simp [intOf]; omega
    · have i1 : ¬ (k : Int) < n := by omega
      clear hk hk2
      go_wp2_with fail
      go_ret
      exact ⟨rfl, BW.out⟩
/-- How many bytes entries have. -/
def weigh : List Tow → Nat
  | [] => 0
  | x :: r => x.e.key.length + x.e.val.length + weigh r
theorem weigh_snoc (x : Tow) : ∀ l : List Tow, weigh (l ++ [x]) = weigh l + (x.e.key.length + x.e.val.length)
  | [] => by simp [weigh]
  | y :: r => by
    have := weigh_snoc x r
    simp only [List.cons_append, weigh, this]
    omega
theorem weigh_mem {x : Tow} : ∀ {l : List Tow}, x ∈ l → x.e.key.length + x.e.val.length ≤ weigh l
  | y :: r, h => by
    unfold weigh
    rcases List.mem_cons.1 h with rfl | h
    · omega
    · have := weigh_mem h
      omega
theorem weigh_le {M : Nat} : ∀ l : List Tow, (∀ x, x ∈ l → x.e.key.length ≤ M ∧ x.e.val.length ≤ M) → weigh l ≤ l.length * (2 * M)
  | [], _ => Nat.zero_le _
  | y :: r, h => by
    have h1 := weigh_le r fun x hx => h x (List.mem_cons_of_mem _ hx)
    have h2 := h y (List.mem_cons_self ..)
    unfold weigh
    rw [List.length_cons, Nat.succ_mul]
    omega
theorem weigh_any (a : Option Addr) (n c : Nat) (l : List Tow) (w : World) (h : Ents w a l) (hn : n = l.length) (hmx : n ≤ 1000) (hf : ∀ x, x ∈ l → Fit x) :
    Calls Try.prog 31 #[.slice a n c] w fun e w' => e = .returned (.int .i64 (weigh l : Nat)) ∧ Turns (fun _ => False) w w' := by
  have HL := hide hn
  have HA := hide h
  have HF := hide hf
  have hW : ∀ k, weigh (l.take k) ≤ 1000 * (2 * reachBytes) := fun k => by
    have h1 := weigh_le (M := reachBytes) (l.take k) fun x hx => ⟨(hf x (List.mem_of_mem_take hx)).2.1, (hf x (List.mem_of_mem_take hx)).2.2⟩
    have h2 : (l.take k).length ≤ 1000 := by rw [List.length_take]; omega
    exact Nat.le_trans h1 (Nat.mul_le_mul_right _ h2)
  have HW := hide hW
  clear hn h hf hW
  go_enter Try.func31, Try.ntmps31
  go_wp2_with fail
  go_loopw [3, 4] (fun sv iv wr => ∃ k : Nat, sv = .int .i64 (weigh (l.take k) : Nat) ∧ iv = .int .i64 (k : Nat) ∧ k ≤ n ∧ Turns (fun _ => False) w wr) (fun _ iv _ => n - (intOf iv).toNat)
  case atStart => exact ⟨0, rfl, rfl, by omega, Turns.refl _ _⟩
  case round =>
    obtain ⟨k, rfl, rfl, hk, ht⟩ := hrel
    have TT := hide ht
    by_cases hk2 : k < n
    · have i1 : (k : Int) < n := by omega
      have i0 : (0 : Int) ≤ (k : Int) := by omega
      have hkl : k < l.length := by have := HL.out; omega
      obtain ⟨⟨b, off, rfl, hc⟩, _⟩ := (HA.out.quiet ht) k l[k] (List.getElem?_eq_getElem hkl)
      have hw1 := HW.out k
      have hw2 := HW.out (k + 1)
      have HTK := hide (List.take_succ_eq_append_getElem hkl)
      have hws : weigh (l.take (k + 1)) = weigh (l.take k) + (l[k].e.key.length + l[k].e.val.length) := by rw [HTK.out, weigh_snoc]
      rw [hws] at hw2
      have HWS := hide hws
      generalize l[k] = x at *
      obtain ⟨_, ka, kc, va, vc, e, _⟩ := x
      have c0 : wr.cell? ⟨b, off + k * 4, none⟩ = some (.slice ka e.key.length kc) := hc 0 _ rfl
      have c3 : wr.cell? ⟨b, off + k * 4 + 3, none⟩ = some (.slice va e.val.length vc) := hc 3 _ rfl
      unfold reachBytes at hw1 hw2
      clear hc ht hws
      simp only at hw2
      generalize weigh (l.take k) = W0 at *
      go_wp2_with fail
      go_quiet (fail)
      go_wp2
      go_roundw
      case rel =>
        refine ⟨k + 1, ?_, by go_num, by omega, ?_⟩
        · rw [HWS.out]
          go_num
        · first
            | exact TT.out.drew
            | exact TT.out.drewN _
      case measure => simp [intOf]; omega
    · have i1 : ¬ (k : Int) < n := by omega
      have hkn : k = n := by omega
      have HK := hide hkn
      clear hk hk2 hkn ht
      go_wp2_with fail
      go_ret
      refine ⟨?_, TT.out⟩
      rw [HK.out, HL.out, List.take_length]
      rfl
end Go.Proofs.Ytkeglaplckfllaa

/-
  The document's order of entries, and which may be.
-/
namespace Go.Proofs.Ytkeglaplckfllaa
open Go.RowKit
set_option maxRecDepth 100000
set_option maxHeartbeats 4000000
theorem cmpB_cons (a b : BitVec 8) (l r : List (BitVec 8)) : cmpB (a :: l) (b :: r) = if a.toNat < b.toNat then -1 else if b.toNat < a.toNat then 1 else cmpB l r := by
  have h : ∀ x y : BitVec 8, (UInt8.ofNat ((x.toNat : Int)).toNat < UInt8.ofNat ((y.toNat : Int)).toNat) ↔ x.toNat < y.toNat := fun x y => by
    have h1 := x.isLt
    have h2 := y.isLt
    rw [UInt8.lt_iff_toNat_lt]
    simp only [Int.toNat_natCast, UInt8.toNat_ofNat']
    omega
  show Lib.compareBytes (u8s (a :: l)) (u8s (b :: r)) = _
  have hu : ∀ (x : BitVec 8) (t : List (BitVec 8)), u8s (x :: t) = UInt8.ofNat ((x.toNat : Int)).toNat :: u8s t := fun x t => rfl
  rw [hu, hu, Lib.compareBytes]
  by_cases h1 : a.toNat < b.toNat
  · rw [if_pos h1, if_pos ((h a b).2 h1)]
  · rw [if_neg h1, if_neg (fun q => h1 ((h a b).1 q))]
    by_cases h2 : b.toNat < a.toNat
    · rw [if_pos h2, if_pos ((h b a).2 h2)]
    · rw [if_neg h2, if_neg (fun q => h2 ((h b a).1 q))]
      rfl
theorem cmpB_at : ∀ (k : Nat) (x y : List (BitVec 8)) (h1 : k < x.length) (h2 : k < y.length), x.take k = y.take k → x[k] ≠ y[k] → (cmpB x y < 0 ↔ x[k].toNat < y[k].toNat)
  | 0, a :: l, b :: r, _, _, _, hne => by
    have hne' : a.toNat ≠ b.toNat := fun q => hne (BitVec.eq_of_toNat_eq q)
    rw [cmpB_cons]
    simp only [List.getElem_cons_zero]
    split
    · simp_all
    · split
      · simp_all
      · omega
  | k + 1, a :: l, b :: r, h1, h2, ht, hne => by
    simp only [List.take_succ_cons, List.cons.injEq] at ht
    have := cmpB_at k l r (by simpa using h1) (by simpa using h2) ht.2 (by simpa using hne)
    rw [cmpB_cons, ht.1, if_neg (Nat.lt_irrefl _), if_neg (Nat.lt_irrefl _)]
    simpa using this
theorem cmpB_end : ∀ (k : Nat) (x y : List (BitVec 8)), x.take k = y.take k → (k = x.length ∧ k ≤ y.length ∨ k = y.length ∧ k ≤ x.length) → (cmpB x y < 0 ↔ x.length < y.length)
  | 0, [], [], _, _ => by decide
  | 0, [], b :: r, _, _ => by
    have : cmpB [] (b :: r) = -1 := rfl
    rw [this]; simp
  | 0, a :: l, [], _, _ => by
    have : cmpB (a :: l) [] = 1 := rfl
    rw [this]; simp
  | 0, a :: l, b :: r, _, h => by simp at h
  | k + 1, [], y, _, h => by
    rcases h with ⟨h, _⟩ | ⟨_, h⟩ <;> simp at h
  | k + 1, a :: l, [], _, h => by
    rcases h with ⟨_, h⟩ | ⟨h, _⟩ <;> simp at h
  | k + 1, a :: l, b :: r, ht, h => by
    simp only [List.take_succ_cons, List.cons.injEq] at ht
    have := cmpB_end k l r ht.2 (by simpa using h)
    rw [cmpB_cons, ht.1, if_neg (Nat.lt_irrefl _), if_neg (Nat.lt_irrefl _)]
    simpa using this
theorem rbefore_any (a a' : Option Addr) (n n' c c' : Nat) (x y : List (BitVec 8)) (w : World) (h : Bytes w (.slice a n c) x) (h' : Bytes w (.slice a' n' c') y) (hn : n ≤ 1000000000) (hn' : n' ≤ 1000000000) :
    Calls Try.prog 59 #[.slice a n c, .slice a' n' c'] w fun e w' => e = .returned (.bool (decide (cmpB x y < 0))) ∧ ∃ m, w' = w.drewN m := by
  have hl := h.len
  have hl' := h'.len
  have H := hide h
  have H' := hide h'
  have HL := hide hl
  have HL' := hide hl'
  clear h h' hl hl'
  go_enter Try.func59, Try.ntmps59
  go_wp2_with fail
  go_loopw [5] (fun i wr => ∃ k : Nat, i = .int .i64 (k : Nat) ∧ k ≤ n ∧ k ≤ n' ∧ x.take k = y.take k ∧ ∃ m, wr = w.drewN m) (fun i _ => n - (intOf i).toNat)
  case atStart => exact ⟨0, rfl, Nat.zero_le _, Nat.zero_le _, rfl, 0, rfl⟩
  case round =>
    obtain ⟨k, rfl, hk, hk', htk, m, rfl⟩ := hrel
    have HTK := hide htk
    clear htk
    by_cases hkn : k < n ∧ k < n'
    · obtain ⟨hk1, hk2⟩ := hkn
      obtain ⟨b, off, rfl⟩ := H.out.addr (by omega)
      obtain ⟨b', off', rfl⟩ := H'.out.addr (by omega)
      have hkx : k < x.length := by have := HL.out; omega
      have hky : k < y.length := by have := HL'.out; omega
      have h1 := H.out.at k hkx
      have h2 := H'.out.at k hky
      have e1 : x.getD k 0 = x[k] := by simp [List.getD, hkx]
      have e2 : y.getD k 0 = y[k] := by simp [List.getD, hky]
      rw [e1] at h1
      rw [e2] at h2
      have i1 : (k : Int) < (n : Int) := by omega
      have i2 : (k : Int) < (n' : Int) := by omega
      have i0 : (0 : Int) ≤ (k : Int) := by omega
      clear e1 e2
      by_cases hxy : x[k] = y[k]
      · have HT2 := hide (take_eq_succ hkx hky HTK.out hxy)
        rw [← hxy] at h2
        generalize x[k].toNat = q at *
        clear hxy
        go_wp2_with fail
        go_quiet (fail)
        go_wp2
        go_roundw
        case rel => exact ⟨k + 1, by go_num, by omega, by omega, HT2.out, _, rfl⟩
        case measure => simp [intOf]; omega
      · have hne : x[k].toNat ≠ y[k].toNat := fun e => hxy (BitVec.eq_of_toNat_eq e)
        have HC := hide (show decide (cmpB x y < 0) = decide (x[k].toNat < y[k].toNat) from decide_eq_decide.2 (cmpB_at k x y hkx hky HTK.out hxy))
        generalize x[k].toNat = q at *
        generalize y[k].toNat = q' at *
        have hne' : ¬ (q : Int) = (q' : Int) := by omega
        clear hxy hne
        go_wp2_with fail
        go_quiet (fail)
        go_wp2_with fail
        go_quiet (fail)
        go_wp2_with fail
        go_ret
        go_light
        refine ⟨congrArg Ending.returned (congrArg Value.bool HC.out.symm), ?_⟩
        first | exact ⟨_, rfl⟩ | (rw [World.drewN_drewN]; exact ⟨_, rfl⟩) | (rw [World.drewN_drewN, World.drewN_drewN]; exact ⟨_, rfl⟩)
    · have HC := hide (show decide (cmpB x y < 0) = decide (x.length < y.length) from decide_eq_decide.2 (cmpB_end k x y HTK.out (by go_light; have := HL.out; have := HL'.out; omega)))
      have hor : ¬ ((k : Int) < (n : Int) ∧ (k : Int) < (n' : Int)) := by omega
      have HD := hide (show decide (n < n') = decide (x.length < y.length) by rw [HL.out, HL'.out])
      by_cases h1 : (k : Int) < (n : Int)
      · have h2 : ¬ (k : Int) < (n' : Int) := fun q => hor ⟨h1, q⟩
        clear hkn hor
        go_wp2_with fail
        go_ret
        go_light
        exact ⟨congrArg Ending.returned (congrArg Value.bool (HD.out.trans HC.out.symm)), m, rfl⟩
      · clear hkn hor
        go_wp2_with fail
        go_ret
        go_light
        exact ⟨congrArg Ending.returned (congrArg Value.bool (HD.out.trans HC.out.symm)), m, rfl⟩
end Go.Proofs.Ytkeglaplckfllaa

/-
  The document's Compare and CheckEntry.
-/
namespace Go.Proofs.Ytkeglaplckfllaa
open Go.RowKit
set_option maxRecDepth 100000
set_option maxHeartbeats 4000000
theorem rcompare_any (ka kb va vb : Option Addr) (kn kc vn vc kn' kc' vn' vc' : Nat) (kx ky : Int) (sx sy : Nat) (x y : List (BitVec 8)) (w : World) (h : Bytes w (.slice ka kn kc) x) (h' : Bytes w (.slice kb kn' kc') y) (hn : kn ≤ 1000000000) (hn' : kn' ≤ 1000000000) :
    Calls Try.prog 57 #[.agg #[.slice ka kn kc, .int .u64 sx, .int .i64 kx, .slice va vn vc], .agg #[.slice kb kn' kc', .int .u64 sy, .int .i64 ky, .slice vb vn' vc']] w fun e w' => e = .returned (.int .i64 (cmpE (x, sx) (y, sy))) ∧ Below w.heap.size w w' := by
  have b0 := (Below.refl w.heap.size w).alloc (Nat.le_refl _) (.cells #[.slice ka kn kc, .int .u64 sx, .int .i64 kx, .slice va vn vc] 29)
  have b1 := b0.alloc b0.size (.cells #[.slice kb kn' kc', .int .u64 sy, .int .i64 ky, .slice vb vn' vc'] 29)
  have n0' := heap_keep ((Below.refl _ (w.alloc (.cells #[.slice ka kn kc, .int .u64 sx, .int .i64 kx, .slice va vn vc] 29))).alloc (Nat.le_refl _) (.cells #[.slice kb kn' kc', .int .u64 sy, .int .i64 ky, .slice vb vn' vc'] 29)) (heap_alloc_new w (.cells #[.slice ka kn kc, .int .u64 sx, .int .i64 kx, .slice va vn vc] 29))
  have n1 := heap_alloc_new (w.alloc (.cells #[.slice ka kn kc, .int .u64 sx, .int .i64 kx, .slice va vn vc] 29)) (.cells #[.slice kb kn' kc', .int .u64 sy, .int .i64 ky, .slice vb vn' vc'] 29)
  rw [World.size_alloc] at n1
  have B1 := hide b1
  have K := hide (h.below b1)
  have K' := hide (h'.below b1)
  have N0 := hide n0'
  have N1 := hide n1
  have hval : cmpE (x, sx) (y, sy) = if cmpB x y < 0 then -1 else if cmpB y x < 0 then 1 else if sy < sx then -1 else if sx < sy then 1 else 0 := by
    unfold cmpE
    have h1 := cmpB_vals x y
    have h2 := cmpB_swap x y
    simp only
    repeat' split
    all_goals omega
  have HV := hide hval
  clear b0 b1 n0' n1 h h' hval
  go_enter Try.func57, Try.ntmps57
  go_wp2_with fail
  generalize (w.alloc (.cells #[.slice ka kn kc, .int .u64 sx, .int .i64 kx, .slice va vn vc] 29)).alloc (.cells #[.slice kb kn' kc', .int .u64 sy, .int .i64 ky, .slice vb vn' vc'] 29) = w0 at *
  generalize hG : w.heap.size = G at *
  have HG := hide hG
  clear hG
  refine (rbefore_any ka kb kn kn' kc kc' x y w0 K.out K'.out hn hn').mono ?_
  rintro e w1 ⟨rfl, m1, rfl⟩
  have c0 : (w0.drewN m1).cell? ⟨G, 0, none⟩ = some (.slice ka kn kc) := cell_of_row w0 G 0 _ 29 (0, 0) N0.out
  have c1 : (w0.drewN m1).cell? ⟨G, 1, none⟩ = some (.int .u64 sx) := cell_of_row w0 G 1 _ 29 (0, 0) N0.out
  have d0 : (w0.drewN m1).cell? ⟨G + 1, 0, none⟩ = some (.slice kb kn' kc') := cell_of_row w0 (G + 1) 0 _ 29 (0, 0) N1.out
  have d1 : (w0.drewN m1).cell? ⟨G + 1, 1, none⟩ = some (.int .u64 sy) := cell_of_row w0 (G + 1) 1 _ 29 (0, 0) N1.out
  have BB := hide (belowN B1.out m1)
  have K2 := hide (K.out.drewN m1)
  have K2' := hide (K'.out.drewN m1)
  generalize w0.drewN m1 = w2 at *
  by_cases h1 : cmpB x y < 0
  · rw [decide_eq_true h1]
    go_wp2_with fail
    go_ret
    go_light
    exact ⟨by rw [HV.out, if_pos (by omega)]; rfl, by rw [HG.out]; exact BB.out⟩
  · rw [decide_eq_false h1]
    go_wp2_with fail
    refine (rbefore_any kb ka kn' kn kc' kc y x w2 K2'.out K2.out hn' hn).mono ?_
    rintro e w3 ⟨rfl, m3, rfl⟩
    have c1' : (w2.drewN m3).cell? ⟨G, 1, none⟩ = some (.int .u64 sx) := c1
    have d1' : (w2.drewN m3).cell? ⟨G + 1, 1, none⟩ = some (.int .u64 sy) := d1
    have BB3 := hide (belowN BB.out m3)
    generalize w2.drewN m3 = w3 at *
    clear c0 c1 d0 d1
    by_cases h2 : cmpB y x < 0
    · rw [decide_eq_true h2]
      go_wp2_with fail
      go_ret
      go_light
      exact ⟨by rw [HV.out, if_neg (by omega), if_pos (by omega)]; rfl, by rw [HG.out]; exact BB3.out⟩
    · rw [decide_eq_false h2]
      by_cases h3 : sy < sx
      · have h3' : (sy : Int) < (sx : Int) := by omega
        go_wp2_with fail
        go_ret
        go_light
        exact ⟨by rw [HV.out, if_neg (by omega), if_neg (by omega), if_pos (by omega)]; rfl, by rw [HG.out]; exact BB3.out⟩
      · have h3' : ¬ (sy : Int) < (sx : Int) := by omega
        by_cases h4 : sx < sy
        · have h4' : (sx : Int) < (sy : Int) := by omega
          go_wp2_with fail
          go_ret
          go_light
          exact ⟨by rw [HV.out, if_neg (by omega), if_neg (by omega), if_neg (by omega), if_pos (by omega)]; rfl, by rw [HG.out]; exact BB3.out⟩
        · have h4' : ¬ (sx : Int) < (sy : Int) := by omega
          go_wp2_with fail
          go_ret
          go_light
          exact ⟨by rw [HV.out, if_neg (by omega), if_neg (by omega), if_neg (by omega), if_neg (by omega)]; rfl, by rw [HG.out]; exact BB3.out⟩
end Go.Proofs.Ytkeglaplckfllaa

/-
  The document's CheckEntry.
-/
namespace Go.Proofs.Ytkeglaplckfllaa
open Go.RowKit
set_option maxRecDepth 100000
set_option maxHeartbeats 4000000
/-- What CheckEntry answers. -/
def chk1 (e : Ent) : Int := chk e.seq [(e.kind, e.key, e.val)]
theorem rodd_any (k : Int) (ka va : Option Addr) (kn kc vn vc : Nat) (w : World) (e : Ent) (hk : e.kind = k) (hkn : e.key.length = kn) (hvn : e.val.length = vn) :
    Calls Try.prog 55 #[.int .i64 k, .slice ka kn kc, .slice va vn vc] w fun r w' => r = .returned (.bool (wrongW (e.kind, e.key, e.val))) ∧ w' = w := by
  have H1 := hide hk
  have H2 := hide hkn
  have H3 := hide hvn
  have hkz : ((kn : Int) == 0) = (kn == 0) := Bool.eq_iff_iff.2 (by simp)
  have hvz : decide ((0 : Int) < (vn : Int)) = decide (0 < vn) := Bool.eq_iff_iff.2 (by simp)
  have HKZ := hide hkz
  have HVZ := hide hvz
  clear hk hkn hvn hkz hvz
  by_cases c1 : k = 1
  · subst c1
    go_enter Try.func55, Try.ntmps55
    go_wp2_with fail
    all_goals go_ret
    all_goals refine ⟨?_, rfl⟩
    all_goals unfold wrongW
    all_goals rw [H1.out, H2.out, H3.out]
    all_goals refine congrArg Ending.returned (congrArg Value.bool ?_)
    all_goals have e1 := HKZ.out
    all_goals have e2 := HVZ.out
    all_goals clear HKZ HVZ H1 H2 H3
    all_goals first | (simp_all; done) | (rw [e1]; simp_all; done) | (rw [e1, e2]; simp_all; done) | (rw [e2]; simp_all; done)
  · by_cases c2 : k = 2
    · subst c2
      go_enter Try.func55, Try.ntmps55
      go_wp2_with fail
      all_goals go_ret
      all_goals refine ⟨?_, rfl⟩
      all_goals unfold wrongW
      all_goals rw [H1.out, H2.out, H3.out]
      all_goals refine congrArg Ending.returned (congrArg Value.bool ?_)
      all_goals have e1 := HKZ.out
      all_goals have e2 := HVZ.out
      all_goals clear HKZ HVZ H1 H2 H3
      all_goals first | (simp_all; done) | (rw [e1]; simp_all; done) | (rw [e1, e2]; simp_all; done) | (rw [e2]; simp_all; done)
    · have c1' : (k == 1) = false := by simpa using c1
      have c2' : (k == 2) = false := by simpa using c2
      go_enter Try.func55, Try.ntmps55
      go_wp2_with fail
      all_goals go_ret
      all_goals refine ⟨?_, rfl⟩
      all_goals unfold wrongW
      all_goals rw [H1.out, H2.out, H3.out]
      all_goals refine congrArg Ending.returned (congrArg Value.bool ?_)
      all_goals have e1 := HKZ.out
      all_goals have e2 := HVZ.out
      all_goals clear HKZ HVZ H1 H2 H3
      all_goals first | (simp_all; done) | (rw [e1]; simp_all; done) | (rw [e1, e2]; simp_all; done) | (rw [e2]; simp_all; done)
theorem rlong_any (ka va : Option Addr) (kn kc vn vc : Nat) (w : World) (e : Ent) (hkn : e.key.length = kn) (hvn : e.val.length = vn) :
    Calls Try.prog 56 #[.slice ka kn kc, .slice va vn vc] w fun r w' => r = .returned (.bool (longW (e.kind, e.key, e.val))) ∧ w' = w := by
  have H2 := hide hkn
  have H3 := hide hvn
  clear hkn hvn
  go_enter Try.func56, Try.ntmps56
  go_wp2_with fail
  all_goals go_ret
  all_goals refine ⟨?_, rfl⟩
  all_goals unfold longW
  all_goals rw [H2.out, H3.out]
  all_goals refine congrArg Ending.returned (congrArg Value.bool (Bool.eq_iff_iff.2 ?_))
  all_goals simp_all
  all_goals try omega
theorem chk1_eq (e : Ent) : chk1 e = if wrongW (e.kind, e.key, e.val) = true ∨ e.seq = 0 then 2 else if longW (e.kind, e.key, e.val) = true ∨ 72057594037927935 < e.seq then 3 else 0 := by
  unfold chk1 chk
  simp only [List.any_cons, List.any_nil, Bool.or_false, List.length_singleton]
  by_cases h1 : e.seq = 0
  · simp [h1]
  · by_cases h2 : wrongW (e.kind, e.key, e.val) = true
    · simp [h2]
    · simp only [h1, h2, or_false, if_false, reduceCtorEq]
      by_cases h3 : longW (e.kind, e.key, e.val) = true
      · simp [h3]
      · by_cases h4 : 72057594037927935 < e.seq
        · simp [h4]
        · rw [if_neg (by rintro (q | q | q); exact h3 q; exact h4 q; omega), if_neg (by rintro (q | q); exact h3 q; exact h4 q)]
theorem rcheck_any (x : Tow) (w : World) : Calls Try.prog 43 #[.agg #[x.kv, .int .u64 (x.e.seq : Nat), .int .i64 x.e.kind, x.vv]] w fun r w' => r = .returned (.int .i64 (chk1 x.e)) ∧ Below w.heap.size w w' := by
  obtain ⟨xb, ka, kc, va, vc, e, xh⟩ := x
  have hv := chk1_eq e
  have HV := hide hv
  have b0 := (Below.refl w.heap.size w).alloc (Nat.le_refl _) (.cells #[.slice ka e.key.length kc, .int .u64 (e.seq : Nat), .int .i64 e.kind, .slice va e.val.length vc] 29)
  have B0 := hide b0
  have HO := hide (fun u => rodd_any e.kind ka va e.key.length kc e.val.length vc u e rfl rfl rfl)
  have HLG := hide (fun u => rlong_any ka va e.key.length kc e.val.length vc u e rfl rfl)
  simp only [Tow.kv, Tow.vv]
  clear hv b0
  generalize hw1 : wrongW (e.kind, e.key, e.val) = p1 at *
  generalize hw2 : longW (e.kind, e.key, e.val) = p2 at *
  generalize hs : e.seq = s at *
  clear hw1 hw2 hs
  go_enter Try.func43, Try.ntmps43
  go_wp2_with fail
  refine (HO.out _).mono ?_
  rintro r w1 ⟨rfl, rfl⟩
  cases p1
  · by_cases h0 : s = 0
    · subst h0
      go_wp2_with fail
      go_ret
      go_light
      exact ⟨by rw [HV.out]; rfl, B0.out⟩
    · have h0' : ¬ (s : Int) = 0 := by omega
      go_wp2_with fail
      refine (HLG.out _).mono ?_
      rintro r w2 ⟨rfl, rfl⟩
      cases p2
      · by_cases h4 : 72057594037927935 < s
        · have h4' : (72057594037927935 : Int) < (s : Int) := by omega
          go_wp2_with fail
          go_ret
          go_light
          exact ⟨by rw [HV.out, if_neg (by simp [h0]), if_pos (.inr h4)]; rfl, B0.out⟩
        · have h4' : ¬ (72057594037927935 : Int) < (s : Int) := by omega
          go_wp2_with fail
          go_ret
          go_light
          exact ⟨by rw [HV.out, if_neg (by simp [h0]), if_neg (by simp; omega)]; rfl, B0.out⟩
      · go_wp2_with fail
        go_ret
        go_light
        exact ⟨by rw [HV.out, if_neg (by simp [h0]), if_pos (by simp)]; rfl, B0.out⟩
  · go_wp2_with fail
    go_ret
    go_light
    exact ⟨by rw [HV.out, if_pos (by simp)]; rfl, B0.out⟩
end Go.Proofs.Ytkeglaplckfllaa

/-
  What the laws share: Pick, Own.
-/
namespace Go.Proofs.Ytkeglaplckfllaa
open Go.RowKit
set_option maxRecDepth 100000
set_option maxHeartbeats 4000000
theorem own_any (a : Option Addr) (n c : Nat) (bs : List (BitVec 8)) (w : World) (h : Bytes w (.slice a n c) bs) (hn : n ≤ 1000000) :
    Calls Try.prog 42 #[.slice a n c] w fun e w' => ∃ g c', e = .returned (.slice (some ⟨g, 0, none⟩) n c') ∧ w.heap.size ≤ g ∧ n ≤ c' ∧ RowB w' g c' bs ∧ Below w.heap.size w w' := by
  have hl := h.len
  have hb : Below w.heap.size w (w.alloc (.cells #[] 5)) := (Below.refl _ _).alloc (Nat.le_refl _) _
  obtain ⟨g, c2, w2, hr, hg, hrow, hb2, hc, _⟩ := append_bytes2 (w.alloc (.cells #[] 5)) w.heap.size (some ⟨w.heap.size, 0, none⟩) 0 0 [] rfl (.slice a n c) bs n hl (h.below hb) (by simp)
    (.inr ⟨_, rfl, Nat.le_refl _, Nat.le_refl _, #[], heap_alloc_new w _, Nat.le_refl _, fun k hk => by simp [cellsOf] at hk⟩) (by omega)
  rw [Nat.zero_add] at hr hc
  rw [List.nil_append] at hrow
  have HR := hide hr
  have HW := hide hrow
  have HB := hide (hb.trans hb2)
  clear hr hrow hb hb2 h hl
  go_enter Try.func42, Try.ntmps42
  go_wp2_with (at_builtin; refine wpList_append_run rfl _ _ 26 rfl (.slice (some ⟨w.heap.size, 0, none⟩) 0 0) (.slice a n c) rfl rfl _ _ (HR.out _) ?_)
  go_ret
  exact ⟨g, c2, rfl, hg, hc, HW.out, HB.out⟩
end Go.Proofs.Ytkeglaplckfllaa

/-
  The document's table in memory; place and is.
-/
namespace Go.Proofs.Ytkeglaplckfllaa
open Go.RowKit
set_option maxRecDepth 100000
set_option maxHeartbeats 4000000
/-- Heights, one behind the other. -/
def Hts (w : World) (a : Option Addr) (l : List Tow) : Prop := ∀ k x, l[k]? = some x → ∃ b off, a = some ⟨b, off, none⟩ ∧ w.cell? ⟨b, off + k, none⟩ = some (.int .i64 (x.h : Nat))
theorem Hts.quiet {w w' : World} {a : Option Addr} {l : List Tow} (h : Hts w a l) (t : Turns (fun _ => False) w w') : Hts w' a l := fun k x hx => by
  obtain ⟨b, off, h1, h2⟩ := h k x hx
  exact ⟨b, off, h1, t.cell h2 (fun x => x)⟩
/-- The document's table, as it is read. -/
def RT (w : World) (r : Nat) (l : List Tow) : Prop :=
  ∃ (La Ha : Option Addr) (Lc Hc : Nat), w.heap[r]? = some (.cells #[.slice La l.length Lc, .slice Ha l.length Hc] 49 (0, 0)) ∧ Ents w La l ∧ Hts w Ha l
theorem RT.quiet {w w' : World} {r : Nat} {l : List Tow} (h : RT w r l) (t : Turns (fun _ => False) w w') : RT w' r l := by
  obtain ⟨La, Ha, Lc, Hc, h1, h2, h3⟩ := h
  exact ⟨La, Ha, Lc, Hc, t.heap h1 (fun x => x), h2.quiet t, h3.quiet t⟩
theorem place_eq (x : En) : ∀ (R : List Tow) (k : Nat), k ≤ R.length → (∀ j y, j < k → R[j]? = some y → cmpE y.e.en x < 0) → (∀ y, R[k]? = some y → ¬ cmpE y.e.en x < 0) → place x R = k
  | [], k, hk, _, _ => by simp at hk; simp [place, hk]
  | y :: r, 0, _, _, h2 => by
    have := h2 y rfl
    simp [place, this]
  | y :: r, k + 1, hk, h1, h2 => by
    have h0 := h1 0 y (by omega) rfl
    have := place_eq x r k (by simpa using hk) (fun j z hj hz => h1 (j + 1) z (by omega) (by simpa using hz)) (fun z hz => h2 z (by simpa using hz))
    simp [place, h0, this]
theorem rplace_any (r : Nat) (l : List Tow) (w : World) (h : RT w r l) (ka : Option Addr) (kn kc s : Nat) (key : List (BitVec 8)) (hk : Bytes w (.slice ka kn kc) key) (hkn : kn ≤ 1000000) (hkb : ∀ y, y ∈ l → y.e.key.length ≤ 1000000) (hl : l.length ≤ 100000) :
    Calls Try.prog 44 #[.pointer (some ⟨r, 0, none⟩), .slice ka kn kc, .int .u64 (s : Nat)] w fun e w' => e = .returned (.int .i64 (place (key, s) l : Nat)) ∧ Below w.heap.size w w' := by
  obtain ⟨La, Ha, Lc, Hc, hb, hE, _⟩ := h
  have HBX := hide hb
  have HA := hide hE
  have HK := hide hk
  have HKB := hide hkb
  obtain ⟨n, hn⟩ : ∃ n, l.length = n := ⟨_, rfl⟩
  have HN := hide hn
  rw [hn] at hl HBX
  clear hb hE hk hkb hn
  go_enter Try.func44, Try.ntmps44
  go_wp2_with fail
  go_loopw [7] (fun iv wr => ∃ k : Nat, iv = .int .i64 (k : Nat) ∧ k ≤ n ∧ (∀ j y, j < k → l[j]? = some y → cmpE y.e.en (key, s) < 0) ∧ Below w.heap.size w wr) (fun iv _ => n - (intOf iv).toNat)
  case atStart => exact ⟨0, rfl, Nat.zero_le _, fun j y h => by omega, Below.refl _ _⟩
  case round =>
    obtain ⟨k, rfl, hkn', hbef, hbw⟩ := hrel
    have HBE := hide hbef
    have BW := hide hbw
    have tt := Turns.of_below hbw (fun _ => False)
    have r0 : wr.cell? ⟨r, 0, none⟩ = some (.slice La n Lc) := cell_of_row wr r 0 _ 49 (0, 0) (tt.heap HBX.out (fun x => x))
    by_cases hkl : k < n
    · have i1 : (k : Int) < (n : Int) := by omega
      have i0 : (0 : Int) ≤ (k : Int) := by omega
      obtain ⟨y, hy⟩ : ∃ y, l[k]? = some y := ⟨_, List.getElem?_eq_getElem (by have := HN.out; omega)⟩
      obtain ⟨⟨b, off, rfl, hc⟩, k1, k2⟩ := (HA.out.quiet tt) k y hy
      have hyk := HKB.out y (List.mem_of_getElem? hy)
      have HST : Hid (cmpE y.e.en (key, s) < 0 → ∀ j z, j < k + 1 → l[j]? = some z → cmpE z.e.en (key, s) < 0) := hide fun hlt j z hj hz => by
        by_cases hjk : j < k
        · exact HBE.out j z hjk hz
        · obtain rfl : j = k := by omega
          rw [hy] at hz
          cases hz
          exact hlt
      have HPIF : Hid (¬ cmpE y.e.en (key, s) < 0 → place (key, s) l = k) := hide fun hn => place_eq (key, s) l k (by have := HN.out; omega) HBE.out (fun z hz => by rw [hy] at hz; cases hz; exact hn)
      obtain ⟨yb, ya, yc, yva, yvc, ye, yh⟩ := y
      have c0 : wr.cell? ⟨b, off + k * 4, none⟩ = some (.slice ya ye.key.length yc) := hc 0 _ rfl
      have c1 : wr.cell? ⟨b, off + k * 4 + 1, none⟩ = some (.int .u64 (ye.seq : Nat)) := hc 1 _ rfl
      have c2 : wr.cell? ⟨b, off + k * 4 + 2, none⟩ = some (.int .i64 ye.kind) := hc 2 _ rfl
      have c3 : wr.cell? ⟨b, off + k * 4 + 3, none⟩ = some (.slice yva ye.val.length yvc) := hc 3 _ rfl
      have HQ := hide (rcompare_any ya ka yva none ye.key.length yc ye.val.length yvc kn kc 0 0 ye.kind 0 ye.seq s ye.key key wr k1 (HK.out.quiet tt) (show ye.key.length ≤ 1000000000 from Nat.le_trans hyk (by decide)) (by omega))
      change Hid (cmpE (ye.key, ye.seq) (key, s) < 0 → _) at HST
      change Hid (¬ cmpE (ye.key, ye.seq) (key, s) < 0 → _) at HPIF
      generalize cmpE (ye.key, ye.seq) (key, s) = cv at *
      clear hc k1 k2 tt hbw hbef hy hyk
      by_cases hlt : cv < 0
      · have HST2 := hide (HST.out hlt)
        go_wp2_with (go_at_call 57; refine HQ.out.mono ?_; rintro x w2 ⟨rfl, b2⟩)
        have BZ := hide (BW.out.trans (b2.mono (by have := BW.out.size; omega)))
        clear b2
        go_roundw
        case rel => exact ⟨k + 1, by go_num, by omega, HST2.out, BZ.out⟩
        case measure => simp [intOf]; omega
      · have HPI := hide (HPIF.out hlt)
        go_wp2_with (go_at_call 57; refine HQ.out.mono ?_; rintro x w2 ⟨rfl, b2⟩)
        have BZ := hide (BW.out.trans (b2.mono (by have := BW.out.size; omega)))
        clear b2
        go_ret
        exact ⟨by rw [HPI.out]; rfl, BZ.out⟩
    · have hd : ¬ (k : Int) < (n : Int) := by omega
      have HPI := hide (place_eq (key, s) l k (by have := HN.out; omega) HBE.out (fun y hy => by
        rw [List.getElem?_eq_none (by have := HN.out; omega)] at hy
        cases hy))
      clear tt hbw hbef
      go_wp2_with fail
      go_ret
      exact ⟨by rw [HPI.out]; rfl, BW.out⟩
end Go.Proofs.Ytkeglaplckfllaa

/-
  The document's is, Height, Before, sameKey, Seek.
-/
namespace Go.Proofs.Ytkeglaplckfllaa
open Go.RowKit
set_option maxRecDepth 100000
set_option maxHeartbeats 4000000
theorem ris_any (r : Nat) (l : List Tow) (w : World) (h : RT w r l) (ka : Option Addr) (kn kc s i : Nat) (key : List (BitVec 8)) (hk : Bytes w (.slice ka kn kc) key) (hkn : kn ≤ 1000000) (hkb : ∀ y, y ∈ l → y.e.key.length ≤ 1000000) :
    Calls Try.prog 45 #[.pointer (some ⟨r, 0, none⟩), .int .i64 (i : Nat), .slice ka kn kc, .int .u64 (s : Nat)] w fun e w' => e = .returned (.bool (atT l i (key, s)).isSome) ∧ Below w.heap.size w w' := by
  obtain ⟨La, Ha, Lc, Hc, hb, hE, _⟩ := h
  have HA := hide hE
  have HK := hide hk
  have HKB := hide hkb
  obtain ⟨n, hn⟩ : ∃ n, l.length = n := ⟨_, rfl⟩
  have HN := hide hn
  rw [hn] at hb
  have r0 : w.cell? ⟨r, 0, none⟩ = some (.slice La n Lc) := cell_of_row w r 0 _ 49 (0, 0) hb
  clear hb hE hk hkb hn
  by_cases hkl : i < n
  · have i1 : (i : Int) < (n : Int) := by omega
    have i0 : (0 : Int) ≤ (i : Int) := by omega
    obtain ⟨y, hy⟩ : ∃ y, l[i]? = some y := ⟨_, List.getElem?_eq_getElem (by have := HN.out; omega)⟩
    obtain ⟨⟨b, off, rfl, hc⟩, k1, k2⟩ := HA.out i y hy
    have hyk := HKB.out y (List.mem_of_getElem? hy)
    have HV : Hid ((atT l i (key, s)).isSome = (cmpE y.e.en (key, s) == 0)) := hide (by
      unfold atT
      rw [hy]
      by_cases hq : cmpE y.e.en (key, s) = 0
      · simp [hq]
      · simp [hq])
    obtain ⟨yb, ya, yc, yva, yvc, ye, yh⟩ := y
    have c0 : w.cell? ⟨b, off + i * 4, none⟩ = some (.slice ya ye.key.length yc) := hc 0 _ rfl
    have c1 : w.cell? ⟨b, off + i * 4 + 1, none⟩ = some (.int .u64 (ye.seq : Nat)) := hc 1 _ rfl
    have c2 : w.cell? ⟨b, off + i * 4 + 2, none⟩ = some (.int .i64 ye.kind) := hc 2 _ rfl
    have c3 : w.cell? ⟨b, off + i * 4 + 3, none⟩ = some (.slice yva ye.val.length yvc) := hc 3 _ rfl
    have HQ := hide (rcompare_any ya ka yva none ye.key.length yc ye.val.length yvc kn kc 0 0 ye.kind 0 ye.seq s ye.key key w k1 HK.out (show ye.key.length ≤ 1000000000 from Nat.le_trans hyk (by decide)) (by omega))
    change Hid (_ = (cmpE (ye.key, ye.seq) (key, s) == 0)) at HV
    generalize cmpE (ye.key, ye.seq) (key, s) = cv at *
    clear hc k1 k2 hy hyk
    go_enter Try.func45, Try.ntmps45
    go_wp2_with (go_at_call 57; refine HQ.out.mono ?_; rintro x w2 ⟨rfl, b2⟩)
    go_ret
    exact ⟨by rw [HV.out]; rfl, b2⟩
  · have hd : ¬ (i : Int) < (n : Int) := by omega
    have HV : Hid ((atT l i (key, s)).isSome = false) := hide (by
      unfold atT
      rw [List.getElem?_eq_none (by have := HN.out; omega)]
      rfl)
    go_enter Try.func45, Try.ntmps45
    go_wp2_with fail
    go_ret
    exact ⟨by rw [HV.out]; rfl, Below.refl _ _⟩
theorem rheight_any (r : Nat) (l : List Tow) (w : World) (h : RT w r l) (ka : Option Addr) (kn kc s : Nat) (key : List (BitVec 8)) (hk : Bytes w (.slice ka kn kc) key) (hkn : kn ≤ 1000000) (hkb : ∀ y, y ∈ l → y.e.key.length ≤ 1000000) (hl : l.length ≤ 100000) :
    Calls Try.prog 25 #[.pointer (some ⟨r, 0, none⟩), .slice ka kn kc, .int .u64 (s : Nat)] w fun e w' => e = .returned (.int .i64 (((atT l (place (key, s) l) (key, s)).map (·.h)).getD 0 : Nat)) ∧ Below w.heap.size w w' := by
  have H1 := hide (rplace_any r l w h ka kn kc s key hk hkn hkb hl)
  have HT := hide h
  have HK := hide hk
  have HKB := hide hkb
  clear h hk hkb
  generalize place (key, s) l = i at *
  go_enter Try.func25, Try.ntmps25
  go_wp2_with fail
  refine H1.out.mono ?_
  rintro e w1 ⟨rfl, b1⟩
  have B1 := hide b1
  have t1 := Turns.of_below b1 (fun _ => False)
  have HT := hide (HT.out.quiet t1)
  have HK := hide (HK.out.quiet t1)
  clear b1 t1 H1
  go_wp2_with fail
  refine (ris_any r l w1 HT.out ka kn kc s i key HK.out hkn HKB.out).mono ?_
  rintro e w2 ⟨rfl, b2⟩
  have B2 := hide (B1.out.trans (b2.mono B1.out.size))
  have HT := hide (HT.out.quiet (Turns.of_below b2 (fun _ => False)))
  clear b2 B1 HK HKB
  cases hx : l[i]? with
  | none =>
    have ha : atT l i (key, s) = none := by unfold atT; rw [hx]
    rw [ha]
    have HAT := hide ha
    clear ha
    go_wp2_with fail
    go_ret
    exact ⟨by rw [HAT.out]; rfl, B2.out⟩
  | some y =>
    by_cases hq : cmpE y.e.en (key, s) = 0
    · have ha : atT l i (key, s) = some y := by unfold atT; rw [hx]; simp [hq]
      rw [ha]
      have HAT := hide ha
      obtain ⟨La, Ha, Lc, Hc, hb, _, hH⟩ := HT.out
      obtain ⟨b, off, rfl, hc⟩ := hH i y hx
      have hil := (List.getElem?_eq_some_iff.1 hx).1
      have i0 : (0 : Int) ≤ (i : Int) := by omega
      have i1 : (i : Int) < (l.length : Nat) := by omega
      have r1 : w2.cell? ⟨r, 1, none⟩ = some (.slice (some ⟨b, off, none⟩) l.length Hc) := cell_of_row w2 r 1 _ 49 (0, 0) hb
      clear hb hH hx hq ha HT
      go_wp2_with fail
      go_ret
      exact ⟨by rw [HAT.out]; rfl, B2.out⟩
    · have ha : atT l i (key, s) = none := by unfold atT; rw [hx]; simp [hq]
      rw [ha]
      have HAT := hide ha
      clear hx hq ha
      go_wp2_with fail
      go_ret
      exact ⟨by rw [HAT.out]; rfl, B2.out⟩
theorem rBefore_any (a a' : Option Addr) (n n' c c' : Nat) (x y : List (BitVec 8)) (w : World) (h : Bytes w (.slice a n c) x) (h' : Bytes w (.slice a' n' c') y) (hn : n ≤ 1000000000) (hn' : n' ≤ 1000000000) :
    Calls Try.prog 49 #[.slice a n c, .slice a' n' c'] w fun e w' => e = .returned (.bool (decide (cmpB x y < 0))) ∧ ∃ m, w' = w.drewN m := by
  have HB := hide (rbefore_any a a' n n' c c' x y w h h' hn hn')
  clear h h'
  generalize decide (cmpB x y < 0) = d at *
  go_enter Try.func49, Try.ntmps49
  go_wp2_with fail
  refine HB.out.mono ?_
  rintro e w1 ⟨rfl, m, rfl⟩
  go_wp2_with fail
  go_ret
  exact ⟨rfl, m, rfl⟩
theorem sameKey_any (a a' : Option Addr) (n n' c c' : Nat) (x y : List (BitVec 8)) (w : World) (h : Bytes w (.slice a n c) x) (h' : Bytes w (.slice a' n' c') y) (hn : n ≤ 1000000000) (hn' : n' ≤ 1000000000) :
    Calls Try.prog 47 #[.slice a n c, .slice a' n' c'] w fun e w' => e = .returned (.bool (decide (x = y))) ∧ ∃ m, w' = w.drewN m := by
  have HB := hide (rBefore_any a a' n n' c c' x y w h h' hn hn')
  have HC := hide (fun m => rBefore_any a' a n' n c' c y x (w.drewN m) (h'.drewN m) (h.drewN m) hn' hn)
  have HV : Hid (decide (x = y) = (!decide (cmpB x y < 0) && !decide (cmpB y x < 0))) := hide (by
    have h1 := cmpB_vals x y
    have h2 := cmpB_swap x y
    have h3 := cmpB_zero x y
    by_cases hz : cmpB x y = 0
    · have := h3.1 hz
      subst this
      simp [hz]
    · have hne : ¬ x = y := fun e => hz (h3.2 e)
      by_cases hl : cmpB x y < 0
      · simp [hne, hl]
      · have : cmpB y x < 0 := by omega
        simp [hne, this])
  clear h h'
  generalize decide (cmpB x y < 0) = d at *
  generalize decide (cmpB y x < 0) = d' at *
  go_enter Try.func47, Try.ntmps47
  go_wp2_with fail
  refine HB.out.mono ?_
  rintro e w1 ⟨rfl, m, rfl⟩
  cases d
  · go_wp2_with fail
    refine (HC.out m).mono ?_
    rintro e w2 ⟨rfl, m2, rfl⟩
    go_wp2_with fail
    go_ret
    exact ⟨by rw [HV.out]; rfl, m + m2, rfl⟩
  · go_wp2_with fail
    go_ret
    exact ⟨by rw [HV.out]; rfl, m, rfl⟩
theorem rseek_any (r : Nat) (l : List Tow) (w : World) (h : RT w r l) (ka : Option Addr) (kn kc s : Nat) (key : List (BitVec 8)) (hk : Bytes w (.slice ka kn kc) key) (hkn : kn ≤ 1000000) (hkb : ∀ y, y ∈ l → y.e.key.length ≤ 1000000) (hl : l.length ≤ 100000) :
    Calls Try.prog 20 #[.pointer (some ⟨r, 0, none⟩), .slice ka kn kc, .int .u64 (s : Nat)] w fun e w' => e = .returned (.tuple #[.agg (((l[place (key, s) l]?).map (·.ent)).getD #[.slice none 0 0, .int .u64 0, .int .i64 0, .slice none 0 0]), .bool (l[place (key, s) l]?).isSome]) ∧ Below w.heap.size w w' := by
  have T0 := hide ((Turns.refl (fun _ => False) w).alloc (.cells #[.slice none 0 0, .int .u64 0, .int .i64 0, .slice none 0 0] 29))
  have HR := hide (heap_alloc_new w (.cells #[.slice none 0 0, .int .u64 0, .int .i64 0, .slice none 0 0] 29))
  have HT := hide (h.quiet T0.out)
  have H1 := hide (rplace_any r l _ HT.out ka kn kc s key (hk.quiet T0.out) hkn hkb hl)
  have hpl := place_le (key, s) l
  clear h hk hkb
  generalize place (key, s) l = i at *
  go_enter Try.func20, Try.ntmps20
  go_upto_region 1 with (fail)
  generalize w.alloc (.cells #[.slice none 0 0, .int .u64 0, .int .i64 0, .slice none 0 0] 29) = w0 at *
  generalize hg0 : w.heap.size = g at *
  have HG := hide hg0
  clear hg0
  go_wp2_with fail
  refine H1.out.mono ?_
  rintro e w1 ⟨rfl, b1⟩
  have t1 := Turns.of_below b1 (fun _ => False)
  have HT := hide (HT.out.quiet t1)
  have HR1 := hide (t1.heap HR.out (fun x => x))
  have T1 := hide (T0.out.trans t1)
  clear b1 t1 H1 T0 HR
  obtain ⟨La, Ha, Lc, Hc, hb, hE, _⟩ := HT.out
  have r0 : w1.cell? ⟨r, 0, none⟩ = some (.slice La l.length Lc) := cell_of_row w1 r 0 _ 49 (0, 0) hb
  have f0 := frozen_of_row w1 g 0 _ 29 HR1.out
  have f1 := frozen_of_row w1 g 1 _ 29 HR1.out
  have f2 := frozen_of_row w1 g 2 _ 29 HR1.out
  have f3 := frozen_of_row w1 g 3 _ 29 HR1.out
  have q0 := cell_of_row w1 g 0 _ 29 (0, 0) HR1.out
  have q1 := cell_of_row w1 g 1 _ 29 (0, 0) HR1.out
  have q2 := cell_of_row w1 g 2 _ 29 (0, 0) HR1.out
  have q3 := cell_of_row w1 g 3 _ 29 (0, 0) HR1.out
  clear hb
  cases hx : l[i]? with
  | none =>
    have hil : i = l.length := by have := List.getElem?_eq_none_iff.1 hx; omega
    have HX := hide hx
    have i1 : (i : Int) = (l.length : Nat) := by omega
    have HI := hide i1
    have i2 : ((i : Int) == (l.length : Nat)) = true := beq_iff_eq.2 (by omega)
    clear hx hil i1 hE
    go_wp2_with fail
    have k3 := (((((Tick.refl HR1.out).set 0 (.slice none 0 0)).set 1 (.int .u64 0)).set 2 (.int .i64 0)).set 3 (.slice none 0 0))
    refine bodyPost_ret (v := .tuple #[.agg #[.slice none 0 0, .int .u64 0, .int .i64 0, .slice none 0 0], .bool false]) ?_ rfl ?_
    · exact results_cell_tmp Try.results20 _ _ _ _ _ _ _ _ rfl rfl k3.1 Try.underlying29 rfl info29
    · refine ⟨by rw [HX.out]; rfl, ?_⟩
      exact (T1.out.andThen (Turns.of_tick k3) (fun k hk e => by have := HG.out; omega)).below (by have := HG.out; omega) (fun _ x => x.elim)
  | some y =>
    have hil := (List.getElem?_eq_some_iff.1 hx).1
    have HX := hide hx
    obtain ⟨⟨b, off, rfl, hc⟩, k1, k2⟩ := hE i y hx
    obtain ⟨yb, ya, yc, yva, yvc, ye, yh⟩ := y
    have c0 : w1.cell? ⟨b, off + i * 4, none⟩ = some (.slice ya ye.key.length yc) := hc 0 _ rfl
    have c1 : w1.cell? ⟨b, off + i * 4 + 1, none⟩ = some (.int .u64 (ye.seq : Nat)) := hc 1 _ rfl
    have c2 : w1.cell? ⟨b, off + i * 4 + 2, none⟩ = some (.int .i64 ye.kind) := hc 2 _ rfl
    have c3 : w1.cell? ⟨b, off + i * 4 + 3, none⟩ = some (.slice yva ye.val.length yvc) := hc 3 _ rfl
    have i0 : (0 : Int) ≤ (i : Int) := by omega
    have i1 : (i : Int) < (l.length : Nat) := by omega
    have i2 : ((i : Int) == (l.length : Nat)) = false := by simp; omega
    clear hx hil hc k1 k2 hE
    go_wp2_with fail
    have k3 := (((((Tick.refl HR1.out).set 0 (.slice ya ye.key.length yc)).set 1 (.int .u64 (ye.seq : Nat))).set 2 (.int .i64 ye.kind)).set 3 (.slice yva ye.val.length yvc))
    refine bodyPost_ret (v := .tuple #[.agg #[.slice ya ye.key.length yc, .int .u64 (ye.seq : Nat), .int .i64 ye.kind, .slice yva ye.val.length yvc], .bool true]) ?_ rfl ?_
    · exact results_cell_tmp Try.results20 _ _ _ _ _ _ _ _ rfl rfl k3.1 Try.underlying29 rfl info29
    · refine ⟨by rw [HX.out]; rfl, ?_⟩
      exact (T1.out.andThen (Turns.of_tick k3) (fun k hk e => by have := HG.out; omega)).below (by have := HG.out; omega) (fun _ x => x.elim)
end Go.Proofs.Ytkeglaplckfllaa
