import Derived.Test.YtpgligfolecieaaM07
import Derived.Test.YtpgligfolecieaaM04
import Derived.Deep.Light
import Derived.Deep.RegionHeld
/-
  The document's order of entries, and which may be.
-/
namespace Go.Proofs.Ytpgligfolecieaa
open Go.RowKit
set_option maxRecDepth 100000
set_option maxHeartbeats 4000000
theorem cmpB_cons (a b : BitVec 8) (l r : List (BitVec 8)) : cmpB (a :: l) (b :: r) = if a.toNat < b.toNat then -1 else if b.toNat < a.toNat then 1 else cmpB l r := by
  have h : ∀ x y : BitVec 8, (UInt8.ofNat ((x.toNat : Int)).toNat < UInt8.ofNat ((y.toNat : Int)).toNat) ↔ x.toNat < y.toNat := fun x y => by
    have h1 := x.isLt
    have h2 := y.isLt
    rw [UInt8.lt_iff_toNat_lt]
    simp only [Int.toNat_natCast, UInt8.toNat_ofNat']
    omega
  show Lib.compareBytes (u8s (a :: l)) (u8s (b :: r)) = _
  have hu : ∀ (x : BitVec 8) (t : List (BitVec 8)), u8s (x :: t) = UInt8.ofNat ((x.toNat : Int)).toNat :: u8s t := fun x t => rfl
  rw [hu, hu, Lib.compareBytes]
  by_cases h1 : a.toNat < b.toNat
  · rw [if_pos h1, if_pos ((h a b).2 h1)]
  · rw [if_neg h1, if_neg (fun q => h1 ((h a b).1 q))]
    by_cases h2 : b.toNat < a.toNat
    · rw [if_pos h2, if_pos ((h b a).2 h2)]
    · rw [if_neg h2, if_neg (fun q => h2 ((h b a).1 q))]
      rfl
theorem cmpB_at : ∀ (k : Nat) (x y : List (BitVec 8)) (h1 : k < x.length) (h2 : k < y.length), x.take k = y.take k → x[k] ≠ y[k] → (cmpB x y < 0 ↔ x[k].toNat < y[k].toNat)
  | 0, a :: l, b :: r, _, _, _, hne => by
    have hne' : a.toNat ≠ b.toNat := fun q => hne (BitVec.eq_of_toNat_eq q)
    rw [cmpB_cons]
    simp only [List.getElem_cons_zero]
    split
    · simp_all
    · split
      · simp_all
      · omega
  | k + 1, a :: l, b :: r, h1, h2, ht, hne => by
    simp only [List.take_succ_cons, List.cons.injEq] at ht
    have := cmpB_at k l r (by simpa using h1) (by simpa using h2) ht.2 (by simpa using hne)
    rw [cmpB_cons, ht.1, if_neg (Nat.lt_irrefl _), if_neg (Nat.lt_irrefl _)]
    simpa using this
theorem cmpB_end : ∀ (k : Nat) (x y : List (BitVec 8)), x.take k = y.take k → (k = x.length ∧ k ≤ y.length ∨ k = y.length ∧ k ≤ x.length) → (cmpB x y < 0 ↔ x.length < y.length)
  | 0, [], [], _, _ => by decide
  | 0, [], b :: r, _, _ => by
    have : cmpB [] (b :: r) = -1 := rfl
    rw [this]; simp
  | 0, a :: l, [], _, _ => by
    have : cmpB (a :: l) [] = 1 := rfl
    rw [this]; simp
  | 0, a :: l, b :: r, _, h => by simp at h
  | k + 1, [], y, _, h => by
    rcases h with ⟨h, _⟩ | ⟨_, h⟩ <;> simp at h
  | k + 1, a :: l, [], _, h => by
    rcases h with ⟨_, h⟩ | ⟨h, _⟩ <;> simp at h
  | k + 1, a :: l, b :: r, ht, h => by
    simp only [List.take_succ_cons, List.cons.injEq] at ht
    have := cmpB_end k l r ht.2 (by simpa using h)
    rw [cmpB_cons, ht.1, if_neg (Nat.lt_irrefl _), if_neg (Nat.lt_irrefl _)]
    simpa using this
theorem rbefore_any (a a' : Option Addr) (n n' c c' : Nat) (x y : List (BitVec 8)) (w : World) (h : Bytes w (.slice a n c) x) (h' : Bytes w (.slice a' n' c') y) (hn : n ≤ 1000000000) (hn' : n' ≤ 1000000000) :
    Calls Try.prog 62 #[.slice a n c, .slice a' n' c'] w fun e w' => e = .returned (.bool (decide (cmpB x y < 0))) ∧ ∃ m, w' = w.drewN m := by
  have hl := h.len
  have hl' := h'.len
  have H := hide h
  have H' := hide h'
  have HL := hide hl
  have HL' := hide hl'
  clear h h' hl hl'
  go_enter Try.func62, Try.ntmps62
  go_wp2_with fail
  go_loopw [5] (fun i wr => ∃ k : Nat, i = .int .i64 (k : Nat) ∧ k ≤ n ∧ k ≤ n' ∧ x.take k = y.take k ∧ ∃ m, wr = w.drewN m) (fun i _ => n - (intOf i).toNat)
  case atStart => exact ⟨0, rfl, Nat.zero_le _, Nat.zero_le _, rfl, 0, rfl⟩
  case round =>
    obtain ⟨k, rfl, hk, hk', htk, m, rfl⟩ := hrel
    have HTK := hide htk
    clear htk
    by_cases hkn : k < n ∧ k < n'
    · obtain ⟨hk1, hk2⟩ := hkn
      obtain ⟨b, off, rfl⟩ := H.out.addr (by omega)
      obtain ⟨b', off', rfl⟩ := H'.out.addr (by omega)
      have hkx : k < x.length := by have := HL.out; omega
      have hky : k < y.length := by have := HL'.out; omega
      have h1 := H.out.at k hkx
      have h2 := H'.out.at k hky
      have e1 : x.getD k 0 = x[k] := by simp [List.getD, hkx]
      have e2 : y.getD k 0 = y[k] := by simp [List.getD, hky]
      rw [e1] at h1
      rw [e2] at h2
      have i1 : (k : Int) < (n : Int) := by omega
      have i2 : (k : Int) < (n' : Int) := by omega
      have i0 : (0 : Int) ≤ (k : Int) := by omega
      clear e1 e2
      by_cases hxy : x[k] = y[k]
      · have HT2 := hide (take_eq_succ hkx hky HTK.out hxy)
        rw [← hxy] at h2
        generalize x[k].toNat = q at *
        clear hxy
        go_wp2_with fail
        go_quiet (fail)
        go_wp2
        go_roundw
        case rel => exact ⟨k + 1, by go_num, by omega, by omega, HT2.out, _, rfl⟩
        case measure => simp [intOf]; omega
      · have hne : x[k].toNat ≠ y[k].toNat := fun e => hxy (BitVec.eq_of_toNat_eq e)
        have HC := hide (show decide (cmpB x y < 0) = decide (x[k].toNat < y[k].toNat) from decide_eq_decide.2 (cmpB_at k x y hkx hky HTK.out hxy))
        generalize x[k].toNat = q at *
        generalize y[k].toNat = q' at *
        have hne' : ¬ (q : Int) = (q' : Int) := by omega
        clear hxy hne
        go_wp2_with fail
        go_quiet (fail)
        go_wp2_with fail
        go_quiet (fail)
        go_wp2_with fail
        go_ret
        go_light
        refine ⟨congrArg Ending.returned (congrArg Value.bool HC.out.symm), ?_⟩
        first | exact ⟨_, rfl⟩ | (rw [World.drewN_drewN]; exact ⟨_, rfl⟩) | (rw [World.drewN_drewN, World.drewN_drewN]; exact ⟨_, rfl⟩)
    · have HC := hide (show decide (cmpB x y < 0) = decide (x.length < y.length) from decide_eq_decide.2 (cmpB_end k x y HTK.out (by go_light; have := HL.out; have := HL'.out; omega)))
      have hor : ¬ ((k : Int) < (n : Int) ∧ (k : Int) < (n' : Int)) := by omega
      have HD := hide (show decide (n < n') = decide (x.length < y.length) by rw [HL.out, HL'.out])
      by_cases h1 : (k : Int) < (n : Int)
      · have h2 : ¬ (k : Int) < (n' : Int) := fun q => hor ⟨h1, q⟩
        clear hkn hor
        go_wp2_with fail
        go_ret
        go_light
        exact ⟨congrArg Ending.returned (congrArg Value.bool (HD.out.trans HC.out.symm)), m, rfl⟩
      · clear hkn hor
        go_wp2_with fail
        go_ret
        go_light
        exact ⟨congrArg Ending.returned (congrArg Value.bool (HD.out.trans HC.out.symm)), m, rfl⟩
end Go.Proofs.Ytpgligfolecieaa

/-
  The document's Compare and CheckEntry.
-/
namespace Go.Proofs.Ytpgligfolecieaa
open Go.RowKit
set_option maxRecDepth 100000
set_option maxHeartbeats 4000000
theorem rcompare_any (ka kb va vb : Option Addr) (kn kc vn vc kn' kc' vn' vc' : Nat) (kx ky : Int) (sx sy : Nat) (x y : List (BitVec 8)) (w : World) (h : Bytes w (.slice ka kn kc) x) (h' : Bytes w (.slice kb kn' kc') y) (hn : kn ≤ 1000000000) (hn' : kn' ≤ 1000000000) :
    Calls Try.prog 44 #[.agg #[.slice ka kn kc, .int .u64 sx, .int .i64 kx, .slice va vn vc], .agg #[.slice kb kn' kc', .int .u64 sy, .int .i64 ky, .slice vb vn' vc']] w fun e w' => e = .returned (.int .i64 (cmpE (x, sx) (y, sy))) ∧ Below w.heap.size w w' := by
  have b0 := (Below.refl w.heap.size w).alloc (Nat.le_refl _) (.cells #[.slice ka kn kc, .int .u64 sx, .int .i64 kx, .slice va vn vc] 29)
  have b1 := b0.alloc b0.size (.cells #[.slice kb kn' kc', .int .u64 sy, .int .i64 ky, .slice vb vn' vc'] 29)
  have n0' := heap_keep ((Below.refl _ (w.alloc (.cells #[.slice ka kn kc, .int .u64 sx, .int .i64 kx, .slice va vn vc] 29))).alloc (Nat.le_refl _) (.cells #[.slice kb kn' kc', .int .u64 sy, .int .i64 ky, .slice vb vn' vc'] 29)) (heap_alloc_new w (.cells #[.slice ka kn kc, .int .u64 sx, .int .i64 kx, .slice va vn vc] 29))
  have n1 := heap_alloc_new (w.alloc (.cells #[.slice ka kn kc, .int .u64 sx, .int .i64 kx, .slice va vn vc] 29)) (.cells #[.slice kb kn' kc', .int .u64 sy, .int .i64 ky, .slice vb vn' vc'] 29)
  rw [World.size_alloc] at n1
  have B1 := hide b1
  have K := hide (h.below b1)
  have K' := hide (h'.below b1)
  have N0 := hide n0'
  have N1 := hide n1
  have hval : cmpE (x, sx) (y, sy) = if cmpB x y < 0 then -1 else if cmpB y x < 0 then 1 else if sy < sx then -1 else if sx < sy then 1 else 0 := by
    unfold cmpE
    have h1 := cmpB_vals x y
    have h2 := cmpB_swap x y
    simp only
    repeat' split
    all_goals omega
  have HV := hide hval
  clear b0 b1 n0' n1 h h' hval
  go_enter Try.func44, Try.ntmps44
  go_wp2_with fail
  generalize (w.alloc (.cells #[.slice ka kn kc, .int .u64 sx, .int .i64 kx, .slice va vn vc] 29)).alloc (.cells #[.slice kb kn' kc', .int .u64 sy, .int .i64 ky, .slice vb vn' vc'] 29) = w0 at *
  generalize hG : w.heap.size = G at *
  have HG := hide hG
  clear hG
  refine (rbefore_any ka kb kn kn' kc kc' x y w0 K.out K'.out hn hn').mono ?_
  rintro e w1 ⟨rfl, m1, rfl⟩
  have c0 : (w0.drewN m1).cell? ⟨G, 0, none⟩ = some (.slice ka kn kc) := cell_of_row w0 G 0 _ 29 (0, 0) N0.out
  have c1 : (w0.drewN m1).cell? ⟨G, 1, none⟩ = some (.int .u64 sx) := cell_of_row w0 G 1 _ 29 (0, 0) N0.out
  have d0 : (w0.drewN m1).cell? ⟨G + 1, 0, none⟩ = some (.slice kb kn' kc') := cell_of_row w0 (G + 1) 0 _ 29 (0, 0) N1.out
  have d1 : (w0.drewN m1).cell? ⟨G + 1, 1, none⟩ = some (.int .u64 sy) := cell_of_row w0 (G + 1) 1 _ 29 (0, 0) N1.out
  have BB := hide (belowN B1.out m1)
  have K2 := hide (K.out.drewN m1)
  have K2' := hide (K'.out.drewN m1)
  generalize w0.drewN m1 = w2 at *
  by_cases h1 : cmpB x y < 0
  · rw [decide_eq_true h1]
    go_wp2_with fail
    go_ret
    go_light
    exact ⟨by rw [HV.out, if_pos (by omega)]; rfl, by rw [HG.out]; exact BB.out⟩
  · rw [decide_eq_false h1]
    go_wp2_with fail
    refine (rbefore_any kb ka kn' kn kc' kc y x w2 K2'.out K2.out hn' hn).mono ?_
    rintro e w3 ⟨rfl, m3, rfl⟩
    have c1' : (w2.drewN m3).cell? ⟨G, 1, none⟩ = some (.int .u64 sx) := c1
    have d1' : (w2.drewN m3).cell? ⟨G + 1, 1, none⟩ = some (.int .u64 sy) := d1
    have BB3 := hide (belowN BB.out m3)
    generalize w2.drewN m3 = w3 at *
    clear c0 c1 d0 d1
    by_cases h2 : cmpB y x < 0
    · rw [decide_eq_true h2]
      go_wp2_with fail
      go_ret
      go_light
      exact ⟨by rw [HV.out, if_neg (by omega), if_pos (by omega)]; rfl, by rw [HG.out]; exact BB3.out⟩
    · rw [decide_eq_false h2]
      by_cases h3 : sy < sx
      · have h3' : (sy : Int) < (sx : Int) := by omega
        go_wp2_with fail
        go_ret
        go_light
        exact ⟨by rw [HV.out, if_neg (by omega), if_neg (by omega), if_pos (by omega)]; rfl, by rw [HG.out]; exact BB3.out⟩
      · have h3' : ¬ (sy : Int) < (sx : Int) := by omega
        by_cases h4 : sx < sy
        · have h4' : (sx : Int) < (sy : Int) := by omega
          go_wp2_with fail
          go_ret
          go_light
          exact ⟨by rw [HV.out, if_neg (by omega), if_neg (by omega), if_neg (by omega), if_pos (by omega)]; rfl, by rw [HG.out]; exact BB3.out⟩
        · have h4' : ¬ (sx : Int) < (sy : Int) := by omega
          go_wp2_with fail
          go_ret
          go_light
          exact ⟨by rw [HV.out, if_neg (by omega), if_neg (by omega), if_neg (by omega), if_neg (by omega)]; rfl, by rw [HG.out]; exact BB3.out⟩
end Go.Proofs.Ytpgligfolecieaa

/-
  The document's Row: are entries in order?
-/
namespace Go.Proofs.Ytpgligfolecieaa
open Go.RowKit
set_option maxRecDepth 100000
set_option maxHeartbeats 4000000
theorem rrow_any (a : Option Addr) (n c : Nat) (l : List Tow) (w : World) (h : Ents w a l) (hn : n = l.length) (hmx : n ≤ 1000000) (hkb : ∀ x, x ∈ l → x.e.key.length ≤ 1000000) :
    Calls Try.prog 23 #[.slice a n c] w fun e w' => e = .returned (.bool (inOrd (ents l))) ∧ Below w.heap.size w w' := by
  have HL := hide hn
  have HA := hide h
  have HKB := hide hkb
  generalize hB : w.heap.size = B
  have HB := hide hB
  clear hn h hB hkb
  go_enter Try.func23, Try.ntmps23
  go_wp2_with fail
  go_loopw [3] (fun iv wr => ∃ k : Nat, iv = .int .i64 (k : Nat) ∧ 1 ≤ k ∧ k ≤ n + 1 ∧ (∀ j x y, j + 1 < k → (ents l)[j]? = some x → (ents l)[j + 1]? = some y → cmpE x.en y.en < 0) ∧ Below B w wr) (fun iv _ => n + 1 - (intOf iv).toNat)
  case atStart => exact ⟨1, rfl, by omega, by omega, fun j x y h => by omega, Below.refl _ _⟩
  case round =>
    obtain ⟨k, rfl, hk1, hk, hord, hbw⟩ := hrel
    have BW := hide hbw
    have HO := hide hord
    clear hord
    by_cases hk2 : k < n
    · obtain ⟨p, rfl⟩ : ∃ p, k = p + 1 := ⟨k - 1, by omega⟩
      have i1 : (p : Int) + 1 < n := by omega
      have i0 : (0 : Int) ≤ (p : Int) + 1 := by omega
      have i2 : (0 : Int) ≤ (p : Int) := by omega
      have i3 : (p : Int) < n := by omega
      have i4 : IntKind.i64.wrap (p : Int) = (p : Int) := wrapI _ (by omega) (by omega)
      have hkl : p + 1 < l.length := by have := HL.out; omega
      have hpl : p < l.length := by omega
      have tt := Turns.of_below (show Below w.heap.size w wr by rw [HB.out]; exact hbw) (fun _ => False)
      obtain ⟨⟨b, off, rfl, hc⟩, k1, k2⟩ := (HA.out.quiet tt) p l[p] (List.getElem?_eq_getElem hpl)
      obtain ⟨⟨b', off', e', hc'⟩, k3, k4⟩ := (HA.out.quiet tt) (p + 1) l[p + 1] (List.getElem?_eq_getElem hkl)
      cases e'
      have HE1 := hide (ents_at hpl)
      have HE2 := hide (ents_at hkl)
      have hsz : B ≤ wr.heap.size := by have := tt.size; have := HB.out; omega
      have kb1 := HKB.out l[p] (List.getElem_mem hpl)
      have kb2 := HKB.out l[p + 1] (List.getElem_mem hkl)
      generalize l[p] = x at *
      generalize l[p + 1] = x' at *
      obtain ⟨ka, kc, va, vc, e⟩ := x
      obtain ⟨ka', kc', va', vc', e'⟩ := x'
      have c0 : wr.cell? ⟨b, off + p * 4, none⟩ = some (.slice ka e.key.length kc) := hc 0 _ rfl
      have c1 : wr.cell? ⟨b, off + p * 4 + 1, none⟩ = some (.int .u64 (e.seq : Nat)) := hc 1 _ rfl
      have c2 : wr.cell? ⟨b, off + p * 4 + 2, none⟩ = some (.int .i64 e.kind) := hc 2 _ rfl
      have c3 : wr.cell? ⟨b, off + p * 4 + 3, none⟩ = some (.slice va e.val.length vc) := hc 3 _ rfl
      have d0 : wr.cell? ⟨b, off + (p + 1) * 4, none⟩ = some (.slice ka' e'.key.length kc') := hc' 0 _ rfl
      have d1 : wr.cell? ⟨b, off + (p + 1) * 4 + 1, none⟩ = some (.int .u64 (e'.seq : Nat)) := hc' 1 _ rfl
      have d2 : wr.cell? ⟨b, off + (p + 1) * 4 + 2, none⟩ = some (.int .i64 e'.kind) := hc' 2 _ rfl
      have d3 : wr.cell? ⟨b, off + (p + 1) * 4 + 3, none⟩ = some (.slice va' e'.val.length vc') := hc' 3 _ rfl
      have t0 : Turns (fun _ => False) wr wr.drew := (Turns.refl _ _).drew
      have HQ := hide (rcompare_any ka ka' va va' e.key.length kc e.val.length vc e'.key.length kc' e'.val.length vc' e.kind e'.kind e.seq e'.seq e.key e'.key wr.drew (Bytes.quiet k1 t0) (Bytes.quiet k3 t0) (show e.key.length ≤ 1000000000 from Nat.le_trans kb1 (by decide)) (show e'.key.length ≤ 1000000000 from Nat.le_trans kb2 (by decide)))
      clear hc hc' k1 k2 k3 k4 tt hbw t0
      have ep : ((p + 1 : Nat) : Int) - 1 = (p : Int) := by omega
      generalize hcv : cmpE (e.key, e.seq) (e'.key, e'.seq) = cv at *
      have HCV := hide hcv
      clear hcv
      go_wp2_with fail
      go_region_held (fun w' => (w'.cell? ⟨b, off + p * 4, none⟩ = some (.slice ka e.key.length kc) ∧ w'.cell? ⟨b, off + p * 4 + 1, none⟩ = some (.int .u64 (e.seq : Nat)) ∧ w'.cell? ⟨b, off + p * 4 + 2, none⟩ = some (.int .i64 e.kind) ∧ w'.cell? ⟨b, off + p * 4 + 3, none⟩ = some (.slice va e.val.length vc)) ∧ w'.cell? ⟨b, off + (p + 1) * 4, none⟩ = some (.slice ka' e'.key.length kc') ∧ w'.cell? ⟨b, off + (p + 1) * 4 + 1, none⟩ = some (.int .u64 (e'.seq : Nat)) ∧ w'.cell? ⟨b, off + (p + 1) * 4 + 2, none⟩ = some (.int .i64 e'.kind) ∧ w'.cell? ⟨b, off + (p + 1) * 4 + 3, none⟩ = some (.slice va' e'.val.length vc')) (first | (with_reducible exact ⟨⟨f0, f1, f2, f3⟩, g0, g1, g2, g3⟩) | (simp only [World.cell?_drew]; with_reducible exact ⟨⟨c0, c1, c2, c3⟩, d0, d1, d2, d3⟩)) (first
        | (go_at_call 44; refine HQ.out.mono ?_; rintro x w2 ⟨rfl, b2⟩; have t2 := (Turns.refl (fun _ => False) wr).drew.trans (Turns.of_below b2 (fun _ => False)); have f0 := t2.cell c0 (fun x => x); have f1 := t2.cell c1 (fun x => x); have f2 := t2.cell c2 (fun x => x); have f3 := t2.cell c3 (fun x => x); have g0 := t2.cell d0 (fun x => x); have g1 := t2.cell d1 (fun x => x); have g2 := t2.cell d2 (fun x => x); have g3 := t2.cell d3 (fun x => x); have T2 := hide t2; clear t2 b2))
      clear f0 f1 f2 f3 g0 g1 g2 g3
      by_cases hlt : cv < 0
      · have hlt' : ¬ (0 : Int) ≤ cv := by omega
        go_wp2_with fail
        go_roundw
        case rel =>
          refine ⟨p + 2, by go_num, by omega, by omega, fun j x y hj hx hy => ?_, BW.out.trans (T2.out.below hsz (fun _ h => h.elim))⟩
          by_cases hjp : j = p
          · subst hjp
            have e1 : e = x := by have := HE1.out; rw [hx] at this; exact (Option.some.inj this).symm
            have e2 : e' = y := by have := HE2.out; rw [hy] at this; exact (Option.some.inj this).symm
            subst e1 e2
            show cmpE (e.key, e.seq) (e'.key, e'.seq) < 0
            rw [HCV.out]; exact hlt
          · exact HO.out j x y (by omega) hx hy
        case measure => simp [intOf]; omega
      · have hlt' : (0 : Int) ≤ cv := by omega
        go_wp2_with fail
        go_ret
        refine ⟨congrArg Ending.returned (congrArg Value.bool (Eq.symm ?_)), BW.out.trans (T2.out.below hsz (fun _ h => h.elim))⟩
        refine Bool.eq_false_iff.2 fun q => ?_
        have := (inOrd_iff _).1 q p e e' HE1.out HE2.out
        have h9 := HCV.out
        unfold Ent.en at this
        omega
    · have i1 : ¬ (k : Int) < n := by omega
      go_wp2_with fail
      go_ret
      refine ⟨congrArg Ending.returned (congrArg Value.bool (Eq.symm ?_)), BW.out⟩
      refine (inOrd_iff _).2 fun j x y hx hy => HO.out j x y ?_ hx hy
      have := (List.getElem?_eq_some_iff.1 hy).1
      have h9 := HL.out
      simp only [ents, List.length_map] at this
      omega
end Go.Proofs.Ytpgligfolecieaa

/-
  What the laws share: Pick, Own.
-/
namespace Go.Proofs.Ytpgligfolecieaa
open Go.RowKit
set_option maxRecDepth 100000
set_option maxHeartbeats 4000000
theorem own_any (a : Option Addr) (n c : Nat) (bs : List (BitVec 8)) (w : World) (h : Bytes w (.slice a n c) bs) (hn : n ≤ 1000000) :
    Calls Try.prog 40 #[.slice a n c] w fun e w' => ∃ g c', e = .returned (.slice (some ⟨g, 0, none⟩) n c') ∧ w.heap.size ≤ g ∧ n ≤ c' ∧ RowB w' g c' bs ∧ Below w.heap.size w w' := by
  have hl := h.len
  have hb : Below w.heap.size w (w.alloc (.cells #[] 5)) := (Below.refl _ _).alloc (Nat.le_refl _) _
  obtain ⟨g, c2, w2, hr, hg, hrow, hb2, hc, _⟩ := append_bytes2 (w.alloc (.cells #[] 5)) w.heap.size (some ⟨w.heap.size, 0, none⟩) 0 0 [] rfl (.slice a n c) bs n hl (h.below hb) (by simp)
    (.inr ⟨_, rfl, Nat.le_refl _, Nat.le_refl _, #[], heap_alloc_new w _, Nat.le_refl _, fun k hk => by simp [cellsOf] at hk⟩) (by omega)
  rw [Nat.zero_add] at hr hc
  rw [List.nil_append] at hrow
  have HR := hide hr
  have HW := hide hrow
  have HB := hide (hb.trans hb2)
  clear hr hrow hb hb2 h hl
  go_enter Try.func40, Try.ntmps40
  go_wp2_with (at_builtin; refine wpList_append_run rfl _ _ 26 rfl (.slice (some ⟨w.heap.size, 0, none⟩) 0 0) (.slice a n c) rfl rfl _ _ (HR.out _) ?_)
  go_ret
  exact ⟨g, c2, rfl, hg, hc, HW.out, HB.out⟩
end Go.Proofs.Ytpgligfolecieaa

/-
  Are two entries the same?
-/
namespace Go.Proofs.Ytpgligfolecieaa
open Go.RowKit
set_option maxRecDepth 100000
set_option maxHeartbeats 4000000
theorem entryEq_any (ka va ka' va' : Option Addr) (kn kc vn vc kn' kc' vn' vc' s s' : Nat) (k k' : Int) (key val key' val' : List (BitVec 8)) (w : World) (h1 : Bytes w (.slice ka kn kc) key) (h2 : Bytes w (.slice va vn vc) val) (h3 : Bytes w (.slice ka' kn' kc') key') (h4 : Bytes w (.slice va' vn' vc') val') (hk : kn ≤ 1000000) (hv : vn ≤ 1000000) :
    Calls Try.prog 43 #[.agg #[.slice ka kn kc, .int .u64 (s : Nat), .int .i64 k, .slice va vn vc], .agg #[.slice ka' kn' kc', .int .u64 (s' : Nat), .int .i64 k', .slice va' vn' vc']] w fun e w' => e = .returned (.bool (decide (s = s' ∧ k = k' ∧ key = key' ∧ val = val'))) ∧ Below w.heap.size w w' := by
  have t0 : Turns (fun _ => False) w ((w.alloc (.cells #[.slice ka kn kc, .int .u64 (s : Nat), .int .i64 k, .slice va vn vc] 29)).alloc (.cells #[.slice ka' kn' kc', .int .u64 (s' : Nat), .int .i64 k', .slice va' vn' vc'] 29)) := ((Turns.refl _ w).alloc _).alloc _
  have HB := hide (t0.below (B := w.heap.size) (Nat.le_refl _) (fun _ x => x.elim))
  have H1 := hide (h1.quiet t0)
  have H2 := hide (h2.quiet t0)
  have H3 := hide (h3.quiet t0)
  have H4 := hide (h4.quiet t0)
  have r0 := heap_keep ((Below.refl _ (w.alloc (.cells #[.slice ka kn kc, .int .u64 (s : Nat), .int .i64 k, .slice va vn vc] 29))).alloc (Nat.le_refl _) (.cells #[.slice ka' kn' kc', .int .u64 (s' : Nat), .int .i64 k', .slice va' vn' vc'] 29)) (heap_alloc_new w (.cells #[.slice ka kn kc, .int .u64 (s : Nat), .int .i64 k, .slice va vn vc] 29))
  have r1 := heap_alloc_new (w.alloc (.cells #[.slice ka kn kc, .int .u64 (s : Nat), .int .i64 k, .slice va vn vc] 29)) (.cells #[.slice ka' kn' kc', .int .u64 (s' : Nat), .int .i64 k', .slice va' vn' vc'] 29)
  rw [show (w.alloc (.cells #[.slice ka kn kc, .int .u64 (s : Nat), .int .i64 k, .slice va vn vc] 29)).heap.size = w.heap.size + 1 by simp] at r1
  have R0 := hide r0
  have R1 := hide r1
  clear h1 h2 h3 h4 t0 r0 r1
  go_enter Try.func43, Try.ntmps43
  go_upto_region 1 with (fail)
  generalize (w.alloc (.cells #[.slice ka kn kc, .int .u64 (s : Nat), .int .i64 k, .slice va vn vc] 29)).alloc (.cells #[.slice ka' kn' kc', .int .u64 (s' : Nat), .int .i64 k', .slice va' vn' vc'] 29) = w0 at *
  generalize hg0 : w.heap.size = g at *
  have HG := hide hg0
  clear hg0
  have a0 : w0.cell? ⟨g, 0, none⟩ = some (.slice ka kn kc) := cell_of_row w0 (g) 0 _ 29 (0, 0) R0.out
  have a1 : w0.cell? ⟨g, 1, none⟩ = some (.int .u64 (s : Nat)) := cell_of_row w0 (g) 1 _ 29 (0, 0) R0.out
  have a2 : w0.cell? ⟨g, 2, none⟩ = some (.int .i64 k) := cell_of_row w0 (g) 2 _ 29 (0, 0) R0.out
  have a3 : w0.cell? ⟨g, 3, none⟩ = some (.slice va vn vc) := cell_of_row w0 (g) 3 _ 29 (0, 0) R0.out
  have b0 : w0.cell? ⟨g + 1, 0, none⟩ = some (.slice ka' kn' kc') := cell_of_row w0 (g + 1) 0 _ 29 (0, 0) R1.out
  have b1 : w0.cell? ⟨g + 1, 1, none⟩ = some (.int .u64 (s' : Nat)) := cell_of_row w0 (g + 1) 1 _ 29 (0, 0) R1.out
  have b2 : w0.cell? ⟨g + 1, 2, none⟩ = some (.int .i64 k') := cell_of_row w0 (g + 1) 2 _ 29 (0, 0) R1.out
  have b3 : w0.cell? ⟨g + 1, 3, none⟩ = some (.slice va' vn' vc') := cell_of_row w0 (g + 1) 3 _ 29 (0, 0) R1.out
  by_cases e1 : s = s'
  · subst e1
    by_cases e2 : k = k'
    · subst e2
      go_wp2_with fail
      refine (bytes_any ka ka' kn kn' kc kc' key key' w0 H1.out H3.out (by omega)).mono ?_
      rintro e w1 ⟨rfl, m1, rfl⟩
      by_cases e3 : key = key'
      · rw [decide_eq_true e3]
        have HE3 := hide e3
        clear e3
        go_wp2_with fail
        refine (bytes_any va va' vn vn' vc vc' val val' _ (H2.out.drewN m1) (H4.out.drewN m1) (by omega)).mono ?_
        rintro e w2 ⟨rfl, m2, rfl⟩
        generalize hd : decide (val = val') = d
        have HD := hide hd
        clear hd
        go_wp2_with fail
        go_ret
        go_light
        refine ⟨congrArg Ending.returned (congrArg Value.bool ?_), by rw [HG.out]; first | exact belowN HB.out (m1 + m2) | exact belowN (belowN HB.out m1) m2⟩
        rw [← HD.out]
        have q := HE3.out
        simp [q]
      · rw [decide_eq_false e3]
        have HE3 := hide e3
        clear e3
        go_wp2_with fail
        go_ret
        go_light
        exact ⟨congrArg Ending.returned (congrArg Value.bool (by have q := HE3.out; simp [q])), by rw [HG.out]; exact belowN HB.out m1⟩
    · have e2' : (k == k') = false := by simpa using e2
      have HE2 := hide e2
      clear e2
      go_wp2_with fail
      go_ret
      go_light
      exact ⟨congrArg Ending.returned (congrArg Value.bool (by have q := HE2.out; simp [q])), by rw [HG.out]; exact HB.out⟩
  · have e1' : ¬ (s : Int) = (s' : Int) := by omega
    have HE1 := hide e1
    clear e1
    go_wp2_with fail
    go_ret
    go_light
    exact ⟨congrArg Ending.returned (congrArg Value.bool (by have q := HE1.out; simp [q])), by rw [HG.out]; exact HB.out⟩
end Go.Proofs.Ytpgligfolecieaa

/-
  Are two rows of entries the same?
-/
namespace Go.Proofs.Ytpgligfolecieaa
open Go.RowKit
set_option maxRecDepth 100000
set_option maxHeartbeats 4000000
theorem ent_eq {e e' : Ent} (h : e.seq = e'.seq ∧ e.kind = e'.kind ∧ e.key = e'.key ∧ e.val = e'.val) : e = e' := by
  obtain ⟨a, b, c, d⟩ := e
  obtain ⟨a', b', c', d'⟩ := e'
  simp only at h
  obtain ⟨rfl, rfl, rfl, rfl⟩ := h
  rfl
/-- A bool that says whether something holds. -/
def Says (e : Ending) (p : Prop) : Prop := ∃ d : Bool, e = .returned (.bool d) ∧ (d = true ↔ p)
theorem entriesEq_any (a a' : Option Addr) (n n' c c' : Nat) (l l' : List Tow) (w : World) (h : Ents w a l) (h' : Ents w a' l') (hn : n = l.length) (hn' : n' = l'.length) (hmx : n ≤ 1000000) (hb : ∀ x, x ∈ l → x.e.key.length ≤ 1000000 ∧ x.e.val.length ≤ 1000000) :
    Calls Try.prog 19 #[.slice a n c, .slice a' n' c'] w fun e w' => Says e (ents l = ents l') ∧ Below w.heap.size w w' := by
  have HL := hide hn
  have HL' := hide hn'
  have HA := hide h
  have HA' := hide h'
  have HBO := hide hb
  generalize hB : w.heap.size = B
  have HB := hide hB
  clear hn hn' h h' hb hB
  by_cases hnn : n = n'
  · subst hnn
    go_enter Try.func19, Try.ntmps19
    go_wp2_with fail
    go_loopw [5] (fun iv wr => ∃ k : Nat, iv = .int .i64 (k : Nat) ∧ k ≤ n ∧ (ents l).take k = (ents l').take k ∧ Below B w wr) (fun iv _ => n - (intOf iv).toNat)
    case atStart => exact ⟨0, rfl, by omega, rfl, Below.refl _ _⟩
    case round =>
      obtain ⟨k, rfl, hk, htk, hbw⟩ := hrel
      have BW := hide hbw
      have HTK := hide htk
      clear htk
      by_cases hk2 : k < n
      · have i1 : (k : Int) < n := by omega
        have i0 : (0 : Int) ≤ (k : Int) := by omega
        have hkl : k < l.length := by have := HL.out; omega
        have hkl' : k < l'.length := by have := HL'.out; omega
        have tt := Turns.of_below (show Below w.heap.size w wr by rw [HB.out]; exact hbw) (fun _ => False)
        obtain ⟨⟨b, off, rfl, hc⟩, k1, k2⟩ := (HA.out.quiet tt) k l[k] (List.getElem?_eq_getElem hkl)
        obtain ⟨⟨b', off', rfl, hc'⟩, k3, k4⟩ := (HA'.out.quiet tt) k l'[k] (List.getElem?_eq_getElem hkl')
        have HE1 := hide (ents_at hkl)
        have HE2 := hide (ents_at hkl')
        have hbo := HBO.out l[k] (List.getElem_mem hkl)
        have hsz : B ≤ wr.heap.size := by have := tt.size; have := HB.out; omega
        generalize l[k] = x at *
        generalize l'[k] = x' at *
        obtain ⟨ka, kc, va, vc, e⟩ := x
        obtain ⟨ka', kc', va', vc', e'⟩ := x'
        have c0 : wr.cell? ⟨b, off + k * 4, none⟩ = some (.slice ka e.key.length kc) := hc 0 _ rfl
        have c1 : wr.cell? ⟨b, off + k * 4 + 1, none⟩ = some (.int .u64 (e.seq : Nat)) := hc 1 _ rfl
        have c2 : wr.cell? ⟨b, off + k * 4 + 2, none⟩ = some (.int .i64 e.kind) := hc 2 _ rfl
        have c3 : wr.cell? ⟨b, off + k * 4 + 3, none⟩ = some (.slice va e.val.length vc) := hc 3 _ rfl
        have d0 : wr.cell? ⟨b', off' + k * 4, none⟩ = some (.slice ka' e'.key.length kc') := hc' 0 _ rfl
        have d1 : wr.cell? ⟨b', off' + k * 4 + 1, none⟩ = some (.int .u64 (e'.seq : Nat)) := hc' 1 _ rfl
        have d2 : wr.cell? ⟨b', off' + k * 4 + 2, none⟩ = some (.int .i64 e'.kind) := hc' 2 _ rfl
        have d3 : wr.cell? ⟨b', off' + k * 4 + 3, none⟩ = some (.slice va' e'.val.length vc') := hc' 3 _ rfl
        have t0 : Turns (fun _ => False) wr wr.drew := (Turns.refl _ _).drew
        have HQ := hide (entryEq_any ka va ka' va' e.key.length kc e.val.length vc e'.key.length kc' e'.val.length vc' e.seq e'.seq e.kind e'.kind e.key e.val e'.key e'.val wr.drew (Bytes.quiet k1 t0) (Bytes.quiet k2 t0) (Bytes.quiet k3 t0) (Bytes.quiet k4 t0) hbo.1 hbo.2)
        clear hc hc' k1 k2 k3 k4 tt hbw t0
        generalize hdv : decide (e.seq = e'.seq ∧ e.kind = e'.kind ∧ e.key = e'.key ∧ e.val = e'.val) = dv at *
        have HDV := hide hdv
        clear hdv
        go_wp2_with fail
        go_region_held (fun w' => (w'.cell? ⟨b, off + k * 4, none⟩ = some (.slice ka e.key.length kc) ∧ w'.cell? ⟨b, off + k * 4 + 1, none⟩ = some (.int .u64 (e.seq : Nat)) ∧ w'.cell? ⟨b, off + k * 4 + 2, none⟩ = some (.int .i64 e.kind) ∧ w'.cell? ⟨b, off + k * 4 + 3, none⟩ = some (.slice va e.val.length vc)) ∧ w'.cell? ⟨b', off' + k * 4, none⟩ = some (.slice ka' e'.key.length kc') ∧ w'.cell? ⟨b', off' + k * 4 + 1, none⟩ = some (.int .u64 (e'.seq : Nat)) ∧ w'.cell? ⟨b', off' + k * 4 + 2, none⟩ = some (.int .i64 e'.kind) ∧ w'.cell? ⟨b', off' + k * 4 + 3, none⟩ = some (.slice va' e'.val.length vc')) (first | (with_reducible exact ⟨⟨f0, f1, f2, f3⟩, g0, g1, g2, g3⟩) | (simp only [World.cell?_drew]; with_reducible exact ⟨⟨c0, c1, c2, c3⟩, d0, d1, d2, d3⟩)) (first
          | (go_at_call 43; refine HQ.out.mono ?_; rintro x w2 ⟨rfl, b2⟩; have t2 := (Turns.refl (fun _ => False) wr).drew.trans (Turns.of_below b2 (fun _ => False)); have f0 := t2.cell c0 (fun x => x); have f1 := t2.cell c1 (fun x => x); have f2 := t2.cell c2 (fun x => x); have f3 := t2.cell c3 (fun x => x); have g0 := t2.cell d0 (fun x => x); have g1 := t2.cell d1 (fun x => x); have g2 := t2.cell d2 (fun x => x); have g3 := t2.cell d3 (fun x => x); have T2 := hide t2; clear t2 b2))
        clear f0 f1 f2 f3 g0 g1 g2 g3
        cases dv
        · go_wp2_with fail
          go_ret
          go_light
          refine ⟨⟨false, rfl, ⟨(fun q => by cases q), fun q => ?_⟩⟩, BW.out.trans (T2.out.below hsz (fun _ h => h.elim))⟩
          have h1 := HE1.out
          rw [q, HE2.out] at h1
          obtain rfl : e' = e := Option.some.inj h1
          have := HDV.out
          simp at this
        · go_wp2_with fail
          go_roundw
          case rel =>
            go_light
            refine ⟨k + 1, by go_num, by omega, ?_, BW.out.trans (T2.out.below hsz (fun _ h => h.elim))⟩
            have hee : e = e' := ent_eq (of_decide_eq_true HDV.out)
            rw [List.take_add_one, List.take_add_one, HTK.out, HE1.out, HE2.out, hee]
          case measure => go_light; simp [intOf]; omega
      · have i1 : ¬ (k : Int) < n := by omega
        have hkn : k = n := by omega
        have HK := hide hkn
        clear hk hk2 hkn
        go_wp2_with fail
        go_ret
        go_light
        refine ⟨⟨true, rfl, ⟨fun _ => ?_, fun _ => rfl⟩⟩, BW.out⟩
        have h1 := HTK.out
        rwa [List.take_of_length_le (by rw [HK.out, HL.out]; simp [ents]), List.take_of_length_le (by rw [HK.out, HL'.out]; simp [ents])] at h1
  · have hnn' : ¬ (n : Int) = (n' : Int) := by omega
    have HNN := hide hnn
    clear hnn
    go_enter Try.func19, Try.ntmps19
    go_wp2_with fail
    go_ret
    go_light
    refine ⟨⟨false, rfl, ⟨(fun q => by cases q), fun q => ?_⟩⟩, by rw [← HB.out]; exact Below.refl _ _⟩
    have h1 := congrArg List.length q
    simp only [ents, List.length_map] at h1
    exact absurd (by rw [HL.out, HL'.out, h1]) HNN.out
end Go.Proofs.Ytpgligfolecieaa
