/-
  Entries that came in, opened, with what their keys have room for; BlockBack, walked.
-/
import Derived.Test.YtolaaodhnhdadaaOpE
import Derived.Test.YtolaaodhnhdadaaPP
import Derived.Deep.Light
namespace Go.Proofs.Ytolaaodhnhdadaa
open Go.ChangeShapes Go.WideShapes Go.ChangeAt Go.RowKit
set_option maxRecDepth 100000
theorem open_bytes_cap {H : Type} {enc : TypeId × Value → H} {W : World} {n : Nat} {v : Value} {x : DataW H × List MemPlace} (h : DataW.trod enc Try.prog W 0 (fun _ => true) true n 22 [v] = some x) (hw : ∀ n ∈ x.1.weights Try.prog 22, n ≤ reachBytes) :
    ∃ (a : Option Addr) (m c : Nat) (bs : List (BitVec 8)), v = .slice a m c ∧ Bytes W v bs ∧ m ≤ reachBytes ∧ m ≤ c := by
  rcases open_ints Try.underlying22 Try.underlying5 cells5 h with ⟨hv, _⟩ | ⟨a, len, cap, zs, hv, _, hlc, hcap, hlen, hx, hcell, hwf⟩
  · obtain rfl : v = .slice none 0 0 := by simpa using hv
    exact ⟨none, 0, 0, [], rfl, bytes_none1 W, by decide, Nat.le_refl _⟩
  · obtain rfl : v = .slice (some a) len cap := by simpa using hv
    have hz : zs.length = cap := by simpa using hlen
    subst hx
    have hw1 : ((lits .u8 (zs.take len) : List (DataW H)).length + (lits .u8 (zs.drop len) : List (DataW H)).length) * Try.prog.bytesOf 5 ≤ reachBytes := hw _ (by simp [DataW.weights, Try.underlying22])
    have hw2 : len ≤ reachBytes := by
      simp only [lits, List.length_map, List.length_take, List.length_drop, bytesOf5] at hw1
      omega
    refine ⟨some a, len, cap, (zs.take len).map fun z => BitVec.ofNat 8 z.toNat, rfl, ⟨some a, cap, by simp; omega, fun k hk => ?_⟩, hw2, hlc⟩
    have hkl : k < len := by simp at hk; omega
    obtain ⟨b, off, rfl, hc⟩ := ints_at hcell (by omega)
    refine ⟨b, off, rfl, ?_⟩
    rw [hc k (by omega)]
    have hk' : k < zs.length := by omega
    have hb := bounds_u8 (hwf zs[k] (List.getElem_mem hk'))
    congr 2
    simp [List.getD, hkl, hk']
    omega
theorem open_ents_cap {H : Type} {enc : TypeId × Value → H} {W : World} {fuel : Nat} {v : Value} {x : DataW H × List MemPlace} (h : DataW.trod enc Try.prog W 0 (fun _ => true) true fuel 30 [v] = some x) (hw : ∀ q ∈ x.1.weights Try.prog 30, q ≤ reachBytes) :
    ∃ (a : Option Addr) (m c : Nat) (l : List Tow), v = .slice a m c ∧ m = l.length ∧ Ents W a l ∧ m ≤ reachBytes ∧ ∀ f ∈ l, Fit f ∧ f.e.key.length ≤ f.kc := by
  rcases Go.Deep.open_slice Try.underlying30 h with ⟨hv, _⟩ | ⟨a, len, cap, m, n, D, Pl, hv, _, hlc, hcap, hm, hx, hcells⟩
  · obtain rfl : v = .slice none 0 0 := by simpa using hv
    exact ⟨none, 0, 0, [], rfl, rfl, fun k f hf => by simp at hf, by decide, fun f hf => by simp at hf⟩
  · obtain rfl : v = .slice (some a) len cap := by simpa using hv
    have hm' : m = cap := by simpa using hm
    subst hm'
    subst hx
    have hcw : len ≤ reachBytes := by
      have hw1 := hw _ (by simp only [DataW.weights, Try.underlying30]; exact List.mem_cons_self ..)
      simp only [List.length_map, List.length_range, bytesOf29] at hw1
      omega
    have each : ∀ i, i < len → ∃ f : Tow, (∀ j u, [f.kv, .int .u64 (f.e.seq : Nat), .int .i64 f.e.kind, f.vv][j]? = some u → W.cell? (a.add (i * 4 + j)) = some u) ∧ (Bytes W f.kv f.e.key ∧ Bytes W f.vv f.e.val) ∧ Fit f ∧ f.e.key.length ≤ f.kc := by
      intro i hi
      obtain ⟨cs', h1, h2⟩ := hcells i (by omega)
      rw [cells29] at h1
      obtain ⟨_, hlen, hcell⟩ := World.cells?_some h1
      obtain ⟨xs, k, _, hxy, _, hxl, hf⟩ := DataW.trod_struct Try.underlying28 h2
      match xs, hxl, cs', hlen with
      | [y0, y1, y2, y3], _, [v0, v1, v2, v3], _ =>
        have t0 : DataW.trod enc Try.prog W 0 (fun _ => true) true k 22 [v0] = some y0 := by simpa [cells26] using hf 0 _ rfl
        have t1 : DataW.trod enc Try.prog W 0 (fun _ => true) true k 26 [v1] = some y1 := by simpa [cells27] using hf 1 _ rfl
        have t2 : DataW.trod enc Try.prog W 0 (fun _ => true) true k 3 [v2] = some y2 := by simpa [cells3] using hf 2 _ rfl
        have t3 : DataW.trod enc Try.prog W 0 (fun _ => true) true k 22 [v3] = some y3 := by simpa [cells26] using hf 3 _ rfl
        have hD : D i = .agg [y0.1, y1.1, y2.1, y3.1] := by
          have := congrArg Prod.fst hxy
          simpa using this
        have hin : ∀ q ∈ (DataW.agg [y0.1, y1.1, y2.1, y3.1] : DataW H).weights Try.prog 28, q ≤ reachBytes := fun q hq => hw q (by
          simp only [DataW.weights, Try.underlying30, List.mem_cons, List.mem_append]
          refine Or.inr (Or.inl (weights_in (d := D i) (List.mem_map.2 ⟨i, List.mem_range.2 hi, rfl⟩) q ?_))
          rw [hD]
          exact hq)
        have hw0 : ∀ q ∈ y0.1.weights Try.prog 22, q ≤ reachBytes := fun q hq => hin q (by
          simp only [DataW.weights, Try.underlying28, DataW.weightsEach, List.map_cons, List.map_nil, List.mem_append]
          exact Or.inl hq)
        have hw3 : ∀ q ∈ y3.1.weights Try.prog 22, q ≤ reachBytes := fun q hq => hin q (by
          simp only [DataW.weights, Try.underlying28, DataW.weightsEach, List.map_cons, List.map_nil, List.mem_append]
          exact Or.inr (Or.inr (Or.inr (Or.inl hq))))
        obtain ⟨ka, kn, kc, key, rfl, hk, hkn, hkcap⟩ := open_bytes_cap t0 hw0
        obtain ⟨s, rfl, hs⟩ := u64_cell Try.underlying26 t1
        obtain ⟨z, rfl⟩ := i64_cell Try.underlying3 t2
        obtain ⟨va, vn, vc, val, rfl, hv2, hvn, _⟩ := open_bytes_cap t3 hw3
        have l1 := hk.len
        have l2 := hv2.len
        subst l1 l2
        refine ⟨⟨ka, kc, va, vc, ⟨key, s, z, val⟩⟩, fun j u hu => ?_, ⟨hk, hv2⟩, ⟨hs, hkn, hvn⟩, hkcap⟩
        have hj : j < 4 := (List.getElem?_eq_some_iff.1 hu).1
        have e0 := hcell j (by omega)
        rw [Go.Deep.add_add] at e0
        rw [e0]
        exact hu
    obtain ⟨q, hq⟩ := Go.Deep.choose_lt each
    refine ⟨some a, len, m, (List.range len).map q, rfl, by simp, fun k f hf => ?_, hcw, fun f hf => ?_⟩
    · have hk : k < len := by
        rcases Nat.lt_or_ge k len with h | h
        · exact h
        · rw [List.getElem?_eq_none (by simpa using h)] at hf; cases hf
      obtain rfl : q k = f := by simpa [hk] using hf
      have hq0 := (hq 0 (by omega)).1 0 _ rfl
      obtain ⟨b, off, spot⟩ := a
      have hspot : spot = none := by simpa [Addr.add] using World.cell?_spot hq0
      subst hspot
      refine ⟨⟨b, off, rfl, fun j u hu => ?_⟩, (hq k hk).2.1⟩
      have := (hq k hk).1 j u hu
      rw [Go.WideShapes.add_plain] at this
      rw [Nat.add_assoc]
      exact this
    · obtain ⟨i, hi, rfl⟩ := List.mem_map.1 hf
      exact (hq i (by simpa using hi)).2.2
section
variable {H : Type} {enc : TypeId × Value → H} {W : World} {r : Reach} {b0 : Nat} {v : Value} {d : DataW H} {p : List MemPlace}
theorem open_ents (hval : Value.okWide Try.prog W r b0 30 v) (h : DataW.Trod enc Try.prog W 0 (fun _ => true) true 30 v d p) (hw : ∀ n ∈ d.weights Try.prog 30, n ≤ reachBytes) :
    ∃ (a : Option Addr) (m c : Nat) (l : List Tow), v = .slice a m c ∧ m = l.length ∧ Ents W a l ∧ m ≤ reachBytes ∧ ∀ f ∈ l, Fit f ∧ f.e.key.length ≤ f.kc := by
  obtain ⟨fuel, h⟩ := h
  obtain ⟨a0, len0, cap0, rfl⟩ := okWide_slice Try.underlying30 hval
  exact open_ents_cap h hw
theorem open_i64 (hval : Value.okWide Try.prog W r b0 3 v) (h : DataW.Trod enc Try.prog W 0 (fun _ => true) true 3 v d p) :
    ∃ n : Int, v = .int .i64 n ∧ -9223372036854775808 ≤ n ∧ n ≤ 9223372036854775807 := by
  obtain ⟨n, rfl, _, _, hw⟩ := open_int Try.underlying3 hval h
  have hb := bounds_i64 hw
  exact ⟨n, rfl, by omega, by omega⟩
theorem open_u8 (hval : Value.okWide Try.prog W r b0 5 v) (h : DataW.Trod enc Try.prog W 0 (fun _ => true) true 5 v d p) :
    ∃ x : BitVec 8, v = .int .u8 (x.toNat : Int) := by
  obtain ⟨n, rfl, _, _, hw⟩ := open_int Try.underlying5 hval h
  have hb := bounds_u8 hw
  refine ⟨BitVec.ofNat 8 n.toNat, ?_⟩
  congr 1
  rw [BitVec.toNat_ofNat]
  omega
end
end Go.Proofs.Ytolaaodhnhdadaa
namespace Go.Proofs.Ytolaaodhnhdadaa
open Go.RowKit
set_option maxRecDepth 100000
set_option maxHeartbeats 8000000
theorem back_many (a : Option Addr) (m c' : Nat) (z : Int) (bt : BitVec 8) (w : World) (h : 200 < m) :
    Calls Try.prog 4 #[.slice a m c', .int .i64 z, .int .u8 (bt.toNat : Int)] w fun e w' => e = .returned (.bool true) ∧ Below w.heap.size w w' := by
  have h' : 200 < (m : Int) := by omega
  go_enter Try.func4, Try.ntmps4
  go_wp2_with (go_at_call 9; refine (lives_any _).mono ?_; rintro e w1 ⟨rfl, b1⟩)
  go_ret
  exact ⟨rfl, b1⟩
theorem back_heavy (a : Option Addr) (m c' : Nat) (l : List Tow) (z : Int) (bt : BitVec 8) (w : World) (hl : Ents w a l) (hm : m = l.length) (hm2 : m ≤ 200) (hf : ∀ x, x ∈ l → Fit x) (h : 20000 < weigh l) :
    Calls Try.prog 4 #[.slice a m c', .int .i64 z, .int .u8 (bt.toNat : Int)] w fun e w' => e = .returned (.bool true) ∧ Below w.heap.size w w' := by
  have h' : ¬ 200 < (m : Int) := by omega
  have HWG := hide (fun (W : World) (b : Below w.heap.size w W) => weigh_any a m c' l W (hl.quiet (Turns.of_below b (fun _ => False))) hm (by omega) hf)
  clear hl hm hf
  generalize weigh l = s at *
  have h2' : 20000 < (s : Int) := by omega
  go_enter Try.func4, Try.ntmps4
  go_wp2_with (first | (go_at_call 9; refine (lives_any _).mono ?_; rintro e w1 ⟨rfl, b1⟩) | (go_at_call 11; refine (HWG.out w1 b1).mono ?_; rintro e w2 ⟨rfl, t2⟩))
  go_ret
  exact ⟨rfl, b1.trans (t2.below b1.size (fun _ x => x.elim))⟩
theorem xor_b (x y : BitVec 8) : bits .xor .u8 (x.toNat : Int) (y.toNat : Int) = ((x ^^^ y).toNat : Int) := by
  show IntKind.u8.wrap ((BitVec.ofInt 8 (x.toNat : Int) ^^^ BitVec.ofInt 8 (y.toNat : Int)).toNat : Int) = _
  rw [ofInt_b, ofInt_b, wrap_b]
theorem RowB.set {w : World} {g c : Nat} {bs : List (BitVec 8)} (h : RowB w g c bs) (k : Nat) (hk : k < c) (x : BitVec 8) : RowB (w.setCell ⟨g, k, none⟩ (.int .u8 (x.toNat : Int))) g c (bs.set k x) := by
  obtain ⟨cs, h1, h2, h3⟩ := h
  refine ⟨_, heap_setCell_same w g k cs 5 _ h1, by simpa using h2, fun i hi => ?_⟩
  have hl : i < bs.length := by simpa [cellsOf] using hi
  rw [Array.getElem?_setIfInBounds]
  by_cases e : k = i
  · subst e
    rw [if_pos rfl, if_pos (by omega)]
    simp [cellsOf, hl]
  · rw [if_neg e, h3 i (by simpa [cellsOf] using hl)]
    simp [cellsOf, List.getElem?_set_ne e]
theorem set_ne {bs : List (BitVec 8)} {k : Nat} (hk : k < bs.length) {bt : BitVec 8} (hb : bt ≠ 0#8) : bs.set k (bs.getD k 0 ^^^ bt) ≠ bs := by
  intro e
  have h1 : (bs.set k (bs.getD k 0 ^^^ bt))[k]? = bs[k]? := by rw [e]
  rw [List.getElem?_set_self hk, List.getElem?_eq_getElem hk] at h1
  have h2 : bs.getD k 0 = bs[k] := by simp [List.getD, hk]
  rw [h2] at h1
  have h3 : bs[k] ^^^ bt = bs[k] := Option.some.inj h1
  apply hb
  have h4 := congrArg (fun x => bs[k] ^^^ x) h3
  simpa [← BitVec.xor_assoc] using h4
theorem back_ok (a : Option Addr) (m c' : Nat) (l : List Tow) (z : Int) (bt : BitVec 8) (w : World) (hl : Ents w a l) (hm : m = l.length) (hm2 : m ≤ 200) (hf : ∀ x, x ∈ l → Fit x) (hkc : ∀ x, x ∈ l → x.e.key.length ≤ x.kc) (h : weigh l ≤ 20000) :
    Calls Try.prog 4 #[.slice a m c', .int .i64 z, .int .u8 (bt.toNat : Int)] w fun e w' => e = .returned (.bool true) ∧ Below w.heap.size w w' := by
  have h' : ¬ 200 < (m : Int) := by omega
  have HWG := hide (fun (W : World) (b : Below w.heap.size w W) => weigh_any a m c' l W (hl.quiet (Turns.of_below b (fun _ => False))) hm (by omega) hf)
  have HLE := hide hl
  have HM := hide hm
  have HKC := hide hkc
  have HWE : Hid (∀ j, weigh (l.take j) ≤ 20000) := hide fun j => Nat.le_trans (weigh_take_le l j) h
  have HKL : Hid (∀ x, x ∈ l → x.e.key.length ≤ 20000 ∧ x.e.val.length ≤ 20000) := hide fun x hx => by have := weigh_mem hx; omega
  clear hl hm hf hkc
  generalize hs : weigh l = s at *
  have h2' : ¬ 20000 < (s : Int) := by omega
  clear hs
  go_enter Try.func4, Try.ntmps4
  go_wp2_with (first | (go_at_call 9; refine (lives_any _).mono ?_; rintro e w1 ⟨rfl, b1⟩) | (go_at_call 11; refine (HWG.out w1 b1).mono ?_; rintro e w2 ⟨rfl, t2⟩))
  have B2 := hide (b1.trans (t2.below b1.size (fun _ x => x.elim)))
  clear b1 t2 HWG
  go_loopw [7, 8] (fun v i wr => ∃ (j : Nat) (Q : List Tow), i = .int .i64 (j : Nat) ∧ j ≤ m ∧ Inn w l j Q v wr) (fun _ i _ => m - (intOf i).toNat)
  case atStart => exact ⟨0, [], rfl, Nat.zero_le _, .inl ⟨rfl, rfl⟩, fun x hx => (by cases hx), rfl, Nat.zero_le _, Nat.le_refl _, B2.out⟩
  case round =>
    obtain ⟨j, Q, rfl, hj, hI⟩ := hrel
    obtain ⟨qa, qc, hv⟩ := hI.shape
    subst hv
    have HI := hide hI
    obtain ⟨hQE, _, hqc, hqz⟩ := hI.ents HLE.out
    have hQl : Q.length ≤ 200 := by have := hI.len; omega
    by_cases hjm : j < m
    · obtain ⟨x, hx⟩ : ∃ x, l[j]? = some x := ⟨_, List.getElem?_eq_getElem (by have := HM.out; omega)⟩
      have hxm := List.mem_of_getElem? hx
      have hby := bytes_in HLE.out hI.below hxm
      have HX := hide hx
      have HXM := hide hxm
      obtain ⟨b, off, rfl, hc⟩ := ((HLE.out.quiet (Turns.of_below hI.below (fun _ => False))) j x hx).1
      have c0 : wr.cell? ⟨b, off + j * 4, none⟩ = some x.kv := hc 0 _ rfl
      have c1 : wr.cell? ⟨b, off + j * 4 + 1, none⟩ = some (.int .u64 (x.e.seq : Nat)) := hc 1 _ rfl
      have c2 : wr.cell? ⟨b, off + j * 4 + 2, none⟩ = some (.int .i64 x.e.kind) := hc 2 _ rfl
      have c3 : wr.cell? ⟨b, off + j * 4 + 3, none⟩ = some x.vv := hc 3 _ rfl
      have i1 : (j : Int) < (m : Int) := by omega
      have i0 : (0 : Int) ≤ (j : Int) := by omega
      clear hI hQE hqc hqz hx hxm hby hc
      go_wp2_with fail
      refine (rcheck_any x wr).mono ?_
      rintro r w3 ⟨rfl, b3⟩
      have d0 := (b3.cell (p := ⟨b, off + j * 4, none⟩) (block_lt_of_cell c0)).trans c0
      have d1 := (b3.cell (p := ⟨b, off + j * 4 + 1, none⟩) (block_lt_of_cell c1)).trans c1
      have d2 := (b3.cell (p := ⟨b, off + j * 4 + 2, none⟩) (block_lt_of_cell c2)).trans c2
      have d3 := (b3.cell (p := ⟨b, off + j * 4 + 3, none⟩) (block_lt_of_cell c3)).trans c3
      have B3 := hide b3
      have HI3 := hide (HI.out.go b3)
      have hsz3 := b3.size
      clear c0 c1 c2 c3 b3
      by_cases hchk : chk1 x.e = 0
      · rw [hchk]
        have HCH := hide hchk
        obtain ⟨hQE, _, hqc, hqz⟩ := HI3.out.ents HLE.out
        have hby := bytes_in HLE.out HI3.out.below HXM.out
        have HP := hide (rput_any qa Q.length qc Q x w3 hQE rfl hqc hqz (by omega) hby.1 (by have := (HKL.out x HXM.out).1; omega) (fun y hy => by have := (HKL.out y (HI3.out.mem y hy).1).1; omega))
        clear hchk hQE hqc hqz hby
        go_wp2_with fail
        refine HP.out.mono ?_
        rintro e w4 ⟨g, gc, rfl, hg, hgc, hrow, b4⟩
        have HRR := hide (rrow_any (some ⟨g, 0, none⟩) (Q.length + 1) gc (putL x Q) w4 (ents_row HLE.out (HI3.out.below.trans (b4.mono HI3.out.below.size)) (fun y hy => by rcases mem_putL.1 hy with rfl | hy; exact HXM.out; exact (HI.out.mem y hy).1) hrow) (putL_length x Q).symm (by omega) (fun y hy => by rcases mem_putL.1 hy with rfl | hy; (have := (HKL.out _ HXM.out).1; omega); (have := (HKL.out y (HI.out.mem y hy).1).1; omega)))
        have HROW := hide hrow
        have B4 := hide b4
        have HG := hide hg
        have HGC := hide hgc
        clear hrow b4 hg hgc HP d0 d1 d2 d3
        go_wp2_with fail
        refine HRR.out.mono ?_
        rintro r w5 ⟨rfl, b5⟩
        have BR5 := hide (B4.out.trans (b5.mono B4.out.size))
        have ROW5 := hide (HROW.out.below b5)
        clear b5 HRR
        cases ho : inOrd (ents (putL x Q)) with
        | true =>
          have HO := hide ho
          clear ho
          go_wp2_with fail
          exact ⟨⟨j + 1, putL x Q, by go_num, by omega, HI3.out.put HX.out HCH.out HO.out HG.out HGC.out ROW5.out BR5.out⟩, by simp [intOf]; omega⟩
        | false =>
          clear ho
          go_wp2_with fail
          exact ⟨⟨j + 1, Q, by go_num, by omega, HI3.out.skip BR5.out⟩, by simp [intOf]; omega⟩
      · generalize chk1 x.e = cx at *
        go_wp2_with fail
        exact ⟨⟨j + 1, Q, by go_num, by omega, HI.out.skip B3.out⟩, by simp [intOf]; omega⟩
    · obtain rfl : j = m := by omega
      clear hjm
      have GOOD : Hid (Good Q) := hide fun y hy => ⟨(HI.out.mem y hy).2, HKC.out y (HI.out.mem y hy).1⟩
      have hwt : wt (ents Q) ≤ 20000 := by
        have h1 := HI.out.wei
        have h3 := HWE.out j
        rw [wt_weigh]
        omega
      have HFIT : Hid (∀ W, Below wr.heap.size wr W → Ents W qa Q) := hide fun W hb => hQE.quiet (Turns.of_below hb (fun _ => False))
      by_cases hQ0 : Q = []
      · subst hQ0
        have HAP := hide (append_bad qa 0 qc [] wr hQE rfl (by omega) GOOD.out rfl)
        clear hI hQE hqc hqz hQl hwt
        go_wp2_with fail
        refine HAP.out.mono ?_
        rintro r w3 ⟨rfl, b3⟩
        have B3 := hide (HI.out.below.trans (b3.mono HI.out.below.size))
        clear b3 HAP
        go_wp2_with fail
        go_ret
        exact ⟨rfl, B3.out⟩
      · have hck : chkL (ents Q) = 0 := by
          unfold chkL
          rw [if_neg]
          rintro (h0 | h0)
          · exact hQ0 (by simpa [ents] using h0)
          · rw [HI.out.ord] at h0; cases h0
        have hn0 : 0 < Q.length := List.length_pos_iff.2 hQ0
        have HAP := hide (append_ok qa Q.length qc Q wr hQE rfl (by omega) (by omega) GOOD.out hck)
        have HSZ := hide (fun W (hb : Below wr.heap.size wr W) => size_all qa Q.length qc Q W (HFIT.out W hb) rfl (by omega) (by omega) GOOD.out)
        have HFI : Hid (Fine (ents Q)) := hide ⟨fun e he => by obtain ⟨y, hy, rfl⟩ := List.mem_map.1 he; exact (HI.out.mem y hy).2, fun e => hQ0 (by simpa [ents] using e), HI.out.ord⟩
        have hql4 : (ents Q).length = Q.length := by simp [ents]
        have hbl : (blkB (ents Q)).length ≤ 40000 ∧ 4 ≤ (blkB (ents Q)).length := by
          have h1 := blkB_len (ents Q)
          have h2 := rowB_le (ents Q) 0 [] HFI.out.each
          have h3 := mk_len (ents Q)
          omega
        obtain ⟨hbl1, hbl2⟩ := hbl
        have HBK := hide (blk_back HFI.out (by omega))
        have HCUT := hide (blk_cut HFI.out (by omega) hwt)
        have HSOU : Hid (∀ p es, parseK p = some es → p ≠ blkB (ents Q) → es ≠ ents Q) := hide fun p es hp hne he => by
          obtain ⟨_, e2⟩ := blk_sound hp
          exact hne (by rw [e2, he])
        have HQKL : Hid (∀ y, y ∈ Q → y.e.key.length ≤ 1000000 ∧ y.e.val.length ≤ 1000000) := hide fun y hy => by have := HKL.out y (HI.out.mem y hy).1; omega
        generalize hqn : Q.length = qn at *
        have HQN := hide hqn
        have qn0 : ¬ (qn : Int) = 0 := by omega
        clear hI hQE hqc hqz hck hQ0 hqn hql4
        go_wp2_with fail
        refine HAP.out.mono ?_
        rintro r w3 ⟨⟨g, gc, rfl, hg, hgc, hrow⟩, b3⟩
        have hbw := HI.out.below.size
        have B3 := hide (HI.out.below.trans (b3.mono hbw))
        have BR3 := hide b3
        have HROW := hide hrow
        have HG := hide hg
        clear b3 HAP hrow hg
        generalize blkB (ents Q) = bq at *
        obtain ⟨b1, hbn⟩ : ∃ b1, bq.length = b1 + 1 := ⟨bq.length - 1, by omega⟩
        rw [hbn] at hbl1 hbl2 hgc HSZ ⊢
        obtain ⟨bn, hbn2⟩ : ∃ bn, b1 + 1 = bn := ⟨_, rfl⟩
        rw [hbn2] at hbn hbl1 hbl2 hgc HSZ ⊢
        have HBN := hide hbn.symm
        have HB1 := hide hbn2
        have b1i : (bn : Int) - 1 = (b1 : Int) := by omega
        have b1g : (b1 : Int) ≤ (gc : Int) := by omega
        clear hbn2
        have HPK := hide (pick_any z bn (by omega) (by omega))
        have HO1 := hide (own_any (some ⟨g, 0, none⟩) bn gc bq w3 (HROW.out.bytes HBN.out) (by omega))
        clear hbn
        go_wp2_with fail
        refine HO1.out.mono ?_
        rintro r w4 ⟨g4, c4, rfl, hg4, hc4, hrow4, b4⟩
        have HP1 := hide (Parse_any (some ⟨g4, 0, none⟩) bn c4 bq w4 (hrow4.bytes HBN.out) hc4 (by omega))
        have ROW4 : Hid (RowB w4 g gc bq) := hide (HROW.out.below b4)
        have B4 := hide (B3.out.trans (b4.mono B3.out.size))
        have BR4 := hide (BR3.out.trans (b4.mono BR3.out.size))
        clear hg4 hc4 hrow4 b4 HO1
        go_wp2_with fail
        refine HP1.out.mono ?_
        rintro r w5 ⟨hcase, b5⟩
        rcases hcase with ⟨hbad, _⟩ | ⟨es, xa, xc, R, hes, hR, rfl, hxr, hxs⟩
        · exfalso
          rw [HBK.out] at hbad
          cases hbad
        · have hes2 : ents R = ents Q := by rw [HBK.out] at hes; rw [hR]; exact (Option.some.inj hes).symm
          have hRl : R.length = qn := by
            have h9 := congrArg List.length hes2
            simp only [ents, List.length_map] at h9
            have := HQN.out
            omega
          have ROW5 : Hid (RowB w5 g gc bq) := hide (ROW4.out.below b5)
          have B5 := hide (B4.out.trans (b5.mono B4.out.size))
          have BR5 := hide (BR4.out.trans (b5.mono BR4.out.size))
          have HEN := hide (entries_same xa qa R.length xc qc R Q w5 (ents_of hxr hxs) (HFIT.out w5 BR5.out) hes2 rfl (by omega) (fun y hy => by
            have hy2 : y.e ∈ ents Q := by rw [← hes2]; exact List.mem_map.2 ⟨y, hy, rfl⟩
            obtain ⟨y', hy', e'⟩ := List.mem_map.1 hy2
            rw [← e']
            exact HQKL.out y' hy'))
          rw [hRl] at HEN ⊢
          clear b5 HP1 hes hR hxr hxs hes2 hRl
          go_wp2_with fail
          refine HEN.out.mono ?_
          rintro r w6 ⟨rfl, b6⟩
          have ROW6 : Hid (RowB w6 g gc bq) := hide (ROW5.out.below b6)
          have B6 := hide (B5.out.trans (b6.mono B5.out.size))
          have BR6 := hide (BR5.out.trans (b6.mono BR5.out.size))
          have HS6 := hide (HSZ.out w6 BR6.out)
          clear b6 HEN
          go_wp2_with fail
          refine HS6.out.mono ?_
          rintro r w7 ⟨rfl, b7⟩
          have ROW7 : Hid (RowB w7 g gc bq) := hide (ROW6.out.below b7)
          have B7 := hide (B6.out.trans (b7.mono B6.out.size))
          have BR7 := hide (BR6.out.trans (b7.mono BR6.out.size))
          have hby7 := (ROW7.out.bytes (c' := gc) HBN.out).part 0 b1 gc (by have := HBN.out; have := HB1.out; omega)
          rw [List.drop_zero, Nat.add_zero, show bq.take b1 = bq.dropLast by rw [List.dropLast_eq_take]; congr 1; have := HBN.out; have := HB1.out; omega] at hby7
          have HO2 := hide (own_any (some ⟨g, 0, none⟩) b1 gc bq.dropLast w7 hby7 (by omega))
          clear b7 HS6 hby7
          go_wp2_with fail
          refine HO2.out.mono ?_
          rintro r w8 ⟨g8, c8, rfl, hg8, hc8, hrow8, b8⟩
          have ROW8 : Hid (RowB w8 g gc bq) := hide (ROW7.out.below b8)
          have B8 := hide (B7.out.trans (b8.mono B7.out.size))
          have BR8 := hide (BR7.out.trans (b8.mono BR7.out.size))
          have HP2 := hide (Parse_any (some ⟨g8, 0, none⟩) b1 c8 bq.dropLast w8 (hrow8.bytes (by rw [List.length_dropLast]; have := HBN.out; have := HB1.out; omega)) hc8 (by omega))
          clear hg8 hc8 hrow8 b8 HO2
          go_wp2_with fail
          refine HP2.out.mono ?_
          rintro r w9 ⟨hcase, b9⟩
          rcases hcase with ⟨_, rfl⟩ | ⟨es2, _, _, _, hes2, _⟩
          · have ROW9 : Hid (RowB w9 g gc bq) := hide (ROW8.out.below b9)
            have B9 := hide (B8.out.trans (b9.mono B8.out.size))
            have BR9 := hide (BR8.out.trans (b9.mono BR8.out.size))
            clear b9 HP2
            go_wp2_with fail
            refine (HPK.out w9).mono ?_
            rintro r w10 ⟨k, hk, rfl, hw10⟩
            subst hw10
            obtain ⟨cs, r1, r2, r3⟩ := ROW9.out
            have hkb : k < bq.length := by have := HBN.out; omega
            have ck : w10.cell? ⟨g, k, none⟩ = some (.int .u8 ((bq.getD k 0).toNat : Int)) := by
              rw [cell_of_row w10 g k cs 5 (0, 0) r1, r3 k (by simpa [cellsOf] using hkb)]
              simp [cellsOf, hkb]
            have zk : w10.frozen? ⟨g, k, none⟩ = false := frozen_of_row w10 g k cs 5 r1
            have hxo := xor_b (bq.getD k 0) bt
            have HSN := hide (fun hb : bt ≠ 0#8 => set_ne hkb hb)
            have ROWA := hide (ROW9.out.set k (by omega) (bq.getD k 0 ^^^ bt))
            have hsA := BR9.out.size
            have BA : Hid (Below w.heap.size w (w10.setCell ⟨g, k, none⟩ (.int .u8 ((bq.getD k 0 ^^^ bt).toNat : Int)))) := hide (B9.out.setCell (p := ⟨g, k, none⟩) (by show w.heap.size ≤ g; have := HG.out; omega) _)
            have BRA : Hid (Below wr.heap.size wr (w10.setCell ⟨g, k, none⟩ (.int .u8 ((bq.getD k 0 ^^^ bt).toNat : Int)))) := hide (BR9.out.setCell (p := ⟨g, k, none⟩) (by exact HG.out) _)
            generalize bq.getD k 0 = old at *
            generalize old ^^^ bt = nw at *
            have kk0 : (0 : Int) ≤ (k : Int) := by omega
            have kk1 : (k : Int) < (bn : Int) := by omega
            have HP3 := hide (Parse_any (some ⟨g, 0, none⟩) bn gc (bq.set k nw) _ (ROWA.out.bytes (by rw [List.length_set]; exact HBN.out)) hgc hbl1)
            clear r1 r2 r3
            go_wp2_with fail
            refine HP3.out.mono ?_
            rintro r w11 ⟨hcase3, b11⟩
            have B11 := hide (BA.out.trans (b11.mono BA.out.size))
            have BR11 := hide (BRA.out.trans (b11.mono BRA.out.size))
            clear b11 HP3 ck zk
            rcases hcase3 with ⟨_, rfl⟩ | ⟨es3, ya, yc, R3, hes3, hR3, rfl, hyr, hys⟩
            · clear hxo
              by_cases hbt : (bt.toNat : Int) = 0
              · go_wp2_with fail
                go_ret
                exact ⟨rfl, B11.out⟩
              · go_wp2_with fail
                go_ret
                exact ⟨rfl, B11.out⟩
            · by_cases hbt : (bt.toNat : Int) = 0
              · clear hxo
                go_wp2_with fail
                go_ret
                exact ⟨rfl, B11.out⟩
              · have hb0 : bt ≠ 0#8 := fun e => hbt (by rw [e]; rfl)
                have hne := HSOU.out _ _ hes3 (HSN.out hb0)
                obtain ⟨hfi, hbb⟩ := blk_sound hes3
                have hlen3 : R3.length ≤ 100000 := by
                  have h1 := rowB_ge es3 0 []
                  have h2 := blkB_len es3
                  have h3 : (bq.set k nw).length = (blkB es3).length := by rw [hbb]
                  have h4 : es3.length = R3.length := by rw [← hR3]; simp [ents]
                  rw [List.length_set] at h3
                  have h5 := HBN.out
                  omega
                have HEE := hide (entriesEq_any ya qa R3.length qn yc qc R3 Q w11 (ents_of hyr hys) (HFIT.out w11 BR11.out) rfl HQN.out.symm (by omega) (fun y hy => by
                  have h1 : y.e ∈ es3 := by rw [← hR3]; exact List.mem_map.2 ⟨y, hy, rfl⟩
                  have h2 := chk1_fine (hfi.each y.e h1)
                  omega))
                rw [hR3] at HEE
                have HNE := hide hne
                clear hxo hes3 hR3 hyr hys hfi hbb hne hb0
                generalize R3.length = r3 at *
                go_wp2_with fail
                refine HEE.out.mono ?_
                rintro r w12 ⟨⟨d, rfl, hd⟩, b12⟩
                have B12 := hide (B11.out.trans (b12.mono B11.out.size))
                have hdf : d = false := by
                  cases d with
                  | false => rfl
                  | true => exact absurd (hd.1 rfl) HNE.out
                subst hdf
                clear hd b12 HEE
                go_wp2_with fail
                go_ret
                exact ⟨rfl, B12.out⟩
          · exfalso
            rw [HCUT.out] at hes2
            cases hes2
theorem back_any (a : Option Addr) (m c' : Nat) (l : List Tow) (z : Int) (bt : BitVec 8) (w : World) (hl : Ents w a l) (hm : m = l.length) (hf : ∀ x, x ∈ l → Fit x) (hkc : ∀ x, x ∈ l → x.e.key.length ≤ x.kc) :
    Calls Try.prog 4 #[.slice a m c', .int .i64 z, .int .u8 (bt.toNat : Int)] w fun e w' => e = .returned (.bool true) ∧ Below w.heap.size w w' := by
  by_cases h1 : 200 < m
  · exact back_many a m c' z bt w h1
  · by_cases h2 : 20000 < weigh l
    · exact back_heavy a m c' l z bt w hl hm (by omega) hf h2
    · exact back_ok a m c' l z bt w hl hm (by omega) hf hkc (by omega)
end Go.Proofs.Ytolaaodhnhdadaa
