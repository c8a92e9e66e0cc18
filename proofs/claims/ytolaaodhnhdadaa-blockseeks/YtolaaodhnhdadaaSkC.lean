/-
  Entries that came in, opened, with what their keys have room for; BlockSeeks, walked.
-/
import Derived.Test.YtolaaodhnhdadaaOpE
import Derived.Test.YtolaaodhnhdadaaPP
import Derived.Deep.Light
namespace Go.Proofs.Ytolaaodhnhdadaa
open Go.ChangeShapes Go.WideShapes Go.ChangeAt Go.RowKit
set_option maxRecDepth 100000
theorem open_bytes_cap {H : Type} {enc : TypeId × Value → H} {W : World} {n : Nat} {v : Value} {x : DataW H × List MemPlace} (h : DataW.trod enc Try.prog W 0 (fun _ => true) true n 22 [v] = some x) (hw : ∀ n ∈ x.1.weights Try.prog 22, n ≤ reachBytes) :
    ∃ (a : Option Addr) (m c : Nat) (bs : List (BitVec 8)), v = .slice a m c ∧ Bytes W v bs ∧ m ≤ reachBytes ∧ m ≤ c := by
  rcases open_ints Try.underlying22 Try.underlying5 cells5 h with ⟨hv, _⟩ | ⟨a, len, cap, zs, hv, _, hlc, hcap, hlen, hx, hcell, hwf⟩
  · obtain rfl : v = .slice none 0 0 := by simpa using hv
    exact ⟨none, 0, 0, [], rfl, bytes_none1 W, by decide, Nat.le_refl _⟩
  · obtain rfl : v = .slice (some a) len cap := by simpa using hv
    have hz : zs.length = cap := by simpa using hlen
    subst hx
    have hw1 : ((lits .u8 (zs.take len) : List (DataW H)).length + (lits .u8 (zs.drop len) : List (DataW H)).length) * Try.prog.bytesOf 5 ≤ reachBytes := hw _ (by simp [DataW.weights, Try.underlying22])
    have hw2 : len ≤ reachBytes := by
      simp only [lits, List.length_map, List.length_take, List.length_drop, bytesOf5] at hw1
      omega
    refine ⟨some a, len, cap, (zs.take len).map fun z => BitVec.ofNat 8 z.toNat, rfl, ⟨some a, cap, by simp; omega, fun k hk => ?_⟩, hw2, hlc⟩
    have hkl : k < len := by simp at hk; omega
    obtain ⟨b, off, rfl, hc⟩ := ints_at hcell (by omega)
    refine ⟨b, off, rfl, ?_⟩
    rw [hc k (by omega)]
    have hk' : k < zs.length := by omega
    have hb := bounds_u8 (hwf zs[k] (List.getElem_mem hk'))
    congr 2
    simp [List.getD, hkl, hk']
    omega
theorem open_ents_cap {H : Type} {enc : TypeId × Value → H} {W : World} {fuel : Nat} {v : Value} {x : DataW H × List MemPlace} (h : DataW.trod enc Try.prog W 0 (fun _ => true) true fuel 30 [v] = some x) (hw : ∀ q ∈ x.1.weights Try.prog 30, q ≤ reachBytes) :
    ∃ (a : Option Addr) (m c : Nat) (l : List Tow), v = .slice a m c ∧ m = l.length ∧ Ents W a l ∧ m ≤ reachBytes ∧ ∀ f ∈ l, Fit f ∧ f.e.key.length ≤ f.kc := by
  rcases Go.Deep.open_slice Try.underlying30 h with ⟨hv, _⟩ | ⟨a, len, cap, m, n, D, Pl, hv, _, hlc, hcap, hm, hx, hcells⟩
  · obtain rfl : v = .slice none 0 0 := by simpa using hv
    exact ⟨none, 0, 0, [], rfl, rfl, fun k f hf => by simp at hf, by decide, fun f hf => by simp at hf⟩
  · obtain rfl : v = .slice (some a) len cap := by simpa using hv
    have hm' : m = cap := by simpa using hm
    subst hm'
    subst hx
    have hcw : len ≤ reachBytes := by
      have hw1 := hw _ (by simp only [DataW.weights, Try.underlying30]; exact List.mem_cons_self ..)
      simp only [List.length_map, List.length_range, bytesOf29] at hw1
      omega
    have each : ∀ i, i < len → ∃ f : Tow, (∀ j u, [f.kv, .int .u64 (f.e.seq : Nat), .int .i64 f.e.kind, f.vv][j]? = some u → W.cell? (a.add (i * 4 + j)) = some u) ∧ (Bytes W f.kv f.e.key ∧ Bytes W f.vv f.e.val) ∧ Fit f ∧ f.e.key.length ≤ f.kc := by
      intro i hi
      obtain ⟨cs', h1, h2⟩ := hcells i (by omega)
      rw [cells29] at h1
      obtain ⟨_, hlen, hcell⟩ := World.cells?_some h1
      obtain ⟨xs, k, _, hxy, _, hxl, hf⟩ := DataW.trod_struct Try.underlying28 h2
      match xs, hxl, cs', hlen with
      | [y0, y1, y2, y3], _, [v0, v1, v2, v3], _ =>
        have t0 : DataW.trod enc Try.prog W 0 (fun _ => true) true k 22 [v0] = some y0 := by simpa [cells26] using hf 0 _ rfl
        have t1 : DataW.trod enc Try.prog W 0 (fun _ => true) true k 26 [v1] = some y1 := by simpa [cells27] using hf 1 _ rfl
        have t2 : DataW.trod enc Try.prog W 0 (fun _ => true) true k 3 [v2] = some y2 := by simpa [cells3] using hf 2 _ rfl
        have t3 : DataW.trod enc Try.prog W 0 (fun _ => true) true k 22 [v3] = some y3 := by simpa [cells26] using hf 3 _ rfl
        have hD : D i = .agg [y0.1, y1.1, y2.1, y3.1] := by
          have := congrArg Prod.fst hxy
          simpa using this
        have hin : ∀ q ∈ (DataW.agg [y0.1, y1.1, y2.1, y3.1] : DataW H).weights Try.prog 28, q ≤ reachBytes := fun q hq => hw q (by
          simp only [DataW.weights, Try.underlying30, List.mem_cons, List.mem_append]
          refine Or.inr (Or.inl (weights_in (d := D i) (List.mem_map.2 ⟨i, List.mem_range.2 hi, rfl⟩) q ?_))
          rw [hD]
          exact hq)
        have hw0 : ∀ q ∈ y0.1.weights Try.prog 22, q ≤ reachBytes := fun q hq => hin q (by
          simp only [DataW.weights, Try.underlying28, DataW.weightsEach, List.map_cons, List.map_nil, List.mem_append]
          exact Or.inl hq)
        have hw3 : ∀ q ∈ y3.1.weights Try.prog 22, q ≤ reachBytes := fun q hq => hin q (by
          simp only [DataW.weights, Try.underlying28, DataW.weightsEach, List.map_cons, List.map_nil, List.mem_append]
          exact Or.inr (Or.inr (Or.inr (Or.inl hq))))
        obtain ⟨ka, kn, kc, key, rfl, hk, hkn, hkcap⟩ := open_bytes_cap t0 hw0
        obtain ⟨s, rfl, hs⟩ := u64_cell Try.underlying26 t1
        obtain ⟨z, rfl⟩ := i64_cell Try.underlying3 t2
        obtain ⟨va, vn, vc, val, rfl, hv2, hvn, _⟩ := open_bytes_cap t3 hw3
        have l1 := hk.len
        have l2 := hv2.len
        subst l1 l2
        refine ⟨⟨ka, kc, va, vc, ⟨key, s, z, val⟩⟩, fun j u hu => ?_, ⟨hk, hv2⟩, ⟨hs, hkn, hvn⟩, hkcap⟩
        have hj : j < 4 := (List.getElem?_eq_some_iff.1 hu).1
        have e0 := hcell j (by omega)
        rw [Go.Deep.add_add] at e0
        rw [e0]
        exact hu
    obtain ⟨q, hq⟩ := Go.Deep.choose_lt each
    refine ⟨some a, len, m, (List.range len).map q, rfl, by simp, fun k f hf => ?_, hcw, fun f hf => ?_⟩
    · have hk : k < len := by
        rcases Nat.lt_or_ge k len with h | h
        · exact h
        · rw [List.getElem?_eq_none (by simpa using h)] at hf; cases hf
      obtain rfl : q k = f := by simpa [hk] using hf
      have hq0 := (hq 0 (by omega)).1 0 _ rfl
      obtain ⟨b, off, spot⟩ := a
      have hspot : spot = none := by simpa [Addr.add] using World.cell?_spot hq0
      subst hspot
      refine ⟨⟨b, off, rfl, fun j u hu => ?_⟩, (hq k hk).2.1⟩
      have := (hq k hk).1 j u hu
      rw [Go.WideShapes.add_plain] at this
      rw [Nat.add_assoc]
      exact this
    · obtain ⟨i, hi, rfl⟩ := List.mem_map.1 hf
      exact (hq i (by simpa using hi)).2.2
section
variable {H : Type} {enc : TypeId × Value → H} {W : World} {r : Reach} {b0 : Nat} {v : Value} {d : DataW H} {p : List MemPlace}
theorem open_ents (hval : Value.okWide Try.prog W r b0 30 v) (h : DataW.Trod enc Try.prog W 0 (fun _ => true) true 30 v d p) (hw : ∀ n ∈ d.weights Try.prog 30, n ≤ reachBytes) :
    ∃ (a : Option Addr) (m c : Nat) (l : List Tow), v = .slice a m c ∧ m = l.length ∧ Ents W a l ∧ m ≤ reachBytes ∧ ∀ f ∈ l, Fit f ∧ f.e.key.length ≤ f.kc := by
  obtain ⟨fuel, h⟩ := h
  obtain ⟨a0, len0, cap0, rfl⟩ := okWide_slice Try.underlying30 hval
  exact open_ents_cap h hw
theorem open_i64 (hval : Value.okWide Try.prog W r b0 3 v) (h : DataW.Trod enc Try.prog W 0 (fun _ => true) true 3 v d p) :
    ∃ n : Int, v = .int .i64 n ∧ -9223372036854775808 ≤ n ∧ n ≤ 9223372036854775807 := by
  obtain ⟨n, rfl, _, _, hw⟩ := open_int Try.underlying3 hval h
  have hb := bounds_i64 hw
  exact ⟨n, rfl, by omega, by omega⟩
theorem open_u8 (hval : Value.okWide Try.prog W r b0 5 v) (h : DataW.Trod enc Try.prog W 0 (fun _ => true) true 5 v d p) :
    ∃ x : BitVec 8, v = .int .u8 (x.toNat : Int) := by
  obtain ⟨n, rfl, _, _, hw⟩ := open_int Try.underlying5 hval h
  have hb := bounds_u8 hw
  refine ⟨BitVec.ofNat 8 n.toNat, ?_⟩
  congr 1
  rw [BitVec.toNat_ofNat]
  omega
end
end Go.Proofs.Ytolaaodhnhdadaa
namespace Go.Proofs.Ytolaaodhnhdadaa
open Go.RowKit
set_option maxRecDepth 100000
set_option maxHeartbeats 8000000
theorem seeks_many (a : Option Addr) (m c' : Nat) (z : Int) (w : World) (h : 200 < m) :
    Calls Try.prog 5 #[.slice a m c', .int .i64 z] w fun e w' => e = .returned (.bool true) ∧ Below w.heap.size w w' := by
  have h' : 200 < (m : Int) := by omega
  go_enter Try.func5, Try.ntmps5
  go_wp2_with (go_at_call 9; refine (lives_any _).mono ?_; rintro e w1 ⟨rfl, b1⟩)
  go_ret
  exact ⟨rfl, b1⟩
theorem seeks_heavy (a : Option Addr) (m c' : Nat) (l : List Tow) (z : Int) (w : World) (hl : Ents w a l) (hm : m = l.length) (hm2 : m ≤ 200) (hf : ∀ x, x ∈ l → Fit x) (h : 20000 < weigh l) :
    Calls Try.prog 5 #[.slice a m c', .int .i64 z] w fun e w' => e = .returned (.bool true) ∧ Below w.heap.size w w' := by
  have h' : ¬ 200 < (m : Int) := by omega
  have HWG := hide (fun (W : World) (b : Below w.heap.size w W) => weigh_any a m c' l W (hl.quiet (Turns.of_below b (fun _ => False))) hm (by omega) hf)
  clear hl hm hf
  generalize weigh l = s at *
  have h2' : 20000 < (s : Int) := by omega
  go_enter Try.func5, Try.ntmps5
  go_wp2_with (first | (go_at_call 9; refine (lives_any _).mono ?_; rintro e w1 ⟨rfl, b1⟩) | (go_at_call 11; refine (HWG.out w1 b1).mono ?_; rintro e w2 ⟨rfl, t2⟩))
  go_ret
  exact ⟨rfl, b1.trans (t2.below b1.size (fun _ x => x.elim))⟩
theorem seeks_ok (a : Option Addr) (m c' : Nat) (l : List Tow) (z : Int) (w : World) (hl : Ents w a l) (hm : m = l.length) (hm2 : m ≤ 200) (hf : ∀ x, x ∈ l → Fit x) (hkc : ∀ x, x ∈ l → x.e.key.length ≤ x.kc) (h : weigh l ≤ 20000) :
    Calls Try.prog 5 #[.slice a m c', .int .i64 z] w fun e w' => e = .returned (.bool true) ∧ Below w.heap.size w w' := by
  have h' : ¬ 200 < (m : Int) := by omega
  have HWG := hide (fun (W : World) (b : Below w.heap.size w W) => weigh_any a m c' l W (hl.quiet (Turns.of_below b (fun _ => False))) hm (by omega) hf)
  have HLE := hide hl
  have HM := hide hm
  have HKC := hide hkc
  have HWE : Hid (∀ j, weigh (l.take j) ≤ 20000) := hide fun j => Nat.le_trans (weigh_take_le l j) h
  have HKL : Hid (∀ x, x ∈ l → x.e.key.length ≤ 20000 ∧ x.e.val.length ≤ 20000) := hide fun x hx => by have := weigh_mem hx; omega
  clear hl hm hf hkc
  generalize hs : weigh l = s at *
  have h2' : ¬ 20000 < (s : Int) := by omega
  clear hs
  go_enter Try.func5, Try.ntmps5
  go_wp2_with (first | (go_at_call 9; refine (lives_any _).mono ?_; rintro e w1 ⟨rfl, b1⟩) | (go_at_call 11; refine (HWG.out w1 b1).mono ?_; rintro e w2 ⟨rfl, t2⟩))
  have B2 := hide (b1.trans (t2.below b1.size (fun _ x => x.elim)))
  clear b1 t2 HWG
  go_loopw [5, 6] (fun v i wr => ∃ (j : Nat) (Q : List Tow), i = .int .i64 (j : Nat) ∧ j ≤ m ∧ Inn w l j Q v wr) (fun _ i _ => m - (intOf i).toNat)
  case atStart => exact ⟨0, [], rfl, Nat.zero_le _, .inl ⟨rfl, rfl⟩, fun x hx => (by cases hx), rfl, Nat.zero_le _, Nat.le_refl _, B2.out⟩
  case round =>
    obtain ⟨j, Q, rfl, hj, hI⟩ := hrel
    obtain ⟨qa, qc, hv⟩ := hI.shape
    subst hv
    have HI := hide hI
    obtain ⟨hQE, _, hqc, hqz⟩ := hI.ents HLE.out
    have hQl : Q.length ≤ 200 := by have := hI.len; omega
    by_cases hjm : j < m
    · obtain ⟨x, hx⟩ : ∃ x, l[j]? = some x := ⟨_, List.getElem?_eq_getElem (by have := HM.out; omega)⟩
      have hxm := List.mem_of_getElem? hx
      have hby := bytes_in HLE.out hI.below hxm
      have HP := hide (rput_any qa Q.length qc Q x wr hQE rfl hqc hqz (by omega) hby.1 (by have := (HKL.out x hxm).1; omega) (fun y hy => by have := (HKL.out y (hI.mem y hy).1).1; omega))
      have HCELL : Hid (∀ W, Below w.heap.size w W → ∃ b off, a = some ⟨b, off, none⟩ ∧ ∀ i u, [x.kv, .int .u64 (x.e.seq : Nat), .int .i64 x.e.kind, x.vv][i]? = some u → W.cell? ⟨b, off + j * 4 + i, none⟩ = some u) := hide fun W hb => ((HLE.out.quiet (Turns.of_below hb (fun _ => False))) j x hx).1
      have HX := hide hx
      have HXM := hide hxm
      obtain ⟨b, off, rfl, hc⟩ := HCELL.out wr hI.below
      have c0 : wr.cell? ⟨b, off + j * 4, none⟩ = some x.kv := hc 0 _ rfl
      have c1 : wr.cell? ⟨b, off + j * 4 + 1, none⟩ = some (.int .u64 (x.e.seq : Nat)) := hc 1 _ rfl
      have c2 : wr.cell? ⟨b, off + j * 4 + 2, none⟩ = some (.int .i64 x.e.kind) := hc 2 _ rfl
      have c3 : wr.cell? ⟨b, off + j * 4 + 3, none⟩ = some x.vv := hc 3 _ rfl
      have i1 : (j : Int) < (m : Int) := by omega
      have i0 : (0 : Int) ≤ (j : Int) := by omega
      clear hI hQE hqc hqz hx hxm hby hc
      clear HCELL
      go_wp2_with fail
      refine HP.out.mono ?_
      rintro e w3 ⟨g, gc, rfl, hg, hgc, hrow, b3⟩
      have d0 := (b3.cell (p := ⟨b, off + j * 4, none⟩) (block_lt_of_cell c0)).trans c0
      have d1 := (b3.cell (p := ⟨b, off + j * 4 + 1, none⟩) (block_lt_of_cell c1)).trans c1
      have d2 := (b3.cell (p := ⟨b, off + j * 4 + 2, none⟩) (block_lt_of_cell c2)).trans c2
      have d3 := (b3.cell (p := ⟨b, off + j * 4 + 3, none⟩) (block_lt_of_cell c3)).trans c3
      have HROW := hide hrow
      have B3 := hide b3
      have BW3 := hide (HI.out.below.trans (b3.mono HI.out.below.size))
      have HG := hide hg
      have HGC := hide hgc
      clear c0 c1 c2 c3 hrow b3 HP hg hgc
      go_wp2_with fail
      refine (rcheck_any x w3).mono ?_
      rintro r w4 ⟨rfl, b4⟩
      have B4 := hide b4
      have hsz34 := b4.size
      have hsz3 := B3.out.size
      have ROW4 := hide (HROW.out.below b4)
      have BW4 := hide (BW3.out.trans (b4.mono BW3.out.size))
      have BR4 := hide (B3.out.trans (b4.mono hsz3))
      clear b4 d0 d1 d2 d3
      by_cases hchk : chk1 x.e = 0
      · rw [hchk]
        have HCH := hide hchk
        have HRR := hide (rrow_any (some ⟨g, 0, none⟩) (Q.length + 1) gc (putL x Q) w4 (ents_row HLE.out BW4.out (fun y hy => by rcases mem_putL.1 hy with rfl | hy; exact HXM.out; exact (HI.out.mem y hy).1) ROW4.out) (putL_length x Q).symm (by omega) (fun y hy => by rcases mem_putL.1 hy with rfl | hy; (have := (HKL.out _ HXM.out).1; omega); (have := (HKL.out y (HI.out.mem y hy).1).1; omega)))
        clear hchk
        go_wp2_with fail
        refine HRR.out.mono ?_
        rintro r w5 ⟨rfl, b5⟩
        have BR5 := hide (BR4.out.trans (b5.mono (by omega)))
        have ROW5 := hide (ROW4.out.below b5)
        clear b5 HRR
        cases ho : inOrd (ents (putL x Q)) with
        | true =>
          have HO := hide ho
          clear ho
          go_wp2_with fail
          exact ⟨⟨j + 1, putL x Q, by go_num, by omega, HI.out.put HX.out HCH.out HO.out HG.out HGC.out ROW5.out BR5.out⟩, by simp [intOf]; omega⟩
        | false =>
          clear ho
          go_wp2_with fail
          exact ⟨⟨j + 1, Q, by go_num, by omega, HI.out.skip BR5.out⟩, by simp [intOf]; omega⟩
      · generalize chk1 x.e = cx at *
        go_wp2_with fail
        exact ⟨⟨j + 1, Q, by go_num, by omega, HI.out.skip BR4.out⟩, by simp [intOf]; omega⟩
    · obtain rfl : j = m := by omega
      clear hjm
      have GOOD : Hid (Good Q) := hide fun y hy => ⟨(HI.out.mem y hy).2, HKC.out y (HI.out.mem y hy).1⟩
      have hwt : wt (ents Q) ≤ 20000 := by
        have h1 := HI.out.wei
        have h3 := HWE.out j
        rw [wt_weigh]
        omega
      have HFIT : Hid (∀ W, Below wr.heap.size wr W → Ents W qa Q) := hide fun W hb => hQE.quiet (Turns.of_below hb (fun _ => False))
      by_cases hQ0 : Q = []
      · subst hQ0
        have HAP := hide (append_bad qa 0 qc [] wr hQE rfl (by omega) GOOD.out rfl)
        clear hI hQE hqc hqz hQl hwt
        go_wp2_with fail
        refine HAP.out.mono ?_
        rintro r w3 ⟨rfl, b3⟩
        have B3 := hide (HI.out.below.trans (b3.mono HI.out.below.size))
        clear b3 HAP
        go_wp2_with fail
        go_ret
        exact ⟨rfl, B3.out⟩
      · have hck : chkL (ents Q) = 0 := by
          unfold chkL
          rw [if_neg]
          rintro (h0 | h0)
          · exact hQ0 (by simpa [ents] using h0)
          · rw [HI.out.ord] at h0; cases h0
        have hn0 : 0 < Q.length := List.length_pos_iff.2 hQ0
        have HAP := hide (append_ok qa Q.length qc Q wr hQE rfl (by omega) (by omega) GOOD.out hck)
        have HFI : Hid (Fine (ents Q)) := hide ⟨fun e he => by obtain ⟨y, hy, rfl⟩ := List.mem_map.1 he; exact (HI.out.mem y hy).2, fun e => hQ0 (by simpa [ents] using e), HI.out.ord⟩
        have hbl : (blkB (ents Q)).length ≤ 40000 := by
          have h1 := blkB_len (ents Q)
          have h2 := rowB_le (ents Q) 0 [] HFI.out.each
          have h3 := mk_len (ents Q)
          have h4 : (ents Q).length = Q.length := by simp [ents]
          omega
        have HBK := hide (blk_back HFI.out (by omega))
        generalize hqn : Q.length = qn at *
        have HQN := hide hqn
        have qn0 : ¬ (qn : Int) = 0 := by omega
        have HPK := hide (pick_any z qn hn0 (by omega))
        clear hI hQE hqc hqz hck hQ0 hqn
        go_wp2_with fail
        refine HAP.out.mono ?_
        rintro r w3 ⟨⟨g, gc, rfl, hg, hgc, hrow⟩, b3⟩
        have hbw := HI.out.below.size
        have B3 := hide (HI.out.below.trans (b3.mono hbw))
        have BR3 := hide b3
        have HROW := hide hrow
        have HQ3 := hide (HFIT.out w3 b3)
        clear b3 HAP hrow HFIT
        generalize blkB (ents Q) = bq at *
        generalize hbn : bq.length = bn at *
        have HBN := hide hbn.symm
        clear hbn
        go_wp2_with fail
        refine (HPK.out _).mono ?_
        rintro r w4 ⟨p, hp, rfl, hw4⟩
        subst hw4
        obtain ⟨y, hy⟩ : ∃ y, Q[p]? = some y := ⟨_, List.getElem?_eq_getElem (by have := HQN.out; omega)⟩
        obtain ⟨⟨b, off, rfl, hc⟩, hyk, hyv⟩ := HQ3.out p y hy
        have hyb := HKL.out y (HI.out.mem y (List.mem_of_getElem? hy)).1
        have hye : (ents Q)[p]? = some y.e := by simp [ents, hy]
        have HYE := hide hye
        have HAT := hide (fun i e he => inOrd_at HI.out.ord p y.e hye i e he)
        obtain ⟨ya, yc, yva, yvc, ye⟩ := y
        have c0 : w4.cell? ⟨b, off + p * 4, none⟩ = some (.slice ya ye.key.length yc) := hc 0 _ rfl
        have c1 : w4.cell? ⟨b, off + p * 4 + 1, none⟩ = some (.int .u64 (ye.seq : Nat)) := hc 1 _ rfl
        have c2 : w4.cell? ⟨b, off + p * 4 + 2, none⟩ = some (.int .i64 ye.kind) := hc 2 _ rfl
        have c3 : w4.cell? ⟨b, off + p * 4 + 3, none⟩ = some (.slice yva ye.val.length yvc) := hc 3 _ rfl
        have p1 : (p : Int) < (qn : Int) := by omega
        have p0 : (0 : Int) ≤ (p : Int) := by omega
        have HY := hide hy
        have HYK := hide hyk
        have HYV := hide hyv
        have b5 := (Below.refl w4.heap.size w4).alloc (Nat.le_refl _) (.cells #[.slice ya ye.key.length yc, .int .u64 (ye.seq : Nat), .int .i64 ye.kind, .slice yva ye.val.length yvc] 28)
        have n5 := heap_alloc_new w4 (.cells #[.slice ya ye.key.length yc, .int .u64 (ye.seq : Nat), .int .i64 ye.kind, .slice yva ye.val.length yvc] 28)
        have hqle : p ≤ (ents Q).length := by have := (List.getElem?_eq_some_iff.1 hye).1; omega
        have HSK := hide (seek_any (some ⟨g, 0, none⟩) bn gc bq ya ye.key.length yc ye.key ye.seq _ ((HROW.out.bytes (c' := gc) HBN.out).quiet (Turns.of_below b5 (fun _ => False))) hgc hbl (Bytes.quiet hyk (Turns.of_below b5 (fun _ => False))) (ents Q) HBK.out p hqle HAT.out)
        have K5 := hide (Bytes.quiet hyk (Turns.of_below b5 (fun _ => False)))
        have V5 := hide (Bytes.quiet hyv (Turns.of_below b5 (fun _ => False)))
        have N5 := hide n5
        have B5 := hide (B3.out.trans (b5.mono B3.out.size))
        have HQL : Hid ((ents Q).length = qn) := hide (by rw [← HQN.out]; simp [ents])
        clear hc hy hyk hyv hye b5 n5 hqle
        go_wp2_with fail
        refine HSK.out.mono ?_
        generalize w4.alloc (.cells #[.slice ya ye.key.length yc, .int .u64 (ye.seq : Nat), .int .i64 ye.kind, .slice yva ye.val.length yvc] 28) = w5 at *
        rintro r w6 ⟨⟨lo, looks, hlk, hlo, hlo2, hcase⟩, b6⟩
        rcases hcase with ⟨x, hx, rfl, hxk, hxv⟩ | hbad
        · have hxe : x.e = ye := by rw [HYE.out] at hx; exact (Option.some.inj hx).symm
          obtain ⟨xa, xc, xva, xvc, xe⟩ := x
          have hxe' : xe = ye := hxe
          subst hxe'
          have hb6 := B5.out.size
          have B6 := hide (B5.out.trans (b6.mono hb6))
          have hs6 := b6.size
          have K6 := hide (Bytes.quiet K5.out (Turns.of_below b6 (fun _ => False)))
          have V6 := hide (Bytes.quiet V5.out (Turns.of_below b6 (fun _ => False)))
          have n6 := heap_keep b6 N5.out
          have hq1 : (qn - 1) / 16 + 1 = (qn + 15) / 16 := by omega
          have HRD : Hid (1 ≤ looks + (p - 16 * lo + 1) ∧ looks + (p - 16 * lo + 1) ≤ 17 + cl ((qn + 15) / 16)) := hide (by
            rw [HQL.out, hq1] at hlk
            rw [HQL.out] at hlo2
            refine ⟨by omega, ?_⟩
            rcases hlo2 with h9 | h9 <;> omega)
          clear hlk hlo hlo2 hx hxe hq1 HSK HAT
          simp only [Tow.kv, Tow.vv] at hxk hxv ⊢
          generalize looks + (p - 16 * lo + 1) = rd at *
          have b7 := (Below.refl w6.heap.size w6).alloc (Nat.le_refl _) (.cells #[.slice xa xe.key.length xc, .int .u64 (xe.seq : Nat), .int .i64 xe.kind, .slice xva xe.val.length xvc] 28)
          have n7 := heap_alloc_new w6 (.cells #[.slice xa xe.key.length xc, .int .u64 (xe.seq : Nat), .int .i64 xe.kind, .slice xva xe.val.length xvc] 28)
          have n7b := heap_keep b7 n6
          have t7 := Turns.of_below b7 (fun _ => False)
          have HEQ := hide (fun W (t : Turns (fun _ => False) (w6.alloc (.cells #[.slice xa xe.key.length xc, .int .u64 (xe.seq : Nat), .int .i64 xe.kind, .slice xva xe.val.length xvc] 28)) W) => entryEq_any xa xva ya yva xe.key.length xc xe.val.length xvc xe.key.length yc xe.val.length yvc xe.seq xe.seq xe.kind xe.kind xe.key xe.val xe.key xe.val W ((Bytes.quiet hxk t7).quiet t) ((Bytes.quiet hxv t7).quiet t) ((Bytes.quiet K6.out t7).quiet t) ((Bytes.quiet V6.out t7).quiet t) (by omega) (by omega))
          have B7 := hide (B6.out.trans (b7.mono B6.out.size))
          have HN7 := hide n7
          have HN7b := hide n7b
          clear b6 n6 b7 n7 n7b t7 hxk hxv
          go_wp2_with fail
          generalize w6.alloc (.cells #[.slice xa xe.key.length xc, .int .u64 (xe.seq : Nat), .int .i64 xe.kind, .slice xva xe.val.length xvc] 28) = w7 at *
          have hr20 : (qn + 15) / 16 ≤ 20 := by omega
          have hclr := cl_le ((qn + 15) / 16)
          generalize hr0 : (qn + 15) / 16 = r0 at *
          have HR0 := hide hr0
          clear hr0
          go_loop [14, 15] (fun bd rv => ∃ B r : Nat, bd = .int .i64 (B : Nat) ∧ rv = .int .i64 (r : Nat) ∧ Hid (B + cl r = 17 + cl r0) ∧ r ≤ 20 ∧ B ≤ 40) (fun _ rv => (intOf rv).toNat)
          case atStart => exact ⟨17, r0, rfl, congrArg (Value.int .i64) (by have := HR0.out; omega), rfl, hr20, by omega⟩
          case round =>
            obtain ⟨B, r, rfl, rfl, HBR, hr, hBb⟩ := hrel
            by_cases hr1 : 1 < (r : Int)
            · have HCL := hide (cl_gt1 (r := r) (by omega))
              have hB9 : B + 1 ≤ 40 := by
                have h8 := HBR.out
                have h7 := HCL.out
                omega
              go_wp2_with fail
              exact ⟨⟨B + 1, (r + 1) / 2, by go_num, congrArg (Value.int .i64) (by omega), by have h8 := HBR.out; have h7 := HCL.out; unfold Hid; omega, by omega, hB9⟩, by simp [intOf]; omega⟩
            · have HCL := hide (cl_le1 (r := r) (by omega))
              have hrd2 : (rd : Int) ≤ (B : Int) := by
                have h8 := HBR.out
                have h7 := HCL.out
                have h6 := HRD.out
                omega
              have hrd1 : (1 : Int) ≤ (rd : Int) := by have h6 := HRD.out; omega
              have e0 := cell_of_row w7 w6.heap.size 0 _ 28 (0, 0) HN7.out
              have e1 := cell_of_row w7 w6.heap.size 1 _ 28 (0, 0) HN7.out
              have e2 := cell_of_row w7 w6.heap.size 2 _ 28 (0, 0) HN7.out
              have e3 := cell_of_row w7 w6.heap.size 3 _ 28 (0, 0) HN7.out
              have f0 := cell_of_row w7 w4.heap.size 0 _ 28 (0, 0) HN7b.out
              have f1 := cell_of_row w7 w4.heap.size 1 _ 28 (0, 0) HN7b.out
              have f2 := cell_of_row w7 w4.heap.size 2 _ 28 (0, 0) HN7b.out
              have f3 := cell_of_row w7 w4.heap.size 3 _ 28 (0, 0) HN7b.out
              simp only [List.getElem?_toArray, List.getElem?_cons_zero, List.getElem?_cons_succ] at e0 e1 e2 e3 f0 f1 f2 f3
              have HE7 := hide (HEQ.out w7 (Turns.refl _ _))
              clear HEQ
              go_wp2_with fail
              refine HE7.out.mono ?_
              rintro r9 w8 ⟨rfl, b8⟩
              have B8 := hide (B7.out.trans (b8.mono B7.out.size))
              simp only [true_and, decide_true]
              clear b8 HE7 e0 e1 e2 e3 f0 f1 f2 f3
              go_wp2_with fail
              go_ret
              exact ⟨rfl, B8.out⟩
        · exfalso
          have h9 := (List.getElem?_eq_some_iff.1 HYE.out).1
          omega
theorem seeks_any (a : Option Addr) (m c' : Nat) (l : List Tow) (z : Int) (w : World) (hl : Ents w a l) (hm : m = l.length) (hf : ∀ x, x ∈ l → Fit x) (hkc : ∀ x, x ∈ l → x.e.key.length ≤ x.kc) :
    Calls Try.prog 5 #[.slice a m c', .int .i64 z] w fun e w' => e = .returned (.bool true) ∧ Below w.heap.size w w' := by
  by_cases h1 : 200 < m
  · exact seeks_many a m c' z w h1
  · by_cases h2 : 20000 < weigh l
    · exact seeks_heavy a m c' l z w hl hm (by omega) hf h2
    · exact seeks_ok a m c' l z w hl hm (by omega) hf hkc (by omega)
end Go.Proofs.Ytolaaodhnhdadaa
