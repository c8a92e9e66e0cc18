import Derived.Test.YtpgligfolecieaaM06
import Derived.Test.YtpgligfolecieaaM02
import Derived.Deep.Slices
/-
  Entries that came in, opened.
-/
namespace Go.Proofs.Ytpgligfolecieaa
open Go.ChangeShapes Go.WideShapes Go.ChangeAt Go.RowKit
set_option maxRecDepth 100000
instance : Inhabited Tow := ⟨⟨none, 0, none, 0, ⟨[], 0, 0, []⟩⟩⟩
theorem cells5 : Try.prog.cellsOf 5 = 1 := by kernel_rfl
theorem bytesOf5 : Try.prog.bytesOf 5 = 1 := by kernel_rfl
theorem bytesOf29 : Try.prog.bytesOf 29 = 64 := by kernel_rfl
theorem bytes_none1 (w : World) : Bytes w (.slice none 0 0) [] := ⟨none, 0, rfl, fun k hk => by simp at hk⟩
theorem open_bytes_cell {H : Type} {enc : TypeId × Value → H} {W : World} {n : Nat} {v : Value} {x : DataW H × List MemPlace} (h : DataW.trod enc Try.prog W 0 (fun _ => true) true n 26 [v] = some x) (hw : ∀ n ∈ x.1.weights Try.prog 26, n ≤ reachBytes) :
    ∃ (a : Option Addr) (m c : Nat) (bs : List (BitVec 8)), v = .slice a m c ∧ Bytes W v bs ∧ m ≤ reachBytes := by
  rcases open_ints Try.underlying26 Try.underlying5 cells5 h with ⟨hv, _⟩ | ⟨a, len, cap, zs, hv, _, hlc, hcap, hlen, hx, hcell, hwf⟩
  · obtain rfl : v = .slice none 0 0 := by simpa using hv
    exact ⟨none, 0, 0, [], rfl, bytes_none1 W, by decide⟩
  · obtain rfl : v = .slice (some a) len cap := by simpa using hv
    have hz : zs.length = cap := by simpa using hlen
    subst hx
    have hw1 : ((lits .u8 (zs.take len) : List (DataW H)).length + (lits .u8 (zs.drop len) : List (DataW H)).length) * Try.prog.bytesOf 5 ≤ reachBytes := hw _ (by simp [DataW.weights, Try.underlying26])
    have hw2 : len ≤ reachBytes := by
      simp only [lits, List.length_map, List.length_take, List.length_drop, bytesOf5] at hw1
      omega
    refine ⟨some a, len, cap, (zs.take len).map fun z => BitVec.ofNat 8 z.toNat, rfl, ⟨some a, cap, by simp; omega, fun k hk => ?_⟩, hw2⟩
    have hkl : k < len := by simp at hk; omega
    obtain ⟨b, off, rfl, hc⟩ := ints_at hcell (by omega)
    refine ⟨b, off, rfl, ?_⟩
    rw [hc k (by omega)]
    have hk' : k < zs.length := by omega
    have hb := bounds_u8 (hwf zs[k] (List.getElem_mem hk'))
    congr 2
    simp [List.getD, hkl, hk']
    omega
theorem weights_in {H : Type} {e : TypeId} : ∀ {l : List (DataW H)} {d : DataW H}, d ∈ l → ∀ n ∈ d.weights Try.prog e, n ∈ DataW.weightsAll Try.prog e l
  | d' :: r, d, hd, n, hn => by
    simp only [DataW.weightsAll, List.mem_append]
    rcases List.mem_cons.1 hd with rfl | h
    · exact Or.inl hn
    · exact Or.inr (weights_in h n hn)
/-- Entries, one behind the other, as they lie in memory. -/
def Ents (w : World) (a : Option Addr) (l : List Tow) : Prop :=
  ∀ k x, l[k]? = some x → (∃ b off, a = some ⟨b, off, none⟩ ∧ ∀ j u, [x.kv, .int .u64 (x.e.seq : Nat), .int .i64 x.e.kind, x.vv][j]? = some u → w.cell? ⟨b, off + k * 4 + j, none⟩ = some u) ∧ Bytes w x.kv x.e.key ∧ Bytes w x.vv x.e.val
def Fit (x : Tow) : Prop := x.e.seq < 18446744073709551616 ∧ x.e.key.length ≤ reachBytes ∧ x.e.val.length ≤ reachBytes
theorem open_ents_cell {H : Type} {enc : TypeId × Value → H} {W : World} {fuel : Nat} {v : Value} {x : DataW H × List MemPlace} (h : DataW.trod enc Try.prog W 0 (fun _ => true) true fuel 31 [v] = some x) (hw : ∀ q ∈ x.1.weights Try.prog 31, q ≤ reachBytes) :
    ∃ (a : Option Addr) (m c : Nat) (l : List Tow), v = .slice a m c ∧ m = l.length ∧ Ents W a l ∧ m ≤ reachBytes ∧ ∀ f ∈ l, Fit f := by
  rcases Go.Deep.open_slice Try.underlying31 h with ⟨hv, _⟩ | ⟨a, len, cap, m, n, D, Pl, hv, _, hlc, hcap, hm, hx, hcells⟩
  · obtain rfl : v = .slice none 0 0 := by simpa using hv
    exact ⟨none, 0, 0, [], rfl, rfl, fun k f hf => by simp at hf, by decide, fun f hf => by simp at hf⟩
  · obtain rfl : v = .slice (some a) len cap := by simpa using hv
    have hm' : m = cap := by simpa using hm
    subst hm'
    subst hx
    have hcw : len ≤ reachBytes := by
      have hw1 := hw _ (by simp only [DataW.weights, Try.underlying31]; exact List.mem_cons_self ..)
      simp only [List.length_map, List.length_range, bytesOf29] at hw1
      omega
    have each : ∀ i, i < len → ∃ f : Tow, (∀ j u, [f.kv, .int .u64 (f.e.seq : Nat), .int .i64 f.e.kind, f.vv][j]? = some u → W.cell? (a.add (i * 4 + j)) = some u) ∧ (Bytes W f.kv f.e.key ∧ Bytes W f.vv f.e.val) ∧ Fit f := by
      intro i hi
      obtain ⟨cs', h1, h2⟩ := hcells i (by omega)
      rw [cells29] at h1
      obtain ⟨_, hlen, hcell⟩ := World.cells?_some h1
      obtain ⟨xs, k, _, hxy, _, hxl, hf⟩ := DataW.trod_struct Try.underlying29 h2
      match xs, hxl, cs', hlen with
      | [y0, y1, y2, y3], _, [v0, v1, v2, v3], _ =>
        have t0 : DataW.trod enc Try.prog W 0 (fun _ => true) true k 26 [v0] = some y0 := by simpa [cells26] using hf 0 _ rfl
        have t1 : DataW.trod enc Try.prog W 0 (fun _ => true) true k 27 [v1] = some y1 := by simpa [cells27] using hf 1 _ rfl
        have t2 : DataW.trod enc Try.prog W 0 (fun _ => true) true k 3 [v2] = some y2 := by simpa [cells3] using hf 2 _ rfl
        have t3 : DataW.trod enc Try.prog W 0 (fun _ => true) true k 26 [v3] = some y3 := by simpa [cells26] using hf 3 _ rfl
        have hD : D i = .agg [y0.1, y1.1, y2.1, y3.1] := by
          have := congrArg Prod.fst hxy
          simpa using this
        have hin : ∀ q ∈ (DataW.agg [y0.1, y1.1, y2.1, y3.1] : DataW H).weights Try.prog 29, q ≤ reachBytes := fun q hq => hw q (by
          simp only [DataW.weights, Try.underlying31, List.mem_cons, List.mem_append]
          refine Or.inr (Or.inl (weights_in (d := D i) (List.mem_map.2 ⟨i, List.mem_range.2 hi, rfl⟩) q ?_))
          rw [hD]
          exact hq)
        have hw0 : ∀ q ∈ y0.1.weights Try.prog 26, q ≤ reachBytes := fun q hq => hin q (by
          simp only [DataW.weights, Try.underlying29, DataW.weightsEach, List.map_cons, List.map_nil, List.mem_append]
          exact Or.inl hq)
        have hw3 : ∀ q ∈ y3.1.weights Try.prog 26, q ≤ reachBytes := fun q hq => hin q (by
          simp only [DataW.weights, Try.underlying29, DataW.weightsEach, List.map_cons, List.map_nil, List.mem_append]
          exact Or.inr (Or.inr (Or.inr (Or.inl hq))))
        obtain ⟨ka, kn, kc, key, rfl, hk, hkn⟩ := open_bytes_cell t0 hw0
        obtain ⟨s, rfl, hs⟩ := u64_cell Try.underlying27 t1
        obtain ⟨z, rfl⟩ := i64_cell Try.underlying3 t2
        obtain ⟨va, vn, vc, val, rfl, hv2, hvn⟩ := open_bytes_cell t3 hw3
        have l1 := hk.len
        have l2 := hv2.len
        subst l1 l2
        refine ⟨⟨ka, kc, va, vc, ⟨key, s, z, val⟩⟩, fun j u hu => ?_, ⟨hk, hv2⟩, hs, hkn, hvn⟩
        have hj : j < 4 := (List.getElem?_eq_some_iff.1 hu).1
        have e0 := hcell j (by omega)
        rw [Go.Deep.add_add] at e0
        rw [e0]
        exact hu
    obtain ⟨q, hq⟩ := Go.Deep.choose_lt each
    refine ⟨some a, len, m, (List.range len).map q, rfl, by simp, fun k f hf => ?_, hcw, fun f hf => ?_⟩
    · have hk : k < len := by
        rcases Nat.lt_or_ge k len with h | h
        · exact h
        · rw [List.getElem?_eq_none (by simpa using h)] at hf; cases hf
      obtain rfl : q k = f := by simpa [hk] using hf
      have hq0 := (hq 0 (by omega)).1 0 _ rfl
      obtain ⟨b, off, spot⟩ := a
      have hspot : spot = none := by simpa [Addr.add] using World.cell?_spot hq0
      subst hspot
      refine ⟨⟨b, off, rfl, fun j u hu => ?_⟩, (hq k hk).2.1⟩
      have := (hq k hk).1 j u hu
      rw [Go.WideShapes.add_plain] at this
      rw [Nat.add_assoc]
      exact this
    · obtain ⟨i, hi, rfl⟩ := List.mem_map.1 hf
      exact (hq i (by simpa using hi)).2.2
/-- Numbers, one behind the other. -/
def Ints (w : World) (a : Option Addr) (n : Nat) : Prop := ∀ k, k < n → ∃ b off z, a = some ⟨b, off, none⟩ ∧ w.cell? ⟨b, off + k, none⟩ = some (.int .i64 z)
theorem open_ints_cell {H : Type} {enc : TypeId × Value → H} {W : World} {n : Nat} {v : Value} {x : DataW H × List MemPlace} (h : DataW.trod enc Try.prog W 0 (fun _ => true) true n 90 [v] = some x) :
    ∃ (a : Option Addr) (m c : Nat), v = .slice a m c ∧ Ints W a m := by
  rcases open_ints Try.underlying90 Try.underlying3 cells3 h with ⟨hv, _⟩ | ⟨a, len, cap, zs, hv, _, hlc, hcap, hlen, _, hcell, hwf⟩
  · obtain rfl : v = .slice none 0 0 := by simpa using hv
    exact ⟨none, 0, 0, rfl, fun k hk => by omega⟩
  · obtain rfl : v = .slice (some a) len cap := by simpa using hv
    have hz : zs.length = cap := by simpa using hlen
    refine ⟨some a, len, cap, rfl, fun k hk => ?_⟩
    obtain ⟨b, off, rfl, hc⟩ := ints_at hcell (by omega)
    exact ⟨b, off, _, rfl, hc k (by omega)⟩
end Go.Proofs.Ytpgligfolecieaa

/-
  Rows of entries: are they the same? how much do they weigh?
-/
namespace Go.Proofs.Ytpgligfolecieaa
open Go.RowKit
set_option maxRecDepth 100000
set_option maxHeartbeats 4000000
theorem Ents.quiet {w w' : World} {a : Option Addr} {l : List Tow} (h : Ents w a l) (t : Turns (fun _ => False) w w') : Ents w' a l := fun k x hx => by
  obtain ⟨⟨b, off, h1, h2⟩, h3, h4⟩ := h k x hx
  exact ⟨⟨b, off, h1, fun j u hu => t.cell (h2 j u hu) (fun x => x)⟩, h3.quiet t, h4.quiet t⟩
theorem entries_same (a a' : Option Addr) (n c c' : Nat) (l l' : List Tow) (w : World) (h : Ents w a l) (h' : Ents w a' l') (he : l.map (·.e) = l'.map (·.e)) (hn : n = l.length) (hmx : n ≤ 1000000) (hb : ∀ x, x ∈ l → x.e.key.length ≤ 1000000 ∧ x.e.val.length ≤ 1000000) :
    Calls Try.prog 19 #[.slice a n c, .slice a' n c'] w fun e w' => e = .returned (.bool true) ∧ Below w.heap.size w w' := by
  have hl' : n = l'.length := by
    have := congrArg List.length he
    simp only [List.length_map] at this
    omega
  have HE := hide he
  have HL := hide hn
  have HL' := hide hl'
  have HA := hide h
  have HA' := hide h'
  have HBO := hide hb
  generalize hB : w.heap.size = B
  have HB := hide hB
  clear he hn h h' hb hl' hB
  go_enter Try.func19, Try.ntmps19
  go_wp2_with fail
  go_loopw [5] (fun iv wr => ∃ k : Nat, iv = .int .i64 (k : Nat) ∧ k ≤ n ∧ Below B w wr) (fun iv _ => n - (intOf iv).toNat)
  case atStart => exact ⟨0, rfl, by omega, Below.refl _ _⟩
  case round =>
    obtain ⟨k, rfl, hk, hbw⟩ := hrel
    have BW := hide hbw
    by_cases hk2 : k < n
    · have i1 : (k : Int) < n := by omega
      have i0 : (0 : Int) ≤ (k : Int) := by omega
      have hkl : k < l.length := by have := HL.out; omega
      have hkl' : k < l'.length := by have := HL'.out; omega
      have tt := Turns.of_below (show Below w.heap.size w wr by rw [HB.out]; exact hbw) (fun _ => False)
      obtain ⟨⟨b, off, rfl, hc⟩, k1, k2⟩ := (HA.out.quiet tt) k l[k] (List.getElem?_eq_getElem hkl)
      obtain ⟨⟨b', off', rfl, hc'⟩, k3, k4⟩ := (HA'.out.quiet tt) k l'[k] (List.getElem?_eq_getElem hkl')
      have hee : l[k].e = l'[k].e := by
        have h1 : (l.map (·.e))[k]? = (l'.map (·.e))[k]? := by rw [HE.out]
        rw [List.getElem?_map, List.getElem?_map, List.getElem?_eq_getElem hkl, List.getElem?_eq_getElem hkl'] at h1
        simpa using h1
      have hbo := HBO.out l[k] (List.getElem_mem hkl)
      have hsz : B ≤ wr.heap.size := by have := tt.size; have := HB.out; omega
      generalize l[k] = x at *
      generalize l'[k] = x' at *
      obtain ⟨ka, kc, va, vc, e⟩ := x
      obtain ⟨ka', kc', va', vc', e'⟩ := x'
      obtain rfl : e = e' := hee
      have HS := hide (fun u => entry_same ka va ka' va' e.key.length kc e.val.length vc kc' vc' e.seq e.kind e.key e.val u)
      have c0 : wr.cell? ⟨b, off + k * 4, none⟩ = some (.slice ka e.key.length kc) := hc 0 _ rfl
      have c1 : wr.cell? ⟨b, off + k * 4 + 1, none⟩ = some (.int .u64 (e.seq : Nat)) := hc 1 _ rfl
      have c2 : wr.cell? ⟨b, off + k * 4 + 2, none⟩ = some (.int .i64 e.kind) := hc 2 _ rfl
      have c3 : wr.cell? ⟨b, off + k * 4 + 3, none⟩ = some (.slice va e.val.length vc) := hc 3 _ rfl
      have d0 : wr.cell? ⟨b', off' + k * 4, none⟩ = some (.slice ka' e.key.length kc') := hc' 0 _ rfl
      have d1 : wr.cell? ⟨b', off' + k * 4 + 1, none⟩ = some (.int .u64 (e.seq : Nat)) := hc' 1 _ rfl
      have d2 : wr.cell? ⟨b', off' + k * 4 + 2, none⟩ = some (.int .i64 e.kind) := hc' 2 _ rfl
      have d3 : wr.cell? ⟨b', off' + k * 4 + 3, none⟩ = some (.slice va' e.val.length vc') := hc' 3 _ rfl
      have K1 := hide k1
      have K2 := hide k2
      have K3 := hide k3
      have K4 := hide k4
      clear hc hc' k1 k2 k3 k4 tt hbw
      have HQ : ∀ u, Turns (fun _ => False) wr u → Calls Try.prog 43 #[.agg #[.slice ka e.key.length kc, .int .u64 (e.seq : Nat), .int .i64 e.kind, .slice va e.val.length vc], .agg #[.slice ka' e.key.length kc', .int .u64 (e.seq : Nat), .int .i64 e.kind, .slice va' e.val.length vc']] u fun x w' => x = .returned (.bool true) ∧ Below u.heap.size u w' := fun u t => HS.out u (K1.out.quiet t) (K2.out.quiet t) (K3.out.quiet t) (K4.out.quiet t) hbo.1 hbo.2
      have HQ := hide HQ
      clear HS K1 K2 K3 K4
      have HQ := hide (HQ.out wr.drew (Turns.refl _ _).drew)
      go_wp2_with fail
      go_region_held (fun w' => (w'.cell? ⟨b, off + k * 4, none⟩ = some (.slice ka e.key.length kc) ∧ w'.cell? ⟨b, off + k * 4 + 1, none⟩ = some (.int .u64 (e.seq : Nat)) ∧ w'.cell? ⟨b, off + k * 4 + 2, none⟩ = some (.int .i64 e.kind) ∧ w'.cell? ⟨b, off + k * 4 + 3, none⟩ = some (.slice va e.val.length vc)) ∧ w'.cell? ⟨b', off' + k * 4, none⟩ = some (.slice ka' e.key.length kc') ∧ w'.cell? ⟨b', off' + k * 4 + 1, none⟩ = some (.int .u64 (e.seq : Nat)) ∧ w'.cell? ⟨b', off' + k * 4 + 2, none⟩ = some (.int .i64 e.kind) ∧ w'.cell? ⟨b', off' + k * 4 + 3, none⟩ = some (.slice va' e.val.length vc')) (first | (with_reducible exact ⟨⟨f0, f1, f2, f3⟩, g0, g1, g2, g3⟩) | (simp only [World.cell?_drew]; with_reducible exact ⟨⟨c0, c1, c2, c3⟩, d0, d1, d2, d3⟩)) (first
        | (go_at_call 43; refine HQ.out.mono ?_; rintro x w2 ⟨rfl, b2⟩; have t2 := (Turns.refl (fun _ => False) wr).drew.trans (Turns.of_below b2 (fun _ => False)); have f0 := t2.cell c0 (fun x => x); have f1 := t2.cell c1 (fun x => x); have f2 := t2.cell c2 (fun x => x); have f3 := t2.cell c3 (fun x => x); have g0 := t2.cell d0 (fun x => x); have g1 := t2.cell d1 (fun x => x); have g2 := t2.cell d2 (fun x => x); have g3 := t2.cell d3 (fun x => x); have T2 := hide t2; clear t2 b2))
      clear f0 f1 f2 f3 g0 g1 g2 g3
      go_wp2_with fail
      go_roundw
      case rel => exact ⟨k + 1, by go_num, by omega, BW.out.trans (T2.out.below hsz (fun _ h => h.elim))⟩
      case measure => simp [intOf]; omega
    · have i1 : ¬ (k : Int) < n := by omega
      clear hk hk2
      go_wp2_with fail
      go_ret
      exact ⟨rfl, BW.out⟩
/-- How many bytes entries have. -/
def weigh : List Tow → Nat
  | [] => 0
  | x :: r => x.e.key.length + x.e.val.length + weigh r
theorem weigh_snoc (x : Tow) : ∀ l : List Tow, weigh (l ++ [x]) = weigh l + (x.e.key.length + x.e.val.length)
  | [] => by simp [weigh]
  | y :: r => by
    have := weigh_snoc x r
    simp only [List.cons_append, weigh, this]
    omega
theorem weigh_mem {x : Tow} : ∀ {l : List Tow}, x ∈ l → x.e.key.length + x.e.val.length ≤ weigh l
  | y :: r, h => by
    unfold weigh
    rcases List.mem_cons.1 h with rfl | h
    · omega
    · have := weigh_mem h
      omega
theorem weigh_le {M : Nat} : ∀ l : List Tow, (∀ x, x ∈ l → x.e.key.length ≤ M ∧ x.e.val.length ≤ M) → weigh l ≤ l.length * (2 * M)
  | [], _ => Nat.zero_le _
  | y :: r, h => by
    have h1 := weigh_le r fun x hx => h x (List.mem_cons_of_mem _ hx)
    have h2 := h y (List.mem_cons_self ..)
    unfold weigh
    rw [List.length_cons, Nat.succ_mul]
    omega
theorem weigh_any (a : Option Addr) (n c : Nat) (l : List Tow) (w : World) (h : Ents w a l) (hn : n = l.length) (hmx : n ≤ 1000) (hf : ∀ x, x ∈ l → Fit x) :
    Calls Try.prog 20 #[.slice a n c] w fun e w' => e = .returned (.int .i64 (weigh l : Nat)) ∧ Turns (fun _ => False) w w' := by
  have HL := hide hn
  have HA := hide h
  have HF := hide hf
  have hW : ∀ k, weigh (l.take k) ≤ 1000 * (2 * reachBytes) := fun k => by
    have h1 := weigh_le (M := reachBytes) (l.take k) fun x hx => ⟨(hf x (List.mem_of_mem_take hx)).2.1, (hf x (List.mem_of_mem_take hx)).2.2⟩
    have h2 : (l.take k).length ≤ 1000 := by rw [List.length_take]; omega
    exact Nat.le_trans h1 (Nat.mul_le_mul_right _ h2)
  have HW := hide hW
  clear hn h hf hW
  go_enter Try.func20, Try.ntmps20
  go_wp2_with fail
  go_loopw [3, 4] (fun sv iv wr => ∃ k : Nat, sv = .int .i64 (weigh (l.take k) : Nat) ∧ iv = .int .i64 (k : Nat) ∧ k ≤ n ∧ Turns (fun _ => False) w wr) (fun _ iv _ => n - (intOf iv).toNat)
  case atStart => exact ⟨0, rfl, rfl, by omega, Turns.refl _ _⟩
  case round =>
    obtain ⟨k, rfl, rfl, hk, ht⟩ := hrel
    have TT := hide ht
    by_cases hk2 : k < n
    · have i1 : (k : Int) < n := by omega
      have i0 : (0 : Int) ≤ (k : Int) := by omega
      have hkl : k < l.length := by have := HL.out; omega
      obtain ⟨⟨b, off, rfl, hc⟩, _⟩ := (HA.out.quiet ht) k l[k] (List.getElem?_eq_getElem hkl)
      have hw1 := HW.out k
      have hw2 := HW.out (k + 1)
      have HTK := hide (List.take_succ_eq_append_getElem hkl)
      have hws : weigh (l.take (k + 1)) = weigh (l.take k) + (l[k].e.key.length + l[k].e.val.length) := by rw [HTK.out, weigh_snoc]
      rw [hws] at hw2
      have HWS := hide hws
      generalize l[k] = x at *
      obtain ⟨ka, kc, va, vc, e⟩ := x
      have c0 : wr.cell? ⟨b, off + k * 4, none⟩ = some (.slice ka e.key.length kc) := hc 0 _ rfl
      have c3 : wr.cell? ⟨b, off + k * 4 + 3, none⟩ = some (.slice va e.val.length vc) := hc 3 _ rfl
      unfold reachBytes at hw1 hw2
      clear hc ht hws
      simp only at hw2
      generalize weigh (l.take k) = W0 at *
      go_wp2_with fail
      go_quiet (fail)
      go_wp2
      go_roundw
      case rel =>
        refine ⟨k + 1, ?_, by go_num, by omega, ?_⟩
        · rw [HWS.out]
          go_num
        · first
            | exact TT.out.drew
            | exact TT.out.drewN _
      case measure => simp [intOf]; omega
    · have i1 : ¬ (k : Int) < n := by omega
      have hkn : k = n := by omega
      have HK := hide hkn
      clear hk hk2 hkn ht
      go_wp2_with fail
      go_ret
      refine ⟨?_, TT.out⟩
      rw [HK.out, HL.out, List.take_length]
      rfl
end Go.Proofs.Ytpgligfolecieaa
