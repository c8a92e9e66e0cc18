import Derived.Test.YtefjljdgdoklmaaM02
import Derived.Test.YtefjljdgdoklmaaM16
import Derived.Deep.Slices
/-
  A script of calls that came in, opened.
-/
namespace Go.Proofs.Ytefjljdgdoklmaa
open Go.ChangeShapes Go.WideShapes Go.ChangeAt Go.RowKit
/-- One call of a script, as it lies in memory. -/
structure ActP where
  kind : Int
  N : Int
  M : Int
  E : Int
  s : ByteArray
  t : ByteArray
  ba : Option Addr
  ka : Option Addr
  bn : Nat
  bc : Nat
  kn : Nat
  kc : Nat
  bs : List (BitVec 8)
  ks : List Int
instance : Inhabited ActP := ⟨⟨0, 0, 0, 0, ⟨#[]⟩, ⟨#[]⟩, none, none, 0, 0, 0, 0, [], []⟩⟩
def ActP.cells (x : ActP) : List Value := [.int .i64 x.kind, .string x.s, .string x.t, .slice x.ba x.bn x.bc, .int .i64 x.N, .int .i64 x.M, .int .i64 x.E, .slice x.ka x.kn x.kc]
structure ActP.okay (w : World) (x : ActP) : Prop where
  bytes : Bytes w (.slice x.ba x.bn x.bc) x.bs
  ints : Ints w x.ka x.kn x.ks
  n : -9223372036854775808 ≤ x.N ∧ x.N ≤ 9223372036854775807
  m : x.M ≤ 9223372036854775807
  each : ∀ z, z ∈ x.ks → z ≤ 9223372036854775807 ∧ -9223372036854775808 ≤ z
  bb : ∀ p o, x.ba = some ⟨p, o, none⟩ → 0 < x.bn → p < w.heap.size
  kb : ∀ p o, x.ka = some ⟨p, o, none⟩ → 0 < x.kn → p < w.heap.size
def Acts0 (w : World) (a : Option Addr) (l : List ActP) : Prop :=
  ∀ k x, l[k]? = some x → (∃ b off, a = some ⟨b, off, none⟩ ∧ b < w.heap.size ∧ ∀ j u, x.cells[j]? = some u → w.cell? ⟨b, off + k * 8 + j, none⟩ = some u) ∧ x.okay w
theorem block_lt {w : World} {a : Addr} {v : Value} (h : w.cell? a = some v) : a.block < w.heap.size := block_lt_of_cell h
theorem bytes_block {w : World} {a : Option Addr} {n c : Nat} {bs : List (BitVec 8)} (h : Bytes w (.slice a n c) bs) (p o : Nat) (e : a = some ⟨p, o, none⟩) (h0 : 0 < n) : p < w.heap.size := by
  have hl := h.len
  obtain ⟨a', c', e', h⟩ := h
  cases e'
  obtain ⟨b, off, h1, h2⟩ := h 0 (by omega)
  rw [e] at h1
  cases h1
  exact block_lt h2
theorem ints_block {w : World} {a : Option Addr} {n : Nat} {ks : List Int} (h : Ints w a n ks) (p o : Nat) (e : a = some ⟨p, o, none⟩) (h0 : 0 < n) : p < w.heap.size := by
  obtain ⟨b, off, h1, h2⟩ := h.2 0 h0
  rw [e] at h1
  cases h1
  exact block_lt h2
theorem i64_cell {H : Type} {enc : TypeId × Value → H} {W : World} {n t : Nat} {v : Value} {x : DataW H × List MemPlace} (ht : Try.prog.underlying t = some (.int .i64)) (h : DataW.trod enc Try.prog W 0 (fun _ => true) true n t [v] = some x) :
    ∃ z : Int, v = .int .i64 z ∧ -9223372036854775808 ≤ z ∧ z ≤ 9223372036854775807 := by
  obtain ⟨z, hz, _, hw⟩ := DataW.trod_int ht h
  have hb := bounds_i64 hw
  exact ⟨z, by simpa using hz, by omega, by omega⟩
set_option maxRecDepth 100000 in
theorem open_ints_cell {H : Type} {enc : TypeId × Value → H} {W : World} {n : Nat} {v : Value} {x : DataW H × List MemPlace} (h : DataW.trod enc Try.prog W 0 (fun _ => true) true n 47 [v] = some x) :
    ∃ (a : Option Addr) (m c : Nat) (ks : List Int), v = .slice a m c ∧ Ints W a m ks ∧ ∀ z, z ∈ ks → z ≤ 9223372036854775807 ∧ -9223372036854775808 ≤ z := by
  rcases open_ints Try.underlying47 Try.underlying3 cells3 h with ⟨hv, _⟩ | ⟨a, len, cap, zs, hv, _, hlc, hcap, hlen, _, hcell, hwf⟩
  · obtain rfl : v = .slice none 0 0 := by simpa using hv
    exact ⟨none, 0, 0, [], rfl, ⟨rfl, fun k hk => by omega⟩, fun z hz => by cases hz⟩
  · obtain rfl : v = .slice (some a) len cap := by simpa using hv
    have hz : zs.length = cap := by simpa using hlen
    refine ⟨some a, len, cap, zs.take len, rfl, ⟨by rw [List.length_take]; omega, fun k hk => ?_⟩, fun z hz => ?_⟩
    · obtain ⟨b, off, rfl, hc⟩ := ints_at hcell (by omega)
      refine ⟨b, off, rfl, ?_⟩
      rw [hc k (by omega)]
      have hk' : k < zs.length := by omega
      simp [List.getD, hk, hk']
    · have hb := bounds_i64 (hwf z (List.mem_of_mem_take hz))
      omega
set_option maxRecDepth 100000 in
theorem open_acts {H : Type} {enc : TypeId × Value → H} {W : World} {r : Reach} {b0 : Nat} {v : Value} {d : DataW H} {p : List MemPlace} (hval : Value.okWide Try.prog W r b0 41 v) (h : DataW.Trod enc Try.prog W 0 (fun _ => true) true 41 v d p) :
    ∃ (a : Option Addr) (n c : Nat) (l : List ActP), v = .slice a n c ∧ n = l.length ∧ Acts0 W a l := by
  obtain ⟨fuel, h⟩ := h
  obtain ⟨a0, len0, cap0, rfl⟩ := okWide_slice Try.underlying41 hval
  have h' : DataW.trod enc Try.prog W 0 (fun _ => true) true fuel 41 [.slice a0 len0 cap0] = some (d, p) := h
  rcases Go.Deep.open_slice Try.underlying41 h' with ⟨hv, _⟩ | ⟨a, len, cap, m, n, D, Pl, hv, _, hlc, hcap, hm, hx, hcells⟩
  · obtain ⟨rfl, rfl, rfl⟩ : a0 = none ∧ len0 = 0 ∧ cap0 = 0 := by simpa using hv
    exact ⟨none, 0, 0, [], rfl, rfl, fun k x hx => by simp at hx⟩
  · obtain ⟨rfl, rfl, rfl⟩ : a0 = some a ∧ len0 = len ∧ cap0 = cap := by simpa using hv
    have hm' : m = cap0 := by simpa using hm
    subst hm'
    have each : ∀ i, i < len0 → ∃ x : ActP, (∀ j u, x.cells[j]? = some u → W.cell? (a.add (i * 8 + j)) = some u) ∧ x.okay W := by
      intro i hi
      obtain ⟨cs', h1, h2⟩ := hcells i (by omega)
      rw [cells49] at h1
      obtain ⟨_, hlen, hcell⟩ := World.cells?_some h1
      obtain ⟨xs, k, _, _, _, hxl, hf⟩ := DataW.trod_struct Try.underlying49 h2
      match xs, hxl, cs', hlen with
      | [y0, y1, y2, y3, y4, y5, y6, y7], _, [c0, c1, c2, c3, c4, c5, c6, c7], _ =>
        have t0 : DataW.trod enc Try.prog W 0 (fun _ => true) true k 3 [c0] = some y0 := by simpa [cells3] using hf 0 _ rfl
        have t1 : DataW.trod enc Try.prog W 0 (fun _ => true) true k 9 [c1] = some y1 := by simpa [cells9] using hf 1 _ rfl
        have t2 : DataW.trod enc Try.prog W 0 (fun _ => true) true k 9 [c2] = some y2 := by simpa [cells9] using hf 2 _ rfl
        have t3 : DataW.trod enc Try.prog W 0 (fun _ => true) true k 28 [c3] = some y3 := by simpa [cells28] using hf 3 _ rfl
        have t4 : DataW.trod enc Try.prog W 0 (fun _ => true) true k 3 [c4] = some y4 := by simpa [cells3] using hf 4 _ rfl
        have t5 : DataW.trod enc Try.prog W 0 (fun _ => true) true k 3 [c5] = some y5 := by simpa [cells3] using hf 5 _ rfl
        have t6 : DataW.trod enc Try.prog W 0 (fun _ => true) true k 23 [c6] = some y6 := by simpa [cells23] using hf 6 _ rfl
        have t7 : DataW.trod enc Try.prog W 0 (fun _ => true) true k 47 [c7] = some y7 := by simpa [cells47] using hf 7 _ rfl
        obtain ⟨kind, rfl⟩ := int_cell Try.underlying3 t0
        obtain ⟨A, rfl⟩ := text_cell Try.underlying9 t1
        obtain ⟨C, rfl⟩ := text_cell Try.underlying9 t2
        obtain ⟨ba, bn, bc, bs, rfl, hbs, _⟩ := open_cell t3
        obtain ⟨N, rfl, hn⟩ := i64_cell Try.underlying3 t4
        obtain ⟨M, rfl, hmm⟩ := i64_cell Try.underlying3 t5
        obtain ⟨E, rfl⟩ := int_cell Try.underlying23 t6
        obtain ⟨ka, kn, kc, ks, rfl, hks, hkb⟩ := open_ints_cell t7
        refine ⟨⟨kind, N, M, E, A, C, ba, ka, bn, bc, kn, kc, bs, ks⟩, fun j u hu => ?_, ⟨hbs, hks, hn, hmm.2, hkb, bytes_block hbs, ints_block hks⟩⟩
        have hj : j < 8 := (List.getElem?_eq_some_iff.1 hu).1
        have e0 := hcell j (by omega)
        rw [Go.Deep.add_add] at e0
        rw [e0]
        exact hu
    obtain ⟨q, hq⟩ := Go.Deep.choose_lt each
    refine ⟨some a, len0, m, (List.range len0).map q, rfl, by simp, fun k x hx => ?_⟩
    have hk : k < len0 := by
      rcases Nat.lt_or_ge k len0 with h | h
      · exact h
      · rw [List.getElem?_eq_none (by simpa using h)] at hx; cases hx
    obtain rfl : q k = x := by simpa [hk] using hx
    have hq0 := (hq 0 (by omega)).1 0 _ rfl
    obtain ⟨b, off, spot⟩ := a
    have hspot : spot = none := by simpa [Addr.add] using World.cell?_spot hq0
    subst hspot
    refine ⟨⟨b, off, rfl, by have := block_lt hq0; simpa [Addr.add] using this, fun j u hu => ?_⟩, (hq k hk).2⟩
    have := (hq k hk).1 j u hu
    rw [Go.WideShapes.add_plain] at this
    rw [Nat.add_assoc]
    exact this
end Go.Proofs.Ytefjljdgdoklmaa

/-
  Is a script gone through?
-/
namespace Go.Proofs.Ytefjljdgdoklmaa
open Go.RowKit
def ActP.small (x : ActP) : Prop := x.bn ≤ 300 ∧ x.kn ≤ 80 ∧ x.s.size ≤ 300 ∧ x.t.size ≤ 300
def SmallSays (n : Nat) (l : List ActP) (w : World) (e : Ending) (w' : World) : Prop := ∃ b, e = .returned (.bool b) ∧ (b = true → n ≤ 80 ∧ ∀ x, x ∈ l → x.small) ∧ w' = w
set_option maxRecDepth 100000 in
set_option maxHeartbeats 4000000 in
theorem small_any (a : Option Addr) (n c : Nat) (l : List ActP) (w : World) (hl : n = l.length) (h : Acts0 w a l) :
    Calls Try.prog 23 #[.slice a n c] w (SmallSays n l w) := by
  have HL := hide hl
  have HA := hide h
  clear hl h
  go_enter Try.func23, Try.ntmps23
  by_cases hn : n ≤ 80
  · have i0 : ¬ (80 : Int) < n := by omega
    go_wp2_with fail
    go_loopw [3] (fun iv wr => ∃ k : Nat, iv = .int .i64 (k : Nat) ∧ k ≤ n ∧ wr = w ∧ ∀ x, x ∈ l.take k → x.small) (fun iv _ => n - (intOf iv).toNat)
    case atStart => exact ⟨0, rfl, by omega, rfl, fun x hx => by simp at hx⟩
    case round =>
      obtain ⟨k, rfl, hk, hw, hs⟩ := hrel
      subst hw
      have HS := hide hs
      clear hs
      by_cases hk2 : k < n
      · have i1 : (k : Int) < n := by omega
        have hkl : k < l.length := by have := HL.out; omega
        obtain ⟨⟨b, off, rfl, _, hc⟩, _⟩ := HA.out k l[k] (List.getElem?_eq_getElem hkl)
        have c3 := hc 3 _ rfl
        have c7 := hc 7 _ rfl
        have c1 := hc 1 _ rfl
        have c2 := hc 2 _ rfl
        have HTK := hide (List.take_succ_eq_append_getElem hkl)
        clear hc
        generalize l[k] = x at *
        obtain ⟨kind, N, M, E, s, t, ba, ka, bn, bc, kn, kc, bs, ks⟩ := x
        simp only at c3 c7 c1 c2
        by_cases q1 : bn ≤ 300
        · have j1 : ¬ (300 : Int) < bn := by omega
          by_cases q2 : kn ≤ 80
          · have j2 : ¬ (80 : Int) < kn := by omega
            by_cases q3 : s.size ≤ 300
            · have j3 : ¬ (300 : Int) < s.size := by omega
              by_cases q4 : t.size ≤ 300
              · have j4 : ¬ (300 : Int) < t.size := by omega
                go_wp2_with fail
                go_roundw
                case rel =>
                  refine ⟨k + 1, by go_num, by omega, by trivial, fun x hx => ?_⟩
                  rw [HTK.out, List.mem_append] at hx
                  rcases hx with hx | hx
                  · exact HS.out x hx
                  · obtain rfl := List.mem_singleton.1 hx
                    exact ⟨q1, q2, q3, q4⟩
                case measure =>
                  simp [intOf]
                  omega
              · have j4 : (300 : Int) < t.size := by omega
                go_wp2_with fail
                go_ret
                exact ⟨_, rfl, fun e => (by simp at e), rfl⟩
            · have j3 : (300 : Int) < s.size := by omega
              go_wp2_with fail
              go_ret
              exact ⟨_, rfl, fun e => (by simp at e), rfl⟩
          · have j2 : (80 : Int) < kn := by omega
            go_wp2_with fail
            go_ret
            exact ⟨_, rfl, fun e => (by simp at e), rfl⟩
        · have j1 : (300 : Int) < bn := by omega
          go_wp2_with fail
          go_ret
          exact ⟨_, rfl, fun e => (by simp at e), rfl⟩
      · have i1 : ¬ (k : Int) < n := by omega
        have he : k = n := by omega
        have HE := hide he
        clear he
        go_wp2_with fail
        go_ret
        refine ⟨_, rfl, fun _ => ⟨hn, fun x hx => HS.out x ?_⟩, rfl⟩
        rw [HE.out, HL.out, List.take_length]
        exact hx
  · have i0 : (80 : Int) < n := by omega
    go_wp2_with fail
    go_ret
    exact ⟨_, rfl, fun e => (by simp at e), rfl⟩
end Go.Proofs.Ytefjljdgdoklmaa
