/-
  How many bytes numbers have, and the whole edit of a version: bounds.
-/
import Derived.Test.YtkmcdjbadngfgaaVf
namespace Go.Proofs.Ytkmcdjbadngfgaa
open Go.RowKit Go.Maps
set_option maxRecDepth 100000
set_option maxHeartbeats 4000000
/-- Numbers, one behind the other. -/
def Nums (w : World) (a : Option Addr) (zs : List Nat) : Prop := ∀ (k : Nat) (z : Nat), zs[k]? = some z → z < 18446744073709551616 ∧ ∃ b off, a = some ⟨b, off, none⟩ ∧ w.cell? ⟨b, off + k, none⟩ = some (.int .u64 (z : Nat))
theorem Nums.quiet {w w' : World} {a : Option Addr} {zs : List Nat} (h : Nums w a zs) (t : Turns (fun _ => False) w w') : Nums w' a zs := fun k z hz => by
  obtain ⟨h0, b, off, e, hc⟩ := h k z hz
  exact ⟨h0, b, off, e, t.cell hc (fun x => x)⟩
theorem nums_of_block {w : World} {g : Nat} {zs : List Nat} {t : TypeId} {q : Nat × Nat} (h : w.heap[g]? = some (.cells (zs.map fun (z : Nat) => Value.int .u64 (z : Nat)).toArray t q)) (hz : ∀ z ∈ zs, z < 18446744073709551616) : Nums w (some ⟨g, 0, none⟩) zs := fun k z hk =>
  ⟨hz z (List.mem_of_getElem? hk), g, 0, rfl, by rw [Nat.zero_add, cell_of_row w g k _ t q h]; simp [hk]⟩
theorem numbersSize_any (a : Option Addr) (n c : Nat) (zs : List Nat) (w : World) (h : Nums w a zs) (hn : n = zs.length) (hmx : n ≤ 1000) :
    Calls Try.prog 85 #[.slice a n c] w fun e w' => ∃ t : Nat, e = .returned (.int .i64 (t : Nat)) ∧ t ≤ 10 * n ∧ w' = w := by
  have H := hide h
  have HL := hide hn
  have hni : (n : Int) ≤ 1000 := by omega
  clear h hn
  go_enter Try.func85, Try.ntmps85
  go_wp2_with fail
  go_loopw [3, 8] (fun s i wr => ∃ k t : Nat, i = .int .i64 (k : Nat) ∧ s = .int .i64 (t : Nat) ∧ k ≤ n ∧ t ≤ 10 * k ∧ wr = w) (fun _ i _ => n - (intOf i).toNat)
  case atStart => exact ⟨0, 0, rfl, rfl, Nat.zero_le _, Nat.zero_le _, rfl⟩
  case round =>
    obtain ⟨k, t, rfl, rfl, hk, ht, rfl⟩ := hrel
    by_cases hkn : k < n
    · obtain ⟨z, hz⟩ : ∃ x, zs[k]? = some x := ⟨_, List.getElem?_eq_getElem (by have := HL.out; omega)⟩
      obtain ⟨hzb, b, off, rfl, hcl⟩ := H.out k z hz
      have i1 : (k : Int) < (n : Int) := by omega
      have i0 : (0 : Int) ≤ (k : Int) := by omega
      obtain ⟨s, hs⟩ : ∃ s : Nat, szN (z : Int) = s := ⟨(szN z).toNat, by have := szN_le (z : Int); omega⟩
      have hs2 : s ≤ 10 := by have := szN_le (z : Int); omega
      have CS := hide (size_any z hzb wr)
      rw [hs] at CS
      clear hz hs
      go_wp2_with fail
      refine CS.out.mono ?_
      rintro e w1 ⟨rfl, rfl⟩
      go_wp2_with fail
      go_roundw
      case rel => exact ⟨k + 1, t + s, by go_num, by go_num, by omega, by omega, trivial⟩
      case measure => simp [intOf]; omega
    · obtain rfl : k = n := by omega
      go_wp2_with fail
      go_ret
      exact ⟨t, rfl, ht, rfl⟩
/-- An add as a value: a level, and a file. -/
def addAgg (lev : Int) (x : Tf) : Value := .agg #[.int .i64 lev, .int .u64 (x.f.no : Nat), .int .i64 x.f.size, .slice x.la x.f.least.length x.lc, .slice x.ma x.f.most.length x.mc, .int .i64 x.f.ents, .int .u64 (x.f.seq : Nat)]
theorem numbersOf_any (lev : Nat) (x : Tf) (w : World) (hl : lev ≤ 1000000) (h0 : x.f.no < 18446744073709551616) (h1 : 0 ≤ x.f.size) (h2 : x.f.size ≤ 16777216) (h3 : 0 ≤ x.f.ents) (h4 : x.f.ents ≤ 16777216) (h5 : x.f.seq < 18446744073709551616) :
    Calls Try.prog 86 #[addAgg lev x] w fun e w' => ∃ g, e = .returned (.slice (some ⟨g, 0, none⟩) 5 5) ∧ Nums w' (some ⟨g, 0, none⟩) [lev, x.f.no, x.f.size.toNat, x.f.ents.toNat, x.f.seq] ∧ Turns (fun _ => False) w w' := by
  obtain ⟨la, lc, ma, mc, ⟨no, sz, ls, ms, en, sq⟩⟩ := x
  simp only at *
  obtain ⟨s, rfl⟩ : ∃ s : Nat, sz = s := ⟨sz.toNat, by omega⟩
  obtain ⟨t, rfl⟩ : ∃ s : Nat, en = s := ⟨en.toNat, by omega⟩
  unfold addAgg
  simp only [Int.toNat_natCast]
  have TA := hide ((Turns.refl (fun _ => False) w).alloc (.cells #[.int .i64 (lev : Nat), .int .u64 (no : Nat), .int .i64 (s : Nat), .slice la ls.length lc, .slice ma ms.length mc, .int .i64 (t : Nat), .int .u64 (sq : Nat)] 102))
  have l1 : (lev : Int) ≤ 1000000 := by omega
  go_enter Try.func86, Try.ntmps86
  go_wp2_with fail
  go_ret
  refine ⟨w.heap.size + 1, rfl, nums_of_block (t := 23) (q := (0, 0)) ?_ (by simp; omega), TA.out.alloc _⟩
  have e := heap_alloc_new (w.alloc (.cells #[.int .i64 (lev : Nat), .int .u64 (no : Nat), .int .i64 (s : Nat), .slice la ls.length lc, .slice ma ms.length mc, .int .i64 (t : Nat), .int .u64 (sq : Nat)] 102)) (.cells #[.int .u64 (lev : Nat), .int .u64 (no : Nat), .int .u64 (s : Nat), .int .u64 (t : Nat), .int .u64 (sq : Nat)] 23)
  rw [World.size_alloc] at e
  exact e
def keyB (y : Tf) : Nat := y.f.least.length + y.f.most.length
def byts (L : List Lv) : Nat := (L.map fun x => (x.l.map keyB).sum).sum
theorem byts_take {L : List Lv} {i : Nat} {x : Lv} (h : L[i]? = some x) : byts (L.take (i + 1)) = byts (L.take i) + (x.l.map keyB).sum := by
  have e : L.take (i + 1) = L.take i ++ [x] := by rw [List.take_add_one, h]; rfl
  unfold byts
  rw [e, List.map_append, List.sum_append]
  simp
theorem byts_take_le (L : List Lv) (i : Nat) : byts (L.take i) ≤ byts L := by
  have : byts L = byts (L.take i) + byts (L.drop i) := by unfold byts; rw [← List.sum_append, ← List.map_append, List.take_append_drop]
  omega
theorem keyB_take {l : List Tf} {i : Nat} {x : Tf} (h : l[i]? = some x) : ((l.take (i + 1)).map keyB).sum = ((l.take i).map keyB).sum + keyB x := by
  have e : l.take (i + 1) = l.take i ++ [x] := by rw [List.take_add_one, h]; rfl
  rw [e, List.map_append, List.sum_append]
  simp
theorem keyB_take_le (l : List Tf) (i : Nat) : ((l.take i).map keyB).sum ≤ (l.map keyB).sum := by
  have : (l.map keyB).sum = ((l.take i).map keyB).sum + ((l.drop i).map keyB).sum := by rw [← List.sum_append, ← List.map_append, List.take_append_drop]
  omega
theorem wrongF_false {f : Fl} (h : wrongF f = false) : 1 ≤ f.no ∧ f.seq ≤ 72057594037927935 ∧ 0 ≤ f.size ∧ f.size ≤ 16777216 ∧ 1 ≤ f.ents ∧ f.ents ≤ 16777216 ∧ 1 ≤ f.least.length ∧ f.least.length ≤ 4096 ∧ 1 ≤ f.most.length ∧ f.most.length ≤ 4096 ∧ cmpB f.least f.most ≤ 0 := by
  simp [wrongF, isK] at h
  omega
end Go.Proofs.Ytkmcdjbadngfgaa
