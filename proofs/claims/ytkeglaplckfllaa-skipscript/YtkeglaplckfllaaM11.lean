import Derived.Test.YtkeglaplckfllaaM10
import Derived.Lib.SlBytesConst
import Derived.Lib.ConvBytes
/-
  New, entries of texts, and what Insert, Get come to where it is known.
-/
namespace Go.Proofs.Ytkeglaplckfllaa
open Go.RowKit
set_option maxRecDepth 100000
set_option maxHeartbeats 4000000
/-- A text's bytes. -/
def bsOf (s : ByteArray) : List (BitVec 8) := s.data.toList.map fun u => BitVec.ofNat 8 u.toNat
theorem conv_new (s : ByteArray) (w : World) : ∃ c w', (convert 9 26 (.string s)).run Try.prog w = .ok (.slice (some ⟨w.heap.size, 0, none⟩) s.size c) w' ∧ Bytes w' (.slice (some ⟨w.heap.size, 0, none⟩) s.size c) (bsOf s) ∧ Below w.heap.size w w' := by
  refine ⟨_, _, Lib.run_convert_string_bytes w 9 26 5 s Try.underlying9 Try.underlying26 Try.underlying5, ⟨_, _, by simp [bsOf]; rfl, fun k hk => ⟨w.heap.size, 0, rfl, ?_⟩⟩, ⟨rfl, rfl, rfl, by rw [Lib.bytesWorld_size]; omega, fun k hk => Lib.bytesWorld_at_old w 5 s k hk⟩⟩
  have hk' : k < s.data.toList.length := by simpa [bsOf] using hk
  rw [Nat.zero_add, Lib.bytesWorld_cell w 5 s k (by simpa using hk')]
  have h1 : s.data.toList.getD k 0 = s.data.toList[k] := by simp [List.getD, List.getElem?_eq_getElem hk']
  have h2 : (bsOf s).getD k 0 = BitVec.ofNat 8 (s.data.toList[k]).toNat := by
    simp only [bsOf, List.getD, List.getElem?_map, List.getElem?_eq_getElem hk', Option.map_some, Option.getD_some]
  rw [h1, h2]
  have := (s.data.toList[k]).toNat_lt
  congr 2
  simp only [BitVec.toNat_ofNat]
  omega
theorem entry_any (s t : ByteArray) (q : Nat) (w : World) : Calls Try.prog 9 #[.string s, .int .u64 (q : Nat), .string t] w fun e w' => ∃ ka kc va vc, e = .returned (.agg #[.slice ka s.size kc, .int .u64 (q : Nat), .int .i64 1, .slice va t.size vc]) ∧ Bytes w' (.slice ka s.size kc) (bsOf s) ∧ Bytes w' (.slice va t.size vc) (bsOf t) ∧ Below w.heap.size w w' := by
  have n0 := heap_alloc_new w (.cells #[.slice none 0 0, .int .u64 0, .int .i64 0, .slice none 0 0] 29)
  have b0 := (Below.refl w.heap.size w).alloc (Nat.le_refl _) (.cells #[.slice none 0 0, .int .u64 0, .int .i64 0, .slice none 0 0] 29)
  obtain ⟨c1, w1, hc1, hy1, b1⟩ := conv_new s (w.alloc (.cells #[.slice none 0 0, .int .u64 0, .int .i64 0, .slice none 0 0] 29))
  obtain ⟨c2, w2, hc2, hy2, b2⟩ := conv_new t w1
  have HN := hide (heap_keep b2 (heap_keep b1 n0))
  have HY1 := hide (hy1.below b2)
  have HY2 := hide hy2
  have hs1 := b1.size
  rw [World.size_alloc] at hc1 HY1 hs1
  have B2 := hide ((b0.trans (b1.mono b0.size)).trans (b2.mono (Nat.le_trans b0.size b1.size)))
  clear n0 b0 hy1 b1 hy2 b2
  go_enter Try.func9, Try.ntmps9
  go_wp2_with (refine wpList_store_row rfl 29 _ _ rfl _ _ rfl rfl _ _ HN.out ?_ ?_ ?_ ?_; (exact info29); (simp only [List.size_toArray, List.length_cons, List.length_nil]); (simp [Value.oneCell']))
  have tr : Turns (fun j => j = w.heap.size) w2 (w2.setRow w.heap.size #[.slice (some ⟨w.heap.size + 1, 0, none⟩) s.size c1, .int .u64 (q : Nat), .int .i64 1, .slice (some ⟨w1.heap.size, 0, none⟩) t.size c2]) := ⟨rfl, rfl, rfl, by simp, fun k _ hk => setRow_other _ _ _ _ hk⟩
  refine bodyPost_ret (v := .agg #[.slice (some ⟨w.heap.size + 1, 0, none⟩) s.size c1, .int .u64 (q : Nat), .int .i64 1, .slice (some ⟨w1.heap.size, 0, none⟩) t.size c2]) ?_ rfl ?_
  · exact results_cell_row Try.results9 _ _ _ _ _ _ _ rfl (setRow_heap _ _ _ _ _ _ HN.out) Try.underlying29 rfl info29
  · exact ⟨_, _, _, _, rfl, HY1.out.turns tr (fun a n c e => by cases e; show ¬ w.heap.size + 1 = w.heap.size; omega), HY2.out.turns tr (fun a n c e => by cases e; show ¬ w1.heap.size = w.heap.size; omega), B2.out.trans (tr.below B2.out.size (fun k e => by omega))⟩
theorem conv26 (C : Array Value) (n c : Nat) (w : World) : (convert 26 26 (.slice (some ⟨w.heap.size, 0, none⟩) n c)).run Try.prog (w.alloc (.cells C 5)) = .ok (.slice (some ⟨w.heap.size, 0, none⟩) n c) (w.alloc (.cells C 5 (C.size, C.size + 1))) :=
  Lib.run_convert_bytes_const w 26 5 C n c Try.underlying26 Try.underlying5
/-- Bytes in a new row. -/
theorem Bytes.new (w : World) (cs : Array Value) (t c : Nat) (fr : Nat × Nat) (bs : List (BitVec 8)) (h : cs = (bs.map fun b => Value.int .u8 (b.toNat : Int)).toArray) :
    Bytes (w.alloc (.cells cs t fr)) (.slice (some ⟨w.heap.size, 0, none⟩) bs.length c) bs :=
  ⟨_, c, rfl, fun k hk => ⟨w.heap.size, 0, rfl, by
    rw [Nat.zero_add, cell_of_row _ _ k cs t fr (heap_alloc_new w _), h]
    simp [hk]⟩⟩
theorem new_any (w : World) : Calls Try.prog 7 #[] w fun e w' => e = .returned (.pointer (some ⟨w.heap.size + 1, 0, none⟩)) ∧ Tab (fun k => w.heap.size ≤ k) w' (w.heap.size + 1) w.heap.size [] ∧ Below w.heap.size w w' := by
  have hT : Tab (fun k => w.heap.size ≤ k) ((w.alloc (.cells #[.slice none 0 0, .int .u64 0, .int .i64 0, .slice none 0 0, .int .i64 12, .pointer none, .pointer none, .pointer none, .pointer none, .pointer none, .pointer none, .pointer none, .pointer none, .pointer none, .pointer none, .pointer none, .pointer none] 64)).alloc (.cells #[.pointer (some ⟨w.heap.size, 0, none⟩), .int .i64 0, .int .i64 0] 56)) (w.heap.size + 1) w.heap.size [] := by
    have t1 : Turns (fun _ => False) (w.alloc (.cells #[.slice none 0 0, .int .u64 0, .int .i64 0, .slice none 0 0, .int .i64 12, .pointer none, .pointer none, .pointer none, .pointer none, .pointer none, .pointer none, .pointer none, .pointer none, .pointer none, .pointer none, .pointer none, .pointer none] 64)) ((w.alloc (.cells #[.slice none 0 0, .int .u64 0, .int .i64 0, .slice none 0 0, .int .i64 12, .pointer none, .pointer none, .pointer none, .pointer none, .pointer none, .pointer none, .pointer none, .pointer none, .pointer none, .pointer none, .pointer none, .pointer none] 64)).alloc (.cells #[.pointer (some ⟨w.heap.size, 0, none⟩), .int .i64 0, .int .i64 0] 56)) := (Turns.refl _ _).alloc _
    have hn : NodeAt ((w.alloc (.cells #[.slice none 0 0, .int .u64 0, .int .i64 0, .slice none 0 0, .int .i64 12, .pointer none, .pointer none, .pointer none, .pointer none, .pointer none, .pointer none, .pointer none, .pointer none, .pointer none, .pointer none, .pointer none, .pointer none] 64)).alloc (.cells #[.pointer (some ⟨w.heap.size, 0, none⟩), .int .i64 0, .int .i64 0] 56)) w.heap.size 12 (fun _ => .pointer none) _ := (nodeNew w (.slice none 0 0) (.slice none 0 0) 0 0 12 (by decide)).keep t1 (fun x => x)
    refine ⟨?_, ⟨fun p hp => ?_, fun p p' hp hp' _ => ?_⟩, List.Pairwise.nil, fun x hx => (by cases hx), fun x hx => (by cases hx), by simp, fun p hp => ?_, fun x hx => (by cases hx)⟩
    · have := heap_alloc_new (w.alloc (.cells #[.slice none 0 0, .int .u64 0, .int .i64 0, .slice none 0 0, .int .i64 12, .pointer none, .pointer none, .pointer none, .pointer none, .pointer none, .pointer none, .pointer none, .pointer none, .pointer none, .pointer none, .pointer none, .pointer none] 64)) (.cells #[.pointer (some ⟨w.heap.size, 0, none⟩), .int .i64 0, .int .i64 0] 56)
      rw [show (w.alloc (.cells #[.slice none 0 0, .int .u64 0, .int .i64 0, .slice none 0 0, .int .i64 12, .pointer none, .pointer none, .pointer none, .pointer none, .pointer none, .pointer none, .pointer none, .pointer none, .pointer none, .pointer none, .pointer none, .pointer none] 64)).heap.size = w.heap.size + 1 by simp] at this
      exact this
    · have : p = 0 := by simpa using hp
      subst this
      exact ⟨_, hn, fun k x hk => by omega⟩
    · have h1 : p = 0 := by simpa using hp
      have h2 : p' = 0 := by simpa using hp'
      omega
    · have h1 : p = 0 := by simpa using hp
      subst h1
      exact Nat.le_refl _
  have HT := hide hT
  have HB := hide (((Below.refl w.heap.size w).alloc (Nat.le_refl _) (.cells #[.slice none 0 0, .int .u64 0, .int .i64 0, .slice none 0 0, .int .i64 12, .pointer none, .pointer none, .pointer none, .pointer none, .pointer none, .pointer none, .pointer none, .pointer none, .pointer none, .pointer none, .pointer none, .pointer none] 64)).alloc (by simp) (.cells #[.pointer (some ⟨w.heap.size, 0, none⟩), .int .i64 0, .int .i64 0] 56))
  clear hT
  go_enter Try.func7, Try.ntmps7
  go_wp2_with fail
  go_ret
  exact ⟨by simp, HT.out, HB.out⟩
section
variable (A : Nat → Prop) (t bg : Nat) (ts : List Tow) (w : World) (ka va : Option Addr) (kn kc vn vc seq : Nat) (kind hg : Int) (key val : List (BitVec 8))
theorem insert_new (h : Tab A w t bg ts) (hk : Bytes w (.slice ka kn kc) key) (hv : Bytes w (.slice va vn vc) val) (hs : seq < 18446744073709551616) (hm : Smol [(kind, key, val)]) (hn : ts.length ≤ 100000) (hz : sizeT ts ≤ 900000) (hc : chk seq [(kind, key, val)] = 0) (H : Nat) (h1 : 1 ≤ H) (h2 : H ≤ 12) (hat : atT ts (place (key, seq) ts) (key, seq) = none) :
    Calls Try.prog 8 #[.pointer (some ⟨t, 0, none⟩), .agg #[.slice ka kn kc, .int .u64 (seq : Nat), .int .i64 kind, .slice va vn vc], .int .i64 (H : Nat)] w fun e w' => e = .returned (.int .i64 0) ∧ ∃ x : Tow, x.e = ⟨key, seq, kind, val⟩ ∧ x.h = H ∧ Tab (Grow A w) w' t bg (ins ts (place (key, seq) ts) x) ∧ Turns A w w' := by
  refine insert_any A t bg ts w ka va kn kc vn vc seq kind H key val h hk hv hs hm hn hz _ (fun e => absurd hc e) (fun _ e => by omega) (fun _ _ x e => by rw [hat] at e; cases e) (fun _ H' e _ _ _ x w' hx hh hT ht => ⟨rfl, x, hx, by omega, hT, ht⟩)
theorem insert_there (h : Tab A w t bg ts) (hk : Bytes w (.slice ka kn kc) key) (hv : Bytes w (.slice va vn vc) val) (hs : seq < 18446744073709551616) (hm : Smol [(kind, key, val)]) (hn : ts.length ≤ 100000) (hz : sizeT ts ≤ 900000) (hc : chk seq [(kind, key, val)] = 0) (hh : 1 ≤ hg ∧ hg ≤ 12) (x : Tow) (hat : atT ts (place (key, seq) ts) (key, seq) = some x) :
    Calls Try.prog 8 #[.pointer (some ⟨t, 0, none⟩), .agg #[.slice ka kn kc, .int .u64 (seq : Nat), .int .i64 kind, .slice va vn vc], .int .i64 hg] w fun e w' => e = .returned (.int .i64 5) ∧ Below w.heap.size w w' := by
  refine insert_any A t bg ts w ka va kn kc vn vc seq kind hg key val h hk hv hs hm hn hz _ (fun e => absurd hc e) (fun _ e => by omega) (fun _ _ y _ w' b => ⟨rfl, b⟩) (fun _ H' e _ _ hat' => by rw [hat] at hat'; cases hat')
theorem insert_high (h : Tab A w t bg ts) (hk : Bytes w (.slice ka kn kc) key) (hv : Bytes w (.slice va vn vc) val) (hs : seq < 18446744073709551616) (hm : Smol [(kind, key, val)]) (hn : ts.length ≤ 100000) (hz : sizeT ts ≤ 900000) (hc : chk seq [(kind, key, val)] = 0) (hh : hg < 1 ∨ 12 < hg) :
    Calls Try.prog 8 #[.pointer (some ⟨t, 0, none⟩), .agg #[.slice ka kn kc, .int .u64 (seq : Nat), .int .i64 kind, .slice va vn vc], .int .i64 hg] w fun e w' => e = .returned (.int .i64 2) ∧ Below w.heap.size w w' := by
  refine insert_any A t bg ts w ka va kn kc vn vc seq kind hg key val h hk hv hs hm hn hz _ (fun e => absurd hc e) (fun _ _ w' b => ⟨rfl, b⟩) (fun _ e => by omega) (fun _ H' e _ _ => by omega)
theorem insert_wrong (h : Tab A w t bg ts) (hk : Bytes w (.slice ka kn kc) key) (hv : Bytes w (.slice va vn vc) val) (hs : seq < 18446744073709551616) (hm : Smol [(kind, key, val)]) (hn : ts.length ≤ 100000) (hz : sizeT ts ≤ 900000) (hc : chk seq [(kind, key, val)] ≠ 0) :
    Calls Try.prog 8 #[.pointer (some ⟨t, 0, none⟩), .agg #[.slice ka kn kc, .int .u64 (seq : Nat), .int .i64 kind, .slice va vn vc], .int .i64 hg] w fun e w' => e = .returned (.int .i64 (chk seq [(kind, key, val)])) ∧ Below w.heap.size w w' := by
  refine insert_any A t bg ts w ka va kn kc vn vc seq kind hg key val h hk hv hs hm hn hz _ (fun _ w' b => ⟨rfl, b⟩) (fun e => absurd e hc) (fun e => absurd e hc) (fun e => absurd e hc)
theorem get_hit (h : Tab A w t bg ts) (hk : Bytes w (.slice ka kn kc) key) (hn : ts.length ≤ 1000000) (hs : sizeT ts ≤ 1000000) (x : Tow) (hx : ts[place (key, seq) ts]? = some x) (he : x.e.key = key) :
    Calls Try.prog 18 #[.pointer (some ⟨t, 0, none⟩), .slice ka kn kc, .int .u64 (seq : Nat)] w fun e w' => ∃ ka' kc' va' vc', e = .returned (.tuple #[.agg #[.slice ka' x.e.key.length kc', .int .u64 (x.e.seq : Nat), .int .i64 x.e.kind, .slice va' x.e.val.length vc'], .int .i64 0]) ∧ Bytes w' (.slice ka' x.e.key.length kc') x.e.key ∧ Bytes w' (.slice va' x.e.val.length vc') x.e.val ∧ Below w.heap.size w w' := by
  refine get_any A t bg ts w ka kn kc seq key h hk hn hs _ (fun h0 => absurd he (h0 x hx)) (fun y hy _ w' ka' kc' va' vc' h1 h2 b => ?_)
  rw [hx] at hy
  cases hy
  exact ⟨ka', kc', va', vc', rfl, h1, h2, b⟩
theorem get_miss (h : Tab A w t bg ts) (hk : Bytes w (.slice ka kn kc) key) (hn : ts.length ≤ 1000000) (hs : sizeT ts ≤ 1000000) (hx : ∀ x, ts[place (key, seq) ts]? = some x → x.e.key ≠ key) :
    Calls Try.prog 18 #[.pointer (some ⟨t, 0, none⟩), .slice ka kn kc, .int .u64 (seq : Nat)] w fun e w' => e = .returned (.tuple #[.agg #[.slice none 0 0, .int .u64 0, .int .i64 0, .slice none 0 0], .int .i64 6]) ∧ Below w.heap.size w w' := by
  refine get_any A t bg ts w ka kn kc seq key h hk hn hs _ (fun _ w' b => ⟨rfl, b⟩) (fun y hy he => absurd he (hx y hy))
end
end Go.Proofs.Ytkeglaplckfllaa

/-
  The chapter's examples: lives.
-/
namespace Go.Proofs.Ytkeglaplckfllaa
open Go.RowKit
set_option maxRecDepth 100000
set_option maxHeartbeats 4000000
theorem cmpE_same (k : List (BitVec 8)) (i j : Nat) : cmpE (k, i) (k, j) = if j < i then -1 else if i < j then 1 else 0 := by
  unfold cmpE
  rw [if_neg (by rw [(cmpB_zero k k).2 rfl]; exact fun h => h rfl)]
abbrev From (B : Nat) : Nat → Prop := fun k => B ≤ k
theorem Tab.from {B : Nat} {w w' : World} {t bg : Nat} {ts : List Tow} (h : Tab (Grow (From B) w) w' t bg ts) (hB : B ≤ w.heap.size) : Tab (From B) w' t bg ts := h.mono fun k _ hk => by
  rcases hk with hk | hk
  · exact hk
  · exact Nat.le_trans hB hk
def eA : Ent := ⟨[97#8], 1, 1, [120#8]⟩
def eB : Ent := ⟨[97#8], 3, 1, [121#8]⟩
section
variable {x y : Tow}
theorem pl_one (hx : x.e = eA) : place ([97#8], 3) [x] = 0 := by simp [place, hx, eA, Ent.en, cmpE_same]
theorem at_one (hx : x.e = eA) : atT [x] 0 ([97#8], 3) = none := by simp [atT, hx, eA, Ent.en, cmpE_same]
theorem pl_two (hy : y.e = eB) : place ([97#8], 3) [y, x] = 0 := by simp [place, hy, eB, Ent.en, cmpE_same]
theorem at_two (hy : y.e = eB) : atT [y, x] 0 ([97#8], 3) = some y := by simp [atT, hy, eB, Ent.en, cmpE_same]
theorem pl_two2 (hx : x.e = eA) (hy : y.e = eB) : place ([97#8], 2) [y, x] = 1 := by simp [place, hx, hy, eA, eB, Ent.en, cmpE_same]
theorem pl_two9 (hy : y.e = eB) : place ([97#8], 9) [y, x] = 0 := by simp [place, hy, eB, Ent.en, cmpE_same]
theorem pl_two0 (hx : x.e = eA) (hy : y.e = eB) : place ([97#8], 0) [y, x] = 2 := by simp [place, hx, hy, eA, eB, Ent.en, cmpE_same]
theorem size_one (hx : x.e = eA) : sizeT [x] = 34 := by simp [sizeT, hx, eA]
theorem size_two (hx : x.e = eA) (hy : y.e = eB) : sizeT [y, x] = 68 := by simp [sizeT, hx, hy, eA, eB]
end
theorem smolA : Smol [((1 : Int), [97#8], [120#8])] := ⟨by decide, by decide⟩
theorem smolB : Smol [((1 : Int), [97#8], [121#8])] := ⟨by decide, by decide⟩
theorem smolC : Smol [((1 : Int), [97#8], [122#8])] := ⟨by decide, by decide⟩
/-- Two entries are put in. -/
theorem lives_any (w : World) : Calls Try.prog 12 #[] w fun e w' => e = .returned (.bool true) ∧ Below w.heap.size w w' := by
  have hcv := conv26
  have HN := hide (new_any w)
  generalize hB : w.heap.size = B at *
  have HB := hide hB
  clear hB
  go_enter Try.func12, Try.ntmps12
  go_wp2_with fail
  refine HN.out.mono ?_
  rintro e w1 ⟨rfl, hT1, b1⟩
  have T1 := hide hT1
  have B1 := hide b1
  have hsz1 : B ≤ w1.heap.size := by have := b1.size; have := HB.out; omega
  generalize B + 1 = t at *
  clear hT1 b1 HN
  go_wp2_with fail
  refine (entry_any _ _ 1 w1).mono ?_
  rintro e w2 ⟨ka, kc, va, vc, rfl, hk, hv, b2⟩
  have I1 := hide (insert_new (From B) t B [] w2 ka va 1 kc 1 vc 1 1 [97#8] [120#8] (T1.out.quiet (Turns.of_below b2 _)) hk hv (by decide) smolA (by decide) (by decide) (by decide) 1 (by decide) (by decide) rfl)
  have B2 := hide (B1.out.trans (b2.mono hsz1))
  have hsz2 : B ≤ w2.heap.size := Nat.le_trans hsz1 b2.size
  clear hk hv b2 T1 B1
  go_wp2_with fail
  refine I1.out.mono ?_
  rintro e w3 ⟨rfl, x, hx, hxh, hT3, t3⟩
  have hx : x.e = eA := hx
  have T3 := hide (show Tab (From B) w3 t B [x] from hT3.from hsz2)
  have B3 := hide (B2.out.trans (t3.below hsz2 (fun k h => h)))
  have hsz3 : B ≤ w3.heap.size := Nat.le_trans hsz2 t3.size
  have HX := hide hx
  have HXH := hide hxh
  clear hT3 t3 I1 B2 hx hxh
  go_wp2_with fail
  refine (entry_any _ _ 3 w3).mono ?_
  rintro e w4 ⟨ka2, kc2, va2, vc2, rfl, hk, hv, b4⟩
  have I2 := hide (insert_new (From B) t B [x] w4 ka2 va2 1 kc2 1 vc2 3 1 [97#8] [121#8] (T3.out.quiet (Turns.of_below b4 _)) hk hv (by decide) smolB (by simp) (by rw [size_one HX.out]; decide) (by decide) 2 (by decide) (by decide) (by rw [pl_one HX.out]; exact at_one HX.out))
  have B4 := hide (B3.out.trans (b4.mono hsz3))
  have hsz4 : B ≤ w4.heap.size := Nat.le_trans hsz3 b4.size
  clear hk hv b4 T3 B3
  go_wp2_with fail
  refine I2.out.mono ?_
  rintro e w5 ⟨rfl, y, hy, hyh, hT5, t5⟩
  have hy : y.e = eB := hy
  rw [pl_one HX.out] at hT5
  have T5 := hide (show Tab (From B) w5 t B [y, x] from hT5.from hsz4)
  have B5 := hide (B4.out.trans (t5.below hsz4 (fun k h => h)))
  have hsz5 : B ≤ w5.heap.size := Nat.le_trans hsz4 t5.size
  have HY := hide hy
  have HYH := hide hyh
  clear hT5 t5 I2 B4 hy hyh
  go_wp2_with fail
  refine (entry_any _ _ 3 w5).mono ?_
  rintro e w6 ⟨ka3, kc3, va3, vc3, rfl, hk, hv, b6⟩
  have T6 := hide (T5.out.quiet (Turns.of_below b6 _))
  have I3 := hide (insert_there (From B) t B [y, x] w6 ka3 va3 1 kc3 1 vc3 3 1 2 [97#8] [122#8] T6.out hk hv (by decide) smolC (by simp) (by rw [size_two HX.out HY.out]; decide) (by decide) (by decide) y (by rw [pl_two HY.out]; exact at_two HY.out))
  have B6 := hide (B5.out.trans (b6.mono hsz5))
  have hsz6 : B ≤ w6.heap.size := Nat.le_trans hsz5 b6.size
  clear hk hv b6 T5 B5
  go_wp2_with fail
  refine I3.out.mono ?_
  rintro e w7 ⟨rfl, b7⟩
  have T7 := hide (T6.out.quiet (Turns.of_below b7 _))
  have B7 := hide (B6.out.trans (b7.mono hsz6))
  have hsz7 : B ≤ w7.heap.size := Nat.le_trans hsz6 b7.size
  clear b7 T6 B6 I3
  go_wp2_with fail
  have tk8 : Turns (fun _ => False) w7 (w7.alloc (.cells #[.int .u8 97] 5 (1, 2))) := (Turns.refl _ _).alloc _
  have TA8 := hide (T7.out.quiet tk8)
  have G8 := get_hit (From B) t B [y, x] (w7.alloc (.cells #[.int .u8 97] 5 (1, 2))) (some ⟨w7.heap.size, 0, none⟩) 1 1 2 [97#8] TA8.out (Bytes.new w7 #[.int .u8 97] 5 1 (1, 2) [97#8] rfl) (by simp) (by rw [size_two HX.out HY.out]; decide) x (by rw [pl_two2 HX.out HY.out]; rfl) (by rw [HX.out]; rfl)
  rw [HX.out] at G8
  simp only [eA, List.length_cons, List.length_nil] at G8
  have G8 := hide G8
  refine G8.out.mono ?_
  rintro e w8 ⟨k8, kc8, v8, vc8, rfl, _, hv8, b8⟩
  have hs8 : (w7.alloc (.cells #[.int .u8 97] 5 (1, 2))).heap.size = w7.heap.size + 1 := by simp
  have tw8 := tk8.trans (Turns.of_below b8 (fun _ => False))
  have tx8 : Turns (fun _ => False) w8 (w8.alloc (.cells #[.slice k8 1 kc8, .int .u64 1, .int .i64 1, .slice v8 1 vc8] 29)) := (Turns.refl _ _).alloc _
  have T9 := hide ((TA8.out.quiet (Turns.of_below b8 _)).quiet tx8)
  have hsz8 : B ≤ w8.heap.size := by have := b8.size; omega
  have hsz9 : B ≤ (w8.alloc (.cells #[.slice k8 1 kc8, .int .u64 1, .int .i64 1, .slice v8 1 vc8] 29)).heap.size := by simp; omega
  have B9 := hide (B7.out.trans ((tw8.trans tx8).below hsz7 (fun _ h => h.elim)))
  have R8 := hide (heap_alloc_new w8 (.cells #[.slice k8 1 kc8, .int .u64 1, .int .i64 1, .slice v8 1 vc8] 29))
  have V8 := hide (hv8.quiet tx8)
  clear hv8 b8 tk8 TA8 G8 T7 B7 hs8 tw8 tx8
  go_upto_region 5 with (fail)
  generalize w8.alloc (.cells #[.slice k8 1 kc8, .int .u64 1, .int .i64 1, .slice v8 1 vc8] 29) = w9 at *
  generalize w8.heap.size = g8 at *
  go_wp2_with fail
  have tk10 : Turns (fun _ => False) w9 (w9.alloc (.cells #[.int .u8 97] 5 (1, 2))) := (Turns.refl _ _).alloc _
  have TA10 := hide (T9.out.quiet tk10)
  have G10 := get_hit (From B) t B [y, x] (w9.alloc (.cells #[.int .u8 97] 5 (1, 2))) (some ⟨w9.heap.size, 0, none⟩) 1 1 9 [97#8] TA10.out (Bytes.new w9 #[.int .u8 97] 5 1 (1, 2) [97#8] rfl) (by simp) (by rw [size_two HX.out HY.out]; decide) y (by rw [pl_two9 HY.out]; rfl) (by rw [HY.out]; rfl)
  rw [HY.out] at G10
  simp only [eB, List.length_cons, List.length_nil] at G10
  have G10 := hide G10
  refine G10.out.mono ?_
  rintro e w10 ⟨k10, kc10, v10, vc10, rfl, _, hv10, b10⟩
  have hs10 : (w9.alloc (.cells #[.int .u8 97] 5 (1, 2))).heap.size = w9.heap.size + 1 := by simp
  have tw10 := tk10.trans (Turns.of_below b10 (fun _ => False))
  have tx10 : Turns (fun _ => False) w10 (w10.alloc (.cells #[.slice k10 1 kc10, .int .u64 3, .int .i64 1, .slice v10 1 vc10] 29)) := (Turns.refl _ _).alloc _
  have T11 := hide ((TA10.out.quiet (Turns.of_below b10 _)).quiet tx10)
  have hsz10 : B ≤ w10.heap.size := by have := b10.size; omega
  have hsz11 : B ≤ (w10.alloc (.cells #[.slice k10 1 kc10, .int .u64 3, .int .i64 1, .slice v10 1 vc10] 29)).heap.size := by simp; omega
  have B11 := hide (B9.out.trans ((tw10.trans tx10).below hsz9 (fun _ h => h.elim)))
  have R10 := hide (heap_alloc_new w10 (.cells #[.slice k10 1 kc10, .int .u64 3, .int .i64 1, .slice v10 1 vc10] 29))
  have V10 := hide (hv10.quiet tx10)
  have R8 := hide ((tw10.trans tx10).heap R8.out (fun h => h))
  have V8 := hide (V8.out.quiet (tw10.trans tx10))
  clear hv10 b10 tk10 TA10 G10 T9 B9 hs10 tw10 tx10
  go_upto_region 6 with (fail)
  generalize w10.alloc (.cells #[.slice k10 1 kc10, .int .u64 3, .int .i64 1, .slice v10 1 vc10] 29) = w11 at *
  generalize w10.heap.size = g10 at *
  go_wp2_with fail
  have tk12 : Turns (fun _ => False) w11 (w11.alloc (.cells #[.int .u8 97] 5 (1, 2))) := (Turns.refl _ _).alloc _
  have TA12 := hide (T11.out.quiet tk12)
  have G12 := hide (get_miss (From B) t B [y, x] (w11.alloc (.cells #[.int .u8 97] 5 (1, 2))) (some ⟨w11.heap.size, 0, none⟩) 1 1 0 [97#8] TA12.out (Bytes.new w11 #[.int .u8 97] 5 1 (1, 2) [97#8] rfl) (by simp) (by rw [size_two HX.out HY.out]; decide) (fun z hz => by rw [pl_two0 HX.out HY.out] at hz; simp at hz))
  refine G12.out.mono ?_
  rintro e w12 ⟨rfl, b12⟩
  have hs12 : (w11.alloc (.cells #[.int .u8 97] 5 (1, 2))).heap.size = w11.heap.size + 1 := by simp
  have tw12 := tk12.trans (Turns.of_below b12 (fun _ => False))
  have tx12 : Turns (fun _ => False) w12 (w12.alloc (.cells #[.slice none 0 0, .int .u64 0, .int .i64 0, .slice none 0 0] 29)) := (Turns.refl _ _).alloc _
  have T13 := hide ((TA12.out.quiet (Turns.of_below b12 _)).quiet tx12)
  have hsz12 : B ≤ w12.heap.size := by have := b12.size; omega
  have hsz13 : B ≤ (w12.alloc (.cells #[.slice none 0 0, .int .u64 0, .int .i64 0, .slice none 0 0] 29)).heap.size := by simp; omega
  have B13 := hide (B11.out.trans ((tw12.trans tx12).below hsz11 (fun _ h => h.elim)))
  have R12 := hide (heap_alloc_new w12 (.cells #[.slice none 0 0, .int .u64 0, .int .i64 0, .slice none 0 0] 29))
  have R8 := hide ((tw12.trans tx12).heap R8.out (fun h => h))
  have V8 := hide (V8.out.quiet (tw12.trans tx12))
  have R10 := hide ((tw12.trans tx12).heap R10.out (fun h => h))
  have V10 := hide (V10.out.quiet (tw12.trans tx12))
  clear b12 tk12 TA12 G12 T11 B11 hs12 tw12 tx12
  go_upto_region 7 with (fail)
  generalize w12.alloc (.cells #[.slice none 0 0, .int .u64 0, .int .i64 0, .slice none 0 0] 29) = w13 at *
  generalize w12.heap.size = g12 at *
  have l8 : w13.cell? ⟨g8, 3, none⟩ = some (.slice v8 1 vc8) := cell_of_row w13 g8 3 _ 29 (0, 0) R8.out
  have l10 : w13.cell? ⟨g10, 3, none⟩ = some (.slice v10 1 vc10) := cell_of_row w13 g10 3 _ 29 (0, 0) R10.out
  have cv8 : (convert 26 9 (.slice v8 1 vc8)).run Try.prog w13 = .ok (.string ⟨#[120]⟩) w13 := conv_any V8.out
  have cv10 : (convert 26 9 (.slice v10 1 vc10)).run Try.prog w13 = .ok (.string ⟨#[121]⟩) w13 := conv_any V10.out
  have SZ := sizeT_any (From B) t B [y, x] w13 T13.out
  rw [size_two HX.out HY.out] at SZ
  have SZ := hide SZ
  have tk14 : Turns (fun _ => False) w13 (w13.alloc (.cells #[.int .u8 97] 5 (1, 2))) := (Turns.refl _ _).alloc _
  have HH := height_any (From B) t B [y, x] (w13.alloc (.cells #[.int .u8 97] 5 (1, 2))) (some ⟨w13.heap.size, 0, none⟩) 1 1 3 [97#8] (T13.out.quiet tk14) (Bytes.new w13 #[.int .u8 97] 5 1 (1, 2) [97#8] rfl) (by simp)
  rw [pl_two HY.out, at_two HY.out] at HH
  simp only [Option.map_some, Option.getD_some, HYH.out] at HH
  have HH := hide HH
  have TK14 := hide tk14
  clear tk14
  go_wp2_with fail
  refine SZ.out.mono ?_
  rintro e w14 ⟨rfl, hw14⟩
  subst hw14
  go_wp2_with fail
  refine HH.out.mono ?_
  rintro e w15 ⟨rfl, b15⟩
  have BF := hide (B13.out.trans ((TK14.out.trans (Turns.of_below b15 (fun _ => False))).below hsz13 (fun _ h => h.elim)))
  clear b15
  go_wp2_with fail
  go_ret
  exact ⟨rfl, BF.out⟩
end Go.Proofs.Ytkeglaplckfllaa

/-
  A table that is not there, or that nobody made.
-/
namespace Go.Proofs.Ytkeglaplckfllaa
open Go.RowKit
set_option maxRecDepth 100000
set_option maxHeartbeats 4000000
theorem NoTab.quiet {w w' : World} {p : Option Addr} (h : NoTab w p) (t : Turns (fun _ => False) w w') : NoTab w' p := by
  rcases h with rfl | ⟨q, rfl, h⟩
  · exact .inl rfl
  · exact .inr ⟨q, rfl, t.cell h (fun x => x)⟩
def zeroE : Array Value := #[.slice none 0 0, .int .u64 0, .int .i64 0, .slice none 0 0]
section
variable (p : Option Addr) (w : World) (h : NoTab w p)
include h
theorem len_no : Calls Try.prog 13 #[.pointer p] w fun e w' => e = .returned (.int .i64 0) ∧ w' = w := by
  have HM := hide (made_no p w h)
  go_enter Try.func13, Try.ntmps13
  go_wp2_with (go_at_call 35; refine HM.out.mono ?_; rintro e w1 ⟨rfl, rfl⟩)
  go_ret
  exact ⟨rfl, rfl⟩
theorem size_no : Calls Try.prog 22 #[.pointer p] w fun e w' => e = .returned (.int .i64 0) ∧ w' = w := by
  have HM := hide (made_no p w h)
  go_enter Try.func22, Try.ntmps22
  go_wp2_with (go_at_call 35; refine HM.out.mono ?_; rintro e w1 ⟨rfl, rfl⟩)
  go_ret
  exact ⟨rfl, rfl⟩
theorem height_no (k s : Value) : Calls Try.prog 24 #[.pointer p, k, s] w fun e w' => e = .returned (.int .i64 0) ∧ w' = w := by
  have HM := hide (made_no p w h)
  go_enter Try.func24, Try.ntmps24
  go_wp2_with (go_at_call 35; refine HM.out.mono ?_; rintro e w1 ⟨rfl, rfl⟩)
  go_ret
  exact ⟨rfl, rfl⟩
theorem steps_no (k s : Value) : Calls Try.prog 26 #[.pointer p, k, s] w fun e w' => e = .returned (.int .i64 0) ∧ w' = w := by
  have HM := hide (made_no p w h)
  go_enter Try.func26, Try.ntmps26
  go_wp2_with (go_at_call 35; refine HM.out.mono ?_; rintro e w1 ⟨rfl, rfl⟩)
  go_ret
  exact ⟨rfl, rfl⟩
theorem insert_no (a0 a1 a2 a3 : Value) (hh : Int) : Calls Try.prog 8 #[.pointer p, .agg #[a0, a1, a2, a3], .int .i64 hh] w fun e w' => e = .returned (.int .i64 1) ∧ Below w.heap.size w w' := by
  have tk : Turns (fun _ => False) w (w.alloc (.cells #[a0, a1, a2, a3] 29)) := (Turns.refl _ _).alloc _
  have HM := hide (made_no p _ (h.quiet tk))
  have HB := hide (tk.below (Nat.le_refl _) (fun _ x => x.elim))
  clear tk
  go_enter Try.func8, Try.ntmps8
  go_wp2_with (go_at_call 35; refine HM.out.mono ?_; rintro e w1 ⟨rfl, hw1⟩; subst hw1)
  go_ret
  exact ⟨rfl, HB.out⟩
theorem from_no (k : Value) (n : Int) : Calls Try.prog 29 #[.pointer p, k, .int .i64 n] w fun e w' => e = .returned (.slice none 0 0) ∧ Below w.heap.size w w' := by
  have tk : Turns (fun _ => False) w (w.alloc (.cells #[.int .i64 n] 3)) := (Turns.refl _ _).alloc _
  have HM := hide (made_no p _ (h.quiet tk))
  have HB := hide (tk.below (Nat.le_refl _) (fun _ x => x.elim))
  clear tk
  go_enter Try.func29, Try.ntmps29
  go_wp2_with (go_at_call 35; refine HM.out.mono ?_; rintro e w1 ⟨rfl, hw1⟩; subst hw1)
  go_ret
  exact ⟨rfl, HB.out⟩
theorem all_no : Calls Try.prog 11 #[.pointer p] w fun e w' => e = .returned (.slice none 0 0) ∧ Below w.heap.size w w' := by
  have HL := hide (len_no p w h)
  have HF := hide (from_no p w h (.slice none 0 0) 0)
  go_enter Try.func11, Try.ntmps11
  go_wp2_with (first | (go_at_call 13; refine HL.out.mono ?_; rintro e w1 ⟨rfl, hw1⟩; subst hw1) | (go_at_call 29; refine HF.out.mono ?_; rintro e w2 ⟨rfl, b2⟩; have B2 := hide b2; clear b2))
  go_ret
  exact ⟨rfl, B2.out⟩
theorem get_no (k s : Value) : Calls Try.prog 18 #[.pointer p, k, s] w fun e w' => e = .returned (.tuple #[.agg #[.slice none 0 0, .int .u64 0, .int .i64 0, .slice none 0 0], .int .i64 1]) ∧ Below w.heap.size w w' := by
  have tk : Turns (fun _ => False) w (w.alloc (.cells #[.slice none 0 0, .int .u64 0, .int .i64 0, .slice none 0 0] 29)) := (Turns.refl _ _).alloc _
  have HM := hide (made_no p _ (h.quiet tk))
  have HB := hide (tk.below (Nat.le_refl _) (fun _ x => x.elim))
  have HR := hide (heap_alloc_new w (.cells #[.slice none 0 0, .int .u64 0, .int .i64 0, .slice none 0 0] 29))
  clear tk
  go_enter Try.func18, Try.ntmps18
  go_upto_region 2 with (go_at_call 35; refine HM.out.mono ?_; rintro e w1 ⟨rfl, hw1⟩; subst hw1)
  generalize w.alloc (.cells #[.slice none 0 0, .int .u64 0, .int .i64 0, .slice none 0 0] 29) = w1 at *
  generalize hg0 : w.heap.size = g at *
  have q0 := cell_of_row w1 g 0 _ 29 (0, 0) HR.out
  have q1 := cell_of_row w1 g 1 _ 29 (0, 0) HR.out
  have q2 := cell_of_row w1 g 2 _ 29 (0, 0) HR.out
  have q3 := cell_of_row w1 g 3 _ 29 (0, 0) HR.out
  have f0 := frozen_of_row w1 g 0 _ 29 HR.out
  have f1 := frozen_of_row w1 g 1 _ 29 HR.out
  have f2 := frozen_of_row w1 g 2 _ 29 HR.out
  have f3 := frozen_of_row w1 g 3 _ 29 HR.out
  go_wp2_with fail
  have k3 := (((((Tick.refl HR.out).set 0 (.slice none 0 0)).set 1 (.int .u64 0)).set 2 (.int .i64 0)).set 3 (.slice none 0 0))
  refine bodyPost_ret (v := .tuple #[.agg #[.slice none 0 0, .int .u64 0, .int .i64 0, .slice none 0 0], .int .i64 1]) ?_ rfl ?_
  · exact results_cell_tmp Try.results18 _ _ _ _ _ _ _ _ rfl rfl k3.1 Try.underlying29 rfl info29
  · exact ⟨rfl, by rw [hg0]; exact HB.out.trans ((Turns.of_tick k3).below (by have := HB.out.size; omega) (fun k e => by omega))⟩
theorem seek_no (k s : Value) : Calls Try.prog 10 #[.pointer p, k, s] w fun e w' => e = .returned (.tuple #[.agg #[.slice none 0 0, .int .u64 0, .int .i64 0, .slice none 0 0], .bool false]) ∧ Below w.heap.size w w' := by
  have tk : Turns (fun _ => False) w (w.alloc (.cells #[.slice none 0 0, .int .u64 0, .int .i64 0, .slice none 0 0] 29)) := (Turns.refl _ _).alloc _
  have HM := hide (made_no p _ (h.quiet tk))
  have HB := hide (tk.below (Nat.le_refl _) (fun _ x => x.elim))
  have HR := hide (heap_alloc_new w (.cells #[.slice none 0 0, .int .u64 0, .int .i64 0, .slice none 0 0] 29))
  clear tk
  go_enter Try.func10, Try.ntmps10
  go_upto_region 2 with (go_at_call 35; refine HM.out.mono ?_; rintro e w1 ⟨rfl, hw1⟩; subst hw1)
  generalize w.alloc (.cells #[.slice none 0 0, .int .u64 0, .int .i64 0, .slice none 0 0] 29) = w1 at *
  generalize hg0 : w.heap.size = g at *
  have q0 := cell_of_row w1 g 0 _ 29 (0, 0) HR.out
  have q1 := cell_of_row w1 g 1 _ 29 (0, 0) HR.out
  have q2 := cell_of_row w1 g 2 _ 29 (0, 0) HR.out
  have q3 := cell_of_row w1 g 3 _ 29 (0, 0) HR.out
  have f0 := frozen_of_row w1 g 0 _ 29 HR.out
  have f1 := frozen_of_row w1 g 1 _ 29 HR.out
  have f2 := frozen_of_row w1 g 2 _ 29 HR.out
  have f3 := frozen_of_row w1 g 3 _ 29 HR.out
  go_wp2_with fail
  have k3 := (((((Tick.refl HR.out).set 0 (.slice none 0 0)).set 1 (.int .u64 0)).set 2 (.int .i64 0)).set 3 (.slice none 0 0))
  refine bodyPost_ret (v := .tuple #[.agg #[.slice none 0 0, .int .u64 0, .int .i64 0, .slice none 0 0], .bool false]) ?_ rfl ?_
  · exact results_cell_tmp Try.results10 _ _ _ _ _ _ _ _ rfl rfl k3.1 Try.underlying29 rfl info29
  · exact ⟨rfl, by rw [hg0]; exact HB.out.trans ((Turns.of_tick k3).below (by have := HB.out.size; omega) (fun k e => by omega))⟩
end
/-- The same entries are found the same. -/
theorem entry_same (ka va ka' va' : Option Addr) (kn kc vn vc kc' vc' s : Nat) (k : Int) (key val : List (BitVec 8)) (w : World) (h1 : Bytes w (.slice ka kn kc) key) (h2 : Bytes w (.slice va vn vc) val) (h3 : Bytes w (.slice ka' kn kc') key) (h4 : Bytes w (.slice va' vn vc') val) (hk : kn ≤ 1000000) (hv : vn ≤ 1000000) :
    Calls Try.prog 21 #[.agg #[.slice ka kn kc, .int .u64 (s : Nat), .int .i64 k, .slice va vn vc], .agg #[.slice ka' kn kc', .int .u64 (s : Nat), .int .i64 k, .slice va' vn vc']] w fun e w' => e = .returned (.bool true) ∧ Below w.heap.size w w' := by
  have t0 : Turns (fun _ => False) w ((w.alloc (.cells #[.slice ka kn kc, .int .u64 (s : Nat), .int .i64 k, .slice va vn vc] 29)).alloc (.cells #[.slice ka' kn kc', .int .u64 (s : Nat), .int .i64 k, .slice va' vn vc'] 29)) := ((Turns.refl _ w).alloc _).alloc _
  have HB := hide (t0.below (B := w.heap.size) (Nat.le_refl _) (fun _ x => x.elim))
  have H1 := hide (h1.quiet t0)
  have H2 := hide (h2.quiet t0)
  have H3 := hide (h3.quiet t0)
  have H4 := hide (h4.quiet t0)
  have r0 := heap_keep ((Below.refl _ (w.alloc (.cells #[.slice ka kn kc, .int .u64 (s : Nat), .int .i64 k, .slice va vn vc] 29))).alloc (Nat.le_refl _) (.cells #[.slice ka' kn kc', .int .u64 (s : Nat), .int .i64 k, .slice va' vn vc'] 29)) (heap_alloc_new w (.cells #[.slice ka kn kc, .int .u64 (s : Nat), .int .i64 k, .slice va vn vc] 29))
  have r1 := heap_alloc_new (w.alloc (.cells #[.slice ka kn kc, .int .u64 (s : Nat), .int .i64 k, .slice va vn vc] 29)) (.cells #[.slice ka' kn kc', .int .u64 (s : Nat), .int .i64 k, .slice va' vn vc'] 29)
  rw [show (w.alloc (.cells #[.slice ka kn kc, .int .u64 (s : Nat), .int .i64 k, .slice va vn vc] 29)).heap.size = w.heap.size + 1 by simp] at r1
  have R0 := hide r0
  have R1 := hide r1
  clear h1 h2 h3 h4 t0 r0 r1
  go_enter Try.func21, Try.ntmps21
  go_upto_region 1 with (fail)
  generalize (w.alloc (.cells #[.slice ka kn kc, .int .u64 (s : Nat), .int .i64 k, .slice va vn vc] 29)).alloc (.cells #[.slice ka' kn kc', .int .u64 (s : Nat), .int .i64 k, .slice va' vn vc'] 29) = w0 at *
  generalize hg0 : w.heap.size = g at *
  have a0 : w0.cell? ⟨g, 0, none⟩ = some (.slice ka kn kc) := cell_of_row w0 g 0 _ 29 (0, 0) R0.out
  have a1 : w0.cell? ⟨g, 1, none⟩ = some (.int .u64 (s : Nat)) := cell_of_row w0 g 1 _ 29 (0, 0) R0.out
  have a2 : w0.cell? ⟨g, 2, none⟩ = some (.int .i64 k) := cell_of_row w0 g 2 _ 29 (0, 0) R0.out
  have a3 : w0.cell? ⟨g, 3, none⟩ = some (.slice va vn vc) := cell_of_row w0 g 3 _ 29 (0, 0) R0.out
  have b0 : w0.cell? ⟨g + 1, 0, none⟩ = some (.slice ka' kn kc') := cell_of_row w0 (g + 1) 0 _ 29 (0, 0) R1.out
  have b1 : w0.cell? ⟨g + 1, 1, none⟩ = some (.int .u64 (s : Nat)) := cell_of_row w0 (g + 1) 1 _ 29 (0, 0) R1.out
  have b2 : w0.cell? ⟨g + 1, 2, none⟩ = some (.int .i64 k) := cell_of_row w0 (g + 1) 2 _ 29 (0, 0) R1.out
  have b3 : w0.cell? ⟨g + 1, 3, none⟩ = some (.slice va' vn vc') := cell_of_row w0 (g + 1) 3 _ 29 (0, 0) R1.out
  go_wp2_with fail
  refine (bytes_any ka ka' kn kn kc kc' key key w0 H1.out H3.out (by omega)).mono ?_
  rintro e w1 ⟨rfl, m1, rfl⟩
  rw [show decide (key = key) = true by simp]
  go_wp2_with fail
  refine (bytes_any va va' vn vn vc vc' val val _ (H2.out.drewN m1) (H4.out.drewN m1) (by omega)).mono ?_
  rintro e w2 ⟨rfl, m2, rfl⟩
  rw [show decide (val = val) = true by simp]
  go_wp2_with fail
  go_ret
  exact ⟨rfl, by rw [hg0]; exact belowN HB.out (m1 + m2)⟩
end Go.Proofs.Ytkeglaplckfllaa

/-
  Rows of entries of one's own.
-/
namespace Go.Proofs.Ytkeglaplckfllaa
open Go.RowKit
set_option maxRecDepth 100000
theorem t29_size : Try.t29.size = 4 := by kernel_rfl
theorem t29_bytes : Try.t29.bytes = 64 := by kernel_rfl
theorem t29_info : Try.prog.info? 29 = some Try.t29 := by kernel_rfl
theorem t29_zero : Try.t29.zero = some (.agg #[.slice none 0 0, .int .u64 0, .int .i64 0, .slice none 0 0]) := by kernel_rfl
def entCells (R : List Tow) : List Value := R.flatMap fun x => [x.kv, .int .u64 (x.e.seq : Nat), .int .i64 x.e.kind, x.vv]
theorem entCells_length (R : List Tow) : (entCells R).length = R.length * 4 := by
  induction R with
  | nil => rfl
  | cons x r ih => simp only [entCells, List.flatMap_cons, List.length_append, List.length_cons, List.length_nil] at ih ⊢; omega
theorem entCells_snoc (R : List Tow) (x : Tow) : entCells (R ++ [x]) = entCells R ++ [x.kv, .int .u64 (x.e.seq : Nat), .int .i64 x.e.kind, x.vv] := by
  simp [entCells]
theorem entCells_at (R : List Tow) (k : Nat) (x : Tow) (h : R[k]? = some x) : (entCells R)[k * 4]? = some x.kv ∧ (entCells R)[k * 4 + 1]? = some (.int .u64 (x.e.seq : Nat)) ∧ (entCells R)[k * 4 + 2]? = some (.int .i64 x.e.kind) ∧ (entCells R)[k * 4 + 3]? = some x.vv := by
  induction R generalizing k with
  | nil => simp at h
  | cons y r ih =>
    cases k with
    | zero =>
      obtain rfl : y = x := by simpa using h
      exact ⟨rfl, rfl, rfl, rfl⟩
    | succ k =>
      have := ih k (by simpa using h)
      have e : ∀ j, (entCells (y :: r))[(k + 1) * 4 + j]? = (entCells r)[k * 4 + j]? := fun j => by
        show ([y.kv, .int .u64 (y.e.seq : Nat), .int .i64 y.e.kind, y.vv] ++ entCells r)[(k + 1) * 4 + j]? = _
        rw [List.getElem?_append_right (by simp; omega)]
        congr 1
        simp
        omega
      exact ⟨(e 0).trans this.1, by rw [e 1]; exact this.2.1, by rw [e 2]; exact this.2.2.1, by rw [e 3]; exact this.2.2.2⟩
/-- Each entry's bytes, behind B. -/
def Shown (w : World) (B : Nat) (R : List Tow) : Prop := ∀ x, x ∈ R → Bytes w x.kv x.e.key ∧ Bytes w x.vv x.e.val ∧ ∀ q, x.bytesIn q → B ≤ q ∧ q < w.heap.size
def inRow (v : Value) (k : Nat) : Prop := ∃ n c, v = .slice (some ⟨k, 0, none⟩) n c
def ERow (w : World) (B : Nat) (v : Value) (R : List Tow) : Prop :=
  (R = [] ∧ v = .slice none 0 0) ∨ ∃ g c n : Nat, v = .slice (some ⟨g, 0, none⟩) n c ∧ n = R.length ∧ n ≤ c ∧ B ≤ g ∧ RowC w g 29 (c * 4) (entCells R)
theorem ERow.row {w : World} {B : Nat} {v : Value} {R : List Tow} (h : ERow w B v R) {k : Nat} (hk : inRow v k) : B ≤ k ∧ k < w.heap.size := by
  obtain ⟨n', c', e⟩ := hk
  rcases h with ⟨_, rfl⟩ | ⟨g, c, n, rfl, _, _, hB, cs, h1, _⟩
  · cases e
  · cases e; exact ⟨hB, lt_of_heap h1⟩
theorem ERow.keep {S : Nat → Prop} {w w' : World} {B : Nat} {v : Value} {R : List Tow} (h : ERow w B v R) (t : Turns S w w') (hn : ∀ k, inRow v k → ¬ S k) : ERow w' B v R := by
  rcases h with h | ⟨g, c, n, h1, h2, h3, h4, cs, h5, h6, h7⟩
  · exact .inl h
  · exact .inr ⟨g, c, n, h1, h2, h3, h4, cs, t.heap h5 (hn g ⟨n, c, h1⟩), h6, h7⟩
theorem ERow.len {w : World} {B : Nat} {v : Value} {R : List Tow} (h : ERow w B v R) : ∃ a c, v = .slice a R.length c := by
  rcases h with ⟨rfl, rfl⟩ | ⟨g, c, n, rfl, rfl, _⟩
  · exact ⟨none, 0, rfl⟩
  · exact ⟨_, _, rfl⟩
theorem Shown.keep {S : Nat → Prop} {w w' : World} {B : Nat} {R : List Tow} (h : Shown w B R) (t : Turns S w w') (hS : ∀ x, x ∈ R → ∀ q, x.bytesIn q → ¬ S q) : Shown w' B R := fun x hx =>
  ⟨bytes_keep (h x hx).1 t fun a e => hS x hx _ (.inl ⟨a, e, rfl⟩), bytes_keep (h x hx).2.1 t fun a e => hS x hx _ (.inr ⟨a, e, rfl⟩), fun q hq => ⟨((h x hx).2.2 q hq).1, Nat.lt_of_lt_of_le ((h x hx).2.2 q hq).2 t.size⟩⟩
theorem append_ent (w : World) (B : Nat) (v : Value) (R : List Tow) (h : ERow w B v R) (hB : B ≤ w.heap.size) (hlen : R.length ≤ 1000000000) (x : Tow) (g c : Nat) (hg : w.heap[g]? = some (.cells #[x.kv, .int .u64 (x.e.seq : Nat), .int .i64 x.e.kind, x.vv] 29 (0, 0))) :
    ∃ (g' n' c' : Nat) (w' : World), (∀ ty, (Builtin.append_ #[33, 33] ty #[v, .slice (some ⟨g, 0, none⟩) 1 c]).run Try.prog w = .ok (.slice (some ⟨g', 0, none⟩) n' c') w') ∧ ERow w' B (.slice (some ⟨g', 0, none⟩) n' c') (R ++ [x]) ∧ Turns (inRow v) w w' ∧ Below B w w' ∧ (inRow v g' ∨ g' = w.heap.size) := by
  have hcell : ∀ j, w.cell? ⟨g, j, none⟩ = (#[x.kv, .int .u64 (x.e.seq : Nat), .int .i64 x.e.kind, x.vv] : Array Value)[j]? := fun j => cell_of_row w g j _ 29 (0, 0) hg
  have hsrc : Src Try.prog Try.t29.size 33 (.slice (some ⟨g, 0, none⟩) 1 c) 1 [x.kv, .int .u64 (x.e.seq : Nat), .int .i64 x.e.kind, x.vv] w := Src.ofSlice w Try.underlying33 ⟨g, 0, none⟩ 1 c _ (by rw [t29_size]; rfl) (fun j u hu => by
    rw [Go.WideShapes.add_plain, Nat.zero_add, hcell j]
    simpa using hu) (fun u hu => by
    simp only [List.mem_cons, List.not_mem_nil, or_false] at hu
    rcases hu with rfl | rfl | rfl | rfl <;> rfl)
  obtain ⟨base, sLen, sCap, rfl, hsl, hbase⟩ : ∃ (base : Option Addr) (sLen sCap : Nat), v = .slice base sLen sCap ∧ sLen = R.length ∧ ((base = none ∧ sLen = 0 ∧ sCap = 0 ∧ 0 < 1) ∨ ∃ g, base = some ⟨g, 0, none⟩ ∧ B ≤ g ∧ sLen ≤ sCap ∧ RowC w g 29 (sCap * Try.t29.size) (entCells R)) := by
    rcases h with ⟨rfl, rfl⟩ | ⟨g, c, n, rfl, rfl, h3, h4, h5⟩
    · exact ⟨none, 0, 0, rfl, rfl, .inl ⟨rfl, rfl, rfl, by omega⟩⟩
    · exact ⟨_, _, _, rfl, rfl, .inr ⟨g, rfl, h4, h3, by rw [t29_size]; exact h5⟩⟩
  obtain ⟨g', cp, w', hr, hg', hrow, hb, hcp, hin, hnew, hkeep⟩ := append_gen2 (P := Try.prog) w B 33 29 Try.t29 _ Try.underlying33 t29_info t29_zero rfl base sLen sCap (entCells R) (by rw [t29_size, hsl, entCells_length]) _ 1 _ hsrc hB hbase (by rw [t29_bytes]; omega) (by omega)
  refine ⟨g', _, cp, w', hr, .inr ⟨g', cp, _, rfl, by simp [hsl], hcp, hg', ?_⟩, ⟨hb.os, hb.tape, hb.output, hb.size, fun k hk hn => hkeep k hk fun e => hn ⟨sLen, sCap, by rw [e]⟩⟩, hb, ?_⟩
  · rw [t29_size] at hrow
    rw [entCells_snoc]
    exact hrow
  · rcases Nat.lt_or_ge sCap (sLen + 1) with h1 | h1
    · exact .inr (hnew h1)
    · exact .inl ⟨sLen, sCap, by rw [(hin h1).1]⟩
end Go.Proofs.Ytkeglaplckfllaa

/-
  Pick: a number below twelve. Before: the order of keys.
-/
namespace Go.Proofs.Ytkeglaplckfllaa
open Go.RowKit
set_option maxRecDepth 100000
set_option maxHeartbeats 4000000
theorem pick_any (n : Int) (w : World) : Calls Try.prog 32 #[.int .i64 n, .int .i64 12] w fun e w' => ∃ p : Nat, p < 12 ∧ e = .returned (.int .i64 (p : Nat)) ∧ w' = w := by
  have h1 : n.tmod 12 < 12 := Int.tmod_lt_of_pos n (by decide)
  have h2 : -12 < n.tmod 12 := by
    have h3 := Int.tmod_lt_of_pos (-n) (b := 12) (by decide)
    rw [Int.neg_tmod] at h3
    omega
  generalize hm : n.tmod 12 = m at *
  by_cases h0 : 0 ≤ m
  · have h4 : ¬ m < 0 := by omega
    go_enter Try.func32, Try.ntmps32
    go_wp2_with fail
    go_ret
    exact ⟨m.toNat, by omega, by rw [Int.toNat_of_nonneg h0]; rfl, rfl⟩
  · have h4 : m < 0 := by omega
    go_enter Try.func32, Try.ntmps32
    go_wp2_with fail
    go_ret
    exact ⟨(m + 12).toNat, by omega, by rw [Int.toNat_of_nonneg (by omega)]; rfl, rfl⟩
theorem less_dec (x y : List (BitVec 8)) : Op.bytesLess (u8s x) (u8s y) = decide (cmpB x y < 0) := by
  have h1 := less_cmp (u8s x) (u8s y)
  have h2 := cmpB_vals x y
  have h3 : Lib.compareBytes (u8s x) (u8s y) = cmpB x y := rfl
  rw [h3] at h1
  by_cases h : cmpB x y = -1
  · rw [h1.2 h, h]; rfl
  · have h4 : ¬ cmpB x y < 0 := by omega
    rw [decide_eq_false h4]
    exact Bool.eq_false_iff.2 fun e => h (h1.1 e)
theorem beforeK_any (a a' : Option Addr) (n n' c c' : Nat) (x y : List (BitVec 8)) (w : World) (h : Bytes w (.slice a n c) x) (h' : Bytes w (.slice a' n' c') y) :
    Calls Try.prog 33 #[.slice a n c, .slice a' n' c'] w fun e w' => e = .returned (.bool (decide (cmpB x y < 0))) ∧ w' = w :=
  (before_any a a' n n' c c' x y w h h').mono fun e w' ⟨h1, h2⟩ => ⟨by rw [h1, less_dec], h2⟩
end Go.Proofs.Ytkeglaplckfllaa
