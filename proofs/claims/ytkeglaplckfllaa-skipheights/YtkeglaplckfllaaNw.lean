/-
  New, entries of texts, and what Insert, Get come to where it is known.
-/
import Derived.Test.YtkeglaplckfllaaIn
import Derived.Lib.SlBytesConst
import Derived.Lib.ConvBytes
namespace Go.Proofs.Ytkeglaplckfllaa
open Go.RowKit
set_option maxRecDepth 100000
set_option maxHeartbeats 4000000
/-- A text's bytes. -/
def bsOf (s : ByteArray) : List (BitVec 8) := s.data.toList.map fun u => BitVec.ofNat 8 u.toNat
theorem conv_new (s : ByteArray) (w : World) : ∃ c w', (convert 9 26 (.string s)).run Try.prog w = .ok (.slice (some ⟨w.heap.size, 0, none⟩) s.size c) w' ∧ Bytes w' (.slice (some ⟨w.heap.size, 0, none⟩) s.size c) (bsOf s) ∧ Below w.heap.size w w' := by
  refine ⟨_, _, Lib.run_convert_string_bytes w 9 26 5 s Try.underlying9 Try.underlying26 Try.underlying5, ⟨_, _, by simp [bsOf]; rfl, fun k hk => ⟨w.heap.size, 0, rfl, ?_⟩⟩, ⟨rfl, rfl, rfl, by rw [Lib.bytesWorld_size]; omega, fun k hk => Lib.bytesWorld_at_old w 5 s k hk⟩⟩
  have hk' : k < s.data.toList.length := by simpa [bsOf] using hk
  rw [Nat.zero_add, Lib.bytesWorld_cell w 5 s k (by simpa using hk')]
  have h1 : s.data.toList.getD k 0 = s.data.toList[k] := by simp [List.getD, List.getElem?_eq_getElem hk']
  have h2 : (bsOf s).getD k 0 = BitVec.ofNat 8 (s.data.toList[k]).toNat := by
    simp only [bsOf, List.getD, List.getElem?_map, List.getElem?_eq_getElem hk', Option.map_some, Option.getD_some]
  rw [h1, h2]
  have := (s.data.toList[k]).toNat_lt
  congr 2
  simp only [BitVec.toNat_ofNat]
  omega
theorem entry_any (s t : ByteArray) (q : Nat) (w : World) : Calls Try.prog 9 #[.string s, .int .u64 (q : Nat), .string t] w fun e w' => ∃ ka kc va vc, e = .returned (.agg #[.slice ka s.size kc, .int .u64 (q : Nat), .int .i64 1, .slice va t.size vc]) ∧ Bytes w' (.slice ka s.size kc) (bsOf s) ∧ Bytes w' (.slice va t.size vc) (bsOf t) ∧ Below w.heap.size w w' := by
  have n0 := heap_alloc_new w (.cells #[.slice none 0 0, .int .u64 0, .int .i64 0, .slice none 0 0] 29)
  have b0 := (Below.refl w.heap.size w).alloc (Nat.le_refl _) (.cells #[.slice none 0 0, .int .u64 0, .int .i64 0, .slice none 0 0] 29)
  obtain ⟨c1, w1, hc1, hy1, b1⟩ := conv_new s (w.alloc (.cells #[.slice none 0 0, .int .u64 0, .int .i64 0, .slice none 0 0] 29))
  obtain ⟨c2, w2, hc2, hy2, b2⟩ := conv_new t w1
  have HN := hide (heap_keep b2 (heap_keep b1 n0))
  have HY1 := hide (hy1.below b2)
  have HY2 := hide hy2
  have hs1 := b1.size
  rw [World.size_alloc] at hc1 HY1 hs1
  have B2 := hide ((b0.trans (b1.mono b0.size)).trans (b2.mono (Nat.le_trans b0.size b1.size)))
  clear n0 b0 hy1 b1 hy2 b2
  go_enter Try.func9, Try.ntmps9
  go_wp2_with (refine wpList_store_row rfl 29 _ _ rfl _ _ rfl rfl _ _ HN.out ?_ ?_ ?_ ?_; (exact info29); (simp only [List.size_toArray, List.length_cons, List.length_nil]); (simp [Value.oneCell']))
  have tr : Turns (fun j => j = w.heap.size) w2 (w2.setRow w.heap.size #[.slice (some ⟨w.heap.size + 1, 0, none⟩) s.size c1, .int .u64 (q : Nat), .int .i64 1, .slice (some ⟨w1.heap.size, 0, none⟩) t.size c2]) := ⟨rfl, rfl, rfl, by simp, fun k _ hk => setRow_other _ _ _ _ hk⟩
  refine bodyPost_ret (v := .agg #[.slice (some ⟨w.heap.size + 1, 0, none⟩) s.size c1, .int .u64 (q : Nat), .int .i64 1, .slice (some ⟨w1.heap.size, 0, none⟩) t.size c2]) ?_ rfl ?_
  · exact results_cell_row Try.results9 _ _ _ _ _ _ _ rfl (setRow_heap _ _ _ _ _ _ HN.out) Try.underlying29 rfl info29
  · exact ⟨_, _, _, _, rfl, HY1.out.turns tr (fun a n c e => by cases e; show ¬ w.heap.size + 1 = w.heap.size; omega), HY2.out.turns tr (fun a n c e => by cases e; show ¬ w1.heap.size = w.heap.size; omega), B2.out.trans (tr.below B2.out.size (fun k e => by omega))⟩
theorem conv26 (C : Array Value) (n c : Nat) (w : World) : (convert 26 26 (.slice (some ⟨w.heap.size, 0, none⟩) n c)).run Try.prog (w.alloc (.cells C 5)) = .ok (.slice (some ⟨w.heap.size, 0, none⟩) n c) (w.alloc (.cells C 5 (C.size, C.size + 1))) :=
  Lib.run_convert_bytes_const w 26 5 C n c Try.underlying26 Try.underlying5
/-- Bytes in a new row. -/
theorem Bytes.new (w : World) (cs : Array Value) (t c : Nat) (fr : Nat × Nat) (bs : List (BitVec 8)) (h : cs = (bs.map fun b => Value.int .u8 (b.toNat : Int)).toArray) :
    Bytes (w.alloc (.cells cs t fr)) (.slice (some ⟨w.heap.size, 0, none⟩) bs.length c) bs :=
  ⟨_, c, rfl, fun k hk => ⟨w.heap.size, 0, rfl, by
    rw [Nat.zero_add, cell_of_row _ _ k cs t fr (heap_alloc_new w _), h]
    simp [hk]⟩⟩
theorem new_any (w : World) : Calls Try.prog 7 #[] w fun e w' => e = .returned (.pointer (some ⟨w.heap.size + 1, 0, none⟩)) ∧ Tab (fun k => w.heap.size ≤ k) w' (w.heap.size + 1) w.heap.size [] ∧ Below w.heap.size w w' := by
  have hT : Tab (fun k => w.heap.size ≤ k) ((w.alloc (.cells #[.slice none 0 0, .int .u64 0, .int .i64 0, .slice none 0 0, .int .i64 12, .pointer none, .pointer none, .pointer none, .pointer none, .pointer none, .pointer none, .pointer none, .pointer none, .pointer none, .pointer none, .pointer none, .pointer none] 64)).alloc (.cells #[.pointer (some ⟨w.heap.size, 0, none⟩), .int .i64 0, .int .i64 0] 56)) (w.heap.size + 1) w.heap.size [] := by
    have t1 : Turns (fun _ => False) (w.alloc (.cells #[.slice none 0 0, .int .u64 0, .int .i64 0, .slice none 0 0, .int .i64 12, .pointer none, .pointer none, .pointer none, .pointer none, .pointer none, .pointer none, .pointer none, .pointer none, .pointer none, .pointer none, .pointer none, .pointer none] 64)) ((w.alloc (.cells #[.slice none 0 0, .int .u64 0, .int .i64 0, .slice none 0 0, .int .i64 12, .pointer none, .pointer none, .pointer none, .pointer none, .pointer none, .pointer none, .pointer none, .pointer none, .pointer none, .pointer none, .pointer none, .pointer none] 64)).alloc (.cells #[.pointer (some ⟨w.heap.size, 0, none⟩), .int .i64 0, .int .i64 0] 56)) := (Turns.refl _ _).alloc _
    have hn : NodeAt ((w.alloc (.cells #[.slice none 0 0, .int .u64 0, .int .i64 0, .slice none 0 0, .int .i64 12, .pointer none, .pointer none, .pointer none, .pointer none, .pointer none, .pointer none, .pointer none, .pointer none, .pointer none, .pointer none, .pointer none, .pointer none] 64)).alloc (.cells #[.pointer (some ⟨w.heap.size, 0, none⟩), .int .i64 0, .int .i64 0] 56)) w.heap.size 12 (fun _ => .pointer none) _ := (nodeNew w (.slice none 0 0) (.slice none 0 0) 0 0 12 (by decide)).keep t1 (fun x => x)
    refine ⟨?_, ⟨fun p hp => ?_, fun p p' hp hp' _ => ?_⟩, List.Pairwise.nil, fun x hx => (by cases hx), fun x hx => (by cases hx), by simp, fun p hp => ?_, fun x hx => (by cases hx)⟩
    · have := heap_alloc_new (w.alloc (.cells #[.slice none 0 0, .int .u64 0, .int .i64 0, .slice none 0 0, .int .i64 12, .pointer none, .pointer none, .pointer none, .pointer none, .pointer none, .pointer none, .pointer none, .pointer none, .pointer none, .pointer none, .pointer none, .pointer none] 64)) (.cells #[.pointer (some ⟨w.heap.size, 0, none⟩), .int .i64 0, .int .i64 0] 56)
      rw [show (w.alloc (.cells #[.slice none 0 0, .int .u64 0, .int .i64 0, .slice none 0 0, .int .i64 12, .pointer none, .pointer none, .pointer none, .pointer none, .pointer none, .pointer none, .pointer none, .pointer none, .pointer none, .pointer none, .pointer none, .pointer none] 64)).heap.size = w.heap.size + 1 by simp] at this
      exact this
    · have : p = 0 := by simpa using hp
      subst this
      exact ⟨_, hn, fun k x hk => by omega⟩
    · have h1 : p = 0 := by simpa using hp
      have h2 : p' = 0 := by simpa using hp'
      omega
    · have h1 : p = 0 := by simpa using hp
      subst h1
      exact Nat.le_refl _
  have HT := hide hT
  have HB := hide (((Below.refl w.heap.size w).alloc (Nat.le_refl _) (.cells #[.slice none 0 0, .int .u64 0, .int .i64 0, .slice none 0 0, .int .i64 12, .pointer none, .pointer none, .pointer none, .pointer none, .pointer none, .pointer none, .pointer none, .pointer none, .pointer none, .pointer none, .pointer none, .pointer none] 64)).alloc (by simp) (.cells #[.pointer (some ⟨w.heap.size, 0, none⟩), .int .i64 0, .int .i64 0] 56))
  clear hT
  go_enter Try.func7, Try.ntmps7
  go_wp2_with fail
  go_ret
  exact ⟨by simp, HT.out, HB.out⟩
section
variable (A : Nat → Prop) (t bg : Nat) (ts : List Tow) (w : World) (ka va : Option Addr) (kn kc vn vc seq : Nat) (kind hg : Int) (key val : List (BitVec 8))
theorem insert_new (h : Tab A w t bg ts) (hk : Bytes w (.slice ka kn kc) key) (hv : Bytes w (.slice va vn vc) val) (hs : seq < 18446744073709551616) (hm : Smol [(kind, key, val)]) (hn : ts.length ≤ 100000) (hz : sizeT ts ≤ 900000) (hc : chk seq [(kind, key, val)] = 0) (H : Nat) (h1 : 1 ≤ H) (h2 : H ≤ 12) (hat : atT ts (place (key, seq) ts) (key, seq) = none) :
    Calls Try.prog 8 #[.pointer (some ⟨t, 0, none⟩), .agg #[.slice ka kn kc, .int .u64 (seq : Nat), .int .i64 kind, .slice va vn vc], .int .i64 (H : Nat)] w fun e w' => e = .returned (.int .i64 0) ∧ ∃ x : Tow, x.e = ⟨key, seq, kind, val⟩ ∧ x.h = H ∧ Tab (Grow A w) w' t bg (ins ts (place (key, seq) ts) x) ∧ Turns A w w' := by
  refine insert_any A t bg ts w ka va kn kc vn vc seq kind H key val h hk hv hs hm hn hz _ (fun e => absurd hc e) (fun _ e => by omega) (fun _ _ x e => by rw [hat] at e; cases e) (fun _ H' e _ _ _ x w' hx hh hT ht => ⟨rfl, x, hx, by omega, hT, ht⟩)
theorem insert_there (h : Tab A w t bg ts) (hk : Bytes w (.slice ka kn kc) key) (hv : Bytes w (.slice va vn vc) val) (hs : seq < 18446744073709551616) (hm : Smol [(kind, key, val)]) (hn : ts.length ≤ 100000) (hz : sizeT ts ≤ 900000) (hc : chk seq [(kind, key, val)] = 0) (hh : 1 ≤ hg ∧ hg ≤ 12) (x : Tow) (hat : atT ts (place (key, seq) ts) (key, seq) = some x) :
    Calls Try.prog 8 #[.pointer (some ⟨t, 0, none⟩), .agg #[.slice ka kn kc, .int .u64 (seq : Nat), .int .i64 kind, .slice va vn vc], .int .i64 hg] w fun e w' => e = .returned (.int .i64 5) ∧ Below w.heap.size w w' := by
  refine insert_any A t bg ts w ka va kn kc vn vc seq kind hg key val h hk hv hs hm hn hz _ (fun e => absurd hc e) (fun _ e => by omega) (fun _ _ y _ w' b => ⟨rfl, b⟩) (fun _ H' e _ _ hat' => by rw [hat] at hat'; cases hat')
theorem insert_high (h : Tab A w t bg ts) (hk : Bytes w (.slice ka kn kc) key) (hv : Bytes w (.slice va vn vc) val) (hs : seq < 18446744073709551616) (hm : Smol [(kind, key, val)]) (hn : ts.length ≤ 100000) (hz : sizeT ts ≤ 900000) (hc : chk seq [(kind, key, val)] = 0) (hh : hg < 1 ∨ 12 < hg) :
    Calls Try.prog 8 #[.pointer (some ⟨t, 0, none⟩), .agg #[.slice ka kn kc, .int .u64 (seq : Nat), .int .i64 kind, .slice va vn vc], .int .i64 hg] w fun e w' => e = .returned (.int .i64 2) ∧ Below w.heap.size w w' := by
  refine insert_any A t bg ts w ka va kn kc vn vc seq kind hg key val h hk hv hs hm hn hz _ (fun e => absurd hc e) (fun _ _ w' b => ⟨rfl, b⟩) (fun _ e => by omega) (fun _ H' e _ _ => by omega)
theorem insert_wrong (h : Tab A w t bg ts) (hk : Bytes w (.slice ka kn kc) key) (hv : Bytes w (.slice va vn vc) val) (hs : seq < 18446744073709551616) (hm : Smol [(kind, key, val)]) (hn : ts.length ≤ 100000) (hz : sizeT ts ≤ 900000) (hc : chk seq [(kind, key, val)] ≠ 0) :
    Calls Try.prog 8 #[.pointer (some ⟨t, 0, none⟩), .agg #[.slice ka kn kc, .int .u64 (seq : Nat), .int .i64 kind, .slice va vn vc], .int .i64 hg] w fun e w' => e = .returned (.int .i64 (chk seq [(kind, key, val)])) ∧ Below w.heap.size w w' := by
  refine insert_any A t bg ts w ka va kn kc vn vc seq kind hg key val h hk hv hs hm hn hz _ (fun _ w' b => ⟨rfl, b⟩) (fun e => absurd e hc) (fun e => absurd e hc) (fun e => absurd e hc)
theorem get_hit (h : Tab A w t bg ts) (hk : Bytes w (.slice ka kn kc) key) (hn : ts.length ≤ 1000000) (hs : sizeT ts ≤ 1000000) (x : Tow) (hx : ts[place (key, seq) ts]? = some x) (he : x.e.key = key) :
    Calls Try.prog 18 #[.pointer (some ⟨t, 0, none⟩), .slice ka kn kc, .int .u64 (seq : Nat)] w fun e w' => ∃ ka' kc' va' vc', e = .returned (.tuple #[.agg #[.slice ka' x.e.key.length kc', .int .u64 (x.e.seq : Nat), .int .i64 x.e.kind, .slice va' x.e.val.length vc'], .int .i64 0]) ∧ Bytes w' (.slice ka' x.e.key.length kc') x.e.key ∧ Bytes w' (.slice va' x.e.val.length vc') x.e.val ∧ Below w.heap.size w w' := by
  refine get_any A t bg ts w ka kn kc seq key h hk hn hs _ (fun h0 => absurd he (h0 x hx)) (fun y hy _ w' ka' kc' va' vc' h1 h2 b => ?_)
  rw [hx] at hy
  cases hy
  exact ⟨ka', kc', va', vc', rfl, h1, h2, b⟩
theorem get_miss (h : Tab A w t bg ts) (hk : Bytes w (.slice ka kn kc) key) (hn : ts.length ≤ 1000000) (hs : sizeT ts ≤ 1000000) (hx : ∀ x, ts[place (key, seq) ts]? = some x → x.e.key ≠ key) :
    Calls Try.prog 18 #[.pointer (some ⟨t, 0, none⟩), .slice ka kn kc, .int .u64 (seq : Nat)] w fun e w' => e = .returned (.tuple #[.agg #[.slice none 0 0, .int .u64 0, .int .i64 0, .slice none 0 0], .int .i64 6]) ∧ Below w.heap.size w w' := by
  refine get_any A t bg ts w ka kn kc seq key h hk hn hs _ (fun _ w' b => ⟨rfl, b⟩) (fun y hy he => absurd he (hx y hy))
end
end Go.Proofs.Ytkeglaplckfllaa
