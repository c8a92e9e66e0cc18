import Derived.Test.YtjklbhdhjfifhaaGreatM40
import Derived.Test.YtjklbhdhjfifhaaGreatM19
import Derived.Deep.Light
import Derived.Test.YtjklbhdhjfifhaaGreatM41
/-
  An index, read.
-/
namespace Go.Proofs.YtjklbhdhjfifhaaGreat
open Go.RowKit
set_option maxRecDepth 100000
set_option maxHeartbeats 4000000
theorem end_L {w : World} {r : Nat} {p : List (BitVec 8)} (h : RdrL w r p [] 0) (hp : p.length ≤ 1000000) : Calls Tryz.prog 100 #[.pointer (some ⟨r, 0, none⟩)] w fun e' w' => e' = .returned (.int .i64 0) ∧ ∃ m, w' = w.drewN m := by
  obtain ⟨i, hi, hd, h⟩ := h
  have hil : p.length - i = 0 := by
    have := congrArg List.length hd
    rw [List.length_drop] at this
    exact this
  have H := hide h
  have HD := hide hil
  clear h hd hil
  go_enter Tryz.func100, Tryz.ntmps100
  go_wp2_with fail
  refine (err_any r p i 0 w H.out).mono ?_
  rintro e' w1 ⟨rfl, m, rfl⟩
  go_wp2_with fail
  refine (left_any r p i 0 (w.drewN m) (H.out.drewN m) hp hi).mono ?_
  rintro e' w2 ⟨rfl, m2, hw2⟩
  rw [World.drewN_drewN] at hw2
  subst hw2
  rw [HD.out]
  go_wp2_with fail
  go_ret
  exact ⟨rfl, _, rfl⟩
theorem info55 : (Tryz.prog.info? 55).map (·.size) = some 8 := by kernel_rfl
def idxCells (v e b s l m ls ms : Value) : Array Value := #[v, e, b, s, l, m, ls, ms]
theorem idx8 (a0 a1 a2 a3 a4 a5 a6 a7 b0 b1 b2 b3 b4 b5 b6 b7 : Value) : (((((((((idxCells a0 a1 a2 a3 a4 a5 a6 a7).setIfInBounds 0 b0).setIfInBounds 1 b1).setIfInBounds 2 b2).setIfInBounds 3 b3).setIfInBounds 4 b4).setIfInBounds 5 b5).setIfInBounds 6 b6).setIfInBounds 7 b7) = idxCells b0 b1 b2 b3 b4 b5 b6 b7 := by simp [idxCells]
theorem idx7 (a0 a1 a2 a3 a4 a5 a6 a7 b1 b2 b3 b4 b5 b6 b7 : Value) : ((((((((idxCells a0 a1 a2 a3 a4 a5 a6 a7).setIfInBounds 1 b1).setIfInBounds 2 b2).setIfInBounds 3 b3).setIfInBounds 4 b4).setIfInBounds 5 b5).setIfInBounds 6 b6).setIfInBounds 7 b7) = idxCells a0 b1 b2 b3 b4 b5 b6 b7 := by simp [idxCells]
/-- What an index says, as bytes. -/
def idxB (ps : List Pz) (n lo hi : Nat) (least most : List (BitVec 8)) : List (BitVec 8) := short ps.length ++ (pzB 0 ps ++ (short n ++ (short lo ++ (short hi ++ (pieceB least ++ (pieceB most ++ []))))))
/-- In the midst of an index: so many places were read. -/
structure Mid (w : World) (B b r : Nat) (p : List (BitVec 8)) (ps : List Pz) (tail : List (BitVec 8)) (k : Nat) (v : Value) (l : List Plc) : Prop where
  hv : ∃ pa pc, v = .slice pa l.length pc
  row : PRow w B v l
  box : w.heap[b]? = some (.cells (idxCells v (.int .i64 0) (.int .i64 0) (.int .i64 0) (.slice none 0 0) (.slice none 0 0) (.int .u64 0) (.int .u64 0)) 55 (0, 0))
  lay : Lay l (ps.take k)
  keys : ∀ q, q ∈ l → Bytes w q.t.kv q.t.e.key ∧ ∀ a, q.t.ka = some a → B ≤ a.block ∧ a.block < w.heap.size ∧ ¬ inRow v a.block
  rdr : RdrL w r p (pzB (sumZ (ps.take k)) (ps.drop k) ++ tail) 0
theorem noU8_idx {v : Value} (hv : ∃ pa n pc, v = .slice pa n pc) : noU8 (idxCells v (.int .i64 0) (.int .i64 0) (.int .i64 0) (.slice none 0 0) (.slice none 0 0) (.int .u64 0) (.int .u64 0)) := by
  obtain ⟨pa, n, pc, rfl⟩ := hv
  intro k z h
  match k with
  | 0 | 1 | 2 | 3 | 4 | 5 | 6 | 7 => simp [idxCells] at h
  | k + 8 => simp [idxCells] at h
/-- One place more is read. -/
theorem Mid.step {w : World} {B b r : Nat} {p : List (BitVec 8)} {ps : List Pz} {tail : List (BitVec 8)} {k : Nat} {v : Value} {l : List Plc} (h : Mid w B b r p ps tail k v l) (hk : k < ps.length) (limit : Nat) (hB : B ≤ w.heap.size) (hrB : r < B) (hbB : b < B) (hbr : b < r) (hpl : ps.length ≤ 1000000) (hsum : sumZ ps ≤ limit) (hlb : limit ≤ 1000000000) (hz : ∀ z, z ∈ ps → 0 < z.2.1.length ∧ z.2.1.length ≤ 1000000 ∧ z.2.2 < 2 ^ 64) (hord : ∀ i x y, ps[i]? = some x → ps[i + 1]? = some y → cmpE (x.2.1, x.2.2) (y.2.1, y.2.2) < 0) (hp : p.length ≤ 1000000) :
    Calls Tryz.prog 98 #[.pointer (some ⟨b, 0, none⟩), .pointer (some ⟨r, 0, none⟩), .int .i64 (limit : Nat)] w fun oo w' => oo = .returned (.bool true) ∧ ∃ v' l', Mid w' B b r p ps tail (k + 1) v' l' ∧ Turns (fun j => b ≤ j) w w' := by
  obtain ⟨pa, pc, rfl⟩ := h.hv
  obtain ⟨⟨sz, key, seq⟩, hx⟩ : ∃ x, ps[k]? = some x := ⟨_, List.getElem?_eq_getElem hk⟩
  have hzk := hz _ (List.mem_of_getElem? hx)
  have hE := h.lay.end_
  have hlen := h.lay.len
  rw [List.length_take, Nat.min_eq_left (Nat.le_of_lt hk)] at hlen
  have hs1 := sumZ_take ps k _ hx
  have hs2 := sumZ_take_le ps (k + 1)
  have hrd := h.rdr
  rw [pzB_drop ps k sz key seq hx, ← hE] at hrd
  simp only [List.append_assoc] at hrd
  have hrowB : ∀ j, inRow (.slice pa l.length pc) j → B ≤ j ∧ j < w.heap.size := fun j hj => h.row.row hj
  refine (readPlace_ok b 0 55 _ l pa pc B r p _ key sz seq limit w h.box rfl (by omega) h.row hB hrB (fun hh => by have := (hrowB _ hh).1; omega) (by omega) (noU8_idx ⟨_, _, _, rfl⟩) (fun q hq => ?_) (fun q hq => ⟨(h.keys q hq).1, fun a ha => ?_⟩) (fun p0 hp0 => ?_) (by simp only at hs1; omega) (by simp only at hs1; omega) hlb hzk.2.1 hzk.1 hzk.2.2 hrd hp).mono ?_
  · obtain ⟨i, hi⟩ := List.getElem?_of_mem hq
    have h1 := h.lay.pos i q hi
    have hil : i < l.length := (List.getElem?_eq_some_iff.1 hi).1
    have h2 : (ps.take k)[i]? = some q.z := by rw [← h.lay.z, List.getElem?_map, hi]; rfl
    have h3 := sumZ_take (ps.take k) i _ h2
    have h4 := sumZ_take_le (ps.take k) (i + 1)
    have h5 := sumZ_take_le ps k
    have h6 : (q.z).1 = q.size := rfl
    omega
  · obtain ⟨h1, h2, h3⟩ := (h.keys q hq).2 a ha
    exact ⟨by omega, by omega, h3⟩
  · have hl0 : l ≠ [] := fun e => by rw [e] at hp0; cases hp0
    have hlp := List.length_pos_iff.2 hl0
    have h1 : l[k - 1]? = some p0 := by rw [List.getLast?_eq_getElem?, hlen] at hp0; exact hp0
    have h2 : (ps.take k)[k - 1]? = some p0.z := by rw [← h.lay.z, List.getElem?_map, h1]; rfl
    rw [List.getElem?_take_of_lt (by omega)] at h2
    have h3 := hord (k - 1) _ _ h2 (by rw [show k - 1 + 1 = k by omega]; exact hx)
    exact h3
  · rintro oo w' ⟨rfl, v', ka, kc, hb', hrow', hby', hfr', hin', hrd', t'⟩
    have htk : ps.take (k + 1) = ps.take k ++ [(sz, key, seq)] := by
      rw [List.take_succ_eq_append_getElem hk]
      rw [List.getElem?_eq_getElem hk] at hx
      rw [Option.some.inj hx]
    obtain ⟨a', c', hv'⟩ := hrow'.len
    refine ⟨rfl, v', _, ⟨⟨a', c', hv'⟩, hrow', hb', by rw [htk]; exact h.lay.snoc sz ka kc key seq, fun q hq => ?_, by rw [hs1, ← hE]; exact hrd'⟩, t'.mono (fun j _ hj => ?_)⟩
    · rcases List.mem_append.1 hq with hq | hq
      · obtain ⟨h0, h9⟩ := h.keys q hq
        refine ⟨h0.turns t' (fun a n c e hs => ?_), fun a ha => ?_⟩
        · obtain ⟨h1, h2, h3⟩ := h9 a (by simp only [Tow.kv, Value.slice.injEq] at e; exact e.1)
          rcases hs with hs | hs | hs
          · omega
          · omega
          · exact h3 hs
        · obtain ⟨h1, h2, h3⟩ := h9 a ha
          exact ⟨h1, Nat.lt_of_lt_of_le h2 t'.size, fun hh => (hin' _ hh).elim h3 (fun h4 => by omega)⟩
      · rw [List.mem_singleton] at hq
        subst hq
        exact ⟨hby', fun a ha => ⟨Nat.le_trans hB (hfr' a ha).1, (hfr' a ha).2.1, (hfr' a ha).2.2⟩⟩
    · rcases hj with hj | hj | hj
      · exact Nat.le_of_eq hj.symm
      · exact hj ▸ Nat.le_of_lt hbr
      · exact Nat.le_trans (Nat.le_of_lt hbB) (hrowB j hj).1
theorem readIndex_ok (a : Option Addr) (n c : Nat) (ps : List Pz) (ne lo hi limit : Nat) (least most : List (BitVec 8)) (w : World) (h : Bytes w (.slice a n c) (idxB ps ne lo hi least most)) (hn : n ≤ 1000000) (hps : ps ≠ []) (hpl : ps.length ≤ 1000000) (hsum : sumZ ps ≤ limit) (hlb : limit ≤ 1000000000) (hne : ne < 2 ^ 63) (hlo : lo < 2 ^ 64) (hhi : hi < 2 ^ 64) (hle : least.length ≤ 1000000) (hmo : most.length ≤ 1000000)
    (hz : ∀ z, z ∈ ps → 0 < z.2.1.length ∧ z.2.1.length ≤ 1000000 ∧ z.2.2 < 2 ^ 64) (hord : ∀ i x y, ps[i]? = some x → ps[i + 1]? = some y → cmpE (x.2.1, x.2.2) (y.2.1, y.2.2) < 0) (hmost : ∀ z, ps.getLast? = some z → z.2.1 = most) :
    Calls Tryz.prog 56 #[.slice a n c, .int .i64 (limit : Nat)] w fun oo w' => ∃ v l la lc ma mc, oo = .returned (.tuple #[.agg (idxCells v (.int .i64 (ne : Nat)) (.int .i64 0) (.int .i64 0) (.slice la least.length lc) (.slice ma most.length mc) (.int .u64 (lo : Nat)) (.int .u64 (hi : Nat))), .bool true]) ∧ (∃ pa pc, v = .slice pa l.length pc) ∧ PRow w' w.heap.size v l ∧ Lay l ps ∧ (∀ q, q ∈ l → Bytes w' q.t.kv q.t.e.key ∧ ∀ a, q.t.ka = some a → w.heap.size ≤ a.block ∧ a.block < w'.heap.size) ∧ Bytes w' (.slice la least.length lc) least ∧ Bytes w' (.slice ma most.length mc) most ∧ (∀ x, la = some x → w.heap.size ≤ x.block) ∧ (∀ x, ma = some x → w.heap.size ≤ x.block) ∧ Below w.heap.size w w' := by
  have T0 := hide ((Turns.refl (fun _ => False) w).alloc (.cells (idxCells (.slice none 0 0) (.int .i64 0) (.int .i64 0) (.int .i64 0) (.slice none 0 0) (.slice none 0 0) (.int .u64 0) (.int .u64 0)) 55))
  have HB0 := hide (heap_alloc_new w (.cells (idxCells (.slice none 0 0) (.int .i64 0) (.int .i64 0) (.int .i64 0) (.slice none 0 0) (.slice none 0 0) (.int .u64 0) (.int .u64 0)) 55))
  have HNW := hide (new_any a n c _ _ (h.quiet T0.out) hn)
  have HPL := hide (show (idxB ps ne lo hi least most).length = n from h.len.symm)
  generalize hpp : idxB ps ne lo hi least most = p at HNW HPL
  have HPP := hide hpp
  clear h hpp
  go_enter Tryz.func56, Tryz.ntmps56
  go_upto_region 1 with (fail)
  rw [show #[Value.slice none 0 0, Value.int IntKind.i64 0, Value.int IntKind.i64 0, Value.int IntKind.i64 0, Value.slice none 0 0, Value.slice none 0 0, Value.int IntKind.u64 0, Value.int IntKind.u64 0] = idxCells (.slice none 0 0) (.int .i64 0) (.int .i64 0) (.int .i64 0) (.slice none 0 0) (.slice none 0 0) (.int .u64 0) (.int .u64 0) from rfl]
  generalize w.alloc (.cells (idxCells (.slice none 0 0) (.int .i64 0) (.int .i64 0) (.int .i64 0) (.slice none 0 0) (.slice none 0 0) (.int .u64 0) (.int .u64 0)) 55) = w0 at *
  generalize hb : w.heap.size = b at *
  have HB := hide hb
  clear hb
  go_upto_region 2 with (go_at_call 96; refine HNW.out.mono ?_; rintro oo w1 ⟨r, rfl, hr0, hr1, hrd, b1⟩)
  have HR1 := hide (show RdrL w1 r p (short ps.length ++ (pzB 0 ps ++ (short ne ++ (short lo ++ (short hi ++ (pieceB least ++ (pieceB most ++ []))))))) 0 from ⟨0, Nat.zero_le _, HPP.out.symm, hrd⟩)
  have T1 := hide (T0.out.trans (Turns.of_below b1 (fun _ => False)))
  have HB1 := hide ((Turns.of_below b1 (fun _ => False)).heap HB0.out (fun x => x))
  have HRB := hide (show b < r ∧ r < w1.heap.size from ⟨Nat.lt_of_lt_of_le (lt_of_heap HB0.out) hr0, hr1⟩)
  clear b1 hrd HNW HB0 T0 hr0 hr1
  have hp : p.length ≤ 1000000 := by have := HPL.out; omega
  go_upto_region 3 with (go_at_call 97; refine (number_L r p _ ps.length (by omega) _ HR1.out hp).mono ?_; rintro oo w2 ⟨rfl, hr2, t2⟩)
  have HT2 := hide (T1.out.andThen t2 (fun k hk e => by have h1 : k = r := e; have := HRB.out; have := HB.out; omega))
  have HB2 := hide (t2.heap HB1.out (fun e => by have h1 : b = r := e; have := HRB.out; omega))
  obtain ⟨tail, htail⟩ : ∃ tail, short ne ++ (short lo ++ (short hi ++ (pieceB least ++ (pieceB most ++ [])))) = tail := ⟨_, rfl⟩
  have HTL := hide htail
  obtain ⟨B, hBs⟩ : ∃ B, w2.heap.size = B := ⟨_, rfl⟩
  have HBS := hide (show w2.heap.size = B ∧ r < B ∧ b < B from ⟨hBs, by have := t2.size; have := HRB.out; omega, by have := t2.size; have := HRB.out; omega⟩)
  have M0 := hide (show Mid w2 B b r p ps tail 0 (.slice none 0 0) [] from ⟨⟨none, 0, rfl⟩, .inl ⟨rfl, rfl⟩, HB2.out, ⟨rfl, fun i q hq => (by cases hq)⟩, fun q hq => (by cases hq), (by rw [htail] at hr2; exact hr2)⟩)
  have B2 := hide (HT2.out.below (Nat.le_of_eq HB.out.symm) (fun _ x => x.elim))
  clear htail hBs hr2 t2 T1 HB1 HB2 HR1 HT2
  go_wp2_with fail
  obtain ⟨N, hN⟩ : ∃ N, ps.length = N := ⟨_, rfl⟩
  have HN := hide hN
  rw [hN] at hpl ⊢
  clear hN
  have HST := hide (fun (k : Nat) (hk : k < N) (u : World) (v : Value) (l : List Plc) (hM : Mid u B b r p ps tail k v l) (hs : B ≤ u.heap.size) => hM.step (by rw [HN.out]; exact hk) limit hs HBS.out.2.1 HBS.out.2.2 HRB.out.1 (by rw [HN.out]; exact hpl) hsum hlb hz hord hp)
  have HHZ := hide hz
  clear hz hord hsum hlb
  go_loopw [12] (fun iv wr => ∃ (k : Nat) (v : Value) (l : List Plc), iv = .int .u64 (k : Nat) ∧ k ≤ N ∧ Mid wr B b r p ps tail k v l ∧ Below b w wr ∧ B ≤ wr.heap.size) (fun iv _ => N - (intOf iv).toNat)
  case atStart => exact ⟨0, _, _, rfl, Nat.zero_le _, M0.out, B2.out, Nat.le_of_eq HBS.out.1.symm⟩
  case round =>
    obtain ⟨k, v, l, rfl, hk, hM, hbw, hBw⟩ := hrel
    have HM := hide hM
    have HBW := hide hbw
    clear hM hbw
    by_cases hlt : k < N
    · have i1 : (k : Int) < (N : Int) := by omega
      have i0 : (0 : Int) ≤ (k : Int) := by omega
      have ST := hide (HST.out k hlt _ v l HM.out hBw)
      go_wp2_with (go_at_call 98; refine ST.out.mono ?_; rintro oo w3 ⟨rfl, v', l', hM3, t3⟩)
      go_roundw
      case rel => exact ⟨k + 1, v', l', by go_num, by omega, hM3, HBW.out.trans (t3.below (Nat.le_trans (Nat.le_of_eq HB.out.symm) HBW.out.size) (fun j hj => hj)), Nat.le_trans hBw t3.size⟩
      case measure => simp [intOf]; omega
    · have i1 : ¬ (k : Int) < (N : Int) := by omega
      obtain rfl : k = N := by omega
      obtain ⟨pa, pc, hv⟩ := HM.out.hv
      have HR := hide (show RdrL _ r p (short ne ++ (short lo ++ (short hi ++ (pieceB least ++ (pieceB most ++ []))))) 0 from by
        have h1 := HM.out.rdr
        rw [List.drop_eq_nil_of_le (Nat.le_of_eq HN.out), ← HTL.out] at h1
        exact h1)
      obtain ⟨w3, hw3⟩ : ∃ u, u = wr := ⟨wr, rfl⟩
      subst hw3
      clear HST M0 B2
      go_wp2_with fail
      refine (number_L r p _ ne (by omega) _ HR.out hp).mono ?_
      rintro oo w4 ⟨rfl, hr4, t4⟩
      have HR := hide hr4
      have TT := hide t4
      clear hr4 t4
      have e1 : (ne : Int) < 9223372036854775808 := by omega
      go_wp2_with fail
      refine (number_L r p _ lo hlo _ HR.out hp).mono ?_
      rintro oo w5 ⟨rfl, hr4, t4⟩
      have HR := hide hr4
      have TT := hide (TT.out.trans t4)
      clear hr4 t4
      go_wp2_with fail
      refine (number_L r p _ hi hhi _ HR.out hp).mono ?_
      rintro oo w6 ⟨rfl, hr4, t4⟩
      have HR := hide hr4
      have TT := hide (TT.out.trans t4)
      clear hr4 t4
      go_wp2_with fail
      refine (piece_L r p _ least (by omega) _ HR.out hp).mono ?_
      rintro oo w7 ⟨⟨la, lc, rfl, hk3, hf3⟩, hr4, t4⟩
      have HR := hide hr4
      have HLA := hide hk3
      have HLF := hide (fun a ha => Nat.le_trans (Nat.le_trans hBw TT.out.size) (hf3 a ha))
      have TT := hide (TT.out.trans t4)
      clear hr4 t4 hk3 hf3
      go_wp2_with fail
      refine (piece_L r p _ most (by omega) _ HR.out hp).mono ?_
      rintro oo w8 ⟨⟨ma, mc, rfl, hk3, hf3⟩, hr4, t4⟩
      have HR := hide hr4
      have HMA := hide hk3
      have HMF := hide (fun a ha => Nat.le_trans (Nat.le_trans hBw TT.out.size) (hf3 a ha))
      have HLA := hide (bytes_keep HLA.out t4 (fun a ha he => by have h1 := HLF.out a ha; have h2 := HBS.out; have h3 : a.block = r := he; omega))
      have TT := hide (TT.out.trans t4)
      clear hr4 t4 hk3 hf3
      have HBX := hide (TT.out.heap HM.out.box (fun e => by have h1 : b = r := e; have := HRB.out; omega))
      have HRW := hide (HM.out.row.keep TT.out (fun k hk he => by have h1 : k = r := he; have h2 := (HM.out.row.row hk).1; have := HBS.out; omega))
      have HKY := hide (fun q (hq : q ∈ l) => show Bytes w8 q.t.kv q.t.e.key ∧ ∀ a, q.t.ka = some a → B ≤ a.block ∧ a.block < w8.heap.size ∧ ¬ inRow v a.block from by
        obtain ⟨h0, h9⟩ := HM.out.keys q hq
        exact ⟨h0.turns TT.out (fun a n c e he => by
          have h1 := (h9 a (by simp only [Tow.kv, Value.slice.injEq] at e; exact e.1)).1
          have h3 : a.block = r := he
          have := HBS.out
          omega), fun a ha => ⟨(h9 a ha).1, Nat.lt_of_lt_of_le (h9 a ha).2.1 TT.out.size, (h9 a ha).2.2⟩⟩)
      have HB8 := hide (HBW.out.trans (TT.out.below (Nat.le_trans (Nat.le_of_eq HB.out.symm) HBW.out.size) (fun j hj => by have h1 : j = r := hj; have := HRB.out; omega)))
      have q1 := cell_of_row w8 b 1 _ 55 (0, 0) HBX.out
      have q2 := cell_of_row w8 b 2 _ 55 (0, 0) HBX.out
      have q3 := cell_of_row w8 b 3 _ 55 (0, 0) HBX.out
      have q4 := cell_of_row w8 b 4 _ 55 (0, 0) HBX.out
      have q5 := cell_of_row w8 b 5 _ 55 (0, 0) HBX.out
      have q6 := cell_of_row w8 b 6 _ 55 (0, 0) HBX.out
      have q7 := cell_of_row w8 b 7 _ 55 (0, 0) HBX.out
      have f1 := frozen_of_row w8 b 1 _ 55 HBX.out
      have f2 := frozen_of_row w8 b 2 _ 55 HBX.out
      have f3 := frozen_of_row w8 b 3 _ 55 HBX.out
      have f4 := frozen_of_row w8 b 4 _ 55 HBX.out
      have f5 := frozen_of_row w8 b 5 _ 55 HBX.out
      have f6 := frozen_of_row w8 b 6 _ 55 HBX.out
      have f7 := frozen_of_row w8 b 7 _ 55 HBX.out
      simp only [idxCells, List.getElem?_toArray, List.getElem?_cons_zero, List.getElem?_cons_succ] at q1 q2 q3 q4 q5 q6 q7
      go_upto_region 9 with (fail)
      have TK := hide ((((((((Tick.refl HBX.out).set 1 (.int .i64 (ne : Nat))).set 2 (.int .i64 0)).set 3 (.int .i64 0)).set 4 (.slice la least.length lc)).set 5 (.slice ma most.length mc)).set 6 (.int .u64 (lo : Nat))).set 7 (.int .u64 (hi : Nat)))
      clear q1 q2 q3 q4 q5 q6 q7 f1 f2 f3 f4 f5 f6 f7
      generalize ((((((w8.setCell ⟨b, 1, none⟩ (.int .i64 (ne : Nat))).setCell ⟨b, 2, none⟩ (.int .i64 0)).setCell ⟨b, 3, none⟩ (.int .i64 0)).setCell ⟨b, 4, none⟩ (.slice la least.length lc)).setCell ⟨b, 5, none⟩ (.slice ma most.length mc)).setCell ⟨b, 6, none⟩ (.int .u64 (lo : Nat))).setCell ⟨b, 7, none⟩ (.int .u64 (hi : Nat)) = w9 at *
      have HB9 := hide (show w9.heap[b]? = some (.cells (idxCells v (.int .i64 (ne : Nat)) (.int .i64 0) (.int .i64 0) (.slice la least.length lc) (.slice ma most.length mc) (.int .u64 (lo : Nat)) (.int .u64 (hi : Nat))) 55 (0, 0)) from by have h9 := TK.out.1; rw [idx7] at h9; exact h9)
      have U9 := hide (Turns.of_tick TK.out)
      have HR9 := hide (rdrL_over HR.out HBX.out (noU8_idx ⟨pa, l.length, pc, hv⟩) U9.out (fun k hk => .inl hk) (by have := HRB.out; omega))
      have HLA9 := hide (bytes_keep HLA.out U9.out (fun a ha he => by have h1 := HLF.out a ha; have h2 := HBS.out; have h3 : a.block = b := he; omega))
      have HMA9 := hide (bytes_keep HMA.out U9.out (fun a ha he => by have h1 := HMF.out a ha; have h2 := HBS.out; have h3 : a.block = b := he; omega))
      have HRW9 := hide (HRW.out.keep U9.out (fun k hk he => by have h1 : k = b := he; have h2 := (HRW.out.row hk).1; have := HBS.out; omega))
      have HKY9 := hide (fun q (hq : q ∈ l) => show Bytes w9 q.t.kv q.t.e.key ∧ ∀ a, q.t.ka = some a → B ≤ a.block ∧ a.block < w9.heap.size ∧ ¬ inRow v a.block from by
        obtain ⟨h0, h9⟩ := HKY.out q hq
        exact ⟨h0.turns U9.out (fun a n c e he => by
          have h1 := (h9 a (by simp only [Tow.kv, Value.slice.injEq] at e; exact e.1)).1
          have h3 : a.block = b := he
          have := HBS.out
          omega), fun a ha => ⟨(h9 a ha).1, Nat.lt_of_lt_of_le (h9 a ha).2.1 U9.out.size, (h9 a ha).2.2⟩⟩)
      have HB09 := hide (HB8.out.trans (U9.out.below (Nat.le_trans (Nat.le_of_eq HB.out.symm) HB8.out.size) (fun j hj => Nat.le_of_eq (Eq.symm hj))))
      have HLAY := hide (show Lay l ps from by
        have h1 := HM.out.lay
        rw [List.take_of_length_le (Nat.le_of_eq HN.out)] at h1
        exact h1)
      obtain ⟨x, hx⟩ : ∃ x, l.getLast? = some x := by
        cases hl : l.getLast? with
        | none =>
          have h1 := HLAY.out.len
          rw [List.getLast?_eq_none_iff.1 hl] at h1
          exact absurd (List.length_eq_zero_iff.1 h1.symm) hps
        | some x => exact ⟨x, rfl⟩
      have hxm : x.t.e.key = most := hmost x.z (by rw [← HLAY.out.z, List.getLast?_map, hx]; rfl)
      have EM := hide (fun (m : Nat) => endsInMost_ok b l pa pc B x ma most.length mc (w9.drewN m) (by rw [← hv]; exact (Turns.refl (fun _ => False) w9).drewN m |>.cell (cell_of_row w9 b 0 _ 55 (0, 0) HB9.out) (fun x => x)) ((Turns.refl (fun _ => False) w9).drewN m |>.cell (cell_of_row w9 b 5 _ 55 (0, 0) HB9.out) (fun x => x)) (by rw [HLAY.out.len, HN.out]; exact hpl) (by rw [← hv]; exact HRW9.out.keep ((Turns.refl (fun _ => False) w9).drewN m) (fun _ _ x => x)) hx (Bytes.quiet (HKY9.out x (List.mem_of_getLast? hx)).1 ((Turns.refl (fun _ => False) w9).drewN m)) (by rw [hxm]; exact HMA9.out.quiet ((Turns.refl (fun _ => False) w9).drewN m)))
      have EL := hide (end_L HR9.out hp)
      clear HR HR9 HBX TK HLA HMA HRW HKY HB8 U9
      have HV := hide hv
      have e2 : (ne : Int) ≤ 9223372036854775807 := by omega
      clear e1
      clear hv hx hxm i1 hlt hk hlo hhi hle hmo hmost hps hne hBw hpl
      go_wp2_with fail
      refine EL.out.mono ?_
      rintro oo w99 ⟨rfl, md, rfl⟩
      go_wp2_with fail
      refine (EM.out md).mono ?_
      rintro oo w10 ⟨rfl, t10⟩
      go_upto_region 11 with (fail)
      have T10 := hide (((Turns.refl (fun _ => False) w9).drewN md).trans t10)
      clear t10
      obtain rfl := HV.out
      have HB10 := hide (T10.out.heap HB9.out (fun x => x))
      have z0 := cell_of_row w10 b 0 _ 55 (0, 0) HB10.out
      have z1 := cell_of_row w10 b 1 _ 55 (0, 0) HB10.out
      have z2 := cell_of_row w10 b 2 _ 55 (0, 0) HB10.out
      have z3 := cell_of_row w10 b 3 _ 55 (0, 0) HB10.out
      have z4 := cell_of_row w10 b 4 _ 55 (0, 0) HB10.out
      have z5 := cell_of_row w10 b 5 _ 55 (0, 0) HB10.out
      have z6 := cell_of_row w10 b 6 _ 55 (0, 0) HB10.out
      have z7 := cell_of_row w10 b 7 _ 55 (0, 0) HB10.out
      have g0 := frozen_of_row w10 b 0 _ 55 HB10.out
      have g1 := frozen_of_row w10 b 1 _ 55 HB10.out
      have g2 := frozen_of_row w10 b 2 _ 55 HB10.out
      have g3 := frozen_of_row w10 b 3 _ 55 HB10.out
      have g4 := frozen_of_row w10 b 4 _ 55 HB10.out
      have g5 := frozen_of_row w10 b 5 _ 55 HB10.out
      have g6 := frozen_of_row w10 b 6 _ 55 HB10.out
      have g7 := frozen_of_row w10 b 7 _ 55 HB10.out
      simp only [idxCells, List.getElem?_toArray, List.getElem?_cons_zero, List.getElem?_cons_succ] at z0 z1 z2 z3 z4 z5 z6 z7
      obtain ⟨L, hL⟩ : ∃ L, l.length = L := ⟨_, rfl⟩
      have HLL := hide hL
      rw [hL] at z0
      clear hL
      go_wp2_with fail
      have k3 := ((((((((Tick.refl HB10.out).set 0 (.slice pa L pc)).set 1 (.int .i64 (ne : Nat))).set 2 (.int .i64 0)).set 3 (.int .i64 0)).set 4 (.slice la least.length lc)).set 5 (.slice ma most.length mc)).set 6 (.int .u64 (lo : Nat))).set 7 (.int .u64 (hi : Nat))
      have k4 := k3.1
      rw [idx8] at k4
      refine bodyPost_ret (v := .tuple #[.agg (idxCells (.slice pa L pc) (.int .i64 (ne : Nat)) (.int .i64 0) (.int .i64 0) (.slice la least.length lc) (.slice ma most.length mc) (.int .u64 (lo : Nat)) (.int .u64 (hi : Nat))), .bool true]) ?_ rfl ?_
      · exact results_cell_tmp Tryz.results56 _ _ _ _ _ _ _ _ rfl rfl k4 Tryz.underlying55 rfl info55
      · go_light
        have u3 := Turns.of_tick k3
        have hbs := HBS.out
        refine ⟨.slice pa L pc, l, la, lc, ma, mc, rfl, ⟨pa, pc, by rw [HLL.out]⟩, ?_, HLAY.out, fun q hq => ?_, ?_, ?_, fun x hx => by have := HLF.out x hx; have := HB.out; omega, fun x hx => by have := HMF.out x hx; have := HB.out; omega, ?_⟩
        · have h8 := ((HRW9.out.keep T10.out (fun _ _ x => x)).keep u3 (fun k hk he => by have h1 : k = b := he; have h2 := (HRW9.out.row hk).1; omega)).le (show w.heap.size ≤ B from by have := HB.out; omega)
          rw [HLL.out] at h8
          exact h8
        · obtain ⟨h0, h9⟩ := HKY9.out q hq
          refine ⟨(h0.quiet T10.out).turns u3 (fun a n c e he => ?_), fun a ha => ⟨by have := (h9 a ha).1; have := HB.out; omega, Nat.lt_of_lt_of_le (h9 a ha).2.1 (Nat.le_trans T10.out.size u3.size)⟩⟩
          have h1 := (h9 a (by simp only [Tow.kv, Value.slice.injEq] at e; exact e.1)).1
          have h3 : a.block = b := he
          omega
        · exact bytes_keep (HLA9.out.quiet T10.out) u3 (fun a ha he => by have h1 := HLF.out a ha; have h3 : a.block = b := he; omega)
        · exact bytes_keep (HMA9.out.quiet T10.out) u3 (fun a ha he => by have h1 := HMF.out a ha; have h3 : a.block = b := he; omega)
        · rw [HB.out]
          exact HB09.out.trans ((T10.out.below (Nat.le_trans (Nat.le_of_eq HB.out.symm) HB09.out.size) (fun _ x => x.elim)).trans (u3.below (Nat.le_trans (Nat.le_trans (Nat.le_of_eq HB.out.symm) HB09.out.size) T10.out.size) (fun j hj => Nat.le_of_eq (Eq.symm hj))))
end Go.Proofs.YtjklbhdhjfifhaaGreat

/-
  A table's bytes: pure.
-/
namespace Go.Proofs.YtjklbhdhjfifhaaGreat
open Go.RowKit
set_option maxRecDepth 100000
set_option maxHeartbeats 4000000
/-- The least and the greatest number of a row. -/
def loS (a : Nat) (l : List Tow) : Nat := l.foldl (fun m t => min m t.e.seq) a
def hiS (a : Nat) (l : List Tow) : Nat := l.foldl (fun m t => max m t.e.seq) a
theorem loS_succ {l : List Tow} {k : Nat} {x : Tow} (h : l[k]? = some x) (a : Nat) : loS a (l.take (k + 1)) = min (loS a (l.take k)) x.e.seq := by
  unfold loS
  rw [List.take_add_one, h, List.foldl_append]
  rfl
theorem hiS_succ {l : List Tow} {k : Nat} {x : Tow} (h : l[k]? = some x) (a : Nat) : hiS a (l.take (k + 1)) = max (hiS a (l.take k)) x.e.seq := by
  unfold hiS
  rw [List.take_add_one, h, List.foldl_append]
  rfl
theorem loS_lt {N : Nat} : ∀ (l : List Tow) (a : Nat), a < N → loS a l < N
  | [], a, h => h
  | x :: r, a, h => loS_lt r (min a x.e.seq) (by omega)
theorem hiS_lt {N : Nat} : ∀ (l : List Tow) (a : Nat), a < N → (∀ x ∈ l, x.e.seq < N) → hiS a l < N
  | [], a, h, _ => h
  | x :: r, a, h, hl => hiS_lt r (max a x.e.seq) (by have := hl x (List.mem_cons_self ..); omega) (fun y hy => hl y (List.mem_cons_of_mem _ hy))
/-- A place's bytes in an index. -/
def plcB (p : Plc) : List (BitVec 8) := short p.pos ++ (short p.size ++ (pieceB p.t.e.key ++ short p.t.e.seq))
def zsT (l : List Tow) (L : List (Nat × Nat)) : List Pz := (plcs l 0 L).map Plc.z
theorem plcs_pz (l : List Tow) : ∀ (L : List (Nat × Nat)) (p : Nat), (plcs l p L).flatMap plcB = pzB p ((plcs l p L).map Plc.z)
  | [], _ => rfl
  | x :: r, p => by
    have h := plcs_pz l r (p + (frB l x).length)
    simp only [plcs, List.flatMap_cons, List.map_cons, h, plcB, Plc.z, pzB, List.append_assoc]
theorem plcs_sum (l : List Tow) : ∀ (L : List (Nat × Nat)) (p : Nat), sumZ ((plcs l p L).map Plc.z) = sumF l L
  | [], _ => rfl
  | x :: r, p => by
    have h := plcs_sum l r (p + (frB l x).length)
    simp only [plcs, List.map_cons, sumF, List.sum_cons, sumZ, Plc.z] at h ⊢
    omega
theorem zsT_sum (l : List Tow) (L : List (Nat × Nat)) : sumZ (zsT l L) = sumF l L := plcs_sum l L 0
theorem zsT_length (l : List Tow) (L : List (Nat × Nat)) : (zsT l L).length = L.length := by unfold zsT; rw [List.length_map, plcs_length]
theorem flat_length (l : List Tow) (L : List (Nat × Nat)) : (L.flatMap (frB l)).length = sumF l L := by
  unfold sumF
  induction L with
  | nil => rfl
  | cons x r ih => rw [List.flatMap_cons, List.length_append, ih]; simp
/-- The index of a row cut so. -/
def idxT (l : List Tow) (L : List (Nat × Nat)) (n lo hi : Nat) (least most : List (BitVec 8)) : List (BitVec 8) := idxB (zsT l L) n lo hi least most
def aheadB (l : List Tow) (L : List (Nat × Nat)) (flt : List (BitVec 8)) : List (BitVec 8) := L.flatMap (frB l) ++ Fr.frameB 3#8 flt
def tblB (l : List Tow) (L : List (Nat × Nat)) (flt idx : List (BitVec 8)) : List (BitVec 8) := aheadB l L flt ++ (Fr.frameB 4#8 idx ++ (ordB (aheadB l L flt).length ++ markB))
end Go.Proofs.YtjklbhdhjfifhaaGreat

/-
  Parts, several at once, behind a row of parts.
-/
namespace Go.Proofs.YtjklbhdhjfifhaaGreat
open Go.RowKit Go.Shelf
set_option maxRecDepth 100000
set_option maxHeartbeats 4000000
theorem ptCells_one (l : List Pt) : ∀ u ∈ ptCells l, u.oneCell' = true := fun u hu => by
  obtain ⟨x, _, hx⟩ := List.mem_flatMap.1 hu
  simp only [Pt.cells, List.mem_cons, List.not_mem_nil, or_false] at hx
  rcases hx with rfl | rfl <;> rfl
theorem append_pts (w : World) (B : Nat) (v : Value) (R xs : List Pt) (h : TRow w B v R) (hB : B ≤ w.heap.size) (hlen : R.length ≤ 1000000000) (hxl : xs.length ≤ 1000) (hx0 : 0 < xs.length) (g c : Nat) (hg : w.heap[g]? = some (.cells (ptCells xs).toArray 119 (0, 0))) :
    ∃ (g' n' c' : Nat) (w' : World), (∀ ty, (Builtin.append_ #[159, 159] ty #[v, .slice (some ⟨g, 0, none⟩) xs.length c]).run Tryz.prog w = .ok (.slice (some ⟨g', 0, none⟩) n' c') w') ∧ n' = (R ++ xs).length ∧ TRow w' B (.slice (some ⟨g', 0, none⟩) n' c') (R ++ xs) ∧ Turns (inRow v) w w' ∧ Below B w w' ∧ (inRow v g' ∨ g' = w.heap.size) := by
  have hsrc : Src Tryz.prog Tryz.t119.size 159 (.slice (some ⟨g, 0, none⟩) xs.length c) xs.length (ptCells xs) w := Src.ofSlice w Tryz.underlying159 ⟨g, 0, none⟩ xs.length c _ (by rw [t119_size, ptCells_length]) (fun j u hu => by
    rw [Go.WideShapes.add_plain, Nat.zero_add, cell_of_row w g j _ 119 (0, 0) hg]
    simpa using hu) (ptCells_one xs)
  obtain ⟨base, sLen, sCap, rfl, hsl, hbase⟩ : ∃ (base : Option Addr) (sLen sCap : Nat), v = .slice base sLen sCap ∧ sLen = R.length ∧ ((base = none ∧ sLen = 0 ∧ sCap = 0 ∧ 0 < xs.length) ∨ ∃ g, base = some ⟨g, 0, none⟩ ∧ B ≤ g ∧ sLen ≤ sCap ∧ RowC w g 119 (sCap * Tryz.t119.size) (ptCells R)) := by
    rcases h with ⟨rfl, rfl⟩ | ⟨g, c, n, rfl, rfl, h3, h4, h5⟩
    · exact ⟨none, 0, 0, rfl, rfl, .inl ⟨rfl, rfl, rfl, hx0⟩⟩
    · exact ⟨_, _, _, rfl, rfl, .inr ⟨g, rfl, h4, h3, by rw [t119_size]; exact h5⟩⟩
  obtain ⟨g', cp, w', hr, hg', hrow, hb, hcp, hin, hnew, hkeep⟩ := append_gen2 (P := Tryz.prog) w B 159 119 Tryz.t119 _ Tryz.underlying159 t119_info t119_zero rfl base sLen sCap (ptCells R) (by rw [t119_size, hsl, ptCells_length]) _ xs.length _ hsrc hB hbase (by rw [t119_bytes]; omega) (by omega)
  refine ⟨g', _, cp, w', hr, by simp [hsl], .inr ⟨g', cp, _, rfl, by simp [hsl], hcp, hg', ?_⟩, ⟨hb.os, hb.tape, hb.output, hb.size, fun k hk hn => hkeep k hk fun e => hn ⟨sLen, sCap, by rw [e]⟩⟩, hb, ?_⟩
  · rw [t119_size] at hrow
    rw [show ptCells (R ++ xs) = ptCells R ++ ptCells xs by simp [ptCells]]
    exact hrow
  · rcases Nat.lt_or_ge sCap (sLen + xs.length) with h1 | h1
    · exact .inr (hnew h1)
    · exact .inl ⟨sLen, sCap, by rw [(hin h1).1]⟩
/-- Parts of one's own, in a row: what they come to. -/
structure Acc (w : World) (N : Nat) (v : Value) (bs : List (BitVec 8)) (m : Nat) : Prop where
  ex : ∃ R : List Pt, TRow w N v R ∧ (∀ x ∈ R, Fresh N w x.v x.bs ∧ 0 < x.bs.length) ∧ allB R = bs ∧ R.length = m
theorem Acc.len {w : World} {N : Nat} {v : Value} {bs : List (BitVec 8)} {m : Nat} (h : Acc w N v bs m) : ∃ a c, v = .slice a m c := by
  obtain ⟨R, h1, _, _, rfl⟩ := h.ex
  exact h1.len
theorem Acc.row {w : World} {N : Nat} {v : Value} {bs : List (BitVec 8)} {m : Nat} (h : Acc w N v bs m) {k : Nat} (hk : inRow v k) : N ≤ k ∧ k < w.heap.size := by
  obtain ⟨R, h1, _⟩ := h.ex
  have := h1.row hk
  exact ⟨this.1, this.2.1⟩
/-- What turns in new memory alone turns nothing that was there. -/
theorem turns_fromQ {S : Nat → Prop} {w u u' : World} (t : Turns (fun _ => False) w u) (t' : Turns S u u') (h : ∀ j, S j → w.heap.size ≤ j) : Turns (fun _ => False) w u' :=
  t.andThen t' fun k hk hs => absurd hk (Nat.not_lt.2 (h k hs))
theorem Acc.quiet {w w' : World} {N : Nat} {v : Value} {bs : List (BitVec 8)} {m : Nat} (h : Acc w N v bs m) (t : Turns (fun _ => False) w w') : Acc w' N v bs m := by
  obtain ⟨R, h1, h2, h3, h4⟩ := h.ex
  exact ⟨R, h1.keep t (fun _ _ x => x), fun x hx => ⟨(h2 x hx).1.turns t (fun _ _ x => x), (h2 x hx).2⟩, h3, h4⟩
theorem Acc.add {w : World} {N : Nat} {v : Value} {bs : List (BitVec 8)} {m : Nat} (h : Acc w N v bs m) (hN : N ≤ w.heap.size) (hm : m ≤ 1000000) (xs : List Pt) (hxl : xs.length ≤ 1000) (hx0 : 0 < xs.length) (hxf : ∀ x ∈ xs, Fresh N w x.v x.bs ∧ 0 < x.bs.length) (k c : Nat) (hk : k = xs.length) (g : Nat) (hg : w.heap[g]? = some (.cells (ptCells xs).toArray 119 (0, 0))) :
    ∃ (a : Option Addr) (c' : Nat) (w' : World), (∀ ty, (Builtin.append_ #[159, 159] ty #[v, .slice (some ⟨g, 0, none⟩) k c]).run Tryz.prog w = .ok (.slice a (m + k) c') w') ∧ Acc w' N (.slice a (m + k) c') (bs ++ allB xs) (m + k) ∧ Turns (fun j => N ≤ j) w w' ∧ Turns (fun j => inRow v j) w w' := by
  subst hk
  obtain ⟨R, h1, h2, h3, rfl⟩ := h.ex
  obtain ⟨g', n', c', w', hr, rfl, hrow, tt, hb, _⟩ := append_pts w N v R xs h1 hN (by omega) hxl hx0 g c hg
  have keep : ∀ x : Pt, Fresh N w x.v x.bs → Fresh N w' x.v x.bs := fun x hx => hx.keep5 tt fun j hj => .inr (by
    obtain ⟨_, _, cs, hc⟩ := h1.row hj
    exact ⟨cs, 119, _, hc, by decide⟩)
  rw [List.length_append] at hr hrow
  refine ⟨_, c', w', hr, ⟨R ++ xs, hrow, fun x hx => ?_, by unfold allB at h3 ⊢; rw [List.flatMap_append, h3], by simp⟩, tt.mono fun j _ hj => (h1.row hj).1, tt⟩
  rcases List.mem_append.1 hx with hx | hx
  · exact ⟨keep x (h2 x hx).1, (h2 x hx).2⟩
  · exact ⟨keep x (hxf x hx).1, (hxf x hx).2⟩
theorem Acc.first {w : World} {N : Nat} (x : Pt) (hf : Fresh N w x.v x.bs) (h0 : 0 < x.bs.length) (g c : Nat) (hN : N ≤ g) (hc : 1 ≤ c) (hg : w.heap[g]? = some (.cells (ptCells [x]).toArray 119 (0, 0))) (hc1 : c = 1) : Acc w N (.slice (some ⟨g, 0, none⟩) 1 c) x.bs 1 := by
  subst hc1
  exact ⟨[x], .inr ⟨g, 1, 1, rfl, rfl, Nat.le_refl _, hN, _, hg, by simp [ptCells_length], fun k hk => by simp⟩, fun y hy => by rw [List.mem_singleton.1 hy]; exact ⟨hf, h0⟩, by simp [allB], rfl⟩
/-- A part's value, as it stands in a row. -/
theorem PartOk.pt {N : Nat} {w : World} {v : Value} {bs : List (BitVec 8)} (h : PartOk N w v bs) : ∃ a c, v = .agg #[.slice a bs.length c, .int .i64 0] ∧ Fresh N w (Pt.v ⟨a, c, bs⟩) bs := by
  obtain ⟨x, rfl, hf⟩ := h
  obtain ⟨a, c, rfl⟩ := hf.len
  exact ⟨a, c, rfl, hf⟩
theorem pieceB_pos (p : List (BitVec 8)) : 0 < (pieceB p).length := by
  have := short_pos p.length
  rw [pieceB_len]
  omega
end Go.Proofs.YtjklbhdhjfifhaaGreat
