import Derived.Test.YtjklbhdhjfifhaaGreatM49
import Derived.Test.YtjklbhdhjfifhaaGreatM48
import Derived.Test.YtjklbhdhjfifhaaGreatM40
import Derived.Test.YtjklbhdhjfifhaaGreatM46
import Derived.Test.YtjklbhdhjfifhaaGreatM28
/-
  Make: its contracts.
-/
namespace Go.Proofs.YtjklbhdhjfifhaaGreat
open Go.RowKit Go.Shelf
set_option maxRecDepth 100000
set_option maxHeartbeats 4000000
abbrev z42 : Array Value := #[.int .i64 0, .int .i64 0, .int .i64 0, .slice none 0 0, .slice none 0 0, .int .u64 0, .int .u64 0]
/-- What check refuses is not built. -/
theorem build_err (a : Option Addr) (n c : Nat) (F bits z : Int) (hz : z ≠ 0) (w : World) (hck : ∀ u, Turns (fun _ => False) w u → Calls Tryz.prog 65 #[.slice a n c, .agg #[.int .i64 F, .int .i64 bits]] u fun e u' => e = .returned (.int .i64 z) ∧ Below u.heap.size u u') :
    Calls Tryz.prog 39 #[.slice a n c, .agg #[.int .i64 F, .int .i64 bits]] w fun e w' => e = .returned (.tuple #[.slice none 0 0, .agg z42, .int .i64 z]) ∧ Below w.heap.size w w' := by
  have CK := hide hck
  have T0 := hide (((Turns.refl (fun _ => False) w).alloc (.cells #[.int .i64 F, .int .i64 bits] 32)).alloc (.cells #[.int .i64 0, .int .i64 0, .int .i64 0, .slice none 0 0, .slice none 0 0, .int .u64 0, .int .u64 0] 42))
  have N3 := hide (show ((w.alloc (.cells #[.int .i64 F, .int .i64 bits] 32)).alloc (.cells #[.int .i64 0, .int .i64 0, .int .i64 0, .slice none 0 0, .slice none 0 0, .int .u64 0, .int .u64 0] 42)).heap[w.heap.size]? = some (.cells #[.int .i64 F, .int .i64 bits] 32 (0, 0)) from (heap_alloc_old _ _ (by simp)).trans (heap_alloc_new w _))
  have N5 := hide (show ((w.alloc (.cells #[.int .i64 F, .int .i64 bits] 32)).alloc (.cells #[.int .i64 0, .int .i64 0, .int .i64 0, .slice none 0 0, .slice none 0 0, .int .u64 0, .int .u64 0] 42)).heap[w.heap.size + 1]? = some (.cells #[.int .i64 0, .int .i64 0, .int .i64 0, .slice none 0 0, .slice none 0 0, .int .u64 0, .int .u64 0] 42 (0, 0)) from by
    have h9 : (w.alloc (.cells #[.int .i64 F, .int .i64 bits] 32)).heap.size = w.heap.size + 1 := by simp
    rw [← h9]
    exact heap_alloc_new _ _)
  clear hck
  go_enter Tryz.func39, Tryz.ntmps39
  go_upto_region 1 with (fail)
  generalize ((w.alloc (.cells #[.int .i64 F, .int .i64 bits] 32)).alloc (.cells #[.int .i64 0, .int .i64 0, .int .i64 0, .slice none 0 0, .slice none 0 0, .int .u64 0, .int .u64 0] 42)) = w0 at *
  have c0 := cell_of_row w0 w.heap.size 0 _ 32 (0, 0) N3.out
  have c1 := cell_of_row w0 w.heap.size 1 _ 32 (0, 0) N3.out
  simp only [List.getElem?_toArray, List.getElem?_cons_zero, List.getElem?_cons_succ] at c0 c1
  go_wp2_with fail
  refine (CK.out _ T0.out).mono ?_
  rintro e w1 ⟨rfl, b1⟩
  have t1 := Turns.of_below b1 (fun _ => False)
  have T1 := hide (T0.out.trans t1)
  have CN := hide (t1.heap N5.out (fun x => x))
  clear b1 t1 c0 c1 N3 N5 T0 CK
  go_wp2_with (refine wpList_store_row rfl 42 _ _ rfl _ _ rfl rfl _ _ CN.out ?_ ?_ ?_ ?_; (exact info42); (simp only [List.size_toArray, List.length_cons, List.length_nil]); (simp [Value.oneCell']))
  have tS : Turns (fun j => j = w.heap.size + 1) w1 (w1.setRow (w.heap.size + 1) z42) := ⟨rfl, rfl, rfl, by simp, fun k _ hk => setRow_other _ _ _ _ hk⟩
  refine bodyPost_ret (v := .tuple #[.slice none 0 0, .agg z42, .int .i64 z]) ?_ rfl ?_
  · exact results_tmp_cell_tmp Tryz.results39 _ _ _ _ _ _ _ _ _ rfl rfl rfl (setRow_heap _ _ _ _ _ _ CN.out) Tryz.underlying42 rfl info42
  · exact ⟨rfl, (T1.out.andThen tS (fun k hk e => by have h9 : k = w.heap.size + 1 := e; omega)).below (Nat.le_refl _) (fun _ x => x.elim)⟩
theorem tcheck_bad (F bits : Int) (h : ¬ (64 ≤ F ∧ F ≤ 65536 ∧ 1 ≤ bits ∧ bits ≤ 32)) (a : Option Addr) (n c : Nat) (w : World) :
    Calls Tryz.prog 65 #[.slice a n c, .agg #[.int .i64 F, .int .i64 bits]] w fun e w' => e = .returned (.int .i64 2) ∧ Below w.heap.size w w' := by
  have N3 := hide (heap_alloc_new w (.cells #[.int .i64 F, .int .i64 bits] 32))
  have B0 := hide (show Below w.heap.size w (w.alloc (.cells #[.int .i64 F, .int .i64 bits] 32)) from (Below.refl _ _).alloc (Nat.le_refl _) _)
  have SB := hide (setup_bad F bits h (w.alloc (.cells #[.int .i64 F, .int .i64 bits] 32)))
  go_enter Tryz.func65, Tryz.ntmps65
  go_upto_region 1 with (fail)
  generalize w.alloc (.cells #[.int .i64 F, .int .i64 bits] 32) = w0 at *
  have c0 := cell_of_row w0 w.heap.size 0 _ 32 (0, 0) N3.out
  have c1 := cell_of_row w0 w.heap.size 1 _ 32 (0, 0) N3.out
  simp only [List.getElem?_toArray, List.getElem?_cons_zero, List.getElem?_cons_succ] at c0 c1
  go_wp2_with fail
  refine SB.out.mono ?_
  rintro e w1 ⟨rfl, b1⟩
  have B1 := hide (B0.out.trans (b1.mono B0.out.size))
  clear b1
  go_wp2_with fail
  go_ret
  exact ⟨rfl, B1.out⟩
/-- Make refuses what check refuses. -/
theorem tmake_err (a : Option Addr) (n c : Nat) (F bits z : Int) (hz : z ≠ 0) (w : World) (hck : ∀ u, Turns (fun _ => False) w u → Calls Tryz.prog 65 #[.slice a n c, .agg #[.int .i64 F, .int .i64 bits]] u fun e u' => e = .returned (.int .i64 z) ∧ Below u.heap.size u u') :
    Calls Tryz.prog 9 #[.slice a n c, .agg #[.int .i64 F, .int .i64 bits]] w fun e w' => e = .returned (.tuple #[.slice none 0 0, .int .i64 z]) ∧ Below w.heap.size w w' := by
  have T0 := hide ((Turns.refl (fun _ => False) w).alloc (.cells #[.int .i64 F, .int .i64 bits] 32))
  have N3 := hide (heap_alloc_new w (.cells #[.int .i64 F, .int .i64 bits] 32))
  have BE := hide (build_err a n c F bits z hz (w.alloc (.cells #[.int .i64 F, .int .i64 bits] 32)) (fun u t => hck u (T0.out.trans t)))
  clear hck
  go_enter Tryz.func9, Tryz.ntmps9
  go_upto_region 1 with (fail)
  generalize w.alloc (.cells #[.int .i64 F, .int .i64 bits] 32) = w0 at *
  have c0 := cell_of_row w0 w.heap.size 0 _ 32 (0, 0) N3.out
  have c1 := cell_of_row w0 w.heap.size 1 _ 32 (0, 0) N3.out
  simp only [List.getElem?_toArray, List.getElem?_cons_zero, List.getElem?_cons_succ] at c0 c1
  go_upto_region 2 with (go_at_call 39; refine BE.out.mono ?_; rintro e w1 ⟨rfl, b1⟩)
  have T1 := hide ((T0.out.trans (Turns.of_below b1 (fun _ => False))).alloc (.cells z42 42))
  clear b1 c0 c1
  go_wp2_with fail
  go_ret2
  exact ⟨rfl, T1.out.below (Nat.le_refl _) (fun _ x => x.elim)⟩
theorem tmake_ok (b off n c : Nat) (l : List Tow) (F : Int) (bits : Nat) (w : World) (h : Ents w (some ⟨b, off, none⟩) l) (hn : n = l.length) (h1 : 1 ≤ n) (hmx : n ≤ 200) (hnc : n ≤ c) (hw : wt (ents l) ≤ 100000) (hf : Good l) (hord : inOrd (ents l) = true) (hF1 : 64 ≤ F) (hF2 : F ≤ 65536) (hb1 : 1 ≤ bits) (hb2 : bits ≤ 32) (x0 xz : Tow) (hx0 : l[0]? = some x0) (hxz : l[n - 1]? = some xz) :
    Calls Tryz.prog 9 #[.slice (some ⟨b, off, none⟩) n c, .agg #[.int .i64 F, .int .i64 (bits : Nat)]] w fun e w' => ∃ va vc L bs, e = .returned (.tuple #[.slice va bs.length vc, .int .i64 0]) ∧ Cuts F l 0 L l.length ∧ Hid (bs = tblB l L (fltT l bits) (idxT l L l.length (loS x0.e.seq l) (hiS x0.e.seq l) x0.e.key xz.e.key)) ∧ Fresh w.heap.size w' (.slice va bs.length vc) bs ∧ Turns (fun _ => False) w w' := by
  have T0 := hide ((Turns.refl (fun _ => False) w).alloc (.cells #[.int .i64 F, .int .i64 (bits : Nat)] 32))
  have N3 := hide (heap_alloc_new w (.cells #[.int .i64 F, .int .i64 (bits : Nat)] 32))
  have BE := hide (build_ok b off n c l F bits (w.alloc (.cells #[.int .i64 F, .int .i64 (bits : Nat)] 32)) (h.quiet T0.out) hn h1 hmx hnc hw hf hord hF1 hF2 hb1 hb2 x0 xz hx0 hxz)
  subst hn
  generalize loS x0.e.seq l = lo at *
  generalize hiS x0.e.seq l = hi at *
  clear h hw hf hord hx0 hxz
  go_enter Tryz.func9, Tryz.ntmps9
  go_upto_region 1 with (fail)
  generalize w.alloc (.cells #[.int .i64 F, .int .i64 (bits : Nat)] 32) = w0 at *
  have c0 := cell_of_row w0 w.heap.size 0 _ 32 (0, 0) N3.out
  have c1 := cell_of_row w0 w.heap.size 1 _ 32 (0, 0) N3.out
  simp only [List.getElem?_toArray, List.getElem?_cons_zero, List.getElem?_cons_succ] at c0 c1
  go_wp2_with fail
  refine BE.out.mono ?_
  rintro e w1 ⟨v, L, la, lc, ma, mc, size, rfl, hcut, _, hfr, _, _, t1⟩
  obtain ⟨bs, hbs⟩ : ∃ x, x = tblB l L (fltT l bits) (idxT l L l.length lo hi x0.e.key xz.e.key) := ⟨_, rfl⟩
  rw [← hbs] at hfr
  have HBS := hide hbs
  clear hbs
  obtain ⟨va, vc, rfl⟩ := hfr.len
  obtain ⟨pn, hpn⟩ : ∃ x, x = L.length := ⟨_, rfl⟩
  rw [← hpn]
  have HC := hide hcut
  have FR := hide (hfr.le T0.out.size)
  have T1 := hide (T0.out.trans t1)
  clear hpn hcut hfr t1 c0 c1 BE
  go_wp2_with fail
  go_ret2
  exact ⟨va, vc, L, bs, rfl, HC.out, HBS, FR.out.turns ((Turns.refl (fun _ => False) w1).alloc _) (fun _ _ x => x), T1.out.alloc _⟩
end Go.Proofs.YtjklbhdhjfifhaaGreat

/-
  The chapter's example: lives.
-/
namespace Go.Proofs.YtjklbhdhjfifhaaGreat
open Go.RowKit Go.Shelf
set_option maxRecDepth 100000
set_option maxHeartbeats 4000000
def eT : Ent := ⟨[97#8], 1, 1, [120#8]⟩
theorem eT_chk : chk1 eT = 0 := by decide
theorem ents_one {w : World} {g : Nat} {x : Tow} (h : w.heap[g]? = some (.cells #[x.kv, .int .u64 (x.e.seq : Nat), .int .i64 x.e.kind, x.vv] 35 (0, 0))) (h1 : Bytes w x.kv x.e.key) (h2 : Bytes w x.vv x.e.val) : Ents w (some ⟨g, 0, none⟩) [x] := by
  intro k z hz
  have hc : ∀ j, w.cell? ⟨g, j, none⟩ = (#[x.kv, .int .u64 (x.e.seq : Nat), .int .i64 x.e.kind, x.vv] : Array Value)[j]? := fun j => cell_of_row w g j _ 35 (0, 0) h
  match k, hz with
  | 0, hz =>
    obtain rfl : x = z := by simpa using hz
    refine ⟨⟨g, 0, rfl, fun j u hu => ?_⟩, h1, h2⟩
    match j, hu with
    | 0, hu => rw [hc]; simpa using hu
    | 1, hu => rw [hc]; simpa using hu
    | 2, hu => rw [hc]; simpa using hu
    | 3, hu => rw [hc]; simpa using hu
    | j + 4, hu => simp at hu
  | k + 1, hz => simp at hz
theorem cuts_one {F : Int} {x : Tow} {L : List (Nat × Nat)} (h : Cuts F [x] 0 L 1) : L = [(0, 1)] := by
  match L, h with
  | [], h => exact absurd (show (0 : Nat) = 1 from h) (by decide)
  | (a, m) :: r, h =>
    obtain ⟨h1, h2, h3⟩ := h
    simp only at h1 h2 h3
    subst h1
    have h4 := h2.1
    have h5 := h2.2.1
    simp at h5
    obtain rfl : m = 1 := by omega
    match r, h3 with
    | [], _ => rfl
    | (b, m') :: r', h3 =>
      obtain ⟨k1, k2, k3⟩ := h3
      have k4 := (cuts_in k3 (by simp)).1
      have k5 := k2.1
      simp only at k4 k5
      omega
theorem tbl_len {F : Int} {l : List Tow} {L : List (Nat × Nat)} (hf : Good l) (hc : Cuts F l 0 L l.length) (h1 : 1 ≤ l.length) (hmx : l.length ≤ 200) (hw : wt (ents l) ≤ 100000) (flt : List (BitVec 8)) (hfl : flt.length ≤ 1000) (n lo hi : Nat) (hn : n < 18446744073709551616) (hlo : lo < 18446744073709551616) (hhi : hi < 18446744073709551616) (least most : List (BitVec 8)) (h4 : least.length ≤ 4096) (h5 : most.length ≤ 4096) :
    (tblB l L flt (idxT l L n lo hi least most)).length ≤ 1000000 := by
  have hcs := cuts_sum hf hc (Nat.le_refl _)
  have hin := (cuts_in hc (Nat.le_refl _)).2
  have hl0 : l ≠ [] := fun e => by rw [e] at h1; simp at h1
  rw [List.take_length] at hcs
  have e0 : wt (ents (l.take 0)) = 0 := by simp [wt, ents]
  have hz := pzB_len (zsT l L) 0 (by rw [zsT_sum]; omega) (fun z hz => by
    obtain ⟨q, hq, rfl⟩ := List.mem_map.1 hz
    have h9 := chk1_fine (hf _ (plcs_t l hl0 L 0 (fun x hx => (hin x hx).2) q hq)).1
    exact ⟨h9.2.2.2.2.1, by have := h9.2.1; simp only [Plc.z]; omega⟩)
  rw [zsT_length] at hz
  have k1 := short_ten (zsT l L).length (by rw [zsT_length]; omega)
  have k2 := short_ten n hn
  have k3 := short_ten lo hlo
  have k4 := short_ten hi hhi
  have k5 := short_ten least.length (by omega)
  have k6 := short_ten most.length (by omega)
  have k7 : (ordB (aheadB l L flt).length ++ markB).length = 16 := rfl
  unfold tblB
  rw [List.length_append, List.length_append, k7, Fr.frameB_length]
  unfold aheadB idxT idxB
  simp only [List.length_append, flat_length, Fr.frameB_length, pieceB_len, List.length_nil]
  omega
end Go.Proofs.YtjklbhdhjfifhaaGreat

/-
  The chapter's example: its one block.
-/
namespace Go.Proofs.YtjklbhdhjfifhaaGreat
open Go.RowKit Go.Shelf
set_option maxRecDepth 100000
set_option maxHeartbeats 4000000
theorem blk_eT : blkB [eT] = [0#8, 1#8, 5#8, 1#8, 97#8, 120#8, 0#8, 0#8, 0#8, 0#8, 1#8, 0#8, 0#8, 0#8] := by
  simp [blkB, mk, marks, rowB, entB, shr, short_lt, four, eT]
theorem fine_eT : Fine [eT] := ⟨fun e he => by
  simp only [List.mem_cons, List.not_mem_nil, or_false] at he
  subst he
  decide, by simp, by decide⟩
theorem parse_eT : parseK (blkB [eT]) = some [eT] := blk_back fine_eT (by rw [blk_eT]; decide)
theorem one_facts {x : Tow} (hx : x.e = eT) {pl : List Plc} (h : Lay pl (zsT [x] [(0, 1)])) : ∃ p, pl = [p] ∧ p.pos = 0 ∧ p.size = (blkB [eT]).length + 12 ∧ p.t.e.en = ([97#8], 1) := by
  have hl := h.len
  rw [zsT_length] at hl
  match pl, h, hl with
  | [p], h, _ =>
    have hz := h.z
    have hp := h.pos 0 p rfl
    simp only [List.map_cons, List.map_nil, zsT, plcs, List.cons.injEq, and_true] at hz
    have h1 : p.size = (frB [x] (0, 1)).length := congrArg (·.1) hz
    have h2 : p.t.e.en = (([x] : List Tow).getD (0 + 1 - 1) default).e.en := congrArg (·.2) hz
    refine ⟨p, rfl, by rw [hp]; rfl, ?_, ?_⟩
    · rw [h1]
      unfold frB
      rw [Fr.frameB_length]
      simp [part, ents, hx]
    · rw [h2]
      show x.e.en = _
      rw [hx]
      rfl
theorem one_read {x : Tow} (hx : x.e = eT) (flt idx : List (BitVec 8)) : readOf (tblB [x] [(0, 1)] flt idx) 0 ((blkB [eT]).length + 12) = Fr.frameB 2#8 (blkB [eT]) := by
  have e : tblB [x] [(0, 1)] flt idx = [] ++ (Fr.frameB 2#8 (blkB [eT]) ++ (Fr.frameB 3#8 flt ++ (Fr.frameB 4#8 idx ++ (ordB (aheadB [x] [(0, 1)] flt).length ++ markB)))) := by
    unfold tblB
    conv => lhs; arg 1; unfold aheadB
    rw [List.nil_append, List.append_assoc]
    congr 1
    simp [frB, part, ents, hx]
  rw [e]
  exact readOf_mid _ _ _ _ _ rfl (by rw [Fr.frameB_length])
theorem one_has {x : Tow} (hx : x.e = eT) : hasB (fltT [x] 10) [97#8] = true := by
  unfold fltT
  exact has_keeps _ 10 _ rfl (filt_last _ _) (fun _ _ h => h) _ (by simp [ksT, hx, eT])
theorem one_not {p : Plc} (h : p.t.e.en = ([97#8], 1)) : plcNot [p] ([97#8], 9) 0 = true ∧ plcNot [p] ([98#8], 9) 0 = false := by
  simp only [plcNot, List.getElem?_cons_zero, h]
  decide
theorem one_tow (R : List Tow) (h : ents R = [eT]) : R.length = 1 ∧ towNot R ([97#8], 9) 0 = true := by
  have hl : R.length = 1 := by
    have := congrArg List.length h
    unfold ents at this
    rw [List.length_map] at this
    exact this
  obtain ⟨r, rfl⟩ := List.length_eq_one_iff.1 hl
  have h1 : r.e = eT := by simpa [ents] using h
  refine ⟨rfl, ?_⟩
  simp only [towNot, List.getElem?_cons_zero, h1]
  decide
end Go.Proofs.YtjklbhdhjfifhaaGreat

/-
  The chapter's example: its walk.
-/
namespace Go.Proofs.YtjklbhdhjfifhaaGreat
open Go.RowKit Go.Shelf
set_option maxRecDepth 100000
set_option maxHeartbeats 4000000
theorem field_info (z : Int) (a1 : Option Addr) (n1 c1 : Nat) (a2 : Option Addr) (n2 c2 lo hi : Nat) (w : World) : (Instr.field 42 (.agg #[.int .i64 1, .int .i64 1, .int .i64 z, .slice a1 n1 c1, .slice a2 n2 c2, .int .u64 (lo : Nat), .int .u64 (hi : Nat)]) 0).run Tryz.prog w = .ok (.int .i64 1) w := by kernel_rfl
theorem lives_any (w : World) : Calls Tryz.prog 11 #[] w fun e w' => e = .returned (.bool true) ∧ Below w.heap.size w w' := by
  have hcv := conv26
  go_enter Tryz.func11, Tryz.ntmps11
  go_wp2_with fail
  refine (entry_any ⟨#[97]⟩ ⟨#[120]⟩ 1 _).mono ?_
  rintro e w1 ⟨ka, kc, va, vc, rfl, hk, hv, hkc, b1⟩
  have hk : Bytes w1 (.slice ka 1 kc) [97#8] := hk
  have hv : Bytes w1 (.slice va 1 vc) [120#8] := hv
  have hkc : 1 ≤ kc := hkc
  have T1 := hide (Turns.of_below b1 (fun _ => False))
  have ta : Turns (fun _ => False) w1 (w1.alloc (.cells #[.slice ka 1 kc, .int .u64 1, .int .i64 1, .slice va 1 vc] 35)) := (Turns.refl _ _).alloc _
  have hx : (⟨ka, kc, va, vc, eT⟩ : Tow).e = eT := rfl
  have HX := hide hx
  have MK := hide (tmake_ok w1.heap.size 0 1 1 [⟨ka, kc, va, vc, eT⟩] 64 10 (w1.alloc (.cells #[.slice ka 1 kc, .int .u64 1, .int .i64 1, .slice va 1 vc] 35)) (ents_one (heap_alloc_new _ _) (hk.quiet ta) (hv.quiet ta)) rfl (by decide) (by decide) (by decide) (show 2 ≤ 100000 by decide) (fun y hy => by rw [List.mem_singleton.1 hy]; exact ⟨eT_chk, hkc⟩) rfl (by decide) (by decide) (by decide) (by decide) _ _ rfl rfl)
  have T2 := hide (T1.out.trans ta)
  have HG := hide (show Good [(⟨ka, kc, va, vc, eT⟩ : Tow)] from fun y hy => by rw [List.mem_singleton.1 hy]; exact ⟨eT_chk, hkc⟩)
  clear hk hv hkc b1 T1 ta hx
  generalize (⟨ka, kc, va, vc, eT⟩ : Tow) = x at *
  go_wp2_with fail
  refine MK.out.mono ?_
  rintro e w3 ⟨ba, bc, L, bs, rfl, hcut, hbs, hfr, t3⟩
  obtain rfl : L = [(0, 1)] := cuts_one hcut
  have hlo := loS_lt (N := 18446744073709551616) [x] x.e.seq (by rw [HX.out]; decide)
  have hhi := hiS_lt (N := 18446744073709551616) [x] x.e.seq (by rw [HX.out]; decide) (fun y hy => by rw [List.mem_singleton.1 hy, HX.out]; decide)
  have hbl : bs.length ≤ 1000000 := by
    rw [hbs.out]
    exact tbl_len HG.out hcut (by simp) (by simp) (by show wt [x.e] ≤ 100000; rw [HX.out]; decide) _ (fltT_len [x] 10 (by simp) (by decide)).2 _ _ _ (by simp) hlo hhi _ _ (by rw [HX.out]; decide) (by rw [HX.out]; decide)
  have T3 := hide (T2.out.trans t3)
  have HBS := hbs
  have FR := hide hfr
  have HC := hide hcut
  have ST := hide (stored_any ba bs.length bc bs w3 hfr.bytes hbl)
  clear hbs hfr hcut t3 T2 MK hbl
  generalize hlo' : loS x.e.seq [x] = lo at *
  generalize hhi' : hiS x.e.seq [x] = hi at *
  have HLO := hide hlo
  have HHI := hide hhi
  clear hlo' hhi' hlo hhi
  go_wp2_with fail
  refine ST.out.mono ?_
  rintro e w4 ⟨f, rfl, hF, b4⟩
  have OP := hide (openT_ok [x] [(0, 1)] (fltT [x] 10) lo hi x x _ f 2 bs w4 HBS.out hF (by decide) HC.out rfl HG.out (by simp) (by simp) (by show wt [x.e] ≤ 100000; rw [HX.out]; decide) rfl rfl HLO.out HHI.out (fltT_len [x] 10 (by simp) (by decide)).2)
  have T4 := hide (T3.out.trans (Turns.of_below b4 (fun _ => False)))
  have HSZ := hide (show w.heap.size ≤ w3.heap.size ∧ w3.heap.size ≤ w4.heap.size from ⟨T3.out.size, b4.size⟩)
  clear hF b4 ST FR T3
  go_wp2_with fail
  refine OP.out.mono ?_
  rintro e w5 ⟨t, rfl, ht, A', pl, la, lc, ma, mc, hA, hT, hlay, hla, hma, hxl, hxm, t5⟩
  obtain ⟨p, rfl, hp1, hp2, hp3⟩ := one_facts HX.out hlay
  have T5 := hide (T4.out.andThen t5 (fun k hk hs => absurd hk (Nat.not_lt.2 (Nat.le_trans HSZ.out.1 hs))))
  have RD := hide (show readOf bs p.pos p.size = Fr.frameB 2#8 (blkB [eT]) from by rw [HBS.out, hp1, hp2]; exact one_read HX.out _ _)
  have HT := hide hT
  have HLA := hide hla
  have HMA := hide hma
  have HXL := hide hxl
  have HXM := hide hxm
  have P1 := hide hp1
  have P2 := hide hp2
  have P3 := hide hp3
  have HAT := hide (show ∀ k, A' k → w.heap.size ≤ k from fun k hk => by have := HSZ.out; rcases hA k hk with h | h; exact Nat.le_trans this.1 h; omega)
  have HTT := hide (show w.heap.size ≤ t from by have := HSZ.out; omega)
  have HAB := hide hT.ab
  have HTW := hide (by obtain ⟨_, _, _, _, h9, _⟩ := hT.ex; exact lt_of_heap h9 : t < w5.heap.size)
  clear hA hT hlay hla hma hxl hxm t5 hp1 hp2 hp3 ht OP T4 HSZ
  have ta5 : Turns (fun _ => False) w5 (w5.alloc (.cells #[.int .u8 97] 5 (1, 2))) := (Turns.refl _ _).alloc _
  have hm1 : ∀ i j, i ≤ j → j < [p].length → plcNot [p] ([97#8], 9) i = true → plcNot [p] ([97#8], 9) j = true := fun i j _ hj _ => by
    obtain rfl : j = 0 := by simpa using hj
    exact (one_not P3.out).1
  have hk0 : Found (plcNot [p] ([97#8], 9)) [p].length 0 := ⟨Nat.zero_le _, fun i h => absurd h (Nat.not_lt_zero i), fun i _ hi => by
    obtain rfl : i = 0 := by simpa using hi
    exact (one_not P3.out).1⟩
  have hmo : ∀ R : List Tow, ents R = [eT] → ∀ i j, i ≤ j → j < R.length → towNot R ([97#8], 9) i = true → towNot R ([97#8], 9) j = true := fun R hR i j _ hj _ => by
    obtain ⟨h1, h2⟩ := one_tow R hR
    obtain rfl : j = 0 := by omega
    exact h2
  have hj0 : ∀ R : List Tow, ents R = [eT] → Found (towNot R ([97#8], 9)) R.length 0 := fun R hR => ⟨Nat.zero_le _, fun i h => absurd h (Nat.not_lt_zero i), fun i _ hi => by
    obtain ⟨h1, h2⟩ := one_tow R hR
    obtain rfl : i = 0 := by omega
    exact h2⟩
  have hfar : ∀ a, some (⟨w5.heap.size, 0, none⟩ : Addr) = some a → ¬ A' a.block ∧ a.block ≠ t := fun a e => by
    cases e
    exact ⟨fun h => Nat.lt_irrefl _ (HAB.out _ h), fun h => by have := HTW.out; have h2 : w5.heap.size = t := h; omega⟩
  have G1 := get_hit _ _ _ _ _ _ _ _ _ _ _ _ (some ⟨w5.heap.size, 0, none⟩) 1 1 9 [97#8] (HT.out.quiet ta5) (Bytes.new w5 #[.int .u8 97] 5 1 (1, 2) [97#8] rfl) (by decide) (by simp) hm1 (one_has HX.out) hfar (by simp) nmT_good (by decide) (by decide) (by decide) 0 hk0 p [eT] rfl RD.out P2.out (by rw [P1.out, P2.out, blk_eT]; decide) (by rw [blk_eT]; decide) parse_eT (by simp) (by simp) eT rfl (by rw [P3.out]; rfl) hmo 0 hj0 eT rfl rfl
  simp only [eT, List.length_cons, List.length_nil, Nat.zero_add] at G1
  have G1 := hide G1
  go_wp2_with fail
  refine G1.out.mono ?_
  rintro e w6 ⟨k6, kc6, v6, vc6, rfl, _, hv6, hT6, t6⟩
  have tw : Turns (fun k => A' k ∨ k = t) w5 w6 := (ta5.mono fun _ _ x => x.elim).trans t6
  have tx6 : Turns (fun _ => False) w6 (w6.alloc (.cells #[.slice k6 1 kc6, .int .u64 1, .int .i64 1, .slice v6 1 vc6] 35)) := (Turns.refl _ _).alloc _
  have HT7 := hide (hT6.quiet tx6)
  have T7 := hide ((T5.out.andThen tw (fun k hk hs => by
    have h1 := HTT.out
    rcases hs with h | h
    · exact absurd (HAT.out k h) (Nat.not_le.2 hk)
    · omega)).trans tx6)
  have HLA7 := hide ((bytes_keepL HLA.out tw (fun x e _ hs => by rcases hs with h | h; exact (HXL.out x e).1 h; exact (HXL.out x e).2 h)).quiet tx6)
  have HMA7 := hide ((bytes_keepL HMA.out tw (fun x e _ hs => by rcases hs with h | h; exact (HXM.out x e).1 h; exact (HXM.out x e).2 h)).quiet tx6)
  have R7 := hide (heap_alloc_new w6 (.cells #[.slice k6 1 kc6, .int .u64 1, .int .i64 1, .slice v6 1 vc6] 35))
  have V7 := hide (hv6.quiet tx6)
  clear hv6 hT6 t6 tw tx6 G1 hm1 hk0 hmo hj0 hfar ta5 HT HLA HMA T5
  go_upto_region 6 with (fail)
  generalize w6.alloc (.cells #[.slice k6 1 kc6, .int .u64 1, .int .i64 1, .slice v6 1 vc6] 35) = w7 at *
  generalize w6.heap.size = g6 at *
  have ta7 : Turns (fun _ => False) w7 (w7.alloc (.cells #[.int .u8 98] 5 (1, 2))) := (Turns.refl _ _).alloc _
  have hm2 : ∀ i j, i ≤ j → j < [p].length → plcNot [p] ([98#8], 9) i = true → plcNot [p] ([98#8], 9) j = true := fun i j hij hj h => by
    obtain rfl : j = 0 := by simpa using hj
    obtain rfl : i = 0 := by omega
    exact h
  have G2 := hide (get_none _ _ _ _ _ _ _ _ _ _ _ _ (some ⟨w7.heap.size, 0, none⟩) 1 1 9 [98#8] (HT7.out.quiet ta7) (Bytes.new w7 #[.int .u8 98] 5 1 (1, 2) [98#8] rfl) (by decide) (by simp) hm2 (.inr (fun i hi => by
    obtain rfl : i = 0 := by simpa using hi
    exact (one_not P3.out).2)))
  clear hm2
  go_wp2_with fail
  refine G2.out.mono ?_
  rintro e w8 ⟨rfl, b8⟩
  have tx8 : Turns (fun _ => False) w7 (w8.alloc (.cells #[.slice none 0 0, .int .u64 0, .int .i64 0, .slice none 0 0] 35)) := (ta7.trans (Turns.of_below b8 _)).alloc _
  have HT9 := hide (HT7.out.quiet tx8)
  have T9 := hide (T7.out.trans tx8)
  have HLA9 := hide (HLA7.out.quiet tx8)
  have HMA9 := hide (HMA7.out.quiet tx8)
  have R9 := hide (tx8.heap R7.out (fun x => x))
  have V9 := hide (V7.out.quiet tx8)
  clear b8 tx8 ta7 G2 HT7 T7 HLA7 HMA7 R7 V7
  go_upto_region 7 with (fail)
  generalize w8.alloc (.cells #[.slice none 0 0, .int .u64 0, .int .i64 0, .slice none 0 0] 35) = w9 at *
  have l8 : w9.cell? ⟨g6, 3, none⟩ = some (.slice v6 1 vc6) := cell_of_row w9 g6 3 _ 35 (0, 0) R9.out
  have cv8 : (convert 28 9 (.slice v6 1 vc6)).run Tryz.prog w9 = .ok (.string ⟨#[120]⟩) w9 := conv_any V9.out
  have RY := hide (reads_yes HT9.out)
  have IF := hide (infoT_any 1 1 bs.length la ma lc mc x.e.key x.e.key lo hi HT9.out HLA9.out HMA9.out (by rw [HX.out]; decide) (by rw [HX.out]; decide))
  go_wp2_with fail
  refine RY.out.mono ?_
  rintro e w10 ⟨rfl, hw10⟩
  subst hw10
  go_wp2_with fail
  refine IF.out.mono ?_
  rintro e w11 ⟨a1, c1, a2, c2, rfl, t11⟩
  have hfi := fun (W : World) => field_info (bs.length : Nat) a1 x.e.key.length c1 a2 x.e.key.length c2 lo hi W
  have T11 := hide (T9.out.trans t11)
  clear t11
  go_wp2_with fail
  go_ret
  exact ⟨rfl, T11.out.below (Nat.le_refl _) (fun _ x => x.elim)⟩
end Go.Proofs.YtjklbhdhjfifhaaGreat

/-
  A table that is not there: the law's walk.
-/
namespace Go.Proofs.YtjklbhdhjfifhaaGreat
open Go.RowKit
set_option maxRecDepth 100000
set_option maxHeartbeats 4000000
theorem info_zero (w : World) : Calls Tryz.prog 18 #[.agg z42, .agg z42] w fun e w' => e = .returned (.bool true) ∧ Below w.heap.size w w' := by
  have B0 := hide (((Below.refl w.heap.size w).alloc (Nat.le_refl _) (.cells z42 42)).alloc (by simp) (.cells z42 42))
  go_enter Tryz.func18, Tryz.ntmps18
  go_wp2_with fail
  refine (bytes_any none none 0 0 0 0 [] [] _ (Bytes.empty _) (Bytes.empty _) (by decide)).mono ?_
  rintro e w1 ⟨rfl, m, rfl⟩
  go_wp2_with fail
  refine (bytes_any none none 0 0 0 0 [] [] _ (Bytes.empty _) (Bytes.empty _) (by decide)).mono ?_
  rintro e w2 ⟨rfl, m2, rfl⟩
  go_wp2_with fail
  go_ret
  exact ⟨rfl, belowN B0.out _⟩
def zero35 : Value := .agg #[.slice none 0 0, .int .u64 0, .int .i64 0, .slice none 0 0]
theorem entry_zero (w : World) : Calls Tryz.prog 24 #[.agg #[.slice none 0 0, .int .u64 0, .int .i64 0, .slice none 0 0], .agg #[.slice none 0 0, .int .u64 0, .int .i64 0, .slice none 0 0]] w fun e w' => e = .returned (.bool true) ∧ Below w.heap.size w w' :=
  (entryEq_any none none none none 0 0 0 0 0 0 0 0 0 0 0 0 [] [] [] [] w (Bytes.empty _) (Bytes.empty _) (Bytes.empty _) (Bytes.empty _) (by decide) (by decide)).mono fun e w' h => ⟨by rw [h.1]; rfl, h.2⟩
structure NilI (w wr : World) (g a b : Nat) (c0 c1 c2 c3 c4 : Value) : Prop where
  box : wr.heap[g]? = some (.cells #[c0, c1, c2, c3, c4] 50 (0, 0))
  arr : wr.heap[a]? = some (.cells #[.pointer none, .pointer (some ⟨b, 0, none⟩)] 22 (0, 0))
  tb : wr.cell? ⟨b, 0, none⟩ = some .nilIface
  bel : Turns (fun _ => False) w wr
theorem NilI.quiet {w wr u : World} {g a b : Nat} {c0 c1 c2 c3 c4 : Value} (h : NilI w wr g a b c0 c1 c2 c3 c4) (t : Turns (fun _ => False) wr u) : NilI w u g a b c0 c1 c2 c3 c4 :=
  ⟨t.heap h.box (fun x => x), t.heap h.arr (fun x => x), t.cell h.tb (fun x => x), h.bel.trans t⟩
theorem nil_any (c0 c1 c4 : Value) (q : Nat) (n : Int) (hc0 : ∃ z, c0 = .int .i64 z) (hc1 : ∃ a m c, c1 = .slice a m c) (hc4 : ∃ z, c4 = .int .i64 z) (w : World) :
    Calls Tryz.prog 5 #[.agg #[c0, c1, .int .u64 (q : Nat), .int .i64 n, c4]] w fun e w' => e = .returned (.bool true) ∧ Below w.heap.size w w' := by
  obtain ⟨z0, rfl⟩ := hc0
  obtain ⟨ka, kn, kc, rfl⟩ := hc1
  obtain ⟨z4, rfl⟩ := hc4
  go_enter Tryz.func5, Tryz.ntmps5
  go_upto_region 2 with (fail)
  obtain ⟨w3, hw3⟩ : ∃ u, u = (((w.alloc (.cells #[.int .i64 z0, .slice ka kn kc, .int .u64 (q : Nat), .int .i64 n, .int .i64 z4] 50)).alloc (.cells #[.nilIface, .slice none 0 0, .int .i64 0, .int .i64 0, .int .i64 0, .slice none 0 0, .slice none 0 0, .int .u64 0, .int .u64 0, .slice none 0 0, .int .i64 0] 57)).alloc (.cells #[.pointer none, .pointer (some ⟨w.heap.size + 1, 0, none⟩)] 22)) := ⟨_, rfl⟩
  have h1 : (w.alloc (.cells #[.int .i64 z0, .slice ka kn kc, .int .u64 (q : Nat), .int .i64 n, .int .i64 z4] 50)).heap.size = w.heap.size + 1 := by simp
  have hb := heap_alloc_new (w.alloc (.cells #[.int .i64 z0, .slice ka kn kc, .int .u64 (q : Nat), .int .i64 n, .int .i64 z4] 50)) (.cells #[.nilIface, .slice none 0 0, .int .i64 0, .int .i64 0, .int .i64 0, .slice none 0 0, .slice none 0 0, .int .u64 0, .int .u64 0, .slice none 0 0, .int .i64 0] 57)
  have h2 : ((w.alloc (.cells #[.int .i64 z0, .slice ka kn kc, .int .u64 (q : Nat), .int .i64 n, .int .i64 z4] 50)).alloc (.cells #[.nilIface, .slice none 0 0, .int .i64 0, .int .i64 0, .int .i64 0, .slice none 0 0, .slice none 0 0, .int .u64 0, .int .u64 0, .slice none 0 0, .int .i64 0] 57)).heap.size = w.heap.size + 1 + 1 := by simp
  have ha := heap_alloc_new ((w.alloc (.cells #[.int .i64 z0, .slice ka kn kc, .int .u64 (q : Nat), .int .i64 n, .int .i64 z4] 50)).alloc (.cells #[.nilIface, .slice none 0 0, .int .i64 0, .int .i64 0, .int .i64 0, .slice none 0 0, .slice none 0 0, .int .u64 0, .int .u64 0, .slice none 0 0, .int .i64 0] 57)) (.cells #[.pointer none, .pointer (some ⟨w.heap.size + 1, 0, none⟩)] 22)
  rw [h1] at hb
  rw [h2, ← hw3] at ha
  have t3 : Turns (fun _ => False) ((w.alloc (.cells #[.int .i64 z0, .slice ka kn kc, .int .u64 (q : Nat), .int .i64 n, .int .i64 z4] 50)).alloc (.cells #[.nilIface, .slice none 0 0, .int .i64 0, .int .i64 0, .int .i64 0, .slice none 0 0, .slice none 0 0, .int .u64 0, .int .u64 0, .slice none 0 0, .int .i64 0] 57)) w3 := by rw [hw3]; exact (Turns.refl _ _).alloc _
  have II := hide (show NilI w w3 w.heap.size (w.heap.size + 1 + 1) (w.heap.size + 1) (.int .i64 z0) (.slice ka kn kc) (.int .u64 (q : Nat)) (.int .i64 n) (.int .i64 z4) from
    ⟨t3.heap ((heap_alloc_old _ _ (by simp)).trans (heap_alloc_new w _)) (fun x => x), ha, t3.cell (cell_of_row _ _ 0 _ 57 (0, 0) hb) (fun x => x), ((((Turns.refl (fun _ => False) w).alloc _).alloc _)).trans t3⟩)
  rw [← hw3]
  clear hw3 h1 hb h2 ha t3
  obtain ⟨g, hg⟩ : ∃ g, g = w.heap.size := ⟨_, rfl⟩
  obtain ⟨a, hga⟩ : ∃ a, a = w.heap.size + 1 + 1 := ⟨_, rfl⟩
  obtain ⟨b, hgb⟩ : ∃ b, b = w.heap.size + 1 := ⟨_, rfl⟩
  rw [← hga, ← hgb, ← hg] at II
  rw [← hga, ← hgb, ← hg]
  clear hg hga hgb
  go_wp2_with fail
  go_loopw [4] (fun iv wr => ∃ k : Nat, iv = .int .i64 (k : Nat) ∧ k ≤ 2 ∧ NilI w wr g a b (.int .i64 z0) (.slice ka kn kc) (.int .u64 (q : Nat)) (.int .i64 n) (.int .i64 z4)) (fun iv _ => 2 - (intOf iv).toNat)
  case atStart => exact ⟨0, rfl, by decide, II.out⟩
  case round =>
    obtain ⟨k, rfl, hk, hI⟩ := hrel
    have II := hide hI
    by_cases hk2 : k < 2
    · have i1 : (k : Int) < 2 := by omega
      have i0 : (0 : Int) ≤ (k : Int) := by omega
      obtain ⟨p, hp, hno⟩ : ∃ p, wr.cell? ⟨a, k, none⟩ = some (.pointer p) ∧ NoTb wr p := by
        have h0 := cell_of_row wr a k _ 22 (0, 0) hI.arr
        rcases (show k = 0 ∨ k = 1 by omega) with rfl | rfl
        · exact ⟨none, h0, .inl rfl⟩
        · exact ⟨_, h0, .inr ⟨b, rfl, hI.tb⟩⟩
      have c1 := cell_of_row wr g 1 _ 50 (0, 0) hI.box
      have c2 := cell_of_row wr g 2 _ 50 (0, 0) hI.box
      simp only [List.getElem?_toArray, List.getElem?_cons_zero, List.getElem?_cons_succ] at c1 c2
      have NO := hide hno
      clear hI hno
      go_wp2_with fail
      refine (get_no p wr NO.out _ _).mono ?_
      rintro e w1 ⟨rfl, b1⟩
      have t1 : Turns (fun _ => False) wr (w1.alloc (.cells #[.slice none 0 0, .int .u64 0, .int .i64 0, .slice none 0 0] 35)) := (Turns.of_below b1 _).alloc _
      have NO := hide (NO.out.quiet t1)
      have II := hide (II.out.quiet t1)
      have R6 := hide (heap_alloc_new w1 (.cells #[.slice none 0 0, .int .u64 0, .int .i64 0, .slice none 0 0] 35))
      clear b1 t1 c1 c2 hp
      go_upto_region 7 with (fail)
      generalize w1.alloc (.cells #[.slice none 0 0, .int .u64 0, .int .i64 0, .slice none 0 0] 35) = w2 at *
      generalize w1.heap.size = g6 at *
      have c1 := cell_of_row w2 g 1 _ 50 (0, 0) II.out.box
      have c3 := cell_of_row w2 g 3 _ 50 (0, 0) II.out.box
      have r0 := cell_of_row w2 g6 0 _ 35 (0, 0) R6.out
      have r1 := cell_of_row w2 g6 1 _ 35 (0, 0) R6.out
      have r2 := cell_of_row w2 g6 2 _ 35 (0, 0) R6.out
      have r3 := cell_of_row w2 g6 3 _ 35 (0, 0) R6.out
      simp only [List.getElem?_toArray, List.getElem?_cons_zero, List.getElem?_cons_succ] at c1 c3 r0 r1 r2 r3
      go_wp2_with fail
      refine (from_no p w2 NO.out _ n).mono ?_
      rintro e w3 ⟨rfl, hw⟩
      subst hw
      go_wp2_with fail
      refine (all_no p w3 NO.out).mono ?_
      rintro e w4 ⟨rfl, hw⟩
      subst hw
      go_wp2_with fail
      refine (entry_zero w4).mono ?_
      rintro e w5 ⟨rfl, b5⟩
      have NO := hide (NO.out.quiet (Turns.of_below b5 _))
      have II := hide (II.out.quiet (Turns.of_below b5 _))
      clear b5 c1 c3 r0 r1 r2 r3 R6
      go_wp2_with fail
      refine (reads_no p w5 NO.out).mono ?_
      rintro e w6 ⟨rfl, hw⟩
      subst hw
      go_wp2_with fail
      refine (info_no p w6 NO.out).mono ?_
      rintro e w7 ⟨rfl, b7⟩
      have II := hide (II.out.quiet (Turns.of_below b7 _))
      clear b7
      go_wp2_with fail
      refine (info_zero w7).mono ?_
      rintro e w8 ⟨rfl, b8⟩
      have II := hide (II.out.quiet (Turns.of_below b8 _))
      clear b8
      go_wp2_with fail
      go_roundw
      case rel => exact ⟨k + 1, by go_num, by omega, II.out⟩
      case measure => simp [intOf]; omega
    · obtain rfl : k = 2 := by omega
      clear hI
      go_wp2_with fail
      refine (open_no none _ wr (.inl rfl)).mono ?_
      rintro e w1 ⟨rfl, b1⟩
      have T1 := hide (II.out.bel.trans (Turns.of_below b1 _))
      clear b1
      go_upto_region 12 with (fail)
      go_wp2_with fail
      refine (open_no (some ⟨w1.heap.size, 0, none⟩) _ _ (.inr ⟨_, rfl, cell_of_row _ _ 1 _ 72 (0, 0) (heap_alloc_new w1 _)⟩)).mono ?_
      rintro e w2 ⟨rfl, b2⟩
      have T2 := hide ((T1.out.alloc _).trans (Turns.of_below b2 _))
      clear b2
      go_wp2_with fail
      refine (lives_any w2).mono ?_
      rintro e w3 ⟨rfl, b3⟩
      have T3 := hide (T2.out.trans (Turns.of_below b3 _))
      clear b3
      go_wp2_with fail
      go_ret
      exact ⟨rfl, T3.out.below (Nat.le_refl _) (fun _ x => x.elim)⟩
theorem names_any (w : World) : Calls Tryz.prog 3 #[] w fun e w' => e = .returned (.bool true) ∧ Below w.heap.size w w' := by
  have ST := hide (stored_any none 0 0 [] w (Bytes.empty _) (by decide))
  go_enter Tryz.func3, Tryz.ntmps3
  go_wp2_with fail
  refine ST.out.mono ?_
  rintro e w1 ⟨f, rfl, hF, b1⟩
  have OE := hide (open_empty _ f nmT 2 w1 hF nmT_good (by decide) (by decide))
  have T1 := hide (Turns.of_below b1 (fun _ => False))
  clear hF b1 ST
  go_wp2_with fail
  refine OE.out.mono ?_
  rintro e w2 ⟨rfl, t2⟩
  have T2 := hide (T1.out.andThen t2 (fun k hk hs => absurd hk (Nat.not_lt.2 hs)))
  clear t2 OE T1
  have ST := hide (stored_u none 0 0 [] w2 (Bytes.empty _) (by decide))
  go_wp2_with fail
  refine ST.out.mono ?_
  rintro e w3 ⟨f3, d3, rfl, hr3, hn3, hno3, b3⟩
  have ON := hide (open_none _ f3 d3 ⟨#[117]⟩ w3 hr3 hn3 (by decide) (hno3 _ (by decide)))
  have T3 := hide (T2.out.trans (Turns.of_below b3 (fun _ => False)))
  have HS3 := hide T2.out.size
  clear hr3 hn3 hno3 b3 ST T2
  go_wp2_with fail
  refine ON.out.mono ?_
  rintro e w4 ⟨rfl, t4⟩
  have T4 := hide (T3.out.andThen t4 (fun k hk hs => by have := HS3.out; have h9 : w2.heap.size ≤ k := hs; omega))
  clear t4 ON T3
  have CE := hide (fun u => tcheck_good 64 10 (by decide) (by decide) (by decide) (by decide) none 0 0 [] u (fun k x hx => by simp at hx) rfl (by decide) (fun x hx => by cases hx))
  have ME := hide (tmake_err none 0 0 64 10 2 (by decide) w4 (fun u _ => CE.out u))
  go_wp2_with fail
  refine ME.out.mono ?_
  rintro e w5 ⟨rfl, b5⟩
  have T5 := hide (T4.out.trans (Turns.of_below b5 (fun _ => False)))
  clear b5 ME CE T4
  go_wp2_with fail
  refine (entry_any ⟨#[97]⟩ ⟨#[120]⟩ 1 w5).mono ?_
  rintro e w6 ⟨ka, kc, va, vc, rfl, _, _, _, b6⟩
  have T6 := hide (T5.out.trans (Turns.of_below b6 (fun _ => False)))
  clear b6 T5
  have ME := hide (fun (W : World) (p : Option Addr) => tmake_err p 1 1 63 10 2 (by decide) W (fun u _ => tcheck_bad 63 10 (by decide) p 1 1 u))
  go_wp2_with fail
  refine (ME.out _ _).mono ?_
  rintro e w7 ⟨rfl, b7⟩
  have T7 := hide ((T6.out.alloc _).trans (Turns.of_below b7 (fun _ => False)))
  clear b7 ME T6
  go_wp2_with fail
  refine (lives_any w7).mono ?_
  rintro e w8 ⟨rfl, b8⟩
  have T8 := hide (T7.out.trans (Turns.of_below b8 (fun _ => False)))
  clear b8
  go_wp2_with fail
  go_ret
  exact ⟨rfl, T8.out.below (Nat.le_refl _) (fun _ x => x.elim)⟩
end Go.Proofs.YtjklbhdhjfifhaaGreat
