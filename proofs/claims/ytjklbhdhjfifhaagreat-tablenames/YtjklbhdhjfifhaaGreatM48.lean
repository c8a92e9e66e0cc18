import Derived.Test.YtjklbhdhjfifhaaGreatM42
import Derived.Test.YtjklbhdhjfifhaaGreatM47
import Derived.Test.YtjklbhdhjfifhaaGreatM34
import Derived.Deep.Light
import Derived.Test.YtjklbhdhjfifhaaGreatM11
import Derived.Test.YtjklbhdhjfifhaaGreatM44
import Derived.Test.YtjklbhdhjfifhaaGreatM13
import Derived.Test.YtjklbhdhjfifhaaGreatM25
import Derived.Test.YtjklbhdhjfifhaaGreatM16
import Derived.Test.YtjklbhdhjfifhaaGreatM43
import Derived.Test.YtjklbhdhjfifhaaGreatM40
import Derived.Test.YtjklbhdhjfifhaaGreatM39
/-
  A table's file is loaded.
-/
namespace Go.Proofs.YtjklbhdhjfifhaaGreat
open Go.RowKit
set_option maxRecDepth 100000
set_option maxHeartbeats 4000000
def inf0 : Inf := ⟨.int .i64 0, .int .i64 0, .int .i64 0, .slice none 0 0, .slice none 0 0, .int .u64 0, .int .u64 0⟩
theorem bytes_keepL {S : Nat → Prop} {w w' : World} {a : Option Addr} {n c : Nat} {bs : List (BitVec 8)} (h : Bytes w (.slice a n c) bs) (tt : Turns S w w') (hS : ∀ x : Addr, a = some x → x.block < w.heap.size → ¬ S x.block) : Bytes w' (.slice a n c) bs := by
  obtain ⟨a2, c2, e2, h6⟩ := h
  refine ⟨a2, c2, e2, fun k hk => ?_⟩
  obtain ⟨q, off, ea, hcell⟩ := h6 k hk
  have e3 : a = a2 := by cases e2; rfl
  have hlt : q < w.heap.size := block_lt_of_cell hcell
  exact ⟨q, off, ea, tt.cell hcell (hS ⟨q, off, none⟩ (e3.trans ea) hlt)⟩
theorem tab9 (f : Nat) (nm : ByteArray) (a1 a2 a3 a4 a5 a6 a7 a8 a9 : Value) : ((((((((((tabCells f nm (.slice none 0 0) inf0 (.slice none 0 0) 0).setIfInBounds 1 a1).setIfInBounds 2 a2).setIfInBounds 3 a3).setIfInBounds 4 a4).setIfInBounds 5 a5).setIfInBounds 6 a6).setIfInBounds 7 a7).setIfInBounds 8 a8).setIfInBounds 9 a9) = tabCells f nm a1 ⟨a2, a3, a4, a5, a6, a7, a8⟩ a9 0 := by simp [tabCells, inf0]
theorem load_ok (A : Nat → Prop) (t f : Nat) (nm : ByteArray) (bs : List (BitVec 8)) (K size at_ : Nat) (ps : List Pz) (ne lo hi : Nat) (least most flt : List (BitVec 8)) (w : World) (ht : w.heap[t]? = some (.cells (tabCells f nm (.slice none 0 0) inf0 (.slice none 0 0) 0) 57 (0, 0))) (hnt : ¬ A t) (hab : ∀ k, A k → k < w.heap.size) (hF : FsT A w f nm bs K) (hnm : goodN nm = true) (hns : nm.size ≤ 64) (hK : K ≤ 999000) (h16 : 16 ≤ size) (hsz : size ≤ 16777216) (hat : at_ ≤ size - 16)
    (hR1 : readOf bs (size - 16) 16 = ordB at_ ++ markB) (hR2 : readOf bs at_ (size - 16 - at_) = Fr.frameB 4#8 (idxB ps ne lo hi least most)) (hL2 : size - 16 - at_ = (idxB ps ne lo hi least most).length + 12) (hI2 : (idxB ps ne lo hi least most).length ≤ 1000000) (hR3 : readOf bs (sumZ ps) (at_ - sumZ ps) = Fr.frameB 3#8 flt) (hL3 : at_ - sumZ ps = flt.length + 12) (hI3 : flt.length ≤ 1048576)
    (hps : ps ≠ []) (hpl : ps.length ≤ 1000000) (hsum : sumZ ps ≤ at_) (hne : ne < 2 ^ 63) (hlo : lo < 2 ^ 64) (hhi : hi < 2 ^ 64) (hle : least.length ≤ 1000000) (hmo : most.length ≤ 1000000)
    (hz : ∀ z, z ∈ ps → 0 < z.2.1.length ∧ z.2.1.length ≤ 1000000 ∧ z.2.2 < 2 ^ 64) (hord : ∀ i x y, ps[i]? = some x → ps[i + 1]? = some y → cmpE (x.2.1, x.2.2) (y.2.1, y.2.2) < 0) (hmost : ∀ z, ps.getLast? = some z → z.2.1 = most) :
    Calls Tryz.prog 34 #[.pointer (some ⟨t, 0, none⟩), .int .i64 (size : Nat)] w fun oo w' => oo = .returned (.int .i64 0) ∧ ∃ pl la lc ma mc, TabT A w'.heap.size w' t f nm bs (K + 3) pl flt ⟨.int .i64 (ne : Nat), .int .i64 (ps.length : Nat), .int .i64 (size : Nat), .slice la least.length lc, .slice ma most.length mc, .int .u64 (lo : Nat), .int .u64 (hi : Nat)⟩ 0 ∧ Lay pl ps ∧ Bytes w' (.slice la least.length lc) least ∧ Bytes w' (.slice ma most.length mc) most ∧ (∀ x, la = some x → w.heap.size ≤ x.block) ∧ (∀ x, ma = some x → w.heap.size ≤ x.block) ∧ Turns (fun k => A k ∨ k = t) w w' := by
  have c0 : w.cell? ⟨t, 0, none⟩ = some (.iface 83 (.agg #[.pointer (some ⟨f, 0, none⟩), .string nm])) := cell_of_row w t 0 _ 57 (0, 0) ht
  have HT := hide ht
  obtain ⟨E, hE⟩ : ∃ E, size = E + 16 := ⟨size - 16, by omega⟩
  rw [show size - 16 = E by omega] at hat hR1 hR2 hL2
  have RD := hide (fileRead_ok A f nm bs K E 16 w hF hnm hns (by omega) (by omega) (by omega))
  have HR1 := hide hR1
  have RF2 := hide (fun (u : World) (hc : u.cell? ⟨t, 0, none⟩ = some (.iface 83 (.agg #[.pointer (some ⟨f, 0, none⟩), .string nm]))) (hf : FsT A u f nm bs (K + 1)) => readFrame_ok A t f nm bs (K + 1) at_ E 4#8 (idxB ps ne lo hi least most) u hc hf hnm hns (by omega) hat (by omega) hR2 (by omega) hL2)
  have RF3 := hide (fun (u : World) (hc : u.cell? ⟨t, 0, none⟩ = some (.iface 83 (.agg #[.pointer (some ⟨f, 0, none⟩), .string nm]))) (hf : FsT A u f nm bs (K + 2)) => readFrame_ok A t f nm bs (K + 2) (sumZ ps) at_ 3#8 flt u hc hf hnm hns (by omega) hsum (by omega) hR3 hI3 hL3)
  have RI := hide (fun (a : Option Addr) (c : Nat) (u : World) (h : Bytes u (.slice a (idxB ps ne lo hi least most).length c) (idxB ps ne lo hi least most)) => readIndex_ok a _ c ps ne lo hi at_ least most u h hI2 hps hpl hsum (by omega) hne hlo hhi hle hmo hz hord hmost)
  have HAB := hide hab
  have HNT := hide hnt
  have RE := hide (fun (a : Option Addr) (c : Nat) (hc : 16 ≤ c) (u : World) (h : Bytes u (.slice a 16 c) (ordB at_ ++ markB)) => readEnd_ok a c at_ E hat (by omega) hc u h)
  have HSUM := hide hsum
  have HPL := hide hpl
  have HATE := hide hat
  clear hF hR1 hR2 hL2 hI2 hR3 hL3 hI3 hps hpl hsum hne hlo hhi hle hmo hz hord hmost hab hnt ht hnm hns hK hat
  have HSE := hide hE
  have HSZ := hide hsz
  have e1 : (16 : Int) ≤ (size : Int) := by omega
  have e2 : (size : Int) ≤ 16777216 := by omega
  have HIE := hide (show (size : Int) - 16 = (E : Int) from by omega)
  clear h16 hsz hE
  go_enter Tryz.func34, Tryz.ntmps34
  go_upto_region 2 with (fail)
  rw [HIE.out]
  go_wp2_with fail
  refine RD.out.mono ?_
  rintro oo w1 ⟨v1, rfl, hf1, hF1, t1⟩
  rw [HR1.out] at hf1
  have F1 := hide hf1
  have HF1 := hide hF1
  have T1 := hide t1
  clear hf1 hF1 t1 RD HR1
  obtain ⟨a1, c1, hv1⟩ := F1.out.len
  rw [show (ordB at_ ++ markB).length = 16 from rfl] at hv1
  subst hv1
  have HC1 := hide (show 16 ≤ c1 from by
    rcases F1.out with ⟨h1, _⟩ | ⟨g, n, c, h1, h2, h3, _⟩
    · cases h1
    · cases h1; exact h3)
  clear c0
  go_upto_region 5 with (fail)
  go_wp2_with fail
  refine (RE.out a1 c1 HC1.out w1 F1.out.bytes).mono ?_
  rintro oo w2 ⟨rfl, b2⟩
  have T2 := hide (T1.out.trans (Turns.of_below b2 A))
  have HF2 := hide (HF1.out.quiet (Turns.of_below b2 (fun _ => False)))
  clear b2 RE T1 HF1 F1
  go_upto_region 8 with (fail)
  clear e1 e2
  have HS2 := hide T2.out.size
  go_wp2_with fail
  refine (RF2.out w2 (cell_of_row w2 t 0 _ 57 (0, 0) (T2.out.heap HT.out HNT.out)) HF2.out).mono ?_
  rintro oo w3 ⟨v3, rfl, hf3, hF3, t3⟩
  have F3 := hide hf3
  have HF3 := hide hF3
  have T3 := hide (T2.out.trans t3)
  clear hf3 hF3 t3 RF2 T2 HF2
  obtain ⟨a3, c3, hv3⟩ := F3.out.len
  subst hv3
  have RI3 := hide (RI.out a3 c3 w3 F3.out.bytes)
  clear RI
  generalize (idxB ps ne lo hi least most).length = n3 at RI3 ⊢
  go_upto_region 11 with (fail)
  go_wp2_with fail
  refine RI3.out.mono ?_
  rintro oo w4 ⟨v, l, la, lc, ma, mc, rfl, ⟨pa, pc, rfl⟩, hrow, hlay, hkeys, hla, hma, hlf, hmf, b4⟩
  have ROW := hide hrow
  have LAY := hide hlay
  have KEYS := hide hkeys
  have HLA := hide hla
  have HMA := hide hma
  have HLF := hide hlf
  have HMF := hide hmf
  have T4 := hide (T3.out.trans (Turns.of_below b4 A))
  have HF4 := hide (HF3.out.quiet (Turns.of_below b4 (fun _ => False)))
  have HS3 := hide T3.out.size
  have HS4 := hide b4.size
  clear hrow hlay hkeys hla hma hlf hmf b4 RI3 F3 HF3 T3
  unfold idxCells
  go_upto_region 14 with (fail)
  have HGX := hide (heap_alloc_new w4 (.cells #[.slice pa l.length pc, .int .i64 (ne : Nat), .int .i64 0, .int .i64 0, .slice la least.length lc, .slice ma most.length mc, .int .u64 (lo : Nat), .int .u64 (hi : Nat)] 55))
  have TA := hide ((Turns.refl (fun _ => False) w4).alloc (.cells #[.slice pa l.length pc, .int .i64 (ne : Nat), .int .i64 0, .int .i64 0, .slice la least.length lc, .slice ma most.length mc, .int .u64 (lo : Nat), .int .u64 (hi : Nat)] 55))
  generalize w4.alloc (.cells #[.slice pa l.length pc, .int .i64 (ne : Nat), .int .i64 0, .int .i64 0, .slice la least.length lc, .slice ma most.length mc, .int .u64 (lo : Nat), .int .u64 (hi : Nat)] 55) = w5 at *
  generalize hgx : w4.heap.size = gx at HGX HS4 ⊢
  have HGG := hide hgx
  clear hgx
  have EN := hide (end_any gx 0 l pa pc w5 (cell_of_row w5 gx 0 _ 55 (0, 0) HGX.out) (by rw [LAY.out.len]; exact HPL.out) _ (ROW.out.keep TA.out (fun _ _ x => x)) (fun q hq => by
    obtain ⟨i, hi⟩ := List.getElem?_of_mem hq
    have h1 := LAY.out.pos i q hi
    have h2 : ps[i]? = some q.z := by rw [← LAY.out.z, List.getElem?_map, hi]; rfl
    have h3 := sumZ_take ps i _ h2
    have h4 := sumZ_take_le ps (i + 1)
    have h6 : (q.z).1 = q.size := rfl
    have h7 := HSUM.out
    have h8 := HATE.out
    have h9 := HSE.out
    have h10 := HSZ.out
    omega))
  rw [LAY.out.end_] at EN
  go_wp2_with fail
  refine EN.out.mono ?_
  rintro oo w6 ⟨rfl, b6⟩
  have T46 := hide (TA.out.trans (Turns.of_below b6 (fun _ => False)))
  have T6 := hide (T4.out.trans (T46.out.mono (fun _ _ x => x.elim)))
  have HF6 := hide (HF4.out.quiet T46.out)
  have HGX6 := hide ((Turns.of_below b6 (fun _ => False)).heap HGX.out (fun x => x))
  clear b6 EN
  go_wp2_with fail
  refine (RF3.out w6 (cell_of_row w6 t 0 _ 57 (0, 0) (T6.out.heap HT.out HNT.out)) HF6.out).mono ?_
  rintro oo w7 ⟨v7, rfl, hf7, hF7, t7⟩
  obtain ⟨a7, c7, hv7⟩ := hf7.len
  subst hv7
  have F7 := hide hf7
  have HF7 := hide hF7
  have T67 := hide t7
  have T7 := hide (T6.out.trans t7)
  have NGX := hide (show ¬ A gx ∧ gx ≠ t from ⟨fun ha => by have h1 := HAB.out _ ha; have h2 := T4.out.size; have h3 := HGG.out; omega, fun he => by have h1 := lt_of_heap HT.out; have h2 := T4.out.size; have h3 := HGG.out; omega⟩)
  have HGX7 := hide (t7.heap HGX6.out NGX.out.1)
  clear hf7 hF7 t7 RF3
  go_upto_region 17 with (fail)
  have CA := hide (complete_any gx l.length size pa pc _ _ _ _ _ _ _ w7 HGX7.out)
  go_wp2_with fail
  refine CA.out.mono ?_
  rintro oo w8 ⟨⟨v8, rfl⟩, hx8, t8⟩
  have HX8 := hide hx8
  have T8 := hide t8
  have HT8 := hide (t8.heap (T7.out.heap HT.out HNT.out) (fun e => NGX.out.2 (Eq.symm e)))
  clear hx8 t8 CA
  have z0 := cell_of_row w8 gx 0 _ 55 (0, 0) HX8.out
  have z1 := cell_of_row w8 gx 1 _ 55 (0, 0) HX8.out
  have z2 := cell_of_row w8 gx 2 _ 55 (0, 0) HX8.out
  have z3 := cell_of_row w8 gx 3 _ 55 (0, 0) HX8.out
  have z4 := cell_of_row w8 gx 4 _ 55 (0, 0) HX8.out
  have z5 := cell_of_row w8 gx 5 _ 55 (0, 0) HX8.out
  have z6 := cell_of_row w8 gx 6 _ 55 (0, 0) HX8.out
  have z7 := cell_of_row w8 gx 7 _ 55 (0, 0) HX8.out
  have y1 := cell_of_row w8 t 1 _ 57 (0, 0) HT8.out
  have y2 := cell_of_row w8 t 2 _ 57 (0, 0) HT8.out
  have y3 := cell_of_row w8 t 3 _ 57 (0, 0) HT8.out
  have y4 := cell_of_row w8 t 4 _ 57 (0, 0) HT8.out
  have y5 := cell_of_row w8 t 5 _ 57 (0, 0) HT8.out
  have y6 := cell_of_row w8 t 6 _ 57 (0, 0) HT8.out
  have y7 := cell_of_row w8 t 7 _ 57 (0, 0) HT8.out
  have y8 := cell_of_row w8 t 8 _ 57 (0, 0) HT8.out
  have y9 := cell_of_row w8 t 9 _ 57 (0, 0) HT8.out
  have g1 := frozen_of_row w8 t 1 _ 57 HT8.out
  have g2 := frozen_of_row w8 t 2 _ 57 HT8.out
  have g3 := frozen_of_row w8 t 3 _ 57 HT8.out
  have g4 := frozen_of_row w8 t 4 _ 57 HT8.out
  have g5 := frozen_of_row w8 t 5 _ 57 HT8.out
  have g6 := frozen_of_row w8 t 6 _ 57 HT8.out
  have g7 := frozen_of_row w8 t 7 _ 57 HT8.out
  have g8 := frozen_of_row w8 t 8 _ 57 HT8.out
  have g9 := frozen_of_row w8 t 9 _ 57 HT8.out
  simp only [tabCells, inf0, List.getElem?_toArray, List.getElem?_cons_zero, List.getElem?_cons_succ] at z0 z1 z2 z3 z4 z5 z6 z7 y1 y2 y3 y4 y5 y6 y7 y8 y9
  go_upto_region 19 with (fail)
  have TK := hide ((((((((((Tick.refl HT8.out).set 1 (.slice pa l.length pc)).set 2 (.int .i64 (ne : Nat))).set 3 (.int .i64 (l.length : Nat))).set 4 (.int .i64 (size : Nat))).set 5 (.slice la least.length lc)).set 6 (.slice ma most.length mc)).set 7 (.int .u64 (lo : Nat))).set 8 (.int .u64 (hi : Nat))).set 9 (.slice a7 flt.length c7))
  have TK1 := hide (show ((((((((((w8.setCell ⟨t, 1, none⟩ (.slice pa l.length pc)).setCell ⟨t, 2, none⟩ (.int .i64 (ne : Nat))).setCell ⟨t, 3, none⟩ (.int .i64 (l.length : Nat))).setCell ⟨t, 4, none⟩ (.int .i64 (size : Nat))).setCell ⟨t, 5, none⟩ (.slice la least.length lc)).setCell ⟨t, 6, none⟩ (.slice ma most.length mc)).setCell ⟨t, 7, none⟩ (.int .u64 (lo : Nat))).setCell ⟨t, 8, none⟩ (.int .u64 (hi : Nat))).setCell ⟨t, 9, none⟩ (.slice a7 flt.length c7))).heap[t]? = some (.cells (tabCells f nm (.slice pa l.length pc) ⟨.int .i64 (ne : Nat), .int .i64 (l.length : Nat), .int .i64 (size : Nat), .slice la least.length lc, .slice ma most.length mc, .int .u64 (lo : Nat), .int .u64 (hi : Nat)⟩ (.slice a7 flt.length c7) 0) 57 (0, 0)) from by have h9 := TK.out.1; rw [tab9] at h9; exact h9)
  have U9 := hide (Turns.of_tick TK.out)
  clear z0 z1 z2 z3 z4 z5 z6 z7 y1 y2 y3 y4 y5 y6 y7 y8 y9 g1 g2 g3 g4 g5 g6 g7 g8 g9 TK
  generalize (((((((((w8.setCell ⟨t, 1, none⟩ (.slice pa l.length pc)).setCell ⟨t, 2, none⟩ (.int .i64 (ne : Nat))).setCell ⟨t, 3, none⟩ (.int .i64 (l.length : Nat))).setCell ⟨t, 4, none⟩ (.int .i64 (size : Nat))).setCell ⟨t, 5, none⟩ (.slice la least.length lc)).setCell ⟨t, 6, none⟩ (.slice ma most.length mc)).setCell ⟨t, 7, none⟩ (.int .u64 (lo : Nat))).setCell ⟨t, 8, none⟩ (.int .u64 (hi : Nat))).setCell ⟨t, 9, none⟩ (.slice a7 flt.length c7)) = w9 at *
  go_wp2_with fail
  go_ret
  go_light
  have s3 := HS3.out
  have s4 : w3.heap.size ≤ gx := HS4.out
  have htw := lt_of_heap HT.out
  have s46 := T46.out.size
  have s67 := T67.out.size
  have s8 := T8.out.size
  have s9 := U9.out.size
  have hgg := HGG.out
  have hgx6 := lt_of_heap HGX6.out
  have hab := HAB.out
  have FA : ∀ a, a7 = some a → w6.heap.size ≤ a.block ∧ a.block < w7.heap.size := fun a ha => by
    rcases F7.out with ⟨_, h1⟩ | ⟨g, n, c, h1, _, _, h4, cs, h5, _⟩
    · simp only [Value.slice.injEq] at h1; rw [h1.1] at ha; cases ha
    · simp only [Value.slice.injEq] at h1; rw [h1.1] at ha; cases ha; exact ⟨h4, lt_of_heap h5⟩
  have hrw : ∀ k, inRow (.slice pa l.length pc) k → w3.heap.size ≤ k ∧ k < w4.heap.size := fun k hk => ROW.out.row hk
  have keepB : ∀ {a : Option Addr} {n c : Nat} {bb : List (BitVec 8)}, Bytes w4 (.slice a n c) bb → (∀ x, a = some x → w3.heap.size ≤ x.block) → Bytes w9 (.slice a n c) bb := fun hb hx =>
    bytes_keepL hb (((T46.out.mono (fun _ _ x => x.elim)).trans (T67.out.mono (fun _ _ h => .inl h))).trans ((T8.out.mono (fun _ _ h => .inr (.inl h))).trans (U9.out.mono (fun _ _ h => .inr (.inr h)))) : Turns (fun k => A k ∨ k = gx ∨ k = t) w4 w9) (fun x e hl ha => by
      have h1 := hx x e
      rcases ha with ha | ha | ha
      · have := hab _ ha; omega
      · omega
      · omega)
  refine ⟨rfl, l, la, lc, ma, mc, ⟨⟨pa, a7, pc, c7, by rw [← LAY.out.len]; exact TK1.out, ?_, fun k hk => ?_, ?_, fun a ha => ?_⟩, fun q hq => ⟨?_, fun a ha => ?_⟩, ?_, HNT.out, fun k hk => ?_⟩, LAY.out, ?_, ?_, fun x e => Nat.le_trans s3 (HLF.out x e), fun x e => Nat.le_trans s3 (HMF.out x e), ?_⟩
  · exact ((((ROW.out.keep T46.out (fun _ _ x => x)).keep T67.out (fun k hk ha => by have := hrw k hk; have := hab _ ha; omega)).keep T8.out (fun k hk ha => by have := hrw k hk; have h3 : k = gx := ha; omega)).keep U9.out (fun k hk ha => by have := hrw k hk; have h3 : k = t := ha; omega)).le (Nat.zero_le _)
  · have h1 := hrw k hk
    exact ⟨fun ha => by have := hab _ ha; omega, by omega, by omega⟩
  · exact bytes_keep (bytes_keep F7.out.bytes T8.out (fun x e ha => by have := FA x e; have h3 : x.block = gx := ha; omega)) U9.out (fun x e ha => by have := FA x e; have h3 : x.block = t := ha; omega)
  · have h1 := FA a ha
    exact ⟨fun ha => by have := hab _ ha; omega, by omega, by omega⟩
  · exact keepB (KEYS.out q hq).1 (fun x e => ((KEYS.out q hq).2 x e).1)
  · have h1 := (KEYS.out q hq).2 a ha
    exact ⟨fun ha => by have := hab _ ha; omega, by omega, by omega⟩
  · exact (HF7.out.keep T8.out (fun k _ ha he => by have := hab _ ha; have h3 : k = gx := he; omega)).keep U9.out (fun k _ ha he => HNT.out (by have h3 : k = t := he; rw [← h3]; exact ha))
  · have := hab k hk
    omega
  · exact keepB HLA.out HLF.out
  · exact keepB HMA.out HMF.out
  · exact ((T7.out.mono (fun _ _ h => .inl h)).andThen T8.out (fun k hk e => by have h3 : k = gx := e; omega)).trans (U9.out.mono (fun _ _ h => .inr h))
end Go.Proofs.YtjklbhdhjfifhaaGreat

/-
  Is there a file system?
-/
namespace Go.Proofs.YtjklbhdhjfifhaaGreat
open Go.RowKit
set_option maxRecDepth 100000
set_option maxHeartbeats 4000000
theorem good_empty : goodN ⟨#[]⟩ = false := by decide +kernel
/-- The same, its blocks bounded by the memory that there is. -/
def Cut (A : Nat → Prop) (w w' : World) : Nat → Prop := fun k => (A k ∨ w.heap.size ≤ k) ∧ k < w'.heap.size
theorem isNone_no (A : Nat → Prop) (f : Nat) (nm : ByteArray) (bs : List (BitVec 8)) (K : Nat) (w : World) (h : FsT A w f nm bs K) :
    Calls Tryz.prog 32 #[.pointer (some ⟨f, 0, none⟩)] w fun e w' => e = .returned (.bool false) ∧ FsT (Cut A w w') w' f nm bs K ∧ Turns A w w' := by
  obtain ⟨d, g, x, h1, h2, h3⟩ := h.ex
  have SY := hide (sync_rep A f d ⟨#[]⟩ w h1 h2 (by decide) (fun e w' => e = .returned (.int .i64 2) ∧ FsT (Cut A w w') w' f nm bs K ∧ Turns A w w') (fun z w' hz hr tt => by
      rw [good_empty] at hz hr
      cases hz
      exact ⟨rfl, ⟨d, g, x, hr.mono (fun k hk hA => ⟨hA, hk⟩), h2, h3⟩, tt⟩) (fun hg => by rw [good_empty] at hg; cases hg) (fun hg => by rw [good_empty] at hg; cases hg))
  clear h h1 h2 h3
  go_enter Tryz.func32, Tryz.ntmps32
  go_wp2_with fail
  refine SY.out.mono ?_
  rintro e w1 ⟨rfl, hF, tt⟩
  have HF := hide hF
  have TT := hide tt
  clear hF tt
  go_wp2_with fail
  go_ret
  exact ⟨rfl, HF.out, TT.out⟩
theorem FsT.size {A : Nat → Prop} {w : World} {f : Nat} {nm : ByteArray} {bs : List (BitVec 8)} {K : Nat} (h : FsT A w f nm bs K) (hns : nm.size ≤ 64) : Calls Tryz.prog 33 #[.pointer (some ⟨f, 0, none⟩), .string nm] w fun e w' => e = .returned (.int .i64 (bs.length : Nat)) ∧ w' = w := by
  obtain ⟨d, g, x, h1, h2, h3, h4, h5, h6, h7, h8, h9⟩ := h.ex
  refine (size_rep A f d nm w h1 (Nat.le_trans hns (by decide))).mono ?_
  rintro e w' ⟨rfl, rfl⟩
  refine ⟨?_, rfl⟩
  unfold Disk.size
  rw [h7]
  simp only
  rw [h8]
  simp [h9]
theorem open_ok (A : Nat → Prop) (f : Nat) (nm : ByteArray) (bs : List (BitVec 8)) (K size at_ : Nat) (ps : List Pz) (ne lo hi : Nat) (least most flt : List (BitVec 8)) (w : World) (hF : FsT A w f nm bs K) (hbs : bs.length = size) (hnm : goodN nm = true) (hns : nm.size ≤ 64) (hK : K ≤ 999000) (h16 : 16 ≤ size) (hsz : size ≤ 16777216) (hat : at_ ≤ size - 16)
    (hR1 : readOf bs (size - 16) 16 = ordB at_ ++ markB) (hR2 : readOf bs at_ (size - 16 - at_) = Fr.frameB 4#8 (idxB ps ne lo hi least most)) (hL2 : size - 16 - at_ = (idxB ps ne lo hi least most).length + 12) (hI2 : (idxB ps ne lo hi least most).length ≤ 1000000) (hR3 : readOf bs (sumZ ps) (at_ - sumZ ps) = Fr.frameB 3#8 flt) (hL3 : at_ - sumZ ps = flt.length + 12) (hI3 : flt.length ≤ 1048576)
    (hps : ps ≠ []) (hpl : ps.length ≤ 1000000) (hsum : sumZ ps ≤ at_) (hne : ne < 2 ^ 63) (hlo : lo < 2 ^ 64) (hhi : hi < 2 ^ 64) (hle : least.length ≤ 1000000) (hmo : most.length ≤ 1000000)
    (hz : ∀ z, z ∈ ps → 0 < z.2.1.length ∧ z.2.1.length ≤ 1000000 ∧ z.2.2 < 2 ^ 64) (hord : ∀ i x y, ps[i]? = some x → ps[i + 1]? = some y → cmpE (x.2.1, x.2.2) (y.2.1, y.2.2) < 0) (hmost : ∀ z, ps.getLast? = some z → z.2.1 = most) :
    Calls Tryz.prog 7 #[.pointer (some ⟨f, 0, none⟩), .string nm] w fun oo w' => ∃ t, oo = .returned (.tuple #[.pointer (some ⟨t, 0, none⟩), .int .i64 0]) ∧ w.heap.size ≤ t ∧ ∃ A' pl la lc ma mc, (∀ k, A' k → A k ∨ w.heap.size ≤ k) ∧ TabT A' w'.heap.size w' t f nm bs (K + 3) pl flt ⟨.int .i64 (ne : Nat), .int .i64 (ps.length : Nat), .int .i64 (size : Nat), .slice la least.length lc, .slice ma most.length mc, .int .u64 (lo : Nat), .int .u64 (hi : Nat)⟩ 0 ∧ Lay pl ps ∧ Bytes w' (.slice la least.length lc) least ∧ Bytes w' (.slice ma most.length mc) most ∧ (∀ x, la = some x → ¬ A' x.block ∧ x.block ≠ t) ∧ (∀ x, ma = some x → ¬ A' x.block ∧ x.block ≠ t) ∧ Turns A w w' := by
  have IN := hide (isNone_no A f nm bs K w hF)
  have LD := hide (fun (A' : Nat → Prop) (t : Nat) (u : World) (ht : u.heap[t]? = some (.cells (tabCells f nm (.slice none 0 0) inf0 (.slice none 0 0) 0) 57 (0, 0))) (hnt : ¬ A' t) (hab : ∀ k, A' k → k < u.heap.size) (hF : FsT A' u f nm bs K) => load_ok A' t f nm bs K size at_ ps ne lo hi least most flt u ht hnt hab hF hnm hns hK h16 hsz hat hR1 hR2 hL2 hI2 hR3 hL3 hI3 hps hpl hsum hne hlo hhi hle hmo hz hord hmost)
  have HSI := hide (fun (A' : Nat → Prop) (u : World) (hF : FsT A' u f nm bs K) => hF.size hns)
  rw [hbs] at HSI
  have HSL := hide hsz
  clear hF hbs hnm hns hK h16 hsz hat hR1 hR2 hL2 hI2 hR3 hL3 hI3 hps hpl hsum hne hlo hhi hle hmo hz hord hmost
  go_enter Tryz.func7, Tryz.ntmps7
  go_wp2_with fail
  refine IN.out.mono ?_
  rintro oo w1 ⟨rfl, hF1, t1⟩
  have HF1 := hide hF1
  have T1 := hide t1
  clear hF1 t1 IN
  go_wp2_with fail
  refine (HSI.out _ _ HF1.out).mono ?_
  rintro oo w2 ⟨rfl, hw2⟩
  subst hw2
  clear HSI
  go_upto_region 7 with (fail)
  have HG := hide (show (w2.alloc (.cells (tabCells f nm (.slice none 0 0) inf0 (.slice none 0 0) 0) 57)).heap[w2.heap.size]? = some (.cells (tabCells f nm (.slice none 0 0) inf0 (.slice none 0 0) 0) 57 (0, 0)) from heap_alloc_new w2 _)
  have TA := hide ((Turns.refl (fun _ => False) w2).alloc (.cells (tabCells f nm (.slice none 0 0) inf0 (.slice none 0 0) 0) 57))
  change Code.wp _ _ _ _ (w2.alloc (.cells (tabCells f nm (.slice none 0 0) inf0 (.slice none 0 0) 0) 57))
  generalize w2.alloc (.cells (tabCells f nm (.slice none 0 0) inf0 (.slice none 0 0) 0) 57) = w3 at *
  have L3 := hide (LD.out (Cut A w w2) w2.heap.size w3 HG.out (fun h => Nat.lt_irrefl _ h.2) (fun k hk => Nat.lt_of_lt_of_le hk.2 TA.out.size) (HF1.out.quiet TA.out))
  generalize hgt : w2.heap.size = t at L3 HG ⊢
  have HGT := hide hgt
  clear hgt LD
  go_wp2_with fail
  refine L3.out.mono ?_
  rintro oo w4 ⟨rfl, pl, la, lc, ma, mc, hT, hL, hla, hma, hxl, hxm, t4⟩
  have X1 := hide hT
  have X2 := hide hL
  have X3 := hide hla
  have X4 := hide hma
  have X5 := hide t4
  have X6 := hide hxl
  have X7 := hide hxm
  have HTL := hide (lt_of_heap HG.out)
  clear hT hL hla hma t4 L3 hxl hxm
  go_wp2_with fail
  go_ret2
  go_light
  have hs := T1.out.size
  have hg := HGT.out
  refine ⟨t, rfl, by omega, Cut A w w2, pl, la, lc, ma, mc, fun k hk => hk.1, X1.out, X2.out, X3.out, X4.out, fun x e => ?_, fun x e => ?_, ?_⟩
  · have h1 := X6.out x e
    have h2 := HTL.out
    exact ⟨fun h => by have := h.2; omega, by omega⟩
  · have h1 := X7.out x e
    have h2 := HTL.out
    exact ⟨fun h => by have := h.2; omega, by omega⟩
  refine ((T1.out.trans (TA.out.mono (fun _ _ x => x.elim))).andThen X5.out (fun k hk e => ?_))
  rcases e with e | e
  · rcases e.1 with h | h
    · exact h
    · omega
  · omega
end Go.Proofs.YtjklbhdhjfifhaaGreat

/-
  A table that was made is opened.
-/
namespace Go.Proofs.YtjklbhdhjfifhaaGreat
open Go.RowKit
set_option maxRecDepth 100000
set_option maxHeartbeats 4000000
theorem cmpE_lt_trans {x y z : En} (h1 : cmpE x y < 0) (h2 : cmpE y z < 0) : cmpE x z < 0 := by
  have h := cmpE_trans x y z (by omega) (by omega)
  rcases Int.lt_or_eq_of_le h with h | h
  · exact h
  · exfalso
    obtain ⟨e1, e2⟩ := (cmpE_zero x z).1 h
    have : x = z := Prod.ext e1 e2
    subst this
    have := cmpE_swap x y
    omega
theorem inOrd_far {es : List Ent} (h : inOrd es = true) : ∀ (d i : Nat) (x y : Ent), es[i]? = some x → es[i + d + 1]? = some y → cmpE x.en y.en < 0
  | 0, i, x, y, hx, hy => (inOrd_iff es).1 h i x y hx hy
  | d + 1, i, x, y, hx, hy => by
    obtain ⟨z, hz⟩ : ∃ z, es[i + d + 1]? = some z := by
      have := (List.getElem?_eq_some_iff.1 hy).1
      exact ⟨_, List.getElem?_eq_getElem (by omega)⟩
    exact cmpE_lt_trans (inOrd_far h d i x z hx hz) ((inOrd_iff es).1 h (i + d + 1) z y hz (by rw [show i + d + 1 + 1 = i + (d + 1) + 1 by omega]; exact hy))
theorem inOrd_at {es : List Ent} (h : inOrd es = true) (K : Nat) (x : Ent) (hx : es[K]? = some x) (j : Nat) (e : Ent) (he : es[j]? = some e) : cmpE e.en x.en < 0 ↔ j < K := by
  constructor
  · intro hlt
    rcases Nat.lt_trichotomy j K with h1 | h1 | h1
    · exact h1
    · subst h1
      rw [hx] at he
      cases he
      have := (cmpE_zero x.en x.en).2 ⟨rfl, rfl⟩
      omega
    · have := inOrd_far h (j - K - 1) K x e hx (by rw [show K + (j - K - 1) + 1 = j by omega]; exact he)
      have := cmpE_swap e.en x.en
      omega
  · intro hlt
    exact inOrd_far h (K - j - 1) j e x he (by rw [show j + (K - j - 1) + 1 = K by omega]; exact hx)
theorem readOf_mid (a b c : List (BitVec 8)) (i n : Nat) (hi : i = a.length) (hn : n = b.length) : readOf (a ++ (b ++ c)) i n = b := by
  subst hi; subst hn
  simp [readOf]
theorem plcs_at (l : List Tow) : ∀ (L : List (Nat × Nat)) (p i : Nat) (q : Plc), (plcs l p L)[i]? = some q → ∃ x, L[i]? = some x ∧ q.t = l.getD (x.1 + x.2 - 1) default ∧ q.size = (frB l x).length
  | [], _, _, _, h => by simp [plcs] at h
  | x :: r, p, 0, q, h => by
    simp only [plcs, List.getElem?_cons_zero, Option.some.injEq] at h
    subst h
    exact ⟨x, rfl, rfl, rfl⟩
  | x :: r, p, i + 1, q, h => by
    simp only [plcs, List.getElem?_cons_succ] at h
    exact plcs_at l r _ i q h
theorem cuts_next {F : Int} {l : List Tow} : ∀ {L : List (Nat × Nat)} {i j : Nat}, Cuts F l i L j → ∀ k x y, L[k]? = some x → L[k + 1]? = some y → y.1 = x.1 + x.2
  | [], i, j, _, k, x, y, hx, _ => by simp at hx
  | a :: r, i, j, h, 0, x, y, hx, hy => by
    obtain ⟨h1, h2, h3⟩ := h
    simp only [List.getElem?_cons_zero, Option.some.injEq] at hx
    subst hx
    cases r with
    | nil => simp at hy
    | cons b s =>
      simp only [List.getElem?_cons_succ, List.getElem?_cons_zero, Option.some.injEq] at hy
      subst hy
      have h4 : b.1 = i + a.2 := h3.1
      omega
  | a :: r, i, j, h, k + 1, x, y, hx, hy => by
    simp only [List.getElem?_cons_succ] at hx hy
    exact cuts_next h.2.2 k x y hx hy
theorem cuts_last {F : Int} {l : List Tow} : ∀ {L : List (Nat × Nat)} {i j : Nat}, Cuts F l i L j → ∀ x, L.getLast? = some x → x.1 + x.2 = j
  | [], i, j, _, x, hx => by simp at hx
  | [a], i, j, h, x, hx => by
    obtain ⟨h1, h2, h3⟩ := h
    simp only [List.getLast?_singleton, Option.some.injEq] at hx
    subst hx
    have h4 : i + a.2 = j := h3
    omega
  | a :: b :: r, i, j, h, x, hx => by
    rw [List.getLast?_cons_cons] at hx
    exact cuts_last h.2.2 x hx
theorem zsT_at (l : List Tow) (L : List (Nat × Nat)) (i : Nat) (z : Pz) (h : (zsT l L)[i]? = some z) : ∃ x, L[i]? = some x ∧ z.2 = (l.getD (x.1 + x.2 - 1) default).e.en ∧ z.1 = (frB l x).length := by
  unfold zsT at h
  rw [List.getElem?_map] at h
  obtain ⟨q, hq, rfl⟩ := Option.map_eq_some_iff.1 h
  obtain ⟨x, h1, h2, h3⟩ := plcs_at l L 0 i q hq
  exact ⟨x, h1, by rw [← h2]; rfl, h3⟩
theorem getD_at {l : List Tow} {i : Nat} (h : i < l.length) : l[i]? = some (l.getD i default) := by
  simp [List.getD, List.getElem?_eq_getElem h]
theorem zs_ord {F : Int} {l : List Tow} {L : List (Nat × Nat)} (hc : Cuts F l 0 L l.length) (ho : inOrd (ents l) = true) (i : Nat) (x y : Pz) (hx : (zsT l L)[i]? = some x) (hy : (zsT l L)[i + 1]? = some y) : cmpE (x.2.1, x.2.2) (y.2.1, y.2.2) < 0 := by
  obtain ⟨a, ha, e1, _⟩ := zsT_at l L i x hx
  obtain ⟨b, hb, e2, _⟩ := zsT_at l L (i + 1) y hy
  have h1 := cuts_next hc i a b ha hb
  have h2 := (cuts_in hc (Nat.le_refl _)).2
  have h3 := h2 a (List.mem_of_getElem? ha)
  have h4 := h2 b (List.mem_of_getElem? hb)
  have k1 : (ents l)[a.1 + a.2 - 1]? = some (l.getD (a.1 + a.2 - 1) default).e := by unfold ents; rw [List.getElem?_map, getD_at (by omega)]; rfl
  have k2 : (ents l)[b.1 + b.2 - 1]? = some (l.getD (b.1 + b.2 - 1) default).e := by unfold ents; rw [List.getElem?_map, getD_at (by omega)]; rfl
  have := (inOrd_at ho _ _ k2 _ _ k1).2 (by omega)
  show cmpE x.2 y.2 < 0
  rw [e1, e2]
  exact this
theorem zs_last {F : Int} {l : List Tow} {L : List (Nat × Nat)} (hc : Cuts F l 0 L l.length) (xz : Tow) (hz : l[l.length - 1]? = some xz) (z : Pz) (h : (zsT l L).getLast? = some z) : z.2.1 = xz.e.key := by
  rw [List.getLast?_eq_getElem?, zsT_length] at h
  obtain ⟨a, ha, e1, _⟩ := zsT_at l L _ z h
  rw [← List.getLast?_eq_getElem?] at ha
  have h2 := cuts_last hc a ha
  rw [e1, h2, List.getD, hz]
  rfl
theorem zs_ne {F : Int} {l : List Tow} {L : List (Nat × Nat)} (hc : Cuts F l 0 L l.length) (h1 : 1 ≤ l.length) : zsT l L ≠ [] := fun e => by
  have h2 := congrArg List.length e
  rw [zsT_length] at h2
  have h3 : L = [] := List.eq_nil_of_length_eq_zero h2
  rw [h3] at hc
  have h4 : 0 = l.length := hc
  omega
theorem openT_ok {F : Int} (l : List Tow) (L : List (Nat × Nat)) (flt : List (BitVec 8)) (lo hi : Nat) (x0 xz : Tow) (A : Nat → Prop) (f K : Nat) (bs : List (BitVec 8)) (w : World) (hbs : bs = tblB l L flt (idxT l L l.length lo hi x0.e.key xz.e.key)) (hF : FsT A w f nmT bs K) (hK : K ≤ 999000) (hc : Cuts F l 0 L l.length) (ho : inOrd (ents l) = true) (hf : Good l) (h1 : 1 ≤ l.length) (hmx : l.length ≤ 200) (hw : wt (ents l) ≤ 100000) (hx0 : l[0]? = some x0) (hxz : l[l.length - 1]? = some xz) (hlo : lo < 18446744073709551616) (hhi : hi < 18446744073709551616) (hfl : flt.length ≤ 1000) :
    Calls Tryz.prog 7 #[.pointer (some ⟨f, 0, none⟩), .string nmT] w fun oo w' => ∃ t, oo = .returned (.tuple #[.pointer (some ⟨t, 0, none⟩), .int .i64 0]) ∧ w.heap.size ≤ t ∧ ∃ A' pl la lc ma mc, (∀ k, A' k → A k ∨ w.heap.size ≤ k) ∧ TabT A' w'.heap.size w' t f nmT bs (K + 3) pl flt ⟨.int .i64 (l.length : Nat), .int .i64 (L.length : Nat), .int .i64 (bs.length : Nat), .slice la x0.e.key.length lc, .slice ma xz.e.key.length mc, .int .u64 (lo : Nat), .int .u64 (hi : Nat)⟩ 0 ∧ Lay pl (zsT l L) ∧ Bytes w' (.slice la x0.e.key.length lc) x0.e.key ∧ Bytes w' (.slice ma xz.e.key.length mc) xz.e.key ∧ (∀ x, la = some x → ¬ A' x.block ∧ x.block ≠ t) ∧ (∀ x, ma = some x → ¬ A' x.block ∧ x.block ≠ t) ∧ Turns A w w' := by
  have hsum := cuts_bound hf hc (Nat.le_refl _) (by omega) hw
  have hcs := (cuts_sum hf hc (Nat.le_refl _)).2.1
  have hin := (cuts_in hc (Nat.le_refl _)).2
  have hl0 : l ≠ [] := fun e => by rw [e] at h1; simp at h1
  have kx := chk1_fine (hf x0 (List.mem_of_getElem? hx0)).1
  have kz := chk1_fine (hf xz (List.mem_of_getElem? hxz)).1
  have hil := idxT_len l L hl0 (fun x hx => (hin x hx).2) (by omega) (by omega) hf l.length lo hi (by omega) hlo hhi x0.e.key xz.e.key kx.2.2.2.2.1 kz.2.2.2.2.1
  have hal : (aheadB l L flt).length = sumF l L + (flt.length + 12) := by unfold aheadB; rw [List.length_append, flat_length, Fr.frameB_length]
  have htl : ∀ n, (ordB n ++ markB).length = 16 := fun _ => rfl
  have hbl : bs.length = (aheadB l L flt).length + ((idxT l L l.length lo hi x0.e.key xz.e.key).length + 12 + 16) := by rw [hbs]; unfold tblB; rw [List.length_append, List.length_append, Fr.frameB_length, htl]
  have hzs := zsT_length l L
  have R1 : readOf bs (bs.length - 16) 16 = ordB (aheadB l L flt).length ++ markB := by
    have e : bs = (aheadB l L flt ++ Fr.frameB 4#8 (idxT l L l.length lo hi x0.e.key xz.e.key)) ++ ((ordB (aheadB l L flt).length ++ markB) ++ []) := by rw [hbs]; unfold tblB; simp
    conv => lhs; arg 1; rw [e]
    exact readOf_mid _ _ _ _ _ (by rw [List.length_append, Fr.frameB_length]; omega) rfl
  have R2 : readOf bs (aheadB l L flt).length (bs.length - 16 - (aheadB l L flt).length) = Fr.frameB 4#8 (idxT l L l.length lo hi x0.e.key xz.e.key) := by
    conv => lhs; arg 1; rw [hbs]
    unfold tblB
    exact readOf_mid _ _ _ _ _ rfl (by rw [Fr.frameB_length]; omega)
  have R3 : readOf bs (sumZ (zsT l L)) ((aheadB l L flt).length - sumZ (zsT l L)) = Fr.frameB 3#8 flt := by
    have e : bs = L.flatMap (frB l) ++ (Fr.frameB 3#8 flt ++ (Fr.frameB 4#8 (idxT l L l.length lo hi x0.e.key xz.e.key) ++ (ordB (aheadB l L flt).length ++ markB))) := by
      rw [hbs, ← List.append_assoc]
      rfl
    conv => lhs; arg 1; rw [e]
    exact readOf_mid _ _ _ _ _ (by rw [zsT_sum, flat_length]) (by rw [zsT_sum, Fr.frameB_length]; omega)
  have H := open_ok A f nmT bs K bs.length (aheadB l L flt).length (zsT l L) l.length lo hi x0.e.key xz.e.key flt w hF rfl nmT_good (by decide) hK (by omega) (by omega) (by omega) R1 R2 (by unfold idxT at hbl; omega) (by unfold idxT at hil; exact hil) R3 (by rw [zsT_sum]; omega) (by omega) (zs_ne hc h1) (by rw [hzs]; omega) (by rw [zsT_sum]; omega) (by omega) (by omega) (by omega) (by omega) (by omega)
    (fun z hz => by
      obtain ⟨q, hq, rfl⟩ := List.mem_map.1 hz
      have h9 := chk1_fine (hf _ (plcs_t l hl0 L 0 (fun x hx => (hin x hx).2) q hq)).1
      exact ⟨List.length_pos_iff.2 h9.2.2.2.1, by have := h9.2.2.2.2.1; simp only [Plc.z]; omega, by have := h9.2.1; simp only [Plc.z]; omega⟩)
    (zs_ord hc ho) (zs_last hc xz hxz)
  rw [hzs] at H
  exact H
end Go.Proofs.YtjklbhdhjfifhaaGreat

/-
  A file system that holds some bytes under the law's name.
-/
namespace Go.Proofs.YtjklbhdhjfifhaaGreat
open Go.RowKit
set_option maxRecDepth 100000
set_option maxHeartbeats 4000000
theorem stored_all (a : Option Addr) (n c : Nat) (bs : List (BitVec 8)) (w : World) (h : Bytes w (.slice a n c) bs) (hn : n ≤ 1000000) :
    Calls Tryz.prog 8 #[.slice a n c] w fun e w' => ∃ f g, e = .returned (.pointer (some ⟨f, 0, none⟩)) ∧ Rep (From w.heap.size) w' f (oneDisk 1048576 g nmT [⟨⟨#[]⟩, nmT, some g⟩] (.map []) bs 0 (0 + bs.length) 0 (0 + 1 + 1)) ∧ Below w.heap.size w w' := by
  have hl := h.len
  have HL := hide hl
  have HB := hide h
  clear h hl
  have NR := hide (new_rep 1048576 w (by decide) (by decide))
  go_enter Tryz.func8, Tryz.ntmps8
  go_wp2_with fail
  refine NR.out.mono ?_
  rintro e w1 ⟨rfl, hr1, b1⟩
  have R1 := hide hr1
  have B1 := hide b1
  have HF := hide (show w.heap.size + 2 < w1.heap.size from by
    obtain ⟨_, _, _, _, hr⟩ := hr1
    exact lt_of_heap hr.cells)
  clear NR hr1 b1
  generalize hN : w.heap.size = N at *
  have HN := hide hN
  clear hN
  have CR := hide (create_1 N (N + 2) nmT 1048576 0 w1 R1.out (by have := HF.out; omega) (by decide) (by decide) nmT_good (by decide))
  go_wp2_with fail
  refine CR.out.mono ?_
  rintro e w2 ⟨rfl, g, hr2, b2⟩
  have R2 := hide hr2
  have B2 := hide (B1.out.trans b2)
  have HS2 := hide (Nat.lt_of_lt_of_le HF.out b2.size)
  have HB2 := hide (HB.out.below (by rw [HN.out]; exact B2.out))
  clear CR R1 B1 hr2 b2 HF
  have OW := hide (own_any a n c bs w2 HB2.out hn)
  go_wp2_with fail
  refine OW.out.mono ?_
  rintro e w3 ⟨q, c3, rfl, hq, hc3, hrow, b3⟩
  have AP := hide (append_1 N (N + 2) g nmT [⟨⟨#[]⟩, nmT, some g⟩] (.map []) [] 0 1048576 0 0 (0 + 1) w3 (by
      obtain ⟨bn, bsy, ch, fv, hr⟩ := R2.out
      have t3 := Turns.of_below b3 (fun _ => False)
      exact Rep.keep ⟨bn, bsy, ch, fv, hr⟩ t3 (fun _ _ _ x => x)) (by have := HS2.out; have := b3.size; omega)
    (one_num 1048576 g nmT _ (.map []) [] 0 0 0 (0 + 1) (by decide) (by decide) (by decide) (by decide) (show 1 ≤ 100 by decide) (fun x hx => by
      rw [List.mem_singleton.1 hx]
      exact ⟨show 0 ≤ maxLen by decide, show 1 ≤ maxLen by decide⟩) (by decide))
    (some ⟨q, 0, none⟩) n c3 bs (RowB.bytes hrow HL.out) (fun q' o e => by cases e; have := HS2.out; omega) (by have := HL.out; omega) nmT_good (by decide))
  have B3 := hide (B2.out.trans (b3.mono (by have := HS2.out; omega)))
  clear OW R2 B2 hq hc3 hrow b3
  go_wp2_with fail
  refine AP.out.mono ?_
  rintro e w4 ⟨rfl, hr4, b4⟩
  have R4 := hide hr4
  have B4 := hide (B3.out.trans b4)
  clear AP B3 hr4 b4
  go_wp2_with fail
  go_ret
  rw [HN.out]
  exact ⟨_, g, rfl, R4.out, B4.out⟩
theorem stored_num (g : Nat) (bs : List (BitVec 8)) (hl : bs.length ≤ 1000000) : Num (oneDisk 1048576 g nmT [⟨⟨#[]⟩, nmT, some g⟩] (.map []) bs 0 (0 + bs.length) 0 (0 + 1 + 1)) :=
  one_num 1048576 g nmT [⟨⟨#[]⟩, nmT, some g⟩] (.map []) bs 0 (0 + bs.length) 0 (0 + 1 + 1) (by omega) (by decide) (by omega) (Nat.zero_le _) (show 1 ≤ 100 by decide) (fun x hx => by
      rw [List.mem_singleton.1 hx]
      exact ⟨show 0 ≤ maxLen by decide, show 1 ≤ maxLen by decide⟩) (by decide)
theorem stored_any (a : Option Addr) (n c : Nat) (bs : List (BitVec 8)) (w : World) (h : Bytes w (.slice a n c) bs) (hn : n ≤ 1000000) :
    Calls Tryz.prog 8 #[.slice a n c] w fun e w' => ∃ f, e = .returned (.pointer (some ⟨f, 0, none⟩)) ∧ FsT (From w.heap.size) w' f nmT bs 2 ∧ Below w.heap.size w w' := by
  have hl := h.len
  refine (stored_all a n c bs w h hn).mono ?_
  rintro e w' ⟨f, g, rfl, hr, hb⟩
  exact ⟨_, rfl, ⟨_, g, ⟨bs, 0⟩, hr, stored_num g bs (by omega), rfl, show (-1 : Int) < 0 by decide, show (-1 : Int) < 0 by decide, show (0 + 1 + 1 : Int) ≤ ((2 : Nat) : Int) by decide, one_file nmT g, if_pos rfl, rfl⟩, hb⟩
theorem one_other (g : Nat) (s : ByteArray) (hs : s ≠ nmT) : fileOf (one nmT g) s = none := by
  rw [← apply_first, fileOf_apply _ ⟨[], rfl⟩]
  simp only [if_neg hs]
  split
  · rfl
  · exact none_file s
theorem stored_u (a : Option Addr) (n c : Nat) (bs : List (BitVec 8)) (w : World) (h : Bytes w (.slice a n c) bs) (hn : n ≤ 1000000) :
    Calls Tryz.prog 8 #[.slice a n c] w fun e w' => ∃ f d, e = .returned (.pointer (some ⟨f, 0, none⟩)) ∧ Rep (From w.heap.size) w' f d ∧ Num d ∧ (∀ s, s ≠ nmT → fileOf d.names s = none) ∧ Below w.heap.size w w' := by
  have hl := h.len
  refine (stored_all a n c bs w h hn).mono ?_
  rintro e w' ⟨f, g, rfl, hr, hb⟩
  exact ⟨_, _, rfl, hr, stored_num g bs (by omega), fun s hs => one_other g s hs, hb⟩
end Go.Proofs.YtjklbhdhjfifhaaGreat

/-
  What an opened table tells of itself.
-/
namespace Go.Proofs.YtjklbhdhjfifhaaGreat
open Go.RowKit
set_option maxRecDepth 100000
set_option maxHeartbeats 4000000
theorem infoT_any {A : Nat → Prop} {B : Nat} {w : World} {t f : Nat} {nm : ByteArray} {bs : List (BitVec 8)} {K : Nat} {pl : List Plc} {flt : List (BitVec 8)} {rd : Nat} (n0 n1 n2 : Nat) (la ma : Option Addr) (lc mc : Nat) (k1 k2 : List (BitVec 8)) (lo hi : Nat)
    (h : TabT A B w t f nm bs K pl flt ⟨.int .i64 (n0 : Nat), .int .i64 (n1 : Nat), .int .i64 (n2 : Nat), .slice la k1.length lc, .slice ma k2.length mc, .int .u64 (lo : Nat), .int .u64 (hi : Nat)⟩ rd) (hb1 : Bytes w (.slice la k1.length lc) k1) (hb2 : Bytes w (.slice ma k2.length mc) k2) (hl1 : k1.length ≤ 1000000) (hl2 : k2.length ≤ 1000000) :
    Calls Tryz.prog 26 #[.pointer (some ⟨t, 0, none⟩)] w fun e w' => ∃ a1 c1 a2 c2, e = .returned (.agg #[.int .i64 (n0 : Nat), .int .i64 (n1 : Nat), .int .i64 (n2 : Nat), .slice a1 k1.length c1, .slice a2 k2.length c2, .int .u64 (lo : Nat), .int .u64 (hi : Nat)]) ∧ Turns (fun _ => False) w w' := by
  have T0 := hide ((Turns.refl (fun _ => False) w).alloc (.cells #[.int .i64 0, .int .i64 0, .int .i64 0, .slice none 0 0, .slice none 0 0, .int .u64 0, .int .u64 0] 42))
  have N0 := hide (heap_alloc_new w (.cells #[.int .i64 0, .int .i64 0, .int .i64 0, .slice none 0 0, .slice none 0 0, .int .u64 0, .int .u64 0] 42))
  have MY := hide (tmade_yes (h.quiet T0.out))
  obtain ⟨pa, fa, pc, fc, hx, _⟩ := h.ex
  have hx0 := T0.out.heap hx (fun x => x)
  have HX := hide hx0
  have B1 := hide (hb1.quiet T0.out)
  have B2 := hide (hb2.quiet T0.out)
  clear h hx hb1 hb2 hx0
  go_enter Tryz.func26, Tryz.ntmps26
  go_upto_region 1 with (fail)
  generalize w.alloc (.cells #[.int .i64 0, .int .i64 0, .int .i64 0, .slice none 0 0, .slice none 0 0, .int .u64 0, .int .u64 0] 42) = w0 at *
  generalize hN : w.heap.size = N at *
  have HN := hide hN
  clear hN
  have c2 := cell_of_row w0 t 2 _ 57 (0, 0) HX.out
  have c3 := cell_of_row w0 t 3 _ 57 (0, 0) HX.out
  have c4 := cell_of_row w0 t 4 _ 57 (0, 0) HX.out
  have c5 := cell_of_row w0 t 5 _ 57 (0, 0) HX.out
  have c6 := cell_of_row w0 t 6 _ 57 (0, 0) HX.out
  have c7 := cell_of_row w0 t 7 _ 57 (0, 0) HX.out
  have c8 := cell_of_row w0 t 8 _ 57 (0, 0) HX.out
  simp only [tabCells, List.getElem?_toArray, List.getElem?_cons_zero, List.getElem?_cons_succ] at c2 c3 c4 c5 c6 c7 c8
  go_upto_region 4 with (go_at_call 41; refine MY.out.mono ?_; rintro e w1 ⟨rfl, rfl⟩)
  obtain ⟨w2, hw2⟩ : ∃ u, u = w1.alloc (.cells #[.int .i64 (n0 : Nat), .int .i64 (n1 : Nat), .int .i64 (n2 : Nat), .slice la k1.length lc, .slice ma k2.length mc, .int .u64 (lo : Nat), .int .u64 (hi : Nat)] 42) := ⟨_, rfl⟩
  have ta : Turns (fun _ => False) w1 w2 := by rw [hw2]; exact (Turns.refl _ _).alloc _
  have G2 := hide (show w2.heap[w1.heap.size]? = some (.cells #[.int .i64 (n0 : Nat), .int .i64 (n1 : Nat), .int .i64 (n2 : Nat), .slice la k1.length lc, .slice ma k2.length mc, .int .u64 (lo : Nat), .int .u64 (hi : Nat)] 42 (0, 0)) by rw [hw2]; exact heap_alloc_new _ _)
  have HG := hide (lt_of_heap N0.out)
  rw [← hw2]
  have N2 := hide (ta.heap N0.out (fun x => x))
  have T2 := hide (T0.out.trans ta)
  have KB := hide (fun (u : World) (t : Turns (fun _ => False) w2 u) => B1.out.quiet (ta.trans t))
  have KZ := hide (fun (u : World) (t : Turns (fun _ => False) w2 u) => B2.out.quiet (ta.trans t))
  clear ta hw2 c2 c3 c4 c5 c6 c7 c8 HX MY B1 B2 N0 T0
  generalize w1.heap.size = G at *
  have SK := hide (fun (u : World) (t : Turns (fun _ => False) w2 u) => show u.cell? ⟨G, 3, none⟩ = some (.slice la k1.length lc) ∧ u.cell? ⟨G, 4, none⟩ = some (.slice ma k2.length mc) from ⟨cell_of_row u G 3 _ 42 (0, 0) (t.heap G2.out (fun x => x)), cell_of_row u G 4 _ 42 (0, 0) (t.heap G2.out (fun x => x))⟩)
  have tV : Turns (fun _ => False) w2 w2.drew := (Turns.refl _ _).drew
  refine wp_region_z_drew 7 (S := fun u => u.cell? ⟨G, 3, none⟩ = some (.slice la k1.length lc) ∧ u.cell? ⟨G, 4, none⟩ = some (.slice ma k2.length mc)) (by kernel_rfl) (SK.out _ tV) (fun _ => ?_)
  change wpAnyZ _ _ _ _ _ _ 10 (Array.replicate 10 false) _ _
  refine wpAnyZ_take (i := 0) (oi := { dst := some 13, op := Op.fieldAddr 42 (Operand.tmp 3) 3, type := 0, pos := "table.go:75", after := #[], guard := none }) (v := .pointer (some ⟨G, 3, none⟩)) rfl (by kernel_rfl) (by kernel_rfl) (by kernel_rfl) (by kernel_rfl) (fun _ _ _ h => h) (Or.inl ⟨by rfl, ?_⟩) (SK.out _ tV) ?_
  · rintro w ⟨s0, s1⟩
    go_simp
  simp only [Act.put, List.setIfInBounds_toArray, List.set_cons_zero, List.set_cons_succ]
  refine wpAnyZ_take (i := 1) (oi := { dst := some 14, op := Op.load 28 (Operand.tmp 13), type := 28, pos := "table.go:75", after := #[{ on := 0, ground := Ground.data }], guard := none }) (v := .slice la k1.length lc) rfl (by kernel_rfl) (by kernel_rfl) (by kernel_rfl) (by kernel_rfl) (fun _ _ _ h => h) (Or.inl ⟨by rfl, ?_⟩) (SK.out _ tV) ?_
  · rintro w ⟨s0, s1⟩
    go_simp
  simp only [Act.put, List.setIfInBounds_toArray, List.set_cons_zero, List.set_cons_succ]
  refine wpAnyZ_take (i := 3) (oi := { dst := some 16, op := Op.fieldAddr 42 (Operand.tmp 3) 4, type := 0, pos := "table.go:75", after := #[], guard := none }) (v := .pointer (some ⟨G, 4, none⟩)) rfl (by kernel_rfl) (by kernel_rfl) (by kernel_rfl) (by kernel_rfl) (fun _ _ _ h => h) (Or.inl ⟨by rfl, ?_⟩) (SK.out _ tV) ?_
  · rintro w ⟨s0, s1⟩
    go_simp
  simp only [Act.put, List.setIfInBounds_toArray, List.set_cons_zero, List.set_cons_succ]
  refine wpAnyZ_take (i := 4) (oi := { dst := some 17, op := Op.load 28 (Operand.tmp 16), type := 28, pos := "table.go:75", after := #[{ on := 3, ground := Ground.data }], guard := none }) (v := .slice ma k2.length mc) rfl (by kernel_rfl) (by kernel_rfl) (by kernel_rfl) (by kernel_rfl) (fun _ _ _ h => h) (Or.inl ⟨by rfl, ?_⟩) (SK.out _ tV) ?_
  · rintro w ⟨s0, s1⟩
    go_simp
  simp only [Act.put, List.setIfInBounds_toArray, List.set_cons_zero, List.set_cons_succ]
  refine wpAnyZ_ready (rs := [2]) (by kernel_rfl) (by simp) ?_
  refine AllReadyZ.cons rfl (fun K hK => ?_) AllReadyZ.nil
  go_simp
  refine (clone_any la k1.length lc k1 _ (KB.out _ tV) hl1).mono ?_
  rintro oo V1 ⟨a1, c1, rfl, _, _, _, _, bl⟩
  have tV := tV.trans (Turns.of_below bl (fun _ => False))
  clear bl
  go_simp
  refine hK.out _ _ (SK.out _ tV) (fun _ => ?_)
  clear hK K
  refine wpAnyZ_late (i := 6) (oi := { dst := some 19, op := Op.fieldAddr 42 (Operand.tmp 3) 3, type := 0, pos := "table.go:75", after := #[{ on := 0, ground := Ground.phase }, { on := 1, ground := Ground.phase }, { on := 2, ground := Ground.phase }, { on := 3, ground := Ground.phase }, { on := 4, ground := Ground.phase }, { on := 5, ground := Ground.textOnly Departure.lateStoresUnsure }], guard := none }) (v := .pointer (some ⟨G, 3, none⟩)) rfl (by kernel_rfl) (by kernel_rfl) (by kernel_rfl) (by kernel_rfl) (fun _ _ _ h => h) (Or.inl ⟨by rfl, ?_⟩) (.inr (SK.out _ tV)) ?_
  · rintro w -
    go_simp
  simp only [Act.put, List.setIfInBounds_toArray, List.set_cons_zero, List.set_cons_succ]
  refine wpAnyZ_ready (rs := [5]) (by kernel_rfl) (by simp) ?_
  refine AllReadyZ.cons rfl (fun K hK => ?_) AllReadyZ.nil
  go_simp
  refine (clone_any ma k2.length mc k2 _ (KZ.out _ tV) hl2).mono ?_
  rintro oo V2 ⟨a2, c2, rfl, _, _, _, _, bl⟩
  have tV := tV.trans (Turns.of_below bl (fun _ => False))
  clear bl
  go_simp
  refine hK.out _ _ (SK.out _ tV) (fun _ => ?_)
  clear hK K
  have TV := hide tV
  have TK := hide (((Tick.refl (tV.heap G2.out (fun x => x))).set 3 (.slice a1 k1.length c1)).set 4 (.slice a2 k2.length c2))
  have q3 := cell_of_row V2 G 3 _ 42 (0, 0) (tV.heap G2.out (fun x => x))
  have q4 := cell_of_row V2 G 4 _ 42 (0, 0) (tV.heap G2.out (fun x => x))
  have z3 := frozen_of_row V2 G 3 _ 42 (tV.heap G2.out (fun x => x))
  have z4 := frozen_of_row V2 G 4 _ 42 (tV.heap G2.out (fun x => x))
  clear tV
  refine wpAnyZ_ready (rs := [7]) (by kernel_rfl) (by simp) ?_
  refine AllReadyZ.free rfl (by kernel_rfl) (fun K hK => ?_) AllReadyZ.nil
  go_simp
  refine hK.out _ _ ?_
  clear hK K
  refine wpAnyZ_late (i := 8) (oi := { dst := some 20, op := Op.fieldAddr 42 (Operand.tmp 3) 4, type := 0, pos := "table.go:75", after := #[{ on := 0, ground := Ground.phase }, { on := 1, ground := Ground.phase }, { on := 2, ground := Ground.phase }, { on := 3, ground := Ground.phase }, { on := 4, ground := Ground.phase }, { on := 5, ground := Ground.phase }, { on := 6, ground := Ground.phase }, { on := 7, ground := Ground.phase }], guard := none }) (v := .pointer (some ⟨G, 4, none⟩)) rfl (by kernel_rfl) (by kernel_rfl) (by kernel_rfl) (by kernel_rfl) (fun _ _ _ h => h) (Or.inl ⟨by rfl, ?_⟩) (.inl (by kernel_rfl)) ?_
  · rintro w -
    go_simp
  simp only [Act.put, List.setIfInBounds_toArray, List.set_cons_zero, List.set_cons_succ]
  refine wpAnyZ_ready (rs := [9]) (by kernel_rfl) (by simp) ?_
  refine AllReadyZ.free rfl (by kernel_rfl) (fun K hK => ?_) AllReadyZ.nil
  go_simp
  refine hK.out _ _ ?_
  clear hK K
  refine wpAnyZ_done (by kernel_rfl) ?_ _
  have e0 := TK.out.cell 0
  have e1 := TK.out.cell 1
  have e2 := TK.out.cell 2
  have e3 := TK.out.cell 3
  have e4 := TK.out.cell 4
  have e5 := TK.out.cell 5
  have e6 := TK.out.cell 6
  have u3 := Turns.of_tick TK.out
  have NN := hide (u3.heap (TV.out.heap N2.out (fun x => x)) (fun e => by have h9 : N = G := e; have := HG.out; omega))
  have TT := hide (T2.out.trans TV.out)
  have U3 := hide u3
  simp at e0 e1 e2 e3 e4 e5 e6
  clear u3 TK KB KZ N2 SK
  generalize (V2.setCell ⟨G, 3, none⟩ (.slice a1 k1.length c1)).setCell ⟨G, 4, none⟩ (.slice a2 k2.length c2) = W at *
  go_wp2_with (refine wpList_store_row rfl 42 _ _ rfl _ _ rfl rfl _ _ NN.out ?_ ?_ ?_ ?_; (exact info42); (simp only [List.size_toArray, List.length_cons, List.length_nil]); (simp [Value.oneCell']))
  refine bodyPost_ret (v := .agg #[.int .i64 (n0 : Nat), .int .i64 (n1 : Nat), .int .i64 (n2 : Nat), .slice a1 k1.length c1, .slice a2 k2.length c2, .int .u64 (lo : Nat), .int .u64 (hi : Nat)]) ?_ rfl ?_
  · exact results_cell_row Tryz.results26 _ _ _ _ _ _ _ rfl (setRow_heap _ _ _ _ _ _ NN.out) Tryz.underlying42 rfl info42
  · have tS : Turns (fun j => j = N) W (W.setRow N #[.int .i64 (n0 : Nat), .int .i64 (n1 : Nat), .int .i64 (n2 : Nat), .slice a1 k1.length c1, .slice a2 k2.length c2, .int .u64 (lo : Nat), .int .u64 (hi : Nat)]) := ⟨rfl, rfl, rfl, by simp, fun k _ hk => setRow_other _ _ _ _ hk⟩
    exact ⟨a1, c1, a2, c2, rfl, (TT.out.andThen U3.out (fun k hk e => by have h9 : k = G := e; have := HG.out; have := HN.out; omega)).andThen tS (fun k hk e => by have h9 : k = N := e; have := HN.out; omega)⟩
end Go.Proofs.YtjklbhdhjfifhaaGreat

/-
  Open of what is no file system, of a name that is not there, of a file without bytes.
-/
namespace Go.Proofs.YtjklbhdhjfifhaaGreat
open Go.RowKit
set_option maxRecDepth 100000
set_option maxHeartbeats 4000000
theorem NoFs.keepT {w w' : World} {p : Option Addr} (h : NoFs w p) (t : Turns (fun _ => False) w w') : NoFs w' p := by
  rcases h with h | ⟨f, h1, h2⟩
  · exact .inl h
  · exact .inr ⟨f, h1, t.cell h2 (fun x => x)⟩
theorem sync_noT (p : Option Addr) (name : ByteArray) (w : World) (h : NoFs w p) : Calls Tryz.prog 52 #[.pointer p, .string name] w fun e w' => e = .returned (.int .i64 1) ∧ Below w.heap.size w w' :=
  sync_via p name w _ fun w1 t1 _ => (operate_no p _ _ w1 (h.keepT t1)).mono fun e w' ⟨he, hw⟩ => ⟨1, he, rfl, by rw [hw]; exact t1.below (Nat.le_refl _) (fun _ x => x.elim)⟩
theorem isNone_yes (p : Option Addr) (w : World) (h : NoFs w p) : Calls Tryz.prog 32 #[.pointer p] w fun e w' => e = .returned (.bool true) ∧ Below w.heap.size w w' := by
  have SN := hide (sync_noT p ⟨#[]⟩ w h)
  clear h
  go_enter Tryz.func32, Tryz.ntmps32
  go_wp2_with fail
  refine SN.out.mono ?_
  rintro e w1 ⟨rfl, b1⟩
  have B1 := hide b1
  clear b1 SN
  go_wp2_with fail
  go_ret
  exact ⟨rfl, B1.out⟩
theorem open_no (p : Option Addr) (name : ByteArray) (w : World) (h : NoFs w p) : Calls Tryz.prog 7 #[.pointer p, .string name] w fun e w' => e = .returned (.tuple #[.pointer none, .int .i64 1]) ∧ Below w.heap.size w w' := by
  have SN := hide (isNone_yes p w h)
  clear h
  go_enter Tryz.func7, Tryz.ntmps7
  go_wp2_with fail
  refine SN.out.mono ?_
  rintro e w1 ⟨rfl, b1⟩
  have B1 := hide b1
  clear b1 SN
  go_wp2_with fail
  go_ret2
  exact ⟨rfl, B1.out⟩
theorem isNone_rep (A : Nat → Prop) (f : Nat) (d : Disk) (w : World) (h1 : Rep A w f d) (h2 : Num d) :
    Calls Tryz.prog 32 #[.pointer (some ⟨f, 0, none⟩)] w fun e w' => e = .returned (.bool false) ∧ Rep (GrowV A w) w' f d ∧ Turns A w w' := by
  have SY := hide (sync_rep A f d ⟨#[]⟩ w h1 h2 (by decide) (fun e w' => e = .returned (.int .i64 2) ∧ Rep (GrowV A w) w' f d ∧ Turns A w w') (fun z w' hz hr tt => by
      rw [good_empty] at hz hr
      cases hz
      exact ⟨rfl, hr, tt⟩) (fun hg => by rw [good_empty] at hg; cases hg) (fun hg => by rw [good_empty] at hg; cases hg))
  clear h1 h2
  go_enter Tryz.func32, Tryz.ntmps32
  go_wp2_with fail
  refine SY.out.mono ?_
  rintro e w1 ⟨rfl, hF, tt⟩
  have HF := hide hF
  have TT := hide tt
  clear hF tt
  go_wp2_with fail
  go_ret
  exact ⟨rfl, HF.out, TT.out⟩
theorem open_none (A : Nat → Prop) (f : Nat) (d : Disk) (nm : ByteArray) (w : World) (h1 : Rep A w f d) (h2 : Num d) (hns : nm.size ≤ 64) (hno : fileOf d.names nm = none) :
    Calls Tryz.prog 7 #[.pointer (some ⟨f, 0, none⟩), .string nm] w fun e w' => e = .returned (.tuple #[.pointer none, .int .i64 6]) ∧ Turns A w w' := by
  have IN := hide (isNone_rep A f d w h1 h2)
  have SI := hide (fun (B : Nat → Prop) (u : World) (h : Rep B u f d) => size_rep B f d nm u h (Nat.le_trans hns (by decide)))
  have HS : d.size nm = -1 := by unfold Disk.size; rw [hno]
  rw [HS] at SI
  clear h1 h2 HS
  go_enter Tryz.func7, Tryz.ntmps7
  go_wp2_with fail
  refine IN.out.mono ?_
  rintro e w1 ⟨rfl, hF, tt⟩
  have HF := hide hF
  have TT := hide tt
  clear hF tt
  go_wp2_with fail
  refine (SI.out _ _ HF.out).mono ?_
  rintro e w2 ⟨rfl, rfl⟩
  go_wp2_with fail
  go_ret2
  exact ⟨rfl, TT.out⟩
end Go.Proofs.YtjklbhdhjfifhaaGreat

/-
  Open of a file without bytes.
-/
namespace Go.Proofs.YtjklbhdhjfifhaaGreat
open Go.RowKit
set_option maxRecDepth 100000
set_option maxHeartbeats 4000000
theorem load_empty (A : Nat → Prop) (t f : Nat) (nm : ByteArray) (K : Nat) (w : World) (ht : w.heap[t]? = some (.cells (tabCells f nm (.slice none 0 0) inf0 (.slice none 0 0) 0) 57 (0, 0))) (hF : FsT A w f nm [] K) (hnm : goodN nm = true) (hns : nm.size ≤ 64) (hK : K ≤ 999000) :
    Calls Tryz.prog 34 #[.pointer (some ⟨t, 0, none⟩), .int .i64 0] w fun oo w' => oo = .returned (.int .i64 4) ∧ Turns A w w' := by
  have c0 : w.cell? ⟨t, 0, none⟩ = some (.iface 83 (.agg #[.pointer (some ⟨f, 0, none⟩), .string nm])) := cell_of_row w t 0 _ 57 (0, 0) ht
  have RD := hide (fileRead_ok A f nm [] K 0 16 w hF hnm hns (by omega) (by omega) (by omega))
  clear hF ht hnm hns hK
  go_enter Tryz.func34, Tryz.ntmps34
  go_upto_region 2 with (fail)
  go_wp2_with fail
  refine RD.out.mono ?_
  rintro oo w1 ⟨v1, rfl, hf1, hF1, t1⟩
  have T1 := hide t1
  obtain ⟨a1, c1, hv1⟩ := hf1.len
  subst hv1
  have RE := hide (readEnd_short a1 0 c1 0 w1 (by decide))
  clear hf1 hF1 t1 RD c0
  rw [show (readOf ([] : List (BitVec 8)) 0 16).length = 0 from rfl]
  go_upto_region 5 with (fail)
  go_wp2_with fail
  refine RE.out.mono ?_
  rintro oo w2 ⟨rfl, rfl⟩
  go_wp2_with fail
  go_ret
  exact ⟨rfl, T1.out⟩
theorem open_empty (A : Nat → Prop) (f : Nat) (nm : ByteArray) (K : Nat) (w : World) (hF : FsT A w f nm [] K) (hnm : goodN nm = true) (hns : nm.size ≤ 64) (hK : K ≤ 999000) :
    Calls Tryz.prog 7 #[.pointer (some ⟨f, 0, none⟩), .string nm] w fun oo w' => oo = .returned (.tuple #[.pointer none, .int .i64 4]) ∧ Turns A w w' := by
  have IN := hide (isNone_no A f nm [] K w hF)
  have LD := hide (fun (A' : Nat → Prop) (t : Nat) (u : World) (ht : u.heap[t]? = some (.cells (tabCells f nm (.slice none 0 0) inf0 (.slice none 0 0) 0) 57 (0, 0))) (hF : FsT A' u f nm [] K) => load_empty A' t f nm K u ht hF hnm hns hK)
  have HSI := hide (fun (A' : Nat → Prop) (u : World) (hF : FsT A' u f nm [] K) => hF.size hns)
  simp only [List.length_nil] at HSI
  clear hF hnm hns hK
  go_enter Tryz.func7, Tryz.ntmps7
  go_wp2_with fail
  refine IN.out.mono ?_
  rintro oo w1 ⟨rfl, hF1, t1⟩
  have HF1 := hide hF1
  have T1 := hide t1
  clear hF1 t1 IN
  go_wp2_with fail
  refine (HSI.out _ _ HF1.out).mono ?_
  rintro oo w2 ⟨rfl, hw2⟩
  subst hw2
  clear HSI
  go_upto_region 7 with (fail)
  have HG := hide (show (w2.alloc (.cells (tabCells f nm (.slice none 0 0) inf0 (.slice none 0 0) 0) 57)).heap[w2.heap.size]? = some (.cells (tabCells f nm (.slice none 0 0) inf0 (.slice none 0 0) 0) 57 (0, 0)) from heap_alloc_new w2 _)
  have TA := hide ((Turns.refl (fun _ => False) w2).alloc (.cells (tabCells f nm (.slice none 0 0) inf0 (.slice none 0 0) 0) 57))
  change Code.wp _ _ _ _ (w2.alloc (.cells (tabCells f nm (.slice none 0 0) inf0 (.slice none 0 0) 0) 57))
  generalize w2.alloc (.cells (tabCells f nm (.slice none 0 0) inf0 (.slice none 0 0) 0) 57) = w3 at *
  have L3 := hide (LD.out (Cut A w w2) w2.heap.size w3 HG.out (HF1.out.quiet TA.out))
  generalize hgt : w2.heap.size = t at L3 ⊢
  have HGT := hide hgt
  clear hgt LD HG
  go_wp2_with fail
  refine L3.out.mono ?_
  rintro oo w4 ⟨rfl, t4⟩
  have X5 := hide t4
  clear t4 L3
  go_wp2_with fail
  go_ret2
  go_light
  have hs := T1.out.size
  have hg := HGT.out
  refine ⟨rfl, (T1.out.trans (TA.out.mono (fun _ _ x => x.elim))).andThen X5.out (fun k hk e => ?_)⟩
  rcases e.1 with h | h
  · exact h
  · omega
end Go.Proofs.YtjklbhdhjfifhaaGreat
