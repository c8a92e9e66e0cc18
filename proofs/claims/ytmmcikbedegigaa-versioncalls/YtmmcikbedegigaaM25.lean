import Derived.Test.YtmmcikbedegigaaM24
import Derived.Test.YtmmcikbedegigaaM17
import Derived.Test.YtmmcikbedegigaaM23
import Derived.Test.YtmmcikbedegigaaM18
/-
  The document's copies of versions.
-/
namespace Go.Proofs.Ytmmcikbedegigaa
open Go.RowKit
set_option maxRecDepth 100000
set_option maxHeartbeats 4000000
def lvCell (x : Lv) : Value := .slice x.a x.l.length x.c
/-- Lists of one's own, none of whose rows is written to. -/
structure DS (w : World) (B : Nat) (a : Option Addr) (c : Nat) (L : List Lv) : Prop where
  row : (a = none ∧ L = [] ∧ c = 0) ∨ ∃ g, a = some ⟨g, 0, none⟩ ∧ B ≤ g ∧ L.length ≤ c ∧ RowC w g 50 c (L.map lvCell)
  rows : ∀ x ∈ L, RowOk w B x.a x.c x.l
  files : ∀ x ∈ L, ∀ y ∈ x.l, FT w B y
theorem FT.off {S : Nat → Prop} {w w' : World} {B : Nat} {y : Tf} (h : FT w B y) (t : Turns S w w') (hS : ∀ k, S k → ∀ cs z, ¬ w.heap[k]? = some (.cells cs 5 z)) : FT w' B y := h.keep t fun k hk _ => hS k hk
theorem RowOk.off {S : Nat → Prop} {w w' : World} {B : Nat} {a : Option Addr} {c : Nat} {R : List Tf} (h : RowOk w B a c R) (t : Turns S w w') (hS : ∀ k, S k → ∀ cs z, ¬ w.heap[k]? = some (.cells cs 37 z)) : RowOk w' B a c R := h.keep t fun g e hs => by
  rcases h with ⟨h0, _⟩ | ⟨g', h1, _, _, cs, h2, _⟩
  · rw [h0] at e; cases e
  · rw [h1] at e; cases e; exact hS g hs cs _ h2
/-- Only blocks of other types are turned. -/
theorem DS.off {S : Nat → Prop} {w w' : World} {B : Nat} {a : Option Addr} {c : Nat} {L : List Lv} (h : DS w B a c L) (t : Turns S w w') (hS : ∀ k, S k → ∀ cs ty z, w.heap[k]? = some (.cells cs ty z) → ty ≠ 50 ∧ ty ≠ 37 ∧ ty ≠ 5) : DS w' B a c L := by
  refine ⟨?_, fun x hx => (h.rows x hx).off t fun k hk cs z hz => (hS k hk cs 37 z hz).2.1 rfl, fun x hx y hy => (h.files x hx y hy).off t fun k hk cs z hz => (hS k hk cs 5 z hz).2.2 rfl⟩
  rcases h.row with h1 | ⟨g, h1, h2, h3, h4⟩
  · exact .inl h1
  · refine .inr ⟨g, h1, h2, h3, h4.turns t fun hs => ?_⟩
    obtain ⟨cs, h5, _⟩ := h4
    exact (hS g hs cs 50 _ h5).1 rfl
theorem DS.quiet {w w' : World} {B : Nat} {a : Option Addr} {c : Nat} {L : List Lv} (h : DS w B a c L) (t : Turns (fun _ => False) w w') : DS w' B a c L := h.off t fun _ x => x.elim
theorem DS.mono {w : World} {B B' : Nat} {a : Option Addr} {c : Nat} {L : List Lv} (h : DS w B a c L) (hB : B' ≤ B) : DS w B' a c L := by
  refine ⟨?_, fun x hx => (h.rows x hx).mono hB, fun x hx y hy => (h.files x hx y hy).mono hB⟩
  rcases h.row with h1 | ⟨g, h1, h2, h3, h4⟩
  · exact .inl h1
  · exact .inr ⟨g, h1, Nat.le_trans hB h2, h3, h4⟩
theorem DS.levs {w : World} {B : Nat} {a : Option Addr} {c : Nat} {L : List Lv} (h : DS w B a c L) : Levs w a L := fun k x hx => by
  have hm := List.mem_of_getElem? hx
  refine ⟨?_, ?_⟩
  · rcases h.row with ⟨_, rfl, _⟩ | ⟨g, h1, h2, h3, cs, h4, h5, h6⟩
    · simp at hx
    · have hk := (List.getElem?_eq_some_iff.1 hx).1
      refine ⟨g, 0, h1, ?_⟩
      rw [Nat.zero_add, cell_of_row w g k cs 50 (0, 0) h4, h6 k (by rw [List.length_map]; exact hk), List.getElem?_map, hx]
      rfl
  · rcases h.rows x hm with ⟨_, e, _⟩ | ⟨g, e, _, _, hr⟩
    · rw [e]; intro k y hy; simp at hy
    · rw [e]; exact fils_of_row hr fun y hy => (h.files x hm y hy).fb
theorem info22 : Try.prog.underlying 22 = some (.slice 50) := Try.underlying22
/-- One list more. -/
theorem append_lv (w : World) (B : Nat) (a : Option Addr) (c : Nat) (L : List Lv) (h : DS w B a c L) (hB : B ≤ w.heap.size) (hlen : L.length ≤ 100000) (x : Lv) (g cy : Nat) (hg : w.heap[g]? = some (.cells #[lvCell x] 50 (0, 0))) (hr : RowOk w B x.a x.c x.l) (hf : ∀ y ∈ x.l, FT w B y) :
    ∃ (a' : Option Addr) (n' c' : Nat) (w' : World), (∀ ty, (Builtin.append_ #[22, 22] ty #[.slice a L.length c, .slice (some ⟨g, 0, none⟩) 1 cy]).run Try.prog w = .ok (.slice a' n' c') w') ∧ n' = (L ++ [x]).length ∧ DS w' B a' c' (L ++ [x]) ∧ Turns (fun j => a = some ⟨j, 0, none⟩) w w' := by
  have hsrc : Src Try.prog Try.t50.size 22 (.slice (some ⟨g, 0, none⟩) 1 cy) 1 [lvCell x] w := Src.ofSlice w Try.underlying22 ⟨g, 0, none⟩ 1 cy _ (by rw [t50_size]; rfl) (fun j u hu => by
    rw [Go.WideShapes.add_plain, Nat.zero_add, cell_of_row w g j _ 50 (0, 0) hg]
    simpa using hu) (fun u hu => by rw [List.mem_singleton.1 hu]; rfl)
  have hbase : (a = none ∧ L.length = 0 ∧ c = 0 ∧ 0 < 1) ∨ ∃ g, a = some ⟨g, 0, none⟩ ∧ B ≤ g ∧ L.length ≤ c ∧ RowC w g 50 (c * Try.t50.size) (L.map lvCell) := by
    rcases h.row with ⟨rfl, rfl, rfl⟩ | ⟨g, e, h1, h2, h3⟩
    · exact .inl ⟨rfl, rfl, rfl, by omega⟩
    · exact .inr ⟨g, e, h1, h2, by rw [t50_size, Nat.mul_one]; exact h3⟩
  obtain ⟨g', cp, w', hrr, hg', hrow, hb, hcp, hin, hnew, hkeep⟩ := append_gen2 (P := Try.prog) w B 22 50 Try.t50 _ Try.underlying22 info50 t50_zero rfl a L.length c (L.map lvCell) (by rw [t50_size]; simp) _ 1 _ hsrc hB hbase (by rw [t50_bytes]; omega) (by omega)
  have t : Turns (fun j => a = some ⟨j, 0, none⟩) w w' := ⟨hb.os, hb.tape, hb.output, hb.size, fun k hk hn => hkeep k hk hn⟩
  have hty : ∀ k, a = some ⟨k, 0, none⟩ → ∀ cs ty z, w.heap[k]? = some (.cells cs ty z) → ty = 50 := fun k e cs ty z hz => by
    rcases h.row with ⟨h0, _⟩ | ⟨g, h1, _, _, cs', h4, _⟩
    · rw [h0] at e; cases e
    · rw [h1] at e; cases e; rw [h4] at hz; cases hz; rfl
  refine ⟨some ⟨g', 0, none⟩, _, cp, w', hrr, by simp, ⟨.inr ⟨g', rfl, hg', by simpa using hcp, ?_⟩, fun y hy => ?_, fun y hy f hf' => ?_⟩, t⟩
  · rw [t50_size, Nat.mul_one] at hrow
    rw [List.map_append]
    exact hrow
  · rcases List.mem_append.1 hy with h1 | h1
    · exact (h.rows y h1).off t fun k hk cs z hz => by have := hty k hk cs 37 z hz; cases this
    · rw [List.mem_singleton.1 h1]; exact hr.off t fun k hk cs z hz => by have := hty k hk cs 37 z hz; cases this
  · rcases List.mem_append.1 hy with h1 | h1
    · exact (h.files y h1 f hf').off t fun k hk cs z hz => by have := hty k hk cs 5 z hz; cases this
    · rw [List.mem_singleton.1 h1] at hf'; exact (hf f hf').off t fun k hk cs z hz => by have := hty k hk cs 5 z hz; cases this
end Go.Proofs.Ytmmcikbedegigaa

/-
  The document's copy of a version.
-/
namespace Go.Proofs.Ytmmcikbedegigaa
open Go.RowKit
set_option maxRecDepth 100000
set_option maxHeartbeats 4000000
theorem rcopied_any (a : Option Addr) (n c next seq log : Nat) (L : List Lv) (w : World) (h : VerIn w a n L next seq log) (hn5 : n ≤ 1000) (hkl : ∀ x ∈ L, ∀ y ∈ x.l, y.f.least.length ≤ 1000000 ∧ y.f.most.length ≤ 1000000) :
    Calls Try.prog 35 #[verAgg a n c next seq log] w fun e w' => ∃ la ln lc Lc, e = .returned (verAgg la ln lc next seq log) ∧ ln = List.length Lc ∧ flL Lc = flL L ∧ DS w' w.heap.size la lc Lc ∧ Turns (fun _ => False) w w' := by
  have H := hide h
  have HKL := hide hkl
  have TA := hide ((((Turns.refl (fun _ => False) w).alloc (.cells #[.slice a n c, .int .u64 (next : Nat), .int .u64 (seq : Nat), .int .u64 (log : Nat)] 25)).alloc (.cells #[.slice none 0 0, .int .u64 0, .int .u64 0, .int .u64 0] 25)).alloc (.cells #[.slice none 0 0, .int .u64 (next : Nat), .int .u64 (seq : Nat), .int .u64 (log : Nat)] 25))
  have G0 := hide (show (((w.alloc (.cells #[.slice a n c, .int .u64 (next : Nat), .int .u64 (seq : Nat), .int .u64 (log : Nat)] 25)).alloc (.cells #[.slice none 0 0, .int .u64 0, .int .u64 0, .int .u64 0] 25)).alloc (.cells #[.slice none 0 0, .int .u64 (next : Nat), .int .u64 (seq : Nat), .int .u64 (log : Nat)] 25)).heap[w.heap.size]? = some (.cells #[.slice a n c, .int .u64 (next : Nat), .int .u64 (seq : Nat), .int .u64 (log : Nat)] 25) from ((((Turns.refl (fun _ => False) (w.alloc (.cells #[.slice a n c, .int .u64 (next : Nat), .int .u64 (seq : Nat), .int .u64 (log : Nat)] 25))).alloc (.cells #[.slice none 0 0, .int .u64 0, .int .u64 0, .int .u64 0] 25)).alloc (.cells #[.slice none 0 0, .int .u64 (next : Nat), .int .u64 (seq : Nat), .int .u64 (log : Nat)] 25)).heap (heap_alloc_new w (.cells #[.slice a n c, .int .u64 (next : Nat), .int .u64 (seq : Nat), .int .u64 (log : Nat)] 25)) (fun x => x)))
  have G1 := hide (show (((w.alloc (.cells #[.slice a n c, .int .u64 (next : Nat), .int .u64 (seq : Nat), .int .u64 (log : Nat)] 25)).alloc (.cells #[.slice none 0 0, .int .u64 0, .int .u64 0, .int .u64 0] 25)).alloc (.cells #[.slice none 0 0, .int .u64 (next : Nat), .int .u64 (seq : Nat), .int .u64 (log : Nat)] 25)).heap[w.heap.size + 1]? = some (.cells #[.slice none 0 0, .int .u64 0, .int .u64 0, .int .u64 0] 25) from (((Turns.refl (fun _ => False) ((w.alloc (.cells #[.slice a n c, .int .u64 (next : Nat), .int .u64 (seq : Nat), .int .u64 (log : Nat)] 25)).alloc (.cells #[.slice none 0 0, .int .u64 0, .int .u64 0, .int .u64 0] 25))).alloc (.cells #[.slice none 0 0, .int .u64 (next : Nat), .int .u64 (seq : Nat), .int .u64 (log : Nat)] 25)).heap (by have := heap_alloc_new (w.alloc (.cells #[.slice a n c, .int .u64 (next : Nat), .int .u64 (seq : Nat), .int .u64 (log : Nat)] 25)) (.cells #[.slice none 0 0, .int .u64 0, .int .u64 0, .int .u64 0] 25); rwa [show (w.alloc (.cells #[.slice a n c, .int .u64 (next : Nat), .int .u64 (seq : Nat), .int .u64 (log : Nat)] 25)).heap.size = w.heap.size + 1 by simp] at this) (fun x => x)))
  have G2 := hide (show (((w.alloc (.cells #[.slice a n c, .int .u64 (next : Nat), .int .u64 (seq : Nat), .int .u64 (log : Nat)] 25)).alloc (.cells #[.slice none 0 0, .int .u64 0, .int .u64 0, .int .u64 0] 25)).alloc (.cells #[.slice none 0 0, .int .u64 (next : Nat), .int .u64 (seq : Nat), .int .u64 (log : Nat)] 25)).heap[w.heap.size + 1 + 1]? = some (.cells #[.slice none 0 0, .int .u64 (next : Nat), .int .u64 (seq : Nat), .int .u64 (log : Nat)] 25) from by have := heap_alloc_new ((w.alloc (.cells #[.slice a n c, .int .u64 (next : Nat), .int .u64 (seq : Nat), .int .u64 (log : Nat)] 25)).alloc (.cells #[.slice none 0 0, .int .u64 0, .int .u64 0, .int .u64 0] 25)) (.cells #[.slice none 0 0, .int .u64 (next : Nat), .int .u64 (seq : Nat), .int .u64 (log : Nat)] 25); rwa [show ((w.alloc (.cells #[.slice a n c, .int .u64 (next : Nat), .int .u64 (seq : Nat), .int .u64 (log : Nat)] 25)).alloc (.cells #[.slice none 0 0, .int .u64 0, .int .u64 0, .int .u64 0] 25)).heap.size = w.heap.size + 1 + 1 by simp] at this)
  have hni : (n : Int) ≤ 1000 := by omega
  have HN := hide h.len
  unfold verAgg at *
  clear h hkl
  go_enter Try.func35, Try.ntmps35
  go_wp2_with fail
  generalize ((w.alloc (.cells #[.slice a n c, .int .u64 (next : Nat), .int .u64 (seq : Nat), .int .u64 (log : Nat)] 25)).alloc (.cells #[.slice none 0 0, .int .u64 0, .int .u64 0, .int .u64 0] 25)).alloc (.cells #[.slice none 0 0, .int .u64 (next : Nat), .int .u64 (seq : Nat), .int .u64 (log : Nat)] 25) = w0 at *
  generalize hP : w.heap.size = P at *
  have HP := hide hP
  clear hP
  go_loopw [4] (fun i wr => ∃ (k : Nat) (la : Option Addr) (ln lc : Nat) (Lc : List Lv), i = .int .i64 (k : Nat) ∧ k ≤ n ∧ wr.heap[P]? = some (.cells #[.slice a n c, .int .u64 (next : Nat), .int .u64 (seq : Nat), .int .u64 (log : Nat)] 25) ∧ wr.heap[P + 1]? = some (.cells #[.slice none 0 0, .int .u64 0, .int .u64 0, .int .u64 0] 25) ∧ wr.heap[P + 1 + 1]? = some (.cells #[.slice la ln lc, .int .u64 (next : Nat), .int .u64 (seq : Nat), .int .u64 (log : Nat)] 25) ∧ ln = Lc.length ∧ flL Lc = flL (L.take k) ∧ DS wr P la lc Lc ∧ Turns (fun _ => False) w wr) (fun i _ => n - (intOf i).toNat)
  case atStart => exact ⟨0, none, 0, 0, [], rfl, Nat.zero_le _, G0.out, G1.out, G2.out, rfl, by simp [flL], ⟨.inl ⟨rfl, rfl, rfl⟩, fun x hx => absurd hx (by simp), fun x hx => absurd hx (by simp)⟩, TA.out⟩
  case round =>
    obtain ⟨k, la, ln, lc, Lc, rfl, hk, g0, g1, g2, hln, hfl, hds, hb⟩ := hrel
    obtain ⟨wu, rfl⟩ : ∃ u, u = wr := ⟨wr, rfl⟩
    have HB := hide hb
    have HG0 := hide g0
    have HG1 := hide g1
    have HG2 := hide g2
    have HLN := hide hln
    have HFL := hide hfl
    have HDS := hide hds
    have v0 : wu.cell? ⟨P, 0, none⟩ = some (.slice a n c) := cell_of_row wu P 0 _ 25 (0, 0) g0
    clear hb g0 g1 g2 hln hfl hds
    by_cases hkn : k < n
    · obtain ⟨x, hx⟩ : ∃ x, L[k]? = some x := ⟨_, List.getElem?_eq_getElem (by have := HN.out; omega)⟩
      obtain ⟨⟨b, off, rfl, hcl⟩, hfb⟩ := (H.out.levs.quiet HB.out) k x hx
      have HFB := hide hfb
      have i1 : (k : Int) < (n : Int) := by omega
      have i0 : (0 : Int) ≤ (k : Int) := by omega
      have HKX := hide (HKL.out x (List.mem_of_getElem? hx))
      have HXB := hide (show x.l.length ≤ 5000 by have q1 := cnt_take_le L (k + 1); have q2 := cnt_take hx; have := H.out.cnt; omega)
      have HTK := hide (show flL (L.take (k + 1)) = flL (L.take k) ++ [fls x.l] by rw [List.take_add_one, hx]; simp [flL])
      obtain ⟨xa, xc, xl⟩ := x
      simp only at *
      generalize hXL : xl.length = XL at *
      have HXL := hide hXL
      have hxi : (XL : Int) ≤ 5000 := by have := HXB.out; omega
      clear hXL hfb hx
      go_wp2_with fail
      go_loopw [5, 6] (fun s i wq => ∃ (q : Nat) (ra : Option Addr) (rn rc : Nat) (R : List Tf), i = .int .i64 (q : Nat) ∧ s = .slice ra rn rc ∧ q ≤ XL ∧ rn = R.length ∧ RowOk wq wu.heap.size ra rc R ∧ fls R = fls (xl.take q) ∧ (∀ y ∈ R, FT wq wu.heap.size y) ∧ Turns (fun _ => False) wu wq) (fun _ i _ => XL - (intOf i).toNat)
      case atStart => exact ⟨0, none, 0, 0, [], rfl, rfl, Nat.zero_le _, rfl, .inl ⟨rfl, rfl, rfl⟩, by simp [fls], fun y hy => absurd hy (by simp), Turns.refl _ _⟩
      case round =>
        obtain ⟨q, ra, rn, rc, R, rfl, rfl, hq, hrn, hro, hfr, hfs, hb⟩ := hrel
        have HB0 := hide hb
        have HRN := hide hrn
        have HRO := hide hro
        have HFR := hide hfr
        have HFS := hide hfs
        have HRL := hide (show R.length ≤ q by
          have h1 := congrArg List.length hfr
          simp only [fls, List.length_map, List.length_take] at h1
          omega)
        have v0' := hb.cell v0 (fun x => x)
        have hcl' := hb.cell hcl (fun x => x)
        clear hb hrn hro hfr hfs
        by_cases hqn : q < XL
        · obtain ⟨y, hy⟩ : ∃ y, xl[q]? = some y := ⟨_, List.getElem?_eq_getElem (by have := HXL.out; omega)⟩
          obtain ⟨b', off', rfl, h6, hfb⟩ := fc_of (HFB.out.quiet HB0.out) hy
          have k1 : (q : Int) < XL := by omega
          have k0 : (0 : Int) ≤ q := by omega
          have hkx := HKX.out y (List.mem_of_getElem? hy)
          have HTQ := hide (show fls (xl.take (q + 1)) = fls (xl.take q) ++ [y.f] by rw [List.take_add_one, hy]; simp [fls])
          have CO := hide (rown_any y wr hfb hkx.1 hkx.2)
          obtain ⟨la2, lc2, ma2, mc2, ⟨no, sz, ls, ms, en, sq⟩⟩ := y
          obtain ⟨y0, y1, y2, y3, y4, y5⟩ := h6
          unfold Tf.agg at CO
          simp only at *
          generalize ls.length = L1 at *
          generalize ms.length = L2 at *
          clear hfb hy hkx
          go_wp2_with fail
          refine CO.out.mono ?_
          rintro e w4 ⟨y', rfl, hyf, hft, t4⟩
          have HYF := hide hyf
          have T4 := hide t4
          have HFT := hide (hft.mono (show wu.heap.size ≤ wr.heap.size from HB0.out.size))
          clear hyf hft t4
          obtain ⟨la3, lc3, ma3, mc3, ⟨no3, sz3, ls3, ms3, en3, sq3⟩⟩ := y'
          obtain ⟨a', n', c', w', hr, hn', hro', ht', _⟩ := append_fl (w4.alloc (.cells (Tf.cells ⟨la3, lc3, ma3, mc3, ⟨no3, sz3, ls3, ms3, en3, sq3⟩⟩).toArray 37)) wu.heap.size ra rc R (HRO.out.keep (T4.out.alloc _) fun _ _ x => x) (Nat.le_trans HB0.out.size (T4.out.alloc (.cells (Tf.cells ⟨la3, lc3, ma3, mc3, ⟨no3, sz3, ls3, ms3, en3, sq3⟩⟩).toArray 37)).size) (by have := HRL.out; omega) ⟨la3, lc3, ma3, mc3, ⟨no3, sz3, ls3, ms3, en3, sq3⟩⟩ w4.heap.size 1 (heap_alloc_new w4 _)
          have HFTS := hide (show ∀ y ∈ R ++ [⟨la3, lc3, ma3, mc3, ⟨no3, sz3, ls3, ms3, en3, sq3⟩⟩], FT w' wu.heap.size y from fun y hy => by
            have hS : ∀ k, ra = some ⟨k, 0, none⟩ → wu.heap.size ≤ k → ∀ cs z, ¬ (w4.alloc (.cells (Tf.cells ⟨la3, lc3, ma3, mc3, ⟨no3, sz3, ls3, ms3, en3, sq3⟩⟩).toArray 37)).heap[k]? = some (.cells cs 5 z) := fun k e _ cs z hz => (HRO.out.keep (T4.out.alloc _) fun _ _ x => x).ne hz (by decide) k e rfl
            rcases List.mem_append.1 hy with h | h
            · exact ((HFS.out y h).quiet (T4.out.alloc _)).keep ht' hS
            · rw [List.mem_singleton.1 h]; exact (HFT.out.quiet ((Turns.refl _ _).alloc _)).keep ht' hS)
          have HT5 := hide (turns_in (HB0.out.trans (T4.out.alloc _)) rfl (HRO.out.keep (T4.out.alloc _) fun _ _ x => x) ht')
          rw [← HRN.out] at hr
          have HR5 := hide hr
          have HN5 := hide hn'
          have HRO5 := hide hro'
          clear hr hn' hro' ht'
          unfold Tf.agg at *
          simp only [Tf.cells, Tf.lv, Tf.mv] at *
          go_wp2_with (at_builtin; refine wpList_append_run rfl _ _ 50 rfl (.slice ra rn rc) (.slice (some ⟨w4.heap.size, 0, none⟩) 1 1) rfl rfl _ _ (HR5.out _) ?_)
          go_roundw
          case rel =>
            refine ⟨q + 1, a', n', c', _, by go_num, rfl, by omega, HN5.out, HRO5.out, ?_, HFTS.out, HT5.out⟩
            rw [HTQ.out, ← HFR.out]
            simp only [fls, List.map_append, List.map_cons, List.map_nil]
            rw [HYF.out]
          case measure => simp [intOf]; omega
        · obtain rfl : q = XL := by omega
          have htk : xl.take q = xl := List.take_of_length_le (by have := HXL.out; omega)
          rw [htk] at HFR
          have r2 := HB0.out.heap HG2.out (fun x => x)
          have e0 := cell_of_row wr (P + 1 + 1) 0 _ 25 (0, 0) r2
          have hsz : P ≤ wu.heap.size := by have := HB.out.size; have := HP.out; omega
          have HRB := hide (HRO.out.mono hsz)
          obtain ⟨a', n', c', w', hr, hn', hds', ht'⟩ := append_lv (wr.alloc (.cells #[.slice ra rn rc] 50)) P la lc Lc (HDS.out.quiet (HB0.out.alloc _)) (Nat.le_trans hsz (HB0.out.alloc (.cells #[.slice ra rn rc] 50)).size) (by
              have h1 := congrArg List.length HFL.out
              simp only [flL, List.length_map, List.length_take] at h1
              omega) ⟨ra, rc, R⟩ wr.heap.size 1 (by unfold lvCell; simp only; rw [← HRN.out]; exact heap_alloc_new wr _) (HRB.out.keep ((Turns.refl (fun _ => False) wr).alloc _) fun _ _ x => x) (fun y hy => ((HFS.out y hy).mono hsz).quiet ((Turns.refl _ _).alloc _))
          rw [← HLN.out] at hr
          have hne : ∀ (p : Nat) (cs : Array Value) (zz : Nat × Nat), (wr.alloc (.cells #[.slice ra rn rc] 50)).heap[p]? = some (.cells cs 25 zz) → ¬ la = some ⟨p, 0, none⟩ := fun p cs zz hp e => by
            rcases HDS.out.row with ⟨h0, _⟩ | ⟨g, h1, _, _, cs', h4, _⟩
            · rw [h0] at e; cases e
            · rw [h1] at e; cases e
              have := (HB0.out.alloc (.cells #[.slice ra rn rc] 50)).heap h4 (fun x => x)
              rw [this] at hp; cases hp
          have tt := HB0.out.alloc (.cells #[.slice ra rn rc] 50)
          have s0 := tt.heap HG0.out (fun x => x)
          have s1 := tt.heap HG1.out (fun x => x)
          have s2 := tt.heap HG2.out (fun x => x)
          have u0 := ht'.heap s0 (hne P _ _ s0)
          have u1 := ht'.heap s1 (hne (P + 1) _ _ s1)
          have u2 := ht'.heap s2 (hne (P + 1 + 1) _ _ s2)
          have q0 := cell_of_row w' (P + 1 + 1) 0 _ 25 (0, 0) u2
          have z0 := frozen_of_row w' (P + 1 + 1) 0 _ 25 u2
          have K1 := hide ((Tick.refl u2).set 0 (.slice a' n' c'))
          have U0 := hide u0
          have U2 := hide u2
          have U1 := hide u1
          have HR5 := hide hr
          have HN5 := hide hn'
          have HDS5 := hide hds'
          have HTW := hide (show Turns (fun _ => False) w w' from by
            refine turns_new ((((HB.out.trans tt).mono (S' := fun j => w.heap.size ≤ j) fun _ _ (x : False) => x.elim)).trans (ht'.mono fun k _ e => ?_))
            have hpp := HP.out
            rcases HDS.out.row with ⟨h0, _⟩ | ⟨g, h1, h2, _⟩
            · rw [h0] at e; cases e
            · rw [h1] at e; cases e; omega)
          clear hr hn' hds' ht' hne tt s0 s1 s2 u0 u1 u2 r2 htk
          go_wp2_with (at_builtin; refine wpList_append_run rfl _ _ 22 rfl (.slice la ln lc) (.slice (some ⟨wr.heap.size, 0, none⟩) 1 1) rfl rfl _ _ (HR5.out _) ?_)
          have KK := K1.out
          have TK := Turns.of_tick KK
          generalize w'.setCell ⟨P + 1 + 1, 0, none⟩ (.slice a' n' c') = w6 at *
          go_roundw
          case rel =>
            have hne1 : ∀ k, k = P + 1 + 1 → ∀ cs ty z, w'.heap[k]? = some (.cells cs ty z) → ty ≠ 50 ∧ ty ≠ 37 ∧ ty ≠ 5 := fun k e cs ty z hz => by
              rw [e, U2.out] at hz
              cases hz
              decide
            refine ⟨k + 1, a', n', c', _, by go_num, by omega, TK.heap U0.out (by omega), TK.heap U1.out (by omega), KK.1, HN5.out, ?_, HDS5.out.off TK hne1, ?_⟩
            · rw [HTK.out, ← HFL.out, ← HFR.out]
              simp [flL]
            · exact HTW.out.andThen TK (fun j hj e => by have := HP.out; omega)
          case measure => simp [intOf]; omega
    · obtain rfl : k = n := by omega
      have ht : L.take k = L := List.take_of_length_le (by have := HN.out; omega)
      rw [ht] at HFL
      have o0 := cell_of_row wu (P + 1 + 1) 0 _ 25 (0, 0) HG2.out
      have o1 := cell_of_row wu (P + 1 + 1) 1 _ 25 (0, 0) HG2.out
      have o2 := cell_of_row wu (P + 1 + 1) 2 _ 25 (0, 0) HG2.out
      have o3 := cell_of_row wu (P + 1 + 1) 3 _ 25 (0, 0) HG2.out
      have r0 := cell_of_row wu (P + 1) 0 _ 25 (0, 0) HG1.out
      have r1 := cell_of_row wu (P + 1) 1 _ 25 (0, 0) HG1.out
      have r2 := cell_of_row wu (P + 1) 2 _ 25 (0, 0) HG1.out
      have r3 := cell_of_row wu (P + 1) 3 _ 25 (0, 0) HG1.out
      have z0 := frozen_of_row wu (P + 1) 0 _ 25 HG1.out
      have z1 := frozen_of_row wu (P + 1) 1 _ 25 HG1.out
      have z2 := frozen_of_row wu (P + 1) 2 _ 25 HG1.out
      have z3 := frozen_of_row wu (P + 1) 3 _ 25 HG1.out
      clear ht
      go_wp2_with fail
      have k3 := (((((Tick.refl HG1.out).set 0 (.slice la ln lc)).set 1 (.int .u64 (next : Nat))).set 2 (.int .u64 (seq : Nat))).set 3 (.int .u64 (log : Nat)))
      have u3 := Turns.of_tick k3
      have hpp := HP.out
      refine bodyPost_ret (v := .agg #[.slice la ln lc, .int .u64 (next : Nat), .int .u64 (seq : Nat), .int .u64 (log : Nat)]) ?_ rfl ?_
      · exact results_cell_row Try.results35 _ _ _ _ _ _ _ rfl k3.1 Try.underlying25 rfl sz25
      · refine ⟨la, ln, lc, Lc, rfl, HLN.out, HFL.out, (HDS.out.off u3 fun j e cs ty z hz => ?_).mono (by omega), HB.out.andThen u3 (fun j hj e => by omega)⟩
        rw [e, HG1.out] at hz
        cases hz
        decide
end Go.Proofs.Ytmmcikbedegigaa

/-
  The document's Apply: how the memory stands while it goes.
-/
namespace Go.Proofs.Ytmmcikbedegigaa
open Go.RowKit
set_option maxRecDepth 100000
set_option maxHeartbeats 4000000
/-- A row of cells in which one is put anew. -/
theorem rowC_set {w : World} {g e n k : Nat} {cs : List Value} {v : Value} (h : RowC w g e n cs) (hk : k < cs.length) : RowC (w.setCell ⟨g, k, none⟩ v) g e n (cs.set k v) := by
  obtain ⟨A, h1, h2, h3⟩ := h
  refine ⟨A.setIfInBounds k v, heap_setCell_same w g k A e v h1, by simpa using h2, fun j hj => ?_⟩
  rw [List.length_set] at hj
  by_cases hjk : j = k
  · subst hjk
    have : j < A.size := by
      have := h3 j hj
      rw [List.getElem?_eq_getElem hj] at this
      exact (Array.getElem?_eq_some_iff.1 this).1
    simp [hj, this]
  · rw [Array.getElem?_setIfInBounds_ne (Ne.symm hjk), h3 j hj, List.getElem?_set_ne (Ne.symm hjk)]
/-- A list that is put in the place of another one. -/
theorem DS.put {w : World} {B g c k : Nat} {L : List Lv} (h : DS w B (some ⟨g, 0, none⟩) c L) (hk : k < L.length) (x : Lv) (hr : RowOk w B x.a x.c x.l) (hf : ∀ y ∈ x.l, FT w B y) : DS (w.setCell ⟨g, k, none⟩ (lvCell x)) B (some ⟨g, 0, none⟩) c (L.set k x) := by
  rcases h.row with ⟨h0, _⟩ | ⟨g', h1, h2, h3, h4⟩
  · cases h0
  · cases h1
    obtain ⟨A, h5, h6, h7⟩ := h4
    have t : Turns (fun j => j = g) w (w.setCell ⟨g, k, none⟩ (lvCell x)) := Turns.of_tick ((Tick.refl h5).set k (lvCell x))
    have n37 : ∀ j, j = g → ∀ cs z, ¬ w.heap[j]? = some (.cells cs 37 z) := fun j e cs z hz => by rw [e, h5] at hz; cases hz
    have n5 : ∀ j, j = g → ∀ cs z, ¬ w.heap[j]? = some (.cells cs 5 z) := fun j e cs z hz => by rw [e, h5] at hz; cases hz
    refine ⟨.inr ⟨g, rfl, h2, by rw [List.length_set]; exact h3, ?_⟩, fun y hy => ?_, fun y hy f hf' => ?_⟩
    · rw [List.map_set]
      exact rowC_set ⟨A, h5, h6, h7⟩ (by rw [List.length_map]; exact hk)
    · rcases List.mem_or_eq_of_mem_set hy with h8 | rfl
      · exact (h.rows y h8).off t n37
      · exact hr.off t n37
    · rcases List.mem_or_eq_of_mem_set hy with h8 | rfl
      · exact (h.files y h8 f hf').off t n5
      · exact (hf f hf').off t n5
theorem flL_set (L : List Lv) (k : Nat) (x : Lv) : flL (L.set k x) = (flL L).set k (fls x.l) := by simp [flL, List.map_set]
/-- How the memory stands while Apply goes. -/
structure Az (w wr : World) (O : Nat) (ecs : Array Value) (la : Option Addr) (lc : Nat) (v1 v2 v3 : Value) (Lc : List Lv) : Prop where
  he : wr.heap[w.heap.size + 1]? = some (.cells ecs 33 (0, 0))
  hz : wr.heap[w.heap.size + 1 + 1]? = some (.cells #[.slice none 0 0, .int .u64 0, .int .u64 0, .int .u64 0] 25 (0, 0))
  ho : wr.heap[O]? = some (.cells #[.slice la 5 lc, v1, v2, v3] 25 (0, 0))
  hO : w.heap.size + 1 + 1 < O
  ds : DS wr w.heap.size la lc Lc
  len : Lc.length = 5
  tw : Turns (fun _ => False) w wr
theorem Az.quiet {w wr wr' : World} {O : Nat} {ecs : Array Value} {la : Option Addr} {lc : Nat} {v1 v2 v3 : Value} {Lc : List Lv} (h : Az w wr O ecs la lc v1 v2 v3 Lc) (t : Turns (fun _ => False) wr wr') : Az w wr' O ecs la lc v1 v2 v3 Lc :=
  ⟨t.heap h.he (fun x => x), t.heap h.hz (fun x => x), t.heap h.ho (fun x => x), h.hO, h.ds.quiet t, h.len, h.tw.trans t⟩
theorem Az.base {w wr : World} {O : Nat} {ecs : Array Value} {la : Option Addr} {lc : Nat} {v1 v2 v3 : Value} {Lc : List Lv} (h : Az w wr O ecs la lc v1 v2 v3 Lc) : ∃ g, la = some ⟨g, 0, none⟩ ∧ w.heap.size ≤ g ∧ 5 ≤ lc ∧ ∃ cs : Array Value, wr.heap[g]? = some (.cells cs 50 (0, 0)) := by
  rcases h.ds.row with ⟨_, h0, _⟩ | ⟨g, h1, h2, h3, cs, h4, _⟩
  · have := h.len; rw [h0] at this; simp at this
  · exact ⟨g, h1, h2, by have := h.len; omega, cs, h4⟩
theorem Az.put {w wr : World} {O g k : Nat} {ecs : Array Value} {lc : Nat} {v1 v2 v3 : Value} {Lc : List Lv} (h : Az w wr O ecs (some ⟨g, 0, none⟩) lc v1 v2 v3 Lc) (hk : k < 5) (x : Lv) (hr : RowOk wr w.heap.size x.a x.c x.l) (hf : ∀ y ∈ x.l, FT wr w.heap.size y) : Az w (wr.setCell ⟨g, k, none⟩ (lvCell x)) O ecs (some ⟨g, 0, none⟩) lc v1 v2 v3 (Lc.set k x) := by
  obtain ⟨g', e, hg, _, cs, hc⟩ := h.base
  cases e
  have t : Turns (fun j => j = g) wr (wr.setCell ⟨g, k, none⟩ (lvCell x)) := Turns.of_tick ((Tick.refl hc).set k (lvCell x))
  have hne : ∀ {p : Nat} {cs' : Array Value} {ty : TypeId} {z : Nat × Nat}, wr.heap[p]? = some (.cells cs' ty z) → ty ≠ 50 → ¬ p = g := fun hp h1 e => by rw [e, hc] at hp; cases hp; exact h1 rfl
  exact ⟨t.heap h.he (hne h.he (by decide)), t.heap h.hz (hne h.hz (by decide)), t.heap h.ho (hne h.ho (by decide)), h.hO, h.ds.put (by rw [h.len]; exact hk) x hr hf, by rw [List.length_set]; exact h.len, h.tw.andThen t fun j hj e => by omega⟩
/-- What the document's Apply answers. -/
def RApplied (w' : World) (LL : List (List Fl)) (next seq log : Nat) (D : List (Int × Nat)) (A : List AddF) (en es el : Nat) (e : Ending) : Prop :=
  ∃ (v : Value) (er : Int) (r : Option (List (List Fl))), e = .returned (.tuple #[v, .int .i64 er]) ∧ ApplyR LL next seq log D A en es el r er ∧ (r = none → v = zeroVer) ∧ (∀ LL', r = some LL' → ∃ a c L', v = verAgg a 5 c en es el ∧ flL L' = LL' ∧ Levs w' a L' ∧ L'.length = 5)
end Go.Proofs.Ytmmcikbedegigaa

/-
  The document's Overlap, Bytes, Deepest, Whole; whether a number stands anywhere.
-/
namespace Go.Proofs.Ytmmcikbedegigaa
open Go.RowKit
set_option maxRecDepth 100000
set_option maxHeartbeats 4000000
theorem ranywhere_any (a : Option Addr) (n c next seq log no : Nat) (L : List Lv) (w : World) (h : Levs w a L) (hn : n = L.length) (hmx : n ≤ 1000) (hc : cnt L ≤ 100000) :
    Calls Try.prog 37 #[verAgg a n c next seq log, .int .u64 (no : Nat)] w fun e w' => ∃ r : Bool, e = .returned (.bool r) ∧ (r = true ↔ no ∈ numsF (flL L)) ∧ Turns (fun _ => False) w w' := by
  have H := hide h
  have HL := hide hn
  have HC := hide hc
  have hni : (n : Int) ≤ 1000 := by omega
  have TA := hide ((Turns.refl (fun _ => False) w).alloc (.cells #[.slice a n c, .int .u64 (next : Nat), .int .u64 (seq : Nat), .int .u64 (log : Nat)] 25))
  have R0 := hide (heap_alloc_new w (.cells #[.slice a n c, .int .u64 (next : Nat), .int .u64 (seq : Nat), .int .u64 (log : Nat)] 25))
  unfold verAgg
  clear h hn hc
  go_enter Try.func37, Try.ntmps37
  go_wp2_with fail
  generalize w.alloc (.cells #[.slice a n c, .int .u64 (next : Nat), .int .u64 (seq : Nat), .int .u64 (log : Nat)] 25) = w0 at *
  generalize w.heap.size = P at *
  go_loopw [5] (fun i wr => ∃ k : Nat, i = .int .i64 (k : Nat) ∧ k ≤ n ∧ (∀ (t : Nat) (x : Lv) (y : Tf), t < k → L[t]? = some x → y ∈ x.l → y.f.no ≠ no) ∧ wr = w0) (fun i _ => n - (intOf i).toNat)
  case atStart => exact ⟨0, rfl, Nat.zero_le _, fun t x y ht => absurd ht (Nat.not_lt_zero _), rfl⟩
  case round =>
    obtain ⟨k, rfl, hk, hno, rfl⟩ := hrel
    have HN := hide hno
    have v0 : wr.cell? ⟨P, 0, none⟩ = some (.slice a n c) := cell_of_row wr P 0 _ 25 (0, 0) R0.out
    clear hno
    by_cases hkn : k < n
    · obtain ⟨x, hx⟩ : ∃ x, L[k]? = some x := ⟨_, List.getElem?_eq_getElem (by have := HL.out; omega)⟩
      obtain ⟨⟨b, off, rfl, hcl⟩, hfb⟩ := (H.out.quiet TA.out) k x hx
      have i1 : (k : Int) < (n : Int) := by omega
      have i0 : (0 : Int) ≤ (k : Int) := by omega
      have HX := hide hx
      have CP := hide (rplace_any x.a x.l.length x.c no x.l wr hfb rfl (by have q1 := cnt_take_le L (k + 1); have q2 := cnt_take hx; have := HC.out; omega))
      obtain ⟨xa, xc, xl⟩ := x
      simp only at *
      clear hfb hx
      generalize hXL : xl.length = XL at *
      clear hXL
      go_wp2_with fail
      refine CP.out.mono ?_
      rintro e w1 ⟨⟨q, y, rfl, hy, hyn⟩ | ⟨rfl, hyn⟩, rfl⟩
      · have HY := hide hy
        have HYN := hide hyn
        clear hy hyn
        have q0 : (0 : Int) ≤ (q : Int) := by omega
        go_wp2_with fail
        go_ret
        exact ⟨true, rfl, ⟨fun _ => numsF_mem.2 ⟨k, fls xl, y.f, flL_at HX.out, List.mem_map.2 ⟨y, List.mem_of_getElem? HY.out, rfl⟩, HYN.out⟩, fun _ => rfl⟩, TA.out⟩
      · have HYN := hide hyn
        clear hyn
        go_wp2_with fail
        go_roundw
        case rel =>
          refine ⟨k + 1, by go_num, by omega, fun t x' y ht hx' hy => ?_, trivial⟩
          rcases Nat.lt_or_ge t k with h | h
          · exact HN.out t x' y h hx' hy
          · obtain rfl : t = k := by omega
            rw [HX.out] at hx'
            cases hx'
            exact HYN.out y hy
        case measure => simp [intOf]; omega
    · obtain rfl : k = n := by omega
      go_wp2_with fail
      go_ret
      refine ⟨false, rfl, ⟨fun h => Bool.noConfusion h, fun h => ?_⟩, TA.out⟩
      obtain ⟨t, l, f, h1, h2, h3⟩ := numsF_mem.1 h
      simp only [flL, List.getElem?_map, Option.map_eq_some_iff] at h1
      obtain ⟨x, hx, rfl⟩ := h1
      obtain ⟨y, hy, rfl⟩ := List.mem_map.1 h2
      exact absurd h3 (HN.out t x y (by have := HL.out; have := (List.getElem?_eq_some_iff.1 hx).1; omega) hx hy)
theorem filesF_bad {LL : List (List Fl)} {next seq log : Nat} {z : Int} (h : wrongVF LL next seq log = true ∨ goodLev z = false) : filesF LL next seq log z = [] := by
  unfold filesF
  rw [if_neg]
  rcases h with h | h <;> simp [h]
theorem filesF_at {L : List Lv} {next seq log : Nat} {z : Int} {x : Lv} (h : wrongV L next seq log = false) (hg : goodLev z = true) (hx : L[z.toNat]? = some x) : filesF (flL L) next seq log z = fls x.l := by
  unfold filesF
  rw [← wrongV_F, h, hg]
  simp [List.getD, flL_at hx]
theorem rBytes_any (a : Option Addr) (n c next seq log : Nat) (L : List Lv) (z : Int) (w : World) (h : VerIn w a n L next seq log) :
    Calls Try.prog 24 #[verAgg a n c next seq log, .int .i64 z] w fun e w' => e = .returned (.int .i64 (sizesF (filesF (flL L) next seq log z))) ∧ Turns (fun _ => False) w w' := by
  have TA := hide ((Turns.refl (fun _ => False) w).alloc (.cells #[.slice a n c, .int .u64 (next : Nat), .int .u64 (seq : Nat), .int .u64 (log : Nat)] 25))
  have R0 := hide (heap_alloc_new w (.cells #[.slice a n c, .int .u64 (next : Nat), .int .u64 (seq : Nat), .int .u64 (log : Nat)] 25))
  have CK := hide (rcheck_any a n c next seq log L _ (h.quiet TA.out))
  have H := hide h
  have Z0 := hide (fun (q : wrongVF (flL L) next seq log = true ∨ goodLev z = false) => show Value.int .i64 0 = .int .i64 (sizesF (filesF (flL L) next seq log z)) by rw [filesF_bad q]; rfl)
  unfold verAgg at *
  clear h
  by_cases hw : wrongV L next seq log = true
  · rw [show chkV L next seq log = 2 by unfold chkV; rw [if_pos hw]] at CK
    have RR := hide (congrArg Ending.returned (Z0.out (.inl (by rw [← wrongV_F]; exact hw))))
    clear hw
    generalize sizesF (filesF (flL L) next seq log z) = CV at *
    go_enter Try.func24, Try.ntmps24
    go_wp2_with fail
    refine CK.out.mono ?_
    rintro e w1 ⟨rfl, t1⟩
    have T1 := hide (TA.out.trans t1)
    clear t1
    go_wp2_with fail
    go_ret
    exact ⟨RR.out, T1.out⟩
  rw [Bool.not_eq_true] at hw
  rw [show chkV L next seq log = 0 by unfold chkV; rw [if_neg (by rw [hw]; simp)]] at CK
  by_cases hg : goodLev z = true
  · obtain ⟨lev, rfl⟩ : ∃ lev : Nat, z = lev := ⟨z.toNat, by unfold goodLev at hg; simp at hg; omega⟩
    have hl5 : lev < 5 := by unfold goodLev at hg; simp at hg; omega
    have h5 : L.length = 5 := by rw [wrongV_F] at hw; have := len_of_ok hw; rwa [flL_length] at this
    obtain rfl : n = 5 := by have := H.out.len; omega
    obtain ⟨x, hx⟩ : ∃ x, L[lev]? = some x := ⟨_, List.getElem?_eq_getElem (by omega)⟩
    have HFF := hide (filesF_at hw hg (by simpa using hx))
    have HWF := hide (wrongV_files hw x (List.mem_of_getElem? hx))
    have i5 : (lev : Int) < 5 := by omega
    have i0 : (0 : Int) ≤ (lev : Int) := by omega
    have HX := hide hx
    have HXB := hide (show x.l.length ≤ 5000 by have q1 := cnt_take_le L (lev + 1); have q2 := cnt_take hx; have := H.out.cnt; omega)
    clear hw hg hx h5 Z0
    generalize filesF (flL L) next seq log (lev : Int) = FF at *
    go_enter Try.func24, Try.ntmps24
    go_wp2_with fail
    refine CK.out.mono ?_
    rintro e w1 ⟨rfl, t1⟩
    have T1 := hide t1
    clear t1
    go_wp2_with fail
    generalize w.alloc (.cells #[.slice a 5 c, .int .u64 (next : Nat), .int .u64 (seq : Nat), .int .u64 (log : Nat)] 25) = w0 at *
    generalize w.heap.size = P at *
    go_loopw [5, 6] (fun s i wr => ∃ (k : Nat) (t : Int), i = .int .i64 (k : Nat) ∧ s = .int .i64 t ∧ k ≤ x.l.length ∧ t = ((x.l.take k).map fun y => y.f.size).sum ∧ (0 ≤ t ∧ t ≤ k * 16777216) ∧ Turns (fun _ => False) w0 wr) (fun _ i _ => x.l.length - (intOf i).toNat)
    case atStart => exact ⟨0, 0, rfl, rfl, Nat.zero_le _, by simp, by simp, T1.out⟩
    case round =>
      obtain ⟨k, t, rfl, rfl, hk, ht, h01, hb⟩ := hrel
      have HB := hide (TA.out.trans hb)
      have HB0 := hide hb
      have HTT := hide ht
      have v0 : wr.cell? ⟨P, 0, none⟩ = some (.slice a 5 c) := hb.cell (cell_of_row w0 P 0 _ 25 (0, 0) R0.out) (fun x => x)
      obtain ⟨⟨b, off, rfl, hcl⟩, hfb⟩ := (H.out.levs.quiet HB.out) lev x HX.out
      have HFB := hide hfb
      clear hb ht hfb
      obtain ⟨xa, xc, xl⟩ := x
      simp only at *
      generalize hXL : xl.length = XL at *
      have HXL := hide hXL
      have hxi : (XL : Int) ≤ 5000 := by have := HXB.out; omega
      clear hXL
      by_cases hkn : k < XL
      · obtain ⟨y, hy⟩ : ∃ y, xl[k]? = some y := ⟨_, List.getElem?_eq_getElem (by have := HXL.out; omega)⟩
        obtain ⟨b', off', rfl, h6, hfb⟩ := fc_of HFB.out hy
        have i1 : (k : Int) < XL := by omega
        have j0 : (0 : Int) ≤ k := by omega
        obtain ⟨v1, v2, v3, v4, _⟩ := wrongF_false (HWF.out y (List.mem_of_getElem? hy))
        have HNX := hide (show ((xl.take (k + 1)).map fun y => y.f.size).sum = t + y.f.size by rw [List.take_add_one, hy, HTT.out]; simp [List.sum_append])
        have y1 := h6.c1
        generalize hsz : y.f.size = sz at *
        have hb1 : t + sz ≤ 9223372036854775807 := by omega
        have hb0 : 0 ≤ t + sz := by omega
        have HK2 := hide (show t + sz ≤ ((k + 1 : Nat) : Int) * 16777216 by omega)
        clear hfb hy v1 v2 hsz h6 h01
        go_wp2_with fail
        go_roundw
        case rel => exact ⟨k + 1, t + sz, by go_num, by go_num, by omega, HNX.out.symm, ⟨by omega, HK2.out⟩, HB0.out⟩
        case measure => simp [intOf]; omega
      · obtain rfl : k = XL := by omega
        have htk : xl.take k = xl := List.take_of_length_le (by have := HXL.out; omega)
        rw [htk] at HTT
        clear htk h01
        go_wp2_with fail
        go_ret
        exact ⟨congrArg Ending.returned (congrArg (Value.int .i64) (by rw [HTT.out, HFF.out]; unfold sizesF fls; rw [List.map_map]; rfl)), HB.out⟩
  · rw [Bool.not_eq_true] at hg
    have RR := hide (congrArg Ending.returned (Z0.out (.inr hg)))
    have hgz : z < 0 ∨ 5 ≤ z := by unfold goodLev at hg; simp at hg; omega
    clear hg hw
    generalize sizesF (filesF (flL L) next seq log z) = CV at *
    by_cases hz : z < 0
    · clear hgz
      go_enter Try.func24, Try.ntmps24
      go_wp2_with fail
      refine CK.out.mono ?_
      rintro e w1 ⟨rfl, t1⟩
      have T1 := hide (TA.out.trans t1)
      clear t1
      go_wp2_with fail
      go_ret
      exact ⟨RR.out, T1.out⟩
    · have hz5 : 5 ≤ z := by omega
      clear hgz
      go_enter Try.func24, Try.ntmps24
      go_wp2_with fail
      refine CK.out.mono ?_
      rintro e w1 ⟨rfl, t1⟩
      have T1 := hide (TA.out.trans t1)
      clear t1
      go_wp2_with fail
      go_ret
      exact ⟨RR.out, T1.out⟩
end Go.Proofs.Ytmmcikbedegigaa
