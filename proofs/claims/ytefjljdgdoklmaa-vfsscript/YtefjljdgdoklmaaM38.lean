import Derived.Test.YtefjljdgdoklmaaM13
import Derived.Lib.SlBytesConst
import Derived.Laws.IdiomStrings
import Derived.Test.YtefjljdgdoklmaaM36
import Derived.Test.YtefjljdgdoklmaaM37
/-
  The chapter's first examples come out as it tells.
-/
namespace Go.Proofs.Ytefjljdgdoklmaa
open Go.RowKit Go.Maps

/-- Bytes in a new row. -/
theorem Bytes.new (w : World) (cs : Array Value) (t c : Nat) (fr : Nat × Nat) (bs : List (BitVec 8)) (h : cs = (bs.map fun b => Value.int .u8 (b.toNat : Int)).toArray) :
    Bytes (w.alloc (.cells cs t fr)) (.slice (some ⟨w.heap.size, 0, none⟩) bs.length c) bs :=
  ⟨_, c, rfl, fun k hk => ⟨w.heap.size, 0, rfl, by
    rw [Nat.zero_add, cell_of_row _ _ k cs t fr (heap_alloc_new w _), h]
    simp [hk]⟩⟩
theorem conv28 (C : Array Value) (n c : Nat) (w : World) : (convert 28 28 (.slice (some ⟨w.heap.size, 0, none⟩) n c)).run Try.prog (w.alloc (.cells C 5)) = .ok (.slice (some ⟨w.heap.size, 0, none⟩) n c) (w.alloc (.cells C 5 (C.size, C.size + 1))) :=
  Lib.run_convert_bytes_const w 28 5 C n c Try.underlying28 Try.underlying5
theorem One.keep {B : Nat} {w w' : World} {f g : Nat} {name : ByteArray} {l : List Chg} {S : DataW Unit} {bytes : List (BitVec 8)} {s0 : Nat} {limit used lost ops : Int} (h : One B w f g name l S bytes s0 limit used lost ops) (t : Turns (fun _ => False) w w') : One B w' f g name l S bytes s0 limit used lost ops := by
  obtain ⟨fB, gB, bn, bs, nn, ns, ch, fv, hf, hd, hs, hch, hg, hown, hne, b1, b2, b3, b4, m1, m2⟩ := h
  exact ⟨fB, gB, bn, bs, nn, ns, ch, fv, t.heap hf (fun x => x), hd.keep t (fun x => x), hs.keep t (fun x => x), hch.keep t (fun _ _ x => x), t.heap hg (fun x => x), hown.keep t (fun _ _ x => x), hne, b1, b2, b3, b4, m1, m2⟩
theorem One.lt {B : Nat} {w : World} {f g : Nat} {name : ByteArray} {l : List Chg} {S : DataW Unit} {bytes : List (BitVec 8)} {s0 : Nat} {limit used lost ops : Int} (h : One B w f g name l S bytes s0 limit used lost ops) : f < w.heap.size := by
  obtain ⟨fB, gB, bn, bs, nn, ns, ch, fv, hf, _⟩ := h
  exact lt_of_heap hf
def nA : ByteArray := ⟨#[97]⟩
def nB : ByteArray := ⟨#[98]⟩
theorem goodA : goodN nA = true := by decide +kernel
theorem other_file (g : Nat) : fileOf (one nA g) nB = none := by
  have : (one nA g).atKey (key nB) .nil = .nil := by
    simp [one, DataW.atKey, key, Lit.sameKey, nA, nB]
  unfold fileOf
  rw [this]

set_option maxRecDepth 100000 in
set_option maxHeartbeats 4000000 in
theorem lives_any (w : World) :
    Calls Try.prog 21 #[] w fun e w' => e = .returned (.bool true) ∧ Below w.heap.size w w' := by
  have hcv := conv28
  go_enter Try.func21, Try.ntmps21
  go_wp2_with fail
  refine (new_good 100 _ (by decide) (by decide)).mono ?_
  rintro e w1 ⟨rfl, n1, n2, n3, b1⟩
  have N1 := hide n1
  have N2 := hide n2
  have N3 := hide n3
  have B1 := hide b1
  clear n1 n2 n3 b1
  generalize hB : w.heap.size = B at *
  go_wp2_with fail
  refine (create_first B (B + 2) B (B + 1) 0 0 nA 100 0 _ N1.out N2.out N3.out (by omega) (by omega) (by omega) (by omega) (by have := B1.out.size; omega) (by decide) (by decide) (by decide) goodA (by decide)).mono ?_
  rintro e w2 ⟨rfl, g, o2, b2⟩
  have O2 := hide o2
  have B2 := hide (B1.out.trans b2)
  clear o2 b2 N1 N2 N3 B1
  go_wp2_with fail
  have hBw : B ≤ w2.heap.size := by have := B2.out.size; omega
  refine (syncdir_one B (B + 2) g nA [⟨⟨#[]⟩, nA, some g⟩] (.map []) (one nA g) [] 0 100 0 0 (0 + 1) _ O2.out (apply_first nA g) (by simp) (by intro x hx; simp at hx; subst hx; exact ⟨by show (⟨#[]⟩ : ByteArray).size ≤ maxLen; decide, by show nA.size ≤ maxLen; decide⟩) (by decide) (by decide) hBw (by decide)).mono ?_
  rintro e w3 ⟨rfl, o3, b3⟩
  have O3 := hide o3
  have B3 := hide (B2.out.trans b3)
  clear o3 b3 O2 B2 hBw
  go_wp2_with fail
  have t4 : Turns (fun _ => False) w3 (w3.alloc (.cells #[.int .u8 120, .int .u8 121] 5 (2, 3))) := (Turns.refl _ w3).alloc _
  have v4 := Bytes.new w3 #[.int .u8 120, .int .u8 121] 5 2 (2, 3) [120#8, 121#8] rfl
  have B4 := hide (B3.out.trans (t4.below (B := B) (by have := B3.out.size; omega) (fun _ x => x.elim)))
  have hBw : B ≤ (w3.alloc (.cells #[.int .u8 120, .int .u8 121] 5 (2, 3))).heap.size := by have := B4.out.size; omega
  refine (append_one B (B + 2) g nA [] (one nA g) [] [120#8, 121#8] 0 100 0 0 (0 + 1 + 1) _ 2 2 _ (O3.out.keep t4) v4 (by decide) (by decide) (by decide) (by decide) (by decide) hBw goodA (by decide) (fun q o e => by have := O3.out.lt; cases e; omega)).mono ?_
  rintro e w5 ⟨rfl, o5, b5⟩
  have O5 := hide o5
  have B5 := hide (B4.out.trans b5)
  clear o5 b5 O3 B3 B4 t4 v4 hBw
  go_wp2_with fail
  refine (sync_one B (B + 2) g nA [] (one nA g) _ 0 100 _ 0 _ _ O5.out (by decide) (by have := B5.out.size; omega) goodA (by decide)).mono ?_
  rintro e w6 ⟨rfl, o6, b6⟩
  have O6 := hide o6
  have B6 := hide (B5.out.trans b6)
  clear o6 b6 O5 B5
  go_wp2_with fail
  have t7 : Turns (fun _ => False) w6 (w6.alloc (.cells #[.int .u8 122] 5 (1, 2))) := (Turns.refl _ w6).alloc _
  have v7 := Bytes.new w6 #[.int .u8 122] 5 1 (1, 2) [122#8] rfl
  have B7 := hide (B6.out.trans (t7.below (B := B) (by have := B6.out.size; omega) (fun _ x => x.elim)))
  refine (append_one B (B + 2) g nA [] (one nA g) _ [122#8] _ 100 _ 0 _ _ 1 1 _ (O6.out.keep t7) v7 (by decide) (by decide) (by decide) (by decide) (by decide) (by have := B7.out.size; omega) goodA (by decide) (fun q o e => by have := O6.out.lt; cases e; omega)).mono ?_
  rintro e w8 ⟨rfl, o8, b8⟩
  have O8 := hide o8
  have B8 := hide (B7.out.trans b8)
  clear o8 b8 O6 B6 B7 t7 v7
  go_wp2_with fail
  have t9 : Turns (fun _ => False) w8 (w8.alloc (.cells #[.int .i64 1] 3)) := (Turns.refl _ w8).alloc _
  have k9 := heap_alloc_new w8 (.cells #[.int .i64 1] 3)
  have B9 := hide (B8.out.trans (t9.below (B := B) (by have := B8.out.size; omega) (fun _ x => x.elim)))
  refine (crash_here B (B + 2) g nA [] (one nA g) _ _ 0 100 _ 0 _ 0 1 _ 1 1 _ (O8.out.keep t9) (by have := B9.out.size; omega) (by decide) (by decide) (by intro x hx; simp at hx) (by decide) (by decide) (by decide) rfl (.inr ⟨by decide, w8.heap.size, 0, rfl, cell_of_row _ _ 0 _ 3 (0, 0) k9, .inr ⟨_, k9⟩⟩) (by decide) (by decide) (by decide) (by decide) (by decide)).mono ?_
  rintro e w10 ⟨rfl, N, hN, hN2, o10, b10⟩
  have hN3 : N = 3 := by
    have e1 : (([] ++ [120#8, 121#8] ++ [122#8] : List (BitVec 8)).length) = 3 := rfl
    have e2 : (([] ++ [120#8, 121#8] : List (BitVec 8)).length) = 2 := rfl
    rw [e1, e2] at hN
    have e3 : (max (1 : Int) 0 % (((3 : Nat) : Int) - ((2 : Nat) : Int) + 1)) = 1 := by decide
    rw [e3] at hN
    omega
  subst hN3
  have O10 := hide o10
  have B10 := hide (B9.out.trans b10)
  clear o10 b10 O8 B8 B9 t9 k9 hN hN2
  go_wp2_with fail
  refine (read_here B (B + 2) g nA [] (one nA g) _ _ 0 9 100 _ 0 _ _ O10.out (by decide) (by have := B10.out.size; omega) goodA (by decide) (by decide) (by decide) (by decide)).mono ?_
  rintro e w11 ⟨q, m, c, rfl, hm, hr, hq, o11, b11⟩
  have hm3 : m = 3 := hm
  subst hm3
  have O11 := hide o11
  have B11 := hide (B10.out.trans b11)
  have hb7 : Bytes w11 (.slice (some ⟨q, 0, none⟩) 3 c) [120#8, 121#8, 122#8] := RowB.bytes hr rfl
  have k0 : w11.cell? ⟨q, 0, none⟩ = some (.int .u8 120) := hb7.at 0 (by decide)
  have k1 : w11.cell? ⟨q, 1, none⟩ = some (.int .u8 121) := by have := hb7.at 1 (by decide); simpa using this
  have k2 : w11.cell? ⟨q, 2, none⟩ = some (.int .u8 122) := by have := hb7.at 2 (by decide); simpa using this
  have hcs : (convert 28 9 (.slice (some ⟨q, 0, none⟩) 3 c)).run Try.prog w11 = .ok (.string ⟨#[120, 121, 122]⟩) w11 :=
    run_convert_bytes_back (P := Try.prog) w11 28 9 5 ⟨q, 0, none⟩ c [120, 121, 122] Try.underlying28 Try.underlying5 Try.underlying9 (fun j hj => by
      have : j = 0 ∨ j = 1 ∨ j = 2 := by simp at hj; omega
      rw [Go.WideShapes.add_plain, Nat.zero_add]
      rcases this with rfl | rfl | rfl
      · exact k0
      · exact k1
      · exact k2)
  clear hm hr o11 b11 O10 B10 hb7 k0 k1 k2
  go_wp2_with fail
  obtain ⟨bn, nn, hmap, hdir⟩ : ∃ bn nn, w11.cell? ⟨B + 2, 1, none⟩ = some (.map (some bn)) ∧ Dir w11 bn nn (one nA g) := by
    obtain ⟨_, _, bn, bs, nn, ns, ch, fv, hf, hd, _⟩ := O11.out
    exact ⟨bn, nn, cell_of_row w11 (B + 2) 1 _ 57 (0, 0) hf, hd⟩
  refine (size_none (B + 2) bn nn (one nA g) nB w11 hmap hdir (by decide) (other_file g)).mono ?_
  rintro e w12 ⟨rfl, rfl⟩
  clear hmap hdir
  go_wp2_with fail
  refine (create_there B (B + 2) g nA _ _ _ _ 100 _ _ _ _ O11.out (by decide) (by have := B11.out.size; omega) goodA (by decide)).mono ?_
  rintro e w13 ⟨rfl, b13⟩
  have B13 := hide (B11.out.trans b13)
  clear b13
  go_wp2_with fail
  go_ret
  exact ⟨rfl, by rw [hB]; exact B13.out⟩
end Go.Proofs.Ytefjljdgdoklmaa

/-
  A whole script.
-/
namespace Go.Proofs.Ytefjljdgdoklmaa
open Go.RowKit Go.Maps Go.Sort
theorem rep_start {limit : Int} {w w' : World} {f bn bs : Nat} (h : w'.heap[f]? = some (.cells (fsCells limit (.map (some bn)) (.map (some bs)) (.slice none 0 0) 0 0 true 0 (-1) (-1) 0) 57 (0, 0))) (h1 : Dir w' bn 0 (.map [])) (h2 : Dir w' bs 0 (.map [])) (hne : bn ≠ bs) (hf : w.heap.size ≤ f) (hn : w.heap.size ≤ bn) (hs : w.heap.size ≤ bs) : Rep (fun k => w.heap.size ≤ k ∧ k < w'.heap.size) w' f (dzero limit) := by
  refine ⟨bn, bs, .slice none 0 0, fun _ => .slice none 0 0, ⟨h, h1, h2, .inl ⟨rfl, rfl⟩, hne, ⟨hf, lt_of_heap h⟩, ⟨hn, h1.lt⟩, ⟨hs, h2.lt⟩, fun k hk => ?_, ⟨fun g x hx => ?_, fun g g' x x' k hx => ?_⟩, ⟨Full.empty, Full.empty, fun s g hs => ?_, fun s g hs => ?_, fun c hc => ?_⟩⟩⟩
  · obtain ⟨_, _, e⟩ := hk; cases e
  · cases hx
  · cases hx
  · cases hs
  · cases hs
  · cases hc
theorem Acts0.keep {w w' : World} {a : Option Addr} {l : List ActP} (h : Acts0 w a l) (t : Turns (fun k => w.heap.size ≤ k) w w') : Acts0 w' a l := fun k x hx => by
  obtain ⟨⟨b, off, h1, h2, h3⟩, o⟩ := h k x hx
  have hlt : ∀ {p : Nat}, p < w.heap.size → ¬ w.heap.size ≤ p := fun h => by omega
  exact ⟨⟨b, off, h1, Nat.lt_of_lt_of_le h2 t.size, fun j u hu => t.cell (h3 j u hu) (hlt h2)⟩, ⟨o.bytes.keep0 t (fun p q e h0 => hlt (o.bb p q e h0)), o.ints.keep0 t (fun p q e h0 => hlt (o.kb p q e h0)), o.n, o.m, o.each, fun p q e h0 => Nat.lt_of_lt_of_le (o.bb p q e h0) t.size, fun p q e h0 => Nat.lt_of_lt_of_le (o.kb p q e h0) t.size⟩⟩
theorem from_below {w w' : World} (b : Below w.heap.size w w') : Turns (fun k => w.heap.size ≤ k) w w' := Turns.of_below b _
def Side (f q k : Nat) (w wr : World) : Prop := ∃ (rho : Nat → Nat) (d : Disk) (r : RDisk) (A C : Nat → Prop), Mem2 w.heap.size f q wr d r A C ∧ Inv (2 * k) rho d r ∧ Turns (fun j => w.heap.size ≤ j) w wr

set_option maxRecDepth 100000 in
set_option maxHeartbeats 4000000 in
theorem script_any (limit : Int) (a : Option Addr) (n c : Nat) (l : List ActP) (w : World) (hl : n = l.length) (h : Acts0 w a l) :
    Calls Try.prog 4 #[.int .i64 limit, .slice a n c] w fun e w' => e = .returned (.bool true) ∧ Below w.heap.size w w' := by
  have HL := hide hl
  have HA := hide h
  have H21 := hide (lives_any w)
  clear hl h
  go_enter Try.func4, Try.ntmps4
  go_wp2_with fail
  refine H21.out.mono ?_
  rintro e w1 ⟨rfl, b1⟩
  have T1 := hide (from_below b1)
  have H23 := hide (small_any a n c l w1 HL.out (HA.out.keep T1.out))
  clear b1 H21
  go_wp2_with fail
  refine H23.out.mono ?_
  rintro e w2 ⟨bb, rfl, hbb, hw2⟩
  subst hw2
  cases bb with
  | false =>
    go_wp2_with fail
    go_ret
    exact ⟨rfl, T1.out.below (Nat.le_refl _) (fun _ x => x)⟩
  | true =>
    obtain ⟨hn80, hsm⟩ := hbb rfl
    have HSM := hide hsm
    clear hbb hsm H23
    by_cases hlim : 0 ≤ limit ∧ limit ≤ 1073741824
    · obtain ⟨l1, l2⟩ := hlim
      have H8 := hide (new_good limit w2 l1 l2)
      go_wp2_with fail
      refine H8.out.mono ?_
      rintro e w3 ⟨rfl, hc3, hd1, hd2, b3⟩
      have R3 := hide (rep_start (w := w2) hc3 hd1 hd2 (by omega) (by omega) (by omega) (by omega))
      have T3 := hide (Turns.of_below b3 (fun _ => False))
      have H24 := hide (rnew_good limit w3 l1 l2)
      clear hc3 hd1 hd2 b3 H8
      generalize w2.heap.size + 2 = f at *
      go_wp2_with fail
      refine H24.out.mono ?_
      rintro e w4 ⟨rfl, hr4, b4⟩
      have T4 := hide (Turns.of_below b4 (fun _ => False))
      generalize w3.heap.size + 1 = q at *
      have hS : Side f q 0 w w4 := by
        refine ⟨id, _, _, _, fun k => w3.heap.size ≤ k ∧ k < w4.heap.size, ⟨R3.out.quiet T4.out, hr4.mono fun k hk h => ⟨h, hk⟩, fun k h1 h2 => ?_, fun k h1 => ⟨Nat.le_trans T1.out.size h1.1, Nat.lt_of_lt_of_le h1.2 T4.out.size⟩, fun k h1 => ⟨Nat.le_trans (Nat.le_trans T1.out.size T3.out.size) h1.1, h1.2⟩⟩, Inv.start limit l1 l2, T1.out.trans ((T3.out.trans T4.out).mono fun _ _ x => x.elim)⟩
        have h3 := h1.2
        have h4 := h2.1
        omega
      have HS := hide hS
      clear hr4 b4 hS R3 T3 T4 H24 T1
      go_wp2_with fail
      go_loopw [9] (fun iv wr => ∃ k : Nat, iv = .int .i64 (k : Nat) ∧ k ≤ n ∧ Side f q k w wr) (fun iv _ => n - (intOf iv).toNat)
      case atStart => exact ⟨0, rfl, by omega, HS.out⟩
      case round =>
        obtain ⟨k, rfl, hk, hS⟩ := hrel
        obtain ⟨rho, d, r, A, C, m, hi, t⟩ := hS
        have M := hide m
        have T := hide t
        clear m t
        by_cases hk2 : k < n
        · have i1 : (k : Int) < n := by omega
          have hkl : k < l.length := by have := HL.out; omega
          obtain ⟨⟨b, off, rfl, hb, hc⟩, ok0⟩ := HA.out k l[k] (List.getElem?_eq_getElem hkl)
          obtain ⟨_, ok⟩ := HA.out.keep T.out k l[k] (List.getElem?_eq_getElem hkl)
          have hsx : l[k].small := HSM.out _ (List.getElem_mem hkl)
          have hcr : ∀ j u, l[k].cells[j]? = some u → wr.cell? ⟨b, off + k * 8 + j, none⟩ = some u := fun j u hu => T.out.cell (hc j u hu) (by show ¬ _ ≤ b; omega)
          generalize l[k] = x at *
          have c0 : wr.cell? ⟨b, off + k * 8, none⟩ = some (.int .i64 x.kind) := hcr 0 _ rfl
          have c1 := hcr 1 _ rfl
          have c2 := hcr 2 _ rfl
          have c3 := hcr 3 _ rfl
          have c4 := hcr 4 _ rfl
          have c5 := hcr 5 _ rfl
          have c6 := hcr 6 _ rfl
          have c7 := hcr 7 _ rfl
          have H25 := hide (act_any M.out T.out.size hi (by omega) x hsx ok.bytes ok.ints ok.n ok.m ok.each ok0.bb ok0.kb)
          clear hcr hc ok0 ok hsx hb
          obtain ⟨kind, N, Mx, E, s, tt, ba, ka, bn, bc, kn, kc, bs, ks⟩ := x
          simp only at c0 c1 c2 c3 c4 c5 c6 c7 H25
          go_wp2_with fail
          refine H25.out.mono ?_
          rintro e w5 ⟨rfl, c5⟩
          obtain ⟨t5, rho5, d5, r5, A5, C5, m5, hi5, k5⟩ := c5
          have M5 := hide m5
          have T5 := hide (T.out.trans (t5.mono fun j _ h => show w.heap.size ≤ j from by
            rcases h with h | h
            · exact (M.out.la j h).1
            · exact (M.out.lc j h).1))
          have H26 := hide (alike_any m5 hi5 (by omega))
          clear t5 m5 k5
          go_wp2_with fail
          refine H26.out.mono ?_
          rintro e w6 ⟨rfl, b6⟩
          have T6 := hide (Turns.of_below b6 (fun _ => False))
          clear b6
          go_wp2_with fail
          go_roundw
          case rel => exact ⟨k + 1, by go_num, by omega, rho5, d5, r5, A5, C5, M5.out.quiet T6.out, hi5, T5.out.trans (T6.out.mono fun _ _ x => x.elim)⟩
          case measure =>
            simp [intOf]
            omega
        · have i1 : ¬ (k : Int) < n := by omega
          have H27 := hide (reads_any M.out T.out.size hi (by omega))
          go_wp2_with fail
          refine H27.out.mono ?_
          rintro e w5 ⟨rfl, t5⟩
          have T5 := hide (T.out.trans t5)
          clear t5
          go_wp2_with fail
          go_ret
          exact ⟨rfl, T5.out.below (Nat.le_refl _) (fun _ x => x)⟩
    · have hlim' : limit < 0 ∨ 1073741824 < limit := by omega
      have H8 := hide (new_bad limit w2 hlim')
      have H24 := hide (rnew_bad limit w2 hlim')
      clear hlim hlim'
      go_wp2_with fail
      refine H8.out.mono ?_
      rintro e w3 ⟨rfl, rfl⟩
      go_wp2_with fail
      refine H24.out.mono ?_
      rintro e w4 ⟨rfl, rfl⟩
      go_wp2_with fail
      go_ret
      exact ⟨rfl, T1.out.below (Nat.le_refl _) (fun _ x => x)⟩
end Go.Proofs.Ytefjljdgdoklmaa
