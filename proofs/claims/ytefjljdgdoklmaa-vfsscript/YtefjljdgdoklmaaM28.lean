import Derived.Test.YtefjljdgdoklmaaM27
import Derived.Test.YtefjljdgdoklmaaM24
import Derived.Test.YtefjljdgdoklmaaM26
/-
  A whole script.
-/
namespace Go.Proofs.Ytefjljdgdoklmaa
open Go.RowKit Go.Maps Go.Sort
theorem rep_start {limit : Int} {w w' : World} {f bn bs : Nat} (h : w'.heap[f]? = some (.cells (fsCells limit (.map (some bn)) (.map (some bs)) (.slice none 0 0) 0 0 true 0 (-1) (-1) 0) 57 (0, 0))) (h1 : Dir w' bn 0 (.map [])) (h2 : Dir w' bs 0 (.map [])) (hne : bn ≠ bs) (hf : w.heap.size ≤ f) (hn : w.heap.size ≤ bn) (hs : w.heap.size ≤ bs) : Rep (fun k => w.heap.size ≤ k ∧ k < w'.heap.size) w' f (dzero limit) := by
  refine ⟨bn, bs, .slice none 0 0, fun _ => .slice none 0 0, ⟨h, h1, h2, .inl ⟨rfl, rfl⟩, hne, ⟨hf, lt_of_heap h⟩, ⟨hn, h1.lt⟩, ⟨hs, h2.lt⟩, fun k hk => ?_, ⟨fun g x hx => ?_, fun g g' x x' k hx => ?_⟩, ⟨Full.empty, Full.empty, fun s g hs => ?_, fun s g hs => ?_, fun c hc => ?_⟩⟩⟩
  · obtain ⟨_, _, e⟩ := hk; cases e
  · cases hx
  · cases hx
  · cases hs
  · cases hs
  · cases hc
theorem Acts0.keep {w w' : World} {a : Option Addr} {l : List ActP} (h : Acts0 w a l) (t : Turns (fun k => w.heap.size ≤ k) w w') : Acts0 w' a l := fun k x hx => by
  obtain ⟨⟨b, off, h1, h2, h3⟩, o⟩ := h k x hx
  have hlt : ∀ {p : Nat}, p < w.heap.size → ¬ w.heap.size ≤ p := fun h => by omega
  exact ⟨⟨b, off, h1, Nat.lt_of_lt_of_le h2 t.size, fun j u hu => t.cell (h3 j u hu) (hlt h2)⟩, ⟨o.bytes.keep0 t (fun p q e h0 => hlt (o.bb p q e h0)), o.ints.keep0 t (fun p q e h0 => hlt (o.kb p q e h0)), o.n, o.m, o.each, fun p q e h0 => Nat.lt_of_lt_of_le (o.bb p q e h0) t.size, fun p q e h0 => Nat.lt_of_lt_of_le (o.kb p q e h0) t.size⟩⟩
theorem from_below {w w' : World} (b : Below w.heap.size w w') : Turns (fun k => w.heap.size ≤ k) w w' := Turns.of_below b _
def Side (f q k : Nat) (w wr : World) : Prop := ∃ (rho : Nat → Nat) (d : Disk) (r : RDisk) (A C : Nat → Prop), Mem2 w.heap.size f q wr d r A C ∧ Inv (2 * k) rho d r ∧ Turns (fun j => w.heap.size ≤ j) w wr

set_option maxRecDepth 100000 in
set_option maxHeartbeats 4000000 in
theorem script_any (limit : Int) (a : Option Addr) (n c : Nat) (l : List ActP) (w : World) (hl : n = l.length) (h : Acts0 w a l) :
    Calls Try.prog 4 #[.int .i64 limit, .slice a n c] w fun e w' => e = .returned (.bool true) ∧ Below w.heap.size w w' := by
  have HL := hide hl
  have HA := hide h
  have H21 := hide (lives_any w)
  clear hl h
  go_enter Try.func4, Try.ntmps4
  go_wp2_with fail
  refine H21.out.mono ?_
  rintro e w1 ⟨rfl, b1⟩
  have T1 := hide (from_below b1)
  have H23 := hide (small_any a n c l w1 HL.out (HA.out.keep T1.out))
  clear b1 H21
  go_wp2_with fail
  refine H23.out.mono ?_
  rintro e w2 ⟨bb, rfl, hbb, hw2⟩
  subst hw2
  cases bb with
  | false =>
    go_wp2_with fail
    go_ret
    exact ⟨rfl, T1.out.below (Nat.le_refl _) (fun _ x => x)⟩
  | true =>
    obtain ⟨hn80, hsm⟩ := hbb rfl
    have HSM := hide hsm
    clear hbb hsm H23
    by_cases hlim : 0 ≤ limit ∧ limit ≤ 1073741824
    · obtain ⟨l1, l2⟩ := hlim
      have H8 := hide (new_good limit w2 l1 l2)
      go_wp2_with fail
      refine H8.out.mono ?_
      rintro e w3 ⟨rfl, hc3, hd1, hd2, b3⟩
      have R3 := hide (rep_start (w := w2) hc3 hd1 hd2 (by omega) (by omega) (by omega) (by omega))
      have T3 := hide (Turns.of_below b3 (fun _ => False))
      have H24 := hide (rnew_good limit w3 l1 l2)
      clear hc3 hd1 hd2 b3 H8
      generalize w2.heap.size + 2 = f at *
      go_wp2_with fail
      refine H24.out.mono ?_
      rintro e w4 ⟨rfl, hr4, b4⟩
      have T4 := hide (Turns.of_below b4 (fun _ => False))
      generalize w3.heap.size + 1 = q at *
      have hS : Side f q 0 w w4 := by
        refine ⟨id, _, _, _, fun k => w3.heap.size ≤ k ∧ k < w4.heap.size, ⟨R3.out.quiet T4.out, hr4.mono fun k hk h => ⟨h, hk⟩, fun k h1 h2 => ?_, fun k h1 => ⟨Nat.le_trans T1.out.size h1.1, Nat.lt_of_lt_of_le h1.2 T4.out.size⟩, fun k h1 => ⟨Nat.le_trans (Nat.le_trans T1.out.size T3.out.size) h1.1, h1.2⟩⟩, Inv.start limit l1 l2, T1.out.trans ((T3.out.trans T4.out).mono fun _ _ x => x.elim)⟩
        have h3 := h1.2
        have h4 := h2.1
        omega
      have HS := hide hS
      clear hr4 b4 hS R3 T3 T4 H24 T1
      go_wp2_with fail
      go_loopw [9] (fun iv wr => ∃ k : Nat, iv = .int .i64 (k : Nat) ∧ k ≤ n ∧ Side f q k w wr) (fun iv _ => n - (intOf iv).toNat)
      case atStart => exact ⟨0, rfl, by omega, HS.out⟩
      case round =>
        obtain ⟨k, rfl, hk, hS⟩ := hrel
        obtain ⟨rho, d, r, A, C, m, hi, t⟩ := hS
        have M := hide m
        have T := hide t
        clear m t
        by_cases hk2 : k < n
        · have i1 : (k : Int) < n := by omega
          have hkl : k < l.length := by have := HL.out; omega
          obtain ⟨⟨b, off, rfl, hb, hc⟩, ok0⟩ := HA.out k l[k] (List.getElem?_eq_getElem hkl)
          obtain ⟨_, ok⟩ := HA.out.keep T.out k l[k] (List.getElem?_eq_getElem hkl)
          have hsx : l[k].small := HSM.out _ (List.getElem_mem hkl)
          have hcr : ∀ j u, l[k].cells[j]? = some u → wr.cell? ⟨b, off + k * 8 + j, none⟩ = some u := fun j u hu => T.out.cell (hc j u hu) (by show ¬ _ ≤ b; omega)
          generalize l[k] = x at *
          have c0 : wr.cell? ⟨b, off + k * 8, none⟩ = some (.int .i64 x.kind) := hcr 0 _ rfl
          have c1 := hcr 1 _ rfl
          have c2 := hcr 2 _ rfl
          have c3 := hcr 3 _ rfl
          have c4 := hcr 4 _ rfl
          have c5 := hcr 5 _ rfl
          have c6 := hcr 6 _ rfl
          have c7 := hcr 7 _ rfl
          have H25 := hide (act_any M.out T.out.size hi (by omega) x hsx ok.bytes ok.ints ok.n ok.m ok.each ok0.bb ok0.kb)
          clear hcr hc ok0 ok hsx hb
          obtain ⟨kind, N, Mx, E, s, tt, ba, ka, bn, bc, kn, kc, bs, ks⟩ := x
          simp only at c0 c1 c2 c3 c4 c5 c6 c7 H25
          go_wp2_with fail
          refine H25.out.mono ?_
          rintro e w5 ⟨rfl, c5⟩
          obtain ⟨t5, rho5, d5, r5, A5, C5, m5, hi5, k5⟩ := c5
          have M5 := hide m5
          have T5 := hide (T.out.trans (t5.mono fun j _ h => show w.heap.size ≤ j from by
            rcases h with h | h
            · exact (M.out.la j h).1
            · exact (M.out.lc j h).1))
          have H26 := hide (alike_any m5 hi5 (by omega))
          clear t5 m5 k5
          go_wp2_with fail
          refine H26.out.mono ?_
          rintro e w6 ⟨rfl, b6⟩
          have T6 := hide (Turns.of_below b6 (fun _ => False))
          clear b6
          go_wp2_with fail
          go_roundw
          case rel => exact ⟨k + 1, by go_num, by omega, rho5, d5, r5, A5, C5, M5.out.quiet T6.out, hi5, T5.out.trans (T6.out.mono fun _ _ x => x.elim)⟩
          case measure =>
            simp [intOf]
            omega
        · have i1 : ¬ (k : Int) < n := by omega
          have H27 := hide (reads_any M.out T.out.size hi (by omega))
          go_wp2_with fail
          refine H27.out.mono ?_
          rintro e w5 ⟨rfl, t5⟩
          have T5 := hide (T.out.trans t5)
          clear t5
          go_wp2_with fail
          go_ret
          exact ⟨rfl, T5.out.below (Nat.le_refl _) (fun _ x => x)⟩
    · have hlim' : limit < 0 ∨ 1073741824 < limit := by omega
      have H8 := hide (new_bad limit w2 hlim')
      have H24 := hide (rnew_bad limit w2 hlim')
      clear hlim hlim'
      go_wp2_with fail
      refine H8.out.mono ?_
      rintro e w3 ⟨rfl, rfl⟩
      go_wp2_with fail
      refine H24.out.mono ?_
      rintro e w4 ⟨rfl, rfl⟩
      go_wp2_with fail
      go_ret
      exact ⟨rfl, T1.out.below (Nat.le_refl _) (fun _ x => x)⟩
end Go.Proofs.Ytefjljdgdoklmaa
