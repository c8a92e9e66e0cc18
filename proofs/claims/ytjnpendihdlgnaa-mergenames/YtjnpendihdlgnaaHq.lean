/-
  A heap's Push, Pop and Fix.
-/
import Derived.Test.YtjnpendihdlgnaaPp
namespace Go.Proofs.Ytjnpendihdlgnaa
open Go.RowKit
set_option maxRecDepth 100000
set_option maxHeartbeats 4000000
theorem hf_left {L : List Hd} {M : List Hd} {k : Nat} (h : k < L.length) : hf (L ++ M) k = hf L k := by unfold hf; rw [List.getElem?_append_left h]
theorem hpush_any (S : Nat → Prop) (p o t : Nat) (cs : Array Value) (v : Value) (L : List Hd) (x : Hd) (w : World) (h : HB S w p o t cs v L) (hh : Hp.Heap ltH (hf L) L.length) (hx : HdOk w x) (hxs : ∀ q, x.uses q → ¬ S q) (hlen : L.length < 1000000) :
    Calls Try.prog 58 #[.iface 82 (.pointer (some ⟨p, o, none⟩)), .iface 84 (.agg #[.slice (some ⟨x.b, x.off, none⟩) x.R.length x.c, .int .i64 (x.no : Nat)])] w fun e w' => ∃ v' L', (∃ u, e = .returned u) ∧ HB S w' p o t cs v' L' ∧ L'.Perm (L ++ [x]) ∧ Hp.Heap ltH (hf L') L'.length ∧ Moved p v v' w w' := by
  have H0 := hide h
  have HH := hide hh
  have HX := hide hx
  have HXS := hide hxs
  have HL := hide hlen
  clear h hh hx hxs hlen
  obtain ⟨y, hy⟩ : ∃ y, y = x := ⟨x, rfl⟩
  have HY := hide hy
  clear hy
  have HP := hide (push_any S p o t cs v L x w H0.out HX.out HXS.out HL.out)
  generalize hxl : x.R.length = xl at HP ⊢
  obtain ⟨xb, xo, xc, xR, xn⟩ := x
  simp only at *
  have HXL := hide hxl
  clear hxl
  go_enter Try.func58, Try.ntmps58
  go_wp2_with fail
  refine HP.out.mono ?_
  rintro e w1 ⟨g, c, ⟨u, rfl⟩, hB, hR, hgp, hsg, hM⟩
  have hcell := hB.cell
  have hm1 := method_len p o (L.length + 1) c _ w1 hcell
  have B1 := hide hB
  have R1 := hide hR
  have M1 := hide hM
  have HL1 := hide (show (L ++ [⟨xb, xo, xc, xR, xn⟩] : List Hd).length = L.length + 1 by simp)
  have U1 := hide (show Hp.HeapUp ltH (hf (L ++ [⟨xb, xo, xc, xR, xn⟩])) (L.length + 1) L.length from Hp.heap_end HH.out fun k hk => hf_left hk)
  have hll := HL.out
  have hli : (L.length : Int) < 1000000 := by omega
  clear hB hR hM hll
  generalize hq : (L ++ [⟨xb, xo, xc, xR, xn⟩] : List Hd) = L1 at B1 R1 M1 HL1 U1
  have HQ := hide hq
  clear hq
  generalize L.length = n at *
  go_wp2_with fail
  refine (len_any _ _ _ _).mono ?_
  rintro e w2 ⟨rfl, rfl⟩
  go_wp2_with fail
  refine (up_any S p o t g c (n + 1) n cs L1 w2 B1.out R1.out HL1.out.symm hgp hsg (by omega) U1.out).mono ?_
  rintro e w3 ⟨L2, ⟨u2, rfl⟩, hB3, hR3, hP3, hH3, hT3⟩
  have FIN := hide (show ∃ v' L', (∃ u, Ending.returned (.tuple #[]) = .returned u) ∧ HB S w3 p o t cs v' L' ∧ L'.Perm (L ++ [⟨xb, xo, xc, xR, xn⟩]) ∧ Hp.Heap ltH (hf L') L'.length ∧ Moved p v v' w w3 from ⟨_, L2, ⟨_, rfl⟩, hB3, by rw [HQ.out]; exact hP3, by rw [hP3.length_eq, HL1.out]; exact hH3, M1.out.trans (Moved.row hT3)⟩)
  clear hB3 hR3 hP3 hH3 hT3
  go_wp2_with fail
  go_end0
  exact FIN.out
theorem hpop_any (S : Nat → Prop) (p o t : Nat) (cs : Array Value) (v : Value) (L : List Hd) (w : World) (h : HB S w p o t cs v L) (hh : Hp.Heap ltH (hf L) L.length) (hne : L ≠ []) :
    Calls Try.prog 66 #[.iface 82 (.pointer (some ⟨p, o, none⟩))] w fun e w' => ∃ v' L', (∃ u, e = .returned u) ∧ HB S w' p o t cs v' L' ∧ (L' ++ [hf L 0]).Perm L ∧ Hp.Heap ltH (hf L') L'.length ∧ Moved p v v' w w' := by
  obtain ⟨g, c, rfl, hR, hgp, hsg⟩ := h.full hne
  obtain ⟨n, hn⟩ : ∃ n, L.length = n + 1 := by
    cases L with
    | nil => exact absurd rfl hne
    | cons a b => exact ⟨b.length, rfl⟩
  rw [hn] at h ⊢
  rw [hn] at hh
  have HN := hide hn
  have H0 := hide h
  have HH := hide hh
  have R0 := hide hR
  have hcell := h.cell
  have hlen : (n : Int) ≤ 1000000 := by have := h.len; omega
  have hm1 := method_len p o (n + 1) c _ w hcell
  have hm2 := method_swap p o (n + 1) c _ w hcell
  clear h hh hR hn hne
  go_enter Try.func66, Try.ntmps66
  go_wp2_with fail
  refine (len_any _ _ _ _).mono ?_
  rintro e w1 ⟨rfl, rfl⟩
  go_wp2_with fail
  have h0 := at_hf (L := L) (k := 0) (by have := HN.out; omega)
  have h1 := at_hf (L := L) (k := n) (by have := HN.out; omega)
  refine (swap_any g c (n + 1) 0 n L _ _ w1 R0.out HN.out.symm h0 h1).mono ?_
  rintro e w2 ⟨⟨u, rfl⟩, hR2, hT2⟩
  have hP2 := Hp.swapL_perm L 0 n _ _ h0 h1
  have B2 := hide (show HB S w2 p o t cs (.slice (some ⟨g, 0, none⟩) (n + 1) c) (Hp.swapL L 0 n (hf L 0) (hf L n)) by
    have := HB.turn (by rw [HN.out]; exact H0.out) hT2 hR2 hP2 hgp hsg
    rw [HN.out] at this
    exact this)
  have D2 := hide (show Hp.HeapDown ltH (hf (Hp.swapL L 0 n (hf L 0) (hf L n))) n 0 by
    rw [hf_swap L _ _ (by have := HN.out; omega) (by have := HN.out; omega)]
    exact Hp.heap_top (Hp.heap_less HH.out (by omega)) fun k k0 kn => Hp.swapF_o _ (by omega) (by omega))
  have E2 := hide (show (Hp.swapL L 0 n (hf L 0) (hf L n)).drop n = [hf L 0] by
    have hq : (Hp.swapL L 0 n (hf L 0) (hf L n)).length = n + 1 := by rw [Hp.swapL_length]; exact HN.out
    have hg : (Hp.swapL L 0 n (hf L 0) (hf L n))[n]? = some (hf L 0) := by
      rw [Hp.swapL_get L 0 n n _ _ h0 h1]
      by_cases e : n = 0
      · rw [if_pos e, h1, e]
      · rw [if_neg e, if_pos rfl, h0]
    obtain ⟨hlt, hge⟩ := List.getElem?_eq_some_iff.1 hg
    rw [List.drop_eq_getElem_cons hlt, hge, List.drop_eq_nil_of_le (by omega)])
  have HL2 := hide (show (Hp.swapL L 0 n (hf L 0) (hf L n)).length = n + 1 by rw [Hp.swapL_length]; exact HN.out)
  have R2 := hide hR2
  have T2 := hide hT2
  have P2 := hide hP2
  clear hR2 hT2 hP2 h0 h1
  generalize Hp.swapL L 0 n (hf L 0) (hf L n) = L2 at *
  go_wp2_with fail
  refine (down_any S p o t g c (n + 1) 0 n cs L2 w2 B2.out R2.out HL2.out.symm hgp hsg (by omega) (by omega) D2.out).mono ?_
  rintro e w3 ⟨L3, ⟨b, rfl⟩, hB3, hR3, hP3, hD3, hH3, hT3⟩
  obtain ⟨M, rfl⟩ : ∃ M, L3 = M ++ [hf L 0] := ⟨L3.take n, by rw [← E2.out, ← hD3, List.take_append_drop]⟩
  have hM : n = M.length := by
    have := hP3.length_eq
    rw [HL2.out, List.length_append] at this
    simp at this
    omega
  have B3 := hide hB3
  have R3 := hide hR3
  have P3 := hide (hP3.trans P2.out)
  have T3 := hide (T2.out.trans hT3)
  have HM := hide hM
  have H3 := hide (show Hp.Heap ltH (hf M) n from fun k k0 kn => by
    have := hH3 k k0 kn
    rw [hf_left (by omega), hf_left (by omega)] at this
    exact this)
  clear hB3 hR3 hP3 hT3 hH3 hD3 hM
  go_wp2_with fail
  refine (pop_any S p o t g c n cs M (hf L 0) w3 HM.out B3.out R3.out hgp hsg).mono ?_
  rintro e w4 ⟨rfl, hB4, hR4, hM4⟩
  have FIN := hide (show HB S w4 p o t cs (.slice (some ⟨g, 0, none⟩) n c) M ∧ (M ++ [hf L 0]).Perm L ∧ Hp.Heap ltH (hf M) M.length ∧ Moved p (.slice (some ⟨g, 0, none⟩) (n + 1) c) (.slice (some ⟨g, 0, none⟩) n c) w1 w4 from ⟨hB4, P3.out, by rw [← HM.out]; exact H3.out, (Moved.row T3.out).trans hM4⟩)
  clear hB4 hR4 hM4
  go_wp2_with fail
  go_ret
  exact ⟨_, M, ⟨_, rfl⟩, FIN.out⟩
theorem hfix_any (S : Nat → Prop) (p o t : Nat) (cs : Array Value) (v : Value) (L : List Hd) (w : World) (h : HB S w p o t cs v L) (hh : Hp.HeapDown ltH (hf L) L.length 0) (hne : L ≠ []) :
    Calls Try.prog 67 #[.iface 82 (.pointer (some ⟨p, o, none⟩)), .int .i64 0] w fun e w' => ∃ L', (∃ u, e = .returned u) ∧ HB S w' p o t cs v L' ∧ L'.Perm L ∧ Hp.Heap ltH (hf L') L'.length ∧ Moved p v v w w' := by
  obtain ⟨g, c, rfl, hR, hgp, hsg⟩ := h.full hne
  obtain ⟨n, hn⟩ : ∃ n, L.length = n + 1 := by
    cases L with
    | nil => exact absurd rfl hne
    | cons a b => exact ⟨b.length, rfl⟩
  rw [hn] at h ⊢
  rw [hn] at hh
  have HN := hide hn
  have H0 := hide h
  have HH := hide hh
  have R0 := hide hR
  have hcell := h.cell
  have hlen : (n : Int) ≤ 1000000 := by have := h.len; omega
  have hm1 := method_len p o (n + 1) c _ w hcell
  clear h hh hR hn hne
  go_enter Try.func67, Try.ntmps67
  go_wp2_with fail
  refine (len_any _ _ _ _).mono ?_
  rintro e w1 ⟨rfl, rfl⟩
  go_wp2_with fail
  refine (down_any S p o t g c (n + 1) 0 (n + 1) cs L w1 H0.out R0.out HN.out.symm hgp hsg (by omega) (by omega) HH.out).mono ?_
  rintro e w2 ⟨L2, ⟨b, rfl⟩, hB2, hR2, hP2, _, hH2, hT2⟩
  have B2 := hide hB2
  have R2 := hide hR2
  have P2 := hide hP2
  have H2 := hide hH2
  have T2 := hide hT2
  have HL2 := hide (show L2.length = n + 1 by rw [hP2.length_eq]; exact HN.out)
  clear hB2 hR2 hP2 hH2 hT2
  cases b with
  | true =>
    go_wp2_with fail
    go_end0
    exact ⟨L2, ⟨_, rfl⟩, B2.out, P2.out, by rw [HL2.out]; exact H2.out, Moved.row T2.out⟩
  | false =>
    go_wp2_with fail
    refine (up_any S p o t g c (n + 1) 0 cs L2 w2 B2.out R2.out HL2.out.symm hgp hsg (by omega) ⟨fun k k0 kn _ => H2.out k k0 kn, fun k _ _ _ h => by omega⟩).mono ?_
    rintro e w3 ⟨L3, ⟨u, rfl⟩, hB3, hR3, hP3, hH3, hT3⟩
    have B3 := hide hB3
    have P3 := hide hP3
    have H3 := hide hH3
    have T3 := hide hT3
    clear hB3 hR3 hP3 hH3 hT3
    go_wp2_with fail
    go_end0
    exact ⟨L3, ⟨_, rfl⟩, B3.out, P3.out.trans P2.out, by rw [P3.out.length_eq, HL2.out]; exact H3.out, Moved.row (T2.out.trans T3.out)⟩
end Go.Proofs.Ytjnpendihdlgnaa
