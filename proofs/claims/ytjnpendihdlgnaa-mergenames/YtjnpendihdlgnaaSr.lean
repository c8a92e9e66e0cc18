/-
  What 'merged' hands back: its contract.
-/
import Derived.Test.YtjnpendihdlgnaaSq
namespace Go.Proofs.Ytjnpendihdlgnaa
open Go.RowKit Go.Shelf
set_option maxRecDepth 100000
set_option maxHeartbeats 4000000
attribute [local go_sem] Oper.semAt_some
theorem went_mem {x : En} {L L1 : List Hd} (hw : Went x L L1) {h : Hd} (hh : h ∈ L1) {z : Tow} (hz : z ∈ h.R) : ∃ h', h' ∈ L ∧ z ∈ h'.R := by
  obtain ⟨d, r, p1, p2, _⟩ := hw
  rcases List.mem_append.1 (p2.mem_iff.1 hh) with hm | hm
  · obtain ⟨a, ha, e⟩ := List.mem_filterMap.1 hm
    obtain ⟨y, e1, _⟩ := adv_some e
    exact ⟨a, p1.mem_iff.2 (List.mem_append_left _ ha), by rw [e1]; exact List.mem_cons_of_mem _ hz⟩
  · exact ⟨h, p1.mem_iff.2 (List.mem_append_right _ hm), hz⟩
theorem hds_mem {w : World} {a : Option Addr} {rs : List Rw} (hr : RowsIn w a rs) (hn : rs.length ≤ 1000000) {h : Hd} (hh : h ∈ hds rs) : HdOk w h ∧ ∃ i x, rs[i]? = some x ∧ h.R = x.R ∧ h.no = i := by
  obtain ⟨i, x, h1, h2⟩ := mem_hds.1 hh
  have hi := (List.getElem?_eq_some_iff.1 h1).1
  have := hdOf_ok (hr i x h1).2 (by omega) h2
  exact ⟨this.1, i, x, h1, this.2.1, this.2.2.1⟩
theorem HB.wide {S S' : Nat → Prop} {w : World} {p o t : Nat} {cs : Array Value} {v : Value} {L : List Hd} (h : HB S w p o t cs v L) (hs : ∀ k, S k → S' k) (he : ∀ x, x ∈ L → ∀ q, x.uses q → ¬ S' q) : HB S' w p o t cs v L where
  blk := h.blk
  at' := h.at'
  sp := hs _ h.sp
  up := fun k hk => hs _ (h.up k hk)
  row := by
    rcases h.row with e | ⟨g, c, e, h1, h2, h3⟩
    · exact .inl e
    · exact .inr ⟨g, c, e, h1, h2, hs _ h3⟩
  each := fun x hx => ⟨(h.each x hx).1, he x hx⟩
  len := h.len
/-- The heads in a variable of their own. -/
theorem HB.box {S : Nat → Prop} {w : World} {p o t : Nat} {cs : Array Value} {v : Value} {L : List Hd} (h : HB S w p o t cs v L) : HB S (w.alloc (.cells #[v] 50)) w.heap.size 0 50 #[v] v L := by
  have tt := (Turns.refl (fun _ => False) w).alloc (.cells #[v] 50)
  have hs : (w.alloc (.cells #[v] 50)).heap.size = w.heap.size + 1 := by simp
  refine ⟨heap_alloc_new w _, by show 0 < 1; omega, h.up _ (Nat.le_refl _), fun k hk => h.up k (by omega), ?_, fun x hx => ⟨(h.each x hx).1.quiet tt, (h.each x hx).2⟩, h.len⟩
  rcases h.row with e | ⟨g, c, e, h1, h2, h3⟩
  · exact .inl e
  · exact .inr ⟨g, c, e, h1.keep tt (fun x => x), by have := h1.lt; omega, h3⟩
theorem merged_any (a : Option Addr) (n c : Nat) (w : World) : Calls Try.prog 33 #[.slice a n c] w fun e w' => e = .returned (.func (.func 49) #[] #[.pointer (some ⟨w.heap.size, 0, none⟩)]) ∧ w' = w.alloc (.cells #[.slice a n c] 28) := by
  go_enter Try.func33, Try.ntmps33
  go_wp2_with fail
  go_ret
  exact ⟨rfl, rfl⟩
abbrev El (rs : List Rw) := { x : Tow // x ∈ allOf rs }
def valsOf {rs : List Rw} (l : List (El rs)) : List Tow := l.map (·.val)
theorem merged1_in (n l B : Nat) (hn : 1 ≤ n) (a : Option Addr) (m c : Nat) (rs : List Rw) (hm : m = rs.length) (hmx : m ≤ 1000000) (hup : ∀ (i : Nat) (x : Rw), rs[i]? = some x → x.R.Pairwise ltT) (B0 : Nat) (J Jx : List (El rs) → World → Prop) (W : World) (hB0 : B0 ≤ W.heap.size)
    (hJ : StaysX TM W.heap.size J)
    (hY : ∀ pre x W1, J pre W1 → pre.length < tot (hds rs) → YieldAt Fence.wide (n - 1) Try.prog l #[x.val.agg] W1 fun e W' => (e = .returned (.bool true) ∧ J (pre ++ [x]) W' ∧ KpM B0 W1 W' ∧ KeepsFrom W.heap.size W1 W') ∨ (e = .returned (.bool false) ∧ Jx (pre ++ [x]) W' ∧ KeepsFrom W.heap.size W1 W'))
    (hr : RowsIn W a rs) (hlt : ∀ h, h ∈ hds rs → ∀ q, h.uses q → q < B0) (hb : W.cell? ⟨B, 0, none⟩ = some (.slice a m c)) (h0 : J [] W) :
    CallsIn Fence.wide n Try.prog 49 #[.func (.yield l) #[] #[], .pointer (some ⟨B, 0, none⟩)] W fun e W' => (∃ v, e = .returned v) ∧ ((∃ xs : List (El rs), Mg (hds rs) (valsOf xs) ∧ J xs W') ∨ (∃ pre : List (El rs), (∃ ys, Mg (hds rs) (valsOf pre ++ ys)) ∧ Jx pre W')) := by
  have HY := hide hY
  have HJ0 := hide h0
  have HO := hide (headsOf_any a m c rs W hr hm hmx)
  have HR := hide hr
  have HM := hide hm
  have HUP := hide hup
  have HLT := hide hlt
  have HJ := hide hJ
  clear hY h0 hr hm hup hlt hJ
  refine callsIn_of_wp Try.func49 rfl trivial ?_ rfl
  simp only [Try.ntmps49, List.size_toArray, List.length_cons, List.length_nil, Nat.reduceAdd, Nat.reduceSub, Array.replicate_succ, Array.replicate_zero, List.push_toArray, List.append_toArray, List.nil_append, List.cons_append]
  gi_wp2
  refine ⟨trivial, ?_⟩
  refine (callsIn_wide.2 HO.out).mono ?_
  rintro e w1 ⟨v, L, p0, rfl, hB1, hP1, hH1, hb1⟩
  have hok : ∀ h, h ∈ L → h ∈ hds rs := fun h hh => hP1.mem_iff.1 hh
  have hB2 := (hB1.wide (S' := fun k => B0 ≤ k) (fun k hk => Nat.le_trans hB0 hk) (fun x hx q hq => by have := HLT.out x (hok x hx) q hq; omega)).box
  have t2 := (Turns.of_below hb1 (fun _ => False)).alloc (.cells #[v] 50)
  have hJ2 := HJ.out _ _ _ HJ0.out (t2.mono fun _ _ x => x.elim)
  have hs1 := hb1.size
  have hrow1 : ∀ k, inRow v k → W.heap.size ≤ k := fun k hk => by
    obtain ⟨n', c', e⟩ := hk
    rcases hB1.row with ⟨e1, _⟩ | ⟨g, c1, e1, _, _, h3⟩
    · rw [e1] at e; cases e
    · rw [e1] at e; cases e; exact h3
  have hup1 : Up L := fun h hh => by
    obtain ⟨_, i, x, h1, h2, _⟩ := hds_mem HR.out (by rw [← HM.out]; exact hmx) (hok h hh)
    rw [h2]
    exact HUP.out i x h1
  have hmem1 : ∀ h, h ∈ L → ∀ z, z ∈ h.R → z ∈ allOf rs := fun h hh z hz => by
    obtain ⟨_, i, x, h1, h2, _⟩ := hds_mem HR.out (by rw [← HM.out]; exact hmx) (hok h hh)
    exact List.mem_flatMap.2 ⟨x, List.mem_of_getElem? h1, by rw [← h2]; exact hz⟩
  have ST := hide (show ∃ (pre : List (El rs)) (L1 : List Hd), J pre (w1.alloc (.cells #[v] 50)) ∧ HB (fun k => B0 ≤ k) (w1.alloc (.cells #[v] 50)) w1.heap.size 0 50 #[v] v L1 ∧ Hp.Heap ltH (hf L1) L1.length ∧ Up L1 ∧ (∀ h, h ∈ L1 → ∀ z, z ∈ h.R → z ∈ allOf rs) ∧ (∀ ys, Mg L1 ys → Mg (hds rs) (valsOf pre ++ ys)) ∧ pre.length + tot L1 ≤ tot (hds rs) ∧ (∀ k, inRow v k → W.heap.size ≤ k) from
    ⟨[], L, hJ2, hB2, hH1, hup1, hmem1, fun ys hy => hy.perm fun x => hP1.mem_iff, by rw [tot_perm hP1]; simp, hrow1⟩)
  obtain ⟨va, vn, vc, hv⟩ : ∃ a n c, v = .slice a n c := by
    rcases hB1.row with ⟨e, _⟩ | ⟨g, c, e, _⟩
    · exact ⟨_, _, _, e⟩
    · exact ⟨_, _, _, e⟩
  have hpW : W.heap.size ≤ w1.heap.size := hs1
  subst hv
  clear hB1 hP1 hH1 hb1 hok hB2 t2 hJ2 hs1 hrow1 hup1 hmem1
  gi_wp2
  generalize w1.alloc (.cells #[.slice va vn vc] 50) = w2 at *
  generalize w1.heap.size = p at *
  generalize hv0 : (#[Value.slice va vn vc] : Array Value) = cs0 at ST
  clear hv0
  generalize hW0 : W.heap.size = W0 at *
  gi_loopw [] (fun wr => ∃ (v : Value) (pre : List (El rs)) (L1 : List Hd), J pre wr ∧ HB (fun k => B0 ≤ k) wr p 0 50 cs0 v L1 ∧ Hp.Heap ltH (hf L1) L1.length ∧ Up L1 ∧ (∀ h, h ∈ L1 → ∀ z, z ∈ h.R → z ∈ allOf rs) ∧ (∀ ys, Mg L1 ys → Mg (hds rs) (valsOf pre ++ ys)) ∧ pre.length + tot L1 ≤ tot (hds rs) ∧ (∀ k, inRow v k → W0 ≤ k)) (fun wr => leftW p 0 wr)
  case atStart => exact ⟨_, ST.out⟩
  case round =>
    obtain ⟨v, pre, L1, hJ1, hB1, hH1, hU1, hE1, hG1, hN1, hV1⟩ := hrel
    have hcell := hB1.cell
    have J1 := hide hJ1
    have B1 := hide hB1
    have H1 := hide hH1
    have U1 := hide hU1
    have E1 := hide hE1
    have G1 := hide hG1
    have N1 := hide hN1
    have V1 := hide hV1
    clear hJ1 hB1 hH1 hU1 hE1 hG1 hN1 hV1
    cases L1 with
    | nil =>
      have hv1 : ∃ a c1, v = .slice a 0 c1 := by
        rcases B1.out.row with ⟨e, _⟩ | ⟨g, c1, e, _⟩
        · exact ⟨_, _, e⟩
        · exact ⟨_, _, e⟩
      obtain ⟨a1, c1, rfl⟩ := hv1
      gi_wp2
      refine ⟨trivial, ?_⟩
      gi_wp2
      refine ⟨fun _ e => (by cases e), ?_⟩
      gi_wp2
      go_end0
      have := G1.out [] Mg.nil
      rw [List.append_nil] at this
      exact ⟨⟨_, rfl⟩, .inl ⟨pre, this, J1.out⟩⟩
    | cons h1 T =>
      obtain ⟨g, c1, hv1, hR1, hgp1, hsg1⟩ := B1.out.full (by simp)
      subst hv1
      have hx1 := (B1.out.each h1 (by simp)).1
      obtain ⟨z, r, hz⟩ : ∃ z r, h1.R = z :: r := by
        have := hx1.ne
        cases e : h1.R with
        | nil => exact absurd e this
        | cons z r => exact ⟨z, r, rfl⟩
      have NX := hide (next_any (fun k => B0 ≤ k) p 0 50 cs0 _ T h1 z r wr B1.out H1.out U1.out hz)
      have HZ := hide hz
      have hnT : (T.length : Int) ≤ 1000000 := by have := B1.out.len; simp only [List.length_cons] at this; omega
      have hzU := E1.out h1 (by simp) z (by rw [hz]; simp)
      have hMin := hide (heap_first rfl H1.out)
      have MW := hide (leftW_of B1.out)
      simp only [List.length_cons] at hcell
      have hnp : 0 < T.length + 1 := by omega
      clear hR1 hx1 hz
      gi_wp2
      refine ⟨trivial, ?_⟩
      refine (callsIn_wide.2 NX.out).mono ?_
      rintro e w3 ⟨v3, L3, rfl, hB3, hH3, hW3, hD3, hT3, hM3⟩
      have hJ3 := HJ.out _ _ _ J1.out (hM3.mine B1.out hpW V1.out)
      obtain ⟨fn, tmps, assign, body, hy, hRd⟩ := HY.out pre ⟨z, hzU⟩ w3 hJ3 (by have := N1.out; omega)
      have RD := hide hRd
      have B3 := hide hB3
      have H3 := hide hH3
      have T3 := hide hT3
      have U3 := hide (U1.out.went hW3)
      have E3 := hide (show ∀ h, h ∈ L3 → ∀ z, z ∈ h.R → z ∈ allOf rs from fun h hh z hz => by
        obtain ⟨h', h4, h5⟩ := went_mem hW3 hh hz
        exact E1.out h' h4 z h5)
      have G3 := hide (show ∀ ys, Mg L3 ys → Mg (hds rs) (valsOf (pre ++ [⟨z, hzU⟩]) ++ ys) from fun ys hy => by
        have := G1.out _ (Mg.step U1.out (by simp) HZ.out hMin.out hW3 hD3 hy)
        simpa [valsOf] using this)
      have V3 := hide (show ∀ k, inRow v3 k → W0 ≤ k from fun k hk => by
        rcases hM3.2 k hk with x | x
        · exact V1.out k x
        · have := lt_of_heap B1.out.blk
          omega)
      unfold Tow.agg at hy
      simp only at hy
      clear hB3 hH3 hW3 hD3 hT3 hM3 hJ3 hRd
      gi_wp2
      refine RD.out.mono ?_
      rintro e W4 (⟨rfl, hJ4, hk4, _⟩ | ⟨rfl, hJx4, _⟩)
      · have B4 := hide (B3.out.kept hk4)
        have J4 := hide hJ4
        have MEA := hide (show leftW p 0 W4 < leftW p 0 wr by rw [leftW_of B4.out, MW.out]; exact T3.out)
        clear hk4 hJ4 hy
        gi_wp2
        go_roundw
        case rel => exact ⟨v3, pre ++ [⟨z, hzU⟩], L3, J4.out, B4.out, H3.out, U3.out, E3.out, G3.out, by have := N1.out; have := T3.out; rw [List.length_append, List.length_singleton]; omega, V3.out⟩
        case measure => exact MEA.out
      · gi_wp2
        go_end0
        obtain ⟨ys, hys⟩ := Mg.exist _ L3 (Nat.le_refl _) U3.out (fun h hh => (B3.out.each h hh).1.ne)
        exact ⟨⟨_, rfl⟩, .inr ⟨pre ++ [⟨z, hzU⟩], ⟨ys, G3.out ys hys⟩, hJx4⟩⟩
theorem merged_seqB (n B : Nat) (hn : 1 ≤ n) (a : Option Addr) (m c : Nat) (rs : List Rw) (hm : m = rs.length) (hmx : m ≤ 1000000) (hup : ∀ (i : Nat) (x : Rw), rs[i]? = some x → x.R.Pairwise ltT) (w : World) (hr : RowsIn w a rs) (hb : w.cell? ⟨B, 0, none⟩ = some (.slice a m c)) (B0 : Nat) (hB0 : B0 ≤ w.heap.size) (hlt : ∀ h, h ∈ hds rs → ∀ q, h.uses q → q < B0) :
    SeqX TM Fence.wide n Try.prog 49 #[.pointer (some ⟨B, 0, none⟩)] (fun x : El rs => #[x.val.agg]) (KpM B0) (fun xs => Mg (hds rs) (valsOf xs)) (fun pre => ∃ ys, Mg (hds rs) (valsOf pre ++ ys)) (tot (hds rs)) w := fun l J Jx W hW hJ _ hY h0 => by
  have t := Turns.of_below hW (fun _ => False)
  exact merged1_in n l B hn a m c rs hm hmx hup B0 J Jx W (Nat.le_trans hB0 hW.size) (hJ.stays (Nat.le_refl _)) hY (hr.quiet t) hlt (t.cell hb (fun x => x)) h0
theorem merged_seq (n B : Nat) (hn : 1 ≤ n) (a : Option Addr) (m c : Nat) (rs : List Rw) (hm : m = rs.length) (hmx : m ≤ 1000000) (hup : ∀ (i : Nat) (x : Rw), rs[i]? = some x → x.R.Pairwise ltT) (w : World) (hr : RowsIn w a rs) (hb : w.cell? ⟨B, 0, none⟩ = some (.slice a m c)) :
    SeqX TM Fence.wide n Try.prog 49 #[.pointer (some ⟨B, 0, none⟩)] (fun x : El rs => #[x.val.agg]) (KpM w.heap.size) (fun xs => Mg (hds rs) (valsOf xs)) (fun pre => ∃ ys, Mg (hds rs) (valsOf pre ++ ys)) (tot (hds rs)) w :=
  merged_seqB n B hn a m c rs hm hmx hup w hr hb w.heap.size (Nat.le_refl _) (fun _ hh _ hq => (hds_mem hr (by omega) hh).1.lt hq)
end Go.Proofs.Ytjnpendihdlgnaa
