import Derived.Test.YtjnpendihdlgnaaM10
import Derived.Test.YtjnpendihdlgnaaM02
/-
  What 'merged' hands back: its contract.
-/
namespace Go.Proofs.Ytjnpendihdlgnaa
open Go.RowKit Go.Shelf
set_option maxRecDepth 100000
set_option maxHeartbeats 4000000
attribute [local go_sem] Oper.semAt_some
theorem went_mem {x : En} {L L1 : List Hd} (hw : Went x L L1) {h : Hd} (hh : h ∈ L1) {z : Tow} (hz : z ∈ h.R) : ∃ h', h' ∈ L ∧ z ∈ h'.R := by
  obtain ⟨d, r, p1, p2, _⟩ := hw
  rcases List.mem_append.1 (p2.mem_iff.1 hh) with hm | hm
  · obtain ⟨a, ha, e⟩ := List.mem_filterMap.1 hm
    obtain ⟨y, e1, _⟩ := adv_some e
    exact ⟨a, p1.mem_iff.2 (List.mem_append_left _ ha), by rw [e1]; exact List.mem_cons_of_mem _ hz⟩
  · exact ⟨h, p1.mem_iff.2 (List.mem_append_right _ hm), hz⟩
theorem hds_mem {w : World} {a : Option Addr} {rs : List Rw} (hr : RowsIn w a rs) (hn : rs.length ≤ 1000000) {h : Hd} (hh : h ∈ hds rs) : HdOk w h ∧ ∃ i x, rs[i]? = some x ∧ h.R = x.R ∧ h.no = i := by
  obtain ⟨i, x, h1, h2⟩ := mem_hds.1 hh
  have hi := (List.getElem?_eq_some_iff.1 h1).1
  have := hdOf_ok (hr i x h1).2 (by omega) h2
  exact ⟨this.1, i, x, h1, this.2.1, this.2.2.1⟩
theorem HB.wide {S S' : Nat → Prop} {w : World} {p o t : Nat} {cs : Array Value} {v : Value} {L : List Hd} (h : HB S w p o t cs v L) (hs : ∀ k, S k → S' k) (he : ∀ x, x ∈ L → ∀ q, x.uses q → ¬ S' q) : HB S' w p o t cs v L where
  blk := h.blk
  at' := h.at'
  sp := hs _ h.sp
  up := fun k hk => hs _ (h.up k hk)
  row := by
    rcases h.row with e | ⟨g, c, e, h1, h2, h3⟩
    · exact .inl e
    · exact .inr ⟨g, c, e, h1, h2, hs _ h3⟩
  each := fun x hx => ⟨(h.each x hx).1, he x hx⟩
  len := h.len
/-- The heads in a variable of their own. -/
theorem HB.box {S : Nat → Prop} {w : World} {p o t : Nat} {cs : Array Value} {v : Value} {L : List Hd} (h : HB S w p o t cs v L) : HB S (w.alloc (.cells #[v] 50)) w.heap.size 0 50 #[v] v L := by
  have tt := (Turns.refl (fun _ => False) w).alloc (.cells #[v] 50)
  have hs : (w.alloc (.cells #[v] 50)).heap.size = w.heap.size + 1 := by simp
  refine ⟨heap_alloc_new w _, by show 0 < 1; omega, h.up _ (Nat.le_refl _), fun k hk => h.up k (by omega), ?_, fun x hx => ⟨(h.each x hx).1.quiet tt, (h.each x hx).2⟩, h.len⟩
  rcases h.row with e | ⟨g, c, e, h1, h2, h3⟩
  · exact .inl e
  · exact .inr ⟨g, c, e, h1.keep tt (fun x => x), by have := h1.lt; omega, h3⟩
theorem merged_any (a : Option Addr) (n c : Nat) (w : World) : Calls Try.prog 33 #[.slice a n c] w fun e w' => e = .returned (.func (.func 49) #[] #[.pointer (some ⟨w.heap.size, 0, none⟩)]) ∧ w' = w.alloc (.cells #[.slice a n c] 28) := by
  go_enter Try.func33, Try.ntmps33
  go_wp2_with fail
  go_ret
  exact ⟨rfl, rfl⟩
abbrev El (rs : List Rw) := { x : Tow // x ∈ allOf rs }
def valsOf {rs : List Rw} (l : List (El rs)) : List Tow := l.map (·.val)
theorem merged1_in (n l B : Nat) (hn : 1 ≤ n) (a : Option Addr) (m c : Nat) (rs : List Rw) (hm : m = rs.length) (hmx : m ≤ 1000000) (hup : ∀ (i : Nat) (x : Rw), rs[i]? = some x → x.R.Pairwise ltT) (B0 : Nat) (J Jx : List (El rs) → World → Prop) (W : World) (hB0 : B0 ≤ W.heap.size)
    (hJ : StaysX TM W.heap.size J)
    (hY : ∀ pre x W1, J pre W1 → pre.length < tot (hds rs) → YieldAt Fence.wide (n - 1) Try.prog l #[x.val.agg] W1 fun e W' => (e = .returned (.bool true) ∧ J (pre ++ [x]) W' ∧ KpM B0 W1 W' ∧ KeepsFrom W.heap.size W1 W') ∨ (e = .returned (.bool false) ∧ Jx (pre ++ [x]) W' ∧ KeepsFrom W.heap.size W1 W'))
    (hr : RowsIn W a rs) (hlt : ∀ h, h ∈ hds rs → ∀ q, h.uses q → q < B0) (hb : W.cell? ⟨B, 0, none⟩ = some (.slice a m c)) (h0 : J [] W) :
    CallsIn Fence.wide n Try.prog 49 #[.func (.yield l) #[] #[], .pointer (some ⟨B, 0, none⟩)] W fun e W' => (∃ v, e = .returned v) ∧ ((∃ xs : List (El rs), Mg (hds rs) (valsOf xs) ∧ J xs W') ∨ (∃ pre : List (El rs), (∃ ys, Mg (hds rs) (valsOf pre ++ ys)) ∧ Jx pre W')) := by
  have HY := hide hY
  have HJ0 := hide h0
  have HO := hide (headsOf_any a m c rs W hr hm hmx)
  have HR := hide hr
  have HM := hide hm
  have HUP := hide hup
  have HLT := hide hlt
  have HJ := hide hJ
  clear hY h0 hr hm hup hlt hJ
  refine callsIn_of_wp Try.func49 rfl trivial ?_ rfl
  simp only [Try.ntmps49, List.size_toArray, List.length_cons, List.length_nil, Nat.reduceAdd, Nat.reduceSub, Array.replicate_succ, Array.replicate_zero, List.push_toArray, List.append_toArray, List.nil_append, List.cons_append]
  gi_wp2
  refine ⟨trivial, ?_⟩
  refine (callsIn_wide.2 HO.out).mono ?_
  rintro e w1 ⟨v, L, p0, rfl, hB1, hP1, hH1, hb1⟩
  have hok : ∀ h, h ∈ L → h ∈ hds rs := fun h hh => hP1.mem_iff.1 hh
  have hB2 := (hB1.wide (S' := fun k => B0 ≤ k) (fun k hk => Nat.le_trans hB0 hk) (fun x hx q hq => by have := HLT.out x (hok x hx) q hq; omega)).box
  have t2 := (Turns.of_below hb1 (fun _ => False)).alloc (.cells #[v] 50)
  have hJ2 := HJ.out _ _ _ HJ0.out (t2.mono fun _ _ x => x.elim)
  have hs1 := hb1.size
  have hrow1 : ∀ k, inRow v k → W.heap.size ≤ k := fun k hk => by
    obtain ⟨n', c', e⟩ := hk
    rcases hB1.row with ⟨e1, _⟩ | ⟨g, c1, e1, _, _, h3⟩
    · rw [e1] at e; cases e
    · rw [e1] at e; cases e; exact h3
  have hup1 : Up L := fun h hh => by
    obtain ⟨_, i, x, h1, h2, _⟩ := hds_mem HR.out (by rw [← HM.out]; exact hmx) (hok h hh)
    rw [h2]
    exact HUP.out i x h1
  have hmem1 : ∀ h, h ∈ L → ∀ z, z ∈ h.R → z ∈ allOf rs := fun h hh z hz => by
    obtain ⟨_, i, x, h1, h2, _⟩ := hds_mem HR.out (by rw [← HM.out]; exact hmx) (hok h hh)
    exact List.mem_flatMap.2 ⟨x, List.mem_of_getElem? h1, by rw [← h2]; exact hz⟩
  have ST := hide (show ∃ (pre : List (El rs)) (L1 : List Hd), J pre (w1.alloc (.cells #[v] 50)) ∧ HB (fun k => B0 ≤ k) (w1.alloc (.cells #[v] 50)) w1.heap.size 0 50 #[v] v L1 ∧ Hp.Heap ltH (hf L1) L1.length ∧ Up L1 ∧ (∀ h, h ∈ L1 → ∀ z, z ∈ h.R → z ∈ allOf rs) ∧ (∀ ys, Mg L1 ys → Mg (hds rs) (valsOf pre ++ ys)) ∧ pre.length + tot L1 ≤ tot (hds rs) ∧ (∀ k, inRow v k → W.heap.size ≤ k) from
    ⟨[], L, hJ2, hB2, hH1, hup1, hmem1, fun ys hy => hy.perm fun x => hP1.mem_iff, by rw [tot_perm hP1]; simp, hrow1⟩)
  obtain ⟨va, vn, vc, hv⟩ : ∃ a n c, v = .slice a n c := by
    rcases hB1.row with ⟨e, _⟩ | ⟨g, c, e, _⟩
    · exact ⟨_, _, _, e⟩
    · exact ⟨_, _, _, e⟩
  have hpW : W.heap.size ≤ w1.heap.size := hs1
  subst hv
  clear hB1 hP1 hH1 hb1 hok hB2 t2 hJ2 hs1 hrow1 hup1 hmem1
  gi_wp2
  generalize w1.alloc (.cells #[.slice va vn vc] 50) = w2 at *
  generalize w1.heap.size = p at *
  generalize hv0 : (#[Value.slice va vn vc] : Array Value) = cs0 at ST
  clear hv0
  generalize hW0 : W.heap.size = W0 at *
  gi_loopw [] (fun wr => ∃ (v : Value) (pre : List (El rs)) (L1 : List Hd), J pre wr ∧ HB (fun k => B0 ≤ k) wr p 0 50 cs0 v L1 ∧ Hp.Heap ltH (hf L1) L1.length ∧ Up L1 ∧ (∀ h, h ∈ L1 → ∀ z, z ∈ h.R → z ∈ allOf rs) ∧ (∀ ys, Mg L1 ys → Mg (hds rs) (valsOf pre ++ ys)) ∧ pre.length + tot L1 ≤ tot (hds rs) ∧ (∀ k, inRow v k → W0 ≤ k)) (fun wr => leftW p 0 wr)
  case atStart => exact ⟨_, ST.out⟩
  case round =>
    obtain ⟨v, pre, L1, hJ1, hB1, hH1, hU1, hE1, hG1, hN1, hV1⟩ := hrel
    have hcell := hB1.cell
    have J1 := hide hJ1
    have B1 := hide hB1
    have H1 := hide hH1
    have U1 := hide hU1
    have E1 := hide hE1
    have G1 := hide hG1
    have N1 := hide hN1
    have V1 := hide hV1
    clear hJ1 hB1 hH1 hU1 hE1 hG1 hN1 hV1
    cases L1 with
    | nil =>
      have hv1 : ∃ a c1, v = .slice a 0 c1 := by
        rcases B1.out.row with ⟨e, _⟩ | ⟨g, c1, e, _⟩
        · exact ⟨_, _, e⟩
        · exact ⟨_, _, e⟩
      obtain ⟨a1, c1, rfl⟩ := hv1
      gi_wp2
      refine ⟨trivial, ?_⟩
      gi_wp2
      refine ⟨fun _ e => (by cases e), ?_⟩
      gi_wp2
      go_end0
      have := G1.out [] Mg.nil
      rw [List.append_nil] at this
      exact ⟨⟨_, rfl⟩, .inl ⟨pre, this, J1.out⟩⟩
    | cons h1 T =>
      obtain ⟨g, c1, hv1, hR1, hgp1, hsg1⟩ := B1.out.full (by simp)
      subst hv1
      have hx1 := (B1.out.each h1 (by simp)).1
      obtain ⟨z, r, hz⟩ : ∃ z r, h1.R = z :: r := by
        have := hx1.ne
        cases e : h1.R with
        | nil => exact absurd e this
        | cons z r => exact ⟨z, r, rfl⟩
      have NX := hide (next_any (fun k => B0 ≤ k) p 0 50 cs0 _ T h1 z r wr B1.out H1.out U1.out hz)
      have HZ := hide hz
      have hnT : (T.length : Int) ≤ 1000000 := by have := B1.out.len; simp only [List.length_cons] at this; omega
      have hzU := E1.out h1 (by simp) z (by rw [hz]; simp)
      have hMin := hide (heap_first rfl H1.out)
      have MW := hide (leftW_of B1.out)
      simp only [List.length_cons] at hcell
      have hnp : 0 < T.length + 1 := by omega
      clear hR1 hx1 hz
      gi_wp2
      refine ⟨trivial, ?_⟩
      refine (callsIn_wide.2 NX.out).mono ?_
      rintro e w3 ⟨v3, L3, rfl, hB3, hH3, hW3, hD3, hT3, hM3⟩
      have hJ3 := HJ.out _ _ _ J1.out (hM3.mine B1.out hpW V1.out)
      obtain ⟨fn, tmps, assign, body, hy, hRd⟩ := HY.out pre ⟨z, hzU⟩ w3 hJ3 (by have := N1.out; omega)
      have RD := hide hRd
      have B3 := hide hB3
      have H3 := hide hH3
      have T3 := hide hT3
      have U3 := hide (U1.out.went hW3)
      have E3 := hide (show ∀ h, h ∈ L3 → ∀ z, z ∈ h.R → z ∈ allOf rs from fun h hh z hz => by
        obtain ⟨h', h4, h5⟩ := went_mem hW3 hh hz
        exact E1.out h' h4 z h5)
      have G3 := hide (show ∀ ys, Mg L3 ys → Mg (hds rs) (valsOf (pre ++ [⟨z, hzU⟩]) ++ ys) from fun ys hy => by
        have := G1.out _ (Mg.step U1.out (by simp) HZ.out hMin.out hW3 hD3 hy)
        simpa [valsOf] using this)
      have V3 := hide (show ∀ k, inRow v3 k → W0 ≤ k from fun k hk => by
        rcases hM3.2 k hk with x | x
        · exact V1.out k x
        · have := lt_of_heap B1.out.blk
          omega)
      unfold Tow.agg at hy
      simp only at hy
      clear hB3 hH3 hW3 hD3 hT3 hM3 hJ3 hRd
      gi_wp2
      refine RD.out.mono ?_
      rintro e W4 (⟨rfl, hJ4, hk4, _⟩ | ⟨rfl, hJx4, _⟩)
      · have B4 := hide (B3.out.kept hk4)
        have J4 := hide hJ4
        have MEA := hide (show leftW p 0 W4 < leftW p 0 wr by rw [leftW_of B4.out, MW.out]; exact T3.out)
        clear hk4 hJ4 hy
        gi_wp2
        go_roundw
        case rel => exact ⟨v3, pre ++ [⟨z, hzU⟩], L3, J4.out, B4.out, H3.out, U3.out, E3.out, G3.out, by have := N1.out; have := T3.out; rw [List.length_append, List.length_singleton]; omega, V3.out⟩
        case measure => exact MEA.out
      · gi_wp2
        go_end0
        obtain ⟨ys, hys⟩ := Mg.exist _ L3 (Nat.le_refl _) U3.out (fun h hh => (B3.out.each h hh).1.ne)
        exact ⟨⟨_, rfl⟩, .inr ⟨pre ++ [⟨z, hzU⟩], ⟨ys, G3.out ys hys⟩, hJx4⟩⟩
theorem merged_seqB (n B : Nat) (hn : 1 ≤ n) (a : Option Addr) (m c : Nat) (rs : List Rw) (hm : m = rs.length) (hmx : m ≤ 1000000) (hup : ∀ (i : Nat) (x : Rw), rs[i]? = some x → x.R.Pairwise ltT) (w : World) (hr : RowsIn w a rs) (hb : w.cell? ⟨B, 0, none⟩ = some (.slice a m c)) (B0 : Nat) (hB0 : B0 ≤ w.heap.size) (hlt : ∀ h, h ∈ hds rs → ∀ q, h.uses q → q < B0) :
    SeqX TM Fence.wide n Try.prog 49 #[.pointer (some ⟨B, 0, none⟩)] (fun x : El rs => #[x.val.agg]) (KpM B0) (fun xs => Mg (hds rs) (valsOf xs)) (fun pre => ∃ ys, Mg (hds rs) (valsOf pre ++ ys)) (tot (hds rs)) w := fun l J Jx W hW hJ _ hY h0 => by
  have t := Turns.of_below hW (fun _ => False)
  exact merged1_in n l B hn a m c rs hm hmx hup B0 J Jx W (Nat.le_trans hB0 hW.size) (hJ.stays (Nat.le_refl _)) hY (hr.quiet t) hlt (t.cell hb (fun x => x)) h0
theorem merged_seq (n B : Nat) (hn : 1 ≤ n) (a : Option Addr) (m c : Nat) (rs : List Rw) (hm : m = rs.length) (hmx : m ≤ 1000000) (hup : ∀ (i : Nat) (x : Rw), rs[i]? = some x → x.R.Pairwise ltT) (w : World) (hr : RowsIn w a rs) (hb : w.cell? ⟨B, 0, none⟩ = some (.slice a m c)) :
    SeqX TM Fence.wide n Try.prog 49 #[.pointer (some ⟨B, 0, none⟩)] (fun x : El rs => #[x.val.agg]) (KpM w.heap.size) (fun xs => Mg (hds rs) (valsOf xs)) (fun pre => ∃ ys, Mg (hds rs) (valsOf pre ++ ys)) (tot (hds rs)) w :=
  merged_seqB n B hn a m c rs hm hmx hup w hr hb w.heap.size (Nat.le_refl _) (fun _ hh _ hq => (hds_mem hr (by omega) hh).1.lt hq)
end Go.Proofs.Ytjnpendihdlgnaa

/-
  A region that draws its order, inside a round of a range over a function.
-/
namespace Go.Proofs.Ytjnpendihdlgnaa
open Go.RowKit Go.Shelf
def noDefer (o : Oper) : Bool := match o.op with | .defer _ => false | _ => true
theorem noDefer_spec {o : Oper} (h : noDefer o = true) : ∀ c, o.op ≠ .defer c := fun c e => by
  unfold noDefer at h
  rw [e] at h
  cases h
theorem stepsIn_round {P : Program} {l : Nat} {m m' : Machine} (h : Steps P m m') : StepsIn (Machine.fenced P (Fence.wide.inRound l)) P m m' := by
  rw [fenced_inRound]
  exact stepsIn_wide.2 h
section
variable {P : Program} {md : Region.Mode} {ops : Array Oper} {Q : Exit → Act → World → Prop} {l n : Nat}
/-- What a region must come to, if it may neither panic nor grow out. -/
def onlyEnd (Q : Exit → Act → World → Prop) : Exit → Act → World → Prop := fun e a w => e = .normal ∧ Q .normal a w
theorem oper_round {o : Oper} {a : Act} {w : World} {K K' : Act → World → Prop} (hd : ∀ c, o.op ≠ .defer c) (hK : ∀ a w, K a w → K' a w) (h : o.wp P a w K (onlyEnd Q)) : o.wpIn (Fence.wide.inRound l) n P a w K' Q := by
  unfold Oper.wp at h
  refine ⟨fun _ _ => trivial, ?_⟩
  rw [Oper.semAt_plain _ _ _ hd]
  generalize (execOp a.eval o).run P w = r at h
  cases r with
  | ok x w' =>
    cases x with
    | value v => exact hK _ _ h
    | skip => exact hK _ _ h
    | defer d => exact hK _ _ h
    | enter f args =>
      refine ⟨fun e => (by cases e), CallsIn.inRound l (callsIn_wide.2 (Calls.mono h ?_))⟩
      intro e w2 he
      cases e with
      | returned v => exact hK _ _ he
      | panicked ch => cases he.1
      | outgrown => obtain ⟨_, _, he⟩ := he; cases he.1
    | row r args =>
      refine ⟨fun e => (by cases e), fun c cs _ => ?_⟩
      obtain ⟨v, w2, hv, hs⟩ := h c cs
      exact ⟨v, w2, hK _ _ hv, stepsIn_round hs⟩
    | round a b c d e => exact False.elim h
    | _ => exact False.elim h
  | halt x w' =>
    cases x with
    | panic v => cases h.1
    | _ => exact False.elim h
theorem anyIn_of_any (hd : ops.all noDefer = true) : ∀ (fuel : Nat) (listed : Array Bool) (a : Act) (w : World), wpAny P md ops (onlyEnd Q) fuel listed a w → wpAnyIn (Fence.wide.inRound l) n P md ops Q fuel listed a w
  | 0, _, _, _, h => ⟨h.1, h.2.2⟩
  | fuel + 1, listed, a, w, h => by
    refine ⟨fun e => (h.1 e).2, fun i hi => ?_⟩
    have h1 := h.2 i hi
    unfold wpOp at h1
    unfold wpOpIn
    cases e : ops[i]? with
    | none =>
      rw [e] at h1
      exact anyIn_of_any hd fuel _ a w h1
    | some o =>
      rw [e] at h1
      simp only at h1 ⊢
      have hno := noDefer_spec (Array.all_eq_true'.1 hd o (Array.mem_of_getElem? e))
      split at h1
      · rename_i hw
        rw [if_pos hw]
        rcases h1 with h1 | ⟨_, _, _, h1⟩
        · exact oper_round hno (fun a w h => anyIn_of_any hd fuel _ a w h) h1
        · cases h1.1
      · rename_i hw
        rw [if_neg hw]
        exact ⟨fun _ _ => trivial, anyIn_of_any hd fuel _ _ w h1⟩
/-- The beginning: such a region, its loads under a condition. -/
theorem region_round {id : Nat} {S : World → Prop} {a : Act} {w : World} (hm : P.follows .mixedOrders = true) (hd : ops.all noDefer = true)
    (h : wpAnyH P .any ops (onlyEnd Q) S ops.size (Array.replicate ops.size false) a w.drew) : (Code.region id ops true).wpIn (Fence.wide.inRound l) n P Q a w :=
  wpIn_region_any hm (anyIn_of_any hd _ _ _ _ (wpAny_of_held _ _ _ _ h))
theorem region_round_z {id : Nat} {S : World → Prop} (z : Nat) {a : Act} {w : World} (hm : P.follows .mixedOrders = true) (hd : ops.all noDefer = true) (hS : S w.drew)
    (h : S w.drew → wpAnyZ P .any ops (onlyEnd Q) S z ops.size (Array.replicate ops.size false) a w.drew) : (Code.region id ops true).wpIn (Fence.wide.inRound l) n P Q a w :=
  wpIn_region_any hm (anyIn_of_any hd _ _ _ _ (wpAny_of_z _ _ _ _ (h hS)))
end
end Go.Proofs.Ytjnpendihdlgnaa

/-
  What a loop over an iterator has taken so far, in memory of its own.
-/
namespace Go.Proofs.Ytjnpendihdlgnaa
open Go.RowKit Go.Shelf
set_option maxRecDepth 100000
def IsT (T : TypeId → Prop) (W : World) (k : Nat) : Prop := ∃ cs t fr, T t ∧ W.heap[k]? = some (.cells cs t fr)
/-- What whoever ranges over an iterator whose cells are of those types may turn. -/
def KpT (T : TypeId → Prop) (B : Nat) (W W' : World) : Prop := Turns (fun k => B ≤ k ∧ ¬ IsT T W k) W W'
theorem KpT.trans {T : TypeId → Prop} {B : Nat} {X Y Z : World} (h : KpT T B X Y) (k : KpT T B Y Z) : KpT T B X Z := by
  refine ⟨k.os.trans h.os, k.tape.trans h.tape, k.output.trans h.output, Nat.le_trans h.size k.size, fun i hi hn => ?_⟩
  have h1 := h.block i hi hn
  refine (k.block i (Nat.lt_of_lt_of_le hi h.size) fun x => hn ⟨x.1, fun y => x.2 ?_⟩).trans h1
  obtain ⟨cs, t, fr, ht, e⟩ := y
  exact ⟨cs, t, fr, ht, h1.trans e⟩
theorem KpT.put {T : TypeId → Prop} {B : Nat} (W : World) (l : Nat) (o o' : Obj) (hB : B ≤ l) (hl : W.heap[l]? = some o) (ho : o.isCells = false) : KpT T B W (W.putObj l o') :=
  (turns_put o' hl).mono fun k _ e => by
    subst e
    exact ⟨hB, fun ⟨cs, t, fr, _, x⟩ => by rw [hl] at x; cases x; cases ho⟩
theorem KpT.quiet {T : TypeId → Prop} {B : Nat} {W W' : World} (h : Turns (fun _ => False) W W') : KpT T B W W' := h.mono fun _ _ x => x.elim
theorem KpT.one {T : TypeId → Prop} {B b t : Nat} {cs : Array Value} {fr : Nat × Nat} {W W' : World} (h : Turns (fun k => k = b) W W') (hb : B ≤ b) (hc : W.heap[b]? = some (.cells cs t fr)) (ht : ¬ T t) : KpT T B W W' := h.mono fun k _ e => by
  subst e
  exact ⟨hb, fun ⟨cs', t', fr', h1, h2⟩ => by rw [hc] at h2; cases h2; exact ht h1⟩
theorem loose_cells {T : TypeId → Prop} {B : Nat} {A A' : World} (tt : Turns (Loose T B A) A A') {k t : Nat} {cs : Array Value} {fr : Nat × Nat} (hk : A.heap[k]? = some (.cells cs t fr)) (ht : ¬ T t) : A'.heap[k]? = some (.cells cs t fr) :=
  tt.heap hk fun ⟨_, o, h1, h2⟩ => by
    rw [hk] at h1
    cases h1
    rcases h2 with h2 | ⟨cs', t', fr', h3, h4⟩
    · cases h2
    · cases h4; exact ht h3
theorem loose_low {T : TypeId → Prop} {B : Nat} {A A' : World} (tt : Turns (Loose T B A) A A') {N : Nat} (hN : N ≤ B) : Turns (fun k => N ≤ k) A A' := tt.mono fun _ _ h => Nat.le_trans hN h.1
/-- Entries that were copied: their bytes lie in blocks of bytes. -/
def Typ5 (W : World) (R : List Tow) : Prop := ∀ x, x ∈ R → ∀ q, x.bytesIn q → ∃ cs, W.heap[q]? = some (.cells cs 5 (0, 0))
theorem Typ5.keep {S : Nat → Prop} {W W' : World} {R : List Tow} (h : Typ5 W R) (t : Turns S W W') (hn : ∀ k cs, W.heap[k]? = some (.cells cs 5 (0, 0)) → ¬ S k) : Typ5 W' R := fun x hx q hq => by
  obtain ⟨cs, e⟩ := h x hx q hq
  exact ⟨cs, t.heap e (hn q cs e)⟩
theorem ERow.typed {w : World} {B : Nat} {v : Value} {R : List Tow} (h : ERow w B v R) {k : Nat} (hk : inRow v k) : ∃ cs, w.heap[k]? = some (.cells cs 25 (0, 0)) := by
  obtain ⟨m, d, e⟩ := hk
  rcases h with ⟨_, rfl⟩ | ⟨g, c, q, rfl, _, _, _, cs, h1, _⟩
  · cases e
  · cases e; exact ⟨cs, h1⟩
theorem Shown.keep5 {S : Nat → Prop} {W W' : World} {B : Nat} {R : List Tow} (h : Shown W B R) (h5 : Typ5 W R) (t : Turns S W W') (hn : ∀ k cs, W.heap[k]? = some (.cells cs 5 (0, 0)) → ¬ S k) : Shown W' B R := h.keep t fun x hx q hq => by
  obtain ⟨cs, e⟩ := h5 x hx q hq
  exact hn q cs e
/-- What has come so far: the row behind the variable N0 + 1, the number in N0. -/
def Got (N0 : Nat) (n : Int) (w : World) (R : List Tow) (W : World) : Prop :=
  ∃ v, (W.heap[N0 + 1]? = some (.cells #[v] 27 (0, 0)) ∧ W.heap[N0]? = some (.cells #[.int .i64 n] 3 (0, 0)) ∧ ERow W (N0 + 2) v R ∧ Shown W (N0 + 2) R ∧ Typ5 W R) ∧ Below N0 w W
structure Far (T : TypeId → Prop) : Prop where
  h3 : ¬ T 3
  h5 : ¬ T 5
  h25 : ¬ T 25
  h27 : ¬ T 27
theorem Got.own {T : TypeId → Prop} {N0 B : Nat} {n : Int} {w : World} {R : List Tow} (hT : Far T) (h1 : N0 ≤ w.heap.size) (hB : N0 ≤ B) {A A' : World} (h : Got N0 n w R A) (tt : Turns (Loose T B A) A A') : Got N0 n w R A' := by
  obtain ⟨v, ⟨a1, a2, a3, a4, a5⟩, a6⟩ := h
  have hn : ∀ k cs, A.heap[k]? = some (.cells cs 5 (0, 0)) → ¬ Loose T B A k := fun k cs e ⟨_, o, e1, e2⟩ => by
    rw [e] at e1
    cases e1
    rcases e2 with e2 | ⟨cs', t', fr', h3, h4⟩
    · cases e2
    · cases h4; exact hT.h5 h3
  refine ⟨v, ⟨loose_cells tt a1 hT.h27, loose_cells tt a2 hT.h3, a3.keep tt fun k hk ⟨_, o, e1, e2⟩ => ?_, a4.keep5 a5 tt hn, a5.keep tt hn⟩, ?_⟩
  · obtain ⟨cs, e⟩ := a3.typed hk
    rw [e] at e1
    cases e1
    rcases e2 with e2 | ⟨cs', t', fr', h3, h4⟩
    · cases e2
    · cases h4; exact hT.h25 h3
  · exact a6.trans ((loose_low tt hB).below (Nat.le_trans h1 a6.size) (fun _ h => h))
theorem body_end {T : TypeId → Prop} {N0 B0 : Nat} {n : Int} {w W W2 W4 : World} {R : List Tow} {v : Value} {y : Tow} {ka' va' : Option Addr} {kc' vc' g' n' c' : Nat} (hT : Far T) (hB0 : B0 ≤ N0) (g1 : W.heap[N0 + 1]? = some (.cells #[v] 27 (0, 0))) (g2 : W.heap[N0]? = some (.cells #[.int .i64 n] 3 (0, 0))) (g3 : ERow W (N0 + 2) v R) (g4 : Shown W (N0 + 2) R) (g5 : Typ5 W R) (g6 : Below N0 w W)
    (t6 : Turns (fun _ => False) W W2) (hk : Bytes W2 (.slice ka' y.e.key.length kc') y.e.key) (hv : Bytes W2 (.slice va' y.e.val.length vc') y.e.val) (hkb : ∀ x, ka' = some x → (W.heap.size ≤ x.block ∧ x.block < W2.heap.size) ∧ ∃ cs, W2.heap[x.block]? = some (.cells cs 5 (0, 0))) (hvb : ∀ x, va' = some x → (W.heap.size ≤ x.block ∧ x.block < W2.heap.size) ∧ ∃ cs, W2.heap[x.block]? = some (.cells cs 5 (0, 0)))
    (hrow : ERow W4 (N0 + 2) (.slice (some ⟨g', 0, none⟩) n' c') (R ++ [⟨ka', kc', va', vc', y.e⟩])) (t4 : Turns (inRow v) W2 W4) :
    W4.cell? ⟨N0 + 1, 0, none⟩ = some v ∧ W4.frozen? ⟨N0 + 1, 0, none⟩ = false ∧ (∀ B, KeepsFrom B W (W4.setCell ⟨N0 + 1, 0, none⟩ (.slice (some ⟨g', 0, none⟩) n' c'))) ∧ KpT T B0 W (W4.setCell ⟨N0 + 1, 0, none⟩ (.slice (some ⟨g', 0, none⟩) n' c')) ∧ Got N0 n w (R ++ [⟨ka', kc', va', vc', y.e⟩]) (W4.setCell ⟨N0 + 1, 0, none⟩ (.slice (some ⟨g', 0, none⟩) n' c')) := by
  have hrowb : ∀ {k}, inRow v k → N0 + 2 ≤ k ∧ k < W.heap.size := fun hk => g3.row hk
  have hrow25 : ∀ {k}, inRow v k → ∃ cs, W2.heap[k]? = some (.cells cs 25 (0, 0)) := fun hk => by
    obtain ⟨cs, e⟩ := g3.typed hk
    exact ⟨cs, t6.heap e (fun x => x)⟩
  have h62 := t6.size
  have h41 : W4.heap[N0 + 1]? = some (.cells #[v] 27 (0, 0)) := t4.heap (t6.heap g1 (fun x => x)) (fun h => by have := (hrowb h).1; omega)
  have h42 : W4.heap[N0]? = some (.cells #[.int .i64 n] 3 (0, 0)) := t4.heap (t6.heap g2 (fun x => x)) (fun h => by have := (hrowb h).1; omega)
  have tk := (Tick.refl h41).set 0 (.slice (some ⟨g', 0, none⟩) n' c')
  have tt := Turns.of_tick tk
  have n5 : ∀ k cs, W2.heap[k]? = some (.cells cs 5 (0, 0)) → ¬ inRow v k := fun k cs e h => by
    obtain ⟨cs', e'⟩ := hrow25 h
    rw [e] at e'
    cases e'
  have n5' : ∀ k cs, W4.heap[k]? = some (.cells cs 5 (0, 0)) → ¬ k = N0 + 1 := fun k cs e h => by
    rw [h, h41] at e
    cases e
  have hsz : W.heap.size ≤ W4.heap.size := Nat.le_trans t6.size t4.size
  have hR : Shown W4 (N0 + 2) R := (g4.keep5 g5 t6 fun _ _ _ x => x).keep5 (g5.keep t6 fun _ _ _ x => x) t4 n5
  have hR5 : Typ5 W4 R := (g5.keep t6 fun _ _ _ x => x).keep t4 n5
  have hx5 : Typ5 W2 [⟨ka', kc', va', vc', y.e⟩] := fun x hx q hq => by
    obtain rfl := List.mem_singleton.1 hx
    rcases hq with ⟨a, e, rfl⟩ | ⟨a, e, rfl⟩
    · exact (hkb a e).2
    · exact (hvb a e).2
  have hN : N0 + 1 < W.heap.size := lt_of_heap g1
  have hxs : Shown W2 (N0 + 2) [⟨ka', kc', va', vc', y.e⟩] := fun x hx => by
    obtain rfl := List.mem_singleton.1 hx
    refine ⟨hk, hv, fun q hq => ?_⟩
    rcases hq with ⟨a, e, rfl⟩ | ⟨a, e, rfl⟩
    · have := (hkb a e).1; omega
    · have := (hvb a e).1; omega
  have hX : Shown W4 (N0 + 2) [⟨ka', kc', va', vc', y.e⟩] := hxs.keep5 hx5 t4 n5
  have hX5 : Typ5 W4 [⟨ka', kc', va', vc', y.e⟩] := hx5.keep t4 n5
  have hRX : Shown W4 (N0 + 2) (R ++ [⟨ka', kc', va', vc', y.e⟩]) := fun x hx => (List.mem_append.1 hx).elim (hR x) (hX x)
  have hRX5 : Typ5 W4 (R ++ [⟨ka', kc', va', vc', y.e⟩]) := fun x hx => (List.mem_append.1 hx).elim (hR5 x) (hX5 x)
  have hKp : KpT T B0 W (W4.setCell ⟨N0 + 1, 0, none⟩ (.slice (some ⟨g', 0, none⟩) n' c')) := by
    refine ((KpT.quiet t6).trans (?_ : KpT T B0 W2 W4)).trans (KpT.one tt (by omega) h41 hT.h27)
    exact t4.mono fun k _ hk => ⟨by have := (hrowb hk).1; omega, fun ⟨cs', t', fr', e1, e2⟩ => by
      obtain ⟨cs, e⟩ := hrow25 hk
      rw [e] at e2
      cases e2
      exact hT.h25 e1⟩
  have hall : Turns (fun k => N0 ≤ k) W (W4.setCell ⟨N0 + 1, 0, none⟩ (.slice (some ⟨g', 0, none⟩) n' c')) := ((t6.mono fun _ _ x => x.elim).trans (t4.mono fun k _ h => by have := (hrowb h).1; show N0 ≤ k; omega)).trans (tt.mono fun k _ h => by show N0 ≤ k; omega)
  refine ⟨cell_of_row W4 _ 0 _ 27 (0, 0) h41, frozen_of_row W4 _ 0 _ 27 h41, fun B => ⟨hall.size, fun k ob _ hk ho => ?_⟩, hKp, _, ⟨tk.1, tt.heap h42 (by show ¬ N0 = N0 + 1; omega), hrow.keep tt fun k hk e => ?_, hRX.keep5 hRX5 tt n5', hRX5.keep tt n5'⟩, g6.trans (hall.below (by omega) (fun _ h => h))⟩
  · refine tt.heap (t4.heap (t6.heap hk (fun x => x)) fun h => ?_) fun h => ?_
    · obtain ⟨cs, h1⟩ := g3.typed h
      rw [hk] at h1
      cases h1
      cases ho
    · have : k = N0 + 1 := h
      rw [this, g1] at hk
      cases hk
      cases ho
  · obtain ⟨cs, e1⟩ := hrow.typed hk
    have e : k = N0 + 1 := e
    rw [e, h41] at e1
    cases e1
end Go.Proofs.Ytjnpendihdlgnaa

/-
  The first n entries that an iterator tells, copied.
-/
namespace Go.Proofs.Ytjnpendihdlgnaa
open Go.RowKit Go.Shelf
set_option maxRecDepth 100000
set_option maxHeartbeats 4000000
attribute [local go_sem] Oper.semAt_some
theorem ERow.le {w : World} {B B' : Nat} {v : Value} {R : List Tow} (h : ERow w B v R) (hB : B' ≤ B) : ERow w B' v R := by
  rcases h with h | ⟨g, c, n, h1, h2, h3, h4, h5⟩
  · exact .inl h
  · exact .inr ⟨g, c, n, h1, h2, h3, Nat.le_trans hB h4, h5⟩
theorem Shown.le {w : World} {B B' : Nat} {R : List Tow} (h : Shown w B R) (hB : B' ≤ B) : Shown w B' R := fun x hx => ⟨(h x hx).1, (h x hx).2.1, fun q hq => ⟨Nat.le_trans hB ((h x hx).2.2 q hq).1, ((h x hx).2.2 q hq).2⟩⟩
/-- What firstOf answers. -/
def FirstOk {α : Type} (tow : α → Tow) (S Sp : List α → Prop) (N : Nat) (n : Int) (R : List Tow) : Prop :=
  (n ≤ 0 ∧ R = []) ∨ (0 < n ∧ ∃ xs : List α, S xs ∧ R.map (·.e) = xs.map (fun x => (tow x).e) ∧ (xs.length : Int) < n) ∨ (0 < n ∧ ∃ pre : List α, Sp pre ∧ R.map (·.e) = pre.map (fun x => (tow x).e) ∧ (pre.length : Int) = n ∧ pre.length ≤ N)
theorem firstOf_any {α : Type} (T : TypeId → Prop) (hT : Far T) (tow : α → Tow) (gf : Nat) (lb : Array Value) (S Sp : List α → Prop) (N : Nat) (w : World) (n : Int) (eg : ∀ args w, (callFunc gf args).run Try.prog w = .ok (.enter gf args) w)
    (hseq : SeqX T Fence.wide 4 Try.prog gf lb (fun x : α => #[(tow x).agg]) (KpT T w.heap.size) S Sp N w) (hok : ∀ x, Bytes w (tow x).kv (tow x).e.key ∧ Bytes w (tow x).vv (tow x).e.val ∧ (tow x).e.key.length ≤ 1000000 ∧ (tow x).e.val.length ≤ 1000000) (hN : N ≤ 1000000) :
    Calls Try.prog 32 #[.func (.func gf) #[] lb, .int .i64 n] w fun e w' => ∃ v R, e = .returned v ∧ ERow w' w.heap.size v R ∧ Shown w' w.heap.size R ∧ Below w.heap.size w w' ∧ FirstOk tow S Sp N n R := by
  have T0 := hide (((Turns.refl (fun _ => False) w).alloc (.cells #[.int .i64 n] 3)).alloc (.cells #[.slice none 0 0] 27))
  have r0 := heap_keep ((Below.refl _ (w.alloc (.cells #[.int .i64 n] 3))).alloc (Nat.le_refl _) (.cells #[.slice none 0 0] 27)) (heap_alloc_new w (.cells #[.int .i64 n] 3))
  have r1 := heap_alloc_new (w.alloc (.cells #[.int .i64 n] 3)) (.cells #[.slice none 0 0] 27)
  rw [show (w.alloc (.cells #[.int .i64 n] 3)).heap.size = w.heap.size + 1 by simp] at r1
  have hsz : ((w.alloc (.cells #[.int .i64 n] 3)).alloc (.cells #[.slice none 0 0] 27)).heap.size = w.heap.size + 2 := by simp
  have R0 := hide r0
  have R1 := hide r1
  have HSZ := hide hsz
  have HOK := hide hok
  have HSEQ := hide hseq
  clear r0 r1 hsz hok hseq
  refine (callsIn_wide (n := 5)).1 ?_
  refine callsIn_of_wp_marks Try.func32 rfl trivial ?_ rfl
  simp only [Try.ntmps32, List.size_toArray, List.length_cons, List.length_nil, Nat.reduceAdd, Nat.reduceSub, Array.replicate_succ, Array.replicate_zero, List.push_toArray, List.append_toArray, List.nil_append, List.cons_append]
  by_cases hn0 : n ≤ 0
  · gi_wp2
    refine ⟨_, results_tmp rfl _ _ _, _, [], rfl, .inl ⟨rfl, rfl⟩, fun x hx => (by cases hx), T0.out.below (Nat.le_refl _) (fun _ x => x.elim), .inl ⟨hn0, rfl⟩⟩
  have hn1 : 0 < n := by omega
  gi_wp2
  generalize (w.alloc (.cells #[.int .i64 n] 3)).alloc (.cells #[.slice none 0 0] 27) = w0 at *
  obtain ⟨N0, hN0⟩ : ∃ N0, N0 = w.heap.size := ⟨_, rfl⟩
  rw [← hN0] at R0 R1 HSZ ⊢
  have HN0 := hide (show w.heap.size ≤ N0 by omega)
  have HNE := hide hN0
  have hG0 : Got N0 n w [] w0 := ⟨.slice none 0 0, ⟨R1.out, R0.out, .inl ⟨rfl, rfl⟩, fun x hx => (by cases hx), fun x hx => (by cases hx)⟩, T0.out.below (by omega) (fun _ x => x.elim)⟩
  have hsz0 := HSZ.out
  have hN1 := HN0.out
  have hN2 : N0 ≤ w.heap.size := by omega
  clear hN0
  refine range_x (w := w0) (n := 5) rfl (by decide) (gf := gf) (lb := lb) rfl trivial eg (hseq := HSEQ.out) KpT.trans (fun W l o o' hl ho hc => KpT.put W l o o' (by omega) ho hc) (T0.out.below (Nat.le_refl _) (fun _ x => x.elim)) (fun _ => rfl)
    (fun (pre : List α) W => ∃ R, Got N0 n w R W ∧ R.map (·.e) = pre.map (fun x => (tow x).e) ∧ (pre.length : Int) < n)
    (fun c pre W => ∃ R, c = .exit 0 ∧ Got N0 n w R W ∧ R.map (·.e) = pre.map (fun x => (tow x).e) ∧ (pre.length : Int) = n ∧ pre.length ≤ N)
    (fun s A A' ⟨R, h1, h2, h3⟩ tt => ⟨R, h1.own hT (by omega) (by omega) tt, h2, h3⟩)
    (fun c s A A' ⟨R, e, h1, h2, h3⟩ tt => ⟨R, e, h1.own hT (by omega) (by omega) tt, h2, h3⟩)
    ⟨[], hG0, rfl, by simpa using hn1⟩
    (fun (x : α) a' W => ∃ Be, w0.heap.size ≤ Be ∧ W.heap[Be]? = some (.cells #[.slice (tow x).ka (tow x).e.key.length (tow x).kc, .int .u64 ((tow x).e.seq : Nat), .int .i64 (tow x).e.kind, .slice (tow x).va (tow x).e.val.length (tow x).vc] 25 (0, 0)) ∧ a' = { tmps := #[.func (.func gf) #[] lb, .int .i64 n, undef, .pointer (some ⟨N0, 0, none⟩), .slice none 0 0, .pointer (some ⟨N0 + 1, 0, none⟩), .pointer (some ⟨Be, 0, none⟩), .int .i64 n, .bool false, undef, .func (.func gf) #[] lb, (tow x).agg, undef, undef, undef, undef, undef, undef, undef, undef, undef, undef], defers := [] })
    (fun x a' s A A' ⟨Be, h1, h2, h3⟩ tt => ⟨Be, h1, loose_cells tt h2 hT.h25, h3⟩) ?assign ?body ?done ?stop
  case assign =>
    rintro l pre x W K ⟨R, hG, hR, hlen⟩ hK
    unfold Tow.agg at hK ⊢
    gi_wp2
    have hW : N0 + 1 < W.heap.size := by
      obtain ⟨v, ⟨g1, _⟩, _⟩ := hG
      exact lt_of_heap g1
    refine hK _ _ ((KeepsOthers.alloc _ _).from _) (KpT.quiet ((Turns.refl _ W).alloc _)) ⟨R, hG.own (B := N0) hT (by omega) (Nat.le_refl _) ((Turns.refl _ W).alloc _), hR, hlen⟩ ⟨W.heap.size, by omega, heap_alloc_new W _, rfl⟩
  case body =>
    rintro l pre x a' W hl ⟨r, hr⟩ ⟨R, hG, hR, hlen⟩ ⟨Be, hBe, hE, rfl⟩ hlt
    obtain ⟨v, ⟨g1, g2, g3, g4, g5⟩, g6⟩ := hG
    have hRl : R.length = pre.length := by
      have := congrArg List.length hR
      simpa using this
    obtain ⟨a, c, rfl⟩ := g3.len
    have d0 : W.cell? ⟨N0 + 1, 0, none⟩ = some (.slice a R.length c) := cell_of_row W _ 0 _ 27 (0, 0) g1
    have HRL := hide (show R.length ≤ 1000000 by omega)
    have hkx := HOK.out x
    have tw := Turns.of_below (g6.mono (B' := w.heap.size) (by omega)) (fun _ => False)
    have HYE : Hid ((fun x => (tow x).e) x = (tow x).e) := hide rfl
    generalize tow x = y at *
    have HCL := hide (cloneTE_any y.ka y.va y.e.key.length y.kc y.e.val.length y.vc y.e.seq y.e.kind y.e.key y.e.val W.drew ((hkx.1.quiet tw).quiet (Turns.refl _ W).drew) ((hkx.2.1.quiet tw).quiet (Turns.refl _ W).drew) hkx.2.2.1 hkx.2.2.2)
    have e0 : W.cell? ⟨Be, 0, none⟩ = some (.slice y.ka y.e.key.length y.kc) := cell_of_row W Be 0 _ 25 (0, 0) hE
    have e1 : W.cell? ⟨Be, 1, none⟩ = some (.int .u64 (y.e.seq : Nat)) := cell_of_row W Be 1 _ 25 (0, 0) hE
    have e2 : W.cell? ⟨Be, 2, none⟩ = some (.int .i64 y.e.kind) := cell_of_row W Be 2 _ 25 (0, 0) hE
    have e3 : W.cell? ⟨Be, 3, none⟩ = some (.slice y.va y.e.val.length y.vc) := cell_of_row W Be 3 _ 25 (0, 0) hE
    have SKD := hide (fun (u : World) (tt : Turns (fun _ => False) W u) => tt.cell d0 (fun x => x))
    have G1 := hide g1
    have G2 := hide g2
    have G3 := hide g3
    have G4 := hide g4
    have G5 := hide g5
    have G6 := hide g6
    have HR := hide hR
    have HRP := hide hRl
    have tV : Turns (fun _ => False) W W.drew := (Turns.refl _ _).drew
    clear g1 g2 g3 g4 g5 g6 hR hRl hkx tw hE
    gi_wp2
    refine region_round_z 4 (S := fun u => u.cell? ⟨N0 + 1, 0, none⟩ = some (.slice a R.length c)) (by kernel_rfl) (by kernel_rfl) (SKD.out _ tV) (fun _ => ?_)
    change wpAnyZ _ _ _ _ _ _ 6 (Array.replicate 6 false) _ _
    refine wpAnyZ_take (i := 0) (oi := { dst := some 12, op := Op.load 27 (Operand.tmp 5), type := 27, pos := "merge.go:103", after := #[], guard := none }) (v := .slice a R.length c) rfl (by kernel_rfl) (by kernel_rfl) (by kernel_rfl) (by kernel_rfl) (fun _ _ _ h => by cases h.1) (Or.inl ⟨by rfl, ?_⟩) (SKD.out _ tV) ?_
    · rintro w d0
      go_simp
    simp only [Act.put, List.setIfInBounds_toArray, List.set_cons_zero, List.set_cons_succ]
    refine wpAnyZ_ready (rs := [1]) (by kernel_rfl) (by simp) ?_
    refine AllReadyZ.cons rfl (fun K hK => ?_) AllReadyZ.nil
    go_simp
    refine hK.out _ _ (SKD.out _ tV) (fun _ => ?_)
    clear hK K
    refine wpAnyZ_ready (rs := [2]) (by kernel_rfl) (by simp) ?_
    refine AllReadyZ.cons rfl (fun K hK => ?_) AllReadyZ.nil
    go_simp
    refine HCL.out.mono ?_
    rintro oo W2 ⟨ka', kc', va', vc', rfl, hk6, hv6, hkb, hvb, b6⟩
    have t6 := (Turns.refl (fun _ => False) W).drew.trans (Turns.of_below b6 (fun _ => False))
    go_simp
    refine hK.out _ _ (SKD.out _ t6) (fun _ => ?_)
    clear hK K
    have ta : Turns (fun _ => False) W (W2.alloc (.cells #[.slice ka' y.e.key.length kc', .int .u64 (y.e.seq : Nat), .int .i64 y.e.kind, .slice va' y.e.val.length vc'] 25)) := t6.alloc _
    have tal : Turns (fun _ => False) W2 (W2.alloc (.cells #[.slice ka' y.e.key.length kc', .int .u64 (y.e.seq : Nat), .int .i64 y.e.kind, .slice va' y.e.val.length vc'] 25)) := (Turns.refl _ W2).alloc _
    obtain ⟨g', n', c', W4, hr4, hrow4, t4, b4, hin4⟩ := append_ent (W2.alloc (.cells #[.slice ka' y.e.key.length kc', .int .u64 (y.e.seq : Nat), .int .i64 y.e.kind, .slice va' y.e.val.length vc'] 25)) (N0 + 2) (.slice a R.length c) R (G3.out.keep ta (fun _ _ x => x)) (by have h1 := lt_of_heap G1.out; have h2 := ta.size; omega) (by have := HRL.out; omega) ⟨ka', kc', va', vc', y.e⟩ W2.heap.size 1 (heap_alloc_new W2 _)
    have hkd : ∀ {q : Option Addr}, (∀ x, q = some x → (W.drew.heap.size ≤ x.block ∧ x.block < W2.heap.size) ∧ ∃ cs, W2.heap[x.block]? = some (.cells cs 5 (0, 0))) → ∀ x, q = some x → (W.heap.size ≤ x.block ∧ x.block < (W2.alloc (.cells #[.slice ka' y.e.key.length kc', .int .u64 (y.e.seq : Nat), .int .i64 y.e.kind, .slice va' y.e.val.length vc'] 25)).heap.size) ∧ ∃ cs, (W2.alloc (.cells #[.slice ka' y.e.key.length kc', .int .u64 (y.e.seq : Nat), .int .i64 y.e.kind, .slice va' y.e.val.length vc'] 25)).heap[x.block]? = some (.cells cs 5 (0, 0)) := fun h x e => ⟨⟨(h x e).1.1, Nat.lt_of_lt_of_le (h x e).1.2 tal.size⟩, (h x e).2.choose, tal.heap (h x e).2.choose_spec (fun x => x)⟩
    have FB := hide (body_end (T := T) (B0 := w.heap.size) (n := n) (N0 := N0) (w := w) (y := y) hT HN0.out G1.out G2.out G3.out G4.out G5.out G6.out ta (hk6.quiet tal) (hv6.quiet tal) (hkd hkb) (hkd hvb) hrow4 t4)
    have HQ := hide (hr4 27)
    have HROW := hide hrow4.len
    have C5 := hide (show (W4.setCell ⟨N0 + 1, 0, none⟩ (.slice (some ⟨g', 0, none⟩) n' c')).cell? ⟨N0 + 1, 0, none⟩ = some (.slice (some ⟨g', 0, none⟩) n' c') from by obtain ⟨v9, ⟨q1, q2⟩, q3⟩ := FB.out.2.2.2.2; have q4 := ((Tick.refl (t4.heap (ta.heap G1.out (fun x => x)) (fun h => by have := (G3.out.row h).1; omega))).set 0 (.slice (some ⟨g', 0, none⟩) n' c')); exact q4.cell 0)
    have c1 := (SKD.out _ ta)
    clear hk6 hv6 hkb hvb b6 ta tal hr4 hrow4 t4 b4 hin4 hkd
    refine wpAnyZ_ready (rs := [3]) (by kernel_rfl) (by simp) ?_
    refine AllReadyZ.cons rfl (fun K hK => ?_) AllReadyZ.nil
    go_simp
    refine hK.out _ _ c1 (fun _ => ?_)
    clear hK K c1
    refine wpAnyZ_ready (rs := [4]) (by kernel_rfl) (by simp) ?_
    refine AllReadyZ.free rfl (by kernel_rfl) (fun K hK => ?_) AllReadyZ.nil
    refine step_append_run rfl (.tmp 12) (.tmp 15) 27 rfl (.slice a R.length c) (.slice (some ⟨W2.heap.size, 0, none⟩) 1 1) rfl rfl _ _ HQ.out _ rfl ?_
    refine hK.out _ _ ?_
    clear hK K
    have FC := FB.out.1
    have FZ := FB.out.2.1
    refine wpAnyZ_ready (rs := [5]) (by kernel_rfl) (by simp) ?_
    refine AllReadyZ.free rfl (by kernel_rfl) (fun K hK => ?_) AllReadyZ.nil
    go_simp
    refine hK.out _ _ ?_
    clear hK K FC FZ
    refine wpAnyZ_done (by kernel_rfl) ?_ _
    refine ⟨rfl, ?_⟩
    have hn' : n' = R.length + 1 := by
      obtain ⟨_, _, e⟩ := HROW.out
      cases e
      simp
    subst hn'
    obtain ⟨_, _, FK, FP, FG⟩ := FB.out
    clear FB HQ HROW HCL SKD t6
    generalize W4.setCell ⟨N0 + 1, 0, none⟩ (.slice (some ⟨g', 0, none⟩) (R.length + 1) c') = W5 at *
    have hcc : W5.cell? ⟨N0 + 1, 0, none⟩ = some (.slice (some ⟨g', 0, none⟩) (R.length + 1) c') := C5.out
    have hcn : W5.cell? ⟨N0, 0, none⟩ = some (.int .i64 n) := by
      obtain ⟨v, ⟨_, k2, _⟩, _⟩ := FG
      exact cell_of_row W5 _ 0 _ 3 (0, 0) k2
    have FE := hide (show (R ++ [(⟨ka', kc', va', vc', y.e⟩ : Tow)]).map (·.e) = (pre ++ [x]).map (fun x => (tow x).e) by rw [List.map_append, List.map_append, HR.out, List.map_singleton, List.map_singleton, HYE.out])
    have FKH := hide FK
    have FPH := hide FP
    have FGH := hide FG
    have HRQ := HRP.out
    clear FK FP FG e0 e1 e2 e3 d0
    by_cases hlast : (R.length : Int) + 1 = n
    · gi_wp2
      exact ⟨FKH.out _, _, rfl, FGH.out, FE.out, by rw [List.length_append, List.length_singleton]; omega, by rw [List.length_append, List.length_singleton]; omega⟩
    · gi_wp2
      exact ⟨FKH.out _, FPH.out, _, FGH.out, FE.out, by rw [List.length_append, List.length_singleton]; omega⟩
  case done =>
    rintro D xs W hD hS ⟨R, hG, hR, hlen⟩ hK
    have hGF := hG.own (B := w0.heap.size) hT (by omega) (by omega) ((turns_put (.deferred none) hK).mono fun k _ e => by subst e; exact ⟨hD, _, hK, .inl rfl⟩)
    have HGF := hide hGF
    obtain ⟨v, ⟨g1, g2, g3, g4, g5⟩, g6⟩ := hG
    have c1 : W.cell? ⟨N0 + 1, 0, none⟩ = some v := cell_of_row W _ 0 _ 27 (0, 0) g1
    obtain ⟨a, c, rfl⟩ := g3.len
    have HG1 := hide g1
    have HK := hide hK
    have HR := hide hR
    have HS := hide hS
    clear g1 g2 g3 g4 g5 g6 hGF hR hS
    gi_wp2
    refine ⟨by simp, .inl ⟨_, _, rfl, run_takeDeferred HK.out, ?_⟩⟩
    obtain ⟨v', ⟨k1, k2, k3, k4, k5⟩, k6⟩ := HGF.out
    have hD1 : N0 + 1 ≠ D := by omega
    have e1 : v' = .slice a R.length c := by
      rw [World.putObj_heap_other hD1, HG1.out] at k1
      cases k1
      rfl
    subst e1
    exact ⟨_, results_tmp rfl _ _ _, _, R, rfl, k3.le (by omega), k4.le (by omega), k6.mono (by omega), .inr (.inl ⟨hn1, xs, HS.out, HR.out, hlen⟩)⟩
  case stop =>
    rintro D c pre W hD hS ⟨R, rfl, hG, hR, hlen⟩ hK
    have hGF := hG.own (B := w0.heap.size) hT (by omega) (by omega) ((turns_put (.deferred none) hK).mono fun k _ e => by subst e; exact ⟨hD, _, hK, .inl rfl⟩)
    have HGF := hide hGF
    obtain ⟨v, ⟨g1, g2, g3, g4, g5⟩, g6⟩ := hG
    have c1 : W.cell? ⟨N0 + 1, 0, none⟩ = some v := cell_of_row W _ 0 _ 27 (0, 0) g1
    obtain ⟨a, c, rfl⟩ := g3.len
    have HG1 := hide g1
    have HK := hide hK
    have HR := hide hR
    have HS := hide hS
    clear g1 g2 g3 g4 g5 g6 hGF hR hS
    gi_wp2
    refine ⟨by simp, .inl ⟨_, _, rfl, run_takeDeferred HK.out, ?_⟩⟩
    obtain ⟨v', ⟨k1, k2, k3, k4, k5⟩, k6⟩ := HGF.out
    have hD1 : N0 + 1 ≠ D := by omega
    have e1 : v' = .slice a R.length c := by
      rw [World.putObj_heap_other hD1, HG1.out] at k1
      cases k1
      rfl
    subst e1
    exact ⟨_, results_tmp rfl _ _ _, _, R, rfl, k3.le (by omega), k4.le (by omega), k6.mono (by omega), .inr (.inr ⟨hn1, pre, HS.out, HR.out, hlen⟩)⟩
end Go.Proofs.Ytjnpendihdlgnaa

/-
  Check: are entries in order?
-/
namespace Go.Proofs.Ytjnpendihdlgnaa
open Go.RowKit
set_option maxRecDepth 100000
set_option maxHeartbeats 4000000
def ordE (b : Bool) : Int := if b then 0 else 2
theorem check_any (a : Option Addr) (n c : Nat) (l : List Tow) (w : World) (h : Ents w a l) (hn : n = l.length) (hmx : n ≤ 1000000) :
    Calls Try.prog 12 #[.slice a n c] w fun e w' => e = .returned (.int .i64 (ordE (inOrd (ents l)))) ∧ Below w.heap.size w w' := by
  have HL := hide hn
  have HA := hide h
  generalize hB : w.heap.size = B
  have HB := hide hB
  clear hn h hB
  go_enter Try.func12, Try.ntmps12
  go_wp2_with fail
  go_loopw [3] (fun iv wr => ∃ k : Nat, iv = .int .i64 (k : Nat) ∧ 1 ≤ k ∧ k ≤ n + 1 ∧ (∀ j x y, j + 1 < k → (ents l)[j]? = some x → (ents l)[j + 1]? = some y → cmpE x.en y.en < 0) ∧ Below B w wr) (fun iv _ => n + 1 - (intOf iv).toNat)
  case atStart => exact ⟨1, rfl, by omega, by omega, fun j x y h => by omega, Below.refl _ _⟩
  case round =>
    obtain ⟨k, rfl, hk1, hk, hord, hbw⟩ := hrel
    have BW := hide hbw
    have HO := hide hord
    clear hord
    by_cases hk2 : k < n
    · obtain ⟨p, rfl⟩ : ∃ p, k = p + 1 := ⟨k - 1, by omega⟩
      have i1 : (p : Int) + 1 < n := by omega
      have i0 : (0 : Int) ≤ (p : Int) + 1 := by omega
      have i2 : (0 : Int) ≤ (p : Int) := by omega
      have i3 : (p : Int) < n := by omega
      have i4 : IntKind.i64.wrap (p : Int) = (p : Int) := wrapI _ (by omega) (by omega)
      have hkl : p + 1 < l.length := by have := HL.out; omega
      have hpl : p < l.length := by omega
      have tt := Turns.of_below (show Below w.heap.size w wr by rw [HB.out]; exact hbw) (fun _ => False)
      obtain ⟨⟨b, off, rfl, hc⟩, k1, k2⟩ := (HA.out.quiet tt) p l[p] (List.getElem?_eq_getElem hpl)
      obtain ⟨⟨b', off', e', hc'⟩, k3, k4⟩ := (HA.out.quiet tt) (p + 1) l[p + 1] (List.getElem?_eq_getElem hkl)
      cases e'
      have HE1 := hide (ents_at hpl)
      have HE2 := hide (ents_at hkl)
      have hsz : B ≤ wr.heap.size := by have := tt.size; have := HB.out; omega
      generalize l[p] = x at *
      generalize l[p + 1] = x' at *
      obtain ⟨ka, kc, va, vc, e⟩ := x
      obtain ⟨ka', kc', va', vc', e'⟩ := x'
      have c0 : wr.cell? ⟨b, off + p * 4, none⟩ = some (.slice ka e.key.length kc) := hc 0 _ rfl
      have c1 : wr.cell? ⟨b, off + p * 4 + 1, none⟩ = some (.int .u64 (e.seq : Nat)) := hc 1 _ rfl
      have c2 : wr.cell? ⟨b, off + p * 4 + 2, none⟩ = some (.int .i64 e.kind) := hc 2 _ rfl
      have c3 : wr.cell? ⟨b, off + p * 4 + 3, none⟩ = some (.slice va e.val.length vc) := hc 3 _ rfl
      have d0 : wr.cell? ⟨b, off + (p + 1) * 4, none⟩ = some (.slice ka' e'.key.length kc') := hc' 0 _ rfl
      have d1 : wr.cell? ⟨b, off + (p + 1) * 4 + 1, none⟩ = some (.int .u64 (e'.seq : Nat)) := hc' 1 _ rfl
      have d2 : wr.cell? ⟨b, off + (p + 1) * 4 + 2, none⟩ = some (.int .i64 e'.kind) := hc' 2 _ rfl
      have d3 : wr.cell? ⟨b, off + (p + 1) * 4 + 3, none⟩ = some (.slice va' e'.val.length vc') := hc' 3 _ rfl
      have t0 : Turns (fun _ => False) wr wr.drew := (Turns.refl _ _).drew
      have HQ := hide (compare_any ka ka' va va' e.key.length kc e.val.length vc e'.key.length kc' e'.val.length vc' e.kind e'.kind e.seq e'.seq e.key e'.key wr.drew (Bytes.quiet k1 t0) (Bytes.quiet k3 t0))
      clear hc hc' k1 k2 k3 k4 tt hbw t0
      have ep : ((p + 1 : Nat) : Int) - 1 = (p : Int) := by omega
      generalize hcv : cmpE (e.key, e.seq) (e'.key, e'.seq) = cv at *
      have HCV := hide hcv
      clear hcv
      go_wp2_with fail
      go_region_held (fun w' => (w'.cell? ⟨b, off + p * 4, none⟩ = some (.slice ka e.key.length kc) ∧ w'.cell? ⟨b, off + p * 4 + 1, none⟩ = some (.int .u64 (e.seq : Nat)) ∧ w'.cell? ⟨b, off + p * 4 + 2, none⟩ = some (.int .i64 e.kind) ∧ w'.cell? ⟨b, off + p * 4 + 3, none⟩ = some (.slice va e.val.length vc)) ∧ w'.cell? ⟨b, off + (p + 1) * 4, none⟩ = some (.slice ka' e'.key.length kc') ∧ w'.cell? ⟨b, off + (p + 1) * 4 + 1, none⟩ = some (.int .u64 (e'.seq : Nat)) ∧ w'.cell? ⟨b, off + (p + 1) * 4 + 2, none⟩ = some (.int .i64 e'.kind) ∧ w'.cell? ⟨b, off + (p + 1) * 4 + 3, none⟩ = some (.slice va' e'.val.length vc')) (first | (with_reducible exact ⟨⟨f0, f1, f2, f3⟩, g0, g1, g2, g3⟩) | (simp only [World.cell?_drew]; with_reducible exact ⟨⟨c0, c1, c2, c3⟩, d0, d1, d2, d3⟩)) (first
        | (go_at_call 34; refine HQ.out.mono ?_; rintro x w2 ⟨rfl, b2⟩; have t2 := (Turns.refl (fun _ => False) wr).drew.trans (Turns.of_below b2 (fun _ => False)); have f0 := t2.cell c0 (fun x => x); have f1 := t2.cell c1 (fun x => x); have f2 := t2.cell c2 (fun x => x); have f3 := t2.cell c3 (fun x => x); have g0 := t2.cell d0 (fun x => x); have g1 := t2.cell d1 (fun x => x); have g2 := t2.cell d2 (fun x => x); have g3 := t2.cell d3 (fun x => x); have T2 := hide t2; clear t2 b2))
      clear f0 f1 f2 f3 g0 g1 g2 g3
      by_cases hlt : cv < 0
      · have hlt' : ¬ (0 : Int) ≤ cv := by omega
        go_wp2_with fail
        go_roundw
        case rel =>
          refine ⟨p + 2, by go_num, by omega, by omega, fun j x y hj hx hy => ?_, BW.out.trans (T2.out.below hsz (fun _ h => h.elim))⟩
          by_cases hjp : j = p
          · subst hjp
            have e1 : e = x := by have := HE1.out; rw [hx] at this; exact (Option.some.inj this).symm
            have e2 : e' = y := by have := HE2.out; rw [hy] at this; exact (Option.some.inj this).symm
            subst e1 e2
            show cmpE (e.key, e.seq) (e'.key, e'.seq) < 0
            rw [HCV.out]; exact hlt
          · exact HO.out j x y (by omega) hx hy
        case measure => simp [intOf]; omega
      · have hlt' : (0 : Int) ≤ cv := by omega
        go_wp2_with fail
        go_ret
        refine ⟨congrArg Ending.returned (congrArg (Value.int .i64) (Eq.symm ?_)), BW.out.trans (T2.out.below hsz (fun _ h => h.elim))⟩
        suffices hf : inOrd (ents l) = false by rw [hf]; rfl
        refine Bool.eq_false_iff.2 fun q => ?_
        have := (inOrd_iff _).1 q p e e' HE1.out HE2.out
        have h9 := HCV.out
        unfold Ent.en at this
        omega
    · have i1 : ¬ (k : Int) < n := by omega
      go_wp2_with fail
      go_ret
      refine ⟨congrArg Ending.returned (congrArg (Value.int .i64) (Eq.symm ?_)), BW.out⟩
      suffices hf : inOrd (ents l) = true by rw [hf]; rfl
      refine (inOrd_iff _).2 fun j x y hx hy => HO.out j x y ?_ hx hy
      have := (List.getElem?_eq_some_iff.1 hy).1
      have h9 := HL.out
      simp only [ents, List.length_map] at this
      omega
def eachOrd (rs : List Rw) : Bool := rs.all fun x => inOrd (ents x.R)
theorem checkEach_any (a : Option Addr) (n c : Nat) (rs : List Rw) (w : World) (h : RowsIn w a rs) (hn : n = rs.length) (hmx : n ≤ 1000000) :
    Calls Try.prog 31 #[.slice a n c] w fun e w' => e = .returned (.int .i64 (ordE (eachOrd rs))) ∧ Below w.heap.size w w' := by
  have H0 := hide h
  have HN := hide hn
  clear h hn
  go_enter Try.func31, Try.ntmps31
  go_wp2_with fail
  go_loopw [8] (fun v8 wr => ∃ i : Nat, v8 = .int .i64 (i : Nat) ∧ i ≤ n ∧ (∀ j x, j < i → rs[j]? = some x → inOrd (ents x.R) = true) ∧ Below w.heap.size w wr) (fun v8 _ => n - (intOf v8).toNat)
  case atStart => exact ⟨0, rfl, Nat.zero_le _, fun j x hj => by omega, Below.refl _ _⟩
  case round =>
    obtain ⟨i, rfl, hi, hO, hb⟩ := hrel
    have HO := hide hO
    have BW := hide hb
    have TW := hide (Turns.of_below hb (fun _ => False))
    clear hO hb
    by_cases hin : i < n
    · obtain ⟨x, hx⟩ : ∃ x, rs[i]? = some x := ⟨_, List.getElem?_eq_getElem (by have := HN.out; omega)⟩
      obtain ⟨⟨b, off, rfl, hc⟩, hok⟩ := H0.out i x hx
      have hc1 := TW.out.cell hc (fun x => x)
      have i1 : (i : Int) < n := by omega
      have i0 : (0 : Int) ≤ i := by omega
      have HX := hide hx
      have HCK := hide (check_any x.a x.R.length x.c x.R wr (hok.ents.quiet TW.out) rfl hok.size)
      clear hx hok hc
      obtain ⟨xa, xc, xR⟩ := x
      simp only at *
      generalize hxl : xR.length = xl at *
      clear hxl
      cases ho : inOrd (ents xR) with
      | true =>
        rw [ho] at HCK
        have HOX := hide ho
        clear ho
        go_wp2_with fail
        refine HCK.out.mono ?_
        rintro e w2 ⟨rfl, hb2⟩
        have B2 := hide (then_below BW.out hb2 (Nat.le_refl _))
        clear hb2
        rw [show ordE true = 0 from rfl]
        go_wp2_with fail
        go_roundw
        case rel => exact ⟨i + 1, by go_num, by omega, fun j x hj hx => by
          by_cases e : j = i
          · subst e
            have := HX.out
            rw [hx] at this
            cases this
            exact HOX.out
          · exact HO.out j x (by omega) hx, B2.out⟩
        case measure => simp [intOf]; omega
      | false =>
        rw [ho] at HCK
        have HOX := hide ho
        clear ho
        go_wp2_with fail
        refine HCK.out.mono ?_
        rintro e w2 ⟨rfl, hb2⟩
        have B2 := hide (then_below BW.out hb2 (Nat.le_refl _))
        clear hb2
        rw [show ordE false = 2 from rfl]
        have FIN := hide (show ordE (eachOrd rs) = 2 by
          have : eachOrd rs = false := by
            refine Bool.eq_false_iff.2 fun q => ?_
            have := List.all_eq_true.1 q _ (List.mem_of_getElem? HX.out)
            rw [HOX.out] at this
            cases this
          rw [this]; rfl)
        go_wp2_with fail
        go_ret
        exact ⟨by rw [FIN.out]; rfl, B2.out⟩
    · obtain rfl : i = n := by omega
      have FIN := hide (show ordE (eachOrd rs) = 0 by
        have : eachOrd rs = true := List.all_eq_true.2 fun x hx => by
          obtain ⟨j, hj⟩ := List.getElem?_of_mem hx
          exact HO.out j x (by have := (List.getElem?_eq_some_iff.1 hj).1; have := HN.out; omega) hj
        rw [this]; rfl)
      go_wp2_with fail
      go_ret
      exact ⟨by rw [FIN.out]; rfl, BW.out⟩
end Go.Proofs.Ytjnpendihdlgnaa

/-
  All: the entries of all rows, merged.
-/
namespace Go.Proofs.Ytjnpendihdlgnaa
open Go.RowKit Go.Shelf
set_option maxRecDepth 100000
set_option maxHeartbeats 4000000
/-- Rows whose entries may be copied. -/
structure Fine (rs : List Rw) : Prop where
  rows : rs.length ≤ 1000000
  all : tot (hds rs) ≤ 1000000
  size : ∀ x, x ∈ allOf rs → x.e.key.length ≤ 1000000 ∧ x.e.val.length ≤ 1000000
theorem far_TM : Far TM := ⟨fun h => h.elim (by decide) (by decide), fun h => h.elim (by decide) (by decide), fun h => h.elim (by decide) (by decide), fun h => h.elim (by decide) (by decide)⟩
theorem all_bytes {w : World} {a : Option Addr} {rs : List Rw} (h : RowsIn w a rs) {x : Tow} (hx : x ∈ allOf rs) : Bytes w x.kv x.e.key ∧ Bytes w x.vv x.e.val := by
  obtain ⟨r, hr, hxr⟩ := List.mem_flatMap.1 hx
  obtain ⟨i, hi⟩ := List.getElem?_of_mem hr
  obtain ⟨j, hj⟩ := List.getElem?_of_mem hxr
  obtain ⟨_, h1, h2⟩ := (h i r hi).2.ents j x hj
  exact ⟨h1, h2⟩
theorem pairwise_of_ord {R : List Tow} (h : inOrd (ents R) = true) : R.Pairwise ltT := by
  induction R with
  | nil => exact List.Pairwise.nil
  | cons x r ih =>
    cases r with
    | nil => simp
    | cons y r =>
      have h1 : (decide (cmpE x.e.en y.e.en < 0) && inOrd (ents (y :: r))) = true := h
      rw [Bool.and_eq_true, decide_eq_true_eq] at h1
      have h2 := ih h1.2
      refine List.pairwise_cons.2 ⟨fun z hz => ?_, h2⟩
      rcases List.mem_cons.1 hz with rfl | hz
      · exact h1.1
      · have h3 := (List.pairwise_cons.1 h2).1 z hz
        unfold ltT at h3 ⊢
        exact cmpE_lt_le h1.1 (by omega)
theorem ord_up {rs : List Rw} (h : eachOrd rs = true) : ∀ (i : Nat) (x : Rw), rs[i]? = some x → x.R.Pairwise ltT := fun _ _ hi => pairwise_of_ord (List.all_eq_true.1 h _ (List.mem_of_getElem? hi))
/-- What All answers. -/
def AllOk (rs : List Rw) (R : List Tow) : Prop := (eachOrd rs = true ∧ ∃ xs, Mg (hds rs) xs ∧ R.map (·.e) = xs.map (·.e)) ∨ (eachOrd rs = false ∧ R = [])
theorem enters49 : ∀ args w, (callFunc 49 args).run Try.prog w = .ok (.enter 49 args) w := enters_of Try.func49 (by kernel_rfl) rfl
theorem all_any (a : Option Addr) (n c : Nat) (rs : List Rw) (w : World) (h : RowsIn w a rs) (hn : n = rs.length) (hf : Fine rs) :
    Calls Try.prog 10 #[.slice a n c] w fun e w' => ∃ v R, e = .returned (.tuple #[v, .int .i64 (ordE (eachOrd rs))]) ∧ ERow w' w.heap.size v R ∧ Shown w' w.heap.size R ∧ Below w.heap.size w w' ∧ AllOk rs R := by
  have hmx : n ≤ 1000000 := by have := hf.rows; omega
  have HC := hide (checkEach_any a n c rs w h hn hmx)
  have H0 := hide h
  have HN := hide hn
  have HF := hide hf
  clear h hn hf
  cases ho : eachOrd rs with
  | false =>
    rw [ho] at HC
    have HO := hide ho
    clear ho
    go_enter Try.func10, Try.ntmps10
    go_wp2_with fail
    refine HC.out.mono ?_
    rintro e w1 ⟨rfl, hb⟩
    rw [show ordE false = 2 from rfl]
    go_wp2_with fail
    go_ret2
    exact ⟨_, [], rfl, .inl ⟨rfl, rfl⟩, fun x hx => (by cases hx), hb, .inr ⟨HO.out, rfl⟩⟩
  | true =>
    rw [ho] at HC
    have HO := hide ho
    clear ho
    go_enter Try.func10, Try.ntmps10
    go_wp2_with fail
    refine HC.out.mono ?_
    rintro e w1 ⟨rfl, hb⟩
    rw [show ordE true = 0 from rfl]
    have HB1 := hide hb
    clear hb
    go_wp2_with fail
    refine (merged_any a n c w1).mono ?_
    rintro e w2 ⟨rfl, hw2⟩
    have t2 : Turns (fun _ => False) w1 w2 := by rw [hw2]; exact (Turns.refl _ w1).alloc _
    have hcell : w2.cell? ⟨w1.heap.size, 0, none⟩ = some (.slice a n c) := by rw [hw2]; exact cell_of_row _ _ 0 _ 28 (0, 0) (heap_alloc_new w1 _)
    have tA := (Turns.of_below HB1.out (fun _ => False)).trans t2
    have hr2 := H0.out.quiet tA
    have FO := hide (firstOf_any TM far_TM (fun x : El rs => x.val) 49 #[.pointer (some ⟨w1.heap.size, 0, none⟩)] _ _ (tot (hds rs)) w2 9223372036854775807 enters49 (merged_seq 4 w1.heap.size (by decide) a n c rs HN.out hmx (ord_up HO.out) w2 hr2 hcell) (fun x => ⟨(all_bytes hr2 x.2).1, (all_bytes hr2 x.2).2, (HF.out.size x.val x.2).1, (HF.out.size x.val x.2).2⟩) HF.out.all)
    have BA := hide (tA.below (Nat.le_refl _) (fun _ x => x.elim))
    have hs2 := tA.size
    clear hcell hr2 t2 tA hw2
    go_wp2_with fail
    refine FO.out.mono ?_
    rintro e w3 ⟨v, R, rfl, hE, hS, hb3, hFi⟩
    have FIN := hide (show ERow w3 w.heap.size v R ∧ Shown w3 w.heap.size R ∧ Below w.heap.size w w3 ∧ AllOk rs R by
      refine ⟨hE.le hs2, hS.le hs2, then_below BA.out hb3 (Nat.le_refl _), .inl ⟨HO.out, ?_⟩⟩
      rcases hFi with ⟨x, _⟩ | ⟨_, xs, h1, h2, _⟩ | ⟨_, pre, _, _, h3, h4⟩
      · omega
      · exact ⟨valsOf xs, h1, by rw [h2]; simp [valsOf]⟩
      · have := HF.out.all; omega)
    clear hE hS hb3 hFi
    go_wp2_with fail
    go_ret2
    exact ⟨v, R, rfl, FIN.out⟩
end Go.Proofs.Ytjnpendihdlgnaa
