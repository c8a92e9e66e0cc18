import Derived.Test.YtpgligfolecieaaM12
import Derived.Test.YtpgligfolecieaaM04
/-
  What 'merged' hands back: its contract.
-/
namespace Go.Proofs.Ytpgligfolecieaa
open Go.RowKit Go.Shelf
set_option maxRecDepth 100000
set_option maxHeartbeats 4000000
attribute [local go_sem] Oper.semAt_some
theorem went_mem {x : En} {L L1 : List Hd} (hw : Went x L L1) {h : Hd} (hh : h ∈ L1) {z : Tow} (hz : z ∈ h.R) : ∃ h', h' ∈ L ∧ z ∈ h'.R := by
  obtain ⟨d, r, p1, p2, _⟩ := hw
  rcases List.mem_append.1 (p2.mem_iff.1 hh) with hm | hm
  · obtain ⟨a, ha, e⟩ := List.mem_filterMap.1 hm
    obtain ⟨y, e1, _⟩ := adv_some e
    exact ⟨a, p1.mem_iff.2 (List.mem_append_left _ ha), by rw [e1]; exact List.mem_cons_of_mem _ hz⟩
  · exact ⟨h, p1.mem_iff.2 (List.mem_append_right _ hm), hz⟩
theorem hds_mem {w : World} {a : Option Addr} {rs : List Rw} (hr : RowsIn w a rs) (hn : rs.length ≤ 1000000) {h : Hd} (hh : h ∈ hds rs) : HdOk w h ∧ ∃ i x, rs[i]? = some x ∧ h.R = x.R ∧ h.no = i := by
  obtain ⟨i, x, h1, h2⟩ := mem_hds.1 hh
  have hi := (List.getElem?_eq_some_iff.1 h1).1
  have := hdOf_ok (hr i x h1).2 (by omega) h2
  exact ⟨this.1, i, x, h1, this.2.1, this.2.2.1⟩
theorem HB.wide {S S' : Nat → Prop} {w : World} {p o t : Nat} {cs : Array Value} {v : Value} {L : List Hd} (h : HB S w p o t cs v L) (hs : ∀ k, S k → S' k) (he : ∀ x, x ∈ L → ∀ q, x.uses q → ¬ S' q) : HB S' w p o t cs v L where
  blk := h.blk
  at' := h.at'
  sp := hs _ h.sp
  up := fun k hk => hs _ (h.up k hk)
  row := by
    rcases h.row with e | ⟨g, c, e, h1, h2, h3⟩
    · exact .inl e
    · exact .inr ⟨g, c, e, h1, h2, hs _ h3⟩
  each := fun x hx => ⟨(h.each x hx).1, he x hx⟩
  len := h.len
/-- The heads in a variable of their own. -/
theorem HB.box {S : Nat → Prop} {w : World} {p o t : Nat} {cs : Array Value} {v : Value} {L : List Hd} (h : HB S w p o t cs v L) : HB S (w.alloc (.cells #[v] 86)) w.heap.size 0 86 #[v] v L := by
  have tt := (Turns.refl (fun _ => False) w).alloc (.cells #[v] 86)
  have hs : (w.alloc (.cells #[v] 86)).heap.size = w.heap.size + 1 := by simp
  refine ⟨heap_alloc_new w _, by show 0 < 1; omega, h.up _ (Nat.le_refl _), fun k hk => h.up k (by omega), ?_, fun x hx => ⟨(h.each x hx).1.quiet tt, (h.each x hx).2⟩, h.len⟩
  rcases h.row with e | ⟨g, c, e, h1, h2, h3⟩
  · exact .inl e
  · exact .inr ⟨g, c, e, h1.keep tt (fun x => x), by have := h1.lt; omega, h3⟩
theorem merged_any (a : Option Addr) (n c : Nat) (w : World) : Calls Try.prog 55 #[.slice a n c] w fun e w' => e = .returned (.func (.func 71) #[] #[.pointer (some ⟨w.heap.size, 0, none⟩)]) ∧ w' = w.alloc (.cells #[.slice a n c] 22) := by
  go_enter Try.func55, Try.ntmps55
  go_wp2_with fail
  go_ret
  exact ⟨rfl, rfl⟩
abbrev El (rs : List Rw) := { x : Tow // x ∈ allOf rs }
def valsOf {rs : List Rw} (l : List (El rs)) : List Tow := l.map (·.val)
theorem merged1_in (n l B : Nat) (hn : 1 ≤ n) (a : Option Addr) (m c : Nat) (rs : List Rw) (hm : m = rs.length) (hmx : m ≤ 1000000) (hup : ∀ (i : Nat) (x : Rw), rs[i]? = some x → x.R.Pairwise ltT) (B0 : Nat) (J Jx : List (El rs) → World → Prop) (W : World) (hB0 : B0 ≤ W.heap.size)
    (hJ : StaysX TM W.heap.size J)
    (hY : ∀ pre x W1, J pre W1 → pre.length < tot (hds rs) → YieldAt Fence.wide (n - 1) Try.prog l #[x.val.agg] W1 fun e W' => (e = .returned (.bool true) ∧ J (pre ++ [x]) W' ∧ KpM B0 W1 W' ∧ KeepsFrom W.heap.size W1 W') ∨ (e = .returned (.bool false) ∧ Jx (pre ++ [x]) W' ∧ KeepsFrom W.heap.size W1 W'))
    (hr : RowsIn W a rs) (hlt : ∀ h, h ∈ hds rs → ∀ q, h.uses q → q < B0) (hb : W.cell? ⟨B, 0, none⟩ = some (.slice a m c)) (h0 : J [] W) :
    CallsIn Fence.wide n Try.prog 71 #[.func (.yield l) #[] #[], .pointer (some ⟨B, 0, none⟩)] W fun e W' => (∃ v, e = .returned v) ∧ ((∃ xs : List (El rs), Mg (hds rs) (valsOf xs) ∧ J xs W') ∨ (∃ pre : List (El rs), (∃ ys, Mg (hds rs) (valsOf pre ++ ys)) ∧ Jx pre W')) := by
  have HY := hide hY
  have HJ0 := hide h0
  have HO := hide (headsOf_any a m c rs W hr hm hmx)
  have HR := hide hr
  have HM := hide hm
  have HUP := hide hup
  have HLT := hide hlt
  have HJ := hide hJ
  clear hY h0 hr hm hup hlt hJ
  refine callsIn_of_wp Try.func71 rfl trivial ?_ rfl
  simp only [Try.ntmps71, List.size_toArray, List.length_cons, List.length_nil, Nat.reduceAdd, Nat.reduceSub, Array.replicate_succ, Array.replicate_zero, List.push_toArray, List.append_toArray, List.nil_append, List.cons_append]
  gi_wp2
  refine ⟨trivial, ?_⟩
  refine (callsIn_wide.2 HO.out).mono ?_
  rintro e w1 ⟨v, L, p0, rfl, hB1, hP1, hH1, hb1⟩
  have hok : ∀ h, h ∈ L → h ∈ hds rs := fun h hh => hP1.mem_iff.1 hh
  have hB2 := (hB1.wide (S' := fun k => B0 ≤ k) (fun k hk => Nat.le_trans hB0 hk) (fun x hx q hq => by have := HLT.out x (hok x hx) q hq; omega)).box
  have t2 := (Turns.of_below hb1 (fun _ => False)).alloc (.cells #[v] 86)
  have hJ2 := HJ.out _ _ _ HJ0.out (t2.mono fun _ _ x => x.elim)
  have hs1 := hb1.size
  have hrow1 : ∀ k, inRow v k → W.heap.size ≤ k := fun k hk => by
    obtain ⟨n', c', e⟩ := hk
    rcases hB1.row with ⟨e1, _⟩ | ⟨g, c1, e1, _, _, h3⟩
    · rw [e1] at e; cases e
    · rw [e1] at e; cases e; exact h3
  have hup1 : Up L := fun h hh => by
    obtain ⟨_, i, x, h1, h2, _⟩ := hds_mem HR.out (by rw [← HM.out]; exact hmx) (hok h hh)
    rw [h2]
    exact HUP.out i x h1
  have hmem1 : ∀ h, h ∈ L → ∀ z, z ∈ h.R → z ∈ allOf rs := fun h hh z hz => by
    obtain ⟨_, i, x, h1, h2, _⟩ := hds_mem HR.out (by rw [← HM.out]; exact hmx) (hok h hh)
    exact List.mem_flatMap.2 ⟨x, List.mem_of_getElem? h1, by rw [← h2]; exact hz⟩
  have ST := hide (show ∃ (pre : List (El rs)) (L1 : List Hd), J pre (w1.alloc (.cells #[v] 86)) ∧ HB (fun k => B0 ≤ k) (w1.alloc (.cells #[v] 86)) w1.heap.size 0 86 #[v] v L1 ∧ Hp.Heap ltH (hf L1) L1.length ∧ Up L1 ∧ (∀ h, h ∈ L1 → ∀ z, z ∈ h.R → z ∈ allOf rs) ∧ (∀ ys, Mg L1 ys → Mg (hds rs) (valsOf pre ++ ys)) ∧ pre.length + tot L1 ≤ tot (hds rs) ∧ (∀ k, inRow v k → W.heap.size ≤ k) from
    ⟨[], L, hJ2, hB2, hH1, hup1, hmem1, fun ys hy => hy.perm fun x => hP1.mem_iff, by rw [tot_perm hP1]; simp, hrow1⟩)
  obtain ⟨va, vn, vc, hv⟩ : ∃ a n c, v = .slice a n c := by
    rcases hB1.row with ⟨e, _⟩ | ⟨g, c, e, _⟩
    · exact ⟨_, _, _, e⟩
    · exact ⟨_, _, _, e⟩
  have hpW : W.heap.size ≤ w1.heap.size := hs1
  subst hv
  clear hB1 hP1 hH1 hb1 hok hB2 t2 hJ2 hs1 hrow1 hup1 hmem1
  gi_wp2
  generalize w1.alloc (.cells #[.slice va vn vc] 86) = w2 at *
  generalize w1.heap.size = p at *
  generalize hv0 : (#[Value.slice va vn vc] : Array Value) = cs0 at ST
  clear hv0
  generalize hW0 : W.heap.size = W0 at *
  gi_loopw [] (fun wr => ∃ (v : Value) (pre : List (El rs)) (L1 : List Hd), J pre wr ∧ HB (fun k => B0 ≤ k) wr p 0 86 cs0 v L1 ∧ Hp.Heap ltH (hf L1) L1.length ∧ Up L1 ∧ (∀ h, h ∈ L1 → ∀ z, z ∈ h.R → z ∈ allOf rs) ∧ (∀ ys, Mg L1 ys → Mg (hds rs) (valsOf pre ++ ys)) ∧ pre.length + tot L1 ≤ tot (hds rs) ∧ (∀ k, inRow v k → W0 ≤ k)) (fun wr => leftW p 0 wr)
  case atStart => exact ⟨_, ST.out⟩
  case round =>
    obtain ⟨v, pre, L1, hJ1, hB1, hH1, hU1, hE1, hG1, hN1, hV1⟩ := hrel
    have hcell := hB1.cell
    have J1 := hide hJ1
    have B1 := hide hB1
    have H1 := hide hH1
    have U1 := hide hU1
    have E1 := hide hE1
    have G1 := hide hG1
    have N1 := hide hN1
    have V1 := hide hV1
    clear hJ1 hB1 hH1 hU1 hE1 hG1 hN1 hV1
    cases L1 with
    | nil =>
      have hv1 : ∃ a c1, v = .slice a 0 c1 := by
        rcases B1.out.row with ⟨e, _⟩ | ⟨g, c1, e, _⟩
        · exact ⟨_, _, e⟩
        · exact ⟨_, _, e⟩
      obtain ⟨a1, c1, rfl⟩ := hv1
      gi_wp2
      refine ⟨trivial, ?_⟩
      gi_wp2
      refine ⟨fun _ e => (by cases e), ?_⟩
      gi_wp2
      go_end0
      have := G1.out [] Mg.nil
      rw [List.append_nil] at this
      exact ⟨⟨_, rfl⟩, .inl ⟨pre, this, J1.out⟩⟩
    | cons h1 T =>
      obtain ⟨g, c1, hv1, hR1, hgp1, hsg1⟩ := B1.out.full (by simp)
      subst hv1
      have hx1 := (B1.out.each h1 (by simp)).1
      obtain ⟨z, r, hz⟩ : ∃ z r, h1.R = z :: r := by
        have := hx1.ne
        cases e : h1.R with
        | nil => exact absurd e this
        | cons z r => exact ⟨z, r, rfl⟩
      have NX := hide (next_any (fun k => B0 ≤ k) p 0 86 cs0 _ T h1 z r wr B1.out H1.out U1.out hz)
      have HZ := hide hz
      have hnT : (T.length : Int) ≤ 1000000 := by have := B1.out.len; simp only [List.length_cons] at this; omega
      have hzU := E1.out h1 (by simp) z (by rw [hz]; simp)
      have hMin := hide (heap_first rfl H1.out)
      have MW := hide (leftW_of B1.out)
      simp only [List.length_cons] at hcell
      have hnp : 0 < T.length + 1 := by omega
      clear hR1 hx1 hz
      gi_wp2
      refine ⟨trivial, ?_⟩
      refine (callsIn_wide.2 NX.out).mono ?_
      rintro e w3 ⟨v3, L3, rfl, hB3, hH3, hW3, hD3, hT3, hM3⟩
      have hJ3 := HJ.out _ _ _ J1.out (hM3.mine B1.out hpW V1.out)
      obtain ⟨fn, tmps, assign, body, hy, hRd⟩ := HY.out pre ⟨z, hzU⟩ w3 hJ3 (by have := N1.out; omega)
      have RD := hide hRd
      have B3 := hide hB3
      have H3 := hide hH3
      have T3 := hide hT3
      have U3 := hide (U1.out.went hW3)
      have E3 := hide (show ∀ h, h ∈ L3 → ∀ z, z ∈ h.R → z ∈ allOf rs from fun h hh z hz => by
        obtain ⟨h', h4, h5⟩ := went_mem hW3 hh hz
        exact E1.out h' h4 z h5)
      have G3 := hide (show ∀ ys, Mg L3 ys → Mg (hds rs) (valsOf (pre ++ [⟨z, hzU⟩]) ++ ys) from fun ys hy => by
        have := G1.out _ (Mg.step U1.out (by simp) HZ.out hMin.out hW3 hD3 hy)
        simpa [valsOf] using this)
      have V3 := hide (show ∀ k, inRow v3 k → W0 ≤ k from fun k hk => by
        rcases hM3.2 k hk with x | x
        · exact V1.out k x
        · have := lt_of_heap B1.out.blk
          omega)
      unfold Tow.agg at hy
      simp only at hy
      clear hB3 hH3 hW3 hD3 hT3 hM3 hJ3 hRd
      gi_wp2
      refine RD.out.mono ?_
      rintro e W4 (⟨rfl, hJ4, hk4, _⟩ | ⟨rfl, hJx4, _⟩)
      · have B4 := hide (B3.out.kept hk4)
        have J4 := hide hJ4
        have MEA := hide (show leftW p 0 W4 < leftW p 0 wr by rw [leftW_of B4.out, MW.out]; exact T3.out)
        clear hk4 hJ4 hy
        gi_wp2
        go_roundw
        case rel => exact ⟨v3, pre ++ [⟨z, hzU⟩], L3, J4.out, B4.out, H3.out, U3.out, E3.out, G3.out, by have := N1.out; have := T3.out; rw [List.length_append, List.length_singleton]; omega, V3.out⟩
        case measure => exact MEA.out
      · gi_wp2
        go_end0
        obtain ⟨ys, hys⟩ := Mg.exist _ L3 (Nat.le_refl _) U3.out (fun h hh => (B3.out.each h hh).1.ne)
        exact ⟨⟨_, rfl⟩, .inr ⟨pre ++ [⟨z, hzU⟩], ⟨ys, G3.out ys hys⟩, hJx4⟩⟩
theorem merged_seqB (n B : Nat) (hn : 1 ≤ n) (a : Option Addr) (m c : Nat) (rs : List Rw) (hm : m = rs.length) (hmx : m ≤ 1000000) (hup : ∀ (i : Nat) (x : Rw), rs[i]? = some x → x.R.Pairwise ltT) (w : World) (hr : RowsIn w a rs) (hb : w.cell? ⟨B, 0, none⟩ = some (.slice a m c)) (B0 : Nat) (hB0 : B0 ≤ w.heap.size) (hlt : ∀ h, h ∈ hds rs → ∀ q, h.uses q → q < B0) :
    SeqX TM Fence.wide n Try.prog 71 #[.pointer (some ⟨B, 0, none⟩)] (fun x : El rs => #[x.val.agg]) (KpM B0) (fun xs => Mg (hds rs) (valsOf xs)) (fun pre => ∃ ys, Mg (hds rs) (valsOf pre ++ ys)) (tot (hds rs)) w := fun l J Jx W hW hJ _ hY h0 => by
  have t := Turns.of_below hW (fun _ => False)
  exact merged1_in n l B hn a m c rs hm hmx hup B0 J Jx W (Nat.le_trans hB0 hW.size) (hJ.stays (Nat.le_refl _)) hY (hr.quiet t) hlt (t.cell hb (fun x => x)) h0
theorem merged_seq (n B : Nat) (hn : 1 ≤ n) (a : Option Addr) (m c : Nat) (rs : List Rw) (hm : m = rs.length) (hmx : m ≤ 1000000) (hup : ∀ (i : Nat) (x : Rw), rs[i]? = some x → x.R.Pairwise ltT) (w : World) (hr : RowsIn w a rs) (hb : w.cell? ⟨B, 0, none⟩ = some (.slice a m c)) :
    SeqX TM Fence.wide n Try.prog 71 #[.pointer (some ⟨B, 0, none⟩)] (fun x : El rs => #[x.val.agg]) (KpM w.heap.size) (fun xs => Mg (hds rs) (valsOf xs)) (fun pre => ∃ ys, Mg (hds rs) (valsOf pre ++ ys)) (tot (hds rs)) w :=
  merged_seqB n B hn a m c rs hm hmx hup w hr hb w.heap.size (Nat.le_refl _) (fun _ hh _ hq => (hds_mem hr (by omega) hh).1.lt hq)
end Go.Proofs.Ytpgligfolecieaa

/-
  A region that draws its order, inside a round of a range over a function.
-/
namespace Go.Proofs.Ytpgligfolecieaa
open Go.RowKit Go.Shelf
def noDefer (o : Oper) : Bool := match o.op with | .defer _ => false | _ => true
theorem noDefer_spec {o : Oper} (h : noDefer o = true) : ∀ c, o.op ≠ .defer c := fun c e => by
  unfold noDefer at h
  rw [e] at h
  cases h
theorem stepsIn_round {P : Program} {l : Nat} {m m' : Machine} (h : Steps P m m') : StepsIn (Machine.fenced P (Fence.wide.inRound l)) P m m' := by
  rw [fenced_inRound]
  exact stepsIn_wide.2 h
section
variable {P : Program} {md : Region.Mode} {ops : Array Oper} {Q : Exit → Act → World → Prop} {l n : Nat}
/-- What a region must come to, if it may neither panic nor grow out. -/
def onlyEnd (Q : Exit → Act → World → Prop) : Exit → Act → World → Prop := fun e a w => e = .normal ∧ Q .normal a w
theorem oper_round {o : Oper} {a : Act} {w : World} {K K' : Act → World → Prop} (hd : ∀ c, o.op ≠ .defer c) (hK : ∀ a w, K a w → K' a w) (h : o.wp P a w K (onlyEnd Q)) : o.wpIn (Fence.wide.inRound l) n P a w K' Q := by
  unfold Oper.wp at h
  refine ⟨fun _ _ => trivial, ?_⟩
  rw [Oper.semAt_plain _ _ _ hd]
  generalize (execOp a.eval o).run P w = r at h
  cases r with
  | ok x w' =>
    cases x with
    | value v => exact hK _ _ h
    | skip => exact hK _ _ h
    | defer d => exact hK _ _ h
    | enter f args =>
      refine ⟨fun e => (by cases e), CallsIn.inRound l (callsIn_wide.2 (Calls.mono h ?_))⟩
      intro e w2 he
      cases e with
      | returned v => exact hK _ _ he
      | panicked ch => cases he.1
      | outgrown => obtain ⟨_, _, he⟩ := he; cases he.1
    | row r args =>
      refine ⟨fun e => (by cases e), fun c cs _ => ?_⟩
      obtain ⟨v, w2, hv, hs⟩ := h c cs
      exact ⟨v, w2, hK _ _ hv, stepsIn_round hs⟩
    | round a b c d e => exact False.elim h
    | _ => exact False.elim h
  | halt x w' =>
    cases x with
    | panic v => cases h.1
    | _ => exact False.elim h
theorem anyIn_of_any (hd : ops.all noDefer = true) : ∀ (fuel : Nat) (listed : Array Bool) (a : Act) (w : World), wpAny P md ops (onlyEnd Q) fuel listed a w → wpAnyIn (Fence.wide.inRound l) n P md ops Q fuel listed a w
  | 0, _, _, _, h => ⟨h.1, h.2.2⟩
  | fuel + 1, listed, a, w, h => by
    refine ⟨fun e => (h.1 e).2, fun i hi => ?_⟩
    have h1 := h.2 i hi
    unfold wpOp at h1
    unfold wpOpIn
    cases e : ops[i]? with
    | none =>
      rw [e] at h1
      exact anyIn_of_any hd fuel _ a w h1
    | some o =>
      rw [e] at h1
      simp only at h1 ⊢
      have hno := noDefer_spec (Array.all_eq_true'.1 hd o (Array.mem_of_getElem? e))
      split at h1
      · rename_i hw
        rw [if_pos hw]
        rcases h1 with h1 | ⟨_, _, _, h1⟩
        · exact oper_round hno (fun a w h => anyIn_of_any hd fuel _ a w h) h1
        · cases h1.1
      · rename_i hw
        rw [if_neg hw]
        exact ⟨fun _ _ => trivial, anyIn_of_any hd fuel _ _ w h1⟩
/-- The beginning: such a region, its loads under a condition. -/
theorem region_round {id : Nat} {S : World → Prop} {a : Act} {w : World} (hm : P.follows .mixedOrders = true) (hd : ops.all noDefer = true)
    (h : wpAnyH P .any ops (onlyEnd Q) S ops.size (Array.replicate ops.size false) a w.drew) : (Code.region id ops true).wpIn (Fence.wide.inRound l) n P Q a w :=
  wpIn_region_any hm (anyIn_of_any hd _ _ _ _ (wpAny_of_held _ _ _ _ h))
theorem region_round_z {id : Nat} {S : World → Prop} (z : Nat) {a : Act} {w : World} (hm : P.follows .mixedOrders = true) (hd : ops.all noDefer = true) (hS : S w.drew)
    (h : S w.drew → wpAnyZ P .any ops (onlyEnd Q) S z ops.size (Array.replicate ops.size false) a w.drew) : (Code.region id ops true).wpIn (Fence.wide.inRound l) n P Q a w :=
  wpIn_region_any hm (anyIn_of_any hd _ _ _ _ (wpAny_of_z _ _ _ _ (h hS)))
end
end Go.Proofs.Ytpgligfolecieaa

/-
  What a loop over an iterator has taken so far, in memory of its own.
-/
namespace Go.Proofs.Ytpgligfolecieaa
open Go.RowKit Go.Shelf
set_option maxRecDepth 100000
def IsT (T : TypeId → Prop) (W : World) (k : Nat) : Prop := ∃ cs t fr, T t ∧ W.heap[k]? = some (.cells cs t fr)
/-- What whoever ranges over an iterator whose cells are of those types may turn. -/
def KpT (T : TypeId → Prop) (B : Nat) (W W' : World) : Prop := Turns (fun k => B ≤ k ∧ ¬ IsT T W k) W W'
theorem KpT.trans {T : TypeId → Prop} {B : Nat} {X Y Z : World} (h : KpT T B X Y) (k : KpT T B Y Z) : KpT T B X Z := by
  refine ⟨k.os.trans h.os, k.tape.trans h.tape, k.output.trans h.output, Nat.le_trans h.size k.size, fun i hi hn => ?_⟩
  have h1 := h.block i hi hn
  refine (k.block i (Nat.lt_of_lt_of_le hi h.size) fun x => hn ⟨x.1, fun y => x.2 ?_⟩).trans h1
  obtain ⟨cs, t, fr, ht, e⟩ := y
  exact ⟨cs, t, fr, ht, h1.trans e⟩
theorem KpT.put {T : TypeId → Prop} {B : Nat} (W : World) (l : Nat) (o o' : Obj) (hB : B ≤ l) (hl : W.heap[l]? = some o) (ho : o.isCells = false) : KpT T B W (W.putObj l o') :=
  (turns_put o' hl).mono fun k _ e => by
    subst e
    exact ⟨hB, fun ⟨cs, t, fr, _, x⟩ => by rw [hl] at x; cases x; cases ho⟩
theorem KpT.quiet {T : TypeId → Prop} {B : Nat} {W W' : World} (h : Turns (fun _ => False) W W') : KpT T B W W' := h.mono fun _ _ x => x.elim
theorem KpT.one {T : TypeId → Prop} {B b t : Nat} {cs : Array Value} {fr : Nat × Nat} {W W' : World} (h : Turns (fun k => k = b) W W') (hb : B ≤ b) (hc : W.heap[b]? = some (.cells cs t fr)) (ht : ¬ T t) : KpT T B W W' := h.mono fun k _ e => by
  subst e
  exact ⟨hb, fun ⟨cs', t', fr', h1, h2⟩ => by rw [hc] at h2; cases h2; exact ht h1⟩
theorem loose_cells {T : TypeId → Prop} {B : Nat} {A A' : World} (tt : Turns (Loose T B A) A A') {k t : Nat} {cs : Array Value} {fr : Nat × Nat} (hk : A.heap[k]? = some (.cells cs t fr)) (ht : ¬ T t) : A'.heap[k]? = some (.cells cs t fr) :=
  tt.heap hk fun ⟨_, o, h1, h2⟩ => by
    rw [hk] at h1
    cases h1
    rcases h2 with h2 | ⟨cs', t', fr', h3, h4⟩
    · cases h2
    · cases h4; exact ht h3
theorem loose_low {T : TypeId → Prop} {B : Nat} {A A' : World} (tt : Turns (Loose T B A) A A') {N : Nat} (hN : N ≤ B) : Turns (fun k => N ≤ k) A A' := tt.mono fun _ _ h => Nat.le_trans hN h.1
/-- Entries that were copied: their bytes lie in blocks of bytes. -/
def Typ5 (W : World) (R : List Tow) : Prop := ∀ x, x ∈ R → ∀ q, x.bytesIn q → ∃ cs, W.heap[q]? = some (.cells cs 5 (0, 0))
theorem Typ5.keep {S : Nat → Prop} {W W' : World} {R : List Tow} (h : Typ5 W R) (t : Turns S W W') (hn : ∀ k cs, W.heap[k]? = some (.cells cs 5 (0, 0)) → ¬ S k) : Typ5 W' R := fun x hx q hq => by
  obtain ⟨cs, e⟩ := h x hx q hq
  exact ⟨cs, t.heap e (hn q cs e)⟩
theorem ERow.typed {w : World} {B : Nat} {v : Value} {R : List Tow} (h : ERow w B v R) {k : Nat} (hk : inRow v k) : ∃ cs, w.heap[k]? = some (.cells cs 29 (0, 0)) := by
  obtain ⟨m, d, e⟩ := hk
  rcases h with ⟨_, rfl⟩ | ⟨g, c, q, rfl, _, _, _, cs, h1, _⟩
  · cases e
  · cases e; exact ⟨cs, h1⟩
theorem Shown.keep5 {S : Nat → Prop} {W W' : World} {B : Nat} {R : List Tow} (h : Shown W B R) (h5 : Typ5 W R) (t : Turns S W W') (hn : ∀ k cs, W.heap[k]? = some (.cells cs 5 (0, 0)) → ¬ S k) : Shown W' B R := h.keep t fun x hx q hq => by
  obtain ⟨cs, e⟩ := h5 x hx q hq
  exact hn q cs e
/-- What has come so far: the row behind the variable N0 + 1, the number in N0. -/
def Got (N0 : Nat) (n : Int) (w : World) (R : List Tow) (W : World) : Prop :=
  ∃ v, (W.heap[N0 + 1]? = some (.cells #[v] 31 (0, 0)) ∧ W.heap[N0]? = some (.cells #[.int .i64 n] 3 (0, 0)) ∧ ERow W (N0 + 2) v R ∧ Shown W (N0 + 2) R ∧ Typ5 W R) ∧ Below N0 w W
structure Far (T : TypeId → Prop) : Prop where
  h3 : ¬ T 3
  h5 : ¬ T 5
  h25 : ¬ T 29
  h27 : ¬ T 31
theorem Got.own {T : TypeId → Prop} {N0 B : Nat} {n : Int} {w : World} {R : List Tow} (hT : Far T) (h1 : N0 ≤ w.heap.size) (hB : N0 ≤ B) {A A' : World} (h : Got N0 n w R A) (tt : Turns (Loose T B A) A A') : Got N0 n w R A' := by
  obtain ⟨v, ⟨a1, a2, a3, a4, a5⟩, a6⟩ := h
  have hn : ∀ k cs, A.heap[k]? = some (.cells cs 5 (0, 0)) → ¬ Loose T B A k := fun k cs e ⟨_, o, e1, e2⟩ => by
    rw [e] at e1
    cases e1
    rcases e2 with e2 | ⟨cs', t', fr', h3, h4⟩
    · cases e2
    · cases h4; exact hT.h5 h3
  refine ⟨v, ⟨loose_cells tt a1 hT.h27, loose_cells tt a2 hT.h3, a3.keep tt fun k hk ⟨_, o, e1, e2⟩ => ?_, a4.keep5 a5 tt hn, a5.keep tt hn⟩, ?_⟩
  · obtain ⟨cs, e⟩ := a3.typed hk
    rw [e] at e1
    cases e1
    rcases e2 with e2 | ⟨cs', t', fr', h3, h4⟩
    · cases e2
    · cases h4; exact hT.h25 h3
  · exact a6.trans ((loose_low tt hB).below (Nat.le_trans h1 a6.size) (fun _ h => h))
theorem body_end {T : TypeId → Prop} {N0 B0 : Nat} {n : Int} {w W W2 W4 : World} {R : List Tow} {v : Value} {y : Tow} {ka' va' : Option Addr} {kc' vc' g' n' c' : Nat} (hT : Far T) (hB0 : B0 ≤ N0) (g1 : W.heap[N0 + 1]? = some (.cells #[v] 31 (0, 0))) (g2 : W.heap[N0]? = some (.cells #[.int .i64 n] 3 (0, 0))) (g3 : ERow W (N0 + 2) v R) (g4 : Shown W (N0 + 2) R) (g5 : Typ5 W R) (g6 : Below N0 w W)
    (t6 : Turns (fun _ => False) W W2) (hk : Bytes W2 (.slice ka' y.e.key.length kc') y.e.key) (hv : Bytes W2 (.slice va' y.e.val.length vc') y.e.val) (hkb : ∀ x, ka' = some x → (W.heap.size ≤ x.block ∧ x.block < W2.heap.size) ∧ ∃ cs, W2.heap[x.block]? = some (.cells cs 5 (0, 0))) (hvb : ∀ x, va' = some x → (W.heap.size ≤ x.block ∧ x.block < W2.heap.size) ∧ ∃ cs, W2.heap[x.block]? = some (.cells cs 5 (0, 0)))
    (hrow : ERow W4 (N0 + 2) (.slice (some ⟨g', 0, none⟩) n' c') (R ++ [⟨ka', kc', va', vc', y.e⟩])) (t4 : Turns (inRow v) W2 W4) :
    W4.cell? ⟨N0 + 1, 0, none⟩ = some v ∧ W4.frozen? ⟨N0 + 1, 0, none⟩ = false ∧ (∀ B, KeepsFrom B W (W4.setCell ⟨N0 + 1, 0, none⟩ (.slice (some ⟨g', 0, none⟩) n' c'))) ∧ KpT T B0 W (W4.setCell ⟨N0 + 1, 0, none⟩ (.slice (some ⟨g', 0, none⟩) n' c')) ∧ Got N0 n w (R ++ [⟨ka', kc', va', vc', y.e⟩]) (W4.setCell ⟨N0 + 1, 0, none⟩ (.slice (some ⟨g', 0, none⟩) n' c')) := by
  have hrowb : ∀ {k}, inRow v k → N0 + 2 ≤ k ∧ k < W.heap.size := fun hk => g3.row hk
  have hrow25 : ∀ {k}, inRow v k → ∃ cs, W2.heap[k]? = some (.cells cs 29 (0, 0)) := fun hk => by
    obtain ⟨cs, e⟩ := g3.typed hk
    exact ⟨cs, t6.heap e (fun x => x)⟩
  have h62 := t6.size
  have h41 : W4.heap[N0 + 1]? = some (.cells #[v] 31 (0, 0)) := t4.heap (t6.heap g1 (fun x => x)) (fun h => by have := (hrowb h).1; omega)
  have h42 : W4.heap[N0]? = some (.cells #[.int .i64 n] 3 (0, 0)) := t4.heap (t6.heap g2 (fun x => x)) (fun h => by have := (hrowb h).1; omega)
  have tk := (Tick.refl h41).set 0 (.slice (some ⟨g', 0, none⟩) n' c')
  have tt := Turns.of_tick tk
  have n5 : ∀ k cs, W2.heap[k]? = some (.cells cs 5 (0, 0)) → ¬ inRow v k := fun k cs e h => by
    obtain ⟨cs', e'⟩ := hrow25 h
    rw [e] at e'
    cases e'
  have n5' : ∀ k cs, W4.heap[k]? = some (.cells cs 5 (0, 0)) → ¬ k = N0 + 1 := fun k cs e h => by
    rw [h, h41] at e
    cases e
  have hsz : W.heap.size ≤ W4.heap.size := Nat.le_trans t6.size t4.size
  have hR : Shown W4 (N0 + 2) R := (g4.keep5 g5 t6 fun _ _ _ x => x).keep5 (g5.keep t6 fun _ _ _ x => x) t4 n5
  have hR5 : Typ5 W4 R := (g5.keep t6 fun _ _ _ x => x).keep t4 n5
  have hx5 : Typ5 W2 [⟨ka', kc', va', vc', y.e⟩] := fun x hx q hq => by
    obtain rfl := List.mem_singleton.1 hx
    rcases hq with ⟨a, e, rfl⟩ | ⟨a, e, rfl⟩
    · exact (hkb a e).2
    · exact (hvb a e).2
  have hN : N0 + 1 < W.heap.size := lt_of_heap g1
  have hxs : Shown W2 (N0 + 2) [⟨ka', kc', va', vc', y.e⟩] := fun x hx => by
    obtain rfl := List.mem_singleton.1 hx
    refine ⟨hk, hv, fun q hq => ?_⟩
    rcases hq with ⟨a, e, rfl⟩ | ⟨a, e, rfl⟩
    · have := (hkb a e).1; omega
    · have := (hvb a e).1; omega
  have hX : Shown W4 (N0 + 2) [⟨ka', kc', va', vc', y.e⟩] := hxs.keep5 hx5 t4 n5
  have hX5 : Typ5 W4 [⟨ka', kc', va', vc', y.e⟩] := hx5.keep t4 n5
  have hRX : Shown W4 (N0 + 2) (R ++ [⟨ka', kc', va', vc', y.e⟩]) := fun x hx => (List.mem_append.1 hx).elim (hR x) (hX x)
  have hRX5 : Typ5 W4 (R ++ [⟨ka', kc', va', vc', y.e⟩]) := fun x hx => (List.mem_append.1 hx).elim (hR5 x) (hX5 x)
  have hKp : KpT T B0 W (W4.setCell ⟨N0 + 1, 0, none⟩ (.slice (some ⟨g', 0, none⟩) n' c')) := by
    refine ((KpT.quiet t6).trans (?_ : KpT T B0 W2 W4)).trans (KpT.one tt (by omega) h41 hT.h27)
    exact t4.mono fun k _ hk => ⟨by have := (hrowb hk).1; omega, fun ⟨cs', t', fr', e1, e2⟩ => by
      obtain ⟨cs, e⟩ := hrow25 hk
      rw [e] at e2
      cases e2
      exact hT.h25 e1⟩
  have hall : Turns (fun k => N0 ≤ k) W (W4.setCell ⟨N0 + 1, 0, none⟩ (.slice (some ⟨g', 0, none⟩) n' c')) := ((t6.mono fun _ _ x => x.elim).trans (t4.mono fun k _ h => by have := (hrowb h).1; show N0 ≤ k; omega)).trans (tt.mono fun k _ h => by show N0 ≤ k; omega)
  refine ⟨cell_of_row W4 _ 0 _ 31 (0, 0) h41, frozen_of_row W4 _ 0 _ 31 h41, fun B => ⟨hall.size, fun k ob _ hk ho => ?_⟩, hKp, _, ⟨tk.1, tt.heap h42 (by show ¬ N0 = N0 + 1; omega), hrow.keep tt fun k hk e => ?_, hRX.keep5 hRX5 tt n5', hRX5.keep tt n5'⟩, g6.trans (hall.below (by omega) (fun _ h => h))⟩
  · refine tt.heap (t4.heap (t6.heap hk (fun x => x)) fun h => ?_) fun h => ?_
    · obtain ⟨cs, h1⟩ := g3.typed h
      rw [hk] at h1
      cases h1
      cases ho
    · have : k = N0 + 1 := h
      rw [this, g1] at hk
      cases hk
      cases ho
  · obtain ⟨cs, e1⟩ := hrow.typed hk
    have e : k = N0 + 1 := e
    rw [e, h41] at e1
    cases e1
end Go.Proofs.Ytpgligfolecieaa
