import Derived.Test.YtmmcikbedegigaaM19
/-
  editOf, of the options that Whole makes.
-/
namespace Go.Proofs.Ytmmcikbedegigaa
open Go.RowKit
set_option maxRecDepth 100000
set_option maxHeartbeats 4000000
def adsOf (L : List Lv) : List (Int × Tf) := L.zipIdx.flatMap fun p => p.1.l.map fun y => ((p.2 : Int), y)
theorem adsOf_take {L : List Lv} {i : Nat} {x : Lv} (h : L[i]? = some x) : adsOf (L.take (i + 1)) = adsOf (L.take i) ++ x.l.map fun y => ((i : Int), y) := by
  have hi := (List.getElem?_eq_some_iff.1 h).1
  have e : L.take (i + 1) = L.take i ++ [x] := by rw [List.take_add_one, h]; rfl
  have hl : (L.take i).length = i := by rw [List.length_take]; omega
  unfold adsOf
  rw [e, List.zipIdx_append, List.flatMap_append, hl, Nat.zero_add]
  simp
theorem adsOf_length (L : List Lv) : (adsOf L).length = cnt L := by
  unfold adsOf cnt
  rw [List.length_flatMap]
  simp only [List.length_map]
  congr 1
  have : ∀ q, (L.zipIdx q).map (fun a => a.1.l.length) = L.map fun x => x.l.length := by
    induction L with
    | nil => intro q; rfl
    | cons x r ih => intro q; rw [List.zipIdx_cons, List.map_cons, List.map_cons, ih]
  exact this 0
def numOpt (N1 N2 N3 : Nat) : Value := .func (.func 65) #[] #[.pointer (some ⟨N1, 0, none⟩), .pointer (some ⟨N2, 0, none⟩), .pointer (some ⟨N3, 0, none⟩)]
def addOpt (p : Nat × Nat) : Value := .func (.func 66) #[] #[.pointer (some ⟨p.1, 0, none⟩), .pointer (some ⟨p.2, 0, none⟩)]
/-- The options that Whole makes, in memory. -/
structure Opts (u : World) (B og N1 N2 N3 next seq log : Nat) (ps : List (Nat × Nat)) (L : List Lv) : Prop where
  row : ∃ cs : Array Value, u.heap[og]? = some (.cells cs 75 (0, 0)) ∧ cs[0]? = some (numOpt N1 N2 N3) ∧ ∀ (k : Nat) (p : Nat × Nat), ps[k]? = some p → cs[k + 1]? = some (addOpt p)
  n1 : u.heap[N1]? = some (.cells #[.int .u64 (next : Nat)] 23 (0, 0))
  n2 : u.heap[N2]? = some (.cells #[.int .u64 (seq : Nat)] 23 (0, 0))
  n3 : u.heap[N3]? = some (.cells #[.int .u64 (log : Nat)] 23 (0, 0))
  caps : ∀ (k : Nat) (p : Nat × Nat) (x : Lv), ps[k]? = some p → L[k]? = some x → u.heap[p.1]? = some (.cells #[.slice x.a x.l.length x.c] 50 (0, 0)) ∧ u.heap[p.2]? = some (.cells #[.int .i64 (k : Nat)] 3 (0, 0))
  rows : ∀ (k : Nat) (x : Lv), L[k]? = some x → RowOk u B x.a x.c x.l
/-- They stay while an edit and its adds turn. -/
theorem Opts.keep {u u' : World} {B og N1 N2 N3 next seq log E c : Nat} {ps : List (Nat × Nat)} {L : List Lv} (h : Opts u B og N1 N2 N3 next seq log ps L) {a : Option Addr} {A : List (Int × Tf)} {cs : Array Value} {z : Nat × Nat} (t : Turns (fun j => j = E ∨ a = some ⟨j, 0, none⟩) u u') (hE : u.heap[E]? = some (.cells cs 33 z)) (hA : ARow u B a c A) : Opts u' B og N1 N2 N3 next seq log ps L := by
  have hn : ∀ {p : Nat} {cs' : Array Value} {ty : TypeId} {z' : Nat × Nat}, u.heap[p]? = some (.cells cs' ty z') → ty ≠ 33 → ty ≠ 62 → ¬ (p = E ∨ a = some ⟨p, 0, none⟩) := fun hp h1 h2 => by
    rintro (rfl | e)
    · rw [hE] at hp; cases hp; exact h1 rfl
    · exact hA.ne hp h2 _ e rfl
  have hk : ∀ {p : Nat} {cs' : Array Value} {ty : TypeId} {z' : Nat × Nat}, u.heap[p]? = some (.cells cs' ty z') → ty ≠ 33 → ty ≠ 62 → u'.heap[p]? = some (.cells cs' ty z') := fun hp h1 h2 => t.heap hp (hn hp h1 h2)
  refine ⟨?_, hk h.n1 (by decide) (by decide), hk h.n2 (by decide) (by decide), hk h.n3 (by decide) (by decide), fun k p x hp hx => ?_, fun k x hx => ?_⟩
  · obtain ⟨cs', h1, h2⟩ := h.row
    exact ⟨cs', hk h1 (by decide) (by decide), h2⟩
  · obtain ⟨h1, h2⟩ := h.caps k p x hp hx
    exact ⟨hk h1 (by decide) (by decide), hk h2 (by decide) (by decide)⟩
  · refine (h.rows k x hx).keep t fun g e => ?_
    rcases h.rows k x hx with ⟨e3, _⟩ | ⟨g2, e3, _, _, cs2, h4, _⟩
    · rw [e3] at e; cases e
    · rw [e3] at e; cases e; exact hn h4 (by decide) (by decide)
theorem Opts.quiet {u u' : World} {B og N1 N2 N3 next seq log : Nat} {ps : List (Nat × Nat)} {L : List Lv} (h : Opts u B og N1 N2 N3 next seq log ps L) (t : Turns (fun _ => False) u u') : Opts u' B og N1 N2 N3 next seq log ps L :=
  ⟨by obtain ⟨cs', h1, h2⟩ := h.row; exact ⟨cs', t.heap h1 (fun x => x), h2⟩, t.heap h.n1 (fun x => x), t.heap h.n2 (fun x => x), t.heap h.n3 (fun x => x), fun k p x hp hx => ⟨t.heap (h.caps k p x hp hx).1 (fun x => x), t.heap (h.caps k p x hp hx).2 (fun x => x)⟩, fun k x hx => (h.rows k x hx).keep t fun _ _ x => x⟩
theorem sz33w : (Try.prog.info? 33).map (·.size) = some 5 := by kernel_rfl
/-- How far the edit has come. -/
structure Eo (w wr : World) (E B next seq log k : Nat) (L : List Lv) (sa : Option Addr) (sn sc x y z : Nat) : Prop where
  hE : wr.heap[E]? = some (.cells #[.slice none 0 0, .slice sa sn sc, .int .u64 (x : Nat), .int .u64 (y : Nat), .int .u64 (z : Nat)] 33 (0, 0))
  len : sn = (adsOf (L.take (k - 1))).length
  row : ARow wr B sa sc (adsOf (L.take (k - 1)))
  num : 1 ≤ k → x = next ∧ y = seq ∧ z = log
  new : ∀ q, sa = some ⟨q, 0, none⟩ → w.heap.size ≤ q
  turn : Turns (fun j => w.heap.size ≤ j) w wr
theorem editOf_whole (og oc N1 N2 N3 next seq log B : Nat) (ps : List (Nat × Nat)) (L : List Lv) (w : World) (h : Opts w B og N1 N2 N3 next seq log ps L) (hl : L.length = 5) (hp : ps.length = 5) (hB : B ≤ w.heap.size) (hc : cnt L ≤ 1000000) :
    Calls Try.prog 42 #[.slice (some ⟨og, 0, none⟩) 6 oc] w fun e w' => ∃ sa sn sc, e = .returned (edAgg none 0 0 sa sn sc next seq log) ∧ sn = (adsOf L).length ∧ ARow w' B sa sc (adsOf L) ∧ Turns (fun _ => False) w w' := by
  have T0 := hide (((Turns.refl (fun _ => False) w).alloc (.cells #[.slice none 0 0, .slice none 0 0, .int .u64 0, .int .u64 0, .int .u64 0] 33)).alloc (.cells #[.slice none 0 0, .slice none 0 0, .int .u64 0, .int .u64 0, .int .u64 0] 33))
  have R0 := hide (((Turns.refl (fun _ => False) (w.alloc (.cells #[.slice none 0 0, .slice none 0 0, .int .u64 0, .int .u64 0, .int .u64 0] 33))).alloc (.cells #[.slice none 0 0, .slice none 0 0, .int .u64 0, .int .u64 0, .int .u64 0] 33)).heap (heap_alloc_new w _) (fun x => x))
  have R1 := hide (heap_alloc_new (w.alloc (.cells #[.slice none 0 0, .slice none 0 0, .int .u64 0, .int .u64 0, .int .u64 0] 33)) (.cells #[.slice none 0 0, .slice none 0 0, .int .u64 0, .int .u64 0, .int .u64 0] 33))
  simp only [World.size_alloc] at R1
  have HO := hide (h.quiet T0.out)
  have HL := hide hl
  have HP := hide hp
  have HB := hide hB
  have HC := hide hc
  clear h hl hp hB hc
  go_enter Try.func42, Try.ntmps42
  go_wp2_with fail
  have HS := hide (show ((w.alloc (.cells #[.slice none 0 0, .slice none 0 0, .int .u64 0, .int .u64 0, .int .u64 0] 33)).alloc (.cells #[.slice none 0 0, .slice none 0 0, .int .u64 0, .int .u64 0, .int .u64 0] 33)).heap.size = w.heap.size + 2 by simp)
  generalize (w.alloc (.cells #[.slice none 0 0, .slice none 0 0, .int .u64 0, .int .u64 0, .int .u64 0] 33)).alloc (.cells #[.slice none 0 0, .slice none 0 0, .int .u64 0, .int .u64 0, .int .u64 0] 33) = w0 at *
  generalize hg : w.heap.size = g at *
  have HG := hide hg
  clear hg
  go_loopw [8] (fun i wr => ∃ (k : Nat) (sa : Option Addr) (sn sc x y z : Nat), i = .int .i64 (k : Nat) ∧ k ≤ 6 ∧ Eo w wr (g + 1) B next seq log k L sa sn sc x y z ∧ Opts wr B og N1 N2 N3 next seq log ps L ∧ wr.heap[g]? = some (.cells #[.slice none 0 0, .slice none 0 0, .int .u64 0, .int .u64 0, .int .u64 0] 33 (0, 0))) (fun i _ => 6 - (intOf i).toNat)
  case atStart => exact ⟨0, none, 0, 0, 0, 0, 0, rfl, Nat.zero_le _, ⟨R1.out, by simp [adsOf], .inl ⟨rfl, by simp [adsOf], rfl⟩, fun h => (by omega), fun q e => (by cases e), T0.out.mono fun _ _ x => x.elim⟩, HO.out, R0.out⟩
  case round =>
    obtain ⟨k, sa, sn, sc, x, y, z, rfl, hk, he, ho, hr⟩ := hrel
    have HE := hide he
    have HOW := hide ho
    have HR := hide hr
    clear he ho hr
    by_cases hk6 : k < 6
    · obtain ⟨cs, hrow, hc0, hck⟩ := HOW.out.row
      have i1 : (k : Int) < 6 := by omega
      have i0 : (0 : Int) ≤ k := by omega
      by_cases hk0 : k = 0
      · subst hk0
        have hcell : wr.cell? ⟨og, 0, none⟩ = some (.func (.func 65) #[] #[.pointer (some ⟨N1, 0, none⟩), .pointer (some ⟨N2, 0, none⟩), .pointer (some ⟨N3, 0, none⟩)]) := by rw [cell_of_row wr og 0 _ 75 (0, 0) hrow, hc0]; rfl
        have CN := hide (num1_any (g + 1) N1 N2 N3 next seq log _ _ _ _ _ wr HE.out.hE HOW.out.n1 HOW.out.n2 HOW.out.n3)
        clear hrow hc0 hck
        go_wp2_with fail
        refine CN.out.mono ?_
        rintro e w1 ⟨rfl, hE1, t1⟩
        have REL := hide (show Eo w w1 (g + 1) B next seq log 1 L sa sn sc next seq log ∧ Opts w1 B og N1 N2 N3 next seq log ps L ∧ w1.heap[g]? = some (.cells #[.slice none 0 0, .slice none 0 0, .int .u64 0, .int .u64 0, .int .u64 0] 33 (0, 0)) from by
          refine ⟨⟨hE1, HE.out.len, HE.out.row.keep t1 fun q e e2 => ?_, fun _ => ⟨rfl, rfl, rfl⟩, HE.out.new, HE.out.turn.trans (t1.mono fun j _ e => by have := HG.out; omega)⟩, HOW.out.keep (t1.mono fun j _ e => .inl e) HE.out.hE HE.out.row, t1.heap HR.out (by omega)⟩
          exact HE.out.row.ne HE.out.hE (by decide) q e e2)
        clear hE1 t1 CN hcell
        go_wp2_with fail
        go_roundw
        case rel => exact ⟨1, sa, sn, sc, next, seq, log, by go_num, by omega, REL.out.1, REL.out.2.1, REL.out.2.2⟩
        case measure => simp [intOf]
      · obtain ⟨i, rfl⟩ : ∃ i, k = i + 1 := ⟨k - 1, by omega⟩
        obtain ⟨xx, hx⟩ : ∃ xx, L[i]? = some xx := ⟨_, List.getElem?_eq_getElem (by have := HL.out; omega)⟩
        obtain ⟨p, hp⟩ : ∃ p, ps[i]? = some p := ⟨_, List.getElem?_eq_getElem (by have := HP.out; omega)⟩
        have hcell : wr.cell? ⟨og, i + 1, none⟩ = some (.func (.func 66) #[] #[.pointer (some ⟨p.1, 0, none⟩), .pointer (some ⟨p.2, 0, none⟩)]) := by rw [cell_of_row wr og (i + 1) _ 75 (0, 0) hrow, hck i p hp]; rfl
        obtain ⟨hp1, hp2⟩ := HOW.out.caps i p xx hp hx
        have hsz := HE.out.turn.size
        have hbnd : (adsOf (L.take i)).length + xx.l.length ≤ 1000000 := by rw [adsOf_length]; have := cnt_take hx; have := cnt_take_le L (i + 1); have := HC.out; omega
        have CA := hide (ad1_any (g + 1) p.1 p.2 B (i : Nat) xx.a xx.l.length xx.c xx.l sa sn sc (adsOf (L.take i)) _ _ _ _ wr HE.out.hE hp1 hp2 (HOW.out.rows i xx hx) rfl HE.out.row HE.out.len (by have := HB.out; have := HG.out; omega) hbnd)
        have HAT := hide (adsOf_take hx)
        obtain ⟨q1, q2⟩ := p
        simp only at *
        clear hrow hc0 hck hp hx hp1 hp2 hbnd
        go_wp2_with fail
        refine CA.out.mono ?_
        rintro e w1 ⟨rfl, sa', sn', sc', ho⟩
        have REL := hide (show Eo w w1 (g + 1) B next seq log (i + 2) L sa' sn' sc' x y z ∧ Opts w1 B og N1 N2 N3 next seq log ps L ∧ w1.heap[g]? = some (.cells #[.slice none 0 0, .slice none 0 0, .int .u64 0, .int .u64 0, .int .u64 0] 33 (0, 0)) from by
          have e1 : adsOf (L.take (i + 2 - 1)) = adsOf (L.take i) ++ xx.l.map fun y => ((i : Int), y) := HAT.out
          have hgr : ¬ sa = some ⟨g, 0, none⟩ := fun e => HE.out.row.ne HR.out (by decide) g e rfl
          refine ⟨⟨ho.hE, by rw [e1]; exact ho.len, by rw [e1]; exact ho.row, fun _ => HE.out.num (by omega), fun q e => ?_, HE.out.turn.trans (ho.turn.mono fun j _ e => ?_)⟩, HOW.out.keep ho.turn HE.out.hE HE.out.row, ho.turn.heap HR.out (fun e => e.elim (fun e => by omega) (fun e => hgr e))⟩
          · rcases ho.new q e with h1 | h1
            · exact HE.out.new q h1
            · have := HG.out; omega
          · rcases e with e | e
            · have := HG.out; omega
            · exact HE.out.new j e)
        clear ho CA hcell hsz
        go_wp2_with fail
        go_roundw
        case rel => exact ⟨i + 2, sa', sn', sc', x, y, z, by go_num, by omega, REL.out.1, REL.out.2.1, REL.out.2.2⟩
        case measure => simp [intOf]; omega
    · obtain rfl : k = 6 := by omega
      have ht : L.take (6 - 1) = L := List.take_of_length_le (by have := HL.out; omega)
      obtain ⟨rfl, rfl, rfl⟩ := HE.out.num (by omega)
      have LEN := hide (show sn = (adsOf L).length by have h1 := HE.out.len; rw [ht] at h1; exact h1)
      have ROW := hide (show ARow wr B sa sc (adsOf L) by have h1 := HE.out.row; rw [ht] at h1; exact h1)
      have c0 := cell_of_row wr (g + 1) 0 _ 33 (0, 0) HE.out.hE
      have c1 := cell_of_row wr (g + 1) 1 _ 33 (0, 0) HE.out.hE
      have c2 := cell_of_row wr (g + 1) 2 _ 33 (0, 0) HE.out.hE
      have c3 := cell_of_row wr (g + 1) 3 _ 33 (0, 0) HE.out.hE
      have c4 := cell_of_row wr (g + 1) 4 _ 33 (0, 0) HE.out.hE
      have d0 := cell_of_row wr g 0 _ 33 (0, 0) HR.out
      have d1 := cell_of_row wr g 1 _ 33 (0, 0) HR.out
      have d2 := cell_of_row wr g 2 _ 33 (0, 0) HR.out
      have d3 := cell_of_row wr g 3 _ 33 (0, 0) HR.out
      have d4 := cell_of_row wr g 4 _ 33 (0, 0) HR.out
      have z0 := frozen_of_row wr g 0 _ 33 HR.out
      have z1 := frozen_of_row wr g 1 _ 33 HR.out
      have z2 := frozen_of_row wr g 2 _ 33 HR.out
      have z3 := frozen_of_row wr g 3 _ 33 HR.out
      have z4 := frozen_of_row wr g 4 _ 33 HR.out
      have TK := hide (((((Tick.refl HR.out).set 0 (.slice none 0 0)).set 1 (.slice sa sn sc)).set 2 (.int .u64 (x : Nat))).set 3 (.int .u64 (y : Nat)) |>.set 4 (.int .u64 (z : Nat)))
      clear ht
      go_wp2_with fail
      refine bodyPost_ret (v := .agg #[.slice none 0 0, .slice sa sn sc, .int .u64 (x : Nat), .int .u64 (y : Nat), .int .u64 (z : Nat)]) ?_ rfl ?_
      · exact results_cell_row Try.results42 _ _ _ _ _ _ _ rfl TK.out.1 Try.underlying33 rfl sz33w
      · have u := Turns.of_tick TK.out
        refine ⟨sa, sn, sc, rfl, LEN.out, ROW.out.keep u fun q e e2 => ?_, ?_⟩
        · exact HE.out.row.ne HR.out (by decide) q e e2
        · have h1 : Turns (fun _ => False) w wr := HE.out.turn.mono fun j hj e => by omega
          exact h1.andThen u fun j hj e => by have := HG.out; omega
end Go.Proofs.Ytmmcikbedegigaa

/-
  The options' row grows.
-/
namespace Go.Proofs.Ytmmcikbedegigaa
open Go.RowKit
set_option maxRecDepth 100000
set_option maxHeartbeats 4000000
theorem t75_size : Try.t75.size = 1 := by kernel_rfl
theorem t75_bytes : Try.t75.bytes = 8 := by kernel_rfl
theorem t75_zero : Try.t75.zero = some .nilFunc := by kernel_rfl
theorem info75 : Try.prog.info? 75 = some Try.t75 := by kernel_rfl
/-- Options in memory, with the room of their row. -/
structure Opt2 (u : World) (B og oc N1 N2 N3 next seq log : Nat) (ps : List (Nat × Nat)) (L : List Lv) : Prop where
  opts : Opts u B og N1 N2 N3 next seq log ps L
  cell : RowC u og 75 oc (numOpt N1 N2 N3 :: ps.map addOpt)
  le : ps.length + 1 ≤ oc
theorem Opt2.quiet {u u' : World} {B og oc N1 N2 N3 next seq log : Nat} {ps : List (Nat × Nat)} {L : List Lv} (h : Opt2 u B og oc N1 N2 N3 next seq log ps L) (t : Turns (fun _ => False) u u') : Opt2 u' B og oc N1 N2 N3 next seq log ps L := ⟨h.opts.quiet t, h.cell.turns t (fun x => x), h.le⟩
theorem opt_append {w : World} {B og oc N1 N2 N3 next seq log : Nat} {ps : List (Nat × Nat)} {L : List Lv} (h : Opt2 w B og oc N1 N2 N3 next seq log ps L) (C : Nat) (hog : C ≤ og) (hC : C ≤ w.heap.size) (hps : ps.length ≤ 1000) (p : Nat × Nat) (gb cy : Nat) (hgb : w.heap[gb]? = some (.cells #[addOpt p] 75 (0, 0)))
    (hp : ∀ x, L[ps.length]? = some x → w.heap[p.1]? = some (.cells #[.slice x.a x.l.length x.c] 50 (0, 0)) ∧ w.heap[p.2]? = some (.cells #[.int .i64 (ps.length : Nat)] 3 (0, 0))) :
    ∃ (og' n' oc' : Nat) (w' : World), (∀ ty, (Builtin.append_ #[77, 77] ty #[.slice (some ⟨og, 0, none⟩) (ps.length + 1) oc, .slice (some ⟨gb, 0, none⟩) 1 cy]).run Try.prog w = .ok (.slice (some ⟨og', 0, none⟩) n' oc') w') ∧ n' = ps.length + 2 ∧ C ≤ og' ∧ Opt2 w' B og' oc' N1 N2 N3 next seq log (ps ++ [p]) L ∧ Turns (fun j => j = og) w w' := by
  have hsrc : Src Try.prog Try.t75.size 77 (.slice (some ⟨gb, 0, none⟩) 1 cy) 1 [addOpt p] w := Src.ofSlice w Try.underlying77 ⟨gb, 0, none⟩ 1 cy _ (by rw [t75_size]; rfl) (fun j u hu => by
    rw [Go.WideShapes.add_plain, Nat.zero_add, cell_of_row w gb j _ 75 (0, 0) hgb]
    simpa using hu) (fun u hu => by obtain rfl := List.mem_singleton.1 hu; rfl)
  obtain ⟨g', cp, w', hr, hg', hrow, hb, hcp, hin, hnew, hkeep⟩ := append_gen2 (P := Try.prog) w C 77 75 Try.t75 _ Try.underlying77 info75 t75_zero rfl (some ⟨og, 0, none⟩) (ps.length + 1) oc (numOpt N1 N2 N3 :: ps.map addOpt) (by rw [t75_size]; simp) _ 1 _ hsrc hC (.inr ⟨og, rfl, hog, h.le, by rw [t75_size, Nat.mul_one]; exact h.cell⟩) (by rw [t75_bytes]; omega) (by omega)
  have t : Turns (fun j => j = og) w w' := ⟨hb.os, hb.tape, hb.output, hb.size, fun k hk hn => hkeep k hk fun e => hn (by cases e; rfl)⟩
  rw [t75_size, Nat.mul_one] at hrow
  obtain ⟨cs0, hcs0, _⟩ := h.cell
  have hk : ∀ {q : Nat} {cs' : Array Value} {ty : TypeId} {z' : Nat × Nat}, w.heap[q]? = some (.cells cs' ty z') → ty ≠ 75 → w'.heap[q]? = some (.cells cs' ty z') := fun hq h1 => t.heap hq fun e => by subst e; rw [hcs0] at hq; cases hq; exact h1 rfl
  have hrow' : RowC w' g' 75 cp (numOpt N1 N2 N3 :: (ps ++ [p]).map addOpt) := by rw [List.map_append]; exact hrow
  refine ⟨g', _, cp, w', hr, by omega, hg', ⟨⟨?_, hk h.opts.n1 (by decide), hk h.opts.n2 (by decide), hk h.opts.n3 (by decide), fun k q x hq hx => ?_, fun k x hx => ?_⟩, hrow', by simp; omega⟩, t⟩
  · obtain ⟨cs, e1, e2, e3⟩ := hrow'
    refine ⟨cs, e1, by rw [e3 0 (by simp)]; rfl, fun k q hq => ?_⟩
    have hkl := (List.getElem?_eq_some_iff.1 hq).1
    rw [e3 (k + 1) (by simpa using hkl), List.getElem?_cons_succ, List.getElem?_map, hq]
    rfl
  · rcases Nat.lt_or_ge k ps.length with hkl | hkl
    · rw [List.getElem?_append_left hkl] at hq
      obtain ⟨e1, e2⟩ := h.opts.caps k q x hq hx
      exact ⟨hk e1 (by decide), hk e2 (by decide)⟩
    · have hkl2 := (List.getElem?_eq_some_iff.1 hq).1
      simp only [List.length_append, List.length_cons, List.length_nil] at hkl2
      obtain rfl : k = ps.length := by omega
      rw [List.getElem?_append_right (Nat.le_refl _), Nat.sub_self] at hq
      obtain rfl : p = q := by simpa using hq
      obtain ⟨e1, e2⟩ := hp x hx
      exact ⟨hk e1 (by decide), hk e2 (by decide)⟩
  · refine (h.opts.rows k x hx).keep t fun q e e2 => ?_
    exact (h.opts.rows k x hx).ne hcs0 (by decide) q e e2
end Go.Proofs.Ytmmcikbedegigaa

/-
  Whole.
-/
namespace Go.Proofs.Ytmmcikbedegigaa
open Go.RowKit
set_option maxRecDepth 100000
set_option maxHeartbeats 4000000
def wholeF (LL : List (List Fl)) : List AddF := LL.zipIdx.flatMap fun p => p.1.map fun f => ((p.2 : Int), f)
theorem adsOf_F (L : List Lv) : fA (adsOf L) = wholeF (flL L) := by
  unfold fA adsOf wholeF flL fls
  have : ∀ q, ((L.zipIdx q).flatMap fun p => p.1.l.map fun y => ((p.2 : Int), y)).map (fun d => (d.1, d.2.f)) = ((L.map fun x => x.l.map Tf.f).zipIdx q).flatMap fun p => p.1.map fun f => ((p.2 : Int), f) := by
    induction L with
    | nil => intro q; rfl
    | cons x r ih =>
      intro q
      rw [List.zipIdx_cons, List.flatMap_cons, List.map_append, List.map_cons, List.zipIdx_cons, List.flatMap_cons, ih, List.map_map, List.map_map]
      rfl
  exact this 0
theorem adsOf_mem {L : List Lv} {d : Int × Tf} (h : d ∈ adsOf L) : ∃ x ∈ L, d.2 ∈ x.l := by
  unfold adsOf at h
  obtain ⟨p, hp, h2⟩ := List.mem_flatMap.1 h
  obtain ⟨y, hy, rfl⟩ := List.mem_map.1 h2
  exact ⟨p.1, (List.mem_zipIdx_iff_getElem?.1 hp |> List.mem_of_getElem?), hy⟩
def zeroEd : Value := .agg #[.slice none 0 0, .slice none 0 0, .int .u64 0, .int .u64 0, .int .u64 0]
/-- What Whole answers. -/
def Wholed (w' : World) (LL : List (List Fl)) (next seq log : Nat) (e : Ending) : Prop :=
  (wrongVF LL next seq log = true ∧ e = .returned (.tuple #[zeroEd, .int .i64 2])) ∨ (wrongVF LL next seq log = false ∧ ∃ sa sn sc A, e = .returned (.tuple #[edAgg none 0 0 sa sn sc next seq log, .int .i64 0]) ∧ sn = List.length A ∧ fA A = wholeF LL ∧ Adds w' sa A)
theorem whole_any (a : Option Addr) (n c next seq log : Nat) (L : List Lv) (w : World) (h : VerIn w a n L next seq log) :
    Calls Try.prog 16 #[verAgg a n c next seq log] w fun e w' => Turns (fun _ => False) w w' ∧ Wholed w' (flL L) next seq log e := by
  have TA := hide (((Turns.refl (fun _ => False) w).alloc (.cells #[.slice a n c, .int .u64 (next : Nat), .int .u64 (seq : Nat), .int .u64 (log : Nat)] 25)).alloc (.cells #[.slice none 0 0, .slice none 0 0, .int .u64 0, .int .u64 0, .int .u64 0] 33))
  have R0 := hide (((Turns.refl (fun _ => False) (w.alloc (.cells #[.slice a n c, .int .u64 (next : Nat), .int .u64 (seq : Nat), .int .u64 (log : Nat)] 25))).alloc (.cells #[.slice none 0 0, .slice none 0 0, .int .u64 0, .int .u64 0, .int .u64 0] 33)).heap (heap_alloc_new w _) (fun x => x))
  have R1 := hide (heap_alloc_new (w.alloc (.cells #[.slice a n c, .int .u64 (next : Nat), .int .u64 (seq : Nat), .int .u64 (log : Nat)] 25)) (.cells #[.slice none 0 0, .slice none 0 0, .int .u64 0, .int .u64 0, .int .u64 0] 33))
  simp only [World.size_alloc] at R1
  have CK := hide (check_any a n c next seq log L _ (h.quiet TA.out))
  have HV := hide (show chkV L next seq log = if wrongV L next seq log then 2 else 0 from rfl)
  have HVI := hide h
  unfold verAgg at *
  clear h
  generalize hV : wrongV L next seq log = V at *
  have HWV := hide (show wrongVF (flL L) next seq log = V by rw [← wrongV_F]; exact hV)
  clear hV
  generalize chkV L next seq log = CV at *
  go_enter Try.func16, Try.ntmps16
  go_wp2_with fail
  refine CK.out.mono ?_
  rintro e w1 ⟨rfl, t1⟩
  have T1 := hide (TA.out.trans t1)
  have Q0 := hide (t1.heap R0.out (fun x => x))
  have Q1 := hide (t1.heap R1.out (fun x => x))
  clear t1 CK R0 R1
  generalize hg : w.heap.size = g at *
  have HG := hide hg
  clear hg
  cases V with
  | true =>
    have hcv : CV = 2 := HV.out
    subst hcv
    have d0 := cell_of_row w1 (g + 1) 0 _ 33 (0, 0) Q1.out
    have d1 := cell_of_row w1 (g + 1) 1 _ 33 (0, 0) Q1.out
    have d2 := cell_of_row w1 (g + 1) 2 _ 33 (0, 0) Q1.out
    have d3 := cell_of_row w1 (g + 1) 3 _ 33 (0, 0) Q1.out
    have d4 := cell_of_row w1 (g + 1) 4 _ 33 (0, 0) Q1.out
    have f0 := frozen_of_row w1 (g + 1) 0 _ 33 Q1.out
    have f1 := frozen_of_row w1 (g + 1) 1 _ 33 Q1.out
    have f2 := frozen_of_row w1 (g + 1) 2 _ 33 Q1.out
    have f3 := frozen_of_row w1 (g + 1) 3 _ 33 Q1.out
    have f4 := frozen_of_row w1 (g + 1) 4 _ 33 Q1.out
    go_wp2_with fail
    have tk := (((((Tick.refl Q1.out).set 0 (.slice none 0 0)).set 1 (.slice none 0 0)).set 2 (.int .u64 0)).set 3 (.int .u64 0)).set 4 (.int .u64 0)
    refine bodyPost_ret (v := .tuple #[.agg #[.slice none 0 0, .slice none 0 0, .int .u64 0, .int .u64 0, .int .u64 0], .int .i64 2]) ?_ rfl ?_
    · exact results_cell_tmp Try.results16 _ _ _ _ _ _ _ _ rfl rfl tk.1 Try.underlying33 rfl sz33w
    · exact ⟨T1.out.andThen (Turns.of_tick tk) fun j hj e => by have := HG.out; omega, .inl ⟨HWV.out, rfl⟩⟩
  | false =>
    have hcv : CV = 0 := HV.out
    subst hcv
    have hn5 : n = 5 := by
      have h1 := HWV.out
      unfold wrongVF at h1
      simp only [Bool.or_eq_false_iff, decide_eq_false_iff_not, flL_length] at h1
      have h2 := HVI.out.len
      omega
    subst hn5
    obtain ⟨ad, rfl⟩ : ∃ ad, a = some ad := by
      obtain ⟨x, hx⟩ : ∃ x, L[0]? = some x := ⟨_, List.getElem?_eq_getElem (by have := HVI.out.len; omega)⟩
      obtain ⟨⟨b, off, e, _⟩, _⟩ := HVI.out.levs 0 x hx
      exact ⟨_, e⟩
    have HKL := hide (show ∀ x ∈ L, ∀ y ∈ x.l, y.f.least.length ≤ 1000000 ∧ y.f.most.length ≤ 1000000 from fun x hx y hy => by
      have h1 := wrongF_false (wrongV_files (by rw [wrongV_F]; exact HWV.out) x hx y hy)
      omega)
    have CLS := hide (fun (u : World) (t : Turns (fun _ => False) w1 u) => listsOf_any ad c L u (HVI.out.levs.quiet (T1.out.trans t)) HVI.out.len.symm (by have := HVI.out.cnt; omega) HKL.out)
    have p1 := cell_of_row w1 g 1 _ 25 (0, 0) Q0.out
    have p2 := cell_of_row w1 g 2 _ 25 (0, 0) Q0.out
    have p3 := cell_of_row w1 g 3 _ 25 (0, 0) Q0.out
    go_wp2_with fail
    refine (numbered_any next seq log w1).mono ?_
    rintro e w2 ⟨rfl, n1, n2, n3, t2⟩
    have TN := hide ((Turns.refl (fun _ => False) w2).alloc (.cells #[numOpt w1.heap.size (w1.heap.size + 1) (w1.heap.size + 2)] 75))
    have NO := hide (heap_alloc_new w2 (.cells #[numOpt w1.heap.size (w1.heap.size + 1) (w1.heap.size + 2)] 75))
    have T3 := hide (t2.trans TN.out)
    have M1 := hide (TN.out.heap n1 (fun x => x))
    have M2 := hide (TN.out.heap n2 (fun x => x))
    have M3 := hide (TN.out.heap n3 (fun x => x))
    have HOG := hide (show w1.heap.size ≤ w2.heap.size from t2.size)
    have q0 := T3.out.cell (cell_of_row w1 g 0 _ 25 (0, 0) Q0.out) (fun x => x)
    clear n1 n2 n3 t2 p1 p2 p3
    unfold numOpt at q0
    go_wp2_with fail
    refine (CLS.out _ T3.out).mono ?_
    rintro e w4 ⟨G, c2, L1, rfl, hc2, hl1, hdr, hfl, t4⟩
    have HC2 := hide hc2
    have HL1 := hide hl1
    have HFL := hide hfl
    have HO := hide (show Opt2 w4 (w2.alloc (.cells #[numOpt w1.heap.size (w1.heap.size + 1) (w1.heap.size + 2)] 75)).heap.size w2.heap.size 1 w1.heap.size (w1.heap.size + 1) (w1.heap.size + 2) next seq log [] L1 from by
      have r0 := t4.heap NO.out (fun x => x)
      refine ⟨⟨⟨_, r0, rfl, fun k p hp => by simp at hp⟩, t4.heap M1.out (fun x => x), t4.heap M2.out (fun x => x), t4.heap M3.out (fun x => x), fun k p x hp => by simp at hp, hdr.rows⟩, ⟨_, r0, Nat.le_refl _, fun k hk => by cases k with | zero => rfl | succ k => simp at hk⟩, Nat.le_refl _⟩)
    have HDR := hide hdr
    have T4 := hide ((T1.out.trans T3.out).trans t4)
    have Q4 := hide (t4.heap (T3.out.heap Q1.out (fun x => x)) (fun x => x))
    have HS4 := hide (show (w2.alloc (.cells #[numOpt w1.heap.size (w1.heap.size + 1) (w1.heap.size + 2)] 75)).heap.size ≤ w4.heap.size from t4.size)
    have HGW := hide (show g + 1 < w1.heap.size from lt_of_heap Q1.out)
    clear hc2 hl1 hfl hdr t4 TN NO T3 M1 M2 M3 q0 CLS Q0 Q1 T1 TA HKL
    go_wp2_with fail
    have hf : Sem.run Try.prog (Instr.field 54 (.agg #[.slice (some ⟨G, 0, none⟩) 5 c2]) 0) w4 = .ok (.slice (some ⟨G, 0, none⟩) 5 c2) w4 := by kernel_rfl
    rw [hf]
    clear hf
    go_wp2_with fail
    generalize hB : (w2.alloc (.cells #[numOpt w1.heap.size (w1.heap.size + 1) (w1.heap.size + 2)] 75)).heap.size = B at *
    have HBO := hide (show w2.heap.size + 1 = B by rw [← hB]; simp)
    clear hB
    generalize w1.heap.size = N at *
    generalize w2.heap.size = C at *
    go_loopw [5, 27] (fun o i wr => ∃ (k og oc : Nat) (ps : List (Nat × Nat)), i = .int .i64 (k : Nat) ∧ o = .slice (some ⟨og, 0, none⟩) (ps.length + 1) oc ∧ k ≤ 5 ∧ ps.length = k ∧ C ≤ og ∧ Opt2 wr B og oc N (N + 1) (N + 2) next seq log ps L1 ∧ Turns (fun j => C ≤ j) w4 wr ∧ DR wr B G 5 L1) (fun _ i _ => 5 - (intOf i).toNat)
    case atStart => exact ⟨0, C, 1, [], rfl, rfl, Nat.zero_le _, rfl, Nat.le_refl _, HO.out, Turns.refl _ _, HDR.out⟩
    case round =>
      obtain ⟨k, og, oc, ps, rfl, rfl, hk, hps, hog, ho, ht, hd⟩ := hrel
      have HOW := hide ho
      have HT := hide ht
      have HD := hide hd
      have HPS := hide hps
      have HOG2 := hide hog
      clear ho ht hd hps hog
      by_cases hk5 : k < 5
      · obtain ⟨cs, hrow, hc0, hck⟩ := HD.out.head
        have i1 : (k : Int) < 5 := by omega
        have i0 : (0 : Int) ≤ k := by omega
        obtain ⟨xx, hx⟩ : ∃ xx, L1[k]? = some xx := ⟨_, List.getElem?_eq_getElem (by have := HL1.out; omega)⟩
        have hcell : wr.cell? ⟨G, k, none⟩ = some (.slice xx.a xx.l.length xx.c) := by rw [cell_of_row wr G k _ 50 (0, 0) hrow]; exact hck k xx hx
        have HX := hide hx
        clear hrow hc0 hck hx
        have CA := hide (adding_any (k : Nat) xx.a xx.l.length xx.c wr)
        go_wp2_with fail
        refine CA.out.mono ?_
        rintro e w5 ⟨rfl, e1, e2, t5⟩
        have HA := hide (show w5.heap.size = w5.heap.size from rfl)
        obtain ⟨uA, huA⟩ : ∃ uA, uA = w5.alloc (.cells #[addOpt (wr.heap.size + 1, wr.heap.size)] 75) := ⟨_, rfl⟩
        have hnA : uA.heap[w5.heap.size]? = some (.cells #[addOpt (wr.heap.size + 1, wr.heap.size)] 75) := by rw [huA]; exact heap_alloc_new _ _
        have tA : Turns (fun _ => False) w5 uA := by rw [huA]; exact (Turns.refl _ _).alloc _
        have tB := t5.trans tA
        obtain ⟨og', n', oc', w6, hr, hn', hog', ho6, t6⟩ := opt_append (HOW.out.quiet tB) C HOG2.out (by have h1 := HT.out.size; have h2 := tB.size; have h3 := HS4.out; have h4 := HBO.out; omega) (by have := HPS.out; omega) (wr.heap.size + 1, wr.heap.size) w5.heap.size 1 hnA (fun x hx => by
          have h1 := HX.out
          rw [HPS.out] at hx ⊢
          rw [h1] at hx
          cases hx
          exact ⟨tA.heap e2 (fun x => x), tA.heap e1 (fun x => x)⟩)
        have REL := hide (show n' = (ps ++ [(wr.heap.size + 1, wr.heap.size)]).length + 1 ∧ (ps ++ [(wr.heap.size + 1, wr.heap.size)]).length = k + 1 ∧ C ≤ og' ∧ Opt2 w6 B og' oc' N (N + 1) (N + 2) next seq log (ps ++ [(wr.heap.size + 1, wr.heap.size)]) L1 ∧ Turns (fun j => C ≤ j) w4 w6 ∧ DR w6 B G 5 L1 from by
          have h1 := HPS.out
          have h2 := HOG2.out
          obtain ⟨cs0, hcs0, _⟩ := (HOW.out.quiet tB).cell
          exact ⟨by simp; omega, by simp; omega, hog', ho6, (HT.out.trans (tB.mono fun _ _ x => x.elim)).trans (t6.mono fun j _ e => by subst e; exact h2), (HD.out.quiet tB).alien t6 hcs0 (by decide) (by decide) (by decide)⟩)
        unfold addOpt at huA
        have HR := hide hr
        have HUA := hide huA.symm
        clear hr huA hnA tA tB t5 t6 ho6 hog' hn' e1 e2 CA hcell
        generalize ps ++ [(wr.heap.size + 1, wr.heap.size)] = ps2 at *
        go_wp2_with (first | rw [HUA.out] | (at_builtin; refine wpList_append_run rfl _ _ 77 rfl (.slice (some ⟨og, 0, none⟩) (ps.length + 1) oc) (.slice (some ⟨w5.heap.size, 0, none⟩) 1 1) rfl rfl _ _ (HR.out _) ?_))
        go_roundw
        case rel => exact ⟨k + 1, og', oc', ps2, by go_num, by rw [REL.out.1], by omega, REL.out.2.1, REL.out.2.2.1, REL.out.2.2.2.1, REL.out.2.2.2.2.1, REL.out.2.2.2.2.2⟩
        case measure => simp [intOf]; omega
      · obtain rfl : k = 5 := by omega
        have hp5 := HPS.out
        have h6 : ps.length + 1 = 6 := by omega
        rw [h6]
        have CE := hide (editOf_whole og oc N (N + 1) (N + 2) next seq log B ps L1 wr HOW.out.opts HL1.out hp5 (Nat.le_trans HS4.out HT.out.size) (by
          have h1 := HVI.out.cnt
          have h2 : cnt L1 = cnt L := by rw [cnt_wt, cnt_wt, HFL.out]
          omega))
        have Q5 := hide (HT.out.heap Q4.out (by have h1 := HGW.out; have h2 := HOG.out; omega))
        clear h6 hp5
        go_wp2_with fail
        refine CE.out.mono ?_
        rintro e w5 ⟨sa, sn, sc, rfl, hsn, har, t5⟩
        have Q6 := hide (t5.heap Q5.out (fun x => x))
        unfold edAgg
        have d0 := cell_of_row w5 (g + 1) 0 _ 33 (0, 0) Q6.out
        have d1 := cell_of_row w5 (g + 1) 1 _ 33 (0, 0) Q6.out
        have d2 := cell_of_row w5 (g + 1) 2 _ 33 (0, 0) Q6.out
        have d3 := cell_of_row w5 (g + 1) 3 _ 33 (0, 0) Q6.out
        have d4 := cell_of_row w5 (g + 1) 4 _ 33 (0, 0) Q6.out
        have f0 := frozen_of_row w5 (g + 1) 0 _ 33 Q6.out
        have f1 := frozen_of_row w5 (g + 1) 1 _ 33 Q6.out
        have f2 := frozen_of_row w5 (g + 1) 2 _ 33 Q6.out
        have f3 := frozen_of_row w5 (g + 1) 3 _ 33 Q6.out
        have f4 := frozen_of_row w5 (g + 1) 4 _ 33 Q6.out
        have REL := hide (show sn = (adsOf L1).length ∧ ARow w5 B sa sc (adsOf L1) ∧ Turns (fun _ => False) wr w5 from ⟨hsn, har, t5⟩)
        clear hsn har t5 CE
        go_wp2_with fail
        have tk := (((((Tick.refl Q6.out).set 0 (.slice none 0 0)).set 1 (.slice sa sn sc)).set 2 (.int .u64 (next : Nat))).set 3 (.int .u64 (seq : Nat))).set 4 (.int .u64 (log : Nat))
        have u := Turns.of_tick tk
        have hs1 := HGW.out
        have hs2 := HOG.out
        have hs3 := HG.out
        refine bodyPost_ret (v := .tuple #[.agg #[.slice none 0 0, .slice sa sn sc, .int .u64 (next : Nat), .int .u64 (seq : Nat), .int .u64 (log : Nat)], .int .i64 0]) ?_ rfl ?_
        · exact results_cell_tmp Try.results16 _ _ _ _ _ _ _ _ rfl rfl tk.1 Try.underlying33 rfl sz33w
        · refine ⟨((T4.out.andThen HT.out fun j hj e => by omega).trans REL.out.2.2).andThen u fun j hj e => by omega, .inr ⟨HWV.out, sa, sn, sc, adsOf L1, rfl, REL.out.1, by rw [adsOf_F, HFL.out], ?_⟩⟩
          have hd := HD.out.quiet REL.out.2.2
          have hd6 := hd.alien u Q6.out (by decide) (by decide) (by decide)
          refine ARow.adds (REL.out.2.1.keep u fun q e e2 => REL.out.2.1.ne Q6.out (by decide) q e e2) fun d hm => ?_
          obtain ⟨x, hx, hy⟩ := adsOf_mem hm
          exact (hd6.files x hx d.2 hy).fb
end Go.Proofs.Ytmmcikbedegigaa

/-
  smallEdit.
-/
namespace Go.Proofs.Ytmmcikbedegigaa
open Go.RowKit
set_option maxRecDepth 100000
set_option maxHeartbeats 4000000
/-- A whole number, as the machine keeps it. -/
def w64 (z : Int) : Int := IntKind.i64.wrap z
theorem wr64 (z : Int) : wrap64 z = IntKind.i64.wrap z := by rw [IntKind.wrap_i64]; unfold wrap64; omega
theorem w64_add (a b : Int) : IntKind.i64.wrap (w64 a + b) = w64 (a + b) := by
  unfold w64
  simp only [IntKind.wrap_i64]
  omega
theorem w64_small (z : Int) (h0 : 0 ≤ z) (h1 : z < 9223372036854775808) : w64 z = z := wrapI z (by omega) h1
def keysN (A : List Fl) : Nat := (A.map fun f => f.least.length + f.most.length).sum
def addsN (A : List (Int × Tf)) : Nat := keysN (A.map fun d => d.2.f)
theorem addsN_snoc (A : List (Int × Tf)) (d : Int × Tf) : addsN (A ++ [d]) = addsN A + (d.2.f.least.length + d.2.f.most.length) := by simp [addsN, keysN]
theorem smallE_any (da : Option Addr) (dn dc : Nat) (aa : Option Addr) (an ac en es el : Nat) (A : List (Int × Tf)) (w : World) (h : Adds w aa A) (hn : an = A.length) (hmx : an ≤ reachBytes) (hdx : dn ≤ reachBytes) :
    Calls Try.prog 14 #[edAgg da dn dc aa an ac en es el] w fun e w' => e = .returned (.bool (decide (an ≤ 100) && (decide (dn ≤ 100) && decide (w64 (addsN A : Nat) ≤ 10000)))) ∧ Turns (fun _ => False) w w' := by
  have TA := hide ((Turns.refl (fun _ => False) w).alloc (.cells #[.slice da dn dc, .slice aa an ac, .int .u64 (en : Nat), .int .u64 (es : Nat), .int .u64 (el : Nat)] 33))
  have R0 := hide (heap_alloc_new w (.cells #[.slice da dn dc, .slice aa an ac, .int .u64 (en : Nat), .int .u64 (es : Nat), .int .u64 (el : Nat)] 33))
  have HL := hide hn
  have HA := hide h
  unfold reachBytes at hmx hdx
  have hmi : (an : Int) ≤ 140737488355328 := by omega
  have hdi : (dn : Int) ≤ 140737488355328 := by omega
  clear hn h
  unfold edAgg
  go_enter Try.func14, Try.ntmps14
  go_wp2_with fail
  generalize w.alloc (.cells #[.slice da dn dc, .slice aa an ac, .int .u64 (en : Nat), .int .u64 (es : Nat), .int .u64 (el : Nat)] 33) = w0 at *
  generalize w.heap.size = g at *
  go_loopw [3, 4] (fun sv iv wr => ∃ k : Nat, sv = .int .i64 (w64 (addsN (A.take k) : Nat)) ∧ iv = .int .i64 (k : Nat) ∧ k ≤ an ∧ Turns (fun _ => False) w0 wr) (fun _ iv _ => an - (intOf iv).toNat)
  case atStart => exact ⟨0, rfl, rfl, by omega, Turns.refl _ _⟩
  case round =>
    obtain ⟨k, rfl, rfl, hk, ht⟩ := hrel
    have TT := hide ht
    have p1 := ht.cell (cell_of_row w0 g 1 _ 33 (0, 0) R0.out) (fun x => x)
    by_cases hk2 : k < an
    · have i1 : (k : Int) < an := by omega
      have i0 : (0 : Int) ≤ (k : Int) := by omega
      have hkl : k < A.length := by have := HL.out; omega
      obtain ⟨⟨b, off, rfl, _, hc⟩, _⟩ := (HA.out.quiet (TA.out.trans ht)) k A[k] (List.getElem?_eq_getElem hkl)
      have HTK := hide (List.take_succ_eq_append_getElem hkl)
      have hws : addsN (A.take (k + 1)) = addsN (A.take k) + (A[k].2.f.least.length + A[k].2.f.most.length) := by rw [HTK.out, addsN_snoc]
      have HWS := hide hws
      have c2 := hc.c2
      have c3 := hc.c3
      generalize A[k].2.f.least.length = L1 at *
      generalize A[k].2.f.most.length = L2 at *
      clear hc ht hws
      have HQ := hide (show ∀ x y : Int, IntKind.i64.wrap (IntKind.i64.wrap (w64 (addsN (A.take k) : Nat) + x) + y) = w64 ((addsN (A.take k) : Nat) + (x + y)) from fun x y => by
        rw [w64_add]
        unfold w64
        simp only [IntKind.wrap_i64]
        omega)
      generalize hz : w64 (addsN (A.take k) : Nat) = z at *
      clear hz
      go_wp2_with fail
      go_quiet (fail)
      go_wp2
      go_roundw
      case rel =>
        refine ⟨k + 1, ?_, by go_num, by omega, ?_⟩
        · rw [HWS.out, Int.natCast_add, Int.natCast_add, ← HQ.out, wr64, wr64]
        · first
            | exact TT.out.drew
            | exact TT.out.drewN _
      case measure => simp [intOf]; omega
    · have i1 : ¬ (k : Int) < an := by omega
      have hkn : k = an := by omega
      have HK := hide hkn
      have p0 := ht.cell (cell_of_row w0 g 0 _ 33 (0, 0) R0.out) (fun x => x)
      have HZ := hide (show addsN (A.take k) = addsN A from by rw [HK.out, HL.out, List.take_length])
      rw [HZ.out]
      generalize hz : w64 (addsN A : Nat) = z at *
      have HZ2 := hide hz
      clear hk hk2 hkn ht HZ hz
      by_cases h1 : (an : Int) ≤ 100
      · have g1 : an ≤ 100 := by omega
        by_cases h2 : (dn : Int) ≤ 100
        · have g2 : dn ≤ 100 := by omega
          by_cases h3 : z ≤ 10000
          · have HF := hide (show (decide (an ≤ 100) && (decide (dn ≤ 100) && decide (z ≤ 10000))) = true by simp [g1, g2, h3])
            clear g1 g2
            go_wp2_with fail
            go_ret
            exact ⟨by rw [HZ2.out, HF.out]; rfl, TA.out.trans TT.out⟩
          · have HF := hide (show (decide (an ≤ 100) && (decide (dn ≤ 100) && decide (z ≤ 10000))) = false by simp [h3])
            clear g1 g2
            go_wp2_with fail
            go_ret
            exact ⟨by rw [HZ2.out, HF.out]; rfl, TA.out.trans TT.out⟩
        · have HF := hide (show (decide (an ≤ 100) && (decide (dn ≤ 100) && decide (z ≤ 10000))) = false by have : ¬ dn ≤ 100 := by omega
                                                                                                            simp [this])
          clear g1
          go_wp2_with fail
          go_ret
          exact ⟨by rw [HZ2.out, HF.out]; rfl, TA.out.trans TT.out⟩
      · have HF := hide (show (decide (an ≤ 100) && (decide (dn ≤ 100) && decide (z ≤ 10000))) = false by have : ¬ an ≤ 100 := by omega
                                                                                                          simp [this])
        go_wp2_with fail
        go_ret
        exact ⟨by rw [HZ2.out, HF.out]; rfl, TA.out.trans TT.out⟩
end Go.Proofs.Ytmmcikbedegigaa
