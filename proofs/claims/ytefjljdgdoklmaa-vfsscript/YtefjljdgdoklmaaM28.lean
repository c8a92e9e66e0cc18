import Derived.Test.YtefjljdgdoklmaaM27
/-
  The document's Append.
-/
namespace Go.Proofs.Ytefjljdgdoklmaa
open Go.RowKit Go.Maps

/-- No more files are told of than a list may hold, nor more bytes in them than an int. -/
def RDisk.fits (r : RDisk) : Prop := ∀ ls : List Nat, ls.Nodup → (∀ g, g ∈ ls → r.tells (r.changes.length + 1) g) → ls.length ≤ 1000000000 ∧ total r.files ls ≤ 4611686018427387904
theorem Bytes.keep0 {S : Nat → Prop} {w w' : World} {a : Option Addr} {n c : Nat} {bs : List (BitVec 8)} (h : Bytes w (.slice a n c) bs) (t : Turns S w w') (ha : ∀ q o, a = some ⟨q, o, none⟩ → 0 < n → ¬ S q) : Bytes w' (.slice a n c) bs := by
  have hl := h.len
  obtain ⟨a', c', e, h⟩ := h
  cases e
  exact ⟨_, _, rfl, fun k hk => let ⟨q, o, h1, h2⟩ := h k hk; ⟨q, o, h1, t.cell h2 (ha q o h1 (by omega))⟩⟩
def RDisk.told (r : RDisk) (ls : List Nat) : Prop := ls.Nodup ∧ ∀ g, g ∈ ls ↔ r.tells (r.changes.length + 1) g

set_option maxRecDepth 100000 in
set_option maxHeartbeats 4000000 in
theorem rappend_rep (A : Nat → Prop) (q : Nat) (r r1 : RDisk) (z : Int) (name : ByteArray) (a : Option Addr) (n c : Nat) (news : List (BitVec 8)) (w : World) (h : RRep A w q r) (hn : RNum r) (hn1 : RNum r1) (hnm : name.size ≤ 1000) (hz : r.begin (goodN name) = (z, r1)) (hft : r1.fits) (hb : Bytes w (.slice a n c) news) (hbf : ∀ p o, a = some ⟨p, o, none⟩ → 0 < n → p ≠ q) (hnb : n ≤ 1073741824) (R : Ending → World → Prop)
    (HE : z ≠ 0 → ∀ w', RRep (Grow A w) w' q r1 → Turns A w w' → R (.returned (.int .i64 z)) w')
    (HN : z = 0 → fileOf r1.now name = none → ∀ w', RRep (Grow A w) w' q r1 → Turns A w w' → R (.returned (.int .i64 6)) w')
    (HF : z = 0 → ∀ g x ls w', fileOf r1.now name = some g → r1.files g = some x → r1.told ls → r1.limit < (total r1.files ls : Int) + n → RRep (Grow A w) w' q r1 → Turns A w w' → R (.returned (.int .i64 7)) w')
    (HS : z = 0 → ∀ g x ls w', fileOf r1.now name = some g → r1.files g = some x → r1.told ls → (total r1.files ls : Int) + n ≤ r1.limit → RRep (Grow A w) w' q (r1.setF g ⟨x.bytes ++ news, x.synced⟩) → Turns A w w' → R (.returned (.int .i64 0)) w') :
    Calls Try.prog 66 #[.pointer (some ⟨q, 0, none⟩), .string name, .slice a n c] w R := by
  obtain ⟨bs, ch, fv, h⟩ := h
  have t0 : Turns (fun _ => False) w (w.alloc (.cells #[.string name] 9)) := (Turns.refl _ w).alloc _
  have hB := rbegin_rep A q r (some ⟨w.heap.size, 0, none⟩) 1 1 [name] _ bs ch fv (h.quiet t0) hn (strs_one w name) (by decide) (fun s hs => by simp at hs; rw [hs]; exact hnm)
  rw [show [name].all goodN = goodN name by simp, hz] at hB
  have HB := hide hB
  have hqa := h.af
  have hsz0 := t0.size
  have hnl := hb.len
  have HEE := hide HE
  have HNN := hide HN
  have HFF := hide HF
  have HSS := hide HS
  have T0 := hide t0
  have HN1 := hide hn1
  have HFT := hide hft
  have HBY := hide hb
  have HBF := hide hbf
  have HNL := hide hnl
  have hqw := lt_of_heap h.cells
  clear hB h hn hz HE HN HF HS t0 hn1 hft hb hbf hnl
  go_enter Try.func66, Try.ntmps66
  go_wp2_with fail
  refine HB.out.mono ?_
  rintro e w1 ⟨rfl, r1r, t1⟩
  have R1 := hide r1r
  have tw1 : Turns (fun k => k = q) w w1 := (T0.out.mono fun _ _ x => x.elim).trans t1
  have TW1 := hide tw1
  have hsz1 := tw1.size
  clear r1r t1 tw1 HB
  by_cases hz0 : z = 0
  · subst hz0
    go_wp2_with fail
    refine (rnow_rep A q r1 w1 ⟨bs, ch, fv, R1.out⟩ HN1.out).mono ?_
    rintro e w2 ⟨N, rfl, d2, b2⟩
    have hlk := d2.look81 name (by unfold maxLen; omega)
    have t2 : Turns (fun _ => False) w1 w2 := Turns.of_below b2 _
    have R2 := hide (R1.out.quiet t2)
    have TW2 := hide (TW1.out.trans (t2.mono fun _ _ x => x.elim))
    have hsz2 := t2.size
    clear d2 b2 t2 R1 TW1
    cases hfile : fileOf r1.now name with
    | none =>
      rw [hfile] at hlk
      simp only [ptrOf] at hlk
      have HF := hide (HNN.out (by trivial) hfile w2 ⟨bs, ch, fv, R2.out.mono fun k _ hk => .inl hk⟩ (TW2.out.mono fun k _ e => by rw [e]; exact hqa))
      clear hfile
      go_wp2_with fail
      exact HF.out
    | some g =>
      rw [hfile] at hlk
      simp only [ptrOf] at hlk
      obtain ⟨x, hx⟩ := R2.out.look hfile
      have k0 : w2.cell? ⟨q, 0, none⟩ = some (.int .i64 r1.limit) := cell_of_row w2 q 0 _ 84 (0, 0) R2.out.cells
      have hu := rused_rep A q r1 w2.drew ⟨bs, ch, fv, R2.out.quiet (Turns.refl _ w2).drew⟩ HN1.out HFT.out
      have HU := hide hu
      have HFILE := hide hfile
      have HX := hide hx
      clear hu hfile hx
      go_wp2_with fail
      go_region_held (fun w' => w'.cell? ⟨q, 0, none⟩ = some (.int .i64 r1.limit)) (first | (with_reducible exact f1) | (simp only [World.cell?_drew]; with_reducible exact k0)) (first
        | (go_at_call 68; refine HU.out.mono ?_; rintro e w3 ⟨ls, rfl, hnd, htl, b3⟩; have f1 := (b3.cell (p := ⟨q, 0, none⟩) (block_lt_of_cell (w := w2.drew) k0)).trans k0; have B3 := hide b3; have HND := hide hnd; have HTL := hide htl; clear b3 hnd htl))
      have htb := (HFT.out ls HND.out (fun g hg => (HTL.out g).1 hg)).2
      have T3 : Turns (fun _ => False) w2 w3 := (Turns.refl _ w2).drew.trans (Turns.of_below B3.out _)
      have R3 := hide (R2.out.quiet T3)
      have TW3 := hide (TW2.out.trans (T3.mono fun _ _ x => x.elim))
      have hsz3 := T3.size
      have HTOLD := hide (show r1.told ls from ⟨HND.out, HTL.out⟩)
      have HFG := hide (HFF.out (by trivial) g x ls w3 HFILE.out HX.out HTOLD.out)
      have HSG := hide (fun w' => HSS.out (by trivial) g x ls w' HFILE.out HX.out HTOLD.out)
      clear HFF HSS HNN HEE T3 R2 TW2 B3 HU HND HTL HTOLD
      generalize total r1.files ls = T at *
      have hwr : IntKind.i64.wrap ((T : Int) + (n : Int)) = (T : Int) + (n : Int) := wrapI _ (by omega) (by omega)
      by_cases hroom : (T : Int) + n ≤ r1.limit
      · have i1 : ¬ r1.limit < (T : Int) + (n : Int) := by omega
        have hF := R3.out.files.each g x HX.out
        have hxb := (HN1.out.bytes g x HX.out).1
        obtain ⟨fa, fc, hfv⟩ := hF.own.slice
        have hc := hF.cell
        rw [hfv] at hc
        have hown := hF.own
        rw [hfv] at hown
        have ta : Turns (fun _ => False) w3 (w3.alloc (.cells #[] 5)) := (Turns.refl _ w3).alloc _
        have ha : (w3.alloc (.cells #[] 5)).heap.size = w3.heap.size + 1 := by simp
        have c0 : (w3.alloc (.cells #[] 5)).cell? ⟨g, 0, none⟩ = some (.slice fa x.bytes.length fc) := cell_of_row _ g 0 _ 95 (0, 0) (ta.heap hc (fun x => x))
        obtain ⟨g4, c4, w4, hr4, hg4, hrow4, b4, hc4, _⟩ := append_bytes2 (w3.alloc (.cells #[] 5)) w3.heap.size (some ⟨w3.heap.size, 0, none⟩) 0 0 [] rfl (.slice fa x.bytes.length fc) x.bytes x.bytes.length rfl ((hown.keep ta (fun _ _ x => x)).bytes) (by simp)
          (.inr ⟨_, rfl, Nat.le_refl _, Nat.le_refl _, #[], heap_alloc_new w3 _, Nat.le_refl _, fun k hk => by simp [cellsOf] at hk⟩) (by omega)
        rw [Nat.zero_add] at hr4 hc4
        rw [List.nil_append] at hrow4
        have hbA : Below w3.heap.size w3 (w3.alloc (.cells #[] 5)) := (Below.refl _ _).alloc (Nat.le_refl _) _
        have b34 := hbA.trans b4
        have t4 : Turns (fun _ => False) w3 w4 := Turns.of_below b34 _
        have hby3 : Bytes w3 (.slice a n c) news := HBY.out.keep0 TW3.out HBF.out
        have hnl := HNL.out
        obtain ⟨g5, c5, w5, hr5, hg5, hrow5, b5, hc5, _⟩ := append_bytes2 w4 w3.heap.size (some ⟨g4, 0, none⟩) x.bytes.length c4 x.bytes rfl (.slice a n c) news n (by omega) (hby3.keep t4 (fun _ _ _ x => x)) b34.size (.inr ⟨g4, rfl, hg4, hc4, hrow4⟩) (by omega)
        have t5 : Turns (fun _ => False) w3 w5 := Turns.of_below (b34.trans b5) _
        have hgw := lt_of_heap hc
        have hc5' := t5.heap hc (fun x => x)
        have z5 : w5.frozen? ⟨g, 0, none⟩ = false := frozen_of_row w5 g 0 _ 95 hc5'
        have d5 : w5.cell? ⟨g, 0, none⟩ = some (.slice fa x.bytes.length fc) := cell_of_row w5 g 0 _ 95 (0, 0) hc5'
        have k6 := (Tick.refl hc5').set 0 (.slice (some ⟨g5, 0, none⟩) (x.bytes.length + n) c5)
        have u6 : Turns (fun k => k = g) w3 (w5.setCell ⟨g, 0, none⟩ (.slice (some ⟨g5, 0, none⟩) (x.bytes.length + n) c5)) := (t5.mono fun _ _ x => x.elim).trans (Turns.of_tick k6)
        have hR := R3.out.filed (x' := ⟨x.bytes ++ news, x.synced⟩) (v' := .slice (some ⟨g5, 0, none⟩) (x.bytes.length + n) c5) HX.out k6.1 (by
          refine .inr ⟨g5, c5, _, rfl, by simp [hnl], hc5, ?_⟩
          obtain ⟨cs, h1, h2, h3⟩ := hrow5
          exact ⟨cs, (k6.2.2.1 g5 (by omega)).trans h1, h2, h3⟩) u6 (fun i hi => by
          obtain ⟨_, _, e⟩ := hi
          cases e
          exact .inr hg5)
        have hag := hF.ag
        have HF := hide (HSG.out _ hroom ⟨bs, ch, _, hR.mono fun i _ => grow_of (by omega) i⟩ ((TW3.out.mono fun i _ e => by rw [e]; exact hqa).trans (u6.mono fun i _ e => by rw [e]; exact hag)))
        have hq4 := hr4 28
        have hq5 := hr5 28
        clear hR u6 k6 hc5' t5 hrow5 b5 hr5 hby3 t4 b34 hbA hr4 hrow4 b4 hown hc hfv hF ta hag hg4 hg5 hc4 hc5 hnl HX
        generalize x.bytes.length = F at *
        go_wp2_with (first
          | (at_builtin; refine wpList_append_run rfl _ _ 28 rfl _ _ rfl rfl _ _ hq4 ?_)
          | (at_builtin; refine wpList_append_run rfl _ _ 28 rfl _ _ rfl rfl _ _ hq5 ?_))
        exact HF.out
      · have i1 : r1.limit < (T : Int) + (n : Int) := by omega
        have HF := hide (HFG.out i1 ⟨bs, ch, fv, R3.out.mono fun k _ hk => .inl hk⟩ (TW3.out.mono fun k _ e => by rw [e]; exact hqa))
        go_wp2_with fail
        exact HF.out
  · have hzz : (z != 0) = true := by rw [bne_iff_ne]; exact hz0
    have HF := hide (HEE.out hz0 w1 ⟨bs, ch, fv, R1.out.mono fun k _ hk => .inl hk⟩ (TW1.out.mono fun k _ e => by rw [e]; exact hqa))
    clear hz0
    go_wp2_with fail
    exact HF.out
end Go.Proofs.Ytefjljdgdoklmaa

/-
  The two file systems side by side: how many bytes are used.
-/
namespace Go.Proofs.Ytefjljdgdoklmaa
open Go.RowKit Go.Maps Go.Sort
/-- What is live is what one of the directories that a crash could leave tells of. -/
theorem live_iff {d : Disk} (hm : IsMap d.synced) (g : Nat) : d.live g ↔ ∃ j, j < d.changes.length + 1 ∧ ∃ s, fileOf (d.dirAt j) s = some g := by
  constructor
  · rintro (⟨s, hs⟩ | ⟨c, hc, hg⟩)
    · exact ⟨0, by omega, s, hs⟩
    · obtain ⟨i, hi⟩ := List.mem_iff_getElem?.1 hc
      have hl := (List.getElem?_eq_some_iff.1 hi).1
      have he := (List.getElem?_eq_some_iff.1 hi).2
      refine ⟨i + 1, by omega, c.became, ?_⟩
      unfold Disk.dirAt
      rw [List.take_succ_eq_append_getElem hl, List.foldl_append, List.foldl_cons, List.foldl_nil, he, fileOf_apply _ (isMap_fold _ hm)]
      obtain ⟨went, became, file⟩ := c
      cases hg
      exact if_pos rfl
  · rintro ⟨j, _, s, hs⟩
    rcases fileOf_folded (d.changes.take j) hm hs with hs | ⟨c, h1, h2⟩
    · exact .inl ⟨s, hs⟩
    · exact .inr ⟨c, List.mem_of_mem_take h1, h2⟩
theorem total_perm (F : Nat → Option Fil) {l l' : List Nat} (h : l.Perm l') : total F l = total F l' := by
  unfold total
  exact (h.map _).sum_nat
theorem total_map {F G : Nat → Option Fil} {rho : Nat → Nat} (L : List Nat) (h : ∀ g, g ∈ L → F (rho g) = G g) : total F (L.map rho) = total G L := by
  unfold total
  rw [List.map_map]
  congr 1
  exact List.map_congr_left fun g hg => by simp only [Function.comp_apply, h g hg]
/-- The document counts what the code counts. -/
theorem Sim.tells {rho : Nat → Nat} {d : Disk} {r : RDisk} (h : Sim rho d r) (k : Nat) : r.tells (r.changes.length + 1) k ↔ ∃ g, d.live g ∧ rho g = k := by
  have hl : r.changes.length = d.changes.length := by rw [h.changes, List.length_map]
  unfold RDisk.tells
  rw [hl]
  constructor
  · rintro ⟨j, hj, s, hs⟩
    rw [h.dir] at hs
    cases e : fileOf (d.dirAt j) s with
    | none => rw [e] at hs; cases hs
    | some g =>
      rw [e] at hs
      exact ⟨g, (live_iff h.dmap g).2 ⟨j, hj, s, e⟩, by simpa using hs⟩
  · rintro ⟨g, hg, rfl⟩
    obtain ⟨j, hj, s, hs⟩ := (live_iff h.dmap g).1 hg
    exact ⟨j, hj, s, by rw [h.dir, hs]; rfl⟩
theorem Sim.total {rho : Nat → Nat} {d : Disk} {r : RDisk} (h : Sim rho d r) {ls L : List Nat} (hr : r.told ls) (hn : L.Nodup) (hL : ∀ g, g ∈ L ↔ d.live g) : Ytefjljdgdoklmaa.total r.files ls = Ytefjljdgdoklmaa.total d.files L := by
  rw [← total_map (F := r.files) (rho := rho) L (fun g hg => h.files g ((hL g).1 hg))]
  refine total_perm _ ((List.perm_ext_iff_of_nodup hr.1 ?_).2 fun k => ?_)
  · exact List.pairwise_map.2 (hn.imp_of_mem fun {a b} ha hb hne e => hne (h.inj a b ((hL a).1 ha) ((hL b).1 hb) e))
  · rw [hr.2 k, h.tells k]
    constructor
    · rintro ⟨g, h1, h2⟩
      exact List.mem_map.2 ⟨g, (hL g).2 h1, h2⟩
    · intro hk
      obtain ⟨g, h1, h2⟩ := List.mem_map.1 hk
      exact ⟨g, (hL g).1 h1, h2⟩
/-- The code's accounts: 'used' is what the live files hold, 'lost' what those of them hold that have no name now. -/
def named (D : DataW Unit) (g : Nat) : Prop := ∃ s, fileOf D s = some g
def Acc (d : Disk) : Prop := ∃ L M : List Nat, L.Nodup ∧ (∀ g, g ∈ L ↔ d.live g) ∧ d.used = (total d.files L : Nat) ∧ M.Nodup ∧ (∀ g, g ∈ M ↔ d.live g ∧ ¬ named d.names g) ∧ d.lost = (total d.files M : Nat)
theorem Acc.used {rho : Nat → Nat} {d : Disk} {r : RDisk} (ha : Acc d) (h : Sim rho d r) {ls : List Nat} (hr : r.told ls) : ((total r.files ls : Nat) : Int) = d.used := by
  obtain ⟨L, M, h1, h2, h3, _⟩ := ha
  rw [h.total hr h1 h2, h3]
end Go.Proofs.Ytefjljdgdoklmaa

/-
  The code's accounts, kept by each operation.
-/
namespace Go.Proofs.Ytefjljdgdoklmaa
open Go.RowKit Go.Maps Go.Sort
theorem Acc.same {d d' : Disk} (h : Acc d) (h1 : d'.used = d.used) (h2 : d'.lost = d.lost) (h3 : d'.synced = d.synced) (h4 : d'.changes = d.changes) (h5 : d'.names = d.names) (h6 : ∀ L, total d'.files L = total d.files L) : Acc d' := by
  obtain ⟨L, M, a1, a2, a3, a4, a5, a6⟩ := h
  have hl : ∀ g, d'.live g ↔ d.live g := fun g => by unfold Disk.live; rw [h3, h4]
  exact ⟨L, M, a1, fun g => (a2 g).trans (hl g).symm, by rw [h1, h6]; exact a3, a4, fun g => by rw [a5 g, hl g, h5], by rw [h2, h6]; exact a6⟩
def lenF : Option Fil → Nat
  | some x => x.bytes.length
  | none => 0
theorem total_cons (F : Nat → Option Fil) (a : Nat) (r : List Nat) : total F (a :: r) = lenF (F a) + total F r := by
  unfold total
  rw [List.map_cons, List.sum_cons]
  cases F a <;> rfl
theorem total_set_not {F : Nat → Option Fil} {L : List Nat} {g : Nat} (y : Fil) (h : g ∉ L) : total (fun k => if k = g then some y else F k) L = total F L := by
  unfold total
  congr 1
  refine List.map_congr_left fun k hk => ?_
  have : k ≠ g := fun e => h (e ▸ hk)
  simp only [if_neg this]
theorem total_set {F : Nat → Option Fil} {g : Nat} {x : Fil} (y : Fil) (hx : F g = some x) : ∀ {L : List Nat}, L.Nodup → g ∈ L → total (fun k => if k = g then some y else F k) L + x.bytes.length = total F L + y.bytes.length
  | [], _, h => by cases h
  | a :: r, hn, h => by
    rw [List.nodup_cons] at hn
    rw [total_cons, total_cons]
    by_cases e : a = g
    · subst e
      rw [total_set_not y hn.1, hx, if_pos rfl]
      show y.bytes.length + _ + _ = x.bytes.length + _ + _
      omega
    · have hr : g ∈ r := (List.mem_cons.1 h).resolve_left (fun x => e x.symm)
      have := total_set y hx hn.2 hr
      rw [if_neg e]
      omega
theorem Acc.setF {d : Disk} (h : Acc d) {g : Nat} {x y : Fil} (hx : d.files g = some x) (hl : y.bytes.length = x.bytes.length) : Acc (d.setF g y) := by
  refine h.same rfl rfl rfl rfl rfl fun L => ?_
  show total (fun k => if k = g then some y else d.files k) L = total d.files L
  unfold total
  congr 1
  refine List.map_congr_left fun k _ => ?_
  by_cases e : k = g
  · subst e
    simp only [hx, if_true, hl]
  · simp only [if_neg e]
theorem Acc.put {d : Disk} (h : Acc d) {g : Nat} {x : Fil} (hx : d.files g = some x) (hg : d.live g) (hn : named d.names g) (news : List (BitVec 8)) : Acc (d.put g x news) := by
  obtain ⟨L, M, a1, a2, a3, a4, a5, a6⟩ := h
  refine ⟨L, M, a1, a2, ?_, a4, a5, ?_⟩
  · show d.used + news.length = ((total (fun k => if k = g then some ⟨x.bytes ++ news, x.synced⟩ else d.files k) L : Nat) : Int)
    have := total_set ⟨x.bytes ++ news, x.synced⟩ hx a1 ((a2 g).2 hg)
    rw [List.length_append] at this
    rw [a3]
    omega
  · show d.lost = ((total (fun k => if k = g then some ⟨x.bytes ++ news, x.synced⟩ else d.files k) M : Nat) : Int)
    rw [total_set_not _ (fun hm => ((a5 g).1 hm).2 hn)]
    exact a6
theorem Acc.add {d : Disk} (h : Acc d) (hm : IsMap d.names) (h0 : fileOf d.names noName = none) {name : ByteArray} (hf : fileOf d.names name = none) {g : Nat} (hg : ¬ d.live g) : Acc (d.add name g) := by
  obtain ⟨L, M, a1, a2, a3, a4, a5, a6⟩ := h
  have hgL : g ∉ L := fun x => hg ((a2 g).1 x)
  have hgM : g ∉ M := fun x => hg ((a5 g).1 x).1
  have hlive : ∀ k, (d.add name g).live k ↔ k = g ∨ d.live k := fun k => by
    show ((∃ s, fileOf d.synced s = some k) ∨ ∃ c, c ∈ d.changes ++ [(⟨⟨#[]⟩, name, some g⟩ : Chg)] ∧ c.file = some k) ↔ _
    constructor
    · rintro (h | ⟨c, h1, h2⟩)
      · exact .inr (.inl h)
      · rcases List.mem_append.1 h1 with h1 | h1
        · exact .inr (.inr ⟨c, h1, h2⟩)
        · obtain rfl : c = ⟨⟨#[]⟩, name, some g⟩ := by simpa using h1
          exact .inl (by simpa using h2.symm)
    · rintro (rfl | h | ⟨c, h1, h2⟩)
      · exact .inr ⟨⟨⟨#[]⟩, name, some k⟩, List.mem_append_right _ (List.mem_singleton.2 rfl), rfl⟩
      · exact .inl h
      · exact .inr ⟨c, List.mem_append_left _ h1, h2⟩
  have hnm : ∀ k, named (d.add name g).names k ↔ k = g ∨ named d.names k := fun k => by
    have e : ∀ s, fileOf (d.add name g).names s = if s = name then some g else if s = noName then none else fileOf d.names s := fun s => fileOf_apply d.names hm ⟨⟨#[]⟩, name, some g⟩ s
    unfold named
    constructor
    · rintro ⟨s, hs⟩
      rw [e] at hs
      split at hs
      · cases hs; exact .inl rfl
      · split at hs
        · cases hs
        · exact .inr ⟨s, hs⟩
    · rintro (rfl | ⟨s, hs⟩)
      · exact ⟨name, by rw [e, if_pos rfl]⟩
      · refine ⟨s, ?_⟩
        rw [e, if_neg (fun x => ?_), if_neg (fun x => ?_)]
        · exact hs
        · rw [x, h0] at hs; cases hs
        · rw [x, hf] at hs; cases hs
  refine ⟨g :: L, M, List.nodup_cons.2 ⟨hgL, a1⟩, fun k => ?_, ?_, a4, fun k => ?_, ?_⟩
  · rw [hlive, List.mem_cons, a2]
  · show d.used = ((total (fun k => if k = g then some ⟨[], 0⟩ else d.files k) (g :: L) : Nat) : Int)
    have e1 : total (fun k => if k = g then some ⟨[], 0⟩ else d.files k) (g :: L) = total (fun k => if k = g then some ⟨[], 0⟩ else d.files k) L := by simp [total]
    rw [e1, total_set_not _ hgL]
    exact a3
  · rw [a5, hlive, hnm]
    constructor
    · rintro ⟨h1, h2⟩
      exact ⟨.inr h1, fun x => x.elim (fun e => hg (e ▸ h1)) h2⟩
    · rintro ⟨h1, h2⟩
      exact ⟨h1.resolve_left (fun e => h2 (.inl e)), fun x => h2 (.inr x)⟩
  · show d.lost = ((total (fun k => if k = g then some ⟨[], 0⟩ else d.files k) M : Nat) : Int)
    rw [total_set_not _ hgM]
    exact a6
/-- A file loses its name: Remove, and Rename onto a file. -/
theorem Acc.unname {d d' : Disk} (h : Acc d) {g : Nat} {x : Fil} (hx : d.files g = some x) (hg : d.live g) (hn : named d.names g) (hl : ∀ k, d'.live k ↔ d.live k) (hnm : ∀ k, named d'.names k ↔ named d.names k ∧ k ≠ g) (hf : d'.files = d.files) (hu : d'.used = d.used) (hlo : d'.lost = d.lost + x.bytes.length) : Acc d' := by
  obtain ⟨L, M, a1, a2, a3, a4, a5, a6⟩ := h
  refine ⟨L, g :: M, a1, fun k => (a2 k).trans (hl k).symm, by rw [hu, hf]; exact a3, List.nodup_cons.2 ⟨fun hm => ((a5 g).1 hm).2 hn, a4⟩, fun k => ?_, ?_⟩
  · rw [List.mem_cons, a5, hl, hnm]
    constructor
    · rintro (rfl | ⟨h1, h2⟩)
      · exact ⟨hg, fun x => x.2 rfl⟩
      · exact ⟨h1, fun x => h2 x.1⟩
    · rintro ⟨h1, h2⟩
      by_cases e : k = g
      · exact .inl e
      · exact .inr ⟨h1, fun x => h2 ⟨x, e⟩⟩
  · rw [hlo, hf, a6]
    have : total d.files (g :: M) = x.bytes.length + total d.files M := by simp [total, hx]
    rw [this]
    omega
end Go.Proofs.Ytefjljdgdoklmaa
