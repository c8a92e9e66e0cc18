/-
  Between and Seen.
-/
import Derived.Test.YtjnpendihdlgnaaBw
namespace Go.Proofs.Ytjnpendihdlgnaa
open Go.RowKit Go.Shelf
set_option maxRecDepth 100000
set_option maxHeartbeats 4000000
def sumR (rs : List Rw) : Nat := (rs.map fun x => x.R.length).sum
theorem tot_hds_from : ∀ (rs : List Rw) (k : Nat), tot ((rs.zipIdx k).filterMap fun p => hdOf p.1 p.2) ≤ sumR rs
  | [], k => by simp [tot]
  | x :: r, k => by
    have ih := tot_hds_from r (k + 1)
    have hx : ∀ h, hdOf x k = some h → h.R = x.R := fun h e => by
      unfold hdOf at e
      split at e
      · next e1 e2 => cases e; exact e2.symm
      · cases e
    simp only [List.zipIdx_cons, sumR, List.map_cons, List.sum_cons] at ih ⊢
    cases e : hdOf x k with
    | none => rw [List.filterMap_cons_none (by exact e)]; omega
    | some h =>
      rw [List.filterMap_cons_some (by exact e)]
      have h1 := hx h e
      simp only [tot, List.map_cons, List.sum_cons, h1] at ih ⊢
      omega
theorem tot_hds (rs : List Rw) : tot (hds rs) ≤ sumR rs := tot_hds_from rs 0
/-- Each row's part. -/
structure Parts (w : World) (f : Tow → Bool) (rs ps : List Rw) : Prop where
  len : ps.length ≤ rs.length
  part : ∀ (i : Nat) (x y : Rw), rs[i]? = some x → ps[i]? = some y → y.R = x.R.filter f ∧ RwOk w y
theorem Parts.sum {w : World} {f : Tow → Bool} : ∀ {rs ps : List Rw}, Parts w f rs ps → sumR ps ≤ sumR rs
  | _, [], _ => Nat.zero_le _
  | [], _ :: _, h => by have := h.len; simp at this
  | x :: rs, y :: ps, h => by
    have ih := Parts.sum (rs := rs) (ps := ps) ⟨by have := h.len; simpa using this, fun i a b h1 h2 => h.part (i + 1) a b (by simpa using h1) (by simpa using h2)⟩
    have := (h.part 0 x y rfl rfl).1
    have hl := List.length_filter_le f x.R
    simp only [sumR, List.map_cons, List.sum_cons, this] at ih ⊢
    omega
theorem hds_of {w : World} {rs : List Rw} {i : Nat} {x : Rw} (h : RwOk w x) (hi : rs[i]? = some x) (hne : x.R ≠ []) : ∃ h, h ∈ hds rs ∧ h.R = x.R ∧ h.no = i := by
  obtain ⟨b, off, _, e⟩ := hdOf_some (i := i) h hne
  exact ⟨_, mem_hds.2 ⟨i, x, hi, e⟩, rfl, rfl⟩
theorem hds_is {rs : List Rw} {h : Hd} (hh : h ∈ hds rs) : ∃ (i : Nat) (x : Rw), rs[i]? = some x ∧ h.R = x.R ∧ h.no = i := by
  obtain ⟨i, x, h1, h2⟩ := mem_hds.1 hh
  refine ⟨i, x, h1, ?_⟩
  unfold hdOf at h2
  split at h2
  · next e1 e2 => cases h2; exact ⟨e2.symm, rfl⟩
  · cases h2
theorem Mg.filter {w : World} {a : Option Addr} {rs ps : List Rw} (hr : RowsIn w a rs) (f : Tow → Bool) (hf : ∀ x y : Tow, x.e.key = y.e.key → f x = f y) (hl : ps.length = rs.length) (hp : Parts w f rs ps) {xs : List Tow} (hx : Mg (hds rs) xs) : Mg (hds ps) (xs.filter f) := by
  have same : ∀ x y : Tow, cmpE x.e.en y.e.en = 0 → f x = f y := fun x y e => hf x y ((cmpE_zero _ _).1 e).1
  have get : ∀ (i : Nat) (x : Rw), rs[i]? = some x → ∃ y, ps[i]? = some y := fun i x hi => ⟨_, List.getElem?_eq_getElem (by have := (List.getElem?_eq_some_iff.1 hi).1; omega)⟩
  have get' : ∀ (i : Nat) (y : Rw), ps[i]? = some y → ∃ x, rs[i]? = some x := fun i y hi => ⟨_, List.getElem?_eq_getElem (by have := (List.getElem?_eq_some_iff.1 hi).1; omega)⟩
  refine ⟨hx.rise.filter _, fun x hm => ?_, fun h hh y hy => ?_⟩
  · obtain ⟨h1, h2⟩ := List.mem_filter.1 hm
    obtain ⟨h, h3, h4, h5⟩ := hx.of x h1
    obtain ⟨i, r, hi, hR, hno⟩ := hds_is h3
    obtain ⟨p, hpi⟩ := get i r hi
    obtain ⟨hpR, hpo⟩ := hp.part i r p hi hpi
    have hxp : x ∈ p.R := by rw [hpR]; exact List.mem_filter.2 ⟨by rw [← hR]; exact h4, h2⟩
    obtain ⟨h', h6, h7, h8⟩ := hds_of hpo hpi (List.ne_nil_of_mem hxp)
    refine ⟨h', h6, by rw [h7]; exact hxp, fun h'' hh'' hn y hy => ?_⟩
    obtain ⟨j, q, hj, hqR, hqn⟩ := hds_is hh''
    obtain ⟨r2, hr2⟩ := get' j q hj
    rw [hqR, (hp.part j r2 q hr2 hj).1] at hy
    have hy2 := (List.mem_filter.1 hy).1
    obtain ⟨g, g1, g2, g3⟩ := hds_of (hr j r2 hr2).2 hr2 (List.ne_nil_of_mem hy2)
    exact h5 g g1 (by omega) y (by rw [g2]; exact hy2)
  · obtain ⟨i, p, hi, hR, hno⟩ := hds_is hh
    obtain ⟨r, hri⟩ := get' i p hi
    rw [hR, (hp.part i r p hri hi).1] at hy
    obtain ⟨hy1, hy2⟩ := List.mem_filter.1 hy
    obtain ⟨g, g1, g2, g3⟩ := hds_of (hr i r hri).2 hri (List.ne_nil_of_mem hy1)
    obtain ⟨x, hx1, hx2⟩ := hx.all g g1 y (by rw [g2]; exact hy1)
    exact ⟨x, List.mem_filter.2 ⟨hx1, by rw [same x y hx2]; exact hy2⟩, hx2⟩
theorem rng_key (fk tk : Ky) (x y : Tow) (h : x.e.key = y.e.key) : rng fk tk x = rng fk tk y := by unfold rng atOr; rw [h]
theorem t27_info : Try.prog.info? 27 = some Try.t27 := by kernel_rfl
theorem t27_zero : Try.t27.zero = some (.slice none 0 0) := by kernel_rfl
theorem t27_size : Try.t27.size = 1 := by kernel_rfl
theorem t27_bytes : Try.t27.bytes = 24 := by kernel_rfl
theorem make28 (n : Nat) (hn : n ≤ 1000000) (w : World) : ∃ cs : Array Value, (Instr.makeSlice 28 (.int .i64 (n : Int)) (.int .i64 (n : Int))).run Try.prog w = .ok (.slice (some ⟨w.heap.size, 0, none⟩) n n) (w.alloc (.cells cs 27)) ∧ cs.size = n := by
  refine ⟨_, run_makeSlice w 28 27 Try.t27 _ Try.underlying28 t27_info t27_zero .i64 .i64 n n (by omega) (by omega) (by rw [t27_size]; omega) (by rw [t27_bytes]; omega) (by omega), ?_⟩
  rw [size_madeCells, t27_size]
  omega
/-- Rows that may be looked at. -/
structure Good (rs : List Rw) : Prop where
  rows : rs.length ≤ 1000000
  all : sumR rs ≤ 1000000
  size : ∀ x, x ∈ allOf rs → x.e.key.length ≤ 1000000 ∧ x.e.val.length ≤ 1000000
  nil : ∀ x, x ∈ rs → x.a = none → x.c = 0
theorem Good.fine {rs : List Rw} (h : Good rs) : Fine rs := ⟨h.rows, Nat.le_trans (tot_hds rs) h.all, h.size⟩
theorem enters55 : ∀ args w, (callFunc 55 args).run Try.prog w = .ok (.enter 55 args) w := enters_of Try.func55 (by kernel_rfl) rfl
/-- What Between answers. -/
def BetweenOk (rs : List Rw) (fk tk : Ky) (seq : Nat) (n : Int) (R : List Tow) : Prop := (eachOrd rs = true ∧ ∃ xs, Mg (hds rs) xs ∧ R.map (·.e) = (seenO seq none ((xs.filter (rng fk tk)).map (·.e))).take n.toNat) ∨ (eachOrd rs = false ∧ R = [])
theorem first_take {rs : List Rw} {seq : Nat} {n : Int} {N : Nat} {R zs : List Tow} (hu : Up (hds rs)) (hz : Mg (hds rs) zs) (h : FirstOk (fun x : El rs => x.val) (fun ys => ∃ xs, Mg (hds rs) xs ∧ entsOf ys = seenO seq none (xs.map (·.e))) (fun pre => ∃ xs, Mg (hds rs) xs ∧ entsOf pre <+: seenO seq none (xs.map (·.e))) N n R) : R.map (·.e) = (seenO seq none (zs.map (·.e))).take n.toNat := by
  rcases h with ⟨hn, rfl⟩ | ⟨hn, ys, ⟨xs, hx, he⟩, hR, hl⟩ | ⟨hn, ys, ⟨xs, hx, he⟩, hR, hl, _⟩
  · rw [show n.toNat = 0 by omega]; rfl
  · have e := Mg.uniq hu hds_no hx hz
    subst e
    rw [hR, ← he, List.take_of_length_le (by simp [entsOf]; omega)]
    rfl
  · have e := Mg.uniq hu hds_no hx hz
    subst e
    obtain ⟨t, ht⟩ := he
    rw [hR, ← ht, List.take_append_of_le_length (by simp [entsOf]; omega), List.take_of_length_le (by simp [entsOf]; omega)]
    rfl
theorem ord_of_pairwise {R : List Tow} (h : R.Pairwise ltT) : inOrd (ents R) = true := (inOrd_iff _).2 fun j x y hx hy => by
  simp only [ents, List.getElem?_map] at hx hy
  obtain ⟨a, ha, rfl⟩ := Option.map_eq_some_iff.1 hx
  obtain ⟨b, hb, rfl⟩ := Option.map_eq_some_iff.1 hy
  obtain ⟨h1, rfl⟩ := List.getElem?_eq_some_iff.1 ha
  obtain ⟨h2, rfl⟩ := List.getElem?_eq_some_iff.1 hb
  exact List.pairwise_iff_getElem.1 h j (j + 1) h1 h2 (by omega)
theorem between17_any (a : Option Addr) (n c : Nat) (rs : List Rw) (fa ta : Option Addr) (fn fc tn tc : Nat) (fk tk' : Ky) (seq : Nat) (m : Int) (w : World) (h : RowsIn w a rs) (hn : n = rs.length) (hg : Good rs) (hf : Bytes w (.slice fa fn fc) fk) (ht : Bytes w (.slice ta tn tc) tk') :
    Calls Try.prog 17 #[.slice a n c, .slice fa fn fc, .slice ta tn tc, .int .u64 (seq : Nat), .int .i64 m] w fun e w' => ∃ v R, e = .returned (.tuple #[v, .int .i64 (ordE (eachOrd rs))]) ∧ ERow w' w.heap.size v R ∧ Shown w' w.heap.size R ∧ Below w.heap.size w w' ∧ BetweenOk rs fk tk' seq m R := by
  have hmx : n ≤ 1000000 := by have := hg.rows; omega
  have HC := hide (checkEach_any a n c rs w h hn hmx)
  have H0 := hide h
  have HN := hide hn
  have HG := hide hg
  have HF := hide hf
  have HT := hide ht
  clear h hn hg hf ht
  cases ho : eachOrd rs with
  | false =>
    rw [ho] at HC
    have HO := hide ho
    clear ho
    go_enter Try.func17, Try.ntmps17
    go_wp2_with fail
    refine HC.out.mono ?_
    rintro e w1 ⟨rfl, hb⟩
    rw [show ordE false = 2 from rfl]
    go_wp2_with fail
    go_ret2
    exact ⟨_, [], rfl, .inl ⟨rfl, rfl⟩, fun x hx => (by cases hx), hb, .inr ⟨HO.out, rfl⟩⟩
  | true =>
    rw [ho] at HC
    have HO := hide ho
    clear ho
    go_enter Try.func17, Try.ntmps17
    go_wp2_with fail
    refine HC.out.mono ?_
    rintro e w1 ⟨rfl, hb⟩
    rw [show ordE true = 0 from rfl]
    obtain ⟨cs, hmk, hcs⟩ := make28 n hmx w1
    have T1 := hide (Turns.of_below hb (fun _ => False))
    have T2 := hide ((Turns.of_below hb (fun _ => False)).alloc (.cells cs 27))
    have N2 := hide (heap_alloc_new w1 (.cells cs 27))
    have HS1 := hide hb.size
    have HCS := hide hcs
    clear hb hcs
    go_upto_region 5 with (fail)
    generalize hw2 : w1.alloc (.cells cs 27) = w2 at *
    generalize hgp : w1.heap.size = gp at *
    have HGP := hide hgp
    clear hgp hw2 hmk
    go_wp2_with fail
    go_loopw [26] (fun v26 wr => ∃ (i : Nat) (ps : List Rw) (cs : Array Value), v26 = .int .i64 (i : Nat) ∧ i ≤ n ∧ ps.length = i ∧ Parts w (rng fk tk') rs ps ∧ (∀ y, y ∈ ps → y.a = none → y.c = 0) ∧ wr.heap[gp]? = some (.cells cs 27 (0, 0)) ∧ cs.size = n ∧ (∀ (j : Nat) (y : Rw), ps[j]? = some y → cs[j]? = some (Value.slice y.a y.R.length y.c)) ∧ Turns (fun k => k = gp) w2 wr) (fun v26 _ => n - (intOf v26).toNat)
    case atStart => exact ⟨0, [], cs, rfl, Nat.zero_le _, rfl, ⟨Nat.zero_le _, fun i x y _ hy => (by simp at hy)⟩, fun y hy => (by cases hy), N2.out, HCS.out, fun j y hy => (by simp at hy), Turns.refl _ _⟩
    case round =>
      obtain ⟨i, ps, cs1, rfl, hi, hpl, hP, hnil, hgc, hcs1, hcell, hT⟩ := hrel
      have TW := hide (show Turns (fun _ => False) w wr from T2.out.andThen hT fun k hk e => by have := HS1.out; omega)
      have PP := hide hP
      have NI := hide hnil
      have GC := hide hgc
      have CS := hide hcs1
      have CE := hide hcell
      have TR := hide hT
      have PL := hide hpl
      clear hP hnil hgc hcs1 hcell hT hpl
      by_cases hin : i < n
      · obtain ⟨x, hx⟩ : ∃ x, rs[i]? = some x := ⟨_, List.getElem?_eq_getElem (by have := HN.out; omega)⟩
        obtain ⟨⟨b, off, rfl, hc⟩, hok⟩ := H0.out i x hx
        have hc1 := TW.out.cell hc (fun x => x)
        have i1 : (i : Int) < n := by omega
        have i0 : (0 : Int) ≤ i := by omega
        have HX := hide hx
        have BT := hide (between_any x fa ta fn fc tn tc fk tk' wr (hok.quiet TW.out) (HG.out.nil x (List.mem_of_getElem? hx)) (HF.out.quiet TW.out) (HT.out.quiet TW.out) (ord_up HO.out i x hx))
        have HOKX := hide hok
        clear hx hok hc
        obtain ⟨xa, xc, xR⟩ := x
        simp only at *
        generalize hxl : xR.length = xl at hc1 BT
        clear hxl
        go_wp2_with fail
        refine BT.out.mono ?_
        rintro e w3 ⟨x', rfl, hok', hR', hnil', hb3⟩
        have t3 := Turns.of_below hb3 (fun _ => False)
        have hg3 := t3.heap GC.out (fun x => x)
        have hcz := CS.out
        obtain ⟨dv, d0⟩ : ∃ dv, w3.cell? ⟨gp, i, none⟩ = some dv := ⟨_, by rw [cell_of_row w3 gp i _ 27 (0, 0) hg3]; exact Array.getElem?_eq_getElem (by omega)⟩
        have z0 := frozen_of_row w3 gp i _ 27 hg3
        have tk := (Tick.refl hg3).set i (.slice x'.a x'.R.length x'.c)
        have REL := hide (show ∃ (i2 : Nat) (ps : List Rw) (cs : Array Value), i2 = i + 1 ∧ i2 ≤ n ∧ ps.length = i2 ∧ Parts w (rng fk tk') rs ps ∧ (∀ y, y ∈ ps → y.a = none → y.c = 0) ∧ (w3.setCell ⟨gp, i, none⟩ (.slice x'.a x'.R.length x'.c)).heap[gp]? = some (.cells cs 27 (0, 0)) ∧ cs.size = n ∧ (∀ (j : Nat) (y : Rw), ps[j]? = some y → cs[j]? = some (Value.slice y.a y.R.length y.c)) ∧ Turns (fun k => k = gp) w2 (w3.setCell ⟨gp, i, none⟩ (.slice x'.a x'.R.length x'.c)) by
          refine ⟨i + 1, ps ++ [x'], _, rfl, by omega, by rw [List.length_append, PL.out]; rfl, ⟨by rw [List.length_append, PL.out]; have := HN.out; simp; omega, fun j y z hy hz => ?_⟩, fun y hy => ?_, tk.1, by simpa using CS.out, fun j y hy => ?_, (TR.out.trans (t3.mono fun _ _ x => x.elim)).trans (Turns.of_tick tk)⟩
          · rcases Nat.lt_or_ge j ps.length with hj | hj
            · rw [List.getElem?_append_left hj] at hz
              exact PP.out.part j y z hy hz
            · rw [List.getElem?_append_right hj] at hz
              have hj2 : j = i := by
                have := (List.getElem?_eq_some_iff.1 hz).1
                simp at this
                have := PL.out
                omega
              subst hj2
              rw [HX.out] at hy
              cases hy
              rw [PL.out, Nat.sub_self] at hz
              cases hz
              exact ⟨hR', hok' w HOKX.out⟩
          · rcases List.mem_append.1 hy with hy | hy
            · exact NI.out y hy
            · obtain rfl := List.mem_singleton.1 hy
              exact hnil'
          · rw [Array.getElem?_setIfInBounds]
            rcases Nat.lt_or_ge j ps.length with hj | hj
            · rw [List.getElem?_append_left hj] at hy
              rw [if_neg (by have := PL.out; omega)]
              exact CE.out j y hy
            · rw [List.getElem?_append_right hj] at hy
              have hj2 : j = i := by
                have := (List.getElem?_eq_some_iff.1 hy).1
                simp at this
                have := PL.out
                omega
              subst hj2
              rw [PL.out, Nat.sub_self] at hy
              cases hy
              rw [if_pos rfl, if_pos (by omega)])
        clear hok' hR' hnil' hb3 t3 hg3 hcz tk BT
        obtain ⟨xa', xc', xR'⟩ := x'
        simp only at *
        generalize xR'.length = xl' at *
        go_wp2_with fail
        go_roundw
        case rel =>
          obtain ⟨i2, ps, cs, rfl, h1⟩ := REL.out
          exact ⟨i + 1, ps, cs, by go_num, h1⟩
        case measure => simp [intOf]; omega
      · obtain rfl : i = n := by omega
        have hprt : ps.length = rs.length := by rw [PL.out]; exact HN.out
        obtain ⟨xs, hxs⟩ := Mg.exist _ (hds rs) (Nat.le_refl _) (hds_up H0.out (by have := HN.out; omega) HO.out) (fun h hh => (hds_mem H0.out (by have := HN.out; omega) hh).1.ne)
        have hmg := hxs.filter H0.out (rng fk tk') (rng_key fk tk') hprt PP.out
        have hpo : ∀ (j : Nat) (y : Rw), ps[j]? = some y → RwOk w y := fun j y hy => by
          obtain ⟨x, hx⟩ : ∃ x, rs[j]? = some x := ⟨_, List.getElem?_eq_getElem (by have := (List.getElem?_eq_some_iff.1 hy).1; omega)⟩
          exact (PP.out.part j x y hx hy).2
        have hri : RowsIn wr (some ⟨gp, 0, none⟩) ps := fun j y hy => ⟨⟨gp, 0, rfl, by rw [Nat.zero_add, cell_of_row wr gp j _ 27 (0, 0) GC.out]; exact CE.out j y hy⟩, (hpo j y hy).quiet TW.out⟩
        have hps : ∀ y, y ∈ allOf ps → y ∈ allOf rs := fun y hy => by
          obtain ⟨p, hp, hyp⟩ := List.mem_flatMap.1 hy
          obtain ⟨j, hj⟩ := List.getElem?_of_mem hp
          obtain ⟨x, hx⟩ : ∃ x, rs[j]? = some x := ⟨_, List.getElem?_eq_getElem (by have := (List.getElem?_eq_some_iff.1 hj).1; omega)⟩
          rw [(PP.out.part j x p hx hj).1] at hyp
          exact List.mem_flatMap.2 ⟨x, List.mem_of_getElem? hx, (List.mem_filter.1 hyp).1⟩
        have hupp : ∀ (j : Nat) (y : Rw), ps[j]? = some y → y.R.Pairwise ltT := fun j y hy => by
          obtain ⟨x, hx⟩ : ∃ x, rs[j]? = some x := ⟨_, List.getElem?_eq_getElem (by have := (List.getElem?_eq_some_iff.1 hy).1; omega)⟩
          rw [(PP.out.part j x y hx hy).1]
          exact (ord_up HO.out j x hx).filter _
        have HMG := hide hmg
        have HXS := hide hxs
        have HRI := hide hri
        have HPS := hide hps
        have HUPP := hide hupp
        have HPRT := hide hprt
        have HTOT := hide (show tot (hds ps) ≤ 1000000 from Nat.le_trans (tot_hds ps) (Nat.le_trans PP.out.sum HG.out.all))
        clear hmg hxs hpo hri hps hupp hprt
        go_wp2_with fail
        refine (seen_any seq (some ⟨gp, 0, none⟩) i i wr).mono ?_
        rintro e w4 ⟨rfl, hw4⟩
        have t4 : Turns (fun _ => False) wr w4 := by rw [hw4]; exact ((Turns.refl _ wr).alloc _).alloc _
        have nq : w4.heap[wr.heap.size]? = some (.cells #[.int .u64 (seq : Nat)] 23 (0, 0)) := by rw [hw4]; exact (heap_alloc_old _ _ (by simp)).trans (heap_alloc_new wr _)
        have nr : w4.cell? ⟨wr.heap.size + 1, 0, none⟩ = some (.slice (some ⟨gp, 0, none⟩) i i) := by
          rw [hw4]
          have := heap_alloc_new (wr.alloc (.cells #[.int .u64 (seq : Nat)] 23)) (.cells #[.slice (some ⟨gp, 0, none⟩) i i] 28)
          rw [World.size_alloc] at this
          exact cell_of_row _ _ 0 _ 28 (0, 0) this
        have hr4 := HRI.out.quiet t4
        have hFO := firstOf_any TS far_TS (fun x : El ps => x.val) 55 #[.pointer (some ⟨wr.heap.size + 1, 0, none⟩), .pointer (some ⟨wr.heap.size, 0, none⟩)] _ _ (tot (hds ps)) w4 m enters55 (seen_seq 4 (wr.heap.size + 1) wr.heap.size (by decide) seq (some ⟨gp, 0, none⟩) i i ps PL.out.symm hmx HUPP.out w4 hr4 nr nq) (fun x => ⟨(all_bytes hr4 x.2).1, (all_bytes hr4 x.2).2, (HG.out.size x.val (HPS.out _ x.2)).1, (HG.out.size x.val (HPS.out _ x.2)).2⟩) HTOT.out
        have FO := hide hFO
        have BA := hide ((TW.out.trans t4).below (B := w.heap.size) (Nat.le_refl _) (fun _ x => x.elim))
        have hs4 := BA.out.size
        have HUQ := hide (hds_up hr4 (by have := HPRT.out; have := HN.out; omega) (show eachOrd ps = true from List.all_eq_true.2 fun y hy => by
          obtain ⟨j, hj⟩ := List.getElem?_of_mem hy
          exact ord_of_pairwise (HUPP.out j y hj)))
        clear nq nr hr4 t4 hw4 hFO
        go_wp2_with fail
        refine FO.out.mono ?_
        rintro e w5 ⟨v, R, rfl, hE, hS, hb5, hFi⟩
        have FIN := hide (show ERow w5 w.heap.size v R ∧ Shown w5 w.heap.size R ∧ Below w.heap.size w w5 ∧ BetweenOk rs fk tk' seq m R from
          ⟨hE.le hs4, hS.le hs4, then_below BA.out hb5 (Nat.le_refl _), .inl ⟨HO.out, xs, HXS.out, first_take HUQ.out HMG.out hFi⟩⟩)
        clear hE hS hb5 hFi
        go_wp2_with fail
        go_ret2
        exact ⟨v, R, rfl, FIN.out⟩
theorem seen9_any (a : Option Addr) (n c : Nat) (rs : List Rw) (seq : Nat) (w : World) (h : RowsIn w a rs) (hn : n = rs.length) (hg : Good rs) :
    Calls Try.prog 9 #[.slice a n c, .int .u64 (seq : Nat)] w fun e w' => ∃ v R, e = .returned (.tuple #[v, .int .i64 (ordE (eachOrd rs))]) ∧ ERow w' w.heap.size v R ∧ Shown w' w.heap.size R ∧ Below w.heap.size w w' ∧ BetweenOk rs [] [] seq 9223372036854775807 R := by
  have BW := hide (between17_any a n c rs none none 0 0 0 0 [] [] seq 9223372036854775807 w h hn hg (Bytes.empty _) (Bytes.empty _))
  clear h hn hg
  generalize ordE (eachOrd rs) = q at *
  go_enter Try.func9, Try.ntmps9
  go_wp2_with fail
  refine BW.out.mono ?_
  rintro e w1 ⟨v, R, rfl, h1, h2, h3, h4⟩
  have X := hide (show ERow w1 w.heap.size v R ∧ Shown w1 w.heap.size R ∧ Below w.heap.size w w1 ∧ BetweenOk rs [] [] seq 9223372036854775807 R from ⟨h1, h2, h3, h4⟩)
  clear h1 h2 h3 h4
  go_wp2_with fail
  go_ret2
  exact ⟨v, R, rfl, X.out⟩
end Go.Proofs.Ytjnpendihdlgnaa
