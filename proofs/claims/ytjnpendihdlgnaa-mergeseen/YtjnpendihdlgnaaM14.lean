import Derived.Test.YtjnpendihdlgnaaM13
/-
  Between and Seen.
-/
namespace Go.Proofs.Ytjnpendihdlgnaa
open Go.RowKit Go.Shelf
set_option maxRecDepth 100000
set_option maxHeartbeats 4000000
def sumR (rs : List Rw) : Nat := (rs.map fun x => x.R.length).sum
theorem tot_hds_from : ∀ (rs : List Rw) (k : Nat), tot ((rs.zipIdx k).filterMap fun p => hdOf p.1 p.2) ≤ sumR rs
  | [], k => by simp [tot]
  | x :: r, k => by
    have ih := tot_hds_from r (k + 1)
    have hx : ∀ h, hdOf x k = some h → h.R = x.R := fun h e => by
      unfold hdOf at e
      split at e
      · next e1 e2 => cases e; exact e2.symm
      · cases e
    simp only [List.zipIdx_cons, sumR, List.map_cons, List.sum_cons] at ih ⊢
    cases e : hdOf x k with
    | none => rw [List.filterMap_cons_none (by exact e)]; omega
    | some h =>
      rw [List.filterMap_cons_some (by exact e)]
      have h1 := hx h e
      simp only [tot, List.map_cons, List.sum_cons, h1] at ih ⊢
      omega
theorem tot_hds (rs : List Rw) : tot (hds rs) ≤ sumR rs := tot_hds_from rs 0
/-- Each row's part. -/
structure Parts (w : World) (f : Tow → Bool) (rs ps : List Rw) : Prop where
  len : ps.length ≤ rs.length
  part : ∀ (i : Nat) (x y : Rw), rs[i]? = some x → ps[i]? = some y → y.R = x.R.filter f ∧ RwOk w y
theorem Parts.sum {w : World} {f : Tow → Bool} : ∀ {rs ps : List Rw}, Parts w f rs ps → sumR ps ≤ sumR rs
  | _, [], _ => Nat.zero_le _
  | [], _ :: _, h => by have := h.len; simp at this
  | x :: rs, y :: ps, h => by
    have ih := Parts.sum (rs := rs) (ps := ps) ⟨by have := h.len; simpa using this, fun i a b h1 h2 => h.part (i + 1) a b (by simpa using h1) (by simpa using h2)⟩
    have := (h.part 0 x y rfl rfl).1
    have hl := List.length_filter_le f x.R
    simp only [sumR, List.map_cons, List.sum_cons, this] at ih ⊢
    omega
theorem hds_of {w : World} {rs : List Rw} {i : Nat} {x : Rw} (h : RwOk w x) (hi : rs[i]? = some x) (hne : x.R ≠ []) : ∃ h, h ∈ hds rs ∧ h.R = x.R ∧ h.no = i := by
  obtain ⟨b, off, _, e⟩ := hdOf_some (i := i) h hne
  exact ⟨_, mem_hds.2 ⟨i, x, hi, e⟩, rfl, rfl⟩
theorem hds_is {rs : List Rw} {h : Hd} (hh : h ∈ hds rs) : ∃ (i : Nat) (x : Rw), rs[i]? = some x ∧ h.R = x.R ∧ h.no = i := by
  obtain ⟨i, x, h1, h2⟩ := mem_hds.1 hh
  refine ⟨i, x, h1, ?_⟩
  unfold hdOf at h2
  split at h2
  · next e1 e2 => cases h2; exact ⟨e2.symm, rfl⟩
  · cases h2
theorem Mg.filter {w : World} {a : Option Addr} {rs ps : List Rw} (hr : RowsIn w a rs) (f : Tow → Bool) (hf : ∀ x y : Tow, x.e.key = y.e.key → f x = f y) (hl : ps.length = rs.length) (hp : Parts w f rs ps) {xs : List Tow} (hx : Mg (hds rs) xs) : Mg (hds ps) (xs.filter f) := by
  have same : ∀ x y : Tow, cmpE x.e.en y.e.en = 0 → f x = f y := fun x y e => hf x y ((cmpE_zero _ _).1 e).1
  have get : ∀ (i : Nat) (x : Rw), rs[i]? = some x → ∃ y, ps[i]? = some y := fun i x hi => ⟨_, List.getElem?_eq_getElem (by have := (List.getElem?_eq_some_iff.1 hi).1; omega)⟩
  have get' : ∀ (i : Nat) (y : Rw), ps[i]? = some y → ∃ x, rs[i]? = some x := fun i y hi => ⟨_, List.getElem?_eq_getElem (by have := (List.getElem?_eq_some_iff.1 hi).1; omega)⟩
  refine ⟨hx.rise.filter _, fun x hm => ?_, fun h hh y hy => ?_⟩
  · obtain ⟨h1, h2⟩ := List.mem_filter.1 hm
    obtain ⟨h, h3, h4, h5⟩ := hx.of x h1
    obtain ⟨i, r, hi, hR, hno⟩ := hds_is h3
    obtain ⟨p, hpi⟩ := get i r hi
    obtain ⟨hpR, hpo⟩ := hp.part i r p hi hpi
    have hxp : x ∈ p.R := by rw [hpR]; exact List.mem_filter.2 ⟨by rw [← hR]; exact h4, h2⟩
    obtain ⟨h', h6, h7, h8⟩ := hds_of hpo hpi (List.ne_nil_of_mem hxp)
    refine ⟨h', h6, by rw [h7]; exact hxp, fun h'' hh'' hn y hy => ?_⟩
    obtain ⟨j, q, hj, hqR, hqn⟩ := hds_is hh''
    obtain ⟨r2, hr2⟩ := get' j q hj
    rw [hqR, (hp.part j r2 q hr2 hj).1] at hy
    have hy2 := (List.mem_filter.1 hy).1
    obtain ⟨g, g1, g2, g3⟩ := hds_of (hr j r2 hr2).2 hr2 (List.ne_nil_of_mem hy2)
    exact h5 g g1 (by omega) y (by rw [g2]; exact hy2)
  · obtain ⟨i, p, hi, hR, hno⟩ := hds_is hh
    obtain ⟨r, hri⟩ := get' i p hi
    rw [hR, (hp.part i r p hri hi).1] at hy
    obtain ⟨hy1, hy2⟩ := List.mem_filter.1 hy
    obtain ⟨g, g1, g2, g3⟩ := hds_of (hr i r hri).2 hri (List.ne_nil_of_mem hy1)
    obtain ⟨x, hx1, hx2⟩ := hx.all g g1 y (by rw [g2]; exact hy1)
    exact ⟨x, List.mem_filter.2 ⟨hx1, by rw [same x y hx2]; exact hy2⟩, hx2⟩
theorem rng_key (fk tk : Ky) (x y : Tow) (h : x.e.key = y.e.key) : rng fk tk x = rng fk tk y := by unfold rng atOr; rw [h]
theorem t27_info : Try.prog.info? 27 = some Try.t27 := by kernel_rfl
theorem t27_zero : Try.t27.zero = some (.slice none 0 0) := by kernel_rfl
theorem t27_size : Try.t27.size = 1 := by kernel_rfl
theorem t27_bytes : Try.t27.bytes = 24 := by kernel_rfl
theorem make28 (n : Nat) (hn : n ≤ 1000000) (w : World) : ∃ cs : Array Value, (Instr.makeSlice 28 (.int .i64 (n : Int)) (.int .i64 (n : Int))).run Try.prog w = .ok (.slice (some ⟨w.heap.size, 0, none⟩) n n) (w.alloc (.cells cs 27)) ∧ cs.size = n := by
  refine ⟨_, run_makeSlice w 28 27 Try.t27 _ Try.underlying28 t27_info t27_zero .i64 .i64 n n (by omega) (by omega) (by rw [t27_size]; omega) (by rw [t27_bytes]; omega) (by omega), ?_⟩
  rw [size_madeCells, t27_size]
  omega
/-- Rows that may be looked at. -/
structure Good (rs : List Rw) : Prop where
  rows : rs.length ≤ 1000000
  all : sumR rs ≤ 1000000
  size : ∀ x, x ∈ allOf rs → x.e.key.length ≤ 1000000 ∧ x.e.val.length ≤ 1000000
  nil : ∀ x, x ∈ rs → x.a = none → x.c = 0
theorem Good.fine {rs : List Rw} (h : Good rs) : Fine rs := ⟨h.rows, Nat.le_trans (tot_hds rs) h.all, h.size⟩
theorem enters55 : ∀ args w, (callFunc 55 args).run Try.prog w = .ok (.enter 55 args) w := enters_of Try.func55 (by kernel_rfl) rfl
/-- What Between answers. -/
def BetweenOk (rs : List Rw) (fk tk : Ky) (seq : Nat) (n : Int) (R : List Tow) : Prop := (eachOrd rs = true ∧ ∃ xs, Mg (hds rs) xs ∧ R.map (·.e) = (seenO seq none ((xs.filter (rng fk tk)).map (·.e))).take n.toNat) ∨ (eachOrd rs = false ∧ R = [])
theorem first_take {rs : List Rw} {seq : Nat} {n : Int} {N : Nat} {R zs : List Tow} (hu : Up (hds rs)) (hz : Mg (hds rs) zs) (h : FirstOk (fun x : El rs => x.val) (fun ys => ∃ xs, Mg (hds rs) xs ∧ entsOf ys = seenO seq none (xs.map (·.e))) (fun pre => ∃ xs, Mg (hds rs) xs ∧ entsOf pre <+: seenO seq none (xs.map (·.e))) N n R) : R.map (·.e) = (seenO seq none (zs.map (·.e))).take n.toNat := by
  rcases h with ⟨hn, rfl⟩ | ⟨hn, ys, ⟨xs, hx, he⟩, hR, hl⟩ | ⟨hn, ys, ⟨xs, hx, he⟩, hR, hl, _⟩
  · rw [show n.toNat = 0 by omega]; rfl
  · have e := Mg.uniq hu hds_no hx hz
    subst e
    rw [hR, ← he, List.take_of_length_le (by simp [entsOf]; omega)]
    rfl
  · have e := Mg.uniq hu hds_no hx hz
    subst e
    obtain ⟨t, ht⟩ := he
    rw [hR, ← ht, List.take_append_of_le_length (by simp [entsOf]; omega), List.take_of_length_le (by simp [entsOf]; omega)]
    rfl
theorem ord_of_pairwise {R : List Tow} (h : R.Pairwise ltT) : inOrd (ents R) = true := (inOrd_iff _).2 fun j x y hx hy => by
  simp only [ents, List.getElem?_map] at hx hy
  obtain ⟨a, ha, rfl⟩ := Option.map_eq_some_iff.1 hx
  obtain ⟨b, hb, rfl⟩ := Option.map_eq_some_iff.1 hy
  obtain ⟨h1, rfl⟩ := List.getElem?_eq_some_iff.1 ha
  obtain ⟨h2, rfl⟩ := List.getElem?_eq_some_iff.1 hb
  exact List.pairwise_iff_getElem.1 h j (j + 1) h1 h2 (by omega)
theorem between17_any (a : Option Addr) (n c : Nat) (rs : List Rw) (fa ta : Option Addr) (fn fc tn tc : Nat) (fk tk' : Ky) (seq : Nat) (m : Int) (w : World) (h : RowsIn w a rs) (hn : n = rs.length) (hg : Good rs) (hf : Bytes w (.slice fa fn fc) fk) (ht : Bytes w (.slice ta tn tc) tk') :
    Calls Try.prog 17 #[.slice a n c, .slice fa fn fc, .slice ta tn tc, .int .u64 (seq : Nat), .int .i64 m] w fun e w' => ∃ v R, e = .returned (.tuple #[v, .int .i64 (ordE (eachOrd rs))]) ∧ ERow w' w.heap.size v R ∧ Shown w' w.heap.size R ∧ Below w.heap.size w w' ∧ BetweenOk rs fk tk' seq m R := by
  have hmx : n ≤ 1000000 := by have := hg.rows; omega
  have HC := hide (checkEach_any a n c rs w h hn hmx)
  have H0 := hide h
  have HN := hide hn
  have HG := hide hg
  have HF := hide hf
  have HT := hide ht
  clear h hn hg hf ht
  cases ho : eachOrd rs with
  | false =>
    rw [ho] at HC
    have HO := hide ho
    clear ho
    go_enter Try.func17, Try.ntmps17
    go_wp2_with fail
    refine HC.out.mono ?_
    rintro e w1 ⟨rfl, hb⟩
    rw [show ordE false = 2 from rfl]
    go_wp2_with fail
    go_ret2
    exact ⟨_, [], rfl, .inl ⟨rfl, rfl⟩, fun x hx => (by cases hx), hb, .inr ⟨HO.out, rfl⟩⟩
  | true =>
    rw [ho] at HC
    have HO := hide ho
    clear ho
    go_enter Try.func17, Try.ntmps17
    go_wp2_with fail
    refine HC.out.mono ?_
    rintro e w1 ⟨rfl, hb⟩
    rw [show ordE true = 0 from rfl]
    obtain ⟨cs, hmk, hcs⟩ := make28 n hmx w1
    have T1 := hide (Turns.of_below hb (fun _ => False))
    have T2 := hide ((Turns.of_below hb (fun _ => False)).alloc (.cells cs 27))
    have N2 := hide (heap_alloc_new w1 (.cells cs 27))
    have HS1 := hide hb.size
    have HCS := hide hcs
    clear hb hcs
    go_upto_region 5 with (fail)
    generalize hw2 : w1.alloc (.cells cs 27) = w2 at *
    generalize hgp : w1.heap.size = gp at *
    have HGP := hide hgp
    clear hgp hw2 hmk
    go_wp2_with fail
    go_loopw [26] (fun v26 wr => ∃ (i : Nat) (ps : List Rw) (cs : Array Value), v26 = .int .i64 (i : Nat) ∧ i ≤ n ∧ ps.length = i ∧ Parts w (rng fk tk') rs ps ∧ (∀ y, y ∈ ps → y.a = none → y.c = 0) ∧ wr.heap[gp]? = some (.cells cs 27 (0, 0)) ∧ cs.size = n ∧ (∀ (j : Nat) (y : Rw), ps[j]? = some y → cs[j]? = some (Value.slice y.a y.R.length y.c)) ∧ Turns (fun k => k = gp) w2 wr) (fun v26 _ => n - (intOf v26).toNat)
    case atStart => exact ⟨0, [], cs, rfl, Nat.zero_le _, rfl, ⟨Nat.zero_le _, fun i x y _ hy => (by simp at hy)⟩, fun y hy => (by cases hy), N2.out, HCS.out, fun j y hy => (by simp at hy), Turns.refl _ _⟩
    case round =>
      obtain ⟨i, ps, cs1, rfl, hi, hpl, hP, hnil, hgc, hcs1, hcell, hT⟩ := hrel
      have TW := hide (show Turns (fun _ => False) w wr from T2.out.andThen hT fun k hk e => by have := HS1.out; omega)
      have PP := hide hP
      have NI := hide hnil
      have GC := hide hgc
      have CS := hide hcs1
      have CE := hide hcell
      have TR := hide hT
      have PL := hide hpl
      clear hP hnil hgc hcs1 hcell hT hpl
      by_cases hin : i < n
      · obtain ⟨x, hx⟩ : ∃ x, rs[i]? = some x := ⟨_, List.getElem?_eq_getElem (by have := HN.out; omega)⟩
        obtain ⟨⟨b, off, rfl, hc⟩, hok⟩ := H0.out i x hx
        have hc1 := TW.out.cell hc (fun x => x)
        have i1 : (i : Int) < n := by omega
        have i0 : (0 : Int) ≤ i := by omega
        have HX := hide hx
        have BT := hide (between_any x fa ta fn fc tn tc fk tk' wr (hok.quiet TW.out) (HG.out.nil x (List.mem_of_getElem? hx)) (HF.out.quiet TW.out) (HT.out.quiet TW.out) (ord_up HO.out i x hx))
        have HOKX := hide hok
        clear hx hok hc
        obtain ⟨xa, xc, xR⟩ := x
        simp only at *
        generalize hxl : xR.length = xl at hc1 BT
        clear hxl
        go_wp2_with fail
        refine BT.out.mono ?_
        rintro e w3 ⟨x', rfl, hok', hR', hnil', hb3⟩
        have t3 := Turns.of_below hb3 (fun _ => False)
        have hg3 := t3.heap GC.out (fun x => x)
        have hcz := CS.out
        obtain ⟨dv, d0⟩ : ∃ dv, w3.cell? ⟨gp, i, none⟩ = some dv := ⟨_, by rw [cell_of_row w3 gp i _ 27 (0, 0) hg3]; exact Array.getElem?_eq_getElem (by omega)⟩
        have z0 := frozen_of_row w3 gp i _ 27 hg3
        have tk := (Tick.refl hg3).set i (.slice x'.a x'.R.length x'.c)
        have REL := hide (show ∃ (i2 : Nat) (ps : List Rw) (cs : Array Value), i2 = i + 1 ∧ i2 ≤ n ∧ ps.length = i2 ∧ Parts w (rng fk tk') rs ps ∧ (∀ y, y ∈ ps → y.a = none → y.c = 0) ∧ (w3.setCell ⟨gp, i, none⟩ (.slice x'.a x'.R.length x'.c)).heap[gp]? = some (.cells cs 27 (0, 0)) ∧ cs.size = n ∧ (∀ (j : Nat) (y : Rw), ps[j]? = some y → cs[j]? = some (Value.slice y.a y.R.length y.c)) ∧ Turns (fun k => k = gp) w2 (w3.setCell ⟨gp, i, none⟩ (.slice x'.a x'.R.length x'.c)) by
          refine ⟨i + 1, ps ++ [x'], _, rfl, by omega, by rw [List.length_append, PL.out]; rfl, ⟨by rw [List.length_append, PL.out]; have := HN.out; simp; omega, fun j y z hy hz => ?_⟩, fun y hy => ?_, tk.1, by simpa using CS.out, fun j y hy => ?_, (TR.out.trans (t3.mono fun _ _ x => x.elim)).trans (Turns.of_tick tk)⟩
          · rcases Nat.lt_or_ge j ps.length with hj | hj
            · rw [List.getElem?_append_left hj] at hz
              exact PP.out.part j y z hy hz
            · rw [List.getElem?_append_right hj] at hz
              have hj2 : j = i := by
                have := (List.getElem?_eq_some_iff.1 hz).1
                simp at this
                have := PL.out
                omega
              subst hj2
              rw [HX.out] at hy
              cases hy
              rw [PL.out, Nat.sub_self] at hz
              cases hz
              exact ⟨hR', hok' w HOKX.out⟩
          · rcases List.mem_append.1 hy with hy | hy
            · exact NI.out y hy
            · obtain rfl := List.mem_singleton.1 hy
              exact hnil'
          · rw [Array.getElem?_setIfInBounds]
            rcases Nat.lt_or_ge j ps.length with hj | hj
            · rw [List.getElem?_append_left hj] at hy
              rw [if_neg (by have := PL.out; omega)]
              exact CE.out j y hy
            · rw [List.getElem?_append_right hj] at hy
              have hj2 : j = i := by
                have := (List.getElem?_eq_some_iff.1 hy).1
                simp at this
                have := PL.out
                omega
              subst hj2
              rw [PL.out, Nat.sub_self] at hy
              cases hy
              rw [if_pos rfl, if_pos (by omega)])
        clear hok' hR' hnil' hb3 t3 hg3 hcz tk BT
        obtain ⟨xa', xc', xR'⟩ := x'
        simp only at *
        generalize xR'.length = xl' at *
        go_wp2_with fail
        go_roundw
        case rel =>
          obtain ⟨i2, ps, cs, rfl, h1⟩ := REL.out
          exact ⟨i + 1, ps, cs, by go_num, h1⟩
        case measure => simp [intOf]; omega
      · obtain rfl : i = n := by omega
        have hprt : ps.length = rs.length := by rw [PL.out]; exact HN.out
        obtain ⟨xs, hxs⟩ := Mg.exist _ (hds rs) (Nat.le_refl _) (hds_up H0.out (by have := HN.out; omega) HO.out) (fun h hh => (hds_mem H0.out (by have := HN.out; omega) hh).1.ne)
        have hmg := hxs.filter H0.out (rng fk tk') (rng_key fk tk') hprt PP.out
        have hpo : ∀ (j : Nat) (y : Rw), ps[j]? = some y → RwOk w y := fun j y hy => by
          obtain ⟨x, hx⟩ : ∃ x, rs[j]? = some x := ⟨_, List.getElem?_eq_getElem (by have := (List.getElem?_eq_some_iff.1 hy).1; omega)⟩
          exact (PP.out.part j x y hx hy).2
        have hri : RowsIn wr (some ⟨gp, 0, none⟩) ps := fun j y hy => ⟨⟨gp, 0, rfl, by rw [Nat.zero_add, cell_of_row wr gp j _ 27 (0, 0) GC.out]; exact CE.out j y hy⟩, (hpo j y hy).quiet TW.out⟩
        have hps : ∀ y, y ∈ allOf ps → y ∈ allOf rs := fun y hy => by
          obtain ⟨p, hp, hyp⟩ := List.mem_flatMap.1 hy
          obtain ⟨j, hj⟩ := List.getElem?_of_mem hp
          obtain ⟨x, hx⟩ : ∃ x, rs[j]? = some x := ⟨_, List.getElem?_eq_getElem (by have := (List.getElem?_eq_some_iff.1 hj).1; omega)⟩
          rw [(PP.out.part j x p hx hj).1] at hyp
          exact List.mem_flatMap.2 ⟨x, List.mem_of_getElem? hx, (List.mem_filter.1 hyp).1⟩
        have hupp : ∀ (j : Nat) (y : Rw), ps[j]? = some y → y.R.Pairwise ltT := fun j y hy => by
          obtain ⟨x, hx⟩ : ∃ x, rs[j]? = some x := ⟨_, List.getElem?_eq_getElem (by have := (List.getElem?_eq_some_iff.1 hy).1; omega)⟩
          rw [(PP.out.part j x y hx hy).1]
          exact (ord_up HO.out j x hx).filter _
        have HMG := hide hmg
        have HXS := hide hxs
        have HRI := hide hri
        have HPS := hide hps
        have HUPP := hide hupp
        have HPRT := hide hprt
        have HTOT := hide (show tot (hds ps) ≤ 1000000 from Nat.le_trans (tot_hds ps) (Nat.le_trans PP.out.sum HG.out.all))
        clear hmg hxs hpo hri hps hupp hprt
        go_wp2_with fail
        refine (seen_any seq (some ⟨gp, 0, none⟩) i i wr).mono ?_
        rintro e w4 ⟨rfl, hw4⟩
        have t4 : Turns (fun _ => False) wr w4 := by rw [hw4]; exact ((Turns.refl _ wr).alloc _).alloc _
        have nq : w4.heap[wr.heap.size]? = some (.cells #[.int .u64 (seq : Nat)] 23 (0, 0)) := by rw [hw4]; exact (heap_alloc_old _ _ (by simp)).trans (heap_alloc_new wr _)
        have nr : w4.cell? ⟨wr.heap.size + 1, 0, none⟩ = some (.slice (some ⟨gp, 0, none⟩) i i) := by
          rw [hw4]
          have := heap_alloc_new (wr.alloc (.cells #[.int .u64 (seq : Nat)] 23)) (.cells #[.slice (some ⟨gp, 0, none⟩) i i] 28)
          rw [World.size_alloc] at this
          exact cell_of_row _ _ 0 _ 28 (0, 0) this
        have hr4 := HRI.out.quiet t4
        have hFO := firstOf_any TS far_TS (fun x : El ps => x.val) 55 #[.pointer (some ⟨wr.heap.size + 1, 0, none⟩), .pointer (some ⟨wr.heap.size, 0, none⟩)] _ _ (tot (hds ps)) w4 m enters55 (seen_seq 4 (wr.heap.size + 1) wr.heap.size (by decide) seq (some ⟨gp, 0, none⟩) i i ps PL.out.symm hmx HUPP.out w4 hr4 nr nq) (fun x => ⟨(all_bytes hr4 x.2).1, (all_bytes hr4 x.2).2, (HG.out.size x.val (HPS.out _ x.2)).1, (HG.out.size x.val (HPS.out _ x.2)).2⟩) HTOT.out
        have FO := hide hFO
        have BA := hide ((TW.out.trans t4).below (B := w.heap.size) (Nat.le_refl _) (fun _ x => x.elim))
        have hs4 := BA.out.size
        have HUQ := hide (hds_up hr4 (by have := HPRT.out; have := HN.out; omega) (show eachOrd ps = true from List.all_eq_true.2 fun y hy => by
          obtain ⟨j, hj⟩ := List.getElem?_of_mem hy
          exact ord_of_pairwise (HUPP.out j y hj)))
        clear nq nr hr4 t4 hw4 hFO
        go_wp2_with fail
        refine FO.out.mono ?_
        rintro e w5 ⟨v, R, rfl, hE, hS, hb5, hFi⟩
        have FIN := hide (show ERow w5 w.heap.size v R ∧ Shown w5 w.heap.size R ∧ Below w.heap.size w w5 ∧ BetweenOk rs fk tk' seq m R from
          ⟨hE.le hs4, hS.le hs4, then_below BA.out hb5 (Nat.le_refl _), .inl ⟨HO.out, xs, HXS.out, first_take HUQ.out HMG.out hFi⟩⟩)
        clear hE hS hb5 hFi
        go_wp2_with fail
        go_ret2
        exact ⟨v, R, rfl, FIN.out⟩
theorem seen9_any (a : Option Addr) (n c : Nat) (rs : List Rw) (seq : Nat) (w : World) (h : RowsIn w a rs) (hn : n = rs.length) (hg : Good rs) :
    Calls Try.prog 9 #[.slice a n c, .int .u64 (seq : Nat)] w fun e w' => ∃ v R, e = .returned (.tuple #[v, .int .i64 (ordE (eachOrd rs))]) ∧ ERow w' w.heap.size v R ∧ Shown w' w.heap.size R ∧ Below w.heap.size w w' ∧ BetweenOk rs [] [] seq 9223372036854775807 R := by
  have BW := hide (between17_any a n c rs none none 0 0 0 0 [] [] seq 9223372036854775807 w h hn hg (Bytes.empty _) (Bytes.empty _))
  clear h hn hg
  generalize ordE (eachOrd rs) = q at *
  go_enter Try.func9, Try.ntmps9
  go_wp2_with fail
  refine BW.out.mono ?_
  rintro e w1 ⟨v, R, rfl, h1, h2, h3, h4⟩
  have X := hide (show ERow w1 w.heap.size v R ∧ Shown w1 w.heap.size R ∧ Below w.heap.size w w1 ∧ BetweenOk rs [] [] seq 9223372036854775807 R from ⟨h1, h2, h3, h4⟩)
  clear h1 h2 h3 h4
  go_wp2_with fail
  go_ret2
  exact ⟨v, R, rfl, X.out⟩
end Go.Proofs.Ytjnpendihdlgnaa

/-
  Weigh of any entries, and small.
-/
namespace Go.Proofs.Ytjnpendihdlgnaa
open Go.RowKit
set_option maxRecDepth 100000
set_option maxHeartbeats 4000000
/-- A whole number, as the machine keeps it. -/
def w64 (z : Int) : Int := IntKind.i64.wrap z
theorem wr64 (z : Int) : wrap64 z = IntKind.i64.wrap z := by rw [IntKind.wrap_i64]; unfold wrap64; omega
theorem w64_add (a b : Int) : IntKind.i64.wrap (w64 a + b) = w64 (a + b) := by
  unfold w64
  simp only [IntKind.wrap_i64]
  omega
theorem w64_small (z : Int) (h0 : 0 ≤ z) (h1 : z < 9223372036854775808) : w64 z = z := wrapI z (by omega) h1
theorem weighW_any (a : Option Addr) (n c : Nat) (l : List Tow) (w : World) (h : Ents w a l) (hn : n = l.length) (hmx : n ≤ reachBytes) :
    Calls Try.prog 26 #[.slice a n c] w fun e w' => e = .returned (.int .i64 (w64 (weigh l : Nat))) ∧ Turns (fun _ => False) w w' := by
  have HL := hide hn
  have HA := hide h
  unfold reachBytes at hmx
  have hmi : (n : Int) ≤ 140737488355328 := by omega
  clear hn h
  go_enter Try.func26, Try.ntmps26
  go_wp2_with fail
  go_loopw [3, 4] (fun sv iv wr => ∃ k : Nat, sv = .int .i64 (w64 (weigh (l.take k) : Nat)) ∧ iv = .int .i64 (k : Nat) ∧ k ≤ n ∧ Turns (fun _ => False) w wr) (fun _ iv _ => n - (intOf iv).toNat)
  case atStart => exact ⟨0, rfl, rfl, by omega, Turns.refl _ _⟩
  case round =>
    obtain ⟨k, rfl, rfl, hk, ht⟩ := hrel
    have TT := hide ht
    by_cases hk2 : k < n
    · have i1 : (k : Int) < n := by omega
      have i0 : (0 : Int) ≤ (k : Int) := by omega
      have hkl : k < l.length := by have := HL.out; omega
      obtain ⟨⟨b, off, rfl, hc⟩, _⟩ := (HA.out.quiet ht) k l[k] (List.getElem?_eq_getElem hkl)
      have HTK := hide (List.take_succ_eq_append_getElem hkl)
      have hws : weigh (l.take (k + 1)) = weigh (l.take k) + (l[k].e.key.length + l[k].e.val.length) := by rw [HTK.out, weigh_snoc]
      have HWS := hide hws
      generalize l[k] = x at *
      obtain ⟨ka, kc, va, vc, e⟩ := x
      have c0 : wr.cell? ⟨b, off + k * 4, none⟩ = some (.slice ka e.key.length kc) := hc 0 _ rfl
      have c3 : wr.cell? ⟨b, off + k * 4 + 3, none⟩ = some (.slice va e.val.length vc) := hc 3 _ rfl
      clear hc ht hws
      simp only at HWS
      have HQ := hide (show ∀ x y : Int, IntKind.i64.wrap (IntKind.i64.wrap (w64 (weigh (l.take k) : Nat) + x) + y) = w64 ((weigh (l.take k) : Nat) + (x + y)) from fun x y => by
        rw [w64_add]
        unfold w64
        simp only [IntKind.wrap_i64]
        omega)
      generalize hz : w64 (weigh (l.take k) : Nat) = z at *
      clear hz
      go_wp2_with fail
      go_quiet (fail)
      go_wp2
      go_roundw
      case rel =>
        refine ⟨k + 1, ?_, by go_num, by omega, ?_⟩
        · rw [HWS.out, Int.natCast_add, Int.natCast_add, ← HQ.out, wr64, wr64]
        · first
            | exact TT.out.drew
            | exact TT.out.drewN _
      case measure => simp [intOf]; omega
    · have i1 : ¬ (k : Int) < n := by omega
      have hkn : k = n := by omega
      have HK := hide hkn
      clear hk hk2 hkn ht
      go_wp2_with fail
      go_ret
      refine ⟨?_, TT.out⟩
      rw [HK.out, HL.out, List.take_length]
      rfl
def wAll (rs : List Rw) : Nat := (rs.map fun x => weigh x.R).sum
theorem sumR_snoc (l : List Rw) (x : Rw) : sumR (l ++ [x]) = sumR l + x.R.length := by simp [sumR]
theorem wAll_snoc (l : List Rw) (x : Rw) : wAll (l ++ [x]) = wAll l + weigh x.R := by simp [wAll]
/-- Rows as they come in: of whatever length. -/
structure RwIn (w : World) (x : Rw) : Prop where
  ents : Ents w x.a x.R
  cap : x.R.length ≤ x.c
  reach : x.R.length ≤ reachBytes
  fit : ∀ y, y ∈ x.R → Fit y
  nil : x.a = none → x.c = 0
def RowsOf (w : World) (a : Option Addr) (rs : List Rw) : Prop := ∀ (k : Nat) (x : Rw), rs[k]? = some x → (∃ b off, a = some ⟨b, off, none⟩ ∧ w.cell? ⟨b, off + k, none⟩ = some (.slice x.a x.R.length x.c)) ∧ RwIn w x
/-- What small answers. -/
def Small (rs : List Rw) (d : Bool) : Prop := d = true → rs.length ≤ 20 ∧ sumR rs ≤ 150 ∧ wAll rs ≤ 15000
def SaysSmall (rs : List Rw) (e : Ending) : Prop := ∃ d : Bool, e = .returned (.bool d) ∧ Small rs d
theorem sumR_le {M : Nat} : ∀ rs : List Rw, (∀ x, x ∈ rs → x.R.length ≤ M) → sumR rs ≤ rs.length * M
  | [], _ => by simp [sumR]
  | x :: r, h => by
    have h1 := sumR_le r fun y hy => h y (List.mem_cons_of_mem _ hy)
    have h2 := h x (by simp)
    simp only [sumR, List.map_cons, List.sum_cons, List.length_cons, Nat.succ_mul] at h1 ⊢
    omega
theorem wAll_le {M : Nat} : ∀ rs : List Rw, (∀ x, x ∈ rs → ∀ y, y ∈ x.R → y.e.key.length ≤ M ∧ y.e.val.length ≤ M) → wAll rs ≤ sumR rs * (2 * M)
  | [], _ => by simp [wAll]
  | x :: r, h => by
    have h1 := wAll_le r fun y hy => h y (List.mem_cons_of_mem _ hy)
    have h2 := weigh_le x.R (h x (by simp))
    simp only [sumR, wAll, List.map_cons, List.sum_cons, Nat.add_mul] at h1 ⊢
    omega
theorem small_fin {w : World} {a : Option Addr} {rs : List Rw} (h : RowsOf w a rs) (h1 : rs.length ≤ 20) (h2 : w64 (sumR rs : Nat) ≤ 150) (h3 : w64 (wAll rs : Nat) ≤ 15000) : sumR rs ≤ 150 ∧ wAll rs ≤ 15000 := by
  have g1 := sumR_le (M := reachBytes) rs fun x hx => by
    obtain ⟨i, hi⟩ := List.getElem?_of_mem hx
    exact (h i x hi).2.reach
  have g2 : sumR rs ≤ 20 * reachBytes := Nat.le_trans g1 (Nat.mul_le_mul_right _ h1)
  unfold reachBytes at g2
  rw [w64_small _ (by omega) (by omega)] at h2
  have g3 := wAll_le (M := reachBytes) rs fun x hx y hy => by
    obtain ⟨i, hi⟩ := List.getElem?_of_mem hx
    have := (h i x hi).2.fit y hy
    exact ⟨this.2.1, this.2.2⟩
  have g4 : wAll rs ≤ 150 * (2 * reachBytes) := Nat.le_trans g3 (Nat.mul_le_mul_right _ (by omega))
  unfold reachBytes at g4
  rw [w64_small _ (by omega) (by omega)] at h3
  omega
theorem small_any (a : Option Addr) (n c : Nat) (rs : List Rw) (w : World) (h : RowsOf w a rs) (hn : n = rs.length) (hmx : n ≤ reachBytes) :
    Calls Try.prog 13 #[.slice a n c] w fun e w' => SaysSmall rs e ∧ Turns (fun _ => False) w w' := by
  have HN := hide hn
  have H0 := hide h
  unfold reachBytes at hmx
  have hmi : (n : Int) ≤ 140737488355328 := by omega
  clear hn h
  go_enter Try.func13, Try.ntmps13
  go_wp2_with fail
  go_loopw [3, 4, 5] (fun nv bv iv wr => ∃ k : Nat, nv = .int .i64 (w64 (sumR (rs.take k) : Nat)) ∧ bv = .int .i64 (w64 (wAll (rs.take k) : Nat)) ∧ iv = .int .i64 (k : Nat) ∧ k ≤ n ∧ Turns (fun _ => False) w wr) (fun _ _ iv _ => n - (intOf iv).toNat)
  case atStart => exact ⟨0, rfl, rfl, rfl, by omega, Turns.refl _ _⟩
  case round =>
    obtain ⟨k, rfl, rfl, rfl, hk, ht⟩ := hrel
    have TT := hide ht
    clear ht
    by_cases hk2 : k < n
    · have i1 : (k : Int) < n := by omega
      have i0 : (0 : Int) ≤ (k : Int) := by omega
      obtain ⟨x, hx⟩ : ∃ x, rs[k]? = some x := ⟨_, List.getElem?_eq_getElem (by have := HN.out; omega)⟩
      obtain ⟨⟨b, off, rfl, hc⟩, hin⟩ := H0.out k x hx
      have hc1 := TT.out.cell hc (fun x => x)
      have hT : rs.take (k + 1) = rs.take k ++ [x] := by rw [List.take_add_one, hx]; rfl
      have HS := hide (show (sumR (rs.take (k + 1)) : Int) = sumR (rs.take k) + x.R.length by rw [hT, sumR_snoc]; omega)
      have HW := hide (show (wAll (rs.take (k + 1)) : Int) = wAll (rs.take k) + weigh x.R by rw [hT, wAll_snoc]; omega)
      have CW := hide (fun (u : World) (t : Turns (fun _ => False) wr u) => weighW_any x.a x.R.length x.c x.R u (hin.ents.quiet (TT.out.trans t)) rfl hin.reach)
      have HQ1 := hide (w64_add (sumR (rs.take k) : Nat) x.R.length)
      have HQ2 := hide (show IntKind.i64.wrap (w64 (wAll (rs.take k) : Nat) + w64 (weigh x.R : Nat)) = w64 ((wAll (rs.take k) : Nat) + (weigh x.R : Nat)) by
        rw [w64_add]
        unfold w64
        simp only [IntKind.wrap_i64]
        omega)
      clear hc hx hin hT
      obtain ⟨xa, xc, xR⟩ := x
      simp only at *
      generalize w64 (sumR (rs.take k) : Nat) = zn at *
      generalize w64 (wAll (rs.take k) : Nat) = zb at *
      generalize w64 (weigh xR : Nat) = zw at *
      generalize xR.length = xl at *
      go_upto_region 5 with (fail)
      have tV : Turns (fun _ => False) wr wr.drew := (Turns.refl _ _).drew
      have SK := hide (fun (u : World) (t : Turns (fun _ => False) wr u) => show u.cell? ⟨b, off + k, none⟩ = some (.slice xa xl xc) from t.cell hc1 (fun x => x))
      refine wp_region_held_drew (S := fun u => u.cell? ⟨b, off + k, none⟩ = some (.slice xa xl xc)) (by kernel_rfl) (SK.out _ tV) (fun _ => ?_)
      change wpAnyH _ _ _ _ _ 16 (Array.replicate 16 false) _ _
      refine wpAnyH_take (i := 0) (oi := { dst := some 12, op := Op.move (Operand.tmp 3), type := 3, pos := "law.go:45", after := #[], guard := none }) (v := .int .i64 zn) rfl (by kernel_rfl) (by kernel_rfl) (by kernel_rfl) (fun _ _ _ h => h) (Or.inl ⟨by rfl, ?_⟩) (SK.out _ tV) ?_
      · rintro w d0
        go_simp
      simp only [Act.put, List.setIfInBounds_toArray, List.set_cons_zero, List.set_cons_succ]
      refine wpAnyH_take (i := 1) (oi := { dst := some 13, op := Op.move (Operand.tmp 0), type := 28, pos := "law.go:45", after := #[], guard := none }) (v := .slice (some ⟨b, off, none⟩) n c) rfl (by kernel_rfl) (by kernel_rfl) (by kernel_rfl) (fun _ _ _ h => h) (Or.inl ⟨by rfl, ?_⟩) (SK.out _ tV) ?_
      · rintro w d0
        go_simp
      simp only [Act.put, List.setIfInBounds_toArray, List.set_cons_zero, List.set_cons_succ]
      refine wpAnyH_take (i := 2) (oi := { dst := some 14, op := Op.move (Operand.tmp 5), type := 3, pos := "law.go:45", after := #[], guard := none }) (v := .int .i64 (k : Nat)) rfl (by kernel_rfl) (by kernel_rfl) (by kernel_rfl) (fun _ _ _ h => h) (Or.inl ⟨by rfl, ?_⟩) (SK.out _ tV) ?_
      · rintro w d0
        go_simp
      simp only [Act.put, List.setIfInBounds_toArray, List.set_cons_zero, List.set_cons_succ]
      refine wpAnyH_take (i := 3) (oi := { dst := some 15, op := Op.indexAddr 28 (Operand.tmp 13) (Operand.tmp 14), type := 0, pos := "law.go:45", after := #[{ on := 1, ground := Ground.data }, { on := 2, ground := Ground.data }], guard := none }) (v := .pointer (some ⟨b, off + k, none⟩)) rfl (by kernel_rfl) (by kernel_rfl) (by kernel_rfl) (fun _ _ _ h => h) (Or.inl ⟨by rfl, ?_⟩) (SK.out _ tV) ?_
      · rintro w d0
        go_simp
      simp only [Act.put, List.setIfInBounds_toArray, List.set_cons_zero, List.set_cons_succ]
      refine wpAnyH_take (i := 4) (oi := { dst := some 16, op := Op.load 27 (Operand.tmp 15), type := 27, pos := "law.go:45", after := #[{ on := 3, ground := Ground.data }], guard := none }) (v := .slice xa xl xc) rfl (by kernel_rfl) (by kernel_rfl) (by kernel_rfl) (fun _ _ _ h => h) (Or.inl ⟨by rfl, ?_⟩) (SK.out _ tV) ?_
      · rintro w d0
        go_simp
      simp only [Act.put, List.setIfInBounds_toArray, List.set_cons_zero, List.set_cons_succ]
      refine wpAnyH_take (i := 5) (oi := { dst := some 17, op := Op.call { callee := Callee.builtin Builtin.len, args := #[Operand.tmp 16], argTypes := #[27] }, type := 3, pos := "law.go:45", after := #[{ on := 4, ground := Ground.data }], guard := none }) (v := .int .i64 (xl : Nat)) rfl (by kernel_rfl) (by kernel_rfl) (by kernel_rfl) (fun _ _ _ h => h) (Or.inl ⟨by rfl, ?_⟩) (SK.out _ tV) ?_
      · rintro w d0
        go_simp
      simp only [Act.put, List.setIfInBounds_toArray, List.set_cons_zero, List.set_cons_succ]
      refine wpAnyH_take (i := 6) (oi := { dst := some 18, op := Op.binOp BinOp.add 3 (Operand.tmp 12) (Operand.tmp 17) 3, type := 3, pos := "law.go:45", after := #[{ on := 0, ground := Ground.data }, { on := 5, ground := Ground.data }], guard := none }) (v := .int .i64 (IntKind.i64.wrap (zn + (xl : Nat)))) rfl (by kernel_rfl) (by kernel_rfl) (by kernel_rfl) (fun _ _ _ h => h) (Or.inl ⟨by rfl, ?_⟩) (SK.out _ tV) ?_
      · rintro w d0
        go_simp
      simp only [Act.put, List.setIfInBounds_toArray, List.set_cons_zero, List.set_cons_succ]
      refine wpAnyH_take (i := 7) (oi := { dst := some 19, op := Op.move (Operand.tmp 4), type := 3, pos := "law.go:45", after := #[{ on := 14, ground := Ground.gcOnly Departure.lateStores }], guard := none }) (v := .int .i64 zb) rfl (by kernel_rfl) (by kernel_rfl) (by kernel_rfl) (fun _ _ _ h => h) (Or.inl ⟨by rfl, ?_⟩) (SK.out _ tV) ?_
      · rintro w d0
        go_simp
      simp only [Act.put, List.setIfInBounds_toArray, List.set_cons_zero, List.set_cons_succ]
      refine wpAnyH_take (i := 8) (oi := { dst := some 20, op := Op.move (Operand.tmp 0), type := 28, pos := "law.go:45", after := #[], guard := none }) (v := .slice (some ⟨b, off, none⟩) n c) rfl (by kernel_rfl) (by kernel_rfl) (by kernel_rfl) (fun _ _ _ h => h) (Or.inl ⟨by rfl, ?_⟩) (SK.out _ tV) ?_
      · rintro w d0
        go_simp
      simp only [Act.put, List.setIfInBounds_toArray, List.set_cons_zero, List.set_cons_succ]
      refine wpAnyH_take (i := 9) (oi := { dst := some 21, op := Op.move (Operand.tmp 5), type := 3, pos := "law.go:45", after := #[], guard := none }) (v := .int .i64 (k : Nat)) rfl (by kernel_rfl) (by kernel_rfl) (by kernel_rfl) (fun _ _ _ h => h) (Or.inl ⟨by rfl, ?_⟩) (SK.out _ tV) ?_
      · rintro w d0
        go_simp
      simp only [Act.put, List.setIfInBounds_toArray, List.set_cons_zero, List.set_cons_succ]
      refine wpAnyH_take (i := 10) (oi := { dst := some 22, op := Op.indexAddr 28 (Operand.tmp 20) (Operand.tmp 21), type := 0, pos := "law.go:45", after := #[{ on := 8, ground := Ground.data }, { on := 9, ground := Ground.data }], guard := none }) (v := .pointer (some ⟨b, off + k, none⟩)) rfl (by kernel_rfl) (by kernel_rfl) (by kernel_rfl) (fun _ _ _ h => h) (Or.inl ⟨by rfl, ?_⟩) (SK.out _ tV) ?_
      · rintro w d0
        go_simp
      simp only [Act.put, List.setIfInBounds_toArray, List.set_cons_zero, List.set_cons_succ]
      refine wpAnyH_take (i := 11) (oi := { dst := some 23, op := Op.load 27 (Operand.tmp 22), type := 27, pos := "law.go:45", after := #[{ on := 10, ground := Ground.data }], guard := none }) (v := .slice xa xl xc) rfl (by kernel_rfl) (by kernel_rfl) (by kernel_rfl) (fun _ _ _ h => h) (Or.inl ⟨by rfl, ?_⟩) (SK.out _ tV) ?_
      · rintro w d0
        go_simp
      simp only [Act.put, List.setIfInBounds_toArray, List.set_cons_zero, List.set_cons_succ]
      refine wpAnyH_ready (rs := [12]) (by kernel_rfl) (by simp) ?_
      refine AllReadyH.cons rfl (fun K hK => ?_) AllReadyH.nil
      go_simp
      refine (CW.out _ tV).mono ?_
      rintro oo Vn ⟨rfl, b2⟩
      have tV := tV.trans b2
      clear b2 CW
      go_simp
      refine hK.out _ _ (SK.out _ tV) (fun _ => ?_)
      clear hK K
      refine wpAnyH_take (i := 13) (oi := { dst := some 25, op := Op.binOp BinOp.add 3 (Operand.tmp 19) (Operand.tmp 24) 3, type := 3, pos := "law.go:45", after := #[{ on := 7, ground := Ground.data }, { on := 12, ground := Ground.data }, { on := 14, ground := Ground.gcOnly Departure.lateStores }], guard := none }) (v := .int .i64 (IntKind.i64.wrap (zb + zw))) rfl (by kernel_rfl) (by kernel_rfl) (by kernel_rfl) (fun _ _ _ h => h) (Or.inl ⟨by rfl, ?_⟩) (SK.out _ tV) ?_
      · rintro w d0
        go_simp
      simp only [Act.put, List.setIfInBounds_toArray, List.set_cons_zero, List.set_cons_succ]
      refine wpAnyH_take (i := 14) (oi := { dst := some 3, op := Op.assign (Operand.tmp 18), type := 3, pos := "law.go:45", after := #[{ on := 6, ground := Ground.data }, { on := 12, ground := Ground.chain }, { on := 0, ground := Ground.phase }, { on := 1, ground := Ground.phase }, { on := 2, ground := Ground.phase }, { on := 3, ground := Ground.phase }, { on := 4, ground := Ground.phase }, { on := 5, ground := Ground.phase }, { on := 6, ground := Ground.phase }, { on := 7, ground := Ground.textOnly Departure.lateStores }, { on := 8, ground := Ground.textOnly Departure.lateStores }, { on := 9, ground := Ground.textOnly Departure.lateStores }, { on := 10, ground := Ground.textOnly Departure.lateStores }, { on := 11, ground := Ground.textOnly Departure.lateStores }, { on := 12, ground := Ground.textOnly Departure.lateStoresUnsure }, { on := 13, ground := Ground.textOnly Departure.lateStores }], guard := none }) (v := .int .i64 (IntKind.i64.wrap (zn + (xl : Nat)))) rfl (by kernel_rfl) (by kernel_rfl) (by kernel_rfl) (fun _ _ _ h => h) (Or.inl ⟨by rfl, ?_⟩) (SK.out _ tV) ?_
      · rintro w d0
        go_simp
      simp only [Act.put, List.setIfInBounds_toArray, List.set_cons_zero, List.set_cons_succ]
      refine wpAnyH_take (i := 15) (oi := { dst := some 4, op := Op.assign (Operand.tmp 25), type := 3, pos := "law.go:45", after := #[{ on := 13, ground := Ground.data }, { on := 14, ground := Ground.chain }, { on := 0, ground := Ground.phase }, { on := 1, ground := Ground.phase }, { on := 2, ground := Ground.phase }, { on := 3, ground := Ground.phase }, { on := 4, ground := Ground.phase }, { on := 5, ground := Ground.phase }, { on := 6, ground := Ground.phase }, { on := 7, ground := Ground.phase }, { on := 8, ground := Ground.phase }, { on := 9, ground := Ground.phase }, { on := 10, ground := Ground.phase }, { on := 11, ground := Ground.phase }, { on := 12, ground := Ground.phase }, { on := 13, ground := Ground.phase }, { on := 14, ground := Ground.phase }], guard := none }) (v := .int .i64 (IntKind.i64.wrap (zb + zw))) rfl (by kernel_rfl) (by kernel_rfl) (by kernel_rfl) (fun _ _ _ h => h) (Or.inl ⟨by rfl, ?_⟩) (SK.out _ tV) ?_
      · rintro w d0
        go_simp
      simp only [Act.put, List.setIfInBounds_toArray, List.set_cons_zero, List.set_cons_succ]
      refine wpAnyH_done (by kernel_rfl) ?_ _
      have TV := hide tV
      clear tV
      go_wp2_with fail
      go_roundw
      case rel =>
        refine ⟨k + 1, ?_, ?_, by go_num, by omega, TT.out.trans TV.out⟩
        · rw [HS.out, ← HQ1.out]
        · rw [HW.out, ← HQ2.out]
      case measure => simp [intOf]; omega
    · have i1 : ¬ (k : Int) < n := by omega
      obtain rfl : k = n := by omega
      have hfin := small_fin H0.out
      have hlen := HN.out
      have htk : rs.take k = rs := by rw [HN.out, List.take_length]
      rw [htk]
      have HFIN := hide hfin
      have HLEN := hide hlen
      clear hfin hlen htk hk hk2
      generalize w64 (sumR rs : Nat) = zn at *
      generalize w64 (wAll rs : Nat) = zb at *
      by_cases h1 : (k : Int) ≤ 20
      · by_cases h2 : zn ≤ 150
        · by_cases h3 : zb ≤ 15000
          · go_wp2_with fail
            go_ret
            exact ⟨⟨true, rfl, fun _ => ⟨by have := HLEN.out; omega, HFIN.out (by have := HLEN.out; omega) h2 h3⟩⟩, TT.out⟩
          · go_wp2_with fail
            go_ret
            exact ⟨⟨false, rfl, fun e => (by cases e)⟩, TT.out⟩
        · go_wp2_with fail
          go_ret
          exact ⟨⟨false, rfl, fun e => (by cases e)⟩, TT.out⟩
      · go_wp2_with fail
        go_ret
        exact ⟨⟨false, rfl, fun e => (by cases e)⟩, TT.out⟩
end Go.Proofs.Ytjnpendihdlgnaa

/-
  Two rows as1 one, as plain mathematics; what is seen, by a predicate.
-/
namespace Go.Proofs.Ytjnpendihdlgnaa
open Go.RowKit
set_option maxRecDepth 100000
def mg2 : List Tow → List Tow → List Tow
  | [], bs => bs
  | a :: as1, [] => a :: as1
  | a :: as1, b :: bs => if cmpE a.e.en b.e.en < 0 then a :: mg2 as1 (b :: bs) else if cmpE a.e.en b.e.en = 0 then a :: mg2 as1 bs else b :: mg2 (a :: as1) bs
termination_by a b => a.length + b.length
theorem mg2_nil_right (as1 : List Tow) : mg2 as1 [] = as1 := by cases as1 <;> simp [mg2]
theorem cmpE_self (x : En) : cmpE x x = 0 := (cmpE_zero x x).2 ⟨rfl, rfl⟩
theorem mg2_mem : ∀ (as1 bs : List Tow), as1.Pairwise ltT → bs.Pairwise ltT → ∀ x, x ∈ mg2 as1 bs ↔ x ∈ as1 ∨ (x ∈ bs ∧ ∀ a, a ∈ as1 → cmpE a.e.en x.e.en ≠ 0)
  | [], bs, _, _, x => by simp [mg2]
  | a :: as1, [], _, _, x => by simp [mg2]
  | a :: as1, b :: bs, ha, hb, x => by
    obtain ⟨ha1, ha2⟩ := List.pairwise_cons.1 ha
    obtain ⟨hb1, hb2⟩ := List.pairwise_cons.1 hb
    unfold mg2
    split
    · next hlt =>
      rw [List.mem_cons, mg2_mem as1 (b :: bs) ha2 hb x]
      constructor
      · rintro (rfl | h | ⟨h1, h2⟩)
        · exact .inl (by simp)
        · exact .inl (List.mem_cons_of_mem _ h)
        · refine .inr ⟨h1, fun c hc => ?_⟩
          rcases List.mem_cons.1 hc with rfl | hc
          · have : cmpE c.e.en x.e.en < 0 := by
              rcases List.mem_cons.1 h1 with rfl | h1
              · exact hlt
              · have := hb1 x h1
                unfold ltT at this
                exact cmpE_lt_le hlt (by omega)
            omega
          · exact h2 c hc
      · rintro (h | ⟨h1, h2⟩)
        · rcases List.mem_cons.1 h with rfl | h
          · exact .inl rfl
          · exact .inr (.inl h)
        · exact .inr (.inr ⟨h1, fun c hc => h2 c (List.mem_cons_of_mem _ hc)⟩)
    · next hlt =>
      split
      · next heq =>
        rw [List.mem_cons, mg2_mem as1 bs ha2 hb2 x]
        constructor
        · rintro (rfl | h | ⟨h1, h2⟩)
          · exact .inl (by simp)
          · exact .inl (List.mem_cons_of_mem _ h)
          · refine .inr ⟨List.mem_cons_of_mem _ h1, fun c hc => ?_⟩
            rcases List.mem_cons.1 hc with rfl | hc
            · have := hb1 x h1
              unfold ltT at this
              have := cmpE_le_lt (x := c.e.en) (y := b.e.en) (z := x.e.en) (by omega) this
              omega
            · exact h2 c hc
        · rintro (h | ⟨h1, h2⟩)
          · rcases List.mem_cons.1 h with rfl | h
            · exact .inl rfl
            · exact .inr (.inl h)
          · rcases List.mem_cons.1 h1 with rfl | h1
            · exact absurd heq (h2 a (by simp))
            · exact .inr (.inr ⟨h1, fun c hc => h2 c (List.mem_cons_of_mem _ hc)⟩)
      · next hne =>
        rw [List.mem_cons, mg2_mem (a :: as1) bs ha hb2 x]
        constructor
        · rintro (rfl | h | ⟨h1, h2⟩)
          · refine .inr ⟨by simp, fun c hc e => ?_⟩
            rcases List.mem_cons.1 hc with rfl | hc
            · exact hne e
            · have := ha1 c hc
              unfold ltT at this
              have s := cmpE_swap a.e.en x.e.en
              have := cmpE_lt_le (x := a.e.en) (y := c.e.en) (z := x.e.en) this (by omega)
              omega
          · exact .inl h
          · exact .inr ⟨List.mem_cons_of_mem _ h1, h2⟩
        · rintro (h | ⟨h1, h2⟩)
          · exact .inr (.inl h)
          · rcases List.mem_cons.1 h1 with rfl | h1
            · exact .inl rfl
            · exact .inr (.inr ⟨h1, h2⟩)
termination_by a b => a.length + b.length
theorem mg2_rise : ∀ (as1 bs : List Tow), as1.Pairwise ltT → bs.Pairwise ltT → (mg2 as1 bs).Pairwise ltT
  | [], bs, _, hb => by simpa [mg2] using hb
  | a :: as1, [], ha, _ => by simpa [mg2] using ha
  | a :: as1, b :: bs, ha, hb => by
    obtain ⟨ha1, ha2⟩ := List.pairwise_cons.1 ha
    obtain ⟨hb1, hb2⟩ := List.pairwise_cons.1 hb
    unfold mg2
    split
    · next hlt =>
      refine List.pairwise_cons.2 ⟨fun x hx => ?_, mg2_rise as1 (b :: bs) ha2 hb⟩
      rcases (mg2_mem as1 (b :: bs) ha2 hb x).1 hx with h | ⟨h, _⟩
      · exact ha1 x h
      · rcases List.mem_cons.1 h with rfl | h
        · exact hlt
        · have := hb1 x h
          unfold ltT at this ⊢
          exact cmpE_lt_le hlt (by omega)
    · next hlt =>
      split
      · next heq =>
        refine List.pairwise_cons.2 ⟨fun x hx => ?_, mg2_rise as1 bs ha2 hb2⟩
        rcases (mg2_mem as1 bs ha2 hb2 x).1 hx with h | ⟨h, _⟩
        · exact ha1 x h
        · have := hb1 x h
          unfold ltT at this ⊢
          exact cmpE_le_lt (by omega) this
      · next hne =>
        refine List.pairwise_cons.2 ⟨fun x hx => ?_, mg2_rise (a :: as1) bs ha hb2⟩
        have s := cmpE_swap a.e.en b.e.en
        rcases (mg2_mem (a :: as1) bs ha hb2 x).1 hx with h | ⟨h, _⟩
        · rcases List.mem_cons.1 h with rfl | h
          · unfold ltT; omega
          · have := ha1 x h
            unfold ltT at this ⊢
            exact cmpE_lt_le (by omega) (show cmpE a.e.en x.e.en ≤ 0 by omega)
        · exact hb1 x h
termination_by a b => a.length + b.length
/-- One row more. -/
theorem Mg.more {L : List Hd} {h : Hd} {xs : List Tow} (hx : Mg L xs) (hu : h.R.Pairwise ltT) (hno : ∀ h', h' ∈ L → h'.no < h.no) : Mg (L ++ [h]) (mg2 xs h.R) := by
  have mem := mg2_mem xs h.R hx.rise hu
  refine ⟨mg2_rise xs h.R hx.rise hu, fun x hm => ?_, fun g hg y hy => ?_⟩
  · rcases (mem x).1 hm with h1 | ⟨h1, h2⟩
    · obtain ⟨h0, g1, g2, g3⟩ := hx.of x h1
      refine ⟨h0, List.mem_append_left _ g1, g2, fun h' hh' hn => ?_⟩
      rcases List.mem_append.1 hh' with hh' | hh'
      · exact g3 h' hh' hn
      · rw [List.mem_singleton.1 hh'] at hn
        have := hno h0 g1
        omega
    · refine ⟨h, List.mem_append_right _ (by simp), h1, fun h' hh' hn y hy e => ?_⟩
      rcases List.mem_append.1 hh' with hh' | hh'
      · obtain ⟨a, a1, a2⟩ := hx.all h' hh' y hy
        have := @cmpE_sub a.e.en y.e.en x.e.en (by omega) (by omega)
        have s1 := cmpE_swap a.e.en y.e.en
        have s2 := cmpE_swap y.e.en x.e.en
        have s3 := cmpE_swap a.e.en x.e.en
        have := @cmpE_sub x.e.en y.e.en a.e.en (by omega) (by omega)
        exact h2 a a1 (by omega)
      · rw [List.mem_singleton.1 hh'] at hn
        omega
  · rcases List.mem_append.1 hg with hg | hg
    · obtain ⟨a, a1, a2⟩ := hx.all g hg y hy
      exact ⟨a, (mem a).2 (.inl a1), a2⟩
    · rw [List.mem_singleton.1 hg] at hy
      by_cases he : ∃ a, a ∈ xs ∧ cmpE a.e.en y.e.en = 0
      · obtain ⟨a, a1, a2⟩ := he
        exact ⟨a, (mem a).2 (.inl a1), a2⟩
      · exact ⟨y, (mem y).2 (.inr ⟨hy, fun a ha e => he ⟨a, ha, e⟩⟩), cmpE_self _⟩
end Go.Proofs.Ytjnpendihdlgnaa

/-
  What is seen, told by a predicate.
-/
namespace Go.Proofs.Ytjnpendihdlgnaa
open Go.RowKit
set_option maxRecDepth 100000
def ltE (a b : Ent) : Prop := cmpE a.en b.en < 0
theorem ltE_key {a b : Ent} (h : ltE a b) : cmpB a.key b.key ≤ 0 := cmpB_of_E h
theorem ltE_seq {a b : Ent} (h : ltE a b) (e : a.key = b.key) : b.seq < a.seq := by
  unfold ltE cmpE Ent.en at h
  have hz : cmpB a.key b.key = 0 := (cmpB_zero _ _).2 e
  simp only [hz, ne_eq, not_true_eq_false, if_false] at h
  split at h
  · assumption
  · split at h <;> omega
theorem key_mid {a b c : Ent} (h1 : ltE a b) (h2 : ltE b c) (e : a.key = c.key) : b.key = c.key := by
  have k1 := ltE_key h1
  have k2 := ltE_key h2
  rw [e] at k1
  have s := cmpB_swap c.key b.key
  exact (cmpB_zero _ _).1 (by omega)
/-- Is x hidden by y at seq? -/
def hides (seq : Nat) (x y : Ent) : Bool := decide (y.key = x.key) && decide (y.seq ≤ seq) && decide (x.seq < y.seq)
def newest (seq : Nat) (xs : List Ent) (x : Ent) : Bool := decide (x.seq ≤ seq) && decide (x.kind = 1) && !(xs.any (hides seq x))
theorem seenK_snoc (seq : Nat) (p : List Ent) (y : Ent) : seenK seq none (p ++ [y]) = if seq < y.seq then seenK seq none p else some y.key := by
  rw [seenK_append]
  generalize seenK seq none p = k
  simp only [seenK]
  by_cases h : seq < y.seq
  · simp [skipIt, h]
  · rw [if_neg h]
    cases k with
    | none => simp [skipIt, h]
    | some k =>
      by_cases e : y.key = k
      · simp [skipIt, e]
      · simp [skipIt, h, e]
theorem seenK_iff (seq : Nat) : ∀ (n : Nat) (pre : List Ent) (z : Ent), pre.length = n → (pre ++ [z]).Pairwise ltE → (seenK seq none pre = some z.key ↔ ∃ y, y ∈ pre ∧ y.key = z.key ∧ y.seq ≤ seq)
  | 0, pre, z, hn, _ => by
    obtain rfl := List.eq_nil_of_length_eq_zero hn
    simp [seenK]
  | n + 1, pre, z, hn, hp => by
    obtain ⟨p, y, rfl⟩ : ∃ p y, pre = p ++ [y] := ⟨pre.dropLast, pre.getLast (by intro e; rw [e] at hn; cases hn), (List.dropLast_concat_getLast _).symm⟩
    have hl : p.length = n := by simpa using hn
    have hpz : (p ++ [z]).Pairwise ltE := by
      refine hp.sublist ?_
      rw [List.append_assoc]
      exact List.Sublist.append_left (List.sublist_append_right _ _) _
    have hyz : ltE y z := by
      have := (List.pairwise_append.1 hp).2.2 y (by simp) z (by simp)
      exact this
    have ih := seenK_iff seq n p z hl hpz
    rw [seenK_snoc]
    by_cases h : seq < y.seq
    · rw [if_pos h, ih]
      constructor
      · rintro ⟨a, h1, h2⟩
        exact ⟨a, List.mem_append_left _ h1, h2⟩
      · rintro ⟨a, h1, h2, h3⟩
        rcases List.mem_append.1 h1 with h1 | h1
        · exact ⟨a, h1, h2, h3⟩
        · rw [List.mem_singleton.1 h1] at h3; omega
    · rw [if_neg h]
      constructor
      · intro e
        exact ⟨y, by simp, Option.some.inj e, by omega⟩
      · rintro ⟨a, h1, h2, h3⟩
        rcases List.mem_append.1 h1 with h1 | h1
        · have hay : ltE a y := by
            have := (List.pairwise_append.1 (List.pairwise_append.1 hp).1).2.2 a h1 y (by simp)
            exact this
          rw [key_mid hay hyz h2]
        · rw [← List.mem_singleton.1 h1, h2]
theorem seen_filter_from (seq : Nat) : ∀ (xs pre : List Ent), (pre ++ xs).Pairwise ltE → seenO seq (seenK seq none pre) xs = xs.filter (newest seq (pre ++ xs))
  | [], pre, _ => rfl
  | x :: r, pre, hp => by
    have hp1 : (pre ++ [x]).Pairwise ltE := hp.sublist (List.Sublist.append_left (by simp) _)
    have hk := seenK_iff seq pre.length pre x rfl hp1
    have e : pre ++ x :: r = (pre ++ [x]) ++ r := by simp
    have ih := seen_filter_from seq r (pre ++ [x]) (by rw [← e]; exact hp)
    rw [← e] at ih
    have hr : ∀ y, y ∈ r → ltE x y := fun y hy => by
      have := (List.pairwise_cons.1 (List.pairwise_append.1 hp).2.1).1 y hy
      exact this
    have hpre : ∀ y, y ∈ pre → ltE y x := fun y hy => (List.pairwise_append.1 hp).2.2 y hy x (by simp)
    have hany : (pre ++ x :: r).any (hides seq x) = true ↔ ∃ y, y ∈ pre ∧ y.key = x.key ∧ y.seq ≤ seq := by
      rw [List.any_eq_true]
      constructor
      · rintro ⟨y, h1, h2⟩
        simp only [hides, Bool.and_eq_true, decide_eq_true_eq] at h2
        rcases List.mem_append.1 h1 with h1 | h1
        · exact ⟨y, h1, h2.1.1, h2.1.2⟩
        · rcases List.mem_cons.1 h1 with rfl | h1
          · omega
          · have := ltE_seq (hr y h1) h2.1.1.symm
            omega
      · rintro ⟨y, h1, h2, h3⟩
        refine ⟨y, List.mem_append_left _ h1, ?_⟩
        simp only [hides, Bool.and_eq_true, decide_eq_true_eq]
        exact ⟨⟨h2, h3⟩, ltE_seq (hpre y h1) h2⟩
    have hskip : skipIt seq (seenK seq none pre) x = true ↔ seq < x.seq ∨ ∃ y, y ∈ pre ∧ y.key = x.key ∧ y.seq ≤ seq := by
      rw [← hk]
      unfold skipIt
      rw [Bool.or_eq_true, decide_eq_true_eq]
      cases h : seenK seq none pre with
      | none => simp
      | some k =>
        simp only [decide_eq_true_eq, Option.some.injEq]
        constructor
        · rintro (h | h)
          · exact .inl h
          · exact .inr h.symm
        · rintro (h | h)
          · exact .inl h
          · exact .inr h.symm
    rw [seenK_snoc] at ih
    simp only [seenO]
    by_cases hs : skipIt seq (seenK seq none pre) x = true
    · rw [if_pos hs]
      have hnew : newest seq (pre ++ x :: r) x = false := by
        rcases hskip.1 hs with h | h
        · simp [newest, show ¬ x.seq ≤ seq by omega]
        · simp [newest, hany.2 h]
      rw [List.filter_cons_of_neg (by rw [hnew]; simp)]
      rcases hskip.1 hs with h | h
      · rw [if_pos h] at ih
        exact ih
      · by_cases hq : seq < x.seq
        · rw [if_pos hq] at ih
          exact ih
        · rw [if_neg hq] at ih
          rw [← ih, hk.2 h]
    · rw [if_neg hs]
      have hq : ¬ seq < x.seq := fun h => hs (hskip.2 (.inl h))
      have hno : (pre ++ x :: r).any (hides seq x) = false := Bool.eq_false_iff.2 fun h => hs (hskip.2 (.inr (hany.1 h)))
      rw [if_neg hq] at ih
      by_cases hkd : x.kind = 1
      · rw [if_pos hkd, ih, List.filter_cons_of_pos]
        simp only [newest, hkd, hno, Bool.not_false, Bool.and_true, decide_true, decide_eq_true_eq]
        omega
      · rw [if_neg hkd, ih, List.filter_cons_of_neg]
        simp [newest, hkd]
theorem seen_filter (seq : Nat) (xs : List Ent) (h : xs.Pairwise ltE) : seenO seq none xs = xs.filter (newest seq xs) := seen_filter_from seq xs [] h
def rngE (fk tk : Ky) (x : Ent) : Bool := decide (0 ≤ cmpB x.key fk) && (tk.isEmpty || !decide (0 ≤ cmpB x.key tk))
theorem rng_E (fk tk : Ky) (x : Tow) : rng fk tk x = rngE fk tk x.e := rfl
theorem seen_rng (seq : Nat) (es : List Ent) (g : Ent → Bool) (hg : ∀ x y : Ent, x.key = y.key → g x = g y) (h : es.Pairwise ltE) : seenO seq none (es.filter g) = es.filter (fun x => newest seq es x && g x) := by
  rw [seen_filter seq _ (h.filter _), List.filter_filter]
  refine List.filter_congr fun x hx => ?_
  cases hgx : g x with
  | false => simp
  | true =>
    rw [Bool.and_true, Bool.and_true]
    unfold newest
    congr 2
    rw [Bool.eq_iff_iff, List.any_eq_true, List.any_eq_true]
    constructor
    · rintro ⟨y, h1, h2⟩
      exact ⟨y, (List.mem_filter.1 h1).1, h2⟩
    · rintro ⟨y, h1, h2⟩
      refine ⟨y, List.mem_filter.2 ⟨h1, ?_⟩, h2⟩
      simp only [hides, Bool.and_eq_true, decide_eq_true_eq] at h2
      rw [hg y x h2.1.1]
      exact hgx
/-- The one ahead hides, if any does. -/
theorem prev_hides {seq : Nat} {es : List Ent} (h : es.Pairwise ltE) {i : Nat} {x : Ent} (hx : es[i]? = some x) : es.any (hides seq x) = true ↔ ∃ p, 0 < i ∧ es[i - 1]? = some p ∧ p.key = x.key ∧ p.seq ≤ seq := by
  obtain ⟨hi, rfl⟩ := List.getElem?_eq_some_iff.1 hx
  have hp := List.pairwise_iff_getElem.1 h
  rw [List.any_eq_true]
  constructor
  · rintro ⟨y, h1, h2⟩
    simp only [hides, Bool.and_eq_true, decide_eq_true_eq] at h2
    obtain ⟨j, hj, rfl⟩ := List.getElem_of_mem h1
    have hji : j < i := by
      rcases Nat.lt_trichotomy j i with c | c | c
      · exact c
      · subst c; omega
      · have := ltE_seq (hp i j hi hj c) h2.1.1.symm
        omega
    refine ⟨es[i - 1], by omega, List.getElem?_eq_getElem (by omega), ?_⟩
    by_cases e : j = i - 1
    · subst e; exact h2.1
    · have q1 := hp j (i - 1) hj (by omega) (by omega)
      have q2 := hp (i - 1) i (by omega) hi (by omega)
      have q3 := key_mid q1 q2 h2.1.1
      have := ltE_seq q1 (h2.1.1.trans q3.symm)
      exact ⟨q3, by omega⟩
  · rintro ⟨p, h0, h1, h2, h3⟩
    obtain ⟨hj, rfl⟩ := List.getElem?_eq_some_iff.1 h1
    refine ⟨_, List.getElem_mem hj, ?_⟩
    simp only [hides, Bool.and_eq_true, decide_eq_true_eq]
    exact ⟨⟨h2, h3⟩, ltE_seq (hp (i - 1) i hj hi (by omega)) h2⟩
end Go.Proofs.Ytjnpendihdlgnaa
