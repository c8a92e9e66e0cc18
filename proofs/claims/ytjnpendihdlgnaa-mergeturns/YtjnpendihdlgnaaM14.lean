import Derived.Test.YtjnpendihdlgnaaM13
import Derived.Test.YtjnpendihdlgnaaM03
import Derived.Deep.RegionHeld
import Derived.Deep.Light
/-
  Between and Seen.
-/
namespace Go.Proofs.Ytjnpendihdlgnaa
open Go.RowKit Go.Shelf
set_option maxRecDepth 100000
set_option maxHeartbeats 4000000
def sumR (rs : List Rw) : Nat := (rs.map fun x => x.R.length).sum
theorem tot_hds_from : ∀ (rs : List Rw) (k : Nat), tot ((rs.zipIdx k).filterMap fun p => hdOf p.1 p.2) ≤ sumR rs
  | [], k => by simp [tot]
  | x :: r, k => by
    have ih := tot_hds_from r (k + 1)
    have hx : ∀ h, hdOf x k = some h → h.R = x.R := fun h e => by
      unfold hdOf at e
      split at e
      · next e1 e2 => cases e; exact e2.symm
      · cases e
    simp only [List.zipIdx_cons, sumR, List.map_cons, List.sum_cons] at ih ⊢
    cases e : hdOf x k with
    | none => rw [List.filterMap_cons_none (by exact e)]; omega
    | some h =>
      rw [List.filterMap_cons_some (by exact e)]
      have h1 := hx h e
      simp only [tot, List.map_cons, List.sum_cons, h1] at ih ⊢
      omega
theorem tot_hds (rs : List Rw) : tot (hds rs) ≤ sumR rs := tot_hds_from rs 0
/-- Each row's part. -/
structure Parts (w : World) (f : Tow → Bool) (rs ps : List Rw) : Prop where
  len : ps.length ≤ rs.length
  part : ∀ (i : Nat) (x y : Rw), rs[i]? = some x → ps[i]? = some y → y.R = x.R.filter f ∧ RwOk w y
theorem Parts.sum {w : World} {f : Tow → Bool} : ∀ {rs ps : List Rw}, Parts w f rs ps → sumR ps ≤ sumR rs
  | _, [], _ => Nat.zero_le _
  | [], _ :: _, h => by have := h.len; simp at this
  | x :: rs, y :: ps, h => by
    have ih := Parts.sum (rs := rs) (ps := ps) ⟨by have := h.len; simpa using this, fun i a b h1 h2 => h.part (i + 1) a b (by simpa using h1) (by simpa using h2)⟩
    have := (h.part 0 x y rfl rfl).1
    have hl := List.length_filter_le f x.R
    simp only [sumR, List.map_cons, List.sum_cons, this] at ih ⊢
    omega
theorem hds_of {w : World} {rs : List Rw} {i : Nat} {x : Rw} (h : RwOk w x) (hi : rs[i]? = some x) (hne : x.R ≠ []) : ∃ h, h ∈ hds rs ∧ h.R = x.R ∧ h.no = i := by
  obtain ⟨b, off, _, e⟩ := hdOf_some (i := i) h hne
  exact ⟨_, mem_hds.2 ⟨i, x, hi, e⟩, rfl, rfl⟩
theorem hds_is {rs : List Rw} {h : Hd} (hh : h ∈ hds rs) : ∃ (i : Nat) (x : Rw), rs[i]? = some x ∧ h.R = x.R ∧ h.no = i := by
  obtain ⟨i, x, h1, h2⟩ := mem_hds.1 hh
  refine ⟨i, x, h1, ?_⟩
  unfold hdOf at h2
  split at h2
  · next e1 e2 => cases h2; exact ⟨e2.symm, rfl⟩
  · cases h2
theorem Mg.filter {w : World} {a : Option Addr} {rs ps : List Rw} (hr : RowsIn w a rs) (f : Tow → Bool) (hf : ∀ x y : Tow, x.e.key = y.e.key → f x = f y) (hl : ps.length = rs.length) (hp : Parts w f rs ps) {xs : List Tow} (hx : Mg (hds rs) xs) : Mg (hds ps) (xs.filter f) := by
  have same : ∀ x y : Tow, cmpE x.e.en y.e.en = 0 → f x = f y := fun x y e => hf x y ((cmpE_zero _ _).1 e).1
  have get : ∀ (i : Nat) (x : Rw), rs[i]? = some x → ∃ y, ps[i]? = some y := fun i x hi => ⟨_, List.getElem?_eq_getElem (by have := (List.getElem?_eq_some_iff.1 hi).1; omega)⟩
  have get' : ∀ (i : Nat) (y : Rw), ps[i]? = some y → ∃ x, rs[i]? = some x := fun i y hi => ⟨_, List.getElem?_eq_getElem (by have := (List.getElem?_eq_some_iff.1 hi).1; omega)⟩
  refine ⟨hx.rise.filter _, fun x hm => ?_, fun h hh y hy => ?_⟩
  · obtain ⟨h1, h2⟩ := List.mem_filter.1 hm
    obtain ⟨h, h3, h4, h5⟩ := hx.of x h1
    obtain ⟨i, r, hi, hR, hno⟩ := hds_is h3
    obtain ⟨p, hpi⟩ := get i r hi
    obtain ⟨hpR, hpo⟩ := hp.part i r p hi hpi
    have hxp : x ∈ p.R := by rw [hpR]; exact List.mem_filter.2 ⟨by rw [← hR]; exact h4, h2⟩
    obtain ⟨h', h6, h7, h8⟩ := hds_of hpo hpi (List.ne_nil_of_mem hxp)
    refine ⟨h', h6, by rw [h7]; exact hxp, fun h'' hh'' hn y hy => ?_⟩
    obtain ⟨j, q, hj, hqR, hqn⟩ := hds_is hh''
    obtain ⟨r2, hr2⟩ := get' j q hj
    rw [hqR, (hp.part j r2 q hr2 hj).1] at hy
    have hy2 := (List.mem_filter.1 hy).1
    obtain ⟨g, g1, g2, g3⟩ := hds_of (hr j r2 hr2).2 hr2 (List.ne_nil_of_mem hy2)
    exact h5 g g1 (by omega) y (by rw [g2]; exact hy2)
  · obtain ⟨i, p, hi, hR, hno⟩ := hds_is hh
    obtain ⟨r, hri⟩ := get' i p hi
    rw [hR, (hp.part i r p hri hi).1] at hy
    obtain ⟨hy1, hy2⟩ := List.mem_filter.1 hy
    obtain ⟨g, g1, g2, g3⟩ := hds_of (hr i r hri).2 hri (List.ne_nil_of_mem hy1)
    obtain ⟨x, hx1, hx2⟩ := hx.all g g1 y (by rw [g2]; exact hy1)
    exact ⟨x, List.mem_filter.2 ⟨hx1, by rw [same x y hx2]; exact hy2⟩, hx2⟩
theorem rng_key (fk tk : Ky) (x y : Tow) (h : x.e.key = y.e.key) : rng fk tk x = rng fk tk y := by unfold rng atOr; rw [h]
theorem t27_info : Try.prog.info? 27 = some Try.t27 := by kernel_rfl
theorem t27_zero : Try.t27.zero = some (.slice none 0 0) := by kernel_rfl
theorem t27_size : Try.t27.size = 1 := by kernel_rfl
theorem t27_bytes : Try.t27.bytes = 24 := by kernel_rfl
theorem make28 (n : Nat) (hn : n ≤ 1000000) (w : World) : ∃ cs : Array Value, (Instr.makeSlice 28 (.int .i64 (n : Int)) (.int .i64 (n : Int))).run Try.prog w = .ok (.slice (some ⟨w.heap.size, 0, none⟩) n n) (w.alloc (.cells cs 27)) ∧ cs.size = n := by
  refine ⟨_, run_makeSlice w 28 27 Try.t27 _ Try.underlying28 t27_info t27_zero .i64 .i64 n n (by omega) (by omega) (by rw [t27_size]; omega) (by rw [t27_bytes]; omega) (by omega), ?_⟩
  rw [size_madeCells, t27_size]
  omega
/-- Rows that may be looked at. -/
structure Good (rs : List Rw) : Prop where
  rows : rs.length ≤ 1000000
  all : sumR rs ≤ 1000000
  size : ∀ x, x ∈ allOf rs → x.e.key.length ≤ 1000000 ∧ x.e.val.length ≤ 1000000
  nil : ∀ x, x ∈ rs → x.a = none → x.c = 0
theorem Good.fine {rs : List Rw} (h : Good rs) : Fine rs := ⟨h.rows, Nat.le_trans (tot_hds rs) h.all, h.size⟩
theorem enters55 : ∀ args w, (callFunc 55 args).run Try.prog w = .ok (.enter 55 args) w := enters_of Try.func55 (by kernel_rfl) rfl
/-- What Between answers. -/
def BetweenOk (rs : List Rw) (fk tk : Ky) (seq : Nat) (n : Int) (R : List Tow) : Prop := (eachOrd rs = true ∧ ∃ xs, Mg (hds rs) xs ∧ R.map (·.e) = (seenO seq none ((xs.filter (rng fk tk)).map (·.e))).take n.toNat) ∨ (eachOrd rs = false ∧ R = [])
theorem first_take {rs : List Rw} {seq : Nat} {n : Int} {N : Nat} {R zs : List Tow} (hu : Up (hds rs)) (hz : Mg (hds rs) zs) (h : FirstOk (fun x : El rs => x.val) (fun ys => ∃ xs, Mg (hds rs) xs ∧ entsOf ys = seenO seq none (xs.map (·.e))) (fun pre => ∃ xs, Mg (hds rs) xs ∧ entsOf pre <+: seenO seq none (xs.map (·.e))) N n R) : R.map (·.e) = (seenO seq none (zs.map (·.e))).take n.toNat := by
  rcases h with ⟨hn, rfl⟩ | ⟨hn, ys, ⟨xs, hx, he⟩, hR, hl⟩ | ⟨hn, ys, ⟨xs, hx, he⟩, hR, hl, _⟩
  · rw [show n.toNat = 0 by omega]; rfl
  · have e := Mg.uniq hu hds_no hx hz
    subst e
    rw [hR, ← he, List.take_of_length_le (by simp [entsOf]; omega)]
    rfl
  · have e := Mg.uniq hu hds_no hx hz
    subst e
    obtain ⟨t, ht⟩ := he
    rw [hR, ← ht, List.take_append_of_le_length (by simp [entsOf]; omega), List.take_of_length_le (by simp [entsOf]; omega)]
    rfl
theorem ord_of_pairwise {R : List Tow} (h : R.Pairwise ltT) : inOrd (ents R) = true := (inOrd_iff _).2 fun j x y hx hy => by
  simp only [ents, List.getElem?_map] at hx hy
  obtain ⟨a, ha, rfl⟩ := Option.map_eq_some_iff.1 hx
  obtain ⟨b, hb, rfl⟩ := Option.map_eq_some_iff.1 hy
  obtain ⟨h1, rfl⟩ := List.getElem?_eq_some_iff.1 ha
  obtain ⟨h2, rfl⟩ := List.getElem?_eq_some_iff.1 hb
  exact List.pairwise_iff_getElem.1 h j (j + 1) h1 h2 (by omega)
theorem between17_any (a : Option Addr) (n c : Nat) (rs : List Rw) (fa ta : Option Addr) (fn fc tn tc : Nat) (fk tk' : Ky) (seq : Nat) (m : Int) (w : World) (h : RowsIn w a rs) (hn : n = rs.length) (hg : Good rs) (hf : Bytes w (.slice fa fn fc) fk) (ht : Bytes w (.slice ta tn tc) tk') :
    Calls Try.prog 17 #[.slice a n c, .slice fa fn fc, .slice ta tn tc, .int .u64 (seq : Nat), .int .i64 m] w fun e w' => ∃ v R, e = .returned (.tuple #[v, .int .i64 (ordE (eachOrd rs))]) ∧ ERow w' w.heap.size v R ∧ Shown w' w.heap.size R ∧ Below w.heap.size w w' ∧ BetweenOk rs fk tk' seq m R := by
  have hmx : n ≤ 1000000 := by have := hg.rows; omega
  have HC := hide (checkEach_any a n c rs w h hn hmx)
  have H0 := hide h
  have HN := hide hn
  have HG := hide hg
  have HF := hide hf
  have HT := hide ht
  clear h hn hg hf ht
  cases ho : eachOrd rs with
  | false =>
    rw [ho] at HC
    have HO := hide ho
    clear ho
    go_enter Try.func17, Try.ntmps17
    go_wp2_with fail
    refine HC.out.mono ?_
    rintro e w1 ⟨rfl, hb⟩
    rw [show ordE false = 2 from rfl]
    go_wp2_with fail
    go_ret2
    exact ⟨_, [], rfl, .inl ⟨rfl, rfl⟩, fun x hx => (by cases hx), hb, .inr ⟨HO.out, rfl⟩⟩
  | true =>
    rw [ho] at HC
    have HO := hide ho
    clear ho
    go_enter Try.func17, Try.ntmps17
    go_wp2_with fail
    refine HC.out.mono ?_
    rintro e w1 ⟨rfl, hb⟩
    rw [show ordE true = 0 from rfl]
    obtain ⟨cs, hmk, hcs⟩ := make28 n hmx w1
    have T1 := hide (Turns.of_below hb (fun _ => False))
    have T2 := hide ((Turns.of_below hb (fun _ => False)).alloc (.cells cs 27))
    have N2 := hide (heap_alloc_new w1 (.cells cs 27))
    have HS1 := hide hb.size
    have HCS := hide hcs
    clear hb hcs
    go_upto_region 5 with (fail)
    generalize hw2 : w1.alloc (.cells cs 27) = w2 at *
    generalize hgp : w1.heap.size = gp at *
    have HGP := hide hgp
    clear hgp hw2 hmk
    go_wp2_with fail
    go_loopw [26] (fun v26 wr => ∃ (i : Nat) (ps : List Rw) (cs : Array Value), v26 = .int .i64 (i : Nat) ∧ i ≤ n ∧ ps.length = i ∧ Parts w (rng fk tk') rs ps ∧ (∀ y, y ∈ ps → y.a = none → y.c = 0) ∧ wr.heap[gp]? = some (.cells cs 27 (0, 0)) ∧ cs.size = n ∧ (∀ (j : Nat) (y : Rw), ps[j]? = some y → cs[j]? = some (Value.slice y.a y.R.length y.c)) ∧ Turns (fun k => k = gp) w2 wr) (fun v26 _ => n - (intOf v26).toNat)
    case atStart => exact ⟨0, [], cs, rfl, Nat.zero_le _, rfl, ⟨Nat.zero_le _, fun i x y _ hy => (by simp at hy)⟩, fun y hy => (by cases hy), N2.out, HCS.out, fun j y hy => (by simp at hy), Turns.refl _ _⟩
    case round =>
      obtain ⟨i, ps, cs1, rfl, hi, hpl, hP, hnil, hgc, hcs1, hcell, hT⟩ := hrel
      have TW := hide (show Turns (fun _ => False) w wr from T2.out.andThen hT fun k hk e => by have := HS1.out; omega)
      have PP := hide hP
      have NI := hide hnil
      have GC := hide hgc
      have CS := hide hcs1
      have CE := hide hcell
      have TR := hide hT
      have PL := hide hpl
      clear hP hnil hgc hcs1 hcell hT hpl
      by_cases hin : i < n
      · obtain ⟨x, hx⟩ : ∃ x, rs[i]? = some x := ⟨_, List.getElem?_eq_getElem (by have := HN.out; omega)⟩
        obtain ⟨⟨b, off, rfl, hc⟩, hok⟩ := H0.out i x hx
        have hc1 := TW.out.cell hc (fun x => x)
        have i1 : (i : Int) < n := by omega
        have i0 : (0 : Int) ≤ i := by omega
        have HX := hide hx
        have BT := hide (between_any x fa ta fn fc tn tc fk tk' wr (hok.quiet TW.out) (HG.out.nil x (List.mem_of_getElem? hx)) (HF.out.quiet TW.out) (HT.out.quiet TW.out) (ord_up HO.out i x hx))
        have HOKX := hide hok
        clear hx hok hc
        obtain ⟨xa, xc, xR⟩ := x
        simp only at *
        generalize hxl : xR.length = xl at hc1 BT
        clear hxl
        go_wp2_with fail
        refine BT.out.mono ?_
        rintro e w3 ⟨x', rfl, hok', hR', hnil', hb3⟩
        have t3 := Turns.of_below hb3 (fun _ => False)
        have hg3 := t3.heap GC.out (fun x => x)
        have hcz := CS.out
        obtain ⟨dv, d0⟩ : ∃ dv, w3.cell? ⟨gp, i, none⟩ = some dv := ⟨_, by rw [cell_of_row w3 gp i _ 27 (0, 0) hg3]; exact Array.getElem?_eq_getElem (by omega)⟩
        have z0 := frozen_of_row w3 gp i _ 27 hg3
        have tk := (Tick.refl hg3).set i (.slice x'.a x'.R.length x'.c)
        have REL := hide (show ∃ (i2 : Nat) (ps : List Rw) (cs : Array Value), i2 = i + 1 ∧ i2 ≤ n ∧ ps.length = i2 ∧ Parts w (rng fk tk') rs ps ∧ (∀ y, y ∈ ps → y.a = none → y.c = 0) ∧ (w3.setCell ⟨gp, i, none⟩ (.slice x'.a x'.R.length x'.c)).heap[gp]? = some (.cells cs 27 (0, 0)) ∧ cs.size = n ∧ (∀ (j : Nat) (y : Rw), ps[j]? = some y → cs[j]? = some (Value.slice y.a y.R.length y.c)) ∧ Turns (fun k => k = gp) w2 (w3.setCell ⟨gp, i, none⟩ (.slice x'.a x'.R.length x'.c)) by
          refine ⟨i + 1, ps ++ [x'], _, rfl, by omega, by rw [List.length_append, PL.out]; rfl, ⟨by rw [List.length_append, PL.out]; have := HN.out; simp; omega, fun j y z hy hz => ?_⟩, fun y hy => ?_, tk.1, by simpa using CS.out, fun j y hy => ?_, (TR.out.trans (t3.mono fun _ _ x => x.elim)).trans (Turns.of_tick tk)⟩
          · rcases Nat.lt_or_ge j ps.length with hj | hj
            · rw [List.getElem?_append_left hj] at hz
              exact PP.out.part j y z hy hz
            · rw [List.getElem?_append_right hj] at hz
              have hj2 : j = i := by
                have := (List.getElem?_eq_some_iff.1 hz).1
                simp at this
                have := PL.out
                omega
              subst hj2
              rw [HX.out] at hy
              cases hy
              rw [PL.out, Nat.sub_self] at hz
              cases hz
              exact ⟨hR', hok' w HOKX.out⟩
          · rcases List.mem_append.1 hy with hy | hy
            · exact NI.out y hy
            · obtain rfl := List.mem_singleton.1 hy
              exact hnil'
          · rw [Array.getElem?_setIfInBounds]
            rcases Nat.lt_or_ge j ps.length with hj | hj
            · rw [List.getElem?_append_left hj] at hy
              rw [if_neg (by have := PL.out; omega)]
              exact CE.out j y hy
            · rw [List.getElem?_append_right hj] at hy
              have hj2 : j = i := by
                have := (List.getElem?_eq_some_iff.1 hy).1
                simp at this
                have := PL.out
                omega
              subst hj2
              rw [PL.out, Nat.sub_self] at hy
              cases hy
              rw [if_pos rfl, if_pos (by omega)])
        clear hok' hR' hnil' hb3 t3 hg3 hcz tk BT
        obtain ⟨xa', xc', xR'⟩ := x'
        simp only at *
        generalize xR'.length = xl' at *
        go_wp2_with fail
        go_roundw
        case rel =>
          obtain ⟨i2, ps, cs, rfl, h1⟩ := REL.out
          exact ⟨i + 1, ps, cs, by go_num, h1⟩
        case measure => simp [intOf]; omega
      · obtain rfl : i = n := by omega
        have hprt : ps.length = rs.length := by rw [PL.out]; exact HN.out
        obtain ⟨xs, hxs⟩ := Mg.exist _ (hds rs) (Nat.le_refl _) (hds_up H0.out (by have := HN.out; omega) HO.out) (fun h hh => (hds_mem H0.out (by have := HN.out; omega) hh).1.ne)
        have hmg := hxs.filter H0.out (rng fk tk') (rng_key fk tk') hprt PP.out
        have hpo : ∀ (j : Nat) (y : Rw), ps[j]? = some y → RwOk w y := fun j y hy => by
          obtain ⟨x, hx⟩ : ∃ x, rs[j]? = some x := ⟨_, List.getElem?_eq_getElem (by have := (List.getElem?_eq_some_iff.1 hy).1; omega)⟩
          exact (PP.out.part j x y hx hy).2
        have hri : RowsIn wr (some ⟨gp, 0, none⟩) ps := fun j y hy => ⟨⟨gp, 0, rfl, by rw [Nat.zero_add, cell_of_row wr gp j _ 27 (0, 0) GC.out]; exact CE.out j y hy⟩, (hpo j y hy).quiet TW.out⟩
        have hps : ∀ y, y ∈ allOf ps → y ∈ allOf rs := fun y hy => by
          obtain ⟨p, hp, hyp⟩ := List.mem_flatMap.1 hy
          obtain ⟨j, hj⟩ := List.getElem?_of_mem hp
          obtain ⟨x, hx⟩ : ∃ x, rs[j]? = some x := ⟨_, List.getElem?_eq_getElem (by have := (List.getElem?_eq_some_iff.1 hj).1; omega)⟩
          rw [(PP.out.part j x p hx hj).1] at hyp
          exact List.mem_flatMap.2 ⟨x, List.mem_of_getElem? hx, (List.mem_filter.1 hyp).1⟩
        have hupp : ∀ (j : Nat) (y : Rw), ps[j]? = some y → y.R.Pairwise ltT := fun j y hy => by
          obtain ⟨x, hx⟩ : ∃ x, rs[j]? = some x := ⟨_, List.getElem?_eq_getElem (by have := (List.getElem?_eq_some_iff.1 hy).1; omega)⟩
          rw [(PP.out.part j x y hx hy).1]
          exact (ord_up HO.out j x hx).filter _
        have HMG := hide hmg
        have HXS := hide hxs
        have HRI := hide hri
        have HPS := hide hps
        have HUPP := hide hupp
        have HPRT := hide hprt
        have HTOT := hide (show tot (hds ps) ≤ 1000000 from Nat.le_trans (tot_hds ps) (Nat.le_trans PP.out.sum HG.out.all))
        clear hmg hxs hpo hri hps hupp hprt
        go_wp2_with fail
        refine (seen_any seq (some ⟨gp, 0, none⟩) i i wr).mono ?_
        rintro e w4 ⟨rfl, hw4⟩
        have t4 : Turns (fun _ => False) wr w4 := by rw [hw4]; exact ((Turns.refl _ wr).alloc _).alloc _
        have nq : w4.heap[wr.heap.size]? = some (.cells #[.int .u64 (seq : Nat)] 23 (0, 0)) := by rw [hw4]; exact (heap_alloc_old _ _ (by simp)).trans (heap_alloc_new wr _)
        have nr : w4.cell? ⟨wr.heap.size + 1, 0, none⟩ = some (.slice (some ⟨gp, 0, none⟩) i i) := by
          rw [hw4]
          have := heap_alloc_new (wr.alloc (.cells #[.int .u64 (seq : Nat)] 23)) (.cells #[.slice (some ⟨gp, 0, none⟩) i i] 28)
          rw [World.size_alloc] at this
          exact cell_of_row _ _ 0 _ 28 (0, 0) this
        have hr4 := HRI.out.quiet t4
        have hFO := firstOf_any TS far_TS (fun x : El ps => x.val) 55 #[.pointer (some ⟨wr.heap.size + 1, 0, none⟩), .pointer (some ⟨wr.heap.size, 0, none⟩)] _ _ (tot (hds ps)) w4 m enters55 (seen_seq 4 (wr.heap.size + 1) wr.heap.size (by decide) seq (some ⟨gp, 0, none⟩) i i ps PL.out.symm hmx HUPP.out w4 hr4 nr nq) (fun x => ⟨(all_bytes hr4 x.2).1, (all_bytes hr4 x.2).2, (HG.out.size x.val (HPS.out _ x.2)).1, (HG.out.size x.val (HPS.out _ x.2)).2⟩) HTOT.out
        have FO := hide hFO
        have BA := hide ((TW.out.trans t4).below (B := w.heap.size) (Nat.le_refl _) (fun _ x => x.elim))
        have hs4 := BA.out.size
        have HUQ := hide (hds_up hr4 (by have := HPRT.out; have := HN.out; omega) (show eachOrd ps = true from List.all_eq_true.2 fun y hy => by
          obtain ⟨j, hj⟩ := List.getElem?_of_mem hy
          exact ord_of_pairwise (HUPP.out j y hj)))
        clear nq nr hr4 t4 hw4 hFO
        go_wp2_with fail
        refine FO.out.mono ?_
        rintro e w5 ⟨v, R, rfl, hE, hS, hb5, hFi⟩
        have FIN := hide (show ERow w5 w.heap.size v R ∧ Shown w5 w.heap.size R ∧ Below w.heap.size w w5 ∧ BetweenOk rs fk tk' seq m R from
          ⟨hE.le hs4, hS.le hs4, then_below BA.out hb5 (Nat.le_refl _), .inl ⟨HO.out, xs, HXS.out, first_take HUQ.out HMG.out hFi⟩⟩)
        clear hE hS hb5 hFi
        go_wp2_with fail
        go_ret2
        exact ⟨v, R, rfl, FIN.out⟩
theorem seen9_any (a : Option Addr) (n c : Nat) (rs : List Rw) (seq : Nat) (w : World) (h : RowsIn w a rs) (hn : n = rs.length) (hg : Good rs) :
    Calls Try.prog 9 #[.slice a n c, .int .u64 (seq : Nat)] w fun e w' => ∃ v R, e = .returned (.tuple #[v, .int .i64 (ordE (eachOrd rs))]) ∧ ERow w' w.heap.size v R ∧ Shown w' w.heap.size R ∧ Below w.heap.size w w' ∧ BetweenOk rs [] [] seq 9223372036854775807 R := by
  have BW := hide (between17_any a n c rs none none 0 0 0 0 [] [] seq 9223372036854775807 w h hn hg (Bytes.empty _) (Bytes.empty _))
  clear h hn hg
  generalize ordE (eachOrd rs) = q at *
  go_enter Try.func9, Try.ntmps9
  go_wp2_with fail
  refine BW.out.mono ?_
  rintro e w1 ⟨v, R, rfl, h1, h2, h3, h4⟩
  have X := hide (show ERow w1 w.heap.size v R ∧ Shown w1 w.heap.size R ∧ Below w.heap.size w w1 ∧ BetweenOk rs [] [] seq 9223372036854775807 R from ⟨h1, h2, h3, h4⟩)
  clear h1 h2 h3 h4
  go_wp2_with fail
  go_ret2
  exact ⟨v, R, rfl, X.out⟩
end Go.Proofs.Ytjnpendihdlgnaa

/-
  Weigh of any entries, and small.
-/
namespace Go.Proofs.Ytjnpendihdlgnaa
open Go.RowKit
set_option maxRecDepth 100000
set_option maxHeartbeats 4000000
/-- A whole number, as the machine keeps it. -/
def w64 (z : Int) : Int := IntKind.i64.wrap z
theorem wr64 (z : Int) : wrap64 z = IntKind.i64.wrap z := by rw [IntKind.wrap_i64]; unfold wrap64; omega
theorem w64_add (a b : Int) : IntKind.i64.wrap (w64 a + b) = w64 (a + b) := by
  unfold w64
  simp only [IntKind.wrap_i64]
  omega
theorem w64_small (z : Int) (h0 : 0 ≤ z) (h1 : z < 9223372036854775808) : w64 z = z := wrapI z (by omega) h1
theorem weighW_any (a : Option Addr) (n c : Nat) (l : List Tow) (w : World) (h : Ents w a l) (hn : n = l.length) (hmx : n ≤ reachBytes) :
    Calls Try.prog 26 #[.slice a n c] w fun e w' => e = .returned (.int .i64 (w64 (weigh l : Nat))) ∧ Turns (fun _ => False) w w' := by
  have HL := hide hn
  have HA := hide h
  unfold reachBytes at hmx
  have hmi : (n : Int) ≤ 140737488355328 := by omega
  clear hn h
  go_enter Try.func26, Try.ntmps26
  go_wp2_with fail
  go_loopw [3, 4] (fun sv iv wr => ∃ k : Nat, sv = .int .i64 (w64 (weigh (l.take k) : Nat)) ∧ iv = .int .i64 (k : Nat) ∧ k ≤ n ∧ Turns (fun _ => False) w wr) (fun _ iv _ => n - (intOf iv).toNat)
  case atStart => exact ⟨0, rfl, rfl, by omega, Turns.refl _ _⟩
  case round =>
    obtain ⟨k, rfl, rfl, hk, ht⟩ := hrel
    have TT := hide ht
    by_cases hk2 : k < n
    · have i1 : (k : Int) < n := by omega
      have i0 : (0 : Int) ≤ (k : Int) := by omega
      have hkl : k < l.length := by have := HL.out; omega
      obtain ⟨⟨b, off, rfl, hc⟩, _⟩ := (HA.out.quiet ht) k l[k] (List.getElem?_eq_getElem hkl)
      have HTK := hide (List.take_succ_eq_append_getElem hkl)
      have hws : weigh (l.take (k + 1)) = weigh (l.take k) + (l[k].e.key.length + l[k].e.val.length) := by rw [HTK.out, weigh_snoc]
      have HWS := hide hws
      generalize l[k] = x at *
      obtain ⟨ka, kc, va, vc, e⟩ := x
      have c0 : wr.cell? ⟨b, off + k * 4, none⟩ = some (.slice ka e.key.length kc) := hc 0 _ rfl
      have c3 : wr.cell? ⟨b, off + k * 4 + 3, none⟩ = some (.slice va e.val.length vc) := hc 3 _ rfl
      clear hc ht hws
      simp only at HWS
      have HQ := hide (show ∀ x y : Int, IntKind.i64.wrap (IntKind.i64.wrap (w64 (weigh (l.take k) : Nat) + x) + y) = w64 ((weigh (l.take k) : Nat) + (x + y)) from fun x y => by
        rw [w64_add]
        unfold w64
        simp only [IntKind.wrap_i64]
        omega)
      generalize hz : w64 (weigh (l.take k) : Nat) = z at *
      clear hz
      go_wp2_with fail
      go_quiet (fail)
      go_wp2
      go_roundw
      case rel =>
        refine ⟨k + 1, ?_, by go_num, by omega, ?_⟩
        · rw [HWS.out, Int.natCast_add, Int.natCast_add, ← HQ.out, wr64, wr64]
        · first
            | exact TT.out.drew
            | exact TT.out.drewN _
      case measure => simp [intOf]; omega
    · have i1 : ¬ (k : Int) < n := by omega
      have hkn : k = n := by omega
      have HK := hide hkn
      clear hk hk2 hkn ht
      go_wp2_with fail
      go_ret
      refine ⟨?_, TT.out⟩
      rw [HK.out, HL.out, List.take_length]
      rfl
def wAll (rs : List Rw) : Nat := (rs.map fun x => weigh x.R).sum
theorem sumR_snoc (l : List Rw) (x : Rw) : sumR (l ++ [x]) = sumR l + x.R.length := by simp [sumR]
theorem wAll_snoc (l : List Rw) (x : Rw) : wAll (l ++ [x]) = wAll l + weigh x.R := by simp [wAll]
/-- Rows as they come in: of whatever length. -/
structure RwIn (w : World) (x : Rw) : Prop where
  ents : Ents w x.a x.R
  cap : x.R.length ≤ x.c
  reach : x.R.length ≤ reachBytes
  fit : ∀ y, y ∈ x.R → Fit y
  nil : x.a = none → x.c = 0
def RowsOf (w : World) (a : Option Addr) (rs : List Rw) : Prop := ∀ (k : Nat) (x : Rw), rs[k]? = some x → (∃ b off, a = some ⟨b, off, none⟩ ∧ w.cell? ⟨b, off + k, none⟩ = some (.slice x.a x.R.length x.c)) ∧ RwIn w x
/-- What small answers. -/
def Small (rs : List Rw) (d : Bool) : Prop := d = true → rs.length ≤ 20 ∧ sumR rs ≤ 150 ∧ wAll rs ≤ 15000
def SaysSmall (rs : List Rw) (e : Ending) : Prop := ∃ d : Bool, e = .returned (.bool d) ∧ Small rs d
theorem sumR_le {M : Nat} : ∀ rs : List Rw, (∀ x, x ∈ rs → x.R.length ≤ M) → sumR rs ≤ rs.length * M
  | [], _ => by simp [sumR]
  | x :: r, h => by
    have h1 := sumR_le r fun y hy => h y (List.mem_cons_of_mem _ hy)
    have h2 := h x (by simp)
    simp only [sumR, List.map_cons, List.sum_cons, List.length_cons, Nat.succ_mul] at h1 ⊢
    omega
theorem wAll_le {M : Nat} : ∀ rs : List Rw, (∀ x, x ∈ rs → ∀ y, y ∈ x.R → y.e.key.length ≤ M ∧ y.e.val.length ≤ M) → wAll rs ≤ sumR rs * (2 * M)
  | [], _ => by simp [wAll]
  | x :: r, h => by
    have h1 := wAll_le r fun y hy => h y (List.mem_cons_of_mem _ hy)
    have h2 := weigh_le x.R (h x (by simp))
    simp only [sumR, wAll, List.map_cons, List.sum_cons, Nat.add_mul] at h1 ⊢
    omega
theorem small_fin {w : World} {a : Option Addr} {rs : List Rw} (h : RowsOf w a rs) (h1 : rs.length ≤ 20) (h2 : w64 (sumR rs : Nat) ≤ 150) (h3 : w64 (wAll rs : Nat) ≤ 15000) : sumR rs ≤ 150 ∧ wAll rs ≤ 15000 := by
  have g1 := sumR_le (M := reachBytes) rs fun x hx => by
    obtain ⟨i, hi⟩ := List.getElem?_of_mem hx
    exact (h i x hi).2.reach
  have g2 : sumR rs ≤ 20 * reachBytes := Nat.le_trans g1 (Nat.mul_le_mul_right _ h1)
  unfold reachBytes at g2
  rw [w64_small _ (by omega) (by omega)] at h2
  have g3 := wAll_le (M := reachBytes) rs fun x hx y hy => by
    obtain ⟨i, hi⟩ := List.getElem?_of_mem hx
    have := (h i x hi).2.fit y hy
    exact ⟨this.2.1, this.2.2⟩
  have g4 : wAll rs ≤ 150 * (2 * reachBytes) := Nat.le_trans g3 (Nat.mul_le_mul_right _ (by omega))
  unfold reachBytes at g4
  rw [w64_small _ (by omega) (by omega)] at h3
  omega
theorem small_any (a : Option Addr) (n c : Nat) (rs : List Rw) (w : World) (h : RowsOf w a rs) (hn : n = rs.length) (hmx : n ≤ reachBytes) :
    Calls Try.prog 13 #[.slice a n c] w fun e w' => SaysSmall rs e ∧ Turns (fun _ => False) w w' := by
  have HN := hide hn
  have H0 := hide h
  unfold reachBytes at hmx
  have hmi : (n : Int) ≤ 140737488355328 := by omega
  clear hn h
  go_enter Try.func13, Try.ntmps13
  go_wp2_with fail
  go_loopw [3, 4, 5] (fun nv bv iv wr => ∃ k : Nat, nv = .int .i64 (w64 (sumR (rs.take k) : Nat)) ∧ bv = .int .i64 (w64 (wAll (rs.take k) : Nat)) ∧ iv = .int .i64 (k : Nat) ∧ k ≤ n ∧ Turns (fun _ => False) w wr) (fun _ _ iv _ => n - (intOf iv).toNat)
  case atStart => exact ⟨0, rfl, rfl, rfl, by omega, Turns.refl _ _⟩
  case round =>
    obtain ⟨k, rfl, rfl, rfl, hk, ht⟩ := hrel
    have TT := hide ht
    clear ht
    by_cases hk2 : k < n
    · have i1 : (k : Int) < n := by omega
      have i0 : (0 : Int) ≤ (k : Int) := by omega
      obtain ⟨x, hx⟩ : ∃ x, rs[k]? = some x := ⟨_, List.getElem?_eq_getElem (by have := HN.out; omega)⟩
      obtain ⟨⟨b, off, rfl, hc⟩, hin⟩ := H0.out k x hx
      have hc1 := TT.out.cell hc (fun x => x)
      have hT : rs.take (k + 1) = rs.take k ++ [x] := by rw [List.take_add_one, hx]; rfl
      have HS := hide (show (sumR (rs.take (k + 1)) : Int) = sumR (rs.take k) + x.R.length by rw [hT, sumR_snoc]; omega)
      have HW := hide (show (wAll (rs.take (k + 1)) : Int) = wAll (rs.take k) + weigh x.R by rw [hT, wAll_snoc]; omega)
      have CW := hide (fun (u : World) (t : Turns (fun _ => False) wr u) => weighW_any x.a x.R.length x.c x.R u (hin.ents.quiet (TT.out.trans t)) rfl hin.reach)
      have HQ1 := hide (w64_add (sumR (rs.take k) : Nat) x.R.length)
      have HQ2 := hide (show IntKind.i64.wrap (w64 (wAll (rs.take k) : Nat) + w64 (weigh x.R : Nat)) = w64 ((wAll (rs.take k) : Nat) + (weigh x.R : Nat)) by
        rw [w64_add]
        unfold w64
        simp only [IntKind.wrap_i64]
        omega)
      clear hc hx hin hT
      obtain ⟨xa, xc, xR⟩ := x
      simp only at *
      generalize w64 (sumR (rs.take k) : Nat) = zn at *
      generalize w64 (wAll (rs.take k) : Nat) = zb at *
      generalize w64 (weigh xR : Nat) = zw at *
      generalize xR.length = xl at *
      go_upto_region 5 with (fail)
      have tV : Turns (fun _ => False) wr wr.drew := (Turns.refl _ _).drew
      have SK := hide (fun (u : World) (t : Turns (fun _ => False) wr u) => show u.cell? ⟨b, off + k, none⟩ = some (.slice xa xl xc) from t.cell hc1 (fun x => x))
      refine wp_region_held_drew (S := fun u => u.cell? ⟨b, off + k, none⟩ = some (.slice xa xl xc)) (by kernel_rfl) (SK.out _ tV) (fun _ => ?_)
      change wpAnyH _ _ _ _ _ 16 (Array.replicate 16 false) _ _
      refine wpAnyH_take (i := 0) (oi := { dst := some 12, op := Op.move (Operand.tmp 3), type := 3, pos := "law.go:45", after := #[], guard := none }) (v := .int .i64 zn) rfl (by kernel_rfl) (by kernel_rfl) (by kernel_rfl) (fun _ _ _ h => h) (Or.inl ⟨by rfl, ?_⟩) (SK.out _ tV) ?_
      · rintro w d0
        go_simp
      simp only [Act.put, List.setIfInBounds_toArray, List.set_cons_zero, List.set_cons_succ]
      refine wpAnyH_take (i := 1) (oi := { dst := some 13, op := Op.move (Operand.tmp 0), type := 28, pos := "law.go:45", after := #[], guard := none }) (v := .slice (some ⟨b, off, none⟩) n c) rfl (by kernel_rfl) (by kernel_rfl) (by kernel_rfl) (fun _ _ _ h => h) (Or.inl ⟨by rfl, ?_⟩) (SK.out _ tV) ?_
      · rintro w d0
        go_simp
      simp only [Act.put, List.setIfInBounds_toArray, List.set_cons_zero, List.set_cons_succ]
      refine wpAnyH_take (i := 2) (oi := { dst := some 14, op := Op.move (Operand.tmp 5), type := 3, pos := "law.go:45", after := #[], guard := none }) (v := .int .i64 (k : Nat)) rfl (by kernel_rfl) (by kernel_rfl) (by kernel_rfl) (fun _ _ _ h => h) (Or.inl ⟨by rfl, ?_⟩) (SK.out _ tV) ?_
      · rintro w d0
        go_simp
      simp only [Act.put, List.setIfInBounds_toArray, List.set_cons_zero, List.set_cons_succ]
      refine wpAnyH_take (i := 3) (oi := { dst := some 15, op := Op.indexAddr 28 (Operand.tmp 13) (Operand.tmp 14), type := 0, pos := "law.go:45", after := #[{ on := 1, ground := Ground.data }, { on := 2, ground := Ground.data }], guard := none }) (v := .pointer (some ⟨b, off + k, none⟩)) rfl (by kernel_rfl) (by kernel_rfl) (by kernel_rfl) (fun _ _ _ h => h) (Or.inl ⟨by rfl, ?_⟩) (SK.out _ tV) ?_
      · rintro w d0
        go_simp
      simp only [Act.put, List.setIfInBounds_toArray, List.set_cons_zero, List.set_cons_succ]
      refine wpAnyH_take (i := 4) (oi := { dst := some 16, op := Op.load 27 (Operand.tmp 15), type := 27, pos := "law.go:45", after := #[{ on := 3, ground := Ground.data }], guard := none }) (v := .slice xa xl xc) rfl (by kernel_rfl) (by kernel_rfl) (by kernel_rfl) (fun _ _ _ h => h) (Or.inl ⟨by rfl, ?_⟩) (SK.out _ tV) ?_
      · rintro w d0
        go_simp
      simp only [Act.put, List.setIfInBounds_toArray, List.set_cons_zero, List.set_cons_succ]
      refine wpAnyH_take (i := 5) (oi := { dst := some 17, op := Op.call { callee := Callee.builtin Builtin.len, args := #[Operand.tmp 16], argTypes := #[27] }, type := 3, pos := "law.go:45", after := #[{ on := 4, ground := Ground.data }], guard := none }) (v := .int .i64 (xl : Nat)) rfl (by kernel_rfl) (by kernel_rfl) (by kernel_rfl) (fun _ _ _ h => h) (Or.inl ⟨by rfl, ?_⟩) (SK.out _ tV) ?_
      · rintro w d0
        go_simp
      simp only [Act.put, List.setIfInBounds_toArray, List.set_cons_zero, List.set_cons_succ]
      refine wpAnyH_take (i := 6) (oi := { dst := some 18, op := Op.binOp BinOp.add 3 (Operand.tmp 12) (Operand.tmp 17) 3, type := 3, pos := "law.go:45", after := #[{ on := 0, ground := Ground.data }, { on := 5, ground := Ground.data }], guard := none }) (v := .int .i64 (IntKind.i64.wrap (zn + (xl : Nat)))) rfl (by kernel_rfl) (by kernel_rfl) (by kernel_rfl) (fun _ _ _ h => h) (Or.inl ⟨by rfl, ?_⟩) (SK.out _ tV) ?_
      · rintro w d0
        go_simp
      simp only [Act.put, List.setIfInBounds_toArray, List.set_cons_zero, List.set_cons_succ]
      refine wpAnyH_take (i := 7) (oi := { dst := some 19, op := Op.move (Operand.tmp 4), type := 3, pos := "law.go:45", after := #[{ on := 14, ground := Ground.gcOnly Departure.lateStores }], guard := none }) (v := .int .i64 zb) rfl (by kernel_rfl) (by kernel_rfl) (by kernel_rfl) (fun _ _ _ h => h) (Or.inl ⟨by rfl, ?_⟩) (SK.out _ tV) ?_
      · rintro w d0
        go_simp
      simp only [Act.put, List.setIfInBounds_toArray, List.set_cons_zero, List.set_cons_succ]
      refine wpAnyH_take (i := 8) (oi := { dst := some 20, op := Op.move (Operand.tmp 0), type := 28, pos := "law.go:45", after := #[], guard := none }) (v := .slice (some ⟨b, off, none⟩) n c) rfl (by kernel_rfl) (by kernel_rfl) (by kernel_rfl) (fun _ _ _ h => h) (Or.inl ⟨by rfl, ?_⟩) (SK.out _ tV) ?_
      · rintro w d0
        go_simp
      simp only [Act.put, List.setIfInBounds_toArray, List.set_cons_zero, List.set_cons_succ]
      refine wpAnyH_take (i := 9) (oi := { dst := some 21, op := Op.move (Operand.tmp 5), type := 3, pos := "law.go:45", after := #[], guard := none }) (v := .int .i64 (k : Nat)) rfl (by kernel_rfl) (by kernel_rfl) (by kernel_rfl) (fun _ _ _ h => h) (Or.inl ⟨by rfl, ?_⟩) (SK.out _ tV) ?_
      · rintro w d0
        go_simp
      simp only [Act.put, List.setIfInBounds_toArray, List.set_cons_zero, List.set_cons_succ]
      refine wpAnyH_take (i := 10) (oi := { dst := some 22, op := Op.indexAddr 28 (Operand.tmp 20) (Operand.tmp 21), type := 0, pos := "law.go:45", after := #[{ on := 8, ground := Ground.data }, { on := 9, ground := Ground.data }], guard := none }) (v := .pointer (some ⟨b, off + k, none⟩)) rfl (by kernel_rfl) (by kernel_rfl) (by kernel_rfl) (fun _ _ _ h => h) (Or.inl ⟨by rfl, ?_⟩) (SK.out _ tV) ?_
      · rintro w d0
        go_simp
      simp only [Act.put, List.setIfInBounds_toArray, List.set_cons_zero, List.set_cons_succ]
      refine wpAnyH_take (i := 11) (oi := { dst := some 23, op := Op.load 27 (Operand.tmp 22), type := 27, pos := "law.go:45", after := #[{ on := 10, ground := Ground.data }], guard := none }) (v := .slice xa xl xc) rfl (by kernel_rfl) (by kernel_rfl) (by kernel_rfl) (fun _ _ _ h => h) (Or.inl ⟨by rfl, ?_⟩) (SK.out _ tV) ?_
      · rintro w d0
        go_simp
      simp only [Act.put, List.setIfInBounds_toArray, List.set_cons_zero, List.set_cons_succ]
      refine wpAnyH_ready (rs := [12]) (by kernel_rfl) (by simp) ?_
      refine AllReadyH.cons rfl (fun K hK => ?_) AllReadyH.nil
      go_simp
      refine (CW.out _ tV).mono ?_
      rintro oo Vn ⟨rfl, b2⟩
      have tV := tV.trans b2
      clear b2 CW
      go_simp
      refine hK.out _ _ (SK.out _ tV) (fun _ => ?_)
      clear hK K
      refine wpAnyH_take (i := 13) (oi := { dst := some 25, op := Op.binOp BinOp.add 3 (Operand.tmp 19) (Operand.tmp 24) 3, type := 3, pos := "law.go:45", after := #[{ on := 7, ground := Ground.data }, { on := 12, ground := Ground.data }, { on := 14, ground := Ground.gcOnly Departure.lateStores }], guard := none }) (v := .int .i64 (IntKind.i64.wrap (zb + zw))) rfl (by kernel_rfl) (by kernel_rfl) (by kernel_rfl) (fun _ _ _ h => h) (Or.inl ⟨by rfl, ?_⟩) (SK.out _ tV) ?_
      · rintro w d0
        go_simp
      simp only [Act.put, List.setIfInBounds_toArray, List.set_cons_zero, List.set_cons_succ]
      refine wpAnyH_take (i := 14) (oi := { dst := some 3, op := Op.assign (Operand.tmp 18), type := 3, pos := "law.go:45", after := #[{ on := 6, ground := Ground.data }, { on := 12, ground := Ground.chain }, { on := 0, ground := Ground.phase }, { on := 1, ground := Ground.phase }, { on := 2, ground := Ground.phase }, { on := 3, ground := Ground.phase }, { on := 4, ground := Ground.phase }, { on := 5, ground := Ground.phase }, { on := 6, ground := Ground.phase }, { on := 7, ground := Ground.textOnly Departure.lateStores }, { on := 8, ground := Ground.textOnly Departure.lateStores }, { on := 9, ground := Ground.textOnly Departure.lateStores }, { on := 10, ground := Ground.textOnly Departure.lateStores }, { on := 11, ground := Ground.textOnly Departure.lateStores }, { on := 12, ground := Ground.textOnly Departure.lateStoresUnsure }, { on := 13, ground := Ground.textOnly Departure.lateStores }], guard := none }) (v := .int .i64 (IntKind.i64.wrap (zn + (xl : Nat)))) rfl (by kernel_rfl) (by kernel_rfl) (by kernel_rfl) (fun _ _ _ h => h) (Or.inl ⟨by rfl, ?_⟩) (SK.out _ tV) ?_
      · rintro w d0
        go_simp
      simp only [Act.put, List.setIfInBounds_toArray, List.set_cons_zero, List.set_cons_succ]
      refine wpAnyH_take (i := 15) (oi := { dst := some 4, op := Op.assign (Operand.tmp 25), type := 3, pos := "law.go:45", after := #[{ on := 13, ground := Ground.data }, { on := 14, ground := Ground.chain }, { on := 0, ground := Ground.phase }, { on := 1, ground := Ground.phase }, { on := 2, ground := Ground.phase }, { on := 3, ground := Ground.phase }, { on := 4, ground := Ground.phase }, { on := 5, ground := Ground.phase }, { on := 6, ground := Ground.phase }, { on := 7, ground := Ground.phase }, { on := 8, ground := Ground.phase }, { on := 9, ground := Ground.phase }, { on := 10, ground := Ground.phase }, { on := 11, ground := Ground.phase }, { on := 12, ground := Ground.phase }, { on := 13, ground := Ground.phase }, { on := 14, ground := Ground.phase }], guard := none }) (v := .int .i64 (IntKind.i64.wrap (zb + zw))) rfl (by kernel_rfl) (by kernel_rfl) (by kernel_rfl) (fun _ _ _ h => h) (Or.inl ⟨by rfl, ?_⟩) (SK.out _ tV) ?_
      · rintro w d0
        go_simp
      simp only [Act.put, List.setIfInBounds_toArray, List.set_cons_zero, List.set_cons_succ]
      refine wpAnyH_done (by kernel_rfl) ?_ _
      have TV := hide tV
      clear tV
      go_wp2_with fail
      go_roundw
      case rel =>
        refine ⟨k + 1, ?_, ?_, by go_num, by omega, TT.out.trans TV.out⟩
        · rw [HS.out, ← HQ1.out]
        · rw [HW.out, ← HQ2.out]
      case measure => simp [intOf]; omega
    · have i1 : ¬ (k : Int) < n := by omega
      obtain rfl : k = n := by omega
      have hfin := small_fin H0.out
      have hlen := HN.out
      have htk : rs.take k = rs := by rw [HN.out, List.take_length]
      rw [htk]
      have HFIN := hide hfin
      have HLEN := hide hlen
      clear hfin hlen htk hk hk2
      generalize w64 (sumR rs : Nat) = zn at *
      generalize w64 (wAll rs : Nat) = zb at *
      by_cases h1 : (k : Int) ≤ 20
      · by_cases h2 : zn ≤ 150
        · by_cases h3 : zb ≤ 15000
          · go_wp2_with fail
            go_ret
            exact ⟨⟨true, rfl, fun _ => ⟨by have := HLEN.out; omega, HFIN.out (by have := HLEN.out; omega) h2 h3⟩⟩, TT.out⟩
          · go_wp2_with fail
            go_ret
            exact ⟨⟨false, rfl, fun e => (by cases e)⟩, TT.out⟩
        · go_wp2_with fail
          go_ret
          exact ⟨⟨false, rfl, fun e => (by cases e)⟩, TT.out⟩
      · go_wp2_with fail
        go_ret
        exact ⟨⟨false, rfl, fun e => (by cases e)⟩, TT.out⟩
end Go.Proofs.Ytjnpendihdlgnaa

/-
  Entries in memory of their own.
-/
namespace Go.Proofs.Ytjnpendihdlgnaa
open Go.RowKit
set_option maxRecDepth 100000
set_option maxHeartbeats 4000000
/-- Each key lies in a row of its own. -/
def Keyed (w : World) (R : List Tow) : Prop := ∀ x, x ∈ R → ∃ g, x.ka = some ⟨g, 0, none⟩ ∧ RowB w g x.kc x.e.key
theorem Keyed.keep {S : Nat → Prop} {w w' : World} {R : List Tow} (h : Keyed w R) (t : Turns S w w') (hS : ∀ x, x ∈ R → ∀ q, x.bytesIn q → ¬ S q) : Keyed w' R := fun x hx => by
  obtain ⟨g, h1, h2⟩ := h x hx
  exact ⟨g, h1, h2.turns t (hS x hx g (.inl ⟨_, h1, rfl⟩))⟩
theorem ownEntries_any (a : Option Addr) (n c : Nat) (l : List Tow) (w : World) (h : Ents w a l) (hn : n = l.length) (hl : l.length ≤ 100000) (hf : ∀ x, x ∈ l → x.e.key.length ≤ 1000000 ∧ x.e.val.length ≤ 1000000) :
    Calls Try.prog 35 #[.slice a n c] w fun o w' => ∃ v, o = .returned v ∧ ∃ R, ERow w' w.heap.size v R ∧ Shown w' w.heap.size R ∧ R.map (·.e) = l.map (·.e) ∧ Keyed w' R ∧ Below w.heap.size w w' := by
  have HE := hide h
  have HF := hide hf
  have HN := hide hn
  clear h hf hn
  go_enter Try.func35, Try.ntmps35
  go_wp2_with fail
  go_loopw [3, 4] (fun ov iv wr => ∃ (k : Nat) (R : List Tow), iv = .int .i64 (k : Nat) ∧ k ≤ l.length ∧ ERow wr w.heap.size ov R ∧ Shown wr w.heap.size R ∧ R.map (·.e) = (l.take k).map (·.e) ∧ Below w.heap.size w wr ∧ (∀ x, x ∈ R → ∀ q, x.bytesIn q → ¬ inRow ov q) ∧ Keyed wr R) (fun _ iv _ => l.length - (intOf iv).toNat)
  case atStart => exact ⟨0, [], rfl, Nat.zero_le _, .inl ⟨rfl, rfl⟩, fun x hx => (by cases hx), rfl, Below.refl _ _, fun x hx => (by cases hx), fun x hx => (by cases hx)⟩
  case round =>
    obtain ⟨k, R, rfl, hkl, hrow, hsh, hm, hbw, hap, hky⟩ := hrel
    have HAP := hide hap
    have HKY := hide hky
    clear hap hky
    obtain ⟨oa, oc, rfl⟩ := hrow.len
    have hRl : R.length = k := by
      have := congrArg List.length hm
      simp only [List.length_map, List.length_take] at this
      omega
    have HROW := hide hrow
    have HSH := hide hsh
    have HM := hide hm
    have BW := hide hbw
    have HRL := hide hRl
    have hsz := hbw.size
    clear hrow hsh hm hbw hRl
    by_cases h1 : k < l.length
    · have i1 : (k : Int) < (n : Nat) := by have := HN.out; omega
      have i0 : (0 : Int) ≤ (k : Int) := by omega
      obtain ⟨y, hy⟩ : ∃ y, l[k]? = some y := ⟨_, List.getElem?_eq_getElem h1⟩
      obtain ⟨⟨b, off, rfl, hc⟩, k1, k2⟩ := (HE.out.quiet (Turns.of_below BW.out _)) k y hy
      have hyk := HF.out y (List.mem_of_getElem? hy)
      have HTK : Hid ((l.take (k + 1)).map (·.e) = (l.take k).map (·.e) ++ [y.e]) := hide (by rw [List.take_add_one, hy, List.map_append]; rfl)
      obtain ⟨xa, xc, xv, xvc, e⟩ := y
      have c0 : wr.cell? ⟨b, off + k * 4, none⟩ = some (.slice xa e.key.length xc) := hc 0 _ rfl
      have c1 : wr.cell? ⟨b, off + k * 4 + 1, none⟩ = some (.int .u64 (e.seq : Nat)) := hc 1 _ rfl
      have c2 : wr.cell? ⟨b, off + k * 4 + 2, none⟩ = some (.int .i64 e.kind) := hc 2 _ rfl
      have c3 : wr.cell? ⟨b, off + k * 4 + 3, none⟩ = some (.slice xv e.val.length xvc) := hc 3 _ rfl
      have K1 := hide (show Bytes wr (.slice xa e.key.length xc) e.key from k1)
      have K2 := hide (show Bytes wr (.slice xv e.val.length xvc) e.val from k2)
      clear hc k1 k2 hy
      obtain ⟨hkn, hvn⟩ := hyk
      change e.key.length ≤ 1000000 at hkn
      change e.val.length ≤ 1000000 at hvn
      go_upto_region 6 with (fail)
      have HX0 := hide (heap_alloc_new wr (.cells #[.slice xa e.key.length xc, .int .u64 (e.seq : Nat), .int .i64 e.kind, .slice xv e.val.length xvc] 25))
      have T0 := hide ((Turns.refl (fun _ => False) wr).alloc (.cells #[.slice xa e.key.length xc, .int .u64 (e.seq : Nat), .int .i64 e.kind, .slice xv e.val.length xvc] 25))
      have K1 := hide (K1.out.quiet T0.out)
      have K2 := hide (K2.out.quiet T0.out)
      have hgl : wr.heap.size < (wr.alloc (.cells #[.slice xa e.key.length xc, .int .u64 (e.seq : Nat), .int .i64 e.kind, .slice xv e.val.length xvc] 25)).heap.size := by simp
      clear c0 c1 c2 c3
      generalize wr.alloc (.cells #[.slice xa e.key.length xc, .int .u64 (e.seq : Nat), .int .i64 e.kind, .slice xv e.val.length xvc] 25) = wa at *
      generalize hGE : wr.heap.size = g at HX0 hgl ⊢
      have HGE := hide hGE
      clear hGE
      go_cut [16] from 17 to 27 (fun _ wx => ∃ (g1 c1 g2 c2 : Nat), wx.heap[g]? = some (.cells #[.slice (some ⟨g1, 0, none⟩) e.key.length c1, .int .u64 (e.seq : Nat), .int .i64 e.kind, .slice (some ⟨g2, 0, none⟩) e.val.length c2] 25 (0, 0)) ∧ RowB wx g1 c1 e.key ∧ RowB wx g2 c2 e.val ∧ wa.heap.size ≤ g1 ∧ wa.heap.size ≤ g2 ∧ Turns (fun k => k = g) wa wx)
      case first =>
        rename_i kk rest jj kk' m1 m2
        clear rest
        have tV : Turns (fun _ => False) wa wa.drew := (Turns.refl _ _).drew
        have HX := hide HX0.out
        have HK := hide (fun u (t : Turns (fun _ => False) wa u) => K1.out.quiet t)
        have HV := hide (fun u (t : Turns (fun _ => False) wa u) => K2.out.quiet t)
        have SK := hide (fun u (t : Turns (fun _ => False) wa u) => show u.cell? ⟨g, 0, none⟩ = some (.slice xa e.key.length xc) ∧ u.cell? ⟨g, 3, none⟩ = some (.slice xv e.val.length xvc) from ⟨cell_of_row u g 0 _ 25 (0, 0) (t.heap HX0.out (fun x => x)), cell_of_row u g 3 _ 25 (0, 0) (t.heap HX0.out (fun x => x))⟩)
        refine wp_region_x_drew [6, 7, 8, 9] (S := fun w' => w'.cell? ⟨g, 0, none⟩ = some (.slice xa e.key.length xc) ∧ w'.cell? ⟨g, 3, none⟩ = some (.slice xv e.val.length xvc)) (by kernel_rfl) (SK.out _ tV) (fun _ => ?_)
        change wpAnyX _ _ _ _ _ _ 10 (Array.replicate 10 false) _ _
        refine wpAnyX_take (i := 0) (oi := { dst := some 16, op := Op.fieldAddr 25 (Operand.tmp 5) 0, type := 0, pos := "kit.go:54", after := #[], guard := none }) (v := .pointer (some ⟨g, 0, none⟩)) rfl (by kernel_rfl) (by kernel_rfl) (by kernel_rfl) (by kernel_rfl) (by kernel_rfl) (fun _ _ _ h => h) (Or.inl ⟨by rfl, ?_⟩) (SK.out _ tV) ?_
        · rintro w ⟨d0, d3⟩
          go_simp
        simp only [Act.put, List.setIfInBounds_toArray, List.set_cons_zero, List.set_cons_succ]
        refine wpAnyX_take (i := 1) (oi := { dst := some 17, op := Op.load 22 (Operand.tmp 16), type := 22, pos := "kit.go:54", after := #[{ on := 0, ground := Ground.data }], guard := none }) (v := .slice xa e.key.length xc) rfl (by kernel_rfl) (by kernel_rfl) (by kernel_rfl) (by kernel_rfl) (by kernel_rfl) (fun _ _ _ h => h) (Or.inl ⟨by rfl, ?_⟩) (SK.out _ tV) ?_
        · rintro w ⟨d0, d3⟩
          go_simp
        simp only [Act.put, List.setIfInBounds_toArray, List.set_cons_zero, List.set_cons_succ]
        refine wpAnyX_take (i := 3) (oi := { dst := some 19, op := Op.fieldAddr 25 (Operand.tmp 5) 3, type := 0, pos := "kit.go:54", after := #[], guard := none }) (v := .pointer (some ⟨g, 3, none⟩)) rfl (by kernel_rfl) (by kernel_rfl) (by kernel_rfl) (by kernel_rfl) (by kernel_rfl) (fun _ _ _ h => h) (Or.inl ⟨by rfl, ?_⟩) (SK.out _ tV) ?_
        · rintro w ⟨d0, d3⟩
          go_simp
        simp only [Act.put, List.setIfInBounds_toArray, List.set_cons_zero, List.set_cons_succ]
        refine wpAnyX_take (i := 4) (oi := { dst := some 20, op := Op.load 22 (Operand.tmp 19), type := 22, pos := "kit.go:54", after := #[{ on := 3, ground := Ground.data }], guard := none }) (v := .slice xv e.val.length xvc) rfl (by kernel_rfl) (by kernel_rfl) (by kernel_rfl) (by kernel_rfl) (by kernel_rfl) (fun _ _ _ h => h) (Or.inl ⟨by rfl, ?_⟩) (SK.out _ tV) ?_
        · rintro w ⟨d0, d3⟩
          go_simp
        simp only [Act.put, List.setIfInBounds_toArray, List.set_cons_zero, List.set_cons_succ]
        refine wpAnyX_ready (rs := [2]) (by kernel_rfl) (by simp) ?_
        refine AllReadyX.cons rfl (fun K hK => ?_) AllReadyX.nil
        go_simp
        refine (own_any xa e.key.length xc e.key _ (HK.out _ tV) hkn).mono ?_
        rintro o w1 ⟨g1, c1, rfl, hg1, hc1, hrow1, b1⟩
        have tV1 := tV.trans (Turns.of_below b1 (fun _ => False))
        have R1 := hide hrow1
        have HG1 := hide hg1
        clear hrow1 hg1 b1
        go_simp
        refine hK.out _ _ (SK.out _ tV1) (fun _ => ?_)
        clear hK K
        refine wpAnyX_late (i := 6) (oi := { dst := some 22, op := Op.fieldAddr 25 (Operand.tmp 5) 0, type := 0, pos := "kit.go:54", after := #[{ on := 0, ground := Ground.phase }, { on := 1, ground := Ground.phase }, { on := 2, ground := Ground.phase }, { on := 3, ground := Ground.phase }, { on := 4, ground := Ground.phase }, { on := 5, ground := Ground.textOnly Departure.lateStoresUnsure }], guard := none }) (v := .pointer (some ⟨g, 0, none⟩)) rfl (by kernel_rfl) (by kernel_rfl) (by kernel_rfl) (by kernel_rfl) (fun _ _ _ h => h) (Or.inl ⟨by rfl, ?_⟩) ?_
        · rintro w -
          go_simp
        simp only [Act.put, List.setIfInBounds_toArray, List.set_cons_zero, List.set_cons_succ]
        refine wpAnyX_ready (rs := [5]) (by kernel_rfl) (by simp) ?_
        refine AllReadyX.cons rfl (fun K hK => ?_) AllReadyX.nil
        go_simp
        refine (own_any xv e.val.length xvc e.val _ (HV.out _ tV1) hvn).mono ?_
        rintro o w2 ⟨g2, c2, rfl, hg2, hc2, hrow2, b2⟩
        have tV2 := tV1.trans (Turns.of_below b2 (fun _ => False))
        have R1 := hide (R1.out.below b2)
        have R2 := hide hrow2
        have HG2 := hide hg2
        have HB2 := hide b2.size
        clear hrow2 hg2 b2
        go_simp
        refine hK.out _ _ (SK.out _ tV2) (fun _ => ?_)
        clear hK K
        have hbx := tV2.heap HX.out (fun x => x)
        have T1 := hide ((Tick.refl hbx).set 0 (.slice (some ⟨g1, 0, none⟩) e.key.length c1))
        have q0 := cell_of_row _ g 0 _ 25 (0, 0) hbx
        have f0 := frozen_of_row _ g 0 _ 25 hbx
        refine wpAnyX_ready (rs := [7]) (by kernel_rfl) (by simp) ?_
        refine AllReadyX.free rfl (by kernel_rfl) (fun K hK => ?_) AllReadyX.nil
        go_simp
        refine hK.out _ _ ?_
        clear hK K hbx q0 f0
        have T2 := hide (T1.out.set 3 (.slice (some ⟨g2, 0, none⟩) e.val.length c2))
        have q3 := T1.out.cell 3
        have f3 := T1.out.frozen 3
        clear T1
        simp at q3
        generalize w2.setCell ⟨g, 0, none⟩ (.slice (some ⟨g1, 0, none⟩) e.key.length c1) = w3 at *
        refine wpAnyX_late (i := 8) (oi := { dst := some 23, op := Op.fieldAddr 25 (Operand.tmp 5) 3, type := 0, pos := "kit.go:54", after := #[{ on := 0, ground := Ground.phase }, { on := 1, ground := Ground.phase }, { on := 2, ground := Ground.phase }, { on := 3, ground := Ground.phase }, { on := 4, ground := Ground.phase }, { on := 5, ground := Ground.phase }, { on := 6, ground := Ground.phase }, { on := 7, ground := Ground.phase }], guard := none }) (v := .pointer (some ⟨g, 3, none⟩)) rfl (by kernel_rfl) (by kernel_rfl) (by kernel_rfl) (by kernel_rfl) (fun _ _ _ h => h) (Or.inl ⟨by rfl, ?_⟩) ?_
        · rintro w -
          go_simp
        simp only [Act.put, List.setIfInBounds_toArray, List.set_cons_zero, List.set_cons_succ]
        refine wpAnyX_ready (rs := [9]) (by kernel_rfl) (by simp) ?_
        refine AllReadyX.free rfl (by kernel_rfl) (fun K hK => ?_) AllReadyX.nil
        go_simp
        refine hK.out _ _ ?_
        clear hK K q3 f3
        generalize w3.setCell ⟨g, 3, none⟩ (.slice (some ⟨g2, 0, none⟩) e.val.length c2) = w4 at *
        refine wpAnyX_done (by kernel_rfl) ?_ _
        go_wp2_with fail
        go_meet
        have t2 := tV2.size
        have t1 := tV1.size
        have e1 := HG1.out
        have e2 := HG2.out
        have hwd : wa.drew.heap.size = wa.heap.size := rfl
        exact ⟨g1, c1, g2, c2, T2.out.1, R1.out.turns (Turns.of_tick T2.out) (show ¬ g1 = g by omega), R2.out.turns (Turns.of_tick T2.out) (show ¬ g2 = g by omega), by omega, by omega, (tV2.mono fun _ _ x => x.elim).trans (Turns.of_tick T2.out)⟩
      case rest =>
        obtain ⟨g1, c1, g2, c2, hbx, hr1, hr2, hg1, hg2, hT⟩ := hcut
        have d0 := cell_of_row wc g 0 _ 25 (0, 0) hbx
        have d1 := cell_of_row wc g 1 _ 25 (0, 0) hbx
        have d2 := cell_of_row wc g 2 _ 25 (0, 0) hbx
        have d3 := cell_of_row wc g 3 _ 25 (0, 0) hbx
        simp at d0 d1 d2 d3
        have R1 := hide hr1
        have R2 := hide hr2
        have tc : Turns (fun _ => False) wr wc := ⟨hT.os.trans T0.out.os, hT.tape.trans T0.out.tape, hT.output.trans T0.out.output, Nat.le_trans T0.out.size hT.size, fun k hk _ => (hT.block k (Nat.lt_of_lt_of_le hk T0.out.size) (by have := HGE.out; omega)).trans (T0.out.block k hk (fun x => x))⟩
        have ta : Turns (fun _ => False) wr (wc.alloc (.cells #[.slice (some ⟨g1, 0, none⟩) e.key.length c1, .int .u64 (e.seq : Nat), .int .i64 e.kind, .slice (some ⟨g2, 0, none⟩) e.val.length c2] 25)) := tc.alloc _
        obtain ⟨g', n', c', w8, hr8, hrow8, t8, b8, hin8⟩ := append_ent _ w.heap.size (.slice oa R.length oc) R (HROW.out.keep ta (fun _ _ x => x)) (by have := ta.size; omega) (by have := HRL.out; omega) ⟨some ⟨g1, 0, none⟩, c1, some ⟨g2, 0, none⟩, c2, e⟩ wc.heap.size 1 (heap_alloc_new wc _)
        have hq := hr8 27
        have tA := (Turns.refl (fun _ => False) wc).alloc (.cells #[.slice (some ⟨g1, 0, none⟩) e.key.length c1, .int .u64 (e.seq : Nat), .int .i64 e.kind, .slice (some ⟨g2, 0, none⟩) e.val.length c2] 25)
        have hRow : ∀ k, inRow (.slice oa R.length oc) k → w.heap.size ≤ k ∧ k < wr.heap.size := fun k hk => HROW.out.row hk
        have hs8 := t8.size
        have hsA := tA.size
        have l1 : g1 < wc.heap.size := by obtain ⟨cs, h1, _⟩ := R1.out; exact lt_of_heap h1
        have l2 : g2 < wc.heap.size := by obtain ⟨cs, h1, _⟩ := R2.out; exact lt_of_heap h1
        have l3 := T0.out.size
        have l4 := tc.size
        have l5 := HGE.out
        have hnot : ∀ q, wa.heap.size ≤ q → ¬ inRow (.slice oa R.length oc) q := fun q hq hk => by have := (hRow q hk).2; omega
        have hA8 : (wc.alloc (.cells #[.slice (some ⟨g1, 0, none⟩) e.key.length c1, .int .u64 (e.seq : Nat), .int .i64 e.kind, .slice (some ⟨g2, 0, none⟩) e.val.length c2] 25)).heap.size = wc.heap.size + 1 := by simp
        have HS8 := hide (show Shown w8 w.heap.size (R ++ [⟨some ⟨g1, 0, none⟩, c1, some ⟨g2, 0, none⟩, c2, e⟩]) from fun x hx => by
          rcases List.mem_append.1 hx with hx | hx
          · exact ((HSH.out.keep ta (fun _ _ _ _ x => x)).keep t8 (fun y hy q hq => HAP.out y hy q hq)) x hx
          · obtain rfl := List.mem_singleton.1 hx
            refine ⟨((RowB.bytes (c' := c1) R1.out rfl).quiet tA).turns t8 (fun a n c ee => by cases ee; exact hnot g1 hg1), ((RowB.bytes (c' := c2) R2.out rfl).quiet tA).turns t8 (fun a n c ee => by cases ee; exact hnot g2 hg2), fun q hq => ?_⟩
            rcases hq with ⟨a, ee, rfl⟩ | ⟨a, ee, rfl⟩
            · cases ee; exact ⟨by show w.heap.size ≤ g1; omega, by show g1 < w8.heap.size; omega⟩
            · cases ee; exact ⟨by show w.heap.size ≤ g2; omega, by show g2 < w8.heap.size; omega⟩)
        have HAP8 := hide (show ∀ x, x ∈ R ++ [⟨some ⟨g1, 0, none⟩, c1, some ⟨g2, 0, none⟩, c2, e⟩] → ∀ q, x.bytesIn q → ¬ inRow (.slice (some ⟨g', 0, none⟩) n' c') q from fun x hx q hq ⟨n2, c2', ee⟩ => by
          obtain rfl : g' = q := by cases ee; rfl
          rcases List.mem_append.1 hx with hx | hx
          · rcases hin8 with h | h
            · exact HAP.out x hx _ hq h
            · have := ((HSH.out x hx).2.2 _ hq).2
              omega
          · obtain rfl := List.mem_singleton.1 hx
            have hq2 : g' = g1 ∨ g' = g2 := by
              rcases hq with ⟨a, ee, hb⟩ | ⟨a, ee, hb⟩
              · cases ee; exact .inl hb.symm
              · cases ee; exact .inr hb.symm
            rcases hin8 with h | h
            · rcases hq2 with e1 | e1
              · exact hnot _ (by omega) h
              · exact hnot _ (by omega) h
            · omega)
        have HKY8 := hide (show Keyed w8 (R ++ [⟨some ⟨g1, 0, none⟩, c1, some ⟨g2, 0, none⟩, c2, e⟩]) from fun x hx => by
          rcases List.mem_append.1 hx with hx | hx
          · exact ((HKY.out.keep ta (fun _ _ _ _ x => x)).keep t8 (fun y hy q hq => HAP.out y hy q hq)) x hx
          · obtain rfl := List.mem_singleton.1 hx
            exact ⟨g1, rfl, (R1.out.turns tA (fun x => x)).turns t8 (hnot g1 hg1)⟩)
        have HR8 := hide hrow8
        have HM8 := hide (show (R ++ [(⟨some ⟨g1, 0, none⟩, c1, some ⟨g2, 0, none⟩, c2, e⟩ : Tow)]).map (·.e) = (l.take (k + 1)).map (·.e) by rw [HTK.out, List.map_append, HM.out]; rfl)
        have B8 := hide (BW.out.trans ((ta.below hsz (fun _ x => x.elim)).trans b8))
        clear hrow8 t8 b8 hin8 hr8 tA hRow hs8 hsA l1 l2 l3 l4 l5 hnot hA8 ta tc hT hr1 hr2 hbx
        go_wp2_with (at_builtin; refine wpList_append_run rfl _ _ 27 rfl _ _ rfl rfl _ _ hq ?_)
        go_roundw
        case rel =>
          exact ⟨k + 1, _, by go_num, by omega, HR8.out, HS8.out, HM8.out, B8.out, HAP8.out, HKY8.out⟩
        case measure => simp [intOf]; omega
    · have i1 : ¬ (k : Int) < (n : Nat) := by have := HN.out; omega
      go_wp2_with fail
      go_ret
      have hk : k = l.length := by omega
      subst hk
      exact ⟨_, rfl, R, HROW.out, HSH.out, by rw [HM.out, List.take_length], HKY.out, BW.out⟩
end Go.Proofs.Ytjnpendihdlgnaa
