import Derived.Test.YtkmcdjbadngfgaaM07
import Derived.Test.YtkmcdjbadngfgaaM09
/-
  The document's Check.
-/

namespace Go.Proofs.Ytkmcdjbadngfgaa
open Go.RowKit
set_option maxRecDepth 100000
set_option maxHeartbeats 4000000
def allT (L : List Lv) : List Tf := L.flatMap fun x => x.l
def nos (R : List Tf) : List Nat := R.map fun y => y.f.no
theorem allT_nos (L : List Lv) : nos (allT L) = numsL L := by unfold nos allT numsL; rw [List.map_flatMap]
theorem allT_take {L : List Lv} {i : Nat} {x : Lv} (h : L[i]? = some x) : allT (L.take (i + 1)) = allT (L.take i) ++ x.l := by
  have e : L.take (i + 1) = L.take i ++ [x] := by rw [List.take_add_one, h]; rfl
  unfold allT
  rw [e, List.flatMap_append]
  simp
theorem allT_length (L : List Lv) : (allT L).length = cnt L := by
  unfold allT cnt
  rw [List.length_flatMap]
theorem allT_rest {L : List Lv} {i : Nat} {x : Lv} (h : L[i]? = some x) : ∃ r, allT L = allT (L.take i) ++ (x.l ++ r) := by
  have hi := (List.getElem?_eq_some_iff.1 h).1
  refine ⟨allT (L.drop (i + 1)), ?_⟩
  have e : L = L.take i ++ x :: L.drop (i + 1) := by
    conv => lhs; rw [← List.take_append_drop i L]
    rw [List.drop_eq_getElem_cons hi]
    congr 1
    rw [List.getElem?_eq_getElem hi] at h
    rw [Option.some.inj h]
  conv => lhs; rw [e]
  unfold allT
  rw [List.flatMap_append, List.flatMap_cons]
theorem dup_wrong {L : List Lv} {next seq log i q : Nat} {x : Lv} {y : Tf} (h : L[i]? = some x) (hy : x.l[q]? = some y) (hd : y.f.no ∈ nos (allT (L.take i) ++ x.l.take q)) : wrongV L next seq log = true := by
  obtain ⟨r, hr⟩ := allT_rest h
  have hq := (List.getElem?_eq_some_iff.1 hy).1
  have e : x.l = x.l.take q ++ y :: x.l.drop (q + 1) := by
    conv => lhs; rw [← List.take_append_drop q x.l]
    rw [List.drop_eq_getElem_cons hq]
    congr 1
    rw [List.getElem?_eq_getElem hq] at hy
    rw [Option.some.inj hy]
  unfold wrongV
  simp only [Bool.or_eq_true, Bool.not_eq_true', decide_eq_false_iff_not]
  refine .inr fun hn => ?_
  rw [← allT_nos, hr] at hn
  have e2 : allT (L.take i) ++ (x.l ++ r) = (allT (L.take i) ++ x.l.take q) ++ (y :: (x.l.drop (q + 1) ++ r)) := by
    conv => lhs; rw [e]
    simp
  rw [e2] at hn
  unfold nos at hn hd
  rw [List.map_append, List.nodup_append] at hn
  exact hn.2.2 _ hd _ (by simp) rfl
/-- The first so many files of a level are right. -/
def GP (next i : Nat) (xl : List Tf) (k : Nat) : Prop := ∀ (j : Nat) (y : Tf), j < k → xl[j]? = some y → okF next y.f = true ∧ ∀ (p : Nat) (z : Tf), j = p + 1 → xl[p]? = some z → aheadF i z.f y.f = true
theorem okF_iff {next : Nat} {f : Fl} : okF next f = true ↔ wrongF f = false ∧ f.no < next := by simp [okF]
theorem GP.level {next i : Nat} {xl : List Tf} (h : GP next i xl xl.length) : wrongLv next i xl = false := by
  unfold wrongLv
  simp only [Bool.or_eq_false_iff, Bool.not_eq_false']
  refine ⟨⟨List.any_eq_false.2 fun y hy => ?_, List.any_eq_false.2 fun y hy => ?_⟩, (ordF_iff i _).2 fun j x y hx hy => ?_⟩
  · obtain ⟨j, hj⟩ := List.getElem?_of_mem hy
    have := okF_iff.1 (h j y (List.getElem?_eq_some_iff.1 hj).1 hj).1
    simp [wrongT, this.1]
  · obtain ⟨j, hj⟩ := List.getElem?_of_mem hy
    have := okF_iff.1 (h j y (List.getElem?_eq_some_iff.1 hj).1 hj).1
    simp [newT]; exact this.2
  · simp only [fls, List.getElem?_map, Option.map_eq_some_iff] at hx hy
    obtain ⟨x', hx, rfl⟩ := hx
    obtain ⟨y', hy, rfl⟩ := hy
    exact (h (j + 1) y' (List.getElem?_eq_some_iff.1 hy).1 hy).2 j x' rfl hx
theorem GP.step {next i k : Nat} {xl : List Tf} {y : Tf} (h : GP next i xl k) (hy : xl[k]? = some y) (h1 : okF next y.f = true) (h2 : ∀ (p : Nat) (z : Tf), k = p + 1 → xl[p]? = some z → aheadF i z.f y.f = true) : GP next i xl (k + 1) := fun j u hj hu => by
  rcases Nat.lt_or_ge j k with hjk | hjk
  · exact h j u hjk hu
  · obtain rfl : j = k := by omega
    rw [hy] at hu
    cases hu
    exact ⟨h1, h2⟩
theorem bad_wrong {L : List Lv} {next seq log i q : Nat} {x : Lv} {y : Tf} (h : L[i]? = some x) (hy : x.l[q]? = some y) (hd : okF next y.f = false) : wrongV L next seq log = true := by
  have : wrongLv next i x.l = true := by
    unfold wrongLv
    have hm := List.mem_of_getElem? hy
    by_cases hw : wrongF y.f = true
    · have : x.l.any wrongT = true := List.any_eq_true.2 ⟨y, hm, hw⟩
      simp [this]
    · have : x.l.any (newT next) = true := List.any_eq_true.2 ⟨y, hm, by
        unfold okF at hd
        rw [Bool.not_eq_true] at hw
        rw [hw] at hd
        simpa [newT] using hd⟩
      simp [this]
  have := wrongLv_mem h this
  unfold wrongV
  simp [this]
theorem ord_wrong {L : List Lv} {next seq log i p : Nat} {x : Lv} {y z : Tf} (h : L[i]? = some x) (hy : x.l[p + 1]? = some y) (hz : x.l[p]? = some z) (hd : aheadF i z.f y.f = false) : wrongV L next seq log = true := by
  have : wrongLv next i x.l = true := by
    unfold wrongLv
    have : ordF i (fls x.l) = false := by
      rw [← Bool.not_eq_true, ordF_iff]
      intro q
      have := q p z.f y.f (fls_at hz) (fls_at hy)
      rw [hd] at this
      cases this
    simp [this]
  have := wrongLv_mem h this
  unfold wrongV
  simp [this]
theorem rowok_no {w : World} {B : Nat} {a : Option Addr} {c m : Nat} {R : List Tf} {x : Tf} (h : RowOk w B a c R) (hx : R[m]? = some x) : ∃ g, a = some ⟨g, 0, none⟩ ∧ w.cell? ⟨g, m * 6, none⟩ = some (.int .u64 (x.f.no : Nat)) := by
  rcases h with ⟨_, rfl, _⟩ | ⟨g, h1, _, _, cs, h4, h5, h6⟩
  · simp at hx
  · refine ⟨g, h1, ?_⟩
    have hm := (List.getElem?_eq_some_iff.1 hx).1
    rw [cell_of_row w g _ cs 29 (0, 0) h4, h6 _ (by rw [flCells_length]; omega), ← Nat.add_zero (m * 6), flCells_at R m x hx 0 (by omega)]
    rfl
theorem turns_in {w0 w w' : World} {a : Option Addr} {B c : Nat} {R : List Tf} (T : Turns (fun _ => False) w0 w) (hB : B = w0.heap.size) (h : RowOk w B a c R) (t : Turns (fun j => a = some ⟨j, 0, none⟩) w w') : Turns (fun _ => False) w0 w' := by
  refine turns_new ((T.mono fun _ _ (x : False) => x.elim).trans (t.mono fun k _ e => ?_))
  rcases h with ⟨rfl, _⟩ | ⟨g, h1, h2, _⟩
  · cases e
  · rw [h1] at e; cases e; omega
def F18a (u : World) (P G next no : Nat) (sz : Int) (la : Option Addr) (L1 lc : Nat) (ma : Option Addr) (L2 mc : Nat) (en : Int) (sq : Nat) : Prop :=
  u.cell? ⟨P, 1, none⟩ = some (.int .u64 (next : Nat)) ∧ u.cell? ⟨G, 0, none⟩ = some (.int .u64 (no : Nat)) ∧ u.cell? ⟨G, 1, none⟩ = some (.int .i64 sz) ∧ u.cell? ⟨G, 2, none⟩ = some (.slice la L1 lc) ∧ u.cell? ⟨G, 3, none⟩ = some (.slice ma L2 mc) ∧ u.cell? ⟨G, 4, none⟩ = some (.int .i64 en) ∧ u.cell? ⟨G, 5, none⟩ = some (.int .u64 (sq : Nat))
theorem F18a.quiet {u v : World} {P G next no : Nat} {sz : Int} {la : Option Addr} {L1 lc : Nat} {ma : Option Addr} {L2 mc : Nat} {en : Int} {sq : Nat} (h : F18a u P G next no sz la L1 lc ma L2 mc en sq) (t : Turns (fun _ => False) u v) : F18a v P G next no sz la L1 lc ma L2 mc en sq := by
  obtain ⟨h1, h2, h3, h4, h5, h6, h7⟩ := h
  exact ⟨t.cell h1 (fun x => x), t.cell h2 (fun x => x), t.cell h3 (fun x => x), t.cell h4 (fun x => x), t.cell h5 (fun x => x), t.cell h6 (fun x => x), t.cell h7 (fun x => x)⟩
def F18b (u : World) (P b off c k b2 off2 XL xc p no : Nat) (sz : Int) (la : Option Addr) (L1 lc : Nat) (ma : Option Addr) (L2 mc : Nat) (en : Int) (sq : Nat) : Prop :=
  u.cell? ⟨P, 0, none⟩ = some (.slice (some ⟨b, off, none⟩) 5 c) ∧ u.cell? ⟨b, off + k, none⟩ = some (.slice (some ⟨b2, off2, none⟩) XL xc) ∧ u.cell? ⟨b2, off2 + p * 6, none⟩ = some (.int .u64 (no : Nat)) ∧ u.cell? ⟨b2, off2 + p * 6 + 1, none⟩ = some (.int .i64 sz) ∧ u.cell? ⟨b2, off2 + p * 6 + 2, none⟩ = some (.slice la L1 lc) ∧ u.cell? ⟨b2, off2 + p * 6 + 3, none⟩ = some (.slice ma L2 mc) ∧ u.cell? ⟨b2, off2 + p * 6 + 4, none⟩ = some (.int .i64 en) ∧ u.cell? ⟨b2, off2 + p * 6 + 5, none⟩ = some (.int .u64 (sq : Nat))
theorem F18b.quiet {u v : World} {P b off c k b2 off2 XL xc p no : Nat} {sz : Int} {la : Option Addr} {L1 lc : Nat} {ma : Option Addr} {L2 mc : Nat} {en : Int} {sq : Nat} (h : F18b u P b off c k b2 off2 XL xc p no sz la L1 lc ma L2 mc en sq) (t : Turns (fun _ => False) u v) : F18b v P b off c k b2 off2 XL xc p no sz la L1 lc ma L2 mc en sq := by
  obtain ⟨h0, h1, h2, h3, h4, h5, h6, h7⟩ := h
  exact ⟨t.cell h0 (fun x => x), t.cell h1 (fun x => x), t.cell h2 (fun x => x), t.cell h3 (fun x => x), t.cell h4 (fun x => x), t.cell h5 (fun x => x), t.cell h6 (fun x => x), t.cell h7 (fun x => x)⟩
theorem rcheck_any (a : Option Addr) (n c next seq log : Nat) (L : List Lv) (w : World) (h : VerIn w a n L next seq log) :
    Calls Try.prog 22 #[verAgg a n c next seq log] w fun e w' => e = .returned (.int .i64 (chkV L next seq log)) ∧ Turns (fun _ => False) w w' := by
  have TA := hide ((Turns.refl (fun _ => False) w).alloc (.cells #[.slice a n c, .int .u64 (next : Nat), .int .u64 (seq : Nat), .int .u64 (log : Nat)] 25))
  have R0 := hide (heap_alloc_new w (.cells #[.slice a n c, .int .u64 (next : Nat), .int .u64 (seq : Nat), .int .u64 (log : Nat)] 25))
  have H := hide h
  have HW := hide (fun (q : wrongV L next seq log = true) => show Value.int .i64 2 = .int .i64 (chkV L next seq log) by unfold chkV; rw [if_pos q])
  have HR := hide (fun (q : wrongV L next seq log = false) => show Value.int .i64 0 = .int .i64 (chkV L next seq log) by unfold chkV; rw [if_neg (by rw [q]; simp)])
  unfold verAgg
  clear h
  by_cases h1 : n = 5 ∧ 1 ≤ next ∧ next ≤ 1000000000000 ∧ seq ≤ 72057594037927935 ∧ log < 1000000000000
  · obtain ⟨rfl, i1, i2, i3, i4⟩ := h1
    have j1 : ¬ (next : Int) < 1 := by omega
    have j2 : ¬ (1000000000000 : Int) < next := by omega
    have j3 : ¬ (72057594037927935 : Int) < seq := by omega
    have j4 : ¬ (1000000000000 : Int) ≤ log := by omega
    have HL := hide H.out.len
    generalize chkV L next seq log = CV at *
    have HI := hide (show 1 ≤ next ∧ next ≤ 1000000000000 ∧ seq ≤ 72057594037927935 ∧ log < 1000000000000 from ⟨i1, i2, i3, i4⟩)
    clear i1 i2 i3 i4
    go_enter Try.func22, Try.ntmps22
    go_wp2_with fail
    clear j1 j2 j3 j4
    generalize w.alloc (.cells #[.slice a 5 c, .int .u64 (next : Nat), .int .u64 (seq : Nat), .int .u64 (log : Nat)] 25) = w0 at *
    generalize w.heap.size = P at *
    go_loopw [3, 4] (fun s i wr => ∃ (k : Nat) (ra : Option Addr) (rn rc : Nat), i = .int .i64 (k : Nat) ∧ s = .slice ra rn rc ∧ k ≤ 5 ∧ rn = (allT (L.take k)).length ∧ RowOk wr w0.heap.size ra rc (allT (L.take k)) ∧ (nos (allT (L.take k))).Nodup ∧ (L.take k).zipIdx.any (fun p => wrongLv next p.2 p.1.l) = false ∧ Turns (fun _ => False) w0 wr) (fun _ i _ => 5 - (intOf i).toNat)
    case atStart => exact ⟨0, none, 0, 0, rfl, rfl, by omega, rfl, .inl ⟨rfl, rfl, rfl⟩, by simp [nos, allT], by simp, Turns.refl _ _⟩
    case round =>
      obtain ⟨k, ra, rn, rc, rfl, rfl, hk, hrn, hro, hnd, hgd, hb⟩ := hrel
      have HB := hide (TA.out.trans hb)
      have HB0 := hide hb
      have HRN := hide hrn
      have HRO := hide hro
      have HND := hide hnd
      have HGD := hide hgd
      have v0 : wr.cell? ⟨P, 0, none⟩ = some (.slice a 5 c) := hb.cell (cell_of_row w0 P 0 _ 25 (0, 0) R0.out) (fun x => x)
      have v1 : wr.cell? ⟨P, 1, none⟩ = some (.int .u64 (next : Nat)) := hb.cell (cell_of_row w0 P 1 _ 25 (0, 0) R0.out) (fun x => x)
      have v2 : wr.cell? ⟨P, 2, none⟩ = some (.int .u64 (seq : Nat)) := hb.cell (cell_of_row w0 P 2 _ 25 (0, 0) R0.out) (fun x => x)
      have v3 : wr.cell? ⟨P, 3, none⟩ = some (.int .u64 (log : Nat)) := hb.cell (cell_of_row w0 P 3 _ 25 (0, 0) R0.out) (fun x => x)
      clear hb hrn hro hnd hgd
      by_cases hkn : k < 5
      · obtain ⟨x, hx⟩ : ∃ x, L[k]? = some x := ⟨_, List.getElem?_eq_getElem (by have := HL.out; omega)⟩
        obtain ⟨⟨b, off, rfl, hcl⟩, hfb⟩ := (H.out.levs.quiet HB.out) k x hx
        have k1 : (k : Int) < 5 := by omega
        have k0 : (0 : Int) ≤ (k : Int) := by omega
        have HX := hide hx
        have HFI := hide (H.out.levs k x hx).2
        have HXB := hide (show x.l.length ≤ 5000 by have q1 := cnt_take_le L (k + 1); have q2 := cnt_take hx; have := H.out.cnt; omega)
        have HRB := hide (show (allT (L.take k)).length + x.l.length ≤ 5000 by rw [allT_length]; have q1 := cnt_take_le L (k + 1); have q2 := cnt_take hx; have := H.out.cnt; omega)
        have HAT := hide (allT_take hx)
        have HWT := hide (wrongLv_take (next := next) hx)
        have HBW := hide (fun (q : Nat) (y : Tf) (hy : x.l[q]? = some y) (hd : okF next y.f = false) => bad_wrong (seq := seq) (log := log) hx hy hd)
        have HOW := hide (fun (p : Nat) (y z : Tf) (hy : x.l[p + 1]? = some y) (hz : x.l[p]? = some z) (hd : aheadF k z.f y.f = false) => ord_wrong (next := next) (seq := seq) (log := log) hx hy hz hd)
        have HDW := hide (fun (q : Nat) (y : Tf) (hy : x.l[q]? = some y) (hd : y.f.no ∈ nos (allT (L.take k) ++ x.l.take q)) => dup_wrong (next := next) (seq := seq) (log := log) hx hy hd)
        obtain ⟨xa, xc, xl⟩ := x
        simp only at *
        clear hfb hx
        generalize hXL : xl.length = XL at *
        have HXL := hide hXL
        have hxi : (XL : Int) ≤ 5000 := by have := HXB.out; omega
        generalize hAR : allT (L.take k) = AR at *
        have HAR := hide hAR
        clear hXL hAR
        go_wp2_with fail
        go_loopw [3, 5] (fun s i wq => ∃ (q : Nat) (ra : Option Addr) (rn rc : Nat), i = .int .i64 (q : Nat) ∧ s = .slice ra rn rc ∧ q ≤ XL ∧ rn = (AR ++ xl.take q).length ∧ RowOk wq w0.heap.size ra rc (AR ++ xl.take q) ∧ (nos (AR ++ xl.take q)).Nodup ∧ GP next k xl q ∧ Turns (fun _ => False) w0 wq) (fun _ i _ => XL - (intOf i).toNat)
        case atStart => exact ⟨0, ra, rn, rc, rfl, rfl, Nat.zero_le _, by simp [HRN.out], by simpa using HRO.out, by simpa using HND.out, fun j y hj => absurd hj (Nat.not_lt_zero _), HB0.out⟩
        case round =>
          clear HRN HRO HND v0 v1 v2 v3 hcl
          obtain ⟨q, ra, rn, rc, rfl, rfl, hq, hrn, hro, hnd, hgp, hb⟩ := hrel
          have HB2 := hide (TA.out.trans hb)
          have HB3 := hide hb
          have HRN := hide hrn
          have HRO := hide hro
          have HND := hide hnd
          have HGP := hide hgp
          have v0 : wr.cell? ⟨P, 0, none⟩ = some (.slice (some ⟨b, off, none⟩) 5 c) := hb.cell (cell_of_row w0 P 0 _ 25 (0, 0) R0.out) (fun x => x)
          have v1 : wr.cell? ⟨P, 1, none⟩ = some (.int .u64 (next : Nat)) := hb.cell (cell_of_row w0 P 1 _ 25 (0, 0) R0.out) (fun x => x)
          obtain ⟨⟨b9, off9, e9, hcl⟩, _⟩ := (H.out.levs.quiet HB2.out) k _ HX.out
          cases e9
          simp only at hcl
          rw [HXL.out] at hcl
          clear hb hrn hro hnd hgp
          by_cases hqn : q < XL
          · obtain ⟨y, hy⟩ : ∃ y, xl[q]? = some y := ⟨_, List.getElem?_eq_getElem (by have := HXL.out; omega)⟩
            obtain ⟨b', off', rfl, h6, hfb⟩ := fc_of (HFI.out.quiet HB2.out) hy
            have q1 : (q : Int) < (XL : Int) := by omega
            have q0 : (0 : Int) ≤ (q : Int) := by omega
            have HY := hide hy
            have FBY := hide hfb
            have CF := hide (fun (u : World) (t : Turns (fun _ => False) wr u) => rfile_any y next u (hfb.quiet t))
            cases hok : okF next y.f with
            | false =>
              rw [hok] at CF
              have HV := hide (HW.out (HBW.out q y hy hok))
              obtain ⟨la, lc, ma, mc, ⟨no, sz, ls, ms, en, sq⟩⟩ := y
              obtain ⟨y0, y1, y2, y3, y4, y5⟩ := h6
              unfold Tf.agg at CF
              simp only at *
              generalize ls.length = L1 at *
              generalize ms.length = L2 at *
              have TF := hide ((Turns.refl (fun _ => False) wr).alloc (.cells #[.int .u64 (no : Nat), .int .i64 sz, .slice la L1 lc, .slice ma L2 mc, .int .i64 en, .int .u64 (sq : Nat)] 29))
              have SK0 := hide (show F18a (wr.alloc (.cells #[.int .u64 (no : Nat), .int .i64 sz, .slice la L1 lc, .slice ma L2 mc, .int .i64 en, .int .u64 (sq : Nat)] 29)) P wr.heap.size next no sz la L1 lc ma L2 mc en sq from ⟨TF.out.cell v1 (fun x => x), cell_of_row _ _ 0 _ 29 (0, 0) (heap_alloc_new wr (.cells #[.int .u64 (no : Nat), .int .i64 sz, .slice la L1 lc, .slice ma L2 mc, .int .i64 en, .int .u64 (sq : Nat)] 29)), cell_of_row _ _ 1 _ 29 (0, 0) (heap_alloc_new wr (.cells #[.int .u64 (no : Nat), .int .i64 sz, .slice la L1 lc, .slice ma L2 mc, .int .i64 en, .int .u64 (sq : Nat)] 29)), cell_of_row _ _ 2 _ 29 (0, 0) (heap_alloc_new wr (.cells #[.int .u64 (no : Nat), .int .i64 sz, .slice la L1 lc, .slice ma L2 mc, .int .i64 en, .int .u64 (sq : Nat)] 29)), cell_of_row _ _ 3 _ 29 (0, 0) (heap_alloc_new wr (.cells #[.int .u64 (no : Nat), .int .i64 sz, .slice la L1 lc, .slice ma L2 mc, .int .i64 en, .int .u64 (sq : Nat)] 29)), cell_of_row _ _ 4 _ 29 (0, 0) (heap_alloc_new wr (.cells #[.int .u64 (no : Nat), .int .i64 sz, .slice la L1 lc, .slice ma L2 mc, .int .i64 en, .int .u64 (sq : Nat)] 29)), cell_of_row _ _ 5 _ 29 (0, 0) (heap_alloc_new wr (.cells #[.int .u64 (no : Nat), .int .i64 sz, .slice la L1 lc, .slice ma L2 mc, .int .i64 en, .int .u64 (sq : Nat)] 29))⟩)
              clear hy hfb hok
              go_upto_region 11 with (fail)
              have SK := hide (fun (u : World) (tt : Turns (fun _ => False) (wr.alloc (.cells #[.int .u64 (no : Nat), .int .i64 sz, .slice la L1 lc, .slice ma L2 mc, .int .i64 en, .int .u64 (sq : Nat)] 29)) u) => SK0.out.quiet tt)
              generalize wr.alloc (.cells #[.int .u64 (no : Nat), .int .i64 sz, .slice la L1 lc, .slice ma L2 mc, .int .i64 en, .int .u64 (sq : Nat)] 29) = wA at *
              generalize wr.heap.size = G at *
              have tV : Turns (fun _ => False) wA wA.drew := (Turns.refl _ _).drew
              refine wp_region_held_drew (S := fun u => F18a u P G next no sz la L1 lc ma L2 mc en sq) (by kernel_rfl) (SK.out _ tV) (fun _ => ?_)
              change wpAnyH _ _ _ _ _ 24 (Array.replicate 24 false) _ _
              refine wpAnyH_take (i := 0) (oi := { dst := some 57, op := Op.load 29 (Operand.tmp 6), type := 29, pos := "ref.go:37", after := #[], guard := none }) (v := .agg #[.int .u64 (no : Nat), .int .i64 sz, .slice la L1 lc, .slice ma L2 mc, .int .i64 en, .int .u64 (sq : Nat)]) rfl (by kernel_rfl) (by kernel_rfl) (by kernel_rfl) (fun _ _ _ h => h) (Or.inl ⟨by rfl, ?_⟩) (SK.out _ tV) ?_
              · rintro w ⟨e1, d0, d1, d2, d3, d4, d5⟩
                go_simp
              simp only [Act.put, List.setIfInBounds_toArray, List.set_cons_zero, List.set_cons_succ]
              refine wpAnyH_take (i := 1) (oi := { dst := some 58, op := Op.fieldAddr 25 (Operand.tmp 1) 1, type := 0, pos := "ref.go:37", after := #[], guard := none }) (v := .pointer (some ⟨P, 1, none⟩)) rfl (by kernel_rfl) (by kernel_rfl) (by kernel_rfl) (fun _ _ _ h => h) (Or.inl ⟨by rfl, ?_⟩) (SK.out _ tV) ?_
              · rintro w ⟨e1, d0, d1, d2, d3, d4, d5⟩
                go_simp
              simp only [Act.put, List.setIfInBounds_toArray, List.set_cons_zero, List.set_cons_succ]
              refine wpAnyH_take (i := 2) (oi := { dst := some 59, op := Op.load 23 (Operand.tmp 58), type := 23, pos := "ref.go:37", after := #[{ on := 1, ground := Ground.data }], guard := none }) (v := .int .u64 (next : Nat)) rfl (by kernel_rfl) (by kernel_rfl) (by kernel_rfl) (fun _ _ _ h => h) (Or.inl ⟨by rfl, ?_⟩) (SK.out _ tV) ?_
              · rintro w ⟨e1, d0, d1, d2, d3, d4, d5⟩
                go_simp
              simp only [Act.put, List.setIfInBounds_toArray, List.set_cons_zero, List.set_cons_succ]
              refine wpAnyH_ready (rs := [3]) (by kernel_rfl) (by simp) ?_
              refine AllReadyH.cons rfl (fun K hK => ?_) AllReadyH.nil
              go_simp
              refine (CF.out _ (TF.out.trans tV)).mono ?_
              rintro oo Vn ⟨rfl, tC⟩
              have tN := tC
              have tV := tV.trans tN
              clear tC
              clear tN
              go_simp
              refine hK.out _ _ (SK.out _ tV) (fun _ => ?_)
              clear hK K
              refine wpAnyH_take (i := 4) (oi := { dst := some 61, op := Op.unOp UnOp.not 4 (Operand.tmp 60), type := 4, pos := "ref.go:37", after := #[{ on := 3, ground := Ground.data }], guard := none }) (v := .bool true) rfl (by kernel_rfl) (by kernel_rfl) (by kernel_rfl) (fun _ _ _ h => h) (Or.inl ⟨by rfl, ?_⟩) (SK.out _ tV) ?_
              · rintro w ⟨e1, d0, d1, d2, d3, d4, d5⟩
                go_simp
              simp only [Act.put, List.setIfInBounds_toArray, List.set_cons_zero, List.set_cons_succ]
              refine wpAnyH_take (i := 5) (oi := { dst := some 62, op := Op.move (Operand.tmp 61), type := 4, pos := "ref.go:37", after := #[{ on := 4, ground := Ground.data }, { on := 3, ground := Ground.chain }], guard := none }) (v := .bool true) rfl (by kernel_rfl) (by kernel_rfl) (by kernel_rfl) (fun _ _ _ h => h) (Or.inl ⟨by rfl, ?_⟩) (SK.out _ tV) ?_
              · rintro w ⟨e1, d0, d1, d2, d3, d4, d5⟩
                go_simp
              simp only [Act.put, List.setIfInBounds_toArray, List.set_cons_zero, List.set_cons_succ]
              refine wpAnyH_take (i := 6) (oi := { dst := some 63, op := Op.move (Operand.tmp 5), type := 3, pos := "ref.go:37", after := #[{ on := 5, ground := Ground.guard }], guard := some (5, false) }) (v := undef) rfl (by kernel_rfl) (by kernel_rfl) (by kernel_rfl) (fun _ _ _ h => h) (Or.inr ⟨by rfl, rfl⟩) (SK.out _ tV) ?_
              simp only [Act.put, List.setIfInBounds_toArray, List.set_cons_zero, List.set_cons_succ]
              refine wpAnyH_take (i := 7) (oi := { dst := some 64, op := Op.binOp BinOp.gtr 3 (Operand.tmp 63) (Operand.const (Value.int IntKind.i64 0)) 3, type := 4, pos := "ref.go:37", after := #[{ on := 6, ground := Ground.data }, { on := 5, ground := Ground.guard }], guard := some (5, false) }) (v := undef) rfl (by kernel_rfl) (by kernel_rfl) (by kernel_rfl) (fun _ _ _ h => h) (Or.inr ⟨by rfl, rfl⟩) (SK.out _ tV) ?_
              simp only [Act.put, List.setIfInBounds_toArray, List.set_cons_zero, List.set_cons_succ]
              refine wpAnyH_take (i := 8) (oi := { dst := some 65, op := Op.move (Operand.tmp 64), type := 4, pos := "ref.go:37", after := #[{ on := 7, ground := Ground.data }, { on := 5, ground := Ground.chain }, { on := 5, ground := Ground.guard }], guard := some (5, false) }) (v := undef) rfl (by kernel_rfl) (by kernel_rfl) (by kernel_rfl) (fun _ _ _ h => h) (Or.inr ⟨by rfl, rfl⟩) (SK.out _ tV) ?_
              simp only [Act.put, List.setIfInBounds_toArray, List.set_cons_zero, List.set_cons_succ]
              refine wpAnyH_take (i := 9) (oi := { dst := some 66, op := Op.fieldAddr 25 (Operand.tmp 1) 0, type := 0, pos := "ref.go:37", after := #[{ on := 8, ground := Ground.guard }], guard := some (8, true) }) (v := undef) rfl (by kernel_rfl) (by kernel_rfl) (by kernel_rfl) (fun _ _ _ h => h) (Or.inr ⟨by rfl, rfl⟩) (SK.out _ tV) ?_
              simp only [Act.put, List.setIfInBounds_toArray, List.set_cons_zero, List.set_cons_succ]
              refine wpAnyH_take (i := 10) (oi := { dst := some 67, op := Op.load 22 (Operand.tmp 66), type := 22, pos := "ref.go:37", after := #[{ on := 9, ground := Ground.data }, { on := 8, ground := Ground.guard }], guard := some (8, true) }) (v := undef) rfl (by kernel_rfl) (by kernel_rfl) (by kernel_rfl) (fun _ _ _ h => h) (Or.inr ⟨by rfl, rfl⟩) (SK.out _ tV) ?_
              simp only [Act.put, List.setIfInBounds_toArray, List.set_cons_zero, List.set_cons_succ]
              refine wpAnyH_take (i := 11) (oi := { dst := some 68, op := Op.move (Operand.tmp 4), type := 3, pos := "ref.go:37", after := #[{ on := 8, ground := Ground.guard }], guard := some (8, true) }) (v := undef) rfl (by kernel_rfl) (by kernel_rfl) (by kernel_rfl) (fun _ _ _ h => h) (Or.inr ⟨by rfl, rfl⟩) (SK.out _ tV) ?_
              simp only [Act.put, List.setIfInBounds_toArray, List.set_cons_zero, List.set_cons_succ]
              refine wpAnyH_take (i := 12) (oi := { dst := some 69, op := Op.indexAddr 22 (Operand.tmp 67) (Operand.tmp 68), type := 0, pos := "ref.go:37", after := #[{ on := 10, ground := Ground.data }, { on := 11, ground := Ground.data }, { on := 8, ground := Ground.guard }], guard := some (8, true) }) (v := undef) rfl (by kernel_rfl) (by kernel_rfl) (by kernel_rfl) (fun _ _ _ h => h) (Or.inr ⟨by rfl, rfl⟩) (SK.out _ tV) ?_
              simp only [Act.put, List.setIfInBounds_toArray, List.set_cons_zero, List.set_cons_succ]
              refine wpAnyH_take (i := 13) (oi := { dst := some 70, op := Op.load 31 (Operand.tmp 69), type := 31, pos := "ref.go:37", after := #[{ on := 12, ground := Ground.data }, { on := 8, ground := Ground.guard }], guard := some (8, true) }) (v := undef) rfl (by kernel_rfl) (by kernel_rfl) (by kernel_rfl) (fun _ _ _ h => h) (Or.inr ⟨by rfl, rfl⟩) (SK.out _ tV) ?_
              simp only [Act.put, List.setIfInBounds_toArray, List.set_cons_zero, List.set_cons_succ]
              refine wpAnyH_take (i := 14) (oi := { dst := some 71, op := Op.move (Operand.tmp 5), type := 3, pos := "ref.go:37", after := #[{ on := 8, ground := Ground.guard }], guard := some (8, true) }) (v := undef) rfl (by kernel_rfl) (by kernel_rfl) (by kernel_rfl) (fun _ _ _ h => h) (Or.inr ⟨by rfl, rfl⟩) (SK.out _ tV) ?_
              simp only [Act.put, List.setIfInBounds_toArray, List.set_cons_zero, List.set_cons_succ]
              refine wpAnyH_take (i := 15) (oi := { dst := some 72, op := Op.binOp BinOp.sub 3 (Operand.tmp 71) (Operand.const (Value.int IntKind.i64 1)) 3, type := 3, pos := "ref.go:37", after := #[{ on := 14, ground := Ground.data }, { on := 8, ground := Ground.guard }], guard := some (8, true) }) (v := undef) rfl (by kernel_rfl) (by kernel_rfl) (by kernel_rfl) (fun _ _ _ h => h) (Or.inr ⟨by rfl, rfl⟩) (SK.out _ tV) ?_
              simp only [Act.put, List.setIfInBounds_toArray, List.set_cons_zero, List.set_cons_succ]
              refine wpAnyH_take (i := 16) (oi := { dst := some 73, op := Op.indexAddr 31 (Operand.tmp 70) (Operand.tmp 72), type := 0, pos := "ref.go:37", after := #[{ on := 13, ground := Ground.data }, { on := 15, ground := Ground.data }, { on := 8, ground := Ground.guard }], guard := some (8, true) }) (v := undef) rfl (by kernel_rfl) (by kernel_rfl) (by kernel_rfl) (fun _ _ _ h => h) (Or.inr ⟨by rfl, rfl⟩) (SK.out _ tV) ?_
              simp only [Act.put, List.setIfInBounds_toArray, List.set_cons_zero, List.set_cons_succ]
              refine wpAnyH_take (i := 17) (oi := { dst := some 74, op := Op.load 29 (Operand.tmp 73), type := 29, pos := "ref.go:37", after := #[{ on := 16, ground := Ground.data }, { on := 8, ground := Ground.guard }], guard := some (8, true) }) (v := undef) rfl (by kernel_rfl) (by kernel_rfl) (by kernel_rfl) (fun _ _ _ h => h) (Or.inr ⟨by rfl, rfl⟩) (SK.out _ tV) ?_
              simp only [Act.put, List.setIfInBounds_toArray, List.set_cons_zero, List.set_cons_succ]
              refine wpAnyH_take (i := 18) (oi := { dst := some 75, op := Op.load 29 (Operand.tmp 6), type := 29, pos := "ref.go:37", after := #[{ on := 8, ground := Ground.guard }], guard := some (8, true) }) (v := undef) rfl (by kernel_rfl) (by kernel_rfl) (by kernel_rfl) (fun _ _ _ h => h) (Or.inr ⟨by rfl, rfl⟩) (SK.out _ tV) ?_
              simp only [Act.put, List.setIfInBounds_toArray, List.set_cons_zero, List.set_cons_succ]
              refine wpAnyH_take (i := 19) (oi := { dst := some 76, op := Op.move (Operand.tmp 4), type := 3, pos := "ref.go:37", after := #[{ on := 8, ground := Ground.guard }], guard := some (8, true) }) (v := undef) rfl (by kernel_rfl) (by kernel_rfl) (by kernel_rfl) (fun _ _ _ h => h) (Or.inr ⟨by rfl, rfl⟩) (SK.out _ tV) ?_
              simp only [Act.put, List.setIfInBounds_toArray, List.set_cons_zero, List.set_cons_succ]
              refine wpAnyH_take (i := 20) (oi := { dst := some 77, op := Op.call { callee := Callee.value (Operand.func 39), args := #[Operand.tmp 74, Operand.tmp 75, Operand.tmp 76], argTypes := #[29, 29, 3] }, type := 4, pos := "ref.go:37", after := #[{ on := 17, ground := Ground.data }, { on := 18, ground := Ground.data }, { on := 19, ground := Ground.data }, { on := 8, ground := Ground.chain }, { on := 8, ground := Ground.guard }], guard := some (8, true) }) (v := undef) rfl (by kernel_rfl) (by kernel_rfl) (by kernel_rfl) (fun _ _ _ h => h) (Or.inr ⟨by rfl, rfl⟩) (SK.out _ tV) ?_
              simp only [Act.put, List.setIfInBounds_toArray, List.set_cons_zero, List.set_cons_succ]
              refine wpAnyH_take (i := 21) (oi := { dst := some 78, op := Op.unOp UnOp.not 4 (Operand.tmp 77), type := 4, pos := "ref.go:37", after := #[{ on := 20, ground := Ground.data }, { on := 8, ground := Ground.guard }], guard := some (8, true) }) (v := undef) rfl (by kernel_rfl) (by kernel_rfl) (by kernel_rfl) (fun _ _ _ h => h) (Or.inr ⟨by rfl, rfl⟩) (SK.out _ tV) ?_
              simp only [Act.put, List.setIfInBounds_toArray, List.set_cons_zero, List.set_cons_succ]
              refine wpAnyH_take (i := 22) (oi := { dst := some 79, op := Op.pick (Operand.tmp 65) (Operand.tmp 78) (Operand.const (Value.bool false)), type := 4, pos := "ref.go:37", after := #[{ on := 8, ground := Ground.data }, { on := 21, ground := Ground.data }, { on := 5, ground := Ground.guard }], guard := some (5, false) }) (v := undef) rfl (by kernel_rfl) (by kernel_rfl) (by kernel_rfl) (fun _ _ _ h => h) (Or.inr ⟨by rfl, rfl⟩) (SK.out _ tV) ?_
              simp only [Act.put, List.setIfInBounds_toArray, List.set_cons_zero, List.set_cons_succ]
              refine wpAnyH_take (i := 23) (oi := { dst := some 80, op := Op.pick (Operand.tmp 62) (Operand.const (Value.bool true)) (Operand.tmp 79), type := 4, pos := "ref.go:37", after := #[{ on := 5, ground := Ground.data }, { on := 22, ground := Ground.data }], guard := none }) (v := .bool true) rfl (by kernel_rfl) (by kernel_rfl) (by kernel_rfl) (fun _ _ _ h => h) (Or.inl ⟨by rfl, ?_⟩) (SK.out _ tV) ?_
              · rintro w ⟨e1, d0, d1, d2, d3, d4, d5⟩
                go_simp
              simp only [Act.put, List.setIfInBounds_toArray, List.set_cons_zero, List.set_cons_succ]
              refine wpAnyH_done (by kernel_rfl) ?_ _
              have TU := hide (TF.out.trans tV)
              have SU := hide (SK.out _ tV)
              clear tV
              go_wp2_with fail
              go_ret
              exact ⟨congrArg Ending.returned HV.out, HB2.out.trans TU.out⟩
            | true =>
              rw [hok] at CF
              have HOK := hide hok
              have hrl := HRB.out
              have hrn3 := HRN.out
              have hlen5 : (AR ++ xl.take q).length ≤ 5000 := by rw [List.length_append, List.length_take]; omega
              have hrni : (rn : Int) ≤ 5000 := by omega
              have AP := hide (fun (u : World) (t : Turns (fun _ => False) wr u) (g : Nat) (hg : u.heap[g]? = some (.cells y.cells.toArray 29 (0, 0))) => append_fl u w0.heap.size ra rc (AR ++ xl.take q) (HRO.out.keep t fun _ _ x => x) (Nat.le_trans HB3.out.size t.size) (by omega) y g 1 hg)
              rw [← HRN.out] at AP
              have HTS := hide (show AR ++ xl.take (q + 1) = (AR ++ xl.take q) ++ [y] by rw [List.take_add_one, hy, List.append_assoc]; rfl)
              have HDD := hide (fun (q2 : y.f.no ∈ nos (AR ++ xl.take q)) => HW.out (HDW.out q y hy q2))
              clear hrl hrn3 hlen5
              by_cases hq0 : q = 0
              · have HGQ := hide (show q = 0 from hq0)
                have HQ0 := hide hq0
                clear hq0
                obtain ⟨la, lc, ma, mc, ⟨no, sz, ls, ms, en, sq⟩⟩ := y
                obtain ⟨y0, y1, y2, y3, y4, y5⟩ := h6
                unfold Tf.agg at CF
                simp only [Tf.cells, Tf.lv, Tf.mv] at *
                generalize hL1 : ls.length = L1 at *
                have HL1 := hide hL1
                clear hL1
                generalize hL2 : ms.length = L2 at *
                have HL2 := hide hL2
                clear hL2
                have TF := hide ((Turns.refl (fun _ => False) wr).alloc (.cells #[.int .u64 (no : Nat), .int .i64 sz, .slice la L1 lc, .slice ma L2 mc, .int .i64 en, .int .u64 (sq : Nat)] 29))
                have SK0 := hide (show F18a (wr.alloc (.cells #[.int .u64 (no : Nat), .int .i64 sz, .slice la L1 lc, .slice ma L2 mc, .int .i64 en, .int .u64 (sq : Nat)] 29)) P wr.heap.size next no sz la L1 lc ma L2 mc en sq from ⟨TF.out.cell v1 (fun x => x), cell_of_row _ _ 0 _ 29 (0, 0) (heap_alloc_new wr (.cells #[.int .u64 (no : Nat), .int .i64 sz, .slice la L1 lc, .slice ma L2 mc, .int .i64 en, .int .u64 (sq : Nat)] 29)), cell_of_row _ _ 1 _ 29 (0, 0) (heap_alloc_new wr (.cells #[.int .u64 (no : Nat), .int .i64 sz, .slice la L1 lc, .slice ma L2 mc, .int .i64 en, .int .u64 (sq : Nat)] 29)), cell_of_row _ _ 2 _ 29 (0, 0) (heap_alloc_new wr (.cells #[.int .u64 (no : Nat), .int .i64 sz, .slice la L1 lc, .slice ma L2 mc, .int .i64 en, .int .u64 (sq : Nat)] 29)), cell_of_row _ _ 3 _ 29 (0, 0) (heap_alloc_new wr (.cells #[.int .u64 (no : Nat), .int .i64 sz, .slice la L1 lc, .slice ma L2 mc, .int .i64 en, .int .u64 (sq : Nat)] 29)), cell_of_row _ _ 4 _ 29 (0, 0) (heap_alloc_new wr (.cells #[.int .u64 (no : Nat), .int .i64 sz, .slice la L1 lc, .slice ma L2 mc, .int .i64 en, .int .u64 (sq : Nat)] 29)), cell_of_row _ _ 5 _ 29 (0, 0) (heap_alloc_new wr (.cells #[.int .u64 (no : Nat), .int .i64 sz, .slice la L1 lc, .slice ma L2 mc, .int .i64 en, .int .u64 (sq : Nat)] 29))⟩)
                clear hy hfb hok
                go_upto_region 11 with (fail)
                have SK := hide (fun (u : World) (tt : Turns (fun _ => False) (wr.alloc (.cells #[.int .u64 (no : Nat), .int .i64 sz, .slice la L1 lc, .slice ma L2 mc, .int .i64 en, .int .u64 (sq : Nat)] 29)) u) => SK0.out.quiet tt)
                generalize wr.alloc (.cells #[.int .u64 (no : Nat), .int .i64 sz, .slice la L1 lc, .slice ma L2 mc, .int .i64 en, .int .u64 (sq : Nat)] 29) = wA at *
                generalize wr.heap.size = G at *
                have tV : Turns (fun _ => False) wA wA.drew := (Turns.refl _ _).drew
                refine wp_region_held_drew (S := fun u => F18a u P G next no sz la L1 lc ma L2 mc en sq) (by kernel_rfl) (SK.out _ tV) (fun _ => ?_)
                change wpAnyH _ _ _ _ _ 24 (Array.replicate 24 false) _ _
                refine wpAnyH_take (i := 0) (oi := { dst := some 57, op := Op.load 29 (Operand.tmp 6), type := 29, pos := "ref.go:37", after := #[], guard := none }) (v := .agg #[.int .u64 (no : Nat), .int .i64 sz, .slice la L1 lc, .slice ma L2 mc, .int .i64 en, .int .u64 (sq : Nat)]) rfl (by kernel_rfl) (by kernel_rfl) (by kernel_rfl) (fun _ _ _ h => h) (Or.inl ⟨by rfl, ?_⟩) (SK.out _ tV) ?_
                · rintro w ⟨e1, d0, d1, d2, d3, d4, d5⟩
                  go_simp
                simp only [Act.put, List.setIfInBounds_toArray, List.set_cons_zero, List.set_cons_succ]
                refine wpAnyH_take (i := 1) (oi := { dst := some 58, op := Op.fieldAddr 25 (Operand.tmp 1) 1, type := 0, pos := "ref.go:37", after := #[], guard := none }) (v := .pointer (some ⟨P, 1, none⟩)) rfl (by kernel_rfl) (by kernel_rfl) (by kernel_rfl) (fun _ _ _ h => h) (Or.inl ⟨by rfl, ?_⟩) (SK.out _ tV) ?_
                · rintro w ⟨e1, d0, d1, d2, d3, d4, d5⟩
                  go_simp
                simp only [Act.put, List.setIfInBounds_toArray, List.set_cons_zero, List.set_cons_succ]
                refine wpAnyH_take (i := 2) (oi := { dst := some 59, op := Op.load 23 (Operand.tmp 58), type := 23, pos := "ref.go:37", after := #[{ on := 1, ground := Ground.data }], guard := none }) (v := .int .u64 (next : Nat)) rfl (by kernel_rfl) (by kernel_rfl) (by kernel_rfl) (fun _ _ _ h => h) (Or.inl ⟨by rfl, ?_⟩) (SK.out _ tV) ?_
                · rintro w ⟨e1, d0, d1, d2, d3, d4, d5⟩
                  go_simp
                simp only [Act.put, List.setIfInBounds_toArray, List.set_cons_zero, List.set_cons_succ]
                refine wpAnyH_ready (rs := [3]) (by kernel_rfl) (by simp) ?_
                refine AllReadyH.cons rfl (fun K hK => ?_) AllReadyH.nil
                go_simp
                refine (CF.out _ (TF.out.trans tV)).mono ?_
                rintro oo Vn ⟨rfl, tC⟩
                have tN := tC
                have tV := tV.trans tN
                clear tC
                clear tN
                go_simp
                refine hK.out _ _ (SK.out _ tV) (fun _ => ?_)
                clear hK K
                refine wpAnyH_take (i := 4) (oi := { dst := some 61, op := Op.unOp UnOp.not 4 (Operand.tmp 60), type := 4, pos := "ref.go:37", after := #[{ on := 3, ground := Ground.data }], guard := none }) (v := .bool false) rfl (by kernel_rfl) (by kernel_rfl) (by kernel_rfl) (fun _ _ _ h => h) (Or.inl ⟨by rfl, ?_⟩) (SK.out _ tV) ?_
                · rintro w ⟨e1, d0, d1, d2, d3, d4, d5⟩
                  go_simp
                simp only [Act.put, List.setIfInBounds_toArray, List.set_cons_zero, List.set_cons_succ]
                refine wpAnyH_take (i := 5) (oi := { dst := some 62, op := Op.move (Operand.tmp 61), type := 4, pos := "ref.go:37", after := #[{ on := 4, ground := Ground.data }, { on := 3, ground := Ground.chain }], guard := none }) (v := .bool false) rfl (by kernel_rfl) (by kernel_rfl) (by kernel_rfl) (fun _ _ _ h => h) (Or.inl ⟨by rfl, ?_⟩) (SK.out _ tV) ?_
                · rintro w ⟨e1, d0, d1, d2, d3, d4, d5⟩
                  go_simp
                simp only [Act.put, List.setIfInBounds_toArray, List.set_cons_zero, List.set_cons_succ]
                refine wpAnyH_take (i := 6) (oi := { dst := some 63, op := Op.move (Operand.tmp 5), type := 3, pos := "ref.go:37", after := #[{ on := 5, ground := Ground.guard }], guard := some (5, false) }) (v := .int .i64 ((q : Nat) : Int)) rfl (by kernel_rfl) (by kernel_rfl) (by kernel_rfl) (fun _ _ _ h => h) (Or.inl ⟨by rfl, ?_⟩) (SK.out _ tV) ?_
                · rintro w ⟨e1, d0, d1, d2, d3, d4, d5⟩
                  go_simp
                simp only [Act.put, List.setIfInBounds_toArray, List.set_cons_zero, List.set_cons_succ]
                refine wpAnyH_take (i := 7) (oi := { dst := some 64, op := Op.binOp BinOp.gtr 3 (Operand.tmp 63) (Operand.const (Value.int IntKind.i64 0)) 3, type := 4, pos := "ref.go:37", after := #[{ on := 6, ground := Ground.data }, { on := 5, ground := Ground.guard }], guard := some (5, false) }) (v := .bool false) rfl (by kernel_rfl) (by kernel_rfl) (by kernel_rfl) (fun _ _ _ h => h) (Or.inl ⟨by rfl, ?_⟩) (SK.out _ tV) ?_
                · rintro w ⟨e1, d0, d1, d2, d3, d4, d5⟩
                  go_simp; exact HGQ.out
                simp only [Act.put, List.setIfInBounds_toArray, List.set_cons_zero, List.set_cons_succ]
                refine wpAnyH_take (i := 8) (oi := { dst := some 65, op := Op.move (Operand.tmp 64), type := 4, pos := "ref.go:37", after := #[{ on := 7, ground := Ground.data }, { on := 5, ground := Ground.chain }, { on := 5, ground := Ground.guard }], guard := some (5, false) }) (v := .bool false) rfl (by kernel_rfl) (by kernel_rfl) (by kernel_rfl) (fun _ _ _ h => h) (Or.inl ⟨by rfl, ?_⟩) (SK.out _ tV) ?_
                · rintro w ⟨e1, d0, d1, d2, d3, d4, d5⟩
                  go_simp
                simp only [Act.put, List.setIfInBounds_toArray, List.set_cons_zero, List.set_cons_succ]
                refine wpAnyH_take (i := 9) (oi := { dst := some 66, op := Op.fieldAddr 25 (Operand.tmp 1) 0, type := 0, pos := "ref.go:37", after := #[{ on := 8, ground := Ground.guard }], guard := some (8, true) }) (v := undef) rfl (by kernel_rfl) (by kernel_rfl) (by kernel_rfl) (fun _ _ _ h => h) (Or.inr ⟨by rfl, rfl⟩) (SK.out _ tV) ?_
                simp only [Act.put, List.setIfInBounds_toArray, List.set_cons_zero, List.set_cons_succ]
                refine wpAnyH_take (i := 10) (oi := { dst := some 67, op := Op.load 22 (Operand.tmp 66), type := 22, pos := "ref.go:37", after := #[{ on := 9, ground := Ground.data }, { on := 8, ground := Ground.guard }], guard := some (8, true) }) (v := undef) rfl (by kernel_rfl) (by kernel_rfl) (by kernel_rfl) (fun _ _ _ h => h) (Or.inr ⟨by rfl, rfl⟩) (SK.out _ tV) ?_
                simp only [Act.put, List.setIfInBounds_toArray, List.set_cons_zero, List.set_cons_succ]
                refine wpAnyH_take (i := 11) (oi := { dst := some 68, op := Op.move (Operand.tmp 4), type := 3, pos := "ref.go:37", after := #[{ on := 8, ground := Ground.guard }], guard := some (8, true) }) (v := undef) rfl (by kernel_rfl) (by kernel_rfl) (by kernel_rfl) (fun _ _ _ h => h) (Or.inr ⟨by rfl, rfl⟩) (SK.out _ tV) ?_
                simp only [Act.put, List.setIfInBounds_toArray, List.set_cons_zero, List.set_cons_succ]
                refine wpAnyH_take (i := 12) (oi := { dst := some 69, op := Op.indexAddr 22 (Operand.tmp 67) (Operand.tmp 68), type := 0, pos := "ref.go:37", after := #[{ on := 10, ground := Ground.data }, { on := 11, ground := Ground.data }, { on := 8, ground := Ground.guard }], guard := some (8, true) }) (v := undef) rfl (by kernel_rfl) (by kernel_rfl) (by kernel_rfl) (fun _ _ _ h => h) (Or.inr ⟨by rfl, rfl⟩) (SK.out _ tV) ?_
                simp only [Act.put, List.setIfInBounds_toArray, List.set_cons_zero, List.set_cons_succ]
                refine wpAnyH_take (i := 13) (oi := { dst := some 70, op := Op.load 31 (Operand.tmp 69), type := 31, pos := "ref.go:37", after := #[{ on := 12, ground := Ground.data }, { on := 8, ground := Ground.guard }], guard := some (8, true) }) (v := undef) rfl (by kernel_rfl) (by kernel_rfl) (by kernel_rfl) (fun _ _ _ h => h) (Or.inr ⟨by rfl, rfl⟩) (SK.out _ tV) ?_
                simp only [Act.put, List.setIfInBounds_toArray, List.set_cons_zero, List.set_cons_succ]
                refine wpAnyH_take (i := 14) (oi := { dst := some 71, op := Op.move (Operand.tmp 5), type := 3, pos := "ref.go:37", after := #[{ on := 8, ground := Ground.guard }], guard := some (8, true) }) (v := undef) rfl (by kernel_rfl) (by kernel_rfl) (by kernel_rfl) (fun _ _ _ h => h) (Or.inr ⟨by rfl, rfl⟩) (SK.out _ tV) ?_
                simp only [Act.put, List.setIfInBounds_toArray, List.set_cons_zero, List.set_cons_succ]
                refine wpAnyH_take (i := 15) (oi := { dst := some 72, op := Op.binOp BinOp.sub 3 (Operand.tmp 71) (Operand.const (Value.int IntKind.i64 1)) 3, type := 3, pos := "ref.go:37", after := #[{ on := 14, ground := Ground.data }, { on := 8, ground := Ground.guard }], guard := some (8, true) }) (v := undef) rfl (by kernel_rfl) (by kernel_rfl) (by kernel_rfl) (fun _ _ _ h => h) (Or.inr ⟨by rfl, rfl⟩) (SK.out _ tV) ?_
                simp only [Act.put, List.setIfInBounds_toArray, List.set_cons_zero, List.set_cons_succ]
                refine wpAnyH_take (i := 16) (oi := { dst := some 73, op := Op.indexAddr 31 (Operand.tmp 70) (Operand.tmp 72), type := 0, pos := "ref.go:37", after := #[{ on := 13, ground := Ground.data }, { on := 15, ground := Ground.data }, { on := 8, ground := Ground.guard }], guard := some (8, true) }) (v := undef) rfl (by kernel_rfl) (by kernel_rfl) (by kernel_rfl) (fun _ _ _ h => h) (Or.inr ⟨by rfl, rfl⟩) (SK.out _ tV) ?_
                simp only [Act.put, List.setIfInBounds_toArray, List.set_cons_zero, List.set_cons_succ]
                refine wpAnyH_take (i := 17) (oi := { dst := some 74, op := Op.load 29 (Operand.tmp 73), type := 29, pos := "ref.go:37", after := #[{ on := 16, ground := Ground.data }, { on := 8, ground := Ground.guard }], guard := some (8, true) }) (v := undef) rfl (by kernel_rfl) (by kernel_rfl) (by kernel_rfl) (fun _ _ _ h => h) (Or.inr ⟨by rfl, rfl⟩) (SK.out _ tV) ?_
                simp only [Act.put, List.setIfInBounds_toArray, List.set_cons_zero, List.set_cons_succ]
                refine wpAnyH_take (i := 18) (oi := { dst := some 75, op := Op.load 29 (Operand.tmp 6), type := 29, pos := "ref.go:37", after := #[{ on := 8, ground := Ground.guard }], guard := some (8, true) }) (v := undef) rfl (by kernel_rfl) (by kernel_rfl) (by kernel_rfl) (fun _ _ _ h => h) (Or.inr ⟨by rfl, rfl⟩) (SK.out _ tV) ?_
                simp only [Act.put, List.setIfInBounds_toArray, List.set_cons_zero, List.set_cons_succ]
                refine wpAnyH_take (i := 19) (oi := { dst := some 76, op := Op.move (Operand.tmp 4), type := 3, pos := "ref.go:37", after := #[{ on := 8, ground := Ground.guard }], guard := some (8, true) }) (v := undef) rfl (by kernel_rfl) (by kernel_rfl) (by kernel_rfl) (fun _ _ _ h => h) (Or.inr ⟨by rfl, rfl⟩) (SK.out _ tV) ?_
                simp only [Act.put, List.setIfInBounds_toArray, List.set_cons_zero, List.set_cons_succ]
                refine wpAnyH_take (i := 20) (oi := { dst := some 77, op := Op.call { callee := Callee.value (Operand.func 39), args := #[Operand.tmp 74, Operand.tmp 75, Operand.tmp 76], argTypes := #[29, 29, 3] }, type := 4, pos := "ref.go:37", after := #[{ on := 17, ground := Ground.data }, { on := 18, ground := Ground.data }, { on := 19, ground := Ground.data }, { on := 8, ground := Ground.chain }, { on := 8, ground := Ground.guard }], guard := some (8, true) }) (v := undef) rfl (by kernel_rfl) (by kernel_rfl) (by kernel_rfl) (fun _ _ _ h => h) (Or.inr ⟨by rfl, rfl⟩) (SK.out _ tV) ?_
                simp only [Act.put, List.setIfInBounds_toArray, List.set_cons_zero, List.set_cons_succ]
                refine wpAnyH_take (i := 21) (oi := { dst := some 78, op := Op.unOp UnOp.not 4 (Operand.tmp 77), type := 4, pos := "ref.go:37", after := #[{ on := 20, ground := Ground.data }, { on := 8, ground := Ground.guard }], guard := some (8, true) }) (v := undef) rfl (by kernel_rfl) (by kernel_rfl) (by kernel_rfl) (fun _ _ _ h => h) (Or.inr ⟨by rfl, rfl⟩) (SK.out _ tV) ?_
                simp only [Act.put, List.setIfInBounds_toArray, List.set_cons_zero, List.set_cons_succ]
                refine wpAnyH_take (i := 22) (oi := { dst := some 79, op := Op.pick (Operand.tmp 65) (Operand.tmp 78) (Operand.const (Value.bool false)), type := 4, pos := "ref.go:37", after := #[{ on := 8, ground := Ground.data }, { on := 21, ground := Ground.data }, { on := 5, ground := Ground.guard }], guard := some (5, false) }) (v := .bool false) rfl (by kernel_rfl) (by kernel_rfl) (by kernel_rfl) (fun _ _ _ h => h) (Or.inl ⟨by rfl, ?_⟩) (SK.out _ tV) ?_
                · rintro w ⟨e1, d0, d1, d2, d3, d4, d5⟩
                  go_simp
                simp only [Act.put, List.setIfInBounds_toArray, List.set_cons_zero, List.set_cons_succ]
                refine wpAnyH_take (i := 23) (oi := { dst := some 80, op := Op.pick (Operand.tmp 62) (Operand.const (Value.bool true)) (Operand.tmp 79), type := 4, pos := "ref.go:37", after := #[{ on := 5, ground := Ground.data }, { on := 22, ground := Ground.data }], guard := none }) (v := .bool false) rfl (by kernel_rfl) (by kernel_rfl) (by kernel_rfl) (fun _ _ _ h => h) (Or.inl ⟨by rfl, ?_⟩) (SK.out _ tV) ?_
                · rintro w ⟨e1, d0, d1, d2, d3, d4, d5⟩
                  go_simp
                simp only [Act.put, List.setIfInBounds_toArray, List.set_cons_zero, List.set_cons_succ]
                refine wpAnyH_done (by kernel_rfl) ?_ _
                have TU := hide (TF.out.trans tV)
                have SU := hide (SK.out _ tV)
                clear tV
                go_wp2_with fail
                have HSU := hide SU.out
                go_loopw [7] (fun i wm => ∃ m : Nat, i = .int .i64 (m : Nat) ∧ m ≤ rn ∧ (∀ (t : Nat) (x : Tf), t < m → (AR ++ xl.take q)[t]? = some x → x.f.no ≠ no) ∧ Turns (fun _ => False) Vn wm) (fun i _ => rn - (intOf i).toNat)
                case atStart => exact ⟨0, rfl, Nat.zero_le _, fun t x ht => absurd ht (Nat.not_lt_zero _), Turns.refl _ _⟩
                case round =>
                  obtain ⟨m, rfl, hm, hno, hb⟩ := hrel
                  have HN := hide hno
                  have HB5 := hide hb
                  have HB6 := hide (TU.out.trans hb)
                  obtain ⟨_, f0, f1, f2, f3, f4, f5⟩ := (SU.out).quiet hb
                  clear hno hb
                  by_cases hmn : m < rn
                  · obtain ⟨x, hx⟩ : ∃ x, (AR ++ xl.take q)[m]? = some x := ⟨_, List.getElem?_eq_getElem (by have := HRN.out; omega)⟩
                    obtain ⟨g, rfl, hg⟩ := rowok_no (HRO.out.keep HB6.out fun _ _ x => x) hx
                    have m1 : (m : Int) < (rn : Int) := by omega
                    have m0 : (0 : Int) ≤ (m : Int) := by omega
                    have HXM := hide hx
                    generalize hxn : x.f.no = xn at *
                    have HXN := hide hxn
                    clear hx hxn f1 f2 f3 f4 f5
                    by_cases hE : xn = no
                    · subst hE
                      have HV := hide (HDD.out (List.mem_map.2 ⟨x, List.mem_of_getElem? HXM.out, HXN.out⟩))
                      go_wp2_with fail
                      go_quiet (fail)
                      go_wp2_with fail
                      go_ret
                      refine ⟨congrArg Ending.returned HV.out, HB2.out.trans (HB6.out.trans ?_)⟩
                      first | exact (Turns.refl _ _).drew | exact drewN_turns _ _ | exact Turns.refl _ _
                    · have hEi : ¬ (xn : Int) = (no : Int) := by omega
                      go_wp2_with fail
                      go_quiet (fail)
                      go_wp2_with fail
                      go_roundw
                      case rel =>
                        refine ⟨m + 1, by go_num, by omega, fun t x' ht hx' => ?_, HB5.out.trans ?_⟩
                        · rcases Nat.lt_or_ge t m with h | h
                          · exact HN.out t x' h hx'
                          · obtain rfl : t = m := by omega
                            rw [HXM.out] at hx'
                            cases hx'
                            rw [HXN.out]
                            exact hE
                        · first | exact (Turns.refl _ _).drew | exact drewN_turns _ _ | exact Turns.refl _ _
                      case measure => simp [intOf]; omega
                  · obtain rfl : m = rn := by omega
                    obtain ⟨a', n', c', w', hr, hn', hro', ht', _⟩ := AP.out (wr.alloc (.cells #[.int .u64 (no : Nat), .int .i64 sz, .slice la L1 lc, .slice ma L2 mc, .int .i64 en, .int .u64 (sq : Nat)] 29)) ((HB6.out).alloc _) wr.heap.size (heap_alloc_new wr _)
                    have HR5 := hide hr
                    have HN5 := hide hn'
                    have HRO5 := hide hro'
                    have HT5 := hide (turns_in (HB3.out.trans (HB6.out.alloc (.cells #[.int .u64 (no : Nat), .int .i64 sz, .slice la L1 lc, .slice ma L2 mc, .int .i64 en, .int .u64 (sq : Nat)] 29))) rfl (HRO.out.keep (HB6.out.alloc (.cells #[.int .u64 (no : Nat), .int .i64 sz, .slice la L1 lc, .slice ma L2 mc, .int .i64 en, .int .u64 (sq : Nat)] 29)) fun _ _ x => x) ht')
                    clear hr hn' hro' ht'
                    go_wp2_with (at_builtin; refine wpList_append_run rfl _ _ 31 rfl (.slice ra m rc) (.slice (some ⟨wr.heap.size, 0, none⟩) 1 1) rfl rfl _ _ (HR5.out _) ?_)
                    go_roundw
                    case rel =>
                      refine ⟨q + 1, a', n', c', by go_num, rfl, by omega, by rw [HTS.out]; exact HN5.out, by rw [HTS.out]; exact HRO5.out, ?_, HGP.out.step HY.out HOK.out (fun p z h => absurd h (by have := HQ0.out; omega)), HT5.out⟩
                      rw [HTS.out]
                      unfold nos
                      rw [List.map_append, List.nodup_append]
                      refine ⟨HND.out, by simp, fun u hu v hv => ?_⟩
                      obtain ⟨x', hx', rfl⟩ := List.mem_map.1 hu
                      obtain ⟨t, ht⟩ := List.getElem?_of_mem hx'
                      have h5 := HN.out t x' (by have := HRN.out; have := (List.getElem?_eq_some_iff.1 ht).1; omega) ht
                      simp only [List.map_cons, List.map_nil, List.mem_singleton] at hv
                      rw [hv]
                      exact h5
                    case measure => simp [intOf]; omega
              · obtain ⟨p, hqp⟩ : ∃ p, q = p + 1 := ⟨q - 1, by omega⟩
                obtain ⟨z, hz⟩ : ∃ z, xl[p]? = some z := ⟨_, List.getElem?_eq_getElem (by have := HXL.out; omega)⟩
                obtain ⟨b3, off3, e3, h62, hfb2⟩ := fc_of (HFI.out.quiet HB2.out) hz
                cases e3
                have bz := wrongF_false (okF_iff.1 (HGP.out p z (by omega) hz).1).1
                have by' := wrongF_false (okF_iff.1 hok).1
                have CB := hide (fun (u : World) (t : Turns (fun _ => False) wr u) => rbehind_any k z y u (hfb2.quiet t) (hfb.quiet t) (by omega) (by omega))
                have HGQ := hide (show 0 < q by omega)
                have HEP := hide (show (q : Int) - 1 = (p : Int) by omega)
                have HQP := hide hqp
                have HWP := hide (show IntKind.i64.wrap (p : Int) = (p : Int) from wrapI _ (by omega) (by omega))
                have HPL := hide (show ¬ XL ≤ p by omega)
                have HZ := hide hz
                clear bz by' hq0 hqp
                cases hah : aheadF k z.f y.f with
                | false =>
                  have HV := hide (HW.out (HOW.out p y z (HQP.out ▸ hy) hz hah))
                  rw [hah] at CB
                  obtain ⟨la, lc, ma, mc, ⟨no, sz, ls, ms, en, sq⟩⟩ := y
                  obtain ⟨la2, lc2, ma2, mc2, ⟨no2, sz2, ls2, ms2, en2, sq2⟩⟩ := z
                  obtain ⟨z0, z1, z2, z3, z4, z5⟩ := h62
                  obtain ⟨y0, y1, y2, y3, y4, y5⟩ := h6
                  unfold Tf.agg at CF CB
                  simp only [Tf.cells, Tf.lv, Tf.mv] at *
                  generalize hL1 : ls.length = L1 at *
                  have HL1 := hide hL1
                  clear hL1
                  generalize hL2 : ms.length = L2 at *
                  have HL2 := hide hL2
                  clear hL2
                  generalize ls2.length = L3 at *
                  generalize ms2.length = L4 at *
                  have TF := hide ((Turns.refl (fun _ => False) wr).alloc (.cells #[.int .u64 (no : Nat), .int .i64 sz, .slice la L1 lc, .slice ma L2 mc, .int .i64 en, .int .u64 (sq : Nat)] 29))
                  have SK0 := hide (show F18a (wr.alloc (.cells #[.int .u64 (no : Nat), .int .i64 sz, .slice la L1 lc, .slice ma L2 mc, .int .i64 en, .int .u64 (sq : Nat)] 29)) P wr.heap.size next no sz la L1 lc ma L2 mc en sq from ⟨TF.out.cell v1 (fun x => x), cell_of_row _ _ 0 _ 29 (0, 0) (heap_alloc_new wr (.cells #[.int .u64 (no : Nat), .int .i64 sz, .slice la L1 lc, .slice ma L2 mc, .int .i64 en, .int .u64 (sq : Nat)] 29)), cell_of_row _ _ 1 _ 29 (0, 0) (heap_alloc_new wr (.cells #[.int .u64 (no : Nat), .int .i64 sz, .slice la L1 lc, .slice ma L2 mc, .int .i64 en, .int .u64 (sq : Nat)] 29)), cell_of_row _ _ 2 _ 29 (0, 0) (heap_alloc_new wr (.cells #[.int .u64 (no : Nat), .int .i64 sz, .slice la L1 lc, .slice ma L2 mc, .int .i64 en, .int .u64 (sq : Nat)] 29)), cell_of_row _ _ 3 _ 29 (0, 0) (heap_alloc_new wr (.cells #[.int .u64 (no : Nat), .int .i64 sz, .slice la L1 lc, .slice ma L2 mc, .int .i64 en, .int .u64 (sq : Nat)] 29)), cell_of_row _ _ 4 _ 29 (0, 0) (heap_alloc_new wr (.cells #[.int .u64 (no : Nat), .int .i64 sz, .slice la L1 lc, .slice ma L2 mc, .int .i64 en, .int .u64 (sq : Nat)] 29)), cell_of_row _ _ 5 _ 29 (0, 0) (heap_alloc_new wr (.cells #[.int .u64 (no : Nat), .int .i64 sz, .slice la L1 lc, .slice ma L2 mc, .int .i64 en, .int .u64 (sq : Nat)] 29))⟩)
                  have SKB0 := hide (show F18b wr P b off c k b' off' XL xc p no2 sz2 la2 L3 lc2 ma2 L4 mc2 en2 sq2 from ⟨v0, hcl, z0, z1, z2, z3, z4, z5⟩)
                  clear z0 z1 z2 z3 z4 z5
                  clear hy hfb hok hz hfb2 hah
                  go_upto_region 11 with (fail)
                  have SK := hide (fun (u : World) (tt : Turns (fun _ => False) (wr.alloc (.cells #[.int .u64 (no : Nat), .int .i64 sz, .slice la L1 lc, .slice ma L2 mc, .int .i64 en, .int .u64 (sq : Nat)] 29)) u) => (⟨SK0.out.quiet tt, SKB0.out.quiet (TF.out.trans tt)⟩ : _ ∧ _))
                  generalize wr.alloc (.cells #[.int .u64 (no : Nat), .int .i64 sz, .slice la L1 lc, .slice ma L2 mc, .int .i64 en, .int .u64 (sq : Nat)] 29) = wA at *
                  generalize wr.heap.size = G at *
                  have tV : Turns (fun _ => False) wA wA.drew := (Turns.refl _ _).drew
                  refine wp_region_held_drew (S := fun u => F18a u P G next no sz la L1 lc ma L2 mc en sq ∧ F18b u P b off c k b' off' XL xc p no2 sz2 la2 L3 lc2 ma2 L4 mc2 en2 sq2) (by kernel_rfl) (SK.out _ tV) (fun _ => ?_)
                  change wpAnyH _ _ _ _ _ 24 (Array.replicate 24 false) _ _
                  refine wpAnyH_take (i := 0) (oi := { dst := some 57, op := Op.load 29 (Operand.tmp 6), type := 29, pos := "ref.go:37", after := #[], guard := none }) (v := .agg #[.int .u64 (no : Nat), .int .i64 sz, .slice la L1 lc, .slice ma L2 mc, .int .i64 en, .int .u64 (sq : Nat)]) rfl (by kernel_rfl) (by kernel_rfl) (by kernel_rfl) (fun _ _ _ h => h) (Or.inl ⟨by rfl, ?_⟩) (SK.out _ tV) ?_
                  · rintro w ⟨⟨e1, d0, d1, d2, d3, d4, d5⟩, m0, m1, n0, n1, n2, n3, n4, n5⟩
                    go_simp
                  simp only [Act.put, List.setIfInBounds_toArray, List.set_cons_zero, List.set_cons_succ]
                  refine wpAnyH_take (i := 1) (oi := { dst := some 58, op := Op.fieldAddr 25 (Operand.tmp 1) 1, type := 0, pos := "ref.go:37", after := #[], guard := none }) (v := .pointer (some ⟨P, 1, none⟩)) rfl (by kernel_rfl) (by kernel_rfl) (by kernel_rfl) (fun _ _ _ h => h) (Or.inl ⟨by rfl, ?_⟩) (SK.out _ tV) ?_
                  · rintro w ⟨⟨e1, d0, d1, d2, d3, d4, d5⟩, m0, m1, n0, n1, n2, n3, n4, n5⟩
                    go_simp
                  simp only [Act.put, List.setIfInBounds_toArray, List.set_cons_zero, List.set_cons_succ]
                  refine wpAnyH_take (i := 2) (oi := { dst := some 59, op := Op.load 23 (Operand.tmp 58), type := 23, pos := "ref.go:37", after := #[{ on := 1, ground := Ground.data }], guard := none }) (v := .int .u64 (next : Nat)) rfl (by kernel_rfl) (by kernel_rfl) (by kernel_rfl) (fun _ _ _ h => h) (Or.inl ⟨by rfl, ?_⟩) (SK.out _ tV) ?_
                  · rintro w ⟨⟨e1, d0, d1, d2, d3, d4, d5⟩, m0, m1, n0, n1, n2, n3, n4, n5⟩
                    go_simp
                  simp only [Act.put, List.setIfInBounds_toArray, List.set_cons_zero, List.set_cons_succ]
                  refine wpAnyH_ready (rs := [3]) (by kernel_rfl) (by simp) ?_
                  refine AllReadyH.cons rfl (fun K hK => ?_) AllReadyH.nil
                  go_simp
                  refine (CF.out _ (TF.out.trans tV)).mono ?_
                  rintro oo Vn ⟨rfl, tC⟩
                  have tN := tC
                  have tV := tV.trans tN
                  clear tC
                  clear tN
                  go_simp
                  refine hK.out _ _ (SK.out _ tV) (fun _ => ?_)
                  clear hK K
                  refine wpAnyH_take (i := 4) (oi := { dst := some 61, op := Op.unOp UnOp.not 4 (Operand.tmp 60), type := 4, pos := "ref.go:37", after := #[{ on := 3, ground := Ground.data }], guard := none }) (v := .bool false) rfl (by kernel_rfl) (by kernel_rfl) (by kernel_rfl) (fun _ _ _ h => h) (Or.inl ⟨by rfl, ?_⟩) (SK.out _ tV) ?_
                  · rintro w ⟨⟨e1, d0, d1, d2, d3, d4, d5⟩, m0, m1, n0, n1, n2, n3, n4, n5⟩
                    go_simp
                  simp only [Act.put, List.setIfInBounds_toArray, List.set_cons_zero, List.set_cons_succ]
                  refine wpAnyH_take (i := 5) (oi := { dst := some 62, op := Op.move (Operand.tmp 61), type := 4, pos := "ref.go:37", after := #[{ on := 4, ground := Ground.data }, { on := 3, ground := Ground.chain }], guard := none }) (v := .bool false) rfl (by kernel_rfl) (by kernel_rfl) (by kernel_rfl) (fun _ _ _ h => h) (Or.inl ⟨by rfl, ?_⟩) (SK.out _ tV) ?_
                  · rintro w ⟨⟨e1, d0, d1, d2, d3, d4, d5⟩, m0, m1, n0, n1, n2, n3, n4, n5⟩
                    go_simp
                  simp only [Act.put, List.setIfInBounds_toArray, List.set_cons_zero, List.set_cons_succ]
                  refine wpAnyH_take (i := 6) (oi := { dst := some 63, op := Op.move (Operand.tmp 5), type := 3, pos := "ref.go:37", after := #[{ on := 5, ground := Ground.guard }], guard := some (5, false) }) (v := .int .i64 ((q : Nat) : Int)) rfl (by kernel_rfl) (by kernel_rfl) (by kernel_rfl) (fun _ _ _ h => h) (Or.inl ⟨by rfl, ?_⟩) (SK.out _ tV) ?_
                  · rintro w ⟨⟨e1, d0, d1, d2, d3, d4, d5⟩, m0, m1, n0, n1, n2, n3, n4, n5⟩
                    go_simp
                  simp only [Act.put, List.setIfInBounds_toArray, List.set_cons_zero, List.set_cons_succ]
                  refine wpAnyH_take (i := 7) (oi := { dst := some 64, op := Op.binOp BinOp.gtr 3 (Operand.tmp 63) (Operand.const (Value.int IntKind.i64 0)) 3, type := 4, pos := "ref.go:37", after := #[{ on := 6, ground := Ground.data }, { on := 5, ground := Ground.guard }], guard := some (5, false) }) (v := .bool true) rfl (by kernel_rfl) (by kernel_rfl) (by kernel_rfl) (fun _ _ _ h => h) (Or.inl ⟨by rfl, ?_⟩) (SK.out _ tV) ?_
                  · rintro w ⟨⟨e1, d0, d1, d2, d3, d4, d5⟩, m0, m1, n0, n1, n2, n3, n4, n5⟩
                    go_simp; exact HGQ.out
                  simp only [Act.put, List.setIfInBounds_toArray, List.set_cons_zero, List.set_cons_succ]
                  refine wpAnyH_take (i := 8) (oi := { dst := some 65, op := Op.move (Operand.tmp 64), type := 4, pos := "ref.go:37", after := #[{ on := 7, ground := Ground.data }, { on := 5, ground := Ground.chain }, { on := 5, ground := Ground.guard }], guard := some (5, false) }) (v := .bool true) rfl (by kernel_rfl) (by kernel_rfl) (by kernel_rfl) (fun _ _ _ h => h) (Or.inl ⟨by rfl, ?_⟩) (SK.out _ tV) ?_
                  · rintro w ⟨⟨e1, d0, d1, d2, d3, d4, d5⟩, m0, m1, n0, n1, n2, n3, n4, n5⟩
                    go_simp
                  simp only [Act.put, List.setIfInBounds_toArray, List.set_cons_zero, List.set_cons_succ]
                  refine wpAnyH_take (i := 9) (oi := { dst := some 66, op := Op.fieldAddr 25 (Operand.tmp 1) 0, type := 0, pos := "ref.go:37", after := #[{ on := 8, ground := Ground.guard }], guard := some (8, true) }) (v := .pointer (some ⟨P, 0, none⟩)) rfl (by kernel_rfl) (by kernel_rfl) (by kernel_rfl) (fun _ _ _ h => h) (Or.inl ⟨by rfl, ?_⟩) (SK.out _ tV) ?_
                  · rintro w ⟨⟨e1, d0, d1, d2, d3, d4, d5⟩, m0, m1, n0, n1, n2, n3, n4, n5⟩
                    go_simp
                  simp only [Act.put, List.setIfInBounds_toArray, List.set_cons_zero, List.set_cons_succ]
                  refine wpAnyH_take (i := 10) (oi := { dst := some 67, op := Op.load 22 (Operand.tmp 66), type := 22, pos := "ref.go:37", after := #[{ on := 9, ground := Ground.data }, { on := 8, ground := Ground.guard }], guard := some (8, true) }) (v := .slice (some ⟨b, off, none⟩) 5 c) rfl (by kernel_rfl) (by kernel_rfl) (by kernel_rfl) (fun _ _ _ h => h) (Or.inl ⟨by rfl, ?_⟩) (SK.out _ tV) ?_
                  · rintro w ⟨⟨e1, d0, d1, d2, d3, d4, d5⟩, m0, m1, n0, n1, n2, n3, n4, n5⟩
                    go_simp
                  simp only [Act.put, List.setIfInBounds_toArray, List.set_cons_zero, List.set_cons_succ]
                  refine wpAnyH_take (i := 11) (oi := { dst := some 68, op := Op.move (Operand.tmp 4), type := 3, pos := "ref.go:37", after := #[{ on := 8, ground := Ground.guard }], guard := some (8, true) }) (v := .int .i64 (k : Nat)) rfl (by kernel_rfl) (by kernel_rfl) (by kernel_rfl) (fun _ _ _ h => h) (Or.inl ⟨by rfl, ?_⟩) (SK.out _ tV) ?_
                  · rintro w ⟨⟨e1, d0, d1, d2, d3, d4, d5⟩, m0, m1, n0, n1, n2, n3, n4, n5⟩
                    go_simp
                  simp only [Act.put, List.setIfInBounds_toArray, List.set_cons_zero, List.set_cons_succ]
                  refine wpAnyH_take (i := 12) (oi := { dst := some 69, op := Op.indexAddr 22 (Operand.tmp 67) (Operand.tmp 68), type := 0, pos := "ref.go:37", after := #[{ on := 10, ground := Ground.data }, { on := 11, ground := Ground.data }, { on := 8, ground := Ground.guard }], guard := some (8, true) }) (v := .pointer (some ⟨b, off + k, none⟩)) rfl (by kernel_rfl) (by kernel_rfl) (by kernel_rfl) (fun _ _ _ h => h) (Or.inl ⟨by rfl, ?_⟩) (SK.out _ tV) ?_
                  · rintro w ⟨⟨e1, d0, d1, d2, d3, d4, d5⟩, m0, m1, n0, n1, n2, n3, n4, n5⟩
                    go_simp
                  simp only [Act.put, List.setIfInBounds_toArray, List.set_cons_zero, List.set_cons_succ]
                  refine wpAnyH_take (i := 13) (oi := { dst := some 70, op := Op.load 31 (Operand.tmp 69), type := 31, pos := "ref.go:37", after := #[{ on := 12, ground := Ground.data }, { on := 8, ground := Ground.guard }], guard := some (8, true) }) (v := .slice (some ⟨b', off', none⟩) XL xc) rfl (by kernel_rfl) (by kernel_rfl) (by kernel_rfl) (fun _ _ _ h => h) (Or.inl ⟨by rfl, ?_⟩) (SK.out _ tV) ?_
                  · rintro w ⟨⟨e1, d0, d1, d2, d3, d4, d5⟩, m0, m1, n0, n1, n2, n3, n4, n5⟩
                    go_simp
                  simp only [Act.put, List.setIfInBounds_toArray, List.set_cons_zero, List.set_cons_succ]
                  refine wpAnyH_take (i := 14) (oi := { dst := some 71, op := Op.move (Operand.tmp 5), type := 3, pos := "ref.go:37", after := #[{ on := 8, ground := Ground.guard }], guard := some (8, true) }) (v := .int .i64 ((q : Nat) : Int)) rfl (by kernel_rfl) (by kernel_rfl) (by kernel_rfl) (fun _ _ _ h => h) (Or.inl ⟨by rfl, ?_⟩) (SK.out _ tV) ?_
                  · rintro w ⟨⟨e1, d0, d1, d2, d3, d4, d5⟩, m0, m1, n0, n1, n2, n3, n4, n5⟩
                    go_simp
                  simp only [Act.put, List.setIfInBounds_toArray, List.set_cons_zero, List.set_cons_succ]
                  refine wpAnyH_take (i := 15) (oi := { dst := some 72, op := Op.binOp BinOp.sub 3 (Operand.tmp 71) (Operand.const (Value.int IntKind.i64 1)) 3, type := 3, pos := "ref.go:37", after := #[{ on := 14, ground := Ground.data }, { on := 8, ground := Ground.guard }], guard := some (8, true) }) (v := .int .i64 (p : Nat)) rfl (by kernel_rfl) (by kernel_rfl) (by kernel_rfl) (fun _ _ _ h => h) (Or.inl ⟨by rfl, ?_⟩) (SK.out _ tV) ?_
                  · rintro w ⟨⟨e1, d0, d1, d2, d3, d4, d5⟩, m0, m1, n0, n1, n2, n3, n4, n5⟩
                    go_simp; rw [HEP.out, HWP.out]
                  simp only [Act.put, List.setIfInBounds_toArray, List.set_cons_zero, List.set_cons_succ]
                  refine wpAnyH_take (i := 16) (oi := { dst := some 73, op := Op.indexAddr 31 (Operand.tmp 70) (Operand.tmp 72), type := 0, pos := "ref.go:37", after := #[{ on := 13, ground := Ground.data }, { on := 15, ground := Ground.data }, { on := 8, ground := Ground.guard }], guard := some (8, true) }) (v := .pointer (some ⟨b', off' + p * 6, none⟩)) rfl (by kernel_rfl) (by kernel_rfl) (by kernel_rfl) (fun _ _ _ h => h) (Or.inl ⟨by rfl, ?_⟩) (SK.out _ tV) ?_
                  · rintro w ⟨⟨e1, d0, d1, d2, d3, d4, d5⟩, m0, m1, n0, n1, n2, n3, n4, n5⟩
                    go_simp; exact fun h => absurd h HPL.out
                  simp only [Act.put, List.setIfInBounds_toArray, List.set_cons_zero, List.set_cons_succ]
                  refine wpAnyH_take (i := 17) (oi := { dst := some 74, op := Op.load 29 (Operand.tmp 73), type := 29, pos := "ref.go:37", after := #[{ on := 16, ground := Ground.data }, { on := 8, ground := Ground.guard }], guard := some (8, true) }) (v := .agg #[.int .u64 (no2 : Nat), .int .i64 sz2, .slice la2 L3 lc2, .slice ma2 L4 mc2, .int .i64 en2, .int .u64 (sq2 : Nat)]) rfl (by kernel_rfl) (by kernel_rfl) (by kernel_rfl) (fun _ _ _ h => h) (Or.inl ⟨by rfl, ?_⟩) (SK.out _ tV) ?_
                  · rintro w ⟨⟨e1, d0, d1, d2, d3, d4, d5⟩, m0, m1, n0, n1, n2, n3, n4, n5⟩
                    go_simp
                  simp only [Act.put, List.setIfInBounds_toArray, List.set_cons_zero, List.set_cons_succ]
                  refine wpAnyH_take (i := 18) (oi := { dst := some 75, op := Op.load 29 (Operand.tmp 6), type := 29, pos := "ref.go:37", after := #[{ on := 8, ground := Ground.guard }], guard := some (8, true) }) (v := .agg #[.int .u64 (no : Nat), .int .i64 sz, .slice la L1 lc, .slice ma L2 mc, .int .i64 en, .int .u64 (sq : Nat)]) rfl (by kernel_rfl) (by kernel_rfl) (by kernel_rfl) (fun _ _ _ h => h) (Or.inl ⟨by rfl, ?_⟩) (SK.out _ tV) ?_
                  · rintro w ⟨⟨e1, d0, d1, d2, d3, d4, d5⟩, m0, m1, n0, n1, n2, n3, n4, n5⟩
                    go_simp
                  simp only [Act.put, List.setIfInBounds_toArray, List.set_cons_zero, List.set_cons_succ]
                  refine wpAnyH_take (i := 19) (oi := { dst := some 76, op := Op.move (Operand.tmp 4), type := 3, pos := "ref.go:37", after := #[{ on := 8, ground := Ground.guard }], guard := some (8, true) }) (v := .int .i64 (k : Nat)) rfl (by kernel_rfl) (by kernel_rfl) (by kernel_rfl) (fun _ _ _ h => h) (Or.inl ⟨by rfl, ?_⟩) (SK.out _ tV) ?_
                  · rintro w ⟨⟨e1, d0, d1, d2, d3, d4, d5⟩, m0, m1, n0, n1, n2, n3, n4, n5⟩
                    go_simp
                  simp only [Act.put, List.setIfInBounds_toArray, List.set_cons_zero, List.set_cons_succ]
                  refine wpAnyH_ready (rs := [20]) (by kernel_rfl) (by simp) ?_
                  refine AllReadyH.cons rfl (fun K hK => ?_) AllReadyH.nil
                  go_simp
                  refine (CB.out _ (TF.out.trans tV)).mono ?_
                  rintro oo Vn ⟨rfl, tC⟩
                  have tN := tC
                  have tV := tV.trans tN
                  clear tC
                  clear tN
                  go_simp
                  refine hK.out _ _ (SK.out _ tV) (fun _ => ?_)
                  clear hK K
                  refine wpAnyH_take (i := 21) (oi := { dst := some 78, op := Op.unOp UnOp.not 4 (Operand.tmp 77), type := 4, pos := "ref.go:37", after := #[{ on := 20, ground := Ground.data }, { on := 8, ground := Ground.guard }], guard := some (8, true) }) (v := .bool true) rfl (by kernel_rfl) (by kernel_rfl) (by kernel_rfl) (fun _ _ _ h => h) (Or.inl ⟨by rfl, ?_⟩) (SK.out _ tV) ?_
                  · rintro w ⟨⟨e1, d0, d1, d2, d3, d4, d5⟩, m0, m1, n0, n1, n2, n3, n4, n5⟩
                    go_simp
                  simp only [Act.put, List.setIfInBounds_toArray, List.set_cons_zero, List.set_cons_succ]
                  refine wpAnyH_take (i := 22) (oi := { dst := some 79, op := Op.pick (Operand.tmp 65) (Operand.tmp 78) (Operand.const (Value.bool false)), type := 4, pos := "ref.go:37", after := #[{ on := 8, ground := Ground.data }, { on := 21, ground := Ground.data }, { on := 5, ground := Ground.guard }], guard := some (5, false) }) (v := .bool true) rfl (by kernel_rfl) (by kernel_rfl) (by kernel_rfl) (fun _ _ _ h => h) (Or.inl ⟨by rfl, ?_⟩) (SK.out _ tV) ?_
                  · rintro w ⟨⟨e1, d0, d1, d2, d3, d4, d5⟩, m0, m1, n0, n1, n2, n3, n4, n5⟩
                    go_simp
                  simp only [Act.put, List.setIfInBounds_toArray, List.set_cons_zero, List.set_cons_succ]
                  refine wpAnyH_take (i := 23) (oi := { dst := some 80, op := Op.pick (Operand.tmp 62) (Operand.const (Value.bool true)) (Operand.tmp 79), type := 4, pos := "ref.go:37", after := #[{ on := 5, ground := Ground.data }, { on := 22, ground := Ground.data }], guard := none }) (v := .bool true) rfl (by kernel_rfl) (by kernel_rfl) (by kernel_rfl) (fun _ _ _ h => h) (Or.inl ⟨by rfl, ?_⟩) (SK.out _ tV) ?_
                  · rintro w ⟨⟨e1, d0, d1, d2, d3, d4, d5⟩, m0, m1, n0, n1, n2, n3, n4, n5⟩
                    go_simp
                  simp only [Act.put, List.setIfInBounds_toArray, List.set_cons_zero, List.set_cons_succ]
                  refine wpAnyH_done (by kernel_rfl) ?_ _
                  have TU := hide (TF.out.trans tV)
                  have SU := hide (SK.out _ tV)
                  clear tV
                  go_wp2_with fail
                  go_ret
                  exact ⟨congrArg Ending.returned HV.out, HB2.out.trans TU.out⟩
                | true =>
                  have HGS := hide (show ∀ (p2 : Nat) (z2 : Tf), q = p2 + 1 → xl[p2]? = some z2 → aheadF k z2.f y.f = true from fun p2 z2 h2 hz2 => by
                    have := HQP.out
                    obtain rfl : p2 = p := by omega
                    rw [hz] at hz2
                    cases hz2
                    exact hah)
                  rw [hah] at CB
                  obtain ⟨la, lc, ma, mc, ⟨no, sz, ls, ms, en, sq⟩⟩ := y
                  obtain ⟨la2, lc2, ma2, mc2, ⟨no2, sz2, ls2, ms2, en2, sq2⟩⟩ := z
                  obtain ⟨z0, z1, z2, z3, z4, z5⟩ := h62
                  obtain ⟨y0, y1, y2, y3, y4, y5⟩ := h6
                  unfold Tf.agg at CF CB
                  simp only [Tf.cells, Tf.lv, Tf.mv] at *
                  generalize hL1 : ls.length = L1 at *
                  have HL1 := hide hL1
                  clear hL1
                  generalize hL2 : ms.length = L2 at *
                  have HL2 := hide hL2
                  clear hL2
                  generalize ls2.length = L3 at *
                  generalize ms2.length = L4 at *
                  have TF := hide ((Turns.refl (fun _ => False) wr).alloc (.cells #[.int .u64 (no : Nat), .int .i64 sz, .slice la L1 lc, .slice ma L2 mc, .int .i64 en, .int .u64 (sq : Nat)] 29))
                  have SK0 := hide (show F18a (wr.alloc (.cells #[.int .u64 (no : Nat), .int .i64 sz, .slice la L1 lc, .slice ma L2 mc, .int .i64 en, .int .u64 (sq : Nat)] 29)) P wr.heap.size next no sz la L1 lc ma L2 mc en sq from ⟨TF.out.cell v1 (fun x => x), cell_of_row _ _ 0 _ 29 (0, 0) (heap_alloc_new wr (.cells #[.int .u64 (no : Nat), .int .i64 sz, .slice la L1 lc, .slice ma L2 mc, .int .i64 en, .int .u64 (sq : Nat)] 29)), cell_of_row _ _ 1 _ 29 (0, 0) (heap_alloc_new wr (.cells #[.int .u64 (no : Nat), .int .i64 sz, .slice la L1 lc, .slice ma L2 mc, .int .i64 en, .int .u64 (sq : Nat)] 29)), cell_of_row _ _ 2 _ 29 (0, 0) (heap_alloc_new wr (.cells #[.int .u64 (no : Nat), .int .i64 sz, .slice la L1 lc, .slice ma L2 mc, .int .i64 en, .int .u64 (sq : Nat)] 29)), cell_of_row _ _ 3 _ 29 (0, 0) (heap_alloc_new wr (.cells #[.int .u64 (no : Nat), .int .i64 sz, .slice la L1 lc, .slice ma L2 mc, .int .i64 en, .int .u64 (sq : Nat)] 29)), cell_of_row _ _ 4 _ 29 (0, 0) (heap_alloc_new wr (.cells #[.int .u64 (no : Nat), .int .i64 sz, .slice la L1 lc, .slice ma L2 mc, .int .i64 en, .int .u64 (sq : Nat)] 29)), cell_of_row _ _ 5 _ 29 (0, 0) (heap_alloc_new wr (.cells #[.int .u64 (no : Nat), .int .i64 sz, .slice la L1 lc, .slice ma L2 mc, .int .i64 en, .int .u64 (sq : Nat)] 29))⟩)
                  have SKB0 := hide (show F18b wr P b off c k b' off' XL xc p no2 sz2 la2 L3 lc2 ma2 L4 mc2 en2 sq2 from ⟨v0, hcl, z0, z1, z2, z3, z4, z5⟩)
                  clear z0 z1 z2 z3 z4 z5
                  clear hy hfb hok hz hfb2 hah
                  go_upto_region 11 with (fail)
                  have SK := hide (fun (u : World) (tt : Turns (fun _ => False) (wr.alloc (.cells #[.int .u64 (no : Nat), .int .i64 sz, .slice la L1 lc, .slice ma L2 mc, .int .i64 en, .int .u64 (sq : Nat)] 29)) u) => (⟨SK0.out.quiet tt, SKB0.out.quiet (TF.out.trans tt)⟩ : _ ∧ _))
                  generalize wr.alloc (.cells #[.int .u64 (no : Nat), .int .i64 sz, .slice la L1 lc, .slice ma L2 mc, .int .i64 en, .int .u64 (sq : Nat)] 29) = wA at *
                  generalize wr.heap.size = G at *
                  have tV : Turns (fun _ => False) wA wA.drew := (Turns.refl _ _).drew
                  refine wp_region_held_drew (S := fun u => F18a u P G next no sz la L1 lc ma L2 mc en sq ∧ F18b u P b off c k b' off' XL xc p no2 sz2 la2 L3 lc2 ma2 L4 mc2 en2 sq2) (by kernel_rfl) (SK.out _ tV) (fun _ => ?_)
                  change wpAnyH _ _ _ _ _ 24 (Array.replicate 24 false) _ _
                  refine wpAnyH_take (i := 0) (oi := { dst := some 57, op := Op.load 29 (Operand.tmp 6), type := 29, pos := "ref.go:37", after := #[], guard := none }) (v := .agg #[.int .u64 (no : Nat), .int .i64 sz, .slice la L1 lc, .slice ma L2 mc, .int .i64 en, .int .u64 (sq : Nat)]) rfl (by kernel_rfl) (by kernel_rfl) (by kernel_rfl) (fun _ _ _ h => h) (Or.inl ⟨by rfl, ?_⟩) (SK.out _ tV) ?_
                  · rintro w ⟨⟨e1, d0, d1, d2, d3, d4, d5⟩, m0, m1, n0, n1, n2, n3, n4, n5⟩
                    go_simp
                  simp only [Act.put, List.setIfInBounds_toArray, List.set_cons_zero, List.set_cons_succ]
                  refine wpAnyH_take (i := 1) (oi := { dst := some 58, op := Op.fieldAddr 25 (Operand.tmp 1) 1, type := 0, pos := "ref.go:37", after := #[], guard := none }) (v := .pointer (some ⟨P, 1, none⟩)) rfl (by kernel_rfl) (by kernel_rfl) (by kernel_rfl) (fun _ _ _ h => h) (Or.inl ⟨by rfl, ?_⟩) (SK.out _ tV) ?_
                  · rintro w ⟨⟨e1, d0, d1, d2, d3, d4, d5⟩, m0, m1, n0, n1, n2, n3, n4, n5⟩
                    go_simp
                  simp only [Act.put, List.setIfInBounds_toArray, List.set_cons_zero, List.set_cons_succ]
                  refine wpAnyH_take (i := 2) (oi := { dst := some 59, op := Op.load 23 (Operand.tmp 58), type := 23, pos := "ref.go:37", after := #[{ on := 1, ground := Ground.data }], guard := none }) (v := .int .u64 (next : Nat)) rfl (by kernel_rfl) (by kernel_rfl) (by kernel_rfl) (fun _ _ _ h => h) (Or.inl ⟨by rfl, ?_⟩) (SK.out _ tV) ?_
                  · rintro w ⟨⟨e1, d0, d1, d2, d3, d4, d5⟩, m0, m1, n0, n1, n2, n3, n4, n5⟩
                    go_simp
                  simp only [Act.put, List.setIfInBounds_toArray, List.set_cons_zero, List.set_cons_succ]
                  refine wpAnyH_ready (rs := [3]) (by kernel_rfl) (by simp) ?_
                  refine AllReadyH.cons rfl (fun K hK => ?_) AllReadyH.nil
                  go_simp
                  refine (CF.out _ (TF.out.trans tV)).mono ?_
                  rintro oo Vn ⟨rfl, tC⟩
                  have tN := tC
                  have tV := tV.trans tN
                  clear tC
                  clear tN
                  go_simp
                  refine hK.out _ _ (SK.out _ tV) (fun _ => ?_)
                  clear hK K
                  refine wpAnyH_take (i := 4) (oi := { dst := some 61, op := Op.unOp UnOp.not 4 (Operand.tmp 60), type := 4, pos := "ref.go:37", after := #[{ on := 3, ground := Ground.data }], guard := none }) (v := .bool false) rfl (by kernel_rfl) (by kernel_rfl) (by kernel_rfl) (fun _ _ _ h => h) (Or.inl ⟨by rfl, ?_⟩) (SK.out _ tV) ?_
                  · rintro w ⟨⟨e1, d0, d1, d2, d3, d4, d5⟩, m0, m1, n0, n1, n2, n3, n4, n5⟩
                    go_simp
                  simp only [Act.put, List.setIfInBounds_toArray, List.set_cons_zero, List.set_cons_succ]
                  refine wpAnyH_take (i := 5) (oi := { dst := some 62, op := Op.move (Operand.tmp 61), type := 4, pos := "ref.go:37", after := #[{ on := 4, ground := Ground.data }, { on := 3, ground := Ground.chain }], guard := none }) (v := .bool false) rfl (by kernel_rfl) (by kernel_rfl) (by kernel_rfl) (fun _ _ _ h => h) (Or.inl ⟨by rfl, ?_⟩) (SK.out _ tV) ?_
                  · rintro w ⟨⟨e1, d0, d1, d2, d3, d4, d5⟩, m0, m1, n0, n1, n2, n3, n4, n5⟩
                    go_simp
                  simp only [Act.put, List.setIfInBounds_toArray, List.set_cons_zero, List.set_cons_succ]
                  refine wpAnyH_take (i := 6) (oi := { dst := some 63, op := Op.move (Operand.tmp 5), type := 3, pos := "ref.go:37", after := #[{ on := 5, ground := Ground.guard }], guard := some (5, false) }) (v := .int .i64 ((q : Nat) : Int)) rfl (by kernel_rfl) (by kernel_rfl) (by kernel_rfl) (fun _ _ _ h => h) (Or.inl ⟨by rfl, ?_⟩) (SK.out _ tV) ?_
                  · rintro w ⟨⟨e1, d0, d1, d2, d3, d4, d5⟩, m0, m1, n0, n1, n2, n3, n4, n5⟩
                    go_simp
                  simp only [Act.put, List.setIfInBounds_toArray, List.set_cons_zero, List.set_cons_succ]
                  refine wpAnyH_take (i := 7) (oi := { dst := some 64, op := Op.binOp BinOp.gtr 3 (Operand.tmp 63) (Operand.const (Value.int IntKind.i64 0)) 3, type := 4, pos := "ref.go:37", after := #[{ on := 6, ground := Ground.data }, { on := 5, ground := Ground.guard }], guard := some (5, false) }) (v := .bool true) rfl (by kernel_rfl) (by kernel_rfl) (by kernel_rfl) (fun _ _ _ h => h) (Or.inl ⟨by rfl, ?_⟩) (SK.out _ tV) ?_
                  · rintro w ⟨⟨e1, d0, d1, d2, d3, d4, d5⟩, m0, m1, n0, n1, n2, n3, n4, n5⟩
                    go_simp; exact HGQ.out
                  simp only [Act.put, List.setIfInBounds_toArray, List.set_cons_zero, List.set_cons_succ]
                  refine wpAnyH_take (i := 8) (oi := { dst := some 65, op := Op.move (Operand.tmp 64), type := 4, pos := "ref.go:37", after := #[{ on := 7, ground := Ground.data }, { on := 5, ground := Ground.chain }, { on := 5, ground := Ground.guard }], guard := some (5, false) }) (v := .bool true) rfl (by kernel_rfl) (by kernel_rfl) (by kernel_rfl) (fun _ _ _ h => h) (Or.inl ⟨by rfl, ?_⟩) (SK.out _ tV) ?_
                  · rintro w ⟨⟨e1, d0, d1, d2, d3, d4, d5⟩, m0, m1, n0, n1, n2, n3, n4, n5⟩
                    go_simp
                  simp only [Act.put, List.setIfInBounds_toArray, List.set_cons_zero, List.set_cons_succ]
                  refine wpAnyH_take (i := 9) (oi := { dst := some 66, op := Op.fieldAddr 25 (Operand.tmp 1) 0, type := 0, pos := "ref.go:37", after := #[{ on := 8, ground := Ground.guard }], guard := some (8, true) }) (v := .pointer (some ⟨P, 0, none⟩)) rfl (by kernel_rfl) (by kernel_rfl) (by kernel_rfl) (fun _ _ _ h => h) (Or.inl ⟨by rfl, ?_⟩) (SK.out _ tV) ?_
                  · rintro w ⟨⟨e1, d0, d1, d2, d3, d4, d5⟩, m0, m1, n0, n1, n2, n3, n4, n5⟩
                    go_simp
                  simp only [Act.put, List.setIfInBounds_toArray, List.set_cons_zero, List.set_cons_succ]
                  refine wpAnyH_take (i := 10) (oi := { dst := some 67, op := Op.load 22 (Operand.tmp 66), type := 22, pos := "ref.go:37", after := #[{ on := 9, ground := Ground.data }, { on := 8, ground := Ground.guard }], guard := some (8, true) }) (v := .slice (some ⟨b, off, none⟩) 5 c) rfl (by kernel_rfl) (by kernel_rfl) (by kernel_rfl) (fun _ _ _ h => h) (Or.inl ⟨by rfl, ?_⟩) (SK.out _ tV) ?_
                  · rintro w ⟨⟨e1, d0, d1, d2, d3, d4, d5⟩, m0, m1, n0, n1, n2, n3, n4, n5⟩
                    go_simp
                  simp only [Act.put, List.setIfInBounds_toArray, List.set_cons_zero, List.set_cons_succ]
                  refine wpAnyH_take (i := 11) (oi := { dst := some 68, op := Op.move (Operand.tmp 4), type := 3, pos := "ref.go:37", after := #[{ on := 8, ground := Ground.guard }], guard := some (8, true) }) (v := .int .i64 (k : Nat)) rfl (by kernel_rfl) (by kernel_rfl) (by kernel_rfl) (fun _ _ _ h => h) (Or.inl ⟨by rfl, ?_⟩) (SK.out _ tV) ?_
                  · rintro w ⟨⟨e1, d0, d1, d2, d3, d4, d5⟩, m0, m1, n0, n1, n2, n3, n4, n5⟩
                    go_simp
                  simp only [Act.put, List.setIfInBounds_toArray, List.set_cons_zero, List.set_cons_succ]
                  refine wpAnyH_take (i := 12) (oi := { dst := some 69, op := Op.indexAddr 22 (Operand.tmp 67) (Operand.tmp 68), type := 0, pos := "ref.go:37", after := #[{ on := 10, ground := Ground.data }, { on := 11, ground := Ground.data }, { on := 8, ground := Ground.guard }], guard := some (8, true) }) (v := .pointer (some ⟨b, off + k, none⟩)) rfl (by kernel_rfl) (by kernel_rfl) (by kernel_rfl) (fun _ _ _ h => h) (Or.inl ⟨by rfl, ?_⟩) (SK.out _ tV) ?_
                  · rintro w ⟨⟨e1, d0, d1, d2, d3, d4, d5⟩, m0, m1, n0, n1, n2, n3, n4, n5⟩
                    go_simp
                  simp only [Act.put, List.setIfInBounds_toArray, List.set_cons_zero, List.set_cons_succ]
                  refine wpAnyH_take (i := 13) (oi := { dst := some 70, op := Op.load 31 (Operand.tmp 69), type := 31, pos := "ref.go:37", after := #[{ on := 12, ground := Ground.data }, { on := 8, ground := Ground.guard }], guard := some (8, true) }) (v := .slice (some ⟨b', off', none⟩) XL xc) rfl (by kernel_rfl) (by kernel_rfl) (by kernel_rfl) (fun _ _ _ h => h) (Or.inl ⟨by rfl, ?_⟩) (SK.out _ tV) ?_
                  · rintro w ⟨⟨e1, d0, d1, d2, d3, d4, d5⟩, m0, m1, n0, n1, n2, n3, n4, n5⟩
                    go_simp
                  simp only [Act.put, List.setIfInBounds_toArray, List.set_cons_zero, List.set_cons_succ]
                  refine wpAnyH_take (i := 14) (oi := { dst := some 71, op := Op.move (Operand.tmp 5), type := 3, pos := "ref.go:37", after := #[{ on := 8, ground := Ground.guard }], guard := some (8, true) }) (v := .int .i64 ((q : Nat) : Int)) rfl (by kernel_rfl) (by kernel_rfl) (by kernel_rfl) (fun _ _ _ h => h) (Or.inl ⟨by rfl, ?_⟩) (SK.out _ tV) ?_
                  · rintro w ⟨⟨e1, d0, d1, d2, d3, d4, d5⟩, m0, m1, n0, n1, n2, n3, n4, n5⟩
                    go_simp
                  simp only [Act.put, List.setIfInBounds_toArray, List.set_cons_zero, List.set_cons_succ]
                  refine wpAnyH_take (i := 15) (oi := { dst := some 72, op := Op.binOp BinOp.sub 3 (Operand.tmp 71) (Operand.const (Value.int IntKind.i64 1)) 3, type := 3, pos := "ref.go:37", after := #[{ on := 14, ground := Ground.data }, { on := 8, ground := Ground.guard }], guard := some (8, true) }) (v := .int .i64 (p : Nat)) rfl (by kernel_rfl) (by kernel_rfl) (by kernel_rfl) (fun _ _ _ h => h) (Or.inl ⟨by rfl, ?_⟩) (SK.out _ tV) ?_
                  · rintro w ⟨⟨e1, d0, d1, d2, d3, d4, d5⟩, m0, m1, n0, n1, n2, n3, n4, n5⟩
                    go_simp; rw [HEP.out, HWP.out]
                  simp only [Act.put, List.setIfInBounds_toArray, List.set_cons_zero, List.set_cons_succ]
                  refine wpAnyH_take (i := 16) (oi := { dst := some 73, op := Op.indexAddr 31 (Operand.tmp 70) (Operand.tmp 72), type := 0, pos := "ref.go:37", after := #[{ on := 13, ground := Ground.data }, { on := 15, ground := Ground.data }, { on := 8, ground := Ground.guard }], guard := some (8, true) }) (v := .pointer (some ⟨b', off' + p * 6, none⟩)) rfl (by kernel_rfl) (by kernel_rfl) (by kernel_rfl) (fun _ _ _ h => h) (Or.inl ⟨by rfl, ?_⟩) (SK.out _ tV) ?_
                  · rintro w ⟨⟨e1, d0, d1, d2, d3, d4, d5⟩, m0, m1, n0, n1, n2, n3, n4, n5⟩
                    go_simp; exact fun h => absurd h HPL.out
                  simp only [Act.put, List.setIfInBounds_toArray, List.set_cons_zero, List.set_cons_succ]
                  refine wpAnyH_take (i := 17) (oi := { dst := some 74, op := Op.load 29 (Operand.tmp 73), type := 29, pos := "ref.go:37", after := #[{ on := 16, ground := Ground.data }, { on := 8, ground := Ground.guard }], guard := some (8, true) }) (v := .agg #[.int .u64 (no2 : Nat), .int .i64 sz2, .slice la2 L3 lc2, .slice ma2 L4 mc2, .int .i64 en2, .int .u64 (sq2 : Nat)]) rfl (by kernel_rfl) (by kernel_rfl) (by kernel_rfl) (fun _ _ _ h => h) (Or.inl ⟨by rfl, ?_⟩) (SK.out _ tV) ?_
                  · rintro w ⟨⟨e1, d0, d1, d2, d3, d4, d5⟩, m0, m1, n0, n1, n2, n3, n4, n5⟩
                    go_simp
                  simp only [Act.put, List.setIfInBounds_toArray, List.set_cons_zero, List.set_cons_succ]
                  refine wpAnyH_take (i := 18) (oi := { dst := some 75, op := Op.load 29 (Operand.tmp 6), type := 29, pos := "ref.go:37", after := #[{ on := 8, ground := Ground.guard }], guard := some (8, true) }) (v := .agg #[.int .u64 (no : Nat), .int .i64 sz, .slice la L1 lc, .slice ma L2 mc, .int .i64 en, .int .u64 (sq : Nat)]) rfl (by kernel_rfl) (by kernel_rfl) (by kernel_rfl) (fun _ _ _ h => h) (Or.inl ⟨by rfl, ?_⟩) (SK.out _ tV) ?_
                  · rintro w ⟨⟨e1, d0, d1, d2, d3, d4, d5⟩, m0, m1, n0, n1, n2, n3, n4, n5⟩
                    go_simp
                  simp only [Act.put, List.setIfInBounds_toArray, List.set_cons_zero, List.set_cons_succ]
                  refine wpAnyH_take (i := 19) (oi := { dst := some 76, op := Op.move (Operand.tmp 4), type := 3, pos := "ref.go:37", after := #[{ on := 8, ground := Ground.guard }], guard := some (8, true) }) (v := .int .i64 (k : Nat)) rfl (by kernel_rfl) (by kernel_rfl) (by kernel_rfl) (fun _ _ _ h => h) (Or.inl ⟨by rfl, ?_⟩) (SK.out _ tV) ?_
                  · rintro w ⟨⟨e1, d0, d1, d2, d3, d4, d5⟩, m0, m1, n0, n1, n2, n3, n4, n5⟩
                    go_simp
                  simp only [Act.put, List.setIfInBounds_toArray, List.set_cons_zero, List.set_cons_succ]
                  refine wpAnyH_ready (rs := [20]) (by kernel_rfl) (by simp) ?_
                  refine AllReadyH.cons rfl (fun K hK => ?_) AllReadyH.nil
                  go_simp
                  refine (CB.out _ (TF.out.trans tV)).mono ?_
                  rintro oo Vn ⟨rfl, tC⟩
                  have tN := tC
                  have tV := tV.trans tN
                  clear tC
                  clear tN
                  go_simp
                  refine hK.out _ _ (SK.out _ tV) (fun _ => ?_)
                  clear hK K
                  refine wpAnyH_take (i := 21) (oi := { dst := some 78, op := Op.unOp UnOp.not 4 (Operand.tmp 77), type := 4, pos := "ref.go:37", after := #[{ on := 20, ground := Ground.data }, { on := 8, ground := Ground.guard }], guard := some (8, true) }) (v := .bool false) rfl (by kernel_rfl) (by kernel_rfl) (by kernel_rfl) (fun _ _ _ h => h) (Or.inl ⟨by rfl, ?_⟩) (SK.out _ tV) ?_
                  · rintro w ⟨⟨e1, d0, d1, d2, d3, d4, d5⟩, m0, m1, n0, n1, n2, n3, n4, n5⟩
                    go_simp
                  simp only [Act.put, List.setIfInBounds_toArray, List.set_cons_zero, List.set_cons_succ]
                  refine wpAnyH_take (i := 22) (oi := { dst := some 79, op := Op.pick (Operand.tmp 65) (Operand.tmp 78) (Operand.const (Value.bool false)), type := 4, pos := "ref.go:37", after := #[{ on := 8, ground := Ground.data }, { on := 21, ground := Ground.data }, { on := 5, ground := Ground.guard }], guard := some (5, false) }) (v := .bool false) rfl (by kernel_rfl) (by kernel_rfl) (by kernel_rfl) (fun _ _ _ h => h) (Or.inl ⟨by rfl, ?_⟩) (SK.out _ tV) ?_
                  · rintro w ⟨⟨e1, d0, d1, d2, d3, d4, d5⟩, m0, m1, n0, n1, n2, n3, n4, n5⟩
                    go_simp
                  simp only [Act.put, List.setIfInBounds_toArray, List.set_cons_zero, List.set_cons_succ]
                  refine wpAnyH_take (i := 23) (oi := { dst := some 80, op := Op.pick (Operand.tmp 62) (Operand.const (Value.bool true)) (Operand.tmp 79), type := 4, pos := "ref.go:37", after := #[{ on := 5, ground := Ground.data }, { on := 22, ground := Ground.data }], guard := none }) (v := .bool false) rfl (by kernel_rfl) (by kernel_rfl) (by kernel_rfl) (fun _ _ _ h => h) (Or.inl ⟨by rfl, ?_⟩) (SK.out _ tV) ?_
                  · rintro w ⟨⟨e1, d0, d1, d2, d3, d4, d5⟩, m0, m1, n0, n1, n2, n3, n4, n5⟩
                    go_simp
                  simp only [Act.put, List.setIfInBounds_toArray, List.set_cons_zero, List.set_cons_succ]
                  refine wpAnyH_done (by kernel_rfl) ?_ _
                  have TU := hide (TF.out.trans tV)
                  have SU := hide (SK.out _ tV)
                  clear tV
                  go_wp2_with fail
                  have HSU := hide SU.out
                  go_loopw [7] (fun i wm => ∃ m : Nat, i = .int .i64 (m : Nat) ∧ m ≤ rn ∧ (∀ (t : Nat) (x : Tf), t < m → (AR ++ xl.take q)[t]? = some x → x.f.no ≠ no) ∧ Turns (fun _ => False) Vn wm) (fun i _ => rn - (intOf i).toNat)
                  case atStart => exact ⟨0, rfl, Nat.zero_le _, fun t x ht => absurd ht (Nat.not_lt_zero _), Turns.refl _ _⟩
                  case round =>
                    obtain ⟨m, rfl, hm, hno, hb⟩ := hrel
                    have HN := hide hno
                    have HB5 := hide hb
                    have HB6 := hide (TU.out.trans hb)
                    obtain ⟨_, f0, f1, f2, f3, f4, f5⟩ := (SU.out.1).quiet hb
                    clear hno hb
                    by_cases hmn : m < rn
                    · obtain ⟨x, hx⟩ : ∃ x, (AR ++ xl.take q)[m]? = some x := ⟨_, List.getElem?_eq_getElem (by have := HRN.out; omega)⟩
                      obtain ⟨g, rfl, hg⟩ := rowok_no (HRO.out.keep HB6.out fun _ _ x => x) hx
                      have m1 : (m : Int) < (rn : Int) := by omega
                      have m0 : (0 : Int) ≤ (m : Int) := by omega
                      have HXM := hide hx
                      generalize hxn : x.f.no = xn at *
                      have HXN := hide hxn
                      clear hx hxn f1 f2 f3 f4 f5
                      by_cases hE : xn = no
                      · subst hE
                        have HV := hide (HDD.out (List.mem_map.2 ⟨x, List.mem_of_getElem? HXM.out, HXN.out⟩))
                        go_wp2_with fail
                        go_quiet (fail)
                        go_wp2_with fail
                        go_ret
                        refine ⟨congrArg Ending.returned HV.out, HB2.out.trans (HB6.out.trans ?_)⟩
                        first | exact (Turns.refl _ _).drew | exact drewN_turns _ _ | exact Turns.refl _ _
                      · have hEi : ¬ (xn : Int) = (no : Int) := by omega
                        go_wp2_with fail
                        go_quiet (fail)
                        go_wp2_with fail
                        go_roundw
                        case rel =>
                          refine ⟨m + 1, by go_num, by omega, fun t x' ht hx' => ?_, HB5.out.trans ?_⟩
                          · rcases Nat.lt_or_ge t m with h | h
                            · exact HN.out t x' h hx'
                            · obtain rfl : t = m := by omega
                              rw [HXM.out] at hx'
                              cases hx'
                              rw [HXN.out]
                              exact hE
                          · first | exact (Turns.refl _ _).drew | exact drewN_turns _ _ | exact Turns.refl _ _
                        case measure => simp [intOf]; omega
                    · obtain rfl : m = rn := by omega
                      obtain ⟨a', n', c', w', hr, hn', hro', ht', _⟩ := AP.out (wr.alloc (.cells #[.int .u64 (no : Nat), .int .i64 sz, .slice la L1 lc, .slice ma L2 mc, .int .i64 en, .int .u64 (sq : Nat)] 29)) ((HB6.out).alloc _) wr.heap.size (heap_alloc_new wr _)
                      have HR5 := hide hr
                      have HN5 := hide hn'
                      have HRO5 := hide hro'
                      have HT5 := hide (turns_in (HB3.out.trans (HB6.out.alloc (.cells #[.int .u64 (no : Nat), .int .i64 sz, .slice la L1 lc, .slice ma L2 mc, .int .i64 en, .int .u64 (sq : Nat)] 29))) rfl (HRO.out.keep (HB6.out.alloc (.cells #[.int .u64 (no : Nat), .int .i64 sz, .slice la L1 lc, .slice ma L2 mc, .int .i64 en, .int .u64 (sq : Nat)] 29)) fun _ _ x => x) ht')
                      clear hr hn' hro' ht'
                      go_wp2_with (at_builtin; refine wpList_append_run rfl _ _ 31 rfl (.slice ra m rc) (.slice (some ⟨wr.heap.size, 0, none⟩) 1 1) rfl rfl _ _ (HR5.out _) ?_)
                      go_roundw
                      case rel =>
                        refine ⟨q + 1, a', n', c', by go_num, rfl, by omega, by rw [HTS.out]; exact HN5.out, by rw [HTS.out]; exact HRO5.out, ?_, HGP.out.step HY.out HOK.out (HGS.out), HT5.out⟩
                        rw [HTS.out]
                        unfold nos
                        rw [List.map_append, List.nodup_append]
                        refine ⟨HND.out, by simp, fun u hu v hv => ?_⟩
                        obtain ⟨x', hx', rfl⟩ := List.mem_map.1 hu
                        obtain ⟨t, ht⟩ := List.getElem?_of_mem hx'
                        have h5 := HN.out t x' (by have := HRN.out; have := (List.getElem?_eq_some_iff.1 ht).1; omega) ht
                        simp only [List.map_cons, List.map_nil, List.mem_singleton] at hv
                        rw [hv]
                        exact h5
                      case measure => simp [intOf]; omega
          · obtain rfl : q = XL := by omega
            have ht : xl.take q = xl := List.take_of_length_le (by have := HXL.out; omega)
            rw [ht] at HRN HRO HND
            have HGL := hide (HXL.out ▸ HGP.out : GP next k xl xl.length).level
            clear ht
            go_wp2_with fail
            go_roundw
            case rel => exact ⟨k + 1, ra, rn, rc, by go_num, rfl, by omega, by rw [HAT.out]; exact HRN.out, by rw [HAT.out]; exact HRO.out, by rw [HAT.out]; exact HND.out, by rw [HWT.out, HGD.out, HGL.out]; rfl, HB3.out⟩
            case measure => simp [intOf]; omega
      · obtain rfl : k = 5 := by omega
        have ht : L.take 5 = L := List.take_of_length_le (by have := HL.out; omega)
        rw [ht] at HRN HRO HND HGD
        have HV := hide (show wrongV L next seq log = false by
          have h1 := HI.out
          have h2 := HND.out
          rw [allT_nos] at h2
          unfold wrongV
          rw [HGD.out, ← HL.out]
          simp [headBad, h2]
          omega)
        have HC := hide (show (rn : Int) ≤ 5000 by have := HRN.out; rw [allT_length] at this; have := H.out.cnt; omega)
        have hrn5 := HC.out
        have CB := hide (rbytes_any a 5 c next seq log L wr (H.out.levs.quiet HB.out) HL.out (by omega) (by have := H.out.cnt; omega) H.out.fit (wrongV_files HV.out) H.out.b1 H.out.b2 H.out.b3 (by have := H.out.byts; omega))
        unfold verAgg at CB
        clear ht
        go_wp2_with fail
        refine CB.out.mono ?_
        rintro e w5 ⟨t, rfl, ht, t5⟩
        have T5 := hide t5
        have htb : t ≤ 1048576 := by have := H.out.cnt; have := H.out.byts; omega
        clear t5 ht v0 v1 v2 v3
        go_wp2_with fail
        go_ret
        exact ⟨congrArg Ending.returned (HR.out HV.out), HB.out.trans T5.out⟩
  · have HV := hide (HW.out (show wrongV L next seq log = true by
      have h2 := H.out.len
      unfold wrongV headBad
      simp only [Bool.or_eq_true, decide_eq_true_eq]
      omega))
    generalize chkV L next seq log = CV at *
    have RR := hide (congrArg Ending.returned HV.out)
    by_cases j0 : (n : Int) = 5
    · obtain rfl : n = 5 := by omega
      by_cases j1 : (next : Int) < 1
      · go_enter Try.func22, Try.ntmps22
        go_wp2_with fail
        go_ret
        exact ⟨RR.out, TA.out⟩
      by_cases j2 : (1000000000000 : Int) < next
      · go_enter Try.func22, Try.ntmps22
        go_wp2_with fail
        go_ret
        exact ⟨RR.out, TA.out⟩
      by_cases j3 : (72057594037927935 : Int) < seq
      · go_enter Try.func22, Try.ntmps22
        go_wp2_with fail
        go_ret
        exact ⟨RR.out, TA.out⟩
      have j4 : (1000000000000 : Int) ≤ log := by omega
      go_enter Try.func22, Try.ntmps22
      go_wp2_with fail
      go_ret
      exact ⟨RR.out, TA.out⟩
    · go_enter Try.func22, Try.ntmps22
      go_wp2_with fail
      go_ret
      exact ⟨RR.out, TA.out⟩
end Go.Proofs.Ytkmcdjbadngfgaa
