import Derived.Test.YtpgligfolecieaaM28
/-
  The document's Row.
-/
namespace Go.Proofs.Ytpgligfolecieaa
open Go.RowKit
set_option maxRecDepth 100000
set_option maxHeartbeats 8000000
theorem ERow.cut {w : World} {B : Nat} {a : Option Addr} {m c : Nat} {R : List Tow} {y : Tow} (h : ERow w B (.slice a (m + 1) c) (R ++ [y])) (hm : m = R.length) : ERow w B (.slice a m c) R := by
  rcases h with ⟨e, _⟩ | ⟨g, c', n, e, hn, hc, hB, cs, h1, h2, h3⟩
  · simp at e
  · cases e
    refine .inr ⟨g, c, m, rfl, hm, by omega, hB, cs, h1, h2, fun k hk => ?_⟩
    rw [h3 k (by rw [entCells_length] at hk ⊢; simp; omega), entCells_append, List.getElem?_append_left hk]
theorem ERow.last {w : World} {B : Nat} {a : Option Addr} {m c : Nat} {R : List Tow} {y : Tow} (h : ERow w B (.slice a (m + 1) c) (R ++ [y])) (hm : m = R.length) : ∃ g, a = some ⟨g, 0, none⟩ ∧ E4 w g (m * 4) y ∧ m + 1 ≤ c := by
  rcases h with ⟨e, _⟩ | ⟨g, c', n, e, hn, hc, hB, hrow⟩
  · simp at e
  · cases e
    exact ⟨g, rfl, row_e4 hrow (by rw [hm]; simp), hc⟩
theorem snoc_of {α : Type} {l : List α} {m : Nat} (h : l.length = m + 1) : ∃ r y, l = r ++ [y] ∧ r.length = m := by
  have hne : l ≠ [] := fun e => by rw [e] at h; cases h
  exact ⟨l.dropLast, l.getLast hne, (List.dropLast_concat_getLast hne).symm, by simp [h]⟩
/-- How far the document's Row has come within a group. -/
structure Rk (w wr : World) (v : Value) (l : List Tow) (R : List Tow) : Prop where
  row : ERow wr w.heap.size v R
  mem : ∀ x, x ∈ R → x ∈ l
  turn : Turns (fun _ => False) w wr
theorem Rk.quiet {w wr wr' : World} {v : Value} {l R : List Tow} (h : Rk w wr v l R) (t : Turns (fun _ => False) wr wr') : Rk w wr' v l R := ⟨h.row.keep t (fun _ _ x => x), h.mem, h.turn.trans t⟩
/-- What is left of a group when its end is trimmed. -/
structure Tr (bot : Bool) (k : List (BitVec 8)) (D G1 G2 es : List Ent) : Prop where
  eq : es = D ++ G2
  low : ∀ d, d ∈ D → cmpB d.key k < 0
  key : ∀ g, g ∈ G2 → g.key = k
  off : bot = false → G2 = G1
  on : bot = true → trimE G2 = trimE G1
theorem Tr.pop {k : List (BitVec 8)} {D G1 G2 es : List Ent} {y : Ent} (h : Tr true k D G1 G2 (es ++ [y])) (hk : y.key = k) (hd : y.kind = 2) : ∃ G3, Tr true k D G1 G3 es := by
  rcases List.eq_nil_or_concat G2 with e | ⟨G3, z, e⟩
  · exfalso
    have h1 := h.eq
    rw [e, List.append_nil] at h1
    have := h.low y (by rw [← h1]; simp)
    rw [hk, (cmpB_zero k k).2 rfl] at this
    omega
  · rw [List.concat_eq_append] at e
    subst e
    have h1 := h.eq
    rw [← List.append_assoc] at h1
    have h2 := List.append_inj_left' h1 rfl
    have h3 := List.append_inj_right' h1 rfl
    obtain rfl : y = z := by simpa using h3
    refine ⟨G3, h2, h.low, fun g hg => h.key g (List.mem_append_left _ hg), fun e => (by cases e), fun _ => ?_⟩
    rw [← h.on rfl, trimE_snoc, if_pos hd]
theorem Tr.stop_nil {k : List (BitVec 8)} {D G1 G2 : List Ent} (h : Tr true k D G1 G2 []) : [] = D ++ trimE G1 := by
  have h1 := h.eq
  have e1 : D = [] := by cases D with
    | nil => rfl
    | cons a r => cases h1
  have e2 : G2 = [] := by cases G2 with
    | nil => rfl
    | cons a r => rw [e1] at h1; cases h1
  rw [e1, ← h.on rfl, e2]
  rfl
theorem Tr.stop_key {k : List (BitVec 8)} {D G1 G2 es : List Ent} {y : Ent} (h : Tr true k D G1 G2 (es ++ [y])) (hk : y.key ≠ k) : es ++ [y] = D ++ trimE G1 := by
  rcases List.eq_nil_or_concat G2 with e | ⟨G3, z, e⟩
  · rw [← h.on rfl, e]
    have := h.eq
    rw [e] at this
    exact this
  · exfalso
    rw [List.concat_eq_append] at e
    subst e
    have h1 := h.eq
    rw [← List.append_assoc] at h1
    have h3 := List.append_inj_right' h1 rfl
    obtain rfl : y = z := by simpa using h3
    exact hk (h.key y (by simp))
theorem Tr.stop_kind {k : List (BitVec 8)} {D G1 G2 es : List Ent} {y : Ent} (h : Tr true k D G1 G2 (es ++ [y])) (hk : y.key = k) (hd : y.kind ≠ 2) : es ++ [y] = D ++ trimE G1 := by
  rcases List.eq_nil_or_concat G2 with e | ⟨G3, z, e⟩
  · exfalso
    have h1 := h.eq
    rw [e, List.append_nil] at h1
    have := h.low y (by rw [← h1]; simp)
    rw [hk, (cmpB_zero k k).2 rfl] at this
    omega
  · rw [List.concat_eq_append] at e
    subst e
    have h1 := h.eq
    rw [← List.append_assoc] at h1
    have h3 := List.append_inj_right' h1 rfl
    obtain rfl : y = z := by simpa using h3
    rw [← h.on rfl, trimE_snoc, if_neg hd]
    exact h.eq
/-- What the document's Row answers. -/
def RRowR (w w' : World) (l : List Tow) (T : List Ent) (ok : Bool) (e : Ending) : Prop := (ok = false ∧ e = .returned (.tuple #[.slice none 0 0, .int .i64 2])) ∨ (ok = true ∧ ∃ (v : Value) (Q : List Tow), e = .returned (.tuple #[v, .int .i64 0]) ∧ Rk w w' v l Q ∧ ents Q = T)
def slLen : Value → Nat
  | .slice _ n _ => n
  | _ => 0
def u4 (w : World) (b o : Nat) (x : Tow) : Prop := w.cell? ⟨b, o, none⟩ = some x.kv ∧ w.cell? ⟨b, o + 1, none⟩ = some (.int .u64 (x.e.seq : Nat)) ∧ w.cell? ⟨b, o + 2, none⟩ = some (.int .i64 x.e.kind) ∧ w.cell? ⟨b, o + 3, none⟩ = some x.vv
theorem rRow_any (a la : Option Addr) (n c ln lc : Nat) (l : List Tow) (ks : List Nat) (bot : Bool) (w : World) (h : Ents w a l) (hn : n = l.length) (hmx : n ≤ 1000000) (hkb : ∀ x, x ∈ l → x.e.key.length ≤ 1000000) (hk : U64s w la ks) (hkn : ln = ks.length) (hkm : ln ≤ 100000) :
    Calls Try.prog 16 #[.slice a n c, .slice la ln lc, .bool bot] w fun e w' => RRowR w w' l (rowE (allN ks) bot (ents l)) (inOrd (ents l) && looksOk ks) e ∧ Turns (fun _ => False) w w' := by
  have VI := hide (rVisible_any a la n c ln lc l ks w h hn hmx hkb hk hkn hkm)
  have H := hide h
  have HN := hide hn
  have HKB := hide hkb
  have HV := hide (show (vis (allN ks) (ents l)).length = n by rw [vis_length]; simp [ents]; exact hn.symm)
  have HRE := hide (show rowE (allN ks) bot (ents l) = keepB (ents l) (if bot then stayB ((ents l).zip (vis (allN ks) (ents l))) else vis (allN ks) (ents l)) from rfl)
  have HUP := hide (show inOrd (ents l) = true → ∀ i x y, l[i]? = some x → l[i + 1]? = some y → cmpB x.e.key y.e.key ≤ 0 from fun e i x y hx hy => ltE_key (a := x.e) (b := y.e) ((inOrd_iff _).1 e i _ _ (ents_get hx) (ents_get hy)))
  have HOI := hide (show (inOrd (ents l) && looksOk ks) = true → inOrd (ents l) = true from fun e => by rw [Bool.and_eq_true] at e; exact e.1)
  obtain ⟨ok, hok⟩ : ∃ ok, (inOrd (ents l) && looksOk ks) = ok := ⟨_, rfl⟩
  rw [hok] at VI HOI ⊢
  rw [HRE.out]
  generalize vis (allN ks) (ents l) = bs at *
  have PL : ((ents l).zip bs).length = n := by rw [List.length_zip, HV.out]; simp [ents]; omega
  have HPL := hide PL
  have HM1 := hide (show ((ents l).zip bs).map (·.1) = ents l from List.map_fst_zip (by rw [HV.out]; simp [ents]; omega))
  have HM2 := hide (show ((ents l).zip bs).map (·.2) = bs from List.map_snd_zip (by rw [HV.out]; simp [ents]; omega))
  have HPA := hide (show ∀ (i : Nat) (x : Tow), l[i]? = some x → ∃ b, ((ents l).zip bs)[i]? = some (x.e, b) ∧ bs[i]? = some b from fun i x hx => by
    have hi := (List.getElem?_eq_some_iff.1 hx).1
    refine ⟨bs[i]'(by have := HV.out; omega), ?_, List.getElem?_eq_getElem _⟩
    rw [List.getElem?_zip_eq_some]
    exact ⟨ents_get hx, List.getElem?_eq_getElem _⟩)
  have R0 := hide (RInv.start bot ((ents l).zip bs))
  rw [HM1.out, HM2.out] at R0
  generalize (ents l).zip bs = P at *
  clear h hn hk hkn hok hkb PL HRE
  obtain ⟨T, hT⟩ : ∃ T, keepB (ents l) (if bot then stayB P else bs) = T := ⟨_, rfl⟩
  rw [hT] at R0 ⊢
  clear hT
  go_enter Try.func16, Try.ntmps16
  go_wp2_with fail
  refine VI.out.mono ?_
  rintro e w1 ⟨hs, t1⟩
  have T1 := hide t1
  clear t1 VI
  rcases hs with ⟨rfl, rfl⟩ | ⟨rfl, g, rfl, hbs⟩
  · go_wp2_with fail
    go_ret2
    exact ⟨.inl ⟨rfl, rfl⟩, T1.out⟩
  have HBS := hide hbs
  have HUP2 := hide (HUP.out (HOI.out rfl))
  clear hbs HUP HOI
  have K0 := hide (show Rk w w1 (.slice none 0 0) l [] from ⟨.inl ⟨rfl, rfl⟩, fun x hx => (by cases hx), T1.out⟩)
  go_wp2_with fail
  go_loopw [10, 11] (fun ov iv wr => ∃ (i : Nat) (R : List Tow) (D G : List Ent), iv = .int .i64 (i : Nat) ∧ i ≤ n ∧ Rk w wr ov l R ∧ Bools wr g bs ∧ ents R = D ++ G ∧ RInv bot T D G (P.drop i) ∧ R.length ≤ i) (fun _ iv _ => n - (intOf iv).toNat)
  case atStart => exact ⟨0, [], [], [], rfl, Nat.zero_le _, K0.out, HBS.out, rfl, R0.out, Nat.zero_le _⟩
  case round =>
    obtain ⟨i, R, D, G, rfl, hi, hrk, hbw, heq, hrv, hrl⟩ := hrel
    obtain ⟨oa, oc, rfl⟩ := hrk.row.len
    have HRK := hide hrk
    have HBW := hide hbw
    have HEQ := hide heq
    have HRV := hide hrv
    clear hrk hbw heq hrv K0
    by_cases hin : i < n
    · obtain ⟨x, hx⟩ : ∃ x, l[i]? = some x := ⟨_, List.getElem?_eq_getElem (by have := HN.out; omega)⟩
      obtain ⟨pb, hpb, hbi⟩ := HPA.out i x hx
      have HX := hide hx
      have HD := hide (drop_cons hpb)
      obtain ⟨b, off, rfl, hc, hkx, hvx⟩ := ents_at2 (H.out.quiet HRK.out.turn) hx
      obtain ⟨cs, k1, k2, k3⟩ := HBW.out
      have y9 := cell_of_row wr g i _ 4 (0, 0) k1
      rw [k3 i pb hbi] at y9
      have HC := hide hc
      have i2 : (i : Int) < n := by omega
      have i0 : (0 : Int) ≤ i := by omega
      obtain ⟨y0, y1, y2, y3⟩ := hc
      clear hx hpb hbi hkx hvx k1 k2 k3
      go_upto_if 30 with (fail)
      go_cut [10] from 21 to 88 (fun ov wc => ∃ (R1 : List Tow), Rk w wc ov l R1 ∧ Bools wc g bs ∧ ents R1 = D ++ (G ++ put1 pb x.e) ∧ R1.length ≤ i + 1)
      case first =>
        rename_i kk rest jj kk' m1 m2
        clear rest
        cases pb
        · go_wp2_with fail
          go_meet
          exact ⟨R, HRK.out, HBW.out, by rw [HEQ.out]; simp [put1], by omega⟩
        · have tA := (Turns.refl (fun _ => False) wr).alloc (.cells #[x.kv, .int .u64 (x.e.seq : Nat), .int .i64 x.e.kind, x.vv] 29)
          obtain ⟨g', n', c', w2, hr, hrow, t4, b4, _⟩ := append_ent (wr.alloc (.cells #[x.kv, .int .u64 (x.e.seq : Nat), .int .i64 x.e.kind, x.vv] 29)) w.heap.size (.slice oa R.length oc) R (HRK.out.row.keep tA (fun _ _ x => x)) (HRK.out.turn.trans tA).size (by omega) x wr.heap.size 1 (heap_alloc_new wr _)
          have HF := hide (show Rk w w2 (.slice (some ⟨g', 0, none⟩) n' c') l (R ++ [x]) ∧ Bools w2 g bs from ⟨⟨hrow, fun z hz => by
            rcases List.mem_append.1 hz with hz | hz
            · exact HRK.out.mem z hz
            · rw [List.mem_singleton.1 hz]; exact List.mem_of_getElem? HX.out, Turns.of_below (((HRK.out.turn.trans tA).below (Nat.le_refl _) (fun _ x => x.elim)).trans b4) _⟩, by
            obtain ⟨cs, k1, k2⟩ := HBW.out
            refine ⟨cs, t4.heap (tA.heap k1 (fun x => x)) (fun hh => ?_), k2⟩
            obtain ⟨cs2, h2⟩ := HRK.out.row.typed hh
            rw [h2] at k1
            cases k1⟩)
          have HQ := hide hr
          clear hr hrow t4 b4 tA
          go_wp2_with (at_builtin; refine wpList_append_run rfl _ _ 31 rfl _ _ rfl rfl _ _ (HQ.out _) ?_)
          go_meet
          exact ⟨R ++ [x], HF.out.1, HF.out.2, by unfold ents; rw [List.map_append, ← ents, HEQ.out]; simp [put1], by simp; omega⟩
      case rest =>
        obtain ⟨R1, hrk1, hbw1, heq1, hrl1⟩ := hcut
        obtain ⟨oa1, oc1, rfl⟩ := hrk1.row.len
        have HRK1 := hide hrk1
        have HBW1 := hide hbw1
        have HEQ1 := hide heq1
        clear hrk1 hbw1 heq1
        have HW1 := hide (H.out.quiet HRK1.out.turn)
        obtain ⟨b', off', e', hc1, hkx1, _⟩ := ents_at2 HW1.out HX.out
        cases e'
        have HC1 := hide hc1
        have HBX1 := hide hkx1
        clear hc1 hkx1 y0 y1 y2 y3 y9 HC
        go_upto_region 10 with (fail)
        go_cut [54] from 21 to 88 (fun v54 wd => ∃ q : Bool, v54 = .bool q ∧ Turns (fun _ => False) wc wd ∧ sameHd x.e (P.drop (i + 1)) = q)
        case first =>
          rename_i kk rest jj kk' m1 m2
          clear rest
          by_cases hl : i + 1 = n
          · have d0 : ¬ (i : Int) + 1 < (n : Int) := by omega
            have d1 : decide ((i : Int) + 1 < (n : Int)) = false := decide_eq_false d0
            have HDE := hide (show sameHd x.e (P.drop (i + 1)) = false by rw [List.drop_eq_nil_of_le (by have := HPL.out; omega)]; rfl)
            go_quiet (fail)
            go_wp2_with fail
            go_meet
            exact ⟨false, rfl, (Turns.refl _ _).drewN _, HDE.out⟩
          · obtain ⟨y, hy⟩ : ∃ y, l[i + 1]? = some y := ⟨_, List.getElem?_eq_getElem (by have := HN.out; omega)⟩
            obtain ⟨pb2, hpb2, _⟩ := HPA.out (i + 1) y hy
            have HD2 := hide (drop_cons hpb2)
            obtain ⟨b', off', e', hcy, hky, hvy⟩ := ents_at2 HW1.out hy
            cases e'
            have SC := hide (fun (u : World) (t : Turns (fun _ => False) wc u) => rsame41 x y u (HBX1.out.quiet t) (hky.quiet t) (HKB.out x (List.mem_of_getElem? HX.out)) (HKB.out y (List.mem_of_getElem? hy)))
            have HCY := hide hcy
            have j1 : (i : Int) + 1 < n := by omega
            have j0 : (0 : Int) ≤ (i : Int) + 1 := by omega
            clear hy hcy hky hvy hpb2
            have HSH := hide (show sameHd x.e ((y.e, pb2) :: P.drop (i + 1 + 1)) = decide (x.e.key = y.e.key) from rfl)
            obtain ⟨sk, hsk⟩ : ∃ sk : Bool, decide (x.e.key = y.e.key) = sk := ⟨_, rfl⟩
            rw [hsk] at SC HSH
            clear hsk
            obtain ⟨ka, kc, va, vc, ⟨key, sq, kd, val⟩⟩ := x
            obtain ⟨ka2, kc2, va2, vc2, ⟨key2, sq2, kd2, val2⟩⟩ := y
            unfold Tow.ent Tow.kv Tow.vv at *
            simp only at *
            generalize key.length = L1 at *
            generalize key2.length = L3 at *
            generalize val.length = L2 at *
            generalize val2.length = L4 at *
            have tV : Turns (fun _ => False) wc wc.drew := (Turns.refl _ _).drew
            have SK := hide (fun (u : World) (t : Turns (fun _ => False) wc u) => show (u.cell? ⟨b, off + i * 4, none⟩ = some (.slice ka L1 kc) ∧ u.cell? ⟨b, off + i * 4 + 1, none⟩ = some (.int .u64 (sq : Nat)) ∧ u.cell? ⟨b, off + i * 4 + 2, none⟩ = some (.int .i64 kd) ∧ u.cell? ⟨b, off + i * 4 + 3, none⟩ = some (.slice va L2 vc)) ∧ u.cell? ⟨b, off + (i + 1) * 4, none⟩ = some (.slice ka2 L3 kc2) ∧ u.cell? ⟨b, off + (i + 1) * 4 + 1, none⟩ = some (.int .u64 (sq2 : Nat)) ∧ u.cell? ⟨b, off + (i + 1) * 4 + 2, none⟩ = some (.int .i64 kd2) ∧ u.cell? ⟨b, off + (i + 1) * 4 + 3, none⟩ = some (.slice va2 L4 vc2) from ⟨⟨t.cell HC1.out.1 (fun x => x), t.cell HC1.out.2.1 (fun x => x), t.cell HC1.out.2.2.1 (fun x => x), t.cell HC1.out.2.2.2 (fun x => x)⟩, t.cell HCY.out.1 (fun x => x), t.cell HCY.out.2.1 (fun x => x), t.cell HCY.out.2.2.1 (fun x => x), t.cell HCY.out.2.2.2 (fun x => x)⟩)
            refine wp_region_held_drew (S := fun u => (u.cell? ⟨b, off + i * 4, none⟩ = some (.slice ka L1 kc) ∧ u.cell? ⟨b, off + i * 4 + 1, none⟩ = some (.int .u64 (sq : Nat)) ∧ u.cell? ⟨b, off + i * 4 + 2, none⟩ = some (.int .i64 kd) ∧ u.cell? ⟨b, off + i * 4 + 3, none⟩ = some (.slice va L2 vc)) ∧ u.cell? ⟨b, off + (i + 1) * 4, none⟩ = some (.slice ka2 L3 kc2) ∧ u.cell? ⟨b, off + (i + 1) * 4 + 1, none⟩ = some (.int .u64 (sq2 : Nat)) ∧ u.cell? ⟨b, off + (i + 1) * 4 + 2, none⟩ = some (.int .i64 kd2) ∧ u.cell? ⟨b, off + (i + 1) * 4 + 3, none⟩ = some (.slice va2 L4 vc2)) (by kernel_rfl) (SK.out _ tV) (fun _ => ?_)
            change wpAnyH _ _ _ _ _ 17 (Array.replicate 17 false) _ _
            refine wpAnyH_take (i := 0) (oi := { dst := some 38, op := Op.move (Operand.tmp 11), type := 3, pos := "ref.go:50", after := #[], guard := none }) (v := .int .i64 (i : Nat)) rfl (by kernel_rfl) (by kernel_rfl) (by kernel_rfl) (fun _ _ _ h => h) (Or.inl ⟨by rfl, ?_⟩) (SK.out _ tV) ?_
            · rintro w ⟨⟨s0, s1, s2, s3⟩, s4, s5, s6, s7⟩
              go_simp
            simp only [Act.put, List.setIfInBounds_toArray, List.set_cons_zero, List.set_cons_succ]
            refine wpAnyH_take (i := 1) (oi := { dst := some 39, op := Op.binOp BinOp.add 3 (Operand.tmp 38) (Operand.const (Value.int IntKind.i64 1)) 3, type := 3, pos := "ref.go:50", after := #[{ on := 0, ground := Ground.data }], guard := none }) (v := .int .i64 ((i : Int) + 1)) rfl (by kernel_rfl) (by kernel_rfl) (by kernel_rfl) (fun _ _ _ h => h) (Or.inl ⟨by rfl, ?_⟩) (SK.out _ tV) ?_
            · rintro w ⟨⟨s0, s1, s2, s3⟩, s4, s5, s6, s7⟩
              go_simp; first | done | exact wrapI _ (by omega) (by omega)
            simp only [Act.put, List.setIfInBounds_toArray, List.set_cons_zero, List.set_cons_succ]
            refine wpAnyH_take (i := 2) (oi := { dst := some 40, op := Op.move (Operand.tmp 0), type := 31, pos := "ref.go:50", after := #[], guard := none }) (v := .slice (some ⟨b, off, none⟩) n c) rfl (by kernel_rfl) (by kernel_rfl) (by kernel_rfl) (fun _ _ _ h => h) (Or.inl ⟨by rfl, ?_⟩) (SK.out _ tV) ?_
            · rintro w ⟨⟨s0, s1, s2, s3⟩, s4, s5, s6, s7⟩
              go_simp
            simp only [Act.put, List.setIfInBounds_toArray, List.set_cons_zero, List.set_cons_succ]
            refine wpAnyH_take (i := 3) (oi := { dst := some 41, op := Op.call { callee := Callee.builtin Builtin.len, args := #[Operand.tmp 40], argTypes := #[31] }, type := 3, pos := "ref.go:50", after := #[{ on := 2, ground := Ground.data }], guard := none }) (v := .int .i64 (n : Nat)) rfl (by kernel_rfl) (by kernel_rfl) (by kernel_rfl) (fun _ _ _ h => h) (Or.inl ⟨by rfl, ?_⟩) (SK.out _ tV) ?_
            · rintro w ⟨⟨s0, s1, s2, s3⟩, s4, s5, s6, s7⟩
              go_simp
            simp only [Act.put, List.setIfInBounds_toArray, List.set_cons_zero, List.set_cons_succ]
            refine wpAnyH_take (i := 4) (oi := { dst := some 42, op := Op.binOp BinOp.lss 3 (Operand.tmp 39) (Operand.tmp 41) 3, type := 4, pos := "ref.go:50", after := #[{ on := 1, ground := Ground.data }, { on := 3, ground := Ground.data }], guard := none }) (v := .bool true) rfl (by kernel_rfl) (by kernel_rfl) (by kernel_rfl) (fun _ _ _ h => h) (Or.inl ⟨by rfl, ?_⟩) (SK.out _ tV) ?_
            · rintro w ⟨⟨s0, s1, s2, s3⟩, s4, s5, s6, s7⟩
              go_simp
            simp only [Act.put, List.setIfInBounds_toArray, List.set_cons_zero, List.set_cons_succ]
            refine wpAnyH_take (i := 5) (oi := { dst := some 43, op := Op.move (Operand.tmp 42), type := 4, pos := "ref.go:50", after := #[{ on := 4, ground := Ground.data }], guard := none }) (v := .bool true) rfl (by kernel_rfl) (by kernel_rfl) (by kernel_rfl) (fun _ _ _ h => h) (Or.inl ⟨by rfl, ?_⟩) (SK.out _ tV) ?_
            · rintro w ⟨⟨s0, s1, s2, s3⟩, s4, s5, s6, s7⟩
              go_simp
            simp only [Act.put, List.setIfInBounds_toArray, List.set_cons_zero, List.set_cons_succ]
            refine wpAnyH_take (i := 6) (oi := { dst := some 44, op := Op.move (Operand.tmp 0), type := 31, pos := "ref.go:50", after := #[{ on := 5, ground := Ground.guard }], guard := some (5, true) }) (v := .slice (some ⟨b, off, none⟩) n c) rfl (by kernel_rfl) (by kernel_rfl) (by kernel_rfl) (fun _ _ _ h => h) (Or.inl ⟨by rfl, ?_⟩) (SK.out _ tV) ?_
            · rintro w ⟨⟨s0, s1, s2, s3⟩, s4, s5, s6, s7⟩
              go_simp
            simp only [Act.put, List.setIfInBounds_toArray, List.set_cons_zero, List.set_cons_succ]
            refine wpAnyH_take (i := 7) (oi := { dst := some 45, op := Op.move (Operand.tmp 11), type := 3, pos := "ref.go:50", after := #[{ on := 5, ground := Ground.guard }], guard := some (5, true) }) (v := .int .i64 (i : Nat)) rfl (by kernel_rfl) (by kernel_rfl) (by kernel_rfl) (fun _ _ _ h => h) (Or.inl ⟨by rfl, ?_⟩) (SK.out _ tV) ?_
            · rintro w ⟨⟨s0, s1, s2, s3⟩, s4, s5, s6, s7⟩
              go_simp
            simp only [Act.put, List.setIfInBounds_toArray, List.set_cons_zero, List.set_cons_succ]
            refine wpAnyH_take (i := 8) (oi := { dst := some 46, op := Op.indexAddr 31 (Operand.tmp 44) (Operand.tmp 45), type := 0, pos := "ref.go:50", after := #[{ on := 6, ground := Ground.data }, { on := 7, ground := Ground.data }, { on := 5, ground := Ground.guard }], guard := some (5, true) }) (v := .pointer (some ⟨b, off + i * 4, none⟩)) rfl (by kernel_rfl) (by kernel_rfl) (by kernel_rfl) (fun _ _ _ h => h) (Or.inl ⟨by rfl, ?_⟩) (SK.out _ tV) ?_
            · rintro w ⟨⟨s0, s1, s2, s3⟩, s4, s5, s6, s7⟩
              go_simp
            simp only [Act.put, List.setIfInBounds_toArray, List.set_cons_zero, List.set_cons_succ]
            refine wpAnyH_take (i := 9) (oi := { dst := some 47, op := Op.load 29 (Operand.tmp 46), type := 29, pos := "ref.go:50", after := #[{ on := 8, ground := Ground.data }, { on := 5, ground := Ground.guard }], guard := some (5, true) }) (v := .agg #[.slice ka L1 kc, .int .u64 (sq : Nat), .int .i64 kd, .slice va L2 vc]) rfl (by kernel_rfl) (by kernel_rfl) (by kernel_rfl) (fun _ _ _ h => h) (Or.inl ⟨by rfl, ?_⟩) (SK.out _ tV) ?_
            · rintro w ⟨⟨s0, s1, s2, s3⟩, s4, s5, s6, s7⟩
              go_simp
            simp only [Act.put, List.setIfInBounds_toArray, List.set_cons_zero, List.set_cons_succ]
            refine wpAnyH_take (i := 10) (oi := { dst := some 48, op := Op.move (Operand.tmp 0), type := 31, pos := "ref.go:50", after := #[{ on := 5, ground := Ground.guard }], guard := some (5, true) }) (v := .slice (some ⟨b, off, none⟩) n c) rfl (by kernel_rfl) (by kernel_rfl) (by kernel_rfl) (fun _ _ _ h => h) (Or.inl ⟨by rfl, ?_⟩) (SK.out _ tV) ?_
            · rintro w ⟨⟨s0, s1, s2, s3⟩, s4, s5, s6, s7⟩
              go_simp
            simp only [Act.put, List.setIfInBounds_toArray, List.set_cons_zero, List.set_cons_succ]
            refine wpAnyH_take (i := 11) (oi := { dst := some 49, op := Op.move (Operand.tmp 11), type := 3, pos := "ref.go:50", after := #[{ on := 5, ground := Ground.guard }], guard := some (5, true) }) (v := .int .i64 (i : Nat)) rfl (by kernel_rfl) (by kernel_rfl) (by kernel_rfl) (fun _ _ _ h => h) (Or.inl ⟨by rfl, ?_⟩) (SK.out _ tV) ?_
            · rintro w ⟨⟨s0, s1, s2, s3⟩, s4, s5, s6, s7⟩
              go_simp
            simp only [Act.put, List.setIfInBounds_toArray, List.set_cons_zero, List.set_cons_succ]
            refine wpAnyH_take (i := 12) (oi := { dst := some 50, op := Op.binOp BinOp.add 3 (Operand.tmp 49) (Operand.const (Value.int IntKind.i64 1)) 3, type := 3, pos := "ref.go:50", after := #[{ on := 11, ground := Ground.data }, { on := 5, ground := Ground.guard }], guard := some (5, true) }) (v := .int .i64 ((i : Int) + 1)) rfl (by kernel_rfl) (by kernel_rfl) (by kernel_rfl) (fun _ _ _ h => h) (Or.inl ⟨by rfl, ?_⟩) (SK.out _ tV) ?_
            · rintro w ⟨⟨s0, s1, s2, s3⟩, s4, s5, s6, s7⟩
              go_simp; exact wrapI _ (by omega) (by omega)
            simp only [Act.put, List.setIfInBounds_toArray, List.set_cons_zero, List.set_cons_succ]
            refine wpAnyH_take (i := 13) (oi := { dst := some 51, op := Op.indexAddr 31 (Operand.tmp 48) (Operand.tmp 50), type := 0, pos := "ref.go:50", after := #[{ on := 10, ground := Ground.data }, { on := 12, ground := Ground.data }, { on := 5, ground := Ground.guard }], guard := some (5, true) }) (v := .pointer (some ⟨b, off + (i + 1) * 4, none⟩)) rfl (by kernel_rfl) (by kernel_rfl) (by kernel_rfl) (fun _ _ _ h => h) (Or.inl ⟨by rfl, ?_⟩) (SK.out _ tV) ?_
            · rintro w ⟨⟨s0, s1, s2, s3⟩, s4, s5, s6, s7⟩
              go_simp
            simp only [Act.put, List.setIfInBounds_toArray, List.set_cons_zero, List.set_cons_succ]
            refine wpAnyH_take (i := 14) (oi := { dst := some 52, op := Op.load 29 (Operand.tmp 51), type := 29, pos := "ref.go:50", after := #[{ on := 13, ground := Ground.data }, { on := 5, ground := Ground.guard }], guard := some (5, true) }) (v := .agg #[.slice ka2 L3 kc2, .int .u64 (sq2 : Nat), .int .i64 kd2, .slice va2 L4 vc2]) rfl (by kernel_rfl) (by kernel_rfl) (by kernel_rfl) (fun _ _ _ h => h) (Or.inl ⟨by rfl, ?_⟩) (SK.out _ tV) ?_
            · rintro w ⟨⟨s0, s1, s2, s3⟩, s4, s5, s6, s7⟩
              go_simp
            simp only [Act.put, List.setIfInBounds_toArray, List.set_cons_zero, List.set_cons_succ]
            refine wpAnyH_ready (rs := [15]) (by kernel_rfl) (by simp) ?_
            refine AllReadyH.cons rfl (fun K hK => ?_) AllReadyH.nil
            go_simp
            refine (SC.out _ tV).mono ?_
            rintro oo Vn ⟨rfl, tC⟩
            have tN := tC
            have tV := tV.trans tN
            clear tC
            clear tN
            go_simp
            refine hK.out _ _ (SK.out _ tV) (fun _ => ?_)
            clear hK K
            refine wpAnyH_take (i := 16) (oi := { dst := some 54, op := Op.pick (Operand.tmp 43) (Operand.tmp 53) (Operand.const (Value.bool false)), type := 4, pos := "ref.go:50", after := #[{ on := 5, ground := Ground.data }, { on := 15, ground := Ground.data }], guard := none }) (v := .bool sk) rfl (by kernel_rfl) (by kernel_rfl) (by kernel_rfl) (fun _ _ _ h => h) (Or.inl ⟨by rfl, ?_⟩) (SK.out _ tV) ?_
            · rintro w ⟨⟨s0, s1, s2, s3⟩, s4, s5, s6, s7⟩
              go_simp
            simp only [Act.put, List.setIfInBounds_toArray, List.set_cons_zero, List.set_cons_succ]
            refine wpAnyH_done (by kernel_rfl) ?_ _
            have TU := hide tV
            clear tV
            go_wp2_with fail
            go_meet
            exact ⟨_, rfl, TU.out, by rw [HD2.out]; exact HSH.out⟩
        case rest =>
          obtain ⟨q, rfl, tc, hq⟩ := hcut
          have HQ := hide hq
          have HRK2 := hide (HRK1.out.quiet tc)
          have HBW2 := hide (show Bools wc g bs by obtain ⟨cs, k1, k2⟩ := HBW1.out; exact ⟨cs, tc.heap k1 (fun x => x), k2⟩)
          rw [HD.out] at HRV
          clear hq tc HRK1 HBW1 HW1 HC1 HBX1
          cases q
          · have TR0 := hide (show Tr bot x.e.key D (G ++ put1 pb x.e) (G ++ put1 pb x.e) (ents R1) from ⟨HEQ1.out, fun d hd => HRV.out.low _ _ _ rfl d hd, fun g hg => by
              rcases List.mem_append.1 hg with hg | hg
              · obtain ⟨x', b', r', e1, e2⟩ := HRV.out.grp g hg
                cases e1
                exact e2
              · rw [put1_key hg], fun _ => rfl, fun _ => rfl⟩)
            have NX0 := hide (show RInv bot T (D ++ if bot then trimE (G ++ put1 pb x.e) else G ++ put1 pb x.e) [] (P.drop (i + 1)) from HRV.out.next fun y c r' e => by
              have hq := HQ.out
              rw [e] at hq
              refine ⟨of_decide_eq_false hq, ?_⟩
              have h1 : P[i + 1]? = some (y, c) := by
                have := congrArg (fun l => l[0]?) e
                simpa using this
              have h2 := (List.getElem?_eq_some_iff.1 h1).1
              obtain ⟨z, hz⟩ : ∃ z, l[i + 1]? = some z := ⟨_, List.getElem?_eq_getElem (by have := HPL.out; have := HN.out; omega)⟩
              obtain ⟨d, hd, _⟩ := HPA.out (i + 1) z hz
              rw [h1] at hd
              cases hd
              exact HUP2.out i x z HX.out hz)
            clear HQ HRV HEQ1
            obtain ⟨G1, hG1⟩ : ∃ g1, G ++ put1 pb x.e = g1 := ⟨_, rfl⟩
            rw [hG1] at TR0 NX0
            clear hG1
            go_wp2_with fail
            go_loopw [10] (fun ov wr => ∃ (R2 : List Tow) (G2 : List Ent), Rk w wr ov l R2 ∧ Bools wr g bs ∧ Tr bot x.e.key D G1 G2 (ents R2) ∧ R2.length ≤ i + 1) (fun ov _ => slLen ov)
            case atStart => exact ⟨R1, G1, HRK2.out, HBW2.out, TR0.out, hrl1⟩
            case round =>
              obtain ⟨R2, G2, hrk, hbw, htr, hrl2⟩ := hrel
              obtain ⟨oa2, oc2, rfl⟩ := hrk.row.len
              have HRKI := hide hrk
              have HBWI := hide hbw
              have HTR := hide htr
              clear hrk hbw htr HRK2 HBW2 TR0
              obtain ⟨b', off', e', hc2, hkx2, _⟩ := ents_at2 (H.out.quiet HRKI.out.turn) HX.out
              cases e'
              have HC2 := hide hc2
              have HBX2 := hide hkx2
              clear hc2 hkx2
              obtain ⟨m, hm⟩ : ∃ m, R2.length = m := ⟨_, rfl⟩
              rw [hm] at HRKI hrl2 ⊢
              go_upto_region 11 with (fail)
              go_cut [83] from 55 to 88 (fun v83 wd => ∃ q : Bool, v83 = .bool q ∧ Turns (fun _ => False) wr wd ∧ (q = true → bot = true ∧ ∃ R3 y, R2 = R3 ++ [y] ∧ y.e.key = x.e.key ∧ y.e.kind = 2) ∧ (q = false → ents R2 = D ++ (if bot then trimE G1 else G1)))
              case first =>
                rename_i kk rest jj kk' m1 m2
                clear rest
                cases bot
                · have HE := hide (show ents R2 = D ++ G1 by rw [HTR.out.eq, HTR.out.off rfl])
                  go_quiet (fail)
                  go_wp2_with fail
                  go_meet
                  exact ⟨false, rfl, (Turns.refl _ _).drewN _, fun e => (by cases e), fun _ => HE.out⟩
                · rcases m with _ | m
                  · have hR2 : R2 = [] := List.eq_nil_of_length_eq_zero hm
                    have HE := hide (show ents R2 = D ++ trimE G1 by
                      have h1 := HTR.out
                      rw [hR2] at h1 ⊢
                      exact h1.stop_nil)
                    have d1 : decide ((0 : Int) < 0) = false := by decide
                    clear hR2
                    go_quiet (fail)
                    go_wp2_with fail
                    go_meet
                    exact ⟨false, rfl, (Turns.refl _ _).drewN _, fun e => (by cases e), fun _ => HE.out⟩
                  · obtain ⟨R3, y, hR2, hm3⟩ := snoc_of hm
                    have hrow := HRKI.out.row
                    rw [hR2] at hrow
                    obtain ⟨gO, rfl, hE4, hcc⟩ := hrow.last hm3.symm
                    have HTR3 := hide (show Tr true x.e.key D G1 G2 (ents R3 ++ [y.e]) by
                      have h1 := HTR.out
                      rw [hR2] at h1
                      unfold ents at h1 ⊢
                      rw [List.map_append] at h1
                      exact h1)
                    have HER := hide (show ents R2 = ents R3 ++ [y.e] by rw [hR2]; unfold ents; rw [List.map_append]; rfl)
                    have hyl : y ∈ l := HRKI.out.mem y (by rw [hR2]; simp)
                    have hbyY : Bytes wr y.kv y.e.key := by
                      obtain ⟨q, hq⟩ := List.getElem?_of_mem hyl
                      exact ((H.out.quiet HRKI.out.turn) q y hq).2.1
                    have SC := hide (fun (u : World) (t : Turns (fun _ => False) wr u) => rsame41 y x u (hbyY.quiet t) (HBX2.out.quiet t) (HKB.out y hyl) (HKB.out x (List.mem_of_getElem? HX.out)))
                    have HR2 := hide hR2
                    have HE4 := hide hE4
                    have j1 : (0 : Int) < (m : Int) + 1 := by omega
                    have j2 : (m : Int) < (m : Int) + 1 := by omega
                    have j3 : (0 : Int) ≤ (m : Int) := by omega
                    have j4 : (m : Int) ≤ 1000000 := by omega
                    clear hrow hR2 hE4 hyl hbyY hm3 hcc
                    obtain ⟨sk, hsk⟩ : ∃ sk : Bool, decide (y.e.key = x.e.key) = sk := ⟨_, rfl⟩
                    rw [hsk] at SC
                    have HSK := hide hsk
                    clear hsk
                    have HYK := hide (show y.e.kind = 2 ∨ y.e.kind ≠ 2 from by by_cases h : y.e.kind = 2 <;> simp [h])
                    have HXK := hide (show y.e.key = x.e.key ↔ sk = true by rw [← HSK.out]; simp)
                    obtain ⟨xk, hxk⟩ : ∃ k, x.e.key = k := ⟨_, rfl⟩
                    obtain ⟨yk, hyk⟩ : ∃ k, y.e.key = k := ⟨_, rfl⟩
                    obtain ⟨ym, hym⟩ : ∃ k, y.e.kind = k := ⟨_, rfl⟩
                    rw [hxk] at HTR3
                    have HKX := hide hxk
                    rw [hyk, hxk] at HXK
                    have HKY := hide hyk
                    have HMY := hide hym
                    have HE5 := hide (show u4 wr gO (m * 4) y from HE4.out)
                    obtain ⟨ka, kc, va, vc, ⟨key, sq, kd, val⟩⟩ := x
                    obtain ⟨ka2, kc2, va2, vc2, ⟨key2, sq2, kd2, val2⟩⟩ := y
                    unfold u4 at HE5
                    unfold Tow.ent Tow.kv Tow.vv at *
                    simp only at *
                    generalize key.length = L1 at *
                    generalize key2.length = L3 at *
                    generalize val.length = L2 at *
                    generalize val2.length = L4 at *
                    subst hym
                    clear hxk hyk
                    have tV : Turns (fun _ => False) wr wr.drew := (Turns.refl _ _).drew
                    have SK := hide (fun (u : World) (t : Turns (fun _ => False) wr u) => show (u.cell? ⟨b, off + i * 4, none⟩ = some (.slice ka L1 kc) ∧ u.cell? ⟨b, off + i * 4 + 1, none⟩ = some (.int .u64 (sq : Nat)) ∧ u.cell? ⟨b, off + i * 4 + 2, none⟩ = some (.int .i64 kd) ∧ u.cell? ⟨b, off + i * 4 + 3, none⟩ = some (.slice va L2 vc)) ∧ u.cell? ⟨gO, m * 4, none⟩ = some (.slice ka2 L3 kc2) ∧ u.cell? ⟨gO, m * 4 + 1, none⟩ = some (.int .u64 (sq2 : Nat)) ∧ u.cell? ⟨gO, m * 4 + 2, none⟩ = some (.int .i64 kd2) ∧ u.cell? ⟨gO, m * 4 + 3, none⟩ = some (.slice va2 L4 vc2) from ⟨⟨t.cell HC2.out.1 (fun x => x), t.cell HC2.out.2.1 (fun x => x), t.cell HC2.out.2.2.1 (fun x => x), t.cell HC2.out.2.2.2 (fun x => x)⟩, t.cell HE5.out.1 (fun x => x), t.cell HE5.out.2.1 (fun x => x), t.cell HE5.out.2.2.1 (fun x => x), t.cell HE5.out.2.2.2 (fun x => x)⟩)
                    cases sk
                    · have HNE := hide (show ents R2 = D ++ trimE G1 by rw [HER.out]; exact HTR3.out.stop_key (fun e => by have := HXK.out.1 (by rw [← HKY.out]; exact e); cases this))
                      refine wp_region_held_drew (S := fun u => (u.cell? ⟨b, off + i * 4, none⟩ = some (.slice ka L1 kc) ∧ u.cell? ⟨b, off + i * 4 + 1, none⟩ = some (.int .u64 (sq : Nat)) ∧ u.cell? ⟨b, off + i * 4 + 2, none⟩ = some (.int .i64 kd) ∧ u.cell? ⟨b, off + i * 4 + 3, none⟩ = some (.slice va L2 vc)) ∧ u.cell? ⟨gO, m * 4, none⟩ = some (.slice ka2 L3 kc2) ∧ u.cell? ⟨gO, m * 4 + 1, none⟩ = some (.int .u64 (sq2 : Nat)) ∧ u.cell? ⟨gO, m * 4 + 2, none⟩ = some (.int .i64 kd2) ∧ u.cell? ⟨gO, m * 4 + 3, none⟩ = some (.slice va2 L4 vc2)) (by kernel_rfl) (SK.out _ tV) (fun _ => ?_)
                      change wpAnyH _ _ _ _ _ 29 (Array.replicate 29 false) _ _
                      refine wpAnyH_take (i := 0) (oi := { dst := some 55, op := Op.move (Operand.tmp 2), type := 4, pos := "ref.go:54", after := #[], guard := none }) (v := .bool true) rfl (by kernel_rfl) (by kernel_rfl) (by kernel_rfl) (fun _ _ _ h => h) (Or.inl ⟨by rfl, ?_⟩) (SK.out _ tV) ?_
                      · rintro w ⟨⟨s0, s1, s2, s3⟩, s4, s5, s6, s7⟩
                        go_simp
                      simp only [Act.put, List.setIfInBounds_toArray, List.set_cons_zero, List.set_cons_succ]
                      refine wpAnyH_take (i := 1) (oi := { dst := some 56, op := Op.move (Operand.tmp 55), type := 4, pos := "ref.go:54", after := #[{ on := 0, ground := Ground.data }], guard := none }) (v := .bool true) rfl (by kernel_rfl) (by kernel_rfl) (by kernel_rfl) (fun _ _ _ h => h) (Or.inl ⟨by rfl, ?_⟩) (SK.out _ tV) ?_
                      · rintro w ⟨⟨s0, s1, s2, s3⟩, s4, s5, s6, s7⟩
                        go_simp
                      simp only [Act.put, List.setIfInBounds_toArray, List.set_cons_zero, List.set_cons_succ]
                      refine wpAnyH_take (i := 2) (oi := { dst := some 57, op := Op.move (Operand.tmp 10), type := 31, pos := "ref.go:54", after := #[{ on := 1, ground := Ground.guard }], guard := some (1, true) }) (v := .slice (some ⟨gO, 0, none⟩) (m + 1) oc2) rfl (by kernel_rfl) (by kernel_rfl) (by kernel_rfl) (fun _ _ _ h => h) (Or.inl ⟨by rfl, ?_⟩) (SK.out _ tV) ?_
                      · rintro w ⟨⟨s0, s1, s2, s3⟩, s4, s5, s6, s7⟩
                        go_simp
                      simp only [Act.put, List.setIfInBounds_toArray, List.set_cons_zero, List.set_cons_succ]
                      refine wpAnyH_take (i := 3) (oi := { dst := some 58, op := Op.call { callee := Callee.builtin Builtin.len, args := #[Operand.tmp 57], argTypes := #[31] }, type := 3, pos := "ref.go:54", after := #[{ on := 2, ground := Ground.data }, { on := 1, ground := Ground.guard }], guard := some (1, true) }) (v := .int .i64 ((m : Int) + 1)) rfl (by kernel_rfl) (by kernel_rfl) (by kernel_rfl) (fun _ _ _ h => h) (Or.inl ⟨by rfl, ?_⟩) (SK.out _ tV) ?_
                      · rintro w ⟨⟨s0, s1, s2, s3⟩, s4, s5, s6, s7⟩
                        go_simp
                      simp only [Act.put, List.setIfInBounds_toArray, List.set_cons_zero, List.set_cons_succ]
                      refine wpAnyH_take (i := 4) (oi := { dst := some 59, op := Op.binOp BinOp.gtr 3 (Operand.tmp 58) (Operand.const (Value.int IntKind.i64 0)) 3, type := 4, pos := "ref.go:54", after := #[{ on := 3, ground := Ground.data }, { on := 1, ground := Ground.guard }], guard := some (1, true) }) (v := .bool true) rfl (by kernel_rfl) (by kernel_rfl) (by kernel_rfl) (fun _ _ _ h => h) (Or.inl ⟨by rfl, ?_⟩) (SK.out _ tV) ?_
                      · rintro w ⟨⟨s0, s1, s2, s3⟩, s4, s5, s6, s7⟩
                        go_simp
                      simp only [Act.put, List.setIfInBounds_toArray, List.set_cons_zero, List.set_cons_succ]
                      refine wpAnyH_take (i := 5) (oi := { dst := some 60, op := Op.pick (Operand.tmp 56) (Operand.tmp 59) (Operand.const (Value.bool false)), type := 4, pos := "ref.go:54", after := #[{ on := 1, ground := Ground.data }, { on := 4, ground := Ground.data }], guard := none }) (v := .bool true) rfl (by kernel_rfl) (by kernel_rfl) (by kernel_rfl) (fun _ _ _ h => h) (Or.inl ⟨by rfl, ?_⟩) (SK.out _ tV) ?_
                      · rintro w ⟨⟨s0, s1, s2, s3⟩, s4, s5, s6, s7⟩
                        go_simp
                      simp only [Act.put, List.setIfInBounds_toArray, List.set_cons_zero, List.set_cons_succ]
                      refine wpAnyH_take (i := 6) (oi := { dst := some 61, op := Op.move (Operand.tmp 60), type := 4, pos := "ref.go:54", after := #[{ on := 5, ground := Ground.data }, { on := 1, ground := Ground.chain }], guard := none }) (v := .bool true) rfl (by kernel_rfl) (by kernel_rfl) (by kernel_rfl) (fun _ _ _ h => h) (Or.inl ⟨by rfl, ?_⟩) (SK.out _ tV) ?_
                      · rintro w ⟨⟨s0, s1, s2, s3⟩, s4, s5, s6, s7⟩
                        go_simp
                      simp only [Act.put, List.setIfInBounds_toArray, List.set_cons_zero, List.set_cons_succ]
                      refine wpAnyH_take (i := 7) (oi := { dst := some 62, op := Op.move (Operand.tmp 10), type := 31, pos := "ref.go:54", after := #[{ on := 6, ground := Ground.guard }], guard := some (6, true) }) (v := .slice (some ⟨gO, 0, none⟩) (m + 1) oc2) rfl (by kernel_rfl) (by kernel_rfl) (by kernel_rfl) (fun _ _ _ h => h) (Or.inl ⟨by rfl, ?_⟩) (SK.out _ tV) ?_
                      · rintro w ⟨⟨s0, s1, s2, s3⟩, s4, s5, s6, s7⟩
                        go_simp
                      simp only [Act.put, List.setIfInBounds_toArray, List.set_cons_zero, List.set_cons_succ]
                      refine wpAnyH_take (i := 8) (oi := { dst := some 63, op := Op.move (Operand.tmp 10), type := 31, pos := "ref.go:54", after := #[{ on := 6, ground := Ground.guard }], guard := some (6, true) }) (v := .slice (some ⟨gO, 0, none⟩) (m + 1) oc2) rfl (by kernel_rfl) (by kernel_rfl) (by kernel_rfl) (fun _ _ _ h => h) (Or.inl ⟨by rfl, ?_⟩) (SK.out _ tV) ?_
                      · rintro w ⟨⟨s0, s1, s2, s3⟩, s4, s5, s6, s7⟩
                        go_simp
                      simp only [Act.put, List.setIfInBounds_toArray, List.set_cons_zero, List.set_cons_succ]
                      refine wpAnyH_take (i := 9) (oi := { dst := some 64, op := Op.call { callee := Callee.builtin Builtin.len, args := #[Operand.tmp 63], argTypes := #[31] }, type := 3, pos := "ref.go:54", after := #[{ on := 8, ground := Ground.data }, { on := 6, ground := Ground.guard }], guard := some (6, true) }) (v := .int .i64 ((m : Int) + 1)) rfl (by kernel_rfl) (by kernel_rfl) (by kernel_rfl) (fun _ _ _ h => h) (Or.inl ⟨by rfl, ?_⟩) (SK.out _ tV) ?_
                      · rintro w ⟨⟨s0, s1, s2, s3⟩, s4, s5, s6, s7⟩
                        go_simp
                      simp only [Act.put, List.setIfInBounds_toArray, List.set_cons_zero, List.set_cons_succ]
                      refine wpAnyH_take (i := 10) (oi := { dst := some 65, op := Op.binOp BinOp.sub 3 (Operand.tmp 64) (Operand.const (Value.int IntKind.i64 1)) 3, type := 3, pos := "ref.go:54", after := #[{ on := 9, ground := Ground.data }, { on := 6, ground := Ground.guard }], guard := some (6, true) }) (v := .int .i64 (m : Nat)) rfl (by kernel_rfl) (by kernel_rfl) (by kernel_rfl) (fun _ _ _ h => h) (Or.inl ⟨by rfl, ?_⟩) (SK.out _ tV) ?_
                      · rintro w ⟨⟨s0, s1, s2, s3⟩, s4, s5, s6, s7⟩
                        go_simp; rw [wrapI _ (by omega) (by omega)]
                      simp only [Act.put, List.setIfInBounds_toArray, List.set_cons_zero, List.set_cons_succ]
                      refine wpAnyH_take (i := 11) (oi := { dst := some 66, op := Op.indexAddr 31 (Operand.tmp 62) (Operand.tmp 65), type := 0, pos := "ref.go:54", after := #[{ on := 7, ground := Ground.data }, { on := 10, ground := Ground.data }, { on := 6, ground := Ground.guard }], guard := some (6, true) }) (v := .pointer (some ⟨gO, m * 4, none⟩)) rfl (by kernel_rfl) (by kernel_rfl) (by kernel_rfl) (fun _ _ _ h => h) (Or.inl ⟨by rfl, ?_⟩) (SK.out _ tV) ?_
                      · rintro w ⟨⟨s0, s1, s2, s3⟩, s4, s5, s6, s7⟩
                        go_simp
                      simp only [Act.put, List.setIfInBounds_toArray, List.set_cons_zero, List.set_cons_succ]
                      refine wpAnyH_take (i := 12) (oi := { dst := some 67, op := Op.load 29 (Operand.tmp 66), type := 29, pos := "ref.go:54", after := #[{ on := 11, ground := Ground.data }, { on := 6, ground := Ground.guard }], guard := some (6, true) }) (v := .agg #[.slice ka2 L3 kc2, .int .u64 (sq2 : Nat), .int .i64 kd2, .slice va2 L4 vc2]) rfl (by kernel_rfl) (by kernel_rfl) (by kernel_rfl) (fun _ _ _ h => h) (Or.inl ⟨by rfl, ?_⟩) (SK.out _ tV) ?_
                      · rintro w ⟨⟨s0, s1, s2, s3⟩, s4, s5, s6, s7⟩
                        go_simp
                      simp only [Act.put, List.setIfInBounds_toArray, List.set_cons_zero, List.set_cons_succ]
                      refine wpAnyH_take (i := 13) (oi := { dst := some 68, op := Op.move (Operand.tmp 0), type := 31, pos := "ref.go:54", after := #[{ on := 6, ground := Ground.guard }], guard := some (6, true) }) (v := .slice (some ⟨b, off, none⟩) n c) rfl (by kernel_rfl) (by kernel_rfl) (by kernel_rfl) (fun _ _ _ h => h) (Or.inl ⟨by rfl, ?_⟩) (SK.out _ tV) ?_
                      · rintro w ⟨⟨s0, s1, s2, s3⟩, s4, s5, s6, s7⟩
                        go_simp
                      simp only [Act.put, List.setIfInBounds_toArray, List.set_cons_zero, List.set_cons_succ]
                      refine wpAnyH_take (i := 14) (oi := { dst := some 69, op := Op.move (Operand.tmp 11), type := 3, pos := "ref.go:54", after := #[{ on := 6, ground := Ground.guard }], guard := some (6, true) }) (v := .int .i64 (i : Nat)) rfl (by kernel_rfl) (by kernel_rfl) (by kernel_rfl) (fun _ _ _ h => h) (Or.inl ⟨by rfl, ?_⟩) (SK.out _ tV) ?_
                      · rintro w ⟨⟨s0, s1, s2, s3⟩, s4, s5, s6, s7⟩
                        go_simp
                      simp only [Act.put, List.setIfInBounds_toArray, List.set_cons_zero, List.set_cons_succ]
                      refine wpAnyH_take (i := 15) (oi := { dst := some 70, op := Op.indexAddr 31 (Operand.tmp 68) (Operand.tmp 69), type := 0, pos := "ref.go:54", after := #[{ on := 13, ground := Ground.data }, { on := 14, ground := Ground.data }, { on := 6, ground := Ground.guard }], guard := some (6, true) }) (v := .pointer (some ⟨b, off + i * 4, none⟩)) rfl (by kernel_rfl) (by kernel_rfl) (by kernel_rfl) (fun _ _ _ h => h) (Or.inl ⟨by rfl, ?_⟩) (SK.out _ tV) ?_
                      · rintro w ⟨⟨s0, s1, s2, s3⟩, s4, s5, s6, s7⟩
                        go_simp
                      simp only [Act.put, List.setIfInBounds_toArray, List.set_cons_zero, List.set_cons_succ]
                      refine wpAnyH_take (i := 16) (oi := { dst := some 71, op := Op.load 29 (Operand.tmp 70), type := 29, pos := "ref.go:54", after := #[{ on := 15, ground := Ground.data }, { on := 6, ground := Ground.guard }], guard := some (6, true) }) (v := .agg #[.slice ka L1 kc, .int .u64 (sq : Nat), .int .i64 kd, .slice va L2 vc]) rfl (by kernel_rfl) (by kernel_rfl) (by kernel_rfl) (fun _ _ _ h => h) (Or.inl ⟨by rfl, ?_⟩) (SK.out _ tV) ?_
                      · rintro w ⟨⟨s0, s1, s2, s3⟩, s4, s5, s6, s7⟩
                        go_simp
                      simp only [Act.put, List.setIfInBounds_toArray, List.set_cons_zero, List.set_cons_succ]
                      refine wpAnyH_ready (rs := [17]) (by kernel_rfl) (by simp) ?_
                      refine AllReadyH.cons rfl (fun K hK => ?_) AllReadyH.nil
                      go_simp
                      refine (SC.out _ tV).mono ?_
                      rintro oo Vn ⟨rfl, tC⟩
                      have tN := tC
                      have tV := tV.trans tN
                      clear tC
                      clear tN
                      go_simp
                      refine hK.out _ _ (SK.out _ tV) (fun _ => ?_)
                      clear hK K
                      refine wpAnyH_take (i := 18) (oi := { dst := some 73, op := Op.pick (Operand.tmp 61) (Operand.tmp 72) (Operand.const (Value.bool false)), type := 4, pos := "ref.go:54", after := #[{ on := 6, ground := Ground.data }, { on := 17, ground := Ground.data }], guard := none }) (v := .bool false) rfl (by kernel_rfl) (by kernel_rfl) (by kernel_rfl) (fun _ _ _ h => h) (Or.inl ⟨by rfl, ?_⟩) (SK.out _ tV) ?_
                      · rintro w ⟨⟨s0, s1, s2, s3⟩, s4, s5, s6, s7⟩
                        go_simp
                      simp only [Act.put, List.setIfInBounds_toArray, List.set_cons_zero, List.set_cons_succ]
                      refine wpAnyH_take (i := 19) (oi := { dst := some 74, op := Op.move (Operand.tmp 73), type := 4, pos := "ref.go:54", after := #[{ on := 18, ground := Ground.data }, { on := 17, ground := Ground.chain }], guard := none }) (v := .bool false) rfl (by kernel_rfl) (by kernel_rfl) (by kernel_rfl) (fun _ _ _ h => h) (Or.inl ⟨by rfl, ?_⟩) (SK.out _ tV) ?_
                      · rintro w ⟨⟨s0, s1, s2, s3⟩, s4, s5, s6, s7⟩
                        go_simp
                      simp only [Act.put, List.setIfInBounds_toArray, List.set_cons_zero, List.set_cons_succ]
                      refine wpAnyH_take (i := 20) (oi := { dst := some 75, op := Op.move (Operand.tmp 10), type := 31, pos := "ref.go:54", after := #[{ on := 19, ground := Ground.guard }], guard := some (19, true) }) (v := undef) rfl (by kernel_rfl) (by kernel_rfl) (by kernel_rfl) (fun _ _ _ h => h) (Or.inr ⟨by rfl, rfl⟩) (SK.out _ tV) ?_
                      simp only [Act.put, List.setIfInBounds_toArray, List.set_cons_zero, List.set_cons_succ]
                      refine wpAnyH_take (i := 21) (oi := { dst := some 76, op := Op.move (Operand.tmp 10), type := 31, pos := "ref.go:54", after := #[{ on := 19, ground := Ground.guard }], guard := some (19, true) }) (v := undef) rfl (by kernel_rfl) (by kernel_rfl) (by kernel_rfl) (fun _ _ _ h => h) (Or.inr ⟨by rfl, rfl⟩) (SK.out _ tV) ?_
                      simp only [Act.put, List.setIfInBounds_toArray, List.set_cons_zero, List.set_cons_succ]
                      refine wpAnyH_take (i := 22) (oi := { dst := some 77, op := Op.call { callee := Callee.builtin Builtin.len, args := #[Operand.tmp 76], argTypes := #[31] }, type := 3, pos := "ref.go:54", after := #[{ on := 21, ground := Ground.data }, { on := 19, ground := Ground.guard }], guard := some (19, true) }) (v := undef) rfl (by kernel_rfl) (by kernel_rfl) (by kernel_rfl) (fun _ _ _ h => h) (Or.inr ⟨by rfl, rfl⟩) (SK.out _ tV) ?_
                      simp only [Act.put, List.setIfInBounds_toArray, List.set_cons_zero, List.set_cons_succ]
                      refine wpAnyH_take (i := 23) (oi := { dst := some 78, op := Op.binOp BinOp.sub 3 (Operand.tmp 77) (Operand.const (Value.int IntKind.i64 1)) 3, type := 3, pos := "ref.go:54", after := #[{ on := 22, ground := Ground.data }, { on := 19, ground := Ground.guard }], guard := some (19, true) }) (v := undef) rfl (by kernel_rfl) (by kernel_rfl) (by kernel_rfl) (fun _ _ _ h => h) (Or.inr ⟨by rfl, rfl⟩) (SK.out _ tV) ?_
                      simp only [Act.put, List.setIfInBounds_toArray, List.set_cons_zero, List.set_cons_succ]
                      refine wpAnyH_take (i := 24) (oi := { dst := some 79, op := Op.indexAddr 31 (Operand.tmp 75) (Operand.tmp 78), type := 0, pos := "ref.go:54", after := #[{ on := 20, ground := Ground.data }, { on := 23, ground := Ground.data }, { on := 19, ground := Ground.guard }], guard := some (19, true) }) (v := undef) rfl (by kernel_rfl) (by kernel_rfl) (by kernel_rfl) (fun _ _ _ h => h) (Or.inr ⟨by rfl, rfl⟩) (SK.out _ tV) ?_
                      simp only [Act.put, List.setIfInBounds_toArray, List.set_cons_zero, List.set_cons_succ]
                      refine wpAnyH_take (i := 25) (oi := { dst := some 80, op := Op.fieldAddr 29 (Operand.tmp 79) 2, type := 0, pos := "ref.go:54", after := #[{ on := 24, ground := Ground.data }, { on := 19, ground := Ground.guard }], guard := some (19, true) }) (v := undef) rfl (by kernel_rfl) (by kernel_rfl) (by kernel_rfl) (fun _ _ _ h => h) (Or.inr ⟨by rfl, rfl⟩) (SK.out _ tV) ?_
                      simp only [Act.put, List.setIfInBounds_toArray, List.set_cons_zero, List.set_cons_succ]
                      refine wpAnyH_take (i := 26) (oi := { dst := some 81, op := Op.load 3 (Operand.tmp 80), type := 3, pos := "ref.go:54", after := #[{ on := 25, ground := Ground.data }, { on := 19, ground := Ground.guard }], guard := some (19, true) }) (v := undef) rfl (by kernel_rfl) (by kernel_rfl) (by kernel_rfl) (fun _ _ _ h => h) (Or.inr ⟨by rfl, rfl⟩) (SK.out _ tV) ?_
                      simp only [Act.put, List.setIfInBounds_toArray, List.set_cons_zero, List.set_cons_succ]
                      refine wpAnyH_take (i := 27) (oi := { dst := some 82, op := Op.binOp BinOp.eql 3 (Operand.tmp 81) (Operand.const (Value.int IntKind.i64 2)) 3, type := 4, pos := "ref.go:54", after := #[{ on := 26, ground := Ground.data }, { on := 19, ground := Ground.guard }], guard := some (19, true) }) (v := undef) rfl (by kernel_rfl) (by kernel_rfl) (by kernel_rfl) (fun _ _ _ h => h) (Or.inr ⟨by rfl, rfl⟩) (SK.out _ tV) ?_
                      simp only [Act.put, List.setIfInBounds_toArray, List.set_cons_zero, List.set_cons_succ]
                      refine wpAnyH_take (i := 28) (oi := { dst := some 83, op := Op.pick (Operand.tmp 74) (Operand.tmp 82) (Operand.const (Value.bool false)), type := 4, pos := "ref.go:54", after := #[{ on := 19, ground := Ground.data }, { on := 27, ground := Ground.data }], guard := none }) (v := .bool false) rfl (by kernel_rfl) (by kernel_rfl) (by kernel_rfl) (fun _ _ _ h => h) (Or.inl ⟨by rfl, ?_⟩) (SK.out _ tV) ?_
                      · rintro w ⟨⟨s0, s1, s2, s3⟩, s4, s5, s6, s7⟩
                        go_simp
                      simp only [Act.put, List.setIfInBounds_toArray, List.set_cons_zero, List.set_cons_succ]
                      refine wpAnyH_done (by kernel_rfl) ?_ _
                      have TU := hide tV
                      clear tV
                      go_wp2_with fail
                      go_meet
                      exact ⟨_, rfl, TU.out, fun e => (by cases e), fun _ => HNE.out⟩
                    · by_cases hk2 : kd2 = 2
                      · have E2 := hide hk2
                        clear hk2
                        have HYE := hide (HXK.out.2 rfl)
                        refine wp_region_held_drew (S := fun u => (u.cell? ⟨b, off + i * 4, none⟩ = some (.slice ka L1 kc) ∧ u.cell? ⟨b, off + i * 4 + 1, none⟩ = some (.int .u64 (sq : Nat)) ∧ u.cell? ⟨b, off + i * 4 + 2, none⟩ = some (.int .i64 kd) ∧ u.cell? ⟨b, off + i * 4 + 3, none⟩ = some (.slice va L2 vc)) ∧ u.cell? ⟨gO, m * 4, none⟩ = some (.slice ka2 L3 kc2) ∧ u.cell? ⟨gO, m * 4 + 1, none⟩ = some (.int .u64 (sq2 : Nat)) ∧ u.cell? ⟨gO, m * 4 + 2, none⟩ = some (.int .i64 kd2) ∧ u.cell? ⟨gO, m * 4 + 3, none⟩ = some (.slice va2 L4 vc2)) (by kernel_rfl) (SK.out _ tV) (fun _ => ?_)
                        change wpAnyH _ _ _ _ _ 29 (Array.replicate 29 false) _ _
                        refine wpAnyH_take (i := 0) (oi := { dst := some 55, op := Op.move (Operand.tmp 2), type := 4, pos := "ref.go:54", after := #[], guard := none }) (v := .bool true) rfl (by kernel_rfl) (by kernel_rfl) (by kernel_rfl) (fun _ _ _ h => h) (Or.inl ⟨by rfl, ?_⟩) (SK.out _ tV) ?_
                        · rintro w ⟨⟨s0, s1, s2, s3⟩, s4, s5, s6, s7⟩
                          go_simp
                        simp only [Act.put, List.setIfInBounds_toArray, List.set_cons_zero, List.set_cons_succ]
                        refine wpAnyH_take (i := 1) (oi := { dst := some 56, op := Op.move (Operand.tmp 55), type := 4, pos := "ref.go:54", after := #[{ on := 0, ground := Ground.data }], guard := none }) (v := .bool true) rfl (by kernel_rfl) (by kernel_rfl) (by kernel_rfl) (fun _ _ _ h => h) (Or.inl ⟨by rfl, ?_⟩) (SK.out _ tV) ?_
                        · rintro w ⟨⟨s0, s1, s2, s3⟩, s4, s5, s6, s7⟩
                          go_simp
                        simp only [Act.put, List.setIfInBounds_toArray, List.set_cons_zero, List.set_cons_succ]
                        refine wpAnyH_take (i := 2) (oi := { dst := some 57, op := Op.move (Operand.tmp 10), type := 31, pos := "ref.go:54", after := #[{ on := 1, ground := Ground.guard }], guard := some (1, true) }) (v := .slice (some ⟨gO, 0, none⟩) (m + 1) oc2) rfl (by kernel_rfl) (by kernel_rfl) (by kernel_rfl) (fun _ _ _ h => h) (Or.inl ⟨by rfl, ?_⟩) (SK.out _ tV) ?_
                        · rintro w ⟨⟨s0, s1, s2, s3⟩, s4, s5, s6, s7⟩
                          go_simp
                        simp only [Act.put, List.setIfInBounds_toArray, List.set_cons_zero, List.set_cons_succ]
                        refine wpAnyH_take (i := 3) (oi := { dst := some 58, op := Op.call { callee := Callee.builtin Builtin.len, args := #[Operand.tmp 57], argTypes := #[31] }, type := 3, pos := "ref.go:54", after := #[{ on := 2, ground := Ground.data }, { on := 1, ground := Ground.guard }], guard := some (1, true) }) (v := .int .i64 ((m : Int) + 1)) rfl (by kernel_rfl) (by kernel_rfl) (by kernel_rfl) (fun _ _ _ h => h) (Or.inl ⟨by rfl, ?_⟩) (SK.out _ tV) ?_
                        · rintro w ⟨⟨s0, s1, s2, s3⟩, s4, s5, s6, s7⟩
                          go_simp
                        simp only [Act.put, List.setIfInBounds_toArray, List.set_cons_zero, List.set_cons_succ]
                        refine wpAnyH_take (i := 4) (oi := { dst := some 59, op := Op.binOp BinOp.gtr 3 (Operand.tmp 58) (Operand.const (Value.int IntKind.i64 0)) 3, type := 4, pos := "ref.go:54", after := #[{ on := 3, ground := Ground.data }, { on := 1, ground := Ground.guard }], guard := some (1, true) }) (v := .bool true) rfl (by kernel_rfl) (by kernel_rfl) (by kernel_rfl) (fun _ _ _ h => h) (Or.inl ⟨by rfl, ?_⟩) (SK.out _ tV) ?_
                        · rintro w ⟨⟨s0, s1, s2, s3⟩, s4, s5, s6, s7⟩
                          go_simp
                        simp only [Act.put, List.setIfInBounds_toArray, List.set_cons_zero, List.set_cons_succ]
                        refine wpAnyH_take (i := 5) (oi := { dst := some 60, op := Op.pick (Operand.tmp 56) (Operand.tmp 59) (Operand.const (Value.bool false)), type := 4, pos := "ref.go:54", after := #[{ on := 1, ground := Ground.data }, { on := 4, ground := Ground.data }], guard := none }) (v := .bool true) rfl (by kernel_rfl) (by kernel_rfl) (by kernel_rfl) (fun _ _ _ h => h) (Or.inl ⟨by rfl, ?_⟩) (SK.out _ tV) ?_
                        · rintro w ⟨⟨s0, s1, s2, s3⟩, s4, s5, s6, s7⟩
                          go_simp
                        simp only [Act.put, List.setIfInBounds_toArray, List.set_cons_zero, List.set_cons_succ]
                        refine wpAnyH_take (i := 6) (oi := { dst := some 61, op := Op.move (Operand.tmp 60), type := 4, pos := "ref.go:54", after := #[{ on := 5, ground := Ground.data }, { on := 1, ground := Ground.chain }], guard := none }) (v := .bool true) rfl (by kernel_rfl) (by kernel_rfl) (by kernel_rfl) (fun _ _ _ h => h) (Or.inl ⟨by rfl, ?_⟩) (SK.out _ tV) ?_
                        · rintro w ⟨⟨s0, s1, s2, s3⟩, s4, s5, s6, s7⟩
                          go_simp
                        simp only [Act.put, List.setIfInBounds_toArray, List.set_cons_zero, List.set_cons_succ]
                        refine wpAnyH_take (i := 7) (oi := { dst := some 62, op := Op.move (Operand.tmp 10), type := 31, pos := "ref.go:54", after := #[{ on := 6, ground := Ground.guard }], guard := some (6, true) }) (v := .slice (some ⟨gO, 0, none⟩) (m + 1) oc2) rfl (by kernel_rfl) (by kernel_rfl) (by kernel_rfl) (fun _ _ _ h => h) (Or.inl ⟨by rfl, ?_⟩) (SK.out _ tV) ?_
                        · rintro w ⟨⟨s0, s1, s2, s3⟩, s4, s5, s6, s7⟩
                          go_simp
                        simp only [Act.put, List.setIfInBounds_toArray, List.set_cons_zero, List.set_cons_succ]
                        refine wpAnyH_take (i := 8) (oi := { dst := some 63, op := Op.move (Operand.tmp 10), type := 31, pos := "ref.go:54", after := #[{ on := 6, ground := Ground.guard }], guard := some (6, true) }) (v := .slice (some ⟨gO, 0, none⟩) (m + 1) oc2) rfl (by kernel_rfl) (by kernel_rfl) (by kernel_rfl) (fun _ _ _ h => h) (Or.inl ⟨by rfl, ?_⟩) (SK.out _ tV) ?_
                        · rintro w ⟨⟨s0, s1, s2, s3⟩, s4, s5, s6, s7⟩
                          go_simp
                        simp only [Act.put, List.setIfInBounds_toArray, List.set_cons_zero, List.set_cons_succ]
                        refine wpAnyH_take (i := 9) (oi := { dst := some 64, op := Op.call { callee := Callee.builtin Builtin.len, args := #[Operand.tmp 63], argTypes := #[31] }, type := 3, pos := "ref.go:54", after := #[{ on := 8, ground := Ground.data }, { on := 6, ground := Ground.guard }], guard := some (6, true) }) (v := .int .i64 ((m : Int) + 1)) rfl (by kernel_rfl) (by kernel_rfl) (by kernel_rfl) (fun _ _ _ h => h) (Or.inl ⟨by rfl, ?_⟩) (SK.out _ tV) ?_
                        · rintro w ⟨⟨s0, s1, s2, s3⟩, s4, s5, s6, s7⟩
                          go_simp
                        simp only [Act.put, List.setIfInBounds_toArray, List.set_cons_zero, List.set_cons_succ]
                        refine wpAnyH_take (i := 10) (oi := { dst := some 65, op := Op.binOp BinOp.sub 3 (Operand.tmp 64) (Operand.const (Value.int IntKind.i64 1)) 3, type := 3, pos := "ref.go:54", after := #[{ on := 9, ground := Ground.data }, { on := 6, ground := Ground.guard }], guard := some (6, true) }) (v := .int .i64 (m : Nat)) rfl (by kernel_rfl) (by kernel_rfl) (by kernel_rfl) (fun _ _ _ h => h) (Or.inl ⟨by rfl, ?_⟩) (SK.out _ tV) ?_
                        · rintro w ⟨⟨s0, s1, s2, s3⟩, s4, s5, s6, s7⟩
                          go_simp; rw [wrapI _ (by omega) (by omega)]
                        simp only [Act.put, List.setIfInBounds_toArray, List.set_cons_zero, List.set_cons_succ]
                        refine wpAnyH_take (i := 11) (oi := { dst := some 66, op := Op.indexAddr 31 (Operand.tmp 62) (Operand.tmp 65), type := 0, pos := "ref.go:54", after := #[{ on := 7, ground := Ground.data }, { on := 10, ground := Ground.data }, { on := 6, ground := Ground.guard }], guard := some (6, true) }) (v := .pointer (some ⟨gO, m * 4, none⟩)) rfl (by kernel_rfl) (by kernel_rfl) (by kernel_rfl) (fun _ _ _ h => h) (Or.inl ⟨by rfl, ?_⟩) (SK.out _ tV) ?_
                        · rintro w ⟨⟨s0, s1, s2, s3⟩, s4, s5, s6, s7⟩
                          go_simp
                        simp only [Act.put, List.setIfInBounds_toArray, List.set_cons_zero, List.set_cons_succ]
                        refine wpAnyH_take (i := 12) (oi := { dst := some 67, op := Op.load 29 (Operand.tmp 66), type := 29, pos := "ref.go:54", after := #[{ on := 11, ground := Ground.data }, { on := 6, ground := Ground.guard }], guard := some (6, true) }) (v := .agg #[.slice ka2 L3 kc2, .int .u64 (sq2 : Nat), .int .i64 kd2, .slice va2 L4 vc2]) rfl (by kernel_rfl) (by kernel_rfl) (by kernel_rfl) (fun _ _ _ h => h) (Or.inl ⟨by rfl, ?_⟩) (SK.out _ tV) ?_
                        · rintro w ⟨⟨s0, s1, s2, s3⟩, s4, s5, s6, s7⟩
                          go_simp
                        simp only [Act.put, List.setIfInBounds_toArray, List.set_cons_zero, List.set_cons_succ]
                        refine wpAnyH_take (i := 13) (oi := { dst := some 68, op := Op.move (Operand.tmp 0), type := 31, pos := "ref.go:54", after := #[{ on := 6, ground := Ground.guard }], guard := some (6, true) }) (v := .slice (some ⟨b, off, none⟩) n c) rfl (by kernel_rfl) (by kernel_rfl) (by kernel_rfl) (fun _ _ _ h => h) (Or.inl ⟨by rfl, ?_⟩) (SK.out _ tV) ?_
                        · rintro w ⟨⟨s0, s1, s2, s3⟩, s4, s5, s6, s7⟩
                          go_simp
                        simp only [Act.put, List.setIfInBounds_toArray, List.set_cons_zero, List.set_cons_succ]
                        refine wpAnyH_take (i := 14) (oi := { dst := some 69, op := Op.move (Operand.tmp 11), type := 3, pos := "ref.go:54", after := #[{ on := 6, ground := Ground.guard }], guard := some (6, true) }) (v := .int .i64 (i : Nat)) rfl (by kernel_rfl) (by kernel_rfl) (by kernel_rfl) (fun _ _ _ h => h) (Or.inl ⟨by rfl, ?_⟩) (SK.out _ tV) ?_
                        · rintro w ⟨⟨s0, s1, s2, s3⟩, s4, s5, s6, s7⟩
                          go_simp
                        simp only [Act.put, List.setIfInBounds_toArray, List.set_cons_zero, List.set_cons_succ]
                        refine wpAnyH_take (i := 15) (oi := { dst := some 70, op := Op.indexAddr 31 (Operand.tmp 68) (Operand.tmp 69), type := 0, pos := "ref.go:54", after := #[{ on := 13, ground := Ground.data }, { on := 14, ground := Ground.data }, { on := 6, ground := Ground.guard }], guard := some (6, true) }) (v := .pointer (some ⟨b, off + i * 4, none⟩)) rfl (by kernel_rfl) (by kernel_rfl) (by kernel_rfl) (fun _ _ _ h => h) (Or.inl ⟨by rfl, ?_⟩) (SK.out _ tV) ?_
                        · rintro w ⟨⟨s0, s1, s2, s3⟩, s4, s5, s6, s7⟩
                          go_simp
                        simp only [Act.put, List.setIfInBounds_toArray, List.set_cons_zero, List.set_cons_succ]
                        refine wpAnyH_take (i := 16) (oi := { dst := some 71, op := Op.load 29 (Operand.tmp 70), type := 29, pos := "ref.go:54", after := #[{ on := 15, ground := Ground.data }, { on := 6, ground := Ground.guard }], guard := some (6, true) }) (v := .agg #[.slice ka L1 kc, .int .u64 (sq : Nat), .int .i64 kd, .slice va L2 vc]) rfl (by kernel_rfl) (by kernel_rfl) (by kernel_rfl) (fun _ _ _ h => h) (Or.inl ⟨by rfl, ?_⟩) (SK.out _ tV) ?_
                        · rintro w ⟨⟨s0, s1, s2, s3⟩, s4, s5, s6, s7⟩
                          go_simp
                        simp only [Act.put, List.setIfInBounds_toArray, List.set_cons_zero, List.set_cons_succ]
                        refine wpAnyH_ready (rs := [17]) (by kernel_rfl) (by simp) ?_
                        refine AllReadyH.cons rfl (fun K hK => ?_) AllReadyH.nil
                        go_simp
                        refine (SC.out _ tV).mono ?_
                        rintro oo Vn ⟨rfl, tC⟩
                        have tN := tC
                        have tV := tV.trans tN
                        clear tC
                        clear tN
                        go_simp
                        refine hK.out _ _ (SK.out _ tV) (fun _ => ?_)
                        clear hK K
                        refine wpAnyH_take (i := 18) (oi := { dst := some 73, op := Op.pick (Operand.tmp 61) (Operand.tmp 72) (Operand.const (Value.bool false)), type := 4, pos := "ref.go:54", after := #[{ on := 6, ground := Ground.data }, { on := 17, ground := Ground.data }], guard := none }) (v := .bool true) rfl (by kernel_rfl) (by kernel_rfl) (by kernel_rfl) (fun _ _ _ h => h) (Or.inl ⟨by rfl, ?_⟩) (SK.out _ tV) ?_
                        · rintro w ⟨⟨s0, s1, s2, s3⟩, s4, s5, s6, s7⟩
                          go_simp
                        simp only [Act.put, List.setIfInBounds_toArray, List.set_cons_zero, List.set_cons_succ]
                        refine wpAnyH_take (i := 19) (oi := { dst := some 74, op := Op.move (Operand.tmp 73), type := 4, pos := "ref.go:54", after := #[{ on := 18, ground := Ground.data }, { on := 17, ground := Ground.chain }], guard := none }) (v := .bool true) rfl (by kernel_rfl) (by kernel_rfl) (by kernel_rfl) (fun _ _ _ h => h) (Or.inl ⟨by rfl, ?_⟩) (SK.out _ tV) ?_
                        · rintro w ⟨⟨s0, s1, s2, s3⟩, s4, s5, s6, s7⟩
                          go_simp
                        simp only [Act.put, List.setIfInBounds_toArray, List.set_cons_zero, List.set_cons_succ]
                        refine wpAnyH_take (i := 20) (oi := { dst := some 75, op := Op.move (Operand.tmp 10), type := 31, pos := "ref.go:54", after := #[{ on := 19, ground := Ground.guard }], guard := some (19, true) }) (v := .slice (some ⟨gO, 0, none⟩) (m + 1) oc2) rfl (by kernel_rfl) (by kernel_rfl) (by kernel_rfl) (fun _ _ _ h => h) (Or.inl ⟨by rfl, ?_⟩) (SK.out _ tV) ?_
                        · rintro w ⟨⟨s0, s1, s2, s3⟩, s4, s5, s6, s7⟩
                          go_simp
                        simp only [Act.put, List.setIfInBounds_toArray, List.set_cons_zero, List.set_cons_succ]
                        refine wpAnyH_take (i := 21) (oi := { dst := some 76, op := Op.move (Operand.tmp 10), type := 31, pos := "ref.go:54", after := #[{ on := 19, ground := Ground.guard }], guard := some (19, true) }) (v := .slice (some ⟨gO, 0, none⟩) (m + 1) oc2) rfl (by kernel_rfl) (by kernel_rfl) (by kernel_rfl) (fun _ _ _ h => h) (Or.inl ⟨by rfl, ?_⟩) (SK.out _ tV) ?_
                        · rintro w ⟨⟨s0, s1, s2, s3⟩, s4, s5, s6, s7⟩
                          go_simp
                        simp only [Act.put, List.setIfInBounds_toArray, List.set_cons_zero, List.set_cons_succ]
                        refine wpAnyH_take (i := 22) (oi := { dst := some 77, op := Op.call { callee := Callee.builtin Builtin.len, args := #[Operand.tmp 76], argTypes := #[31] }, type := 3, pos := "ref.go:54", after := #[{ on := 21, ground := Ground.data }, { on := 19, ground := Ground.guard }], guard := some (19, true) }) (v := .int .i64 ((m : Int) + 1)) rfl (by kernel_rfl) (by kernel_rfl) (by kernel_rfl) (fun _ _ _ h => h) (Or.inl ⟨by rfl, ?_⟩) (SK.out _ tV) ?_
                        · rintro w ⟨⟨s0, s1, s2, s3⟩, s4, s5, s6, s7⟩
                          go_simp
                        simp only [Act.put, List.setIfInBounds_toArray, List.set_cons_zero, List.set_cons_succ]
                        refine wpAnyH_take (i := 23) (oi := { dst := some 78, op := Op.binOp BinOp.sub 3 (Operand.tmp 77) (Operand.const (Value.int IntKind.i64 1)) 3, type := 3, pos := "ref.go:54", after := #[{ on := 22, ground := Ground.data }, { on := 19, ground := Ground.guard }], guard := some (19, true) }) (v := .int .i64 (m : Nat)) rfl (by kernel_rfl) (by kernel_rfl) (by kernel_rfl) (fun _ _ _ h => h) (Or.inl ⟨by rfl, ?_⟩) (SK.out _ tV) ?_
                        · rintro w ⟨⟨s0, s1, s2, s3⟩, s4, s5, s6, s7⟩
                          go_simp; rw [wrapI _ (by omega) (by omega)]
                        simp only [Act.put, List.setIfInBounds_toArray, List.set_cons_zero, List.set_cons_succ]
                        refine wpAnyH_take (i := 24) (oi := { dst := some 79, op := Op.indexAddr 31 (Operand.tmp 75) (Operand.tmp 78), type := 0, pos := "ref.go:54", after := #[{ on := 20, ground := Ground.data }, { on := 23, ground := Ground.data }, { on := 19, ground := Ground.guard }], guard := some (19, true) }) (v := .pointer (some ⟨gO, m * 4, none⟩)) rfl (by kernel_rfl) (by kernel_rfl) (by kernel_rfl) (fun _ _ _ h => h) (Or.inl ⟨by rfl, ?_⟩) (SK.out _ tV) ?_
                        · rintro w ⟨⟨s0, s1, s2, s3⟩, s4, s5, s6, s7⟩
                          go_simp
                        simp only [Act.put, List.setIfInBounds_toArray, List.set_cons_zero, List.set_cons_succ]
                        refine wpAnyH_take (i := 25) (oi := { dst := some 80, op := Op.fieldAddr 29 (Operand.tmp 79) 2, type := 0, pos := "ref.go:54", after := #[{ on := 24, ground := Ground.data }, { on := 19, ground := Ground.guard }], guard := some (19, true) }) (v := .pointer (some ⟨gO, m * 4 + 2, none⟩)) rfl (by kernel_rfl) (by kernel_rfl) (by kernel_rfl) (fun _ _ _ h => h) (Or.inl ⟨by rfl, ?_⟩) (SK.out _ tV) ?_
                        · rintro w ⟨⟨s0, s1, s2, s3⟩, s4, s5, s6, s7⟩
                          go_simp
                        simp only [Act.put, List.setIfInBounds_toArray, List.set_cons_zero, List.set_cons_succ]
                        refine wpAnyH_take (i := 26) (oi := { dst := some 81, op := Op.load 3 (Operand.tmp 80), type := 3, pos := "ref.go:54", after := #[{ on := 25, ground := Ground.data }, { on := 19, ground := Ground.guard }], guard := some (19, true) }) (v := .int .i64 kd2) rfl (by kernel_rfl) (by kernel_rfl) (by kernel_rfl) (fun _ _ _ h => h) (Or.inl ⟨by rfl, ?_⟩) (SK.out _ tV) ?_
                        · rintro w ⟨⟨s0, s1, s2, s3⟩, s4, s5, s6, s7⟩
                          go_simp
                        simp only [Act.put, List.setIfInBounds_toArray, List.set_cons_zero, List.set_cons_succ]
                        refine wpAnyH_take (i := 27) (oi := { dst := some 82, op := Op.binOp BinOp.eql 3 (Operand.tmp 81) (Operand.const (Value.int IntKind.i64 2)) 3, type := 4, pos := "ref.go:54", after := #[{ on := 26, ground := Ground.data }, { on := 19, ground := Ground.guard }], guard := some (19, true) }) (v := .bool true) rfl (by kernel_rfl) (by kernel_rfl) (by kernel_rfl) (fun _ _ _ h => h) (Or.inl ⟨by rfl, ?_⟩) (SK.out _ tV) ?_
                        · rintro w ⟨⟨s0, s1, s2, s3⟩, s4, s5, s6, s7⟩
                          go_simp; exact E2.out
                        simp only [Act.put, List.setIfInBounds_toArray, List.set_cons_zero, List.set_cons_succ]
                        refine wpAnyH_take (i := 28) (oi := { dst := some 83, op := Op.pick (Operand.tmp 74) (Operand.tmp 82) (Operand.const (Value.bool false)), type := 4, pos := "ref.go:54", after := #[{ on := 19, ground := Ground.data }, { on := 27, ground := Ground.data }], guard := none }) (v := .bool true) rfl (by kernel_rfl) (by kernel_rfl) (by kernel_rfl) (fun _ _ _ h => h) (Or.inl ⟨by rfl, ?_⟩) (SK.out _ tV) ?_
                        · rintro w ⟨⟨s0, s1, s2, s3⟩, s4, s5, s6, s7⟩
                          go_simp
                        simp only [Act.put, List.setIfInBounds_toArray, List.set_cons_zero, List.set_cons_succ]
                        refine wpAnyH_done (by kernel_rfl) ?_ _
                        have TU := hide tV
                        clear tV
                        go_wp2_with fail
                        go_meet
                        exact ⟨_, rfl, TU.out, fun _ => ⟨trivial, R3, _, HR2.out, show key2 = key from by rw [HKY.out, HKX.out]; exact HYE.out, E2.out⟩, fun e => (by cases e)⟩
                      · have E2 := hide hk2
                        have HNE := hide (show ents R2 = D ++ trimE G1 by rw [HER.out]; exact HTR3.out.stop_kind (by rw [HKY.out]; exact HXK.out.2 rfl) hk2)
                        clear hk2
                        refine wp_region_held_drew (S := fun u => (u.cell? ⟨b, off + i * 4, none⟩ = some (.slice ka L1 kc) ∧ u.cell? ⟨b, off + i * 4 + 1, none⟩ = some (.int .u64 (sq : Nat)) ∧ u.cell? ⟨b, off + i * 4 + 2, none⟩ = some (.int .i64 kd) ∧ u.cell? ⟨b, off + i * 4 + 3, none⟩ = some (.slice va L2 vc)) ∧ u.cell? ⟨gO, m * 4, none⟩ = some (.slice ka2 L3 kc2) ∧ u.cell? ⟨gO, m * 4 + 1, none⟩ = some (.int .u64 (sq2 : Nat)) ∧ u.cell? ⟨gO, m * 4 + 2, none⟩ = some (.int .i64 kd2) ∧ u.cell? ⟨gO, m * 4 + 3, none⟩ = some (.slice va2 L4 vc2)) (by kernel_rfl) (SK.out _ tV) (fun _ => ?_)
                        change wpAnyH _ _ _ _ _ 29 (Array.replicate 29 false) _ _
                        refine wpAnyH_take (i := 0) (oi := { dst := some 55, op := Op.move (Operand.tmp 2), type := 4, pos := "ref.go:54", after := #[], guard := none }) (v := .bool true) rfl (by kernel_rfl) (by kernel_rfl) (by kernel_rfl) (fun _ _ _ h => h) (Or.inl ⟨by rfl, ?_⟩) (SK.out _ tV) ?_
                        · rintro w ⟨⟨s0, s1, s2, s3⟩, s4, s5, s6, s7⟩
                          go_simp
                        simp only [Act.put, List.setIfInBounds_toArray, List.set_cons_zero, List.set_cons_succ]
                        refine wpAnyH_take (i := 1) (oi := { dst := some 56, op := Op.move (Operand.tmp 55), type := 4, pos := "ref.go:54", after := #[{ on := 0, ground := Ground.data }], guard := none }) (v := .bool true) rfl (by kernel_rfl) (by kernel_rfl) (by kernel_rfl) (fun _ _ _ h => h) (Or.inl ⟨by rfl, ?_⟩) (SK.out _ tV) ?_
                        · rintro w ⟨⟨s0, s1, s2, s3⟩, s4, s5, s6, s7⟩
                          go_simp
                        simp only [Act.put, List.setIfInBounds_toArray, List.set_cons_zero, List.set_cons_succ]
                        refine wpAnyH_take (i := 2) (oi := { dst := some 57, op := Op.move (Operand.tmp 10), type := 31, pos := "ref.go:54", after := #[{ on := 1, ground := Ground.guard }], guard := some (1, true) }) (v := .slice (some ⟨gO, 0, none⟩) (m + 1) oc2) rfl (by kernel_rfl) (by kernel_rfl) (by kernel_rfl) (fun _ _ _ h => h) (Or.inl ⟨by rfl, ?_⟩) (SK.out _ tV) ?_
                        · rintro w ⟨⟨s0, s1, s2, s3⟩, s4, s5, s6, s7⟩
                          go_simp
                        simp only [Act.put, List.setIfInBounds_toArray, List.set_cons_zero, List.set_cons_succ]
                        refine wpAnyH_take (i := 3) (oi := { dst := some 58, op := Op.call { callee := Callee.builtin Builtin.len, args := #[Operand.tmp 57], argTypes := #[31] }, type := 3, pos := "ref.go:54", after := #[{ on := 2, ground := Ground.data }, { on := 1, ground := Ground.guard }], guard := some (1, true) }) (v := .int .i64 ((m : Int) + 1)) rfl (by kernel_rfl) (by kernel_rfl) (by kernel_rfl) (fun _ _ _ h => h) (Or.inl ⟨by rfl, ?_⟩) (SK.out _ tV) ?_
                        · rintro w ⟨⟨s0, s1, s2, s3⟩, s4, s5, s6, s7⟩
                          go_simp
                        simp only [Act.put, List.setIfInBounds_toArray, List.set_cons_zero, List.set_cons_succ]
                        refine wpAnyH_take (i := 4) (oi := { dst := some 59, op := Op.binOp BinOp.gtr 3 (Operand.tmp 58) (Operand.const (Value.int IntKind.i64 0)) 3, type := 4, pos := "ref.go:54", after := #[{ on := 3, ground := Ground.data }, { on := 1, ground := Ground.guard }], guard := some (1, true) }) (v := .bool true) rfl (by kernel_rfl) (by kernel_rfl) (by kernel_rfl) (fun _ _ _ h => h) (Or.inl ⟨by rfl, ?_⟩) (SK.out _ tV) ?_
                        · rintro w ⟨⟨s0, s1, s2, s3⟩, s4, s5, s6, s7⟩
                          go_simp
                        simp only [Act.put, List.setIfInBounds_toArray, List.set_cons_zero, List.set_cons_succ]
                        refine wpAnyH_take (i := 5) (oi := { dst := some 60, op := Op.pick (Operand.tmp 56) (Operand.tmp 59) (Operand.const (Value.bool false)), type := 4, pos := "ref.go:54", after := #[{ on := 1, ground := Ground.data }, { on := 4, ground := Ground.data }], guard := none }) (v := .bool true) rfl (by kernel_rfl) (by kernel_rfl) (by kernel_rfl) (fun _ _ _ h => h) (Or.inl ⟨by rfl, ?_⟩) (SK.out _ tV) ?_
                        · rintro w ⟨⟨s0, s1, s2, s3⟩, s4, s5, s6, s7⟩
                          go_simp
                        simp only [Act.put, List.setIfInBounds_toArray, List.set_cons_zero, List.set_cons_succ]
                        refine wpAnyH_take (i := 6) (oi := { dst := some 61, op := Op.move (Operand.tmp 60), type := 4, pos := "ref.go:54", after := #[{ on := 5, ground := Ground.data }, { on := 1, ground := Ground.chain }], guard := none }) (v := .bool true) rfl (by kernel_rfl) (by kernel_rfl) (by kernel_rfl) (fun _ _ _ h => h) (Or.inl ⟨by rfl, ?_⟩) (SK.out _ tV) ?_
                        · rintro w ⟨⟨s0, s1, s2, s3⟩, s4, s5, s6, s7⟩
                          go_simp
                        simp only [Act.put, List.setIfInBounds_toArray, List.set_cons_zero, List.set_cons_succ]
                        refine wpAnyH_take (i := 7) (oi := { dst := some 62, op := Op.move (Operand.tmp 10), type := 31, pos := "ref.go:54", after := #[{ on := 6, ground := Ground.guard }], guard := some (6, true) }) (v := .slice (some ⟨gO, 0, none⟩) (m + 1) oc2) rfl (by kernel_rfl) (by kernel_rfl) (by kernel_rfl) (fun _ _ _ h => h) (Or.inl ⟨by rfl, ?_⟩) (SK.out _ tV) ?_
                        · rintro w ⟨⟨s0, s1, s2, s3⟩, s4, s5, s6, s7⟩
                          go_simp
                        simp only [Act.put, List.setIfInBounds_toArray, List.set_cons_zero, List.set_cons_succ]
                        refine wpAnyH_take (i := 8) (oi := { dst := some 63, op := Op.move (Operand.tmp 10), type := 31, pos := "ref.go:54", after := #[{ on := 6, ground := Ground.guard }], guard := some (6, true) }) (v := .slice (some ⟨gO, 0, none⟩) (m + 1) oc2) rfl (by kernel_rfl) (by kernel_rfl) (by kernel_rfl) (fun _ _ _ h => h) (Or.inl ⟨by rfl, ?_⟩) (SK.out _ tV) ?_
                        · rintro w ⟨⟨s0, s1, s2, s3⟩, s4, s5, s6, s7⟩
                          go_simp
                        simp only [Act.put, List.setIfInBounds_toArray, List.set_cons_zero, List.set_cons_succ]
                        refine wpAnyH_take (i := 9) (oi := { dst := some 64, op := Op.call { callee := Callee.builtin Builtin.len, args := #[Operand.tmp 63], argTypes := #[31] }, type := 3, pos := "ref.go:54", after := #[{ on := 8, ground := Ground.data }, { on := 6, ground := Ground.guard }], guard := some (6, true) }) (v := .int .i64 ((m : Int) + 1)) rfl (by kernel_rfl) (by kernel_rfl) (by kernel_rfl) (fun _ _ _ h => h) (Or.inl ⟨by rfl, ?_⟩) (SK.out _ tV) ?_
                        · rintro w ⟨⟨s0, s1, s2, s3⟩, s4, s5, s6, s7⟩
                          go_simp
                        simp only [Act.put, List.setIfInBounds_toArray, List.set_cons_zero, List.set_cons_succ]
                        refine wpAnyH_take (i := 10) (oi := { dst := some 65, op := Op.binOp BinOp.sub 3 (Operand.tmp 64) (Operand.const (Value.int IntKind.i64 1)) 3, type := 3, pos := "ref.go:54", after := #[{ on := 9, ground := Ground.data }, { on := 6, ground := Ground.guard }], guard := some (6, true) }) (v := .int .i64 (m : Nat)) rfl (by kernel_rfl) (by kernel_rfl) (by kernel_rfl) (fun _ _ _ h => h) (Or.inl ⟨by rfl, ?_⟩) (SK.out _ tV) ?_
                        · rintro w ⟨⟨s0, s1, s2, s3⟩, s4, s5, s6, s7⟩
                          go_simp; rw [wrapI _ (by omega) (by omega)]
                        simp only [Act.put, List.setIfInBounds_toArray, List.set_cons_zero, List.set_cons_succ]
                        refine wpAnyH_take (i := 11) (oi := { dst := some 66, op := Op.indexAddr 31 (Operand.tmp 62) (Operand.tmp 65), type := 0, pos := "ref.go:54", after := #[{ on := 7, ground := Ground.data }, { on := 10, ground := Ground.data }, { on := 6, ground := Ground.guard }], guard := some (6, true) }) (v := .pointer (some ⟨gO, m * 4, none⟩)) rfl (by kernel_rfl) (by kernel_rfl) (by kernel_rfl) (fun _ _ _ h => h) (Or.inl ⟨by rfl, ?_⟩) (SK.out _ tV) ?_
                        · rintro w ⟨⟨s0, s1, s2, s3⟩, s4, s5, s6, s7⟩
                          go_simp
                        simp only [Act.put, List.setIfInBounds_toArray, List.set_cons_zero, List.set_cons_succ]
                        refine wpAnyH_take (i := 12) (oi := { dst := some 67, op := Op.load 29 (Operand.tmp 66), type := 29, pos := "ref.go:54", after := #[{ on := 11, ground := Ground.data }, { on := 6, ground := Ground.guard }], guard := some (6, true) }) (v := .agg #[.slice ka2 L3 kc2, .int .u64 (sq2 : Nat), .int .i64 kd2, .slice va2 L4 vc2]) rfl (by kernel_rfl) (by kernel_rfl) (by kernel_rfl) (fun _ _ _ h => h) (Or.inl ⟨by rfl, ?_⟩) (SK.out _ tV) ?_
                        · rintro w ⟨⟨s0, s1, s2, s3⟩, s4, s5, s6, s7⟩
                          go_simp
                        simp only [Act.put, List.setIfInBounds_toArray, List.set_cons_zero, List.set_cons_succ]
                        refine wpAnyH_take (i := 13) (oi := { dst := some 68, op := Op.move (Operand.tmp 0), type := 31, pos := "ref.go:54", after := #[{ on := 6, ground := Ground.guard }], guard := some (6, true) }) (v := .slice (some ⟨b, off, none⟩) n c) rfl (by kernel_rfl) (by kernel_rfl) (by kernel_rfl) (fun _ _ _ h => h) (Or.inl ⟨by rfl, ?_⟩) (SK.out _ tV) ?_
                        · rintro w ⟨⟨s0, s1, s2, s3⟩, s4, s5, s6, s7⟩
                          go_simp
                        simp only [Act.put, List.setIfInBounds_toArray, List.set_cons_zero, List.set_cons_succ]
                        refine wpAnyH_take (i := 14) (oi := { dst := some 69, op := Op.move (Operand.tmp 11), type := 3, pos := "ref.go:54", after := #[{ on := 6, ground := Ground.guard }], guard := some (6, true) }) (v := .int .i64 (i : Nat)) rfl (by kernel_rfl) (by kernel_rfl) (by kernel_rfl) (fun _ _ _ h => h) (Or.inl ⟨by rfl, ?_⟩) (SK.out _ tV) ?_
                        · rintro w ⟨⟨s0, s1, s2, s3⟩, s4, s5, s6, s7⟩
                          go_simp
                        simp only [Act.put, List.setIfInBounds_toArray, List.set_cons_zero, List.set_cons_succ]
                        refine wpAnyH_take (i := 15) (oi := { dst := some 70, op := Op.indexAddr 31 (Operand.tmp 68) (Operand.tmp 69), type := 0, pos := "ref.go:54", after := #[{ on := 13, ground := Ground.data }, { on := 14, ground := Ground.data }, { on := 6, ground := Ground.guard }], guard := some (6, true) }) (v := .pointer (some ⟨b, off + i * 4, none⟩)) rfl (by kernel_rfl) (by kernel_rfl) (by kernel_rfl) (fun _ _ _ h => h) (Or.inl ⟨by rfl, ?_⟩) (SK.out _ tV) ?_
                        · rintro w ⟨⟨s0, s1, s2, s3⟩, s4, s5, s6, s7⟩
                          go_simp
                        simp only [Act.put, List.setIfInBounds_toArray, List.set_cons_zero, List.set_cons_succ]
                        refine wpAnyH_take (i := 16) (oi := { dst := some 71, op := Op.load 29 (Operand.tmp 70), type := 29, pos := "ref.go:54", after := #[{ on := 15, ground := Ground.data }, { on := 6, ground := Ground.guard }], guard := some (6, true) }) (v := .agg #[.slice ka L1 kc, .int .u64 (sq : Nat), .int .i64 kd, .slice va L2 vc]) rfl (by kernel_rfl) (by kernel_rfl) (by kernel_rfl) (fun _ _ _ h => h) (Or.inl ⟨by rfl, ?_⟩) (SK.out _ tV) ?_
                        · rintro w ⟨⟨s0, s1, s2, s3⟩, s4, s5, s6, s7⟩
                          go_simp
                        simp only [Act.put, List.setIfInBounds_toArray, List.set_cons_zero, List.set_cons_succ]
                        refine wpAnyH_ready (rs := [17]) (by kernel_rfl) (by simp) ?_
                        refine AllReadyH.cons rfl (fun K hK => ?_) AllReadyH.nil
                        go_simp
                        refine (SC.out _ tV).mono ?_
                        rintro oo Vn ⟨rfl, tC⟩
                        have tN := tC
                        have tV := tV.trans tN
                        clear tC
                        clear tN
                        go_simp
                        refine hK.out _ _ (SK.out _ tV) (fun _ => ?_)
                        clear hK K
                        refine wpAnyH_take (i := 18) (oi := { dst := some 73, op := Op.pick (Operand.tmp 61) (Operand.tmp 72) (Operand.const (Value.bool false)), type := 4, pos := "ref.go:54", after := #[{ on := 6, ground := Ground.data }, { on := 17, ground := Ground.data }], guard := none }) (v := .bool true) rfl (by kernel_rfl) (by kernel_rfl) (by kernel_rfl) (fun _ _ _ h => h) (Or.inl ⟨by rfl, ?_⟩) (SK.out _ tV) ?_
                        · rintro w ⟨⟨s0, s1, s2, s3⟩, s4, s5, s6, s7⟩
                          go_simp
                        simp only [Act.put, List.setIfInBounds_toArray, List.set_cons_zero, List.set_cons_succ]
                        refine wpAnyH_take (i := 19) (oi := { dst := some 74, op := Op.move (Operand.tmp 73), type := 4, pos := "ref.go:54", after := #[{ on := 18, ground := Ground.data }, { on := 17, ground := Ground.chain }], guard := none }) (v := .bool true) rfl (by kernel_rfl) (by kernel_rfl) (by kernel_rfl) (fun _ _ _ h => h) (Or.inl ⟨by rfl, ?_⟩) (SK.out _ tV) ?_
                        · rintro w ⟨⟨s0, s1, s2, s3⟩, s4, s5, s6, s7⟩
                          go_simp
                        simp only [Act.put, List.setIfInBounds_toArray, List.set_cons_zero, List.set_cons_succ]
                        refine wpAnyH_take (i := 20) (oi := { dst := some 75, op := Op.move (Operand.tmp 10), type := 31, pos := "ref.go:54", after := #[{ on := 19, ground := Ground.guard }], guard := some (19, true) }) (v := .slice (some ⟨gO, 0, none⟩) (m + 1) oc2) rfl (by kernel_rfl) (by kernel_rfl) (by kernel_rfl) (fun _ _ _ h => h) (Or.inl ⟨by rfl, ?_⟩) (SK.out _ tV) ?_
                        · rintro w ⟨⟨s0, s1, s2, s3⟩, s4, s5, s6, s7⟩
                          go_simp
                        simp only [Act.put, List.setIfInBounds_toArray, List.set_cons_zero, List.set_cons_succ]
                        refine wpAnyH_take (i := 21) (oi := { dst := some 76, op := Op.move (Operand.tmp 10), type := 31, pos := "ref.go:54", after := #[{ on := 19, ground := Ground.guard }], guard := some (19, true) }) (v := .slice (some ⟨gO, 0, none⟩) (m + 1) oc2) rfl (by kernel_rfl) (by kernel_rfl) (by kernel_rfl) (fun _ _ _ h => h) (Or.inl ⟨by rfl, ?_⟩) (SK.out _ tV) ?_
                        · rintro w ⟨⟨s0, s1, s2, s3⟩, s4, s5, s6, s7⟩
                          go_simp
                        simp only [Act.put, List.setIfInBounds_toArray, List.set_cons_zero, List.set_cons_succ]
                        refine wpAnyH_take (i := 22) (oi := { dst := some 77, op := Op.call { callee := Callee.builtin Builtin.len, args := #[Operand.tmp 76], argTypes := #[31] }, type := 3, pos := "ref.go:54", after := #[{ on := 21, ground := Ground.data }, { on := 19, ground := Ground.guard }], guard := some (19, true) }) (v := .int .i64 ((m : Int) + 1)) rfl (by kernel_rfl) (by kernel_rfl) (by kernel_rfl) (fun _ _ _ h => h) (Or.inl ⟨by rfl, ?_⟩) (SK.out _ tV) ?_
                        · rintro w ⟨⟨s0, s1, s2, s3⟩, s4, s5, s6, s7⟩
                          go_simp
                        simp only [Act.put, List.setIfInBounds_toArray, List.set_cons_zero, List.set_cons_succ]
                        refine wpAnyH_take (i := 23) (oi := { dst := some 78, op := Op.binOp BinOp.sub 3 (Operand.tmp 77) (Operand.const (Value.int IntKind.i64 1)) 3, type := 3, pos := "ref.go:54", after := #[{ on := 22, ground := Ground.data }, { on := 19, ground := Ground.guard }], guard := some (19, true) }) (v := .int .i64 (m : Nat)) rfl (by kernel_rfl) (by kernel_rfl) (by kernel_rfl) (fun _ _ _ h => h) (Or.inl ⟨by rfl, ?_⟩) (SK.out _ tV) ?_
                        · rintro w ⟨⟨s0, s1, s2, s3⟩, s4, s5, s6, s7⟩
                          go_simp; rw [wrapI _ (by omega) (by omega)]
                        simp only [Act.put, List.setIfInBounds_toArray, List.set_cons_zero, List.set_cons_succ]
                        refine wpAnyH_take (i := 24) (oi := { dst := some 79, op := Op.indexAddr 31 (Operand.tmp 75) (Operand.tmp 78), type := 0, pos := "ref.go:54", after := #[{ on := 20, ground := Ground.data }, { on := 23, ground := Ground.data }, { on := 19, ground := Ground.guard }], guard := some (19, true) }) (v := .pointer (some ⟨gO, m * 4, none⟩)) rfl (by kernel_rfl) (by kernel_rfl) (by kernel_rfl) (fun _ _ _ h => h) (Or.inl ⟨by rfl, ?_⟩) (SK.out _ tV) ?_
                        · rintro w ⟨⟨s0, s1, s2, s3⟩, s4, s5, s6, s7⟩
                          go_simp
                        simp only [Act.put, List.setIfInBounds_toArray, List.set_cons_zero, List.set_cons_succ]
                        refine wpAnyH_take (i := 25) (oi := { dst := some 80, op := Op.fieldAddr 29 (Operand.tmp 79) 2, type := 0, pos := "ref.go:54", after := #[{ on := 24, ground := Ground.data }, { on := 19, ground := Ground.guard }], guard := some (19, true) }) (v := .pointer (some ⟨gO, m * 4 + 2, none⟩)) rfl (by kernel_rfl) (by kernel_rfl) (by kernel_rfl) (fun _ _ _ h => h) (Or.inl ⟨by rfl, ?_⟩) (SK.out _ tV) ?_
                        · rintro w ⟨⟨s0, s1, s2, s3⟩, s4, s5, s6, s7⟩
                          go_simp
                        simp only [Act.put, List.setIfInBounds_toArray, List.set_cons_zero, List.set_cons_succ]
                        refine wpAnyH_take (i := 26) (oi := { dst := some 81, op := Op.load 3 (Operand.tmp 80), type := 3, pos := "ref.go:54", after := #[{ on := 25, ground := Ground.data }, { on := 19, ground := Ground.guard }], guard := some (19, true) }) (v := .int .i64 kd2) rfl (by kernel_rfl) (by kernel_rfl) (by kernel_rfl) (fun _ _ _ h => h) (Or.inl ⟨by rfl, ?_⟩) (SK.out _ tV) ?_
                        · rintro w ⟨⟨s0, s1, s2, s3⟩, s4, s5, s6, s7⟩
                          go_simp
                        simp only [Act.put, List.setIfInBounds_toArray, List.set_cons_zero, List.set_cons_succ]
                        refine wpAnyH_take (i := 27) (oi := { dst := some 82, op := Op.binOp BinOp.eql 3 (Operand.tmp 81) (Operand.const (Value.int IntKind.i64 2)) 3, type := 4, pos := "ref.go:54", after := #[{ on := 26, ground := Ground.data }, { on := 19, ground := Ground.guard }], guard := some (19, true) }) (v := .bool false) rfl (by kernel_rfl) (by kernel_rfl) (by kernel_rfl) (fun _ _ _ h => h) (Or.inl ⟨by rfl, ?_⟩) (SK.out _ tV) ?_
                        · rintro w ⟨⟨s0, s1, s2, s3⟩, s4, s5, s6, s7⟩
                          go_simp; exact E2.out
                        simp only [Act.put, List.setIfInBounds_toArray, List.set_cons_zero, List.set_cons_succ]
                        refine wpAnyH_take (i := 28) (oi := { dst := some 83, op := Op.pick (Operand.tmp 74) (Operand.tmp 82) (Operand.const (Value.bool false)), type := 4, pos := "ref.go:54", after := #[{ on := 19, ground := Ground.data }, { on := 27, ground := Ground.data }], guard := none }) (v := .bool false) rfl (by kernel_rfl) (by kernel_rfl) (by kernel_rfl) (fun _ _ _ h => h) (Or.inl ⟨by rfl, ?_⟩) (SK.out _ tV) ?_
                        · rintro w ⟨⟨s0, s1, s2, s3⟩, s4, s5, s6, s7⟩
                          go_simp
                        simp only [Act.put, List.setIfInBounds_toArray, List.set_cons_zero, List.set_cons_succ]
                        refine wpAnyH_done (by kernel_rfl) ?_ _
                        have TU := hide tV
                        clear tV
                        go_wp2_with fail
                        go_meet
                        exact ⟨_, rfl, TU.out, fun e => (by cases e), fun _ => HNE.out⟩
              case rest =>
                obtain ⟨q, rfl, tc, hqt, hqf⟩ := hcut
                have HQT := hide hqt
                have HQF := hide hqf
                have HRK3 := hide (HRKI.out.quiet tc)
                have HBW3 := hide (show Bools wc g bs by obtain ⟨cs, k1, k2⟩ := HBWI.out; exact ⟨cs, tc.heap k1 (fun x => x), k2⟩)
                clear hqt hqf tc
                cases q
                · have NX1 := hide (HQF.out rfl)
                  have HLR := hide hm
                  clear hm HQF HQT
                  go_wp2_with fail
                  go_roundw
                  case rel => exact ⟨i + 1, R2, _, [], by go_num, by omega, HRK3.out, HBW3.out, by rw [List.append_nil]; exact NX1.out, NX0.out, by have := HLR.out; omega⟩
                  case measure => (simp [intOf]; try omega)
                · obtain ⟨rfl, R3, y, hR2, hky, hkd⟩ := HQT.out rfl
                  obtain ⟨m, rfl⟩ : ∃ m', m = m' + 1 := ⟨m - 1, by rw [hR2] at hm; simp at hm; omega⟩
                  have hm3 : m = R3.length := by rw [hR2] at hm; simp at hm; omega
                  have hrow := HRK3.out.row
                  rw [hR2] at hrow
                  have hcc : (m : Int) + 1 ≤ oc2 := by obtain ⟨g9, _, _, h9⟩ := hrow.last hm3; omega
                  have HRK4 := hide (show Rk w wc (.slice oa2 m oc2) l R3 from ⟨hrow.cut hm3, fun z hz => HRK3.out.mem z (by rw [hR2]; exact List.mem_append_left _ hz), HRK3.out.turn⟩)
                  obtain ⟨gO, hgO, _, _⟩ := hrow.last hm3
                  subst hgO
                  have HT4 := hide (show ∃ G3, Tr true x.e.key D G1 G3 (ents R3) by
                    have h1 := HTR.out
                    rw [hR2] at h1
                    unfold ents at h1 ⊢
                    rw [List.map_append] at h1
                    exact h1.pop hky hkd)
                  have j1 : (m : Int) ≤ 1000000 := by omega
                  have j2 : (0 : Int) ≤ (m : Int) := by omega
                  have j3 : (m : Int) ≤ oc2 := by omega
                  have HM3 := hide hm3
                  clear hrow hR2 hm hm3 HQF HQT
                  go_wp2_with fail
                  obtain ⟨G3, hG3⟩ := HT4.out
                  go_roundw
                  case rel => exact ⟨R3, G3, HRK4.out, HBW3.out, hG3, by have := HM3.out; omega⟩
                  case measure => (simp [slLen]; try omega)
          · have NXT := hide (show RInv bot T D (G ++ put1 pb x.e) (P.drop (i + 1)) by
              have hq := HQ.out
              cases hP : P.drop (i + 1) with
              | nil => rw [hP] at hq; cases hq
              | cons yc r =>
                obtain ⟨y, c⟩ := yc
                rw [hP] at hq
                have h1 := HRV.out
                rw [hP] at h1
                exact h1.same (of_decide_eq_true hq))
            go_wp2_with fail
            go_roundw
            case rel => exact ⟨i + 1, R1, D, _, by go_num, by omega, HRK2.out, HBW2.out, HEQ1.out, NXT.out, hrl1⟩
            case measure => (simp [intOf]; try omega)
    · obtain rfl : i = n := by omega
      have HDN := hide (show P.drop i = [] from List.drop_eq_nil_of_le (by have := HPL.out; omega))
      rw [HDN.out] at HRV
      have hfin := HRV.out.done
      have FIN := hide (show ents R = T by rw [HEQ.out, hfin.2, List.append_nil, hfin.1])
      clear hfin
      go_wp2_with fail
      go_ret2
      exact ⟨.inr ⟨rfl, _, R, rfl, HRK.out, FIN.out⟩, HRK.out.turn⟩
end Go.Proofs.Ytpgligfolecieaa
