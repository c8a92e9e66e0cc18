import Derived.Test.YtjklbhdhjfifhaaGreatM27
import Derived.Test.YtjklbhdhjfifhaaGreatM28
/-
  A block's bytes, read.
-/
namespace Go.Proofs.YtjklbhdhjfifhaaGreat
open Go.RowKit
set_option maxRecDepth 100000
set_option maxHeartbeats 8000000
/-- What parse answers: the entries and where they lie, or ErrBad. -/
def ParseOk (w : World) (p : List (BitVec 8)) (e : Ending) (w' : World) : Prop :=
  (parseK p = none ∧ e = .returned (.tuple #[.slice none 0 0, .slice none 0 0, .int .i64 4])) ∨
  ∃ (es : List Ent) (a : Option Addr) (c : Nat) (rv : Value) (R : List Tow), parseK p = some es ∧ ents R = es ∧ e = .returned (.tuple #[.slice a R.length c, rv, .int .i64 0]) ∧ ERow w' w.heap.size (.slice a R.length c) R ∧ Shown w' w.heap.size R
theorem prevK_last (R : List Tow) (x : Tow) : prevK (R ++ [x]) (R ++ [x]).length = x.e.key := by
  rw [List.length_append, List.length_singleton]
  simp [prevK]
/-- What is left to read tells the rest. -/
theorem rdRow_more {R : List Tow} {key l r : List (BitVec 8)} {ent : Ent} {x : Tow} {o : Option (List Ent)} (hx : x.e = ent) (hne : l ≠ []) (h : rdEnt R.length key l = some (ent, r)) (ho : o = (rdRow R.length key l).map (ents R ++ ·)) : o = (rdRow (R ++ [x]).length ent.key r).map (ents (R ++ [x]) ++ ·) := by
  rw [ho, rdRow_some hne h, List.length_append, List.length_singleton, Option.map_map]
  congr 1
  funext es
  simp [ents, hx]
theorem turns_then {w wr w' : World} {r : Nat} (t : Turns (fun _ => False) w wr) (b : Below r wr w') (h : w.heap.size ≤ r) : Turns (fun _ => False) w w' :=
  ⟨b.os.trans t.os, b.tape.trans t.tape, b.output.trans t.output, Nat.le_trans t.size b.size, fun k hk hn => (b.block k (by omega)).trans (t.block k hk hn)⟩
theorem turns_from {a b : World} {r : Nat} (h : Below r a b) : Turns (fun k => r ≤ k) a b := ⟨h.os, h.tape, h.output, h.size, fun k _ hn => h.block k (by omega)⟩
theorem ERow.base {w : World} {B B' : Nat} {v : Value} {R : List Tow} (h : ERow w B v R) (hB : B' ≤ B) : ERow w B' v R := by
  rcases h with h | ⟨g, c, n, h1, h2, h3, h4, h5⟩
  · exact .inl h
  · exact .inr ⟨g, c, n, h1, h2, h3, by omega, h5⟩
theorem Shown.base {w : World} {B B' : Nat} {R : List Tow} (h : Shown w B R) (hB : B' ≤ B) : Shown w B' R := fun x hx => ⟨(h x hx).1, (h x hx).2.1, fun q hq => ⟨by have := ((h x hx).2.2 q hq).1; omega, ((h x hx).2.2 q hq).2⟩⟩
def goneOf (w : World) (r : Nat) : Nat := match w.cell? ⟨r, 1, none⟩ with | some (.int _ n) => n.toNat | _ => 0
/-- The reader between two entries. -/
structure PInv (w wr : World) (B q r : Nat) (pf : List (BitVec 8)) (i : Nat) (kv ev rv : Value) (key : List (BitVec 8)) (R : List Tow) : Prop where
  st : RS wr q r pf i 0 kv ev rv key R (mk (ents R))
  le : i ≤ pf.length
  last : key = prevK R R.length
  each : ∀ x, x ∈ R → chk1 x.e = 0
  at_ : i = (rowB 0 [] (ents R)).length
  rest : rdRow 0 [] pf = (rdRow R.length key (pf.drop i)).map (ents R ++ ·)
  turns : Turns (fun _ => False) w wr
section
variable {w wr : World} {B q r : Nat} {pf : List (BitVec 8)} {i : Nat} {kv ev rv : Value} {key : List (BitVec 8)} {R : List Tow}
theorem PInv.keys (h : PInv w wr B q r pf i kv ev rv key R) : ∀ x, x ∈ R → x.e.key.length ≤ 1000000 := fun x hx => by
  have := (chk1_fine (h.each x hx)).2.2.2.2.1
  omega
theorem PInv.key_le (h : PInv w wr B q r pf i kv ev rv key R) : key.length ≤ 4096 := by
  rw [h.last]
  cases hR : R.length with
  | zero => simp [prevK]
  | succ k =>
    have hk : k < R.length := by omega
    have h1 := (chk1_fine (h.each R[k] (List.getElem_mem hk))).2.2.2.2.1
    simpa [prevK, hk] using h1
theorem PInv.four (h : PInv w wr B q r pf i kv ev rv key R) : 4 * R.length ≤ pf.length := by
  have h1 := rowB_ge (ents R) 0 []
  have h2 : (ents R).length = R.length := by simp [ents]
  have h3 := h.at_
  have h4 := h.le
  omega
theorem PInv.gone (h : PInv w wr B q r pf i kv ev rv key R) : goneOf wr r = i := by
  obtain ⟨a, c, _, c1, _⟩ := h.st.rd.cells
  unfold goneOf
  rw [c1]
  simp
end
/-- One entry more. -/
theorem PInv.step {w wr w' : World} {B q r : Nat} {pf : List (BitVec 8)} {i i' : Nat} {kv ev rv kv' ev' rv' : Value} {key : List (BitVec 8)} {R : List Tow} {ent : Ent} {x : Tow} (h : PInv w wr B q r pf i kv ev rv key R) (hlt : i < pf.length) (hr : rdEnt R.length key (pf.drop i) = some (ent, pf.drop i')) (hi' : i' ≤ pf.length) (hx : x.e = ent) (hS : RS w' q r pf i' 0 kv' ev' rv' ent.key (R ++ [x]) (Go.Proofs.YtjklbhdhjfifhaaGreat.mk (ents R) ++ if R.length % 16 = 0 then [i] else [])) (ht : Turns (fun _ => False) w w') :
    PInv w w' B q r pf i' kv' ev' rv' ent.key (R ++ [x]) ∧ i < i' := by
  obtain ⟨h1, h2⟩ := rdEnt_sound hr
  have hl := congrArg List.length h2
  rw [List.length_append, List.length_drop, List.length_drop] at hl
  have h4 := entB_ge (shr R.length key ent.key) ent
  have hen : ents (R ++ [x]) = ents R ++ [ent] := by simp [ents, hx]
  have hel : (ents R).length = R.length := by simp [ents]
  have hlk : lastK [] (ents R) = key := by
    have := lastK_prev R R.length (Nat.le_refl _)
    rw [List.take_length] at this
    rw [this]; exact h.last.symm
  have hmk : Go.Proofs.YtjklbhdhjfifhaaGreat.mk (ents (R ++ [x])) = Go.Proofs.YtjklbhdhjfifhaaGreat.mk (ents R) ++ if R.length % 16 = 0 then [i] else [] := by
    rw [hen, Go.Proofs.YtjklbhdhjfifhaaGreat.mk, marks_snoc, hel, Nat.zero_add, Nat.zero_add, ← h.at_]
    rfl
  refine ⟨⟨by rw [hmk]; exact hS, hi', by rw [prevK_last, hx], ?_, ?_, ?_, ht⟩, by omega⟩
  · intro y hy
    rcases List.mem_append.1 hy with hy | hy
    · exact h.each y hy
    · obtain rfl : y = x := by simpa using hy
      rw [hx]; exact h1
  · rw [hen, rowB_snoc, hel, Nat.zero_add, hlk, List.length_append, ← h.at_]
    omega
  · exact rdRow_more hx (by intro q; have := congrArg List.length q; simp at this; omega) hr h.rest
theorem PInv.len_le {w wr : World} {B q r : Nat} {pf : List (BitVec 8)} {i : Nat} {kv ev rv : Value} {key : List (BitVec 8)} {R : List Tow} (h : PInv w wr B q r pf i kv ev rv key R) (hp : pf.length ≤ 40000) : R.length ≤ 100000 ∧ (Go.Proofs.YtjklbhdhjfifhaaGreat.mk (ents R)).length ≤ 100000 := by
  have h1 := h.four
  have h2 := mk_len (ents R)
  have h3 : (ents R).length = R.length := by simp [ents]
  omega
theorem parse_bad1 (a : Option Addr) (n c : Nat) (p : List (BitVec 8)) (w : World) (h : Bytes w (.slice a n c) p) (hnc : n ≤ c) (hn : n ≤ 40000) (hb : p.length < 4 ∨ (p.length - 4) / 4 < at4 p (p.length - 4)) :
    Calls Tryz.prog 133 #[.slice a n c] w fun e w' => ParseOk w p e w' ∧ Below w.heap.size w w' := by
  have hk : parseK p = none := by
    unfold parseK
    rcases hb with x | x
    · rw [if_pos x]
    · by_cases y : p.length < 4
      · rw [if_pos y]
      · rw [if_neg y, if_pos x]
  have HK := hide hk
  have HQ := hide (split_bad a n c p w h hnc (by omega) hb)
  clear h hk hb
  go_enter Tryz.func133, Tryz.ntmps133
  go_wp2_with fail
  refine HQ.out.mono ?_
  rintro e w1 ⟨rfl, b1⟩
  have B1 := hide b1
  clear b1
  go_wp2_with fail
  go_returns
  exact ⟨.inl ⟨HK.out, rfl⟩, B1.out⟩
theorem parse_any (a : Option Addr) (n c : Nat) (p : List (BitVec 8)) (w : World) (h : Bytes w (.slice a n c) p) (hnc : n ≤ c) (hn : n ≤ 40000) :
    Calls Tryz.prog 133 #[.slice a n c] w fun e w' => ParseOk w p e w' ∧ Below w.heap.size w w' := by
  by_cases hb : p.length < 4 ∨ (p.length - 4) / 4 < at4 p (p.length - 4)
  · exact parse_bad1 a n c p w h hnc hn hb
  · have hl := h.len
    have g4 : 4 ≤ p.length := by omega
    have gK : at4 p (p.length - 4) ≤ (p.length - 4) / 4 := by omega
    have HQ := hide (split_ok a n c p w h hnc (by omega) g4 gK)
    have hpk : parseK p = match rdRow 0 [] (p.take (p.length - 4 - 4 * at4 p (p.length - 4))) with
        | none => none
        | some es => if es = [] ∨ inOrd es = false ∨ mk es ≠ pls p (p.length - 4 - 4 * at4 p (p.length - 4)) (at4 p (p.length - 4)) then none else some es := by
      unfold parseK
      rw [if_neg (by omega), if_neg (by omega)]
      rfl
    have hkk : at4 p (p.length - 4) ≤ 10000 := by omega
    generalize hf : p.length - 4 - 4 * at4 p (p.length - 4) = f at *
    have hfn : f ≤ p.length := by omega
    have hbf : Bytes w (.slice a f c) (p.take f) := bytes_first h f c (by omega)
    have hpl := pls_len p (at4 p (p.length - 4)) f
    generalize pls p f (at4 p (p.length - 4)) = PL at *
    have hPLl : PL.length ≤ 10000 := by omega
    have HPK := hide hpk
    have HBF := hide hbf
    have hql : (p.take f).length ≤ 40000 := by rw [List.length_take]; omega
    generalize hPF : p.take f = pf at *
    clear h hb hl g4 gK hpk hbf hf hPF hfn hpl hkk
    generalize hB : w.heap.size = B
    have HB := hide hB
    clear hB
    go_enter Tryz.func133, Tryz.ntmps133
    go_wp2_with fail
    refine HQ.out.mono ?_
    rintro e w1 ⟨pl, rfl, hI, b1⟩
    rw [HB.out] at hI b1
    obtain ⟨pa, pc, rfl⟩ := hI.len
    have HI := hide hI
    have T1 := hide (show Turns (fun _ => False) w w1 from Turns.of_below (by rw [HB.out]; exact b1) _)
    have HNEW := hide (new_any a f c pf w1 (Bytes.quiet HBF.out T1.out) (by have := HBF.out.len; omega))
    clear hI b1 HQ
    go_wp2_with fail
    refine HNEW.out.mono ?_
    rintro e w2 ⟨r, rfl, hr1, hr2, hRd, b2⟩
    have ba := (Below.refl w2.heap.size w2).alloc (Nat.le_refl _) (.cells #[.pointer (some ⟨r, 0, none⟩), .slice none 0 0, .slice none 0 0, .slice none 0 0] 221)
    have hsB : B ≤ w1.heap.size := by have := T1.out.size; have := HB.out; omega
    have S0 := hide (show RS (w2.alloc (.cells #[.pointer (some ⟨r, 0, none⟩), .slice none 0 0, .slice none 0 0, .slice none 0 0] 221)) w2.heap.size r pf 0 0 (.slice none 0 0) (.slice none 0 0) (.slice none 0 0) [] [] [] from {
      box := heap_alloc_new w2 _
      rd := Rdr.turns hRd (Turns.of_below ba (fun _ => False)) (fun x => x)
      rq := hr2
      kr := .inl ⟨rfl, rfl⟩
      er := .inl ⟨rfl, rfl⟩
      ir := .inl ⟨rfl, rfl⟩
      sh := fun x hx => by simp at hx
      ke := fun k ⟨_, _, e⟩ => by cases e
      kI := fun k ⟨_, _, e⟩ => by cases e
      eI := fun k ⟨_, _, e⟩ => by cases e
      ap := fun x hx => by simp at hx })
    have TA := hide (T1.out.trans ((Turns.of_below b2 (fun _ => False)).trans (Turns.of_below ba (fun _ => False))))
    have HIA := hide (HI.out.keep ((Turns.of_below b2 (fun _ => False)).trans (Turns.of_below ba (fun _ => False))) (fun _ _ x => x))
    have hIr : ∀ k, inRow (.slice pa PL.length pc) k → k < r := fun k hk => by have := (HI.out.row hk).2; omega
    have HIR := hide hIr
    clear hRd b2 ba HI hIr
    go_wp2_with fail
    generalize w2.alloc (.cells #[.pointer (some ⟨r, 0, none⟩), .slice none 0 0, .slice none 0 0, .slice none 0 0] 221) = w3 at *
    generalize w2.heap.size = q at *
    have hBq : B ≤ q := by omega
    have hBr : B ≤ r := by omega
    go_loopw [29] (fun _ wr => ∃ (i : Nat) (kv ev rv : Value) (key : List (BitVec 8)) (R : List Tow), PInv w wr B q r pf i kv ev rv key R ∧ IRow wr B (.slice pa PL.length pc) PL) (fun _ wr => pf.length - goneOf wr r)
    case atStart =>
      refine ⟨0, .slice none 0 0, .slice none 0 0, .slice none 0 0, [], [], ⟨S0.out, Nat.zero_le _, rfl, fun x hx => by simp at hx, rfl, ?_, TA.out⟩, HIA.out⟩
      simp [ents]
    case round =>
      obtain ⟨i, kv, ev, rv, key, R, hP, hI⟩ := hrel
      have HP := hide hP
      have HI := hide hI
      have hi := hP.le
      have hgone := hP.gone
      have HGONE := hide hgone
      have c0 : wr.cell? ⟨q, 0, none⟩ = some (.pointer (some ⟨r, 0, none⟩)) := cell_of_row wr q 0 _ 221 (0, 0) hP.st.box
      have HLEFT := hide (leftR_any r pf i 0 wr hP.st.rd (by omega) hi)
      clear hP hI hgone
      by_cases hlt : i < pf.length
      · have hlt' : (0 : Int) < ((pf.length - i : Nat) : Int) := by omega
        have HNX := hide (fun u (t : Turns (fun _ => False) wr u) => next_any q r pf i kv ev rv key R (mk (ents R)) u (HP.out.st.quiet t) hql hi HP.out.key_le (HP.out.len_le hql).1 (HP.out.len_le hql).2 HP.out.last HP.out.keys)
        generalize hLd : pf.length - i = L at *
        have HLd := hide hLd
        clear hLd
        go_wp2_with fail
        refine HLEFT.out.mono ?_
        rintro e w4 ⟨rfl, m4, rfl⟩
        go_wp2_with fail
        refine (HNX.out (wr.drewN m4) (turnsN _ _)).mono ?_
        rintro e w5 ⟨hN, b5⟩
        have B5 := hide (show Below r (wr.drewN m4) w5 from b5)
        clear b5 HNX HLEFT
        rcases hN with ⟨hnone, rfl⟩ | ⟨ent, i', kv', ev', rv', x, hsome, hi', hx, rfl, hS'⟩
        · have hfin : parseK p = none := by
            have h1 := HP.out.rest
            rw [rdRow_none (by intro q; have := congrArg List.length q; simp at this; omega) hnone] at h1
            rw [HPK.out, h1]
            rfl
          have HF := hide hfin
          have HT5 := hide (turns_then (HP.out.turns.trans (turnsN (S := fun _ => False) wr m4)) B5.out (by rw [HB.out]; exact hBr))
          clear hfin hnone
          go_wp2_with fail
          go_returns
          exact ⟨.inl ⟨HF.out, rfl⟩, HT5.out.below (by rw [HB.out]; exact Nat.le_refl _) (fun _ x => x.elim)⟩
        · have hst := HP.out.step hlt hsome hi' hx hS' (turns_then (HP.out.turns.trans (turnsN (S := fun _ => False) wr m4)) B5.out (by rw [HB.out]; exact hBr))
          have HST := hide hst
          have HI5 := hide ((HI.out.keep (turnsN (S := fun _ => False) wr m4) (fun _ _ x => x)).keep (turns_from B5.out) (fun k hk x => by have := HIR.out k hk; omega))
          clear hsome hS' hst
          go_wp2_with fail
          go_roundw
          case rel => exact ⟨i', kv', ev', rv', ent.key, R ++ [x], HST.out.1, HI5.out⟩
          case measure =>
            rw [HGONE.out, HST.out.1.gone]
            have h1 := HST.out.2
            have h2 := HST.out.1.le
            omega
      · have hie : i = pf.length := by omega
        have hd : pf.drop i = [] := List.drop_eq_nil_of_le (by omega)
        have hrow : rdRow 0 [] pf = some (ents R) := by rw [HP.out.rest, hd, rdRow_nil]; simp
        have hpk := HPK.out
        rw [hrow] at hpk
        simp only at hpk
        have HPK2 := hide hpk
        obtain ⟨ea, ec, he⟩ := HP.out.st.er.len
        obtain ⟨ra, rc, hr⟩ := HP.out.st.ir.len
        subst he hr
        have c2 : wr.cell? ⟨q, 2, none⟩ = some (.slice ea R.length ec) := cell_of_row wr q 2 _ 221 (0, 0) HP.out.st.box
        have c3 : wr.cell? ⟨q, 3, none⟩ = some (.slice ra (mk (ents R)).length rc) := cell_of_row wr q 3 _ 221 (0, 0) HP.out.st.box
        have hRl := HP.out.len_le hql
        have HIO := hide (fun u (t : Turns (fun _ => False) wr u) => inOrder_any ea R.length ec R u ((ents_of HP.out.st.er HP.out.st.sh).quiet t) rfl (by omega))
        have HEQ := hide (fun u (t : Turns (fun _ => False) wr u) => equalInts_any ra pa (mk (ents R)).length PL.length rc pc (mk (ents R)) PL u (HP.out.st.ir.at.turns t (fun _ _ _ _ x => x)) (HI.out.at.turns t (fun _ _ _ _ x => x)) (by omega))
        have HT := hide HP.out.turns
        have HE := hide (ERow.base HP.out.st.er (show B ≤ q + 1 by omega))
        have HSH := hide (Shown.base HP.out.st.sh (show B ≤ q + 1 by omega))
        have hLd : pf.length - i = 0 := by omega
        rw [hLd] at HLEFT
        clear hpk hrow hd hLd hie HPK
        generalize (mk (ents R)).length = ML at *
        by_cases hR0 : R.length = 0
        · have hR : R = [] := List.eq_nil_of_length_eq_zero hR0
          have hfin : parseK p = none := by rw [HPK2.out, if_pos (.inl (by rw [hR]; rfl))]
          have HF := hide hfin
          rw [hR0] at c2
          clear hfin hR
          go_wp2_with fail
          refine HLEFT.out.mono ?_
          rintro e w4 ⟨rfl, m4, rfl⟩
          go_wp2_with fail
          go_returns
          exact ⟨.inl ⟨HF.out, rfl⟩, (HT.out.trans (turnsN (S := fun _ => False) wr m4)).below (by rw [HB.out]; exact Nat.le_refl _) (fun _ x => x.elim)⟩
        · have hRi : ¬ (R.length : Int) = 0 := by omega
          have hne : ents R ≠ [] := by intro y; have := congrArg List.length y; simp [ents] at this; exact hR0 (by rw [this]; rfl)
          have HNE := hide hne
          clear hne
          generalize hRL : R.length = RL at *
          have HRL := hide hRL
          clear hRL
          go_wp2_with fail
          refine HLEFT.out.mono ?_
          rintro e w4 ⟨rfl, m4, rfl⟩
          go_wp2_with fail
          refine (HIO.out (wr.drewN m4) (turnsN _ _)).mono ?_
          rintro e w5 ⟨rfl, b5⟩
          have t5 := (turnsN (S := fun _ => False) wr m4).trans (Turns.of_below b5 (fun _ => False))
          have T5 := hide t5
          have d2 := t5.cell c2 (fun x => x)
          have d3 := t5.cell c3 (fun x => x)
          clear b5 t5
          generalize hio : inOrd (ents R) = io at *
          have HIOV := hide hio
          clear hio
          cases io
          · have hfin : parseK p = none := by rw [HPK2.out, if_pos (.inr (.inl rfl))]
            have HF := hide hfin
            clear hfin
            go_wp2_with fail
            go_returns
            exact ⟨.inl ⟨HF.out, rfl⟩, (HT.out.trans T5.out).below (by rw [HB.out]; exact Nat.le_refl _) (fun _ x => x.elim)⟩
          · go_wp2_with fail
            refine (HEQ.out w5 T5.out).mono ?_
            rintro e w6 ⟨rfl, m6, rfl⟩
            have f2 : (w5.drewN m6).cell? ⟨q, 2, none⟩ = some (.slice ea RL ec) := d2
            have f3 : (w5.drewN m6).cell? ⟨q, 3, none⟩ = some (.slice ra ML rc) := d3
            have T6 := hide (T5.out.trans (turnsN (S := fun _ => False) w5 m6))
            generalize w5.drewN m6 = w6 at *
            clear d2 d3 c2 c3 c0
            by_cases hpl : mk (ents R) = PL
            · have hfin : parseK p = some (ents R) := by
                rw [HPK2.out, if_neg]
                rintro (x | x | x)
                · exact HNE.out x
                · cases x
                · exact x hpl
              have HF := hide hfin
              rw [decide_eq_true hpl]
              clear hfin
              go_wp2_with fail
              go_quiet (fail)
              go_wp2_with fail
              go_returns
              refine ⟨.inr ⟨ents R, ea, ec, _, R, HF.out, rfl, by rw [HRL.out]; rfl, ?_, ?_⟩, (HT.out.trans (T6.out.trans (turnsN (S := fun _ => False) w6 nq))).below (by rw [HB.out]; exact Nat.le_refl _) (fun _ x => x.elim)⟩
              · rw [HB.out, HRL.out]; exact (HE.out.keep T6.out (fun _ _ x => x)).keep (turnsN (S := fun _ => False) w6 nq) (fun _ _ x => x)
              · rw [HB.out]; exact (HSH.out.keep T6.out (fun _ _ _ _ x => x)).keep (turnsN (S := fun _ => False) w6 nq) (fun _ _ _ _ x => x)
            · have hfin : parseK p = none := by rw [HPK2.out, if_pos (.inr (.inr hpl))]
              have HF := hide hfin
              rw [decide_eq_false hpl]
              clear hfin
              go_wp2_with fail
              go_returns
              exact ⟨.inl ⟨HF.out, rfl⟩, (HT.out.trans T6.out).below (by rw [HB.out]; exact Nat.le_refl _) (fun _ x => x.elim)⟩
theorem Parse_any (a : Option Addr) (n c : Nat) (p : List (BitVec 8)) (w : World) (h : Bytes w (.slice a n c) p) (hnc : n ≤ c) (hn : n ≤ 40000) :
    Calls Tryz.prog 89 #[.slice a n c] w fun e w' => ((parseK p = none ∧ e = .returned (.tuple #[.slice none 0 0, .int .i64 4])) ∨ ∃ (es : List Ent) (a : Option Addr) (c : Nat) (R : List Tow), parseK p = some es ∧ ents R = es ∧ e = .returned (.tuple #[.slice a R.length c, .int .i64 0]) ∧ ERow w' w.heap.size (.slice a R.length c) R ∧ Shown w' w.heap.size R) ∧ Below w.heap.size w w' := by
  have HQ := hide (parse_any a n c p w h hnc hn)
  clear h
  go_enter Tryz.func89, Tryz.ntmps89
  go_wp2_with fail
  refine HQ.out.mono ?_
  rintro e w1 ⟨hP, b1⟩
  have B1 := hide b1
  clear b1 HQ
  rcases hP with ⟨hk, rfl⟩ | ⟨es, a', c', rv, R, hk, he, rfl, hE, hS⟩
  · have HK := hide hk
    clear hk
    go_wp2_with fail
    go_returns
    exact ⟨.inl ⟨HK.out, rfl⟩, B1.out⟩
  · have HK := hide hk
    have HE := hide hE
    have HS := hide hS
    have HEE := hide he
    clear hk hE hS he
    go_wp2_with fail
    go_returns
    exact ⟨.inr ⟨es, a', c', R, HK.out, HEE.out, rfl, HE.out, HS.out⟩, B1.out⟩
end Go.Proofs.YtjklbhdhjfifhaaGreat
