import Derived.Test.YtpgligfolecieaaM18
import Derived.Test.YtpgligfolecieaaM16
/-
  The document's Between and Seen.
-/
namespace Go.Proofs.Ytpgligfolecieaa
open Go.RowKit
set_option maxRecDepth 100000
set_option maxHeartbeats 4000000
theorem before_any (a a' : Option Addr) (n n' c c' : Nat) (x y : Ky) (w : World) (h : Bytes w (.slice a n c) x) (h' : Bytes w (.slice a' n' c') y) (hn : n ≤ 1000000000) (hn' : n' ≤ 1000000000) :
    Calls Try.prog 61 #[.slice a n c, .slice a' n' c'] w fun e w' => e = .returned (.bool (decide (cmpB x y < 0))) ∧ Turns (fun _ => False) w w' := by
  have RB := hide (rbefore_any a a' n n' c c' x y w h h' hn hn')
  clear h h'
  generalize decide (cmpB x y < 0) = d at *
  go_enter Try.func61, Try.ntmps61
  go_wp2_with fail
  refine RB.out.mono ?_
  rintro e w1 ⟨rfl, m, rfl⟩
  have T := hide ((Turns.refl (fun _ => False) w).drewN m)
  generalize w.drewN m = w1 at *
  go_wp2_with fail
  go_ret
  exact ⟨rfl, T.out⟩
theorem same_any (a a' : Option Addr) (n n' c c' : Nat) (x y : Ky) (w : World) (h : Bytes w (.slice a n c) x) (h' : Bytes w (.slice a' n' c') y) (hn : n ≤ 1000000000) (hn' : n' ≤ 1000000000) :
    Calls Try.prog 63 #[.slice a n c, .slice a' n' c'] w fun e w' => e = .returned (.bool (decide (x = y))) ∧ Turns (fun _ => False) w w' := by
  have B1 := hide (before_any a a' n n' c c' x y w h h' hn hn')
  have B2 := hide (fun (u : World) (t : Turns (fun _ => False) w u) => before_any a' a n' n c' c y x u (h'.quiet t) (h.quiet t) hn' hn)
  have hz := cmpB_zero x y
  have hs := cmpB_swap x y
  clear h h'
  by_cases c1 : cmpB x y < 0
  · have e1 : decide (x = y) = false := by simp; intro e; have := hz.2 e; omega
    rw [e1]
    rw [show decide (cmpB x y < 0) = true by simpa using c1] at B1
    clear hz hs c1 e1
    go_enter Try.func63, Try.ntmps63
    go_wp2_with fail
    refine B1.out.mono ?_
    rintro e w1 ⟨rfl, t1⟩
    have T := hide t1
    clear t1
    go_wp2_with fail
    go_ret
    exact ⟨rfl, T.out⟩
  · rw [show decide (cmpB x y < 0) = false by simpa using c1] at B1
    by_cases c2 : cmpB y x < 0
    · have e1 : decide (x = y) = false := by simp; intro e; have := hz.2 e; omega
      rw [e1]
      rw [show decide (cmpB y x < 0) = true by simpa using c2] at B2
      clear hz hs c1 c2 e1
      go_enter Try.func63, Try.ntmps63
      go_wp2_with fail
      refine B1.out.mono ?_
      rintro e w1 ⟨rfl, t1⟩
      have CB := hide (B2.out w1 t1)
      have T1 := hide t1
      clear t1
      go_wp2_with fail
      refine CB.out.mono ?_
      rintro e w2 ⟨rfl, t2⟩
      have T := hide (T1.out.trans t2)
      clear t2
      go_wp2_with fail
      go_ret
      exact ⟨rfl, T.out⟩
    · have e1 : decide (x = y) = true := by simp; exact hz.1 (by omega)
      rw [e1]
      rw [show decide (cmpB y x < 0) = false by simpa using c2] at B2
      clear hz hs c1 c2 e1
      go_enter Try.func63, Try.ntmps63
      go_wp2_with fail
      refine B1.out.mono ?_
      rintro e w1 ⟨rfl, t1⟩
      have CB := hide (B2.out w1 t1)
      have T1 := hide t1
      clear t1
      go_wp2_with fail
      refine CB.out.mono ?_
      rintro e w2 ⟨rfl, t2⟩
      have T := hide (T1.out.trans t2)
      clear t2
      go_wp2_with fail
      go_ret
      exact ⟨rfl, T.out⟩
def pick18 (seq : Nat) (es : List Ent) (fk tk : Ky) (x : Ent) : Bool := newest seq es x && rngE fk tk x
/-- What the document's Between answers. -/
def RBetOk (rs : List Rw) (fk tk : Ky) (seq : Nat) (N : Int) (R : List Tow) : Prop := (eachOrd rs = true ∧ ∃ xs, Mg (hds rs) xs ∧ xs.length ≤ 150 ∧ (∀ x, x ∈ R → x ∈ xs) ∧ R.map (·.e) = ((xs.map (·.e)).filter (pick18 seq (xs.map (·.e)) fk tk)).take N.toNat) ∨ (eachOrd rs = false ∧ R = [])
def skip18 (seq : Nat) (xs : List Tow) (x : Tow) : Bool := decide (seq < x.e.seq) || (xs.map (·.e)).any (hides seq x.e)
theorem rise_map {xs : List Tow} (h : xs.Pairwise ltT) : (xs.map (·.e)).Pairwise ltE := List.pairwise_map.2 h
theorem rBetween_any (a : Option Addr) (n c : Nat) (rs : List Rw) (fa ta : Option Addr) (fn fc tn tc : Nat) (fk tk : Ky) (seq : Nat) (N : Int) (w : World) (h : RowsIn w a rs) (hn : n = rs.length) (hf : Few rs) (hfk : Bytes w (.slice fa fn fc) fk) (htk : Bytes w (.slice ta tn tc) tk) (hfn : fn ≤ 15000) (htn : tn ≤ 15000) :
    Calls Try.prog 47 #[.slice a n c, .slice fa fn fc, .slice ta tn tc, .int .u64 (seq : Nat), .int .i64 N] w fun e w' => ∃ v R, e = .returned (.tuple #[v, .int .i64 (ordE (eachOrd rs))]) ∧ ERow w' w.heap.size v R ∧ Below w.heap.size w w' ∧ RBetOk rs fk tk seq N R := by
  have RA := hide (refAll_any a n c rs w h hn hf)
  have H0 := hide h
  have HF := hide hf
  have HN := hide hn
  have KF := hide hfk
  have KT := hide htk
  have HTL := hide htk.len
  clear h hn hf hfk htk
  cases ho : eachOrd rs with
  | false =>
    rw [ho] at RA
    have HO := hide ho
    clear ho
    go_enter Try.func47, Try.ntmps47
    go_wp2_with fail
    refine RA.out.mono ?_
    rintro e w1 ⟨v, R, rfl, hE, hb, hA⟩
    rw [show ordE false = 2 from rfl]
    have B1 := hide hb
    clear hE hA hb
    go_wp2_with fail
    go_ret2
    first
      | exact ⟨_, [], rfl, .inl ⟨rfl, rfl⟩, B1.out, .inr ⟨HO.out, rfl⟩⟩
      | exact ⟨_, rfl, [], .inl ⟨rfl, rfl⟩, B1.out, .inr ⟨HO.out, rfl⟩⟩
  | true =>
    rw [ho] at RA
    have HO := hide ho
    clear ho
    go_enter Try.func47, Try.ntmps47
    go_wp2_with fail
    refine RA.out.mono ?_
    rintro e w0 ⟨v, xs, rfl, hE, hb, hA⟩
    rw [show ordE true = 0 from rfl]
    have hMl : Mg (hds rs) xs ∧ xs.length ≤ sumR rs := by
      rcases hA with ⟨_, h⟩ | ⟨e, _⟩
      · exact h
      · rw [HO.out] at e; cases e
    have hM := hMl.1
    have T0 := hide (Turns.of_below hb (fun _ => False))
    obtain ⟨la, lc, rfl, hen, _, _⟩ := ents_row hE (fun x hx => all_bytes (H0.out.quiet T0.out) (mg_from hM hx))
    have HEN := hide hen
    have HM := hide hM
    have B0 := hide hb
    have HSZ := hide (show ∀ x, x ∈ xs → x.e.key.length ≤ 15000 from fun x hx => by
      obtain ⟨r, hr, hxr⟩ := List.mem_flatMap.1 (mg_from hM hx)
      exact ((HF.out.each r hr).2 x hxr).1)
    have hxl : xs.length ≤ 150 := by
      have h1 := HF.out.all
      have := hMl.2
      omega
    generalize hln : xs.length = ln at *
    have HLN := hide hln
    have hlni : (ln : Int) ≤ 150 := by omega
    clear hE hA hb hen hM hMl hln hxl
    go_wp2_with fail
    go_loopw [14, 15] (fun ov iv wr => ∃ (i : Nat) (R : List Tow), iv = .int .i64 (i : Nat) ∧ i ≤ ln ∧ ERow wr w0.heap.size ov R ∧ (∀ x, x ∈ R → x ∈ xs) ∧ R.map (·.e) = ((xs.map (·.e)).take i).filter (pick18 seq (xs.map (·.e)) fk tk) ∧ (R.length : Int) ≤ max N 0 ∧ Turns (fun _ => False) w0 wr) (fun _ iv _ => ln - (intOf iv).toNat)
    case atStart => exact ⟨0, [], rfl, Nat.zero_le _, .inl ⟨rfl, rfl⟩, fun x hx => (by cases hx), rfl, by show (0 : Int) ≤ max N 0; omega, Turns.refl _ _⟩
    case round =>
      obtain ⟨i, R, rfl, hi, hE, hin, hm, hlen, ht⟩ := hrel
      obtain ⟨oa, oc, rfl⟩ := hE.len
      have HE := hide hE
      have HI := hide hin
      have HMM := hide hm
      have HLE := hide hlen
      have TT := hide ht
      have HRL := hide (show R.length ≤ 150 by
        have h1 := congrArg List.length hm
        have h2 := List.length_filter_le (pick18 seq (xs.map (·.e)) fk tk) ((xs.map (·.e)).take i)
        rw [List.length_map] at h1
        rw [List.length_take] at h2
        omega)
      have hrli : (R.length : Int) ≤ 150 := by have := HRL.out; omega
      clear hE hin hm hlen ht
      by_cases hil : i < ln
      · by_cases hnn : (R.length : Int) < N
        · obtain ⟨x, hx⟩ : ∃ x, xs[i]? = some x := ⟨_, List.getElem?_eq_getElem (by have := HLN.out; omega)⟩
          obtain ⟨lb, lo, rfl, hfx, hkx⟩ := fc_of (HEN.out.quiet TT.out) hx
          obtain ⟨x0, x1, x2, x3⟩ := hfx
          have i1 : (i : Int) < ln := by omega
          have i0 : (0 : Int) ≤ i := by omega
          have HX := hide hx
          have HUP := hide (rise_map HM.out.rise)
          have HXE := hide (show (xs.map (·.e))[i]? = some x.e by rw [List.getElem?_map, hx]; rfl)
          have PH := hide (prev_hides (seq := seq) HUP.out HXE.out)
          have KX := hide hkx
          have hkl := HSZ.out x (List.mem_of_getElem? hx)
          have STEP := hide (show ((xs.map (·.e)).take (i + 1)).filter (pick18 seq (xs.map (·.e)) fk tk) = ((xs.map (·.e)).take i).filter (pick18 seq (xs.map (·.e)) fk tk) ++ [x.e].filter (pick18 seq (xs.map (·.e)) fk tk) by
            rw [List.take_add_one, HXE.out, List.filter_append]; rfl)
          have N1 := hide (heap_alloc_new wr (.cells #[.slice x.ka x.e.key.length x.kc, .int .u64 (x.e.seq : Nat), .int .i64 x.e.kind, .slice x.va x.e.val.length x.vc] 29))
          have TA := hide ((Turns.refl (fun _ => False) wr).alloc (.cells #[.slice x.ka x.e.key.length x.kc, .int .u64 (x.e.seq : Nat), .int .i64 x.e.kind, .slice x.va x.e.val.length x.vc] 29))
          go_upto_region 9 with (fail)
          clear x0 x1 x2 x3 hx hkx
          generalize wr.alloc (.cells #[.slice x.ka x.e.key.length x.kc, .int .u64 (x.e.seq : Nat), .int .i64 x.e.kind, .slice x.va x.e.val.length x.vc] 29) = w1 at *
          generalize hBx : wr.heap.size = Bx at *
          have HBX := hide hBx
          clear hBx
          have b0 := cell_of_row w1 Bx 0 _ 29 (0, 0) N1.out
          have b1 := cell_of_row w1 Bx 1 _ 29 (0, 0) N1.out
          go_cut [69] from 25 to 94 (fun v wx => v = .bool (skip18 seq xs x) ∧ Turns (fun _ => False) w1 wx)
          case first =>
            rename_i kk rest jj kk' m1 m2
            clear rest
            by_cases hgt : seq < x.e.seq
            · have HSKP := hide (show skip18 seq xs x = true by simp [skip18, hgt])
              have hgti : (seq : Int) < (x.e.seq : Int) := by omega
              have SK := hide (fun (u : World) (t : Turns (fun _ => False) w1 u) => show u.cell? ⟨Bx, 0, none⟩ = some (.slice x.ka x.e.key.length x.kc) ∧ u.cell? ⟨Bx, 1, none⟩ = some (.int .u64 (x.e.seq : Nat)) from ⟨t.cell b0 (fun x => x), t.cell b1 (fun x => x)⟩)
              have tV : Turns (fun _ => False) w1 w1.drew := (Turns.refl _ _).drew
              refine wp_region_held_drew (S := fun u => u.cell? ⟨Bx, 0, none⟩ = some (.slice x.ka x.e.key.length x.kc) ∧ u.cell? ⟨Bx, 1, none⟩ = some (.int .u64 (x.e.seq : Nat))) (by kernel_rfl) (SK.out _ tV) (fun _ => ?_)
              change wpAnyH _ _ _ _ _ 29 (Array.replicate 29 false) _ _
              refine wpAnyH_take (i := 0) (oi := { dst := some 41, op := Op.fieldAddr 29 (Operand.tmp 16) 1, type := 0, pos := "ref.go:80", after := #[], guard := none }) (v := .pointer (some ⟨Bx, 1, none⟩)) rfl (by kernel_rfl) (by kernel_rfl) (by kernel_rfl) (fun _ _ _ h => h) (Or.inl ⟨by rfl, ?_⟩) (SK.out _ tV) ?_
              · rintro w ⟨d0, d1⟩
                go_simp
              simp only [Act.put, List.setIfInBounds_toArray, List.set_cons_zero, List.set_cons_succ]
              refine wpAnyH_take (i := 1) (oi := { dst := some 42, op := Op.load 27 (Operand.tmp 41), type := 27, pos := "ref.go:80", after := #[{ on := 0, ground := Ground.data }], guard := none }) (v := .int .u64 (x.e.seq : Nat)) rfl (by kernel_rfl) (by kernel_rfl) (by kernel_rfl) (fun _ _ _ h => h) (Or.inl ⟨by rfl, ?_⟩) (SK.out _ tV) ?_
              · rintro w ⟨d0, d1⟩
                go_simp
              simp only [Act.put, List.setIfInBounds_toArray, List.set_cons_zero, List.set_cons_succ]
              refine wpAnyH_take (i := 2) (oi := { dst := some 43, op := Op.move (Operand.tmp 3), type := 27, pos := "ref.go:80", after := #[], guard := none }) (v := .int .u64 (seq : Nat)) rfl (by kernel_rfl) (by kernel_rfl) (by kernel_rfl) (fun _ _ _ h => h) (Or.inl ⟨by rfl, ?_⟩) (SK.out _ tV) ?_
              · rintro w ⟨d0, d1⟩
                go_simp
              simp only [Act.put, List.setIfInBounds_toArray, List.set_cons_zero, List.set_cons_succ]
              refine wpAnyH_take (i := 3) (oi := { dst := some 44, op := Op.binOp BinOp.gtr 27 (Operand.tmp 42) (Operand.tmp 43) 27, type := 4, pos := "ref.go:80", after := #[{ on := 1, ground := Ground.data }, { on := 2, ground := Ground.data }], guard := none }) (v := .bool true) rfl (by kernel_rfl) (by kernel_rfl) (by kernel_rfl) (fun _ _ _ h => h) (Or.inl ⟨by rfl, ?_⟩) (SK.out _ tV) ?_
              · rintro w ⟨d0, d1⟩
                go_simp
              simp only [Act.put, List.setIfInBounds_toArray, List.set_cons_zero, List.set_cons_succ]
              refine wpAnyH_take (i := 4) (oi := { dst := some 45, op := Op.move (Operand.tmp 44), type := 4, pos := "ref.go:80", after := #[{ on := 3, ground := Ground.data }], guard := none }) (v := .bool true) rfl (by kernel_rfl) (by kernel_rfl) (by kernel_rfl) (fun _ _ _ h => h) (Or.inl ⟨by rfl, ?_⟩) (SK.out _ tV) ?_
              · rintro w ⟨d0, d1⟩
                go_simp
              simp only [Act.put, List.setIfInBounds_toArray, List.set_cons_zero, List.set_cons_succ]
              refine wpAnyH_take (i := 5) (oi := { dst := some 46, op := Op.move (Operand.tmp 15), type := 3, pos := "ref.go:80", after := #[{ on := 4, ground := Ground.guard }], guard := some (4, false) }) (v := undef) rfl (by kernel_rfl) (by kernel_rfl) (by kernel_rfl) (fun _ _ _ h => h) (Or.inr ⟨by rfl, rfl⟩) (SK.out _ tV) ?_
              simp only [Act.put, List.setIfInBounds_toArray, List.set_cons_zero, List.set_cons_succ]
              refine wpAnyH_take (i := 6) (oi := { dst := some 47, op := Op.binOp BinOp.gtr 3 (Operand.tmp 46) (Operand.const (Value.int IntKind.i64 0)) 3, type := 4, pos := "ref.go:80", after := #[{ on := 5, ground := Ground.data }, { on := 4, ground := Ground.guard }], guard := some (4, false) }) (v := undef) rfl (by kernel_rfl) (by kernel_rfl) (by kernel_rfl) (fun _ _ _ h => h) (Or.inr ⟨by rfl, rfl⟩) (SK.out _ tV) ?_
              simp only [Act.put, List.setIfInBounds_toArray, List.set_cons_zero, List.set_cons_succ]
              refine wpAnyH_take (i := 7) (oi := { dst := some 48, op := Op.move (Operand.tmp 47), type := 4, pos := "ref.go:80", after := #[{ on := 6, ground := Ground.data }, { on := 4, ground := Ground.chain }, { on := 4, ground := Ground.guard }], guard := some (4, false) }) (v := undef) rfl (by kernel_rfl) (by kernel_rfl) (by kernel_rfl) (fun _ _ _ h => h) (Or.inr ⟨by rfl, rfl⟩) (SK.out _ tV) ?_
              simp only [Act.put, List.setIfInBounds_toArray, List.set_cons_zero, List.set_cons_succ]
              refine wpAnyH_take (i := 8) (oi := { dst := some 49, op := Op.move (Operand.tmp 12), type := 31, pos := "ref.go:80", after := #[{ on := 7, ground := Ground.guard }], guard := some (7, true) }) (v := undef) rfl (by kernel_rfl) (by kernel_rfl) (by kernel_rfl) (fun _ _ _ h => h) (Or.inr ⟨by rfl, rfl⟩) (SK.out _ tV) ?_
              simp only [Act.put, List.setIfInBounds_toArray, List.set_cons_zero, List.set_cons_succ]
              refine wpAnyH_take (i := 9) (oi := { dst := some 50, op := Op.move (Operand.tmp 15), type := 3, pos := "ref.go:80", after := #[{ on := 7, ground := Ground.guard }], guard := some (7, true) }) (v := undef) rfl (by kernel_rfl) (by kernel_rfl) (by kernel_rfl) (fun _ _ _ h => h) (Or.inr ⟨by rfl, rfl⟩) (SK.out _ tV) ?_
              simp only [Act.put, List.setIfInBounds_toArray, List.set_cons_zero, List.set_cons_succ]
              refine wpAnyH_take (i := 10) (oi := { dst := some 51, op := Op.binOp BinOp.sub 3 (Operand.tmp 50) (Operand.const (Value.int IntKind.i64 1)) 3, type := 3, pos := "ref.go:80", after := #[{ on := 9, ground := Ground.data }, { on := 7, ground := Ground.guard }], guard := some (7, true) }) (v := undef) rfl (by kernel_rfl) (by kernel_rfl) (by kernel_rfl) (fun _ _ _ h => h) (Or.inr ⟨by rfl, rfl⟩) (SK.out _ tV) ?_
              simp only [Act.put, List.setIfInBounds_toArray, List.set_cons_zero, List.set_cons_succ]
              refine wpAnyH_take (i := 11) (oi := { dst := some 52, op := Op.indexAddr 31 (Operand.tmp 49) (Operand.tmp 51), type := 0, pos := "ref.go:80", after := #[{ on := 8, ground := Ground.data }, { on := 10, ground := Ground.data }, { on := 7, ground := Ground.guard }], guard := some (7, true) }) (v := undef) rfl (by kernel_rfl) (by kernel_rfl) (by kernel_rfl) (fun _ _ _ h => h) (Or.inr ⟨by rfl, rfl⟩) (SK.out _ tV) ?_
              simp only [Act.put, List.setIfInBounds_toArray, List.set_cons_zero, List.set_cons_succ]
              refine wpAnyH_take (i := 12) (oi := { dst := some 53, op := Op.fieldAddr 29 (Operand.tmp 52) 0, type := 0, pos := "ref.go:80", after := #[{ on := 11, ground := Ground.data }, { on := 7, ground := Ground.guard }], guard := some (7, true) }) (v := undef) rfl (by kernel_rfl) (by kernel_rfl) (by kernel_rfl) (fun _ _ _ h => h) (Or.inr ⟨by rfl, rfl⟩) (SK.out _ tV) ?_
              simp only [Act.put, List.setIfInBounds_toArray, List.set_cons_zero, List.set_cons_succ]
              refine wpAnyH_take (i := 13) (oi := { dst := some 54, op := Op.load 26 (Operand.tmp 53), type := 26, pos := "ref.go:80", after := #[{ on := 12, ground := Ground.data }, { on := 7, ground := Ground.guard }], guard := some (7, true) }) (v := undef) rfl (by kernel_rfl) (by kernel_rfl) (by kernel_rfl) (fun _ _ _ h => h) (Or.inr ⟨by rfl, rfl⟩) (SK.out _ tV) ?_
              simp only [Act.put, List.setIfInBounds_toArray, List.set_cons_zero, List.set_cons_succ]
              refine wpAnyH_take (i := 14) (oi := { dst := some 55, op := Op.fieldAddr 29 (Operand.tmp 16) 0, type := 0, pos := "ref.go:80", after := #[{ on := 7, ground := Ground.guard }], guard := some (7, true) }) (v := undef) rfl (by kernel_rfl) (by kernel_rfl) (by kernel_rfl) (fun _ _ _ h => h) (Or.inr ⟨by rfl, rfl⟩) (SK.out _ tV) ?_
              simp only [Act.put, List.setIfInBounds_toArray, List.set_cons_zero, List.set_cons_succ]
              refine wpAnyH_take (i := 15) (oi := { dst := some 56, op := Op.load 26 (Operand.tmp 55), type := 26, pos := "ref.go:80", after := #[{ on := 14, ground := Ground.data }, { on := 7, ground := Ground.guard }], guard := some (7, true) }) (v := undef) rfl (by kernel_rfl) (by kernel_rfl) (by kernel_rfl) (fun _ _ _ h => h) (Or.inr ⟨by rfl, rfl⟩) (SK.out _ tV) ?_
              simp only [Act.put, List.setIfInBounds_toArray, List.set_cons_zero, List.set_cons_succ]
              refine wpAnyH_take (i := 16) (oi := { dst := some 57, op := Op.call { callee := Callee.value (Operand.func 63), args := #[Operand.tmp 54, Operand.tmp 56], argTypes := #[26, 26] }, type := 4, pos := "ref.go:80", after := #[{ on := 13, ground := Ground.data }, { on := 15, ground := Ground.data }, { on := 7, ground := Ground.chain }, { on := 7, ground := Ground.guard }], guard := some (7, true) }) (v := undef) rfl (by kernel_rfl) (by kernel_rfl) (by kernel_rfl) (fun _ _ _ h => h) (Or.inr ⟨by rfl, rfl⟩) (SK.out _ tV) ?_
              simp only [Act.put, List.setIfInBounds_toArray, List.set_cons_zero, List.set_cons_succ]
              refine wpAnyH_take (i := 17) (oi := { dst := some 58, op := Op.pick (Operand.tmp 48) (Operand.tmp 57) (Operand.const (Value.bool false)), type := 4, pos := "ref.go:80", after := #[{ on := 7, ground := Ground.data }, { on := 16, ground := Ground.data }, { on := 4, ground := Ground.guard }], guard := some (4, false) }) (v := undef) rfl (by kernel_rfl) (by kernel_rfl) (by kernel_rfl) (fun _ _ _ h => h) (Or.inr ⟨by rfl, rfl⟩) (SK.out _ tV) ?_
              simp only [Act.put, List.setIfInBounds_toArray, List.set_cons_zero, List.set_cons_succ]
              refine wpAnyH_take (i := 18) (oi := { dst := some 59, op := Op.move (Operand.tmp 58), type := 4, pos := "ref.go:80", after := #[{ on := 17, ground := Ground.data }, { on := 16, ground := Ground.chain }, { on := 4, ground := Ground.guard }], guard := some (4, false) }) (v := undef) rfl (by kernel_rfl) (by kernel_rfl) (by kernel_rfl) (fun _ _ _ h => h) (Or.inr ⟨by rfl, rfl⟩) (SK.out _ tV) ?_
              simp only [Act.put, List.setIfInBounds_toArray, List.set_cons_zero, List.set_cons_succ]
              refine wpAnyH_take (i := 19) (oi := { dst := some 60, op := Op.move (Operand.tmp 12), type := 31, pos := "ref.go:80", after := #[{ on := 18, ground := Ground.guard }], guard := some (18, true) }) (v := undef) rfl (by kernel_rfl) (by kernel_rfl) (by kernel_rfl) (fun _ _ _ h => h) (Or.inr ⟨by rfl, rfl⟩) (SK.out _ tV) ?_
              simp only [Act.put, List.setIfInBounds_toArray, List.set_cons_zero, List.set_cons_succ]
              refine wpAnyH_take (i := 20) (oi := { dst := some 61, op := Op.move (Operand.tmp 15), type := 3, pos := "ref.go:80", after := #[{ on := 18, ground := Ground.guard }], guard := some (18, true) }) (v := undef) rfl (by kernel_rfl) (by kernel_rfl) (by kernel_rfl) (fun _ _ _ h => h) (Or.inr ⟨by rfl, rfl⟩) (SK.out _ tV) ?_
              simp only [Act.put, List.setIfInBounds_toArray, List.set_cons_zero, List.set_cons_succ]
              refine wpAnyH_take (i := 21) (oi := { dst := some 62, op := Op.binOp BinOp.sub 3 (Operand.tmp 61) (Operand.const (Value.int IntKind.i64 1)) 3, type := 3, pos := "ref.go:80", after := #[{ on := 20, ground := Ground.data }, { on := 18, ground := Ground.guard }], guard := some (18, true) }) (v := undef) rfl (by kernel_rfl) (by kernel_rfl) (by kernel_rfl) (fun _ _ _ h => h) (Or.inr ⟨by rfl, rfl⟩) (SK.out _ tV) ?_
              simp only [Act.put, List.setIfInBounds_toArray, List.set_cons_zero, List.set_cons_succ]
              refine wpAnyH_take (i := 22) (oi := { dst := some 63, op := Op.indexAddr 31 (Operand.tmp 60) (Operand.tmp 62), type := 0, pos := "ref.go:80", after := #[{ on := 19, ground := Ground.data }, { on := 21, ground := Ground.data }, { on := 18, ground := Ground.guard }], guard := some (18, true) }) (v := undef) rfl (by kernel_rfl) (by kernel_rfl) (by kernel_rfl) (fun _ _ _ h => h) (Or.inr ⟨by rfl, rfl⟩) (SK.out _ tV) ?_
              simp only [Act.put, List.setIfInBounds_toArray, List.set_cons_zero, List.set_cons_succ]
              refine wpAnyH_take (i := 23) (oi := { dst := some 64, op := Op.fieldAddr 29 (Operand.tmp 63) 1, type := 0, pos := "ref.go:80", after := #[{ on := 22, ground := Ground.data }, { on := 18, ground := Ground.guard }], guard := some (18, true) }) (v := undef) rfl (by kernel_rfl) (by kernel_rfl) (by kernel_rfl) (fun _ _ _ h => h) (Or.inr ⟨by rfl, rfl⟩) (SK.out _ tV) ?_
              simp only [Act.put, List.setIfInBounds_toArray, List.set_cons_zero, List.set_cons_succ]
              refine wpAnyH_take (i := 24) (oi := { dst := some 65, op := Op.load 27 (Operand.tmp 64), type := 27, pos := "ref.go:80", after := #[{ on := 23, ground := Ground.data }, { on := 18, ground := Ground.guard }], guard := some (18, true) }) (v := undef) rfl (by kernel_rfl) (by kernel_rfl) (by kernel_rfl) (fun _ _ _ h => h) (Or.inr ⟨by rfl, rfl⟩) (SK.out _ tV) ?_
              simp only [Act.put, List.setIfInBounds_toArray, List.set_cons_zero, List.set_cons_succ]
              refine wpAnyH_take (i := 25) (oi := { dst := some 66, op := Op.move (Operand.tmp 3), type := 27, pos := "ref.go:80", after := #[{ on := 18, ground := Ground.guard }], guard := some (18, true) }) (v := undef) rfl (by kernel_rfl) (by kernel_rfl) (by kernel_rfl) (fun _ _ _ h => h) (Or.inr ⟨by rfl, rfl⟩) (SK.out _ tV) ?_
              simp only [Act.put, List.setIfInBounds_toArray, List.set_cons_zero, List.set_cons_succ]
              refine wpAnyH_take (i := 26) (oi := { dst := some 67, op := Op.binOp BinOp.leq 27 (Operand.tmp 65) (Operand.tmp 66) 27, type := 4, pos := "ref.go:80", after := #[{ on := 24, ground := Ground.data }, { on := 25, ground := Ground.data }, { on := 18, ground := Ground.guard }], guard := some (18, true) }) (v := undef) rfl (by kernel_rfl) (by kernel_rfl) (by kernel_rfl) (fun _ _ _ h => h) (Or.inr ⟨by rfl, rfl⟩) (SK.out _ tV) ?_
              simp only [Act.put, List.setIfInBounds_toArray, List.set_cons_zero, List.set_cons_succ]
              refine wpAnyH_take (i := 27) (oi := { dst := some 68, op := Op.pick (Operand.tmp 59) (Operand.tmp 67) (Operand.const (Value.bool false)), type := 4, pos := "ref.go:80", after := #[{ on := 18, ground := Ground.data }, { on := 26, ground := Ground.data }, { on := 4, ground := Ground.guard }], guard := some (4, false) }) (v := undef) rfl (by kernel_rfl) (by kernel_rfl) (by kernel_rfl) (fun _ _ _ h => h) (Or.inr ⟨by rfl, rfl⟩) (SK.out _ tV) ?_
              simp only [Act.put, List.setIfInBounds_toArray, List.set_cons_zero, List.set_cons_succ]
              refine wpAnyH_take (i := 28) (oi := { dst := some 69, op := Op.pick (Operand.tmp 45) (Operand.const (Value.bool true)) (Operand.tmp 68), type := 4, pos := "ref.go:80", after := #[{ on := 4, ground := Ground.data }, { on := 27, ground := Ground.data }], guard := none }) (v := .bool true) rfl (by kernel_rfl) (by kernel_rfl) (by kernel_rfl) (fun _ _ _ h => h) (Or.inl ⟨by rfl, ?_⟩) (SK.out _ tV) ?_
              · rintro w ⟨d0, d1⟩
                go_simp
              simp only [Act.put, List.setIfInBounds_toArray, List.set_cons_zero, List.set_cons_succ]
              refine wpAnyH_done (by kernel_rfl) ?_ _
              have TV := hide tV
              clear tV
              go_wp2_with fail
              go_meet
              exact ⟨by rw [HSKP.out], TV.out⟩
            · have hgti : ¬ (seq : Int) < (x.e.seq : Int) := by omega
              rcases i with _ | j
              · have HSKP := hide (show skip18 seq xs x = false by
                  have : (xs.map (·.e)).any (hides seq x.e) = false := Bool.eq_false_iff.2 fun h => by
                    obtain ⟨p, h0, _⟩ := PH.out.1 h
                    omega
                  simp only [skip18, this, Bool.or_false, decide_eq_false_iff_not]
                  exact hgt)
                have SK := hide (fun (u : World) (t : Turns (fun _ => False) w1 u) => show u.cell? ⟨Bx, 0, none⟩ = some (.slice x.ka x.e.key.length x.kc) ∧ u.cell? ⟨Bx, 1, none⟩ = some (.int .u64 (x.e.seq : Nat)) from ⟨t.cell b0 (fun x => x), t.cell b1 (fun x => x)⟩)
                have tV : Turns (fun _ => False) w1 w1.drew := (Turns.refl _ _).drew
                refine wp_region_held_drew (S := fun u => u.cell? ⟨Bx, 0, none⟩ = some (.slice x.ka x.e.key.length x.kc) ∧ u.cell? ⟨Bx, 1, none⟩ = some (.int .u64 (x.e.seq : Nat))) (by kernel_rfl) (SK.out _ tV) (fun _ => ?_)
                change wpAnyH _ _ _ _ _ 29 (Array.replicate 29 false) _ _
                refine wpAnyH_take (i := 0) (oi := { dst := some 41, op := Op.fieldAddr 29 (Operand.tmp 16) 1, type := 0, pos := "ref.go:80", after := #[], guard := none }) (v := .pointer (some ⟨Bx, 1, none⟩)) rfl (by kernel_rfl) (by kernel_rfl) (by kernel_rfl) (fun _ _ _ h => h) (Or.inl ⟨by rfl, ?_⟩) (SK.out _ tV) ?_
                · rintro w ⟨d0, d1⟩
                  go_simp
                simp only [Act.put, List.setIfInBounds_toArray, List.set_cons_zero, List.set_cons_succ]
                refine wpAnyH_take (i := 1) (oi := { dst := some 42, op := Op.load 27 (Operand.tmp 41), type := 27, pos := "ref.go:80", after := #[{ on := 0, ground := Ground.data }], guard := none }) (v := .int .u64 (x.e.seq : Nat)) rfl (by kernel_rfl) (by kernel_rfl) (by kernel_rfl) (fun _ _ _ h => h) (Or.inl ⟨by rfl, ?_⟩) (SK.out _ tV) ?_
                · rintro w ⟨d0, d1⟩
                  go_simp
                simp only [Act.put, List.setIfInBounds_toArray, List.set_cons_zero, List.set_cons_succ]
                refine wpAnyH_take (i := 2) (oi := { dst := some 43, op := Op.move (Operand.tmp 3), type := 27, pos := "ref.go:80", after := #[], guard := none }) (v := .int .u64 (seq : Nat)) rfl (by kernel_rfl) (by kernel_rfl) (by kernel_rfl) (fun _ _ _ h => h) (Or.inl ⟨by rfl, ?_⟩) (SK.out _ tV) ?_
                · rintro w ⟨d0, d1⟩
                  go_simp
                simp only [Act.put, List.setIfInBounds_toArray, List.set_cons_zero, List.set_cons_succ]
                refine wpAnyH_take (i := 3) (oi := { dst := some 44, op := Op.binOp BinOp.gtr 27 (Operand.tmp 42) (Operand.tmp 43) 27, type := 4, pos := "ref.go:80", after := #[{ on := 1, ground := Ground.data }, { on := 2, ground := Ground.data }], guard := none }) (v := .bool false) rfl (by kernel_rfl) (by kernel_rfl) (by kernel_rfl) (fun _ _ _ h => h) (Or.inl ⟨by rfl, ?_⟩) (SK.out _ tV) ?_
                · rintro w ⟨d0, d1⟩
                  go_simp
                simp only [Act.put, List.setIfInBounds_toArray, List.set_cons_zero, List.set_cons_succ]
                refine wpAnyH_take (i := 4) (oi := { dst := some 45, op := Op.move (Operand.tmp 44), type := 4, pos := "ref.go:80", after := #[{ on := 3, ground := Ground.data }], guard := none }) (v := .bool false) rfl (by kernel_rfl) (by kernel_rfl) (by kernel_rfl) (fun _ _ _ h => h) (Or.inl ⟨by rfl, ?_⟩) (SK.out _ tV) ?_
                · rintro w ⟨d0, d1⟩
                  go_simp
                simp only [Act.put, List.setIfInBounds_toArray, List.set_cons_zero, List.set_cons_succ]
                refine wpAnyH_take (i := 5) (oi := { dst := some 46, op := Op.move (Operand.tmp 15), type := 3, pos := "ref.go:80", after := #[{ on := 4, ground := Ground.guard }], guard := some (4, false) }) (v := .int .i64 0) rfl (by kernel_rfl) (by kernel_rfl) (by kernel_rfl) (fun _ _ _ h => h) (Or.inl ⟨by rfl, ?_⟩) (SK.out _ tV) ?_
                · rintro w ⟨d0, d1⟩
                  go_simp
                simp only [Act.put, List.setIfInBounds_toArray, List.set_cons_zero, List.set_cons_succ]
                refine wpAnyH_take (i := 6) (oi := { dst := some 47, op := Op.binOp BinOp.gtr 3 (Operand.tmp 46) (Operand.const (Value.int IntKind.i64 0)) 3, type := 4, pos := "ref.go:80", after := #[{ on := 5, ground := Ground.data }, { on := 4, ground := Ground.guard }], guard := some (4, false) }) (v := .bool false) rfl (by kernel_rfl) (by kernel_rfl) (by kernel_rfl) (fun _ _ _ h => h) (Or.inl ⟨by rfl, ?_⟩) (SK.out _ tV) ?_
                · rintro w ⟨d0, d1⟩
                  go_simp
                simp only [Act.put, List.setIfInBounds_toArray, List.set_cons_zero, List.set_cons_succ]
                refine wpAnyH_take (i := 7) (oi := { dst := some 48, op := Op.move (Operand.tmp 47), type := 4, pos := "ref.go:80", after := #[{ on := 6, ground := Ground.data }, { on := 4, ground := Ground.chain }, { on := 4, ground := Ground.guard }], guard := some (4, false) }) (v := .bool false) rfl (by kernel_rfl) (by kernel_rfl) (by kernel_rfl) (fun _ _ _ h => h) (Or.inl ⟨by rfl, ?_⟩) (SK.out _ tV) ?_
                · rintro w ⟨d0, d1⟩
                  go_simp
                simp only [Act.put, List.setIfInBounds_toArray, List.set_cons_zero, List.set_cons_succ]
                refine wpAnyH_take (i := 8) (oi := { dst := some 49, op := Op.move (Operand.tmp 12), type := 31, pos := "ref.go:80", after := #[{ on := 7, ground := Ground.guard }], guard := some (7, true) }) (v := undef) rfl (by kernel_rfl) (by kernel_rfl) (by kernel_rfl) (fun _ _ _ h => h) (Or.inr ⟨by rfl, rfl⟩) (SK.out _ tV) ?_
                simp only [Act.put, List.setIfInBounds_toArray, List.set_cons_zero, List.set_cons_succ]
                refine wpAnyH_take (i := 9) (oi := { dst := some 50, op := Op.move (Operand.tmp 15), type := 3, pos := "ref.go:80", after := #[{ on := 7, ground := Ground.guard }], guard := some (7, true) }) (v := undef) rfl (by kernel_rfl) (by kernel_rfl) (by kernel_rfl) (fun _ _ _ h => h) (Or.inr ⟨by rfl, rfl⟩) (SK.out _ tV) ?_
                simp only [Act.put, List.setIfInBounds_toArray, List.set_cons_zero, List.set_cons_succ]
                refine wpAnyH_take (i := 10) (oi := { dst := some 51, op := Op.binOp BinOp.sub 3 (Operand.tmp 50) (Operand.const (Value.int IntKind.i64 1)) 3, type := 3, pos := "ref.go:80", after := #[{ on := 9, ground := Ground.data }, { on := 7, ground := Ground.guard }], guard := some (7, true) }) (v := undef) rfl (by kernel_rfl) (by kernel_rfl) (by kernel_rfl) (fun _ _ _ h => h) (Or.inr ⟨by rfl, rfl⟩) (SK.out _ tV) ?_
                simp only [Act.put, List.setIfInBounds_toArray, List.set_cons_zero, List.set_cons_succ]
                refine wpAnyH_take (i := 11) (oi := { dst := some 52, op := Op.indexAddr 31 (Operand.tmp 49) (Operand.tmp 51), type := 0, pos := "ref.go:80", after := #[{ on := 8, ground := Ground.data }, { on := 10, ground := Ground.data }, { on := 7, ground := Ground.guard }], guard := some (7, true) }) (v := undef) rfl (by kernel_rfl) (by kernel_rfl) (by kernel_rfl) (fun _ _ _ h => h) (Or.inr ⟨by rfl, rfl⟩) (SK.out _ tV) ?_
                simp only [Act.put, List.setIfInBounds_toArray, List.set_cons_zero, List.set_cons_succ]
                refine wpAnyH_take (i := 12) (oi := { dst := some 53, op := Op.fieldAddr 29 (Operand.tmp 52) 0, type := 0, pos := "ref.go:80", after := #[{ on := 11, ground := Ground.data }, { on := 7, ground := Ground.guard }], guard := some (7, true) }) (v := undef) rfl (by kernel_rfl) (by kernel_rfl) (by kernel_rfl) (fun _ _ _ h => h) (Or.inr ⟨by rfl, rfl⟩) (SK.out _ tV) ?_
                simp only [Act.put, List.setIfInBounds_toArray, List.set_cons_zero, List.set_cons_succ]
                refine wpAnyH_take (i := 13) (oi := { dst := some 54, op := Op.load 26 (Operand.tmp 53), type := 26, pos := "ref.go:80", after := #[{ on := 12, ground := Ground.data }, { on := 7, ground := Ground.guard }], guard := some (7, true) }) (v := undef) rfl (by kernel_rfl) (by kernel_rfl) (by kernel_rfl) (fun _ _ _ h => h) (Or.inr ⟨by rfl, rfl⟩) (SK.out _ tV) ?_
                simp only [Act.put, List.setIfInBounds_toArray, List.set_cons_zero, List.set_cons_succ]
                refine wpAnyH_take (i := 14) (oi := { dst := some 55, op := Op.fieldAddr 29 (Operand.tmp 16) 0, type := 0, pos := "ref.go:80", after := #[{ on := 7, ground := Ground.guard }], guard := some (7, true) }) (v := undef) rfl (by kernel_rfl) (by kernel_rfl) (by kernel_rfl) (fun _ _ _ h => h) (Or.inr ⟨by rfl, rfl⟩) (SK.out _ tV) ?_
                simp only [Act.put, List.setIfInBounds_toArray, List.set_cons_zero, List.set_cons_succ]
                refine wpAnyH_take (i := 15) (oi := { dst := some 56, op := Op.load 26 (Operand.tmp 55), type := 26, pos := "ref.go:80", after := #[{ on := 14, ground := Ground.data }, { on := 7, ground := Ground.guard }], guard := some (7, true) }) (v := undef) rfl (by kernel_rfl) (by kernel_rfl) (by kernel_rfl) (fun _ _ _ h => h) (Or.inr ⟨by rfl, rfl⟩) (SK.out _ tV) ?_
                simp only [Act.put, List.setIfInBounds_toArray, List.set_cons_zero, List.set_cons_succ]
                refine wpAnyH_take (i := 16) (oi := { dst := some 57, op := Op.call { callee := Callee.value (Operand.func 63), args := #[Operand.tmp 54, Operand.tmp 56], argTypes := #[26, 26] }, type := 4, pos := "ref.go:80", after := #[{ on := 13, ground := Ground.data }, { on := 15, ground := Ground.data }, { on := 7, ground := Ground.chain }, { on := 7, ground := Ground.guard }], guard := some (7, true) }) (v := undef) rfl (by kernel_rfl) (by kernel_rfl) (by kernel_rfl) (fun _ _ _ h => h) (Or.inr ⟨by rfl, rfl⟩) (SK.out _ tV) ?_
                simp only [Act.put, List.setIfInBounds_toArray, List.set_cons_zero, List.set_cons_succ]
                refine wpAnyH_take (i := 17) (oi := { dst := some 58, op := Op.pick (Operand.tmp 48) (Operand.tmp 57) (Operand.const (Value.bool false)), type := 4, pos := "ref.go:80", after := #[{ on := 7, ground := Ground.data }, { on := 16, ground := Ground.data }, { on := 4, ground := Ground.guard }], guard := some (4, false) }) (v := .bool false) rfl (by kernel_rfl) (by kernel_rfl) (by kernel_rfl) (fun _ _ _ h => h) (Or.inl ⟨by rfl, ?_⟩) (SK.out _ tV) ?_
                · rintro w ⟨d0, d1⟩
                  go_simp
                simp only [Act.put, List.setIfInBounds_toArray, List.set_cons_zero, List.set_cons_succ]
                refine wpAnyH_take (i := 18) (oi := { dst := some 59, op := Op.move (Operand.tmp 58), type := 4, pos := "ref.go:80", after := #[{ on := 17, ground := Ground.data }, { on := 16, ground := Ground.chain }, { on := 4, ground := Ground.guard }], guard := some (4, false) }) (v := .bool false) rfl (by kernel_rfl) (by kernel_rfl) (by kernel_rfl) (fun _ _ _ h => h) (Or.inl ⟨by rfl, ?_⟩) (SK.out _ tV) ?_
                · rintro w ⟨d0, d1⟩
                  go_simp
                simp only [Act.put, List.setIfInBounds_toArray, List.set_cons_zero, List.set_cons_succ]
                refine wpAnyH_take (i := 19) (oi := { dst := some 60, op := Op.move (Operand.tmp 12), type := 31, pos := "ref.go:80", after := #[{ on := 18, ground := Ground.guard }], guard := some (18, true) }) (v := undef) rfl (by kernel_rfl) (by kernel_rfl) (by kernel_rfl) (fun _ _ _ h => h) (Or.inr ⟨by rfl, rfl⟩) (SK.out _ tV) ?_
                simp only [Act.put, List.setIfInBounds_toArray, List.set_cons_zero, List.set_cons_succ]
                refine wpAnyH_take (i := 20) (oi := { dst := some 61, op := Op.move (Operand.tmp 15), type := 3, pos := "ref.go:80", after := #[{ on := 18, ground := Ground.guard }], guard := some (18, true) }) (v := undef) rfl (by kernel_rfl) (by kernel_rfl) (by kernel_rfl) (fun _ _ _ h => h) (Or.inr ⟨by rfl, rfl⟩) (SK.out _ tV) ?_
                simp only [Act.put, List.setIfInBounds_toArray, List.set_cons_zero, List.set_cons_succ]
                refine wpAnyH_take (i := 21) (oi := { dst := some 62, op := Op.binOp BinOp.sub 3 (Operand.tmp 61) (Operand.const (Value.int IntKind.i64 1)) 3, type := 3, pos := "ref.go:80", after := #[{ on := 20, ground := Ground.data }, { on := 18, ground := Ground.guard }], guard := some (18, true) }) (v := undef) rfl (by kernel_rfl) (by kernel_rfl) (by kernel_rfl) (fun _ _ _ h => h) (Or.inr ⟨by rfl, rfl⟩) (SK.out _ tV) ?_
                simp only [Act.put, List.setIfInBounds_toArray, List.set_cons_zero, List.set_cons_succ]
                refine wpAnyH_take (i := 22) (oi := { dst := some 63, op := Op.indexAddr 31 (Operand.tmp 60) (Operand.tmp 62), type := 0, pos := "ref.go:80", after := #[{ on := 19, ground := Ground.data }, { on := 21, ground := Ground.data }, { on := 18, ground := Ground.guard }], guard := some (18, true) }) (v := undef) rfl (by kernel_rfl) (by kernel_rfl) (by kernel_rfl) (fun _ _ _ h => h) (Or.inr ⟨by rfl, rfl⟩) (SK.out _ tV) ?_
                simp only [Act.put, List.setIfInBounds_toArray, List.set_cons_zero, List.set_cons_succ]
                refine wpAnyH_take (i := 23) (oi := { dst := some 64, op := Op.fieldAddr 29 (Operand.tmp 63) 1, type := 0, pos := "ref.go:80", after := #[{ on := 22, ground := Ground.data }, { on := 18, ground := Ground.guard }], guard := some (18, true) }) (v := undef) rfl (by kernel_rfl) (by kernel_rfl) (by kernel_rfl) (fun _ _ _ h => h) (Or.inr ⟨by rfl, rfl⟩) (SK.out _ tV) ?_
                simp only [Act.put, List.setIfInBounds_toArray, List.set_cons_zero, List.set_cons_succ]
                refine wpAnyH_take (i := 24) (oi := { dst := some 65, op := Op.load 27 (Operand.tmp 64), type := 27, pos := "ref.go:80", after := #[{ on := 23, ground := Ground.data }, { on := 18, ground := Ground.guard }], guard := some (18, true) }) (v := undef) rfl (by kernel_rfl) (by kernel_rfl) (by kernel_rfl) (fun _ _ _ h => h) (Or.inr ⟨by rfl, rfl⟩) (SK.out _ tV) ?_
                simp only [Act.put, List.setIfInBounds_toArray, List.set_cons_zero, List.set_cons_succ]
                refine wpAnyH_take (i := 25) (oi := { dst := some 66, op := Op.move (Operand.tmp 3), type := 27, pos := "ref.go:80", after := #[{ on := 18, ground := Ground.guard }], guard := some (18, true) }) (v := undef) rfl (by kernel_rfl) (by kernel_rfl) (by kernel_rfl) (fun _ _ _ h => h) (Or.inr ⟨by rfl, rfl⟩) (SK.out _ tV) ?_
                simp only [Act.put, List.setIfInBounds_toArray, List.set_cons_zero, List.set_cons_succ]
                refine wpAnyH_take (i := 26) (oi := { dst := some 67, op := Op.binOp BinOp.leq 27 (Operand.tmp 65) (Operand.tmp 66) 27, type := 4, pos := "ref.go:80", after := #[{ on := 24, ground := Ground.data }, { on := 25, ground := Ground.data }, { on := 18, ground := Ground.guard }], guard := some (18, true) }) (v := undef) rfl (by kernel_rfl) (by kernel_rfl) (by kernel_rfl) (fun _ _ _ h => h) (Or.inr ⟨by rfl, rfl⟩) (SK.out _ tV) ?_
                simp only [Act.put, List.setIfInBounds_toArray, List.set_cons_zero, List.set_cons_succ]
                refine wpAnyH_take (i := 27) (oi := { dst := some 68, op := Op.pick (Operand.tmp 59) (Operand.tmp 67) (Operand.const (Value.bool false)), type := 4, pos := "ref.go:80", after := #[{ on := 18, ground := Ground.data }, { on := 26, ground := Ground.data }, { on := 4, ground := Ground.guard }], guard := some (4, false) }) (v := .bool false) rfl (by kernel_rfl) (by kernel_rfl) (by kernel_rfl) (fun _ _ _ h => h) (Or.inl ⟨by rfl, ?_⟩) (SK.out _ tV) ?_
                · rintro w ⟨d0, d1⟩
                  go_simp
                simp only [Act.put, List.setIfInBounds_toArray, List.set_cons_zero, List.set_cons_succ]
                refine wpAnyH_take (i := 28) (oi := { dst := some 69, op := Op.pick (Operand.tmp 45) (Operand.const (Value.bool true)) (Operand.tmp 68), type := 4, pos := "ref.go:80", after := #[{ on := 4, ground := Ground.data }, { on := 27, ground := Ground.data }], guard := none }) (v := .bool false) rfl (by kernel_rfl) (by kernel_rfl) (by kernel_rfl) (fun _ _ _ h => h) (Or.inl ⟨by rfl, ?_⟩) (SK.out _ tV) ?_
                · rintro w ⟨d0, d1⟩
                  go_simp
                simp only [Act.put, List.setIfInBounds_toArray, List.set_cons_zero, List.set_cons_succ]
                refine wpAnyH_done (by kernel_rfl) ?_ _
                have TV := hide tV
                clear tV
                go_wp2_with fail
                go_meet
                exact ⟨by rw [HSKP.out], TV.out⟩
              · obtain ⟨p, hp⟩ : ∃ p, xs[j]? = some p := ⟨_, List.getElem?_eq_getElem (by have := HLN.out; omega)⟩
                obtain ⟨lb', lo', e', hfp, hkp⟩ := fc_of (HEN.out.quiet (TT.out.trans TA.out)) hp
                cases e'
                obtain ⟨p0, p1, _, _⟩ := hfp
                have hpl := HSZ.out p (List.mem_of_getElem? hp)
                have HPE := hide (show (xs.map (·.e))[j]? = some p.e by rw [List.getElem?_map, hp]; rfl)
                have j1 : (j : Int) < ln := by omega
                have j0 : (0 : Int) ≤ j := by omega
                have hwj := wrapI (j : Int) (by omega) (by omega)
                have SK := hide (fun (u : World) (t : Turns (fun _ => False) w1 u) => show u.cell? ⟨Bx, 0, none⟩ = some (.slice x.ka x.e.key.length x.kc) ∧ u.cell? ⟨Bx, 1, none⟩ = some (.int .u64 (x.e.seq : Nat)) ∧ u.cell? ⟨lb, lo + j * 4, none⟩ = some (.slice p.ka p.e.key.length p.kc) ∧ u.cell? ⟨lb, lo + j * 4 + 1, none⟩ = some (.int .u64 (p.e.seq : Nat)) from ⟨t.cell b0 (fun x => x), t.cell b1 (fun x => x), t.cell p0 (fun x => x), t.cell p1 (fun x => x)⟩)
                have SM := hide (fun (u : World) (t : Turns (fun _ => False) w1 u) => same_any p.ka x.ka p.e.key.length x.e.key.length p.kc x.kc p.e.key x.e.key u (hkp.quiet t) ((KX.out.quiet TA.out).quiet t) (by omega) (by omega))
                have PV := hide (show (xs.map (·.e)).any (hides seq x.e) = true ↔ p.e.key = x.e.key ∧ p.e.seq ≤ seq by
                  rw [PH.out]
                  constructor
                  · rintro ⟨q, _, h1, h2⟩
                    rw [Nat.add_sub_cancel, HPE.out] at h1
                    cases h1
                    exact h2
                  · intro h2
                    exact ⟨p.e, by omega, by rw [Nat.add_sub_cancel]; exact HPE.out, h2⟩)
                clear hp hkp hpl
                by_cases hsm : p.e.key = x.e.key
                · rw [show decide (p.e.key = x.e.key) = true by simpa using hsm] at SM
                  by_cases hps : p.e.seq ≤ seq
                  · have HSKP := hide (show skip18 seq xs x = true by rw [skip18, PV.out.2 ⟨hsm, hps⟩, Bool.or_true])
                    have hpsi : (p.e.seq : Int) ≤ (seq : Int) := by omega
                    clear hsm hps
                    have tV : Turns (fun _ => False) w1 w1.drew := (Turns.refl _ _).drew
                    refine wp_region_held_drew (S := fun u => u.cell? ⟨Bx, 0, none⟩ = some (.slice x.ka x.e.key.length x.kc) ∧ u.cell? ⟨Bx, 1, none⟩ = some (.int .u64 (x.e.seq : Nat)) ∧ u.cell? ⟨lb, lo + j * 4, none⟩ = some (.slice p.ka p.e.key.length p.kc) ∧ u.cell? ⟨lb, lo + j * 4 + 1, none⟩ = some (.int .u64 (p.e.seq : Nat))) (by kernel_rfl) (SK.out _ tV) (fun _ => ?_)
                    change wpAnyH _ _ _ _ _ 29 (Array.replicate 29 false) _ _
                    refine wpAnyH_take (i := 0) (oi := { dst := some 41, op := Op.fieldAddr 29 (Operand.tmp 16) 1, type := 0, pos := "ref.go:80", after := #[], guard := none }) (v := .pointer (some ⟨Bx, 1, none⟩)) rfl (by kernel_rfl) (by kernel_rfl) (by kernel_rfl) (fun _ _ _ h => h) (Or.inl ⟨by rfl, ?_⟩) (SK.out _ tV) ?_
                    · rintro w ⟨d0, d1, d2, d3⟩
                      go_simp
                    simp only [Act.put, List.setIfInBounds_toArray, List.set_cons_zero, List.set_cons_succ]
                    refine wpAnyH_take (i := 1) (oi := { dst := some 42, op := Op.load 27 (Operand.tmp 41), type := 27, pos := "ref.go:80", after := #[{ on := 0, ground := Ground.data }], guard := none }) (v := .int .u64 (x.e.seq : Nat)) rfl (by kernel_rfl) (by kernel_rfl) (by kernel_rfl) (fun _ _ _ h => h) (Or.inl ⟨by rfl, ?_⟩) (SK.out _ tV) ?_
                    · rintro w ⟨d0, d1, d2, d3⟩
                      go_simp
                    simp only [Act.put, List.setIfInBounds_toArray, List.set_cons_zero, List.set_cons_succ]
                    refine wpAnyH_take (i := 2) (oi := { dst := some 43, op := Op.move (Operand.tmp 3), type := 27, pos := "ref.go:80", after := #[], guard := none }) (v := .int .u64 (seq : Nat)) rfl (by kernel_rfl) (by kernel_rfl) (by kernel_rfl) (fun _ _ _ h => h) (Or.inl ⟨by rfl, ?_⟩) (SK.out _ tV) ?_
                    · rintro w ⟨d0, d1, d2, d3⟩
                      go_simp
                    simp only [Act.put, List.setIfInBounds_toArray, List.set_cons_zero, List.set_cons_succ]
                    refine wpAnyH_take (i := 3) (oi := { dst := some 44, op := Op.binOp BinOp.gtr 27 (Operand.tmp 42) (Operand.tmp 43) 27, type := 4, pos := "ref.go:80", after := #[{ on := 1, ground := Ground.data }, { on := 2, ground := Ground.data }], guard := none }) (v := .bool false) rfl (by kernel_rfl) (by kernel_rfl) (by kernel_rfl) (fun _ _ _ h => h) (Or.inl ⟨by rfl, ?_⟩) (SK.out _ tV) ?_
                    · rintro w ⟨d0, d1, d2, d3⟩
                      go_simp
                    simp only [Act.put, List.setIfInBounds_toArray, List.set_cons_zero, List.set_cons_succ]
                    refine wpAnyH_take (i := 4) (oi := { dst := some 45, op := Op.move (Operand.tmp 44), type := 4, pos := "ref.go:80", after := #[{ on := 3, ground := Ground.data }], guard := none }) (v := .bool false) rfl (by kernel_rfl) (by kernel_rfl) (by kernel_rfl) (fun _ _ _ h => h) (Or.inl ⟨by rfl, ?_⟩) (SK.out _ tV) ?_
                    · rintro w ⟨d0, d1, d2, d3⟩
                      go_simp
                    simp only [Act.put, List.setIfInBounds_toArray, List.set_cons_zero, List.set_cons_succ]
                    refine wpAnyH_take (i := 5) (oi := { dst := some 46, op := Op.move (Operand.tmp 15), type := 3, pos := "ref.go:80", after := #[{ on := 4, ground := Ground.guard }], guard := some (4, false) }) (v := .int .i64 ((j + 1 : Nat) : Int)) rfl (by kernel_rfl) (by kernel_rfl) (by kernel_rfl) (fun _ _ _ h => h) (Or.inl ⟨by rfl, ?_⟩) (SK.out _ tV) ?_
                    · rintro w ⟨d0, d1, d2, d3⟩
                      go_simp
                    simp only [Act.put, List.setIfInBounds_toArray, List.set_cons_zero, List.set_cons_succ]
                    refine wpAnyH_take (i := 6) (oi := { dst := some 47, op := Op.binOp BinOp.gtr 3 (Operand.tmp 46) (Operand.const (Value.int IntKind.i64 0)) 3, type := 4, pos := "ref.go:80", after := #[{ on := 5, ground := Ground.data }, { on := 4, ground := Ground.guard }], guard := some (4, false) }) (v := .bool true) rfl (by kernel_rfl) (by kernel_rfl) (by kernel_rfl) (fun _ _ _ h => h) (Or.inl ⟨by rfl, ?_⟩) (SK.out _ tV) ?_
                    · rintro w ⟨d0, d1, d2, d3⟩
                      go_simp
                    simp only [Act.put, List.setIfInBounds_toArray, List.set_cons_zero, List.set_cons_succ]
                    refine wpAnyH_take (i := 7) (oi := { dst := some 48, op := Op.move (Operand.tmp 47), type := 4, pos := "ref.go:80", after := #[{ on := 6, ground := Ground.data }, { on := 4, ground := Ground.chain }, { on := 4, ground := Ground.guard }], guard := some (4, false) }) (v := .bool true) rfl (by kernel_rfl) (by kernel_rfl) (by kernel_rfl) (fun _ _ _ h => h) (Or.inl ⟨by rfl, ?_⟩) (SK.out _ tV) ?_
                    · rintro w ⟨d0, d1, d2, d3⟩
                      go_simp
                    simp only [Act.put, List.setIfInBounds_toArray, List.set_cons_zero, List.set_cons_succ]
                    refine wpAnyH_take (i := 8) (oi := { dst := some 49, op := Op.move (Operand.tmp 12), type := 31, pos := "ref.go:80", after := #[{ on := 7, ground := Ground.guard }], guard := some (7, true) }) (v := .slice (some ⟨lb, lo, none⟩) ln lc) rfl (by kernel_rfl) (by kernel_rfl) (by kernel_rfl) (fun _ _ _ h => h) (Or.inl ⟨by rfl, ?_⟩) (SK.out _ tV) ?_
                    · rintro w ⟨d0, d1, d2, d3⟩
                      go_simp
                    simp only [Act.put, List.setIfInBounds_toArray, List.set_cons_zero, List.set_cons_succ]
                    refine wpAnyH_take (i := 9) (oi := { dst := some 50, op := Op.move (Operand.tmp 15), type := 3, pos := "ref.go:80", after := #[{ on := 7, ground := Ground.guard }], guard := some (7, true) }) (v := .int .i64 ((j + 1 : Nat) : Int)) rfl (by kernel_rfl) (by kernel_rfl) (by kernel_rfl) (fun _ _ _ h => h) (Or.inl ⟨by rfl, ?_⟩) (SK.out _ tV) ?_
                    · rintro w ⟨d0, d1, d2, d3⟩
                      go_simp
                    simp only [Act.put, List.setIfInBounds_toArray, List.set_cons_zero, List.set_cons_succ]
                    refine wpAnyH_take (i := 10) (oi := { dst := some 51, op := Op.binOp BinOp.sub 3 (Operand.tmp 50) (Operand.const (Value.int IntKind.i64 1)) 3, type := 3, pos := "ref.go:80", after := #[{ on := 9, ground := Ground.data }, { on := 7, ground := Ground.guard }], guard := some (7, true) }) (v := .int .i64 (j : Nat)) rfl (by kernel_rfl) (by kernel_rfl) (by kernel_rfl) (fun _ _ _ h => h) (Or.inl ⟨by rfl, ?_⟩) (SK.out _ tV) ?_
                    · rintro w ⟨d0, d1, d2, d3⟩
                      go_simp
                    simp only [Act.put, List.setIfInBounds_toArray, List.set_cons_zero, List.set_cons_succ]
                    refine wpAnyH_take (i := 11) (oi := { dst := some 52, op := Op.indexAddr 31 (Operand.tmp 49) (Operand.tmp 51), type := 0, pos := "ref.go:80", after := #[{ on := 8, ground := Ground.data }, { on := 10, ground := Ground.data }, { on := 7, ground := Ground.guard }], guard := some (7, true) }) (v := .pointer (some ⟨lb, lo + j * 4, none⟩)) rfl (by kernel_rfl) (by kernel_rfl) (by kernel_rfl) (fun _ _ _ h => h) (Or.inl ⟨by rfl, ?_⟩) (SK.out _ tV) ?_
                    · rintro w ⟨d0, d1, d2, d3⟩
                      go_simp
                    simp only [Act.put, List.setIfInBounds_toArray, List.set_cons_zero, List.set_cons_succ]
                    refine wpAnyH_take (i := 12) (oi := { dst := some 53, op := Op.fieldAddr 29 (Operand.tmp 52) 0, type := 0, pos := "ref.go:80", after := #[{ on := 11, ground := Ground.data }, { on := 7, ground := Ground.guard }], guard := some (7, true) }) (v := .pointer (some ⟨lb, lo + j * 4, none⟩)) rfl (by kernel_rfl) (by kernel_rfl) (by kernel_rfl) (fun _ _ _ h => h) (Or.inl ⟨by rfl, ?_⟩) (SK.out _ tV) ?_
                    · rintro w ⟨d0, d1, d2, d3⟩
                      go_simp
                    simp only [Act.put, List.setIfInBounds_toArray, List.set_cons_zero, List.set_cons_succ]
                    refine wpAnyH_take (i := 13) (oi := { dst := some 54, op := Op.load 26 (Operand.tmp 53), type := 26, pos := "ref.go:80", after := #[{ on := 12, ground := Ground.data }, { on := 7, ground := Ground.guard }], guard := some (7, true) }) (v := .slice p.ka p.e.key.length p.kc) rfl (by kernel_rfl) (by kernel_rfl) (by kernel_rfl) (fun _ _ _ h => h) (Or.inl ⟨by rfl, ?_⟩) (SK.out _ tV) ?_
                    · rintro w ⟨d0, d1, d2, d3⟩
                      go_simp
                    simp only [Act.put, List.setIfInBounds_toArray, List.set_cons_zero, List.set_cons_succ]
                    refine wpAnyH_take (i := 14) (oi := { dst := some 55, op := Op.fieldAddr 29 (Operand.tmp 16) 0, type := 0, pos := "ref.go:80", after := #[{ on := 7, ground := Ground.guard }], guard := some (7, true) }) (v := .pointer (some ⟨Bx, 0, none⟩)) rfl (by kernel_rfl) (by kernel_rfl) (by kernel_rfl) (fun _ _ _ h => h) (Or.inl ⟨by rfl, ?_⟩) (SK.out _ tV) ?_
                    · rintro w ⟨d0, d1, d2, d3⟩
                      go_simp
                    simp only [Act.put, List.setIfInBounds_toArray, List.set_cons_zero, List.set_cons_succ]
                    refine wpAnyH_take (i := 15) (oi := { dst := some 56, op := Op.load 26 (Operand.tmp 55), type := 26, pos := "ref.go:80", after := #[{ on := 14, ground := Ground.data }, { on := 7, ground := Ground.guard }], guard := some (7, true) }) (v := .slice x.ka x.e.key.length x.kc) rfl (by kernel_rfl) (by kernel_rfl) (by kernel_rfl) (fun _ _ _ h => h) (Or.inl ⟨by rfl, ?_⟩) (SK.out _ tV) ?_
                    · rintro w ⟨d0, d1, d2, d3⟩
                      go_simp
                    simp only [Act.put, List.setIfInBounds_toArray, List.set_cons_zero, List.set_cons_succ]
                    refine wpAnyH_ready (rs := [16]) (by kernel_rfl) (by simp) ?_
                    refine AllReadyH.cons rfl (fun K hK => ?_) AllReadyH.nil
                    go_simp
                    refine (SM.out _ tV).mono ?_
                    rintro oo Vn ⟨rfl, tN⟩
                    have tV := tV.trans tN
                    clear tN SM
                    go_simp
                    refine hK.out _ _ (SK.out _ tV) (fun _ => ?_)
                    clear hK K
                    refine wpAnyH_take (i := 17) (oi := { dst := some 58, op := Op.pick (Operand.tmp 48) (Operand.tmp 57) (Operand.const (Value.bool false)), type := 4, pos := "ref.go:80", after := #[{ on := 7, ground := Ground.data }, { on := 16, ground := Ground.data }, { on := 4, ground := Ground.guard }], guard := some (4, false) }) (v := .bool true) rfl (by kernel_rfl) (by kernel_rfl) (by kernel_rfl) (fun _ _ _ h => h) (Or.inl ⟨by rfl, ?_⟩) (SK.out _ tV) ?_
                    · rintro w ⟨d0, d1, d2, d3⟩
                      go_simp
                    simp only [Act.put, List.setIfInBounds_toArray, List.set_cons_zero, List.set_cons_succ]
                    refine wpAnyH_take (i := 18) (oi := { dst := some 59, op := Op.move (Operand.tmp 58), type := 4, pos := "ref.go:80", after := #[{ on := 17, ground := Ground.data }, { on := 16, ground := Ground.chain }, { on := 4, ground := Ground.guard }], guard := some (4, false) }) (v := .bool true) rfl (by kernel_rfl) (by kernel_rfl) (by kernel_rfl) (fun _ _ _ h => h) (Or.inl ⟨by rfl, ?_⟩) (SK.out _ tV) ?_
                    · rintro w ⟨d0, d1, d2, d3⟩
                      go_simp
                    simp only [Act.put, List.setIfInBounds_toArray, List.set_cons_zero, List.set_cons_succ]
                    refine wpAnyH_take (i := 19) (oi := { dst := some 60, op := Op.move (Operand.tmp 12), type := 31, pos := "ref.go:80", after := #[{ on := 18, ground := Ground.guard }], guard := some (18, true) }) (v := .slice (some ⟨lb, lo, none⟩) ln lc) rfl (by kernel_rfl) (by kernel_rfl) (by kernel_rfl) (fun _ _ _ h => h) (Or.inl ⟨by rfl, ?_⟩) (SK.out _ tV) ?_
                    · rintro w ⟨d0, d1, d2, d3⟩
                      go_simp
                    simp only [Act.put, List.setIfInBounds_toArray, List.set_cons_zero, List.set_cons_succ]
                    refine wpAnyH_take (i := 20) (oi := { dst := some 61, op := Op.move (Operand.tmp 15), type := 3, pos := "ref.go:80", after := #[{ on := 18, ground := Ground.guard }], guard := some (18, true) }) (v := .int .i64 ((j + 1 : Nat) : Int)) rfl (by kernel_rfl) (by kernel_rfl) (by kernel_rfl) (fun _ _ _ h => h) (Or.inl ⟨by rfl, ?_⟩) (SK.out _ tV) ?_
                    · rintro w ⟨d0, d1, d2, d3⟩
                      go_simp
                    simp only [Act.put, List.setIfInBounds_toArray, List.set_cons_zero, List.set_cons_succ]
                    refine wpAnyH_take (i := 21) (oi := { dst := some 62, op := Op.binOp BinOp.sub 3 (Operand.tmp 61) (Operand.const (Value.int IntKind.i64 1)) 3, type := 3, pos := "ref.go:80", after := #[{ on := 20, ground := Ground.data }, { on := 18, ground := Ground.guard }], guard := some (18, true) }) (v := .int .i64 (j : Nat)) rfl (by kernel_rfl) (by kernel_rfl) (by kernel_rfl) (fun _ _ _ h => h) (Or.inl ⟨by rfl, ?_⟩) (SK.out _ tV) ?_
                    · rintro w ⟨d0, d1, d2, d3⟩
                      go_simp
                    simp only [Act.put, List.setIfInBounds_toArray, List.set_cons_zero, List.set_cons_succ]
                    refine wpAnyH_take (i := 22) (oi := { dst := some 63, op := Op.indexAddr 31 (Operand.tmp 60) (Operand.tmp 62), type := 0, pos := "ref.go:80", after := #[{ on := 19, ground := Ground.data }, { on := 21, ground := Ground.data }, { on := 18, ground := Ground.guard }], guard := some (18, true) }) (v := .pointer (some ⟨lb, lo + j * 4, none⟩)) rfl (by kernel_rfl) (by kernel_rfl) (by kernel_rfl) (fun _ _ _ h => h) (Or.inl ⟨by rfl, ?_⟩) (SK.out _ tV) ?_
                    · rintro w ⟨d0, d1, d2, d3⟩
                      go_simp
                    simp only [Act.put, List.setIfInBounds_toArray, List.set_cons_zero, List.set_cons_succ]
                    refine wpAnyH_take (i := 23) (oi := { dst := some 64, op := Op.fieldAddr 29 (Operand.tmp 63) 1, type := 0, pos := "ref.go:80", after := #[{ on := 22, ground := Ground.data }, { on := 18, ground := Ground.guard }], guard := some (18, true) }) (v := .pointer (some ⟨lb, lo + j * 4 + 1, none⟩)) rfl (by kernel_rfl) (by kernel_rfl) (by kernel_rfl) (fun _ _ _ h => h) (Or.inl ⟨by rfl, ?_⟩) (SK.out _ tV) ?_
                    · rintro w ⟨d0, d1, d2, d3⟩
                      go_simp
                    simp only [Act.put, List.setIfInBounds_toArray, List.set_cons_zero, List.set_cons_succ]
                    refine wpAnyH_take (i := 24) (oi := { dst := some 65, op := Op.load 27 (Operand.tmp 64), type := 27, pos := "ref.go:80", after := #[{ on := 23, ground := Ground.data }, { on := 18, ground := Ground.guard }], guard := some (18, true) }) (v := .int .u64 (p.e.seq : Nat)) rfl (by kernel_rfl) (by kernel_rfl) (by kernel_rfl) (fun _ _ _ h => h) (Or.inl ⟨by rfl, ?_⟩) (SK.out _ tV) ?_
                    · rintro w ⟨d0, d1, d2, d3⟩
                      go_simp
                    simp only [Act.put, List.setIfInBounds_toArray, List.set_cons_zero, List.set_cons_succ]
                    refine wpAnyH_take (i := 25) (oi := { dst := some 66, op := Op.move (Operand.tmp 3), type := 27, pos := "ref.go:80", after := #[{ on := 18, ground := Ground.guard }], guard := some (18, true) }) (v := .int .u64 (seq : Nat)) rfl (by kernel_rfl) (by kernel_rfl) (by kernel_rfl) (fun _ _ _ h => h) (Or.inl ⟨by rfl, ?_⟩) (SK.out _ tV) ?_
                    · rintro w ⟨d0, d1, d2, d3⟩
                      go_simp
                    simp only [Act.put, List.setIfInBounds_toArray, List.set_cons_zero, List.set_cons_succ]
                    refine wpAnyH_take (i := 26) (oi := { dst := some 67, op := Op.binOp BinOp.leq 27 (Operand.tmp 65) (Operand.tmp 66) 27, type := 4, pos := "ref.go:80", after := #[{ on := 24, ground := Ground.data }, { on := 25, ground := Ground.data }, { on := 18, ground := Ground.guard }], guard := some (18, true) }) (v := .bool true) rfl (by kernel_rfl) (by kernel_rfl) (by kernel_rfl) (fun _ _ _ h => h) (Or.inl ⟨by rfl, ?_⟩) (SK.out _ tV) ?_
                    · rintro w ⟨d0, d1, d2, d3⟩
                      go_simp
                    simp only [Act.put, List.setIfInBounds_toArray, List.set_cons_zero, List.set_cons_succ]
                    refine wpAnyH_take (i := 27) (oi := { dst := some 68, op := Op.pick (Operand.tmp 59) (Operand.tmp 67) (Operand.const (Value.bool false)), type := 4, pos := "ref.go:80", after := #[{ on := 18, ground := Ground.data }, { on := 26, ground := Ground.data }, { on := 4, ground := Ground.guard }], guard := some (4, false) }) (v := .bool true) rfl (by kernel_rfl) (by kernel_rfl) (by kernel_rfl) (fun _ _ _ h => h) (Or.inl ⟨by rfl, ?_⟩) (SK.out _ tV) ?_
                    · rintro w ⟨d0, d1, d2, d3⟩
                      go_simp
                    simp only [Act.put, List.setIfInBounds_toArray, List.set_cons_zero, List.set_cons_succ]
                    refine wpAnyH_take (i := 28) (oi := { dst := some 69, op := Op.pick (Operand.tmp 45) (Operand.const (Value.bool true)) (Operand.tmp 68), type := 4, pos := "ref.go:80", after := #[{ on := 4, ground := Ground.data }, { on := 27, ground := Ground.data }], guard := none }) (v := .bool true) rfl (by kernel_rfl) (by kernel_rfl) (by kernel_rfl) (fun _ _ _ h => h) (Or.inl ⟨by rfl, ?_⟩) (SK.out _ tV) ?_
                    · rintro w ⟨d0, d1, d2, d3⟩
                      go_simp
                    simp only [Act.put, List.setIfInBounds_toArray, List.set_cons_zero, List.set_cons_succ]
                    refine wpAnyH_done (by kernel_rfl) ?_ _
                    have TV := hide tV
                    clear tV
                    go_wp2_with fail
                    go_meet
                    exact ⟨by rw [HSKP.out], TV.out⟩
                  · have HSKP := hide (show skip18 seq xs x = false by
                      have : (xs.map (·.e)).any (hides seq x.e) = false := Bool.eq_false_iff.2 fun h => hps (PV.out.1 h).2
                      simp only [skip18, this, Bool.or_false, decide_eq_false_iff_not]
                      exact hgt)
                    have hpsi : ¬ (p.e.seq : Int) ≤ (seq : Int) := by omega
                    clear hsm hps
                    have tV : Turns (fun _ => False) w1 w1.drew := (Turns.refl _ _).drew
                    refine wp_region_held_drew (S := fun u => u.cell? ⟨Bx, 0, none⟩ = some (.slice x.ka x.e.key.length x.kc) ∧ u.cell? ⟨Bx, 1, none⟩ = some (.int .u64 (x.e.seq : Nat)) ∧ u.cell? ⟨lb, lo + j * 4, none⟩ = some (.slice p.ka p.e.key.length p.kc) ∧ u.cell? ⟨lb, lo + j * 4 + 1, none⟩ = some (.int .u64 (p.e.seq : Nat))) (by kernel_rfl) (SK.out _ tV) (fun _ => ?_)
                    change wpAnyH _ _ _ _ _ 29 (Array.replicate 29 false) _ _
                    refine wpAnyH_take (i := 0) (oi := { dst := some 41, op := Op.fieldAddr 29 (Operand.tmp 16) 1, type := 0, pos := "ref.go:80", after := #[], guard := none }) (v := .pointer (some ⟨Bx, 1, none⟩)) rfl (by kernel_rfl) (by kernel_rfl) (by kernel_rfl) (fun _ _ _ h => h) (Or.inl ⟨by rfl, ?_⟩) (SK.out _ tV) ?_
                    · rintro w ⟨d0, d1, d2, d3⟩
                      go_simp
                    simp only [Act.put, List.setIfInBounds_toArray, List.set_cons_zero, List.set_cons_succ]
                    refine wpAnyH_take (i := 1) (oi := { dst := some 42, op := Op.load 27 (Operand.tmp 41), type := 27, pos := "ref.go:80", after := #[{ on := 0, ground := Ground.data }], guard := none }) (v := .int .u64 (x.e.seq : Nat)) rfl (by kernel_rfl) (by kernel_rfl) (by kernel_rfl) (fun _ _ _ h => h) (Or.inl ⟨by rfl, ?_⟩) (SK.out _ tV) ?_
                    · rintro w ⟨d0, d1, d2, d3⟩
                      go_simp
                    simp only [Act.put, List.setIfInBounds_toArray, List.set_cons_zero, List.set_cons_succ]
                    refine wpAnyH_take (i := 2) (oi := { dst := some 43, op := Op.move (Operand.tmp 3), type := 27, pos := "ref.go:80", after := #[], guard := none }) (v := .int .u64 (seq : Nat)) rfl (by kernel_rfl) (by kernel_rfl) (by kernel_rfl) (fun _ _ _ h => h) (Or.inl ⟨by rfl, ?_⟩) (SK.out _ tV) ?_
                    · rintro w ⟨d0, d1, d2, d3⟩
                      go_simp
                    simp only [Act.put, List.setIfInBounds_toArray, List.set_cons_zero, List.set_cons_succ]
                    refine wpAnyH_take (i := 3) (oi := { dst := some 44, op := Op.binOp BinOp.gtr 27 (Operand.tmp 42) (Operand.tmp 43) 27, type := 4, pos := "ref.go:80", after := #[{ on := 1, ground := Ground.data }, { on := 2, ground := Ground.data }], guard := none }) (v := .bool false) rfl (by kernel_rfl) (by kernel_rfl) (by kernel_rfl) (fun _ _ _ h => h) (Or.inl ⟨by rfl, ?_⟩) (SK.out _ tV) ?_
                    · rintro w ⟨d0, d1, d2, d3⟩
                      go_simp
                    simp only [Act.put, List.setIfInBounds_toArray, List.set_cons_zero, List.set_cons_succ]
                    refine wpAnyH_take (i := 4) (oi := { dst := some 45, op := Op.move (Operand.tmp 44), type := 4, pos := "ref.go:80", after := #[{ on := 3, ground := Ground.data }], guard := none }) (v := .bool false) rfl (by kernel_rfl) (by kernel_rfl) (by kernel_rfl) (fun _ _ _ h => h) (Or.inl ⟨by rfl, ?_⟩) (SK.out _ tV) ?_
                    · rintro w ⟨d0, d1, d2, d3⟩
                      go_simp
                    simp only [Act.put, List.setIfInBounds_toArray, List.set_cons_zero, List.set_cons_succ]
                    refine wpAnyH_take (i := 5) (oi := { dst := some 46, op := Op.move (Operand.tmp 15), type := 3, pos := "ref.go:80", after := #[{ on := 4, ground := Ground.guard }], guard := some (4, false) }) (v := .int .i64 ((j + 1 : Nat) : Int)) rfl (by kernel_rfl) (by kernel_rfl) (by kernel_rfl) (fun _ _ _ h => h) (Or.inl ⟨by rfl, ?_⟩) (SK.out _ tV) ?_
                    · rintro w ⟨d0, d1, d2, d3⟩
                      go_simp
                    simp only [Act.put, List.setIfInBounds_toArray, List.set_cons_zero, List.set_cons_succ]
                    refine wpAnyH_take (i := 6) (oi := { dst := some 47, op := Op.binOp BinOp.gtr 3 (Operand.tmp 46) (Operand.const (Value.int IntKind.i64 0)) 3, type := 4, pos := "ref.go:80", after := #[{ on := 5, ground := Ground.data }, { on := 4, ground := Ground.guard }], guard := some (4, false) }) (v := .bool true) rfl (by kernel_rfl) (by kernel_rfl) (by kernel_rfl) (fun _ _ _ h => h) (Or.inl ⟨by rfl, ?_⟩) (SK.out _ tV) ?_
                    · rintro w ⟨d0, d1, d2, d3⟩
                      go_simp
                    simp only [Act.put, List.setIfInBounds_toArray, List.set_cons_zero, List.set_cons_succ]
                    refine wpAnyH_take (i := 7) (oi := { dst := some 48, op := Op.move (Operand.tmp 47), type := 4, pos := "ref.go:80", after := #[{ on := 6, ground := Ground.data }, { on := 4, ground := Ground.chain }, { on := 4, ground := Ground.guard }], guard := some (4, false) }) (v := .bool true) rfl (by kernel_rfl) (by kernel_rfl) (by kernel_rfl) (fun _ _ _ h => h) (Or.inl ⟨by rfl, ?_⟩) (SK.out _ tV) ?_
                    · rintro w ⟨d0, d1, d2, d3⟩
                      go_simp
                    simp only [Act.put, List.setIfInBounds_toArray, List.set_cons_zero, List.set_cons_succ]
                    refine wpAnyH_take (i := 8) (oi := { dst := some 49, op := Op.move (Operand.tmp 12), type := 31, pos := "ref.go:80", after := #[{ on := 7, ground := Ground.guard }], guard := some (7, true) }) (v := .slice (some ⟨lb, lo, none⟩) ln lc) rfl (by kernel_rfl) (by kernel_rfl) (by kernel_rfl) (fun _ _ _ h => h) (Or.inl ⟨by rfl, ?_⟩) (SK.out _ tV) ?_
                    · rintro w ⟨d0, d1, d2, d3⟩
                      go_simp
                    simp only [Act.put, List.setIfInBounds_toArray, List.set_cons_zero, List.set_cons_succ]
                    refine wpAnyH_take (i := 9) (oi := { dst := some 50, op := Op.move (Operand.tmp 15), type := 3, pos := "ref.go:80", after := #[{ on := 7, ground := Ground.guard }], guard := some (7, true) }) (v := .int .i64 ((j + 1 : Nat) : Int)) rfl (by kernel_rfl) (by kernel_rfl) (by kernel_rfl) (fun _ _ _ h => h) (Or.inl ⟨by rfl, ?_⟩) (SK.out _ tV) ?_
                    · rintro w ⟨d0, d1, d2, d3⟩
                      go_simp
                    simp only [Act.put, List.setIfInBounds_toArray, List.set_cons_zero, List.set_cons_succ]
                    refine wpAnyH_take (i := 10) (oi := { dst := some 51, op := Op.binOp BinOp.sub 3 (Operand.tmp 50) (Operand.const (Value.int IntKind.i64 1)) 3, type := 3, pos := "ref.go:80", after := #[{ on := 9, ground := Ground.data }, { on := 7, ground := Ground.guard }], guard := some (7, true) }) (v := .int .i64 (j : Nat)) rfl (by kernel_rfl) (by kernel_rfl) (by kernel_rfl) (fun _ _ _ h => h) (Or.inl ⟨by rfl, ?_⟩) (SK.out _ tV) ?_
                    · rintro w ⟨d0, d1, d2, d3⟩
                      go_simp
                    simp only [Act.put, List.setIfInBounds_toArray, List.set_cons_zero, List.set_cons_succ]
                    refine wpAnyH_take (i := 11) (oi := { dst := some 52, op := Op.indexAddr 31 (Operand.tmp 49) (Operand.tmp 51), type := 0, pos := "ref.go:80", after := #[{ on := 8, ground := Ground.data }, { on := 10, ground := Ground.data }, { on := 7, ground := Ground.guard }], guard := some (7, true) }) (v := .pointer (some ⟨lb, lo + j * 4, none⟩)) rfl (by kernel_rfl) (by kernel_rfl) (by kernel_rfl) (fun _ _ _ h => h) (Or.inl ⟨by rfl, ?_⟩) (SK.out _ tV) ?_
                    · rintro w ⟨d0, d1, d2, d3⟩
                      go_simp
                    simp only [Act.put, List.setIfInBounds_toArray, List.set_cons_zero, List.set_cons_succ]
                    refine wpAnyH_take (i := 12) (oi := { dst := some 53, op := Op.fieldAddr 29 (Operand.tmp 52) 0, type := 0, pos := "ref.go:80", after := #[{ on := 11, ground := Ground.data }, { on := 7, ground := Ground.guard }], guard := some (7, true) }) (v := .pointer (some ⟨lb, lo + j * 4, none⟩)) rfl (by kernel_rfl) (by kernel_rfl) (by kernel_rfl) (fun _ _ _ h => h) (Or.inl ⟨by rfl, ?_⟩) (SK.out _ tV) ?_
                    · rintro w ⟨d0, d1, d2, d3⟩
                      go_simp
                    simp only [Act.put, List.setIfInBounds_toArray, List.set_cons_zero, List.set_cons_succ]
                    refine wpAnyH_take (i := 13) (oi := { dst := some 54, op := Op.load 26 (Operand.tmp 53), type := 26, pos := "ref.go:80", after := #[{ on := 12, ground := Ground.data }, { on := 7, ground := Ground.guard }], guard := some (7, true) }) (v := .slice p.ka p.e.key.length p.kc) rfl (by kernel_rfl) (by kernel_rfl) (by kernel_rfl) (fun _ _ _ h => h) (Or.inl ⟨by rfl, ?_⟩) (SK.out _ tV) ?_
                    · rintro w ⟨d0, d1, d2, d3⟩
                      go_simp
                    simp only [Act.put, List.setIfInBounds_toArray, List.set_cons_zero, List.set_cons_succ]
                    refine wpAnyH_take (i := 14) (oi := { dst := some 55, op := Op.fieldAddr 29 (Operand.tmp 16) 0, type := 0, pos := "ref.go:80", after := #[{ on := 7, ground := Ground.guard }], guard := some (7, true) }) (v := .pointer (some ⟨Bx, 0, none⟩)) rfl (by kernel_rfl) (by kernel_rfl) (by kernel_rfl) (fun _ _ _ h => h) (Or.inl ⟨by rfl, ?_⟩) (SK.out _ tV) ?_
                    · rintro w ⟨d0, d1, d2, d3⟩
                      go_simp
                    simp only [Act.put, List.setIfInBounds_toArray, List.set_cons_zero, List.set_cons_succ]
                    refine wpAnyH_take (i := 15) (oi := { dst := some 56, op := Op.load 26 (Operand.tmp 55), type := 26, pos := "ref.go:80", after := #[{ on := 14, ground := Ground.data }, { on := 7, ground := Ground.guard }], guard := some (7, true) }) (v := .slice x.ka x.e.key.length x.kc) rfl (by kernel_rfl) (by kernel_rfl) (by kernel_rfl) (fun _ _ _ h => h) (Or.inl ⟨by rfl, ?_⟩) (SK.out _ tV) ?_
                    · rintro w ⟨d0, d1, d2, d3⟩
                      go_simp
                    simp only [Act.put, List.setIfInBounds_toArray, List.set_cons_zero, List.set_cons_succ]
                    refine wpAnyH_ready (rs := [16]) (by kernel_rfl) (by simp) ?_
                    refine AllReadyH.cons rfl (fun K hK => ?_) AllReadyH.nil
                    go_simp
                    refine (SM.out _ tV).mono ?_
                    rintro oo Vn ⟨rfl, tN⟩
                    have tV := tV.trans tN
                    clear tN SM
                    go_simp
                    refine hK.out _ _ (SK.out _ tV) (fun _ => ?_)
                    clear hK K
                    refine wpAnyH_take (i := 17) (oi := { dst := some 58, op := Op.pick (Operand.tmp 48) (Operand.tmp 57) (Operand.const (Value.bool false)), type := 4, pos := "ref.go:80", after := #[{ on := 7, ground := Ground.data }, { on := 16, ground := Ground.data }, { on := 4, ground := Ground.guard }], guard := some (4, false) }) (v := .bool true) rfl (by kernel_rfl) (by kernel_rfl) (by kernel_rfl) (fun _ _ _ h => h) (Or.inl ⟨by rfl, ?_⟩) (SK.out _ tV) ?_
                    · rintro w ⟨d0, d1, d2, d3⟩
                      go_simp
                    simp only [Act.put, List.setIfInBounds_toArray, List.set_cons_zero, List.set_cons_succ]
                    refine wpAnyH_take (i := 18) (oi := { dst := some 59, op := Op.move (Operand.tmp 58), type := 4, pos := "ref.go:80", after := #[{ on := 17, ground := Ground.data }, { on := 16, ground := Ground.chain }, { on := 4, ground := Ground.guard }], guard := some (4, false) }) (v := .bool true) rfl (by kernel_rfl) (by kernel_rfl) (by kernel_rfl) (fun _ _ _ h => h) (Or.inl ⟨by rfl, ?_⟩) (SK.out _ tV) ?_
                    · rintro w ⟨d0, d1, d2, d3⟩
                      go_simp
                    simp only [Act.put, List.setIfInBounds_toArray, List.set_cons_zero, List.set_cons_succ]
                    refine wpAnyH_take (i := 19) (oi := { dst := some 60, op := Op.move (Operand.tmp 12), type := 31, pos := "ref.go:80", after := #[{ on := 18, ground := Ground.guard }], guard := some (18, true) }) (v := .slice (some ⟨lb, lo, none⟩) ln lc) rfl (by kernel_rfl) (by kernel_rfl) (by kernel_rfl) (fun _ _ _ h => h) (Or.inl ⟨by rfl, ?_⟩) (SK.out _ tV) ?_
                    · rintro w ⟨d0, d1, d2, d3⟩
                      go_simp
                    simp only [Act.put, List.setIfInBounds_toArray, List.set_cons_zero, List.set_cons_succ]
                    refine wpAnyH_take (i := 20) (oi := { dst := some 61, op := Op.move (Operand.tmp 15), type := 3, pos := "ref.go:80", after := #[{ on := 18, ground := Ground.guard }], guard := some (18, true) }) (v := .int .i64 ((j + 1 : Nat) : Int)) rfl (by kernel_rfl) (by kernel_rfl) (by kernel_rfl) (fun _ _ _ h => h) (Or.inl ⟨by rfl, ?_⟩) (SK.out _ tV) ?_
                    · rintro w ⟨d0, d1, d2, d3⟩
                      go_simp
                    simp only [Act.put, List.setIfInBounds_toArray, List.set_cons_zero, List.set_cons_succ]
                    refine wpAnyH_take (i := 21) (oi := { dst := some 62, op := Op.binOp BinOp.sub 3 (Operand.tmp 61) (Operand.const (Value.int IntKind.i64 1)) 3, type := 3, pos := "ref.go:80", after := #[{ on := 20, ground := Ground.data }, { on := 18, ground := Ground.guard }], guard := some (18, true) }) (v := .int .i64 (j : Nat)) rfl (by kernel_rfl) (by kernel_rfl) (by kernel_rfl) (fun _ _ _ h => h) (Or.inl ⟨by rfl, ?_⟩) (SK.out _ tV) ?_
                    · rintro w ⟨d0, d1, d2, d3⟩
                      go_simp
                    simp only [Act.put, List.setIfInBounds_toArray, List.set_cons_zero, List.set_cons_succ]
                    refine wpAnyH_take (i := 22) (oi := { dst := some 63, op := Op.indexAddr 31 (Operand.tmp 60) (Operand.tmp 62), type := 0, pos := "ref.go:80", after := #[{ on := 19, ground := Ground.data }, { on := 21, ground := Ground.data }, { on := 18, ground := Ground.guard }], guard := some (18, true) }) (v := .pointer (some ⟨lb, lo + j * 4, none⟩)) rfl (by kernel_rfl) (by kernel_rfl) (by kernel_rfl) (fun _ _ _ h => h) (Or.inl ⟨by rfl, ?_⟩) (SK.out _ tV) ?_
                    · rintro w ⟨d0, d1, d2, d3⟩
                      go_simp
                    simp only [Act.put, List.setIfInBounds_toArray, List.set_cons_zero, List.set_cons_succ]
                    refine wpAnyH_take (i := 23) (oi := { dst := some 64, op := Op.fieldAddr 29 (Operand.tmp 63) 1, type := 0, pos := "ref.go:80", after := #[{ on := 22, ground := Ground.data }, { on := 18, ground := Ground.guard }], guard := some (18, true) }) (v := .pointer (some ⟨lb, lo + j * 4 + 1, none⟩)) rfl (by kernel_rfl) (by kernel_rfl) (by kernel_rfl) (fun _ _ _ h => h) (Or.inl ⟨by rfl, ?_⟩) (SK.out _ tV) ?_
                    · rintro w ⟨d0, d1, d2, d3⟩
                      go_simp
                    simp only [Act.put, List.setIfInBounds_toArray, List.set_cons_zero, List.set_cons_succ]
                    refine wpAnyH_take (i := 24) (oi := { dst := some 65, op := Op.load 27 (Operand.tmp 64), type := 27, pos := "ref.go:80", after := #[{ on := 23, ground := Ground.data }, { on := 18, ground := Ground.guard }], guard := some (18, true) }) (v := .int .u64 (p.e.seq : Nat)) rfl (by kernel_rfl) (by kernel_rfl) (by kernel_rfl) (fun _ _ _ h => h) (Or.inl ⟨by rfl, ?_⟩) (SK.out _ tV) ?_
                    · rintro w ⟨d0, d1, d2, d3⟩
                      go_simp
                    simp only [Act.put, List.setIfInBounds_toArray, List.set_cons_zero, List.set_cons_succ]
                    refine wpAnyH_take (i := 25) (oi := { dst := some 66, op := Op.move (Operand.tmp 3), type := 27, pos := "ref.go:80", after := #[{ on := 18, ground := Ground.guard }], guard := some (18, true) }) (v := .int .u64 (seq : Nat)) rfl (by kernel_rfl) (by kernel_rfl) (by kernel_rfl) (fun _ _ _ h => h) (Or.inl ⟨by rfl, ?_⟩) (SK.out _ tV) ?_
                    · rintro w ⟨d0, d1, d2, d3⟩
                      go_simp
                    simp only [Act.put, List.setIfInBounds_toArray, List.set_cons_zero, List.set_cons_succ]
                    refine wpAnyH_take (i := 26) (oi := { dst := some 67, op := Op.binOp BinOp.leq 27 (Operand.tmp 65) (Operand.tmp 66) 27, type := 4, pos := "ref.go:80", after := #[{ on := 24, ground := Ground.data }, { on := 25, ground := Ground.data }, { on := 18, ground := Ground.guard }], guard := some (18, true) }) (v := .bool false) rfl (by kernel_rfl) (by kernel_rfl) (by kernel_rfl) (fun _ _ _ h => h) (Or.inl ⟨by rfl, ?_⟩) (SK.out _ tV) ?_
                    · rintro w ⟨d0, d1, d2, d3⟩
                      go_simp
                    simp only [Act.put, List.setIfInBounds_toArray, List.set_cons_zero, List.set_cons_succ]
                    refine wpAnyH_take (i := 27) (oi := { dst := some 68, op := Op.pick (Operand.tmp 59) (Operand.tmp 67) (Operand.const (Value.bool false)), type := 4, pos := "ref.go:80", after := #[{ on := 18, ground := Ground.data }, { on := 26, ground := Ground.data }, { on := 4, ground := Ground.guard }], guard := some (4, false) }) (v := .bool false) rfl (by kernel_rfl) (by kernel_rfl) (by kernel_rfl) (fun _ _ _ h => h) (Or.inl ⟨by rfl, ?_⟩) (SK.out _ tV) ?_
                    · rintro w ⟨d0, d1, d2, d3⟩
                      go_simp
                    simp only [Act.put, List.setIfInBounds_toArray, List.set_cons_zero, List.set_cons_succ]
                    refine wpAnyH_take (i := 28) (oi := { dst := some 69, op := Op.pick (Operand.tmp 45) (Operand.const (Value.bool true)) (Operand.tmp 68), type := 4, pos := "ref.go:80", after := #[{ on := 4, ground := Ground.data }, { on := 27, ground := Ground.data }], guard := none }) (v := .bool false) rfl (by kernel_rfl) (by kernel_rfl) (by kernel_rfl) (fun _ _ _ h => h) (Or.inl ⟨by rfl, ?_⟩) (SK.out _ tV) ?_
                    · rintro w ⟨d0, d1, d2, d3⟩
                      go_simp
                    simp only [Act.put, List.setIfInBounds_toArray, List.set_cons_zero, List.set_cons_succ]
                    refine wpAnyH_done (by kernel_rfl) ?_ _
                    have TV := hide tV
                    clear tV
                    go_wp2_with fail
                    go_meet
                    exact ⟨by rw [HSKP.out], TV.out⟩
                · rw [show decide (p.e.key = x.e.key) = false by simpa using hsm] at SM
                  have HSKP := hide (show skip18 seq xs x = false by
                    have : (xs.map (·.e)).any (hides seq x.e) = false := Bool.eq_false_iff.2 fun h => hsm (PV.out.1 h).1
                    simp only [skip18, this, Bool.or_false, decide_eq_false_iff_not]
                    exact hgt)
                  clear hsm
                  have tV : Turns (fun _ => False) w1 w1.drew := (Turns.refl _ _).drew
                  refine wp_region_held_drew (S := fun u => u.cell? ⟨Bx, 0, none⟩ = some (.slice x.ka x.e.key.length x.kc) ∧ u.cell? ⟨Bx, 1, none⟩ = some (.int .u64 (x.e.seq : Nat)) ∧ u.cell? ⟨lb, lo + j * 4, none⟩ = some (.slice p.ka p.e.key.length p.kc) ∧ u.cell? ⟨lb, lo + j * 4 + 1, none⟩ = some (.int .u64 (p.e.seq : Nat))) (by kernel_rfl) (SK.out _ tV) (fun _ => ?_)
                  change wpAnyH _ _ _ _ _ 29 (Array.replicate 29 false) _ _
                  refine wpAnyH_take (i := 0) (oi := { dst := some 41, op := Op.fieldAddr 29 (Operand.tmp 16) 1, type := 0, pos := "ref.go:80", after := #[], guard := none }) (v := .pointer (some ⟨Bx, 1, none⟩)) rfl (by kernel_rfl) (by kernel_rfl) (by kernel_rfl) (fun _ _ _ h => h) (Or.inl ⟨by rfl, ?_⟩) (SK.out _ tV) ?_
                  · rintro w ⟨d0, d1, d2, d3⟩
                    go_simp
                  simp only [Act.put, List.setIfInBounds_toArray, List.set_cons_zero, List.set_cons_succ]
                  refine wpAnyH_take (i := 1) (oi := { dst := some 42, op := Op.load 27 (Operand.tmp 41), type := 27, pos := "ref.go:80", after := #[{ on := 0, ground := Ground.data }], guard := none }) (v := .int .u64 (x.e.seq : Nat)) rfl (by kernel_rfl) (by kernel_rfl) (by kernel_rfl) (fun _ _ _ h => h) (Or.inl ⟨by rfl, ?_⟩) (SK.out _ tV) ?_
                  · rintro w ⟨d0, d1, d2, d3⟩
                    go_simp
                  simp only [Act.put, List.setIfInBounds_toArray, List.set_cons_zero, List.set_cons_succ]
                  refine wpAnyH_take (i := 2) (oi := { dst := some 43, op := Op.move (Operand.tmp 3), type := 27, pos := "ref.go:80", after := #[], guard := none }) (v := .int .u64 (seq : Nat)) rfl (by kernel_rfl) (by kernel_rfl) (by kernel_rfl) (fun _ _ _ h => h) (Or.inl ⟨by rfl, ?_⟩) (SK.out _ tV) ?_
                  · rintro w ⟨d0, d1, d2, d3⟩
                    go_simp
                  simp only [Act.put, List.setIfInBounds_toArray, List.set_cons_zero, List.set_cons_succ]
                  refine wpAnyH_take (i := 3) (oi := { dst := some 44, op := Op.binOp BinOp.gtr 27 (Operand.tmp 42) (Operand.tmp 43) 27, type := 4, pos := "ref.go:80", after := #[{ on := 1, ground := Ground.data }, { on := 2, ground := Ground.data }], guard := none }) (v := .bool false) rfl (by kernel_rfl) (by kernel_rfl) (by kernel_rfl) (fun _ _ _ h => h) (Or.inl ⟨by rfl, ?_⟩) (SK.out _ tV) ?_
                  · rintro w ⟨d0, d1, d2, d3⟩
                    go_simp
                  simp only [Act.put, List.setIfInBounds_toArray, List.set_cons_zero, List.set_cons_succ]
                  refine wpAnyH_take (i := 4) (oi := { dst := some 45, op := Op.move (Operand.tmp 44), type := 4, pos := "ref.go:80", after := #[{ on := 3, ground := Ground.data }], guard := none }) (v := .bool false) rfl (by kernel_rfl) (by kernel_rfl) (by kernel_rfl) (fun _ _ _ h => h) (Or.inl ⟨by rfl, ?_⟩) (SK.out _ tV) ?_
                  · rintro w ⟨d0, d1, d2, d3⟩
                    go_simp
                  simp only [Act.put, List.setIfInBounds_toArray, List.set_cons_zero, List.set_cons_succ]
                  refine wpAnyH_take (i := 5) (oi := { dst := some 46, op := Op.move (Operand.tmp 15), type := 3, pos := "ref.go:80", after := #[{ on := 4, ground := Ground.guard }], guard := some (4, false) }) (v := .int .i64 ((j + 1 : Nat) : Int)) rfl (by kernel_rfl) (by kernel_rfl) (by kernel_rfl) (fun _ _ _ h => h) (Or.inl ⟨by rfl, ?_⟩) (SK.out _ tV) ?_
                  · rintro w ⟨d0, d1, d2, d3⟩
                    go_simp
                  simp only [Act.put, List.setIfInBounds_toArray, List.set_cons_zero, List.set_cons_succ]
                  refine wpAnyH_take (i := 6) (oi := { dst := some 47, op := Op.binOp BinOp.gtr 3 (Operand.tmp 46) (Operand.const (Value.int IntKind.i64 0)) 3, type := 4, pos := "ref.go:80", after := #[{ on := 5, ground := Ground.data }, { on := 4, ground := Ground.guard }], guard := some (4, false) }) (v := .bool true) rfl (by kernel_rfl) (by kernel_rfl) (by kernel_rfl) (fun _ _ _ h => h) (Or.inl ⟨by rfl, ?_⟩) (SK.out _ tV) ?_
                  · rintro w ⟨d0, d1, d2, d3⟩
                    go_simp
                  simp only [Act.put, List.setIfInBounds_toArray, List.set_cons_zero, List.set_cons_succ]
                  refine wpAnyH_take (i := 7) (oi := { dst := some 48, op := Op.move (Operand.tmp 47), type := 4, pos := "ref.go:80", after := #[{ on := 6, ground := Ground.data }, { on := 4, ground := Ground.chain }, { on := 4, ground := Ground.guard }], guard := some (4, false) }) (v := .bool true) rfl (by kernel_rfl) (by kernel_rfl) (by kernel_rfl) (fun _ _ _ h => h) (Or.inl ⟨by rfl, ?_⟩) (SK.out _ tV) ?_
                  · rintro w ⟨d0, d1, d2, d3⟩
                    go_simp
                  simp only [Act.put, List.setIfInBounds_toArray, List.set_cons_zero, List.set_cons_succ]
                  refine wpAnyH_take (i := 8) (oi := { dst := some 49, op := Op.move (Operand.tmp 12), type := 31, pos := "ref.go:80", after := #[{ on := 7, ground := Ground.guard }], guard := some (7, true) }) (v := .slice (some ⟨lb, lo, none⟩) ln lc) rfl (by kernel_rfl) (by kernel_rfl) (by kernel_rfl) (fun _ _ _ h => h) (Or.inl ⟨by rfl, ?_⟩) (SK.out _ tV) ?_
                  · rintro w ⟨d0, d1, d2, d3⟩
                    go_simp
                  simp only [Act.put, List.setIfInBounds_toArray, List.set_cons_zero, List.set_cons_succ]
                  refine wpAnyH_take (i := 9) (oi := { dst := some 50, op := Op.move (Operand.tmp 15), type := 3, pos := "ref.go:80", after := #[{ on := 7, ground := Ground.guard }], guard := some (7, true) }) (v := .int .i64 ((j + 1 : Nat) : Int)) rfl (by kernel_rfl) (by kernel_rfl) (by kernel_rfl) (fun _ _ _ h => h) (Or.inl ⟨by rfl, ?_⟩) (SK.out _ tV) ?_
                  · rintro w ⟨d0, d1, d2, d3⟩
                    go_simp
                  simp only [Act.put, List.setIfInBounds_toArray, List.set_cons_zero, List.set_cons_succ]
                  refine wpAnyH_take (i := 10) (oi := { dst := some 51, op := Op.binOp BinOp.sub 3 (Operand.tmp 50) (Operand.const (Value.int IntKind.i64 1)) 3, type := 3, pos := "ref.go:80", after := #[{ on := 9, ground := Ground.data }, { on := 7, ground := Ground.guard }], guard := some (7, true) }) (v := .int .i64 (j : Nat)) rfl (by kernel_rfl) (by kernel_rfl) (by kernel_rfl) (fun _ _ _ h => h) (Or.inl ⟨by rfl, ?_⟩) (SK.out _ tV) ?_
                  · rintro w ⟨d0, d1, d2, d3⟩
                    go_simp
                  simp only [Act.put, List.setIfInBounds_toArray, List.set_cons_zero, List.set_cons_succ]
                  refine wpAnyH_take (i := 11) (oi := { dst := some 52, op := Op.indexAddr 31 (Operand.tmp 49) (Operand.tmp 51), type := 0, pos := "ref.go:80", after := #[{ on := 8, ground := Ground.data }, { on := 10, ground := Ground.data }, { on := 7, ground := Ground.guard }], guard := some (7, true) }) (v := .pointer (some ⟨lb, lo + j * 4, none⟩)) rfl (by kernel_rfl) (by kernel_rfl) (by kernel_rfl) (fun _ _ _ h => h) (Or.inl ⟨by rfl, ?_⟩) (SK.out _ tV) ?_
                  · rintro w ⟨d0, d1, d2, d3⟩
                    go_simp
                  simp only [Act.put, List.setIfInBounds_toArray, List.set_cons_zero, List.set_cons_succ]
                  refine wpAnyH_take (i := 12) (oi := { dst := some 53, op := Op.fieldAddr 29 (Operand.tmp 52) 0, type := 0, pos := "ref.go:80", after := #[{ on := 11, ground := Ground.data }, { on := 7, ground := Ground.guard }], guard := some (7, true) }) (v := .pointer (some ⟨lb, lo + j * 4, none⟩)) rfl (by kernel_rfl) (by kernel_rfl) (by kernel_rfl) (fun _ _ _ h => h) (Or.inl ⟨by rfl, ?_⟩) (SK.out _ tV) ?_
                  · rintro w ⟨d0, d1, d2, d3⟩
                    go_simp
                  simp only [Act.put, List.setIfInBounds_toArray, List.set_cons_zero, List.set_cons_succ]
                  refine wpAnyH_take (i := 13) (oi := { dst := some 54, op := Op.load 26 (Operand.tmp 53), type := 26, pos := "ref.go:80", after := #[{ on := 12, ground := Ground.data }, { on := 7, ground := Ground.guard }], guard := some (7, true) }) (v := .slice p.ka p.e.key.length p.kc) rfl (by kernel_rfl) (by kernel_rfl) (by kernel_rfl) (fun _ _ _ h => h) (Or.inl ⟨by rfl, ?_⟩) (SK.out _ tV) ?_
                  · rintro w ⟨d0, d1, d2, d3⟩
                    go_simp
                  simp only [Act.put, List.setIfInBounds_toArray, List.set_cons_zero, List.set_cons_succ]
                  refine wpAnyH_take (i := 14) (oi := { dst := some 55, op := Op.fieldAddr 29 (Operand.tmp 16) 0, type := 0, pos := "ref.go:80", after := #[{ on := 7, ground := Ground.guard }], guard := some (7, true) }) (v := .pointer (some ⟨Bx, 0, none⟩)) rfl (by kernel_rfl) (by kernel_rfl) (by kernel_rfl) (fun _ _ _ h => h) (Or.inl ⟨by rfl, ?_⟩) (SK.out _ tV) ?_
                  · rintro w ⟨d0, d1, d2, d3⟩
                    go_simp
                  simp only [Act.put, List.setIfInBounds_toArray, List.set_cons_zero, List.set_cons_succ]
                  refine wpAnyH_take (i := 15) (oi := { dst := some 56, op := Op.load 26 (Operand.tmp 55), type := 26, pos := "ref.go:80", after := #[{ on := 14, ground := Ground.data }, { on := 7, ground := Ground.guard }], guard := some (7, true) }) (v := .slice x.ka x.e.key.length x.kc) rfl (by kernel_rfl) (by kernel_rfl) (by kernel_rfl) (fun _ _ _ h => h) (Or.inl ⟨by rfl, ?_⟩) (SK.out _ tV) ?_
                  · rintro w ⟨d0, d1, d2, d3⟩
                    go_simp
                  simp only [Act.put, List.setIfInBounds_toArray, List.set_cons_zero, List.set_cons_succ]
                  refine wpAnyH_ready (rs := [16]) (by kernel_rfl) (by simp) ?_
                  refine AllReadyH.cons rfl (fun K hK => ?_) AllReadyH.nil
                  go_simp
                  refine (SM.out _ tV).mono ?_
                  rintro oo Vn ⟨rfl, tN⟩
                  have tV := tV.trans tN
                  clear tN SM
                  go_simp
                  refine hK.out _ _ (SK.out _ tV) (fun _ => ?_)
                  clear hK K
                  refine wpAnyH_take (i := 17) (oi := { dst := some 58, op := Op.pick (Operand.tmp 48) (Operand.tmp 57) (Operand.const (Value.bool false)), type := 4, pos := "ref.go:80", after := #[{ on := 7, ground := Ground.data }, { on := 16, ground := Ground.data }, { on := 4, ground := Ground.guard }], guard := some (4, false) }) (v := .bool false) rfl (by kernel_rfl) (by kernel_rfl) (by kernel_rfl) (fun _ _ _ h => h) (Or.inl ⟨by rfl, ?_⟩) (SK.out _ tV) ?_
                  · rintro w ⟨d0, d1, d2, d3⟩
                    go_simp
                  simp only [Act.put, List.setIfInBounds_toArray, List.set_cons_zero, List.set_cons_succ]
                  refine wpAnyH_take (i := 18) (oi := { dst := some 59, op := Op.move (Operand.tmp 58), type := 4, pos := "ref.go:80", after := #[{ on := 17, ground := Ground.data }, { on := 16, ground := Ground.chain }, { on := 4, ground := Ground.guard }], guard := some (4, false) }) (v := .bool false) rfl (by kernel_rfl) (by kernel_rfl) (by kernel_rfl) (fun _ _ _ h => h) (Or.inl ⟨by rfl, ?_⟩) (SK.out _ tV) ?_
                  · rintro w ⟨d0, d1, d2, d3⟩
                    go_simp
                  simp only [Act.put, List.setIfInBounds_toArray, List.set_cons_zero, List.set_cons_succ]
                  refine wpAnyH_take (i := 19) (oi := { dst := some 60, op := Op.move (Operand.tmp 12), type := 31, pos := "ref.go:80", after := #[{ on := 18, ground := Ground.guard }], guard := some (18, true) }) (v := undef) rfl (by kernel_rfl) (by kernel_rfl) (by kernel_rfl) (fun _ _ _ h => h) (Or.inr ⟨by rfl, rfl⟩) (SK.out _ tV) ?_
                  simp only [Act.put, List.setIfInBounds_toArray, List.set_cons_zero, List.set_cons_succ]
                  refine wpAnyH_take (i := 20) (oi := { dst := some 61, op := Op.move (Operand.tmp 15), type := 3, pos := "ref.go:80", after := #[{ on := 18, ground := Ground.guard }], guard := some (18, true) }) (v := undef) rfl (by kernel_rfl) (by kernel_rfl) (by kernel_rfl) (fun _ _ _ h => h) (Or.inr ⟨by rfl, rfl⟩) (SK.out _ tV) ?_
                  simp only [Act.put, List.setIfInBounds_toArray, List.set_cons_zero, List.set_cons_succ]
                  refine wpAnyH_take (i := 21) (oi := { dst := some 62, op := Op.binOp BinOp.sub 3 (Operand.tmp 61) (Operand.const (Value.int IntKind.i64 1)) 3, type := 3, pos := "ref.go:80", after := #[{ on := 20, ground := Ground.data }, { on := 18, ground := Ground.guard }], guard := some (18, true) }) (v := undef) rfl (by kernel_rfl) (by kernel_rfl) (by kernel_rfl) (fun _ _ _ h => h) (Or.inr ⟨by rfl, rfl⟩) (SK.out _ tV) ?_
                  simp only [Act.put, List.setIfInBounds_toArray, List.set_cons_zero, List.set_cons_succ]
                  refine wpAnyH_take (i := 22) (oi := { dst := some 63, op := Op.indexAddr 31 (Operand.tmp 60) (Operand.tmp 62), type := 0, pos := "ref.go:80", after := #[{ on := 19, ground := Ground.data }, { on := 21, ground := Ground.data }, { on := 18, ground := Ground.guard }], guard := some (18, true) }) (v := undef) rfl (by kernel_rfl) (by kernel_rfl) (by kernel_rfl) (fun _ _ _ h => h) (Or.inr ⟨by rfl, rfl⟩) (SK.out _ tV) ?_
                  simp only [Act.put, List.setIfInBounds_toArray, List.set_cons_zero, List.set_cons_succ]
                  refine wpAnyH_take (i := 23) (oi := { dst := some 64, op := Op.fieldAddr 29 (Operand.tmp 63) 1, type := 0, pos := "ref.go:80", after := #[{ on := 22, ground := Ground.data }, { on := 18, ground := Ground.guard }], guard := some (18, true) }) (v := undef) rfl (by kernel_rfl) (by kernel_rfl) (by kernel_rfl) (fun _ _ _ h => h) (Or.inr ⟨by rfl, rfl⟩) (SK.out _ tV) ?_
                  simp only [Act.put, List.setIfInBounds_toArray, List.set_cons_zero, List.set_cons_succ]
                  refine wpAnyH_take (i := 24) (oi := { dst := some 65, op := Op.load 27 (Operand.tmp 64), type := 27, pos := "ref.go:80", after := #[{ on := 23, ground := Ground.data }, { on := 18, ground := Ground.guard }], guard := some (18, true) }) (v := undef) rfl (by kernel_rfl) (by kernel_rfl) (by kernel_rfl) (fun _ _ _ h => h) (Or.inr ⟨by rfl, rfl⟩) (SK.out _ tV) ?_
                  simp only [Act.put, List.setIfInBounds_toArray, List.set_cons_zero, List.set_cons_succ]
                  refine wpAnyH_take (i := 25) (oi := { dst := some 66, op := Op.move (Operand.tmp 3), type := 27, pos := "ref.go:80", after := #[{ on := 18, ground := Ground.guard }], guard := some (18, true) }) (v := undef) rfl (by kernel_rfl) (by kernel_rfl) (by kernel_rfl) (fun _ _ _ h => h) (Or.inr ⟨by rfl, rfl⟩) (SK.out _ tV) ?_
                  simp only [Act.put, List.setIfInBounds_toArray, List.set_cons_zero, List.set_cons_succ]
                  refine wpAnyH_take (i := 26) (oi := { dst := some 67, op := Op.binOp BinOp.leq 27 (Operand.tmp 65) (Operand.tmp 66) 27, type := 4, pos := "ref.go:80", after := #[{ on := 24, ground := Ground.data }, { on := 25, ground := Ground.data }, { on := 18, ground := Ground.guard }], guard := some (18, true) }) (v := undef) rfl (by kernel_rfl) (by kernel_rfl) (by kernel_rfl) (fun _ _ _ h => h) (Or.inr ⟨by rfl, rfl⟩) (SK.out _ tV) ?_
                  simp only [Act.put, List.setIfInBounds_toArray, List.set_cons_zero, List.set_cons_succ]
                  refine wpAnyH_take (i := 27) (oi := { dst := some 68, op := Op.pick (Operand.tmp 59) (Operand.tmp 67) (Operand.const (Value.bool false)), type := 4, pos := "ref.go:80", after := #[{ on := 18, ground := Ground.data }, { on := 26, ground := Ground.data }, { on := 4, ground := Ground.guard }], guard := some (4, false) }) (v := .bool false) rfl (by kernel_rfl) (by kernel_rfl) (by kernel_rfl) (fun _ _ _ h => h) (Or.inl ⟨by rfl, ?_⟩) (SK.out _ tV) ?_
                  · rintro w ⟨d0, d1, d2, d3⟩
                    go_simp
                  simp only [Act.put, List.setIfInBounds_toArray, List.set_cons_zero, List.set_cons_succ]
                  refine wpAnyH_take (i := 28) (oi := { dst := some 69, op := Op.pick (Operand.tmp 45) (Operand.const (Value.bool true)) (Operand.tmp 68), type := 4, pos := "ref.go:80", after := #[{ on := 4, ground := Ground.data }, { on := 27, ground := Ground.data }], guard := none }) (v := .bool false) rfl (by kernel_rfl) (by kernel_rfl) (by kernel_rfl) (fun _ _ _ h => h) (Or.inl ⟨by rfl, ?_⟩) (SK.out _ tV) ?_
                  · rintro w ⟨d0, d1, d2, d3⟩
                    go_simp
                  simp only [Act.put, List.setIfInBounds_toArray, List.set_cons_zero, List.set_cons_succ]
                  refine wpAnyH_done (by kernel_rfl) ?_ _
                  have TV := hide tV
                  clear tV
                  go_wp2_with fail
                  go_meet
                  exact ⟨by rw [HSKP.out], TV.out⟩
          case rest =>
            obtain ⟨rfl, hT⟩ := hcut
            have T4 := hide hT
            have T5 := hide (TA.out.trans hT)
            clear hT b0 b1
            cases hsk : skip18 seq xs x with
            | true =>
              have PF := hide (show pick18 seq (xs.map (·.e)) fk tk x.e = false by
                unfold skip18 at hsk
                rw [Bool.or_eq_true, decide_eq_true_eq] at hsk
                unfold pick18 newest
                rcases hsk with h | h
                · rw [show decide (x.e.seq ≤ seq) = false by simp; omega]; simp
                · rw [h]; simp)
              clear hsk
              have TE := hide (TT.out.trans T5.out)
              have E5 := hide (HE.out.keep T5.out (fun _ _ x => x))
              go_wp2_with fail
              go_roundw
              case rel => exact ⟨i + 1, R, by go_num, by omega, E5.out, HI.out, by rw [STEP.out, ← HMM.out, List.filter_cons_of_neg (by rw [PF.out]; simp)]; simp, HLE.out, TE.out⟩
              case measure => simp [intOf]; omega
            | false =>
              have HNW := hide (show x.e.seq ≤ seq ∧ (xs.map (·.e)).any (hides seq x.e) = false by
                unfold skip18 at hsk
                rw [Bool.or_eq_false_iff, decide_eq_false_iff_not] at hsk
                exact ⟨by omega, hsk.2⟩)
              have HPK := hide (show pick18 seq (xs.map (·.e)) fk tk x.e = (decide (x.e.kind = 1) && rngE fk tk x.e) by
                unfold pick18 newest
                rw [HNW.out.2, show decide (x.e.seq ≤ seq) = true by simpa using HNW.out.1]
                simp)
              clear hsk
              have d0 := cell_of_row wc Bx 0 _ 29 (0, 0) (T4.out.heap N1.out (fun x => x))
              have d2 := cell_of_row wc Bx 2 _ 29 (0, 0) (T4.out.heap N1.out (fun x => x))
              by_cases hkd : x.e.kind = 1
              · have KB := hide (before_any x.ka fa x.e.key.length fn x.kc fc x.e.key fk wc (KX.out.quiet T5.out) (KF.out.quiet ((T0.out.trans TT.out).trans T5.out)) (by omega) (by omega))
                have HKD := hide hkd
                have hkd' : (x.e.kind == 1) = true := by simpa using hkd
                clear hkd
                by_cases hlt : cmpB x.e.key fk < 0
                · rw [show decide (cmpB x.e.key fk < 0) = true by simpa using hlt] at KB
                  have PF := hide (show pick18 seq (xs.map (·.e)) fk tk x.e = false by
                    rw [HPK.out, rngE, show decide (0 ≤ cmpB x.e.key fk) = false by simp; omega]
                    simp)
                  clear hlt
                  go_wp2_with fail
                  refine KB.out.mono ?_
                  rintro e w2 ⟨rfl, t2⟩
                  have T6 := hide (T5.out.trans t2)
                  clear t2 d0 d2
                  have TE := hide (TT.out.trans T6.out)
                  have E5 := hide (HE.out.keep T6.out (fun _ _ x => x))
                  go_wp2_with fail
                  go_roundw
                  case rel => exact ⟨i + 1, R, by go_num, by omega, E5.out, HI.out, by rw [STEP.out, ← HMM.out, List.filter_cons_of_neg (by rw [PF.out]; simp)]; simp, HLE.out, TE.out⟩
                  case measure => simp [intOf]; omega
                · rw [show decide (cmpB x.e.key fk < 0) = false by simpa using hlt] at KB
                  have HGE := hide (show decide (0 ≤ cmpB x.e.key fk) = true by simp; omega)
                  clear hlt
                  by_cases htz : tn = 0
                  · have PF := hide (show pick18 seq (xs.map (·.e)) fk tk x.e = true by
                      have : tk = [] := List.eq_nil_of_length_eq_zero (by rw [← HTL.out]; exact htz)
                      rw [HPK.out, HKD.out, rngE, HGE.out, this]
                      simp)
                    subst htz
                    go_wp2_with fail
                    refine KB.out.mono ?_
                    rintro e w2 ⟨rfl, t2⟩
                    have T6 := hide (T5.out.trans t2)
                    have T7 := hide (T4.out.trans t2)
                    clear t2 d0 d2
                    have f0 := cell_of_row w2 Bx 0 _ 29 (0, 0) (T7.out.heap N1.out (fun x => x))
                    have f1 := cell_of_row w2 Bx 1 _ 29 (0, 0) (T7.out.heap N1.out (fun x => x))
                    have f2 := cell_of_row w2 Bx 2 _ 29 (0, 0) (T7.out.heap N1.out (fun x => x))
                    have f3 := cell_of_row w2 Bx 3 _ 29 (0, 0) (T7.out.heap N1.out (fun x => x))
                    obtain ⟨g', n', c', w3, hr3, hrow3, t3, b3, _⟩ := append_ent (w2.alloc (.cells #[.slice x.ka x.e.key.length x.kc, .int .u64 (x.e.seq : Nat), .int .i64 x.e.kind, .slice x.va x.e.val.length x.vc] 29)) w0.heap.size (.slice oa R.length oc) R (HE.out.keep (T6.out.alloc _) (fun _ _ x => x)) (by have h1 := T6.out.size; have h2 := TT.out.size; have h3 := B0.out.size; simp; omega) (by have := HRL.out; omega) x w2.heap.size 1 (heap_alloc_new w2 _)
                    have hq := hr3 31
                    have HR3 := hide hrow3
                    have T3 := hide (Turns.of_below ((((TT.out.trans T6.out).below (B := w0.heap.size) (Nat.le_refl _) (fun _ x => x.elim)).alloc (Nat.le_trans TT.out.size T6.out.size) _).trans b3) (fun _ => False))
                    clear hr3 hrow3 t3 b3
                    go_wp2_with (at_builtin; refine wpList_append_run rfl _ _ 31 rfl (.slice oa R.length oc) (.slice (some ⟨w2.heap.size, 0, none⟩) 1 1) rfl rfl _ _ hq ?_)
                    go_roundw
                    case rel => exact ⟨i + 1, R ++ [x], by go_num, by omega, HR3.out, fun y hy => (List.mem_append.1 hy).elim (HI.out y) (fun hy => by rw [List.mem_singleton.1 hy]; exact List.mem_of_getElem? HX.out), by rw [STEP.out, ← HMM.out, List.filter_cons_of_pos (by rw [PF.out])]; simp, by rw [List.length_append]; simp; omega, T3.out⟩
                    case measure => simp [intOf]; omega
                  · have htz' : ¬ (tn : Int) = 0 := by omega
                    have HTE := hide (show tk.isEmpty = false by cases htk2 : tk with | nil => rw [htk2] at HTL; exact absurd HTL.out htz | cons _ _ => rfl)
                    go_wp2_with fail
                    refine KB.out.mono ?_
                    rintro e w2 ⟨rfl, t2⟩
                    have T6 := hide (T5.out.trans t2)
                    have T7 := hide (T4.out.trans t2)
                    have d3 := t2.cell d0 (fun x => x)
                    have KC := hide (before_any x.ka ta x.e.key.length tn x.kc tc x.e.key tk w2 (KX.out.quiet T6.out) (KT.out.quiet ((T0.out.trans TT.out).trans T6.out)) (by omega) (by omega))
                    clear t2 d0 d2 KB
                    by_cases hlt2 : cmpB x.e.key tk < 0
                    · rw [show decide (cmpB x.e.key tk < 0) = true by simpa using hlt2] at KC
                      have PF := hide (show pick18 seq (xs.map (·.e)) fk tk x.e = true by
                        rw [HPK.out, HKD.out, rngE, HGE.out, HTE.out, show decide (0 ≤ cmpB x.e.key tk) = false by simp; omega]
                        simp)
                      clear hlt2
                      go_wp2_with fail
                      refine KC.out.mono ?_
                      rintro e w4 ⟨rfl, t4⟩
                      have T8 := hide (T6.out.trans t4)
                      have T9 := hide (T7.out.trans t4)
                      clear t4 d3
                      have f0 := cell_of_row w4 Bx 0 _ 29 (0, 0) (T9.out.heap N1.out (fun x => x))
                      have f1 := cell_of_row w4 Bx 1 _ 29 (0, 0) (T9.out.heap N1.out (fun x => x))
                      have f2 := cell_of_row w4 Bx 2 _ 29 (0, 0) (T9.out.heap N1.out (fun x => x))
                      have f3 := cell_of_row w4 Bx 3 _ 29 (0, 0) (T9.out.heap N1.out (fun x => x))
                      obtain ⟨g', n', c', w3, hr3, hrow3, t3, b3, _⟩ := append_ent (w4.alloc (.cells #[.slice x.ka x.e.key.length x.kc, .int .u64 (x.e.seq : Nat), .int .i64 x.e.kind, .slice x.va x.e.val.length x.vc] 29)) w0.heap.size (.slice oa R.length oc) R (HE.out.keep (T8.out.alloc _) (fun _ _ x => x)) (by have h1 := T8.out.size; have h2 := TT.out.size; have h3 := B0.out.size; simp; omega) (by have := HRL.out; omega) x w4.heap.size 1 (heap_alloc_new w4 _)
                      have hq := hr3 31
                      have HR3 := hide hrow3
                      have T3 := hide (Turns.of_below ((((TT.out.trans T8.out).below (B := w0.heap.size) (Nat.le_refl _) (fun _ x => x.elim)).alloc (Nat.le_trans TT.out.size T8.out.size) _).trans b3) (fun _ => False))
                      clear hr3 hrow3 t3 b3
                      go_wp2_with (at_builtin; refine wpList_append_run rfl _ _ 31 rfl (.slice oa R.length oc) (.slice (some ⟨w4.heap.size, 0, none⟩) 1 1) rfl rfl _ _ hq ?_)
                      go_roundw
                      case rel => exact ⟨i + 1, R ++ [x], by go_num, by omega, HR3.out, fun y hy => (List.mem_append.1 hy).elim (HI.out y) (fun hy => by rw [List.mem_singleton.1 hy]; exact List.mem_of_getElem? HX.out), by rw [STEP.out, ← HMM.out, List.filter_cons_of_pos (by rw [PF.out])]; simp, by rw [List.length_append]; simp; omega, T3.out⟩
                      case measure => simp [intOf]; omega
                    · rw [show decide (cmpB x.e.key tk < 0) = false by simpa using hlt2] at KC
                      have PF := hide (show pick18 seq (xs.map (·.e)) fk tk x.e = false by
                        rw [HPK.out, HKD.out, rngE, HGE.out, HTE.out, show decide (0 ≤ cmpB x.e.key tk) = true by simp; omega]
                        simp)
                      clear hlt2
                      go_wp2_with fail
                      refine KC.out.mono ?_
                      rintro e w4 ⟨rfl, t4⟩
                      have T8 := hide (T6.out.trans t4)
                      clear t4 d3
                      have TE := hide (TT.out.trans T8.out)
                      have E5 := hide (HE.out.keep T8.out (fun _ _ x => x))
                      go_wp2_with fail
                      go_roundw
                      case rel => exact ⟨i + 1, R, by go_num, by omega, E5.out, HI.out, by rw [STEP.out, ← HMM.out, List.filter_cons_of_neg (by rw [PF.out]; simp)]; simp, HLE.out, TE.out⟩
                      case measure => simp [intOf]; omega
              · have PF := hide (show pick18 seq (xs.map (·.e)) fk tk x.e = false by
                  rw [HPK.out, show decide (x.e.kind = 1) = false by simpa using hkd]
                  simp)
                have hkd' : (x.e.kind == 1) = false := by simpa using hkd
                have TE := hide (TT.out.trans T5.out)
                have E5 := hide (HE.out.keep T5.out (fun _ _ x => x))
                go_wp2_with fail
                go_roundw
                case rel => exact ⟨i + 1, R, by go_num, by omega, E5.out, HI.out, by rw [STEP.out, ← HMM.out, List.filter_cons_of_neg (by rw [PF.out]; simp)]; simp, HLE.out, TE.out⟩
                case measure => simp [intOf]; omega
        · have i1 : (i : Int) < ln := by omega
          have FIN := hide (show RBetOk rs fk tk seq N R from .inl ⟨HO.out, xs, HM.out, by have := HLN.out; omega, HI.out, by
            have h1 : R.length = N.toNat := by have := HLE.out; omega
            have h2 : (xs.map (·.e)).filter (pick18 seq (xs.map (·.e)) fk tk) = R.map (·.e) ++ ((xs.map (·.e)).drop i).filter (pick18 seq (xs.map (·.e)) fk tk) := by
              rw [HMM.out, ← List.filter_append, List.take_append_drop]
            rw [h2, List.take_append_of_le_length (by rw [List.length_map]; omega), List.take_of_length_le (by rw [List.length_map]; omega)]⟩)
          have BB := hide (B0.out.trans (TT.out.below B0.out.size (fun _ x => x.elim)))
          go_wp2_with fail
          go_ret2
          first
            | exact ⟨_, R, rfl, HE.out.le B0.out.size, BB.out, FIN.out⟩
            | exact ⟨_, rfl, R, HE.out.le B0.out.size, BB.out, FIN.out⟩
      · have i1 : ¬ (i : Int) < ln := by omega
        have FIN := hide (show RBetOk rs fk tk seq N R from .inl ⟨HO.out, xs, HM.out, by have := HLN.out; omega, HI.out, by
          have h2 := HMM.out
          rw [List.take_of_length_le (by rw [List.length_map]; have := HLN.out; omega)] at h2
          rw [← h2, List.take_of_length_le (by rw [List.length_map]; have := HLE.out; omega)]⟩)
        have BB := hide (B0.out.trans (TT.out.below B0.out.size (fun _ x => x.elim)))
        go_wp2_with fail
        go_ret2
        first
          | exact ⟨_, R, rfl, HE.out.le B0.out.size, BB.out, FIN.out⟩
          | exact ⟨_, rfl, R, HE.out.le B0.out.size, BB.out, FIN.out⟩
theorem rSeen_any (a : Option Addr) (n c : Nat) (rs : List Rw) (seq : Nat) (w : World) (h : RowsIn w a rs) (hn : n = rs.length) (hf : Few rs) :
    Calls Try.prog 24 #[.slice a n c, .int .u64 (seq : Nat)] w fun e w' => ∃ v R, e = .returned (.tuple #[v, .int .i64 (ordE (eachOrd rs))]) ∧ ERow w' w.heap.size v R ∧ Below w.heap.size w w' ∧ RBetOk rs [] [] seq 4611686018427387904 R := by
  have BW := hide (rBetween_any a n c rs none none 0 0 0 0 [] [] seq 4611686018427387904 w h hn hf (Bytes.empty _) (Bytes.empty _) (by decide) (by decide))
  clear h hn hf
  generalize ordE (eachOrd rs) = q at *
  go_enter Try.func24, Try.ntmps24
  go_wp2_with fail
  refine BW.out.mono ?_
  rintro e w1 ⟨v, R, rfl, h1, h3, h4⟩
  have X := hide (show ERow w1 w.heap.size v R ∧ Below w.heap.size w w1 ∧ RBetOk rs [] [] seq 4611686018427387904 R from ⟨h1, h3, h4⟩)
  clear h1 h3 h4
  go_wp2_with fail
  go_ret2
  exact ⟨v, R, rfl, X.out⟩
end Go.Proofs.Ytpgligfolecieaa
