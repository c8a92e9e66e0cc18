import Derived.Test.YtpgligfolecieaaM17
/-
  The document's Check, check, two and All.
-/
namespace Go.Proofs.Ytpgligfolecieaa
open Go.RowKit
set_option maxRecDepth 100000
set_option maxHeartbeats 4000000
theorem rCheck_any (a : Option Addr) (n c : Nat) (l : List Tow) (w : World) (h : Ents w a l) (hn : n = l.length) (hmx : n ≤ 1000000) (hkb : ∀ x, x ∈ l → x.e.key.length ≤ 1000000) :
    Calls Try.prog 42 #[.slice a n c] w fun e w' => e = .returned (.int .i64 (ordE (inOrd (ents l)))) ∧ Below w.heap.size w w' := by
  have RR := hide (rrow_any a n c l w h hn hmx hkb)
  clear h hn hkb
  cases ho : inOrd (ents l) with
  | true =>
    rw [ho] at RR
    clear ho
    go_enter Try.func42, Try.ntmps42
    go_wp2_with fail
    refine RR.out.mono ?_
    rintro e w1 ⟨rfl, b1⟩
    go_wp2_with fail
    go_ret
    exact ⟨rfl, b1⟩
  | false =>
    rw [ho] at RR
    clear ho
    go_enter Try.func42, Try.ntmps42
    go_wp2_with fail
    refine RR.out.mono ?_
    rintro e w1 ⟨rfl, b1⟩
    go_wp2_with fail
    go_ret
    exact ⟨rfl, b1⟩
/-- Rows as the document's functions read them. -/
def RowsR (w : World) (a : Option Addr) (rs : List Rw) : Prop := ∀ (k : Nat) (x : Rw), rs[k]? = some x → (∃ b off, a = some ⟨b, off, none⟩ ∧ w.cell? ⟨b, off + k, none⟩ = some (.slice x.a x.R.length x.c)) ∧ Ents w x.a x.R
theorem RowsR.quiet {w w' : World} {a : Option Addr} {rs : List Rw} (h : RowsR w a rs) (t : Turns (fun _ => False) w w') : RowsR w' a rs := fun k x hx => by
  obtain ⟨⟨b, off, e, hc⟩, ho⟩ := h k x hx
  exact ⟨⟨b, off, e, t.cell hc (fun x => x)⟩, ho.quiet t⟩
theorem rcheck_any (a : Option Addr) (n c : Nat) (rs : List Rw) (w : World) (h : RowsR w a rs) (hn : n = rs.length) (hf : Few rs) :
    Calls Try.prog 59 #[.slice a n c] w fun e w' => e = .returned (.int .i64 (ordE (eachOrd rs))) ∧ Below w.heap.size w w' := by
  have H0 := hide h
  have HN := hide hn
  have HF := hide hf
  have hmi : (n : Int) ≤ 20 := by have := hf.rows; omega
  clear h hn hf
  go_enter Try.func59, Try.ntmps59
  go_wp2_with fail
  go_loopw [3] (fun v8 wr => ∃ i : Nat, v8 = .int .i64 (i : Nat) ∧ i ≤ n ∧ (∀ j x, j < i → rs[j]? = some x → inOrd (ents x.R) = true) ∧ Below w.heap.size w wr) (fun v8 _ => n - (intOf v8).toNat)
  case atStart => exact ⟨0, rfl, Nat.zero_le _, fun j x hj => by omega, Below.refl _ _⟩
  case round =>
    obtain ⟨i, rfl, hi, hO, hb⟩ := hrel
    have HO := hide hO
    have BW := hide hb
    have TW := hide (Turns.of_below hb (fun _ => False))
    clear hO hb
    by_cases hin : i < n
    · obtain ⟨x, hx⟩ : ∃ x, rs[i]? = some x := ⟨_, List.getElem?_eq_getElem (by have := HN.out; omega)⟩
      obtain ⟨⟨b, off, rfl, hc⟩, hok⟩ := H0.out i x hx
      have hc1 := TW.out.cell hc (fun x => x)
      have i1 : (i : Int) < n := by omega
      have i0 : (0 : Int) ≤ i := by omega
      have HX := hide hx
      have hfe := HF.out.each x (List.mem_of_getElem? hx)
      have HCK := hide (rCheck_any x.a x.R.length x.c x.R wr (hok.quiet TW.out) rfl (by omega) (fun y hy => by have := hfe.2 y hy; omega))
      clear hx hok hc hfe
      obtain ⟨xa, xc, xR⟩ := x
      simp only at *
      generalize hxl : xR.length = xl at hc1 HCK
      clear hxl
      cases ho : inOrd (ents xR) with
      | true =>
        rw [ho] at HCK
        have HOX := hide ho
        clear ho
        go_wp2_with fail
        refine HCK.out.mono ?_
        rintro e w2 ⟨rfl, hb2⟩
        have B2 := hide (then_below BW.out hb2 (Nat.le_refl _))
        clear hb2
        rw [show ordE true = 0 from rfl]
        go_wp2_with fail
        go_roundw
        case rel => exact ⟨i + 1, by go_num, by omega, fun j x hj hx => by
          by_cases e : j = i
          · subst e
            have := HX.out
            rw [hx] at this
            cases this
            exact HOX.out
          · exact HO.out j x (by omega) hx, B2.out⟩
        case measure => simp [intOf]; omega
      | false =>
        rw [ho] at HCK
        have HOX := hide ho
        clear ho
        go_wp2_with fail
        refine HCK.out.mono ?_
        rintro e w2 ⟨rfl, hb2⟩
        have B2 := hide (then_below BW.out hb2 (Nat.le_refl _))
        clear hb2
        rw [show ordE false = 2 from rfl]
        have FIN := hide (show ordE (eachOrd rs) = 2 by
          have : eachOrd rs = false := by
            refine Bool.eq_false_iff.2 fun q => ?_
            have := List.all_eq_true.1 q _ (List.mem_of_getElem? HX.out)
            rw [HOX.out] at this
            cases this
          rw [this]; rfl)
        go_wp2_with fail
        go_ret
        exact ⟨by rw [FIN.out]; rfl, B2.out⟩
    · obtain rfl : i = n := by omega
      have FIN := hide (show ordE (eachOrd rs) = 0 by
        have : eachOrd rs = true := List.all_eq_true.2 fun x hx => by
          obtain ⟨j, hj⟩ := List.getElem?_of_mem hx
          exact HO.out j x (by have := (List.getElem?_eq_some_iff.1 hj).1; have := HN.out; omega) hj
        rw [this]; rfl)
      go_wp2_with fail
      go_ret
      exact ⟨by rw [FIN.out]; rfl, BW.out⟩
def Fc (u : World) (b o : Nat) (x : Tow) : Prop := u.cell? ⟨b, o, none⟩ = some (.slice x.ka x.e.key.length x.kc) ∧ u.cell? ⟨b, o + 1, none⟩ = some (.int .u64 (x.e.seq : Nat)) ∧ u.cell? ⟨b, o + 2, none⟩ = some (.int .i64 x.e.kind) ∧ u.cell? ⟨b, o + 3, none⟩ = some (.slice x.va x.e.val.length x.vc)
def F37 (u : World) (b o : Nat) (x : Tow) (b' o' : Nat) (y : Tow) : Prop := Fc u b o x ∧ Fc u b' o' y
theorem fc_of {w : World} {a : Option Addr} {l : List Tow} (h : Ents w a l) {i : Nat} {x : Tow} (hx : l[i]? = some x) : ∃ b off, a = some ⟨b, off, none⟩ ∧ Fc w b (off + i * 4) x ∧ Bytes w (.slice x.ka x.e.key.length x.kc) x.e.key := by
  obtain ⟨⟨b, off, e, hc⟩, h1, _⟩ := h i x hx
  exact ⟨b, off, e, ⟨hc 0 _ rfl, hc 1 _ rfl, hc 2 _ rfl, hc 3 _ rfl⟩, h1⟩
theorem Fc.quiet {w w' : World} {b o : Nat} {x : Tow} (h : Fc w b o x) (t : Turns (fun _ => False) w w') : Fc w' b o x := ⟨t.cell h.1 (fun x => x), t.cell h.2.1 (fun x => x), t.cell h.2.2.1 (fun x => x), t.cell h.2.2.2 (fun x => x)⟩
theorem drop_at {l : List Tow} {i : Nat} {x : Tow} (h : l[i]? = some x) : l.drop i = x :: l.drop (i + 1) := by
  obtain ⟨h1, rfl⟩ := List.getElem?_eq_some_iff.1 h
  exact List.drop_eq_getElem_cons h1
theorem mg2_lt {a b : Tow} (r t : List Tow) (h : cmpE a.e.en b.e.en < 0) : mg2 (a :: r) (b :: t) = a :: mg2 r (b :: t) := by rw [mg2.eq_def]; simp only [h, if_true]
theorem mg2_eq {a b : Tow} (r t : List Tow) (h : cmpE a.e.en b.e.en = 0) : mg2 (a :: r) (b :: t) = a :: mg2 r t := by rw [mg2.eq_def]; simp only [h, if_true]; rw [if_neg (by omega)]
theorem mg2_gt {a b : Tow} (r t : List Tow) (h : 0 < cmpE a.e.en b.e.en) : mg2 (a :: r) (b :: t) = b :: mg2 (a :: r) t := by rw [mg2.eq_def]; simp only; rw [if_neg (by omega), if_neg (by omega)]
theorem two_any (aa ba : Option Addr) (n ac m bc : Nat) (A B : List Tow) (w : World) (ha : Ents w aa A) (hb : Ents w ba B) (hn : n = A.length) (hm : m = B.length) (hnm : n + m ≤ 100000) (hka : ∀ x, x ∈ A → x.e.key.length ≤ 1000000) (hkb : ∀ x, x ∈ B → x.e.key.length ≤ 1000000) :
    Calls Try.prog 60 #[.slice aa n ac, .slice ba m bc] w fun e w' => ∃ v R, e = .returned v ∧ ERow w' w.heap.size v R ∧ R = mg2 A B ∧ Below w.heap.size w w' := by
  have HA := hide ha
  have HB := hide hb
  have HN := hide hn
  have HMm := hide hm
  have HKA := hide hka
  have HKB := hide hkb
  have hni : (n : Int) ≤ 100000 := by omega
  have hmi : (m : Int) ≤ 100000 := by omega
  clear ha hb hn hm hka hkb
  go_enter Try.func60, Try.ntmps60
  go_wp2_with fail
  go_loopw [5, 6, 7] (fun ov iv kv wr => ∃ (i k : Nat) (R : List Tow), iv = .int .i64 (i : Nat) ∧ kv = .int .i64 (k : Nat) ∧ i ≤ n ∧ k ≤ m ∧ ERow wr w.heap.size ov R ∧ R ++ mg2 (A.drop i) (B.drop k) = mg2 A B ∧ R.length ≤ i + k ∧ Below w.heap.size w wr) (fun _ iv kv _ => (n - (intOf iv).toNat) + (m - (intOf kv).toNat))
  case atStart => exact ⟨0, 0, [], rfl, rfl, Nat.zero_le _, Nat.zero_le _, .inl ⟨rfl, rfl⟩, rfl, Nat.zero_le _, Below.refl _ _⟩
  case round =>
    obtain ⟨i, k, R, rfl, rfl, hi, hk, hR, hM, hlr, hbw⟩ := hrel
    obtain ⟨oa, oc, rfl⟩ := hR.len
    generalize hrl : R.length = rl at hR
    have HLR := hide (show R.length ≤ 100000 by omega)
    have HLR2 := hide hlr
    have HM := hide hM
    have TW := hide (Turns.of_below hbw (fun _ => False))
    have HR0 := hide hR
    have HB0 := hide hbw
    clear hR hM hlr hbw hrl
    by_cases hin : i < n
    · obtain ⟨xa, hxa⟩ : ∃ x, A[i]? = some x := ⟨_, List.getElem?_eq_getElem (by have := HN.out; omega)⟩
      obtain ⟨ab, ao, rfl, hfa, hya⟩ := fc_of (HA.out.quiet TW.out) hxa
      have HDA := hide (drop_at hxa)
      have hkxa := HKA.out xa (List.mem_of_getElem? hxa)
      have i1 : (i : Int) < n := by omega
      have i0 : (0 : Int) ≤ i := by omega
      have i2 : ¬ (i : Int) = n := by omega
      by_cases hkm : k < m
      · obtain ⟨xb, hxb⟩ : ∃ x, B[k]? = some x := ⟨_, List.getElem?_eq_getElem (by have := HMm.out; omega)⟩
        obtain ⟨bb, bo, rfl, hfb, hyb⟩ := fc_of (HB.out.quiet TW.out) hxb
        have HDB := hide (drop_at hxb)
        have hkxb := HKB.out xb (List.mem_of_getElem? hxb)
        have k1 : (k : Int) < m := by omega
        have k0 : (0 : Int) ≤ k := by omega
        have k2 : ¬ (k : Int) = m := by omega
        have CP := hide (fun (u : World) (t : Turns (fun _ => False) wr u) => rcompare_any xa.ka xb.ka xa.va xb.va xa.e.key.length xa.kc xa.e.val.length xa.vc xb.e.key.length xb.kc xb.e.val.length xb.vc xa.e.kind xb.e.kind xa.e.seq xb.e.seq xa.e.key xb.e.key u (hya.quiet t) (hyb.quiet t) (by omega) (by omega))
        have SK := hide (fun (u : World) (t : Turns (fun _ => False) wr u) => show F37 u ab (ao + i * 4) xa bb (bo + k * 4) xb from ⟨hfa.quiet t, hfb.quiet t⟩)
        generalize hcv : cmpE (xa.e.key, xa.e.seq) (xb.e.key, xb.e.seq) = cv at CP
        have HCV := hide (show cmpE xa.e.en xb.e.en = cv from hcv)
        have FA := hide hfa
        have FB := hide hfb
        clear hxa hxb hya hyb hkxa hkxb hcv hfa hfb
        go_upto_region 5 with (fail)
        have tV : Turns (fun _ => False) wr wr.drew := (Turns.refl _ _).drew
        refine wp_region_held_drew (S := fun u => F37 u ab (ao + i * 4) xa bb (bo + k * 4) xb) (by kernel_rfl) (SK.out _ tV) (fun _ => ?_)
        change wpAnyH _ _ _ _ _ 10 (Array.replicate 10 false) _ _
        refine wpAnyH_take (i := 0) (oi := { dst := some 19, op := Op.move (Operand.tmp 0), type := 31, pos := "ref.go:40", after := #[], guard := none }) (v := .slice (some ⟨ab, ao, none⟩) n ac) rfl (by kernel_rfl) (by kernel_rfl) (by kernel_rfl) (fun _ _ _ h => h) (Or.inl ⟨by rfl, ?_⟩) (SK.out _ tV) ?_
        · rintro w ⟨⟨x0, x1, x2, x3⟩, y0, y1, y2, y3⟩
          go_simp
        simp only [Act.put, List.setIfInBounds_toArray, List.set_cons_zero, List.set_cons_succ]
        refine wpAnyH_take (i := 1) (oi := { dst := some 20, op := Op.move (Operand.tmp 6), type := 3, pos := "ref.go:40", after := #[], guard := none }) (v := .int .i64 (i : Nat)) rfl (by kernel_rfl) (by kernel_rfl) (by kernel_rfl) (fun _ _ _ h => h) (Or.inl ⟨by rfl, ?_⟩) (SK.out _ tV) ?_
        · rintro w ⟨⟨x0, x1, x2, x3⟩, y0, y1, y2, y3⟩
          go_simp
        simp only [Act.put, List.setIfInBounds_toArray, List.set_cons_zero, List.set_cons_succ]
        refine wpAnyH_take (i := 2) (oi := { dst := some 21, op := Op.indexAddr 31 (Operand.tmp 19) (Operand.tmp 20), type := 0, pos := "ref.go:40", after := #[{ on := 0, ground := Ground.data }, { on := 1, ground := Ground.data }], guard := none }) (v := .pointer (some ⟨ab, ao + i * 4, none⟩)) rfl (by kernel_rfl) (by kernel_rfl) (by kernel_rfl) (fun _ _ _ h => h) (Or.inl ⟨by rfl, ?_⟩) (SK.out _ tV) ?_
        · rintro w ⟨⟨x0, x1, x2, x3⟩, y0, y1, y2, y3⟩
          go_simp
        simp only [Act.put, List.setIfInBounds_toArray, List.set_cons_zero, List.set_cons_succ]
        refine wpAnyH_take (i := 3) (oi := { dst := some 22, op := Op.load 29 (Operand.tmp 21), type := 29, pos := "ref.go:40", after := #[{ on := 2, ground := Ground.data }], guard := none }) (v := .agg #[.slice xa.ka xa.e.key.length xa.kc, .int .u64 (xa.e.seq : Nat), .int .i64 xa.e.kind, .slice xa.va xa.e.val.length xa.vc]) rfl (by kernel_rfl) (by kernel_rfl) (by kernel_rfl) (fun _ _ _ h => h) (Or.inl ⟨by rfl, ?_⟩) (SK.out _ tV) ?_
        · rintro w ⟨⟨x0, x1, x2, x3⟩, y0, y1, y2, y3⟩
          go_simp
        simp only [Act.put, List.setIfInBounds_toArray, List.set_cons_zero, List.set_cons_succ]
        refine wpAnyH_take (i := 4) (oi := { dst := some 23, op := Op.move (Operand.tmp 1), type := 31, pos := "ref.go:40", after := #[], guard := none }) (v := .slice (some ⟨bb, bo, none⟩) m bc) rfl (by kernel_rfl) (by kernel_rfl) (by kernel_rfl) (fun _ _ _ h => h) (Or.inl ⟨by rfl, ?_⟩) (SK.out _ tV) ?_
        · rintro w ⟨⟨x0, x1, x2, x3⟩, y0, y1, y2, y3⟩
          go_simp
        simp only [Act.put, List.setIfInBounds_toArray, List.set_cons_zero, List.set_cons_succ]
        refine wpAnyH_take (i := 5) (oi := { dst := some 24, op := Op.move (Operand.tmp 7), type := 3, pos := "ref.go:40", after := #[], guard := none }) (v := .int .i64 (k : Nat)) rfl (by kernel_rfl) (by kernel_rfl) (by kernel_rfl) (fun _ _ _ h => h) (Or.inl ⟨by rfl, ?_⟩) (SK.out _ tV) ?_
        · rintro w ⟨⟨x0, x1, x2, x3⟩, y0, y1, y2, y3⟩
          go_simp
        simp only [Act.put, List.setIfInBounds_toArray, List.set_cons_zero, List.set_cons_succ]
        refine wpAnyH_take (i := 6) (oi := { dst := some 25, op := Op.indexAddr 31 (Operand.tmp 23) (Operand.tmp 24), type := 0, pos := "ref.go:40", after := #[{ on := 4, ground := Ground.data }, { on := 5, ground := Ground.data }], guard := none }) (v := .pointer (some ⟨bb, bo + k * 4, none⟩)) rfl (by kernel_rfl) (by kernel_rfl) (by kernel_rfl) (fun _ _ _ h => h) (Or.inl ⟨by rfl, ?_⟩) (SK.out _ tV) ?_
        · rintro w ⟨⟨x0, x1, x2, x3⟩, y0, y1, y2, y3⟩
          go_simp
        simp only [Act.put, List.setIfInBounds_toArray, List.set_cons_zero, List.set_cons_succ]
        refine wpAnyH_take (i := 7) (oi := { dst := some 26, op := Op.load 29 (Operand.tmp 25), type := 29, pos := "ref.go:40", after := #[{ on := 6, ground := Ground.data }], guard := none }) (v := .agg #[.slice xb.ka xb.e.key.length xb.kc, .int .u64 (xb.e.seq : Nat), .int .i64 xb.e.kind, .slice xb.va xb.e.val.length xb.vc]) rfl (by kernel_rfl) (by kernel_rfl) (by kernel_rfl) (fun _ _ _ h => h) (Or.inl ⟨by rfl, ?_⟩) (SK.out _ tV) ?_
        · rintro w ⟨⟨x0, x1, x2, x3⟩, y0, y1, y2, y3⟩
          go_simp
        simp only [Act.put, List.setIfInBounds_toArray, List.set_cons_zero, List.set_cons_succ]
        refine wpAnyH_ready (rs := [8]) (by kernel_rfl) (by simp) ?_
        refine AllReadyH.cons rfl (fun K hK => ?_) AllReadyH.nil
        go_simp
        refine (CP.out _ tV).mono ?_
        rintro oo Vn ⟨rfl, b2⟩
        have tN := Turns.of_below b2 (fun _ => False)
        have tV := tV.trans tN
        clear b2 CP
        clear tN
        go_simp
        refine hK.out _ _ (SK.out _ tV) (fun _ => ?_)
        clear hK K
        refine wpAnyH_take (i := 9) (oi := { dst := some 8, op := Op.assign (Operand.tmp 27), type := 3, pos := "ref.go:40", after := #[{ on := 8, ground := Ground.data }, { on := 8, ground := Ground.chain }, { on := 0, ground := Ground.phase }, { on := 1, ground := Ground.phase }, { on := 2, ground := Ground.phase }, { on := 3, ground := Ground.phase }, { on := 4, ground := Ground.phase }, { on := 5, ground := Ground.phase }, { on := 6, ground := Ground.phase }, { on := 7, ground := Ground.phase }, { on := 8, ground := Ground.phase }], guard := none }) (v := .int .i64 cv) rfl (by kernel_rfl) (by kernel_rfl) (by kernel_rfl) (fun _ _ _ h => h) (Or.inl ⟨by rfl, ?_⟩) (SK.out _ tV) ?_
        · rintro w ⟨⟨x0, x1, x2, x3⟩, y0, y1, y2, y3⟩
          go_simp
        simp only [Act.put, List.setIfInBounds_toArray, List.set_cons_zero, List.set_cons_succ]
        refine wpAnyH_done (by kernel_rfl) ?_ _
        obtain ⟨x0, x1, x2, x3⟩ := FA.out.quiet tV
        obtain ⟨y0, y1, y2, y3⟩ := FB.out.quiet tV
        have HRW := hide (HR0.out.keep tV (fun _ _ x => x))
        have HBW := hide (HB0.out.trans (tV.below HB0.out.size (fun _ x => x.elim)))
        have HSW := hide (show w.heap.size ≤ Vn.heap.size from Nat.le_trans HB0.out.size tV.size)
        clear tV SK FA FB
        by_cases c1 : cv < 0
        · have c2 : cv ≤ 0 := by omega
          have c3 : ¬ 0 ≤ cv := by omega
          obtain ⟨g', n', c', w3, hr3, hrow3, t3, b3, _⟩ := append_ent (Vn.alloc (.cells #[.slice xa.ka xa.e.key.length xa.kc, .int .u64 (xa.e.seq : Nat), .int .i64 xa.e.kind, .slice xa.va xa.e.val.length xa.vc] 29)) w.heap.size (.slice oa rl oc) R (HRW.out.keep ((Turns.refl (fun _ => False) Vn).alloc _) (fun _ _ x => x)) (by have := HSW.out; simp; omega) (by have := HLR.out; omega) xa Vn.heap.size 1 (heap_alloc_new Vn _)
          have hq := hr3 31
          have HR3 := hide hrow3
          have B3 := hide (HBW.out.trans (((Below.refl w.heap.size Vn).alloc HSW.out _).trans b3))
          clear hr3 hrow3 t3 b3
          go_wp2_with (at_builtin; refine wpList_append_run rfl _ _ 31 rfl (.slice oa rl oc) (.slice (some ⟨Vn.heap.size, 0, none⟩) 1 1) rfl rfl _ _ hq ?_)
          go_roundw
          case rel => exact ⟨i + 1, k, R ++ [xa], by go_num, rfl, by omega, by omega, HR3.out, by rw [← HM.out]; rw [HDA.out, HDB.out, mg2_lt _ _ (by rw [HCV.out]; exact c1), List.append_assoc]; rfl, by rw [List.length_append]; have := HLR2.out; simp; omega, B3.out⟩
          case measure => simp [intOf]; omega
        · by_cases c4 : cv = 0
          · subst c4
            obtain ⟨g', n', c', w3, hr3, hrow3, t3, b3, _⟩ := append_ent (Vn.alloc (.cells #[.slice xa.ka xa.e.key.length xa.kc, .int .u64 (xa.e.seq : Nat), .int .i64 xa.e.kind, .slice xa.va xa.e.val.length xa.vc] 29)) w.heap.size (.slice oa rl oc) R (HRW.out.keep ((Turns.refl (fun _ => False) Vn).alloc _) (fun _ _ x => x)) (by have := HSW.out; simp; omega) (by have := HLR.out; omega) xa Vn.heap.size 1 (heap_alloc_new Vn _)
            have hq := hr3 31
            have HR3 := hide hrow3
            have B3 := hide (HBW.out.trans (((Below.refl w.heap.size Vn).alloc HSW.out _).trans b3))
            clear hr3 hrow3 t3 b3
            go_wp2_with (at_builtin; refine wpList_append_run rfl _ _ 31 rfl (.slice oa rl oc) (.slice (some ⟨Vn.heap.size, 0, none⟩) 1 1) rfl rfl _ _ hq ?_)
            go_roundw
            case rel => exact ⟨i + 1, k + 1, R ++ [xa], by go_num, by go_num, by omega, by omega, HR3.out, by rw [← HM.out]; rw [HDA.out, HDB.out, mg2_eq _ _ HCV.out, List.append_assoc]; rfl, by rw [List.length_append]; have := HLR2.out; simp; omega, B3.out⟩
            case measure => simp [intOf]; omega
          · have c2 : ¬ cv ≤ 0 := by omega
            have c3 : 0 ≤ cv := by omega
            obtain ⟨g', n', c', w3, hr3, hrow3, t3, b3, _⟩ := append_ent (Vn.alloc (.cells #[.slice xb.ka xb.e.key.length xb.kc, .int .u64 (xb.e.seq : Nat), .int .i64 xb.e.kind, .slice xb.va xb.e.val.length xb.vc] 29)) w.heap.size (.slice oa rl oc) R (HRW.out.keep ((Turns.refl (fun _ => False) Vn).alloc _) (fun _ _ x => x)) (by have := HSW.out; simp; omega) (by have := HLR.out; omega) xb Vn.heap.size 1 (heap_alloc_new Vn _)
            have hq := hr3 31
            have HR3 := hide hrow3
            have B3 := hide (HBW.out.trans (((Below.refl w.heap.size Vn).alloc HSW.out _).trans b3))
            clear hr3 hrow3 t3 b3
            go_wp2_with (at_builtin; refine wpList_append_run rfl _ _ 31 rfl (.slice oa rl oc) (.slice (some ⟨Vn.heap.size, 0, none⟩) 1 1) rfl rfl _ _ hq ?_)
            go_roundw
            case rel => exact ⟨i, k + 1, R ++ [xb], rfl, by go_num, by omega, by omega, HR3.out, by rw [← HM.out]; rw [HDA.out, HDB.out, mg2_gt _ _ (by rw [HCV.out]; omega), List.append_assoc]; rfl, by rw [List.length_append]; have := HLR2.out; simp; omega, B3.out⟩
            case measure => simp [intOf]; omega
      · have k2 : ¬ (k : Int) < m := by omega
        obtain rfl : k = m := by omega
        have HDB := hide (show B.drop k = [] from List.drop_eq_nil_of_le (by have := HMm.out; omega))
        obtain ⟨x0, x1, x2, x3⟩ := hfa
        have HRW := HR0
        have HBW := HB0
        have HSW := hide HB0.out.size
        clear hxa hya hkxa
        obtain ⟨g', n', c', w3, hr3, hrow3, t3, b3, _⟩ := append_ent (wr.alloc (.cells #[.slice xa.ka xa.e.key.length xa.kc, .int .u64 (xa.e.seq : Nat), .int .i64 xa.e.kind, .slice xa.va xa.e.val.length xa.vc] 29)) w.heap.size (.slice oa rl oc) R (HRW.out.keep ((Turns.refl (fun _ => False) wr).alloc _) (fun _ _ x => x)) (by have := HSW.out; simp; omega) (by have := HLR.out; omega) xa wr.heap.size 1 (heap_alloc_new wr _)
        have hq := hr3 31
        have HR3 := hide hrow3
        have B3 := hide (HBW.out.trans (((Below.refl w.heap.size wr).alloc HSW.out _).trans b3))
        clear hr3 hrow3 t3 b3
        go_wp2_with (at_builtin; refine wpList_append_run rfl _ _ 31 rfl (.slice oa rl oc) (.slice (some ⟨wr.heap.size, 0, none⟩) 1 1) rfl rfl _ _ hq ?_)
        go_roundw
        case rel => exact ⟨i + 1, k, R ++ [xa], by go_num, rfl, by omega, by omega, HR3.out, by rw [← HM.out]; rw [HDB.out, mg2_nil_right, mg2_nil_right, HDA.out, List.append_assoc]; rfl, by rw [List.length_append]; have := HLR2.out; simp; omega, B3.out⟩
        case measure => simp [intOf]; omega
    · have i1 : ¬ (i : Int) < n := by omega
      obtain rfl : i = n := by omega
      have HDA := hide (show A.drop i = [] from List.drop_eq_nil_of_le (by have := HN.out; omega))
      by_cases hkm : k < m
      · obtain ⟨xb, hxb⟩ : ∃ x, B[k]? = some x := ⟨_, List.getElem?_eq_getElem (by have := HMm.out; omega)⟩
        obtain ⟨bb, bo, rfl, hfb, hyb⟩ := fc_of (HB.out.quiet TW.out) hxb
        have HDB := hide (drop_at hxb)
        have k1 : (k : Int) < m := by omega
        have k0 : (0 : Int) ≤ k := by omega
        obtain ⟨y0, y1, y2, y3⟩ := hfb
        have HRW := HR0
        have HBW := HB0
        have HSW := hide HB0.out.size
        clear hxb hyb
        obtain ⟨g', n', c', w3, hr3, hrow3, t3, b3, _⟩ := append_ent (wr.alloc (.cells #[.slice xb.ka xb.e.key.length xb.kc, .int .u64 (xb.e.seq : Nat), .int .i64 xb.e.kind, .slice xb.va xb.e.val.length xb.vc] 29)) w.heap.size (.slice oa rl oc) R (HRW.out.keep ((Turns.refl (fun _ => False) wr).alloc _) (fun _ _ x => x)) (by have := HSW.out; simp; omega) (by have := HLR.out; omega) xb wr.heap.size 1 (heap_alloc_new wr _)
        have hq := hr3 31
        have HR3 := hide hrow3
        have B3 := hide (HBW.out.trans (((Below.refl w.heap.size wr).alloc HSW.out _).trans b3))
        clear hr3 hrow3 t3 b3
        go_wp2_with (at_builtin; refine wpList_append_run rfl _ _ 31 rfl (.slice oa rl oc) (.slice (some ⟨wr.heap.size, 0, none⟩) 1 1) rfl rfl _ _ hq ?_)
        go_roundw
        case rel => exact ⟨i, k + 1, R ++ [xb], rfl, by go_num, by omega, by omega, HR3.out, by rw [← HM.out]; rw [HDA.out, HDB.out, List.append_assoc]; simp [mg2], by rw [List.length_append]; have := HLR2.out; simp; omega, B3.out⟩
        case measure => simp [intOf]; omega
      · have k1 : ¬ (k : Int) < m := by omega
        obtain rfl : k = m := by omega
        have HDB := hide (show B.drop k = [] from List.drop_eq_nil_of_le (by have := HMm.out; omega))
        have X := hide (show R = mg2 A B by have := HM.out; rw [HDA.out, HDB.out] at this; simpa [mg2] using this)
        go_wp2_with fail
        go_ret
        exact ⟨_, rfl, R, HR0.out, X.out, HB0.out⟩
end Go.Proofs.Ytpgligfolecieaa

/-
  The document's All.
-/
namespace Go.Proofs.Ytpgligfolecieaa
open Go.RowKit
set_option maxRecDepth 100000
set_option maxHeartbeats 4000000
/-- Entries in a row of one's own whose bytes lie somewhere. -/
theorem ents_row {w : World} {B : Nat} {v : Value} {R : List Tow} (h : ERow w B v R) (hs : ∀ x, x ∈ R → Bytes w x.kv x.e.key ∧ Bytes w x.vv x.e.val) : ∃ a c, v = .slice a R.length c ∧ Ents w a R ∧ R.length ≤ c ∧ (a = none → c = 0) := by
  by_cases hne : R = []
  · subst hne
    rcases h with ⟨_, rfl⟩ | ⟨g, c, n, rfl, rfl, h3, _⟩
    · exact ⟨none, 0, rfl, fun k x hx => by simp at hx, by simp, fun _ => rfl⟩
    · exact ⟨_, _, rfl, fun k x hx => by simp at hx, h3, fun e => by cases e⟩
  · obtain ⟨g, c, rfl, hc⟩ := h.at hne
    have hcap : R.length ≤ c := by
      rcases h with ⟨e, _⟩ | ⟨g', c', n', e, rfl, h3, _⟩
      · exact absurd e hne
      · cases e; exact h3
    refine ⟨_, c, rfl, fun k x hx => ⟨⟨g, 0, rfl, fun j u hu => ?_⟩, (hs x (List.mem_of_getElem? hx)).1, (hs x (List.mem_of_getElem? hx)).2⟩, hcap, fun e => by cases e⟩
    obtain ⟨c0, c1, c2, c3⟩ := hc k x hx
    rw [Nat.zero_add]
    match j, hu with
    | 0, hu => obtain rfl : x.kv = u := by simpa using hu
               exact c0
    | 1, hu => obtain rfl : Value.int .u64 (x.e.seq : Nat) = u := by simpa using hu
               exact c1
    | 2, hu => obtain rfl : Value.int .i64 x.e.kind = u := by simpa using hu
               exact c2
    | 3, hu => obtain rfl : x.vv = u := by simpa using hu
               exact c3
    | j + 4, hu => simp at hu
theorem mg2_length (A B : List Tow) : (mg2 A B).length ≤ A.length + B.length := by
  fun_induction mg2 A B with
  | case1 bs => simp
  | case2 a r => simp
  | case3 a r b t h ih => simp only [List.length_cons] at *; omega
  | case4 a r b t h1 h2 ih => simp only [List.length_cons] at *; omega
  | case5 a r b t h1 h2 ih => simp only [List.length_cons] at *; omega
theorem mg_from {rs : List Rw} {xs : List Tow} (h : Mg (hds rs) xs) {x : Tow} (hx : x ∈ xs) : x ∈ allOf rs := by
  obtain ⟨g, g1, g2, _⟩ := h.of x hx
  obtain ⟨i, r, h1, h2, _⟩ := hds_is g1
  exact List.mem_flatMap.2 ⟨r, List.mem_of_getElem? h1, by rw [← h2]; exact g2⟩
theorem allOf_take {rs : List Rw} {i : Nat} {x : Tow} (h : x ∈ allOf (rs.take i)) : x ∈ allOf rs := by
  obtain ⟨r, h1, h2⟩ := List.mem_flatMap.1 h
  exact List.mem_flatMap.2 ⟨r, List.mem_of_mem_take h1, h2⟩
/-- One row more among those that are merged. -/
theorem mg_next {w : World} {rs : List Rw} {i : Nat} {x : Rw} {R : List Tow} (hx : rs[i]? = some x) (hok : RwOk w x) (hu : x.R.Pairwise ltT) (h : Mg (hds (rs.take i)) R) : Mg (hds (rs.take (i + 1))) (mg2 R x.R) := by
  rw [hds_take hx]
  by_cases hne : x.R = []
  · rw [hne, mg2_nil_right, hdOf_none (i := i) hne]
    simpa using h
  · obtain ⟨b, off, _, e⟩ := hdOf_some (i := i) hok hne
    rw [e]
    refine h.more hu fun h' hh' => ?_
    obtain ⟨j, y, hj, _, hno⟩ := hds_is hh'
    have := (List.getElem?_eq_some_iff.1 hj).1
    rw [List.length_take] at this
    show h'.no < i
    omega
/-- What the document's All answers. -/
def RAllOk (rs : List Rw) (R : List Tow) : Prop := (eachOrd rs = true ∧ Mg (hds rs) R ∧ R.length ≤ sumR rs) ∨ (eachOrd rs = false ∧ R = [])
theorem refAll_any (a : Option Addr) (n c : Nat) (rs : List Rw) (w : World) (h : RowsIn w a rs) (hn : n = rs.length) (hf : Few rs) :
    Calls Try.prog 39 #[.slice a n c] w fun e w' => ∃ v R, e = .returned (.tuple #[v, .int .i64 (ordE (eachOrd rs))]) ∧ ERow w' w.heap.size v R ∧ Below w.heap.size w w' ∧ RAllOk rs R := by
  have HC := hide (rcheck_any a n c rs w (fun k x hx => ⟨(h k x hx).1, (h k x hx).2.ents⟩) hn hf)
  have H0 := hide h
  have HN := hide hn
  have HF := hide hf
  have hmi : (n : Int) ≤ 20 := by have := hf.rows; omega
  clear h hn hf
  cases ho : eachOrd rs with
  | false =>
    rw [ho] at HC
    have HO := hide ho
    clear ho
    go_enter Try.func39, Try.ntmps39
    go_wp2_with fail
    refine HC.out.mono ?_
    rintro e w1 ⟨rfl, hb⟩
    rw [show ordE false = 2 from rfl]
    go_wp2_with fail
    go_ret2
    first
      | exact ⟨_, [], rfl, .inl ⟨rfl, rfl⟩, hb, .inr ⟨HO.out, rfl⟩⟩
      | exact ⟨_, rfl, [], .inl ⟨rfl, rfl⟩, hb, .inr ⟨HO.out, rfl⟩⟩
  | true =>
    rw [ho] at HC
    have HO := hide ho
    clear ho
    go_enter Try.func39, Try.ntmps39
    go_wp2_with fail
    refine HC.out.mono ?_
    rintro e w1 ⟨rfl, hb⟩
    rw [show ordE true = 0 from rfl]
    have B1 := hide hb
    clear hb
    go_wp2_with fail
    go_loopw [5, 6] (fun ov iv wr => ∃ (i : Nat) (R : List Tow), iv = .int .i64 (i : Nat) ∧ i ≤ n ∧ ERow wr w.heap.size ov R ∧ Mg (hds (rs.take i)) R ∧ R.length ≤ sumR (rs.take i) ∧ Below w.heap.size w wr) (fun _ iv _ => n - (intOf iv).toNat)
    case atStart => exact ⟨0, [], rfl, Nat.zero_le _, .inl ⟨rfl, rfl⟩, Mg.nil, Nat.zero_le _, B1.out⟩
    case round =>
      obtain ⟨i, R, rfl, hi, hE, hM, hl, hb⟩ := hrel
      have TW := hide (Turns.of_below hb (fun _ => False))
      have hrb : ∀ x, x ∈ R → Bytes wr x.kv x.e.key ∧ Bytes wr x.vv x.e.val := fun x hx => by
        have := all_bytes (H0.out.quiet TW.out) (allOf_take (mg_from hM hx))
        exact this
      have HM := hide hM
      have BW := hide hb
      have HL := hide hl
      have HE := hide hE
      obtain ⟨oa, oc, rfl, hen, _, _⟩ := ents_row hE hrb
      have HEN := hide hen
      have hsz := hb.size
      have HRS := hide (show ∀ x, x ∈ R → x.e.key.length ≤ 1000000 from fun x hx => by
        obtain ⟨r, hr, hxr⟩ := List.mem_flatMap.1 (allOf_take (mg_from hM hx))
        have := (HF.out.each r hr).2 x hxr
        omega)
      clear hE hM hl hb hrb hen
      by_cases hin : i < n
      · obtain ⟨x, hx⟩ : ∃ x, rs[i]? = some x := ⟨_, List.getElem?_eq_getElem (by have := HN.out; omega)⟩
        obtain ⟨⟨b, off, rfl, hc⟩, hok⟩ := H0.out i x hx
        have hc1 := TW.out.cell hc (fun x => x)
        have i1 : (i : Int) < n := by omega
        have i0 : (0 : Int) ≤ i := by omega
        have hfe := HF.out.each x (List.mem_of_getElem? hx)
        have hsum : sumR (rs.take (i + 1)) = sumR (rs.take i) + x.R.length := by rw [List.take_add_one, hx]; exact sumR_snoc _ _
        have hsum2 : sumR (rs.take (i + 1)) ≤ sumR rs := by
          have e : sumR rs = sumR (rs.take (i + 1)) + sumR (rs.drop (i + 1)) := by
            unfold sumR
            rw [List.map_take, List.map_drop, ← List.sum_append, List.take_append_drop]
          omega
        have hall := HF.out.all
        have TWO := hide (two_any oa x.a R.length oc x.R.length x.c R x.R wr HEN.out (hok.ents.quiet TW.out) rfl rfl (by have := HL.out; omega) HRS.out (fun y hy => by have := hfe.2 y hy; omega))
        have NX := hide (mg_next hx hok (ord_up HO.out i x hx) HM.out)
        have NL := hide (show (mg2 R x.R).length ≤ sumR (rs.take (i + 1)) by have := mg2_length R x.R; have := HL.out; omega)
        clear hc hx hok hfe hsum hsum2 hall
        obtain ⟨xa, xc, xR⟩ := x
        simp only at *
        generalize hxl : xR.length = xl at hc1 TWO
        clear hxl
        generalize hrl : R.length = rl at TWO
        clear hrl
        go_wp2_with fail
        refine TWO.out.mono ?_
        rintro e w2 ⟨v2, R2, rfl, hE2, rfl, b2⟩
        have E2 := hide (hE2.le hsz)
        have B2 := hide (then_below BW.out b2 (Nat.le_refl _))
        clear hE2 b2
        go_wp2_with fail
        go_roundw
        case rel => exact ⟨i + 1, _, by go_num, by omega, E2.out, NX.out, NL.out, B2.out⟩
        case measure => simp [intOf]; omega
      · have i1 : ¬ (i : Int) < n := by omega
        obtain rfl : i = n := by omega
        have X := hide (show Mg (hds rs) R ∧ R.length ≤ sumR rs by have h1 := HM.out; have h2 := HL.out; rw [HN.out, List.take_length] at h1 h2; exact ⟨h1, h2⟩)
        go_wp2_with fail
        go_ret2
        first
          | exact ⟨_, R, rfl, HE.out, BW.out, .inl ⟨HO.out, X.out⟩⟩
          | exact ⟨_, rfl, R, HE.out, BW.out, .inl ⟨HO.out, X.out⟩⟩
end Go.Proofs.Ytpgligfolecieaa

/-
  Rows that came in.
-/
namespace Go.Proofs.Ytpgligfolecieaa
open Go.RowKit
set_option maxRecDepth 100000
theorem open_entsC {H : Type} {enc : TypeId × Value → H} {W : World} {fuel : Nat} {v : Value} {x : DataW H × List MemPlace} (h : DataW.trod enc Try.prog W 0 (fun _ => true) true fuel 31 [v] = some x) (hw : ∀ q ∈ x.1.weights Try.prog 31, q ≤ reachBytes) :
    ∃ (a : Option Addr) (m c : Nat) (l : List Tow), v = .slice a m c ∧ m = l.length ∧ Ents W a l ∧ m ≤ reachBytes ∧ (∀ f ∈ l, Fit f) ∧ m ≤ c ∧ (a = none → c = 0) := by
  rcases Go.Deep.open_slice Try.underlying31 h with ⟨hv, _⟩ | ⟨a, len, cap, m, n, D, Pl, hv, _, hlc, hcap, hm, hx, hcells⟩
  · obtain rfl : v = .slice none 0 0 := by simpa using hv
    exact ⟨none, 0, 0, [], rfl, rfl, fun k f hf => by simp at hf, by decide, fun f hf => (by simp at hf), Nat.le_refl _, fun _ => rfl⟩
  · obtain rfl : v = .slice (some a) len cap := by simpa using hv
    have hm' : m = cap := by simpa using hm
    subst hm'
    subst hx
    have hcw : len ≤ reachBytes := by
      have hw1 := hw _ (by simp only [DataW.weights, Try.underlying31]; exact List.mem_cons_self ..)
      simp only [List.length_map, List.length_range, bytesOf29] at hw1
      omega
    have each : ∀ i, i < len → ∃ f : Tow, (∀ j u, [f.kv, .int .u64 (f.e.seq : Nat), .int .i64 f.e.kind, f.vv][j]? = some u → W.cell? (a.add (i * 4 + j)) = some u) ∧ (Bytes W f.kv f.e.key ∧ Bytes W f.vv f.e.val) ∧ Fit f := by
      intro i hi
      obtain ⟨cs', h1, h2⟩ := hcells i (by omega)
      rw [cells29] at h1
      obtain ⟨_, hlen, hcell⟩ := World.cells?_some h1
      obtain ⟨xs, k, _, hxy, _, hxl, hf⟩ := DataW.trod_struct Try.underlying29 h2
      match xs, hxl, cs', hlen with
      | [y0, y1, y2, y3], _, [v0, v1, v2, v3], _ =>
        have t0 : DataW.trod enc Try.prog W 0 (fun _ => true) true k 26 [v0] = some y0 := by simpa [cells26] using hf 0 _ rfl
        have t1 : DataW.trod enc Try.prog W 0 (fun _ => true) true k 27 [v1] = some y1 := by simpa [cells27] using hf 1 _ rfl
        have t2 : DataW.trod enc Try.prog W 0 (fun _ => true) true k 3 [v2] = some y2 := by simpa [cells3] using hf 2 _ rfl
        have t3 : DataW.trod enc Try.prog W 0 (fun _ => true) true k 26 [v3] = some y3 := by simpa [cells26] using hf 3 _ rfl
        have hD : D i = .agg [y0.1, y1.1, y2.1, y3.1] := by
          have := congrArg Prod.fst hxy
          simpa using this
        have hin : ∀ q ∈ (DataW.agg [y0.1, y1.1, y2.1, y3.1] : DataW H).weights Try.prog 29, q ≤ reachBytes := fun q hq => hw q (by
          simp only [DataW.weights, Try.underlying31, List.mem_cons, List.mem_append]
          refine Or.inr (Or.inl (weights_in (d := D i) (List.mem_map.2 ⟨i, List.mem_range.2 hi, rfl⟩) q ?_))
          rw [hD]
          exact hq)
        have hw0 : ∀ q ∈ y0.1.weights Try.prog 26, q ≤ reachBytes := fun q hq => hin q (by
          simp only [DataW.weights, Try.underlying29, DataW.weightsEach, List.map_cons, List.map_nil, List.mem_append]
          exact Or.inl hq)
        have hw3 : ∀ q ∈ y3.1.weights Try.prog 26, q ≤ reachBytes := fun q hq => hin q (by
          simp only [DataW.weights, Try.underlying29, DataW.weightsEach, List.map_cons, List.map_nil, List.mem_append]
          exact Or.inr (Or.inr (Or.inr (Or.inl hq))))
        obtain ⟨ka, kn, kc, key, rfl, hk, hkn⟩ := open_bytes_cell t0 hw0
        obtain ⟨s, rfl, hs⟩ := u64_cell Try.underlying27 t1
        obtain ⟨z, rfl⟩ := i64_cell Try.underlying3 t2
        obtain ⟨va, vn, vc, val, rfl, hv2, hvn⟩ := open_bytes_cell t3 hw3
        have l1 := hk.len
        have l2 := hv2.len
        subst l1 l2
        refine ⟨⟨ka, kc, va, vc, ⟨key, s, z, val⟩⟩, fun j u hu => ?_, ⟨hk, hv2⟩, hs, hkn, hvn⟩
        have hj : j < 4 := (List.getElem?_eq_some_iff.1 hu).1
        have e0 := hcell j (by omega)
        rw [Go.Deep.add_add] at e0
        rw [e0]
        exact hu
    obtain ⟨q, hq⟩ := Go.Deep.choose_lt each
    refine ⟨some a, len, m, (List.range len).map q, rfl, by simp, fun k f hf => ?_, hcw, fun f hf => ?_, hlc, fun e => (by cases e)⟩
    · have hk : k < len := by
        rcases Nat.lt_or_ge k len with h | h
        · exact h
        · rw [List.getElem?_eq_none (by simpa using h)] at hf; cases hf
      obtain rfl : q k = f := by simpa [hk] using hf
      have hq0 := (hq 0 (by omega)).1 0 _ rfl
      obtain ⟨b, off, spot⟩ := a
      have hspot : spot = none := by simpa [Addr.add] using World.cell?_spot hq0
      subst hspot
      refine ⟨⟨b, off, rfl, fun j u hu => ?_⟩, (hq k hk).2.1⟩
      have := (hq k hk).1 j u hu
      rw [Go.WideShapes.add_plain] at this
      rw [Nat.add_assoc]
      exact this
    · obtain ⟨i, hi, rfl⟩ := List.mem_map.1 hf
      exact (hq i (by simpa using hi)).2.2
theorem bytesOf27 : Try.prog.bytesOf 31 = 24 := by kernel_rfl
theorem cellsR : Try.prog.cellsOf 31 = 1 := by kernel_rfl
instance : Inhabited Rw := ⟨⟨none, 0, []⟩⟩
theorem open_rows_cell {H : Type} {enc : TypeId × Value → H} {W : World} {fuel : Nat} {v : Value} {x : DataW H × List MemPlace} (h : DataW.trod enc Try.prog W 0 (fun _ => true) true fuel 22 [v] = some x) (hw : ∀ q ∈ x.1.weights Try.prog 22, q ≤ reachBytes) :
    ∃ (a : Option Addr) (m c : Nat) (rs : List Rw), v = .slice a m c ∧ m = rs.length ∧ RowsOf W a rs ∧ m ≤ reachBytes := by
  rcases Go.Deep.open_slice Try.underlying22 h with ⟨hv, _⟩ | ⟨a, len, cap, m, n, D, Pl, hv, _, hlc, hcap, hm, hx, hcells⟩
  · obtain rfl : v = .slice none 0 0 := by simpa using hv
    exact ⟨none, 0, 0, [], rfl, rfl, fun k f hf => by simp at hf, by decide⟩
  · obtain rfl : v = .slice (some a) len cap := by simpa using hv
    have hm' : m = cap := by simpa using hm
    subst hm'
    subst hx
    have hcw : len ≤ reachBytes := by
      have hw1 := hw _ (by simp only [DataW.weights, Try.underlying22]; exact List.mem_cons_self ..)
      simp only [List.length_map, List.length_range, bytesOf27] at hw1
      omega
    have each : ∀ i, i < len → ∃ f : Rw, W.cell? (a.add i) = some (.slice f.a f.R.length f.c) ∧ RwIn W f := by
      intro i hi
      obtain ⟨cs', h1, h2⟩ := hcells i (by omega)
      rw [cellsR] at h1
      obtain ⟨_, hlen, hcell⟩ := World.cells?_some h1
      match cs', hlen with
      | [v0], _ =>
        have hin : ∀ q ∈ (D i).weights Try.prog 31, q ≤ reachBytes := fun q hq => hw q (by
          simp only [DataW.weights, Try.underlying22, List.mem_cons, List.mem_append]
          exact Or.inr (Or.inl (weights_in (d := D i) (List.mem_map.2 ⟨i, List.mem_range.2 hi, rfl⟩) q hq)))
        obtain ⟨fa, fm, fc, l, rfl, rfl, he, hre, hfit, hcap', hnil⟩ := open_entsC h2 hin
        refine ⟨⟨fa, fc, l⟩, ?_, ⟨he, hcap', hre, hfit, hnil⟩⟩
        have e0 := hcell 0 (by omega)
        rw [Go.Deep.add_add] at e0
        simpa using e0
    obtain ⟨q, hq⟩ := Go.Deep.choose_lt each
    refine ⟨some a, len, m, (List.range len).map q, rfl, by simp, fun k f hf => ?_, hcw⟩
    have hk : k < len := by
      rcases Nat.lt_or_ge k len with h | h
      · exact h
      · rw [List.getElem?_eq_none (by simpa using h)] at hf; cases hf
    obtain rfl : q k = f := by simpa [hk] using hf
    have hq0 := (hq 0 (by omega)).1
    obtain ⟨b, off, spot⟩ := a
    have hspot : spot = none := by simpa [Addr.add] using World.cell?_spot hq0
    subst hspot
    refine ⟨⟨b, off, rfl, ?_⟩, (hq k hk).2⟩
    have := (hq k hk).1
    rw [Go.WideShapes.add_plain] at this
    exact this
end Go.Proofs.Ytpgligfolecieaa
