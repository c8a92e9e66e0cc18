import Derived.Test.YtpgligfolecieaaM29
import Derived.Test.YtpgligfolecieaaM30
import Derived.Test.YtpgligfolecieaaM17
import Derived.Test.YtpgligfolecieaaM07
/-
  The document's Run.
-/
namespace Go.Proofs.Ytpgligfolecieaa
open Go.RowKit
set_option maxRecDepth 100000
set_option maxHeartbeats 4000000
theorem keepB_sub {α : Type} : ∀ (l : List α) (v : List Bool), (keepB l v).Sublist l
  | [], v => by rw [keepB_nil]; exact List.Sublist.refl _
  | x :: r, [] => List.nil_sublist _
  | x :: r, b :: t => by
    simp only [keepB]
    split
    · exact (keepB_sub r t).cons_cons x
    · exact (keepB_sub r t).cons x
theorem ord_keep {R Q : List Tow} {v : List Bool} (h : R.Pairwise ltT) (hq : ents Q = keepB (ents R) v) : inOrd (ents Q) = true := by
  have h1 : (ents R).Pairwise ltE := rise_map h
  have h2 := h1.sublist (keepB_sub (ents R) v)
  rw [← hq] at h2
  exact ord_of_pairwise ((List.pairwise_map (f := fun x : Tow => x.e)).1 h2)
/-- What the document's Run answers. -/
def RunOkR (w w' : World) (rs : List Rw) (ks : List Nat) (bot : Bool) (t : Int) (ok : Bool) (e : Ending) : Prop :=
  (ok = false ∧ e = .returned (.tuple #[.slice none 0 0, .int .i64 2])) ∨
  (ok = true ∧ ∃ (v : Value) (xs : List Tow), e = .returned (.tuple #[v, .int .i64 0]) ∧ Mg (hds rs) xs ∧ Files w' w.heap.size (cutE t (rowE (allN ks) bot (ents xs))) v)
theorem rRun_any (a la : Option Addr) (n c ln lc : Nat) (rs : List Rw) (ks : List Nat) (bot : Bool) (t : Int) (w : World) (h : RowsIn w a rs) (hn : n = rs.length) (hf : Few rs) (hk : U64s w la ks) (hkn : ln = ks.length) (hkm : ln ≤ 100000) (hz : ∀ xs, Mg (hds rs) xs → xs.length ≤ 1000000 ∧ ∀ es, (∀ x, x ∈ es → x ∈ ents xs) → es.length ≤ xs.length → sizeEs es ≤ 1000000000000) :
    Calls Try.prog 12 #[.slice a n c, .slice la ln lc, .bool bot, .int .i64 t] w fun e w' => RunOkR w w' rs ks bot t (eachOrd rs && looksOk ks && tgt t) e ∧ Turns (fun _ => False) w w' := by
  have AL := hide (refAll_any a n c rs w h hn hf)
  have H := hide h
  have HK := hide hk
  have HKN := hide hkn
  have HZ := hide hz
  have HEA := hide hf.each
  obtain ⟨o1, ho1⟩ : ∃ o, eachOrd rs = o := ⟨_, rfl⟩
  rw [ho1] at AL ⊢
  have HO1 := hide ho1
  obtain ⟨o2, ho2⟩ : ∃ o, looksOk ks = o := ⟨_, rfl⟩
  obtain ⟨o3, ho3⟩ : ∃ o, tgt t = o := ⟨_, rfl⟩
  rw [ho2, ho3]
  have HO2 := hide ho2
  have HO3 := hide ho3
  clear h hn hf hk hkn hz ho1 ho2 ho3
  go_enter Try.func12, Try.ntmps12
  go_wp2_with fail
  refine AL.out.mono ?_
  rintro e w1 ⟨v, R, rfl, hE, hb, hA⟩
  have T1 := hide (Turns.of_below hb (fun _ => False))
  have HE := hide hE
  obtain ⟨ra, rc, hv⟩ := hE.len
  subst hv
  cases o1
  · rw [show ordE false = 2 from rfl]
    clear hb hA hE AL
    go_wp2_with fail
    go_ret2
    exact ⟨.inl ⟨rfl, rfl⟩, T1.out⟩
  rw [show ordE true = 0 from rfl]
  obtain ⟨hm, hl⟩ : Mg (hds rs) R ∧ R.length ≤ sumR rs := by
    rcases hA with ⟨_, h1, h2⟩ | ⟨h1, _⟩
    · exact ⟨h1, h2⟩
    · rw [HO1.out] at h1; cases h1
  have HM := hide hm
  have hin : ∀ x, x ∈ R → x ∈ allOf rs := fun x hx => mg_from hm hx
  have hkb : ∀ x, x ∈ R → x.e.key.length ≤ 1000000 := fun x hx => by
    obtain ⟨r, hr, hxr⟩ := List.mem_flatMap.1 (hin x hx)
    have := ((HEA.out r hr).2 x hxr).1
    omega
  have hEn : Ents w1 ra R := by
    obtain ⟨a', c', e, hen, _⟩ := ents_row hE fun x hx => all_bytes (H.out.quiet T1.out) (hin x hx)
    cases e
    exact hen
  have hmx : R.length ≤ 1000000 := (HZ.out R hm).1
  have RW := hide (rRow_any ra la R.length rc ln lc R ks bot w1 hEn rfl hmx hkb (HK.out.quiet T1.out) HKN.out hkm)
  have HIO := hide (show inOrd (ents R) = true from ord_of_pairwise hm.1)
  rw [HIO.out, Bool.true_and] at RW
  have HKB := hide hkb
  have HEN := hide hEn
  clear hb hA hm hin hkb hEn hE AL
  rw [HO2.out] at RW
  go_wp2_with fail
  refine RW.out.mono ?_
  rintro e w2 ⟨hr, t2⟩
  have T2 := hide (T1.out.trans t2)
  cases o2
  · have he : e = .returned (.tuple #[.slice none 0 0, .int .i64 2]) := by
      rcases hr with ⟨_, h⟩ | ⟨h, _⟩
      · exact h
      · cases h
    subst he
    clear hr t2 RW
    go_wp2_with fail
    go_ret2
    exact ⟨.inl ⟨rfl, rfl⟩, T2.out⟩
  obtain ⟨v, Q, he, hk9, hq⟩ : ∃ (v : Value) (Q : List Tow), e = .returned (.tuple #[v, .int .i64 0]) ∧ Rk w1 w2 v R Q ∧ ents Q = rowE (allN ks) bot (ents R) := by
    rcases hr with ⟨h, _⟩ | ⟨_, h⟩
    · cases h
    · exact h
  subst he
  obtain ⟨qa, qc, rfl⟩ := hk9.row.len
  have hQe : ents Q = keepB (ents R) (rowB (allN ks) bot (ents R)) := hq
  have hQo : inOrd (ents Q) = true := ord_keep HM.out.1 hQe
  have hQl : Q.length ≤ R.length := by
    have h1 := congrArg List.length hQe
    have h2 := (keepB_sub (ents R) (rowB (allN ks) bot (ents R))).length_le
    have h0 : (ents Q).length = Q.length := by simp [ents]
    have h3 : (ents R).length = R.length := by simp [ents]
    omega
  have hQn : Ents w2 qa Q := by
    obtain ⟨a', c', e, hen, _⟩ := ents_row hk9.row fun x hx => by
      obtain ⟨i, hi⟩ := List.getElem?_of_mem (hk9.mem x hx)
      have := ((HEN.out.quiet hk9.turn) i x hi).2
      exact this
    cases e
    exact hen
  have hqc : Q.length ≤ qc := by
    obtain ⟨a', c', e, _, hc, _⟩ := ents_row hk9.row fun x hx => by
      obtain ⟨i, hi⟩ := List.getElem?_of_mem (hk9.mem x hx)
      have := ((HEN.out.quiet hk9.turn) i x hi).2
      exact this
    cases e
    exact hc
  have CU := hide (rCut_any qa Q.length qc t Q w2 hQn rfl hqc (by omega) (fun x hx => HKB.out x (hk9.mem x hx)) ((HZ.out R HM.out).2 _ (fun x hx => by
    rw [hQe] at hx
    exact keepB_mem _ _ _ hx) (by simp only [ents, List.length_map]; exact hQl)))
  rw [hQo, Bool.true_and, hq] at CU
  rw [HO3.out] at CU
  clear hr t2 RW hk9 hq hQe hQo hQl hQn hqc
  go_wp2_with fail
  refine CU.out.mono ?_
  rintro e w3 ⟨hr, t3⟩
  have T3 := hide (T2.out.trans t3)
  have hT2 := T2.out.size
  cases o3
  · have he : e = .returned (.tuple #[.slice none 0 0, .int .i64 2]) := by
      rcases hr with ⟨_, h⟩ | ⟨h, _⟩
      · exact h
      · cases h
    subst he
    clear hr t3 CU
    go_wp2_with fail
    go_ret2
    exact ⟨.inl ⟨rfl, rfl⟩, T3.out⟩
  obtain ⟨v, he, hfi⟩ : ∃ v, e = .returned (.tuple #[v, .int .i64 0]) ∧ Files w3 w2.heap.size (cutE t (rowE (allN ks) bot (ents R))) v := by
    rcases hr with ⟨h, _⟩ | ⟨_, h⟩
    · cases h
    · exact h
  subst he
  have HFI := hide (hfi.le hT2)
  clear hr t3 CU hfi
  go_wp2_with fail
  go_ret2
  exact ⟨.inr ⟨rfl, v, R, rfl, HM.out, HFI.out⟩, T3.out⟩
end Go.Proofs.Ytpgligfolecieaa

/-
  CompactCalls: small, lists.
-/
namespace Go.Proofs.Ytpgligfolecieaa
open Go.RowKit
set_option maxRecDepth 100000
set_option maxHeartbeats 4000000
def Small2 (rs : List Rw) (ln : Nat) (d : Bool) : Prop := d = true → rs.length ≤ 20 ∧ sumR rs ≤ 150 ∧ wAll rs ≤ 15000 ∧ ln ≤ 150
def SaysSmall2 (rs : List Rw) (ln : Nat) (e : Ending) : Prop := ∃ d : Bool, e = .returned (.bool d) ∧ Small2 rs ln d
theorem small_any2 (a la : Option Addr) (n c ln lc : Nat) (rs : List Rw) (w : World) (h : RowsOf w a rs) (hn : n = rs.length) (hmx : n ≤ reachBytes) (hlm : ln ≤ reachBytes) :
    Calls Try.prog 10 #[.slice a n c, .slice la ln lc] w fun e w' => SaysSmall2 rs ln e ∧ Turns (fun _ => False) w w' := by
  have HN := hide hn
  have H0 := hide h
  unfold reachBytes at hmx hlm
  have hmi : (n : Int) ≤ 140737488355328 := by omega
  have hli : (ln : Int) ≤ 140737488355328 := by omega
  clear hn h
  go_enter Try.func10, Try.ntmps10
  go_wp2_with fail
  go_loopw [5, 6, 7] (fun nv bv iv wr => ∃ k : Nat, nv = .int .i64 (w64 (sumR (rs.take k) : Nat)) ∧ bv = .int .i64 (w64 (wAll (rs.take k) : Nat)) ∧ iv = .int .i64 (k : Nat) ∧ k ≤ n ∧ Turns (fun _ => False) w wr) (fun _ _ iv _ => n - (intOf iv).toNat)
  case atStart => exact ⟨0, rfl, rfl, rfl, by omega, Turns.refl _ _⟩
  case round =>
    obtain ⟨k, rfl, rfl, rfl, hk, ht⟩ := hrel
    have TT := hide ht
    clear ht
    by_cases hk2 : k < n
    · have i1 : (k : Int) < n := by omega
      have i0 : (0 : Int) ≤ (k : Int) := by omega
      obtain ⟨x, hx⟩ : ∃ x, rs[k]? = some x := ⟨_, List.getElem?_eq_getElem (by have := HN.out; omega)⟩
      obtain ⟨⟨b, off, rfl, hc⟩, hin⟩ := H0.out k x hx
      have hc1 := TT.out.cell hc (fun x => x)
      have hT : rs.take (k + 1) = rs.take k ++ [x] := by rw [List.take_add_one, hx]; rfl
      have HS := hide (show (sumR (rs.take (k + 1)) : Int) = sumR (rs.take k) + x.R.length by rw [hT, sumR_snoc]; omega)
      have HW := hide (show (wAll (rs.take (k + 1)) : Int) = wAll (rs.take k) + weigh x.R by rw [hT, wAll_snoc]; omega)
      have CW := hide (fun (u : World) (t : Turns (fun _ => False) wr u) => weighW_any x.a x.R.length x.c x.R u (hin.ents.quiet (TT.out.trans t)) rfl hin.reach)
      have HQ1 := hide (w64_add (sumR (rs.take k) : Nat) x.R.length)
      have HQ2 := hide (show IntKind.i64.wrap (w64 (wAll (rs.take k) : Nat) + w64 (weigh x.R : Nat)) = w64 ((wAll (rs.take k) : Nat) + (weigh x.R : Nat)) by
        rw [w64_add]
        unfold w64
        simp only [IntKind.wrap_i64]
        omega)
      clear hc hx hin hT
      obtain ⟨xa, xc, xR⟩ := x
      simp only at *
      generalize w64 (sumR (rs.take k) : Nat) = zn at *
      generalize w64 (wAll (rs.take k) : Nat) = zb at *
      generalize w64 (weigh xR : Nat) = zw at *
      generalize xR.length = xl at *
      go_upto_region 5 with (fail)
      have tV : Turns (fun _ => False) wr wr.drew := (Turns.refl _ _).drew
      have SK := hide (fun (u : World) (t : Turns (fun _ => False) wr u) => show u.cell? ⟨b, off + k, none⟩ = some (.slice xa xl xc) from t.cell hc1 (fun x => x))
      refine wp_region_held_drew (S := fun u => u.cell? ⟨b, off + k, none⟩ = some (.slice xa xl xc)) (by kernel_rfl) (SK.out _ tV) (fun _ => ?_)
      change wpAnyH _ _ _ _ _ 16 (Array.replicate 16 false) _ _
      refine wpAnyH_take (i := 0) (oi := { dst := some 14, op := Op.move (Operand.tmp 5), type := 3, pos := "law.go:53", after := #[], guard := none }) (v := .int .i64 zn) rfl (by kernel_rfl) (by kernel_rfl) (by kernel_rfl) (fun _ _ _ h => h) (Or.inl ⟨by rfl, ?_⟩) (SK.out _ tV) ?_
      · rintro w d0
        go_simp
      simp only [Act.put, List.setIfInBounds_toArray, List.set_cons_zero, List.set_cons_succ]
      refine wpAnyH_take (i := 1) (oi := { dst := some 15, op := Op.move (Operand.tmp 0), type := 22, pos := "law.go:53", after := #[], guard := none }) (v := .slice (some ⟨b, off, none⟩) n c) rfl (by kernel_rfl) (by kernel_rfl) (by kernel_rfl) (fun _ _ _ h => h) (Or.inl ⟨by rfl, ?_⟩) (SK.out _ tV) ?_
      · rintro w d0
        go_simp
      simp only [Act.put, List.setIfInBounds_toArray, List.set_cons_zero, List.set_cons_succ]
      refine wpAnyH_take (i := 2) (oi := { dst := some 16, op := Op.move (Operand.tmp 7), type := 3, pos := "law.go:53", after := #[], guard := none }) (v := .int .i64 (k : Nat)) rfl (by kernel_rfl) (by kernel_rfl) (by kernel_rfl) (fun _ _ _ h => h) (Or.inl ⟨by rfl, ?_⟩) (SK.out _ tV) ?_
      · rintro w d0
        go_simp
      simp only [Act.put, List.setIfInBounds_toArray, List.set_cons_zero, List.set_cons_succ]
      refine wpAnyH_take (i := 3) (oi := { dst := some 17, op := Op.indexAddr 22 (Operand.tmp 15) (Operand.tmp 16), type := 0, pos := "law.go:53", after := #[{ on := 1, ground := Ground.data }, { on := 2, ground := Ground.data }], guard := none }) (v := .pointer (some ⟨b, off + k, none⟩)) rfl (by kernel_rfl) (by kernel_rfl) (by kernel_rfl) (fun _ _ _ h => h) (Or.inl ⟨by rfl, ?_⟩) (SK.out _ tV) ?_
      · rintro w d0
        go_simp
      simp only [Act.put, List.setIfInBounds_toArray, List.set_cons_zero, List.set_cons_succ]
      refine wpAnyH_take (i := 4) (oi := { dst := some 18, op := Op.load 31 (Operand.tmp 17), type := 31, pos := "law.go:53", after := #[{ on := 3, ground := Ground.data }], guard := none }) (v := .slice xa xl xc) rfl (by kernel_rfl) (by kernel_rfl) (by kernel_rfl) (fun _ _ _ h => h) (Or.inl ⟨by rfl, ?_⟩) (SK.out _ tV) ?_
      · rintro w d0
        go_simp
      simp only [Act.put, List.setIfInBounds_toArray, List.set_cons_zero, List.set_cons_succ]
      refine wpAnyH_take (i := 5) (oi := { dst := some 19, op := Op.call { callee := Callee.builtin Builtin.len, args := #[Operand.tmp 18], argTypes := #[31] }, type := 3, pos := "law.go:53", after := #[{ on := 4, ground := Ground.data }], guard := none }) (v := .int .i64 (xl : Nat)) rfl (by kernel_rfl) (by kernel_rfl) (by kernel_rfl) (fun _ _ _ h => h) (Or.inl ⟨by rfl, ?_⟩) (SK.out _ tV) ?_
      · rintro w d0
        go_simp
      simp only [Act.put, List.setIfInBounds_toArray, List.set_cons_zero, List.set_cons_succ]
      refine wpAnyH_take (i := 6) (oi := { dst := some 20, op := Op.binOp BinOp.add 3 (Operand.tmp 14) (Operand.tmp 19) 3, type := 3, pos := "law.go:53", after := #[{ on := 0, ground := Ground.data }, { on := 5, ground := Ground.data }], guard := none }) (v := .int .i64 (IntKind.i64.wrap (zn + (xl : Nat)))) rfl (by kernel_rfl) (by kernel_rfl) (by kernel_rfl) (fun _ _ _ h => h) (Or.inl ⟨by rfl, ?_⟩) (SK.out _ tV) ?_
      · rintro w d0
        go_simp
      simp only [Act.put, List.setIfInBounds_toArray, List.set_cons_zero, List.set_cons_succ]
      refine wpAnyH_take (i := 7) (oi := { dst := some 21, op := Op.move (Operand.tmp 6), type := 3, pos := "law.go:53", after := #[{ on := 14, ground := Ground.gcOnly Departure.lateStores }], guard := none }) (v := .int .i64 zb) rfl (by kernel_rfl) (by kernel_rfl) (by kernel_rfl) (fun _ _ _ h => h) (Or.inl ⟨by rfl, ?_⟩) (SK.out _ tV) ?_
      · rintro w d0
        go_simp
      simp only [Act.put, List.setIfInBounds_toArray, List.set_cons_zero, List.set_cons_succ]
      refine wpAnyH_take (i := 8) (oi := { dst := some 22, op := Op.move (Operand.tmp 0), type := 22, pos := "law.go:53", after := #[], guard := none }) (v := .slice (some ⟨b, off, none⟩) n c) rfl (by kernel_rfl) (by kernel_rfl) (by kernel_rfl) (fun _ _ _ h => h) (Or.inl ⟨by rfl, ?_⟩) (SK.out _ tV) ?_
      · rintro w d0
        go_simp
      simp only [Act.put, List.setIfInBounds_toArray, List.set_cons_zero, List.set_cons_succ]
      refine wpAnyH_take (i := 9) (oi := { dst := some 23, op := Op.move (Operand.tmp 7), type := 3, pos := "law.go:53", after := #[], guard := none }) (v := .int .i64 (k : Nat)) rfl (by kernel_rfl) (by kernel_rfl) (by kernel_rfl) (fun _ _ _ h => h) (Or.inl ⟨by rfl, ?_⟩) (SK.out _ tV) ?_
      · rintro w d0
        go_simp
      simp only [Act.put, List.setIfInBounds_toArray, List.set_cons_zero, List.set_cons_succ]
      refine wpAnyH_take (i := 10) (oi := { dst := some 24, op := Op.indexAddr 22 (Operand.tmp 22) (Operand.tmp 23), type := 0, pos := "law.go:53", after := #[{ on := 8, ground := Ground.data }, { on := 9, ground := Ground.data }], guard := none }) (v := .pointer (some ⟨b, off + k, none⟩)) rfl (by kernel_rfl) (by kernel_rfl) (by kernel_rfl) (fun _ _ _ h => h) (Or.inl ⟨by rfl, ?_⟩) (SK.out _ tV) ?_
      · rintro w d0
        go_simp
      simp only [Act.put, List.setIfInBounds_toArray, List.set_cons_zero, List.set_cons_succ]
      refine wpAnyH_take (i := 11) (oi := { dst := some 25, op := Op.load 31 (Operand.tmp 24), type := 31, pos := "law.go:53", after := #[{ on := 10, ground := Ground.data }], guard := none }) (v := .slice xa xl xc) rfl (by kernel_rfl) (by kernel_rfl) (by kernel_rfl) (fun _ _ _ h => h) (Or.inl ⟨by rfl, ?_⟩) (SK.out _ tV) ?_
      · rintro w d0
        go_simp
      simp only [Act.put, List.setIfInBounds_toArray, List.set_cons_zero, List.set_cons_succ]
      refine wpAnyH_ready (rs := [12]) (by kernel_rfl) (by simp) ?_
      refine AllReadyH.cons rfl (fun K hK => ?_) AllReadyH.nil
      go_simp
      refine (CW.out _ tV).mono ?_
      rintro oo Vn ⟨rfl, tC⟩
      have tN := tC
      have tV := tV.trans tN
      clear tC
      clear tN
      go_simp
      refine hK.out _ _ (SK.out _ tV) (fun _ => ?_)
      clear hK K
      refine wpAnyH_take (i := 13) (oi := { dst := some 27, op := Op.binOp BinOp.add 3 (Operand.tmp 21) (Operand.tmp 26) 3, type := 3, pos := "law.go:53", after := #[{ on := 7, ground := Ground.data }, { on := 12, ground := Ground.data }, { on := 14, ground := Ground.gcOnly Departure.lateStores }], guard := none }) (v := .int .i64 (IntKind.i64.wrap (zb + zw))) rfl (by kernel_rfl) (by kernel_rfl) (by kernel_rfl) (fun _ _ _ h => h) (Or.inl ⟨by rfl, ?_⟩) (SK.out _ tV) ?_
      · rintro w d0
        go_simp
      simp only [Act.put, List.setIfInBounds_toArray, List.set_cons_zero, List.set_cons_succ]
      refine wpAnyH_take (i := 14) (oi := { dst := some 5, op := Op.assign (Operand.tmp 20), type := 3, pos := "law.go:53", after := #[{ on := 6, ground := Ground.data }, { on := 12, ground := Ground.chain }, { on := 0, ground := Ground.phase }, { on := 1, ground := Ground.phase }, { on := 2, ground := Ground.phase }, { on := 3, ground := Ground.phase }, { on := 4, ground := Ground.phase }, { on := 5, ground := Ground.phase }, { on := 6, ground := Ground.phase }, { on := 7, ground := Ground.textOnly Departure.lateStores }, { on := 8, ground := Ground.textOnly Departure.lateStores }, { on := 9, ground := Ground.textOnly Departure.lateStores }, { on := 10, ground := Ground.textOnly Departure.lateStores }, { on := 11, ground := Ground.textOnly Departure.lateStores }, { on := 12, ground := Ground.textOnly Departure.lateStoresUnsure }, { on := 13, ground := Ground.textOnly Departure.lateStores }], guard := none }) (v := .int .i64 (IntKind.i64.wrap (zn + (xl : Nat)))) rfl (by kernel_rfl) (by kernel_rfl) (by kernel_rfl) (fun _ _ _ h => h) (Or.inl ⟨by rfl, ?_⟩) (SK.out _ tV) ?_
      · rintro w d0
        go_simp
      simp only [Act.put, List.setIfInBounds_toArray, List.set_cons_zero, List.set_cons_succ]
      refine wpAnyH_take (i := 15) (oi := { dst := some 6, op := Op.assign (Operand.tmp 27), type := 3, pos := "law.go:53", after := #[{ on := 13, ground := Ground.data }, { on := 14, ground := Ground.chain }, { on := 0, ground := Ground.phase }, { on := 1, ground := Ground.phase }, { on := 2, ground := Ground.phase }, { on := 3, ground := Ground.phase }, { on := 4, ground := Ground.phase }, { on := 5, ground := Ground.phase }, { on := 6, ground := Ground.phase }, { on := 7, ground := Ground.phase }, { on := 8, ground := Ground.phase }, { on := 9, ground := Ground.phase }, { on := 10, ground := Ground.phase }, { on := 11, ground := Ground.phase }, { on := 12, ground := Ground.phase }, { on := 13, ground := Ground.phase }, { on := 14, ground := Ground.phase }], guard := none }) (v := .int .i64 (IntKind.i64.wrap (zb + zw))) rfl (by kernel_rfl) (by kernel_rfl) (by kernel_rfl) (fun _ _ _ h => h) (Or.inl ⟨by rfl, ?_⟩) (SK.out _ tV) ?_
      · rintro w d0
        go_simp
      simp only [Act.put, List.setIfInBounds_toArray, List.set_cons_zero, List.set_cons_succ]
      refine wpAnyH_done (by kernel_rfl) ?_ _
      have TU := hide tV
      clear tV
      go_wp2_with fail
      go_roundw
      case rel =>
        refine ⟨k + 1, ?_, ?_, by go_num, by omega, TT.out.trans TU.out⟩
        · rw [HS.out, ← HQ1.out]
        · rw [HW.out, ← HQ2.out]
      case measure => (simp [intOf]; try omega)
    · have i1 : ¬ (k : Int) < n := by omega
      obtain rfl : k = n := by omega
      have hfin := small_fin H0.out
      have hlen := HN.out
      have htk : rs.take k = rs := by rw [HN.out, List.take_length]
      rw [htk]
      have HFIN := hide hfin
      have HLEN := hide hlen
      clear hfin hlen htk hk hk2
      generalize w64 (sumR rs : Nat) = zn at *
      generalize w64 (wAll rs : Nat) = zb at *
      by_cases h1 : (k : Int) ≤ 20
      · by_cases h2 : zn ≤ 150
        · by_cases h3 : zb ≤ 15000
          · by_cases h4 : (ln : Int) ≤ 150
            · go_wp2_with fail
              go_ret
              exact ⟨⟨true, rfl, fun _ => ⟨by have := HLEN.out; omega, (HFIN.out (by have := HLEN.out; omega) h2 h3).1, (HFIN.out (by have := HLEN.out; omega) h2 h3).2, by omega⟩⟩, TT.out⟩
            · go_wp2_with fail
              go_ret
              exact ⟨⟨false, rfl, fun e => (by cases e)⟩, TT.out⟩
          · go_wp2_with fail
            go_ret
            exact ⟨⟨false, rfl, fun e => (by cases e)⟩, TT.out⟩
        · go_wp2_with fail
          go_ret
          exact ⟨⟨false, rfl, fun e => (by cases e)⟩, TT.out⟩
      · go_wp2_with fail
        go_ret
        exact ⟨⟨false, rfl, fun e => (by cases e)⟩, TT.out⟩
/-- Files lie in a row of rows. -/
theorem files_at {w : World} {B : Nat} {es : List (List Ent)} {v : Value} (h : Files w B es v) : ∃ (a : Option Addr) (c : Nat) (ps : List Rw), v = .slice a ps.length c ∧ ps.length ≤ 1000000 ∧ entR ps = es ∧ ∀ (k : Nat) (p : Rw), ps[k]? = some p → (∃ b, a = some ⟨b, 0, none⟩ ∧ w.cell? ⟨b, k, none⟩ = some (.slice p.a p.R.length p.c)) ∧ Ents w p.a p.R := by
  obtain ⟨ps, hr, hp, he, hl⟩ := h
  rcases hr with ⟨rfl, rfl⟩ | ⟨g, c, n, rfl, rfl, _, _, cs, k1, k2, k3⟩
  · exact ⟨none, 0, [], rfl, by simp, he, fun k p hk => by simp at hk⟩
  · refine ⟨_, c, ps, rfl, hl, he, fun k p hk => ⟨⟨g, rfl, ?_⟩, (hp p (List.mem_of_getElem? hk)).1⟩⟩
    have hlt := (List.getElem?_eq_some_iff.1 hk).1
    rw [cell_of_row w g k cs 31 (0, 0) k1, k3 k (by simpa [rwCells] using hlt)]
    simp only [rwCells, List.getElem?_map, hk, Option.map_some]
    rfl
theorem lists_any (v v' : Value) (B B' : Nat) (es : List (List Ent)) (w : World) (h : Files w B es v) (h' : Files w B' es v') (hb : ∀ r, r ∈ es → r.length ≤ 1000000 ∧ ∀ x, x ∈ r → x.key.length ≤ 1000000 ∧ x.val.length ≤ 1000000) :
    Calls Try.prog 13 #[v, v'] w fun e w' => e = .returned (.bool true) ∧ Turns (fun _ => False) w w' := by
  obtain ⟨a, c, ps, rfl, hl, he, hat⟩ := files_at h
  obtain ⟨a', c', ps', rfl, hl', he', hat'⟩ := files_at h'
  have hlen : ps.length = ps'.length := by
    have := congrArg List.length (he.trans he'.symm)
    simpa [entR] using this
  rw [← hlen]
  have HAT := hide hat
  have HAT' := hide hat'
  have HLEN := hide hlen
  have HPR := hide (show ∀ (k : Nat) (p p' : Rw), ps[k]? = some p → ps'[k]? = some p' → p.R.map (·.e) = p'.R.map (·.e) ∧ p.R.length ≤ 1000000 ∧ ∀ x, x ∈ p.R → x.e.key.length ≤ 1000000 ∧ x.e.val.length ≤ 1000000 from fun k p p' hk hk' => by
    have e1 : (entR ps)[k]? = some (p.R.map (·.e)) := by simp [entR, hk]
    have e2 : (entR ps')[k]? = some (p'.R.map (·.e)) := by simp [entR, hk']
    have e3 := e1
    rw [he] at e1
    rw [he'] at e2
    rw [e1] at e2
    have hm := hb _ (List.mem_of_getElem? e1)
    refine ⟨Option.some.inj e2, by have := hm.1; simpa using this, fun x hx => hm.2 x.e (List.mem_map.2 ⟨x, hx, rfl⟩)⟩)
  clear h h' hat hat' hb he he' hl' hlen
  obtain ⟨n, hn⟩ : ∃ n, ps.length = n := ⟨_, rfl⟩
  rw [hn] at hl ⊢
  have HN := hide hn
  clear hn
  go_enter Try.func13, Try.ntmps13
  go_wp2_with fail
  go_loopw [5] (fun iv wr => ∃ k : Nat, iv = .int .i64 (k : Nat) ∧ k ≤ n ∧ Turns (fun _ => False) w wr) (fun iv _ => n - (intOf iv).toNat)
  case atStart => exact ⟨0, rfl, Nat.zero_le _, Turns.refl _ _⟩
  case round =>
    obtain ⟨k, rfl, hk, ht⟩ := hrel
    have TT := hide ht
    clear ht
    by_cases hkn : k < n
    · obtain ⟨p, hp⟩ : ∃ p, ps[k]? = some p := ⟨_, List.getElem?_eq_getElem (by have := HN.out; omega)⟩
      obtain ⟨p', hp'⟩ : ∃ p, ps'[k]? = some p := ⟨_, List.getElem?_eq_getElem (by have := HN.out; have := HLEN.out; omega)⟩
      obtain ⟨⟨b, rfl, hc⟩, hE⟩ := HAT.out k p hp
      obtain ⟨⟨b', rfl, hc'⟩, hE'⟩ := HAT'.out k p' hp'
      obtain ⟨q1, q2, q3⟩ := HPR.out k p p' hp hp'
      have hll : p'.R.length = p.R.length := by
        have := congrArg List.length q1
        simpa using this.symm
      have hc1 := TT.out.cell hc (fun x => x)
      have hc2 := TT.out.cell hc' (fun x => x)
      rw [hll] at hc2
      have SC := hide (fun (u : World) (t : Turns (fun _ => False) wr u) => entries_same p.a p'.a p.R.length p.c p'.c p.R p'.R u (hE.quiet (TT.out.trans t)) (hE'.quiet (TT.out.trans t)) q1 rfl q2 q3)
      clear hp hp' hc hc' hE hE' q1 q2 q3 hll
      obtain ⟨xa, xc, xR⟩ := p
      obtain ⟨ya, yc, yR⟩ := p'
      simp only at *
      generalize xR.length = xl at *
      have i1 : (k : Int) < n := by omega
      have i0 : (0 : Int) ≤ (k : Int) := by omega
      go_upto_region 6 with (fail)
      have tV : Turns (fun _ => False) wr wr.drew := (Turns.refl _ _).drew
      have SK := hide (fun (u : World) (t : Turns (fun _ => False) wr u) => show u.cell? ⟨b, k, none⟩ = some (.slice xa xl xc) ∧ u.cell? ⟨b', k, none⟩ = some (.slice ya xl yc) from ⟨t.cell hc1 (fun x => x), t.cell hc2 (fun x => x)⟩)
      refine wp_region_held_drew (S := fun u => u.cell? ⟨b, k, none⟩ = some (.slice xa xl xc) ∧ u.cell? ⟨b', k, none⟩ = some (.slice ya xl yc)) (by kernel_rfl) (SK.out _ tV) (fun _ => ?_)
      change wpAnyH _ _ _ _ _ 10 (Array.replicate 10 false) _ _
      refine wpAnyH_take (i := 0) (oi := { dst := some 17, op := Op.move (Operand.tmp 0), type := 22, pos := "law.go:64", after := #[], guard := none }) (v := .slice (some ⟨b, 0, none⟩) n c) rfl (by kernel_rfl) (by kernel_rfl) (by kernel_rfl) (fun _ _ _ h => h) (Or.inl ⟨by rfl, ?_⟩) (SK.out _ tV) ?_
      · rintro w ⟨s0, s1⟩
        go_simp
      simp only [Act.put, List.setIfInBounds_toArray, List.set_cons_zero, List.set_cons_succ]
      refine wpAnyH_take (i := 1) (oi := { dst := some 18, op := Op.move (Operand.tmp 5), type := 3, pos := "law.go:64", after := #[], guard := none }) (v := .int .i64 (k : Nat)) rfl (by kernel_rfl) (by kernel_rfl) (by kernel_rfl) (fun _ _ _ h => h) (Or.inl ⟨by rfl, ?_⟩) (SK.out _ tV) ?_
      · rintro w ⟨s0, s1⟩
        go_simp
      simp only [Act.put, List.setIfInBounds_toArray, List.set_cons_zero, List.set_cons_succ]
      refine wpAnyH_take (i := 2) (oi := { dst := some 19, op := Op.indexAddr 22 (Operand.tmp 17) (Operand.tmp 18), type := 0, pos := "law.go:64", after := #[{ on := 0, ground := Ground.data }, { on := 1, ground := Ground.data }], guard := none }) (v := .pointer (some ⟨b, k, none⟩)) rfl (by kernel_rfl) (by kernel_rfl) (by kernel_rfl) (fun _ _ _ h => h) (Or.inl ⟨by rfl, ?_⟩) (SK.out _ tV) ?_
      · rintro w ⟨s0, s1⟩
        go_simp
      simp only [Act.put, List.setIfInBounds_toArray, List.set_cons_zero, List.set_cons_succ]
      refine wpAnyH_take (i := 3) (oi := { dst := some 20, op := Op.load 31 (Operand.tmp 19), type := 31, pos := "law.go:64", after := #[{ on := 2, ground := Ground.data }], guard := none }) (v := .slice xa xl xc) rfl (by kernel_rfl) (by kernel_rfl) (by kernel_rfl) (fun _ _ _ h => h) (Or.inl ⟨by rfl, ?_⟩) (SK.out _ tV) ?_
      · rintro w ⟨s0, s1⟩
        go_simp
      simp only [Act.put, List.setIfInBounds_toArray, List.set_cons_zero, List.set_cons_succ]
      refine wpAnyH_take (i := 4) (oi := { dst := some 21, op := Op.move (Operand.tmp 1), type := 22, pos := "law.go:64", after := #[], guard := none }) (v := .slice (some ⟨b', 0, none⟩) n c') rfl (by kernel_rfl) (by kernel_rfl) (by kernel_rfl) (fun _ _ _ h => h) (Or.inl ⟨by rfl, ?_⟩) (SK.out _ tV) ?_
      · rintro w ⟨s0, s1⟩
        go_simp
      simp only [Act.put, List.setIfInBounds_toArray, List.set_cons_zero, List.set_cons_succ]
      refine wpAnyH_take (i := 5) (oi := { dst := some 22, op := Op.move (Operand.tmp 5), type := 3, pos := "law.go:64", after := #[], guard := none }) (v := .int .i64 (k : Nat)) rfl (by kernel_rfl) (by kernel_rfl) (by kernel_rfl) (fun _ _ _ h => h) (Or.inl ⟨by rfl, ?_⟩) (SK.out _ tV) ?_
      · rintro w ⟨s0, s1⟩
        go_simp
      simp only [Act.put, List.setIfInBounds_toArray, List.set_cons_zero, List.set_cons_succ]
      refine wpAnyH_take (i := 6) (oi := { dst := some 23, op := Op.indexAddr 22 (Operand.tmp 21) (Operand.tmp 22), type := 0, pos := "law.go:64", after := #[{ on := 4, ground := Ground.data }, { on := 5, ground := Ground.data }], guard := none }) (v := .pointer (some ⟨b', k, none⟩)) rfl (by kernel_rfl) (by kernel_rfl) (by kernel_rfl) (fun _ _ _ h => h) (Or.inl ⟨by rfl, ?_⟩) (SK.out _ tV) ?_
      · rintro w ⟨s0, s1⟩
        go_simp
      simp only [Act.put, List.setIfInBounds_toArray, List.set_cons_zero, List.set_cons_succ]
      refine wpAnyH_take (i := 7) (oi := { dst := some 24, op := Op.load 31 (Operand.tmp 23), type := 31, pos := "law.go:64", after := #[{ on := 6, ground := Ground.data }], guard := none }) (v := .slice ya xl yc) rfl (by kernel_rfl) (by kernel_rfl) (by kernel_rfl) (fun _ _ _ h => h) (Or.inl ⟨by rfl, ?_⟩) (SK.out _ tV) ?_
      · rintro w ⟨s0, s1⟩
        go_simp
      simp only [Act.put, List.setIfInBounds_toArray, List.set_cons_zero, List.set_cons_succ]
      refine wpAnyH_ready (rs := [8]) (by kernel_rfl) (by simp) ?_
      refine AllReadyH.cons rfl (fun K hK => ?_) AllReadyH.nil
      go_simp
      refine (SC.out _ tV).mono ?_
      rintro oo Vn ⟨rfl, tC⟩
      have tN := Turns.of_below tC (fun _ => False)
      have tV := tV.trans tN
      clear tC
      clear tN
      go_simp
      refine hK.out _ _ (SK.out _ tV) (fun _ => ?_)
      clear hK K
      refine wpAnyH_take (i := 9) (oi := { dst := some 26, op := Op.unOp UnOp.not 4 (Operand.tmp 25), type := 4, pos := "law.go:64", after := #[{ on := 8, ground := Ground.data }], guard := none }) (v := .bool false) rfl (by kernel_rfl) (by kernel_rfl) (by kernel_rfl) (fun _ _ _ h => h) (Or.inl ⟨by rfl, ?_⟩) (SK.out _ tV) ?_
      · rintro w ⟨s0, s1⟩
        go_simp
      simp only [Act.put, List.setIfInBounds_toArray, List.set_cons_zero, List.set_cons_succ]
      refine wpAnyH_done (by kernel_rfl) ?_ _
      have TU := hide tV
      clear tV
      go_wp2_with fail
      go_roundw
      case rel => exact ⟨k + 1, by go_num, by omega, TT.out.trans TU.out⟩
      case measure => (simp [intOf]; try omega)
    · have i1 : ¬ (k : Int) < n := by omega
      obtain rfl : k = n := by omega
      go_wp2_with fail
      go_ret
      exact ⟨rfl, TT.out⟩
end Go.Proofs.Ytpgligfolecieaa
