import Derived.Test.YtjklbhdhjfifhaaGreatM39
import Derived.Test.YtjklbhdhjfifhaaGreatM38
import Derived.Test.YtjklbhdhjfifhaaGreatM18
import Derived.Deep.Light
import Derived.Test.YtjklbhdhjfifhaaGreatM37
/-
  What an opened table tells of one key.
-/
namespace Go.Proofs.YtjklbhdhjfifhaaGreat
open Go.RowKit
set_option maxRecDepth 100000
set_option maxHeartbeats 4000000
theorem tmade_yes {A : Nat → Prop} {B : Nat} {w : World} {t f : Nat} {nm : ByteArray} {bs : List (BitVec 8)} {K : Nat} {pl : List Plc} {flt : List (BitVec 8)} {x : Inf} {rd : Nat} (h : TabT A B w t f nm bs K pl flt x rd) : Calls Tryz.prog 41 #[.pointer (some ⟨t, 0, none⟩)] w fun e w' => e = .returned (.bool true) ∧ w' = w := by
  have t0 := h.src
  clear h
  go_enter Tryz.func41, Tryz.ntmps41
  go_wp2_with fail
  go_ret
  exact ⟨rfl, rfl⟩
theorem equal_any (a a' : Option Addr) (n n' c c' : Nat) (x y : List (BitVec 8)) (w : World) (h : Bytes w (.slice a n c) x) (h' : Bytes w (.slice a' n' c') y) :
    Calls Tryz.prog 46 #[.slice a n c, .slice a' n' c'] w fun e w' => e = .returned (.bool (decide (x = y))) ∧ w' = w := by
  have h1 := conv_any h
  have h2 := conv_any h'
  have hd : (u8s x == u8s y) = decide (x = y) := by
    by_cases e : x = y
    · simp [e]
    · have : ¬ u8s x = u8s y := fun e2 => e (u8s_inj e2)
      simp [e, this]
  rw [← hd]
  clear h h' hd
  go_enter Tryz.func46, Tryz.ntmps46
  go_wp2_with fail
  go_ret
  exact ⟨rfl, rfl⟩
theorem info35 : (Tryz.prog.info? 35).map (·.size) = some 4 := by kernel_rfl
def Four (u : World) (b : Nat) (ka : Option Addr) (kn kc seq : Nat) : Prop :=
  u.cell? ⟨b, 0, none⟩ = some (.slice ka kn kc) ∧ u.cell? ⟨b, 1, none⟩ = some (.int .u64 (seq : Nat)) ∧ u.cell? ⟨b, 2, none⟩ = some (.int .i64 0) ∧ u.cell? ⟨b, 3, none⟩ = some (.slice none 0 0)
section
variable (A : Nat → Prop) (B : Nat) (w : World) (t f : Nat) (nm : ByteArray) (bs : List (BitVec 8)) (K : Nat) (pl : List Plc) (flt : List (BitVec 8)) (x : Inf) (rd : Nat) (ka : Option Addr) (kn kc seq : Nat) (key : List (BitVec 8))
theorem get_none (h : TabT A B w t f nm bs K pl flt x rd) (hk : Bytes w (.slice ka kn kc) key) (hkn : kn ≤ 1000000) (hl : pl.length ≤ 1000000)
    (hm : ∀ i j, i ≤ j → j < pl.length → plcNot pl (key, seq) i = true → plcNot pl (key, seq) j = true) (hno : hasB flt key = false ∨ ∀ i, i < pl.length → plcNot pl (key, seq) i = false) :
    Calls Tryz.prog 21 #[.pointer (some ⟨t, 0, none⟩), .slice ka kn kc, .int .u64 (seq : Nat)] w fun e w' => e = .returned (.tuple #[.agg #[.slice none 0 0, .int .u64 0, .int .i64 0, .slice none 0 0], .int .i64 6]) ∧ Below w.heap.size w w' := by
  have T0 := hide ((Turns.refl (fun _ => False) w).alloc (.cells #[.slice none 0 0, .int .u64 0, .int .i64 0, .slice none 0 0] 35))
  have HT := hide (h.quiet T0.out)
  have HK := hide (hk.quiet T0.out)
  have HR := hide (heap_alloc_new w (.cells #[.slice none 0 0, .int .u64 0, .int .i64 0, .slice none 0 0] 35))
  have HNB := hide (fun (hh : A w.heap.size) => Nat.lt_irrefl _ (h.ab _ hh))
  have HNT := hide (show t ≠ w.heap.size from fun e => by have := lt_of_heap h.ex.choose_spec.choose_spec.choose_spec.choose_spec.1; omega)
  clear h hk
  go_enter Tryz.func21, Tryz.ntmps21
  go_upto_region 1 with (fail)
  generalize w.alloc (.cells #[.slice none 0 0, .int .u64 0, .int .i64 0, .slice none 0 0] 35) = w0 at *
  generalize hg0 : w.heap.size = g at *
  have HG0 := hide hg0
  clear hg0
  have MY := hide (tmade_yes HT.out)
  obtain ⟨pa, fa, pc, fc, h1, h2, h3, h4, h5⟩ := HT.out.ex
  have c9 : w0.cell? ⟨t, 9, none⟩ = some (.slice fa flt.length fc) := cell_of_row w0 t 9 _ 57 (0, 0) h1
  have HS := hide (has_any fa ka flt.length fc kn kc flt key w0 h4 HK.out (by omega))
  clear h1 h2 h3 h4 h5
  have HKN := hide hkn
  have HL := hide hl
  have HM := hide hm
  clear hkn hl hm
  have HNO := hide hno
  clear hno
  go_upto_region 2 with (first | (go_at_call 41; refine MY.out.mono ?_; rintro e w1 ⟨rfl, rfl⟩))
  refine HS.out.mono ?_
  rintro e w2 ⟨rfl, b2⟩
  have T2 := hide (Turns.of_below b2 (fun _ => False))
  have HR2 := hide (T2.out.heap HR.out (fun x => x))
  clear b2 HS MY
  cases hB : hasB flt key with
  | false =>
    clear hB HNO
    have q0 := cell_of_row w2 g 0 _ 35 (0, 0) HR2.out
    have q1 := cell_of_row w2 g 1 _ 35 (0, 0) HR2.out
    have q2 := cell_of_row w2 g 2 _ 35 (0, 0) HR2.out
    have q3 := cell_of_row w2 g 3 _ 35 (0, 0) HR2.out
    have f0 := frozen_of_row w2 g 0 _ 35 HR2.out
    have f1 := frozen_of_row w2 g 1 _ 35 HR2.out
    have f2 := frozen_of_row w2 g 2 _ 35 HR2.out
    have f3 := frozen_of_row w2 g 3 _ 35 HR2.out
    go_wp2_with fail
    have k3 := (((((Tick.refl HR2.out).set 0 (.slice none 0 0)).set 1 (.int .u64 0)).set 2 (.int .i64 0)).set 3 (.slice none 0 0))
    refine bodyPost_ret (v := .tuple #[.agg #[.slice none 0 0, .int .u64 0, .int .i64 0, .slice none 0 0], .int .i64 6]) ?_ rfl ?_
    · exact results_cell_tmp Tryz.results21 _ _ _ _ _ _ _ _ rfl rfl k3.1 Tryz.underlying35 rfl info35
    · exact ⟨rfl, ((T0.out.trans T2.out).andThen (Turns.of_tick k3) (fun k hk e => by have := HG0.out; omega)).below (by have := HG0.out; omega) (fun _ x => x.elim)⟩
  | true =>
    have HNO := hide (HNO.out.resolve_left (by rw [hB]; exact Bool.noConfusion))
    clear hB
    have HT2 := hide (HT.out.quiet T2.out)
    have HK2 := hide (HK.out.quiet T2.out)
    go_upto_region 6 with (fail)
    have HBX := hide (heap_alloc_new w2 (.cells #[.slice ka kn kc, .int .u64 (seq : Nat), .int .i64 0, .slice none 0 0] 35))
    have TA := hide ((Turns.refl (fun _ => False) w2).alloc (.cells #[.slice ka kn kc, .int .u64 (seq : Nat), .int .i64 0, .slice none 0 0] 35))
    generalize w2.alloc (.cells #[.slice ka kn kc, .int .u64 (seq : Nat), .int .i64 0, .slice none 0 0] 35) = w3 at *
    generalize hgp : w2.heap.size = gs at HBX ⊢
    have HGP := hide hgp
    clear hgp c9
    have HT3 := hide (HT2.out.quiet TA.out)
    have HK3 := hide (HK2.out.quiet TA.out)
    have SK := hide (fun (u : World) (tq : Turns (fun _ => False) w3 u) => show Four u gs ka kn kc seq from by
      have hb := tq.heap HBX.out (fun x => x)
      exact ⟨cell_of_row u gs 0 _ 35 (0, 0) hb, cell_of_row u gs 1 _ 35 (0, 0) hb, cell_of_row u gs 2 _ 35 (0, 0) hb, cell_of_row u gs 3 _ 35 (0, 0) hb⟩)
    have FI := hide (fun (u : World) (tq : Turns (fun _ => False) w3 u) => by
      obtain ⟨pa, fa, pc, fc, h1, h2, _⟩ := (HT3.out.quiet tq).ex
      exact find_any t 1 0 pl pa pc ka none kn kc seq 0 0 0 key u (cell_of_row u t 1 _ 57 (0, 0) h1) HL.out h2 (fun p hp => ((HT3.out.quiet tq).keys p hp).1) (HK3.out.quiet tq) HM.out)
    go_cut [9] from 28 to 32 (fun v wx => ∃ k : Nat, v = .int .i64 (k : Nat) ∧ Found (plcNot pl (key, seq)) pl.length k ∧ Turns (fun _ => False) w3 wx)
    case first =>
      rename_i kk rest jj kk' m1 m2
      clear rest
      have tV : Turns (fun _ => False) w3 w3.drew := (Turns.refl _ _).drew
      refine wp_region_held_drew (S := fun u => Four u gs ka kn kc seq) (by kernel_rfl) (SK.out _ tV) (fun _ => ?_)
      change wpAnyH _ _ _ _ _ 6 (Array.replicate 6 false) _ _
      refine wpAnyH_take (i := 0) (oi := { dst := some 28, op := Op.move (Operand.tmp 0), type := 22, pos := "read.go:23", after := #[], guard := none }) (v := .pointer (some ⟨t, 0, none⟩)) rfl (by kernel_rfl) (by kernel_rfl) (by kernel_rfl) (fun _ _ _ h => h) (Or.inl ⟨by rfl, ?_⟩) (SK.out _ tV) ?_
      · rintro w ⟨q0, q1, q2, q3⟩
        go_simp
      simp only [Act.put, List.setIfInBounds_toArray, List.set_cons_zero, List.set_cons_succ]
      refine wpAnyH_take (i := 1) (oi := { dst := some 29, op := Op.nilCheck (Operand.tmp 28), type := 0, pos := "read.go:23", after := #[{ on := 0, ground := Ground.data }], guard := none }) (v := .pointer (some ⟨t, 0, none⟩)) rfl (by kernel_rfl) (by kernel_rfl) (by kernel_rfl) (fun _ _ _ h => h) (Or.inl ⟨by rfl, ?_⟩) (SK.out _ tV) ?_
      · rintro w ⟨q0, q1, q2, q3⟩
        go_simp
      simp only [Act.put, List.setIfInBounds_toArray, List.set_cons_zero, List.set_cons_succ]
      refine wpAnyH_take (i := 2) (oi := { dst := some 30, op := Op.fieldAddr 57 (Operand.tmp 29) 1, type := 0, pos := "read.go:23", after := #[{ on := 1, ground := Ground.data }], guard := none }) (v := .pointer (some ⟨t, 1, none⟩)) rfl (by kernel_rfl) (by kernel_rfl) (by kernel_rfl) (fun _ _ _ h => h) (Or.inl ⟨by rfl, ?_⟩) (SK.out _ tV) ?_
      · rintro w ⟨q0, q1, q2, q3⟩
        go_simp
      simp only [Act.put, List.setIfInBounds_toArray, List.set_cons_zero, List.set_cons_succ]
      refine wpAnyH_take (i := 3) (oi := { dst := some 31, op := Op.load 35 (Operand.tmp 8), type := 35, pos := "read.go:23", after := #[], guard := none }) (v := .agg #[.slice ka kn kc, .int .u64 (seq : Nat), .int .i64 0, .slice none 0 0]) rfl (by kernel_rfl) (by kernel_rfl) (by kernel_rfl) (fun _ _ _ h => h) (Or.inl ⟨by rfl, ?_⟩) (SK.out _ tV) ?_
      · rintro w ⟨q0, q1, q2, q3⟩
        go_simp
      simp only [Act.put, List.setIfInBounds_toArray, List.set_cons_zero, List.set_cons_succ]
      refine wpAnyH_ready (rs := [4]) (by kernel_rfl) (by simp) ?_
      refine AllReadyH.cons rfl (fun K hK => ?_) AllReadyH.nil
      go_simp
      refine (FI.out _ tV).mono ?_
      rintro oo Vn ⟨k, rfl, hf, b2⟩
      have tN := Turns.of_below b2 (fun _ => False)
      have tV := tV.trans tN
      have FO := hide hf
      clear b2 FI hf
      clear tN
      go_simp
      refine hK.out _ _ (SK.out _ tV) (fun _ => ?_)
      clear hK K
      refine wpAnyH_take (i := 5) (oi := { dst := some 9, op := Op.assign (Operand.tmp 32), type := 3, pos := "read.go:23", after := #[{ on := 4, ground := Ground.data }, { on := 4, ground := Ground.chain }, { on := 0, ground := Ground.phase }, { on := 1, ground := Ground.phase }, { on := 2, ground := Ground.phase }, { on := 3, ground := Ground.phase }, { on := 4, ground := Ground.phase }], guard := none }) (v := .int .i64 (k : Nat)) rfl (by kernel_rfl) (by kernel_rfl) (by kernel_rfl) (fun _ _ _ h => h) (Or.inl ⟨by rfl, ?_⟩) (SK.out _ tV) ?_
      · rintro w ⟨q0, q1, q2, q3⟩
        go_simp
      simp only [Act.put, List.setIfInBounds_toArray, List.set_cons_zero, List.set_cons_succ]
      refine wpAnyH_done (by kernel_rfl) ?_ _
      go_wp2_with fail
      go_meet
      exact ⟨k, rfl, FO.out, tV⟩
    case rest =>
      obtain ⟨k, rfl, hF, t4⟩ := hcut
      obtain rfl : k = pl.length := by
        rcases Nat.lt_or_ge k pl.length with hlt | hge
        · have h1 := hF.2.2 k (Nat.le_refl _) hlt
          rw [HNO.out k hlt] at h1
          cases h1
        · exact Nat.le_antisymm hF.1 hge
      have T4 := hide ((T2.out.trans TA.out).trans t4)
      have HR4 := hide (T4.out.heap HR.out (fun x => x))
      obtain ⟨pa', fa', pc', fc', h1, _⟩ := (HT3.out.quiet t4).ex
      have c1 : wc.cell? ⟨t, 1, none⟩ = some (.slice pa' pl.length pc') := cell_of_row wc t 1 _ 57 (0, 0) h1
      clear h1 t4 SK FI hF
      generalize pl.length = L at *
      have q0 := cell_of_row wc g 0 _ 35 (0, 0) HR4.out
      have q1 := cell_of_row wc g 1 _ 35 (0, 0) HR4.out
      have q2 := cell_of_row wc g 2 _ 35 (0, 0) HR4.out
      have q3 := cell_of_row wc g 3 _ 35 (0, 0) HR4.out
      have f0 := frozen_of_row wc g 0 _ 35 HR4.out
      have f1 := frozen_of_row wc g 1 _ 35 HR4.out
      have f2 := frozen_of_row wc g 2 _ 35 HR4.out
      have f3 := frozen_of_row wc g 3 _ 35 HR4.out
      go_wp2_with fail
      have k3 := (((((Tick.refl HR4.out).set 0 (.slice none 0 0)).set 1 (.int .u64 0)).set 2 (.int .i64 0)).set 3 (.slice none 0 0))
      refine bodyPost_ret (v := .tuple #[.agg #[.slice none 0 0, .int .u64 0, .int .i64 0, .slice none 0 0], .int .i64 6]) ?_ rfl ?_
      · exact results_cell_tmp Tryz.results21 _ _ _ _ _ _ _ _ rfl rfl k3.1 Tryz.underlying35 rfl info35
      · exact ⟨rfl, ((T0.out.trans T4.out).andThen (Turns.of_tick k3) (fun k hk e => by have := HG0.out; omega)).below (by have := HG0.out; omega) (fun _ x => x.elim)⟩
theorem get_hit (h : TabT A B w t f nm bs K pl flt x rd) (hk : Bytes w (.slice ka kn kc) key) (hkn : kn ≤ 1000000) (hl : pl.length ≤ 1000000)
    (hm : ∀ i j, i ≤ j → j < pl.length → plcNot pl (key, seq) i = true → plcNot pl (key, seq) j = true) (hB : hasB flt key = true) (hfar : ∀ a, ka = some a → ¬ A a.block ∧ a.block ≠ t) (hBw : B ≤ w.heap.size)
    (hnm : goodN nm = true) (hns : nm.size ≤ 64) (hKK : K ≤ 999999) (hrd : rd ≤ 1000000) (k0 : Nat) (hk0 : Found (plcNot pl (key, seq)) pl.length k0) (p : Plc) (es : List Ent) (hp : pl[k0]? = some p)
    (hF : readOf bs p.pos p.size = Fr.frameB 2#8 (blkB es)) (hsz : p.size = (blkB es).length + 12) (hpe : p.pos + p.size ≤ 1000000000) (hbl : (blkB es).length ≤ 40000) (hpk : parseK (blkB es) = some es) (hne : es ≠ []) (hel : es.length ≤ 1000000) (e0 : Ent) (hlast : es.getLast? = some e0) (hen : e0.en = p.t.e.en)
    (hmo : ∀ R : List Tow, ents R = es → ∀ i j, i ≤ j → j < R.length → towNot R (key, seq) i = true → towNot R (key, seq) j = true) (j0 : Nat) (hj0 : ∀ R : List Tow, ents R = es → Found (towNot R (key, seq)) R.length j0) (e1 : Ent) (he1 : es[j0]? = some e1) (hkey : e1.key = key) :
    Calls Tryz.prog 21 #[.pointer (some ⟨t, 0, none⟩), .slice ka kn kc, .int .u64 (seq : Nat)] w fun e w' => ∃ ka' kc' va' vc', e = .returned (.tuple #[.agg #[.slice ka' e1.key.length kc', .int .u64 (e1.seq : Nat), .int .i64 e1.kind, .slice va' e1.val.length vc'], .int .i64 0]) ∧ Bytes w' (.slice ka' e1.key.length kc') e1.key ∧ Bytes w' (.slice va' e1.val.length vc') e1.val ∧ TabT A B w' t f nm bs (K + 1) pl flt x (rd + 1) ∧ Turns (fun k => A k ∨ k = t) w w' := by
  have T0 := hide ((Turns.refl (fun _ => False) w).alloc (.cells #[.slice none 0 0, .int .u64 0, .int .i64 0, .slice none 0 0] 35))
  have HT := hide (h.quiet T0.out)
  have HK := hide (hk.quiet T0.out)
  have HR := hide (heap_alloc_new w (.cells #[.slice none 0 0, .int .u64 0, .int .i64 0, .slice none 0 0] 35))
  have HNB := hide (fun (hh : A w.heap.size) => Nat.lt_irrefl _ (h.ab _ hh))
  have HNT := hide (show t ≠ w.heap.size from fun e => by have := lt_of_heap h.ex.choose_spec.choose_spec.choose_spec.choose_spec.1; omega)
  clear h hk
  go_enter Tryz.func21, Tryz.ntmps21
  go_upto_region 1 with (fail)
  generalize w.alloc (.cells #[.slice none 0 0, .int .u64 0, .int .i64 0, .slice none 0 0] 35) = w0 at *
  generalize hg0 : w.heap.size = g at *
  have HG0 := hide hg0
  clear hg0
  have MY := hide (tmade_yes HT.out)
  obtain ⟨pa, fa, pc, fc, h1, h2, h3, h4, h5⟩ := HT.out.ex
  have c9 : w0.cell? ⟨t, 9, none⟩ = some (.slice fa flt.length fc) := cell_of_row w0 t 9 _ 57 (0, 0) h1
  have HS := hide (has_any fa ka flt.length fc kn kc flt key w0 h4 HK.out (by omega))
  clear h1 h2 h3 h4 h5
  have HKN := hide hkn
  have HL := hide hl
  have HM := hide hm
  clear hkn hl hm
  have RB := hide (fun (u : World) (hu : TabT A B u t f nm bs K pl flt x rd) => readBlock_ok A B u t f nm bs K pl flt x rd k0 p es hu hnm hns hKK hrd hp hF hsz hpe hbl hpk hne hel e0 hlast hen)
  have HMO := hide hmo
  have HJ0 := hide hj0
  have HK0 := hide hk0
  have HE1 := hide he1
  have HKEY := hide hkey
  have HBB := hide hB
  have HFAR := hide hfar
  have HP0 := hide (show k0 < pl.length from (List.getElem?_eq_some_iff.1 hp).1)
  have HEL := hide hel
  clear hF hsz hpe hbl hpk hne hel hlast hen hmo hj0 hk0 he1 hkey hB hfar hp hnm hns hKK hrd
  go_upto_region 2 with (first | (go_at_call 41; refine MY.out.mono ?_; rintro e w1 ⟨rfl, rfl⟩))
  refine HS.out.mono ?_
  rintro e w2 ⟨rfl, b2⟩
  have T2 := hide (Turns.of_below b2 (fun _ => False))
  have HR2 := hide (T2.out.heap HR.out (fun x => x))
  clear b2 HS MY
  rw [HBB.out]
  have HT2 := hide (HT.out.quiet T2.out)
  have HK2 := hide (HK.out.quiet T2.out)
  go_upto_region 6 with (fail)
  have HBX := hide (heap_alloc_new w2 (.cells #[.slice ka kn kc, .int .u64 (seq : Nat), .int .i64 0, .slice none 0 0] 35))
  have TA := hide ((Turns.refl (fun _ => False) w2).alloc (.cells #[.slice ka kn kc, .int .u64 (seq : Nat), .int .i64 0, .slice none 0 0] 35))
  generalize w2.alloc (.cells #[.slice ka kn kc, .int .u64 (seq : Nat), .int .i64 0, .slice none 0 0] 35) = w3 at *
  generalize hgp : w2.heap.size = gs at HBX ⊢
  have HGP := hide hgp
  clear hgp c9
  have HT3 := hide (HT2.out.quiet TA.out)
  have HK3 := hide (HK2.out.quiet TA.out)
  have SK := hide (fun (u : World) (tq : Turns (fun _ => False) w3 u) => show Four u gs ka kn kc seq from by
    have hb := tq.heap HBX.out (fun x => x)
    exact ⟨cell_of_row u gs 0 _ 35 (0, 0) hb, cell_of_row u gs 1 _ 35 (0, 0) hb, cell_of_row u gs 2 _ 35 (0, 0) hb, cell_of_row u gs 3 _ 35 (0, 0) hb⟩)
  have FI := hide (fun (u : World) (tq : Turns (fun _ => False) w3 u) => by
    obtain ⟨pa, fa, pc, fc, h1, h2, _⟩ := (HT3.out.quiet tq).ex
    exact find_any t 1 0 pl pa pc ka none kn kc seq 0 0 0 key u (cell_of_row u t 1 _ 57 (0, 0) h1) HL.out h2 (fun p hp => ((HT3.out.quiet tq).keys p hp).1) (HK3.out.quiet tq) HM.out)
  go_cut [9] from 28 to 32 (fun v wx => ∃ k : Nat, v = .int .i64 (k : Nat) ∧ Found (plcNot pl (key, seq)) pl.length k ∧ Turns (fun _ => False) w3 wx)
  case first =>
    rename_i kk rest jj kk' m1 m2
    clear rest
    have tV : Turns (fun _ => False) w3 w3.drew := (Turns.refl _ _).drew
    refine wp_region_held_drew (S := fun u => Four u gs ka kn kc seq) (by kernel_rfl) (SK.out _ tV) (fun _ => ?_)
    change wpAnyH _ _ _ _ _ 6 (Array.replicate 6 false) _ _
    refine wpAnyH_take (i := 0) (oi := { dst := some 28, op := Op.move (Operand.tmp 0), type := 22, pos := "read.go:23", after := #[], guard := none }) (v := .pointer (some ⟨t, 0, none⟩)) rfl (by kernel_rfl) (by kernel_rfl) (by kernel_rfl) (fun _ _ _ h => h) (Or.inl ⟨by rfl, ?_⟩) (SK.out _ tV) ?_
    · rintro w ⟨q0, q1, q2, q3⟩
      go_simp
    simp only [Act.put, List.setIfInBounds_toArray, List.set_cons_zero, List.set_cons_succ]
    refine wpAnyH_take (i := 1) (oi := { dst := some 29, op := Op.nilCheck (Operand.tmp 28), type := 0, pos := "read.go:23", after := #[{ on := 0, ground := Ground.data }], guard := none }) (v := .pointer (some ⟨t, 0, none⟩)) rfl (by kernel_rfl) (by kernel_rfl) (by kernel_rfl) (fun _ _ _ h => h) (Or.inl ⟨by rfl, ?_⟩) (SK.out _ tV) ?_
    · rintro w ⟨q0, q1, q2, q3⟩
      go_simp
    simp only [Act.put, List.setIfInBounds_toArray, List.set_cons_zero, List.set_cons_succ]
    refine wpAnyH_take (i := 2) (oi := { dst := some 30, op := Op.fieldAddr 57 (Operand.tmp 29) 1, type := 0, pos := "read.go:23", after := #[{ on := 1, ground := Ground.data }], guard := none }) (v := .pointer (some ⟨t, 1, none⟩)) rfl (by kernel_rfl) (by kernel_rfl) (by kernel_rfl) (fun _ _ _ h => h) (Or.inl ⟨by rfl, ?_⟩) (SK.out _ tV) ?_
    · rintro w ⟨q0, q1, q2, q3⟩
      go_simp
    simp only [Act.put, List.setIfInBounds_toArray, List.set_cons_zero, List.set_cons_succ]
    refine wpAnyH_take (i := 3) (oi := { dst := some 31, op := Op.load 35 (Operand.tmp 8), type := 35, pos := "read.go:23", after := #[], guard := none }) (v := .agg #[.slice ka kn kc, .int .u64 (seq : Nat), .int .i64 0, .slice none 0 0]) rfl (by kernel_rfl) (by kernel_rfl) (by kernel_rfl) (fun _ _ _ h => h) (Or.inl ⟨by rfl, ?_⟩) (SK.out _ tV) ?_
    · rintro w ⟨q0, q1, q2, q3⟩
      go_simp
    simp only [Act.put, List.setIfInBounds_toArray, List.set_cons_zero, List.set_cons_succ]
    refine wpAnyH_ready (rs := [4]) (by kernel_rfl) (by simp) ?_
    refine AllReadyH.cons rfl (fun K hK => ?_) AllReadyH.nil
    go_simp
    refine (FI.out _ tV).mono ?_
    rintro oo Vn ⟨k, rfl, hf, b2⟩
    have tN := Turns.of_below b2 (fun _ => False)
    have tV := tV.trans tN
    have FO := hide hf
    clear b2 FI hf
    clear tN
    go_simp
    refine hK.out _ _ (SK.out _ tV) (fun _ => ?_)
    clear hK K
    refine wpAnyH_take (i := 5) (oi := { dst := some 9, op := Op.assign (Operand.tmp 32), type := 3, pos := "read.go:23", after := #[{ on := 4, ground := Ground.data }, { on := 4, ground := Ground.chain }, { on := 0, ground := Ground.phase }, { on := 1, ground := Ground.phase }, { on := 2, ground := Ground.phase }, { on := 3, ground := Ground.phase }, { on := 4, ground := Ground.phase }], guard := none }) (v := .int .i64 (k : Nat)) rfl (by kernel_rfl) (by kernel_rfl) (by kernel_rfl) (fun _ _ _ h => h) (Or.inl ⟨by rfl, ?_⟩) (SK.out _ tV) ?_
    · rintro w ⟨q0, q1, q2, q3⟩
      go_simp
    simp only [Act.put, List.setIfInBounds_toArray, List.set_cons_zero, List.set_cons_succ]
    refine wpAnyH_done (by kernel_rfl) ?_ _
    go_wp2_with fail
    go_meet
    exact ⟨k, rfl, FO.out, tV⟩
  case rest =>
    obtain ⟨k, rfl, hF, t4⟩ := hcut
    obtain rfl : k = k0 := by
      have h0 := HK0.out
      rcases Nat.lt_trichotomy k k0 with hlt | he | hgt
      · have h1 := hF.2.2 k (Nat.le_refl _) (Nat.lt_trans hlt HP0.out)
        rw [h0.2.1 k hlt] at h1
        cases h1
      · exact he
      · have h1 := h0.2.2 k0 (Nat.le_refl _) HP0.out
        rw [hF.2.1 k0 hgt] at h1
        cases h1
    have T4 := hide ((T2.out.trans TA.out).trans t4)
    have HT4 := hide (HT3.out.quiet t4)
    have HK4 := hide (HK3.out.quiet t4)
    have HBX4 := hide (t4.heap HBX.out (fun x => x))
    obtain ⟨pa', fa', pc', fc', h1, _⟩ := HT4.out.ex
    have c1 : wc.cell? ⟨t, 1, none⟩ = some (.slice pa' pl.length pc') := cell_of_row wc t 1 _ 57 (0, 0) h1
    have hlt : k < pl.length := HP0.out
    clear h1 t4 SK FI hF
    generalize pl.length = L at *
    go_upto_region 9 with (fail)
    go_wp2_with fail
    refine (RB.out _ HT4.out).mono ?_
    rintro oo w5 ⟨a5, c5, R, rfl, hes, hrow, hsh, hT5, t5⟩
    have HES := hide hes
    have ROW := hide hrow
    have SH := hide hsh
    have T5 := hide t5
    have HT5 := hide hT5
    have HK5 := hide (bytes_keep HK4.out t5 (fun a ha => fun hh => hh.elim (HFAR.out a ha).1 (HFAR.out a ha).2))
    have HSZ := hide (show g < gs ∧ gs < wc.heap.size from ⟨by rw [← HGP.out]; exact lt_of_heap HR2.out, lt_of_heap HBX4.out⟩)
    have NGS := hide (show ¬ (A gs ∨ gs = t) from fun hh => hh.elim (fun ha => by have := HT2.out.ab _ ha; have := HGP.out; omega) (fun he => by
      have h1 := lt_of_heap HT2.out.ex.choose_spec.choose_spec.choose_spec.choose_spec.1
      have := HGP.out; omega))
    have NG := hide (show ¬ (A g ∨ g = t) from fun hh => hh.elim (fun ha => HNB.out ha) (fun he => HNT.out he.symm))
    have HBX5 := hide (t5.heap HBX4.out NGS.out)
    have HR5 := hide (t5.heap (T4.out.heap HR.out (fun x => x)) NG.out)
    clear hes hrow hsh t5 hT5 c1 hlt
    obtain ⟨y, hy, hye⟩ : ∃ y, R[j0]? = some y ∧ y.e = e1 := by
      have h1 := HE1.out
      rw [← HES.out, ents, List.getElem?_map] at h1
      cases hR : R[j0]? with
      | none => rw [hR] at h1; cases h1
      | some y => rw [hR] at h1; exact ⟨y, rfl, by simpa using h1⟩
    have hjl : j0 < R.length := (List.getElem?_eq_some_iff.1 hy).1
    obtain ⟨b7, rfl, hc7⟩ : ∃ b7, a5 = some ⟨b7, 0, none⟩ ∧ R.length ≤ c5 := by
      rcases ROW.out with ⟨h1, _⟩ | ⟨g', c', n', h1, h2, h3, _⟩
      · rw [h1] at hjl; cases hjl
      · cases h1; exact ⟨g', rfl, h3⟩
    have HEN := hide (ents_of ROW.out SH.out)
    have HYB := hide (SH.out y (List.mem_of_getElem? hy))
    have AH := hide (ahead_any b7 0 R.length c5 R ka none kn kc seq 0 0 0 key w5 HEN.out rfl (by have h1 := congrArg List.length HES.out; rw [ents, List.length_map] at h1; have := HEL.out; omega) HK5.out (HMO.out R HES.out))
    obtain ⟨b7', off7', ea, hcell⟩ := (HEN.out j0 y hy).1
    cases ea
    obtain ⟨yka, ykc, yva, yvc, ye⟩ := y
    have hye2 : e1 = ye := hye.symm
    clear hye
    subst hye2
    have Z := hide (show w5.cell? ⟨b7, 0 + j0 * 4, none⟩ = some (.slice yka e1.key.length ykc) ∧ w5.cell? ⟨b7, 0 + j0 * 4 + 1, none⟩ = some (.int .u64 (e1.seq : Nat)) ∧ w5.cell? ⟨b7, 0 + j0 * 4 + 2, none⟩ = some (.int .i64 e1.kind) ∧ w5.cell? ⟨b7, 0 + j0 * 4 + 3, none⟩ = some (.slice yva e1.val.length yvc) from ⟨hcell 0 _ rfl, hcell 1 _ rfl, hcell 2 _ rfl, hcell 3 _ rfl⟩)
    have EQ := hide (fun (u : World) (tq : Turns (fun _ => False) w5 u) => equal_any yka ka e1.key.length kn ykc kc e1.key key u (Bytes.quiet (show Bytes w5 (.slice yka e1.key.length ykc) e1.key from HYB.out.1) tq) (HK5.out.quiet tq))
    have HJF := hide (HJ0.out R HES.out)
    have x0 := cell_of_row w5 gs 0 _ 35 (0, 0) HBX5.out
    have x1 := cell_of_row w5 gs 1 _ 35 (0, 0) HBX5.out
    have x2 := cell_of_row w5 gs 2 _ 35 (0, 0) HBX5.out
    have x3 := cell_of_row w5 gs 3 _ 35 (0, 0) HBX5.out
    clear hcell hy
    generalize hRl : R.length = n at *
    have HRL := hide hRl
    clear hRl
    go_upto_region 12 with (fail)
    have hJN : j0 < n := hjl
    have JN := hide (show j0 < n ∧ n ≤ c5 from ⟨hjl, hc7⟩)
    clear hjl hc7 hJN
    go_wp2_with fail
    refine AH.out.mono ?_
    rintro oo w6 ⟨j, rfl, hfj, b6⟩
    obtain rfl : j = j0 := by
      have h0 := HJF.out
      have h9 := JN.out
      rcases Nat.lt_trichotomy j j0 with hlt | he | hgt
      · have h1 := hfj.2.2 j (Nat.le_refl _) (by have := HRL.out; omega)
        rw [h0.2.1 j hlt] at h1
        cases h1
      · exact he
      · have h1 := h0.2.2 j0 (Nat.le_refl _) (by have := HRL.out; omega)
        rw [hfj.2.1 j0 hgt] at h1
        cases h1
    rw [if_neg (show ¬ c5 = j from by have := JN.out; omega)]
    have T6 := hide (Turns.of_below b6 (fun _ => False))
    have Z' := Z.out
    rw [Nat.zero_add] at Z'
    have z0 : w6.cell? ⟨b7, j * 4, none⟩ = some (.slice yka e1.key.length ykc) := T6.out.cell Z'.1 (fun x => x)
    have z1 : w6.cell? ⟨b7, j * 4 + 1, none⟩ = some (.int .u64 (e1.seq : Nat)) := T6.out.cell Z'.2.1 (fun x => x)
    have z2 : w6.cell? ⟨b7, j * 4 + 2, none⟩ = some (.int .i64 e1.kind) := T6.out.cell Z'.2.2.1 (fun x => x)
    have z3 : w6.cell? ⟨b7, j * 4 + 3, none⟩ = some (.slice yva e1.val.length yvc) := T6.out.cell Z'.2.2.2 (fun x => x)
    obtain ⟨m, hm1, hm2⟩ : ∃ m, n - j = m + 1 ∧ m + 1 ≤ c5 - j := ⟨n - j - 1, by have := JN.out; omega, by have := JN.out; omega⟩
    rw [hm1]
    have TB := hide ((T6.out.alloc (.cells #[.slice yka e1.key.length ykc, .int .u64 (e1.seq : Nat), .int .i64 e1.kind, .slice yva e1.val.length yvc] 35)))
    have HFB := hide (heap_alloc_new w6 (.cells #[.slice yka e1.key.length ykc, .int .u64 (e1.seq : Nat), .int .i64 e1.kind, .slice yva e1.val.length yvc] 35))
    clear Z' b6 x0 x1 x2 x3 hm1 AH hfj
    go_upto_region 13 with (fail)
    generalize w6.alloc (.cells #[.slice yka e1.key.length ykc, .int .u64 (e1.seq : Nat), .int .i64 e1.kind, .slice yva e1.val.length yvc] 35) = w7 at *
    generalize hgb : w6.heap.size = gb at HFB ⊢
    have HGB := hide hgb
    clear hgb z0 z1 z2 z3 hm2
    have HR7 := hide (TB.out.heap HR5.out (fun x => x))
    have EQ7 := hide (EQ.out _ TB.out)
    have y0 := cell_of_row w7 gb 0 _ 35 (0, 0) HFB.out
    have y1 := cell_of_row w7 gb 1 _ 35 (0, 0) HFB.out
    have y2 := cell_of_row w7 gb 2 _ 35 (0, 0) HFB.out
    have y3 := cell_of_row w7 gb 3 _ 35 (0, 0) HFB.out
    have q0 := cell_of_row w7 g 0 _ 35 (0, 0) HR7.out
    have q1 := cell_of_row w7 g 1 _ 35 (0, 0) HR7.out
    have q2 := cell_of_row w7 g 2 _ 35 (0, 0) HR7.out
    have q3 := cell_of_row w7 g 3 _ 35 (0, 0) HR7.out
    have f0 := frozen_of_row w7 g 0 _ 35 HR7.out
    have f1 := frozen_of_row w7 g 1 _ 35 HR7.out
    have f2 := frozen_of_row w7 g 2 _ 35 HR7.out
    have f3 := frozen_of_row w7 g 3 _ 35 HR7.out
    go_wp2_with (go_at_call 46; refine EQ7.out.mono ?_; rintro oo w8 ⟨rfl, hw8⟩; subst hw8; rw [show decide (e1.key = key) = true from by simp [HKEY.out]])
    have k3 := (((((Tick.refl HR7.out).set 0 (.slice yka e1.key.length ykc)).set 1 (.int .u64 (e1.seq : Nat))).set 2 (.int .i64 e1.kind)).set 3 (.slice yva e1.val.length yvc))
    have u3 := Turns.of_tick k3
    have hgw := HG0.out
    refine bodyPost_ret (v := .tuple #[.agg #[.slice yka e1.key.length ykc, .int .u64 (e1.seq : Nat), .int .i64 e1.kind, .slice yva e1.val.length yvc], .int .i64 0]) ?_ rfl ?_
    · exact results_cell_tmp Tryz.results21 _ _ _ _ _ _ _ _ rfl rfl k3.1 Tryz.underlying35 rfl info35
    · have hsz := HSZ.out
      refine ⟨yka, ykc, yva, yvc, rfl, bytes_keep (Bytes.quiet (show Bytes w5 (.slice yka e1.key.length ykc) e1.key from HYB.out.1) TB.out) u3 fun a e hg => ?_, bytes_keep (Bytes.quiet (show Bytes w5 (.slice yva e1.val.length yvc) e1.val from HYB.out.2.1) TB.out) u3 fun a e hg => ?_, (HT5.out.quiet TB.out).over u3 (fun k hk => ?_), ?_⟩
      · have h1 := (HYB.out.2.2 a.block (.inl ⟨a, e, rfl⟩)).1
        have h2 : a.block = g := hg
        omega
      · have h1 := (HYB.out.2.2 a.block (.inr ⟨a, e, rfl⟩)).1
        have h2 : a.block = g := hg
        omega
      · have h2 : k = g := hk
        subst h2
        exact ⟨by omega, fun ha => NG.out (.inl ha), fun he => NG.out (.inr he)⟩
      · exact ((((T0.out.trans T4.out).mono (fun _ _ x => x.elim)).trans T5.out).trans (TB.out.mono (fun _ _ x => x.elim))).andThen u3 (fun k hk e => by have h2 : k = g := e; omega)
end
end Go.Proofs.YtjklbhdhjfifhaaGreat

/-
  An index, read whole.
-/
namespace Go.Proofs.YtjklbhdhjfifhaaGreat
open Go.RowKit
set_option maxRecDepth 100000
set_option maxHeartbeats 4000000
def Em2 (u : World) (b : Nat) (pa : Option Addr) (n pc : Nat) (ma : Option Addr) (mn mc gq m : Nat) (x : Plc) : Prop :=
  u.cell? ⟨b, 0, none⟩ = some (.slice pa n pc) ∧ u.cell? ⟨b, 5, none⟩ = some (.slice ma mn mc) ∧ u.cell? ⟨gq, m * 6 + 2, none⟩ = some (.slice x.t.ka x.t.e.key.length x.t.kc)
theorem endsInMost_ok (b : Nat) (l : List Plc) (pa : Option Addr) (pc B : Nat) (x : Plc) (ma : Option Addr) (mn mc : Nat) (w : World) (hc : w.cell? ⟨b, 0, none⟩ = some (.slice pa l.length pc)) (h5 : w.cell? ⟨b, 5, none⟩ = some (.slice ma mn mc)) (hl : l.length ≤ 1000000) (hrow : PRow w B (.slice pa l.length pc) l) (hx : l.getLast? = some x) (h1 : Bytes w x.t.kv x.t.e.key) (h2 : Bytes w (.slice ma mn mc) x.t.e.key) :
    Calls Tryz.prog 101 #[.pointer (some ⟨b, 0, none⟩)] w fun e w' => e = .returned (.bool true) ∧ Turns (fun _ => False) w w' := by
  obtain ⟨m, hm⟩ : ∃ m, l.length = m + 1 := ⟨l.length - 1, by
    have h2 : l ≠ [] := fun h => by rw [h] at hx; cases hx
    have := List.length_pos_iff.2 h2
    omega⟩
  have hxm : l[m]? = some x := by
    rw [List.getLast?_eq_getElem?, hm] at hx
    exact hx
  obtain ⟨gq, c9, hv9, hpc⟩ := hrow.at_ hxm
  obtain ⟨rfl, rfl⟩ : pa = some ⟨gq, 0, none⟩ ∧ pc = c9 := by cases hv9; exact ⟨rfl, rfl⟩
  have y2 : w.cell? ⟨gq, m * 6 + 2, none⟩ = some (.slice x.t.ka x.t.e.key.length x.t.kc) := hpc 2 _ rfl
  rw [hm] at hc
  have SK := hide (fun (u : World) (tq : Turns (fun _ => False) w u) => show Em2 u b (some ⟨gq, 0, none⟩) (m + 1) pc ma mn mc gq m x from ⟨tq.cell hc (fun x => x), tq.cell h5 (fun x => x), tq.cell y2 (fun x => x)⟩)
  have CP := hide (fun (u : World) (tq : Turns (fun _ => False) w u) => equal_any x.t.ka ma x.t.e.key.length mn x.t.kc mc x.t.e.key x.t.e.key u (h1.quiet tq) (h2.quiet tq))
  rw [show decide (x.t.e.key = x.t.e.key) = true by simp] at CP
  have mb : m ≤ 1000000 := by omega
  clear hrow hx h1 h2 hm hxm hv9 hpc y2 h5 hl
  go_enter Tryz.func101, Tryz.ntmps101
  go_upto_region 2 with (fail)
  clear hc
  go_cut [2] from 9 to 28 (fun v wx => v = .bool true ∧ Turns (fun _ => False) w wx)
  case first =>
    rename_i kk rest jj kk' m1 m2
    clear rest
    have tV : Turns (fun _ => False) w w.drew := (Turns.refl _ _).drew
    refine wp_region_held_drew (S := fun u => Em2 u b (some ⟨gq, 0, none⟩) (m + 1) pc ma mn mc gq m x) (by kernel_rfl) (SK.out _ tV) (fun _ => ?_)
    change wpAnyH _ _ _ _ _ 21 (Array.replicate 21 false) _ _
    refine wpAnyH_take (i := 0) (oi := { dst := some 9, op := Op.move (Operand.tmp 3), type := 3, pos := "index.go:111", after := #[], guard := none }) (v := .int .i64 ((m + 1 : Nat) : Int)) rfl (by kernel_rfl) (by kernel_rfl) (by kernel_rfl) (fun _ _ _ h => h) (Or.inl ⟨by rfl, ?_⟩) (SK.out _ tV) ?_
    · rintro w ⟨q0, q5, y2⟩
      go_simp
    simp only [Act.put, List.setIfInBounds_toArray, List.set_cons_zero, List.set_cons_succ]
    refine wpAnyH_take (i := 1) (oi := { dst := some 10, op := Op.binOp BinOp.gtr 3 (Operand.tmp 9) (Operand.const (Value.int IntKind.i64 0)) 3, type := 4, pos := "index.go:111", after := #[{ on := 0, ground := Ground.data }], guard := none }) (v := .bool true) rfl (by kernel_rfl) (by kernel_rfl) (by kernel_rfl) (fun _ _ _ h => h) (Or.inl ⟨by rfl, ?_⟩) (SK.out _ tV) ?_
    · rintro w ⟨q0, q5, y2⟩
      go_simp
    simp only [Act.put, List.setIfInBounds_toArray, List.set_cons_zero, List.set_cons_succ]
    refine wpAnyH_take (i := 2) (oi := { dst := some 11, op := Op.move (Operand.tmp 10), type := 4, pos := "index.go:111", after := #[{ on := 1, ground := Ground.data }], guard := none }) (v := .bool true) rfl (by kernel_rfl) (by kernel_rfl) (by kernel_rfl) (fun _ _ _ h => h) (Or.inl ⟨by rfl, ?_⟩) (SK.out _ tV) ?_
    · rintro w ⟨q0, q5, y2⟩
      go_simp
    simp only [Act.put, List.setIfInBounds_toArray, List.set_cons_zero, List.set_cons_succ]
    refine wpAnyH_take (i := 3) (oi := { dst := some 12, op := Op.move (Operand.tmp 0), type := 116, pos := "index.go:111", after := #[{ on := 2, ground := Ground.guard }], guard := some (2, true) }) (v := .pointer (some ⟨b, 0, none⟩)) rfl (by kernel_rfl) (by kernel_rfl) (by kernel_rfl) (fun _ _ _ h => h) (Or.inl ⟨by rfl, ?_⟩) (SK.out _ tV) ?_
    · rintro w ⟨q0, q5, y2⟩
      go_simp
    simp only [Act.put, List.setIfInBounds_toArray, List.set_cons_zero, List.set_cons_succ]
    refine wpAnyH_take (i := 4) (oi := { dst := some 13, op := Op.nilCheck (Operand.tmp 12), type := 0, pos := "index.go:111", after := #[{ on := 3, ground := Ground.data }, { on := 2, ground := Ground.guard }], guard := some (2, true) }) (v := .pointer (some ⟨b, 0, none⟩)) rfl (by kernel_rfl) (by kernel_rfl) (by kernel_rfl) (fun _ _ _ h => h) (Or.inl ⟨by rfl, ?_⟩) (SK.out _ tV) ?_
    · rintro w ⟨q0, q5, y2⟩
      go_simp
    simp only [Act.put, List.setIfInBounds_toArray, List.set_cons_zero, List.set_cons_succ]
    refine wpAnyH_take (i := 5) (oi := { dst := some 14, op := Op.fieldAddr 55 (Operand.tmp 13) 0, type := 0, pos := "index.go:111", after := #[{ on := 4, ground := Ground.data }, { on := 2, ground := Ground.guard }], guard := some (2, true) }) (v := .pointer (some ⟨b, 0, none⟩)) rfl (by kernel_rfl) (by kernel_rfl) (by kernel_rfl) (fun _ _ _ h => h) (Or.inl ⟨by rfl, ?_⟩) (SK.out _ tV) ?_
    · rintro w ⟨q0, q5, y2⟩
      go_simp
    simp only [Act.put, List.setIfInBounds_toArray, List.set_cons_zero, List.set_cons_succ]
    refine wpAnyH_take (i := 6) (oi := { dst := some 15, op := Op.load 53 (Operand.tmp 14), type := 53, pos := "index.go:111", after := #[{ on := 5, ground := Ground.data }, { on := 2, ground := Ground.guard }], guard := some (2, true) }) (v := .slice (some ⟨gq, 0, none⟩) (m + 1) pc) rfl (by kernel_rfl) (by kernel_rfl) (by kernel_rfl) (fun _ _ _ h => h) (Or.inl ⟨by rfl, ?_⟩) (SK.out _ tV) ?_
    · rintro w ⟨q0, q5, y2⟩
      go_simp
    simp only [Act.put, List.setIfInBounds_toArray, List.set_cons_zero, List.set_cons_succ]
    refine wpAnyH_take (i := 7) (oi := { dst := some 16, op := Op.move (Operand.tmp 3), type := 3, pos := "index.go:111", after := #[{ on := 2, ground := Ground.guard }], guard := some (2, true) }) (v := .int .i64 ((m + 1 : Nat) : Int)) rfl (by kernel_rfl) (by kernel_rfl) (by kernel_rfl) (fun _ _ _ h => h) (Or.inl ⟨by rfl, ?_⟩) (SK.out _ tV) ?_
    · rintro w ⟨q0, q5, y2⟩
      go_simp
    simp only [Act.put, List.setIfInBounds_toArray, List.set_cons_zero, List.set_cons_succ]
    refine wpAnyH_take (i := 8) (oi := { dst := some 17, op := Op.binOp BinOp.sub 3 (Operand.tmp 16) (Operand.const (Value.int IntKind.i64 1)) 3, type := 3, pos := "index.go:111", after := #[{ on := 7, ground := Ground.data }, { on := 2, ground := Ground.guard }], guard := some (2, true) }) (v := .int .i64 (m : Nat)) rfl (by kernel_rfl) (by kernel_rfl) (by kernel_rfl) (fun _ _ _ h => h) (Or.inl ⟨by rfl, ?_⟩) (SK.out _ tV) ?_
    · rintro w ⟨q0, q5, y2⟩
      go_simp; simp [IntKind.wrap, IntKind.bits, IntKind.signed]; omega
    simp only [Act.put, List.setIfInBounds_toArray, List.set_cons_zero, List.set_cons_succ]
    refine wpAnyH_take (i := 9) (oi := { dst := some 18, op := Op.indexAddr 53 (Operand.tmp 15) (Operand.tmp 17), type := 0, pos := "index.go:111", after := #[{ on := 6, ground := Ground.data }, { on := 8, ground := Ground.data }, { on := 2, ground := Ground.guard }], guard := some (2, true) }) (v := .pointer (some ⟨gq, m * 6, none⟩)) rfl (by kernel_rfl) (by kernel_rfl) (by kernel_rfl) (fun _ _ _ h => h) (Or.inl ⟨by rfl, ?_⟩) (SK.out _ tV) ?_
    · rintro w ⟨q0, q5, y2⟩
      go_simp; intro hlt; omega
    simp only [Act.put, List.setIfInBounds_toArray, List.set_cons_zero, List.set_cons_succ]
    refine wpAnyH_take (i := 10) (oi := { dst := some 19, op := Op.fieldAddr 147 (Operand.tmp 18) 2, type := 0, pos := "index.go:111", after := #[{ on := 9, ground := Ground.data }, { on := 2, ground := Ground.guard }], guard := some (2, true) }) (v := .pointer (some ⟨gq, m * 6 + 2, none⟩)) rfl (by kernel_rfl) (by kernel_rfl) (by kernel_rfl) (fun _ _ _ h => h) (Or.inl ⟨by rfl, ?_⟩) (SK.out _ tV) ?_
    · rintro w ⟨q0, q5, y2⟩
      go_simp
    simp only [Act.put, List.setIfInBounds_toArray, List.set_cons_zero, List.set_cons_succ]
    refine wpAnyH_take (i := 11) (oi := { dst := some 20, op := Op.fieldAddr 35 (Operand.tmp 19) 0, type := 0, pos := "index.go:111", after := #[{ on := 10, ground := Ground.data }, { on := 2, ground := Ground.guard }], guard := some (2, true) }) (v := .pointer (some ⟨gq, m * 6 + 2, none⟩)) rfl (by kernel_rfl) (by kernel_rfl) (by kernel_rfl) (fun _ _ _ h => h) (Or.inl ⟨by rfl, ?_⟩) (SK.out _ tV) ?_
    · rintro w ⟨q0, q5, y2⟩
      go_simp
    simp only [Act.put, List.setIfInBounds_toArray, List.set_cons_zero, List.set_cons_succ]
    refine wpAnyH_take (i := 12) (oi := { dst := some 21, op := Op.load 28 (Operand.tmp 20), type := 28, pos := "index.go:111", after := #[{ on := 11, ground := Ground.data }, { on := 2, ground := Ground.guard }], guard := some (2, true) }) (v := .slice x.t.ka x.t.e.key.length x.t.kc) rfl (by kernel_rfl) (by kernel_rfl) (by kernel_rfl) (fun _ _ _ h => h) (Or.inl ⟨by rfl, ?_⟩) (SK.out _ tV) ?_
    · rintro w ⟨q0, q5, y2⟩
      go_simp
    simp only [Act.put, List.setIfInBounds_toArray, List.set_cons_zero, List.set_cons_succ]
    refine wpAnyH_take (i := 13) (oi := { dst := some 22, op := Op.move (Operand.tmp 0), type := 116, pos := "index.go:111", after := #[{ on := 2, ground := Ground.guard }], guard := some (2, true) }) (v := .pointer (some ⟨b, 0, none⟩)) rfl (by kernel_rfl) (by kernel_rfl) (by kernel_rfl) (fun _ _ _ h => h) (Or.inl ⟨by rfl, ?_⟩) (SK.out _ tV) ?_
    · rintro w ⟨q0, q5, y2⟩
      go_simp
    simp only [Act.put, List.setIfInBounds_toArray, List.set_cons_zero, List.set_cons_succ]
    refine wpAnyH_take (i := 14) (oi := { dst := some 23, op := Op.nilCheck (Operand.tmp 22), type := 0, pos := "index.go:111", after := #[{ on := 13, ground := Ground.data }, { on := 2, ground := Ground.guard }], guard := some (2, true) }) (v := .pointer (some ⟨b, 0, none⟩)) rfl (by kernel_rfl) (by kernel_rfl) (by kernel_rfl) (fun _ _ _ h => h) (Or.inl ⟨by rfl, ?_⟩) (SK.out _ tV) ?_
    · rintro w ⟨q0, q5, y2⟩
      go_simp
    simp only [Act.put, List.setIfInBounds_toArray, List.set_cons_zero, List.set_cons_succ]
    refine wpAnyH_take (i := 15) (oi := { dst := some 24, op := Op.fieldAddr 55 (Operand.tmp 23) 1, type := 0, pos := "index.go:111", after := #[{ on := 14, ground := Ground.data }, { on := 2, ground := Ground.guard }], guard := some (2, true) }) (v := .pointer (some ⟨b, 1, none⟩)) rfl (by kernel_rfl) (by kernel_rfl) (by kernel_rfl) (fun _ _ _ h => h) (Or.inl ⟨by rfl, ?_⟩) (SK.out _ tV) ?_
    · rintro w ⟨q0, q5, y2⟩
      go_simp
    simp only [Act.put, List.setIfInBounds_toArray, List.set_cons_zero, List.set_cons_succ]
    refine wpAnyH_take (i := 16) (oi := { dst := some 25, op := Op.fieldAddr 42 (Operand.tmp 24) 4, type := 0, pos := "index.go:111", after := #[{ on := 15, ground := Ground.data }, { on := 2, ground := Ground.guard }], guard := some (2, true) }) (v := .pointer (some ⟨b, 5, none⟩)) rfl (by kernel_rfl) (by kernel_rfl) (by kernel_rfl) (fun _ _ _ h => h) (Or.inl ⟨by rfl, ?_⟩) (SK.out _ tV) ?_
    · rintro w ⟨q0, q5, y2⟩
      go_simp
    simp only [Act.put, List.setIfInBounds_toArray, List.set_cons_zero, List.set_cons_succ]
    refine wpAnyH_take (i := 17) (oi := { dst := some 26, op := Op.load 28 (Operand.tmp 25), type := 28, pos := "index.go:111", after := #[{ on := 16, ground := Ground.data }, { on := 2, ground := Ground.guard }], guard := some (2, true) }) (v := .slice ma mn mc) rfl (by kernel_rfl) (by kernel_rfl) (by kernel_rfl) (fun _ _ _ h => h) (Or.inl ⟨by rfl, ?_⟩) (SK.out _ tV) ?_
    · rintro w ⟨q0, q5, y2⟩
      go_simp
    simp only [Act.put, List.setIfInBounds_toArray, List.set_cons_zero, List.set_cons_succ]
    refine wpAnyH_ready (rs := [18]) (by kernel_rfl) (by simp) ?_
    refine AllReadyH.cons rfl (fun K hK => ?_) AllReadyH.nil
    go_simp
    refine (CP.out _ tV).mono ?_
    rintro oo Vn ⟨rfl, hVn⟩
    have tN := (show Turns (fun _ => False) w.drew Vn from by rw [hVn]; exact Turns.refl _ _)
    have tV := tV.trans tN
    clear CP hVn
    clear tN
    go_simp
    refine hK.out _ _ (SK.out _ tV) (fun _ => ?_)
    clear hK K
    refine wpAnyH_take (i := 19) (oi := { dst := some 28, op := Op.pick (Operand.tmp 11) (Operand.tmp 27) (Operand.const (Value.bool false)), type := 4, pos := "index.go:111", after := #[{ on := 2, ground := Ground.data }, { on := 18, ground := Ground.data }], guard := none }) (v := .bool true) rfl (by kernel_rfl) (by kernel_rfl) (by kernel_rfl) (fun _ _ _ h => h) (Or.inl ⟨by rfl, ?_⟩) (SK.out _ tV) ?_
    · rintro w ⟨q0, q5, y2⟩
      go_simp
    simp only [Act.put, List.setIfInBounds_toArray, List.set_cons_zero, List.set_cons_succ]
    refine wpAnyH_take (i := 20) (oi := { dst := some 2, op := Op.assign (Operand.tmp 28), type := 4, pos := "index.go:111", after := #[{ on := 19, ground := Ground.data }, { on := 18, ground := Ground.chain }, { on := 0, ground := Ground.phase }, { on := 1, ground := Ground.phase }, { on := 2, ground := Ground.phase }, { on := 3, ground := Ground.phase }, { on := 4, ground := Ground.phase }, { on := 5, ground := Ground.phase }, { on := 6, ground := Ground.phase }, { on := 7, ground := Ground.phase }, { on := 8, ground := Ground.phase }, { on := 9, ground := Ground.phase }, { on := 10, ground := Ground.phase }, { on := 11, ground := Ground.phase }, { on := 12, ground := Ground.phase }, { on := 13, ground := Ground.phase }, { on := 14, ground := Ground.phase }, { on := 15, ground := Ground.phase }, { on := 16, ground := Ground.phase }, { on := 17, ground := Ground.phase }, { on := 18, ground := Ground.phase }, { on := 19, ground := Ground.phase }], guard := none }) (v := .bool true) rfl (by kernel_rfl) (by kernel_rfl) (by kernel_rfl) (fun _ _ _ h => h) (Or.inl ⟨by rfl, ?_⟩) (SK.out _ tV) ?_
    · rintro w ⟨q0, q5, y2⟩
      go_simp
    simp only [Act.put, List.setIfInBounds_toArray, List.set_cons_zero, List.set_cons_succ]
    refine wpAnyH_done (by kernel_rfl) ?_ _
    go_wp2_with fail
    go_meet
    exact ⟨rfl, tV⟩
  case rest =>
    obtain ⟨rfl, t8⟩ := hcut
    have T8 := hide t8
    clear t8 SK CP
    go_wp2_with fail
    go_ret
    exact ⟨rfl, T8.out⟩
end Go.Proofs.YtjklbhdhjfifhaaGreat

/-
  Places as an index tells them.
-/
namespace Go.Proofs.YtjklbhdhjfifhaaGreat
open Go.RowKit
set_option maxRecDepth 100000
set_option maxHeartbeats 4000000
abbrev Pz := Nat × List (BitVec 8) × Nat
def sumZ (l : List Pz) : Nat := (l.map (·.1)).sum
def pzB : Nat → List Pz → List (BitVec 8)
  | _, [] => []
  | E, (sz, key, seq) :: r => short E ++ (short sz ++ (pieceB key ++ (short seq ++ pzB (E + sz) r)))
def Plc.z (p : Plc) : Pz := (p.size, p.t.e.key, p.t.e.seq)
structure Lay (l : List Plc) (ps : List Pz) : Prop where
  z : l.map Plc.z = ps
  pos : ∀ i p, l[i]? = some p → p.pos = sumZ (ps.take i)
theorem sumZ_snoc (l : List Pz) (x : Pz) : sumZ (l ++ [x]) = sumZ l + x.1 := by simp [sumZ]
theorem sumZ_take_le (l : List Pz) (k : Nat) : sumZ (l.take k) ≤ sumZ l := by
  have h : sumZ l = sumZ (l.take k) + sumZ (l.drop k) := by
    unfold sumZ
    rw [← List.sum_append, ← List.map_append, List.take_append_drop]
  omega
theorem Lay.len {l : List Plc} {ps : List Pz} (h : Lay l ps) : l.length = ps.length := by rw [← h.z, List.length_map]
theorem Lay.end_ {l : List Plc} {ps : List Pz} (h : Lay l ps) : endP l = sumZ ps := by
  unfold endP
  cases hl : l.getLast? with
  | none =>
    have : l = [] := List.getLast?_eq_none_iff.1 hl
    subst this
    rw [← h.z]
    rfl
  | some x =>
    have h0 : l ≠ [] := fun e => by rw [e] at hl; cases hl
    have hx : l[l.length - 1]? = some x := by rw [← List.getLast?_eq_getElem?]; exact hl
    have h1 := h.pos _ x hx
    have hlen := h.len
    have hp : 0 < l.length := List.length_pos_iff.2 h0
    have h2 : ps[l.length - 1]? = some x.z := by rw [← h.z, List.getElem?_map, hx]; rfl
    have h3 : ps = ps.take (l.length - 1) ++ [x.z] := by
      have hlt : l.length - 1 < ps.length := by omega
      have h4 := List.take_succ_eq_append_getElem hlt
      rw [List.getElem?_eq_getElem hlt] at h2
      rw [Option.some.inj h2, show l.length - 1 + 1 = ps.length by omega, List.take_length] at h4
      exact h4
    have h5 : sumZ ps = sumZ (ps.take (l.length - 1)) + x.size := by
      conv => lhs; rw [h3]
      rw [sumZ_snoc]
      rfl
    show x.pos + x.size = sumZ ps
    omega
theorem Lay.snoc {l : List Plc} {ps : List Pz} (h : Lay l ps) (sz : Nat) (ka : Option Addr) (kc : Nat) (key : List (BitVec 8)) (seq : Nat) : Lay (l ++ [newPlc l sz ka kc key seq]) (ps ++ [(sz, key, seq)]) := by
  refine ⟨by rw [List.map_append, h.z]; rfl, fun i p hp => ?_⟩
  have hlen := h.len
  rcases Nat.lt_or_ge i l.length with hi | hi
  · rw [List.getElem?_append_left hi] at hp
    rw [List.take_append_of_le_length (by omega)]
    exact h.pos i p hp
  · rw [List.getElem?_append_right hi] at hp
    have hi0 : i - l.length = 0 := by
      rcases Nat.eq_zero_or_pos (i - l.length) with h0 | h0
      · exact h0
      · rw [List.getElem?_eq_none (by simp; omega)] at hp
        cases hp
    rw [hi0] at hp
    cases hp
    show endP l = _
    rw [h.end_, show i = ps.length by omega, List.take_left]
theorem pzB_drop (ps : List Pz) (k : Nat) (sz : Nat) (key : List (BitVec 8)) (seq : Nat) (h : ps[k]? = some (sz, key, seq)) (E : Nat) : pzB E (ps.drop k) = short E ++ (short sz ++ (pieceB key ++ (short seq ++ pzB (E + sz) (ps.drop (k + 1))))) := by
  have hk := (List.getElem?_eq_some_iff.1 h).1
  rw [List.drop_eq_getElem_cons hk]
  rw [List.getElem?_eq_getElem hk] at h
  rw [Option.some.inj h]
  rfl
theorem sumZ_take (ps : List Pz) (k : Nat) (x : Pz) (h : ps[k]? = some x) : sumZ (ps.take (k + 1)) = sumZ (ps.take k) + x.1 := by
  have hk := (List.getElem?_eq_some_iff.1 h).1
  rw [List.take_succ_eq_append_getElem hk, sumZ_snoc]
  rw [List.getElem?_eq_getElem hk] at h
  rw [Option.some.inj h]
end Go.Proofs.YtjklbhdhjfifhaaGreat

/-
  A table that is not there, or that nobody opened; how often one was read.
-/
namespace Go.Proofs.YtjklbhdhjfifhaaGreat
open Go.RowKit
set_option maxRecDepth 100000
set_option maxHeartbeats 4000000
theorem info42 : (Tryz.prog.info? 42).map (·.size) = some 7 := by kernel_rfl
def NoTb (w : World) (p : Option Addr) : Prop := p = none ∨ ∃ t, p = some ⟨t, 0, none⟩ ∧ w.cell? ⟨t, 0, none⟩ = some .nilIface
theorem NoTb.quiet {w w' : World} {p : Option Addr} (h : NoTb w p) (t : Turns (fun _ => False) w w') : NoTb w' p := by
  rcases h with rfl | ⟨b, rfl, h⟩
  · exact .inl rfl
  · exact .inr ⟨b, rfl, t.cell h (fun x => x)⟩
theorem tmade_no (p : Option Addr) (w : World) (h : NoTb w p) : Calls Tryz.prog 41 #[.pointer p] w fun e w' => e = .returned (.bool false) ∧ w' = w := by
  rcases h with rfl | ⟨t, rfl, h⟩
  · go_enter Tryz.func41, Tryz.ntmps41
    go_wp2_with fail
    go_ret
    exact ⟨rfl, rfl⟩
  · go_enter Tryz.func41, Tryz.ntmps41
    go_wp2_with fail
    go_ret
    exact ⟨rfl, rfl⟩
section
variable (p : Option Addr) (w : World) (h : NoTb w p)
include h
theorem reads_no : Calls Tryz.prog 25 #[.pointer p] w fun e w' => e = .returned (.int .i64 0) ∧ w' = w := by
  have HM := hide (tmade_no p w h)
  clear h
  go_enter Tryz.func25, Tryz.ntmps25
  go_wp2_with (go_at_call 41; refine HM.out.mono ?_; rintro e w1 ⟨rfl, hw1⟩; subst hw1)
  go_ret
  exact ⟨rfl, rfl⟩
theorem from_no (k : Value) (n : Int) : Calls Tryz.prog 22 #[.pointer p, k, .int .i64 n] w fun e w' => e = .returned (.tuple #[.slice none 0 0, .int .i64 1]) ∧ w' = w := by
  have HM := hide (tmade_no p w h)
  clear h
  go_enter Tryz.func22, Tryz.ntmps22
  go_wp2_with (go_at_call 41; refine HM.out.mono ?_; rintro e w1 ⟨rfl, hw1⟩; subst hw1)
  go_ret2
  exact ⟨rfl, rfl⟩
theorem all_no : Calls Tryz.prog 23 #[.pointer p] w fun e w' => e = .returned (.tuple #[.slice none 0 0, .int .i64 1]) ∧ w' = w := by
  have HM := hide (from_no p w h (.slice none 0 0) 9223372036854775807)
  clear h
  go_enter Tryz.func23, Tryz.ntmps23
  go_wp2_with (go_at_call 22; refine HM.out.mono ?_; rintro e w1 ⟨rfl, hw1⟩; subst hw1)
  go_ret2
  exact ⟨rfl, rfl⟩
theorem get_no (k s : Value) : Calls Tryz.prog 21 #[.pointer p, k, s] w fun e w' => e = .returned (.tuple #[.agg #[.slice none 0 0, .int .u64 0, .int .i64 0, .slice none 0 0], .int .i64 1]) ∧ Below w.heap.size w w' := by
  have tk : Turns (fun _ => False) w (w.alloc (.cells #[.slice none 0 0, .int .u64 0, .int .i64 0, .slice none 0 0] 35)) := (Turns.refl _ _).alloc _
  have HM := hide (tmade_no p _ (h.quiet tk))
  have HB := hide (tk.below (Nat.le_refl _) (fun _ x => x.elim))
  have HR := hide (heap_alloc_new w (.cells #[.slice none 0 0, .int .u64 0, .int .i64 0, .slice none 0 0] 35))
  clear tk
  go_enter Tryz.func21, Tryz.ntmps21
  go_upto_region 2 with (go_at_call 41; refine HM.out.mono ?_; rintro e w1 ⟨rfl, hw1⟩; subst hw1)
  generalize w.alloc (.cells #[.slice none 0 0, .int .u64 0, .int .i64 0, .slice none 0 0] 35) = w1 at *
  generalize hg0 : w.heap.size = g at *
  have q0 := cell_of_row w1 g 0 _ 35 (0, 0) HR.out
  have q1 := cell_of_row w1 g 1 _ 35 (0, 0) HR.out
  have q2 := cell_of_row w1 g 2 _ 35 (0, 0) HR.out
  have q3 := cell_of_row w1 g 3 _ 35 (0, 0) HR.out
  have f0 := frozen_of_row w1 g 0 _ 35 HR.out
  have f1 := frozen_of_row w1 g 1 _ 35 HR.out
  have f2 := frozen_of_row w1 g 2 _ 35 HR.out
  have f3 := frozen_of_row w1 g 3 _ 35 HR.out
  go_wp2_with fail
  have k3 := (((((Tick.refl HR.out).set 0 (.slice none 0 0)).set 1 (.int .u64 0)).set 2 (.int .i64 0)).set 3 (.slice none 0 0))
  refine bodyPost_ret (v := .tuple #[.agg #[.slice none 0 0, .int .u64 0, .int .i64 0, .slice none 0 0], .int .i64 1]) ?_ rfl ?_
  · exact results_cell_tmp Tryz.results21 _ _ _ _ _ _ _ _ rfl rfl k3.1 Tryz.underlying35 rfl info35
  · exact ⟨rfl, by rw [hg0]; exact HB.out.trans ((Turns.of_tick k3).below (by have := HB.out.size; omega) (fun k e => by omega))⟩
theorem info_no : Calls Tryz.prog 26 #[.pointer p] w fun e w' => e = .returned (.agg #[.int .i64 0, .int .i64 0, .int .i64 0, .slice none 0 0, .slice none 0 0, .int .u64 0, .int .u64 0]) ∧ Below w.heap.size w w' := by
  have tk : Turns (fun _ => False) w (w.alloc (.cells #[.int .i64 0, .int .i64 0, .int .i64 0, .slice none 0 0, .slice none 0 0, .int .u64 0, .int .u64 0] 42)) := (Turns.refl _ _).alloc _
  have HM := hide (tmade_no p _ (h.quiet tk))
  have HB := hide (tk.below (Nat.le_refl _) (fun _ x => x.elim))
  have HR := hide (heap_alloc_new w (.cells #[.int .i64 0, .int .i64 0, .int .i64 0, .slice none 0 0, .slice none 0 0, .int .u64 0, .int .u64 0] 42))
  clear tk
  go_enter Tryz.func26, Tryz.ntmps26
  go_upto_region 2 with (go_at_call 41; refine HM.out.mono ?_; rintro e w1 ⟨rfl, hw1⟩; subst hw1)
  generalize w.alloc (.cells #[.int .i64 0, .int .i64 0, .int .i64 0, .slice none 0 0, .slice none 0 0, .int .u64 0, .int .u64 0] 42) = w1 at *
  generalize hg0 : w.heap.size = g at *
  have q0 := cell_of_row w1 g 0 _ 42 (0, 0) HR.out
  have q1 := cell_of_row w1 g 1 _ 42 (0, 0) HR.out
  have q2 := cell_of_row w1 g 2 _ 42 (0, 0) HR.out
  have q3 := cell_of_row w1 g 3 _ 42 (0, 0) HR.out
  have q4 := cell_of_row w1 g 4 _ 42 (0, 0) HR.out
  have q5 := cell_of_row w1 g 5 _ 42 (0, 0) HR.out
  have q6 := cell_of_row w1 g 6 _ 42 (0, 0) HR.out
  have f0 := frozen_of_row w1 g 0 _ 42 HR.out
  have f1 := frozen_of_row w1 g 1 _ 42 HR.out
  have f2 := frozen_of_row w1 g 2 _ 42 HR.out
  have f3 := frozen_of_row w1 g 3 _ 42 HR.out
  have f4 := frozen_of_row w1 g 4 _ 42 HR.out
  have f5 := frozen_of_row w1 g 5 _ 42 HR.out
  have f6 := frozen_of_row w1 g 6 _ 42 HR.out
  go_wp2_with fail
  have k3 := ((((((((Tick.refl HR.out).set 0 (.int .i64 0)).set 1 (.int .i64 0)).set 2 (.int .i64 0)).set 3 (.slice none 0 0)).set 4 (.slice none 0 0)).set 5 (.int .u64 0)).set 6 (.int .u64 0))
  refine bodyPost_ret (v := .agg #[.int .i64 0, .int .i64 0, .int .i64 0, .slice none 0 0, .slice none 0 0, .int .u64 0, .int .u64 0]) ?_ rfl ?_
  · exact results_cell_row Tryz.results26 _ _ _ _ _ _ _ rfl k3.1 Tryz.underlying42 rfl info42
  · exact ⟨rfl, by rw [hg0]; exact HB.out.trans ((Turns.of_tick k3).below (by have := HB.out.size; omega) (fun k e => by omega))⟩
end
section
variable {A : Nat → Prop} {B : Nat} {w : World} {t f : Nat} {nm : ByteArray} {bs : List (BitVec 8)} {K : Nat} {pl : List Plc} {flt : List (BitVec 8)} {x : Inf} {rd : Nat}
theorem reads_yes (h : TabT A B w t f nm bs K pl flt x rd) : Calls Tryz.prog 25 #[.pointer (some ⟨t, 0, none⟩)] w fun e w' => e = .returned (.int .i64 (rd : Nat)) ∧ w' = w := by
  have HM := hide (tmade_yes h)
  obtain ⟨pa, fa, pc, fc, h1, _⟩ := h.ex
  have c10 : w.cell? ⟨t, 10, none⟩ = some (.int .i64 (rd : Nat)) := cell_of_row w t 10 _ 57 (0, 0) h1
  clear h h1
  go_enter Tryz.func25, Tryz.ntmps25
  go_wp2_with (go_at_call 41; refine HM.out.mono ?_; rintro e w1 ⟨rfl, hw1⟩; subst hw1)
  go_ret
  exact ⟨rfl, rfl⟩
end
end Go.Proofs.YtjklbhdhjfifhaaGreat
