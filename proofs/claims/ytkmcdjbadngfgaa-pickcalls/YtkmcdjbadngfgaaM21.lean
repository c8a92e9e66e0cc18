import Derived.Test.YtkmcdjbadngfgaaM20
import Derived.Test.YtkmcdjbadngfgaaM02
import Derived.Test.YtkmcdjbadngfgaaM09
/-
  Next, as the document says: which level.
-/
namespace Go.Proofs.Ytkmcdjbadngfgaa
open Go.RowKit
set_option maxRecDepth 100000
set_option maxHeartbeats 4000000
theorem kof_app {u : World} {R R2 : List Tf} {k : Kk} (h : Kof (R ++ R2) k) (h1 : ∀ y ∈ R, FB u y) (h2 : ∀ y ∈ R2, FB u y) : KB u k := by
  obtain ⟨x, hx, y, hy, rfl⟩ := h
  have hall : ∀ z ∈ R ++ R2, FB u z := fun z hz => (List.mem_append.1 hz).elim (h1 z) (h2 z)
  exact ⟨(hall x hx).1, (hall y hy).2⟩
theorem fils_fb {u : World} {a : Option Addr} {R : List Tf} (h : Fils u a R) : ∀ y ∈ R, FB u y := fun y hy => by
  obtain ⟨q, hq⟩ := List.getElem?_of_mem hy
  exact (h q y hq).2
/-- No cell is a number of a file, nor a byte. -/
def NoU (cs : Array Value) : Prop := ∀ (k : Nat) (z : Int), cs[k]? ≠ some (.int .u64 z) ∧ cs[k]? ≠ some (.int .u8 z)
theorem bytes_nou {u u' : World} {G : Nat} {cs : Array Value} {t : TypeId} {v : Value} {bs : List (BitVec 8)} (hg : u.heap[G]? = some (.cells cs t (0, 0))) (hn : NoU cs) (tr : Turns (fun j => j = G) u u') (h : Bytes u v bs) : Bytes u' v bs := by
  obtain ⟨a, c, e, hc⟩ := h
  refine ⟨a, c, e, fun k hk => ?_⟩
  obtain ⟨b, off, e2, h2⟩ := hc k hk
  refine ⟨b, off, e2, tr.cell h2 fun hb => ?_⟩
  have hb' : b = G := hb
  subst hb'
  rw [cell_of_row u b _ cs t (0, 0) hg] at h2
  exact (hn _ _).2 h2
theorem fils_nou {u u' : World} {G : Nat} {cs : Array Value} {t : TypeId} {a : Option Addr} {R : List Tf} (hg : u.heap[G]? = some (.cells cs t (0, 0))) (hn : NoU cs) (tr : Turns (fun j => j = G) u u') (h : Fils u a R) : Fils u' a R := fun k x hx => by
  obtain ⟨⟨b, off, e, hc⟩, hb⟩ := h k x hx
  have hne : b ≠ G := fun e2 => by
    subst e2
    have h0 := hc 0 _ rfl
    rw [cell_of_row u b _ cs t (0, 0) hg] at h0
    exact (hn _ _).1 h0
  exact ⟨⟨b, off, e, fun j v hv => tr.cell (hc j v hv) hne⟩, bytes_nou hg hn tr hb.1, bytes_nou hg hn tr hb.2⟩
theorem nou6 : NoU #[.int .i64 0, .slice none 0 0, .slice none 0 0, .slice none 0 0, .slice none 0 0, .bool false] := fun k z => by
  match k with
  | 0 => exact ⟨by simp, by simp⟩
  | 1 => exact ⟨by simp, by simp⟩
  | 2 => exact ⟨by simp, by simp⟩
  | 3 => exact ⟨by simp, by simp⟩
  | 4 => exact ⟨by simp, by simp⟩
  | 5 => exact ⟨by simp, by simp⟩
  | k + 6 => exact ⟨by simp, by simp⟩
theorem rnext_any (a : Option Addr) (n c next seq log : Nat) (L : List Lv) (t b f : Int) (w : World) (h : VerIn w a n L next seq log) :
    Calls Try.prog 16 #[verAgg a n c next seq log, setAgg t b f] w fun e w' => ∃ (v : Value) (er : Int), e = .returned (.tuple #[v, .int .i64 er]) ∧ NextR (flL L) next seq log t b f w' v er ∧ Turns (fun _ => False) w w' := by
  have TA := hide ((((Turns.refl (fun _ => False) w).alloc (.cells #[.slice a n c, .int .u64 (next : Nat), .int .u64 (seq : Nat), .int .u64 (log : Nat)] 25)).alloc (.cells #[.int .i64 t, .int .i64 b, .int .i64 f] 35)).alloc (.cells #[.int .i64 0, .slice none 0 0, .slice none 0 0, .slice none 0 0, .slice none 0 0, .bool false] 43))
  have R0 := hide (((((Turns.refl (fun _ => False) (w.alloc (.cells #[.slice a n c, .int .u64 (next : Nat), .int .u64 (seq : Nat), .int .u64 (log : Nat)] 25))).alloc (.cells #[.int .i64 t, .int .i64 b, .int .i64 f] 35)).alloc (.cells #[.int .i64 0, .slice none 0 0, .slice none 0 0, .slice none 0 0, .slice none 0 0, .bool false] 43))).heap (heap_alloc_new w (.cells #[.slice a n c, .int .u64 (next : Nat), .int .u64 (seq : Nat), .int .u64 (log : Nat)] 25)) (fun x => x))
  have R1 := hide ((((Turns.refl (fun _ => False) ((w.alloc (.cells #[.slice a n c, .int .u64 (next : Nat), .int .u64 (seq : Nat), .int .u64 (log : Nat)] 25)).alloc (.cells #[.int .i64 t, .int .i64 b, .int .i64 f] 35))).alloc (.cells #[.int .i64 0, .slice none 0 0, .slice none 0 0, .slice none 0 0, .slice none 0 0, .bool false] 43))).heap (heap_alloc_new (w.alloc (.cells #[.slice a n c, .int .u64 (next : Nat), .int .u64 (seq : Nat), .int .u64 (log : Nat)] 25)) (.cells #[.int .i64 t, .int .i64 b, .int .i64 f] 35)) (fun x => x))
  have R2 := hide (heap_alloc_new ((w.alloc (.cells #[.slice a n c, .int .u64 (next : Nat), .int .u64 (seq : Nat), .int .u64 (log : Nat)] 25)).alloc (.cells #[.int .i64 t, .int .i64 b, .int .i64 f] 35)) (.cells #[.int .i64 0, .slice none 0 0, .slice none 0 0, .slice none 0 0, .slice none 0 0, .bool false] 43))
  simp only [World.size_alloc] at R1 R2
  have HV := hide h
  have CK := hide (fun (u : World) (tu : Turns (fun _ => False) w u) => rcheck_any a n c next seq log L u (h.quiet tu))
  have HC := hide (show chkV L next seq log = if wrongVF (flL L) next seq log then 2 else 0 by unfold chkV; rw [wrongV_F])
  have CS := hide (fun u => rcheckSetup_any t b f u)
  have HE := hide (show setE t b f = if setBad t b f then 2 else 0 from rfl)
  have RE := hide (fun (u : World) (tu : Turns (fun _ => False) w u) => rRest_any a n c next seq log L t b f u (h.quiet tu))
  have HR := hide (show restP (flL L) next seq log t b f = (!(wrongVF (flL L) next seq log || setBad t b f) && !(dueP (scoresL (flL L) t b f)).2) from rfl)
  have SC := hide (fun (k : Nat) (u : World) (tu : Turns (fun _ => False) w u) => rScore_any a n c next seq log L t b f (k : Nat) u (h.quiet tu))
  clear h
  unfold verAgg setAgg at *
  generalize restP (flL L) next seq log t b f = RP at *
  generalize chkV L next seq log = CV at *
  generalize setE t b f = E at *
  go_enter Try.func16, Try.ntmps16
  go_wp2_with fail
  obtain ⟨w0, hw0⟩ : ∃ u, u = ((w.alloc (.cells #[.slice a n c, .int .u64 (next : Nat), .int .u64 (seq : Nat), .int .u64 (log : Nat)] 25)).alloc (.cells #[.int .i64 t, .int .i64 b, .int .i64 f] 35)).alloc (.cells #[.int .i64 0, .slice none 0 0, .slice none 0 0, .slice none 0 0, .slice none 0 0, .bool false] 43) := ⟨_, rfl⟩
  rw [← hw0] at TA R0 R1 R2 ⊢
  clear hw0
  generalize hP : w.heap.size = P at *
  have HP := hide hP
  clear hP
  refine (CK.out _ TA.out).mono ?_
  rintro e w1 ⟨rfl, t1⟩
  have T1 := hide (TA.out.trans t1)
  have Q0 := hide (t1.heap R0.out (fun x => x))
  have Q1 := hide (t1.heap R1.out (fun x => x))
  have Q2 := hide (t1.heap R2.out (fun x => x))
  have Q2W := hide Q2.out
  clear t1 R0 R1 R2 TA CK
  have SK := hide (fun (u : World) (tu : Turns (fun _ => False) w1 u) => show (u.cell? ⟨P, 0, none⟩ = some (.slice a n c) ∧ u.cell? ⟨P, 1, none⟩ = some (.int .u64 (next : Nat)) ∧ u.cell? ⟨P, 2, none⟩ = some (.int .u64 (seq : Nat)) ∧ u.cell? ⟨P, 3, none⟩ = some (.int .u64 (log : Nat))) ∧ u.cell? ⟨P + 1, 0, none⟩ = some (.int .i64 t) ∧ u.cell? ⟨P + 1, 1, none⟩ = some (.int .i64 b) ∧ u.cell? ⟨P + 1, 2, none⟩ = some (.int .i64 f) from ⟨⟨cell_of_row u P 0 _ 25 (0, 0) (tu.heap Q0.out (fun x => x)), cell_of_row u P 1 _ 25 (0, 0) (tu.heap Q0.out (fun x => x)), cell_of_row u P 2 _ 25 (0, 0) (tu.heap Q0.out (fun x => x)), cell_of_row u P 3 _ 25 (0, 0) (tu.heap Q0.out (fun x => x))⟩, cell_of_row u (P + 1) 0 _ 35 (0, 0) (tu.heap Q1.out (fun x => x)), cell_of_row u (P + 1) 1 _ 35 (0, 0) (tu.heap Q1.out (fun x => x)), cell_of_row u (P + 1) 2 _ 35 (0, 0) (tu.heap Q1.out (fun x => x))⟩)
  cases hWV : wrongVF (flL L) next seq log with
  | true =>
    have hV : CV = 2 := by rw [HC.out, hWV]; rfl
    subst hV
    have HF := hide (show (wrongVF (flL L) next seq log || setBad t b f) = true by rw [hWV]; rfl)
    clear hWV HC HR
    go_wp2_with (refine wpList_store_row rfl 43 _ _ rfl _ _ rfl rfl _ _ Q2.out ?_ ?_ ?_ ?_; (exact sz43); (simp only [List.size_toArray, List.length_cons, List.length_nil]); (simp [Value.oneCell']))
    refine bodyPost_ret (v := .tuple #[zeroJob, .int .i64 2]) ?_ rfl ?_
    · exact results_cell_tmp Try.results16 _ _ _ _ _ _ _ _ rfl rfl (setRow_heap _ _ _ _ _ _ Q2.out) Try.underlying43 rfl sz43
    · exact ⟨zeroJob, 2, rfl, .inl ⟨HF.out, rfl, rfl⟩, T1.out.andThen (turns_setRow _ _ _) fun j hj e => by have := HP.out; omega⟩
  | false =>
    have hV : CV = 0 := by rw [HC.out, hWV]; rfl
    subst hV
    have HWV := hide hWV
    clear hWV HC
    obtain ⟨_, q0, q1, q2⟩ := SK.out w1 (Turns.refl _ _)
    go_wp2_with fail
    refine (CS.out _).mono ?_
    rintro e w2 ⟨rfl, t2⟩
    have T2 := hide t2
    have Q2 := hide (t2.heap Q2.out (fun x => x))
    clear t2 CS q0 q1 q2
    cases hBD : setBad t b f with
    | true =>
      have hE : E = 2 := by rw [HE.out, hBD]; rfl
      subst hE
      have HF := hide (show (wrongVF (flL L) next seq log || setBad t b f) = true by rw [hBD]; simp)
      clear hBD HE HR
      go_wp2_with (refine wpList_store_row rfl 43 _ _ rfl _ _ rfl rfl _ _ Q2.out ?_ ?_ ?_ ?_; (exact sz43); (simp only [List.size_toArray, List.length_cons, List.length_nil]); (simp [Value.oneCell']))
      refine bodyPost_ret (v := .tuple #[zeroJob, .int .i64 2]) ?_ rfl ?_
      · exact results_cell_tmp Try.results16 _ _ _ _ _ _ _ _ rfl rfl (setRow_heap _ _ _ _ _ _ Q2.out) Try.underlying43 rfl sz43
      · exact ⟨zeroJob, 2, rfl, .inl ⟨HF.out, rfl, rfl⟩, (T1.out.trans T2.out).andThen (turns_setRow _ _ _) fun j hj e => by have := HP.out; omega⟩
    | false =>
      have hE : E = 0 := by rw [HE.out, hBD]; rfl
      subst hE
      have HBD := hide hBD
      clear hBD HE
      have HOK := hide (show (wrongVF (flL L) next seq log || setBad t b f) = false by rw [HWV.out, HBD.out]; rfl)
      have HRP := hide (show RP = !(dueP (scoresL (flL L) t b f)).2 by rw [HR.out, HOK.out]; rfl)
      clear HR
      obtain ⟨⟨p0, p1, p2, p3⟩, q0, q1, q2⟩ := SK.out w2 T2.out
      go_wp2_with fail
      refine (RE.out _ (T1.out.trans T2.out)).mono ?_
      rintro e w3 ⟨rfl, t3⟩
      have T3 := hide (T2.out.trans t3)
      have Q2 := hide (t3.heap Q2.out (fun x => x))
      clear t3 RE p0 p1 p2 p3 q0 q1 q2
      cases hdu : (dueP (scoresL (flL L) t b f)).2 with
      | false =>
        have hrp : RP = true := by rw [HRP.out, hdu]; rfl
        subst hrp
        have HDU := hide hdu
        clear hdu HRP
        go_wp2_with (refine wpList_store_row rfl 43 _ _ rfl _ _ rfl rfl _ _ Q2.out ?_ ?_ ?_ ?_; (exact sz43); (simp only [List.size_toArray, List.length_cons, List.length_nil]); (simp [Value.oneCell']))
        refine bodyPost_ret (v := .tuple #[zeroJob, .int .i64 6]) ?_ rfl ?_
        · exact results_cell_tmp Try.results16 _ _ _ _ _ _ _ _ rfl rfl (setRow_heap _ _ _ _ _ _ Q2.out) Try.underlying43 rfl sz43
        · exact ⟨zeroJob, 6, rfl, .inr (.inl ⟨HOK.out, HDU.out, rfl, rfl⟩), (T1.out.trans T3.out).andThen (turns_setRow _ _ _) fun j hj e => by have := HP.out; omega⟩
      | true =>
        have hrp : RP = false := by rw [HRP.out, hdu]; rfl
        subst hrp
        have HDU := hide hdu
        clear hdu HRP
        have hn5 : n = 5 := by
          have h1 := len_of_ok HWV.out
          rw [flL_length] at h1
          have h2 := HV.out.len
          omega
        subst hn5
        have Q2R := hide (show w1.heap[P + 1 + 1]? = _ from Q2W.out)
        have HSP := hide (fun (k : Nat) (hk : k < 5) => ScoreP_ok (LL := flL L) HWV.out HBD.out k hk)
        go_wp2_with fail
        go_loopw [7, 8] (fun jv iv wr => ∃ j k : Nat, jv = .int .i64 (j : Nat) ∧ iv = .int .i64 (k : Nat) ∧ k ≤ 5 ∧ 1 ≤ k ∧ j < k ∧ (∀ q : Nat, q < k → scoreP (flL L) t b f (q : Nat) ≤ scoreP (flL L) t b f (j : Nat)) ∧ (∀ q : Nat, q < j → scoreP (flL L) t b f (q : Nat) < scoreP (flL L) t b f (j : Nat)) ∧ Turns (fun _ => False) w1 wr) (fun _ iv _ => 5 - (intOf iv).toNat)
        case atStart =>
          refine ⟨0, 1, rfl, rfl, by omega, Nat.le_refl _, by omega, fun q hq => ?_, fun q hq => by omega, T3.out⟩
          obtain rfl : q = 0 := by omega
          exact Int.le_refl _
        case round =>
          obtain ⟨j, k, rfl, rfl, hk5, hk1, hjk, hle, hlt, htr⟩ := hrel
          have HLE := hide hle
          have HLT := hide hlt
          have HTR := hide htr
          clear hle hlt htr
          by_cases hk : k < 5
          · have i1 : (k : Int) < 5 := by omega
            have SCk := hide (fun (u : World) (tu : Turns (fun _ => False) wr u) => SC.out k u ((T1.out.trans HTR.out).trans tu))
            have SCj := hide (fun (u : World) (tu : Turns (fun _ => False) wr u) => SC.out j u ((T1.out.trans HTR.out).trans tu))
            rw [HSP.out k hk] at SCk
            rw [HSP.out j (by omega)] at SCj
            generalize hsk : scoreP (flL L) t b f (k : Nat) = sk at *
            generalize hsj : scoreP (flL L) t b f (j : Nat) = sj at *
            have HSK := hide hsk
            have HSJ := hide hsj
            clear hsk hsj
            have SK9 := SK
            have SK := hide (fun (u : World) (tu : Turns (fun _ => False) wr u) => show (u.cell? ⟨P, 0, none⟩ = some (.slice a 5 c) ∧ u.cell? ⟨P, 1, none⟩ = some (.int .u64 (next : Nat)) ∧ u.cell? ⟨P, 2, none⟩ = some (.int .u64 (seq : Nat)) ∧ u.cell? ⟨P, 3, none⟩ = some (.int .u64 (log : Nat))) ∧ u.cell? ⟨P + 1, 0, none⟩ = some (.int .i64 t) ∧ u.cell? ⟨P + 1, 1, none⟩ = some (.int .i64 b) ∧ u.cell? ⟨P + 1, 2, none⟩ = some (.int .i64 f) from SK9.out u (HTR.out.trans tu))
            go_upto_region 12 with (fail)
            have tV : Turns (fun _ => False) wr wr.drew := (Turns.refl _ _).drew
            refine wp_region_held_drew (S := fun u => (u.cell? ⟨P, 0, none⟩ = some (.slice a 5 c) ∧ u.cell? ⟨P, 1, none⟩ = some (.int .u64 (next : Nat)) ∧ u.cell? ⟨P, 2, none⟩ = some (.int .u64 (seq : Nat)) ∧ u.cell? ⟨P, 3, none⟩ = some (.int .u64 (log : Nat))) ∧ u.cell? ⟨P + 1, 0, none⟩ = some (.int .i64 t) ∧ u.cell? ⟨P + 1, 1, none⟩ = some (.int .i64 b) ∧ u.cell? ⟨P + 1, 2, none⟩ = some (.int .i64 f)) (by kernel_rfl) (SK.out _ tV) (fun _ => ?_)
            change wpAnyH _ _ _ _ _ 9 (Array.replicate 9 false) _ _
            refine wpAnyH_take (i := 0) (oi := { dst := some 30, op := Op.load 25 (Operand.tmp 2), type := 25, pos := "ref.go:115", after := #[], guard := none }) (v := .agg #[.slice a 5 c, .int .u64 (next : Nat), .int .u64 (seq : Nat), .int .u64 (log : Nat)]) rfl (by kernel_rfl) (by kernel_rfl) (by kernel_rfl) (fun _ _ _ h => h) (Or.inl ⟨by rfl, ?_⟩) (SK.out _ tV) ?_
            · rintro w ⟨⟨s0, s1, s2, s3⟩, s4, s5, s6⟩
              go_simp
            simp only [Act.put, List.setIfInBounds_toArray, List.set_cons_zero, List.set_cons_succ]
            refine wpAnyH_take (i := 1) (oi := { dst := some 31, op := Op.load 35 (Operand.tmp 3), type := 35, pos := "ref.go:115", after := #[], guard := none }) (v := .agg #[.int .i64 t, .int .i64 b, .int .i64 f]) rfl (by kernel_rfl) (by kernel_rfl) (by kernel_rfl) (fun _ _ _ h => h) (Or.inl ⟨by rfl, ?_⟩) (SK.out _ tV) ?_
            · rintro w ⟨⟨s0, s1, s2, s3⟩, s4, s5, s6⟩
              go_simp
            simp only [Act.put, List.setIfInBounds_toArray, List.set_cons_zero, List.set_cons_succ]
            refine wpAnyH_take (i := 2) (oi := { dst := some 32, op := Op.move (Operand.tmp 8), type := 3, pos := "ref.go:115", after := #[], guard := none }) (v := .int .i64 (k : Nat)) rfl (by kernel_rfl) (by kernel_rfl) (by kernel_rfl) (fun _ _ _ h => h) (Or.inl ⟨by rfl, ?_⟩) (SK.out _ tV) ?_
            · rintro w ⟨⟨s0, s1, s2, s3⟩, s4, s5, s6⟩
              go_simp
            simp only [Act.put, List.setIfInBounds_toArray, List.set_cons_zero, List.set_cons_succ]
            refine wpAnyH_take (i := 4) (oi := { dst := some 34, op := Op.load 25 (Operand.tmp 2), type := 25, pos := "ref.go:115", after := #[], guard := none }) (v := .agg #[.slice a 5 c, .int .u64 (next : Nat), .int .u64 (seq : Nat), .int .u64 (log : Nat)]) rfl (by kernel_rfl) (by kernel_rfl) (by kernel_rfl) (fun _ _ _ h => h) (Or.inl ⟨by rfl, ?_⟩) (SK.out _ tV) ?_
            · rintro w ⟨⟨s0, s1, s2, s3⟩, s4, s5, s6⟩
              go_simp
            simp only [Act.put, List.setIfInBounds_toArray, List.set_cons_zero, List.set_cons_succ]
            refine wpAnyH_take (i := 5) (oi := { dst := some 35, op := Op.load 35 (Operand.tmp 3), type := 35, pos := "ref.go:115", after := #[], guard := none }) (v := .agg #[.int .i64 t, .int .i64 b, .int .i64 f]) rfl (by kernel_rfl) (by kernel_rfl) (by kernel_rfl) (fun _ _ _ h => h) (Or.inl ⟨by rfl, ?_⟩) (SK.out _ tV) ?_
            · rintro w ⟨⟨s0, s1, s2, s3⟩, s4, s5, s6⟩
              go_simp
            simp only [Act.put, List.setIfInBounds_toArray, List.set_cons_zero, List.set_cons_succ]
            refine wpAnyH_take (i := 6) (oi := { dst := some 36, op := Op.move (Operand.tmp 7), type := 3, pos := "ref.go:115", after := #[], guard := none }) (v := .int .i64 (j : Nat)) rfl (by kernel_rfl) (by kernel_rfl) (by kernel_rfl) (fun _ _ _ h => h) (Or.inl ⟨by rfl, ?_⟩) (SK.out _ tV) ?_
            · rintro w ⟨⟨s0, s1, s2, s3⟩, s4, s5, s6⟩
              go_simp
            simp only [Act.put, List.setIfInBounds_toArray, List.set_cons_zero, List.set_cons_succ]
            refine wpAnyH_ready (rs := [3]) (by kernel_rfl) (by simp) ?_
            refine AllReadyH.cons rfl (fun K hK => ?_) AllReadyH.nil
            go_simp
            refine (SCk.out _ tV).mono ?_
            rintro oo Vn ⟨rfl, tC⟩
            have tN := tC
            have tV := tV.trans tN
            clear tC
            clear tN
            go_simp
            refine hK.out _ _ (SK.out _ tV) (fun _ => ?_)
            clear hK K
            refine wpAnyH_ready (rs := [7]) (by kernel_rfl) (by simp) ?_
            refine AllReadyH.cons rfl (fun K hK => ?_) AllReadyH.nil
            go_simp
            refine (SCj.out _ tV).mono ?_
            rintro oo Vn ⟨rfl, tC⟩
            have tN := tC
            have tV := tV.trans tN
            clear tC
            clear tN
            go_simp
            refine hK.out _ _ (SK.out _ tV) (fun _ => ?_)
            clear hK K
            refine wpAnyH_take (i := 8) (oi := { dst := some 38, op := Op.binOp BinOp.gtr 3 (Operand.tmp 33) (Operand.tmp 37) 3, type := 4, pos := "ref.go:115", after := #[{ on := 3, ground := Ground.data }, { on := 7, ground := Ground.data }], guard := none }) (v := .bool (decide (sj < sk))) rfl (by kernel_rfl) (by kernel_rfl) (by kernel_rfl) (fun _ _ _ h => h) (Or.inl ⟨by rfl, ?_⟩) (SK.out _ tV) ?_
            · rintro w ⟨⟨s0, s1, s2, s3⟩, s4, s5, s6⟩
              go_simp
            simp only [Act.put, List.setIfInBounds_toArray, List.set_cons_zero, List.set_cons_succ]
            refine wpAnyH_done (by kernel_rfl) ?_ _
            have TU := hide tV
            have SU := hide (SK.out _ tV)
            clear tV
            clear SU
            by_cases hs : sj < sk
            · rw [decide_eq_true hs]
              have HS := hide hs
              clear hs
              go_wp2_with fail
              go_roundw
              case rel =>
                refine ⟨k, k + 1, rfl, by go_num, by omega, by omega, by omega, fun q hq => ?_, fun q hq => ?_, HTR.out.trans TU.out⟩
                · rcases Nat.lt_or_ge q k with h | h
                  · have := HLE.out q h; have := HS.out; rw [HSK.out]; omega
                  · obtain rfl : q = k := by omega
                    exact Int.le_refl _
                · have := HLE.out q hq; have := HS.out; rw [HSK.out]; omega
              case measure => simp [intOf]; omega
            · rw [decide_eq_false hs]
              have HS := hide hs
              clear hs
              go_wp2_with fail
              go_roundw
              case rel =>
                refine ⟨j, k + 1, rfl, by go_num, by omega, by omega, by omega, fun q hq => ?_, fun q hq => ?_, HTR.out.trans TU.out⟩
                · rcases Nat.lt_or_ge q k with h | h
                  · rw [HSJ.out]; exact HLE.out q h
                  · obtain rfl : q = k := by omega
                    have := HS.out; rw [HSJ.out, HSK.out]; omega
                · rw [HSJ.out]; exact HLT.out q hq
              case measure => simp [intOf]; omega
          · obtain rfl : k = 5 := by omega
            obtain ⟨hd1, hd2⟩ := due_is HDU.out hjk HLE.out HLT.out
            have HD1 := hide hd1
            obtain ⟨hj3, hne⟩ := score_files HBD.out hjk (scoresL_at (flL L) t b f j hjk) hd2
            obtain ⟨xl, hxl⟩ : ∃ xl, L[j]? = some xl := ⟨_, List.getElem?_eq_getElem (by have := HV.out.len; omega)⟩
            have hgd : (flL L).getD j [] = fls xl.l := by rw [List.getD, flL_at hxl]; rfl
            rw [hgd] at hne
            obtain ⟨x0, hx0⟩ : ∃ x0, xl.l[0]? = some x0 := by
              cases hl : xl.l with
              | nil => rw [hl] at hne; exact absurd rfl hne
              | cons y r => exact ⟨y, rfl⟩
            obtain ⟨⟨bk, off, rfl, _⟩, _⟩ := HV.out.levs j xl hxl
            have HW := hide (levels_ok HWV.out (flL_at hxl)).1
            have HFZ := hide (files_at0 HWV.out (by omega) (flL_at hxl))
            have UP := hide (fun (u : World) (tu : Turns (fun _ => False) w u) => rupper_any bk off c next seq log L xl x0 j u (HV.out.quiet tu) HWV.out hj3 hxl hx0)
            have HGD := hide hgd
            have HJ3 := hide hj3
            have HXC := hide (show xl.l.length ≤ 5000 by have := cnt_take hxl; have := cnt_take_le L (j + 1); have := HV.out.cnt; omega)
            have j3 : (j : Int) ≤ 3 := by omega
            have j0 : (0 : Int) ≤ j := by omega
            have hjw : IntKind.i64.wrap ((j : Int) + 1) = (j : Int) + 1 := wrapI _ (by omega) (by omega)
            have hjw2 : wrap64 ((j : Int) + 1) = (j : Int) + 1 := wrap64_of (by omega) (by omega)
            clear hxl hgd hne hx0 hj3 hd1 hd2 HSP HLE HLT hjk
            unfold verAgg at UP
            generalize xl.l = ll at *
            obtain ⟨⟨p0, p1, p2, p3⟩, q0, q1, q2⟩ := SK.out wr HTR.out
            have RZ := hide (HTR.out.heap Q2R.out (fun x => x))
            go_wp2_with fail
            refine (UP.out _ (T1.out.trans HTR.out)).mono ?_
            rintro e w4 ⟨ua, uc, R, rfl, hfr, hup, hfl, ⟨x, hx⟩, t4⟩
            have HT4 := hide (HTR.out.trans t4)
            have HFR := hide hfr
            have HUP := hide hup
            have HFL := hide hfl
            have HX := hide hx
            have hRm : ∀ y ∈ R, y.f ∈ fls ll := fun y hy => by
              have h1 : y.f ∈ fls R := List.mem_map.2 ⟨y, hy, rfl⟩
              rw [hfl, List.mem_filter] at h1
              exact h1.1
            have HRK := hide (show ∀ y ∈ R, y.f.least.length ≤ 1000000 ∧ y.f.most.length ≤ 1000000 from fun y hy => by
              have := wrongF_false (HW.out _ (hRm y hy)); omega)
            have hRn : R.length ≤ 5000 := by
              have h1 := fls_len (rfl : fls R = fls R)
              have h2 := congrArg List.length hfl
              have h3 := List.length_filter_le (overF (endLo (fls R)) (endHi (fls R))) (fls ll)
              have h4 := HXC.out
              simp only [fls, List.length_map] at h2 h3
              omega
            have HRN := hide hRn
            have hri : (R.length : Int) ≤ 5000 := by omega
            clear hfr hup hfl hx t4 UP p0 p1 p2 p3 q0 q1 q2 hRm hRn
            obtain ⟨w5, hw5⟩ : ∃ u, u = w4.alloc (.cells #[.int .i64 (j : Nat), .slice ua R.length uc, .slice none 0 0, .slice none 0 0, .slice none 0 0, .bool false] 43) := ⟨_, rfl⟩
            have T5 := hide (show Turns (fun _ => False) w4 w5 by rw [hw5]; exact (Turns.refl _ _).alloc _)
            have RJ := hide (show w5.heap[w4.heap.size]? = some (.cells #[.int .i64 (j : Nat), .slice ua R.length uc, .slice none 0 0, .slice none 0 0, .slice none 0 0, .bool false] 43 (0, 0)) by rw [hw5]; exact heap_alloc_new _ _)
            have HT5 := hide (HT4.out.trans T5.out)
            have EN := hide (ends_any ua R.length uc R x w5 (HFR.out.quiet T5.out) rfl (by have := HRN.out; omega) HX.out HRK.out)
            have HEE := hide (ends_of HX.out)
            have HW5 := hide hw5
            have j1 : (w4.alloc (.cells #[.int .i64 (j : Nat), .slice ua R.length uc, .slice none 0 0, .slice none 0 0, .slice none 0 0, .bool false] 43)).cell? ⟨w4.heap.size, 1, none⟩ = some (.slice ua R.length uc) := by rw [← hw5]; exact cell_of_row w5 _ 1 _ 43 (0, 0) RJ.out
            have HNJ := hide (show w.heap.size ≤ w4.heap.size ∧ w1.heap.size ≤ w4.heap.size from ⟨(T1.out.trans HT4.out).size, HT4.out.size⟩)
            clear hw5
            generalize hNR : R.length = NR at *
            have HNR := hide hNR
            clear hNR
            go_wp2_with fail
            rw [← HW5.out]
            clear j1 HW5
            generalize hJ : w4.heap.size = J at *
            have HJJ := hide hJ
            clear hJ
            refine EN.out.mono ?_
            rintro e w6 ⟨kk, rfl, hko, hlo, hhi, t6⟩
            have HT6 := hide (HT5.out.trans t6)
            have RJ6 := hide (t6.heap RJ.out (fun x => x))
            have T56 := hide t6
            have HFR6 := hide ((HFR.out.quiet T5.out).quiet t6)
            have hkb := hko.kb HFR6.out
            have hkl : kk.lo.length ≤ 1000000 ∧ kk.hi.length ≤ 1000000 := by
              obtain ⟨x, hx, z, hz, rfl⟩ := hko
              exact ⟨(HRK.out x hx).1, (HRK.out z hz).2⟩
            rw [HEE.out.1] at hlo
            rw [HEE.out.2] at hhi
            have OV := hide (rOverlap_any (some ⟨bk, off, none⟩) 5 c next seq log L ((j : Nat) + 1 : Int) kk.la kk.lo.length kk.lc kk.ma kk.hi.length kk.mc kk.lo kk.hi w6 (HV.out.quiet (T1.out.trans HT6.out)) hkb.1 hkb.2 hkl.1 hkl.2)
            unfold verAgg at OV
            have HLO := hide hlo
            have HHI := hide hhi
            obtain ⟨⟨p0, p1, p2, p3⟩, _⟩ := SK.out w6 HT6.out
            have j2 := cell_of_row w6 J 2 _ 43 (0, 0) RJ6.out
            have j2f := frozen_of_row w6 J 2 _ 43 RJ6.out
            clear hko hlo hhi hkb hkl EN t6
            obtain ⟨ka, kc, ja, jc, lo, hi⟩ := kk
            simp only at *
            generalize hLW : (filesF (flL L) next seq log ((j : Nat) + 1 : Int)).filter (overF lo hi) = LW at *
            have HLWE := hide hLW
            clear hLW
            go_wp2_with fail
            refine OV.out.mono ?_
            rintro e w7 ⟨xa, xn, xc2, R2, rfl, hxn, hro, hfl2, hft, t7⟩
            have HXN := hide hxn.symm
            have HFL2 := hide hfl2
            have HT7 := hide (HT6.out.trans t7)
            have RJ7 := hide (t7.heap RJ6.out (fun x => x))
            have T67 := hide t7
            have HRS := hide (show RowOk w7 w6.heap.size xa xc2 R2 ∧ fls R2 = LW ∧ ∀ y ∈ R2, FT w7 w6.heap.size y from ⟨hro, hfl2, hft⟩)
            have HRK2 := hide (show ∀ y ∈ R2, y.f.least.length ≤ 1000000 ∧ y.f.most.length ≤ 1000000 from fun y hy => by
              have h1 : y.f ∈ fls R2 := List.mem_map.2 ⟨y, hy, rfl⟩
              rw [hfl2, ← HLWE.out, List.mem_filter] at h1
              exact filesF_keys _ h1.1)
            have HRN2 := hide (show R2.length ≤ 5000 from by
              have h1 := fls_len hfl2
              rw [← HLWE.out] at h1
              have h2 := List.length_filter_le (overF lo hi) (filesF (flL L) next seq log ((j : Nat) + 1 : Int))
              have h3 := filesF_len L next seq log ((j : Nat) + 1 : Int) HV.out.cnt
              omega)
            have jc2 := cell_of_row w7 J 2 _ 43 (0, 0) RJ7.out
            have jf2 := frozen_of_row w7 J 2 _ 43 RJ7.out
            have TK8 := hide ((Tick.refl RJ7.out).set 2 (.slice xa xn xc2))
            clear hxn hro hfl2 hft t7 OV p0 p1 p2 p3 j2 j2f
            go_upto_region 17 with (fail)
            generalize w7.setCell ⟨J, 2, none⟩ (.slice xa xn xc2) = w8 at *
            clear jc2 jf2
            have T48 := hide ((((T5.out.trans T56.out).trans T67.out)).andThen (Turns.of_tick TK8.out) fun j hj e => by have := HJJ.out; omega)
            have HRS8 := hide (rowset_ne HRS.out RJ7.out (by decide) (by decide) (Turns.of_tick TK8.out))
            have HFR8 := hide (fun (u : World) (tu : Turns (fun j => w8.heap.size ≤ j) w8 u) => HFR.out.quiet (T48.out.trans (turns_new tu)))
            have HR28 := hide (fun (u : World) (tu : Turns (fun j => w8.heap.size ≤ j) w8 u) => (rows_fils HRS8.out).quiet (turns_new tu))
            have RJ8 := hide TK8.out.1
            have tV : Turns (fun j => w8.heap.size ≤ j) w8 w8.drew := (Turns.refl _ _).drew
            have SK17 := hide (fun (u : World) (tu : Turns (fun j => w8.heap.size ≤ j) w8 u) => show u.cell? ⟨J, 1, none⟩ = some (.slice ua NR uc) ∧ u.cell? ⟨J, 2, none⟩ = some (.slice xa xn xc2) from ⟨(turns_new tu).cell (TK8.out.cell 1) (fun x => x), (turns_new tu).cell (TK8.out.cell 2) (fun x => x)⟩)
            have SK0 := SK
            clear SK
            have SK := SK17
            clear SK17
            refine wp_region_held_drew (S := fun u => u.cell? ⟨J, 1, none⟩ = some (.slice ua NR uc) ∧ u.cell? ⟨J, 2, none⟩ = some (.slice xa xn xc2)) (by kernel_rfl) (SK.out _ tV) (fun _ => ?_)
            change wpAnyH _ _ _ _ _ 13 (Array.replicate 13 false) _ _
            refine wpAnyH_take (i := 1) (oi := { dst := some 60, op := Op.fieldAddr 43 (Operand.tmp 9) 1, type := 0, pos := "ref.go:122", after := #[], guard := none }) (v := .pointer (some ⟨J, 1, none⟩)) rfl (by kernel_rfl) (by kernel_rfl) (by kernel_rfl) (fun _ _ _ h => h) (Or.inl ⟨by rfl, ?_⟩) (SK.out _ tV) ?_
            · rintro w ⟨s1, s2⟩
              go_simp
            simp only [Act.put, List.setIfInBounds_toArray, List.set_cons_zero, List.set_cons_succ]
            refine wpAnyH_take (i := 2) (oi := { dst := some 61, op := Op.load 31 (Operand.tmp 60), type := 31, pos := "ref.go:122", after := #[{ on := 1, ground := Ground.data }], guard := none }) (v := .slice ua NR uc) rfl (by kernel_rfl) (by kernel_rfl) (by kernel_rfl) (fun _ _ _ h => h) (Or.inl ⟨by rfl, ?_⟩) (SK.out _ tV) ?_
            · rintro w ⟨s1, s2⟩
              go_simp
            simp only [Act.put, List.setIfInBounds_toArray, List.set_cons_zero, List.set_cons_succ]
            refine wpAnyH_take (i := 4) (oi := { dst := some 63, op := Op.fieldAddr 43 (Operand.tmp 9) 2, type := 0, pos := "ref.go:122", after := #[], guard := none }) (v := .pointer (some ⟨J, 2, none⟩)) rfl (by kernel_rfl) (by kernel_rfl) (by kernel_rfl) (fun _ _ _ h => h) (Or.inl ⟨by rfl, ?_⟩) (SK.out _ tV) ?_
            · rintro w ⟨s1, s2⟩
              go_simp
            simp only [Act.put, List.setIfInBounds_toArray, List.set_cons_zero, List.set_cons_succ]
            refine wpAnyH_take (i := 5) (oi := { dst := some 64, op := Op.load 31 (Operand.tmp 63), type := 31, pos := "ref.go:122", after := #[{ on := 4, ground := Ground.data }], guard := none }) (v := .slice xa xn xc2) rfl (by kernel_rfl) (by kernel_rfl) (by kernel_rfl) (fun _ _ _ h => h) (Or.inl ⟨by rfl, ?_⟩) (SK.out _ tV) ?_
            · rintro w ⟨s1, s2⟩
              go_simp
            simp only [Act.put, List.setIfInBounds_toArray, List.set_cons_zero, List.set_cons_succ]
            refine wpAnyH_ready (rs := [0]) (by kernel_rfl) (by simp) ?_
            refine AllReadyH.cons rfl (fun K hK => ?_) AllReadyH.nil
            go_simp
            obtain ⟨uA, huA⟩ : ∃ u, u = (w8.alloc (.cells #[] 29)).drew := ⟨_, rfl⟩
            have ruA : RowC uA w8.heap.size 29 (0 * 6) (flCells []) := by rw [huA]; exact flrow_emp w8
            have tA : Turns (fun j => w8.heap.size ≤ j) w8 uA := by rw [huA]; exact ((Turns.refl _ _).alloc _).drew
            rw [← huA]
            have tV := tA
            refine hK.out _ _ (SK.out _ tV) (fun _ => ?_)
            clear hK K huA
            refine wpAnyH_ready (rs := [3]) (by kernel_rfl) (by simp) ?_
            refine AllReadyH.cons rfl (fun K hK => ?_) AllReadyH.nil
            have hf1 := HFR8.out uA tV
            obtain ⟨g1, n1, c1, uB, hr1, hn1, hg1, hc1, hw1, ht1⟩ := append_fls uA w8.heap.size w8.heap.size 0 [] (Nat.le_refl _) (Nat.le_refl _) ruA tV.size ua uc R (by have := HRN.out; have := HNR.out; simp; omega) hf1
            rw [HNR.out] at hr1
            simp only [List.length_nil] at hr1
            have tV := tV.trans (ht1.mono (S' := fun j => w8.heap.size ≤ j) fun k _ e => by omega)
            refine step_append_run rfl _ _ 31 rfl (.slice (some ⟨w8.heap.size, 0, none⟩) 0 0) (.slice ua NR uc) rfl rfl _ _ (hr1 _) 62 rfl ?_
            refine hK.out _ _ (SK.out _ tV) (fun _ => ?_)
            clear hK K
            simp only [Act.put, List.setIfInBounds_toArray, List.set_cons_zero, List.set_cons_succ]
            refine wpAnyH_ready (rs := [6]) (by kernel_rfl) (by simp) ?_
            refine AllReadyH.cons rfl (fun K hK => ?_) AllReadyH.nil
            have hf2 := HR28.out uB tV
            obtain ⟨g2, n2, c2, uC, hr2, hn2, hg2, hc2, hw2, ht2⟩ := append_fls uB w8.heap.size g1 c1 ([] ++ R) hg1 (by rw [← hn1]; exact hc1) hw1 tV.size xa xc2 R2 (by have := HRN.out; have := HNR.out; have := HRN2.out; simp; omega) hf2
            rw [← hn1, HXN.out] at hr2
            have tV := tV.trans (ht2.mono (S' := fun j => w8.heap.size ≤ j) fun k _ e => by omega)
            refine step_append_run rfl _ _ 31 rfl (.slice (some ⟨g1, 0, none⟩) n1 c1) (.slice xa xn xc2) rfl rfl _ _ (hr2 _) 65 rfl ?_
            refine hK.out _ _ (SK.out _ tV) (fun _ => ?_)
            clear hK K
            simp only [Act.put, List.setIfInBounds_toArray, List.set_cons_zero, List.set_cons_succ]
            refine wpAnyH_ready (rs := [7]) (by kernel_rfl) (by simp) ?_
            refine AllReadyH.cons rfl (fun K hK => ?_) AllReadyH.nil
            have hall : Fils uC (some ⟨g2, 0, none⟩) (R ++ R2) := fils_of_row (c := c2) (by simpa using hw2) fun y hy => by
              rcases List.mem_append.1 hy with hy | hy
              · obtain ⟨q, hq⟩ := List.getElem?_of_mem hy
                exact (HFR8.out uC tV q y hq).2
              · obtain ⟨q, hq⟩ := List.getElem?_of_mem hy
                exact (HR28.out uC tV q y hq).2
            have EN2 := hide (ends_any (some ⟨g2, 0, none⟩) n2 c2 (R ++ R2) x uC hall (by rw [hn2]; simp) (by rw [hn2]; have := HRN.out; have := HNR.out; have := HRN2.out; simp; omega) (by rw [List.getElem?_append_left (by have := (List.getElem?_eq_some_iff.1 HX.out).1; exact this)]; exact HX.out) (fun y hy => by
              rcases List.mem_append.1 hy with hy | hy
              · exact HRK.out y hy
              · exact HRK2.out y hy))
            have HALL := hide hall
            clear hn1 hn2 hc1 hc2 hw1 hw2 ht1 ht2 hr1 hr2 hf1 hf2 hall
            go_simp
            refine EN2.out.mono ?_
            rintro oo w9 ⟨k2, rfl, hko2, hlo2, hhi2, t9⟩
            have tV := tV.trans (t9.mono (S' := fun j => w8.heap.size ≤ j) fun _ _ (x : False) => x.elim)
            go_simp
            refine hK.out _ _ (SK.out _ tV) (fun _ => ?_)
            clear hK K
            refine wpAnyH_take (i := 8) (oi := { dst := some 58, op := Op.move (Operand.tmp 66), type := 58, pos := "ref.go:122", after := #[{ on := 7, ground := Ground.data }], guard := none }) (v := .tuple #[.slice k2.la k2.lo.length k2.lc, .slice k2.ma k2.hi.length k2.mc]) rfl (by kernel_rfl) (by kernel_rfl) (by kernel_rfl) (fun _ _ _ h => h) (Or.inl ⟨by rfl, ?_⟩) (SK.out _ tV) ?_
            · rintro w ⟨s1, s2⟩
              go_simp
            simp only [Act.put, List.setIfInBounds_toArray, List.set_cons_zero, List.set_cons_succ]
            refine wpAnyH_take (i := 9) (oi := { dst := some 67, op := Op.extract (Operand.tmp 58) 0, type := 27, pos := "ref.go:122", after := #[{ on := 8, ground := Ground.data }], guard := none }) (v := .slice k2.la k2.lo.length k2.lc) rfl (by kernel_rfl) (by kernel_rfl) (by kernel_rfl) (fun _ _ _ h => h) (Or.inl ⟨by rfl, ?_⟩) (SK.out _ tV) ?_
            · rintro w ⟨s1, s2⟩
              go_simp
            simp only [Act.put, List.setIfInBounds_toArray, List.set_cons_zero, List.set_cons_succ]
            refine wpAnyH_take (i := 10) (oi := { dst := some 68, op := Op.extract (Operand.tmp 58) 1, type := 27, pos := "ref.go:122", after := #[{ on := 8, ground := Ground.data }, { on := 11, ground := Ground.gcOnly Departure.lateStores }], guard := none }) (v := .slice k2.ma k2.hi.length k2.mc) rfl (by kernel_rfl) (by kernel_rfl) (by kernel_rfl) (fun _ _ _ h => h) (Or.inl ⟨by rfl, ?_⟩) (SK.out _ tV) ?_
            · rintro w ⟨s1, s2⟩
              go_simp
            simp only [Act.put, List.setIfInBounds_toArray, List.set_cons_zero, List.set_cons_succ]
            refine wpAnyH_take (i := 11) (oi := { dst := some 10, op := Op.assign (Operand.tmp 67), type := 27, pos := "ref.go:122", after := #[{ on := 9, ground := Ground.data }, { on := 7, ground := Ground.chain }, { on := 0, ground := Ground.phase }, { on := 1, ground := Ground.phase }, { on := 2, ground := Ground.phase }, { on := 3, ground := Ground.phase }, { on := 4, ground := Ground.phase }, { on := 5, ground := Ground.phase }, { on := 6, ground := Ground.phase }, { on := 7, ground := Ground.phase }, { on := 8, ground := Ground.phase }, { on := 9, ground := Ground.phase }, { on := 10, ground := Ground.textOnly Departure.lateStores }], guard := none }) (v := .slice k2.la k2.lo.length k2.lc) rfl (by kernel_rfl) (by kernel_rfl) (by kernel_rfl) (fun _ _ _ h => h) (Or.inl ⟨by rfl, ?_⟩) (SK.out _ tV) ?_
            · rintro w ⟨s1, s2⟩
              go_simp
            simp only [Act.put, List.setIfInBounds_toArray, List.set_cons_zero, List.set_cons_succ]
            refine wpAnyH_take (i := 12) (oi := { dst := some 11, op := Op.assign (Operand.tmp 68), type := 27, pos := "ref.go:122", after := #[{ on := 10, ground := Ground.data }, { on := 11, ground := Ground.chain }, { on := 0, ground := Ground.phase }, { on := 1, ground := Ground.phase }, { on := 2, ground := Ground.phase }, { on := 3, ground := Ground.phase }, { on := 4, ground := Ground.phase }, { on := 5, ground := Ground.phase }, { on := 6, ground := Ground.phase }, { on := 7, ground := Ground.phase }, { on := 8, ground := Ground.phase }, { on := 9, ground := Ground.phase }, { on := 10, ground := Ground.phase }, { on := 11, ground := Ground.phase }], guard := none }) (v := .slice k2.ma k2.hi.length k2.mc) rfl (by kernel_rfl) (by kernel_rfl) (by kernel_rfl) (fun _ _ _ h => h) (Or.inl ⟨by rfl, ?_⟩) (SK.out _ tV) ?_
            · rintro w ⟨s1, s2⟩
              go_simp
            simp only [Act.put, List.setIfInBounds_toArray, List.set_cons_zero, List.set_cons_succ]
            refine wpAnyH_done (by kernel_rfl) ?_ _
            have T89 := hide (turns_new tV)
            have HK9 := hide ((hko2.kb HALL.out).quiet t9)
            have hk2l : k2.lo.length ≤ 1000000 ∧ k2.hi.length ≤ 1000000 := by
              obtain ⟨x, hx, z, hz, rfl⟩ := hko2
              refine ⟨?_, ?_⟩
              · rcases List.mem_append.1 hx with hx | hx
                · exact (HRK.out x hx).1
                · exact (HRK2.out x hx).1
              · rcases List.mem_append.1 hz with hz | hz
                · exact (HRK.out z hz).2
                · exact (HRK2.out z hz).2
            have HKO2 := hide hko2
            have HLO2 := hide hlo2
            have HHI2 := hide hhi2
            clear hko2 hlo2 hhi2 t9 tV HALL EN2 tA ruA hg1 hg2
            obtain ⟨pa, pc, qa, qc, lo2, hi2⟩ := k2
            simp only at *
            generalize hL5 : lo2.length = L5 at *
            generalize hL6 : hi2.length = L6 at *
            have HL5 := hide hL5
            have HL6 := hide hL6
            obtain ⟨ga, ca, wA, hra, hga, hwa, hta, hqa⟩ := append_emp (w9.alloc (.cells #[] 5)) w9.heap.size w9.heap.size L5 (.slice pa L5 pc) lo2 hL5.symm (by have := (HK9.out.quiet ((Turns.refl (fun _ => False) w9).alloc (.cells #[] 5))).1; rw [hL5] at this; exact this) (by simp) (Nat.le_refl _) (rowb_emp w9) hk2l.1
            have tA9 : Turns (fun _ => False) w9 wA := ((Turns.refl _ w9).alloc _).andThen hta fun k hk e => by omega
            obtain ⟨gb, cb, wB, hrb, hgb, hwb, htb, hqb⟩ := append_emp (wA.alloc (.cells #[] 5)) w9.heap.size wA.heap.size L6 (.slice qa L6 qc) hi2 hL6.symm (by have := (HK9.out.quiet (tA9.alloc (.cells #[] 5))).2; rw [hL6] at this; exact this) (by have := tA9.size; simp; omega) tA9.size (rowb_emp wA) hk2l.2
            have tB9 : Turns (fun _ => False) w9 wB := (tA9.alloc _).andThen htb fun k hk e => by have := tA9.size; omega
            have HWA := hide (show RowB wB ga ca lo2 from (hwa.turns ((Turns.refl (fun j => j = wA.heap.size) wA).alloc (.cells #[] 5)) (by have := rowb_lt hwa; omega)).turns htb (by have := rowb_lt hwa; omega))
            have HWB := hide hwb
            have HGA := hide (And.intro hga hgb)
            have TB9 := hide tB9
            have HRA := hide hra
            have HRB := hide hrb
            have RJB := hide ((T89.out.trans tB9).heap RJ8.out (fun x => x))
            have jc3 := cell_of_row wB J 3 _ 43 (0, 0) RJB.out
            have jf3 := frozen_of_row wB J 3 _ 43 RJB.out
            have jc4 := cell_of_row wB J 4 _ 43 (0, 0) RJB.out
            have jf4 := frozen_of_row wB J 4 _ 43 RJB.out
            have TKB := hide (((Tick.refl RJB.out).set 3 (.slice (some ⟨ga, 0, none⟩) L5 ca)).set 4 (.slice (some ⟨gb, 0, none⟩) L6 cb))
            have HL56 := hide hk2l
            clear hra hwa hta hqa hrb hwb htb hqb tA9 tB9 hga hgb hk2l hL5 hL6
            have HT9B := hide (T89.out.trans TB9.out)
            obtain ⟨WZ, hWZ⟩ : ∃ u, u = (wB.setCell ⟨J, 3, none⟩ (.slice (some ⟨ga, 0, none⟩) L5 ca)).setCell ⟨J, 4, none⟩ (.slice (some ⟨gb, 0, none⟩) L6 cb) := ⟨_, rfl⟩
            have TKZ := hide (show Tick wB WZ J 43 _ from hWZ ▸ TKB.out)
            have T1Z := hide (((HT7.out.andThen (Turns.of_tick TK8.out) fun j hj e => by have := HNJ.out; omega).trans HT9B.out).andThen (Turns.of_tick TKZ.out) fun j hj e => by have := HNJ.out; omega)
            have T4Z := hide ((T48.out.trans HT9B.out).andThen (Turns.of_tick TKZ.out) fun j hj e => by have := HJJ.out; omega)
            have HRSZ := hide (rowset_ne (rowset HRS8.out HT9B.out) RJB.out (by decide) (by decide) (Turns.of_tick TKZ.out))
            have HFRZ := hide (HFR.out.quiet T4Z.out)
            have hkz := kof_app HKO2.out (fils_fb HFRZ.out) (fun y hy => (HRSZ.out.2.2 y hy).fb)
            unfold KB at hkz
            simp only at hkz
            rw [HL5.out, HL6.out] at hkz
            have hl56 : L5 ≤ 1000000 ∧ L6 ≤ 1000000 := HL56.out
            have DP := hide (rDeepest_any (some ⟨bk, off, none⟩) 5 c next seq log L ((j : Nat) + 1 : Int) pa L5 pc qa L6 qc lo2 hi2 WZ (HV.out.quiet (T1.out.trans T1Z.out)) hkz.1 hkz.2 hl56.1 hl56.2)
            unfold verAgg at DP
            generalize hBT : deepF (flL L) next seq log ((j : Nat) + 1 : Int) lo2 hi2 = BT at *
            have HBT := hide hBT
            obtain ⟨⟨p0, p1, p2, p3⟩, _⟩ := SK0.out WZ T1Z.out
            rw [hWZ] at p0 p1 p2 p3
            have HWZ := hide hWZ
            clear hBT hWZ hkz hl56
            go_wp2_with (first
              | (at_builtin; refine wpList_append_run rfl _ _ 27 rfl (.slice (some ⟨w9.heap.size, 0, none⟩) 0 0) (.slice pa L5 pc) rfl rfl _ _ (HRA.out _) ?_)
              | (at_builtin; refine wpList_append_run rfl _ _ 27 rfl (.slice (some ⟨wA.heap.size, 0, none⟩) 0 0) (.slice qa L6 qc) rfl rfl _ _ (HRB.out _) ?_))
            rw [← HWZ.out]
            clear HWZ p0 p1 p2 p3 jc3 jf3 jc4 jf4
            refine DP.out.mono ?_
            rintro e wE ⟨rfl, tE⟩
            have TE := hide tE
            have RJE := hide (tE.heap TKZ.out.1 (fun x => x))
            have g5 := cell_of_row wE J 5 _ 43 (0, 0) RJE.out
            have f5 := frozen_of_row wE J 5 _ 43 RJE.out
            have TK5 := hide ((Tick.refl RJE.out).set 5 (.bool BT))
            clear tE DP
            have k0 : (wE.setCell ⟨J, 5, none⟩ (.bool BT)).cell? ⟨J, 0, none⟩ = some (.int .i64 (j : Nat)) := TK5.out.cell 0
            have k1 : (wE.setCell ⟨J, 5, none⟩ (.bool BT)).cell? ⟨J, 1, none⟩ = some (.slice ua NR uc) := TK5.out.cell 1
            have k2' : (wE.setCell ⟨J, 5, none⟩ (.bool BT)).cell? ⟨J, 2, none⟩ = some (.slice xa xn xc2) := TK5.out.cell 2
            have k3 : (wE.setCell ⟨J, 5, none⟩ (.bool BT)).cell? ⟨J, 3, none⟩ = some (.slice (some ⟨ga, 0, none⟩) L5 ca) := TK5.out.cell 3
            have k4 : (wE.setCell ⟨J, 5, none⟩ (.bool BT)).cell? ⟨J, 4, none⟩ = some (.slice (some ⟨gb, 0, none⟩) L6 cb) := TK5.out.cell 4
            have k5 : (wE.setCell ⟨J, 5, none⟩ (.bool BT)).cell? ⟨J, 5, none⟩ = some (.bool BT) := TK5.out.cell 5
            have T1E := hide ((T1Z.out.trans TE.out).andThen (Turns.of_tick TK5.out) fun j hj e => by have := HNJ.out; omega)
            have r7 := T1E.out.heap Q2R.out (fun x => x)
            go_wp2_with (refine wpList_store_row rfl 43 _ _ rfl _ _ rfl rfl _ _ r7 ?_ ?_ ?_ ?_; (exact sz43); (simp only [List.size_toArray, List.length_cons, List.length_nil]); (simp [Value.oneCell']))
            refine bodyPost_ret (v := .tuple #[.agg #[.int .i64 (j : Nat), .slice ua NR uc, .slice xa xn xc2, .slice (some ⟨ga, 0, none⟩) L5 ca, .slice (some ⟨gb, 0, none⟩) L6 cb, .bool BT], .int .i64 0]) ?_ rfl ?_
            · exact results_cell_tmp Try.results16 _ _ _ _ _ _ _ _ rfl rfl (setRow_heap _ _ _ _ _ _ r7) Try.underlying43 rfl sz43
            · have ts := turns_setRow (wE.setCell ⟨J, 5, none⟩ (.bool BT)) (P + 1 + 1) #[.int .i64 (j : Nat), .slice ua NR uc, .slice xa xn xc2, .slice (some ⟨ga, 0, none⟩) L5 ca, .slice (some ⟨gb, 0, none⟩) L6 cb, .bool BT]
              have t4 : Turns (fun _ => False) w4 (wE.setCell ⟨J, 5, none⟩ (.bool BT)) := (T4Z.out.trans TE.out).andThen (Turns.of_tick TK5.out) fun j hj e => by have := HJJ.out; omega
              have fR := fils_nou r7 nou6 ts (HFR.out.quiet t4)
              have rs := rowset_ne (rowset_ne (rowset HRSZ.out TE.out) RJE.out (by decide) (by decide) (Turns.of_tick TK5.out)) r7 (by decide) (by decide) ts
              have hJ9 : J < w9.heap.size := (Array.getElem?_eq_some_iff.1 (T89.out.heap RJ8.out (fun x => x))).1
              have hP9 : P + 1 + 1 < w9.heap.size := by
                have h1 := (Array.getElem?_eq_some_iff.1 Q2R.out).1
                have h2 := HNJ.out
                omega
              have hga := HGA.out.1
              have hgb := HGA.out.2
              have bA := RowB.bytes (n := L5) (c' := ca) (show RowB _ ga ca lo2 from ((((HWA.out.turns (Turns.of_tick TKZ.out) (by omega)).turns TE.out (fun x => x)).turns (Turns.of_tick TK5.out) (by omega)).turns ts (by omega))) HL5.out.symm
              have bB := RowB.bytes (n := L6) (c' := cb) (show RowB _ gb cb hi2 from ((((HWB.out.turns (Turns.of_tick TKZ.out) (by omega)).turns TE.out (fun x => x)).turns (Turns.of_tick TK5.out) (by omega)).turns ts (by omega))) HL6.out.symm
              have TW := (T1.out.trans T1E.out).andThen ts fun q hq e => by have := HP.out; omega
              have hne : fls R ≠ [] := fun e => by
                have := fls_at HX.out
                rw [e] at this
                simp at this
              have htl : (fls (R ++ R2)).tail = (fls R).tail ++ LW := by
                rw [← HFL2.out]
                unfold fls at hne ⊢
                rw [List.map_append, List.tail_append_of_ne_nil hne]
              have hlo2 : lo2 = loF LW (endLo (fls R)) := by
                rw [HLO2.out, htl, ← HEE.out.1]
                unfold loF
                rw [List.foldl_append]
              have hhi2 : hi2 = hiF LW (endHi (fls R)) := by
                rw [HHI2.out, htl, ← HEE.out.2]
                unfold hiF
                rw [List.foldl_append]
              have hnj : NextJ (flL L) next seq log j (endLo (fls R)) (endHi (fls R)) (fls R) LW lo2 hi2 BT := ⟨by rw [HGD.out]; exact HUP.out, by rw [HFZ.out]; exact HFL.out, by rw [← HLWE.out, HLO.out, HHI.out], hlo2, hhi2, HBT.out.symm⟩
              refine ⟨_, 0, rfl, .inr (.inr ⟨HOK.out, HDU.out, rfl, j, _, _, _, _, _, _, _, HJ3.out, HD1.out, hnj, ua, xa, uc, xc2, R, R2, some ⟨ga, 0, none⟩, some ⟨gb, 0, none⟩, ca, cb, ?_, fR, rfl, rows_fils rs, HFL2.out, ?_, ?_⟩), TW⟩
              · rw [HNR.out, HXN.out, HL5.out, HL6.out]
              · rw [HL5.out]; exact bA
              · rw [HL6.out]; exact bB
end Go.Proofs.Ytkmcdjbadngfgaa

/-
  The kit's comparison of two jobs that are the same.
-/
namespace Go.Proofs.Ytkmcdjbadngfgaa
open Go.RowKit
set_option maxRecDepth 100000
set_option maxHeartbeats 4000000
theorem zero_read (w : World) : JobR w zeroJob 0 [] [] [] [] false :=
  ⟨none, none, 0, 0, [], [], none, none, 0, 0, rfl, fils_nil _, rfl, fils_nil _, rfl, ⟨none, 0, rfl, fun k hk => by simp at hk⟩, ⟨none, 0, rfl, fun k hk => by simp at hk⟩⟩
/-- What two jobs that are the same must have for the kit to go through them. -/
structure JobSm (U LW : List Fl) (le mo : List (BitVec 8)) : Prop where
  u1 : U.length ≤ 1000000
  u2 : KeyOk U
  l1 : LW.length ≤ 1000000
  l2 : KeyOk LW
  a : le.length ≤ 1000000000
  b : mo.length ≤ 1000000000
theorem kjob_same (w : World) (v v' : Value) (z : Int) (U LW : List Fl) (le mo : List (BitVec 8)) (bo : Bool) (h : JobR w v z U LW le mo bo) (h' : JobR w v' z U LW le mo bo) (hs : JobSm U LW le mo) :
    Calls Try.prog 17 #[v, v'] w fun e w' => e = .returned (.bool true) ∧ Turns (fun _ => False) w w' := by
  obtain ⟨ua, va, uc, vc, R1, R2, a1, a2, c1, c2, rfl, h1, hU, h2, hL, h3, h4⟩ := h
  obtain ⟨ua', va', uc', vc', R1', R2', a1', a2', c1', c2', rfl, h1', hU', h2', hL', h3', h4'⟩ := h'
  have TA := hide (((Turns.refl (fun _ => False) w).alloc (.cells #[.int .i64 z, .slice ua R1.length uc, .slice va R2.length vc, .slice a1 le.length c1, .slice a2 mo.length c2, .bool bo] 43)).alloc (.cells #[.int .i64 z, .slice ua' R1'.length uc', .slice va' R2'.length vc', .slice a1' le.length c1', .slice a2' mo.length c2', .bool bo] 43))
  have F1 := hide (fun (u : World) (t : Turns (fun _ => False) w u) => kfiles_same ua R1.length uc R1 ua' R1'.length uc' R1' u (h1.quiet t) (h1'.quiet t) rfl rfl (hU.trans hU'.symm) (by have := fls_len hU; have := hs.u1; omega) (by rw [hU]; exact hs.u2))
  have F2 := hide (fun (u : World) (t : Turns (fun _ => False) w u) => kfiles_same va R2.length vc R2 va' R2'.length vc' R2' u (h2.quiet t) (h2'.quiet t) rfl rfl (hL.trans hL'.symm) (by have := fls_len hL; have := hs.l1; omega) (by rw [hL]; exact hs.l2))
  have B1 := hide (fun (u : World) (t : Turns (fun _ => False) w u) => bytes_any a1 a1' le.length le.length c1 c1' le le u (h3.quiet t) (h3'.quiet t) hs.a)
  have B2 := hide (fun (u : World) (t : Turns (fun _ => False) w u) => bytes_any a2 a2' mo.length mo.length c2 c2' mo mo u (h4.quiet t) (h4'.quiet t) hs.b)
  simp only [decide_true] at B1 B2
  clear h1 hU h2 hL h3 h4 h1' hU' h2' hL' h3' h4' hs
  generalize R1.length = n1 at *
  generalize R2.length = n2 at *
  generalize R1'.length = n1' at *
  generalize R2'.length = n2' at *
  generalize le.length = n3 at *
  generalize mo.length = n4 at *
  clear R1 R2 R1' R2' le mo U LW
  have R0 := hide (((Turns.refl (fun _ => False) (w.alloc (.cells #[.int .i64 z, .slice ua n1 uc, .slice va n2 vc, .slice a1 n3 c1, .slice a2 n4 c2, .bool bo] 43))).alloc (.cells #[.int .i64 z, .slice ua' n1' uc', .slice va' n2' vc', .slice a1' n3 c1', .slice a2' n4 c2', .bool bo] 43)).heap (heap_alloc_new w (.cells #[.int .i64 z, .slice ua n1 uc, .slice va n2 vc, .slice a1 n3 c1, .slice a2 n4 c2, .bool bo] 43)) (fun x => x))
  have R1 := hide (heap_alloc_new (w.alloc (.cells #[.int .i64 z, .slice ua n1 uc, .slice va n2 vc, .slice a1 n3 c1, .slice a2 n4 c2, .bool bo] 43)) (.cells #[.int .i64 z, .slice ua' n1' uc', .slice va' n2' vc', .slice a1' n3 c1', .slice a2' n4 c2', .bool bo] 43))
  simp only [World.size_alloc] at R1
  go_enter Try.func17, Try.ntmps17
  go_wp2_with fail
  obtain ⟨w0, hw0⟩ : ∃ u, u = (w.alloc (.cells #[.int .i64 z, .slice ua n1 uc, .slice va n2 vc, .slice a1 n3 c1, .slice a2 n4 c2, .bool bo] 43)).alloc (.cells #[.int .i64 z, .slice ua' n1' uc', .slice va' n2' vc', .slice a1' n3 c1', .slice a2' n4 c2', .bool bo] 43) := ⟨_, rfl⟩
  rw [← hw0] at TA R0 R1 ⊢
  clear hw0
  generalize w.heap.size = P at *
  have SK := hide (fun (u : World) (tu : Turns (fun _ => False) w0 u) => show (u.cell? ⟨P, 0, none⟩ = some (.int .i64 z) ∧ u.cell? ⟨P, 1, none⟩ = some (.slice ua n1 uc) ∧ u.cell? ⟨P, 2, none⟩ = some (.slice va n2 vc) ∧ u.cell? ⟨P, 3, none⟩ = some (.slice a1 n3 c1) ∧ u.cell? ⟨P, 4, none⟩ = some (.slice a2 n4 c2) ∧ u.cell? ⟨P, 5, none⟩ = some (.bool bo)) ∧ u.cell? ⟨P + 1, 0, none⟩ = some (.int .i64 z) ∧ u.cell? ⟨P + 1, 1, none⟩ = some (.slice ua' n1' uc') ∧ u.cell? ⟨P + 1, 2, none⟩ = some (.slice va' n2' vc') ∧ u.cell? ⟨P + 1, 3, none⟩ = some (.slice a1' n3 c1') ∧ u.cell? ⟨P + 1, 4, none⟩ = some (.slice a2' n4 c2') ∧ u.cell? ⟨P + 1, 5, none⟩ = some (.bool bo) from ⟨⟨cell_of_row u P 0 _ 43 (0, 0) (tu.heap R0.out (fun x => x)), cell_of_row u P 1 _ 43 (0, 0) (tu.heap R0.out (fun x => x)), cell_of_row u P 2 _ 43 (0, 0) (tu.heap R0.out (fun x => x)), cell_of_row u P 3 _ 43 (0, 0) (tu.heap R0.out (fun x => x)), cell_of_row u P 4 _ 43 (0, 0) (tu.heap R0.out (fun x => x)), cell_of_row u P 5 _ 43 (0, 0) (tu.heap R0.out (fun x => x))⟩, cell_of_row u (P + 1) 0 _ 43 (0, 0) (tu.heap R1.out (fun x => x)), cell_of_row u (P + 1) 1 _ 43 (0, 0) (tu.heap R1.out (fun x => x)), cell_of_row u (P + 1) 2 _ 43 (0, 0) (tu.heap R1.out (fun x => x)), cell_of_row u (P + 1) 3 _ 43 (0, 0) (tu.heap R1.out (fun x => x)), cell_of_row u (P + 1) 4 _ 43 (0, 0) (tu.heap R1.out (fun x => x)), cell_of_row u (P + 1) 5 _ 43 (0, 0) (tu.heap R1.out (fun x => x))⟩)
  refine (F1.out _ TA.out).mono ?_
  rintro e w1 ⟨rfl, t1⟩
  have T1 := hide t1
  clear t1
  obtain ⟨⟨p0, p1, p2, p3, p4, p5⟩, q0, q1, q2, q3, q4, q5⟩ := SK.out w1 T1.out
  go_wp2_with fail
  refine (F2.out _ (TA.out.trans T1.out)).mono ?_
  rintro e w2 ⟨rfl, t2⟩
  have T2 := hide (T1.out.trans t2)
  clear t2 p0 p1 p2 p3 p4 p5 q0 q1 q2 q3 q4 q5
  obtain ⟨⟨p0, p1, p2, p3, p4, p5⟩, q0, q1, q2, q3, q4, q5⟩ := SK.out w2 T2.out
  go_wp2_with fail
  refine (B1.out _ (TA.out.trans T2.out)).mono ?_
  rintro e w3 ⟨rfl, m3, rfl⟩
  have T3 := hide (T2.out.drewN m3)
  clear p0 p1 p2 p3 p4 p5 q0 q1 q2 q3 q4 q5
  generalize w2.drewN m3 = w3 at *
  obtain ⟨⟨p0, p1, p2, p3, p4, p5⟩, q0, q1, q2, q3, q4, q5⟩ := SK.out w3 T3.out
  go_wp2_with fail
  refine (B2.out _ (TA.out.trans T3.out)).mono ?_
  rintro e w4 ⟨rfl, m4, rfl⟩
  go_wp2_with fail
  go_ret
  exact ⟨rfl, (TA.out.trans T3.out).drewN m4⟩
end Go.Proofs.Ytkmcdjbadngfgaa
