import Derived.Test.YtmmcikbedegigaaGreatM16
import Derived.Test.YtmmcikbedegigaaGreatM15
/-
  Append of an edit.
-/
namespace Go.Proofs.YtmmcikbedegigaaGreat
open Go.RowKit
set_option maxRecDepth 100000
set_option maxHeartbeats 4000000
theorem cloneNil_any (w : World) : Calls Tryz.prog 28 #[.slice none 0 0] w fun e w' => e = .returned (.slice none 0 0) ∧ w' = w := by
  have he : (binOp .eql 38 (.slice none 0 0) (.slice none 0 0)).run Tryz.prog w = .ok (.bool true) w := nil_eql none 0 0 w
  go_enter Tryz.func28, Tryz.ntmps28
  go_wp2_with fail
  go_ret
  exact ⟨rfl, rfl⟩
/-- What Append answers. -/
def Appended (w' : World) (en es el : Nat) (D : List (Int × Nat)) (A : List AddF) (e : Ending) : Prop :=
  ((D.any wrongD = true ∨ A.any wrongA = true) ∧ e = .returned (.tuple #[.slice none 0 0, .int .i64 2])) ∨ (D.any wrongD = false ∧ A.any wrongA = false ∧ ∃ a n c, e = .returned (.tuple #[.slice a n c, .int .i64 0]) ∧ n = (editB en es el D A).length ∧ Bytes w' (.slice a n c) (editB en es el D A))
/-- How far the bytes have come, and the edit's own block. -/
structure Ab (w wr : World) (X : Nat) (cs : Array Value) (a : Option Addr) (n c : Nat) (bs : List (BitVec 8)) : Prop where
  row : ORow wr w.heap.size a c bs
  len : n = bs.length
  turn : Turns (fun _ => False) w wr
  new : ∀ g, a = some ⟨g, 0, none⟩ → w.heap.size ≤ g
  blk : wr.heap[X]? = some (.cells cs 33 (0, 0))
section
variable {w wr w' : World} {X : Nat} {cs : Array Value} {a : Option Addr} {n c : Nat} {bs : List (BitVec 8)}
theorem Ab.quiet (h : Ab w wr X cs a n c bs) (t : Turns (fun _ => False) wr w') : Ab w w' X cs a n c bs := ⟨h.row.keep t fun _ _ x => x, h.len, h.turn.trans t, h.new, t.heap h.blk fun x => x⟩
theorem Ab.nums (h : Ab w wr X cs a n c bs) (hn : n ≤ 500000000) (na : Nat) (zs : List Nat) (k : Nat) (hk : k = zs.length) (hk2 : k ≤ 1000) (hz : Nums wr (some ⟨na, 0, none⟩) zs) (hna : ∃ cs, wr.heap[na]? = some (.cells cs 25 (0, 0))) :
    Calls Tryz.prog 27 #[.slice a n c, .slice (some ⟨na, 0, none⟩) k k] wr fun e w' => ∃ a' n' c', e = .returned (.slice a' n' c') ∧ Ab w w' X cs a' n' c' (bs ++ shorts zs) ∧ Turns (fun j => a = some ⟨j, 0, none⟩) wr w' := by
  have hs := h.turn.size
  refine (appendNumbers_any w.heap.size a n c bs h.len (some ⟨na, 0, none⟩) k k zs wr h.row hz hk hk2 (fun b off e e2 => ?_) hs (by omega)).mono ?_
  · cases e
    obtain ⟨cs, h2⟩ := hna
    exact h.row.ne h2 (by decide) _ e2 rfl
  · rintro e w' ⟨a', n', c', rfl, h1, h2, h3, h4⟩
    refine ⟨a', n', c', rfl, ⟨h2, h1, h.turn.andThen h3 fun j hj e => ?_, fun g e => ?_, h3.heap h.blk fun e => h.row.ne h.blk (by decide) X e rfl⟩, h3⟩
    · have := h.new j e; omega
    · rcases h4 g e with e2 | e2
      · exact h.new g e2
      · omega
theorem Ab.pieces (h : Ab w wr X cs a n c bs) (hn : n ≤ 500000000) (G : Nat) (la : Option Addr) (L1 lc : Nat) (ma : Option Addr) (L2 mc : Nat) (ls ms : List (BitVec 8)) (hG : wr.heap[G]? = some (.cells #[.slice la L1 lc, .slice ma L2 mc] 38 (0, 0))) (h1 : ∀ u, Turns (fun _ => False) w u → Bytes u (.slice la L1 lc) ls) (h2 : ∀ u, Turns (fun _ => False) w u → Bytes u (.slice ma L2 mc) ms) (l1 : L1 ≤ 1048576) (l2 : L2 ≤ 1048576) :
    Calls Tryz.prog 30 #[.slice a n c, .slice (some ⟨G, 0, none⟩) 2 2] wr fun e w' => ∃ a' n' c', e = .returned (.slice a' n' c') ∧ Ab w w' X cs a' n' c' (bs ++ (pieceB ls ++ pieceB ms)) := by
  have hs := h.turn.size
  have tq : ∀ u, Turns (fun j => w.heap.size ≤ j) wr u → Turns (fun _ => False) w u := fun u t => h.turn.andThen t fun j hj e => by omega
  refine (appendPieces_any w.heap.size G a n c bs h.len la L1 lc ma L2 mc ls ms wr h.row hG (fun u t => h1 u (tq u t)) (fun u t => h2 u (tq u t)) l1 l2 hs (by omega)).mono ?_
  rintro e w' ⟨a', n', c', rfl, h3, h4, h5, h6⟩
  refine ⟨a', n', c', rfl, h4, h3, h.turn.andThen h5 fun j hj e => ?_, fun g e => ?_, h5.heap h.blk fun e => h.row.ne h.blk (by decide) X e rfl⟩
  · have := h.new j e; omega
  · rcases h6 g e with e2 | e2
    · exact h.new g e2
    · omega
end
theorem shorts3 (a b c : Nat) : shorts [a, b, c] = headB a b c := by simp [shorts, headB]
theorem dropB_len (d : Int × Nat) (h : d.2 < 18446744073709551616) : (dropB d).length ≤ 20 := by
  have h1 := short_len (u64N d.1) (u64N_lt _)
  have h2 := short_len d.2 h
  unfold dropB
  rw [List.length_append]
  omega
theorem addB_len (d : AddF) (h1 : d.2.no < 18446744073709551616) (h2 : d.2.seq < 18446744073709551616) (h3 : d.2.least.length ≤ 1000000) (h4 : d.2.most.length ≤ 1000000) : (addB d).length ≤ 70 + keyF d.2 := by
  have e1 := short_len (u64N d.1) (u64N_lt _)
  have e2 := short_len d.2.no h1
  have e3 := short_len (u64N d.2.size) (u64N_lt _)
  have e4 := short_len (u64N d.2.ents) (u64N_lt _)
  have e5 := short_len d.2.seq h2
  have e6 := short_len d.2.least.length (by omega)
  have e7 := short_len d.2.most.length (by omega)
  rw [addB_all]
  simp only [List.length_append, pieceB, keyF]
  omega
theorem dropsB_len : ∀ (D : List (Int × Nat)), (∀ d ∈ D, d.2 < 18446744073709551616) → (dropsB D).length ≤ 20 * D.length
  | [], _ => by simp [dropsB]
  | d :: r, h => by
    have h1 := dropsB_len r fun y hy => h y (List.mem_cons_of_mem _ hy)
    have h2 := dropB_len d (h d (by simp))
    unfold dropsB at *
    rw [List.flatMap_cons, List.length_append, List.length_cons]
    omega
theorem addsB_len : ∀ (A : List AddF), (∀ d ∈ A, d.2.no < 18446744073709551616 ∧ d.2.seq < 18446744073709551616 ∧ d.2.least.length ≤ 1000000 ∧ d.2.most.length ≤ 1000000) → (addsB A).length ≤ 70 * A.length + (A.map fun d => keyF d.2).sum
  | [], _ => by simp [addsB]
  | d :: r, h => by
    have h1 := addsB_len r fun y hy => h y (List.mem_cons_of_mem _ hy)
    obtain ⟨a1, a2, a3, a4⟩ := h d (by simp)
    have h2 := addB_len d a1 a2 a3 a4
    unfold addsB at *
    rw [List.flatMap_cons, List.length_append, List.length_cons, List.map_cons, List.sum_cons]
    omega
theorem append_any (da : Option Addr) (dn dc : Nat) (aa : Option Addr) (an ac en es el : Nat) (D : List (Int × Nat)) (A : List (Int × Tf)) (w : World) (hE : EdIn w da dn aa an D A en es el) (hsq : ∀ d ∈ A, d.2.f.seq < 18446744073709551616) (hby : ((fA A).map fun d => keyF d.2).sum ≤ 1000000) :
    Calls Tryz.prog 9 #[.slice none 0 0, edAgg da dn dc aa an ac en es el] w fun e w' => Turns (fun _ => False) w w' ∧ Appended w' en es el D (fA A) e := by
  have TA := hide ((Turns.refl (fun _ => False) w).alloc (.cells #[.slice da dn dc, .slice aa an ac, .int .u64 (en : Nat), .int .u64 (es : Nat), .int .u64 (el : Nat)] 33))
  have G0 := hide (heap_alloc_new w (.cells #[.slice da dn dc, .slice aa an ac, .int .u64 (en : Nat), .int .u64 (es : Nat), .int .u64 (el : Nat)] 33))
  have HE := hide hE
  have HSQ := hide hsq
  have HBY := hide hby
  have hdi : (dn : Int) ≤ 1000 := by have := hE.dmx; omega
  have hai : (an : Int) ≤ 4000 := by have := hE.amx; omega
  have CD := hide (fun (u : World) (t : Turns (fun _ => False) w u) => contains_dr da dn dc D u (hE.drops.quiet t) hE.dlen (by omega))
  have CA := hide (fun (u : World) (t : Turns (fun _ => False) w u) => contains_ad aa an ac A u (hE.adds.quiet t) hE.alen (by omega))
  clear hE hsq hby
  unfold edAgg
  go_enter Tryz.func9, Tryz.ntmps9
  go_wp2_with fail
  generalize w.alloc (.cells #[.slice da dn dc, .slice aa an ac, .int .u64 (en : Nat), .int .u64 (es : Nat), .int .u64 (el : Nat)] 33) = w0 at *
  generalize hX : w.heap.size = X at *
  have HX := hide hX
  clear hX
  refine (CD.out _ TA.out).mono ?_
  rintro e w1 ⟨rfl, t1⟩
  have T1 := hide (TA.out.trans t1)
  have G1 := hide (t1.heap G0.out (fun x => x))
  have a1 := cell_of_row w1 X 1 _ 33 (0, 0) G1.out
  clear t1
  generalize hq1 : D.any wrongD = q1 at *
  have Q1 := hide hq1
  clear hq1
  cases q1 with
  | true =>
    go_wp2_with fail
    go_ret2
    exact ⟨T1.out, .inl ⟨.inl Q1.out, rfl⟩⟩
  | false =>
    go_wp2_with fail
    refine (CA.out _ T1.out).mono ?_
    rintro e w2 ⟨rfl, t2⟩
    have T2 := hide (T1.out.trans t2)
    have G2 := hide (t2.heap G1.out (fun x => x))
    have b0 := cell_of_row w2 X 0 _ 33 (0, 0) G2.out
    have b1 := cell_of_row w2 X 1 _ 33 (0, 0) G2.out
    clear t2 a1 G1 T1 CD CA
    generalize hq2 : (fA A).any wrongA = q2 at *
    have Q2 := hide hq2
    clear hq2
    cases q2 with
    | true =>
      go_wp2_with fail
      go_ret2
      exact ⟨T2.out, .inl ⟨.inr Q2.out, rfl⟩⟩
    | false =>
      have j1 : ¬ (10000 : Int) < dn := by omega
      have j2 : ¬ (10000 : Int) < an := by omega
      go_upto_region 7 with (fail)
      clear b0 b1
      have SK := hide (fun (u : World) (t : Turns (fun _ => False) w2 u) => show u.cell? ⟨X, 2, none⟩ = some (.int .u64 (en : Nat)) ∧ u.cell? ⟨X, 3, none⟩ = some (.int .u64 (es : Nat)) ∧ u.cell? ⟨X, 4, none⟩ = some (.int .u64 (el : Nat)) from ⟨t.cell (cell_of_row w2 X 2 _ 33 (0, 0) G2.out) (fun x => x), t.cell (cell_of_row w2 X 3 _ 33 (0, 0) G2.out) (fun x => x), t.cell (cell_of_row w2 X 4 _ 33 (0, 0) G2.out) (fun x => x)⟩)
      go_cut [6] from 27 (fun v6 wc => ∃ a n c, v6 = .slice a n c ∧ Ab w wc X #[.slice da dn dc, .slice aa an ac, .int .u64 (en : Nat), .int .u64 (es : Nat), .int .u64 (el : Nat)] a n c (headB en es el))
      case first =>
        rename_i kk rest jj kk' m1 m2
        clear rest
        have tV : Turns (fun _ => False) w2 w2.drew := (Turns.refl _ _).drew
        refine wp_region_held_drew (S := fun u => u.cell? ⟨X, 2, none⟩ = some (.int .u64 (en : Nat)) ∧ u.cell? ⟨X, 3, none⟩ = some (.int .u64 (es : Nat)) ∧ u.cell? ⟨X, 4, none⟩ = some (.int .u64 (el : Nat))) (by kernel_rfl) (SK.out _ tV) (fun _ => ?_)
        change wpAnyH _ _ _ _ _ 11 (Array.replicate 11 false) _ _
        refine wpAnyH_take (i := 0) (oi := { dst := some 27, op := Op.move (Operand.tmp 0), type := 38, pos := "bytes.go:19", after := #[], guard := none }) (v := .slice none 0 0) rfl (by kernel_rfl) (by kernel_rfl) (by kernel_rfl) (fun _ _ _ h => h) (Or.inl ⟨by rfl, ?_⟩) (SK.out _ tV) ?_
        · rintro w ⟨s0, s1, s2⟩
          go_simp
        simp only [Act.put, List.setIfInBounds_toArray, List.set_cons_zero, List.set_cons_succ]
        refine wpAnyH_take (i := 2) (oi := { dst := some 29, op := Op.fieldAddr 33 (Operand.tmp 3) 2, type := 0, pos := "bytes.go:19", after := #[], guard := none }) (v := .pointer (some ⟨X, 2, none⟩)) rfl (by kernel_rfl) (by kernel_rfl) (by kernel_rfl) (fun _ _ _ h => h) (Or.inl ⟨by rfl, ?_⟩) (SK.out _ tV) ?_
        · rintro w ⟨s0, s1, s2⟩
          go_simp
        simp only [Act.put, List.setIfInBounds_toArray, List.set_cons_zero, List.set_cons_succ]
        refine wpAnyH_take (i := 3) (oi := { dst := some 30, op := Op.load 25 (Operand.tmp 29), type := 25, pos := "bytes.go:19", after := #[{ on := 2, ground := Ground.data }], guard := none }) (v := .int .u64 (en : Nat)) rfl (by kernel_rfl) (by kernel_rfl) (by kernel_rfl) (fun _ _ _ h => h) (Or.inl ⟨by rfl, ?_⟩) (SK.out _ tV) ?_
        · rintro w ⟨s0, s1, s2⟩
          go_simp
        simp only [Act.put, List.setIfInBounds_toArray, List.set_cons_zero, List.set_cons_succ]
        refine wpAnyH_take (i := 4) (oi := { dst := some 31, op := Op.fieldAddr 33 (Operand.tmp 3) 3, type := 0, pos := "bytes.go:19", after := #[], guard := none }) (v := .pointer (some ⟨X, 3, none⟩)) rfl (by kernel_rfl) (by kernel_rfl) (by kernel_rfl) (fun _ _ _ h => h) (Or.inl ⟨by rfl, ?_⟩) (SK.out _ tV) ?_
        · rintro w ⟨s0, s1, s2⟩
          go_simp
        simp only [Act.put, List.setIfInBounds_toArray, List.set_cons_zero, List.set_cons_succ]
        refine wpAnyH_take (i := 5) (oi := { dst := some 32, op := Op.load 25 (Operand.tmp 31), type := 25, pos := "bytes.go:19", after := #[{ on := 4, ground := Ground.data }], guard := none }) (v := .int .u64 (es : Nat)) rfl (by kernel_rfl) (by kernel_rfl) (by kernel_rfl) (fun _ _ _ h => h) (Or.inl ⟨by rfl, ?_⟩) (SK.out _ tV) ?_
        · rintro w ⟨s0, s1, s2⟩
          go_simp
        simp only [Act.put, List.setIfInBounds_toArray, List.set_cons_zero, List.set_cons_succ]
        refine wpAnyH_take (i := 6) (oi := { dst := some 33, op := Op.fieldAddr 33 (Operand.tmp 3) 4, type := 0, pos := "bytes.go:19", after := #[], guard := none }) (v := .pointer (some ⟨X, 4, none⟩)) rfl (by kernel_rfl) (by kernel_rfl) (by kernel_rfl) (fun _ _ _ h => h) (Or.inl ⟨by rfl, ?_⟩) (SK.out _ tV) ?_
        · rintro w ⟨s0, s1, s2⟩
          go_simp
        simp only [Act.put, List.setIfInBounds_toArray, List.set_cons_zero, List.set_cons_succ]
        refine wpAnyH_take (i := 7) (oi := { dst := some 34, op := Op.load 25 (Operand.tmp 33), type := 25, pos := "bytes.go:19", after := #[{ on := 6, ground := Ground.data }], guard := none }) (v := .int .u64 (el : Nat)) rfl (by kernel_rfl) (by kernel_rfl) (by kernel_rfl) (fun _ _ _ h => h) (Or.inl ⟨by rfl, ?_⟩) (SK.out _ tV) ?_
        · rintro w ⟨s0, s1, s2⟩
          go_simp
        simp only [Act.put, List.setIfInBounds_toArray, List.set_cons_zero, List.set_cons_succ]
        generalize w2.drew = Wd at *
        refine wpAnyH_ready (rs := [1, 8]) (by kernel_rfl) (by simp) ?_
        refine AllReadyH.cons rfl (fun K hK => ?_) (AllReadyH.cons rfl (fun K hK => ?_) AllReadyH.nil)
        · go_simp
          refine (cloneNil_any _).mono ?_
          rintro oo u7 ⟨rfl, hu⟩
          rw [hu]
          clear hu u7
          go_simp
          refine hK.out _ _ (SK.out _ tV) (fun _ => ?_)
          clear hK K
          refine wpAnyH_ready (rs := [8]) (by kernel_rfl) (by simp) ?_
          refine AllReadyH.cons rfl (fun K hK => ?_) AllReadyH.nil
          go_simp
          obtain ⟨uA, huA⟩ : ∃ uA, uA = Wd.alloc (.cells #[.int .u64 (en : Nat), .int .u64 (es : Nat), .int .u64 (el : Nat)] 25) := ⟨_, rfl⟩
          have hnA : uA.heap[Wd.heap.size]? = some (.cells #[.int .u64 (en : Nat), .int .u64 (es : Nat), .int .u64 (el : Nat)] 25) := by rw [huA]; exact heap_alloc_new _ _
          have tA : Turns (fun _ => False) Wd uA := by rw [huA]; exact (Turns.refl _ _).alloc _
          have tV := tV.trans tA
          rw [← huA]
          refine hK.out _ _ (SK.out _ tV) (fun _ => ?_)
          clear hK K huA tA
          refine wpAnyH_ready (rs := [9]) (by kernel_rfl) (by simp) ?_
          refine AllReadyH.cons rfl (fun K hK => ?_) AllReadyH.nil
          go_simp
          refine (appendNumbers_any w.heap.size none 0 0 [] rfl (some ⟨Wd.heap.size, 0, none⟩) 3 3 [en, es, el] uA (.inl ⟨rfl, rfl, rfl⟩) (nums_of_block hnA (fun z hz => by have h1 := HE.out.b1; have h2 := HE.out.b2; have h3 := HE.out.b3; simp only [List.mem_cons, List.not_mem_nil, or_false] at hz; rcases hz with rfl | rfl | rfl <;> omega)) rfl (by omega) (fun b off e e2 => by cases e2) (Nat.le_trans T2.out.size tV.size) (by omega)).mono ?_
          rintro oo u9 ⟨a9, n9, c9, rfl, h1, h2, h3, h4⟩
          rw [List.nil_append, shorts3] at h1 h2
          have tV9 := tV.trans (h3.mono (S' := fun _ => False) fun j _ e => by cases e)
          have hab : Ab w u9 X _ a9 n9 c9 (headB en es el) := ⟨h2, h1, T2.out.trans tV9, fun g e => (h4 g e).elim (fun e2 => by cases e2) fun e2 => Nat.le_trans (Nat.le_trans T2.out.size tV.size) e2, tV9.heap G2.out fun x => x⟩
          clear h1 h2 h3 h4
          go_simp
          refine hK.out _ _ (SK.out _ tV9) (fun _ => ?_)
          clear hK K
          have tV := tV9
          refine wpAnyH_take (i := 10) (oi := { dst := some 6, op := Op.assign (Operand.tmp 36), type := 38, pos := "bytes.go:19", after := #[{ on := 9, ground := Ground.data }, { on := 9, ground := Ground.chain }, { on := 0, ground := Ground.phase }, { on := 1, ground := Ground.phase }, { on := 2, ground := Ground.phase }, { on := 3, ground := Ground.phase }, { on := 4, ground := Ground.phase }, { on := 5, ground := Ground.phase }, { on := 6, ground := Ground.phase }, { on := 7, ground := Ground.phase }, { on := 8, ground := Ground.phase }, { on := 9, ground := Ground.phase }], guard := none }) (v := .slice a9 n9 c9) rfl (by kernel_rfl) (by kernel_rfl) (by kernel_rfl) (fun _ _ _ h => h) (Or.inl ⟨by rfl, ?_⟩) (SK.out _ tV) ?_
          · rintro w ⟨s0, s1, s2⟩
            go_simp
          simp only [Act.put, List.setIfInBounds_toArray, List.set_cons_zero, List.set_cons_succ]
          have HAB := hide hab
          have TV := hide tV
          clear hab tV tV9 hnA
          refine wpAnyH_done (by kernel_rfl) ?_ _
          go_wp2_with fail
          go_meet
          exact ⟨a9, n9, c9, rfl, HAB.out⟩
        · go_simp
          obtain ⟨uA, huA⟩ : ∃ uA, uA = Wd.alloc (.cells #[.int .u64 (en : Nat), .int .u64 (es : Nat), .int .u64 (el : Nat)] 25) := ⟨_, rfl⟩
          have hnA : uA.heap[Wd.heap.size]? = some (.cells #[.int .u64 (en : Nat), .int .u64 (es : Nat), .int .u64 (el : Nat)] 25) := by rw [huA]; exact heap_alloc_new _ _
          have tA : Turns (fun _ => False) Wd uA := by rw [huA]; exact (Turns.refl _ _).alloc _
          have tV := tV.trans tA
          rw [← huA]
          refine hK.out _ _ (SK.out _ tV) (fun _ => ?_)
          clear hK K huA tA
          refine wpAnyH_ready (rs := [1]) (by kernel_rfl) (by simp) ?_
          refine AllReadyH.cons rfl (fun K hK => ?_) AllReadyH.nil
          go_simp
          refine (cloneNil_any _).mono ?_
          rintro oo u7 ⟨rfl, hu⟩
          rw [hu]
          clear hu u7
          go_simp
          refine hK.out _ _ (SK.out _ tV) (fun _ => ?_)
          clear hK K
          refine wpAnyH_ready (rs := [9]) (by kernel_rfl) (by simp) ?_
          refine AllReadyH.cons rfl (fun K hK => ?_) AllReadyH.nil
          go_simp
          refine (appendNumbers_any w.heap.size none 0 0 [] rfl (some ⟨Wd.heap.size, 0, none⟩) 3 3 [en, es, el] uA (.inl ⟨rfl, rfl, rfl⟩) (nums_of_block hnA (fun z hz => by have h1 := HE.out.b1; have h2 := HE.out.b2; have h3 := HE.out.b3; simp only [List.mem_cons, List.not_mem_nil, or_false] at hz; rcases hz with rfl | rfl | rfl <;> omega)) rfl (by omega) (fun b off e e2 => by cases e2) (Nat.le_trans T2.out.size tV.size) (by omega)).mono ?_
          rintro oo u9 ⟨a9, n9, c9, rfl, h1, h2, h3, h4⟩
          rw [List.nil_append, shorts3] at h1 h2
          have tV9 := tV.trans (h3.mono (S' := fun _ => False) fun j _ e => by cases e)
          have hab : Ab w u9 X _ a9 n9 c9 (headB en es el) := ⟨h2, h1, T2.out.trans tV9, fun g e => (h4 g e).elim (fun e2 => by cases e2) fun e2 => Nat.le_trans (Nat.le_trans T2.out.size tV.size) e2, tV9.heap G2.out fun x => x⟩
          clear h1 h2 h3 h4
          go_simp
          refine hK.out _ _ (SK.out _ tV9) (fun _ => ?_)
          clear hK K
          have tV := tV9
          refine wpAnyH_take (i := 10) (oi := { dst := some 6, op := Op.assign (Operand.tmp 36), type := 38, pos := "bytes.go:19", after := #[{ on := 9, ground := Ground.data }, { on := 9, ground := Ground.chain }, { on := 0, ground := Ground.phase }, { on := 1, ground := Ground.phase }, { on := 2, ground := Ground.phase }, { on := 3, ground := Ground.phase }, { on := 4, ground := Ground.phase }, { on := 5, ground := Ground.phase }, { on := 6, ground := Ground.phase }, { on := 7, ground := Ground.phase }, { on := 8, ground := Ground.phase }, { on := 9, ground := Ground.phase }], guard := none }) (v := .slice a9 n9 c9) rfl (by kernel_rfl) (by kernel_rfl) (by kernel_rfl) (fun _ _ _ h => h) (Or.inl ⟨by rfl, ?_⟩) (SK.out _ tV) ?_
          · rintro w ⟨s0, s1, s2⟩
            go_simp
          simp only [Act.put, List.setIfInBounds_toArray, List.set_cons_zero, List.set_cons_succ]
          have HAB := hide hab
          have TV := hide tV
          clear hab tV tV9 hnA
          refine wpAnyH_done (by kernel_rfl) ?_ _
          go_wp2_with fail
          go_meet
          exact ⟨a9, n9, c9, rfl, HAB.out⟩
      case rest =>
        obtain ⟨a0, n0, c0, rfl, hab⟩ := hcut
        have HAB := hide hab
        have b0 := cell_of_row wc X 0 _ 33 (0, 0) hab.blk
        have hn0 : n0 ≤ 30 := by have := hab.len; rw [← shorts3] at this; have h2 := shorts_len [en, es, el] (fun z hz => by have h1 := HE.out.b1; have h2 := HE.out.b2; have h3 := HE.out.b3; simp only [List.mem_cons, List.not_mem_nil, or_false] at hz; rcases hz with rfl | rfl | rfl <;> omega); rw [this]; exact h2
        have HN0 := hide hn0
        have CN := hide ((hab.quiet ((Turns.refl (fun _ => False) wc).alloc (.cells #[.int .u64 (dn : Nat)] 25))).nums (by omega) wc.heap.size [dn] 1 rfl (by omega) (nums_of_block (heap_alloc_new wc (.cells #[.int .u64 (dn : Nat)] 25)) (fun z hz => by obtain rfl := List.mem_singleton.1 hz; omega)) ⟨_, heap_alloc_new wc _⟩)
        clear hab hn0
        go_wp2_with fail
        refine CN.out.mono ?_
        rintro e w3 ⟨a1, n1, c1, rfl, hab, _⟩
        have hsh : shorts [dn] = short dn := by simp [shorts]
        rw [hsh] at hab
        have HA1 := hide hab
        have b0 := cell_of_row w3 X 0 _ 33 (0, 0) hab.blk
        have hn1 : n1 ≤ 40 := by have := hab.len; rw [List.length_append, ← HAB.out.len] at this; have h2 := short_len dn (by omega); have := HN0.out; omega
        have HN1 := hide hn1
        clear hab hsh CN hn1
        go_wp2_with fail
        clear b0
        go_loopw [6, 47] (fun v6 iv wr => ∃ (k : Nat) (a n c : _), v6 = .slice a n c ∧ iv = .int .i64 (k : Nat) ∧ k ≤ dn ∧ Ab w wr X #[.slice da dn dc, .slice aa an ac, .int .u64 (en : Nat), .int .u64 (es : Nat), .int .u64 (el : Nat)] a n c (headB en es el ++ short dn ++ dropsB (D.take k))) (fun _ iv _ => dn - (intOf iv).toNat)
        case atStart => exact ⟨0, a1, n1, c1, rfl, rfl, Nat.zero_le _, by simpa [dropsB] using HA1.out⟩
        case round =>
          obtain ⟨k, a2, n2, c2, rfl, rfl, hk, hab⟩ := hrel
          have HK := hide hab
          clear hab
          by_cases hkn : k < dn
          · obtain ⟨x, hx⟩ : ∃ x, D[k]? = some x := ⟨_, List.getElem?_eq_getElem (by have := HE.out.dlen; omega)⟩
            obtain ⟨hx64, b, off, ea, y0, y1⟩ := (HE.out.drops.quiet HK.out.turn) k x hx
            subst ea
            have i1 : (k : Int) < (dn : Int) := by omega
            have i0 : (0 : Int) ≤ (k : Int) := by omega
            have HST := hide (show headB en es el ++ short dn ++ dropsB (D.take (k + 1)) = headB en es el ++ short dn ++ dropsB (D.take k) ++ shorts [u64N x.1, x.2] from by
              rw [List.take_add_one, hx]
              simp [dropsB, dropB, shorts])
            have hn2 : n2 ≤ 100000 := by
              have h1 := HK.out.len
              have h2 := dropsB_len (D.take k) fun d hd => by obtain ⟨q, hq⟩ := List.getElem?_of_mem (List.mem_of_mem_take hd); exact (HE.out.drops q d hq).1
              have h3 := HA1.out.len
              have h4 := HN1.out
              rw [List.length_append, ← h3] at h1
              rw [List.length_take] at h2
              omega
            obtain ⟨lv, no⟩ := x
            simp only at *
            have CN := hide (((HK.out.quiet ((Turns.refl (fun _ => False) wr).alloc (.cells #[.int .i64 lv, .int .u64 (no : Nat)] 52))).quiet ((Turns.refl (fun _ => False) (wr.alloc (.cells #[.int .i64 lv, .int .u64 (no : Nat)] 52))).alloc (.cells #[.int .u64 (u64N lv : Nat), .int .u64 (no : Nat)] 25))).nums (by omega) (wr.alloc (.cells #[.int .i64 lv, .int .u64 (no : Nat)] 52)).heap.size [u64N lv, no] 2 rfl (by omega) (nums_of_block (heap_alloc_new _ (.cells #[.int .u64 (u64N lv : Nat), .int .u64 (no : Nat)] 25)) (fun z hz => by have := u64N_lt lv; simp only [List.mem_cons, List.not_mem_nil, or_false] at hz; rcases hz with rfl | rfl <;> omega)) ⟨_, heap_alloc_new _ _⟩)
            rw [World.size_alloc] at CN
            clear hx hn2
            go_wp2_with fail
            rw [wrap_u64N]
            refine CN.out.mono ?_
            rintro e w4 ⟨a3, n3, c3, rfl, hab, _⟩
            rw [← HST.out] at hab
            have HK2 := hide hab
            clear hab CN y0 y1
            go_wp2_with fail
            go_roundw
            case rel => exact ⟨k + 1, a3, n3, c3, rfl, by go_num, by omega, HK2.out⟩
            case measure => simp [intOf]; omega
          · obtain rfl : dn = k := by omega
            have hk9 := HK.out
            rw [List.take_of_length_le (by have := HE.out.dlen; omega)] at hk9
            have HK9 := hide hk9
            have b1 := cell_of_row wr X 1 _ 33 (0, 0) hk9.blk
            have hn9 : n2 ≤ 100000 := by
              have h1 := hk9.len
              have h2 := dropsB_len D fun d hd => by obtain ⟨q, hq⟩ := List.getElem?_of_mem hd; exact (HE.out.drops q d hq).1
              have h3 := HA1.out.len
              have h4 := HN1.out
              have h5 := HE.out.dlen
              rw [List.length_append, ← h3] at h1
              omega
            have HN9 := hide hn9
            have CN := hide ((hk9.quiet ((Turns.refl (fun _ => False) wr).alloc (.cells #[.int .u64 (an : Nat)] 25))).nums (by omega) wr.heap.size [an] 1 rfl (by omega) (nums_of_block (heap_alloc_new wr (.cells #[.int .u64 (an : Nat)] 25)) (fun z hz => by obtain rfl := List.mem_singleton.1 hz; omega)) ⟨_, heap_alloc_new wr _⟩)
            clear hk9 HK hn9
            generalize hw9 : wr = w9 at *
            clear hw9
            go_wp2_with fail
            refine CN.out.mono ?_
            rintro e w5 ⟨a5, n5, c5, rfl, hab, _⟩
            have hsh : shorts [an] = short an := by simp [shorts]
            rw [hsh] at hab
            have HA5 := hide hab
            have b1 := cell_of_row w5 X 1 _ 33 (0, 0) hab.blk
            have hn5 : n5 ≤ 100010 := by have := hab.len; rw [List.length_append, ← HK9.out.len] at this; have h2 := short_len an (by omega); have := HN9.out; omega
            have HN5 := hide hn5
            clear hab hsh CN hn5
            go_wp2_with fail
            clear b1
            go_loopw [6, 70] (fun v6 iv wr => ∃ (k : Nat) (a n c : _), v6 = .slice a n c ∧ iv = .int .i64 (k : Nat) ∧ k ≤ an ∧ Ab w wr X #[.slice da dn dc, .slice aa an ac, .int .u64 (en : Nat), .int .u64 (es : Nat), .int .u64 (el : Nat)] a n c (headB en es el ++ short dn ++ dropsB D ++ short an ++ addsB ((fA A).take k))) (fun _ iv _ => an - (intOf iv).toNat)
            case atStart => exact ⟨0, a5, n5, c5, rfl, rfl, Nat.zero_le _, by simpa [addsB] using HA5.out⟩
            case round =>
              obtain ⟨k, a6, n6, c6, rfl, rfl, hk6, hab⟩ := hrel
              have HK := hide hab
              clear hab
              have HFL := hide (show (fA A).length = an by unfold fA; rw [List.length_map]; exact HE.out.alen.symm)
              have HFF := hide (show ∀ d ∈ fA A, d.2.no < 18446744073709551616 ∧ d.2.seq < 18446744073709551616 ∧ d.2.least.length ≤ 1000000 ∧ d.2.most.length ≤ 1000000 from fun d hd => by
                obtain ⟨d0, hd0, rfl⟩ := List.mem_map.1 hd
                obtain ⟨f1, f2, f3⟩ := HE.out.fit d0 hd0
                exact ⟨f1, HSQ.out d0 hd0, f2, f3⟩)
              by_cases hkn : k < an
              · obtain ⟨x, hx⟩ : ∃ x, A[k]? = some x := ⟨_, List.getElem?_eq_getElem (by have := HE.out.alen; omega)⟩
                obtain ⟨⟨b, off, ea, y6, h6⟩, _⟩ := (HE.out.adds.quiet HK.out.turn) k x hx
                subst ea
                have hfx : (fA A)[k]? = some (x.1, x.2.f) := by unfold fA; rw [List.getElem?_map, hx]; rfl
                have i1 : (k : Int) < (an : Int) := by omega
                have i0 : (0 : Int) ≤ (k : Int) := by omega
                have HST := hide (show headB en es el ++ short dn ++ dropsB D ++ short an ++ addsB ((fA A).take (k + 1)) = headB en es el ++ short dn ++ dropsB D ++ short an ++ addsB ((fA A).take k) ++ shorts (addN (x.1, x.2.f)) ++ (pieceB x.2.f.least ++ pieceB x.2.f.most) from by
                  rw [List.take_add_one, hfx]
                  simp [addsB, addB, shorts])
                have hn6 : n6 ≤ 2000000 := by
                  have h1 := HK.out.len
                  have h2 := addsB_len ((fA A).take k) fun d hd => HFF.out d (List.mem_of_mem_take hd)
                  have h3 := HA5.out.len
                  have h4 := HN5.out
                  have h5 : (((fA A).take k).map fun d => keyF d.2).sum ≤ ((fA A).map fun d => keyF d.2).sum := by
                    have h6 : ((fA A).map fun d => keyF d.2).sum = (((fA A).take k).map fun d => keyF d.2).sum + (((fA A).drop k).map fun d => keyF d.2).sum := by rw [← List.sum_append, ← List.map_append, List.take_append_drop]
                    omega
                  have h7 := HBY.out
                  rw [List.length_append, ← h3] at h1
                  rw [List.length_take] at h2
                  omega
                have HFB := hide (fun (u : World) (t : Turns (fun _ => False) w u) => ((HE.out.adds.quiet t) k x hx).2)
                have hfit := HE.out.fit x (List.mem_of_getElem? hx)
                have hseq := HSQ.out x (List.mem_of_getElem? hx)
                have HFI := hide (show x.2.f.no < 18446744073709551616 ∧ x.2.f.seq < 18446744073709551616 ∧ x.2.f.least.length ≤ 1048576 ∧ x.2.f.most.length ≤ 1048576 from ⟨hfit.1, hseq, by omega, by omega⟩)
                have hadn : (addN (x.1, x.2.f)).length = 5 := rfl
                have HADN := hide hadn
                have CNN := hide (fun (u : World) => numbersG_any x.1 x.2 u HFI.out.1 HFI.out.2.1)
                generalize hzs : addN (x.1, x.2.f) = zs at *
                clear hzs hadn hfit hseq hfx hx
                obtain ⟨lv, ⟨la, lc, ma, mc, ⟨no, sz, ls, ms, en', sq⟩⟩⟩ := x
                obtain ⟨e0, e1, e2, e3, e4, e5⟩ := h6
                unfold addAgg at CNN
                unfold FB at HFB
                simp only at *
                generalize ls.length = L1 at *
                generalize ms.length = L2 at *
                simp only [Nat.add_assoc, Nat.reduceAdd] at e0 e1 e2 e3 e4 e5
                simp only [← Nat.add_assoc] at e0 e1 e2 e3 e4 e5
                have ta : Turns (fun _ => False) wr (wr.alloc (.cells #[.int .i64 lv, .int .u64 (no : Nat), .int .i64 sz, .slice la L1 lc, .slice ma L2 mc, .int .i64 en', .int .u64 (sq : Nat)] 56)) := (Turns.refl _ _).alloc _
                have HKA := hide (HK.out.quiet ta)
                have NP := hide (heap_alloc_new wr (.cells #[.int .i64 lv, .int .u64 (no : Nat), .int .i64 sz, .slice la L1 lc, .slice ma L2 mc, .int .i64 en', .int .u64 (sq : Nat)] 56))
                have HN6 := hide hn6
                clear ta hn6
                go_wp2_with fail
                refine (CNN.out _).mono ?_
                rintro e w10 ⟨g, rfl, hnums, hty, hge, t4⟩
                have HK4 := hide (HKA.out.quiet t4)
                have NP4 := hide (t4.heap NP.out (fun x => x))
                have CN2 := hide (HK4.out.nums (by have := HN6.out; omega) g zs 5 HADN.out.symm (by omega) hnums hty)
                generalize wr.heap.size = P at *
                have HLT := hide hnums.lt
                clear hnums hty hge t4 CNN e0 e1 e2 e3 e4 e5 y6
                go_wp2_with fail
                refine CN2.out.mono ?_
                rintro e w11 ⟨a7, n7, c7, rfl, hab7, t5⟩
                have HK7 := hide hab7
                have np7 := t5.heap NP4.out (fun e => HK4.out.row.ne NP4.out (by decide) _ e rfl)
                have d3 := cell_of_row w11 P 3 _ 56 (0, 0) np7
                have d4 := cell_of_row w11 P 4 _ 56 (0, 0) np7
                have hn7 : n7 ≤ 3000000 := by
                  have h1 := hab7.len
                  have h2 := shorts_len zs HLT.out
                  have h3 := HK.out.len
                  have h4 := HN6.out
                  have h5 := HADN.out
                  rw [List.length_append, ← h3] at h1
                  omega
                have CP := hide ((HK7.out.quiet ((Turns.refl (fun _ => False) w11).alloc (.cells #[.slice la L1 lc, .slice ma L2 mc] 38))).pieces (by omega) w11.heap.size la L1 lc ma L2 mc ls ms (heap_alloc_new w11 _) (fun u t => (HFB.out u t).1) (fun u t => (HFB.out u t).2) HFI.out.2.2.1 HFI.out.2.2.2)
                clear hab7 t5 np7 CN2 hn7
                go_wp2_with fail
                refine CP.out.mono ?_
                rintro e w12 ⟨a8, n8, c8, rfl, hab8⟩
                rw [← HST.out] at hab8
                have HK8 := hide hab8
                clear hab8 CP d3 d4
                go_wp2_with fail
                go_roundw
                case rel => exact ⟨k + 1, a8, n8, c8, rfl, by go_num, by omega, HK8.out⟩
                case measure => simp [intOf]; omega
              · obtain rfl : an = k := by omega
                have hk9 := HK.out
                rw [List.take_of_length_le (by have := HFL.out; omega)] at hk9
                have HF := hide hk9
                have EB := hide (show headB en es el ++ short dn ++ dropsB D ++ short an ++ addsB (fA A) = editB en es el D (fA A) from by
                  unfold editB
                  rw [HFL.out, ← HE.out.dlen]
                  simp only [List.append_assoc])
                clear hk9 HK
                go_wp2_with fail
                go_ret2
                have h1 := HF.out
                rw [EB.out] at h1
                exact ⟨h1.turn, .inr ⟨Q1.out, Q2.out, a6, n6, c6, rfl, h1.len, by rw [h1.len]; exact h1.row.bytes⟩⟩
end Go.Proofs.YtmmcikbedegigaaGreat

/-
  The kit's Version, of what is the same.
-/
namespace Go.Proofs.YtmmcikbedegigaaGreat
open Go.RowKit
set_option maxRecDepth 100000
set_option maxHeartbeats 4000000
theorem kversion_same (a : Option Addr) (n c : Nat) (L : List Lv) (a' : Option Addr) (n' c' : Nat) (L' : List Lv) (next seq log : Nat) (w : World) (h : Levs w a L) (h' : Levs w a' L') (hn : n = L.length) (hn' : n' = L'.length) (e : flL L = flL L') (hmx : n ≤ 1000) (hc : cnt L ≤ 1000000) (hk : ∀ l ∈ flL L, KeyOk l) :
    Calls Tryz.prog 13 #[verAgg a n c next seq log, verAgg a' n' c' next seq log] w fun e w' => e = .returned (.bool true) ∧ Turns (fun _ => False) w w' := by
  have hnn : n' = n := by have h1 := congrArg List.length e; simp only [flL, List.length_map] at h1; omega
  subst hnn
  have H := hide h
  have H' := hide h'
  have HL := hide hn
  have HL' := hide hn'
  have HE := hide e
  have HC := hide hc
  have HK := hide hk
  have hni : (n' : Int) ≤ 1000 := by omega
  have TA := hide (((Turns.refl (fun _ => False) w).alloc (.cells #[.slice a n' c, .int .u64 (next : Nat), .int .u64 (seq : Nat), .int .u64 (log : Nat)] 27)).alloc (.cells #[.slice a' n' c', .int .u64 (next : Nat), .int .u64 (seq : Nat), .int .u64 (log : Nat)] 27))
  have R0 := hide (((Turns.refl (fun _ => False) (w.alloc (.cells #[.slice a n' c, .int .u64 (next : Nat), .int .u64 (seq : Nat), .int .u64 (log : Nat)] 27))).alloc (.cells #[.slice a' n' c', .int .u64 (next : Nat), .int .u64 (seq : Nat), .int .u64 (log : Nat)] 27)).heap (heap_alloc_new w _) (fun x => x))
  have R1 := hide (heap_alloc_new (w.alloc (.cells #[.slice a n' c, .int .u64 (next : Nat), .int .u64 (seq : Nat), .int .u64 (log : Nat)] 27)) (.cells #[.slice a' n' c', .int .u64 (next : Nat), .int .u64 (seq : Nat), .int .u64 (log : Nat)] 27))
  simp only [World.size_alloc] at R1
  unfold verAgg
  clear h h' hn hn' e hc hk
  go_enter Tryz.func13, Tryz.ntmps13
  go_wp2_with fail
  generalize (w.alloc (.cells #[.slice a n' c, .int .u64 (next : Nat), .int .u64 (seq : Nat), .int .u64 (log : Nat)] 27)).alloc (.cells #[.slice a' n' c', .int .u64 (next : Nat), .int .u64 (seq : Nat), .int .u64 (log : Nat)] 27) = w0 at *
  generalize hg : w.heap.size = g at *
  clear hg
  go_loopw [5] (fun i wr => ∃ k : Nat, i = .int .i64 (k : Nat) ∧ k ≤ n' ∧ Turns (fun _ => False) w0 wr) (fun i _ => n' - (intOf i).toNat)
  case atStart => exact ⟨0, rfl, Nat.zero_le _, Turns.refl _ _⟩
  case round =>
    obtain ⟨k, rfl, hk, hb⟩ := hrel
    have HB := hide hb
    have s0 : wr.cell? ⟨g, 0, none⟩ = some (.slice a n' c) := hb.cell (cell_of_row w0 g 0 _ 27 (0, 0) R0.out) (fun x => x)
    have s1 : wr.cell? ⟨g + 1, 0, none⟩ = some (.slice a' n' c') := hb.cell (cell_of_row w0 (g + 1) 0 _ 27 (0, 0) R1.out) (fun x => x)
    clear hb
    by_cases hkn : k < n'
    · obtain ⟨x, hx⟩ : ∃ x, L[k]? = some x := ⟨_, List.getElem?_eq_getElem (by have := HL.out; omega)⟩
      obtain ⟨y, hy⟩ : ∃ y, L'[k]? = some y := ⟨_, List.getElem?_eq_getElem (by have := HL'.out; omega)⟩
      have hxy : fls x.l = fls y.l := by
        have h1 := congrArg (fun q => q[k]?) HE.out
        simp only [flL_at hx, flL_at hy] at h1
        exact Option.some.inj h1
      obtain ⟨⟨b, off, ea, hcl⟩, hfi⟩ := (H.out.quiet (TA.out.trans HB.out)) k x hx
      obtain ⟨⟨b', off', ea', hcl'⟩, hfi'⟩ := (H'.out.quiet (TA.out.trans HB.out)) k y hy
      subst ea ea'
      have i1 : (k : Int) < n' := by omega
      have i0 : (0 : Int) ≤ k := by omega
      have hxl : x.l.length ≤ 1000000 := by have := cnt_take hx; have := cnt_take_le L (k + 1); have := HC.out; omega
      have hlen : y.l.length = x.l.length := by have h1 := congrArg List.length hxy; simp only [fls, List.length_map] at h1; omega
      have t0 : Turns (fun _ => False) wr wr.drew := (Turns.refl _ _).drew
      have HQ := hide (kfiles_same x.a x.l.length x.c x.l y.a y.l.length y.c y.l wr.drew (hfi.quiet t0) (hfi'.quiet t0) rfl rfl hxy hxl (HK.out _ (List.mem_of_getElem? (flL_at hx))))
      rw [hlen] at HQ hcl'
      obtain ⟨xa, xc, xl⟩ := x
      obtain ⟨ya, yc, yl⟩ := y
      simp only at *
      generalize xl.length = XL at *
      clear hx hy hxy hfi hfi' hxl hlen t0
      go_wp2_with fail
      go_region_held (fun w' => w'.cell? ⟨g, 0, none⟩ = some (.slice (some ⟨b, off, none⟩) n' c) ∧ w'.cell? ⟨g + 1, 0, none⟩ = some (.slice (some ⟨b', off', none⟩) n' c') ∧ w'.cell? ⟨b, off + k, none⟩ = some (.slice xa XL xc) ∧ w'.cell? ⟨b', off' + k, none⟩ = some (.slice ya XL yc)) (first | (with_reducible exact ⟨f0, f1, f2, f3⟩) | (simp only [World.cell?_drew]; with_reducible exact ⟨s0, s1, hcl, hcl'⟩)) (first
        | (go_at_call 42; refine HQ.out.mono ?_; rintro x w2 ⟨rfl, b2⟩; have t2 := (Turns.refl (fun _ => False) wr).drew.trans b2; have f0 := t2.cell s0 (fun x => x); have f1 := t2.cell s1 (fun x => x); have f2 := t2.cell hcl (fun x => x); have f3 := t2.cell hcl' (fun x => x); have T2 := hide t2; clear t2 b2))
      clear f0 f1 f2 f3
      go_wp2_with fail
      go_roundw
      case rel => exact ⟨k + 1, by go_num, by omega, HB.out.trans T2.out⟩
      case measure => simp [intOf]; omega
    · have i1 : ¬ (k : Int) < n' := by omega
      go_wp2_with fail
      go_ret
      exact ⟨rfl, TA.out.trans HB.out⟩
end Go.Proofs.YtmmcikbedegigaaGreat
