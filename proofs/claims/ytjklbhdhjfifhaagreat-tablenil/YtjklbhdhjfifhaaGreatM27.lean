import Derived.Test.YtjklbhdhjfifhaaGreatM26
import Derived.Deep.RegionLaw
/-
  The next entry of a block's reader.
-/
namespace Go.Proofs.YtjklbhdhjfifhaaGreat
open Go.RowKit
set_option maxRecDepth 100000
set_option maxHeartbeats 16000000
/-- What next does. -/
def NextOk (q r : Nat) (p : List (BitVec 8)) (i : Nat) (key : List (BitVec 8)) (R : List Tow) (ms : List Nat) (e : Ending) (w' : World) : Prop :=
  (rdEnt R.length key (p.drop i) = none ∧ e = .returned (.bool false)) ∨
  ∃ (ent : Ent) (i' : Nat) (kv ev rv : Value) (x : Tow), rdEnt R.length key (p.drop i) = some (ent, p.drop i') ∧ i' ≤ p.length ∧ x.e = ent ∧ e = .returned (.bool true) ∧ RS w' q r p i' 0 kv ev rv ent.key (R ++ [x]) (ms ++ if R.length % 16 = 0 then [i] else [])
theorem rd_bad {p key : List (BitVec 8)} {j i i4 s m x v : Nat} {z4 : Int} (h4 : (z4 = 0 → rd4 (p.drop i) = some (s, m, x, v, p.drop i4)) ∧ (z4 ≠ 0 → rd4 (p.drop i) = none)) (hb : ¬ (z4 = 0 ∧ m ≤ p.length - i4 ∧ v ≤ p.length - (i4 + m))) : rdEnt j key (p.drop i) = none := by
  unfold rdEnt
  by_cases hz : z4 = 0
  · rw [h4.1 hz]
    simp only
    rw [if_pos]
    by_cases hm : m ≤ p.length - i4
    · refine .inr (.inr (.inl ?_))
      rw [List.length_drop, List.length_drop]
      have : ¬ v ≤ p.length - (i4 + m) := fun q => hb ⟨hz, hm, q⟩
      omega
    · refine .inr (.inl ?_)
      rw [List.length_drop]
      omega
  · rw [h4.2 hz]
theorem rd_good {p key : List (BitVec 8)} {j i i4 s m x v : Nat} (h4 : rd4 (p.drop i) = some (s, m, x, v, p.drop i4)) (hs : s ≤ key.length) (hm : m ≤ p.length - i4) (hv : v ≤ p.length - (i4 + m)) (ent : Ent) (hent : ent = ⟨key.take s ++ (p.drop i4).take m, x / 4, ((x % 4 : Nat) : Int), (p.drop (i4 + m)).take v⟩) :
    rdEnt j key (p.drop i) = if chk1 ent ≠ 0 ∨ s ≠ shr j key ent.key then none else some (ent, p.drop (i4 + m + v)) := by
  have he : entOf key (p.drop i4) s m x v = ent := by rw [hent, entOf, List.drop_drop]
  unfold rdEnt
  rw [h4]
  simp only [he, List.drop_drop]
  by_cases hq : chk1 ent ≠ 0 ∨ s ≠ shr j key ent.key
  · rw [if_pos hq, if_pos (.inr (.inr (.inr hq)))]
  · rw [if_neg hq, if_neg]
    rintro (y | y | y | y)
    · omega
    · rw [List.length_drop] at y; omega
    · rw [List.length_drop] at y; omega
    · exact hq y
theorem prevK_append (R : List Tow) (y : Tow) : ∀ k, k ≤ R.length → prevK (R ++ [y]) k = prevK R k
  | 0, _ => rfl
  | k + 1, h => by
    have hk : k < R.length := by omega
    simp [prevK, hk, List.getElem?_append_left hk]
theorem keep4 {w : World} {q o G : Nat} {v : Value} (h : w.cell? ⟨q, o, none⟩ = some v) (hq : ¬ q = G) (a b c d : Value) : ((((w.setCell ⟨G, 0, none⟩ a).setCell ⟨G, 1, none⟩ b).setCell ⟨G, 2, none⟩ c).setCell ⟨G, 3, none⟩ d).cell? ⟨q, o, none⟩ = some v :=
  ((((tq w G 0 a).trans (tq _ G 1 b)).trans (tq _ G 2 c)).trans (tq _ G 3 d)).cell h hq
theorem set4 {w : World} {G : Nat} {t : TypeId} {x0 x1 x2 x3 : Value} (h : w.heap[G]? = some (.cells #[x0, x1, x2, x3] t (0, 0))) (a b c d : Value) : ((((w.setCell ⟨G, 0, none⟩ a).setCell ⟨G, 1, none⟩ b).setCell ⟨G, 2, none⟩ c).setCell ⟨G, 3, none⟩ d).heap[G]? = some (.cells #[a, b, c, d] t (0, 0)) := by
  have s0 := heap_setCell_same _ G 0 _ t a h
  have s1 := heap_setCell_same _ G 1 _ t b s0
  have s2 := heap_setCell_same _ G 2 _ t c s1
  have s3 := heap_setCell_same _ G 3 _ t d s2
  simpa using s3
theorem turns4 (w : World) (G : Nat) (a b c d : Value) : Turns (fun j => j = G) w ((((w.setCell ⟨G, 0, none⟩ a).setCell ⟨G, 1, none⟩ b).setCell ⟨G, 2, none⟩ c).setCell ⟨G, 3, none⟩ d) :=
  (((tq w G 0 a).trans (tq _ G 1 b)).trans (tq _ G 2 c)).trans (tq _ G 3 d)
theorem fix_ex {r : Nat} {p : List (BitVec 8)} {i m : Nat} {z : Int} {w : World} {e : Ending} {w' : World} (h : FixOk r p i m z w e w') (hi : i ≤ p.length) :
    ∃ (a' : Option Addr) (c' : Nat) (news : List (BitVec 8)) (i5 : Nat) (z5 : Int), e = .returned (.slice a' news.length c') ∧ Bytes w' (.slice a' news.length c') news ∧ (∀ x, a' = some x → w.heap.size ≤ x.block ∧ x.block < w'.heap.size) ∧ Rdr w' r p i5 z5 ∧ i5 ≤ p.length ∧ news.length ≤ p.length ∧ ((z5 = 0 ∧ z = 0 ∧ m ≤ p.length - i ∧ news = (p.drop i).take m ∧ i5 = i + m) ∨ (z5 ≠ 0 ∧ ¬ (z = 0 ∧ m ≤ p.length - i))) := by
  rcases h with ⟨h1, h2, a', c', h3, h4, h5, h6⟩ | ⟨h1, h2, z', h3, h4⟩
  · have hl : ((p.drop i).take m).length = m := by rw [List.length_take, List.length_drop]; omega
    exact ⟨a', c', (p.drop i).take m, i + m, 0, by rw [hl]; exact h3, by rw [hl]; exact h4, h5, h6, by omega, by omega, .inl ⟨rfl, h1, h2, rfl, rfl⟩⟩
  · exact ⟨none, 0, [], i, z', h2, Bytes.empty _, fun x e => (by cases e), h4, hi, by simp, .inr ⟨h3, h1⟩⟩
theorem next_any (q r : Nat) (p : List (BitVec 8)) (i : Nat) (kv ev rv : Value) (key : List (BitVec 8)) (R : List Tow) (ms : List Nat) (w : World) (h : RS w q r p i 0 kv ev rv key R ms) (hp : p.length ≤ 40000) (hi : i ≤ p.length) (hk : key.length ≤ 4096) (hR : R.length ≤ 100000) (hms : ms.length ≤ 100000) (hlast : key = prevK R R.length) (hRk : ∀ x, x ∈ R → x.e.key.length ≤ 1000000) :
    Calls Tryz.prog 171 #[.pointer (some ⟨q, 0, none⟩)] w fun e w' => NextOk q r p i key R ms e w' ∧ Below r w w' := by
  obtain ⟨ka, kc, rfl, hkc⟩ := h.kr.len
  obtain ⟨ea, ec, rfl⟩ := h.er.len
  have c0 : w.cell? ⟨q, 0, none⟩ = some (.pointer (some ⟨r, 0, none⟩)) := cell_of_row w q 0 _ 221 (0, 0) h.box
  have c2 : w.cell? ⟨q, 2, none⟩ = some (.slice ea R.length ec) := cell_of_row w q 2 _ 221 (0, 0) h.box
  obtain ⟨⟨s, i1, z1⟩, h1⟩ : ∃ a, numR p i 0 = a := ⟨_, rfl⟩
  obtain ⟨⟨m, i2, z2⟩, h2⟩ : ∃ a, numR p i1 z1 = a := ⟨_, rfl⟩
  obtain ⟨⟨x, i3, z3⟩, h3⟩ : ∃ a, numR p i2 z2 = a := ⟨_, rfl⟩
  obtain ⟨⟨v, i4, z4⟩, h4⟩ : ∃ a, numR p i3 z3 = a := ⟨_, rfl⟩
  have l1 : i1 ≤ p.length := by have := numR_le 0 hi; rw [h1] at this; exact this
  have l2 : i2 ≤ p.length := by have := numR_le z1 l1; rw [h2] at this; exact this
  have l3 : i3 ≤ p.length := by have := numR_le z2 l2; rw [h3] at this; exact this
  have l4 : i4 ≤ p.length := by have := numR_le z3 l3; rw [h4] at this; exact this
  have b1 : s < 18446744073709551616 := by have := numR_lt (p := p) (i := i) 0; rw [h1] at this; exact this
  have b2 : m < 18446744073709551616 := by have := numR_lt (p := p) (i := i1) z1; rw [h2] at this; exact this
  have b3 : x < 18446744073709551616 := by have := numR_lt (p := p) (i := i2) z2; rw [h3] at this; exact this
  have b4 : v < 18446744073709551616 := by have := numR_lt (p := p) (i := i3) z3; rw [h4] at this; exact this
  have H4 := hide (num4 h1 h2 h3 h4)
  have HN1 := hide (fun u (t : Rdr u r p i 0) => number_all r p i 0 u t (by omega) hi)
  have HN2 := hide (fun u (t : Rdr u r p i1 z1) => number_all r p i1 z1 u t (by omega) l1)
  have HN3 := hide (fun u (t : Rdr u r p i2 z2) => number_all r p i2 z2 u t (by omega) l2)
  have HN4 := hide (fun u (t : Rdr u r p i3 z3) => number_all r p i3 z3 u t (by omega) l3)
  simp only [h1] at HN1
  simp only [h2] at HN2
  simp only [h3] at HN3
  simp only [h4] at HN4
  have HS := hide h
  have HAT := hide (fun u => atR_any r p i 0 (w.drewN u) (h.rd.drewN u))
  have hrq := h.rq
  have HK := hide hlast
  have HRK := hide hRk
  clear h h1 h2 h3 h4 hlast hRk
  go_enter Tryz.func171, Tryz.ntmps171
  go_wp2_with fail
  go_quiet (first | (go_at_call 192; exact Calls.quiet_of (HAT.out _)))
  clear HAT c2
  have S0 := hide (HS.out.drewN nq)
  have T0 := hide (turnsN (S := fun j => j = r) w nq)
  have c0' : (w.drewN nq).cell? ⟨q, 0, none⟩ = some (.pointer (some ⟨r, 0, none⟩)) := c0
  clear c0
  generalize w.drewN nq = w0 at *
  have hq0 : ¬ q = r := by omega
  go_upto_region 2 with (fail)
  go_cut [5, 6, 7, 8] from 10 (fun v5 v6 v7 v8 wx => v5 = .int .u64 (s : Nat) ∧ v6 = .int .u64 (m : Nat) ∧ v7 = .int .u64 (x : Nat) ∧ v8 = .int .u64 (v : Nat) ∧ RS wx q r p i4 z4 (.slice ka key.length kc) (.slice ea R.length ec) rv key R ms ∧ Turns (fun j => j = r) w wx)
  case first =>
    rename_i kk rest jj kk' m1 m2
    clear rest
    go_region_held (fun w' => w'.cell? ⟨q, 0, none⟩ = some (.pointer (some ⟨r, 0, none⟩))) (first | (with_reducible exact f4) | (with_reducible exact f3) | (with_reducible exact f2) | (with_reducible exact f1) | (simp only [World.cell?_drew]; with_reducible exact c0')) (first
      | (go_at_call 97; refine (HN4.out w3 R3.out).mono ?_; rintro e w4 ⟨rfl, r4, t4⟩; have f4 := t4.cell f3 hq0; have R4 := hide r4; have T4 := hide (T3.out.trans t4); clear r4 t4)
      | (go_at_call 97; refine (HN3.out w2 R2.out).mono ?_; rintro e w3 ⟨rfl, r3, t3⟩; have f3 := t3.cell f2 hq0; have R3 := hide r3; have T3 := hide (T2.out.trans t3); clear r3 t3)
      | (go_at_call 97; refine (HN2.out w1 R1.out).mono ?_; rintro e w2 ⟨rfl, r2, t2⟩; have f2 := t2.cell f1 hq0; have R2 := hide r2; have T2 := hide (T1.out.trans t2); clear r2 t2)
      | (go_at_call 97; refine (HN1.out w0.drew S0.out.rd).mono ?_; rintro e w1 ⟨rfl, r1, t1⟩; have f1 := t1.cell (a := w0.drew) c0' hq0; have R1 := hide r1; have T1 := hide ((Turns.refl (fun j => j = r) w0).drew.trans t1); clear r1 t1))
    go_wp2_with fail
    go_meet
    exact ⟨rfl, rfl, rfl, rfl, S0.out.read R4.out T4.out, T0.out.trans T4.out⟩
  case rest =>
    obtain ⟨rfl, rfl, rfl, rfl, hS, hT⟩ := hcut
    clear HN1 HN2 HN3 HN4 c0' S0 T0
    have S4 := hide hS
    have T4 := hide hT
    have c1 : wc.cell? ⟨q, 1, none⟩ = some (.slice ka key.length kc) := cell_of_row wc q 1 _ 221 (0, 0) hS.box
    have hB4 : Below r w wc := hT.below (Nat.le_of_lt HS.out.rd.lt) (fun k e => Nat.le_of_eq e.symm)
    have HB4 := hide hB4
    have hrw : r ≤ wc.heap.size := Nat.le_of_lt hS.rd.lt
    clear hS hT hB4
    by_cases hsk : key.length < s
    · have hsk' : (key.length : Int) < (s : Int) := by omega
      have hnone : rdEnt R.length key (p.drop i) = none := by
        unfold rdEnt
        by_cases hz : z4 = 0
        · rw [H4.out.1 hz]
          simp only
          rw [if_pos (.inl hsk)]
        · rw [H4.out.2 hz]
      have HN := hide hnone
      clear hnone
      go_wp2_with fail
      go_ret
      exact ⟨.inl ⟨HN.out, rfl⟩, HB4.out⟩
    · have hsk' : ¬ (key.length : Int) < (s : Int) := by omega
      have hskc : (s : Int) ≤ (kc : Int) := by omega
      have hskc2 : s ≤ kc := by omega
      go_upto_region 5 with (fail)
      go_cut [58] from 10 (fun _ wx => ∃ (a5 : Option Addr) (c5 i5 : Nat) (z5 : Int) (news : List (BitVec 8)), i5 ≤ p.length ∧ news.length ≤ p.length ∧ ((z5 = 0 ∧ z4 = 0 ∧ m ≤ p.length - i4 ∧ news = (p.drop i4).take m ∧ i5 = i4 + m) ∨ (z5 ≠ 0 ∧ ¬ (z4 = 0 ∧ m ≤ p.length - i4))) ∧ RS wx q r p i5 z5 (.slice a5 (s + news.length) c5) (.slice ea R.length ec) rv (key.take s ++ news) R ms ∧ Below r w wx)
      case first =>
        rename_i kk rest jj kk' m1 m2
        clear rest
        have f0 : wc.drew.cell? ⟨q, 0, none⟩ = some (.pointer (some ⟨r, 0, none⟩)) := cell_of_row wc q 0 _ 221 (0, 0) S4.out.box
        have HTK := hide (takeR_any q r p i4 m z4 wc.drew f0 S4.out.rd (by omega) l4 b2)
        have T4d := hide ((Turns.refl (fun j => j = r) wc).drew)
        clear f0
        go_region_law (first
          | (refine step_append_run rfl (.tmp 54) (.tmp 57) 28 rfl (.slice ka s kc) (.slice a5 NL c5) rfl rfl _ _ hq6 58 rfl ?_; simp only [Act.put, List.setIfInBounds_toArray, List.set_cons_zero, List.set_cons_succ])
          | (go_simp; go_at_call 193; refine HTK.out.mono ?_; rintro e w5 ⟨hx5, t5⟩; obtain ⟨a5, c5, news, i5, z5, rfl, hb5, hf5, hr5, hi5, hn5, halt⟩ := fix_ex hx5 l4; have S5 := hide (S4.out.read hr5 (T4d.out.trans t5)); obtain ⟨a6, c6, w6, hr6, hk6, t6, hin6⟩ := append_key w5 (q + 1) ka kc key S5.out.kr (by have := S5.out.lt; omega) s (by omega) (.slice a5 news.length c5) news hb5 (by omega)
             have g1 : w5.cell? ⟨q, 1, none⟩ = some (.slice ka key.length kc) := cell_of_row w5 q 1 _ 221 (0, 0) S5.out.box
             have hbx6 := t6.heap S5.out.box (fun x => by have := (S5.out.kr.row x).1; omega)
             have y1 : w6.cell? ⟨q, 1, none⟩ = some (.slice ka key.length kc) := cell_of_row w6 q 1 _ 221 (0, 0) hbx6
             have y2 : w6.frozen? ⟨q, 1, none⟩ = false := frozen_of_row w6 q 1 _ 221 hbx6
             have FIN := hide (S5.out.setKey hk6 t6 hin6)
             have HTT := hide (T4d.out.trans t5)
             have HT6 := hide t6
             have HALT := hide halt
             have hq6 := hr6 28
             generalize hNL : news.length = NL at *
             have HNL := hide hNL
             clear hx5 t5 hb5 hf5 hr5 hk6 t6 hin6 hr6 hbx6 halt hNL))
        all_goals go_wp2_with fail
        all_goals go_meet
        all_goals refine ⟨a6, c6, i5, z5, news, hi5, by rw [HNL.out]; exact hn5, HALT.out, by rw [HNL.out]; exact FIN.out, ?_⟩
        all_goals
          have q1 := HTT.out.below hrw (fun k e => Nat.le_of_eq e.symm)
          have q2 := HT6.out.below (B := r) (Nat.le_of_lt S5.out.rd.lt) (fun k hk => by have := (S5.out.kr.row hk).1; omega)
          exact ((HB4.out.trans q1).trans q2).setCell (show r ≤ q by omega) _
      case rest =>
        obtain ⟨a5, c5, i5, z5, news, hi5, hn5, halt, hS5, hB5⟩ := hcut
        clear S4 T4 HB4 c1
        have S5 := hide hS5
        have HB5 := hide hB5
        have HALT := hide halt
        have hkl : (key.take s ++ news).length = s + news.length := by rw [List.length_append, List.length_take]; omega
        have HKL := hide hkl
        clear hS5 hB5 halt hkl
        generalize hkey : key.take s ++ news = key' at *
        have HKEY := hide hkey
        clear hkey
        generalize hNL : s + news.length = NL at *
        have HNL := hide hNL
        clear hNL
        have c1 : wc.cell? ⟨q, 1, none⟩ = some (.slice a5 NL c5) := cell_of_row wc q 1 _ 221 (0, 0) S5.out.box
        have HTK := hide (fun u (t : Turns (fun _ => False) wc u) => takeR_any q r p i5 v z5 u (t.cell (cell_of_row wc q 0 _ 221 (0, 0) S5.out.box) (fun x => x)) (S5.out.rd.turns t (fun x => x)) (by omega) hi5 b4)
        have tA : Turns (fun _ => False) wc wc.drew := (Turns.refl _ wc).drew
        have TA := hide tA
        have TB := hide (tA.alloc (.cells #[.slice none 0 0, .int .u64 0, .int .i64 0, .slice none 0 0] 35))
        have hqw : q < wc.heap.size := S5.out.lt
        have hrw : r ≤ wc.heap.size := by omega
        have hq9 : ¬ q = wc.heap.size := by omega
        have HV1 := hide (show IntKind.u64.wrap ((x : Int) / 4) = ((x / 4 : Nat) : Int) by rw [wrapU _ (by omega) (by omega)]; omega)
        have HV2 := hide (show IntKind.i64.wrap ((x : Int).tmod 4) = ((x % 4 : Nat) : Int) by rw [Int.tmod_eq_emod_of_nonneg (by omega), wrapI _ (by omega) (by omega)]; omega)
        clear tA
        obtain ⟨H0, hH0⟩ : ∃ H0, wc.heap.size = H0 := ⟨_, rfl⟩
        have HH0 := hide hH0
        clear hH0
        go_upto_region 6 with (fail)
        go_cut [9] from 10 (fun v9 wx => ∃ (g9 : Nat) (av : Option Addr) (cv i6 : Nat) (z6 : Int) (val : List (BitVec 8)), v9 = .pointer (some ⟨g9, 0, none⟩) ∧ i6 ≤ p.length ∧ val.length ≤ p.length ∧ ((z6 = 0 ∧ z5 = 0 ∧ v ≤ p.length - i5 ∧ val = (p.drop i5).take v ∧ i6 = i5 + v) ∨ (z6 ≠ 0 ∧ ¬ (z5 = 0 ∧ v ≤ p.length - i5))) ∧ wx.heap[g9]? = some (.cells #[.slice a5 NL c5, .int .u64 ((x / 4 : Nat) : Int), .int .i64 ((x % 4 : Nat) : Int), .slice av val.length cv] 35 (0, 0)) ∧ Bytes wx (.slice av val.length cv) val ∧ (∀ y, av = some y → H0 ≤ y.block ∧ y.block < wx.heap.size ∧ y.block ≠ g9) ∧ H0 ≤ g9 ∧ RS wx q r p i6 z6 (.slice a5 NL c5) (.slice ea R.length ec) rv key' R ms ∧ Turns (fun j => j = r) wc wx)
        case first =>
          rename_i kk rest jj kk' m1 m2
          clear rest
          have hh0 := HH0.out
          subst hh0
          go_region_held (fun w' => w'.cell? ⟨q, 1, none⟩ = some (.slice a5 NL c5)) (first | (with_reducible exact f6) | (with_reducible exact keep4 f6 hq9 _ _ _ _) | exact alloc_keep f6 _ | (simp only [World.cell?_drew]; with_reducible exact c1) | exact alloc_keep (w := wc.drew) c1 _) (first
            | (go_at_call 193; refine (HTK.out wc.drew TA.out).mono ?_; rintro e w6 ⟨hx6, t6⟩; obtain ⟨av, cv, val, i6, z6, rfl, hb6, hf6, hr6, hi6, hn6, halt⟩ := fix_ex hx6 hi5; have f6 := t6.cell (a := wc.drew) c1 (by show ¬ q = r; omega); have HX := hide (And.intro hb6 (And.intro hf6 (And.intro hr6 halt))); have T6 := hide t6; clear hx6 t6 hb6 hf6 hr6 halt)
            | (go_at_call 193; refine (HTK.out (wc.drew.alloc (.cells #[.slice none 0 0, .int .u64 0, .int .i64 0, .slice none 0 0] 35)) TB.out).mono ?_; rintro e w6 ⟨hx6, t6⟩; obtain ⟨av, cv, val, i6, z6, rfl, hb6, hf6, hr6, hi6, hn6, halt⟩ := fix_ex hx6 hi5; have f6 := t6.cell (alloc_keep (w := wc.drew) c1 _) (by show ¬ q = r; omega); have n9 := t6.heap (heap_alloc_new wc.drew _) (by show ¬ wc.heap.size = r; omega); have y0 := cell_of_row w6 wc.heap.size 0 _ 35 (0, 0) n9; have y1 := cell_of_row w6 wc.heap.size 1 _ 35 (0, 0) n9; have y2 := cell_of_row w6 wc.heap.size 2 _ 35 (0, 0) n9; have y3 := cell_of_row w6 wc.heap.size 3 _ 35 (0, 0) n9; have e0 := frozen_of_row w6 wc.heap.size 0 _ 35 n9; have e1 := frozen_of_row w6 wc.heap.size 1 _ 35 n9; have e2 := frozen_of_row w6 wc.heap.size 2 _ 35 n9; have e3 := frozen_of_row w6 wc.heap.size 3 _ 35 n9; simp at y0 y1 y2 y3; have N9 := hide n9; clear n9; have HX := hide (And.intro hb6 (And.intro hf6 (And.intro hr6 halt))); have T6 := hide t6; clear hx6 t6 hb6 hf6 hr6 halt))
          all_goals go_wp2_with fail
          all_goals go_meet
          all_goals rw [HV1.out, HV2.out]
          · have S6 := S5.out.read HX.out.2.2.1 ((Turns.refl (fun j => j = r) wc).drew.trans T6.out)
            have ba := (Below.refl w6.heap.size w6).alloc (Nat.le_refl _) (.cells #[.slice a5 NL c5, .int .u64 ((x / 4 : Nat) : Int), .int .i64 ((x % 4 : Nat) : Int), .slice av val.length cv] 35)
            have hs6 : wc.heap.size ≤ w6.heap.size := T6.out.size
            refine ⟨w6.heap.size, av, cv, i6, z6, val, rfl, hi6, hn6, HX.out.2.2.2, heap_alloc_new w6 _, HX.out.1.below ba, fun y hy => ?_, hs6, S6.quiet (Turns.of_below ba _), ((Turns.refl (fun j => j = r) wc).drew.trans T6.out).trans (Turns.of_below ba _)⟩
            have h9 := HX.out.2.1 y hy
            have h8 := ba.size
            have h7 : wc.heap.size ≤ y.block := h9.1
            exact ⟨h7, by omega, by omega⟩
          · have S6 := (S5.out.quiet TB.out).read HX.out.2.2.1 T6.out
            have hs6 : wc.heap.size + 1 ≤ w6.heap.size := by have := T6.out.size; simpa using this
            have t4 := turns4 w6 wc.heap.size (.slice a5 NL c5) (.int .u64 ((x / 4 : Nat) : Int)) (.int .i64 ((x % 4 : Nat) : Int)) (.slice av val.length cv)
            have hf : ∀ y, av = some y → wc.heap.size + 1 ≤ y.block ∧ y.block < w6.heap.size := fun y hy => by have := HX.out.2.1 y hy; simpa using this
            refine ⟨wc.heap.size, av, cv, i6, z6, val, rfl, hi6, hn6, HX.out.2.2.2, set4 N9.out _ _ _ _, bytes_keep HX.out.1 t4 (fun y hy e => by have := (hf y hy).1; omega), fun y hy => ?_, Nat.le_refl _, S6.keep t4 hq9 (fun k e => by omega) (fun k hk e => by have := S5.out.rows.1 k hk; omega) (fun y hy b hb e => by have := S5.out.rows.2 y hy b hb; omega), ?_⟩
            · have h9 := hf y hy
              have h8 := t4.size
              exact ⟨by omega, by omega, by omega⟩
            · refine ((TB.out.mono fun _ _ x => x.elim).trans T6.out).andThen t4 fun j hj e => ?_
              omega
        case rest =>
          obtain ⟨g9, av, cv, i6, z6, val, rfl, hi6, hn6, halt6, h9, hbv, hav, hg9, hS6, hT6⟩ := hcut
          clear HTK TA TB c1 hq9
          have hrw' := HB5.out.trans (hT6.below hrw (fun k e => Nat.le_of_eq e.symm))
          have HB6 := hide hrw'
          have S6 := hide hS6
          have HBV := hide hbv
          have HAV := hide hav
          have HALT6 := hide halt6
          have H9 := hide h9
          have hrows := S5.out.rows
          rw [HH0.out] at hrows hqw hrw
          have HROWS := hide hrows
          clear hS6 hT6 hbv hav halt6 h9 hrw' hrows S5 HB5
          have c0 : wc.cell? ⟨q, 0, none⟩ = some (.pointer (some ⟨r, 0, none⟩)) := cell_of_row wc q 0 _ 221 (0, 0) S6.out.box
          by_cases hz6 : z6 = 0
          · subst hz6
            obtain ⟨_, hz5, hv5, hval, hi6'⟩ : (0 : Int) = 0 ∧ z5 = 0 ∧ v ≤ p.length - i5 ∧ val = (p.drop i5).take v ∧ i6 = i5 + v := by
              rcases HALT6.out with x | x
              · exact x
              · exact absurd rfl x.1
            obtain ⟨_, hz4, hm4, hnews, hi5'⟩ : z5 = 0 ∧ z4 = 0 ∧ m ≤ p.length - i4 ∧ news = (p.drop i4).take m ∧ i5 = i4 + m := by
              rcases HALT.out with x | x
              · exact x
              · exact absurd hz5 x.1
            obtain ⟨ent, hent⟩ : ∃ ent : Ent, ent = ⟨key', x / 4, ((x % 4 : Nat) : Int), val⟩ := ⟨_, rfl⟩
            have hrd := rd_good (j := R.length) (H4.out.1 hz4) (by omega : s ≤ key.length) hm4 (by omega) ent (by rw [hent, ← HKEY.out, hnews, hval, hi5'])
            have HRD := hide hrd
            have hfi : p.drop (i4 + m + v) = p.drop i6 := by rw [hi6', hi5']
            have HFI := hide hfi
            clear hrd hfi hval hnews hi6' hi5' hm4 hv5 hz4
            have hkl : key'.length = NL := HKL.out
            have hNL1 : NL ≤ 44096 := by have := HNL.out; omega
            have HE := hide hent
            have HCK := hide (checkEntry_any (x / 4) (by omega) ((x % 4 : Nat) : Int) a5 av NL c5 val.length cv key' val)
            have hck : chk (x / 4) [(((x % 4 : Nat) : Int), key', val)] = chk1 ent := by rw [hent]; rfl
            rw [hck] at HCK
            have hsm : Smol [(((x % 4 : Nat) : Int), key', val)] := ⟨by simp, by simp [tot]; omega⟩
            have HCK2 := hide (fun u (t : Turns (fun _ => False) wc u) => HCK.out u (Bytes.quiet (by rw [← hkl]; exact hkl ▸ S6.out.kr.bytes) t) (Bytes.quiet HBV.out t) hsm)
            clear hck hsm HCK hent
            have e0 : wc.cell? ⟨g9, 0, none⟩ = some (.slice a5 NL c5) := cell_of_row wc g9 0 _ 35 (0, 0) H9.out
            have e1 : wc.cell? ⟨g9, 1, none⟩ = some (.int .u64 ((x / 4 : Nat) : Int)) := cell_of_row wc g9 1 _ 35 (0, 0) H9.out
            have e2 : wc.cell? ⟨g9, 2, none⟩ = some (.int .i64 ((x % 4 : Nat) : Int)) := cell_of_row wc g9 2 _ 35 (0, 0) H9.out
            have e3 : wc.cell? ⟨g9, 3, none⟩ = some (.slice av val.length cv) := cell_of_row wc g9 3 _ 35 (0, 0) H9.out
            generalize x / 4 = X4 at *
            generalize x % 4 = X5 at *
            go_wp2_with fail
            refine (err_any r p i6 0 wc S6.out.rd).mono ?_
            rintro e w7 ⟨rfl, m7, rfl⟩
            go_wp2_with fail
            refine (HCK2.out (wc.drewN m7) (turnsN _ _)).mono ?_
            rintro e w8 ⟨rfl, b8⟩
            by_cases hck0 : chk1 ent = 0
            · rw [hck0]
              have t8 : Turns (fun _ => False) wc w8 := (turnsN (S := fun _ => False) wc m7).trans (Turns.of_below b8 _)
              have S8 := hide (S6.out.quiet t8)
              have H98 := hide (t8.heap H9.out (fun x => x))
              have HBV8 := hide (Bytes.quiet HBV.out t8)
              have HB8 := hide (HB6.out.trans (t8.below (Nat.le_of_lt S6.out.rd.lt) (fun _ q => q.elim)))
              have hs8 := t8.size
              have hw8 : (wc.drewN m7).heap.size = wc.heap.size := rfl
              have HRD8 := hide (show rdEnt R.length key (p.drop i) = if s ≠ shr R.length key ent.key then none else some (ent, p.drop i6) by
                rw [HRD.out, HFI.out]
                by_cases hx : s ≠ shr R.length key ent.key
                · rw [if_pos (.inr hx), if_pos hx]
                · rw [if_neg (fun q => q.elim (fun y => y hck0) hx), if_neg hx])
              have hk0 : g9 < w8.heap.size := lt_of_heap H98.out
              have hav8 : ∀ y, av = some y → H0 ≤ y.block ∧ y.block < w8.heap.size ∧ y.block ≠ g9 := fun y hy => by have := HAV.out y hy; exact ⟨this.1, by omega, this.2.2⟩
              have HAV8 := hide hav8
              have d0 : w8.cell? ⟨g9, 0, none⟩ = some (.slice a5 NL c5) := cell_of_row w8 g9 0 _ 35 (0, 0) H98.out
              have HCL := hide (clone_any a5 NL c5 key' w8 (by have := S8.out.kr.bytes; exact this) (by omega))
              clear e0 e1 e2 e3 c0 b8 t8 hs8 hw8 HCK2 HRD HFI hav8 S6 HBV HAV H9 HB6 HALT HALT6
              go_wp2_with fail
              refine HCL.out.mono ?_
              rintro e w9 ⟨a7, c7, rfl, hb7, hf7, hc7, _, b9⟩
              have h99 := heap_keep b9 H98.out
              have d1 : w9.cell? ⟨g9, 0, none⟩ = some (.slice a5 NL c5) := cell_of_row w9 g9 0 _ 35 (0, 0) h99
              have d2 : w9.frozen? ⟨g9, 0, none⟩ = false := frozen_of_row w9 g9 0 _ 35 h99
              have t10 := tq w9 g9 0 (.slice a7 NL c7)
              have h910 := heap_setCell_same _ g9 0 _ 35 (.slice a7 NL c7) h99
              simp only [List.setIfInBounds_toArray, List.set_cons_zero] at h910
              have S10 := hide ((S8.out.quiet (Turns.of_below b9 _)).keep t10 (by omega) (fun k e => by have := S8.out.rq; omega) (fun k hk e => by have := HROWS.out.1 k hk; omega) (fun y hy b hb e => by have := HROWS.out.2 y hy b hb; omega))
              have HB10 := hide ((HB8.out.trans (b9.mono (Nat.le_of_lt S8.out.rd.lt))).setCell (p := ⟨g9, 0, none⟩) (show r ≤ g9 by omega) (.slice a7 NL c7))
              have HK10 := hide (bytes_keep hb7 t10 (fun y hy e => by have := (hf7 y hy).1; omega))
              have HV10 := hide (bytes_keep (HBV8.out.below b9) t10 (fun y hy e => by have := (HAV8.out y hy).2.2; omega))
              have hF : ∀ b, (Tow.mk a7 c7 av cv ent).bytesIn b → H0 ≤ b ∧ b < (w9.setCell ⟨g9, 0, none⟩ (.slice a7 NL c7)).heap.size := fun b hb => by
                have hs9 := b9.size
                have hs10 := t10.size
                rcases hb with ⟨y, hy, rfl⟩ | ⟨y, hy, rfl⟩
                · have := hf7 y hy; omega
                · have := HAV8.out y hy; omega
              have HF := hide hF
              have H910 := hide h910
              clear hb7 hf7 b9 h99 t10 h910 hF S8 HBV8 H98 HB8 d0 HCL
              go_wp2_with fail
              generalize w9.setCell ⟨g9, 0, none⟩ (.slice a7 NL c7) = w10 at *
              clear d1 d2
              have hentk : ent.key = key' := by rw [HE.out]
              have hents : ent.seq = X4 := by rw [HE.out]
              have hentd : ent.kind = (X5 : Int) := by rw [HE.out]
              have hentv : ent.val = val := by rw [HE.out]
              have HEK := hide hentk
              have HES := hide hents
              have HED := hide hentd
              have HEV := hide hentv
              clear hentk hents hentd hentv
              go_cut [96] from 10 (fun _ wx => ∃ g' n' c' : Nat, RS wx q r p i6 0 (.slice a5 NL c5) (.slice (some ⟨g', 0, none⟩) n' c') rv key' (R ++ [⟨a7, c7, av, cv, ent⟩]) ms ∧ Below r w wx)
              case first =>
                rename_i kk rest jj kk' m1 m2
                clear rest
                have tu : Turns (fun _ => False) w10 (w10.drew.alloc (.cells #[.slice a7 NL c7, .int .u64 (X4 : Nat), .int .i64 (X5 : Nat), .slice av val.length cv] 35)) := (Turns.refl _ w10).drew.alloc _
                have hnew : (w10.drew.alloc (.cells #[.slice a7 NL c7, .int .u64 (X4 : Nat), .int .i64 (X5 : Nat), .slice av val.length cv] 35)).heap[w10.heap.size]? = some (.cells #[.slice a7 NL c7, .int .u64 (X4 : Nat), .int .i64 (X5 : Nat), .slice av val.length cv] 35 (0, 0)) := heap_alloc_new w10.drew _
                have hsu : (w10.drew.alloc (.cells #[.slice a7 NL c7, .int .u64 (X4 : Nat), .int .i64 (X5 : Nat), .slice av val.length cv] 35)).heap.size = w10.heap.size + 1 := by simp
                have Su := S10.out.quiet tu
                obtain ⟨g', n', c', w11, hr, hE, t11, b11, hg'⟩ := append_ent _ (q + 1) (.slice ea R.length ec) R Su.er (by have := Su.lt; omega) (by omega) ⟨a7, c7, av, cv, ent⟩ w10.heap.size 1 (by
                  rw [hnew]
                  show _ = some (Obj.cells #[.slice a7 ent.key.length c7, .int .u64 (ent.seq : Nat), .int .i64 ent.kind, .slice av ent.val.length cv] 35 (0, 0))
                  rw [HEK.out, HES.out, HED.out, HEV.out, HKL.out])
                have hin : ∀ k, inRow (.slice (some ⟨g', 0, none⟩) n' c') k → inRow (.slice ea R.length ec) k ∨ w10.heap.size + 1 ≤ k := fun k hk => by
                  obtain ⟨_, _, e⟩ := hk
                  cases e
                  rcases hg' with x | x
                  · exact .inl x
                  · rw [hsu] at x; exact .inr (by omega)
                have FIN := hide (Su.setEnts (y := ⟨a7, c7, av, cv, ent⟩) hE t11 (by rw [hsu]; exact hin) ⟨by
                    show Bytes _ (.slice a7 ent.key.length c7) ent.key
                    rw [HEK.out, HKL.out]; exact Bytes.quiet HK10.out tu, by
                    show Bytes _ (.slice av ent.val.length cv) ent.val
                    rw [HEV.out]; exact Bytes.quiet HV10.out tu, fun b hb => by have := HF.out b hb; rw [hsu]; omega⟩ (fun b hb => by
                    have h1 := HF.out b hb
                    exact ⟨fun y => by have := HROWS.out.1 b (.inl y); omega, fun y => by have := HROWS.out.1 b (.inr (.inl y)); omega, fun y => by have := HROWS.out.1 b (.inr (.inr y)); omega⟩))
                have hq := hr 37
                have HBF := hide (((HB10.out.trans (tu.below (Nat.le_of_lt S10.out.rd.lt) (fun _ q => q.elim))).trans (b11.mono (by have := S10.out.rq; omega))).setCell (p := ⟨q, 2, none⟩) (show r ≤ q by have := S10.out.rq; omega) (.slice (some ⟨g', 0, none⟩) n' c'))
                have hbx := t11.heap Su.box (fun x => by have := (Su.er.row x).1; omega)
                have y2 : w11.cell? ⟨q, 2, none⟩ = some (.slice ea R.length ec) := cell_of_row w11 q 2 _ 221 (0, 0) hbx
                have z2 : w11.frozen? ⟨q, 2, none⟩ = false := frozen_of_row w11 q 2 _ 221 hbx
                have x2 : w10.cell? ⟨q, 2, none⟩ = some (.slice ea R.length ec) := cell_of_row w10 q 2 _ 221 (0, 0) S10.out.box
                have x2' : (w10.alloc (.cells #[.slice a7 NL c7, .int .u64 (X4 : Nat), .int .i64 (X5 : Nat), .slice av val.length cv] 35)).cell? ⟨q, 2, none⟩ = some (.slice ea R.length ec) := alloc_keep x2 _
                have k0 : w10.cell? ⟨g9, 0, none⟩ = some (.slice a7 NL c7) := cell_of_row w10 g9 0 _ 35 (0, 0) H910.out
                have k1 : w10.cell? ⟨g9, 1, none⟩ = some (.int .u64 (X4 : Nat)) := cell_of_row w10 g9 1 _ 35 (0, 0) H910.out
                have k2 : w10.cell? ⟨g9, 2, none⟩ = some (.int .i64 (X5 : Nat)) := cell_of_row w10 g9 2 _ 35 (0, 0) H910.out
                have k3 : w10.cell? ⟨g9, 3, none⟩ = some (.slice av val.length cv) := cell_of_row w10 g9 3 _ 35 (0, 0) H910.out
                clear hnew hE t11 b11 hg' hr hin hbx Su tu hsu
                go_region_law (first
                  | (refine step_append_run rfl (.tmp 93) (.tmp 95) 37 rfl (.slice ea R.length ec) (.slice (some ⟨w10.heap.size, 0, none⟩) 1 1) rfl rfl _ _ hq 96 rfl ?_; simp only [Act.put, List.setIfInBounds_toArray, List.set_cons_zero, List.set_cons_succ]))
                all_goals go_wp2_with fail
                all_goals go_meet
                all_goals exact ⟨g', n', c', FIN.out, HBF.out⟩
              case rest =>
                obtain ⟨g', n', c', hS12, hB12⟩ := hcut
                obtain ⟨ra, rc, rfl⟩ := hS12.ir.len
                have hn' : n' = (R ++ [(⟨a7, c7, av, cv, ent⟩ : Tow)]).length := by obtain ⟨_, _, e⟩ := hS12.er.len; cases e; rfl
                have S12 := hide hS12
                have HB12 := hide hB12
                have c2 : wc.cell? ⟨q, 2, none⟩ = some (.slice (some ⟨g', 0, none⟩) n' c') := cell_of_row wc q 2 _ 221 (0, 0) hS12.box
                have c3 : wc.cell? ⟨q, 3, none⟩ = some (.slice ra ms.length rc) := cell_of_row wc q 3 _ 221 (0, 0) hS12.box
                have hlen1 : (R ++ [(⟨a7, c7, av, cv, ent⟩ : Tow)]).length = R.length + 1 := by simp
                have HSH := hide (fun u {rv' : Value} {ms' : List Nat} (S : RS u q r p i6 0 (.slice a5 NL c5) (.slice (some ⟨g', 0, none⟩) n' c') rv' key' (R ++ [(⟨a7, c7, av, cv, ent⟩ : Tow)]) ms') => shared_any (some ⟨g', 0, none⟩) n' c' (R ++ [(⟨a7, c7, av, cv, ent⟩ : Tow)]) u (ents_of S.er S.sh) R.length ⟨a7, c7, av, cv, ent⟩ (by simp) hn' (by omega) (fun y hy => by
                  rcases List.mem_append.1 hy with hy | hy
                  · exact HRK.out y hy
                  · obtain rfl : y = ⟨a7, c7, av, cv, ent⟩ := by simpa using hy
                    show ent.key.length ≤ 1000000
                    rw [HEK.out]; omega))
                have hpk : prevK (R ++ [(⟨a7, c7, av, cv, ent⟩ : Tow)]) R.length = key := by rw [prevK_append R _ R.length (Nat.le_refl _)]; exact HK.out.symm
                rw [hpk] at HSH
                clear hS12 hB12 S10 HB10 HK10 HV10 HF H910 hlen1 hpk
                have HN' := hide hn'
                clear hn'
                by_cases hr16 : R.length % 16 = 0
                · have tu : Turns (fun _ => False) wc (wc.alloc (.cells #[.int .i64 (i : Nat)] 3)) := (Turns.refl _ wc).alloc _
                  obtain ⟨gr, nr, cr, w13, hr, hI, t13, b13, hg13⟩ := append_int wc (q + 1) (.slice ra ms.length rc) ms S12.out.ir (by have := S12.out.lt; omega) (by omega) i
                  have FIN := hide (S12.out.setInts hI t13 (fun k hk => by
                    obtain ⟨_, _, e⟩ := hk
                    cases e
                    exact hg13))
                  have hbx := t13.heap S12.out.box (fun x => by have := (S12.out.ir.row x).1; omega)
                  have y3 : w13.cell? ⟨q, 3, none⟩ = some (.slice ra ms.length rc) := cell_of_row w13 q 3 _ 221 (0, 0) hbx
                  have z3 : w13.frozen? ⟨q, 3, none⟩ = false := frozen_of_row w13 q 3 _ 221 hbx
                  have y2 : w13.cell? ⟨q, 2, none⟩ = some (.slice (some ⟨g', 0, none⟩) n' c') := cell_of_row w13 q 2 _ 221 (0, 0) hbx
                  have HA := hide hr
                  have HBF := hide ((HB12.out.trans (b13.mono (by have := S12.out.rq; omega))).setCell (p := ⟨q, 3, none⟩) (show r ≤ q by have := S12.out.rq; omega) (.slice (some ⟨gr, 0, none⟩) nr cr))
                  clear hr hI t13 b13 hg13 hbx tu
                  go_wp2_with (first
                    | (go_at_call 151; refine (isRestart_any R.length _).mono ?_; rintro e w1' ⟨rfl, hw1⟩; rw [hw1, decide_eq_true hr16]; clear hw1)
                    | (at_builtin; refine wpList_append_run rfl (.tmp 105) (.tmp 107) 168 rfl (.slice ra ms.length rc) (.slice (some ⟨wc.heap.size, 0, none⟩) 1 1) rfl rfl _ _ (HA.out _) ?_)
                    | (go_at_call 153; refine (HSH.out _ (FIN.out)).mono ?_; rintro e w14 ⟨rfl, m14, hw14⟩))
                  subst hw14
                  have hsvl := (shr_le R.length key ent.key).1
                  generalize hsv : shr R.length key ent.key = SV at *
                  have hsv2 : SV ≤ 4096 := by omega
                  have HSV := hide hsv
                  clear hsv
                  go_wp2_with fail
                  go_ret
                  go_light
                  refine ⟨?_, HBF.out.trans ((turnsN (S := fun _ => False) _ m14).below (Nat.le_of_lt FIN.out.rd.lt) (fun _ q => q.elim))⟩
                  by_cases hsx : s = SV
                  · refine .inr ⟨ent, i6, .slice a5 NL c5, .slice (some ⟨g', 0, none⟩) n' c', .slice (some ⟨gr, 0, none⟩) nr cr, ⟨a7, c7, av, cv, ent⟩, ?_, hi6, rfl, ?_, ?_⟩
                    · rw [HRD8.out, if_neg (fun h => h hsx)]
                    · refine congrArg Ending.returned (congrArg Value.bool (?_ : ((s : Int) == IntKind.u64.wrap (SV : Int)) = true))
                      rw [wrapU _ (by omega) (by omega), hsx]
                      simp
                    · have h9 := FIN.out.drewN m14
                      rw [if_pos hr16]
                      rw [HEK.out]
                      exact h9
                  · refine .inl ⟨?_, ?_⟩
                    · rw [HRD8.out, if_pos hsx]
                    · refine congrArg Ending.returned (congrArg Value.bool ?_)
                      rw [wrapU _ (by omega) (by omega)]
                      simp only [beq_eq_false_iff_ne, ne_eq]
                      omega
                · have FIN := hide S12.out
                  have HBF := hide HB12.out
                  go_wp2_with (first
                    | (go_at_call 151; refine (isRestart_any R.length _).mono ?_; rintro e w1' ⟨rfl, hw1⟩; rw [hw1, decide_eq_false hr16]; clear hw1)
                    | (go_at_call 153; refine (HSH.out _ (FIN.out)).mono ?_; rintro e w14 ⟨rfl, m14, hw14⟩))
                  subst hw14
                  have hsvl := (shr_le R.length key ent.key).1
                  generalize hsv : shr R.length key ent.key = SV at *
                  have hsv2 : SV ≤ 4096 := by omega
                  have HSV := hide hsv
                  clear hsv
                  go_wp2_with fail
                  go_ret
                  go_light
                  refine ⟨?_, HBF.out.trans ((turnsN (S := fun _ => False) _ m14).below (Nat.le_of_lt FIN.out.rd.lt) (fun _ q => q.elim))⟩
                  by_cases hsx : s = SV
                  · refine .inr ⟨ent, i6, .slice a5 NL c5, .slice (some ⟨g', 0, none⟩) n' c', .slice ra ms.length rc, ⟨a7, c7, av, cv, ent⟩, ?_, hi6, rfl, ?_, ?_⟩
                    · rw [HRD8.out, if_neg (fun h => h hsx)]
                    · refine congrArg Ending.returned (congrArg Value.bool (?_ : ((s : Int) == IntKind.u64.wrap (SV : Int)) = true))
                      rw [wrapU _ (by omega) (by omega), hsx]
                      simp
                    · have h9 := FIN.out.drewN m14
                      rw [if_neg hr16, List.append_nil]
                      rw [HEK.out]
                      exact h9
                  · refine .inl ⟨?_, ?_⟩
                    · rw [HRD8.out, if_pos hsx]
                    · refine congrArg Ending.returned (congrArg Value.bool ?_)
                      rw [wrapU _ (by omega) (by omega)]
                      simp only [beq_eq_false_iff_ne, ne_eq]
                      omega
            · have hne : (chk1 ent != 0) = true := by simpa using hck0
              have hnone := HRD.out
              rw [if_pos (.inl hck0)] at hnone
              have HN := hide hnone
              have B8 := hide (HB6.out.trans ((turnsN (S := fun _ => False) wc m7).below (B := r) (Nat.le_of_lt S6.out.rd.lt) (fun _ q => q.elim)))
              have B9 := hide (show Below r (wc.drewN m7) w8 from b8.mono (Nat.le_of_lt S6.out.rd.lt))
              clear hnone b8
              go_wp2_with fail
              go_ret
              exact ⟨.inl ⟨HN.out, rfl⟩, B8.out.trans B9.out⟩
          · have hnone : rdEnt R.length key (p.drop i) = none := rd_bad H4.out (by
              rintro ⟨x1, x2, x3⟩
              rcases HALT.out with ⟨y1, y2, y3, y4, y5⟩ | ⟨y1, y2⟩
              · rcases HALT6.out with ⟨u1, _⟩ | ⟨u1, u2⟩
                · exact hz6 u1
                · exact u2 ⟨y1, by rw [y5]; exact x3⟩
              · exact y2 ⟨x1, x2⟩)
            have hz6' : (z6 != 0) = true := by simpa using hz6
            have HN := hide hnone
            clear hnone
            go_wp2_with fail
            refine (err_any r p i6 z6 wc S6.out.rd).mono ?_
            rintro e w7 ⟨rfl, m7, rfl⟩
            go_wp2_with fail
            go_ret
            exact ⟨.inl ⟨HN.out, rfl⟩, HB6.out.trans ((turnsN (S := fun _ => False) wc m7).below (Nat.le_of_lt S6.out.rd.lt) (fun _ q => q.elim))⟩
end Go.Proofs.YtjklbhdhjfifhaaGreat
