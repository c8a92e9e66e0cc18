import Derived.Test.YtpgligfolecieaaM15
import Derived.Test.YtpgligfolecieaaM03
import Derived.Deep.RegionHeld
import Derived.Deep.Light
/-
  Weigh of any entries, and small.
-/
namespace Go.Proofs.Ytpgligfolecieaa
open Go.RowKit
set_option maxRecDepth 100000
set_option maxHeartbeats 4000000
/-- A whole number, as the machine keeps it. -/
def w64 (z : Int) : Int := IntKind.i64.wrap z
theorem wr64 (z : Int) : wrap64 z = IntKind.i64.wrap z := by rw [IntKind.wrap_i64]; unfold wrap64; omega
theorem w64_add (a b : Int) : IntKind.i64.wrap (w64 a + b) = w64 (a + b) := by
  unfold w64
  simp only [IntKind.wrap_i64]
  omega
theorem w64_small (z : Int) (h0 : 0 ≤ z) (h1 : z < 9223372036854775808) : w64 z = z := wrapI z (by omega) h1
theorem weighW_any (a : Option Addr) (n c : Nat) (l : List Tow) (w : World) (h : Ents w a l) (hn : n = l.length) (hmx : n ≤ reachBytes) :
    Calls Try.prog 20 #[.slice a n c] w fun e w' => e = .returned (.int .i64 (w64 (weigh l : Nat))) ∧ Turns (fun _ => False) w w' := by
  have HL := hide hn
  have HA := hide h
  unfold reachBytes at hmx
  have hmi : (n : Int) ≤ 140737488355328 := by omega
  clear hn h
  go_enter Try.func20, Try.ntmps20
  go_wp2_with fail
  go_loopw [3, 4] (fun sv iv wr => ∃ k : Nat, sv = .int .i64 (w64 (weigh (l.take k) : Nat)) ∧ iv = .int .i64 (k : Nat) ∧ k ≤ n ∧ Turns (fun _ => False) w wr) (fun _ iv _ => n - (intOf iv).toNat)
  case atStart => exact ⟨0, rfl, rfl, by omega, Turns.refl _ _⟩
  case round =>
    obtain ⟨k, rfl, rfl, hk, ht⟩ := hrel
    have TT := hide ht
    by_cases hk2 : k < n
    · have i1 : (k : Int) < n := by omega
      have i0 : (0 : Int) ≤ (k : Int) := by omega
      have hkl : k < l.length := by have := HL.out; omega
      obtain ⟨⟨b, off, rfl, hc⟩, _⟩ := (HA.out.quiet ht) k l[k] (List.getElem?_eq_getElem hkl)
      have HTK := hide (List.take_succ_eq_append_getElem hkl)
      have hws : weigh (l.take (k + 1)) = weigh (l.take k) + (l[k].e.key.length + l[k].e.val.length) := by rw [HTK.out, weigh_snoc]
      have HWS := hide hws
      generalize l[k] = x at *
      obtain ⟨ka, kc, va, vc, e⟩ := x
      have c0 : wr.cell? ⟨b, off + k * 4, none⟩ = some (.slice ka e.key.length kc) := hc 0 _ rfl
      have c3 : wr.cell? ⟨b, off + k * 4 + 3, none⟩ = some (.slice va e.val.length vc) := hc 3 _ rfl
      clear hc ht hws
      simp only at HWS
      have HQ := hide (show ∀ x y : Int, IntKind.i64.wrap (IntKind.i64.wrap (w64 (weigh (l.take k) : Nat) + x) + y) = w64 ((weigh (l.take k) : Nat) + (x + y)) from fun x y => by
        rw [w64_add]
        unfold w64
        simp only [IntKind.wrap_i64]
        omega)
      generalize hz : w64 (weigh (l.take k) : Nat) = z at *
      clear hz
      go_wp2_with fail
      go_quiet (fail)
      go_wp2
      go_roundw
      case rel =>
        refine ⟨k + 1, ?_, by go_num, by omega, ?_⟩
        · rw [HWS.out, Int.natCast_add, Int.natCast_add, ← HQ.out, wr64, wr64]
        · first
            | exact TT.out.drew
            | exact TT.out.drewN _
      case measure => simp [intOf]; omega
    · have i1 : ¬ (k : Int) < n := by omega
      have hkn : k = n := by omega
      have HK := hide hkn
      clear hk hk2 hkn ht
      go_wp2_with fail
      go_ret
      refine ⟨?_, TT.out⟩
      rw [HK.out, HL.out, List.take_length]
      rfl
def wAll (rs : List Rw) : Nat := (rs.map fun x => weigh x.R).sum
theorem sumR_snoc (l : List Rw) (x : Rw) : sumR (l ++ [x]) = sumR l + x.R.length := by simp [sumR]
theorem wAll_snoc (l : List Rw) (x : Rw) : wAll (l ++ [x]) = wAll l + weigh x.R := by simp [wAll]
/-- Rows as they come in: of whatever length. -/
structure RwIn (w : World) (x : Rw) : Prop where
  ents : Ents w x.a x.R
  cap : x.R.length ≤ x.c
  reach : x.R.length ≤ reachBytes
  fit : ∀ y, y ∈ x.R → Fit y
  nil : x.a = none → x.c = 0
def RowsOf (w : World) (a : Option Addr) (rs : List Rw) : Prop := ∀ (k : Nat) (x : Rw), rs[k]? = some x → (∃ b off, a = some ⟨b, off, none⟩ ∧ w.cell? ⟨b, off + k, none⟩ = some (.slice x.a x.R.length x.c)) ∧ RwIn w x
/-- What small answers. -/
def Small (rs : List Rw) (d : Bool) : Prop := d = true → rs.length ≤ 20 ∧ sumR rs ≤ 150 ∧ wAll rs ≤ 15000
def SaysSmall (rs : List Rw) (e : Ending) : Prop := ∃ d : Bool, e = .returned (.bool d) ∧ Small rs d
theorem sumR_le {M : Nat} : ∀ rs : List Rw, (∀ x, x ∈ rs → x.R.length ≤ M) → sumR rs ≤ rs.length * M
  | [], _ => by simp [sumR]
  | x :: r, h => by
    have h1 := sumR_le r fun y hy => h y (List.mem_cons_of_mem _ hy)
    have h2 := h x (by simp)
    simp only [sumR, List.map_cons, List.sum_cons, List.length_cons, Nat.succ_mul] at h1 ⊢
    omega
theorem wAll_le {M : Nat} : ∀ rs : List Rw, (∀ x, x ∈ rs → ∀ y, y ∈ x.R → y.e.key.length ≤ M ∧ y.e.val.length ≤ M) → wAll rs ≤ sumR rs * (2 * M)
  | [], _ => by simp [wAll]
  | x :: r, h => by
    have h1 := wAll_le r fun y hy => h y (List.mem_cons_of_mem _ hy)
    have h2 := weigh_le x.R (h x (by simp))
    simp only [sumR, wAll, List.map_cons, List.sum_cons, Nat.add_mul] at h1 ⊢
    omega
theorem small_fin {w : World} {a : Option Addr} {rs : List Rw} (h : RowsOf w a rs) (h1 : rs.length ≤ 20) (h2 : w64 (sumR rs : Nat) ≤ 150) (h3 : w64 (wAll rs : Nat) ≤ 15000) : sumR rs ≤ 150 ∧ wAll rs ≤ 15000 := by
  have g1 := sumR_le (M := reachBytes) rs fun x hx => by
    obtain ⟨i, hi⟩ := List.getElem?_of_mem hx
    exact (h i x hi).2.reach
  have g2 : sumR rs ≤ 20 * reachBytes := Nat.le_trans g1 (Nat.mul_le_mul_right _ h1)
  unfold reachBytes at g2
  rw [w64_small _ (by omega) (by omega)] at h2
  have g3 := wAll_le (M := reachBytes) rs fun x hx y hy => by
    obtain ⟨i, hi⟩ := List.getElem?_of_mem hx
    have := (h i x hi).2.fit y hy
    exact ⟨this.2.1, this.2.2⟩
  have g4 : wAll rs ≤ 150 * (2 * reachBytes) := Nat.le_trans g3 (Nat.mul_le_mul_right _ (by omega))
  unfold reachBytes at g4
  rw [w64_small _ (by omega) (by omega)] at h3
  omega
end Go.Proofs.Ytpgligfolecieaa

/-
  Two rows as1 one, as plain mathematics; what is seen, by a predicate.
-/
namespace Go.Proofs.Ytpgligfolecieaa
open Go.RowKit
set_option maxRecDepth 100000
def mg2 : List Tow → List Tow → List Tow
  | [], bs => bs
  | a :: as1, [] => a :: as1
  | a :: as1, b :: bs => if cmpE a.e.en b.e.en < 0 then a :: mg2 as1 (b :: bs) else if cmpE a.e.en b.e.en = 0 then a :: mg2 as1 bs else b :: mg2 (a :: as1) bs
termination_by a b => a.length + b.length
theorem mg2_nil_right (as1 : List Tow) : mg2 as1 [] = as1 := by cases as1 <;> simp [mg2]
theorem cmpE_self (x : En) : cmpE x x = 0 := (cmpE_zero x x).2 ⟨rfl, rfl⟩
theorem mg2_mem : ∀ (as1 bs : List Tow), as1.Pairwise ltT → bs.Pairwise ltT → ∀ x, x ∈ mg2 as1 bs ↔ x ∈ as1 ∨ (x ∈ bs ∧ ∀ a, a ∈ as1 → cmpE a.e.en x.e.en ≠ 0)
  | [], bs, _, _, x => by simp [mg2]
  | a :: as1, [], _, _, x => by simp [mg2]
  | a :: as1, b :: bs, ha, hb, x => by
    obtain ⟨ha1, ha2⟩ := List.pairwise_cons.1 ha
    obtain ⟨hb1, hb2⟩ := List.pairwise_cons.1 hb
    unfold mg2
    split
    · next hlt =>
      rw [List.mem_cons, mg2_mem as1 (b :: bs) ha2 hb x]
      constructor
      · rintro (rfl | h | ⟨h1, h2⟩)
        · exact .inl (by simp)
        · exact .inl (List.mem_cons_of_mem _ h)
        · refine .inr ⟨h1, fun c hc => ?_⟩
          rcases List.mem_cons.1 hc with rfl | hc
          · have : cmpE c.e.en x.e.en < 0 := by
              rcases List.mem_cons.1 h1 with rfl | h1
              · exact hlt
              · have := hb1 x h1
                unfold ltT at this
                exact cmpE_lt_le hlt (by omega)
            omega
          · exact h2 c hc
      · rintro (h | ⟨h1, h2⟩)
        · rcases List.mem_cons.1 h with rfl | h
          · exact .inl rfl
          · exact .inr (.inl h)
        · exact .inr (.inr ⟨h1, fun c hc => h2 c (List.mem_cons_of_mem _ hc)⟩)
    · next hlt =>
      split
      · next heq =>
        rw [List.mem_cons, mg2_mem as1 bs ha2 hb2 x]
        constructor
        · rintro (rfl | h | ⟨h1, h2⟩)
          · exact .inl (by simp)
          · exact .inl (List.mem_cons_of_mem _ h)
          · refine .inr ⟨List.mem_cons_of_mem _ h1, fun c hc => ?_⟩
            rcases List.mem_cons.1 hc with rfl | hc
            · have := hb1 x h1
              unfold ltT at this
              have := cmpE_le_lt (x := c.e.en) (y := b.e.en) (z := x.e.en) (by omega) this
              omega
            · exact h2 c hc
        · rintro (h | ⟨h1, h2⟩)
          · rcases List.mem_cons.1 h with rfl | h
            · exact .inl rfl
            · exact .inr (.inl h)
          · rcases List.mem_cons.1 h1 with rfl | h1
            · exact absurd heq (h2 a (by simp))
            · exact .inr (.inr ⟨h1, fun c hc => h2 c (List.mem_cons_of_mem _ hc)⟩)
      · next hne =>
        rw [List.mem_cons, mg2_mem (a :: as1) bs ha hb2 x]
        constructor
        · rintro (rfl | h | ⟨h1, h2⟩)
          · refine .inr ⟨by simp, fun c hc e => ?_⟩
            rcases List.mem_cons.1 hc with rfl | hc
            · exact hne e
            · have := ha1 c hc
              unfold ltT at this
              have s := cmpE_swap a.e.en x.e.en
              have := cmpE_lt_le (x := a.e.en) (y := c.e.en) (z := x.e.en) this (by omega)
              omega
          · exact .inl h
          · exact .inr ⟨List.mem_cons_of_mem _ h1, h2⟩
        · rintro (h | ⟨h1, h2⟩)
          · exact .inr (.inl h)
          · rcases List.mem_cons.1 h1 with rfl | h1
            · exact .inl rfl
            · exact .inr (.inr ⟨h1, h2⟩)
termination_by a b => a.length + b.length
theorem mg2_rise : ∀ (as1 bs : List Tow), as1.Pairwise ltT → bs.Pairwise ltT → (mg2 as1 bs).Pairwise ltT
  | [], bs, _, hb => by simpa [mg2] using hb
  | a :: as1, [], ha, _ => by simpa [mg2] using ha
  | a :: as1, b :: bs, ha, hb => by
    obtain ⟨ha1, ha2⟩ := List.pairwise_cons.1 ha
    obtain ⟨hb1, hb2⟩ := List.pairwise_cons.1 hb
    unfold mg2
    split
    · next hlt =>
      refine List.pairwise_cons.2 ⟨fun x hx => ?_, mg2_rise as1 (b :: bs) ha2 hb⟩
      rcases (mg2_mem as1 (b :: bs) ha2 hb x).1 hx with h | ⟨h, _⟩
      · exact ha1 x h
      · rcases List.mem_cons.1 h with rfl | h
        · exact hlt
        · have := hb1 x h
          unfold ltT at this ⊢
          exact cmpE_lt_le hlt (by omega)
    · next hlt =>
      split
      · next heq =>
        refine List.pairwise_cons.2 ⟨fun x hx => ?_, mg2_rise as1 bs ha2 hb2⟩
        rcases (mg2_mem as1 bs ha2 hb2 x).1 hx with h | ⟨h, _⟩
        · exact ha1 x h
        · have := hb1 x h
          unfold ltT at this ⊢
          exact cmpE_le_lt (by omega) this
      · next hne =>
        refine List.pairwise_cons.2 ⟨fun x hx => ?_, mg2_rise (a :: as1) bs ha hb2⟩
        have s := cmpE_swap a.e.en b.e.en
        rcases (mg2_mem (a :: as1) bs ha hb2 x).1 hx with h | ⟨h, _⟩
        · rcases List.mem_cons.1 h with rfl | h
          · unfold ltT; omega
          · have := ha1 x h
            unfold ltT at this ⊢
            exact cmpE_lt_le (by omega) (show cmpE a.e.en x.e.en ≤ 0 by omega)
        · exact hb1 x h
termination_by a b => a.length + b.length
/-- One row more. -/
theorem Mg.more {L : List Hd} {h : Hd} {xs : List Tow} (hx : Mg L xs) (hu : h.R.Pairwise ltT) (hno : ∀ h', h' ∈ L → h'.no < h.no) : Mg (L ++ [h]) (mg2 xs h.R) := by
  have mem := mg2_mem xs h.R hx.rise hu
  refine ⟨mg2_rise xs h.R hx.rise hu, fun x hm => ?_, fun g hg y hy => ?_⟩
  · rcases (mem x).1 hm with h1 | ⟨h1, h2⟩
    · obtain ⟨h0, g1, g2, g3⟩ := hx.of x h1
      refine ⟨h0, List.mem_append_left _ g1, g2, fun h' hh' hn => ?_⟩
      rcases List.mem_append.1 hh' with hh' | hh'
      · exact g3 h' hh' hn
      · rw [List.mem_singleton.1 hh'] at hn
        have := hno h0 g1
        omega
    · refine ⟨h, List.mem_append_right _ (by simp), h1, fun h' hh' hn y hy e => ?_⟩
      rcases List.mem_append.1 hh' with hh' | hh'
      · obtain ⟨a, a1, a2⟩ := hx.all h' hh' y hy
        have := @cmpE_sub a.e.en y.e.en x.e.en (by omega) (by omega)
        have s1 := cmpE_swap a.e.en y.e.en
        have s2 := cmpE_swap y.e.en x.e.en
        have s3 := cmpE_swap a.e.en x.e.en
        have := @cmpE_sub x.e.en y.e.en a.e.en (by omega) (by omega)
        exact h2 a a1 (by omega)
      · rw [List.mem_singleton.1 hh'] at hn
        omega
  · rcases List.mem_append.1 hg with hg | hg
    · obtain ⟨a, a1, a2⟩ := hx.all g hg y hy
      exact ⟨a, (mem a).2 (.inl a1), a2⟩
    · rw [List.mem_singleton.1 hg] at hy
      by_cases he : ∃ a, a ∈ xs ∧ cmpE a.e.en y.e.en = 0
      · obtain ⟨a, a1, a2⟩ := he
        exact ⟨a, (mem a).2 (.inl a1), a2⟩
      · exact ⟨y, (mem y).2 (.inr ⟨hy, fun a ha e => he ⟨a, ha, e⟩⟩), cmpE_self _⟩
end Go.Proofs.Ytpgligfolecieaa

/-
  Entries in memory of their own.
-/
namespace Go.Proofs.Ytpgligfolecieaa
open Go.RowKit
set_option maxRecDepth 100000
set_option maxHeartbeats 4000000
/-- Each key lies in a row of its own. -/
def Keyed (w : World) (R : List Tow) : Prop := ∀ x, x ∈ R → ∃ g, x.ka = some ⟨g, 0, none⟩ ∧ RowB w g x.kc x.e.key
theorem Keyed.keep {S : Nat → Prop} {w w' : World} {R : List Tow} (h : Keyed w R) (t : Turns S w w') (hS : ∀ x, x ∈ R → ∀ q, x.bytesIn q → ¬ S q) : Keyed w' R := fun x hx => by
  obtain ⟨g, h1, h2⟩ := h x hx
  exact ⟨g, h1, h2.turns t (hS x hx g (.inl ⟨_, h1, rfl⟩))⟩
theorem ownEntries_any (a : Option Addr) (n c : Nat) (l : List Tow) (w : World) (h : Ents w a l) (hn : n = l.length) (hl : l.length ≤ 100000) (hf : ∀ x, x ∈ l → x.e.key.length ≤ 1000000 ∧ x.e.val.length ≤ 1000000) :
    Calls Try.prog 14 #[.slice a n c] w fun o w' => ∃ v, o = .returned v ∧ ∃ R, ERow w' w.heap.size v R ∧ Shown w' w.heap.size R ∧ R.map (·.e) = l.map (·.e) ∧ Keyed w' R ∧ Below w.heap.size w w' := by
  have HE := hide h
  have HF := hide hf
  have HN := hide hn
  clear h hf hn
  go_enter Try.func14, Try.ntmps14
  go_wp2_with fail
  go_loopw [3, 4] (fun ov iv wr => ∃ (k : Nat) (R : List Tow), iv = .int .i64 (k : Nat) ∧ k ≤ l.length ∧ ERow wr w.heap.size ov R ∧ Shown wr w.heap.size R ∧ R.map (·.e) = (l.take k).map (·.e) ∧ Below w.heap.size w wr ∧ (∀ x, x ∈ R → ∀ q, x.bytesIn q → ¬ inRow ov q) ∧ Keyed wr R) (fun _ iv _ => l.length - (intOf iv).toNat)
  case atStart => exact ⟨0, [], rfl, Nat.zero_le _, .inl ⟨rfl, rfl⟩, fun x hx => (by cases hx), rfl, Below.refl _ _, fun x hx => (by cases hx), fun x hx => (by cases hx)⟩
  case round =>
    obtain ⟨k, R, rfl, hkl, hrow, hsh, hm, hbw, hap, hky⟩ := hrel
    have HAP := hide hap
    have HKY := hide hky
    clear hap hky
    obtain ⟨oa, oc, rfl⟩ := hrow.len
    have hRl : R.length = k := by
      have := congrArg List.length hm
      simp only [List.length_map, List.length_take] at this
      omega
    have HROW := hide hrow
    have HSH := hide hsh
    have HM := hide hm
    have BW := hide hbw
    have HRL := hide hRl
    have hsz := hbw.size
    clear hrow hsh hm hbw hRl
    by_cases h1 : k < l.length
    · have i1 : (k : Int) < (n : Nat) := by have := HN.out; omega
      have i0 : (0 : Int) ≤ (k : Int) := by omega
      obtain ⟨y, hy⟩ : ∃ y, l[k]? = some y := ⟨_, List.getElem?_eq_getElem h1⟩
      obtain ⟨⟨b, off, rfl, hc⟩, k1, k2⟩ := (HE.out.quiet (Turns.of_below BW.out _)) k y hy
      have hyk := HF.out y (List.mem_of_getElem? hy)
      have HTK : Hid ((l.take (k + 1)).map (·.e) = (l.take k).map (·.e) ++ [y.e]) := hide (by rw [List.take_add_one, hy, List.map_append]; rfl)
      obtain ⟨xa, xc, xv, xvc, e⟩ := y
      have c0 : wr.cell? ⟨b, off + k * 4, none⟩ = some (.slice xa e.key.length xc) := hc 0 _ rfl
      have c1 : wr.cell? ⟨b, off + k * 4 + 1, none⟩ = some (.int .u64 (e.seq : Nat)) := hc 1 _ rfl
      have c2 : wr.cell? ⟨b, off + k * 4 + 2, none⟩ = some (.int .i64 e.kind) := hc 2 _ rfl
      have c3 : wr.cell? ⟨b, off + k * 4 + 3, none⟩ = some (.slice xv e.val.length xvc) := hc 3 _ rfl
      have K1 := hide (show Bytes wr (.slice xa e.key.length xc) e.key from k1)
      have K2 := hide (show Bytes wr (.slice xv e.val.length xvc) e.val from k2)
      clear hc k1 k2 hy
      obtain ⟨hkn, hvn⟩ := hyk
      change e.key.length ≤ 1000000 at hkn
      change e.val.length ≤ 1000000 at hvn
      go_upto_region 6 with (fail)
      have HX0 := hide (heap_alloc_new wr (.cells #[.slice xa e.key.length xc, .int .u64 (e.seq : Nat), .int .i64 e.kind, .slice xv e.val.length xvc] 29))
      have T0 := hide ((Turns.refl (fun _ => False) wr).alloc (.cells #[.slice xa e.key.length xc, .int .u64 (e.seq : Nat), .int .i64 e.kind, .slice xv e.val.length xvc] 29))
      have K1 := hide (K1.out.quiet T0.out)
      have K2 := hide (K2.out.quiet T0.out)
      have hgl : wr.heap.size < (wr.alloc (.cells #[.slice xa e.key.length xc, .int .u64 (e.seq : Nat), .int .i64 e.kind, .slice xv e.val.length xvc] 29)).heap.size := by simp
      clear c0 c1 c2 c3
      generalize wr.alloc (.cells #[.slice xa e.key.length xc, .int .u64 (e.seq : Nat), .int .i64 e.kind, .slice xv e.val.length xvc] 29) = wa at *
      generalize hGE : wr.heap.size = g at HX0 hgl ⊢
      have HGE := hide hGE
      clear hGE
      go_cut [16] from 17 to 27 (fun _ wx => ∃ (g1 c1 g2 c2 : Nat), wx.heap[g]? = some (.cells #[.slice (some ⟨g1, 0, none⟩) e.key.length c1, .int .u64 (e.seq : Nat), .int .i64 e.kind, .slice (some ⟨g2, 0, none⟩) e.val.length c2] 29 (0, 0)) ∧ RowB wx g1 c1 e.key ∧ RowB wx g2 c2 e.val ∧ wa.heap.size ≤ g1 ∧ wa.heap.size ≤ g2 ∧ Turns (fun k => k = g) wa wx)
      case first =>
        rename_i kk rest jj kk' m1 m2
        clear rest
        have tV : Turns (fun _ => False) wa wa.drew := (Turns.refl _ _).drew
        have HX := hide HX0.out
        have HK := hide (fun u (t : Turns (fun _ => False) wa u) => K1.out.quiet t)
        have HV := hide (fun u (t : Turns (fun _ => False) wa u) => K2.out.quiet t)
        have SK := hide (fun u (t : Turns (fun _ => False) wa u) => show u.cell? ⟨g, 0, none⟩ = some (.slice xa e.key.length xc) ∧ u.cell? ⟨g, 3, none⟩ = some (.slice xv e.val.length xvc) from ⟨cell_of_row u g 0 _ 29 (0, 0) (t.heap HX0.out (fun x => x)), cell_of_row u g 3 _ 29 (0, 0) (t.heap HX0.out (fun x => x))⟩)
        refine wp_region_x_drew [6, 7, 8, 9] (S := fun w' => w'.cell? ⟨g, 0, none⟩ = some (.slice xa e.key.length xc) ∧ w'.cell? ⟨g, 3, none⟩ = some (.slice xv e.val.length xvc)) (by kernel_rfl) (SK.out _ tV) (fun _ => ?_)
        change wpAnyX _ _ _ _ _ _ 10 (Array.replicate 10 false) _ _
        refine wpAnyX_take (i := 0) (oi := { dst := some 16, op := Op.fieldAddr 29 (Operand.tmp 5) 0, type := 0, pos := "kit.go:54", after := #[], guard := none }) (v := .pointer (some ⟨g, 0, none⟩)) rfl (by kernel_rfl) (by kernel_rfl) (by kernel_rfl) (by kernel_rfl) (by kernel_rfl) (fun _ _ _ h => h) (Or.inl ⟨by rfl, ?_⟩) (SK.out _ tV) ?_
        · rintro w ⟨d0, d3⟩
          go_simp
        simp only [Act.put, List.setIfInBounds_toArray, List.set_cons_zero, List.set_cons_succ]
        refine wpAnyX_take (i := 1) (oi := { dst := some 17, op := Op.load 26 (Operand.tmp 16), type := 26, pos := "kit.go:54", after := #[{ on := 0, ground := Ground.data }], guard := none }) (v := .slice xa e.key.length xc) rfl (by kernel_rfl) (by kernel_rfl) (by kernel_rfl) (by kernel_rfl) (by kernel_rfl) (fun _ _ _ h => h) (Or.inl ⟨by rfl, ?_⟩) (SK.out _ tV) ?_
        · rintro w ⟨d0, d3⟩
          go_simp
        simp only [Act.put, List.setIfInBounds_toArray, List.set_cons_zero, List.set_cons_succ]
        refine wpAnyX_take (i := 3) (oi := { dst := some 19, op := Op.fieldAddr 29 (Operand.tmp 5) 3, type := 0, pos := "kit.go:54", after := #[], guard := none }) (v := .pointer (some ⟨g, 3, none⟩)) rfl (by kernel_rfl) (by kernel_rfl) (by kernel_rfl) (by kernel_rfl) (by kernel_rfl) (fun _ _ _ h => h) (Or.inl ⟨by rfl, ?_⟩) (SK.out _ tV) ?_
        · rintro w ⟨d0, d3⟩
          go_simp
        simp only [Act.put, List.setIfInBounds_toArray, List.set_cons_zero, List.set_cons_succ]
        refine wpAnyX_take (i := 4) (oi := { dst := some 20, op := Op.load 26 (Operand.tmp 19), type := 26, pos := "kit.go:54", after := #[{ on := 3, ground := Ground.data }], guard := none }) (v := .slice xv e.val.length xvc) rfl (by kernel_rfl) (by kernel_rfl) (by kernel_rfl) (by kernel_rfl) (by kernel_rfl) (fun _ _ _ h => h) (Or.inl ⟨by rfl, ?_⟩) (SK.out _ tV) ?_
        · rintro w ⟨d0, d3⟩
          go_simp
        simp only [Act.put, List.setIfInBounds_toArray, List.set_cons_zero, List.set_cons_succ]
        refine wpAnyX_ready (rs := [2]) (by kernel_rfl) (by simp) ?_
        refine AllReadyX.cons rfl (fun K hK => ?_) AllReadyX.nil
        go_simp
        refine (own_any xa e.key.length xc e.key _ (HK.out _ tV) hkn).mono ?_
        rintro o w1 ⟨g1, c1, rfl, hg1, hc1, hrow1, b1⟩
        have tV1 := tV.trans (Turns.of_below b1 (fun _ => False))
        have R1 := hide hrow1
        have HG1 := hide hg1
        clear hrow1 hg1 b1
        go_simp
        refine hK.out _ _ (SK.out _ tV1) (fun _ => ?_)
        clear hK K
        refine wpAnyX_late (i := 6) (oi := { dst := some 22, op := Op.fieldAddr 29 (Operand.tmp 5) 0, type := 0, pos := "kit.go:54", after := #[{ on := 0, ground := Ground.phase }, { on := 1, ground := Ground.phase }, { on := 2, ground := Ground.phase }, { on := 3, ground := Ground.phase }, { on := 4, ground := Ground.phase }, { on := 5, ground := Ground.textOnly Departure.lateStoresUnsure }], guard := none }) (v := .pointer (some ⟨g, 0, none⟩)) rfl (by kernel_rfl) (by kernel_rfl) (by kernel_rfl) (by kernel_rfl) (fun _ _ _ h => h) (Or.inl ⟨by rfl, ?_⟩) ?_
        · rintro w -
          go_simp
        simp only [Act.put, List.setIfInBounds_toArray, List.set_cons_zero, List.set_cons_succ]
        refine wpAnyX_ready (rs := [5]) (by kernel_rfl) (by simp) ?_
        refine AllReadyX.cons rfl (fun K hK => ?_) AllReadyX.nil
        go_simp
        refine (own_any xv e.val.length xvc e.val _ (HV.out _ tV1) hvn).mono ?_
        rintro o w2 ⟨g2, c2, rfl, hg2, hc2, hrow2, b2⟩
        have tV2 := tV1.trans (Turns.of_below b2 (fun _ => False))
        have R1 := hide (R1.out.below b2)
        have R2 := hide hrow2
        have HG2 := hide hg2
        have HB2 := hide b2.size
        clear hrow2 hg2 b2
        go_simp
        refine hK.out _ _ (SK.out _ tV2) (fun _ => ?_)
        clear hK K
        have hbx := tV2.heap HX.out (fun x => x)
        have T1 := hide ((Tick.refl hbx).set 0 (.slice (some ⟨g1, 0, none⟩) e.key.length c1))
        have q0 := cell_of_row _ g 0 _ 29 (0, 0) hbx
        have f0 := frozen_of_row _ g 0 _ 29 hbx
        refine wpAnyX_ready (rs := [7]) (by kernel_rfl) (by simp) ?_
        refine AllReadyX.free rfl (by kernel_rfl) (fun K hK => ?_) AllReadyX.nil
        go_simp
        refine hK.out _ _ ?_
        clear hK K hbx q0 f0
        have T2 := hide (T1.out.set 3 (.slice (some ⟨g2, 0, none⟩) e.val.length c2))
        have q3 := T1.out.cell 3
        have f3 := T1.out.frozen 3
        clear T1
        simp at q3
        generalize w2.setCell ⟨g, 0, none⟩ (.slice (some ⟨g1, 0, none⟩) e.key.length c1) = w3 at *
        refine wpAnyX_late (i := 8) (oi := { dst := some 23, op := Op.fieldAddr 29 (Operand.tmp 5) 3, type := 0, pos := "kit.go:54", after := #[{ on := 0, ground := Ground.phase }, { on := 1, ground := Ground.phase }, { on := 2, ground := Ground.phase }, { on := 3, ground := Ground.phase }, { on := 4, ground := Ground.phase }, { on := 5, ground := Ground.phase }, { on := 6, ground := Ground.phase }, { on := 7, ground := Ground.phase }], guard := none }) (v := .pointer (some ⟨g, 3, none⟩)) rfl (by kernel_rfl) (by kernel_rfl) (by kernel_rfl) (by kernel_rfl) (fun _ _ _ h => h) (Or.inl ⟨by rfl, ?_⟩) ?_
        · rintro w -
          go_simp
        simp only [Act.put, List.setIfInBounds_toArray, List.set_cons_zero, List.set_cons_succ]
        refine wpAnyX_ready (rs := [9]) (by kernel_rfl) (by simp) ?_
        refine AllReadyX.free rfl (by kernel_rfl) (fun K hK => ?_) AllReadyX.nil
        go_simp
        refine hK.out _ _ ?_
        clear hK K q3 f3
        generalize w3.setCell ⟨g, 3, none⟩ (.slice (some ⟨g2, 0, none⟩) e.val.length c2) = w4 at *
        refine wpAnyX_done (by kernel_rfl) ?_ _
        go_wp2_with fail
        go_meet
        have t2 := tV2.size
        have t1 := tV1.size
        have e1 := HG1.out
        have e2 := HG2.out
        have hwd : wa.drew.heap.size = wa.heap.size := rfl
        exact ⟨g1, c1, g2, c2, T2.out.1, R1.out.turns (Turns.of_tick T2.out) (show ¬ g1 = g by omega), R2.out.turns (Turns.of_tick T2.out) (show ¬ g2 = g by omega), by omega, by omega, (tV2.mono fun _ _ x => x.elim).trans (Turns.of_tick T2.out)⟩
      case rest =>
        obtain ⟨g1, c1, g2, c2, hbx, hr1, hr2, hg1, hg2, hT⟩ := hcut
        have d0 := cell_of_row wc g 0 _ 29 (0, 0) hbx
        have d1 := cell_of_row wc g 1 _ 29 (0, 0) hbx
        have d2 := cell_of_row wc g 2 _ 29 (0, 0) hbx
        have d3 := cell_of_row wc g 3 _ 29 (0, 0) hbx
        simp at d0 d1 d2 d3
        have R1 := hide hr1
        have R2 := hide hr2
        have tc : Turns (fun _ => False) wr wc := ⟨hT.os.trans T0.out.os, hT.tape.trans T0.out.tape, hT.output.trans T0.out.output, Nat.le_trans T0.out.size hT.size, fun k hk _ => (hT.block k (Nat.lt_of_lt_of_le hk T0.out.size) (by have := HGE.out; omega)).trans (T0.out.block k hk (fun x => x))⟩
        have ta : Turns (fun _ => False) wr (wc.alloc (.cells #[.slice (some ⟨g1, 0, none⟩) e.key.length c1, .int .u64 (e.seq : Nat), .int .i64 e.kind, .slice (some ⟨g2, 0, none⟩) e.val.length c2] 29)) := tc.alloc _
        obtain ⟨g', n', c', w8, hr8, hrow8, t8, b8, hin8⟩ := append_ent _ w.heap.size (.slice oa R.length oc) R (HROW.out.keep ta (fun _ _ x => x)) (by have := ta.size; omega) (by have := HRL.out; omega) ⟨some ⟨g1, 0, none⟩, c1, some ⟨g2, 0, none⟩, c2, e⟩ wc.heap.size 1 (heap_alloc_new wc _)
        have hq := hr8 31
        have tA := (Turns.refl (fun _ => False) wc).alloc (.cells #[.slice (some ⟨g1, 0, none⟩) e.key.length c1, .int .u64 (e.seq : Nat), .int .i64 e.kind, .slice (some ⟨g2, 0, none⟩) e.val.length c2] 29)
        have hRow : ∀ k, inRow (.slice oa R.length oc) k → w.heap.size ≤ k ∧ k < wr.heap.size := fun k hk => HROW.out.row hk
        have hs8 := t8.size
        have hsA := tA.size
        have l1 : g1 < wc.heap.size := by obtain ⟨cs, h1, _⟩ := R1.out; exact lt_of_heap h1
        have l2 : g2 < wc.heap.size := by obtain ⟨cs, h1, _⟩ := R2.out; exact lt_of_heap h1
        have l3 := T0.out.size
        have l4 := tc.size
        have l5 := HGE.out
        have hnot : ∀ q, wa.heap.size ≤ q → ¬ inRow (.slice oa R.length oc) q := fun q hq hk => by have := (hRow q hk).2; omega
        have hA8 : (wc.alloc (.cells #[.slice (some ⟨g1, 0, none⟩) e.key.length c1, .int .u64 (e.seq : Nat), .int .i64 e.kind, .slice (some ⟨g2, 0, none⟩) e.val.length c2] 29)).heap.size = wc.heap.size + 1 := by simp
        have HS8 := hide (show Shown w8 w.heap.size (R ++ [⟨some ⟨g1, 0, none⟩, c1, some ⟨g2, 0, none⟩, c2, e⟩]) from fun x hx => by
          rcases List.mem_append.1 hx with hx | hx
          · exact ((HSH.out.keep ta (fun _ _ _ _ x => x)).keep t8 (fun y hy q hq => HAP.out y hy q hq)) x hx
          · obtain rfl := List.mem_singleton.1 hx
            refine ⟨((RowB.bytes (c' := c1) R1.out rfl).quiet tA).turns t8 (fun a n c ee => by cases ee; exact hnot g1 hg1), ((RowB.bytes (c' := c2) R2.out rfl).quiet tA).turns t8 (fun a n c ee => by cases ee; exact hnot g2 hg2), fun q hq => ?_⟩
            rcases hq with ⟨a, ee, rfl⟩ | ⟨a, ee, rfl⟩
            · cases ee; exact ⟨by show w.heap.size ≤ g1; omega, by show g1 < w8.heap.size; omega⟩
            · cases ee; exact ⟨by show w.heap.size ≤ g2; omega, by show g2 < w8.heap.size; omega⟩)
        have HAP8 := hide (show ∀ x, x ∈ R ++ [⟨some ⟨g1, 0, none⟩, c1, some ⟨g2, 0, none⟩, c2, e⟩] → ∀ q, x.bytesIn q → ¬ inRow (.slice (some ⟨g', 0, none⟩) n' c') q from fun x hx q hq ⟨n2, c2', ee⟩ => by
          obtain rfl : g' = q := by cases ee; rfl
          rcases List.mem_append.1 hx with hx | hx
          · rcases hin8 with h | h
            · exact HAP.out x hx _ hq h
            · have := ((HSH.out x hx).2.2 _ hq).2
              omega
          · obtain rfl := List.mem_singleton.1 hx
            have hq2 : g' = g1 ∨ g' = g2 := by
              rcases hq with ⟨a, ee, hb⟩ | ⟨a, ee, hb⟩
              · cases ee; exact .inl hb.symm
              · cases ee; exact .inr hb.symm
            rcases hin8 with h | h
            · rcases hq2 with e1 | e1
              · exact hnot _ (by omega) h
              · exact hnot _ (by omega) h
            · omega)
        have HKY8 := hide (show Keyed w8 (R ++ [⟨some ⟨g1, 0, none⟩, c1, some ⟨g2, 0, none⟩, c2, e⟩]) from fun x hx => by
          rcases List.mem_append.1 hx with hx | hx
          · exact ((HKY.out.keep ta (fun _ _ _ _ x => x)).keep t8 (fun y hy q hq => HAP.out y hy q hq)) x hx
          · obtain rfl := List.mem_singleton.1 hx
            exact ⟨g1, rfl, (R1.out.turns tA (fun x => x)).turns t8 (hnot g1 hg1)⟩)
        have HR8 := hide hrow8
        have HM8 := hide (show (R ++ [(⟨some ⟨g1, 0, none⟩, c1, some ⟨g2, 0, none⟩, c2, e⟩ : Tow)]).map (·.e) = (l.take (k + 1)).map (·.e) by rw [HTK.out, List.map_append, HM.out]; rfl)
        have B8 := hide (BW.out.trans ((ta.below hsz (fun _ x => x.elim)).trans b8))
        clear hrow8 t8 b8 hin8 hr8 tA hRow hs8 hsA l1 l2 l3 l4 l5 hnot hA8 ta tc hT hr1 hr2 hbx
        go_wp2_with (at_builtin; refine wpList_append_run rfl _ _ 31 rfl _ _ rfl rfl _ _ hq ?_)
        go_roundw
        case rel =>
          exact ⟨k + 1, _, by go_num, by omega, HR8.out, HS8.out, HM8.out, B8.out, HAP8.out, HKY8.out⟩
        case measure => simp [intOf]; omega
    · have i1 : ¬ (k : Int) < (n : Nat) := by have := HN.out; omega
      go_wp2_with fail
      go_ret
      have hk : k = l.length := by omega
      subst hk
      exact ⟨_, rfl, R, HROW.out, HSH.out, by rw [HM.out, List.take_length], HKY.out, BW.out⟩
end Go.Proofs.Ytpgligfolecieaa

/-
  own: rows in memory of their own.
-/
namespace Go.Proofs.Ytpgligfolecieaa
open Go.RowKit
set_option maxRecDepth 100000
set_option maxHeartbeats 4000000
def rwCells (ps : List Rw) : List Value := ps.map Rw.v
/-- A row of rows, of one's own. -/
def RRow (w : World) (B : Nat) (v : Value) (ps : List Rw) : Prop :=
  (ps = [] ∧ v = .slice none 0 0) ∨ ∃ g c n : Nat, v = .slice (some ⟨g, 0, none⟩) n c ∧ n = ps.length ∧ n ≤ c ∧ B ≤ g ∧ RowC w g 31 c (rwCells ps)
theorem RRow.row {w : World} {B : Nat} {v : Value} {R : List Rw} (h : RRow w B v R) {k : Nat} (hk : inRow v k) : B ≤ k ∧ k < w.heap.size := by
  obtain ⟨n', c', e⟩ := hk
  rcases h with ⟨_, rfl⟩ | ⟨g, c, n, rfl, _, _, hB, cs, h1, _⟩
  · cases e
  · cases e; exact ⟨hB, lt_of_heap h1⟩
theorem RRow.keep {S : Nat → Prop} {w w' : World} {B : Nat} {v : Value} {R : List Rw} (h : RRow w B v R) (t : Turns S w w') (hn : ∀ k, inRow v k → ¬ S k) : RRow w' B v R := by
  rcases h with h | ⟨g, c, n, h1, h2, h3, h4, cs, h5, h6, h7⟩
  · exact .inl h
  · exact .inr ⟨g, c, n, h1, h2, h3, h4, cs, t.heap h5 (hn g ⟨n, c, h1⟩), h6, h7⟩
theorem RRow.len {w : World} {B : Nat} {v : Value} {R : List Rw} (h : RRow w B v R) : ∃ a c, v = .slice a R.length c := by
  rcases h with ⟨rfl, rfl⟩ | ⟨g, c, n, rfl, rfl, _⟩
  · exact ⟨none, 0, rfl⟩
  · exact ⟨_, _, rfl⟩
theorem append_rw (w : World) (B : Nat) (v : Value) (R : List Rw) (h : RRow w B v R) (hB : B ≤ w.heap.size) (hlen : R.length ≤ 1000000000) (x : Rw) (g c : Nat) (hg : w.heap[g]? = some (.cells #[x.v] 31 (0, 0))) :
    ∃ (g' n' c' : Nat) (w' : World), (∀ ty, (Builtin.append_ #[22, 22] ty #[v, .slice (some ⟨g, 0, none⟩) 1 c]).run Try.prog w = .ok (.slice (some ⟨g', 0, none⟩) n' c') w') ∧ RRow w' B (.slice (some ⟨g', 0, none⟩) n' c') (R ++ [x]) ∧ Turns (inRow v) w w' ∧ Below B w w' ∧ (inRow v g' ∨ g' = w.heap.size) := by
  have hcell : ∀ j, w.cell? ⟨g, j, none⟩ = (#[x.v] : Array Value)[j]? := fun j => cell_of_row w g j _ 31 (0, 0) hg
  have hsrc : Src Try.prog Try.t31.size 22 (.slice (some ⟨g, 0, none⟩) 1 c) 1 [x.v] w := Src.ofSlice w Try.underlying22 ⟨g, 0, none⟩ 1 c _ (by rw [t27_size]; rfl) (fun j u hu => by
    rw [Go.WideShapes.add_plain, Nat.zero_add, hcell j]
    simpa using hu) (fun u hu => by
    simp only [List.mem_cons, List.not_mem_nil, or_false] at hu
    subst hu
    rfl)
  obtain ⟨base, sLen, sCap, rfl, hsl, hbase⟩ : ∃ (base : Option Addr) (sLen sCap : Nat), v = .slice base sLen sCap ∧ sLen = R.length ∧ ((base = none ∧ sLen = 0 ∧ sCap = 0 ∧ 0 < 1) ∨ ∃ g, base = some ⟨g, 0, none⟩ ∧ B ≤ g ∧ sLen ≤ sCap ∧ RowC w g 31 (sCap * Try.t31.size) (rwCells R)) := by
    rcases h with ⟨rfl, rfl⟩ | ⟨g, c, n, rfl, rfl, h3, h4, h5⟩
    · exact ⟨none, 0, 0, rfl, rfl, .inl ⟨rfl, rfl, rfl, by omega⟩⟩
    · exact ⟨_, _, _, rfl, rfl, .inr ⟨g, rfl, h4, h3, by rw [t27_size, Nat.mul_one]; exact h5⟩⟩
  obtain ⟨g', cp, w', hr, hg', hrow, hb, hcp, hin, hnew, hkeep⟩ := append_gen2 (P := Try.prog) w B 22 31 Try.t31 _ Try.underlying22 t27_info t27_zero rfl base sLen sCap (rwCells R) (by rw [t27_size, hsl, Nat.mul_one]; simp [rwCells]) _ 1 _ hsrc hB hbase (by rw [t27_bytes]; omega) (by omega)
  refine ⟨g', _, cp, w', hr, .inr ⟨g', cp, _, rfl, by simp [hsl], hcp, hg', ?_⟩, ⟨hb.os, hb.tape, hb.output, hb.size, fun k hk hn => hkeep k hk fun e => hn ⟨sLen, sCap, by rw [e]⟩⟩, hb, ?_⟩
  · rw [t27_size, Nat.mul_one] at hrow
    have e : rwCells (R ++ [x]) = rwCells R ++ [x.v] := by simp [rwCells]
    rw [e]
    exact hrow
  · rcases Nat.lt_or_ge sCap (sLen + 1) with h1 | h1
    · exact .inr (hnew h1)
    · exact .inl ⟨sLen, sCap, by rw [(hin h1).1]⟩
/-- Entries of one's own lie there. -/
theorem ents_of {w : World} {B : Nat} {v : Value} {R : List Tow} (h : ERow w B v R) (hs : Shown w B R) : ∃ a c, v = .slice a R.length c ∧ Ents w a R ∧ R.length ≤ c ∧ (a = none → c = 0) := by
  by_cases hne : R = []
  · subst hne
    rcases h with ⟨_, rfl⟩ | ⟨g, c, n, rfl, rfl, h3, _⟩
    · exact ⟨none, 0, rfl, fun k x hx => by simp at hx, by simp, fun _ => rfl⟩
    · exact ⟨_, _, rfl, fun k x hx => by simp at hx, h3, fun e => by cases e⟩
  · obtain ⟨g, c, rfl, hc⟩ := h.at hne
    have hcap : R.length ≤ c := by
      rcases h with ⟨e, _⟩ | ⟨g', c', n', e, rfl, h3, _⟩
      · exact absurd e hne
      · cases e; exact h3
    refine ⟨_, c, rfl, fun k x hx => ⟨⟨g, 0, rfl, fun j u hu => ?_⟩, (hs x (List.mem_of_getElem? hx)).1, (hs x (List.mem_of_getElem? hx)).2.1⟩, hcap, fun e => by cases e⟩
    obtain ⟨c0, c1, c2, c3⟩ := hc k x hx
    rw [Nat.zero_add]
    match j, hu with
    | 0, hu => obtain rfl : x.kv = u := by simpa using hu
               exact c0
    | 1, hu => obtain rfl : Value.int .u64 (x.e.seq : Nat) = u := by simpa using hu
               exact c1
    | 2, hu => obtain rfl : Value.int .i64 x.e.kind = u := by simpa using hu
               exact c2
    | 3, hu => obtain rfl : x.vv = u := by simpa using hu
               exact c3
    | j + 4, hu => simp at hu
/-- Rows of one's own, apart from the row v. -/
def Owned (w : World) (B : Nat) (v : Value) (ps : List Rw) : Prop := ∀ x, x ∈ ps → ERow w B x.v x.R ∧ Shown w B x.R ∧ (x.a = none → x.c = 0) ∧ x.R.length ≤ x.c ∧ (∀ k, inRow x.v k → ¬ inRow v k) ∧ ∀ t, t ∈ x.R → ∀ q, t.bytesIn q → ¬ inRow v q
def entR (rs : List Rw) : List (List Ent) := rs.map fun x => x.R.map (·.e)
theorem entR_sum (rs : List Rw) : sumR rs = ((entR rs).map List.length).sum := by simp [sumR, entR, Function.comp_def]
theorem Owned.rows {w : World} {B : Nat} {v : Value} {ps : List Rw} (h : RRow w B v ps) (ho : Owned w B v ps) (hs : ∀ x, x ∈ ps → x.R.length ≤ 1000000) : ∃ a c, v = .slice a ps.length c ∧ RowsIn w a ps := by
  have hok : ∀ x, x ∈ ps → RwOk w x := fun x hx => by
    obtain ⟨h1, h2, _, h4, _⟩ := ho x hx
    obtain ⟨a, c, e, h5, _⟩ := ents_of h1 h2
    cases e
    exact ⟨h5, h4, hs x hx⟩
  rcases h with ⟨rfl, rfl⟩ | ⟨g, c, n, rfl, rfl, h3, h4, cs, h5, h6, h7⟩
  · exact ⟨none, 0, rfl, fun k x hx => by simp at hx⟩
  · refine ⟨_, c, rfl, fun k x hx => ⟨⟨g, 0, rfl, ?_⟩, hok x (List.mem_of_getElem? hx)⟩⟩
    have hk := (List.getElem?_eq_some_iff.1 hx).1
    rw [Nat.zero_add, cell_of_row w g k cs 31 (0, 0) h5, h7 k (by simpa [rwCells] using hk)]
    simp only [rwCells, List.getElem?_map, hx, Option.map_some]
    rfl
theorem le_sum : ∀ {l : List Nat} {x : Nat}, x ∈ l → x ≤ l.sum
  | y :: r, x, h => by
    rw [List.sum_cons]
    rcases List.mem_cons.1 h with rfl | h
    · omega
    · have := le_sum h
      omega
/-- Rows of which not too much is asked. -/
structure Few (rs : List Rw) : Prop where
  rows : rs.length ≤ 20
  all : sumR rs ≤ 150
  bytes : wAll rs ≤ 15000
theorem Few.each {rs : List Rw} (h : Few rs) : ∀ x, x ∈ rs → x.R.length ≤ 150 ∧ ∀ y, y ∈ x.R → y.e.key.length ≤ 15000 ∧ y.e.val.length ≤ 15000 := fun x hx => by
  have h1 : x.R.length ≤ sumR rs := le_sum (List.mem_map.2 ⟨x, hx, rfl⟩)
  have h2 : weigh x.R ≤ wAll rs := le_sum (List.mem_map.2 ⟨x, hx, rfl⟩)
  have := h.all
  have := h.bytes
  refine ⟨by omega, fun y hy => ?_⟩
  have := weigh_mem hy
  omega
end Go.Proofs.Ytpgligfolecieaa
