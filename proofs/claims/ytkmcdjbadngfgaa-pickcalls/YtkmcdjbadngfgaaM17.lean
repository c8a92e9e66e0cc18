import Derived.Test.YtkmcdjbadngfgaaM16
import Derived.Lib.SlBytesConst
import Derived.Lib.ConvBytes
/-
  The law's files, versions and setup.
-/
namespace Go.Proofs.Ytkmcdjbadngfgaa
open Go.RowKit
set_option maxRecDepth 100000
set_option maxHeartbeats 4000000
/-- A text's bytes. -/
def bsOf (s : ByteArray) : List (BitVec 8) := s.data.toList.map fun u => BitVec.ofNat 8 u.toNat
theorem conv_new (s : ByteArray) (w : World) : ∃ c w', (convert 9 27 (.string s)).run Try.prog w = .ok (.slice (some ⟨w.heap.size, 0, none⟩) s.size c) w' ∧ Bytes w' (.slice (some ⟨w.heap.size, 0, none⟩) s.size c) (bsOf s) ∧ s.size ≤ c ∧ Below w.heap.size w w' := by
  refine ⟨_, _, Lib.run_convert_string_bytes w 9 27 5 s Try.underlying9 Try.underlying27 Try.underlying5, ⟨_, _, by simp [bsOf]; rfl, fun k hk => ⟨w.heap.size, 0, rfl, ?_⟩⟩, grownCap_ge _ _ _ _, ⟨rfl, rfl, rfl, by rw [Lib.bytesWorld_size]; omega, fun k hk => Lib.bytesWorld_at_old w 5 s k hk⟩⟩
  have hk' : k < s.data.toList.length := by simpa [bsOf] using hk
  rw [Nat.zero_add, Lib.bytesWorld_cell w 5 s k (by simpa using hk')]
  have h1 : s.data.toList.getD k 0 = s.data.toList[k] := by simp [List.getD, List.getElem?_eq_getElem hk']
  have h2 : (bsOf s).getD k 0 = BitVec.ofNat 8 (s.data.toList[k]).toNat := by
    simp only [bsOf, List.getD, List.getElem?_map, List.getElem?_eq_getElem hk', Option.map_some, Option.getD_some]
  rw [h1, h2]
  have := (s.data.toList[k]).toNat_lt
  congr 2
  simp only [BitVec.toNat_ofNat]
  omega
theorem bsOf_length (s : ByteArray) : (bsOf s).length = s.size := by simp [bsOf]
theorem file_any (no : Nat) (sz : Int) (s t : ByteArray) (w : World) : Calls Try.prog 7 #[.int .u64 (no : Nat), .int .i64 sz, .string s, .string t] w fun e w' => ∃ x : Tf, e = .returned x.agg ∧ x.f = ⟨no, sz, bsOf s, bsOf t, 1, 1⟩ ∧ FB w' x ∧ Turns (fun _ => False) w w' := by
  have n0 := heap_alloc_new w (.cells #[.int .u64 0, .int .i64 0, .slice none 0 0, .slice none 0 0, .int .i64 0, .int .u64 0] 29)
  have b0 := (Below.refl w.heap.size w).alloc (Nat.le_refl _) (.cells #[.int .u64 0, .int .i64 0, .slice none 0 0, .slice none 0 0, .int .i64 0, .int .u64 0] 29)
  obtain ⟨c1, w1, hc1, hy1, hcap1, b1⟩ := conv_new s (w.alloc (.cells #[.int .u64 0, .int .i64 0, .slice none 0 0, .slice none 0 0, .int .i64 0, .int .u64 0] 29))
  obtain ⟨c2, w2, hc2, hy2, _, b2⟩ := conv_new t w1
  have HN := hide (heap_keep b2 (heap_keep b1 n0))
  have HY1 := hide (hy1.below b2)
  have HY2 := hide hy2
  have hs1 := b1.size
  rw [World.size_alloc] at hc1 HY1 hs1
  have B2 := hide ((b0.trans (b1.mono b0.size)).trans (b2.mono (Nat.le_trans b0.size b1.size)))
  clear n0 b0 hy1 b1 hy2 b2
  go_enter Try.func7, Try.ntmps7
  go_wp2_with (refine wpList_store_row rfl 29 _ _ rfl _ _ rfl rfl _ _ HN.out ?_ ?_ ?_ ?_; (exact sz37); (simp only [List.size_toArray, List.length_cons, List.length_nil]); (simp [Value.oneCell']))
  have tr : Turns (fun j => j = w.heap.size) w2 (w2.setRow w.heap.size #[.int .u64 (no : Nat), .int .i64 sz, .slice (some ⟨w.heap.size + 1, 0, none⟩) s.size c1, .slice (some ⟨w1.heap.size, 0, none⟩) t.size c2, .int .i64 1, .int .u64 1]) := ⟨rfl, rfl, rfl, by simp, fun k _ hk => setRow_other _ _ _ _ hk⟩
  refine bodyPost_ret (v := .agg #[.int .u64 (no : Nat), .int .i64 sz, .slice (some ⟨w.heap.size + 1, 0, none⟩) s.size c1, .slice (some ⟨w1.heap.size, 0, none⟩) t.size c2, .int .i64 1, .int .u64 1]) ?_ rfl ?_
  · exact results_cell_row Try.results7 _ _ _ _ _ _ _ rfl (setRow_heap _ _ _ _ _ _ HN.out) Try.underlying29 rfl sz37
  · refine ⟨⟨some ⟨w.heap.size + 1, 0, none⟩, c1, some ⟨w1.heap.size, 0, none⟩, c2, ⟨no, sz, bsOf s, bsOf t, 1, 1⟩⟩, by simp only [Tf.agg, bsOf_length]; rfl, rfl, ⟨?_, ?_⟩, (Turns.of_below B2.out _).andThen tr fun j hj e => by omega⟩
    · simp only [bsOf_length]
      exact HY1.out.turns tr (fun a n c e => by cases e; show ¬ w.heap.size + 1 = w.heap.size; omega)
    · simp only [bsOf_length]
      exact HY2.out.turns tr (fun a n c e => by cases e; show ¬ w1.heap.size = w.heap.size; omega)
theorem sz35 : (Try.prog.info? 35).map (·.size) = some 3 := by kernel_rfl
theorem sz25 : (Try.prog.info? 25).map (·.size) = some 4 := by kernel_rfl
theorem setup_any (w : World) : Calls Try.prog 10 #[] w fun e w' => e = .returned (setAgg 2 100 10) ∧ Turns (fun _ => False) w w' := by
  have R0 := hide (heap_alloc_new w (.cells #[.int .i64 0, .int .i64 0, .int .i64 0] 35))
  have T0 := hide ((Turns.refl (fun _ => False) w).alloc (.cells #[.int .i64 0, .int .i64 0, .int .i64 0] 35))
  unfold setAgg
  go_enter Try.func10, Try.ntmps10
  go_wp2_with (refine wpList_store_row rfl 35 _ _ rfl _ _ rfl rfl _ _ R0.out ?_ ?_ ?_ ?_; (exact sz35); (simp only [List.size_toArray, List.length_cons, List.length_nil]); (simp [Value.oneCell']))
  refine bodyPost_ret (v := .agg #[.int .i64 2, .int .i64 100, .int .i64 10]) ?_ rfl ?_
  · exact results_cell_row Try.results10 _ _ _ _ _ _ _ rfl (setRow_heap _ _ _ _ _ _ R0.out) Try.underlying35 rfl sz35
  · exact ⟨rfl, T0.out.andThen (turns_setRow _ _ _) fun j hj e => by omega⟩
theorem version_any (a0 a1 : Option Addr) (n0 n1 c0 c1 : Nat) (w : World) : Calls Try.prog 6 #[.slice a0 n0 c0, .slice a1 n1 c1] w fun e w' => ∃ g, e = .returned (verAgg (some ⟨g, 0, none⟩) 5 5 9 0 0) ∧ w'.heap[g]? = some (.cells #[.slice a0 n0 c0, .slice a1 n1 c1, .slice none 0 0, .slice none 0 0, .slice none 0 0] 31 (0, 0)) ∧ Turns (fun _ => False) w w' := by
  have T1 := hide (((Turns.refl (fun _ => False) w).alloc (.cells #[.slice none 0 0, .int .u64 0, .int .u64 0, .int .u64 0] 25)).alloc (.cells #[.slice a0 n0 c0, .slice a1 n1 c1, .slice none 0 0, .slice none 0 0, .slice none 0 0] 31))
  have N1 := hide (((Turns.refl (fun _ => False) (w.alloc (.cells #[.slice none 0 0, .int .u64 0, .int .u64 0, .int .u64 0] 25))).alloc (.cells #[.slice a0 n0 c0, .slice a1 n1 c1, .slice none 0 0, .slice none 0 0, .slice none 0 0] 31)).heap (heap_alloc_new w _) (fun x => x))
  have N2 := hide (heap_alloc_new (w.alloc (.cells #[.slice none 0 0, .int .u64 0, .int .u64 0, .int .u64 0] 25)) (.cells #[.slice a0 n0 c0, .slice a1 n1 c1, .slice none 0 0, .slice none 0 0, .slice none 0 0] 31))
  simp only [World.size_alloc] at N2
  unfold verAgg
  go_enter Try.func6, Try.ntmps6
  go_wp2_with (refine wpList_store_row rfl 25 _ _ rfl _ _ rfl rfl _ _ N1.out ?_ ?_ ?_ ?_; (exact sz25); (simp only [List.size_toArray, List.length_cons, List.length_nil]); (simp [Value.oneCell']))
  refine bodyPost_ret (v := .agg #[.slice (some ⟨w.heap.size + 1, 0, none⟩) 5 5, .int .u64 9, .int .u64 0, .int .u64 0]) ?_ rfl ?_
  · exact results_cell_row Try.results6 _ _ _ _ _ _ _ rfl (setRow_heap _ _ _ _ _ _ N1.out) Try.underlying25 rfl sz25
  · exact ⟨w.heap.size + 1, rfl, (turns_setRow _ _ _).heap N2.out (show ¬ w.heap.size + 1 = w.heap.size by omega), T1.out.andThen (turns_setRow _ _ _) fun j hj e => by omega⟩
/-- A version of two levels, in memory. -/
theorem two_in {w : World} {g : Nat} {a0 a1 : Option Addr} {c0 c1 : Nat} {l0 l1 : List Tf} (hg : w.heap[g]? = some (.cells #[.slice a0 l0.length c0, .slice a1 l1.length c1, .slice none 0 0, .slice none 0 0, .slice none 0 0] 31 (0, 0))) (h0 : Fils w a0 l0) (h1 : Fils w a1 l1) (hc : l0.length + l1.length ≤ 10) (hb : ∀ y ∈ l0 ++ l1, y.f.no < 100 ∧ y.f.least.length ≤ 10 ∧ y.f.most.length ≤ 10) :
    VerIn w (some ⟨g, 0, none⟩) 5 [⟨a0, c0, l0⟩, ⟨a1, c1, l1⟩, ⟨none, 0, []⟩, ⟨none, 0, []⟩, ⟨none, 0, []⟩] 9 0 0 := by
  have hc' := fun j => cell_of_row w g j _ 31 (0, 0) hg
  have hbl : ∀ l : List Tf, (∀ y ∈ l, y.f.no < 100 ∧ y.f.least.length ≤ 10 ∧ y.f.most.length ≤ 10) → (l.map keyB).sum ≤ l.length * 20 := by
    intro l
    induction l with
    | nil => intro _; simp
    | cons y r ih =>
      intro h
      have h1 := ih fun z hz => h z (List.mem_cons_of_mem _ hz)
      have h2 := h y List.mem_cons_self
      simp only [List.map_cons, List.sum_cons, List.length_cons, keyB]
      omega
  have hb0 := hbl l0 fun y hy => hb y (List.mem_append_left _ hy)
  have hb1 := hbl l1 fun y hy => hb y (List.mem_append_right _ hy)
  refine ⟨fun k x hx => ?_, rfl, by simp only [cnt, List.map_cons, List.map_nil, List.sum_cons, List.sum_nil, List.length_nil]; omega, by simp only [byts, List.map_cons, List.map_nil, List.sum_cons, List.sum_nil]; omega, fun x hx y hy => ?_, by omega, by omega, by omega⟩
  · have hk := (List.getElem?_eq_some_iff.1 hx).1
    simp only [List.length_cons, List.length_nil] at hk
    have nil : ∀ u, Fils u none [] := fun u k x hx => by simp at hx
    rcases (by omega : k = 0 ∨ k = 1 ∨ k = 2 ∨ k = 3 ∨ k = 4) with rfl | rfl | rfl | rfl | rfl
    · cases hx; exact ⟨⟨g, 0, rfl, hc' _⟩, h0⟩
    · cases hx; exact ⟨⟨g, 0, rfl, hc' _⟩, h1⟩
    · cases hx; exact ⟨⟨g, 0, rfl, hc' _⟩, nil _⟩
    · cases hx; exact ⟨⟨g, 0, rfl, hc' _⟩, nil _⟩
    · cases hx; exact ⟨⟨g, 0, rfl, hc' _⟩, nil _⟩
  · simp only [List.mem_cons, List.not_mem_nil, or_false] at hx
    rcases hx with rfl | rfl | rfl | rfl | rfl
    · have := hb y (List.mem_append_left _ hy); omega
    · have := hb y (List.mem_append_right _ hy); omega
    all_goals simp at hy
end Go.Proofs.Ytkmcdjbadngfgaa

/-
  The chapter's examples: what Next answers there; lives.
-/
namespace Go.Proofs.Ytkmcdjbadngfgaa
open Go.RowKit
set_option maxRecDepth 100000
set_option maxHeartbeats 4000000
def bs1 (k : Nat) : List (BitVec 8) := [BitVec.ofNat 8 k]
def exF (no : Nat) (sz : Int) (a b : Nat) : Fl := ⟨no, sz, bs1 a, bs1 b, 1, 1⟩
def exV (l0 l1 : List Fl) : List (List Fl) := [l0, l1, [], [], []]
instance (l : List Fl) (lo hi : List (BitVec 8)) : Decidable (Closed l lo hi) := by unfold Closed; exact inferInstance
instance (a b : List (BitVec 8)) : Decidable (cle a b) := by unfold cle; exact inferInstance
theorem ex1 : wrongVF (exV [exF 1 9 97 99, exF 2 9 120 122] []) 9 0 0 = false ∧ setBad 2 100 10 = false ∧ dueP (scoresL (exV [exF 1 9 97 99, exF 2 9 120 122] []) 2 100 10) = (0, true) := by decide
theorem ex2 : wrongVF (exV [exF 1 9 97 99, exF 2 9 98 100, exF 3 9 100 101] []) 9 0 0 = false ∧ dueP (scoresL (exV [exF 1 9 97 99, exF 2 9 98 100, exF 3 9 100 101] []) 2 100 10) = (0, true) := by decide
theorem ex3 : wrongVF (exV [] [exF 1 250 97 98]) 9 0 0 = false ∧ dueP (scoresL (exV [] [exF 1 250 97 98]) 2 100 10) = (1, true) := by decide
theorem ex4 : wrongVF (exV [] [exF 1 99 97 98]) 9 0 0 = false ∧ dueP (scoresL (exV [] [exF 1 99 97 98]) 2 100 10) = (0, false) := by decide
theorem fls_len {R : List Tf} {U : List Fl} (h : fls R = U) : R.length = U.length := by rw [← h]; simp [fls]
theorem files_at {LL : List (List Fl)} {next seq log : Nat} {t : Nat} {l : List Fl} (h : wrongVF LL next seq log = false) (ht : t < 5) (hl : LL[t]? = some l) : filesF LL next seq log (t : Nat) = l := by
  unfold filesF goodLev
  rw [h, decide_eq_true (show (0 : Int) ≤ (t : Nat) by omega), decide_eq_true (show ((t : Nat) : Int) < 5 by omega)]
  simp [List.getD, hl]
/-- A job of level 0: what its two lists have. -/
theorem job0 {l0 : List Fl} {f0 : Fl} {k : Nat} (lo' hi' : List (BitVec 8)) {w : World} {B : Nat} {v : Value} {e : Int} (h : NextOut (exV l0 []) 9 0 0 2 100 10 w B v e) (h1 : wrongVF (exV l0 []) 9 0 0 = false) (h3 : dueP (scoresL (exV l0 []) 2 100 10) = (0, true)) (hf : l0[0]? = some f0)
    (hcl : Closed l0 lo' hi' ∧ cle lo' f0.least ∧ cle f0.most hi')
    (hlen : ∀ f ∈ l0, ∀ g ∈ l0, Closed l0 f.least g.most → cle f.least f0.least → cle f0.most g.most → cle lo' f.least → cle g.most hi' → (l0.filter (overF f.least g.most)).length = k) :
    e = 0 ∧ ∃ (z : Int) (ua va a1 a2 : Option Addr) (uc vc n1 c1 n2 c2 : Nat) (bt : Bool), v = .agg #[.int .i64 z, .slice ua k uc, .slice va 0 vc, .slice a1 n1 c1, .slice a2 n2 c2, .bool bt] := by
  have h2 : setBad 2 100 10 = false := by decide
  rcases h with ⟨hw, _⟩ | ⟨_, hd, _⟩ | ⟨_, _, rfl, z, lo, hi, U, LW, least, most, bot, hz, hdz, hj, ua, va, uc, vc, R1, R2, a1, a2, c1, c2, rfl, hr1, hr2, _⟩
  · rw [h1, h2] at hw; cases hw
  · rw [h3] at hd; cases hd
  · rw [h3] at hdz
    obtain rfl : z = 0 := by simp at hdz; omega
    have hup := hj.up
    unfold UpP at hup
    rw [if_pos (show ((0 : Nat) : Int) = 0 from rfl)] at hup
    obtain ⟨g0, hf0, hg, hc⟩ := hup
    rw [show (exV l0 []).getD 0 [] = l0 from rfl] at hf0 hg hc
    rw [hf] at hf0
    cases hf0
    obtain ⟨f, hf, hlo⟩ := hg.lom
    obtain ⟨g, hg2, hhi⟩ := hg.him
    have hh := hg.hold
    have hU := hj.hU
    have hL := hj.hL
    rw [files_at h1 (by omega) (show (exV l0 [])[0]? = some l0 from rfl)] at hU
    rw [show ((0 : Nat) : Int) + 1 = ((1 : Nat) : Int) from rfl, files_at h1 (by omega) (show (exV l0 [])[1]? = some [] from rfl)] at hL
    subst hlo hhi
    have hle := hg.least lo' hi' hcl.1 hcl.2.1 hcl.2.2
    have hk := hlen f hf g hg2 hc hh.1 hh.2 hle.1 hle.2
    have n1 : R1.length = k := by rw [fls_len hr1.2.1, hU, hk]
    have n2 : R2.length = 0 := by rw [fls_len hr2.2.1, hL]; rfl
    rw [n1, n2]
    exact ⟨rfl, _, ua, va, a1, a2, uc, vc, _, c1, _, c2, bot, rfl⟩
theorem job1 {w : World} {B : Nat} {v : Value} {e : Int} (h : NextOut (exV [exF 1 9 97 99, exF 2 9 120 122] []) 9 0 0 2 100 10 w B v e) : e = 0 ∧ ∃ (z : Int) (ua va a1 a2 : Option Addr) (uc vc n1 c1 n2 c2 : Nat) (bt : Bool), v = .agg #[.int .i64 z, .slice ua 1 uc, .slice va 0 vc, .slice a1 n1 c1, .slice a2 n2 c2, .bool bt] := job0 (k := 1) (bs1 97) (bs1 99) h ex1.1 ex1.2.2 rfl (by decide) (by decide)
theorem job2 {w : World} {B : Nat} {v : Value} {e : Int} (h : NextOut (exV [exF 1 9 97 99, exF 2 9 98 100, exF 3 9 100 101] []) 9 0 0 2 100 10 w B v e) : e = 0 ∧ ∃ (z : Int) (ua va a1 a2 : Option Addr) (uc vc n1 c1 n2 c2 : Nat) (bt : Bool), v = .agg #[.int .i64 z, .slice ua 3 uc, .slice va 0 vc, .slice a1 n1 c1, .slice a2 n2 c2, .bool bt] := job0 (k := 3) (bs1 97) (bs1 101) h ex2.1 ex2.2 rfl (by decide) (by decide)
theorem job3 {w : World} {B : Nat} {v : Value} {e : Int} (h : NextOut (exV [] [exF 1 250 97 98]) 9 0 0 2 100 10 w B v e) :
    e = 0 ∧ ∃ (ua va a1 a2 : Option Addr) (n3 uc n4 vc n1 c1 n2 c2 : Nat), v = .agg #[.int .i64 1, .slice ua n3 uc, .slice va n4 vc, .slice a1 n1 c1, .slice a2 n2 c2, .bool true] := by
  have h2 : setBad 2 100 10 = false := by decide
  obtain ⟨h1, h3⟩ := ex3
  rcases h with ⟨hw, _⟩ | ⟨_, hd, _⟩ | ⟨_, _, rfl, z, lo, hi, U, LW, least, most, bot, hz, hdz, hj, ua, va, uc, vc, R1, R2, a1, a2, c1, c2, rfl, hr1, hr2, _⟩
  · rw [h1, h2] at hw; cases hw
  · rw [h3] at hd; cases hd
  · rw [h3] at hdz
    obtain rfl : z = 1 := by simp at hdz; omega
    have hb : bot = true := by
      rw [hj.hb]
      unfold deepF
      rw [h1]
      rfl
    subst hb
    exact ⟨rfl, ua, va, a1, a2, _, uc, _, vc, _, c1, _, c2, rfl⟩
theorem job4 {w : World} {B : Nat} {v : Value} {e : Int} (h : NextOut (exV [] [exF 1 99 97 98]) 9 0 0 2 100 10 w B v e) : e = 6 ∧ v = zeroJob := by
  have h2 : setBad 2 100 10 = false := by decide
  obtain ⟨h1, h3⟩ := ex4
  rcases h with ⟨hw, _⟩ | ⟨_, _, he, hv⟩ | ⟨_, hd, _⟩
  · rw [h1, h2] at hw; cases hw
  · exact ⟨he, hv⟩
  · rw [h3] at hd; cases hd
theorem file1_any (no : Nat) (sz : Int) (a b : UInt8) (w : World) : Calls Try.prog 7 #[.int .u64 (no : Nat), .int .i64 sz, .string ⟨#[a]⟩, .string ⟨#[b]⟩] w fun e w' => ∃ (la : Option Addr) (lc : Nat) (ma : Option Addr) (mc : Nat), e = .returned (.agg #[.int .u64 (no : Nat), .int .i64 sz, .slice la 1 lc, .slice ma 1 mc, .int .i64 1, .int .u64 1]) ∧ FB w' ⟨la, lc, ma, mc, ⟨no, sz, [BitVec.ofNat 8 a.toNat], [BitVec.ofNat 8 b.toNat], 1, 1⟩⟩ ∧ Turns (fun _ => False) w w' := by
  refine (file_any no sz ⟨#[a]⟩ ⟨#[b]⟩ w).mono ?_
  rintro e w' ⟨⟨la, lc, ma, mc, f⟩, rfl, hf, hfb, t⟩
  simp only at hf
  subst hf
  exact ⟨la, lc, ma, mc, rfl, hfb, t⟩
theorem fils_lit {w : World} {g : Nat} {R : List Tf} (h : w.heap[g]? = some (.cells (flCells R).toArray 29 (0, 0))) (hb : ∀ x ∈ R, FB w x) : Fils w (some ⟨g, 0, none⟩) R :=
  fils_of_row (c := R.length) ⟨_, h, by simp [flCells_length], fun k hk => by simp⟩ hb
theorem fils_nil (w : World) : Fils w none [] := fun k x hx => by simp at hx
theorem lives_any (w : World) : Calls Try.prog 8 #[] w fun e w' => e = .returned (.bool true) ∧ Turns (fun _ => False) w w' := by
  have FI := hide file1_any
  have VE := hide version_any
  have SE := hide setup_any
  have T := hide (Turns.refl (fun _ => False) w)
  go_enter Try.func8, Try.ntmps8
  go_wp2_with fail
  refine (FI.out 1 9 97 99 _).mono ?_
  rintro e w1 ⟨la00, lc00, ma00, mc00, rfl, hb, t⟩
  replace T := hide (T.out.trans t)
  have B00 := hide hb
  clear hb t
  go_wp2_with fail
  refine (FI.out 2 9 120 122 _).mono ?_
  rintro e w2 ⟨la01, lc01, ma01, mc01, rfl, hb, t⟩
  replace T := hide (T.out.trans t)
  replace B00 := hide (B00.out.quiet t)
  have B01 := hide hb
  clear hb t
  go_wp2_with fail
  have tA : Turns (fun _ => False) w2 (w2.alloc (.cells #[.int .u64 1, .int .i64 9, .slice la00 1 lc00, .slice ma00 1 mc00, .int .i64 1, .int .u64 1, .int .u64 2, .int .i64 9, .slice la01 1 lc01, .slice ma01 1 mc01, .int .i64 1, .int .u64 1] 29)) := (Turns.refl _ _).alloc _
  have HF := hide (fils_lit (R := [⟨la00, lc00, ma00, mc00, exF 1 9 97 99⟩, ⟨la01, lc01, ma01, mc01, exF 2 9 120 122⟩]) (show (w2.alloc (.cells #[.int .u64 1, .int .i64 9, .slice la00 1 lc00, .slice ma00 1 mc00, .int .i64 1, .int .u64 1, .int .u64 2, .int .i64 9, .slice la01 1 lc01, .slice ma01 1 mc01, .int .i64 1, .int .u64 1] 29)).heap[w2.heap.size]? = some (.cells (flCells [⟨la00, lc00, ma00, mc00, exF 1 9 97 99⟩, ⟨la01, lc01, ma01, mc01, exF 2 9 120 122⟩]).toArray 29 (0, 0)) from heap_alloc_new w2 (.cells #[.int .u64 1, .int .i64 9, .slice la00 1 lc00, .slice ma00 1 mc00, .int .i64 1, .int .u64 1, .int .u64 2, .int .i64 9, .slice la01 1 lc01, .slice ma01 1 mc01, .int .i64 1, .int .u64 1] 29)) (fun x hx => by
    simp only [List.mem_cons, List.not_mem_nil, or_false] at hx
    rcases hx with rfl | rfl
    · exact B00.out.quiet tA
    · exact B01.out.quiet tA))
  refine (VE.out (some ⟨w2.heap.size, 0, none⟩) none 2 0 2 0 _).mono ?_
  rintro e w3 ⟨g0, rfl, hg, t⟩
  replace T := hide ((T.out.trans tA).trans t)
  replace HF := hide (HF.out.quiet t)
  have HV := hide (two_in (l0 := [⟨la00, lc00, ma00, mc00, exF 1 9 97 99⟩, ⟨la01, lc01, ma01, mc01, exF 2 9 120 122⟩]) (l1 := []) hg HF.out (fils_nil _) (by simp) (fun y hy => by
    simp only [List.mem_append, List.mem_cons, List.not_mem_nil, or_false] at hy
    rcases hy with rfl | rfl
    all_goals exact ⟨Nat.le_of_ble_eq_true rfl, Nat.le_of_ble_eq_true rfl, Nat.le_of_ble_eq_true rfl⟩))
  clear hg t tA HF B00 B01
  go_wp2_with fail
  refine (SE.out _).mono ?_
  rintro e w4 ⟨rfl, t⟩
  replace T := hide (T.out.trans t)
  replace HV := hide (HV.out.quiet t)
  clear t
  go_wp2_with fail
  refine (next_any _ _ _ _ _ _ _ 2 100 10 _ HV.out).mono ?_
  rintro e w5 ⟨v, er, rfl, ho, t⟩
  obtain ⟨rfl, z0, ua0, va0, pa0, qa0, uc0, vc0, m0, pc0, k0, qc0, bt0, rfl⟩ := job1 (show NextOut (exV [exF 1 9 97 99, exF 2 9 120 122] []) 9 0 0 2 100 10 _ _ _ _ from ho)
  replace T := hide (T.out.trans t)
  clear ho t HV
  go_wp2_with fail
  refine (FI.out 1 9 97 99 _).mono ?_
  rintro e w6 ⟨la10, lc10, ma10, mc10, rfl, hb, t⟩
  replace T := hide ((T.out.alloc (.cells #[.int .i64 z0, .slice ua0 1 uc0, .slice va0 0 vc0, .slice pa0 m0 pc0, .slice qa0 k0 qc0, .bool bt0] 43)).trans t)
  have J1 := hide (t.heap (heap_alloc_new w5 (.cells #[.int .i64 z0, .slice ua0 1 uc0, .slice va0 0 vc0, .slice pa0 m0 pc0, .slice qa0 k0 qc0, .bool bt0] 43)) (fun x => x))
  have B10 := hide hb
  clear hb t
  go_wp2_with fail
  refine (FI.out 2 9 98 100 _).mono ?_
  rintro e w7 ⟨la11, lc11, ma11, mc11, rfl, hb, t⟩
  replace T := hide (T.out.trans t)
  replace J1 := hide (t.heap J1.out (fun x => x))
  replace B10 := hide (B10.out.quiet t)
  have B11 := hide hb
  clear hb t
  go_wp2_with fail
  refine (FI.out 3 9 100 101 _).mono ?_
  rintro e w8 ⟨la12, lc12, ma12, mc12, rfl, hb, t⟩
  replace T := hide (T.out.trans t)
  replace J1 := hide (t.heap J1.out (fun x => x))
  replace B10 := hide (B10.out.quiet t)
  replace B11 := hide (B11.out.quiet t)
  have B12 := hide hb
  clear hb t
  go_wp2_with fail
  have tA : Turns (fun _ => False) w8 (w8.alloc (.cells #[.int .u64 1, .int .i64 9, .slice la10 1 lc10, .slice ma10 1 mc10, .int .i64 1, .int .u64 1, .int .u64 2, .int .i64 9, .slice la11 1 lc11, .slice ma11 1 mc11, .int .i64 1, .int .u64 1, .int .u64 3, .int .i64 9, .slice la12 1 lc12, .slice ma12 1 mc12, .int .i64 1, .int .u64 1] 29)) := (Turns.refl _ _).alloc _
  have HF := hide (fils_lit (R := [⟨la10, lc10, ma10, mc10, exF 1 9 97 99⟩, ⟨la11, lc11, ma11, mc11, exF 2 9 98 100⟩, ⟨la12, lc12, ma12, mc12, exF 3 9 100 101⟩]) (show (w8.alloc (.cells #[.int .u64 1, .int .i64 9, .slice la10 1 lc10, .slice ma10 1 mc10, .int .i64 1, .int .u64 1, .int .u64 2, .int .i64 9, .slice la11 1 lc11, .slice ma11 1 mc11, .int .i64 1, .int .u64 1, .int .u64 3, .int .i64 9, .slice la12 1 lc12, .slice ma12 1 mc12, .int .i64 1, .int .u64 1] 29)).heap[w8.heap.size]? = some (.cells (flCells [⟨la10, lc10, ma10, mc10, exF 1 9 97 99⟩, ⟨la11, lc11, ma11, mc11, exF 2 9 98 100⟩, ⟨la12, lc12, ma12, mc12, exF 3 9 100 101⟩]).toArray 29 (0, 0)) from heap_alloc_new w8 (.cells #[.int .u64 1, .int .i64 9, .slice la10 1 lc10, .slice ma10 1 mc10, .int .i64 1, .int .u64 1, .int .u64 2, .int .i64 9, .slice la11 1 lc11, .slice ma11 1 mc11, .int .i64 1, .int .u64 1, .int .u64 3, .int .i64 9, .slice la12 1 lc12, .slice ma12 1 mc12, .int .i64 1, .int .u64 1] 29)) (fun x hx => by
    simp only [List.mem_cons, List.not_mem_nil, or_false] at hx
    rcases hx with rfl | rfl | rfl
    · exact B10.out.quiet tA
    · exact B11.out.quiet tA
    · exact B12.out.quiet tA))
  refine (VE.out (some ⟨w8.heap.size, 0, none⟩) none 3 0 3 0 _).mono ?_
  rintro e w9 ⟨g1, rfl, hg, t⟩
  replace T := hide ((T.out.trans tA).trans t)
  replace J1 := hide (t.heap (tA.heap J1.out (fun x => x)) (fun x => x))
  replace HF := hide (HF.out.quiet t)
  have HV := hide (two_in (l0 := [⟨la10, lc10, ma10, mc10, exF 1 9 97 99⟩, ⟨la11, lc11, ma11, mc11, exF 2 9 98 100⟩, ⟨la12, lc12, ma12, mc12, exF 3 9 100 101⟩]) (l1 := []) hg HF.out (fils_nil _) (by simp) (fun y hy => by
    simp only [List.mem_append, List.mem_cons, List.not_mem_nil, or_false] at hy
    rcases hy with rfl | rfl | rfl
    all_goals exact ⟨Nat.le_of_ble_eq_true rfl, Nat.le_of_ble_eq_true rfl, Nat.le_of_ble_eq_true rfl⟩))
  clear hg t tA HF B10 B11 B12
  go_wp2_with fail
  refine (SE.out _).mono ?_
  rintro e w10 ⟨rfl, t⟩
  replace T := hide (T.out.trans t)
  replace J1 := hide (t.heap J1.out (fun x => x))
  replace HV := hide (HV.out.quiet t)
  clear t
  go_wp2_with fail
  refine (next_any _ _ _ _ _ _ _ 2 100 10 _ HV.out).mono ?_
  rintro e w11 ⟨v, er, rfl, ho, t⟩
  obtain ⟨rfl, z1, ua1, va1, pa1, qa1, uc1, vc1, m1, pc1, k1, qc1, bt1, rfl⟩ := job2 (show NextOut (exV [exF 1 9 97 99, exF 2 9 98 100, exF 3 9 100 101] []) 9 0 0 2 100 10 _ _ _ _ from ho)
  replace T := hide (T.out.trans t)
  replace J1 := hide (t.heap J1.out (fun x => x))
  clear ho t HV
  go_wp2_with fail
  refine (FI.out 1 250 97 98 _).mono ?_
  rintro e w12 ⟨la20, lc20, ma20, mc20, rfl, hb, t⟩
  replace T := hide ((T.out.alloc (.cells #[.int .i64 z1, .slice ua1 3 uc1, .slice va1 0 vc1, .slice pa1 m1 pc1, .slice qa1 k1 qc1, .bool bt1] 43)).trans t)
  replace J1 := hide (t.heap (((Turns.refl (fun _ => False) _).alloc (.cells #[.int .i64 z1, .slice ua1 3 uc1, .slice va1 0 vc1, .slice pa1 m1 pc1, .slice qa1 k1 qc1, .bool bt1] 43)).heap J1.out (fun x => x)) (fun x => x))
  have J2 := hide (t.heap (heap_alloc_new w11 (.cells #[.int .i64 z1, .slice ua1 3 uc1, .slice va1 0 vc1, .slice pa1 m1 pc1, .slice qa1 k1 qc1, .bool bt1] 43)) (fun x => x))
  have B20 := hide hb
  clear hb t
  go_wp2_with fail
  have tA : Turns (fun _ => False) w12 (w12.alloc (.cells #[.int .u64 1, .int .i64 250, .slice la20 1 lc20, .slice ma20 1 mc20, .int .i64 1, .int .u64 1] 29)) := (Turns.refl _ _).alloc _
  have HF := hide (fils_lit (R := [⟨la20, lc20, ma20, mc20, exF 1 250 97 98⟩]) (show (w12.alloc (.cells #[.int .u64 1, .int .i64 250, .slice la20 1 lc20, .slice ma20 1 mc20, .int .i64 1, .int .u64 1] 29)).heap[w12.heap.size]? = some (.cells (flCells [⟨la20, lc20, ma20, mc20, exF 1 250 97 98⟩]).toArray 29 (0, 0)) from heap_alloc_new w12 (.cells #[.int .u64 1, .int .i64 250, .slice la20 1 lc20, .slice ma20 1 mc20, .int .i64 1, .int .u64 1] 29)) (fun x hx => by
    simp only [List.mem_cons, List.not_mem_nil, or_false] at hx
    rcases hx with rfl
    · exact B20.out.quiet tA))
  refine (VE.out none (some ⟨w12.heap.size, 0, none⟩) 0 1 0 1 _).mono ?_
  rintro e w13 ⟨g2, rfl, hg, t⟩
  replace T := hide ((T.out.trans tA).trans t)
  replace J1 := hide (t.heap (tA.heap J1.out (fun x => x)) (fun x => x))
  replace J2 := hide (t.heap (tA.heap J2.out (fun x => x)) (fun x => x))
  replace HF := hide (HF.out.quiet t)
  have HV := hide (two_in (l0 := []) (l1 := [⟨la20, lc20, ma20, mc20, exF 1 250 97 98⟩]) hg (fils_nil _) HF.out (by simp) (fun y hy => by
    simp only [List.mem_append, List.mem_cons, List.not_mem_nil, or_false, false_or] at hy
    rcases hy with rfl
    all_goals exact ⟨Nat.le_of_ble_eq_true rfl, Nat.le_of_ble_eq_true rfl, Nat.le_of_ble_eq_true rfl⟩))
  clear hg t tA HF B20
  go_wp2_with fail
  refine (SE.out _).mono ?_
  rintro e w14 ⟨rfl, t⟩
  replace T := hide (T.out.trans t)
  replace J1 := hide (t.heap J1.out (fun x => x))
  replace J2 := hide (t.heap J2.out (fun x => x))
  replace HV := hide (HV.out.quiet t)
  clear t
  go_wp2_with fail
  refine (next_any _ _ _ _ _ _ _ 2 100 10 _ HV.out).mono ?_
  rintro e w15 ⟨v, er, rfl, ho, t⟩
  obtain ⟨rfl, ua2, va2, pa2, qa2, x2, uc2, y2, vc2, m2, pc2, k2, qc2, rfl⟩ := job3 (show NextOut (exV [] [exF 1 250 97 98]) 9 0 0 2 100 10 _ _ _ _ from ho)
  replace T := hide (T.out.trans t)
  replace J1 := hide (t.heap J1.out (fun x => x))
  replace J2 := hide (t.heap J2.out (fun x => x))
  clear ho t HV
  go_wp2_with fail
  refine (FI.out 1 99 97 98 _).mono ?_
  rintro e w16 ⟨la30, lc30, ma30, mc30, rfl, hb, t⟩
  replace T := hide ((T.out.alloc (.cells #[.int .i64 1, .slice ua2 x2 uc2, .slice va2 y2 vc2, .slice pa2 m2 pc2, .slice qa2 k2 qc2, .bool true] 43)).trans t)
  replace J1 := hide (t.heap (((Turns.refl (fun _ => False) _).alloc (.cells #[.int .i64 1, .slice ua2 x2 uc2, .slice va2 y2 vc2, .slice pa2 m2 pc2, .slice qa2 k2 qc2, .bool true] 43)).heap J1.out (fun x => x)) (fun x => x))
  replace J2 := hide (t.heap (((Turns.refl (fun _ => False) _).alloc (.cells #[.int .i64 1, .slice ua2 x2 uc2, .slice va2 y2 vc2, .slice pa2 m2 pc2, .slice qa2 k2 qc2, .bool true] 43)).heap J2.out (fun x => x)) (fun x => x))
  have J3 := hide (t.heap (heap_alloc_new w15 (.cells #[.int .i64 1, .slice ua2 x2 uc2, .slice va2 y2 vc2, .slice pa2 m2 pc2, .slice qa2 k2 qc2, .bool true] 43)) (fun x => x))
  have B30 := hide hb
  clear hb t
  go_wp2_with fail
  have tA : Turns (fun _ => False) w16 (w16.alloc (.cells #[.int .u64 1, .int .i64 99, .slice la30 1 lc30, .slice ma30 1 mc30, .int .i64 1, .int .u64 1] 29)) := (Turns.refl _ _).alloc _
  have HF := hide (fils_lit (R := [⟨la30, lc30, ma30, mc30, exF 1 99 97 98⟩]) (show (w16.alloc (.cells #[.int .u64 1, .int .i64 99, .slice la30 1 lc30, .slice ma30 1 mc30, .int .i64 1, .int .u64 1] 29)).heap[w16.heap.size]? = some (.cells (flCells [⟨la30, lc30, ma30, mc30, exF 1 99 97 98⟩]).toArray 29 (0, 0)) from heap_alloc_new w16 (.cells #[.int .u64 1, .int .i64 99, .slice la30 1 lc30, .slice ma30 1 mc30, .int .i64 1, .int .u64 1] 29)) (fun x hx => by
    simp only [List.mem_cons, List.not_mem_nil, or_false] at hx
    rcases hx with rfl
    · exact B30.out.quiet tA))
  refine (VE.out none (some ⟨w16.heap.size, 0, none⟩) 0 1 0 1 _).mono ?_
  rintro e w17 ⟨g3, rfl, hg, t⟩
  replace T := hide ((T.out.trans tA).trans t)
  replace J1 := hide (t.heap (tA.heap J1.out (fun x => x)) (fun x => x))
  replace J2 := hide (t.heap (tA.heap J2.out (fun x => x)) (fun x => x))
  replace J3 := hide (t.heap (tA.heap J3.out (fun x => x)) (fun x => x))
  replace HF := hide (HF.out.quiet t)
  have HV := hide (two_in (l0 := []) (l1 := [⟨la30, lc30, ma30, mc30, exF 1 99 97 98⟩]) hg (fils_nil _) HF.out (by simp) (fun y hy => by
    simp only [List.mem_append, List.mem_cons, List.not_mem_nil, or_false, false_or] at hy
    rcases hy with rfl
    all_goals exact ⟨Nat.le_of_ble_eq_true rfl, Nat.le_of_ble_eq_true rfl, Nat.le_of_ble_eq_true rfl⟩))
  clear hg t tA HF B30
  go_wp2_with fail
  refine (SE.out _).mono ?_
  rintro e w18 ⟨rfl, t⟩
  replace T := hide (T.out.trans t)
  replace J1 := hide (t.heap J1.out (fun x => x))
  replace J2 := hide (t.heap J2.out (fun x => x))
  replace J3 := hide (t.heap J3.out (fun x => x))
  replace HV := hide (HV.out.quiet t)
  clear t
  go_wp2_with fail
  refine (next_any _ _ _ _ _ _ _ 2 100 10 _ HV.out).mono ?_
  rintro e w19 ⟨v, er, rfl, ho, t⟩
  obtain ⟨rfl, rfl⟩ := job4 (show NextOut (exV [] [exF 1 99 97 98]) 9 0 0 2 100 10 _ _ _ _ from ho)
  unfold zeroJob
  replace T := hide (T.out.trans t)
  replace J1 := hide (t.heap J1.out (fun x => x))
  replace J2 := hide (t.heap J2.out (fun x => x))
  replace J3 := hide (t.heap J3.out (fun x => x))
  clear ho t HV
  have tA : Turns (fun _ => False) w19 (w19.alloc (.cells #[.int .i64 0, .slice none 0 0, .slice none 0 0, .slice none 0 0, .slice none 0 0, .bool false] 43)) := (Turns.refl _ _).alloc _
  have T' := hide (T.out.trans tA)
  have a1 := cell_of_row _ _ 1 _ 43 (0, 0) (tA.heap J1.out (fun x => x))
  have a2 := cell_of_row _ _ 2 _ 43 (0, 0) (tA.heap J1.out (fun x => x))
  have b1 := cell_of_row _ _ 1 _ 43 (0, 0) (tA.heap J2.out (fun x => x))
  have c0 := cell_of_row _ _ 0 _ 43 (0, 0) (tA.heap J3.out (fun x => x))
  have c5 := cell_of_row _ _ 5 _ 43 (0, 0) (tA.heap J3.out (fun x => x))
  clear J1 J2 J3 tA T
  go_wp2_with fail
  go_ret
  exact ⟨rfl, T'.out⟩
end Go.Proofs.Ytkmcdjbadngfgaa
