import Derived.Test.YtmmcikbedegigaaGreatM22
import Derived.Test.YtmmcikbedegigaaGreatM17
import Derived.Test.YtmmcikbedegigaaGreatM25
import Derived.Test.YtmmcikbedegigaaGreatM18
import Derived.Test.YtmmcikbedegigaaGreatM23
import Derived.Test.YtmmcikbedegigaaGreatM19
/-
  What an edit that was applied has, and what comes of it: for the law.
-/
namespace Go.Proofs.YtmmcikbedegigaaGreat
open Go.RowKit
set_option maxRecDepth 100000
theorem sum_le_mul {α : Type} (f : α → Nat) (M : Nat) : ∀ l : List α, (∀ x ∈ l, f x ≤ M) → (l.map f).sum ≤ l.length * M
  | [], _ => by simp
  | x :: r, h => by
    have h1 := sum_le_mul f M r fun y hy => h y (List.mem_cons_of_mem _ hy)
    have h2 := h x (by simp)
    simp only [List.map_cons, List.sum_cons, List.length_cons, Nat.add_mul]
    omega
theorem smallE_fin {A : List (Int × Tf)} (hf : ∀ d ∈ A, FitF d.2) (h1 : A.length ≤ 100) (h3 : w64 (addsN A : Nat) ≤ 10000) : addsN A ≤ 10000 := by
  have g3 : addsN A ≤ A.length * (2 * reachBytes) := by
    unfold addsN keysN
    rw [List.map_map]
    exact sum_le_mul _ _ A fun y hy => by have := (hf y hy).2.2; simp only [Function.comp]; omega
  have g4 : addsN A ≤ 100 * (2 * reachBytes) := Nat.le_trans g3 (Nat.mul_le_mul_right _ h1)
  unfold reachBytes at g4
  rw [w64_small _ (by omega) (by omega)] at h3
  omega
theorem addsN_key (A : List (Int × Tf)) : ((fA A).map fun d => keyF d.2).sum = addsN A := by
  unfold fA addsN keysN
  rw [List.map_map, List.map_map]
  rfl
theorem len_le_sum {α : Type} (f : α → Nat) : ∀ (l : List α) (x : α), x ∈ l → f x ≤ (l.map f).sum
  | y :: r, x, h => by
    simp only [List.map_cons, List.sum_cons]
    rcases List.mem_cons.1 h with rfl | h
    · omega
    · have := len_le_sum f r x h; omega
/-- A small edit. -/
structure SmE (x : EdL) : Prop where
  an : x.an ≤ 100
  dn : x.dn ≤ 100
  by' : addsN x.A ≤ 10000
theorem edIn_sm {w : World} {x : EdL} (h : EdP w x) (s : SmE x) : EdIn w x.da x.dn x.aa x.an x.D x.A x.en x.es x.el :=
  ⟨h.D, h.dn, by have := s.dn; omega, h.A, h.an, by have := s.an; omega, fun d hd => by
    have h4 := len_le_sum (fun d : Int × Tf => d.2.f.least.length + d.2.f.most.length) x.A d hd
    have h5 : (x.A.map fun d : Int × Tf => d.2.f.least.length + d.2.f.most.length).sum = addsN x.A := by unfold addsN keysN; rw [List.map_map]; rfl
    have h6 := s.by'
    exact ⟨(h.fit d hd).1, by omega, by omega⟩, h.b1, h.b2, h.b3⟩
theorem okAll_no {D : List (Int × Nat)} {A : List AddF} (hd : ∀ d ∈ D, okDrop d) (ha : ∀ d ∈ A, okAdd d) : D.any wrongD = false ∧ A.any wrongA = false := by
  refine ⟨List.any_eq_false.2 fun d h => ?_, List.any_eq_false.2 fun d h => ?_⟩
  · have := (hd d h).1
    simp [wrongD]
    omega
  · obtain ⟨h1, h2, h3, h4, h5, h6, h7, h8, h9, h10⟩ := ha d h
    simp [wrongA]
    omega
theorem appliedEdit {LL : List (List Fl)} {next seq log : Nat} {D : List (Int × Nat)} {A : List AddF} {en es el : Nat} {LL' : List (List Fl)} {e : Int} (h : ApplyR LL next seq log D A en es el (some LL') e) (hd : D.length ≤ 10000) (ha : A.length ≤ 10000) : D.any wrongD = false ∧ A.any wrongA = false ∧ parseG (editB en es el D A) = some ((en, es, el), D, A) := by
  obtain ⟨_, h0, hw, hA, m, hm⟩ := applied_ok h
  have hD := drops_ok h0 hm
  have hh := head_of hw
  obtain ⟨n1, n2⟩ := okAll_no hD hA
  exact ⟨n1, n2, parseG_enc en es el D A (by omega) (by omega) (by omega) hD hA hd ha⟩
theorem wholeEdit {LL : List (List Fl)} {next seq log : Nat} (h : wrongVF LL next seq log = false) (ha : (wholeF LL).length ≤ 10000) : (wholeF LL).any wrongA = false ∧ parseG (editB next seq log [] (wholeF LL)) = some ((next, seq, log), [], wholeF LL) := by
  have hA := whole_ok h
  have hh := head_of h
  exact ⟨(okAll_no (D := []) (fun d hd => by simp at hd) hA).2, parseG_enc next seq log [] _ (by omega) (by omega) (by omega) (fun d hd => by simp at hd) hA (by simp) ha⟩
/-- A version that may be, in memory. -/
structure VOk (w : World) (pa : Option Addr) (p1 p2 p3 : Nat) (L : List Lv) (k : Nat) : Prop where
  ver : VerIn w pa 5 L p1 p2 p3
  ok : wrongVF (flL L) p1 p2 p3 = false
  cnt : cnt L ≤ 100 * k
  byts : byts L ≤ 10000 * k
theorem VOk.quiet {w w' : World} {pa : Option Addr} {p1 p2 p3 : Nat} {L : List Lv} {k : Nat} (h : VOk w pa p1 p2 p3 L k) (t : Turns (fun _ => False) w w') : VOk w' pa p1 p2 p3 L k := { h with ver := h.ver.quiet t }
theorem VOk.mono {w : World} {pa : Option Addr} {p1 p2 p3 : Nat} {L : List Lv} {k k' : Nat} (h : VOk w pa p1 p2 p3 L k) (hk : k ≤ k') : VOk w pa p1 p2 p3 L k' := { h with cnt := by have := h.cnt; omega, byts := by have := h.byts; omega }
theorem wt_apply (f : Fl → Nat) {LL : List (List Fl)} {next seq log : Nat} {D : List (Int × Nat)} {A : List AddF} {en es el : Nat} {LL' : List (List Fl)} {e : Int} (h : ApplyR LL next seq log D A en es el (some LL') e) : wt f LL' ≤ wt f LL + (A.map fun d => f d.2).sum := by
  rcases h with ⟨_, e1, _⟩ | ⟨h0, h⟩
  · cases e1
  rcases h with ⟨_, e1, _⟩ | ⟨m, hd, h⟩
  · cases e1
  rcases h with ⟨_, e1, _⟩ | ⟨ho, h⟩
  · cases e1
  rcases h with ⟨_, e1, _⟩ | ⟨hg, X, hX, h⟩
  · cases e1
  rcases h with ⟨_, e1, _⟩ | ⟨hw, e1, e2⟩
  · cases e1
  obtain rfl : LL' = X := Option.some.inj e1
  have h1 := wt_comes f (by rw [List.length_map]; exact len_of_ok h0) hX
  have h2 := wt_filter f (keepF m) LL
  omega
theorem apply_not0 {LL : List (List Fl)} {next seq log : Nat} {D : List (Int × Nat)} {A : List AddF} {en es el : Nat} {e : Int} (h : ApplyR LL next seq log D A en es el none e) : e ≠ 0 := by
  rcases h with ⟨_, _, e1⟩ | ⟨h0, h⟩
  · omega
  rcases h with ⟨_, _, e1⟩ | ⟨m, hd, h⟩
  · omega
  rcases h with ⟨_, _, e1⟩ | ⟨ho, h⟩
  · omega
  rcases h with ⟨_, _, e1⟩ | ⟨hg, X, hX, h⟩
  · omega
  rcases h with ⟨_, _, e1⟩ | ⟨hw, e1, e2⟩
  · omega
  · cases e1
/-- What Apply of a small edit answers. -/
def AppS (w' : World) (LL : List (List Fl)) (p1 p2 p3 : Nat) (x : EdL) (k : Nat) (er : Int) (qa : Option Addr) (qn q1 q2 q3 : Nat) (L1 : List Lv) : Prop :=
  er ≠ 0 ∨ (er = 0 ∧ qn = 5 ∧ q1 = x.en ∧ q2 = x.es ∧ q3 = x.el ∧ VOk w' qa q1 q2 q3 L1 (k + 1) ∧ ApplyR LL p1 p2 p3 x.D (fA x.A) x.en x.es x.el (some (flL L1)) 0 ∧ ∃ B G, qa = some ⟨G, 0, none⟩ ∧ DR w' B G 5 L1)
theorem AppS.alien {w w' : World} {LL : List (List Fl)} {p1 p2 p3 : Nat} {x : EdL} {k : Nat} {er : Int} {qa : Option Addr} {qn q1 q2 q3 : Nat} {L1 : List Lv} (h : AppS w LL p1 p2 p3 x k er qa qn q1 q2 q3 L1) {p : Nat} (t : Turns (fun j => j = p) w w') {cs : Array Value} {z : Nat × Nat} (hp : w.heap[p]? = some (.cells cs 27 z)) : AppS w' LL p1 p2 p3 x k er qa qn q1 q2 q3 L1 := by
  rcases h with h | ⟨h1, h2, h3, h4, h5, h6, h7, B, G, rfl, h8⟩
  · exact .inl h
  · have h9 := h8.alien t hp (by decide) (by decide) (by decide)
    exact .inr ⟨h1, h2, h3, h4, h5, { h6 with ver := { h6.ver with levs := h9.levs } }, h7, B, G, rfl, h9⟩
theorem AppS.quiet {w w' : World} {LL : List (List Fl)} {p1 p2 p3 : Nat} {x : EdL} {k : Nat} {er : Int} {qa : Option Addr} {qn q1 q2 q3 : Nat} {L1 : List Lv} (h : AppS w LL p1 p2 p3 x k er qa qn q1 q2 q3 L1) (t : Turns (fun _ => False) w w') : AppS w' LL p1 p2 p3 x k er qa qn q1 q2 q3 L1 := by
  rcases h with h | ⟨h1, h2, h3, h4, h5, h6, h7, B, G, rfl, h8⟩
  · exact .inl h
  · exact .inr ⟨h1, h2, h3, h4, h5, h6.quiet t, h7, B, G, rfl, h8.quiet t⟩
theorem applyS_any {w : World} {pa : Option Addr} {pc p1 p2 p3 : Nat} {L : List Lv} {k : Nat} (h : VOk w pa p1 p2 p3 L k) (hk : k ≤ 20) {x : EdL} (hx : EdP w x) (hs : SmE x) :
    Calls Tryz.prog 7 #[verAgg pa 5 pc p1 p2 p3, edAgg x.da x.dn x.dc x.aa x.an x.ac x.en x.es x.el] w fun e w' => Turns (fun _ => False) w w' ∧ ∃ er qa qn qc q1 q2 q3 L1, e = .returned (.tuple #[verAgg qa qn qc q1 q2 q3, .int .i64 er]) ∧ AppS w' (flL L) p1 p2 p3 x k er qa qn q1 q2 q3 L1 := by
  have hc := h.cnt
  have hb := h.byts
  have h1 := hs.by'
  have h2 := hs.an
  have h3 := hx.an
  refine (apply_any pa 5 pc p1 p2 p3 L x.da x.dn x.dc x.aa x.an x.ac x.en x.es x.el x.D x.A w h.ver (edIn_sm hx hs) (by omega) (by rw [addsN_key]; omega)).mono ?_
  rintro e w' ⟨t, v, er, r, rfl, hR, hn, hS⟩
  refine ⟨t, ?_⟩
  cases r with
  | none =>
    rw [hn rfl]
    exact ⟨er, none, 0, 0, 0, 0, 0, [], rfl, .inl (apply_not0 hR)⟩
  | some LL' =>
    obtain ⟨G, c, L', rfl, hL', hV, hDR⟩ := hS LL' rfl
    subst hL'
    obtain ⟨rfl, _, hw, _⟩ := applied_ok hR
    have g1 := wt_apply (fun _ => 1) hR
    have g2 := wt_apply keyF hR
    have g3 : ((fA x.A).map fun _ => 1).sum = x.A.length := by
      unfold fA
      rw [List.map_map]
      have : ∀ l : List (Int × Tf), (l.map ((fun _ => 1) ∘ fun d => (d.1, d.2.f))).sum = l.length := fun l => by
        induction l with
        | nil => rfl
        | cons y r ih => simp only [List.map_cons, List.sum_cons, List.length_cons, ih, Function.comp]; omega
      exact this _
    rw [g3, ← cnt_wt, ← cnt_wt] at g1
    rw [addsN_key, ← byts_wt, ← byts_wt] at g2
    exact ⟨0, some ⟨G, 0, none⟩, 5, c, x.en, x.es, x.el, L', rfl, .inr ⟨rfl, rfl, rfl, rfl, rfl, ⟨hV, hw, by omega, by omega⟩, hR, _, G, rfl, hDR⟩⟩
theorem editB_len {en es el : Nat} {D : List (Int × Nat)} {A : List (Int × Tf)} (h1 : en < 18446744073709551616) (h2 : es < 18446744073709551616) (h3 : el < 18446744073709551616) (hD : ∀ d ∈ D, d.2 < 18446744073709551616) (hA : ∀ d ∈ A, d.2.f.no < 18446744073709551616 ∧ d.2.f.seq < 18446744073709551616 ∧ d.2.f.least.length ≤ 1000000 ∧ d.2.f.most.length ≤ 1000000) (ld : D.length ≤ 1000) (la : A.length ≤ 4000) (hs : ((fA A).map fun d => keyF d.2).sum ≤ 600000) : (editB en es el D (fA A)).length ≤ 1000000 := by
  have e1 := short_len en h1
  have e2 := short_len es h2
  have e3 := short_len el h3
  have e4 := short_len D.length (by omega)
  have e5 := short_len (fA A).length (by unfold fA; rw [List.length_map]; omega)
  have e6 := dropsB_len D hD
  have e7 := addsB_len (fA A) fun d hd => by
    obtain ⟨d0, hd0, rfl⟩ := List.mem_map.1 hd
    exact hA d0 hd0
  have e8 : (fA A).length = A.length := by unfold fA; rw [List.length_map]
  rw [e8] at e7
  unfold editB headB
  simp only [List.length_append]
  omega
theorem whole_sum (f : Fl → Nat) (LL : List (List Fl)) : ((wholeF LL).map fun d => f d.2).sum = wt f LL := by
  unfold wholeF wt
  have : ∀ q, (((LL.zipIdx q).flatMap fun p => p.1.map fun f => ((p.2 : Int), f)).map fun d : AddF => f d.2).sum = (LL.map fun l => (l.map f).sum).sum := by
    induction LL with
    | nil => intro q; rfl
    | cons x r ih =>
      intro q
      rw [List.zipIdx_cons, List.flatMap_cons, List.map_append, List.sum_append, ih, List.map_cons, List.sum_cons, List.map_map]
      rfl
  exact this 0
theorem len_sum1 (A : List AddF) : (A.map fun _ => 1).sum = A.length := by
  induction A with
  | nil => rfl
  | cons y r ih => simp only [List.map_cons, List.sum_cons, List.length_cons, ih]; omega
theorem keyOk_small {L : List Lv} (hb : byts L ≤ 600000) : ∀ l ∈ flL L, KeyOk l := fun l hl f hf => by
  obtain ⟨x, hx, rfl⟩ := List.mem_map.1 hl
  obtain ⟨y, hy, rfl⟩ := List.mem_map.1 hf
  have h1 := len_le_sum keyB x.l y hy
  have h2 := len_le_sum (fun x : Lv => (x.l.map keyB).sum) L x hx
  have h3 : keyB y = y.f.least.length + y.f.most.length := rfl
  have h4 : (L.map fun x => (x.l.map keyB).sum).sum = byts L := rfl
  omega
/-- The whole edit of a version that may be. -/
structure Wh (L : List Lv) (p1 p2 p3 : Nat) (A : List (Int × Tf)) : Prop where
  fa : fA A = wholeF (flL L)
  len : A.length ≤ 2000
  keys : ((fA A).map fun d => keyF d.2).sum ≤ 200000
  fit : ∀ d ∈ A, d.2.f.no < 18446744073709551616 ∧ d.2.f.least.length ≤ 1000000 ∧ d.2.f.most.length ≤ 1000000
  seq : ∀ d ∈ A, d.2.f.seq < 18446744073709551616
theorem wh_of {w : World} {pa : Option Addr} {p1 p2 p3 : Nat} {L : List Lv} {k : Nat} (h : VOk w pa p1 p2 p3 L k) (hk : k ≤ 20) {A : List (Int × Tf)} (hA : fA A = wholeF (flL L)) : Wh L p1 p2 p3 A := by
  have h1 : (fA A).length = A.length := by unfold fA; rw [List.length_map]
  have h2 := len_sum1 (fA A)
  have h3 : ((fA A).map fun _ => 1).sum = wt (fun _ => 1) (flL L) := by rw [hA]; exact whole_sum (fun _ => 1) _
  have h4 := h.cnt
  rw [cnt_wt] at h4
  have h5 : ((fA A).map fun d => keyF d.2).sum = wt keyF (flL L) := by rw [hA]; exact whole_sum keyF _
  have h6 := h.byts
  rw [byts_wt] at h6
  have hf : ∀ d ∈ A, wrongF d.2.f = false ∧ d.2.f.no < p1 := fun d hd => by
    have h7 : (d.1, d.2.f) ∈ wholeF (flL L) := by rw [← hA]; exact List.mem_map.2 ⟨d, hd, rfl⟩
    obtain ⟨j, l, hj, _, hl⟩ := mem_wholeF h7
    exact file_of h.ok hj hl
  have hh := head_of h.ok
  refine ⟨hA, by omega, by omega, fun d hd => ?_, fun d hd => ?_⟩
  · obtain ⟨h8, h9⟩ := hf d hd
    have := wrongF_false h8
    omega
  · obtain ⟨h8, h9⟩ := hf d hd
    have := wrongF_false h8
    omega
theorem Wh.other {L : List Lv} {p1 p2 p3 : Nat} {A A' : List (Int × Tf)} (h : Wh L p1 p2 p3 A) (e : fA A' = fA A) : Wh L p1 p2 p3 A' := by
  have hm : ∀ d ∈ A', ∃ d0 ∈ A, d0.2.f = d.2.f := fun d hd => by
    have h7 : (d.1, d.2.f) ∈ fA A := by rw [← e]; exact List.mem_map.2 ⟨d, hd, rfl⟩
    obtain ⟨d0, hd0, e0⟩ := List.mem_map.1 h7
    exact ⟨d0, hd0, congrArg Prod.snd e0⟩
  refine ⟨by rw [e]; exact h.fa, ?_, by rw [e]; exact h.keys, fun d hd => ?_, fun d hd => ?_⟩
  · have h1 := congrArg List.length e
    unfold fA at h1
    rw [List.length_map, List.length_map] at h1
    have := h.len
    omega
  · obtain ⟨d0, h1, h2⟩ := hm d hd
    rw [← h2]
    exact h.fit d0 h1
  · obtain ⟨d0, h1, h2⟩ := hm d hd
    rw [← h2]
    exact h.seq d0 h1
theorem again_any {u : World} {G0 : Nat} {L0 L : List Lv} {da : Option Addr} {dc : Nat} {sa : Option Addr} {sn sc p1 p2 p3 : Nat} {A : List (Int × Tf)} (hV : VerIn u (some ⟨G0, 0, none⟩) 5 L0 1 0 0) (hL : flL L0 = [[], [], [], [], []]) (hE : EdIn u da 0 sa sn [] A p1 p2 p3) (hW : Wh L p1 p2 p3 A) (hok : wrongVF (flL L) p1 p2 p3 = false) :
    Calls Tryz.prog 7 #[verAgg (some ⟨G0, 0, none⟩) 5 5 1 0 0, edAgg da 0 dc sa sn sc p1 p2 p3] u fun e w' => Turns (fun _ => False) u w' ∧ ∃ G c L', e = .returned (.tuple #[verAgg (some ⟨G, 0, none⟩) 5 c p1 p2 p3, .int .i64 0]) ∧ flL L' = flL L ∧ VerIn w' (some ⟨G, 0, none⟩) 5 L' p1 p2 p3 ∧ DR w' u.heap.size G 5 L' := by
  have h1 := cnt_wt L0
  rw [hL] at h1
  have h2 := byts_wt L0
  rw [hL] at h2
  have h3 : cnt L0 = 0 := h1
  have h4 : byts L0 = 0 := h2
  have h5 := hW.len
  have h6 := hW.keys
  have h7 := hE.alen
  refine (apply_any _ _ 5 1 0 0 L0 da 0 dc sa sn sc p1 p2 p3 [] A u hV hE (by omega) (by omega)).mono ?_
  rintro e w' ⟨t, v, er, r, rfl, hR, hn, hS⟩
  refine ⟨t, ?_⟩
  rw [hL, hW.fa] at hR
  obtain ⟨h8, h9⟩ := hR.one (whole_again hok)
  obtain ⟨G, c, L', rfl, hL', hV', hD⟩ := hS _ h8
  exact ⟨G, c, L', by rw [h9], hL', hV', hD⟩
end Go.Proofs.YtmmcikbedegigaaGreat
