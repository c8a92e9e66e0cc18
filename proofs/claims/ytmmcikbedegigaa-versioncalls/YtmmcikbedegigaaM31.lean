import Derived.Test.YtmmcikbedegigaaM21
/-
  The chapter's examples, told by files alone.
-/
namespace Go.Proofs.Ytmmcikbedegigaa
open Go.RowKit
set_option maxRecDepth 100000
set_option maxHeartbeats 4000000
def fa : Fl := ⟨1, 100, bsOf ⟨#[97]⟩, bsOf ⟨#[99]⟩, 1, 1⟩
def fb : Fl := ⟨2, 100, bsOf ⟨#[99]⟩, bsOf ⟨#[100]⟩, 1, 1⟩
def fc : Fl := ⟨2, 100, bsOf ⟨#[100]⟩, bsOf ⟨#[101]⟩, 1, 1⟩
def fx : Fl := ⟨1, 100, bsOf ⟨#[120]⟩, bsOf ⟨#[121]⟩, 1, 1⟩
def ver0 : List (List Fl) := [[], [], [], [], []]
def ver1 : List (List Fl) := [[], [fa], [], [], []]
def ver2 : List (List Fl) := [[], [fa, fb], [], [], []]
def ver3 : List (List Fl) := [[], [fa, fc], [], [], []]
theorem cmpac : cmpB (bsOf ⟨#[97]⟩) (bsOf ⟨#[99]⟩) = -1 := by decide
theorem cmpcc : cmpB (bsOf ⟨#[99]⟩) (bsOf ⟨#[99]⟩) = 0 := by decide
theorem cmpcd : cmpB (bsOf ⟨#[99]⟩) (bsOf ⟨#[100]⟩) = -1 := by decide
theorem okV0 : wrongVF ver0 1 0 0 = false := by decide
theorem okV1 : wrongVF ver1 2 0 0 = false := by decide
theorem badV2 : wrongVF ver2 3 0 0 = true := by decide
theorem okV3 : wrongVF ver3 3 0 0 = false := by decide
theorem keepAll (m : Nat → Option Int) (l : List Fl) (h : ∀ f ∈ l, (m f.no).isSome = true) : l.filter (keepF m) = l := List.filter_eq_self.2 h
theorem comes5 {a b c d e a' b' c' d' e' : List Fl} {A : List AddF} (h0 : a'.Perm (a ++ onF 0 A) ∧ sortedF 0 a') (h1 : b'.Perm (b ++ onF 1 A) ∧ sortedF 1 b') (h2 : c'.Perm (c ++ onF 2 A) ∧ sortedF 2 c') (h3 : d'.Perm (d ++ onF 3 A) ∧ sortedF 3 d') (h4 : e'.Perm (e ++ onF 4 A) ∧ sortedF 4 e') : Comes [a, b, c, d, e] A [a', b', c', d', e'] := by
  refine ⟨rfl, fun k l l' hl hl' => ?_⟩
  have hk := (List.getElem?_eq_some_iff.1 hl).1
  simp only [List.length_cons, List.length_nil] at hk
  rcases (by omega : k = 0 ∨ k = 1 ∨ k = 2 ∨ k = 3 ∨ k = 4) with rfl | rfl | rfl | rfl | rfl <;> (cases hl; cases hl')
  · exact h0
  · exact h1
  · exact h2
  · exact h3
  · exact h4
theorem sort0 (k : Nat) : sortedF k [] := fun i j x y _ hx => by simp at hx
theorem sort1 (k : Nat) (f : Fl) : sortedF k [f] := fun i j x y hij hx hy => by
  have h1 := (List.getElem?_eq_some_iff.1 hx).1
  have h2 := (List.getElem?_eq_some_iff.1 hy).1
  simp only [List.length_cons, List.length_nil] at h1 h2
  omega
theorem sort2 (k : Nat) (f g : Fl) (h : ¬ cmpF k g f < 0) : sortedF k [f, g] := fun i j x y hij hx hy => by
  have h1 := (List.getElem?_eq_some_iff.1 hx).1
  have h2 := (List.getElem?_eq_some_iff.1 hy).1
  simp only [List.length_cons, List.length_nil] at h1 h2
  obtain rfl : i = 0 := by omega
  obtain rfl : j = 1 := by omega
  cases hx; cases hy
  exact h
theorem ap1 : ApplyR ver0 1 0 0 [] [(1, fa)] 2 0 0 (some ver1) 0 :=
  .ok _ ver1 okV0 rfl (by decide) (by decide) (comes5 ⟨.refl _, sort0 0⟩ ⟨.refl _, sort1 1 fa⟩ ⟨.refl _, sort0 2⟩ ⟨.refl _, sort0 3⟩ ⟨.refl _, sort0 4⟩) okV1
theorem ap2 : ApplyR ver1 2 0 0 [] [(1, fb)] 3 0 0 none 2 :=
  .bad _ ver2 okV1 rfl (by decide) (by decide) (comes5 ⟨.refl _, sort0 0⟩ ⟨.refl _, sort2 1 fa fb (by decide)⟩ ⟨.refl _, sort0 2⟩ ⟨.refl _, sort0 3⟩ ⟨.refl _, sort0 4⟩) badV2
theorem ap3 : ApplyR ver1 2 0 0 [] [(1, fc)] 3 0 0 (some ver3) 0 :=
  .ok _ ver3 okV1 rfl (by decide) (by decide) (comes5 ⟨.refl _, sort0 0⟩ ⟨.refl _, sort2 1 fa fc (by decide)⟩ ⟨.refl _, sort0 2⟩ ⟨.refl _, sort0 3⟩ ⟨.refl _, sort0 4⟩) okV3
theorem ap4 : ApplyR ver3 3 0 0 [(1, 9)] [] 3 0 0 none 6 := .gone okV3 (by decide)
theorem ap5 : ApplyR ver1 2 0 0 [] [(1, fx)] 3 0 0 none 5 := .there _ okV1 rfl (by decide)
/-- Apply of an edit of one add, where what comes of it is known. -/
theorem apply_one (a : Option Addr) (c next seq log : Nat) (L : List Lv) (ga en : Nat) (x : Tf) (f : Fl) (VV : List (List Fl)) (r : Option (List (List Fl))) (er : Int) (w : World) (h : VerIn w a 5 L next seq log) (hL : flL L = VV) (hx : x.f = f) (hE : EdIn w none 0 (some ⟨ga, 0, none⟩) 1 [] [(1, x)] en 0 0) (hR : ApplyR VV next seq log [] [(1, f)] en 0 0 r er) (h1 : wt (fun _ => 1) VV + 1 ≤ 5000) (h2 : wt keyF VV + keyF f ≤ 600000) :
    Calls Try.prog 5 #[verAgg a 5 c next seq log, edAgg none 0 0 (some ⟨ga, 0, none⟩) 1 1 en 0 0] w fun e w' => Turns (fun _ => False) w w' ∧ ∃ v, e = .returned (.tuple #[v, .int .i64 er]) ∧ (r = none → v = zeroVer) ∧ (∀ LL', r = some LL' → ∃ G c L', v = verAgg (some ⟨G, 0, none⟩) 5 c en 0 0 ∧ flL L' = LL' ∧ VerIn w' (some ⟨G, 0, none⟩) 5 L' en 0 0 ∧ DR w' w.heap.size G 5 L') := by
  refine (apply_any a 5 c next seq log L none 0 0 (some ⟨ga, 0, none⟩) 1 1 en 0 0 [] [(1, x)] w h hE (by rw [cnt_wt, hL]; exact h1) (by rw [byts_wt, hL]; simp only [fA, List.map_cons, List.map_nil, List.sum_cons, List.sum_nil, hx]; omega)).mono fun e w' hh => ?_
  obtain ⟨t, v, er', r', rfl, hR', hn, hs⟩ := hh
  rw [hL, show fA [(1, x)] = [(1, f)] by simp [fA, hx]] at hR'
  obtain ⟨rfl, rfl⟩ := hR'.one hR
  refine ⟨t, v, rfl, hn, fun LL' e => ?_⟩
  exact hs LL' e
end Go.Proofs.Ytmmcikbedegigaa
