/-
  What an edit makes of a version is one.
-/
import Derived.Test.YtmmcikbedegigaaWd
namespace Go.Proofs.Ytmmcikbedegigaa
open Go.RowKit
set_option maxRecDepth 100000
set_option maxHeartbeats 4000000
theorem cmpB_trans {a b c : List (BitVec 8)} (h : cmpB a b < 0) (k : cmpB b c < 0) : cmpB a c < 0 := by
  have h1 : cmpB a b = -1 := by rcases cmpB_vals a b with h | h | h <;> omega
  have h2 : cmpB b c = -1 := by rcases cmpB_vals b c with h | h | h <;> omega
  have := cmpB_lt h1 h2
  omega
theorem cmpB_le_lt {a b c : List (BitVec 8)} (h : cmpB a b ≤ 0) (k : cmpB b c < 0) : cmpB a c < 0 := by
  rcases cmpB_vals a b with e | e | e
  · exact cmpB_trans (by omega) k
  · rw [(cmpB_zero a b).1 e]; exact k
  · omega
theorem cmpF_trans {lev : Nat} {a b c : Fl} (h : cmpF lev a b < 0) (k : cmpF lev b c < 0) : cmpF lev a c < 0 := by
  unfold cmpF cmpN at *
  by_cases hl : lev = 0
  · simp only [hl, if_true] at *; split at h <;> split at k <;> (try split at h) <;> (try split at k) <;> split <;> (try split) <;> omega
  · simp only [hl, if_false] at *; exact cmpB_trans h k
theorem ahead_lt {lev : Nat} {a b : Fl} (h : aheadF lev a b = true) (hw : wrongF a = false) : cmpF lev a b < 0 := by
  unfold aheadF at h
  unfold cmpF cmpN
  by_cases hl : lev = 0
  · simp only [hl, if_true, decide_eq_true_eq] at *; rw [if_pos h]; omega
  · simp only [hl, if_false, decide_eq_true_eq] at *
    obtain ⟨_, _, _, _, _, _, _, _, _, _, h11⟩ := wrongF_false hw
    exact cmpB_le_lt h11 h
theorem ordF_strict (lev : Nat) : ∀ l : List Fl, ordF lev l = true → (∀ x ∈ l, wrongF x = false) → l.Pairwise fun x y => cmpF lev x y < 0
  | [], _, _ => .nil
  | [_], _, _ => by simp
  | a :: b :: r, h, hw => by
    unfold ordF at h
    rw [Bool.and_eq_true] at h
    have ih := ordF_strict lev (b :: r) h.2 fun x hx => hw x (List.mem_cons_of_mem _ hx)
    have hab := ahead_lt h.1 (hw a (by simp))
    refine List.pairwise_cons.2 ⟨fun z hz => ?_, ih⟩
    rcases List.mem_cons.1 hz with rfl | hz
    · exact hab
    · exact cmpF_trans hab ((List.pairwise_cons.1 ih).1 z hz)
theorem sorted_pair {lev : Nat} {l : List Fl} (h : sortedF lev l) : l.Pairwise fun x y => ¬ cmpF lev y x < 0 := by
  rw [List.pairwise_iff_getElem]
  intro i j hi hj hij
  exact h i j _ _ hij (List.getElem?_eq_getElem hi) (List.getElem?_eq_getElem hj)
theorem one_order (lt : Fl → Fl → Prop) : ∀ l1 l2 : List Fl, l1.Pairwise lt → l2.Pairwise (fun x y => ¬ lt y x) → l1.Perm l2 → l1 = l2
  | [], l2, _, _, hp => hp.nil_eq
  | a :: r, [], _, _, hp => by have := hp.length_eq; simp at this
  | a :: r, b :: s, h1, h2, hp => by
    have hab : a = b := by
      by_cases e : a = b
      · exact e
      · have hb : b ∈ r := by
          have := hp.mem_iff.2 (List.mem_cons_self (a := b) (l := s))
          rcases List.mem_cons.1 this with e' | h
          · exact absurd e'.symm e
          · exact h
        have ha : a ∈ s := by
          have := hp.mem_iff.1 (List.mem_cons_self (a := a) (l := r))
          rcases List.mem_cons.1 this with e' | h
          · exact absurd e' e
          · exact h
        exact absurd ((List.pairwise_cons.1 h1).1 b hb) ((List.pairwise_cons.1 h2).1 a ha)
    subst hab
    rw [one_order lt r s (List.pairwise_cons.1 h1).2 (List.pairwise_cons.1 h2).2 (List.perm_cons a |>.1 hp)]
theorem wrongVF_lev {LL : List (List Fl)} {next seq log : Nat} (h : wrongVF LL next seq log = false) {k : Nat} {l : List Fl} (hl : LL[k]? = some l) : wrongLF next k l = false := by
  unfold wrongVF at h
  simp only [Bool.or_eq_false_iff] at h
  have := List.any_eq_false.1 h.1.2 (l, k) (List.mem_zipIdx_iff_getElem?.2 hl)
  simpa using this
theorem comes_one {LL : List (List Fl)} {A : List AddF} {X Y : List (List Fl)} {en es el : Nat} (hl : LL.length = 5) (hx : Comes LL A X) (hy : Comes LL A Y) (hw : wrongVF X en es el = false) : X = Y := by
  apply List.ext_getElem?
  intro k
  by_cases hk : k < 5
  · obtain ⟨l, hl'⟩ : ∃ l, LL[k]? = some l := ⟨_, List.getElem?_eq_getElem (by omega)⟩
    obtain ⟨x, hx'⟩ : ∃ l, X[k]? = some l := ⟨_, List.getElem?_eq_getElem (by rw [hx.1]; omega)⟩
    obtain ⟨y, hy'⟩ : ∃ l, Y[k]? = some l := ⟨_, List.getElem?_eq_getElem (by rw [hy.1]; omega)⟩
    have h1 := hx.2 k l x hl' hx'
    have h2 := hy.2 k l y hl' hy'
    have h3 := wrongVF_lev hw hx'
    unfold wrongLF at h3
    simp only [Bool.or_eq_false_iff, Bool.not_eq_false'] at h3
    have h4 := ordF_strict k x h3.2 fun z hz => by have := List.any_eq_false.1 h3.1.1 z hz; simpa using this
    rw [hx', hy', one_order _ x y h4 (sorted_pair h2.2) (h1.1.trans h2.1.symm)]
  · rw [List.getElem?_eq_none (by rw [hx.1]; omega), List.getElem?_eq_none (by rw [hy.1]; omega)]
theorem len_of_ok {LL : List (List Fl)} {next seq log : Nat} (h : wrongVF LL next seq log = false) : LL.length = 5 := by
  unfold wrongVF at h
  simp only [Bool.or_eq_false_iff, decide_eq_false_iff_not] at h
  omega
theorem ApplyR.one {LL : List (List Fl)} {next seq log : Nat} {D : List (Int × Nat)} {A : List AddF} {en es el : Nat} {r r' : Option (List (List Fl))} {e e' : Int} (h : ApplyR LL next seq log D A en es el r e) (h' : ApplyR LL next seq log D A en es el r' e') : r = r' ∧ e = e' := by
  rcases h with ⟨a, rfl, rfl⟩ | ⟨a, h⟩
  · rcases h' with ⟨b, rfl, rfl⟩ | ⟨b, _⟩
    · exact ⟨rfl, rfl⟩
    · rw [a] at b; cases b
  rcases h' with ⟨b, _⟩ | ⟨_, h'⟩
  · rw [a] at b; cases b
  rcases h with ⟨d, rfl, rfl⟩ | ⟨m, d, h⟩
  · rcases h' with ⟨_, rfl, rfl⟩ | ⟨m', d', _⟩
    · exact ⟨rfl, rfl⟩
    · rw [d] at d'; cases d'
  rcases h' with ⟨d', _⟩ | ⟨m', d', h'⟩
  · rw [d] at d'; cases d'
  rw [d] at d'
  cases d'
  rcases h with ⟨o, rfl, rfl⟩ | ⟨o, h⟩
  · rcases h' with ⟨_, rfl, rfl⟩ | ⟨o', _⟩
    · exact ⟨rfl, rfl⟩
    · rw [o] at o'; cases o'
  rcases h' with ⟨o', _⟩ | ⟨_, h'⟩
  · rw [o] at o'; cases o'
  rcases h with ⟨g, rfl, rfl⟩ | ⟨g, X, hX, h⟩
  · rcases h' with ⟨_, rfl, rfl⟩ | ⟨g', _⟩
    · exact ⟨rfl, rfl⟩
    · rw [g] at g'; cases g'
  rcases h' with ⟨g', _⟩ | ⟨_, Y, hY, h'⟩
  · rw [g] at g'; cases g'
  have hl : (LL.map (List.filter (keepF m))).length = 5 := by rw [List.length_map]; exact len_of_ok a
  rcases h with ⟨p, rfl, rfl⟩ | ⟨p, rfl, rfl⟩
  · rcases h' with ⟨_, rfl, rfl⟩ | ⟨p', _⟩
    · exact ⟨rfl, rfl⟩
    · rw [comes_one hl hY hX p', p] at p'; cases p'
  · rcases h' with ⟨p', _⟩ | ⟨_, rfl, rfl⟩
    · rw [← comes_one hl hX hY p, p] at p'; cases p'
    · exact ⟨by rw [comes_one hl hX hY p], rfl⟩
end Go.Proofs.Ytmmcikbedegigaa
