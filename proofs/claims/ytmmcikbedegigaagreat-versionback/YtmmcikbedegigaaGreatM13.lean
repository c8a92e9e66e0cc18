import Derived.Test.YtmmcikbedegigaaGreatM12
import Derived.Test.YtmmcikbedegigaaGreatM01
/-
  What an edit makes of a version, told by files alone.
-/
namespace Go.Proofs.YtmmcikbedegigaaGreat
open Go.RowKit
set_option maxRecDepth 100000
set_option maxHeartbeats 4000000
def pairsF (LL : List (List Fl)) : List (Nat × Int) := LL.zipIdx.flatMap fun p => p.1.map fun f => (f.no, (p.2 : Int))
theorem pairsL_F (L : List Lv) : pairsL L = pairsF (flL L) := by
  unfold pairsL pairsF flL prs fls
  have : ∀ q, (L.zipIdx q).flatMap (fun p => p.1.l.map fun x => (x.f.no, (p.2 : Int))) = ((L.map fun x => x.l.map Tf.f).zipIdx q).flatMap (fun p => p.1.map fun f => (f.no, (p.2 : Int))) := by
    induction L with
    | nil => intro q; rfl
    | cons x r ih =>
      intro q
      rw [List.zipIdx_cons, List.map_cons, List.zipIdx_cons, List.flatMap_cons, List.flatMap_cons, ih, List.map_map]
      rfl
  exact this 0
def newF (next : Nat) (f : Fl) : Bool := decide (next ≤ f.no)
def wrongLF (next lev : Nat) (l : List Fl) : Bool := l.any wrongF || l.any (newF next) || !ordF lev l
def numsF (LL : List (List Fl)) : List Nat := LL.flatMap fun l => l.map fun f => f.no
def wrongVF (LL : List (List Fl)) (next seq log : Nat) : Bool := headBad next seq log || decide (LL.length ≠ 5) || LL.zipIdx.any (fun p => wrongLF next p.2 p.1) || !decide (numsF LL).Nodup
theorem wrongLv_F (next lev : Nat) (l : List Tf) : wrongLv next lev l = wrongLF next lev (fls l) := by
  unfold wrongLv wrongLF fls
  rw [List.any_map, List.any_map]
  rfl
theorem wrongV_F (L : List Lv) (next seq log : Nat) : wrongV L next seq log = wrongVF (flL L) next seq log := by
  unfold wrongV wrongVF
  have h1 : ∀ q, (L.zipIdx q).any (fun p => wrongLv next p.2 p.1.l) = ((flL L).zipIdx q).any (fun p => wrongLF next p.2 p.1) := by
    unfold flL
    induction L with
    | nil => intro q; rfl
    | cons x r ih =>
      intro q
      rw [List.zipIdx_cons, List.map_cons, List.zipIdx_cons, List.any_cons, List.any_cons, ih, wrongLv_F]
  have h2 : numsL L = numsF (flL L) := by
    unfold numsL numsF flL fls
    rw [List.flatMap_map]
    simp only [List.map_map]
    rfl
  rw [h1 0, h2, flL_length]
def sortedF (lev : Nat) (l : List Fl) : Prop := ∀ (i j : Nat) (x y : Fl), i < j → l[i]? = some x → l[j]? = some y → ¬ cmpF lev y x < 0
theorem SortF.fls {lev : Nat} {l : List Tf} (h : SortF lev l) : sortedF lev (fls l) := fun i j x y hij hx hy => by
  simp only [YtmmcikbedegigaaGreat.fls, List.getElem?_map, Option.map_eq_some_iff] at hx hy
  obtain ⟨x', hx, rfl⟩ := hx
  obtain ⟨y', hy, rfl⟩ := hy
  exact h i j x' y' hij hx hy
abbrev AddF := Int × Fl
def nosF (A : List AddF) : List (Int × Nat) := A.map fun d => (d.1, d.2.no)
def onF (k : Nat) (A : List AddF) : List Fl := (A.filter fun d => decide (d.1 = (k : Int))).map fun d => d.2
def fA (A : List (Int × Tf)) : List AddF := A.map fun d => (d.1, d.2.f)
theorem addNos_F (A : List (Int × Tf)) : addNos A = nosF (fA A) := by simp [addNos, nosF, fA]
theorem addsOn_F (k : Nat) (A : List (Int × Tf)) : addsOn k A = onF k (fA A) := by
  unfold addsOn onF fA
  rw [List.filter_map, List.map_map]
  rfl
/-- What comes of it, ahead of the last look. -/
def Comes (LL : List (List Fl)) (A : List AddF) (LL' : List (List Fl)) : Prop := LL'.length = 5 ∧ ∀ (k : Nat) (l l' : List Fl), LL[k]? = some l → LL'[k]? = some l' → l'.Perm (l ++ onF k A) ∧ sortedF k l'
/-- What Apply answers, told by files alone. -/
def ApplyR (LL : List (List Fl)) (next seq log : Nat) (D : List (Int × Nat)) (A : List AddF) (en es el : Nat) (r : Option (List (List Fl))) (e : Int) : Prop :=
  (wrongVF LL next seq log = true ∧ r = none ∧ e = 2) ∨ (wrongVF LL next seq log = false ∧ ((dropsP (mp (pairsF LL)) D = none ∧ r = none ∧ e = 6) ∨ ∃ m, dropsP (mp (pairsF LL)) D = some m ∧ ((okAdds (mp (pairsF (LL.map (List.filter (keepF m))))) (nosF A) = false ∧ r = none ∧ e = 5) ∨ (okAdds (mp (pairsF (LL.map (List.filter (keepF m))))) (nosF A) = true ∧ ((A.all (fun d => goodLev d.1) = false ∧ r = none ∧ e = 2) ∨ (A.all (fun d => goodLev d.1) = true ∧ ∃ LL', Comes (LL.map (List.filter (keepF m))) A LL' ∧ ((wrongVF LL' en es el = true ∧ r = none ∧ e = 2) ∨ (wrongVF LL' en es el = false ∧ r = some LL' ∧ e = 0))))))))
section
variable {LL : List (List Fl)} {next seq log : Nat} {D : List (Int × Nat)} {A : List AddF} {en es el : Nat}
theorem ApplyR.wrong (h : wrongVF LL next seq log = true) : ApplyR LL next seq log D A en es el none 2 := .inl ⟨h, rfl, rfl⟩
theorem ApplyR.gone (h : wrongVF LL next seq log = false) (hd : dropsP (mp (pairsF LL)) D = none) : ApplyR LL next seq log D A en es el none 6 := .inr ⟨h, .inl ⟨hd, rfl, rfl⟩⟩
theorem ApplyR.there (m : Nat → Option Int) (h : wrongVF LL next seq log = false) (hd : dropsP (mp (pairsF LL)) D = some m) (ha : okAdds (mp (pairsF (LL.map (List.filter (keepF m))))) (nosF A) = false) : ApplyR LL next seq log D A en es el none 5 := .inr ⟨h, .inr ⟨m, hd, .inl ⟨ha, rfl, rfl⟩⟩⟩
theorem ApplyR.lev (m : Nat → Option Int) (h : wrongVF LL next seq log = false) (hd : dropsP (mp (pairsF LL)) D = some m) (ha : okAdds (mp (pairsF (LL.map (List.filter (keepF m))))) (nosF A) = true) (hg : A.all (fun d => goodLev d.1) = false) : ApplyR LL next seq log D A en es el none 2 := .inr ⟨h, .inr ⟨m, hd, .inr ⟨ha, .inl ⟨hg, rfl, rfl⟩⟩⟩⟩
theorem ApplyR.bad (m : Nat → Option Int) (LL' : List (List Fl)) (h : wrongVF LL next seq log = false) (hd : dropsP (mp (pairsF LL)) D = some m) (ha : okAdds (mp (pairsF (LL.map (List.filter (keepF m))))) (nosF A) = true) (hg : A.all (fun d => goodLev d.1) = true) (hc : Comes (LL.map (List.filter (keepF m))) A LL') (hw : wrongVF LL' en es el = true) : ApplyR LL next seq log D A en es el none 2 := .inr ⟨h, .inr ⟨m, hd, .inr ⟨ha, .inr ⟨hg, LL', hc, .inl ⟨hw, rfl, rfl⟩⟩⟩⟩⟩
theorem ApplyR.ok (m : Nat → Option Int) (LL' : List (List Fl)) (h : wrongVF LL next seq log = false) (hd : dropsP (mp (pairsF LL)) D = some m) (ha : okAdds (mp (pairsF (LL.map (List.filter (keepF m))))) (nosF A) = true) (hg : A.all (fun d => goodLev d.1) = true) (hc : Comes (LL.map (List.filter (keepF m))) A LL') (hw : wrongVF LL' en es el = false) : ApplyR LL next seq log D A en es el (some LL') 0 := .inr ⟨h, .inr ⟨m, hd, .inr ⟨ha, .inr ⟨hg, LL', hc, .inr ⟨hw, rfl, rfl⟩⟩⟩⟩⟩
end
/-- A sum over all files. -/
def wt (f : Fl → Nat) (LL : List (List Fl)) : Nat := (LL.map fun l => (l.map f).sum).sum
theorem cnt_wt (L : List Lv) : cnt L = wt (fun _ => 1) (flL L) := by
  unfold cnt wt flL fls
  rw [List.map_map]
  congr 1
  refine List.map_congr_left fun x _ => ?_
  show x.l.length = ((x.l.map Tf.f).map fun _ => 1).sum
  induction x.l with
  | nil => rfl
  | cons y r ih => simp only [List.length_cons, List.map_cons, List.sum_cons]; omega
def keyF (f : Fl) : Nat := f.least.length + f.most.length
theorem byts_wt (L : List Lv) : byts L = wt keyF (flL L) := by
  unfold byts wt flL fls
  rw [List.map_map]
  congr 1
  refine List.map_congr_left fun x _ => ?_
  show (x.l.map keyB).sum = ((x.l.map Tf.f).map keyF).sum
  rw [List.map_map]
  rfl
theorem wt_filter (f : Fl → Nat) (p : Fl → Bool) : ∀ LL : List (List Fl), wt f (LL.map (List.filter p)) ≤ wt f LL
  | [] => Nat.le_refl _
  | l :: r => by
    have h1 := wt_filter f p r
    have h2 : ((l.filter p).map f).sum ≤ (l.map f).sum := by
      induction l with
      | nil => simp
      | cons x r ih =>
        rw [List.filter_cons]
        split <;> simp <;> omega
    unfold wt at *
    simp only [List.map_cons, List.sum_cons]
    omega
theorem len5 {α : Type} {l : List α} (h : l.length = 5) : ∃ a b c d e, l = [a, b, c, d, e] := by
  match l, h with
  | [a, b, c, d, e], _ => exact ⟨a, b, c, d, e, rfl⟩
theorem on_sum (f : Fl → Nat) : ∀ A : List AddF, ((onF 0 A).map f).sum + ((onF 1 A).map f).sum + ((onF 2 A).map f).sum + ((onF 3 A).map f).sum + ((onF 4 A).map f).sum ≤ (A.map fun d => f d.2).sum
  | [] => by simp [onF]
  | d :: r => by
    have ih := on_sum f r
    have h : ∀ k : Nat, ((onF k (d :: r)).map f).sum = (if d.1 = (k : Int) then f d.2 else 0) + ((onF k r).map f).sum := fun k => by
      unfold onF
      by_cases e : d.1 = (k : Int) <;> simp [e]
    rw [h 0, h 1, h 2, h 3, h 4]
    simp only [List.map_cons, List.sum_cons]
    split
    · rw [if_neg (by omega), if_neg (by omega), if_neg (by omega), if_neg (by omega)]; omega
    · split
      · rw [if_neg (by omega), if_neg (by omega), if_neg (by omega)]; omega
      · split
        · rw [if_neg (by omega), if_neg (by omega)]; omega
        · split
          · rw [if_neg (by omega)]; omega
          · split <;> omega
theorem sum_perm {f : Fl → Nat} {l l' : List Fl} (h : l.Perm l') : (l.map f).sum = (l'.map f).sum := (h.map f).sum_nat
theorem wt_comes (f : Fl → Nat) {LL LL' : List (List Fl)} {A : List AddF} (hl : LL.length = 5) (h : Comes LL A LL') : wt f LL' ≤ wt f LL + (A.map fun d => f d.2).sum := by
  obtain ⟨a, b, c, d, e, rfl⟩ := len5 hl
  obtain ⟨hl', hp⟩ := h
  obtain ⟨a', b', c', d', e', rfl⟩ := len5 hl'
  have h0 := sum_perm (f := f) (hp 0 a a' rfl rfl).1
  have h1 := sum_perm (f := f) (hp 1 b b' rfl rfl).1
  have h2 := sum_perm (f := f) (hp 2 c c' rfl rfl).1
  have h3 := sum_perm (f := f) (hp 3 d d' rfl rfl).1
  have h4 := sum_perm (f := f) (hp 4 e e' rfl rfl).1
  have h5 := on_sum f A
  simp only [List.map_append, List.sum_append] at h0 h1 h2 h3 h4
  simp only [wt, List.map_cons, List.map_nil, List.sum_cons, List.sum_nil]
  omega
end Go.Proofs.YtmmcikbedegigaaGreat

/-
  An edit's bytes, and how they are read: plain mathematics.
-/
namespace Go.Proofs.YtmmcikbedegigaaGreat
set_option maxRecDepth 100000
/-- What is left to be read, or nothing behind a fault. -/
abbrev GS := Option (List (BitVec 8))
def numG (g : GS) : Option (Nat × List (BitVec 8)) :=
  match g with
  | none => none
  | some l => match rdShort l with
    | .error _ => none
    | .ok (x, k) => if x ≤ 4611686018427387904 then some (x, l.drop k) else none
def cntG (g : GS) : Option (Nat × List (BitVec 8)) := (numG g).bind fun q => if q.1 ≤ 10000 then some q else none
def pieceG (g : GS) : Option (List (BitVec 8) × List (BitVec 8)) :=
  match g with
  | none => none
  | some l => match rdPiece l with
    | .error _ => none
    | .ok q => some q
def sndG {α : Type} (o : Option (α × List (BitVec 8))) : GS := o.map fun q => q.2
theorem numG_short (x : Nat) (h : x ≤ 4611686018427387904) (r : List (BitVec 8)) : numG (some (short x ++ r)) = some (x, r) := by
  unfold numG
  simp only
  rw [rdShort_short x (by omega)]
  simp only
  rw [if_pos h, List.drop_left]
theorem cntG_short (x : Nat) (h : x ≤ 10000) (r : List (BitVec 8)) : cntG (some (short x ++ r)) = some (x, r) := by
  unfold cntG
  rw [numG_short x (by omega)]
  show (if x ≤ 10000 then _ else _) = _
  rw [if_pos h]
theorem pieceG_piece (p r : List (BitVec 8)) (h : p.length ≤ 1048576) : pieceG (some (pieceB p ++ r)) = some (p, r) := by
  unfold pieceG
  simp only
  rw [rdPiece_ok p r h]
theorem numG_none : numG none = none := rfl
theorem numG_le {g : GS} {x : Nat} {r : List (BitVec 8)} (h : numG g = some (x, r)) : x ≤ 4611686018427387904 := by
  unfold numG at h
  split at h
  · cases h
  · split at h
    · cases h
    · split at h
      · cases h; assumption
      · cases h
/-- A number as the 64 bits have it. -/
def u64N (z : Int) : Nat := (z % 18446744073709551616).toNat
theorem u64N_lt (z : Int) : u64N z < 18446744073709551616 := by unfold u64N; omega
theorem u64N_of {z : Int} (h0 : 0 ≤ z) (h1 : z ≤ 4611686018427387904) : u64N z = z.toNat := by unfold u64N; omega
/-- A drop's bytes, an add's, an edit's. -/
def dropB (d : Int × Nat) : List (BitVec 8) := short (u64N d.1) ++ short d.2
def addN (d : AddF) : List Nat := [u64N d.1, d.2.no, u64N d.2.size, u64N d.2.ents, d.2.seq]
def addB (d : AddF) : List (BitVec 8) := (addN d).flatMap short ++ (pieceB d.2.least ++ pieceB d.2.most)
theorem addB_all (d : AddF) : addB d = short (u64N d.1) ++ (short d.2.no ++ (short (u64N d.2.size) ++ (short (u64N d.2.ents) ++ (short d.2.seq ++ (pieceB d.2.least ++ pieceB d.2.most))))) := by
  unfold addB addN
  simp only [List.flatMap_cons, List.flatMap_nil, List.append_nil, List.append_assoc]
def headB (next seq log : Nat) : List (BitVec 8) := short next ++ (short seq ++ short log)
def dropsB (D : List (Int × Nat)) : List (BitVec 8) := D.flatMap dropB
def addsB (A : List AddF) : List (BitVec 8) := A.flatMap addB
def editB (next seq log : Nat) (D : List (Int × Nat)) (A : List AddF) : List (BitVec 8) := headB next seq log ++ (short D.length ++ (dropsB D ++ (short A.length ++ addsB A)))
def numsG (g : GS) : Option ((Nat × Nat × Nat) × List (BitVec 8)) := (numG g).bind fun a => (numG (some a.2)).bind fun b => (numG (some b.2)).map fun c => ((a.1, b.1, c.1), c.2)
def dropG (g : GS) : Option ((Int × Nat) × List (BitVec 8)) := (numG g).bind fun a => (numG (some a.2)).map fun b => (((a.1 : Int), b.1), b.2)
def fileG (g : GS) : Option (Fl × List (BitVec 8)) := (numG g).bind fun a => (numG (some a.2)).bind fun b => (numG (some b.2)).bind fun c => (numG (some c.2)).bind fun d => (pieceG (some d.2)).bind fun e => (pieceG (some e.2)).map fun f => (⟨a.1, (b.1 : Int), e.1, f.1, (c.1 : Int), d.1⟩, f.2)
def addG (g : GS) : Option (AddF × List (BitVec 8)) := (numG g).bind fun a => (fileG (some a.2)).map fun b => (((a.1 : Int), b.1), b.2)
/-- So many, one behind the other. -/
def repG {α : Type} (f : GS → Option (α × List (BitVec 8))) : Nat → GS → Option (List α × List (BitVec 8))
  | 0, g => g.map fun r => ([], r)
  | k + 1, g => (repG f k g).bind fun q => (f (some q.2)).map fun d => (q.1 ++ [d.1], d.2)
theorem repG_len {α : Type} {f : GS → Option (α × List (BitVec 8))} : ∀ {k : Nat} {g : GS} {l : List α} {r : List (BitVec 8)}, repG f k g = some (l, r) → l.length = k
  | 0, g, l, r, h => by
    simp only [repG, Option.map_eq_some_iff] at h
    obtain ⟨x, _, e⟩ := h
    cases e; rfl
  | k + 1, g, l, r, h => by
    simp only [repG, Option.bind_eq_some_iff, Option.map_eq_some_iff] at h
    obtain ⟨q, h1, d, _, e⟩ := h
    cases e
    have := repG_len (l := q.1) (r := q.2) h1
    simp [this]
theorem repG_enc {α : Type} (f : GS → Option (α × List (BitVec 8))) (b : α → List (BitVec 8)) : ∀ (L : List α) (r : List (BitVec 8)), (∀ x ∈ L, ∀ r, f (some (b x ++ r)) = some (x, r)) → ∀ k, k ≤ L.length → repG f k (some (L.flatMap b ++ r)) = some (L.take k, (L.drop k).flatMap b ++ r)
  | L, r, h, 0, _ => rfl
  | L, r, h, k + 1, hk => by
    have h1 := repG_enc f b L r h k (by omega)
    have hx : L[k]? = some L[k] := List.getElem?_eq_getElem (by omega)
    have hd : L.drop k = L[k] :: L.drop (k + 1) := List.drop_eq_getElem_cons (by omega)
    show (repG f k _).bind _ = _
    rw [h1]
    show (f (some ((L.drop k).flatMap b ++ r))).map _ = _
    rw [hd, List.flatMap_cons, List.append_assoc, h _ (List.getElem_mem _)]
    show some (L.take k ++ [L[k]], _) = _
    rw [List.take_add_one, hx]
    rfl
def countG {α : Type} (f : GS → Option (α × List (BitVec 8))) (g : GS) : Option (List α × List (BitVec 8)) := (cntG g).bind fun q => repG f q.1 (some q.2)
theorem countG_enc {α : Type} (f : GS → Option (α × List (BitVec 8))) (b : α → List (BitVec 8)) (L : List α) (r : List (BitVec 8)) (h : ∀ x ∈ L, ∀ r, f (some (b x ++ r)) = some (x, r)) (hl : L.length ≤ 10000) : countG f (some (short L.length ++ (L.flatMap b ++ r))) = some (L, r) := by
  unfold countG
  rw [cntG_short _ hl]
  show repG f L.length (some (L.flatMap b ++ r)) = _
  rw [repG_enc f b L r h L.length (Nat.le_refl _)]
  simp
/-- What Parse reads. -/
def parseG (p : List (BitVec 8)) : Option ((Nat × Nat × Nat) × List (Int × Nat) × List AddF) := (numsG (some p)).bind fun a => (countG dropG (some a.2)).bind fun b => (countG addG (some b.2)).bind fun c => if c.2 = [] then some (a.1, b.1, c.1) else none
/-- Numbers that are read again. -/
def okDrop (d : Int × Nat) : Prop := 0 ≤ d.1 ∧ d.1 ≤ 4611686018427387904 ∧ d.2 ≤ 4611686018427387904
def okAdd (d : AddF) : Prop := 0 ≤ d.1 ∧ d.1 ≤ 4611686018427387904 ∧ d.2.no ≤ 4611686018427387904 ∧ 0 ≤ d.2.size ∧ d.2.size ≤ 4611686018427387904 ∧ 0 ≤ d.2.ents ∧ d.2.ents ≤ 4611686018427387904 ∧ d.2.seq ≤ 4611686018427387904 ∧ d.2.least.length ≤ 1048576 ∧ d.2.most.length ≤ 1048576
theorem dropG_enc (d : Int × Nat) (h : okDrop d) (r : List (BitVec 8)) : dropG (some (dropB d ++ r)) = some (d, r) := by
  obtain ⟨l, n⟩ := d
  obtain ⟨h1, h2, h3⟩ := h
  simp only at h1 h2 h3
  unfold dropG dropB
  rw [List.append_assoc, u64N_of h1 h2, numG_short _ (by omega)]
  show (numG (some (short n ++ r))).map _ = _
  rw [numG_short _ h3]
  show some ((((l.toNat : Nat) : Int), n), r) = _
  rw [Int.toNat_of_nonneg h1]
theorem fileG_enc (f : Fl) (l : Int) (h : okAdd (l, f)) (r : List (BitVec 8)) : fileG (some (short f.no ++ (short (u64N f.size) ++ (short (u64N f.ents) ++ (short f.seq ++ (pieceB f.least ++ (pieceB f.most ++ r))))))) = some (f, r) := by
  obtain ⟨no, sz, ls, ms, en, sq⟩ := f
  obtain ⟨_, _, h3, h4, h5, h6, h7, h8, h9, h10⟩ := h
  simp only at h3 h4 h5 h6 h7 h8 h9 h10
  unfold fileG
  simp only
  rw [u64N_of h4 h5, u64N_of h6 h7, numG_short _ h3, Option.bind_some]
  rw [numG_short _ (by omega), Option.bind_some]
  rw [numG_short _ (by omega), Option.bind_some]
  rw [numG_short _ h8, Option.bind_some]
  rw [pieceG_piece _ _ h9, Option.bind_some]
  rw [pieceG_piece _ _ h10, Option.map_some]
  simp only
  rw [Int.toNat_of_nonneg h4, Int.toNat_of_nonneg h6]
theorem addG_enc (d : AddF) (h : okAdd d) (r : List (BitVec 8)) : addG (some (addB d ++ r)) = some (d, r) := by
  obtain ⟨l, f⟩ := d
  have h1 := h.1
  have h2 := h.2.1
  simp only at h1 h2
  unfold addG
  rw [addB_all]
  simp only [List.append_assoc]
  rw [u64N_of h1 h2, numG_short _ (by omega), Option.bind_some, fileG_enc f l h r, Option.map_some]
  simp only
  rw [Int.toNat_of_nonneg h1]
theorem parseG_enc (next seq log : Nat) (D : List (Int × Nat)) (A : List AddF) (h1 : next ≤ 4611686018427387904) (h2 : seq ≤ 4611686018427387904) (h3 : log ≤ 4611686018427387904) (hd : ∀ d ∈ D, okDrop d) (ha : ∀ d ∈ A, okAdd d) (ld : D.length ≤ 10000) (la : A.length ≤ 10000) : parseG (editB next seq log D A) = some ((next, seq, log), D, A) := by
  unfold parseG editB numsG headB
  simp only [List.append_assoc]
  rw [numG_short _ h1, Option.bind_some, numG_short _ h2, Option.bind_some, numG_short _ h3, Option.map_some, Option.bind_some]
  simp only
  have e1 : countG dropG (some (short D.length ++ (dropsB D ++ (short A.length ++ addsB A)))) = some (D, short A.length ++ addsB A) := countG_enc dropG dropB D _ (fun x hx r => dropG_enc x (hd x hx) r) ld
  have e2 : countG addG (some (short A.length ++ addsB A)) = some (A, []) := by
    have := countG_enc addG addB A [] (fun x hx r => addG_enc x (ha x hx) r) la
    rwa [List.append_nil] at this
  rw [e1, Option.bind_some]
  simp only
  rw [e2, Option.bind_some]
  simp
/-- A version is made anew of its whole edit. -/
def void5 : List (List Fl) := [[], [], [], [], []]
end Go.Proofs.YtmmcikbedegigaaGreat

/-
  tell; Apply.
-/
namespace Go.Proofs.YtmmcikbedegigaaGreat
open Go.RowKit
set_option maxRecDepth 100000
set_option maxHeartbeats 4000000
section
variable {P : Program}
theorem results_cell_tmp {fn : Func} {j p : Tmp} {ty : TypeId} (h : fn.results = #[.cell p ty, .tmp j]) (tmps : Array Value) (w : World) (u : Value) (g : Nat) (t : TypeId) (cs : Array Value) (fr : Nat × Nat) (d : TypeDesc)
    (hu' : tmps.getD j undef = u) (hp : tmps.getD p undef = .pointer (some ⟨g, 0, none⟩)) (hg : w.heap[g]? = some (.cells cs t fr))
    (hu : P.underlying ty = some d) (hd : (match d with | .struct _ | .array _ _ => true | _ => false) = true) (hi : (P.info? ty).map (·.size) = some cs.size) :
    (results fn tmps).run P w = .ok (.tuple #[.agg cs, u]) w := by
  have hp' : tmps[p]?.getD undef = .pointer (some ⟨g, 0, none⟩) := by simpa using hp
  have hw' : tmps[j]?.getD undef = u := by simpa using hu'
  simp [results, h, hp', hw', asAddr, run_loadVar_row w g t ty cs fr d hg hu hd hi]
end
theorem sz25 : (Tryz.prog.info? 27).map (·.size) = some 4 := by kernel_rfl
def zeroVer : Value := .agg #[.slice none 0 0, .int .u64 0, .int .u64 0, .int .u64 0]
theorem tell_any (a : Option Addr) (c next seq log : Nat) (L : List Lv) (w : World) (h : VerIn w a 5 L next seq log) :
    Calls Tryz.prog 20 #[verAgg a 5 c next seq log] w fun e w' => e = .returned (.tuple #[if wrongV L next seq log then zeroVer else verAgg a 5 c next seq log, .int .i64 (chkV L next seq log)]) ∧ Turns (fun _ => False) w w' := by
  have TA := hide ((((Turns.refl (fun _ => False) w).alloc (.cells #[.slice a 5 c, .int .u64 (next : Nat), .int .u64 (seq : Nat), .int .u64 (log : Nat)] 61)).alloc (.cells #[.slice none 0 0, .int .u64 0, .int .u64 0, .int .u64 0] 27)).alloc (.cells #[.slice a 5 c, .int .u64 (next : Nat), .int .u64 (seq : Nat), .int .u64 (log : Nat)] 27))
  have R1 := hide (((Turns.refl (fun _ => False) ((w.alloc (.cells #[.slice a 5 c, .int .u64 (next : Nat), .int .u64 (seq : Nat), .int .u64 (log : Nat)] 61)).alloc (.cells #[.slice none 0 0, .int .u64 0, .int .u64 0, .int .u64 0] 27))).alloc (.cells #[.slice a 5 c, .int .u64 (next : Nat), .int .u64 (seq : Nat), .int .u64 (log : Nat)] 27)).heap (heap_alloc_new (w.alloc (.cells #[.slice a 5 c, .int .u64 (next : Nat), .int .u64 (seq : Nat), .int .u64 (log : Nat)] 61)) (.cells #[.slice none 0 0, .int .u64 0, .int .u64 0, .int .u64 0] 27)) (fun x => x))
  have R2 := hide (heap_alloc_new ((w.alloc (.cells #[.slice a 5 c, .int .u64 (next : Nat), .int .u64 (seq : Nat), .int .u64 (log : Nat)] 61)).alloc (.cells #[.slice none 0 0, .int .u64 0, .int .u64 0, .int .u64 0] 27)) (.cells #[.slice a 5 c, .int .u64 (next : Nat), .int .u64 (seq : Nat), .int .u64 (log : Nat)] 27))
  simp only [World.size_alloc] at R1 R2
  have CK := hide (check_any a 5 c next seq log L _ (h.quiet TA.out))
  have HV := hide (show chkV L next seq log = if wrongV L next seq log then 2 else 0 from rfl)
  unfold verAgg at *
  clear h
  generalize hV : wrongV L next seq log = V at *
  generalize chkV L next seq log = CV at *
  clear hV
  go_enter Tryz.func20, Tryz.ntmps20
  go_wp2_with fail
  refine CK.out.mono ?_
  rintro e w1 ⟨rfl, t1⟩
  have T1 := hide (TA.out.trans t1)
  have q1 := t1.heap R1.out (fun x => x)
  have q2 := t1.heap R2.out (fun x => x)
  have Q1 := hide q1
  have c0 := cell_of_row w1 (w.heap.size + 1 + 1) 0 _ 27 (0, 0) q2
  have c1 := cell_of_row w1 (w.heap.size + 1 + 1) 1 _ 27 (0, 0) q2
  have c2 := cell_of_row w1 (w.heap.size + 1 + 1) 2 _ 27 (0, 0) q2
  have c3 := cell_of_row w1 (w.heap.size + 1 + 1) 3 _ 27 (0, 0) q2
  have d0 := cell_of_row w1 (w.heap.size + 1) 0 _ 27 (0, 0) q1
  have d1 := cell_of_row w1 (w.heap.size + 1) 1 _ 27 (0, 0) q1
  have d2 := cell_of_row w1 (w.heap.size + 1) 2 _ 27 (0, 0) q1
  have d3 := cell_of_row w1 (w.heap.size + 1) 3 _ 27 (0, 0) q1
  have f0 := frozen_of_row w1 (w.heap.size + 1) 0 _ 27 q1
  have f1 := frozen_of_row w1 (w.heap.size + 1) 1 _ 27 q1
  have f2 := frozen_of_row w1 (w.heap.size + 1) 2 _ 27 q1
  have f3 := frozen_of_row w1 (w.heap.size + 1) 3 _ 27 q1
  clear q1 q2 t1 CK
  generalize hg : w.heap.size = g at *
  cases V
  · have hcv : CV = 0 := HV.out
    subst hcv
    go_wp2_with fail
    have tk := ((((Tick.refl Q1.out).set 0 (.slice a 5 c)).set 1 (.int .u64 (next : Nat))).set 2 (.int .u64 (seq : Nat))).set 3 (.int .u64 (log : Nat))
    refine bodyPost_ret (v := .tuple #[.agg #[.slice a 5 c, .int .u64 (next : Nat), .int .u64 (seq : Nat), .int .u64 (log : Nat)], .int .i64 0]) ?_ rfl ?_
    · exact results_cell_tmp Tryz.results20 _ _ _ _ _ _ _ _ rfl rfl tk.1 Tryz.underlying27 rfl sz25
    · exact ⟨rfl, T1.out.andThen (Turns.of_tick tk) fun j hj e => by omega⟩
  · have hcv : CV = 2 := HV.out
    subst hcv
    go_wp2_with fail
    have tk := ((((Tick.refl Q1.out).set 0 (.slice none 0 0)).set 1 (.int .u64 0)).set 2 (.int .u64 0)).set 3 (.int .u64 0)
    refine bodyPost_ret (v := .tuple #[.agg #[.slice none 0 0, .int .u64 0, .int .u64 0, .int .u64 0], .int .i64 2]) ?_ rfl ?_
    · exact results_cell_tmp Tryz.results20 _ _ _ _ _ _ _ _ rfl rfl tk.1 Tryz.underlying27 rfl sz25
    · exact ⟨rfl, T1.out.andThen (Turns.of_tick tk) fun j hj e => by omega⟩
end Go.Proofs.YtmmcikbedegigaaGreat

/-
  Apply.
-/
namespace Go.Proofs.YtmmcikbedegigaaGreat
open Go.RowKit
set_option maxRecDepth 100000
set_option maxHeartbeats 4000000
theorem keep4 {w : World} {a : Addr} {v : Value} {G : Nat} (h : w.cell? a = some v) (hne : a.block ≠ G) (v0 v1 v2 v3 : Value) : ((((w.setCell ⟨G, 0, none⟩ v0).setCell ⟨G, 1, none⟩ v1).setCell ⟨G, 2, none⟩ v2).setCell ⟨G, 3, none⟩ v3).cell? a = some v := by
  have : Turns (fun k => k = G) w ((((w.setCell ⟨G, 0, none⟩ v0).setCell ⟨G, 1, none⟩ v1).setCell ⟨G, 2, none⟩ v2).setCell ⟨G, 3, none⟩ v3) := turns_setCells G 0 [v0, v1, v2, v3] w
  exact this.cell h hne
theorem DR.mono {w : World} {B B' G N : Nat} {L : List Lv} (h : DR w B G N L) (hB : B' ≤ B) : DR w B' G N L := ⟨h.head, Nat.le_trans hB h.hG, fun k x hx => (h.rows k x hx).mono hB, h.apart, fun x hx y hy => (h.files x hx y hy).mono hB⟩
/-- An edit as a value. -/
def edAgg (da : Option Addr) (dn dc : Nat) (aa : Option Addr) (an ac en es el : Nat) : Value := .agg #[.slice da dn dc, .slice aa an ac, .int .u64 (en : Nat), .int .u64 (es : Nat), .int .u64 (el : Nat)]
/-- An edit in memory. -/
structure EdIn (w : World) (da : Option Addr) (dn : Nat) (aa : Option Addr) (an : Nat) (D : List (Int × Nat)) (A : List (Int × Tf)) (en es el : Nat) : Prop where
  drops : Drops w da D
  dlen : dn = D.length
  dmx : dn ≤ 1000
  adds : Adds w aa A
  alen : an = A.length
  amx : an ≤ 4000
  fit : ∀ d ∈ A, d.2.f.no < 18446744073709551616 ∧ d.2.f.least.length ≤ 1000000 ∧ d.2.f.most.length ≤ 1000000
  b1 : en < 18446744073709551616
  b2 : es < 18446744073709551616
  b3 : el < 18446744073709551616
theorem EdIn.quiet {w w' : World} {da : Option Addr} {dn : Nat} {aa : Option Addr} {an : Nat} {D : List (Int × Nat)} {A : List (Int × Tf)} {en es el : Nat} (h : EdIn w da dn aa an D A en es el) (t : Turns (fun _ => False) w w') : EdIn w' da dn aa an D A en es el := { h with drops := h.drops.quiet t, adds := h.adds.quiet t }
/-- What Apply answers. -/
def Applied (w0 w' : World) (LL : List (List Fl)) (next seq log : Nat) (D : List (Int × Nat)) (A : List AddF) (en es el : Nat) (e : Ending) : Prop :=
  ∃ (v : Value) (er : Int) (r : Option (List (List Fl))), e = .returned (.tuple #[v, .int .i64 er]) ∧ ApplyR LL next seq log D A en es el r er ∧ (r = none → v = zeroVer) ∧ (∀ LL', r = some LL' → ∃ G c L', v = verAgg (some ⟨G, 0, none⟩) 5 c en es el ∧ flL L' = LL' ∧ VerIn w' (some ⟨G, 0, none⟩) 5 L' en es el ∧ DR w' w0.heap.size G 5 L')
theorem comes_of {w' : World} {B G : Nat} {L : List Lv} {A : List (Int × Tf)} {L' : List Lv} (h : ∀ (k : Nat) (x x' : Lv), L[k]? = some x → L'[k]? = some x' → (fls x'.l).Perm (fls x.l ++ addsOn k A) ∧ SortF k x'.l) (hl : L'.length = 5) (_ : DR w' B G 5 L') : Comes (flL L) (fA A) (flL L') := by
  refine ⟨by rw [flL_length]; exact hl, fun k l l' hk hk' => ?_⟩
  simp only [flL, List.getElem?_map, Option.map_eq_some_iff] at hk hk'
  obtain ⟨x, hx, rfl⟩ := hk
  obtain ⟨x', hx', rfl⟩ := hk'
  have h1 := h k x x' hx hx'
  rw [addsOn_F] at h1
  exact ⟨h1.1, h1.2.fls⟩
theorem fit_of {L L2 L3 : List Lv} {A : List (Int × Tf)} {p : Fl → Bool} (hf : Fit L) (hfl : flL L2 = (flL L).map (List.filter p)) (hA : ∀ d ∈ A, d.2.f.no < 18446744073709551616) (hc : Comes (flL L2) (fA A) (flL L3)) (hl2 : L2.length = 5) : Fit L3 := fun x hx y hy => by
  obtain ⟨k, hk⟩ := List.getElem?_of_mem hx
  have hk5 := (List.getElem?_eq_some_iff.1 hk).1
  have hl3 := hc.1
  rw [flL_length] at hl3
  obtain ⟨x2, hx2⟩ : ∃ x2, L2[k]? = some x2 := ⟨_, List.getElem?_eq_getElem (by omega)⟩
  have h1 := (hc.2 k _ _ (flL_at hx2) (flL_at hk)).1
  have h2 : y.f ∈ fls x2.l ++ onF k (fA A) := h1.mem_iff.1 (List.mem_map.2 ⟨y, hy, rfl⟩)
  rcases List.mem_append.1 h2 with h3 | h3
  · have h4 := flL_at hx2
    rw [hfl, List.getElem?_map, Option.map_eq_some_iff] at h4
    obtain ⟨l, hl, e⟩ := h4
    rw [← e] at h3
    have h5 := (List.mem_filter.1 h3).1
    simp only [flL, List.getElem?_map, Option.map_eq_some_iff] at hl
    obtain ⟨x0, hx0, rfl⟩ := hl
    obtain ⟨y0, hy0, e0⟩ := List.mem_map.1 h5
    rw [← e0]
    exact hf x0 (List.mem_of_getElem? hx0) y0 hy0
  · unfold onF fA at h3
    obtain ⟨d, hd, e⟩ := List.mem_map.1 h3
    obtain ⟨d0, hd0, rfl⟩ := List.mem_map.1 (List.mem_filter.1 hd).1
    rw [← e]
    exact hA d0 hd0
theorem apply_any (a : Option Addr) (n c next seq log : Nat) (L : List Lv) (da : Option Addr) (dn dc : Nat) (aa : Option Addr) (an ac en es el : Nat) (D : List (Int × Nat)) (A : List (Int × Tf)) (w : World) (h : VerIn w a n L next seq log) (hE : EdIn w da dn aa an D A en es el)
    (hcn : cnt L + an ≤ 5000) (hby : byts L + ((fA A).map fun d => keyF d.2).sum ≤ 600000) :
    Calls Tryz.prog 7 #[verAgg a n c next seq log, edAgg da dn dc aa an ac en es el] w fun e w' => Turns (fun _ => False) w w' ∧ Applied w w' (flL L) next seq log D (fA A) en es el e := by
  have TA := hide ((((Turns.refl (fun _ => False) w).alloc (.cells #[.slice a n c, .int .u64 (next : Nat), .int .u64 (seq : Nat), .int .u64 (log : Nat)] 27)).alloc (.cells #[.slice da dn dc, .slice aa an ac, .int .u64 (en : Nat), .int .u64 (es : Nat), .int .u64 (el : Nat)] 33)).alloc (.cells #[.slice none 0 0, .int .u64 0, .int .u64 0, .int .u64 0] 27))
  have R0 := hide ((((Turns.refl (fun _ => False) (w.alloc (.cells #[.slice a n c, .int .u64 (next : Nat), .int .u64 (seq : Nat), .int .u64 (log : Nat)] 27))).alloc (.cells #[.slice da dn dc, .slice aa an ac, .int .u64 (en : Nat), .int .u64 (es : Nat), .int .u64 (el : Nat)] 33)).alloc (.cells #[.slice none 0 0, .int .u64 0, .int .u64 0, .int .u64 0] 27)).heap (heap_alloc_new w (.cells #[.slice a n c, .int .u64 (next : Nat), .int .u64 (seq : Nat), .int .u64 (log : Nat)] 27)) (fun x => x))
  have R1 := hide (((Turns.refl (fun _ => False) ((w.alloc (.cells #[.slice a n c, .int .u64 (next : Nat), .int .u64 (seq : Nat), .int .u64 (log : Nat)] 27)).alloc (.cells #[.slice da dn dc, .slice aa an ac, .int .u64 (en : Nat), .int .u64 (es : Nat), .int .u64 (el : Nat)] 33))).alloc (.cells #[.slice none 0 0, .int .u64 0, .int .u64 0, .int .u64 0] 27)).heap (heap_alloc_new (w.alloc (.cells #[.slice a n c, .int .u64 (next : Nat), .int .u64 (seq : Nat), .int .u64 (log : Nat)] 27)) (.cells #[.slice da dn dc, .slice aa an ac, .int .u64 (en : Nat), .int .u64 (es : Nat), .int .u64 (el : Nat)] 33)) (fun x => x))
  have R2 := hide (heap_alloc_new ((w.alloc (.cells #[.slice a n c, .int .u64 (next : Nat), .int .u64 (seq : Nat), .int .u64 (log : Nat)] 27)).alloc (.cells #[.slice da dn dc, .slice aa an ac, .int .u64 (en : Nat), .int .u64 (es : Nat), .int .u64 (el : Nat)] 33)) (.cells #[.slice none 0 0, .int .u64 0, .int .u64 0, .int .u64 0] 27))
  simp only [World.size_alloc] at R1 R2
  have CK := hide (check_any a n c next seq log L _ (h.quiet TA.out))
  have HV := hide (show chkV L next seq log = if wrongV L next seq log then 2 else 0 from rfl)
  have HVI := hide h
  have HEI := hide hE
  have HCN := hide hcn
  have HBY := hide hby
  unfold edAgg
  unfold verAgg at CK ⊢
  clear h hE hcn hby
  generalize hV : wrongV L next seq log = V at *
  have HWV := hide (show wrongVF (flL L) next seq log = V by rw [← wrongV_F]; exact hV)
  clear hV
  generalize chkV L next seq log = CV at *
  go_enter Tryz.func7, Tryz.ntmps7
  go_wp2_with fail
  refine CK.out.mono ?_
  rintro e w1 ⟨rfl, t1⟩
  have T1 := hide (TA.out.trans t1)
  have Q0 := hide (t1.heap R0.out (fun x => x))
  have Q1 := hide (t1.heap R1.out (fun x => x))
  have Q2 := hide (t1.heap R2.out (fun x => x))
  clear t1 CK R0 R1 R2
  generalize hg : w.heap.size = g at *
  have HG := hide hg
  clear hg
  cases V with
  | true =>
    have hcv : CV = 2 := HV.out
    subst hcv
    have d0 := cell_of_row w1 (g + 1 + 1) 0 _ 27 (0, 0) Q2.out
    have d1 := cell_of_row w1 (g + 1 + 1) 1 _ 27 (0, 0) Q2.out
    have d2 := cell_of_row w1 (g + 1 + 1) 2 _ 27 (0, 0) Q2.out
    have d3 := cell_of_row w1 (g + 1 + 1) 3 _ 27 (0, 0) Q2.out
    have f0 := frozen_of_row w1 (g + 1 + 1) 0 _ 27 Q2.out
    have f1 := frozen_of_row w1 (g + 1 + 1) 1 _ 27 Q2.out
    have f2 := frozen_of_row w1 (g + 1 + 1) 2 _ 27 Q2.out
    have f3 := frozen_of_row w1 (g + 1 + 1) 3 _ 27 Q2.out
    go_wp2_with fail
    have tk := ((((Tick.refl Q2.out).set 0 (.slice none 0 0)).set 1 (.int .u64 0)).set 2 (.int .u64 0)).set 3 (.int .u64 0)
    refine bodyPost_ret (v := .tuple #[.agg #[.slice none 0 0, .int .u64 0, .int .u64 0, .int .u64 0], .int .i64 2]) ?_ rfl ?_
    · exact results_cell_tmp Tryz.results7 _ _ _ _ _ _ _ _ rfl rfl tk.1 Tryz.underlying27 rfl sz25
    · exact ⟨T1.out.andThen (Turns.of_tick tk) fun j hj e => by have := HG.out; omega, zeroVer, 2, none, rfl, .wrong HWV.out, fun _ => rfl, fun LL' e => by cases e⟩
  | false =>
    have hcv : CV = 0 := HV.out
    subst hcv
    have hn5 : n = 5 := by
      have h1 := HWV.out
      unfold wrongVF at h1
      simp only [Bool.or_eq_false_iff, decide_eq_false_iff_not, flL_length] at h1
      have h2 := HVI.out.len
      omega
    subst hn5
    obtain ⟨ad, rfl⟩ : ∃ ad, a = some ad := by
      obtain ⟨x, hx⟩ : ∃ x, L[0]? = some x := ⟨_, List.getElem?_eq_getElem (by have := HVI.out.len; omega)⟩
      obtain ⟨⟨b, off, e, _⟩, _⟩ := HVI.out.levs 0 x hx
      exact ⟨_, e⟩
    have HKL := hide (show ∀ x ∈ L, ∀ y ∈ x.l, y.f.least.length ≤ 1000000 ∧ y.f.most.length ≤ 1000000 from fun x hx y hy => by
      have h1 := wrongF_false (wrongV_files (by rw [wrongV_F]; exact HWV.out) x hx y hy)
      omega)
    have CLS := hide (fun (u : World) (t : Turns (fun _ => False) w1 u) => listsOf_any ad c L u (HVI.out.levs.quiet (T1.out.trans t)) HVI.out.len.symm (by have := HVI.out.cnt; omega) HKL.out)
    go_upto_region 4 with (fail)
    go_cut [7] from 16 (fun v7 wc => ∃ (Dr G c2 : Nat) (L1 : List Lv), v7 = .pointer (some ⟨Dr, 0, none⟩) ∧ wc.heap[Dr]? = some (.cells #[.slice (some ⟨G, 0, none⟩) 5 c2, .int .u64 (en : Nat), .int .u64 (es : Nat), .int .u64 (el : Nat)] 61 (0, 0)) ∧ L1.length = 5 ∧ flL L1 = flL L ∧ DR wc w1.heap.size G 5 L1 ∧ Turns (fun _ => False) w1 wc)
    case first =>
      rename_i kk rest jj kk' m1 m2
      clear rest
      have tV : Turns (fun _ => False) w1 w1.drew := (Turns.refl _ _).drew
      have SK := hide (fun (u : World) (t : Turns (fun _ => False) w1 u) => show u.cell? ⟨g, 0, none⟩ = some (.slice (some ad) 5 c) ∧ u.cell? ⟨g + 1, 2, none⟩ = some (.int .u64 (en : Nat)) ∧ u.cell? ⟨g + 1, 3, none⟩ = some (.int .u64 (es : Nat)) ∧ u.cell? ⟨g + 1, 4, none⟩ = some (.int .u64 (el : Nat)) from ⟨t.cell (cell_of_row w1 g 0 _ 27 (0, 0) Q0.out) (fun x => x), t.cell (cell_of_row w1 (g + 1) 2 _ 33 (0, 0) Q1.out) (fun x => x), t.cell (cell_of_row w1 (g + 1) 3 _ 33 (0, 0) Q1.out) (fun x => x), t.cell (cell_of_row w1 (g + 1) 4 _ 33 (0, 0) Q1.out) (fun x => x)⟩)
      refine wp_region_z_drew 11 (S := fun u => u.cell? ⟨g, 0, none⟩ = some (.slice (some ad) 5 c) ∧ u.cell? ⟨g + 1, 2, none⟩ = some (.int .u64 (en : Nat)) ∧ u.cell? ⟨g + 1, 3, none⟩ = some (.int .u64 (es : Nat)) ∧ u.cell? ⟨g + 1, 4, none⟩ = some (.int .u64 (el : Nat))) (by kernel_rfl) (SK.out _ tV) (fun _ => ?_)
      change wpAnyZ _ _ _ _ _ _ 12 (Array.replicate 12 false) _ _
      refine wpAnyZ_take (i := 0) (oi := { dst := some 16, op := Op.fieldAddr 27 (Operand.tmp 2) 0, type := 0, pos := "version.go:21", after := #[], guard := none }) (v := .pointer (some ⟨g, 0, none⟩)) rfl (by kernel_rfl) (by kernel_rfl) (by kernel_rfl) (by kernel_rfl) (fun _ _ _ h => h) (Or.inl ⟨by rfl, ?_⟩) (SK.out _ tV) ?_
      · rintro w ⟨s0, s2, s3, s4⟩
        go_simp
      simp only [Act.put, List.setIfInBounds_toArray, List.set_cons_zero, List.set_cons_succ]
      refine wpAnyZ_take (i := 1) (oi := { dst := some 17, op := Op.load 24 (Operand.tmp 16), type := 24, pos := "version.go:21", after := #[{ on := 0, ground := Ground.data }], guard := none }) (v := .slice (some ad) 5 c) rfl (by kernel_rfl) (by kernel_rfl) (by kernel_rfl) (by kernel_rfl) (fun _ _ _ h => h) (Or.inl ⟨by rfl, ?_⟩) (SK.out _ tV) ?_
      · rintro w ⟨s0, s2, s3, s4⟩
        go_simp
      simp only [Act.put, List.setIfInBounds_toArray, List.set_cons_zero, List.set_cons_succ]
      refine wpAnyZ_take (i := 3) (oi := { dst := some 19, op := Op.fieldAddr 33 (Operand.tmp 3) 2, type := 0, pos := "version.go:21", after := #[], guard := none }) (v := .pointer (some ⟨g + 1, 2, none⟩)) rfl (by kernel_rfl) (by kernel_rfl) (by kernel_rfl) (by kernel_rfl) (fun _ _ _ h => h) (Or.inl ⟨by rfl, ?_⟩) (SK.out _ tV) ?_
      · rintro w ⟨s0, s2, s3, s4⟩
        go_simp
      simp only [Act.put, List.setIfInBounds_toArray, List.set_cons_zero, List.set_cons_succ]
      refine wpAnyZ_take (i := 4) (oi := { dst := some 20, op := Op.load 25 (Operand.tmp 19), type := 25, pos := "version.go:21", after := #[{ on := 3, ground := Ground.data }], guard := none }) (v := .int .u64 (en : Nat)) rfl (by kernel_rfl) (by kernel_rfl) (by kernel_rfl) (by kernel_rfl) (fun _ _ _ h => h) (Or.inl ⟨by rfl, ?_⟩) (SK.out _ tV) ?_
      · rintro w ⟨s0, s2, s3, s4⟩
        go_simp
      simp only [Act.put, List.setIfInBounds_toArray, List.set_cons_zero, List.set_cons_succ]
      refine wpAnyZ_take (i := 5) (oi := { dst := some 21, op := Op.fieldAddr 33 (Operand.tmp 3) 3, type := 0, pos := "version.go:21", after := #[], guard := none }) (v := .pointer (some ⟨g + 1, 3, none⟩)) rfl (by kernel_rfl) (by kernel_rfl) (by kernel_rfl) (by kernel_rfl) (fun _ _ _ h => h) (Or.inl ⟨by rfl, ?_⟩) (SK.out _ tV) ?_
      · rintro w ⟨s0, s2, s3, s4⟩
        go_simp
      simp only [Act.put, List.setIfInBounds_toArray, List.set_cons_zero, List.set_cons_succ]
      refine wpAnyZ_take (i := 6) (oi := { dst := some 22, op := Op.load 25 (Operand.tmp 21), type := 25, pos := "version.go:21", after := #[{ on := 5, ground := Ground.data }], guard := none }) (v := .int .u64 (es : Nat)) rfl (by kernel_rfl) (by kernel_rfl) (by kernel_rfl) (by kernel_rfl) (fun _ _ _ h => h) (Or.inl ⟨by rfl, ?_⟩) (SK.out _ tV) ?_
      · rintro w ⟨s0, s2, s3, s4⟩
        go_simp
      simp only [Act.put, List.setIfInBounds_toArray, List.set_cons_zero, List.set_cons_succ]
      refine wpAnyZ_take (i := 7) (oi := { dst := some 23, op := Op.fieldAddr 33 (Operand.tmp 3) 4, type := 0, pos := "version.go:21", after := #[], guard := none }) (v := .pointer (some ⟨g + 1, 4, none⟩)) rfl (by kernel_rfl) (by kernel_rfl) (by kernel_rfl) (by kernel_rfl) (fun _ _ _ h => h) (Or.inl ⟨by rfl, ?_⟩) (SK.out _ tV) ?_
      · rintro w ⟨s0, s2, s3, s4⟩
        go_simp
      simp only [Act.put, List.setIfInBounds_toArray, List.set_cons_zero, List.set_cons_succ]
      refine wpAnyZ_take (i := 8) (oi := { dst := some 24, op := Op.load 25 (Operand.tmp 23), type := 25, pos := "version.go:21", after := #[{ on := 7, ground := Ground.data }], guard := none }) (v := .int .u64 (el : Nat)) rfl (by kernel_rfl) (by kernel_rfl) (by kernel_rfl) (by kernel_rfl) (fun _ _ _ h => h) (Or.inl ⟨by rfl, ?_⟩) (SK.out _ tV) ?_
      · rintro w ⟨s0, s2, s3, s4⟩
        go_simp
      simp only [Act.put, List.setIfInBounds_toArray, List.set_cons_zero, List.set_cons_succ]
      refine wpAnyZ_ready (rs := [2, 10]) (by kernel_rfl) (by simp) ?_
      refine AllReadyZ.cons rfl (fun K hK => ?_) (AllReadyZ.cons rfl (fun K hK => ?_) AllReadyZ.nil)
      · go_simp
        refine (CLS.out _ tV).mono ?_
        rintro oo Vn ⟨G, c2, L1, rfl, hc2, hl1, hdr, hfl, tq⟩
        have tV0 := tV
        have tV := tV.trans tq
        go_simp
        refine hK.out _ _ (SK.out _ tV) (fun _ => ?_)
        clear hK K
        refine wpAnyZ_take (i := 9) (oi := { dst := some 25, op := Op.build 61 #[(0, Operand.tmp 18), (1, Operand.tmp 20), (2, Operand.tmp 22), (3, Operand.tmp 24)], type := 61, pos := "version.go:21", after := #[{ on := 2, ground := Ground.data }, { on := 4, ground := Ground.data }, { on := 6, ground := Ground.data }, { on := 8, ground := Ground.data }], guard := none }) (v := .agg #[.slice (some ⟨G, 0, none⟩) 5 c2, .int .u64 (en : Nat), .int .u64 (es : Nat), .int .u64 (el : Nat)]) rfl (by kernel_rfl) (by kernel_rfl) (by kernel_rfl) (by kernel_rfl) (fun _ _ _ h => h) (Or.inl ⟨by rfl, ?_⟩) (SK.out _ tV) ?_
        · rintro w ⟨s0, s2, s3, s4⟩
          go_simp
        simp only [Act.put, List.setIfInBounds_toArray, List.set_cons_zero, List.set_cons_succ]
        refine wpAnyZ_ready (rs := [10]) (by kernel_rfl) (by simp) ?_
        refine AllReadyZ.cons rfl (fun K hK => ?_) AllReadyZ.nil
        go_simp
        have HNEW := heap_alloc_new Vn (.cells #[.slice none 0 0, .int .u64 0, .int .u64 0, .int .u64 0] 61)
        have tV2 := tV.alloc (.cells #[.slice none 0 0, .int .u64 0, .int .u64 0, .int .u64 0] 61)
        have HDR := hide hdr
        refine hK.out _ _ (SK.out _ tV2) (fun _ => ?_)
        clear hK K
        have HFL := hide hfl
        have HL1 := hide hl1
        have HTV := hide tV2
        have HTV1 := hide tV
        have HLE := hide tV0.size
        clear hfl hl1 tV tV2 tV0 hdr tq
        have hD0 : (Vn.alloc (.cells #[.slice none 0 0, .int .u64 0, .int .u64 0, .int .u64 0] 61)).heap[Vn.heap.size]? = some (.cells #[.slice none 0 0, .int .u64 0, .int .u64 0, .int .u64 0] 61) := HNEW
        have e0 := cell_of_row (Vn.alloc (.cells #[.slice none 0 0, .int .u64 0, .int .u64 0, .int .u64 0] 61)) (Vn.heap.size) 0 _ 61 (0, 0) hD0
        have z0 := frozen_of_row (Vn.alloc (.cells #[.slice none 0 0, .int .u64 0, .int .u64 0, .int .u64 0] 61)) (Vn.heap.size) 0 _ 61 hD0
        have e1 := cell_of_row (Vn.alloc (.cells #[.slice none 0 0, .int .u64 0, .int .u64 0, .int .u64 0] 61)) (Vn.heap.size) 1 _ 61 (0, 0) hD0
        have z1 := frozen_of_row (Vn.alloc (.cells #[.slice none 0 0, .int .u64 0, .int .u64 0, .int .u64 0] 61)) (Vn.heap.size) 1 _ 61 hD0
        have e2 := cell_of_row (Vn.alloc (.cells #[.slice none 0 0, .int .u64 0, .int .u64 0, .int .u64 0] 61)) (Vn.heap.size) 2 _ 61 (0, 0) hD0
        have z2 := frozen_of_row (Vn.alloc (.cells #[.slice none 0 0, .int .u64 0, .int .u64 0, .int .u64 0] 61)) (Vn.heap.size) 2 _ 61 hD0
        have e3 := cell_of_row (Vn.alloc (.cells #[.slice none 0 0, .int .u64 0, .int .u64 0, .int .u64 0] 61)) (Vn.heap.size) 3 _ 61 (0, 0) hD0
        have z3 := frozen_of_row (Vn.alloc (.cells #[.slice none 0 0, .int .u64 0, .int .u64 0, .int .u64 0] 61)) (Vn.heap.size) 3 _ 61 hD0
        have HD0 := hide hD0
        clear hD0 HNEW
        refine wpAnyZ_ready (rs := [11]) (by kernel_rfl) (by simp) ?_
        refine AllReadyZ.free rfl (by kernel_rfl) (fun K hK => ?_) AllReadyZ.nil
        go_simp
        refine hK.out _ _ ?_
        clear hK K
        refine wpAnyZ_done (by kernel_rfl) ?_ _
        go_wp2_with fail
        go_meet
        exact ⟨Vn.heap.size, G, c2, L1, rfl, heap_alloc_new Vn _, HL1.out, HFL.out, (HDR.out.quiet ((Turns.refl (fun _ => False) Vn).alloc _)).mono HLE.out, HTV1.out.alloc _⟩
      · go_simp
        have HNEW0 := heap_alloc_new w1.drew (.cells #[.slice none 0 0, .int .u64 0, .int .u64 0, .int .u64 0] 61)
        have tV1 := tV
        have tV := tV.alloc (.cells #[.slice none 0 0, .int .u64 0, .int .u64 0, .int .u64 0] 61)
        refine hK.out _ _ (SK.out _ tV) (fun _ => ?_)
        clear hK K
        refine wpAnyZ_ready (rs := [2]) (by kernel_rfl) (by simp) ?_
        refine AllReadyZ.cons rfl (fun K hK => ?_) AllReadyZ.nil
        go_simp
        refine (CLS.out _ tV).mono ?_
        rintro oo Vn ⟨G, c2, L1, rfl, hc2, hl1, hdr, hfl, tq⟩
        have tV0 := tV
        have tV := tV.trans tq
        go_simp
        refine hK.out _ _ (SK.out _ tV) (fun _ => ?_)
        clear hK K
        refine wpAnyZ_take (i := 9) (oi := { dst := some 25, op := Op.build 61 #[(0, Operand.tmp 18), (1, Operand.tmp 20), (2, Operand.tmp 22), (3, Operand.tmp 24)], type := 61, pos := "version.go:21", after := #[{ on := 2, ground := Ground.data }, { on := 4, ground := Ground.data }, { on := 6, ground := Ground.data }, { on := 8, ground := Ground.data }], guard := none }) (v := .agg #[.slice (some ⟨G, 0, none⟩) 5 c2, .int .u64 (en : Nat), .int .u64 (es : Nat), .int .u64 (el : Nat)]) rfl (by kernel_rfl) (by kernel_rfl) (by kernel_rfl) (by kernel_rfl) (fun _ _ _ h => h) (Or.inl ⟨by rfl, ?_⟩) (SK.out _ tV) ?_
        · rintro w ⟨s0, s2, s3, s4⟩
          go_simp
        simp only [Act.put, List.setIfInBounds_toArray, List.set_cons_zero, List.set_cons_succ]
        have HNEW := tq.heap HNEW0 (fun x => x)
        have HDR := hide hdr
        have HFL := hide hfl
        have HL1 := hide hl1
        have HTV := hide tV
        have HLE := hide (show w1.heap.size ≤ (w1.drew.alloc (.cells #[.slice none 0 0, .int .u64 0, .int .u64 0, .int .u64 0] 61)).heap.size from tV0.size)
        clear hfl hl1 tV tV0 tV1 hdr tq HNEW0
        have hD0 : Vn.heap[w1.heap.size]? = some (.cells #[.slice none 0 0, .int .u64 0, .int .u64 0, .int .u64 0] 61) := HNEW
        have e0 := cell_of_row Vn (w1.heap.size) 0 _ 61 (0, 0) hD0
        have z0 := frozen_of_row Vn (w1.heap.size) 0 _ 61 hD0
        have e1 := cell_of_row Vn (w1.heap.size) 1 _ 61 (0, 0) hD0
        have z1 := frozen_of_row Vn (w1.heap.size) 1 _ 61 hD0
        have e2 := cell_of_row Vn (w1.heap.size) 2 _ 61 (0, 0) hD0
        have z2 := frozen_of_row Vn (w1.heap.size) 2 _ 61 hD0
        have e3 := cell_of_row Vn (w1.heap.size) 3 _ 61 (0, 0) hD0
        have z3 := frozen_of_row Vn (w1.heap.size) 3 _ 61 hD0
        have HD0 := hide hD0
        clear hD0 HNEW
        refine wpAnyZ_ready (rs := [11]) (by kernel_rfl) (by simp) ?_
        refine AllReadyZ.free rfl (by kernel_rfl) (fun K hK => ?_) AllReadyZ.nil
        go_simp
        refine hK.out _ _ ?_
        clear hK K
        refine wpAnyZ_done (by kernel_rfl) ?_ _
        go_wp2_with fail
        go_meet
        have tk := ((((Tick.refl HD0.out).set 0 (.slice (some ⟨G, 0, none⟩) 5 c2)).set 1 (.int .u64 (en : Nat))).set 2 (.int .u64 (es : Nat))).set 3 (.int .u64 (el : Nat))
        refine ⟨w1.heap.size, G, c2, L1, rfl, tk.1, HL1.out, HFL.out, (HDR.out.alien (Turns.of_tick tk) HD0.out (by decide) (by decide) (by decide)).mono HLE.out, HTV.out.andThen (Turns.of_tick tk) fun j hj e => by have h1 : j = w1.heap.size := e; omega⟩
    case rest =>
      obtain ⟨Dr, G, c2, L1, rfl, hDr, hl1, hfl1, hdr, ht⟩ := hcut
      have HDr := hide hDr
      have HL1 := hide hl1
      have HF1 := hide hfl1
      have HD1 := hide hdr
      have HT1 := hide ht
      have HC1 := hide (show cnt L1 = cnt L by rw [cnt_wt, cnt_wt, hfl1])
      have HFT1 := hide (show Fit L1 from fun x hx y hy => by
        obtain ⟨k, hk⟩ := List.getElem?_of_mem hx
        have h1 := flL_at hk
        rw [hfl1] at h1
        simp only [flL, List.getElem?_map, Option.map_eq_some_iff] at h1
        obtain ⟨x0, hx0, e⟩ := h1
        have h2 : y.f ∈ fls x0.l := by rw [e]; exact List.mem_map.2 ⟨y, hy, rfl⟩
        obtain ⟨y0, hy0, e0⟩ := List.mem_map.1 h2
        rw [← e0]
        exact HVI.out.fit x0 (List.mem_of_getElem? hx0) y0 hy0)
      have HE1 := hide (HEI.out.quiet T1.out)
      have CD := hide (drop_any w1 wc HT1.out G c2 L1 da dn dc D HD1.out HL1.out (by have := HC1.out; have := HVI.out.cnt; omega) HFT1.out HE1.out.drops HE1.out.dlen HE1.out.dmx)
      have p0 := cell_of_row wc Dr 0 _ 61 (0, 0) hDr
      have p1 := ht.cell (cell_of_row w1 (g + 1) 0 _ 33 (0, 0) Q1.out) (fun x => x)
      clear hDr hl1 hfl1 hdr ht
      go_wp2_with fail
      refine CD.out.mono ?_
      rintro e w2 ⟨t2, hcase⟩
      have HT2 := hide (show Turns (fun _ => False) w1 w2 from HT1.out.andThen t2 fun j hj e => by have := HD1.out.own_ge e; omega)
      have HDr2 := hide (t2.heap HDr.out (HD1.out.not_own HDr.out (by decide) (by decide)))
      have Q22 := hide (HT2.out.heap Q2.out (fun x => x))
      have HTO := hide t2
      clear t2 CD p0 p1
      rcases hcase with ⟨hnone, rfl⟩ | ⟨m, L2, hsome, rfl, hl2, hd2, hf2, _⟩
      · have d0 := cell_of_row w2 (g + 1 + 1) 0 _ 27 (0, 0) Q22.out
        have d1 := cell_of_row w2 (g + 1 + 1) 1 _ 27 (0, 0) Q22.out
        have d2 := cell_of_row w2 (g + 1 + 1) 2 _ 27 (0, 0) Q22.out
        have d3 := cell_of_row w2 (g + 1 + 1) 3 _ 27 (0, 0) Q22.out
        have f0 := frozen_of_row w2 (g + 1 + 1) 0 _ 27 Q22.out
        have f1 := frozen_of_row w2 (g + 1 + 1) 1 _ 27 Q22.out
        have f2 := frozen_of_row w2 (g + 1 + 1) 2 _ 27 Q22.out
        have f3 := frozen_of_row w2 (g + 1 + 1) 3 _ 27 Q22.out
        have HNN := hide (show dropsP (mp (pairsF (flL L))) D = none by rw [← HF1.out, ← pairsL_F]; exact hnone)
        clear hnone
        go_wp2_with fail
        have tk := ((((Tick.refl Q22.out).set 0 (.slice none 0 0)).set 1 (.int .u64 0)).set 2 (.int .u64 0)).set 3 (.int .u64 0)
        refine bodyPost_ret (v := .tuple #[.agg #[.slice none 0 0, .int .u64 0, .int .u64 0, .int .u64 0], .int .i64 6]) ?_ rfl ?_
        · exact results_cell_tmp Tryz.results7 _ _ _ _ _ _ _ _ rfl rfl tk.1 Tryz.underlying27 rfl sz25
        · exact ⟨(T1.out.trans HT2.out).andThen (Turns.of_tick tk) fun j hj e => by have := HG.out; omega, zeroVer, 6, none, rfl, .gone HWV.out HNN.out, fun _ => rfl, fun LL' e => by cases e⟩
      · have HSM := hide (show dropsP (mp (pairsF (flL L))) D = some m by rw [← HF1.out, ← pairsL_F]; exact hsome)
        have HF2 := hide (show flL L2 = (flL L).map (List.filter (keepF m)) by rw [hf2, HF1.out])
        have HL2 := hide hl2
        have HD2 := hide hd2
        have HC2 := hide (show cnt L2 ≤ cnt L by rw [cnt_wt, cnt_wt, HF2.out]; exact wt_filter _ _ _)
        have HB2 := hide (show byts L2 ≤ byts L by rw [byts_wt, byts_wt, HF2.out]; exact wt_filter _ _ _)
        have HFT2 := hide (show Fit L2 from fun x hx y hy => by
          obtain ⟨k, hk⟩ := List.getElem?_of_mem hx
          have h1 := flL_at hk
          rw [HF2.out, List.getElem?_map, Option.map_eq_some_iff] at h1
          obtain ⟨l, hl, e⟩ := h1
          have h2 : y.f ∈ l.filter (keepF m) := by rw [e]; exact List.mem_map.2 ⟨y, hy, rfl⟩
          have h3 := (List.mem_filter.1 h2).1
          simp only [flL, List.getElem?_map, Option.map_eq_some_iff] at hl
          obtain ⟨x0, hx0, rfl⟩ := hl
          obtain ⟨y0, hy0, e0⟩ := List.mem_map.1 h3
          rw [← e0]
          exact HVI.out.fit x0 (List.mem_of_getElem? hx0) y0 hy0)
        have CA := hide (add_any w1 w2 HT2.out G c2 L2 aa an ac A HD2.out HL2.out (by have := HC2.out; have := HVI.out.cnt; omega) HFT2.out HE1.out.adds HE1.out.alen HE1.out.amx HE1.out.fit)
        have p0 := cell_of_row w2 Dr 0 _ 61 (0, 0) HDr2.out
        have p1 := HT2.out.cell (cell_of_row w1 (g + 1) 1 _ 33 (0, 0) Q1.out) (fun x => x)
        clear hsome hl2 hd2 hf2
        go_wp2_with fail
        refine CA.out.mono ?_
        rintro e w3 ⟨t3, hcase⟩
        have HT3 := hide (show Turns (fun _ => False) w1 w3 from HT2.out.andThen t3 fun j hj e => by have := HD2.out.own_ge e; omega)
        have HDr3 := hide (t3.heap HDr2.out (HD2.out.not_own HDr2.out (by decide) (by decide)))
        have Q23 := hide (HT3.out.heap Q2.out (fun x => x))
        clear t3 CA p0 p1
        have d0 := cell_of_row w3 (g + 1 + 1) 0 _ 27 (0, 0) Q23.out
        have d1 := cell_of_row w3 (g + 1 + 1) 1 _ 27 (0, 0) Q23.out
        have d2 := cell_of_row w3 (g + 1 + 1) 2 _ 27 (0, 0) Q23.out
        have d3 := cell_of_row w3 (g + 1 + 1) 3 _ 27 (0, 0) Q23.out
        have f0 := frozen_of_row w3 (g + 1 + 1) 0 _ 27 Q23.out
        have f1 := frozen_of_row w3 (g + 1 + 1) 1 _ 27 Q23.out
        have f2 := frozen_of_row w3 (g + 1 + 1) 2 _ 27 Q23.out
        have f3 := frozen_of_row w3 (g + 1 + 1) 3 _ 27 Q23.out
        have HPE := hide (show okAdds (mp (pairsL L2)) (addNos A) = okAdds (mp (pairsF ((flL L).map (List.filter (keepF m))))) (nosF (fA A)) by rw [pairsL_F, HF2.out, addNos_F])
        have HGE := hide (show A.all (fun d => goodLev d.1) = (fA A).all (fun d => goodLev d.1) by unfold fA; rw [List.all_map]; rfl)
        rcases hcase with ⟨h1, rfl⟩ | ⟨h1, h2, rfl⟩ | ⟨h1, h2, rfl, hadd⟩
        · have HO := hide (HPE.out.symm.trans h1)
          clear h1
          go_wp2_with fail
          have tk := ((((Tick.refl Q23.out).set 0 (.slice none 0 0)).set 1 (.int .u64 0)).set 2 (.int .u64 0)).set 3 (.int .u64 0)
          refine bodyPost_ret (v := .tuple #[.agg #[.slice none 0 0, .int .u64 0, .int .u64 0, .int .u64 0], .int .i64 5]) ?_ rfl ?_
          · exact results_cell_tmp Tryz.results7 _ _ _ _ _ _ _ _ rfl rfl tk.1 Tryz.underlying27 rfl sz25
          · exact ⟨(T1.out.trans HT3.out).andThen (Turns.of_tick tk) fun j hj e => by have := HG.out; omega, zeroVer, 5, none, rfl, .there m HWV.out HSM.out HO.out, fun _ => rfl, fun LL' e => by cases e⟩
        · have HO := hide (HPE.out.symm.trans h1)
          have HGD := hide (HGE.out.symm.trans h2)
          clear h1 h2
          go_wp2_with fail
          have tk := ((((Tick.refl Q23.out).set 0 (.slice none 0 0)).set 1 (.int .u64 0)).set 2 (.int .u64 0)).set 3 (.int .u64 0)
          refine bodyPost_ret (v := .tuple #[.agg #[.slice none 0 0, .int .u64 0, .int .u64 0, .int .u64 0], .int .i64 2]) ?_ rfl ?_
          · exact results_cell_tmp Tryz.results7 _ _ _ _ _ _ _ _ rfl rfl tk.1 Tryz.underlying27 rfl sz25
          · exact ⟨(T1.out.trans HT3.out).andThen (Turns.of_tick tk) fun j hj e => by have := HG.out; omega, zeroVer, 2, none, rfl, .lev m HWV.out HSM.out HO.out HGD.out, fun _ => rfl, fun LL' e => by cases e⟩
        · have HO := hide (HPE.out.symm.trans h1)
          have HGD := hide (HGE.out.symm.trans h2)
          obtain ⟨L3, hl3, hd3, hp3⟩ := hadd
          have HCM := hide (show Comes ((flL L).map (List.filter (keepF m))) (fA A) (flL L3) by rw [← HF2.out]; exact comes_of hp3 hl3 hd3)
          have HD3 := hide hd3
          have HVR := hide (show VerIn w3 (some ⟨G, 0, none⟩) 5 L3 en es el from by
            have h0 : ((flL L).map (List.filter (keepF m))).length = 5 := by rw [List.length_map, flL_length]; exact HVI.out.len.symm
            have h5 := wt_comes (fun _ => 1) h0 HCM.out
            have h6 := wt_comes keyF h0 HCM.out
            rw [← HF2.out, ← cnt_wt, ← cnt_wt] at h5
            rw [← HF2.out, ← byts_wt, ← byts_wt] at h6
            have h7 : ((fA A).map fun _ => 1).sum = an := by
              rw [HE1.out.alen]
              unfold fA
              rw [List.map_map]
              generalize A = A'
              induction A' with
              | nil => rfl
              | cons y r ih => simp only [List.map_cons, List.sum_cons, List.length_cons, ih, Function.comp]; omega
            have := HC2.out
            have := HB2.out
            have := HCN.out
            have := HBY.out
            refine ⟨hd3.levs, hl3.symm, by omega, by omega, fit_of HVI.out.fit HF2.out (fun d hd => (HE1.out.fit d hd).1) (by rw [HF2.out]; exact HCM.out) HL2.out, HE1.out.b1, HE1.out.b2, HE1.out.b3⟩)
          have CT := hide (tell_any (some ⟨G, 0, none⟩) c2 en es el L3 w3 HVR.out)
          have p0 := cell_of_row w3 Dr 0 _ 61 (0, 0) HDr3.out
          have p1 := cell_of_row w3 Dr 1 _ 61 (0, 0) HDr3.out
          have p2 := cell_of_row w3 Dr 2 _ 61 (0, 0) HDr3.out
          have p3 := cell_of_row w3 Dr 3 _ 61 (0, 0) HDr3.out
          clear h1 h2 hl3 hd3 hp3 d0 d1 d2 d3 f0 f1 f2 f3
          unfold verAgg at CT
          have HCV := hide (show chkV L3 en es el = if wrongV L3 en es el then 2 else 0 from rfl)
          generalize hV3 : wrongV L3 en es el = V3 at *
          have HV3 := hide (show wrongVF (flL L3) en es el = V3 by rw [← wrongV_F]; exact hV3)
          generalize chkV L3 en es el = C3 at *
          clear hV3
          go_wp2_with fail
          refine CT.out.mono ?_
          rintro e w4 ⟨rfl, t4⟩
          have T4 := hide t4
          have Q24 := hide (t4.heap Q23.out (fun x => x))
          clear t4 CT p0 p1 p2 p3
          have d0 := cell_of_row w4 (g + 1 + 1) 0 _ 27 (0, 0) Q24.out
          have d1 := cell_of_row w4 (g + 1 + 1) 1 _ 27 (0, 0) Q24.out
          have d2 := cell_of_row w4 (g + 1 + 1) 2 _ 27 (0, 0) Q24.out
          have d3 := cell_of_row w4 (g + 1 + 1) 3 _ 27 (0, 0) Q24.out
          have f0 := frozen_of_row w4 (g + 1 + 1) 0 _ 27 Q24.out
          have f1 := frozen_of_row w4 (g + 1 + 1) 1 _ 27 Q24.out
          have f2 := frozen_of_row w4 (g + 1 + 1) 2 _ 27 Q24.out
          have f3 := frozen_of_row w4 (g + 1 + 1) 3 _ 27 Q24.out
          cases V3 with
          | true =>
            have hc3 : C3 = 2 := HCV.out
            subst hc3
            simp only [if_true, zeroVer]
            go_wp2_with fail
            have tk := ((((Tick.refl Q24.out).set 0 (.slice none 0 0)).set 1 (.int .u64 0)).set 2 (.int .u64 0)).set 3 (.int .u64 0)
            refine bodyPost_ret (v := .tuple #[.agg #[.slice none 0 0, .int .u64 0, .int .u64 0, .int .u64 0], .int .i64 2]) ?_ rfl ?_
            · exact results_cell_tmp Tryz.results7 _ _ _ _ _ _ _ _ rfl rfl tk.1 Tryz.underlying27 rfl sz25
            · exact ⟨(T1.out.trans (HT3.out.trans T4.out)).andThen (Turns.of_tick tk) fun j hj e => by have := HG.out; omega, zeroVer, 2, none, rfl, .bad m _ HWV.out HSM.out HO.out HGD.out HCM.out HV3.out, fun _ => rfl, fun LL' e => by cases e⟩
          | false =>
            have hc3 : C3 = 0 := HCV.out
            subst hc3
            simp only [Bool.false_eq_true, if_false]
            go_wp2_with fail
            have tk := ((((Tick.refl Q24.out).set 0 (.slice (some ⟨G, 0, none⟩) 5 c2)).set 1 (.int .u64 (en : Nat))).set 2 (.int .u64 (es : Nat))).set 3 (.int .u64 (el : Nat))
            refine bodyPost_ret (v := .tuple #[.agg #[.slice (some ⟨G, 0, none⟩) 5 c2, .int .u64 (en : Nat), .int .u64 (es : Nat), .int .u64 (el : Nat)], .int .i64 0]) ?_ rfl ?_
            · exact results_cell_tmp Tryz.results7 _ _ _ _ _ _ _ _ rfl rfl tk.1 Tryz.underlying27 rfl sz25
            · have u := Turns.of_tick tk
              have hDD := ((HD3.out.quiet T4.out).alien u Q24.out (by decide) (by decide) (by decide)).mono (show g ≤ w1.heap.size by rw [← HG.out]; exact T1.out.size)
              refine ⟨(T1.out.trans (HT3.out.trans T4.out)).andThen u fun j hj e => by have := HG.out; omega, .agg #[.slice (some ⟨G, 0, none⟩) 5 c2, .int .u64 (en : Nat), .int .u64 (es : Nat), .int .u64 (el : Nat)], 0, some (flL L3), rfl, .ok m _ HWV.out HSM.out HO.out HGD.out HCM.out HV3.out, fun e => by (cases e), fun LL' e => ?_⟩
              cases e
              exact ⟨G, c2, L3, rfl, rfl, { HVR.out with levs := hDD.levs }, by rw [HG.out]; exact hDD⟩
end Go.Proofs.YtmmcikbedegigaaGreat
