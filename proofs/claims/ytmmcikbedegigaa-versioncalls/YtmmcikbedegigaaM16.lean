import Derived.Test.YtmmcikbedegigaaM15
/-
  What an edit makes of a version, told by files alone.
-/
namespace Go.Proofs.Ytmmcikbedegigaa
open Go.RowKit
set_option maxRecDepth 100000
set_option maxHeartbeats 4000000
def pairsF (LL : List (List Fl)) : List (Nat × Int) := LL.zipIdx.flatMap fun p => p.1.map fun f => (f.no, (p.2 : Int))
theorem pairsL_F (L : List Lv) : pairsL L = pairsF (flL L) := by
  unfold pairsL pairsF flL prs fls
  have : ∀ q, (L.zipIdx q).flatMap (fun p => p.1.l.map fun x => (x.f.no, (p.2 : Int))) = ((L.map fun x => x.l.map Tf.f).zipIdx q).flatMap (fun p => p.1.map fun f => (f.no, (p.2 : Int))) := by
    induction L with
    | nil => intro q; rfl
    | cons x r ih =>
      intro q
      rw [List.zipIdx_cons, List.map_cons, List.zipIdx_cons, List.flatMap_cons, List.flatMap_cons, ih, List.map_map]
      rfl
  exact this 0
def newF (next : Nat) (f : Fl) : Bool := decide (next ≤ f.no)
def wrongLF (next lev : Nat) (l : List Fl) : Bool := l.any wrongF || l.any (newF next) || !ordF lev l
def numsF (LL : List (List Fl)) : List Nat := LL.flatMap fun l => l.map fun f => f.no
def wrongVF (LL : List (List Fl)) (next seq log : Nat) : Bool := headBad next seq log || decide (LL.length ≠ 5) || LL.zipIdx.any (fun p => wrongLF next p.2 p.1) || !decide (numsF LL).Nodup
theorem wrongLv_F (next lev : Nat) (l : List Tf) : wrongLv next lev l = wrongLF next lev (fls l) := by
  unfold wrongLv wrongLF fls
  rw [List.any_map, List.any_map]
  rfl
theorem wrongV_F (L : List Lv) (next seq log : Nat) : wrongV L next seq log = wrongVF (flL L) next seq log := by
  unfold wrongV wrongVF
  have h1 : ∀ q, (L.zipIdx q).any (fun p => wrongLv next p.2 p.1.l) = ((flL L).zipIdx q).any (fun p => wrongLF next p.2 p.1) := by
    unfold flL
    induction L with
    | nil => intro q; rfl
    | cons x r ih =>
      intro q
      rw [List.zipIdx_cons, List.map_cons, List.zipIdx_cons, List.any_cons, List.any_cons, ih, wrongLv_F]
  have h2 : numsL L = numsF (flL L) := by
    unfold numsL numsF flL fls
    rw [List.flatMap_map]
    simp only [List.map_map]
    rfl
  rw [h1 0, h2, flL_length]
def sortedF (lev : Nat) (l : List Fl) : Prop := ∀ (i j : Nat) (x y : Fl), i < j → l[i]? = some x → l[j]? = some y → ¬ cmpF lev y x < 0
theorem SortF.fls {lev : Nat} {l : List Tf} (h : SortF lev l) : sortedF lev (fls l) := fun i j x y hij hx hy => by
  simp only [Ytmmcikbedegigaa.fls, List.getElem?_map, Option.map_eq_some_iff] at hx hy
  obtain ⟨x', hx, rfl⟩ := hx
  obtain ⟨y', hy, rfl⟩ := hy
  exact h i j x' y' hij hx hy
abbrev AddF := Int × Fl
def nosF (A : List AddF) : List (Int × Nat) := A.map fun d => (d.1, d.2.no)
def onF (k : Nat) (A : List AddF) : List Fl := (A.filter fun d => decide (d.1 = (k : Int))).map fun d => d.2
def fA (A : List (Int × Tf)) : List AddF := A.map fun d => (d.1, d.2.f)
theorem addNos_F (A : List (Int × Tf)) : addNos A = nosF (fA A) := by simp [addNos, nosF, fA]
theorem addsOn_F (k : Nat) (A : List (Int × Tf)) : addsOn k A = onF k (fA A) := by
  unfold addsOn onF fA
  rw [List.filter_map, List.map_map]
  rfl
/-- What comes of it, ahead of the last look. -/
def Comes (LL : List (List Fl)) (A : List AddF) (LL' : List (List Fl)) : Prop := LL'.length = 5 ∧ ∀ (k : Nat) (l l' : List Fl), LL[k]? = some l → LL'[k]? = some l' → l'.Perm (l ++ onF k A) ∧ sortedF k l'
/-- What Apply answers, told by files alone. -/
def ApplyR (LL : List (List Fl)) (next seq log : Nat) (D : List (Int × Nat)) (A : List AddF) (en es el : Nat) (r : Option (List (List Fl))) (e : Int) : Prop :=
  (wrongVF LL next seq log = true ∧ r = none ∧ e = 2) ∨ (wrongVF LL next seq log = false ∧ ((dropsP (mp (pairsF LL)) D = none ∧ r = none ∧ e = 6) ∨ ∃ m, dropsP (mp (pairsF LL)) D = some m ∧ ((okAdds (mp (pairsF (LL.map (List.filter (keepF m))))) (nosF A) = false ∧ r = none ∧ e = 5) ∨ (okAdds (mp (pairsF (LL.map (List.filter (keepF m))))) (nosF A) = true ∧ ((A.all (fun d => goodLev d.1) = false ∧ r = none ∧ e = 2) ∨ (A.all (fun d => goodLev d.1) = true ∧ ∃ LL', Comes (LL.map (List.filter (keepF m))) A LL' ∧ ((wrongVF LL' en es el = true ∧ r = none ∧ e = 2) ∨ (wrongVF LL' en es el = false ∧ r = some LL' ∧ e = 0))))))))
section
variable {LL : List (List Fl)} {next seq log : Nat} {D : List (Int × Nat)} {A : List AddF} {en es el : Nat}
theorem ApplyR.wrong (h : wrongVF LL next seq log = true) : ApplyR LL next seq log D A en es el none 2 := .inl ⟨h, rfl, rfl⟩
theorem ApplyR.gone (h : wrongVF LL next seq log = false) (hd : dropsP (mp (pairsF LL)) D = none) : ApplyR LL next seq log D A en es el none 6 := .inr ⟨h, .inl ⟨hd, rfl, rfl⟩⟩
theorem ApplyR.there (m : Nat → Option Int) (h : wrongVF LL next seq log = false) (hd : dropsP (mp (pairsF LL)) D = some m) (ha : okAdds (mp (pairsF (LL.map (List.filter (keepF m))))) (nosF A) = false) : ApplyR LL next seq log D A en es el none 5 := .inr ⟨h, .inr ⟨m, hd, .inl ⟨ha, rfl, rfl⟩⟩⟩
theorem ApplyR.lev (m : Nat → Option Int) (h : wrongVF LL next seq log = false) (hd : dropsP (mp (pairsF LL)) D = some m) (ha : okAdds (mp (pairsF (LL.map (List.filter (keepF m))))) (nosF A) = true) (hg : A.all (fun d => goodLev d.1) = false) : ApplyR LL next seq log D A en es el none 2 := .inr ⟨h, .inr ⟨m, hd, .inr ⟨ha, .inl ⟨hg, rfl, rfl⟩⟩⟩⟩
theorem ApplyR.bad (m : Nat → Option Int) (LL' : List (List Fl)) (h : wrongVF LL next seq log = false) (hd : dropsP (mp (pairsF LL)) D = some m) (ha : okAdds (mp (pairsF (LL.map (List.filter (keepF m))))) (nosF A) = true) (hg : A.all (fun d => goodLev d.1) = true) (hc : Comes (LL.map (List.filter (keepF m))) A LL') (hw : wrongVF LL' en es el = true) : ApplyR LL next seq log D A en es el none 2 := .inr ⟨h, .inr ⟨m, hd, .inr ⟨ha, .inr ⟨hg, LL', hc, .inl ⟨hw, rfl, rfl⟩⟩⟩⟩⟩
theorem ApplyR.ok (m : Nat → Option Int) (LL' : List (List Fl)) (h : wrongVF LL next seq log = false) (hd : dropsP (mp (pairsF LL)) D = some m) (ha : okAdds (mp (pairsF (LL.map (List.filter (keepF m))))) (nosF A) = true) (hg : A.all (fun d => goodLev d.1) = true) (hc : Comes (LL.map (List.filter (keepF m))) A LL') (hw : wrongVF LL' en es el = false) : ApplyR LL next seq log D A en es el (some LL') 0 := .inr ⟨h, .inr ⟨m, hd, .inr ⟨ha, .inr ⟨hg, LL', hc, .inr ⟨hw, rfl, rfl⟩⟩⟩⟩⟩
end
/-- A sum over all files. -/
def wt (f : Fl → Nat) (LL : List (List Fl)) : Nat := (LL.map fun l => (l.map f).sum).sum
theorem cnt_wt (L : List Lv) : cnt L = wt (fun _ => 1) (flL L) := by
  unfold cnt wt flL fls
  rw [List.map_map]
  congr 1
  refine List.map_congr_left fun x _ => ?_
  show x.l.length = ((x.l.map Tf.f).map fun _ => 1).sum
  induction x.l with
  | nil => rfl
  | cons y r ih => simp only [List.length_cons, List.map_cons, List.sum_cons]; omega
def keyF (f : Fl) : Nat := f.least.length + f.most.length
theorem byts_wt (L : List Lv) : byts L = wt keyF (flL L) := by
  unfold byts wt flL fls
  rw [List.map_map]
  congr 1
  refine List.map_congr_left fun x _ => ?_
  show (x.l.map keyB).sum = ((x.l.map Tf.f).map keyF).sum
  rw [List.map_map]
  rfl
theorem wt_filter (f : Fl → Nat) (p : Fl → Bool) : ∀ LL : List (List Fl), wt f (LL.map (List.filter p)) ≤ wt f LL
  | [] => Nat.le_refl _
  | l :: r => by
    have h1 := wt_filter f p r
    have h2 : ((l.filter p).map f).sum ≤ (l.map f).sum := by
      induction l with
      | nil => simp
      | cons x r ih =>
        rw [List.filter_cons]
        split <;> simp <;> omega
    unfold wt at *
    simp only [List.map_cons, List.sum_cons]
    omega
theorem len5 {α : Type} {l : List α} (h : l.length = 5) : ∃ a b c d e, l = [a, b, c, d, e] := by
  match l, h with
  | [a, b, c, d, e], _ => exact ⟨a, b, c, d, e, rfl⟩
theorem on_sum (f : Fl → Nat) : ∀ A : List AddF, ((onF 0 A).map f).sum + ((onF 1 A).map f).sum + ((onF 2 A).map f).sum + ((onF 3 A).map f).sum + ((onF 4 A).map f).sum ≤ (A.map fun d => f d.2).sum
  | [] => by simp [onF]
  | d :: r => by
    have ih := on_sum f r
    have h : ∀ k : Nat, ((onF k (d :: r)).map f).sum = (if d.1 = (k : Int) then f d.2 else 0) + ((onF k r).map f).sum := fun k => by
      unfold onF
      by_cases e : d.1 = (k : Int) <;> simp [e]
    rw [h 0, h 1, h 2, h 3, h 4]
    simp only [List.map_cons, List.sum_cons]
    split
    · rw [if_neg (by omega), if_neg (by omega), if_neg (by omega), if_neg (by omega)]; omega
    · split
      · rw [if_neg (by omega), if_neg (by omega), if_neg (by omega)]; omega
      · split
        · rw [if_neg (by omega), if_neg (by omega)]; omega
        · split
          · rw [if_neg (by omega)]; omega
          · split <;> omega
theorem sum_perm {f : Fl → Nat} {l l' : List Fl} (h : l.Perm l') : (l.map f).sum = (l'.map f).sum := (h.map f).sum_nat
theorem wt_comes (f : Fl → Nat) {LL LL' : List (List Fl)} {A : List AddF} (hl : LL.length = 5) (h : Comes LL A LL') : wt f LL' ≤ wt f LL + (A.map fun d => f d.2).sum := by
  obtain ⟨a, b, c, d, e, rfl⟩ := len5 hl
  obtain ⟨hl', hp⟩ := h
  obtain ⟨a', b', c', d', e', rfl⟩ := len5 hl'
  have h0 := sum_perm (f := f) (hp 0 a a' rfl rfl).1
  have h1 := sum_perm (f := f) (hp 1 b b' rfl rfl).1
  have h2 := sum_perm (f := f) (hp 2 c c' rfl rfl).1
  have h3 := sum_perm (f := f) (hp 3 d d' rfl rfl).1
  have h4 := sum_perm (f := f) (hp 4 e e' rfl rfl).1
  have h5 := on_sum f A
  simp only [List.map_append, List.sum_append] at h0 h1 h2 h3 h4
  simp only [wt, List.map_cons, List.map_nil, List.sum_cons, List.sum_nil]
  omega
end Go.Proofs.Ytmmcikbedegigaa

/-
  tell; Apply.
-/
namespace Go.Proofs.Ytmmcikbedegigaa
open Go.RowKit
set_option maxRecDepth 100000
set_option maxHeartbeats 4000000
section
variable {P : Program}
theorem results_cell_tmp {fn : Func} {j p : Tmp} {ty : TypeId} (h : fn.results = #[.cell p ty, .tmp j]) (tmps : Array Value) (w : World) (u : Value) (g : Nat) (t : TypeId) (cs : Array Value) (fr : Nat × Nat) (d : TypeDesc)
    (hu' : tmps.getD j undef = u) (hp : tmps.getD p undef = .pointer (some ⟨g, 0, none⟩)) (hg : w.heap[g]? = some (.cells cs t fr))
    (hu : P.underlying ty = some d) (hd : (match d with | .struct _ | .array _ _ => true | _ => false) = true) (hi : (P.info? ty).map (·.size) = some cs.size) :
    (results fn tmps).run P w = .ok (.tuple #[.agg cs, u]) w := by
  have hp' : tmps[p]?.getD undef = .pointer (some ⟨g, 0, none⟩) := by simpa using hp
  have hw' : tmps[j]?.getD undef = u := by simpa using hu'
  simp [results, h, hp', hw', asAddr, run_loadVar_row w g t ty cs fr d hg hu hd hi]
end
theorem sz25 : (Try.prog.info? 25).map (·.size) = some 4 := by kernel_rfl
def zeroVer : Value := .agg #[.slice none 0 0, .int .u64 0, .int .u64 0, .int .u64 0]
theorem tell_any (a : Option Addr) (c next seq log : Nat) (L : List Lv) (w : World) (h : VerIn w a 5 L next seq log) :
    Calls Try.prog 29 #[verAgg a 5 c next seq log] w fun e w' => e = .returned (.tuple #[if wrongV L next seq log then zeroVer else verAgg a 5 c next seq log, .int .i64 (chkV L next seq log)]) ∧ Turns (fun _ => False) w w' := by
  have TA := hide ((((Turns.refl (fun _ => False) w).alloc (.cells #[.slice a 5 c, .int .u64 (next : Nat), .int .u64 (seq : Nat), .int .u64 (log : Nat)] 57)).alloc (.cells #[.slice none 0 0, .int .u64 0, .int .u64 0, .int .u64 0] 25)).alloc (.cells #[.slice a 5 c, .int .u64 (next : Nat), .int .u64 (seq : Nat), .int .u64 (log : Nat)] 25))
  have R1 := hide (((Turns.refl (fun _ => False) ((w.alloc (.cells #[.slice a 5 c, .int .u64 (next : Nat), .int .u64 (seq : Nat), .int .u64 (log : Nat)] 57)).alloc (.cells #[.slice none 0 0, .int .u64 0, .int .u64 0, .int .u64 0] 25))).alloc (.cells #[.slice a 5 c, .int .u64 (next : Nat), .int .u64 (seq : Nat), .int .u64 (log : Nat)] 25)).heap (heap_alloc_new (w.alloc (.cells #[.slice a 5 c, .int .u64 (next : Nat), .int .u64 (seq : Nat), .int .u64 (log : Nat)] 57)) (.cells #[.slice none 0 0, .int .u64 0, .int .u64 0, .int .u64 0] 25)) (fun x => x))
  have R2 := hide (heap_alloc_new ((w.alloc (.cells #[.slice a 5 c, .int .u64 (next : Nat), .int .u64 (seq : Nat), .int .u64 (log : Nat)] 57)).alloc (.cells #[.slice none 0 0, .int .u64 0, .int .u64 0, .int .u64 0] 25)) (.cells #[.slice a 5 c, .int .u64 (next : Nat), .int .u64 (seq : Nat), .int .u64 (log : Nat)] 25))
  simp only [World.size_alloc] at R1 R2
  have CK := hide (check_any a 5 c next seq log L _ (h.quiet TA.out))
  have HV := hide (show chkV L next seq log = if wrongV L next seq log then 2 else 0 from rfl)
  unfold verAgg at *
  clear h
  generalize hV : wrongV L next seq log = V at *
  generalize chkV L next seq log = CV at *
  clear hV
  go_enter Try.func29, Try.ntmps29
  go_wp2_with fail
  refine CK.out.mono ?_
  rintro e w1 ⟨rfl, t1⟩
  have T1 := hide (TA.out.trans t1)
  have q1 := t1.heap R1.out (fun x => x)
  have q2 := t1.heap R2.out (fun x => x)
  have Q1 := hide q1
  have c0 := cell_of_row w1 (w.heap.size + 1 + 1) 0 _ 25 (0, 0) q2
  have c1 := cell_of_row w1 (w.heap.size + 1 + 1) 1 _ 25 (0, 0) q2
  have c2 := cell_of_row w1 (w.heap.size + 1 + 1) 2 _ 25 (0, 0) q2
  have c3 := cell_of_row w1 (w.heap.size + 1 + 1) 3 _ 25 (0, 0) q2
  have d0 := cell_of_row w1 (w.heap.size + 1) 0 _ 25 (0, 0) q1
  have d1 := cell_of_row w1 (w.heap.size + 1) 1 _ 25 (0, 0) q1
  have d2 := cell_of_row w1 (w.heap.size + 1) 2 _ 25 (0, 0) q1
  have d3 := cell_of_row w1 (w.heap.size + 1) 3 _ 25 (0, 0) q1
  have f0 := frozen_of_row w1 (w.heap.size + 1) 0 _ 25 q1
  have f1 := frozen_of_row w1 (w.heap.size + 1) 1 _ 25 q1
  have f2 := frozen_of_row w1 (w.heap.size + 1) 2 _ 25 q1
  have f3 := frozen_of_row w1 (w.heap.size + 1) 3 _ 25 q1
  clear q1 q2 t1 CK
  generalize hg : w.heap.size = g at *
  cases V
  · have hcv : CV = 0 := HV.out
    subst hcv
    go_wp2_with fail
    have tk := ((((Tick.refl Q1.out).set 0 (.slice a 5 c)).set 1 (.int .u64 (next : Nat))).set 2 (.int .u64 (seq : Nat))).set 3 (.int .u64 (log : Nat))
    refine bodyPost_ret (v := .tuple #[.agg #[.slice a 5 c, .int .u64 (next : Nat), .int .u64 (seq : Nat), .int .u64 (log : Nat)], .int .i64 0]) ?_ rfl ?_
    · exact results_cell_tmp Try.results29 _ _ _ _ _ _ _ _ rfl rfl tk.1 Try.underlying25 rfl sz25
    · exact ⟨rfl, T1.out.andThen (Turns.of_tick tk) fun j hj e => by omega⟩
  · have hcv : CV = 2 := HV.out
    subst hcv
    go_wp2_with fail
    have tk := ((((Tick.refl Q1.out).set 0 (.slice none 0 0)).set 1 (.int .u64 0)).set 2 (.int .u64 0)).set 3 (.int .u64 0)
    refine bodyPost_ret (v := .tuple #[.agg #[.slice none 0 0, .int .u64 0, .int .u64 0, .int .u64 0], .int .i64 2]) ?_ rfl ?_
    · exact results_cell_tmp Try.results29 _ _ _ _ _ _ _ _ rfl rfl tk.1 Try.underlying25 rfl sz25
    · exact ⟨rfl, T1.out.andThen (Turns.of_tick tk) fun j hj e => by omega⟩
end Go.Proofs.Ytmmcikbedegigaa
