import Derived.Test.YtpgligfolecieaaM16
import Derived.Test.YtpgligfolecieaaM20
import Derived.Test.YtpgligfolecieaaM19
import Derived.Test.YtpgligfolecieaaM18
/-
  Everybody who looks; whether two entries have one key; a row, cloned.
-/
namespace Go.Proofs.Ytpgligfolecieaa
open Go.RowKit
set_option maxRecDepth 100000
set_option maxHeartbeats 4000000
theorem info27n : Try.prog.info? 27 = some Try.t27 := by kernel_rfl
theorem zero27n : Try.t27.zero = some (.int .u64 0) := by kernel_rfl
theorem size27n : Try.t27.size = 1 := by kernel_rfl
theorem bytes27n : Try.t27.bytes = 8 := by kernel_rfl
def numCells (ks : List Nat) : List Value := ks.map fun s => .int .u64 (s : Nat)
theorem append_top (w : World) (a : Option Addr) (n : Nat) (ks : List Nat) (h : U64s w a ks) (hn : n = ks.length) (hmx : n ≤ 1000000) (sb cc : Nat) (hsb : w.heap[sb]? = some (.cells #[.int .u64 72057594037927935] 27 (0, 0))) :
    ∃ (g c : Nat) (w' : World), (∀ ty, (Builtin.append_ #[35, 35] ty #[.slice a n n, .slice (some ⟨sb, 0, none⟩) 1 cc]).run Try.prog w = .ok (.slice (some ⟨g, 0, none⟩) (n + 1) c) w') ∧ n + 1 ≤ c ∧ U64s w' (some ⟨g, 0, none⟩) (ks ++ [topN]) ∧ Turns (fun _ => False) w w' := by
  have hold : (Builtin.firstCells Try.t27.size n (.slice a n n)).run Try.prog w.drew = .ok (numCells ks).toArray w.drew := by
    by_cases h0 : ks = []
    · subst h0
      obtain rfl : n = 0 := by simpa using hn
      cases a <;> rfl
    · obtain ⟨s0, h0⟩ : ∃ s, ks[0]? = some s := ⟨_, List.getElem?_eq_getElem (by cases ks; exact absurd rfl h0; simp)⟩
      obtain ⟨⟨b, off, rfl, _⟩, _⟩ := h 0 s0 h0
      refine run_firstCells_some (P := Try.prog) w.drew _ _ _ _ _ (numCells ks) (by simp [numCells, size27n, hn]) (fun j v hv => ?_)
      simp only [numCells, List.getElem?_map, Option.map_eq_some_iff] at hv
      obtain ⟨s, hs, rfl⟩ := hv
      obtain ⟨⟨b', off', e, hc⟩, _⟩ := h j s hs
      cases e
      rw [Go.WideShapes.add_plain]
      exact hc
  have hsrc : Src Try.prog Try.t27.size 35 (.slice (some ⟨sb, 0, none⟩) 1 cc) 1 [.int .u64 72057594037927935] w := Src.ofSlice w Try.underlying35 ⟨sb, 0, none⟩ 1 cc _ (by rw [size27n]; rfl) (fun j u hu => by
    rw [Go.WideShapes.add_plain, Nat.zero_add, cell_of_row w sb j _ 27 (0, 0) hsb]
    simpa using hu) (fun u hu => by
    obtain rfl := List.mem_singleton.1 hu
    rfl)
  have hr := fun ty => run_append_grow_src (P := Try.prog) w 35 35 ty 27 Try.t27 (.int .u64 0) Try.underlying35 info27n zero27n a n n (numCells ks) hold _ 1 _ hsrc (by omega) (by omega) (growslice_fits (by omega) (by rw [bytes27n]; omega))
  have hge := grownCap_ge w (n + 1) n 27
  generalize grownCap w (n + 1) n 27 = cp at *
  refine ⟨w.heap.size, cp, _, hr, hge, fun k s hk => ⟨⟨w.heap.size, 0, rfl, ?_⟩, ?_⟩, (Turns.refl _ _).drew.alloc _⟩
  · refine (cell_of_row _ w.heap.size (0 + k) _ 27 (0, 0) (heap_alloc_new w.drew _)).trans ?_
    have hlt := (List.getElem?_eq_some_iff.1 hk).1
    rw [List.length_append, List.length_singleton] at hlt
    rw [Nat.zero_add, Array.getElem?_append_left (by simp [numCells]; omega)]
    have hk2 : (numCells (ks ++ [topN]))[k]? = some (.int .u64 (s : Nat)) := by simp only [numCells, List.getElem?_map, hk, Option.map_some]
    simpa [numCells, topN] using hk2
  · rcases Nat.lt_or_ge k ks.length with h1 | h1
    · rw [List.getElem?_append_left h1] at hk
      exact (h k s hk).2
    · rw [List.getElem?_append_right h1] at hk
      have := List.mem_of_getElem? hk
      obtain rfl := List.mem_singleton.1 this
      decide
theorem allC_last {ks : List Nat} {n : Nat} {s : Nat} (hn : n + 1 = ks.length) (h : ks[n]? = some s) : allC ks = if s = topN then ks else ks ++ [topN] := by
  unfold allC
  rw [List.getLast?_eq_getElem?, show ks.length - 1 = n by omega, h]
  by_cases e : s = topN
  · simp [e]
  · simp [e]
theorem everybody_any (a : Option Addr) (n c : Nat) (ks : List Nat) (w : World) (h : U64s w a ks) (hn : n = ks.length) (hc : n ≤ c) (hmx : n ≤ 1000000) :
    Calls Try.prog 34 #[.slice a n c] w fun e w' => ∃ (a' : Option Addr) (n' c' : Nat), e = .returned (.slice a' n' c') ∧ U64s w' a' (allC ks) ∧ n' = (allC ks).length ∧ n' ≤ n + 1 ∧ n' ≤ c' ∧ Turns (fun _ => False) w w' := by
  have H := hide h
  have HN := hide hn
  have CL := hide (fun (u : World) => clip52 a n c hc u)
  have HC := hide hc
  clear h hn hc
  rcases n with _ | n
  · have hks : ks = [] := List.eq_nil_of_length_eq_zero HN.out.symm
    have HA := hide (show allC ks = ks ++ [topN] by rw [hks]; rfl)
    clear hks
    go_enter Try.func34, Try.ntmps34
    go_wp2_with fail
    refine (CL.out _).mono ?_
    rintro e w1 ⟨rfl, t1⟩
    have T1 := hide t1
    clear t1 CL
    have hal := (Turns.refl (fun _ => False) w1).alloc (.cells #[.int .u64 72057594037927935] 27)
    obtain ⟨g, cp, w2, hq, hcp, hu, t2⟩ := append_top (w1.alloc (.cells #[.int .u64 72057594037927935] 27)) a 0 ks (H.out.quiet (T1.out.trans hal)) HN.out (by omega) w1.heap.size 1 (heap_alloc_new w1 _)
    have HU := hide hu
    have T2 := hide ((T1.out.trans hal).trans t2)
    have HQ := hide hq
    have HCP := hide hcp
    clear hu t2 hal hq hcp
    go_wp2_with (at_builtin; refine wpList_append_run rfl _ _ 35 rfl _ _ rfl rfl _ _ (HQ.out _) ?_)
    go_ret
    exact ⟨_, _, _, rfl, by rw [HA.out]; exact HU.out, by rw [HA.out, List.length_append, ← HN.out]; rfl, by omega, HCP.out, T2.out⟩
  · obtain ⟨s, hks⟩ : ∃ s, ks[n]? = some s := ⟨_, List.getElem?_eq_getElem (by have := HN.out; omega)⟩
    have HA := hide (allC_last HN.out hks)
    obtain ⟨⟨b, off, rfl, hc⟩, hsb⟩ := H.out n s hks
    clear hks
    have i0 : (0 : Int) < (n : Int) + 1 := by omega
    have i1 : (n : Int) < (n : Int) + 1 := by omega
    by_cases hs : s = topN
    · have hs' : (s : Int) = 72057594037927935 := by rw [hs]; rfl
      have HA2 := hide (show allC ks = ks by rw [HA.out, if_pos hs])
      clear hs HA
      go_enter Try.func34, Try.ntmps34
      go_wp2_with fail
      go_ret
      exact ⟨_, _, _, rfl, by rw [HA2.out]; exact H.out, by rw [HA2.out]; exact HN.out, by omega, HC.out, Turns.refl _ _⟩
    · have hs' : ¬ (s : Int) = 72057594037927935 := fun e => hs (by show s = 72057594037927935; omega)
      have HA2 := hide (show allC ks = ks ++ [topN] by rw [HA.out, if_neg hs])
      clear hs HA
      go_enter Try.func34, Try.ntmps34
      go_wp2_with fail
      refine (CL.out _).mono ?_
      rintro e w1 ⟨rfl, t1⟩
      have T1 := hide t1
      clear t1 CL
      have hal := (Turns.refl (fun _ => False) w1).alloc (.cells #[.int .u64 72057594037927935] 27)
      obtain ⟨g, cp, w2, hq, hcp, hu, t2⟩ := append_top (w1.alloc (.cells #[.int .u64 72057594037927935] 27)) (some ⟨b, off, none⟩) (n + 1) ks (H.out.quiet (T1.out.trans hal)) HN.out (by omega) w1.heap.size 1 (heap_alloc_new w1 _)
      have HU := hide hu
      have T2 := hide ((T1.out.trans hal).trans t2)
      have HQ := hide hq
      have HCP := hide hcp
      clear hu t2 hal hq hcp
      go_wp2_with (at_builtin; refine wpList_append_run rfl _ _ 35 rfl _ _ rfl rfl _ _ (HQ.out _) ?_)
      go_ret
      exact ⟨_, _, _, rfl, by rw [HA2.out]; exact HU.out, by rw [HA2.out, List.length_append, ← HN.out]; rfl, by omega, HCP.out, T2.out⟩
theorem sameKey_any (x y : Tow) (w : World) (hx : Bytes w x.kv x.e.key) (hy : Bytes w y.kv y.e.key) :
    Calls Try.prog 49 #[.agg x.ent, .agg y.ent] w fun e w' => e = .returned (.bool (decide (x.e.key = y.e.key))) ∧ Turns (fun _ => False) w w' := by
  obtain ⟨ka, kc, va, vc, ⟨key, sq, kd, val⟩⟩ := x
  obtain ⟨ka', kc', va', vc', ⟨key', sq', kd', val'⟩⟩ := y
  unfold Tow.ent Tow.kv Tow.vv at *
  simp only at *
  have TA := hide (((Turns.refl (fun _ => False) w).alloc (.cells #[.slice ka key.length kc, .int .u64 (sq : Nat), .int .i64 kd, .slice va val.length vc] 29)).alloc (.cells #[.slice ka' key'.length kc', .int .u64 (sq' : Nat), .int .i64 kd', .slice va' val'.length vc'] 29))
  have EQ := hide (fun (u : World) (t : Turns (fun _ => False) w u) => equal_any ka ka' key.length key'.length kc kc' key key' u (hx.quiet t) (hy.quiet t))
  generalize decide (key = key') = B at *
  generalize key.length = L1 at *
  generalize key'.length = L2 at *
  generalize val.length = L3 at *
  generalize val'.length = L4 at *
  clear hx hy
  go_enter Try.func49, Try.ntmps49
  go_wp2_with fail
  refine (EQ.out _ TA.out).mono ?_
  rintro e w1 ⟨rfl, rfl⟩
  go_wp2_with fail
  go_ret
  exact ⟨rfl, TA.out⟩
end Go.Proofs.Ytpgligfolecieaa

/-
  What is merged hangs on the entries alone.
-/
namespace Go.Proofs.Ytpgligfolecieaa
open Go.RowKit
set_option maxRecDepth 100000
/-- What the rows' entries are, merged: entries alone. -/
structure MgE (L : List (List Ent)) (es : List Ent) : Prop where
  rise : es.Pairwise ltE
  of : ∀ x, x ∈ es → ∃ (i : Nat) (r : List Ent), L[i]? = some r ∧ x ∈ r ∧ ∀ (j : Nat) (r' : List Ent), j < i → L[j]? = some r' → ∀ y, y ∈ r' → cmpE y.en x.en ≠ 0
  all : ∀ (i : Nat) (r : List Ent), L[i]? = some r → ∀ y, y ∈ r → ∃ x, x ∈ es ∧ cmpE x.en y.en = 0
theorem entR_at {rs : List Rw} {i : Nat} {r : List Ent} (h : (entR rs)[i]? = some r) : ∃ x, rs[i]? = some x ∧ r = x.R.map (·.e) := by
  simp only [entR, List.getElem?_map] at h
  obtain ⟨x, h1, h2⟩ := Option.map_eq_some_iff.1 h
  exact ⟨x, h1, h2.symm⟩
theorem at_entR {rs : List Rw} {i : Nat} {x : Rw} (h : rs[i]? = some x) : (entR rs)[i]? = some (x.R.map (·.e)) := by simp [entR, h]
theorem Mg.ents {w : World} {a : Option Addr} {rs : List Rw} {xs : List Tow} (hr : RowsIn w a rs) (h : Mg (hds rs) xs) : MgE (entR rs) (xs.map (·.e)) := by
  refine ⟨rise_map h.rise, fun x hx => ?_, fun i r hi y hy => ?_⟩
  · obtain ⟨t, ht, rfl⟩ := List.mem_map.1 hx
    obtain ⟨g, g1, g2, g3⟩ := h.of t ht
    obtain ⟨i, q, hi, hR, hno⟩ := hds_is g1
    refine ⟨i, _, at_entR hi, List.mem_map.2 ⟨t, by rw [← hR]; exact g2, rfl⟩, fun j r' hj hr' y hy => ?_⟩
    obtain ⟨q', hq', rfl⟩ := entR_at hr'
    obtain ⟨t', ht', rfl⟩ := List.mem_map.1 hy
    obtain ⟨g', g1', g2', g3'⟩ := hds_of (hr j q' hq').2 hq' (List.ne_nil_of_mem ht')
    exact g3 g' g1' (by omega) t' (by rw [g2']; exact ht')
  · obtain ⟨q, hq, rfl⟩ := entR_at hi
    obtain ⟨t, ht, rfl⟩ := List.mem_map.1 hy
    obtain ⟨g, g1, g2, _⟩ := hds_of (hr i q hq).2 hq (List.ne_nil_of_mem ht)
    obtain ⟨x, hx1, hx2⟩ := h.all g g1 t (by rw [g2]; exact ht)
    exact ⟨x.e, List.mem_map.2 ⟨x, hx1, rfl⟩, hx2⟩
theorem eq_of_riseE : ∀ {xs ys : List Ent}, xs.Pairwise ltE → ys.Pairwise ltE → (∀ x, x ∈ xs ↔ x ∈ ys) → xs = ys
  | [], [], _, _, _ => rfl
  | [], y :: ys, _, _, h => absurd ((h y).2 (by simp)) (by simp)
  | x :: xs, [], _, _, h => absurd ((h x).1 (by simp)) (by simp)
  | x :: xs, y :: ys, hx, hy, h => by
    have irr : ∀ z : Ent, ¬ ltE z z := fun z hz => by
      have := cmpE_self z.en
      unfold ltE at hz
      omega
    have asym : ∀ a b : Ent, ltE a b → ¬ ltE b a := fun a b h1 h2 => by
      have := cmpE_swap a.en b.en
      unfold ltE at h1 h2
      omega
    obtain ⟨hx1, hx2⟩ := List.pairwise_cons.1 hx
    obtain ⟨hy1, hy2⟩ := List.pairwise_cons.1 hy
    have e : x = y := by
      rcases List.mem_cons.1 ((h x).1 (by simp)) with e | e
      · exact e
      · rcases List.mem_cons.1 ((h y).2 (by simp)) with e2 | e2
        · exact e2.symm
        · exact absurd (hy1 x e) (asym _ _ (hx1 y e2))
    subst e
    refine congrArg (x :: ·) (eq_of_riseE hx2 hy2 fun z => ⟨fun hz => ?_, fun hz => ?_⟩)
    · rcases List.mem_cons.1 ((h z).1 (List.mem_cons_of_mem _ hz)) with e | e
      · subst e; exact absurd (hx1 z hz) (irr z)
      · exact e
    · rcases List.mem_cons.1 ((h z).2 (List.mem_cons_of_mem _ hz)) with e | e
      · subst e; exact absurd (hy1 z hz) (irr z)
      · exact e
theorem same_of_riseE {R : List Ent} (h : R.Pairwise ltE) {x y : Ent} (hx : x ∈ R) (hy : y ∈ R) (e : cmpE x.en y.en = 0) : x = y := by
  induction R with
  | nil => cases hx
  | cons z r ih =>
    obtain ⟨h1, h2⟩ := List.pairwise_cons.1 h
    rcases List.mem_cons.1 hx with rfl | hx'
    · rcases List.mem_cons.1 hy with rfl | hy'
      · rfl
      · have := h1 y hy'; unfold ltE at this; omega
    · rcases List.mem_cons.1 hy with rfl | hy'
      · have := h1 x hx'; unfold ltE at this; have := cmpE_swap x.en y.en; omega
      · exact ih h2 hx' hy'
theorem MgE.uniq {L : List (List Ent)} (hu : ∀ r, r ∈ L → r.Pairwise ltE) {xs ys : List Ent} (hx : MgE L xs) (hy : MgE L ys) : xs = ys := by
  have key : ∀ {xs ys : List Ent}, MgE L xs → MgE L ys → ∀ x, x ∈ xs → x ∈ ys := fun {xs ys} hx hy x hm => by
    obtain ⟨i, r, h1, h2, h3⟩ := hx.of x hm
    obtain ⟨y, y1, y2⟩ := hy.all i r h1 x h2
    obtain ⟨j, r', h4, h5, h6⟩ := hy.of y y1
    have s := cmpE_swap x.en y.en
    have e : i = j := by
      rcases Nat.lt_trichotomy i j with c | c | c
      · exact absurd (by omega) (h6 i r c h1 x h2)
      · exact c
      · exact absurd y2 (h3 j r' c h4 y h5)
    subst e
    rw [h1] at h4
    cases h4
    rw [← same_of_riseE (hu r (List.mem_of_getElem? h1)) h5 h2 y2]
    exact y1
  exact eq_of_riseE hx.rise hy.rise fun x => ⟨key hx hy x, key hy hx x⟩
theorem eachOrd_entR (rs : List Rw) : eachOrd rs = (entR rs).all inOrd := by
  unfold eachOrd entR
  rw [List.all_map]
  rfl
theorem entR_up {rs : List Rw} (h : eachOrd rs = true) : ∀ r, r ∈ entR rs → r.Pairwise ltE := fun r hr => by
  obtain ⟨x, hx, rfl⟩ := List.mem_map.1 hr
  exact rise_map (pairwise_of_ord (List.all_eq_true.1 h x hx))
/-- Both sides of All come to the same. -/
theorem all_both {w w' : World} {a a' : Option Addr} {ps rs : List Rw} {R R' : List Tow} (hp : RowsIn w a ps) (hr : RowsIn w' a' rs) (he : entR ps = entR rs) (h : AllOk ps R) (h' : RAllOk rs R') : ents R = ents R' := by
  have ho : eachOrd ps = eachOrd rs := by rw [eachOrd_entR, eachOrd_entR, he]
  rcases h with ⟨o1, xs, hx, e1⟩ | ⟨o1, rfl⟩
  · rcases h' with ⟨o2, hy, _⟩ | ⟨o2, _⟩
    · have h1 := hx.ents hp
      have h2 := hy.ents hr
      rw [he] at h1
      have := MgE.uniq (entR_up o2) h1 h2
      unfold ents
      rw [e1, this]
    · rw [ho, o2] at o1; cases o1
  · rcases h' with ⟨o2, _⟩ | ⟨_, rfl⟩
    · rw [ho, o2] at o1; cases o1
    · rfl
theorem rngE_key (fk tk : Ky) (x y : Ent) (h : x.key = y.key) : rngE fk tk x = rngE fk tk y := by unfold rngE; rw [h]
/-- Both sides of Between come to the same. -/
theorem between_both {w w' : World} {a a' : Option Addr} {ps rs : List Rw} {R R' : List Tow} {fk tk : Ky} {seq : Nat} {n m : Int} (hp : RowsIn w a ps) (hr : RowsIn w' a' rs) (he : entR ps = entR rs) (h : BetweenOk ps fk tk seq n R) (h' : RBetOk rs fk tk seq m R') (hnm : n = m ∨ (1000000 ≤ n ∧ 1000000 ≤ m)) : ents R = ents R' := by
  have ho : eachOrd ps = eachOrd rs := by rw [eachOrd_entR, eachOrd_entR, he]
  rcases h with ⟨o1, xs, hx, e1⟩ | ⟨o1, rfl⟩
  · rcases h' with ⟨o2, ys, hy, hl, _, e2⟩ | ⟨o2, _⟩
    · have h1 := hx.ents hp
      have h2 := hy.ents hr
      rw [he] at h1
      have hE := MgE.uniq (entR_up o2) h1 h2
      unfold ents
      rw [e1, e2]
      have hf : (xs.filter (rng fk tk)).map (·.e) = (xs.map (·.e)).filter (rngE fk tk) := by rw [List.filter_map]; rfl
      rw [hf, seen_rng seq _ _ (rngE_key fk tk) h1.rise, hE]
      show (((ys.map (·.e)).filter (pick18 seq (ys.map (·.e)) fk tk)).take n.toNat) = _
      rcases hnm with rfl | ⟨g1, g2⟩
      · rfl
      · have hq := List.length_filter_le (pick18 seq (ys.map (·.e)) fk tk) (ys.map (·.e))
        rw [List.length_map] at hq
        rw [List.take_of_length_le (by omega), List.take_of_length_le (by omega)]
    · rw [ho, o2] at o1; cases o1
  · rcases h' with ⟨o2, _⟩ | ⟨_, rfl⟩
    · rw [ho, o2] at o1; cases o1
    · rfl
end Go.Proofs.Ytpgligfolecieaa

/-
  Both sides, as the laws call them.
-/
namespace Go.Proofs.Ytpgligfolecieaa
open Go.RowKit
set_option maxRecDepth 100000
set_option maxHeartbeats 4000000
theorem few_rows {w : World} {a : Option Addr} {rs : List Rw} (h : RowsOf w a rs) (hf : Few rs) : RowsIn w a rs := fun k x hx => by
  obtain ⟨h1, h2⟩ := h k x hx
  have := (hf.each x (List.mem_of_getElem? hx)).1
  exact ⟨h1, ⟨h2.ents, h2.cap, by omega⟩⟩
theorem entR_mem {ps rs : List Rw} (he : entR ps = entR rs) {x : Rw} (hx : x ∈ ps) : ∃ y, y ∈ rs ∧ x.R.map (·.e) = y.R.map (·.e) := by
  have h1 : x.R.map (·.e) ∈ entR rs := by rw [← he]; exact List.mem_map.2 ⟨x, hx, rfl⟩
  obtain ⟨y, hy, e⟩ := List.mem_map.1 h1
  exact ⟨y, hy, e.symm⟩
theorem good_own {w : World} {B : Nat} {v : Value} {ps rs : List Rw} (ho : Owned w B v ps) (he : entR ps = entR rs) (hf : Few rs) : Good ps := by
  have hl : ps.length = rs.length := by have := congrArg List.length he; simpa [entR] using this
  refine ⟨by have := hf.rows; omega, by rw [entR_sum, he, ← entR_sum]; have := hf.all; omega, fun x hx => ?_, fun x hx => (ho x hx).2.2.1⟩
  obtain ⟨r, hr, hxr⟩ := List.mem_flatMap.1 hx
  obtain ⟨y, hy, e⟩ := entR_mem he hr
  have hm : x.e ∈ y.R.map (·.e) := by rw [← e]; exact List.mem_map.2 ⟨x, hxr, rfl⟩
  obtain ⟨z, hz, e2⟩ := List.mem_map.1 hm
  have := (hf.each y hy).2 z hz
  rw [← e2]
  omega
theorem small_own {w : World} {B : Nat} {v : Value} {ps rs : List Rw} (he : entR ps = entR rs) (hf : Few rs) (_ : Owned w B v ps) : ∀ x, x ∈ ps → x.R.length ≤ 1000000 := fun x hx => by
  obtain ⟨y, hy, e⟩ := entR_mem he hx
  have h1 := congrArg List.length e
  rw [List.length_map, List.length_map] at h1
  have := (hf.each y hy).1
  omega
/-- Rows of one's own, with the entries of others. -/
structure Copy (w : World) (v : Value) (ps rs : List Rw) : Prop where
  ex : ∃ a c, v = .slice a ps.length c ∧ RowsIn w a ps
  good : Good ps
  ent : entR ps = entR rs
theorem Copy.quiet {w w' : World} {v : Value} {ps rs : List Rw} (h : Copy w v ps rs) (t : Turns (fun _ => False) w w') : Copy w' v ps rs := by
  obtain ⟨a, c, e, hr⟩ := h.ex
  exact ⟨⟨a, c, e, hr.quiet t⟩, h.good, h.ent⟩
/-- A result: entries that lie there. -/
def Got2 (w : World) (v : Value) (R : List Tow) : Prop := ∃ a c, v = .slice a R.length c ∧ Ents w a R
theorem Got2.quiet {w w' : World} {v : Value} {R : List Tow} (h : Got2 w v R) (t : Turns (fun _ => False) w w') : Got2 w' v R := by
  obtain ⟨a, c, e, h⟩ := h
  exact ⟨a, c, e, h.quiet t⟩
theorem ord_both {ps rs : List Rw} (he : entR ps = entR rs) : eachOrd ps = eachOrd rs := by rw [eachOrd_entR, eachOrd_entR, he]
theorem allC_any (a : Option Addr) (n c : Nat) (ps rs : List Rw) (w : World) (h : Copy w (.slice a n c) ps rs) :
    Calls Try.prog 36 #[.slice a n c] w fun e w' => ∃ a' n' c' R, e = .returned (.tuple #[.slice a' n' c', .int .i64 (ordE (eachOrd rs))]) ∧ Got2 w' (.slice a' n' c') R ∧ AllOk ps R ∧ Below w.heap.size w w' := by
  obtain ⟨a2, c2, e2, hr⟩ := h.ex
  cases e2
  refine (all_any a _ c ps w hr rfl h.good.fine).mono ?_
  rintro e w' ⟨v, R, rfl, hE, hS, hb, hA, _⟩
  obtain ⟨a', c', rfl, hen, _⟩ := ents_of hE hS
  exact ⟨a', _, c', R, by rw [ord_both h.ent], ⟨a', c', rfl, hen⟩, hA, hb⟩
/-- What the document's functions answer lies in the rows' memory. -/
def InRs (rs : List Rw) (R : List Tow) : Prop := ∀ x, x ∈ R → x ∈ allOf rs
theorem got_of {w : World} {a : Option Addr} {B : Nat} {rs : List Rw} {v : Value} {R : List Tow} (hr : RowsIn w a rs) (hE : ERow w B v R) (hi : InRs rs R) : ∃ a' c', v = .slice a' R.length c' ∧ Got2 w v R := by
  obtain ⟨a', c', e, hen, _⟩ := ents_row hE fun x hx => all_bytes hr (hi x hx)
  exact ⟨a', c', e, a', c', e, hen⟩
theorem rall_in {rs : List Rw} {R : List Tow} (h : RAllOk rs R) : InRs rs R := fun x hx => by
  rcases h with ⟨_, hm, _⟩ | ⟨_, rfl⟩
  · exact mg_from hm hx
  · cases hx
theorem rbet_in {rs : List Rw} {fk tk : Ky} {seq : Nat} {m : Int} {R : List Tow} (h : RBetOk rs fk tk seq m R) : InRs rs R := fun x hx => by
  rcases h with ⟨_, xs, hm, _, hi, _⟩ | ⟨_, rfl⟩
  · exact mg_from hm (hi x hx)
  · cases hx
theorem allR_any (a : Option Addr) (n c : Nat) (rs : List Rw) (w : World) (h : RowsIn w a rs) (hn : n = rs.length) (hf : Few rs) :
    Calls Try.prog 39 #[.slice a n c] w fun e w' => ∃ a' n' c' R, e = .returned (.tuple #[.slice a' n' c', .int .i64 (ordE (eachOrd rs))]) ∧ Got2 w' (.slice a' n' c') R ∧ RAllOk rs R ∧ Below w.heap.size w w' := by
  refine (refAll_any a n c rs w h hn hf).mono ?_
  rintro e w' ⟨v, R, rfl, hE, hb, hA⟩
  obtain ⟨a', c', rfl, hg⟩ := got_of (h.quiet (Turns.of_below hb _)) hE (rall_in hA)
  exact ⟨a', _, c', R, rfl, hg, hA, hb⟩
theorem seenR_any (a : Option Addr) (n c : Nat) (rs : List Rw) (seq : Nat) (w : World) (h : RowsIn w a rs) (hn : n = rs.length) (hf : Few rs) :
    Calls Try.prog 24 #[.slice a n c, .int .u64 (seq : Nat)] w fun e w' => ∃ a' n' c' R, e = .returned (.tuple #[.slice a' n' c', .int .i64 (ordE (eachOrd rs))]) ∧ Got2 w' (.slice a' n' c') R ∧ RBetOk rs [] [] seq 4611686018427387904 R ∧ Below w.heap.size w w' := by
  refine (rSeen_any a n c rs seq w h hn hf).mono ?_
  rintro e w' ⟨v, R, rfl, hE, hb, hA⟩
  obtain ⟨a', c', rfl, hg⟩ := got_of (h.quiet (Turns.of_below hb _)) hE (rbet_in hA)
  exact ⟨a', _, c', R, rfl, hg, hA, hb⟩
theorem betR_any (a : Option Addr) (n c : Nat) (rs : List Rw) (fa ta : Option Addr) (fn fc tn tc : Nat) (fk tk : Ky) (seq : Nat) (m : Int) (w : World) (h : RowsIn w a rs) (hn : n = rs.length) (hf : Few rs) (hfk : Bytes w (.slice fa fn fc) fk) (htk : Bytes w (.slice ta tn tc) tk) (hfn : fn ≤ 15000) (htn : tn ≤ 15000) :
    Calls Try.prog 47 #[.slice a n c, .slice fa fn fc, .slice ta tn tc, .int .u64 (seq : Nat), .int .i64 m] w fun e w' => ∃ a' n' c' R, e = .returned (.tuple #[.slice a' n' c', .int .i64 (ordE (eachOrd rs))]) ∧ Got2 w' (.slice a' n' c') R ∧ RBetOk rs fk tk seq m R ∧ Below w.heap.size w w' := by
  refine (rBetween_any a n c rs fa ta fn fc tn tc fk tk seq m w h hn hf hfk htk hfn htn).mono ?_
  rintro e w' ⟨v, R, rfl, hE, hb, hA⟩
  obtain ⟨a', c', rfl, hg⟩ := got_of (h.quiet (Turns.of_below hb _)) hE (rbet_in hA)
  exact ⟨a', _, c', R, rfl, hg, hA, hb⟩
/-- The same entries are found the same. -/
theorem sameC_any (a a' : Option Addr) (n n' c c' : Nat) (R R' : List Tow) (rs : List Rw) (w : World) (h : Got2 w (.slice a n c) R) (h' : Got2 w (.slice a' n' c') R') (he : ents R = ents R') (hi : InRs rs R') (hf : Few rs) (hl : R'.length ≤ 150) :
    Calls Try.prog 19 #[.slice a n c, .slice a' n' c'] w fun e w' => e = .returned (.bool true) ∧ Below w.heap.size w w' := by
  obtain ⟨_, _, e1, g1⟩ := h
  obtain ⟨_, _, e2, g2⟩ := h'
  cases e1
  cases e2
  have hll : R.length = R'.length := by have := congrArg List.length he; simpa [ents] using this
  refine (entriesEq_any a a' _ _ c c' R R' w g1 g2 rfl rfl (by omega) (fun x hx => ?_)).mono ?_
  · have hm : x.e ∈ ents R' := by rw [← he]; exact List.mem_map.2 ⟨x, hx, rfl⟩
    obtain ⟨z, hz, e⟩ := List.mem_map.1 hm
    obtain ⟨r, hr, hzr⟩ := List.mem_flatMap.1 (hi z hz)
    have := (hf.each r hr).2 z hzr
    rw [← e]
    omega
  · rintro e w' ⟨⟨d, rfl, hd⟩, hb⟩
    rw [hd.2 he]
    exact ⟨rfl, hb⟩
theorem rall_len {rs : List Rw} {R : List Tow} (h : RAllOk rs R) (hf : Few rs) : R.length ≤ 150 := by
  rcases h with ⟨_, _, hl⟩ | ⟨_, rfl⟩
  · have := hf.all; omega
  · simp
theorem rbet_len {rs : List Rw} {fk tk : Ky} {seq : Nat} {m : Int} {R : List Tow} (h : RBetOk rs fk tk seq m R) : R.length ≤ 150 := by
  rcases h with ⟨_, xs, _, hl, _, he⟩ | ⟨_, rfl⟩
  · have h1 := congrArg List.length he
    have h2 := List.length_filter_le (pick18 seq (xs.map (·.e)) fk tk) (xs.map (·.e))
    rw [List.length_map, List.length_take] at h1
    rw [List.length_map] at h2
    omega
  · simp
end Go.Proofs.Ytpgligfolecieaa

/-
  What is left of a row, as a filter; whoever looks sees the same; again nothing changes.
-/
namespace Go.Proofs.Ytpgligfolecieaa
set_option maxRecDepth 100000
set_option maxHeartbeats 4000000
theorem pw_at {es : List Ent} (h : es.Pairwise ltE) {i j : Nat} {x y : Ent} (hi : es[i]? = some x) (hj : es[j]? = some y) (hij : i < j) : ltE x y := by
  rw [List.pairwise_iff_getElem] at h
  obtain ⟨i1, e1⟩ := List.getElem?_eq_some_iff.1 hi
  obtain ⟨i2, e2⟩ := List.getElem?_eq_some_iff.1 hj
  have := h i j i1 i2 hij
  rwa [e1, e2] at this
theorem hides_iff {s : Nat} {x y : Ent} : hides s x y = true ↔ y.key = x.key ∧ y.seq ≤ s ∧ x.seq < y.seq := by
  unfold hides
  simp only [Bool.and_eq_true, decide_eq_true_eq, and_assoc]
theorem hid1_any {es : List Ent} (h : es.Pairwise ltE) {i s : Nat} {x : Ent} (hx : es[i]? = some x) : hid1 x s (prevOf es i) = es.any (hides s x) := by
  rw [Bool.eq_iff_iff, List.any_eq_true]
  constructor
  · intro hh
    unfold prevOf at hh
    split at hh
    · cases hh
    · next hi0 =>
      have hlt := (List.getElem?_eq_some_iff.1 hx).1
      obtain ⟨p, hp⟩ : ∃ p, es[i - 1]? = some p := ⟨_, List.getElem?_eq_getElem (by omega)⟩
      rw [hp] at hh
      simp only [hid1, Bool.and_eq_true, decide_eq_true_eq] at hh
      exact ⟨p, List.mem_of_getElem? hp, hides_iff.2 ⟨hh.1, hh.2, ltE_seq (pw_at h hp hx (by omega)) hh.1⟩⟩
  · rintro ⟨y, hy, hh⟩
    obtain ⟨h1, h2, h3⟩ := hides_iff.1 hh
    obtain ⟨j, hj⟩ := List.getElem?_of_mem hy
    have hji : j < i := by
      rcases Nat.lt_trichotomy j i with q | q | q
      · exact q
      · subst q; rw [hx] at hj; cases hj; omega
      · have := ltE_seq (pw_at h hx hj q) h1.symm; omega
    unfold prevOf
    rw [if_neg (by omega)]
    have hlt := (List.getElem?_eq_some_iff.1 hx).1
    obtain ⟨p, hp⟩ : ∃ p, es[i - 1]? = some p := ⟨_, List.getElem?_eq_getElem (by omega)⟩
    rw [hp]
    simp only [hid1, Bool.and_eq_true, decide_eq_true_eq]
    by_cases e : j = i - 1
    · subst e
      rw [hp] at hj
      cases hj
      exact ⟨h1, h2⟩
    · have g1 := pw_at h hj hp (by omega)
      have g2 := pw_at h hp hx (by omega)
      have hk := key_mid g1 g2 h1
      have := ltE_seq g1 (h1.trans hk.symm)
      exact ⟨hk, by omega⟩
def visX (all : List Nat) (es : List Ent) (x : Ent) : Bool := all.any fun s => decide (x.seq ≤ s) && !es.any (hides s x)
theorem visAt_X {all : List Nat} {es : List Ent} (h : es.Pairwise ltE) {i : Nat} {x : Ent} (hx : es[i]? = some x) : visAt all es i = visX all es x := by
  unfold visAt visOf visX
  rw [hx]
  simp only
  congr 1
  funext s
  rw [hid1_any h hx]
theorem oldS_iff : ∀ (S : List (Ent × Bool)) (x : Ent) (b : Bool) (r : List (Ent × Bool)), S = (x, b) :: r → (S.map (·.1)).Pairwise ltE → (oldS S = true ↔ ∃ y, (y, true) ∈ S ∧ y.key = x.key ∧ y.kind ≠ 2)
  | [], _, _, _, e, _ => by cases e
  | (x, b) :: r, _, _, _, rfl, hp => by
    have hpr : (r.map (·.1)).Pairwise ltE := by
      rw [List.map_cons] at hp
      exact (List.pairwise_cons.1 hp).2
    have hx : ∀ y c, (y, c) ∈ r → ltE x y := fun y c hy => by
      rw [List.map_cons] at hp
      exact (List.pairwise_cons.1 hp).1 y (List.mem_map.2 ⟨(y, c), hy, rfl⟩)
    simp only [oldS, Bool.or_eq_true, Bool.and_eq_true, decide_eq_true_eq]
    constructor
    · rintro (⟨h1, h2⟩ | ⟨h1, h2⟩)
      · cases r with
        | nil => cases h2
        | cons z t =>
          obtain ⟨z, c⟩ := z
          obtain ⟨y, hy, hk, hd⟩ := (oldS_iff ((z, c) :: t) z c t rfl hpr).1 h1
          have hz : x.key = z.key := of_decide_eq_true h2
          exact ⟨y, List.mem_cons_of_mem _ hy, by rw [hk, hz], hd⟩
      · exact ⟨x, by rw [h1]; exact List.mem_cons_self, rfl, h2⟩
    · rintro ⟨y, hy, hk, hd⟩
      rcases List.mem_cons.1 hy with e | hy
      · cases e
        exact .inr ⟨rfl, hd⟩
      · left
        cases r with
        | nil => cases hy
        | cons z t =>
          obtain ⟨z, c⟩ := z
          have hzk : z.key = x.key := by
            rcases List.mem_cons.1 hy with e | hy2
            · cases e; exact hk
            · have g1 := hx z c List.mem_cons_self
              have g2 : ltE z y := by
                rw [List.map_cons] at hpr
                exact (List.pairwise_cons.1 hpr).1 y (List.mem_map.2 ⟨(y, true), hy2, rfl⟩)
              have := key_mid g1 g2 hk.symm
              rw [this, hk]
          exact ⟨(oldS_iff ((z, c) :: t) z c t rfl hpr).2 ⟨y, hy, by rw [hk, hzk], hd⟩, decide_eq_true hzk.symm⟩
def oldX (all : List Nat) (es : List Ent) (x : Ent) : Bool := es.any fun y => decide (y.key = x.key) && decide (y.seq ≤ x.seq) && visX all es y && decide (y.kind ≠ 2)
def stayX (all : List Nat) (bot : Bool) (es : List Ent) (x : Ent) : Bool := visX all es x && (!bot || oldX all es x)
theorem keepB_filter {α : Type} (f : α → Bool) : ∀ (l : List α) (v : List Bool), v.length = l.length → (∀ (i : Nat) (x : α), l[i]? = some x → v[i]? = some (f x)) → keepB l v = l.filter f
  | [], v, _, _ => keepB_nil v
  | x :: r, [], h, _ => by simp at h
  | x :: r, b :: t, h, hf => by
    have h0 : b = f x := by simpa using hf 0 x rfl
    have ih := keepB_filter f r t (by simpa using h) fun i y hy => by
      have := hf (i + 1) y (by simpa using hy)
      simpa using this
    simp only [keepB]
    rw [ih, List.filter_cons, h0]
theorem rowE_filter (all : List Nat) (bot : Bool) (es : List Ent) (h : es.Pairwise ltE) : rowE all bot es = es.filter (stayX all bot es) := by
  unfold rowE
  refine keepB_filter _ _ _ ?_ fun i x hx => ?_
  · unfold rowB
    split
    · rw [stayB_length, List.length_zip, vis_length, Nat.min_self]
    · rw [vis_length]
  · have hlt := (List.getElem?_eq_some_iff.1 hx).1
    have hv : (vis all es)[i]? = some (visX all es x) := by rw [vis_at all es hlt, visAt_X h hx]
    unfold rowB stayX
    cases bot with
    | false => simpa using hv
    | true =>
      simp only [if_true, Bool.not_true, Bool.false_or]
      have hz : (es.zip (vis all es))[i]? = some (x, visX all es x) := List.getElem?_zip_eq_some.2 ⟨hx, hv⟩
      rw [stayB_at _ i x _ hz]
      congr 2
      have hpz : (((es.zip (vis all es)).drop i).map (·.1)).Pairwise ltE := by
        rw [List.map_drop, List.map_fst_zip (by rw [vis_length]; exact Nat.le_refl _)]
        exact h.sublist (List.drop_sublist _ _)
      have hd : (es.zip (vis all es)).drop i = (x, visX all es x) :: (es.zip (vis all es)).drop (i + 1) := by
        obtain ⟨hi, e⟩ := List.getElem?_eq_some_iff.1 hz
        rw [List.drop_eq_getElem_cons hi, e]
      rw [Bool.eq_iff_iff, oldS_iff _ _ _ _ hd hpz]
      unfold oldX
      rw [List.any_eq_true]
      constructor
      · rintro ⟨y, hy, hk, hkd⟩
        obtain ⟨j, hj⟩ := List.getElem?_of_mem hy
        rw [List.getElem?_drop] at hj
        obtain ⟨hj1, hj2⟩ := List.getElem?_zip_eq_some.1 hj
        have hlt2 := (List.getElem?_eq_some_iff.1 hj1).1
        rw [vis_at all es hlt2, visAt_X h hj1] at hj2
        refine ⟨y, List.mem_of_getElem? hj1, ?_⟩
        have hs : y.seq ≤ x.seq := by
          by_cases e : i + j = i
          · rw [e] at hj1
            rw [hx] at hj1
            cases hj1
            exact Nat.le_refl _
          · exact Nat.le_of_lt (ltE_seq (pw_at h hx hj1 (by omega)) hk.symm)
        simp [hk, hs, Option.some.inj hj2, hkd]
      · rintro ⟨y, hy, hh⟩
        simp only [Bool.and_eq_true, decide_eq_true_eq] at hh
        obtain ⟨⟨⟨h1, h2⟩, h3⟩, h4⟩ := hh
        obtain ⟨j, hj⟩ := List.getElem?_of_mem hy
        have hlt2 := (List.getElem?_eq_some_iff.1 hj).1
        have hij : i ≤ j := by
          rcases Nat.lt_or_ge j i with q | q
          · have := ltE_seq (pw_at h hj hx q) h1
            omega
          · exact q
        refine ⟨y, ?_, h1, h4⟩
        have hz2 : (es.zip (vis all es))[j]? = some (y, true) := List.getElem?_zip_eq_some.2 ⟨hj, by rw [vis_at all es hlt2, visAt_X h hj, h3]⟩
        have : ((es.zip (vis all es)).drop i)[j - i]? = some (y, true) := by rw [List.getElem?_drop, show i + (j - i) = j by omega]; exact hz2
        exact List.mem_of_getElem? this
theorem any_sub {es L : List Ent} {f : Ent → Bool} (hs : ∀ y, y ∈ L → y ∈ es) (h : es.any f = false) : L.any f = false := by
  rw [List.any_eq_false] at h ⊢
  exact fun y hy => h y (hs y hy)
theorem visX_iff {all : List Nat} {es : List Ent} {x : Ent} : visX all es x = true ↔ ∃ s, s ∈ all ∧ x.seq ≤ s ∧ es.any (hides s x) = false := by
  unfold visX
  rw [List.any_eq_true]
  simp only [Bool.and_eq_true, decide_eq_true_eq, Bool.not_eq_true']
theorem visX_sub {all : List Nat} {es L : List Ent} {x : Ent} (hs : ∀ y, y ∈ L → y ∈ es) (h : visX all es x = true) : visX all L x = true := by
  obtain ⟨s, h1, h2, h3⟩ := visX_iff.1 h
  exact visX_iff.2 ⟨s, h1, h2, any_sub hs h3⟩
theorem oldX_iff {all : List Nat} {es : List Ent} {x : Ent} : oldX all es x = true ↔ ∃ y, y ∈ es ∧ y.key = x.key ∧ y.seq ≤ x.seq ∧ visX all es y = true ∧ y.kind ≠ 2 := by
  unfold oldX
  rw [List.any_eq_true]
  simp only [Bool.and_eq_true, decide_eq_true_eq, and_assoc]
theorem stayX_iff {all : List Nat} {bot : Bool} {es : List Ent} {x : Ent} : stayX all bot es x = true ↔ visX all es x = true ∧ (bot = true → oldX all es x = true) := by
  unfold stayX
  cases bot <;> simp
/-- Compacting again changes nothing. -/
theorem row_again (all : List Nat) (bot : Bool) (es : List Ent) (h : es.Pairwise ltE) : rowE all bot (rowE all bot es) = rowE all bot es := by
  have hL : (rowE all bot es).Pairwise ltE := by rw [rowE_filter all bot es h]; exact h.sublist List.filter_sublist
  rw [rowE_filter all bot _ hL]
  refine List.filter_eq_self.2 fun x hx => ?_
  rw [rowE_filter all bot es h] at hx ⊢
  have hsub : ∀ y, y ∈ es.filter (stayX all bot es) → y ∈ es := fun y hy => (List.mem_filter.1 hy).1
  obtain ⟨hxe, hst⟩ := List.mem_filter.1 hx
  obtain ⟨h1, h2⟩ := stayX_iff.1 hst
  refine stayX_iff.2 ⟨visX_sub hsub h1, fun hb => ?_⟩
  obtain ⟨y, hy, hk, hs, hv, hd⟩ := oldX_iff.1 (h2 hb)
  have hyL : y ∈ es.filter (stayX all bot es) := List.mem_filter.2 ⟨hy, stayX_iff.2 ⟨hv, fun _ => oldX_iff.2 ⟨y, hy, rfl, Nat.le_refl _, hv, hd⟩⟩⟩
  exact oldX_iff.2 ⟨y, hyL, hk, hs, visX_sub hsub hv, hd⟩
theorem newest_iff {s : Nat} {xs : List Ent} {x : Ent} : newest s xs x = true ↔ x.seq ≤ s ∧ x.kind = 1 ∧ xs.any (hides s x) = false := by
  unfold newest
  simp only [Bool.and_eq_true, decide_eq_true_eq, Bool.not_eq_true', and_assoc]
/-- The newest that hides. -/
theorem top_hider {s : Nat} {x : Ent} : ∀ (es : List Ent), es.any (hides s x) = true → ∃ y, y ∈ es ∧ hides s x y = true ∧ ∀ z, z ∈ es → hides s x z = true → z.seq ≤ y.seq
  | [], h => by cases h
  | a :: r, h => by
    by_cases hr : r.any (hides s x) = true
    · obtain ⟨y, hy, h1, h2⟩ := top_hider r hr
      by_cases ha : hides s x a = true
      · by_cases hl : a.seq ≤ y.seq
        · exact ⟨y, List.mem_cons_of_mem _ hy, h1, fun z hz hh => by
            rcases List.mem_cons.1 hz with rfl | hz
            · exact hl
            · exact h2 z hz hh⟩
        · exact ⟨a, List.mem_cons_self, ha, fun z hz hh => by
            rcases List.mem_cons.1 hz with rfl | hz
            · exact Nat.le_refl _
            · have := h2 z hz hh; omega⟩
      · exact ⟨y, List.mem_cons_of_mem _ hy, h1, fun z hz hh => by
          rcases List.mem_cons.1 hz with rfl | hz
          · exact absurd hh ha
          · exact h2 z hz hh⟩
    · have ha : hides s x a = true := by
        rw [List.any_cons, Bool.or_eq_true] at h
        exact h.resolve_right hr
      exact ⟨a, List.mem_cons_self, ha, fun z hz hh => by
        rcases List.mem_cons.1 hz with rfl | hz
        · exact Nat.le_refl _
        · exact absurd (List.any_eq_true.2 ⟨z, hz, hh⟩) hr⟩
/-- Whoever looks sees the same. -/
theorem row_seen (all : List Nat) (bot : Bool) (es : List Ent) (h : es.Pairwise ltE) {s : Nat} (hs : s ∈ all) : es.filter (newest s es) = (rowE all bot es).filter (newest s (rowE all bot es)) := by
  rw [rowE_filter all bot es h, List.filter_filter]
  refine List.filter_congr fun x hx => ?_
  have hsub : ∀ y, y ∈ es.filter (stayX all bot es) → y ∈ es := fun y hy => (List.mem_filter.1 hy).1
  rw [Bool.eq_iff_iff, Bool.and_eq_true]
  constructor
  · intro hn
    obtain ⟨h1, h2, h3⟩ := newest_iff.1 hn
    have hv : visX all es x = true := visX_iff.2 ⟨s, hs, h1, h3⟩
    exact ⟨newest_iff.2 ⟨h1, h2, any_sub hsub h3⟩, stayX_iff.2 ⟨hv, fun _ => oldX_iff.2 ⟨x, hx, rfl, Nat.le_refl _, hv, by rw [h2]; decide⟩⟩⟩
  · rintro ⟨hn, hst⟩
    obtain ⟨h1, h2, h3⟩ := newest_iff.1 hn
    refine newest_iff.2 ⟨h1, h2, ?_⟩
    rw [Bool.eq_false_iff]
    intro hany
    obtain ⟨y, hy, hh, htop⟩ := top_hider es hany
    obtain ⟨hk, hys, hxy⟩ := hides_iff.1 hh
    have hv : visX all es y = true := visX_iff.2 ⟨s, hs, hys, by
      rw [Bool.eq_false_iff]
      intro ha
      obtain ⟨z, hz, hz2⟩ := List.any_eq_true.1 ha
      obtain ⟨a1, a2, a3⟩ := hides_iff.1 hz2
      have := htop z hz (hides_iff.2 ⟨a1.trans hk, a2, by omega⟩)
      omega⟩
    have hyL : y ∈ es.filter (stayX all bot es) := List.mem_filter.2 ⟨hy, stayX_iff.2 ⟨hv, fun hb => by
      obtain ⟨z, hz, b1, b2, b3, b4⟩ := oldX_iff.1 ((stayX_iff.1 hst).2 hb)
      exact oldX_iff.2 ⟨z, hz, b1.trans hk.symm, by omega, b3, b4⟩⟩⟩
    rw [List.any_eq_false] at h3
    exact h3 y hyL hh
theorem row_rise (all : List Nat) (bot : Bool) (es : List Ent) (h : es.Pairwise ltE) : (rowE all bot es).Pairwise ltE := by
  rw [rowE_filter all bot es h]
  exact h.sublist List.filter_sublist
end Go.Proofs.Ytpgligfolecieaa
