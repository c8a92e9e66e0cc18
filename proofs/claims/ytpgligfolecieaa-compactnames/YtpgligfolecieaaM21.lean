import Derived.Test.YtpgligfolecieaaM16
import Derived.Test.YtpgligfolecieaaM20
/-
  Everybody who looks; whether two entries have one key; a row, cloned.
-/
namespace Go.Proofs.Ytpgligfolecieaa
open Go.RowKit
set_option maxRecDepth 100000
set_option maxHeartbeats 4000000
theorem info27n : Try.prog.info? 27 = some Try.t27 := by kernel_rfl
theorem zero27n : Try.t27.zero = some (.int .u64 0) := by kernel_rfl
theorem size27n : Try.t27.size = 1 := by kernel_rfl
theorem bytes27n : Try.t27.bytes = 8 := by kernel_rfl
def numCells (ks : List Nat) : List Value := ks.map fun s => .int .u64 (s : Nat)
theorem append_top (w : World) (a : Option Addr) (n : Nat) (ks : List Nat) (h : U64s w a ks) (hn : n = ks.length) (hmx : n ≤ 1000000) (sb cc : Nat) (hsb : w.heap[sb]? = some (.cells #[.int .u64 72057594037927935] 27 (0, 0))) :
    ∃ (g c : Nat) (w' : World), (∀ ty, (Builtin.append_ #[35, 35] ty #[.slice a n n, .slice (some ⟨sb, 0, none⟩) 1 cc]).run Try.prog w = .ok (.slice (some ⟨g, 0, none⟩) (n + 1) c) w') ∧ n + 1 ≤ c ∧ U64s w' (some ⟨g, 0, none⟩) (ks ++ [topN]) ∧ Turns (fun _ => False) w w' := by
  have hold : (Builtin.firstCells Try.t27.size n (.slice a n n)).run Try.prog w.drew = .ok (numCells ks).toArray w.drew := by
    by_cases h0 : ks = []
    · subst h0
      obtain rfl : n = 0 := by simpa using hn
      cases a <;> rfl
    · obtain ⟨s0, h0⟩ : ∃ s, ks[0]? = some s := ⟨_, List.getElem?_eq_getElem (by cases ks; exact absurd rfl h0; simp)⟩
      obtain ⟨⟨b, off, rfl, _⟩, _⟩ := h 0 s0 h0
      refine run_firstCells_some (P := Try.prog) w.drew _ _ _ _ _ (numCells ks) (by simp [numCells, size27n, hn]) (fun j v hv => ?_)
      simp only [numCells, List.getElem?_map, Option.map_eq_some_iff] at hv
      obtain ⟨s, hs, rfl⟩ := hv
      obtain ⟨⟨b', off', e, hc⟩, _⟩ := h j s hs
      cases e
      rw [Go.WideShapes.add_plain]
      exact hc
  have hsrc : Src Try.prog Try.t27.size 35 (.slice (some ⟨sb, 0, none⟩) 1 cc) 1 [.int .u64 72057594037927935] w := Src.ofSlice w Try.underlying35 ⟨sb, 0, none⟩ 1 cc _ (by rw [size27n]; rfl) (fun j u hu => by
    rw [Go.WideShapes.add_plain, Nat.zero_add, cell_of_row w sb j _ 27 (0, 0) hsb]
    simpa using hu) (fun u hu => by
    obtain rfl := List.mem_singleton.1 hu
    rfl)
  have hr := fun ty => run_append_grow_src (P := Try.prog) w 35 35 ty 27 Try.t27 (.int .u64 0) Try.underlying35 info27n zero27n a n n (numCells ks) hold _ 1 _ hsrc (by omega) (by omega) (growslice_fits (by omega) (by rw [bytes27n]; omega))
  have hge := grownCap_ge w (n + 1) n 27
  generalize grownCap w (n + 1) n 27 = cp at *
  refine ⟨w.heap.size, cp, _, hr, hge, fun k s hk => ⟨⟨w.heap.size, 0, rfl, ?_⟩, ?_⟩, (Turns.refl _ _).drew.alloc _⟩
  · refine (cell_of_row _ w.heap.size (0 + k) _ 27 (0, 0) (heap_alloc_new w.drew _)).trans ?_
    have hlt := (List.getElem?_eq_some_iff.1 hk).1
    rw [List.length_append, List.length_singleton] at hlt
    rw [Nat.zero_add, Array.getElem?_append_left (by simp [numCells]; omega)]
    have hk2 : (numCells (ks ++ [topN]))[k]? = some (.int .u64 (s : Nat)) := by simp only [numCells, List.getElem?_map, hk, Option.map_some]
    simpa [numCells, topN] using hk2
  · rcases Nat.lt_or_ge k ks.length with h1 | h1
    · rw [List.getElem?_append_left h1] at hk
      exact (h k s hk).2
    · rw [List.getElem?_append_right h1] at hk
      have := List.mem_of_getElem? hk
      obtain rfl := List.mem_singleton.1 this
      decide
theorem allC_last {ks : List Nat} {n : Nat} {s : Nat} (hn : n + 1 = ks.length) (h : ks[n]? = some s) : allC ks = if s = topN then ks else ks ++ [topN] := by
  unfold allC
  rw [List.getLast?_eq_getElem?, show ks.length - 1 = n by omega, h]
  by_cases e : s = topN
  · simp [e]
  · simp [e]
theorem everybody_any (a : Option Addr) (n c : Nat) (ks : List Nat) (w : World) (h : U64s w a ks) (hn : n = ks.length) (hc : n ≤ c) (hmx : n ≤ 1000000) :
    Calls Try.prog 34 #[.slice a n c] w fun e w' => ∃ (a' : Option Addr) (n' c' : Nat), e = .returned (.slice a' n' c') ∧ U64s w' a' (allC ks) ∧ n' = (allC ks).length ∧ n' ≤ n + 1 ∧ n' ≤ c' ∧ Turns (fun _ => False) w w' := by
  have H := hide h
  have HN := hide hn
  have CL := hide (fun (u : World) => clip52 a n c hc u)
  have HC := hide hc
  clear h hn hc
  rcases n with _ | n
  · have hks : ks = [] := List.eq_nil_of_length_eq_zero HN.out.symm
    have HA := hide (show allC ks = ks ++ [topN] by rw [hks]; rfl)
    clear hks
    go_enter Try.func34, Try.ntmps34
    go_wp2_with fail
    refine (CL.out _).mono ?_
    rintro e w1 ⟨rfl, t1⟩
    have T1 := hide t1
    clear t1 CL
    have hal := (Turns.refl (fun _ => False) w1).alloc (.cells #[.int .u64 72057594037927935] 27)
    obtain ⟨g, cp, w2, hq, hcp, hu, t2⟩ := append_top (w1.alloc (.cells #[.int .u64 72057594037927935] 27)) a 0 ks (H.out.quiet (T1.out.trans hal)) HN.out (by omega) w1.heap.size 1 (heap_alloc_new w1 _)
    have HU := hide hu
    have T2 := hide ((T1.out.trans hal).trans t2)
    have HQ := hide hq
    have HCP := hide hcp
    clear hu t2 hal hq hcp
    go_wp2_with (at_builtin; refine wpList_append_run rfl _ _ 35 rfl _ _ rfl rfl _ _ (HQ.out _) ?_)
    go_ret
    exact ⟨_, _, _, rfl, by rw [HA.out]; exact HU.out, by rw [HA.out, List.length_append, ← HN.out]; rfl, by omega, HCP.out, T2.out⟩
  · obtain ⟨s, hks⟩ : ∃ s, ks[n]? = some s := ⟨_, List.getElem?_eq_getElem (by have := HN.out; omega)⟩
    have HA := hide (allC_last HN.out hks)
    obtain ⟨⟨b, off, rfl, hc⟩, hsb⟩ := H.out n s hks
    clear hks
    have i0 : (0 : Int) < (n : Int) + 1 := by omega
    have i1 : (n : Int) < (n : Int) + 1 := by omega
    by_cases hs : s = topN
    · have hs' : (s : Int) = 72057594037927935 := by rw [hs]; rfl
      have HA2 := hide (show allC ks = ks by rw [HA.out, if_pos hs])
      clear hs HA
      go_enter Try.func34, Try.ntmps34
      go_wp2_with fail
      go_ret
      exact ⟨_, _, _, rfl, by rw [HA2.out]; exact H.out, by rw [HA2.out]; exact HN.out, by omega, HC.out, Turns.refl _ _⟩
    · have hs' : ¬ (s : Int) = 72057594037927935 := fun e => hs (by show s = 72057594037927935; omega)
      have HA2 := hide (show allC ks = ks ++ [topN] by rw [HA.out, if_neg hs])
      clear hs HA
      go_enter Try.func34, Try.ntmps34
      go_wp2_with fail
      refine (CL.out _).mono ?_
      rintro e w1 ⟨rfl, t1⟩
      have T1 := hide t1
      clear t1 CL
      have hal := (Turns.refl (fun _ => False) w1).alloc (.cells #[.int .u64 72057594037927935] 27)
      obtain ⟨g, cp, w2, hq, hcp, hu, t2⟩ := append_top (w1.alloc (.cells #[.int .u64 72057594037927935] 27)) (some ⟨b, off, none⟩) (n + 1) ks (H.out.quiet (T1.out.trans hal)) HN.out (by omega) w1.heap.size 1 (heap_alloc_new w1 _)
      have HU := hide hu
      have T2 := hide ((T1.out.trans hal).trans t2)
      have HQ := hide hq
      have HCP := hide hcp
      clear hu t2 hal hq hcp
      go_wp2_with (at_builtin; refine wpList_append_run rfl _ _ 35 rfl _ _ rfl rfl _ _ (HQ.out _) ?_)
      go_ret
      exact ⟨_, _, _, rfl, by rw [HA2.out]; exact HU.out, by rw [HA2.out, List.length_append, ← HN.out]; rfl, by omega, HCP.out, T2.out⟩
theorem sameKey_any (x y : Tow) (w : World) (hx : Bytes w x.kv x.e.key) (hy : Bytes w y.kv y.e.key) :
    Calls Try.prog 49 #[.agg x.ent, .agg y.ent] w fun e w' => e = .returned (.bool (decide (x.e.key = y.e.key))) ∧ Turns (fun _ => False) w w' := by
  obtain ⟨ka, kc, va, vc, ⟨key, sq, kd, val⟩⟩ := x
  obtain ⟨ka', kc', va', vc', ⟨key', sq', kd', val'⟩⟩ := y
  unfold Tow.ent Tow.kv Tow.vv at *
  simp only at *
  have TA := hide (((Turns.refl (fun _ => False) w).alloc (.cells #[.slice ka key.length kc, .int .u64 (sq : Nat), .int .i64 kd, .slice va val.length vc] 29)).alloc (.cells #[.slice ka' key'.length kc', .int .u64 (sq' : Nat), .int .i64 kd', .slice va' val'.length vc'] 29))
  have EQ := hide (fun (u : World) (t : Turns (fun _ => False) w u) => equal_any ka ka' key.length key'.length kc kc' key key' u (hx.quiet t) (hy.quiet t))
  generalize decide (key = key') = B at *
  generalize key.length = L1 at *
  generalize key'.length = L2 at *
  generalize val.length = L3 at *
  generalize val'.length = L4 at *
  clear hx hy
  go_enter Try.func49, Try.ntmps49
  go_wp2_with fail
  refine (EQ.out _ TA.out).mono ?_
  rintro e w1 ⟨rfl, rfl⟩
  go_wp2_with fail
  go_ret
  exact ⟨rfl, TA.out⟩
end Go.Proofs.Ytpgligfolecieaa
