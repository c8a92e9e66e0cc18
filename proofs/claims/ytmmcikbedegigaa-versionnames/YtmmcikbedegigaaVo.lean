/-
  DeleteFunc of files whose numbers are in no map.
-/
import Derived.Test.YtmmcikbedegigaaVn
import Derived.Lib.SliceRun
namespace Go.Proofs.Ytmmcikbedegigaa
open Go.RowKit
set_option maxRecDepth 100000
set_option maxHeartbeats 4000000
def keepT (m : Nat → Option Int) (x : Tf) : Bool := (m x.f.no).isSome
theorem drop1_any (x : Tf) (V M nn s : Nat) (m : Nat → Option Int) (w : World) (hc : w.cell? ⟨V, 0, none⟩ = some (.map (some M))) (hm : MapN w M nn m s) (hno : x.f.no < 18446744073709551616) :
    Calls Try.prog 53 #[x.agg, .pointer (some ⟨V, 0, none⟩)] w fun e w' => e = .returned (.bool (!keepT m x)) ∧ Turns (fun _ => False) w w' := by
  obtain ⟨la, lc, ma, mc, ⟨no, sz, ls, ms, en, sq⟩⟩ := x
  have TA := hide ((Turns.refl (fun _ => False) w).alloc (.cells #[.int .u64 (no : Nat), .int .i64 sz, .slice la ls.length lc, .slice ma ms.length mc, .int .i64 en, .int .u64 (sq : Nat)] 37))
  have hc2 := TA.out.cell hc (fun x => x)
  obtain ⟨v, hl, ⟨z, rfl⟩, hz⟩ := (hm.keep TA.out (fun x => x)).look no hno
  unfold Tf.agg keepT
  simp only
  generalize (m no).isSome = b at *
  clear hz hm hc
  go_enter Try.func53, Try.ntmps53
  go_wp2_with fail
  go_ret
  exact ⟨rfl, TA.out⟩
theorem index_del (a : Option Addr) (n c : Nat) (l : List Tf) (V M nn s : Nat) (m : Nat → Option Int) (w : World) (h : ∀ (k : Nat) (x : Tf), l[k]? = some x → ∃ b off, a = some ⟨b, off, none⟩ ∧ F6 w b (off + k * 6) x) (hn : n = l.length) (hmx : n ≤ 1000000) (hv : w.cell? ⟨V, 0, none⟩ = some (.map (some M))) (hm : MapN w M nn m s) (hno : ∀ x ∈ l, x.f.no < 18446744073709551616) :
    Calls Try.prog 64 #[.slice a n c, .func (.func 53) #[] #[.pointer (some ⟨V, 0, none⟩)]] w fun e w' => ∃ z : Int, e = .returned (.int .i64 z) ∧ ((z = -1 ∧ l.all (keepT m) = true) ∨ ∃ i : Nat, z = i ∧ i < n ∧ (l.take i).all (keepT m) = true ∧ (l.take (i + 1)).filter (keepT m) = l.take i) ∧ Turns (fun _ => False) w w' := by
  have H := hide h
  have HL := hide hn
  have hni : (n : Int) ≤ 1000000 := by omega
  have HM := hide hm
  have HNO := hide hno
  clear h hn hm hno
  go_enter Try.func64, Try.ntmps64
  go_wp2_with fail
  go_loopw [8] (fun i wr => ∃ k : Nat, i = .int .i64 (k : Nat) ∧ k ≤ n ∧ (l.take k).all (keepT m) = true ∧ Turns (fun _ => False) w wr) (fun i _ => n - (intOf i).toNat)
  case atStart => exact ⟨0, rfl, Nat.zero_le _, rfl, Turns.refl _ _⟩
  case round =>
    obtain ⟨k, rfl, hk, hno, hb⟩ := hrel
    have HAL := hide hno
    have HB := hide hb
    clear hno hb
    by_cases hkn : k < n
    · obtain ⟨x, hx⟩ : ∃ x, l[k]? = some x := ⟨_, List.getElem?_eq_getElem (by have := HL.out; omega)⟩
      obtain ⟨b, off, rfl, h6'⟩ := H.out k x hx
      have h6 := h6'.quiet HB.out
      have i1 : (k : Int) < (n : Int) := by omega
      have i0 : (0 : Int) ≤ (k : Int) := by omega
      have HTK := hide (show (l.take (k + 1)).all (keepT m) = keepT m x by rw [List.take_add_one, hx, List.all_append, HAL.out]; simp)
      have HFI := hide (show keepT m x = false → (l.take (k + 1)).filter (keepT m) = l.take k from fun e => by
        rw [List.take_add_one, hx, List.filter_append, List.filter_eq_self.2 (fun y hy => List.all_eq_true.1 HAL.out y hy)]
        simp [e])
      have CC := hide (drop1_any x V M nn s m wr (HB.out.cell hv (fun x => x)) (HM.out.keep HB.out (fun x => x)) (HNO.out x (List.mem_of_getElem? hx)))
      obtain ⟨y0, y1, y2, y3, y4, y5⟩ := h6
      unfold Tf.agg at CC
      clear hx h6'
      go_wp2_with fail
      refine CC.out.mono ?_
      rintro e w1 ⟨rfl, t1⟩
      have B1 := hide (HB.out.trans t1)
      clear t1 CC y0 y1 y2 y3 y4 y5
      generalize hq : keepT m x = q at *
      clear hq
      cases q
      · go_wp2_with fail
        go_ret
        exact ⟨_, rfl, .inr ⟨k, rfl, hkn, HAL.out, HFI.out trivial⟩, B1.out⟩
      · go_wp2_with fail
        go_roundw
        case rel => exact ⟨k + 1, by go_num, by omega, HTK.out, B1.out⟩
        case measure => simp [intOf]; omega
    · obtain rfl : k = n := by omega
      have ht : l.take k = l := List.take_of_length_le (by have := HL.out; omega)
      rw [ht] at HAL
      clear ht
      go_wp2_with fail
      go_ret
      exact ⟨_, rfl, .inl ⟨rfl, HAL.out⟩, HB.out⟩
theorem clear37 (b o n c : Nat) (w : World) (hn : 0 < n) (hc : ∀ j, j < n * 6 → (w.cell? ⟨b, o + j, none⟩).isSome = true) (hf : ∀ j, j < n * 6 → w.frozen? ⟨b, o + j, none⟩ = false) :
    ∃ vs : List Value, ∀ ty, (Builtin.clear_ #[50] ty #[.slice (some ⟨b, o, none⟩) n c]).run Try.prog w = .ok (.tuple #[]) (w.setCells b o vs) := by
  have hzv : ∀ w, (zeroValue 37).run Try.prog w = .ok (.agg #[.int .u64 0, .int .i64 0, .slice none 0 0, .slice none 0 0, .int .i64 0, .int .u64 0]) w := by intro w; kernel_rfl
  have hzc : (Value.agg #[.int .u64 0, .int .i64 0, .slice none 0 0, .slice none 0 0, .int .i64 0, .int .u64 0]).cells = #[.int .u64 0, .int .i64 0, .slice none 0 0, .slice none 0 0, .int .i64 0, .int .u64 0] := by rfl
  obtain ⟨vs, hvs⟩ : ∃ vs : List Value, vs = (Builtin.zeroCells #[.int .u64 0, .int .i64 0, .slice none 0 0, .slice none 0 0, .int .i64 0, .int .u64 0] n).toList := ⟨_, rfl⟩
  have hl : vs.length = n * 6 := by rw [hvs]; simp [Builtin.zeroCells]
  have h1 : ∀ v ∈ vs, v.oneCell' = true := by
    intro v hv
    rw [hvs] at hv
    simp [Builtin.zeroCells] at hv
    obtain ⟨j, hj, rfl⟩ := hv
    have : j % 6 < 6 := Nat.mod_lt _ (by decide)
    generalize j % 6 = t at *
    rcases (by omega : t = 0 ∨ t = 1 ∨ t = 2 ∨ t = 3 ∨ t = 4 ∨ t = 5) with rfl | rfl | rfl | rfl | rfl | rfl <;> rfl
  have hst := run_storeCells_cells (P := Try.prog) b o vs 0 w (by rw [hl]; simpa using hc) (by rw [hl]; simpa using hf) h1
  simp only [Nat.add_zero] at hst
  refine ⟨vs, fun ty => ?_⟩
  obtain ⟨q, rfl⟩ : ∃ q, n = q + 1 := ⟨n - 1, by omega⟩
  simp [Builtin.clear_, run_underlying Try.underlying50, hzv, hzc, ← hvs, hst, Result.andThen]
end Go.Proofs.Ytmmcikbedegigaa
