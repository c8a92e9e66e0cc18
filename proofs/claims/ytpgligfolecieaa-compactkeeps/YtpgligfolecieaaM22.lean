import Derived.Test.YtpgligfolecieaaM21
import Derived.Deep.CutRange
import Derived.StillTailTactics
import Derived.BigQuiet
/-
  visible: which entries of a row are seen.
-/
namespace Go.Proofs.Ytpgligfolecieaa
open Go.RowKit
set_option maxRecDepth 100000
set_option maxHeartbeats 4000000
theorem info4b : Try.prog.info? 4 = some Try.t4 := by kernel_rfl
theorem zero4b : Try.t4.zero = some (.bool false) := by kernel_rfl
theorem size4b : Try.t4.size = 1 := by kernel_rfl
theorem bytes4b : Try.t4.bytes = 1 := by kernel_rfl
theorem make32 (L : Nat) (hL : L ≤ 1048577) (w : World) : (Instr.makeSlice 32 (.int .i64 (L : Int)) (.int .i64 (L : Int))).run Try.prog w = .ok (.slice (some ⟨w.heap.size, 0, none⟩) L L) (w.alloc (.cells (Array.replicate L (Value.bool false)) 4)) := by
  have hr := run_make (P := Try.prog) w 32 4 Try.t4 (.bool false) Try.underlying32 info4b zero4b .i64 .i64 L L (by omega) (by omega) (by rw [bytes4b]; omega) (by omega)
  rw [size4b] at hr
  simp only [Int.toNat_natCast, Nat.mul_one] at hr
  rw [hr]
  congr 3
  refine Array.ext (by simp [size_madeCells]) fun k h1 h2 => ?_
  simp only [madeCells, Array.getElem_map, Array.getElem_range]
  have h3 : (Value.bool false).cells = #[Value.bool false] := rfl
  rw [h3]
  have h4 : k % (#[Value.bool false] : Array Value).size = 0 := by show k % 1 = 0; omega
  rw [h4]
  simp
theorem heap_setCell_row (w : World) (g i : Nat) (cs : Array Value) (t : TypeId) (v : Value) (hg : w.heap[g]? = some (.cells cs t (0, 0))) : (w.setCell ⟨g, i, none⟩ v).heap[g]? = some (.cells (cs.setIfInBounds i v) t (0, 0)) := heap_setCell_same w g i cs t v hg
/-- How far it has come: from the end down to r. -/
structure Vs (w W : World) (g n r : Nat) (ks : List Nat) (es : List Ent) : Prop where
  row : ∃ cs, W.heap[g]? = some (.cells cs 4 (0, 0)) ∧ cs.size = n ∧ ∀ k, r ≤ k → k < n → cs[k]? = some (.bool (visAt ks es k))
  turn : Turns (fun _ => False) w W
theorem Vs.quiet {w W W' : World} {g n r : Nat} {ks : List Nat} {es : List Ent} (h : Vs w W g n r ks es) (t : Turns (fun _ => False) W W') : Vs w W' g n r ks es := by
  obtain ⟨⟨cs, h1, h2⟩, h3⟩ := h
  exact ⟨⟨cs, t.heap h1 (fun x => x), h2⟩, h3.trans t⟩
theorem Vs.put {w W : World} {g n r : Nat} {ks : List Nat} {es : List Ent} (h : Vs w W g n (r + 1) ks es) (hg : w.heap.size ≤ g) (hr : r < n) (b : Bool) (hb : visAt ks es r = b) : Vs w (W.setCell ⟨g, r, none⟩ (.bool b)) g n r ks es := by
  obtain ⟨⟨cs, h1, h2, h3⟩, h4⟩ := h
  refine ⟨⟨cs.setIfInBounds r (.bool b), ?_, by simp [h2], fun k k1 k2 => ?_⟩, ?_⟩
  · exact heap_setCell_row _ _ _ _ _ _ h1
  · by_cases e : r = k
    · subst e
      rw [Array.getElem?_setIfInBounds_self_of_lt (by omega), hb]
    · rw [Array.getElem?_setIfInBounds_ne e]
      exact h3 k (by omega) k2
  · exact ⟨h4.os, h4.tape, h4.output, by rw [World.size_setCell]; exact h4.size, fun k k1 k2 => by
      rw [heap_setCell_other _ _ _ _ (by show k ≠ g; omega)]
      exact h4.block k k1 k2⟩
/-- Truth values in memory. -/
def Bools (w : World) (g : Nat) (bs : List Bool) : Prop := ∃ cs, w.heap[g]? = some (.cells cs 4 (0, 0)) ∧ cs.size = bs.length ∧ ∀ (k : Nat) (b : Bool), bs[k]? = some b → cs[k]? = some (Value.bool b)
theorem ents_at2 {w : World} {a : Option Addr} {l : List Tow} (h : Ents w a l) {k : Nat} {x : Tow} (hx : l[k]? = some x) : ∃ b off, a = some ⟨b, off, none⟩ ∧ (w.cell? ⟨b, off + k * 4, none⟩ = some x.kv ∧ w.cell? ⟨b, off + k * 4 + 1, none⟩ = some (.int .u64 (x.e.seq : Nat)) ∧ w.cell? ⟨b, off + k * 4 + 2, none⟩ = some (.int .i64 x.e.kind) ∧ w.cell? ⟨b, off + k * 4 + 3, none⟩ = some x.vv) ∧ Bytes w x.kv x.e.key ∧ Bytes w x.vv x.e.val := by
  obtain ⟨⟨b, off, e, hc⟩, h1, h2⟩ := h k x hx
  exact ⟨b, off, e, ⟨hc 0 _ rfl, hc 1 _ rfl, hc 2 _ rfl, hc 3 _ rfl⟩, h1, h2⟩
theorem U64s.drop {w : World} {b off : Nat} {ks : List Nat} (h : U64s w (some ⟨b, off, none⟩) ks) (j : Nat) : U64s w (some ⟨b, off + j, none⟩) (ks.drop j) := fun k s hk => by
  rw [List.getElem?_drop] at hk
  obtain ⟨⟨b', off', e, hc⟩, hs⟩ := h (j + k) s hk
  cases e
  exact ⟨⟨b, off + j, rfl, by rw [Nat.add_assoc]; exact hc⟩, hs⟩
theorem U64s.drop2 {w : World} {b off : Nat} {ks : List Nat} (h : U64s w (some ⟨b, off, none⟩) ks) (j D lc : Nat) (hlc : ks.length ≤ lc) (hD : D = if lc = j then 0 else j) : U64s w (some ⟨b, off + D, none⟩) (ks.drop j) := by
  by_cases e : lc = j
  · rw [List.drop_eq_nil_of_le (by omega)]
    intro k s hk
    simp at hk
  · rw [if_neg e] at hD
    rw [hD]
    exact h.drop j
theorem ents_get {l : List Tow} {k : Nat} {x : Tow} (h : l[k]? = some x) : (ents l)[k]? = some x.e := by simp [ents, h]
theorem vis_one {ks : List Nat} {l : List Tow} {i j : Nat} {x : Tow} {nb : Bool} (hx : l[i]? = some x) (hs : ks.Pairwise (· < ·)) (h1 : ∀ m s, m < j → ks[m]? = some s → s < x.e.seq) (h2 : ∀ s, ks[j]? = some s → x.e.seq ≤ s)
    (hn : nb = true → ∀ s, hid1 x.e s (prevOf (ents l) i) = false) : visAt ks (ents l) i = (match ks[j]? with | none => false | some s => nb || !hid1 x.e s (prevOf (ents l) i)) := by
  unfold visAt
  rw [ents_get hx]
  simp only
  rw [visOf_first hs h1 h2]
  cases hj : ks[j]? with
  | none => rfl
  | some s =>
    show (!hid1 x.e s (prevOf (ents l) i)) = (nb || !hid1 x.e s (prevOf (ents l) i))
    cases nb with
    | false => rfl
    | true => rw [hn rfl s]; rfl
theorem prev_none {es : List Ent} : prevOf es 0 = none := rfl
theorem prev_some {l : List Tow} {i : Nat} {p : Tow} (h : l[i]? = some p) : prevOf (ents l) (i + 1) = some p.e := by
  unfold prevOf
  rw [if_neg (by omega), Nat.add_sub_cancel, ents_get h]
theorem visible_any (a : Option Addr) (n c : Nat) (l : List Tow) (kb ko ln lc : Nat) (ks : List Nat) (w : World) (h : Ents w a l) (hn : n = l.length) (hmx : n ≤ 1000000) (ho : inOrd (ents l) = true) (hk : U64s w (some ⟨kb, ko, none⟩) ks) (hkn : ln = ks.length) (hlc : ln ≤ lc) (hks : ks.Pairwise (· < ·)) (hkm : ln ≤ 1000000) :
    Calls Try.prog 33 #[.slice a n c, .slice (some ⟨kb, ko, none⟩) ln lc] w fun e w' => ∃ g, e = .returned (.slice (some ⟨g, 0, none⟩) n n) ∧ w.heap.size ≤ g ∧ Bools w' g (vis ks (ents l)) ∧ Turns (fun _ => False) w w' := by
  have H := hide h
  have HN := hide hn
  have HK := hide hk
  have HKN := hide hkn
  have HKS := hide hks
  have HO := hide (inOrd_iff _ |>.1 ho)
  have hmk := make32 n (by omega) w
  clear h hn hk hkn hks ho
  go_enter Try.func33, Try.ntmps33
  go_wp2_with fail
  obtain ⟨g, hg⟩ : ∃ g, g = w.heap.size := ⟨_, rfl⟩
  have V0 := hide (show Vs w (w.alloc (.cells (Array.replicate n (Value.bool false)) 4)) g n n ks (ents l) from ⟨⟨_, by rw [hg]; exact heap_alloc_new w _, by simp, fun k h1 h2 => by omega⟩, (Turns.refl _ _).alloc _⟩)
  have HG := hide (show w.heap.size ≤ g by rw [hg]; exact Nat.le_refl _)
  rw [← hg]
  clear hg hmk
  generalize w.alloc (.cells (Array.replicate n (Value.bool false)) 4) = w0 at *
  go_loopw [6, 7] (fun lv iv wr => ∃ (r j : Nat) (z : Int), iv = .int .i64 z ∧ z = (r : Int) - 1 ∧ lv = .int .i64 (j : Nat) ∧ r ≤ n ∧ j ≤ ln ∧ (∀ x, l[r]? = some x → ∀ q s, q < j → ks[q]? = some s → s < x.e.seq) ∧ Vs w wr g n r ks (ents l)) (fun _ iv _ => (intOf iv + 1).toNat)
  case atStart => exact ⟨n, 0, _, rfl, rfl, rfl, Nat.le_refl _, Nat.zero_le _, fun x _ q s hq => by omega, V0.out⟩
  case round =>
    obtain ⟨r, j, z, rfl, hz, rfl, hr, hj, h1, hv⟩ := hrel
    have HV := hide hv
    have H1 := hide h1
    clear h1 hv V0
    rcases r with _ | i
    · obtain rfl : z = -1 := by omega
      clear hz
      go_wp2_with fail
      go_ret
      obtain ⟨⟨cs, g1, g2, g3⟩, t⟩ := HV.out
      exact ⟨g, rfl, HG.out, ⟨cs, g1, by rw [vis_length, g2]; simp [ents]; exact HN.out, fun k b hb => by
        have hlt : k < (ents l).length := by rw [← vis_length ks]; exact (List.getElem?_eq_some_iff.1 hb).1
        rw [vis_at _ _ hlt] at hb
        cases hb
        exact g3 k (Nat.zero_le _) (by rw [HN.out]; simpa [ents] using hlt)⟩, t⟩
    · obtain rfl : z = (i : Int) := by omega
      clear hz
      obtain ⟨x, hx⟩ : ∃ x, l[i]? = some x := ⟨_, List.getElem?_eq_getElem (by have := HN.out; omega)⟩
      have HW := hide (H.out.quiet HV.out.turn)
      have HKW := hide (HK.out.quiet HV.out.turn)
      obtain ⟨b, off, rfl, hc, hkx, hvx⟩ := ents_at2 HW.out hx
      have HX := hide hx
      have HC := hide hc
      have HBX := hide hkx
      clear hx hc hkx hvx
      have i1 : (0 : Int) ≤ (i : Int) := by omega
      have i2 : (i : Int) < n := by omega
      go_upto_region 6 with (fail)
      go_cut [8] from 18 to 93 (fun v8 wc => ∃ ob : Bool, v8 = .bool ob ∧ Turns (fun _ => False) wr wc ∧ (ob = true ∨ ∃ y, l[i + 1]? = some y ∧ x.e.key = y.e.key))
      case first =>
        rename_i kk rest jj kk' m1 m2
        clear rest
        by_cases hl : i + 1 = n
        · have d1 : (i : Int) = (n : Int) - 1 := by omega
          have d0 : decide ((i : Int) = (n : Int) - 1) = true := decide_eq_true d1
          have e0 : (((i : Int)) == ((n : Int) - 1)) = true := by simpa using d1
          go_quiet (fail)
          go_wp2_with fail
          go_meet
          exact ⟨true, rfl, (Turns.refl _ _).drewN _, .inl rfl⟩
        · obtain ⟨y, hy⟩ : ∃ y, l[i + 1]? = some y := ⟨_, List.getElem?_eq_getElem (by have := HN.out; omega)⟩
          have d1 : ¬ (i : Int) = (n : Int) - 1 := by omega
          have E0 := hide d1
          obtain ⟨b', off', e', hcy, hky, hvy⟩ := ents_at2 HW.out hy
          cases e'
          have SC := hide (fun (u : World) (t : Turns (fun _ => False) wr u) => sameKey_any x y u (HBX.out.quiet t) (hky.quiet t))
          have HCY := hide hcy
          have HY := hide hy
          have j1 : (i : Int) + 1 < n := by omega
          have j0 : (0 : Int) ≤ (i : Int) + 1 := by omega
          clear hy hcy hky hvy d1
          obtain ⟨ka, kc, va, vc, ⟨key, sq, kd, val⟩⟩ := x
          obtain ⟨ka2, kc2, va2, vc2, ⟨key2, sq2, kd2, val2⟩⟩ := y
          unfold Tow.ent Tow.kv Tow.vv at *
          simp only at *
          have hsk : ∃ sk : Bool, decide (key = key2) = sk := ⟨_, rfl⟩
          obtain ⟨sk, hsk⟩ := hsk
          rw [hsk] at SC
          generalize key.length = L1 at *
          generalize key2.length = L3 at *
          generalize val.length = L2 at *
          generalize val2.length = L4 at *
          have HSK := hide hsk
          clear hsk
          have tV : Turns (fun _ => False) wr wr.drew := (Turns.refl _ _).drew
          have SK := hide (fun (u : World) (t : Turns (fun _ => False) wr u) => show (u.cell? ⟨b, off + i * 4, none⟩ = some (.slice ka L1 kc) ∧ u.cell? ⟨b, off + i * 4 + 1, none⟩ = some (.int .u64 (sq : Nat)) ∧ u.cell? ⟨b, off + i * 4 + 2, none⟩ = some (.int .i64 kd) ∧ u.cell? ⟨b, off + i * 4 + 3, none⟩ = some (.slice va L2 vc)) ∧ u.cell? ⟨b, off + (i + 1) * 4, none⟩ = some (.slice ka2 L3 kc2) ∧ u.cell? ⟨b, off + (i + 1) * 4 + 1, none⟩ = some (.int .u64 (sq2 : Nat)) ∧ u.cell? ⟨b, off + (i + 1) * 4 + 2, none⟩ = some (.int .i64 kd2) ∧ u.cell? ⟨b, off + (i + 1) * 4 + 3, none⟩ = some (.slice va2 L4 vc2) from ⟨⟨t.cell HC.out.1 (fun x => x), t.cell HC.out.2.1 (fun x => x), t.cell HC.out.2.2.1 (fun x => x), t.cell HC.out.2.2.2 (fun x => x)⟩, t.cell HCY.out.1 (fun x => x), t.cell HCY.out.2.1 (fun x => x), t.cell HCY.out.2.2.1 (fun x => x), t.cell HCY.out.2.2.2 (fun x => x)⟩)
          refine wp_region_held_drew (S := fun u => (u.cell? ⟨b, off + i * 4, none⟩ = some (.slice ka L1 kc) ∧ u.cell? ⟨b, off + i * 4 + 1, none⟩ = some (.int .u64 (sq : Nat)) ∧ u.cell? ⟨b, off + i * 4 + 2, none⟩ = some (.int .i64 kd) ∧ u.cell? ⟨b, off + i * 4 + 3, none⟩ = some (.slice va L2 vc)) ∧ u.cell? ⟨b, off + (i + 1) * 4, none⟩ = some (.slice ka2 L3 kc2) ∧ u.cell? ⟨b, off + (i + 1) * 4 + 1, none⟩ = some (.int .u64 (sq2 : Nat)) ∧ u.cell? ⟨b, off + (i + 1) * 4 + 2, none⟩ = some (.int .i64 kd2) ∧ u.cell? ⟨b, off + (i + 1) * 4 + 3, none⟩ = some (.slice va2 L4 vc2)) (by kernel_rfl) (SK.out _ tV) (fun _ => ?_)
          change wpAnyH _ _ _ _ _ 19 (Array.replicate 19 false) _ _
          refine wpAnyH_take (i := 0) (oi := { dst := some 22, op := Op.move (Operand.tmp 7), type := 3, pos := "look.go:26", after := #[], guard := none }) (v := .int .i64 (i : Nat)) rfl (by kernel_rfl) (by kernel_rfl) (by kernel_rfl) (fun _ _ _ h => h) (Or.inl ⟨by rfl, ?_⟩) (SK.out _ tV) ?_
          · rintro w ⟨⟨s0, s1, s2, s3⟩, s4, s5, s6, s7⟩
            go_simp
          simp only [Act.put, List.setIfInBounds_toArray, List.set_cons_zero, List.set_cons_succ]
          refine wpAnyH_take (i := 1) (oi := { dst := some 23, op := Op.move (Operand.tmp 0), type := 31, pos := "look.go:26", after := #[], guard := none }) (v := .slice (some ⟨b, off, none⟩) n c) rfl (by kernel_rfl) (by kernel_rfl) (by kernel_rfl) (fun _ _ _ h => h) (Or.inl ⟨by rfl, ?_⟩) (SK.out _ tV) ?_
          · rintro w ⟨⟨s0, s1, s2, s3⟩, s4, s5, s6, s7⟩
            go_simp
          simp only [Act.put, List.setIfInBounds_toArray, List.set_cons_zero, List.set_cons_succ]
          refine wpAnyH_take (i := 2) (oi := { dst := some 24, op := Op.call { callee := Callee.builtin Builtin.len, args := #[Operand.tmp 23], argTypes := #[31] }, type := 3, pos := "look.go:26", after := #[{ on := 1, ground := Ground.data }], guard := none }) (v := .int .i64 (n : Nat)) rfl (by kernel_rfl) (by kernel_rfl) (by kernel_rfl) (fun _ _ _ h => h) (Or.inl ⟨by rfl, ?_⟩) (SK.out _ tV) ?_
          · rintro w ⟨⟨s0, s1, s2, s3⟩, s4, s5, s6, s7⟩
            go_simp
          simp only [Act.put, List.setIfInBounds_toArray, List.set_cons_zero, List.set_cons_succ]
          refine wpAnyH_take (i := 3) (oi := { dst := some 25, op := Op.binOp BinOp.sub 3 (Operand.tmp 24) (Operand.const (Value.int IntKind.i64 1)) 3, type := 3, pos := "look.go:26", after := #[{ on := 2, ground := Ground.data }], guard := none }) (v := .int .i64 ((n : Int) - 1)) rfl (by kernel_rfl) (by kernel_rfl) (by kernel_rfl) (fun _ _ _ h => h) (Or.inl ⟨by rfl, ?_⟩) (SK.out _ tV) ?_
          · rintro w ⟨⟨s0, s1, s2, s3⟩, s4, s5, s6, s7⟩
            go_simp; exact wrapI _ (by omega) (by omega)
          simp only [Act.put, List.setIfInBounds_toArray, List.set_cons_zero, List.set_cons_succ]
          refine wpAnyH_take (i := 4) (oi := { dst := some 26, op := Op.binOp BinOp.eql 3 (Operand.tmp 22) (Operand.tmp 25) 3, type := 4, pos := "look.go:26", after := #[{ on := 0, ground := Ground.data }, { on := 3, ground := Ground.data }], guard := none }) (v := .bool false) rfl (by kernel_rfl) (by kernel_rfl) (by kernel_rfl) (fun _ _ _ h => h) (Or.inl ⟨by rfl, ?_⟩) (SK.out _ tV) ?_
          · rintro w ⟨⟨s0, s1, s2, s3⟩, s4, s5, s6, s7⟩
            go_simp; exact E0.out
          simp only [Act.put, List.setIfInBounds_toArray, List.set_cons_zero, List.set_cons_succ]
          refine wpAnyH_take (i := 5) (oi := { dst := some 27, op := Op.move (Operand.tmp 26), type := 4, pos := "look.go:26", after := #[{ on := 4, ground := Ground.data }], guard := none }) (v := .bool false) rfl (by kernel_rfl) (by kernel_rfl) (by kernel_rfl) (fun _ _ _ h => h) (Or.inl ⟨by rfl, ?_⟩) (SK.out _ tV) ?_
          · rintro w ⟨⟨s0, s1, s2, s3⟩, s4, s5, s6, s7⟩
            go_simp
          simp only [Act.put, List.setIfInBounds_toArray, List.set_cons_zero, List.set_cons_succ]
          refine wpAnyH_take (i := 6) (oi := { dst := some 28, op := Op.move (Operand.tmp 0), type := 31, pos := "look.go:26", after := #[{ on := 5, ground := Ground.guard }], guard := some (5, false) }) (v := .slice (some ⟨b, off, none⟩) n c) rfl (by kernel_rfl) (by kernel_rfl) (by kernel_rfl) (fun _ _ _ h => h) (Or.inl ⟨by rfl, ?_⟩) (SK.out _ tV) ?_
          · rintro w ⟨⟨s0, s1, s2, s3⟩, s4, s5, s6, s7⟩
            go_simp
          simp only [Act.put, List.setIfInBounds_toArray, List.set_cons_zero, List.set_cons_succ]
          refine wpAnyH_take (i := 7) (oi := { dst := some 29, op := Op.move (Operand.tmp 7), type := 3, pos := "look.go:26", after := #[{ on := 5, ground := Ground.guard }], guard := some (5, false) }) (v := .int .i64 (i : Nat)) rfl (by kernel_rfl) (by kernel_rfl) (by kernel_rfl) (fun _ _ _ h => h) (Or.inl ⟨by rfl, ?_⟩) (SK.out _ tV) ?_
          · rintro w ⟨⟨s0, s1, s2, s3⟩, s4, s5, s6, s7⟩
            go_simp
          simp only [Act.put, List.setIfInBounds_toArray, List.set_cons_zero, List.set_cons_succ]
          refine wpAnyH_take (i := 8) (oi := { dst := some 30, op := Op.indexAddr 31 (Operand.tmp 28) (Operand.tmp 29), type := 0, pos := "look.go:26", after := #[{ on := 6, ground := Ground.data }, { on := 7, ground := Ground.data }, { on := 5, ground := Ground.guard }], guard := some (5, false) }) (v := .pointer (some ⟨b, off + i * 4, none⟩)) rfl (by kernel_rfl) (by kernel_rfl) (by kernel_rfl) (fun _ _ _ h => h) (Or.inl ⟨by rfl, ?_⟩) (SK.out _ tV) ?_
          · rintro w ⟨⟨s0, s1, s2, s3⟩, s4, s5, s6, s7⟩
            go_simp
          simp only [Act.put, List.setIfInBounds_toArray, List.set_cons_zero, List.set_cons_succ]
          refine wpAnyH_take (i := 9) (oi := { dst := some 31, op := Op.load 29 (Operand.tmp 30), type := 29, pos := "look.go:26", after := #[{ on := 8, ground := Ground.data }, { on := 5, ground := Ground.guard }], guard := some (5, false) }) (v := .agg #[.slice ka L1 kc, .int .u64 (sq : Nat), .int .i64 kd, .slice va L2 vc]) rfl (by kernel_rfl) (by kernel_rfl) (by kernel_rfl) (fun _ _ _ h => h) (Or.inl ⟨by rfl, ?_⟩) (SK.out _ tV) ?_
          · rintro w ⟨⟨s0, s1, s2, s3⟩, s4, s5, s6, s7⟩
            go_simp
          simp only [Act.put, List.setIfInBounds_toArray, List.set_cons_zero, List.set_cons_succ]
          refine wpAnyH_take (i := 10) (oi := { dst := some 32, op := Op.move (Operand.tmp 0), type := 31, pos := "look.go:26", after := #[{ on := 5, ground := Ground.guard }], guard := some (5, false) }) (v := .slice (some ⟨b, off, none⟩) n c) rfl (by kernel_rfl) (by kernel_rfl) (by kernel_rfl) (fun _ _ _ h => h) (Or.inl ⟨by rfl, ?_⟩) (SK.out _ tV) ?_
          · rintro w ⟨⟨s0, s1, s2, s3⟩, s4, s5, s6, s7⟩
            go_simp
          simp only [Act.put, List.setIfInBounds_toArray, List.set_cons_zero, List.set_cons_succ]
          refine wpAnyH_take (i := 11) (oi := { dst := some 33, op := Op.move (Operand.tmp 7), type := 3, pos := "look.go:26", after := #[{ on := 5, ground := Ground.guard }], guard := some (5, false) }) (v := .int .i64 (i : Nat)) rfl (by kernel_rfl) (by kernel_rfl) (by kernel_rfl) (fun _ _ _ h => h) (Or.inl ⟨by rfl, ?_⟩) (SK.out _ tV) ?_
          · rintro w ⟨⟨s0, s1, s2, s3⟩, s4, s5, s6, s7⟩
            go_simp
          simp only [Act.put, List.setIfInBounds_toArray, List.set_cons_zero, List.set_cons_succ]
          refine wpAnyH_take (i := 12) (oi := { dst := some 34, op := Op.binOp BinOp.add 3 (Operand.tmp 33) (Operand.const (Value.int IntKind.i64 1)) 3, type := 3, pos := "look.go:26", after := #[{ on := 11, ground := Ground.data }, { on := 5, ground := Ground.guard }], guard := some (5, false) }) (v := .int .i64 ((i : Int) + 1)) rfl (by kernel_rfl) (by kernel_rfl) (by kernel_rfl) (fun _ _ _ h => h) (Or.inl ⟨by rfl, ?_⟩) (SK.out _ tV) ?_
          · rintro w ⟨⟨s0, s1, s2, s3⟩, s4, s5, s6, s7⟩
            go_simp; exact wrapI _ (by omega) (by omega)
          simp only [Act.put, List.setIfInBounds_toArray, List.set_cons_zero, List.set_cons_succ]
          refine wpAnyH_take (i := 13) (oi := { dst := some 35, op := Op.indexAddr 31 (Operand.tmp 32) (Operand.tmp 34), type := 0, pos := "look.go:26", after := #[{ on := 10, ground := Ground.data }, { on := 12, ground := Ground.data }, { on := 5, ground := Ground.guard }], guard := some (5, false) }) (v := .pointer (some ⟨b, off + (i + 1) * 4, none⟩)) rfl (by kernel_rfl) (by kernel_rfl) (by kernel_rfl) (fun _ _ _ h => h) (Or.inl ⟨by rfl, ?_⟩) (SK.out _ tV) ?_
          · rintro w ⟨⟨s0, s1, s2, s3⟩, s4, s5, s6, s7⟩
            go_simp
          simp only [Act.put, List.setIfInBounds_toArray, List.set_cons_zero, List.set_cons_succ]
          refine wpAnyH_take (i := 14) (oi := { dst := some 36, op := Op.load 29 (Operand.tmp 35), type := 29, pos := "look.go:26", after := #[{ on := 13, ground := Ground.data }, { on := 5, ground := Ground.guard }], guard := some (5, false) }) (v := .agg #[.slice ka2 L3 kc2, .int .u64 (sq2 : Nat), .int .i64 kd2, .slice va2 L4 vc2]) rfl (by kernel_rfl) (by kernel_rfl) (by kernel_rfl) (fun _ _ _ h => h) (Or.inl ⟨by rfl, ?_⟩) (SK.out _ tV) ?_
          · rintro w ⟨⟨s0, s1, s2, s3⟩, s4, s5, s6, s7⟩
            go_simp
          simp only [Act.put, List.setIfInBounds_toArray, List.set_cons_zero, List.set_cons_succ]
          refine wpAnyH_ready (rs := [15]) (by kernel_rfl) (by simp) ?_
          refine AllReadyH.cons rfl (fun K hK => ?_) AllReadyH.nil
          go_simp
          refine (SC.out _ tV).mono ?_
          rintro oo Vn ⟨rfl, tC⟩
          have tN := tC
          have tV := tV.trans tN
          clear tC
          clear tN
          go_simp
          refine hK.out _ _ (SK.out _ tV) (fun _ => ?_)
          clear hK K
          refine wpAnyH_take (i := 16) (oi := { dst := some 38, op := Op.unOp UnOp.not 4 (Operand.tmp 37), type := 4, pos := "look.go:26", after := #[{ on := 15, ground := Ground.data }, { on := 5, ground := Ground.guard }], guard := some (5, false) }) (v := .bool (!sk)) rfl (by kernel_rfl) (by kernel_rfl) (by kernel_rfl) (fun _ _ _ h => h) (Or.inl ⟨by rfl, ?_⟩) (SK.out _ tV) ?_
          · rintro w ⟨⟨s0, s1, s2, s3⟩, s4, s5, s6, s7⟩
            go_simp
          simp only [Act.put, List.setIfInBounds_toArray, List.set_cons_zero, List.set_cons_succ]
          refine wpAnyH_take (i := 17) (oi := { dst := some 39, op := Op.pick (Operand.tmp 27) (Operand.const (Value.bool true)) (Operand.tmp 38), type := 4, pos := "look.go:26", after := #[{ on := 5, ground := Ground.data }, { on := 16, ground := Ground.data }], guard := none }) (v := .bool (!sk)) rfl (by kernel_rfl) (by kernel_rfl) (by kernel_rfl) (fun _ _ _ h => h) (Or.inl ⟨by rfl, ?_⟩) (SK.out _ tV) ?_
          · rintro w ⟨⟨s0, s1, s2, s3⟩, s4, s5, s6, s7⟩
            go_simp
          simp only [Act.put, List.setIfInBounds_toArray, List.set_cons_zero, List.set_cons_succ]
          refine wpAnyH_take (i := 18) (oi := { dst := some 8, op := Op.assign (Operand.tmp 39), type := 4, pos := "look.go:26", after := #[{ on := 17, ground := Ground.data }, { on := 15, ground := Ground.chain }, { on := 0, ground := Ground.phase }, { on := 1, ground := Ground.phase }, { on := 2, ground := Ground.phase }, { on := 3, ground := Ground.phase }, { on := 4, ground := Ground.phase }, { on := 5, ground := Ground.phase }, { on := 6, ground := Ground.phase }, { on := 7, ground := Ground.phase }, { on := 8, ground := Ground.phase }, { on := 9, ground := Ground.phase }, { on := 10, ground := Ground.phase }, { on := 11, ground := Ground.phase }, { on := 12, ground := Ground.phase }, { on := 13, ground := Ground.phase }, { on := 14, ground := Ground.phase }, { on := 15, ground := Ground.phase }, { on := 16, ground := Ground.phase }, { on := 17, ground := Ground.phase }], guard := none }) (v := .bool (!sk)) rfl (by kernel_rfl) (by kernel_rfl) (by kernel_rfl) (fun _ _ _ h => h) (Or.inl ⟨by rfl, ?_⟩) (SK.out _ tV) ?_
          · rintro w ⟨⟨s0, s1, s2, s3⟩, s4, s5, s6, s7⟩
            go_simp
          simp only [Act.put, List.setIfInBounds_toArray, List.set_cons_zero, List.set_cons_succ]
          refine wpAnyH_done (by kernel_rfl) ?_ _
          have TU := hide tV
          clear tV
          go_wp2_with fail
          go_meet
          refine ⟨_, rfl, TU.out, ?_⟩
          have h5 := HSK.out
          cases sk with
          | false => exact .inl rfl
          | true => exact .inr ⟨_, HY.out, of_decide_eq_true h5⟩
      case rest =>
        obtain ⟨ob, rfl, tc, hob⟩ := hcut
        have HOB := hide hob
        have TC := hide tc
        clear hob tc
        go_upto_region 7 with (fail)
        go_cut [9] from 18 to 93 (fun v9 wd => ∃ nb : Bool, v9 = .bool nb ∧ Turns (fun _ => False) wr wd ∧ (nb = true → ∀ s, hid1 x.e s (prevOf (ents l) i) = false) ∧ (nb = false → ∃ p i', i = i' + 1 ∧ l[i']? = some p ∧ p.e.key = x.e.key))
        case first =>
          rename_i kk rest jj kk' m1 m2
          clear rest
          rcases i with _ | i
          · go_quiet (fail)
            go_wp2_with fail
            go_meet
            exact ⟨true, rfl, TC.out.trans ((Turns.refl _ _).drewN _), fun _ s => rfl, fun e => by cases e⟩
          · obtain ⟨p, hp⟩ : ∃ p, l[i]? = some p := ⟨_, List.getElem?_eq_getElem (by have := HN.out; omega)⟩
            have d1 : ¬ (i : Int) + 1 = 0 := by omega
            have E0 := hide d1
            obtain ⟨b', off', e', hcp, hkp, hvp⟩ := ents_at2 HW.out hp
            cases e'
            have SC := hide (fun (u : World) (t : Turns (fun _ => False) wr u) => sameKey_any p x u (hkp.quiet t) (HBX.out.quiet t))
            have HCP := hide hcp
            have HP := hide hp
            have j1 : (i : Int) < n := by omega
            have j2 : (i : Int) + 1 < n := by omega
            have j3 : (0 : Int) ≤ (i : Int) + 1 := by omega
            have j0 : (0 : Int) ≤ (i : Int) := by omega
            have HPV := hide (prev_some hp)
            clear hp hcp hkp hvp d1
            have hN0 : ∀ nb : Bool, decide (p.e.key = x.e.key) = !nb → (nb = true → ∀ s, hid1 x.e s (some p.e) = false) ∧ (nb = false → ∃ p i', i + 1 = i' + 1 ∧ l[i']? = some p ∧ p.e.key = x.e.key) := fun nb hnb => by
              cases nb with
              | true => exact ⟨fun _ s => (by simp only [hid1]; rw [hnb]; rfl), fun e => (by cases e)⟩
              | false => exact ⟨fun e => (by cases e), fun _ => ⟨p, i, rfl, HP.out, of_decide_eq_true hnb⟩⟩
            have HN0 := hide hN0
            clear hN0
            obtain ⟨ka, kc, va, vc, ⟨key, sq, kd, val⟩⟩ := x
            obtain ⟨ka2, kc2, va2, vc2, ⟨key2, sq2, kd2, val2⟩⟩ := p
            unfold Tow.ent Tow.kv Tow.vv at *
            simp only at *
            generalize decide (key2 = key) = sk at *
            generalize key.length = L1 at *
            generalize key2.length = L3 at *
            generalize val.length = L2 at *
            generalize val2.length = L4 at *
            have tV : Turns (fun _ => False) wr wc.drew := TC.out.drew
            have SK := hide (fun (u : World) (t : Turns (fun _ => False) wr u) => show (u.cell? ⟨b, off + (i + 1) * 4, none⟩ = some (.slice ka L1 kc) ∧ u.cell? ⟨b, off + (i + 1) * 4 + 1, none⟩ = some (.int .u64 (sq : Nat)) ∧ u.cell? ⟨b, off + (i + 1) * 4 + 2, none⟩ = some (.int .i64 kd) ∧ u.cell? ⟨b, off + (i + 1) * 4 + 3, none⟩ = some (.slice va L2 vc)) ∧ u.cell? ⟨b, off + i * 4, none⟩ = some (.slice ka2 L3 kc2) ∧ u.cell? ⟨b, off + i * 4 + 1, none⟩ = some (.int .u64 (sq2 : Nat)) ∧ u.cell? ⟨b, off + i * 4 + 2, none⟩ = some (.int .i64 kd2) ∧ u.cell? ⟨b, off + i * 4 + 3, none⟩ = some (.slice va2 L4 vc2) from ⟨⟨t.cell HC.out.1 (fun x => x), t.cell HC.out.2.1 (fun x => x), t.cell HC.out.2.2.1 (fun x => x), t.cell HC.out.2.2.2 (fun x => x)⟩, t.cell HCP.out.1 (fun x => x), t.cell HCP.out.2.1 (fun x => x), t.cell HCP.out.2.2.1 (fun x => x), t.cell HCP.out.2.2.2 (fun x => x)⟩)
            refine wp_region_held_drew (S := fun u => (u.cell? ⟨b, off + (i + 1) * 4, none⟩ = some (.slice ka L1 kc) ∧ u.cell? ⟨b, off + (i + 1) * 4 + 1, none⟩ = some (.int .u64 (sq : Nat)) ∧ u.cell? ⟨b, off + (i + 1) * 4 + 2, none⟩ = some (.int .i64 kd) ∧ u.cell? ⟨b, off + (i + 1) * 4 + 3, none⟩ = some (.slice va L2 vc)) ∧ u.cell? ⟨b, off + i * 4, none⟩ = some (.slice ka2 L3 kc2) ∧ u.cell? ⟨b, off + i * 4 + 1, none⟩ = some (.int .u64 (sq2 : Nat)) ∧ u.cell? ⟨b, off + i * 4 + 2, none⟩ = some (.int .i64 kd2) ∧ u.cell? ⟨b, off + i * 4 + 3, none⟩ = some (.slice va2 L4 vc2)) (by kernel_rfl) (SK.out _ tV) (fun _ => ?_)
            change wpAnyH _ _ _ _ _ 16 (Array.replicate 16 false) _ _
            refine wpAnyH_take (i := 0) (oi := { dst := some 40, op := Op.move (Operand.tmp 7), type := 3, pos := "look.go:27", after := #[], guard := none }) (v := .int .i64 ((i : Int) + 1)) rfl (by kernel_rfl) (by kernel_rfl) (by kernel_rfl) (fun _ _ _ h => h) (Or.inl ⟨by rfl, ?_⟩) (SK.out _ tV) ?_
            · rintro w ⟨⟨s0, s1, s2, s3⟩, s4, s5, s6, s7⟩
              go_simp
            simp only [Act.put, List.setIfInBounds_toArray, List.set_cons_zero, List.set_cons_succ]
            refine wpAnyH_take (i := 1) (oi := { dst := some 41, op := Op.binOp BinOp.eql 3 (Operand.tmp 40) (Operand.const (Value.int IntKind.i64 0)) 3, type := 4, pos := "look.go:27", after := #[{ on := 0, ground := Ground.data }], guard := none }) (v := .bool false) rfl (by kernel_rfl) (by kernel_rfl) (by kernel_rfl) (fun _ _ _ h => h) (Or.inl ⟨by rfl, ?_⟩) (SK.out _ tV) ?_
            · rintro w ⟨⟨s0, s1, s2, s3⟩, s4, s5, s6, s7⟩
              go_simp; exact E0.out
            simp only [Act.put, List.setIfInBounds_toArray, List.set_cons_zero, List.set_cons_succ]
            refine wpAnyH_take (i := 2) (oi := { dst := some 42, op := Op.move (Operand.tmp 41), type := 4, pos := "look.go:27", after := #[{ on := 1, ground := Ground.data }], guard := none }) (v := .bool false) rfl (by kernel_rfl) (by kernel_rfl) (by kernel_rfl) (fun _ _ _ h => h) (Or.inl ⟨by rfl, ?_⟩) (SK.out _ tV) ?_
            · rintro w ⟨⟨s0, s1, s2, s3⟩, s4, s5, s6, s7⟩
              go_simp
            simp only [Act.put, List.setIfInBounds_toArray, List.set_cons_zero, List.set_cons_succ]
            refine wpAnyH_take (i := 3) (oi := { dst := some 43, op := Op.move (Operand.tmp 0), type := 31, pos := "look.go:27", after := #[{ on := 2, ground := Ground.guard }], guard := some (2, false) }) (v := .slice (some ⟨b, off, none⟩) n c) rfl (by kernel_rfl) (by kernel_rfl) (by kernel_rfl) (fun _ _ _ h => h) (Or.inl ⟨by rfl, ?_⟩) (SK.out _ tV) ?_
            · rintro w ⟨⟨s0, s1, s2, s3⟩, s4, s5, s6, s7⟩
              go_simp
            simp only [Act.put, List.setIfInBounds_toArray, List.set_cons_zero, List.set_cons_succ]
            refine wpAnyH_take (i := 4) (oi := { dst := some 44, op := Op.move (Operand.tmp 7), type := 3, pos := "look.go:27", after := #[{ on := 2, ground := Ground.guard }], guard := some (2, false) }) (v := .int .i64 ((i : Int) + 1)) rfl (by kernel_rfl) (by kernel_rfl) (by kernel_rfl) (fun _ _ _ h => h) (Or.inl ⟨by rfl, ?_⟩) (SK.out _ tV) ?_
            · rintro w ⟨⟨s0, s1, s2, s3⟩, s4, s5, s6, s7⟩
              go_simp
            simp only [Act.put, List.setIfInBounds_toArray, List.set_cons_zero, List.set_cons_succ]
            refine wpAnyH_take (i := 5) (oi := { dst := some 45, op := Op.binOp BinOp.sub 3 (Operand.tmp 44) (Operand.const (Value.int IntKind.i64 1)) 3, type := 3, pos := "look.go:27", after := #[{ on := 4, ground := Ground.data }, { on := 2, ground := Ground.guard }], guard := some (2, false) }) (v := .int .i64 (i : Nat)) rfl (by kernel_rfl) (by kernel_rfl) (by kernel_rfl) (fun _ _ _ h => h) (Or.inl ⟨by rfl, ?_⟩) (SK.out _ tV) ?_
            · rintro w ⟨⟨s0, s1, s2, s3⟩, s4, s5, s6, s7⟩
              go_simp; rw [wrapI _ (by omega) (by omega)]
            simp only [Act.put, List.setIfInBounds_toArray, List.set_cons_zero, List.set_cons_succ]
            refine wpAnyH_take (i := 6) (oi := { dst := some 46, op := Op.indexAddr 31 (Operand.tmp 43) (Operand.tmp 45), type := 0, pos := "look.go:27", after := #[{ on := 3, ground := Ground.data }, { on := 5, ground := Ground.data }, { on := 2, ground := Ground.guard }], guard := some (2, false) }) (v := .pointer (some ⟨b, off + i * 4, none⟩)) rfl (by kernel_rfl) (by kernel_rfl) (by kernel_rfl) (fun _ _ _ h => h) (Or.inl ⟨by rfl, ?_⟩) (SK.out _ tV) ?_
            · rintro w ⟨⟨s0, s1, s2, s3⟩, s4, s5, s6, s7⟩
              go_simp
            simp only [Act.put, List.setIfInBounds_toArray, List.set_cons_zero, List.set_cons_succ]
            refine wpAnyH_take (i := 7) (oi := { dst := some 47, op := Op.load 29 (Operand.tmp 46), type := 29, pos := "look.go:27", after := #[{ on := 6, ground := Ground.data }, { on := 2, ground := Ground.guard }], guard := some (2, false) }) (v := .agg #[.slice ka2 L3 kc2, .int .u64 (sq2 : Nat), .int .i64 kd2, .slice va2 L4 vc2]) rfl (by kernel_rfl) (by kernel_rfl) (by kernel_rfl) (fun _ _ _ h => h) (Or.inl ⟨by rfl, ?_⟩) (SK.out _ tV) ?_
            · rintro w ⟨⟨s0, s1, s2, s3⟩, s4, s5, s6, s7⟩
              go_simp
            simp only [Act.put, List.setIfInBounds_toArray, List.set_cons_zero, List.set_cons_succ]
            refine wpAnyH_take (i := 8) (oi := { dst := some 48, op := Op.move (Operand.tmp 0), type := 31, pos := "look.go:27", after := #[{ on := 2, ground := Ground.guard }], guard := some (2, false) }) (v := .slice (some ⟨b, off, none⟩) n c) rfl (by kernel_rfl) (by kernel_rfl) (by kernel_rfl) (fun _ _ _ h => h) (Or.inl ⟨by rfl, ?_⟩) (SK.out _ tV) ?_
            · rintro w ⟨⟨s0, s1, s2, s3⟩, s4, s5, s6, s7⟩
              go_simp
            simp only [Act.put, List.setIfInBounds_toArray, List.set_cons_zero, List.set_cons_succ]
            refine wpAnyH_take (i := 9) (oi := { dst := some 49, op := Op.move (Operand.tmp 7), type := 3, pos := "look.go:27", after := #[{ on := 2, ground := Ground.guard }], guard := some (2, false) }) (v := .int .i64 ((i : Int) + 1)) rfl (by kernel_rfl) (by kernel_rfl) (by kernel_rfl) (fun _ _ _ h => h) (Or.inl ⟨by rfl, ?_⟩) (SK.out _ tV) ?_
            · rintro w ⟨⟨s0, s1, s2, s3⟩, s4, s5, s6, s7⟩
              go_simp
            simp only [Act.put, List.setIfInBounds_toArray, List.set_cons_zero, List.set_cons_succ]
            refine wpAnyH_take (i := 10) (oi := { dst := some 50, op := Op.indexAddr 31 (Operand.tmp 48) (Operand.tmp 49), type := 0, pos := "look.go:27", after := #[{ on := 8, ground := Ground.data }, { on := 9, ground := Ground.data }, { on := 2, ground := Ground.guard }], guard := some (2, false) }) (v := .pointer (some ⟨b, off + (i + 1) * 4, none⟩)) rfl (by kernel_rfl) (by kernel_rfl) (by kernel_rfl) (fun _ _ _ h => h) (Or.inl ⟨by rfl, ?_⟩) (SK.out _ tV) ?_
            · rintro w ⟨⟨s0, s1, s2, s3⟩, s4, s5, s6, s7⟩
              go_simp
            simp only [Act.put, List.setIfInBounds_toArray, List.set_cons_zero, List.set_cons_succ]
            refine wpAnyH_take (i := 11) (oi := { dst := some 51, op := Op.load 29 (Operand.tmp 50), type := 29, pos := "look.go:27", after := #[{ on := 10, ground := Ground.data }, { on := 2, ground := Ground.guard }], guard := some (2, false) }) (v := .agg #[.slice ka L1 kc, .int .u64 (sq : Nat), .int .i64 kd, .slice va L2 vc]) rfl (by kernel_rfl) (by kernel_rfl) (by kernel_rfl) (fun _ _ _ h => h) (Or.inl ⟨by rfl, ?_⟩) (SK.out _ tV) ?_
            · rintro w ⟨⟨s0, s1, s2, s3⟩, s4, s5, s6, s7⟩
              go_simp
            simp only [Act.put, List.setIfInBounds_toArray, List.set_cons_zero, List.set_cons_succ]
            refine wpAnyH_ready (rs := [12]) (by kernel_rfl) (by simp) ?_
            refine AllReadyH.cons rfl (fun K hK => ?_) AllReadyH.nil
            go_simp
            refine (SC.out _ tV).mono ?_
            rintro oo Vn ⟨rfl, tC⟩
            have tN := tC
            have tV := tV.trans tN
            clear tC
            clear tN
            go_simp
            refine hK.out _ _ (SK.out _ tV) (fun _ => ?_)
            clear hK K
            refine wpAnyH_take (i := 13) (oi := { dst := some 53, op := Op.unOp UnOp.not 4 (Operand.tmp 52), type := 4, pos := "look.go:27", after := #[{ on := 12, ground := Ground.data }, { on := 2, ground := Ground.guard }], guard := some (2, false) }) (v := .bool (!sk)) rfl (by kernel_rfl) (by kernel_rfl) (by kernel_rfl) (fun _ _ _ h => h) (Or.inl ⟨by rfl, ?_⟩) (SK.out _ tV) ?_
            · rintro w ⟨⟨s0, s1, s2, s3⟩, s4, s5, s6, s7⟩
              go_simp
            simp only [Act.put, List.setIfInBounds_toArray, List.set_cons_zero, List.set_cons_succ]
            refine wpAnyH_take (i := 14) (oi := { dst := some 54, op := Op.pick (Operand.tmp 42) (Operand.const (Value.bool true)) (Operand.tmp 53), type := 4, pos := "look.go:27", after := #[{ on := 2, ground := Ground.data }, { on := 13, ground := Ground.data }], guard := none }) (v := .bool (!sk)) rfl (by kernel_rfl) (by kernel_rfl) (by kernel_rfl) (fun _ _ _ h => h) (Or.inl ⟨by rfl, ?_⟩) (SK.out _ tV) ?_
            · rintro w ⟨⟨s0, s1, s2, s3⟩, s4, s5, s6, s7⟩
              go_simp
            simp only [Act.put, List.setIfInBounds_toArray, List.set_cons_zero, List.set_cons_succ]
            refine wpAnyH_take (i := 15) (oi := { dst := some 9, op := Op.assign (Operand.tmp 54), type := 4, pos := "look.go:27", after := #[{ on := 14, ground := Ground.data }, { on := 12, ground := Ground.chain }, { on := 0, ground := Ground.phase }, { on := 1, ground := Ground.phase }, { on := 2, ground := Ground.phase }, { on := 3, ground := Ground.phase }, { on := 4, ground := Ground.phase }, { on := 5, ground := Ground.phase }, { on := 6, ground := Ground.phase }, { on := 7, ground := Ground.phase }, { on := 8, ground := Ground.phase }, { on := 9, ground := Ground.phase }, { on := 10, ground := Ground.phase }, { on := 11, ground := Ground.phase }, { on := 12, ground := Ground.phase }, { on := 13, ground := Ground.phase }, { on := 14, ground := Ground.phase }], guard := none }) (v := .bool (!sk)) rfl (by kernel_rfl) (by kernel_rfl) (by kernel_rfl) (fun _ _ _ h => h) (Or.inl ⟨by rfl, ?_⟩) (SK.out _ tV) ?_
            · rintro w ⟨⟨s0, s1, s2, s3⟩, s4, s5, s6, s7⟩
              go_simp
            simp only [Act.put, List.setIfInBounds_toArray, List.set_cons_zero, List.set_cons_succ]
            refine wpAnyH_done (by kernel_rfl) ?_ _
            have TU := hide tV
            clear tV
            go_wp2_with fail
            go_meet
            refine ⟨_, rfl, TU.out, ?_⟩
            rw [HPV.out]
            exact HN0.out _ (by cases sk <;> rfl)
        case rest =>
          obtain ⟨nb, rfl, td, hnt, hnf⟩ := hcut
          have HNT := hide hnt
          have HNF := hide hnf
          have TD := hide td
          clear hnt hnf td
          cases ob
          · have HJ := hide (show ∀ q s, q < j → ks[q]? = some s → s < x.e.seq from fun q s hq hs => by
              rcases HOB.out with e | ⟨y, hy, hky⟩
              · cases e
              · have h3 := H1.out y hy q s hq hs
                have h4 := ltE_seq (a := x.e) (b := y.e) (HO.out i _ _ (ents_get HX.out) (ents_get hy)) hky
                omega)
            have hj2 : (j : Int) ≤ ln := by omega
            have hj3 : (j : Int) ≤ lc := by omega
            obtain ⟨D, hD⟩ : ∃ D, D = if lc = j then 0 else j := ⟨_, rfl⟩
            have HDD := hide hD
            clear hD
            go_upto_region 10 with (fail)
            have SE := hide (fun (u : World) (t : Turns (fun _ => False) wr u) => search51 (some ⟨kb, ko + D, none⟩) (ln - j) (lc - j) (ks.drop j) x.e.seq u ((HKW.out.quiet t).drop2 j D lc (by rw [← HKN.out]; exact hlc) HDD.out) (by rw [List.length_drop, HKN.out]) (by omega) (List.Pairwise.sublist (List.drop_sublist _ _) HKS.out))
            have SK := hide (fun (u : World) (t : Turns (fun _ => False) wr u) => show u.cell? ⟨b, off + i * 4 + 1, none⟩ = some (.int .u64 (x.e.seq : Nat)) from t.cell HC.out.2.1 (fun x => x))
            have tV : Turns (fun _ => False) wr wc.drew := TD.out.drew
            generalize hsq : x.e.seq = sq at *
            have HSQ := hide hsq
            clear hsq
            refine wp_region_held_drew (S := fun u => u.cell? ⟨b, off + i * 4 + 1, none⟩ = some (.int .u64 (sq : Nat))) (by kernel_rfl) (SK.out _ tV) (fun _ => ?_)
            change wpAnyH _ _ _ _ _ 14 (Array.replicate 14 false) _ _
            refine wpAnyH_take (i := 0) (oi := { dst := some 57, op := Op.move (Operand.tmp 1), type := 35, pos := "look.go:32", after := #[], guard := none }) (v := .slice (some ⟨kb, ko, none⟩) ln lc) rfl (by kernel_rfl) (by kernel_rfl) (by kernel_rfl) (fun _ _ _ h => h) (Or.inl ⟨by rfl, ?_⟩) (SK.out _ tV) ?_
            · rintro w s0
              go_simp
            simp only [Act.put, List.setIfInBounds_toArray, List.set_cons_zero, List.set_cons_succ]
            refine wpAnyH_take (i := 1) (oi := { dst := some 58, op := Op.move (Operand.tmp 6), type := 3, pos := "look.go:32", after := #[], guard := none }) (v := .int .i64 (j : Nat)) rfl (by kernel_rfl) (by kernel_rfl) (by kernel_rfl) (fun _ _ _ h => h) (Or.inl ⟨by rfl, ?_⟩) (SK.out _ tV) ?_
            · rintro w s0
              go_simp
            simp only [Act.put, List.setIfInBounds_toArray, List.set_cons_zero, List.set_cons_succ]
            refine wpAnyH_take (i := 2) (oi := { dst := some 59, op := Op.slice 35 (Operand.tmp 57) (some (Operand.tmp 58)) none none, type := 35, pos := "look.go:32", after := #[{ on := 0, ground := Ground.data }, { on := 1, ground := Ground.data }], guard := none }) (v := .slice (some ⟨kb, ko + D, none⟩) (ln - j) (lc - j)) rfl (by kernel_rfl) (by kernel_rfl) (by kernel_rfl) (fun _ _ _ h => h) (Or.inl ⟨by rfl, ?_⟩) (SK.out _ tV) ?_
            · rintro w s0
              go_simp; rw [HDD.out]; split <;> rfl
            simp only [Act.put, List.setIfInBounds_toArray, List.set_cons_zero, List.set_cons_succ]
            refine wpAnyH_take (i := 3) (oi := { dst := some 60, op := Op.move (Operand.tmp 0), type := 31, pos := "look.go:32", after := #[], guard := none }) (v := .slice (some ⟨b, off, none⟩) n c) rfl (by kernel_rfl) (by kernel_rfl) (by kernel_rfl) (fun _ _ _ h => h) (Or.inl ⟨by rfl, ?_⟩) (SK.out _ tV) ?_
            · rintro w s0
              go_simp
            simp only [Act.put, List.setIfInBounds_toArray, List.set_cons_zero, List.set_cons_succ]
            refine wpAnyH_take (i := 4) (oi := { dst := some 61, op := Op.move (Operand.tmp 7), type := 3, pos := "look.go:32", after := #[], guard := none }) (v := .int .i64 (i : Nat)) rfl (by kernel_rfl) (by kernel_rfl) (by kernel_rfl) (fun _ _ _ h => h) (Or.inl ⟨by rfl, ?_⟩) (SK.out _ tV) ?_
            · rintro w s0
              go_simp
            simp only [Act.put, List.setIfInBounds_toArray, List.set_cons_zero, List.set_cons_succ]
            refine wpAnyH_take (i := 5) (oi := { dst := some 62, op := Op.indexAddr 31 (Operand.tmp 60) (Operand.tmp 61), type := 0, pos := "look.go:32", after := #[{ on := 3, ground := Ground.data }, { on := 4, ground := Ground.data }], guard := none }) (v := .pointer (some ⟨b, off + i * 4, none⟩)) rfl (by kernel_rfl) (by kernel_rfl) (by kernel_rfl) (fun _ _ _ h => h) (Or.inl ⟨by rfl, ?_⟩) (SK.out _ tV) ?_
            · rintro w s0
              go_simp
            simp only [Act.put, List.setIfInBounds_toArray, List.set_cons_zero, List.set_cons_succ]
            refine wpAnyH_take (i := 6) (oi := { dst := some 63, op := Op.fieldAddr 29 (Operand.tmp 62) 1, type := 0, pos := "look.go:32", after := #[{ on := 5, ground := Ground.data }], guard := none }) (v := .pointer (some ⟨b, off + i * 4 + 1, none⟩)) rfl (by kernel_rfl) (by kernel_rfl) (by kernel_rfl) (fun _ _ _ h => h) (Or.inl ⟨by rfl, ?_⟩) (SK.out _ tV) ?_
            · rintro w s0
              go_simp
            simp only [Act.put, List.setIfInBounds_toArray, List.set_cons_zero, List.set_cons_succ]
            refine wpAnyH_take (i := 7) (oi := { dst := some 64, op := Op.load 27 (Operand.tmp 63), type := 27, pos := "look.go:32", after := #[{ on := 6, ground := Ground.data }], guard := none }) (v := .int .u64 (sq : Nat)) rfl (by kernel_rfl) (by kernel_rfl) (by kernel_rfl) (fun _ _ _ h => h) (Or.inl ⟨by rfl, ?_⟩) (SK.out _ tV) ?_
            · rintro w s0
              go_simp
            simp only [Act.put, List.setIfInBounds_toArray, List.set_cons_zero, List.set_cons_succ]
            refine wpAnyH_ready (rs := [8]) (by kernel_rfl) (by simp) ?_
            refine AllReadyH.cons rfl (fun K hK => ?_) AllReadyH.nil
            go_simp
            refine (SE.out _ tV).mono ?_
            rintro oo Vn ⟨p, v, rfl, hp, hlt, hge, tC⟩
            have tN := tC
            have tV := tV.trans tN
            clear tC
            clear tN
            go_simp
            refine hK.out _ _ (SK.out _ tV) (fun _ => ?_)
            clear hK K
            refine wpAnyH_take (i := 9) (oi := { dst := some 56, op := Op.move (Operand.tmp 65), type := 66, pos := "look.go:32", after := #[{ on := 8, ground := Ground.data }], guard := none }) (v := .tuple #[.int .i64 (p : Nat), v]) rfl (by kernel_rfl) (by kernel_rfl) (by kernel_rfl) (fun _ _ _ h => h) (Or.inl ⟨by rfl, ?_⟩) (SK.out _ tV) ?_
            · rintro w s0
              go_simp
            simp only [Act.put, List.setIfInBounds_toArray, List.set_cons_zero, List.set_cons_succ]
            refine wpAnyH_take (i := 10) (oi := { dst := some 66, op := Op.extract (Operand.tmp 56) 0, type := 3, pos := "look.go:32", after := #[{ on := 9, ground := Ground.data }], guard := none }) (v := .int .i64 (p : Nat)) rfl (by kernel_rfl) (by kernel_rfl) (by kernel_rfl) (fun _ _ _ h => h) (Or.inl ⟨by rfl, ?_⟩) (SK.out _ tV) ?_
            · rintro w s0
              go_simp
            simp only [Act.put, List.setIfInBounds_toArray, List.set_cons_zero, List.set_cons_succ]
            refine wpAnyH_take (i := 11) (oi := { dst := some 67, op := Op.extract (Operand.tmp 56) 1, type := 4, pos := "look.go:32", after := #[{ on := 9, ground := Ground.data }, { on := 12, ground := Ground.gcOnly Departure.lateStores }], guard := none }) (v := v) rfl (by kernel_rfl) (by kernel_rfl) (by kernel_rfl) (fun _ _ _ h => h) (Or.inl ⟨by rfl, ?_⟩) (SK.out _ tV) ?_
            · rintro w s0
              go_simp
            simp only [Act.put, List.setIfInBounds_toArray, List.set_cons_zero, List.set_cons_succ]
            refine wpAnyH_take (i := 12) (oi := { dst := some 10, op := Op.assign (Operand.tmp 66), type := 3, pos := "look.go:32", after := #[{ on := 10, ground := Ground.data }, { on := 8, ground := Ground.chain }, { on := 0, ground := Ground.phase }, { on := 1, ground := Ground.phase }, { on := 2, ground := Ground.phase }, { on := 3, ground := Ground.phase }, { on := 4, ground := Ground.phase }, { on := 5, ground := Ground.phase }, { on := 6, ground := Ground.phase }, { on := 7, ground := Ground.phase }, { on := 8, ground := Ground.phase }, { on := 9, ground := Ground.phase }, { on := 10, ground := Ground.phase }, { on := 11, ground := Ground.textOnly Departure.lateStores }], guard := none }) (v := .int .i64 (p : Nat)) rfl (by kernel_rfl) (by kernel_rfl) (by kernel_rfl) (fun _ _ _ h => h) (Or.inl ⟨by rfl, ?_⟩) (SK.out _ tV) ?_
            · rintro w s0
              go_simp
            simp only [Act.put, List.setIfInBounds_toArray, List.set_cons_zero, List.set_cons_succ]
            refine wpAnyH_take (i := 13) (oi := { dst := some 11, op := Op.assign (Operand.tmp 67), type := 4, pos := "look.go:32", after := #[{ on := 11, ground := Ground.data }, { on := 12, ground := Ground.chain }, { on := 0, ground := Ground.phase }, { on := 1, ground := Ground.phase }, { on := 2, ground := Ground.phase }, { on := 3, ground := Ground.phase }, { on := 4, ground := Ground.phase }, { on := 5, ground := Ground.phase }, { on := 6, ground := Ground.phase }, { on := 7, ground := Ground.phase }, { on := 8, ground := Ground.phase }, { on := 9, ground := Ground.phase }, { on := 10, ground := Ground.phase }, { on := 11, ground := Ground.phase }, { on := 12, ground := Ground.phase }], guard := none }) (v := v) rfl (by kernel_rfl) (by kernel_rfl) (by kernel_rfl) (fun _ _ _ h => h) (Or.inl ⟨by rfl, ?_⟩) (SK.out _ tV) ?_
            · rintro w s0
              go_simp
            simp only [Act.put, List.setIfInBounds_toArray, List.set_cons_zero, List.set_cons_succ]
            refine wpAnyH_done (by kernel_rfl) ?_ _
            have TU := hide tV
            clear tV
            clear SE SK
            go_wp2_with fail
            have HA := hide (show ∀ m s, m < j + p → ks[m]? = some s → s < x.e.seq from fun m s hm hs => by
              have h0 := HSQ.out
              rcases Nat.lt_or_ge m j with hq | hq
              · have := HJ.out m s hq hs
                omega
              · have := hlt (m - j) s (by omega) (by rw [List.getElem?_drop, show j + (m - j) = m by omega]; exact hs)
                omega)
            have HB := hide (show ∀ s, ks[j + p]? = some s → x.e.seq ≤ s from fun s hs => by
              have h0 := HSQ.out
              have := hge s (by rw [List.getElem?_drop]; exact hs)
              omega)
            have HV1 := hide (vis_one (nb := nb) HX.out HKS.out HA.out HB.out HNT.out)
            have HF := hide (show ∀ b : Bool, visAt ks (ents l) i = b → Vs w (Vn.drew.setCell ⟨g, i, none⟩ (.bool b)) g n i ks (ents l) from fun b hb => ((HV.out.quiet TU.out).quiet (Turns.refl _ _).drew).put HG.out (by omega) b hb)
            have HR := hide (show ∀ x', l[i]? = some x' → ∀ q s, q < j + p → ks[q]? = some s → s < x'.e.seq from fun x' hx' q s hq hs => by
              rw [HX.out] at hx'
              cases hx'
              exact HA.out q s hq hs)
            obtain ⟨hgc, hgf⟩ : (∃ d, Vn.cell? ⟨g, i, none⟩ = some d) ∧ Vn.frozen? ⟨g, i, none⟩ = false := by
              obtain ⟨⟨cs, k1, k2, k3⟩, _⟩ := HV.out.quiet TU.out
              exact ⟨⟨_, by rw [cell_of_row Vn g i cs 4 (0, 0) k1]; exact Array.getElem?_eq_getElem (by omega)⟩, frozen_of_row Vn g i _ 4 k1⟩
            obtain ⟨d0, hgc⟩ := hgc
            have hjp : j + p ≤ ln := by omega
            clear hlt hge HJ tV
            by_cases hjl : j + p < ln
            · obtain ⟨s, hks⟩ : ∃ s, ks[j + p]? = some s := ⟨_, List.getElem?_eq_getElem (by have := HKN.out; omega)⟩
              obtain ⟨⟨b2, off2, e2, hsc⟩, _⟩ := (HKW.out.quiet TU.out) _ _ hks
              cases e2
              rw [hks] at HV1
              have HKS2 := hide hks
              clear hks
              have j4 : ((j : Nat) : Int) + p < ln := by omega
              have j5 : (0 : Int) ≤ ((j : Nat) : Int) + p := by omega
              cases nb
              · obtain ⟨p', i', rfl, hp', hpk⟩ := HNF.out rfl
                obtain ⟨b3, off3, e3, hcp, _, _⟩ := ents_at2 H.out hp'
                cases e3
                have hps := hcp.2.1
                obtain ⟨⟨b4, off4, e4, hsw⟩, _⟩ := HK.out _ _ HKS2.out
                cases e4
                have HPV := hide (prev_some hp')
                rw [HPV.out] at HV1
                have HPK := hide hpk
                have hpl := (List.getElem?_eq_some_iff.1 hp').1
                have j6 : (i' : Int) < n := by have := HN.out; omega
                have j7 : (i' : Int) + 1 < n := by have := HN.out; omega
                have j8 : (0 : Int) ≤ (i' : Int) := by omega
                have j9 : (0 : Int) ≤ (i' : Int) + 1 := by omega
                obtain ⟨bb, hbb⟩ : ∃ bb : Bool, decide (s < p'.e.seq) = bb := ⟨_, rfl⟩
                have F := hide (HF.out bb (by
                  rw [HV1.out]
                  show (false || !(decide (p'.e.key = x.e.key) && decide (p'.e.seq ≤ s))) = bb
                  rw [← hbb]
                  have h1 : decide (p'.e.key = x.e.key) = true := decide_eq_true HPK.out
                  rw [h1]
                  by_cases h2 : s < p'.e.seq
                  · have h3 : s < p'.e.seq := h2
                    have h4 : ¬ p'.e.seq ≤ s := by omega
                    simp [h3, h4]
                  · have h3 : ¬ s < p'.e.seq := h2
                    have h4 : p'.e.seq ≤ s := by omega
                    simp [h3, h4]))
                have HBB := hide hbb
                generalize p'.e.seq = ps at *
                have SK := hide (fun (u : World) (t : Turns (fun _ => False) w u) => show u.cell? ⟨b, off + i' * 4 + 1, none⟩ = some (.int .u64 (ps : Nat)) ∧ u.cell? ⟨kb, ko + (j + p), none⟩ = some (.int .u64 (s : Nat)) from ⟨t.cell hps (fun x => x), t.cell hsw (fun x => x)⟩)
                clear hcp hps hsw hbb hp' hpk hsc HV1 HPV HF
                have tV : Turns (fun _ => False) w Vn.drew := (HV.out.turn.trans TU.out).drew
                have FA := F.out
                refine wp_region_held_drew (S := fun u => u.cell? ⟨b, off + i' * 4 + 1, none⟩ = some (.int .u64 (ps : Nat)) ∧ u.cell? ⟨kb, ko + (j + p), none⟩ = some (.int .u64 (s : Nat))) (by kernel_rfl) (SK.out _ tV) (fun _ => ?_)
                change wpAnyH _ _ _ _ _ 24 (Array.replicate 24 false) _ _
                refine wpAnyH_take (i := 0) (oi := { dst := some 71, op := Op.move (Operand.tmp 5), type := 32, pos := "look.go:34", after := #[], guard := none }) (v := .slice (some ⟨g, 0, none⟩) n n) rfl (by kernel_rfl) (by kernel_rfl) (by kernel_rfl) (fun _ _ _ h => h) (Or.inl ⟨by rfl, ?_⟩) (SK.out _ tV) ?_
                · rintro w ⟨s0, s1⟩
                  go_simp
                simp only [Act.put, List.setIfInBounds_toArray, List.set_cons_zero, List.set_cons_succ]
                refine wpAnyH_take (i := 1) (oi := { dst := some 72, op := Op.move (Operand.tmp 7), type := 3, pos := "look.go:34", after := #[], guard := none }) (v := .int .i64 ((i' : Int) + 1)) rfl (by kernel_rfl) (by kernel_rfl) (by kernel_rfl) (fun _ _ _ h => h) (Or.inl ⟨by rfl, ?_⟩) (SK.out _ tV) ?_
                · rintro w ⟨s0, s1⟩
                  go_simp
                simp only [Act.put, List.setIfInBounds_toArray, List.set_cons_zero, List.set_cons_succ]
                refine wpAnyH_take (i := 2) (oi := { dst := some 73, op := Op.move (Operand.tmp 6), type := 3, pos := "look.go:34", after := #[], guard := none }) (v := .int .i64 ((j : Nat) + (p : Nat))) rfl (by kernel_rfl) (by kernel_rfl) (by kernel_rfl) (fun _ _ _ h => h) (Or.inl ⟨by rfl, ?_⟩) (SK.out _ tV) ?_
                · rintro w ⟨s0, s1⟩
                  go_simp
                simp only [Act.put, List.setIfInBounds_toArray, List.set_cons_zero, List.set_cons_succ]
                refine wpAnyH_take (i := 3) (oi := { dst := some 74, op := Op.move (Operand.tmp 1), type := 35, pos := "look.go:34", after := #[], guard := none }) (v := .slice (some ⟨kb, ko, none⟩) ln lc) rfl (by kernel_rfl) (by kernel_rfl) (by kernel_rfl) (fun _ _ _ h => h) (Or.inl ⟨by rfl, ?_⟩) (SK.out _ tV) ?_
                · rintro w ⟨s0, s1⟩
                  go_simp
                simp only [Act.put, List.setIfInBounds_toArray, List.set_cons_zero, List.set_cons_succ]
                refine wpAnyH_take (i := 4) (oi := { dst := some 75, op := Op.call { callee := Callee.builtin Builtin.len, args := #[Operand.tmp 74], argTypes := #[35] }, type := 3, pos := "look.go:34", after := #[{ on := 3, ground := Ground.data }], guard := none }) (v := .int .i64 (ln : Nat)) rfl (by kernel_rfl) (by kernel_rfl) (by kernel_rfl) (fun _ _ _ h => h) (Or.inl ⟨by rfl, ?_⟩) (SK.out _ tV) ?_
                · rintro w ⟨s0, s1⟩
                  go_simp
                simp only [Act.put, List.setIfInBounds_toArray, List.set_cons_zero, List.set_cons_succ]
                refine wpAnyH_take (i := 5) (oi := { dst := some 76, op := Op.binOp BinOp.lss 3 (Operand.tmp 73) (Operand.tmp 75) 3, type := 4, pos := "look.go:34", after := #[{ on := 2, ground := Ground.data }, { on := 4, ground := Ground.data }], guard := none }) (v := .bool true) rfl (by kernel_rfl) (by kernel_rfl) (by kernel_rfl) (fun _ _ _ h => h) (Or.inl ⟨by rfl, ?_⟩) (SK.out _ tV) ?_
                · rintro w ⟨s0, s1⟩
                  go_simp
                simp only [Act.put, List.setIfInBounds_toArray, List.set_cons_zero, List.set_cons_succ]
                refine wpAnyH_take (i := 6) (oi := { dst := some 77, op := Op.move (Operand.tmp 76), type := 4, pos := "look.go:34", after := #[{ on := 5, ground := Ground.data }], guard := none }) (v := .bool true) rfl (by kernel_rfl) (by kernel_rfl) (by kernel_rfl) (fun _ _ _ h => h) (Or.inl ⟨by rfl, ?_⟩) (SK.out _ tV) ?_
                · rintro w ⟨s0, s1⟩
                  go_simp
                simp only [Act.put, List.setIfInBounds_toArray, List.set_cons_zero, List.set_cons_succ]
                refine wpAnyH_take (i := 7) (oi := { dst := some 78, op := Op.move (Operand.tmp 9), type := 4, pos := "look.go:34", after := #[{ on := 6, ground := Ground.guard }], guard := some (6, true) }) (v := .bool false) rfl (by kernel_rfl) (by kernel_rfl) (by kernel_rfl) (fun _ _ _ h => h) (Or.inl ⟨by rfl, ?_⟩) (SK.out _ tV) ?_
                · rintro w ⟨s0, s1⟩
                  go_simp
                simp only [Act.put, List.setIfInBounds_toArray, List.set_cons_zero, List.set_cons_succ]
                refine wpAnyH_take (i := 8) (oi := { dst := some 79, op := Op.move (Operand.tmp 78), type := 4, pos := "look.go:34", after := #[{ on := 7, ground := Ground.data }, { on := 6, ground := Ground.chain }, { on := 6, ground := Ground.guard }], guard := some (6, true) }) (v := .bool false) rfl (by kernel_rfl) (by kernel_rfl) (by kernel_rfl) (fun _ _ _ h => h) (Or.inl ⟨by rfl, ?_⟩) (SK.out _ tV) ?_
                · rintro w ⟨s0, s1⟩
                  go_simp
                simp only [Act.put, List.setIfInBounds_toArray, List.set_cons_zero, List.set_cons_succ]
                refine wpAnyH_take (i := 9) (oi := { dst := some 80, op := Op.move (Operand.tmp 1), type := 35, pos := "look.go:34", after := #[{ on := 8, ground := Ground.guard }], guard := some (8, false) }) (v := .slice (some ⟨kb, ko, none⟩) ln lc) rfl (by kernel_rfl) (by kernel_rfl) (by kernel_rfl) (fun _ _ _ h => h) (Or.inl ⟨by rfl, ?_⟩) (SK.out _ tV) ?_
                · rintro w ⟨s0, s1⟩
                  go_simp
                simp only [Act.put, List.setIfInBounds_toArray, List.set_cons_zero, List.set_cons_succ]
                refine wpAnyH_take (i := 10) (oi := { dst := some 81, op := Op.move (Operand.tmp 6), type := 3, pos := "look.go:34", after := #[{ on := 8, ground := Ground.guard }], guard := some (8, false) }) (v := .int .i64 ((j : Nat) + (p : Nat))) rfl (by kernel_rfl) (by kernel_rfl) (by kernel_rfl) (fun _ _ _ h => h) (Or.inl ⟨by rfl, ?_⟩) (SK.out _ tV) ?_
                · rintro w ⟨s0, s1⟩
                  go_simp
                simp only [Act.put, List.setIfInBounds_toArray, List.set_cons_zero, List.set_cons_succ]
                refine wpAnyH_take (i := 11) (oi := { dst := some 82, op := Op.indexAddr 35 (Operand.tmp 80) (Operand.tmp 81), type := 0, pos := "look.go:34", after := #[{ on := 9, ground := Ground.data }, { on := 10, ground := Ground.data }, { on := 8, ground := Ground.guard }], guard := some (8, false) }) (v := .pointer (some ⟨kb, ko + (j + p), none⟩)) rfl (by kernel_rfl) (by kernel_rfl) (by kernel_rfl) (fun _ _ _ h => h) (Or.inl ⟨by rfl, ?_⟩) (SK.out _ tV) ?_
                · rintro w ⟨s0, s1⟩
                  go_simp
                simp only [Act.put, List.setIfInBounds_toArray, List.set_cons_zero, List.set_cons_succ]
                refine wpAnyH_take (i := 12) (oi := { dst := some 83, op := Op.load 27 (Operand.tmp 82), type := 27, pos := "look.go:34", after := #[{ on := 11, ground := Ground.data }, { on := 8, ground := Ground.guard }], guard := some (8, false) }) (v := .int .u64 (s : Nat)) rfl (by kernel_rfl) (by kernel_rfl) (by kernel_rfl) (fun _ _ _ h => h) (Or.inl ⟨by rfl, ?_⟩) (SK.out _ tV) ?_
                · rintro w ⟨s0, s1⟩
                  go_simp
                simp only [Act.put, List.setIfInBounds_toArray, List.set_cons_zero, List.set_cons_succ]
                refine wpAnyH_take (i := 13) (oi := { dst := some 84, op := Op.move (Operand.tmp 0), type := 31, pos := "look.go:34", after := #[{ on := 8, ground := Ground.guard }], guard := some (8, false) }) (v := .slice (some ⟨b, off, none⟩) n c) rfl (by kernel_rfl) (by kernel_rfl) (by kernel_rfl) (fun _ _ _ h => h) (Or.inl ⟨by rfl, ?_⟩) (SK.out _ tV) ?_
                · rintro w ⟨s0, s1⟩
                  go_simp
                simp only [Act.put, List.setIfInBounds_toArray, List.set_cons_zero, List.set_cons_succ]
                refine wpAnyH_take (i := 14) (oi := { dst := some 85, op := Op.move (Operand.tmp 7), type := 3, pos := "look.go:34", after := #[{ on := 8, ground := Ground.guard }], guard := some (8, false) }) (v := .int .i64 ((i' : Int) + 1)) rfl (by kernel_rfl) (by kernel_rfl) (by kernel_rfl) (fun _ _ _ h => h) (Or.inl ⟨by rfl, ?_⟩) (SK.out _ tV) ?_
                · rintro w ⟨s0, s1⟩
                  go_simp
                simp only [Act.put, List.setIfInBounds_toArray, List.set_cons_zero, List.set_cons_succ]
                refine wpAnyH_take (i := 15) (oi := { dst := some 86, op := Op.binOp BinOp.sub 3 (Operand.tmp 85) (Operand.const (Value.int IntKind.i64 1)) 3, type := 3, pos := "look.go:34", after := #[{ on := 14, ground := Ground.data }, { on := 8, ground := Ground.guard }], guard := some (8, false) }) (v := .int .i64 (i' : Nat)) rfl (by kernel_rfl) (by kernel_rfl) (by kernel_rfl) (fun _ _ _ h => h) (Or.inl ⟨by rfl, ?_⟩) (SK.out _ tV) ?_
                · rintro w ⟨s0, s1⟩
                  go_simp; rw [wrapI _ (by omega) (by omega)]
                simp only [Act.put, List.setIfInBounds_toArray, List.set_cons_zero, List.set_cons_succ]
                refine wpAnyH_take (i := 16) (oi := { dst := some 87, op := Op.indexAddr 31 (Operand.tmp 84) (Operand.tmp 86), type := 0, pos := "look.go:34", after := #[{ on := 13, ground := Ground.data }, { on := 15, ground := Ground.data }, { on := 8, ground := Ground.guard }], guard := some (8, false) }) (v := .pointer (some ⟨b, off + i' * 4, none⟩)) rfl (by kernel_rfl) (by kernel_rfl) (by kernel_rfl) (fun _ _ _ h => h) (Or.inl ⟨by rfl, ?_⟩) (SK.out _ tV) ?_
                · rintro w ⟨s0, s1⟩
                  go_simp
                simp only [Act.put, List.setIfInBounds_toArray, List.set_cons_zero, List.set_cons_succ]
                refine wpAnyH_take (i := 17) (oi := { dst := some 88, op := Op.fieldAddr 29 (Operand.tmp 87) 1, type := 0, pos := "look.go:34", after := #[{ on := 16, ground := Ground.data }, { on := 8, ground := Ground.guard }], guard := some (8, false) }) (v := .pointer (some ⟨b, off + i' * 4 + 1, none⟩)) rfl (by kernel_rfl) (by kernel_rfl) (by kernel_rfl) (fun _ _ _ h => h) (Or.inl ⟨by rfl, ?_⟩) (SK.out _ tV) ?_
                · rintro w ⟨s0, s1⟩
                  go_simp
                simp only [Act.put, List.setIfInBounds_toArray, List.set_cons_zero, List.set_cons_succ]
                refine wpAnyH_take (i := 18) (oi := { dst := some 89, op := Op.load 27 (Operand.tmp 88), type := 27, pos := "look.go:34", after := #[{ on := 17, ground := Ground.data }, { on := 8, ground := Ground.guard }], guard := some (8, false) }) (v := .int .u64 (ps : Nat)) rfl (by kernel_rfl) (by kernel_rfl) (by kernel_rfl) (fun _ _ _ h => h) (Or.inl ⟨by rfl, ?_⟩) (SK.out _ tV) ?_
                · rintro w ⟨s0, s1⟩
                  go_simp
                simp only [Act.put, List.setIfInBounds_toArray, List.set_cons_zero, List.set_cons_succ]
                refine wpAnyH_take (i := 19) (oi := { dst := some 90, op := Op.binOp BinOp.lss 27 (Operand.tmp 83) (Operand.tmp 89) 27, type := 4, pos := "look.go:34", after := #[{ on := 12, ground := Ground.data }, { on := 18, ground := Ground.data }, { on := 8, ground := Ground.guard }], guard := some (8, false) }) (v := .bool bb) rfl (by kernel_rfl) (by kernel_rfl) (by kernel_rfl) (fun _ _ _ h => h) (Or.inl ⟨by rfl, ?_⟩) (SK.out _ tV) ?_
                · rintro w ⟨s0, s1⟩
                  go_simp; exact HBB.out
                simp only [Act.put, List.setIfInBounds_toArray, List.set_cons_zero, List.set_cons_succ]
                refine wpAnyH_take (i := 20) (oi := { dst := some 91, op := Op.pick (Operand.tmp 79) (Operand.const (Value.bool true)) (Operand.tmp 90), type := 4, pos := "look.go:34", after := #[{ on := 8, ground := Ground.data }, { on := 19, ground := Ground.data }, { on := 6, ground := Ground.guard }], guard := some (6, true) }) (v := .bool bb) rfl (by kernel_rfl) (by kernel_rfl) (by kernel_rfl) (fun _ _ _ h => h) (Or.inl ⟨by rfl, ?_⟩) (SK.out _ tV) ?_
                · rintro w ⟨s0, s1⟩
                  go_simp
                simp only [Act.put, List.setIfInBounds_toArray, List.set_cons_zero, List.set_cons_succ]
                refine wpAnyH_take (i := 21) (oi := { dst := some 92, op := Op.pick (Operand.tmp 77) (Operand.tmp 91) (Operand.const (Value.bool false)), type := 4, pos := "look.go:34", after := #[{ on := 6, ground := Ground.data }, { on := 20, ground := Ground.data }], guard := none }) (v := .bool bb) rfl (by kernel_rfl) (by kernel_rfl) (by kernel_rfl) (fun _ _ _ h => h) (Or.inl ⟨by rfl, ?_⟩) (SK.out _ tV) ?_
                · rintro w ⟨s0, s1⟩
                  go_simp
                simp only [Act.put, List.setIfInBounds_toArray, List.set_cons_zero, List.set_cons_succ]
                refine wpAnyH_take (i := 22) (oi := { dst := some 93, op := Op.indexAddr 32 (Operand.tmp 71) (Operand.tmp 72), type := 0, pos := "look.go:34", after := #[{ on := 0, ground := Ground.data }, { on := 1, ground := Ground.data }, { on := 0, ground := Ground.phase }, { on := 1, ground := Ground.phase }, { on := 2, ground := Ground.phase }, { on := 3, ground := Ground.phase }, { on := 4, ground := Ground.phase }, { on := 5, ground := Ground.phase }, { on := 6, ground := Ground.phase }, { on := 7, ground := Ground.phase }, { on := 8, ground := Ground.phase }, { on := 9, ground := Ground.phase }, { on := 10, ground := Ground.phase }, { on := 11, ground := Ground.phase }, { on := 12, ground := Ground.phase }, { on := 13, ground := Ground.phase }, { on := 14, ground := Ground.phase }, { on := 15, ground := Ground.phase }, { on := 16, ground := Ground.phase }, { on := 17, ground := Ground.phase }, { on := 18, ground := Ground.phase }, { on := 19, ground := Ground.phase }, { on := 20, ground := Ground.phase }, { on := 21, ground := Ground.phase }], guard := none }) (v := .pointer (some ⟨g, i' + 1, none⟩)) rfl (by kernel_rfl) (by kernel_rfl) (by kernel_rfl) (fun _ _ _ h => h) (Or.inl ⟨by rfl, ?_⟩) (SK.out _ tV) ?_
                · rintro w ⟨s0, s1⟩
                  go_simp
                simp only [Act.put, List.setIfInBounds_toArray, List.set_cons_zero, List.set_cons_succ]
                refine wpAnyH_ready (rs := [23]) (by kernel_rfl) (by simp) ?_
                refine AllReadyH.cons rfl (fun K hK => ?_) AllReadyH.nil
                go_simp
                refine hK.out _ _ (SK.out _ FA.turn) (fun _ => ?_)
                clear hK K
                refine wpAnyH_done (by kernel_rfl) ?_ _
                go_wp2_with fail
                go_roundw
                case rel => exact ⟨i' + 1, j + p, _, rfl, by first | rfl | (rw [wrapI _ (by omega) (by omega)]; try omega) | go_num, by first | rfl | go_num, by omega, hjp, HR.out, F.out⟩
                case measure => (simp [intOf]; try omega)
              · have F := hide (HF.out true (by rw [HV1.out]; rfl))
                have FA := F.out
                clear HV1 HF
                have SK := hide (fun (u : World) (_ : Turns (fun _ => False) w u) => show True from trivial)
                have tV : Turns (fun _ => False) w Vn.drew := (HV.out.turn.trans TU.out).drew
                refine wp_region_held_drew (S := fun u => True) (by kernel_rfl) (SK.out _ tV) (fun _ => ?_)
                change wpAnyH _ _ _ _ _ 24 (Array.replicate 24 false) _ _
                refine wpAnyH_take (i := 0) (oi := { dst := some 71, op := Op.move (Operand.tmp 5), type := 32, pos := "look.go:34", after := #[], guard := none }) (v := .slice (some ⟨g, 0, none⟩) n n) rfl (by kernel_rfl) (by kernel_rfl) (by kernel_rfl) (fun _ _ _ h => h) (Or.inl ⟨by rfl, ?_⟩) (SK.out _ tV) ?_
                · rintro w -
                  go_simp
                simp only [Act.put, List.setIfInBounds_toArray, List.set_cons_zero, List.set_cons_succ]
                refine wpAnyH_take (i := 1) (oi := { dst := some 72, op := Op.move (Operand.tmp 7), type := 3, pos := "look.go:34", after := #[], guard := none }) (v := .int .i64 (i : Nat)) rfl (by kernel_rfl) (by kernel_rfl) (by kernel_rfl) (fun _ _ _ h => h) (Or.inl ⟨by rfl, ?_⟩) (SK.out _ tV) ?_
                · rintro w -
                  go_simp
                simp only [Act.put, List.setIfInBounds_toArray, List.set_cons_zero, List.set_cons_succ]
                refine wpAnyH_take (i := 2) (oi := { dst := some 73, op := Op.move (Operand.tmp 6), type := 3, pos := "look.go:34", after := #[], guard := none }) (v := .int .i64 ((j : Nat) + (p : Nat))) rfl (by kernel_rfl) (by kernel_rfl) (by kernel_rfl) (fun _ _ _ h => h) (Or.inl ⟨by rfl, ?_⟩) (SK.out _ tV) ?_
                · rintro w -
                  go_simp
                simp only [Act.put, List.setIfInBounds_toArray, List.set_cons_zero, List.set_cons_succ]
                refine wpAnyH_take (i := 3) (oi := { dst := some 74, op := Op.move (Operand.tmp 1), type := 35, pos := "look.go:34", after := #[], guard := none }) (v := .slice (some ⟨kb, ko, none⟩) ln lc) rfl (by kernel_rfl) (by kernel_rfl) (by kernel_rfl) (fun _ _ _ h => h) (Or.inl ⟨by rfl, ?_⟩) (SK.out _ tV) ?_
                · rintro w -
                  go_simp
                simp only [Act.put, List.setIfInBounds_toArray, List.set_cons_zero, List.set_cons_succ]
                refine wpAnyH_take (i := 4) (oi := { dst := some 75, op := Op.call { callee := Callee.builtin Builtin.len, args := #[Operand.tmp 74], argTypes := #[35] }, type := 3, pos := "look.go:34", after := #[{ on := 3, ground := Ground.data }], guard := none }) (v := .int .i64 (ln : Nat)) rfl (by kernel_rfl) (by kernel_rfl) (by kernel_rfl) (fun _ _ _ h => h) (Or.inl ⟨by rfl, ?_⟩) (SK.out _ tV) ?_
                · rintro w -
                  go_simp
                simp only [Act.put, List.setIfInBounds_toArray, List.set_cons_zero, List.set_cons_succ]
                refine wpAnyH_take (i := 5) (oi := { dst := some 76, op := Op.binOp BinOp.lss 3 (Operand.tmp 73) (Operand.tmp 75) 3, type := 4, pos := "look.go:34", after := #[{ on := 2, ground := Ground.data }, { on := 4, ground := Ground.data }], guard := none }) (v := .bool true) rfl (by kernel_rfl) (by kernel_rfl) (by kernel_rfl) (fun _ _ _ h => h) (Or.inl ⟨by rfl, ?_⟩) (SK.out _ tV) ?_
                · rintro w -
                  go_simp
                simp only [Act.put, List.setIfInBounds_toArray, List.set_cons_zero, List.set_cons_succ]
                refine wpAnyH_take (i := 6) (oi := { dst := some 77, op := Op.move (Operand.tmp 76), type := 4, pos := "look.go:34", after := #[{ on := 5, ground := Ground.data }], guard := none }) (v := .bool true) rfl (by kernel_rfl) (by kernel_rfl) (by kernel_rfl) (fun _ _ _ h => h) (Or.inl ⟨by rfl, ?_⟩) (SK.out _ tV) ?_
                · rintro w -
                  go_simp
                simp only [Act.put, List.setIfInBounds_toArray, List.set_cons_zero, List.set_cons_succ]
                refine wpAnyH_take (i := 7) (oi := { dst := some 78, op := Op.move (Operand.tmp 9), type := 4, pos := "look.go:34", after := #[{ on := 6, ground := Ground.guard }], guard := some (6, true) }) (v := .bool true) rfl (by kernel_rfl) (by kernel_rfl) (by kernel_rfl) (fun _ _ _ h => h) (Or.inl ⟨by rfl, ?_⟩) (SK.out _ tV) ?_
                · rintro w -
                  go_simp
                simp only [Act.put, List.setIfInBounds_toArray, List.set_cons_zero, List.set_cons_succ]
                refine wpAnyH_take (i := 8) (oi := { dst := some 79, op := Op.move (Operand.tmp 78), type := 4, pos := "look.go:34", after := #[{ on := 7, ground := Ground.data }, { on := 6, ground := Ground.chain }, { on := 6, ground := Ground.guard }], guard := some (6, true) }) (v := .bool true) rfl (by kernel_rfl) (by kernel_rfl) (by kernel_rfl) (fun _ _ _ h => h) (Or.inl ⟨by rfl, ?_⟩) (SK.out _ tV) ?_
                · rintro w -
                  go_simp
                simp only [Act.put, List.setIfInBounds_toArray, List.set_cons_zero, List.set_cons_succ]
                refine wpAnyH_take (i := 9) (oi := { dst := some 80, op := Op.move (Operand.tmp 1), type := 35, pos := "look.go:34", after := #[{ on := 8, ground := Ground.guard }], guard := some (8, false) }) (v := undef) rfl (by kernel_rfl) (by kernel_rfl) (by kernel_rfl) (fun _ _ _ h => h) (Or.inr ⟨by rfl, rfl⟩) (SK.out _ tV) ?_
                simp only [Act.put, List.setIfInBounds_toArray, List.set_cons_zero, List.set_cons_succ]
                refine wpAnyH_take (i := 10) (oi := { dst := some 81, op := Op.move (Operand.tmp 6), type := 3, pos := "look.go:34", after := #[{ on := 8, ground := Ground.guard }], guard := some (8, false) }) (v := undef) rfl (by kernel_rfl) (by kernel_rfl) (by kernel_rfl) (fun _ _ _ h => h) (Or.inr ⟨by rfl, rfl⟩) (SK.out _ tV) ?_
                simp only [Act.put, List.setIfInBounds_toArray, List.set_cons_zero, List.set_cons_succ]
                refine wpAnyH_take (i := 11) (oi := { dst := some 82, op := Op.indexAddr 35 (Operand.tmp 80) (Operand.tmp 81), type := 0, pos := "look.go:34", after := #[{ on := 9, ground := Ground.data }, { on := 10, ground := Ground.data }, { on := 8, ground := Ground.guard }], guard := some (8, false) }) (v := undef) rfl (by kernel_rfl) (by kernel_rfl) (by kernel_rfl) (fun _ _ _ h => h) (Or.inr ⟨by rfl, rfl⟩) (SK.out _ tV) ?_
                simp only [Act.put, List.setIfInBounds_toArray, List.set_cons_zero, List.set_cons_succ]
                refine wpAnyH_take (i := 12) (oi := { dst := some 83, op := Op.load 27 (Operand.tmp 82), type := 27, pos := "look.go:34", after := #[{ on := 11, ground := Ground.data }, { on := 8, ground := Ground.guard }], guard := some (8, false) }) (v := undef) rfl (by kernel_rfl) (by kernel_rfl) (by kernel_rfl) (fun _ _ _ h => h) (Or.inr ⟨by rfl, rfl⟩) (SK.out _ tV) ?_
                simp only [Act.put, List.setIfInBounds_toArray, List.set_cons_zero, List.set_cons_succ]
                refine wpAnyH_take (i := 13) (oi := { dst := some 84, op := Op.move (Operand.tmp 0), type := 31, pos := "look.go:34", after := #[{ on := 8, ground := Ground.guard }], guard := some (8, false) }) (v := undef) rfl (by kernel_rfl) (by kernel_rfl) (by kernel_rfl) (fun _ _ _ h => h) (Or.inr ⟨by rfl, rfl⟩) (SK.out _ tV) ?_
                simp only [Act.put, List.setIfInBounds_toArray, List.set_cons_zero, List.set_cons_succ]
                refine wpAnyH_take (i := 14) (oi := { dst := some 85, op := Op.move (Operand.tmp 7), type := 3, pos := "look.go:34", after := #[{ on := 8, ground := Ground.guard }], guard := some (8, false) }) (v := undef) rfl (by kernel_rfl) (by kernel_rfl) (by kernel_rfl) (fun _ _ _ h => h) (Or.inr ⟨by rfl, rfl⟩) (SK.out _ tV) ?_
                simp only [Act.put, List.setIfInBounds_toArray, List.set_cons_zero, List.set_cons_succ]
                refine wpAnyH_take (i := 15) (oi := { dst := some 86, op := Op.binOp BinOp.sub 3 (Operand.tmp 85) (Operand.const (Value.int IntKind.i64 1)) 3, type := 3, pos := "look.go:34", after := #[{ on := 14, ground := Ground.data }, { on := 8, ground := Ground.guard }], guard := some (8, false) }) (v := undef) rfl (by kernel_rfl) (by kernel_rfl) (by kernel_rfl) (fun _ _ _ h => h) (Or.inr ⟨by rfl, rfl⟩) (SK.out _ tV) ?_
                simp only [Act.put, List.setIfInBounds_toArray, List.set_cons_zero, List.set_cons_succ]
                refine wpAnyH_take (i := 16) (oi := { dst := some 87, op := Op.indexAddr 31 (Operand.tmp 84) (Operand.tmp 86), type := 0, pos := "look.go:34", after := #[{ on := 13, ground := Ground.data }, { on := 15, ground := Ground.data }, { on := 8, ground := Ground.guard }], guard := some (8, false) }) (v := undef) rfl (by kernel_rfl) (by kernel_rfl) (by kernel_rfl) (fun _ _ _ h => h) (Or.inr ⟨by rfl, rfl⟩) (SK.out _ tV) ?_
                simp only [Act.put, List.setIfInBounds_toArray, List.set_cons_zero, List.set_cons_succ]
                refine wpAnyH_take (i := 17) (oi := { dst := some 88, op := Op.fieldAddr 29 (Operand.tmp 87) 1, type := 0, pos := "look.go:34", after := #[{ on := 16, ground := Ground.data }, { on := 8, ground := Ground.guard }], guard := some (8, false) }) (v := undef) rfl (by kernel_rfl) (by kernel_rfl) (by kernel_rfl) (fun _ _ _ h => h) (Or.inr ⟨by rfl, rfl⟩) (SK.out _ tV) ?_
                simp only [Act.put, List.setIfInBounds_toArray, List.set_cons_zero, List.set_cons_succ]
                refine wpAnyH_take (i := 18) (oi := { dst := some 89, op := Op.load 27 (Operand.tmp 88), type := 27, pos := "look.go:34", after := #[{ on := 17, ground := Ground.data }, { on := 8, ground := Ground.guard }], guard := some (8, false) }) (v := undef) rfl (by kernel_rfl) (by kernel_rfl) (by kernel_rfl) (fun _ _ _ h => h) (Or.inr ⟨by rfl, rfl⟩) (SK.out _ tV) ?_
                simp only [Act.put, List.setIfInBounds_toArray, List.set_cons_zero, List.set_cons_succ]
                refine wpAnyH_take (i := 19) (oi := { dst := some 90, op := Op.binOp BinOp.lss 27 (Operand.tmp 83) (Operand.tmp 89) 27, type := 4, pos := "look.go:34", after := #[{ on := 12, ground := Ground.data }, { on := 18, ground := Ground.data }, { on := 8, ground := Ground.guard }], guard := some (8, false) }) (v := undef) rfl (by kernel_rfl) (by kernel_rfl) (by kernel_rfl) (fun _ _ _ h => h) (Or.inr ⟨by rfl, rfl⟩) (SK.out _ tV) ?_
                simp only [Act.put, List.setIfInBounds_toArray, List.set_cons_zero, List.set_cons_succ]
                refine wpAnyH_take (i := 20) (oi := { dst := some 91, op := Op.pick (Operand.tmp 79) (Operand.const (Value.bool true)) (Operand.tmp 90), type := 4, pos := "look.go:34", after := #[{ on := 8, ground := Ground.data }, { on := 19, ground := Ground.data }, { on := 6, ground := Ground.guard }], guard := some (6, true) }) (v := .bool true) rfl (by kernel_rfl) (by kernel_rfl) (by kernel_rfl) (fun _ _ _ h => h) (Or.inl ⟨by rfl, ?_⟩) (SK.out _ tV) ?_
                · rintro w -
                  go_simp
                simp only [Act.put, List.setIfInBounds_toArray, List.set_cons_zero, List.set_cons_succ]
                refine wpAnyH_take (i := 21) (oi := { dst := some 92, op := Op.pick (Operand.tmp 77) (Operand.tmp 91) (Operand.const (Value.bool false)), type := 4, pos := "look.go:34", after := #[{ on := 6, ground := Ground.data }, { on := 20, ground := Ground.data }], guard := none }) (v := .bool true) rfl (by kernel_rfl) (by kernel_rfl) (by kernel_rfl) (fun _ _ _ h => h) (Or.inl ⟨by rfl, ?_⟩) (SK.out _ tV) ?_
                · rintro w -
                  go_simp
                simp only [Act.put, List.setIfInBounds_toArray, List.set_cons_zero, List.set_cons_succ]
                refine wpAnyH_take (i := 22) (oi := { dst := some 93, op := Op.indexAddr 32 (Operand.tmp 71) (Operand.tmp 72), type := 0, pos := "look.go:34", after := #[{ on := 0, ground := Ground.data }, { on := 1, ground := Ground.data }, { on := 0, ground := Ground.phase }, { on := 1, ground := Ground.phase }, { on := 2, ground := Ground.phase }, { on := 3, ground := Ground.phase }, { on := 4, ground := Ground.phase }, { on := 5, ground := Ground.phase }, { on := 6, ground := Ground.phase }, { on := 7, ground := Ground.phase }, { on := 8, ground := Ground.phase }, { on := 9, ground := Ground.phase }, { on := 10, ground := Ground.phase }, { on := 11, ground := Ground.phase }, { on := 12, ground := Ground.phase }, { on := 13, ground := Ground.phase }, { on := 14, ground := Ground.phase }, { on := 15, ground := Ground.phase }, { on := 16, ground := Ground.phase }, { on := 17, ground := Ground.phase }, { on := 18, ground := Ground.phase }, { on := 19, ground := Ground.phase }, { on := 20, ground := Ground.phase }, { on := 21, ground := Ground.phase }], guard := none }) (v := .pointer (some ⟨g, i, none⟩)) rfl (by kernel_rfl) (by kernel_rfl) (by kernel_rfl) (fun _ _ _ h => h) (Or.inl ⟨by rfl, ?_⟩) (SK.out _ tV) ?_
                · rintro w -
                  go_simp
                simp only [Act.put, List.setIfInBounds_toArray, List.set_cons_zero, List.set_cons_succ]
                refine wpAnyH_ready (rs := [23]) (by kernel_rfl) (by simp) ?_
                refine AllReadyH.cons rfl (fun K hK => ?_) AllReadyH.nil
                go_simp
                refine hK.out _ _ (SK.out _ FA.turn) (fun _ => ?_)
                clear hK K
                refine wpAnyH_done (by kernel_rfl) ?_ _
                go_wp2_with fail
                go_roundw
                case rel => exact ⟨i, j + p, _, rfl, by first | rfl | (rw [wrapI _ (by omega) (by omega)]; try omega) | go_num, by first | rfl | go_num, by omega, hjp, HR.out, F.out⟩
                case measure => (simp [intOf]; try omega)
            · have hks : ks[j + p]? = none := List.getElem?_eq_none_iff.2 (by have := HKN.out; omega)
              rw [hks] at HV1
              have F := hide (HF.out false HV1.out)
              have j4 : ¬ ((j : Nat) : Int) + p < ln := by omega
              have FA := F.out
              clear hks HV1 HF
              have SK := hide (fun (u : World) (_ : Turns (fun _ => False) w u) => show True from trivial)
              have tV : Turns (fun _ => False) w Vn.drew := (HV.out.turn.trans TU.out).drew
              refine wp_region_held_drew (S := fun u => True) (by kernel_rfl) (SK.out _ tV) (fun _ => ?_)
              change wpAnyH _ _ _ _ _ 24 (Array.replicate 24 false) _ _
              refine wpAnyH_take (i := 0) (oi := { dst := some 71, op := Op.move (Operand.tmp 5), type := 32, pos := "look.go:34", after := #[], guard := none }) (v := .slice (some ⟨g, 0, none⟩) n n) rfl (by kernel_rfl) (by kernel_rfl) (by kernel_rfl) (fun _ _ _ h => h) (Or.inl ⟨by rfl, ?_⟩) (SK.out _ tV) ?_
              · rintro w -
                go_simp
              simp only [Act.put, List.setIfInBounds_toArray, List.set_cons_zero, List.set_cons_succ]
              refine wpAnyH_take (i := 1) (oi := { dst := some 72, op := Op.move (Operand.tmp 7), type := 3, pos := "look.go:34", after := #[], guard := none }) (v := .int .i64 (i : Nat)) rfl (by kernel_rfl) (by kernel_rfl) (by kernel_rfl) (fun _ _ _ h => h) (Or.inl ⟨by rfl, ?_⟩) (SK.out _ tV) ?_
              · rintro w -
                go_simp
              simp only [Act.put, List.setIfInBounds_toArray, List.set_cons_zero, List.set_cons_succ]
              refine wpAnyH_take (i := 2) (oi := { dst := some 73, op := Op.move (Operand.tmp 6), type := 3, pos := "look.go:34", after := #[], guard := none }) (v := .int .i64 ((j : Nat) + (p : Nat))) rfl (by kernel_rfl) (by kernel_rfl) (by kernel_rfl) (fun _ _ _ h => h) (Or.inl ⟨by rfl, ?_⟩) (SK.out _ tV) ?_
              · rintro w -
                go_simp
              simp only [Act.put, List.setIfInBounds_toArray, List.set_cons_zero, List.set_cons_succ]
              refine wpAnyH_take (i := 3) (oi := { dst := some 74, op := Op.move (Operand.tmp 1), type := 35, pos := "look.go:34", after := #[], guard := none }) (v := .slice (some ⟨kb, ko, none⟩) ln lc) rfl (by kernel_rfl) (by kernel_rfl) (by kernel_rfl) (fun _ _ _ h => h) (Or.inl ⟨by rfl, ?_⟩) (SK.out _ tV) ?_
              · rintro w -
                go_simp
              simp only [Act.put, List.setIfInBounds_toArray, List.set_cons_zero, List.set_cons_succ]
              refine wpAnyH_take (i := 4) (oi := { dst := some 75, op := Op.call { callee := Callee.builtin Builtin.len, args := #[Operand.tmp 74], argTypes := #[35] }, type := 3, pos := "look.go:34", after := #[{ on := 3, ground := Ground.data }], guard := none }) (v := .int .i64 (ln : Nat)) rfl (by kernel_rfl) (by kernel_rfl) (by kernel_rfl) (fun _ _ _ h => h) (Or.inl ⟨by rfl, ?_⟩) (SK.out _ tV) ?_
              · rintro w -
                go_simp
              simp only [Act.put, List.setIfInBounds_toArray, List.set_cons_zero, List.set_cons_succ]
              refine wpAnyH_take (i := 5) (oi := { dst := some 76, op := Op.binOp BinOp.lss 3 (Operand.tmp 73) (Operand.tmp 75) 3, type := 4, pos := "look.go:34", after := #[{ on := 2, ground := Ground.data }, { on := 4, ground := Ground.data }], guard := none }) (v := .bool false) rfl (by kernel_rfl) (by kernel_rfl) (by kernel_rfl) (fun _ _ _ h => h) (Or.inl ⟨by rfl, ?_⟩) (SK.out _ tV) ?_
              · rintro w -
                go_simp
              simp only [Act.put, List.setIfInBounds_toArray, List.set_cons_zero, List.set_cons_succ]
              refine wpAnyH_take (i := 6) (oi := { dst := some 77, op := Op.move (Operand.tmp 76), type := 4, pos := "look.go:34", after := #[{ on := 5, ground := Ground.data }], guard := none }) (v := .bool false) rfl (by kernel_rfl) (by kernel_rfl) (by kernel_rfl) (fun _ _ _ h => h) (Or.inl ⟨by rfl, ?_⟩) (SK.out _ tV) ?_
              · rintro w -
                go_simp
              simp only [Act.put, List.setIfInBounds_toArray, List.set_cons_zero, List.set_cons_succ]
              refine wpAnyH_take (i := 7) (oi := { dst := some 78, op := Op.move (Operand.tmp 9), type := 4, pos := "look.go:34", after := #[{ on := 6, ground := Ground.guard }], guard := some (6, true) }) (v := undef) rfl (by kernel_rfl) (by kernel_rfl) (by kernel_rfl) (fun _ _ _ h => h) (Or.inr ⟨by rfl, rfl⟩) (SK.out _ tV) ?_
              simp only [Act.put, List.setIfInBounds_toArray, List.set_cons_zero, List.set_cons_succ]
              refine wpAnyH_take (i := 8) (oi := { dst := some 79, op := Op.move (Operand.tmp 78), type := 4, pos := "look.go:34", after := #[{ on := 7, ground := Ground.data }, { on := 6, ground := Ground.chain }, { on := 6, ground := Ground.guard }], guard := some (6, true) }) (v := undef) rfl (by kernel_rfl) (by kernel_rfl) (by kernel_rfl) (fun _ _ _ h => h) (Or.inr ⟨by rfl, rfl⟩) (SK.out _ tV) ?_
              simp only [Act.put, List.setIfInBounds_toArray, List.set_cons_zero, List.set_cons_succ]
              refine wpAnyH_take (i := 9) (oi := { dst := some 80, op := Op.move (Operand.tmp 1), type := 35, pos := "look.go:34", after := #[{ on := 8, ground := Ground.guard }], guard := some (8, false) }) (v := undef) rfl (by kernel_rfl) (by kernel_rfl) (by kernel_rfl) (fun _ _ _ h => h) (Or.inr ⟨by rfl, rfl⟩) (SK.out _ tV) ?_
              simp only [Act.put, List.setIfInBounds_toArray, List.set_cons_zero, List.set_cons_succ]
              refine wpAnyH_take (i := 10) (oi := { dst := some 81, op := Op.move (Operand.tmp 6), type := 3, pos := "look.go:34", after := #[{ on := 8, ground := Ground.guard }], guard := some (8, false) }) (v := undef) rfl (by kernel_rfl) (by kernel_rfl) (by kernel_rfl) (fun _ _ _ h => h) (Or.inr ⟨by rfl, rfl⟩) (SK.out _ tV) ?_
              simp only [Act.put, List.setIfInBounds_toArray, List.set_cons_zero, List.set_cons_succ]
              refine wpAnyH_take (i := 11) (oi := { dst := some 82, op := Op.indexAddr 35 (Operand.tmp 80) (Operand.tmp 81), type := 0, pos := "look.go:34", after := #[{ on := 9, ground := Ground.data }, { on := 10, ground := Ground.data }, { on := 8, ground := Ground.guard }], guard := some (8, false) }) (v := undef) rfl (by kernel_rfl) (by kernel_rfl) (by kernel_rfl) (fun _ _ _ h => h) (Or.inr ⟨by rfl, rfl⟩) (SK.out _ tV) ?_
              simp only [Act.put, List.setIfInBounds_toArray, List.set_cons_zero, List.set_cons_succ]
              refine wpAnyH_take (i := 12) (oi := { dst := some 83, op := Op.load 27 (Operand.tmp 82), type := 27, pos := "look.go:34", after := #[{ on := 11, ground := Ground.data }, { on := 8, ground := Ground.guard }], guard := some (8, false) }) (v := undef) rfl (by kernel_rfl) (by kernel_rfl) (by kernel_rfl) (fun _ _ _ h => h) (Or.inr ⟨by rfl, rfl⟩) (SK.out _ tV) ?_
              simp only [Act.put, List.setIfInBounds_toArray, List.set_cons_zero, List.set_cons_succ]
              refine wpAnyH_take (i := 13) (oi := { dst := some 84, op := Op.move (Operand.tmp 0), type := 31, pos := "look.go:34", after := #[{ on := 8, ground := Ground.guard }], guard := some (8, false) }) (v := undef) rfl (by kernel_rfl) (by kernel_rfl) (by kernel_rfl) (fun _ _ _ h => h) (Or.inr ⟨by rfl, rfl⟩) (SK.out _ tV) ?_
              simp only [Act.put, List.setIfInBounds_toArray, List.set_cons_zero, List.set_cons_succ]
              refine wpAnyH_take (i := 14) (oi := { dst := some 85, op := Op.move (Operand.tmp 7), type := 3, pos := "look.go:34", after := #[{ on := 8, ground := Ground.guard }], guard := some (8, false) }) (v := undef) rfl (by kernel_rfl) (by kernel_rfl) (by kernel_rfl) (fun _ _ _ h => h) (Or.inr ⟨by rfl, rfl⟩) (SK.out _ tV) ?_
              simp only [Act.put, List.setIfInBounds_toArray, List.set_cons_zero, List.set_cons_succ]
              refine wpAnyH_take (i := 15) (oi := { dst := some 86, op := Op.binOp BinOp.sub 3 (Operand.tmp 85) (Operand.const (Value.int IntKind.i64 1)) 3, type := 3, pos := "look.go:34", after := #[{ on := 14, ground := Ground.data }, { on := 8, ground := Ground.guard }], guard := some (8, false) }) (v := undef) rfl (by kernel_rfl) (by kernel_rfl) (by kernel_rfl) (fun _ _ _ h => h) (Or.inr ⟨by rfl, rfl⟩) (SK.out _ tV) ?_
              simp only [Act.put, List.setIfInBounds_toArray, List.set_cons_zero, List.set_cons_succ]
              refine wpAnyH_take (i := 16) (oi := { dst := some 87, op := Op.indexAddr 31 (Operand.tmp 84) (Operand.tmp 86), type := 0, pos := "look.go:34", after := #[{ on := 13, ground := Ground.data }, { on := 15, ground := Ground.data }, { on := 8, ground := Ground.guard }], guard := some (8, false) }) (v := undef) rfl (by kernel_rfl) (by kernel_rfl) (by kernel_rfl) (fun _ _ _ h => h) (Or.inr ⟨by rfl, rfl⟩) (SK.out _ tV) ?_
              simp only [Act.put, List.setIfInBounds_toArray, List.set_cons_zero, List.set_cons_succ]
              refine wpAnyH_take (i := 17) (oi := { dst := some 88, op := Op.fieldAddr 29 (Operand.tmp 87) 1, type := 0, pos := "look.go:34", after := #[{ on := 16, ground := Ground.data }, { on := 8, ground := Ground.guard }], guard := some (8, false) }) (v := undef) rfl (by kernel_rfl) (by kernel_rfl) (by kernel_rfl) (fun _ _ _ h => h) (Or.inr ⟨by rfl, rfl⟩) (SK.out _ tV) ?_
              simp only [Act.put, List.setIfInBounds_toArray, List.set_cons_zero, List.set_cons_succ]
              refine wpAnyH_take (i := 18) (oi := { dst := some 89, op := Op.load 27 (Operand.tmp 88), type := 27, pos := "look.go:34", after := #[{ on := 17, ground := Ground.data }, { on := 8, ground := Ground.guard }], guard := some (8, false) }) (v := undef) rfl (by kernel_rfl) (by kernel_rfl) (by kernel_rfl) (fun _ _ _ h => h) (Or.inr ⟨by rfl, rfl⟩) (SK.out _ tV) ?_
              simp only [Act.put, List.setIfInBounds_toArray, List.set_cons_zero, List.set_cons_succ]
              refine wpAnyH_take (i := 19) (oi := { dst := some 90, op := Op.binOp BinOp.lss 27 (Operand.tmp 83) (Operand.tmp 89) 27, type := 4, pos := "look.go:34", after := #[{ on := 12, ground := Ground.data }, { on := 18, ground := Ground.data }, { on := 8, ground := Ground.guard }], guard := some (8, false) }) (v := undef) rfl (by kernel_rfl) (by kernel_rfl) (by kernel_rfl) (fun _ _ _ h => h) (Or.inr ⟨by rfl, rfl⟩) (SK.out _ tV) ?_
              simp only [Act.put, List.setIfInBounds_toArray, List.set_cons_zero, List.set_cons_succ]
              refine wpAnyH_take (i := 20) (oi := { dst := some 91, op := Op.pick (Operand.tmp 79) (Operand.const (Value.bool true)) (Operand.tmp 90), type := 4, pos := "look.go:34", after := #[{ on := 8, ground := Ground.data }, { on := 19, ground := Ground.data }, { on := 6, ground := Ground.guard }], guard := some (6, true) }) (v := undef) rfl (by kernel_rfl) (by kernel_rfl) (by kernel_rfl) (fun _ _ _ h => h) (Or.inr ⟨by rfl, rfl⟩) (SK.out _ tV) ?_
              simp only [Act.put, List.setIfInBounds_toArray, List.set_cons_zero, List.set_cons_succ]
              refine wpAnyH_take (i := 21) (oi := { dst := some 92, op := Op.pick (Operand.tmp 77) (Operand.tmp 91) (Operand.const (Value.bool false)), type := 4, pos := "look.go:34", after := #[{ on := 6, ground := Ground.data }, { on := 20, ground := Ground.data }], guard := none }) (v := .bool false) rfl (by kernel_rfl) (by kernel_rfl) (by kernel_rfl) (fun _ _ _ h => h) (Or.inl ⟨by rfl, ?_⟩) (SK.out _ tV) ?_
              · rintro w -
                go_simp
              simp only [Act.put, List.setIfInBounds_toArray, List.set_cons_zero, List.set_cons_succ]
              refine wpAnyH_take (i := 22) (oi := { dst := some 93, op := Op.indexAddr 32 (Operand.tmp 71) (Operand.tmp 72), type := 0, pos := "look.go:34", after := #[{ on := 0, ground := Ground.data }, { on := 1, ground := Ground.data }, { on := 0, ground := Ground.phase }, { on := 1, ground := Ground.phase }, { on := 2, ground := Ground.phase }, { on := 3, ground := Ground.phase }, { on := 4, ground := Ground.phase }, { on := 5, ground := Ground.phase }, { on := 6, ground := Ground.phase }, { on := 7, ground := Ground.phase }, { on := 8, ground := Ground.phase }, { on := 9, ground := Ground.phase }, { on := 10, ground := Ground.phase }, { on := 11, ground := Ground.phase }, { on := 12, ground := Ground.phase }, { on := 13, ground := Ground.phase }, { on := 14, ground := Ground.phase }, { on := 15, ground := Ground.phase }, { on := 16, ground := Ground.phase }, { on := 17, ground := Ground.phase }, { on := 18, ground := Ground.phase }, { on := 19, ground := Ground.phase }, { on := 20, ground := Ground.phase }, { on := 21, ground := Ground.phase }], guard := none }) (v := .pointer (some ⟨g, i, none⟩)) rfl (by kernel_rfl) (by kernel_rfl) (by kernel_rfl) (fun _ _ _ h => h) (Or.inl ⟨by rfl, ?_⟩) (SK.out _ tV) ?_
              · rintro w -
                go_simp
              simp only [Act.put, List.setIfInBounds_toArray, List.set_cons_zero, List.set_cons_succ]
              refine wpAnyH_ready (rs := [23]) (by kernel_rfl) (by simp) ?_
              refine AllReadyH.cons rfl (fun K hK => ?_) AllReadyH.nil
              go_simp
              refine hK.out _ _ (SK.out _ FA.turn) (fun _ => ?_)
              clear hK K
              refine wpAnyH_done (by kernel_rfl) ?_ _
              go_wp2_with fail
              go_roundw
              case rel => exact ⟨i, j + p, _, rfl, by first | rfl | (rw [wrapI _ (by omega) (by omega)]; try omega) | go_num, by first | rfl | go_num, by omega, hjp, HR.out, F.out⟩
              case measure => (simp [intOf]; try omega)
          · have HJ := hide (show ∀ q s, q < 0 → ks[q]? = some s → s < x.e.seq from fun q s hq => by omega)
            have hj2 : (0 : Int) ≤ ln := by omega
            have hj3 : (0 : Int) ≤ lc := by omega
            obtain ⟨D, hD⟩ : ∃ D, D = if lc = 0 then 0 else 0 := ⟨_, rfl⟩
            have HDD := hide hD
            clear hD
            go_upto_region 10 with (fail)
            have SE := hide (fun (u : World) (t : Turns (fun _ => False) wr u) => search51 (some ⟨kb, ko + D, none⟩) (ln - 0) (lc - 0) (ks.drop 0) x.e.seq u ((HKW.out.quiet t).drop2 0 D lc (by rw [← HKN.out]; exact hlc) HDD.out) (by rw [List.length_drop, HKN.out]) (by omega) (List.Pairwise.sublist (List.drop_sublist _ _) HKS.out))
            have SK := hide (fun (u : World) (t : Turns (fun _ => False) wr u) => show u.cell? ⟨b, off + i * 4 + 1, none⟩ = some (.int .u64 (x.e.seq : Nat)) from t.cell HC.out.2.1 (fun x => x))
            have tV : Turns (fun _ => False) wr wc.drew := TD.out.drew
            generalize hsq : x.e.seq = sq at *
            have HSQ := hide hsq
            clear hsq
            refine wp_region_held_drew (S := fun u => u.cell? ⟨b, off + i * 4 + 1, none⟩ = some (.int .u64 (sq : Nat))) (by kernel_rfl) (SK.out _ tV) (fun _ => ?_)
            change wpAnyH _ _ _ _ _ 14 (Array.replicate 14 false) _ _
            refine wpAnyH_take (i := 0) (oi := { dst := some 57, op := Op.move (Operand.tmp 1), type := 35, pos := "look.go:32", after := #[], guard := none }) (v := .slice (some ⟨kb, ko, none⟩) ln lc) rfl (by kernel_rfl) (by kernel_rfl) (by kernel_rfl) (fun _ _ _ h => h) (Or.inl ⟨by rfl, ?_⟩) (SK.out _ tV) ?_
            · rintro w s0
              go_simp
            simp only [Act.put, List.setIfInBounds_toArray, List.set_cons_zero, List.set_cons_succ]
            refine wpAnyH_take (i := 1) (oi := { dst := some 58, op := Op.move (Operand.tmp 6), type := 3, pos := "look.go:32", after := #[], guard := none }) (v := .int .i64 (0 : Nat)) rfl (by kernel_rfl) (by kernel_rfl) (by kernel_rfl) (fun _ _ _ h => h) (Or.inl ⟨by rfl, ?_⟩) (SK.out _ tV) ?_
            · rintro w s0
              go_simp
            simp only [Act.put, List.setIfInBounds_toArray, List.set_cons_zero, List.set_cons_succ]
            refine wpAnyH_take (i := 2) (oi := { dst := some 59, op := Op.slice 35 (Operand.tmp 57) (some (Operand.tmp 58)) none none, type := 35, pos := "look.go:32", after := #[{ on := 0, ground := Ground.data }, { on := 1, ground := Ground.data }], guard := none }) (v := .slice (some ⟨kb, ko + D, none⟩) (ln - 0) (lc - 0)) rfl (by kernel_rfl) (by kernel_rfl) (by kernel_rfl) (fun _ _ _ h => h) (Or.inl ⟨by rfl, ?_⟩) (SK.out _ tV) ?_
            · rintro w s0
              go_simp; rw [HDD.out]; split <;> rfl
            simp only [Act.put, List.setIfInBounds_toArray, List.set_cons_zero, List.set_cons_succ]
            refine wpAnyH_take (i := 3) (oi := { dst := some 60, op := Op.move (Operand.tmp 0), type := 31, pos := "look.go:32", after := #[], guard := none }) (v := .slice (some ⟨b, off, none⟩) n c) rfl (by kernel_rfl) (by kernel_rfl) (by kernel_rfl) (fun _ _ _ h => h) (Or.inl ⟨by rfl, ?_⟩) (SK.out _ tV) ?_
            · rintro w s0
              go_simp
            simp only [Act.put, List.setIfInBounds_toArray, List.set_cons_zero, List.set_cons_succ]
            refine wpAnyH_take (i := 4) (oi := { dst := some 61, op := Op.move (Operand.tmp 7), type := 3, pos := "look.go:32", after := #[], guard := none }) (v := .int .i64 (i : Nat)) rfl (by kernel_rfl) (by kernel_rfl) (by kernel_rfl) (fun _ _ _ h => h) (Or.inl ⟨by rfl, ?_⟩) (SK.out _ tV) ?_
            · rintro w s0
              go_simp
            simp only [Act.put, List.setIfInBounds_toArray, List.set_cons_zero, List.set_cons_succ]
            refine wpAnyH_take (i := 5) (oi := { dst := some 62, op := Op.indexAddr 31 (Operand.tmp 60) (Operand.tmp 61), type := 0, pos := "look.go:32", after := #[{ on := 3, ground := Ground.data }, { on := 4, ground := Ground.data }], guard := none }) (v := .pointer (some ⟨b, off + i * 4, none⟩)) rfl (by kernel_rfl) (by kernel_rfl) (by kernel_rfl) (fun _ _ _ h => h) (Or.inl ⟨by rfl, ?_⟩) (SK.out _ tV) ?_
            · rintro w s0
              go_simp
            simp only [Act.put, List.setIfInBounds_toArray, List.set_cons_zero, List.set_cons_succ]
            refine wpAnyH_take (i := 6) (oi := { dst := some 63, op := Op.fieldAddr 29 (Operand.tmp 62) 1, type := 0, pos := "look.go:32", after := #[{ on := 5, ground := Ground.data }], guard := none }) (v := .pointer (some ⟨b, off + i * 4 + 1, none⟩)) rfl (by kernel_rfl) (by kernel_rfl) (by kernel_rfl) (fun _ _ _ h => h) (Or.inl ⟨by rfl, ?_⟩) (SK.out _ tV) ?_
            · rintro w s0
              go_simp
            simp only [Act.put, List.setIfInBounds_toArray, List.set_cons_zero, List.set_cons_succ]
            refine wpAnyH_take (i := 7) (oi := { dst := some 64, op := Op.load 27 (Operand.tmp 63), type := 27, pos := "look.go:32", after := #[{ on := 6, ground := Ground.data }], guard := none }) (v := .int .u64 (sq : Nat)) rfl (by kernel_rfl) (by kernel_rfl) (by kernel_rfl) (fun _ _ _ h => h) (Or.inl ⟨by rfl, ?_⟩) (SK.out _ tV) ?_
            · rintro w s0
              go_simp
            simp only [Act.put, List.setIfInBounds_toArray, List.set_cons_zero, List.set_cons_succ]
            refine wpAnyH_ready (rs := [8]) (by kernel_rfl) (by simp) ?_
            refine AllReadyH.cons rfl (fun K hK => ?_) AllReadyH.nil
            go_simp
            refine (SE.out _ tV).mono ?_
            rintro oo Vn ⟨p, v, rfl, hp, hlt, hge, tC⟩
            have tN := tC
            have tV := tV.trans tN
            clear tC
            clear tN
            go_simp
            refine hK.out _ _ (SK.out _ tV) (fun _ => ?_)
            clear hK K
            refine wpAnyH_take (i := 9) (oi := { dst := some 56, op := Op.move (Operand.tmp 65), type := 66, pos := "look.go:32", after := #[{ on := 8, ground := Ground.data }], guard := none }) (v := .tuple #[.int .i64 (p : Nat), v]) rfl (by kernel_rfl) (by kernel_rfl) (by kernel_rfl) (fun _ _ _ h => h) (Or.inl ⟨by rfl, ?_⟩) (SK.out _ tV) ?_
            · rintro w s0
              go_simp
            simp only [Act.put, List.setIfInBounds_toArray, List.set_cons_zero, List.set_cons_succ]
            refine wpAnyH_take (i := 10) (oi := { dst := some 66, op := Op.extract (Operand.tmp 56) 0, type := 3, pos := "look.go:32", after := #[{ on := 9, ground := Ground.data }], guard := none }) (v := .int .i64 (p : Nat)) rfl (by kernel_rfl) (by kernel_rfl) (by kernel_rfl) (fun _ _ _ h => h) (Or.inl ⟨by rfl, ?_⟩) (SK.out _ tV) ?_
            · rintro w s0
              go_simp
            simp only [Act.put, List.setIfInBounds_toArray, List.set_cons_zero, List.set_cons_succ]
            refine wpAnyH_take (i := 11) (oi := { dst := some 67, op := Op.extract (Operand.tmp 56) 1, type := 4, pos := "look.go:32", after := #[{ on := 9, ground := Ground.data }, { on := 12, ground := Ground.gcOnly Departure.lateStores }], guard := none }) (v := v) rfl (by kernel_rfl) (by kernel_rfl) (by kernel_rfl) (fun _ _ _ h => h) (Or.inl ⟨by rfl, ?_⟩) (SK.out _ tV) ?_
            · rintro w s0
              go_simp
            simp only [Act.put, List.setIfInBounds_toArray, List.set_cons_zero, List.set_cons_succ]
            refine wpAnyH_take (i := 12) (oi := { dst := some 10, op := Op.assign (Operand.tmp 66), type := 3, pos := "look.go:32", after := #[{ on := 10, ground := Ground.data }, { on := 8, ground := Ground.chain }, { on := 0, ground := Ground.phase }, { on := 1, ground := Ground.phase }, { on := 2, ground := Ground.phase }, { on := 3, ground := Ground.phase }, { on := 4, ground := Ground.phase }, { on := 5, ground := Ground.phase }, { on := 6, ground := Ground.phase }, { on := 7, ground := Ground.phase }, { on := 8, ground := Ground.phase }, { on := 9, ground := Ground.phase }, { on := 10, ground := Ground.phase }, { on := 11, ground := Ground.textOnly Departure.lateStores }], guard := none }) (v := .int .i64 (p : Nat)) rfl (by kernel_rfl) (by kernel_rfl) (by kernel_rfl) (fun _ _ _ h => h) (Or.inl ⟨by rfl, ?_⟩) (SK.out _ tV) ?_
            · rintro w s0
              go_simp
            simp only [Act.put, List.setIfInBounds_toArray, List.set_cons_zero, List.set_cons_succ]
            refine wpAnyH_take (i := 13) (oi := { dst := some 11, op := Op.assign (Operand.tmp 67), type := 4, pos := "look.go:32", after := #[{ on := 11, ground := Ground.data }, { on := 12, ground := Ground.chain }, { on := 0, ground := Ground.phase }, { on := 1, ground := Ground.phase }, { on := 2, ground := Ground.phase }, { on := 3, ground := Ground.phase }, { on := 4, ground := Ground.phase }, { on := 5, ground := Ground.phase }, { on := 6, ground := Ground.phase }, { on := 7, ground := Ground.phase }, { on := 8, ground := Ground.phase }, { on := 9, ground := Ground.phase }, { on := 10, ground := Ground.phase }, { on := 11, ground := Ground.phase }, { on := 12, ground := Ground.phase }], guard := none }) (v := v) rfl (by kernel_rfl) (by kernel_rfl) (by kernel_rfl) (fun _ _ _ h => h) (Or.inl ⟨by rfl, ?_⟩) (SK.out _ tV) ?_
            · rintro w s0
              go_simp
            simp only [Act.put, List.setIfInBounds_toArray, List.set_cons_zero, List.set_cons_succ]
            refine wpAnyH_done (by kernel_rfl) ?_ _
            have TU := hide tV
            clear tV
            clear SE SK
            go_wp2_with fail
            have HA := hide (show ∀ m s, m < p → ks[m]? = some s → s < x.e.seq from fun m s hm hs => by
              have h0 := HSQ.out
              rcases Nat.lt_or_ge m 0 with hq | hq
              · have := HJ.out m s hq hs
                omega
              · have := hlt (m - 0) s (by omega) (by rw [List.getElem?_drop, show 0 + (m - 0) = m by omega]; exact hs)
                omega)
            have HB := hide (show ∀ s, ks[p]? = some s → x.e.seq ≤ s from fun s hs => by
              have h0 := HSQ.out
              have := hge s (by simpa using hs)
              omega)
            have HV1 := hide (vis_one (nb := nb) HX.out HKS.out HA.out HB.out HNT.out)
            have HF := hide (show ∀ b : Bool, visAt ks (ents l) i = b → Vs w (Vn.drew.setCell ⟨g, i, none⟩ (.bool b)) g n i ks (ents l) from fun b hb => ((HV.out.quiet TU.out).quiet (Turns.refl _ _).drew).put HG.out (by omega) b hb)
            have HR := hide (show ∀ x', l[i]? = some x' → ∀ q s, q < p → ks[q]? = some s → s < x'.e.seq from fun x' hx' q s hq hs => by
              rw [HX.out] at hx'
              cases hx'
              exact HA.out q s hq hs)
            obtain ⟨hgc, hgf⟩ : (∃ d, Vn.cell? ⟨g, i, none⟩ = some d) ∧ Vn.frozen? ⟨g, i, none⟩ = false := by
              obtain ⟨⟨cs, k1, k2, k3⟩, _⟩ := HV.out.quiet TU.out
              exact ⟨⟨_, by rw [cell_of_row Vn g i cs 4 (0, 0) k1]; exact Array.getElem?_eq_getElem (by omega)⟩, frozen_of_row Vn g i _ 4 k1⟩
            obtain ⟨d0, hgc⟩ := hgc
            have hjp : p ≤ ln := by omega
            clear hlt hge HJ tV
            by_cases hjl : p < ln
            · obtain ⟨s, hks⟩ : ∃ s, ks[p]? = some s := ⟨_, List.getElem?_eq_getElem (by have := HKN.out; omega)⟩
              obtain ⟨⟨b2, off2, e2, hsc⟩, _⟩ := (HKW.out.quiet TU.out) _ _ hks
              cases e2
              rw [hks] at HV1
              have HKS2 := hide hks
              clear hks
              have j4 : (p : Int) < ln := by omega
              have j5 : (0 : Int) ≤ (p : Int) := by omega
              cases nb
              · obtain ⟨p', i', rfl, hp', hpk⟩ := HNF.out rfl
                obtain ⟨b3, off3, e3, hcp, _, _⟩ := ents_at2 H.out hp'
                cases e3
                have hps := hcp.2.1
                obtain ⟨⟨b4, off4, e4, hsw⟩, _⟩ := HK.out _ _ HKS2.out
                cases e4
                have HPV := hide (prev_some hp')
                rw [HPV.out] at HV1
                have HPK := hide hpk
                have hpl := (List.getElem?_eq_some_iff.1 hp').1
                have j6 : (i' : Int) < n := by have := HN.out; omega
                have j7 : (i' : Int) + 1 < n := by have := HN.out; omega
                have j8 : (0 : Int) ≤ (i' : Int) := by omega
                have j9 : (0 : Int) ≤ (i' : Int) + 1 := by omega
                obtain ⟨bb, hbb⟩ : ∃ bb : Bool, decide (s < p'.e.seq) = bb := ⟨_, rfl⟩
                have F := hide (HF.out bb (by
                  rw [HV1.out]
                  show (false || !(decide (p'.e.key = x.e.key) && decide (p'.e.seq ≤ s))) = bb
                  rw [← hbb]
                  have h1 : decide (p'.e.key = x.e.key) = true := decide_eq_true HPK.out
                  rw [h1]
                  by_cases h2 : s < p'.e.seq
                  · have h3 : s < p'.e.seq := h2
                    have h4 : ¬ p'.e.seq ≤ s := by omega
                    simp [h3, h4]
                  · have h3 : ¬ s < p'.e.seq := h2
                    have h4 : p'.e.seq ≤ s := by omega
                    simp [h3, h4]))
                have HBB := hide hbb
                generalize p'.e.seq = ps at *
                have SK := hide (fun (u : World) (t : Turns (fun _ => False) w u) => show u.cell? ⟨b, off + i' * 4 + 1, none⟩ = some (.int .u64 (ps : Nat)) ∧ u.cell? ⟨kb, ko + p, none⟩ = some (.int .u64 (s : Nat)) from ⟨t.cell hps (fun x => x), t.cell hsw (fun x => x)⟩)
                clear hcp hps hsw hbb hp' hpk hsc HV1 HPV HF
                have tV : Turns (fun _ => False) w Vn.drew := (HV.out.turn.trans TU.out).drew
                have FA := F.out
                refine wp_region_held_drew (S := fun u => u.cell? ⟨b, off + i' * 4 + 1, none⟩ = some (.int .u64 (ps : Nat)) ∧ u.cell? ⟨kb, ko + p, none⟩ = some (.int .u64 (s : Nat))) (by kernel_rfl) (SK.out _ tV) (fun _ => ?_)
                change wpAnyH _ _ _ _ _ 24 (Array.replicate 24 false) _ _
                refine wpAnyH_take (i := 0) (oi := { dst := some 71, op := Op.move (Operand.tmp 5), type := 32, pos := "look.go:34", after := #[], guard := none }) (v := .slice (some ⟨g, 0, none⟩) n n) rfl (by kernel_rfl) (by kernel_rfl) (by kernel_rfl) (fun _ _ _ h => h) (Or.inl ⟨by rfl, ?_⟩) (SK.out _ tV) ?_
                · rintro w ⟨s0, s1⟩
                  go_simp
                simp only [Act.put, List.setIfInBounds_toArray, List.set_cons_zero, List.set_cons_succ]
                refine wpAnyH_take (i := 1) (oi := { dst := some 72, op := Op.move (Operand.tmp 7), type := 3, pos := "look.go:34", after := #[], guard := none }) (v := .int .i64 ((i' : Int) + 1)) rfl (by kernel_rfl) (by kernel_rfl) (by kernel_rfl) (fun _ _ _ h => h) (Or.inl ⟨by rfl, ?_⟩) (SK.out _ tV) ?_
                · rintro w ⟨s0, s1⟩
                  go_simp
                simp only [Act.put, List.setIfInBounds_toArray, List.set_cons_zero, List.set_cons_succ]
                refine wpAnyH_take (i := 2) (oi := { dst := some 73, op := Op.move (Operand.tmp 6), type := 3, pos := "look.go:34", after := #[], guard := none }) (v := .int .i64 (p : Nat)) rfl (by kernel_rfl) (by kernel_rfl) (by kernel_rfl) (fun _ _ _ h => h) (Or.inl ⟨by rfl, ?_⟩) (SK.out _ tV) ?_
                · rintro w ⟨s0, s1⟩
                  go_simp
                simp only [Act.put, List.setIfInBounds_toArray, List.set_cons_zero, List.set_cons_succ]
                refine wpAnyH_take (i := 3) (oi := { dst := some 74, op := Op.move (Operand.tmp 1), type := 35, pos := "look.go:34", after := #[], guard := none }) (v := .slice (some ⟨kb, ko, none⟩) ln lc) rfl (by kernel_rfl) (by kernel_rfl) (by kernel_rfl) (fun _ _ _ h => h) (Or.inl ⟨by rfl, ?_⟩) (SK.out _ tV) ?_
                · rintro w ⟨s0, s1⟩
                  go_simp
                simp only [Act.put, List.setIfInBounds_toArray, List.set_cons_zero, List.set_cons_succ]
                refine wpAnyH_take (i := 4) (oi := { dst := some 75, op := Op.call { callee := Callee.builtin Builtin.len, args := #[Operand.tmp 74], argTypes := #[35] }, type := 3, pos := "look.go:34", after := #[{ on := 3, ground := Ground.data }], guard := none }) (v := .int .i64 (ln : Nat)) rfl (by kernel_rfl) (by kernel_rfl) (by kernel_rfl) (fun _ _ _ h => h) (Or.inl ⟨by rfl, ?_⟩) (SK.out _ tV) ?_
                · rintro w ⟨s0, s1⟩
                  go_simp
                simp only [Act.put, List.setIfInBounds_toArray, List.set_cons_zero, List.set_cons_succ]
                refine wpAnyH_take (i := 5) (oi := { dst := some 76, op := Op.binOp BinOp.lss 3 (Operand.tmp 73) (Operand.tmp 75) 3, type := 4, pos := "look.go:34", after := #[{ on := 2, ground := Ground.data }, { on := 4, ground := Ground.data }], guard := none }) (v := .bool true) rfl (by kernel_rfl) (by kernel_rfl) (by kernel_rfl) (fun _ _ _ h => h) (Or.inl ⟨by rfl, ?_⟩) (SK.out _ tV) ?_
                · rintro w ⟨s0, s1⟩
                  go_simp
                simp only [Act.put, List.setIfInBounds_toArray, List.set_cons_zero, List.set_cons_succ]
                refine wpAnyH_take (i := 6) (oi := { dst := some 77, op := Op.move (Operand.tmp 76), type := 4, pos := "look.go:34", after := #[{ on := 5, ground := Ground.data }], guard := none }) (v := .bool true) rfl (by kernel_rfl) (by kernel_rfl) (by kernel_rfl) (fun _ _ _ h => h) (Or.inl ⟨by rfl, ?_⟩) (SK.out _ tV) ?_
                · rintro w ⟨s0, s1⟩
                  go_simp
                simp only [Act.put, List.setIfInBounds_toArray, List.set_cons_zero, List.set_cons_succ]
                refine wpAnyH_take (i := 7) (oi := { dst := some 78, op := Op.move (Operand.tmp 9), type := 4, pos := "look.go:34", after := #[{ on := 6, ground := Ground.guard }], guard := some (6, true) }) (v := .bool false) rfl (by kernel_rfl) (by kernel_rfl) (by kernel_rfl) (fun _ _ _ h => h) (Or.inl ⟨by rfl, ?_⟩) (SK.out _ tV) ?_
                · rintro w ⟨s0, s1⟩
                  go_simp
                simp only [Act.put, List.setIfInBounds_toArray, List.set_cons_zero, List.set_cons_succ]
                refine wpAnyH_take (i := 8) (oi := { dst := some 79, op := Op.move (Operand.tmp 78), type := 4, pos := "look.go:34", after := #[{ on := 7, ground := Ground.data }, { on := 6, ground := Ground.chain }, { on := 6, ground := Ground.guard }], guard := some (6, true) }) (v := .bool false) rfl (by kernel_rfl) (by kernel_rfl) (by kernel_rfl) (fun _ _ _ h => h) (Or.inl ⟨by rfl, ?_⟩) (SK.out _ tV) ?_
                · rintro w ⟨s0, s1⟩
                  go_simp
                simp only [Act.put, List.setIfInBounds_toArray, List.set_cons_zero, List.set_cons_succ]
                refine wpAnyH_take (i := 9) (oi := { dst := some 80, op := Op.move (Operand.tmp 1), type := 35, pos := "look.go:34", after := #[{ on := 8, ground := Ground.guard }], guard := some (8, false) }) (v := .slice (some ⟨kb, ko, none⟩) ln lc) rfl (by kernel_rfl) (by kernel_rfl) (by kernel_rfl) (fun _ _ _ h => h) (Or.inl ⟨by rfl, ?_⟩) (SK.out _ tV) ?_
                · rintro w ⟨s0, s1⟩
                  go_simp
                simp only [Act.put, List.setIfInBounds_toArray, List.set_cons_zero, List.set_cons_succ]
                refine wpAnyH_take (i := 10) (oi := { dst := some 81, op := Op.move (Operand.tmp 6), type := 3, pos := "look.go:34", after := #[{ on := 8, ground := Ground.guard }], guard := some (8, false) }) (v := .int .i64 (p : Nat)) rfl (by kernel_rfl) (by kernel_rfl) (by kernel_rfl) (fun _ _ _ h => h) (Or.inl ⟨by rfl, ?_⟩) (SK.out _ tV) ?_
                · rintro w ⟨s0, s1⟩
                  go_simp
                simp only [Act.put, List.setIfInBounds_toArray, List.set_cons_zero, List.set_cons_succ]
                refine wpAnyH_take (i := 11) (oi := { dst := some 82, op := Op.indexAddr 35 (Operand.tmp 80) (Operand.tmp 81), type := 0, pos := "look.go:34", after := #[{ on := 9, ground := Ground.data }, { on := 10, ground := Ground.data }, { on := 8, ground := Ground.guard }], guard := some (8, false) }) (v := .pointer (some ⟨kb, ko + p, none⟩)) rfl (by kernel_rfl) (by kernel_rfl) (by kernel_rfl) (fun _ _ _ h => h) (Or.inl ⟨by rfl, ?_⟩) (SK.out _ tV) ?_
                · rintro w ⟨s0, s1⟩
                  go_simp
                simp only [Act.put, List.setIfInBounds_toArray, List.set_cons_zero, List.set_cons_succ]
                refine wpAnyH_take (i := 12) (oi := { dst := some 83, op := Op.load 27 (Operand.tmp 82), type := 27, pos := "look.go:34", after := #[{ on := 11, ground := Ground.data }, { on := 8, ground := Ground.guard }], guard := some (8, false) }) (v := .int .u64 (s : Nat)) rfl (by kernel_rfl) (by kernel_rfl) (by kernel_rfl) (fun _ _ _ h => h) (Or.inl ⟨by rfl, ?_⟩) (SK.out _ tV) ?_
                · rintro w ⟨s0, s1⟩
                  go_simp
                simp only [Act.put, List.setIfInBounds_toArray, List.set_cons_zero, List.set_cons_succ]
                refine wpAnyH_take (i := 13) (oi := { dst := some 84, op := Op.move (Operand.tmp 0), type := 31, pos := "look.go:34", after := #[{ on := 8, ground := Ground.guard }], guard := some (8, false) }) (v := .slice (some ⟨b, off, none⟩) n c) rfl (by kernel_rfl) (by kernel_rfl) (by kernel_rfl) (fun _ _ _ h => h) (Or.inl ⟨by rfl, ?_⟩) (SK.out _ tV) ?_
                · rintro w ⟨s0, s1⟩
                  go_simp
                simp only [Act.put, List.setIfInBounds_toArray, List.set_cons_zero, List.set_cons_succ]
                refine wpAnyH_take (i := 14) (oi := { dst := some 85, op := Op.move (Operand.tmp 7), type := 3, pos := "look.go:34", after := #[{ on := 8, ground := Ground.guard }], guard := some (8, false) }) (v := .int .i64 ((i' : Int) + 1)) rfl (by kernel_rfl) (by kernel_rfl) (by kernel_rfl) (fun _ _ _ h => h) (Or.inl ⟨by rfl, ?_⟩) (SK.out _ tV) ?_
                · rintro w ⟨s0, s1⟩
                  go_simp
                simp only [Act.put, List.setIfInBounds_toArray, List.set_cons_zero, List.set_cons_succ]
                refine wpAnyH_take (i := 15) (oi := { dst := some 86, op := Op.binOp BinOp.sub 3 (Operand.tmp 85) (Operand.const (Value.int IntKind.i64 1)) 3, type := 3, pos := "look.go:34", after := #[{ on := 14, ground := Ground.data }, { on := 8, ground := Ground.guard }], guard := some (8, false) }) (v := .int .i64 (i' : Nat)) rfl (by kernel_rfl) (by kernel_rfl) (by kernel_rfl) (fun _ _ _ h => h) (Or.inl ⟨by rfl, ?_⟩) (SK.out _ tV) ?_
                · rintro w ⟨s0, s1⟩
                  go_simp; rw [wrapI _ (by omega) (by omega)]
                simp only [Act.put, List.setIfInBounds_toArray, List.set_cons_zero, List.set_cons_succ]
                refine wpAnyH_take (i := 16) (oi := { dst := some 87, op := Op.indexAddr 31 (Operand.tmp 84) (Operand.tmp 86), type := 0, pos := "look.go:34", after := #[{ on := 13, ground := Ground.data }, { on := 15, ground := Ground.data }, { on := 8, ground := Ground.guard }], guard := some (8, false) }) (v := .pointer (some ⟨b, off + i' * 4, none⟩)) rfl (by kernel_rfl) (by kernel_rfl) (by kernel_rfl) (fun _ _ _ h => h) (Or.inl ⟨by rfl, ?_⟩) (SK.out _ tV) ?_
                · rintro w ⟨s0, s1⟩
                  go_simp
                simp only [Act.put, List.setIfInBounds_toArray, List.set_cons_zero, List.set_cons_succ]
                refine wpAnyH_take (i := 17) (oi := { dst := some 88, op := Op.fieldAddr 29 (Operand.tmp 87) 1, type := 0, pos := "look.go:34", after := #[{ on := 16, ground := Ground.data }, { on := 8, ground := Ground.guard }], guard := some (8, false) }) (v := .pointer (some ⟨b, off + i' * 4 + 1, none⟩)) rfl (by kernel_rfl) (by kernel_rfl) (by kernel_rfl) (fun _ _ _ h => h) (Or.inl ⟨by rfl, ?_⟩) (SK.out _ tV) ?_
                · rintro w ⟨s0, s1⟩
                  go_simp
                simp only [Act.put, List.setIfInBounds_toArray, List.set_cons_zero, List.set_cons_succ]
                refine wpAnyH_take (i := 18) (oi := { dst := some 89, op := Op.load 27 (Operand.tmp 88), type := 27, pos := "look.go:34", after := #[{ on := 17, ground := Ground.data }, { on := 8, ground := Ground.guard }], guard := some (8, false) }) (v := .int .u64 (ps : Nat)) rfl (by kernel_rfl) (by kernel_rfl) (by kernel_rfl) (fun _ _ _ h => h) (Or.inl ⟨by rfl, ?_⟩) (SK.out _ tV) ?_
                · rintro w ⟨s0, s1⟩
                  go_simp
                simp only [Act.put, List.setIfInBounds_toArray, List.set_cons_zero, List.set_cons_succ]
                refine wpAnyH_take (i := 19) (oi := { dst := some 90, op := Op.binOp BinOp.lss 27 (Operand.tmp 83) (Operand.tmp 89) 27, type := 4, pos := "look.go:34", after := #[{ on := 12, ground := Ground.data }, { on := 18, ground := Ground.data }, { on := 8, ground := Ground.guard }], guard := some (8, false) }) (v := .bool bb) rfl (by kernel_rfl) (by kernel_rfl) (by kernel_rfl) (fun _ _ _ h => h) (Or.inl ⟨by rfl, ?_⟩) (SK.out _ tV) ?_
                · rintro w ⟨s0, s1⟩
                  go_simp; exact HBB.out
                simp only [Act.put, List.setIfInBounds_toArray, List.set_cons_zero, List.set_cons_succ]
                refine wpAnyH_take (i := 20) (oi := { dst := some 91, op := Op.pick (Operand.tmp 79) (Operand.const (Value.bool true)) (Operand.tmp 90), type := 4, pos := "look.go:34", after := #[{ on := 8, ground := Ground.data }, { on := 19, ground := Ground.data }, { on := 6, ground := Ground.guard }], guard := some (6, true) }) (v := .bool bb) rfl (by kernel_rfl) (by kernel_rfl) (by kernel_rfl) (fun _ _ _ h => h) (Or.inl ⟨by rfl, ?_⟩) (SK.out _ tV) ?_
                · rintro w ⟨s0, s1⟩
                  go_simp
                simp only [Act.put, List.setIfInBounds_toArray, List.set_cons_zero, List.set_cons_succ]
                refine wpAnyH_take (i := 21) (oi := { dst := some 92, op := Op.pick (Operand.tmp 77) (Operand.tmp 91) (Operand.const (Value.bool false)), type := 4, pos := "look.go:34", after := #[{ on := 6, ground := Ground.data }, { on := 20, ground := Ground.data }], guard := none }) (v := .bool bb) rfl (by kernel_rfl) (by kernel_rfl) (by kernel_rfl) (fun _ _ _ h => h) (Or.inl ⟨by rfl, ?_⟩) (SK.out _ tV) ?_
                · rintro w ⟨s0, s1⟩
                  go_simp
                simp only [Act.put, List.setIfInBounds_toArray, List.set_cons_zero, List.set_cons_succ]
                refine wpAnyH_take (i := 22) (oi := { dst := some 93, op := Op.indexAddr 32 (Operand.tmp 71) (Operand.tmp 72), type := 0, pos := "look.go:34", after := #[{ on := 0, ground := Ground.data }, { on := 1, ground := Ground.data }, { on := 0, ground := Ground.phase }, { on := 1, ground := Ground.phase }, { on := 2, ground := Ground.phase }, { on := 3, ground := Ground.phase }, { on := 4, ground := Ground.phase }, { on := 5, ground := Ground.phase }, { on := 6, ground := Ground.phase }, { on := 7, ground := Ground.phase }, { on := 8, ground := Ground.phase }, { on := 9, ground := Ground.phase }, { on := 10, ground := Ground.phase }, { on := 11, ground := Ground.phase }, { on := 12, ground := Ground.phase }, { on := 13, ground := Ground.phase }, { on := 14, ground := Ground.phase }, { on := 15, ground := Ground.phase }, { on := 16, ground := Ground.phase }, { on := 17, ground := Ground.phase }, { on := 18, ground := Ground.phase }, { on := 19, ground := Ground.phase }, { on := 20, ground := Ground.phase }, { on := 21, ground := Ground.phase }], guard := none }) (v := .pointer (some ⟨g, i' + 1, none⟩)) rfl (by kernel_rfl) (by kernel_rfl) (by kernel_rfl) (fun _ _ _ h => h) (Or.inl ⟨by rfl, ?_⟩) (SK.out _ tV) ?_
                · rintro w ⟨s0, s1⟩
                  go_simp
                simp only [Act.put, List.setIfInBounds_toArray, List.set_cons_zero, List.set_cons_succ]
                refine wpAnyH_ready (rs := [23]) (by kernel_rfl) (by simp) ?_
                refine AllReadyH.cons rfl (fun K hK => ?_) AllReadyH.nil
                go_simp
                refine hK.out _ _ (SK.out _ FA.turn) (fun _ => ?_)
                clear hK K
                refine wpAnyH_done (by kernel_rfl) ?_ _
                go_wp2_with fail
                go_roundw
                case rel => exact ⟨i' + 1, p, _, rfl, by first | rfl | (rw [wrapI _ (by omega) (by omega)]; try omega) | go_num, by first | rfl | go_num, by omega, hjp, HR.out, F.out⟩
                case measure => (simp [intOf]; try omega)
              · have F := hide (HF.out true (by rw [HV1.out]; rfl))
                have FA := F.out
                clear HV1 HF
                have SK := hide (fun (u : World) (_ : Turns (fun _ => False) w u) => show True from trivial)
                have tV : Turns (fun _ => False) w Vn.drew := (HV.out.turn.trans TU.out).drew
                refine wp_region_held_drew (S := fun u => True) (by kernel_rfl) (SK.out _ tV) (fun _ => ?_)
                change wpAnyH _ _ _ _ _ 24 (Array.replicate 24 false) _ _
                refine wpAnyH_take (i := 0) (oi := { dst := some 71, op := Op.move (Operand.tmp 5), type := 32, pos := "look.go:34", after := #[], guard := none }) (v := .slice (some ⟨g, 0, none⟩) n n) rfl (by kernel_rfl) (by kernel_rfl) (by kernel_rfl) (fun _ _ _ h => h) (Or.inl ⟨by rfl, ?_⟩) (SK.out _ tV) ?_
                · rintro w -
                  go_simp
                simp only [Act.put, List.setIfInBounds_toArray, List.set_cons_zero, List.set_cons_succ]
                refine wpAnyH_take (i := 1) (oi := { dst := some 72, op := Op.move (Operand.tmp 7), type := 3, pos := "look.go:34", after := #[], guard := none }) (v := .int .i64 (i : Nat)) rfl (by kernel_rfl) (by kernel_rfl) (by kernel_rfl) (fun _ _ _ h => h) (Or.inl ⟨by rfl, ?_⟩) (SK.out _ tV) ?_
                · rintro w -
                  go_simp
                simp only [Act.put, List.setIfInBounds_toArray, List.set_cons_zero, List.set_cons_succ]
                refine wpAnyH_take (i := 2) (oi := { dst := some 73, op := Op.move (Operand.tmp 6), type := 3, pos := "look.go:34", after := #[], guard := none }) (v := .int .i64 (p : Nat)) rfl (by kernel_rfl) (by kernel_rfl) (by kernel_rfl) (fun _ _ _ h => h) (Or.inl ⟨by rfl, ?_⟩) (SK.out _ tV) ?_
                · rintro w -
                  go_simp
                simp only [Act.put, List.setIfInBounds_toArray, List.set_cons_zero, List.set_cons_succ]
                refine wpAnyH_take (i := 3) (oi := { dst := some 74, op := Op.move (Operand.tmp 1), type := 35, pos := "look.go:34", after := #[], guard := none }) (v := .slice (some ⟨kb, ko, none⟩) ln lc) rfl (by kernel_rfl) (by kernel_rfl) (by kernel_rfl) (fun _ _ _ h => h) (Or.inl ⟨by rfl, ?_⟩) (SK.out _ tV) ?_
                · rintro w -
                  go_simp
                simp only [Act.put, List.setIfInBounds_toArray, List.set_cons_zero, List.set_cons_succ]
                refine wpAnyH_take (i := 4) (oi := { dst := some 75, op := Op.call { callee := Callee.builtin Builtin.len, args := #[Operand.tmp 74], argTypes := #[35] }, type := 3, pos := "look.go:34", after := #[{ on := 3, ground := Ground.data }], guard := none }) (v := .int .i64 (ln : Nat)) rfl (by kernel_rfl) (by kernel_rfl) (by kernel_rfl) (fun _ _ _ h => h) (Or.inl ⟨by rfl, ?_⟩) (SK.out _ tV) ?_
                · rintro w -
                  go_simp
                simp only [Act.put, List.setIfInBounds_toArray, List.set_cons_zero, List.set_cons_succ]
                refine wpAnyH_take (i := 5) (oi := { dst := some 76, op := Op.binOp BinOp.lss 3 (Operand.tmp 73) (Operand.tmp 75) 3, type := 4, pos := "look.go:34", after := #[{ on := 2, ground := Ground.data }, { on := 4, ground := Ground.data }], guard := none }) (v := .bool true) rfl (by kernel_rfl) (by kernel_rfl) (by kernel_rfl) (fun _ _ _ h => h) (Or.inl ⟨by rfl, ?_⟩) (SK.out _ tV) ?_
                · rintro w -
                  go_simp
                simp only [Act.put, List.setIfInBounds_toArray, List.set_cons_zero, List.set_cons_succ]
                refine wpAnyH_take (i := 6) (oi := { dst := some 77, op := Op.move (Operand.tmp 76), type := 4, pos := "look.go:34", after := #[{ on := 5, ground := Ground.data }], guard := none }) (v := .bool true) rfl (by kernel_rfl) (by kernel_rfl) (by kernel_rfl) (fun _ _ _ h => h) (Or.inl ⟨by rfl, ?_⟩) (SK.out _ tV) ?_
                · rintro w -
                  go_simp
                simp only [Act.put, List.setIfInBounds_toArray, List.set_cons_zero, List.set_cons_succ]
                refine wpAnyH_take (i := 7) (oi := { dst := some 78, op := Op.move (Operand.tmp 9), type := 4, pos := "look.go:34", after := #[{ on := 6, ground := Ground.guard }], guard := some (6, true) }) (v := .bool true) rfl (by kernel_rfl) (by kernel_rfl) (by kernel_rfl) (fun _ _ _ h => h) (Or.inl ⟨by rfl, ?_⟩) (SK.out _ tV) ?_
                · rintro w -
                  go_simp
                simp only [Act.put, List.setIfInBounds_toArray, List.set_cons_zero, List.set_cons_succ]
                refine wpAnyH_take (i := 8) (oi := { dst := some 79, op := Op.move (Operand.tmp 78), type := 4, pos := "look.go:34", after := #[{ on := 7, ground := Ground.data }, { on := 6, ground := Ground.chain }, { on := 6, ground := Ground.guard }], guard := some (6, true) }) (v := .bool true) rfl (by kernel_rfl) (by kernel_rfl) (by kernel_rfl) (fun _ _ _ h => h) (Or.inl ⟨by rfl, ?_⟩) (SK.out _ tV) ?_
                · rintro w -
                  go_simp
                simp only [Act.put, List.setIfInBounds_toArray, List.set_cons_zero, List.set_cons_succ]
                refine wpAnyH_take (i := 9) (oi := { dst := some 80, op := Op.move (Operand.tmp 1), type := 35, pos := "look.go:34", after := #[{ on := 8, ground := Ground.guard }], guard := some (8, false) }) (v := undef) rfl (by kernel_rfl) (by kernel_rfl) (by kernel_rfl) (fun _ _ _ h => h) (Or.inr ⟨by rfl, rfl⟩) (SK.out _ tV) ?_
                simp only [Act.put, List.setIfInBounds_toArray, List.set_cons_zero, List.set_cons_succ]
                refine wpAnyH_take (i := 10) (oi := { dst := some 81, op := Op.move (Operand.tmp 6), type := 3, pos := "look.go:34", after := #[{ on := 8, ground := Ground.guard }], guard := some (8, false) }) (v := undef) rfl (by kernel_rfl) (by kernel_rfl) (by kernel_rfl) (fun _ _ _ h => h) (Or.inr ⟨by rfl, rfl⟩) (SK.out _ tV) ?_
                simp only [Act.put, List.setIfInBounds_toArray, List.set_cons_zero, List.set_cons_succ]
                refine wpAnyH_take (i := 11) (oi := { dst := some 82, op := Op.indexAddr 35 (Operand.tmp 80) (Operand.tmp 81), type := 0, pos := "look.go:34", after := #[{ on := 9, ground := Ground.data }, { on := 10, ground := Ground.data }, { on := 8, ground := Ground.guard }], guard := some (8, false) }) (v := undef) rfl (by kernel_rfl) (by kernel_rfl) (by kernel_rfl) (fun _ _ _ h => h) (Or.inr ⟨by rfl, rfl⟩) (SK.out _ tV) ?_
                simp only [Act.put, List.setIfInBounds_toArray, List.set_cons_zero, List.set_cons_succ]
                refine wpAnyH_take (i := 12) (oi := { dst := some 83, op := Op.load 27 (Operand.tmp 82), type := 27, pos := "look.go:34", after := #[{ on := 11, ground := Ground.data }, { on := 8, ground := Ground.guard }], guard := some (8, false) }) (v := undef) rfl (by kernel_rfl) (by kernel_rfl) (by kernel_rfl) (fun _ _ _ h => h) (Or.inr ⟨by rfl, rfl⟩) (SK.out _ tV) ?_
                simp only [Act.put, List.setIfInBounds_toArray, List.set_cons_zero, List.set_cons_succ]
                refine wpAnyH_take (i := 13) (oi := { dst := some 84, op := Op.move (Operand.tmp 0), type := 31, pos := "look.go:34", after := #[{ on := 8, ground := Ground.guard }], guard := some (8, false) }) (v := undef) rfl (by kernel_rfl) (by kernel_rfl) (by kernel_rfl) (fun _ _ _ h => h) (Or.inr ⟨by rfl, rfl⟩) (SK.out _ tV) ?_
                simp only [Act.put, List.setIfInBounds_toArray, List.set_cons_zero, List.set_cons_succ]
                refine wpAnyH_take (i := 14) (oi := { dst := some 85, op := Op.move (Operand.tmp 7), type := 3, pos := "look.go:34", after := #[{ on := 8, ground := Ground.guard }], guard := some (8, false) }) (v := undef) rfl (by kernel_rfl) (by kernel_rfl) (by kernel_rfl) (fun _ _ _ h => h) (Or.inr ⟨by rfl, rfl⟩) (SK.out _ tV) ?_
                simp only [Act.put, List.setIfInBounds_toArray, List.set_cons_zero, List.set_cons_succ]
                refine wpAnyH_take (i := 15) (oi := { dst := some 86, op := Op.binOp BinOp.sub 3 (Operand.tmp 85) (Operand.const (Value.int IntKind.i64 1)) 3, type := 3, pos := "look.go:34", after := #[{ on := 14, ground := Ground.data }, { on := 8, ground := Ground.guard }], guard := some (8, false) }) (v := undef) rfl (by kernel_rfl) (by kernel_rfl) (by kernel_rfl) (fun _ _ _ h => h) (Or.inr ⟨by rfl, rfl⟩) (SK.out _ tV) ?_
                simp only [Act.put, List.setIfInBounds_toArray, List.set_cons_zero, List.set_cons_succ]
                refine wpAnyH_take (i := 16) (oi := { dst := some 87, op := Op.indexAddr 31 (Operand.tmp 84) (Operand.tmp 86), type := 0, pos := "look.go:34", after := #[{ on := 13, ground := Ground.data }, { on := 15, ground := Ground.data }, { on := 8, ground := Ground.guard }], guard := some (8, false) }) (v := undef) rfl (by kernel_rfl) (by kernel_rfl) (by kernel_rfl) (fun _ _ _ h => h) (Or.inr ⟨by rfl, rfl⟩) (SK.out _ tV) ?_
                simp only [Act.put, List.setIfInBounds_toArray, List.set_cons_zero, List.set_cons_succ]
                refine wpAnyH_take (i := 17) (oi := { dst := some 88, op := Op.fieldAddr 29 (Operand.tmp 87) 1, type := 0, pos := "look.go:34", after := #[{ on := 16, ground := Ground.data }, { on := 8, ground := Ground.guard }], guard := some (8, false) }) (v := undef) rfl (by kernel_rfl) (by kernel_rfl) (by kernel_rfl) (fun _ _ _ h => h) (Or.inr ⟨by rfl, rfl⟩) (SK.out _ tV) ?_
                simp only [Act.put, List.setIfInBounds_toArray, List.set_cons_zero, List.set_cons_succ]
                refine wpAnyH_take (i := 18) (oi := { dst := some 89, op := Op.load 27 (Operand.tmp 88), type := 27, pos := "look.go:34", after := #[{ on := 17, ground := Ground.data }, { on := 8, ground := Ground.guard }], guard := some (8, false) }) (v := undef) rfl (by kernel_rfl) (by kernel_rfl) (by kernel_rfl) (fun _ _ _ h => h) (Or.inr ⟨by rfl, rfl⟩) (SK.out _ tV) ?_
                simp only [Act.put, List.setIfInBounds_toArray, List.set_cons_zero, List.set_cons_succ]
                refine wpAnyH_take (i := 19) (oi := { dst := some 90, op := Op.binOp BinOp.lss 27 (Operand.tmp 83) (Operand.tmp 89) 27, type := 4, pos := "look.go:34", after := #[{ on := 12, ground := Ground.data }, { on := 18, ground := Ground.data }, { on := 8, ground := Ground.guard }], guard := some (8, false) }) (v := undef) rfl (by kernel_rfl) (by kernel_rfl) (by kernel_rfl) (fun _ _ _ h => h) (Or.inr ⟨by rfl, rfl⟩) (SK.out _ tV) ?_
                simp only [Act.put, List.setIfInBounds_toArray, List.set_cons_zero, List.set_cons_succ]
                refine wpAnyH_take (i := 20) (oi := { dst := some 91, op := Op.pick (Operand.tmp 79) (Operand.const (Value.bool true)) (Operand.tmp 90), type := 4, pos := "look.go:34", after := #[{ on := 8, ground := Ground.data }, { on := 19, ground := Ground.data }, { on := 6, ground := Ground.guard }], guard := some (6, true) }) (v := .bool true) rfl (by kernel_rfl) (by kernel_rfl) (by kernel_rfl) (fun _ _ _ h => h) (Or.inl ⟨by rfl, ?_⟩) (SK.out _ tV) ?_
                · rintro w -
                  go_simp
                simp only [Act.put, List.setIfInBounds_toArray, List.set_cons_zero, List.set_cons_succ]
                refine wpAnyH_take (i := 21) (oi := { dst := some 92, op := Op.pick (Operand.tmp 77) (Operand.tmp 91) (Operand.const (Value.bool false)), type := 4, pos := "look.go:34", after := #[{ on := 6, ground := Ground.data }, { on := 20, ground := Ground.data }], guard := none }) (v := .bool true) rfl (by kernel_rfl) (by kernel_rfl) (by kernel_rfl) (fun _ _ _ h => h) (Or.inl ⟨by rfl, ?_⟩) (SK.out _ tV) ?_
                · rintro w -
                  go_simp
                simp only [Act.put, List.setIfInBounds_toArray, List.set_cons_zero, List.set_cons_succ]
                refine wpAnyH_take (i := 22) (oi := { dst := some 93, op := Op.indexAddr 32 (Operand.tmp 71) (Operand.tmp 72), type := 0, pos := "look.go:34", after := #[{ on := 0, ground := Ground.data }, { on := 1, ground := Ground.data }, { on := 0, ground := Ground.phase }, { on := 1, ground := Ground.phase }, { on := 2, ground := Ground.phase }, { on := 3, ground := Ground.phase }, { on := 4, ground := Ground.phase }, { on := 5, ground := Ground.phase }, { on := 6, ground := Ground.phase }, { on := 7, ground := Ground.phase }, { on := 8, ground := Ground.phase }, { on := 9, ground := Ground.phase }, { on := 10, ground := Ground.phase }, { on := 11, ground := Ground.phase }, { on := 12, ground := Ground.phase }, { on := 13, ground := Ground.phase }, { on := 14, ground := Ground.phase }, { on := 15, ground := Ground.phase }, { on := 16, ground := Ground.phase }, { on := 17, ground := Ground.phase }, { on := 18, ground := Ground.phase }, { on := 19, ground := Ground.phase }, { on := 20, ground := Ground.phase }, { on := 21, ground := Ground.phase }], guard := none }) (v := .pointer (some ⟨g, i, none⟩)) rfl (by kernel_rfl) (by kernel_rfl) (by kernel_rfl) (fun _ _ _ h => h) (Or.inl ⟨by rfl, ?_⟩) (SK.out _ tV) ?_
                · rintro w -
                  go_simp
                simp only [Act.put, List.setIfInBounds_toArray, List.set_cons_zero, List.set_cons_succ]
                refine wpAnyH_ready (rs := [23]) (by kernel_rfl) (by simp) ?_
                refine AllReadyH.cons rfl (fun K hK => ?_) AllReadyH.nil
                go_simp
                refine hK.out _ _ (SK.out _ FA.turn) (fun _ => ?_)
                clear hK K
                refine wpAnyH_done (by kernel_rfl) ?_ _
                go_wp2_with fail
                go_roundw
                case rel => exact ⟨i, p, _, rfl, by first | rfl | (rw [wrapI _ (by omega) (by omega)]; try omega) | go_num, by first | rfl | go_num, by omega, hjp, HR.out, F.out⟩
                case measure => (simp [intOf]; try omega)
            · have hks : ks[p]? = none := List.getElem?_eq_none_iff.2 (by have := HKN.out; omega)
              rw [hks] at HV1
              have F := hide (HF.out false HV1.out)
              have j4 : ¬ (p : Int) < ln := by omega
              have FA := F.out
              clear hks HV1 HF
              have SK := hide (fun (u : World) (_ : Turns (fun _ => False) w u) => show True from trivial)
              have tV : Turns (fun _ => False) w Vn.drew := (HV.out.turn.trans TU.out).drew
              refine wp_region_held_drew (S := fun u => True) (by kernel_rfl) (SK.out _ tV) (fun _ => ?_)
              change wpAnyH _ _ _ _ _ 24 (Array.replicate 24 false) _ _
              refine wpAnyH_take (i := 0) (oi := { dst := some 71, op := Op.move (Operand.tmp 5), type := 32, pos := "look.go:34", after := #[], guard := none }) (v := .slice (some ⟨g, 0, none⟩) n n) rfl (by kernel_rfl) (by kernel_rfl) (by kernel_rfl) (fun _ _ _ h => h) (Or.inl ⟨by rfl, ?_⟩) (SK.out _ tV) ?_
              · rintro w -
                go_simp
              simp only [Act.put, List.setIfInBounds_toArray, List.set_cons_zero, List.set_cons_succ]
              refine wpAnyH_take (i := 1) (oi := { dst := some 72, op := Op.move (Operand.tmp 7), type := 3, pos := "look.go:34", after := #[], guard := none }) (v := .int .i64 (i : Nat)) rfl (by kernel_rfl) (by kernel_rfl) (by kernel_rfl) (fun _ _ _ h => h) (Or.inl ⟨by rfl, ?_⟩) (SK.out _ tV) ?_
              · rintro w -
                go_simp
              simp only [Act.put, List.setIfInBounds_toArray, List.set_cons_zero, List.set_cons_succ]
              refine wpAnyH_take (i := 2) (oi := { dst := some 73, op := Op.move (Operand.tmp 6), type := 3, pos := "look.go:34", after := #[], guard := none }) (v := .int .i64 (p : Nat)) rfl (by kernel_rfl) (by kernel_rfl) (by kernel_rfl) (fun _ _ _ h => h) (Or.inl ⟨by rfl, ?_⟩) (SK.out _ tV) ?_
              · rintro w -
                go_simp
              simp only [Act.put, List.setIfInBounds_toArray, List.set_cons_zero, List.set_cons_succ]
              refine wpAnyH_take (i := 3) (oi := { dst := some 74, op := Op.move (Operand.tmp 1), type := 35, pos := "look.go:34", after := #[], guard := none }) (v := .slice (some ⟨kb, ko, none⟩) ln lc) rfl (by kernel_rfl) (by kernel_rfl) (by kernel_rfl) (fun _ _ _ h => h) (Or.inl ⟨by rfl, ?_⟩) (SK.out _ tV) ?_
              · rintro w -
                go_simp
              simp only [Act.put, List.setIfInBounds_toArray, List.set_cons_zero, List.set_cons_succ]
              refine wpAnyH_take (i := 4) (oi := { dst := some 75, op := Op.call { callee := Callee.builtin Builtin.len, args := #[Operand.tmp 74], argTypes := #[35] }, type := 3, pos := "look.go:34", after := #[{ on := 3, ground := Ground.data }], guard := none }) (v := .int .i64 (ln : Nat)) rfl (by kernel_rfl) (by kernel_rfl) (by kernel_rfl) (fun _ _ _ h => h) (Or.inl ⟨by rfl, ?_⟩) (SK.out _ tV) ?_
              · rintro w -
                go_simp
              simp only [Act.put, List.setIfInBounds_toArray, List.set_cons_zero, List.set_cons_succ]
              refine wpAnyH_take (i := 5) (oi := { dst := some 76, op := Op.binOp BinOp.lss 3 (Operand.tmp 73) (Operand.tmp 75) 3, type := 4, pos := "look.go:34", after := #[{ on := 2, ground := Ground.data }, { on := 4, ground := Ground.data }], guard := none }) (v := .bool false) rfl (by kernel_rfl) (by kernel_rfl) (by kernel_rfl) (fun _ _ _ h => h) (Or.inl ⟨by rfl, ?_⟩) (SK.out _ tV) ?_
              · rintro w -
                go_simp
              simp only [Act.put, List.setIfInBounds_toArray, List.set_cons_zero, List.set_cons_succ]
              refine wpAnyH_take (i := 6) (oi := { dst := some 77, op := Op.move (Operand.tmp 76), type := 4, pos := "look.go:34", after := #[{ on := 5, ground := Ground.data }], guard := none }) (v := .bool false) rfl (by kernel_rfl) (by kernel_rfl) (by kernel_rfl) (fun _ _ _ h => h) (Or.inl ⟨by rfl, ?_⟩) (SK.out _ tV) ?_
              · rintro w -
                go_simp
              simp only [Act.put, List.setIfInBounds_toArray, List.set_cons_zero, List.set_cons_succ]
              refine wpAnyH_take (i := 7) (oi := { dst := some 78, op := Op.move (Operand.tmp 9), type := 4, pos := "look.go:34", after := #[{ on := 6, ground := Ground.guard }], guard := some (6, true) }) (v := undef) rfl (by kernel_rfl) (by kernel_rfl) (by kernel_rfl) (fun _ _ _ h => h) (Or.inr ⟨by rfl, rfl⟩) (SK.out _ tV) ?_
              simp only [Act.put, List.setIfInBounds_toArray, List.set_cons_zero, List.set_cons_succ]
              refine wpAnyH_take (i := 8) (oi := { dst := some 79, op := Op.move (Operand.tmp 78), type := 4, pos := "look.go:34", after := #[{ on := 7, ground := Ground.data }, { on := 6, ground := Ground.chain }, { on := 6, ground := Ground.guard }], guard := some (6, true) }) (v := undef) rfl (by kernel_rfl) (by kernel_rfl) (by kernel_rfl) (fun _ _ _ h => h) (Or.inr ⟨by rfl, rfl⟩) (SK.out _ tV) ?_
              simp only [Act.put, List.setIfInBounds_toArray, List.set_cons_zero, List.set_cons_succ]
              refine wpAnyH_take (i := 9) (oi := { dst := some 80, op := Op.move (Operand.tmp 1), type := 35, pos := "look.go:34", after := #[{ on := 8, ground := Ground.guard }], guard := some (8, false) }) (v := undef) rfl (by kernel_rfl) (by kernel_rfl) (by kernel_rfl) (fun _ _ _ h => h) (Or.inr ⟨by rfl, rfl⟩) (SK.out _ tV) ?_
              simp only [Act.put, List.setIfInBounds_toArray, List.set_cons_zero, List.set_cons_succ]
              refine wpAnyH_take (i := 10) (oi := { dst := some 81, op := Op.move (Operand.tmp 6), type := 3, pos := "look.go:34", after := #[{ on := 8, ground := Ground.guard }], guard := some (8, false) }) (v := undef) rfl (by kernel_rfl) (by kernel_rfl) (by kernel_rfl) (fun _ _ _ h => h) (Or.inr ⟨by rfl, rfl⟩) (SK.out _ tV) ?_
              simp only [Act.put, List.setIfInBounds_toArray, List.set_cons_zero, List.set_cons_succ]
              refine wpAnyH_take (i := 11) (oi := { dst := some 82, op := Op.indexAddr 35 (Operand.tmp 80) (Operand.tmp 81), type := 0, pos := "look.go:34", after := #[{ on := 9, ground := Ground.data }, { on := 10, ground := Ground.data }, { on := 8, ground := Ground.guard }], guard := some (8, false) }) (v := undef) rfl (by kernel_rfl) (by kernel_rfl) (by kernel_rfl) (fun _ _ _ h => h) (Or.inr ⟨by rfl, rfl⟩) (SK.out _ tV) ?_
              simp only [Act.put, List.setIfInBounds_toArray, List.set_cons_zero, List.set_cons_succ]
              refine wpAnyH_take (i := 12) (oi := { dst := some 83, op := Op.load 27 (Operand.tmp 82), type := 27, pos := "look.go:34", after := #[{ on := 11, ground := Ground.data }, { on := 8, ground := Ground.guard }], guard := some (8, false) }) (v := undef) rfl (by kernel_rfl) (by kernel_rfl) (by kernel_rfl) (fun _ _ _ h => h) (Or.inr ⟨by rfl, rfl⟩) (SK.out _ tV) ?_
              simp only [Act.put, List.setIfInBounds_toArray, List.set_cons_zero, List.set_cons_succ]
              refine wpAnyH_take (i := 13) (oi := { dst := some 84, op := Op.move (Operand.tmp 0), type := 31, pos := "look.go:34", after := #[{ on := 8, ground := Ground.guard }], guard := some (8, false) }) (v := undef) rfl (by kernel_rfl) (by kernel_rfl) (by kernel_rfl) (fun _ _ _ h => h) (Or.inr ⟨by rfl, rfl⟩) (SK.out _ tV) ?_
              simp only [Act.put, List.setIfInBounds_toArray, List.set_cons_zero, List.set_cons_succ]
              refine wpAnyH_take (i := 14) (oi := { dst := some 85, op := Op.move (Operand.tmp 7), type := 3, pos := "look.go:34", after := #[{ on := 8, ground := Ground.guard }], guard := some (8, false) }) (v := undef) rfl (by kernel_rfl) (by kernel_rfl) (by kernel_rfl) (fun _ _ _ h => h) (Or.inr ⟨by rfl, rfl⟩) (SK.out _ tV) ?_
              simp only [Act.put, List.setIfInBounds_toArray, List.set_cons_zero, List.set_cons_succ]
              refine wpAnyH_take (i := 15) (oi := { dst := some 86, op := Op.binOp BinOp.sub 3 (Operand.tmp 85) (Operand.const (Value.int IntKind.i64 1)) 3, type := 3, pos := "look.go:34", after := #[{ on := 14, ground := Ground.data }, { on := 8, ground := Ground.guard }], guard := some (8, false) }) (v := undef) rfl (by kernel_rfl) (by kernel_rfl) (by kernel_rfl) (fun _ _ _ h => h) (Or.inr ⟨by rfl, rfl⟩) (SK.out _ tV) ?_
              simp only [Act.put, List.setIfInBounds_toArray, List.set_cons_zero, List.set_cons_succ]
              refine wpAnyH_take (i := 16) (oi := { dst := some 87, op := Op.indexAddr 31 (Operand.tmp 84) (Operand.tmp 86), type := 0, pos := "look.go:34", after := #[{ on := 13, ground := Ground.data }, { on := 15, ground := Ground.data }, { on := 8, ground := Ground.guard }], guard := some (8, false) }) (v := undef) rfl (by kernel_rfl) (by kernel_rfl) (by kernel_rfl) (fun _ _ _ h => h) (Or.inr ⟨by rfl, rfl⟩) (SK.out _ tV) ?_
              simp only [Act.put, List.setIfInBounds_toArray, List.set_cons_zero, List.set_cons_succ]
              refine wpAnyH_take (i := 17) (oi := { dst := some 88, op := Op.fieldAddr 29 (Operand.tmp 87) 1, type := 0, pos := "look.go:34", after := #[{ on := 16, ground := Ground.data }, { on := 8, ground := Ground.guard }], guard := some (8, false) }) (v := undef) rfl (by kernel_rfl) (by kernel_rfl) (by kernel_rfl) (fun _ _ _ h => h) (Or.inr ⟨by rfl, rfl⟩) (SK.out _ tV) ?_
              simp only [Act.put, List.setIfInBounds_toArray, List.set_cons_zero, List.set_cons_succ]
              refine wpAnyH_take (i := 18) (oi := { dst := some 89, op := Op.load 27 (Operand.tmp 88), type := 27, pos := "look.go:34", after := #[{ on := 17, ground := Ground.data }, { on := 8, ground := Ground.guard }], guard := some (8, false) }) (v := undef) rfl (by kernel_rfl) (by kernel_rfl) (by kernel_rfl) (fun _ _ _ h => h) (Or.inr ⟨by rfl, rfl⟩) (SK.out _ tV) ?_
              simp only [Act.put, List.setIfInBounds_toArray, List.set_cons_zero, List.set_cons_succ]
              refine wpAnyH_take (i := 19) (oi := { dst := some 90, op := Op.binOp BinOp.lss 27 (Operand.tmp 83) (Operand.tmp 89) 27, type := 4, pos := "look.go:34", after := #[{ on := 12, ground := Ground.data }, { on := 18, ground := Ground.data }, { on := 8, ground := Ground.guard }], guard := some (8, false) }) (v := undef) rfl (by kernel_rfl) (by kernel_rfl) (by kernel_rfl) (fun _ _ _ h => h) (Or.inr ⟨by rfl, rfl⟩) (SK.out _ tV) ?_
              simp only [Act.put, List.setIfInBounds_toArray, List.set_cons_zero, List.set_cons_succ]
              refine wpAnyH_take (i := 20) (oi := { dst := some 91, op := Op.pick (Operand.tmp 79) (Operand.const (Value.bool true)) (Operand.tmp 90), type := 4, pos := "look.go:34", after := #[{ on := 8, ground := Ground.data }, { on := 19, ground := Ground.data }, { on := 6, ground := Ground.guard }], guard := some (6, true) }) (v := undef) rfl (by kernel_rfl) (by kernel_rfl) (by kernel_rfl) (fun _ _ _ h => h) (Or.inr ⟨by rfl, rfl⟩) (SK.out _ tV) ?_
              simp only [Act.put, List.setIfInBounds_toArray, List.set_cons_zero, List.set_cons_succ]
              refine wpAnyH_take (i := 21) (oi := { dst := some 92, op := Op.pick (Operand.tmp 77) (Operand.tmp 91) (Operand.const (Value.bool false)), type := 4, pos := "look.go:34", after := #[{ on := 6, ground := Ground.data }, { on := 20, ground := Ground.data }], guard := none }) (v := .bool false) rfl (by kernel_rfl) (by kernel_rfl) (by kernel_rfl) (fun _ _ _ h => h) (Or.inl ⟨by rfl, ?_⟩) (SK.out _ tV) ?_
              · rintro w -
                go_simp
              simp only [Act.put, List.setIfInBounds_toArray, List.set_cons_zero, List.set_cons_succ]
              refine wpAnyH_take (i := 22) (oi := { dst := some 93, op := Op.indexAddr 32 (Operand.tmp 71) (Operand.tmp 72), type := 0, pos := "look.go:34", after := #[{ on := 0, ground := Ground.data }, { on := 1, ground := Ground.data }, { on := 0, ground := Ground.phase }, { on := 1, ground := Ground.phase }, { on := 2, ground := Ground.phase }, { on := 3, ground := Ground.phase }, { on := 4, ground := Ground.phase }, { on := 5, ground := Ground.phase }, { on := 6, ground := Ground.phase }, { on := 7, ground := Ground.phase }, { on := 8, ground := Ground.phase }, { on := 9, ground := Ground.phase }, { on := 10, ground := Ground.phase }, { on := 11, ground := Ground.phase }, { on := 12, ground := Ground.phase }, { on := 13, ground := Ground.phase }, { on := 14, ground := Ground.phase }, { on := 15, ground := Ground.phase }, { on := 16, ground := Ground.phase }, { on := 17, ground := Ground.phase }, { on := 18, ground := Ground.phase }, { on := 19, ground := Ground.phase }, { on := 20, ground := Ground.phase }, { on := 21, ground := Ground.phase }], guard := none }) (v := .pointer (some ⟨g, i, none⟩)) rfl (by kernel_rfl) (by kernel_rfl) (by kernel_rfl) (fun _ _ _ h => h) (Or.inl ⟨by rfl, ?_⟩) (SK.out _ tV) ?_
              · rintro w -
                go_simp
              simp only [Act.put, List.setIfInBounds_toArray, List.set_cons_zero, List.set_cons_succ]
              refine wpAnyH_ready (rs := [23]) (by kernel_rfl) (by simp) ?_
              refine AllReadyH.cons rfl (fun K hK => ?_) AllReadyH.nil
              go_simp
              refine hK.out _ _ (SK.out _ FA.turn) (fun _ => ?_)
              clear hK K
              refine wpAnyH_done (by kernel_rfl) ?_ _
              go_wp2_with fail
              go_roundw
              case rel => exact ⟨i, p, _, rfl, by first | rfl | (rw [wrapI _ (by omega) (by omega)]; try omega) | go_num, by first | rfl | go_num, by omega, hjp, HR.out, F.out⟩
              case measure => (simp [intOf]; try omega)
end Go.Proofs.Ytpgligfolecieaa
