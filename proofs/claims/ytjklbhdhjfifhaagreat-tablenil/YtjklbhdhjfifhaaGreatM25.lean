import Derived.Test.YtjklbhdhjfifhaaGreatM24
import Derived.Test.YtjklbhdhjfifhaaGreatM19
import Derived.Deep.Light
/-
  Are entries in order? may they be a block? how many bytes has it?
-/
namespace Go.Proofs.YtjklbhdhjfifhaaGreat
open Go.RowKit
set_option maxRecDepth 100000
set_option maxHeartbeats 4000000
theorem inOrd_iff : ∀ es : List Ent, inOrd es = true ↔ ∀ j x y, es[j]? = some x → es[j + 1]? = some y → cmpE x.en y.en < 0
  | [] => by simp [inOrd]
  | [x] => by simp [inOrd]
  | x :: y :: r => by
    have ih := inOrd_iff (y :: r)
    simp only [inOrd, Bool.and_eq_true, decide_eq_true_eq, ih]
    constructor
    · rintro ⟨h1, h2⟩ j a b ha hb
      cases j with
      | zero =>
        obtain rfl : x = a := by simpa using ha
        obtain rfl : y = b := by simpa using hb
        exact h1
      | succ j => exact h2 j a b (by simpa using ha) (by simpa using hb)
    · intro h
      exact ⟨h 0 x y rfl rfl, fun j a b ha hb => h (j + 1) a b (by simpa using ha) (by simpa using hb)⟩
theorem wrapI (z : Int) (h0 : -9223372036854775808 ≤ z) (h1 : z < 9223372036854775808) : IntKind.i64.wrap z = z := by rw [IntKind.wrap_i64]; omega
def ents (l : List Tow) : List Ent := l.map (·.e)
theorem ents_at {l : List Tow} {k : Nat} (h : k < l.length) : (ents l)[k]? = some l[k].e := by simp [ents, h]
theorem inOrder_any (a : Option Addr) (n c : Nat) (l : List Tow) (w : World) (h : Ents w a l) (hn : n = l.length) (hmx : n ≤ 1000000) :
    Calls Tryz.prog 172 #[.slice a n c] w fun e w' => e = .returned (.bool (inOrd (ents l))) ∧ Below w.heap.size w w' := by
  have HL := hide hn
  have HA := hide h
  generalize hB : w.heap.size = B
  have HB := hide hB
  clear hn h hB
  go_enter Tryz.func172, Tryz.ntmps172
  go_wp2_with fail
  go_loopw [3] (fun iv wr => ∃ k : Nat, iv = .int .i64 (k : Nat) ∧ 1 ≤ k ∧ k ≤ n + 1 ∧ (∀ j x y, j + 1 < k → (ents l)[j]? = some x → (ents l)[j + 1]? = some y → cmpE x.en y.en < 0) ∧ Below B w wr) (fun iv _ => n + 1 - (intOf iv).toNat)
  case atStart => exact ⟨1, rfl, by omega, by omega, fun j x y h => by omega, Below.refl _ _⟩
  case round =>
    obtain ⟨k, rfl, hk1, hk, hord, hbw⟩ := hrel
    have BW := hide hbw
    have HO := hide hord
    clear hord
    by_cases hk2 : k < n
    · obtain ⟨p, rfl⟩ : ∃ p, k = p + 1 := ⟨k - 1, by omega⟩
      have i1 : (p : Int) + 1 < n := by omega
      have i0 : (0 : Int) ≤ (p : Int) + 1 := by omega
      have i2 : (0 : Int) ≤ (p : Int) := by omega
      have i3 : (p : Int) < n := by omega
      have i4 : IntKind.i64.wrap (p : Int) = (p : Int) := wrapI _ (by omega) (by omega)
      have hkl : p + 1 < l.length := by have := HL.out; omega
      have hpl : p < l.length := by omega
      have tt := Turns.of_below (show Below w.heap.size w wr by rw [HB.out]; exact hbw) (fun _ => False)
      obtain ⟨⟨b, off, rfl, hc⟩, k1, k2⟩ := (HA.out.quiet tt) p l[p] (List.getElem?_eq_getElem hpl)
      obtain ⟨⟨b', off', e', hc'⟩, k3, k4⟩ := (HA.out.quiet tt) (p + 1) l[p + 1] (List.getElem?_eq_getElem hkl)
      cases e'
      have HE1 := hide (ents_at hpl)
      have HE2 := hide (ents_at hkl)
      have hsz : B ≤ wr.heap.size := by have := tt.size; have := HB.out; omega
      generalize l[p] = x at *
      generalize l[p + 1] = x' at *
      obtain ⟨ka, kc, va, vc, e⟩ := x
      obtain ⟨ka', kc', va', vc', e'⟩ := x'
      have c0 : wr.cell? ⟨b, off + p * 4, none⟩ = some (.slice ka e.key.length kc) := hc 0 _ rfl
      have c1 : wr.cell? ⟨b, off + p * 4 + 1, none⟩ = some (.int .u64 (e.seq : Nat)) := hc 1 _ rfl
      have c2 : wr.cell? ⟨b, off + p * 4 + 2, none⟩ = some (.int .i64 e.kind) := hc 2 _ rfl
      have c3 : wr.cell? ⟨b, off + p * 4 + 3, none⟩ = some (.slice va e.val.length vc) := hc 3 _ rfl
      have d0 : wr.cell? ⟨b, off + (p + 1) * 4, none⟩ = some (.slice ka' e'.key.length kc') := hc' 0 _ rfl
      have d1 : wr.cell? ⟨b, off + (p + 1) * 4 + 1, none⟩ = some (.int .u64 (e'.seq : Nat)) := hc' 1 _ rfl
      have d2 : wr.cell? ⟨b, off + (p + 1) * 4 + 2, none⟩ = some (.int .i64 e'.kind) := hc' 2 _ rfl
      have d3 : wr.cell? ⟨b, off + (p + 1) * 4 + 3, none⟩ = some (.slice va' e'.val.length vc') := hc' 3 _ rfl
      have t0 : Turns (fun _ => False) wr wr.drew := (Turns.refl _ _).drew
      have HQ := hide (compare_any ka ka' va va' e.key.length kc e.val.length vc e'.key.length kc' e'.val.length vc' e.kind e'.kind e.seq e'.seq e.key e'.key wr.drew (Bytes.quiet k1 t0) (Bytes.quiet k3 t0))
      clear hc hc' k1 k2 k3 k4 tt hbw t0
      have ep : ((p + 1 : Nat) : Int) - 1 = (p : Int) := by omega
      generalize hcv : cmpE (e.key, e.seq) (e'.key, e'.seq) = cv at *
      have HCV := hide hcv
      clear hcv
      go_wp2_with fail
      go_region_held (fun w' => (w'.cell? ⟨b, off + p * 4, none⟩ = some (.slice ka e.key.length kc) ∧ w'.cell? ⟨b, off + p * 4 + 1, none⟩ = some (.int .u64 (e.seq : Nat)) ∧ w'.cell? ⟨b, off + p * 4 + 2, none⟩ = some (.int .i64 e.kind) ∧ w'.cell? ⟨b, off + p * 4 + 3, none⟩ = some (.slice va e.val.length vc)) ∧ w'.cell? ⟨b, off + (p + 1) * 4, none⟩ = some (.slice ka' e'.key.length kc') ∧ w'.cell? ⟨b, off + (p + 1) * 4 + 1, none⟩ = some (.int .u64 (e'.seq : Nat)) ∧ w'.cell? ⟨b, off + (p + 1) * 4 + 2, none⟩ = some (.int .i64 e'.kind) ∧ w'.cell? ⟨b, off + (p + 1) * 4 + 3, none⟩ = some (.slice va' e'.val.length vc')) (first | (with_reducible exact ⟨⟨f0, f1, f2, f3⟩, g0, g1, g2, g3⟩) | (simp only [World.cell?_drew]; with_reducible exact ⟨⟨c0, c1, c2, c3⟩, d0, d1, d2, d3⟩)) (first
        | (go_at_call 87; refine HQ.out.mono ?_; rintro x w2 ⟨rfl, b2⟩; have t2 := (Turns.refl (fun _ => False) wr).drew.trans (Turns.of_below b2 (fun _ => False)); have f0 := t2.cell c0 (fun x => x); have f1 := t2.cell c1 (fun x => x); have f2 := t2.cell c2 (fun x => x); have f3 := t2.cell c3 (fun x => x); have g0 := t2.cell d0 (fun x => x); have g1 := t2.cell d1 (fun x => x); have g2 := t2.cell d2 (fun x => x); have g3 := t2.cell d3 (fun x => x); have T2 := hide t2; clear t2 b2))
      clear f0 f1 f2 f3 g0 g1 g2 g3
      by_cases hlt : cv < 0
      · have hlt' : ¬ (0 : Int) ≤ cv := by omega
        go_wp2_with fail
        go_roundw
        case rel =>
          refine ⟨p + 2, by go_num, by omega, by omega, fun j x y hj hx hy => ?_, BW.out.trans (T2.out.below hsz (fun _ h => h.elim))⟩
          by_cases hjp : j = p
          · subst hjp
            have e1 : e = x := by have := HE1.out; rw [hx] at this; exact (Option.some.inj this).symm
            have e2 : e' = y := by have := HE2.out; rw [hy] at this; exact (Option.some.inj this).symm
            subst e1 e2
            show cmpE (e.key, e.seq) (e'.key, e'.seq) < 0
            rw [HCV.out]; exact hlt
          · exact HO.out j x y (by omega) hx hy
        case measure => simp [intOf]; omega
      · have hlt' : (0 : Int) ≤ cv := by omega
        go_wp2_with fail
        go_ret
        refine ⟨congrArg Ending.returned (congrArg Value.bool (Eq.symm ?_)), BW.out.trans (T2.out.below hsz (fun _ h => h.elim))⟩
        refine Bool.eq_false_iff.2 fun q => ?_
        have := (inOrd_iff _).1 q p e e' HE1.out HE2.out
        have h9 := HCV.out
        unfold Ent.en at this
        omega
    · have i1 : ¬ (k : Int) < n := by omega
      go_wp2_with fail
      go_ret
      refine ⟨congrArg Ending.returned (congrArg Value.bool (Eq.symm ?_)), BW.out⟩
      refine (inOrd_iff _).2 fun j x y hx hy => HO.out j x y ?_ hx hy
      have := (List.getElem?_eq_some_iff.1 hy).1
      have h9 := HL.out
      simp only [ents, List.length_map] at this
      omega
end Go.Proofs.YtjklbhdhjfifhaaGreat

/-
  May entries be a block? how many bytes has it?
-/
namespace Go.Proofs.YtjklbhdhjfifhaaGreat
open Go.RowKit
set_option maxRecDepth 100000
set_option maxHeartbeats 4000000
/-- Entries of which each may be, with their keys' room. -/
def Good (l : List Tow) : Prop := ∀ x, x ∈ l → chk1 x.e = 0 ∧ x.e.key.length ≤ x.kc
def chkL (es : List Ent) : Int := if es = [] ∨ inOrd es = false then 2 else 0
theorem smol_one {e : Ent} (h : chk1 e = 0) : Smol [(e.kind, e.key, e.val)] := by
  obtain ⟨h1, h2, h3, h4, h5, h6⟩ := chk1_fine h
  exact ⟨by simp, by simp [tot]; omega⟩
theorem check_all (a : Option Addr) (n c : Nat) (l : List Tow) (w : World) (h : Ents w a l) (hn : n = l.length) (hmx : n ≤ 1000000) (hf : Good l) :
    Calls Tryz.prog 149 #[.slice a n c] w fun e w' => e = .returned (.int .i64 (chkL (ents l))) ∧ Below w.heap.size w w' := by
  have HL := hide hn
  have HA := hide h
  have HF := hide hf
  generalize hB : w.heap.size = B
  have HB := hide hB
  clear hn h hB hf
  go_enter Tryz.func149, Tryz.ntmps149
  go_wp2_with fail
  go_loopw [8] (fun iv wr => ∃ k : Nat, iv = .int .i64 (k : Nat) ∧ k ≤ n ∧ Below B w wr) (fun iv _ => n - (intOf iv).toNat)
  case atStart => exact ⟨0, rfl, by omega, Below.refl _ _⟩
  case round =>
    obtain ⟨k, rfl, hk, hbw⟩ := hrel
    have BW := hide hbw
    have tt := Turns.of_below (show Below w.heap.size w wr by rw [HB.out]; exact hbw) (fun _ => False)
    have hsz : B ≤ wr.heap.size := by have := tt.size; have := HB.out; omega
    by_cases hk2 : k < n
    · have i1 : (k : Int) < n := by omega
      have i0 : (0 : Int) ≤ (k : Int) := by omega
      have hkl : k < l.length := by have := HL.out; omega
      obtain ⟨⟨b, off, rfl, hc⟩, k1, k2⟩ := (HA.out.quiet tt) k l[k] (List.getElem?_eq_getElem hkl)
      have hfk := HF.out l[k] (List.getElem_mem hkl)
      generalize l[k] = x at *
      obtain ⟨ka, kc, va, vc, e⟩ := x
      have c0 : wr.cell? ⟨b, off + k * 4, none⟩ = some (.slice ka e.key.length kc) := hc 0 _ rfl
      have c1 : wr.cell? ⟨b, off + k * 4 + 1, none⟩ = some (.int .u64 (e.seq : Nat)) := hc 1 _ rfl
      have c2 : wr.cell? ⟨b, off + k * 4 + 2, none⟩ = some (.int .i64 e.kind) := hc 2 _ rfl
      have c3 : wr.cell? ⟨b, off + k * 4 + 3, none⟩ = some (.slice va e.val.length vc) := hc 3 _ rfl
      have b1 := (Below.refl wr.heap.size wr).alloc (Nat.le_refl _) (.cells #[.slice ka e.key.length kc, .int .u64 (e.seq : Nat), .int .i64 e.kind, .slice va e.val.length vc] 35)
      have hseq : e.seq ≤ 72057594037927935 := (chk1_fine hfk.1).2.1
      have HQ := hide (checkEntry_any e.seq (by omega) e.kind ka va e.key.length kc e.val.length vc e.key e.val _ (Bytes.below k1 b1) (Bytes.below k2 b1) (smol_one hfk.1))
      have hz : chk e.seq [(e.kind, e.key, e.val)] = 0 := hfk.1
      rw [hz] at HQ
      have B1 := hide (hbw.trans (b1.mono hsz))
      have B1' := hide b1.size
      clear hc k1 k2 tt hbw b1 hz hfk hseq
      go_wp2_with fail
      refine HQ.out.mono ?_
      rintro e w2 ⟨rfl, b2⟩
      have B2 := hide (B1.out.trans (b2.mono (Nat.le_trans hsz B1'.out)))
      clear b2 HQ
      go_wp2_with fail
      go_roundw
      case rel => exact ⟨k + 1, by go_num, by omega, B2.out⟩
      case measure => simp [intOf]; omega
    · have i1 : ¬ (k : Int) < n := by omega
      by_cases h0 : n = 0
      · subst h0
        have hl : l = [] := List.eq_nil_of_length_eq_zero HL.out.symm
        have hv : chkL (ents l) = 2 := by rw [hl]; rfl
        have HV := hide hv
        clear hv hl
        go_wp2_with fail
        go_ret
        exact ⟨by rw [HV.out]; rfl, BW.out⟩
      · have h0' : ¬ (n : Int) = 0 := by omega
        have HQ := hide (inOrder_any a n c l wr (HA.out.quiet tt) HL.out hmx)
        have hne : ents l ≠ [] := by
          intro q
          have : (ents l).length = 0 := by rw [q]; rfl
          simp only [ents, List.length_map] at this
          have := HL.out
          omega
        have HV := hide (show chkL (ents l) = if inOrd (ents l) = false then 2 else 0 by
          unfold chkL
          by_cases q : inOrd (ents l) = false
          · rw [if_pos (.inr q), if_pos q]
          · rw [if_neg (fun x => x.elim hne q), if_neg q])
        clear tt hne hbw
        go_wp2_with fail
        refine HQ.out.mono ?_
        rintro e w2 ⟨rfl, b2⟩
        have B2 := hide (BW.out.trans (b2.mono hsz))
        clear b2 HQ
        generalize hv : inOrd (ents l) = v at *
        cases v
        all_goals go_wp2_with fail
        all_goals go_ret
        all_goals exact ⟨by rw [HV.out]; rfl, B2.out⟩
theorem lastK_prev (l : List Tow) : ∀ k, k ≤ l.length → lastK [] (ents (l.take k)) = prevK l k
  | 0, _ => rfl
  | k + 1, h => by
    have hk : k < l.length := by omega
    rw [List.take_succ_eq_append_getElem hk, ents, List.map_append, List.map_cons, List.map_nil, lastK_snoc]
    simp [prevK, hk]
/-- How many bytes the first entries' block has. -/
def szK (l : List Tow) (k : Nat) : Nat := 4 + 4 * (mk (ents (l.take k))).length + (rowB 0 [] (ents (l.take k))).length
theorem szK_succ (l : List Tow) (k : Nat) (h : k < l.length) : szK l (k + 1) = szK l k + (if k % 16 = 0 then 4 else 0) + (entB (shr k (prevK l k) l[k].e.key) l[k].e).length := by
  have e : ents (l.take (k + 1)) = ents (l.take k) ++ [l[k].e] := by rw [List.take_succ_eq_append_getElem h, ents, List.map_append]; rfl
  have hl : (ents (l.take k)).length = k := by simp [ents]; omega
  unfold szK mk
  rw [e, marks_snoc, rowB_snoc, hl, Nat.zero_add, lastK_prev l k (by omega), List.length_append, List.length_append]
  split
  · simp only [List.length_singleton]; omega
  · simp only [List.length_nil]; omega
theorem szK_le (l : List Tow) (hf : Good l) (k : Nat) : szK l k ≤ 4 + 44 * l.length + wt (ents l) := by
  have h1 := rowB_le (ents (l.take k)) 0 [] fun e he => by
    obtain ⟨x, hx, rfl⟩ := List.mem_map.1 he
    exact (hf x (List.mem_of_mem_take hx)).1
  have h2 := mk_len (ents (l.take k))
  have h3 : (ents (l.take k)).length ≤ l.length := by simp [ents]; omega
  have h4 : wt (ents (l.take k)) ≤ wt (ents l) := by
    have : wt (ents l) = wt (ents (l.take k)) + wt (ents (l.drop k)) := by
      have h5 : ents l = ents (l.take k) ++ ents (l.drop k) := by rw [ents, ents, ents, ← List.map_append, List.take_append_drop]
      rw [h5]
      simp [wt]
    omega
  unfold szK
  omega
theorem size_all (a : Option Addr) (n c : Nat) (l : List Tow) (w : World) (h : Ents w a l) (hn : n = l.length) (hmx : n ≤ 1000) (hw : wt (ents l) ≤ 1000000) (hf : Good l) :
    Calls Tryz.prog 150 #[.slice a n c] w fun e w' => e = .returned (.int .i64 ((blkB (ents l)).length : Nat)) ∧ Below w.heap.size w w' := by
  have HL := hide hn
  have HA := hide h
  have HF := hide hf
  have HSZ := hide (fun k => szK_le l hf k)
  generalize hB : w.heap.size = B
  have HB := hide hB
  clear hn h hB hf
  go_enter Tryz.func150, Tryz.ntmps150
  go_wp2_with fail
  go_loopw [3, 8] (fun sv iv wr => ∃ k : Nat, sv = .int .i64 (szK l k : Nat) ∧ iv = .int .i64 (k : Nat) ∧ k ≤ n ∧ Below B w wr) (fun _ iv _ => n - (intOf iv).toNat)
  case atStart => exact ⟨0, rfl, rfl, by omega, Below.refl _ _⟩
  case round =>
    obtain ⟨k, rfl, rfl, hk, hbw⟩ := hrel
    have BW := hide hbw
    have tt := Turns.of_below (show Below w.heap.size w wr by rw [HB.out]; exact hbw) (fun _ => False)
    have hsz : B ≤ wr.heap.size := by have := tt.size; have := HB.out; omega
    have hle := HSZ.out k
    have hll := HL.out
    have hle2 : szK l k ≤ 1100000 := by omega
    by_cases hk2 : k < n
    · have i1 : (k : Int) < n := by omega
      have i0 : (0 : Int) ≤ (k : Int) := by omega
      have hkl : k < l.length := by omega
      have HS := hide (szK_succ l k hkl)
      have hle3 := HSZ.out (k + 1)
      rw [HS.out] at hle3
      have henT := HA.out.quiet tt
      obtain ⟨⟨b, off, rfl, hc⟩, k1, k2⟩ := henT k l[k] (List.getElem?_eq_getElem hkl)
      have hfk := HF.out l[k] (List.getElem_mem hkl)
      have hxk : l[k]? = some l[k] := List.getElem?_eq_getElem hkl
      have hs := (shr_le k (prevK l k) l[k].e.key).2
      generalize l[k] = x at *
      have HES := hide (fun u => entrySize_any x hfk.1 _ hs u)
      have b1 := (Below.refl wr.heap.size wr).alloc (Nat.le_refl _) (.cells #[x.kv, .int .u64 (x.e.seq : Nat), .int .i64 x.e.kind, x.vv] 35)
      have HSH := hide (fun u (t : Turns (fun _ => False) wr u) => shared_any (some ⟨b, off, none⟩) n c l u (henT.quiet t) k x hxk HL.out (by omega) (fun y hy => by have := (chk1_fine (HF.out y hy).1).2.2.2.2.1; omega))
      have hnew := heap_alloc_new wr (.cells #[x.kv, .int .u64 (x.e.seq : Nat), .int .i64 x.e.kind, x.vv] 35)
      have TA := hide (Turns.of_below b1 (fun _ => False))
      have B1 := hide (hbw.trans (b1.mono hsz))
      have hsz1 : B ≤ (wr.alloc (.cells #[x.kv, .int .u64 (x.e.seq : Nat), .int .i64 x.e.kind, x.vv] 35)).heap.size := Nat.le_trans hsz b1.size
      generalize hEL : (entB (shr k (prevK l k) x.e.key) x.e).length = EL at *
      generalize hsh : shr k (prevK l k) x.e.key = s at *
      have HNEW := hide hnew
      obtain ⟨ka, kc, va, vc, e⟩ := x
      simp only [Tow.kv, Tow.vv] at *
      have c0 : wr.cell? ⟨b, off + k * 4, none⟩ = some (.slice ka e.key.length kc) := hc 0 _ rfl
      have c1 : wr.cell? ⟨b, off + k * 4 + 1, none⟩ = some (.int .u64 (e.seq : Nat)) := hc 1 _ rfl
      have c2 : wr.cell? ⟨b, off + k * 4 + 2, none⟩ = some (.int .i64 e.kind) := hc 2 _ rfl
      have c3 : wr.cell? ⟨b, off + k * 4 + 3, none⟩ = some (.slice va e.val.length vc) := hc 3 _ rfl
      have hEL2 : EL ≤ 2000000 := by omega
      clear hc k1 k2 tt hbw b1 hfk henT hxk hnew hle hle3 hs hsh hEL hll
      generalize szK l k = SZ at *
      by_cases hr : k % 16 = 0
      · go_wp2_with (first | (go_at_call 151; refine (isRestart_any k _).mono ?_; rintro e' w1 ⟨rfl, rfl⟩; rw [decide_eq_true hr]))
        generalize wr.alloc (.cells #[.slice ka e.key.length kc, .int .u64 (e.seq : Nat), .int .i64 e.kind, .slice va e.val.length vc] 35) = W at *
        have f0 : W.cell? ⟨wr.heap.size, 0, none⟩ = some (.slice ka e.key.length kc) := cell_of_row W _ 0 _ 35 (0, 0) HNEW.out
        have f1 : W.cell? ⟨wr.heap.size, 1, none⟩ = some (.int .u64 (e.seq : Nat)) := cell_of_row W _ 1 _ 35 (0, 0) HNEW.out
        have f2 : W.cell? ⟨wr.heap.size, 2, none⟩ = some (.int .i64 e.kind) := cell_of_row W _ 2 _ 35 (0, 0) HNEW.out
        have f3 : W.cell? ⟨wr.heap.size, 3, none⟩ = some (.slice va e.val.length vc) := cell_of_row W _ 3 _ 35 (0, 0) HNEW.out
        have HSH1 := hide (HSH.out W.drew TA.out.drew)
        generalize wr.heap.size = G at *
        go_region_held (fun w' => w'.cell? ⟨G, 0, none⟩ = some (.slice ka e.key.length kc) ∧ w'.cell? ⟨G, 1, none⟩ = some (.int .u64 (e.seq : Nat)) ∧ w'.cell? ⟨G, 2, none⟩ = some (.int .i64 e.kind) ∧ w'.cell? ⟨G, 3, none⟩ = some (.slice va e.val.length vc)) (first | (with_reducible exact ⟨p0, p1, p2, p3⟩) | (with_reducible exact ⟨q0, q1, q2, q3⟩) | (simp only [World.cell?_drew]; with_reducible exact ⟨f0, f1, f2, f3⟩)) (first
          | (go_at_call 153; refine HSH1.out.mono ?_; rintro y w2 ⟨rfl, m2, hw2⟩; have t2 : Turns (fun _ => False) W w2 := by rw [hw2]; exact (Turns.refl _ W).drew.drewN m2
             have q0 := t2.cell f0 (fun x => x); have q1 := t2.cell f1 (fun x => x); have q2 := t2.cell f2 (fun x => x); have q3 := t2.cell f3 (fun x => x); have T2 := hide t2; clear t2 hw2)
          | (go_at_call 182; refine (HES.out w2).mono ?_; rintro y w3 ⟨rfl, b3⟩; have t3 := T2.out.trans (Turns.of_below b3 (fun _ => False)); have p0 := t3.cell f0 (fun x => x); have p1 := t3.cell f1 (fun x => x); have p2 := t3.cell f2 (fun x => x); have p3 := t3.cell f3 (fun x => x); have T3 := hide t3; clear t3 b3))
        clear p0 p1 p2 p3 q0 q1 q2 q3
        go_wp2_with fail
        go_roundw
        case rel => exact ⟨k + 1, by rw [HS.out, if_pos hr, wrapI _ (by omega) (by omega)]; go_num, by go_num, by omega, B1.out.trans (T3.out.below hsz1 (fun _ h => h.elim))⟩
        case measure => simp [intOf]; omega
      · go_wp2_with (first | (go_at_call 151; refine (isRestart_any k _).mono ?_; rintro e' w1 ⟨rfl, rfl⟩; rw [decide_eq_false hr]))
        generalize wr.alloc (.cells #[.slice ka e.key.length kc, .int .u64 (e.seq : Nat), .int .i64 e.kind, .slice va e.val.length vc] 35) = W at *
        have f0 : W.cell? ⟨wr.heap.size, 0, none⟩ = some (.slice ka e.key.length kc) := cell_of_row W _ 0 _ 35 (0, 0) HNEW.out
        have f1 : W.cell? ⟨wr.heap.size, 1, none⟩ = some (.int .u64 (e.seq : Nat)) := cell_of_row W _ 1 _ 35 (0, 0) HNEW.out
        have f2 : W.cell? ⟨wr.heap.size, 2, none⟩ = some (.int .i64 e.kind) := cell_of_row W _ 2 _ 35 (0, 0) HNEW.out
        have f3 : W.cell? ⟨wr.heap.size, 3, none⟩ = some (.slice va e.val.length vc) := cell_of_row W _ 3 _ 35 (0, 0) HNEW.out
        have HSH1 := hide (HSH.out W.drew TA.out.drew)
        generalize wr.heap.size = G at *
        go_region_held (fun w' => w'.cell? ⟨G, 0, none⟩ = some (.slice ka e.key.length kc) ∧ w'.cell? ⟨G, 1, none⟩ = some (.int .u64 (e.seq : Nat)) ∧ w'.cell? ⟨G, 2, none⟩ = some (.int .i64 e.kind) ∧ w'.cell? ⟨G, 3, none⟩ = some (.slice va e.val.length vc)) (first | (with_reducible exact ⟨p0, p1, p2, p3⟩) | (with_reducible exact ⟨q0, q1, q2, q3⟩) | (simp only [World.cell?_drew]; with_reducible exact ⟨f0, f1, f2, f3⟩)) (first
          | (go_at_call 153; refine HSH1.out.mono ?_; rintro y w2 ⟨rfl, m2, hw2⟩; have t2 : Turns (fun _ => False) W w2 := by rw [hw2]; exact (Turns.refl _ W).drew.drewN m2
             have q0 := t2.cell f0 (fun x => x); have q1 := t2.cell f1 (fun x => x); have q2 := t2.cell f2 (fun x => x); have q3 := t2.cell f3 (fun x => x); have T2 := hide t2; clear t2 hw2)
          | (go_at_call 182; refine (HES.out w2).mono ?_; rintro y w3 ⟨rfl, b3⟩; have t3 := T2.out.trans (Turns.of_below b3 (fun _ => False)); have p0 := t3.cell f0 (fun x => x); have p1 := t3.cell f1 (fun x => x); have p2 := t3.cell f2 (fun x => x); have p3 := t3.cell f3 (fun x => x); have T3 := hide t3; clear t3 b3))
        clear p0 p1 p2 p3 q0 q1 q2 q3
        go_wp2_with fail
        go_roundw
        case rel => exact ⟨k + 1, by rw [HS.out, if_neg hr, wrapI _ (by omega) (by omega)]; go_num, by go_num, by omega, B1.out.trans (T3.out.below hsz1 (fun _ h => h.elim))⟩
        case measure => simp [intOf]; omega
    · have i1 : ¬ (k : Int) < n := by omega
      obtain rfl : k = n := by omega
      have HV := hide (show szK l k = (blkB (ents l)).length by rw [szK, List.take_of_length_le (by omega), blkB_len]; omega)
      clear hll hle hle2
      go_wp2_with fail
      go_ret
      exact ⟨by rw [← HV.out]; rfl, BW.out⟩
end Go.Proofs.YtjklbhdhjfifhaaGreat

/-
  Rows of numbers of one's own.
-/
namespace Go.Proofs.YtjklbhdhjfifhaaGreat
open Go.RowKit
set_option maxRecDepth 100000
set_option maxHeartbeats 4000000
theorem t3_size : Tryz.t3.size = 1 := by kernel_rfl
theorem t3_bytes : Tryz.t3.bytes = 8 := by kernel_rfl
theorem t3_info : Tryz.prog.info? 3 = some Tryz.t3 := by kernel_rfl
theorem t3_zero : Tryz.t3.zero = some (.int .i64 0) := by kernel_rfl
def intCells (R : List Nat) : List Value := R.map fun x => .int .i64 (x : Nat)
/-- Numbers in a row of one's own. -/
def IRow (w : World) (B : Nat) (v : Value) (R : List Nat) : Prop :=
  (R = [] ∧ v = .slice none 0 0) ∨ ∃ g c n : Nat, v = .slice (some ⟨g, 0, none⟩) n c ∧ n = R.length ∧ n ≤ c ∧ B ≤ g ∧ RowC w g 3 c (intCells R)
theorem IRow.row {w : World} {B : Nat} {v : Value} {R : List Nat} (h : IRow w B v R) {k : Nat} (hk : inRow v k) : B ≤ k ∧ k < w.heap.size := by
  obtain ⟨n', c', e⟩ := hk
  rcases h with ⟨_, rfl⟩ | ⟨g, c, n, rfl, _, _, hB, cs, h1, _⟩
  · cases e
  · cases e; exact ⟨hB, lt_of_heap h1⟩
theorem IRow.keep {S : Nat → Prop} {w w' : World} {B : Nat} {v : Value} {R : List Nat} (h : IRow w B v R) (t : Turns S w w') (hn : ∀ k, inRow v k → ¬ S k) : IRow w' B v R := by
  rcases h with h | ⟨g, c, n, h1, h2, h3, h4, cs, h5, h6, h7⟩
  · exact .inl h
  · exact .inr ⟨g, c, n, h1, h2, h3, h4, cs, t.heap h5 (hn g ⟨n, c, h1⟩), h6, h7⟩
theorem IRow.at {w : World} {B : Nat} {v : Value} {R : List Nat} (h : IRow w B v R) : IntsAt w v R := by
  rcases h with ⟨rfl, rfl⟩ | ⟨g, c, n, rfl, rfl, _, _, cs, h1, _, h3⟩
  · exact ⟨none, 0, rfl, fun k x hx => by simp at hx⟩
  · refine ⟨_, c, rfl, fun k x hx => ⟨g, 0, rfl, ?_⟩⟩
    have hk := (List.getElem?_eq_some_iff.1 hx).1
    rw [Nat.zero_add, cell_of_row w g k cs 3 (0, 0) h1, h3 k (by simpa [intCells] using hk)]
    simp [intCells, hx]
theorem IRow.len {w : World} {B : Nat} {v : Value} {R : List Nat} (h : IRow w B v R) : ∃ a c, v = .slice a R.length c := by
  rcases h with ⟨rfl, rfl⟩ | ⟨g, c, n, rfl, rfl, _⟩
  · exact ⟨none, 0, rfl⟩
  · exact ⟨_, _, rfl⟩
theorem append_int (w : World) (B : Nat) (v : Value) (R : List Nat) (h : IRow w B v R) (hB : B ≤ w.heap.size) (hlen : R.length ≤ 1000000000) (x : Nat) :
    ∃ (g' n' c' : Nat) (w' : World), (∀ ty, (Builtin.append_ #[168, 168] ty #[v, .slice (some ⟨w.heap.size, 0, none⟩) 1 1]).run Tryz.prog (w.alloc (.cells #[.int .i64 (x : Nat)] 3)) = .ok (.slice (some ⟨g', 0, none⟩) n' c') w') ∧ IRow w' B (.slice (some ⟨g', 0, none⟩) n' c') (R ++ [x]) ∧ Turns (inRow v) w w' ∧ Below B w w' ∧ (inRow v g' ∨ w.heap.size ≤ g') := by
  have b0 := (Below.refl w.heap.size w).alloc (Nat.le_refl _) (.cells #[.int .i64 (x : Nat)] 3)
  have hg := heap_alloc_new w (.cells #[.int .i64 (x : Nat)] 3)
  have h1 := h.keep (Turns.of_below b0 (fun _ => False)) (fun _ _ x => x)
  have hsz : (w.alloc (.cells #[.int .i64 (x : Nat)] 3)).heap.size = w.heap.size + 1 := by simp
  generalize w.alloc (.cells #[.int .i64 (x : Nat)] 3) = w0 at *
  have hcell : ∀ j, w0.cell? ⟨w.heap.size, j, none⟩ = (#[.int .i64 (x : Nat)] : Array Value)[j]? := fun j => cell_of_row w0 _ j _ 3 (0, 0) hg
  have hsrc : Src Tryz.prog Tryz.t3.size 168 (.slice (some ⟨w.heap.size, 0, none⟩) 1 1) 1 [.int .i64 (x : Nat)] w0 := Src.ofSlice w0 Tryz.underlying168 ⟨w.heap.size, 0, none⟩ 1 1 _ (by rw [t3_size]; rfl) (fun j u hu => by
    rw [Go.WideShapes.add_plain, Nat.zero_add, hcell j]
    simpa using hu) (fun u hu => by
    simp only [List.mem_cons, List.not_mem_nil, or_false] at hu
    subst hu; rfl)
  obtain ⟨base, sLen, sCap, rfl, hsl, hbase⟩ : ∃ (base : Option Addr) (sLen sCap : Nat), v = .slice base sLen sCap ∧ sLen = R.length ∧ ((base = none ∧ sLen = 0 ∧ sCap = 0 ∧ 0 < 1) ∨ ∃ g, base = some ⟨g, 0, none⟩ ∧ B ≤ g ∧ sLen ≤ sCap ∧ RowC w0 g 3 (sCap * Tryz.t3.size) (intCells R)) := by
    rcases h1 with ⟨rfl, rfl⟩ | ⟨g, c, n, rfl, rfl, h3, h4, h5⟩
    · exact ⟨none, 0, 0, rfl, rfl, .inl ⟨rfl, rfl, rfl, by omega⟩⟩
    · exact ⟨_, _, _, rfl, rfl, .inr ⟨g, rfl, h4, h3, by rw [t3_size, Nat.mul_one]; exact h5⟩⟩
  obtain ⟨g', cp, w', hr, hg', hrow, hb, hcp, hin, hnew, hkeep⟩ := append_gen2 (P := Tryz.prog) w0 B 168 3 Tryz.t3 _ Tryz.underlying168 t3_info t3_zero rfl base sLen sCap (intCells R) (by rw [t3_size, hsl]; simp [intCells]) _ 1 _ hsrc (by omega) hbase (by rw [t3_bytes]; omega) (by omega)
  refine ⟨g', _, cp, w', hr, .inr ⟨g', cp, _, rfl, by simp [hsl], hcp, hg', ?_⟩, ?_, (b0.mono hB).trans hb, ?_⟩
  · rw [t3_size, Nat.mul_one] at hrow
    rw [show intCells (R ++ [x]) = intCells R ++ [.int .i64 (x : Nat)] by simp [intCells]]
    exact hrow
  · refine (Turns.of_below b0 _).trans ⟨hb.os, hb.tape, hb.output, hb.size, fun k hk hn => hkeep k hk fun e => hn ⟨sLen, sCap, by rw [e]⟩⟩
  · rcases Nat.lt_or_ge sCap (sLen + 1) with h1 | h1
    · exact .inr (by have := hnew h1; omega)
    · exact .inl ⟨sLen, sCap, by rw [(hin h1).1]⟩
end Go.Proofs.YtjklbhdhjfifhaaGreat

/-
  Append of a block with nothing ahead.
-/
namespace Go.Proofs.YtjklbhdhjfifhaaGreat
open Go.RowKit
set_option maxRecDepth 100000
set_option maxHeartbeats 8000000
theorem lt_of_row {w : World} {g c : Nat} {bs : List (BitVec 8)} (h : RowB w g c bs) : g < w.heap.size := by
  obtain ⟨cs, h1, _⟩ := h
  exact lt_of_heap h1
def apOk (w : World) (es : List Ent) (e : Ending) (w' : World) : Prop :=
  ∃ g c, e = .returned (.tuple #[.slice (some ⟨g, 0, none⟩) (blkB es).length c, .int .i64 0]) ∧ w.heap.size ≤ g ∧ (blkB es).length ≤ c ∧ RowB w' g c (blkB es)
theorem append_ok (a : Option Addr) (n c : Nat) (l : List Tow) (w : World) (h : Ents w a l) (hn : n = l.length) (hmx : n ≤ 1000) (hw : wt (ents l) ≤ 100000) (hf : Good l) (hc : chkL (ents l) = 0) :
    Calls Tryz.prog 109 #[.slice none 0 0, .slice a n c] w fun e w' => apOk w (ents l) e w' ∧ Below w.heap.size w w' := by
  have HQ := hide (check_all a n c l w h hn (by omega) hf)
  rw [hc] at HQ
  have HS := hide (fun u (t : Turns (fun _ => False) w u) => size_all a n c l u (h.quiet t) hn hmx (by omega) hf)
  have hblk : (blkB (ents l)).length ≤ 200000 := by
    have h1 := szK_le l hf n
    rw [szK, List.take_of_length_le (by omega)] at h1
    rw [blkB_len]
    omega
  have HL := hide hn
  have HA := hide h
  have HF := hide hf
  have HBL := hide (blkB_len (ents l))
  clear h hf hc hn
  generalize hB : w.heap.size = B
  have HB := hide hB
  clear hB
  generalize hLn : (blkB (ents l)).length = LEN at *
  have HLN := hide hLn
  clear hLn
  go_enter Tryz.func109, Tryz.ntmps109
  go_wp2_with fail
  refine HQ.out.mono ?_
  rintro e w1 ⟨rfl, b1⟩
  have T1 := hide (Turns.of_below b1 (fun _ => False))
  clear b1 HQ
  go_wp2_with fail
  refine (HS.out w1 T1.out).mono ?_
  rintro e w2 ⟨rfl, b2⟩
  have T2 := hide (T1.out.trans (Turns.of_below b2 (fun _ => False)))
  have hlt : ¬ (262144 : Int) < (LEN : Int) := by omega
  clear b2 T1
  obtain ⟨cs, hmk, hcs⟩ := make22 LEN (by omega) w2
  obtain ⟨g, cg, w3, hr, hg, hrow, hb3, hcg, hroom, _⟩ := append_bytes2 (w2.alloc (.cells cs 5)) w2.heap.size (some ⟨w2.heap.size, 0, none⟩) 0 LEN [] rfl (.slice none 0 0) [] 0 rfl (Bytes.empty _) (by simp)
    (.inr ⟨_, rfl, Nat.le_refl _, Nat.zero_le _, row_made hcs⟩) (by omega)
  obtain ⟨e1, rfl⟩ := hroom (by omega)
  obtain rfl : g = w2.heap.size := by cases e1; rfl
  rw [Nat.add_zero] at hr
  have T3 := hide (T2.out.trans (Turns.of_below (((Below.refl w2.heap.size w2).alloc (Nat.le_refl _) _).trans hb3) (fun _ => False)))
  have HA := hide hr
  have ROW := hide hrow
  have hw2 := T2.out.size
  rw [HB.out] at hw2
  generalize hG : w2.heap.size = G at *
  clear hcs hr hrow hb3 hroom e1 hcg hG
  go_wp2_with (at_builtin; refine wpList_append_run rfl (.tmp 25) (.tmp 26) 28 rfl (.slice (some ⟨G, 0, none⟩) 0 cg) (.slice none 0 0) rfl rfl _ _ (HA.out _) ?_)
  clear HA hmk
  go_loopw [8, 9, 30] (fun o rs i wr => ∃ (k g1 c1 m1 : Nat) (v : Value), o = .slice (some ⟨g1, 0, none⟩) m1 c1 ∧ rs = v ∧ i = .int .i64 (k : Nat) ∧ k ≤ n ∧ m1 = (rowB 0 [] (ents (l.take k))).length ∧ m1 ≤ c1 ∧ RowB wr g1 c1 (rowB 0 [] (ents (l.take k))) ∧ IRow wr B v (mk (ents (l.take k))) ∧ B ≤ g1 ∧ ¬ inRow v g1 ∧ Turns (fun _ => False) w wr) (fun _ _ i _ => n - (intOf i).toNat)
  case atStart => exact ⟨0, G, cg, 0, _, rfl, rfl, rfl, by omega, rfl, by omega, ROW.out, .inl ⟨rfl, rfl⟩, hw2, (fun ⟨_, _, q⟩ => by cases q), T3.out⟩
  case round =>
    obtain ⟨k, g1, c1, m1, _, rfl, rfl, rfl, hk, hm1, hmc1, hrow1, hI1, hg1, hni, ht⟩ := hrel
    have hll := HL.out
    have hml : m1 ≤ 200000 := by
      have h1 := szK_le l HF.out k
      unfold szK at h1
      omega
    have HM1 := hide hm1
    have HROW := hide hrow1
    have HIw := hide hI1
    have HNI := hide hni
    have HT := hide ht
    by_cases hk2 : k < n
    · have i1 : (k : Int) < n := by omega
      have i0 : (0 : Int) ≤ (k : Int) := by omega
      have hkl : k < l.length := by omega
      have henT := HA.out.quiet ht
      obtain ⟨⟨b, off, rfl, hc⟩, _, _⟩ := henT k l[k] (List.getElem?_eq_getElem hkl)
      obtain ⟨_, k1, k2⟩ := HA.out k l[k] (List.getElem?_eq_getElem hkl)
      have hfk := HF.out l[k] (List.getElem_mem hkl)
      have hxk : l[k]? = some l[k] := List.getElem?_eq_getElem hkl
      have hs := (shr_le k (prevK l k) l[k].e.key).2
      have HTE := hide (show ents (l.take (k + 1)) = ents (l.take k) ++ [l[k].e] by rw [List.take_succ_eq_append_getElem hkl, ents, List.map_append]; rfl)
      have HTL := hide (show (ents (l.take k)).length = k by simp [ents]; omega)
      have HRB := hide (show rowB 0 [] (ents (l.take (k + 1))) = rowB 0 [] (ents (l.take k)) ++ entB (shr k (prevK l k) l[k].e.key) l[k].e by rw [HTE.out, rowB_snoc, HTL.out, Nat.zero_add, lastK_prev l k (by omega)])
      generalize l[k] = x at *
      have HSH := hide (fun u (t : Turns (fun _ => False) w u) => shared_any (some ⟨b, off, none⟩) n c l u (HA.out.quiet t) k x hxk HL.out (by omega) (fun y hy => by have := (chk1_fine (HF.out y hy).1).2.2.2.2.1; omega))
      have HAE := hide (fun u (t : Turns (fun _ => False) w u) (r : RowB u g1 c1 (rowB 0 [] (ents (l.take k)))) => appendEntry_any g1 c1 _ m1 HM1.out x hfk.1 _ hs hfk.2 u hmc1 r (by omega)
        (fun w' t' => Bytes.below k1 ((t.andThen t' (S := fun _ => False) (fun j hj q => by have := HB.out; omega)).below (Nat.le_refl _) (fun _ q => q.elim)))
        (fun w' t' => Bytes.below k2 ((t.andThen t' (S := fun _ => False) (fun j hj q => by have := HB.out; omega)).below (Nat.le_refl _) (fun _ q => q.elim))))
      have b1 := (Below.refl wr.heap.size wr).alloc (Nat.le_refl _) (.cells #[x.kv, .int .u64 (x.e.seq : Nat), .int .i64 x.e.kind, x.vv] 35)
      have HBOX := hide (heap_alloc_new wr (.cells #[x.kv, .int .u64 (x.e.seq : Nat), .int .i64 x.e.kind, x.vv] 35))
      have TW := hide (HT.out.trans (Turns.of_below b1 (fun _ => False)))
      have HI1 := hide (hI1.keep (Turns.of_below b1 (fun _ => False)) (fun _ _ x => x))
      have HRW := hide (show RowB _ g1 c1 _ from RowC.below hrow1 b1)
      have hsW : (wr.alloc (.cells #[x.kv, .int .u64 (x.e.seq : Nat), .int .i64 x.e.kind, x.vv] 35)).heap.size = wr.heap.size + 1 := by simp
      have hBw : B ≤ wr.heap.size := by have := HT.out.size; have := HB.out; omega
      have hG01 : ¬ wr.heap.size = g1 := by have := lt_of_row hrow1; omega
      generalize hEL : (entB (shr k (prevK l k) x.e.key) x.e).length = EL at *
      have HEL := hide hEL
      generalize hsh : shr k (prevK l k) x.e.key = s at *
      obtain ⟨ka, kc, va, vc, e⟩ := x
      simp only [Tow.kv, Tow.vv] at *
      have c0 : wr.cell? ⟨b, off + k * 4, none⟩ = some (.slice ka e.key.length kc) := hc 0 _ rfl
      have c1' : wr.cell? ⟨b, off + k * 4 + 1, none⟩ = some (.int .u64 (e.seq : Nat)) := hc 1 _ rfl
      have c2' : wr.cell? ⟨b, off + k * 4 + 2, none⟩ = some (.int .i64 e.kind) := hc 2 _ rfl
      have c3' : wr.cell? ⟨b, off + k * 4 + 3, none⟩ = some (.slice va e.val.length vc) := hc 3 _ rfl
      clear hc k1 k2 ht b1 hfk henT hxk hs hsh hEL hll hm1 hrow1 hI1 hni
      generalize hW : wr.alloc (.cells #[.slice ka e.key.length kc, .int .u64 (e.seq : Nat), .int .i64 e.kind, .slice va e.val.length vc] 35) = W at *
      by_cases hr16 : k % 16 = 0
      · obtain ⟨gr, nr, cr, w4, hr, hI4, t4, b4, hg4⟩ := append_int W B u9 _ HI1.out (by omega) (by rw [mk_len, HTL.out]; omega) m1
        rw [hsW] at hr
        have hrow4 := RowC.turns HRW.out t4 (fun q => HNI.out q)
        have hbox4 := t4.heap HBOX.out (fun q => by have := (HIw.out.row q).2; omega)
        have hT4 := TW.out.andThen t4 (fun j hj q => by have := (HIw.out.row q).1; have := HB.out; omega)
        have hni4 : ¬ inRow (.slice (some ⟨gr, 0, none⟩) nr cr) g1 := fun q => by
          obtain ⟨n', c', e⟩ := q
          cases e
          rcases hg4 with q | q
          · exact HNI.out q
          · have := lt_of_row HROW.out; omega
        have hmk : mk (ents (l.take k)) ++ [m1] = mk (ents (l.take (k + 1))) := by
          rw [HTE.out, mk, mk, marks_snoc, HTL.out, Nat.zero_add, if_pos hr16, Nat.zero_add, HM1.out]
        rw [hmk] at hI4
        have hbox1 := hbox4
        have HA := hide hr
        have HROW4 := hide (show RowB w4 g1 c1 _ from hrow4)
        have HI4 := hide hI4
        have HT4 := hide hT4
        have HNI4 := hide hni4
        have HSZ4 := hide t4.size
        have f0 : w4.cell? ⟨wr.heap.size, 0, none⟩ = some (.slice ka e.key.length kc) := cell_of_row w4 _ 0 _ 35 (0, 0) hbox4
        have f1 : w4.cell? ⟨wr.heap.size, 1, none⟩ = some (.int .u64 (e.seq : Nat)) := cell_of_row w4 _ 1 _ 35 (0, 0) hbox4
        have f2 : w4.cell? ⟨wr.heap.size, 2, none⟩ = some (.int .i64 e.kind) := cell_of_row w4 _ 2 _ 35 (0, 0) hbox4
        have f3 : w4.cell? ⟨wr.heap.size, 3, none⟩ = some (.slice va e.val.length vc) := cell_of_row w4 _ 3 _ 35 (0, 0) hbox4
        clear hr hI4 t4 b4 hg4 hrow4 hbox4 hT4 hni4 hmk hbox1
        go_wp2_with (first
          | (go_at_call 151; refine (isRestart_any k _).mono ?_; rintro e' w1' ⟨rfl, rfl⟩; rw [decide_eq_true hr16])
          | (at_builtin; refine wpList_append_run rfl (.tmp 37) (.tmp 43) 168 rfl u9 (.slice (some ⟨wr.heap.size + 1, 0, none⟩) 1 1) rfl rfl _ _ (HA.out _) ?_))
        generalize (.slice (some ⟨gr, 0, none⟩) nr cr : Value) = v4 at *
        have HSH1 := hide (HSH.out w4.drew HT4.out.drew)
        generalize wr.heap.size = G0 at *
        go_region_held (fun w' => w'.cell? ⟨G0, 0, none⟩ = some (.slice ka e.key.length kc) ∧ w'.cell? ⟨G0, 1, none⟩ = some (.int .u64 (e.seq : Nat)) ∧ w'.cell? ⟨G0, 2, none⟩ = some (.int .i64 e.kind) ∧ w'.cell? ⟨G0, 3, none⟩ = some (.slice va e.val.length vc)) (first | (with_reducible exact ⟨p0, p1, p2, p3⟩) | (with_reducible exact ⟨q0, q1, q2, q3⟩) | (simp only [World.cell?_drew]; with_reducible exact ⟨f0, f1, f2, f3⟩)) (first
          | (go_at_call 153; refine HSH1.out.mono ?_; rintro y w5 ⟨rfl, m2, hw5⟩; have t5 : Turns (fun _ => False) w4 w5 := by rw [hw5]; exact (Turns.refl _ w4).drew.drewN m2
             have q0 := t5.cell f0 (fun x => x); have q1 := t5.cell f1 (fun x => x); have q2 := t5.cell f2 (fun x => x); have q3 := t5.cell f3 (fun x => x); have T5 := hide t5; clear t5 hw5)
          | (go_at_call 152; refine (HAE.out w5 (HT4.out.trans T5.out) (RowC.turns HROW4.out T5.out (fun x => x))).mono ?_; rintro y w6 ⟨g2, c2, rfl, hc2, hrow6, hg6⟩; have p0 := hg6.turns.cell q0 hG01; have p1 := hg6.turns.cell q1 hG01; have p2 := hg6.turns.cell q2 hG01; have p3 := hg6.turns.cell q3 hG01; have HG6 := hide hg6; have HR6 := hide hrow6; clear hg6 hrow6))
        clear p0 p1 p2 p3 q0 q1 q2 q3
        go_wp2_with fail
        go_roundw
        case rel =>
          have hT6 := (HT4.out.trans T5.out).andThen HG6.out.turns (fun j hj q => by have := HB.out; omega)
          refine ⟨k + 1, g2, c2, m1 + EL, v4, rfl, rfl, by go_num, by omega, ?_, hc2, ?_, ?_, ?_, ?_, hT6⟩
          · rw [HRB.out, List.length_append, ← HM1.out, HEL.out]
          · rw [HRB.out]; exact HR6.out
          · exact (HI4.out.keep T5.out (fun _ _ x => x)).keep HG6.out.turns (fun j hj q => HNI4.out (by rw [← q]; exact hj))
          · have h9 := T5.out.size
            have h8 := HT4.out.size
            have h7 := HB.out
            rcases HG6.out.own with q | q <;> omega
          · intro q
            have h9 := T5.out.size
            rcases HG6.out.own with q' | q'
            · rw [q'] at q; exact HNI4.out q
            · have := (HI4.out.row q).2; omega
        case measure => simp [intOf]; omega
      · have hmk : mk (ents (l.take k)) = mk (ents (l.take (k + 1))) := by
          rw [HTE.out, mk, mk, marks_snoc, HTL.out, Nat.zero_add, if_neg hr16, List.append_nil]
        have hI4 := HI1.out
        rw [hmk] at hI4
        have HI4 := hide hI4
        have HROW4 := hide HRW.out
        have HT4 := hide TW.out
        have HNI4 := hide HNI.out
        have HSZ4 := hide (Nat.le_refl W.heap.size)
        have f0 : W.cell? ⟨wr.heap.size, 0, none⟩ = some (.slice ka e.key.length kc) := cell_of_row W _ 0 _ 35 (0, 0) HBOX.out
        have f1 : W.cell? ⟨wr.heap.size, 1, none⟩ = some (.int .u64 (e.seq : Nat)) := cell_of_row W _ 1 _ 35 (0, 0) HBOX.out
        have f2 : W.cell? ⟨wr.heap.size, 2, none⟩ = some (.int .i64 e.kind) := cell_of_row W _ 2 _ 35 (0, 0) HBOX.out
        have f3 : W.cell? ⟨wr.heap.size, 3, none⟩ = some (.slice va e.val.length vc) := cell_of_row W _ 3 _ 35 (0, 0) HBOX.out
        clear hI4 hmk
        go_wp2_with (first
          | (go_at_call 151; refine (isRestart_any k _).mono ?_; rintro e' w1' ⟨rfl, rfl⟩; rw [decide_eq_false hr16]))
        generalize u9 = v4 at *
        have HSH1 := hide (HSH.out w1'.drew HT4.out.drew)
        generalize wr.heap.size = G0 at *
        go_region_held (fun w' => w'.cell? ⟨G0, 0, none⟩ = some (.slice ka e.key.length kc) ∧ w'.cell? ⟨G0, 1, none⟩ = some (.int .u64 (e.seq : Nat)) ∧ w'.cell? ⟨G0, 2, none⟩ = some (.int .i64 e.kind) ∧ w'.cell? ⟨G0, 3, none⟩ = some (.slice va e.val.length vc)) (first | (with_reducible exact ⟨p0, p1, p2, p3⟩) | (with_reducible exact ⟨q0, q1, q2, q3⟩) | (simp only [World.cell?_drew]; with_reducible exact ⟨f0, f1, f2, f3⟩)) (first
          | (go_at_call 153; refine HSH1.out.mono ?_; rintro y w5 ⟨rfl, m2, hw5⟩; have t5 : Turns (fun _ => False) w1' w5 := by rw [hw5]; exact (Turns.refl _ w1').drew.drewN m2
             have q0 := t5.cell f0 (fun x => x); have q1 := t5.cell f1 (fun x => x); have q2 := t5.cell f2 (fun x => x); have q3 := t5.cell f3 (fun x => x); have T5 := hide t5; clear t5 hw5)
          | (go_at_call 152; refine (HAE.out w5 (HT4.out.trans T5.out) (RowC.turns HROW4.out T5.out (fun x => x))).mono ?_; rintro y w6 ⟨g2, c2, rfl, hc2, hrow6, hg6⟩; have p0 := hg6.turns.cell q0 hG01; have p1 := hg6.turns.cell q1 hG01; have p2 := hg6.turns.cell q2 hG01; have p3 := hg6.turns.cell q3 hG01; have HG6 := hide hg6; have HR6 := hide hrow6; clear hg6 hrow6))
        clear p0 p1 p2 p3 q0 q1 q2 q3
        go_wp2_with fail
        go_roundw
        case rel =>
          have hT6 := (HT4.out.trans T5.out).andThen HG6.out.turns (fun j hj q => by have := HB.out; omega)
          refine ⟨k + 1, g2, c2, m1 + EL, v4, rfl, rfl, by go_num, by omega, ?_, hc2, ?_, ?_, ?_, ?_, hT6⟩
          · rw [HRB.out, List.length_append, ← HM1.out, HEL.out]
          · rw [HRB.out]; exact HR6.out
          · exact (HI4.out.keep T5.out (fun _ _ x => x)).keep HG6.out.turns (fun j hj q => HNI4.out (by rw [← q]; exact hj))
          · have h9 := T5.out.size
            have h8 := HT4.out.size
            have h7 := HB.out
            rcases HG6.out.own with q | q <;> omega
          · intro q
            have h9 := T5.out.size
            rcases HG6.out.own with q' | q'
            · rw [q'] at q; exact HNI4.out q
            · have := (HI4.out.row q).2; omega
        case measure => simp [intOf]; omega
    · have i1 : ¬ (k : Int) < n := by omega
      obtain rfl : k = n := by omega
      obtain ⟨av, cv, rfl⟩ := hI1.len
      have hml2 : ∀ x ∈ mk (ents (l.take k)), x ≤ 1000000000 := fun x hx => by have := (marks_lt _ 0 0 [] x hx).2; rw [← hm1] at this; omega
      have hl16 : (mk (ents (l.take k))).length ≤ 100000 := by rw [mk_len]; simp [ents]; omega
      have HQ := hide (appendPlaces_any g1 c1 m1 _ hm1 av (mk (ents (l.take k))).length cv (mk (ents (l.take k))) wr hmc1 hrow1 hI1.at (fun x hx q => hni (by
        rcases hI1 with ⟨_, e⟩ | ⟨gg, cc, nn, e, _⟩
        · injection e with e1; rw [e1] at hx; cases hx
        · injection e with e1; rw [e1] at hx; cases hx; exact ⟨_, _, by rw [e1, ← q]⟩)) hl16 (by omega) hml2)
      have htk : l.take k = l := List.take_of_length_le (by omega)
      rw [htk] at HQ HM1
      rw [htk]
      clear hll hm1 hrow1 hI1 hni ht hml2 hl16 HROW HIw HNI
      generalize hNM : (mk (ents l)).length = NM at *
      have HNM := hide hNM
      clear hNM htk
      go_wp2_with fail
      refine HQ.out.mono ?_
      rintro e w6 ⟨g2, c2, rfl, hc2, hrow6, hg6⟩
      have HR6 := hide hrow6
      have HG6 := hide hg6
      clear hrow6 hg6 HQ
      go_wp2_with fail
      go_returns
      have hfin : m1 + 4 * NM + 4 = cg := by have h1 := HBL.out; have h2 := HM1.out; omega
      refine ⟨⟨g2, c2, ?_, ?_, ?_, ?_⟩, ?_⟩
      · rw [HLN.out, ← hfin]; rfl
      · have h1 := HG6.out.own; have h2 := HB.out; have h3 := HT.out.size; omega
      · rw [HLN.out, ← hfin]; exact hc2
      · rw [blkB, HNM.out]; exact HR6.out
      · have h2 := HB.out
        have h9 := HT.out.andThen HG6.out.turns (S := fun _ => False) (fun j hj q => by omega)
        exact h9.below (by omega) (fun _ q => q.elim)
end Go.Proofs.YtjklbhdhjfifhaaGreat

/-
  The document's order of entries, and which may be.
-/
namespace Go.Proofs.YtjklbhdhjfifhaaGreat
open Go.RowKit
set_option maxRecDepth 100000
set_option maxHeartbeats 4000000
end Go.Proofs.YtjklbhdhjfifhaaGreat

/-
  The document's Compare and CheckEntry.
-/
namespace Go.Proofs.YtjklbhdhjfifhaaGreat
open Go.RowKit
set_option maxRecDepth 100000
set_option maxHeartbeats 4000000
end Go.Proofs.YtjklbhdhjfifhaaGreat

/-
  The document's Row: are entries in order?
-/
namespace Go.Proofs.YtjklbhdhjfifhaaGreat
open Go.RowKit
set_option maxRecDepth 100000
set_option maxHeartbeats 4000000
end Go.Proofs.YtjklbhdhjfifhaaGreat

/-
  The document's CheckEntry.
-/
namespace Go.Proofs.YtjklbhdhjfifhaaGreat
open Go.RowKit
set_option maxRecDepth 100000
set_option maxHeartbeats 4000000
end Go.Proofs.YtjklbhdhjfifhaaGreat

/-
  What the laws share: Pick, Own.
-/
namespace Go.Proofs.YtjklbhdhjfifhaaGreat
open Go.RowKit
set_option maxRecDepth 100000
set_option maxHeartbeats 4000000
theorem own_any (a : Option Addr) (n c : Nat) (bs : List (BitVec 8)) (w : World) (h : Bytes w (.slice a n c) bs) (hn : n ≤ 1000000) :
    Calls Tryz.prog 38 #[.slice a n c] w fun e w' => ∃ g c', e = .returned (.slice (some ⟨g, 0, none⟩) n c') ∧ w.heap.size ≤ g ∧ n ≤ c' ∧ RowB w' g c' bs ∧ Below w.heap.size w w' := by
  have hl := h.len
  have hb : Below w.heap.size w (w.alloc (.cells #[] 5)) := (Below.refl _ _).alloc (Nat.le_refl _) _
  obtain ⟨g, c2, w2, hr, hg, hrow, hb2, hc, _⟩ := append_bytes2 (w.alloc (.cells #[] 5)) w.heap.size (some ⟨w.heap.size, 0, none⟩) 0 0 [] rfl (.slice a n c) bs n hl (h.below hb) (by simp)
    (.inr ⟨_, rfl, Nat.le_refl _, Nat.le_refl _, #[], heap_alloc_new w _, Nat.le_refl _, fun k hk => by simp [cellsOf] at hk⟩) (by omega)
  rw [Nat.zero_add] at hr hc
  rw [List.nil_append] at hrow
  have HR := hide hr
  have HW := hide hrow
  have HB := hide (hb.trans hb2)
  clear hr hrow hb hb2 h hl
  go_enter Tryz.func38, Tryz.ntmps38
  go_wp2_with (at_builtin; refine wpList_append_run rfl _ _ 28 rfl (.slice (some ⟨w.heap.size, 0, none⟩) 0 0) (.slice a n c) rfl rfl _ _ (HR.out _) ?_)
  go_ret
  exact ⟨g, c2, rfl, hg, hc, HW.out, HB.out⟩
end Go.Proofs.YtjklbhdhjfifhaaGreat

/-
  The reader's calls, whether it has an error or not.
-/
namespace Go.Proofs.YtjklbhdhjfifhaaGreat
open Go.RowKit
set_option maxRecDepth 100000
set_option maxHeartbeats 4000000
theorem new_any (a : Option Addr) (n c : Nat) (p : List (BitVec 8)) (w : World) (h : Bytes w (.slice a n c) p) (hn : n ≤ 1000000) :
    Calls Tryz.prog 96 #[.slice a n c] w fun e w' => ∃ r, e = .returned (.pointer (some ⟨r, 0, none⟩)) ∧ w.heap.size ≤ r ∧ r < w'.heap.size ∧ Rdr w' r p 0 0 ∧ Below w.heap.size w w' := by
  have hl := h.len
  have H := hide h
  have HL := hide hl
  clear h hl
  go_enter Tryz.func96, Tryz.ntmps96
  go_wp2_with fail
  refine (clone_any a n c p _ H.out hn).mono ?_
  rintro e w1 ⟨a1, c1, rfl, hb1, hk1, hc1, hn1, b1⟩
  have HB1 := hide hb1
  have HK1 := hide hk1
  have B1 := hide b1
  clear hb1 hk1 b1
  go_wp2_with fail
  go_ret
  have b2 := (Below.refl w1.heap.size w1).alloc (Nat.le_refl _) (.cells #[.slice a1 n c1, .int .i64 0, .bool true, .int .i64 0] 198)
  have n2 := heap_alloc_new w1 (.cells #[.slice a1 n c1, .int .i64 0, .bool true, .int .i64 0] 198)
  refine ⟨w1.heap.size, rfl, B1.out.size, by simp, ⟨a1, c1, ?_, ?_, by rw [← HL.out]; exact hc1, ?_, fun x e => (HK1.out x e).2⟩, B1.out.trans (b2.mono B1.out.size)⟩
  · rw [← HL.out]; exact n2
  · rw [← HL.out]; exact HB1.out.below b2
  · exact hn1
theorem leftR_any (r : Nat) (p : List (BitVec 8)) (i : Nat) (e : Int) (w : World) (h : Rdr w r p i e) (hp : p.length ≤ 1000000) (hi : i ≤ p.length) :
    Calls Tryz.prog 170 #[.pointer (some ⟨r, 0, none⟩)] w fun e' w' => e' = .returned (.int .i64 ((p.length - i : Nat) : Int)) ∧ ∃ m, w' = w.drewN m := by
  have H := hide h
  clear h
  go_enter Tryz.func170, Tryz.ntmps170
  go_wp2_with fail
  refine (made_any r p i e w H.out).mono ?_
  rintro e' w1 ⟨rfl, m, rfl⟩
  go_wp2_with fail
  refine (left_any r p i e (w.drewN m) (H.out.drewN m) hp hi).mono ?_
  rintro e' w2 ⟨rfl, m2, hw2⟩
  rw [World.drewN_drewN] at hw2
  subst hw2
  generalize hLd : p.length - i = L at *
  have HLd := hide hLd
  clear hLd
  go_wp2_with fail
  go_ret
  exact ⟨by rw [HLd.out]; rfl, _, rfl⟩
theorem atR_any (r : Nat) (p : List (BitVec 8)) (i : Nat) (e : Int) (w : World) (h : Rdr w r p i e) :
    Calls Tryz.prog 192 #[.pointer (some ⟨r, 0, none⟩)] w fun e' w' => e' = .returned (.int .i64 (i : Nat)) ∧ ∃ m, w' = w.drewN m := by
  obtain ⟨a, c, c0, c1, c2, c3⟩ := h.cells
  have H := hide h
  clear h
  go_enter Tryz.func192, Tryz.ntmps192
  go_wp2_with fail
  refine (made_any r p i e w H.out).mono ?_
  rintro e' w1 ⟨rfl, m, rfl⟩
  go_wp2_with fail
  go_ret
  exact ⟨rfl, m, rfl⟩
/-- What Number answers, where the reader stands then, and its error. -/
def numR (p : List (BitVec 8)) (i : Nat) (e : Int) : Nat × Nat × Int :=
  if e = 0 then match rdShort (p.drop i) with
    | .error z => (0, i, z)
    | .ok (x, k) => (x, i + k, 0)
  else (0, i, e)
theorem numR_le {p : List (BitVec 8)} {i : Nat} (e : Int) (h : i ≤ p.length) : (numR p i e).2.1 ≤ p.length := by
  unfold numR
  split
  · split
    · exact h
    · rename_i hq
      have := rdShort_le hq
      rw [List.length_drop] at this
      simp only
      omega
  · exact h
theorem numR_lt {p : List (BitVec 8)} {i : Nat} (e : Int) : (numR p i e).1 < 18446744073709551616 := by
  unfold numR
  split
  · split
    · exact Nat.zero_lt_succ _
    · rename_i hq
      exact rdShort_bound hq
  · exact Nat.zero_lt_succ _
theorem number_all (r : Nat) (p : List (BitVec 8)) (i : Nat) (z : Int) (w : World) (h : Rdr w r p i z) (hp : p.length ≤ 1000000) (hi : i ≤ p.length) :
    Calls Tryz.prog 97 #[.pointer (some ⟨r, 0, none⟩)] w fun e w' => e = .returned (.int .u64 ((numR p i z).1 : Nat)) ∧ Rdr w' r p (numR p i z).2.1 (numR p i z).2.2 ∧ Turns (fun j => j = r) w w' := by
  by_cases hz : z = 0
  · subst hz
    refine (number_ok r p i w h hp hi).mono ?_
    rintro e w' ⟨h1, h2⟩
    unfold numR
    rw [if_pos rfl]
    cases hq : rdShort (p.drop i) with
    | error q => rw [hq] at h1; exact ⟨h1.1, h1.2, h2⟩
    | ok xk => obtain ⟨x, k⟩ := xk; rw [hq] at h1; exact ⟨h1.1, h1.2, h2⟩
  · have hn : numR p i z = (0, i, z) := by rw [numR, if_neg hz]
    rw [hn]
    have H := hide h
    clear h
    go_enter Tryz.func97, Tryz.ntmps97
    go_wp2_with fail
    refine (ready_any r p i z w H.out).mono ?_
    rintro e w1 ⟨rfl, m, rfl⟩
    rw [decide_eq_false hz]
    go_wp2_with fail
    go_ret
    exact ⟨rfl, H.out.drewN m, turnsN _ _⟩
/-- What Fixed answers. -/
def FixOk (r : Nat) (p : List (BitVec 8)) (i m : Nat) (z : Int) (w : World) (e : Ending) (w' : World) : Prop :=
  (z = 0 ∧ m ≤ p.length - i ∧ ∃ a' c', e = .returned (.slice a' m c') ∧ Bytes w' (.slice a' m c') ((p.drop i).take m) ∧ (∀ x, a' = some x → w.heap.size ≤ x.block ∧ x.block < w'.heap.size) ∧ Rdr w' r p (i + m) 0) ∨
  (¬ (z = 0 ∧ m ≤ p.length - i) ∧ e = .returned (.slice none 0 0) ∧ ∃ z', z' ≠ 0 ∧ Rdr w' r p i z')
theorem fixed_all (r : Nat) (p : List (BitVec 8)) (i m : Nat) (z : Int) (w : World) (h : Rdr w r p i z) (hp : p.length ≤ 1000000) (hi : i ≤ p.length) :
    Calls Tryz.prog 202 #[.pointer (some ⟨r, 0, none⟩), .int .i64 (m : Nat)] w fun e w' => FixOk r p i m z w e w' ∧ Turns (fun j => j = r) w w' := by
  have H := hide h
  clear h
  by_cases hz : z = 0
  · subst hz
    by_cases hml : m ≤ p.length - i
    · go_enter Tryz.func202, Tryz.ntmps202
      go_wp2_with fail
      refine (ready_any r p i 0 w H.out).mono ?_
      rintro e w1 ⟨rfl, m1, rfl⟩
      rw [decide_eq_true rfl]
      go_wp2_with fail
      refine (left_any r p i 0 (w.drewN m1) (H.out.drewN m1) hp hi).mono ?_
      rintro e w2 ⟨rfl, m2, hw2⟩
      rw [World.drewN_drewN] at hw2
      subst hw2
      have H2 := hide (H.out.drewN (m1 + m2))
      have T2 := hide (turnsN (S := fun j => j = r) w (m1 + m2))
      have hsz : (w.drewN (m1 + m2)).heap.size = w.heap.size := rfl
      generalize w.drewN (m1 + m2) = w2 at *
      have hg : ¬ ((p.length - i : Nat) : Int) < (m : Int) := by omega
      have HI := hide hml
      clear hml
      generalize hLd : p.length - i = L at *
      have HLd := hide hLd
      clear hLd
      go_wp2_with fail
      refine (take_any r p i m 0 w2 H2.out hp (by have h1 := HI.out; have h2 := HLd.out; omega)).mono ?_
      rintro e w3 ⟨a3, c3, rfl, hb3, hk3, h3, t3⟩
      rw [hsz] at hk3
      have HB3 := hide hb3
      have HK3 := hide hk3
      have H3 := hide h3
      have T3 := hide (T2.out.trans t3)
      clear hb3 hk3 h3 t3 hsz
      go_wp2_with fail
      go_ret
      exact ⟨.inl ⟨rfl, by rw [HLd.out]; exact HI.out, a3, c3, rfl, HB3.out, HK3.out, H3.out⟩, T3.out⟩
    · go_enter Tryz.func202, Tryz.ntmps202
      go_wp2_with fail
      refine (ready_any r p i 0 w H.out).mono ?_
      rintro e w1 ⟨rfl, m1, rfl⟩
      rw [decide_eq_true rfl]
      go_wp2_with fail
      refine (left_any r p i 0 (w.drewN m1) (H.out.drewN m1) hp hi).mono ?_
      rintro e w2 ⟨rfl, m2, hw2⟩
      rw [World.drewN_drewN] at hw2
      subst hw2
      have H2 := hide (H.out.drewN (m1 + m2))
      have T2 := hide (turnsN (S := fun j => j = r) w (m1 + m2))
      generalize w.drewN (m1 + m2) = w2 at *
      have hg : ((p.length - i : Nat) : Int) < (m : Int) := by omega
      have HI := hide hml
      clear hml
      generalize hLd : p.length - i = L at *
      have HLd := hide hLd
      clear hLd
      have fz := H2.out.frozen
      obtain ⟨a, c, c0, c1, c2, c3⟩ := H2.out.cells
      go_wp2_with fail
      go_ret
      exact ⟨.inr ⟨fun q => HI.out (by rw [← HLd.out]; exact q.2), rfl, 12, by decide, H2.out.setErr 12⟩, T2.out.trans (turns_cell (Turns.refl (fun j => j = r) w2) 3 _)⟩
  · go_enter Tryz.func202, Tryz.ntmps202
    go_wp2_with fail
    refine (ready_any r p i z w H.out).mono ?_
    rintro e w1 ⟨rfl, m1, rfl⟩
    rw [decide_eq_false hz]
    go_wp2_with fail
    go_ret
    exact ⟨.inr ⟨fun q => hz q.1, rfl, z, hz, H.out.drewN m1⟩, turnsN _ _⟩
end Go.Proofs.YtjklbhdhjfifhaaGreat

/-
  An index's parts, read one behind the other.
-/
namespace Go.Proofs.YtjklbhdhjfifhaaGreat
open Go.RowKit
set_option maxRecDepth 100000
set_option maxHeartbeats 4000000
theorem number_L (r : Nat) (p rest : List (BitVec 8)) (x : Nat) (hx : x < 2 ^ 64) (w : World) (h : RdrL w r p (short x ++ rest) 0) (hp : p.length ≤ 1000000) :
    Calls Tryz.prog 97 #[.pointer (some ⟨r, 0, none⟩)] w fun e w' => e = .returned (.int .u64 (x : Nat)) ∧ RdrL w' r p rest 0 ∧ Turns (fun j => j = r) w w' := by
  obtain ⟨i, hi, hd, h⟩ := h
  refine (number_all r p i 0 w h hp hi).mono ?_
  rintro e w' ⟨rfl, h2, t2⟩
  have hn : numR p i 0 = (x, i + (short x).length, 0) := by
    unfold numR
    rw [if_pos rfl, hd, rdShort_short x hx rest]
  rw [hn] at h2 ⊢
  refine ⟨rfl, ⟨i + (short x).length, ?_, ?_, h2⟩, t2⟩
  · have h3 := congrArg List.length hd
    rw [List.length_drop, List.length_append] at h3
    omega
  · rw [← List.drop_drop, hd, List.drop_left]
theorem piece_L (r : Nat) (p rest q : List (BitVec 8)) (hq : q.length ≤ 1048576) (w : World) (h : RdrL w r p (pieceB q ++ rest) 0) (hp : p.length ≤ 1000000) :
    Calls Tryz.prog 99 #[.pointer (some ⟨r, 0, none⟩)] w fun e w' => (∃ a' c', e = .returned (.slice a' q.length c') ∧ Bytes w' (.slice a' q.length c') q ∧ ∀ x, a' = some x → w.heap.size ≤ x.block) ∧ RdrL w' r p rest 0 ∧ Turns (fun j => j = r) w w' := by
  refine (piece_any r p _ w h hp).mono ?_
  rintro e w' ⟨h1, t1⟩
  rw [rdPiece_ok q rest hq] at h1
  exact ⟨h1.1, h1.2, t1⟩
/-- No cell of these holds a byte. -/
def noU8 (cs : Array Value) : Prop := ∀ (k : Nat) (z : Int), cs[k]? ≠ some (Value.int .u8 z)
theorem rdrL_over {S : Nat → Prop} {w w' : World} {r b T : Nat} {p rest : List (BitVec 8)} {e : Int} {cs : Array Value} (h : RdrL w r p rest e) (hb : w.heap[b]? = some (.cells cs T (0, 0))) (hno : noU8 cs) (tt : Turns S w w') (hS : ∀ k, S k → k = b ∨ r < k) (hbr : b ≠ r) : RdrL w' r p rest e := by
  obtain ⟨i, hi, hd, a, c, h1, h2, h3, h4, h5⟩ := h
  have hr : ¬ S r := fun hs => (hS r hs).elim (fun e => hbr e.symm) (fun hl => Nat.lt_irrefl _ hl)
  refine ⟨i, hi, hd, a, c, tt.heap h1 hr, ?_, h3, h4, h5⟩
  obtain ⟨a2, c2, e2, h6⟩ := h2
  refine ⟨a2, c2, e2, fun k hk => ?_⟩
  obtain ⟨q, off, ea, hcell⟩ := h6 k hk
  refine ⟨q, off, ea, tt.cell hcell (fun hs => ?_)⟩
  rcases hS q hs with he | hl
  · subst he
    have h7 := cell_of_row w q (off + k) cs T (0, 0) hb
    rw [hcell] at h7
    exact hno _ _ h7.symm
  · have e3 : a = a2 := by cases e2; rfl
    have := h5 ⟨q, off, none⟩ (e3.trans ea)
    exact absurd this (by simp only; omega)
theorem err_L {w : World} {r : Nat} {p rest : List (BitVec 8)} {e : Int} (h : RdrL w r p rest e) : Calls Tryz.prog 142 #[.pointer (some ⟨r, 0, none⟩)] w fun e' w' => e' = .returned (.int .i64 e) ∧ ∃ m, w' = w.drewN m := by
  obtain ⟨i, _, _, h⟩ := h
  exact err_any r p i e w h
theorem RdrL.quiet {w w' : World} {r : Nat} {p rest : List (BitVec 8)} {e : Int} (h : RdrL w r p rest e) (tt : Turns (fun _ => False) w w') : RdrL w' r p rest e := by
  obtain ⟨i, hi, hd, a, c, h1, h2, h3⟩ := h
  exact ⟨i, hi, hd, a, c, tt.heap h1 (fun x => x), h2.quiet tt, h3⟩
end Go.Proofs.YtjklbhdhjfifhaaGreat
