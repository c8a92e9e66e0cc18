/-
  May entries be a block? how many bytes has it?
-/
import Derived.Test.YtolaaodhnhdadaaB6
namespace Go.Proofs.Ytolaaodhnhdadaa
open Go.RowKit
set_option maxRecDepth 100000
set_option maxHeartbeats 4000000
/-- Entries of which each may be, with their keys' room. -/
def Good (l : List Tow) : Prop := ∀ x, x ∈ l → chk1 x.e = 0 ∧ x.e.key.length ≤ x.kc
def chkL (es : List Ent) : Int := if es = [] ∨ inOrd es = false then 2 else 0
theorem smol_one {e : Ent} (h : chk1 e = 0) : Smol [(e.kind, e.key, e.val)] := by
  obtain ⟨h1, h2, h3, h4, h5, h6⟩ := chk1_fine h
  exact ⟨by simp, by simp [tot]; omega⟩
theorem check_all (a : Option Addr) (n c : Nat) (l : List Tow) (w : World) (h : Ents w a l) (hn : n = l.length) (hmx : n ≤ 1000000) (hf : Good l) :
    Calls Try.prog 20 #[.slice a n c] w fun e w' => e = .returned (.int .i64 (chkL (ents l))) ∧ Below w.heap.size w w' := by
  have HL := hide hn
  have HA := hide h
  have HF := hide hf
  generalize hB : w.heap.size = B
  have HB := hide hB
  clear hn h hB hf
  go_enter Try.func20, Try.ntmps20
  go_wp2_with fail
  go_loopw [8] (fun iv wr => ∃ k : Nat, iv = .int .i64 (k : Nat) ∧ k ≤ n ∧ Below B w wr) (fun iv _ => n - (intOf iv).toNat)
  case atStart => exact ⟨0, rfl, by omega, Below.refl _ _⟩
  case round =>
    obtain ⟨k, rfl, hk, hbw⟩ := hrel
    have BW := hide hbw
    have tt := Turns.of_below (show Below w.heap.size w wr by rw [HB.out]; exact hbw) (fun _ => False)
    have hsz : B ≤ wr.heap.size := by have := tt.size; have := HB.out; omega
    by_cases hk2 : k < n
    · have i1 : (k : Int) < n := by omega
      have i0 : (0 : Int) ≤ (k : Int) := by omega
      have hkl : k < l.length := by have := HL.out; omega
      obtain ⟨⟨b, off, rfl, hc⟩, k1, k2⟩ := (HA.out.quiet tt) k l[k] (List.getElem?_eq_getElem hkl)
      have hfk := HF.out l[k] (List.getElem_mem hkl)
      generalize l[k] = x at *
      obtain ⟨ka, kc, va, vc, e⟩ := x
      have c0 : wr.cell? ⟨b, off + k * 4, none⟩ = some (.slice ka e.key.length kc) := hc 0 _ rfl
      have c1 : wr.cell? ⟨b, off + k * 4 + 1, none⟩ = some (.int .u64 (e.seq : Nat)) := hc 1 _ rfl
      have c2 : wr.cell? ⟨b, off + k * 4 + 2, none⟩ = some (.int .i64 e.kind) := hc 2 _ rfl
      have c3 : wr.cell? ⟨b, off + k * 4 + 3, none⟩ = some (.slice va e.val.length vc) := hc 3 _ rfl
      have b1 := (Below.refl wr.heap.size wr).alloc (Nat.le_refl _) (.cells #[.slice ka e.key.length kc, .int .u64 (e.seq : Nat), .int .i64 e.kind, .slice va e.val.length vc] 28)
      have hseq : e.seq ≤ 72057594037927935 := (chk1_fine hfk.1).2.1
      have HQ := hide (checkEntry_any e.seq (by omega) e.kind ka va e.key.length kc e.val.length vc e.key e.val _ (Bytes.below k1 b1) (Bytes.below k2 b1) (smol_one hfk.1))
      have hz : chk e.seq [(e.kind, e.key, e.val)] = 0 := hfk.1
      rw [hz] at HQ
      have B1 := hide (hbw.trans (b1.mono hsz))
      have B1' := hide b1.size
      clear hc k1 k2 tt hbw b1 hz hfk hseq
      go_wp2_with fail
      refine HQ.out.mono ?_
      rintro e w2 ⟨rfl, b2⟩
      have B2 := hide (B1.out.trans (b2.mono (Nat.le_trans hsz B1'.out)))
      clear b2 HQ
      go_wp2_with fail
      go_roundw
      case rel => exact ⟨k + 1, by go_num, by omega, B2.out⟩
      case measure => simp [intOf]; omega
    · have i1 : ¬ (k : Int) < n := by omega
      by_cases h0 : n = 0
      · subst h0
        have hl : l = [] := List.eq_nil_of_length_eq_zero HL.out.symm
        have hv : chkL (ents l) = 2 := by rw [hl]; rfl
        have HV := hide hv
        clear hv hl
        go_wp2_with fail
        go_ret
        exact ⟨by rw [HV.out]; rfl, BW.out⟩
      · have h0' : ¬ (n : Int) = 0 := by omega
        have HQ := hide (inOrder_any a n c l wr (HA.out.quiet tt) HL.out hmx)
        have hne : ents l ≠ [] := by
          intro q
          have : (ents l).length = 0 := by rw [q]; rfl
          simp only [ents, List.length_map] at this
          have := HL.out
          omega
        have HV := hide (show chkL (ents l) = if inOrd (ents l) = false then 2 else 0 by
          unfold chkL
          by_cases q : inOrd (ents l) = false
          · rw [if_pos (.inr q), if_pos q]
          · rw [if_neg (fun x => x.elim hne q), if_neg q])
        clear tt hne hbw
        go_wp2_with fail
        refine HQ.out.mono ?_
        rintro e w2 ⟨rfl, b2⟩
        have B2 := hide (BW.out.trans (b2.mono hsz))
        clear b2 HQ
        generalize hv : inOrd (ents l) = v at *
        cases v
        all_goals go_wp2_with fail
        all_goals go_ret
        all_goals exact ⟨by rw [HV.out]; rfl, B2.out⟩
theorem lastK_prev (l : List Tow) : ∀ k, k ≤ l.length → lastK [] (ents (l.take k)) = prevK l k
  | 0, _ => rfl
  | k + 1, h => by
    have hk : k < l.length := by omega
    rw [List.take_succ_eq_append_getElem hk, ents, List.map_append, List.map_cons, List.map_nil, lastK_snoc]
    simp [prevK, hk]
/-- How many bytes the first entries' block has. -/
def szK (l : List Tow) (k : Nat) : Nat := 4 + 4 * (mk (ents (l.take k))).length + (rowB 0 [] (ents (l.take k))).length
theorem szK_succ (l : List Tow) (k : Nat) (h : k < l.length) : szK l (k + 1) = szK l k + (if k % 16 = 0 then 4 else 0) + (entB (shr k (prevK l k) l[k].e.key) l[k].e).length := by
  have e : ents (l.take (k + 1)) = ents (l.take k) ++ [l[k].e] := by rw [List.take_succ_eq_append_getElem h, ents, List.map_append]; rfl
  have hl : (ents (l.take k)).length = k := by simp [ents]; omega
  unfold szK mk
  rw [e, marks_snoc, rowB_snoc, hl, Nat.zero_add, lastK_prev l k (by omega), List.length_append, List.length_append]
  split
  · simp only [List.length_singleton]; omega
  · simp only [List.length_nil]; omega
theorem szK_le (l : List Tow) (hf : Good l) (k : Nat) : szK l k ≤ 4 + 44 * l.length + wt (ents l) := by
  have h1 := rowB_le (ents (l.take k)) 0 [] fun e he => by
    obtain ⟨x, hx, rfl⟩ := List.mem_map.1 he
    exact (hf x (List.mem_of_mem_take hx)).1
  have h2 := mk_len (ents (l.take k))
  have h3 : (ents (l.take k)).length ≤ l.length := by simp [ents]; omega
  have h4 : wt (ents (l.take k)) ≤ wt (ents l) := by
    have : wt (ents l) = wt (ents (l.take k)) + wt (ents (l.drop k)) := by
      have h5 : ents l = ents (l.take k) ++ ents (l.drop k) := by rw [ents, ents, ents, ← List.map_append, List.take_append_drop]
      rw [h5]
      simp [wt]
    omega
  unfold szK
  omega
theorem size_all (a : Option Addr) (n c : Nat) (l : List Tow) (w : World) (h : Ents w a l) (hn : n = l.length) (hmx : n ≤ 1000) (hw : wt (ents l) ≤ 1000000) (hf : Good l) :
    Calls Try.prog 10 #[.slice a n c] w fun e w' => e = .returned (.int .i64 ((blkB (ents l)).length : Nat)) ∧ Below w.heap.size w w' := by
  have HL := hide hn
  have HA := hide h
  have HF := hide hf
  have HSZ := hide (fun k => szK_le l hf k)
  generalize hB : w.heap.size = B
  have HB := hide hB
  clear hn h hB hf
  go_enter Try.func10, Try.ntmps10
  go_wp2_with fail
  go_loopw [3, 8] (fun sv iv wr => ∃ k : Nat, sv = .int .i64 (szK l k : Nat) ∧ iv = .int .i64 (k : Nat) ∧ k ≤ n ∧ Below B w wr) (fun _ iv _ => n - (intOf iv).toNat)
  case atStart => exact ⟨0, rfl, rfl, by omega, Below.refl _ _⟩
  case round =>
    obtain ⟨k, rfl, rfl, hk, hbw⟩ := hrel
    have BW := hide hbw
    have tt := Turns.of_below (show Below w.heap.size w wr by rw [HB.out]; exact hbw) (fun _ => False)
    have hsz : B ≤ wr.heap.size := by have := tt.size; have := HB.out; omega
    have hle := HSZ.out k
    have hll := HL.out
    have hle2 : szK l k ≤ 1100000 := by omega
    by_cases hk2 : k < n
    · have i1 : (k : Int) < n := by omega
      have i0 : (0 : Int) ≤ (k : Int) := by omega
      have hkl : k < l.length := by omega
      have HS := hide (szK_succ l k hkl)
      have hle3 := HSZ.out (k + 1)
      rw [HS.out] at hle3
      have henT := HA.out.quiet tt
      obtain ⟨⟨b, off, rfl, hc⟩, k1, k2⟩ := henT k l[k] (List.getElem?_eq_getElem hkl)
      have hfk := HF.out l[k] (List.getElem_mem hkl)
      have hxk : l[k]? = some l[k] := List.getElem?_eq_getElem hkl
      have hs := (shr_le k (prevK l k) l[k].e.key).2
      generalize l[k] = x at *
      have HES := hide (fun u => entrySize_any x hfk.1 _ hs u)
      have b1 := (Below.refl wr.heap.size wr).alloc (Nat.le_refl _) (.cells #[x.kv, .int .u64 (x.e.seq : Nat), .int .i64 x.e.kind, x.vv] 28)
      have HSH := hide (fun u (t : Turns (fun _ => False) wr u) => shared_any (some ⟨b, off, none⟩) n c l u (henT.quiet t) k x hxk HL.out (by omega) (fun y hy => by have := (chk1_fine (HF.out y hy).1).2.2.2.2.1; omega))
      have hnew := heap_alloc_new wr (.cells #[x.kv, .int .u64 (x.e.seq : Nat), .int .i64 x.e.kind, x.vv] 28)
      have TA := hide (Turns.of_below b1 (fun _ => False))
      have B1 := hide (hbw.trans (b1.mono hsz))
      have hsz1 : B ≤ (wr.alloc (.cells #[x.kv, .int .u64 (x.e.seq : Nat), .int .i64 x.e.kind, x.vv] 28)).heap.size := Nat.le_trans hsz b1.size
      generalize hEL : (entB (shr k (prevK l k) x.e.key) x.e).length = EL at *
      generalize hsh : shr k (prevK l k) x.e.key = s at *
      have HNEW := hide hnew
      obtain ⟨ka, kc, va, vc, e⟩ := x
      simp only [Tow.kv, Tow.vv] at *
      have c0 : wr.cell? ⟨b, off + k * 4, none⟩ = some (.slice ka e.key.length kc) := hc 0 _ rfl
      have c1 : wr.cell? ⟨b, off + k * 4 + 1, none⟩ = some (.int .u64 (e.seq : Nat)) := hc 1 _ rfl
      have c2 : wr.cell? ⟨b, off + k * 4 + 2, none⟩ = some (.int .i64 e.kind) := hc 2 _ rfl
      have c3 : wr.cell? ⟨b, off + k * 4 + 3, none⟩ = some (.slice va e.val.length vc) := hc 3 _ rfl
      have hEL2 : EL ≤ 2000000 := by omega
      clear hc k1 k2 tt hbw b1 hfk henT hxk hnew hle hle3 hs hsh hEL hll
      generalize szK l k = SZ at *
      by_cases hr : k % 16 = 0
      · go_wp2_with (first | (go_at_call 21; refine (isRestart_any k _).mono ?_; rintro e' w1 ⟨rfl, rfl⟩; rw [decide_eq_true hr]))
        generalize wr.alloc (.cells #[.slice ka e.key.length kc, .int .u64 (e.seq : Nat), .int .i64 e.kind, .slice va e.val.length vc] 28) = W at *
        have f0 : W.cell? ⟨wr.heap.size, 0, none⟩ = some (.slice ka e.key.length kc) := cell_of_row W _ 0 _ 28 (0, 0) HNEW.out
        have f1 : W.cell? ⟨wr.heap.size, 1, none⟩ = some (.int .u64 (e.seq : Nat)) := cell_of_row W _ 1 _ 28 (0, 0) HNEW.out
        have f2 : W.cell? ⟨wr.heap.size, 2, none⟩ = some (.int .i64 e.kind) := cell_of_row W _ 2 _ 28 (0, 0) HNEW.out
        have f3 : W.cell? ⟨wr.heap.size, 3, none⟩ = some (.slice va e.val.length vc) := cell_of_row W _ 3 _ 28 (0, 0) HNEW.out
        have HSH1 := hide (HSH.out W.drew TA.out.drew)
        generalize wr.heap.size = G at *
        go_region_held (fun w' => w'.cell? ⟨G, 0, none⟩ = some (.slice ka e.key.length kc) ∧ w'.cell? ⟨G, 1, none⟩ = some (.int .u64 (e.seq : Nat)) ∧ w'.cell? ⟨G, 2, none⟩ = some (.int .i64 e.kind) ∧ w'.cell? ⟨G, 3, none⟩ = some (.slice va e.val.length vc)) (first | (with_reducible exact ⟨p0, p1, p2, p3⟩) | (with_reducible exact ⟨q0, q1, q2, q3⟩) | (simp only [World.cell?_drew]; with_reducible exact ⟨f0, f1, f2, f3⟩)) (first
          | (go_at_call 23; refine HSH1.out.mono ?_; rintro y w2 ⟨rfl, m2, hw2⟩; have t2 : Turns (fun _ => False) W w2 := by rw [hw2]; exact (Turns.refl _ W).drew.drewN m2
             have q0 := t2.cell f0 (fun x => x); have q1 := t2.cell f1 (fun x => x); have q2 := t2.cell f2 (fun x => x); have q3 := t2.cell f3 (fun x => x); have T2 := hide t2; clear t2 hw2)
          | (go_at_call 27; refine (HES.out w2).mono ?_; rintro y w3 ⟨rfl, b3⟩; have t3 := T2.out.trans (Turns.of_below b3 (fun _ => False)); have p0 := t3.cell f0 (fun x => x); have p1 := t3.cell f1 (fun x => x); have p2 := t3.cell f2 (fun x => x); have p3 := t3.cell f3 (fun x => x); have T3 := hide t3; clear t3 b3))
        clear p0 p1 p2 p3 q0 q1 q2 q3
        go_wp2_with fail
        go_roundw
        case rel => exact ⟨k + 1, by rw [HS.out, if_pos hr, wrapI _ (by omega) (by omega)]; go_num, by go_num, by omega, B1.out.trans (T3.out.below hsz1 (fun _ h => h.elim))⟩
        case measure => simp [intOf]; omega
      · go_wp2_with (first | (go_at_call 21; refine (isRestart_any k _).mono ?_; rintro e' w1 ⟨rfl, rfl⟩; rw [decide_eq_false hr]))
        generalize wr.alloc (.cells #[.slice ka e.key.length kc, .int .u64 (e.seq : Nat), .int .i64 e.kind, .slice va e.val.length vc] 28) = W at *
        have f0 : W.cell? ⟨wr.heap.size, 0, none⟩ = some (.slice ka e.key.length kc) := cell_of_row W _ 0 _ 28 (0, 0) HNEW.out
        have f1 : W.cell? ⟨wr.heap.size, 1, none⟩ = some (.int .u64 (e.seq : Nat)) := cell_of_row W _ 1 _ 28 (0, 0) HNEW.out
        have f2 : W.cell? ⟨wr.heap.size, 2, none⟩ = some (.int .i64 e.kind) := cell_of_row W _ 2 _ 28 (0, 0) HNEW.out
        have f3 : W.cell? ⟨wr.heap.size, 3, none⟩ = some (.slice va e.val.length vc) := cell_of_row W _ 3 _ 28 (0, 0) HNEW.out
        have HSH1 := hide (HSH.out W.drew TA.out.drew)
        generalize wr.heap.size = G at *
        go_region_held (fun w' => w'.cell? ⟨G, 0, none⟩ = some (.slice ka e.key.length kc) ∧ w'.cell? ⟨G, 1, none⟩ = some (.int .u64 (e.seq : Nat)) ∧ w'.cell? ⟨G, 2, none⟩ = some (.int .i64 e.kind) ∧ w'.cell? ⟨G, 3, none⟩ = some (.slice va e.val.length vc)) (first | (with_reducible exact ⟨p0, p1, p2, p3⟩) | (with_reducible exact ⟨q0, q1, q2, q3⟩) | (simp only [World.cell?_drew]; with_reducible exact ⟨f0, f1, f2, f3⟩)) (first
          | (go_at_call 23; refine HSH1.out.mono ?_; rintro y w2 ⟨rfl, m2, hw2⟩; have t2 : Turns (fun _ => False) W w2 := by rw [hw2]; exact (Turns.refl _ W).drew.drewN m2
             have q0 := t2.cell f0 (fun x => x); have q1 := t2.cell f1 (fun x => x); have q2 := t2.cell f2 (fun x => x); have q3 := t2.cell f3 (fun x => x); have T2 := hide t2; clear t2 hw2)
          | (go_at_call 27; refine (HES.out w2).mono ?_; rintro y w3 ⟨rfl, b3⟩; have t3 := T2.out.trans (Turns.of_below b3 (fun _ => False)); have p0 := t3.cell f0 (fun x => x); have p1 := t3.cell f1 (fun x => x); have p2 := t3.cell f2 (fun x => x); have p3 := t3.cell f3 (fun x => x); have T3 := hide t3; clear t3 b3))
        clear p0 p1 p2 p3 q0 q1 q2 q3
        go_wp2_with fail
        go_roundw
        case rel => exact ⟨k + 1, by rw [HS.out, if_neg hr, wrapI _ (by omega) (by omega)]; go_num, by go_num, by omega, B1.out.trans (T3.out.below hsz1 (fun _ h => h.elim))⟩
        case measure => simp [intOf]; omega
    · have i1 : ¬ (k : Int) < n := by omega
      obtain rfl : k = n := by omega
      have HV := hide (show szK l k = (blkB (ents l)).length by rw [szK, List.take_of_length_le (by omega), blkB_len]; omega)
      clear hll hle hle2
      go_wp2_with fail
      go_ret
      exact ⟨by rw [← HV.out]; rfl, BW.out⟩
end Go.Proofs.Ytolaaodhnhdadaa
