import Derived.Test.YtjklbhdhjfifhaaGreatM25
import Derived.Test.YtjklbhdhjfifhaaGreatM33
import Derived.Test.YtjklbhdhjfifhaaGreatM17
import Derived.Deep.Light
/-
  A block's place, read from an index.
-/
namespace Go.Proofs.YtjklbhdhjfifhaaGreat
open Go.RowKit
set_option maxRecDepth 100000
set_option maxHeartbeats 4000000
def newPlc (l : List Plc) (sz : Nat) (ka : Option Addr) (kc : Nat) (key : List (BitVec 8)) (seq : Nat) : Plc := ⟨endP l, sz, ⟨ka, kc, none, 0, ⟨key, seq, 0, []⟩⟩⟩
def Rp6 (u : World) (b o : Nat) (pa : Option Addr) (n pc g1 : Nat) (ka : Option Addr) (kn kc seq : Nat) (z : Option (Nat × Nat × Plc)) : Prop :=
  u.cell? ⟨b, o, none⟩ = some (.slice pa n pc) ∧ u.cell? ⟨g1, 0, none⟩ = some (.slice ka kn kc) ∧ u.cell? ⟨g1, 1, none⟩ = some (.int .u64 (seq : Nat)) ∧ u.cell? ⟨g1, 2, none⟩ = some (.int .i64 0) ∧ u.cell? ⟨g1, 3, none⟩ = some (.slice none 0 0) ∧
    match z with
    | none => True
    | some (gq, m, x) => u.cell? ⟨gq, m * 6 + 2, none⟩ = some (.slice x.t.ka x.t.e.key.length x.t.kc) ∧ u.cell? ⟨gq, m * 6 + 3, none⟩ = some (.int .u64 (x.t.e.seq : Nat)) ∧ u.cell? ⟨gq, m * 6 + 4, none⟩ = some (.int .i64 x.t.e.kind) ∧ u.cell? ⟨gq, m * 6 + 5, none⟩ = some (.slice x.t.va x.t.e.val.length x.t.vc)
theorem readPlace_ok (b o T : Nat) (cs : Array Value) (l : List Plc) (pa : Option Addr) (pc B r : Nat) (p rest key : List (BitVec 8)) (sz seq limit : Nat) (w : World) (hbx : w.heap[b]? = some (.cells cs T (0, 0))) (hc : cs[o]? = some (.slice pa l.length pc)) (hl : l.length ≤ 1000000) (hrow : PRow w B (.slice pa l.length pc) l) (hB : B ≤ w.heap.size) (hrB : r < B) (hnb : ¬ inRow (.slice pa l.length pc) b) (hbr : b ≠ r) (hno : noU8 cs) (hend : ∀ p, p ∈ l → p.pos + p.size ≤ 1000000000)
    (hkeys : ∀ p, p ∈ l → Bytes w p.t.kv p.t.e.key ∧ ∀ a, p.t.ka = some a → a.block ≠ b ∧ a.block ≠ r ∧ ¬ inRow (.slice pa l.length pc) a.block) (hcmp : ∀ p0, l.getLast? = some p0 → cmpE p0.t.e.en (key, seq) < 0) (hsz : sz ≤ 1000000000) (hlim : endP l + sz ≤ limit) (hlb : limit ≤ 1000000000) (hq : key.length ≤ 1000000) (hk1 : 0 < key.length) (hseq : seq < 2 ^ 64)
    (hr : RdrL w r p (short (endP l) ++ (short sz ++ (pieceB key ++ (short seq ++ rest)))) 0) (hp : p.length ≤ 1000000) :
    Calls Tryz.prog 98 #[.pointer (some ⟨b, o, none⟩), .pointer (some ⟨r, 0, none⟩), .int .i64 (limit : Nat)] w fun oo w' => oo = .returned (.bool true) ∧ ∃ v' ka kc, w'.heap[b]? = some (.cells (cs.setIfInBounds o v') T (0, 0)) ∧ PRow w' B v' (l ++ [newPlc l sz ka kc key seq]) ∧ Bytes w' (.slice ka key.length kc) key ∧ (∀ a, ka = some a → w.heap.size ≤ a.block ∧ a.block < w'.heap.size ∧ ¬ inRow v' a.block) ∧ (∀ k, inRow v' k → inRow (.slice pa l.length pc) k ∨ w.heap.size ≤ k) ∧ RdrL w' r p rest 0 ∧ Turns (fun k => k = b ∨ k = r ∨ inRow (.slice pa l.length pc) k) w w' := by
  have HR := hide hr
  have HBX := hide hbx
  have HROW := hide hrow
  have HE := hide (show endP l ≤ 1000000000 from by omega)
  have HLIM := hide hlim
  have HLB := hide hlb
  have HSZ := hide hsz
  clear hr hbx hrow hlim hlb
  go_enter Tryz.func98, Tryz.ntmps98
  go_wp2_with fail
  refine (number_L r p _ (endP l) (by have := HE.out; omega) _ HR.out hp).mono ?_
  rintro oo w1 ⟨rfl, hr1, t1⟩
  have HR := hide hr1
  have T1 := hide t1
  clear hr1 t1
  go_wp2_with fail
  refine (number_L r p _ sz (by have := HSZ.out; omega) _ HR.out hp).mono ?_
  rintro oo w2 ⟨rfl, hr1, t1⟩
  have HR := hide hr1
  have T2 := hide (T1.out.trans t1)
  clear hr1 t1 T1
  go_wp2_with fail
  refine (piece_L r p _ key (by omega) _ HR.out hp).mono ?_
  rintro oo w3 ⟨⟨ka, kc, rfl, hk3, hf3⟩, hr1, t1⟩
  have HR := hide hr1
  have HK := hide hk3
  have HF := hide hf3
  have T3 := hide (T2.out.trans t1)
  have HS2 := hide T2.out.size
  clear hr1 t1 T2 hk3 hf3
  go_wp2_with fail
  refine (number_L r p _ seq hseq _ HR.out hp).mono ?_
  rintro oo w4 ⟨rfl, hr1, t1⟩
  have HR := hide hr1
  have HK := hide (bytes_keep HK.out t1 (fun a ha he => by have h1 := HF.out a ha; have h2 := HS2.out; have h3 : a.block = r := he; omega))
  have T4 := hide (T3.out.trans t1)
  clear hr1 t1 T3
  go_upto_region 2 with (fail)
  have HG1 := hide (heap_alloc_new w4 (.cells #[.slice ka key.length kc, .int .u64 (seq : Nat), .int .i64 0, .slice none 0 0] 35))
  have T5 := hide (T4.out.alloc (.cells #[.slice ka key.length kc, .int .u64 (seq : Nat), .int .i64 0, .slice none 0 0] 35))
  have TA := hide ((Turns.refl (fun _ => False) w4).alloc (.cells #[.slice ka key.length kc, .int .u64 (seq : Nat), .int .i64 0, .slice none 0 0] 35))
  have HK := hide (HK.out.quiet TA.out)
  have HR := hide (HR.out.quiet TA.out)
  have HRR := hide (show ¬ inRow (.slice pa l.length pc) r from fun hh => by have := (HROW.out.row hh).1; omega)
  have HROW5 := hide (HROW.out.keep T5.out (fun k hk he => HRR.out (by have h1 : k = r := he; rw [← h1]; exact hk)))
  have HBX5 := hide (T5.out.heap HBX.out hbr)
  have HKY5 := hide (fun pp (hpp : pp ∈ l) => bytes_keep (hkeys pp hpp).1 T5.out (fun a ha => ((hkeys pp hpp).2 a ha).2.1))
  have HS45 := hide (show w.heap.size ≤ w4.heap.size from T4.out.size)
  generalize w4.alloc (.cells #[.slice ka key.length kc, .int .u64 (seq : Nat), .int .i64 0, .slice none 0 0] 35) = w5 at *
  generalize hg1 : w4.heap.size = g1 at HG1 HS45 ⊢
  clear hg1 TA T4
  have EN := hide (end_any b o l pa pc w5 (by rw [cell_of_row w5 b o _ T (0, 0) HBX5.out]; exact hc) hl B HROW5.out hend)
  have HCB := hide hc
  generalize hE0 : endP l = E at EN HE HLIM ⊢
  have HE0 := hide hE0
  clear hE0 hc
  go_upto_region 3 with (go_at_call 57; refine EN.out.mono ?_; rintro oo w6 ⟨rfl, b6⟩)
  have T6 := hide (Turns.of_below b6 (fun _ => False))
  have HR6 := hide (HR.out.quiet T6.out)
  clear b6
  have e1 : (E : Int) ≤ 1000000000 := by have := HE.out; omega
  have e2 : (E : Int) + (sz : Int) ≤ (limit : Int) := by have := HLIM.out; omega
  have e3 : (limit : Int) ≤ 1000000000 := by have := HLB.out; omega
  go_upto_region 5 with (go_at_call 142; refine (err_L HR6.out).mono ?_; rintro oo w7 ⟨rfl, nd, rfl⟩)
  have T7 := hide (show Turns (fun _ => False) w5 (w6.drewN nd) from T6.out.drewN nd)
  generalize w6.drewN nd = w7 at *
  clear T6 EN HR6
  have HG7 := hide (T7.out.heap HG1.out (fun x => x))
  have HBX7 := hide (T7.out.heap HBX5.out (fun x => x))
  have HROW7 := hide (HROW5.out.keep T7.out (fun _ _ x => x))
  have HCELL := hide (show w7.cell? ⟨b, o, none⟩ = some (.slice pa l.length pc) from by rw [cell_of_row w7 b o _ T (0, 0) HBX7.out]; exact HCB.out)
  have hcell := HCELL.out
  go_upto_region 6 with (fail)
  clear hcell
  obtain ⟨L, hL⟩ : ∃ L, l.length = L := ⟨_, rfl⟩
  rw [hL]
  have HL := hide hL
  clear hL
  go_cut [60] from 45 to 60 (fun v wx => v = .bool false ∧ Turns (fun _ => False) w7 wx)
  case first =>
    rename_i kk rest jj kk' m1 m2
    clear rest
    have tV : Turns (fun _ => False) w7 w7.drew := (Turns.refl _ _).drew
    cases hlast : l.getLast? with
    | none =>
      have hl0 : L = 0 := by rw [← HL.out, List.getLast?_eq_none_iff.1 hlast]; rfl
      subst hl0
      have SK := hide (fun (u : World) (tq : Turns (fun _ => False) w7 u) => show Rp6 u b o pa 0 pc g1 ka key.length kc seq none from by
        have hb := tq.heap HG7.out (fun x => x)
        have h0 := tq.cell HCELL.out (fun x => x)
        rw [HL.out] at h0
        exact ⟨h0, cell_of_row u g1 0 _ 35 (0, 0) hb, cell_of_row u g1 1 _ 35 (0, 0) hb, cell_of_row u g1 2 _ 35 (0, 0) hb, cell_of_row u g1 3 _ 35 (0, 0) hb, trivial⟩)
      clear HL hlast
      refine wp_region_held_drew (S := fun u => Rp6 u b o pa 0 pc g1 ka key.length kc seq none) (by kernel_rfl) (SK.out _ tV) (fun _ => ?_)
      change wpAnyH _ _ _ _ _ 16 (Array.replicate 16 false) _ _
      refine wpAnyH_take (i := 0) (oi := { dst := some 45, op := Op.move (Operand.tmp 11), type := 3, pos := "index.go:100", after := #[], guard := none }) (v := .int .i64 ((0 : Nat) : Int)) rfl (by kernel_rfl) (by kernel_rfl) (by kernel_rfl) (fun _ _ _ h => h) (Or.inl ⟨by rfl, ?_⟩) (SK.out _ tV) ?_
      · rintro w ⟨q0, p0, p1, p2, p3, -⟩
        go_simp
      simp only [Act.put, List.setIfInBounds_toArray, List.set_cons_zero, List.set_cons_succ]
      refine wpAnyH_take (i := 1) (oi := { dst := some 46, op := Op.binOp BinOp.gtr 3 (Operand.tmp 45) (Operand.const (Value.int IntKind.i64 0)) 3, type := 4, pos := "index.go:100", after := #[{ on := 0, ground := Ground.data }], guard := none }) (v := .bool false) rfl (by kernel_rfl) (by kernel_rfl) (by kernel_rfl) (fun _ _ _ h => h) (Or.inl ⟨by rfl, ?_⟩) (SK.out _ tV) ?_
      · rintro w ⟨q0, p0, p1, p2, p3, -⟩
        go_simp
      simp only [Act.put, List.setIfInBounds_toArray, List.set_cons_zero, List.set_cons_succ]
      refine wpAnyH_take (i := 2) (oi := { dst := some 47, op := Op.move (Operand.tmp 46), type := 4, pos := "index.go:100", after := #[{ on := 1, ground := Ground.data }], guard := none }) (v := .bool false) rfl (by kernel_rfl) (by kernel_rfl) (by kernel_rfl) (fun _ _ _ h => h) (Or.inl ⟨by rfl, ?_⟩) (SK.out _ tV) ?_
      · rintro w ⟨q0, p0, p1, p2, p3, -⟩
        go_simp
      simp only [Act.put, List.setIfInBounds_toArray, List.set_cons_zero, List.set_cons_succ]
      refine wpAnyH_take (i := 3) (oi := { dst := some 48, op := Op.move (Operand.tmp 0), type := 116, pos := "index.go:100", after := #[{ on := 2, ground := Ground.guard }], guard := some (2, true) }) (v := undef) rfl (by kernel_rfl) (by kernel_rfl) (by kernel_rfl) (fun _ _ _ h => h) (Or.inr ⟨by rfl, rfl⟩) (SK.out _ tV) ?_
      simp only [Act.put, List.setIfInBounds_toArray, List.set_cons_zero, List.set_cons_succ]
      refine wpAnyH_take (i := 4) (oi := { dst := some 49, op := Op.nilCheck (Operand.tmp 48), type := 0, pos := "index.go:100", after := #[{ on := 3, ground := Ground.data }, { on := 2, ground := Ground.guard }], guard := some (2, true) }) (v := undef) rfl (by kernel_rfl) (by kernel_rfl) (by kernel_rfl) (fun _ _ _ h => h) (Or.inr ⟨by rfl, rfl⟩) (SK.out _ tV) ?_
      simp only [Act.put, List.setIfInBounds_toArray, List.set_cons_zero, List.set_cons_succ]
      refine wpAnyH_take (i := 5) (oi := { dst := some 50, op := Op.fieldAddr 55 (Operand.tmp 49) 0, type := 0, pos := "index.go:100", after := #[{ on := 4, ground := Ground.data }, { on := 2, ground := Ground.guard }], guard := some (2, true) }) (v := undef) rfl (by kernel_rfl) (by kernel_rfl) (by kernel_rfl) (fun _ _ _ h => h) (Or.inr ⟨by rfl, rfl⟩) (SK.out _ tV) ?_
      simp only [Act.put, List.setIfInBounds_toArray, List.set_cons_zero, List.set_cons_succ]
      refine wpAnyH_take (i := 6) (oi := { dst := some 51, op := Op.load 53 (Operand.tmp 50), type := 53, pos := "index.go:100", after := #[{ on := 5, ground := Ground.data }, { on := 2, ground := Ground.guard }], guard := some (2, true) }) (v := undef) rfl (by kernel_rfl) (by kernel_rfl) (by kernel_rfl) (fun _ _ _ h => h) (Or.inr ⟨by rfl, rfl⟩) (SK.out _ tV) ?_
      simp only [Act.put, List.setIfInBounds_toArray, List.set_cons_zero, List.set_cons_succ]
      refine wpAnyH_take (i := 7) (oi := { dst := some 52, op := Op.move (Operand.tmp 11), type := 3, pos := "index.go:100", after := #[{ on := 2, ground := Ground.guard }], guard := some (2, true) }) (v := undef) rfl (by kernel_rfl) (by kernel_rfl) (by kernel_rfl) (fun _ _ _ h => h) (Or.inr ⟨by rfl, rfl⟩) (SK.out _ tV) ?_
      simp only [Act.put, List.setIfInBounds_toArray, List.set_cons_zero, List.set_cons_succ]
      refine wpAnyH_take (i := 8) (oi := { dst := some 53, op := Op.binOp BinOp.sub 3 (Operand.tmp 52) (Operand.const (Value.int IntKind.i64 1)) 3, type := 3, pos := "index.go:100", after := #[{ on := 7, ground := Ground.data }, { on := 2, ground := Ground.guard }], guard := some (2, true) }) (v := undef) rfl (by kernel_rfl) (by kernel_rfl) (by kernel_rfl) (fun _ _ _ h => h) (Or.inr ⟨by rfl, rfl⟩) (SK.out _ tV) ?_
      simp only [Act.put, List.setIfInBounds_toArray, List.set_cons_zero, List.set_cons_succ]
      refine wpAnyH_take (i := 9) (oi := { dst := some 54, op := Op.indexAddr 53 (Operand.tmp 51) (Operand.tmp 53), type := 0, pos := "index.go:100", after := #[{ on := 6, ground := Ground.data }, { on := 8, ground := Ground.data }, { on := 2, ground := Ground.guard }], guard := some (2, true) }) (v := undef) rfl (by kernel_rfl) (by kernel_rfl) (by kernel_rfl) (fun _ _ _ h => h) (Or.inr ⟨by rfl, rfl⟩) (SK.out _ tV) ?_
      simp only [Act.put, List.setIfInBounds_toArray, List.set_cons_zero, List.set_cons_succ]
      refine wpAnyH_take (i := 10) (oi := { dst := some 55, op := Op.fieldAddr 147 (Operand.tmp 54) 2, type := 0, pos := "index.go:100", after := #[{ on := 9, ground := Ground.data }, { on := 2, ground := Ground.guard }], guard := some (2, true) }) (v := undef) rfl (by kernel_rfl) (by kernel_rfl) (by kernel_rfl) (fun _ _ _ h => h) (Or.inr ⟨by rfl, rfl⟩) (SK.out _ tV) ?_
      simp only [Act.put, List.setIfInBounds_toArray, List.set_cons_zero, List.set_cons_succ]
      refine wpAnyH_take (i := 11) (oi := { dst := some 56, op := Op.load 35 (Operand.tmp 55), type := 35, pos := "index.go:100", after := #[{ on := 10, ground := Ground.data }, { on := 2, ground := Ground.guard }], guard := some (2, true) }) (v := undef) rfl (by kernel_rfl) (by kernel_rfl) (by kernel_rfl) (fun _ _ _ h => h) (Or.inr ⟨by rfl, rfl⟩) (SK.out _ tV) ?_
      simp only [Act.put, List.setIfInBounds_toArray, List.set_cons_zero, List.set_cons_succ]
      refine wpAnyH_take (i := 12) (oi := { dst := some 57, op := Op.load 35 (Operand.tmp 9), type := 35, pos := "index.go:100", after := #[{ on := 2, ground := Ground.guard }], guard := some (2, true) }) (v := undef) rfl (by kernel_rfl) (by kernel_rfl) (by kernel_rfl) (fun _ _ _ h => h) (Or.inr ⟨by rfl, rfl⟩) (SK.out _ tV) ?_
      simp only [Act.put, List.setIfInBounds_toArray, List.set_cons_zero, List.set_cons_succ]
      refine wpAnyH_take (i := 13) (oi := { dst := some 58, op := Op.call { callee := Callee.value (Operand.func 87), args := #[Operand.tmp 56, Operand.tmp 57], argTypes := #[35, 35] }, type := 3, pos := "index.go:100", after := #[{ on := 11, ground := Ground.data }, { on := 12, ground := Ground.data }, { on := 2, ground := Ground.chain }, { on := 2, ground := Ground.guard }], guard := some (2, true) }) (v := undef) rfl (by kernel_rfl) (by kernel_rfl) (by kernel_rfl) (fun _ _ _ h => h) (Or.inr ⟨by rfl, rfl⟩) (SK.out _ tV) ?_
      simp only [Act.put, List.setIfInBounds_toArray, List.set_cons_zero, List.set_cons_succ]
      refine wpAnyH_take (i := 14) (oi := { dst := some 59, op := Op.binOp BinOp.geq 3 (Operand.tmp 58) (Operand.const (Value.int IntKind.i64 0)) 3, type := 4, pos := "index.go:100", after := #[{ on := 13, ground := Ground.data }, { on := 2, ground := Ground.guard }], guard := some (2, true) }) (v := undef) rfl (by kernel_rfl) (by kernel_rfl) (by kernel_rfl) (fun _ _ _ h => h) (Or.inr ⟨by rfl, rfl⟩) (SK.out _ tV) ?_
      simp only [Act.put, List.setIfInBounds_toArray, List.set_cons_zero, List.set_cons_succ]
      refine wpAnyH_take (i := 15) (oi := { dst := some 60, op := Op.pick (Operand.tmp 47) (Operand.tmp 59) (Operand.const (Value.bool false)), type := 4, pos := "index.go:100", after := #[{ on := 2, ground := Ground.data }, { on := 14, ground := Ground.data }], guard := none }) (v := .bool false) rfl (by kernel_rfl) (by kernel_rfl) (by kernel_rfl) (fun _ _ _ h => h) (Or.inl ⟨by rfl, ?_⟩) (SK.out _ tV) ?_
      · rintro w ⟨q0, p0, p1, p2, p3, -⟩
        go_simp
      simp only [Act.put, List.setIfInBounds_toArray, List.set_cons_zero, List.set_cons_succ]
      refine wpAnyH_done (by kernel_rfl) ?_ _
      go_wp2_with fail
      go_meet
      exact ⟨rfl, tV⟩
    | some x =>
      obtain ⟨m, hm⟩ : ∃ m, L = m + 1 := ⟨L - 1, by
        have h1 := HL.out
        have h2 : l ≠ [] := fun h => by rw [h] at hlast; cases hlast
        have := List.length_pos_iff.2 h2
        omega⟩
      subst hm
      have hx : l[m]? = some x := by
        have h1 := hlast
        rw [List.getLast?_eq_getElem?, HL.out] at h1
        exact h1
      obtain ⟨gq, c9, hv9, hpc⟩ := HROW7.out.at_ hx
      obtain ⟨rfl, rfl⟩ : pa = some ⟨gq, 0, none⟩ ∧ pc = c9 := by cases hv9; exact ⟨rfl, rfl⟩
      have HC := hide (show cmpE (x.t.e.key, x.t.e.seq) (key, seq) < 0 from hcmp x hlast)
      have HPC := hide (show w7.cell? ⟨gq, m * 6 + 2, none⟩ = some (.slice x.t.ka x.t.e.key.length x.t.kc) ∧ w7.cell? ⟨gq, m * 6 + 3, none⟩ = some (.int .u64 (x.t.e.seq : Nat)) ∧ w7.cell? ⟨gq, m * 6 + 4, none⟩ = some (.int .i64 x.t.e.kind) ∧ w7.cell? ⟨gq, m * 6 + 5, none⟩ = some (.slice x.t.va x.t.e.val.length x.t.vc) from ⟨hpc 2 _ rfl, hpc 3 _ rfl, hpc 4 _ rfl, hpc 5 _ rfl⟩)
      have CP := hide (fun (u : World) (tq : Turns (fun _ => False) w7 u) => compare_any x.t.ka ka x.t.va none x.t.e.key.length x.t.kc x.t.e.val.length x.t.vc key.length kc 0 0 x.t.e.kind 0 x.t.e.seq seq x.t.e.key key u ((HKY5.out x (List.mem_of_getElem? hx)).quiet (T7.out.trans tq)) (HK.out.quiet (T7.out.trans tq)))
      have SK := hide (fun (u : World) (tq : Turns (fun _ => False) w7 u) => show Rp6 u b o (some ⟨gq, 0, none⟩) (m + 1) pc g1 ka key.length kc seq (some (gq, m, x)) from by
        have hb := tq.heap HG7.out (fun x => x)
        have h0 := tq.cell HCELL.out (fun x => x)
        rw [HL.out] at h0
        exact ⟨h0, cell_of_row u g1 0 _ 35 (0, 0) hb, cell_of_row u g1 1 _ 35 (0, 0) hb, cell_of_row u g1 2 _ 35 (0, 0) hb, cell_of_row u g1 3 _ 35 (0, 0) hb, tq.cell HPC.out.1 (fun x => x), tq.cell HPC.out.2.1 (fun x => x), tq.cell HPC.out.2.2.1 (fun x => x), tq.cell HPC.out.2.2.2 (fun x => x)⟩)
      have mb : m ≤ 1000000 := by have := HL.out; omega
      clear HL hlast hx hv9 hpc
      refine wp_region_held_drew (S := fun u => Rp6 u b o (some ⟨gq, 0, none⟩) (m + 1) pc g1 ka key.length kc seq (some (gq, m, x))) (by kernel_rfl) (SK.out _ tV) (fun _ => ?_)
      change wpAnyH _ _ _ _ _ 16 (Array.replicate 16 false) _ _
      refine wpAnyH_take (i := 0) (oi := { dst := some 45, op := Op.move (Operand.tmp 11), type := 3, pos := "index.go:100", after := #[], guard := none }) (v := .int .i64 ((m + 1 : Nat) : Int)) rfl (by kernel_rfl) (by kernel_rfl) (by kernel_rfl) (fun _ _ _ h => h) (Or.inl ⟨by rfl, ?_⟩) (SK.out _ tV) ?_
      · rintro w ⟨q0, p0, p1, p2, p3, y0, y1, y2, y3⟩
        go_simp
      simp only [Act.put, List.setIfInBounds_toArray, List.set_cons_zero, List.set_cons_succ]
      refine wpAnyH_take (i := 1) (oi := { dst := some 46, op := Op.binOp BinOp.gtr 3 (Operand.tmp 45) (Operand.const (Value.int IntKind.i64 0)) 3, type := 4, pos := "index.go:100", after := #[{ on := 0, ground := Ground.data }], guard := none }) (v := .bool true) rfl (by kernel_rfl) (by kernel_rfl) (by kernel_rfl) (fun _ _ _ h => h) (Or.inl ⟨by rfl, ?_⟩) (SK.out _ tV) ?_
      · rintro w ⟨q0, p0, p1, p2, p3, y0, y1, y2, y3⟩
        go_simp
      simp only [Act.put, List.setIfInBounds_toArray, List.set_cons_zero, List.set_cons_succ]
      refine wpAnyH_take (i := 2) (oi := { dst := some 47, op := Op.move (Operand.tmp 46), type := 4, pos := "index.go:100", after := #[{ on := 1, ground := Ground.data }], guard := none }) (v := .bool true) rfl (by kernel_rfl) (by kernel_rfl) (by kernel_rfl) (fun _ _ _ h => h) (Or.inl ⟨by rfl, ?_⟩) (SK.out _ tV) ?_
      · rintro w ⟨q0, p0, p1, p2, p3, y0, y1, y2, y3⟩
        go_simp
      simp only [Act.put, List.setIfInBounds_toArray, List.set_cons_zero, List.set_cons_succ]
      refine wpAnyH_take (i := 3) (oi := { dst := some 48, op := Op.move (Operand.tmp 0), type := 116, pos := "index.go:100", after := #[{ on := 2, ground := Ground.guard }], guard := some (2, true) }) (v := .pointer (some ⟨b, o, none⟩)) rfl (by kernel_rfl) (by kernel_rfl) (by kernel_rfl) (fun _ _ _ h => h) (Or.inl ⟨by rfl, ?_⟩) (SK.out _ tV) ?_
      · rintro w ⟨q0, p0, p1, p2, p3, y0, y1, y2, y3⟩
        go_simp
      simp only [Act.put, List.setIfInBounds_toArray, List.set_cons_zero, List.set_cons_succ]
      refine wpAnyH_take (i := 4) (oi := { dst := some 49, op := Op.nilCheck (Operand.tmp 48), type := 0, pos := "index.go:100", after := #[{ on := 3, ground := Ground.data }, { on := 2, ground := Ground.guard }], guard := some (2, true) }) (v := .pointer (some ⟨b, o, none⟩)) rfl (by kernel_rfl) (by kernel_rfl) (by kernel_rfl) (fun _ _ _ h => h) (Or.inl ⟨by rfl, ?_⟩) (SK.out _ tV) ?_
      · rintro w ⟨q0, p0, p1, p2, p3, y0, y1, y2, y3⟩
        go_simp
      simp only [Act.put, List.setIfInBounds_toArray, List.set_cons_zero, List.set_cons_succ]
      refine wpAnyH_take (i := 5) (oi := { dst := some 50, op := Op.fieldAddr 55 (Operand.tmp 49) 0, type := 0, pos := "index.go:100", after := #[{ on := 4, ground := Ground.data }, { on := 2, ground := Ground.guard }], guard := some (2, true) }) (v := .pointer (some ⟨b, o, none⟩)) rfl (by kernel_rfl) (by kernel_rfl) (by kernel_rfl) (fun _ _ _ h => h) (Or.inl ⟨by rfl, ?_⟩) (SK.out _ tV) ?_
      · rintro w ⟨q0, p0, p1, p2, p3, y0, y1, y2, y3⟩
        go_simp
      simp only [Act.put, List.setIfInBounds_toArray, List.set_cons_zero, List.set_cons_succ]
      refine wpAnyH_take (i := 6) (oi := { dst := some 51, op := Op.load 53 (Operand.tmp 50), type := 53, pos := "index.go:100", after := #[{ on := 5, ground := Ground.data }, { on := 2, ground := Ground.guard }], guard := some (2, true) }) (v := .slice (some ⟨gq, 0, none⟩) (m + 1) pc) rfl (by kernel_rfl) (by kernel_rfl) (by kernel_rfl) (fun _ _ _ h => h) (Or.inl ⟨by rfl, ?_⟩) (SK.out _ tV) ?_
      · rintro w ⟨q0, p0, p1, p2, p3, y0, y1, y2, y3⟩
        go_simp
      simp only [Act.put, List.setIfInBounds_toArray, List.set_cons_zero, List.set_cons_succ]
      refine wpAnyH_take (i := 7) (oi := { dst := some 52, op := Op.move (Operand.tmp 11), type := 3, pos := "index.go:100", after := #[{ on := 2, ground := Ground.guard }], guard := some (2, true) }) (v := .int .i64 ((m + 1 : Nat) : Int)) rfl (by kernel_rfl) (by kernel_rfl) (by kernel_rfl) (fun _ _ _ h => h) (Or.inl ⟨by rfl, ?_⟩) (SK.out _ tV) ?_
      · rintro w ⟨q0, p0, p1, p2, p3, y0, y1, y2, y3⟩
        go_simp
      simp only [Act.put, List.setIfInBounds_toArray, List.set_cons_zero, List.set_cons_succ]
      refine wpAnyH_take (i := 8) (oi := { dst := some 53, op := Op.binOp BinOp.sub 3 (Operand.tmp 52) (Operand.const (Value.int IntKind.i64 1)) 3, type := 3, pos := "index.go:100", after := #[{ on := 7, ground := Ground.data }, { on := 2, ground := Ground.guard }], guard := some (2, true) }) (v := .int .i64 (m : Nat)) rfl (by kernel_rfl) (by kernel_rfl) (by kernel_rfl) (fun _ _ _ h => h) (Or.inl ⟨by rfl, ?_⟩) (SK.out _ tV) ?_
      · rintro w ⟨q0, p0, p1, p2, p3, y0, y1, y2, y3⟩
        go_simp; simp [IntKind.wrap, IntKind.bits, IntKind.signed]; omega
      simp only [Act.put, List.setIfInBounds_toArray, List.set_cons_zero, List.set_cons_succ]
      refine wpAnyH_take (i := 9) (oi := { dst := some 54, op := Op.indexAddr 53 (Operand.tmp 51) (Operand.tmp 53), type := 0, pos := "index.go:100", after := #[{ on := 6, ground := Ground.data }, { on := 8, ground := Ground.data }, { on := 2, ground := Ground.guard }], guard := some (2, true) }) (v := .pointer (some ⟨gq, m * 6, none⟩)) rfl (by kernel_rfl) (by kernel_rfl) (by kernel_rfl) (fun _ _ _ h => h) (Or.inl ⟨by rfl, ?_⟩) (SK.out _ tV) ?_
      · rintro w ⟨q0, p0, p1, p2, p3, y0, y1, y2, y3⟩
        go_simp; intro hlt; omega
      simp only [Act.put, List.setIfInBounds_toArray, List.set_cons_zero, List.set_cons_succ]
      refine wpAnyH_take (i := 10) (oi := { dst := some 55, op := Op.fieldAddr 147 (Operand.tmp 54) 2, type := 0, pos := "index.go:100", after := #[{ on := 9, ground := Ground.data }, { on := 2, ground := Ground.guard }], guard := some (2, true) }) (v := .pointer (some ⟨gq, m * 6 + 2, none⟩)) rfl (by kernel_rfl) (by kernel_rfl) (by kernel_rfl) (fun _ _ _ h => h) (Or.inl ⟨by rfl, ?_⟩) (SK.out _ tV) ?_
      · rintro w ⟨q0, p0, p1, p2, p3, y0, y1, y2, y3⟩
        go_simp
      simp only [Act.put, List.setIfInBounds_toArray, List.set_cons_zero, List.set_cons_succ]
      refine wpAnyH_take (i := 11) (oi := { dst := some 56, op := Op.load 35 (Operand.tmp 55), type := 35, pos := "index.go:100", after := #[{ on := 10, ground := Ground.data }, { on := 2, ground := Ground.guard }], guard := some (2, true) }) (v := .agg #[.slice x.t.ka x.t.e.key.length x.t.kc, .int .u64 (x.t.e.seq : Nat), .int .i64 x.t.e.kind, .slice x.t.va x.t.e.val.length x.t.vc]) rfl (by kernel_rfl) (by kernel_rfl) (by kernel_rfl) (fun _ _ _ h => h) (Or.inl ⟨by rfl, ?_⟩) (SK.out _ tV) ?_
      · rintro w ⟨q0, p0, p1, p2, p3, y0, y1, y2, y3⟩
        go_simp
      simp only [Act.put, List.setIfInBounds_toArray, List.set_cons_zero, List.set_cons_succ]
      refine wpAnyH_take (i := 12) (oi := { dst := some 57, op := Op.load 35 (Operand.tmp 9), type := 35, pos := "index.go:100", after := #[{ on := 2, ground := Ground.guard }], guard := some (2, true) }) (v := .agg #[.slice ka key.length kc, .int .u64 (seq : Nat), .int .i64 0, .slice none 0 0]) rfl (by kernel_rfl) (by kernel_rfl) (by kernel_rfl) (fun _ _ _ h => h) (Or.inl ⟨by rfl, ?_⟩) (SK.out _ tV) ?_
      · rintro w ⟨q0, p0, p1, p2, p3, y0, y1, y2, y3⟩
        go_simp
      simp only [Act.put, List.setIfInBounds_toArray, List.set_cons_zero, List.set_cons_succ]
      refine wpAnyH_ready (rs := [13]) (by kernel_rfl) (by simp) ?_
      refine AllReadyH.cons rfl (fun K hK => ?_) AllReadyH.nil
      go_simp
      refine (CP.out _ tV).mono ?_
      rintro oo Vn ⟨rfl, b2⟩
      have tN := Turns.of_below b2 (fun _ => False)
      have tV := tV.trans tN
      clear b2 CP
      clear tN
      go_simp
      refine hK.out _ _ (SK.out _ tV) (fun _ => ?_)
      clear hK K
      refine wpAnyH_take (i := 14) (oi := { dst := some 59, op := Op.binOp BinOp.geq 3 (Operand.tmp 58) (Operand.const (Value.int IntKind.i64 0)) 3, type := 4, pos := "index.go:100", after := #[{ on := 13, ground := Ground.data }, { on := 2, ground := Ground.guard }], guard := some (2, true) }) (v := .bool false) rfl (by kernel_rfl) (by kernel_rfl) (by kernel_rfl) (fun _ _ _ h => h) (Or.inl ⟨by rfl, ?_⟩) (SK.out _ tV) ?_
      · rintro w ⟨q0, p0, p1, p2, p3, y0, y1, y2, y3⟩
        go_simp; have := HC.out; omega
      simp only [Act.put, List.setIfInBounds_toArray, List.set_cons_zero, List.set_cons_succ]
      refine wpAnyH_take (i := 15) (oi := { dst := some 60, op := Op.pick (Operand.tmp 47) (Operand.tmp 59) (Operand.const (Value.bool false)), type := 4, pos := "index.go:100", after := #[{ on := 2, ground := Ground.data }, { on := 14, ground := Ground.data }], guard := none }) (v := .bool false) rfl (by kernel_rfl) (by kernel_rfl) (by kernel_rfl) (fun _ _ _ h => h) (Or.inl ⟨by rfl, ?_⟩) (SK.out _ tV) ?_
      · rintro w ⟨q0, p0, p1, p2, p3, y0, y1, y2, y3⟩
        go_simp
      simp only [Act.put, List.setIfInBounds_toArray, List.set_cons_zero, List.set_cons_succ]
      refine wpAnyH_done (by kernel_rfl) ?_ _
      go_wp2_with fail
      go_meet
      exact ⟨rfl, tV⟩
  case rest =>
    obtain ⟨rfl, t8⟩ := hcut
    have T8 := hide (T7.out.trans t8)
    have HR8 := hide (HR.out.quiet T8.out)
    have HG8 := hide (T8.out.heap HG1.out (fun x => x))
    have HBX8 := hide (T8.out.heap HBX5.out (fun x => x))
    have HROW8 := hide (HROW5.out.keep T8.out (fun _ _ x => x))
    have HK8 := hide (HK.out.quiet T8.out)
    have T58 := hide (T5.out.trans (T8.out.mono (fun _ _ x => x.elim)))
    have NA := hide (note_any b o T cs l pa pc sz B ka none kc 0 ⟨key, seq, 0, []⟩ wc HBX8.out HCB.out hl HROW8.out (Nat.le_trans hB T58.out.size) hnb hend)
    have q0 := cell_of_row wc g1 0 _ 35 (0, 0) HG8.out
    have q1 := cell_of_row wc g1 1 _ 35 (0, 0) HG8.out
    have q2 := cell_of_row wc g1 2 _ 35 (0, 0) HG8.out
    have q3 := cell_of_row wc g1 3 _ 35 (0, 0) HG8.out
    simp only [List.getElem?_toArray, List.getElem?_cons_zero, List.getElem?_cons_succ] at q0 q1 q2 q3
    clear t8
    have sz1 : (sz : Int) ≤ 1000000000 := by have := HSZ.out; omega
    go_wp2_with (go_at_call 110; refine NA.out.mono ?_; rintro oo w9 ⟨⟨v, rfl⟩, v', hb9, hr9, hi9, t9⟩)
    go_ret
    have hbw := lt_of_heap HBX.out
    have hrw : ∀ k, inRow (.slice pa l.length pc) k → B ≤ k ∧ k < w.heap.size := fun k hk => HROW.out.row hk
    have hfw : ∀ a, ka = some a → w.heap.size ≤ a.block := fun a ha => Nat.le_trans HS2.out (HF.out a ha)
    have hfl : ∀ a, ka = some a → a.block < wc.heap.size := fun a ha => by
      obtain ⟨a2, c2, e2, h2⟩ := HK8.out
      obtain ⟨q, off, e3, h3⟩ := h2 0 hk1
      have e4 : ka = a2 := by cases e2; rfl
      have h4 := block_lt_of_cell h3
      rw [e4, e3] at ha
      cases ha
      exact h4
    refine ⟨rfl, v', ka, kc, hb9, hr9, bytes_keep HK8.out t9 (fun a ha hs => ?_), fun a ha => ⟨hfw a ha, Nat.lt_of_lt_of_le (hfl a ha) t9.size, fun hk => ?_⟩, fun k hk => (hi9 k hk).imp id (fun h => Nat.le_trans T58.out.size h), rdrL_over HR8.out HBX8.out hno t9 (fun k hk => hk.imp id (fun h => Nat.lt_of_lt_of_le hrB (hrw k h).1)) hbr, (T58.out.mono (fun _ _ h => .inr (.inl h))).trans (t9.mono (fun _ _ h => h.imp id .inr))⟩
    · have h1 := hfw a ha
      rcases hs with h | h
      · omega
      · have := (hrw _ h).2
        omega
    · have h1 := hfw a ha
      have h2 := hfl a ha
      rcases hi9 _ hk with h | h
      · have := (hrw _ h).2
        omega
      · omega
end Go.Proofs.YtjklbhdhjfifhaaGreat
