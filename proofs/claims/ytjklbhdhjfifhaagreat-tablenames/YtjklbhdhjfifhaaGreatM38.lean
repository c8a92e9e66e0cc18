import Derived.Test.YtjklbhdhjfifhaaGreatM33
import Derived.Deep.RegionHeld
import Derived.Deep.Light
/-
  The first block, the first entry, that is not ahead.
-/
namespace Go.Proofs.YtjklbhdhjfifhaaGreat
open Go.RowKit
set_option maxRecDepth 100000
set_option maxHeartbeats 4000000
def F86 (u : World) (gx gs b o : Nat) (g : Nat) (n pc i : Nat) (tk : List (BitVec 8)) (ts : Nat) (tkd : Int) (tv : List (BitVec 8)) (tka : Option Addr) (tkc : Nat) (tva : Option Addr) (tvc : Nat) (sa : Option Addr) (sn sc sq : Nat) (sk : Int) (sva : Option Addr) (svn svc : Nat) : Prop :=
  u.cell? ⟨gx, 0, none⟩ = some (.pointer (some ⟨b, o, none⟩)) ∧ u.cell? ⟨b, o, none⟩ = some (.slice (some ⟨g, 0, none⟩) n pc) ∧ u.cell? ⟨g, i * 6 + 2, none⟩ = some (.slice tka tk.length tkc) ∧ u.cell? ⟨g, i * 6 + 3, none⟩ = some (.int .u64 (ts : Nat)) ∧ u.cell? ⟨g, i * 6 + 4, none⟩ = some (.int .i64 tkd) ∧ u.cell? ⟨g, i * 6 + 5, none⟩ = some (.slice tva tv.length tvc) ∧
    u.cell? ⟨gs, 0, none⟩ = some (.slice sa sn sc) ∧ u.cell? ⟨gs, 1, none⟩ = some (.int .u64 (sq : Nat)) ∧ u.cell? ⟨gs, 2, none⟩ = some (.int .i64 sk) ∧ u.cell? ⟨gs, 3, none⟩ = some (.slice sva svn svc)
def F90 (u : World) (gx gs b off n c i : Nat) (tk : List (BitVec 8)) (ts : Nat) (tkd : Int) (tv : List (BitVec 8)) (tka : Option Addr) (tkc : Nat) (tva : Option Addr) (tvc : Nat) (sa : Option Addr) (sn sc sq : Nat) (sk : Int) (sva : Option Addr) (svn svc : Nat) : Prop :=
  u.cell? ⟨gx, 0, none⟩ = some (.slice (some ⟨b, off, none⟩) n c) ∧ u.cell? ⟨b, off + i * 4, none⟩ = some (.slice tka tk.length tkc) ∧ u.cell? ⟨b, off + i * 4 + 1, none⟩ = some (.int .u64 (ts : Nat)) ∧ u.cell? ⟨b, off + i * 4 + 2, none⟩ = some (.int .i64 tkd) ∧ u.cell? ⟨b, off + i * 4 + 3, none⟩ = some (.slice tva tv.length tvc) ∧
    u.cell? ⟨gs, 0, none⟩ = some (.slice sa sn sc) ∧ u.cell? ⟨gs, 1, none⟩ = some (.int .u64 (sq : Nat)) ∧ u.cell? ⟨gs, 2, none⟩ = some (.int .i64 sk) ∧ u.cell? ⟨gs, 3, none⟩ = some (.slice sva svn svc)
theorem find1_any (gx gs b o g n pc i : Nat) (te : Ent) (tka tva : Option Addr) (tkc tvc : Nat) (sa sva : Option Addr) (sn sc sq svn svc : Nat) (sk : Int) (key : List (BitVec 8)) (w : World) (hin : i < n)
    (hS : F86 w gx gs b o g n pc i te.key te.seq te.kind te.val tka tkc tva tvc sa sn sc sq sk sva svn svc) (h1 : Bytes w (.slice tka te.key.length tkc) te.key) (h2 : Bytes w (.slice sa sn sc) key) :
    Calls Tryz.prog 86 #[.int .i64 (i : Nat), .pointer (some ⟨gx, 0, none⟩), .pointer (some ⟨gs, 0, none⟩)] w fun e w' => e = .returned (.bool (decide (0 ≤ cmpE (te.key, te.seq) (key, sq)))) ∧ Below w.heap.size w w' := by
  have SK := hide (fun (u : World) (t : Turns (fun _ => False) w u) => show F86 u gx gs b o g n pc i te.key te.seq te.kind te.val tka tkc tva tvc sa sn sc sq sk sva svn svc from by
    obtain ⟨d0, d1, t0, t1, t2, t3, s0, s1, s2, s3⟩ := hS
    exact ⟨t.cell d0 (fun x => x), t.cell d1 (fun x => x), t.cell t0 (fun x => x), t.cell t1 (fun x => x), t.cell t2 (fun x => x), t.cell t3 (fun x => x), t.cell s0 (fun x => x), t.cell s1 (fun x => x), t.cell s2 (fun x => x), t.cell s3 (fun x => x)⟩)
  have CP := hide (fun (u : World) (t : Turns (fun _ => False) w u) => compare_any tka sa tva sva te.key.length tkc te.val.length tvc sn sc svn svc te.kind sk te.seq sq te.key key u (h1.quiet t) (h2.quiet t))
  generalize hcv : cmpE (te.key, te.seq) (key, sq) = cv at *
  have i0 : (0 : Int) ≤ (i : Int) := by omega
  have i1 : (i : Int) < (n : Int) := by omega
  clear hS h1 h2 hcv
  go_enter Tryz.func86, Tryz.ntmps86
  go_upto_region 1 with (fail)
  have tV : Turns (fun _ => False) w w.drew := (Turns.refl _ _).drew
  refine wp_region_held_drew (S := fun u => F86 u gx gs b o g n pc i te.key te.seq te.kind te.val tka tkc tva tvc sa sn sc sq sk sva svn svc) (by kernel_rfl) (SK.out _ tV) (fun _ => ?_)
  change wpAnyH _ _ _ _ _ 12 (Array.replicate 12 false) _ _
  refine wpAnyH_take (i := 0) (oi := { dst := some 5, op := Op.load 116 (Operand.tmp 1), type := 116, pos := "index.go:53", after := #[], guard := none }) (v := .pointer (some ⟨b, o, none⟩)) rfl (by kernel_rfl) (by kernel_rfl) (by kernel_rfl) (fun _ _ _ h => h) (Or.inl ⟨by rfl, ?_⟩) (SK.out _ tV) ?_
  · rintro w ⟨d0, d1, t0, t1, t2, t3, s0, s1, s2, s3⟩
    go_simp
  simp only [Act.put, List.setIfInBounds_toArray, List.set_cons_zero, List.set_cons_succ]
  refine wpAnyH_take (i := 1) (oi := { dst := some 6, op := Op.nilCheck (Operand.tmp 5), type := 0, pos := "index.go:53", after := #[{ on := 0, ground := Ground.data }], guard := none }) (v := .pointer (some ⟨b, o, none⟩)) rfl (by kernel_rfl) (by kernel_rfl) (by kernel_rfl) (fun _ _ _ h => h) (Or.inl ⟨by rfl, ?_⟩) (SK.out _ tV) ?_
  · rintro w ⟨d0, d1, t0, t1, t2, t3, s0, s1, s2, s3⟩
    go_simp
  simp only [Act.put, List.setIfInBounds_toArray, List.set_cons_zero, List.set_cons_succ]
  refine wpAnyH_take (i := 2) (oi := { dst := some 7, op := Op.fieldAddr 55 (Operand.tmp 6) 0, type := 0, pos := "index.go:53", after := #[{ on := 1, ground := Ground.data }], guard := none }) (v := .pointer (some ⟨b, o, none⟩)) rfl (by kernel_rfl) (by kernel_rfl) (by kernel_rfl) (fun _ _ _ h => h) (Or.inl ⟨by rfl, ?_⟩) (SK.out _ tV) ?_
  · rintro w ⟨d0, d1, t0, t1, t2, t3, s0, s1, s2, s3⟩
    go_simp
  simp only [Act.put, List.setIfInBounds_toArray, List.set_cons_zero, List.set_cons_succ]
  refine wpAnyH_take (i := 3) (oi := { dst := some 8, op := Op.load 53 (Operand.tmp 7), type := 53, pos := "index.go:53", after := #[{ on := 2, ground := Ground.data }], guard := none }) (v := .slice (some ⟨g, 0, none⟩) n pc) rfl (by kernel_rfl) (by kernel_rfl) (by kernel_rfl) (fun _ _ _ h => h) (Or.inl ⟨by rfl, ?_⟩) (SK.out _ tV) ?_
  · rintro w ⟨d0, d1, t0, t1, t2, t3, s0, s1, s2, s3⟩
    go_simp
  simp only [Act.put, List.setIfInBounds_toArray, List.set_cons_zero, List.set_cons_succ]
  refine wpAnyH_take (i := 4) (oi := { dst := some 9, op := Op.move (Operand.tmp 0), type := 3, pos := "index.go:53", after := #[], guard := none }) (v := .int .i64 (i : Nat)) rfl (by kernel_rfl) (by kernel_rfl) (by kernel_rfl) (fun _ _ _ h => h) (Or.inl ⟨by rfl, ?_⟩) (SK.out _ tV) ?_
  · rintro w ⟨d0, d1, t0, t1, t2, t3, s0, s1, s2, s3⟩
    go_simp
  simp only [Act.put, List.setIfInBounds_toArray, List.set_cons_zero, List.set_cons_succ]
  refine wpAnyH_take (i := 5) (oi := { dst := some 10, op := Op.indexAddr 53 (Operand.tmp 8) (Operand.tmp 9), type := 0, pos := "index.go:53", after := #[{ on := 3, ground := Ground.data }, { on := 4, ground := Ground.data }], guard := none }) (v := .pointer (some ⟨g, i * 6, none⟩)) rfl (by kernel_rfl) (by kernel_rfl) (by kernel_rfl) (fun _ _ _ h => h) (Or.inl ⟨by rfl, ?_⟩) (SK.out _ tV) ?_
  · rintro w ⟨d0, d1, t0, t1, t2, t3, s0, s1, s2, s3⟩
    go_simp
  simp only [Act.put, List.setIfInBounds_toArray, List.set_cons_zero, List.set_cons_succ]
  refine wpAnyH_take (i := 6) (oi := { dst := some 11, op := Op.fieldAddr 147 (Operand.tmp 10) 2, type := 0, pos := "index.go:53", after := #[{ on := 5, ground := Ground.data }], guard := none }) (v := .pointer (some ⟨g, i * 6 + 2, none⟩)) rfl (by kernel_rfl) (by kernel_rfl) (by kernel_rfl) (fun _ _ _ h => h) (Or.inl ⟨by rfl, ?_⟩) (SK.out _ tV) ?_
  · rintro w ⟨d0, d1, t0, t1, t2, t3, s0, s1, s2, s3⟩
    go_simp
  simp only [Act.put, List.setIfInBounds_toArray, List.set_cons_zero, List.set_cons_succ]
  refine wpAnyH_take (i := 7) (oi := { dst := some 12, op := Op.load 35 (Operand.tmp 11), type := 35, pos := "index.go:53", after := #[{ on := 6, ground := Ground.data }], guard := none }) (v := .agg #[.slice tka te.key.length tkc, .int .u64 (te.seq : Nat), .int .i64 te.kind, .slice tva te.val.length tvc]) rfl (by kernel_rfl) (by kernel_rfl) (by kernel_rfl) (fun _ _ _ h => h) (Or.inl ⟨by rfl, ?_⟩) (SK.out _ tV) ?_
  · rintro w ⟨d0, d1, t0, t1, t2, t3, s0, s1, s2, s3⟩
    go_simp
  simp only [Act.put, List.setIfInBounds_toArray, List.set_cons_zero, List.set_cons_succ]
  refine wpAnyH_take (i := 8) (oi := { dst := some 13, op := Op.load 35 (Operand.tmp 2), type := 35, pos := "index.go:53", after := #[], guard := none }) (v := .agg #[.slice sa sn sc, .int .u64 (sq : Nat), .int .i64 sk, .slice sva svn svc]) rfl (by kernel_rfl) (by kernel_rfl) (by kernel_rfl) (fun _ _ _ h => h) (Or.inl ⟨by rfl, ?_⟩) (SK.out _ tV) ?_
  · rintro w ⟨d0, d1, t0, t1, t2, t3, s0, s1, s2, s3⟩
    go_simp
  simp only [Act.put, List.setIfInBounds_toArray, List.set_cons_zero, List.set_cons_succ]
  refine wpAnyH_ready (rs := [9]) (by kernel_rfl) (by simp) ?_
  refine AllReadyH.cons rfl (fun K hK => ?_) AllReadyH.nil
  go_simp
  refine (CP.out _ tV).mono ?_
  rintro oo Vn ⟨rfl, b2⟩
  have tN := Turns.of_below b2 (fun _ => False)
  have tV := tV.trans tN
  clear b2 CP
  clear tN
  go_simp
  refine hK.out _ _ (SK.out _ tV) (fun _ => ?_)
  clear hK K
  refine wpAnyH_take (i := 10) (oi := { dst := some 15, op := Op.binOp BinOp.geq 3 (Operand.tmp 14) (Operand.const (Value.int IntKind.i64 0)) 3, type := 4, pos := "index.go:53", after := #[{ on := 9, ground := Ground.data }], guard := none }) (v := .bool (decide (0 ≤ cv))) rfl (by kernel_rfl) (by kernel_rfl) (by kernel_rfl) (fun _ _ _ h => h) (Or.inl ⟨by rfl, ?_⟩) (SK.out _ tV) ?_
  · rintro w ⟨d0, d1, t0, t1, t2, t3, s0, s1, s2, s3⟩
    go_simp
  simp only [Act.put, List.setIfInBounds_toArray, List.set_cons_zero, List.set_cons_succ]
  refine wpAnyH_take (i := 11) (oi := { dst := some 4, op := Op.assign (Operand.tmp 15), type := 4, pos := "index.go:53", after := #[{ on := 10, ground := Ground.data }, { on := 9, ground := Ground.chain }, { on := 0, ground := Ground.phase }, { on := 1, ground := Ground.phase }, { on := 2, ground := Ground.phase }, { on := 3, ground := Ground.phase }, { on := 4, ground := Ground.phase }, { on := 5, ground := Ground.phase }, { on := 6, ground := Ground.phase }, { on := 7, ground := Ground.phase }, { on := 8, ground := Ground.phase }, { on := 9, ground := Ground.phase }, { on := 10, ground := Ground.phase }], guard := none }) (v := .bool (decide (0 ≤ cv))) rfl (by kernel_rfl) (by kernel_rfl) (by kernel_rfl) (fun _ _ _ h => h) (Or.inl ⟨by rfl, ?_⟩) (SK.out _ tV) ?_
  · rintro w ⟨d0, d1, t0, t1, t2, t3, s0, s1, s2, s3⟩
    go_simp
  simp only [Act.put, List.setIfInBounds_toArray, List.set_cons_zero, List.set_cons_succ]
  refine wpAnyH_done (by kernel_rfl) ?_ _
  have TV := hide tV
  clear tV
  go_wp2_with fail
  go_ret
  exact ⟨rfl, TV.out.below (Nat.le_refl _) (fun _ x => x.elim)⟩
theorem ahead1_any (gx gs b off n c i : Nat) (te : Ent) (tka tva : Option Addr) (tkc tvc : Nat) (sa sva : Option Addr) (sn sc sq svn svc : Nat) (sk : Int) (key : List (BitVec 8)) (w : World) (hin : i < n)
    (hS : F90 w gx gs b off n c i te.key te.seq te.kind te.val tka tkc tva tvc sa sn sc sq sk sva svn svc) (h1 : Bytes w (.slice tka te.key.length tkc) te.key) (h2 : Bytes w (.slice sa sn sc) key) :
    Calls Tryz.prog 90 #[.int .i64 (i : Nat), .pointer (some ⟨gx, 0, none⟩), .pointer (some ⟨gs, 0, none⟩)] w fun e w' => e = .returned (.bool (decide (0 ≤ cmpE (te.key, te.seq) (key, sq)))) ∧ Below w.heap.size w w' := by
  have SK := hide (fun (u : World) (t : Turns (fun _ => False) w u) => show F90 u gx gs b off n c i te.key te.seq te.kind te.val tka tkc tva tvc sa sn sc sq sk sva svn svc from by
    obtain ⟨d0, t0, t1, t2, t3, s0, s1, s2, s3⟩ := hS
    exact ⟨t.cell d0 (fun x => x), t.cell t0 (fun x => x), t.cell t1 (fun x => x), t.cell t2 (fun x => x), t.cell t3 (fun x => x), t.cell s0 (fun x => x), t.cell s1 (fun x => x), t.cell s2 (fun x => x), t.cell s3 (fun x => x)⟩)
  have CP := hide (fun (u : World) (t : Turns (fun _ => False) w u) => compare_any tka sa tva sva te.key.length tkc te.val.length tvc sn sc svn svc te.kind sk te.seq sq te.key key u (h1.quiet t) (h2.quiet t))
  generalize hcv : cmpE (te.key, te.seq) (key, sq) = cv at *
  have i0 : (0 : Int) ≤ (i : Int) := by omega
  have i1 : (i : Int) < (n : Int) := by omega
  clear hS h1 h2 hcv
  go_enter Tryz.func90, Tryz.ntmps90
  go_upto_region 1 with (fail)
  have tV : Turns (fun _ => False) w w.drew := (Turns.refl _ _).drew
  refine wp_region_held_drew (S := fun u => F90 u gx gs b off n c i te.key te.seq te.kind te.val tka tkc tva tvc sa sn sc sq sk sva svn svc) (by kernel_rfl) (SK.out _ tV) (fun _ => ?_)
  change wpAnyH _ _ _ _ _ 8 (Array.replicate 8 false) _ _
  refine wpAnyH_take (i := 0) (oi := { dst := some 5, op := Op.load 37 (Operand.tmp 1), type := 37, pos := "read.go:81", after := #[], guard := none }) (v := .slice (some ⟨b, off, none⟩) n c) rfl (by kernel_rfl) (by kernel_rfl) (by kernel_rfl) (fun _ _ _ h => h) (Or.inl ⟨by rfl, ?_⟩) (SK.out _ tV) ?_
  · rintro w ⟨d0, t0, t1, t2, t3, s0, s1, s2, s3⟩
    go_simp
  simp only [Act.put, List.setIfInBounds_toArray, List.set_cons_zero, List.set_cons_succ]
  refine wpAnyH_take (i := 1) (oi := { dst := some 6, op := Op.move (Operand.tmp 0), type := 3, pos := "read.go:81", after := #[], guard := none }) (v := .int .i64 (i : Nat)) rfl (by kernel_rfl) (by kernel_rfl) (by kernel_rfl) (fun _ _ _ h => h) (Or.inl ⟨by rfl, ?_⟩) (SK.out _ tV) ?_
  · rintro w ⟨d0, t0, t1, t2, t3, s0, s1, s2, s3⟩
    go_simp
  simp only [Act.put, List.setIfInBounds_toArray, List.set_cons_zero, List.set_cons_succ]
  refine wpAnyH_take (i := 2) (oi := { dst := some 7, op := Op.indexAddr 37 (Operand.tmp 5) (Operand.tmp 6), type := 0, pos := "read.go:81", after := #[{ on := 0, ground := Ground.data }, { on := 1, ground := Ground.data }], guard := none }) (v := .pointer (some ⟨b, off + i * 4, none⟩)) rfl (by kernel_rfl) (by kernel_rfl) (by kernel_rfl) (fun _ _ _ h => h) (Or.inl ⟨by rfl, ?_⟩) (SK.out _ tV) ?_
  · rintro w ⟨d0, t0, t1, t2, t3, s0, s1, s2, s3⟩
    go_simp
  simp only [Act.put, List.setIfInBounds_toArray, List.set_cons_zero, List.set_cons_succ]
  refine wpAnyH_take (i := 3) (oi := { dst := some 8, op := Op.load 35 (Operand.tmp 7), type := 35, pos := "read.go:81", after := #[{ on := 2, ground := Ground.data }], guard := none }) (v := .agg #[.slice tka te.key.length tkc, .int .u64 (te.seq : Nat), .int .i64 te.kind, .slice tva te.val.length tvc]) rfl (by kernel_rfl) (by kernel_rfl) (by kernel_rfl) (fun _ _ _ h => h) (Or.inl ⟨by rfl, ?_⟩) (SK.out _ tV) ?_
  · rintro w ⟨d0, t0, t1, t2, t3, s0, s1, s2, s3⟩
    go_simp
  simp only [Act.put, List.setIfInBounds_toArray, List.set_cons_zero, List.set_cons_succ]
  refine wpAnyH_take (i := 4) (oi := { dst := some 9, op := Op.load 35 (Operand.tmp 2), type := 35, pos := "read.go:81", after := #[], guard := none }) (v := .agg #[.slice sa sn sc, .int .u64 (sq : Nat), .int .i64 sk, .slice sva svn svc]) rfl (by kernel_rfl) (by kernel_rfl) (by kernel_rfl) (fun _ _ _ h => h) (Or.inl ⟨by rfl, ?_⟩) (SK.out _ tV) ?_
  · rintro w ⟨d0, t0, t1, t2, t3, s0, s1, s2, s3⟩
    go_simp
  simp only [Act.put, List.setIfInBounds_toArray, List.set_cons_zero, List.set_cons_succ]
  refine wpAnyH_ready (rs := [5]) (by kernel_rfl) (by simp) ?_
  refine AllReadyH.cons rfl (fun K hK => ?_) AllReadyH.nil
  go_simp
  refine (CP.out _ tV).mono ?_
  rintro oo Vn ⟨rfl, b2⟩
  have tN := Turns.of_below b2 (fun _ => False)
  have tV := tV.trans tN
  clear b2 CP
  clear tN
  go_simp
  refine hK.out _ _ (SK.out _ tV) (fun _ => ?_)
  clear hK K
  refine wpAnyH_take (i := 6) (oi := { dst := some 11, op := Op.binOp BinOp.geq 3 (Operand.tmp 10) (Operand.const (Value.int IntKind.i64 0)) 3, type := 4, pos := "read.go:81", after := #[{ on := 5, ground := Ground.data }], guard := none }) (v := .bool (decide (0 ≤ cv))) rfl (by kernel_rfl) (by kernel_rfl) (by kernel_rfl) (fun _ _ _ h => h) (Or.inl ⟨by rfl, ?_⟩) (SK.out _ tV) ?_
  · rintro w ⟨d0, t0, t1, t2, t3, s0, s1, s2, s3⟩
    go_simp
  simp only [Act.put, List.setIfInBounds_toArray, List.set_cons_zero, List.set_cons_succ]
  refine wpAnyH_take (i := 7) (oi := { dst := some 4, op := Op.assign (Operand.tmp 11), type := 4, pos := "read.go:81", after := #[{ on := 6, ground := Ground.data }, { on := 5, ground := Ground.chain }, { on := 0, ground := Ground.phase }, { on := 1, ground := Ground.phase }, { on := 2, ground := Ground.phase }, { on := 3, ground := Ground.phase }, { on := 4, ground := Ground.phase }, { on := 5, ground := Ground.phase }, { on := 6, ground := Ground.phase }], guard := none }) (v := .bool (decide (0 ≤ cv))) rfl (by kernel_rfl) (by kernel_rfl) (by kernel_rfl) (fun _ _ _ h => h) (Or.inl ⟨by rfl, ?_⟩) (SK.out _ tV) ?_
  · rintro w ⟨d0, t0, t1, t2, t3, s0, s1, s2, s3⟩
    go_simp
  simp only [Act.put, List.setIfInBounds_toArray, List.set_cons_zero, List.set_cons_succ]
  refine wpAnyH_done (by kernel_rfl) ?_ _
  have TV := hide tV
  clear tV
  go_wp2_with fail
  go_ret
  exact ⟨rfl, TV.out.below (Nat.le_refl _) (fun _ x => x.elim)⟩
/-- Whether a place's last entry is not ahead. -/
def plcNot (l : List Plc) (q : En) (i : Nat) : Bool := match l[i]? with
  | some p => decide (0 ≤ cmpE p.t.e.en q)
  | none => false
def towNot (l : List Tow) (q : En) (i : Nat) : Bool := match l[i]? with
  | some x => decide (0 ≤ cmpE x.e.en q)
  | none => false
/-- What sought is, as it is handed in. -/
def sgt (sa : Option Addr) (sn sc sq : Nat) (sk : Int) (sva : Option Addr) (svn svc : Nat) : Array Value := #[.slice sa sn sc, .int .u64 (sq : Nat), .int .i64 sk, .slice sva svn svc]
theorem enters86 (h : Int) (c0 c1 : Value) (w : World) : (callFunc 86 #[.int .i64 h, c0, c1]).run Tryz.prog w = .ok (.enter 86 #[.int .i64 h, c0, c1]) w := by kernel_rfl
theorem enters90 (h : Int) (c0 c1 : Value) (w : World) : (callFunc 90 #[.int .i64 h, c0, c1]).run Tryz.prog w = .ok (.enter 90 #[.int .i64 h, c0, c1]) w := by kernel_rfl
theorem find_any (b o B : Nat) (l : List Plc) (pa : Option Addr) (pc : Nat) (sa sva : Option Addr) (sn sc sq svn svc : Nat) (sk : Int) (key : List (BitVec 8)) (w : World) (hc : w.cell? ⟨b, o, none⟩ = some (.slice pa l.length pc)) (hl : l.length ≤ 1000000) (hrow : PRow w B (.slice pa l.length pc) l) (hby : ∀ p, p ∈ l → Bytes w p.t.kv p.t.e.key) (h2 : Bytes w (.slice sa sn sc) key)
    (hm : ∀ i j, i ≤ j → j < l.length → plcNot l (key, sq) i = true → plcNot l (key, sq) j = true) :
    Calls Tryz.prog 43 #[.pointer (some ⟨b, o, none⟩), .agg #[.slice sa sn sc, .int .u64 (sq : Nat), .int .i64 sk, .slice sva svn svc]] w fun e w' => ∃ k : Nat, e = .returned (.int .i64 (k : Nat)) ∧ Found (plcNot l (key, sq)) l.length k ∧ Below w.heap.size w w' := by
  have b1 : Below w.heap.size w (w.alloc (.cells #[.pointer (some ⟨b, o, none⟩)] 116)) := (Below.refl _ _).alloc (Nat.le_refl _) _
  have b2 : Below w.heap.size w ((w.alloc (.cells #[.pointer (some ⟨b, o, none⟩)] 116)).alloc (.cells #[.slice sa sn sc, .int .u64 (sq : Nat), .int .i64 sk, .slice sva svn svc] 35)) := b1.alloc b1.size _
  have t2 := Turns.of_below b2 (fun _ => False)
  have hs1 : (w.alloc (.cells #[.pointer (some ⟨b, o, none⟩)] 116)).heap.size = w.heap.size + 1 := by simp
  have n1 : ((w.alloc (.cells #[.pointer (some ⟨b, o, none⟩)] 116)).alloc (.cells #[.slice sa sn sc, .int .u64 (sq : Nat), .int .i64 sk, .slice sva svn svc] 35)).heap[w.heap.size]? = some (.cells #[.pointer (some ⟨b, o, none⟩)] 116 (0, 0)) := (heap_alloc_old _ _ (by simp)).trans (heap_alloc_new w _)
  have n2 := heap_alloc_new (w.alloc (.cells #[.pointer (some ⟨b, o, none⟩)] 116)) (.cells #[.slice sa sn sc, .int .u64 (sq : Nat), .int .i64 sk, .slice sva svn svc] 35)
  rw [hs1] at n2
  have SE := hide (search_any 86 (.pointer (some ⟨w.heap.size, 0, none⟩)) (.pointer (some ⟨w.heap.size + 1, 0, none⟩)) (fun h w => enters86 h _ _ w) (plcNot l (key, sq)) l.length hl ((w.alloc (.cells #[.pointer (some ⟨b, o, none⟩)] 116)).alloc (.cells #[.slice sa sn sc, .int .u64 (sq : Nat), .int .i64 sk, .slice sva svn svc] 35))
    (fun h hh u t => by
      obtain ⟨p, hp⟩ : ∃ p, l[h]? = some p := ⟨_, List.getElem?_eq_getElem hh⟩
      obtain ⟨g, c, hv, hcell⟩ := ((hrow.keep t2 (fun _ _ x => x)).keep t (fun _ _ x => x)).at_ hp
      obtain ⟨rfl, rfl⟩ : pa = some ⟨g, 0, none⟩ ∧ pc = c := by cases hv; exact ⟨rfl, rfl⟩
      have hb := (hby p (List.mem_of_getElem? hp)).quiet (t2.trans t)
      have hN : plcNot l (key, sq) h = decide (0 ≤ cmpE (p.t.e.key, p.t.e.seq) (key, sq)) := by unfold plcNot; rw [hp]; rfl
      rw [hN]
      obtain ⟨pos, size, tka, tkc, tva, tvc, te⟩ := p
      exact find1_any w.heap.size (w.heap.size + 1) b o g l.length pc h te tka tva tkc tvc sa sva sn sc sq svn svc sk key u hh
        ⟨cell_of_row u _ 0 _ 116 (0, 0) (t.heap n1 (fun x => x)), t.cell (t2.cell hc (fun x => x)) (fun x => x), hcell 2 _ rfl, hcell 3 _ rfl, hcell 4 _ rfl, hcell 5 _ rfl, cell_of_row u _ 0 _ 35 (0, 0) (t.heap n2 (fun x => x)), cell_of_row u _ 1 _ 35 (0, 0) (t.heap n2 (fun x => x)), cell_of_row u _ 2 _ 35 (0, 0) (t.heap n2 (fun x => x)), cell_of_row u _ 3 _ 35 (0, 0) (t.heap n2 (fun x => x))⟩ hb (h2.quiet (t2.trans t))) hm)
  have B2 := hide b2
  have d0 := t2.cell hc (fun x => x)
  clear hc hrow hby h2 hm b1 b2 t2 hs1 n1 n2
  generalize hP : plcNot l (key, sq) = P at *
  have HP := hide hP
  clear hP
  go_enter Tryz.func43, Tryz.ntmps43
  go_wp2_with fail
  refine SE.out.mono ?_
  rintro e w3 ⟨k, rfl, hk, b3⟩
  have HK := hide hk
  have B3 := hide (B2.out.trans (b3.mono B2.out.size))
  clear hk b3 SE
  go_wp2_with fail
  go_ret
  exact ⟨k, rfl, HK.out, B3.out⟩
theorem ahead_any (b off n c : Nat) (l : List Tow) (sa sva : Option Addr) (sn sc sq svn svc : Nat) (sk : Int) (key : List (BitVec 8)) (w : World) (h : Ents w (some ⟨b, off, none⟩) l) (hn : n = l.length) (hl : n ≤ 1000000) (h2 : Bytes w (.slice sa sn sc) key)
    (hm : ∀ i j, i ≤ j → j < l.length → towNot l (key, sq) i = true → towNot l (key, sq) j = true) :
    Calls Tryz.prog 45 #[.slice (some ⟨b, off, none⟩) n c, .agg #[.slice sa sn sc, .int .u64 (sq : Nat), .int .i64 sk, .slice sva svn svc]] w fun e w' => ∃ k : Nat, e = .returned (.slice (some ⟨b, if c = k then off else off + k * 4, none⟩) (n - k) (c - k)) ∧ Found (towNot l (key, sq)) l.length k ∧ Below w.heap.size w w' := by
  have b1 : Below w.heap.size w (w.alloc (.cells #[.slice (some ⟨b, off, none⟩) n c] 37)) := (Below.refl _ _).alloc (Nat.le_refl _) _
  have b2 : Below w.heap.size w ((w.alloc (.cells #[.slice (some ⟨b, off, none⟩) n c] 37)).alloc (.cells #[.slice sa sn sc, .int .u64 (sq : Nat), .int .i64 sk, .slice sva svn svc] 35)) := b1.alloc b1.size _
  have t2 := Turns.of_below b2 (fun _ => False)
  have hs1 : (w.alloc (.cells #[.slice (some ⟨b, off, none⟩) n c] 37)).heap.size = w.heap.size + 1 := by simp
  have n1 : ((w.alloc (.cells #[.slice (some ⟨b, off, none⟩) n c] 37)).alloc (.cells #[.slice sa sn sc, .int .u64 (sq : Nat), .int .i64 sk, .slice sva svn svc] 35)).heap[w.heap.size]? = some (.cells #[.slice (some ⟨b, off, none⟩) n c] 37 (0, 0)) := (heap_alloc_old _ _ (by simp)).trans (heap_alloc_new w _)
  have n2 := heap_alloc_new (w.alloc (.cells #[.slice (some ⟨b, off, none⟩) n c] 37)) (.cells #[.slice sa sn sc, .int .u64 (sq : Nat), .int .i64 sk, .slice sva svn svc] 35)
  rw [hs1] at n2
  have SE := hide (search_any 90 (.pointer (some ⟨w.heap.size, 0, none⟩)) (.pointer (some ⟨w.heap.size + 1, 0, none⟩)) (fun h w => enters90 h _ _ w) (towNot l (key, sq)) n hl ((w.alloc (.cells #[.slice (some ⟨b, off, none⟩) n c] 37)).alloc (.cells #[.slice sa sn sc, .int .u64 (sq : Nat), .int .i64 sk, .slice sva svn svc] 35))
    (fun i hi u t => by
      obtain ⟨p, hp⟩ : ∃ p, l[i]? = some p := ⟨_, List.getElem?_eq_getElem (by omega)⟩
      obtain ⟨⟨b', off', e', hcell⟩, hb, _⟩ := (h.quiet (t2.trans t)) i p hp
      cases e'
      have hN : towNot l (key, sq) i = decide (0 ≤ cmpE (p.e.key, p.e.seq) (key, sq)) := by unfold towNot; rw [hp]; rfl
      rw [hN]
      obtain ⟨tka, tkc, tva, tvc, te⟩ := p
      exact ahead1_any w.heap.size (w.heap.size + 1) b off n c i te tka tva tkc tvc sa sva sn sc sq svn svc sk key u hi
        ⟨cell_of_row u _ 0 _ 37 (0, 0) (t.heap n1 (fun x => x)), hcell 0 _ rfl, hcell 1 _ rfl, hcell 2 _ rfl, hcell 3 _ rfl, cell_of_row u _ 0 _ 35 (0, 0) (t.heap n2 (fun x => x)), cell_of_row u _ 1 _ 35 (0, 0) (t.heap n2 (fun x => x)), cell_of_row u _ 2 _ 35 (0, 0) (t.heap n2 (fun x => x)), cell_of_row u _ 3 _ 35 (0, 0) (t.heap n2 (fun x => x))⟩ hb (h2.quiet (t2.trans t))) (by rw [hn]; exact hm))
  have B2 := hide b2
  have N1 := hide n1
  have HN := hide hn
  clear h h2 hm b1 b2 t2 hs1 n1 n2 hn
  generalize hP : towNot l (key, sq) = P at *
  have HP := hide hP
  clear hP
  go_enter Tryz.func45, Tryz.ntmps45
  go_wp2_with fail
  refine SE.out.mono ?_
  rintro e w3 ⟨k, rfl, hk, b3⟩
  have HK := hide hk
  have B3 := hide (B2.out.trans (b3.mono B2.out.size))
  have z0 : w3.cell? ⟨w.heap.size, 0, none⟩ = some (.slice (some ⟨b, off, none⟩) n c) := cell_of_row w3 _ 0 _ 37 (0, 0) (heap_keep b3 N1.out)
  have hkn : k ≤ n := hk.1
  clear hk b3 SE
  by_cases hck : c = k
  · go_wp2_with fail
    all_goals go_ret
    all_goals first | omega | exact ⟨k, by rw [if_pos hck, show c - k = 0 by omega]; rfl, by rw [← HN.out]; exact HK.out, B3.out⟩
  · go_wp2_with fail
    all_goals go_ret
    all_goals first | omega | exact ⟨k, by rw [if_neg hck]; rfl, by rw [← HN.out]; exact HK.out, B3.out⟩
end Go.Proofs.YtjklbhdhjfifhaaGreat
