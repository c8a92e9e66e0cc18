import Derived.Test.YtjklbhdhjfifhaaGreatM42
import Derived.Test.YtjklbhdhjfifhaaGreatM33
import Derived.Test.YtjklbhdhjfifhaaGreatM05
/-
  What a row tells of its table.
-/
namespace Go.Proofs.YtjklbhdhjfifhaaGreat
open Go.RowKit Go.Shelf
set_option maxRecDepth 100000
set_option maxHeartbeats 4000000
def At4 (u : World) (b o : Nat) (ka : Option Addr) (kc : Nat) (va : Option Addr) (vc : Nat) (e : Ent) : Prop :=
  u.cell? ⟨b, o, none⟩ = some (.slice ka e.key.length kc) ∧ u.cell? ⟨b, o + 1, none⟩ = some (.int .u64 (e.seq : Nat)) ∧ u.cell? ⟨b, o + 2, none⟩ = some (.int .i64 e.kind) ∧ u.cell? ⟨b, o + 3, none⟩ = some (.slice va e.val.length vc)
theorem At4.turns {S : Nat → Prop} {w u : World} {b o : Nat} {ka : Option Addr} {kc : Nat} {va : Option Addr} {vc : Nat} {e : Ent} (h : At4 w b o ka kc va vc e) (t : Turns S w u) (hb : ¬ S b) : At4 u b o ka kc va vc e :=
  ⟨t.cell h.1 hb, t.cell h.2.1 hb, t.cell h.2.2.1 hb, t.cell h.2.2.2 hb⟩
theorem Ents.at4 {w : World} {b off : Nat} {l : List Tow} (h : Ents w (some ⟨b, off, none⟩) l) {k : Nat} {ka : Option Addr} {kc : Nat} {va : Option Addr} {vc : Nat} {e : Ent} (hx : l[k]? = some ⟨ka, kc, va, vc, e⟩) : At4 w b (off + k * 4) ka kc va vc e := by
  obtain ⟨⟨b', off', e', hc⟩, _⟩ := h k _ hx
  cases e'
  exact ⟨hc 0 _ rfl, hc 1 _ rfl, hc 2 _ rfl, hc 3 _ rfl⟩
abbrev e35 (ka : Option Addr) (kc : Nat) (va : Option Addr) (vc : Nat) (e : Ent) : Array Value := #[.slice ka e.key.length kc, .int .u64 (e.seq : Nat), .int .i64 e.kind, .slice va e.val.length vc]
theorem two_new (w : World) (A B : Array Value) (t : Nat) : (((w.alloc (.cells A t)).alloc (.cells B t)).drew).heap[w.heap.size]? = some (.cells A t (0, 0)) ∧ (((w.alloc (.cells A t)).alloc (.cells B t)).drew).heap[w.heap.size + 1]? = some (.cells B t (0, 0)) := by
  have h1 : (w.alloc (.cells A t)).heap.size = w.heap.size + 1 := by simp
  refine ⟨(heap_alloc_old (w.alloc (.cells A t)) _ (by omega)).trans (heap_alloc_new w _), ?_⟩
  rw [← h1]
  exact heap_alloc_new _ _
theorem two_turns (w : World) (x y : Obj) : Turns (fun _ => False) w ((w.alloc x).alloc y).drew := (((Turns.refl _ _).alloc x).alloc y).drew
theorem bytes_over8 {w w' : World} {g T : Nat} {cs : Array Value} {v : Value} {bs : List (BitVec 8)} (h : Bytes w v bs) (hg : w.heap[g]? = some (.cells cs T (0, 0))) (hno : noU8 cs) (t : Turns (fun k => k = g) w w') : Bytes w' v bs := by
  obtain ⟨a, c, e, h6⟩ := h
  refine ⟨a, c, e, fun k hk => ?_⟩
  obtain ⟨q, off, ea, hcell⟩ := h6 k hk
  refine ⟨q, off, ea, t.cell hcell (fun e2 => ?_)⟩
  have e3 : q = g := e2
  rw [e3, cell_of_row w g _ cs T (0, 0) hg] at hcell
  exact hno _ _ hcell
abbrev i42 (n : Int) (a1 : Option Addr) (n1 c1 : Nat) (a2 : Option Addr) (n2 c2 : Nat) (lo hi : Nat) : Array Value := #[.int .i64 n, .int .i64 0, .int .i64 0, .slice a1 n1 c1, .slice a2 n2 c2, .int .u64 (lo : Nat), .int .u64 (hi : Nat)]
theorem noU8_42 (n : Int) (a1 : Option Addr) (n1 c1 : Nat) (a2 : Option Addr) (n2 c2 : Nat) (lo hi : Nat) : noU8 (i42 n a1 n1 c1 a2 n2 c2 lo hi) := by
  intro k z h
  match k with
  | 0 | 1 | 2 | 3 | 4 | 5 | 6 => simp [i42] at h
  | k + 7 => simp [i42] at h
theorem row42 {W : World} {G : Nat} {y0 y1 y2 y3 y4 y5 y6 : Value} (h : W.heap[G]? = some (.cells #[y0, y1, y2, y3, y4, y5, y6] 42 (0, 0))) (x0 x1 x2 x3 x4 x5 x6 : Value) :
    (((((((W.setCell ⟨G, 0, none⟩ x0).setCell ⟨G, 1, none⟩ x1).setCell ⟨G, 2, none⟩ x2).setCell ⟨G, 3, none⟩ x3).setCell ⟨G, 4, none⟩ x4).setCell ⟨G, 5, none⟩ x5).setCell ⟨G, 6, none⟩ x6).heap[G]? = some (.cells #[x0, x1, x2, x3, x4, x5, x6] 42 (0, 0)) ∧
    Turns (fun k => k = G) W (((((((W.setCell ⟨G, 0, none⟩ x0).setCell ⟨G, 1, none⟩ x1).setCell ⟨G, 2, none⟩ x2).setCell ⟨G, 3, none⟩ x3).setCell ⟨G, 4, none⟩ x4).setCell ⟨G, 5, none⟩ x5).setCell ⟨G, 6, none⟩ x6) := by
  have T := (((((((Tick.refl h).set 0 x0).set 1 x1).set 2 x2).set 3 x3).set 4 x4).set 5 x5).set 6 x6
  exact ⟨by simpa using T.1, Turns.of_tick T⟩
/-- What infoOf has noted so far. -/
structure InfI (w wr : World) (p G : Nat) (a1 : Option Addr) (c1 : Nat) (ek : List (BitVec 8)) (a2 : Option Addr) (c2 : Nat) (fk : List (BitVec 8)) (lo hi : Nat) : Prop where
  g : wr.heap[G]? = some (.cells (i42 ((p : Int) + 1) a1 ek.length c1 a2 fk.length c2 lo hi) 42 (0, 0))
  gs : w.heap.size < G
  b1 : Bytes wr (.slice a1 ek.length c1) ek
  b2 : Bytes wr (.slice a2 fk.length c2) fk
  x1 : ∀ x, a1 = some x → w.heap.size ≤ x.block ∧ x.block < wr.heap.size
  x2 : ∀ x, a2 = some x → w.heap.size ≤ x.block ∧ x.block < wr.heap.size
  nz : wr.heap[w.heap.size]? = some (.cells (i42 0 none 0 0 none 0 0 0 0) 42 (0, 0))
  tt : Turns (fun _ => False) w wr
theorem InfI.quiet {w wr u : World} {p G : Nat} {a1 : Option Addr} {c1 : Nat} {ek : List (BitVec 8)} {a2 : Option Addr} {c2 : Nat} {fk : List (BitVec 8)} {lo hi : Nat} (h : InfI w wr p G a1 c1 ek a2 c2 fk lo hi) (t : Turns (fun _ => False) wr u) : InfI w u p G a1 c1 ek a2 c2 fk lo hi :=
  ⟨t.heap h.g (fun x => x), h.gs, h.b1.quiet t, h.b2.quiet t, fun x hx => ⟨(h.x1 x hx).1, Nat.lt_of_lt_of_le (h.x1 x hx).2 t.size⟩, fun x hx => ⟨(h.x2 x hx).1, Nat.lt_of_lt_of_le (h.x2 x hx).2 t.size⟩, t.heap h.nz (fun x => x), h.tt.trans t⟩
theorem InfI.set {w wr : World} {p G : Nat} {a1 : Option Addr} {c1 : Nat} {ek : List (BitVec 8)} {a2 : Option Addr} {c2 : Nat} {fk : List (BitVec 8)} {lo hi : Nat} (h : InfI w wr p G a1 c1 ek a2 c2 fk lo hi) (lo' hi' : Nat) : InfI w ((wr.setCell ⟨G, 5, none⟩ (.int .u64 (lo' : Nat))).setCell ⟨G, 6, none⟩ (.int .u64 (hi' : Nat))) p G a1 c1 ek a2 c2 fk lo' hi' := by
  have T := ((Tick.refl h.g).set 5 (.int .u64 (lo' : Nat))).set 6 (.int .u64 (hi' : Nat))
  have t := Turns.of_tick T
  have hgs := h.gs
  refine ⟨by simpa [i42] using T.1, h.gs, bytes_over8 h.b1 h.g (noU8_42 _ _ _ _ _ _ _ _ _) t, bytes_over8 h.b2 h.g (noU8_42 _ _ _ _ _ _ _ _ _) t, fun x hx => ⟨(h.x1 x hx).1, Nat.lt_of_lt_of_le (h.x1 x hx).2 t.size⟩, fun x hx => ⟨(h.x2 x hx).1, Nat.lt_of_lt_of_le (h.x2 x hx).2 t.size⟩, t.heap h.nz (fun e => by omega), h.tt.andThen t fun k hk e => by omega⟩
theorem info42u : (Tryz.prog.info? 42).map (·.size) = some 7 := by kernel_rfl
theorem infoOf_any (b off n c : Nat) (l : List Tow) (w : World) (h : Ents w (some ⟨b, off, none⟩) l) (hn : n = l.length) (h1 : 1 ≤ n) (hmx : n ≤ 1000) (hnc : n ≤ c) (x0 xz : Tow) (hx0 : l[0]? = some x0) (hxz : l[n - 1]? = some xz) (hk0 : x0.e.key.length ≤ 1000000) (hkz : xz.e.key.length ≤ 1000000) :
    Calls Tryz.prog 66 #[.slice (some ⟨b, off, none⟩) n c] w fun e w' => ∃ la lc ma mc, e = .returned (.agg #[.int .i64 (n : Nat), .int .i64 0, .int .i64 0, .slice la x0.e.key.length lc, .slice ma xz.e.key.length mc, .int .u64 (loS x0.e.seq l : Nat), .int .u64 (hiS x0.e.seq l : Nat)]) ∧ Bytes w' (.slice la x0.e.key.length lc) x0.e.key ∧ Bytes w' (.slice ma xz.e.key.length mc) xz.e.key ∧ (∀ x, la = some x → w.heap.size ≤ x.block ∧ x.block < w'.heap.size) ∧ (∀ x, ma = some x → w.heap.size ≤ x.block ∧ x.block < w'.heap.size) ∧ Below w.heap.size w w' := by
  obtain ⟨p, rfl⟩ : ∃ p, n = p + 1 := ⟨n - 1, by omega⟩
  rw [Nat.add_sub_cancel] at hxz
  have HE := hide h
  have HN := hide hn
  obtain ⟨ka, kc, va, vc, e⟩ := x0
  obtain ⟨ja, jc, ua, uc, f⟩ := xz
  have T0 := hide ((Turns.refl (fun _ => False) w).alloc (.cells #[.int .i64 0, .int .i64 0, .int .i64 0, .slice none 0 0, .slice none 0 0, .int .u64 0, .int .u64 0] 42))
  have N0 := hide (heap_alloc_new w (.cells #[.int .i64 0, .int .i64 0, .int .i64 0, .slice none 0 0, .slice none 0 0, .int .u64 0, .int .u64 0] 42))
  have A0 := hide (h.at4 hx0)
  have Az := hide (h.at4 hxz)
  have KB := hide (h 0 _ hx0).2.1
  have KZ := hide (h p _ hxz).2.1
  have HX := hide hx0
  clear h hn hx0 hxz
  rw [Nat.zero_mul, Nat.add_zero] at A0
  go_enter Tryz.func66, Tryz.ntmps66
  go_upto_region 1 with (fail)
  generalize w.alloc (.cells #[.int .i64 0, .int .i64 0, .int .i64 0, .slice none 0 0, .slice none 0 0, .int .u64 0, .int .u64 0] 42) = w1 at *
  have hf : ∀ (u : World), Turns (fun _ => False) w1 u → At4 u b off ka kc va vc e ∧ At4 u b (off + p * 4) ja jc ua uc f := fun u t => ⟨(A0.out.turns T0.out (fun x => x)).turns t (fun x => x), (Az.out.turns T0.out (fun x => x)).turns t (fun x => x)⟩
  have t0 : Turns (fun _ => False) w1 w1 := Turns.refl _ _
  obtain ⟨⟨a0, a1, a2, a3⟩, a4, a5, a6, a7⟩ := hf _ t0
  have b0 := fun o => (hf _ (t0.alloc o)).1.1
  have b1 := fun o => (hf _ (t0.alloc o)).1.2.1
  have b2 := fun o => (hf _ (t0.alloc o)).1.2.2.1
  have b3 := fun o => (hf _ (t0.alloc o)).1.2.2.2
  have b4 := fun o => (hf _ (t0.alloc o)).2.1
  have b5 := fun o => (hf _ (t0.alloc o)).2.2.1
  have b6 := fun o => (hf _ (t0.alloc o)).2.2.2.1
  have b7 := fun o => (hf _ (t0.alloc o)).2.2.2.2
  have c0 := fun o o2 => (hf _ ((t0.alloc o).alloc o2)).1.1
  have c1 := fun o o2 => (hf _ ((t0.alloc o).alloc o2)).1.2.1
  have c2 := fun o o2 => (hf _ ((t0.alloc o).alloc o2)).1.2.2.1
  have c3 := fun o o2 => (hf _ ((t0.alloc o).alloc o2)).1.2.2.2
  have c4 := fun o o2 => (hf _ ((t0.alloc o).alloc o2)).2.1
  have c5 := fun o o2 => (hf _ ((t0.alloc o).alloc o2)).2.2.1
  have c6 := fun o o2 => (hf _ ((t0.alloc o).alloc o2)).2.2.2.1
  have c7 := fun o o2 => (hf _ ((t0.alloc o).alloc o2)).2.2.2.2
  have i1 : IntKind.i64.wrap ((p : Int) + 1 - 1) = (p : Int) := (by rw [Int.add_sub_cancel]; exact wrapI _ (by omega) (by omega))
  have i4 : IntKind.i64.wrap (p : Int) = (p : Int) := wrapI _ (by omega) (by omega)
  have i5 : wrap64 (p : Int) = (p : Int) := by unfold wrap64; omega
  have i2 : (0 : Int) ≤ (p : Int) := by omega
  have i3 : (p : Int) < (p : Int) + 1 := by omega
  go_cut [3, 4] from 5 (fun v3 v4 wc => ∃ g1 g2, v3 = .pointer (some ⟨g1, 0, none⟩) ∧ v4 = .pointer (some ⟨g2, 0, none⟩) ∧ wc.heap[g1]? = some (.cells (e35 ka kc va vc e) 35 (0, 0)) ∧ wc.heap[g2]? = some (.cells (e35 ja jc ua uc f) 35 (0, 0)) ∧ Turns (fun _ => False) w1 wc)
  case first =>
    rename_i kk rest jj kk' m1 m2
    clear rest
    go_region_with (fail)
    all_goals (go_wp2_with fail; go_meet; first | exact ⟨_, _, rfl, rfl, (two_new w1 _ _ _).1, (two_new w1 _ _ _).2, two_turns w1 _ _⟩ | exact ⟨_, _, rfl, rfl, (two_new w1 _ _ _).2, (two_new w1 _ _ _).1, two_turns w1 _ _⟩)
  case rest =>
    obtain ⟨g1, g2, rfl, rfl, hg1, hg2, t1⟩ := hcut
    obtain ⟨w2, hw2⟩ : ∃ u, u = wc := ⟨_, rfl⟩
    subst hw2
    clear a0 a1 a2 a3 a4 a5 a6 a7 b0 b1 b2 b3 b4 b5 b6 b7 c0 c1 c2 c3 c4 c5 c6 c7 hf t0 i1 i2 i3 i4 i5
    have T2 := hide (T0.out.trans t1)
    have N2 := hide (t1.heap N0.out (fun x => x))
    have KB := hide (fun (u : World) (t : Turns (fun _ => False) w2 u) => Bytes.quiet (show Bytes w (.slice ka e.key.length kc) e.key from KB.out) (T2.out.trans t))
    have KZ := hide (fun (u : World) (t : Turns (fun _ => False) w2 u) => Bytes.quiet (show Bytes w (.slice ja f.key.length jc) f.key from KZ.out) (T2.out.trans t))
    have SK := hide (fun (u : World) (t : Turns (fun _ => False) w2 u) => show u.cell? ⟨g1, 0, none⟩ = some (.slice ka e.key.length kc) ∧ u.cell? ⟨g1, 1, none⟩ = some (.int .u64 (e.seq : Nat)) ∧ u.cell? ⟨g2, 0, none⟩ = some (.slice ja f.key.length jc) from ⟨cell_of_row u g1 0 _ 35 (0, 0) (t.heap hg1 (fun x => x)), cell_of_row u g1 1 _ 35 (0, 0) (t.heap hg1 (fun x => x)), cell_of_row u g2 0 _ 35 (0, 0) (t.heap hg2 (fun x => x))⟩)
    clear hg1 hg2 t1 T0 N0 A0 Az
    go_upto_region 2 with (fail)
    go_cut [5] from 6 (fun v5 wc => ∃ G a1 c1 a2 c2, v5 = .pointer (some ⟨G, 0, none⟩) ∧ w2.heap.size ≤ G ∧ wc.heap[G]? = some (.cells #[.int .i64 ((p : Int) + 1), .int .i64 0, .int .i64 0, .slice a1 e.key.length c1, .slice a2 f.key.length c2, .int .u64 (e.seq : Nat), .int .u64 (e.seq : Nat)] 42 (0, 0)) ∧ Bytes wc (.slice a1 e.key.length c1) e.key ∧ Bytes wc (.slice a2 f.key.length c2) f.key ∧ (∀ x, a1 = some x → w2.heap.size ≤ x.block ∧ x.block < wc.heap.size) ∧ (∀ x, a2 = some x → w2.heap.size ≤ x.block ∧ x.block < wc.heap.size) ∧ Turns (fun _ => False) w2 wc)
    case first =>
      rename_i kk rest jj kk' m1 m2
      clear rest
      have tV : Turns (fun _ => False) w2 w2.drew := (Turns.refl _ _).drew
      refine wp_region_z_drew 14 (S := fun u => u.cell? ⟨g1, 0, none⟩ = some (.slice ka e.key.length kc) ∧ u.cell? ⟨g1, 1, none⟩ = some (.int .u64 (e.seq : Nat)) ∧ u.cell? ⟨g2, 0, none⟩ = some (.slice ja f.key.length jc)) (by kernel_rfl) (SK.out _ tV) (fun _ => ?_)
      change wpAnyZ _ _ _ _ _ _ 15 (Array.replicate 15 false) _ _
      refine wpAnyZ_take (i := 0) (oi := { dst := some 17, op := Op.move (Operand.tmp 0), type := 37, pos := "make.go:76", after := #[], guard := none }) (v := .slice (some ⟨b, off, none⟩) (p + 1) c) rfl (by kernel_rfl) (by kernel_rfl) (by kernel_rfl) (by kernel_rfl) (fun _ _ _ h => h) (Or.inl ⟨by rfl, ?_⟩) (SK.out _ tV) ?_
      · rintro w ⟨s0, s1, s2⟩
        go_simp
      simp only [Act.put, List.setIfInBounds_toArray, List.set_cons_zero, List.set_cons_succ]
      refine wpAnyZ_take (i := 1) (oi := { dst := some 18, op := Op.call { callee := Callee.builtin Builtin.len, args := #[Operand.tmp 17], argTypes := #[37] }, type := 3, pos := "make.go:76", after := #[{ on := 0, ground := Ground.data }], guard := none }) (v := .int .i64 ((p : Int) + 1)) rfl (by kernel_rfl) (by kernel_rfl) (by kernel_rfl) (by kernel_rfl) (fun _ _ _ h => h) (Or.inl ⟨by rfl, ?_⟩) (SK.out _ tV) ?_
      · rintro w ⟨s0, s1, s2⟩
        go_simp
      simp only [Act.put, List.setIfInBounds_toArray, List.set_cons_zero, List.set_cons_succ]
      refine wpAnyZ_take (i := 2) (oi := { dst := some 19, op := Op.fieldAddr 35 (Operand.tmp 3) 0, type := 0, pos := "make.go:76", after := #[], guard := none }) (v := .pointer (some ⟨g1, 0, none⟩)) rfl (by kernel_rfl) (by kernel_rfl) (by kernel_rfl) (by kernel_rfl) (fun _ _ _ h => h) (Or.inl ⟨by rfl, ?_⟩) (SK.out _ tV) ?_
      · rintro w ⟨s0, s1, s2⟩
        go_simp
      simp only [Act.put, List.setIfInBounds_toArray, List.set_cons_zero, List.set_cons_succ]
      refine wpAnyZ_take (i := 3) (oi := { dst := some 20, op := Op.load 28 (Operand.tmp 19), type := 28, pos := "make.go:76", after := #[{ on := 2, ground := Ground.data }], guard := none }) (v := .slice ka e.key.length kc) rfl (by kernel_rfl) (by kernel_rfl) (by kernel_rfl) (by kernel_rfl) (fun _ _ _ h => h) (Or.inl ⟨by rfl, ?_⟩) (SK.out _ tV) ?_
      · rintro w ⟨s0, s1, s2⟩
        go_simp
      simp only [Act.put, List.setIfInBounds_toArray, List.set_cons_zero, List.set_cons_succ]
      refine wpAnyZ_take (i := 5) (oi := { dst := some 22, op := Op.fieldAddr 35 (Operand.tmp 4) 0, type := 0, pos := "make.go:76", after := #[], guard := none }) (v := .pointer (some ⟨g2, 0, none⟩)) rfl (by kernel_rfl) (by kernel_rfl) (by kernel_rfl) (by kernel_rfl) (fun _ _ _ h => h) (Or.inl ⟨by rfl, ?_⟩) (SK.out _ tV) ?_
      · rintro w ⟨s0, s1, s2⟩
        go_simp
      simp only [Act.put, List.setIfInBounds_toArray, List.set_cons_zero, List.set_cons_succ]
      refine wpAnyZ_take (i := 6) (oi := { dst := some 23, op := Op.load 28 (Operand.tmp 22), type := 28, pos := "make.go:76", after := #[{ on := 5, ground := Ground.data }], guard := none }) (v := .slice ja f.key.length jc) rfl (by kernel_rfl) (by kernel_rfl) (by kernel_rfl) (by kernel_rfl) (fun _ _ _ h => h) (Or.inl ⟨by rfl, ?_⟩) (SK.out _ tV) ?_
      · rintro w ⟨s0, s1, s2⟩
        go_simp
      simp only [Act.put, List.setIfInBounds_toArray, List.set_cons_zero, List.set_cons_succ]
      refine wpAnyZ_take (i := 8) (oi := { dst := some 25, op := Op.fieldAddr 35 (Operand.tmp 3) 1, type := 0, pos := "make.go:76", after := #[], guard := none }) (v := .pointer (some ⟨g1, 1, none⟩)) rfl (by kernel_rfl) (by kernel_rfl) (by kernel_rfl) (by kernel_rfl) (fun _ _ _ h => h) (Or.inl ⟨by rfl, ?_⟩) (SK.out _ tV) ?_
      · rintro w ⟨s0, s1, s2⟩
        go_simp
      simp only [Act.put, List.setIfInBounds_toArray, List.set_cons_zero, List.set_cons_succ]
      refine wpAnyZ_take (i := 9) (oi := { dst := some 26, op := Op.load 33 (Operand.tmp 25), type := 33, pos := "make.go:76", after := #[{ on := 8, ground := Ground.data }], guard := none }) (v := .int .u64 (e.seq : Nat)) rfl (by kernel_rfl) (by kernel_rfl) (by kernel_rfl) (by kernel_rfl) (fun _ _ _ h => h) (Or.inl ⟨by rfl, ?_⟩) (SK.out _ tV) ?_
      · rintro w ⟨s0, s1, s2⟩
        go_simp
      simp only [Act.put, List.setIfInBounds_toArray, List.set_cons_zero, List.set_cons_succ]
      refine wpAnyZ_take (i := 10) (oi := { dst := some 27, op := Op.fieldAddr 35 (Operand.tmp 3) 1, type := 0, pos := "make.go:76", after := #[], guard := none }) (v := .pointer (some ⟨g1, 1, none⟩)) rfl (by kernel_rfl) (by kernel_rfl) (by kernel_rfl) (by kernel_rfl) (fun _ _ _ h => h) (Or.inl ⟨by rfl, ?_⟩) (SK.out _ tV) ?_
      · rintro w ⟨s0, s1, s2⟩
        go_simp
      simp only [Act.put, List.setIfInBounds_toArray, List.set_cons_zero, List.set_cons_succ]
      refine wpAnyZ_take (i := 11) (oi := { dst := some 28, op := Op.load 33 (Operand.tmp 27), type := 33, pos := "make.go:76", after := #[{ on := 10, ground := Ground.data }], guard := none }) (v := .int .u64 (e.seq : Nat)) rfl (by kernel_rfl) (by kernel_rfl) (by kernel_rfl) (by kernel_rfl) (fun _ _ _ h => h) (Or.inl ⟨by rfl, ?_⟩) (SK.out _ tV) ?_
      · rintro w ⟨s0, s1, s2⟩
        go_simp
      simp only [Act.put, List.setIfInBounds_toArray, List.set_cons_zero, List.set_cons_succ]
      refine wpAnyZ_ready (rs := [4, 13]) (by kernel_rfl) (by simp) ?_
      refine AllReadyZ.cons rfl (fun K hK => ?_) (AllReadyZ.cons rfl (fun K hK => ?_) AllReadyZ.nil)
      · go_simp
        refine (clone_any ka e.key.length kc e.key _ (KB.out _ tV) hk0).mono ?_
        rintro oo V1 ⟨a1, c1, rfl, hb1, hx1, _, _, bl1⟩
        have tt := Turns.of_below bl1 (fun _ => False)
        have HX1 := hide (fun x hx => (⟨Nat.le_trans tV.size (hx1 x hx).1, (hx1 x hx).2⟩ : w2.heap.size ≤ x.block ∧ x.block < V1.heap.size))
        have HB1 := hide hb1
        have tV := tV.trans tt
        clear hb1 hx1 bl1 tt
        go_simp
        refine hK.out _ _ (SK.out _ tV) (fun _ => ?_)
        clear hK K
        refine wpAnyZ_ready (rs := [7, 13]) (by kernel_rfl) (by simp) ?_
        refine AllReadyZ.cons rfl (fun K hK => ?_) (AllReadyZ.cons rfl (fun K hK => ?_) AllReadyZ.nil)
        · go_simp
          refine (clone_any ja f.key.length jc f.key _ (KZ.out _ tV) hkz).mono ?_
          rintro oo V2 ⟨a2, c2, rfl, hb2, hx2, _, _, bl2⟩
          have tt := Turns.of_below bl2 (fun _ => False)
          have HX2 := hide (fun x hx => (⟨Nat.le_trans tV.size (hx2 x hx).1, (hx2 x hx).2⟩ : w2.heap.size ≤ x.block ∧ x.block < V2.heap.size))
          have HB2 := hide hb2
          have HB1 := hide (HB1.out.quiet tt)
          have HX1 := hide (fun x hx => (⟨(HX1.out x hx).1, Nat.lt_of_lt_of_le (HX1.out x hx).2 tt.size⟩ : w2.heap.size ≤ x.block ∧ x.block < V2.heap.size))
          have tV := tV.trans tt
          clear hb2 hx2 bl2 tt
          go_simp
          refine hK.out _ _ (SK.out _ tV) (fun _ => ?_)
          clear hK K
          refine wpAnyZ_take (i := 12) (oi := { dst := some 29, op := Op.build 42 #[(0, Operand.tmp 18), (3, Operand.tmp 21), (4, Operand.tmp 24), (5, Operand.tmp 26), (6, Operand.tmp 28)], type := 42, pos := "make.go:76", after := #[{ on := 1, ground := Ground.data }, { on := 4, ground := Ground.data }, { on := 7, ground := Ground.data }, { on := 9, ground := Ground.data }, { on := 11, ground := Ground.data }], guard := none }) (v := .agg #[.int .i64 ((p : Int) + 1), .int .i64 0, .int .i64 0, .slice a1 e.key.length c1, .slice a2 f.key.length c2, .int .u64 (e.seq : Nat), .int .u64 (e.seq : Nat)]) rfl (by kernel_rfl) (by kernel_rfl) (by kernel_rfl) (by kernel_rfl) (fun _ _ _ h => h) (Or.inl ⟨by rfl, ?_⟩) (SK.out _ tV) ?_
          · rintro w ⟨s0, s1, s2⟩
            go_simp
          simp only [Act.put, List.setIfInBounds_toArray, List.set_cons_zero, List.set_cons_succ]
          refine wpAnyZ_ready (rs := [13]) (by kernel_rfl) (by simp) ?_
          refine AllReadyZ.cons rfl (fun K hK => ?_) AllReadyZ.nil
          go_simp
          obtain ⟨U0, hU0⟩ : ∃ u, u = V2.alloc (.cells #[.int .i64 0, .int .i64 0, .int .i64 0, .slice none 0 0, .slice none 0 0, .int .u64 0, .int .u64 0] 42) := ⟨_, rfl⟩
          have HG := hide (show U0.heap[V2.heap.size]? = some (.cells #[.int .i64 0, .int .i64 0, .int .i64 0, .slice none 0 0, .slice none 0 0, .int .u64 0, .int .u64 0] 42) from by rw [hU0]; exact heap_alloc_new _ _)
          have tt : Turns (fun _ => False) V2 U0 := by rw [hU0]; exact (Turns.refl _ _).alloc _
          have HGS := hide (show w2.heap.size ≤ V2.heap.size from tV.size)
          have tV := tV.trans tt
          rw [← hU0]
          obtain ⟨G, hGG⟩ : ∃ g, g = V2.heap.size := ⟨_, rfl⟩
          replace HGS := hide (show w2.heap.size ≤ G by rw [hGG]; exact HGS.out)
          rw [← hGG] at HG ⊢
          clear hGG
          refine hK.out _ _ (SK.out _ tV) (fun _ => ?_)
          clear hK K hU0
          have HB1 := hide (HB1.out.quiet tt)
          have HB2 := hide (HB2.out.quiet tt)
          have HX1 := hide (fun x hx => (⟨(HX1.out x hx).1, Nat.lt_of_lt_of_le (HX1.out x hx).2 tt.size⟩ : w2.heap.size ≤ x.block ∧ x.block < U0.heap.size))
          have HX2 := hide (fun x hx => (⟨(HX2.out x hx).1, Nat.lt_of_lt_of_le (HX2.out x hx).2 tt.size⟩ : w2.heap.size ≤ x.block ∧ x.block < U0.heap.size))
          clear tt
          have e0 := cell_of_row U0 G 0 _ 42 (0, 0) HG.out
          have z0 := frozen_of_row U0 G 0 _ 42 HG.out
          have e1 := cell_of_row U0 G 1 _ 42 (0, 0) HG.out
          have z1 := frozen_of_row U0 G 1 _ 42 HG.out
          have e2 := cell_of_row U0 G 2 _ 42 (0, 0) HG.out
          have z2 := frozen_of_row U0 G 2 _ 42 HG.out
          have e3 := cell_of_row U0 G 3 _ 42 (0, 0) HG.out
          have z3 := frozen_of_row U0 G 3 _ 42 HG.out
          have e4 := cell_of_row U0 G 4 _ 42 (0, 0) HG.out
          have z4 := frozen_of_row U0 G 4 _ 42 HG.out
          have e5 := cell_of_row U0 G 5 _ 42 (0, 0) HG.out
          have z5 := frozen_of_row U0 G 5 _ 42 HG.out
          have e6 := cell_of_row U0 G 6 _ 42 (0, 0) HG.out
          have z6 := frozen_of_row U0 G 6 _ 42 HG.out
          have TV := hide tV
          clear tV
          refine wpAnyZ_ready (rs := [14]) (by kernel_rfl) (by simp) ?_
          refine AllReadyZ.free rfl (by kernel_rfl) (fun K hK => ?_) AllReadyZ.nil
          go_simp
          refine hK.out _ _ ?_
          clear hK K
          refine wpAnyZ_done (by kernel_rfl) ?_ _
          go_wp2_with fail
          go_meet
          obtain ⟨r1, r2⟩ := row42 HG.out (.int .i64 ((p : Int) + 1)) (.int .i64 0) (.int .i64 0) (.slice a1 e.key.length c1) (.slice a2 f.key.length c2) (.int .u64 (e.seq : Nat)) (.int .u64 (e.seq : Nat))
          exact ⟨G, a1, c1, a2, c2, rfl, HGS.out, r1, bytes_over8 HB1.out HG.out (noU8_42 0 none 0 0 none 0 0 0 0) r2, bytes_over8 HB2.out HG.out (noU8_42 0 none 0 0 none 0 0 0 0) r2, fun x hx => ⟨(HX1.out x hx).1, Nat.lt_of_lt_of_le (HX1.out x hx).2 r2.size⟩, fun x hx => ⟨(HX2.out x hx).1, Nat.lt_of_lt_of_le (HX2.out x hx).2 r2.size⟩, TV.out.andThen r2 fun k hk e => absurd hk (by have := HGS.out; omega)⟩
        · go_simp
          obtain ⟨U0, hU0⟩ : ∃ u, u = V1.alloc (.cells #[.int .i64 0, .int .i64 0, .int .i64 0, .slice none 0 0, .slice none 0 0, .int .u64 0, .int .u64 0] 42) := ⟨_, rfl⟩
          have HG := hide (show U0.heap[V1.heap.size]? = some (.cells #[.int .i64 0, .int .i64 0, .int .i64 0, .slice none 0 0, .slice none 0 0, .int .u64 0, .int .u64 0] 42) from by rw [hU0]; exact heap_alloc_new _ _)
          have tt : Turns (fun _ => False) V1 U0 := by rw [hU0]; exact (Turns.refl _ _).alloc _
          have HGS := hide (show w2.heap.size ≤ V1.heap.size from tV.size)
          have tV := tV.trans tt
          rw [← hU0]
          obtain ⟨G, hGG⟩ : ∃ g, g = V1.heap.size := ⟨_, rfl⟩
          replace HGS := hide (show w2.heap.size ≤ G by rw [hGG]; exact HGS.out)
          rw [← hGG] at HG ⊢
          clear hGG
          refine hK.out _ _ (SK.out _ tV) (fun _ => ?_)
          clear hK K hU0
          have HB1 := hide (HB1.out.quiet tt)
          have HX1 := hide (fun x hx => (⟨(HX1.out x hx).1, Nat.lt_of_lt_of_le (HX1.out x hx).2 tt.size⟩ : w2.heap.size ≤ x.block ∧ x.block < U0.heap.size))
          clear tt
          refine wpAnyZ_ready (rs := [7]) (by kernel_rfl) (by simp) ?_
          refine AllReadyZ.cons rfl (fun K hK => ?_) AllReadyZ.nil
          go_simp
          refine (clone_any ja f.key.length jc f.key _ (KZ.out _ tV) hkz).mono ?_
          rintro oo V2 ⟨a2, c2, rfl, hb2, hx2, _, _, bl2⟩
          have tt := Turns.of_below bl2 (fun _ => False)
          have HX2 := hide (fun x hx => (⟨Nat.le_trans tV.size (hx2 x hx).1, (hx2 x hx).2⟩ : w2.heap.size ≤ x.block ∧ x.block < V2.heap.size))
          have HB2 := hide hb2
          have HB1 := hide (HB1.out.quiet tt)
          have HX1 := hide (fun x hx => (⟨(HX1.out x hx).1, Nat.lt_of_lt_of_le (HX1.out x hx).2 tt.size⟩ : w2.heap.size ≤ x.block ∧ x.block < V2.heap.size))
          have tV := tV.trans tt
          clear hb2 hx2 bl2
          go_simp
          refine hK.out _ _ (SK.out _ tV) (fun _ => ?_)
          clear hK K
          have HG := hide (tt.heap HG.out (fun x => x))
          clear tt
          refine wpAnyZ_take (i := 12) (oi := { dst := some 29, op := Op.build 42 #[(0, Operand.tmp 18), (3, Operand.tmp 21), (4, Operand.tmp 24), (5, Operand.tmp 26), (6, Operand.tmp 28)], type := 42, pos := "make.go:76", after := #[{ on := 1, ground := Ground.data }, { on := 4, ground := Ground.data }, { on := 7, ground := Ground.data }, { on := 9, ground := Ground.data }, { on := 11, ground := Ground.data }], guard := none }) (v := .agg #[.int .i64 ((p : Int) + 1), .int .i64 0, .int .i64 0, .slice a1 e.key.length c1, .slice a2 f.key.length c2, .int .u64 (e.seq : Nat), .int .u64 (e.seq : Nat)]) rfl (by kernel_rfl) (by kernel_rfl) (by kernel_rfl) (by kernel_rfl) (fun _ _ _ h => h) (Or.inl ⟨by rfl, ?_⟩) (SK.out _ tV) ?_
          · rintro w ⟨s0, s1, s2⟩
            go_simp
          simp only [Act.put, List.setIfInBounds_toArray, List.set_cons_zero, List.set_cons_succ]
          have e0 := cell_of_row V2 G 0 _ 42 (0, 0) HG.out
          have z0 := frozen_of_row V2 G 0 _ 42 HG.out
          have e1 := cell_of_row V2 G 1 _ 42 (0, 0) HG.out
          have z1 := frozen_of_row V2 G 1 _ 42 HG.out
          have e2 := cell_of_row V2 G 2 _ 42 (0, 0) HG.out
          have z2 := frozen_of_row V2 G 2 _ 42 HG.out
          have e3 := cell_of_row V2 G 3 _ 42 (0, 0) HG.out
          have z3 := frozen_of_row V2 G 3 _ 42 HG.out
          have e4 := cell_of_row V2 G 4 _ 42 (0, 0) HG.out
          have z4 := frozen_of_row V2 G 4 _ 42 HG.out
          have e5 := cell_of_row V2 G 5 _ 42 (0, 0) HG.out
          have z5 := frozen_of_row V2 G 5 _ 42 HG.out
          have e6 := cell_of_row V2 G 6 _ 42 (0, 0) HG.out
          have z6 := frozen_of_row V2 G 6 _ 42 HG.out
          have TV := hide tV
          clear tV
          refine wpAnyZ_ready (rs := [14]) (by kernel_rfl) (by simp) ?_
          refine AllReadyZ.free rfl (by kernel_rfl) (fun K hK => ?_) AllReadyZ.nil
          go_simp
          refine hK.out _ _ ?_
          clear hK K
          refine wpAnyZ_done (by kernel_rfl) ?_ _
          go_wp2_with fail
          go_meet
          obtain ⟨r1, r2⟩ := row42 HG.out (.int .i64 ((p : Int) + 1)) (.int .i64 0) (.int .i64 0) (.slice a1 e.key.length c1) (.slice a2 f.key.length c2) (.int .u64 (e.seq : Nat)) (.int .u64 (e.seq : Nat))
          exact ⟨G, a1, c1, a2, c2, rfl, HGS.out, r1, bytes_over8 HB1.out HG.out (noU8_42 0 none 0 0 none 0 0 0 0) r2, bytes_over8 HB2.out HG.out (noU8_42 0 none 0 0 none 0 0 0 0) r2, fun x hx => ⟨(HX1.out x hx).1, Nat.lt_of_lt_of_le (HX1.out x hx).2 r2.size⟩, fun x hx => ⟨(HX2.out x hx).1, Nat.lt_of_lt_of_le (HX2.out x hx).2 r2.size⟩, TV.out.andThen r2 fun k hk e => absurd hk (by have := HGS.out; omega)⟩
      · go_simp
        obtain ⟨U0, hU0⟩ : ∃ u, u = (w2.alloc (.cells #[.int .i64 0, .int .i64 0, .int .i64 0, .slice none 0 0, .slice none 0 0, .int .u64 0, .int .u64 0] 42)).drew := ⟨_, rfl⟩
        have HG := hide (show U0.heap[w2.heap.size]? = some (.cells #[.int .i64 0, .int .i64 0, .int .i64 0, .slice none 0 0, .slice none 0 0, .int .u64 0, .int .u64 0] 42) from by rw [hU0]; exact heap_alloc_new _ _)
        have tt : Turns (fun _ => False) w2 U0 := by rw [hU0]; exact ((Turns.refl _ _).alloc _).drew
        have HGS := hide (show w2.heap.size ≤ w2.heap.size from Nat.le_refl _)
        have tV := tt
        rw [← hU0]
        obtain ⟨G, hGG⟩ : ∃ g, g = w2.heap.size := ⟨_, rfl⟩
        replace HGS := hide (show w2.heap.size ≤ G by rw [hGG]; exact HGS.out)
        rw [← hGG] at HG ⊢
        clear hGG
        refine hK.out _ _ (SK.out _ tV) (fun _ => ?_)
        clear hK K hU0
        clear tt
        refine wpAnyZ_ready (rs := [4]) (by kernel_rfl) (by simp) ?_
        refine AllReadyZ.cons rfl (fun K hK => ?_) AllReadyZ.nil
        go_simp
        refine (clone_any ka e.key.length kc e.key _ (KB.out _ tV) hk0).mono ?_
        rintro oo V1 ⟨a1, c1, rfl, hb1, hx1, _, _, bl1⟩
        have tt := Turns.of_below bl1 (fun _ => False)
        have HX1 := hide (fun x hx => (⟨Nat.le_trans tV.size (hx1 x hx).1, (hx1 x hx).2⟩ : w2.heap.size ≤ x.block ∧ x.block < V1.heap.size))
        have HB1 := hide hb1
        have tV := tV.trans tt
        clear hb1 hx1 bl1
        go_simp
        refine hK.out _ _ (SK.out _ tV) (fun _ => ?_)
        clear hK K
        have HG := hide (tt.heap HG.out (fun x => x))
        clear tt
        refine wpAnyZ_ready (rs := [7]) (by kernel_rfl) (by simp) ?_
        refine AllReadyZ.cons rfl (fun K hK => ?_) AllReadyZ.nil
        go_simp
        refine (clone_any ja f.key.length jc f.key _ (KZ.out _ tV) hkz).mono ?_
        rintro oo V2 ⟨a2, c2, rfl, hb2, hx2, _, _, bl2⟩
        have tt := Turns.of_below bl2 (fun _ => False)
        have HX2 := hide (fun x hx => (⟨Nat.le_trans tV.size (hx2 x hx).1, (hx2 x hx).2⟩ : w2.heap.size ≤ x.block ∧ x.block < V2.heap.size))
        have HB2 := hide hb2
        have HB1 := hide (HB1.out.quiet tt)
        have HX1 := hide (fun x hx => (⟨(HX1.out x hx).1, Nat.lt_of_lt_of_le (HX1.out x hx).2 tt.size⟩ : w2.heap.size ≤ x.block ∧ x.block < V2.heap.size))
        have tV := tV.trans tt
        clear hb2 hx2 bl2
        go_simp
        refine hK.out _ _ (SK.out _ tV) (fun _ => ?_)
        clear hK K
        have HG := hide (tt.heap HG.out (fun x => x))
        clear tt
        refine wpAnyZ_take (i := 12) (oi := { dst := some 29, op := Op.build 42 #[(0, Operand.tmp 18), (3, Operand.tmp 21), (4, Operand.tmp 24), (5, Operand.tmp 26), (6, Operand.tmp 28)], type := 42, pos := "make.go:76", after := #[{ on := 1, ground := Ground.data }, { on := 4, ground := Ground.data }, { on := 7, ground := Ground.data }, { on := 9, ground := Ground.data }, { on := 11, ground := Ground.data }], guard := none }) (v := .agg #[.int .i64 ((p : Int) + 1), .int .i64 0, .int .i64 0, .slice a1 e.key.length c1, .slice a2 f.key.length c2, .int .u64 (e.seq : Nat), .int .u64 (e.seq : Nat)]) rfl (by kernel_rfl) (by kernel_rfl) (by kernel_rfl) (by kernel_rfl) (fun _ _ _ h => h) (Or.inl ⟨by rfl, ?_⟩) (SK.out _ tV) ?_
        · rintro w ⟨s0, s1, s2⟩
          go_simp
        simp only [Act.put, List.setIfInBounds_toArray, List.set_cons_zero, List.set_cons_succ]
        have e0 := cell_of_row V2 G 0 _ 42 (0, 0) HG.out
        have z0 := frozen_of_row V2 G 0 _ 42 HG.out
        have e1 := cell_of_row V2 G 1 _ 42 (0, 0) HG.out
        have z1 := frozen_of_row V2 G 1 _ 42 HG.out
        have e2 := cell_of_row V2 G 2 _ 42 (0, 0) HG.out
        have z2 := frozen_of_row V2 G 2 _ 42 HG.out
        have e3 := cell_of_row V2 G 3 _ 42 (0, 0) HG.out
        have z3 := frozen_of_row V2 G 3 _ 42 HG.out
        have e4 := cell_of_row V2 G 4 _ 42 (0, 0) HG.out
        have z4 := frozen_of_row V2 G 4 _ 42 HG.out
        have e5 := cell_of_row V2 G 5 _ 42 (0, 0) HG.out
        have z5 := frozen_of_row V2 G 5 _ 42 HG.out
        have e6 := cell_of_row V2 G 6 _ 42 (0, 0) HG.out
        have z6 := frozen_of_row V2 G 6 _ 42 HG.out
        have TV := hide tV
        clear tV
        refine wpAnyZ_ready (rs := [14]) (by kernel_rfl) (by simp) ?_
        refine AllReadyZ.free rfl (by kernel_rfl) (fun K hK => ?_) AllReadyZ.nil
        go_simp
        refine hK.out _ _ ?_
        clear hK K
        refine wpAnyZ_done (by kernel_rfl) ?_ _
        go_wp2_with fail
        go_meet
        obtain ⟨r1, r2⟩ := row42 HG.out (.int .i64 ((p : Int) + 1)) (.int .i64 0) (.int .i64 0) (.slice a1 e.key.length c1) (.slice a2 f.key.length c2) (.int .u64 (e.seq : Nat)) (.int .u64 (e.seq : Nat))
        exact ⟨G, a1, c1, a2, c2, rfl, HGS.out, r1, bytes_over8 HB1.out HG.out (noU8_42 0 none 0 0 none 0 0 0 0) r2, bytes_over8 HB2.out HG.out (noU8_42 0 none 0 0 none 0 0 0 0) r2, fun x hx => ⟨(HX1.out x hx).1, Nat.lt_of_lt_of_le (HX1.out x hx).2 r2.size⟩, fun x hx => ⟨(HX2.out x hx).1, Nat.lt_of_lt_of_le (HX2.out x hx).2 r2.size⟩, TV.out.andThen r2 fun k hk e => absurd hk (by have := HGS.out; omega)⟩
    case rest =>
      obtain ⟨G, a1, c1, a2, c2, rfl, hgs, hG, hb1, hb2, hx1, hx2, t2⟩ := hcut
      obtain ⟨w3, hw3⟩ : ∃ u, u = wc := ⟨_, rfl⟩
      subst hw3
      have I3 := hide (show InfI w w3 p G a1 c1 e.key a2 c2 f.key (loS e.seq (l.take 0)) (hiS e.seq (l.take 0)) from ⟨hG, Nat.lt_of_lt_of_le (lt_of_heap N2.out) hgs, hb1, hb2, fun x hx => ⟨Nat.le_trans T2.out.size (hx1 x hx).1, (hx1 x hx).2⟩, fun x hx => ⟨Nat.le_trans T2.out.size (hx2 x hx).1, (hx2 x hx).2⟩, t2.heap N2.out (fun x => x), T2.out.trans t2⟩)
      clear hgs hG hb1 hb2 hx1 hx2 t2 T2 N2 KB KZ SK
      go_wp2_with fail
      go_loopw [32] (fun iv wr => ∃ k : Nat, iv = .int .i64 (k : Nat) ∧ k ≤ p + 1 ∧ InfI w wr p G a1 c1 e.key a2 c2 f.key (loS e.seq (l.take k)) (hiS e.seq (l.take k))) (fun iv _ => p + 1 - (intOf iv).toNat)
      case atStart => exact ⟨0, rfl, Nat.zero_le _, I3.out⟩
      case round =>
        obtain ⟨k, rfl, hk, hI⟩ := hrel
        have II := hide hI
        clear hI I3
        by_cases hk2 : k < p + 1
        · have i1 : (k : Int) < (p : Int) + 1 := by omega
          have i0 : (0 : Int) ≤ (k : Int) := by omega
          obtain ⟨⟨ya, yc, yb, yd, y⟩, hy⟩ : ∃ y, l[k]? = some y := ⟨_, List.getElem?_eq_getElem (by have := HN.out; omega)⟩
          obtain ⟨d0, d1, d2, d3⟩ := (HE.out.quiet II.out.tt).at4 hy
          have HLO := hide (loS_succ hy e.seq)
          have HHI := hide (hiS_succ hy e.seq)
          simp only at HLO HHI
          clear hy
          go_upto_region 6 with (fail)
          obtain ⟨w4, hw4⟩ : ∃ u, u = wr.alloc (.cells #[.slice ya y.key.length yc, .int .u64 (y.seq : Nat), .int .i64 y.kind, .slice yb y.val.length yd] 35) := ⟨_, rfl⟩
          have ta : Turns (fun _ => False) wr w4 := by rw [hw4]; exact (Turns.refl _ _).alloc _
          have hq4 : w4.heap[wr.heap.size]? = some (.cells #[.slice ya y.key.length yc, .int .u64 (y.seq : Nat), .int .i64 y.kind, .slice yb y.val.length yd] 35 (0, 0)) := by rw [hw4]; exact heap_alloc_new _ _
          have HQ4 := hide hq4
          rw [← hw4]
          have II := hide (II.out.quiet ta)
          clear d0 d1 d2 d3 hw4 hq4 ta
          generalize wr.heap.size = q at *
          generalize loS e.seq (l.take k) = lo at *
          generalize hiS e.seq (l.take k) = hi at *
          have tV : Turns (fun _ => False) w4 w4.drew := (Turns.refl _ _).drew
          have SK := hide (fun (u : World) (t : Turns (fun _ => False) w4 u) => show u.cell? ⟨G, 6, none⟩ = some (.int .u64 (hi : Nat)) ∧ u.cell? ⟨q, 1, none⟩ = some (.int .u64 (y.seq : Nat)) from ⟨cell_of_row u G 6 _ 42 (0, 0) (t.heap II.out.g (fun x => x)), cell_of_row u q 1 _ 35 (0, 0) (t.heap HQ4.out (fun x => x))⟩)
          have S2 := hide (show (w4.drew.setCell ⟨G, 5, none⟩ (.int .u64 ((min lo y.seq : Nat) : Int))).cell? ⟨G, 6, none⟩ = some (.int .u64 (hi : Nat)) ∧ (w4.drew.setCell ⟨G, 5, none⟩ (.int .u64 ((min lo y.seq : Nat) : Int))).cell? ⟨q, 1, none⟩ = some (.int .u64 (y.seq : Nat)) from by
            have T := (Tick.refl (II.out.quiet tV).g).set 5 (.int .u64 ((min lo y.seq : Nat) : Int))
            refine ⟨by rw [T.cell 6]; simp [i42], ?_⟩
            have h9 := (Turns.of_tick T).heap (tV.heap HQ4.out (fun x => x)) (fun e => by
              have h8 := II.out.g
              rw [← (show q = G from e), HQ4.out] at h8
              cases h8)
            exact cell_of_row _ q 1 _ 35 (0, 0) h9)
          have I5 := hide (II.out.quiet tV |>.set (min lo y.seq) (max hi y.seq))
          have q5 := cell_of_row w4 G 5 _ 42 (0, 0) II.out.g
          have y5 := frozen_of_row w4 G 5 _ 42 II.out.g
          have q6 := cell_of_row w4 G 6 _ 42 (0, 0) II.out.g
          have y6 := frozen_of_row w4 G 6 _ 42 II.out.g
          simp only [i42, List.getElem?_toArray, List.getElem?_cons_zero, List.getElem?_cons_succ] at q5 q6
          refine wp_region_z_drew 13 (S := fun u => u.cell? ⟨G, 6, none⟩ = some (.int .u64 (hi : Nat)) ∧ u.cell? ⟨q, 1, none⟩ = some (.int .u64 (y.seq : Nat))) (by kernel_rfl) (SK.out _ tV) (fun _ => ?_)
          change wpAnyZ _ _ _ _ _ _ 14 (Array.replicate 14 false) _ _
          refine wpAnyZ_take (i := 0) (oi := { dst := some 36, op := Op.fieldAddr 42 (Operand.tmp 5) 5, type := 0, pos := "make.go:84", after := #[], guard := none }) (v := .pointer (some ⟨G, 5, none⟩)) rfl (by kernel_rfl) (by kernel_rfl) (by kernel_rfl) (by kernel_rfl) (fun _ _ _ h => h) (Or.inl ⟨by rfl, ?_⟩) (SK.out _ tV) ?_
          · rintro w ⟨s1, s2⟩
            go_simp
          simp only [Act.put, List.setIfInBounds_toArray, List.set_cons_zero, List.set_cons_succ]
          refine wpAnyZ_take (i := 2) (oi := { dst := some 38, op := Op.fieldAddr 35 (Operand.tmp 7) 1, type := 0, pos := "make.go:84", after := #[], guard := none }) (v := .pointer (some ⟨q, 1, none⟩)) rfl (by kernel_rfl) (by kernel_rfl) (by kernel_rfl) (by kernel_rfl) (fun _ _ _ h => h) (Or.inl ⟨by rfl, ?_⟩) (SK.out _ tV) ?_
          · rintro w ⟨s1, s2⟩
            go_simp
          simp only [Act.put, List.setIfInBounds_toArray, List.set_cons_zero, List.set_cons_succ]
          refine wpAnyZ_take (i := 3) (oi := { dst := some 39, op := Op.load 33 (Operand.tmp 38), type := 33, pos := "make.go:84", after := #[{ on := 2, ground := Ground.data }], guard := none }) (v := .int .u64 (y.seq : Nat)) rfl (by kernel_rfl) (by kernel_rfl) (by kernel_rfl) (by kernel_rfl) (fun _ _ _ h => h) (Or.inl ⟨by rfl, ?_⟩) (SK.out _ tV) ?_
          · rintro w ⟨s1, s2⟩
            go_simp
          simp only [Act.put, List.setIfInBounds_toArray, List.set_cons_zero, List.set_cons_succ]
          refine wpAnyZ_take (i := 5) (oi := { dst := some 41, op := Op.fieldAddr 42 (Operand.tmp 5) 6, type := 0, pos := "make.go:84", after := #[], guard := none }) (v := .pointer (some ⟨G, 6, none⟩)) rfl (by kernel_rfl) (by kernel_rfl) (by kernel_rfl) (by kernel_rfl) (fun _ _ _ h => h) (Or.inl ⟨by rfl, ?_⟩) (SK.out _ tV) ?_
          · rintro w ⟨s1, s2⟩
            go_simp
          simp only [Act.put, List.setIfInBounds_toArray, List.set_cons_zero, List.set_cons_succ]
          refine wpAnyZ_take (i := 6) (oi := { dst := some 42, op := Op.load 33 (Operand.tmp 41), type := 33, pos := "make.go:84", after := #[{ on := 5, ground := Ground.data }], guard := none }) (v := .int .u64 (hi : Nat)) rfl (by kernel_rfl) (by kernel_rfl) (by kernel_rfl) (by kernel_rfl) (fun _ _ _ h => h) (Or.inl ⟨by rfl, ?_⟩) (SK.out _ tV) ?_
          · rintro w ⟨s1, s2⟩
            go_simp
          simp only [Act.put, List.setIfInBounds_toArray, List.set_cons_zero, List.set_cons_succ]
          refine wpAnyZ_take (i := 7) (oi := { dst := some 43, op := Op.fieldAddr 35 (Operand.tmp 7) 1, type := 0, pos := "make.go:84", after := #[], guard := none }) (v := .pointer (some ⟨q, 1, none⟩)) rfl (by kernel_rfl) (by kernel_rfl) (by kernel_rfl) (by kernel_rfl) (fun _ _ _ h => h) (Or.inl ⟨by rfl, ?_⟩) (SK.out _ tV) ?_
          · rintro w ⟨s1, s2⟩
            go_simp
          simp only [Act.put, List.setIfInBounds_toArray, List.set_cons_zero, List.set_cons_succ]
          refine wpAnyZ_take (i := 8) (oi := { dst := some 44, op := Op.load 33 (Operand.tmp 43), type := 33, pos := "make.go:84", after := #[{ on := 7, ground := Ground.data }], guard := none }) (v := .int .u64 (y.seq : Nat)) rfl (by kernel_rfl) (by kernel_rfl) (by kernel_rfl) (by kernel_rfl) (fun _ _ _ h => h) (Or.inl ⟨by rfl, ?_⟩) (SK.out _ tV) ?_
          · rintro w ⟨s1, s2⟩
            go_simp
          simp only [Act.put, List.setIfInBounds_toArray, List.set_cons_zero, List.set_cons_succ]
          refine wpAnyZ_take (i := 9) (oi := { dst := some 45, op := Op.call { callee := Callee.builtin Builtin.max, args := #[Operand.tmp 42, Operand.tmp 44], argTypes := #[33, 33] }, type := 33, pos := "make.go:84", after := #[{ on := 6, ground := Ground.data }, { on := 8, ground := Ground.data }], guard := none }) (v := .int .u64 ((max hi y.seq : Nat) : Int)) rfl (by kernel_rfl) (by kernel_rfl) (by kernel_rfl) (by kernel_rfl) (fun _ _ _ h => h) (Or.inl ⟨by rfl, ?_⟩) (SK.out _ tV) ?_
          · rintro w ⟨s1, s2⟩
            go_simp; omega
          simp only [Act.put, List.setIfInBounds_toArray, List.set_cons_zero, List.set_cons_succ]
          refine wpAnyZ_ready (rs := [1]) (by kernel_rfl) (by simp) ?_
          refine AllReadyZ.cons rfl (fun K hK => ?_) AllReadyZ.nil
          go_simp
          refine hK.out _ _ (SK.out _ tV) (fun _ => ?_)
          clear hK K
          refine wpAnyZ_take (i := 4) (oi := { dst := some 40, op := Op.call { callee := Callee.builtin Builtin.min, args := #[Operand.tmp 37, Operand.tmp 39], argTypes := #[33, 33] }, type := 33, pos := "make.go:84", after := #[{ on := 1, ground := Ground.data }, { on := 3, ground := Ground.data }], guard := none }) (v := .int .u64 ((min lo y.seq : Nat) : Int)) rfl (by kernel_rfl) (by kernel_rfl) (by kernel_rfl) (by kernel_rfl) (fun _ _ _ h => h) (Or.inl ⟨by rfl, ?_⟩) (SK.out _ tV) ?_
          · rintro w ⟨s1, s2⟩
            go_simp; omega
          simp only [Act.put, List.setIfInBounds_toArray, List.set_cons_zero, List.set_cons_succ]
          refine wpAnyZ_take (i := 10) (oi := { dst := some 46, op := Op.fieldAddr 42 (Operand.tmp 5) 5, type := 0, pos := "make.go:84", after := #[{ on := 0, ground := Ground.phase }, { on := 1, ground := Ground.phase }, { on := 2, ground := Ground.phase }, { on := 3, ground := Ground.phase }, { on := 4, ground := Ground.phase }, { on := 5, ground := Ground.phase }, { on := 6, ground := Ground.phase }, { on := 7, ground := Ground.textOnly Departure.lateStores }, { on := 8, ground := Ground.textOnly Departure.lateStores }, { on := 9, ground := Ground.textOnly Departure.lateStoresUnsure }], guard := none }) (v := .pointer (some ⟨G, 5, none⟩)) rfl (by kernel_rfl) (by kernel_rfl) (by kernel_rfl) (by kernel_rfl) (fun _ _ _ h => h) (Or.inl ⟨by rfl, ?_⟩) (SK.out _ tV) ?_
          · rintro w ⟨s1, s2⟩
            go_simp
          simp only [Act.put, List.setIfInBounds_toArray, List.set_cons_zero, List.set_cons_succ]
          refine wpAnyZ_ready (rs := [11]) (by kernel_rfl) (by simp) ?_
          refine AllReadyZ.cons rfl (fun K hK => ?_) AllReadyZ.nil
          go_simp
          refine hK.out _ _ S2.out (fun _ => ?_)
          clear hK K
          refine wpAnyZ_take (i := 12) (oi := { dst := some 47, op := Op.fieldAddr 42 (Operand.tmp 5) 6, type := 0, pos := "make.go:84", after := #[{ on := 0, ground := Ground.phase }, { on := 1, ground := Ground.phase }, { on := 2, ground := Ground.phase }, { on := 3, ground := Ground.phase }, { on := 4, ground := Ground.phase }, { on := 5, ground := Ground.phase }, { on := 6, ground := Ground.phase }, { on := 7, ground := Ground.phase }, { on := 8, ground := Ground.phase }, { on := 9, ground := Ground.phase }, { on := 10, ground := Ground.phase }, { on := 11, ground := Ground.phase }], guard := none }) (v := .pointer (some ⟨G, 6, none⟩)) rfl (by kernel_rfl) (by kernel_rfl) (by kernel_rfl) (by kernel_rfl) (fun _ _ _ h => h) (Or.inl ⟨by rfl, ?_⟩) S2.out ?_
          · rintro w ⟨s1, s2⟩
            go_simp
          simp only [Act.put, List.setIfInBounds_toArray, List.set_cons_zero, List.set_cons_succ]
          refine wpAnyZ_ready (rs := [13]) (by kernel_rfl) (by simp) ?_
          refine AllReadyZ.free rfl (by kernel_rfl) (fun K hK => ?_) AllReadyZ.nil
          go_simp
          refine hK.out _ _ ?_
          clear hK K
          refine wpAnyZ_done (by kernel_rfl) ?_ _
          go_wp2_with fail
          go_roundw
          case rel => exact ⟨k + 1, by go_num, by omega, by rw [HLO.out, HHI.out]; exact I5.out⟩
          case measure => simp [intOf]; omega
        · obtain rfl : k = p + 1 := by omega
          have i1 : ¬ ((p + 1 : Nat) : Int) < (p : Int) + 1 := by omega
          rw [List.take_of_length_le (Nat.le_of_eq HN.out.symm)] at II
          have CN := hide II.out.nz
          have e0 := cell_of_row wr G 0 _ 42 (0, 0) II.out.g
          have e1 := cell_of_row wr G 1 _ 42 (0, 0) II.out.g
          have e2 := cell_of_row wr G 2 _ 42 (0, 0) II.out.g
          have e3 := cell_of_row wr G 3 _ 42 (0, 0) II.out.g
          have e4 := cell_of_row wr G 4 _ 42 (0, 0) II.out.g
          have e5 := cell_of_row wr G 5 _ 42 (0, 0) II.out.g
          have e6 := cell_of_row wr G 6 _ 42 (0, 0) II.out.g
          simp only [i42, List.getElem?_toArray, List.getElem?_cons_zero, List.getElem?_cons_succ] at e0 e1 e2 e3 e4 e5 e6
          go_wp2_with (refine wpList_store_row rfl 42 _ _ rfl _ _ rfl rfl _ _ CN.out ?_ ?_ ?_ ?_; (exact info42u); (simp only [List.size_toArray, List.length_cons, List.length_nil]); (simp [Value.oneCell']))
          have tS : ∀ (x : Array Value), Turns (fun j => j = w.heap.size) wr (wr.setRow w.heap.size x) := fun x => ⟨rfl, rfl, rfl, by simp, fun k _ hk => setRow_other _ _ _ _ hk⟩
          refine bodyPost_ret (v := .agg (i42 ((p : Int) + 1) a1 e.key.length c1 a2 f.key.length c2 (loS e.seq l) (hiS e.seq l))) ?_ rfl ?_
          · exact results_cell_row Tryz.results66 _ _ _ _ _ _ _ rfl (setRow_heap _ _ _ _ _ _ CN.out) Tryz.underlying42 rfl info42u
          · have t9 := tS (i42 ((p : Int) + 1) a1 e.key.length c1 a2 f.key.length c2 (loS e.seq l) (hiS e.seq l))
            exact ⟨a1, c1, a2, c2, rfl, bytes_over8 II.out.b1 CN.out (noU8_42 _ _ _ _ _ _ _ _ _) t9, bytes_over8 II.out.b2 CN.out (noU8_42 _ _ _ _ _ _ _ _ _) t9, fun x hx => ⟨(II.out.x1 x hx).1, Nat.lt_of_lt_of_le (II.out.x1 x hx).2 t9.size⟩, fun x hx => ⟨(II.out.x2 x hx).1, Nat.lt_of_lt_of_le (II.out.x2 x hx).2 t9.size⟩, (II.out.tt.andThen t9 fun k hk e => by have h9 : k = w.heap.size := e; omega).below (Nat.le_refl _) (fun _ x => x.elim)⟩
end Go.Proofs.YtjklbhdhjfifhaaGreat
