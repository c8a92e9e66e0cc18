/-
  The document's answer: Make.
-/
import Derived.Test.YtppikddjdjmakaaRb
import Derived.StillTailTactics
namespace Go.Proofs.Ytppikddjdjmakaa
open Go.RowKit
set_option maxRecDepth 100000
set_option maxHeartbeats 4000000
theorem rmake_bad (a : Option Addr) (m c' : Nat) (c : Int) (w : World) (h : c < 1 ∨ 64 < c) :
    Calls Try.prog 11 #[.slice a m c', .int .i64 c] w fun e w' => e = .returned (.tuple #[.slice none 0 0, .int .i64 2]) ∧ w' = w := by
  have HB := hide (rbits_arg m c (.inr h))
  clear h
  go_enter Try.func11, Try.ntmps11
  go_wp2_with (go_at_call 12; refine (HB.out _).mono ?_; rintro e w1 ⟨rfl, rfl⟩)
  go_ret2
  exact ⟨rfl, rfl⟩
theorem take_probes (h N k j : Nat) (hj : j < k) : (probes h N k).take (j + 1) = (probes h N k).take j ++ [prb h N j] ∧ (probes h N k)[j]? = some (prb h N j) := by
  have : (probes h N k)[j]? = some (prb h N j) := by simp [probes, hj]
  exact ⟨by rw [List.take_add_one, this]; rfl, this⟩
theorem irow_set {w : World} {B g i : Nat} {v : Value} {R : List Nat} {x : Value} (h : IRow w B v R) (hg : g < B) : IRow ({ w with drawn := w.drawn + 1 } : World) B v R ∧ IRow (({ w with drawn := w.drawn + 1 } : World).setCell ⟨g, i, none⟩ x) B v R := by
  have ho : ∀ b, b ≠ g → (({ w with drawn := w.drawn + 1 } : World).setCell ⟨g, i, none⟩ x).heap[b]? = w.heap[b]? := fun b hb => heap_setCell_other _ _ _ _ (by exact hb)
  rcases h with h | ⟨g', c, n, h1, h2, h3, h4, cs, h5, h6, h7⟩
  · exact ⟨.inl h, .inl h⟩
  · exact ⟨.inr ⟨g', c, n, h1, h2, h3, h4, cs, h5, h6, h7⟩, .inr ⟨g', c, n, h1, h2, h3, h4, cs, (ho g' (by omega)).trans h5, h6, h7⟩⟩
theorem pick_at {w : World} {g : Nat} {f : List (BitVec 8)} (h : FRow w g f) (L p : Nat) (hl : f.length = L) (hp : p / 8 < L) :
    ∃ (pb pm : Nat) (old sh nw : BitVec 8), (p : Int) / 8 = (pb : Int) ∧ (p : Int) % 8 = (pm : Int) ∧ (0 : Int) ≤ (pb : Int) ∧ (pb : Int) < (L : Int) ∧ w.cell? ⟨g, pb, none⟩ = some (.int .u8 (old.toNat : Int)) ∧ w.frozen? ⟨g, pb, none⟩ = false ∧ pm < 8 ∧
      IntKind.u8.wrap (2 ^ pm) = (sh.toNat : Int) ∧ bits BinOp.or IntKind.u8 (old.toNat : Int) (sh.toNat : Int) = (nw.toNat : Int) ∧ Hid (setB f p = f.set pb nw) :=
  ⟨p / 8, p % 8, f.getD (p / 8) 0, 1#8 <<< (p % 8), f.getD (p / 8) 0 ||| 1#8 <<< (p % 8), by omega, by omega, by omega, by omega, h.cell (p / 8) (by omega), h.frozen _, by omega, shl_b _ (by omega), or_b _ _, rfl⟩
theorem wrap_u (x : Nat) (h : x ≤ 1000000000000) : IntKind.u64.wrap (x : Int) = (x : Int) := by
  simp [IntKind.wrap, IntKind.bits, IntKind.signed]
  omega
theorem wrap_8 (x : Nat) (h : x ≤ 30) : IntKind.u8.wrap (x : Int) = (x : Int) := by
  simp [IntKind.wrap, IntKind.bits, IntKind.signed]
  omega
theorem turns_set (w : World) (g i : Nat) (x : BitVec 8) : Turns (fun b => b = g) w (w.setCell ⟨g, i, none⟩ (.int .u8 (x.toNat : Int))).drew :=
  ⟨rfl, rfl, rfl, by simp, fun b _ hb => heap_setCell_other _ _ _ _ (by exact hb)⟩
theorem rmake_ok (a : Option Addr) (m c' : Nat) (ks : List (List (BitVec 8))) (c : Nat) (w : World) (hk : Keys w (.slice a m c') ks) (hw : ∀ x, x ∈ ks → x.length ≤ 1000000000) (h1 : 1 ≤ c) (h2 : c ≤ 64) (h : ks.length * c ≤ 8388608) :
    Calls Try.prog 11 #[.slice a m c', .int .i64 (c : Nat)] w fun e w' => ∃ g c2 n, e = .returned (.tuple #[.slice (some ⟨g, 0, none⟩) n c2, .int .i64 0]) ∧ n = nBits ks.length c / 8 + 1 ∧ Bytes w' (.slice (some ⟨g, 0, none⟩) n c2) (filt ks c) ∧ Below w.heap.size w w' := by
  have hm := hk.len
  have HM := hide hm
  have HK := hide hk
  have HW := hide hw
  have HB := hide (rbits_ok ks.length c h1 h2 h)
  have hml : m ≤ 8388608 := by
    have := Nat.le_mul_of_pos_right ks.length (Nat.lt_of_lt_of_le Nat.zero_lt_one h1)
    omega
  have hN := nBits_pos ks.length c
  have hN2 := nBits_le ks.length c h
  have hk1 := kOf_bd c
  have HF := hide (show filt ks c = keyBits (nBits ks.length c) (kOf c) ks (zeros (nBits ks.length c / 8)) ++ [BitVec.ofNat 8 (kOf c)] from rfl)
  rw [← hm] at HB hN hN2 HF ⊢
  clear hk hw hm h
  generalize nBits m c = N at *
  generalize kOf c = k at *
  obtain ⟨hNl, hNm⟩ := hN
  have HNM := hide hNm
  obtain ⟨q, hq⟩ : ∃ q, N / 8 = q := ⟨_, rfl⟩
  have hq2 : q ≤ 1048576 := by omega
  have HQ := hide hq
  have hqi : (N : Int) / 8 = (q : Int) := by omega
  have hmk := make25 q (by omega)
  rw [hq] at HF ⊢
  clear hNm hq
  go_enter Try.func11, Try.ntmps11
  go_wp2_with (go_at_call 12; refine (HB.out _).mono ?_; rintro e w1 ⟨rfl, rfl⟩)
  go_loopw [10] (fun x wr => ∃ i : Nat, x = .int .i64 (i : Nat) ∧ i ≤ m ∧ FRow wr w1.heap.size (keyBits N k (ks.take i) (zeros q)) ∧ Below w1.heap.size w1 wr) (fun x _ => m - (intOf x).toNat)
  case atStart => exact ⟨0, rfl, Nat.zero_le _, heap_alloc_new w1 _, (Below.refl _ _).alloc (Nat.le_refl _) _⟩
  case round =>
    obtain ⟨i, rfl, him, hrow, hbw⟩ := hrel
    have HR := hide hrow
    have HBW := hide hbw
    have hsz := lt_of_heap hrow
    clear hrow hbw hmk
    have HFL := hide (show (keyBits N k (ks.take i) (zeros q)).length = q by rw [keyBits_length, zeros, List.length_replicate])
    by_cases hlt : i < m
    · obtain ⟨x, hx⟩ : ∃ x, ks[i]? = some x := ⟨_, List.getElem?_eq_getElem (by have := HM.out; omega)⟩
      obtain ⟨b, off, ka, kc, ha, hcell, hB⟩ := (HK.out.below HBW.out).at i x hx
      subst ha
      have hxl := HW.out x (List.mem_of_getElem? hx)
      have HH := hide (rhash_any ka x.length kc x wr hB hxl)
      have hKB : keyBits N k (ks.take (i + 1)) (zeros q) = setAll (keyBits N k (ks.take i) (zeros q)) (probes (hashB x).toNat N k) := by
        rw [← keyBits_snoc, List.take_add_one, hx]
        rfl
      have HKB := hide hKB
      have hvl := (hashB x).isLt
      generalize (hashB x).toNat = hv at *
      generalize keyBits N k (ks.take i) (zeros q) = f at *
      have HPR := hide (rprobes_ok hv N k wr hvl (by omega) hN2 hk1.1 hk1.2)
      generalize x.length = xl at *
      have i1 : (i : Int) < (m : Int) := by omega
      have i0 : (0 : Int) ≤ (i : Int) := by omega
      clear hx hB hKB
      go_wp2_with (first | (go_at_call 19; refine HH.out.mono ?_; rintro e w2 ⟨rfl, hw2⟩; subst hw2) | (go_at_call 14; refine HPR.out.mono ?_; rintro e w3 ⟨v, rfl, hir, b3⟩; obtain ⟨va, vc, hv2⟩ := hir.len; rw [probes_length] at hv2; subst hv2))
      have HIR := hide hir
      have B3 := hide (HBW.out.trans (b3.mono (by omega)))
      have R3 := hide (show FRow w3 w1.heap.size f from heap_keep b3 HR.out)
      have HPLN := hide (probes_length hv N k)
      clear hir b3 HPR HH
      go_loopw [13] (fun x wt => ∃ j : Nat, x = .int .i64 (j : Nat) ∧ j ≤ k ∧ FRow wt w1.heap.size (setAll f ((probes hv N k).take j)) ∧ IRow wt w2.heap.size (.slice va k vc) (probes hv N k) ∧ Below w1.heap.size w1 wt) (fun x _ => k - (intOf x).toNat)
      case atStart => exact ⟨0, rfl, Nat.zero_le _, R3.out, HIR.out, B3.out⟩
      case round =>
        obtain ⟨j, rfl, hjk, hrow2, hir2, hb2⟩ := hrel
        have HR2 := hide hrow2
        have HIR2 := hide hir2
        have HB2 := hide hb2
        have HL2 := hide (show (setAll f ((probes hv N k).take j)).length = q by rw [setAll_length]; exact HFL.out)
        have hia := hir2.at
        by_cases hj : j < k
        · obtain ⟨ht1, ht2⟩ := take_probes hv N k j hj
          have HT1 := hide ht1
          obtain ⟨b', off', rfl, hc2⟩ := hia.at j _ ht2
          have hpN := prb_lt hv N j (by omega)
          obtain ⟨pb, pm, old, sh, nw, e1, e2, j0, j1, c3, z3, e8, hsh, hnw, HSB⟩ := pick_at hrow2 q (prb hv N j) HL2.out (by have := HQ.out; have := HNM.out; omega)
          generalize prb hv N j = p at *
          have jj1 : (j : Int) < (k : Int) := by omega
          have jj0 : (0 : Int) ≤ (j : Int) := by omega
          have hbg : b' ≠ w1.heap.size := by
            rcases hir2 with ⟨_, e⟩ | ⟨g', _, _, e, _, _, hB', _⟩
            · cases e
            · cases e; omega
          clear hrow2 hir2 hb2 hia ht1 ht2
          have WPB := hide (wrap_i pb (by omega))
          have WPM : Hid ((p : Int).tmod 8 = (pm : Int)) := hide (by rw [Int.tmod_eq_emod_of_nonneg (by omega)]; exact e2)
          have HSH := hide hsh
          have WPU := hide (wrap_u pm (by omega))
          have s1 : wr.drew.cell? ⟨b', off' + j, none⟩ = some (.int .i64 (p : Nat)) := hc2
          have c3' : wr.drew.cell? ⟨w1.heap.size, pb, none⟩ = some (.int .u8 (old.toNat : Int)) := c3
          have z3' : wr.drew.frozen? ⟨w1.heap.size, pb, none⟩ = false := z3
          clear c3 z3 hsh
          go_wp2_with fail
          refine wp_region_held_drew (S := fun w' => w'.cell? ⟨b', off' + j, none⟩ = some (.int .i64 (p : Nat))) (by kernel_rfl) s1 (fun _ => ?_)
          change wpAnyH _ _ _ _ _ 24 (Array.replicate 24 false) _ _
          refine wpAnyH_take (i := 0) (oi := { dst := some 51, op := Op.move (Operand.tmp 9), type := 25, pos := "ref.go:64", after := #[], guard := none }) (v := .slice (some ⟨w1.heap.size, 0, none⟩) q q) rfl (by kernel_rfl) (by kernel_rfl) (by kernel_rfl) (fun _ _ _ h => h) (Or.inl ⟨by rfl, ?_⟩) s1 ?_
          · intro w c1
            go_simp
          simp only [Act.put, List.setIfInBounds_toArray, List.set_cons_zero, List.set_cons_succ]
          refine wpAnyH_take (i := 1) (oi := { dst := some 52, op := Op.move (Operand.tmp 11), type := 33, pos := "ref.go:64", after := #[], guard := none }) (v := .slice (some ⟨b', off', none⟩) k vc) rfl (by kernel_rfl) (by kernel_rfl) (by kernel_rfl) (fun _ _ _ h => h) (Or.inl ⟨by rfl, ?_⟩) s1 ?_
          · intro w c1
            go_simp
          simp only [Act.put, List.setIfInBounds_toArray, List.set_cons_zero, List.set_cons_succ]
          refine wpAnyH_take (i := 2) (oi := { dst := some 53, op := Op.move (Operand.tmp 13), type := 3, pos := "ref.go:64", after := #[], guard := none }) (v := .int .i64 (j : Nat)) rfl (by kernel_rfl) (by kernel_rfl) (by kernel_rfl) (fun _ _ _ h => h) (Or.inl ⟨by rfl, ?_⟩) s1 ?_
          · intro w c1
            go_simp
          simp only [Act.put, List.setIfInBounds_toArray, List.set_cons_zero, List.set_cons_succ]
          refine wpAnyH_take (i := 3) (oi := { dst := some 54, op := Op.indexAddr 33 (Operand.tmp 52) (Operand.tmp 53), type := 0, pos := "ref.go:64", after := #[{ on := 1, ground := Ground.data }, { on := 2, ground := Ground.data }], guard := none }) (v := .pointer (some ⟨b', off' + j, none⟩)) rfl (by kernel_rfl) (by kernel_rfl) (by kernel_rfl) (fun _ _ _ h => h) (Or.inl ⟨by rfl, ?_⟩) s1 ?_
          · intro w c1
            go_simp
          simp only [Act.put, List.setIfInBounds_toArray, List.set_cons_zero, List.set_cons_succ]
          refine wpAnyH_take (i := 4) (oi := { dst := some 55, op := Op.load 3 (Operand.tmp 54), type := 3, pos := "ref.go:64", after := #[{ on := 3, ground := Ground.data }], guard := none }) (v := .int .i64 (p : Nat)) rfl (by kernel_rfl) (by kernel_rfl) (by kernel_rfl) (fun _ _ _ h => h) (Or.inl ⟨by rfl, ?_⟩) s1 ?_
          · intro w c1
            go_simp
          simp only [Act.put, List.setIfInBounds_toArray, List.set_cons_zero, List.set_cons_succ]
          refine wpAnyH_take (i := 5) (oi := { dst := some 56, op := Op.binOp BinOp.quo 3 (Operand.tmp 55) (Operand.const (Value.int IntKind.i64 8)) 3, type := 3, pos := "ref.go:64", after := #[{ on := 4, ground := Ground.data }], guard := none }) (v := .int .i64 (pb : Nat)) rfl (by kernel_rfl) (by kernel_rfl) (by kernel_rfl) (fun _ _ _ h => h) (Or.inl ⟨by rfl, ?_⟩) s1 ?_
          · intro w c1
            go_simp
            exact WPB.out
          simp only [Act.put, List.setIfInBounds_toArray, List.set_cons_zero, List.set_cons_succ]
          refine wpAnyH_take (i := 6) (oi := { dst := some 57, op := Op.move (Operand.tmp 9), type := 25, pos := "ref.go:64", after := #[], guard := none }) (v := .slice (some ⟨w1.heap.size, 0, none⟩) q q) rfl (by kernel_rfl) (by kernel_rfl) (by kernel_rfl) (fun _ _ _ h => h) (Or.inl ⟨by rfl, ?_⟩) s1 ?_
          · intro w c1
            go_simp
          simp only [Act.put, List.setIfInBounds_toArray, List.set_cons_zero, List.set_cons_succ]
          refine wpAnyH_take (i := 7) (oi := { dst := some 58, op := Op.move (Operand.tmp 11), type := 33, pos := "ref.go:64", after := #[], guard := none }) (v := .slice (some ⟨b', off', none⟩) k vc) rfl (by kernel_rfl) (by kernel_rfl) (by kernel_rfl) (fun _ _ _ h => h) (Or.inl ⟨by rfl, ?_⟩) s1 ?_
          · intro w c1
            go_simp
          simp only [Act.put, List.setIfInBounds_toArray, List.set_cons_zero, List.set_cons_succ]
          refine wpAnyH_take (i := 8) (oi := { dst := some 59, op := Op.move (Operand.tmp 13), type := 3, pos := "ref.go:64", after := #[], guard := none }) (v := .int .i64 (j : Nat)) rfl (by kernel_rfl) (by kernel_rfl) (by kernel_rfl) (fun _ _ _ h => h) (Or.inl ⟨by rfl, ?_⟩) s1 ?_
          · intro w c1
            go_simp
          simp only [Act.put, List.setIfInBounds_toArray, List.set_cons_zero, List.set_cons_succ]
          refine wpAnyH_take (i := 9) (oi := { dst := some 60, op := Op.indexAddr 33 (Operand.tmp 58) (Operand.tmp 59), type := 0, pos := "ref.go:64", after := #[{ on := 7, ground := Ground.data }, { on := 8, ground := Ground.data }], guard := none }) (v := .pointer (some ⟨b', off' + j, none⟩)) rfl (by kernel_rfl) (by kernel_rfl) (by kernel_rfl) (fun _ _ _ h => h) (Or.inl ⟨by rfl, ?_⟩) s1 ?_
          · intro w c1
            go_simp
          simp only [Act.put, List.setIfInBounds_toArray, List.set_cons_zero, List.set_cons_succ]
          refine wpAnyH_take (i := 10) (oi := { dst := some 61, op := Op.load 3 (Operand.tmp 60), type := 3, pos := "ref.go:64", after := #[{ on := 9, ground := Ground.data }], guard := none }) (v := .int .i64 (p : Nat)) rfl (by kernel_rfl) (by kernel_rfl) (by kernel_rfl) (fun _ _ _ h => h) (Or.inl ⟨by rfl, ?_⟩) s1 ?_
          · intro w c1
            go_simp
          simp only [Act.put, List.setIfInBounds_toArray, List.set_cons_zero, List.set_cons_succ]
          refine wpAnyH_take (i := 11) (oi := { dst := some 62, op := Op.binOp BinOp.quo 3 (Operand.tmp 61) (Operand.const (Value.int IntKind.i64 8)) 3, type := 3, pos := "ref.go:64", after := #[{ on := 10, ground := Ground.data }], guard := none }) (v := .int .i64 (pb : Nat)) rfl (by kernel_rfl) (by kernel_rfl) (by kernel_rfl) (fun _ _ _ h => h) (Or.inl ⟨by rfl, ?_⟩) s1 ?_
          · intro w c1
            go_simp
            exact WPB.out
          simp only [Act.put, List.setIfInBounds_toArray, List.set_cons_zero, List.set_cons_succ]
          refine wpAnyH_take (i := 12) (oi := { dst := some 63, op := Op.indexAddr 25 (Operand.tmp 57) (Operand.tmp 62), type := 0, pos := "ref.go:64", after := #[{ on := 6, ground := Ground.data }, { on := 11, ground := Ground.data }], guard := none }) (v := .pointer (some ⟨w1.heap.size, pb, none⟩)) rfl (by kernel_rfl) (by kernel_rfl) (by kernel_rfl) (fun _ _ _ h => h) (Or.inl ⟨by rfl, ?_⟩) s1 ?_
          · intro w c1
            go_simp
          simp only [Act.put, List.setIfInBounds_toArray, List.set_cons_zero, List.set_cons_succ]
          refine wpAnyH_take (i := 14) (oi := { dst := some 65, op := Op.move (Operand.tmp 11), type := 33, pos := "ref.go:64", after := #[], guard := none }) (v := .slice (some ⟨b', off', none⟩) k vc) rfl (by kernel_rfl) (by kernel_rfl) (by kernel_rfl) (fun _ _ _ h => h) (Or.inl ⟨by rfl, ?_⟩) s1 ?_
          · intro w c1
            go_simp
          simp only [Act.put, List.setIfInBounds_toArray, List.set_cons_zero, List.set_cons_succ]
          refine wpAnyH_take (i := 15) (oi := { dst := some 66, op := Op.move (Operand.tmp 13), type := 3, pos := "ref.go:64", after := #[], guard := none }) (v := .int .i64 (j : Nat)) rfl (by kernel_rfl) (by kernel_rfl) (by kernel_rfl) (fun _ _ _ h => h) (Or.inl ⟨by rfl, ?_⟩) s1 ?_
          · intro w c1
            go_simp
          simp only [Act.put, List.setIfInBounds_toArray, List.set_cons_zero, List.set_cons_succ]
          refine wpAnyH_take (i := 16) (oi := { dst := some 67, op := Op.indexAddr 33 (Operand.tmp 65) (Operand.tmp 66), type := 0, pos := "ref.go:64", after := #[{ on := 14, ground := Ground.data }, { on := 15, ground := Ground.data }], guard := none }) (v := .pointer (some ⟨b', off' + j, none⟩)) rfl (by kernel_rfl) (by kernel_rfl) (by kernel_rfl) (fun _ _ _ h => h) (Or.inl ⟨by rfl, ?_⟩) s1 ?_
          · intro w c1
            go_simp
          simp only [Act.put, List.setIfInBounds_toArray, List.set_cons_zero, List.set_cons_succ]
          refine wpAnyH_take (i := 17) (oi := { dst := some 68, op := Op.load 3 (Operand.tmp 67), type := 3, pos := "ref.go:64", after := #[{ on := 16, ground := Ground.data }], guard := none }) (v := .int .i64 (p : Nat)) rfl (by kernel_rfl) (by kernel_rfl) (by kernel_rfl) (fun _ _ _ h => h) (Or.inl ⟨by rfl, ?_⟩) s1 ?_
          · intro w c1
            go_simp
          simp only [Act.put, List.setIfInBounds_toArray, List.set_cons_zero, List.set_cons_succ]
          refine wpAnyH_take (i := 18) (oi := { dst := some 69, op := Op.binOp BinOp.rem 3 (Operand.tmp 68) (Operand.const (Value.int IntKind.i64 8)) 3, type := 3, pos := "ref.go:64", after := #[{ on := 17, ground := Ground.data }], guard := none }) (v := .int .i64 (pm : Nat)) rfl (by kernel_rfl) (by kernel_rfl) (by kernel_rfl) (fun _ _ _ h => h) (Or.inl ⟨by rfl, ?_⟩) s1 ?_
          · intro w c1
            go_simp
            exact WPM.out
          simp only [Act.put, List.setIfInBounds_toArray, List.set_cons_zero, List.set_cons_succ]
          refine wpAnyH_take (i := 19) (oi := { dst := some 70, op := Op.convert 3 41 (Operand.tmp 69), type := 41, pos := "ref.go:64", after := #[{ on := 18, ground := Ground.data }], guard := none }) (v := .int .u64 (pm : Nat)) rfl (by kernel_rfl) (by kernel_rfl) (by kernel_rfl) (fun _ _ _ h => h) (Or.inl ⟨by rfl, ?_⟩) s1 ?_
          · intro w c1
            go_simp
            exact WPU.out
          simp only [Act.put, List.setIfInBounds_toArray, List.set_cons_zero, List.set_cons_succ]
          refine wpAnyH_take (i := 20) (oi := { dst := some 71, op := Op.binOp BinOp.shl 5 (Operand.const (Value.int IntKind.u8 1)) (Operand.tmp 70) 41, type := 5, pos := "ref.go:64", after := #[{ on := 19, ground := Ground.data }], guard := none }) (v := .int .u8 (sh.toNat : Int)) rfl (by kernel_rfl) (by kernel_rfl) (by kernel_rfl) (fun _ _ _ h => h) (Or.inl ⟨by rfl, ?_⟩) s1 ?_
          · intro w c1
            go_simp
            exact HSH.out
          simp only [Act.put, List.setIfInBounds_toArray, List.set_cons_zero, List.set_cons_succ]
          refine wpAnyH_ready (rs := [13]) (by kernel_rfl) (by simp) ?_
          refine AllReadyH.cons rfl (fun K hK => ?_) AllReadyH.nil
          go_simp
          refine hK.out _ _ s1 (fun _ => ?_)
          clear hK K
          refine wpAnyH_ready (rs := [21]) (by kernel_rfl) (by simp) ?_
          refine AllReadyH.cons rfl (fun K hK => ?_) AllReadyH.nil
          go_simp
          refine hK.out _ _ s1 (fun _ => ?_)
          clear hK K
          refine wpAnyH_ready (rs := [22]) (by kernel_rfl) (by simp) ?_
          refine AllReadyH.cons rfl (fun K hK => ?_) AllReadyH.nil
          go_simp
          refine hK.out _ _ s1 (fun _ => ?_)
          clear hK K
          refine wpAnyH_ready (rs := [23]) (by kernel_rfl) (by simp) ?_
          refine AllReadyH.cons rfl (fun K hK => ?_) AllReadyH.nil
          go_simp
          have hs9 : ((wr.setCell ⟨w1.heap.size, pb, none⟩ (.int .u8 (nw.toNat : Int))).drew).cell? ⟨b', off' + j, none⟩ = some (.int .i64 (p : Nat)) := ((turns_set wr w1.heap.size pb nw).cell (p := ⟨b', off' + j, none⟩) hc2 hbg)
          have HI9 := hide (HIR2.out.keep (turns_set wr w1.heap.size pb nw) (fun b0 hb0 => by obtain ⟨_, _, e0⟩ := hb0; cases e0; exact hbg))
          have HR9 := hide (show FRow (wr.setCell ⟨w1.heap.size, pb, none⟩ (.int .u8 (nw.toNat : Int))).drew w1.heap.size _ from HR2.out.set pb nw)
          have HB9 := hide (HB2.out.setCell (p := ⟨w1.heap.size, pb, none⟩) (Nat.le_refl _) (.int .u8 (nw.toNat : Int))).drew
          refine hK.out _ _ hs9 (fun _ => wpAnyH_done (by kernel_rfl) ?_ _)
          clear hK K hs9 s1 c3' z3' hc2
          generalize (wr.setCell ⟨w1.heap.size, pb, none⟩ (.int .u8 (nw.toNat : Int))).drew = wz at *
          go_wp2_with fail
          exact ⟨⟨j + 1, by go_num, by omega, by rw [HT1.out, setAll_snoc, HSB.out]; exact HR9.out, HI9.out, HB9.out⟩, by simp [intOf]; omega⟩
        · obtain rfl : j = k := by omega
          have HTK := hide (show (probes hv N j).take j = probes hv N j from List.take_of_length_le (by rw [HPLN.out]; exact Nat.le_refl _))
          rw [HTK.out, ← HKB.out] at HR2
          clear hrow2 hir2 hb2 hia
          go_wp2_with fail
          exact ⟨⟨i + 1, by go_num, by omega, HR2.out, HB2.out⟩, by simp [intOf]; omega⟩
    · obtain rfl : i = m := by omega
      have HT := hide (show ks.take i = ks from List.take_of_length_le (by have := HM.out; omega))
      rw [HT.out] at HR HFL
      generalize keyBits N k ks (zeros q) = f at *
      have hkw : IntKind.u8.wrap (k : Int) = (k : Int) := wrap_8 k (by omega)
      have xb := bytes_new wr #[.int .u8 (k : Int)] (0, 0) 1 1 [BitVec.ofNat 8 k] (by simp [cellsOf]; omega) rfl
      have ba := (Below.refl wr.heap.size wr).alloc (Nat.le_refl _) (.cells #[.int .u8 (k : Int)] 5)
      obtain ⟨g, c2, w', hrun, hg, hrow, hb, hc, hrest⟩ := append_bytes2 (wr.alloc (.cells #[.int .u8 (k : Int)] 5)) w1.heap.size (some ⟨w1.heap.size, 0, none⟩) q q f HFL.out.symm (.slice (some ⟨wr.heap.size, 0, none⟩) 1 1) [BitVec.ofNat 8 k] 1 rfl xb (by rw [World.size_alloc]; omega)
        (.inr ⟨w1.heap.size, rfl, Nat.le_refl _, Nat.le_refl _, (show FRow (wr.alloc (.cells #[.int .u8 (k : Int)] 5)) w1.heap.size f from heap_keep ba HR.out).row (by rw [HFL.out]; exact Nat.le_refl _)⟩) (by omega)
      have HRUN := hide (hrun 25)
      have HROW := hide hrow
      have HB5 := hide ((HBW.out.trans (ba.mono (by omega))).trans hb)
      clear xb ba hrun hrow hb hc hrest hg
      go_wp2_with (at_builtin; refine wpList_append_run rfl (.tmp 74) (.tmp 77) 25 rfl (.slice (some ⟨w1.heap.size, 0, none⟩) q q) (.slice (some ⟨wr.heap.size, 0, none⟩) 1 1) rfl rfl _ _ HRUN.out ?_)
      go_ret2
      exact ⟨g, c2, q + 1, rfl, rfl, by rw [HF.out]; exact HROW.out.bytes (by rw [List.length_append, HFL.out]; rfl), HB5.out⟩
end Go.Proofs.Ytppikddjdjmakaa
