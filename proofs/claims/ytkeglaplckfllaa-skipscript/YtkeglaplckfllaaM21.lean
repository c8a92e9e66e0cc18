import Derived.Test.YtkeglaplckfllaaM20
import Derived.Deep.RegionHeld
import Derived.Deep.Light
/-
  Whatever is put into a table, it tells what the document says: the whole of the law.
-/
namespace Go.Proofs.Ytkeglaplckfllaa
open Go.RowKit
set_option maxRecDepth 100000
set_option maxHeartbeats 8000000
def Boxes (u : World) (g6 g7 : Nat) (ka : Option Addr) (kc : Nat) (va : Option Addr) (vc : Nat) (ya : Option Addr) (yc : Nat) (yv : Option Addr) (yvc : Nat) (e : Ent) (hg : Int) : Prop :=
  u.cell? ⟨g6, 0, none⟩ = some (.slice ka e.key.length kc) ∧ u.cell? ⟨g6, 1, none⟩ = some (.int .u64 (e.seq : Nat)) ∧ u.cell? ⟨g6, 2, none⟩ = some (.int .i64 e.kind) ∧ u.cell? ⟨g6, 3, none⟩ = some (.slice va e.val.length vc) ∧ u.cell? ⟨g6, 4, none⟩ = some (.int .i64 hg) ∧
    u.cell? ⟨g7, 0, none⟩ = some (.slice ya e.key.length yc) ∧ u.cell? ⟨g7, 1, none⟩ = some (.int .u64 (e.seq : Nat)) ∧ u.cell? ⟨g7, 2, none⟩ = some (.int .i64 e.kind) ∧ u.cell? ⟨g7, 3, none⟩ = some (.slice yv e.val.length yvc)
def Box4 (u : World) (g : Nat) (a : Option Addr) (n ac sq : Nat) (kd : Int) (v : Option Addr) (m vc : Nat) : Prop :=
  u.cell? ⟨g, 0, none⟩ = some (.slice a n ac) ∧ u.cell? ⟨g, 1, none⟩ = some (.int .u64 (sq : Nat)) ∧ u.cell? ⟨g, 2, none⟩ = some (.int .i64 kd) ∧ u.cell? ⟨g, 3, none⟩ = some (.slice v m vc)
theorem box4 {u : World} {g : Nat} {a : Option Addr} {n ac sq : Nat} {kd : Int} {v : Option Addr} {m vc : Nat} (h : u.heap[g]? = some (.cells #[.slice a n ac, .int .u64 (sq : Nat), .int .i64 kd, .slice v m vc] 29 (0, 0))) : Box4 u g a n ac sq kd v m vc :=
  ⟨cell_of_row u g 0 _ 29 (0, 0) h, cell_of_row u g 1 _ 29 (0, 0) h, cell_of_row u g 2 _ 29 (0, 0) h, cell_of_row u g 3 _ 29 (0, 0) h⟩
def Asked (u : World) (g6 g9 g11 g13 g15 r : Nat) (La : Option Addr) (Lc n : Nat) (xa : Option Addr) (xc : Nat) (xv : Option Addr) (xvc : Nat) (ya : Option Addr) (yc : Nat) (yv : Option Addr) (yvc : Nat) (ua : Option Addr) (uc : Nat) (uv : Option Addr) (uvc : Nat) (va : Option Addr) (vc : Nat) (vv : Option Addr) (vvc : Nat) (eq eu : Ent) (qa : Option Addr) (qc qn s : Nat) : Prop :=
  Box4 u g9 xa eq.key.length xc eq.seq eq.kind xv eq.val.length xvc ∧ Box4 u g11 ya eq.key.length yc eq.seq eq.kind yv eq.val.length yvc ∧ Box4 u g13 ua eu.key.length uc eu.seq eu.kind uv eu.val.length uvc ∧ Box4 u g15 va eu.key.length vc eu.seq eu.kind vv eu.val.length vvc ∧
    u.cell? ⟨r, 0, none⟩ = some (.slice La n Lc) ∧ u.cell? ⟨g6, 5, none⟩ = some (.slice qa qn qc) ∧ u.cell? ⟨g6, 6, none⟩ = some (.int .u64 (s : Nat))
theorem script_any (la : Option Addr) (ln lc : Nat) (l : List AcT) (w : World) (hl : Acts w la l) (hln : ln = l.length) (hnr : ln ≤ reachBytes) (hf : ∀ x, x ∈ l → x.fit) :
    Calls Try.prog 4 #[.slice la ln lc] w fun e w' => e = .returned (.bool true) ∧ Below w.heap.size w w' := by
  have HL := hide hl
  have HLN := hide hln
  have HF := hide hf
  have HNR := hide hnr
  have HV := hide (lives_any w)
  generalize hB : w.heap.size = B
  have HB := hide hB
  rw [hB] at HV
  clear hl hln hf hB hnr
  go_enter Try.func4, Try.ntmps4
  go_wp2_with fail
  refine HV.out.mono ?_
  rintro e w1 ⟨rfl, b1⟩
  have BB1 := hide b1
  clear b1 HV
  have t1 := Turns.of_below (show Below w.heap.size w w1 by rw [HB.out]; exact BB1.out) (fun _ => False)
  have SM := hide (small_any la ln lc l w1 (HL.out.quiet t1) HLN.out HNR.out HF.out)
  have hsz1 : B ≤ w1.heap.size := by have := t1.size; have := HB.out; omega
  clear t1
  go_wp2_with fail
  refine SM.out.mono ?_
  rintro e w2 ⟨bb, rfl, hsm, t2⟩
  have B2 := hide (BB1.out.trans (t2.below hsz1 fun _ x => x.elim))
  have hsz2 : B ≤ w2.heap.size := by have := t2.size; omega
  clear SM BB1 t2
  cases bb with
  | false =>
    go_wp2_with fail
    go_ret
    exact ⟨rfl, B2.out⟩
  | true =>
    obtain ⟨hl120, hwt⟩ := hsm rfl
    have HL120 := hide hl120
    have HWT := hide hwt
    clear hsm hl120 hwt
    go_wp2_with fail
    refine (new_any w2).mono ?_
    rintro e w3 ⟨rfl, h3, b3⟩
    have H3 := hide h3
    have B3 := hide b3
    clear h3 b3
    go_wp2_with fail
    refine (rnew_own w3).mono ?_
    rintro e w4 ⟨rfl, h4, b4, hl4⟩
    have BT := hide (bot_start B2.out hsz2 H3.out B3.out h4 b4 hl4)
    clear h4 b4 hl4 H3 B3 B2 hsz2 hsz1
    generalize w2.heap.size + 1 = t at *
    generalize w3.heap.size = r at *
    go_wp2_with fail
    go_loopw [5] (fun iv wr => ∃ (k : Nat) (A Q : Nat → Prop) (bg : Nat) (ts rs : List Tow), iv = .int .i64 (k : Nat) ∧ k ≤ ln ∧ Bot A Q B w wr t bg r ts rs ∧ ts.length ≤ k ∧ sizeT ts ≤ 32 * k + wtA (l.take k)) (fun iv _ => ln - (intOf iv).toNat)
    case atStart => exact ⟨0, _, _, _, [], [], rfl, by omega, BT.out, Nat.le_refl _, Nat.le_refl _⟩
    case round =>
      clear BT
      obtain ⟨k, A, Q, bg, ts, rs, rfl, hk, hbot, htl, hts⟩ := hrel
      have BOT := hide hbot
      have HTL := hide htl
      have HTS := hide hts
      have HTL0 := hide htl
      have HTS0 := hide hts
      clear hbot htl hts
      by_cases hk2 : k < ln
      · have HKL := hide (show k + 1 ≤ ln by omega)
        have i1 : (k : Int) < ln := by omega
        have i0 : (0 : Int) ≤ (k : Int) := by omega
        have hkl : k < l.length := by have := HLN.out; omega
        have tt := Turns.of_below (show Below w.heap.size w wr by rw [HB.out]; exact BOT.out.bel) (fun _ => False)
        obtain ⟨⟨b, off, rfl, hc⟩, k1, k2, k3⟩ := (HL.out.quiet tt) k l[k] (List.getElem?_eq_getElem hkl)
        have HMM := hide (List.getElem_mem hkl)
        have HTK := hide (List.take_succ_eq_append_getElem hkl)
        have HGE := hide (List.getElem?_eq_getElem hkl)
        generalize hx : l[k] = x at *
        obtain ⟨ka, kc, va, vc, e, hg, qa, qc, q, s, nn⟩ := x
        have c0 : wr.cell? ⟨b, off + k * 8, none⟩ = some (.slice ka e.key.length kc) := hc 0 _ rfl
        have c1 : wr.cell? ⟨b, off + k * 8 + 1, none⟩ = some (.int .u64 (e.seq : Nat)) := hc 1 _ rfl
        have c2 : wr.cell? ⟨b, off + k * 8 + 2, none⟩ = some (.int .i64 e.kind) := hc 2 _ rfl
        have c3 : wr.cell? ⟨b, off + k * 8 + 3, none⟩ = some (.slice va e.val.length vc) := hc 3 _ rfl
        have c4 : wr.cell? ⟨b, off + k * 8 + 4, none⟩ = some (.int .i64 hg) := hc 4 _ rfl
        have c5 : wr.cell? ⟨b, off + k * 8 + 5, none⟩ = some (.slice qa q.length qc) := hc 5 _ rfl
        have c6 : wr.cell? ⟨b, off + k * 8 + 6, none⟩ = some (.int .u64 (s : Nat)) := hc 6 _ rfl
        have c7 : wr.cell? ⟨b, off + k * 8 + 7, none⟩ = some (.int .i64 nn) := hc 7 _ rfl
        have K1 := hide (show Bytes wr (.slice ka e.key.length kc) e.key from k1)
        have K2 := hide (show Bytes wr (.slice va e.val.length vc) e.val from k2)
        have K3 := hide (show Bytes wr (.slice qa q.length qc) q from k3)
        clear hc k1 k2 k3 tt hx
        go_upto_region 10 with (fail)
        have HBX := hide (heap_alloc_new wr (.cells #[.slice ka e.key.length kc, .int .u64 (e.seq : Nat), .int .i64 e.kind, .slice va e.val.length vc, .int .i64 hg, .slice qa q.length qc, .int .u64 (s : Nat), .int .i64 nn] 42))
        have TA := hide ((Turns.refl (fun _ => False) wr).alloc (.cells #[.slice ka e.key.length kc, .int .u64 (e.seq : Nat), .int .i64 e.kind, .slice va e.val.length vc, .int .i64 hg, .slice qa q.length qc, .int .u64 (s : Nat), .int .i64 nn] 42))
        clear c0 c1 c2 c3 c4 c5 c6 c7
        generalize wr.alloc (.cells #[.slice ka e.key.length kc, .int .u64 (e.seq : Nat), .int .i64 e.kind, .slice va e.val.length vc, .int .i64 hg, .slice qa q.length qc, .int .u64 (s : Nat), .int .i64 nn] 42) = wa at *
        have hg6 := lt_of_heap HBX.out
        generalize hG6 : wr.heap.size = g6 at HBX hg6 ⊢
        have HG6 := hide hG6
        have hBg : B ≤ g6 := by have := BOT.out.hB; have := TA.out.size; omega
        have HAQ0 := hide (show (∀ k, A k → B ≤ k ∧ k < g6) ∧ ∀ k, Q k → B ≤ k ∧ k < g6 from ⟨fun k h => by have := (BOT.out.ha k h).1; omega, fun k h => by have := BOT.out.hq k h; omega⟩)
        clear hG6
        have BOT := hide (BOT.out.quiet TA.out)
        have K1 := hide (K1.out.quiet TA.out)
        have K2 := hide (K2.out.quiet TA.out)
        have K3 := hide (K3.out.quiet TA.out)
        have d0 : wa.cell? ⟨g6, 0, none⟩ = some (.slice ka e.key.length kc) := cell_of_row wa g6 0 _ 42 (0, 0) HBX.out
        have d1 : wa.cell? ⟨g6, 1, none⟩ = some (.int .u64 (e.seq : Nat)) := cell_of_row wa g6 1 _ 42 (0, 0) HBX.out
        have d2 : wa.cell? ⟨g6, 2, none⟩ = some (.int .i64 e.kind) := cell_of_row wa g6 2 _ 42 (0, 0) HBX.out
        have d3 : wa.cell? ⟨g6, 3, none⟩ = some (.slice va e.val.length vc) := cell_of_row wa g6 3 _ 42 (0, 0) HBX.out
        have hwx : (⟨ka, kc, va, vc, e, hg, qa, qc, q, s, nn⟩ : AcT).wt ≤ 20000 := Nat.le_trans (wtA_mem HMM.out) HWT.out
        change e.key.length + e.val.length + q.length ≤ 20000 at hwx
        have hkn : e.key.length ≤ 1000000 := by omega
        have hvn : e.val.length ≤ 1000000 := by omega
        have hqn : q.length ≤ 1000000 := by omega
        have TB := hide ((Turns.refl (fun _ => False) wa).alloc (.cells #[.slice ka e.key.length kc, .int .u64 (e.seq : Nat), .int .i64 e.kind, .slice va e.val.length vc] 29))
        have HB1 := hide (heap_alloc_new wa (.cells #[.slice ka e.key.length kc, .int .u64 (e.seq : Nat), .int .i64 e.kind, .slice va e.val.length vc] 29))
        have OE := hide (ownEntries_any (some ⟨wa.heap.size, 0, none⟩) 1 1 [⟨0, ka, kc, va, vc, e, 0⟩] (wa.alloc (.cells #[.slice ka e.key.length kc, .int .u64 (e.seq : Nat), .int .i64 e.kind, .slice va e.val.length vc] 29)) (by
          intro j y hy
          have hj : j = 0 := by
            rcases j with _ | j
            · rfl
            · simp at hy
          subst hj
          obtain rfl : (⟨0, ka, kc, va, vc, e, 0⟩ : Tow) = y := by simpa using hy
          refine ⟨⟨wa.heap.size, 0, rfl, fun j u hu => ?_⟩, K1.out.quiet TB.out, K2.out.quiet TB.out⟩
          rw [show 0 + 0 * 4 + j = j by omega, cell_of_row _ _ j _ 29 (0, 0) HB1.out]
          simpa [Tow.kv, Tow.vv] using hu) rfl (by simp) (fun y hy => by obtain rfl := List.mem_singleton.1 hy; exact ⟨hkn, hvn⟩))
        clear TA
        go_wp2_with (go_at_call 16; refine OE.out.mono ?_; rintro o w5 ⟨v5, rfl, R, hrow5, hsh5, hm5, hky5, b5⟩; obtain ⟨y, hy, hye⟩ : ∃ y : Tow, R = [y] ∧ y.e = e := (by
            rcases R with _ | ⟨y, _ | ⟨z, R⟩⟩
            · simp at hm5
            · exact ⟨y, rfl, by simpa using hm5⟩
            · simp at hm5); subst hy; obtain ⟨g5, n5, rfl, q0, q1, q2, q3⟩ := hrow5.at_ (i := 0) rfl; obtain ⟨yb, ya, yc, yv, yvc, ye, yh⟩ := y; have hye' : ye = e := hye; subst ye; simp only [Nat.zero_mul, Nat.zero_add, Tow.kv, Tow.vv] at q0 q1 q2 q3)
        have T56 := hide ((Turns.refl (fun _ => False) w5).alloc (.cells #[.slice ya e.key.length yc, .int .u64 (e.seq : Nat), .int .i64 e.kind, .slice yv e.val.length yvc] 29))
        have HB7 := hide (heap_alloc_new w5 (.cells #[.slice ya e.key.length yc, .int .u64 (e.seq : Nat), .int .i64 e.kind, .slice yv e.val.length yvc] 29))
        generalize w5.alloc (.cells #[.slice ya e.key.length yc, .int .u64 (e.seq : Nat), .int .i64 e.kind, .slice yv e.val.length yvc] 29) = w6 at *
        have TA6 := hide (TB.out.trans ((Turns.of_below b5 (fun _ => False)).trans T56.out))
        have hg7 := lt_of_heap HB7.out
        have hsz5 : wa.heap.size < w5.heap.size := by have h1 := b5.size; have h2 := TB.out.size; have h3 : (wa.alloc (.cells #[.slice ka e.key.length kc, .int .u64 (e.seq : Nat), .int .i64 e.kind, .slice va e.val.length vc] 29)).heap.size = wa.heap.size + 1 := (by simp); omega
        have OWN := hide (show (Bytes w6 (.slice ya e.key.length yc) e.key ∧ Bytes w6 (.slice yv e.val.length yvc) e.val) ∧ ∃ ga, ya = some ⟨ga, 0, none⟩ ∧ RowB w6 ga yc e.key ∧ wa.heap.size ≤ ga ∧ ga < w5.heap.size from by
          obtain ⟨h1, h2, h3⟩ := hsh5 _ (List.mem_singleton.2 rfl)
          refine ⟨⟨Bytes.quiet h1 T56.out, Bytes.quiet h2 T56.out⟩, ?_⟩
          obtain ⟨ga, ha, hra⟩ := hky5 _ (List.mem_singleton.2 rfl)
          have h4 := h3 ga (.inl ⟨_, ha, rfl⟩)
          have h5 := TB.out.size
          exact ⟨ga, ha, hra.turns T56.out (fun x => x), by omega, h4.2⟩)
        generalize hG7 : w5.heap.size = g7 at HB7 hg7 hsz5 OWN ⊢
        have HBX := hide (TA6.out.heap HBX.out (fun x => x))
        have HAQ := hide (show (∀ k, A k → B ≤ k ∧ k < g6) ∧ ∀ k, Q k → B ≤ k ∧ k < g6 from HAQ0.out)
        have BOT := hide (BOT.out.quiet TA6.out)
        have K1 := hide (K1.out.quiet TA6.out)
        have K2 := hide (K2.out.quiet TA6.out)
        have K3 := hide (K3.out.quiet TA6.out)
        have h67 : g6 < g7 := by omega
        clear hG7 OE hrow5 hsh5 hm5 hky5 b5 q0 q1 q2 q3 T56 TB HB1 d0 d1 d2 d3 TA6
        have hfit := HF.out _ HMM.out
        have htl := HTL.out
        have hts : sizeT ts ≤ 900000 := by
          have h1 := HTS.out
          have h2 := wtA_take l k
          have h3 := HWT.out
          have h4 := HL120.out
          have h5 := HLN.out
          omega
        have hfs : e.seq < 18446744073709551616 := hfit.1
        obtain ⟨z, N, i4, i10⟩ := bot_ins (BOT.out.quiet (Turns.refl (fun _ => False) w6).drew) e hg ya yv yc yvc (OWN.out.1.1.quiet (Turns.refl (fun _ => False) w6).drew) (OWN.out.1.2.quiet (Turns.refl (fun _ => False) w6).drew) hfs (by refine ⟨by simp, ?_⟩; simp [tot]; omega) hkn hvn (by have := HL120.out; have := HLN.out; omega) hts
        have SB := hide (fun u (t : Turns (fun k => A k ∨ Q k) w6 u) => show Boxes u g6 g7 ka kc va vc ya yc yv yvc e hg from by
          have n6 : ¬ (A g6 ∨ Q g6) := fun h => h.elim (fun h => by have := (HAQ.out.1 _ h).2; omega) fun h => by have := (HAQ.out.2 _ h).2; omega
          have n7 : ¬ (A g7 ∨ Q g7) := fun h => h.elim (fun h => by have := (HAQ.out.1 _ h).2; omega) fun h => by have := (HAQ.out.2 _ h).2; omega
          have b6 := t.heap HBX.out n6
          have b7 := t.heap HB7.out n7
          exact ⟨cell_of_row u g6 0 _ 42 (0, 0) b6, cell_of_row u g6 1 _ 42 (0, 0) b6, cell_of_row u g6 2 _ 42 (0, 0) b6, cell_of_row u g6 3 _ 42 (0, 0) b6, cell_of_row u g6 4 _ 42 (0, 0) b6, cell_of_row u g7 0 _ 29 (0, 0) b7, cell_of_row u g7 1 _ 29 (0, 0) b7, cell_of_row u g7 2 _ 29 (0, 0) b7, cell_of_row u g7 3 _ 29 (0, 0) b7⟩)
        have I4 := hide i4
        have I10 := hide i10
        clear i4 i10 hfit htl hts hfs
        go_cut [51] from 40 to 51 (fun v wx => v = .bool false ∧ ∃ (A' Q' : Nat → Prop) (ts' rs' : List Tow), Bot A' Q' B w wx t bg r ts' rs' ∧ (ts'.length ≤ ts.length + 1 ∧ sizeT ts' ≤ sizeT ts + (e.key.length + e.val.length + 32)) ∧ (∀ k, k < w6.heap.size → A' k → A k) ∧ (∀ k, k < w6.heap.size → Q' k → Q k) ∧ Turns (fun k => A k ∨ Q k) w6 wx)
        case first =>
          rename_i kk rest jj kk' m1 m2
          clear rest
          have tD : Turns (fun k => A k ∨ Q k) w6 w6.drew := (Turns.refl _ _).drew
          have tV : Turns (fun k => A k ∨ Q k) w6 w6.drew := tD
          have SK := SB
          refine wp_region_held_drew (S := fun u => Boxes u g6 g7 ka kc va vc ya yc yv yvc e hg) (by kernel_rfl) (SK.out _ tV) (fun _ => ?_)
          change wpAnyH _ _ _ _ _ 12 (Array.replicate 12 false) _ _
          refine wpAnyH_take (i := 0) (oi := { dst := some 40, op := Op.move (Operand.tmp 3), type := 22, pos := "law.go:75", after := #[], guard := none }) (v := .pointer (some ⟨t, 0, none⟩)) rfl (by kernel_rfl) (by kernel_rfl) (by kernel_rfl) (fun _ _ _ h => h) (Or.inl ⟨by rfl, ?_⟩) (SK.out _ tV) ?_
          · rintro w ⟨d0, d1, d2, d3, d4, e0, e1, e2, e3⟩
            go_simp
          simp only [Act.put, List.setIfInBounds_toArray, List.set_cons_zero, List.set_cons_succ]
          refine wpAnyH_take (i := 1) (oi := { dst := some 41, op := Op.load 29 (Operand.tmp 7), type := 29, pos := "law.go:75", after := #[], guard := none }) (v := .agg #[.slice ya e.key.length yc, .int .u64 (e.seq : Nat), .int .i64 e.kind, .slice yv e.val.length yvc]) rfl (by kernel_rfl) (by kernel_rfl) (by kernel_rfl) (fun _ _ _ h => h) (Or.inl ⟨by rfl, ?_⟩) (SK.out _ tV) ?_
          · rintro w ⟨d0, d1, d2, d3, d4, e0, e1, e2, e3⟩
            go_simp
          simp only [Act.put, List.setIfInBounds_toArray, List.set_cons_zero, List.set_cons_succ]
          refine wpAnyH_take (i := 2) (oi := { dst := some 42, op := Op.fieldAddr 42 (Operand.tmp 6) 1, type := 0, pos := "law.go:75", after := #[], guard := none }) (v := .pointer (some ⟨g6, 4, none⟩)) rfl (by kernel_rfl) (by kernel_rfl) (by kernel_rfl) (fun _ _ _ h => h) (Or.inl ⟨by rfl, ?_⟩) (SK.out _ tV) ?_
          · rintro w ⟨d0, d1, d2, d3, d4, e0, e1, e2, e3⟩
            go_simp
          simp only [Act.put, List.setIfInBounds_toArray, List.set_cons_zero, List.set_cons_succ]
          refine wpAnyH_take (i := 3) (oi := { dst := some 43, op := Op.load 3 (Operand.tmp 42), type := 3, pos := "law.go:75", after := #[{ on := 2, ground := Ground.data }], guard := none }) (v := .int .i64 hg) rfl (by kernel_rfl) (by kernel_rfl) (by kernel_rfl) (fun _ _ _ h => h) (Or.inl ⟨by rfl, ?_⟩) (SK.out _ tV) ?_
          · rintro w ⟨d0, d1, d2, d3, d4, e0, e1, e2, e3⟩
            go_simp
          simp only [Act.put, List.setIfInBounds_toArray, List.set_cons_zero, List.set_cons_succ]
          refine wpAnyH_take (i := 5) (oi := { dst := some 45, op := Op.move (Operand.tmp 4), type := 39, pos := "law.go:75", after := #[], guard := none }) (v := .pointer (some ⟨r, 0, none⟩)) rfl (by kernel_rfl) (by kernel_rfl) (by kernel_rfl) (fun _ _ _ h => h) (Or.inl ⟨by rfl, ?_⟩) (SK.out _ tV) ?_
          · rintro w ⟨d0, d1, d2, d3, d4, e0, e1, e2, e3⟩
            go_simp
          simp only [Act.put, List.setIfInBounds_toArray, List.set_cons_zero, List.set_cons_succ]
          refine wpAnyH_take (i := 6) (oi := { dst := some 46, op := Op.fieldAddr 42 (Operand.tmp 6) 0, type := 0, pos := "law.go:75", after := #[], guard := none }) (v := .pointer (some ⟨g6, 0, none⟩)) rfl (by kernel_rfl) (by kernel_rfl) (by kernel_rfl) (fun _ _ _ h => h) (Or.inl ⟨by rfl, ?_⟩) (SK.out _ tV) ?_
          · rintro w ⟨d0, d1, d2, d3, d4, e0, e1, e2, e3⟩
            go_simp
          simp only [Act.put, List.setIfInBounds_toArray, List.set_cons_zero, List.set_cons_succ]
          refine wpAnyH_take (i := 7) (oi := { dst := some 47, op := Op.load 29 (Operand.tmp 46), type := 29, pos := "law.go:75", after := #[{ on := 6, ground := Ground.data }], guard := none }) (v := .agg #[.slice ka e.key.length kc, .int .u64 (e.seq : Nat), .int .i64 e.kind, .slice va e.val.length vc]) rfl (by kernel_rfl) (by kernel_rfl) (by kernel_rfl) (fun _ _ _ h => h) (Or.inl ⟨by rfl, ?_⟩) (SK.out _ tV) ?_
          · rintro w ⟨d0, d1, d2, d3, d4, e0, e1, e2, e3⟩
            go_simp
          simp only [Act.put, List.setIfInBounds_toArray, List.set_cons_zero, List.set_cons_succ]
          refine wpAnyH_take (i := 8) (oi := { dst := some 48, op := Op.fieldAddr 42 (Operand.tmp 6) 1, type := 0, pos := "law.go:75", after := #[], guard := none }) (v := .pointer (some ⟨g6, 4, none⟩)) rfl (by kernel_rfl) (by kernel_rfl) (by kernel_rfl) (fun _ _ _ h => h) (Or.inl ⟨by rfl, ?_⟩) (SK.out _ tV) ?_
          · rintro w ⟨d0, d1, d2, d3, d4, e0, e1, e2, e3⟩
            go_simp
          simp only [Act.put, List.setIfInBounds_toArray, List.set_cons_zero, List.set_cons_succ]
          refine wpAnyH_take (i := 9) (oi := { dst := some 49, op := Op.load 3 (Operand.tmp 48), type := 3, pos := "law.go:75", after := #[{ on := 8, ground := Ground.data }], guard := none }) (v := .int .i64 hg) rfl (by kernel_rfl) (by kernel_rfl) (by kernel_rfl) (fun _ _ _ h => h) (Or.inl ⟨by rfl, ?_⟩) (SK.out _ tV) ?_
          · rintro w ⟨d0, d1, d2, d3, d4, e0, e1, e2, e3⟩
            go_simp
          simp only [Act.put, List.setIfInBounds_toArray, List.set_cons_zero, List.set_cons_succ]
          refine wpAnyH_ready (rs := [4]) (by kernel_rfl) (by simp) ?_
          refine AllReadyH.cons rfl (fun K hK => ?_) AllReadyH.nil
          go_simp
          refine I4.out.mono ?_
          rintro o w7 ⟨rfl, ts', hN, hbd, hHal⟩
          have HAL := hide hHal
          have HN := hide hN
          have HBD := hide hbd
          have T7 := hide hHal.tt
          clear hHal hN hbd I4
          go_simp
          refine hK.out _ _ (SB.out _ (tD.trans (T7.out.mono fun k _ h => .inl h))) (fun _ => ?_)
          clear hK K
          refine wpAnyH_ready (rs := [10]) (by kernel_rfl) (by simp) ?_
          refine AllReadyH.cons rfl (fun K hK => ?_) AllReadyH.nil
          have hb7 := Turns.of_below (show Below w.heap.size w w7 by rw [HB.out]; exact HAL.out.bel) (fun _ => False)
          have hA7 := (HL.out.quiet hb7) k _ HGE.out
          go_simp
          refine (I10.out w7 ts' ka va kc vc HN.out HAL.out hA7.2.1 hA7.2.2.1).mono ?_
          rintro o w8 ⟨rfl, A', Q', rs', hbot8, haft⟩
          have B8 := hide hbot8
          have AF := hide haft
          clear hbot8 haft hb7 hA7 I10
          go_simp
          refine hK.out _ _ (SB.out _ (tD.trans AF.out.2.2)) (fun _ => ?_)
          clear hK K
          refine wpAnyH_take (i := 11) (oi := { dst := some 51, op := Op.binOp BinOp.neq 24 (Operand.tmp 44) (Operand.tmp 50) 24, type := 4, pos := "law.go:75", after := #[{ on := 4, ground := Ground.data }, { on := 10, ground := Ground.data }], guard := none }) (v := .bool false) rfl (by kernel_rfl) (by kernel_rfl) (by kernel_rfl) (fun _ _ _ h => h) (Or.inl ⟨by rfl, ?_⟩) (SB.out _ (tD.trans AF.out.2.2)) ?_
          · rintro w ⟨d0, d1, d2, d3, d4, e0, e1, e2, e3⟩
            go_simp
          simp only [Act.put, List.setIfInBounds_toArray, List.set_cons_zero, List.set_cons_succ]
          refine wpAnyH_done (by kernel_rfl) ?_ _
          go_wp2_with fail
          go_meet
          exact ⟨rfl, A', Q', ts', rs', B8.out, HBD.out, AF.out.1, AF.out.2.1, tD.trans AF.out.2.2⟩
        case rest =>
          obtain ⟨rfl, A', Q', ts', rs', hb8, hbd, ha8, hq8, ht8⟩ := hcut
          obtain ⟨w8, hw8⟩ : ∃ u, u = wc := ⟨wc, rfl⟩
          subst hw8
          obtain ⟨ga, rfl, hra, hga1, hga2⟩ := OWN.out.2
          have nga : ∀ q, wa.heap.size ≤ q → ¬ (A q ∨ Q q) := fun q hq h => h.elim (fun h => by have := (HAQ.out.1 _ h).2; omega) fun h => by have := (HAQ.out.2 _ h).2; omega
          have HRA := hide (hra.turns ht8 (nga ga hga1))
          have HBX := hide (ht8.heap HBX.out (fun h => h.elim (fun h => by have := (HAQ.out.1 _ h).2; omega) fun h => by have := (HAQ.out.2 _ h).2; omega))
          have HB7 := hide (ht8.heap HB7.out (nga g7 (by omega)))
          have B8 := hide hb8
          have HBD := hide hbd
          have HNA := hide (show ¬ A' ga ∧ ¬ Q' ga from ⟨fun h => nga ga hga1 (.inl (ha8 ga (by omega) h)), fun h => nga ga hga1 (.inr (hq8 ga (by omega) h))⟩)
          have hsz8 := ht8.size
          clear hb8 hbd ha8 hq8 ht8 nga hra OWN BOT SB I4 I10 HAQ HAQ0 K1 K2 K3 HTS HTL
          have hBa : B ≤ ga := by omega
          go_wp2_with fail
          go_loopw [8] (fun jv wz => ∃ (j : Nat) (cs : Array Value), jv = .int .i64 (j : Nat) ∧ j ≤ e.key.length ∧ wz.heap[ga]? = some (.cells cs 5 (0, 0)) ∧ e.key.length ≤ cs.size ∧ Turns (fun k => k = ga) w8 wz) (fun jv _ => e.key.length - (intOf jv).toNat)
          case atStart =>
            obtain ⟨cs, h1, h2, h3⟩ := HRA.out
            refine ⟨0, cs, rfl, Nat.zero_le _, h1, ?_, Turns.refl _ _⟩
            rcases Nat.eq_zero_or_pos e.key.length with h0 | h0
            · omega
            · have h4 := h3 (e.key.length - 1) (by rw [cellsOf_length]; omega)
              rw [List.getElem?_eq_getElem (by rw [cellsOf_length]; omega)] at h4
              have := (Array.getElem?_eq_some_iff.1 h4).1
              omega
          case round =>
            obtain ⟨j, cs, rfl, hj, hcs, hln, htz⟩ := hrel
            have TZ := hide htz
            have HCS := hide hcs
            have z0 : wr.cell? ⟨g7, 0, none⟩ = some (.slice (some ⟨ga, 0, none⟩) e.key.length yc) := cell_of_row wr g7 0 _ 29 (0, 0) (htz.heap HB7.out (show ¬ g7 = ga by omega))
            clear htz hcs
            by_cases hj2 : j < e.key.length
            · have j1 : (j : Int) < (e.key.length : Nat) := by omega
              have j0 : (0 : Int) ≤ (j : Int) := by omega
              have z1 : wr.cell? ⟨ga, j, none⟩ = some (cs[j]'(by omega)) := by rw [cell_of_row wr ga j _ 5 (0, 0) HCS.out, Array.getElem?_eq_getElem]
              have z2 := frozen_of_row wr ga j _ 5 HCS.out
              have TK := hide ((Tick.refl HCS.out).set j (.int .u8 0))
              go_wp2_with fail
              go_roundw
              case rel => exact ⟨j + 1, _, by go_num, by omega, TK.out.1, by simp; omega, TZ.out.trans (Turns.of_tick TK.out)⟩
              case measure => simp [intOf]; omega
            · have j1 : ¬ (j : Int) < (e.key.length : Nat) := by omega
              clear HCS HRA
              go_upto_region 17 with (fail)
              obtain ⟨w9, hw9⟩ : ∃ u, u = wr := ⟨wr, rfl⟩
              subst hw9
              have B9 := hide (B8.out.keep TZ.out (fun k hk => by rw [hk]; exact ⟨hBa, HNA.out.1, HNA.out.2⟩))
              have HBX := hide (TZ.out.heap HBX.out (show ¬ g6 = ga by omega))
              clear B8 TZ HNA z0 HB7
              have u5 : w9.cell? ⟨g6, 5, none⟩ = some (.slice qa q.length qc) := cell_of_row w9 g6 5 _ 42 (0, 0) HBX.out
              have u6 : w9.cell? ⟨g6, 6, none⟩ = some (.int .u64 (s : Nat)) := cell_of_row w9 g6 6 _ 42 (0, 0) HBX.out
              have KQ := hide (fun u (hb : Below B w u) => show Bytes u (.slice qa q.length qc) q from ((HL.out.quiet (Turns.of_below (show Below w.heap.size w u by rw [HB.out]; exact hb) (fun _ => False))) k _ HGE.out).2.2.2)
              have htl9 : ts'.length ≤ 10000 := by have := HBD.out.1; have := HTL0.out; have := HL120.out; have := HLN.out; omega
              have hts9 : sizeT ts' ≤ 900000 := by
                have h0 := HBD.out.2
                have h1 := HTS0.out
                have h2 := wtA_take l k
                have h3 := HWT.out
                have h4 := HL120.out
                have h5 := HLN.out
                omega
              obtain ⟨eq, c, hel, g18, g19⟩ := bot_get (s := s) B9.out (KQ.out _ B9.out.bel) hqn htl9 hts9
              obtain ⟨eu, cu, hul, g10, g20⟩ := bot_seek (qa := qa) (qc := qc) (q := q) (s := s) B9.out hqn htl9 hts9
              have G18 := hide g18
              have G19 := hide g19
              have G10 := hide g10
              have G20 := hide g20
              have HEL := hide hel
              have HUL := hide hul
              clear g18 g19 g10 g20 hel hul
              go_upto_region 18 with (go_at_call 18; refine G18.out.mono ?_; rintro o w10 ⟨xa, xv, xc, xvc, rfl, bx1, bx2, b10⟩)
              have T10 := hide ((Turns.of_below b10 (fun _ => False)).alloc (.cells #[.slice xa eq.key.length xc, .int .u64 (eq.seq : Nat), .int .i64 eq.kind, .slice xv eq.val.length xvc] 29))
              have BX := hide (heap_alloc_new w10 (.cells #[.slice xa eq.key.length xc, .int .u64 (eq.seq : Nat), .int .i64 eq.kind, .slice xv eq.val.length xvc] 29))
              have TT := (Turns.refl (fun _ => False) w10).alloc (.cells #[.slice xa eq.key.length xc, .int .u64 (eq.seq : Nat), .int .i64 eq.kind, .slice xv eq.val.length xvc] 29)
              have X1 := hide (bx1.quiet TT)
              have X2 := hide (bx2.quiet TT)
              clear bx1 bx2 b10 TT
              have T9 := hide T10.out
              generalize w10.alloc (.cells #[.slice xa eq.key.length xc, .int .u64 (eq.seq : Nat), .int .i64 eq.kind, .slice xv eq.val.length xvc] 29) = wA at *
              generalize w10.heap.size = g9 at *
              clear u5 u6
              have BA := hide (B9.out.quiet T9.out)
              have HBXA := hide (T9.out.heap HBX.out (fun x => x))
              have u5 : wA.cell? ⟨g6, 5, none⟩ = some (.slice qa q.length qc) := cell_of_row wA g6 5 _ 42 (0, 0) HBXA.out
              have u6 : wA.cell? ⟨g6, 6, none⟩ = some (.int .u64 (s : Nat)) := cell_of_row wA g6 6 _ 42 (0, 0) HBXA.out
              go_upto_region 19 with (go_at_call 19; refine (G19.out wA BA.out (KQ.out _ BA.out.bel)).mono ?_; rintro o w10 ⟨ya, yv, yc, yvc, rfl, by1, by2, b10⟩)
              have TA := (Turns.of_below b10 (fun _ => False)).alloc (.cells #[.slice ya eq.key.length yc, .int .u64 (eq.seq : Nat), .int .i64 eq.kind, .slice yv eq.val.length yvc] 29)
              have TB := (Turns.refl (fun _ => False) w10).alloc (.cells #[.slice ya eq.key.length yc, .int .u64 (eq.seq : Nat), .int .i64 eq.kind, .slice yv eq.val.length yvc] 29)
              have BY := hide (heap_alloc_new w10 (.cells #[.slice ya eq.key.length yc, .int .u64 (eq.seq : Nat), .int .i64 eq.kind, .slice yv eq.val.length yvc] 29))
              have Y1 := hide (by1.quiet TB)
              have Y2 := hide (by2.quiet TB)
              have BX := hide (TA.heap BX.out (fun x => x))
              have X1 := hide (X1.out.quiet TA)
              have X2 := hide (X2.out.quiet TA)
              have BA := hide (BA.out.quiet TA)
              have HBXA := hide (TA.heap HBXA.out (fun x => x))
              clear by1 by2 b10 TA TB u5 u6
              generalize w10.alloc (.cells #[.slice ya eq.key.length yc, .int .u64 (eq.seq : Nat), .int .i64 eq.kind, .slice yv eq.val.length yvc] 29) = wY at *
              generalize w10.heap.size = g11 at *
              have u5 : wY.cell? ⟨g6, 5, none⟩ = some (.slice qa q.length qc) := cell_of_row wY g6 5 _ 42 (0, 0) HBXA.out
              have u6 : wY.cell? ⟨g6, 6, none⟩ = some (.int .u64 (s : Nat)) := cell_of_row wY g6 6 _ 42 (0, 0) HBXA.out
              go_upto_region 20 with (go_at_call 10; refine (G10.out wY BA.out (KQ.out _ BA.out.bel)).mono ?_; rintro o w11 ⟨ua, uv, uc, uvc, rfl, bu1, bu2, b11⟩)
              have TA := (Turns.of_below b11 (fun _ => False)).alloc (.cells #[.slice ua eu.key.length uc, .int .u64 (eu.seq : Nat), .int .i64 eu.kind, .slice uv eu.val.length uvc] 29)
              have TB := (Turns.refl (fun _ => False) w11).alloc (.cells #[.slice ua eu.key.length uc, .int .u64 (eu.seq : Nat), .int .i64 eu.kind, .slice uv eu.val.length uvc] 29)
              have BU := hide (heap_alloc_new w11 (.cells #[.slice ua eu.key.length uc, .int .u64 (eu.seq : Nat), .int .i64 eu.kind, .slice uv eu.val.length uvc] 29))
              have U1 := hide (bu1.quiet TB)
              have U2 := hide (bu2.quiet TB)
              have BX := hide (TA.heap BX.out (fun x => x))
              have X1 := hide (X1.out.quiet TA)
              have X2 := hide (X2.out.quiet TA)
              have BY := hide (TA.heap BY.out (fun x => x))
              have Y1 := hide (Y1.out.quiet TA)
              have Y2 := hide (Y2.out.quiet TA)
              have BA := hide (BA.out.quiet TA)
              have HBXA := hide (TA.heap HBXA.out (fun x => x))
              clear bu1 bu2 b11 TA TB u5 u6
              generalize w11.alloc (.cells #[.slice ua eu.key.length uc, .int .u64 (eu.seq : Nat), .int .i64 eu.kind, .slice uv eu.val.length uvc] 29) = wU at *
              generalize w11.heap.size = g13 at *
              have u5 : wU.cell? ⟨g6, 5, none⟩ = some (.slice qa q.length qc) := cell_of_row wU g6 5 _ 42 (0, 0) HBXA.out
              have u6 : wU.cell? ⟨g6, 6, none⟩ = some (.int .u64 (s : Nat)) := cell_of_row wU g6 6 _ 42 (0, 0) HBXA.out
              go_upto_region 21 with (go_at_call 20; refine (G20.out wU BA.out (KQ.out _ BA.out.bel)).mono ?_; rintro o w12 ⟨va2, vv2, vc2, vvc2, rfl, bv1, bv2, b12⟩)
              have TA := (Turns.of_below b12 (fun _ => False)).alloc (.cells #[.slice va2 eu.key.length vc2, .int .u64 (eu.seq : Nat), .int .i64 eu.kind, .slice vv2 eu.val.length vvc2] 29)
              have TB := (Turns.refl (fun _ => False) w12).alloc (.cells #[.slice va2 eu.key.length vc2, .int .u64 (eu.seq : Nat), .int .i64 eu.kind, .slice vv2 eu.val.length vvc2] 29)
              have BV := hide (heap_alloc_new w12 (.cells #[.slice va2 eu.key.length vc2, .int .u64 (eu.seq : Nat), .int .i64 eu.kind, .slice vv2 eu.val.length vvc2] 29))
              have V1 := hide (bv1.quiet TB)
              have V2 := hide (bv2.quiet TB)
              have BX := hide (TA.heap BX.out (fun x => x))
              have X1 := hide (X1.out.quiet TA)
              have X2 := hide (X2.out.quiet TA)
              have BY := hide (TA.heap BY.out (fun x => x))
              have Y1 := hide (Y1.out.quiet TA)
              have Y2 := hide (Y2.out.quiet TA)
              have BU := hide (TA.heap BU.out (fun x => x))
              have U1 := hide (U1.out.quiet TA)
              have U2 := hide (U2.out.quiet TA)
              have BA := hide (BA.out.quiet TA)
              have HBXA := hide (TA.heap HBXA.out (fun x => x))
              clear bv1 bv2 b12 TA TB u5 u6
              generalize w12.alloc (.cells #[.slice va2 eu.key.length vc2, .int .u64 (eu.seq : Nat), .int .i64 eu.kind, .slice vv2 eu.val.length vvc2] 29) = wV at *
              generalize w12.heap.size = g15 at *
              obtain ⟨c24, g24, g25⟩ := bot_height (qa := qa) (qc := qc) (q := q) (s := s) BA.out hqn htl9 hts9
              obtain ⟨c26, g26, g27⟩ := bot_steps (qa := qa) (qc := qc) (q := q) (s := s) BA.out hqn htl9 hts9
              obtain ⟨LL, hLL, g29, g30⟩ := bot_from (qa := qa) (qc := qc) (q := q) BA.out hqn htl9 hts9 nn
              obtain ⟨La, Ha, Lc, Hc, hbr, hEn, _⟩ := BA.out.ro
              have G24 := hide g24
              have G25 := hide g25
              have G26 := hide g26
              have G27 := hide g27
              have G29 := hide g29
              have G30 := hide g30
              have HLL2 := hide hLL
              have HLL := hide (show ts'.length = rs'.length ∧ ts'.length ≤ 10000 from ⟨BA.out.al.len, htl9⟩)
              have HZZ := hide (show sizeT ts' = sizeT rs' ∧ sizeT ts' ≤ 900000 from ⟨BA.out.al.size, hts9⟩)
              have HEN := hide hEn
              have HBR := hide hbr
              have SK := hide (fun u (tq : Turns (fun _ => False) wV u) => show Asked u g6 g9 g11 g13 g15 r La Lc rs'.length xa xc xv xvc ya yc yv yvc ua uc uv uvc va2 vc2 vv2 vvc2 eq eu qa qc q.length s from
                ⟨box4 (tq.heap BX.out (fun x => x)), box4 (tq.heap BY.out (fun x => x)), box4 (tq.heap BU.out (fun x => x)), box4 (tq.heap BV.out (fun x => x)), cell_of_row u r 0 _ 49 (0, 0) (tq.heap HBR.out (fun x => x)), cell_of_row u g6 5 _ 42 (0, 0) (tq.heap HBXA.out (fun x => x)), cell_of_row u g6 6 _ 42 (0, 0) (tq.heap HBXA.out (fun x => x))⟩)
              clear g24 g25 g26 g27 g29 g30 hLL hbr hEn G18 G19 G10 G20 HBX B9 T9 T10 htl9 hts9
              go_cut [168] from 99 to 168 (fun v wx => v = .bool false ∧ Turns (fun _ => False) wV wx)
              case first =>
                rename_i kk rest jj kk' m1 m2
                clear rest
                have tV : Turns (fun _ => False) wV wV.drew := (Turns.refl _ _).drew
                refine wp_region_held_drew (S := fun u => Asked u g6 g9 g11 g13 g15 r La Lc rs'.length xa xc xv xvc ya yc yv yvc ua uc uv uvc va2 vc2 vv2 vvc2 eq eu qa qc q.length s) (by kernel_rfl) (SK.out _ tV) (fun _ => ?_)
                change wpAnyH _ _ _ _ _ 70 (Array.replicate 70 false) _ _
                refine wpAnyH_take (i := 0) (oi := { dst := some 99, op := Op.load 29 (Operand.tmp 9), type := 29, pos := "law.go:85", after := #[], guard := none }) (v := .agg #[.slice xa eq.key.length xc, .int .u64 (eq.seq : Nat), .int .i64 eq.kind, .slice xv eq.val.length xvc]) rfl (by kernel_rfl) (by kernel_rfl) (by kernel_rfl) (fun _ _ _ h => h) (Or.inl ⟨by rfl, ?_⟩) (SK.out _ tV) ?_
                · rintro w ⟨⟨x0, x1, x2, x3⟩, ⟨y0, y1, y2, y3⟩, ⟨u0, u1, u2, u3⟩, ⟨v0, v1, v2, v3⟩, r0, k5, k6⟩
                  go_simp
                simp only [Act.put, List.setIfInBounds_toArray, List.set_cons_zero, List.set_cons_succ]
                refine wpAnyH_take (i := 1) (oi := { dst := some 100, op := Op.load 29 (Operand.tmp 11), type := 29, pos := "law.go:85", after := #[], guard := none }) (v := .agg #[.slice ya eq.key.length yc, .int .u64 (eq.seq : Nat), .int .i64 eq.kind, .slice yv eq.val.length yvc]) rfl (by kernel_rfl) (by kernel_rfl) (by kernel_rfl) (fun _ _ _ h => h) (Or.inl ⟨by rfl, ?_⟩) (SK.out _ tV) ?_
                · rintro w ⟨⟨x0, x1, x2, x3⟩, ⟨y0, y1, y2, y3⟩, ⟨u0, u1, u2, u3⟩, ⟨v0, v1, v2, v3⟩, r0, k5, k6⟩
                  go_simp
                simp only [Act.put, List.setIfInBounds_toArray, List.set_cons_zero, List.set_cons_succ]
                refine wpAnyH_ready (rs := [2]) (by kernel_rfl) (by simp) ?_
                refine AllReadyH.cons rfl (fun K hK => ?_) AllReadyH.nil
                go_simp
                refine (entry_same xa xv ya yv eq.key.length xc eq.val.length xvc yc yvc eq.seq eq.kind eq.key eq.val _ (X1.out.quiet tV) (X2.out.quiet tV) (Y1.out.quiet tV) (Y2.out.quiet tV) HEL.out.1 HEL.out.2).mono ?_
                rintro o Vn ⟨rfl, b2⟩
                have tV := tV.trans (Turns.of_below b2 (fun _ => False))
                go_simp
                refine hK.out _ _ (SK.out _ tV) (fun _ => ?_)
                clear hK K
                refine wpAnyH_take (i := 3) (oi := { dst := some 102, op := Op.unOp UnOp.not 4 (Operand.tmp 101), type := 4, pos := "law.go:85", after := #[{ on := 2, ground := Ground.data }], guard := none }) (v := .bool false) rfl (by kernel_rfl) (by kernel_rfl) (by kernel_rfl) (fun _ _ _ h => h) (Or.inl ⟨by rfl, ?_⟩) (SK.out _ tV) ?_
                · rintro w ⟨⟨x0, x1, x2, x3⟩, ⟨y0, y1, y2, y3⟩, ⟨u0, u1, u2, u3⟩, ⟨v0, v1, v2, v3⟩, r0, k5, k6⟩
                  go_simp
                simp only [Act.put, List.setIfInBounds_toArray, List.set_cons_zero, List.set_cons_succ]
                refine wpAnyH_take (i := 4) (oi := { dst := some 103, op := Op.move (Operand.tmp 102), type := 4, pos := "law.go:85", after := #[{ on := 3, ground := Ground.data }, { on := 2, ground := Ground.chain }], guard := none }) (v := .bool false) rfl (by kernel_rfl) (by kernel_rfl) (by kernel_rfl) (fun _ _ _ h => h) (Or.inl ⟨by rfl, ?_⟩) (SK.out _ tV) ?_
                · rintro w ⟨⟨x0, x1, x2, x3⟩, ⟨y0, y1, y2, y3⟩, ⟨u0, u1, u2, u3⟩, ⟨v0, v1, v2, v3⟩, r0, k5, k6⟩
                  go_simp
                simp only [Act.put, List.setIfInBounds_toArray, List.set_cons_zero, List.set_cons_succ]
                refine wpAnyH_take (i := 5) (oi := { dst := some 104, op := Op.move (Operand.tmp 10), type := 24, pos := "law.go:85", after := #[{ on := 4, ground := Ground.guard }], guard := some (4, false) }) (v := .int .i64 c) rfl (by kernel_rfl) (by kernel_rfl) (by kernel_rfl) (fun _ _ _ h => h) (Or.inl ⟨by rfl, ?_⟩) (SK.out _ tV) ?_
                · rintro w ⟨⟨x0, x1, x2, x3⟩, ⟨y0, y1, y2, y3⟩, ⟨u0, u1, u2, u3⟩, ⟨v0, v1, v2, v3⟩, r0, k5, k6⟩
                  go_simp
                simp only [Act.put, List.setIfInBounds_toArray, List.set_cons_zero, List.set_cons_succ]
                refine wpAnyH_take (i := 6) (oi := { dst := some 105, op := Op.move (Operand.tmp 12), type := 24, pos := "law.go:85", after := #[{ on := 4, ground := Ground.guard }], guard := some (4, false) }) (v := .int .i64 c) rfl (by kernel_rfl) (by kernel_rfl) (by kernel_rfl) (fun _ _ _ h => h) (Or.inl ⟨by rfl, ?_⟩) (SK.out _ tV) ?_
                · rintro w ⟨⟨x0, x1, x2, x3⟩, ⟨y0, y1, y2, y3⟩, ⟨u0, u1, u2, u3⟩, ⟨v0, v1, v2, v3⟩, r0, k5, k6⟩
                  go_simp
                simp only [Act.put, List.setIfInBounds_toArray, List.set_cons_zero, List.set_cons_succ]
                refine wpAnyH_take (i := 7) (oi := { dst := some 106, op := Op.binOp BinOp.neq 24 (Operand.tmp 104) (Operand.tmp 105) 24, type := 4, pos := "law.go:85", after := #[{ on := 5, ground := Ground.data }, { on := 6, ground := Ground.data }, { on := 4, ground := Ground.guard }], guard := some (4, false) }) (v := .bool false) rfl (by kernel_rfl) (by kernel_rfl) (by kernel_rfl) (fun _ _ _ h => h) (Or.inl ⟨by rfl, ?_⟩) (SK.out _ tV) ?_
                · rintro w ⟨⟨x0, x1, x2, x3⟩, ⟨y0, y1, y2, y3⟩, ⟨u0, u1, u2, u3⟩, ⟨v0, v1, v2, v3⟩, r0, k5, k6⟩
                  go_simp
                simp only [Act.put, List.setIfInBounds_toArray, List.set_cons_zero, List.set_cons_succ]
                refine wpAnyH_take (i := 8) (oi := { dst := some 107, op := Op.pick (Operand.tmp 103) (Operand.const (Value.bool true)) (Operand.tmp 106), type := 4, pos := "law.go:85", after := #[{ on := 4, ground := Ground.data }, { on := 7, ground := Ground.data }], guard := none }) (v := .bool false) rfl (by kernel_rfl) (by kernel_rfl) (by kernel_rfl) (fun _ _ _ h => h) (Or.inl ⟨by rfl, ?_⟩) (SK.out _ tV) ?_
                · rintro w ⟨⟨x0, x1, x2, x3⟩, ⟨y0, y1, y2, y3⟩, ⟨u0, u1, u2, u3⟩, ⟨v0, v1, v2, v3⟩, r0, k5, k6⟩
                  go_simp
                simp only [Act.put, List.setIfInBounds_toArray, List.set_cons_zero, List.set_cons_succ]
                refine wpAnyH_take (i := 9) (oi := { dst := some 108, op := Op.move (Operand.tmp 107), type := 4, pos := "law.go:85", after := #[{ on := 8, ground := Ground.data }, { on := 4, ground := Ground.chain }], guard := none }) (v := .bool false) rfl (by kernel_rfl) (by kernel_rfl) (by kernel_rfl) (fun _ _ _ h => h) (Or.inl ⟨by rfl, ?_⟩) (SK.out _ tV) ?_
                · rintro w ⟨⟨x0, x1, x2, x3⟩, ⟨y0, y1, y2, y3⟩, ⟨u0, u1, u2, u3⟩, ⟨v0, v1, v2, v3⟩, r0, k5, k6⟩
                  go_simp
                simp only [Act.put, List.setIfInBounds_toArray, List.set_cons_zero, List.set_cons_succ]
                refine wpAnyH_take (i := 10) (oi := { dst := some 109, op := Op.load 29 (Operand.tmp 13), type := 29, pos := "law.go:85", after := #[{ on := 9, ground := Ground.guard }], guard := some (9, false) }) (v := .agg #[.slice ua eu.key.length uc, .int .u64 (eu.seq : Nat), .int .i64 eu.kind, .slice uv eu.val.length uvc]) rfl (by kernel_rfl) (by kernel_rfl) (by kernel_rfl) (fun _ _ _ h => h) (Or.inl ⟨by rfl, ?_⟩) (SK.out _ tV) ?_
                · rintro w ⟨⟨x0, x1, x2, x3⟩, ⟨y0, y1, y2, y3⟩, ⟨u0, u1, u2, u3⟩, ⟨v0, v1, v2, v3⟩, r0, k5, k6⟩
                  go_simp
                simp only [Act.put, List.setIfInBounds_toArray, List.set_cons_zero, List.set_cons_succ]
                refine wpAnyH_take (i := 11) (oi := { dst := some 110, op := Op.load 29 (Operand.tmp 15), type := 29, pos := "law.go:85", after := #[{ on := 9, ground := Ground.guard }], guard := some (9, false) }) (v := .agg #[.slice va2 eu.key.length vc2, .int .u64 (eu.seq : Nat), .int .i64 eu.kind, .slice vv2 eu.val.length vvc2]) rfl (by kernel_rfl) (by kernel_rfl) (by kernel_rfl) (fun _ _ _ h => h) (Or.inl ⟨by rfl, ?_⟩) (SK.out _ tV) ?_
                · rintro w ⟨⟨x0, x1, x2, x3⟩, ⟨y0, y1, y2, y3⟩, ⟨u0, u1, u2, u3⟩, ⟨v0, v1, v2, v3⟩, r0, k5, k6⟩
                  go_simp
                simp only [Act.put, List.setIfInBounds_toArray, List.set_cons_zero, List.set_cons_succ]
                refine wpAnyH_ready (rs := [12]) (by kernel_rfl) (by simp) ?_
                refine AllReadyH.cons rfl (fun K hK => ?_) AllReadyH.nil
                go_simp
                refine (entry_same ua uv va2 vv2 eu.key.length uc eu.val.length uvc vc2 vvc2 eu.seq eu.kind eu.key eu.val _ (U1.out.quiet tV) (U2.out.quiet tV) (V1.out.quiet tV) (V2.out.quiet tV) HUL.out.1 HUL.out.2).mono ?_
                rintro o Vn ⟨rfl, b2⟩
                have tV := tV.trans (Turns.of_below b2 (fun _ => False))
                go_simp
                refine hK.out _ _ (SK.out _ tV) (fun _ => ?_)
                clear hK K
                refine wpAnyH_take (i := 13) (oi := { dst := some 112, op := Op.unOp UnOp.not 4 (Operand.tmp 111), type := 4, pos := "law.go:85", after := #[{ on := 12, ground := Ground.data }, { on := 9, ground := Ground.guard }], guard := some (9, false) }) (v := .bool false) rfl (by kernel_rfl) (by kernel_rfl) (by kernel_rfl) (fun _ _ _ h => h) (Or.inl ⟨by rfl, ?_⟩) (SK.out _ tV) ?_
                · rintro w ⟨⟨x0, x1, x2, x3⟩, ⟨y0, y1, y2, y3⟩, ⟨u0, u1, u2, u3⟩, ⟨v0, v1, v2, v3⟩, r0, k5, k6⟩
                  go_simp
                simp only [Act.put, List.setIfInBounds_toArray, List.set_cons_zero, List.set_cons_succ]
                refine wpAnyH_take (i := 14) (oi := { dst := some 113, op := Op.pick (Operand.tmp 108) (Operand.const (Value.bool true)) (Operand.tmp 112), type := 4, pos := "law.go:85", after := #[{ on := 9, ground := Ground.data }, { on := 13, ground := Ground.data }], guard := none }) (v := .bool false) rfl (by kernel_rfl) (by kernel_rfl) (by kernel_rfl) (fun _ _ _ h => h) (Or.inl ⟨by rfl, ?_⟩) (SK.out _ tV) ?_
                · rintro w ⟨⟨x0, x1, x2, x3⟩, ⟨y0, y1, y2, y3⟩, ⟨u0, u1, u2, u3⟩, ⟨v0, v1, v2, v3⟩, r0, k5, k6⟩
                  go_simp
                simp only [Act.put, List.setIfInBounds_toArray, List.set_cons_zero, List.set_cons_succ]
                refine wpAnyH_take (i := 15) (oi := { dst := some 114, op := Op.move (Operand.tmp 113), type := 4, pos := "law.go:85", after := #[{ on := 14, ground := Ground.data }, { on := 12, ground := Ground.chain }], guard := none }) (v := .bool false) rfl (by kernel_rfl) (by kernel_rfl) (by kernel_rfl) (fun _ _ _ h => h) (Or.inl ⟨by rfl, ?_⟩) (SK.out _ tV) ?_
                · rintro w ⟨⟨x0, x1, x2, x3⟩, ⟨y0, y1, y2, y3⟩, ⟨u0, u1, u2, u3⟩, ⟨v0, v1, v2, v3⟩, r0, k5, k6⟩
                  go_simp
                simp only [Act.put, List.setIfInBounds_toArray, List.set_cons_zero, List.set_cons_succ]
                refine wpAnyH_take (i := 16) (oi := { dst := some 115, op := Op.move (Operand.tmp 14), type := 4, pos := "law.go:85", after := #[{ on := 15, ground := Ground.guard }], guard := some (15, false) }) (v := .bool cu) rfl (by kernel_rfl) (by kernel_rfl) (by kernel_rfl) (fun _ _ _ h => h) (Or.inl ⟨by rfl, ?_⟩) (SK.out _ tV) ?_
                · rintro w ⟨⟨x0, x1, x2, x3⟩, ⟨y0, y1, y2, y3⟩, ⟨u0, u1, u2, u3⟩, ⟨v0, v1, v2, v3⟩, r0, k5, k6⟩
                  go_simp
                simp only [Act.put, List.setIfInBounds_toArray, List.set_cons_zero, List.set_cons_succ]
                refine wpAnyH_take (i := 17) (oi := { dst := some 116, op := Op.move (Operand.tmp 16), type := 4, pos := "law.go:85", after := #[{ on := 15, ground := Ground.guard }], guard := some (15, false) }) (v := .bool cu) rfl (by kernel_rfl) (by kernel_rfl) (by kernel_rfl) (fun _ _ _ h => h) (Or.inl ⟨by rfl, ?_⟩) (SK.out _ tV) ?_
                · rintro w ⟨⟨x0, x1, x2, x3⟩, ⟨y0, y1, y2, y3⟩, ⟨u0, u1, u2, u3⟩, ⟨v0, v1, v2, v3⟩, r0, k5, k6⟩
                  go_simp
                simp only [Act.put, List.setIfInBounds_toArray, List.set_cons_zero, List.set_cons_succ]
                refine wpAnyH_take (i := 18) (oi := { dst := some 117, op := Op.binOp BinOp.neq 4 (Operand.tmp 115) (Operand.tmp 116) 4, type := 4, pos := "law.go:85", after := #[{ on := 16, ground := Ground.data }, { on := 17, ground := Ground.data }, { on := 15, ground := Ground.guard }], guard := some (15, false) }) (v := .bool false) rfl (by kernel_rfl) (by kernel_rfl) (by kernel_rfl) (fun _ _ _ h => h) (Or.inl ⟨by rfl, ?_⟩) (SK.out _ tV) ?_
                · rintro w ⟨⟨x0, x1, x2, x3⟩, ⟨y0, y1, y2, y3⟩, ⟨u0, u1, u2, u3⟩, ⟨v0, v1, v2, v3⟩, r0, k5, k6⟩
                  cases cu <;> go_simp
                simp only [Act.put, List.setIfInBounds_toArray, List.set_cons_zero, List.set_cons_succ]
                refine wpAnyH_take (i := 19) (oi := { dst := some 118, op := Op.pick (Operand.tmp 114) (Operand.const (Value.bool true)) (Operand.tmp 117), type := 4, pos := "law.go:85", after := #[{ on := 15, ground := Ground.data }, { on := 18, ground := Ground.data }], guard := none }) (v := .bool false) rfl (by kernel_rfl) (by kernel_rfl) (by kernel_rfl) (fun _ _ _ h => h) (Or.inl ⟨by rfl, ?_⟩) (SK.out _ tV) ?_
                · rintro w ⟨⟨x0, x1, x2, x3⟩, ⟨y0, y1, y2, y3⟩, ⟨u0, u1, u2, u3⟩, ⟨v0, v1, v2, v3⟩, r0, k5, k6⟩
                  go_simp
                simp only [Act.put, List.setIfInBounds_toArray, List.set_cons_zero, List.set_cons_succ]
                refine wpAnyH_take (i := 20) (oi := { dst := some 119, op := Op.move (Operand.tmp 118), type := 4, pos := "law.go:85", after := #[{ on := 19, ground := Ground.data }, { on := 15, ground := Ground.chain }], guard := none }) (v := .bool false) rfl (by kernel_rfl) (by kernel_rfl) (by kernel_rfl) (fun _ _ _ h => h) (Or.inl ⟨by rfl, ?_⟩) (SK.out _ tV) ?_
                · rintro w ⟨⟨x0, x1, x2, x3⟩, ⟨y0, y1, y2, y3⟩, ⟨u0, u1, u2, u3⟩, ⟨v0, v1, v2, v3⟩, r0, k5, k6⟩
                  go_simp
                simp only [Act.put, List.setIfInBounds_toArray, List.set_cons_zero, List.set_cons_succ]
                refine wpAnyH_take (i := 21) (oi := { dst := some 120, op := Op.move (Operand.tmp 3), type := 22, pos := "law.go:85", after := #[{ on := 20, ground := Ground.guard }], guard := some (20, false) }) (v := .pointer (some ⟨t, 0, none⟩)) rfl (by kernel_rfl) (by kernel_rfl) (by kernel_rfl) (fun _ _ _ h => h) (Or.inl ⟨by rfl, ?_⟩) (SK.out _ tV) ?_
                · rintro w ⟨⟨x0, x1, x2, x3⟩, ⟨y0, y1, y2, y3⟩, ⟨u0, u1, u2, u3⟩, ⟨v0, v1, v2, v3⟩, r0, k5, k6⟩
                  go_simp
                simp only [Act.put, List.setIfInBounds_toArray, List.set_cons_zero, List.set_cons_succ]
                refine wpAnyH_take (i := 23) (oi := { dst := some 122, op := Op.move (Operand.tmp 4), type := 39, pos := "law.go:85", after := #[{ on := 20, ground := Ground.guard }], guard := some (20, false) }) (v := .pointer (some ⟨r, 0, none⟩)) rfl (by kernel_rfl) (by kernel_rfl) (by kernel_rfl) (fun _ _ _ h => h) (Or.inl ⟨by rfl, ?_⟩) (SK.out _ tV) ?_
                · rintro w ⟨⟨x0, x1, x2, x3⟩, ⟨y0, y1, y2, y3⟩, ⟨u0, u1, u2, u3⟩, ⟨v0, v1, v2, v3⟩, r0, k5, k6⟩
                  go_simp
                simp only [Act.put, List.setIfInBounds_toArray, List.set_cons_zero, List.set_cons_succ]
                refine wpAnyH_take (i := 24) (oi := { dst := some 123, op := Op.nilCheck (Operand.tmp 122), type := 0, pos := "law.go:85", after := #[{ on := 23, ground := Ground.data }, { on := 20, ground := Ground.guard }], guard := some (20, false) }) (v := .pointer (some ⟨r, 0, none⟩)) rfl (by kernel_rfl) (by kernel_rfl) (by kernel_rfl) (fun _ _ _ h => h) (Or.inl ⟨by rfl, ?_⟩) (SK.out _ tV) ?_
                · rintro w ⟨⟨x0, x1, x2, x3⟩, ⟨y0, y1, y2, y3⟩, ⟨u0, u1, u2, u3⟩, ⟨v0, v1, v2, v3⟩, r0, k5, k6⟩
                  go_simp
                simp only [Act.put, List.setIfInBounds_toArray, List.set_cons_zero, List.set_cons_succ]
                refine wpAnyH_take (i := 25) (oi := { dst := some 124, op := Op.fieldAddr 49 (Operand.tmp 123) 0, type := 0, pos := "law.go:85", after := #[{ on := 24, ground := Ground.data }, { on := 20, ground := Ground.guard }], guard := some (20, false) }) (v := .pointer (some ⟨r, 0, none⟩)) rfl (by kernel_rfl) (by kernel_rfl) (by kernel_rfl) (fun _ _ _ h => h) (Or.inl ⟨by rfl, ?_⟩) (SK.out _ tV) ?_
                · rintro w ⟨⟨x0, x1, x2, x3⟩, ⟨y0, y1, y2, y3⟩, ⟨u0, u1, u2, u3⟩, ⟨v0, v1, v2, v3⟩, r0, k5, k6⟩
                  go_simp
                simp only [Act.put, List.setIfInBounds_toArray, List.set_cons_zero, List.set_cons_succ]
                refine wpAnyH_take (i := 26) (oi := { dst := some 125, op := Op.load 33 (Operand.tmp 124), type := 33, pos := "law.go:85", after := #[{ on := 25, ground := Ground.data }, { on := 20, ground := Ground.guard }], guard := some (20, false) }) (v := .slice La rs'.length Lc) rfl (by kernel_rfl) (by kernel_rfl) (by kernel_rfl) (fun _ _ _ h => h) (Or.inl ⟨by rfl, ?_⟩) (SK.out _ tV) ?_
                · rintro w ⟨⟨x0, x1, x2, x3⟩, ⟨y0, y1, y2, y3⟩, ⟨u0, u1, u2, u3⟩, ⟨v0, v1, v2, v3⟩, r0, k5, k6⟩
                  go_simp
                simp only [Act.put, List.setIfInBounds_toArray, List.set_cons_zero, List.set_cons_succ]
                refine wpAnyH_take (i := 27) (oi := { dst := some 126, op := Op.call { callee := Callee.builtin Builtin.len, args := #[Operand.tmp 125], argTypes := #[33] }, type := 3, pos := "law.go:85", after := #[{ on := 26, ground := Ground.data }, { on := 20, ground := Ground.guard }], guard := some (20, false) }) (v := .int .i64 (rs'.length : Nat)) rfl (by kernel_rfl) (by kernel_rfl) (by kernel_rfl) (fun _ _ _ h => h) (Or.inl ⟨by rfl, ?_⟩) (SK.out _ tV) ?_
                · rintro w ⟨⟨x0, x1, x2, x3⟩, ⟨y0, y1, y2, y3⟩, ⟨u0, u1, u2, u3⟩, ⟨v0, v1, v2, v3⟩, r0, k5, k6⟩
                  go_simp
                simp only [Act.put, List.setIfInBounds_toArray, List.set_cons_zero, List.set_cons_succ]
                refine wpAnyH_ready (rs := [22]) (by kernel_rfl) (by simp) ?_
                refine AllReadyH.cons rfl (fun K hK => ?_) AllReadyH.nil
                go_simp
                refine (len_any _ _ _ _ _ (BA.out.quiet tV).tab).mono ?_
                rintro o Vn ⟨rfl, rfl⟩
                have tV := tV.trans (Turns.refl _ _)
                go_simp
                refine hK.out _ _ (SK.out _ tV) (fun _ => ?_)
                clear hK K
                refine wpAnyH_take (i := 28) (oi := { dst := some 127, op := Op.binOp BinOp.neq 3 (Operand.tmp 121) (Operand.tmp 126) 3, type := 4, pos := "law.go:85", after := #[{ on := 22, ground := Ground.data }, { on := 27, ground := Ground.data }, { on := 20, ground := Ground.guard }], guard := some (20, false) }) (v := .bool false) rfl (by kernel_rfl) (by kernel_rfl) (by kernel_rfl) (fun _ _ _ h => h) (Or.inl ⟨by rfl, ?_⟩) (SK.out _ tV) ?_
                · rintro w ⟨⟨x0, x1, x2, x3⟩, ⟨y0, y1, y2, y3⟩, ⟨u0, u1, u2, u3⟩, ⟨v0, v1, v2, v3⟩, r0, k5, k6⟩
                  have hll := HLL.out; go_simp
                simp only [Act.put, List.setIfInBounds_toArray, List.set_cons_zero, List.set_cons_succ]
                refine wpAnyH_take (i := 29) (oi := { dst := some 128, op := Op.pick (Operand.tmp 119) (Operand.const (Value.bool true)) (Operand.tmp 127), type := 4, pos := "law.go:85", after := #[{ on := 20, ground := Ground.data }, { on := 28, ground := Ground.data }], guard := none }) (v := .bool false) rfl (by kernel_rfl) (by kernel_rfl) (by kernel_rfl) (fun _ _ _ h => h) (Or.inl ⟨by rfl, ?_⟩) (SK.out _ tV) ?_
                · rintro w ⟨⟨x0, x1, x2, x3⟩, ⟨y0, y1, y2, y3⟩, ⟨u0, u1, u2, u3⟩, ⟨v0, v1, v2, v3⟩, r0, k5, k6⟩
                  go_simp
                simp only [Act.put, List.setIfInBounds_toArray, List.set_cons_zero, List.set_cons_succ]
                refine wpAnyH_take (i := 30) (oi := { dst := some 129, op := Op.move (Operand.tmp 128), type := 4, pos := "law.go:85", after := #[{ on := 29, ground := Ground.data }, { on := 22, ground := Ground.chain }], guard := none }) (v := .bool false) rfl (by kernel_rfl) (by kernel_rfl) (by kernel_rfl) (fun _ _ _ h => h) (Or.inl ⟨by rfl, ?_⟩) (SK.out _ tV) ?_
                · rintro w ⟨⟨x0, x1, x2, x3⟩, ⟨y0, y1, y2, y3⟩, ⟨u0, u1, u2, u3⟩, ⟨v0, v1, v2, v3⟩, r0, k5, k6⟩
                  go_simp
                simp only [Act.put, List.setIfInBounds_toArray, List.set_cons_zero, List.set_cons_succ]
                refine wpAnyH_take (i := 31) (oi := { dst := some 130, op := Op.move (Operand.tmp 3), type := 22, pos := "law.go:85", after := #[{ on := 30, ground := Ground.guard }], guard := some (30, false) }) (v := .pointer (some ⟨t, 0, none⟩)) rfl (by kernel_rfl) (by kernel_rfl) (by kernel_rfl) (fun _ _ _ h => h) (Or.inl ⟨by rfl, ?_⟩) (SK.out _ tV) ?_
                · rintro w ⟨⟨x0, x1, x2, x3⟩, ⟨y0, y1, y2, y3⟩, ⟨u0, u1, u2, u3⟩, ⟨v0, v1, v2, v3⟩, r0, k5, k6⟩
                  go_simp
                simp only [Act.put, List.setIfInBounds_toArray, List.set_cons_zero, List.set_cons_succ]
                refine wpAnyH_take (i := 33) (oi := { dst := some 132, op := Op.move (Operand.tmp 4), type := 39, pos := "law.go:85", after := #[{ on := 30, ground := Ground.guard }], guard := some (30, false) }) (v := .pointer (some ⟨r, 0, none⟩)) rfl (by kernel_rfl) (by kernel_rfl) (by kernel_rfl) (fun _ _ _ h => h) (Or.inl ⟨by rfl, ?_⟩) (SK.out _ tV) ?_
                · rintro w ⟨⟨x0, x1, x2, x3⟩, ⟨y0, y1, y2, y3⟩, ⟨u0, u1, u2, u3⟩, ⟨v0, v1, v2, v3⟩, r0, k5, k6⟩
                  go_simp
                simp only [Act.put, List.setIfInBounds_toArray, List.set_cons_zero, List.set_cons_succ]
                refine wpAnyH_take (i := 34) (oi := { dst := some 133, op := Op.nilCheck (Operand.tmp 132), type := 0, pos := "law.go:85", after := #[{ on := 33, ground := Ground.data }, { on := 30, ground := Ground.guard }], guard := some (30, false) }) (v := .pointer (some ⟨r, 0, none⟩)) rfl (by kernel_rfl) (by kernel_rfl) (by kernel_rfl) (fun _ _ _ h => h) (Or.inl ⟨by rfl, ?_⟩) (SK.out _ tV) ?_
                · rintro w ⟨⟨x0, x1, x2, x3⟩, ⟨y0, y1, y2, y3⟩, ⟨u0, u1, u2, u3⟩, ⟨v0, v1, v2, v3⟩, r0, k5, k6⟩
                  go_simp
                simp only [Act.put, List.setIfInBounds_toArray, List.set_cons_zero, List.set_cons_succ]
                refine wpAnyH_take (i := 35) (oi := { dst := some 134, op := Op.fieldAddr 49 (Operand.tmp 133) 0, type := 0, pos := "law.go:85", after := #[{ on := 34, ground := Ground.data }, { on := 30, ground := Ground.guard }], guard := some (30, false) }) (v := .pointer (some ⟨r, 0, none⟩)) rfl (by kernel_rfl) (by kernel_rfl) (by kernel_rfl) (fun _ _ _ h => h) (Or.inl ⟨by rfl, ?_⟩) (SK.out _ tV) ?_
                · rintro w ⟨⟨x0, x1, x2, x3⟩, ⟨y0, y1, y2, y3⟩, ⟨u0, u1, u2, u3⟩, ⟨v0, v1, v2, v3⟩, r0, k5, k6⟩
                  go_simp
                simp only [Act.put, List.setIfInBounds_toArray, List.set_cons_zero, List.set_cons_succ]
                refine wpAnyH_take (i := 36) (oi := { dst := some 135, op := Op.load 33 (Operand.tmp 134), type := 33, pos := "law.go:85", after := #[{ on := 35, ground := Ground.data }, { on := 30, ground := Ground.guard }], guard := some (30, false) }) (v := .slice La rs'.length Lc) rfl (by kernel_rfl) (by kernel_rfl) (by kernel_rfl) (fun _ _ _ h => h) (Or.inl ⟨by rfl, ?_⟩) (SK.out _ tV) ?_
                · rintro w ⟨⟨x0, x1, x2, x3⟩, ⟨y0, y1, y2, y3⟩, ⟨u0, u1, u2, u3⟩, ⟨v0, v1, v2, v3⟩, r0, k5, k6⟩
                  go_simp
                simp only [Act.put, List.setIfInBounds_toArray, List.set_cons_zero, List.set_cons_succ]
                refine wpAnyH_ready (rs := [32]) (by kernel_rfl) (by simp) ?_
                refine AllReadyH.cons rfl (fun K hK => ?_) AllReadyH.nil
                go_simp
                refine (sizeT_any _ _ _ _ _ (BA.out.quiet tV).tab).mono ?_
                rintro o Vn ⟨rfl, rfl⟩
                have tV := tV.trans (Turns.refl _ _)
                go_simp
                refine hK.out _ _ (SK.out _ tV) (fun _ => ?_)
                clear hK K
                refine wpAnyH_ready (rs := [37]) (by kernel_rfl) (by simp) ?_
                refine AllReadyH.cons rfl (fun K hK => ?_) AllReadyH.nil
                go_simp
                refine (rsizeOf_any La rs'.length Lc rs' _ (HEN.out.quiet tV) rfl (by have := HLL.out; omega) (by have := HZZ.out; omega)).mono ?_
                rintro o Vn ⟨rfl, t2⟩
                have tV := tV.trans t2
                go_simp
                refine hK.out _ _ (SK.out _ tV) (fun _ => ?_)
                clear hK K
                refine wpAnyH_take (i := 38) (oi := { dst := some 137, op := Op.binOp BinOp.neq 3 (Operand.tmp 131) (Operand.tmp 136) 3, type := 4, pos := "law.go:85", after := #[{ on := 32, ground := Ground.data }, { on := 37, ground := Ground.data }, { on := 30, ground := Ground.guard }], guard := some (30, false) }) (v := .bool false) rfl (by kernel_rfl) (by kernel_rfl) (by kernel_rfl) (fun _ _ _ h => h) (Or.inl ⟨by rfl, ?_⟩) (SK.out _ tV) ?_
                · rintro w ⟨⟨x0, x1, x2, x3⟩, ⟨y0, y1, y2, y3⟩, ⟨u0, u1, u2, u3⟩, ⟨v0, v1, v2, v3⟩, r0, k5, k6⟩
                  have hzz := HZZ.out; go_simp
                simp only [Act.put, List.setIfInBounds_toArray, List.set_cons_zero, List.set_cons_succ]
                refine wpAnyH_take (i := 39) (oi := { dst := some 138, op := Op.pick (Operand.tmp 129) (Operand.const (Value.bool true)) (Operand.tmp 137), type := 4, pos := "law.go:85", after := #[{ on := 30, ground := Ground.data }, { on := 38, ground := Ground.data }], guard := none }) (v := .bool false) rfl (by kernel_rfl) (by kernel_rfl) (by kernel_rfl) (fun _ _ _ h => h) (Or.inl ⟨by rfl, ?_⟩) (SK.out _ tV) ?_
                · rintro w ⟨⟨x0, x1, x2, x3⟩, ⟨y0, y1, y2, y3⟩, ⟨u0, u1, u2, u3⟩, ⟨v0, v1, v2, v3⟩, r0, k5, k6⟩
                  go_simp
                simp only [Act.put, List.setIfInBounds_toArray, List.set_cons_zero, List.set_cons_succ]
                refine wpAnyH_take (i := 40) (oi := { dst := some 139, op := Op.move (Operand.tmp 138), type := 4, pos := "law.go:85", after := #[{ on := 39, ground := Ground.data }, { on := 37, ground := Ground.chain }], guard := none }) (v := .bool false) rfl (by kernel_rfl) (by kernel_rfl) (by kernel_rfl) (fun _ _ _ h => h) (Or.inl ⟨by rfl, ?_⟩) (SK.out _ tV) ?_
                · rintro w ⟨⟨x0, x1, x2, x3⟩, ⟨y0, y1, y2, y3⟩, ⟨u0, u1, u2, u3⟩, ⟨v0, v1, v2, v3⟩, r0, k5, k6⟩
                  go_simp
                simp only [Act.put, List.setIfInBounds_toArray, List.set_cons_zero, List.set_cons_succ]
                refine wpAnyH_take (i := 41) (oi := { dst := some 140, op := Op.move (Operand.tmp 3), type := 22, pos := "law.go:85", after := #[{ on := 40, ground := Ground.guard }], guard := some (40, false) }) (v := .pointer (some ⟨t, 0, none⟩)) rfl (by kernel_rfl) (by kernel_rfl) (by kernel_rfl) (fun _ _ _ h => h) (Or.inl ⟨by rfl, ?_⟩) (SK.out _ tV) ?_
                · rintro w ⟨⟨x0, x1, x2, x3⟩, ⟨y0, y1, y2, y3⟩, ⟨u0, u1, u2, u3⟩, ⟨v0, v1, v2, v3⟩, r0, k5, k6⟩
                  go_simp
                simp only [Act.put, List.setIfInBounds_toArray, List.set_cons_zero, List.set_cons_succ]
                refine wpAnyH_take (i := 42) (oi := { dst := some 141, op := Op.fieldAddr 42 (Operand.tmp 6) 2, type := 0, pos := "law.go:85", after := #[{ on := 40, ground := Ground.guard }], guard := some (40, false) }) (v := .pointer (some ⟨g6, 5, none⟩)) rfl (by kernel_rfl) (by kernel_rfl) (by kernel_rfl) (fun _ _ _ h => h) (Or.inl ⟨by rfl, ?_⟩) (SK.out _ tV) ?_
                · rintro w ⟨⟨x0, x1, x2, x3⟩, ⟨y0, y1, y2, y3⟩, ⟨u0, u1, u2, u3⟩, ⟨v0, v1, v2, v3⟩, r0, k5, k6⟩
                  go_simp
                simp only [Act.put, List.setIfInBounds_toArray, List.set_cons_zero, List.set_cons_succ]
                refine wpAnyH_take (i := 43) (oi := { dst := some 142, op := Op.load 26 (Operand.tmp 141), type := 26, pos := "law.go:85", after := #[{ on := 42, ground := Ground.data }, { on := 40, ground := Ground.guard }], guard := some (40, false) }) (v := .slice qa q.length qc) rfl (by kernel_rfl) (by kernel_rfl) (by kernel_rfl) (fun _ _ _ h => h) (Or.inl ⟨by rfl, ?_⟩) (SK.out _ tV) ?_
                · rintro w ⟨⟨x0, x1, x2, x3⟩, ⟨y0, y1, y2, y3⟩, ⟨u0, u1, u2, u3⟩, ⟨v0, v1, v2, v3⟩, r0, k5, k6⟩
                  go_simp
                simp only [Act.put, List.setIfInBounds_toArray, List.set_cons_zero, List.set_cons_succ]
                refine wpAnyH_take (i := 44) (oi := { dst := some 143, op := Op.fieldAddr 42 (Operand.tmp 6) 3, type := 0, pos := "law.go:85", after := #[{ on := 40, ground := Ground.guard }], guard := some (40, false) }) (v := .pointer (some ⟨g6, 6, none⟩)) rfl (by kernel_rfl) (by kernel_rfl) (by kernel_rfl) (fun _ _ _ h => h) (Or.inl ⟨by rfl, ?_⟩) (SK.out _ tV) ?_
                · rintro w ⟨⟨x0, x1, x2, x3⟩, ⟨y0, y1, y2, y3⟩, ⟨u0, u1, u2, u3⟩, ⟨v0, v1, v2, v3⟩, r0, k5, k6⟩
                  go_simp
                simp only [Act.put, List.setIfInBounds_toArray, List.set_cons_zero, List.set_cons_succ]
                refine wpAnyH_take (i := 45) (oi := { dst := some 144, op := Op.load 27 (Operand.tmp 143), type := 27, pos := "law.go:85", after := #[{ on := 44, ground := Ground.data }, { on := 40, ground := Ground.guard }], guard := some (40, false) }) (v := .int .u64 (s : Nat)) rfl (by kernel_rfl) (by kernel_rfl) (by kernel_rfl) (fun _ _ _ h => h) (Or.inl ⟨by rfl, ?_⟩) (SK.out _ tV) ?_
                · rintro w ⟨⟨x0, x1, x2, x3⟩, ⟨y0, y1, y2, y3⟩, ⟨u0, u1, u2, u3⟩, ⟨v0, v1, v2, v3⟩, r0, k5, k6⟩
                  go_simp
                simp only [Act.put, List.setIfInBounds_toArray, List.set_cons_zero, List.set_cons_succ]
                refine wpAnyH_take (i := 47) (oi := { dst := some 146, op := Op.move (Operand.tmp 4), type := 39, pos := "law.go:85", after := #[{ on := 40, ground := Ground.guard }], guard := some (40, false) }) (v := .pointer (some ⟨r, 0, none⟩)) rfl (by kernel_rfl) (by kernel_rfl) (by kernel_rfl) (fun _ _ _ h => h) (Or.inl ⟨by rfl, ?_⟩) (SK.out _ tV) ?_
                · rintro w ⟨⟨x0, x1, x2, x3⟩, ⟨y0, y1, y2, y3⟩, ⟨u0, u1, u2, u3⟩, ⟨v0, v1, v2, v3⟩, r0, k5, k6⟩
                  go_simp
                simp only [Act.put, List.setIfInBounds_toArray, List.set_cons_zero, List.set_cons_succ]
                refine wpAnyH_take (i := 48) (oi := { dst := some 147, op := Op.fieldAddr 42 (Operand.tmp 6) 2, type := 0, pos := "law.go:85", after := #[{ on := 40, ground := Ground.guard }], guard := some (40, false) }) (v := .pointer (some ⟨g6, 5, none⟩)) rfl (by kernel_rfl) (by kernel_rfl) (by kernel_rfl) (fun _ _ _ h => h) (Or.inl ⟨by rfl, ?_⟩) (SK.out _ tV) ?_
                · rintro w ⟨⟨x0, x1, x2, x3⟩, ⟨y0, y1, y2, y3⟩, ⟨u0, u1, u2, u3⟩, ⟨v0, v1, v2, v3⟩, r0, k5, k6⟩
                  go_simp
                simp only [Act.put, List.setIfInBounds_toArray, List.set_cons_zero, List.set_cons_succ]
                refine wpAnyH_take (i := 49) (oi := { dst := some 148, op := Op.load 26 (Operand.tmp 147), type := 26, pos := "law.go:85", after := #[{ on := 48, ground := Ground.data }, { on := 40, ground := Ground.guard }], guard := some (40, false) }) (v := .slice qa q.length qc) rfl (by kernel_rfl) (by kernel_rfl) (by kernel_rfl) (fun _ _ _ h => h) (Or.inl ⟨by rfl, ?_⟩) (SK.out _ tV) ?_
                · rintro w ⟨⟨x0, x1, x2, x3⟩, ⟨y0, y1, y2, y3⟩, ⟨u0, u1, u2, u3⟩, ⟨v0, v1, v2, v3⟩, r0, k5, k6⟩
                  go_simp
                simp only [Act.put, List.setIfInBounds_toArray, List.set_cons_zero, List.set_cons_succ]
                refine wpAnyH_take (i := 50) (oi := { dst := some 149, op := Op.fieldAddr 42 (Operand.tmp 6) 3, type := 0, pos := "law.go:85", after := #[{ on := 40, ground := Ground.guard }], guard := some (40, false) }) (v := .pointer (some ⟨g6, 6, none⟩)) rfl (by kernel_rfl) (by kernel_rfl) (by kernel_rfl) (fun _ _ _ h => h) (Or.inl ⟨by rfl, ?_⟩) (SK.out _ tV) ?_
                · rintro w ⟨⟨x0, x1, x2, x3⟩, ⟨y0, y1, y2, y3⟩, ⟨u0, u1, u2, u3⟩, ⟨v0, v1, v2, v3⟩, r0, k5, k6⟩
                  go_simp
                simp only [Act.put, List.setIfInBounds_toArray, List.set_cons_zero, List.set_cons_succ]
                refine wpAnyH_take (i := 51) (oi := { dst := some 150, op := Op.load 27 (Operand.tmp 149), type := 27, pos := "law.go:85", after := #[{ on := 50, ground := Ground.data }, { on := 40, ground := Ground.guard }], guard := some (40, false) }) (v := .int .u64 (s : Nat)) rfl (by kernel_rfl) (by kernel_rfl) (by kernel_rfl) (fun _ _ _ h => h) (Or.inl ⟨by rfl, ?_⟩) (SK.out _ tV) ?_
                · rintro w ⟨⟨x0, x1, x2, x3⟩, ⟨y0, y1, y2, y3⟩, ⟨u0, u1, u2, u3⟩, ⟨v0, v1, v2, v3⟩, r0, k5, k6⟩
                  go_simp
                simp only [Act.put, List.setIfInBounds_toArray, List.set_cons_zero, List.set_cons_succ]
                refine wpAnyH_ready (rs := [46]) (by kernel_rfl) (by simp) ?_
                refine AllReadyH.cons rfl (fun K hK => ?_) AllReadyH.nil
                go_simp
                refine (G24.out _ (BA.out.quiet tV) (KQ.out _ (BA.out.quiet tV).bel)).mono ?_
                rintro o Vn ⟨rfl, b2⟩
                have tV := tV.trans (Turns.of_below b2 (fun _ => False))
                go_simp
                refine hK.out _ _ (SK.out _ tV) (fun _ => ?_)
                clear hK K
                refine wpAnyH_ready (rs := [52]) (by kernel_rfl) (by simp) ?_
                refine AllReadyH.cons rfl (fun K hK => ?_) AllReadyH.nil
                go_simp
                refine (G25.out _ (BA.out.quiet tV) (KQ.out _ (BA.out.quiet tV).bel)).mono ?_
                rintro o Vn ⟨rfl, b2⟩
                have tV := tV.trans (Turns.of_below b2 (fun _ => False))
                go_simp
                refine hK.out _ _ (SK.out _ tV) (fun _ => ?_)
                clear hK K
                refine wpAnyH_take (i := 53) (oi := { dst := some 152, op := Op.binOp BinOp.neq 3 (Operand.tmp 145) (Operand.tmp 151) 3, type := 4, pos := "law.go:85", after := #[{ on := 46, ground := Ground.data }, { on := 52, ground := Ground.data }, { on := 40, ground := Ground.guard }], guard := some (40, false) }) (v := .bool false) rfl (by kernel_rfl) (by kernel_rfl) (by kernel_rfl) (fun _ _ _ h => h) (Or.inl ⟨by rfl, ?_⟩) (SK.out _ tV) ?_
                · rintro w ⟨⟨x0, x1, x2, x3⟩, ⟨y0, y1, y2, y3⟩, ⟨u0, u1, u2, u3⟩, ⟨v0, v1, v2, v3⟩, r0, k5, k6⟩
                  go_simp
                simp only [Act.put, List.setIfInBounds_toArray, List.set_cons_zero, List.set_cons_succ]
                refine wpAnyH_take (i := 54) (oi := { dst := some 153, op := Op.pick (Operand.tmp 139) (Operand.const (Value.bool true)) (Operand.tmp 152), type := 4, pos := "law.go:85", after := #[{ on := 40, ground := Ground.data }, { on := 53, ground := Ground.data }], guard := none }) (v := .bool false) rfl (by kernel_rfl) (by kernel_rfl) (by kernel_rfl) (fun _ _ _ h => h) (Or.inl ⟨by rfl, ?_⟩) (SK.out _ tV) ?_
                · rintro w ⟨⟨x0, x1, x2, x3⟩, ⟨y0, y1, y2, y3⟩, ⟨u0, u1, u2, u3⟩, ⟨v0, v1, v2, v3⟩, r0, k5, k6⟩
                  go_simp
                simp only [Act.put, List.setIfInBounds_toArray, List.set_cons_zero, List.set_cons_succ]
                refine wpAnyH_take (i := 55) (oi := { dst := some 154, op := Op.move (Operand.tmp 153), type := 4, pos := "law.go:85", after := #[{ on := 54, ground := Ground.data }, { on := 52, ground := Ground.chain }], guard := none }) (v := .bool false) rfl (by kernel_rfl) (by kernel_rfl) (by kernel_rfl) (fun _ _ _ h => h) (Or.inl ⟨by rfl, ?_⟩) (SK.out _ tV) ?_
                · rintro w ⟨⟨x0, x1, x2, x3⟩, ⟨y0, y1, y2, y3⟩, ⟨u0, u1, u2, u3⟩, ⟨v0, v1, v2, v3⟩, r0, k5, k6⟩
                  go_simp
                simp only [Act.put, List.setIfInBounds_toArray, List.set_cons_zero, List.set_cons_succ]
                refine wpAnyH_take (i := 56) (oi := { dst := some 155, op := Op.move (Operand.tmp 3), type := 22, pos := "law.go:85", after := #[{ on := 55, ground := Ground.guard }], guard := some (55, false) }) (v := .pointer (some ⟨t, 0, none⟩)) rfl (by kernel_rfl) (by kernel_rfl) (by kernel_rfl) (fun _ _ _ h => h) (Or.inl ⟨by rfl, ?_⟩) (SK.out _ tV) ?_
                · rintro w ⟨⟨x0, x1, x2, x3⟩, ⟨y0, y1, y2, y3⟩, ⟨u0, u1, u2, u3⟩, ⟨v0, v1, v2, v3⟩, r0, k5, k6⟩
                  go_simp
                simp only [Act.put, List.setIfInBounds_toArray, List.set_cons_zero, List.set_cons_succ]
                refine wpAnyH_take (i := 57) (oi := { dst := some 156, op := Op.fieldAddr 42 (Operand.tmp 6) 2, type := 0, pos := "law.go:85", after := #[{ on := 55, ground := Ground.guard }], guard := some (55, false) }) (v := .pointer (some ⟨g6, 5, none⟩)) rfl (by kernel_rfl) (by kernel_rfl) (by kernel_rfl) (fun _ _ _ h => h) (Or.inl ⟨by rfl, ?_⟩) (SK.out _ tV) ?_
                · rintro w ⟨⟨x0, x1, x2, x3⟩, ⟨y0, y1, y2, y3⟩, ⟨u0, u1, u2, u3⟩, ⟨v0, v1, v2, v3⟩, r0, k5, k6⟩
                  go_simp
                simp only [Act.put, List.setIfInBounds_toArray, List.set_cons_zero, List.set_cons_succ]
                refine wpAnyH_take (i := 58) (oi := { dst := some 157, op := Op.load 26 (Operand.tmp 156), type := 26, pos := "law.go:85", after := #[{ on := 57, ground := Ground.data }, { on := 55, ground := Ground.guard }], guard := some (55, false) }) (v := .slice qa q.length qc) rfl (by kernel_rfl) (by kernel_rfl) (by kernel_rfl) (fun _ _ _ h => h) (Or.inl ⟨by rfl, ?_⟩) (SK.out _ tV) ?_
                · rintro w ⟨⟨x0, x1, x2, x3⟩, ⟨y0, y1, y2, y3⟩, ⟨u0, u1, u2, u3⟩, ⟨v0, v1, v2, v3⟩, r0, k5, k6⟩
                  go_simp
                simp only [Act.put, List.setIfInBounds_toArray, List.set_cons_zero, List.set_cons_succ]
                refine wpAnyH_take (i := 59) (oi := { dst := some 158, op := Op.fieldAddr 42 (Operand.tmp 6) 3, type := 0, pos := "law.go:85", after := #[{ on := 55, ground := Ground.guard }], guard := some (55, false) }) (v := .pointer (some ⟨g6, 6, none⟩)) rfl (by kernel_rfl) (by kernel_rfl) (by kernel_rfl) (fun _ _ _ h => h) (Or.inl ⟨by rfl, ?_⟩) (SK.out _ tV) ?_
                · rintro w ⟨⟨x0, x1, x2, x3⟩, ⟨y0, y1, y2, y3⟩, ⟨u0, u1, u2, u3⟩, ⟨v0, v1, v2, v3⟩, r0, k5, k6⟩
                  go_simp
                simp only [Act.put, List.setIfInBounds_toArray, List.set_cons_zero, List.set_cons_succ]
                refine wpAnyH_take (i := 60) (oi := { dst := some 159, op := Op.load 27 (Operand.tmp 158), type := 27, pos := "law.go:85", after := #[{ on := 59, ground := Ground.data }, { on := 55, ground := Ground.guard }], guard := some (55, false) }) (v := .int .u64 (s : Nat)) rfl (by kernel_rfl) (by kernel_rfl) (by kernel_rfl) (fun _ _ _ h => h) (Or.inl ⟨by rfl, ?_⟩) (SK.out _ tV) ?_
                · rintro w ⟨⟨x0, x1, x2, x3⟩, ⟨y0, y1, y2, y3⟩, ⟨u0, u1, u2, u3⟩, ⟨v0, v1, v2, v3⟩, r0, k5, k6⟩
                  go_simp
                simp only [Act.put, List.setIfInBounds_toArray, List.set_cons_zero, List.set_cons_succ]
                refine wpAnyH_take (i := 62) (oi := { dst := some 161, op := Op.move (Operand.tmp 4), type := 39, pos := "law.go:85", after := #[{ on := 55, ground := Ground.guard }], guard := some (55, false) }) (v := .pointer (some ⟨r, 0, none⟩)) rfl (by kernel_rfl) (by kernel_rfl) (by kernel_rfl) (fun _ _ _ h => h) (Or.inl ⟨by rfl, ?_⟩) (SK.out _ tV) ?_
                · rintro w ⟨⟨x0, x1, x2, x3⟩, ⟨y0, y1, y2, y3⟩, ⟨u0, u1, u2, u3⟩, ⟨v0, v1, v2, v3⟩, r0, k5, k6⟩
                  go_simp
                simp only [Act.put, List.setIfInBounds_toArray, List.set_cons_zero, List.set_cons_succ]
                refine wpAnyH_take (i := 63) (oi := { dst := some 162, op := Op.fieldAddr 42 (Operand.tmp 6) 2, type := 0, pos := "law.go:85", after := #[{ on := 55, ground := Ground.guard }], guard := some (55, false) }) (v := .pointer (some ⟨g6, 5, none⟩)) rfl (by kernel_rfl) (by kernel_rfl) (by kernel_rfl) (fun _ _ _ h => h) (Or.inl ⟨by rfl, ?_⟩) (SK.out _ tV) ?_
                · rintro w ⟨⟨x0, x1, x2, x3⟩, ⟨y0, y1, y2, y3⟩, ⟨u0, u1, u2, u3⟩, ⟨v0, v1, v2, v3⟩, r0, k5, k6⟩
                  go_simp
                simp only [Act.put, List.setIfInBounds_toArray, List.set_cons_zero, List.set_cons_succ]
                refine wpAnyH_take (i := 64) (oi := { dst := some 163, op := Op.load 26 (Operand.tmp 162), type := 26, pos := "law.go:85", after := #[{ on := 63, ground := Ground.data }, { on := 55, ground := Ground.guard }], guard := some (55, false) }) (v := .slice qa q.length qc) rfl (by kernel_rfl) (by kernel_rfl) (by kernel_rfl) (fun _ _ _ h => h) (Or.inl ⟨by rfl, ?_⟩) (SK.out _ tV) ?_
                · rintro w ⟨⟨x0, x1, x2, x3⟩, ⟨y0, y1, y2, y3⟩, ⟨u0, u1, u2, u3⟩, ⟨v0, v1, v2, v3⟩, r0, k5, k6⟩
                  go_simp
                simp only [Act.put, List.setIfInBounds_toArray, List.set_cons_zero, List.set_cons_succ]
                refine wpAnyH_take (i := 65) (oi := { dst := some 164, op := Op.fieldAddr 42 (Operand.tmp 6) 3, type := 0, pos := "law.go:85", after := #[{ on := 55, ground := Ground.guard }], guard := some (55, false) }) (v := .pointer (some ⟨g6, 6, none⟩)) rfl (by kernel_rfl) (by kernel_rfl) (by kernel_rfl) (fun _ _ _ h => h) (Or.inl ⟨by rfl, ?_⟩) (SK.out _ tV) ?_
                · rintro w ⟨⟨x0, x1, x2, x3⟩, ⟨y0, y1, y2, y3⟩, ⟨u0, u1, u2, u3⟩, ⟨v0, v1, v2, v3⟩, r0, k5, k6⟩
                  go_simp
                simp only [Act.put, List.setIfInBounds_toArray, List.set_cons_zero, List.set_cons_succ]
                refine wpAnyH_take (i := 66) (oi := { dst := some 165, op := Op.load 27 (Operand.tmp 164), type := 27, pos := "law.go:85", after := #[{ on := 65, ground := Ground.data }, { on := 55, ground := Ground.guard }], guard := some (55, false) }) (v := .int .u64 (s : Nat)) rfl (by kernel_rfl) (by kernel_rfl) (by kernel_rfl) (fun _ _ _ h => h) (Or.inl ⟨by rfl, ?_⟩) (SK.out _ tV) ?_
                · rintro w ⟨⟨x0, x1, x2, x3⟩, ⟨y0, y1, y2, y3⟩, ⟨u0, u1, u2, u3⟩, ⟨v0, v1, v2, v3⟩, r0, k5, k6⟩
                  go_simp
                simp only [Act.put, List.setIfInBounds_toArray, List.set_cons_zero, List.set_cons_succ]
                refine wpAnyH_ready (rs := [61]) (by kernel_rfl) (by simp) ?_
                refine AllReadyH.cons rfl (fun K hK => ?_) AllReadyH.nil
                go_simp
                refine (G26.out _ (BA.out.quiet tV) (KQ.out _ (BA.out.quiet tV).bel)).mono ?_
                rintro o Vn ⟨rfl, b2⟩
                have tV := tV.trans (Turns.of_below b2 (fun _ => False))
                go_simp
                refine hK.out _ _ (SK.out _ tV) (fun _ => ?_)
                clear hK K
                refine wpAnyH_ready (rs := [67]) (by kernel_rfl) (by simp) ?_
                refine AllReadyH.cons rfl (fun K hK => ?_) AllReadyH.nil
                go_simp
                refine (G27.out _ (BA.out.quiet tV) (KQ.out _ (BA.out.quiet tV).bel)).mono ?_
                rintro o Vn ⟨rfl, b2⟩
                have tV := tV.trans (Turns.of_below b2 (fun _ => False))
                go_simp
                refine hK.out _ _ (SK.out _ tV) (fun _ => ?_)
                clear hK K
                refine wpAnyH_take (i := 68) (oi := { dst := some 167, op := Op.binOp BinOp.neq 3 (Operand.tmp 160) (Operand.tmp 166) 3, type := 4, pos := "law.go:85", after := #[{ on := 61, ground := Ground.data }, { on := 67, ground := Ground.data }, { on := 55, ground := Ground.guard }], guard := some (55, false) }) (v := .bool false) rfl (by kernel_rfl) (by kernel_rfl) (by kernel_rfl) (fun _ _ _ h => h) (Or.inl ⟨by rfl, ?_⟩) (SK.out _ tV) ?_
                · rintro w ⟨⟨x0, x1, x2, x3⟩, ⟨y0, y1, y2, y3⟩, ⟨u0, u1, u2, u3⟩, ⟨v0, v1, v2, v3⟩, r0, k5, k6⟩
                  go_simp
                simp only [Act.put, List.setIfInBounds_toArray, List.set_cons_zero, List.set_cons_succ]
                refine wpAnyH_take (i := 69) (oi := { dst := some 168, op := Op.pick (Operand.tmp 154) (Operand.const (Value.bool true)) (Operand.tmp 167), type := 4, pos := "law.go:85", after := #[{ on := 55, ground := Ground.data }, { on := 68, ground := Ground.data }], guard := none }) (v := .bool false) rfl (by kernel_rfl) (by kernel_rfl) (by kernel_rfl) (fun _ _ _ h => h) (Or.inl ⟨by rfl, ?_⟩) (SK.out _ tV) ?_
                · rintro w ⟨⟨x0, x1, x2, x3⟩, ⟨y0, y1, y2, y3⟩, ⟨u0, u1, u2, u3⟩, ⟨v0, v1, v2, v3⟩, r0, k5, k6⟩
                  go_simp
                simp only [Act.put, List.setIfInBounds_toArray, List.set_cons_zero, List.set_cons_succ]
                refine wpAnyH_done (by kernel_rfl) ?_ _
                go_wp2_with fail
                go_meet
                exact ⟨rfl, tV⟩
              case rest =>
                obtain ⟨rfl, tW⟩ := hcut
                obtain ⟨wW, hwW⟩ : ∃ u, u = wc := ⟨wc, rfl⟩
                subst hwW
                go_upto_region 23 with (fail)
                have BA := hide (BA.out.quiet tW)
                have SL := hide (fun u (tq : Turns (fun _ => False) wW u) => show u.cell? ⟨r, 0, none⟩ = some (.slice La rs'.length Lc) ∧ u.cell? ⟨g6, 5, none⟩ = some (.slice qa q.length qc) ∧ u.cell? ⟨g6, 7, none⟩ = some (.int .i64 nn) from
                  ⟨cell_of_row u r 0 _ 49 (0, 0) (tq.heap (tW.heap HBR.out (fun x => x)) (fun x => x)), cell_of_row u g6 5 _ 42 (0, 0) (tq.heap (tW.heap HBXA.out (fun x => x)) (fun x => x)), cell_of_row u g6 7 _ 42 (0, 0) (tq.heap (tW.heap HBXA.out (fun x => x)) (fun x => x))⟩)
                clear SK BX BY BU BV X1 X2 Y1 Y2 U1 U2 V1 V2 G24 G25 G26 G27
                go_cut [192] from 169 to 192 (fun v wx => v = .bool false ∧ Turns (fun _ => False) wW wx)
                case first =>
                  rename_i kk rest jj kk' m1 m2
                  clear rest
                  have tV : Turns (fun _ => False) wW wW.drew := (Turns.refl _ _).drew
                  refine wp_region_held_drew (S := fun u => u.cell? ⟨r, 0, none⟩ = some (.slice La rs'.length Lc) ∧ u.cell? ⟨g6, 5, none⟩ = some (.slice qa q.length qc) ∧ u.cell? ⟨g6, 7, none⟩ = some (.int .i64 nn)) (by kernel_rfl) (SL.out _ tV) (fun _ => ?_)
                  change wpAnyH _ _ _ _ _ 24 (Array.replicate 24 false) _ _
                  refine wpAnyH_take (i := 0) (oi := { dst := some 169, op := Op.move (Operand.tmp 3), type := 22, pos := "law.go:88", after := #[], guard := none }) (v := .pointer (some ⟨t, 0, none⟩)) rfl (by kernel_rfl) (by kernel_rfl) (by kernel_rfl) (fun _ _ _ h => h) (Or.inl ⟨by rfl, ?_⟩) (SL.out _ tV) ?_
                  · rintro w ⟨r0, k5, k7⟩
                    go_simp
                  simp only [Act.put, List.setIfInBounds_toArray, List.set_cons_zero, List.set_cons_succ]
                  refine wpAnyH_take (i := 1) (oi := { dst := some 170, op := Op.fieldAddr 42 (Operand.tmp 6) 2, type := 0, pos := "law.go:88", after := #[], guard := none }) (v := .pointer (some ⟨g6, 5, none⟩)) rfl (by kernel_rfl) (by kernel_rfl) (by kernel_rfl) (fun _ _ _ h => h) (Or.inl ⟨by rfl, ?_⟩) (SL.out _ tV) ?_
                  · rintro w ⟨r0, k5, k7⟩
                    go_simp
                  simp only [Act.put, List.setIfInBounds_toArray, List.set_cons_zero, List.set_cons_succ]
                  refine wpAnyH_take (i := 2) (oi := { dst := some 171, op := Op.load 26 (Operand.tmp 170), type := 26, pos := "law.go:88", after := #[{ on := 1, ground := Ground.data }], guard := none }) (v := .slice qa q.length qc) rfl (by kernel_rfl) (by kernel_rfl) (by kernel_rfl) (fun _ _ _ h => h) (Or.inl ⟨by rfl, ?_⟩) (SL.out _ tV) ?_
                  · rintro w ⟨r0, k5, k7⟩
                    go_simp
                  simp only [Act.put, List.setIfInBounds_toArray, List.set_cons_zero, List.set_cons_succ]
                  refine wpAnyH_take (i := 3) (oi := { dst := some 172, op := Op.fieldAddr 42 (Operand.tmp 6) 4, type := 0, pos := "law.go:88", after := #[], guard := none }) (v := .pointer (some ⟨g6, 7, none⟩)) rfl (by kernel_rfl) (by kernel_rfl) (by kernel_rfl) (fun _ _ _ h => h) (Or.inl ⟨by rfl, ?_⟩) (SL.out _ tV) ?_
                  · rintro w ⟨r0, k5, k7⟩
                    go_simp
                  simp only [Act.put, List.setIfInBounds_toArray, List.set_cons_zero, List.set_cons_succ]
                  refine wpAnyH_take (i := 4) (oi := { dst := some 173, op := Op.load 3 (Operand.tmp 172), type := 3, pos := "law.go:88", after := #[{ on := 3, ground := Ground.data }], guard := none }) (v := .int .i64 nn) rfl (by kernel_rfl) (by kernel_rfl) (by kernel_rfl) (fun _ _ _ h => h) (Or.inl ⟨by rfl, ?_⟩) (SL.out _ tV) ?_
                  · rintro w ⟨r0, k5, k7⟩
                    go_simp
                  simp only [Act.put, List.setIfInBounds_toArray, List.set_cons_zero, List.set_cons_succ]
                  refine wpAnyH_take (i := 6) (oi := { dst := some 175, op := Op.move (Operand.tmp 4), type := 39, pos := "law.go:88", after := #[], guard := none }) (v := .pointer (some ⟨r, 0, none⟩)) rfl (by kernel_rfl) (by kernel_rfl) (by kernel_rfl) (fun _ _ _ h => h) (Or.inl ⟨by rfl, ?_⟩) (SL.out _ tV) ?_
                  · rintro w ⟨r0, k5, k7⟩
                    go_simp
                  simp only [Act.put, List.setIfInBounds_toArray, List.set_cons_zero, List.set_cons_succ]
                  refine wpAnyH_take (i := 7) (oi := { dst := some 176, op := Op.fieldAddr 42 (Operand.tmp 6) 2, type := 0, pos := "law.go:88", after := #[], guard := none }) (v := .pointer (some ⟨g6, 5, none⟩)) rfl (by kernel_rfl) (by kernel_rfl) (by kernel_rfl) (fun _ _ _ h => h) (Or.inl ⟨by rfl, ?_⟩) (SL.out _ tV) ?_
                  · rintro w ⟨r0, k5, k7⟩
                    go_simp
                  simp only [Act.put, List.setIfInBounds_toArray, List.set_cons_zero, List.set_cons_succ]
                  refine wpAnyH_take (i := 8) (oi := { dst := some 177, op := Op.load 26 (Operand.tmp 176), type := 26, pos := "law.go:88", after := #[{ on := 7, ground := Ground.data }], guard := none }) (v := .slice qa q.length qc) rfl (by kernel_rfl) (by kernel_rfl) (by kernel_rfl) (fun _ _ _ h => h) (Or.inl ⟨by rfl, ?_⟩) (SL.out _ tV) ?_
                  · rintro w ⟨r0, k5, k7⟩
                    go_simp
                  simp only [Act.put, List.setIfInBounds_toArray, List.set_cons_zero, List.set_cons_succ]
                  refine wpAnyH_take (i := 9) (oi := { dst := some 178, op := Op.fieldAddr 42 (Operand.tmp 6) 4, type := 0, pos := "law.go:88", after := #[], guard := none }) (v := .pointer (some ⟨g6, 7, none⟩)) rfl (by kernel_rfl) (by kernel_rfl) (by kernel_rfl) (fun _ _ _ h => h) (Or.inl ⟨by rfl, ?_⟩) (SL.out _ tV) ?_
                  · rintro w ⟨r0, k5, k7⟩
                    go_simp
                  simp only [Act.put, List.setIfInBounds_toArray, List.set_cons_zero, List.set_cons_succ]
                  refine wpAnyH_take (i := 10) (oi := { dst := some 179, op := Op.load 3 (Operand.tmp 178), type := 3, pos := "law.go:88", after := #[{ on := 9, ground := Ground.data }], guard := none }) (v := .int .i64 nn) rfl (by kernel_rfl) (by kernel_rfl) (by kernel_rfl) (fun _ _ _ h => h) (Or.inl ⟨by rfl, ?_⟩) (SL.out _ tV) ?_
                  · rintro w ⟨r0, k5, k7⟩
                    go_simp
                  simp only [Act.put, List.setIfInBounds_toArray, List.set_cons_zero, List.set_cons_succ]
                  refine wpAnyH_ready (rs := [5]) (by kernel_rfl) (by simp) ?_
                  refine AllReadyH.cons rfl (fun K hK => ?_) AllReadyH.nil
                  go_simp
                  refine (G29.out _ (BA.out.quiet tV) (KQ.out _ (BA.out.quiet tV).bel)).mono ?_
                  rintro o Vn ⟨fa, fc, fR, rfl, fE, fm, b2⟩
                  have tN := (Turns.of_below b2 (fun _ => False))
                  have tV := tV.trans tN
                  have FE := hide fE
                  have FM := hide fm
                  clear fE fm b2
                  clear tN
                  go_simp
                  refine hK.out _ _ (SL.out _ tV) (fun _ => ?_)
                  clear hK K
                  refine wpAnyH_ready (rs := [11]) (by kernel_rfl) (by simp) ?_
                  refine AllReadyH.cons rfl (fun K hK => ?_) AllReadyH.nil
                  go_simp
                  refine (G30.out _ (BA.out.quiet tV) (KQ.out _ (BA.out.quiet tV).bel)).mono ?_
                  rintro o Vn ⟨ga2, gc2, gR, rfl, gE, gm, b2⟩
                  have tN := (Turns.of_below b2 (fun _ => False))
                  have tV := tV.trans tN
                  have FE := hide (FE.out.quiet tN)
                  have GE := hide gE
                  have GM := hide gm
                  clear gE gm b2
                  clear tN
                  go_simp
                  refine hK.out _ _ (SL.out _ tV) (fun _ => ?_)
                  clear hK K
                  refine wpAnyH_ready (rs := [12]) (by kernel_rfl) (by simp) ?_
                  refine AllReadyH.cons rfl (fun K hK => ?_) AllReadyH.nil
                  go_simp
                  refine (entries_same fa ga2 LL.length fc gc2 fR gR _ FE.out GE.out (by rw [FM.out, GM.out]) (by rw [← FM.out, List.length_map]) (by have := HLL2.out.1; omega) (fun x hx => HLL2.out.2 x.e (by rw [← FM.out]; exact List.mem_map_of_mem hx))).mono ?_
                  rintro o Vn ⟨rfl, b2⟩
                  have tN := (Turns.of_below b2 (fun _ => False))
                  have tV := tV.trans tN
                  clear tN
                  go_simp
                  refine hK.out _ _ (SL.out _ tV) (fun _ => ?_)
                  clear hK K
                  refine wpAnyH_take (i := 13) (oi := { dst := some 182, op := Op.unOp UnOp.not 4 (Operand.tmp 181), type := 4, pos := "law.go:88", after := #[{ on := 12, ground := Ground.data }], guard := none }) (v := .bool false) rfl (by kernel_rfl) (by kernel_rfl) (by kernel_rfl) (fun _ _ _ h => h) (Or.inl ⟨by rfl, ?_⟩) (SL.out _ tV) ?_
                  · rintro w ⟨r0, k5, k7⟩
                    go_simp
                  simp only [Act.put, List.setIfInBounds_toArray, List.set_cons_zero, List.set_cons_succ]
                  refine wpAnyH_take (i := 14) (oi := { dst := some 183, op := Op.move (Operand.tmp 182), type := 4, pos := "law.go:88", after := #[{ on := 13, ground := Ground.data }, { on := 12, ground := Ground.chain }], guard := none }) (v := .bool false) rfl (by kernel_rfl) (by kernel_rfl) (by kernel_rfl) (fun _ _ _ h => h) (Or.inl ⟨by rfl, ?_⟩) (SL.out _ tV) ?_
                  · rintro w ⟨r0, k5, k7⟩
                    go_simp
                  simp only [Act.put, List.setIfInBounds_toArray, List.set_cons_zero, List.set_cons_succ]
                  refine wpAnyH_take (i := 15) (oi := { dst := some 184, op := Op.move (Operand.tmp 3), type := 22, pos := "law.go:88", after := #[{ on := 14, ground := Ground.guard }], guard := some (14, false) }) (v := .pointer (some ⟨t, 0, none⟩)) rfl (by kernel_rfl) (by kernel_rfl) (by kernel_rfl) (fun _ _ _ h => h) (Or.inl ⟨by rfl, ?_⟩) (SL.out _ tV) ?_
                  · rintro w ⟨r0, k5, k7⟩
                    go_simp
                  simp only [Act.put, List.setIfInBounds_toArray, List.set_cons_zero, List.set_cons_succ]
                  refine wpAnyH_take (i := 17) (oi := { dst := some 186, op := Op.move (Operand.tmp 4), type := 39, pos := "law.go:88", after := #[{ on := 14, ground := Ground.guard }], guard := some (14, false) }) (v := .pointer (some ⟨r, 0, none⟩)) rfl (by kernel_rfl) (by kernel_rfl) (by kernel_rfl) (fun _ _ _ h => h) (Or.inl ⟨by rfl, ?_⟩) (SL.out _ tV) ?_
                  · rintro w ⟨r0, k5, k7⟩
                    go_simp
                  simp only [Act.put, List.setIfInBounds_toArray, List.set_cons_zero, List.set_cons_succ]
                  refine wpAnyH_take (i := 18) (oi := { dst := some 187, op := Op.nilCheck (Operand.tmp 186), type := 0, pos := "law.go:88", after := #[{ on := 17, ground := Ground.data }, { on := 14, ground := Ground.guard }], guard := some (14, false) }) (v := .pointer (some ⟨r, 0, none⟩)) rfl (by kernel_rfl) (by kernel_rfl) (by kernel_rfl) (fun _ _ _ h => h) (Or.inl ⟨by rfl, ?_⟩) (SL.out _ tV) ?_
                  · rintro w ⟨r0, k5, k7⟩
                    go_simp
                  simp only [Act.put, List.setIfInBounds_toArray, List.set_cons_zero, List.set_cons_succ]
                  refine wpAnyH_take (i := 19) (oi := { dst := some 188, op := Op.fieldAddr 49 (Operand.tmp 187) 0, type := 0, pos := "law.go:88", after := #[{ on := 18, ground := Ground.data }, { on := 14, ground := Ground.guard }], guard := some (14, false) }) (v := .pointer (some ⟨r, 0, none⟩)) rfl (by kernel_rfl) (by kernel_rfl) (by kernel_rfl) (fun _ _ _ h => h) (Or.inl ⟨by rfl, ?_⟩) (SL.out _ tV) ?_
                  · rintro w ⟨r0, k5, k7⟩
                    go_simp
                  simp only [Act.put, List.setIfInBounds_toArray, List.set_cons_zero, List.set_cons_succ]
                  refine wpAnyH_take (i := 20) (oi := { dst := some 189, op := Op.load 33 (Operand.tmp 188), type := 33, pos := "law.go:88", after := #[{ on := 19, ground := Ground.data }, { on := 14, ground := Ground.guard }], guard := some (14, false) }) (v := .slice La rs'.length Lc) rfl (by kernel_rfl) (by kernel_rfl) (by kernel_rfl) (fun _ _ _ h => h) (Or.inl ⟨by rfl, ?_⟩) (SL.out _ tV) ?_
                  · rintro w ⟨r0, k5, k7⟩
                    go_simp
                  simp only [Act.put, List.setIfInBounds_toArray, List.set_cons_zero, List.set_cons_succ]
                  refine wpAnyH_ready (rs := [16]) (by kernel_rfl) (by simp) ?_
                  refine AllReadyH.cons rfl (fun K hK => ?_) AllReadyH.nil
                  go_simp
                  refine (bot_all (BA.out.quiet tV) HLL.out.2 HZZ.out.2).mono ?_
                  rintro o Vn ⟨fa, fc, fR, rfl, fE, fm, b2⟩
                  have tN := (Turns.of_below b2 (fun _ => False))
                  have tV := tV.trans tN
                  have FE := hide fE
                  have FM := hide fm
                  clear fE fm b2
                  rw [HLL.out.1]
                  clear tN
                  go_simp
                  refine hK.out _ _ (SL.out _ tV) (fun _ => ?_)
                  clear hK K
                  refine wpAnyH_ready (rs := [21]) (by kernel_rfl) (by simp) ?_
                  refine AllReadyH.cons rfl (fun K hK => ?_) AllReadyH.nil
                  go_simp
                  refine (entries_same fa La rs'.length fc Lc fR rs' _ FE.out (HEN.out.quiet (tW.trans tV)) (by rw [FM.out, BA.out.al.e]) (by have h0 := congrArg List.length FM.out; simp only [List.length_map] at h0; have h1 := HLL.out.1; omega) (by have := HLL.out; omega) (fun x hx => by have hm : x.e ∈ ts'.map (·.e) := (by rw [← FM.out]; exact List.mem_map_of_mem hx); obtain ⟨y, hy, he⟩ := List.mem_map.1 hm; have h1 := sizeT_mem hy; have h2 := HZZ.out.2; rw [← he]; omega)).mono ?_
                  rintro o Vn ⟨rfl, b2⟩
                  have tN := (Turns.of_below b2 (fun _ => False))
                  have tV := tV.trans tN
                  clear tN
                  go_simp
                  refine hK.out _ _ (SL.out _ tV) (fun _ => ?_)
                  clear hK K
                  refine wpAnyH_take (i := 22) (oi := { dst := some 191, op := Op.unOp UnOp.not 4 (Operand.tmp 190), type := 4, pos := "law.go:88", after := #[{ on := 21, ground := Ground.data }, { on := 14, ground := Ground.guard }], guard := some (14, false) }) (v := .bool false) rfl (by kernel_rfl) (by kernel_rfl) (by kernel_rfl) (fun _ _ _ h => h) (Or.inl ⟨by rfl, ?_⟩) (SL.out _ tV) ?_
                  · rintro w ⟨r0, k5, k7⟩
                    go_simp
                  simp only [Act.put, List.setIfInBounds_toArray, List.set_cons_zero, List.set_cons_succ]
                  refine wpAnyH_take (i := 23) (oi := { dst := some 192, op := Op.pick (Operand.tmp 183) (Operand.const (Value.bool true)) (Operand.tmp 191), type := 4, pos := "law.go:88", after := #[{ on := 14, ground := Ground.data }, { on := 22, ground := Ground.data }], guard := none }) (v := .bool false) rfl (by kernel_rfl) (by kernel_rfl) (by kernel_rfl) (fun _ _ _ h => h) (Or.inl ⟨by rfl, ?_⟩) (SL.out _ tV) ?_
                  · rintro w ⟨r0, k5, k7⟩
                    go_simp
                  simp only [Act.put, List.setIfInBounds_toArray, List.set_cons_zero, List.set_cons_succ]
                  refine wpAnyH_done (by kernel_rfl) ?_ _
                  go_wp2_with fail
                  go_meet
                  exact ⟨rfl, tV⟩
                case rest =>
                  obtain ⟨rfl, tX⟩ := hcut
                  have BE := hide (BA.out.quiet tX)
                  have HK1 := hide (show ts'.length ≤ k + 1 ∧ sizeT ts' ≤ 32 * (k + 1) + wtA (l.take (k + 1)) from by
                    have h1 := HBD.out
                    have h2 := HTL0.out
                    have h3 := HTS0.out
                    have h4 : wtA (l.take (k + 1)) = wtA (l.take k) + (e.key.length + e.val.length + q.length) := by rw [HTK.out, wtA_snoc]; rfl
                    omega)
                  clear BA SL HBD HLL HZZ HEN HBR G29 G30 HLL2 HBXA tW tX
                  have hk120 : k ≤ 120 := by have := HKL.out; have := HL120.out; have := HLN.out; omega
                  go_wp2_with fail
                  go_roundw
                  case rel => exact ⟨k + 1, A', Q', bg, ts', rs', by go_num, HKL.out, BE.out, HK1.out.1, HK1.out.2⟩
                  case measure =>
                    have := HKL.out
                    simp [intOf]
                    omega
      · have i1 : ¬ (k : Int) < ln := by omega
        go_wp2_with fail
        go_ret
        exact ⟨rfl, BOT.out.bel⟩
end Go.Proofs.Ytkeglaplckfllaa
