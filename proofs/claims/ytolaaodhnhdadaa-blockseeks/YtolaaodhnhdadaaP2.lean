/-
  The document's Put: one entry among others, in order.
-/
import Derived.Test.YtolaaodhnhdadaaP1
import Derived.Deep.RegionHeld
import Derived.Deep.Light
namespace Go.Proofs.Ytolaaodhnhdadaa
open Go.RowKit
set_option maxRecDepth 100000
set_option maxHeartbeats 8000000
/-- What Put answers. -/
def PutOk (w : World) (x : Tow) (R : List Tow) (e : Ending) (w' : World) : Prop :=
  ∃ g c, e = .returned (.slice (some ⟨g, 0, none⟩) (R.length + 1) c) ∧ w.heap.size ≤ g ∧ R.length + 1 ≤ c ∧ RowC w' g 28 (c * 4) (entCells (putL x R)) ∧ Below w.heap.size w w'
/-- The box of the entry, wherever the walk stands. -/
def Boxd (w : World) (ka va : Option Addr) (kc vc : Nat) (e : Ent) (w' : World) : Prop :=
  w'.cell? ⟨w.heap.size, 0, none⟩ = some (.slice ka e.key.length kc) ∧ w'.cell? ⟨w.heap.size, 1, none⟩ = some (.int .u64 (e.seq : Nat)) ∧ w'.cell? ⟨w.heap.size, 2, none⟩ = some (.int .i64 e.kind) ∧ w'.cell? ⟨w.heap.size, 3, none⟩ = some (.slice va e.val.length vc)
theorem boxd_of {w w' : World} {ka va : Option Addr} {kc vc : Nat} {e : Ent} (h : w'.heap[w.heap.size]? = some (.cells #[.slice ka e.key.length kc, .int .u64 (e.seq : Nat), .int .i64 e.kind, .slice va e.val.length vc] 28 (0, 0))) : Boxd w ka va kc vc e w' :=
  ⟨cell_of_row w' _ 0 _ 28 (0, 0) h, cell_of_row w' _ 1 _ 28 (0, 0) h, cell_of_row w' _ 2 _ 28 (0, 0) h, cell_of_row w' _ 3 _ 28 (0, 0) h⟩
theorem Boxd.keep {w wz V : World} {ka va : Option Addr} {kc vc : Nat} {e : Ent} (h : Boxd w ka va kc vc e wz) (t : Turns (fun j => wz.heap.size ≤ j) wz.drew V) (hl : w.heap.size < wz.heap.size) : Boxd w ka va kc vc e V :=
  ⟨t.cell (p := ⟨w.heap.size, 0, none⟩) h.1 (by show ¬ wz.heap.size ≤ w.heap.size; omega), t.cell (p := ⟨w.heap.size, 1, none⟩) h.2.1 (by show ¬ wz.heap.size ≤ w.heap.size; omega), t.cell (p := ⟨w.heap.size, 2, none⟩) h.2.2.1 (by show ¬ wz.heap.size ≤ w.heap.size; omega), t.cell (p := ⟨w.heap.size, 3, none⟩) h.2.2.2 (by show ¬ wz.heap.size ≤ w.heap.size; omega)⟩
/-- The end of Put, from a place on. -/
theorem rput_fin {w wr : World} {x : Tow} {R : List Tow} {k : Nat} (hp : pIdx x.e.en R = k) (hb : Below w.heap.size w wr) {g c : Nat} {Wc : World} (hrow : RowC Wc g 28 (c * 4) (entCells (R.take k ++ x :: R.drop k))) (hg : wr.heap.size ≤ g) (hc : R.length + 1 ≤ c) (t : Turns (fun j => wr.heap.size ≤ j) wr.drew Wc) :
    PutOk w x R (.returned (.slice (some ⟨g, 0, none⟩) (R.length + 1) c)) Wc := by
  have hs := hb.size
  have tt : Turns (fun j => wr.heap.size ≤ j) wr Wc := (Turns.refl _ wr).drew.trans t
  refine ⟨g, c, rfl, by omega, hc, ?_, hb.trans (tt.below (by omega) (fun j hj => by omega))⟩
  unfold putL
  rw [hp]
  exact hrow
theorem rput_any (a : Option Addr) (n c : Nat) (R : List Tow) (x : Tow) (w : World) (h : Ents w a R) (hn : n = R.length) (hnc : n ≤ c) (hz : (a = none ∧ c = 0) ∨ ∃ b off, a = some ⟨b, off, none⟩ ∧ b < w.heap.size) (hmx : n ≤ 1000) (hk : Bytes w x.kv x.e.key) (hkx : x.e.key.length ≤ 1000000) (hkb : ∀ y, y ∈ R → y.e.key.length ≤ 1000000) :
    Calls Try.prog 13 #[.slice a n c, .agg x.ent] w (PutOk w x R) := by
  obtain ⟨ka, kc, va, vc, e⟩ := x
  have HL := hide hn
  have HA := hide h
  have HK := hide hk
  have HKB := hide hkb
  have HZ := hide hz
  have b0 := (Below.refl w.heap.size w).alloc (Nat.le_refl _) (.cells #[.slice ka e.key.length kc, .int .u64 (e.seq : Nat), .int .i64 e.kind, .slice va e.val.length vc] 28)
  have n0 := heap_alloc_new w (.cells #[.slice ka e.key.length kc, .int .u64 (e.seq : Nat), .int .i64 e.kind, .slice va e.val.length vc] 28)
  have N0 := hide n0
  have B0 := hide b0
  clear h hn hk hkb hz n0 b0
  show Calls Try.prog 13 #[.slice a n c, .agg #[.slice ka e.key.length kc, .int .u64 (e.seq : Nat), .int .i64 e.kind, .slice va e.val.length vc]] w _
  go_enter Try.func13, Try.ntmps13
  go_wp2_with fail
  go_loopw [5] (fun iv wr => ∃ k : Nat, iv = .int .i64 (k : Nat) ∧ k ≤ n ∧ (∀ j y, j < k → R[j]? = some y → cmpE y.e.en e.en < 0) ∧ wr.heap[w.heap.size]? = some (.cells #[.slice ka e.key.length kc, .int .u64 (e.seq : Nat), .int .i64 e.kind, .slice va e.val.length vc] 28 (0, 0)) ∧ Below w.heap.size w wr) (fun iv _ => n - (intOf iv).toNat)
  case atStart => exact ⟨0, rfl, Nat.zero_le _, fun j y h => by omega, N0.out, B0.out⟩
  case round =>
    obtain ⟨k, rfl, hkn, hbef, hbox, hbw⟩ := hrel
    have HBE := hide hbef
    have HBX := hide hbox
    have BW := hide hbw
    have hsz := hbw.size
    have hszb := lt_of_heap hbox
    clear hbef N0 B0
    have hboxd := boxd_of (w := w) hbox
    by_cases hkl : k < n
    · have i1 : (k : Int) < (n : Int) := by omega
      have i0 : (0 : Int) ≤ (k : Int) := by omega
      obtain ⟨y, hy⟩ : ∃ y, R[k]? = some y := ⟨_, List.getElem?_eq_getElem (by have := HL.out; omega)⟩
      have tt := Turns.of_below hbw (fun _ => False)
      obtain ⟨⟨b, off, rfl, hc⟩, k1, k2⟩ := (HA.out.quiet tt) k y hy
      have hyk := HKB.out y (List.mem_of_getElem? hy)
      have HST : Hid (cmpE y.e.en e.en < 0 → ∀ j z, j < k + 1 → R[j]? = some z → cmpE z.e.en e.en < 0) := hide fun hlt j z hj hz => by
        by_cases hjk : j < k
        · exact HBE.out j z hjk hz
        · obtain rfl : j = k := by omega
          rw [hy] at hz
          cases hz
          exact hlt
      have HPIF : Hid (¬ cmpE y.e.en e.en < 0 → pIdx e.en R = k) := hide fun hn => pIdx_eq e.en R k (by have := HL.out; omega) HBE.out (fun z hz => by rw [hy] at hz; cases hz; exact hn)
      obtain ⟨ya, yc, yva, yvc, ye⟩ := y
      have c0 : wr.cell? ⟨b, off + k * 4, none⟩ = some (.slice ya ye.key.length yc) := hc 0 _ rfl
      have c1 : wr.cell? ⟨b, off + k * 4 + 1, none⟩ = some (.int .u64 (ye.seq : Nat)) := hc 1 _ rfl
      have c2 : wr.cell? ⟨b, off + k * 4 + 2, none⟩ = some (.int .i64 ye.kind) := hc 2 _ rfl
      have c3 : wr.cell? ⟨b, off + k * 4 + 3, none⟩ = some (.slice yva ye.val.length yvc) := hc 3 _ rfl
      have t0 : Turns (fun _ => False) wr wr.drew := (Turns.refl _ _).drew
      have HQ := hide (rcompare_any ya ka yva va ye.key.length yc ye.val.length yvc e.key.length kc e.val.length vc ye.kind e.kind ye.seq e.seq ye.key e.key wr.drew (Bytes.quiet k1 t0) (Bytes.quiet (HK.out.quiet tt) t0) (show ye.key.length ≤ 1000000000 from Nat.le_trans hyk (by decide)) (show e.key.length ≤ 1000000000 from Nat.le_trans hkx (by decide)))
      obtain ⟨d0, d1, d2, d3⟩ := hboxd
      change Hid (cmpE (ye.key, ye.seq) (e.key, e.seq) < 0 → _) at HST
      change Hid (¬ cmpE (ye.key, ye.seq) (e.key, e.seq) < 0 → _) at HPIF
      generalize cmpE (ye.key, ye.seq) (e.key, e.seq) = cv at *
      generalize ye.key.length = ky at *
      generalize ye.val.length = yv at *
      generalize ye.seq = ys at *
      generalize ye.kind = yk at *
      clear hc k1 k2 tt hbw t0 hbox hy hyk
      go_wp2_with fail
      go_region_held (fun w' => (w'.cell? ⟨b, off + k * 4, none⟩ = some (.slice ya ky yc) ∧ w'.cell? ⟨b, off + k * 4 + 1, none⟩ = some (.int .u64 (ys : Nat)) ∧ w'.cell? ⟨b, off + k * 4 + 2, none⟩ = some (.int .i64 yk) ∧ w'.cell? ⟨b, off + k * 4 + 3, none⟩ = some (.slice yva yv yvc)) ∧ w'.cell? ⟨w.heap.size, 0, none⟩ = some (.slice ka e.key.length kc) ∧ w'.cell? ⟨w.heap.size, 1, none⟩ = some (.int .u64 (e.seq : Nat)) ∧ w'.cell? ⟨w.heap.size, 2, none⟩ = some (.int .i64 e.kind) ∧ w'.cell? ⟨w.heap.size, 3, none⟩ = some (.slice va e.val.length vc)) (first | (with_reducible exact ⟨⟨f0, f1, f2, f3⟩, g0, g1, g2, g3⟩) | (simp only [World.cell?_drew]; with_reducible exact ⟨⟨c0, c1, c2, c3⟩, d0, d1, d2, d3⟩)) (first
        | (go_at_call 30; refine HQ.out.mono ?_; rintro x w2 ⟨rfl, b2⟩; have t2 := (Turns.refl (fun _ => False) wr).drew.trans (Turns.of_below b2 (fun _ => False)); have f0 := t2.cell c0 (fun x => x); have f1 := t2.cell c1 (fun x => x); have f2 := t2.cell c2 (fun x => x); have f3 := t2.cell c3 (fun x => x); have g0 := t2.cell d0 (fun x => x); have g1 := t2.cell d1 (fun x => x); have g2 := t2.cell d2 (fun x => x); have g3 := t2.cell d3 (fun x => x); have T2 := hide t2; clear t2 b2))
      clear f0 f1 f2 f3 g0 g1 g2 g3
      have BXZ := hide (T2.out.heap HBX.out (fun x => x))
      have BZ := hide (BW.out.trans (T2.out.below hsz (fun _ h => h.elim)))
      clear c0 c1 c2 c3 d0 d1 d2 d3
      by_cases hlt : cv < 0
      · have HST2 := hide (HST.out hlt)
        go_wp2_with fail
        go_roundw
        case rel => exact ⟨k + 1, by go_num, by omega, HST2.out, BXZ.out, BZ.out⟩
        case measure => simp [intOf]; omega
      · have HPI := hide (HPIF.out (by omega))
        have hlt' : ¬ cv < 0 := hlt
        go_wp2_with fail
        generalize w2 = wz at *
        generalize (some (⟨b, off, none⟩ : Addr)) = a at *
        clear HQ HST HPIF hlt hlt'
        have hszz : w.heap.size < wz.heap.size := lt_of_heap BXZ.out
        have hbz := boxd_of (w := w) BXZ.out
        have HEZ : Ents wz a R := HA.out.quiet (Turns.of_below BZ.out (fun _ => False))
        obtain ⟨sr1, sr3⟩ := parts HEZ HL.out hnc (by rcases HZ.out with h | ⟨b, off, h, hl⟩; exact .inl h; exact .inr ⟨b, off, h, by omega⟩) k hkn
        obtain ⟨⟨gX1, cX1, WX1, qX1, hX1, tX1, gX2, cX2, WX2, gX3, cX3, WX3, qX2, qX3, rowX, hgX, hcX, tX2, tX3⟩, ⟨gY1, cY1, WY1, qY1, tY1, gY2, cY2, WY2, gY3, cY3, WY3, qY2, qY3, rowY, hgY, hcY, tY2, tY3⟩, ⟨gZ1, cZ1, WZ1, qZ1, tZ1, gZ2, cZ2, WZ2, gZ3, cZ3, WZ3, qZ2, qZ3, rowZ, hgZ, hcZ, tZ2, tZ3⟩⟩ := ins_orders (B := wz.heap.size) (W := wz.drew) (l := R) (s := (⟨ka, kc, va, vc, e⟩ : Tow)) (i := k) (x1 := .slice a k c) (x3 := dropV a n c k) (by have := HL.out; omega) (by have := HL.out; omega) (Nat.le_refl _) (fun V t => sr1 V ((Turns.refl _ wz).drew.trans t)) (fun V t => sr3 V ((Turns.refl _ wz).drew.trans t))
        have Fx := hide (rput_fin (x := ⟨ka, kc, va, vc, e⟩) HPI.out BZ.out rowX hgX hcX tX3)
        have Fy := hide (rput_fin (x := ⟨ka, kc, va, vc, e⟩) HPI.out BZ.out rowY hgY hcY tY3)
        have Fz := hide (rput_fin (x := ⟨ka, kc, va, vc, e⟩) HPI.out BZ.out rowZ hgZ hcZ tZ3)
        have tr : Turns (fun j => wz.heap.size ≤ j) wz.drew wz.drew := Turns.refl _ _
        have SE := hide (hbz.keep (tr.alloc (.cells #[] 28)) hszz)
        have SES := hide (hbz.keep ((tr.alloc (.cells #[] 28)).alloc (.cells #[.slice ka e.key.length kc, .int .u64 (e.seq : Nat), .int .i64 e.kind, .slice va e.val.length vc] 28)) hszz)
        have SS := hide (hbz.keep (tr.alloc (.cells #[.slice ka e.key.length kc, .int .u64 (e.seq : Nat), .int .i64 e.kind, .slice va e.val.length vc] 28)) hszz)
        have SSE := hide (hbz.keep ((tr.alloc (.cells #[.slice ka e.key.length kc, .int .u64 (e.seq : Nat), .int .i64 e.kind, .slice va e.val.length vc] 28)).alloc (.cells #[] 28)) hszz)
        have Sx1 := hide (hbz.keep tX1 hszz)
        have Sx1s := hide (hbz.keep (tX1.alloc (.cells #[.slice ka e.key.length kc, .int .u64 (e.seq : Nat), .int .i64 e.kind, .slice va e.val.length vc] 28)) hszz)
        have Sx2 := hide (hbz.keep tX2 hszz)
        have Sx3 := hide (hbz.keep tX3 hszz)
        have Sy1 := hide (hbz.keep tY1 hszz)
        have Sy2 := hide (hbz.keep tY2 hszz)
        have Sy3 := hide (hbz.keep tY3 hszz)
        have Sz1 := hide (hbz.keep tZ1 hszz)
        have Sz2 := hide (hbz.keep tZ2 hszz)
        have Sz3 := hide (hbz.keep tZ3 hszz)
        have s1 : Boxd w ka va kc vc e wz.drew := hbz
        have qx1 := qX1 30
        have qx2 := qX2 30
        have qx3 := qX3 30
        have qy1 := qY1 30
        have qy2 := qY2 30
        have qy3 := qY3 30
        have qz1 := qZ1 30
        have qz2 := qZ2 30
        have qz3 := qZ3 30
        rw [← HL.out] at qx3 qy3 qz3 Fx Fy Fz
        clear qX1 qX2 qX3 qY1 qY2 qY3 qZ1 qZ2 qZ3 hX1 tX1 tX2 tX3 tY1 tY2 tY3 tZ1 tZ2 tZ3 rowX rowY rowZ hgX hgY hgZ hcX hcY hcZ sr1 sr3 tr hbz HEZ
        have y0 : (0 : Int) ≤ (k : Int) := by omega
        have y1 : (k : Int) ≤ (n : Int) := by omega
        have y2 : (k : Int) ≤ (c : Int) := by omega
        refine wp_region_held_drew (S := fun w' => Boxd w ka va kc vc e w') (by kernel_rfl) s1 (fun _ => ?_)
        change wpAnyH _ _ _ _ _ 13 (Array.replicate 13 false) _ _
        refine wpAnyH_take (i := 1) (oi := { dst := some 22, op := Op.move (Operand.tmp 0), type := 30, pos := "ref.go:137", after := #[], guard := none }) (v := .slice a n c) rfl (by kernel_rfl) (by kernel_rfl) (by kernel_rfl) (fun _ _ _ h => h) (Or.inl ⟨by rfl, ?_⟩) s1 ?_
        · rintro w ⟨d0, d1, d2, d3⟩
          go_simp
        simp only [Act.put, List.setIfInBounds_toArray, List.set_cons_zero, List.set_cons_succ]
        refine wpAnyH_take (i := 2) (oi := { dst := some 23, op := Op.move (Operand.tmp 5), type := 3, pos := "ref.go:137", after := #[], guard := none }) (v := .int .i64 (k : Nat)) rfl (by kernel_rfl) (by kernel_rfl) (by kernel_rfl) (fun _ _ _ h => h) (Or.inl ⟨by rfl, ?_⟩) s1 ?_
        · rintro w ⟨d0, d1, d2, d3⟩
          go_simp
        simp only [Act.put, List.setIfInBounds_toArray, List.set_cons_zero, List.set_cons_succ]
        refine wpAnyH_take (i := 3) (oi := { dst := some 24, op := Op.slice 30 (Operand.tmp 22) none (some (Operand.tmp 23)) none, type := 30, pos := "ref.go:137", after := #[{ on := 1, ground := Ground.data }, { on := 2, ground := Ground.data }], guard := none }) (v := .slice a k c) rfl (by kernel_rfl) (by kernel_rfl) (by kernel_rfl) (fun _ _ _ h => h) (Or.inl ⟨by rfl, ?_⟩) s1 ?_
        · rintro w ⟨d0, d1, d2, d3⟩
          go_simp
        simp only [Act.put, List.setIfInBounds_toArray, List.set_cons_zero, List.set_cons_succ]
        refine wpAnyH_take (i := 5) (oi := { dst := some 26, op := Op.load 28 (Operand.tmp 3), type := 28, pos := "ref.go:137", after := #[], guard := none }) (v := .agg #[.slice ka e.key.length kc, .int .u64 (e.seq : Nat), .int .i64 e.kind, .slice va e.val.length vc]) rfl (by kernel_rfl) (by kernel_rfl) (by kernel_rfl) (fun _ _ _ h => h) (Or.inl ⟨by rfl, ?_⟩) s1 ?_
        · rintro w ⟨d0, d1, d2, d3⟩
          go_simp
        simp only [Act.put, List.setIfInBounds_toArray, List.set_cons_zero, List.set_cons_succ]
        refine wpAnyH_take (i := 8) (oi := { dst := some 29, op := Op.move (Operand.tmp 0), type := 30, pos := "ref.go:137", after := #[], guard := none }) (v := .slice a n c) rfl (by kernel_rfl) (by kernel_rfl) (by kernel_rfl) (fun _ _ _ h => h) (Or.inl ⟨by rfl, ?_⟩) s1 ?_
        · rintro w ⟨d0, d1, d2, d3⟩
          go_simp
        simp only [Act.put, List.setIfInBounds_toArray, List.set_cons_zero, List.set_cons_succ]
        refine wpAnyH_take (i := 9) (oi := { dst := some 30, op := Op.move (Operand.tmp 5), type := 3, pos := "ref.go:137", after := #[], guard := none }) (v := .int .i64 (k : Nat)) rfl (by kernel_rfl) (by kernel_rfl) (by kernel_rfl) (fun _ _ _ h => h) (Or.inl ⟨by rfl, ?_⟩) s1 ?_
        · rintro w ⟨d0, d1, d2, d3⟩
          go_simp
        simp only [Act.put, List.setIfInBounds_toArray, List.set_cons_zero, List.set_cons_succ]
        refine wpAnyH_take (i := 10) (oi := { dst := some 31, op := Op.slice 30 (Operand.tmp 29) (some (Operand.tmp 30)) none none, type := 30, pos := "ref.go:137", after := #[{ on := 8, ground := Ground.data }, { on := 9, ground := Ground.data }], guard := none }) (v := dropV a n c k) rfl (by kernel_rfl) (by kernel_rfl) (by kernel_rfl) (fun _ _ _ h => h) (Or.inl ⟨by rfl, ?_⟩) s1 ?_
        · rintro w ⟨d0, d1, d2, d3⟩
          unfold dropV
          go_simp
        simp only [Act.put, List.setIfInBounds_toArray, List.set_cons_zero, List.set_cons_succ]
        refine wpAnyH_ready (rs := [0, 6]) (by kernel_rfl) (by simp) ?_
        refine AllReadyH.cons rfl (fun K hK => ?_) (AllReadyH.cons rfl (fun K hK => ?_) AllReadyH.nil)
        · skip
          go_simp
          refine hK.out _ _ SE.out (fun _ => ?_)
          clear hK K
          refine wpAnyH_ready (rs := [4, 6]) (by kernel_rfl) (by simp) ?_
          refine AllReadyH.cons rfl (fun K hK => ?_) (AllReadyH.cons rfl (fun K hK => ?_) AllReadyH.nil)
          · skip
            refine step_append_run rfl (.tmp 21) (.tmp 24) 30 rfl _ _ rfl rfl _ _ qx1 25 rfl ?_
            simp only [Act.put, List.setIfInBounds_toArray, List.set_cons_zero, List.set_cons_succ]
            refine hK.out _ _ Sx1.out (fun _ => ?_)
            clear hK K
            refine wpAnyH_ready (rs := [6]) (by kernel_rfl) (by simp) ?_
            refine AllReadyH.cons rfl (fun K hK => ?_) AllReadyH.nil
            go_simp
            refine hK.out _ _ Sx1s.out (fun _ => ?_)
            clear hK K
            refine wpAnyH_ready (rs := [7]) (by kernel_rfl) (by simp) ?_
            refine AllReadyH.cons rfl (fun K hK => ?_) AllReadyH.nil
            refine step_append_run rfl (.tmp 25) (.tmp 27) 30 rfl _ _ rfl rfl _ _ qx2 28 rfl ?_
            simp only [Act.put, List.setIfInBounds_toArray, List.set_cons_zero, List.set_cons_succ]
            refine hK.out _ _ Sx2.out (fun _ => ?_)
            clear hK K
            refine wpAnyH_ready (rs := [11]) (by kernel_rfl) (by simp) ?_
            refine AllReadyH.cons rfl (fun K hK => ?_) AllReadyH.nil
            refine step_append_run rfl (.tmp 28) (.tmp 31) 30 rfl _ _ rfl rfl _ _ qx3 32 rfl ?_
            simp only [Act.put, List.setIfInBounds_toArray, List.set_cons_zero, List.set_cons_succ]
            refine hK.out _ _ Sx3.out (fun _ => ?_)
            clear hK K
            refine wpAnyH_ready (rs := [12]) (by kernel_rfl) (by simp) ?_
            refine AllReadyH.cons rfl (fun K hK => ?_) AllReadyH.nil
            go_simp
            refine hK.out _ _ Sx3.out (fun _ => ?_)
            clear hK K
            refine wpAnyH_done (by kernel_rfl) ?_ _
            go_wp2_with fail
            go_ret
            exact Fx.out
          · skip
            go_simp
            refine hK.out _ _ SES.out (fun _ => ?_)
            clear hK K
            refine wpAnyH_ready (rs := [4]) (by kernel_rfl) (by simp) ?_
            refine AllReadyH.cons rfl (fun K hK => ?_) AllReadyH.nil
            refine step_append_run rfl (.tmp 21) (.tmp 24) 30 rfl _ _ rfl rfl _ _ qy1 25 rfl ?_
            simp only [Act.put, List.setIfInBounds_toArray, List.set_cons_zero, List.set_cons_succ]
            refine hK.out _ _ Sy1.out (fun _ => ?_)
            clear hK K
            refine wpAnyH_ready (rs := [7]) (by kernel_rfl) (by simp) ?_
            refine AllReadyH.cons rfl (fun K hK => ?_) AllReadyH.nil
            refine step_append_run rfl (.tmp 25) (.tmp 27) 30 rfl _ _ rfl rfl _ _ qy2 28 rfl ?_
            simp only [Act.put, List.setIfInBounds_toArray, List.set_cons_zero, List.set_cons_succ]
            refine hK.out _ _ Sy2.out (fun _ => ?_)
            clear hK K
            refine wpAnyH_ready (rs := [11]) (by kernel_rfl) (by simp) ?_
            refine AllReadyH.cons rfl (fun K hK => ?_) AllReadyH.nil
            refine step_append_run rfl (.tmp 28) (.tmp 31) 30 rfl _ _ rfl rfl _ _ qy3 32 rfl ?_
            simp only [Act.put, List.setIfInBounds_toArray, List.set_cons_zero, List.set_cons_succ]
            refine hK.out _ _ Sy3.out (fun _ => ?_)
            clear hK K
            refine wpAnyH_ready (rs := [12]) (by kernel_rfl) (by simp) ?_
            refine AllReadyH.cons rfl (fun K hK => ?_) AllReadyH.nil
            go_simp
            refine hK.out _ _ Sy3.out (fun _ => ?_)
            clear hK K
            refine wpAnyH_done (by kernel_rfl) ?_ _
            go_wp2_with fail
            go_ret
            exact Fy.out
        · skip
          go_simp
          refine hK.out _ _ SS.out (fun _ => ?_)
          clear hK K
          refine wpAnyH_ready (rs := [0]) (by kernel_rfl) (by simp) ?_
          refine AllReadyH.cons rfl (fun K hK => ?_) AllReadyH.nil
          go_simp
          refine hK.out _ _ SSE.out (fun _ => ?_)
          clear hK K
          refine wpAnyH_ready (rs := [4]) (by kernel_rfl) (by simp) ?_
          refine AllReadyH.cons rfl (fun K hK => ?_) AllReadyH.nil
          refine step_append_run rfl (.tmp 21) (.tmp 24) 30 rfl _ _ rfl rfl _ _ qz1 25 rfl ?_
          simp only [Act.put, List.setIfInBounds_toArray, List.set_cons_zero, List.set_cons_succ]
          refine hK.out _ _ Sz1.out (fun _ => ?_)
          clear hK K
          refine wpAnyH_ready (rs := [7]) (by kernel_rfl) (by simp) ?_
          refine AllReadyH.cons rfl (fun K hK => ?_) AllReadyH.nil
          refine step_append_run rfl (.tmp 25) (.tmp 27) 30 rfl _ _ rfl rfl _ _ qz2 28 rfl ?_
          simp only [Act.put, List.setIfInBounds_toArray, List.set_cons_zero, List.set_cons_succ]
          refine hK.out _ _ Sz2.out (fun _ => ?_)
          clear hK K
          refine wpAnyH_ready (rs := [11]) (by kernel_rfl) (by simp) ?_
          refine AllReadyH.cons rfl (fun K hK => ?_) AllReadyH.nil
          refine step_append_run rfl (.tmp 28) (.tmp 31) 30 rfl _ _ rfl rfl _ _ qz3 32 rfl ?_
          simp only [Act.put, List.setIfInBounds_toArray, List.set_cons_zero, List.set_cons_succ]
          refine hK.out _ _ Sz3.out (fun _ => ?_)
          clear hK K
          refine wpAnyH_ready (rs := [12]) (by kernel_rfl) (by simp) ?_
          refine AllReadyH.cons rfl (fun K hK => ?_) AllReadyH.nil
          go_simp
          refine hK.out _ _ Sz3.out (fun _ => ?_)
          clear hK K
          refine wpAnyH_done (by kernel_rfl) ?_ _
          go_wp2_with fail
          go_ret
          exact Fz.out

    · have hd : decide ((k : Int) < (n : Int)) = false := decide_eq_false (by omega)
      have HPI := hide (pIdx_eq e.en R k (by have := HL.out; omega) HBE.out (fun y hy => by
        rw [List.getElem?_eq_none (by have := HL.out; omega)] at hy
        cases hy))
      clear hbox hbw hboxd
      go_wp2_with fail
      go_quiet (fail)
      go_wp2_with fail
      have BXZ := hide (show (wr.drewN nq).heap[w.heap.size]? = _ from HBX.out)
      have BZ : Hid (Below w.heap.size w (wr.drewN nq)) := hide ⟨BW.out.os, BW.out.tape, BW.out.output, BW.out.size, BW.out.block⟩
      generalize wr.drewN nq = wz at *
      have hszz : w.heap.size < wz.heap.size := lt_of_heap BXZ.out
      have hbz := boxd_of (w := w) BXZ.out
      have HEZ : Ents wz a R := HA.out.quiet (Turns.of_below BZ.out (fun _ => False))
      obtain ⟨sr1, sr3⟩ := parts HEZ HL.out hnc (by rcases HZ.out with h | ⟨b, off, h, hl⟩; exact .inl h; exact .inr ⟨b, off, h, by omega⟩) k hkn
      obtain ⟨⟨gX1, cX1, WX1, qX1, hX1, tX1, gX2, cX2, WX2, gX3, cX3, WX3, qX2, qX3, rowX, hgX, hcX, tX2, tX3⟩, ⟨gY1, cY1, WY1, qY1, tY1, gY2, cY2, WY2, gY3, cY3, WY3, qY2, qY3, rowY, hgY, hcY, tY2, tY3⟩, ⟨gZ1, cZ1, WZ1, qZ1, tZ1, gZ2, cZ2, WZ2, gZ3, cZ3, WZ3, qZ2, qZ3, rowZ, hgZ, hcZ, tZ2, tZ3⟩⟩ := ins_orders (B := wz.heap.size) (W := wz.drew) (l := R) (s := (⟨ka, kc, va, vc, e⟩ : Tow)) (i := k) (x1 := .slice a k c) (x3 := dropV a n c k) (by have := HL.out; omega) (by have := HL.out; omega) (Nat.le_refl _) (fun V t => sr1 V ((Turns.refl _ wz).drew.trans t)) (fun V t => sr3 V ((Turns.refl _ wz).drew.trans t))
      have Fx := hide (rput_fin (x := ⟨ka, kc, va, vc, e⟩) HPI.out BZ.out rowX hgX hcX tX3)
      have Fy := hide (rput_fin (x := ⟨ka, kc, va, vc, e⟩) HPI.out BZ.out rowY hgY hcY tY3)
      have Fz := hide (rput_fin (x := ⟨ka, kc, va, vc, e⟩) HPI.out BZ.out rowZ hgZ hcZ tZ3)
      have tr : Turns (fun j => wz.heap.size ≤ j) wz.drew wz.drew := Turns.refl _ _
      have SE := hide (hbz.keep (tr.alloc (.cells #[] 28)) hszz)
      have SES := hide (hbz.keep ((tr.alloc (.cells #[] 28)).alloc (.cells #[.slice ka e.key.length kc, .int .u64 (e.seq : Nat), .int .i64 e.kind, .slice va e.val.length vc] 28)) hszz)
      have SS := hide (hbz.keep (tr.alloc (.cells #[.slice ka e.key.length kc, .int .u64 (e.seq : Nat), .int .i64 e.kind, .slice va e.val.length vc] 28)) hszz)
      have SSE := hide (hbz.keep ((tr.alloc (.cells #[.slice ka e.key.length kc, .int .u64 (e.seq : Nat), .int .i64 e.kind, .slice va e.val.length vc] 28)).alloc (.cells #[] 28)) hszz)
      have Sx1 := hide (hbz.keep tX1 hszz)
      have Sx1s := hide (hbz.keep (tX1.alloc (.cells #[.slice ka e.key.length kc, .int .u64 (e.seq : Nat), .int .i64 e.kind, .slice va e.val.length vc] 28)) hszz)
      have Sx2 := hide (hbz.keep tX2 hszz)
      have Sx3 := hide (hbz.keep tX3 hszz)
      have Sy1 := hide (hbz.keep tY1 hszz)
      have Sy2 := hide (hbz.keep tY2 hszz)
      have Sy3 := hide (hbz.keep tY3 hszz)
      have Sz1 := hide (hbz.keep tZ1 hszz)
      have Sz2 := hide (hbz.keep tZ2 hszz)
      have Sz3 := hide (hbz.keep tZ3 hszz)
      have s1 : Boxd w ka va kc vc e wz.drew := hbz
      have qx1 := qX1 30
      have qx2 := qX2 30
      have qx3 := qX3 30
      have qy1 := qY1 30
      have qy2 := qY2 30
      have qy3 := qY3 30
      have qz1 := qZ1 30
      have qz2 := qZ2 30
      have qz3 := qZ3 30
      rw [← HL.out] at qx3 qy3 qz3 Fx Fy Fz
      clear qX1 qX2 qX3 qY1 qY2 qY3 qZ1 qZ2 qZ3 hX1 tX1 tX2 tX3 tY1 tY2 tY3 tZ1 tZ2 tZ3 rowX rowY rowZ hgX hgY hgZ hcX hcY hcZ sr1 sr3 tr hbz HEZ
      have y0 : (0 : Int) ≤ (k : Int) := by omega
      have y1 : (k : Int) ≤ (n : Int) := by omega
      have y2 : (k : Int) ≤ (c : Int) := by omega
      refine wp_region_held_drew (S := fun w' => Boxd w ka va kc vc e w') (by kernel_rfl) s1 (fun _ => ?_)
      change wpAnyH _ _ _ _ _ 13 (Array.replicate 13 false) _ _
      refine wpAnyH_take (i := 1) (oi := { dst := some 22, op := Op.move (Operand.tmp 0), type := 30, pos := "ref.go:137", after := #[], guard := none }) (v := .slice a n c) rfl (by kernel_rfl) (by kernel_rfl) (by kernel_rfl) (fun _ _ _ h => h) (Or.inl ⟨by rfl, ?_⟩) s1 ?_
      · rintro w ⟨d0, d1, d2, d3⟩
        go_simp
      simp only [Act.put, List.setIfInBounds_toArray, List.set_cons_zero, List.set_cons_succ]
      refine wpAnyH_take (i := 2) (oi := { dst := some 23, op := Op.move (Operand.tmp 5), type := 3, pos := "ref.go:137", after := #[], guard := none }) (v := .int .i64 (k : Nat)) rfl (by kernel_rfl) (by kernel_rfl) (by kernel_rfl) (fun _ _ _ h => h) (Or.inl ⟨by rfl, ?_⟩) s1 ?_
      · rintro w ⟨d0, d1, d2, d3⟩
        go_simp
      simp only [Act.put, List.setIfInBounds_toArray, List.set_cons_zero, List.set_cons_succ]
      refine wpAnyH_take (i := 3) (oi := { dst := some 24, op := Op.slice 30 (Operand.tmp 22) none (some (Operand.tmp 23)) none, type := 30, pos := "ref.go:137", after := #[{ on := 1, ground := Ground.data }, { on := 2, ground := Ground.data }], guard := none }) (v := .slice a k c) rfl (by kernel_rfl) (by kernel_rfl) (by kernel_rfl) (fun _ _ _ h => h) (Or.inl ⟨by rfl, ?_⟩) s1 ?_
      · rintro w ⟨d0, d1, d2, d3⟩
        go_simp
      simp only [Act.put, List.setIfInBounds_toArray, List.set_cons_zero, List.set_cons_succ]
      refine wpAnyH_take (i := 5) (oi := { dst := some 26, op := Op.load 28 (Operand.tmp 3), type := 28, pos := "ref.go:137", after := #[], guard := none }) (v := .agg #[.slice ka e.key.length kc, .int .u64 (e.seq : Nat), .int .i64 e.kind, .slice va e.val.length vc]) rfl (by kernel_rfl) (by kernel_rfl) (by kernel_rfl) (fun _ _ _ h => h) (Or.inl ⟨by rfl, ?_⟩) s1 ?_
      · rintro w ⟨d0, d1, d2, d3⟩
        go_simp
      simp only [Act.put, List.setIfInBounds_toArray, List.set_cons_zero, List.set_cons_succ]
      refine wpAnyH_take (i := 8) (oi := { dst := some 29, op := Op.move (Operand.tmp 0), type := 30, pos := "ref.go:137", after := #[], guard := none }) (v := .slice a n c) rfl (by kernel_rfl) (by kernel_rfl) (by kernel_rfl) (fun _ _ _ h => h) (Or.inl ⟨by rfl, ?_⟩) s1 ?_
      · rintro w ⟨d0, d1, d2, d3⟩
        go_simp
      simp only [Act.put, List.setIfInBounds_toArray, List.set_cons_zero, List.set_cons_succ]
      refine wpAnyH_take (i := 9) (oi := { dst := some 30, op := Op.move (Operand.tmp 5), type := 3, pos := "ref.go:137", after := #[], guard := none }) (v := .int .i64 (k : Nat)) rfl (by kernel_rfl) (by kernel_rfl) (by kernel_rfl) (fun _ _ _ h => h) (Or.inl ⟨by rfl, ?_⟩) s1 ?_
      · rintro w ⟨d0, d1, d2, d3⟩
        go_simp
      simp only [Act.put, List.setIfInBounds_toArray, List.set_cons_zero, List.set_cons_succ]
      refine wpAnyH_take (i := 10) (oi := { dst := some 31, op := Op.slice 30 (Operand.tmp 29) (some (Operand.tmp 30)) none none, type := 30, pos := "ref.go:137", after := #[{ on := 8, ground := Ground.data }, { on := 9, ground := Ground.data }], guard := none }) (v := dropV a n c k) rfl (by kernel_rfl) (by kernel_rfl) (by kernel_rfl) (fun _ _ _ h => h) (Or.inl ⟨by rfl, ?_⟩) s1 ?_
      · rintro w ⟨d0, d1, d2, d3⟩
        unfold dropV
        go_simp
      simp only [Act.put, List.setIfInBounds_toArray, List.set_cons_zero, List.set_cons_succ]
      refine wpAnyH_ready (rs := [0, 6]) (by kernel_rfl) (by simp) ?_
      refine AllReadyH.cons rfl (fun K hK => ?_) (AllReadyH.cons rfl (fun K hK => ?_) AllReadyH.nil)
      · skip
        go_simp
        refine hK.out _ _ SE.out (fun _ => ?_)
        clear hK K
        refine wpAnyH_ready (rs := [4, 6]) (by kernel_rfl) (by simp) ?_
        refine AllReadyH.cons rfl (fun K hK => ?_) (AllReadyH.cons rfl (fun K hK => ?_) AllReadyH.nil)
        · skip
          refine step_append_run rfl (.tmp 21) (.tmp 24) 30 rfl _ _ rfl rfl _ _ qx1 25 rfl ?_
          simp only [Act.put, List.setIfInBounds_toArray, List.set_cons_zero, List.set_cons_succ]
          refine hK.out _ _ Sx1.out (fun _ => ?_)
          clear hK K
          refine wpAnyH_ready (rs := [6]) (by kernel_rfl) (by simp) ?_
          refine AllReadyH.cons rfl (fun K hK => ?_) AllReadyH.nil
          go_simp
          refine hK.out _ _ Sx1s.out (fun _ => ?_)
          clear hK K
          refine wpAnyH_ready (rs := [7]) (by kernel_rfl) (by simp) ?_
          refine AllReadyH.cons rfl (fun K hK => ?_) AllReadyH.nil
          refine step_append_run rfl (.tmp 25) (.tmp 27) 30 rfl _ _ rfl rfl _ _ qx2 28 rfl ?_
          simp only [Act.put, List.setIfInBounds_toArray, List.set_cons_zero, List.set_cons_succ]
          refine hK.out _ _ Sx2.out (fun _ => ?_)
          clear hK K
          refine wpAnyH_ready (rs := [11]) (by kernel_rfl) (by simp) ?_
          refine AllReadyH.cons rfl (fun K hK => ?_) AllReadyH.nil
          refine step_append_run rfl (.tmp 28) (.tmp 31) 30 rfl _ _ rfl rfl _ _ qx3 32 rfl ?_
          simp only [Act.put, List.setIfInBounds_toArray, List.set_cons_zero, List.set_cons_succ]
          refine hK.out _ _ Sx3.out (fun _ => ?_)
          clear hK K
          refine wpAnyH_ready (rs := [12]) (by kernel_rfl) (by simp) ?_
          refine AllReadyH.cons rfl (fun K hK => ?_) AllReadyH.nil
          go_simp
          refine hK.out _ _ Sx3.out (fun _ => ?_)
          clear hK K
          refine wpAnyH_done (by kernel_rfl) ?_ _
          go_wp2_with fail
          go_ret
          exact Fx.out
        · skip
          go_simp
          refine hK.out _ _ SES.out (fun _ => ?_)
          clear hK K
          refine wpAnyH_ready (rs := [4]) (by kernel_rfl) (by simp) ?_
          refine AllReadyH.cons rfl (fun K hK => ?_) AllReadyH.nil
          refine step_append_run rfl (.tmp 21) (.tmp 24) 30 rfl _ _ rfl rfl _ _ qy1 25 rfl ?_
          simp only [Act.put, List.setIfInBounds_toArray, List.set_cons_zero, List.set_cons_succ]
          refine hK.out _ _ Sy1.out (fun _ => ?_)
          clear hK K
          refine wpAnyH_ready (rs := [7]) (by kernel_rfl) (by simp) ?_
          refine AllReadyH.cons rfl (fun K hK => ?_) AllReadyH.nil
          refine step_append_run rfl (.tmp 25) (.tmp 27) 30 rfl _ _ rfl rfl _ _ qy2 28 rfl ?_
          simp only [Act.put, List.setIfInBounds_toArray, List.set_cons_zero, List.set_cons_succ]
          refine hK.out _ _ Sy2.out (fun _ => ?_)
          clear hK K
          refine wpAnyH_ready (rs := [11]) (by kernel_rfl) (by simp) ?_
          refine AllReadyH.cons rfl (fun K hK => ?_) AllReadyH.nil
          refine step_append_run rfl (.tmp 28) (.tmp 31) 30 rfl _ _ rfl rfl _ _ qy3 32 rfl ?_
          simp only [Act.put, List.setIfInBounds_toArray, List.set_cons_zero, List.set_cons_succ]
          refine hK.out _ _ Sy3.out (fun _ => ?_)
          clear hK K
          refine wpAnyH_ready (rs := [12]) (by kernel_rfl) (by simp) ?_
          refine AllReadyH.cons rfl (fun K hK => ?_) AllReadyH.nil
          go_simp
          refine hK.out _ _ Sy3.out (fun _ => ?_)
          clear hK K
          refine wpAnyH_done (by kernel_rfl) ?_ _
          go_wp2_with fail
          go_ret
          exact Fy.out
      · skip
        go_simp
        refine hK.out _ _ SS.out (fun _ => ?_)
        clear hK K
        refine wpAnyH_ready (rs := [0]) (by kernel_rfl) (by simp) ?_
        refine AllReadyH.cons rfl (fun K hK => ?_) AllReadyH.nil
        go_simp
        refine hK.out _ _ SSE.out (fun _ => ?_)
        clear hK K
        refine wpAnyH_ready (rs := [4]) (by kernel_rfl) (by simp) ?_
        refine AllReadyH.cons rfl (fun K hK => ?_) AllReadyH.nil
        refine step_append_run rfl (.tmp 21) (.tmp 24) 30 rfl _ _ rfl rfl _ _ qz1 25 rfl ?_
        simp only [Act.put, List.setIfInBounds_toArray, List.set_cons_zero, List.set_cons_succ]
        refine hK.out _ _ Sz1.out (fun _ => ?_)
        clear hK K
        refine wpAnyH_ready (rs := [7]) (by kernel_rfl) (by simp) ?_
        refine AllReadyH.cons rfl (fun K hK => ?_) AllReadyH.nil
        refine step_append_run rfl (.tmp 25) (.tmp 27) 30 rfl _ _ rfl rfl _ _ qz2 28 rfl ?_
        simp only [Act.put, List.setIfInBounds_toArray, List.set_cons_zero, List.set_cons_succ]
        refine hK.out _ _ Sz2.out (fun _ => ?_)
        clear hK K
        refine wpAnyH_ready (rs := [11]) (by kernel_rfl) (by simp) ?_
        refine AllReadyH.cons rfl (fun K hK => ?_) AllReadyH.nil
        refine step_append_run rfl (.tmp 28) (.tmp 31) 30 rfl _ _ rfl rfl _ _ qz3 32 rfl ?_
        simp only [Act.put, List.setIfInBounds_toArray, List.set_cons_zero, List.set_cons_succ]
        refine hK.out _ _ Sz3.out (fun _ => ?_)
        clear hK K
        refine wpAnyH_ready (rs := [12]) (by kernel_rfl) (by simp) ?_
        refine AllReadyH.cons rfl (fun K hK => ?_) AllReadyH.nil
        go_simp
        refine hK.out _ _ Sz3.out (fun _ => ?_)
        clear hK K
        refine wpAnyH_done (by kernel_rfl) ?_ _
        go_wp2_with fail
        go_ret
        exact Fz.out
end Go.Proofs.Ytolaaodhnhdadaa
