import Derived.Test.YtefjljdgdoklmaaM33
import Derived.Deep.RegionHeld
import Derived.Test.YtefjljdgdoklmaaM35
import Derived.Test.YtefjljdgdoklmaaM34
/-
  Both file systems tell the same.
-/
namespace Go.Proofs.Ytefjljdgdoklmaa
open Go.RowKit Go.Maps Go.Sort
theorem SRow.strs {w : World} {B : Nat} {v : Value} {ss : List (List UInt8)} (h : SRow w B v ss) : ∃ a n c, v = .slice a n c ∧ Strs w a n (ss.map toBA) ∧ ∀ q o, a = some ⟨q, o, none⟩ → B ≤ q ∧ q < w.heap.size := by
  rcases h with ⟨rfl, rfl⟩ | ⟨g, c, n, rfl, h2, _, hB, cs, h5, h6, h7⟩
  · exact ⟨none, 0, 0, rfl, ⟨rfl, fun k hk => by omega⟩, fun q o e => by cases e⟩
  · refine ⟨_, n, c, rfl, ⟨by rw [List.length_map]; exact h2, fun k hk => ⟨g, 0, rfl, ?_⟩⟩, fun q o e => by cases e; exact ⟨hB, lt_of_heap h5⟩⟩
    have hk' : k < ss.length := by omega
    rw [Nat.zero_add, cell_of_row w g k cs 9 (0, 0) h5, h7 k (by simp [strCells, hk'])]
    simp [strCells, hk', encStr, toBA]
section
variable {B i f q : Nat} {w : World} {d : Disk} {r : RDisk} {A C : Nat → Prop} {rho : Nat → Nat}
theorem Inv.namesR (hi : Inv i rho d r) : namesOf r.now = namesOf d.names := namesOf_both hi.nn (Nod.foldR r.changes hi.nr) hi.sim.now
theorem Inv.sizeR (hi : Inv i rho d r) (s : ByteArray) : r.size s = d.size s := by
  unfold RDisk.size Disk.size
  rw [hi.sim.now]
  cases e : fileOf d.names s with
  | none => rfl
  | some g =>
    show (match r.files (rho g) with | none => -1 | some x => (x.bytes.length : Int)) = _
    rw [hi.sim.files g (hi.sim.named e)]
    rfl
set_option maxRecDepth 100000 in
set_option maxHeartbeats 4000000 in
theorem alike_any (hm : Mem2 B f q w d r A C) (hi : Inv i rho d r) (hb : i ≤ 900) :
    Calls Try.prog 26 #[.pointer (some ⟨f, 0, none⟩), .pointer (some ⟨q, 0, none⟩)] w fun e w' => e = .returned (.bool true) ∧ Below w.heap.size w w' := by
  have hn : ∀ s, s ∈ namesOf d.names → s.size ≤ maxLen := fun s hs => by
    obtain ⟨g, hg⟩ := (mem_namesOf hi.nn.1 s).1 hs
    exact Nat.le_trans (hi.short hg) (by unfold maxLen; omega)
  have HM := hide hm
  have H67 := hide (rnames_rep C q r w hm.rrep (hi.rnum (by omega)) (Nat.le_trans hi.rnow (by omega)))
  have hnl : (namesOf d.names).length ≤ 1000 := by rw [← nod_size hi.nn]; have := hi.names; omega
  clear hm
  go_enter Try.func26, Try.ntmps26
  go_wp2_with fail
  refine H67.out.mono ?_
  rintro e w1 ⟨v, rfl, hs, b1⟩
  obtain ⟨sa, sn, sc, rfl, hst, hsb⟩ := hs.strs
  have hnames : ((strKeys r.now).mergeSort leB).map toBA = namesOf d.names := hi.namesR
  rw [hnames] at hst
  have M1 := hide (HM.out.quiet (Turns.of_below b1 _))
  have ST := hide hst
  have SB := hide hsb
  have B1 := hide b1
  have HN := hide hn
  have hlen : sn = (namesOf d.names).length := hst.1
  have HL := hide hlen
  generalize hNS : namesOf d.names = NS at *
  have HNS := hide hNS
  obtain ⟨rbs, rch, rfv, hrr⟩ := M1.out.rrep
  have x3 : w1.cell? ⟨q, 3, none⟩ = some (.bool r.off) := cell_of_row w1 q 3 _ 84 (0, 0) hrr.cells
  have x7 : w1.cell? ⟨q, 7, none⟩ = some (.int .i64 r.n) := cell_of_row w1 q 7 _ 84 (0, 0) hrr.cells
  have hql : q < w1.heap.size := lt_of_heap hrr.cells
  have QL := hide hql
  have M1d := hide (M1.out.quiet (Turns.refl (fun _ => False) w1).drew)
  have hnn : Maps.size d.names ≤ 1000000 := by have := hi.names; omega
  have H12 := hide (names_rep A f d w1.drew M1d.out.rep hnn)
  have hoff : r.off = !d.on := hi.sim.on
  have hN : r.n = d.ops := hi.sim.n
  clear hs hst hsb b1 hn hlen hNS hnames hrr hql hnn H67 HM
  rw [hoff] at x3
  rw [hN] at x7
  clear hoff hN
  go_wp2_with fail
  go_region_held (fun w' => w'.cell? ⟨q, 3, none⟩ = some (.bool !d.on) ∧ w'.cell? ⟨q, 7, none⟩ = some (.int .i64 d.ops)) (first | (with_reducible exact ⟨z3, z7⟩) | (with_reducible exact ⟨y3, y7⟩) | (simp only [World.cell?_drewN]; with_reducible exact ⟨y3, y7⟩) | (simp only [World.cell?_drew]; with_reducible exact ⟨x3, x7⟩)) (first
    | (go_at_call 12; refine H12.out.mono ?_; rintro e w2 ⟨va, vc, rfl, hcs, b2⟩; rw [HNS.out] at hcs ⊢; rw [← HL.out]; have t2 := (Turns.refl (fun _ => False) w1).drew.trans (Turns.of_below b2 (fun _ => False)); have y3 := t2.cell x3 (fun x => x); have y7 := t2.cell x7 (fun x => x); have T2 := hide t2; have HCS := hide hcs; clear hcs t2 b2)
    | (go_at_call 16; refine (strings_same va sa sn vc sc NS w2 ⟨HL.out, fun k hk => (by obtain ⟨q', h1, h2, h3⟩ := HCS.out k (by have := HL.out; omega); exact ⟨q', 0, h1, by rw [Nat.zero_add]; exact h3⟩)⟩ (ST.out.keep T2.out (fun _ _ _ x => x)) (by have := HL.out; omega)).mono ?_; rintro e w3 ⟨rfl, m, rfl⟩)
    | (go_at_call 32; refine (used_rep A f d _ ((M1.out.quiet (T2.out.drewN m)).rep)).mono ?_; rintro e w4 ⟨rfl, rfl⟩)
    | (go_at_call 68; refine (rused_rep C q r _ ((M1.out.quiet (T2.out.drewN m)).rrep) (hi.rnum (by omega)) (hi.fits (by omega))).mono ?_; rintro e w5 ⟨ls, rfl, hl1, hl2, b5⟩; rw [hi.acc.used hi.sim ⟨hl1, hl2⟩]; have t5 := (T2.out.drewN m).trans (Turns.of_below b5 (fun _ => False)); have z3 := t5.cell x3 (fun x => x); have z7 := t5.cell x7 (fun x => x); have T5 := hide t5; clear t5 b5 hl1 hl2)
    | (go_at_call 18; refine (on_rep A f d _ ((M1.out.quiet T5.out).rep)).mono ?_; rintro e w6 ⟨rfl, rfl⟩)
    | (go_at_call 33; refine (ops_rep A f d _ ((M1.out.quiet T5.out).rep)).mono ?_; rintro e w7 ⟨rfl, rfl⟩))
  have M7 := hide (M1.out.quiet T5.out)
  have ST7 := hide (ST.out.keep T5.out (fun _ _ _ x => x))
  have W7 := hide (show Below w.heap.size w w7 from B1.out.trans (T5.out.below (B := w.heap.size) B1.out.size (fun _ x => x.elim)))
  have hsn : sn ≤ 1000 := by have := HL.out; omega
  clear x3 x7 y3 y7 z3 z7 T2 T5 M1 M1d ST H12 B1 QL
  go_wp2_with fail
  go_loopw [6] (fun iv wr => ∃ k : Nat, iv = .int .i64 (k : Nat) ∧ k ≤ sn ∧ Turns (fun _ => False) w7 wr) (fun iv _ => sn - (intOf iv).toNat)
  case atStart => exact ⟨0, rfl, by omega, Turns.refl _ _⟩
  case round =>
    obtain ⟨k, rfl, hk, ht⟩ := hrel
    have TR := hide ht
    clear ht
    by_cases hk2 : k < sn
    · have i1 : (k : Int) < sn := by omega
      obtain ⟨p, o, hsa, hc⟩ := (ST7.out.keep TR.out (fun _ _ _ x => x)).2 k hk2
      subst hsa
      have hns : (NS.getD k ⟨#[]⟩).size ≤ maxLen := by
        refine HN.out _ ?_
        have hk3 : k < NS.length := by have := HL.out; omega
        rw [List.getD_eq_getElem?_getD, List.getElem?_eq_getElem hk3]
        exact List.getElem_mem hk3
      have MR := hide (M7.out.quiet TR.out)
      generalize NS.getD k ⟨#[]⟩ = nm at *
      have HSZ := hide hns
      clear hns
      have HSR := hide (hi.sizeR nm)
      go_wp2_with fail
      go_region_held (fun w' => w'.cell? ⟨p, o + k, none⟩ = some (.string nm)) (first | (with_reducible exact g1) | (simp only [World.cell?_drew]; with_reducible exact hc)) (first
        | (go_at_call 31; refine (size_rep A f d nm _ ((MR.out.quiet (Turns.refl (fun _ => False) wr).drew).rep) HSZ.out).mono ?_; rintro e w8 ⟨rfl, rfl⟩)
        | (go_at_call 69; refine (rsize_rep C q r nm _ ((MR.out.quiet (Turns.refl (fun _ => False) wr).drew).rrep) (hi.rnum (by omega)) HSZ.out).mono ?_; rintro e w9 ⟨rfl, b9⟩; rw [HSR.out]; have t9 := (Turns.refl (fun _ => False) wr).drew.trans (Turns.of_below b9 (fun _ => False)); have g1 := t9.cell hc (fun x => x); have T9 := hide t9; clear t9 b9))
      go_wp2_with fail
      go_roundw
      case rel => exact ⟨k + 1, by go_num, by omega, TR.out.trans T9.out⟩
      case measure =>
        simp [intOf]
        omega
    · have i1 : ¬ (k : Int) < sn := by omega
      go_wp2_with fail
      go_ret
      exact ⟨rfl, W7.out.trans (TR.out.below (B := w.heap.size) W7.out.size (fun _ x => x.elim))⟩
end
end Go.Proofs.Ytefjljdgdoklmaa

/-
  Behind a crash both file systems read the same.
-/
namespace Go.Proofs.Ytefjljdgdoklmaa
open Go.RowKit Go.Maps Go.Sort
section
variable {B i f q : Nat} {w : World} {d : Disk} {r : RDisk} {A C : Nat → Prop} {rho : Nat → Nat}
theorem Inv.sizeB (hi : Inv i rho d r) (hb : i ≤ 900) (s : ByteArray) : -1 ≤ r.size s ∧ r.size s ≤ 1000000 := by
  unfold RDisk.size
  cases fileOf r.now s with
  | none => simp
  | some g =>
    cases e : r.files g with
    | none => simp [e]
    | some x =>
      have := (hi.rbytes g x e).1
      simp only [e]
      omega
theorem tdiv2 {z : Int} (h : -1 ≤ z ∧ z ≤ 1000000) : -1 ≤ z.tdiv 2 ∧ z.tdiv 2 ≤ 1000000 := by
  rcases (show z < 0 ∨ 0 ≤ z by omega) with h0 | h0
  · have : z = -1 := by omega
    subst this
    decide
  · rw [Int.tdiv_eq_ediv_of_nonneg h0]
    omega
def Kept (B f q j : Nat) (sa : Option Addr) (sn : Nat) (NS : List ByteArray) (w wr : World) : Prop :=
  ∃ (rho : Nat → Nat) (d : Disk) (r : RDisk) (A C : Nat → Prop), Mem2 B f q wr d r A C ∧ Inv j rho d r ∧ Strs wr sa sn NS ∧ (∀ p o, sa = some ⟨p, o, none⟩ → ¬ AC A C p ∧ p < wr.heap.size) ∧ Turns (fun k => B ≤ k) w wr
set_option maxRecDepth 100000 in
set_option maxHeartbeats 4000000 in
theorem reads_any (hm : Mem2 B f q w d r A C) (hB : B ≤ w.heap.size) (hi : Inv i rho d r) (hb : i ≤ 200) :
    Calls Try.prog 27 #[.pointer (some ⟨f, 0, none⟩), .pointer (some ⟨q, 0, none⟩)] w fun e w' => e = .returned (.bool true) ∧ Turns (fun k => B ≤ k) w w' := by
  have HM := hide hm
  have HB := hide hB
  have H67 := hide (rnames_rep C q r w hm.rrep (hi.rnum (by omega)) (Nat.le_trans hi.rnow (by omega)))
  have hnl : (namesOf d.names).length ≤ 200 := by rw [← nod_size hi.nn]; have := hi.names; omega
  have HNL := hide hnl
  clear hm hB hnl
  go_enter Try.func27, Try.ntmps27
  go_wp2_with fail
  refine H67.out.mono ?_
  rintro e w1 ⟨v, rfl, hs, b1⟩
  obtain ⟨sa, sn, sc, rfl, hst, hsb⟩ := hs.strs
  have hnames : ((strKeys r.now).mergeSort leB).map toBA = namesOf d.names := hi.namesR
  rw [hnames] at hst
  have T1 := hide (Turns.of_below b1 (fun _ => False))
  have M1 := hide (HM.out.quiet T1.out)
  have ST := hide hst
  have hsn : sn ≤ 200 := by have := hst.1; have := HNL.out; omega
  have HNM := hide (show ∀ s, s ∈ namesOf d.names → s.size ≤ maxLen from fun s hs => by
    obtain ⟨g, hg⟩ := (mem_namesOf hi.nn.1 s).1 hs
    exact Nat.le_trans (hi.short hg) (by unfold maxLen; omega))
  clear hs hst hsb b1 hnames H67 HNL
  generalize namesOf d.names = NS at *
  have hw1 : w.heap.size ≤ w1.heap.size := T1.out.size
  have HW1 := hide hw1
  clear hw1
  go_wp2_with fail
  go_loopw [6, 7] (fun v6 iv wr => ∃ (k : Nat) (ks : List Int), iv = .int .i64 (k : Nat) ∧ k ≤ sn ∧ IRow wr w1.heap.size v6 ks ∧ ks.length = k ∧ (∀ z, z ∈ ks → -1 ≤ z ∧ z ≤ 1000000) ∧ Turns (fun _ => False) w1 wr) (fun _ iv _ => sn - (intOf iv).toNat)
  case atStart => exact ⟨0, [], rfl, by omega, .inl ⟨rfl, rfl⟩, rfl, fun z hz => (by cases hz), Turns.refl _ _⟩
  case round =>
    obtain ⟨k, ks, rfl, hk, hrow, hkl, hkb, ht⟩ := hrel
    have TR := hide ht
    have HK := hide hkb
    have ROW := hide hrow
    have KL := hide hkl
    clear ht hkb hrow hkl
    by_cases hk2 : k < sn
    · have i1 : (k : Int) < sn := by omega
      obtain ⟨p, o, hsa, hc⟩ := (ST.out.keep TR.out (fun _ _ _ x => x)).2 k hk2
      subst hsa
      have hns : (NS.getD k ⟨#[]⟩).size ≤ maxLen := by
        refine HNM.out _ ?_
        have hk3 : k < NS.length := by have := ST.out.1; omega
        rw [List.getD_eq_getElem?_getD, List.getElem?_eq_getElem hk3]
        exact List.getElem_mem hk3
      have MR := hide (M1.out.quiet TR.out)
      generalize NS.getD k ⟨#[]⟩ = nm at *
      have HSZ := hide hns
      clear hns
      have H69 := hide (rsize_rep C q r nm wr MR.out.rrep (hi.rnum (by omega)) HSZ.out)
      have HZ := hide (tdiv2 (hi.sizeB (by omega) nm))
      go_wp2_with fail
      refine H69.out.mono ?_
      rintro e w2 ⟨rfl, b2⟩
      have T2 := hide (Turns.of_below b2 (fun _ => False))
      clear b2
      generalize hzz : (r.size nm).tdiv 2 = zz at *
      have hz1 := HZ.out
      have ta : Turns (fun _ => False) w2 (w2.alloc (.cells #[.int .i64 zz] 3)) := (Turns.refl _ w2).alloc _
      have hsz : w1.heap.size ≤ w2.heap.size := Nat.le_trans TR.out.size T2.out.size
      obtain ⟨g3, n3, c3, w3, hr3, hrow3, t3, b3⟩ := append_int (w2.alloc (.cells #[.int .i64 zz] 3)) w1.heap.size u6 ks ((ROW.out.keep T2.out (fun _ _ x => x)).keep ta (fun _ _ x => x)) (by simp; omega) (by have := KL.out; omega) zz ⟨w2.heap.size, 0, none⟩ 1 (by simp)
      have T3 := hide (show Turns (fun _ => False) w1 w3 from (TR.out.trans (T2.out.trans ta)).andThen t3 fun j hj hin => by
        have := (ROW.out.row hin).1
        omega)
      have ROW3 := hide hrow3
      have R3 := hide (hr3 47)
      clear hr3 hrow3 t3 b3 ta hsz
      go_wp2_with (at_builtin; refine wpList_append_run rfl (.tmp 21) (.tmp 29) 47 rfl u6 (.slice (some ⟨w2.heap.size, 0, none⟩) 1 1) rfl rfl _ _ R3.out ?_)
      go_roundw
      case rel =>
        refine ⟨k + 1, ks ++ [zz], by go_num, by omega, ROW3.out, by rw [List.length_append, KL.out]; rfl, fun z hz => ?_, T3.out⟩
        rcases List.mem_append.1 hz with hz | hz
        · exact HK.out z hz
        · rw [List.mem_singleton.1 hz]
          exact hz1
      case measure =>
        simp [intOf]
        omega
    · have i1 : ¬ (k : Int) < sn := by omega
      have MR := hide (M1.out.quiet TR.out)
      have hBr : B ≤ wr.heap.size := Nat.le_trans HB.out (Nat.le_trans HW1.out TR.out.size)
      obtain ⟨ka, kn, kc, rfl, hI, hIb⟩ := ROW.out.ints
      have hks : ∀ z, z ∈ ks → z ≤ 9223372036854775807 ∧ -9223372036854775808 ≤ z := fun z hz => by have := HK.out z hz; omega
      have HC := hide (crash_pair MR.out hBr hi (by omega) 1048576 (by omega) (by omega) ka kn kc ks hI (fun a o e _ => (hIb a o e).2) hks)
      have HI := hide hI
      have HIB := hide (show ∀ p o, ka = some ⟨p, o, none⟩ → ¬ A p ∧ ¬ C p from fun p o e => by
        have h1 := (hIb p o e).1
        have h2 := HW1.out
        exact ⟨fun x => by have := (HM.out.la p x).2; omega, fun x => by have := (HM.out.lc p x).2; omega⟩)
      have HBR := hide hBr
      clear hI hIb hks hBr ROW
      go_wp2_with fail
      refine HC.out.mono ?_
      rintro e w2 ⟨⟨v, rfl⟩, t2, c2⟩
      have C2 := hide (c2 w2 ka kc (Turns.refl _ _) (HI.out.keep t2 (fun p o e => (HIB.out p o e).2)) (fun p o e => (HIB.out p o e).1))
      clear t2 c2
      go_wp2_with fail
      refine C2.out.mono ?_
      rintro e w3 ⟨rfl, c3⟩
      obtain ⟨t3, rho3, d3, r3, A3, C3, m3, hi3, k3⟩ := c3
      have M3 := hide m3
      have T3 := hide (show Turns (fun k => B ≤ k) w w3 from ((T1.out.mono fun _ _ x => x.elim).trans (TR.out.mono fun _ _ x => x.elim)).trans (t3.mono fun k _ h => by
        rcases h with h | h
        · exact (HM.out.la k h).1
        · exact (HM.out.lc k h).1))
      have HA := hide (alike_any m3 hi3 (by omega))
      clear t3 m3 k3 HI HIB C2 HC MR TR M1 ST T1
      go_wp2_with fail
      refine HA.out.mono ?_
      rintro e w4 ⟨rfl, b4⟩
      have T4 := hide (Turns.of_below b4 (fun _ => False))
      have M4 := hide (M3.out.quiet T4.out)
      have H67 := hide (rnames_rep C3 q r3 w4 M4.out.rrep (hi3.rnum (by omega)) (Nat.le_trans hi3.rnow (by omega)))
      clear b4 HA
      go_wp2_with fail
      refine H67.out.mono ?_
      rintro e w5 ⟨v5, rfl, hs, b5⟩
      obtain ⟨sa', sn', sc', rfl, hst, hsb⟩ := hs.strs
      have hnames : ((strKeys r3.now).mergeSort leB).map toBA = namesOf d3.names := hi3.namesR
      rw [hnames] at hst
      have T5 := hide (Turns.of_below b5 (fun _ => False))
      have M5 := hide (M4.out.quiet T5.out)
      have hsn' : sn' ≤ 202 := by have := hst.1; have h2 := nod_size hi3.nn; have h3 := hi3.names; omega
      have HNM' := hide (show ∀ s, s ∈ namesOf d3.names → s.size ≤ 1000 from fun s hs => by
        obtain ⟨g, hg⟩ := (mem_namesOf hi3.nn.1 s).1 hs
        exact hi3.short hg)
      have hK : Kept B f q (i + 2) sa' sn' (namesOf d3.names) w w5 := ⟨rho3, d3, r3, A3, C3, M5.out, hi3, hst, fun p o e => by
        have h1 := hsb p o e
        refine ⟨fun x => ?_, h1.2⟩
        rcases x with x | x
        · have := (M4.out.la p x).2; omega
        · have := (M4.out.lc p x).2; omega, T3.out.trans ((T4.out.trans T5.out).mono fun _ _ x => x.elim)⟩
      have HK5 := hide hK
      have HSL := hide hst.1
      clear hs hst hsb b5 hnames hK H67 M3 M4 M5 T4 T5 T3
      generalize namesOf d3.names = NS3 at *
      go_wp2_with fail
      go_loopw [8] (fun iv wr => ∃ k : Nat, iv = .int .i64 (k : Nat) ∧ k ≤ sn' ∧ Kept B f q (i + 2 + 2 * k) sa' sn' NS3 w wr) (fun iv _ => sn' - (intOf iv).toNat)
      case atStart => exact ⟨0, rfl, by omega, HK5.out⟩
      case round =>
        obtain ⟨k, rfl, hk, hK⟩ := hrel
        obtain ⟨rho6, d6, r6, A6, C6, m6, hi6, st6, sb6, t6⟩ := hK
        have M6 := hide m6
        have T6 := hide t6
        have ST6 := hide st6
        have SB6 := hide sb6
        clear m6 t6 st6 sb6
        by_cases hk2 : k < sn'
        · have i1 : (k : Int) < sn' := by omega
          obtain ⟨p, o, hsa, hc⟩ := ST6.out.2 k hk2
          subst hsa
          have hns : (NS3.getD k ⟨#[]⟩).size ≤ 1000 := by
            refine HNM'.out _ ?_
            have hk3 : k < NS3.length := by have := ST6.out.1; omega
            rw [List.getD_eq_getElem?_getD, List.getElem?_eq_getElem hk3]
            exact List.getElem_mem hk3
          have HNS3 := hide (show NS3.getD k ⟨#[]⟩ = NS3.getD k ⟨#[]⟩ from rfl)
          generalize NS3.getD k ⟨#[]⟩ = nm at *
          have hBr : B ≤ wr.heap.size := Nat.le_trans HB.out T6.out.size
          have HC6 := hide (read_pair M6.out hBr hi6 (by omega) nm hns 0 1073741824 (by omega) (by omega))
          clear hns
          go_wp2_with fail
          refine HC6.out.mono ?_
          rintro e w7 ⟨xa, xm, xc, z, bs, rfl, t7, c7⟩
          have hc := t7.cell hc (SB6.out p o rfl).1
          have C7 := hide c7
          clear t7 c7
          go_wp2_with fail
          refine C7.out.mono ?_
          rintro e w8 ⟨ya, yc, rfl, b1, b2, hm0, c8⟩
          have C8 := hide c8
          have HS := hide (bytes_same xa ya xm xc yc bs w8 b1 b2 (by omega))
          clear c8 b1 b2 hm0
          go_wp2_with fail
          refine HS.out.mono ?_
          rintro e w9 ⟨rfl, m, rfl⟩
          go_wp2_with fail
          go_roundw
          case rel =>
            obtain ⟨t8, rho8, d8, r8, A8, C8', m8, hi8, k8⟩ := C8.out
            refine ⟨k + 1, by go_num, by omega, rho8, d8, r8, A8, C8', m8.quiet ((Turns.refl _ w8).drewN m), hi8, (ST6.out.keep t8 (fun p' o' e => by cases e; exact (SB6.out p o rfl).1)).keep ((Turns.refl (fun _ => False) w8).drewN m) (fun _ _ _ x => x), fun p' o' e => ?_, (T6.out.trans (t8.mono fun j _ h => ?_)).drewN m⟩
            · cases e
              exact ⟨fun x => (SB6.out p o rfl).1 (k8 p (SB6.out p o rfl).2 x), Nat.lt_of_lt_of_le (SB6.out p o rfl).2 t8.size⟩
            · rcases h with h | h
              · exact (M6.out.la j h).1
              · exact (M6.out.lc j h).1
          case measure =>
            simp [intOf]
            omega
        · have i1 : ¬ (k : Int) < sn' := by omega
          go_wp2_with fail
          go_ret
          exact ⟨rfl, T6.out⟩
end
end Go.Proofs.Ytefjljdgdoklmaa
