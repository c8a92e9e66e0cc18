/-
  What a table tells does not hang on heights: the whole of the law.
-/
import Derived.Test.YtkeglaplckfllaaHe1
import Derived.Deep.RegionHeld
import Derived.Deep.Light
namespace Go.Proofs.Ytkeglaplckfllaa
open Go.RowKit
set_option maxRecDepth 100000
set_option maxHeartbeats 8000000
theorem heights_any (la aa ba : Option Addr) (ln lc an ac bn bc : Nat) (l : List Tow) (w : World) (hl : Ents w la l) (hln : ln = l.length) (hf : ∀ x, x ∈ l → Fit x) (ha : Ints w aa an) (hb : Ints w ba bn) :
    Calls Try.prog 6 #[.slice la ln lc, .slice aa an ac, .slice ba bn bc] w fun e w' => e = .returned (.bool true) ∧ Below w.heap.size w w' := by
  have HL := hide hl
  have HLN := hide hln
  have HF := hide hf
  have HA := hide ha
  have HBI := hide hb
  have HV := hide (lives_any w)
  generalize hB : w.heap.size = B
  have HB := hide hB
  rw [hB] at HV
  clear hl hln hf ha hb hB
  go_enter Try.func6, Try.ntmps6
  go_wp2_with fail
  refine HV.out.mono ?_
  rintro e w1 ⟨rfl, b1⟩
  have BB1 := hide b1
  clear b1 HV
  by_cases hn : ln ≤ 120
  · have i0 : ¬ (120 : Int) < ln := by omega
    have t1 := Turns.of_below (show Below w.heap.size w w1 by rw [HB.out]; exact BB1.out) (fun _ => False)
    have WG := hide (weigh_any la ln lc l w1 (HL.out.quiet t1) HLN.out (by omega) HF.out)
    have hsz1 : B ≤ w1.heap.size := by have := t1.size; have := HB.out; omega
    clear t1
    by_cases hw : weigh l ≤ 20000
    · have i2 : ¬ (20000 : Int) < (weigh l : Nat) := by omega
      have HWL := hide hw
      clear hw
      go_wp2_with (go_at_call 31; refine WG.out.mono ?_; rintro e w2 ⟨rfl, t2⟩)
      have hb2 : Below w.heap.size w w2 := by
        rw [HB.out]
        exact BB1.out.trans (t2.below hsz1 fun _ x => x.elim)
      clear i2 WG t2 BB1 hsz1
      refine (new_any w2).mono ?_
      rintro e w3 ⟨rfl, h3, b3⟩
      have H3 := hide h3
      have B3 := hide b3
      clear h3 b3
      go_wp2_with fail
      refine (new_any w3).mono ?_
      rintro e w4 ⟨rfl, h4, b4⟩
      have TW := hide (two_start hb2 H3.out B3.out h4 b4)
      rw [HB.out] at TW
      clear hb2 H3 B3 h4 b4
      generalize w2.heap.size + 1 = s at *
      generalize w2.heap.size = bs at *
      generalize w3.heap.size + 1 = t at *
      generalize w3.heap.size = bt at *
      go_wp2_with fail
      go_loopw [9, 10] (fun sv iv wr => ∃ (k : Nat) (R ts : List Tow), iv = .int .i64 (k : Nat) ∧ k ≤ ln ∧ Two B w wr s bs t bt ts [] sv R ∧ Took l k ts R) (fun _ iv _ => ln - (intOf iv).toNat)
      case atStart => exact ⟨0, [], [], rfl, by omega, TW.out, Tells.nil, Nat.le_refl _, Nat.zero_le _, fun x hx => (by cases hx), List.Pairwise.nil⟩
      case round =>
        obtain ⟨k, R, ts, rfl, hk, h2, hT⟩ := hrel
        have TWO := hide h2
        have TOOK := hide hT
        clear h2 hT
        by_cases hk2 : k < ln
        · have i1 : (k : Int) < ln := by omega
          have i3 : (0 : Int) ≤ (k : Int) := by omega
          have hkl : k < l.length := by have := HLN.out; omega
          have tt := Turns.of_below (show Below w.heap.size w wr by rw [HB.out]; exact TWO.out.bel) (fun _ => False)
          obtain ⟨⟨b, off, rfl, hc⟩, k1, k2⟩ := (HL.out.quiet tt) k l[k] (List.getElem?_eq_getElem hkl)
          have hfit := HF.out l[k] (List.getElem_mem hkl)
          have HMM := hide (List.getElem_mem hkl)
          have HTK := hide (List.take_succ_eq_append_getElem hkl)
          have HAW := hide (show Ints wr aa an from fun j hj => by
            obtain ⟨b, off, z, h1, h2⟩ := HA.out j hj
            exact ⟨b, off, z, h1, tt.cell h2 (fun x => x)⟩)
          generalize hx : l[k] = x at *
          obtain ⟨xb, ka, kc, va, vc, e, xh⟩ := x
          have HX := hide hx
          have c0 : wr.cell? ⟨b, off + k * 4, none⟩ = some (.slice ka e.key.length kc) := hc 0 _ rfl
          have c1 : wr.cell? ⟨b, off + k * 4 + 1, none⟩ = some (.int .u64 (e.seq : Nat)) := hc 1 _ rfl
          have c2 : wr.cell? ⟨b, off + k * 4 + 2, none⟩ = some (.int .i64 e.kind) := hc 2 _ rfl
          have c3 : wr.cell? ⟨b, off + k * 4 + 3, none⟩ = some (.slice va e.val.length vc) := hc 3 _ rfl
          have K1 := hide (show Bytes wr (.slice ka e.key.length kc) e.key from k1)
          have K2 := hide (show Bytes wr (.slice va e.val.length vc) e.val from k2)
          have HFIT := hide hfit
          clear hc k1 k2 tt hfit hx
          obtain ⟨rb, rc, rfl⟩ := TWO.out.row.len
          obtain ⟨hbl, hbs⟩ := TOOK.out.bounds (by omega) HWL.out
          have HSM := hide (show Smol [(e.kind, e.key, e.val)] from smol_of HMM.out HWL.out)
          have HGE := hide (show l[k]? = some ⟨xb, ka, kc, va, vc, e, xh⟩ by rw [List.getElem?_eq_getElem hkl, HX.out])
          by_cases hok : chk e.seq [(e.kind, e.key, e.val)] = 0 ∧ atT ts (place (e.key, e.seq) ts) (e.key, e.seq) = none
          · have HOK := hide hok
            clear hok
            by_cases hka : k < an
            · have i4 : (k : Int) < an := by omega
              obtain ⟨b', off', z', rfl, hz'⟩ := HAW.out k hka
              go_wp2_with (go_at_call 32; refine (pick_any z' _).mono ?_; rintro e' w5 ⟨p, hp, rfl, rfl⟩)
              have I6 := hide (TWO.out.ins1_ok (ka := ka) (va := va) (kc := kc) (vc := vc) (e := e) K1.out K2.out HFIT.out.1 HSM.out (by omega) (by omega) HOK.out.1 HOK.out.2 (1 + p) (by omega) (by omega))
              rw [show ((1 + p : Nat) : Int) = 1 + (p : Int) from by omega] at I6
              refine I6.out.mono ?_
              rintro o w6 ⟨rfl, z, hz, h6⟩
              have tt6 := Turns.of_below (show Below w.heap.size w w6 by rw [HB.out]; exact h6.bel) (fun _ => False)
              obtain ⟨⟨bb, oo, ee, hc6⟩, _⟩ := (HL.out.quiet tt6) k ⟨xb, ka, kc, va, vc, e, xh⟩ HGE.out
              obtain ⟨rfl, rfl⟩ : b = bb ∧ off = oo := by cases ee; exact ⟨rfl, rfl⟩
              have d0 : w6.cell? ⟨b, off + k * 4, none⟩ = some (.slice ka e.key.length kc) := hc6 0 _ rfl
              have d1 : w6.cell? ⟨b, off + k * 4 + 1, none⟩ = some (.int .u64 (e.seq : Nat)) := hc6 1 _ rfl
              have d2 : w6.cell? ⟨b, off + k * 4 + 2, none⟩ = some (.int .i64 e.kind) := hc6 2 _ rfl
              have d3 : w6.cell? ⟨b, off + k * 4 + 3, none⟩ = some (.slice va e.val.length vc) := hc6 3 _ rfl
              have h7 := h6.quiet ((Turns.refl (fun _ => False) w6).alloc (.cells #[.slice ka e.key.length kc, .int .u64 (e.seq : Nat), .int .i64 e.kind, .slice va e.val.length vc] 29))
              obtain ⟨g', n', c', w8, hr8, hrow8, t8, b8, hin8⟩ := append_ent (w6.alloc (.cells #[.slice ka e.key.length kc, .int .u64 (e.seq : Nat), .int .i64 e.kind, .slice va e.val.length vc] 29)) B (.slice rb R.length rc) R h7.row h7.hB (by have := TOOK.out.len; omega) ⟨xb, ka, kc, va, vc, e, xh⟩ w6.heap.size 1 (heap_alloc_new w6 _)
              have T8 := hide (h7.app hrow8 t8 hin8)
              have TK8 := hide (TOOK.out.add (x := ⟨xb, ka, kc, va, vc, e, xh⟩) (z := z) HTK.out HMM.out hz HOK.out.1 TWO.out.sorted1 HOK.out.2)
              have hq := hr8 33
              have HLEN := hide hrow8.len
              clear c0 c1 c2 c3 tt6 hc6 h6 h7 hr8 hrow8 t8 b8 hin8 I6 hz ee
              go_wp2_with (at_builtin; refine wpList_append_run rfl _ _ 33 rfl _ _ rfl rfl _ _ hq ?_)
              go_roundw
              case rel => exact ⟨k + 1, _, _, by go_num, by omega, T8.out, TK8.out⟩
              case measure => simp [intOf]; omega
            · have i4 : ¬ (k : Int) < an := by omega
              go_wp2_with fail
              have I6 := hide (TWO.out.ins1_ok (ka := ka) (va := va) (kc := kc) (vc := vc) (e := e) K1.out K2.out HFIT.out.1 HSM.out (by omega) (by omega) HOK.out.1 HOK.out.2 1 (by omega) (by omega))
              skip
              refine I6.out.mono ?_
              rintro o w6 ⟨rfl, z, hz, h6⟩
              have tt6 := Turns.of_below (show Below w.heap.size w w6 by rw [HB.out]; exact h6.bel) (fun _ => False)
              obtain ⟨⟨bb, oo, ee, hc6⟩, _⟩ := (HL.out.quiet tt6) k ⟨xb, ka, kc, va, vc, e, xh⟩ HGE.out
              obtain ⟨rfl, rfl⟩ : b = bb ∧ off = oo := by cases ee; exact ⟨rfl, rfl⟩
              have d0 : w6.cell? ⟨b, off + k * 4, none⟩ = some (.slice ka e.key.length kc) := hc6 0 _ rfl
              have d1 : w6.cell? ⟨b, off + k * 4 + 1, none⟩ = some (.int .u64 (e.seq : Nat)) := hc6 1 _ rfl
              have d2 : w6.cell? ⟨b, off + k * 4 + 2, none⟩ = some (.int .i64 e.kind) := hc6 2 _ rfl
              have d3 : w6.cell? ⟨b, off + k * 4 + 3, none⟩ = some (.slice va e.val.length vc) := hc6 3 _ rfl
              have h7 := h6.quiet ((Turns.refl (fun _ => False) w6).alloc (.cells #[.slice ka e.key.length kc, .int .u64 (e.seq : Nat), .int .i64 e.kind, .slice va e.val.length vc] 29))
              obtain ⟨g', n', c', w8, hr8, hrow8, t8, b8, hin8⟩ := append_ent (w6.alloc (.cells #[.slice ka e.key.length kc, .int .u64 (e.seq : Nat), .int .i64 e.kind, .slice va e.val.length vc] 29)) B (.slice rb R.length rc) R h7.row h7.hB (by have := TOOK.out.len; omega) ⟨xb, ka, kc, va, vc, e, xh⟩ w6.heap.size 1 (heap_alloc_new w6 _)
              have T8 := hide (h7.app hrow8 t8 hin8)
              have TK8 := hide (TOOK.out.add (x := ⟨xb, ka, kc, va, vc, e, xh⟩) (z := z) HTK.out HMM.out hz HOK.out.1 TWO.out.sorted1 HOK.out.2)
              have hq := hr8 33
              have HLEN := hide hrow8.len
              clear c0 c1 c2 c3 tt6 hc6 h6 h7 hr8 hrow8 t8 b8 hin8 I6 hz ee
              go_wp2_with (at_builtin; refine wpList_append_run rfl _ _ 33 rfl _ _ rfl rfl _ _ hq ?_)
              go_roundw
              case rel => exact ⟨k + 1, _, _, by go_num, by omega, T8.out, TK8.out⟩
              case measure => simp [intOf]; omega
          · have HOK := hide hok
            clear hok
            by_cases hka : k < an
            · have i4 : (k : Int) < an := by omega
              obtain ⟨b', off', z', rfl, hz'⟩ := HAW.out k hka
              go_wp2_with (go_at_call 32; refine (pick_any z' _).mono ?_; rintro e' w5 ⟨p, hp, rfl, rfl⟩)
              obtain ⟨cc, hcc, I6⟩ := TWO.out.ins1_no (ka := ka) (va := va) (kc := kc) (vc := vc) (e := e) K1.out K2.out HFIT.out.1 HSM.out (by omega) (by omega) HOK.out (1 + p) (by omega) (by omega)
              rw [show ((1 + p : Nat) : Int) = 1 + (p : Int) from by omega] at I6
              have I6 := hide I6
              refine I6.out.mono ?_
              rintro o w6 ⟨rfl, h6⟩
              have T6 := hide h6
              clear h6 I6
              go_wp2_with fail
              go_roundw
              case rel => exact ⟨k + 1, _, _, by go_num, by omega, T6.out, TOOK.out.skip⟩
              case measure => simp [intOf]; omega
            · have i4 : ¬ (k : Int) < an := by omega
              go_wp2_with fail
              obtain ⟨cc, hcc, I6⟩ := TWO.out.ins1_no (ka := ka) (va := va) (kc := kc) (vc := vc) (e := e) K1.out K2.out HFIT.out.1 HSM.out (by omega) (by omega) HOK.out 1 (by omega) (by omega)
              skip
              have I6 := hide I6
              refine I6.out.mono ?_
              rintro o w6 ⟨rfl, h6⟩
              have T6 := hide h6
              clear h6 I6
              go_wp2_with fail
              go_roundw
              case rel => exact ⟨k + 1, _, _, by go_num, by omega, T6.out, TOOK.out.skip⟩
              case measure => simp [intOf]; omega
        · have i1 : ¬ (k : Int) < ln := by omega
          obtain ⟨rb, rc, rfl⟩ := TWO.out.row.len
          have hRl : R.length ≤ 120 := by have := TOOK.out.len; omega
          have hkn : k ≤ 120 := by omega
          go_wp2_with fail
          go_loopw [12] (fun iv wr => ∃ (j : Nat) (us : List Tow), iv = .int .i64 ((j : Int) - 1) ∧ j ≤ R.length ∧ Two B w wr s bs t bt ts us (.slice rb R.length rc) R ∧ Tells us (R.drop j)) (fun iv _ => (intOf iv + 1).toNat)
          case atStart => exact ⟨R.length, [], by go_num, Nat.le_refl _, TWO.out, by rw [List.drop_length]; exact Tells.nil⟩
          case round =>
            obtain ⟨j, us, rfl, hj, h2, hu⟩ := hrel
            have TWO2 := hide h2
            have TELL := hide hu
            clear h2 hu
            rcases j with _ | i
            · rw [show ((0 : Nat) : Int) - 1 = -1 from rfl]
              rw [List.drop_zero] at TELL
              have hmapE := tells_same TOOK.out.tells TELL.out TWO2.out.sorted1 TWO2.out.sorted2
              have hkey : ∀ {vs : List Tow}, Tells vs R → ∀ x, x ∈ vs → x.e.key ≠ [] := fun hv x hx => by
                obtain ⟨y, hy, he⟩ := List.mem_map.1 ((hv.mem x.e).1 (List.mem_map.2 ⟨x, hx, rfl⟩))
                have := chk_key (TOOK.out.mem y hy).2
                rwa [he] at this
              obtain ⟨hbl, hbs⟩ := TOOK.out.bounds hkn HWL.out
              have hle := TELL.out.len
              have hlt := TOOK.out.tells.len
              have hsz : sizeT us = sizeT ts := TELL.out.size.trans TOOK.out.tells.size.symm
              have A1 := hide (fun u (tt : Turns (fun _ => False) wr u) => (TWO2.out.quiet tt).all1 (hkey TOOK.out.tells) (by omega) hbs R.length hlt.symm)
              have A2 := hide (fun u (tt : Turns (fun _ => False) wr u) => (TWO2.out.quiet tt).all2 (hkey TELL.out) (by omega) (by omega) R.length hle.symm)
              have S1 := hide (fun u (tt : Turns (fun _ => False) wr u) => (TWO2.out.quiet tt).size1)
              have S2 := hide (fun u (tt : Turns (fun _ => False) wr u) => (TWO2.out.quiet tt).size2)
              rw [hsz] at S2
              have HME := hide hmapE
              have HBS := hide hbs
              clear hmapE hkey hle hlt hsz hbs
              go_wp2_with fail
              refine (A1.out _ (Turns.refl _ _)).mono ?_
              rintro o w7 ⟨a1, cp1, R1, rfl, hN1, hE1, hm1, t7⟩
              have T7 := hide t7
              have E1 := hide hE1
              have M1 := hide hm1
              have N1 := hide hN1
              clear hE1 hm1 hN1 t7 A1
              go_wp2_with fail
              refine (A2.out _ T7.out).mono ?_
              rintro o w8 ⟨a2, cp2, R2, rfl, hN2, hE2, hm2, t8⟩
              have T8 := hide (T7.out.trans t8)
              have E1 := hide (E1.out.quiet t8)
              have E2 := hide hE2
              have M2 := hide hm2
              clear hE2 hm2 t8 A2 hN2
              have hbo : ∀ x, x ∈ R1 → x.e.key.length ≤ 1000000 ∧ x.e.val.length ≤ 1000000 := fun x hx => by
                obtain ⟨y, hy, he⟩ := List.mem_map.1 (show x.e ∈ ts.map (·.e) by rw [← M1.out]; exact List.mem_map.2 ⟨x, hx, rfl⟩)
                have := sizeT_mem hy
                have := HBS.out
                rw [← he]
                omega
              have HBO := hide hbo
              clear hbo
              have ES := hide (entries_same a1 a2 R.length cp1 cp2 R1 R2 w8 E1.out E2.out (M1.out.trans (HME.out.trans M2.out.symm)) N1.out (by omega) HBO.out)
              go_wp2_with fail
              refine ES.out.mono ?_
              rintro o w9 ⟨rfl, b9⟩
              have t9 := Turns.of_below b9 (fun _ => False)
              have T9 := hide (T8.out.trans t9)
              have E1 := hide (E1.out.quiet t9)
              clear b9 t9 ES E2 M2 T8
              go_wp2_with fail
              refine (S1.out _ T9.out).mono ?_
              rintro o w10 ⟨rfl, rfl⟩
              go_wp2_with fail
              refine (S2.out _ T9.out).mono ?_
              rintro o w11 ⟨rfl, rfl⟩
              clear S1 S2
              go_wp2_with fail
              have TW9 := hide (TWO2.out.quiet T9.out)
              have hN : R.length = ts.length := TOOK.out.tells.len.symm
              have hU : us.length ≤ 120 ∧ sizeT us ≤ 900000 := back_bounds TOOK.out hkn HWL.out (j := 0) (by rw [List.drop_zero]; exact TELL.out)
              have HMU := hide (M1.out.trans HME.out)
              have HST := hide TWO2.out.sorted1
              have HNN := hide hN
              have HU := hide hU
              clear T9 T7 TWO2 TELL TOOK hN hU HME
              go_loopw [15] (fun iv wl => ∃ i : Nat, iv = .int .i64 (i : Nat) ∧ i ≤ R.length ∧ Two B w wl s bs t bt ts us (.slice rb R.length rc) R ∧ Ents wl a1 R1) (fun iv _ => R.length - (intOf iv).toNat)
              case atStart => exact ⟨0, rfl, Nat.zero_le _, TW9.out, E1.out⟩
              case round =>
                obtain ⟨i, rfl, hi, hT, hE⟩ := hrel
                have TL := hide hT
                have EL := hide hE
                clear hT hE TW9 E1
                by_cases hi2 : i < R.length
                · have j1 : (i : Int) < (R.length : Nat) := by omega
                  have j0 : (0 : Int) ≤ (i : Int) := by omega
                  have hiR : i < R1.length := by have := N1.out; omega
                  obtain ⟨⟨b, off, rfl, hc⟩, k1, k2⟩ := EL.out i R1[i] (List.getElem?_eq_getElem hiR)
                  have hyE : (us.map (·.e))[i]? = some R1[i].e := by
                    rw [← HMU.out, List.getElem?_map, List.getElem?_eq_getElem hiR]
                    rfl
                  have hbo := HBO.out R1[i] (List.getElem_mem hiR)
                  have HPV := hide (fun (m : Nat) (hm : i = m + 1) => (EL.out m (R1[m]'(by omega)) (List.getElem?_eq_getElem (by omega))))
                  have HPS : ∀ m (hm : i = m + 1), cmpE (R1[m]'(by omega)).e.en R1[i].e.en < 0 := fun m hm => by
                    have h1 : (R1.map (·.e)).Pairwise (fun x y => cmpE x.en y.en < 0) := by
                      rw [M1.out]
                      exact List.pairwise_map.2 HST.out
                    have h2 := List.pairwise_iff_getElem.1 h1 m i (by rw [List.length_map]; omega) (by rw [List.length_map]; omega) (by omega)
                    simpa using h2
                  have HPS := hide HPS
                  generalize R1[i] = x at *
                  obtain ⟨xb, ka, kc, va, vc, e, xh⟩ := x
                  have c0 : wr.cell? ⟨b, off + i * 4, none⟩ = some (.slice ka e.key.length kc) := hc 0 _ rfl
                  have c1 : wr.cell? ⟨b, off + i * 4 + 1, none⟩ = some (.int .u64 (e.seq : Nat)) := hc 1 _ rfl
                  have c2 : wr.cell? ⟨b, off + i * 4 + 2, none⟩ = some (.int .i64 e.kind) := hc 2 _ rfl
                  have c3 : wr.cell? ⟨b, off + i * 4 + 3, none⟩ = some (.slice va e.val.length vc) := hc 3 _ rfl
                  have K1 := hide (show Bytes wr (.slice ka e.key.length kc) e.key from k1)
                  have K2 := hide (show Bytes wr (.slice va e.val.length vc) e.val from k2)
                  have HYE := hide (show (us.map (·.e))[i]? = some e from hyE)
                  clear hc k1 k2 hyE
                  go_upto_region 29 with (fail)
                  go_cut [158] from 107 (fun v wx => v = .bool false ∧ ∃ nq, wx = wr.drewN nq)
                  case first =>
                    rename_i kk rest jj kk' m1 m2
                    clear rest
                    by_cases hz : i = 0
                    · subst hz
                      rw [show ((0 : Nat) : Int) = 0 from rfl] at *
                      go_quiet (fail)
                      go_wp2_with fail
                      go_meet
                      exact ⟨rfl, nq, rfl⟩
                    · obtain ⟨m, hm⟩ : ∃ m, i = m + 1 := ⟨i - 1, by omega⟩
                      obtain ⟨⟨b2, off2, hee, hc2⟩, k3, k4⟩ := HPV.out m hm
                      have hps := HPS.out m hm
                      obtain ⟨rfl, rfl⟩ : b = b2 ∧ off = off2 := by cases hee; exact ⟨rfl, rfl⟩
                      generalize R1[m]'(by omega) = y at *
                      obtain ⟨yb, la2, lc2, va2, vc2, f, yh⟩ := y
                      have p0 : wr.cell? ⟨b, off + m * 4, none⟩ = some (.slice la2 f.key.length lc2) := hc2 0 _ rfl
                      have p1 : wr.cell? ⟨b, off + m * 4 + 1, none⟩ = some (.int .u64 (f.seq : Nat)) := hc2 1 _ rfl
                      have K3 := hide (show Bytes wr (.slice la2 f.key.length lc2) f.key from k3)
                      have hps : cmpE (f.key, f.seq) (e.key, e.seq) < 0 := hps
                      have HM := hide hm
                      have j2 : (0 : Int) < (i : Int) := by omega
                      have j6 : 0 < i := by omega
                      have j3 : (i : Int) - 1 = (m : Int) := by omega
                      have j4 : (0 : Int) ≤ (m : Int) := by omega
                      have j5 : (m : Int) < (R.length : Nat) := by omega
                      clear hc2 k3 k4 hee hm HPV HPS
                      by_cases hbf : cmpB f.key e.key < 0
                      · have HBF := hide (fun u h1 h2 => before_any' la2 ka f.key.length e.key.length lc2 kc f.key e.key u h1 h2 hbf)
                        go_quiet (first | (go_at_call 33; refine Calls.quiet_of_same (HBF.out _ (K3.out.drewN _) (K1.out.drewN _))))
                        go_wp2_with fail
                        go_meet
                        exact ⟨rfl, nq, rfl⟩
                      · have hz0 : cmpB f.key e.key = 0 := by
                          have h1 := cmpB_vals f.key e.key
                          unfold cmpE at hps
                          simp only at hps
                          by_cases h2 : cmpB f.key e.key = 0
                          · exact h2
                          · rw [if_pos h2] at hps
                            omega
                        have hkk : f.key = e.key := (cmpB_zero _ _).1 hz0
                        have hsq : (e.seq : Int) < (f.seq : Int) := by
                          unfold cmpE at hps
                          simp only at hps
                          rw [if_neg (by rw [hz0]; exact fun h => h rfl)] at hps
                          split at hps
                          · omega
                          · split at hps <;> omega
                        have HBF := hide (fun u h1 h2 => before_no la2 ka f.key.length e.key.length lc2 kc f.key e.key u h1 h2 hbf)
                        have HBY := hide (fun u h1 h2 => bytes_yes la2 ka f.key.length e.key.length lc2 kc f.key e.key u h1 h2 (by
                          have h1 : e.key.length ≤ 1000000 := hbo.1
                          have h2 : f.key.length = e.key.length := by rw [hkk]
                          omega) hkk)
                        clear hz0 hkk hps hbf
                        go_quiet (first | (go_at_call 33; refine Calls.quiet_of_same (HBF.out _ (K3.out.drewN _) (K1.out.drewN _))) | (go_at_call 34; refine Calls.quiet_of (HBY.out _ (K3.out.drewN _) (K1.out.drewN _))))
                        go_wp2_with fail
                        go_meet
                        exact ⟨rfl, nq, rfl⟩
                  case rest =>
                    obtain ⟨rfl, nq, rfl⟩ := hcut
                    have tq : Turns (fun _ => False) wr (wr.drewN nq) := (Turns.refl _ _).drewN nq
                    have TL := hide (TL.out.quiet tq)
                    have EL := hide (EL.out.quiet tq)
                    have c0 := tq.cell c0 (fun x => x)
                    have c1 := tq.cell c1 (fun x => x)
                    have c2 := tq.cell c2 (fun x => x)
                    have c3 := tq.cell c3 (fun x => x)
                    have K1 := hide (K1.out.quiet tq)
                    have K2 := hide (K2.out.quiet tq)
                    clear tq HPV HPS
                    generalize wr.drewN nq = wq at *
                    go_upto_region 31 with (fail)
                    go_cut [16, 17] from 107 (fun v16 v17 wx => ∃ (g : Nat) (ka' va' : Option Addr) (kc' vc' : Nat), v16 = .pointer (some ⟨g, 0, none⟩) ∧ v17 = .int .i64 0 ∧ wx.heap[g]? = some (.cells #[.slice ka' e.key.length kc', .int .u64 (e.seq : Nat), .int .i64 e.kind, .slice va' e.val.length vc'] 29 (0, 0)) ∧ Bytes wx (.slice ka' e.key.length kc') e.key ∧ Bytes wx (.slice va' e.val.length vc') e.val ∧ Turns (fun _ => False) wq wx)
                    case first =>
                      rename_i kk rest jj kk' m1 m2
                      clear rest
                      have tz : Turns (fun _ => False) wq wq.drew := (Turns.refl _ _).drew
                      have ta : Turns (fun _ => False) wq (wq.drew.alloc (.cells #[.slice none 0 0, .int .u64 0, .int .i64 0, .slice none 0 0] 29)) := tz.alloc _
                      have RA := hide (heap_alloc_new wq.drew (.cells #[.slice none 0 0, .int .u64 0, .int .i64 0, .slice none 0 0] 29))
                      have GT := hide ((TL.out.quiet tz).get2 HYE.out (K1.out.quiet tz) (by have := HU.out.1; omega) (by have := HU.out.2; omega))
                      have GT2 := hide ((TL.out.quiet ta).get2 HYE.out (K1.out.quiet ta) (by have := HU.out.1; omega) (by have := HU.out.2; omega))
                      have TZ := hide tz
                      have TA := hide ta
                      have s1 : wq.drew.cell? ⟨b, off + i * 4, none⟩ = some (.slice ka e.key.length kc) ∧ wq.drew.cell? ⟨b, off + i * 4 + 1, none⟩ = some (.int .u64 (e.seq : Nat)) := ⟨c0, c1⟩
                      have sA := hide (show _ ∧ _ from ⟨ta.cell c0 (fun x => x), ta.cell c1 (fun x => x)⟩)
                      have C0 := hide c0
                      have C1 := hide c1
                      clear ta tz c0 c1
                      refine wp_region_held_drew (S := fun w' => w'.cell? ⟨b, off + i * 4, none⟩ = some (.slice ka e.key.length kc) ∧ w'.cell? ⟨b, off + i * 4 + 1, none⟩ = some (.int .u64 (e.seq : Nat))) (by kernel_rfl) s1 (fun _ => ?_)
                      change wpAnyH _ _ _ _ _ 18 (Array.replicate 18 false) _ _
                      refine wpAnyH_take (i := 0) (oi := { dst := some 160, op := Op.move (Operand.tmp 8), type := 22, pos := "law.go:147", after := #[], guard := none }) (v := .pointer (some ⟨t, 0, none⟩)) rfl (by kernel_rfl) (by kernel_rfl) (by kernel_rfl) (fun _ _ _ h => h) (Or.inl ⟨by rfl, ?_⟩) s1 ?_
                      · rintro w ⟨d0, d1⟩
                        go_simp
                      simp only [Act.put, List.setIfInBounds_toArray, List.set_cons_zero, List.set_cons_succ]
                      refine wpAnyH_take (i := 1) (oi := { dst := some 161, op := Op.move (Operand.tmp 14), type := 33, pos := "law.go:147", after := #[], guard := none }) (v := .slice (some ⟨b, off, none⟩) R.length cp1) rfl (by kernel_rfl) (by kernel_rfl) (by kernel_rfl) (fun _ _ _ h => h) (Or.inl ⟨by rfl, ?_⟩) s1 ?_
                      · rintro w ⟨d0, d1⟩
                        go_simp
                      simp only [Act.put, List.setIfInBounds_toArray, List.set_cons_zero, List.set_cons_succ]
                      refine wpAnyH_take (i := 2) (oi := { dst := some 162, op := Op.move (Operand.tmp 15), type := 3, pos := "law.go:147", after := #[], guard := none }) (v := .int .i64 (i : Nat)) rfl (by kernel_rfl) (by kernel_rfl) (by kernel_rfl) (fun _ _ _ h => h) (Or.inl ⟨by rfl, ?_⟩) s1 ?_
                      · rintro w ⟨d0, d1⟩
                        go_simp
                      simp only [Act.put, List.setIfInBounds_toArray, List.set_cons_zero, List.set_cons_succ]
                      refine wpAnyH_take (i := 3) (oi := { dst := some 163, op := Op.indexAddr 33 (Operand.tmp 161) (Operand.tmp 162), type := 0, pos := "law.go:147", after := #[{ on := 1, ground := Ground.data }, { on := 2, ground := Ground.data }], guard := none }) (v := .pointer (some ⟨b, off + i * 4, none⟩)) rfl (by kernel_rfl) (by kernel_rfl) (by kernel_rfl) (fun _ _ _ h => h) (Or.inl ⟨by rfl, ?_⟩) s1 ?_
                      · rintro w ⟨d0, d1⟩
                        go_simp
                      simp only [Act.put, List.setIfInBounds_toArray, List.set_cons_zero, List.set_cons_succ]
                      refine wpAnyH_take (i := 4) (oi := { dst := some 164, op := Op.fieldAddr 29 (Operand.tmp 163) 0, type := 0, pos := "law.go:147", after := #[{ on := 3, ground := Ground.data }], guard := none }) (v := .pointer (some ⟨b, off + i * 4, none⟩)) rfl (by kernel_rfl) (by kernel_rfl) (by kernel_rfl) (fun _ _ _ h => h) (Or.inl ⟨by rfl, ?_⟩) s1 ?_
                      · rintro w ⟨d0, d1⟩
                        go_simp
                      simp only [Act.put, List.setIfInBounds_toArray, List.set_cons_zero, List.set_cons_succ]
                      refine wpAnyH_take (i := 5) (oi := { dst := some 165, op := Op.load 26 (Operand.tmp 164), type := 26, pos := "law.go:147", after := #[{ on := 4, ground := Ground.data }], guard := none }) (v := .slice ka e.key.length kc) rfl (by kernel_rfl) (by kernel_rfl) (by kernel_rfl) (fun _ _ _ h => h) (Or.inl ⟨by rfl, ?_⟩) s1 ?_
                      · rintro w ⟨d0, d1⟩
                        go_simp
                      simp only [Act.put, List.setIfInBounds_toArray, List.set_cons_zero, List.set_cons_succ]
                      refine wpAnyH_take (i := 6) (oi := { dst := some 166, op := Op.move (Operand.tmp 14), type := 33, pos := "law.go:147", after := #[], guard := none }) (v := .slice (some ⟨b, off, none⟩) R.length cp1) rfl (by kernel_rfl) (by kernel_rfl) (by kernel_rfl) (fun _ _ _ h => h) (Or.inl ⟨by rfl, ?_⟩) s1 ?_
                      · rintro w ⟨d0, d1⟩
                        go_simp
                      simp only [Act.put, List.setIfInBounds_toArray, List.set_cons_zero, List.set_cons_succ]
                      refine wpAnyH_take (i := 7) (oi := { dst := some 167, op := Op.move (Operand.tmp 15), type := 3, pos := "law.go:147", after := #[], guard := none }) (v := .int .i64 (i : Nat)) rfl (by kernel_rfl) (by kernel_rfl) (by kernel_rfl) (fun _ _ _ h => h) (Or.inl ⟨by rfl, ?_⟩) s1 ?_
                      · rintro w ⟨d0, d1⟩
                        go_simp
                      simp only [Act.put, List.setIfInBounds_toArray, List.set_cons_zero, List.set_cons_succ]
                      refine wpAnyH_take (i := 8) (oi := { dst := some 168, op := Op.indexAddr 33 (Operand.tmp 166) (Operand.tmp 167), type := 0, pos := "law.go:147", after := #[{ on := 6, ground := Ground.data }, { on := 7, ground := Ground.data }], guard := none }) (v := .pointer (some ⟨b, off + i * 4, none⟩)) rfl (by kernel_rfl) (by kernel_rfl) (by kernel_rfl) (fun _ _ _ h => h) (Or.inl ⟨by rfl, ?_⟩) s1 ?_
                      · rintro w ⟨d0, d1⟩
                        go_simp
                      simp only [Act.put, List.setIfInBounds_toArray, List.set_cons_zero, List.set_cons_succ]
                      refine wpAnyH_take (i := 9) (oi := { dst := some 169, op := Op.fieldAddr 29 (Operand.tmp 168) 1, type := 0, pos := "law.go:147", after := #[{ on := 8, ground := Ground.data }], guard := none }) (v := .pointer (some ⟨b, off + i * 4 + 1, none⟩)) rfl (by kernel_rfl) (by kernel_rfl) (by kernel_rfl) (fun _ _ _ h => h) (Or.inl ⟨by rfl, ?_⟩) s1 ?_
                      · rintro w ⟨d0, d1⟩
                        go_simp
                      simp only [Act.put, List.setIfInBounds_toArray, List.set_cons_zero, List.set_cons_succ]
                      refine wpAnyH_take (i := 10) (oi := { dst := some 170, op := Op.load 27 (Operand.tmp 169), type := 27, pos := "law.go:147", after := #[{ on := 9, ground := Ground.data }], guard := none }) (v := .int .u64 (e.seq : Nat)) rfl (by kernel_rfl) (by kernel_rfl) (by kernel_rfl) (fun _ _ _ h => h) (Or.inl ⟨by rfl, ?_⟩) s1 ?_
                      · rintro w ⟨d0, d1⟩
                        go_simp
                      simp only [Act.put, List.setIfInBounds_toArray, List.set_cons_zero, List.set_cons_succ]
                      refine wpAnyH_ready (rs := [11, 15]) (by kernel_rfl) (by simp) ?_
                      refine AllReadyH.cons rfl (fun K hK => ?_) (AllReadyH.cons rfl (fun K hK => ?_) AllReadyH.nil)
                      · skip
                        go_simp
                        go_at_call 18
                        refine GT.out.mono ?_
                        rintro o w2 ⟨ka2, kc2, va2, vc2, rfl, g1, g2, t2⟩
                        dsimp only
                        have T2 := hide (TZ.out.trans t2)
                        have G1 := hide g1
                        have G2 := hide g2
                        clear t2 g1 g2
                        have s2 : w2.cell? ⟨b, off + i * 4, none⟩ = some (.slice ka e.key.length kc) ∧ w2.cell? ⟨b, off + i * 4 + 1, none⟩ = some (.int .u64 (e.seq : Nat)) := ⟨T2.out.cell C0.out (fun x => x), T2.out.cell C1.out (fun x => x)⟩
                        refine hK.out _ _ s2 (fun _ => ?_)
                        clear hK K
                        refine wpAnyH_take (i := 12) (oi := { dst := some 159, op := Op.move (Operand.tmp 171), type := 44, pos := "law.go:147", after := #[{ on := 11, ground := Ground.data }], guard := none }) (v := .tuple #[.agg #[.slice ka2 e.key.length kc2, .int .u64 (e.seq : Nat), .int .i64 e.kind, .slice va2 e.val.length vc2], .int .i64 0]) rfl (by kernel_rfl) (by kernel_rfl) (by kernel_rfl) (fun _ _ _ h => h) (Or.inl ⟨by rfl, ?_⟩) s2 ?_
                        · rintro w ⟨d0, d1⟩
                          go_simp
                        simp only [Act.put, List.setIfInBounds_toArray, List.set_cons_zero, List.set_cons_succ]
                        refine wpAnyH_take (i := 13) (oi := { dst := some 172, op := Op.extract (Operand.tmp 159) 0, type := 29, pos := "law.go:147", after := #[{ on := 12, ground := Ground.data }], guard := none }) (v := .agg #[.slice ka2 e.key.length kc2, .int .u64 (e.seq : Nat), .int .i64 e.kind, .slice va2 e.val.length vc2]) rfl (by kernel_rfl) (by kernel_rfl) (by kernel_rfl) (fun _ _ _ h => h) (Or.inl ⟨by rfl, ?_⟩) s2 ?_
                        · rintro w ⟨d0, d1⟩
                          go_simp
                        simp only [Act.put, List.setIfInBounds_toArray, List.set_cons_zero, List.set_cons_succ]
                        refine wpAnyH_take (i := 14) (oi := { dst := some 173, op := Op.extract (Operand.tmp 159) 1, type := 24, pos := "law.go:147", after := #[{ on := 12, ground := Ground.data }, { on := 16, ground := Ground.gcOnly Departure.lateStores }], guard := none }) (v := .int .i64 0) rfl (by kernel_rfl) (by kernel_rfl) (by kernel_rfl) (fun _ _ _ h => h) (Or.inl ⟨by rfl, ?_⟩) s2 ?_
                        · rintro w ⟨d0, d1⟩
                          go_simp
                        simp only [Act.put, List.setIfInBounds_toArray, List.set_cons_zero, List.set_cons_succ]
                        refine wpAnyH_ready (rs := [15]) (by kernel_rfl) (by simp) ?_
                        refine AllReadyH.cons rfl (fun K hK => ?_) AllReadyH.nil
                        go_simp
                        have s3 := hide (show _ ∧ _ from ⟨alloc_keep s2.1 (.cells #[.slice none 0 0, .int .u64 0, .int .i64 0, .slice none 0 0] 29), alloc_keep s2.2 (.cells #[.slice none 0 0, .int .u64 0, .int .i64 0, .slice none 0 0] 29)⟩)
                        refine hK.out _ _ s3.out (fun _ => ?_)
                        clear hK K
                        refine wpAnyH_ready (rs := [16]) (by kernel_rfl) (by simp) ?_
                        refine AllReadyH.cons rfl (fun K hK => ?_) AllReadyH.nil
                        refine wp_store_row 29 (.tmp 16) (.tmp 172) rfl _ _ rfl rfl 29 _ (heap_alloc_new w2 _) info29 rfl (by simp [Value.oneCell']) ?_
                        simp only [Act.put, List.setIfInBounds_toArray]
                        have T3 := hide ((T2.out.alloc (.cells #[.slice none 0 0, .int .u64 0, .int .i64 0, .slice none 0 0] 29)).over (cs := #[.slice ka2 e.key.length kc2, .int .u64 (e.seq : Nat), .int .i64 e.kind, .slice va2 e.val.length vc2]) (g := w2.heap.size) (by go_light; have := T2.out.size; simp only [World.size_drew] at *; omega))
                        refine hK.out _ _ ⟨T3.out.cell C0.out (fun x => x), T3.out.cell C1.out (fun x => x)⟩ (fun _ => ?_)
                        clear hK K
                        refine wpAnyH_ready (rs := [17]) (by kernel_rfl) (by simp) ?_
                        refine AllReadyH.cons rfl (fun K hK => ?_) AllReadyH.nil
                        go_simp
                        refine hK.out _ _ ⟨T3.out.cell C0.out (fun x => x), T3.out.cell C1.out (fun x => x)⟩ (fun _ => ?_)
                        clear hK K
                        refine wpAnyH_done (by kernel_rfl) ?_ _
                        go_wp2_with fail
                        go_meet
                        exact ⟨w2.heap.size, ka2, va2, kc2, vc2, rfl, rfl, setRow_heap _ _ _ _ _ _ (heap_alloc_new w2 _), (G1.out.quiet ((Turns.refl _ w2).alloc _)).over (heap_alloc_new w2 _), (G2.out.quiet ((Turns.refl _ w2).alloc _)).over (heap_alloc_new w2 _), T3.out⟩
                      · skip
                        go_simp
                        refine hK.out _ _ sA.out (fun _ => ?_)
                        clear hK K
                        refine wpAnyH_ready (rs := [11]) (by kernel_rfl) (by simp) ?_
                        refine AllReadyH.cons rfl (fun K hK => ?_) AllReadyH.nil
                        go_simp
                        go_at_call 18
                        refine GT2.out.mono ?_
                        rintro o w2 ⟨ka2, kc2, va2, vc2, rfl, g1, g2, t2⟩
                        dsimp only
                        have T2 := hide (TA.out.trans t2)
                        have G1 := hide g1
                        have G2 := hide g2
                        have R2 := hide (t2.heap RA.out (fun x => x))
                        clear t2 g1 g2
                        have s2 : w2.cell? ⟨b, off + i * 4, none⟩ = some (.slice ka e.key.length kc) ∧ w2.cell? ⟨b, off + i * 4 + 1, none⟩ = some (.int .u64 (e.seq : Nat)) := ⟨T2.out.cell C0.out (fun x => x), T2.out.cell C1.out (fun x => x)⟩
                        refine hK.out _ _ s2 (fun _ => ?_)
                        clear hK K
                        refine wpAnyH_take (i := 12) (oi := { dst := some 159, op := Op.move (Operand.tmp 171), type := 44, pos := "law.go:147", after := #[{ on := 11, ground := Ground.data }], guard := none }) (v := .tuple #[.agg #[.slice ka2 e.key.length kc2, .int .u64 (e.seq : Nat), .int .i64 e.kind, .slice va2 e.val.length vc2], .int .i64 0]) rfl (by kernel_rfl) (by kernel_rfl) (by kernel_rfl) (fun _ _ _ h => h) (Or.inl ⟨by rfl, ?_⟩) s2 ?_
                        · rintro w ⟨d0, d1⟩
                          go_simp
                        simp only [Act.put, List.setIfInBounds_toArray, List.set_cons_zero, List.set_cons_succ]
                        refine wpAnyH_take (i := 13) (oi := { dst := some 172, op := Op.extract (Operand.tmp 159) 0, type := 29, pos := "law.go:147", after := #[{ on := 12, ground := Ground.data }], guard := none }) (v := .agg #[.slice ka2 e.key.length kc2, .int .u64 (e.seq : Nat), .int .i64 e.kind, .slice va2 e.val.length vc2]) rfl (by kernel_rfl) (by kernel_rfl) (by kernel_rfl) (fun _ _ _ h => h) (Or.inl ⟨by rfl, ?_⟩) s2 ?_
                        · rintro w ⟨d0, d1⟩
                          go_simp
                        simp only [Act.put, List.setIfInBounds_toArray, List.set_cons_zero, List.set_cons_succ]
                        refine wpAnyH_take (i := 14) (oi := { dst := some 173, op := Op.extract (Operand.tmp 159) 1, type := 24, pos := "law.go:147", after := #[{ on := 12, ground := Ground.data }, { on := 16, ground := Ground.gcOnly Departure.lateStores }], guard := none }) (v := .int .i64 0) rfl (by kernel_rfl) (by kernel_rfl) (by kernel_rfl) (fun _ _ _ h => h) (Or.inl ⟨by rfl, ?_⟩) s2 ?_
                        · rintro w ⟨d0, d1⟩
                          go_simp
                        simp only [Act.put, List.setIfInBounds_toArray, List.set_cons_zero, List.set_cons_succ]
                        refine wpAnyH_ready (rs := [16]) (by kernel_rfl) (by simp) ?_
                        refine AllReadyH.cons rfl (fun K hK => ?_) AllReadyH.nil
                        refine wp_store_row 29 (.tmp 16) (.tmp 172) rfl _ _ rfl rfl 29 _ R2.out info29 rfl (by simp [Value.oneCell']) ?_
                        simp only [Act.put, List.setIfInBounds_toArray]
                        have T3 := hide ((T2.out).over (cs := #[.slice ka2 e.key.length kc2, .int .u64 (e.seq : Nat), .int .i64 e.kind, .slice va2 e.val.length vc2]) (g := wq.heap.size) (by go_light; have := T2.out.size; simp only [World.size_drew] at *; omega))
                        refine hK.out _ _ ⟨T3.out.cell C0.out (fun x => x), T3.out.cell C1.out (fun x => x)⟩ (fun _ => ?_)
                        clear hK K
                        refine wpAnyH_ready (rs := [17]) (by kernel_rfl) (by simp) ?_
                        refine AllReadyH.cons rfl (fun K hK => ?_) AllReadyH.nil
                        go_simp
                        refine hK.out _ _ ⟨T3.out.cell C0.out (fun x => x), T3.out.cell C1.out (fun x => x)⟩ (fun _ => ?_)
                        clear hK K
                        refine wpAnyH_done (by kernel_rfl) ?_ _
                        go_wp2_with fail
                        go_meet
                        exact ⟨wq.heap.size, ka2, va2, kc2, vc2, rfl, rfl, setRow_heap _ _ _ _ _ _ R2.out, G1.out.over R2.out, G2.out.over R2.out, T3.out⟩
                    case rest =>
                      obtain ⟨g, ka2, va2, kc2, vc2, rfl, rfl, hbox, g1, g2, t2⟩ := hcut
                      have TL := hide (TL.out.quiet t2)
                      have EL := hide (EL.out.quiet t2)
                      have c0 := t2.cell c0 (fun x => x)
                      have c1 := t2.cell c1 (fun x => x)
                      have c2 := t2.cell c2 (fun x => x)
                      have c3 := t2.cell c3 (fun x => x)
                      have K1 := hide (K1.out.quiet t2)
                      have K2 := hide (K2.out.quiet t2)
                      have G1 := hide g1
                      have G2 := hide g2
                      have BX := hide hbox
                      clear g1 g2 hbox t2
                      go_upto_region 32 with (fail)
                      go_cut [202] from 107 (fun v wx => v = .bool false ∧ Turns (fun _ => False) wc wx)
                      case first =>
                        rename_i kk rest jj kk' m1 m2
                        clear rest
                        have tz : Turns (fun _ => False) wc wc.drew := (Turns.refl _ _).drew
                        have EN := hide (entry_same ka2 va2 ka va e.key.length kc2 e.val.length vc2 kc vc e.seq e.kind e.key e.val wc.drew (G1.out.quiet tz) (G2.out.quiet tz) (K1.out.quiet tz) (K2.out.quiet tz) hbo.1 hbo.2)
                        have TZ := hide tz
                        have s1 : (wc.drew.cell? ⟨b, off + i * 4, none⟩ = some (.slice ka e.key.length kc) ∧ wc.drew.cell? ⟨b, off + i * 4 + 1, none⟩ = some (.int .u64 (e.seq : Nat)) ∧ wc.drew.cell? ⟨b, off + i * 4 + 2, none⟩ = some (.int .i64 e.kind) ∧ wc.drew.cell? ⟨b, off + i * 4 + 3, none⟩ = some (.slice va e.val.length vc)) ∧ wc.drew.cell? ⟨g, 0, none⟩ = some (.slice ka2 e.key.length kc2) ∧ wc.drew.cell? ⟨g, 1, none⟩ = some (.int .u64 (e.seq : Nat)) ∧ wc.drew.cell? ⟨g, 2, none⟩ = some (.int .i64 e.kind) ∧ wc.drew.cell? ⟨g, 3, none⟩ = some (.slice va2 e.val.length vc2) := ⟨⟨c0, c1, c2, c3⟩, cell_of_row wc g 0 _ 29 (0, 0) BX.out, cell_of_row wc g 1 _ 29 (0, 0) BX.out, cell_of_row wc g 2 _ 29 (0, 0) BX.out, cell_of_row wc g 3 _ 29 (0, 0) BX.out⟩
                        have SK := hide (fun u (t : Turns (fun _ => False) wc u) => show (u.cell? ⟨b, off + i * 4, none⟩ = some (.slice ka e.key.length kc) ∧ u.cell? ⟨b, off + i * 4 + 1, none⟩ = some (.int .u64 (e.seq : Nat)) ∧ u.cell? ⟨b, off + i * 4 + 2, none⟩ = some (.int .i64 e.kind) ∧ u.cell? ⟨b, off + i * 4 + 3, none⟩ = some (.slice va e.val.length vc)) ∧ u.cell? ⟨g, 0, none⟩ = some (.slice ka2 e.key.length kc2) ∧ u.cell? ⟨g, 1, none⟩ = some (.int .u64 (e.seq : Nat)) ∧ u.cell? ⟨g, 2, none⟩ = some (.int .i64 e.kind) ∧ u.cell? ⟨g, 3, none⟩ = some (.slice va2 e.val.length vc2) from ⟨⟨t.cell c0 (fun x => x), t.cell c1 (fun x => x), t.cell c2 (fun x => x), t.cell c3 (fun x => x)⟩, t.cell s1.2.1 (fun x => x), t.cell s1.2.2.1 (fun x => x), t.cell s1.2.2.2.1 (fun x => x), t.cell s1.2.2.2.2 (fun x => x)⟩)
                        clear tz c0 c1 c2 c3
                        refine wp_region_held_drew (S := fun w' => (w'.cell? ⟨b, off + i * 4, none⟩ = some (.slice ka e.key.length kc) ∧ w'.cell? ⟨b, off + i * 4 + 1, none⟩ = some (.int .u64 (e.seq : Nat)) ∧ w'.cell? ⟨b, off + i * 4 + 2, none⟩ = some (.int .i64 e.kind) ∧ w'.cell? ⟨b, off + i * 4 + 3, none⟩ = some (.slice va e.val.length vc)) ∧ w'.cell? ⟨g, 0, none⟩ = some (.slice ka2 e.key.length kc2) ∧ w'.cell? ⟨g, 1, none⟩ = some (.int .u64 (e.seq : Nat)) ∧ w'.cell? ⟨g, 2, none⟩ = some (.int .i64 e.kind) ∧ w'.cell? ⟨g, 3, none⟩ = some (.slice va2 e.val.length vc2)) (by kernel_rfl) s1 (fun _ => ?_)
                        change wpAnyH _ _ _ _ _ 29 (Array.replicate 29 false) _ _
                        refine wpAnyH_take (i := 0) (oi := { dst := some 174, op := Op.move (Operand.tmp 17), type := 24, pos := "law.go:148", after := #[], guard := none }) (v := .int .i64 0) rfl (by kernel_rfl) (by kernel_rfl) (by kernel_rfl) (fun _ _ _ h => h) (Or.inl ⟨by rfl, ?_⟩) s1 ?_
                        · rintro w ⟨⟨d0, d1, d2, d3⟩, f0, f1, f2, f3⟩
                          go_simp
                        simp only [Act.put, List.setIfInBounds_toArray, List.set_cons_zero, List.set_cons_succ]
                        refine wpAnyH_take (i := 1) (oi := { dst := some 175, op := Op.binOp BinOp.neq 24 (Operand.tmp 174) (Operand.const (Value.int IntKind.i64 0)) 24, type := 4, pos := "law.go:148", after := #[{ on := 0, ground := Ground.data }], guard := none }) (v := .bool false) rfl (by kernel_rfl) (by kernel_rfl) (by kernel_rfl) (fun _ _ _ h => h) (Or.inl ⟨by rfl, ?_⟩) s1 ?_
                        · rintro w ⟨⟨d0, d1, d2, d3⟩, f0, f1, f2, f3⟩
                          go_simp
                        simp only [Act.put, List.setIfInBounds_toArray, List.set_cons_zero, List.set_cons_succ]
                        refine wpAnyH_take (i := 2) (oi := { dst := some 176, op := Op.move (Operand.tmp 175), type := 4, pos := "law.go:148", after := #[{ on := 1, ground := Ground.data }], guard := none }) (v := .bool false) rfl (by kernel_rfl) (by kernel_rfl) (by kernel_rfl) (fun _ _ _ h => h) (Or.inl ⟨by rfl, ?_⟩) s1 ?_
                        · rintro w ⟨⟨d0, d1, d2, d3⟩, f0, f1, f2, f3⟩
                          go_simp
                        simp only [Act.put, List.setIfInBounds_toArray, List.set_cons_zero, List.set_cons_succ]
                        refine wpAnyH_take (i := 3) (oi := { dst := some 177, op := Op.load 29 (Operand.tmp 16), type := 29, pos := "law.go:148", after := #[{ on := 2, ground := Ground.guard }], guard := some (2, false) }) (v := .agg #[.slice ka2 e.key.length kc2, .int .u64 (e.seq : Nat), .int .i64 e.kind, .slice va2 e.val.length vc2]) rfl (by kernel_rfl) (by kernel_rfl) (by kernel_rfl) (fun _ _ _ h => h) (Or.inl ⟨by rfl, ?_⟩) s1 ?_
                        · rintro w ⟨⟨d0, d1, d2, d3⟩, f0, f1, f2, f3⟩
                          go_simp
                        simp only [Act.put, List.setIfInBounds_toArray, List.set_cons_zero, List.set_cons_succ]
                        refine wpAnyH_take (i := 4) (oi := { dst := some 178, op := Op.move (Operand.tmp 14), type := 33, pos := "law.go:148", after := #[{ on := 2, ground := Ground.guard }], guard := some (2, false) }) (v := .slice (some ⟨b, off, none⟩) R.length cp1) rfl (by kernel_rfl) (by kernel_rfl) (by kernel_rfl) (fun _ _ _ h => h) (Or.inl ⟨by rfl, ?_⟩) s1 ?_
                        · rintro w ⟨⟨d0, d1, d2, d3⟩, f0, f1, f2, f3⟩
                          go_simp
                        simp only [Act.put, List.setIfInBounds_toArray, List.set_cons_zero, List.set_cons_succ]
                        refine wpAnyH_take (i := 5) (oi := { dst := some 179, op := Op.move (Operand.tmp 15), type := 3, pos := "law.go:148", after := #[{ on := 2, ground := Ground.guard }], guard := some (2, false) }) (v := .int .i64 (i : Nat)) rfl (by kernel_rfl) (by kernel_rfl) (by kernel_rfl) (fun _ _ _ h => h) (Or.inl ⟨by rfl, ?_⟩) s1 ?_
                        · rintro w ⟨⟨d0, d1, d2, d3⟩, f0, f1, f2, f3⟩
                          go_simp
                        simp only [Act.put, List.setIfInBounds_toArray, List.set_cons_zero, List.set_cons_succ]
                        refine wpAnyH_take (i := 6) (oi := { dst := some 180, op := Op.indexAddr 33 (Operand.tmp 178) (Operand.tmp 179), type := 0, pos := "law.go:148", after := #[{ on := 4, ground := Ground.data }, { on := 5, ground := Ground.data }, { on := 2, ground := Ground.guard }], guard := some (2, false) }) (v := .pointer (some ⟨b, off + i * 4, none⟩)) rfl (by kernel_rfl) (by kernel_rfl) (by kernel_rfl) (fun _ _ _ h => h) (Or.inl ⟨by rfl, ?_⟩) s1 ?_
                        · rintro w ⟨⟨d0, d1, d2, d3⟩, f0, f1, f2, f3⟩
                          go_simp
                        simp only [Act.put, List.setIfInBounds_toArray, List.set_cons_zero, List.set_cons_succ]
                        refine wpAnyH_take (i := 7) (oi := { dst := some 181, op := Op.load 29 (Operand.tmp 180), type := 29, pos := "law.go:148", after := #[{ on := 6, ground := Ground.data }, { on := 2, ground := Ground.guard }], guard := some (2, false) }) (v := .agg #[.slice ka e.key.length kc, .int .u64 (e.seq : Nat), .int .i64 e.kind, .slice va e.val.length vc]) rfl (by kernel_rfl) (by kernel_rfl) (by kernel_rfl) (fun _ _ _ h => h) (Or.inl ⟨by rfl, ?_⟩) s1 ?_
                        · rintro w ⟨⟨d0, d1, d2, d3⟩, f0, f1, f2, f3⟩
                          go_simp
                        simp only [Act.put, List.setIfInBounds_toArray, List.set_cons_zero, List.set_cons_succ]
                        refine wpAnyH_ready (rs := [8]) (by kernel_rfl) (by simp) ?_
                        refine AllReadyH.cons rfl (fun K hK => ?_) AllReadyH.nil
                        go_simp
                        go_at_call 21
                        refine EN.out.mono ?_
                        rintro o w5 ⟨rfl, b5⟩
                        dsimp only
                        have T5 := hide (TZ.out.trans (Turns.of_below b5 (fun _ => False)))
                        clear b5
                        have s2 := SK.out w5 T5.out
                        refine hK.out _ _ s2 (fun _ => ?_)
                        clear hK K
                        refine wpAnyH_take (i := 9) (oi := { dst := some 183, op := Op.unOp UnOp.not 4 (Operand.tmp 182), type := 4, pos := "law.go:148", after := #[{ on := 8, ground := Ground.data }, { on := 2, ground := Ground.guard }], guard := some (2, false) }) (v := .bool false) rfl (by kernel_rfl) (by kernel_rfl) (by kernel_rfl) (fun _ _ _ h => h) (Or.inl ⟨by rfl, ?_⟩) s2 ?_
                        · rintro w ⟨⟨d0, d1, d2, d3⟩, f0, f1, f2, f3⟩
                          go_simp
                        simp only [Act.put, List.setIfInBounds_toArray, List.set_cons_zero, List.set_cons_succ]
                        refine wpAnyH_take (i := 10) (oi := { dst := some 184, op := Op.pick (Operand.tmp 176) (Operand.const (Value.bool true)) (Operand.tmp 183), type := 4, pos := "law.go:148", after := #[{ on := 2, ground := Ground.data }, { on := 9, ground := Ground.data }], guard := none }) (v := .bool false) rfl (by kernel_rfl) (by kernel_rfl) (by kernel_rfl) (fun _ _ _ h => h) (Or.inl ⟨by rfl, ?_⟩) s2 ?_
                        · rintro w ⟨⟨d0, d1, d2, d3⟩, f0, f1, f2, f3⟩
                          go_simp
                        simp only [Act.put, List.setIfInBounds_toArray, List.set_cons_zero, List.set_cons_succ]
                        refine wpAnyH_take (i := 11) (oi := { dst := some 185, op := Op.move (Operand.tmp 184), type := 4, pos := "law.go:148", after := #[{ on := 10, ground := Ground.data }, { on := 8, ground := Ground.chain }], guard := none }) (v := .bool false) rfl (by kernel_rfl) (by kernel_rfl) (by kernel_rfl) (fun _ _ _ h => h) (Or.inl ⟨by rfl, ?_⟩) s2 ?_
                        · rintro w ⟨⟨d0, d1, d2, d3⟩, f0, f1, f2, f3⟩
                          go_simp
                        simp only [Act.put, List.setIfInBounds_toArray, List.set_cons_zero, List.set_cons_succ]
                        refine wpAnyH_take (i := 12) (oi := { dst := some 186, op := Op.move (Operand.tmp 7), type := 22, pos := "law.go:148", after := #[{ on := 11, ground := Ground.guard }], guard := some (11, false) }) (v := .pointer (some ⟨s, 0, none⟩)) rfl (by kernel_rfl) (by kernel_rfl) (by kernel_rfl) (fun _ _ _ h => h) (Or.inl ⟨by rfl, ?_⟩) s2 ?_
                        · rintro w ⟨⟨d0, d1, d2, d3⟩, f0, f1, f2, f3⟩
                          go_simp
                        simp only [Act.put, List.setIfInBounds_toArray, List.set_cons_zero, List.set_cons_succ]
                        refine wpAnyH_take (i := 13) (oi := { dst := some 187, op := Op.move (Operand.tmp 14), type := 33, pos := "law.go:148", after := #[{ on := 11, ground := Ground.guard }], guard := some (11, false) }) (v := .slice (some ⟨b, off, none⟩) R.length cp1) rfl (by kernel_rfl) (by kernel_rfl) (by kernel_rfl) (fun _ _ _ h => h) (Or.inl ⟨by rfl, ?_⟩) s2 ?_
                        · rintro w ⟨⟨d0, d1, d2, d3⟩, f0, f1, f2, f3⟩
                          go_simp
                        simp only [Act.put, List.setIfInBounds_toArray, List.set_cons_zero, List.set_cons_succ]
                        refine wpAnyH_take (i := 14) (oi := { dst := some 188, op := Op.move (Operand.tmp 15), type := 3, pos := "law.go:148", after := #[{ on := 11, ground := Ground.guard }], guard := some (11, false) }) (v := .int .i64 (i : Nat)) rfl (by kernel_rfl) (by kernel_rfl) (by kernel_rfl) (fun _ _ _ h => h) (Or.inl ⟨by rfl, ?_⟩) s2 ?_
                        · rintro w ⟨⟨d0, d1, d2, d3⟩, f0, f1, f2, f3⟩
                          go_simp
                        simp only [Act.put, List.setIfInBounds_toArray, List.set_cons_zero, List.set_cons_succ]
                        refine wpAnyH_take (i := 15) (oi := { dst := some 189, op := Op.indexAddr 33 (Operand.tmp 187) (Operand.tmp 188), type := 0, pos := "law.go:148", after := #[{ on := 13, ground := Ground.data }, { on := 14, ground := Ground.data }, { on := 11, ground := Ground.guard }], guard := some (11, false) }) (v := .pointer (some ⟨b, off + i * 4, none⟩)) rfl (by kernel_rfl) (by kernel_rfl) (by kernel_rfl) (fun _ _ _ h => h) (Or.inl ⟨by rfl, ?_⟩) s2 ?_
                        · rintro w ⟨⟨d0, d1, d2, d3⟩, f0, f1, f2, f3⟩
                          go_simp
                        simp only [Act.put, List.setIfInBounds_toArray, List.set_cons_zero, List.set_cons_succ]
                        refine wpAnyH_take (i := 16) (oi := { dst := some 190, op := Op.fieldAddr 29 (Operand.tmp 189) 0, type := 0, pos := "law.go:148", after := #[{ on := 15, ground := Ground.data }, { on := 11, ground := Ground.guard }], guard := some (11, false) }) (v := .pointer (some ⟨b, off + i * 4, none⟩)) rfl (by kernel_rfl) (by kernel_rfl) (by kernel_rfl) (fun _ _ _ h => h) (Or.inl ⟨by rfl, ?_⟩) s2 ?_
                        · rintro w ⟨⟨d0, d1, d2, d3⟩, f0, f1, f2, f3⟩
                          go_simp
                        simp only [Act.put, List.setIfInBounds_toArray, List.set_cons_zero, List.set_cons_succ]
                        refine wpAnyH_take (i := 17) (oi := { dst := some 191, op := Op.load 26 (Operand.tmp 190), type := 26, pos := "law.go:148", after := #[{ on := 16, ground := Ground.data }, { on := 11, ground := Ground.guard }], guard := some (11, false) }) (v := .slice ka e.key.length kc) rfl (by kernel_rfl) (by kernel_rfl) (by kernel_rfl) (fun _ _ _ h => h) (Or.inl ⟨by rfl, ?_⟩) s2 ?_
                        · rintro w ⟨⟨d0, d1, d2, d3⟩, f0, f1, f2, f3⟩
                          go_simp
                        simp only [Act.put, List.setIfInBounds_toArray, List.set_cons_zero, List.set_cons_succ]
                        refine wpAnyH_take (i := 18) (oi := { dst := some 192, op := Op.move (Operand.tmp 14), type := 33, pos := "law.go:148", after := #[{ on := 11, ground := Ground.guard }], guard := some (11, false) }) (v := .slice (some ⟨b, off, none⟩) R.length cp1) rfl (by kernel_rfl) (by kernel_rfl) (by kernel_rfl) (fun _ _ _ h => h) (Or.inl ⟨by rfl, ?_⟩) s2 ?_
                        · rintro w ⟨⟨d0, d1, d2, d3⟩, f0, f1, f2, f3⟩
                          go_simp
                        simp only [Act.put, List.setIfInBounds_toArray, List.set_cons_zero, List.set_cons_succ]
                        refine wpAnyH_take (i := 19) (oi := { dst := some 193, op := Op.move (Operand.tmp 15), type := 3, pos := "law.go:148", after := #[{ on := 11, ground := Ground.guard }], guard := some (11, false) }) (v := .int .i64 (i : Nat)) rfl (by kernel_rfl) (by kernel_rfl) (by kernel_rfl) (fun _ _ _ h => h) (Or.inl ⟨by rfl, ?_⟩) s2 ?_
                        · rintro w ⟨⟨d0, d1, d2, d3⟩, f0, f1, f2, f3⟩
                          go_simp
                        simp only [Act.put, List.setIfInBounds_toArray, List.set_cons_zero, List.set_cons_succ]
                        refine wpAnyH_take (i := 20) (oi := { dst := some 194, op := Op.indexAddr 33 (Operand.tmp 192) (Operand.tmp 193), type := 0, pos := "law.go:148", after := #[{ on := 18, ground := Ground.data }, { on := 19, ground := Ground.data }, { on := 11, ground := Ground.guard }], guard := some (11, false) }) (v := .pointer (some ⟨b, off + i * 4, none⟩)) rfl (by kernel_rfl) (by kernel_rfl) (by kernel_rfl) (fun _ _ _ h => h) (Or.inl ⟨by rfl, ?_⟩) s2 ?_
                        · rintro w ⟨⟨d0, d1, d2, d3⟩, f0, f1, f2, f3⟩
                          go_simp
                        simp only [Act.put, List.setIfInBounds_toArray, List.set_cons_zero, List.set_cons_succ]
                        refine wpAnyH_take (i := 21) (oi := { dst := some 195, op := Op.fieldAddr 29 (Operand.tmp 194) 1, type := 0, pos := "law.go:148", after := #[{ on := 20, ground := Ground.data }, { on := 11, ground := Ground.guard }], guard := some (11, false) }) (v := .pointer (some ⟨b, off + i * 4 + 1, none⟩)) rfl (by kernel_rfl) (by kernel_rfl) (by kernel_rfl) (fun _ _ _ h => h) (Or.inl ⟨by rfl, ?_⟩) s2 ?_
                        · rintro w ⟨⟨d0, d1, d2, d3⟩, f0, f1, f2, f3⟩
                          go_simp
                        simp only [Act.put, List.setIfInBounds_toArray, List.set_cons_zero, List.set_cons_succ]
                        refine wpAnyH_take (i := 22) (oi := { dst := some 196, op := Op.load 27 (Operand.tmp 195), type := 27, pos := "law.go:148", after := #[{ on := 21, ground := Ground.data }, { on := 11, ground := Ground.guard }], guard := some (11, false) }) (v := .int .u64 (e.seq : Nat)) rfl (by kernel_rfl) (by kernel_rfl) (by kernel_rfl) (fun _ _ _ h => h) (Or.inl ⟨by rfl, ?_⟩) s2 ?_
                        · rintro w ⟨⟨d0, d1, d2, d3⟩, f0, f1, f2, f3⟩
                          go_simp
                        simp only [Act.put, List.setIfInBounds_toArray, List.set_cons_zero, List.set_cons_succ]
                        refine wpAnyH_take (i := 24) (oi := { dst := some 198, op := Op.move (Operand.tmp 14), type := 33, pos := "law.go:148", after := #[{ on := 11, ground := Ground.guard }], guard := some (11, false) }) (v := .slice (some ⟨b, off, none⟩) R.length cp1) rfl (by kernel_rfl) (by kernel_rfl) (by kernel_rfl) (fun _ _ _ h => h) (Or.inl ⟨by rfl, ?_⟩) s2 ?_
                        · rintro w ⟨⟨d0, d1, d2, d3⟩, f0, f1, f2, f3⟩
                          go_simp
                        simp only [Act.put, List.setIfInBounds_toArray, List.set_cons_zero, List.set_cons_succ]
                        refine wpAnyH_take (i := 25) (oi := { dst := some 199, op := Op.call { callee := Callee.builtin Builtin.len, args := #[Operand.tmp 198], argTypes := #[33] }, type := 3, pos := "law.go:148", after := #[{ on := 24, ground := Ground.data }, { on := 11, ground := Ground.guard }], guard := some (11, false) }) (v := .int .i64 (R.length : Nat)) rfl (by kernel_rfl) (by kernel_rfl) (by kernel_rfl) (fun _ _ _ h => h) (Or.inl ⟨by rfl, ?_⟩) s2 ?_
                        · rintro w ⟨⟨d0, d1, d2, d3⟩, f0, f1, f2, f3⟩
                          go_simp
                        simp only [Act.put, List.setIfInBounds_toArray, List.set_cons_zero, List.set_cons_succ]
                        refine wpAnyH_take (i := 26) (oi := { dst := some 200, op := Op.binOp BinOp.add 3 (Operand.tmp 199) (Operand.const (Value.int IntKind.i64 12)) 3, type := 3, pos := "law.go:148", after := #[{ on := 25, ground := Ground.data }, { on := 11, ground := Ground.guard }], guard := some (11, false) }) (v := .int .i64 ((R.length : Int) + 12)) rfl (by kernel_rfl) (by kernel_rfl) (by kernel_rfl) (fun _ _ _ h => h) (Or.inl ⟨by rfl, ?_⟩) s2 ?_
                        · rintro w ⟨⟨d0, d1, d2, d3⟩, f0, f1, f2, f3⟩
                          go_simp
                          rw [wrap12 _ hRl]
                        simp only [Act.put, List.setIfInBounds_toArray, List.set_cons_zero, List.set_cons_succ]
                        refine wpAnyH_ready (rs := [23]) (by kernel_rfl) (by simp) ?_
                        refine AllReadyH.cons rfl (fun K hK => ?_) AllReadyH.nil
                        obtain ⟨st, hst, ST⟩ := (TL.out.quiet T5.out).steps1 (K1.out.quiet T5.out) (by go_light; have := HU.out.1; have := HNN.out; omega)
                        have ST := hide ST
                        have hs2 : ¬ ((R.length : Int) + 12) < (st : Int) := by go_light; have := HNN.out; omega
                        have hs3 : ((R.length : Int) + 12 < (st : Int)) = False := eq_false hs2
                        go_simp
                        go_at_call 26
                        refine ST.out.mono ?_
                        rintro o w6 ⟨rfl, t6⟩
                        dsimp only
                        have T6 := hide (T5.out.trans t6)
                        clear t6
                        have s3 := SK.out w6 T6.out
                        refine hK.out _ _ s3 (fun _ => ?_)
                        clear hK K
                        refine wpAnyH_take (i := 27) (oi := { dst := some 201, op := Op.binOp BinOp.gtr 3 (Operand.tmp 197) (Operand.tmp 200) 3, type := 4, pos := "law.go:148", after := #[{ on := 23, ground := Ground.data }, { on := 26, ground := Ground.data }, { on := 11, ground := Ground.guard }], guard := some (11, false) }) (v := .bool false) rfl (by kernel_rfl) (by kernel_rfl) (by kernel_rfl) (fun _ _ _ h => h) (Or.inl ⟨by rfl, ?_⟩) s3 ?_
                        · rintro w ⟨⟨d0, d1, d2, d3⟩, f0, f1, f2, f3⟩
                          go_simp
                        simp only [Act.put, List.setIfInBounds_toArray, List.set_cons_zero, List.set_cons_succ]
                        refine wpAnyH_take (i := 28) (oi := { dst := some 202, op := Op.pick (Operand.tmp 185) (Operand.const (Value.bool true)) (Operand.tmp 201), type := 4, pos := "law.go:148", after := #[{ on := 11, ground := Ground.data }, { on := 27, ground := Ground.data }], guard := none }) (v := .bool false) rfl (by kernel_rfl) (by kernel_rfl) (by kernel_rfl) (fun _ _ _ h => h) (Or.inl ⟨by rfl, ?_⟩) s3 ?_
                        · rintro w ⟨⟨d0, d1, d2, d3⟩, f0, f1, f2, f3⟩
                          go_simp
                        simp only [Act.put, List.setIfInBounds_toArray, List.set_cons_zero, List.set_cons_succ]
                        refine wpAnyH_done (by kernel_rfl) ?_ _
                        go_wp2_with fail
                        go_meet
                        exact ⟨rfl, T6.out⟩
                      case rest =>
                        obtain ⟨rfl, t3⟩ := hcut
                        have TL := hide (TL.out.quiet t3)
                        have EL := hide (EL.out.quiet t3)
                        clear t3 c0 c1 c2 c3 K1 K2 G1 G2 BX
                        go_wp2_with fail
                        go_roundw
                        case rel => exact ⟨i + 1, by go_num, by omega, TL.out, EL.out⟩
                        case measure => simp [intOf]; omega
                · have j1 : ¬ (i : Int) < (R.length : Nat) := by omega
                  clear hi hi2
                  go_wp2_with fail
                  go_ret
                  exact ⟨rfl, TL.out.bel⟩
            · rw [show ((i + 1 : Nat) : Int) - 1 = (i : Int) by omega]
              have j0 : (0 : Int) ≤ (i : Int) := by omega
              have j1 : (i : Int) < (R.length : Nat) := by omega
              have hiR : i < R.length := by omega
              have HDR := hide (List.drop_eq_getElem_cons hiR)
              have HMR := hide (TOOK.out.mem R[i] (List.getElem_mem hiR))
              have tt := Turns.of_below (show Below w.heap.size w wr by rw [HB.out]; exact TWO2.out.bel) (fun _ => False)
              obtain ⟨k1, k2⟩ := (HL.out.quiet tt).bytes HMR.out.1
              obtain ⟨g, cc, hv, q0, q1, q2, q3⟩ := TWO2.out.row.at_ (List.getElem?_eq_getElem hiR)
              obtain ⟨rfl, rfl⟩ : rb = some ⟨g, 0, none⟩ ∧ rc = cc := by cases hv; exact ⟨rfl, rfl⟩
              have HSM := hide (smol_of HMR.out.1 HWL.out)
              have HFIT := hide (HF.out R[i] HMR.out.1)
              have HAT := hide (back_at TOOK.out TELL.out TWO2.out.sorted2 HDR.out)
              obtain ⟨hbl, hbs⟩ := back_bounds TOOK.out hkn HWL.out TELL.out
              have HBW := hide (show Ints wr ba bn from fun j hj => by
                obtain ⟨b, off, z, h1, h2⟩ := HBI.out j hj
                exact ⟨b, off, z, h1, tt.cell h2 (fun x => x)⟩)
              generalize R[i] = x at *
              obtain ⟨xb, ka, kc, va, vc, e, xh⟩ := x
              have c0 : wr.cell? ⟨g, i * 4, none⟩ = some (.slice ka e.key.length kc) := q0
              have c1 : wr.cell? ⟨g, i * 4 + 1, none⟩ = some (.int .u64 (e.seq : Nat)) := q1
              have c2 : wr.cell? ⟨g, i * 4 + 2, none⟩ = some (.int .i64 e.kind) := q2
              have c3 : wr.cell? ⟨g, i * 4 + 3, none⟩ = some (.slice va e.val.length vc) := q3
              have K1 := hide (show Bytes wr (.slice ka e.key.length kc) e.key from k1)
              have K2 := hide (show Bytes wr (.slice va e.val.length vc) e.val from k2)
              clear q0 q1 q2 q3 k1 k2 tt hv
              by_cases hka : i < bn
              · have i4 : (i : Int) < bn := by omega
                obtain ⟨b', off', z', rfl, hz'⟩ := HBW.out i hka
                go_wp2_with (go_at_call 32; refine (pick_any z' _).mono ?_; rintro e' w5 ⟨p, hp, rfl, rfl⟩)
                have I6 := TWO2.out.ins2_ok (ka := ka) (va := va) (kc := kc) (vc := vc) (e := e) K1.out K2.out HFIT.out.1 HSM.out (by omega) (by omega) HMR.out.2 HAT.out (1 + p) (by omega) (by omega)
                rw [show ((1 + p : Nat) : Int) = 1 + (p : Int) from by omega] at I6
                have I6 := hide I6
                refine I6.out.mono ?_
                rintro o w6 ⟨rfl, z, hz, h6⟩
                have T6 := hide h6
                have TE6 := hide (TELL.out.ins2 _ (place_le (e.key, e.seq) us) ⟨xb, ka, kc, va, vc, e, xh⟩ z hz)
                clear h6 I6 hz
                go_wp2_with fail
                go_roundw
                case rel => exact ⟨i, _, by go_num, by omega, T6.out, by rw [HDR.out]; exact TE6.out⟩
                case measure => simp [intOf]
              · have i4 : ¬ (i : Int) < bn := by omega
                go_wp2_with fail
                have I6 := hide (TWO2.out.ins2_ok (ka := ka) (va := va) (kc := kc) (vc := vc) (e := e) K1.out K2.out HFIT.out.1 HSM.out (by omega) (by omega) HMR.out.2 HAT.out 1 (by omega) (by omega))
                refine I6.out.mono ?_
                rintro o w6 ⟨rfl, z, hz, h6⟩
                have T6 := hide h6
                have TE6 := hide (TELL.out.ins2 _ (place_le (e.key, e.seq) us) ⟨xb, ka, kc, va, vc, e, xh⟩ z hz)
                clear h6 I6 hz
                go_wp2_with fail
                go_roundw
                case rel => exact ⟨i, _, by go_num, by omega, T6.out, by rw [HDR.out]; exact TE6.out⟩
                case measure => simp [intOf]
    · have i2 : (20000 : Int) < (weigh l : Nat) := by omega
      clear hw
      go_wp2_with (go_at_call 31; refine WG.out.mono ?_; rintro e w2 ⟨rfl, t2⟩)
      go_ret
      exact ⟨rfl, BB1.out.trans (t2.below hsz1 fun _ x => x.elim)⟩
  · have i0 : (120 : Int) < ln := by omega
    go_wp2_with fail
    go_ret
    exact ⟨rfl, BB1.out⟩
end Go.Proofs.Ytkeglaplckfllaa
