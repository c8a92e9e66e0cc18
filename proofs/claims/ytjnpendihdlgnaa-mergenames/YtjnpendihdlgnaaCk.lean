/-
  Check: are entries in order?
-/
import Derived.Test.YtjnpendihdlgnaaFo
namespace Go.Proofs.Ytjnpendihdlgnaa
open Go.RowKit
set_option maxRecDepth 100000
set_option maxHeartbeats 4000000
def ordE (b : Bool) : Int := if b then 0 else 2
theorem check_any (a : Option Addr) (n c : Nat) (l : List Tow) (w : World) (h : Ents w a l) (hn : n = l.length) (hmx : n ≤ 1000000) :
    Calls Try.prog 12 #[.slice a n c] w fun e w' => e = .returned (.int .i64 (ordE (inOrd (ents l)))) ∧ Below w.heap.size w w' := by
  have HL := hide hn
  have HA := hide h
  generalize hB : w.heap.size = B
  have HB := hide hB
  clear hn h hB
  go_enter Try.func12, Try.ntmps12
  go_wp2_with fail
  go_loopw [3] (fun iv wr => ∃ k : Nat, iv = .int .i64 (k : Nat) ∧ 1 ≤ k ∧ k ≤ n + 1 ∧ (∀ j x y, j + 1 < k → (ents l)[j]? = some x → (ents l)[j + 1]? = some y → cmpE x.en y.en < 0) ∧ Below B w wr) (fun iv _ => n + 1 - (intOf iv).toNat)
  case atStart => exact ⟨1, rfl, by omega, by omega, fun j x y h => by omega, Below.refl _ _⟩
  case round =>
    obtain ⟨k, rfl, hk1, hk, hord, hbw⟩ := hrel
    have BW := hide hbw
    have HO := hide hord
    clear hord
    by_cases hk2 : k < n
    · obtain ⟨p, rfl⟩ : ∃ p, k = p + 1 := ⟨k - 1, by omega⟩
      have i1 : (p : Int) + 1 < n := by omega
      have i0 : (0 : Int) ≤ (p : Int) + 1 := by omega
      have i2 : (0 : Int) ≤ (p : Int) := by omega
      have i3 : (p : Int) < n := by omega
      have i4 : IntKind.i64.wrap (p : Int) = (p : Int) := wrapI _ (by omega) (by omega)
      have hkl : p + 1 < l.length := by have := HL.out; omega
      have hpl : p < l.length := by omega
      have tt := Turns.of_below (show Below w.heap.size w wr by rw [HB.out]; exact hbw) (fun _ => False)
      obtain ⟨⟨b, off, rfl, hc⟩, k1, k2⟩ := (HA.out.quiet tt) p l[p] (List.getElem?_eq_getElem hpl)
      obtain ⟨⟨b', off', e', hc'⟩, k3, k4⟩ := (HA.out.quiet tt) (p + 1) l[p + 1] (List.getElem?_eq_getElem hkl)
      cases e'
      have HE1 := hide (ents_at hpl)
      have HE2 := hide (ents_at hkl)
      have hsz : B ≤ wr.heap.size := by have := tt.size; have := HB.out; omega
      generalize l[p] = x at *
      generalize l[p + 1] = x' at *
      obtain ⟨ka, kc, va, vc, e⟩ := x
      obtain ⟨ka', kc', va', vc', e'⟩ := x'
      have c0 : wr.cell? ⟨b, off + p * 4, none⟩ = some (.slice ka e.key.length kc) := hc 0 _ rfl
      have c1 : wr.cell? ⟨b, off + p * 4 + 1, none⟩ = some (.int .u64 (e.seq : Nat)) := hc 1 _ rfl
      have c2 : wr.cell? ⟨b, off + p * 4 + 2, none⟩ = some (.int .i64 e.kind) := hc 2 _ rfl
      have c3 : wr.cell? ⟨b, off + p * 4 + 3, none⟩ = some (.slice va e.val.length vc) := hc 3 _ rfl
      have d0 : wr.cell? ⟨b, off + (p + 1) * 4, none⟩ = some (.slice ka' e'.key.length kc') := hc' 0 _ rfl
      have d1 : wr.cell? ⟨b, off + (p + 1) * 4 + 1, none⟩ = some (.int .u64 (e'.seq : Nat)) := hc' 1 _ rfl
      have d2 : wr.cell? ⟨b, off + (p + 1) * 4 + 2, none⟩ = some (.int .i64 e'.kind) := hc' 2 _ rfl
      have d3 : wr.cell? ⟨b, off + (p + 1) * 4 + 3, none⟩ = some (.slice va' e'.val.length vc') := hc' 3 _ rfl
      have t0 : Turns (fun _ => False) wr wr.drew := (Turns.refl _ _).drew
      have HQ := hide (compare_any ka ka' va va' e.key.length kc e.val.length vc e'.key.length kc' e'.val.length vc' e.kind e'.kind e.seq e'.seq e.key e'.key wr.drew (Bytes.quiet k1 t0) (Bytes.quiet k3 t0))
      clear hc hc' k1 k2 k3 k4 tt hbw t0
      have ep : ((p + 1 : Nat) : Int) - 1 = (p : Int) := by omega
      generalize hcv : cmpE (e.key, e.seq) (e'.key, e'.seq) = cv at *
      have HCV := hide hcv
      clear hcv
      go_wp2_with fail
      go_region_held (fun w' => (w'.cell? ⟨b, off + p * 4, none⟩ = some (.slice ka e.key.length kc) ∧ w'.cell? ⟨b, off + p * 4 + 1, none⟩ = some (.int .u64 (e.seq : Nat)) ∧ w'.cell? ⟨b, off + p * 4 + 2, none⟩ = some (.int .i64 e.kind) ∧ w'.cell? ⟨b, off + p * 4 + 3, none⟩ = some (.slice va e.val.length vc)) ∧ w'.cell? ⟨b, off + (p + 1) * 4, none⟩ = some (.slice ka' e'.key.length kc') ∧ w'.cell? ⟨b, off + (p + 1) * 4 + 1, none⟩ = some (.int .u64 (e'.seq : Nat)) ∧ w'.cell? ⟨b, off + (p + 1) * 4 + 2, none⟩ = some (.int .i64 e'.kind) ∧ w'.cell? ⟨b, off + (p + 1) * 4 + 3, none⟩ = some (.slice va' e'.val.length vc')) (first | (with_reducible exact ⟨⟨f0, f1, f2, f3⟩, g0, g1, g2, g3⟩) | (simp only [World.cell?_drew]; with_reducible exact ⟨⟨c0, c1, c2, c3⟩, d0, d1, d2, d3⟩)) (first
        | (go_at_call 34; refine HQ.out.mono ?_; rintro x w2 ⟨rfl, b2⟩; have t2 := (Turns.refl (fun _ => False) wr).drew.trans (Turns.of_below b2 (fun _ => False)); have f0 := t2.cell c0 (fun x => x); have f1 := t2.cell c1 (fun x => x); have f2 := t2.cell c2 (fun x => x); have f3 := t2.cell c3 (fun x => x); have g0 := t2.cell d0 (fun x => x); have g1 := t2.cell d1 (fun x => x); have g2 := t2.cell d2 (fun x => x); have g3 := t2.cell d3 (fun x => x); have T2 := hide t2; clear t2 b2))
      clear f0 f1 f2 f3 g0 g1 g2 g3
      by_cases hlt : cv < 0
      · have hlt' : ¬ (0 : Int) ≤ cv := by omega
        go_wp2_with fail
        go_roundw
        case rel =>
          refine ⟨p + 2, by go_num, by omega, by omega, fun j x y hj hx hy => ?_, BW.out.trans (T2.out.below hsz (fun _ h => h.elim))⟩
          by_cases hjp : j = p
          · subst hjp
            have e1 : e = x := by have := HE1.out; rw [hx] at this; exact (Option.some.inj this).symm
            have e2 : e' = y := by have := HE2.out; rw [hy] at this; exact (Option.some.inj this).symm
            subst e1 e2
            show cmpE (e.key, e.seq) (e'.key, e'.seq) < 0
            rw [HCV.out]; exact hlt
          · exact HO.out j x y (by omega) hx hy
        case measure => simp [intOf]; omega
      · have hlt' : (0 : Int) ≤ cv := by omega
        go_wp2_with fail
        go_ret
        refine ⟨congrArg Ending.returned (congrArg (Value.int .i64) (Eq.symm ?_)), BW.out.trans (T2.out.below hsz (fun _ h => h.elim))⟩
        suffices hf : inOrd (ents l) = false by rw [hf]; rfl
        refine Bool.eq_false_iff.2 fun q => ?_
        have := (inOrd_iff _).1 q p e e' HE1.out HE2.out
        have h9 := HCV.out
        unfold Ent.en at this
        omega
    · have i1 : ¬ (k : Int) < n := by omega
      go_wp2_with fail
      go_ret
      refine ⟨congrArg Ending.returned (congrArg (Value.int .i64) (Eq.symm ?_)), BW.out⟩
      suffices hf : inOrd (ents l) = true by rw [hf]; rfl
      refine (inOrd_iff _).2 fun j x y hx hy => HO.out j x y ?_ hx hy
      have := (List.getElem?_eq_some_iff.1 hy).1
      have h9 := HL.out
      simp only [ents, List.length_map] at this
      omega
def eachOrd (rs : List Rw) : Bool := rs.all fun x => inOrd (ents x.R)
theorem checkEach_any (a : Option Addr) (n c : Nat) (rs : List Rw) (w : World) (h : RowsIn w a rs) (hn : n = rs.length) (hmx : n ≤ 1000000) :
    Calls Try.prog 31 #[.slice a n c] w fun e w' => e = .returned (.int .i64 (ordE (eachOrd rs))) ∧ Below w.heap.size w w' := by
  have H0 := hide h
  have HN := hide hn
  clear h hn
  go_enter Try.func31, Try.ntmps31
  go_wp2_with fail
  go_loopw [8] (fun v8 wr => ∃ i : Nat, v8 = .int .i64 (i : Nat) ∧ i ≤ n ∧ (∀ j x, j < i → rs[j]? = some x → inOrd (ents x.R) = true) ∧ Below w.heap.size w wr) (fun v8 _ => n - (intOf v8).toNat)
  case atStart => exact ⟨0, rfl, Nat.zero_le _, fun j x hj => by omega, Below.refl _ _⟩
  case round =>
    obtain ⟨i, rfl, hi, hO, hb⟩ := hrel
    have HO := hide hO
    have BW := hide hb
    have TW := hide (Turns.of_below hb (fun _ => False))
    clear hO hb
    by_cases hin : i < n
    · obtain ⟨x, hx⟩ : ∃ x, rs[i]? = some x := ⟨_, List.getElem?_eq_getElem (by have := HN.out; omega)⟩
      obtain ⟨⟨b, off, rfl, hc⟩, hok⟩ := H0.out i x hx
      have hc1 := TW.out.cell hc (fun x => x)
      have i1 : (i : Int) < n := by omega
      have i0 : (0 : Int) ≤ i := by omega
      have HX := hide hx
      have HCK := hide (check_any x.a x.R.length x.c x.R wr (hok.ents.quiet TW.out) rfl hok.size)
      clear hx hok hc
      obtain ⟨xa, xc, xR⟩ := x
      simp only at *
      generalize hxl : xR.length = xl at *
      clear hxl
      cases ho : inOrd (ents xR) with
      | true =>
        rw [ho] at HCK
        have HOX := hide ho
        clear ho
        go_wp2_with fail
        refine HCK.out.mono ?_
        rintro e w2 ⟨rfl, hb2⟩
        have B2 := hide (then_below BW.out hb2 (Nat.le_refl _))
        clear hb2
        rw [show ordE true = 0 from rfl]
        go_wp2_with fail
        go_roundw
        case rel => exact ⟨i + 1, by go_num, by omega, fun j x hj hx => by
          by_cases e : j = i
          · subst e
            have := HX.out
            rw [hx] at this
            cases this
            exact HOX.out
          · exact HO.out j x (by omega) hx, B2.out⟩
        case measure => simp [intOf]; omega
      | false =>
        rw [ho] at HCK
        have HOX := hide ho
        clear ho
        go_wp2_with fail
        refine HCK.out.mono ?_
        rintro e w2 ⟨rfl, hb2⟩
        have B2 := hide (then_below BW.out hb2 (Nat.le_refl _))
        clear hb2
        rw [show ordE false = 2 from rfl]
        have FIN := hide (show ordE (eachOrd rs) = 2 by
          have : eachOrd rs = false := by
            refine Bool.eq_false_iff.2 fun q => ?_
            have := List.all_eq_true.1 q _ (List.mem_of_getElem? HX.out)
            rw [HOX.out] at this
            cases this
          rw [this]; rfl)
        go_wp2_with fail
        go_ret
        exact ⟨by rw [FIN.out]; rfl, B2.out⟩
    · obtain rfl : i = n := by omega
      have FIN := hide (show ordE (eachOrd rs) = 0 by
        have : eachOrd rs = true := List.all_eq_true.2 fun x hx => by
          obtain ⟨j, hj⟩ := List.getElem?_of_mem hx
          exact HO.out j x (by have := (List.getElem?_eq_some_iff.1 hj).1; have := HN.out; omega) hj
        rw [this]; rfl)
      go_wp2_with fail
      go_ret
      exact ⟨by rw [FIN.out]; rfl, BW.out⟩
end Go.Proofs.Ytjnpendihdlgnaa
