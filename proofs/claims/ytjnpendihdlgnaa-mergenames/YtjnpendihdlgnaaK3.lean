/-
  Are two rows of entries the same?
-/
import Derived.Test.YtjnpendihdlgnaaK2
namespace Go.Proofs.Ytjnpendihdlgnaa
open Go.RowKit
set_option maxRecDepth 100000
set_option maxHeartbeats 4000000
theorem ent_eq {e e' : Ent} (h : e.seq = e'.seq ∧ e.kind = e'.kind ∧ e.key = e'.key ∧ e.val = e'.val) : e = e' := by
  obtain ⟨a, b, c, d⟩ := e
  obtain ⟨a', b', c', d'⟩ := e'
  simp only at h
  obtain ⟨rfl, rfl, rfl, rfl⟩ := h
  rfl
/-- A bool that says whether something holds. -/
def Says (e : Ending) (p : Prop) : Prop := ∃ d : Bool, e = .returned (.bool d) ∧ (d = true ↔ p)
theorem entriesEq_any (a a' : Option Addr) (n n' c c' : Nat) (l l' : List Tow) (w : World) (h : Ents w a l) (h' : Ents w a' l') (hn : n = l.length) (hn' : n' = l'.length) (hmx : n ≤ 1000000) (hb : ∀ x, x ∈ l → x.e.key.length ≤ 1000000 ∧ x.e.val.length ≤ 1000000) :
    Calls Try.prog 19 #[.slice a n c, .slice a' n' c'] w fun e w' => Says e (ents l = ents l') ∧ Below w.heap.size w w' := by
  have HL := hide hn
  have HL' := hide hn'
  have HA := hide h
  have HA' := hide h'
  have HBO := hide hb
  generalize hB : w.heap.size = B
  have HB := hide hB
  clear hn hn' h h' hb hB
  by_cases hnn : n = n'
  · subst hnn
    go_enter Try.func19, Try.ntmps19
    go_wp2_with fail
    go_loopw [5] (fun iv wr => ∃ k : Nat, iv = .int .i64 (k : Nat) ∧ k ≤ n ∧ (ents l).take k = (ents l').take k ∧ Below B w wr) (fun iv _ => n - (intOf iv).toNat)
    case atStart => exact ⟨0, rfl, by omega, rfl, Below.refl _ _⟩
    case round =>
      obtain ⟨k, rfl, hk, htk, hbw⟩ := hrel
      have BW := hide hbw
      have HTK := hide htk
      clear htk
      by_cases hk2 : k < n
      · have i1 : (k : Int) < n := by omega
        have i0 : (0 : Int) ≤ (k : Int) := by omega
        have hkl : k < l.length := by have := HL.out; omega
        have hkl' : k < l'.length := by have := HL'.out; omega
        have tt := Turns.of_below (show Below w.heap.size w wr by rw [HB.out]; exact hbw) (fun _ => False)
        obtain ⟨⟨b, off, rfl, hc⟩, k1, k2⟩ := (HA.out.quiet tt) k l[k] (List.getElem?_eq_getElem hkl)
        obtain ⟨⟨b', off', rfl, hc'⟩, k3, k4⟩ := (HA'.out.quiet tt) k l'[k] (List.getElem?_eq_getElem hkl')
        have HE1 := hide (ents_at hkl)
        have HE2 := hide (ents_at hkl')
        have hbo := HBO.out l[k] (List.getElem_mem hkl)
        have hsz : B ≤ wr.heap.size := by have := tt.size; have := HB.out; omega
        generalize l[k] = x at *
        generalize l'[k] = x' at *
        obtain ⟨ka, kc, va, vc, e⟩ := x
        obtain ⟨ka', kc', va', vc', e'⟩ := x'
        have c0 : wr.cell? ⟨b, off + k * 4, none⟩ = some (.slice ka e.key.length kc) := hc 0 _ rfl
        have c1 : wr.cell? ⟨b, off + k * 4 + 1, none⟩ = some (.int .u64 (e.seq : Nat)) := hc 1 _ rfl
        have c2 : wr.cell? ⟨b, off + k * 4 + 2, none⟩ = some (.int .i64 e.kind) := hc 2 _ rfl
        have c3 : wr.cell? ⟨b, off + k * 4 + 3, none⟩ = some (.slice va e.val.length vc) := hc 3 _ rfl
        have d0 : wr.cell? ⟨b', off' + k * 4, none⟩ = some (.slice ka' e'.key.length kc') := hc' 0 _ rfl
        have d1 : wr.cell? ⟨b', off' + k * 4 + 1, none⟩ = some (.int .u64 (e'.seq : Nat)) := hc' 1 _ rfl
        have d2 : wr.cell? ⟨b', off' + k * 4 + 2, none⟩ = some (.int .i64 e'.kind) := hc' 2 _ rfl
        have d3 : wr.cell? ⟨b', off' + k * 4 + 3, none⟩ = some (.slice va' e'.val.length vc') := hc' 3 _ rfl
        have t0 : Turns (fun _ => False) wr wr.drew := (Turns.refl _ _).drew
        have HQ := hide (entryEq_any ka va ka' va' e.key.length kc e.val.length vc e'.key.length kc' e'.val.length vc' e.seq e'.seq e.kind e'.kind e.key e.val e'.key e'.val wr.drew (Bytes.quiet k1 t0) (Bytes.quiet k2 t0) (Bytes.quiet k3 t0) (Bytes.quiet k4 t0) hbo.1 hbo.2)
        clear hc hc' k1 k2 k3 k4 tt hbw t0
        generalize hdv : decide (e.seq = e'.seq ∧ e.kind = e'.kind ∧ e.key = e'.key ∧ e.val = e'.val) = dv at *
        have HDV := hide hdv
        clear hdv
        go_wp2_with fail
        go_region_held (fun w' => (w'.cell? ⟨b, off + k * 4, none⟩ = some (.slice ka e.key.length kc) ∧ w'.cell? ⟨b, off + k * 4 + 1, none⟩ = some (.int .u64 (e.seq : Nat)) ∧ w'.cell? ⟨b, off + k * 4 + 2, none⟩ = some (.int .i64 e.kind) ∧ w'.cell? ⟨b, off + k * 4 + 3, none⟩ = some (.slice va e.val.length vc)) ∧ w'.cell? ⟨b', off' + k * 4, none⟩ = some (.slice ka' e'.key.length kc') ∧ w'.cell? ⟨b', off' + k * 4 + 1, none⟩ = some (.int .u64 (e'.seq : Nat)) ∧ w'.cell? ⟨b', off' + k * 4 + 2, none⟩ = some (.int .i64 e'.kind) ∧ w'.cell? ⟨b', off' + k * 4 + 3, none⟩ = some (.slice va' e'.val.length vc')) (first | (with_reducible exact ⟨⟨f0, f1, f2, f3⟩, g0, g1, g2, g3⟩) | (simp only [World.cell?_drew]; with_reducible exact ⟨⟨c0, c1, c2, c3⟩, d0, d1, d2, d3⟩)) (first
          | (go_at_call 23; refine HQ.out.mono ?_; rintro x w2 ⟨rfl, b2⟩; have t2 := (Turns.refl (fun _ => False) wr).drew.trans (Turns.of_below b2 (fun _ => False)); have f0 := t2.cell c0 (fun x => x); have f1 := t2.cell c1 (fun x => x); have f2 := t2.cell c2 (fun x => x); have f3 := t2.cell c3 (fun x => x); have g0 := t2.cell d0 (fun x => x); have g1 := t2.cell d1 (fun x => x); have g2 := t2.cell d2 (fun x => x); have g3 := t2.cell d3 (fun x => x); have T2 := hide t2; clear t2 b2))
        clear f0 f1 f2 f3 g0 g1 g2 g3
        cases dv
        · go_wp2_with fail
          go_ret
          go_light
          refine ⟨⟨false, rfl, ⟨(fun q => by cases q), fun q => ?_⟩⟩, BW.out.trans (T2.out.below hsz (fun _ h => h.elim))⟩
          have h1 := HE1.out
          rw [q, HE2.out] at h1
          obtain rfl : e' = e := Option.some.inj h1
          have := HDV.out
          simp at this
        · go_wp2_with fail
          go_roundw
          case rel =>
            go_light
            refine ⟨k + 1, by go_num, by omega, ?_, BW.out.trans (T2.out.below hsz (fun _ h => h.elim))⟩
            have hee : e = e' := ent_eq (of_decide_eq_true HDV.out)
            rw [List.take_add_one, List.take_add_one, HTK.out, HE1.out, HE2.out, hee]
          case measure => go_light; simp [intOf]; omega
      · have i1 : ¬ (k : Int) < n := by omega
        have hkn : k = n := by omega
        have HK := hide hkn
        clear hk hk2 hkn
        go_wp2_with fail
        go_ret
        go_light
        refine ⟨⟨true, rfl, ⟨fun _ => ?_, fun _ => rfl⟩⟩, BW.out⟩
        have h1 := HTK.out
        rwa [List.take_of_length_le (by rw [HK.out, HL.out]; simp [ents]), List.take_of_length_le (by rw [HK.out, HL'.out]; simp [ents])] at h1
  · have hnn' : ¬ (n : Int) = (n' : Int) := by omega
    have HNN := hide hnn
    clear hnn
    go_enter Try.func19, Try.ntmps19
    go_wp2_with fail
    go_ret
    go_light
    refine ⟨⟨false, rfl, ⟨(fun q => by cases q), fun q => ?_⟩⟩, by rw [← HB.out]; exact Below.refl _ _⟩
    have h1 := congrArg List.length q
    simp only [ents, List.length_map] at h1
    exact absurd (by rw [HL.out, HL'.out, h1]) HNN.out
end Go.Proofs.Ytjnpendihdlgnaa
