/-
  Rows of entries: are they the same? how much do they weigh?
-/
import Derived.Test.YtjnpendihdlgnaaOpE
import Derived.Test.YtjnpendihdlgnaaNo
namespace Go.Proofs.Ytjnpendihdlgnaa
open Go.RowKit
set_option maxRecDepth 100000
set_option maxHeartbeats 4000000
theorem Ents.quiet {w w' : World} {a : Option Addr} {l : List Tow} (h : Ents w a l) (t : Turns (fun _ => False) w w') : Ents w' a l := fun k x hx => by
  obtain ⟨⟨b, off, h1, h2⟩, h3, h4⟩ := h k x hx
  exact ⟨⟨b, off, h1, fun j u hu => t.cell (h2 j u hu) (fun x => x)⟩, h3.quiet t, h4.quiet t⟩
theorem entries_same (a a' : Option Addr) (n c c' : Nat) (l l' : List Tow) (w : World) (h : Ents w a l) (h' : Ents w a' l') (he : l.map (·.e) = l'.map (·.e)) (hn : n = l.length) (hmx : n ≤ 1000000) (hb : ∀ x, x ∈ l → x.e.key.length ≤ 1000000 ∧ x.e.val.length ≤ 1000000) :
    Calls Try.prog 19 #[.slice a n c, .slice a' n c'] w fun e w' => e = .returned (.bool true) ∧ Below w.heap.size w w' := by
  have hl' : n = l'.length := by
    have := congrArg List.length he
    simp only [List.length_map] at this
    omega
  have HE := hide he
  have HL := hide hn
  have HL' := hide hl'
  have HA := hide h
  have HA' := hide h'
  have HBO := hide hb
  generalize hB : w.heap.size = B
  have HB := hide hB
  clear he hn h h' hb hl' hB
  go_enter Try.func19, Try.ntmps19
  go_wp2_with fail
  go_loopw [5] (fun iv wr => ∃ k : Nat, iv = .int .i64 (k : Nat) ∧ k ≤ n ∧ Below B w wr) (fun iv _ => n - (intOf iv).toNat)
  case atStart => exact ⟨0, rfl, by omega, Below.refl _ _⟩
  case round =>
    obtain ⟨k, rfl, hk, hbw⟩ := hrel
    have BW := hide hbw
    by_cases hk2 : k < n
    · have i1 : (k : Int) < n := by omega
      have i0 : (0 : Int) ≤ (k : Int) := by omega
      have hkl : k < l.length := by have := HL.out; omega
      have hkl' : k < l'.length := by have := HL'.out; omega
      have tt := Turns.of_below (show Below w.heap.size w wr by rw [HB.out]; exact hbw) (fun _ => False)
      obtain ⟨⟨b, off, rfl, hc⟩, k1, k2⟩ := (HA.out.quiet tt) k l[k] (List.getElem?_eq_getElem hkl)
      obtain ⟨⟨b', off', rfl, hc'⟩, k3, k4⟩ := (HA'.out.quiet tt) k l'[k] (List.getElem?_eq_getElem hkl')
      have hee : l[k].e = l'[k].e := by
        have h1 : (l.map (·.e))[k]? = (l'.map (·.e))[k]? := by rw [HE.out]
        rw [List.getElem?_map, List.getElem?_map, List.getElem?_eq_getElem hkl, List.getElem?_eq_getElem hkl'] at h1
        simpa using h1
      have hbo := HBO.out l[k] (List.getElem_mem hkl)
      have hsz : B ≤ wr.heap.size := by have := tt.size; have := HB.out; omega
      generalize l[k] = x at *
      generalize l'[k] = x' at *
      obtain ⟨ka, kc, va, vc, e⟩ := x
      obtain ⟨ka', kc', va', vc', e'⟩ := x'
      obtain rfl : e = e' := hee
      have HS := hide (fun u => entry_same ka va ka' va' e.key.length kc e.val.length vc kc' vc' e.seq e.kind e.key e.val u)
      have c0 : wr.cell? ⟨b, off + k * 4, none⟩ = some (.slice ka e.key.length kc) := hc 0 _ rfl
      have c1 : wr.cell? ⟨b, off + k * 4 + 1, none⟩ = some (.int .u64 (e.seq : Nat)) := hc 1 _ rfl
      have c2 : wr.cell? ⟨b, off + k * 4 + 2, none⟩ = some (.int .i64 e.kind) := hc 2 _ rfl
      have c3 : wr.cell? ⟨b, off + k * 4 + 3, none⟩ = some (.slice va e.val.length vc) := hc 3 _ rfl
      have d0 : wr.cell? ⟨b', off' + k * 4, none⟩ = some (.slice ka' e.key.length kc') := hc' 0 _ rfl
      have d1 : wr.cell? ⟨b', off' + k * 4 + 1, none⟩ = some (.int .u64 (e.seq : Nat)) := hc' 1 _ rfl
      have d2 : wr.cell? ⟨b', off' + k * 4 + 2, none⟩ = some (.int .i64 e.kind) := hc' 2 _ rfl
      have d3 : wr.cell? ⟨b', off' + k * 4 + 3, none⟩ = some (.slice va' e.val.length vc') := hc' 3 _ rfl
      have K1 := hide k1
      have K2 := hide k2
      have K3 := hide k3
      have K4 := hide k4
      clear hc hc' k1 k2 k3 k4 tt hbw
      have HQ : ∀ u, Turns (fun _ => False) wr u → Calls Try.prog 23 #[.agg #[.slice ka e.key.length kc, .int .u64 (e.seq : Nat), .int .i64 e.kind, .slice va e.val.length vc], .agg #[.slice ka' e.key.length kc', .int .u64 (e.seq : Nat), .int .i64 e.kind, .slice va' e.val.length vc']] u fun x w' => x = .returned (.bool true) ∧ Below u.heap.size u w' := fun u t => HS.out u (K1.out.quiet t) (K2.out.quiet t) (K3.out.quiet t) (K4.out.quiet t) hbo.1 hbo.2
      have HQ := hide HQ
      clear HS K1 K2 K3 K4
      have HQ := hide (HQ.out wr.drew (Turns.refl _ _).drew)
      go_wp2_with fail
      go_region_held (fun w' => (w'.cell? ⟨b, off + k * 4, none⟩ = some (.slice ka e.key.length kc) ∧ w'.cell? ⟨b, off + k * 4 + 1, none⟩ = some (.int .u64 (e.seq : Nat)) ∧ w'.cell? ⟨b, off + k * 4 + 2, none⟩ = some (.int .i64 e.kind) ∧ w'.cell? ⟨b, off + k * 4 + 3, none⟩ = some (.slice va e.val.length vc)) ∧ w'.cell? ⟨b', off' + k * 4, none⟩ = some (.slice ka' e.key.length kc') ∧ w'.cell? ⟨b', off' + k * 4 + 1, none⟩ = some (.int .u64 (e.seq : Nat)) ∧ w'.cell? ⟨b', off' + k * 4 + 2, none⟩ = some (.int .i64 e.kind) ∧ w'.cell? ⟨b', off' + k * 4 + 3, none⟩ = some (.slice va' e.val.length vc')) (first | (with_reducible exact ⟨⟨f0, f1, f2, f3⟩, g0, g1, g2, g3⟩) | (simp only [World.cell?_drew]; with_reducible exact ⟨⟨c0, c1, c2, c3⟩, d0, d1, d2, d3⟩)) (first
        | (go_at_call 23; refine HQ.out.mono ?_; rintro x w2 ⟨rfl, b2⟩; have t2 := (Turns.refl (fun _ => False) wr).drew.trans (Turns.of_below b2 (fun _ => False)); have f0 := t2.cell c0 (fun x => x); have f1 := t2.cell c1 (fun x => x); have f2 := t2.cell c2 (fun x => x); have f3 := t2.cell c3 (fun x => x); have g0 := t2.cell d0 (fun x => x); have g1 := t2.cell d1 (fun x => x); have g2 := t2.cell d2 (fun x => x); have g3 := t2.cell d3 (fun x => x); have T2 := hide t2; clear t2 b2))
      clear f0 f1 f2 f3 g0 g1 g2 g3
      go_wp2_with fail
      go_roundw
      case rel => exact ⟨k + 1, by go_num, by omega, BW.out.trans (T2.out.below hsz (fun _ h => h.elim))⟩
      case measure => simp [intOf]; omega
    · have i1 : ¬ (k : Int) < n := by omega
      clear hk hk2
      go_wp2_with fail
      go_ret
      exact ⟨rfl, BW.out⟩
/-- How many bytes entries have. -/
def weigh : List Tow → Nat
  | [] => 0
  | x :: r => x.e.key.length + x.e.val.length + weigh r
theorem weigh_snoc (x : Tow) : ∀ l : List Tow, weigh (l ++ [x]) = weigh l + (x.e.key.length + x.e.val.length)
  | [] => by simp [weigh]
  | y :: r => by
    have := weigh_snoc x r
    simp only [List.cons_append, weigh, this]
    omega
theorem weigh_mem {x : Tow} : ∀ {l : List Tow}, x ∈ l → x.e.key.length + x.e.val.length ≤ weigh l
  | y :: r, h => by
    unfold weigh
    rcases List.mem_cons.1 h with rfl | h
    · omega
    · have := weigh_mem h
      omega
theorem weigh_le {M : Nat} : ∀ l : List Tow, (∀ x, x ∈ l → x.e.key.length ≤ M ∧ x.e.val.length ≤ M) → weigh l ≤ l.length * (2 * M)
  | [], _ => Nat.zero_le _
  | y :: r, h => by
    have h1 := weigh_le r fun x hx => h x (List.mem_cons_of_mem _ hx)
    have h2 := h y (List.mem_cons_self ..)
    unfold weigh
    rw [List.length_cons, Nat.succ_mul]
    omega
theorem weigh_any (a : Option Addr) (n c : Nat) (l : List Tow) (w : World) (h : Ents w a l) (hn : n = l.length) (hmx : n ≤ 1000) (hf : ∀ x, x ∈ l → Fit x) :
    Calls Try.prog 26 #[.slice a n c] w fun e w' => e = .returned (.int .i64 (weigh l : Nat)) ∧ Turns (fun _ => False) w w' := by
  have HL := hide hn
  have HA := hide h
  have HF := hide hf
  have hW : ∀ k, weigh (l.take k) ≤ 1000 * (2 * reachBytes) := fun k => by
    have h1 := weigh_le (M := reachBytes) (l.take k) fun x hx => ⟨(hf x (List.mem_of_mem_take hx)).2.1, (hf x (List.mem_of_mem_take hx)).2.2⟩
    have h2 : (l.take k).length ≤ 1000 := by rw [List.length_take]; omega
    exact Nat.le_trans h1 (Nat.mul_le_mul_right _ h2)
  have HW := hide hW
  clear hn h hf hW
  go_enter Try.func26, Try.ntmps26
  go_wp2_with fail
  go_loopw [3, 4] (fun sv iv wr => ∃ k : Nat, sv = .int .i64 (weigh (l.take k) : Nat) ∧ iv = .int .i64 (k : Nat) ∧ k ≤ n ∧ Turns (fun _ => False) w wr) (fun _ iv _ => n - (intOf iv).toNat)
  case atStart => exact ⟨0, rfl, rfl, by omega, Turns.refl _ _⟩
  case round =>
    obtain ⟨k, rfl, rfl, hk, ht⟩ := hrel
    have TT := hide ht
    by_cases hk2 : k < n
    · have i1 : (k : Int) < n := by omega
      have i0 : (0 : Int) ≤ (k : Int) := by omega
      have hkl : k < l.length := by have := HL.out; omega
      obtain ⟨⟨b, off, rfl, hc⟩, _⟩ := (HA.out.quiet ht) k l[k] (List.getElem?_eq_getElem hkl)
      have hw1 := HW.out k
      have hw2 := HW.out (k + 1)
      have HTK := hide (List.take_succ_eq_append_getElem hkl)
      have hws : weigh (l.take (k + 1)) = weigh (l.take k) + (l[k].e.key.length + l[k].e.val.length) := by rw [HTK.out, weigh_snoc]
      rw [hws] at hw2
      have HWS := hide hws
      generalize l[k] = x at *
      obtain ⟨ka, kc, va, vc, e⟩ := x
      have c0 : wr.cell? ⟨b, off + k * 4, none⟩ = some (.slice ka e.key.length kc) := hc 0 _ rfl
      have c3 : wr.cell? ⟨b, off + k * 4 + 3, none⟩ = some (.slice va e.val.length vc) := hc 3 _ rfl
      unfold reachBytes at hw1 hw2
      clear hc ht hws
      simp only at hw2
      generalize weigh (l.take k) = W0 at *
      go_wp2_with fail
      go_quiet (fail)
      go_wp2
      go_roundw
      case rel =>
        refine ⟨k + 1, ?_, by go_num, by omega, ?_⟩
        · rw [HWS.out]
          go_num
        · first
            | exact TT.out.drew
            | exact TT.out.drewN _
      case measure => simp [intOf]; omega
    · have i1 : ¬ (k : Int) < n := by omega
      have hkn : k = n := by omega
      have HK := hide hkn
      clear hk hk2 hkn ht
      go_wp2_with fail
      go_ret
      refine ⟨?_, TT.out⟩
      rw [HK.out, HL.out, List.take_length]
      rfl
end Go.Proofs.Ytjnpendihdlgnaa
