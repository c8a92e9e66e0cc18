/-
  Seek.
-/
import Derived.Test.YtolaaodhnhdadaaE1
namespace Go.Proofs.Ytolaaodhnhdadaa
open Go.RowKit
set_option maxRecDepth 100000
set_option maxHeartbeats 8000000
section
variable {P : Program}
theorem results_cell_tmp2 {fn : Func} {j k p : Tmp} {ty : TypeId} (h : fn.results = #[.cell p ty, .tmp j, .tmp k]) (tmps : Array Value) (w : World) (u v : Value) (g : Nat) (t : TypeId) (cs : Array Value) (fr : Nat × Nat) (d : TypeDesc)
    (hu' : tmps.getD j undef = u) (hv' : tmps.getD k undef = v) (hp : tmps.getD p undef = .pointer (some ⟨g, 0, none⟩)) (hg : w.heap[g]? = some (.cells cs t fr))
    (hu : P.underlying ty = some d) (hd : (match d with | .struct _ | .array _ _ => true | _ => false) = true) (hi : (P.info? ty).map (·.size) = some cs.size) :
    (results fn tmps).run P w = .ok (.tuple #[.agg cs, u, v]) w := by
  have hp' : tmps[p]?.getD undef = .pointer (some ⟨g, 0, none⟩) := by simpa using hp
  have hw' : tmps[j]?.getD undef = u := by simpa using hu'
  have hx' : tmps[k]?.getD undef = v := by simpa using hv'
  simp [results, h, hp', hw', hx', asAddr, run_loadVar_row w g t ty cs fr d hg hu hd hi]
end
/-- What Seek answers. -/
def SeekOk (es : List Ent) (K : Nat) (e : Ending) (w' : World) : Prop :=
  ∃ lo looks : Nat, looks ≤ cl ((es.length - 1) / 16 + 1) ∧ (lo = 0 ∨ 16 * lo < K) ∧ (lo = (es.length - 1) / 16 ∨ K ≤ 16 * (lo + 1)) ∧
    ((∃ x : Tow, es[K]? = some x.e ∧ e = .returned (.tuple #[.agg #[x.kv, .int .u64 (x.e.seq : Nat), .int .i64 x.e.kind, x.vv], .int .i64 ((looks + (K - 16 * lo + 1) : Nat) : Int), .int .i64 0]) ∧ Bytes w' x.kv x.e.key ∧ Bytes w' x.vv x.e.val) ∨
     (K = es.length ∧ ∃ rd : Nat, e = .returned (.tuple #[.agg #[.slice none 0 0, .int .u64 0, .int .i64 0, .slice none 0 0], .int .i64 (rd : Nat), .int .i64 6])))
theorem info28s : (Try.prog.info? 28).map (·.size) = some 4 := by kernel_rfl
theorem seek_any (a : Option Addr) (n c : Nat) (p : List (BitVec 8)) (ka : Option Addr) (kn kc : Nat) (key : List (BitVec 8)) (seq : Nat) (w : World) (h : Bytes w (.slice a n c) p) (hnc : n ≤ c) (hn : n ≤ 40000) (hkey : Bytes w (.slice ka kn kc) key) (es : List Ent) (hp : parseK p = some es) (K : Nat) (hKl : K ≤ es.length) (hK : ∀ j e, es[j]? = some e → (cmpE e.en (key, seq) < 0 ↔ j < K)) :
    Calls Try.prog 18 #[.slice a n c, .slice ka kn kc, .int .u64 (seq : Nat)] w fun e w' => SeekOk es K e w' ∧ Below w.heap.size w w' := by
  have hes : es ≠ [] := (blk_sound hp).1.ne
  have hlen : es.length ≤ 100000 := by
    have h1 := (blk_sound hp).2
    have h2 := blkB_len es
    have h3 := rowB_ge es 0 []
    rw [← h1, ← h.len] at h2
    omega
  have b0 := (Below.refl w.heap.size w).alloc (Nat.le_refl _) (.cells #[.slice none 0 0, .int .u64 0, .int .i64 0, .slice none 0 0] 28)
  have n0 := heap_alloc_new w (.cells #[.slice none 0 0, .int .u64 0, .int .i64 0, .slice none 0 0] 28)
  have HQ := hide (parse_any a n c p _ (h.below b0) hnc hn)
  have HK0 := hide (hkey.below b0)
  have B0 := hide b0
  have N0 := hide n0
  have HP := hide hp
  have HK := hide hK
  clear h hkey b0 n0 hp hK
  go_enter Try.func18, Try.ntmps18
  go_wp2_with fail
  generalize w.alloc (.cells #[.slice none 0 0, .int .u64 0, .int .i64 0, .slice none 0 0] 28) = w0 at *
  refine HQ.out.mono ?_
  rintro e w1 ⟨hP, b1⟩
  clear HQ
  rcases hP with ⟨hk, _⟩ | ⟨es', ea, ec, rv, R, hk, he, rfl, hE, hS⟩
  · rw [HP.out] at hk; cases hk
  · rw [HP.out] at hk
    obtain rfl : es = es' := Option.some.inj hk
    have hRl : R.length = es.length := by rw [← he]; simp [ents]
    have hRn : R.length ≤ 100000 := by go_light; omega
    have hR0 : 0 < R.length := by
      rcases Nat.eq_zero_or_pos R.length with q | q
      · exact absurd (List.eq_nil_of_length_eq_zero (hRl ▸ q)) hes
      · exact q
    have hsz1 := b1.size
    have hRE := ents_of hE hS
    have hKR : ∀ j x, R[j]? = some x → (cmpE x.e.en (key, seq) < 0 ↔ j < K) := fun j x hx => HK.out j x.e (by rw [← he]; simp [ents, hx])
    have ba := (Below.refl w1.heap.size w1).alloc (Nat.le_refl _) (.cells #[.slice ea R.length ec, .slice ka kn kc, .int .u64 (seq : Nat), .int .i64 0, .slice none 0 0, .int .i64 0] 60)
    have HSB := hide (show SB _ w1.heap.size ea R.length ec ka kn kc seq 0 from heap_alloc_new w1 _)
    have ta := Turns.of_below ba (fun _ => False)
    have HE2 := hide (hRE.quiet ta)
    have HK2 := hide (Bytes.quiet (HK0.out.below b1) ta)
    have hsw : (w1.alloc (.cells #[.slice ea R.length ec, .slice ka kn kc, .int .u64 (seq : Nat), .int .i64 0, .slice none 0 0, .int .i64 0] 60)).heap.size = w1.heap.size + 1 := by simp
    have HSW := hide hsw
    have hEb : ∀ u, Turns (fun j => j = w1.heap.size) (w1.alloc (.cells #[.slice ea R.length ec, .slice ka kn kc, .int .u64 (seq : Nat), .int .i64 0, .slice none 0 0, .int .i64 0] 60)) u → Ents u ea R ∧ Bytes u (.slice ka kn kc) key := fun u t => by
      have t2 : Turns (fun _ => False) w1 u := ta.andThen t fun j hj e => by go_light; omega
      exact ⟨hRE.quiet t2, Bytes.quiet (HK0.out.below b1) t2⟩
    have HEB := hide hEb
    have N1 := hide (ta.heap (heap_keep b1 N0.out) (fun x => x))
    have HB1 := hide (B0.out.trans ((b1.mono B0.out.size).trans (ba.mono (by go_light; have := B0.out.size; omega))))
    have HRE := hide hE
    have HRS := hide hS
    have hw0 : w.heap.size < w1.heap.size := by go_light; have := lt_of_heap N0.out; omega
    have HEE := hide he
    have HRl := hide hRl
    clear hk b1 hE hS hRE ba ta hsw hEb hRl he
    go_wp2_with fail
    generalize w1.alloc (.cells #[.slice ea R.length ec, .slice ka kn kc, .int .u64 (seq : Nat), .int .i64 0, .slice none 0 0, .int .i64 0] 60) = W at *
    generalize w1.heap.size = sb at *
    generalize hG : w.heap.size = G at *
    have HG := hide hG
    clear hG
    refine (halve_any sb ea R.length ec ka kn kc seq R key W HSB.out rfl hRn hR0 K hKR HEB.out).mono ?_
    rintro e w2 ⟨lo, looks, rfl, hS2, hlk, hlo, hlon, hlk2, t2⟩
    have HS2 := hide hS2
    have HT2 := hide t2
    have HLK := hide hlk
    have HLO := hide hlo
    have HLK2 := hide hlk2
    have hlooks : looks ≤ 100000 := by go_light; have := cl_le ((R.length - 1) / 16 + 1); omega
    have hloK : 16 * lo ≤ K := by go_light; rcases hlo with q | q <;> omega
    have HKR := hide hKR
    clear hS2 t2 hlk hlo hlk2 hKR HSB
    have hli : (lo : Int) ≤ 100000 := by go_light; omega
    have hRi : (R.length : Int) ≤ 100000 := by go_light; omega
    generalize hRL : R.length = RL at *
    have HRL := hide hRL
    clear hRL
    go_wp2_with fail
    go_loopw [12] (fun v12 wr => ∃ i : Nat, v12 = .int .i64 (i : Nat) ∧ 16 * lo ≤ i ∧ i ≤ K ∧ SB wr sb ea RL ec ka kn kc seq (looks + (i - 16 * lo)) ∧ Turns (fun j => j = sb) W wr) (fun v12 _ => RL + 1 - (intOf v12).toNat)
    case atStart => exact ⟨16 * lo, by go_num, Nat.le_refl _, hloK, by rw [Nat.sub_self, Nat.add_zero]; exact HS2.out, HT2.out⟩
    case round =>
      obtain ⟨i, rfl, hi1, hi2, hSB, hT⟩ := hrel
      have HSBr := hide hSB
      have HTr := hide hT
      have hnG : ¬ G = sb := by go_light; omega
      have N5 := hide (hT.heap N1.out hnG)
      clear hSB hT
      by_cases hil : i < RL
      · have hil' : (i : Int) < (RL : Int) := by go_light; omega
        have hiR : i < R.length := by rw [HRL.out]; exact hil
        have HAH := hide (isAhead_any sb ea RL ec ka kn kc seq (looks + (i - 16 * lo)) R key wr HSBr.out HRL.out.symm i R[i] (List.getElem?_eq_getElem hiR) (by go_light; omega) (fun u t => HEB.out u (HTr.out.trans t)))
        have hdec : decide (cmpE R[i].e.en (key, seq) < 0) = decide (i < K) := decide_eq_decide.2 (HKR.out i R[i] (List.getElem?_eq_getElem hiR))
        rw [hdec] at HAH
        clear hdec
        by_cases hiK : i < K
        · go_wp2_with fail
          refine HAH.out.mono ?_
          rintro e w5 ⟨rfl, hS5, t5⟩
          rw [decide_eq_true hiK]
          have HS5 := hide hS5
          have HT5 := hide (HTr.out.trans t5)
          clear hS5 t5 HAH
          go_wp2_with fail
          go_roundw
          case rel =>
            go_light
            exact ⟨i + 1, by go_num, by omega, by omega, by rw [show looks + (i + 1 - 16 * lo) = looks + (i - 16 * lo) + 1 by omega]; exact HS5.out, HT5.out⟩
          case measure => go_light; simp [intOf]; omega
        · have HIE := hide (show i = K by go_light; omega)
          go_wp2_with fail
          refine HAH.out.mono ?_
          rintro e w5 ⟨rfl, hS5, t5⟩
          rw [decide_eq_false hiK]
          have HS5 := hide hS5
          have hT5 := HTr.out.trans t5
          have HT5 := hide hT5
          have N6 := hide (t5.heap N5.out hnG)
          obtain ⟨⟨b', off, hea, hc⟩, k1, k2⟩ := (HEB.out w5 hT5).1 i R[i] (List.getElem?_eq_getElem hiR)
          subst hea
          have HX := hide (show es[K]? = some R[i].e by rw [← HEE.out, ← HIE.out]; simp [ents, hiR])
          have HSX := hide ((HRS.out R[i] (List.getElem_mem hiR)).2.2)
          generalize R[i] = x at *
          have HK1 := hide k1
          have HK2' := hide k2
          have d5 : w5.cell? ⟨sb, 5, none⟩ = some (.int .i64 ((looks + (i - 16 * lo) + 1 : Nat) : Int)) := cell_of_row w5 sb 5 _ 60 (0, 0) hS5
          obtain ⟨xa, xc, va, vc, e⟩ := x
          simp only [Tow.kv, Tow.vv] at HK1 HK2'
          have f0 : w5.cell? ⟨b', off + i * 4, none⟩ = some (.slice xa e.key.length xc) := hc 0 _ rfl
          have f1 : w5.cell? ⟨b', off + i * 4 + 1, none⟩ = some (.int .u64 (e.seq : Nat)) := hc 1 _ rfl
          have f2 : w5.cell? ⟨b', off + i * 4 + 2, none⟩ = some (.int .i64 e.kind) := hc 2 _ rfl
          have f3 : w5.cell? ⟨b', off + i * 4 + 3, none⟩ = some (.slice va e.val.length vc) := hc 3 _ rfl
          have y0 := cell_of_row w5 G 0 _ 28 (0, 0) N6.out
          have y1 := cell_of_row w5 G 1 _ 28 (0, 0) N6.out
          have y2 := cell_of_row w5 G 2 _ 28 (0, 0) N6.out
          have y3 := cell_of_row w5 G 3 _ 28 (0, 0) N6.out
          simp at y0 y1 y2 y3
          have z0 := frozen_of_row w5 G 0 _ 28 N6.out
          have z1 := frozen_of_row w5 G 1 _ 28 N6.out
          have z2 := frozen_of_row w5 G 2 _ 28 N6.out
          have z3 := frozen_of_row w5 G 3 _ 28 N6.out
          have i0 : (0 : Int) ≤ (i : Int) := by go_light; omega
          have hbG : ¬ b' = G := by
            go_light
            rcases HRE.out with ⟨q, _⟩ | ⟨gg, cc, nn, e', _, _, q, _⟩
            · rw [q] at hiR; simp at hiR
            · have h1 := lt_of_heap N0.out
              cases e'
              omega
          have hsG : ¬ sb = G := by go_light; omega
          clear hS5 t5 HAH hc k1 k2 hT5
          generalize hRD : looks + (i - 16 * lo) + 1 = RD at *
          have HRD := hide hRD
          clear hRD
          go_wp2_with fail
          go_region_held (fun w' => (w'.cell? ⟨b', off + i * 4, none⟩ = some (.slice xa e.key.length xc) ∧ w'.cell? ⟨b', off + i * 4 + 1, none⟩ = some (.int .u64 (e.seq : Nat)) ∧ w'.cell? ⟨b', off + i * 4 + 2, none⟩ = some (.int .i64 e.kind) ∧ w'.cell? ⟨b', off + i * 4 + 3, none⟩ = some (.slice va e.val.length vc)) ∧ w'.cell? ⟨sb, 5, none⟩ = some (.int .i64 (RD : Nat))) (first | (simp only [World.cell?_drew]; with_reducible exact ⟨⟨f0, f1, f2, f3⟩, d5⟩) | (exact ⟨⟨keep4 (w := w5.drew) f0 hbG _ _ _ _, keep4 (w := w5.drew) f1 hbG _ _ _ _, keep4 (w := w5.drew) f2 hbG _ _ _ _, keep4 (w := w5.drew) f3 hbG _ _ _ _⟩, keep4 (w := w5.drew) d5 hsG _ _ _ _⟩)) (fail)
          go_wp2_with fail
          go_light
          refine bodyPost_ret (v := .tuple #[.agg #[.slice xa e.key.length xc, .int .u64 (e.seq : Nat), .int .i64 e.kind, .slice va e.val.length vc], .int .i64 (RD : Nat), .int .i64 0]) ?_ rfl ?_
          · exact results_cell_tmp2 Try.results18 _ _ _ _ _ _ _ _ _ rfl rfl rfl (set4 (w := w5.drew) N6.out _ _ _ _) Try.underlying28 rfl info28s
          · have t4 := turns4 w5.drew G (.slice xa e.key.length xc) (.int .u64 (e.seq : Nat)) (.int .i64 e.kind) (.slice va e.val.length vc)
            have tw : Turns (fun j => j = sb) W w5.drew := HT5.out.drew
            refine ⟨⟨lo, looks, ?_, HLO.out, ?_, .inl ⟨⟨xa, xc, va, vc, e⟩, HX.out, ?_, ?_, ?_⟩⟩, ?_⟩
            · rw [← HRl.out]; exact HLK.out
            · rw [← HRl.out]; exact HLK2.out
            · rw [show looks + (K - 16 * lo + 1) = RD by have h1 := HRD.out; have h2 := HIE.out; omega]
              rfl
            · exact bytes_keep (w := w5.drew) HK1.out t4 (fun y hy q => by have h1 := (HSX.out y.block (.inl ⟨y, hy, rfl⟩)).1; have h2 := lt_of_heap N0.out; omega)
            · exact bytes_keep (w := w5.drew) HK2'.out t4 (fun y hy q => by have h1 := (HSX.out y.block (.inr ⟨y, hy, rfl⟩)).1; have h2 := lt_of_heap N0.out; omega)
            · rw [HG.out]
              have h1 := lt_of_heap N1.out
              have h2 := tw.size
              exact (HB1.out.trans (tw.below (B := G) (by omega) (fun k e => by omega))).trans (t4.below (B := G) (by omega) (fun k e => by omega))
      · have HKE := hide (show K = es.length by go_light; have h1 := HRl.out; omega)
        have HRl2 := hide (show ¬ (i : Int) < (RL : Int) by go_light; omega)
        have hil' : ¬ (i : Int) < (RL : Int) := HRl2.out
        have y0 := cell_of_row wr G 0 _ 28 (0, 0) N5.out
        have y1 := cell_of_row wr G 1 _ 28 (0, 0) N5.out
        have y2 := cell_of_row wr G 2 _ 28 (0, 0) N5.out
        have y3 := cell_of_row wr G 3 _ 28 (0, 0) N5.out
        simp at y0 y1 y2 y3
        have z0 := frozen_of_row wr G 0 _ 28 N5.out
        have z1 := frozen_of_row wr G 1 _ 28 N5.out
        have z2 := frozen_of_row wr G 2 _ 28 N5.out
        have z3 := frozen_of_row wr G 3 _ 28 N5.out
        have hsG : ¬ sb = G := by go_light; omega
        have d5 : wr.cell? ⟨sb, 5, none⟩ = some (.int .i64 ((looks + (i - 16 * lo) : Nat) : Int)) := cell_of_row wr sb 5 _ 60 (0, 0) HSBr.out
        generalize hRD : looks + (i - 16 * lo) = RD at *
        clear hRD
        go_wp2_with fail
        go_region_held (fun w' => w'.cell? ⟨sb, 5, none⟩ = some (.int .i64 (RD : Nat))) (first | (simp only [World.cell?_drew]; with_reducible exact d5) | (exact keep4 (w := wr.drew) d5 hsG _ _ _ _)) (fail)
        go_wp2_with fail
        go_light
        refine bodyPost_ret (v := .tuple #[.agg #[.slice none 0 0, .int .u64 0, .int .i64 0, .slice none 0 0], .int .i64 (RD : Nat), .int .i64 6]) ?_ rfl ?_
        · exact results_cell_tmp2 Try.results18 _ _ _ _ _ _ _ _ _ rfl rfl rfl (set4 (w := wr.drew) N5.out _ _ _ _) Try.underlying28 rfl info28s
        · have t4 := turns4 wr.drew G (.slice none 0 0) (.int .u64 0) (.int .i64 0) (.slice none 0 0)
          have tw : Turns (fun j => j = sb) W wr.drew := HTr.out.drew
          refine ⟨⟨lo, looks, ?_, HLO.out, ?_, .inr ⟨HKE.out, RD, rfl⟩⟩, ?_⟩
          · rw [← HRl.out]; exact HLK.out
          · rw [← HRl.out]; exact HLK2.out
          · rw [HG.out]
            have h1 := lt_of_heap N1.out
            have h2 := tw.size
            exact (HB1.out.trans (tw.below (B := G) (by omega) (fun k e => by omega))).trans (t4.below (B := G) (by omega) (fun k e => by omega))
end Go.Proofs.Ytolaaodhnhdadaa
