import Derived.Test.YtkmcdjbadngfgaaM14
import Derived.Test.YtkmcdjbadngfgaaM09
/-
  A job.
-/
namespace Go.Proofs.Ytkmcdjbadngfgaa
open Go.RowKit
set_option maxRecDepth 100000
set_option maxHeartbeats 4000000
def loF (l : List Fl) (lo : List (BitVec 8)) : List (BitVec 8) := l.foldl (fun b f => minB f b) lo
def hiF (l : List Fl) (hi : List (BitVec 8)) : List (BitVec 8) := l.foldl (fun b f => maxB f b) hi
theorem rowset {w w' : World} {B : Nat} {a : Option Addr} {c : Nat} {R : List Tf} {U : List Fl} (h : RowOk w B a c R ∧ fls R = U ∧ ∀ y ∈ R, FT w B y) (t : Turns (fun _ => False) w w') : RowOk w' B a c R ∧ fls R = U ∧ ∀ y ∈ R, FT w' B y := ⟨h.1.keep t fun _ _ x => x, h.2.1, fun y hy => (h.2.2 y hy).quiet t⟩
theorem loF_len {M : Nat} : ∀ {l : List Fl} {lo : List (BitVec 8)}, lo.length ≤ M → (∀ f ∈ l, f.least.length ≤ M) → (loF l lo).length ≤ M
  | [], _, h, _ => h
  | f :: r, lo, h, hf => loF_len (l := r) (lo := minB f lo) (by unfold minB; split; exact hf f List.mem_cons_self; exact h) fun g hg => hf g (List.mem_cons_of_mem _ hg)
theorem hiF_len {M : Nat} : ∀ {l : List Fl} {hi : List (BitVec 8)}, hi.length ≤ M → (∀ f ∈ l, f.most.length ≤ M) → (hiF l hi).length ≤ M
  | [], _, h, _ => h
  | f :: r, hi, h, hf => hiF_len (l := r) (hi := maxB f hi) (by unfold maxB; split; exact hf f List.mem_cons_self; exact h) fun g hg => hf g (List.mem_cons_of_mem _ hg)
theorem filesF_keys {L : List Lv} {next seq log : Nat} {z : Int} : ∀ f ∈ filesF (flL L) next seq log z, f.least.length ≤ 1000000 ∧ f.most.length ≤ 1000000 := fun f hf => by
  unfold filesF at hf
  split at hf
  · next hh =>
    simp only [Bool.and_eq_true, Bool.not_eq_true'] at hh
    have hv := hh.2
    rw [← wrongV_F] at hv
    cases hk : (flL L)[z.toNat]? with
    | none => simp [List.getD, hk] at hf
    | some l =>
      simp only [List.getD, hk, Option.getD_some] at hf
      simp only [flL, List.getElem?_map, Option.map_eq_some_iff] at hk
      obtain ⟨x, hx, rfl⟩ := hk
      obtain ⟨y, hy, rfl⟩ := List.mem_map.1 hf
      have := wrongF_false (wrongV_files hv x (List.mem_of_getElem? hx) y hy)
      omega
  · simp at hf
def JobCut (w2 wc : World) (z : Nat) (U1 U2 : List Fl) (v6 : Value) : Prop := ∃ (G : Nat) (ua va : Option Addr) (uc vc : Nat) (R1 R2 : List Tf), v6 = .pointer (some ⟨G, 0, none⟩) ∧ wc.heap[G]? = some (.cells #[.int .i64 (z : Nat), .slice ua R1.length uc, .slice va R2.length vc, .slice none 0 0, .slice none 0 0, .bool false] 43 (0, 0)) ∧ w2.heap.size ≤ G ∧ (RowOk wc w2.heap.size ua uc R1 ∧ fls R1 = U1 ∧ ∀ y ∈ R1, FT wc w2.heap.size y) ∧ (RowOk wc w2.heap.size va vc R2 ∧ fls R2 = U2 ∧ ∀ y ∈ R2, FT wc w2.heap.size y) ∧ Turns (fun _ => False) w2 wc
theorem ft_ne {w w' : World} {B G : Nat} {cs : Array Value} {y : Tf} {t : TypeId} (h : FT w B y) (hg : w.heap[G]? = some (.cells cs t (0, 0))) (ht : t ≠ 5) (tr : Turns (fun j => j = G) w w') : FT w' B y := h.keep tr fun k e _ cs' z' e2 => by subst e; rw [hg] at e2; cases e2; exact ht rfl
theorem rowset_ne {w w' : World} {B G : Nat} {cs : Array Value} {t : TypeId} {a : Option Addr} {c : Nat} {R : List Tf} {U : List Fl} (h : RowOk w B a c R ∧ fls R = U ∧ ∀ y ∈ R, FT w B y) (hg : w.heap[G]? = some (.cells cs t (0, 0))) (ht : t ≠ 5) (ht2 : t ≠ 29) (tr : Turns (fun j => j = G) w w') : RowOk w' B a c R ∧ fls R = U ∧ ∀ y ∈ R, FT w' B y := ⟨h.1.keep tr fun g e => h.1.ne hg ht2 g e, h.2.1, fun y hy => ft_ne (h.2.2 y hy) hg ht tr⟩
theorem jobcut (w2 wc : World) (G z : Nat) (ua va : Option Addr) (uc vc : Nat) (R1 R2 : List Tf) (U1 U2 : List Fl) (hg : wc.heap[G]? = some (.cells #[.int .i64 0, .slice none 0 0, .slice none 0 0, .slice none 0 0, .slice none 0 0, .bool false] 43)) (hG : w2.heap.size ≤ G) (h1 : RowOk wc w2.heap.size ua uc R1 ∧ fls R1 = U1 ∧ ∀ y ∈ R1, FT wc w2.heap.size y) (h2 : RowOk wc w2.heap.size va vc R2 ∧ fls R2 = U2 ∧ ∀ y ∈ R2, FT wc w2.heap.size y) (t : Turns (fun _ => False) w2 wc) :
    JobCut w2 ((((((wc.setCell ⟨G, 0, none⟩ (.int .i64 (z : Nat))).setCell ⟨G, 1, none⟩ (.slice ua R1.length uc)).setCell ⟨G, 2, none⟩ (.slice va R2.length vc)).setCell ⟨G, 3, none⟩ (.slice none 0 0)).setCell ⟨G, 4, none⟩ (.slice none 0 0)).setCell ⟨G, 5, none⟩ (.bool false)) z U1 U2 (.pointer (some ⟨G, 0, none⟩)) := by
  have tk := ((((((Tick.refl hg).set 0 (.int .i64 (z : Nat))).set 1 (.slice ua R1.length uc)).set 2 (.slice va R2.length vc)).set 3 (.slice none 0 0)).set 4 (.slice none 0 0)).set 5 (.bool false)
  have ts := Turns.of_tick tk
  exact ⟨G, ua, va, uc, vc, R1, R2, rfl, tk.1, hG, rowset_ne h1 hg (by decide) (by decide) ts, rowset_ne h2 hg (by decide) (by decide) ts, t.andThen ts fun j hj e => by omega⟩
theorem rows_fils {w : World} {B : Nat} {a : Option Addr} {c : Nat} {R : List Tf} {U : List Fl} (h : RowOk w B a c R ∧ fls R = U ∧ ∀ y ∈ R, FT w B y) : Fils w a R := by
  rcases h.1 with ⟨_, e, _⟩ | ⟨g, rfl, _, _, hr⟩
  · subst e; exact fun k x hx => by simp at hx
  · exact fils_of_row hr fun x hx => (h.2.2 x hx).fb
def KX (wc : World) (G : Nat) (k : Kk) : Prop := ∀ u, Turns (fun j => j = G) wc u → KB u k
theorem KX.kb {wc u : World} {G : Nat} {k : Kk} (h : KX wc G k) (t : Turns (fun _ => False) wc u) : KB u k := h u (t.mono fun _ _ x => x.elim)
theorem sz43 : (Try.prog.info? 43).map (·.size) = some 6 := by kernel_rfl
def JobIn (w : World) (B : Nat) (v : Value) (z : Int) (U LW : List Fl) (least most : List (BitVec 8)) (bot : Bool) : Prop := ∃ (ua va : Option Addr) (uc vc : Nat) (R1 R2 : List Tf) (a1 a2 : Option Addr) (c1 c2 : Nat), v = .agg #[.int .i64 z, .slice ua R1.length uc, .slice va R2.length vc, .slice a1 least.length c1, .slice a2 most.length c2, .bool bot] ∧ (RowOk w B ua uc R1 ∧ fls R1 = U ∧ ∀ y ∈ R1, FT w B y) ∧ (RowOk w B va vc R2 ∧ fls R2 = LW ∧ ∀ y ∈ R2, FT w B y) ∧ (Bytes w (.slice a1 least.length c1) least ∧ ∀ x, a1 = some x → B ≤ x.block) ∧ (Bytes w (.slice a2 most.length c2) most ∧ ∀ x, a2 = some x → B ≤ x.block)
theorem rowset_mono {w : World} {B B' : Nat} {a : Option Addr} {c : Nat} {R : List Tf} {U : List Fl} (h : RowOk w B a c R ∧ fls R = U ∧ ∀ y ∈ R, FT w B y) (hB : B' ≤ B) : RowOk w B' a c R ∧ fls R = U ∧ ∀ y ∈ R, FT w B' y := ⟨h.1.mono hB, h.2.1, fun y hy => (h.2.2 y hy).mono hB⟩
theorem rowset_keep {S : Nat → Prop} {w w' : World} {B : Nat} {a : Option Addr} {c : Nat} {R : List Tf} {U : List Fl} (h : RowOk w B a c R ∧ fls R = U ∧ ∀ y ∈ R, FT w B y) (t : Turns S w w') (hS : ∀ k, S k → k < B) : RowOk w' B a c R ∧ fls R = U ∧ ∀ y ∈ R, FT w' B y := ⟨by
  refine h.1.keep t fun g e hs => ?_
  rcases h.1 with ⟨e2, _⟩ | ⟨g2, e2, hb, _⟩
  · rw [e2] at e; cases e
  · rw [e2] at e; cases e; have := hS _ hs; omega, h.2.1, fun y hy => (h.2.2 y hy).keep t fun k hs hb => by have := hS k hs; omega⟩
theorem JobIn.keep {S : Nat → Prop} {w w' : World} {B : Nat} {v : Value} {z : Int} {U LW : List Fl} {least most : List (BitVec 8)} {bot : Bool} (h : JobIn w B v z U LW least most bot) (t : Turns S w w') (hS : ∀ k, S k → k < B) : JobIn w' B v z U LW least most bot := by
  obtain ⟨ua, va, uc, vc, R1, R2, a1, a2, c1, c2, e, h1, h2, h3, h4⟩ := h
  refine ⟨ua, va, uc, vc, R1, R2, a1, a2, c1, c2, e, rowset_keep h1 t hS, rowset_keep h2 t hS, ⟨h3.1.turns t fun ad n c e hs => ?_, h3.2⟩, ⟨h4.1.turns t fun ad n c e hs => ?_, h4.2⟩⟩
  · cases e; have := hS _ hs; have := h3.2 ad rfl; omega
  · cases e; have := hS _ hs; have := h4.2 ad rfl; omega
theorem JobIn.mono {w : World} {B B' : Nat} {v : Value} {z : Int} {U LW : List Fl} {least most : List (BitVec 8)} {bot : Bool} (h : JobIn w B v z U LW least most bot) (hB : B' ≤ B) : JobIn w B' v z U LW least most bot := by
  obtain ⟨ua, va, uc, vc, R1, R2, a1, a2, c1, c2, e, h1, h2, h3, h4⟩ := h
  exact ⟨ua, va, uc, vc, R1, R2, a1, a2, c1, c2, e, rowset_mono h1 hB, rowset_mono h2 hB, ⟨h3.1, fun x e => Nat.le_trans hB (h3.2 x e)⟩, ⟨h4.1, fun x e => Nat.le_trans hB (h4.2 x e)⟩⟩
theorem job_any (a : Option Addr) (c next seq log : Nat) (L : List Lv) (xl : Lv) (x0 : Tf) (z : Nat) (w : World) (h : VerIn w a 5 L next seq log) (hv : wrongVF (flL L) next seq log = false) (hz : z ≤ 3) (hx : L[z]? = some xl) (h0 : xl.l[0]? = some x0) :
    Calls Try.prog 29 #[verAgg a 5 c next seq log, .int .i64 (z : Nat)] w fun e w' => ∃ (v : Value) (lo hi : List (BitVec 8)), e = .returned v ∧ UpP (fls xl.l) (z : Nat) lo hi ∧ JobIn w' w.heap.size v (z : Nat) ((filesF (flL L) next seq log (z : Nat)).filter (overF lo hi)) ((filesF (flL L) next seq log ((z : Nat) + 1 : Int)).filter (overF lo hi)) (loF ((filesF (flL L) next seq log ((z : Nat) + 1 : Int)).filter (overF lo hi)) lo) (hiF ((filesF (flL L) next seq log ((z : Nat) + 1 : Int)).filter (overF lo hi)) hi) (deepF (flL L) next seq log ((z : Nat) + 1 : Int) (loF ((filesF (flL L) next seq log ((z : Nat) + 1 : Int)).filter (overF lo hi)) lo) (hiF ((filesF (flL L) next seq log ((z : Nat) + 1 : Int)).filter (overF lo hi)) hi)) ∧ Turns (fun _ => False) w w' := by
  have HVI := hide h
  obtain ⟨⟨b, off, rfl, hcell⟩, hfi⟩ := h.levs z xl hx
  have HWF := hide (fun y hy => wrongF_false (wrongV_files (by rw [wrongV_F]; exact hv) xl (List.mem_of_getElem? hx) y hy))
  have hcl := cnt_take hx
  have hcl2 := cnt_take_le L (z + 1)
  have hcl3 := h.cnt
  have TA := hide (((Turns.refl (fun _ => False) w).alloc (.cells #[.slice (some ⟨b, off, none⟩) 5 c, .int .u64 (next : Nat), .int .u64 (seq : Nat), .int .u64 (log : Nat)] 25)).alloc (.cells #[.int .i64 0, .slice none 0 0, .slice none 0 0, .slice none 0 0, .slice none 0 0, .bool false] 43))
  have R0 := hide (((Turns.refl (fun _ => False) (w.alloc (.cells #[.slice (some ⟨b, off, none⟩) 5 c, .int .u64 (next : Nat), .int .u64 (seq : Nat), .int .u64 (log : Nat)] 25))).alloc (.cells #[.int .i64 0, .slice none 0 0, .slice none 0 0, .slice none 0 0, .slice none 0 0, .bool false] 43)).heap (heap_alloc_new w (.cells #[.slice (some ⟨b, off, none⟩) 5 c, .int .u64 (next : Nat), .int .u64 (seq : Nat), .int .u64 (log : Nat)] 25)) (fun x => x))
  have RJ := hide (heap_alloc_new (w.alloc (.cells #[.slice (some ⟨b, off, none⟩) 5 c, .int .u64 (next : Nat), .int .u64 (seq : Nat), .int .u64 (log : Nat)] 25)) (.cells #[.int .i64 0, .slice none 0 0, .slice none 0 0, .slice none 0 0, .slice none 0 0, .bool false] 43))
  simp only [World.size_alloc] at RJ
  have UP := hide (upper_any xl.a xl.l.length xl.c xl.l x0 z _ (hfi.quiet TA.out) rfl (by omega) h0)
  have HFX := hide hfi
  have hcell' := TA.out.cell hcell (fun x => x)
  have hz3 : (z : Int) ≤ 3 := by omega
  have hz0 : (0 : Int) ≤ z := by omega
  have hz5 : (z : Int) < 5 := by omega
  have hzw : IntKind.i64.wrap ((z : Int) + 1) = (z : Int) + 1 := wrapI _ (by omega) (by omega)
  have HX0 := hide (show xl.l.length = xl.l.length from rfl)
  clear hcell hx h0 hcl hcl2 hcl3 hfi h hv hz HX0
  generalize fls xl.l = FX at *
  generalize hXL : xl.l.length = XL at *
  unfold verAgg
  go_enter Try.func29, Try.ntmps29
  go_wp2_with fail
  refine UP.out.mono ?_
  rintro e w1 ⟨k, rfl, hko, hup, t1⟩
  have T1 := hide (TA.out.trans t1)
  have HKW := hide (hko.kb HFX.out)
  have HFK := hide (fun f hf => filesF_keys (L := L) (next := next) (seq := seq) (log := log) (z := (z : Nat) + 1) f hf)
  obtain ⟨HLO0, HHI0⟩ : Hid (k.lo.length ≤ 1000000) ∧ Hid (k.hi.length ≤ 1000000) := by
    obtain ⟨x, hx, y, hy, rfl⟩ := hko
    have h1 := HWF.out x hx
    have h2 := HWF.out y hy
    exact ⟨by show x.f.least.length ≤ 1000000; omega, by show y.f.most.length ≤ 1000000; omega⟩
  have HUP := hide hup
  have R0' := hide (t1.heap R0.out (fun x => x))
  have RJ' := hide (t1.heap RJ.out (fun x => x))
  clear hko hup t1 R0 RJ UP hcell'
  obtain ⟨ka, kc, ja, jc, lo, hi⟩ := k
  unfold Kk.agg
  simp only at *
  go_upto_region 2 with (fail)
  obtain ⟨w2, hw2⟩ : ∃ u, u = w1.alloc (.cells #[.slice ka lo.length kc, .slice ja hi.length jc] 72) := ⟨_, rfl⟩
  rw [← hw2]
  have T2 := hide (show Turns (fun _ => False) w w2 by rw [hw2]; exact T1.out.alloc _)
  have RK := hide (show w2.heap[w1.heap.size]? = some (.cells #[.slice ka lo.length kc, .slice ja hi.length jc] 72 (0, 0)) by rw [hw2]; exact heap_alloc_new _ _)
  have RV := hide (show w2.heap[w.heap.size]? = some (.cells #[.slice (some ⟨b, off, none⟩) 5 c, .int .u64 (next : Nat), .int .u64 (seq : Nat), .int .u64 (log : Nat)] 25 (0, 0)) by rw [hw2]; exact ((Turns.refl (fun _ => False) w1).alloc _).heap R0'.out (fun x => x))
  have RZ := hide (show w2.heap[w.heap.size + 1]? = some (.cells #[.int .i64 0, .slice none 0 0, .slice none 0 0, .slice none 0 0, .slice none 0 0, .bool false] 43) by rw [hw2]; exact ((Turns.refl (fun _ => False) w1).alloc _).heap RJ'.out (fun x => x))
  clear hw2 R0' RJ' T1
  have OV1 := hide (fun (u : World) (t : Turns (fun _ => False) w2 u) => overlap_any (some ⟨b, off, none⟩) 5 c next seq log L (z : Nat) ka lo.length kc ja hi.length jc lo hi u (HVI.out.quiet (T2.out.trans t)) (HKW.out.1.quiet (T2.out.trans t)) (HKW.out.2.quiet (T2.out.trans t)))
  have OV2 := hide (fun (u : World) (t : Turns (fun _ => False) w2 u) => overlap_any (some ⟨b, off, none⟩) 5 c next seq log L ((z : Nat) + 1 : Int) ka lo.length kc ja hi.length jc lo hi u (HVI.out.quiet (T2.out.trans t)) (HKW.out.1.quiet (T2.out.trans t)) (HKW.out.2.quiet (T2.out.trans t)))
  have HU2 := hide (show ((filesF (flL L) next seq log ((z : Nat) + 1 : Int)).filter (overF lo hi)).length ≤ 5000 from Nat.le_trans (List.length_filter_le _ _) (filesF_len L next seq log _ HVI.out.cnt))
  have HLL := hide (show (loF ((filesF (flL L) next seq log ((z : Nat) + 1 : Int)).filter (overF lo hi)) lo).length ≤ 1000000 from loF_len HLO0.out fun f hf => (HFK.out f (List.mem_filter.1 hf).1).1)
  have HLH := hide (show (hiF ((filesF (flL L) next seq log ((z : Nat) + 1 : Int)).filter (overF lo hi)) hi).length ≤ 1000000 from hiF_len HHI0.out fun f hf => (HFK.out f (List.mem_filter.1 hf).1).2)
  generalize hU1 : (filesF (flL L) next seq log (z : Nat)).filter (overF lo hi) = U1 at *
  generalize hU2 : (filesF (flL L) next seq log ((z : Nat) + 1 : Int)).filter (overF lo hi) = U2 at *
  have HU1E := hide hU1
  have HU2E := hide hU2
  clear hU1 hU2
  unfold verAgg at OV1 OV2
  generalize hP : w.heap.size = P at *
  generalize hK : w1.heap.size = K at *
  have HP := hide hP
  clear hP hK
  generalize hL3 : lo.length = L3 at *
  generalize hL4 : hi.length = L4 at *
  have HL3 := hide hL3
  have HL4 := hide hL4
  clear hL3 hL4
  go_cut [6] from 17 (fun v6 wc => JobCut w2 wc z U1 U2 v6)
  case first =>
    rename_i kk rest jj kk' m1 m2
    clear rest
    have tV : Turns (fun _ => False) w2 w2.drew := (Turns.refl _ _).drew
    have SK := hide (fun (u : World) (t : Turns (fun _ => False) w2 u) => show (u.cell? ⟨P, 0, none⟩ = some (.slice (some ⟨b, off, none⟩) 5 c) ∧ u.cell? ⟨P, 1, none⟩ = some (.int .u64 (next : Nat)) ∧ u.cell? ⟨P, 2, none⟩ = some (.int .u64 (seq : Nat)) ∧ u.cell? ⟨P, 3, none⟩ = some (.int .u64 (log : Nat))) ∧ u.cell? ⟨K, 0, none⟩ = some (.slice ka L3 kc) ∧ u.cell? ⟨K, 1, none⟩ = some (.slice ja L4 jc) from ⟨⟨cell_of_row u P 0 _ 25 (0, 0) (t.heap RV.out (fun x => x)), cell_of_row u P 1 _ 25 (0, 0) (t.heap RV.out (fun x => x)), cell_of_row u P 2 _ 25 (0, 0) (t.heap RV.out (fun x => x)), cell_of_row u P 3 _ 25 (0, 0) (t.heap RV.out (fun x => x))⟩, cell_of_row u K 0 _ 72 (0, 0) (t.heap RK.out (fun x => x)), cell_of_row u K 1 _ 72 (0, 0) (t.heap RK.out (fun x => x))⟩)
    refine wp_region_z_drew 18 (S := fun u => (u.cell? ⟨P, 0, none⟩ = some (.slice (some ⟨b, off, none⟩) 5 c) ∧ u.cell? ⟨P, 1, none⟩ = some (.int .u64 (next : Nat)) ∧ u.cell? ⟨P, 2, none⟩ = some (.int .u64 (seq : Nat)) ∧ u.cell? ⟨P, 3, none⟩ = some (.int .u64 (log : Nat))) ∧ u.cell? ⟨K, 0, none⟩ = some (.slice ka L3 kc) ∧ u.cell? ⟨K, 1, none⟩ = some (.slice ja L4 jc)) (by kernel_rfl) (SK.out _ tV) (fun _ => ?_)
    change wpAnyZ _ _ _ _ _ _ 19 (Array.replicate 19 false) _ _
    refine wpAnyZ_take (i := 0) (oi := { dst := some 17, op := Op.move (Operand.tmp 1), type := 3, pos := "job.go:16", after := #[], guard := none }) (v := .int .i64 (z : Nat)) rfl (by kernel_rfl) (by kernel_rfl) (by kernel_rfl) (by kernel_rfl) (fun _ _ _ h => h) (Or.inl ⟨by rfl, ?_⟩) (SK.out _ tV) ?_
    · rintro w ⟨⟨s0, s1, s2, s3⟩, s4, s5⟩
      go_simp
    simp only [Act.put, List.setIfInBounds_toArray, List.set_cons_zero, List.set_cons_succ]
    refine wpAnyZ_take (i := 1) (oi := { dst := some 18, op := Op.load 25 (Operand.tmp 2), type := 25, pos := "job.go:16", after := #[], guard := none }) (v := .agg #[.slice (some ⟨b, off, none⟩) 5 c, .int .u64 (next : Nat), .int .u64 (seq : Nat), .int .u64 (log : Nat)]) rfl (by kernel_rfl) (by kernel_rfl) (by kernel_rfl) (by kernel_rfl) (fun _ _ _ h => h) (Or.inl ⟨by rfl, ?_⟩) (SK.out _ tV) ?_
    · rintro w ⟨⟨s0, s1, s2, s3⟩, s4, s5⟩
      go_simp
    simp only [Act.put, List.setIfInBounds_toArray, List.set_cons_zero, List.set_cons_succ]
    refine wpAnyZ_take (i := 2) (oi := { dst := some 19, op := Op.move (Operand.tmp 1), type := 3, pos := "job.go:16", after := #[], guard := none }) (v := .int .i64 (z : Nat)) rfl (by kernel_rfl) (by kernel_rfl) (by kernel_rfl) (by kernel_rfl) (fun _ _ _ h => h) (Or.inl ⟨by rfl, ?_⟩) (SK.out _ tV) ?_
    · rintro w ⟨⟨s0, s1, s2, s3⟩, s4, s5⟩
      go_simp
    simp only [Act.put, List.setIfInBounds_toArray, List.set_cons_zero, List.set_cons_succ]
    refine wpAnyZ_take (i := 3) (oi := { dst := some 20, op := Op.fieldAddr 72 (Operand.tmp 5) 0, type := 0, pos := "job.go:16", after := #[], guard := none }) (v := .pointer (some ⟨K, 0, none⟩)) rfl (by kernel_rfl) (by kernel_rfl) (by kernel_rfl) (by kernel_rfl) (fun _ _ _ h => h) (Or.inl ⟨by rfl, ?_⟩) (SK.out _ tV) ?_
    · rintro w ⟨⟨s0, s1, s2, s3⟩, s4, s5⟩
      go_simp
    simp only [Act.put, List.setIfInBounds_toArray, List.set_cons_zero, List.set_cons_succ]
    refine wpAnyZ_take (i := 4) (oi := { dst := some 21, op := Op.load 27 (Operand.tmp 20), type := 27, pos := "job.go:16", after := #[{ on := 3, ground := Ground.data }], guard := none }) (v := .slice ka L3 kc) rfl (by kernel_rfl) (by kernel_rfl) (by kernel_rfl) (by kernel_rfl) (fun _ _ _ h => h) (Or.inl ⟨by rfl, ?_⟩) (SK.out _ tV) ?_
    · rintro w ⟨⟨s0, s1, s2, s3⟩, s4, s5⟩
      go_simp
    simp only [Act.put, List.setIfInBounds_toArray, List.set_cons_zero, List.set_cons_succ]
    refine wpAnyZ_take (i := 5) (oi := { dst := some 22, op := Op.fieldAddr 72 (Operand.tmp 5) 1, type := 0, pos := "job.go:16", after := #[], guard := none }) (v := .pointer (some ⟨K, 1, none⟩)) rfl (by kernel_rfl) (by kernel_rfl) (by kernel_rfl) (by kernel_rfl) (fun _ _ _ h => h) (Or.inl ⟨by rfl, ?_⟩) (SK.out _ tV) ?_
    · rintro w ⟨⟨s0, s1, s2, s3⟩, s4, s5⟩
      go_simp
    simp only [Act.put, List.setIfInBounds_toArray, List.set_cons_zero, List.set_cons_succ]
    refine wpAnyZ_take (i := 6) (oi := { dst := some 23, op := Op.load 27 (Operand.tmp 22), type := 27, pos := "job.go:16", after := #[{ on := 5, ground := Ground.data }], guard := none }) (v := .slice ja L4 jc) rfl (by kernel_rfl) (by kernel_rfl) (by kernel_rfl) (by kernel_rfl) (fun _ _ _ h => h) (Or.inl ⟨by rfl, ?_⟩) (SK.out _ tV) ?_
    · rintro w ⟨⟨s0, s1, s2, s3⟩, s4, s5⟩
      go_simp
    simp only [Act.put, List.setIfInBounds_toArray, List.set_cons_zero, List.set_cons_succ]
    refine wpAnyZ_take (i := 8) (oi := { dst := some 25, op := Op.load 25 (Operand.tmp 2), type := 25, pos := "job.go:16", after := #[], guard := none }) (v := .agg #[.slice (some ⟨b, off, none⟩) 5 c, .int .u64 (next : Nat), .int .u64 (seq : Nat), .int .u64 (log : Nat)]) rfl (by kernel_rfl) (by kernel_rfl) (by kernel_rfl) (by kernel_rfl) (fun _ _ _ h => h) (Or.inl ⟨by rfl, ?_⟩) (SK.out _ tV) ?_
    · rintro w ⟨⟨s0, s1, s2, s3⟩, s4, s5⟩
      go_simp
    simp only [Act.put, List.setIfInBounds_toArray, List.set_cons_zero, List.set_cons_succ]
    refine wpAnyZ_take (i := 9) (oi := { dst := some 26, op := Op.move (Operand.tmp 1), type := 3, pos := "job.go:16", after := #[], guard := none }) (v := .int .i64 (z : Nat)) rfl (by kernel_rfl) (by kernel_rfl) (by kernel_rfl) (by kernel_rfl) (fun _ _ _ h => h) (Or.inl ⟨by rfl, ?_⟩) (SK.out _ tV) ?_
    · rintro w ⟨⟨s0, s1, s2, s3⟩, s4, s5⟩
      go_simp
    simp only [Act.put, List.setIfInBounds_toArray, List.set_cons_zero, List.set_cons_succ]
    refine wpAnyZ_take (i := 10) (oi := { dst := some 27, op := Op.binOp BinOp.add 3 (Operand.tmp 26) (Operand.const (Value.int IntKind.i64 1)) 3, type := 3, pos := "job.go:16", after := #[{ on := 9, ground := Ground.data }], guard := none }) (v := .int .i64 ((z : Nat) + 1 : Int)) rfl (by kernel_rfl) (by kernel_rfl) (by kernel_rfl) (by kernel_rfl) (fun _ _ _ h => h) (Or.inl ⟨by rfl, ?_⟩) (SK.out _ tV) ?_
    · rintro w ⟨⟨s0, s1, s2, s3⟩, s4, s5⟩
      go_simp
    simp only [Act.put, List.setIfInBounds_toArray, List.set_cons_zero, List.set_cons_succ]
    refine wpAnyZ_take (i := 11) (oi := { dst := some 28, op := Op.fieldAddr 72 (Operand.tmp 5) 0, type := 0, pos := "job.go:16", after := #[], guard := none }) (v := .pointer (some ⟨K, 0, none⟩)) rfl (by kernel_rfl) (by kernel_rfl) (by kernel_rfl) (by kernel_rfl) (fun _ _ _ h => h) (Or.inl ⟨by rfl, ?_⟩) (SK.out _ tV) ?_
    · rintro w ⟨⟨s0, s1, s2, s3⟩, s4, s5⟩
      go_simp
    simp only [Act.put, List.setIfInBounds_toArray, List.set_cons_zero, List.set_cons_succ]
    refine wpAnyZ_take (i := 12) (oi := { dst := some 29, op := Op.load 27 (Operand.tmp 28), type := 27, pos := "job.go:16", after := #[{ on := 11, ground := Ground.data }], guard := none }) (v := .slice ka L3 kc) rfl (by kernel_rfl) (by kernel_rfl) (by kernel_rfl) (by kernel_rfl) (fun _ _ _ h => h) (Or.inl ⟨by rfl, ?_⟩) (SK.out _ tV) ?_
    · rintro w ⟨⟨s0, s1, s2, s3⟩, s4, s5⟩
      go_simp
    simp only [Act.put, List.setIfInBounds_toArray, List.set_cons_zero, List.set_cons_succ]
    refine wpAnyZ_take (i := 13) (oi := { dst := some 30, op := Op.fieldAddr 72 (Operand.tmp 5) 1, type := 0, pos := "job.go:16", after := #[], guard := none }) (v := .pointer (some ⟨K, 1, none⟩)) rfl (by kernel_rfl) (by kernel_rfl) (by kernel_rfl) (by kernel_rfl) (fun _ _ _ h => h) (Or.inl ⟨by rfl, ?_⟩) (SK.out _ tV) ?_
    · rintro w ⟨⟨s0, s1, s2, s3⟩, s4, s5⟩
      go_simp
    simp only [Act.put, List.setIfInBounds_toArray, List.set_cons_zero, List.set_cons_succ]
    refine wpAnyZ_take (i := 14) (oi := { dst := some 31, op := Op.load 27 (Operand.tmp 30), type := 27, pos := "job.go:16", after := #[{ on := 13, ground := Ground.data }], guard := none }) (v := .slice ja L4 jc) rfl (by kernel_rfl) (by kernel_rfl) (by kernel_rfl) (by kernel_rfl) (fun _ _ _ h => h) (Or.inl ⟨by rfl, ?_⟩) (SK.out _ tV) ?_
    · rintro w ⟨⟨s0, s1, s2, s3⟩, s4, s5⟩
      go_simp
    simp only [Act.put, List.setIfInBounds_toArray, List.set_cons_zero, List.set_cons_succ]
    refine wpAnyZ_ready (rs := [7, 17]) (by kernel_rfl) (by simp) ?_
    refine AllReadyZ.cons rfl (fun K hK => ?_) (AllReadyZ.cons rfl (fun K hK => ?_) AllReadyZ.nil)
    · go_simp
      refine (OV1.out _ tV).mono ?_
      rintro oo V1 ⟨ua, uc, R1, rfl, hro1, hfl1, hft1, tq⟩
      have HLE1 := hide tV.size
      have tV := tV.trans tq
      have HO1 := hide (show RowOk V1 w2.heap.size ua uc R1 ∧ fls R1 = U1 ∧ ∀ y ∈ R1, FT V1 w2.heap.size y from ⟨hro1.mono HLE1.out, hfl1, fun y hy => (hft1 y hy).mono HLE1.out⟩)
      clear hro1 hfl1 hft1
      generalize hN1 : R1.length = N1 at *
      have HN1 := hide hN1
      clear hN1
      go_simp
      refine hK.out _ _ (SK.out _ tV) (fun _ => ?_)
      clear hK K
      clear tq
      refine wpAnyZ_ready (rs := [15, 17]) (by kernel_rfl) (by simp) ?_
      refine AllReadyZ.cons rfl (fun K hK => ?_) (AllReadyZ.cons rfl (fun K hK => ?_) AllReadyZ.nil)
      · go_simp
        refine (OV2.out _ tV).mono ?_
        rintro oo V2 ⟨va, vc, R2, rfl, hro2, hfl2, hft2, tq⟩
        have HLE2 := hide tV.size
        have tV := tV.trans tq
        have HO2 := hide (show RowOk V2 w2.heap.size va vc R2 ∧ fls R2 = U2 ∧ ∀ y ∈ R2, FT V2 w2.heap.size y from ⟨hro2.mono HLE2.out, hfl2, fun y hy => (hft2 y hy).mono HLE2.out⟩)
        clear hro2 hfl2 hft2
        generalize hN2 : R2.length = N2 at *
        have HN2 := hide hN2
        clear hN2
        go_simp
        refine hK.out _ _ (SK.out _ tV) (fun _ => ?_)
        clear hK K
        have HQ1 := hide tq
        clear tq
        refine wpAnyZ_take (i := 16) (oi := { dst := some 33, op := Op.build 43 #[(0, Operand.tmp 17), (1, Operand.tmp 24), (2, Operand.tmp 32)], type := 43, pos := "job.go:16", after := #[{ on := 0, ground := Ground.data }, { on := 7, ground := Ground.data }, { on := 15, ground := Ground.data }], guard := none }) (v := .agg #[.int .i64 (z : Nat), .slice ua N1 uc, .slice va N2 vc, .slice none 0 0, .slice none 0 0, .bool false]) rfl (by kernel_rfl) (by kernel_rfl) (by kernel_rfl) (by kernel_rfl) (fun _ _ _ h => h) (Or.inl ⟨by rfl, ?_⟩) (SK.out _ tV) ?_
        · rintro w ⟨⟨s0, s1, s2, s3⟩, s4, s5⟩
          go_simp
        simp only [Act.put, List.setIfInBounds_toArray, List.set_cons_zero, List.set_cons_succ]
        refine wpAnyZ_ready (rs := [17]) (by kernel_rfl) (by simp) ?_
        refine AllReadyZ.cons rfl (fun K hK => ?_) AllReadyZ.nil
        go_simp
        obtain ⟨U0, hU0⟩ : ∃ u, u = (V2).alloc (.cells #[.int .i64 0, .slice none 0 0, .slice none 0 0, .slice none 0 0, .slice none 0 0, .bool false] 43) := ⟨_, rfl⟩
        have HNEW : U0.heap[(V2).heap.size]? = some (.cells #[.int .i64 0, .slice none 0 0, .slice none 0 0, .slice none 0 0, .slice none 0 0, .bool false] 43) := by rw [hU0]; exact heap_alloc_new _ _
        have tA : Turns (fun _ => False) (V2) U0 := by rw [hU0]; exact (Turns.refl _ _).alloc _
        have HLG := hide (show w2.heap.size ≤ (V2).heap.size from tV.size)
        have tV := tV.trans tA
        rw [← hU0]
        clear hU0
        generalize hGG : (V2).heap.size = G at *
        clear hGG
        refine hK.out _ _ (SK.out _ tV) (fun _ => ?_)
        clear hK K
        have O1 := rowset HO1.out (HQ1.out.trans tA)
        have O2 := rowset HO2.out tA
        clear tA
        have HD0 := hide HNEW
        clear HNEW
        have FIN := hide (jobcut w2 U0 G z ua va uc vc R1 R2 U1 U2 HD0.out HLG.out O1 O2 tV)
        rw [HN1.out, HN2.out] at FIN
        have e0 := cell_of_row U0 G 0 _ 43 (0, 0) HD0.out
        have z0 := frozen_of_row U0 G 0 _ 43 HD0.out
        have e1 := cell_of_row U0 G 1 _ 43 (0, 0) HD0.out
        have z1 := frozen_of_row U0 G 1 _ 43 HD0.out
        have e2 := cell_of_row U0 G 2 _ 43 (0, 0) HD0.out
        have z2 := frozen_of_row U0 G 2 _ 43 HD0.out
        have e3 := cell_of_row U0 G 3 _ 43 (0, 0) HD0.out
        have z3 := frozen_of_row U0 G 3 _ 43 HD0.out
        have e4 := cell_of_row U0 G 4 _ 43 (0, 0) HD0.out
        have z4 := frozen_of_row U0 G 4 _ 43 HD0.out
        have e5 := cell_of_row U0 G 5 _ 43 (0, 0) HD0.out
        have z5 := frozen_of_row U0 G 5 _ 43 HD0.out
        clear HO1 HO2 HLG tV HLE1 HLE2
        refine wpAnyZ_ready (rs := [18]) (by kernel_rfl) (by simp) ?_
        refine AllReadyZ.free rfl (by kernel_rfl) (fun K hK => ?_) AllReadyZ.nil
        go_simp
        refine hK.out _ _ ?_
        clear hK K
        refine wpAnyZ_done (by kernel_rfl) ?_ _
        go_wp2_with fail
        go_meet
        exact FIN.out
      · go_simp
        obtain ⟨U0, hU0⟩ : ∃ u, u = (V1).alloc (.cells #[.int .i64 0, .slice none 0 0, .slice none 0 0, .slice none 0 0, .slice none 0 0, .bool false] 43) := ⟨_, rfl⟩
        have HNEW : U0.heap[(V1).heap.size]? = some (.cells #[.int .i64 0, .slice none 0 0, .slice none 0 0, .slice none 0 0, .slice none 0 0, .bool false] 43) := by rw [hU0]; exact heap_alloc_new _ _
        have tA : Turns (fun _ => False) (V1) U0 := by rw [hU0]; exact (Turns.refl _ _).alloc _
        have HLG := hide (show w2.heap.size ≤ (V1).heap.size from tV.size)
        have tV := tV.trans tA
        rw [← hU0]
        clear hU0
        generalize hGG : (V1).heap.size = G at *
        clear hGG
        refine hK.out _ _ (SK.out _ tV) (fun _ => ?_)
        clear hK K
        refine wpAnyZ_ready (rs := [15]) (by kernel_rfl) (by simp) ?_
        refine AllReadyZ.cons rfl (fun K hK => ?_) AllReadyZ.nil
        go_simp
        refine (OV2.out _ tV).mono ?_
        rintro oo V2 ⟨va, vc, R2, rfl, hro2, hfl2, hft2, tq⟩
        have HLE2 := hide tV.size
        have tV := tV.trans tq
        have HO2 := hide (show RowOk V2 w2.heap.size va vc R2 ∧ fls R2 = U2 ∧ ∀ y ∈ R2, FT V2 w2.heap.size y from ⟨hro2.mono HLE2.out, hfl2, fun y hy => (hft2 y hy).mono HLE2.out⟩)
        clear hro2 hfl2 hft2
        generalize hN2 : R2.length = N2 at *
        have HN2 := hide hN2
        clear hN2
        go_simp
        refine hK.out _ _ (SK.out _ tV) (fun _ => ?_)
        clear hK K
        have O1 := rowset HO1.out (tA.trans tq)
        have O2 := HO2.out
        have HNEW := tq.heap HNEW (fun x => x)
        clear tA tq
        refine wpAnyZ_take (i := 16) (oi := { dst := some 33, op := Op.build 43 #[(0, Operand.tmp 17), (1, Operand.tmp 24), (2, Operand.tmp 32)], type := 43, pos := "job.go:16", after := #[{ on := 0, ground := Ground.data }, { on := 7, ground := Ground.data }, { on := 15, ground := Ground.data }], guard := none }) (v := .agg #[.int .i64 (z : Nat), .slice ua N1 uc, .slice va N2 vc, .slice none 0 0, .slice none 0 0, .bool false]) rfl (by kernel_rfl) (by kernel_rfl) (by kernel_rfl) (by kernel_rfl) (fun _ _ _ h => h) (Or.inl ⟨by rfl, ?_⟩) (SK.out _ tV) ?_
        · rintro w ⟨⟨s0, s1, s2, s3⟩, s4, s5⟩
          go_simp
        simp only [Act.put, List.setIfInBounds_toArray, List.set_cons_zero, List.set_cons_succ]
        have HD0 := hide HNEW
        clear HNEW
        have FIN := hide (jobcut w2 V2 G z ua va uc vc R1 R2 U1 U2 HD0.out HLG.out O1 O2 tV)
        rw [HN1.out, HN2.out] at FIN
        have e0 := cell_of_row V2 G 0 _ 43 (0, 0) HD0.out
        have z0 := frozen_of_row V2 G 0 _ 43 HD0.out
        have e1 := cell_of_row V2 G 1 _ 43 (0, 0) HD0.out
        have z1 := frozen_of_row V2 G 1 _ 43 HD0.out
        have e2 := cell_of_row V2 G 2 _ 43 (0, 0) HD0.out
        have z2 := frozen_of_row V2 G 2 _ 43 HD0.out
        have e3 := cell_of_row V2 G 3 _ 43 (0, 0) HD0.out
        have z3 := frozen_of_row V2 G 3 _ 43 HD0.out
        have e4 := cell_of_row V2 G 4 _ 43 (0, 0) HD0.out
        have z4 := frozen_of_row V2 G 4 _ 43 HD0.out
        have e5 := cell_of_row V2 G 5 _ 43 (0, 0) HD0.out
        have z5 := frozen_of_row V2 G 5 _ 43 HD0.out
        clear HO1 HO2 HLG tV HLE1 HLE2
        refine wpAnyZ_ready (rs := [18]) (by kernel_rfl) (by simp) ?_
        refine AllReadyZ.free rfl (by kernel_rfl) (fun K hK => ?_) AllReadyZ.nil
        go_simp
        refine hK.out _ _ ?_
        clear hK K
        refine wpAnyZ_done (by kernel_rfl) ?_ _
        go_wp2_with fail
        go_meet
        exact FIN.out
    · go_simp
      obtain ⟨U0, hU0⟩ : ∃ u, u = (w2.alloc (.cells #[.int .i64 0, .slice none 0 0, .slice none 0 0, .slice none 0 0, .slice none 0 0, .bool false] 43)).drew := ⟨_, rfl⟩
      have HNEW : U0.heap[w2.heap.size]? = some (.cells #[.int .i64 0, .slice none 0 0, .slice none 0 0, .slice none 0 0, .slice none 0 0, .bool false] 43) := by rw [hU0]; exact heap_alloc_new w2 _
      have tA : Turns (fun _ => False) w2 U0 := by rw [hU0]; exact ((Turns.refl _ _).alloc _).drew
      have HLG := hide (Nat.le_refl w2.heap.size)
      have tV := tA
      rw [← hU0]
      clear hU0
      obtain ⟨G, hGG⟩ : ∃ g, g = w2.heap.size := ⟨_, rfl⟩
      replace HLG := hide (show w2.heap.size ≤ G by rw [hGG]; exact Nat.le_refl _)
      rw [← hGG] at HNEW ⊢
      clear hGG
      refine hK.out _ _ (SK.out _ tV) (fun _ => ?_)
      clear hK K
      refine wpAnyZ_ready (rs := [7]) (by kernel_rfl) (by simp) ?_
      refine AllReadyZ.cons rfl (fun K hK => ?_) AllReadyZ.nil
      go_simp
      refine (OV1.out _ tV).mono ?_
      rintro oo V1 ⟨ua, uc, R1, rfl, hro1, hfl1, hft1, tq⟩
      have HLE1 := hide tV.size
      have tV := tV.trans tq
      have HO1 := hide (show RowOk V1 w2.heap.size ua uc R1 ∧ fls R1 = U1 ∧ ∀ y ∈ R1, FT V1 w2.heap.size y from ⟨hro1.mono HLE1.out, hfl1, fun y hy => (hft1 y hy).mono HLE1.out⟩)
      clear hro1 hfl1 hft1
      generalize hN1 : R1.length = N1 at *
      have HN1 := hide hN1
      clear hN1
      go_simp
      refine hK.out _ _ (SK.out _ tV) (fun _ => ?_)
      clear hK K
      have HNEW := tq.heap HNEW (fun x => x)
      clear tq
      refine wpAnyZ_ready (rs := [15]) (by kernel_rfl) (by simp) ?_
      refine AllReadyZ.cons rfl (fun K hK => ?_) AllReadyZ.nil
      go_simp
      refine (OV2.out _ tV).mono ?_
      rintro oo V2 ⟨va, vc, R2, rfl, hro2, hfl2, hft2, tq⟩
      have HLE2 := hide tV.size
      have tV := tV.trans tq
      have HO2 := hide (show RowOk V2 w2.heap.size va vc R2 ∧ fls R2 = U2 ∧ ∀ y ∈ R2, FT V2 w2.heap.size y from ⟨hro2.mono HLE2.out, hfl2, fun y hy => (hft2 y hy).mono HLE2.out⟩)
      clear hro2 hfl2 hft2
      generalize hN2 : R2.length = N2 at *
      have HN2 := hide hN2
      clear hN2
      go_simp
      refine hK.out _ _ (SK.out _ tV) (fun _ => ?_)
      clear hK K
      have O1 := rowset HO1.out tq
      have O2 := HO2.out
      have HNEW := tq.heap HNEW (fun x => x)
      clear tA tq
      refine wpAnyZ_take (i := 16) (oi := { dst := some 33, op := Op.build 43 #[(0, Operand.tmp 17), (1, Operand.tmp 24), (2, Operand.tmp 32)], type := 43, pos := "job.go:16", after := #[{ on := 0, ground := Ground.data }, { on := 7, ground := Ground.data }, { on := 15, ground := Ground.data }], guard := none }) (v := .agg #[.int .i64 (z : Nat), .slice ua N1 uc, .slice va N2 vc, .slice none 0 0, .slice none 0 0, .bool false]) rfl (by kernel_rfl) (by kernel_rfl) (by kernel_rfl) (by kernel_rfl) (fun _ _ _ h => h) (Or.inl ⟨by rfl, ?_⟩) (SK.out _ tV) ?_
      · rintro w ⟨⟨s0, s1, s2, s3⟩, s4, s5⟩
        go_simp
      simp only [Act.put, List.setIfInBounds_toArray, List.set_cons_zero, List.set_cons_succ]
      have HD0 := hide HNEW
      clear HNEW
      have FIN := hide (jobcut w2 V2 G z ua va uc vc R1 R2 U1 U2 HD0.out HLG.out O1 O2 tV)
      rw [HN1.out, HN2.out] at FIN
      have e0 := cell_of_row V2 G 0 _ 43 (0, 0) HD0.out
      have z0 := frozen_of_row V2 G 0 _ 43 HD0.out
      have e1 := cell_of_row V2 G 1 _ 43 (0, 0) HD0.out
      have z1 := frozen_of_row V2 G 1 _ 43 HD0.out
      have e2 := cell_of_row V2 G 2 _ 43 (0, 0) HD0.out
      have z2 := frozen_of_row V2 G 2 _ 43 HD0.out
      have e3 := cell_of_row V2 G 3 _ 43 (0, 0) HD0.out
      have z3 := frozen_of_row V2 G 3 _ 43 HD0.out
      have e4 := cell_of_row V2 G 4 _ 43 (0, 0) HD0.out
      have z4 := frozen_of_row V2 G 4 _ 43 HD0.out
      have e5 := cell_of_row V2 G 5 _ 43 (0, 0) HD0.out
      have z5 := frozen_of_row V2 G 5 _ 43 HD0.out
      clear HO1 HO2 HLG tV HLE1 HLE2
      refine wpAnyZ_ready (rs := [18]) (by kernel_rfl) (by simp) ?_
      refine AllReadyZ.free rfl (by kernel_rfl) (fun K hK => ?_) AllReadyZ.nil
      go_simp
      refine hK.out _ _ ?_
      clear hK K
      refine wpAnyZ_done (by kernel_rfl) ?_ _
      go_wp2_with fail
      go_meet
      exact FIN.out
  case rest =>
    obtain ⟨G, ua, va, uc, vc, R1, R2, rfl, hG, hle, h1, h2, ht⟩ := hcut
    have HG := hide hG
    have HLE := hide hle
    have H1 := hide h1
    have H2 := hide h2
    have HTC := hide ht
    clear hG hle h1 h2 ht OV1 OV2
    generalize hN1 : R1.length = N1 at *
    generalize hN2 : R2.length = N2 at *
    have HN1 := hide hN1
    have HN2 := hide hN2
    clear hN1 hN2
    have s4 := cell_of_row wc K 0 _ 72 (0, 0) (HTC.out.heap RK.out (fun x => x))
    have s5 := cell_of_row wc K 1 _ 72 (0, 0) (HTC.out.heap RK.out (fun x => x))
    obtain ⟨w3, hw3⟩ : ∃ u, u = wc.alloc (.cells #[.slice ka L3 kc, .slice ja L4 jc] 72) := ⟨_, rfl⟩
    have T3 := hide (show Turns (fun _ => False) wc w3 by rw [hw3]; exact (Turns.refl _ _).alloc _)
    have RB := hide (show w3.heap[wc.heap.size]? = some (.cells #[.slice ka L3 kc, .slice ja L4 jc] 72 (0, 0)) by rw [hw3]; exact heap_alloc_new _ _)
    have g2 : (wc.alloc (.cells #[.slice ka L3 kc, .slice ja L4 jc] 72)).cell? ⟨G, 2, none⟩ = some (.slice va N2 vc) := by rw [← hw3]; exact cell_of_row w3 G 2 _ 43 (0, 0) (T3.out.heap HG.out (fun x => x))
    have HW3 := hide hw3
    clear hw3
    go_wp2_with fail
    rw [← HW3.out]
    have HNG := hide (show G < wc.heap.size from (Array.getElem?_eq_some_iff.1 HG.out).1)
    clear HW3 g2 s4 s5
    obtain ⟨Bk, hBk⟩ : ∃ g, g = wc.heap.size := ⟨_, rfl⟩
    rw [← hBk] at RB HNG ⊢
    have HBK := hide hBk
    clear hBk
    have hNm : (N2 : Int) ≤ 1000000 := by
      have h9 := HN2.out
      have h8 := H2.out.2.1
      have h7 := HU2.out
      have h6 : (fls R2).length = R2.length := by simp [fls]
      rw [h8] at h6
      omega
    have HKC := hide (show KX wc G ⟨ka, kc, ja, jc, lo, hi⟩ from fun u tu => KB.quiet HKW.out ((T2.out.trans HTC.out).andThen tu fun j hj e => by have := HLE.out; have := T2.out.size; omega))
    go_loopw [38] (fun i wr => ∃ (k : Nat) (kk : Kk), i = .int .i64 (k : Nat) ∧ k ≤ N2 ∧ wr.heap[Bk]? = some (.cells #[.slice kk.la kk.lo.length kk.lc, .slice kk.ma kk.hi.length kk.mc] 72 (0, 0)) ∧ KX wc G kk ∧ kk.lo = loF (U2.take k) lo ∧ kk.hi = hiF (U2.take k) hi ∧ Turns (fun j => j = Bk) w3 wr) (fun i _ => N2 - (intOf i).toNat)
    case atStart => exact ⟨0, ⟨ka, kc, ja, jc, lo, hi⟩, rfl, Nat.zero_le _, by rw [HL3.out, HL4.out]; exact RB.out, HKC.out, rfl, rfl, Turns.refl _ _⟩
    case round =>
      obtain ⟨k, kk, rfl, hk, hrow, hkb, hlo, hhi, htr⟩ := hrel
      have HROW := hide hrow
      have HKB := hide hkb
      have HLO := hide hlo
      have HHI := hide hhi
      have HTR := hide htr
      have HT := hide (show Turns (fun _ => False) wc wr from T3.out.andThen htr fun j hj e => by have := HBK.out; omega)
      clear hrow hkb hlo hhi htr
      obtain ⟨pa, pc, qa, qc, lo2, hi2⟩ := kk
      by_cases hkn : k < N2
      · obtain ⟨y, hy⟩ : ∃ y, R2[k]? = some y := ⟨_, List.getElem?_eq_getElem (by have := HN2.out; omega)⟩
        have hfils := rows_fils H2.out
        obtain ⟨bb, oo, rfl, h6, hfb⟩ := fc_of (hfils.quiet HT.out) hy
        have hfb0 : FB wc y := (hfils k y hy).2
        have i1 : (k : Int) < N2 := by omega
        have i0 : (0 : Int) ≤ k := by omega
        have HNX := hide (show U2.take (k + 1) = U2.take k ++ [y.f] by rw [List.take_add_one, ← H2.out.2.1, fls_at hy]; rfl)
        have CW := hide (fun (u : World) (tu : Turns (fun _ => False) wc u) => kwith_any ⟨pa, pc, qa, qc, lo2, hi2⟩ y u (HKB.out.kb tu) (hfb0.quiet tu))
        have HKN := hide (show KX wc G (withK ⟨pa, pc, qa, qc, lo2, hi2⟩ y) from fun u tu => withK_kb (HKB.out u tu) (ft_ne (H2.out.2.2 y (List.mem_of_getElem? hy)) HG.out (by decide) tu).fb)
        clear hfb hfb0 hy hfils
        generalize hkw : withK ⟨pa, pc, qa, qc, lo2, hi2⟩ y = kw at *
        have HKW2 := hide (show kw.lo = minB y.f lo2 ∧ kw.hi = maxB y.f hi2 by rw [← hkw]; exact ⟨withK_lo _ _, withK_hi _ _⟩)
        clear hkw
        obtain ⟨la', lc', ma', mc', ⟨no', sz', ls', ms', en', sq'⟩⟩ := y
        obtain ⟨y0, y1, y2, y3, y4, y5⟩ := h6
        unfold Tf.agg Kk.agg at CW
        simp only at *
        have HLA := hide (show lo2.length = lo2.length ∧ hi2.length = hi2.length from ⟨rfl, rfl⟩)
        clear HLA
        generalize ls'.length = L1' at *
        generalize ms'.length = L2' at *
        generalize lo2.length = L5 at *
        generalize hi2.length = L6 at *
        obtain ⟨ka', kc', ja', jc', lo', hi'⟩ := kw
        simp only at *
        have TF := hide ((HT.out).alloc (.cells #[.int .u64 (no' : Nat), .int .i64 sz', .slice la' L1' lc', .slice ma' L2' mc', .int .i64 en', .int .u64 (sq' : Nat)] 29))
        have TF2 := hide ((Turns.refl (fun _ => False) wr).alloc (.cells #[.int .u64 (no' : Nat), .int .i64 sz', .slice la' L1' lc', .slice ma' L2' mc', .int .i64 en', .int .u64 (sq' : Nat)] 29))
        have p0 := cell_of_row _ Bk 0 _ 72 (0, 0) (TF2.out.heap HROW.out (fun x => x))
        have p1 := cell_of_row _ Bk 1 _ 72 (0, 0) (TF2.out.heap HROW.out (fun x => x))
        go_wp2_with fail
        refine (CW.out _ TF.out).mono ?_
        rintro e w5 ⟨rfl, t5⟩
        have T5 := hide (TF2.out.trans t5)
        have r5 := T5.out.heap HROW.out (fun x => x)
        clear t5 CW y0 y1 y2 y3 y4 y5 p0 p1
        have HKN2 := hide (show KX wc G ⟨ka', kc', ja', jc', lo', hi'⟩ from HKN.out)
        generalize hL7 : lo'.length = L7 at *
        generalize hL8 : hi'.length = L8 at *
        have HL7 := hide hL7
        have HL8 := hide hL8
        clear hL7 hL8
        go_wp2_with (refine wpList_store_row rfl 72 _ _ rfl _ _ rfl rfl _ _ r5 ?_ ?_ ?_ ?_; (exact sz72); (simp only [List.size_toArray, List.length_cons, List.length_nil]); (simp [Value.oneCell']))
        have HSET := hide (setRow_heap w5 Bk _ #[.slice ka' L7 kc', .slice ja' L8 jc'] _ _ r5)
        have HTS := hide (turns_setRow w5 Bk #[.slice ka' L7 kc', .slice ja' L8 jc'])
        clear r5
        generalize w5.setRow Bk #[.slice ka' L7 kc', .slice ja' L8 jc'] = w6 at *
        go_wp2_with fail
        go_roundw
        case rel =>
          refine ⟨k + 1, ⟨ka', kc', ja', jc', lo', hi'⟩, by go_num, by omega, by rw [HL7.out, HL8.out]; exact HSET.out, HKN2.out, ?_, ?_, (HTR.out.trans (T5.out.mono fun _ _ x => x.elim)).trans HTS.out⟩
          · rw [HNX.out, loF, List.foldl_append]; show lo' = minB _ (loF (U2.take k) lo); rw [← HLO.out]; exact HKW2.out.1
          · rw [HNX.out, hiF, List.foldl_append]; show hi' = maxB _ (hiF (U2.take k) hi); rw [← HHI.out]; exact HKW2.out.2
        case measure => simp [intOf]; omega
      · obtain rfl : k = N2 := by omega
        have htk : U2.take k = U2 := by
          refine List.take_of_length_le ?_
          have h9 := HN2.out
          have h8 := H2.out.2.1
          have h6 : (fls R2).length = R2.length := by simp [fls]
          rw [h8] at h6
          omega
        rw [htk] at HLO HHI
        clear htk
        simp only at HLO HHI HROW HKB
        have HKB2 := hide (show KB wr ⟨pa, pc, qa, qc, lo2, hi2⟩ from HKB.out.kb HT.out)
        have HKX := hide (show KX wc G ⟨pa, pc, qa, qc, lo2, hi2⟩ from HKB.out)
        have CL1 := hide (fun (u : World) (tu : Turns (fun _ => False) wr u) => cloneT_any pa lo2.length pc lo2 u (HKB2.out.1.quiet tu) (by rw [HLO.out]; exact HLL.out))
        have CL2 := hide (fun (u : World) (tu : Turns (fun _ => False) wr u) => cloneT_any qa hi2.length qc hi2 u (HKB2.out.2.quiet tu) (by rw [HHI.out]; exact HLH.out))
        have HGW := hide (HT.out.heap HG.out (fun x => x))
        have HGB := hide (show ¬ Bk = G by have := HNG.out; omega)
        generalize hL5 : lo2.length = L5 at *
        generalize hL6 : hi2.length = L6 at *
        have HL5 := hide hL5
        have HL6 := hide hL6
        clear hL5 hL6
        have SK9 := hide (fun (u : World) (t : Turns (fun _ => False) wr u) => show u.cell? ⟨Bk, 0, none⟩ = some (.slice pa L5 pc) ∧ u.cell? ⟨Bk, 1, none⟩ = some (.slice qa L6 qc) from ⟨cell_of_row u Bk 0 _ 72 (0, 0) (t.heap HROW.out (fun x => x)), cell_of_row u Bk 1 _ 72 (0, 0) (t.heap HROW.out (fun x => x))⟩)
        go_upto_region 9 with (fail)
        have tV : Turns (fun _ => False) wr wr.drew := (Turns.refl _ _).drew
        have SK := SK9
        refine wp_region_held_drew (S := fun u => u.cell? ⟨Bk, 0, none⟩ = some (.slice pa L5 pc) ∧ u.cell? ⟨Bk, 1, none⟩ = some (.slice qa L6 qc)) (by kernel_rfl) (SK.out _ tV) (fun _ => ?_)
        change wpAnyH _ _ _ _ _ 10 (Array.replicate 10 false) _ _
        refine wpAnyH_take (i := 0) (oi := { dst := some 46, op := Op.fieldAddr 72 (Operand.tmp 7) 0, type := 0, pos := "job.go:25", after := #[], guard := none }) (v := .pointer (some ⟨Bk, 0, none⟩)) rfl (by kernel_rfl) (by kernel_rfl) (by kernel_rfl) (fun _ _ _ h => h) (Or.inl ⟨by rfl, ?_⟩) (SK.out _ tV) ?_
        · rintro w ⟨s0, s1⟩
          go_simp
        simp only [Act.put, List.setIfInBounds_toArray, List.set_cons_zero, List.set_cons_succ]
        refine wpAnyH_take (i := 1) (oi := { dst := some 47, op := Op.load 27 (Operand.tmp 46), type := 27, pos := "job.go:25", after := #[{ on := 0, ground := Ground.data }], guard := none }) (v := .slice pa L5 pc) rfl (by kernel_rfl) (by kernel_rfl) (by kernel_rfl) (fun _ _ _ h => h) (Or.inl ⟨by rfl, ?_⟩) (SK.out _ tV) ?_
        · rintro w ⟨s0, s1⟩
          go_simp
        simp only [Act.put, List.setIfInBounds_toArray, List.set_cons_zero, List.set_cons_succ]
        refine wpAnyH_take (i := 3) (oi := { dst := some 49, op := Op.fieldAddr 72 (Operand.tmp 7) 1, type := 0, pos := "job.go:25", after := #[], guard := none }) (v := .pointer (some ⟨Bk, 1, none⟩)) rfl (by kernel_rfl) (by kernel_rfl) (by kernel_rfl) (fun _ _ _ h => h) (Or.inl ⟨by rfl, ?_⟩) (SK.out _ tV) ?_
        · rintro w ⟨s0, s1⟩
          go_simp
        simp only [Act.put, List.setIfInBounds_toArray, List.set_cons_zero, List.set_cons_succ]
        refine wpAnyH_take (i := 4) (oi := { dst := some 50, op := Op.load 27 (Operand.tmp 49), type := 27, pos := "job.go:25", after := #[{ on := 3, ground := Ground.data }], guard := none }) (v := .slice qa L6 qc) rfl (by kernel_rfl) (by kernel_rfl) (by kernel_rfl) (fun _ _ _ h => h) (Or.inl ⟨by rfl, ?_⟩) (SK.out _ tV) ?_
        · rintro w ⟨s0, s1⟩
          go_simp
        simp only [Act.put, List.setIfInBounds_toArray, List.set_cons_zero, List.set_cons_succ]
        refine wpAnyH_ready (rs := [2]) (by kernel_rfl) (by simp) ?_
        refine AllReadyH.cons rfl (fun K hK => ?_) AllReadyH.nil
        go_simp
        refine (CL1.out _ tV).mono ?_
        rintro oo V1 ⟨a1, c1, rfl, hb1, hq, tq⟩
        have HQ1 := hide (fun x e => Nat.lt_of_lt_of_le (show Bk < (wr.drew).heap.size from (Array.getElem?_eq_some_iff.1 (tV.heap HROW.out (fun x => x))).1) (hq x e).1.1)
        clear hq
        have HB1 := hide hb1
        have tV := tV.trans (Turns.of_below tq _)
        clear hb1 tq
        go_simp
        refine hK.out _ _ (SK9.out _ tV) (fun _ => ?_)
        clear hK K
        refine wpAnyH_take (i := 6) (oi := { dst := some 52, op := Op.fieldAddr 43 (Operand.tmp 6) 3, type := 0, pos := "job.go:25", after := #[{ on := 0, ground := Ground.phase }, { on := 1, ground := Ground.phase }, { on := 2, ground := Ground.phase }, { on := 3, ground := Ground.textOnly Departure.lateStores }, { on := 4, ground := Ground.textOnly Departure.lateStores }, { on := 5, ground := Ground.textOnly Departure.lateStoresUnsure }], guard := none }) (v := .pointer (some ⟨G, 3, none⟩)) rfl (by kernel_rfl) (by kernel_rfl) (by kernel_rfl) (fun _ _ _ h => h) (Or.inl ⟨by rfl, ?_⟩) (SK.out _ tV) ?_
        · rintro w ⟨s0, s1⟩
          go_simp
        simp only [Act.put, List.setIfInBounds_toArray, List.set_cons_zero, List.set_cons_succ]
        refine wpAnyH_ready (rs := [5]) (by kernel_rfl) (by simp) ?_
        refine AllReadyH.cons rfl (fun K hK => ?_) AllReadyH.nil
        go_simp
        refine (CL2.out _ tV).mono ?_
        rintro oo V2 ⟨a2, c2, rfl, hb2, hq, tq⟩
        have HQ2 := hide (fun x e => Nat.lt_of_lt_of_le (show Bk < V1.heap.size from (Array.getElem?_eq_some_iff.1 (tV.heap HROW.out (fun x => x))).1) (hq x e).1.1)
        clear hq
        have HB2 := hide hb2
        have tq2 := Turns.of_below tq (fun _ => False)
        replace HB1 := hide (HB1.out.quiet tq2)
        have tV := tV.trans tq2
        clear hb2 tq tq2
        go_simp
        refine hK.out _ _ (SK9.out _ tV) (fun _ => ?_)
        clear hK K
        have HTV := hide tV
        have RG := hide (tV.heap HGW.out (fun x => x))
        have e3 := cell_of_row V2 G 3 _ 43 (0, 0) RG.out
        have z3 := frozen_of_row V2 G 3 _ 43 RG.out
        have tk := (Tick.refl RG.out).set 3 (.slice a1 L5 c1)
        have SS1 := hide (show (V2.setCell ⟨G, 3, none⟩ (.slice a1 L5 c1)).cell? ⟨Bk, 0, none⟩ = some (.slice pa L5 pc) ∧ (V2.setCell ⟨G, 3, none⟩ (.slice a1 L5 c1)).cell? ⟨Bk, 1, none⟩ = some (.slice qa L6 qc) from ⟨(Turns.of_tick tk).cell (SK9.out _ tV).1 HGB.out, (Turns.of_tick tk).cell (SK9.out _ tV).2 HGB.out⟩)
        have TK := hide tk
        clear tV tk
        refine wpAnyH_ready (rs := [7]) (by kernel_rfl) (by simp) ?_
        refine AllReadyH.cons rfl (fun K hK => ?_) AllReadyH.nil
        go_simp
        refine hK.out _ _ SS1.out (fun _ => ?_)
        clear hK K e3 z3
        generalize V2.setCell ⟨G, 3, none⟩ (.slice a1 L5 c1) = V3 at *
        refine wpAnyH_take (i := 8) (oi := { dst := some 53, op := Op.fieldAddr 43 (Operand.tmp 6) 4, type := 0, pos := "job.go:25", after := #[{ on := 0, ground := Ground.phase }, { on := 1, ground := Ground.phase }, { on := 2, ground := Ground.phase }, { on := 3, ground := Ground.phase }, { on := 4, ground := Ground.phase }, { on := 5, ground := Ground.phase }, { on := 6, ground := Ground.phase }, { on := 7, ground := Ground.phase }], guard := none }) (v := .pointer (some ⟨G, 4, none⟩)) rfl (by kernel_rfl) (by kernel_rfl) (by kernel_rfl) (fun _ _ _ h => h) (Or.inl ⟨by rfl, ?_⟩) SS1.out ?_
        · rintro w ⟨s0, s1⟩
          go_simp
        simp only [Act.put, List.setIfInBounds_toArray, List.set_cons_zero, List.set_cons_succ]
        have e4 : V3.cell? ⟨G, 4, none⟩ = some (.slice none 0 0) := TK.out.cell 4
        have z4 := TK.out.frozen 4
        have tk := TK.out.set 4 (.slice a2 L6 c2)
        have SS2 := hide (show (V3.setCell ⟨G, 4, none⟩ (.slice a2 L6 c2)).cell? ⟨Bk, 0, none⟩ = some (.slice pa L5 pc) ∧ (V3.setCell ⟨G, 4, none⟩ (.slice a2 L6 c2)).cell? ⟨Bk, 1, none⟩ = some (.slice qa L6 qc) from ⟨(Turns.of_tick tk).cell (SK9.out _ HTV.out).1 HGB.out, (Turns.of_tick tk).cell (SK9.out _ HTV.out).2 HGB.out⟩)
        have TK2 := hide tk
        clear tk TK
        refine wpAnyH_ready (rs := [9]) (by kernel_rfl) (by simp) ?_
        refine AllReadyH.cons rfl (fun K hK => ?_) AllReadyH.nil
        go_simp
        refine hK.out _ _ SS2.out (fun _ => ?_)
        clear hK K e4 z4 SS1
        generalize V3.setCell ⟨G, 4, none⟩ (.slice a2 L6 c2) = V4 at *
        refine wpAnyH_done (by kernel_rfl) ?_ _
        have HT4 := hide (((HT.out.trans HTV.out).mono (S' := fun j => j = G) fun _ _ x => x.elim).trans (Turns.of_tick TK2.out))
        have HQ := hide (show P < w2.heap.size ∧ P + 1 < w2.heap.size ∧ w2.heap.size ≤ G ∧ w.heap.size ≤ P from ⟨(Array.getElem?_eq_some_iff.1 RV.out).1, (Array.getElem?_eq_some_iff.1 RZ.out).1, HLE.out, by have := HP.out; omega⟩)
        have HW4 := hide ((T2.out.trans HTC.out).andThen HT4.out fun j hj e => by have := HQ.out; omega)
        have s0 := cell_of_row V4 P 0 _ 25 (0, 0) (HT4.out.heap (HTC.out.heap RV.out (fun x => x)) (by have := HQ.out; omega))
        have s1 := cell_of_row V4 P 1 _ 25 (0, 0) (HT4.out.heap (HTC.out.heap RV.out (fun x => x)) (by have := HQ.out; omega))
        have s2 := cell_of_row V4 P 2 _ 25 (0, 0) (HT4.out.heap (HTC.out.heap RV.out (fun x => x)) (by have := HQ.out; omega))
        have s3 := cell_of_row V4 P 3 _ 25 (0, 0) (HT4.out.heap (HTC.out.heap RV.out (fun x => x)) (by have := HQ.out; omega))
        obtain ⟨b0, b1⟩ := SS2.out
        have hk4 := HKX.out V4 HT4.out
        unfold KB at hk4
        rw [HL5.out, HL6.out] at hk4
        have DP := hide (deepest_any (some ⟨b, off, none⟩) 5 c next seq log L ((z : Nat) + 1 : Int) pa L5 pc qa L6 qc lo2 hi2 V4 (HVI.out.quiet HW4.out) hk4.1 hk4.2)
        have HLH2 := hide (show deepF (flL L) next seq log ((z : Nat) + 1 : Int) lo2 hi2 = deepF (flL L) next seq log ((z : Nat) + 1 : Int) lo2 hi2 from rfl)
        generalize hBT : deepF (flL L) next seq log ((z : Nat) + 1 : Int) lo2 hi2 = BT at *
        have HBT := hide hBT
        unfold verAgg at DP
        clear hBT HLH2 hk4
        go_wp2_with fail
        refine DP.out.mono ?_
        rintro e V5 ⟨rfl, t5⟩
        have T5 := hide t5
        have R5 := hide (t5.heap TK2.out.1 (fun x => x))
        have g5 : V5.cell? ⟨G, 5, none⟩ = some (.bool false) := cell_of_row V5 G 5 _ 43 (0, 0) R5.out
        have f5 := frozen_of_row V5 G 5 _ 43 R5.out
        have TK3 := hide ((Tick.refl R5.out).set 5 (.bool BT))
        clear t5 s0 s1 s2 s3 b0 b1
        have k0 : (V5.setCell ⟨G, 5, none⟩ (.bool BT)).cell? ⟨G, 0, none⟩ = some (.int .i64 (z : Nat)) := TK3.out.cell 0
        have k1 : (V5.setCell ⟨G, 5, none⟩ (.bool BT)).cell? ⟨G, 1, none⟩ = some (.slice ua N1 uc) := TK3.out.cell 1
        have k2 : (V5.setCell ⟨G, 5, none⟩ (.bool BT)).cell? ⟨G, 2, none⟩ = some (.slice va k vc) := TK3.out.cell 2
        have k3 : (V5.setCell ⟨G, 5, none⟩ (.bool BT)).cell? ⟨G, 3, none⟩ = some (.slice a1 L5 c1) := TK3.out.cell 3
        have k4 : (V5.setCell ⟨G, 5, none⟩ (.bool BT)).cell? ⟨G, 4, none⟩ = some (.slice a2 L6 c2) := TK3.out.cell 4
        have k5 : (V5.setCell ⟨G, 5, none⟩ (.bool BT)).cell? ⟨G, 5, none⟩ = some (.bool BT) := TK3.out.cell 5
        have r7 := (Turns.of_tick TK3.out).heap (T5.out.heap (HT4.out.heap (HTC.out.heap RZ.out (fun x => x)) (by have := HQ.out; omega)) (fun x => x)) (show ¬ P + 1 = G by have := HQ.out; omega)
        go_wp2_with (refine wpList_store_row rfl 43 _ _ rfl _ _ rfl rfl _ _ r7 ?_ ?_ ?_ ?_; (exact sz43); (simp only [List.size_toArray, List.length_cons, List.length_nil]); (simp [Value.oneCell']))
        refine bodyPost_ret (v := .agg #[.int .i64 (z : Nat), .slice ua N1 uc, .slice va k vc, .slice a1 L5 c1, .slice a2 L6 c2, .bool BT]) ?_ rfl ?_
        · exact results_cell_row Try.results29 _ _ _ _ _ _ _ rfl (setRow_heap _ _ _ _ _ _ r7) Try.underlying43 rfl sz43
        · have ts := turns_setRow (V5.setCell ⟨G, 5, none⟩ (.bool BT)) (P + 1) #[.int .i64 (z : Nat), .slice ua N1 uc, .slice va k vc, .slice a1 L5 c1, .slice a2 L6 c2, .bool BT]
          have tG := Turns.of_tick TK3.out
          have step : ∀ {a : Option Addr} {c : Nat} {R : List Tf} {U : List Fl}, (RowOk wc w2.heap.size a c R ∧ fls R = U ∧ ∀ y ∈ R, FT wc w2.heap.size y) → (RowOk ((V5.setCell ⟨G, 5, none⟩ (.bool BT)).setRow (P + 1) #[.int .i64 (z : Nat), .slice ua N1 uc, .slice va k vc, .slice a1 L5 c1, .slice a2 L6 c2, .bool BT]) w2.heap.size a c R ∧ fls R = U ∧ ∀ y ∈ R, FT ((V5.setCell ⟨G, 5, none⟩ (.bool BT)).setRow (P + 1) #[.int .i64 (z : Nat), .slice ua N1 uc, .slice va k vc, .slice a1 L5 c1, .slice a2 L6 c2, .bool BT]) w2.heap.size y) := fun h =>
            rowset_ne (rowset_ne (rowset (rowset_ne (rowset h (HT.out.trans HTV.out)) RG.out (by decide) (by decide) (Turns.of_tick TK2.out)) T5.out) R5.out (by decide) (by decide) tG) r7 (by decide) (by decide) ts
          have bstep : ∀ {a : Option Addr} {n c : Nat} {bs : List (BitVec 8)}, Bytes V2 (.slice a n c) bs → (∀ x, a = some x → Bk < x.block) → Bytes ((V5.setCell ⟨G, 5, none⟩ (.bool BT)).setRow (P + 1) #[.int .i64 (z : Nat), .slice ua N1 uc, .slice va k vc, .slice a1 L5 c1, .slice a2 L6 c2, .bool BT]) (.slice a n c) bs := fun {a n c bs} h hb => by
            have hne : ∀ ad n' c', (Value.slice a n c) = .slice (some ad) n' c' → Bk < ad.block := fun ad n' c' e => by cases e; exact hb ad rfl
            have h1 := h.turns (Turns.of_tick TK2.out) fun ad n' c' e => by have := hne ad n' c' e; have := HNG.out; omega
            have h2 := (h1.quiet T5.out).turns tG fun ad n' c' e => by have := hne ad n' c' e; have := HNG.out; omega
            exact h2.turns ts fun ad n' c' e => by have := hne ad n' c' e; have := HNG.out; have := HQ.out; omega
          have TZ := ((HW4.out.trans T5.out).andThen tG fun j hj e => by have := HQ.out; omega).andThen ts fun j hj e => by have := HQ.out; omega
          refine ⟨_, lo, hi, rfl, HUP.out, ?_, TZ⟩
          rw [HU1E.out, HU2E.out, ← HLO.out, ← HHI.out, HBT.out]
          exact ⟨ua, va, uc, vc, R1, R2, a1, a2, c1, c2, by rw [HN1.out, HN2.out, HL5.out, HL6.out], rowset_mono (step H1.out) T2.out.size, rowset_mono (step H2.out) T2.out.size, ⟨by rw [HL5.out]; exact bstep HB1.out HQ1.out, fun x e => by have := HQ1.out x e; have := HNG.out; have := HQ.out; omega⟩, ⟨by rw [HL6.out]; exact bstep HB2.out HQ2.out, fun x e => by have := HQ2.out x e; have := HNG.out; have := HQ.out; omega⟩⟩
end Go.Proofs.Ytkmcdjbadngfgaa
