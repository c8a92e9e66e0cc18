import Derived.Test.YtkeglaplckfllaaM19
import Derived.Test.YtkeglaplckfllaaM18
import Derived.Test.YtkeglaplckfllaaM17
import Derived.Test.YtkeglaplckfllaaM02
import Derived.Deep.RegionHeld
import Derived.Deep.Light
/-
  The code's table and the document's, in one memory, telling the same: Insert.
-/
namespace Go.Proofs.Ytkeglaplckfllaa
open Go.RowKit
set_option maxRecDepth 100000
structure Bot (A Q : Nat → Prop) (B : Nat) (w0 w : World) (t bg r : Nat) (ts rs : List Tow) : Prop where
  tab : Tab A w t bg ts
  ro : RO Q w r rs
  ha : ∀ k, A k → (B ≤ k ∧ k < w.heap.size) ∧ ¬ Q k
  hq : ∀ k, Q k → B ≤ k ∧ k < w.heap.size
  al : Alike ts rs
  hB : B ≤ w.heap.size
  bel : Below B w0 w
  good : ∀ x, x ∈ ts → chk1 x.e = 0
section
variable {A Q : Nat → Prop} {B : Nat} {w0 w w' : World} {t bg r : Nat} {ts rs : List Tow}
theorem Bot.keep {S : Nat → Prop} (h : Bot A Q B w0 w t bg r ts rs) (tt : Turns S w w') (hS : ∀ k, S k → B ≤ k ∧ ¬ A k ∧ ¬ Q k) : Bot A Q B w0 w' t bg r ts rs where
  tab := h.tab.keep tt fun k _ ha hs => (hS k hs).2.1 ha
  ro := h.ro.turns tt fun k hq hs => (hS k hs).2.2 hq
  ha := fun k hk => ⟨⟨(h.ha k hk).1.1, Nat.lt_of_lt_of_le (h.ha k hk).1.2 tt.size⟩, (h.ha k hk).2⟩
  hq := fun k hk => ⟨(h.hq k hk).1, Nat.lt_of_lt_of_le (h.hq k hk).2 tt.size⟩
  al := h.al
  hB := Nat.le_trans h.hB tt.size
  bel := h.bel.trans (tt.below h.hB fun k hk => (hS k hk).1)
  good := h.good
theorem Bot.quiet (h : Bot A Q B w0 w t bg r ts rs) (tt : Turns (fun _ => False) w w') : Bot A Q B w0 w' t bg r ts rs := h.keep tt fun _ x => x.elim
theorem chk1_seq {e : Ent} (h : chk1 e = 0) : e.seq < 18446744073709551616 := by
  have := (chk_fine h).2.1
  simpa using this
theorem chk1_key {e : Ent} (h : chk1 e = 0) : e.key ≠ [] := by
  have h1 := chk1_eq e
  rw [h] at h1
  split at h1
  · cases h1
  · rename_i hn
    intro hk
    apply hn
    left
    simp [wrongW, hk]
theorem bot_start {W : World} (hb : Below B w0 W) (hB : B ≤ W.heap.size) (h1 : Tab (fun k => W.heap.size ≤ k) w (W.heap.size + 1) W.heap.size []) (b1 : Below W.heap.size W w) (h2 : RO (fun k => k = w.heap.size) w' w.heap.size []) (b2 : Below w.heap.size w w') (hl : w.heap.size < w'.heap.size) :
    Bot (fun k => W.heap.size ≤ k ∧ k < w.heap.size) (fun k => k = w.heap.size) B w0 w' (W.heap.size + 1) W.heap.size w.heap.size [] [] where
  tab := (h1.mono fun k hk hw => ⟨hw, hk⟩).quiet (Turns.of_below b2 _)
  ro := h2
  ha := fun k hk => ⟨⟨by omega, by omega⟩, by omega⟩
  hq := fun k hk => by have := b1.size; omega
  al := Alike.nil
  hB := by have := b1.size; omega
  bel := hb.trans ((b1.trans (b2.mono b1.size)).mono hB)
  good := fun x hx => by cases hx
/-- Half way: the code's table has taken the entry, the document's not yet. -/
structure Hal (A Q : Nat → Prop) (B : Nat) (w0 w w1 : World) (t bg r : Nat) (ts rs : List Tow) : Prop where
  tab : Tab (fun k => A k ∨ (w.heap.size ≤ k ∧ k < w1.heap.size)) w1 t bg ts
  ro : RO Q w1 r rs
  tt : Turns A w w1
  bel : Below B w0 w1
  good : ∀ x, x ∈ ts → chk1 x.e = 0
theorem Hal.quiet {w1 w2 : World} (h : Hal A Q B w0 w w1 t bg r ts rs) (tt : Turns (fun _ => False) w1 w2) (hB : B ≤ w1.heap.size) : Hal A Q B w0 w w2 t bg r ts rs where
  tab := (h.tab.mono fun k hk hg => hg.elim .inl fun hg => .inr ⟨hg.1, by have := tt.size; omega⟩).quiet tt
  ro := h.ro.quiet tt
  tt := h.tt.trans (tt.mono fun _ _ x => x.elim)
  bel := h.bel.trans (tt.below hB fun _ x => x.elim)
  good := h.good
theorem hal_still (h : Bot A Q B w0 w t bg r ts rs) {w1 : World} (b : Below w.heap.size w w1) : Hal A Q B w0 w w1 t bg r ts rs where
  tab := (h.tab.quiet (Turns.of_below b _)).mono fun _ _ hk => .inl hk
  ro := h.ro.quiet (Turns.of_below b _)
  tt := Turns.of_below b _
  bel := h.bel.trans (b.mono h.hB)
  good := h.good
theorem bot_still (h : Bot A Q B w0 w t bg r ts rs) {w1 w2 : World} {ts' : List Tow} (hh : Hal A Q B w0 w w1 t bg r ts' rs) (ha : Alike ts' rs) (b : Below w1.heap.size w1 w2) :
    Bot (fun k => A k ∨ (w.heap.size ≤ k ∧ k < w1.heap.size)) Q B w0 w2 t bg r ts' rs where
  tab := hh.tab.quiet (Turns.of_below b _)
  ro := hh.ro.quiet (Turns.of_below b _)
  ha := fun k hk => by
    have s1 := hh.tt.size
    have s2 := b.size
    have hB := h.hB
    rcases hk with hk | hk
    · exact ⟨⟨(h.ha k hk).1.1, by have := (h.ha k hk).1.2; omega⟩, (h.ha k hk).2⟩
    · exact ⟨⟨by omega, by omega⟩, fun hq => by have := (h.hq k hq).2; omega⟩
  hq := fun k hk => ⟨(h.hq k hk).1, by have := (h.hq k hk).2; have := hh.tt.size; have := b.size; omega⟩
  al := ha
  hB := by have := h.hB; have := hh.tt.size; have := b.size; omega
  bel := hh.bel.trans (b.mono (by have := h.hB; have := hh.tt.size; omega))
  good := hh.good
/-- Behind both: which blocks are whose. -/
def After (A Q : Nat → Prop) (w w2 : World) (A' Q' : Nat → Prop) : Prop := (∀ k, k < w.heap.size → A' k → A k) ∧ (∀ k, k < w.heap.size → Q' k → Q k) ∧ Turns (fun k => A k ∨ Q k) w w2
def Both2 (A Q : Nat → Prop) (B : Nat) (w0 w : World) (t bg r : Nat) (rs : List Tow) (e : Ent) (hg z : Int) (N : List Tow → Prop) : Prop :=
  ∀ (w1 : World) (ts' : List Tow) (ka2 va2 : Option Addr) (kc2 vc2 : Nat), N ts' → Hal A Q B w0 w w1 t bg r ts' rs → Bytes w1 (.slice ka2 e.key.length kc2) e.key → Bytes w1 (.slice va2 e.val.length vc2) e.val →
    Calls Try.prog 17 #[.pointer (some ⟨r, 0, none⟩), .agg #[.slice ka2 e.key.length kc2, .int .u64 (e.seq : Nat), .int .i64 e.kind, .slice va2 e.val.length vc2], .int .i64 hg] w1 (fun o w2 => o = .returned (.int .i64 z) ∧ ∃ (A' Q' : Nat → Prop) (rs'' : List Tow), Bot A' Q' B w0 w2 t bg r ts' rs'' ∧ After A Q w w2 A' Q')
theorem bot_ins (h : Bot A Q B w0 w t bg r ts rs) (e : Ent) (hg : Int) (ka va : Option Addr) (kc vc : Nat) (hk : Bytes w (.slice ka e.key.length kc) e.key) (hv : Bytes w (.slice va e.val.length vc) e.val) (hs : e.seq < 18446744073709551616) (hm : Smol [(e.kind, e.key, e.val)]) (hkn : e.key.length ≤ 1000000) (hvn : e.val.length ≤ 1000000) (hn : ts.length ≤ 10000) (hz : sizeT ts ≤ 900000) :
    ∃ (z : Int) (N : List Tow → Prop),
      Calls Try.prog 8 #[.pointer (some ⟨t, 0, none⟩), .agg #[.slice ka e.key.length kc, .int .u64 (e.seq : Nat), .int .i64 e.kind, .slice va e.val.length vc], .int .i64 hg] w (fun o w1 => o = .returned (.int .i64 z) ∧ ∃ ts', N ts' ∧ (ts'.length ≤ ts.length + 1 ∧ sizeT ts' ≤ sizeT ts + (e.key.length + e.val.length + 32)) ∧ Hal A Q B w0 w w1 t bg r ts' rs) ∧
      Both2 A Q B w0 w t bg r rs e hg z N := by
  have hrl : rs.length = ts.length := h.al.len.symm
  have hkb : ∀ y, y ∈ rs → y.e.key.length ≤ 1000000 := fun y hy => by
    obtain ⟨x, hx, he⟩ := h.al.memE hy
    have := sizeT_mem hx
    rw [he] at this
    omega
  have still : ∀ (z : Int), (∀ w1 ka2 va2 kc2 vc2, RT w1 r rs → Bytes w1 (.slice ka2 e.key.length kc2) e.key → Calls Try.prog 17 #[.pointer (some ⟨r, 0, none⟩), .agg #[.slice ka2 e.key.length kc2, .int .u64 (e.seq : Nat), .int .i64 e.kind, .slice va2 e.val.length vc2], .int .i64 hg] w1 (fun o w2 => o = .returned (.int .i64 z) ∧ Below w1.heap.size w1 w2)) →
      Both2 A Q B w0 w t bg r rs e hg z (fun ts' => ts' = ts) := fun z H w1 ts' ka2 va2 kc2 vc2 hts hh hk2 _ => by
    subst hts
    exact (H w1 ka2 va2 kc2 vc2 hh.ro.rt hk2).mono fun o w2 ⟨ho, b⟩ => ⟨ho, _, _, rs, bot_still h hh h.al b, fun k hk ha => ha.elim id fun ha => absurd ha.1 (by omega), fun k _ hq => hq, (hh.tt.mono fun k _ ha => .inl ha).trans (Turns.of_below b _)⟩
  by_cases hc : chk1 e = 0
  · by_cases hh : 1 ≤ hg ∧ hg ≤ 12
    · cases hat : atT ts (place (e.key, e.seq) ts) (e.key, e.seq) with
      | some x =>
        have hat2 : ∃ y, atT rs (place (e.key, e.seq) rs) (e.key, e.seq) = some y := by
          rw [← h.al.place]
          cases hy : atT rs (place (e.key, e.seq) ts) (e.key, e.seq) with
          | some y => exact ⟨y, rfl⟩
          | none => rw [(h.al.at_none _ _).2 hy] at hat; cases hat
        obtain ⟨y, hat2⟩ := hat2
        refine ⟨5, fun ts' => ts' = ts, (insert_there A t bg ts w ka va e.key.length kc e.val.length vc e.seq e.kind hg e.key e.val h.tab hk hv hs hm (by omega) hz hc hh x hat).mono fun o w1 ⟨ho, b⟩ => ⟨ho, ts, rfl, ⟨by omega, by omega⟩, hal_still h b⟩, still 5 fun w1 ka2 va2 kc2 vc2 hrt hk2 => ?_⟩
        exact rinsert_there r rs w1 hrt ka2 va2 kc2 vc2 e hg hk2 hkn hkb (by omega) hc hh y hat2
      | none =>
        obtain ⟨H, rfl⟩ : ∃ H : Nat, hg = (H : Int) := ⟨hg.toNat, by omega⟩
        have hat2 : atT rs (place (e.key, e.seq) rs) (e.key, e.seq) = none := by rw [← h.al.place]; exact (h.al.at_none _ _).1 hat
        have hp := place_le (e.key, e.seq) ts
        refine ⟨0, fun ts' => ∃ x : Tow, x.e = e ∧ x.h = H ∧ ts' = ins ts (place (e.key, e.seq) ts) x, (insert_new A t bg ts w ka va e.key.length kc e.val.length vc e.seq e.kind e.key e.val h.tab hk hv hs hm (by omega) hz hc H (by omega) (by omega) hat).mono fun o w1 ⟨ho, x, hx, hxh, hT, tt⟩ => ⟨ho, _, ⟨x, hx, hxh, rfl⟩, ⟨by rw [ins_length hp]; exact Nat.le_refl _, by rw [sizeT_ins, hx]; exact Nat.le_refl _⟩, ?_⟩, ?_⟩
        · refine ⟨hT.mono fun k hk hg => hg.elim .inl fun hg => .inr ⟨hg, hk⟩, h.ro.turns tt fun k hq ha => (h.ha k ha).2 hq, tt, h.bel.trans (tt.below h.hB fun k hk => (h.ha k hk).1.1), fun y hy => ?_⟩
          rcases ins_mem.1 hy with rfl | hy
          · rw [hx]; exact hc
          · exact h.good y hy
        · rintro w1 ts' ka2 va2 kc2 vc2 ⟨x, hx, hxh, rfl⟩ hh1 hk2 hv2
          refine (rinsert_new Q r rs w1 hh1.ro ka2 va2 kc2 vc2 e H hk2 hv2 hkn hvn hkb (by omega) hc (by omega) hat2).mono ?_
          rintro o w2 ⟨ho, y, hy, hyh, hR, t2⟩
          have s1 := hh1.tt.size
          have s2 := t2.size
          have hB := h.hB
          have hQr : Q r := by
            obtain ⟨_, _, _, _, _, _, _, _, _, _, _, hq, _⟩ := h.ro
            exact hq
          refine ⟨ho, fun k => A k ∨ (w.heap.size ≤ k ∧ k < w1.heap.size), fun k => Q k ∨ (w1.heap.size ≤ k ∧ k < w2.heap.size), _, ⟨hh1.tab.keep t2 fun k _ ha he => ?_, hR, fun k hk => ?_, fun k hk => ?_, ?_, by omega, hh1.bel.trans (t2.below (by omega) fun k hk => by rw [hk]; exact (h.hq r hQr).1), hh1.good⟩, fun k hk ha => ha.elim id fun ha => absurd ha.1 (by omega), fun k hk ha => ha.elim id fun ha => absurd ha.1 (by omega), (hh1.tt.mono fun k _ ha => .inl ha).trans (t2.mono fun k _ hk => .inr (by rw [hk]; exact hQr))⟩
          · subst he
            rcases ha with ha | ha
            · exact (h.ha _ ha).2 hQr
            · have := (h.hq _ hQr).2; omega
          · rcases hk with hk | hk
            · have h1 := (h.ha k hk).1
              exact ⟨⟨h1.1, by omega⟩, fun hq => hq.elim (h.ha k hk).2 fun hq => by omega⟩
            · exact ⟨⟨by omega, by omega⟩, fun hq => hq.elim (fun hq => by have := (h.hq k hq).2; omega) fun hq => by omega⟩
          · rcases hk with hk | hk
            · have h1 := h.hq k hk
              exact ⟨h1.1, by omega⟩
            · exact ⟨by omega, by omega⟩
          · rw [← h.al.place]
            exact h.al.ins _ (by rw [hx, hy]) (by rw [hxh, hyh])
    · refine ⟨2, fun ts' => ts' = ts, (insert_high A t bg ts w ka va e.key.length kc e.val.length vc e.seq e.kind hg e.key e.val h.tab hk hv hs hm (by omega) hz hc (by omega)).mono fun o w1 ⟨ho, b⟩ => ⟨ho, ts, rfl, ⟨by omega, by omega⟩, hal_still h b⟩, still 2 fun w1 ka2 va2 kc2 vc2 hrt hk2 => ?_⟩
      exact rinsert_high r w1 ka2 va2 kc2 vc2 e hg hc (by omega)
  · refine ⟨chk1 e, fun ts' => ts' = ts, (insert_wrong A t bg ts w ka va e.key.length kc e.val.length vc e.seq e.kind hg e.key e.val h.tab hk hv hs hm (by omega) hz hc).mono fun o w1 ⟨ho, b⟩ => ⟨ho, ts, rfl, ⟨by omega, by omega⟩, hal_still h b⟩, still _ fun w1 ka2 va2 kc2 vc2 hrt hk2 => ?_⟩
    exact rinsert_bad r w1 ka2 va2 kc2 vc2 e hg hc
end
end Go.Proofs.Ytkeglaplckfllaa

/-
  Entries in memory of their own.
-/
namespace Go.Proofs.Ytkeglaplckfllaa
open Go.RowKit
set_option maxRecDepth 100000
set_option maxHeartbeats 4000000
/-- Each key lies in a row of its own. -/
def Keyed (w : World) (R : List Tow) : Prop := ∀ x, x ∈ R → ∃ g, x.ka = some ⟨g, 0, none⟩ ∧ RowB w g x.kc x.e.key
theorem Keyed.keep {S : Nat → Prop} {w w' : World} {R : List Tow} (h : Keyed w R) (t : Turns S w w') (hS : ∀ x, x ∈ R → ∀ q, x.bytesIn q → ¬ S q) : Keyed w' R := fun x hx => by
  obtain ⟨g, h1, h2⟩ := h x hx
  exact ⟨g, h1, h2.turns t (hS x hx g (.inl ⟨_, h1, rfl⟩))⟩
theorem ownEntries_any (a : Option Addr) (n c : Nat) (l : List Tow) (w : World) (h : Ents w a l) (hn : n = l.length) (hl : l.length ≤ 100000) (hf : ∀ x, x ∈ l → x.e.key.length ≤ 1000000 ∧ x.e.val.length ≤ 1000000) :
    Calls Try.prog 16 #[.slice a n c] w fun o w' => ∃ v, o = .returned v ∧ ∃ R, ERow w' w.heap.size v R ∧ Shown w' w.heap.size R ∧ R.map (·.e) = l.map (·.e) ∧ Keyed w' R ∧ Below w.heap.size w w' := by
  have HE := hide h
  have HF := hide hf
  have HN := hide hn
  clear h hf hn
  go_enter Try.func16, Try.ntmps16
  go_wp2_with fail
  go_loopw [3, 4] (fun ov iv wr => ∃ (k : Nat) (R : List Tow), iv = .int .i64 (k : Nat) ∧ k ≤ l.length ∧ ERow wr w.heap.size ov R ∧ Shown wr w.heap.size R ∧ R.map (·.e) = (l.take k).map (·.e) ∧ Below w.heap.size w wr ∧ (∀ x, x ∈ R → ∀ q, x.bytesIn q → ¬ inRow ov q) ∧ Keyed wr R) (fun _ iv _ => l.length - (intOf iv).toNat)
  case atStart => exact ⟨0, [], rfl, Nat.zero_le _, .inl ⟨rfl, rfl⟩, fun x hx => (by cases hx), rfl, Below.refl _ _, fun x hx => (by cases hx), fun x hx => (by cases hx)⟩
  case round =>
    obtain ⟨k, R, rfl, hkl, hrow, hsh, hm, hbw, hap, hky⟩ := hrel
    have HAP := hide hap
    have HKY := hide hky
    clear hap hky
    obtain ⟨oa, oc, rfl⟩ := hrow.len
    have hRl : R.length = k := by
      have := congrArg List.length hm
      simp only [List.length_map, List.length_take] at this
      omega
    have HROW := hide hrow
    have HSH := hide hsh
    have HM := hide hm
    have BW := hide hbw
    have HRL := hide hRl
    have hsz := hbw.size
    clear hrow hsh hm hbw hRl
    by_cases h1 : k < l.length
    · have i1 : (k : Int) < (n : Nat) := by have := HN.out; omega
      have i0 : (0 : Int) ≤ (k : Int) := by omega
      obtain ⟨y, hy⟩ : ∃ y, l[k]? = some y := ⟨_, List.getElem?_eq_getElem h1⟩
      obtain ⟨⟨b, off, rfl, hc⟩, k1, k2⟩ := (HE.out.quiet (Turns.of_below BW.out _)) k y hy
      have hyk := HF.out y (List.mem_of_getElem? hy)
      have HTK : Hid ((l.take (k + 1)).map (·.e) = (l.take k).map (·.e) ++ [y.e]) := hide (by rw [List.take_add_one, hy, List.map_append]; rfl)
      obtain ⟨yb, xa, xc, xv, xvc, e, yh⟩ := y
      have c0 : wr.cell? ⟨b, off + k * 4, none⟩ = some (.slice xa e.key.length xc) := hc 0 _ rfl
      have c1 : wr.cell? ⟨b, off + k * 4 + 1, none⟩ = some (.int .u64 (e.seq : Nat)) := hc 1 _ rfl
      have c2 : wr.cell? ⟨b, off + k * 4 + 2, none⟩ = some (.int .i64 e.kind) := hc 2 _ rfl
      have c3 : wr.cell? ⟨b, off + k * 4 + 3, none⟩ = some (.slice xv e.val.length xvc) := hc 3 _ rfl
      have K1 := hide (show Bytes wr (.slice xa e.key.length xc) e.key from k1)
      have K2 := hide (show Bytes wr (.slice xv e.val.length xvc) e.val from k2)
      clear hc k1 k2 hy
      obtain ⟨hkn, hvn⟩ := hyk
      change e.key.length ≤ 1000000 at hkn
      change e.val.length ≤ 1000000 at hvn
      go_upto_region 6 with (fail)
      have HX0 := hide (heap_alloc_new wr (.cells #[.slice xa e.key.length xc, .int .u64 (e.seq : Nat), .int .i64 e.kind, .slice xv e.val.length xvc] 29))
      have T0 := hide ((Turns.refl (fun _ => False) wr).alloc (.cells #[.slice xa e.key.length xc, .int .u64 (e.seq : Nat), .int .i64 e.kind, .slice xv e.val.length xvc] 29))
      have K1 := hide (K1.out.quiet T0.out)
      have K2 := hide (K2.out.quiet T0.out)
      have hgl : wr.heap.size < (wr.alloc (.cells #[.slice xa e.key.length xc, .int .u64 (e.seq : Nat), .int .i64 e.kind, .slice xv e.val.length xvc] 29)).heap.size := by simp
      clear c0 c1 c2 c3
      generalize wr.alloc (.cells #[.slice xa e.key.length xc, .int .u64 (e.seq : Nat), .int .i64 e.kind, .slice xv e.val.length xvc] 29) = wa at *
      generalize hGE : wr.heap.size = g at HX0 hgl ⊢
      have HGE := hide hGE
      clear hGE
      go_cut [16] from 17 to 27 (fun _ wx => ∃ (g1 c1 g2 c2 : Nat), wx.heap[g]? = some (.cells #[.slice (some ⟨g1, 0, none⟩) e.key.length c1, .int .u64 (e.seq : Nat), .int .i64 e.kind, .slice (some ⟨g2, 0, none⟩) e.val.length c2] 29 (0, 0)) ∧ RowB wx g1 c1 e.key ∧ RowB wx g2 c2 e.val ∧ wa.heap.size ≤ g1 ∧ wa.heap.size ≤ g2 ∧ Turns (fun k => k = g) wa wx)
      case first =>
        rename_i kk rest jj kk' m1 m2
        clear rest
        have tV : Turns (fun _ => False) wa wa.drew := (Turns.refl _ _).drew
        have HX := hide HX0.out
        have HK := hide (fun u (t : Turns (fun _ => False) wa u) => K1.out.quiet t)
        have HV := hide (fun u (t : Turns (fun _ => False) wa u) => K2.out.quiet t)
        have SK := hide (fun u (t : Turns (fun _ => False) wa u) => show u.cell? ⟨g, 0, none⟩ = some (.slice xa e.key.length xc) ∧ u.cell? ⟨g, 3, none⟩ = some (.slice xv e.val.length xvc) from ⟨cell_of_row u g 0 _ 29 (0, 0) (t.heap HX0.out (fun x => x)), cell_of_row u g 3 _ 29 (0, 0) (t.heap HX0.out (fun x => x))⟩)
        refine wp_region_x_drew [6, 7, 8, 9] (S := fun w' => w'.cell? ⟨g, 0, none⟩ = some (.slice xa e.key.length xc) ∧ w'.cell? ⟨g, 3, none⟩ = some (.slice xv e.val.length xvc)) (by kernel_rfl) (SK.out _ tV) (fun _ => ?_)
        change wpAnyX _ _ _ _ _ _ 10 (Array.replicate 10 false) _ _
        refine wpAnyX_take (i := 0) (oi := { dst := some 16, op := Op.fieldAddr 29 (Operand.tmp 5) 0, type := 0, pos := "kit.go:54", after := #[], guard := none }) (v := .pointer (some ⟨g, 0, none⟩)) rfl (by kernel_rfl) (by kernel_rfl) (by kernel_rfl) (by kernel_rfl) (by kernel_rfl) (fun _ _ _ h => h) (Or.inl ⟨by rfl, ?_⟩) (SK.out _ tV) ?_
        · rintro w ⟨d0, d3⟩
          go_simp
        simp only [Act.put, List.setIfInBounds_toArray, List.set_cons_zero, List.set_cons_succ]
        refine wpAnyX_take (i := 1) (oi := { dst := some 17, op := Op.load 26 (Operand.tmp 16), type := 26, pos := "kit.go:54", after := #[{ on := 0, ground := Ground.data }], guard := none }) (v := .slice xa e.key.length xc) rfl (by kernel_rfl) (by kernel_rfl) (by kernel_rfl) (by kernel_rfl) (by kernel_rfl) (fun _ _ _ h => h) (Or.inl ⟨by rfl, ?_⟩) (SK.out _ tV) ?_
        · rintro w ⟨d0, d3⟩
          go_simp
        simp only [Act.put, List.setIfInBounds_toArray, List.set_cons_zero, List.set_cons_succ]
        refine wpAnyX_take (i := 3) (oi := { dst := some 19, op := Op.fieldAddr 29 (Operand.tmp 5) 3, type := 0, pos := "kit.go:54", after := #[], guard := none }) (v := .pointer (some ⟨g, 3, none⟩)) rfl (by kernel_rfl) (by kernel_rfl) (by kernel_rfl) (by kernel_rfl) (by kernel_rfl) (fun _ _ _ h => h) (Or.inl ⟨by rfl, ?_⟩) (SK.out _ tV) ?_
        · rintro w ⟨d0, d3⟩
          go_simp
        simp only [Act.put, List.setIfInBounds_toArray, List.set_cons_zero, List.set_cons_succ]
        refine wpAnyX_take (i := 4) (oi := { dst := some 20, op := Op.load 26 (Operand.tmp 19), type := 26, pos := "kit.go:54", after := #[{ on := 3, ground := Ground.data }], guard := none }) (v := .slice xv e.val.length xvc) rfl (by kernel_rfl) (by kernel_rfl) (by kernel_rfl) (by kernel_rfl) (by kernel_rfl) (fun _ _ _ h => h) (Or.inl ⟨by rfl, ?_⟩) (SK.out _ tV) ?_
        · rintro w ⟨d0, d3⟩
          go_simp
        simp only [Act.put, List.setIfInBounds_toArray, List.set_cons_zero, List.set_cons_succ]
        refine wpAnyX_ready (rs := [2]) (by kernel_rfl) (by simp) ?_
        refine AllReadyX.cons rfl (fun K hK => ?_) AllReadyX.nil
        go_simp
        refine (own_any xa e.key.length xc e.key _ (HK.out _ tV) hkn).mono ?_
        rintro o w1 ⟨g1, c1, rfl, hg1, hc1, hrow1, b1⟩
        have tV1 := tV.trans (Turns.of_below b1 (fun _ => False))
        have R1 := hide hrow1
        have HG1 := hide hg1
        clear hrow1 hg1 b1
        go_simp
        refine hK.out _ _ (SK.out _ tV1) (fun _ => ?_)
        clear hK K
        refine wpAnyX_late (i := 6) (oi := { dst := some 22, op := Op.fieldAddr 29 (Operand.tmp 5) 0, type := 0, pos := "kit.go:54", after := #[{ on := 0, ground := Ground.phase }, { on := 1, ground := Ground.phase }, { on := 2, ground := Ground.phase }, { on := 3, ground := Ground.phase }, { on := 4, ground := Ground.phase }, { on := 5, ground := Ground.textOnly Departure.lateStoresUnsure }], guard := none }) (v := .pointer (some ⟨g, 0, none⟩)) rfl (by kernel_rfl) (by kernel_rfl) (by kernel_rfl) (by kernel_rfl) (fun _ _ _ h => h) (Or.inl ⟨by rfl, ?_⟩) ?_
        · rintro w -
          go_simp
        simp only [Act.put, List.setIfInBounds_toArray, List.set_cons_zero, List.set_cons_succ]
        refine wpAnyX_ready (rs := [5]) (by kernel_rfl) (by simp) ?_
        refine AllReadyX.cons rfl (fun K hK => ?_) AllReadyX.nil
        go_simp
        refine (own_any xv e.val.length xvc e.val _ (HV.out _ tV1) hvn).mono ?_
        rintro o w2 ⟨g2, c2, rfl, hg2, hc2, hrow2, b2⟩
        have tV2 := tV1.trans (Turns.of_below b2 (fun _ => False))
        have R1 := hide (R1.out.below b2)
        have R2 := hide hrow2
        have HG2 := hide hg2
        have HB2 := hide b2.size
        clear hrow2 hg2 b2
        go_simp
        refine hK.out _ _ (SK.out _ tV2) (fun _ => ?_)
        clear hK K
        have hbx := tV2.heap HX.out (fun x => x)
        have T1 := hide ((Tick.refl hbx).set 0 (.slice (some ⟨g1, 0, none⟩) e.key.length c1))
        have q0 := cell_of_row _ g 0 _ 29 (0, 0) hbx
        have f0 := frozen_of_row _ g 0 _ 29 hbx
        refine wpAnyX_ready (rs := [7]) (by kernel_rfl) (by simp) ?_
        refine AllReadyX.free rfl (by kernel_rfl) (fun K hK => ?_) AllReadyX.nil
        go_simp
        refine hK.out _ _ ?_
        clear hK K hbx q0 f0
        have T2 := hide (T1.out.set 3 (.slice (some ⟨g2, 0, none⟩) e.val.length c2))
        have q3 := T1.out.cell 3
        have f3 := T1.out.frozen 3
        clear T1
        simp at q3
        generalize w2.setCell ⟨g, 0, none⟩ (.slice (some ⟨g1, 0, none⟩) e.key.length c1) = w3 at *
        refine wpAnyX_late (i := 8) (oi := { dst := some 23, op := Op.fieldAddr 29 (Operand.tmp 5) 3, type := 0, pos := "kit.go:54", after := #[{ on := 0, ground := Ground.phase }, { on := 1, ground := Ground.phase }, { on := 2, ground := Ground.phase }, { on := 3, ground := Ground.phase }, { on := 4, ground := Ground.phase }, { on := 5, ground := Ground.phase }, { on := 6, ground := Ground.phase }, { on := 7, ground := Ground.phase }], guard := none }) (v := .pointer (some ⟨g, 3, none⟩)) rfl (by kernel_rfl) (by kernel_rfl) (by kernel_rfl) (by kernel_rfl) (fun _ _ _ h => h) (Or.inl ⟨by rfl, ?_⟩) ?_
        · rintro w -
          go_simp
        simp only [Act.put, List.setIfInBounds_toArray, List.set_cons_zero, List.set_cons_succ]
        refine wpAnyX_ready (rs := [9]) (by kernel_rfl) (by simp) ?_
        refine AllReadyX.free rfl (by kernel_rfl) (fun K hK => ?_) AllReadyX.nil
        go_simp
        refine hK.out _ _ ?_
        clear hK K q3 f3
        generalize w3.setCell ⟨g, 3, none⟩ (.slice (some ⟨g2, 0, none⟩) e.val.length c2) = w4 at *
        refine wpAnyX_done (by kernel_rfl) ?_ _
        go_wp2_with fail
        go_meet
        have t2 := tV2.size
        have t1 := tV1.size
        have e1 := HG1.out
        have e2 := HG2.out
        have hwd : wa.drew.heap.size = wa.heap.size := rfl
        exact ⟨g1, c1, g2, c2, T2.out.1, R1.out.turns (Turns.of_tick T2.out) (show ¬ g1 = g by omega), R2.out.turns (Turns.of_tick T2.out) (show ¬ g2 = g by omega), by omega, by omega, (tV2.mono fun _ _ x => x.elim).trans (Turns.of_tick T2.out)⟩
      case rest =>
        obtain ⟨g1, c1, g2, c2, hbx, hr1, hr2, hg1, hg2, hT⟩ := hcut
        have d0 := cell_of_row wc g 0 _ 29 (0, 0) hbx
        have d1 := cell_of_row wc g 1 _ 29 (0, 0) hbx
        have d2 := cell_of_row wc g 2 _ 29 (0, 0) hbx
        have d3 := cell_of_row wc g 3 _ 29 (0, 0) hbx
        simp at d0 d1 d2 d3
        have R1 := hide hr1
        have R2 := hide hr2
        have tc : Turns (fun _ => False) wr wc := ⟨hT.os.trans T0.out.os, hT.tape.trans T0.out.tape, hT.output.trans T0.out.output, Nat.le_trans T0.out.size hT.size, fun k hk _ => (hT.block k (Nat.lt_of_lt_of_le hk T0.out.size) (by have := HGE.out; omega)).trans (T0.out.block k hk (fun x => x))⟩
        have ta : Turns (fun _ => False) wr (wc.alloc (.cells #[.slice (some ⟨g1, 0, none⟩) e.key.length c1, .int .u64 (e.seq : Nat), .int .i64 e.kind, .slice (some ⟨g2, 0, none⟩) e.val.length c2] 29)) := tc.alloc _
        obtain ⟨g', n', c', w8, hr8, hrow8, t8, b8, hin8⟩ := append_ent _ w.heap.size (.slice oa R.length oc) R (HROW.out.keep ta (fun _ _ x => x)) (by have := ta.size; omega) (by have := HRL.out; omega) ⟨0, some ⟨g1, 0, none⟩, c1, some ⟨g2, 0, none⟩, c2, e, 0⟩ wc.heap.size 1 (heap_alloc_new wc _)
        have hq := hr8 33
        have tA := (Turns.refl (fun _ => False) wc).alloc (.cells #[.slice (some ⟨g1, 0, none⟩) e.key.length c1, .int .u64 (e.seq : Nat), .int .i64 e.kind, .slice (some ⟨g2, 0, none⟩) e.val.length c2] 29)
        have hRow : ∀ k, inRow (.slice oa R.length oc) k → w.heap.size ≤ k ∧ k < wr.heap.size := fun k hk => HROW.out.row hk
        have hs8 := t8.size
        have hsA := tA.size
        have l1 : g1 < wc.heap.size := by obtain ⟨cs, h1, _⟩ := R1.out; exact lt_of_heap h1
        have l2 : g2 < wc.heap.size := by obtain ⟨cs, h1, _⟩ := R2.out; exact lt_of_heap h1
        have l3 := T0.out.size
        have l4 := tc.size
        have l5 := HGE.out
        have hnot : ∀ q, wa.heap.size ≤ q → ¬ inRow (.slice oa R.length oc) q := fun q hq hk => by have := (hRow q hk).2; omega
        have hA8 : (wc.alloc (.cells #[.slice (some ⟨g1, 0, none⟩) e.key.length c1, .int .u64 (e.seq : Nat), .int .i64 e.kind, .slice (some ⟨g2, 0, none⟩) e.val.length c2] 29)).heap.size = wc.heap.size + 1 := by simp
        have HS8 := hide (show Shown w8 w.heap.size (R ++ [⟨0, some ⟨g1, 0, none⟩, c1, some ⟨g2, 0, none⟩, c2, e, 0⟩]) from fun x hx => by
          rcases List.mem_append.1 hx with hx | hx
          · exact ((HSH.out.keep ta (fun _ _ _ _ x => x)).keep t8 (fun y hy q hq => HAP.out y hy q hq)) x hx
          · obtain rfl := List.mem_singleton.1 hx
            refine ⟨((RowB.bytes (c' := c1) R1.out rfl).quiet tA).turns t8 (fun a n c ee => by cases ee; exact hnot g1 hg1), ((RowB.bytes (c' := c2) R2.out rfl).quiet tA).turns t8 (fun a n c ee => by cases ee; exact hnot g2 hg2), fun q hq => ?_⟩
            rcases hq with ⟨a, ee, rfl⟩ | ⟨a, ee, rfl⟩
            · cases ee; exact ⟨by show w.heap.size ≤ g1; omega, by show g1 < w8.heap.size; omega⟩
            · cases ee; exact ⟨by show w.heap.size ≤ g2; omega, by show g2 < w8.heap.size; omega⟩)
        have HAP8 := hide (show ∀ x, x ∈ R ++ [⟨0, some ⟨g1, 0, none⟩, c1, some ⟨g2, 0, none⟩, c2, e, 0⟩] → ∀ q, x.bytesIn q → ¬ inRow (.slice (some ⟨g', 0, none⟩) n' c') q from fun x hx q hq ⟨n2, c2', ee⟩ => by
          obtain rfl : g' = q := by cases ee; rfl
          rcases List.mem_append.1 hx with hx | hx
          · rcases hin8 with h | h
            · exact HAP.out x hx _ hq h
            · have := ((HSH.out x hx).2.2 _ hq).2
              omega
          · obtain rfl := List.mem_singleton.1 hx
            have hq2 : g' = g1 ∨ g' = g2 := by
              rcases hq with ⟨a, ee, hb⟩ | ⟨a, ee, hb⟩
              · cases ee; exact .inl hb.symm
              · cases ee; exact .inr hb.symm
            rcases hin8 with h | h
            · rcases hq2 with e1 | e1
              · exact hnot _ (by omega) h
              · exact hnot _ (by omega) h
            · omega)
        have HKY8 := hide (show Keyed w8 (R ++ [⟨0, some ⟨g1, 0, none⟩, c1, some ⟨g2, 0, none⟩, c2, e, 0⟩]) from fun x hx => by
          rcases List.mem_append.1 hx with hx | hx
          · exact ((HKY.out.keep ta (fun _ _ _ _ x => x)).keep t8 (fun y hy q hq => HAP.out y hy q hq)) x hx
          · obtain rfl := List.mem_singleton.1 hx
            exact ⟨g1, rfl, (R1.out.turns tA (fun x => x)).turns t8 (hnot g1 hg1)⟩)
        have HR8 := hide hrow8
        have HM8 := hide (show (R ++ [(⟨0, some ⟨g1, 0, none⟩, c1, some ⟨g2, 0, none⟩, c2, e, 0⟩ : Tow)]).map (·.e) = (l.take (k + 1)).map (·.e) by rw [HTK.out, List.map_append, HM.out]; rfl)
        have B8 := hide (BW.out.trans ((ta.below hsz (fun _ x => x.elim)).trans b8))
        clear hrow8 t8 b8 hin8 hr8 tA hRow hs8 hsA l1 l2 l3 l4 l5 hnot hA8 ta tc hT hr1 hr2 hbx
        go_wp2_with (at_builtin; refine wpList_append_run rfl _ _ 33 rfl _ _ rfl rfl _ _ hq ?_)
        go_roundw
        case rel =>
          exact ⟨k + 1, _, by go_num, by omega, HR8.out, HS8.out, HM8.out, B8.out, HAP8.out, HKY8.out⟩
        case measure => simp [intOf]; omega
    · have i1 : ¬ (k : Int) < (n : Nat) := by have := HN.out; omega
      go_wp2_with fail
      go_ret
      have hk : k = l.length := by omega
      subst hk
      exact ⟨_, rfl, R, HROW.out, HSH.out, by rw [HM.out, List.take_length], HKY.out, BW.out⟩
end Go.Proofs.Ytkeglaplckfllaa

/-
  Calls that came in, opened; are they gone through?
-/
namespace Go.Proofs.Ytkeglaplckfllaa
open Go.ChangeShapes Go.WideShapes Go.ChangeAt Go.RowKit
set_option maxRecDepth 100000
/-- A call: an entry with its height, what is asked behind it. -/
structure AcT where
  ka : Option Addr
  kc : Nat
  va : Option Addr
  vc : Nat
  e : Ent
  hg : Int
  qa : Option Addr
  qc : Nat
  q : List (BitVec 8)
  s : Nat
  n : Int
instance : Inhabited AcT := ⟨⟨none, 0, none, 0, ⟨[], 0, 0, []⟩, 0, none, 0, [], 0, 0⟩⟩
def AcT.cells (x : AcT) : List Value := [.slice x.ka x.e.key.length x.kc, .int .u64 (x.e.seq : Nat), .int .i64 x.e.kind, .slice x.va x.e.val.length x.vc, .int .i64 x.hg, .slice x.qa x.q.length x.qc, .int .u64 (x.s : Nat), .int .i64 x.n]
def AcT.told (x : AcT) (w : World) : Prop := Bytes w (.slice x.ka x.e.key.length x.kc) x.e.key ∧ Bytes w (.slice x.va x.e.val.length x.vc) x.e.val ∧ Bytes w (.slice x.qa x.q.length x.qc) x.q
def AcT.fit (x : AcT) : Prop := x.e.seq < 18446744073709551616 ∧ x.e.key.length ≤ reachBytes ∧ x.e.val.length ≤ reachBytes ∧ x.q.length ≤ reachBytes ∧ x.s < 18446744073709551616
def Acts (w : World) (a : Option Addr) (l : List AcT) : Prop :=
  ∀ k x, l[k]? = some x → (∃ b off, a = some ⟨b, off, none⟩ ∧ ∀ j u, x.cells[j]? = some u → w.cell? ⟨b, off + k * 8 + j, none⟩ = some u) ∧ x.told w
theorem Acts.quiet {w w' : World} {a : Option Addr} {l : List AcT} (h : Acts w a l) (t : Turns (fun _ => False) w w') : Acts w' a l := fun k x hx => by
  obtain ⟨⟨b, off, h1, h2⟩, h3, h4, h5⟩ := h k x hx
  exact ⟨⟨b, off, h1, fun j u hu => t.cell (h2 j u hu) (fun x => x)⟩, h3.quiet t, h4.quiet t, h5.quiet t⟩
theorem bytesOf42 : Try.prog.bytesOf 42 = 112 := by kernel_rfl
theorem open_acts_cell {H : Type} {enc : TypeId × Value → H} {W : World} {fuel : Nat} {v : Value} {x : DataW H × List MemPlace} (h : DataW.trod enc Try.prog W 0 (fun _ => true) true fuel 37 [v] = some x) (hw : ∀ q ∈ x.1.weights Try.prog 37, q ≤ reachBytes) :
    ∃ (a : Option Addr) (m c : Nat) (l : List AcT), v = .slice a m c ∧ m = l.length ∧ Acts W a l ∧ m ≤ reachBytes ∧ ∀ f ∈ l, f.fit := by
  rcases Go.Deep.open_slice Try.underlying37 h with ⟨hv, _⟩ | ⟨a, len, cap, m, n, D, Pl, hv, _, hlc, hcap, hm, hx, hcells⟩
  · obtain rfl : v = .slice none 0 0 := by simpa using hv
    exact ⟨none, 0, 0, [], rfl, rfl, fun k f hf => by simp at hf, by decide, fun f hf => by simp at hf⟩
  · obtain rfl : v = .slice (some a) len cap := by simpa using hv
    have hm' : m = cap := by simpa using hm
    subst hm'
    subst hx
    have hcw : len ≤ reachBytes := by
      have hw1 := hw _ (by simp only [DataW.weights, Try.underlying37]; exact List.mem_cons_self ..)
      simp only [List.length_map, List.length_range, bytesOf42] at hw1
      omega
    have each : ∀ i, i < len → ∃ f : AcT, (∀ j u, f.cells[j]? = some u → W.cell? (a.add (i * 8 + j)) = some u) ∧ f.told W ∧ f.fit := by
      intro i hi
      obtain ⟨cs', h1, h2⟩ := hcells i (by omega)
      rw [cells42] at h1
      obtain ⟨_, hlen, hcell⟩ := World.cells?_some h1
      obtain ⟨xs, k, _, hxy, _, hxl, hf⟩ := DataW.trod_struct Try.underlying42 h2
      match xs, hxl, cs', hlen with
      | [y0, y1, y2, y3, y4], _, [v0, v1, v2, v3, v4, v5, v6, v7], _ =>
        have t0 : DataW.trod enc Try.prog W 0 (fun _ => true) true k 29 [v0, v1, v2, v3] = some y0 := by simpa [cells29] using hf 0 _ rfl
        have t1 : DataW.trod enc Try.prog W 0 (fun _ => true) true k 3 [v4] = some y1 := by simpa [cells3] using hf 1 _ rfl
        have t2 : DataW.trod enc Try.prog W 0 (fun _ => true) true k 26 [v5] = some y2 := by simpa [cells26] using hf 2 _ rfl
        have t3 : DataW.trod enc Try.prog W 0 (fun _ => true) true k 27 [v6] = some y3 := by simpa [cells27] using hf 3 _ rfl
        have t4 : DataW.trod enc Try.prog W 0 (fun _ => true) true k 3 [v7] = some y4 := by simpa [cells3] using hf 4 _ rfl
        obtain ⟨zs, k2, _, hzy, _, hzl, hz⟩ := DataW.trod_struct Try.underlying29 t0
        match zs, hzl with
        | [z0, z1, z2, z3], _ =>
          have s0 : DataW.trod enc Try.prog W 0 (fun _ => true) true k2 26 [v0] = some z0 := by simpa [cells26] using hz 0 _ rfl
          have s1 : DataW.trod enc Try.prog W 0 (fun _ => true) true k2 27 [v1] = some z1 := by simpa [cells27] using hz 1 _ rfl
          have s2 : DataW.trod enc Try.prog W 0 (fun _ => true) true k2 3 [v2] = some z2 := by simpa [cells3] using hz 2 _ rfl
          have s3 : DataW.trod enc Try.prog W 0 (fun _ => true) true k2 26 [v3] = some z3 := by simpa [cells26] using hz 3 _ rfl
          have hD : D i = .agg [y0.1, y1.1, y2.1, y3.1, y4.1] := by
            have := congrArg Prod.fst hxy
            simpa using this
          have hD0 : y0.1 = .agg [z0.1, z1.1, z2.1, z3.1] := by rw [hzy]; simp
          have hin : ∀ q ∈ (DataW.agg [y0.1, y1.1, y2.1, y3.1, y4.1] : DataW H).weights Try.prog 42, q ≤ reachBytes := fun q hq => hw q (by
            simp only [DataW.weights, Try.underlying37, List.mem_cons, List.mem_append]
            refine Or.inr (Or.inl (weights_in (d := D i) (List.mem_map.2 ⟨i, List.mem_range.2 hi, rfl⟩) q ?_))
            rw [hD]
            exact hq)
          have hy0 : ∀ q ∈ y0.1.weights Try.prog 29, q ≤ reachBytes := fun q hq => hin q (by
            simp only [DataW.weights, Try.underlying42, DataW.weightsEach, List.map_cons, List.map_nil, List.mem_append]
            exact Or.inl hq)
          have hy2 : ∀ q ∈ y2.1.weights Try.prog 26, q ≤ reachBytes := fun q hq => hin q (by
            simp only [DataW.weights, Try.underlying42, DataW.weightsEach, List.map_cons, List.map_nil, List.mem_append]
            exact Or.inr (Or.inr (Or.inl hq)))
          rw [hD0] at hy0
          have hw0 : ∀ q ∈ z0.1.weights Try.prog 26, q ≤ reachBytes := fun q hq => hy0 q (by
            simp only [DataW.weights, Try.underlying29, DataW.weightsEach, List.map_cons, List.map_nil, List.mem_append]
            exact Or.inl hq)
          have hw3 : ∀ q ∈ z3.1.weights Try.prog 26, q ≤ reachBytes := fun q hq => hy0 q (by
            simp only [DataW.weights, Try.underlying29, DataW.weightsEach, List.map_cons, List.map_nil, List.mem_append]
            exact Or.inr (Or.inr (Or.inr (Or.inl hq))))
          obtain ⟨ka, kn, kc, key, rfl, hk, hkn⟩ := open_bytes_cell s0 hw0
          obtain ⟨s, rfl, hs⟩ := u64_cell Try.underlying27 s1
          obtain ⟨z, rfl⟩ := i64_cell Try.underlying3 s2
          obtain ⟨va, vn, vc, val, rfl, hv2, hvn⟩ := open_bytes_cell s3 hw3
          obtain ⟨hg, rfl⟩ := i64_cell Try.underlying3 t1
          obtain ⟨qa, qn, qc, q, rfl, hq2, hqn⟩ := open_bytes_cell t2 hy2
          obtain ⟨At, rfl, hAt⟩ := u64_cell Try.underlying27 t3
          obtain ⟨N, rfl⟩ := i64_cell Try.underlying3 t4
          have l1 := hk.len
          have l2 := hv2.len
          have l3 := hq2.len
          subst l1 l2 l3
          refine ⟨⟨ka, kc, va, vc, ⟨key, s, z, val⟩, hg, qa, qc, q, At, N⟩, fun j u hu => ?_, ⟨hk, hv2, hq2⟩, hs, hkn, hvn, hqn, hAt⟩
          have hj : j < 8 := (List.getElem?_eq_some_iff.1 hu).1
          have e0 := hcell j (by omega)
          rw [Go.Deep.add_add] at e0
          rw [e0]
          exact hu
    obtain ⟨q, hq⟩ := Go.Deep.choose_lt each
    refine ⟨some a, len, m, (List.range len).map q, rfl, by simp, fun k f hf => ?_, hcw, fun f hf => ?_⟩
    · have hk : k < len := by
        rcases Nat.lt_or_ge k len with h | h
        · exact h
        · rw [List.getElem?_eq_none (by simpa using h)] at hf; cases hf
      obtain rfl : q k = f := by simpa [hk] using hf
      have hq0 := (hq 0 (by omega)).1 0 _ rfl
      obtain ⟨b, off, spot⟩ := a
      have hspot : spot = none := by simpa [Addr.add] using World.cell?_spot hq0
      subst hspot
      refine ⟨⟨b, off, rfl, fun j u hu => ?_⟩, (hq k hk).2.1⟩
      have := (hq k hk).1 j u hu
      rw [Go.WideShapes.add_plain] at this
      rw [Nat.add_assoc]
      exact this
    · obtain ⟨i, hi, rfl⟩ := List.mem_map.1 hf
      exact (hq i (by simpa using hi)).2.2
/-- How many bytes calls bring. -/
def AcT.wt (x : AcT) : Nat := x.e.key.length + x.e.val.length + x.q.length
def wtA : List AcT → Nat
  | [] => 0
  | x :: r => x.wt + wtA r
theorem wtA_snoc (x : AcT) : ∀ l : List AcT, wtA (l ++ [x]) = wtA l + x.wt
  | [] => by simp [wtA]
  | y :: r => by
    have := wtA_snoc x r
    simp only [List.cons_append, wtA, this]
    omega
theorem wtA_mem {x : AcT} : ∀ {l : List AcT}, x ∈ l → x.wt ≤ wtA l
  | y :: r, h => by
    unfold wtA
    rcases List.mem_cons.1 h with rfl | h
    · omega
    · have := wtA_mem h
      omega
theorem wtA_take (l : List AcT) (k : Nat) : wtA (l.take k) ≤ wtA l := by
  have h : ∀ a b : List AcT, wtA (a ++ b) = wtA a + wtA b := fun a b => by
    induction a with
    | nil => simp [wtA]
    | cons x r ih => simp only [List.cons_append, wtA, ih]; omega
  have := h (l.take k) (l.drop k)
  rw [List.take_append_drop] at this
  omega
theorem wtA_le : ∀ l : List AcT, (∀ x, x ∈ l → x.fit) → wtA l ≤ l.length * (3 * reachBytes)
  | [], _ => Nat.zero_le _
  | y :: r, h => by
    have h1 := wtA_le r fun x hx => h x (List.mem_cons_of_mem _ hx)
    have h2 := h y (List.mem_cons_self ..)
    unfold wtA AcT.wt
    rw [List.length_cons, Nat.succ_mul]
    have h3 := h2.2.1
    have h4 := h2.2.2.1
    have h5 := h2.2.2.2.1
    omega
def SmallSays (l : List AcT) (w : World) (o : Ending) (w' : World) : Prop := ∃ b : Bool, o = .returned (.bool b) ∧ (b = true → l.length ≤ 120 ∧ wtA l ≤ 20000) ∧ Turns (fun _ => False) w w'
set_option maxHeartbeats 4000000 in
theorem small_any (a : Option Addr) (n c : Nat) (l : List AcT) (w : World) (h : Acts w a l) (hn : n = l.length) (hnr : n ≤ reachBytes) (hf : ∀ x, x ∈ l → x.fit) :
    Calls Try.prog 14 #[.slice a n c] w (SmallSays l w) := by
  have HL := hide hn
  have HN := hide hnr
  have HA := hide h
  have hW : ∀ k, k ≤ 121 → wtA (l.take k) ≤ 121 * (3 * reachBytes) := fun k hk => by
    have h1 := wtA_le (l.take k) fun x hx => hf x (List.mem_of_mem_take hx)
    have h2 : (l.take k).length ≤ 121 := by rw [List.length_take]; omega
    exact Nat.le_trans h1 (Nat.mul_le_mul_right _ h2)
  have HW := hide hW
  have HF := hide hf
  clear hn h hf hW hnr
  go_enter Try.func14, Try.ntmps14
  go_wp2_with fail
  by_cases hn : n ≤ 120
  · go_loopw [3, 4] (fun sv iv wr => ∃ k : Nat, sv = .int .i64 (wtA (l.take k) : Nat) ∧ iv = .int .i64 (k : Nat) ∧ k ≤ n ∧ Turns (fun _ => False) w wr) (fun _ iv _ => n - (intOf iv).toNat)
    case atStart => exact ⟨0, rfl, rfl, by omega, Turns.refl _ _⟩
    case round =>
      obtain ⟨k, rfl, rfl, hk, ht⟩ := hrel
      have TT := hide ht
      by_cases hk2 : k < n
      · have i1 : (k : Int) < n := by omega
        have i0 : (0 : Int) ≤ (k : Int) := by omega
        have hkl : k < l.length := by have := HL.out; omega
        obtain ⟨⟨b, off, rfl, hc⟩, _⟩ := (HA.out.quiet ht) k l[k] (List.getElem?_eq_getElem hkl)
        have hw1 := HW.out k (by omega)
        have hw2 := HW.out (k + 1) (by omega)
        have HTK := hide (List.take_succ_eq_append_getElem hkl)
        have hws : wtA (l.take (k + 1)) = wtA (l.take k) + l[k].wt := by rw [HTK.out, wtA_snoc]
        rw [hws] at hw2
        have HWS := hide hws
        generalize l[k] = x at *
        obtain ⟨ka, kc, va, vc, e, hg, qa, qc, q, s, nn⟩ := x
        have c0 : wr.cell? ⟨b, off + k * 8, none⟩ = some (.slice ka e.key.length kc) := hc 0 _ rfl
        have c3 : wr.cell? ⟨b, off + k * 8 + 3, none⟩ = some (.slice va e.val.length vc) := hc 3 _ rfl
        have c5 : wr.cell? ⟨b, off + k * 8 + 5, none⟩ = some (.slice qa q.length qc) := hc 5 _ rfl
        unfold reachBytes at hw1 hw2
        change _ + (e.key.length + e.val.length + q.length) ≤ _ at hw2
        clear hc ht hws
        generalize wtA (l.take k) = W0 at *
        go_wp2_with fail
        go_quiet (fail)
        go_wp2
        go_roundw
        case rel =>
          refine ⟨k + 1, ?_, by go_num, by omega, TT.out.drewN _⟩
          rw [HWS.out]
          change _ = Value.int IntKind.i64 ((W0 + (e.key.length + e.val.length + q.length) : Nat) : Int)
          go_num
        case measure => simp [intOf]; omega
      · have i1 : ¬ (k : Int) < n := by omega
        have he : k = n := by omega
        have HE := hide he
        clear he
        have hw1 := HW.out k (by omega)
        unfold reachBytes at hw1
        have HEQ := hide (show wtA (l.take k) = wtA l by rw [HE.out, HL.out, List.take_length])
        generalize wtA (l.take k) = W0 at *
        have i2 : (n : Int) ≤ 120 := by omega
        go_wp2_with fail
        go_ret
        exact ⟨_, rfl, fun hb => ⟨by have := HL.out; omega, by have := HEQ.out; simp at hb; omega⟩, TT.out⟩
  · have i2 : ¬ (n : Int) ≤ 120 := by omega
    go_loopw [3, 4] (fun sv iv wr => ∃ (k : Nat) (z : Int), sv = .int .i64 z ∧ iv = .int .i64 (k : Nat) ∧ k ≤ n ∧ Turns (fun _ => False) w wr) (fun _ iv _ => n - (intOf iv).toNat)
    case atStart => exact ⟨0, 0, rfl, rfl, by omega, Turns.refl _ _⟩
    case round =>
      obtain ⟨k, z, rfl, rfl, hk, ht⟩ := hrel
      have TT := hide ht
      by_cases hk2 : k < n
      · have i1 : (k : Int) < n := by omega
        have i0 : (0 : Int) ≤ (k : Int) := by omega
        have hkl : k < l.length := by have := HL.out; omega
        obtain ⟨⟨b, off, rfl, hc⟩, _⟩ := (HA.out.quiet ht) k l[k] (List.getElem?_eq_getElem hkl)
        generalize l[k] = x at *
        obtain ⟨ka, kc, va, vc, e, hg, qa, qc, q, s, nn⟩ := x
        have c0 : wr.cell? ⟨b, off + k * 8, none⟩ = some (.slice ka e.key.length kc) := hc 0 _ rfl
        have c3 : wr.cell? ⟨b, off + k * 8 + 3, none⟩ = some (.slice va e.val.length vc) := hc 3 _ rfl
        have c5 : wr.cell? ⟨b, off + k * 8 + 5, none⟩ = some (.slice qa q.length qc) := hc 5 _ rfl
        have hln : n ≤ reachBytes := HN.out
        unfold reachBytes at hln
        clear hc ht
        go_wp2_with fail
        go_quiet (fail)
        go_wp2
        go_roundw
        case rel => exact ⟨k + 1, _, rfl, by go_num, by omega, TT.out.drewN _⟩
        case measure => simp [intOf]; omega
      · have i1 : ¬ (k : Int) < n := by omega
        go_wp2_with fail
        go_ret
        exact ⟨_, rfl, fun hb => by simp at hb, TT.out⟩
end Go.Proofs.Ytkeglaplckfllaa

/-
  The code's table and the document's tell the same: what is asked of both.
-/
namespace Go.Proofs.Ytkeglaplckfllaa
open Go.RowKit
set_option maxRecDepth 100000
/-- An entry as it was answered. -/
def Ans (eq : Ent) (c : Value) (w : World) (o : Ending) (w1 : World) : Prop :=
  ∃ (a v : Option Addr) (ac vc : Nat), o = .returned (.tuple #[.agg #[.slice a eq.key.length ac, .int .u64 (eq.seq : Nat), .int .i64 eq.kind, .slice v eq.val.length vc], c]) ∧ Bytes w1 (.slice a eq.key.length ac) eq.key ∧ Bytes w1 (.slice v eq.val.length vc) eq.val ∧ Below w.heap.size w w1
theorem ERow.ents2 {w : World} {B : Nat} {v : Value} {R : List Tow} (h : ERow w B v R) (hs : ∀ x, x ∈ R → Bytes w x.kv x.e.key ∧ Bytes w x.vv x.e.val) : ∃ a c, v = .slice a R.length c ∧ Ents w a R := by
  obtain ⟨a, c, rfl⟩ := h.len
  refine ⟨a, c, rfl, fun k x hx => ⟨?_, hs x (List.mem_of_getElem? hx)⟩⟩
  obtain ⟨g, c', e, q0, q1, q2, q3⟩ := h.at_ hx
  obtain rfl : a = some ⟨g, 0, none⟩ := by cases e; rfl
  refine ⟨g, 0, rfl, fun j u hu => ?_⟩
  rw [Nat.zero_add]
  match j, hu with
  | 0, hu => cases hu; exact q0
  | 1, hu => cases hu; exact q1
  | 2, hu => cases hu; exact q2
  | 3, hu => cases hu; exact q3
section
variable {A Q : Nat → Prop} {B : Nat} {w0 w : World} {t bg r : Nat} {ts rs : List Tow} {qa : Option Addr} {qc s : Nat} {q : List (BitVec 8)}
theorem Bot.rkeys (h : Bot A Q B w0 w t bg r ts rs) (hz : sizeT ts ≤ 900000) : ∀ y, y ∈ rs → y.e.key.length ≤ 1000000 := fun y hy => by
  obtain ⟨x, hx, he⟩ := h.al.memE hy
  have := sizeT_mem hx
  rw [he] at this
  omega
theorem Bot.rbytes (h : Bot A Q B w0 w t bg r ts rs) {y : Tow} (hy : y ∈ rs) : Bytes w y.kv y.e.key ∧ Bytes w y.vv y.e.val := by
  obtain ⟨La, Ha, Lc, Hc, _, hE, _⟩ := h.ro
  exact hE.bytes hy
theorem bot_get (h : Bot A Q B w0 w t bg r ts rs) (hq : Bytes w (.slice qa q.length qc) q) (hqn : q.length ≤ 1000000) (hn : ts.length ≤ 10000) (hz : sizeT ts ≤ 900000) :
    ∃ (eq : Ent) (c : Int), (eq.key.length ≤ 1000000 ∧ eq.val.length ≤ 1000000) ∧ Calls Try.prog 18 #[.pointer (some ⟨t, 0, none⟩), .slice qa q.length qc, .int .u64 (s : Nat)] w (Ans eq (.int .i64 c) w) ∧
      ∀ w1, Bot A Q B w0 w1 t bg r ts rs → Bytes w1 (.slice qa q.length qc) q → Calls Try.prog 19 #[.pointer (some ⟨r, 0, none⟩), .slice qa q.length qc, .int .u64 (s : Nat)] w1 (Ans eq (.int .i64 c) w1) := by
  have hl := h.al.len
  have R : ∀ w1, Bot A Q B w0 w1 t bg r ts rs → Bytes w1 (.slice qa q.length qc) q → _ := fun w1 h1 hq1 => rget_any r rs w1 h1.ro.rt qa q.length qc s q hq1 hqn (h.rkeys hz) (by omega)
  rcases h.al.hit (place (q, s) ts) q with ⟨h1, h2⟩ | ⟨x, y, h1, h2, h3, h4, h5, h6⟩
  · refine ⟨⟨[], 0, 0, []⟩, 6, ⟨by simp, by simp⟩, (get_miss A t bg ts w qa q.length qc s q h.tab hq (by omega) (by omega) (fun x hx hk => ?_)).mono ?_, fun w1 hb hq1 => (R w1 hb hq1).mono ?_⟩
    · simp [hitK, hx, hk] at h1
    · rintro o w1 ⟨rfl, b⟩
      exact ⟨none, none, 0, 0, rfl, bytes_none1 _, bytes_none1 _, b⟩
    · rintro o w2 ⟨rfl, b⟩
      rw [← h.al.place, h2]
      exact ⟨none, none, 0, 0, rfl, bytes_none1 _, bytes_none1 _, b⟩
  · have hxm := List.mem_of_getElem? h3
    have hsz := sizeT_mem hxm
    refine ⟨x.e, 0, ⟨by omega, by omega⟩, (get_hit A t bg ts w qa q.length qc s q h.tab hq (by omega) (by omega) x h3 h6).mono ?_, fun w1 hb hq1 => (R w1 hb hq1).mono ?_⟩
    · rintro o w1 ⟨ka', kc', va', vc', rfl, b1, b2, b⟩
      exact ⟨ka', va', kc', vc', rfl, b1, b2, b⟩
    · rintro o w2 ⟨rfl, b⟩
      have hb2 := hb.rbytes (List.mem_of_getElem? h4)
      rw [← h.al.place, h2, h5]
      exact ⟨y.ka, y.va, y.kc, y.vc, rfl, hb2.1.below b, hb2.2.below b, b⟩
theorem bot_seek (h : Bot A Q B w0 w t bg r ts rs) (hqn : q.length ≤ 1000000) (hn : ts.length ≤ 10000) (hz : sizeT ts ≤ 900000) :
    ∃ (eq : Ent) (c : Bool), (eq.key.length ≤ 1000000 ∧ eq.val.length ≤ 1000000) ∧ (∀ w1, Bot A Q B w0 w1 t bg r ts rs → Bytes w1 (.slice qa q.length qc) q → Calls Try.prog 10 #[.pointer (some ⟨t, 0, none⟩), .slice qa q.length qc, .int .u64 (s : Nat)] w1 (Ans eq (.bool c) w1)) ∧
      ∀ w1, Bot A Q B w0 w1 t bg r ts rs → Bytes w1 (.slice qa q.length qc) q → Calls Try.prog 20 #[.pointer (some ⟨r, 0, none⟩), .slice qa q.length qc, .int .u64 (s : Nat)] w1 (Ans eq (.bool c) w1) := by
  have hl := h.al.len
  have R : ∀ w1, Bot A Q B w0 w1 t bg r ts rs → Bytes w1 (.slice qa q.length qc) q → _ := fun w1 h1 hq1 => rseek_any r rs w1 h1.ro.rt qa q.length qc s q hq1 hqn (h.rkeys hz) (by omega)
  rcases h.al.get (place (q, s) ts) with ⟨h1, h2⟩ | ⟨x, y, h3, h4, h5, _⟩
  · refine ⟨⟨[], 0, 0, []⟩, false, ⟨by simp, by simp⟩, fun w1 hb hq1 => seek_any A t bg ts w1 qa q.length qc s q hb.tab hq1 (by omega) (by omega) _ (fun _ w' b => ⟨none, none, 0, 0, rfl, bytes_none1 _, bytes_none1 _, b⟩) (fun x hx => by rw [h1] at hx; cases hx), fun w1 hb hq1 => (R w1 hb hq1).mono ?_⟩
    rintro o w2 ⟨rfl, b⟩
    rw [← h.al.place, h2]
    exact ⟨none, none, 0, 0, rfl, bytes_none1 _, bytes_none1 _, b⟩
  · have hxm := List.mem_of_getElem? h3
    have hsz := sizeT_mem hxm
    refine ⟨x.e, true, ⟨by omega, by omega⟩, fun w1 hb hq1 => seek_any A t bg ts w1 qa q.length qc s q hb.tab hq1 (by omega) (by omega) _ (fun h0 => by rw [h3] at h0; cases h0) (fun x' hx' w' ka' kc' va' vc' b1 b2 b => ?_), fun w1 hb hq1 => (R w1 hb hq1).mono ?_⟩
    · rw [h3] at hx'
      cases hx'
      exact ⟨ka', va', kc', vc', rfl, b1, b2, b⟩
    · rintro o w2 ⟨rfl, b⟩
      have hb2 := hb.rbytes (List.mem_of_getElem? h4)
      rw [← h.al.place, h4, h5]
      exact ⟨y.ka, y.va, y.kc, y.vc, rfl, hb2.1.below b, hb2.2.below b, b⟩
theorem bot_height (h : Bot A Q B w0 w t bg r ts rs) (hqn : q.length ≤ 1000000) (hn : ts.length ≤ 10000) (hz : sizeT ts ≤ 900000) :
    ∃ c : Nat, (∀ w1, Bot A Q B w0 w1 t bg r ts rs → Bytes w1 (.slice qa q.length qc) q → Calls Try.prog 24 #[.pointer (some ⟨t, 0, none⟩), .slice qa q.length qc, .int .u64 (s : Nat)] w1 (fun o w2 => o = .returned (.int .i64 (c : Nat)) ∧ Below w1.heap.size w1 w2)) ∧
      ∀ w1, Bot A Q B w0 w1 t bg r ts rs → Bytes w1 (.slice qa q.length qc) q → Calls Try.prog 25 #[.pointer (some ⟨r, 0, none⟩), .slice qa q.length qc, .int .u64 (s : Nat)] w1 (fun o w2 => o = .returned (.int .i64 (c : Nat)) ∧ Below w1.heap.size w1 w2) := by
  have hl := h.al.len
  refine ⟨_, fun w1 hb hq1 => height_any A t bg ts w1 qa q.length qc s q hb.tab hq1 (by omega), fun w1 hb hq1 => ?_⟩
  have := rheight_any r rs w1 hb.ro.rt qa q.length qc s q hq1 hqn (h.rkeys hz) (by omega)
  rw [← h.al.place, ← h.al.atH] at this
  exact this
theorem bot_steps (h : Bot A Q B w0 w t bg r ts rs) (hqn : q.length ≤ 1000000) (hn : ts.length ≤ 10000) (hz : sizeT ts ≤ 900000) :
    ∃ c : Nat, (∀ w1, Bot A Q B w0 w1 t bg r ts rs → Bytes w1 (.slice qa q.length qc) q → Calls Try.prog 26 #[.pointer (some ⟨t, 0, none⟩), .slice qa q.length qc, .int .u64 (s : Nat)] w1 (fun o w2 => o = .returned (.int .i64 (c : Nat)) ∧ Below w1.heap.size w1 w2)) ∧
      ∀ w1, Bot A Q B w0 w1 t bg r ts rs → Bytes w1 (.slice qa q.length qc) q → Calls Try.prog 27 #[.pointer (some ⟨r, 0, none⟩), .slice qa q.length qc, .int .u64 (s : Nat)] w1 (fun o w2 => o = .returned (.int .i64 (c : Nat)) ∧ Below w1.heap.size w1 w2) := by
  have hl := h.al.len
  refine ⟨_, fun w1 hb hq1 => steps_any A t bg ts w1 qa q.length qc s q hb.tab hq1 (by omega), fun w1 hb hq1 => ?_⟩
  have := rsteps_any r rs w1 hb.ro.rt qa q.length qc s q hq1 hqn (h.rkeys hz) (by omega) (fun y hy => by obtain ⟨x, hx, he⟩ := h.al.memH hy; have := (h.tab.tall x hx).2; omega)
  rw [← h.al.place, ← h.al.seg] at this
  exact this
theorem bot_from (h : Bot A Q B w0 w t bg r ts rs) (hqn : q.length ≤ 1000000) (hn : ts.length ≤ 10000) (hz : sizeT ts ≤ 900000) (N : Int) :
    ∃ L : List Ent, (L.length ≤ 10000 ∧ ∀ e, e ∈ L → e.key.length ≤ 1000000 ∧ e.val.length ≤ 1000000) ∧ (∀ w1, Bot A Q B w0 w1 t bg r ts rs → Bytes w1 (.slice qa q.length qc) q → Calls Try.prog 29 #[.pointer (some ⟨t, 0, none⟩), .slice qa q.length qc, .int .i64 N] w1 (fun o w2 => ∃ a c R, o = .returned (.slice a L.length c) ∧ Ents w2 a R ∧ R.map (·.e) = L ∧ Below w1.heap.size w1 w2)) ∧
      ∀ w1, Bot A Q B w0 w1 t bg r ts rs → Bytes w1 (.slice qa q.length qc) q → Calls Try.prog 30 #[.pointer (some ⟨r, 0, none⟩), .slice qa q.length qc, .int .i64 N] w1 (fun o w2 => ∃ a c R, o = .returned (.slice a L.length c) ∧ Ents w2 a R ∧ R.map (·.e) = L ∧ Below w1.heap.size w1 w2) := by
  have hl := h.al.len
  have hL := h.al.from h.tab.sorted (fun x hx => chk1_seq (h.good x hx)) q N.toNat
  refine ⟨((ts.drop (place (q, 18446744073709551615) ts)).map (·.e)).take N.toNat, ⟨?_, fun e he => ?_⟩, fun w1 hb hq1 => (from_any A t bg ts w1 qa q.length qc q N hb.tab hq1 (by omega) hz).mono ?_, fun w1 hb hq1 => (rfrom_any r rs w1 hb.ro.rt qa q.length qc q N hq1 hqn (h.rkeys hz) (by omega)).mono ?_⟩
  · rw [List.length_take, List.length_map, List.length_drop]
    omega
  · obtain ⟨x, hx, rfl⟩ := List.mem_map.1 (List.mem_of_mem_take he)
    have := sizeT_mem (List.mem_of_mem_drop hx)
    omega
  · rintro o w1 ⟨v, R, rfl, hr, hs, hm, b⟩
    obtain ⟨a, c, rfl, hE⟩ := hr.ents hs
    exact ⟨a, c, R, by rw [← hm, List.length_map], hE, hm, b⟩
  · rintro o w2 ⟨v, rfl, hr, b⟩
    rw [hL]
    obtain ⟨a, c, rfl, hE⟩ := hr.ents2 fun y hy => by
      have hm := (List.mem_filter.1 (List.mem_of_mem_take hy)).1
      have hb2 := hb.rbytes hm
      exact ⟨hb2.1.below b, hb2.2.below b⟩
    exact ⟨a, c, _, by rw [List.length_map], hE, rfl, b⟩
theorem bot_all (h : Bot A Q B w0 w t bg r ts rs) (hn : ts.length ≤ 10000) (hz : sizeT ts ≤ 900000) :
    Calls Try.prog 11 #[.pointer (some ⟨t, 0, none⟩)] w (fun o w1 => ∃ a c R, o = .returned (.slice a ts.length c) ∧ Ents w1 a R ∧ R.map (·.e) = ts.map (·.e) ∧ Below w.heap.size w w1) := by
  refine (all_any A t bg ts w h.tab (fun x hx => chk1_key (h.good x hx)) (by omega) hz).mono ?_
  rintro o w1 ⟨v, R, rfl, hr, hs, hm, b⟩
  obtain ⟨a, c, rfl, hE⟩ := hr.ents hs
  exact ⟨a, c, R, by rw [show ts.length = R.length by simpa using (congrArg List.length hm).symm], hE, hm, b⟩
end
end Go.Proofs.Ytkeglaplckfllaa
