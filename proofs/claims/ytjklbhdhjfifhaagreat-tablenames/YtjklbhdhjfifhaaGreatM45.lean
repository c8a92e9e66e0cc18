import Derived.Test.YtjklbhdhjfifhaaGreatM44
/-
  Parts put together: what build takes.
-/
namespace Go.Proofs.YtjklbhdhjfifhaaGreat
open Go.RowKit Go.Shelf
set_option maxRecDepth 100000
set_option maxHeartbeats 4000000
theorem pbox_set {w : World} {G N Z : Nat} {y0 y1 : Value} {a : Option Addr} {c : Nat} {bs : List (BitVec 8)} (hg : w.heap[G]? = some (.cells #[y0, y1] 119 (0, 0))) (hf : Fresh N w (.slice a Z c) bs) (hZ : bs.length = Z) :
    PBox ((w.setCell ⟨G, 0, none⟩ (.slice a Z c)).setCell ⟨G, 1, none⟩ (.int .i64 0)) G N bs ∧ Turns (fun k => k = G) w ((w.setCell ⟨G, 0, none⟩ (.slice a Z c)).setCell ⟨G, 1, none⟩ (.int .i64 0)) := by
  subst hZ
  have T := ((Tick.refl hg).set 0 (.slice a bs.length c)).set 1 (.int .i64 0)
  have t := Turns.of_tick T
  exact ⟨⟨a, c, by simpa using T.1, hf.keep5 t fun k hk => .inr (by obtain rfl : k = G := hk; exact ⟨_, 119, _, hg, by decide⟩)⟩, t⟩
theorem pbox_new {w : World} {N : Nat} {a : Option Addr} {c : Nat} {bs : List (BitVec 8)} (hf : Fresh N w (.slice a bs.length c) bs) : PBox (w.alloc (.cells #[.slice a bs.length c, .int .i64 0] 119)) w.heap.size N bs :=
  ⟨a, c, heap_alloc_new _ _, hf.turns ((Turns.refl (fun _ => False) w).alloc _) (fun _ _ x => x)⟩
theorem tog_ok (A N : Nat) (xs : List Pt) (u : World) (h : u.heap[A]? = some (.cells (ptCells xs).toArray 119 (0, 0))) (hf : ∀ x ∈ xs, Fresh N u x.v x.bs ∧ 0 < x.bs.length) (hn : xs.length ≤ 1000) (bs : List (BitVec 8)) (hbs : allB xs = bs) (hl : bs.length ≤ 100000000) (hN : N ≤ u.heap.size) (k : Nat) (hk : k = xs.length) :
    Calls Tryz.prog 72 #[.slice (some ⟨A, 0, none⟩) k k] u fun e w' => ∃ a c, e = .returned (.agg #[.slice a bs.length c, .int .i64 0]) ∧ Fresh N w' (.slice a bs.length c) bs ∧ Below u.heap.size u w' := by
  subst hk
  subst hbs
  refine (together_ok _ _ _ xs u (pts_new h fun x hx => ⟨(hf x hx).1.bytes, (hf x hx).2⟩) rfl (by omega) hl).mono ?_
  rintro e w' ⟨v, rfl, hp, hb⟩
  obtain ⟨a, c, rfl, hfr⟩ := hp.pt
  exact ⟨a, c, rfl, hfr.le hN, hb⟩
theorem framedPN (k : BitVec 8) (a : Option Addr) (c N : Nat) (body : List (BitVec 8)) (u : World) (h : Fresh N u (.slice a body.length c) body) (hn : body.length ≤ 1048576) (hN : N ≤ u.heap.size) :
    Calls Tryz.prog 68 #[.int .u8 k.toNat, .agg #[.slice a body.length c, .int .i64 0]] u fun e w' => ∃ a c, e = .returned (.agg #[.slice a (Fr.frameB k body).length c, .int .i64 0]) ∧ Fresh N w' (.slice a (Fr.frameB k body).length c) (Fr.frameB k body) ∧ Below u.heap.size u w' := by
  refine (framed_ok k a body.length c body u h.bytes hn).mono ?_
  rintro e w' ⟨v, rfl, hp, hb⟩
  obtain ⟨a, c, rfl, hfr⟩ := hp.pt
  exact ⟨a, c, rfl, hfr.le hN, hb⟩
theorem endPartN (x N : Nat) (hx : x < 9223372036854775808) (u : World) (hN : N ≤ u.heap.size) (bs : List (BitVec 8)) (hbs : ordB x ++ markB = bs) :
    Calls Tryz.prog 74 #[.int .i64 x] u fun e w' => ∃ a c, e = .returned (.agg #[.slice a bs.length c, .int .i64 0]) ∧ Fresh N w' (.slice a bs.length c) bs ∧ Below u.heap.size u w' := by
  subst hbs
  refine (endOf_ok x hx u).mono ?_
  rintro e w' ⟨v, rfl, hp, hb⟩
  obtain ⟨a, c, rfl, hfr⟩ := hp.pt
  exact ⟨a, c, rfl, hfr.le hN, hb⟩
theorem makeFN (l : List Tow) (bits N : Nat) (hl : l.length ≤ 200) (h1 : 1 ≤ bits) (h2 : bits ≤ 32) (hf : Good l) (va : Option Addr) (vn vc : Nat) (u : World) (hk : Keys u (.slice va vn vc) ((ksT l l.length).map (·.e.key))) (hN : N ≤ u.heap.size) (flt : List (BitVec 8)) (hflt : fltT l bits = flt) :
    Calls Tryz.prog 70 #[.slice va vn vc, .int .i64 (bits : Nat)] u fun e w' => ∃ a c, e = .returned (.tuple #[.slice a flt.length c, .int .i64 0]) ∧ Fresh N w' (.slice a flt.length c) flt ∧ Below u.heap.size u w' := by
  subst hflt
  have h3 := ksT_len l l.length
  have h4 : ((ksT l l.length).map (·.e.key)).length * bits ≤ 200 * 32 := Nat.mul_le_mul (by rw [List.length_map]; omega) h2
  refine (make_ok va vn vc _ bits u hk (fun x hx => ?_) h1 (by omega) (by omega)).mono ?_
  · obtain ⟨t, ht, rfl⟩ := List.mem_map.1 hx
    have h9 := (chk1_fine (hf _ (ksT_mem ht)).1).2.2.2.2.1
    omega
  · rintro e w' ⟨rfl, hfr, hb⟩
    rw [← filt_length]
    exact ⟨_, _, rfl, .inr ⟨u.heap.size, _, _, rfl, rfl, Nat.le_refl _, hN, hfr.row (Nat.le_refl _)⟩, hb⟩
theorem bodyPN (bx N : Nat) (pv : Value) (pl : List Plc) (n lo hi : Nat) (la ma : Option Addr) (lc mc : Nat) (least most : List (BitVec 8)) (s0 s1 : Value) (B : Nat) (w : World)
    (hx : w.heap[bx]? = some (.cells #[pv, .int .i64 (n : Nat), s0, s1, .slice la least.length lc, .slice ma most.length mc, .int .u64 (lo : Nat), .int .u64 (hi : Nat)] 55 (0, 0)))
    (hp : PRow w B pv pl) (hk : ∀ q ∈ pl, Bytes w q.t.kv q.t.e.key ∧ q.t.e.key.length ≤ 900000 ∧ q.t.e.seq < 18446744073709551616 ∧ q.pos < 9223372036854775808 ∧ q.size < 9223372036854775808)
    (hla : Bytes w (.slice la least.length lc) least) (hma : Bytes w (.slice ma most.length mc) most) (hlb : least.length ≤ 900000) (hmb : most.length ≤ 900000) (hn : n < 9223372036854775808) (hlo : lo < 18446744073709551616) (hhi : hi < 18446744073709551616) (hpl : pl.length ≤ 10000)
    (bs : List (BitVec 8)) (hbs : bs = short pl.length ++ (pl.flatMap plcB ++ (short n ++ (short lo ++ (short hi ++ (pieceB least ++ pieceB most)))))) (hI : bs.length ≤ 10000000) (u : World) (t : Turns (fun _ => False) w u) (hN : N ≤ w.heap.size) :
    Calls Tryz.prog 73 #[.pointer (some ⟨bx, 0, none⟩)] u fun e w' => ∃ a c, e = .returned (.agg #[.slice a bs.length c, .int .i64 0]) ∧ Fresh N w' (.slice a bs.length c) bs ∧ Turns (fun _ => False) u w' := by
  obtain ⟨pa, pc, rfl⟩ := hp.len
  refine (body_any bx pa pc pl B n lo hi la ma lc mc least most s0 s1 u (t.heap hx (fun x => x)) (hp.keep t (fun _ _ x => x)) (fun q hq => ⟨(hk q hq).1.quiet t, (hk q hq).2⟩) (hla.quiet t) (hma.quiet t) hlb hmb hn hlo hhi hpl bs hbs hI).mono ?_
  rintro e w' ⟨v, rfl, hp, hb⟩
  obtain ⟨a, c, rfl, hfr⟩ := hp.pt
  exact ⟨a, c, rfl, hfr.le (Nat.le_trans hN t.size), hb⟩
theorem Keys.quiet {w w' : World} {v : Value} {ks : List (List (BitVec 8))} (h : Keys w v ks) (t : Turns (fun _ => False) w w') : Keys w' v ks := h.below (t.below (Nat.le_refl _) (fun _ x => x.elim))
end Go.Proofs.YtjklbhdhjfifhaaGreat
