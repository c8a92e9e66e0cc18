/-
  A copy of bytes (append onto an empty slice): new memory that holds the same bytes.
-/
import Derived.Test.YtmhahapmjpbocaaDoorLives
import Derived.Deep.AppendSrc
namespace Go.Proofs.YtmhahapmjpbocaaDoor
open Go.RowKit

section
variable {P : Program}
/-- An append whose outcome is known. -/
theorem wpList_append_run {ops : Array Oper} {rest : List Oper} {o : Oper} {a : Act} {w : World} {Q : Exit → Act → World → Prop} (hgd : o.guard = none) (s x : Operand) (t : TypeId)
    (ho : o.op = .call { callee := .builtin .append, args := #[s, x], argTypes := #[t, t] }) (vs vx : Value) (hs : a.eval s = vs) (hx : a.eval x = vx) (v : Value) (w' : World)
    (hr : (Builtin.append_ #[t, t] o.type #[vs, vx]).run P w = .ok v w') (h : wpList P ops Q rest (a.put o.dst v) w') : wpList P ops Q (o :: rest) a w :=
  wpList_plain hgd fun K hK => by
    unfold Oper.wp execOp
    simp only [ho, resolve, invoke, builtin, Sem.run_bind, Sem.run_pure, Result.andThen_ok, List.map_toArray, List.map_cons, List.map_nil, hs, hx, hr]
    exact hK _ _ h
end

/-- The cells of bytes. -/
def cellsOf (bs : List (BitVec 8)) : List Value := bs.map fun b => .int .u8 (b.toNat : Int)

theorem info5 : Tryd.prog.info? 5 = some Tryd.t5 := by kernel_rfl
theorem size5 : Tryd.t5.size = 1 := by kernel_rfl
theorem bytes5 : Tryd.t5.bytes = 1 := by kernel_rfl
theorem zero5 : Tryd.t5.zero = some (.int .u8 0) := by kernel_rfl

/-- What an append of those bytes yields. -/
theorem src_of_bytes {w : World} {a : Option Addr} {c : Nat} {bs : List (BitVec 8)} (h : ∀ k, k < bs.length → ∃ b off, a = some ⟨b, off, none⟩ ∧ w.cell? ⟨b, off + k, none⟩ = some (.int .u8 ((bs.getD k 0).toNat : Int))) :
    Src Tryd.prog Tryd.t5.size 27 (.slice a bs.length c) bs.length (cellsOf bs) w := by
  cases a with
  | none =>
    have hz : bs.length = 0 := by
      rcases Nat.eq_zero_or_pos bs.length with h0 | h0
      · exact h0
      · obtain ⟨_, _, ha, _⟩ := h 0 h0; cases ha
    obtain rfl : bs = [] := by simpa using hz
    exact Src.ofNil w Tryd.underlying27 c
  | some ad =>
    refine Src.ofSlice w Tryd.underlying27 ad _ c _ (by simp [cellsOf, size5]) (fun j u hu => ?_) (fun u hu => ?_)
    · have hj : j < bs.length := by
        rcases Nat.lt_or_ge j bs.length with hl | hl
        · exact hl
        · rw [List.getElem?_eq_none (by simpa [cellsOf] using hl)] at hu; cases hu
      obtain ⟨b, off, ha, hc⟩ := h j hj
      obtain rfl : ad = ⟨b, off, none⟩ := by simpa using ha
      rw [Go.WideShapes.add_plain, hc]
      simpa [cellsOf, hj] using hu
    · obtain ⟨b, _, rfl⟩ := List.mem_map.1 hu
      rfl

/-- Bytes at the head of a row of their own. -/
def RowOf (w : World) (g : Nat) (bs : List (BitVec 8)) : Prop :=
  ∃ cs : Array Value, w.heap[g]? = some (.cells cs 5 (0, 0)) ∧ ∀ k, k < bs.length → cs[k]? = some (.int .u8 ((bs.getD k 0).toNat : Int))

theorem RowOf.bytes {w : World} {g c : Nat} {bs : List (BitVec 8)} (h : RowOf w g bs) : Bytes w (.slice (some ⟨g, 0, none⟩) bs.length c) bs := by
  obtain ⟨cs, h1, h2⟩ := h
  exact ⟨_, c, rfl, fun k hk => ⟨g, 0, rfl, by rw [Nat.zero_add, cell_of_row w g k cs 5 (0, 0) h1, h2 k hk]⟩⟩
theorem RowOf.below {w w' : World} {g : Nat} {bs : List (BitVec 8)} (h : RowOf w g bs) (hb : Below w.heap.size w w') : RowOf w' g bs := by
  obtain ⟨cs, h1, h2⟩ := h
  exact ⟨cs, heap_keep hb h1, h2⟩

set_option maxHeartbeats 400000 in
theorem own_any (v : Value) (bs : List (BitVec 8)) (w : World) (h : Bytes w v bs) (hn : bs.length ≤ 3000) :
    Calls Tryd.prog 11 #[v] w fun e w' => ∃ g c, e = .returned (.slice (some ⟨g, 0, none⟩) bs.length c) ∧ w.heap.size ≤ g ∧ RowOf w' g bs ∧ Below w.heap.size w w' := by
  obtain ⟨a, c, rfl, hc⟩ := h
  have hb : Below w.heap.size w (w.alloc (.cells #[] 5)) := (Below.refl _ _).alloc (Nat.le_refl _) _
  have hc' : ∀ k, k < bs.length → ∃ b off, a = some ⟨b, off, none⟩ ∧ (w.alloc (.cells #[] 5)).cell? ⟨b, off + k, none⟩ = some (.int .u8 ((bs.getD k 0).toNat : Int)) := fun k hk => by
    obtain ⟨b, off, ha, hcell⟩ := hc k hk
    exact ⟨b, off, ha, by rw [hb.cell (p := ⟨b, off + k, none⟩) (block_lt_of_cell hcell), hcell]⟩
  have hsrc := src_of_bytes (c := c) hc'
  have hg0 := heap_alloc_new w (.cells #[] 5)
  have hz1 : (w.alloc (.cells #[] 5)).heap.size = w.heap.size + 1 := by simp
  clear hc hc'
  rcases Nat.eq_zero_or_pos bs.length with h0 | h0
  · obtain rfl : bs = [] := by simpa using h0
    have hr := run_append_room_src (P := Tryd.prog) (w.alloc (.cells #[] 5)) 27 27 27 5 Tryd.t5 Tryd.underlying27 info5 w.heap.size 0 0 0 _ _ _ hsrc (by simp) (fun j hj => by simp [cellsOf] at hj) (fun j hj => by simp [cellsOf] at hj)
    have HR := hide hr
    have HB := hide hb
    have HG := hide hg0
    clear hr hsrc hb hg0 hz1
    go_enter Tryd.func11, Tryd.ntmps11
    go_wp2_with (at_builtin; refine wpList_append_run rfl _ _ 27 rfl _ _ rfl rfl _ _ HR.out ?_)
    go_ret
    exact ⟨w.heap.size, 0, rfl, Nat.le_refl _, ⟨#[], HG.out, fun k hk => by simp at hk⟩, HB.out⟩
  · have hold : (Builtin.firstCells Tryd.t5.size 0 (.slice (some ⟨w.heap.size, 0, none⟩) 0 0)).run Tryd.prog (w.alloc (.cells #[] 5)).drew = .ok ([] : List Value).toArray (w.alloc (.cells #[] 5)).drew :=
      run_firstCells_some _ _ 0 _ 0 0 [] (by simp) (fun j v hv => by simp at hv)
    have hcap : Builtin.nextslicecap (0 + bs.length) 0 = bs.length := by
      unfold Builtin.nextslicecap
      rw [if_pos (by omega)]
      omega
    have hr := run_append_grow_src (P := Tryd.prog) (w.alloc (.cells #[] 5)) 27 27 27 5 Tryd.t5 (.int .u8 0) Tryd.underlying27 info5 zero5 (some ⟨w.heap.size, 0, none⟩) 0 0 [] hold _ _ _ hsrc (by omega) (by omega) (by rw [hcap, bytes5]; omega)
    rw [hz1, Nat.zero_add, List.nil_append] at hr
    generalize grownCap (w.alloc (.cells #[] 5)) bs.length 0 5 = cp at *
    have hrow : RowOf ((w.alloc (.cells #[] 5)).drew.alloc (.cells ((cellsOf bs).toArray ++ Builtin.zeroCells (Value.int .u8 0).cells (cp - bs.length)) 5)) (w.heap.size + 1) bs := by
      refine ⟨(cellsOf bs).toArray ++ Builtin.zeroCells (Value.int .u8 0).cells (cp - bs.length), ?_, fun k hk => ?_⟩
      · have := heap_alloc_new (w.alloc (.cells #[] 5)).drew (.cells ((cellsOf bs).toArray ++ Builtin.zeroCells (Value.int .u8 0).cells (cp - bs.length)) 5)
        rw [show (w.alloc (.cells #[] 5)).drew.heap.size = w.heap.size + 1 from hz1] at this
        exact this
      · rw [Array.getElem?_append_left (by simpa [cellsOf] using hk)]
        simp [cellsOf, hk]
    have hb2 := hb.drew.alloc (Nat.le_trans (Nat.le_succ _) (Nat.le_of_eq hz1.symm)) (.cells ((cellsOf bs).toArray ++ Builtin.zeroCells (Value.int .u8 0).cells (cp - bs.length)) 5)
    generalize (w.alloc (.cells #[] 5)).drew.alloc (.cells ((cellsOf bs).toArray ++ Builtin.zeroCells (Value.int .u8 0).cells (cp - bs.length)) 5) = w2 at *
    have HR := hide hr
    have HW := hide hrow
    have HB := hide hb2
    clear hr hsrc hb hg0 hz1 hold hcap hb2 hrow
    generalize hn' : bs.length = n at *
    go_enter Tryd.func11, Tryd.ntmps11
    go_wp2_with (at_builtin; refine wpList_append_run rfl _ _ 27 rfl _ _ rfl rfl _ _ HR.out ?_)
    go_ret
    exact ⟨w.heap.size + 1, cp, rfl, Nat.le_succ _, HW.out, HB.out⟩

end Go.Proofs.YtmhahapmjpbocaaDoor
