/-
  What the rows' list gives (the table of trailing zeros), and a world for the witnesses: of all statements of this seat.
-/
import Derived.Test.YtmhahapmjpbocaaDoorLives
import Derived.Test.YtmhahapmjpbocaaDoorCards
import Derived.Test.YtmhahapmjpbocaaDoorTie
import Derived.ProofKit
import Derived.OpenShut
import Derived.Deep.DeepHandedRow
import Derived.Lib.LaidTab
namespace Go.Proofs.YtmhahapmjpbocaaDoor
open Go.ChangeShapes Go.WideShapes Go.ChangeAt Go.RowKit

theorem own : ownKnob Tryd.prog.godebug = none := by kernel_rfl
/-- The listed table's name. -/
def tabName : String := Rows.crcNamesRow.named.headD ""
theorem gTab : Tryd.prog.globalNamed tabName = some 0 := by kernel_rfl
theorem gTabType : (Tryd.prog.globals[0]?).map (·.type) = some 45 := by kernel_rfl
theorem cells45 : Tryd.prog.cellsOf 45 = 32 := by kernel_rfl
theorem cells5 : Tryd.prog.cellsOf 5 = 1 := by kernel_rfl
theorem tab_of_laid {W : World} (h : laidMetH Tryd.prog Rows.crcNamesRow.laid W) : Tab W := by
  have ht : Lib.TabIs Tryd.prog W tabName .u8 deBruijn := Lib.tabIs_of_head (rest := []) gTab gTabType Tryd.underlying45 Tryd.underlying5 cells5 cells45 h
  intro j hj
  exact ht.cell gTab j hj

/-- A world for the witness: the given one, the table (block 0) holding what its initialiser lays. -/
def laidIn (w : World) : World :=
  { w with heap := w.heap.modify 0 fun
      | .cells _ t frozen => .cells (deBruijn.map fun z => Value.int .u8 z).toArray t frozen
      | o => o }

end Go.Proofs.YtmhahapmjpbocaaDoor
