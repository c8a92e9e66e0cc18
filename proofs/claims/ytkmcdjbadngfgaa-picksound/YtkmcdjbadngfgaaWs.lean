/-
  Small versions: sums in 64 bits.
-/
import Derived.Test.YtkmcdjbadngfgaaPl
namespace Go.Proofs.Ytkmcdjbadngfgaa
open Go.RowKit
set_option maxRecDepth 100000
set_option maxHeartbeats 4000000
def w64 (z : Int) : Int := IntKind.i64.wrap z
theorem wr64 (z : Int) : wrap64 z = IntKind.i64.wrap z := by rw [IntKind.wrap_i64]; unfold wrap64; omega
theorem w64_add (a b : Int) : IntKind.i64.wrap (w64 a + b) = w64 (a + b) := by
  unfold w64
  simp only [IntKind.wrap_i64]
  omega
theorem w64_small (z : Int) (h0 : 0 ≤ z) (h1 : z < 9223372036854775808) : w64 z = z := wrapI z (by omega) h1
def keysN (A : List Fl) : Nat := (A.map fun f => f.least.length + f.most.length).sum
end Go.Proofs.Ytkmcdjbadngfgaa
