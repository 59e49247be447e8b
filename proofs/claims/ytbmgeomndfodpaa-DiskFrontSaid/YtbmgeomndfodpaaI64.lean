/-
  A number as a cell.
-/
import Derived.Test.YtbmgeomndfodpaaMem
namespace Go.Mem
def I64 (x : Int) : Value := .int .i64 x
theorem I64_eq (x : Int) : I64 x = .int .i64 x := rfl
end Go.Mem
