/- The cell of the library's MaxLen, as a row's claim gives it. -/
import Derived.Test.YtkchgjakkogejaaDoorColon9
import Derived.Shelf.Vars
namespace Go.Proofs.YtkchgjakkogejaaDoor
open Go.RowKit Go
theorem mx_of {W : World} (h : W.ShapedOpen Tryd.prog) : MX W :=
  cell_of_shapedOpen_int (g := 0) (t := 3) (zero := #[.int .i64 0]) h (of_decide_eq_true (by kernel_rfl)) (by kernel_rfl) rfl (by kernel_rfl) (by kernel_rfl) Tryd.underlying3
end Go.Proofs.YtkchgjakkogejaaDoor
