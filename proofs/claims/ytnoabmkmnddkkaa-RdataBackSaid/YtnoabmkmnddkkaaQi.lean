/- Texts behind a law of this seat, in order: AdOpen. -/
import Derived.Test.YtnoabmkmnddkkaaPa
import Derived.Test.YtnoabmkmnddkkaaPb
import Derived.Test.YtnoabmkmnddkkaaPc
import Derived.Test.YtnoabmkmnddkkaaPd
import Derived.Test.YtnoabmkmnddkkaaPg
import Derived.Test.YtnoabmkmnddkkaaPy
import Derived.Test.YtnoabmkmnddkkaaPz
import Derived.Below
import Derived.ChangeSame
import Derived.ChangeSlices
import Derived.Deep.AppendLies
import Derived.Deep.Draws
import Derived.Deep.RegionLaw
import Derived.Great.Ranges
import Derived.Handed
import Derived.Laws.OwnMore
import Derived.Laws.Rows
import Derived.Laws.StructEq
import Derived.Lib.ItoaNum
import Derived.Lib.Split
import Derived.Lib.SplitLaws
import Derived.Lib.Strings
import Derived.OpenShut
import Derived.SizedLaws
import Derived.SliceStrings
import Derived.Stop.BytesEq
import Derived.Test.YtnoabmkmnddkkaaProg
import Derived.WalkKit
import Derived.WalkLawsBesides
import Derived.WalkSpells
namespace Go.Proofs.Ytnoabmkmnddkkaa
open Go.RowKit Go Go.ChangeShapes Go.WideShapes
set_option linter.unusedVariables false
set_option maxRecDepth 100000
def backU : Value → UInt8
  | .int _ n => UInt8.ofNat n.toNat
  | _ => 0
theorem backU_cellU (b : UInt8) : backU (cellU b) = b := by
  simp [backU, cellU]
theorem back_all (l : List Value) (h : ∀ x ∈ l, ∃ b : UInt8, x = cellU b) : (l.map backU).map cellU = l := by
  induction l with
  | nil => rfl
  | cons x l ih =>
    obtain ⟨b, rfl⟩ := h x (by simp)
    rw [List.map_cons, List.map_cons, backU_cellU, ih fun y hy => h y (by simp [hy])]
theorem one_of_take {α : Type} {l : List α} {x : α} (h : l.take 1 = [x]) : l[0]? = some x := by
  have := congrArg (·[0]?) h
  simpa using this
end Go.Proofs.Ytnoabmkmnddkkaa
