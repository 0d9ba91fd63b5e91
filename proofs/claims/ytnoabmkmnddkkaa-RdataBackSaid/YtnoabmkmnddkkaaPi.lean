/- Texts behind a law of this seat, in order: MemBy. -/
import Derived.Test.YtnoabmkmnddkkaaPa
import Derived.Test.YtnoabmkmnddkkaaPb
import Derived.Test.YtnoabmkmnddkkaaPc
import Derived.ChangeSlices
import Derived.Handed
import Derived.Lib.Hide
import Derived.Lib.Strings
import Derived.SizedLaws
import Derived.SliceStrings
import Derived.Test.YtnoabmkmnddkkaaProg
import Derived.WalkKit
import Derived.WalkLawsBesides
import Derived.WalkSpells
namespace Go.Proofs.Ytnoabmkmnddkkaa
open Go.RowKit Go
set_option linter.unusedVariables false
def ByAt (s : ByteArray) (b : Nat) (wr : World) : Prop := b < wr.heap.size ∧ ∀ j (h : j < s.size), wr.cell? ⟨b, j, none⟩ = some (.int .u8 s[j].toNat)
theorem byAt_start (s : ByteArray) (w : World) : ByAt s w.heap.size ((w.alloc (.cells (bytesRow s (grownCap w s.size 0 5)) 5 ((bytesRow s (grownCap w s.size 0 5)).size, (bytesRow s (grownCap w s.size 0 5)).size + 1))).drew) := by
  refine ⟨by simp, fun j hj => ?_⟩
  show (w.alloc _).cell? _ = _
  rw [World.cell?_alloc_mark, bytesRow_at _ _ _ (by simpa using hj)]
  rfl
end Go.Proofs.Ytnoabmkmnddkkaa
