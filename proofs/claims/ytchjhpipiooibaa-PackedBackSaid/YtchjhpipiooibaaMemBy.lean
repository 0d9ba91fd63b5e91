/- A text's bytes in a block of their own. -/
import Derived.Test.YtchjhpipiooibaaMem02
import Derived.Test.YtchjhpipiooibaaProg
import Derived.WalkKit
import Derived.WalkSpells
import Derived.WalkLawsBesides
import Derived.Lib.Hide
namespace Go.Proofs.Ytchjhpipiooibaa
open Go.RowKit Go
set_option linter.unusedVariables false
def ByAt (s : ByteArray) (b : Nat) (wr : World) : Prop := b < wr.heap.size ∧ ∀ j (h : j < s.size), wr.cell? ⟨b, j, none⟩ = some (.int .u8 s[j].toNat)
theorem byAt_start (s : ByteArray) (w : World) : ByAt s w.heap.size ((w.alloc (.cells (bytesRow s (grownCap w s.size 0 5)) 5 ((bytesRow s (grownCap w s.size 0 5)).size, (bytesRow s (grownCap w s.size 0 5)).size + 1))).drew) := by
  refine ⟨by simp, fun j hj => ?_⟩
  show (w.alloc _).cell? _ = _
  rw [World.cell?_alloc_mark, bytesRow_at _ _ _ (by simpa using hj)]
  rfl
end Go.Proofs.Ytchjhpipiooibaa
