/- Texts behind a law of this seat, in order: Dom. -/
import Derived.Test.YthbdeafbdmbabaaDoorPb
import Derived.Test.YthbdeafbdmbabaaDoorPd
import Derived.BigQuiet
import Derived.Deep.QuietTactic
import Derived.Handed
import Derived.Handy
import Derived.Lib.Hide
import Derived.Lib.Strings
import Derived.SizedLaws
import Derived.SliceStrings
import Derived.Test.YthbdeafbdmbabaaDoorProg
import Derived.WalkKit
import Derived.WalkLawsBesides
import Derived.WalkSpells
namespace Go.Proofs.YthbdeafbdmbabaaDoor
open Go.RowKit Go
set_option linter.unusedVariables false
theorem size_take (l : List (List UInt8)) (k : Nat) (h : k < l.length) : sizeL (l.take (k + 1)) = sizeL (l.take k) + (l[k].length + 1) := by
  unfold sizeL
  rw [List.take_succ_eq_append_getElem h, List.map_append, List.sum_append]
  simp only [List.map_cons, List.map_nil, List.sum_cons, List.sum_nil]
  omega
theorem size_app (a b : List (List UInt8)) : sizeL (a ++ b) = sizeL a + (sizeL b - 1) := by
  unfold sizeL; simp; omega
theorem size_mono (l : List (List UInt8)) (k : Nat) : sizeL (l.take k) ≤ sizeL l := by
  have := size_app (l.take k) (l.drop k)
  rw [List.take_append_drop] at this
  omega
theorem size_len (l : List (List UInt8)) : l.length + 1 ≤ sizeL l := by
  unfold sizeL
  induction l with
  | nil => simp
  | cons a l ih => simp at ih ⊢; omega
theorem size_at (l : List (List UInt8)) (k : Nat) (h : k < l.length) : sizeL (l.take k) + (l[k].length + 1) ≤ sizeL l := by
  rw [← size_take l k h]; exact size_mono l _
end Go.Proofs.YthbdeafbdmbabaaDoor
