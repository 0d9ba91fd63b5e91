import Derived.Test.YtkchgjakkogejaaDoorMath01
import Derived.Test.YtkchgjakkogejaaDoorMem
import Derived.Test.YtkchgjakkogejaaDoorProg
import Derived.WalkKit
import Derived.WalkSpells
import Derived.WalkLawsBesides
import Derived.Lib.Hide
namespace Go.Proofs.YtkchgjakkogejaaDoor
open Go.RowKit Go
set_option linter.unusedVariables false
theorem elem5 : Elem1 Tryd.prog 5 (.int .u8 0) 1 := by unfold Elem1; kernel_rfl
def lowRow (s : ByteArray) (k : Nat) : List Value := ((s.data.toList.take k).map lowB).map fun c => Value.int .u8 (c.toNat : Int)
theorem lowRow_step (s : ByteArray) (k : Nat) (hk : k < s.size) (n : Int) (hn : n = lowI s[k].toNat) : lowRow s k ++ [.int .u8 n] = lowRow s (k + 1) := by
  simp only [lowRow]
  rw [take_snoc s k hk]; simp [lowB_int, hn]
theorem lowRow_end {s : ByteArray} {wr : World} {base k : Nat} {v : Value} (h : wr.ownsRow base 5 1 v k (lowRow s k)) (hk : s.size ≤ k) : (convert 47 9 v).run Tryd.prog wr = .ok (.string ⟨(s.data.toList.map lowB).toArray⟩) wr := by
  simp only [lowRow] at h
  rw [List.take_of_length_le (by simpa using hk)] at h
  exact own_string Tryd.underlying47 Tryd.underlying5 Tryd.underlying9 h
end Go.Proofs.YtkchgjakkogejaaDoor
