/- The law of layer 10: what is put is read. -/
import Derived.Test.YtnomjjiohdinlaaOctet5
namespace Go.Proofs.Ytnomjjiohdinlaa
open Go.RowKit Go
set_option linter.unusedVariables false
theorem Ats.born {B : Nat} {w0 w w' : World} {L : List (Nat × TypeId × Array Value)} (S : Ats B w0 w L) {g : Nat} {t : TypeId} {cs : Array Value} (hg : w.heap.size ≤ g) (ha : At w' g t cs) (hb : Below w.heap.size w w') : Ats B w0 w' ((g, t, cs) :: L) := by
  have S2 := S.call hb
  refine ⟨S2.below, S2.big, fun x h => ?_, ?_⟩
  · rcases List.mem_cons.1 h with rfl | h
    · exact ⟨Nat.le_trans S.big hg, ha⟩
    · exact S2.at_ x h
  · rw [List.map_cons, List.nodup_cons]
    refine ⟨fun h => ?_, S.apart⟩
    obtain ⟨x, hx, he⟩ := List.mem_map.1 h
    have := (S.at_ x hx).2.lt
    simp only at he
    omega
theorem ocNumT_all (k : Nat) (m n : Int) (l : List UInt8) (hk : k = ocWide m) : ocNumT (ocT k n ++ l) 0 m = (ocN (ocT k n), l, 0) := by
  unfold ocNumT
  have := ocTake_all (ocT k n) l
  rw [ocT_len, hk] at this
  rw [hk, this]
theorem ocShl (k : Nat) (h : k ≤ 4) : IntKind.i64.wrap (2 ^ (8 * k)) = 256 ^ k := by
  rcases (show k = 0 ∨ k = 1 ∨ k = 2 ∨ k = 3 ∨ k = 4 by omega) with rfl | rfl | rfl | rfl | rfl <;> decide
end Go.Proofs.Ytnomjjiohdinlaa
