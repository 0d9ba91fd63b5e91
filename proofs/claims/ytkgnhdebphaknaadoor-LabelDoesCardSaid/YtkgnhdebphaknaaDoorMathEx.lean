/- Punycode of one text, reckoned. -/
import Derived.Test.YtkgnhdebphaknaaDoorMath06
namespace Go.Proofs.YtkgnhdebphaknaaDoor
open Go.RowKit
set_option linter.unusedVariables false
theorem figs_ex : figs 745 1 72 = [107, 118, 97] := by
  rw [figs_go (by decide), figs_go (by decide), figs_end (by decide)]
  decide +kernel
theorem enc_ex : encE [98, 252, 99, 104, 101, 114] = ([98, 99, 104, 101, 114, 45, 107, 118, 97], 0) := by
  refine encE_ok (by decide) (by decide) ?_
  have h1 : leastI [98, 252, 99, 104, 101, 114] 128 = 252 := by decide
  have h2 : hyp (basL [98, 252, 99, 104, 101, 114]) = [98, 99, 104, 101, 114, 45] := by decide +kernel
  have h3 : ((basL [98, 252, 99, 104, 101, 114]).length : Int) = 5 := by decide +kernel
  unfold encO
  rw [h2, h3]
  have hr : rnd (leastI [98, 252, 99, 104, 101, 114] 128) 5 [98, 252, 99, 104, 101, 114] ([98, 99, 104, 101, 114, 45], 0 + (leastI [98, 252, 99, 104, 101, 114] 128 - 128) * (5 + 1), 72, 5) = some ([98, 99, 104, 101, 114, 45, 107, 118, 97], 4, adp 745 6 true, 6) := by
    rw [h1]
    rw [rnd_pass (by decide) (by decide), rnd_put (by decide) (by decide), rnd_pass (by decide) (by decide), rnd_pass (by decide) (by decide), rnd_pass (by decide) (by decide), rnd_pass (by decide) (by decide)]
    have e : upS 252 252 (upS 252 98 (0 + (252 - 128) * (5 + 1))) = 745 := by decide
    simp only [e, figs_ex]
    simp [rnd]
    decide
  rw [encL_go (by decide) hr]
  exact encL_end (by decide)
theorem dec_ex : decE [66, 99, 104, 101, 114, 45, 75, 86, 65] = ([66, 252, 99, 104, 101, 114], 0) := by
  rw [decE_go (by decide) (by decide +kernel) (by decide +kernel)]
  have h1 : preL [66, 99, 104, 101, 114, 45, 75, 86, 65] = [66, 99, 104, 101, 114] := by decide +kernel
  have h2 : ([66, 99, 104, 101, 114, 45, 75, 86, 65] : List UInt8).drop (hyf [66, 99, 104, 101, 114, 45, 75, 86, 65]) = [75, 86, 65] := by decide +kernel
  have h3 : ptsL [66, 99, 104, 101, 114] = [66, 99, 104, 101, 114] := by decide +kernel
  rw [h1, h2, h3]
  have hn : numb 72 [75, 86, 65] 1 0 1 = (0, 745, []) := by decide +kernel
  have hp : putS 745 ([66, 99, 104, 101, 114], 128, 0, 72, true) = (0, ([66, 252, 99, 104, 101, 114], 252, 2, adp 745 6 true, false)) := by
    rw [putS_ok (by decide) (by decide) (by decide)]
    refine Prod.ext rfl (Prod.ext (by decide) (Prod.ext (by decide) (Prod.ext (by decide) (Prod.ext ?_ rfl))))
    rfl
  obtain ⟨f', h4, _, _⟩ := decL_go (f := 9) (by decide) (by simp) hn hp
  rw [show ([66, 99, 104, 101, 114, 45, 75, 86, 65] : List UInt8).length = 9 from rfl, h4, decL_end]
end Go.Proofs.YtkgnhdebphaknaaDoor
