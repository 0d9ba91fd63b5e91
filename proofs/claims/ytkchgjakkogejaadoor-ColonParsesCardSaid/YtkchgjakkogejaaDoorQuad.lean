/- Layer 7: quad.Of and its kin. -/
import Derived.Test.YtkchgjakkogejaaDoorAdV
import Derived.Test.YtkchgjakkogejaaDoorProg
import Derived.WalkKit
import Derived.WalkSpells
import Derived.WalkLawsBesides
import Derived.Lib.Hide
import Derived.Deep.QuietTactic
import Derived.BigQuiet
namespace Go.Proofs.YtkchgjakkogejaaDoor
open Go.RowKit Go
set_option linter.unusedVariables false
set_option maxHeartbeats 1000000 in
theorem of_any (a b c d : UInt8) (w : World) :
    Calls Tryd.prog 33 #[.int .u8 a.toNat, .int .u8 b.toNat, .int .u8 c.toNat, .int .u8 d.toNat] w fun e w' => e = .returned (adV 4 (quad16 a b c d) 0) ∧ Below w.heap.size w w' := by
  have S := Ats.start w
  go_enter Tryd.func33, Tryd.ntmps33
  go_wp2_with (first
    | (refine wpList_allocS rfl _ rfl _ adZero S ?_; clear S; intro g w1 S)
    | (refine wpList_storeS rfl _ _ _ rfl S _ rfl _ rfl 0 _ _ rfl adInfo (by rfl) (by first | exact adCs_one _ _ _ | simp [Value.oneCell']) ?_; clear S; intro w1 S))
  trace_state
  exact bodyPost_ret (v := adV 4 (quad16 a b c d) 0) (results_cellS rfl _ S _ 0 _ _ _ rfl rfl Tryd.underlying25 rfl adInfo) rfl ⟨rfl, S.below⟩
end Go.Proofs.YtkchgjakkogejaaDoor
