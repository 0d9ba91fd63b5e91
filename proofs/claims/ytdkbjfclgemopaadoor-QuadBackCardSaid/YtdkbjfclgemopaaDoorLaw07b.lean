/- The law of layer 7, at an address as it came in. -/
import Derived.Test.YtdkbjfclgemopaaDoorLaw07
import Derived.Test.YtdkbjfclgemopaaDoorAdOpen
namespace Go.Proofs.YtdkbjfclgemopaaDoor
open Go.RowKit Go
set_option linter.unusedVariables false
theorem quadBack_law {H : Type} {enc : TypeId × Value → H} {d0 : DataW H} {p0 : List MemPlace} {base : Nat} (v0 : Value) (W : World) (o0 : Value.okWide Tryd.prog W .any base 24 v0)
    (k0 : DataW.Trod enc Tryd.prog W 0 (fun _ => true) true 24 v0 d0 p0) (hP : P10 W) :
    Calls Tryd.prog 3 #[v0] W fun e w' => e = .returned (.bool true) ∧ Below W.heap.size W w' := by
  obtain ⟨f, z, ip, rfl, hip, _, _⟩ := open_ad o0 k0
  exact back07_any f z ip W hip hP
end Go.Proofs.YtdkbjfclgemopaaDoor
