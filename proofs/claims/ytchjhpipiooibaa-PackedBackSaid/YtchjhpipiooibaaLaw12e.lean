/- Layer 12: the law of what is put and got, at any arguments. -/
import Derived.Test.YtchjhpipiooibaaLaw12d
namespace Go.Proofs.Ytchjhpipiooibaa
open Go.RowKit Go
set_option linter.unusedVariables false
theorem packedBack_law {H : Type} {enc : TypeId × Value → H} {d1 : DataW H} {p1 : List MemPlace} {base : Nat} (first : ByteArray) (v1 : Value) (W : World) {q0 q1 : Prop} (_ : q0) (_ : q1) (o1 : Value.okWide Try.prog W .any base 32 v1)
    (k1 : DataW.Trod enc Try.prog W 0 (fun _ => true) true 32 v1 d1 p1) (z1 : (d1.weights Try.prog 32).all (· ≤ reachBytes) = true) :
    Calls Try.prog 5 #[.string first, v1] W fun e w' => e = .returned (.bool true) ∧ Below W.heap.size W w' := by
  obtain ⟨A, n, c, rfl⟩ := Go.WideShapes.okWide_slice Try.underlying32 o1
  obtain ⟨L, hL⟩ := open_names Try.underlying32 Try.underlying24 Try.underlying9 (by kernel_rfl) (by kernel_rfl) k1 z1
  exact back_core first A n c L W hL
end Go.Proofs.Ytchjhpipiooibaa
