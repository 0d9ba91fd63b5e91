/- Texts behind a law of this seat, in order: OpenTr. -/
import Derived.Test.YtnoabmkmnddkkaaPa
import Derived.ChangeSame
import Derived.Lib.Strings
import Derived.OpenShut
import Derived.WalkKit
/- Structs and arrays that came in, opened cell by cell. -/
namespace Go.Proofs.Ytnoabmkmnddkkaa
open Go.RowKit Go Go.ChangeShapes Go.WideShapes
set_option linter.unusedVariables false
section
variable {H : Type} {enc : TypeId × Value → H} {P : Program} {W : World} {base : Nat} {sp : Nat → Bool} {n : Nat} {t : TypeId} {c : Value} {i : Nat} {xs : List (DataW H × List MemPlace)}
theorem tr_int {k : IntKind} (ht : P.underlying t = some (.int k)) (h : DataW.trod enc P W base sp true n t [c] = xs[i]?) (hi : i < xs.length) : ∃ v, c = .int k v ∧ (Lit.int k v).wf = true := by
  rw [List.getElem?_eq_getElem hi] at h
  cases n with
  | zero => cases h
  | succ m =>
    unfold DataW.trod at h
    rw [ht] at h
    cases c <;> simp only [] at h <;> try cases h
    rename_i k' v
    split at h
    · rename_i hk; obtain ⟨rfl, hw⟩ := hk; exact ⟨v, rfl, hw⟩
    · cases h
theorem tr_bool (ht : P.underlying t = some .bool) (h : DataW.trod enc P W base sp true n t [c] = xs[i]?) (hi : i < xs.length) : ∃ b, c = .bool b := by
  rw [List.getElem?_eq_getElem hi] at h
  cases n with
  | zero => cases h
  | succ m =>
    unfold DataW.trod at h
    rw [ht] at h
    cases c <;> simp only [] at h <;> try cases h
    rename_i b
    exact ⟨b, rfl⟩
theorem tr_string (ht : P.underlying t = some .string) (h : DataW.trod enc P W base sp true n t [c] = xs[i]?) (hi : i < xs.length) : ∃ s : ByteArray, c = .string s ∧ s.size ≤ maxLen := by
  rw [List.getElem?_eq_getElem hi] at h
  cases n with
  | zero => cases h
  | succ m =>
    unfold DataW.trod at h
    rw [ht] at h
    cases c <;> simp only [] at h <;> try cases h
    rename_i s
    split at h
    · rename_i hs; exact ⟨s, rfl, hs⟩
    · cases h
end
theorem okWide_array {P : Program} {w : World} {r : Reach} {base n : Nat} {t e : TypeId} {v : Value} (ht : P.underlying t = some (.array n e)) (h : Value.okWide P w r base t v) : ∃ cs, v = .agg cs ∧ cs.size = P.cellsOf t := by
  simp only [Value.okWide, ht] at h
  obtain ⟨cs, h1, h2, _⟩ := h
  exact ⟨cs, h1, h2⟩
theorem list4 {α : Type} {l : List α} (h : l.length = 4) : ∃ a b c d, l = [a, b, c, d] := by
  match l, h with
  | [a, b, c, d], _ => exact ⟨a, b, c, d, rfl⟩
theorem list10 {α : Type} {l : List α} (h : l.length = 10) : ∃ a b c d e f g h i j, l = [a, b, c, d, e, f, g, h, i, j] := by
  match l, h with
  | [a, b, c, d, e, f, g, h, i, j], _ => exact ⟨a, b, c, d, e, f, g, h, i, j, rfl⟩
end Go.Proofs.Ytnoabmkmnddkkaa
