/- Texts behind a law of this seat, in order: OpenNm. -/
import Derived.Test.YtnoabmkmnddkkaaPa
import Derived.Test.YtnoabmkmnddkkaaPb
import Derived.Test.YtnoabmkmnddkkaaPc
import Derived.ChangeSlices
import Derived.Deep.Slices
import Derived.Handed
import Derived.Lib.Strings
import Derived.SizedLaws
import Derived.SliceStrings
import Derived.WalkKit
import Derived.WalkLawsBesides
import Derived.WalkSpells
namespace Go.Proofs.Ytnoabmkmnddkkaa
open Go.RowKit Go
set_option linter.unusedVariables false
/-- a name's slice, and what it reads as -/
structure Nm where
  A : Option Addr
  n : Nat
  c : Nat
  l : List (List UInt8)
def Nm.v (y : Nm) : Value := .slice y.A y.n y.c
def NmOk (W : World) (y : Nm) : Prop := TextsAt W y.A y.n y.l ∧ y.n ≤ y.c ∧ ∀ x ∈ y.l, x.length ≤ 140737488351232
theorem open_name1 {H : Type} {enc : TypeId × Value → H} {P : Program} {W : World} {t e : TypeId} {fuel : Nat} {v : Value} {d : DataW H} {p : List MemPlace} (ht : P.underlying t = some (.slice e)) (he : P.underlying e = some .string) (hc : P.cellsOf e = 1)
    (h : DataW.trod enc P W 0 (fun _ => true) true fuel t [v] = some (d, p)) (hsz : (d.weights P t).all (· ≤ reachBytes) = true) : ∃ y : Nm, v = y.v ∧ NmOk W y := by
  have hv : ∃ A n c, v = .slice A n c := by
    rcases Go.ChangeShapes.open_strings ht he hc h with ⟨hcs, _⟩ | ⟨a, len, cap, ss, hcs, _⟩
    · simp at hcs; exact ⟨_, _, _, hcs⟩
    · simp at hcs; exact ⟨_, _, _, hcs⟩
  obtain ⟨A, n, c, rfl⟩ := hv
  obtain ⟨l, hl, hnc, _, hx, _⟩ := open_texts (A := A) (n := n) (c := c) ht he hc ⟨fuel, h⟩ hsz
  exact ⟨⟨A, n, c, l⟩, rfl, hl, hnc, hx⟩
end Go.Proofs.Ytnoabmkmnddkkaa
