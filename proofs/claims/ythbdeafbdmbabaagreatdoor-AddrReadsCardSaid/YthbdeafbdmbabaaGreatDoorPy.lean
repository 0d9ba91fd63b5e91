/- Texts behind a law of this seat, in order: Math02. -/
import Derived.Test.YthbdeafbdmbabaaGreatDoorPb
import Derived.Lib.DecodeN
import Derived.Lib.RuneBytes
import Derived.Lib.Strings
import Derived.WalkKit
namespace Go.Proofs.YthbdeafbdmbabaaGreatDoor
open Go.RowKit Go
set_option linter.unusedVariables false
def gb (l : List UInt8) (i : Nat) : Nat := (l.getD i 0).toNat
def decU (l : List UInt8) : Nat × Nat := Lib.decodeN l.length (gb l 0) (gb l 1) (gb l 2) (gb l 3)
def nx (l : List UInt8) : Nat × Nat := if l = [] ∨ ((decU l).1 = 65533 ∧ (decU l).2 ≤ 1) then (0, 0) else decU l
end Go.Proofs.YthbdeafbdmbabaaGreatDoor
