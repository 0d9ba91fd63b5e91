/-
  No cell of these rows narrows 'for every input' (looked for: loops, veiled, ifaces, maps, wideKeys, modest, calm, conditions, laid).
  DERIVED. THE GIVEN ROWS OF THIS SEAT. 5 by the template 'for every input the law returns true; each argument reads behind the call as it read before'; 0 by the template 'total and deterministic' (their statements: YtcdbnnfokophbaaTotals.lean).
  GIVEN WITH THE SEED: the statements are not yours to turn. If you find one false, say at which input.
  Laid BY PROGRAM, IN A SANDBOX (cutbox-rows.mjs): the forced cells as the released guide's own fill.sh prints them over the translation c921a1cad51d4967… (all of the seat's roots in one cut). By AI agents, Wed Nov 11 2026. No macro, syntax, notation, axiom, sorry.
-/
import Derived.Test.YtcdbnnfokophbaaChecked
import GoSem.Claim
import GoSem.ClaimJoined
import GoSem.ClaimMapViews
import Derived.JoinedTies
import Derived.KernelRfl
namespace Go.Proofs.Ytcdbnnfokophbaa
/- THE CELL 'sum', in the pinned program and in every row, IS THE sha256 OF THE DUMP (.gsa) THAT YtcdbnnfokophbaaProg.lean LOADS. Nothing in Lean hashes anything: it is a label: what it is worth is what the hold of that sum in a sandbox is worth. -/
noncomputable def Try.pinned : Pinned := { name := "ytcdbnnfokophbaa", sum := "c921a1cad51d4967ecac82d6f9d4126a505a5b5330d18505749b3b8956ee59ea", checked := Try.checked }
namespace Rows
def none {H : Type} : Left H := { results := [], args := [] }

/-- 'wayfinderlaw05.DomainParses': WHATEVER THE INPUT: true; the input reads as it did. -/
def domainParsesSpec : ChangeSpec := { name := "domainParses", fn := fun _ => fun
  | [d] => { results := [.lit (.bool true)], args := [d] }
  | _ => none }
def domainParsesRow : OpenClaim := { program := "ytcdbnnfokophbaa", sum := "c921a1cad51d4967ecac82d6f9d4126a505a5b5330d18505749b3b8956ee59ea", func := "wayfinder/wayfinderlaw05.DomainParses", spec := "domainParses", inPlace := ["internal/abi.NoEscape"], apart := false }
def DomainParsesSaid : Prop := domainParsesRow.holds Try.pinned (OpenSpec.ofChange domainParsesSpec)

/-- ITS FALSE NEIGHBOUR: 'it returns false'. Refute it at one input. -/
def domainParsesWrong : ChangeSpec := { name := "domainParses", fn := fun _ => fun
  | [d] => { results := [.lit (.bool false)], args := [d] }
  | _ => none }
def DomainParsesWrongFalsely : Prop := domainParsesRow.holds Try.pinned (OpenSpec.ofChange domainParsesWrong)

/-- 'wayfinderlaw05.DomainTells': WHATEVER THE INPUT: true; the input reads as it did. -/
def domainTellsSpec : ChangeSpec := { name := "domainTells", fn := fun _ => fun
  | [d] => { results := [.lit (.bool true)], args := [d] }
  | _ => none }
def domainTellsRow : OpenClaim := { program := "ytcdbnnfokophbaa", sum := "c921a1cad51d4967ecac82d6f9d4126a505a5b5330d18505749b3b8956ee59ea", func := "wayfinder/wayfinderlaw05.DomainTells", spec := "domainTells", inPlace := ["internal/abi.NoEscape"], apart := false }
def DomainTellsSaid : Prop := domainTellsRow.holds Try.pinned (OpenSpec.ofChange domainTellsSpec)

/-- ITS FALSE NEIGHBOUR: 'it returns false'. Refute it at one input. -/
def domainTellsWrong : ChangeSpec := { name := "domainTells", fn := fun _ => fun
  | [d] => { results := [.lit (.bool false)], args := [d] }
  | _ => none }
def DomainTellsWrongFalsely : Prop := domainTellsRow.holds Try.pinned (OpenSpec.ofChange domainTellsWrong)

/-- 'wayfinderlaw05.DomainHolds': WHATEVER THE INPUT: true; the input reads as it did. -/
def domainHoldsSpec : ChangeSpec := { name := "domainHolds", fn := fun _ => fun
  | [d1, d2] => { results := [.lit (.bool true)], args := [d1, d2] }
  | _ => none }
def domainHoldsRow : OpenClaim := { program := "ytcdbnnfokophbaa", sum := "c921a1cad51d4967ecac82d6f9d4126a505a5b5330d18505749b3b8956ee59ea", func := "wayfinder/wayfinderlaw05.DomainHolds", spec := "domainHolds", inPlace := ["internal/abi.NoEscape"], apart := false }
def DomainHoldsSaid : Prop := domainHoldsRow.holds Try.pinned (OpenSpec.ofChange domainHoldsSpec)

/-- ITS FALSE NEIGHBOUR: 'it returns false'. Refute it at one input. -/
def domainHoldsWrong : ChangeSpec := { name := "domainHolds", fn := fun _ => fun
  | [d1, d2] => { results := [.lit (.bool false)], args := [d1, d2] }
  | _ => none }
def DomainHoldsWrongFalsely : Prop := domainHoldsRow.holds Try.pinned (OpenSpec.ofChange domainHoldsWrong)

/-- 'wayfinderlaw05.DomainBack': WHATEVER THE INPUT: true; the input reads as it did. -/
def domainBackSpec : ChangeSpec := { name := "domainBack", fn := fun _ => fun
  | [d] => { results := [.lit (.bool true)], args := [d] }
  | _ => none }
def domainBackRow : OpenClaim := { program := "ytcdbnnfokophbaa", sum := "c921a1cad51d4967ecac82d6f9d4126a505a5b5330d18505749b3b8956ee59ea", func := "wayfinder/wayfinderlaw05.DomainBack", spec := "domainBack", inPlace := ["internal/abi.NoEscape"], apart := false }
def DomainBackSaid : Prop := domainBackRow.holds Try.pinned (OpenSpec.ofChange domainBackSpec)

/-- ITS FALSE NEIGHBOUR: 'it returns false'. Refute it at one input. -/
def domainBackWrong : ChangeSpec := { name := "domainBack", fn := fun _ => fun
  | [d] => { results := [.lit (.bool false)], args := [d] }
  | _ => none }
def DomainBackWrongFalsely : Prop := domainBackRow.holds Try.pinned (OpenSpec.ofChange domainBackWrong)

/-- 'wayfinderlaw05.DomainAgain': WHATEVER THE INPUT: true; the input reads as it did. -/
def domainAgainSpec : ChangeSpec := { name := "domainAgain", fn := fun _ => fun
  | [d] => { results := [.lit (.bool true)], args := [d] }
  | _ => none }
def domainAgainRow : OpenClaim := { program := "ytcdbnnfokophbaa", sum := "c921a1cad51d4967ecac82d6f9d4126a505a5b5330d18505749b3b8956ee59ea", func := "wayfinder/wayfinderlaw05.DomainAgain", spec := "domainAgain", inPlace := ["internal/abi.NoEscape"], apart := false }
def DomainAgainSaid : Prop := domainAgainRow.holds Try.pinned (OpenSpec.ofChange domainAgainSpec)

/-- ITS FALSE NEIGHBOUR: 'it returns false'. Refute it at one input. -/
def domainAgainWrong : ChangeSpec := { name := "domainAgain", fn := fun _ => fun
  | [d] => { results := [.lit (.bool false)], args := [d] }
  | _ => none }
def DomainAgainWrongFalsely : Prop := domainAgainRow.holds Try.pinned (OpenSpec.ofChange domainAgainWrong)

/- THE SECOND FORM. 'bulk': how many values and letters a reading holds, each counted each time it is reached (what is shared counts as often as it is met; a slice's spare places count too). A statement '..UptoSaid' is the law's where the arguments, and the package variables that the reading takes, are together of bulk at most 1048576: NARROWER than '..Said'. Prove '..Said' where nothing that the law and all that it calls make is longer than what came in: it says more and counts as full. Else prove '..UptoSaid'. A law counts once. -/
mutual
def uptoBulk {H : Type} : DataW H → Nat
  | .lit (.string bytes) => bytes.length + 1
  | .lit _ => 1
  | .nil => 1
  | .ptr d => uptoBulk d + 1
  | .slice elems spare => uptoBulkAll elems + uptoBulkAll spare + 1
  | .agg parts => uptoBulkAll parts + 1
  | .iface _ d => uptoBulk d + 1
  | .map entries => uptoBulkEntries entries + 1
  | .held _ => 1
def uptoBulkAll {H : Type} : List (DataW H) → Nat
  | [] => 0
  | d :: r => uptoBulk d + uptoBulkAll r
def uptoBulkEntries {H : Type} : List (Lit × DataW H) → Nat
  | [] => 0
  | x :: r => uptoBulkEntry x + uptoBulkEntries r
def uptoBulkEntry {H : Type} : Lit × DataW H → Nat
  | (.string bytes, d) => bytes.length + uptoBulk d + 1
  | (_, d) => uptoBulk d + 1
 end
def uptoSmall : (H : Type) → List (DataW H) → Bool := fun _ ds => decide (uptoBulkAll ds ≤ 1048576)
def OpenSpec.upto (s : _root_.Go.ChangeSpec) : _root_.Go.OpenSpec := { _root_.Go.OpenSpec.ofChange s with cond := some uptoSmall }

/-- 'wayfinderlaw05.DomainParses', WHERE WHAT IT READS IS OF BULK AT MOST 1048576: true; the input reads as it did. -/
def domainParsesUptoRow : OpenClaim := { program := "ytcdbnnfokophbaa", sum := "c921a1cad51d4967ecac82d6f9d4126a505a5b5330d18505749b3b8956ee59ea", func := "wayfinder/wayfinderlaw05.DomainParses", spec := "domainParses", inPlace := ["internal/abi.NoEscape"], apart := false, narrowed := true }
def DomainParsesUptoSaid : Prop := domainParsesUptoRow.holds Try.pinned (OpenSpec.upto domainParsesSpec)

/-- 'wayfinderlaw05.DomainTells', WHERE WHAT IT READS IS OF BULK AT MOST 1048576: true; the input reads as it did. -/
def domainTellsUptoRow : OpenClaim := { program := "ytcdbnnfokophbaa", sum := "c921a1cad51d4967ecac82d6f9d4126a505a5b5330d18505749b3b8956ee59ea", func := "wayfinder/wayfinderlaw05.DomainTells", spec := "domainTells", inPlace := ["internal/abi.NoEscape"], apart := false, narrowed := true }
def DomainTellsUptoSaid : Prop := domainTellsUptoRow.holds Try.pinned (OpenSpec.upto domainTellsSpec)

/-- 'wayfinderlaw05.DomainHolds', WHERE WHAT IT READS IS OF BULK AT MOST 1048576: true; the input reads as it did. -/
def domainHoldsUptoRow : OpenClaim := { program := "ytcdbnnfokophbaa", sum := "c921a1cad51d4967ecac82d6f9d4126a505a5b5330d18505749b3b8956ee59ea", func := "wayfinder/wayfinderlaw05.DomainHolds", spec := "domainHolds", inPlace := ["internal/abi.NoEscape"], apart := false, narrowed := true }
def DomainHoldsUptoSaid : Prop := domainHoldsUptoRow.holds Try.pinned (OpenSpec.upto domainHoldsSpec)

/-- 'wayfinderlaw05.DomainBack', WHERE WHAT IT READS IS OF BULK AT MOST 1048576: true; the input reads as it did. -/
def domainBackUptoRow : OpenClaim := { program := "ytcdbnnfokophbaa", sum := "c921a1cad51d4967ecac82d6f9d4126a505a5b5330d18505749b3b8956ee59ea", func := "wayfinder/wayfinderlaw05.DomainBack", spec := "domainBack", inPlace := ["internal/abi.NoEscape"], apart := false, narrowed := true }
def DomainBackUptoSaid : Prop := domainBackUptoRow.holds Try.pinned (OpenSpec.upto domainBackSpec)

/-- 'wayfinderlaw05.DomainAgain', WHERE WHAT IT READS IS OF BULK AT MOST 1048576: true; the input reads as it did. -/
def domainAgainUptoRow : OpenClaim := { program := "ytcdbnnfokophbaa", sum := "c921a1cad51d4967ecac82d6f9d4126a505a5b5330d18505749b3b8956ee59ea", func := "wayfinder/wayfinderlaw05.DomainAgain", spec := "domainAgain", inPlace := ["internal/abi.NoEscape"], apart := false, narrowed := true }
def DomainAgainUptoSaid : Prop := domainAgainUptoRow.holds Try.pinned (OpenSpec.upto domainAgainSpec)

end Rows
end Go.Proofs.Ytcdbnnfokophbaa
