/-
  No cell of these rows narrows 'for every input' (looked for: loops, veiled, ifaces, maps, wideKeys, modest, calm, conditions, laid).
  DERIVED. THE GIVEN ROWS OF THIS SEAT. 5 by the template 'for every input the law returns true; each argument reads behind the call as it read before'; 0 by the template 'total and deterministic' (their statements: YtcdneaofgnofeaaTotals.lean).
  GIVEN WITH THE SEED: the statements are not yours to turn. If you find one false, say at which input.
  Laid BY PROGRAM, IN A SANDBOX (cutbox-rows.mjs): the forced cells as the released guide's own fill.sh prints them over the translation 31e07dd89ab1b9f9… (all of the seat's roots in one cut). By AI agents, Wed Nov 11 2026. No macro, syntax, notation, axiom, sorry.
-/
import Derived.Test.YtcdneaofgnofeaaChecked
import GoSem.Claim
import GoSem.ClaimJoined
import GoSem.ClaimMapViews
import Derived.JoinedTies
import Derived.KernelRfl
namespace Go.Proofs.Ytcdneaofgnofeaa
/- THE CELL 'sum', in the pinned program and in every row, IS THE sha256 OF THE DUMP (.gsa) THAT YtcdneaofgnofeaaProg.lean LOADS. Nothing in Lean hashes anything: it is a label: what it is worth is what the hold of that sum in a sandbox is worth. -/
noncomputable def Try.pinned : Pinned := { name := "ytcdneaofgnofeaa", sum := "31e07dd89ab1b9f93ffb056c76a81a37fc13f9ab3dba1269f234e2ffde05a2f7", checked := Try.checked }
namespace Rows
def none {H : Type} : Left H := { results := [], args := [] }

/-- 'wayfinderlaw03.PunyWrites': WHATEVER THE INPUT: true; the input reads as it did. -/
def punyWritesSpec : ChangeSpec := { name := "punyWrites", fn := fun _ => fun
  | [d] => { results := [.lit (.bool true)], args := [d] }
  | _ => none }
def punyWritesRow : OpenClaim := { program := "ytcdneaofgnofeaa", sum := "31e07dd89ab1b9f93ffb056c76a81a37fc13f9ab3dba1269f234e2ffde05a2f7", func := "wayfinder/wayfinderlaw03.PunyWrites", spec := "punyWrites", inPlace := ["internal/bytealg.IndexByteString", "slices.overlaps[rune]"], apart := false }
def PunyWritesSaid : Prop := punyWritesRow.holds Try.pinned (OpenSpec.ofChange punyWritesSpec)

/-- ITS FALSE NEIGHBOUR: 'it returns false'. Refute it at one input. -/
def punyWritesWrong : ChangeSpec := { name := "punyWrites", fn := fun _ => fun
  | [d] => { results := [.lit (.bool false)], args := [d] }
  | _ => none }
def PunyWritesWrongFalsely : Prop := punyWritesRow.holds Try.pinned (OpenSpec.ofChange punyWritesWrong)

/-- 'wayfinderlaw03.PunyReads': WHATEVER THE INPUT: true; the input reads as it did. -/
def punyReadsSpec : ChangeSpec := { name := "punyReads", fn := fun _ => fun
  | [d] => { results := [.lit (.bool true)], args := [d] }
  | _ => none }
def punyReadsRow : OpenClaim := { program := "ytcdneaofgnofeaa", sum := "31e07dd89ab1b9f93ffb056c76a81a37fc13f9ab3dba1269f234e2ffde05a2f7", func := "wayfinder/wayfinderlaw03.PunyReads", spec := "punyReads", inPlace := ["internal/bytealg.IndexByteString", "slices.overlaps[rune]"], apart := false }
def PunyReadsSaid : Prop := punyReadsRow.holds Try.pinned (OpenSpec.ofChange punyReadsSpec)

/-- ITS FALSE NEIGHBOUR: 'it returns false'. Refute it at one input. -/
def punyReadsWrong : ChangeSpec := { name := "punyReads", fn := fun _ => fun
  | [d] => { results := [.lit (.bool false)], args := [d] }
  | _ => none }
def PunyReadsWrongFalsely : Prop := punyReadsRow.holds Try.pinned (OpenSpec.ofChange punyReadsWrong)

/-- 'wayfinderlaw03.PunyBack': WHATEVER THE INPUT: true; the input reads as it did. -/
def punyBackSpec : ChangeSpec := { name := "punyBack", fn := fun _ => fun
  | [d] => { results := [.lit (.bool true)], args := [d] }
  | _ => none }
def punyBackRow : OpenClaim := { program := "ytcdneaofgnofeaa", sum := "31e07dd89ab1b9f93ffb056c76a81a37fc13f9ab3dba1269f234e2ffde05a2f7", func := "wayfinder/wayfinderlaw03.PunyBack", spec := "punyBack", inPlace := ["internal/bytealg.IndexByteString", "slices.overlaps[rune]"], apart := false }
def PunyBackSaid : Prop := punyBackRow.holds Try.pinned (OpenSpec.ofChange punyBackSpec)

/-- ITS FALSE NEIGHBOUR: 'it returns false'. Refute it at one input. -/
def punyBackWrong : ChangeSpec := { name := "punyBack", fn := fun _ => fun
  | [d] => { results := [.lit (.bool false)], args := [d] }
  | _ => none }
def PunyBackWrongFalsely : Prop := punyBackRow.holds Try.pinned (OpenSpec.ofChange punyBackWrong)

/-- 'wayfinderlaw03.PunyLong': WHATEVER THE INPUT: true; the input reads as it did. -/
def punyLongSpec : ChangeSpec := { name := "punyLong", fn := fun _ => fun
  | [d1, d2, d3] => { results := [.lit (.bool true)], args := [d1, d2, d3] }
  | _ => none }
def punyLongRow : OpenClaim := { program := "ytcdneaofgnofeaa", sum := "31e07dd89ab1b9f93ffb056c76a81a37fc13f9ab3dba1269f234e2ffde05a2f7", func := "wayfinder/wayfinderlaw03.PunyLong", spec := "punyLong", inPlace := ["internal/bytealg.IndexByteString", "slices.overlaps[rune]"], apart := false }
def PunyLongSaid : Prop := punyLongRow.holds Try.pinned (OpenSpec.ofChange punyLongSpec)

/-- ITS FALSE NEIGHBOUR: 'it returns false'. Refute it at one input. -/
def punyLongWrong : ChangeSpec := { name := "punyLong", fn := fun _ => fun
  | [d1, d2, d3] => { results := [.lit (.bool false)], args := [d1, d2, d3] }
  | _ => none }
def PunyLongWrongFalsely : Prop := punyLongRow.holds Try.pinned (OpenSpec.ofChange punyLongWrong)

/-- 'wayfinderlaw03.PunyCase': WHATEVER THE INPUT: true; the input reads as it did. -/
def punyCaseSpec : ChangeSpec := { name := "punyCase", fn := fun _ => fun
  | [d] => { results := [.lit (.bool true)], args := [d] }
  | _ => none }
def punyCaseRow : OpenClaim := { program := "ytcdneaofgnofeaa", sum := "31e07dd89ab1b9f93ffb056c76a81a37fc13f9ab3dba1269f234e2ffde05a2f7", func := "wayfinder/wayfinderlaw03.PunyCase", spec := "punyCase", inPlace := ["internal/bytealg.IndexByteString", "slices.overlaps[rune]"], apart := false }
def PunyCaseSaid : Prop := punyCaseRow.holds Try.pinned (OpenSpec.ofChange punyCaseSpec)

/-- ITS FALSE NEIGHBOUR: 'it returns false'. Refute it at one input. -/
def punyCaseWrong : ChangeSpec := { name := "punyCase", fn := fun _ => fun
  | [d] => { results := [.lit (.bool false)], args := [d] }
  | _ => none }
def PunyCaseWrongFalsely : Prop := punyCaseRow.holds Try.pinned (OpenSpec.ofChange punyCaseWrong)

/- THE SECOND FORM. 'bulk': how many values and letters a reading holds, each counted each time it is reached (what is shared counts as often as it is met; a slice's spare places count too). A statement '..UptoSaid' is the law's where the arguments, and the package variables that the reading takes, are together of bulk at most 1048576: NARROWER than '..Said'. Prove '..Said' where nothing that the law and all that it calls make is longer than what came in: it says more and counts as full. Else prove '..UptoSaid'. A law counts once. -/
mutual
def uptoBulk {H : Type} : DataW H → Nat
  | .lit (.string bytes) => bytes.length + 1
  | .lit _ => 1
  | .nil => 1
  | .ptr d => uptoBulk d + 1
  | .slice elems spare => uptoBulkAll elems + uptoBulkAll spare + 1
  | .agg parts => uptoBulkAll parts + 1
  | .iface _ d => uptoBulk d + 1
  | .map entries => uptoBulkEntries entries + 1
  | .held _ => 1
def uptoBulkAll {H : Type} : List (DataW H) → Nat
  | [] => 0
  | d :: r => uptoBulk d + uptoBulkAll r
def uptoBulkEntries {H : Type} : List (Lit × DataW H) → Nat
  | [] => 0
  | x :: r => uptoBulkEntry x + uptoBulkEntries r
def uptoBulkEntry {H : Type} : Lit × DataW H → Nat
  | (.string bytes, d) => bytes.length + uptoBulk d + 1
  | (_, d) => uptoBulk d + 1
 end
def uptoSmall : (H : Type) → List (DataW H) → Bool := fun _ ds => decide (uptoBulkAll ds ≤ 1048576)
def OpenSpec.upto (s : _root_.Go.ChangeSpec) : _root_.Go.OpenSpec := { _root_.Go.OpenSpec.ofChange s with cond := some uptoSmall }

/-- 'wayfinderlaw03.PunyWrites', WHERE WHAT IT READS IS OF BULK AT MOST 1048576: true; the input reads as it did. -/
def punyWritesUptoRow : OpenClaim := { program := "ytcdneaofgnofeaa", sum := "31e07dd89ab1b9f93ffb056c76a81a37fc13f9ab3dba1269f234e2ffde05a2f7", func := "wayfinder/wayfinderlaw03.PunyWrites", spec := "punyWrites", inPlace := ["internal/bytealg.IndexByteString", "slices.overlaps[rune]"], apart := false, narrowed := true }
def PunyWritesUptoSaid : Prop := punyWritesUptoRow.holds Try.pinned (OpenSpec.upto punyWritesSpec)

/-- 'wayfinderlaw03.PunyReads', WHERE WHAT IT READS IS OF BULK AT MOST 1048576: true; the input reads as it did. -/
def punyReadsUptoRow : OpenClaim := { program := "ytcdneaofgnofeaa", sum := "31e07dd89ab1b9f93ffb056c76a81a37fc13f9ab3dba1269f234e2ffde05a2f7", func := "wayfinder/wayfinderlaw03.PunyReads", spec := "punyReads", inPlace := ["internal/bytealg.IndexByteString", "slices.overlaps[rune]"], apart := false, narrowed := true }
def PunyReadsUptoSaid : Prop := punyReadsUptoRow.holds Try.pinned (OpenSpec.upto punyReadsSpec)

/-- 'wayfinderlaw03.PunyBack', WHERE WHAT IT READS IS OF BULK AT MOST 1048576: true; the input reads as it did. -/
def punyBackUptoRow : OpenClaim := { program := "ytcdneaofgnofeaa", sum := "31e07dd89ab1b9f93ffb056c76a81a37fc13f9ab3dba1269f234e2ffde05a2f7", func := "wayfinder/wayfinderlaw03.PunyBack", spec := "punyBack", inPlace := ["internal/bytealg.IndexByteString", "slices.overlaps[rune]"], apart := false, narrowed := true }
def PunyBackUptoSaid : Prop := punyBackUptoRow.holds Try.pinned (OpenSpec.upto punyBackSpec)

/-- 'wayfinderlaw03.PunyLong', WHERE WHAT IT READS IS OF BULK AT MOST 1048576: true; the input reads as it did. -/
def punyLongUptoRow : OpenClaim := { program := "ytcdneaofgnofeaa", sum := "31e07dd89ab1b9f93ffb056c76a81a37fc13f9ab3dba1269f234e2ffde05a2f7", func := "wayfinder/wayfinderlaw03.PunyLong", spec := "punyLong", inPlace := ["internal/bytealg.IndexByteString", "slices.overlaps[rune]"], apart := false, narrowed := true }
def PunyLongUptoSaid : Prop := punyLongUptoRow.holds Try.pinned (OpenSpec.upto punyLongSpec)

/-- 'wayfinderlaw03.PunyCase', WHERE WHAT IT READS IS OF BULK AT MOST 1048576: true; the input reads as it did. -/
def punyCaseUptoRow : OpenClaim := { program := "ytcdneaofgnofeaa", sum := "31e07dd89ab1b9f93ffb056c76a81a37fc13f9ab3dba1269f234e2ffde05a2f7", func := "wayfinder/wayfinderlaw03.PunyCase", spec := "punyCase", inPlace := ["internal/bytealg.IndexByteString", "slices.overlaps[rune]"], apart := false, narrowed := true }
def PunyCaseUptoSaid : Prop := punyCaseUptoRow.holds Try.pinned (OpenSpec.upto punyCaseSpec)

end Rows
end Go.Proofs.Ytcdneaofgnofeaa
