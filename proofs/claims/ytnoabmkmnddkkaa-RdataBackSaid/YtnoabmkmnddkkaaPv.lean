/- Texts behind a law of this seat, in order: TabM. -/
import Derived.Test.YtnoabmkmnddkkaaPa
import Derived.Test.YtnoabmkmnddkkaaPb
import Derived.Test.YtnoabmkmnddkkaaPc
import Derived.Test.YtnoabmkmnddkkaaPd
import Derived.Test.YtnoabmkmnddkkaaPe
import Derived.Test.YtnoabmkmnddkkaaPf
import Derived.Test.YtnoabmkmnddkkaaPg
import Derived.Test.YtnoabmkmnddkkaaPh
import Derived.Test.YtnoabmkmnddkkaaPi
import Derived.Test.YtnoabmkmnddkkaaPj
import Derived.Test.YtnoabmkmnddkkaaPk
import Derived.Test.YtnoabmkmnddkkaaPm
import Derived.Test.YtnoabmkmnddkkaaPn
import Derived.Test.YtnoabmkmnddkkaaPp
import Derived.Test.YtnoabmkmnddkkaaPq
import Derived.Test.YtnoabmkmnddkkaaPr
import Derived.Test.YtnoabmkmnddkkaaPs
import Derived.Test.YtnoabmkmnddkkaaPt
import Derived.Test.YtnoabmkmnddkkaaPu
import Derived.Below
import Derived.BigQuiet
import Derived.BigRegion
import Derived.ChangeSlices
import Derived.Deep.AppendLies
import Derived.Deep.Draws
import Derived.Deep.OwnRows
import Derived.Deep.Quiet
import Derived.Deep.QuietTactic
import Derived.Deep.RegionLaw
import Derived.Deep.Slices
import Derived.Great.Ranges
import Derived.Handed
import Derived.Handy
import Derived.Laws.OwnMore
import Derived.Laws.Rows
import Derived.Lib.Hide
import Derived.Lib.Strings
import Derived.Maps.AppendAt
import Derived.Maps.OwnSet
import Derived.Shelf.Strings.Builder1
import Derived.Shelf.Strings.BuilderF
import Derived.Shelf.Strings.BuilderK
import Derived.SizedLaws
import Derived.SliceStrings
import Derived.StillTailTactics
import Derived.StringKeys
import Derived.Test.YtnoabmkmnddkkaaProg
import Derived.WalkKit
import Derived.WalkLawsBesides
import Derived.WalkSpells
namespace Go.Proofs.Ytnoabmkmnddkkaa
open Go.RowKit Go
set_option linter.unusedVariables false
set_option linter.unusedSimpArgs false
theorem tok_nil : TOk [] := fun r hr => by cases hr
theorem PTab.bw {W0 w : World} {q : Nat} {T : List (Lbs × Int)} (h : PTab W0 w q T) : Below W0.heap.size W0 w := by
  obtain ⟨_, S, _⟩ := h
  exact S.below
theorem PTab.ge {W0 w : World} {q : Nat} {T : List (Lbs × Int)} (h : PTab W0 w q T) : W0.heap.size ≤ q := by
  obtain ⟨_, S, _⟩ := h
  exact S.ge (i := 0) rfl
/-- a table stays while a row is appended to -/
theorem PTab.row {W0 w w' : World} {g : Nat} {T : List (Lbs × Int)} (h : PTab W0 w g T) {e s n : Nat} {v : Value} {xs : List Value} (ho : w.ownsRow W0.heap.size e s v n xs) (hg : w.grownBy w' v.ownBlock) (hne : e ≠ 45) : PTab W0 w' g T := by
  obtain ⟨mv, S, h2⟩ := h
  refine ⟨mv, ats_row S ho hg (by intro y hy; simp at hy; subst hy; exact hne), ?_⟩
  rcases h2 with h2 | ⟨bm, D, he, hB, hm, hrep⟩
  · exact .inl h2
  · refine .inr ⟨bm, D, he, hB, map_kept (p := isRowO e) (g := bm + 1) hm (Kept.row ho hg) (by omega) (fun _ _ => rfl), hrep⟩
end Go.Proofs.Ytnoabmkmnddkkaa
