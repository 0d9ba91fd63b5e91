/- Texts behind a law of this seat, in order: Dom2. -/
import Derived.Test.YtbcnnjifndmdpaaDoorPa
import Derived.Test.YtbcnnjifndmdpaaDoorPb
import Derived.Test.YtbcnnjifndmdpaaDoorPe
import Derived.Test.YtbcnnjifndmdpaaDoorPu
import Derived.BigQuiet
import Derived.Deep.QuietTactic
import Derived.Handed
import Derived.Handy
import Derived.Lib.Hide
import Derived.Lib.Strings
import Derived.Shelf.LaysM
import Derived.Shelf.Small.Strs
import Derived.Shelf.Small.Utf8
import Derived.Shelf.Small.Wraps
import Derived.Shelf.Strings.Builder1
import Derived.Shelf.Strings.Builder2
import Derived.Shelf.Strings.Builder2Cap
import Derived.Shelf.Strings.BuilderCap
import Derived.Shelf.Strings.BuilderF
import Derived.Shelf.Strings.BuilderK
import Derived.Shelf.Strings.BuilderRune
import Derived.Shelf.Strings.Count
import Derived.Shelf.Strings.MapAny
import Derived.Shelf.Strings.OnBuilder
import Derived.Shelf.Strings.Prefix
import Derived.Shelf.Strings.Search1
import Derived.Shelf.Strings.Search2
import Derived.Shelf.Strings.Search3
import Derived.Shelf.Strings.Shaped
import Derived.Shelf.Strings.Split
import Derived.Shelf.Strings.SplitShaped
import Derived.Shelf.Unicode.Decode
import Derived.Shelf.Unicode.DecodeAny
import Derived.Shelf.Unicode.DecodeSlow
import Derived.Shelf.Utf8.AppendRunePlain
import Derived.SizedLaws
import Derived.SliceStrings
import Derived.Test.YtbcnnjifndmdpaaDoorProg
import Derived.WalkKit
import Derived.WalkLawsBesides
import Derived.WalkSpells
namespace Go.Proofs.YtbcnnjifndmdpaaDoor
open Go.RowKit Go
set_option linter.unusedVariables false
theorem ba_of (x : List UInt8) : ∃ s : ByteArray, (⟨x.toArray⟩ : ByteArray) = s ∧ x = s.data.toList ∧ x.length = s.size := ⟨⟨x.toArray⟩, rfl, by simp, by simp [ByteArray.size]⟩
end Go.Proofs.YtbcnnjifndmdpaaDoor
