/- Texts behind a law of this seat, in order: Law01. -/
import Derived.Test.YthbdeafbdmbabaaGreatDoorPa
import Derived.Test.YthbdeafbdmbabaaGreatDoorPb
import Derived.Test.YthbdeafbdmbabaaGreatDoorPd
import Derived.Test.YthbdeafbdmbabaaGreatDoorPg
import Derived.Test.YthbdeafbdmbabaaGreatDoorPh
import Derived.BigQuiet
import Derived.Deep.QuietTactic
import Derived.Handed
import Derived.Lib.Bytealg
import Derived.Lib.Hide
import Derived.Lib.Join
import Derived.Lib.Strings
import Derived.OpenShut
import Derived.Shelf.LaysM
import Derived.Shelf.Small.Bits
import Derived.Shelf.Small.Strs
import Derived.Shelf.Strconv.Itoa0
import Derived.Shelf.Strconv.Itoa1
import Derived.Shelf.Strconv.Itoa2
import Derived.Shelf.Strconv.Itoa3
import Derived.Shelf.Strings.Builder1
import Derived.Shelf.Strings.Builder2
import Derived.Shelf.Strings.Builder2Cap
import Derived.Shelf.Strings.BuilderCap
import Derived.Shelf.Strings.BuilderF
import Derived.Shelf.Strings.BuilderK
import Derived.Shelf.Strings.Count
import Derived.Shelf.Strings.Cut
import Derived.Shelf.Strings.OnBuilder
import Derived.Shelf.Strings.Prefix
import Derived.Shelf.Strings.Search1
import Derived.Shelf.Strings.Search2
import Derived.Shelf.Strings.Search3
import Derived.Shelf.Strings.Shaped
import Derived.Shelf.Strings.Split
import Derived.Shelf.Strings.SplitShaped
import Derived.Shelf.Unicode.Decode
import Derived.Shelf.Unicode.DecodeAny
import Derived.Shelf.Unicode.DecodeSlow
import Derived.SizedLaws
import Derived.SliceStrings
import Derived.Test.YthbdeafbdmbabaaGreatDoorProg
import Derived.WalkKit
import Derived.WalkLawsBesides
import Derived.WalkSpells
namespace Go.Proofs.YthbdeafbdmbabaaGreatDoor
open Go.RowKit Go
def numR (l : List UInt8) (most : Int) : Int × Int := if digsB l = false then (0, 5) else if most < numL l then (0, 4) else (numL l, 0)
theorem numP_R {l : List UInt8} {most : Int} {e : Ending} (h : NumP l most e) : e = .returned (.tuple #[.int .i64 (numR l most).1, .int .i64 (numR l most).2]) := by
  unfold numR
  rcases h with ⟨h, he⟩ | ⟨h, h2, he⟩ | ⟨h, h2, he⟩
  · rw [if_pos h]; exact he
  · rw [if_neg (by simp [h]), if_pos h2]; exact he
  · rw [if_neg (by simp [h]), if_neg (by omega)]; exact he
end Go.Proofs.YthbdeafbdmbabaaGreatDoor
