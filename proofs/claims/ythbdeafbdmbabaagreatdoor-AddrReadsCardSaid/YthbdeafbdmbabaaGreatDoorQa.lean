/- Texts behind a law of this seat, in order: Dom9. -/
import Derived.Test.YthbdeafbdmbabaaGreatDoorPa
import Derived.Test.YthbdeafbdmbabaaGreatDoorPb
import Derived.Test.YthbdeafbdmbabaaGreatDoorPd
import Derived.Test.YthbdeafbdmbabaaGreatDoorPe
import Derived.Test.YthbdeafbdmbabaaGreatDoorPg
import Derived.Test.YthbdeafbdmbabaaGreatDoorPh
import Derived.Test.YthbdeafbdmbabaaGreatDoorPw
import Derived.Test.YthbdeafbdmbabaaGreatDoorPx
import Derived.Test.YthbdeafbdmbabaaGreatDoorPy
import Derived.Test.YthbdeafbdmbabaaGreatDoorPz
import Derived.BigQuiet
import Derived.ChangeSlices
import Derived.Deep.QuietTactic
import Derived.Handed
import Derived.Handy
import Derived.Laws.AppendOwnNone
import Derived.Lib.Bytealg
import Derived.Lib.DecodeN
import Derived.Lib.Hide
import Derived.Lib.Join
import Derived.Lib.RuneBytes
import Derived.Lib.Strings
import Derived.Shelf.LaysM
import Derived.Shelf.Small.Bits
import Derived.Shelf.Small.Strs
import Derived.Shelf.Strconv.Itoa0
import Derived.Shelf.Strconv.Itoa1
import Derived.Shelf.Strconv.Itoa2
import Derived.Shelf.Strconv.Itoa3
import Derived.Shelf.Strings.Builder1
import Derived.Shelf.Strings.Builder2
import Derived.Shelf.Strings.Builder2Cap
import Derived.Shelf.Strings.BuilderCap
import Derived.Shelf.Strings.BuilderF
import Derived.Shelf.Strings.BuilderK
import Derived.Shelf.Strings.Count
import Derived.Shelf.Strings.Cut
import Derived.Shelf.Strings.OnBuilder
import Derived.Shelf.Strings.Prefix
import Derived.Shelf.Strings.Search1
import Derived.Shelf.Strings.Search2
import Derived.Shelf.Strings.Search3
import Derived.Shelf.Strings.Shaped
import Derived.Shelf.Strings.Split
import Derived.Shelf.Strings.SplitShaped
import Derived.Shelf.Unicode.Decode
import Derived.Shelf.Unicode.DecodeAny
import Derived.Shelf.Unicode.DecodeSlow
import Derived.SizedLaws
import Derived.SliceStrings
import Derived.Test.YthbdeafbdmbabaaGreatDoorProg
import Derived.WalkKit
import Derived.WalkLawsBesides
import Derived.WalkSpells
namespace Go.Proofs.YthbdeafbdmbabaaGreatDoor
open Go.RowKit Go
set_option linter.unusedVariables false
theorem refExact_any (A B : Option Addr) (n m c d : Nat) (la lb : List (List UInt8)) (w : World) (ha : TextsAt w A n la) (hb : TextsAt w B m lb) (hn : n ≤ 4000) (hm : m ≤ 4000) :
    Calls Tryz.prog 20 #[.slice A n c, .slice B m d] w fun e w' => e = .returned (.bool (decide (la = lb))) ∧ Below w.heap.size w w' := by
  have HS := Lib.hid (sameTexts_any A B n m c d la lb w ha hb hn hm)
  go_enter Tryz.func20, Tryz.ntmps20
  go_wp2_with fail
  with_reducible refine HS.out.mono ?_
  rintro e w1 ⟨rfl, hb1⟩
  go_wp2_with fail
  go_ret
  exact ⟨rfl, hb1⟩
theorem refSameD_any (A B : Option Addr) (n m c d : Nat) (la lb : List (List UInt8)) (w : World) (ha : TextsAt w A n la) (hb : TextsAt w B m lb) (hn : sizeL la ≤ 3000) (hm : sizeL lb ≤ 3000) :
    Calls Tryz.prog 49 #[.slice A n c, .slice B m d] w fun e w' => e = .returned (.bool (sameN la lb)) ∧ Below w.heap.size w w' := by
  have HL1 := Lib.hid (refLowerD_any A n c la w ha hn)
  have hl1 := size_len la
  have hl2 := size_len lb
  go_enter Tryz.func49, Tryz.ntmps49
  go_wp2_with fail
  with_reducible refine HL1.out.mono ?_
  rintro e w1 ⟨A1, c1, rfl, ht1, hb1⟩
  have HL2 := Lib.hid (refLowerD_any B m d lb w1 (hb.below hb1) hm)
  go_wp2_with fail
  with_reducible refine HL2.out.mono ?_
  rintro e w2 ⟨A2, c2, rfl, ht2, hb2⟩
  have HE := Lib.hid (refExact_any A1 A2 _ _ c1 c2 _ _ w2 (ht1.below hb2) ht2 (by rw [lowN_len]; omega) (by rw [lowN_len]; omega))
  go_wp2_with fail
  with_reducible refine HE.out.mono ?_
  rintro e w3 ⟨rfl, hb3⟩
  go_wp2_with fail
  go_ret
  exact ⟨rfl, hb1.trans ((hb2.mono hb1.size).trans (hb3.mono (Nat.le_trans hb1.size hb2.size)))⟩
theorem TextsAt.drop {w : World} {b o n : Nat} {l : List (List UInt8)} (h : TextsAt w (some ⟨b, o, none⟩) n l) (k : Nat) (hk : k ≤ n) : TextsAt w (some ⟨b, o + k, none⟩) (n - k) (l.drop k) := by
  refine ⟨by rw [List.length_drop, h.1], fun h0 => ?_⟩
  obtain ⟨b2, o2, hA, hlt, hc⟩ := h.2 (by omega)
  obtain ⟨rfl, rfl⟩ : b = b2 ∧ o = o2 := by simpa using hA
  refine ⟨b, o + k, rfl, hlt, fun j hj => ?_⟩
  rw [List.length_drop] at hj
  rw [Nat.add_assoc, hc (k + j) (by omega), List.getElem_drop]
end Go.Proofs.YthbdeafbdmbabaaGreatDoor
