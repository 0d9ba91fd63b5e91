/- Texts behind a law of this seat, in order: Dom2. -/
import Derived.Test.YthbdeafbdmbabaaGreatDoorPa
import Derived.Test.YthbdeafbdmbabaaGreatDoorPb
import Derived.Test.YthbdeafbdmbabaaGreatDoorPd
import Derived.Test.YthbdeafbdmbabaaGreatDoorPw
import Derived.BigQuiet
import Derived.Deep.QuietTactic
import Derived.Handed
import Derived.Handy
import Derived.Lib.Hide
import Derived.Lib.Strings
import Derived.Shelf.LaysM
import Derived.Shelf.Small.Bits
import Derived.Shelf.Small.Strs
import Derived.Shelf.Strconv.Itoa0
import Derived.Shelf.Strconv.Itoa1
import Derived.Shelf.Strconv.Itoa2
import Derived.Shelf.Strconv.Itoa3
import Derived.Shelf.Strings.Builder1
import Derived.Shelf.Strings.Builder2
import Derived.Shelf.Strings.Builder2Cap
import Derived.Shelf.Strings.BuilderCap
import Derived.Shelf.Strings.BuilderF
import Derived.Shelf.Strings.BuilderK
import Derived.Shelf.Strings.Count
import Derived.Shelf.Strings.Cut
import Derived.Shelf.Strings.OnBuilder
import Derived.Shelf.Strings.Prefix
import Derived.Shelf.Strings.Search1
import Derived.Shelf.Strings.Search2
import Derived.Shelf.Strings.Search3
import Derived.Shelf.Strings.Shaped
import Derived.Shelf.Strings.Split
import Derived.Shelf.Strings.SplitShaped
import Derived.Shelf.Unicode.Decode
import Derived.Shelf.Unicode.DecodeAny
import Derived.Shelf.Unicode.DecodeSlow
import Derived.SizedLaws
import Derived.SliceStrings
import Derived.Test.YthbdeafbdmbabaaGreatDoorProg
import Derived.WalkKit
import Derived.WalkLawsBesides
import Derived.WalkSpells
namespace Go.Proofs.YthbdeafbdmbabaaGreatDoor
open Go.RowKit Go
set_option linter.unusedVariables false
theorem esc_dot (c : UInt8) (h : c.toNat = 46 ∨ c.toNat = 92) : escB c = [92, c] := by unfold escB; rw [if_pos h]
theorem esc_num (c : UInt8) (h : ¬ (c.toNat = 46 ∨ c.toNat = 92)) (h2 : c.toNat < 33 ∨ 126 < c.toNat) : escB c = [92, UInt8.ofNat (48 + c.toNat / 100), UInt8.ofNat (48 + c.toNat / 10 % 10), UInt8.ofNat (48 + c.toNat % 10)] := by unfold escB; rw [if_neg h, if_pos h2]
theorem esc_one (c : UInt8) (h : ¬ (c.toNat = 46 ∨ c.toNat = 92)) (h2 : ¬ (c.toNat < 33 ∨ 126 < c.toNat)) : escB c = [c] := by unfold escB; rw [if_neg h, if_neg h2]
theorem escB_len (c : UInt8) : (escB c).length ≤ 4 := by
  unfold escB
  split
  · simp
  · split <;> simp
theorem escs_len (l : List UInt8) : (escs l).length ≤ 4 * l.length := by
  unfold escs
  induction l with
  | nil => simp
  | cons c l ih => have := escB_len c; simp only [List.flatMap_cons, List.length_append, List.length_cons]; omega
theorem textD_len (n : List (List UInt8)) : (textD n).length ≤ 4 * sizeL n := by
  unfold textD sizeL
  induction n with
  | nil => simp
  | cons l n ih =>
    have := escs_len l
    simp only [List.flatMap_cons, List.length_append, List.length_cons, List.length_nil, List.map_cons, List.sum_cons]
    omega
theorem escs_take (l : List UInt8) (k : Nat) (h : k < l.length) : escs (l.take (k + 1)) = escs (l.take k) ++ escB l[k] := by
  unfold escs
  rw [List.take_succ_eq_append_getElem h, List.flatMap_append]
  simp only [List.flatMap_cons, List.flatMap_nil, List.append_nil]
theorem byte_at (s : ByteArray) (k : Nat) (h : k < s.size) : s.data.toList[k]'(by simpa using h) = s[k] := rfl
theorem ba_of (x : List UInt8) : ∃ s : ByteArray, (⟨x.toArray⟩ : ByteArray) = s ∧ x = s.data.toList ∧ x.length = s.size := ⟨⟨x.toArray⟩, rfl, by simp, by simp [ByteArray.size]⟩
end Go.Proofs.YthbdeafbdmbabaaGreatDoor
