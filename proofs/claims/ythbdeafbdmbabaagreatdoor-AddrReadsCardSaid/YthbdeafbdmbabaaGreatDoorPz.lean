/- Texts behind a law of this seat, in order: Dom8. -/
import Derived.Test.YthbdeafbdmbabaaGreatDoorPa
import Derived.Test.YthbdeafbdmbabaaGreatDoorPb
import Derived.Test.YthbdeafbdmbabaaGreatDoorPd
import Derived.Test.YthbdeafbdmbabaaGreatDoorPe
import Derived.Test.YthbdeafbdmbabaaGreatDoorPg
import Derived.Test.YthbdeafbdmbabaaGreatDoorPh
import Derived.Test.YthbdeafbdmbabaaGreatDoorPw
import Derived.Test.YthbdeafbdmbabaaGreatDoorPx
import Derived.Test.YthbdeafbdmbabaaGreatDoorPy
import Derived.BigQuiet
import Derived.ChangeSlices
import Derived.Deep.QuietTactic
import Derived.Handed
import Derived.Handy
import Derived.Lib.Bytealg
import Derived.Lib.DecodeN
import Derived.Lib.Hide
import Derived.Lib.Join
import Derived.Lib.RuneBytes
import Derived.Lib.Strings
import Derived.Shelf.LaysM
import Derived.Shelf.Small.Bits
import Derived.Shelf.Small.Strs
import Derived.Shelf.Strconv.Itoa0
import Derived.Shelf.Strconv.Itoa1
import Derived.Shelf.Strconv.Itoa2
import Derived.Shelf.Strconv.Itoa3
import Derived.Shelf.Strings.Builder1
import Derived.Shelf.Strings.Builder2
import Derived.Shelf.Strings.Builder2Cap
import Derived.Shelf.Strings.BuilderCap
import Derived.Shelf.Strings.BuilderF
import Derived.Shelf.Strings.BuilderK
import Derived.Shelf.Strings.Count
import Derived.Shelf.Strings.Cut
import Derived.Shelf.Strings.OnBuilder
import Derived.Shelf.Strings.Prefix
import Derived.Shelf.Strings.Search1
import Derived.Shelf.Strings.Search2
import Derived.Shelf.Strings.Search3
import Derived.Shelf.Strings.Shaped
import Derived.Shelf.Strings.Split
import Derived.Shelf.Strings.SplitShaped
import Derived.Shelf.Unicode.Decode
import Derived.Shelf.Unicode.DecodeAny
import Derived.Shelf.Unicode.DecodeSlow
import Derived.SizedLaws
import Derived.SliceStrings
import Derived.Test.YthbdeafbdmbabaaGreatDoorProg
import Derived.WalkKit
import Derived.WalkLawsBesides
import Derived.WalkSpells
namespace Go.Proofs.YthbdeafbdmbabaaGreatDoor
open Go.RowKit Go
set_option linter.unusedVariables false
def lowN (n : List (List UInt8)) : List (List UInt8) := n.map fun l => l.map lowB
def sameN (a b : List (List UInt8)) : Bool := decide (lowN a = lowN b)
def underN (a b : List (List UInt8)) : Bool := decide (b.length ≤ a.length) && sameN (a.drop (a.length - b.length)) b
theorem lowN_take (l : List (List UInt8)) (k : Nat) (h : k < l.length) : lowN (l.take (k + 1)) = lowN (l.take k) ++ [l[k].map lowB] := by
  unfold lowN
  rw [List.take_succ_eq_append_getElem h, List.map_append]
  rfl
theorem lowN_len (l : List (List UInt8)) : (lowN l).length = l.length := by unfold lowN; simp
set_option maxHeartbeats 1000000 in
theorem refLowerD_any (A : Option Addr) (n c : Nat) (l : List (List UInt8)) (w : World) (hl : TextsAt w A n l) (hb : sizeL l ≤ 3000) :
    Calls Tryz.prog 73 #[.slice A n c] w fun e w' => ∃ A' c', e = .returned (.slice A' (lowN l).length c') ∧ TextsAt w' A' (lowN l).length (lowN l) ∧ Below w.heap.size w w' := by
  obtain rfl := hl.1
  go_enter Tryz.func73, Tryz.ntmps73
  go_wp2_with fail
  go_loopw [3, 4] (fun v i wr => ∃ k : Nat, k ≤ l.length ∧ i = .int .i64 k ∧ wr.ownsRow w.heap.size 9 1 v (lowN (l.take k)).length (strVs (lowN (l.take k))) ∧ Below w.heap.size w wr) (fun _ i _ => l.length - (intOf i).toNat)
  case atStart => exact ⟨0, Nat.zero_le _, rfl, World.ownsRow_nil _ _ _ _, Below.refl _ _⟩
  case round =>
    obtain ⟨k, hk, rfl, hown, HB⟩ := hrel
    have hsl := size_len l
    have hsz := HB.size
    by_cases hkl : k < l.length
    · obtain ⟨b, o, rfl, hbh, hcell⟩ := hl.2 (by omega)
      have h1 := hcell k hkl
      rw [← HB.cell (p := ⟨b, o + k, none⟩) hbh] at h1
      have hm := size_at l k hkl
      have ht := lowN_take l k hkl
      have hll := lowN_len (l.take k)
      rw [List.length_take, Nat.min_eq_left hk] at hll
      obtain ⟨x, hx⟩ : ∃ x, x = l[k] := ⟨_, rfl⟩
      obtain ⟨L, hL⟩ : ∃ L, L = lowN (l.take k) := ⟨_, rfl⟩
      rw [← hx] at h1 hm ht
      rw [← hL] at ht hown hll
      unfold strV at h1
      obtain ⟨s, hs1, rfl, hs2⟩ := ba_of x
      rw [hs1] at h1
      rw [hs2] at hm
      have HT := Lib.hid ht
      have hlo := refLower_any s wr (by omega)
      have HLO := Lib.hid hlo
      have HLL := Lib.hid hll
      have hll2 : L.length ≤ 3000 := by omega
      clear hcell hx hs1 hs2 ht hlo hL hll
      go_wp2_with fail
      with_reducible refine HLO.out.mono ?_
      rintro e w1 ⟨rfl, hb1⟩
      have hown1 := ownsRow_below hown hb1
      have HB1 := HB.trans (hb1.mono hsz)
      have hsz1 := HB1.size
      clear hown hb1 hsz HB
      go_wp2_with (at_builtin; refine wpList_app1 rfl (.tmp 11) (.tmp 17) 33 9 rfl Tryz.underlying33 elem9 rfl w.heap.size _ L.length _ _ rfl rfl hown1 rfl (by omega) (by omega) hsz1 ?_)
      intro v' w' hown' HB' hne
      have hown2 := own_app1 hown'
      rw [← HT.out] at hown2
      clear hown'
      go_wp2_with fail
      go_roundw
      case rel => exact ⟨k + 1, by omega, by go_num, hown2, HB1.trans HB'⟩
      case measure => simp [intOf]; omega
    · rw [List.take_of_length_le (by omega)] at hown
      obtain ⟨A2, c2, rfl, hta⟩ := TextsAt.of_own hown
      clear hown
      obtain ⟨L, hL⟩ : ∃ L, L = lowN l := ⟨_, rfl⟩
      have HL := Lib.hid hL
      rw [← hL] at hta ⊢
      clear hL
      go_wp2_with fail
      go_ret
      have hL2 := HL.out
      subst hL2
      exact ⟨A2, c2, rfl, hta, HB⟩
end Go.Proofs.YthbdeafbdmbabaaGreatDoor
