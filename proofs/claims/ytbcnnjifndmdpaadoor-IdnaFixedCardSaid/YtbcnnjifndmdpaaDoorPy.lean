/- Texts behind a law of this seat, in order: Dom8. -/
import Derived.Test.YtbcnnjifndmdpaaDoorPa
import Derived.Test.YtbcnnjifndmdpaaDoorPb
import Derived.Test.YtbcnnjifndmdpaaDoorPc
import Derived.Test.YtbcnnjifndmdpaaDoorPe
import Derived.Test.YtbcnnjifndmdpaaDoorPf
import Derived.Test.YtbcnnjifndmdpaaDoorPg
import Derived.Test.YtbcnnjifndmdpaaDoorPh
import Derived.Test.YtbcnnjifndmdpaaDoorPp
import Derived.Test.YtbcnnjifndmdpaaDoorPs
import Derived.Test.YtbcnnjifndmdpaaDoorPu
import Derived.Test.YtbcnnjifndmdpaaDoorPv
import Derived.Test.YtbcnnjifndmdpaaDoorPw
import Derived.Test.YtbcnnjifndmdpaaDoorPx
import Derived.BigQuiet
import Derived.ChangeSlices
import Derived.Deep.QuietTactic
import Derived.Handed
import Derived.Handy
import Derived.Lib.Bytealg
import Derived.Lib.DecodeN
import Derived.Lib.Hide
import Derived.Lib.Join
import Derived.Lib.RuneBytes
import Derived.Lib.Strings
import Derived.Shelf.LaysM
import Derived.Shelf.Small.Strs
import Derived.Shelf.Small.Utf8
import Derived.Shelf.Small.Wraps
import Derived.Shelf.Strings.Builder1
import Derived.Shelf.Strings.Builder2
import Derived.Shelf.Strings.Builder2Cap
import Derived.Shelf.Strings.BuilderCap
import Derived.Shelf.Strings.BuilderF
import Derived.Shelf.Strings.BuilderK
import Derived.Shelf.Strings.BuilderRune
import Derived.Shelf.Strings.Count
import Derived.Shelf.Strings.MapAny
import Derived.Shelf.Strings.OnBuilder
import Derived.Shelf.Strings.Prefix
import Derived.Shelf.Strings.Search1
import Derived.Shelf.Strings.Search2
import Derived.Shelf.Strings.Search3
import Derived.Shelf.Strings.Shaped
import Derived.Shelf.Strings.Split
import Derived.Shelf.Strings.SplitShaped
import Derived.Shelf.Unicode.Decode
import Derived.Shelf.Unicode.DecodeAny
import Derived.Shelf.Unicode.DecodeSlow
import Derived.Shelf.Utf8.AppendRunePlain
import Derived.SizedLaws
import Derived.SliceStrings
import Derived.Test.YtbcnnjifndmdpaaDoorProg
import Derived.WalkKit
import Derived.WalkLawsBesides
import Derived.WalkSpells
namespace Go.Proofs.YtbcnnjifndmdpaaDoor
open Go.RowKit Go
set_option linter.unusedVariables false
def hostN (n : List (List UInt8)) : Bool := !n.isEmpty && n.all hostB && decide (sizeL n ≤ 255)
theorem hostN_bad (l : List (List UInt8)) (k : Nat) (h : k < l.length) (e : hostB l[k] = false) : hostN l = false := by
  unfold hostN
  have : l.all hostB = false := by
    rw [List.all_eq_false]
    exact ⟨l[k], List.getElem_mem h, by rw [e]; simp⟩
  rw [this]; simp
theorem hosts_step (l : List (List UInt8)) (k : Nat) (h : k < l.length) (ha : (l.take k).all hostB = true) (e : hostB l[k] = true) : (l.take (k + 1)).all hostB = true := by
  rw [List.take_succ_eq_append_getElem h, List.all_append, ha]
  simp [e]
theorem hostN_end (l : List (List UInt8)) (ha : l.all hostB = true) : hostN l = (decide (0 < l.length) && decide (sizeL l ≤ 255)) := by
  unfold hostN
  rw [ha]
  cases l <;> simp
set_option maxHeartbeats 1000000 in
theorem refHostD_any (A : Option Addr) (n c : Nat) (l : List (List UInt8)) (w : World) (hl : TextsAt w A n l) (hb : sizeL l ≤ 5000) :
    Calls Tryd.prog 8 #[.slice A n c] w fun e w' => e = .returned (.bool (hostN l)) ∧ w = w' := by
  obtain rfl := hl.1
  go_enter Tryd.func8, Tryd.ntmps8
  go_wp2_with fail
  go_loop [3] (fun i => ∃ k : Nat, k ≤ l.length ∧ i = .int .i64 k ∧ Hid ((l.take k).all hostB = true)) (fun i => l.length - (intOf i).toNat)
  case atStart => exact ⟨0, Nat.zero_le _, rfl, Lib.hid rfl⟩
  case round =>
    obtain ⟨k, hk, rfl, HA⟩ := hrel
    have hsl := size_len l
    by_cases hkl : k < l.length
    · obtain ⟨b, o, rfl, hbh, hcell⟩ := hl.2 (by omega)
      have h1 := hcell k hkl
      have hm := size_at l k hkl
      have hbad := hostN_bad l k hkl
      have hgo := hosts_step l k hkl HA.out
      obtain ⟨x, hx⟩ : ∃ x, x = l[k] := ⟨_, rfl⟩
      rw [← hx] at h1 hm hbad hgo
      unfold strV at h1
      obtain ⟨s, hs1, rfl, hs2⟩ := ba_of x
      rw [hs1] at h1
      rw [hs2] at hm
      have HBAD := Lib.hid hbad; have HGO := Lib.hid hgo
      have hho := refHost_any s w (by omega)
      have HHO := Lib.hid hho
      clear hcell hx hs1 hs2 hbad hgo hho
      go_wp2_with fail
      with_reducible refine HHO.out.mono ?_
      rintro e w1 ⟨rfl, rfl⟩
      cases hh : hostB s.data.toList with
      | true =>
        have HG := Lib.hid (HGO.out hh)
        clear hh HBAD HGO HHO
        go_wp2_with fail
        go_round
        case rel => exact ⟨k + 1, by omega, by go_num, HG⟩
        case measure => simp [intOf]; omega
      | false =>
        have HF := Lib.hid (HBAD.out hh)
        clear hh HBAD HGO HHO
        go_wp2_with fail
        go_ret
        exact ⟨ret_bool HF.out.symm, rfl⟩
    · have ha := HA.out
      rw [List.take_of_length_le (by omega)] at ha
      have hend := hostN_end l ha
      by_cases h0 : l.length = 0
      · have t0 : ¬ (0 < (l.length : Int)) := by omega
        have hf : hostN l = false := by rw [hend]; simp; omega
        have HF := Lib.hid hf
        clear hend ha h0 hf
        go_wp2_with fail
        go_ret
        exact ⟨ret_bool HF.out.symm, rfl⟩
      · have hck := refSize_any A l.length c l w hl (by omega)
        have t0 : (0 < (l.length : Int)) := by omega
        have HCK := Lib.hid hck
        have HE := Lib.hid hend
        by_cases hbig : sizeL l ≤ 255
        · have hf : hostN l = true := by rw [hend]; simp; omega
          have HF := Lib.hid hf
          clear hend ha h0 hf hck
          go_wp2_with fail
          with_reducible refine HCK.out.mono ?_
          rintro e w3 ⟨rfl, rfl⟩
          go_wp2_with fail
          go_ret
          exact ⟨ret_bool (by rw [HF.out]; simp; omega), rfl⟩
        · have hf : hostN l = false := by rw [hend]; simp; omega
          have HF := Lib.hid hf
          clear hend ha h0 hf hck
          go_wp2_with fail
          with_reducible refine HCK.out.mono ?_
          rintro e w3 ⟨rfl, rfl⟩
          go_wp2_with fail
          go_ret
          exact ⟨ret_bool (by rw [HF.out]; simp; omega), rfl⟩
end Go.Proofs.YtbcnnjifndmdpaaDoor
