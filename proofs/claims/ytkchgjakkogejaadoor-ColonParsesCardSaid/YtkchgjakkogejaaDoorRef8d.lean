/- Layer 8: the document's group. -/
import Derived.Test.YtkchgjakkogejaaDoorColon7
namespace Go.Proofs.YtkchgjakkogejaaDoor
open Go.RowKit Go
set_option linter.unusedVariables false
set_option maxRecDepth 100000
def grpI (l : List UInt8) : Int := match groupE l with
  | some n => n
  | none => -1
theorem grpI_none {l : List UInt8} (h : groupE l = none) : grpI l = -1 := by unfold grpI; rw [h]
theorem grpI_some {l : List UInt8} {n : Nat} (h : groupE l = some n) : grpI l = n := by unfold grpI; rw [h]
set_option maxHeartbeats 2000000 in
theorem refGrp_any (s : ByteArray) (w : World) (hs : s.size ≤ 4000) :
    Calls Tryd.prog 44 #[.string s] w fun e w' => e = .returned (.int .i64 (grpI s.data.toList)) ∧ w = w' := by
  have hz := Lib.size_eq s
  by_cases h0 : s.size < 1
  · have hn : s.data.toList = [] := List.length_eq_zero_iff.1 (by omega)
    have hg := grpI_none (group_none _ (.inl hn))
    have HG := Lib.hid hg
    clear hg hz hn
    go_enter Tryd.func44, Tryd.ntmps44
    go_wp2
    go_ret
    exact ⟨ret_int HG.out.symm, rfl⟩
  · by_cases h4 : 4 < s.size
    · have hg := grpI_none (group_none s.data.toList (.inr (.inl (by omega))))
      have HG := Lib.hid hg
      clear hg hz
      go_enter Tryd.func44, Tryd.ntmps44
      go_wp2
      go_ret
      exact ⟨ret_int HG.out.symm, rfl⟩
    · have hne : s.data.toList ≠ [] := by
        intro e
        have h1 := congrArg List.length e
        rw [← hz] at h1
        have h2 : s.size = 0 := h1
        omega
      have H0 := Lib.hid hne
      have HZ := Lib.hid hz
      clear hz hne
      go_enter Tryd.func44, Tryd.ntmps44
      go_wp2
      go_loop [3, 4] (fun n i => ∃ k : Nat, i = .int .i64 k ∧ k ≤ s.size ∧ n = .int .i64 (hexN (s.data.toList.take k)) ∧ allH (s.data.toList.take k) = true) (fun _ i => s.size - (intOf i).toNat)
      case atStart => exact ⟨0, rfl, Nat.zero_le _, rfl, rfl⟩
      case round =>
        obtain ⟨k, rfl, hk, rfl, hall⟩ := hrel
        have HA := Lib.hid hall
        clear hall
        have hlt65 : hexN (s.data.toList.take k) < 65536 := by
          have h1 := hexN_lt (s.data.toList.take k)
          have h2 : (s.data.toList.take k).length ≤ 4 := by rw [List.length_take]; have := HZ.out; omega
          have : 16 ^ (s.data.toList.take k).length ≤ 16 ^ 4 := Nat.pow_le_pow_right (by decide) h2
          omega
        by_cases hlt : k < s.size
        · have hc := UInt8.toNat_lt s[k]
          have hx := refHex_any s[k].toNat w (by omega) (by omega)
          have hst := hexN_take s k hlt
          have hal := allH_take s k hlt HA.out
          have hba := allH_bad s k hlt
          have hv := hexV_bd s[k].toNat
          obtain ⟨d, hd⟩ : ∃ d : Nat, hexV s[k].toNat = d := ⟨(hexV s[k].toNat).toNat, by omega⟩
          rw [hd] at hx hst
          rw [Int.toNat_natCast] at hst
          have hd15 : d ≤ 15 := by omega
          obtain ⟨b, hb⟩ : ∃ b, b = hexB s[k].toNat := ⟨_, rfl⟩
          rw [← hb] at hx hal hba
          cases b with
          | true =>
            have hal' := hal rfl
            have HX := Lib.hid hx
            have HS := Lib.hid hst
            have HL := Lib.hid hal'
            clear hx hst hal hba hal' hv hd hb
            go_wp2_with (first
              | ((with_reducible refine HX.out.mono ?_); rintro e w2 ⟨rfl, hq⟩; subst hq))
            go_round
            case rel => exact ⟨k + 1, by go_num, by omega, ret_v (by rw [HS.out]; omega), HL.out⟩
            case measure => simp [intOf]; omega
          | false =>
            have hg := grpI_none (group_none _ (.inr (.inr (hba rfl))))
            have HX := Lib.hid hx
            have HG := Lib.hid hg
            clear hx hst hal hba hg hv hd hb
            go_wp2_with (first
              | ((with_reducible refine HX.out.mono ?_); rintro e w2 ⟨rfl, hq⟩; subst hq))
            go_ret
            exact ⟨ret_int HG.out.symm, rfl⟩
        · obtain rfl : k = s.size := by omega
          have ht : s.data.toList.take s.size = s.data.toList := List.take_of_length_le (by simp)
          have hg := grpI_some (group_some s.data.toList H0.out (by have := HZ.out; omega) (by rw [← ht]; exact HA.out))
          rw [ht]
          have HG := Lib.hid hg
          clear hg ht
          go_wp2_with fail
          go_ret
          exact ⟨ret_int HG.out.symm, rfl⟩
end Go.Proofs.YtkchgjakkogejaaDoor
