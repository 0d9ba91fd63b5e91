import Derived.Test.YtkgnhdebphaknaaDoorPuny13
import Derived.Test.YtkgnhdebphaknaaDoorPuny8
import Derived.Test.YtkgnhdebphaknaaDoorLow
namespace Go.Proofs.YtkgnhdebphaknaaDoor
open Go.RowKit Go
set_option linter.unusedVariables false
theorem val_tab : ∀ n : Fin 256, ∀ k : Fin 36, (figC (k.val : Int) = lowB (UInt8.ofNat n.val)) ↔ valI (n.val : Int) = (k.val : Int) := by decide +kernel
theorem val_at {c : Int} (h0 : 0 ≤ c) (h1 : c ≤ 255) {k : Nat} (hk : k < 36) : (figC (k : Int) = lowB (UInt8.ofNat c.toNat)) ↔ valI c = (k : Int) := by
  obtain ⟨n, rfl⟩ := Int.eq_ofNat_of_zero_le h0
  exact val_tab ⟨n, by omega⟩ ⟨k, hk⟩
theorem lower1_any (c : UInt8) (w : World) : Calls Tryd.prog 13 #[.string ⟨#[c]⟩] w fun e w' => e = .returned (.string ⟨#[lowB c]⟩) ∧ Below w.heap.size w w' := by
  have h := refLower_any ⟨#[c]⟩ w (by simp [ByteArray.size])
  exact h
set_option maxHeartbeats 1000000 in
theorem refValue_any (c : Int) (w : World) (h0 : 0 ≤ c) (h1 : c ≤ 255) : Calls Tryd.prog 52 #[.int .u8 c] w fun e w' => e = .returned (.int .i64 (valI c)) ∧ Below w.heap.size w w' := by
  have hcv := own_bcs1 (w := w) c h0 (by omega)
  have hlo := fun w => lower1_any (UInt8.ofNat c.toNat) w
  have hva := fun k (hk : k < 36) => val_at h0 h1 hk
  obtain ⟨L, hL⟩ : ∃ L, L = lowB (UInt8.ofNat c.toNat) := ⟨_, rfl⟩
  simp only [← hL] at hlo hva
  have hbd := valI_bd c
  have HLO := Lib.hid hlo
  have HVA := Lib.hid hva
  have HB0 := Lib.hid ((Below.refl w.heap.size w).alloc (Nat.le_refl _) (.cells #[.int .u8 c] 5))
  clear hlo hva hL
  go_enter Tryd.func52, Tryd.ntmps52
  go_wp2_with fail
  ((with_reducible refine (HLO.out _).mono ?_))
  rintro e w1 ⟨rfl, hb⟩
  have HB1 := Lib.hid (HB0.out.trans (hb.mono (by simp)))
  clear hb hcv
  go_wp2_with fail
  go_loop [5] (fun i => ∃ k : Nat, k ≤ 36 ∧ i = .int .i64 k ∧ Hid (∀ j : Nat, j < k → valI c ≠ (j : Int))) (fun i => 36 - (intOf i).toNat)
  case atStart => exact ⟨0, by omega, rfl, Lib.hid (fun j h => absurd h (by omega))⟩
  case round =>
    obtain ⟨k, hk, rfl, hall⟩ := hrel
    by_cases hlt : k < 36
    · have hx : (figTab.extract k (k + 1)).toList = [figC (k : Int)] := by rw [fig_ext0 ⟨k, hlt⟩, ByteArray.toList_eq]
      have HX := Lib.hid hx
      clear hx
      go_wp2
      · have hq : ((figTab.extract k (k + 1)).toList == [L]) = true := by assumption
        rw [HX.out] at hq
        have hv : valI c = (k : Int) := (HVA.out k hlt).1 (by simpa using hq)
        have HV := Lib.hid hv
        clear hq hv
        go_ret
        exact ⟨ret_int HV.out.symm, HB1.out⟩
      · have hq : ((figTab.extract k (k + 1)).toList == [L]) = false := by assumption
        rw [HX.out] at hq
        have hv : valI c ≠ (k : Int) := fun e => by
          have := (HVA.out k hlt).2 e
          rw [this] at hq
          simp at hq
        have HV := Lib.hid hv
        clear hq hv
        go_round
        case rel => exact ⟨k + 1, by omega, by go_num, Lib.hid (fun j hj => by
          by_cases hjk : j = k
          · rw [hjk]; exact HV.out
          · exact hall.out j (by omega))⟩
        case measure => simp [intOf]; omega
    · have he : valI c = -1 := by
        apply Classical.byContradiction
        intro hne
        obtain ⟨n, hn⟩ := Int.eq_ofNat_of_zero_le (show 0 ≤ valI c by omega)
        exact hall.out n (by omega) hn
      have HE := Lib.hid he
      clear he
      go_wp2
      go_ret
      exact ⟨ret_int HE.out.symm, HB1.out⟩
end Go.Proofs.YtkgnhdebphaknaaDoor
