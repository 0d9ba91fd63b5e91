/- Texts behind a law of this seat, in order: Dom. -/
import Derived.Test.YthbdeafbdmbabaaGreatDoorPb
import Derived.Test.YthbdeafbdmbabaaGreatDoorPd
import Derived.BigQuiet
import Derived.Deep.QuietTactic
import Derived.Handed
import Derived.Handy
import Derived.Lib.Hide
import Derived.Lib.Strings
import Derived.SizedLaws
import Derived.SliceStrings
import Derived.Test.YthbdeafbdmbabaaGreatDoorProg
import Derived.WalkKit
import Derived.WalkLawsBesides
import Derived.WalkSpells
namespace Go.Proofs.YthbdeafbdmbabaaGreatDoor
open Go.RowKit Go
set_option linter.unusedVariables false
theorem size_take (l : List (List UInt8)) (k : Nat) (h : k < l.length) : sizeL (l.take (k + 1)) = sizeL (l.take k) + (l[k].length + 1) := by
  unfold sizeL
  rw [List.take_succ_eq_append_getElem h, List.map_append, List.sum_append]
  simp only [List.map_cons, List.map_nil, List.sum_cons, List.sum_nil]
  omega
theorem size_app (a b : List (List UInt8)) : sizeL (a ++ b) = sizeL a + (sizeL b - 1) := by
  unfold sizeL; simp; omega
theorem size_pos (a : List (List UInt8)) : 1 ≤ sizeL a := by unfold sizeL; omega
theorem size_mono (l : List (List UInt8)) (k : Nat) : sizeL (l.take k) ≤ sizeL l := by
  have := size_app (l.take k) (l.drop k)
  rw [List.take_append_drop] at this
  omega
theorem size_len (l : List (List UInt8)) : l.length + 1 ≤ sizeL l := by
  unfold sizeL
  induction l with
  | nil => simp
  | cons a l ih => simp at ih ⊢; omega
theorem size_at (l : List (List UInt8)) (k : Nat) (h : k < l.length) : sizeL (l.take k) + (l[k].length + 1) ≤ sizeL l := by
  rw [← size_take l k h]; exact size_mono l _
theorem size_lab (l : List (List UInt8)) (x : List UInt8) (h : x ∈ l) : x.length + 2 ≤ sizeL l := by
  obtain ⟨k, hk, rfl⟩ := List.mem_iff_getElem.1 h
  have := size_at l k hk
  have := size_pos (l.take k)
  omega
theorem size_all (l : List (List UInt8)) (n k : Nat) (hn : n = l.length) (h : ¬ k < n) : sizeL (l.take k) = sizeL l := by
  rw [List.take_of_length_le (by omega)]
set_option maxHeartbeats 400000 in
theorem few_any (A : Option Addr) (n c : Nat) (l : List (List UInt8)) (w : World) (hl : TextsAt w A n l) (hb : ∀ x ∈ l, x.length ≤ 140737488351232) :
    Calls Tryz.prog 23 #[.slice A n c] w fun e w' => e = .returned (.bool (decide (sizeL l ≤ 401))) ∧ w = w' := by
  go_enter Tryz.func23, Tryz.ntmps23
  go_wp2_with fail
  go_loop [3, 4] (fun v i => ∃ k : Nat, k ≤ n ∧ i = .int .i64 k ∧ sizeL (l.take k) ≤ 401 ∧ v = .int .i64 ((sizeL (l.take k) : Int) - 1)) (fun _ i => n - (intOf i).toNat)
  case atStart => exact ⟨0, Nat.zero_le _, rfl, by simp [sizeL], rfl⟩
  case round =>
    obtain ⟨k, hk, rfl, hz, rfl⟩ := hrel
    have hlen := hl.1
    have hp := size_pos (l.take k)
    by_cases hlt : k < n
    · obtain ⟨b, o, rfl, hbh, hcell⟩ := hl.2 (by omega)
      have hkl : k < l.length := by omega
      have hxl := hb _ (List.getElem_mem hkl)
      have h1 := hcell k hkl
      have ht := size_take l k hkl
      have hm := size_at l k hkl
      have hkk := size_len (l.take k)
      rw [List.length_take, Nat.min_eq_left (by omega)] at hkk
      have hdec : ∀ m, m ≤ sizeL l → ¬ m ≤ 401 → decide (sizeL l ≤ 401) = false := fun m h1 h2 => decide_eq_false (by omega)
      obtain ⟨x, hx⟩ : ∃ x, x = l[k] := ⟨_, rfl⟩
      obtain ⟨z, hz2⟩ : ∃ z, z = sizeL (l.take k) := ⟨_, rfl⟩
      rw [← hx] at h1 ht hm hxl
      rw [← hz2] at ht hm hz hkk hp ⊢
      have HT := Lib.hid ht
      have HD := Lib.hid hdec
      have HM := Lib.hid hm
      clear hcell hl ht hx hz2 hb hdec hm
      unfold strV at h1
      by_cases hbig : z + (x.length + 1) ≤ 401
      · go_wp2_with fail
        go_round
        case rel => exact ⟨k + 1, by omega, by go_num, by rw [HT.out]; exact hbig, ret_v (by rw [HT.out]; go_arith)⟩
        case measure => simp [intOf]; omega
      · go_wp2_with fail
        go_ret
        exact ⟨ret_bool (HD.out _ HM.out hbig).symm, rfl⟩
    · rw [size_all l n k hlen hlt] at hz
      have HD := Lib.hid (decide_eq_true hz)
      go_wp2_with fail
      go_ret
      first | exact ⟨rfl, rfl⟩ | exact ⟨ret_bool HD.out.symm, rfl⟩
end Go.Proofs.YthbdeafbdmbabaaGreatDoor
