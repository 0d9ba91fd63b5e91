/- Texts behind a law of this seat, in order: Dom. -/
import Derived.Test.YtnoabmkmnddkkaaPa
import Derived.Test.YtnoabmkmnddkkaaPb
import Derived.BigQuiet
import Derived.Deep.QuietTactic
import Derived.Handed
import Derived.Handy
import Derived.Lib.Hide
import Derived.Lib.Strings
import Derived.SizedLaws
import Derived.SliceStrings
import Derived.Test.YtnoabmkmnddkkaaProg
import Derived.WalkKit
import Derived.WalkLawsBesides
import Derived.WalkSpells
namespace Go.Proofs.Ytnoabmkmnddkkaa
open Go.RowKit Go
set_option linter.unusedVariables false
theorem size_take (l : List (List UInt8)) (k : Nat) (h : k < l.length) : sizeL (l.take (k + 1)) = sizeL (l.take k) + (l[k].length + 1) := by
  unfold sizeL
  rw [List.take_succ_eq_append_getElem h, List.map_append, List.sum_append]
  simp only [List.map_cons, List.map_nil, List.sum_cons, List.sum_nil]
  omega
theorem size_app (a b : List (List UInt8)) : sizeL (a ++ b) = sizeL a + (sizeL b - 1) := by
  unfold sizeL; simp; omega
theorem size_pos (a : List (List UInt8)) : 1 ≤ sizeL a := by unfold sizeL; omega
theorem size_mono (l : List (List UInt8)) (k : Nat) : sizeL (l.take k) ≤ sizeL l := by
  have := size_app (l.take k) (l.drop k)
  rw [List.take_append_drop] at this
  omega
theorem size_len (l : List (List UInt8)) : l.length + 1 ≤ sizeL l := by
  unfold sizeL
  induction l with
  | nil => simp
  | cons a l ih => simp at ih ⊢; omega
theorem size_at (l : List (List UInt8)) (k : Nat) (h : k < l.length) : sizeL (l.take k) + (l[k].length + 1) ≤ sizeL l := by
  rw [← size_take l k h]; exact size_mono l _
theorem size_all (l : List (List UInt8)) (n k : Nat) (hn : n = l.length) (h : ¬ k < n) : sizeL (l.take k) = sizeL l := by
  rw [List.take_of_length_le (by omega)]
set_option maxHeartbeats 400000 in
theorem size_any (A : Option Addr) (n c : Nat) (l : List (List UInt8)) (w : World) (hl : TextsAt w A n l) (hb : sizeL l ≤ 1000000) :
    Calls Try.prog 22 #[.slice A n c] w fun e w' => e = .returned (.int .i64 (sizeL l)) ∧ w = w' := by
  go_enter Try.func22, Try.ntmps22
  go_wp2_with fail
  go_loop [3, 8] (fun v i => ∃ k : Nat, k ≤ n ∧ i = .int .i64 k ∧ v = .int .i64 (sizeL (l.take k))) (fun _ i => n - (intOf i).toNat)
  case atStart => exact ⟨0, Nat.zero_le _, rfl, rfl⟩
  case round =>
    obtain ⟨k, hk, rfl, rfl⟩ := hrel
    have hlen := hl.1
    have hsl := size_len l
    by_cases hlt : k < n
    · obtain ⟨b, o, rfl, hbh, hcell⟩ := hl.2 (by omega)
      have hkl : k < l.length := by omega
      have h1 := hcell k hkl
      have ht := size_take l k hkl
      have hm := size_at l k hkl
      obtain ⟨x, hx⟩ : ∃ x, x = l[k] := ⟨_, rfl⟩
      obtain ⟨z, hz⟩ : ∃ z, z = sizeL (l.take k) := ⟨_, rfl⟩
      rw [← hx] at h1 ht hm
      rw [← hz] at ht hm ⊢
      have HT := Lib.hid ht
      clear hcell hl ht hx hz
      unfold strV at h1
      go_wp2_with fail
      go_round
      case rel => exact ⟨k + 1, by omega, by go_num, ret_v (by rw [HT.out]; go_arith)⟩
      case measure => simp [intOf]; omega
    · rw [size_all l n k hlen hlt]
      go_wp2_with fail
      go_ret
      exact ⟨rfl, rfl⟩
set_option maxHeartbeats 400000 in
theorem few_any (A : Option Addr) (n c : Nat) (l : List (List UInt8)) (w : World) (hl : TextsAt w A n l) (hb : ∀ x ∈ l, x.length ≤ 140737488351232) :
    Calls Try.prog 11 #[.slice A n c] w fun e w' => e = .returned (.bool (decide (sizeL l ≤ 401))) ∧ w = w' := by
  go_enter Try.func11, Try.ntmps11
  go_wp2_with fail
  go_loop [3, 4] (fun v i => ∃ k : Nat, k ≤ n ∧ i = .int .i64 k ∧ sizeL (l.take k) ≤ 401 ∧ v = .int .i64 ((sizeL (l.take k) : Int) - 1)) (fun _ i => n - (intOf i).toNat)
  case atStart => exact ⟨0, Nat.zero_le _, rfl, by simp [sizeL], rfl⟩
  case round =>
    obtain ⟨k, hk, rfl, hz, rfl⟩ := hrel
    have hlen := hl.1
    have hp := size_pos (l.take k)
    by_cases hlt : k < n
    · obtain ⟨b, o, rfl, hbh, hcell⟩ := hl.2 (by omega)
      have hkl : k < l.length := by omega
      have hxl := hb _ (List.getElem_mem hkl)
      have h1 := hcell k hkl
      have ht := size_take l k hkl
      have hm := size_at l k hkl
      have hkk := size_len (l.take k)
      rw [List.length_take, Nat.min_eq_left (by omega)] at hkk
      have hdec : ∀ m, m ≤ sizeL l → ¬ m ≤ 401 → decide (sizeL l ≤ 401) = false := fun m h1 h2 => decide_eq_false (by omega)
      obtain ⟨x, hx⟩ : ∃ x, x = l[k] := ⟨_, rfl⟩
      obtain ⟨z, hz2⟩ : ∃ z, z = sizeL (l.take k) := ⟨_, rfl⟩
      rw [← hx] at h1 ht hm hxl
      rw [← hz2] at ht hm hz hkk hp ⊢
      have HT := Lib.hid ht
      have HD := Lib.hid hdec
      have HM := Lib.hid hm
      clear hcell hl ht hx hz2 hb hdec hm
      unfold strV at h1
      by_cases hbig : z + (x.length + 1) ≤ 401
      · go_wp2_with fail
        go_round
        case rel => exact ⟨k + 1, by omega, by go_num, by rw [HT.out]; exact hbig, ret_v (by rw [HT.out]; go_arith)⟩
        case measure => simp [intOf]; omega
      · go_wp2_with fail
        go_ret
        exact ⟨ret_bool (HD.out _ HM.out hbig).symm, rfl⟩
    · rw [size_all l n k hlen hlt] at hz
      have HD := Lib.hid (decide_eq_true hz)
      go_wp2_with fail
      go_ret
      first | exact ⟨rfl, rfl⟩ | exact ⟨ret_bool HD.out.symm, rfl⟩
theorem okLab_nil (l : List (List UInt8)) (k : Nat) (h : k < l.length) (e : l[k].length < 1 ∨ 63 < l[k].length) : checkL l = 7 := by
  unfold checkL
  rw [if_neg]
  intro hh
  have := List.all_eq_true.1 hh _ (List.getElem_mem h)
  rw [okLab_iff] at this
  omega
theorem okLab_step (l : List (List UInt8)) (k : Nat) (h : k < l.length) (ha : (l.take k).all okLab = true) (e : 1 ≤ l[k].length) (e2 : l[k].length ≤ 63) : (l.take (k + 1)).all okLab = true := by
  rw [List.take_succ_eq_append_getElem h, List.all_append, ha]
  simp [okLab_iff]; omega
theorem check_end (l : List (List UInt8)) (n k : Nat) (hn : n = l.length) (h : ¬ k < n) (ha : (l.take k).all okLab = true) : checkL l = if 255 < sizeL l then 3 else 0 := by
  rw [List.take_of_length_le (by omega)] at ha
  unfold checkL
  rw [if_pos ha]
set_option maxHeartbeats 400000 in
theorem check_any (A : Option Addr) (n c : Nat) (l : List (List UInt8)) (w : World) (hl : TextsAt w A n l) (hb : sizeL l ≤ 1000000) :
    Calls Try.prog 18 #[.slice A n c] w fun e w' => e = .returned (.int .i64 (checkL l)) ∧ w = w' := by
  have hsize := size_any A n c l w hl hb
  have HSZ := Lib.hid hsize; clear hsize
  obtain rfl := hl.1
  go_enter Try.func18, Try.ntmps18
  go_wp2_with fail
  go_loop [7] (fun i => ∃ k : Nat, k ≤ l.length ∧ i = .int .i64 k ∧ Hid ((l.take k).all okLab = true)) (fun i => l.length - (intOf i).toNat)
  case atStart => exact ⟨0, Nat.zero_le _, rfl, Lib.hid rfl⟩
  case round =>
    obtain ⟨k, hk, rfl, HALL⟩ := hrel
    have hall := HALL.out
    clear HALL
    have hsl := size_len l
    by_cases hlt : k < l.length
    · obtain ⟨b, o, rfl, hbh, hcell⟩ := hl.2 (by omega)
      have hkl := hlt
      have h1 := hcell k hkl
      have hm := size_at l k hkl
      have hbad := okLab_nil l k hkl
      have hgo := okLab_step l k hkl hall
      obtain ⟨x, hx⟩ : ∃ x, x = l[k] := ⟨_, rfl⟩
      rw [← hx] at h1 hm hbad hgo
      have HB := Lib.hid hbad; have HG := Lib.hid hgo; have HA := Lib.hid hall
      clear hcell hl hx hbad hgo hall
      unfold strV at h1
      by_cases h0 : x = []
      · have HX := Lib.hid (HB.out (.inl (by rw [h0]; decide)))
        subst h0
        go_wp2_with fail
        go_ret
        exact ⟨ret_int HX.out.symm, rfl⟩
      · have he : x.isEmpty = false := by simpa using h0
        have hp := List.length_pos_iff.2 h0
        clear h0
        by_cases h2 : 63 < x.length
        · go_wp2_with fail
          go_ret
          exact ⟨ret_int (HB.out (.inr h2)).symm, rfl⟩
        · go_wp2_with fail
          go_round
          case rel => exact ⟨k + 1, by omega, by go_num, Lib.hid (HG.out hp (by omega))⟩
          case measure => simp [intOf]; omega
    · have HC := Lib.hid (check_end l _ k rfl hlt hall)
      clear hall
      go_wp2_with fail
      with_reducible refine (HSZ.out).mono ?_
      rintro e w1 ⟨rfl, rfl⟩
      by_cases h3 : 255 < sizeL l
      · go_wp2_with fail
        go_ret
        exact ⟨ret_int (by rw [HC.out, if_pos h3]), rfl⟩
      · go_wp2_with fail
        go_ret
        exact ⟨ret_int (by rw [HC.out, if_neg h3]), rfl⟩
end Go.Proofs.Ytnoabmkmnddkkaa
