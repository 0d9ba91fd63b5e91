/- Texts behind a law of this seat, in order: LabelHost. -/
import Derived.Test.YtbcnnjifndmdpaaDoorPb
import Derived.Test.YtbcnnjifndmdpaaDoorPc
import Derived.Test.YtbcnnjifndmdpaaDoorPe
import Derived.Test.YtbcnnjifndmdpaaDoorPf
import Derived.Test.YtbcnnjifndmdpaaDoorPg
import Derived.BigQuiet
import Derived.ChangeSlices
import Derived.Deep.QuietTactic
import Derived.Handed
import Derived.Handy
import Derived.Lib.DecodeN
import Derived.Lib.Hide
import Derived.Lib.RuneBytes
import Derived.Lib.Strings
import Derived.SizedLaws
import Derived.SliceStrings
import Derived.Test.YtbcnnjifndmdpaaDoorProg
import Derived.WalkKit
import Derived.WalkLawsBesides
import Derived.WalkSpells
namespace Go.Proofs.YtbcnnjifndmdpaaDoor
open Go.RowKit Go
set_option linter.unusedVariables false
theorem common_any (c : Int) (w : World) : Calls Tryd.prog 53 #[.int .i32 c] w fun e w' => e = .returned (.bool (plainB c)) ∧ w = w' := by
  have key : ∀ b, (b = true ↔ (97 ≤ c ∧ c ≤ 122) ∨ (65 ≤ c ∧ c ≤ 90) ∨ (48 ≤ c ∧ c ≤ 57) ∨ c = 45) → b = plainB c := fun b h => Bool.eq_iff_iff.2 (h.trans (plainB_iff c).symm)
  have KEY := Lib.hid key
  clear key
  go_enter Tryd.func53, Tryd.ntmps53
  go_wp2
  all_goals (go_ret; exact ⟨ret_bool (KEY.out _ (by simp; omega)), rfl⟩)
theorem refPlain_any (c : Int) (w : World) : Calls Tryd.prog 41 #[.int .i64 c] w fun e w' => e = .returned (.bool (plainB c)) ∧ w = w' := by
  have key : ∀ b, (b = true ↔ (97 ≤ c ∧ c ≤ 122) ∨ (65 ≤ c ∧ c ≤ 90) ∨ (48 ≤ c ∧ c ≤ 57) ∨ c = 45) → b = plainB c := fun b h => Bool.eq_iff_iff.2 (h.trans (plainB_iff c).symm)
  have KEY := Lib.hid key
  clear key
  go_enter Tryd.func41, Tryd.ntmps41
  go_wp2
  all_goals (go_ret; exact ⟨ret_bool (KEY.out _ (by simp; omega)), rfl⟩)
theorem mem_ba (s : ByteArray) (k : Nat) (hk : k < s.size) : s[k] ∈ s.data.toList := by
  have : s.data.toList[k]'(by simpa using hk) ∈ s.data.toList := List.getElem_mem _
  exact this
theorem farB_at (s : ByteArray) (k : Nat) (hk : k < s.size) (h : 128 ≤ s[k].toNat) : farB s.data.toList = true := by
  unfold farB
  rw [List.any_eq_true]
  exact ⟨s[k], mem_ba s k hk, by simpa using h⟩
theorem small_step (s : ByteArray) (k : Nat) (hk : k < s.size) (ha : ∀ c ∈ s.data.toList.take k, c.toNat < 128) (h : ¬ 128 ≤ s[k].toNat) : ∀ c ∈ s.data.toList.take (k + 1), c.toNat < 128 := by
  rw [take_snoc s k hk]
  intro c hc
  rcases List.mem_append.1 hc with hc | hc
  · exact ha c hc
  · obtain rfl := List.mem_singleton.1 hc
    omega
theorem farB_end (s : ByteArray) (ha : ∀ c ∈ s.data.toList.take s.size, c.toNat < 128) : farB s.data.toList = false := by
  rw [farB_no]
  rwa [List.take_of_length_le (by simp)] at ha
set_option maxRecDepth 100000 in
theorem far_any (s : ByteArray) (w : World) (hs : s.size ≤ 40000) : Calls Tryd.prog 47 #[.string s] w fun e w' => e = .returned (.bool (farB s.data.toList)) ∧ Below w.heap.size w w' := by
  have kb := run_bytes_of_string (P := Tryd.prog) w 9 51 5 s Tryd.underlying9 Tryd.underlying51 Tryd.underlying5
  have hst := byAt_start s w
  have hb1 : Below w.heap.size w ((w.alloc (.cells (bytesRow s (grownCap w s.size 0 5)) 5 ((bytesRow s (grownCap w s.size 0 5)).size, (bytesRow s (grownCap w s.size 0 5)).size + 1))).drew) := ((Below.refl _ _).alloc (Nat.le_refl _) _).drew
  have HST := Lib.hid hst
  have HB1 := Lib.hid hb1
  clear hst hb1
  go_enter Tryd.func47, Tryd.ntmps47
  go_wp2
  clear kb
  generalize ((w.alloc (.cells (bytesRow s (grownCap w s.size 0 5)) 5 ((bytesRow s (grownCap w s.size 0 5)).size, (bytesRow s (grownCap w s.size 0 5)).size + 1))).drew) = W1 at HST HB1 ⊢
  go_loop [8] (fun i => ∃ k : Nat, k ≤ s.size ∧ i = .int .i64 k ∧ Hid (∀ c ∈ s.data.toList.take k, c.toNat < 128)) (fun i => s.size - (intOf i).toNat)
  case atStart => exact ⟨0, Nat.zero_le _, rfl, Lib.hid (by simp)⟩
  case round =>
    obtain ⟨k, hk, rfl, hall⟩ := hrel
    by_cases hlt : k < s.size
    · have hc := HST.out.2 k hlt
      have hb : (s[k].toNat : Int) ≤ 255 := by have := s[k].toNat_lt; omega
      by_cases h128 : 128 ≤ s[k].toNat
      · have hbig := farB_at s k hlt h128
        have HBIG := Lib.hid hbig
        have h2 : (128 : Int) ≤ (s[k].toNat : Int) := by omega
        clear hbig
        go_wp2
        go_ret
        exact ⟨ret_bool HBIG.out.symm, HB1.out⟩
      · have hall2 := small_step s k hlt hall.out h128
        have HALL := Lib.hid hall2
        have h2 : (s[k].toNat : Int) < 128 := by omega
        clear hall2
        go_wp2
        go_round
        case rel => exact ⟨k + 1, by omega, by go_num, HALL⟩
        case measure => simp [intOf]; omega
    · obtain rfl : k = s.size := by omega
      have hno := farB_end s hall.out
      have HNO := Lib.hid hno
      clear hno
      go_wp2
      go_ret
      exact ⟨ret_bool HNO.out.symm, HB1.out⟩
theorem gb_ba (s : ByteArray) (k : Nat) (hk : k < s.size) : gb s.data.toList k = s[k].toNat := by
  unfold gb
  rw [List.getD_eq_getElem?_getD, List.getElem?_eq_getElem (by simpa using hk)]
  rfl
theorem host_nil (s : ByteArray) (h : s.size = 0) : hostB s.data.toList = false := by
  have : s.data.toList.length = s.size := by simp
  cases hh : hostB s.data.toList with
  | false => rfl
  | true => have := ((hostB_iff _).1 hh).1; omega
theorem host_long (s : ByteArray) (h : 63 < s.size) : hostB s.data.toList = false := by
  have : s.data.toList.length = s.size := by simp
  cases hh : hostB s.data.toList with
  | false => rfl
  | true => have := ((hostB_iff _).1 hh).2.1; omega
theorem host_first (s : ByteArray) (h0 : 0 < s.size) (h : s[0].toNat = 45) : hostB s.data.toList = false := by
  cases hh : hostB s.data.toList with
  | false => rfl
  | true => have := ((hostB_iff _).1 hh).2.2.1; rw [gb_ba s 0 h0] at this; exact absurd h this
theorem host_last (s : ByteArray) (h0 : s.size - 1 < s.size) (h : s[s.size - 1].toNat = 45) : hostB s.data.toList = false := by
  have hl : s.data.toList.length = s.size := by simp
  cases hh : hostB s.data.toList with
  | false => rfl
  | true => have := ((hostB_iff _).1 hh).2.2.2.1; rw [hl, gb_ba s _ h0] at this; exact absurd h this
theorem host_bad (s : ByteArray) (k : Nat) (hk : k < s.size) (h : plainB (s[k].toNat : Int) = false) : hostB s.data.toList = false := by
  cases hh : hostB s.data.toList with
  | false => rfl
  | true =>
    have := ((hostB_iff _).1 hh).2.2.2.2 _ (mem_ba s k hk)
    unfold ldhB at this
    rw [h] at this
    cases this
theorem host_step (s : ByteArray) (k : Nat) (hk : k < s.size) (ha : ∀ c ∈ s.data.toList.take k, ldhB c = true) (h : plainB (s[k].toNat : Int) = true) : ∀ c ∈ s.data.toList.take (k + 1), ldhB c = true := by
  rw [take_snoc s k hk]
  intro c hc
  rcases List.mem_append.1 hc with hc | hc
  · exact ha c hc
  · obtain rfl := List.mem_singleton.1 hc
    exact h
theorem host_end (s : ByteArray) (h0 : 0 < s.size) (h1 : s.size ≤ 63) (h2 : s[0].toNat ≠ 45) (h3 : (s[s.size - 1]'(by omega)).toNat ≠ 45) (ha : ∀ c ∈ s.data.toList.take s.size, ldhB c = true) : hostB s.data.toList = true := by
  have hl : s.data.toList.length = s.size := by simp
  rw [List.take_of_length_le (by simp)] at ha
  exact (hostB_iff _).2 ⟨by omega, by omega, by rw [gb_ba s 0 h0]; exact h2, by rw [hl, gb_ba s _ (by omega)]; exact h3, ha⟩
set_option maxRecDepth 100000 in
theorem host_any (s : ByteArray) (w : World) (hs : s.size ≤ 9223372036854775807) : Calls Tryd.prog 37 #[.string s] w fun e w' => e = .returned (.bool (hostB s.data.toList)) ∧ Below w.heap.size w w' := by
  have kb := run_bytes_of_string (P := Tryd.prog) w 9 51 5 s Tryd.underlying9 Tryd.underlying51 Tryd.underlying5
  have hst := byAt_start s w
  have hb1 : Below w.heap.size w ((w.alloc (.cells (bytesRow s (grownCap w s.size 0 5)) 5 ((bytesRow s (grownCap w s.size 0 5)).size, (bytesRow s (grownCap w s.size 0 5)).size + 1))).drew) := ((Below.refl _ _).alloc (Nat.le_refl _) _).drew
  have HST := Lib.hid hst
  have HB1 := Lib.hid hb1
  clear hst hb1
  by_cases he : s.toList.isEmpty = true
  · have hz : s.size = 0 := by
      have : s.data.toList = [] := by rw [ByteArray.toList_eq] at he; simpa using he
      have := congrArg List.length this
      simpa using this
    have hno := host_nil s hz
    have HNO := Lib.hid hno
    clear hno
    go_enter Tryd.func37, Tryd.ntmps37
    go_wp2
    all_goals (go_ret; exact ⟨ret_bool HNO.out.symm, Below.refl _ _⟩)
  have he' : s.toList.isEmpty = false := by simpa using he
  have hne : ¬ s.toList = [] := by intro h; rw [h] at he'; simp at he'
  have h0 : 0 < s.size := by
    apply Nat.pos_of_ne_zero
    intro h
    apply hne
    rw [ByteArray.toList_eq]
    exact List.eq_nil_of_length_eq_zero (by simpa using h)
  clear he
  by_cases h1 : 63 < s.size
  · have hno := host_long s h1
    have HNO := Lib.hid hno
    clear hno
    go_enter Tryd.func37, Tryd.ntmps37
    go_wp2
    all_goals (go_ret; exact ⟨ret_bool HNO.out.symm, Below.refl _ _⟩)
  have hb0 : (s[0].toNat : Int) ≤ 255 := by have := s[0].toNat_lt; omega
  have hb9 : ((s[s.size - 1]'(by omega)).toNat : Int) ≤ 255 := by have := (s[s.size - 1]'(by omega)).toNat_lt; omega
  by_cases h2 : s[0].toNat = 45
  · have hno := host_first s h0 h2
    have HNO := Lib.hid hno
    clear hno
    have e2 : ((s[0].toNat : Int) == 45) = true := by simp; omega
    go_enter Tryd.func37, Tryd.ntmps37
    go_wp2
    all_goals (go_ret; exact ⟨ret_bool HNO.out.symm, Below.refl _ _⟩)
  have e2 : ((s[0].toNat : Int) == 45) = false := by simp; omega
  by_cases h3 : (s[s.size - 1]'(by omega)).toNat = 45
  · have hno := host_last s (by omega) h3
    have HNO := Lib.hid hno
    clear hno
    have e3 : (((s[s.size - 1]'(by omega)).toNat : Int) == 45) = true := by simp; omega
    go_enter Tryd.func37, Tryd.ntmps37
    go_wp2
    all_goals (go_ret; exact ⟨ret_bool HNO.out.symm, Below.refl _ _⟩)
  have e3 : (((s[s.size - 1]'(by omega)).toNat : Int) == 45) = false := by simp; omega
  go_enter Tryd.func37, Tryd.ntmps37
  go_wp2
  clear kb
  generalize ((w.alloc (.cells (bytesRow s (grownCap w s.size 0 5)) 5 ((bytesRow s (grownCap w s.size 0 5)).size, (bytesRow s (grownCap w s.size 0 5)).size + 1))).drew) = W1 at HST HB1 ⊢
  go_loop [28] (fun i => ∃ k : Nat, k ≤ s.size ∧ i = .int .i64 k ∧ Hid (∀ c ∈ s.data.toList.take k, ldhB c = true)) (fun i => s.size - (intOf i).toNat)
  case atStart => exact ⟨0, Nat.zero_le _, rfl, Lib.hid (by simp)⟩
  case round =>
    obtain ⟨k, hk, rfl, hall⟩ := hrel
    by_cases hlt : k < s.size
    · have hc := HST.out.2 k hlt
      have hb : (s[k].toNat : Int) ≤ 255 := by have := s[k].toNat_lt; omega
      cases hp : plainB (s[k].toNat : Int) with
      | false =>
        have hbig := host_bad s k hlt hp
        have HBIG := Lib.hid hbig
        clear hbig
        go_wp2_with fail
        ((with_reducible refine (common_any _ _).mono ?_))
        rintro e w2 ⟨rfl, rfl⟩
        rw [hp]
        go_wp2
        go_ret
        exact ⟨ret_bool HBIG.out.symm, HB1.out⟩
      | true =>
        have hall2 := host_step s k hlt hall.out hp
        have HALL := Lib.hid hall2
        clear hall2
        go_wp2_with fail
        ((with_reducible refine (common_any _ _).mono ?_))
        rintro e w2 ⟨rfl, rfl⟩
        rw [hp]
        go_wp2
        go_round
        case rel => exact ⟨k + 1, by omega, by go_num, HALL⟩
        case measure => simp [intOf]; omega
    · obtain rfl : k = s.size := by omega
      have hno := host_end s h0 (by omega) h2 h3 hall.out
      have HNO := Lib.hid hno
      clear hno
      go_wp2
      go_ret
      exact ⟨ret_bool HNO.out.symm, HB1.out⟩
theorem refHost_any (s : ByteArray) (w : World) (hs : s.size ≤ 9223372036854775807) : Calls Tryd.prog 20 #[.string s] w fun e w' => e = .returned (.bool (hostB s.data.toList)) ∧ w = w' := by
  by_cases h0 : s.size < 1
  · have hno := host_nil s (by omega)
    have HNO := Lib.hid hno
    clear hno
    go_enter Tryd.func20, Tryd.ntmps20
    go_wp2
    all_goals (go_ret; exact ⟨ret_bool HNO.out.symm, rfl⟩)
  by_cases h1 : 63 < s.size
  · have hno := host_long s h1
    have HNO := Lib.hid hno
    clear hno
    go_enter Tryd.func20, Tryd.ntmps20
    go_wp2
    all_goals (go_ret; exact ⟨ret_bool HNO.out.symm, rfl⟩)
  have hb0 : ((s[0]'(by omega)).toNat : Int) ≤ 255 := by have := (s[0]'(by omega)).toNat_lt; omega
  have hb9 : ((s[s.size - 1]'(by omega)).toNat : Int) ≤ 255 := by have := (s[s.size - 1]'(by omega)).toNat_lt; omega
  by_cases h2 : (s[0]'(by omega)).toNat = 45
  · have hno := host_first s (by omega) h2
    have HNO := Lib.hid hno
    clear hno
    have e2 : (((s[0]'(by omega)).toNat : Int) == 45) = true := by simp; omega
    go_enter Tryd.func20, Tryd.ntmps20
    go_wp2
    all_goals (go_ret; exact ⟨ret_bool HNO.out.symm, rfl⟩)
  have e2 : (((s[0]'(by omega)).toNat : Int) == 45) = false := by simp; omega
  by_cases h3 : (s[s.size - 1]'(by omega)).toNat = 45
  · have hno := host_last s (by omega) h3
    have HNO := Lib.hid hno
    clear hno
    have e3 : (((s[s.size - 1]'(by omega)).toNat : Int) == 45) = true := by simp; omega
    go_enter Tryd.func20, Tryd.ntmps20
    go_wp2
    all_goals (go_ret; exact ⟨ret_bool HNO.out.symm, rfl⟩)
  have e3 : (((s[s.size - 1]'(by omega)).toNat : Int) == 45) = false := by simp; omega
  go_enter Tryd.func20, Tryd.ntmps20
  go_wp2
  go_loop [3] (fun i => ∃ k : Nat, k ≤ s.size ∧ i = .int .i64 k ∧ Hid (∀ c ∈ s.data.toList.take k, ldhB c = true)) (fun i => s.size - (intOf i).toNat)
  case atStart => exact ⟨0, Nat.zero_le _, rfl, Lib.hid (by simp)⟩
  case round =>
    obtain ⟨k, hk, rfl, hall⟩ := hrel
    by_cases hlt : k < s.size
    · have hb : (s[k].toNat : Int) ≤ 255 := by have := s[k].toNat_lt; omega
      cases hp : plainB (s[k].toNat : Int) with
      | false =>
        have hbig := host_bad s k hlt hp
        have HBIG := Lib.hid hbig
        clear hbig
        go_wp2_with fail
        ((with_reducible refine (refPlain_any _ _).mono ?_))
        rintro e w2 ⟨rfl, rfl⟩
        rw [hp]
        go_wp2
        go_ret
        exact ⟨ret_bool HBIG.out.symm, rfl⟩
      | true =>
        have hall2 := host_step s k hlt hall.out hp
        have HALL := Lib.hid hall2
        clear hall2
        go_wp2_with fail
        ((with_reducible refine (refPlain_any _ _).mono ?_))
        rintro e w2 ⟨rfl, rfl⟩
        rw [hp]
        go_wp2
        go_round
        case rel => exact ⟨k + 1, by omega, by go_num, HALL⟩
        case measure => simp [intOf]; omega
    · obtain rfl : k = s.size := by omega
      have hno := host_end s (by omega) (by omega) h2 h3 hall.out
      have HNO := Lib.hid hno
      clear hno
      go_wp2
      go_ret
      exact ⟨ret_bool HNO.out.symm, rfl⟩
end Go.Proofs.YtbcnnjifndmdpaaDoor
