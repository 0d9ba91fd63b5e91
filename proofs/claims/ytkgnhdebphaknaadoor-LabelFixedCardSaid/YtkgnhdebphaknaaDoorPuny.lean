import Derived.Test.YtkgnhdebphaknaaDoorProg
import Derived.Test.YtkgnhdebphaknaaDoorMath03
import Derived.Test.YtkgnhdebphaknaaDoorMem02
import Derived.WalkKit
import Derived.WalkSpells
import Derived.WalkLawsBesides
import Derived.Lib.Hide
import Derived.Deep.QuietTactic
import Derived.BigQuiet
import Derived.Deep.RegionWith
namespace Go.Proofs.YtkgnhdebphaknaaDoor
open Go.RowKit Go
set_option linter.unusedVariables false
set_option maxHeartbeats 400000 in
theorem bound_any (k b : Int) (w : World) (k0 : 1 ≤ k) (k1 : k ≤ 1000) (b0 : 0 ≤ b) (b1 : b ≤ 1099511627776) :
    Calls Tryd.prog 58 #[.int .i64 k, .int .i64 b] w fun e w' => e = .returned (.int .i64 (bndI k b)) ∧ w = w' := by
  go_enter Tryd.func58, Tryd.ntmps58
  go_wp2
  all_goals
    go_ret
    exact ⟨ret_int (by unfold bndI; omega), rfl⟩
set_option maxHeartbeats 400000 in
theorem refBound_any (k b : Int) (w : World) (k0 : 1 ≤ k) (k1 : k ≤ 1000) (b0 : 0 ≤ b) (b1 : b ≤ 1099511627776) :
    Calls Tryd.prog 44 #[.int .i64 k, .int .i64 b] w fun e w' => e = .returned (.int .i64 (bndI k b)) ∧ w = w' := by
  go_enter Tryd.func44, Tryd.ntmps44
  go_wp2
  all_goals
    go_ret
    exact ⟨ret_int (by unfold bndI; omega), rfl⟩
def overB (n : Int) : Bool := decide (4294967295 < n)
set_option maxHeartbeats 400000 in
theorem over_any (n : Int) (w : World) : Calls Tryd.prog 31 #[.int .i64 n] w fun e w' => e = .returned (.bool (overB n)) ∧ w = w' := by
  go_enter Tryd.func31, Tryd.ntmps31
  go_wp2
  go_ret
  exact ⟨ret_bool (by unfold overB; simp), rfl⟩
set_option maxHeartbeats 1000000 in
theorem behind_any (d n : Int) (first : Bool) (w : World) (d0 : 0 ≤ d) (d1 : d ≤ 8589934592) (n0 : 1 ≤ n) (n1 : n ≤ 1000000) :
    Calls Tryd.prog 59 #[.int .i64 d, .int .i64 n, .bool first] w fun e w' => e = .returned (.int .i64 (adp d n first)) ∧ w = w' := by
  have hn : (n == 0) = false := by simp; omega
  cases first
  · obtain ⟨q0, q1⟩ := half_bd (d / 2) n (by omega) n0
    have hA : adp d n false = 36 * (redI (d / 2 + d / 2 / n)).2 + 36 * (redI (d / 2 + d / 2 / n)).1 / ((redI (d / 2 + d / 2 / n)).1 + 38) := rfl
    have HA := Lib.hid hA
    clear hA
    go_enter Tryd.func59, Tryd.ntmps59
    go_wp2
    obtain ⟨y, hy⟩ : ∃ y, y = d / 2 + d / 2 / n := ⟨_, rfl⟩
    have hy0 : 0 ≤ y := by omega
    have hy1 : y ≤ 8589934592 := by omega
    rw [← hy] at HA
    rw [← hy]
    clear hy
    go_loop [0, 7] (fun v u => ∃ a j : Int, v = .int .i64 a ∧ u = .int .i64 j ∧ 0 ≤ a ∧ 0 ≤ j ∧ a + j ≤ y ∧ redI y = ((redI a).1, (redI a).2 + j)) (fun v _ => (intOf v).toNat)
    case atStart => exact ⟨y, 0, rfl, rfl, by omega, by omega, by omega, by simp⟩
    case round =>
      obtain ⟨a, j, rfl, rfl, a0, j0, aj, hr⟩ := hrel
      have HR := Lib.hid hr
      clear hr
      by_cases hlt : 455 < a
      · have hg := red_go hlt
        have HG := Lib.hid hg
        clear hg
        go_wp2
        go_round
        case rel => exact ⟨a / 35, j + 1, rfl, rfl, by omega, by omega, by omega, by rw [HR.out, HG.out]; simp only [Prod.mk.injEq, true_and]; omega⟩
        case measure => simp [intOf]; omega
      · have hg := red_end hlt
        have HG := Lib.hid hg
        clear hg
        obtain ⟨q2, q3⟩ := quo_bd a a0
        have hz : (a + 38 == 0) = false := by simp; omega
        go_wp2
        go_ret
        exact ⟨ret_int (by rw [HA.out, HR.out, HG.out]; simp only; omega), rfl⟩
  · obtain ⟨q0, q1⟩ := half_bd (d / 700) n (by omega) n0
    have hA : adp d n true = 36 * (redI (d / 700 + d / 700 / n)).2 + 36 * (redI (d / 700 + d / 700 / n)).1 / ((redI (d / 700 + d / 700 / n)).1 + 38) := rfl
    have HA := Lib.hid hA
    clear hA
    go_enter Tryd.func59, Tryd.ntmps59
    go_wp2
    obtain ⟨y, hy⟩ : ∃ y, y = d / 700 + d / 700 / n := ⟨_, rfl⟩
    have hy0 : 0 ≤ y := by omega
    have hy1 : y ≤ 8589934592 := by omega
    rw [← hy] at HA
    rw [← hy]
    clear hy
    go_loop [0, 7] (fun v u => ∃ a j : Int, v = .int .i64 a ∧ u = .int .i64 j ∧ 0 ≤ a ∧ 0 ≤ j ∧ a + j ≤ y ∧ redI y = ((redI a).1, (redI a).2 + j)) (fun v _ => (intOf v).toNat)
    case atStart => exact ⟨y, 0, rfl, rfl, by omega, by omega, by omega, by simp⟩
    case round =>
      obtain ⟨a, j, rfl, rfl, a0, j0, aj, hr⟩ := hrel
      have HR := Lib.hid hr
      clear hr
      by_cases hlt : 455 < a
      · have hg := red_go hlt
        have HG := Lib.hid hg
        clear hg
        go_wp2
        go_round
        case rel => exact ⟨a / 35, j + 1, rfl, rfl, by omega, by omega, by omega, by rw [HR.out, HG.out]; simp only [Prod.mk.injEq, true_and]; omega⟩
        case measure => simp [intOf]; omega
      · have hg := red_end hlt
        have HG := Lib.hid hg
        clear hg
        obtain ⟨q2, q3⟩ := quo_bd a a0
        have hz : (a + 38 == 0) = false := by simp; omega
        go_wp2
        go_ret
        exact ⟨ret_int (by rw [HA.out, HR.out, HG.out]; simp only; omega), rfl⟩
set_option maxHeartbeats 1000000 in
theorem adapt_any (d n : Int) (first : Bool) (w : World) (d0 : 0 ≤ d) (d1 : d ≤ 8589934592) (n0 : 1 ≤ n) (n1 : n ≤ 1000000) :
    Calls Tryd.prog 33 #[.int .i64 d, .int .i64 n, .bool first] w fun e w' => e = .returned (.int .i64 (adp d n first)) ∧ w = w' := by
  have hn : (n == 0) = false := by simp; omega
  cases first
  · obtain ⟨q0, q1⟩ := half_bd (d / 2) n (by omega) n0
    have hA : adp d n false = 36 * (redI (d / 2 + d / 2 / n)).2 + 36 * (redI (d / 2 + d / 2 / n)).1 / ((redI (d / 2 + d / 2 / n)).1 + 38) := rfl
    have HA := Lib.hid hA
    clear hA
    go_enter Tryd.func33, Tryd.ntmps33
    go_wp2
    obtain ⟨y, hy⟩ : ∃ y, y = d / 2 + d / 2 / n := ⟨_, rfl⟩
    have hy0 : 0 ≤ y := by omega
    have hy1 : y ≤ 8589934592 := by omega
    rw [← hy] at HA
    rw [← hy]
    clear hy
    go_loop [0, 7] (fun v u => ∃ a j : Int, v = .int .i64 a ∧ u = .int .i64 j ∧ 0 ≤ a ∧ 0 ≤ j ∧ a + j ≤ y ∧ redI y = ((redI a).1, (redI a).2 + j)) (fun v _ => (intOf v).toNat)
    case atStart => exact ⟨y, 0, rfl, rfl, by omega, by omega, by omega, by simp⟩
    case round =>
      obtain ⟨a, j, rfl, rfl, a0, j0, aj, hr⟩ := hrel
      have HR := Lib.hid hr
      clear hr
      by_cases hlt : 455 < a
      · have hg := red_go hlt
        have HG := Lib.hid hg
        clear hg
        go_wp2
        go_round
        case rel => exact ⟨a / 35, j + 1, rfl, rfl, by omega, by omega, by omega, by rw [HR.out, HG.out]; simp only [Prod.mk.injEq, true_and]; omega⟩
        case measure => simp [intOf]; omega
      · have hg := red_end hlt
        have HG := Lib.hid hg
        clear hg
        obtain ⟨q2, q3⟩ := quo_bd a a0
        have hz : (a + 38 == 0) = false := by simp; omega
        go_wp2
        go_ret
        exact ⟨ret_int (by rw [HA.out, HR.out, HG.out]; simp only; omega), rfl⟩
  · obtain ⟨q0, q1⟩ := half_bd (d / 700) n (by omega) n0
    have hA : adp d n true = 36 * (redI (d / 700 + d / 700 / n)).2 + 36 * (redI (d / 700 + d / 700 / n)).1 / ((redI (d / 700 + d / 700 / n)).1 + 38) := rfl
    have HA := Lib.hid hA
    clear hA
    go_enter Tryd.func33, Tryd.ntmps33
    go_wp2
    obtain ⟨y, hy⟩ : ∃ y, y = d / 700 + d / 700 / n := ⟨_, rfl⟩
    have hy0 : 0 ≤ y := by omega
    have hy1 : y ≤ 8589934592 := by omega
    rw [← hy] at HA
    rw [← hy]
    clear hy
    go_loop [0, 7] (fun v u => ∃ a j : Int, v = .int .i64 a ∧ u = .int .i64 j ∧ 0 ≤ a ∧ 0 ≤ j ∧ a + j ≤ y ∧ redI y = ((redI a).1, (redI a).2 + j)) (fun v _ => (intOf v).toNat)
    case atStart => exact ⟨y, 0, rfl, rfl, by omega, by omega, by omega, by simp⟩
    case round =>
      obtain ⟨a, j, rfl, rfl, a0, j0, aj, hr⟩ := hrel
      have HR := Lib.hid hr
      clear hr
      by_cases hlt : 455 < a
      · have hg := red_go hlt
        have HG := Lib.hid hg
        clear hg
        go_wp2
        go_round
        case rel => exact ⟨a / 35, j + 1, rfl, rfl, by omega, by omega, by omega, by rw [HR.out, HG.out]; simp only [Prod.mk.injEq, true_and]; omega⟩
        case measure => simp [intOf]; omega
      · have hg := red_end hlt
        have HG := Lib.hid hg
        clear hg
        obtain ⟨q2, q3⟩ := quo_bd a a0
        have hz : (a + 38 == 0) = false := by simp; omega
        go_wp2
        go_ret
        exact ⟨ret_int (by rw [HA.out, HR.out, HG.out]; simp only; omega), rfl⟩
end Go.Proofs.YtkgnhdebphaknaaDoor
