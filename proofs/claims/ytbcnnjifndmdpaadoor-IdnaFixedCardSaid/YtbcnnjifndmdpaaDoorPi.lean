/- Texts behind a law of this seat, in order: Puny, Puny2, Puny3. -/
import Derived.Test.YtbcnnjifndmdpaaDoorPb
import Derived.Test.YtbcnnjifndmdpaaDoorPe
import Derived.Test.YtbcnnjifndmdpaaDoorPf
import Derived.BigQuiet
import Derived.ChangeSlices
import Derived.Deep.QuietTactic
import Derived.Deep.RegionWith
import Derived.Handed
import Derived.Lib.Hide
import Derived.Lib.Strings
import Derived.SizedLaws
import Derived.SliceStrings
import Derived.Test.YtbcnnjifndmdpaaDoorProg
import Derived.WalkKit
import Derived.WalkLawsBesides
import Derived.WalkSpells
namespace Go.Proofs.YtbcnnjifndmdpaaDoor
open Go.RowKit Go
set_option linter.unusedVariables false
set_option maxHeartbeats 400000 in
theorem bound_any (k b : Int) (w : World) (k0 : 1 ≤ k) (k1 : k ≤ 1000) (b0 : 0 ≤ b) (b1 : b ≤ 1099511627776) :
    Calls Tryd.prog 80 #[.int .i64 k, .int .i64 b] w fun e w' => e = .returned (.int .i64 (bndI k b)) ∧ w = w' := by
  go_enter Tryd.func80, Tryd.ntmps80
  go_wp2
  all_goals
    go_ret
    exact ⟨ret_int (by unfold bndI; omega), rfl⟩
set_option maxHeartbeats 1000000 in
theorem behind_any (d n : Int) (first : Bool) (w : World) (d0 : 0 ≤ d) (d1 : d ≤ 8589934592) (n0 : 1 ≤ n) (n1 : n ≤ 1000000) :
    Calls Tryd.prog 81 #[.int .i64 d, .int .i64 n, .bool first] w fun e w' => e = .returned (.int .i64 (adp d n first)) ∧ w = w' := by
  have hn : (n == 0) = false := by simp; omega
  cases first
  · obtain ⟨q0, q1⟩ := half_bd (d / 2) n (by omega) n0
    have hA : adp d n false = 36 * (redI (d / 2 + d / 2 / n)).2 + 36 * (redI (d / 2 + d / 2 / n)).1 / ((redI (d / 2 + d / 2 / n)).1 + 38) := rfl
    have HA := Lib.hid hA
    clear hA
    go_enter Tryd.func81, Tryd.ntmps81
    go_wp2
    obtain ⟨y, hy⟩ : ∃ y, y = d / 2 + d / 2 / n := ⟨_, rfl⟩
    have hy0 : 0 ≤ y := by omega
    have hy1 : y ≤ 8589934592 := by omega
    rw [← hy] at HA
    rw [← hy]
    clear hy
    go_loop [0, 7] (fun v u => ∃ a j : Int, v = .int .i64 a ∧ u = .int .i64 j ∧ 0 ≤ a ∧ 0 ≤ j ∧ a + j ≤ y ∧ redI y = ((redI a).1, (redI a).2 + j)) (fun v _ => (intOf v).toNat)
    case atStart => exact ⟨y, 0, rfl, rfl, by omega, by omega, by omega, by simp⟩
    case round =>
      obtain ⟨a, j, rfl, rfl, a0, j0, aj, hr⟩ := hrel
      have HR := Lib.hid hr
      clear hr
      by_cases hlt : 455 < a
      · have hg := red_go hlt
        have HG := Lib.hid hg
        clear hg
        go_wp2
        go_round
        case rel => exact ⟨a / 35, j + 1, rfl, rfl, by omega, by omega, by omega, by rw [HR.out, HG.out]; simp only [Prod.mk.injEq, true_and]; omega⟩
        case measure => simp [intOf]; omega
      · have hg := red_end hlt
        have HG := Lib.hid hg
        clear hg
        obtain ⟨q2, q3⟩ := quo_bd a a0
        have hz : (a + 38 == 0) = false := by simp; omega
        go_wp2
        go_ret
        exact ⟨ret_int (by rw [HA.out, HR.out, HG.out]; simp only; omega), rfl⟩
  · obtain ⟨q0, q1⟩ := half_bd (d / 700) n (by omega) n0
    have hA : adp d n true = 36 * (redI (d / 700 + d / 700 / n)).2 + 36 * (redI (d / 700 + d / 700 / n)).1 / ((redI (d / 700 + d / 700 / n)).1 + 38) := rfl
    have HA := Lib.hid hA
    clear hA
    go_enter Tryd.func81, Tryd.ntmps81
    go_wp2
    obtain ⟨y, hy⟩ : ∃ y, y = d / 700 + d / 700 / n := ⟨_, rfl⟩
    have hy0 : 0 ≤ y := by omega
    have hy1 : y ≤ 8589934592 := by omega
    rw [← hy] at HA
    rw [← hy]
    clear hy
    go_loop [0, 7] (fun v u => ∃ a j : Int, v = .int .i64 a ∧ u = .int .i64 j ∧ 0 ≤ a ∧ 0 ≤ j ∧ a + j ≤ y ∧ redI y = ((redI a).1, (redI a).2 + j)) (fun v _ => (intOf v).toNat)
    case atStart => exact ⟨y, 0, rfl, rfl, by omega, by omega, by omega, by simp⟩
    case round =>
      obtain ⟨a, j, rfl, rfl, a0, j0, aj, hr⟩ := hrel
      have HR := Lib.hid hr
      clear hr
      by_cases hlt : 455 < a
      · have hg := red_go hlt
        have HG := Lib.hid hg
        clear hg
        go_wp2
        go_round
        case rel => exact ⟨a / 35, j + 1, rfl, rfl, by omega, by omega, by omega, by rw [HR.out, HG.out]; simp only [Prod.mk.injEq, true_and]; omega⟩
        case measure => simp [intOf]; omega
      · have hg := red_end hlt
        have HG := Lib.hid hg
        clear hg
        obtain ⟨q2, q3⟩ := quo_bd a a0
        have hz : (a + 38 == 0) = false := by simp; omega
        go_wp2
        go_ret
        exact ⟨ret_int (by rw [HA.out, HR.out, HG.out]; simp only; omega), rfl⟩
end Go.Proofs.YtbcnnjifndmdpaaDoor
namespace Go.Proofs.YtbcnnjifndmdpaaDoor
open Go.RowKit Go
set_option linter.unusedVariables false
set_option maxHeartbeats 1000000 in
theorem leastFrom_any (A : Option Addr) (m c : Nat) (l : List Int) (n : Int) (w : World) (hl : IntsAt w .i32 A m l) (hm : m ≤ 5000) (hx : ∀ x ∈ l, 0 ≤ x ∧ x ≤ 1114111) (n0 : 0 ≤ n) (n1 : n ≤ 1114112) :
    Calls Tryd.prog 84 #[.slice A m c, .int .i32 n] w fun e w' => e = .returned (.int .i32 (leastI l n)) ∧ w = w' := by
  have HLEN := Lib.hid hl.1
  have HL := Lib.hid hl
  have HX := Lib.hid hx
  clear hl hx
  go_enter Tryd.func84, Tryd.ntmps84
  go_wp2
  go_loop [5, 10] (fun v i => ∃ k : Nat, ∃ a : Int, k ≤ m ∧ i = .int .i64 k ∧ v = .int .i32 a ∧ 0 ≤ a ∧ a ≤ 1114111 ∧ a = (l.take k).foldl (lstF n) 1114111) (fun _ i => m - (intOf i).toNat)
  case atStart => exact ⟨0, 1114111, Nat.zero_le _, rfl, rfl, by omega, by omega, rfl⟩
  case round =>
    obtain ⟨k, a, hk, rfl, rfl, a0, a1, ha⟩ := hrel
    have HA := Lib.hid ha
    clear ha
    by_cases hlt : k < m
    · obtain ⟨b, o, rfl, hb, hcell⟩ := HL.out.2 (by omega)
      have hkl : k < l.length := by have := HLEN.out; omega
      have h1 := hcell k hkl
      have hxk := HX.out l[k] (List.getElem_mem _)
      have htk := List.take_succ_eq_append_getElem hkl
      obtain ⟨x, hxe⟩ : ∃ x, x = l[k] := ⟨_, rfl⟩
      rw [← hxe] at h1 hxk htk
      have HT := Lib.hid htk
      clear htk hxe hcell
      obtain ⟨x0, x1⟩ := hxk
      by_cases hn : n ≤ x
      · go_wp2
        all_goals
          go_round
          case rel => exact ⟨k + 1, _, by omega, by go_num, rfl, by omega, by omega, by rw [HT.out, List.foldl_append, ← HA.out]; simp only [List.foldl_cons, List.foldl_nil, lstF]; rw [if_pos hn]; omega⟩
          case measure => simp [intOf]; omega
      · go_wp2
        go_round
        case rel => exact ⟨k + 1, a, by omega, by go_num, rfl, by omega, by omega, by rw [HT.out, List.foldl_append, ← HA.out]; simp only [List.foldl_cons, List.foldl_nil, lstF]; rw [if_neg hn]⟩
        case measure => simp [intOf]; omega
    · go_wp2
      go_ret
      exact ⟨ret_int (by rw [HA.out, List.take_of_length_le (by have := HLEN.out; omega)]; rfl), rfl⟩
end Go.Proofs.YtbcnnjifndmdpaaDoor
namespace Go.Proofs.YtbcnnjifndmdpaaDoor
open Go.RowKit Go
set_option linter.unusedVariables false
abbrev figTab : ByteArray := { data := #[97, 98, 99, 100, 101, 102, 103, 104, 105, 106, 107, 108, 109, 110, 111, 112, 113, 114, 115, 116, 117, 118, 119, 120, 121, 122, 48, 49, 50, 51, 52, 53, 54, 55, 56, 57] }
theorem fig_tab0 : ∀ k : Fin 36, figTab[k.val]'(k.isLt) = figC (k.val : Int) := by decide +kernel
theorem ba_app2 (o p : List UInt8) : (⟨o.toArray⟩ : ByteArray) ++ ⟨p.toArray⟩ = ⟨(o ++ p).toArray⟩ := by
  rw [ByteArray.mk_append_mk]; first | done | simp
theorem pow_ten : (8589934592 : Int) < 10 ^ 10 := by decide
end Go.Proofs.YtbcnnjifndmdpaaDoor
