/- Texts behind a law of this seat, in order: Puny, Puny2, Puny3. -/
import Derived.Test.YtkgnhdebphaknaaDoorPb
import Derived.Test.YtkgnhdebphaknaaDoorPc
import Derived.Test.YtkgnhdebphaknaaDoorPd
import Derived.BigQuiet
import Derived.ChangeSlices
import Derived.Deep.QuietTactic
import Derived.Deep.RegionWith
import Derived.Handed
import Derived.Lib.Hide
import Derived.Lib.Strings
import Derived.SizedLaws
import Derived.SliceStrings
import Derived.Test.YtkgnhdebphaknaaDoorProg
import Derived.WalkKit
import Derived.WalkLawsBesides
import Derived.WalkSpells
namespace Go.Proofs.YtkgnhdebphaknaaDoor
open Go.RowKit Go
set_option linter.unusedVariables false
set_option maxHeartbeats 400000 in
theorem bound_any (k b : Int) (w : World) (k0 : 1 ≤ k) (k1 : k ≤ 1000) (b0 : 0 ≤ b) (b1 : b ≤ 1099511627776) :
    Calls Tryd.prog 58 #[.int .i64 k, .int .i64 b] w fun e w' => e = .returned (.int .i64 (bndI k b)) ∧ w = w' := by
  go_enter Tryd.func58, Tryd.ntmps58
  go_wp2
  all_goals
    go_ret
    exact ⟨ret_int (by unfold bndI; omega), rfl⟩
set_option maxHeartbeats 400000 in
theorem refBound_any (k b : Int) (w : World) (k0 : 1 ≤ k) (k1 : k ≤ 1000) (b0 : 0 ≤ b) (b1 : b ≤ 1099511627776) :
    Calls Tryd.prog 44 #[.int .i64 k, .int .i64 b] w fun e w' => e = .returned (.int .i64 (bndI k b)) ∧ w = w' := by
  go_enter Tryd.func44, Tryd.ntmps44
  go_wp2
  all_goals
    go_ret
    exact ⟨ret_int (by unfold bndI; omega), rfl⟩
def overB (n : Int) : Bool := decide (4294967295 < n)
set_option maxHeartbeats 400000 in
theorem over_any (n : Int) (w : World) : Calls Tryd.prog 31 #[.int .i64 n] w fun e w' => e = .returned (.bool (overB n)) ∧ w = w' := by
  go_enter Tryd.func31, Tryd.ntmps31
  go_wp2
  go_ret
  exact ⟨ret_bool (by unfold overB; simp), rfl⟩
set_option maxHeartbeats 1000000 in
theorem behind_any (d n : Int) (first : Bool) (w : World) (d0 : 0 ≤ d) (d1 : d ≤ 8589934592) (n0 : 1 ≤ n) (n1 : n ≤ 1000000) :
    Calls Tryd.prog 59 #[.int .i64 d, .int .i64 n, .bool first] w fun e w' => e = .returned (.int .i64 (adp d n first)) ∧ w = w' := by
  have hn : (n == 0) = false := by simp; omega
  cases first
  · obtain ⟨q0, q1⟩ := half_bd (d / 2) n (by omega) n0
    have hA : adp d n false = 36 * (redI (d / 2 + d / 2 / n)).2 + 36 * (redI (d / 2 + d / 2 / n)).1 / ((redI (d / 2 + d / 2 / n)).1 + 38) := rfl
    have HA := Lib.hid hA
    clear hA
    go_enter Tryd.func59, Tryd.ntmps59
    go_wp2
    obtain ⟨y, hy⟩ : ∃ y, y = d / 2 + d / 2 / n := ⟨_, rfl⟩
    have hy0 : 0 ≤ y := by omega
    have hy1 : y ≤ 8589934592 := by omega
    rw [← hy] at HA
    rw [← hy]
    clear hy
    go_loop [0, 7] (fun v u => ∃ a j : Int, v = .int .i64 a ∧ u = .int .i64 j ∧ 0 ≤ a ∧ 0 ≤ j ∧ a + j ≤ y ∧ redI y = ((redI a).1, (redI a).2 + j)) (fun v _ => (intOf v).toNat)
    case atStart => exact ⟨y, 0, rfl, rfl, by omega, by omega, by omega, by simp⟩
    case round =>
      obtain ⟨a, j, rfl, rfl, a0, j0, aj, hr⟩ := hrel
      have HR := Lib.hid hr
      clear hr
      by_cases hlt : 455 < a
      · have hg := red_go hlt
        have HG := Lib.hid hg
        clear hg
        go_wp2
        go_round
        case rel => exact ⟨a / 35, j + 1, rfl, rfl, by omega, by omega, by omega, by rw [HR.out, HG.out]; simp only [Prod.mk.injEq, true_and]; omega⟩
        case measure => simp [intOf]; omega
      · have hg := red_end hlt
        have HG := Lib.hid hg
        clear hg
        obtain ⟨q2, q3⟩ := quo_bd a a0
        have hz : (a + 38 == 0) = false := by simp; omega
        go_wp2
        go_ret
        exact ⟨ret_int (by rw [HA.out, HR.out, HG.out]; simp only; omega), rfl⟩
  · obtain ⟨q0, q1⟩ := half_bd (d / 700) n (by omega) n0
    have hA : adp d n true = 36 * (redI (d / 700 + d / 700 / n)).2 + 36 * (redI (d / 700 + d / 700 / n)).1 / ((redI (d / 700 + d / 700 / n)).1 + 38) := rfl
    have HA := Lib.hid hA
    clear hA
    go_enter Tryd.func59, Tryd.ntmps59
    go_wp2
    obtain ⟨y, hy⟩ : ∃ y, y = d / 700 + d / 700 / n := ⟨_, rfl⟩
    have hy0 : 0 ≤ y := by omega
    have hy1 : y ≤ 8589934592 := by omega
    rw [← hy] at HA
    rw [← hy]
    clear hy
    go_loop [0, 7] (fun v u => ∃ a j : Int, v = .int .i64 a ∧ u = .int .i64 j ∧ 0 ≤ a ∧ 0 ≤ j ∧ a + j ≤ y ∧ redI y = ((redI a).1, (redI a).2 + j)) (fun v _ => (intOf v).toNat)
    case atStart => exact ⟨y, 0, rfl, rfl, by omega, by omega, by omega, by simp⟩
    case round =>
      obtain ⟨a, j, rfl, rfl, a0, j0, aj, hr⟩ := hrel
      have HR := Lib.hid hr
      clear hr
      by_cases hlt : 455 < a
      · have hg := red_go hlt
        have HG := Lib.hid hg
        clear hg
        go_wp2
        go_round
        case rel => exact ⟨a / 35, j + 1, rfl, rfl, by omega, by omega, by omega, by rw [HR.out, HG.out]; simp only [Prod.mk.injEq, true_and]; omega⟩
        case measure => simp [intOf]; omega
      · have hg := red_end hlt
        have HG := Lib.hid hg
        clear hg
        obtain ⟨q2, q3⟩ := quo_bd a a0
        have hz : (a + 38 == 0) = false := by simp; omega
        go_wp2
        go_ret
        exact ⟨ret_int (by rw [HA.out, HR.out, HG.out]; simp only; omega), rfl⟩
set_option maxHeartbeats 1000000 in
theorem adapt_any (d n : Int) (first : Bool) (w : World) (d0 : 0 ≤ d) (d1 : d ≤ 8589934592) (n0 : 1 ≤ n) (n1 : n ≤ 1000000) :
    Calls Tryd.prog 33 #[.int .i64 d, .int .i64 n, .bool first] w fun e w' => e = .returned (.int .i64 (adp d n first)) ∧ w = w' := by
  have hn : (n == 0) = false := by simp; omega
  cases first
  · obtain ⟨q0, q1⟩ := half_bd (d / 2) n (by omega) n0
    have hA : adp d n false = 36 * (redI (d / 2 + d / 2 / n)).2 + 36 * (redI (d / 2 + d / 2 / n)).1 / ((redI (d / 2 + d / 2 / n)).1 + 38) := rfl
    have HA := Lib.hid hA
    clear hA
    go_enter Tryd.func33, Tryd.ntmps33
    go_wp2
    obtain ⟨y, hy⟩ : ∃ y, y = d / 2 + d / 2 / n := ⟨_, rfl⟩
    have hy0 : 0 ≤ y := by omega
    have hy1 : y ≤ 8589934592 := by omega
    rw [← hy] at HA
    rw [← hy]
    clear hy
    go_loop [0, 7] (fun v u => ∃ a j : Int, v = .int .i64 a ∧ u = .int .i64 j ∧ 0 ≤ a ∧ 0 ≤ j ∧ a + j ≤ y ∧ redI y = ((redI a).1, (redI a).2 + j)) (fun v _ => (intOf v).toNat)
    case atStart => exact ⟨y, 0, rfl, rfl, by omega, by omega, by omega, by simp⟩
    case round =>
      obtain ⟨a, j, rfl, rfl, a0, j0, aj, hr⟩ := hrel
      have HR := Lib.hid hr
      clear hr
      by_cases hlt : 455 < a
      · have hg := red_go hlt
        have HG := Lib.hid hg
        clear hg
        go_wp2
        go_round
        case rel => exact ⟨a / 35, j + 1, rfl, rfl, by omega, by omega, by omega, by rw [HR.out, HG.out]; simp only [Prod.mk.injEq, true_and]; omega⟩
        case measure => simp [intOf]; omega
      · have hg := red_end hlt
        have HG := Lib.hid hg
        clear hg
        obtain ⟨q2, q3⟩ := quo_bd a a0
        have hz : (a + 38 == 0) = false := by simp; omega
        go_wp2
        go_ret
        exact ⟨ret_int (by rw [HA.out, HR.out, HG.out]; simp only; omega), rfl⟩
  · obtain ⟨q0, q1⟩ := half_bd (d / 700) n (by omega) n0
    have hA : adp d n true = 36 * (redI (d / 700 + d / 700 / n)).2 + 36 * (redI (d / 700 + d / 700 / n)).1 / ((redI (d / 700 + d / 700 / n)).1 + 38) := rfl
    have HA := Lib.hid hA
    clear hA
    go_enter Tryd.func33, Tryd.ntmps33
    go_wp2
    obtain ⟨y, hy⟩ : ∃ y, y = d / 700 + d / 700 / n := ⟨_, rfl⟩
    have hy0 : 0 ≤ y := by omega
    have hy1 : y ≤ 8589934592 := by omega
    rw [← hy] at HA
    rw [← hy]
    clear hy
    go_loop [0, 7] (fun v u => ∃ a j : Int, v = .int .i64 a ∧ u = .int .i64 j ∧ 0 ≤ a ∧ 0 ≤ j ∧ a + j ≤ y ∧ redI y = ((redI a).1, (redI a).2 + j)) (fun v _ => (intOf v).toNat)
    case atStart => exact ⟨y, 0, rfl, rfl, by omega, by omega, by omega, by simp⟩
    case round =>
      obtain ⟨a, j, rfl, rfl, a0, j0, aj, hr⟩ := hrel
      have HR := Lib.hid hr
      clear hr
      by_cases hlt : 455 < a
      · have hg := red_go hlt
        have HG := Lib.hid hg
        clear hg
        go_wp2
        go_round
        case rel => exact ⟨a / 35, j + 1, rfl, rfl, by omega, by omega, by omega, by rw [HR.out, HG.out]; simp only [Prod.mk.injEq, true_and]; omega⟩
        case measure => simp [intOf]; omega
      · have hg := red_end hlt
        have HG := Lib.hid hg
        clear hg
        obtain ⟨q2, q3⟩ := quo_bd a a0
        have hz : (a + 38 == 0) = false := by simp; omega
        go_wp2
        go_ret
        exact ⟨ret_int (by rw [HA.out, HR.out, HG.out]; simp only; omega), rfl⟩
end Go.Proofs.YtkgnhdebphaknaaDoor
namespace Go.Proofs.YtkgnhdebphaknaaDoor
open Go.RowKit Go
set_option linter.unusedVariables false
set_option maxHeartbeats 1000000 in
theorem leastFrom_any (A : Option Addr) (m c : Nat) (l : List Int) (n : Int) (w : World) (hl : IntsAt w .i32 A m l) (hm : m ≤ 5000) (hx : ∀ x ∈ l, 0 ≤ x ∧ x ≤ 1114111) (n0 : 0 ≤ n) (n1 : n ≤ 1114112) :
    Calls Tryd.prog 54 #[.slice A m c, .int .i32 n] w fun e w' => e = .returned (.int .i32 (leastI l n)) ∧ w = w' := by
  have HLEN := Lib.hid hl.1
  have HL := Lib.hid hl
  have HX := Lib.hid hx
  clear hl hx
  go_enter Tryd.func54, Tryd.ntmps54
  go_wp2
  go_loop [5, 10] (fun v i => ∃ k : Nat, ∃ a : Int, k ≤ m ∧ i = .int .i64 k ∧ v = .int .i32 a ∧ 0 ≤ a ∧ a ≤ 1114111 ∧ a = (l.take k).foldl (lstF n) 1114111) (fun _ i => m - (intOf i).toNat)
  case atStart => exact ⟨0, 1114111, Nat.zero_le _, rfl, rfl, by omega, by omega, rfl⟩
  case round =>
    obtain ⟨k, a, hk, rfl, rfl, a0, a1, ha⟩ := hrel
    have HA := Lib.hid ha
    clear ha
    by_cases hlt : k < m
    · obtain ⟨b, o, rfl, hb, hcell⟩ := HL.out.2 (by omega)
      have hkl : k < l.length := by have := HLEN.out; omega
      have h1 := hcell k hkl
      have hxk := HX.out l[k] (List.getElem_mem _)
      have htk := List.take_succ_eq_append_getElem hkl
      obtain ⟨x, hxe⟩ : ∃ x, x = l[k] := ⟨_, rfl⟩
      rw [← hxe] at h1 hxk htk
      have HT := Lib.hid htk
      clear htk hxe hcell
      obtain ⟨x0, x1⟩ := hxk
      by_cases hn : n ≤ x
      · go_wp2
        all_goals
          go_round
          case rel => exact ⟨k + 1, _, by omega, by go_num, rfl, by omega, by omega, by rw [HT.out, List.foldl_append, ← HA.out]; simp only [List.foldl_cons, List.foldl_nil, lstF]; rw [if_pos hn]; omega⟩
          case measure => simp [intOf]; omega
      · go_wp2
        go_round
        case rel => exact ⟨k + 1, a, by omega, by go_num, rfl, by omega, by omega, by rw [HT.out, List.foldl_append, ← HA.out]; simp only [List.foldl_cons, List.foldl_nil, lstF]; rw [if_neg hn]⟩
        case measure => simp [intOf]; omega
    · go_wp2
      go_ret
      exact ⟨ret_int (by rw [HA.out, List.take_of_length_le (by have := HLEN.out; omega)]; rfl), rfl⟩
end Go.Proofs.YtkgnhdebphaknaaDoor
namespace Go.Proofs.YtkgnhdebphaknaaDoor
open Go.RowKit Go
set_option linter.unusedVariables false
abbrev figTab : ByteArray := { data := #[97, 98, 99, 100, 101, 102, 103, 104, 105, 106, 107, 108, 109, 110, 111, 112, 113, 114, 115, 116, 117, 118, 119, 120, 121, 122, 48, 49, 50, 51, 52, 53, 54, 55, 56, 57] }
theorem fig_tab0 : ∀ k : Fin 36, figTab[k.val]'(k.isLt) = figC (k.val : Int) := by decide +kernel
theorem fig_ext0 : ∀ k : Fin 36, figTab.extract k.val (k.val + 1) = ⟨#[figC (k.val : Int)]⟩ := by decide +kernel
theorem fig_ext {f : Int} (h0 : 0 ≤ f) (h1 : f ≤ 35) : figTab.extract f.toNat (f + 1).toNat = ⟨#[figC f]⟩ := by
  obtain ⟨n, rfl⟩ := Int.eq_ofNat_of_zero_le h0
  have := fig_ext0 ⟨n, by omega⟩
  simpa using this
theorem ba_app (o : List UInt8) (c : UInt8) : (⟨o.toArray⟩ : ByteArray) ++ ⟨#[c]⟩ = ⟨(o ++ [c]).toArray⟩ := by
  rw [show (⟨#[c]⟩ : ByteArray) = ⟨([c] : List UInt8).toArray⟩ from rfl, ByteArray.mk_append_mk]; first | done | simp
theorem ba_app2 (o p : List UInt8) : (⟨o.toArray⟩ : ByteArray) ++ ⟨p.toArray⟩ = ⟨(o ++ p).toArray⟩ := by
  rw [ByteArray.mk_append_mk]; first | done | simp
theorem pow_ten : (8589934592 : Int) < 10 ^ 10 := by decide
set_option maxHeartbeats 1000000 in
theorem figures_any (d b : Int) (w : World) (d0 : 0 ≤ d) (d1 : d ≤ 8589934592) (b0 : 0 ≤ b) (b1 : b ≤ 1099511627776) :
    Calls Tryd.prog 32 #[.int .i64 d, .int .i64 b] w fun e w' => e = .returned (.string ⟨(figs d 1 b).toArray⟩) ∧ w = w' := by
  obtain ⟨F, hF⟩ : ∃ F, F = figs d 1 b := ⟨_, rfl⟩
  have HF := Lib.hid hF
  rw [← hF]
  clear hF
  have H0 : Hid (d < 10 ^ 10) := Lib.hid (Int.lt_of_le_of_lt d1 pow_ten)
  go_enter Tryd.func32, Tryd.ntmps32
  go_wp2
  go_loop [0, 5, 6] (fun v s u => ∃ a k : Int, ∃ o : List UInt8, ∃ m : Nat, v = .int .i64 a ∧ s = .string ⟨o.toArray⟩ ∧ u = .int .i64 k ∧ 0 ≤ a ∧ a ≤ 8589934592 ∧ 1 ≤ k ∧ k + (m : Int) ≤ 12 ∧ Hid (a < 10 ^ m) ∧ (o.length : Int) + 1 ≤ k ∧ F = o ++ figs a k b) (fun _ _ u => (100 - intOf u).toNat)
  case atStart => exact ⟨d, 1, [], 10, rfl, rfl, rfl, by omega, by omega, by omega, by omega, H0, by simp, HF.out⟩
  case round =>
    obtain ⟨a, k, o, m, rfl, rfl, rfl, a0, a1, k0, k1, hm, ho, hf⟩ := hrel
    have hk := fun w => refBound_any k b w k0 (by omega) b0 b1
    have hbd := bnd_bd k b
    have hg := fun h => figs_go (d := a) (k := k) (b := b) h
    have he := fun h => figs_end (d := a) (k := k) (b := b) h
    have ht := fun h => figs_ten (d := a) (k := k) (b := b) (m := m) h hm.out
    obtain ⟨t, htt⟩ : ∃ t, t = bndI k b := ⟨_, rfl⟩
    rw [← htt] at hbd hg he
    simp only [← htt] at hk ht
    have HK := Lib.hid hk
    have HG := Lib.hid hg
    have HE := Lib.hid he
    have HT := Lib.hid ht
    have HFF := Lib.hid hf
    clear hk hg he ht htt hf
    obtain ⟨t0, t1⟩ := hbd
    by_cases hlt : t ≤ a
    · have hz : (36 - t == 0) = false := by simp; omega
      have m0 := Int.emod_nonneg (a - t) (show 36 - t ≠ 0 by omega)
      have m1 := Int.emod_lt_of_pos (a - t) (show 0 < 36 - t by omega)
      obtain ⟨d2, d3⟩ := half_bd (a - t) (36 - t) (by omega) (by omega)
      have hx := fig_ext (f := t + (a - t) % (36 - t)) (by omega) (by omega)
      obtain ⟨m', rfl, hm2, _⟩ := HT.out hlt
      have HM := Lib.hid hm2
      have HX := Lib.hid hx
      have hal : ¬ a < t := by omega
      have HL := Lib.hid (HG.out hlt)
      clear hx hm2 hm
      go_wp2_with ((with_reducible refine (HK.out _).mono ?_); rintro e w' ⟨rfl, rfl⟩)
      go_round
      case rel => exact ⟨(a - t) / (36 - t), k + 1, o ++ [figC (t + (a - t) % (36 - t))], m', rfl, by rw [HX.out, ba_app], rfl, by omega, by omega, by omega, by omega, HM, by simp; omega, by rw [HFF.out, HL.out]; simp⟩
      case measure => simp [intOf]; omega
    · have hlt' : a < t := by omega
      have hx := fig_ext (f := a) (by omega) (by omega)
      have HX := Lib.hid hx
      have HL := Lib.hid (HE.out hlt)
      clear hx
      go_wp2_with ((with_reducible refine (HK.out _).mono ?_); rintro e w' ⟨rfl, rfl⟩)
      go_ret
      exact ⟨by rw [HX.out, ba_app, HFF.out, HL.out]; rfl, rfl⟩
end Go.Proofs.YtkgnhdebphaknaaDoor
