/- Texts behind a law of this seat, in order: Exact. -/
import Derived.Test.YtnoabmkmnddkkaaPa
import Derived.Test.YtnoabmkmnddkkaaPb
import Derived.BigQuiet
import Derived.Deep.QuietTactic
import Derived.Handed
import Derived.Lib.Hide
import Derived.Lib.Strings
import Derived.SizedLaws
import Derived.SliceStrings
import Derived.Test.YtnoabmkmnddkkaaProg
import Derived.WalkKit
import Derived.WalkLawsBesides
import Derived.WalkSpells
namespace Go.Proofs.Ytnoabmkmnddkkaa
open Go.RowKit Go
set_option linter.unusedVariables false
theorem take_eq_succX {α : Type} {a b : List α} {k : Nat} (h : a.take k = b.take k) (ha : k < a.length) (hb : k < b.length) (e : a[k] = b[k]) : a.take (k + 1) = b.take (k + 1) := by
  rw [List.take_succ_eq_append_getElem ha, List.take_succ_eq_append_getElem hb, h, e]
theorem ne_of_atX {α : Type} {a b : List α} {k : Nat} (ha : k < a.length) (hb : k < b.length) (e : a[k] ≠ b[k]) : a ≠ b := by
  rintro rfl; exact e rfl
set_option maxHeartbeats 1000000 in
theorem sameTextsX_any (A B : Option Addr) (n m c d : Nat) (la lb : List (List UInt8)) (w : World) (ha : TextsAt w A n la) (hb : TextsAt w B m lb) (hn : n ≤ 4000) (hm : m ≤ 4000) :
    Calls Try.prog 17 #[.slice A n c, .slice B m d] w fun e w' => e = .returned (.bool (decide (la = lb))) ∧ Below w.heap.size w w' := by
  by_cases hnm : n = m
  · subst hnm
    go_enter Try.func17, Try.ntmps17
    go_wp2_with fail
    go_loopw [5] (fun i wr => ∃ k : Nat, k ≤ n ∧ i = .int .i64 k ∧ la.take k = lb.take k ∧ Below w.heap.size w wr) (fun i _ => n - (intOf i).toNat)
    case atStart => exact ⟨0, Nat.zero_le _, rfl, rfl, Below.refl _ _⟩
    case round =>
      obtain ⟨k, hk, rfl, htk, HB⟩ := hrel
      by_cases hlt : k < n
      · obtain ⟨ba, oa, rfl, hba, hca⟩ := ha.2 (by omega)
        obtain ⟨bb, ob, rfl, hbb, hcb⟩ := hb.2 (by omega)
        have h1 := hca k (by have := ha.1; omega)
        have h2 := hcb k (by have := hb.1; omega)
        rw [← HB.cell (p := ⟨ba, oa + k, none⟩) hba] at h1
        rw [← HB.cell (p := ⟨bb, ob + k, none⟩) hbb] at h2
        have ka : k < la.length := by have := ha.1; omega
        have kb : k < lb.length := by have := hb.1; omega
        have hne := fun e => ne_of_atX ka kb e
        have hse := fun e => take_eq_succX htk ka kb e
        have HN := Lib.hid hne; clear hne
        have HS := Lib.hid hse; clear hse
        obtain ⟨x, hx⟩ : ∃ x, x = la[k] := ⟨_, rfl⟩
        obtain ⟨y, hy⟩ : ∃ y, y = lb[k] := ⟨_, rfl⟩
        rw [← hx] at h1 HN HS
        rw [← hy] at h2 HN HS
        clear hx hy hca hcb ka kb htk
        unfold strV at h1 h2
        by_cases hxy : x = y
        · have HX := Lib.hid hxy
          subst hxy
          go_wp2_with fail
          go_quiet (fail)
          go_wp2_with fail
          go_roundw
          case rel => exact ⟨k + 1, by omega, by go_num, HS.out trivial, HB.trans (below_drewN (Below.refl _ _) _)⟩
          case measure => simp [intOf]; omega
        · have hxy' : (x == y) = false := by simpa using hxy
          go_wp2_with fail
          go_quiet (fail)
          go_wp2_with fail
          go_ret
          exact ⟨ret_bool (decide_eq_false (HN.out hxy)).symm, HB.trans (below_drewN (Below.refl _ _) _)⟩
      · have he : la = lb := by
          have h1 := ha.1
          have h2 := hb.1
          rw [List.take_of_length_le (by omega), List.take_of_length_le (by omega)] at htk
          exact htk
        have HE := Lib.hid he; clear he htk
        go_wp2_with fail
        go_ret
        exact ⟨ret_bool (decide_eq_true HE.out).symm, HB⟩
  · have hne : la ≠ lb := by
      intro e
      have h1 := ha.1
      have h2 := hb.1
      rw [e] at h1; omega
    go_enter Try.func17, Try.ntmps17
    go_wp2_with fail
    go_ret
    exact ⟨ret_bool (decide_eq_false hne).symm, Below.refl _ _⟩
theorem refExactX_any (A B : Option Addr) (n m c d : Nat) (la lb : List (List UInt8)) (w : World) (ha : TextsAt w A n la) (hb : TextsAt w B m lb) (hn : n ≤ 4000) (hm : m ≤ 4000) :
    Calls Try.prog 10 #[.slice A n c, .slice B m d] w fun e w' => e = .returned (.bool (decide (la = lb))) ∧ Below w.heap.size w w' := by
  have HS := Lib.hid (sameTextsX_any A B n m c d la lb w ha hb hn hm)
  go_enter Try.func10, Try.ntmps10
  go_wp2_with fail
  with_reducible refine HS.out.mono ?_
  rintro e w1 ⟨rfl, hb1⟩
  go_wp2_with fail
  go_ret
  exact ⟨rfl, hb1⟩
end Go.Proofs.Ytnoabmkmnddkkaa
