/- Layer 8: colon.noughts. -/
import Derived.Test.YtkchgjakkogejaaDoorColon
namespace Go.Proofs.YtkchgjakkogejaaDoor
open Go.RowKit Go
set_option linter.unusedVariables false
set_option maxRecDepth 100000
theorem nouK_le (z : List Bool) (k : Nat) : (nouK z k).2.2 ≤ k ∧ (nouK z k).2.1 ≤ k ∧ (nouK z k).1 ≤ k := by
  induction k with
  | zero => exact ⟨Nat.le_refl _, Nat.le_refl _, Nat.le_refl _⟩
  | succ k ih =>
    rw [nouK]
    unfold nouS
    obtain ⟨h1, h2, h3⟩ := ih
    split
    · exact ⟨Nat.zero_le _, by show (nouK z k).2.1 ≤ k + 1; omega, by show (nouK z k).1 ≤ k + 1; omega⟩
    · split
      · exact ⟨by show (nouK z k).2.2 + 1 ≤ k + 1; omega, by show (nouK z k).2.2 + 1 ≤ k + 1; omega, by show k + 1 - ((nouK z k).2.2 + 1) ≤ k + 1; omega⟩
      · exact ⟨by show (nouK z k).2.2 + 1 ≤ k + 1; omega, by show (nouK z k).2.1 ≤ k + 1; omega, by show (nouK z k).1 ≤ k + 1; omega⟩
theorem zsG_at {g : List Nat} {k n : Nat} (h : g[k]? = some n) : (zsG g).getD k false = (n == 0) := by
  rw [List.getD_eq_getElem?_getD, zsG, List.getElem?_map, h]
  rfl
theorem gVs_at {g : List Nat} {k n : Nat} (h : g[k]? = some n) : (gVs g)[k]? = some (.int .u64 n) := by
  unfold gVs
  rw [List.getElem?_toArray, List.getElem?_map, h]
  rfl
theorem gVs_size (g : List Nat) : (gVs g).size = g.length := by simp [gVs]
theorem g8Size (g : List Nat) (h : g.length = 8) : (Tryd.prog.info? 56).map (·.size) = some (gVs g).size := by rw [gVs_size, h]; exact g8Info
theorem idxG {g : List Nat} {k v : Nat} (h : g[k]? = some v) (hg : g.length = 8) (w : World) : (Instr.index 56 (.agg (gVs g)) (.int .i64 k)).run Tryd.prog w = .ok (.int .u64 v) w := by
  have hk : k < g.length := (List.getElem?_eq_some_iff.1 h).1
  have hc := gVs_at h
  have a := Tryd.isAgg55
  have s := Tryd.sizeOf55
  have i1 : (0 : Int) ≤ k ∧ (k : Int) < (8 : Nat) := by omega
  simp [Instr.index, run_underlying Tryd.underlying56, asIntOf, part, a, s, hc, i1]
  intro h8
  omega
set_option maxHeartbeats 2000000 in
theorem noughts_any (g : List Nat) (w : World) (hg : g.length = 8) :
    Calls Tryd.prog 34 #[.agg (gVs g)] w fun e w' => e = .returned (.tuple #[.int .i64 (nouE (zsG g)).1, .int .i64 (nouE (zsG g)).2]) ∧ Below w.heap.size w w' := by
  have S := Ats.start w
  have hsz := g8Size g hg
  go_enter Tryd.func34, Tryd.ntmps34
  go_wp2_with (first
    | ((with_reducible show wpList _ _ _ (Oper.mk _ (Op.box _ _) _ _ _ _ :: _) _ _); refine wpList_boxS rfl _ _ rfl (gVs g) rfl S ?_; clear S; intro ga w1 S)
    | ((with_reducible show wpList _ _ _ (Oper.mk _ (Op.load _ _) _ _ _ _ :: _) _ _); refine wpList_loadS rfl _ _ rfl S _ rfl 0 _ _ rfl _ Tryd.underlying56 rfl hsz ?_))
  go_loop [4, 5, 6, 10] (fun f m n i => ∃ k : Nat, i = .int .i64 k ∧ k ≤ 8 ∧ f = .int .i64 (nouK (zsG g) k).1 ∧ m = .int .i64 (nouK (zsG g) k).2.1 ∧ n = .int .i64 (nouK (zsG g) k).2.2) (fun _ _ _ i => 8 - (intOf i).toNat)
  case atStart => exact ⟨0, rfl, Nat.zero_le _, rfl, rfl, rfl⟩
  case round =>
    obtain ⟨k, rfl, hk, rfl, rfl, rfl⟩ := hrel
    by_cases hlt : k < 8
    · obtain ⟨v, hv⟩ : ∃ v, g[k]? = some v := ⟨_, List.getElem?_eq_getElem (by omega)⟩
      have hcell := idxG hv hg
      have hz := zsG_at hv
      have hstep : nouK (zsG g) (k + 1) = nouS (nouK (zsG g) k) k (v == 0) := by rw [nouK, hz]
      obtain ⟨l1, l2, l3⟩ := nouK_le (zsG g) k
      obtain ⟨st, hst⟩ : ∃ st, st = nouK (zsG g) k := ⟨_, rfl⟩
      rw [← hst] at hstep l1 l2 l3 ⊢
      obtain ⟨f, m, n⟩ := st
      simp only at l1 l2 l3 ⊢
      by_cases h0 : v = 0
      · subst h0
        by_cases hm : m < n + 1
        · have hr : nouK (zsG g) (k + 1) = (k + 1 - (n + 1), n + 1, n + 1) := by
            rw [hstep]
            unfold nouS
            rw [if_neg (by simp)]
            simp only
            rw [if_pos hm]
          have hd : decide ((m : Int) < (n : Int) + 1) = true := by rw [decide_eq_true_eq]; omega
          have HR := Lib.hid hr
          clear hstep hr hst hz
          go_wp2_with fail
          go_round
          case rel => exact ⟨k + 1, by go_num, by omega, ret_v (by rw [HR.out]; simp only; omega), ret_v (by rw [HR.out]; simp only; omega), ret_v (by rw [HR.out]; simp only; omega)⟩
          case measure => simp [intOf]; omega
        · have hr : nouK (zsG g) (k + 1) = (f, m, n + 1) := by
            rw [hstep]
            unfold nouS
            rw [if_neg (by simp)]
            simp only
            rw [if_neg hm]
          have hd : decide ((m : Int) < (n : Int) + 1) = false := by rw [decide_eq_false_iff_not]; omega
          have HR := Lib.hid hr
          clear hstep hr hst hz
          go_wp2_with fail
          go_round
          case rel => exact ⟨k + 1, by go_num, by omega, ret_v (by rw [HR.out]), ret_v (by rw [HR.out]), ret_v (by rw [HR.out]; simp only; omega)⟩
          case measure => simp [intOf]; omega
      · have hr : nouK (zsG g) (k + 1) = (f, m, 0) := by
          rw [hstep]
          unfold nouS
          rw [if_pos (by simpa using h0)]
        have hd : ((v : Int) != 0) = true := by simpa using h0
        have HR := Lib.hid hr
        clear hstep hr hst hz h0
        go_wp2_with fail
        go_round
        case rel => exact ⟨k + 1, by go_num, by omega, ret_v (by rw [HR.out]), ret_v (by rw [HR.out]), ret_v (by rw [HR.out]; rfl)⟩
        case measure => simp [intOf]; omega
    · obtain rfl : k = 8 := by omega
      go_wp2_with fail
      go_ret2
      exact ⟨rfl, S.below⟩
end Go.Proofs.YtkchgjakkogejaaDoor
