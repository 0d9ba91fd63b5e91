import Derived.Test.YtkgnhdebphaknaaDoorPuny
namespace Go.Proofs.YtkgnhdebphaknaaDoor
open Go.RowKit Go
set_option linter.unusedVariables false
set_option maxHeartbeats 1000000 in
theorem leastFrom_any (A : Option Addr) (m c : Nat) (l : List Int) (n : Int) (w : World) (hl : IntsAt w .i32 A m l) (hm : m ≤ 5000) (hx : ∀ x ∈ l, 0 ≤ x ∧ x ≤ 1114111) (n0 : 0 ≤ n) (n1 : n ≤ 1114112) :
    Calls Tryd.prog 54 #[.slice A m c, .int .i32 n] w fun e w' => e = .returned (.int .i32 (leastI l n)) ∧ w = w' := by
  have HLEN := Lib.hid hl.1
  have HL := Lib.hid hl
  have HX := Lib.hid hx
  clear hl hx
  go_enter Tryd.func54, Tryd.ntmps54
  go_wp2
  go_loop [5, 10] (fun v i => ∃ k : Nat, ∃ a : Int, k ≤ m ∧ i = .int .i64 k ∧ v = .int .i32 a ∧ 0 ≤ a ∧ a ≤ 1114111 ∧ a = (l.take k).foldl (lstF n) 1114111) (fun _ i => m - (intOf i).toNat)
  case atStart => exact ⟨0, 1114111, Nat.zero_le _, rfl, rfl, by omega, by omega, rfl⟩
  case round =>
    obtain ⟨k, a, hk, rfl, rfl, a0, a1, ha⟩ := hrel
    have HA := Lib.hid ha
    clear ha
    by_cases hlt : k < m
    · obtain ⟨b, o, rfl, hb, hcell⟩ := HL.out.2 (by omega)
      have hkl : k < l.length := by have := HLEN.out; omega
      have h1 := hcell k hkl
      have hxk := HX.out l[k] (List.getElem_mem _)
      have htk := List.take_succ_eq_append_getElem hkl
      obtain ⟨x, hxe⟩ : ∃ x, x = l[k] := ⟨_, rfl⟩
      rw [← hxe] at h1 hxk htk
      have HT := Lib.hid htk
      clear htk hxe hcell
      obtain ⟨x0, x1⟩ := hxk
      by_cases hn : n ≤ x
      · go_wp2
        all_goals
          go_round
          case rel => exact ⟨k + 1, _, by omega, by go_num, rfl, by omega, by omega, by rw [HT.out, List.foldl_append, ← HA.out]; simp only [List.foldl_cons, List.foldl_nil, lstF]; rw [if_pos hn]; omega⟩
          case measure => simp [intOf]; omega
      · go_wp2
        go_round
        case rel => exact ⟨k + 1, a, by omega, by go_num, rfl, by omega, by omega, by rw [HT.out, List.foldl_append, ← HA.out]; simp only [List.foldl_cons, List.foldl_nil, lstF]; rw [if_neg hn]⟩
        case measure => simp [intOf]; omega
    · go_wp2
      go_ret
      exact ⟨ret_int (by rw [HA.out, List.take_of_length_le (by have := HLEN.out; omega)]; rfl), rfl⟩
end Go.Proofs.YtkgnhdebphaknaaDoor
