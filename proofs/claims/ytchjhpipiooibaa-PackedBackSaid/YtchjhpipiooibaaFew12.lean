/- Layer 12: few. -/
import Derived.Test.YtchjhpipiooibaaDom
import Derived.Test.YtchjhpipiooibaaOpenNm
namespace Go.Proofs.Ytchjhpipiooibaa
open Go.RowKit Go
set_option linter.unusedVariables false
def fewN (L : List Nm) : Bool := decide (L.length ≤ 40) && L.all (fun y => decide (sizeL y.l ≤ 401))
set_option maxRecDepth 100000 in
set_option maxHeartbeats 1000000 in
theorem few12_any (A : Option Addr) (n c : Nat) (L : List Nm) (w : World) (h : NamesAt w A n L) : Calls Try.prog 10 #[.slice A n c] w fun e w' => e = .returned (.bool (fewN L)) ∧ w = w' := by
  by_cases hn : 40 < n
  · have hf : fewN L = false := by unfold fewN; rw [decide_eq_false (by have := h.1; omega)]; rfl
    rw [hf]
    have h1 : (40 : Int) < n := by omega
    clear hf h
    go_enter Try.func10, Try.ntmps10
    go_wp2
    go_ret
    exact ⟨rfl, rfl⟩
  · have hf : fewN L = L.all (fun y => decide (sizeL y.l ≤ 401)) := by unfold fewN; rw [decide_eq_true (by have := h.1; omega)]; rfl
    rw [hf]
    have H := Lib.hid h
    have h1 : ¬ (40 : Int) < n := by omega
    clear hf h hn
    go_enter Try.func10, Try.ntmps10
    go_wp2_with fail
    go_loop [3] (fun i => ∃ k : Nat, k ≤ n ∧ i = .int .i64 k ∧ Hid (L.all (fun y => decide (sizeL y.l ≤ 401)) = (L.drop k).all (fun y => decide (sizeL y.l ≤ 401)))) (fun i => n - (intOf i).toNat)
    case atStart => exact ⟨0, Nat.zero_le _, rfl, Lib.hid rfl⟩
    case round =>
      obtain ⟨k, hk, rfl, HALL⟩ := hrel
      by_cases hlt : k < n
      · obtain ⟨b, o, rfl, hbh, hcell⟩ := H.out.2.1 (by omega)
        have hkl : k < L.length := by have := H.out.1; omega
        have c1 := hcell k hkl
        obtain ⟨htx, hnc, hx⟩ := H.out.2.2 _ (List.getElem_mem hkl)
        have hd : L.drop k = L[k] :: L.drop (k + 1) := List.drop_eq_getElem_cons hkl
        obtain ⟨y, hy⟩ : ∃ y, y = L[k] := ⟨_, rfl⟩
        rw [← hy] at c1 htx hx hd
        have hF := few_any y.A y.n y.c y.l w htx hx
        have hall := HALL.out
        rw [hd, List.all_cons] at hall
        unfold Nm.v at c1
        by_cases hs : sizeL y.l ≤ 401
        · rw [decide_eq_true hs] at hF hall
          have HF := Lib.hid hF
          have HA := Lib.hid hall
          clear hF hall hcell htx hx hd hy hnc hs hbh hkl
          go_wp2_with ((with_reducible refine HF.out.mono ?_); rintro e w2 ⟨rfl, rfl⟩)
          go_round
          case rel => exact ⟨k + 1, by omega, by go_num, Lib.hid (by rw [HA.out, Bool.true_and])⟩
          case measure => simp [intOf]; omega
        · rw [decide_eq_false hs] at hF hall
          have HF := Lib.hid hF
          have HA := Lib.hid hall
          clear hF hall hcell htx hx hd hy hnc hs hbh hkl
          go_wp2_with ((with_reducible refine HF.out.mono ?_); rintro e w2 ⟨rfl, rfl⟩)
          go_ret
          exact ⟨ret_bool (by rw [HA.out, Bool.false_and]), rfl⟩
      · have he : L.all (fun y => decide (sizeL y.l ≤ 401)) = true := by
          rw [HALL.out, List.drop_eq_nil_of_le (by have := H.out.1; omega)]; rfl
        have HE := Lib.hid he
        clear he
        go_wp2_with fail
        go_ret
        exact ⟨ret_bool HE.out.symm, rfl⟩
end Go.Proofs.Ytchjhpipiooibaa
