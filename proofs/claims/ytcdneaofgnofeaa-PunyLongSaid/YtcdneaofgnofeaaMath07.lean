import Derived.Test.YtcdneaofgnofeaaMath06
namespace Go.Proofs.Ytcdneaofgnofeaa
open Go.RowKit
set_option linter.unusedVariables false
/- Rows of like points. -/
theorem figs_zero (k b : Int) : figs 0 k b = [figC 0] := by
  have := bnd_bd k b
  rw [figs_end (by omega)]
theorem rnd_like (p basic : Int) : ∀ (k : Nat) (o : List UInt8) (b d : Int), ∃ o2 b2, rnd p basic (List.replicate k p) (o, 0, b, d) = some (o2, 0, b2, d + k) ∧ o2.length = o.length + k
  | 0, o, b, d => ⟨o, b, by simp [rnd], by simp⟩
  | k + 1, o, b, d => by
    have hu : upS p p 0 = 0 := by unfold upS; rw [if_neg (by omega)]
    obtain ⟨o2, b2, h, hl⟩ := rnd_like p basic k (o ++ figs 0 1 b) (adp 0 (d + 1) (decide (d = basic))) (d + 1)
    refine ⟨o2, b2, ?_, ?_⟩
    · rw [List.replicate_succ, rnd_put (by simp only [hu]; omega) rfl]
      simp only [hu]
      rw [h]
      congr 4
      push_cast
      omega
    · rw [hl, figs_zero]
      simp
      omega
theorem mem_rep {N : Nat} {p x : Int} (h : x ∈ List.replicate N p) : x = p := List.eq_of_mem_replicate h
theorem long_small {N : Nat} {p : Int} (h0 : 0 ≤ p) (h1 : p < 128) : ∃ o, encO (List.replicate N p) = some o ∧ o.length ≤ N + 1 := by
  have hbl := basL_len (List.replicate N p)
  have hc : cnt (List.replicate N p) 128 = N := by
    unfold cnt
    rw [List.countP_replicate]
    simp [h1]
  refine ⟨hyp (basL (List.replicate N p)), ?_, ?_⟩
  · unfold encO
    exact encL_end (by simp only [List.length_replicate]; omega)
  · have := hyp_len (basL (List.replicate N p))
    omega
theorem long_far {N : Nat} {p : Int} (hN : 1 ≤ N) (h0 : 128 ≤ p) (h1 : p ≤ 100000) : ∃ o, encO (List.replicate N p) = some o ∧ o.length ≤ N + 11 := by
  have hbl := basL_len (List.replicate N p)
  have hc : cnt (List.replicate N p) 128 = 0 := by
    unfold cnt
    rw [List.countP_replicate]
    simp
    omega
  have hb : basL (List.replicate N p) = [] := List.length_eq_zero_iff.1 (by omega)
  have hm : leastI (List.replicate N p) 128 = p := by
    have hi : IsLst (List.replicate N p) 128 (leastI (List.replicate N p) 128) := lst_is (Int.le_refl _) (fun c hc => by rw [mem_rep hc]; omega) ⟨p, List.mem_replicate.2 ⟨by omega, rfl⟩, h0⟩
    exact mem_rep hi.1
  obtain ⟨k, rfl⟩ : ∃ k, N = k + 1 := ⟨N - 1, by omega⟩
  have hu : upS p p (0 + (p - 128) * (0 + 1)) = p - 128 := by unfold upS; rw [if_neg (by omega)]; omega
  obtain ⟨o2, b2, h2, hl2⟩ := rnd_like p 0 k ([] ++ figs (p - 128) 1 72) (adp (p - 128) (0 + 1) (decide ((0 : Int) = 0))) (0 + 1)
  have hr : rnd (leastI (List.replicate (k + 1) p) 128) 0 (List.replicate (k + 1) p) ([], 0 + (leastI (List.replicate (k + 1) p) 128 - 128) * (0 + 1), 72, 0) = some ((o2, 0, b2, (0 : Int) + 1 + (k : Int)) : St) := by
    rw [hm, List.replicate_succ, rnd_put (by simp only [hu]; omega) rfl]
    simp only [hu]
    exact h2
  refine ⟨o2, ?_, ?_⟩
  · unfold encO
    rw [hb]
    have e : encL (List.replicate (k + 1) p) ((([] : List UInt8).length : Nat) : Int) ((List.replicate (k + 1) p).length + 1) 128 (hyp [], 0, 72, ((([] : List UInt8).length : Nat) : Int)) = encL (List.replicate (k + 1) p) 0 ((List.replicate (k + 1) p).length + 1) 128 ([], 0, 72, 0) := rfl
    rw [e, encL_go (by simp only [List.length_replicate]; omega) hr]
    rw [show (List.replicate (k + 1) p).length = k + 1 from List.length_replicate]
    exact encL_end (by simp only [List.length_replicate]; omega)
  · have := figs_11 (s := p - 128) (k := 1) (b := 72) (by omega) (by omega)
    rw [hl2]
    simp
    omega
theorem long_back (N : Nat) (p : Int) (hN : 1 ≤ N) (hN2 : N ≤ 4096) (hp : p = 97 ∨ (128 ≤ p ∧ p ≤ 50127)) : ∃ o, encE (List.replicate N p) = (o, 0) ∧ o.length ≤ 5000 ∧ decE o = (List.replicate N p, 0) := by
  have hx : ∀ x ∈ List.replicate N p, 0 ≤ x ∧ x ≤ 1114111 := fun x h => by rw [mem_rep h]; omega
  have hB : ∀ m ∈ List.replicate N p, (m - 128) * ((List.replicate N p).length + 1) + (List.replicate N p).length + 1 ≤ 250000000 := fun m h => by
    rw [mem_rep h, List.length_replicate]
    by_cases h0 : 128 ≤ p
    · have : (p - 128) * (N + 1) ≤ 49999 * 4097 := Int.mul_le_mul (by omega) (by omega) (by omega) (by omega)
      omega
    · have : (p - 128) * ((N : Int) + 1) ≤ 0 := Int.mul_nonpos_of_nonpos_of_nonneg (by omega) (by omega)
      omega
  have hs : ∃ o, encO (List.replicate N p) = some o ∧ o.length ≤ N + 11 := by
    rcases hp with rfl | ⟨h0, h1⟩
    · obtain ⟨o, h, hl⟩ := long_small (N := N) (p := 97) (by omega) (by omega)
      exact ⟨o, h, by omega⟩
    · exact long_far hN h0 (by omega)
  obtain ⟨o, ho, hol⟩ := hs
  obtain ⟨F, he, hF, hd⟩ := back_top id spell_id (List.replicate N p) (by rw [List.length_replicate]; omega) hx hB
  rw [ho] at he
  have heq := Option.some.inj he
  rw [List.map_id, ← heq] at hd
  exact ⟨o, encE_ok (by rw [List.length_replicate]; omega) (offB_no hx) ho, by omega, hd (by omega)⟩
end Go.Proofs.Ytcdneaofgnofeaa
