import Derived.Test.YtkgnhdebphaknaaDoorMath03c
namespace Go.Proofs.YtkgnhdebphaknaaDoor
open Go.RowKit
set_option linter.unusedVariables false
def PtsOk (l : List Int) : Prop := l.length ≤ 4096 ∧ ∀ x ∈ l, 0 ≤ x ∧ x ≤ 1114111
theorem ptsOk_nil : PtsOk [] := ⟨by simp, by simp⟩
theorem putS_cases (d : Int) (st : Ds) (hi : DInv st) (d0 : 0 ≤ d) (d1 : d ≤ 4294967295) : (putS d st).1 ≠ 0 ∨ (∃ st', putS d st = (0, st') ∧ DInv st') := by
  by_cases h : 4294967295 < st.2.2.1 + d
  · left; rw [putS_over h]; simp
  by_cases h2 : 1114111 < st.2.1 + (st.2.2.1 + d) / (st.1.length + 1)
  · left; rw [putS_range h h2]; simp
  by_cases h3 : 4096 < st.1.length + 1
  · left; rw [putS_long h h2 h3]; simp
  · right; exact ⟨_, putS_ok h h2 h3, putS_inv hi d0 d1 h h2 h3⟩
theorem decL_ok : ∀ (f : Nat) (r : List UInt8) (st : Ds), DInv st → PtsOk (decL f r st).1
  | 0, r, st, hi => by unfold decL; exact ⟨hi.l, hi.p⟩
  | f + 1, r, st, hi => by
    unfold decL
    by_cases hr : r = []
    · rw [if_pos hr]; exact ⟨hi.l, hi.p⟩
    rw [if_neg hr]
    by_cases hn : (numb st.2.2.2.1 r 1 0 1).1 ≠ 0
    · rw [if_pos hn]; exact ptsOk_nil
    rw [if_neg hn]
    have hb := numb_less st.2.2.2.1 r 1 0 1 (by omega) (by omega) (by omega)
    rcases putS_cases (numb st.2.2.2.1 r 1 0 1).2.1 st hi hb.1 hb.2.1 with h | ⟨st', h, h2⟩
    · rw [if_pos h]; exact ptsOk_nil
    · rw [if_neg (by rw [h]; simp), h]
      exact decL_ok f _ st' h2
theorem bigB_all {l : List UInt8} (h : bigB l = false) : ∀ c ∈ l, c.toNat < 128 := by
  unfold bigB at h
  rw [List.any_eq_false] at h
  intro c hc
  have := h c hc
  simp at this
  omega
theorem decE_ok (s : List UInt8) : PtsOk (decE s).1 := by
  by_cases h : 32768 < s.length
  · rw [decE_long h]; exact ptsOk_nil
  by_cases h2 : bigB (preL s) = true
  · rw [decE_big h h2]; exact ptsOk_nil
  have h2' : bigB (preL s) = false := by simpa using h2
  by_cases h3 : 4096 < (preL s).length
  · rw [decE_many h h2' h3]; exact ptsOk_nil
  · rw [decE_go h h2' h3]
    exact decL_ok _ _ _ (dInv_start h3 (bigB_all h2'))
end Go.Proofs.YtkgnhdebphaknaaDoor
