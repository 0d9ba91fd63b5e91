/- Layer 11: head.Check, head.Put, and the document's. -/
import Derived.Test.YtnomjjiohdinlaaHead2
namespace Go.Proofs.Ytnomjjiohdinlaa
open Go.RowKit Go
set_option linter.unusedVariables false
set_option maxRecDepth 100000
def hdE (h : Hd) : Int := if hdOk h then 0 else 4
theorem hdE_no {h : Hd} (b : hdOk h = false) : hdE h = 4 := by unfold hdE; rw [b]; rfl
theorem hdE_yes {h : Hd} (b : hdOk h = true) : hdE h = 0 := by unfold hdE; rw [b]; rfl
set_option maxHeartbeats 4000000 in
theorem check_any (h : Hd) (w : World) : Calls Try.prog 10 #[hdV h] w fun e w' => e = .returned (.int .i64 (hdE h)) ∧ Below w.heap.size w w' := by
  have S := Ats.start w
  have h1 := fun w => within_any h.id 65535 w
  have h2 := fun w => within_any h.op 15 w
  have h3 := fun w => within_any h.rc 15 w
  have hE : hdE h = if hdIn h.id 65535 && hdIn h.op 15 && hdIn h.rc 15 then 0 else 4 := rfl
  obtain ⟨b1, e1⟩ : ∃ b, b = hdIn h.id 65535 := ⟨_, rfl⟩
  obtain ⟨b2, e2⟩ : ∃ b, b = hdIn h.op 15 := ⟨_, rfl⟩
  obtain ⟨b3, e3⟩ : ∃ b, b = hdIn h.rc 15 := ⟨_, rfl⟩
  rw [← e1, ← e2, ← e3] at hE
  rw [← e1] at h1
  rw [← e2] at h2
  rw [← e3] at h3
  rw [hE]
  have H1 := Lib.hid h1
  have H2 := Lib.hid h2
  have H3 := Lib.hid h3
  clear e1 e2 e3 hE h1 h2 h3
  cases b1 <;> cases b2 <;> cases b3
  all_goals
    go_enter Try.func10, Try.ntmps10
    go_wp2_with (first
      | ((with_reducible show wpList _ _ _ (Oper.mk _ (Op.box _ _) _ _ _ _ :: _) _ _); refine wpList_boxS rfl _ _ rfl (hdC h) rfl S ?_; clear S; intro g w1 S)
      | ((with_reducible show wpList _ _ _ (Oper.mk _ (Op.load _ (Operand.tmp 3)) _ _ _ _ :: _) _ _); refine wpList_cellS rfl _ _ rfl S _ _ rfl 0 _ _ rfl _ Try.underlying3 rfl _ (by exact hd_0 h) ?_)
      | ((with_reducible show wpList _ _ _ (Oper.mk _ (Op.load _ (Operand.tmp 8)) _ _ _ _ :: _) _ _); refine wpList_cellS rfl _ _ rfl S _ _ rfl 0 _ _ rfl _ Try.underlying3 rfl _ (by exact hd_2 h) ?_)
      | ((with_reducible show wpList _ _ _ (Oper.mk _ (Op.load _ (Operand.tmp 14)) _ _ _ _ :: _) _ _); refine wpList_cellS rfl _ _ rfl S _ _ rfl 0 _ _ rfl _ Try.underlying3 rfl _ (by exact hd_9 h) ?_)
      | ((with_reducible refine (H1.out _).mono ?_); rintro e w2 ⟨rfl, rfl⟩)
      | ((with_reducible refine (H2.out _).mono ?_); rintro e w2 ⟨rfl, rfl⟩)
      | ((with_reducible refine (H3.out _).mono ?_); rintro e w2 ⟨rfl, rfl⟩))
    go_ret
    exact ⟨rfl, S.below⟩
theorem hdIn_no {n m : Int} (h : ¬ (0 ≤ n ∧ n ≤ m)) : hdIn n m = false := by
  rw [Bool.eq_false_iff]; intro k; exact h ((hdIn_iff n m).1 k)
set_option maxHeartbeats 4000000 in
theorem refCheck_any (h : Hd) (w : World) : Calls Try.prog 11 #[hdV h] w fun e w' => e = .returned (.int .i64 (hdE h)) ∧ Below w.heap.size w w' := by
  have S := Ats.start w
  have walk : ∀ (x y z r : Int), (∀ c1 c2 c3 c4 c5 c6 : Bool, c1 = decide (x < 0) → c2 = decide (65535 < x) → c3 = decide (y < 0) → c4 = decide (15 < y) → c5 = decide (z < 0) → c6 = decide (15 < z) → r = if c1 || c2 || c3 || c4 || c5 || c6 then 4 else 0) → h.id = x → h.op = y → h.rc = z →
      Calls Try.prog 11 #[hdV h] w fun e w' => e = .returned (.int .i64 r) ∧ Below w.heap.size w w' := by
    intro x y z r hr hx hy hz
    have f0 := hd_0 h
    have f2 := hd_2 h
    have f9 := hd_9 h
    rw [hx] at f0
    rw [hy] at f2
    rw [hz] at f9
    replace hr := hr _ _ _ _ _ _ rfl rfl rfl rfl rfl rfl
    have F0 := Lib.hid f0
    have F2 := Lib.hid f2
    have F9 := Lib.hid f9
    clear hx hy hz f0 f2 f9
    have hd : (decide (x < 0) = true ∧ r = 4) ∨ (decide (x < 0) = false ∧ decide (65535 < x) = true ∧ r = 4) ∨ (decide (x < 0) = false ∧ decide (65535 < x) = false ∧ decide (y < 0) = true ∧ r = 4) ∨ (decide (x < 0) = false ∧ decide (65535 < x) = false ∧ decide (y < 0) = false ∧ decide (15 < y) = true ∧ r = 4) ∨ (decide (x < 0) = false ∧ decide (65535 < x) = false ∧ decide (y < 0) = false ∧ decide (15 < y) = false ∧ decide (z < 0) = true ∧ r = 4) ∨ (decide (x < 0) = false ∧ decide (65535 < x) = false ∧ decide (y < 0) = false ∧ decide (15 < y) = false ∧ decide (z < 0) = false ∧ decide (15 < z) = true ∧ r = 4) ∨ (decide (x < 0) = false ∧ decide (65535 < x) = false ∧ decide (y < 0) = false ∧ decide (15 < y) = false ∧ decide (z < 0) = false ∧ decide (15 < z) = false ∧ r = 0) := by
      rw [hr]
      generalize decide (x < 0) = c1
      generalize decide (65535 < x) = c2
      generalize decide (y < 0) = c3
      generalize decide (15 < y) = c4
      generalize decide (z < 0) = c5
      generalize decide (15 < z) = c6
      cases c1 <;> cases c2 <;> cases c3 <;> cases c4 <;> cases c5 <;> cases c6 <;> simp
    clear hr
    rcases hd with ⟨d1, rfl⟩ | ⟨d1, d2, rfl⟩ | ⟨d1, d2, d3, rfl⟩ | ⟨d1, d2, d3, d4, rfl⟩ | ⟨d1, d2, d3, d4, d5, rfl⟩ | ⟨d1, d2, d3, d4, d5, d6, rfl⟩ | ⟨d1, d2, d3, d4, d5, d6, rfl⟩
    all_goals
      go_enter Try.func11, Try.ntmps11
      go_wp2_with (first
        | ((with_reducible show wpList _ _ _ (Oper.mk _ (Op.box _ _) _ _ _ _ :: _) _ _); refine wpList_boxS rfl _ _ rfl (hdC h) rfl S ?_; clear S; intro g w1 S)
        | ((with_reducible show wpList _ _ _ (Oper.mk _ (Op.load _ (Operand.tmp 3)) _ _ _ _ :: _) _ _); refine wpList_cellS rfl _ _ rfl S _ _ rfl 0 _ _ rfl _ Try.underlying3 rfl _ (by exact F0.out) ?_)
        | ((with_reducible show wpList _ _ _ (Oper.mk _ (Op.load _ (Operand.tmp 7)) _ _ _ _ :: _) _ _); refine wpList_cellS rfl _ _ rfl S _ _ rfl 0 _ _ rfl _ Try.underlying3 rfl _ (by exact F0.out) ?_)
        | ((with_reducible show wpList _ _ _ (Oper.mk _ (Op.load _ (Operand.tmp 12)) _ _ _ _ :: _) _ _); refine wpList_cellS rfl _ _ rfl S _ _ rfl 0 _ _ rfl _ Try.underlying3 rfl _ (by exact F2.out) ?_)
        | ((with_reducible show wpList _ _ _ (Oper.mk _ (Op.load _ (Operand.tmp 17)) _ _ _ _ :: _) _ _); refine wpList_cellS rfl _ _ rfl S _ _ rfl 0 _ _ rfl _ Try.underlying3 rfl _ (by exact F2.out) ?_)
        | ((with_reducible show wpList _ _ _ (Oper.mk _ (Op.load _ (Operand.tmp 22)) _ _ _ _ :: _) _ _); refine wpList_cellS rfl _ _ rfl S _ _ rfl 0 _ _ rfl _ Try.underlying3 rfl _ (by exact F9.out) ?_)
        | ((with_reducible show wpList _ _ _ (Oper.mk _ (Op.load _ (Operand.tmp 27)) _ _ _ _ :: _) _ _); refine wpList_cellS rfl _ _ rfl S _ _ rfl 0 _ _ rfl _ Try.underlying3 rfl _ (by exact F9.out) ?_))
      go_ret
      exact ⟨rfl, S.below⟩
  refine walk _ _ _ _ ?_ rfl rfl rfl
  intro c1 c2 c3 c4 c5 c6 e1 e2 e3 e4 e5 e6
  subst e1 e2 e3 e4 e5 e6
  have hE : hdE h = if hdIn h.id 65535 && hdIn h.op 15 && hdIn h.rc 15 then 0 else 4 := rfl
  rw [hE]
  simp only [hdIn]
  by_cases q1 : h.id < 0 <;> by_cases q2 : 65535 < h.id <;> by_cases q3 : h.op < 0 <;> by_cases q4 : 15 < h.op <;> by_cases q5 : h.rc < 0 <;> by_cases q6 : 15 < h.rc <;> simp [*] <;> omega
end Go.Proofs.Ytnomjjiohdinlaa
