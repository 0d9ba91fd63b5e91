/- Layer 12: tables, over plain lists. -/
import Derived.Test.YtchjhpipiooibaaMath17
namespace Go.Proofs.Ytchjhpipiooibaa
set_option linter.unusedVariables false
theorem labB_len (l : List UInt8) : (labB l).length = l.length + 1 := rfl
theorem labsB_take (n : Lbs) (k : Nat) (h : k < n.length) : labsB (n.take (k + 1)) = labsB (n.take k) ++ labB n[k] := by
  rw [List.take_succ_eq_append_getElem h, labsB_app]
  simp [labsB]
theorem wireB_drop (n : Lbs) (k : Nat) : (wireB n).drop (labsB (n.take k)).length = wireB (n.drop k) := by
  have h : labsB n = labsB (n.take k) ++ labsB (n.drop k) := by rw [← labsB_app, List.take_append_drop]
  unfold wireB
  rw [h, List.append_assoc, List.drop_left]
theorem wireB_take (n : Lbs) (k : Nat) : (wireB n).take (labsB (n.take k)).length = labsB (n.take k) := by
  have h : labsB n = labsB (n.take k) ++ labsB (n.drop k) := by rw [← labsB_app, List.take_append_drop]
  unfold wireB
  rw [h, List.append_assoc, List.take_left]
theorem drop_lab (n : Lbs) (k : Nat) (h : k < n.length) : n.drop k = n[k] :: n.drop (k + 1) := List.drop_eq_getElem_cons h
/-- names that may be told apart by their octets -/
theorem labB_inj {a b : List UInt8} {x y : List UInt8} (ha : okLab a = true) (hb : okLab b = true) (h : labB a ++ x = labB b ++ y) : a = b ∧ x = y := by
  have ha := (okLab_iff a).1 ha
  have hb := (okLab_iff b).1 hb
  unfold labB at h
  simp only [List.cons_append, List.cons.injEq] at h
  have hl : a.length = b.length := by
    have h1 := ocByte_lab a ha.2
    have h2 := ocByte_lab b hb.2
    rw [h.1] at h1
    omega
  exact List.append_inj h.2 hl
theorem wireB_cons (l : List UInt8) (n : Lbs) : wireB (l :: n) = labB l ++ wireB n := by simp [wireB, labsB_cons]
theorem wireB_inj : ∀ (a b : Lbs), a.all okLab = true → b.all okLab = true → wireB a = wireB b → a = b
  | [], [], _, _, _ => rfl
  | [], l :: n, _, hb, h => by
    simp only [List.all_cons, Bool.and_eq_true] at hb
    have h1 := (okLab_iff l).1 hb.1
    have h2 := ocByte_lab l h1.2
    rw [wireB_cons] at h
    simp only [wireB, labB, labsB, List.map_nil, List.flatten_nil, List.nil_append, List.cons_append, List.cons.injEq] at h
    rw [← h.1] at h2
    simp at h2
    omega
  | l :: n, [], ha, _, h => by
    simp only [List.all_cons, Bool.and_eq_true] at ha
    have h1 := (okLab_iff l).1 ha.1
    have h2 := ocByte_lab l h1.2
    rw [wireB_cons] at h
    simp only [wireB, labB, labsB, List.map_nil, List.flatten_nil, List.nil_append, List.cons_append, List.cons.injEq] at h
    rw [h.1] at h2
    simp at h2
    omega
  | l :: n, m :: k, ha, hb, h => by
    simp only [List.all_cons, Bool.and_eq_true] at ha hb
    rw [wireB_cons, wireB_cons] at h
    obtain ⟨h1, h2⟩ := labB_inj ha.1 hb.1 h
    rw [h1, wireB_inj n k ha.2 hb.2 h2]
/-- offsets that a pointer can tell -/
def TOk (T : List (Lbs × Int)) : Prop := ∀ r ∈ T, 0 ≤ r.2 ∧ r.2 ≤ 16383
theorem TOk.find {T : List (Lbs × Int)} (h : TOk T) {n : Lbs} {to : Int} (e : pkFind T n = some to) : 0 ≤ to ∧ to ≤ 16383 := h _ (pkFind_mem e)
theorem TOk.add {T : List (Lbs × Int)} (h : TOk T) {n : Lbs} {pos : Int} (h0 : 0 ≤ pos) (h1 : pos ≤ 16383) : TOk (T ++ [(n, pos)]) := fun r hr => by
  rcases List.mem_append.1 hr with hr | hr
  · exact h r hr
  · simp at hr; subst hr; exact ⟨h0, h1⟩
theorem pkPut_len (ok : Bool) : ∀ (n : Lbs) (pos : Int) (T : List (Lbs × Int)), (pkPut ok n pos T).2.length ≤ T.length + n.length
  | [], _, T => Nat.le_refl _
  | l :: r, pos, T => by
    cases h : pkFind T (l :: r) with
    | some to => rw [pkPut_hit h]; simp
    | none =>
      rw [pkPut_miss h]
      refine Nat.le_trans (pkPut_len ok r _ _) ?_
      split <;> simp <;> omega
theorem pkPut_ok (ok : Bool) : ∀ (n : Lbs) (pos : Int) (T : List (Lbs × Int)), (ok = true → 0 ≤ pos) → TOk T → TOk (pkPut ok n pos T).2
  | [], _, T, _, h => h
  | l :: r, pos, T, hp, h => by
    cases hf : pkFind T (l :: r) with
    | some to => rw [pkPut_hit hf]; exact h
    | none =>
      rw [pkPut_miss hf]
      refine pkPut_ok ok r _ _ (fun e => by have := hp e; omega) ?_
      split
      · rename_i hh
        exact h.add (hp hh.1) hh.2
      · exact h
/-- what Put does to a table: T is what it had -/
def putO (tb : Bool) (n : Lbs) (at_ : Int) (T : List (Lbs × Int)) : List UInt8 × List (Lbs × Int) × Int :=
  if checkL n = 0 then ((pkPut (tb && decide (0 ≤ at_)) n at_ T).1, (pkPut (tb && decide (0 ≤ at_)) n at_ T).2, 0) else ([], T, checkL n)
theorem pkPut_size (ok : Bool) : ∀ (n : Lbs) (pos : Int) (T : List (Lbs × Int)), (pkPut ok n pos T).1.length ≤ sizeL n
  | [], _, T => Nat.le_refl _
  | l :: r, pos, T => by
    have hs : sizeL (l :: r) = sizeL r + (l.length + 1) := by simp [sizeL]; omega
    cases h : pkFind T (l :: r) with
    | some to =>
      rw [pkPut_hit h, hs]
      have : 1 ≤ sizeL r := by unfold sizeL; omega
      simp [ocT_len]
      omega
    | none =>
      rw [pkPut_miss h, hs, List.length_append, labB_len]
      have := pkPut_size ok r (pos + (l.length + 1)) (if ok = true ∧ pos ≤ 16383 then T ++ [(l :: r, pos)] else T)
      omega
end Go.Proofs.Ytchjhpipiooibaa
