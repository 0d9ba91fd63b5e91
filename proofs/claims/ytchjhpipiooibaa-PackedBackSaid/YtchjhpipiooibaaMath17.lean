/- Layer 12: names as octets in a message, over plain lists. -/
import Derived.Test.YtchjhpipiooibaaMath09
import Derived.Test.YtchjhpipiooibaaMath15
namespace Go.Proofs.Ytchjhpipiooibaa
set_option linter.unusedVariables false
abbrev Lbs := List (List UInt8)
/-- what a reading comes to: the name, what is behind, the error -/
structure PkR where
  n : Lbs
  fin : Nat
  err : Int
def pkBad (x : Int) : PkR := ⟨[], 0, x⟩
/-- where a pointer leads -/
def ptrN (c d : UInt8) : Nat := 256 * (c.toNat - 192) + d.toNat
/-- a name's reading at p: what was led to last is low, its size so far, its labels so far, what is behind (0: not known) -/
def pkRun (m : List UInt8) (p low size : Nat) (n : Lbs) (fin : Nat) : PkR :=
  if h : p < m.length then
    if m[p].toNat = 0 then ⟨n, if fin = 0 then p + 1 else fin, 0⟩
    else if m[p].toNat ≤ 63 then
      if m.length < p + 1 + m[p].toNat then pkBad 1
      else if 255 < size + (m[p].toNat + 1) then pkBad 3
      else pkRun m (p + 1 + m[p].toNat) low (size + (m[p].toNat + 1)) (n ++ [(m.drop (p + 1)).take m[p].toNat]) fin
    else if m[p].toNat < 192 then pkBad 7
    else if h2 : p + 1 < m.length then
      if h3 : ptrN (m[p]'h) (m[p + 1]'h2) < low then pkRun m (ptrN (m[p]'h) (m[p + 1]'h2)) (ptrN (m[p]'h) (m[p + 1]'h2)) size n (if fin = 0 then p + 2 else fin)
      else pkBad 9
    else pkBad 1
  else pkBad 1
termination_by (low, m.length - p)
decreasing_by
  · exact Prod.Lex.right _ (by omega)
  · exact Prod.Lex.left _ _ h3
section
variable {m : List UInt8} {p low size fin : Nat} {n : Lbs}
theorem pkRun_out (h : ¬ p < m.length) : pkRun m p low size n fin = pkBad 1 := by
  rw [pkRun, dif_neg h]
theorem pkRun_end (h : p < m.length) (h0 : m[p].toNat = 0) : pkRun m p low size n fin = ⟨n, if fin = 0 then p + 1 else fin, 0⟩ := by
  rw [pkRun, dif_pos h, if_pos h0]
theorem pkRun_short (h : p < m.length) (h0 : m[p].toNat ≠ 0) (h1 : m[p].toNat ≤ 63) (h2 : m.length < p + 1 + m[p].toNat) : pkRun m p low size n fin = pkBad 1 := by
  rw [pkRun, dif_pos h, if_neg h0, if_pos h1, if_pos h2]
theorem pkRun_long (h : p < m.length) (h0 : m[p].toNat ≠ 0) (h1 : m[p].toNat ≤ 63) (h2 : ¬ m.length < p + 1 + m[p].toNat) (h3 : 255 < size + (m[p].toNat + 1)) : pkRun m p low size n fin = pkBad 3 := by
  rw [pkRun, dif_pos h, if_neg h0, if_pos h1, if_neg h2, if_pos h3]
theorem pkRun_label (h : p < m.length) (h0 : m[p].toNat ≠ 0) (h1 : m[p].toNat ≤ 63) (h2 : ¬ m.length < p + 1 + m[p].toNat) (h3 : ¬ 255 < size + (m[p].toNat + 1)) :
    pkRun m p low size n fin = pkRun m (p + 1 + m[p].toNat) low (size + (m[p].toNat + 1)) (n ++ [(m.drop (p + 1)).take m[p].toNat]) fin := by
  conv => lhs; rw [pkRun, dif_pos h, if_neg h0, if_pos h1, if_neg h2, if_neg h3]
theorem pkRun_lab (h : p < m.length) (h1 : ¬ m[p].toNat ≤ 63) (h2 : m[p].toNat < 192) : pkRun m p low size n fin = pkBad 7 := by
  rw [pkRun, dif_pos h, if_neg (by omega), if_neg h1, if_pos h2]
theorem pkRun_half (h : p < m.length) (h1 : ¬ m[p].toNat < 192) (h2 : ¬ p + 1 < m.length) : pkRun m p low size n fin = pkBad 1 := by
  rw [pkRun, dif_pos h, if_neg (by omega), if_neg (by omega), if_neg h1, dif_neg h2]
theorem pkRun_far (h : p < m.length) (h1 : ¬ m[p].toNat < 192) (h2 : p + 1 < m.length) (h3 : ¬ ptrN (m[p]'h) (m[p + 1]'h2) < low) : pkRun m p low size n fin = pkBad 9 := by
  rw [pkRun, dif_pos h, if_neg (by omega), if_neg (by omega), if_neg h1, dif_pos h2, dif_neg h3]
theorem pkRun_ptr (h : p < m.length) (h1 : ¬ m[p].toNat < 192) (h2 : p + 1 < m.length) (h3 : ptrN (m[p]'h) (m[p + 1]'h2) < low) :
    pkRun m p low size n fin = pkRun m (ptrN (m[p]'h) (m[p + 1]'h2)) (ptrN (m[p]'h) (m[p + 1]'h2)) size n (if fin = 0 then p + 2 else fin) := by
  conv => lhs; rw [pkRun, dif_pos h, if_neg (by omega), if_neg (by omega), if_neg h1, dif_pos h2, dif_pos h3]
end
/-- the name at an offset -/
def pkGet (m : List UInt8) (at_ : Int) : PkR := if at_ < 0 ∨ (m.length : Int) < at_ then pkBad 4 else pkRun m at_.toNat at_.toNat 1 [] 0
theorem pkRun_bad : ∀ (k : Nat) (m : List UInt8) (p low size : Nat) (n : Lbs) (fin : Nat), low * (m.length + 1) + (m.length - p) ≤ k →
    ((pkRun m p low size n fin).err = 0 ∨ ∃ x, x ≠ 0 ∧ pkRun m p low size n fin = pkBad x) := by
  intro k
  induction k with
  | zero =>
    intro m p low size n fin hk
    exact .inr ⟨1, by decide, pkRun_out (by omega)⟩
  | succ k ih =>
    intro m p low size n fin hk
    by_cases h : p < m.length
    · by_cases h0 : m[p].toNat = 0
      · exact .inl (by rw [pkRun_end h h0])
      · by_cases h1 : m[p].toNat ≤ 63
        · by_cases h2 : m.length < p + 1 + m[p].toNat
          · exact .inr ⟨1, by decide, pkRun_short h h0 h1 h2⟩
          · by_cases h3 : 255 < size + (m[p].toNat + 1)
            · exact .inr ⟨3, by decide, pkRun_long h h0 h1 h2 h3⟩
            · rw [pkRun_label h h0 h1 h2 h3]
              exact ih _ _ _ _ _ _ (by omega)
        · by_cases h2 : m[p].toNat < 192
          · exact .inr ⟨7, by decide, pkRun_lab h h1 h2⟩
          · by_cases h3 : p + 1 < m.length
            · by_cases h4 : ptrN (m[p]'h) (m[p + 1]'h3) < low
              · rw [pkRun_ptr h h2 h3 h4]
                refine ih _ _ _ _ _ _ ?_
                have := Nat.mul_le_mul_right (m.length + 1) h4
                rw [Nat.succ_mul] at this
                omega
              · exact .inr ⟨9, by decide, pkRun_far h h2 h3 h4⟩
            · exact .inr ⟨1, by decide, pkRun_half h h2 h3⟩
    · exact .inr ⟨1, by decide, pkRun_out h⟩
theorem pkRun_or (m : List UInt8) (p low size : Nat) (n : Lbs) (fin : Nat) : (pkRun m p low size n fin).err = 0 ∨ ∃ x, x ≠ 0 ∧ pkRun m p low size n fin = pkBad x := pkRun_bad _ m p low size n fin (Nat.le_refl _)
/-- a name's octets -/
def labB (l : List UInt8) : List UInt8 := ocByte l.length :: l
def labsB (n : Lbs) : List UInt8 := (n.map labB).flatten
def wireB (n : Lbs) : List UInt8 := labsB n ++ [0]
theorem labsB_cons (l : List UInt8) (n : Lbs) : labsB (l :: n) = labB l ++ labsB n := rfl
theorem labsB_app (a b : Lbs) : labsB (a ++ b) = labsB a ++ labsB b := by simp [labsB]
theorem labsB_len : ∀ n : Lbs, (labsB n).length + 1 = sizeL n
  | [] => rfl
  | l :: n => by
    have := labsB_len n
    rw [labsB_cons, List.length_append]
    unfold sizeL at this ⊢
    simp only [List.map_cons, List.sum_cons, labB, List.length_cons]
    omega
theorem wireB_len (n : Lbs) : (wireB n).length = sizeL n := by
  have := labsB_len n
  simp [wireB]
  omega
theorem ocByte_lab (l : List UInt8) (h : l.length ≤ 63) : (ocByte l.length).toNat = l.length := by
  have := ocByte_val (l.length : Int)
  omega
/-- where a table has a name -/
def pkFind (T : List (Lbs × Int)) (n : Lbs) : Option Int := (T.find? (fun r => decide (r.1 = n))).map (·.2)
/-- a name's octets, by a table: ok: may anything come into it? -/
def pkPut (ok : Bool) : Lbs → Int → List (Lbs × Int) → List UInt8 × List (Lbs × Int)
  | [], _, T => ([0], T)
  | l :: r, pos, T =>
    match pkFind T (l :: r) with
    | some to => (ocT 2 (49152 + to), T)
    | none =>
      let o := pkPut ok r (pos + (l.length + 1)) (if ok = true ∧ pos ≤ 16383 then T ++ [(l :: r, pos)] else T)
      (labB l ++ o.1, o.2)
theorem pkPut_hit {ok : Bool} {l : List UInt8} {r : Lbs} {pos to : Int} {T : List (Lbs × Int)} (h : pkFind T (l :: r) = some to) : pkPut ok (l :: r) pos T = (ocT 2 (49152 + to), T) := by
  simp [pkPut, h]
theorem pkPut_miss {ok : Bool} {l : List UInt8} {r : Lbs} {pos : Int} {T : List (Lbs × Int)} (h : pkFind T (l :: r) = none) :
    pkPut ok (l :: r) pos T = (labB l ++ (pkPut ok r (pos + (l.length + 1)) (if ok = true ∧ pos ≤ 16383 then T ++ [(l :: r, pos)] else T)).1, (pkPut ok r (pos + (l.length + 1)) (if ok = true ∧ pos ≤ 16383 then T ++ [(l :: r, pos)] else T)).2) := by
  simp [pkPut, h]
theorem pkPut_none (n : Lbs) : ∀ (pos : Int), pkPut false n pos [] = (wireB n, []) := by
  induction n with
  | nil => intro pos; rfl
  | cons l r ih =>
    intro pos
    rw [pkPut_miss (by rfl)]
    simp [ih, wireB, labsB_cons]
theorem pkFind_app {T : List (Lbs × Int)} {n : Lbs} (k : Lbs) (to : Int) : pkFind (T ++ [(k, to)]) n = match pkFind T n with
    | some x => some x
    | none => if k = n then some to else none := by
  unfold pkFind
  rw [List.find?_append]
  cases h : T.find? (fun r => decide (r.1 = n)) with
  | some x => simp
  | none =>
    by_cases e : k = n
    · simp [e]
    · simp [e]
theorem pkFind_mem {T : List (Lbs × Int)} {n : Lbs} {to : Int} (h : pkFind T n = some to) : (n, to) ∈ T := by
  unfold pkFind at h
  rw [Option.map_eq_some_iff] at h
  obtain ⟨x, hx, rfl⟩ := h
  have h1 := List.find?_some hx
  have h2 := List.mem_of_find?_eq_some hx
  simp at h1
  subst h1
  exact h2
end Go.Proofs.Ytchjhpipiooibaa
