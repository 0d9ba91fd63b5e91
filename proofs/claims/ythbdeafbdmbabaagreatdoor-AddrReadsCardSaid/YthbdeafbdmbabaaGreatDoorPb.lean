/- Texts behind a law of this seat, in order: Math01, Math09. -/
import Derived.Lib.Strings
import Derived.WalkKit
namespace Go.Proofs.YthbdeafbdmbabaaGreatDoor
open Go.RowKit
theorem ret_int {k : IntKind} {a b : Int} (h : a = b) : Ending.returned (.int k a) = .returned (.int k b) := by rw [h]
theorem ret_bool {a b : Bool} (h : a = b) : Ending.returned (.bool a) = .returned (.bool b) := by rw [h]
theorem ret_str {a b : ByteArray} (h : a = b) : Ending.returned (.string a) = .returned (.string b) := by rw [h]
def lowI (c : Int) : Int := if 65 ≤ c ∧ c ≤ 90 then c + 32 else c
def digB (c : UInt8) : Bool := decide (48 ≤ c.toNat) && decide (c.toNat ≤ 57)
def digsB (l : List UInt8) : Bool := !l.isEmpty && l.all digB
theorem take_snoc (s : ByteArray) (k : Nat) (h : k < s.size) : s.data.toList.take (k + 1) = s.data.toList.take k ++ [s[k]] := by
  rw [List.take_succ_eq_append_getElem (by simpa using h)]; rfl
theorem digs_step (s : ByteArray) (k : Nat) (h : k < s.size) (ha : (s.data.toList.take k).all digB = true) (h1 : 48 ≤ s[k].toNat) (h2 : s[k].toNat ≤ 57) : (s.data.toList.take (k + 1)).all digB = true := by
  rw [take_snoc s k h, List.all_append, ha]; simp [digB, h1, h2]
theorem digs_bad (s : ByteArray) (k : Nat) (h : k < s.size) (h1 : s[k].toNat < 48 ∨ 57 < s[k].toNat) : digsB s.data.toList = false := by
  have hm : s[k] ∈ s.data.toList := by
    have : s.data.toList[k]'(by simpa using h) ∈ s.data.toList := List.getElem_mem _
    exact this
  have : s.data.toList.all digB = false := by
    rw [List.all_eq_false]
    exact ⟨_, hm, by simp [digB]; omega⟩
  simp [digsB, this]
theorem digs_end (s : ByteArray) (ha : (s.data.toList.take s.size).all digB = true) : digsB s.data.toList = !s.data.toList.isEmpty := by
  rw [List.take_of_length_le (by simp)] at ha
  simp [digsB, ha]
def numL (l : List UInt8) : Nat := l.foldl (fun n c => n * 10 + (c.toNat - 48)) 0
def NumP (l : List UInt8) (most : Int) (e : Ending) : Prop :=
  (digsB l = false ∧ e = .returned (.tuple #[.int .i64 0, .int .i64 5])) ∨
  (digsB l = true ∧ most < numL l ∧ e = .returned (.tuple #[.int .i64 0, .int .i64 4])) ∨
  (digsB l = true ∧ (numL l : Int) ≤ most ∧ e = .returned (.tuple #[.int .i64 (numL l), .int .i64 0]))
theorem digs_at (s : ByteArray) (k : Nat) (h : k < s.size) (hd : digsB s.data.toList = true) : 48 ≤ s[k].toNat ∧ s[k].toNat ≤ 57 := by
  have hm : s[k] ∈ s.data.toList := by
    have : s.data.toList[k]'(by simpa using h) ∈ s.data.toList := List.getElem_mem _
    exact this
  simp only [digsB, Bool.and_eq_true, List.all_eq_true] at hd
  have := hd.2 _ hm
  simpa [digB] using this
theorem numL_snoc (l : List UInt8) (c : UInt8) : numL (l ++ [c]) = numL l * 10 + (c.toNat - 48) := by simp [numL]
theorem numL_step (s : ByteArray) (k : Nat) (h : k < s.size) : numL (s.data.toList.take (k + 1)) = numL (s.data.toList.take k) * 10 + (s[k].toNat - 48) := by
  rw [take_snoc s k h, numL_snoc]
theorem foldl_le (l : List UInt8) (a : Nat) : a ≤ l.foldl (fun n c => n * 10 + (c.toNat - 48)) a := by
  induction l generalizing a with
  | nil => simp
  | cons c l ih => exact Nat.le_trans (by omega) (ih (a * 10 + (c.toNat - 48)))
theorem numL_take_le (l : List UInt8) (k : Nat) : numL (l.take k) ≤ numL l := by
  have : numL l = (l.drop k).foldl (fun n c => n * 10 + (c.toNat - 48)) (numL (l.take k)) := by
    unfold numL; rw [← List.foldl_append, List.take_append_drop]
  rw [this]; exact foldl_le _ _
theorem ret_v {k : IntKind} {a b : Int} (h : a = b) : Value.int k a = Value.int k b := by rw [h]
theorem digs_ne (l : List UInt8) (hd : digsB l = true) : l ≠ [] := by
  rintro rfl; simp [digsB] at hd
theorem numP_over (s : ByteArray) (k : Nat) (most : Int) (hlt : k < s.size) (hd : digsB s.data.toList = true)
    (hs : numL (s.data.toList.take (k + 1)) = numL (s.data.toList.take k) * 10 + (s[k].toNat - 48))
    (h : most < (numL (s.data.toList.take k) : Int) * 10 + ((s[k].toNat : Int) - 48)) : NumP s.data.toList most (.returned (.tuple #[.int .i64 0, .int .i64 4])) := by
  refine .inr (.inl ⟨hd, ?_, rfl⟩)
  have h1 := digs_at s k hlt hd
  have h2 := numL_take_le s.data.toList (k + 1)
  omega
theorem numP_end (s : ByteArray) (k : Nat) (most : Int) (hk : k = s.size) (hd : digsB s.data.toList = true) (h : k = 0 ∨ (numL (s.data.toList.take k) : Int) ≤ most) :
    NumP s.data.toList most (.returned (.tuple #[.int .i64 (numL (s.data.toList.take k)), .int .i64 0])) := by
  have hn := digs_ne _ hd
  have h0 : k ≠ 0 := by
    rintro rfl
    apply hn
    have : s.data.toList.length = 0 := by simpa using hk.symm
    exact List.length_eq_zero_iff.1 this
  have ht : s.data.toList.take k = s.data.toList := List.take_of_length_le (by simp; omega)
  rw [ht] at h ⊢
  exact .inr (.inr ⟨hd, by omega, rfl⟩)
theorem foldl_mul (l : List UInt8) (a : Nat) : a * 10 ^ l.length ≤ l.foldl (fun n c => n * 10 + (c.toNat - 48)) a := by
  induction l generalizing a with
  | nil => simp
  | cons c l ih =>
    have h := ih (a * 10 + (c.toNat - 48))
    refine Nat.le_trans ?_ h
    rw [List.length_cons, Nat.pow_succ, ← Nat.mul_assoc, Nat.mul_right_comm]
    exact Nat.mul_le_mul_right _ (by omega)
def zerB (c : UInt8) : Bool := decide (c.toNat = 48)
theorem numL_zeros (l : List UInt8) (h : l.all zerB = true) : numL l = 0 := by
  have : ∀ a, a = 0 → l.foldl (fun n c => n * 10 + (c.toNat - 48)) a = 0 := by
    induction l with
    | nil => intro a ha; simpa using ha
    | cons c l ih =>
      intro a ha
      simp only [List.all_cons, Bool.and_eq_true] at h
      have hc : c.toNat = 48 := by simpa [zerB] using h.1
      exact ih h.2 _ (by show a * 10 + (c.toNat - 48) = 0; omega)
  exact this 0 rfl
theorem numL_app (a b : List UInt8) : numL (a ++ b) = b.foldl (fun n c => n * 10 + (c.toNat - 48)) (numL a) := by simp [numL, List.foldl_append]
theorem zers_step (s : ByteArray) (k : Nat) (h : k < s.size) (ha : (s.data.toList.take k).all zerB = true) (h1 : s[k].toNat = 48) : (s.data.toList.take (k + 1)).all zerB = true := by
  rw [take_snoc s k h, List.all_append, ha]; simp [zerB, h1]
theorem numL_big (s : ByteArray) (k : Nat) (h : k + 19 < s.size) (ha : (s.data.toList.take k).all zerB = true) (h1 : 49 ≤ (s[k]'(by omega)).toNat) : 10 ^ 19 ≤ numL s.data.toList := by
  have e : s.data.toList = s.data.toList.take (k + 1) ++ s.data.toList.drop (k + 1) := (List.take_append_drop _ _).symm
  have hn : numL (s.data.toList.take (k + 1)) = s[k].toNat - 48 := by rw [numL_step s k (by omega), numL_zeros _ ha]; omega
  rw [e, numL_app, hn]
  refine Nat.le_trans ?_ (foldl_mul _ _)
  have hl : 19 ≤ (s.data.toList.drop (k + 1)).length := by simp; omega
  have hp : 10 ^ 19 ≤ 10 ^ (s.data.toList.drop (k + 1)).length := Nat.pow_le_pow_right (by decide) hl
  exact Nat.le_trans hp (by have := Nat.mul_le_mul_right (10 ^ (s.data.toList.drop (k + 1)).length) (show 1 ≤ s[k].toNat - 48 by omega); omega)
theorem numL_lt (s : ByteArray) (f : Nat) (ha : (s.data.toList.take f).all zerB = true) (hd : digsB s.data.toList = true) :
    ∀ k, f ≤ k → k ≤ s.size → numL (s.data.toList.take k) < 10 ^ (k - f) := by
  intro k
  induction k with
  | zero => intro h1 _; obtain rfl : f = 0 := by omega
            simp [numL]
  | succ k ih =>
    intro h1 h2
    by_cases hf : f = k + 1
    · subst hf; rw [numL_zeros _ ha]; exact Nat.pow_pos (by decide)
    · have := ih (by omega) (by omega)
      rw [numL_step s k (by omega), show k + 1 - f = (k - f) + 1 by omega, Nat.pow_succ]
      have := digs_at s k (by omega) hd
      omega
theorem numL_18 (s : ByteArray) (f k : Nat) (ha : (s.data.toList.take f).all zerB = true) (hd : digsB s.data.toList = true) (h1 : f ≤ k) (h2 : k ≤ s.size) (h3 : k ≤ f + 18) : numL (s.data.toList.take k) ≤ 1000000000000000000 := by
  have := numL_lt s f ha hd k h1 h2
  have hp : 10 ^ (k - f) ≤ 10 ^ 18 := Nat.pow_le_pow_right (by decide) (by omega)
  omega
theorem numL_19 (s : ByteArray) (f : Nat) (ha : (s.data.toList.take f).all zerB = true) (hd : digsB s.data.toList = true) (h2 : f ≤ s.size) (h3 : s.size ≤ f + 19) : numL s.data.toList < 10000000000000000000 := by
  have := numL_lt s f ha hd s.size h2 (Nat.le_refl _)
  rw [List.take_of_length_le (by simp)] at this
  have hp : 10 ^ (s.size - f) ≤ 10 ^ 19 := Nat.pow_le_pow_right (by decide) (by omega)
  omega
theorem numP_big (s : ByteArray) (f : Nat) (most : Int) (hm1 : most ≤ 9223372036854775807) (h : f + 19 < s.size) (ha : (s.data.toList.take f).all zerB = true) (hd : digsB s.data.toList = true)
    (h1 : f + 1 < s.size → 49 ≤ (s[f]'(by omega)).toNat) : NumP s.data.toList most (.returned (.tuple #[.int .i64 0, .int .i64 4])) := by
  have := numL_big s f h ha (h1 (by omega))
  exact .inr (.inl ⟨hd, by omega, rfl⟩)
def hexV (c : Int) : Int := if 48 ≤ c ∧ c ≤ 57 then c - 48 else if 97 ≤ c ∧ c ≤ 102 then c - 87 else if 65 ≤ c ∧ c ≤ 70 then c - 55 else 0
def hexB (c : Int) : Bool := (decide (48 ≤ c) && decide (c ≤ 57)) || (decide (97 ≤ c) && decide (c ≤ 102)) || (decide (65 ≤ c) && decide (c ≤ 70))
theorem ret_hex {a b : Int} {x y : Bool} (h : a = b) (k : x = y) : Ending.returned (.tuple #[.int .i64 a, .bool x]) = .returned (.tuple #[.int .i64 b, .bool y]) := by rw [h, k]
def lowB (c : UInt8) : UInt8 := if 65 ≤ c.toNat ∧ c.toNat ≤ 90 then c + 32 else c
theorem lowB_int (c : UInt8) : ((lowB c).toNat : Int) = lowI c.toNat := by
  unfold lowB lowI
  by_cases h : 65 ≤ c.toNat ∧ c.toNat ≤ 90
  · rw [if_pos h, if_pos (by omega), UInt8.toNat_add]
    have : (32 : UInt8).toNat = 32 := rfl
    omega
  · rw [if_neg h, if_neg (by omega)]
def strV (l : List UInt8) : Value := .string ⟨l.toArray⟩
def strVs (l : List (List UInt8)) : List Value := l.map strV
theorem strVs_app (a : List (List UInt8)) (x : List UInt8) : strVs (a ++ [x]) = strVs a ++ [strV x] := by simp [strVs]
theorem strVs_len (a : List (List UInt8)) : (strVs a).length = a.length := by simp [strVs]
theorem extract_strV (s : ByteArray) (a b : Nat) : Value.string (s.extract a b) = strV ((s.data.toList.drop a).take (b - a)) := by
  unfold strV; rw [Lib.extract_eq]
end Go.Proofs.YthbdeafbdmbabaaGreatDoor
namespace Go.Proofs.YthbdeafbdmbabaaGreatDoor
open Go.RowKit
set_option linter.unusedVariables false
def sizeL (n : List (List UInt8)) : Nat := 1 + (n.map fun l => l.length + 1).sum
def escB (c : UInt8) : List UInt8 :=
  if c.toNat = 46 ∨ c.toNat = 92 then [92, c] else if c.toNat < 33 ∨ 126 < c.toNat then [92, UInt8.ofNat (48 + c.toNat / 100), UInt8.ofNat (48 + c.toNat / 10 % 10), UInt8.ofNat (48 + c.toNat % 10)] else [c]
def escs (l : List UInt8) : List UInt8 := l.flatMap escB
def textD (n : List (List UInt8)) : List UInt8 := n.flatMap fun l => escs l ++ [46]
def plainD (n : List (List UInt8)) : List UInt8 := (n.flatMap fun l => 46 :: escs l).drop 1
def plainL (n : List (List UInt8)) : List UInt8 := if n = [] then [46] else plainD n
theorem textD_snoc (n : List (List UInt8)) (l : List UInt8) : textD (n ++ [l]) = textD n ++ (escs l ++ [46]) := by simp [textD]
theorem plainD_snoc (n : List (List UInt8)) (l : List UInt8) : plainD (n ++ [l]) = textD n ++ escs l := by
  have key : ∀ n : List (List UInt8), (n.flatMap fun l => 46 :: escs l) ++ [46] = 46 :: textD n := by
    intro n
    induction n with
    | nil => rfl
    | cons a n ih => simp [textD] at ih ⊢; exact ih
  have e := key (n ++ [l])
  rw [textD_snoc] at e
  have : ((n ++ [l]).flatMap fun l => 46 :: escs l) = 46 :: (textD n ++ escs l) := by
    have e2 : ((n ++ [l]).flatMap fun l => 46 :: escs l) ++ [46] = (46 :: (textD n ++ escs l)) ++ [46] := by rw [e]; simp
    exact List.append_cancel_right e2
  unfold plainD
  rw [this]; rfl
theorem textD_plainD (n : List (List UInt8)) (h : n ≠ []) : textD n = plainD n ++ [46] := by
  have e := (List.dropLast_concat_getLast h).symm
  rw [e, plainD_snoc, textD_snoc]; simp
end Go.Proofs.YthbdeafbdmbabaaGreatDoor
