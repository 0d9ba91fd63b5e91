/- Texts behind a law of this seat, in order: Math01, Math09. -/
import Derived.Lib.Strings
import Derived.WalkKit
namespace Go.Proofs.YthbdeafbdmbabaaDoor
open Go.RowKit
theorem ret_bool {a b : Bool} (h : a = b) : Ending.returned (.bool a) = .returned (.bool b) := by rw [h]
theorem ret_str {a b : ByteArray} (h : a = b) : Ending.returned (.string a) = .returned (.string b) := by rw [h]
def digB (c : UInt8) : Bool := decide (48 ≤ c.toNat) && decide (c.toNat ≤ 57)
def digsB (l : List UInt8) : Bool := !l.isEmpty && l.all digB
theorem take_snoc (s : ByteArray) (k : Nat) (h : k < s.size) : s.data.toList.take (k + 1) = s.data.toList.take k ++ [s[k]] := by
  rw [List.take_succ_eq_append_getElem (by simpa using h)]; rfl
theorem digs_step (s : ByteArray) (k : Nat) (h : k < s.size) (ha : (s.data.toList.take k).all digB = true) (h1 : 48 ≤ s[k].toNat) (h2 : s[k].toNat ≤ 57) : (s.data.toList.take (k + 1)).all digB = true := by
  rw [take_snoc s k h, List.all_append, ha]; simp [digB, h1, h2]
theorem digs_bad (s : ByteArray) (k : Nat) (h : k < s.size) (h1 : s[k].toNat < 48 ∨ 57 < s[k].toNat) : digsB s.data.toList = false := by
  have hm : s[k] ∈ s.data.toList := by
    have : s.data.toList[k]'(by simpa using h) ∈ s.data.toList := List.getElem_mem _
    exact this
  have : s.data.toList.all digB = false := by
    rw [List.all_eq_false]
    exact ⟨_, hm, by simp [digB]; omega⟩
  simp [digsB, this]
theorem digs_end (s : ByteArray) (ha : (s.data.toList.take s.size).all digB = true) : digsB s.data.toList = !s.data.toList.isEmpty := by
  rw [List.take_of_length_le (by simp)] at ha
  simp [digsB, ha]
def numL (l : List UInt8) : Nat := l.foldl (fun n c => n * 10 + (c.toNat - 48)) 0
def NumP (l : List UInt8) (most : Int) (e : Ending) : Prop :=
  (digsB l = false ∧ e = .returned (.tuple #[.int .i64 0, .int .i64 5])) ∨
  (digsB l = true ∧ most < numL l ∧ e = .returned (.tuple #[.int .i64 0, .int .i64 4])) ∨
  (digsB l = true ∧ (numL l : Int) ≤ most ∧ e = .returned (.tuple #[.int .i64 (numL l), .int .i64 0]))
theorem digs_at (s : ByteArray) (k : Nat) (h : k < s.size) (hd : digsB s.data.toList = true) : 48 ≤ s[k].toNat ∧ s[k].toNat ≤ 57 := by
  have hm : s[k] ∈ s.data.toList := by
    have : s.data.toList[k]'(by simpa using h) ∈ s.data.toList := List.getElem_mem _
    exact this
  simp only [digsB, Bool.and_eq_true, List.all_eq_true] at hd
  have := hd.2 _ hm
  simpa [digB] using this
theorem numL_snoc (l : List UInt8) (c : UInt8) : numL (l ++ [c]) = numL l * 10 + (c.toNat - 48) := by simp [numL]
theorem numL_step (s : ByteArray) (k : Nat) (h : k < s.size) : numL (s.data.toList.take (k + 1)) = numL (s.data.toList.take k) * 10 + (s[k].toNat - 48) := by
  rw [take_snoc s k h, numL_snoc]
theorem foldl_le (l : List UInt8) (a : Nat) : a ≤ l.foldl (fun n c => n * 10 + (c.toNat - 48)) a := by
  induction l generalizing a with
  | nil => simp
  | cons c l ih => exact Nat.le_trans (by omega) (ih (a * 10 + (c.toNat - 48)))
theorem numL_take_le (l : List UInt8) (k : Nat) : numL (l.take k) ≤ numL l := by
  have : numL l = (l.drop k).foldl (fun n c => n * 10 + (c.toNat - 48)) (numL (l.take k)) := by
    unfold numL; rw [← List.foldl_append, List.take_append_drop]
  rw [this]; exact foldl_le _ _
theorem ret_v {k : IntKind} {a b : Int} (h : a = b) : Value.int k a = Value.int k b := by rw [h]
theorem digs_ne (l : List UInt8) (hd : digsB l = true) : l ≠ [] := by
  rintro rfl; simp [digsB] at hd
theorem numP_over (s : ByteArray) (k : Nat) (most : Int) (hlt : k < s.size) (hd : digsB s.data.toList = true)
    (hs : numL (s.data.toList.take (k + 1)) = numL (s.data.toList.take k) * 10 + (s[k].toNat - 48))
    (h : most < (numL (s.data.toList.take k) : Int) * 10 + ((s[k].toNat : Int) - 48)) : NumP s.data.toList most (.returned (.tuple #[.int .i64 0, .int .i64 4])) := by
  refine .inr (.inl ⟨hd, ?_, rfl⟩)
  have h1 := digs_at s k hlt hd
  have h2 := numL_take_le s.data.toList (k + 1)
  omega
theorem numP_end (s : ByteArray) (k : Nat) (most : Int) (hk : k = s.size) (hd : digsB s.data.toList = true) (h : k = 0 ∨ (numL (s.data.toList.take k) : Int) ≤ most) :
    NumP s.data.toList most (.returned (.tuple #[.int .i64 (numL (s.data.toList.take k)), .int .i64 0])) := by
  have hn := digs_ne _ hd
  have h0 : k ≠ 0 := by
    rintro rfl
    apply hn
    have : s.data.toList.length = 0 := by simpa using hk.symm
    exact List.length_eq_zero_iff.1 this
  have ht : s.data.toList.take k = s.data.toList := List.take_of_length_le (by simp; omega)
  rw [ht] at h ⊢
  exact .inr (.inr ⟨hd, by omega, rfl⟩)
def hexV (c : Int) : Int := if 48 ≤ c ∧ c ≤ 57 then c - 48 else if 97 ≤ c ∧ c ≤ 102 then c - 87 else if 65 ≤ c ∧ c ≤ 70 then c - 55 else 0
def hexB (c : Int) : Bool := (decide (48 ≤ c) && decide (c ≤ 57)) || (decide (97 ≤ c) && decide (c ≤ 102)) || (decide (65 ≤ c) && decide (c ≤ 70))
theorem ret_hex {a b : Int} {x y : Bool} (h : a = b) (k : x = y) : Ending.returned (.tuple #[.int .i64 a, .bool x]) = .returned (.tuple #[.int .i64 b, .bool y]) := by rw [h, k]
def strV (l : List UInt8) : Value := .string ⟨l.toArray⟩
def strVs (l : List (List UInt8)) : List Value := l.map strV
theorem strVs_app (a : List (List UInt8)) (x : List UInt8) : strVs (a ++ [x]) = strVs a ++ [strV x] := by simp [strVs]
theorem strVs_len (a : List (List UInt8)) : (strVs a).length = a.length := by simp [strVs]
end Go.Proofs.YthbdeafbdmbabaaDoor
namespace Go.Proofs.YthbdeafbdmbabaaDoor
open Go.RowKit
set_option linter.unusedVariables false
def sizeL (n : List (List UInt8)) : Nat := 1 + (n.map fun l => l.length + 1).sum
def escB (c : UInt8) : List UInt8 :=
  if c.toNat = 46 ∨ c.toNat = 92 then [92, c] else if c.toNat < 33 ∨ 126 < c.toNat then [92, UInt8.ofNat (48 + c.toNat / 100), UInt8.ofNat (48 + c.toNat / 10 % 10), UInt8.ofNat (48 + c.toNat % 10)] else [c]
def escs (l : List UInt8) : List UInt8 := l.flatMap escB
def textD (n : List (List UInt8)) : List UInt8 := n.flatMap fun l => escs l ++ [46]
def plainD (n : List (List UInt8)) : List UInt8 := (n.flatMap fun l => 46 :: escs l).drop 1
def plainL (n : List (List UInt8)) : List UInt8 := if n = [] then [46] else plainD n
theorem textD_snoc (n : List (List UInt8)) (l : List UInt8) : textD (n ++ [l]) = textD n ++ (escs l ++ [46]) := by simp [textD]
theorem plainD_snoc (n : List (List UInt8)) (l : List UInt8) : plainD (n ++ [l]) = textD n ++ escs l := by
  have key : ∀ n : List (List UInt8), (n.flatMap fun l => 46 :: escs l) ++ [46] = 46 :: textD n := by
    intro n
    induction n with
    | nil => rfl
    | cons a n ih => simp [textD] at ih ⊢; exact ih
  have e := key (n ++ [l])
  rw [textD_snoc] at e
  have : ((n ++ [l]).flatMap fun l => 46 :: escs l) = 46 :: (textD n ++ escs l) := by
    have e2 : ((n ++ [l]).flatMap fun l => 46 :: escs l) ++ [46] = (46 :: (textD n ++ escs l)) ++ [46] := by rw [e]; simp
    exact List.append_cancel_right e2
  unfold plainD
  rw [this]; rfl
theorem textD_plainD (n : List (List UInt8)) (h : n ≠ []) : textD n = plainD n ++ [46] := by
  have e := (List.dropLast_concat_getLast h).symm
  rw [e, plainD_snoc, textD_snoc]; simp
end Go.Proofs.YthbdeafbdmbabaaDoor
