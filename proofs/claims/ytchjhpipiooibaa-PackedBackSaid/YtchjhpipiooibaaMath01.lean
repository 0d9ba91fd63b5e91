import Derived.WalkKit
import Derived.Lib.Strings
namespace Go.Proofs.Ytchjhpipiooibaa
open Go.RowKit
/- Plain functions on bytes and lists of bytes (layer 1). -/
theorem ret_int {k : IntKind} {a b : Int} (h : a = b) : Ending.returned (.int k a) = .returned (.int k b) := by rw [h]
theorem ret_bool {a b : Bool} (h : a = b) : Ending.returned (.bool a) = .returned (.bool b) := by rw [h]
theorem ret_str {a b : ByteArray} (h : a = b) : Ending.returned (.string a) = .returned (.string b) := by rw [h]
def lowI (c : Int) : Int := if 65 ≤ c ∧ c ≤ 90 then c + 32 else c
def blankB (c : Int) : Bool := decide (c = 32) || decide (c = 9)
def digB (c : UInt8) : Bool := decide (48 ≤ c.toNat) && decide (c.toNat ≤ 57)
def digsB (l : List UInt8) : Bool := !l.isEmpty && l.all digB
theorem take_snoc (s : ByteArray) (k : Nat) (h : k < s.size) : s.data.toList.take (k + 1) = s.data.toList.take k ++ [s[k]] := by
  rw [List.take_succ_eq_append_getElem (by simpa using h)]; rfl
theorem digs_step (s : ByteArray) (k : Nat) (h : k < s.size) (ha : (s.data.toList.take k).all digB = true) (h1 : 48 ≤ s[k].toNat) (h2 : s[k].toNat ≤ 57) : (s.data.toList.take (k + 1)).all digB = true := by
  rw [take_snoc s k h, List.all_append, ha]; simp [digB, h1, h2]
theorem digs_bad (s : ByteArray) (k : Nat) (h : k < s.size) (h1 : s[k].toNat < 48 ∨ 57 < s[k].toNat) : digsB s.data.toList = false := by
  have hm : s[k] ∈ s.data.toList := by
    have : s.data.toList[k]'(by simpa using h) ∈ s.data.toList := List.getElem_mem _
    exact this
  have : s.data.toList.all digB = false := by
    rw [List.all_eq_false]
    exact ⟨_, hm, by simp [digB]; omega⟩
  simp [digsB, this]
theorem digs_end (s : ByteArray) (ha : (s.data.toList.take s.size).all digB = true) : digsB s.data.toList = !s.data.toList.isEmpty := by
  rw [List.take_of_length_le (by simp)] at ha
  simp [digsB, ha]
def numL (l : List UInt8) : Nat := l.foldl (fun n c => n * 10 + (c.toNat - 48)) 0
def NumP (l : List UInt8) (most : Int) (e : Ending) : Prop :=
  (digsB l = false ∧ e = .returned (.tuple #[.int .i64 0, .int .i64 5])) ∨
  (digsB l = true ∧ most < numL l ∧ e = .returned (.tuple #[.int .i64 0, .int .i64 4])) ∨
  (digsB l = true ∧ (numL l : Int) ≤ most ∧ e = .returned (.tuple #[.int .i64 (numL l), .int .i64 0]))
theorem digs_at (s : ByteArray) (k : Nat) (h : k < s.size) (hd : digsB s.data.toList = true) : 48 ≤ s[k].toNat ∧ s[k].toNat ≤ 57 := by
  have hm : s[k] ∈ s.data.toList := by
    have : s.data.toList[k]'(by simpa using h) ∈ s.data.toList := List.getElem_mem _
    exact this
  simp only [digsB, Bool.and_eq_true, List.all_eq_true] at hd
  have := hd.2 _ hm
  simpa [digB] using this
theorem numL_snoc (l : List UInt8) (c : UInt8) : numL (l ++ [c]) = numL l * 10 + (c.toNat - 48) := by simp [numL]
theorem numL_step (s : ByteArray) (k : Nat) (h : k < s.size) : numL (s.data.toList.take (k + 1)) = numL (s.data.toList.take k) * 10 + (s[k].toNat - 48) := by
  rw [take_snoc s k h, numL_snoc]
theorem foldl_le (l : List UInt8) (a : Nat) : a ≤ l.foldl (fun n c => n * 10 + (c.toNat - 48)) a := by
  induction l generalizing a with
  | nil => simp
  | cons c l ih => exact Nat.le_trans (by omega) (ih (a * 10 + (c.toNat - 48)))
theorem numL_take_le (l : List UInt8) (k : Nat) : numL (l.take k) ≤ numL l := by
  have : numL l = (l.drop k).foldl (fun n c => n * 10 + (c.toNat - 48)) (numL (l.take k)) := by
    unfold numL; rw [← List.foldl_append, List.take_append_drop]
  rw [this]; exact foldl_le _ _
theorem ret_v {k : IntKind} {a b : Int} (h : a = b) : Value.int k a = Value.int k b := by rw [h]
theorem digs_ne (l : List UInt8) (hd : digsB l = true) : l ≠ [] := by
  rintro rfl; simp [digsB] at hd
theorem numP_over (s : ByteArray) (k : Nat) (most : Int) (hlt : k < s.size) (hd : digsB s.data.toList = true)
    (hs : numL (s.data.toList.take (k + 1)) = numL (s.data.toList.take k) * 10 + (s[k].toNat - 48))
    (h : most < (numL (s.data.toList.take k) : Int) * 10 + ((s[k].toNat : Int) - 48)) : NumP s.data.toList most (.returned (.tuple #[.int .i64 0, .int .i64 4])) := by
  refine .inr (.inl ⟨hd, ?_, rfl⟩)
  have h1 := digs_at s k hlt hd
  have h2 := numL_take_le s.data.toList (k + 1)
  omega
theorem numP_end (s : ByteArray) (k : Nat) (most : Int) (hk : k = s.size) (hd : digsB s.data.toList = true) (h : k = 0 ∨ (numL (s.data.toList.take k) : Int) ≤ most) :
    NumP s.data.toList most (.returned (.tuple #[.int .i64 (numL (s.data.toList.take k)), .int .i64 0])) := by
  have hn := digs_ne _ hd
  have h0 : k ≠ 0 := by
    rintro rfl
    apply hn
    have : s.data.toList.length = 0 := by simpa using hk.symm
    exact List.length_eq_zero_iff.1 this
  have ht : s.data.toList.take k = s.data.toList := List.take_of_length_le (by simp; omega)
  rw [ht] at h ⊢
  exact .inr (.inr ⟨hd, by omega, rfl⟩)
theorem foldl_mul (l : List UInt8) (a : Nat) : a * 10 ^ l.length ≤ l.foldl (fun n c => n * 10 + (c.toNat - 48)) a := by
  induction l generalizing a with
  | nil => simp
  | cons c l ih =>
    have h := ih (a * 10 + (c.toNat - 48))
    refine Nat.le_trans ?_ h
    rw [List.length_cons, Nat.pow_succ, ← Nat.mul_assoc, Nat.mul_right_comm]
    exact Nat.mul_le_mul_right _ (by omega)
def zerB (c : UInt8) : Bool := decide (c.toNat = 48)
theorem numL_zeros (l : List UInt8) (h : l.all zerB = true) : numL l = 0 := by
  have : ∀ a, a = 0 → l.foldl (fun n c => n * 10 + (c.toNat - 48)) a = 0 := by
    induction l with
    | nil => intro a ha; simpa using ha
    | cons c l ih =>
      intro a ha
      simp only [List.all_cons, Bool.and_eq_true] at h
      have hc : c.toNat = 48 := by simpa [zerB] using h.1
      exact ih h.2 _ (by show a * 10 + (c.toNat - 48) = 0; omega)
  exact this 0 rfl
theorem numL_app (a b : List UInt8) : numL (a ++ b) = b.foldl (fun n c => n * 10 + (c.toNat - 48)) (numL a) := by simp [numL, List.foldl_append]
theorem zers_step (s : ByteArray) (k : Nat) (h : k < s.size) (ha : (s.data.toList.take k).all zerB = true) (h1 : s[k].toNat = 48) : (s.data.toList.take (k + 1)).all zerB = true := by
  rw [take_snoc s k h, List.all_append, ha]; simp [zerB, h1]
theorem numL_big (s : ByteArray) (k : Nat) (h : k + 19 < s.size) (ha : (s.data.toList.take k).all zerB = true) (h1 : 49 ≤ (s[k]'(by omega)).toNat) : 10 ^ 19 ≤ numL s.data.toList := by
  have e : s.data.toList = s.data.toList.take (k + 1) ++ s.data.toList.drop (k + 1) := (List.take_append_drop _ _).symm
  have hn : numL (s.data.toList.take (k + 1)) = s[k].toNat - 48 := by rw [numL_step s k (by omega), numL_zeros _ ha]; omega
  rw [e, numL_app, hn]
  refine Nat.le_trans ?_ (foldl_mul _ _)
  have hl : 19 ≤ (s.data.toList.drop (k + 1)).length := by simp; omega
  have hp : 10 ^ 19 ≤ 10 ^ (s.data.toList.drop (k + 1)).length := Nat.pow_le_pow_right (by decide) hl
  exact Nat.le_trans hp (by have := Nat.mul_le_mul_right (10 ^ (s.data.toList.drop (k + 1)).length) (show 1 ≤ s[k].toNat - 48 by omega); omega)
theorem numL_lt (s : ByteArray) (f : Nat) (ha : (s.data.toList.take f).all zerB = true) (hd : digsB s.data.toList = true) :
    ∀ k, f ≤ k → k ≤ s.size → numL (s.data.toList.take k) < 10 ^ (k - f) := by
  intro k
  induction k with
  | zero => intro h1 _; obtain rfl : f = 0 := by omega
            simp [numL]
  | succ k ih =>
    intro h1 h2
    by_cases hf : f = k + 1
    · subst hf; rw [numL_zeros _ ha]; exact Nat.pow_pos (by decide)
    · have := ih (by omega) (by omega)
      rw [numL_step s k (by omega), show k + 1 - f = (k - f) + 1 by omega, Nat.pow_succ]
      have := digs_at s k (by omega) hd
      omega
theorem numL_18 (s : ByteArray) (f k : Nat) (ha : (s.data.toList.take f).all zerB = true) (hd : digsB s.data.toList = true) (h1 : f ≤ k) (h2 : k ≤ s.size) (h3 : k ≤ f + 18) : numL (s.data.toList.take k) ≤ 1000000000000000000 := by
  have := numL_lt s f ha hd k h1 h2
  have hp : 10 ^ (k - f) ≤ 10 ^ 18 := Nat.pow_le_pow_right (by decide) (by omega)
  omega
theorem numL_19 (s : ByteArray) (f : Nat) (ha : (s.data.toList.take f).all zerB = true) (hd : digsB s.data.toList = true) (h2 : f ≤ s.size) (h3 : s.size ≤ f + 19) : numL s.data.toList < 10000000000000000000 := by
  have := numL_lt s f ha hd s.size h2 (Nat.le_refl _)
  rw [List.take_of_length_le (by simp)] at this
  have hp : 10 ^ (s.size - f) ≤ 10 ^ 19 := Nat.pow_le_pow_right (by decide) (by omega)
  omega
theorem numP_big (s : ByteArray) (f : Nat) (most : Int) (hm1 : most ≤ 9223372036854775807) (h : f + 19 < s.size) (ha : (s.data.toList.take f).all zerB = true) (hd : digsB s.data.toList = true)
    (h1 : f + 1 < s.size → 49 ≤ (s[f]'(by omega)).toNat) : NumP s.data.toList most (.returned (.tuple #[.int .i64 0, .int .i64 4])) := by
  have := numL_big s f h ha (h1 (by omega))
  exact .inr (.inl ⟨hd, by omega, rfl⟩)
def hexV (c : Int) : Int := if 48 ≤ c ∧ c ≤ 57 then c - 48 else if 97 ≤ c ∧ c ≤ 102 then c - 87 else if 65 ≤ c ∧ c ≤ 70 then c - 55 else 0
def hexB (c : Int) : Bool := (decide (48 ≤ c) && decide (c ≤ 57)) || (decide (97 ≤ c) && decide (c ≤ 102)) || (decide (65 ≤ c) && decide (c ≤ 70))
theorem ret_hex {a b : Int} {x y : Bool} (h : a = b) (k : x = y) : Ending.returned (.tuple #[.int .i64 a, .bool x]) = .returned (.tuple #[.int .i64 b, .bool y]) := by rw [h, k]
def lowB (c : UInt8) : UInt8 := if 65 ≤ c.toNat ∧ c.toNat ≤ 90 then c + 32 else c
theorem lowB_int (c : UInt8) : ((lowB c).toNat : Int) = lowI c.toNat := by
  unfold lowB lowI
  by_cases h : 65 ≤ c.toNat ∧ c.toNat ≤ 90
  · rw [if_pos h, if_pos (by omega), UInt8.toNat_add]
    have : (32 : UInt8).toNat = 32 := rfl
    omega
  · rw [if_neg h, if_neg (by omega)]
/- fields -/
def blkB (c : UInt8) : Bool := decide (c.toNat = 32) || decide (c.toNat = 9)
def fstep (x : List (List UInt8) × List UInt8) (c : UInt8) : List (List UInt8) × List UInt8 :=
  if blkB c then (if x.2 = [] then x.1 else x.1 ++ [x.2], []) else (x.1, x.2 ++ [c])
def fat (l : List UInt8) (k : Nat) : List (List UInt8) × List UInt8 := (l.take k).foldl fstep ([], [])
def fieldsL (l : List UInt8) : List (List UInt8) := if (fat l l.length).2 = [] then (fat l l.length).1 else (fat l l.length).1 ++ [(fat l l.length).2]
def strV (l : List UInt8) : Value := .string ⟨l.toArray⟩
def strVs (l : List (List UInt8)) : List Value := l.map strV
theorem fat_succ (s : ByteArray) (k : Nat) (h : k < s.size) : fat s.data.toList (k + 1) = fstep (fat s.data.toList k) s[k] := by
  unfold fat; rw [take_snoc s k h, List.foldl_append]; rfl
theorem strVs_app (a : List (List UInt8)) (x : List UInt8) : strVs (a ++ [x]) = strVs a ++ [strV x] := by simp [strVs]
theorem strVs_len (a : List (List UInt8)) : (strVs a).length = a.length := by simp [strVs]
theorem fat_len (l : List UInt8) : ∀ k, k ≤ l.length → (fat l k).1.length + (fat l k).2.length ≤ k := by
  intro k
  induction k with
  | zero => intro _; simp [fat]
  | succ k ih =>
    intro h
    have hk : k < l.length := by omega
    have e : fat l (k + 1) = fstep (fat l k) l[k] := by
      unfold fat; rw [List.take_succ_eq_append_getElem hk, List.foldl_append]; rfl
    have := ih (by omega)
    rw [e]
    unfold fstep
    split
    · split
      · simp; omega
      · rename_i hne
        have : 0 < (fat l k).2.length := List.length_pos_iff.2 hne
        simp; omega
    · simp; omega
theorem fieldsL_len (l : List UInt8) : (fieldsL l).length ≤ l.length := by
  have := fat_len l l.length (Nat.le_refl _)
  unfold fieldsL
  split
  · omega
  · rename_i hne
    have : 0 < (fat l l.length).2.length := List.length_pos_iff.2 hne
    simp; omega
def FInv (s : ByteArray) (k a : Nat) (L : List (List UInt8)) : Prop :=
  (k ≤ s.size ∧ a ≤ k ∧ fat s.data.toList k = (L, (s.data.toList.drop a).take (k - a))) ∨ (k = s.size + 1 ∧ L = fieldsL s.data.toList)
theorem blkB_int (c : UInt8) : blankB (c.toNat : Int) = blkB c := by
  simp only [blankB, blkB]
  congr 1
  · by_cases h : c.toNat = 32 <;> simp [h]; omega
  · by_cases h : c.toNat = 9 <;> simp [h]; omega
theorem extract_strV (s : ByteArray) (a b : Nat) : Value.string (s.extract a b) = strV ((s.data.toList.drop a).take (b - a)) := by
  unfold strV; rw [Lib.extract_eq]
theorem fInv_start (s : ByteArray) : FInv s 0 0 [] := .inl ⟨Nat.zero_le _, Nat.le_refl _, by simp [fat]⟩
theorem word_nil (l : List UInt8) (a k : Nat) (ha : a ≤ k) (hk : k ≤ l.length) : ((l.drop a).take (k - a) = []) ↔ a = k := by
  constructor
  · intro h
    have := congrArg List.length h
    simp at this; omega
  · rintro rfl; simp
theorem fInv_go {s : ByteArray} {k a : Nat} {L : List (List UInt8)} (h : FInv s k a L) (hk : k < s.size) (hb : blkB s[k] = false) : FInv s (k + 1) a L := by
  rcases h with ⟨h1, h2, h3⟩ | ⟨h1, _⟩
  · refine .inl ⟨hk, by omega, ?_⟩
    rw [fat_succ s k hk, h3]
    unfold fstep
    rw [hb]
    simp only [Bool.false_eq_true, if_false, Prod.mk.injEq, true_and]
    rw [show k + 1 - a = (k - a) + 1 by omega, List.take_succ_eq_append_getElem (by simp; omega)]
    simp [show a + (k - a) = k by omega]
    rfl
  · omega
theorem fInv_hit {s : ByteArray} {k a : Nat} {L : List (List UInt8)} (h : FInv s k a L) (hk : k < s.size) (hb : blkB s[k] = true) (ha : a < k) : FInv s (k + 1) (k + 1) (L ++ [(s.data.toList.drop a).take (k - a)]) := by
  rcases h with ⟨h1, h2, h3⟩ | ⟨h1, _⟩
  · refine .inl ⟨hk, by omega, ?_⟩
    rw [fat_succ s k hk, h3]
    unfold fstep
    have hw := word_nil s.data.toList a k h2 (by simp; omega)
    rw [hb, if_pos rfl, if_neg (by simp only []; rw [hw]; omega)]
    simp
  · omega
theorem fInv_skip {s : ByteArray} {k a : Nat} {L : List (List UInt8)} (h : FInv s k a L) (hk : k < s.size) (hb : blkB s[k] = true) (ha : ¬ a < k) : FInv s (k + 1) (k + 1) L := by
  rcases h with ⟨h1, h2, h3⟩ | ⟨h1, _⟩
  · refine .inl ⟨hk, by omega, ?_⟩
    rw [fat_succ s k hk, h3]
    unfold fstep
    have hw := word_nil s.data.toList a k h2 (by simp; omega)
    rw [hb, if_pos rfl, if_pos (by simp only []; rw [hw]; omega)]
    simp
  · omega
theorem fInv_last {s : ByteArray} {a : Nat} {L : List (List UInt8)} (h : FInv s s.size a L) (ha : a < s.size) : FInv s (s.size + 1) (s.size + 1) (L ++ [(s.data.toList.drop a).take (s.size - a)]) := by
  rcases h with ⟨h1, h2, h3⟩ | ⟨h1, _⟩
  · refine .inr ⟨rfl, ?_⟩
    have hw := word_nil s.data.toList a s.size h2 (by simp)
    unfold fieldsL
    rw [show s.data.toList.length = s.size by simp, h3, if_neg (by simp only []; rw [hw]; omega)]
  · omega
theorem fInv_done {s : ByteArray} {a : Nat} {L : List (List UInt8)} (h : FInv s s.size a L) (ha : ¬ a < s.size) : FInv s (s.size + 1) (s.size + 1) L := by
  rcases h with ⟨h1, h2, h3⟩ | ⟨h1, _⟩
  · refine .inr ⟨rfl, ?_⟩
    have hw := word_nil s.data.toList a s.size h2 (by simp)
    unfold fieldsL
    rw [show s.data.toList.length = s.size by simp, h3, if_pos (by simp only []; rw [hw]; omega)]
  · omega
theorem fInv_le {s : ByteArray} {k a : Nat} {L : List (List UInt8)} (h : FInv s k a L) : L.length ≤ s.size ∧ (k ≤ s.size → a ≤ k) := by
  rcases h with ⟨h1, h2, h3⟩ | ⟨h1, rfl⟩
  · have := fat_len s.data.toList k (by simpa using h1)
    rw [h3] at this
    simp only [] at this
    exact ⟨by omega, fun _ => h2⟩
  · have := fieldsL_len s.data.toList
    simp only [Array.length_toList] at this
    exact ⟨this, fun _ => by omega⟩
theorem fInv_end {s : ByteArray} {k a : Nat} {L : List (List UInt8)} (h : FInv s k a L) (hk : s.size < k) : L = fieldsL s.data.toList := by
  rcases h with ⟨h1, _⟩ | ⟨_, h⟩
  · omega
  · exact h
theorem blk_cases (c : UInt8) : (blkB c = true ∧ ((c.toNat : Int) != 32) = false) ∨ (blkB c = true ∧ ((c.toNat : Int) != 32) = true ∧ ((c.toNat : Int) != 9) = false) ∨ (blkB c = false ∧ ((c.toNat : Int) != 32) = true ∧ ((c.toNat : Int) != 9) = true) := by
  by_cases h1 : c.toNat = 32
  · left; simp [blkB, h1]
  · by_cases h2 : c.toNat = 9
    · right; left; simp [blkB, h2]
    · right; right; refine ⟨by simp [blkB, h1, h2], bne_iff_ne.2 (by omega), bne_iff_ne.2 (by omega)⟩
theorem fat_go {s : ByteArray} {k : Nat} {L : List (List UInt8)} {W : List UInt8} (h : fat s.data.toList k = (L, W)) (hk : k < s.size) (hb : blkB s[k] = false) : fat s.data.toList (k + 1) = (L, W ++ [s[k]]) := by
  rw [fat_succ s k hk, h]; simp [fstep, hb]
theorem fat_hit {s : ByteArray} {k : Nat} {L : List (List UInt8)} {W : List UInt8} (h : fat s.data.toList k = (L, W)) (hk : k < s.size) (hb : blkB s[k] = true) (hW : W ≠ []) : fat s.data.toList (k + 1) = (L ++ [W], []) := by
  rw [fat_succ s k hk, h]; simp [fstep, hb, hW]
theorem fat_skip {s : ByteArray} {k : Nat} {L : List (List UInt8)} (h : fat s.data.toList k = (L, [])) (hk : k < s.size) (hb : blkB s[k] = true) : fat s.data.toList (k + 1) = (L, []) := by
  rw [fat_succ s k hk, h]; simp [fstep, hb]
theorem fat_end {s : ByteArray} {k : Nat} {L : List (List UInt8)} {W : List UInt8} (h : fat s.data.toList k = (L, W)) (hk : k = s.size) (hW : W ≠ []) : fieldsL s.data.toList = L ++ [W] := by
  unfold fieldsL; rw [show s.data.toList.length = k by simp [hk], h]; simp [hW]
theorem fat_end0 {s : ByteArray} {k : Nat} {L : List (List UInt8)} (h : fat s.data.toList k = (L, [])) (hk : k = s.size) : fieldsL s.data.toList = L := by
  unfold fieldsL; rw [show s.data.toList.length = k by simp [hk], h]; simp
theorem app_at (s : ByteArray) (W : List UInt8) (k : Nat) (hk : k < s.size) : (⟨W.toArray⟩ : ByteArray) ++ s.extract k (k + 1) = ⟨(W ++ [s[k]]).toArray⟩ := by
  rw [Lib.extract_eq, ByteArray.mk_append_mk]
  congr 3
  rw [show k + 1 - k = 1 by omega, List.drop_eq_getElem_cons (by simpa using hk)]
  rfl
/- joins and cuts -/
def lens (l : List (List UInt8)) : Nat := (l.map List.length).sum
theorem lens_take (l : List (List UInt8)) (k : Nat) (h : k < l.length) : lens (l.take (k + 1)) = lens (l.take k) + (l[k]).length := by
  unfold lens; rw [List.take_succ_eq_append_getElem h, List.map_append, List.sum_append]; simp
def hasB (c : Int) (x : List UInt8) : Bool := x.any fun b => decide ((b.toNat : Int) = c)
theorem hasB_take (c : Int) (x : List UInt8) (k : Nat) (h : k < x.length) (h1 : hasB c (x.take k) = false) (h2 : ((x[k]).toNat : Int) ≠ c) : hasB c (x.take (k + 1)) = false := by
  unfold hasB at h1 ⊢
  rw [List.take_succ_eq_append_getElem h, List.any_append, h1]; simp [h2]
theorem free_take (c : Int) (l : List (List UInt8)) (k : Nat) (h : k < l.length) (h1 : ∀ y ∈ l.take k, hasB c y = false) (h2 : hasB c l[k] = false) : ∀ y ∈ l.take (k + 1), hasB c y = false := by
  rw [List.take_succ_eq_append_getElem h]
  intro y hy
  rcases List.mem_append.1 hy with h3 | h3
  · exact h1 y h3
  · simp at h3; subst h3; exact h2
end Go.Proofs.Ytchjhpipiooibaa
