/- Texts behind a law of this seat, in order: Math11, Math12, Math12b, Math13. -/
import Derived.Test.YthbdeafbdmbabaaGreatDoorPb
import Derived.Lib.ItoaNum
import Derived.Lib.Split
import Derived.Lib.SplitLaws
import Derived.Lib.Strings
import Derived.WalkKit
namespace Go.Proofs.YthbdeafbdmbabaaGreatDoor
open Go.RowKit Go
set_option linter.unusedVariables false
def okD (b : Nat) (c : UInt8) : Bool := hexB c.toNat && decide (hexV c.toNat < b)
def vstep (b : Nat) (n : Nat) (c : UInt8) : Nat := min (n * b + (hexV c.toNat).toNat) 4294967296
def valN (b : Nat) (l : List UInt8) : Nat := l.foldl (vstep b) 0
def valE (b : Nat) (l : List UInt8) : Nat × Bool := if l.all (okD b) then (valN b l, !l.isEmpty) else (0, false)
def numE (l : List UInt8) : Nat × Bool :=
  if Lib.hasPrefix l [48, 120] || Lib.hasPrefix l [48, 88] then valE 16 (l.drop 2) else if Lib.hasPrefix l [48] then valE 8 l else valE 10 l
theorem valN_snoc (b : Nat) (l : List UInt8) (c : UInt8) : valN b (l ++ [c]) = vstep b (valN b l) c := by simp [valN]
theorem valN_le (b : Nat) (l : List UInt8) : valN b l ≤ 4294967296 := by
  rcases List.eq_nil_or_concat l with rfl | ⟨a, c, rfl⟩
  · simp [valN]
  · rw [List.concat_eq_append, valN_snoc]; unfold vstep; omega
theorem valE_le (b : Nat) (l : List UInt8) : (valE b l).1 ≤ 4294967296 := by
  unfold valE
  split
  · exact valN_le b l
  · exact Nat.zero_le _
theorem numE_le (l : List UInt8) : (numE l).1 ≤ 4294967296 := by
  unfold numE
  split
  · exact valE_le _ _
  · split <;> exact valE_le _ _
theorem hexV_bd (c : Int) : 0 ≤ hexV c ∧ hexV c ≤ 15 := by
  unfold hexV
  split
  · omega
  · split
    · omega
    · split <;> omega
def cutN : List UInt8 → Nat → List (List UInt8)
  | l, 0 => [l]
  | [], _ + 1 => [[]]
  | c :: r, k + 1 => if c = 46 then [] :: cutN r k else match cutN r (k + 1) with
    | x :: t => (c :: x) :: t
    | [] => [[c]]
theorem cutN_dot (l r : List UInt8) (k : Nat) (h : (46 : UInt8) ∉ l) : cutN (l ++ 46 :: r) (k + 1) = l :: cutN r k := by
  induction l with
  | nil => simp [cutN]
  | cons c t ih =>
    have h1 : ¬ c = 46 := fun e => h (by rw [e]; simp)
    have h2 : (46 : UInt8) ∉ t := fun e => h (by simp [e])
    rw [List.cons_append, cutN, if_neg h1, ih h2]
theorem cutN_none (l : List UInt8) (k : Nat) (h : (46 : UInt8) ∉ l) : cutN l k = [l] := by
  cases k with
  | zero => cases l <;> rfl
  | succ k =>
    induction l with
    | nil => simp [cutN]
    | cons c t ih =>
      have h1 : ¬ c = 46 := fun e => h (by rw [e]; simp)
      have h2 : (46 : UInt8) ∉ t := fun e => h (by simp [e])
      rw [cutN, if_neg h1, ih h2]
theorem cutN_zero (l : List UInt8) : cutN l 0 = [l] := by cases l <;> rfl
theorem split_cutN : ∀ (k : Nat) (l : List UInt8), Lib.splitK [46] 0 k l = cutN l k := by
  intro k
  induction k with
  | zero => intro l; rw [cutN_zero]; rfl
  | succ k ih =>
    intro l
    have hi := Lib.index_one l 46
    by_cases hm : (46 : UInt8) ∈ l
    · obtain ⟨a, b, rfl, ha⟩ := List.eq_append_cons_of_mem hm
      have hix : Lib.index (a ++ 46 :: b) [46] = a.length := by
        rw [hi]
        rcases Int.lt_or_le (Lib.indexByte (a ++ 46 :: b) 46) 0 with h1 | h1
        · have h2 := Lib.indexByte_ge (a ++ 46 :: b) 46
          exact absurd (by simp) (Lib.indexByte_none (l := a ++ 46 :: b) (c := 46) (by omega) a.length)
        · obtain ⟨k, hk⟩ : ∃ k : Nat, Lib.indexByte (a ++ 46 :: b) 46 = k := ⟨_, (Int.toNat_of_nonneg h1).symm⟩
          obtain ⟨h2, h3⟩ := Lib.indexByte_some hk
          rw [hk]
          rcases Nat.lt_trichotomy k a.length with h4 | h4 | h4
          · rw [List.getElem?_append_left h4] at h2
            exact absurd (List.mem_of_getElem? h2) ha
          · rw [h4]
          · exact absurd (by simp) (h3 a.length h4)
      rw [Lib.splitK, hix]
      have hq : ((a.length : Int) == -1) = false := by simp
      rw [hq, cutN_dot a b k ha, ← ih b]
      simp
    · have hix : Lib.index l [46] = -1 := by
        rw [hi]
        rcases Int.lt_or_le (Lib.indexByte l 46) 0 with h1 | h1
        · have h2 := Lib.indexByte_ge l 46
          omega
        · obtain ⟨k, hk⟩ : ∃ k : Nat, Lib.indexByte l 46 = k := ⟨_, (Int.toNat_of_nonneg h1).symm⟩
          exact absurd (List.mem_of_getElem? (Lib.indexByte_some hk).1) hm
      rw [Lib.splitK, hix, cutN_none l _ hm]
      simp
theorem cutN_len (l : List UInt8) (k : Nat) : (cutN l k).length ≤ k + 1 := by
  rw [← split_cutN]
  induction k generalizing l with
  | zero => simp [Lib.splitK]
  | succ k ih =>
    rw [Lib.splitK]
    split
    · simp
    · rw [List.length_cons]
      exact Nat.succ_le_succ (ih _)
theorem cutN_ne (l : List UInt8) (k : Nat) : cutN l k ≠ [] := by
  rw [← split_cutN]
  cases k with
  | zero => simp [Lib.splitK]
  | succ k => rw [Lib.splitK]; split <;> simp
theorem cutN_mem : ∀ (l : List UInt8) (k : Nat) (x : List UInt8), x ∈ cutN l k → x.length ≤ l.length := by
  intro l
  induction l with
  | nil =>
    intro k x h
    cases k with
    | zero => simp [cutN] at h; subst h; simp
    | succ k => simp [cutN] at h; subst h; simp
  | cons c r ih =>
    intro k x h
    cases k with
    | zero => simp [cutN] at h; subst h; simp
    | succ k =>
      rw [cutN] at h
      split at h
      · rcases List.mem_cons.1 h with rfl | h
        · simp
        · have := ih k x h; simp; omega
      · split at h
        · rename_i y t e
          rcases List.mem_cons.1 h with rfl | h
          · have := ih (k + 1) y (by rw [e]; simp); simp; omega
          · have := ih (k + 1) x (by rw [e]; simp [h]); simp; omega
        · simp at h; subst h; simp
def quad16 (a b c d : UInt8) : List UInt8 := [a, b, c, d, 0, 0, 0, 0, 0, 0, 0, 0, 0, 0, 0, 0]
def zero16 : List UInt8 := [0, 0, 0, 0, 0, 0, 0, 0, 0, 0, 0, 0, 0, 0, 0, 0]
def byN (v k : Nat) : UInt8 := UInt8.ofNat (v / 2 ^ k)
def adrV : List Nat → Nat
  | [v] => v
  | [a, v] => a * 16777216 + v
  | [a, b, v] => a * 16777216 + b * 65536 + v
  | [a, b, c, v] => a * 16777216 + b * 65536 + c * 256 + v
  | _ => 0
def adrB : List Nat → Bool
  | [v] => decide (v < 4294967296)
  | [a, v] => decide (v < 16777216) && decide (a ≤ 255)
  | [a, b, v] => decide (v < 65536) && decide (a ≤ 255) && decide (b ≤ 255)
  | [a, b, c, v] => decide (v < 256) && decide (a ≤ 255) && decide (b ≤ 255) && decide (c ≤ 255)
  | _ => false
def quadN (v : Nat) : List UInt8 := quad16 (byN v 24) (byN v 16) (byN v 8) (byN v 0)
def adrE (l : List Nat) : Option (List UInt8) := if adrB l then some (quadN (adrV l)) else none
structure AdR where
  fam : Int
  ip : List UInt8
  err : Int
def adR (o : Option (List UInt8)) (e : Int) : AdR := match o with
  | some ip => ⟨4, ip, 0⟩
  | none => ⟨0, zero16, e⟩
def looseE (l : List UInt8) : AdR := if (cutN l 3).all (fun p => (numE p).2) then adR (adrE ((cutN l 3).map fun p => (numE p).1)) 4 else adR none 5
def quadT (a b c d : UInt8) : List UInt8 := Lib.decDigits a.toNat ++ 46 :: (Lib.decDigits b.toNat ++ 46 :: (Lib.decDigits c.toNat ++ 46 :: Lib.decDigits d.toNat))
def quadI (ip : List UInt8) : List UInt8 := quadT (ip.getD 0 0) (ip.getD 1 0) (ip.getD 2 0) (ip.getD 3 0)
def parseE (l : List UInt8) : AdR := if (looseE l).err = 0 ∧ quadI (looseE l).ip = l then looseE l else adR none 5
def decX (n : Nat) : List UInt8 := if n < 10 then [UInt8.ofNat (48 + n)] else if n < 100 then [UInt8.ofNat (48 + n / 10), UInt8.ofNat (48 + n % 10)] else [UInt8.ofNat (48 + n / 100), UInt8.ofNat (48 + n / 10 % 10), UInt8.ofNat (48 + n % 10)]
theorem decX_eq (n : Nat) (h : n < 1000) : Lib.decDigits n = decX n := by
  unfold decX
  by_cases h1 : n < 10
  · rw [if_pos h1, Lib.decDigits_one h1]
  · rw [if_neg h1]
    by_cases h2 : n < 100
    · rw [if_pos h2, Lib.decDigits, dif_neg h1, Lib.decDigits_one (by omega)]; rfl
    · rw [if_neg h2, Lib.decDigits, dif_neg h1, Lib.decDigits, dif_neg (by omega), Lib.decDigits_one (by omega), Nat.div_div_eq_div_mul]; rfl
theorem decX_all : ∀ n : Fin 256, numE (decX n.val) = (n.val, true) ∧ (decX n.val).all (fun c => decide (c ≠ 46) && decide (c.toNat < 128)) = true ∧ (decX n.val).length ≤ 3 ∧ 1 ≤ (decX n.val).length := by decide +kernel
theorem dec_byte (c : UInt8) : numE (Lib.decDigits c.toNat) = (c.toNat, true) ∧ (46 : UInt8) ∉ Lib.decDigits c.toNat ∧ (Lib.decDigits c.toNat).length ≤ 3 ∧ 1 ≤ (Lib.decDigits c.toNat).length := by
  have hc : c.toNat < 256 := UInt8.toNat_lt c
  rw [decX_eq c.toNat (by omega)]
  obtain ⟨h1, h2, h3, h4⟩ := decX_all ⟨c.toNat, hc⟩
  refine ⟨h1, fun h => ?_, h3, h4⟩
  have := List.all_eq_true.1 h2 _ h
  simp at this
theorem quadT_len (a b c d : UInt8) : (quadT a b c d).length ≤ 15 ∧ 7 ≤ (quadT a b c d).length := by
  have := dec_byte a; have := dec_byte b; have := dec_byte c; have := dec_byte d
  unfold quadT
  simp only [List.length_append, List.length_cons]
  omega
theorem byN_toNat (v k : Nat) : (byN v k).toNat = v / 2 ^ k % 256 := by
  unfold byN
  simp
theorem quadN_bytes (a b c d : UInt8) : quadN (a.toNat * 16777216 + b.toNat * 65536 + c.toNat * 256 + d.toNat) = quad16 a b c d := by
  have ha := UInt8.toNat_lt a; have hb := UInt8.toNat_lt b; have hc := UInt8.toNat_lt c; have hd := UInt8.toNat_lt d
  unfold quadN
  have e1 : byN (a.toNat * 16777216 + b.toNat * 65536 + c.toNat * 256 + d.toNat) 24 = a := by apply UInt8.toNat_inj.1; rw [byN_toNat]; omega
  have e2 : byN (a.toNat * 16777216 + b.toNat * 65536 + c.toNat * 256 + d.toNat) 16 = b := by apply UInt8.toNat_inj.1; rw [byN_toNat]; omega
  have e3 : byN (a.toNat * 16777216 + b.toNat * 65536 + c.toNat * 256 + d.toNat) 8 = c := by apply UInt8.toNat_inj.1; rw [byN_toNat]; omega
  have e4 : byN (a.toNat * 16777216 + b.toNat * 65536 + c.toNat * 256 + d.toNat) 0 = d := by apply UInt8.toNat_inj.1; rw [byN_toNat]; omega
  rw [e1, e2, e3, e4]
theorem quadT_loose (a b c d : UInt8) : looseE (quadT a b c d) = ⟨4, quad16 a b c d, 0⟩ := by
  have ha := dec_byte a; have hb := dec_byte b; have hc := dec_byte c; have hd := dec_byte d
  have e : cutN (quadT a b c d) 3 = [Lib.decDigits a.toNat, Lib.decDigits b.toNat, Lib.decDigits c.toNat, Lib.decDigits d.toNat] := by
    unfold quadT
    rw [cutN_dot _ _ _ ha.2.1, cutN_dot _ _ _ hb.2.1, cutN_dot _ _ _ hc.2.1, cutN_zero]
  unfold looseE
  rw [e]
  simp only [List.all_cons, List.all_nil, List.map_cons, List.map_nil, ha.1, hb.1, hc.1, hd.1, Bool.and_true, if_true, adrE, adrB, adrV]
  have := UInt8.toNat_lt a; have := UInt8.toNat_lt b; have := UInt8.toNat_lt c; have := UInt8.toNat_lt d
  rw [if_pos (by simp; omega), quadN_bytes]
  rfl
theorem quadT_parse (a b c d : UInt8) : parseE (quadT a b c d) = ⟨4, quad16 a b c d, 0⟩ := by
  unfold parseE
  rw [quadT_loose, if_pos ⟨rfl, rfl⟩]
theorem valN_step (b : Nat) (s : ByteArray) (k : Nat) (h : k < s.size) : valN b (s.data.toList.take (k + 1)) = vstep b (valN b (s.data.toList.take k)) s[k] := by
  rw [take_snoc s k h, valN_snoc]
theorem val_end (b : Nat) (s : ByteArray) (ha : (s.data.toList.take s.size).all (okD b) = true) : valE b s.data.toList = (valN b (s.data.toList.take s.size), !s.data.toList.isEmpty) := by
  have ht : s.data.toList.take s.size = s.data.toList := List.take_of_length_le (by simp)
  rw [ht] at ha ⊢
  unfold valE
  rw [if_pos ha]
theorem val_bad (b : Nat) (s : ByteArray) (k : Nat) (h : k < s.size) (hb : okD b s[k] = false) : valE b s.data.toList = (0, false) := by
  have hm : s[k] ∈ s.data.toList := by
    have : s.data.toList[k]'(by simpa using h) ∈ s.data.toList := List.getElem_mem _
    exact this
  have : ¬ s.data.toList.all (okD b) = true := fun e => by
    have := List.all_eq_true.1 e _ hm
    rw [hb] at this; simp at this
  unfold valE
  rw [if_neg this]
theorem cutN_big : ∀ (l : List UInt8) (k d : Nat), l.length ≤ k → cutN l k = cutN l (k + d) := by
  intro l
  induction l with
  | nil =>
    intro k d _
    cases k with
    | zero => cases d <;> rfl
    | succ k => rw [show k + 1 + d = (k + d) + 1 by omega]; rfl
  | cons c r ih =>
    intro k d h
    cases k with
    | zero => simp at h
    | succ k =>
      rw [show k + 1 + d = (k + d) + 1 by omega, cutN, cutN]
      have h' : r.length ≤ k := by simpa using h
      rw [ih k d h', ih (k + 1) d (by omega), show k + 1 + d = k + d + 1 by omega]
end Go.Proofs.YthbdeafbdmbabaaGreatDoor
namespace Go.Proofs.YthbdeafbdmbabaaGreatDoor
open Go.RowKit Go
set_option linter.unusedVariables false
def cutX (x : UInt8) : List UInt8 → List (List UInt8)
  | [] => [[]]
  | c :: r => if c = x then [] :: cutX x r else match cutX x r with
    | p :: t => (c :: p) :: t
    | [] => [[c]]
def cutXN (x : UInt8) : List UInt8 → Nat → List (List UInt8)
  | l, 0 => [l]
  | [], _ + 1 => [[]]
  | c :: r, k + 1 => if c = x then [] :: cutXN x r k else match cutXN x r (k + 1) with
    | p :: t => (c :: p) :: t
    | [] => [[c]]
theorem cutX_ne (x : UInt8) (l : List UInt8) : cutX x l ≠ [] := by
  cases l with
  | nil => simp [cutX]
  | cons c r =>
    rw [cutX]
    split
    · simp
    · split <;> simp
theorem cutX_hit (x : UInt8) (l r : List UInt8) (h : x ∉ l) : cutX x (l ++ x :: r) = l :: cutX x r := by
  induction l with
  | nil => simp [cutX]
  | cons c t ih =>
    have h1 : ¬ c = x := fun e => h (by rw [e]; simp)
    have h2 : x ∉ t := fun e => h (by simp [e])
    rw [List.cons_append, cutX, if_neg h1, ih h2]
theorem cutX_none (x : UInt8) (l : List UInt8) (h : x ∉ l) : cutX x l = [l] := by
  induction l with
  | nil => rfl
  | cons c t ih =>
    have h1 : ¬ c = x := fun e => h (by rw [e]; simp)
    have h2 : x ∉ t := fun e => h (by simp [e])
    rw [cutX, if_neg h1, ih h2]
theorem cutXN_zero (x : UInt8) (l : List UInt8) : cutXN x l 0 = [l] := by cases l <;> rfl
theorem cutXN_all (x : UInt8) : ∀ (l : List UInt8) (k : Nat), (cutX x l).length ≤ k + 1 → cutXN x l k = cutX x l := by
  intro l
  induction l with
  | nil => intro k _; cases k <;> rfl
  | cons c r ih =>
    intro k h
    have hne := cutX_ne x r
    by_cases hc : c = x
    · rw [cutX, if_pos hc] at h ⊢
      cases k with
      | zero =>
        exfalso
        have : 0 < (cutX x r).length := List.length_pos_iff.2 hne
        simp only [List.length_cons] at h
        omega
      | succ k =>
        rw [cutXN, if_pos hc, ih k (by simp only [List.length_cons] at h; omega)]
    · rw [cutX, if_neg hc] at h ⊢
      have hl : (cutX x r).length ≤ k + 1 := by
        split at h
        · rename_i p t e
          rw [e]
          simpa using h
        · rename_i e
          exact absurd e hne
      have := ih k hl
      cases k with
      | zero =>
        rw [cutXN_zero] at this ⊢
        rw [← this]
      | succ k => rw [cutXN, if_neg hc, this]
theorem cutXN_over (x : UInt8) : ∀ (l : List UInt8) (k : Nat), k + 1 < (cutX x l).length → ∃ a p, cutXN x l k = a ++ [p] ∧ x ∈ p := by
  intro l
  induction l with
  | nil => intro k h; simp [cutX] at h
  | cons c r ih =>
    intro k h
    have hne := cutX_ne x r
    by_cases hc : c = x
    · rw [cutX, if_pos hc] at h
      cases k with
      | zero => exact ⟨[], c :: r, cutXN_zero _ _, by simp [hc]⟩
      | succ k =>
        obtain ⟨a, p, h1, h2⟩ := ih k (by simp only [List.length_cons] at h; omega)
        exact ⟨[] :: a, p, by rw [cutXN, if_pos hc, h1]; rfl, h2⟩
    · rw [cutX, if_neg hc] at h
      have hl : k + 1 < (cutX x r).length := by
        split at h
        · rename_i p t e
          rw [e]
          simpa using h
        · rename_i e
          exact absurd e hne
      obtain ⟨a, p, h1, h2⟩ := ih k hl
      cases k with
      | zero =>
        rw [cutXN_zero] at h1
        refine ⟨[], c :: r, cutXN_zero _ _, ?_⟩
        have : r = p := by
          cases a with
          | nil => simpa using h1
          | cons y t => simp at h1
        rw [this]
        simp [h2]
      | succ k =>
        cases a with
        | nil => exact ⟨[], c :: p, by rw [cutXN, if_neg hc, h1]; rfl, by simp [h2]⟩
        | cons y t => exact ⟨(c :: y) :: t, p, by rw [cutXN, if_neg hc, h1]; rfl, h2⟩
theorem cutXN_hit (x : UInt8) (l r : List UInt8) (k : Nat) (h : x ∉ l) : cutXN x (l ++ x :: r) (k + 1) = l :: cutXN x r k := by
  induction l with
  | nil => simp [cutXN]
  | cons c t ih =>
    have h1 : ¬ c = x := fun e => h (by rw [e]; simp)
    have h2 : x ∉ t := fun e => h (by simp [e])
    rw [List.cons_append, cutXN, if_neg h1, ih h2]
theorem cutXN_none (x : UInt8) (l : List UInt8) (k : Nat) (h : x ∉ l) : cutXN x l k = [l] := by
  cases k with
  | zero => exact cutXN_zero x l
  | succ k =>
    induction l with
    | nil => rfl
    | cons c t ih =>
      have h1 : ¬ c = x := fun e => h (by rw [e]; simp)
      have h2 : x ∉ t := fun e => h (by simp [e])
      rw [cutXN, if_neg h1, ih h2]
theorem index_hitX (x : UInt8) (a b : List UInt8) (ha : x ∉ a) : Lib.index (a ++ x :: b) [x] = a.length := by
  rw [Lib.index_one (a ++ x :: b) x]
  rcases Int.lt_or_le (Lib.indexByte (a ++ x :: b) x) 0 with h1 | h1
  · have h2 := Lib.indexByte_ge (a ++ x :: b) x
    exact absurd (by simp) (Lib.indexByte_none (l := a ++ x :: b) (c := x) (by omega) a.length)
  · obtain ⟨k, hk⟩ : ∃ k : Nat, Lib.indexByte (a ++ x :: b) x = k := ⟨_, (Int.toNat_of_nonneg h1).symm⟩
    obtain ⟨h2, h3⟩ := Lib.indexByte_some hk
    rw [hk]
    rcases Nat.lt_trichotomy k a.length with h4 | h4 | h4
    · rw [List.getElem?_append_left h4] at h2
      exact absurd (List.mem_of_getElem? h2) ha
    · rw [h4]
    · exact absurd (by simp) (h3 a.length h4)
theorem index_noneX (x : UInt8) (l : List UInt8) (hm : x ∉ l) : Lib.index l [x] = -1 := by
  rw [Lib.index_one l x]
  rcases Int.lt_or_le (Lib.indexByte l x) 0 with h1 | h1
  · have h2 := Lib.indexByte_ge l x
    omega
  · obtain ⟨k, hk⟩ : ∃ k : Nat, Lib.indexByte l x = k := ⟨_, (Int.toNat_of_nonneg h1).symm⟩
    exact absurd (List.mem_of_getElem? (Lib.indexByte_some hk).1) hm
theorem split_cutXN (x : UInt8) : ∀ (k : Nat) (l : List UInt8), Lib.splitK [x] 0 k l = cutXN x l k := by
  intro k
  induction k with
  | zero => intro l; rw [cutXN_zero]; rfl
  | succ k ih =>
    intro l
    by_cases hm : x ∈ l
    · obtain ⟨a, b, rfl, ha⟩ := List.eq_append_cons_of_mem hm
      rw [Lib.splitK, index_hitX x a b ha]
      have hq : ((a.length : Int) == -1) = false := by simp
      rw [hq, cutXN_hit x a b k ha, ← ih b]
      simp
    · rw [Lib.splitK, index_noneX x l hm, cutXN_none x l _ hm]
      simp
theorem cutXN_big (x : UInt8) : ∀ (l : List UInt8) (k d : Nat), l.length ≤ k → cutXN x l k = cutXN x l (k + d) := by
  intro l
  induction l with
  | nil =>
    intro k d _
    cases k with
    | zero => cases d <;> rfl
    | succ k => rw [show k + 1 + d = (k + d) + 1 by omega]; rfl
  | cons c r ih =>
    intro k d h
    cases k with
    | zero => simp at h
    | succ k =>
      rw [show k + 1 + d = (k + d) + 1 by omega, cutXN, cutXN]
      have h' : r.length ≤ k := by simpa using h
      rw [ih k d h', ih (k + 1) d (by omega), show k + 1 + d = k + d + 1 by omega]
theorem cutXN_mem (x : UInt8) : ∀ (l : List UInt8) (k : Nat) (p : List UInt8), p ∈ cutXN x l k → p.length ≤ l.length := by
  intro l
  induction l with
  | nil =>
    intro k p h
    cases k with
    | zero => simp [cutXN] at h; subst h; simp
    | succ k => simp [cutXN] at h; subst h; simp
  | cons c r ih =>
    intro k p h
    cases k with
    | zero => simp [cutXN] at h; subst h; simp
    | succ k =>
      rw [cutXN] at h
      split at h
      · rcases List.mem_cons.1 h with rfl | h
        · simp
        · have := ih k p h; simp; omega
      · split at h
        · rename_i y t e
          rcases List.mem_cons.1 h with rfl | h
          · have := ih (k + 1) y (by rw [e]; simp); simp; omega
          · have := ih (k + 1) p (by rw [e]; simp [h]); simp; omega
        · simp at h; subst h; simp
theorem cutXN_len (x : UInt8) (l : List UInt8) (k : Nat) : (cutXN x l k).length ≤ k + 1 := by
  rw [← split_cutXN]
  induction k generalizing l with
  | zero => simp [Lib.splitK]
  | succ k ih =>
    rw [Lib.splitK]
    split
    · simp
    · rw [List.length_cons]
      exact Nat.succ_le_succ (ih _)
def joiX (x : UInt8) : List (List UInt8) → List UInt8
  | [] => []
  | [p] => p
  | p :: q :: t => p ++ x :: joiX x (q :: t)
theorem joiX_cons (x : UInt8) (p : List UInt8) (t : List (List UInt8)) (h : t ≠ []) : joiX x (p :: t) = p ++ x :: joiX x t := by
  cases t with
  | nil => exact absurd rfl h
  | cons q t => rfl
theorem cutX_joi (x : UInt8) : ∀ (L : List (List UInt8)), L ≠ [] → (∀ p ∈ L, x ∉ p) → cutX x (joiX x L) = L := by
  intro L
  induction L with
  | nil => intro h; exact absurd rfl h
  | cons p t ih =>
    intro _ h
    have hp := h p (by simp)
    cases t with
    | nil => exact cutX_none x p hp
    | cons q t =>
      rw [joiX_cons x p (q :: t) (by simp), cutX_hit x p _ hp, ih (by simp) (fun y hy => h y (by simp [hy]))]
def hexN (l : List UInt8) : Nat := l.foldl (fun n c => 16 * n + (hexV c.toNat).toNat) 0
def allH (l : List UInt8) : Bool := l.all fun c => hexB c.toNat
def groupE (l : List UInt8) : Option Nat := if l = [] ∨ 4 < l.length ∨ allH l = false then none else some (hexN l)
theorem hexN_snoc (l : List UInt8) (c : UInt8) : hexN (l ++ [c]) = 16 * hexN l + (hexV c.toNat).toNat := by simp [hexN]
theorem hexN_fold : ∀ (l : List UInt8) (a : Nat), l.foldl (fun n c => 16 * n + (hexV c.toNat).toNat) a < (a + 1) * 16 ^ l.length := by
  intro l
  induction l with
  | nil => intro a; simp
  | cons c l ih =>
    intro a
    have h1 := ih (16 * a + (hexV c.toNat).toNat)
    have h2 := hexV_bd c.toNat
    rw [List.foldl_cons, List.length_cons, Nat.pow_succ, Nat.mul_comm (16 ^ l.length) 16, ← Nat.mul_assoc]
    exact Nat.lt_of_lt_of_le h1 (Nat.mul_le_mul_right _ (by omega))
theorem hexN_lt (l : List UInt8) : hexN l < 16 ^ l.length := by simpa [hexN] using hexN_fold l 0
theorem groupE_lt {l : List UInt8} {n : Nat} (h : groupE l = some n) : n < 65536 := by
  unfold groupE at h
  split at h
  · cases h
  · rename_i hh
    injection h with h
    have h1 := hexN_lt l
    have h2 : l.length ≤ 4 := by omega
    have : 16 ^ l.length ≤ 16 ^ 4 := Nat.pow_le_pow_right (by decide) h2
    omega
def fourE (l : List UInt8) : Option (List UInt8) := if (parseE l).err = 0 then some ((parseE l).ip.take 4) else none
def grp2 (b : List UInt8) : List Nat := [256 * (b.getD 0 0).toNat + (b.getD 1 0).toNat, 256 * (b.getD 2 0).toNat + (b.getD 3 0).toNat]
def sideP (last : Bool) : List (List UInt8) → Option (List Nat)
  | [] => some []
  | p :: r => match groupE p with
    | some n => (sideP last r).map (n :: ·)
    | none => if last = true ∧ r = [] then (fourE p).map grp2 else none
def sideE (last : Bool) (l : List UInt8) : Option (List Nat) := if l = [] then some [] else sideP last (cutX 58 l)
def sideC (last : Bool) (l : List UInt8) : Option (List Nat) := if l = [] then some [] else sideP last (cutXN 58 l 7)
def bytesG (g : List Nat) : List UInt8 := g.flatMap fun n => [byN n 8, byN n 0]
theorem bytesG_len (g : List Nat) : (bytesG g).length = 2 * g.length := by
  induction g with
  | nil => rfl
  | cons n g ih => rw [bytesG, List.flatMap_cons, List.length_append, List.length_cons]; unfold bytesG at ih; rw [ih]; simp; omega
theorem sideP_len (last : Bool) : ∀ (L : List (List UInt8)) (m : List Nat), sideP last L = some m → L.length ≤ m.length := by
  intro L
  induction L with
  | nil => intro m h; simp
  | cons p r ih =>
    intro m h
    rw [sideP] at h
    split at h
    · obtain ⟨m', h1, rfl⟩ := Option.map_eq_some_iff.1 h
      have := ih m' h1
      simp; omega
    · split at h
      · rename_i hh
        obtain ⟨b, _, rfl⟩ := Option.map_eq_some_iff.1 h
        rw [hh.2]
        simp [grp2]
      · cases h
theorem sideP_lt (last : Bool) : ∀ (L : List (List UInt8)) (m : List Nat), sideP last L = some m → ∀ n ∈ m, n < 65536 := by
  intro L
  induction L with
  | nil => intro m h; rw [sideP] at h; injection h with h; subst h; simp
  | cons p r ih =>
    intro m h
    rw [sideP] at h
    split at h
    · rename_i v hv
      obtain ⟨m', h1, rfl⟩ := Option.map_eq_some_iff.1 h
      intro n hn
      rcases List.mem_cons.1 hn with rfl | hn
      · exact groupE_lt hv
      · exact ih m' h1 n hn
    · split at h
      · obtain ⟨b, _, rfl⟩ := Option.map_eq_some_iff.1 h
        intro n hn
        have := UInt8.toNat_lt (b.getD 0 0)
        have := UInt8.toNat_lt (b.getD 1 0)
        have := UInt8.toNat_lt (b.getD 2 0)
        have := UInt8.toNat_lt (b.getD 3 0)
        simp only [grp2, List.mem_cons, List.not_mem_nil, or_false] at hn
        rcases hn with rfl | rfl <;> omega
      · cases h
theorem parseE_quad (l : List UInt8) (h : (parseE l).err = 0) : ∃ a b c d, l = quadT a b c d ∧ parseE l = ⟨4, quad16 a b c d, 0⟩ := by
  have hq : (looseE l).err = 0 ∧ quadI (looseE l).ip = l := by
    by_cases hc : (looseE l).err = 0 ∧ quadI (looseE l).ip = l
    · exact hc
    · unfold parseE at h
      rw [if_neg hc] at h
      exact absurd h (by decide)
  have hl : l = quadT ((looseE l).ip.getD 0 0) ((looseE l).ip.getD 1 0) ((looseE l).ip.getD 2 0) ((looseE l).ip.getD 3 0) := hq.2.symm
  refine ⟨_, _, _, _, hl, ?_⟩
  have := quadT_parse ((looseE l).ip.getD 0 0) ((looseE l).ip.getD 1 0) ((looseE l).ip.getD 2 0) ((looseE l).ip.getD 3 0)
  rw [← hl] at this
  exact this
theorem parseE_not (l : List UInt8) (h : ∀ a b c d, l ≠ quadT a b c d) : parseE l = ⟨0, zero16, 5⟩ := by
  unfold parseE
  rw [if_neg]
  · rfl
  · rintro ⟨_, h2⟩
    exact h _ _ _ _ h2.symm
theorem quadT_chars (a b c d x : UInt8) (h : x ∈ quadT a b c d) : digB x = true ∨ x = 46 := by
  have key : ∀ (y : UInt8), ∀ z ∈ Lib.decDigits y.toNat, digB z = true := by
    intro y z hz
    rw [decX_eq _ (by have := UInt8.toNat_lt y; omega)] at hz
    have hall : ∀ n : Fin 256, (decX n.val).all digB = true := by decide +kernel
    exact List.all_eq_true.1 (hall ⟨y.toNat, UInt8.toNat_lt y⟩) z hz
  unfold quadT at h
  simp only [List.mem_append, List.mem_cons] at h
  rcases h with h | rfl | h | rfl | h | rfl | h
  · exact .inl (key a x h)
  · exact .inr rfl
  · exact .inl (key b x h)
  · exact .inr rfl
  · exact .inl (key c x h)
  · exact .inr rfl
  · exact .inl (key d x h)
theorem group_colon (p : List UInt8) (h : (58 : UInt8) ∈ p) : groupE p = none := by
  unfold groupE
  rw [if_pos]
  refine .inr (.inr ?_)
  unfold allH
  rw [List.all_eq_false]
  exact ⟨58, h, by decide⟩
theorem four_colon (p : List UInt8) (h : (58 : UInt8) ∈ p) : fourE p = none := by
  unfold fourE
  rw [if_neg]
  intro he
  obtain ⟨a, b, c, d, hl, _⟩ := parseE_quad p he
  rw [hl] at h
  rcases quadT_chars a b c d 58 h with h | h
  · revert h; decide
  · revert h; decide
theorem sideP_colon (last : Bool) (a : List (List UInt8)) (p : List UInt8) (h : (58 : UInt8) ∈ p) : sideP last (a ++ [p]) = none := by
  induction a with
  | nil =>
    rw [List.nil_append, sideP, group_colon p h]
    simp [four_colon p h]
  | cons q a ih =>
    rw [List.cons_append, sideP, ih]
    split
    · rfl
    · rw [if_neg]
      simp
/-- pieces beyond eight: none by the one way, too many by the other -/
theorem sideC_or (last : Bool) (l : List UInt8) : sideC last l = sideE last l ∨ (sideC last l = none ∧ ∀ m, sideE last l = some m → 8 < m.length) := by
  unfold sideC sideE
  by_cases h0 : l = []
  · left; rw [if_pos h0, if_pos h0]
  · rw [if_neg h0, if_neg h0]
    by_cases hl : (cutX 58 l).length ≤ 7 + 1
    · left; rw [cutXN_all 58 l 7 hl]
    · right
      obtain ⟨a, p, h1, h2⟩ := cutXN_over 58 l 7 (by omega)
      refine ⟨by rw [h1]; exact sideP_colon last a p h2, fun m hm => ?_⟩
      have := sideP_len last _ m hm
      omega
def noughtsN (n : Nat) : List Nat := List.replicate n 0
def plainE (l : List UInt8) : Option (List Nat) :=
  if Lib.index l [58, 58] = -1 then
    match sideE true l with
    | some m => if m.length = 8 then some m else none
    | none => none
  else
    match sideE false (l.take (Lib.index l [58, 58]).toNat), sideE true (l.drop ((Lib.index l [58, 58]).toNat + 2)) with
    | some x, some y => if x.length + y.length ≤ 7 then some (x ++ noughtsN (8 - x.length - y.length) ++ y) else none
    | _, _ => none
theorem plainE_len {l : List UInt8} {g : List Nat} (h : plainE l = some g) : g.length = 8 := by
  unfold plainE at h
  split at h
  · split at h
    · split at h
      · rename_i h8
        injection h with h
        rw [← h]; exact h8
      · cases h
    · cases h
  · split at h
    · split at h
      · injection h with h
        rw [← h]
        simp [noughtsN]
        omega
      · cases h
    · cases h
theorem plainE_lt {l : List UInt8} {g : List Nat} (h : plainE l = some g) : ∀ n ∈ g, n < 65536 := by
  have key : ∀ last l m, sideE last l = some m → ∀ n ∈ m, n < 65536 := by
    intro last l m h
    unfold sideE at h
    split at h
    · injection h with h; subst h; simp
    · exact sideP_lt last _ m h
  unfold plainE at h
  split at h
  · split at h
    · rename_i m hm
      split at h
      · injection h with h
        subst h
        exact key _ _ _ hm
      · cases h
    · cases h
  · split at h
    · rename_i x y hx hy
      split at h
      · injection h with h
        subst h
        intro n hn
        simp only [List.mem_append] at hn
        rcases hn with (hn | hn) | hn
        · exact key _ _ _ hx n hn
        · simp [noughtsN] at hn; omega
        · exact key _ _ _ hy n hn
      · cases h
    · cases h
end Go.Proofs.YthbdeafbdmbabaaGreatDoor
namespace Go.Proofs.YthbdeafbdmbabaaGreatDoor
open Go.RowKit Go
set_option linter.unusedVariables false
def octE (l : List UInt8) : Option (List UInt8) := (plainE l).map bytesG
theorem bytesG_app (a b : List Nat) : bytesG (a ++ b) = bytesG a ++ bytesG b := by simp [bytesG]
theorem bytesG_noughts (n : Nat) : bytesG (noughtsN n) = List.replicate (2 * n) 0 := by
  induction n with
  | zero => rfl
  | succ n ih =>
    have h1 : noughtsN (n + 1) = 0 :: noughtsN n := rfl
    have h2 : bytesG (0 :: noughtsN n) = [byN 0 8, byN 0 0] ++ bytesG (noughtsN n) := rfl
    rw [h1, h2, ih, show 2 * (n + 1) = 2 * n + 1 + 1 by omega]
    rfl
/-- what the program's way of two halves comes to -/
def octM (x y : Option (List Nat)) : Option (List UInt8) := match x, y with
  | some x, some y => if x.length + y.length ≤ 7 then some (bytesG x ++ List.replicate (16 - 2 * x.length - 2 * y.length) 0 ++ bytesG y) else none
  | _, _ => none
def octW (y : Option (List Nat)) : Option (List UInt8) := match y with
  | some y => if y.length = 8 then some (bytesG y) else none
  | none => none
theorem oct_gap (l : List UInt8) (i : Nat) (h : Lib.index l [58, 58] = i) : octE l = octM (sideC false (l.take i)) (sideC true (l.drop (i + 2))) := by
  have e : octE l = octM (sideE false (l.take i)) (sideE true (l.drop (i + 2))) := by
    unfold octE plainE octM
    rw [h, if_neg (by omega), Int.toNat_natCast]
    cases sideE false (l.take i) with
    | none => rfl
    | some x =>
      cases sideE true (l.drop (i + 2)) with
      | none => rfl
      | some y =>
        by_cases h7 : x.length + y.length ≤ 7
        · simp only [if_pos h7, Option.map_some, bytesG_app, bytesG_noughts]
          rw [show 2 * (8 - x.length - y.length) = 16 - 2 * x.length - 2 * y.length by omega]
        · simp only [if_neg h7, Option.map_none]
  rw [e]
  have n1 : ∀ (x y : Option (List Nat)), (∀ m, x = some m → 8 < m.length) → octM x y = none := by
    intro x y hx
    cases x with
    | none => rfl
    | some m =>
      cases y with
      | none => rfl
      | some y => have := hx m rfl; unfold octM; simp only; rw [if_neg (by omega)]
  have n2 : ∀ (x y : Option (List Nat)), (∀ m, y = some m → 8 < m.length) → octM x y = none := by
    intro x y hy
    cases x with
    | none => rfl
    | some m =>
      cases y with
      | none => rfl
      | some y => have := hy y rfl; unfold octM; simp only; rw [if_neg (by omega)]
  rcases sideC_or false (l.take i) with h1 | ⟨h1, h1'⟩
  · rcases sideC_or true (l.drop (i + 2)) with h2 | ⟨h2, h2'⟩
    · rw [h1, h2]
    · rw [h2, n2 _ _ h2', n2 _ none (fun m hm => by cases hm)]
  · rw [h1, n1 _ _ h1', n1 none _ (fun m hm => by cases hm)]
theorem oct_whole (l : List UInt8) (h : Lib.index l [58, 58] = -1) : octE l = octW (sideC true l) := by
  have e : octE l = octW (sideE true l) := by
    unfold octE plainE octW
    rw [h, if_pos rfl]
    cases sideE true l with
    | none => rfl
    | some m =>
      by_cases h8 : m.length = 8
      · simp only [if_pos h8, Option.map_some]
      · simp only [if_neg h8, Option.map_none]
  rw [e]
  rcases sideC_or true l with h1 | ⟨h1, h1'⟩
  · rw [h1]
  · rw [h1]
    cases hs : sideE true l with
    | none => rfl
    | some m =>
      have := h1' m hs
      unfold octW
      simp only
      rw [if_neg (by omega)]
def hexC (d : Nat) : UInt8 := if d < 10 then UInt8.ofNat (48 + d) else UInt8.ofNat (87 + d)
def hexL (n : Nat) : List UInt8 := if n < 16 then [hexC n] else hexL (n / 16) ++ [hexC (n % 16)]
termination_by n
theorem hexL_lo {n : Nat} (h : n < 16) : hexL n = [hexC n] := by rw [hexL, if_pos h]
theorem hexL_hi {n : Nat} (h : ¬ n < 16) : hexL n = hexL (n / 16) ++ [hexC (n % 16)] := by rw [hexL, if_neg h]
theorem hexC_all : ∀ d : Fin 16, hexB (hexC d.val).toNat = true ∧ hexV (hexC d.val).toNat = d.val ∧ hexC d.val ≠ 58 ∧ hexC d.val ≠ 46 ∧ hexC d.val ≠ 37 := by decide +kernel
theorem hexC_at {d : Nat} (h : d < 16) : hexB (hexC d).toNat = true ∧ hexV (hexC d).toNat = d ∧ hexC d ≠ 58 ∧ hexC d ≠ 46 ∧ hexC d ≠ 37 := hexC_all ⟨d, h⟩
theorem hexL_all : ∀ (n : Nat), allH (hexL n) = true ∧ hexN (hexL n) = n ∧ (hexL n ≠ []) ∧ (58 : UInt8) ∉ hexL n ∧ (46 : UInt8) ∉ hexL n ∧ (37 : UInt8) ∉ hexL n := by
  intro n
  induction n using Nat.strongRecOn with
  | _ n ih =>
    by_cases h : n < 16
    · rw [hexL_lo h]
      obtain ⟨h1, h2, h3, h4, h5⟩ := hexC_at h
      refine ⟨by simp [allH, h1], by simp [hexN, h2], by simp, ?_, ?_, ?_⟩
      · simpa using Ne.symm h3
      · simpa using Ne.symm h4
      · simpa using Ne.symm h5
    · obtain ⟨a1, a2, a3, a4, a5, a6⟩ := ih (n / 16) (by omega)
      obtain ⟨h1, h2, h3, h4, h5⟩ := hexC_at (show n % 16 < 16 by omega)
      rw [hexL_hi h]
      refine ⟨?_, ?_, by simp, ?_, ?_, ?_⟩
      · unfold allH at a1 ⊢; rw [List.all_append, a1]; simp [h1]
      · rw [hexN_snoc, a2, h2]; omega
      · simp only [List.mem_append, List.mem_singleton, not_or]; exact ⟨a4, Ne.symm h3⟩
      · simp only [List.mem_append, List.mem_singleton, not_or]; exact ⟨a5, Ne.symm h4⟩
      · simp only [List.mem_append, List.mem_singleton, not_or]; exact ⟨a6, Ne.symm h5⟩
theorem hexL_len4 {n : Nat} (h : n < 65536) : (hexL n).length ≤ 4 := by
  by_cases h1 : n < 16
  · rw [hexL_lo h1]; simp
  · by_cases h2 : n / 16 < 16
    · rw [hexL_hi h1, hexL_lo h2]; simp
    · by_cases h3 : n / 16 / 16 < 16
      · rw [hexL_hi h1, hexL_hi h2, hexL_lo h3]; simp
      · rw [hexL_hi h1, hexL_hi h2, hexL_hi h3, hexL_lo (by omega)]; simp
def hexs (g : List Nat) : List (List UInt8) := g.map hexL
def noCC : List UInt8 → Bool
  | [] => true
  | [c] => decide (c ≠ 58)
  | c :: d :: r => (decide (c ≠ 58) || decide (d ≠ 58)) && noCC (d :: r)
theorem pre_no (c d : UInt8) (r : List UInt8) (h : c ≠ 58 ∨ d ≠ 58) : List.isPrefixOf [58, 58] (c :: d :: r) = false := by
  rcases h with h | h
  · simp [List.isPrefixOf, Ne.symm h]
  · simp [List.isPrefixOf, Ne.symm h]
theorem index_noCC : ∀ (l : List UInt8), noCC l = true → Lib.index l [58, 58] = -1 := by
  intro l
  induction l with
  | nil => intro _; rfl
  | cons c l ih =>
    intro h
    cases l with
    | nil =>
      rw [Lib.index]
      simp [List.isPrefixOf, Lib.index]
    | cons d r =>
      rw [noCC, Bool.and_eq_true] at h
      have h1 : c ≠ 58 ∨ d ≠ 58 := by simpa using h.1
      rw [Lib.index, pre_no c d r h1, ih h.2]
      rfl
theorem noCC_plain (p : List UInt8) (h : (58 : UInt8) ∉ p) : noCC p = true := by
  induction p with
  | nil => rfl
  | cons c p ih =>
    have h1 : c ≠ 58 := fun e => h (by rw [e]; simp)
    have h2 := ih (fun e => h (by simp [e]))
    cases p with
    | nil => simp [noCC, h1]
    | cons d r => rw [noCC, h2]; simp [h1]
theorem noCC_join (p x : List UInt8) (h : (58 : UInt8) ∉ p) (hp : p ≠ []) (hx : noCC x = true) (h0 : ∃ c t, x = c :: t ∧ c ≠ 58) : noCC (p ++ 58 :: x) = true := by
  induction p with
  | nil => exact absurd rfl hp
  | cons c p ih =>
    have h1 : c ≠ 58 := fun e => h (by rw [e]; simp)
    have hr : (58 : UInt8) ∉ p := fun e => h (by simp [e])
    cases p with
    | nil =>
      obtain ⟨d, t, rfl, hd⟩ := h0
      rw [List.cons_append, List.nil_append, noCC, noCC, hx]
      simp [h1, hd]
    | cons d r =>
      have := ih hr (by simp)
      rw [List.cons_append, List.cons_append, noCC, ← List.cons_append, this]
      simp [h1]
theorem joiX_head (L : List (List UInt8)) (h : ∀ p ∈ L, (58 : UInt8) ∉ p) (h' : ∀ p ∈ L, p ≠ []) (hL : L ≠ []) : ∃ c t, joiX 58 L = c :: t ∧ c ≠ 58 := by
  cases L with
  | nil => exact absurd rfl hL
  | cons p t =>
    have hp := h p (by simp)
    have hn := h' p (by simp)
    cases p with
    | nil => exact absurd rfl hn
    | cons c r =>
      have hc : c ≠ 58 := fun e => hp (by rw [e]; simp)
      cases t with
      | nil => exact ⟨c, r, rfl, hc⟩
      | cons q t => exact ⟨c, _, rfl, hc⟩
theorem joiX_noCC (L : List (List UInt8)) (h : ∀ p ∈ L, (58 : UInt8) ∉ p) (h' : ∀ p ∈ L, p ≠ []) : noCC (joiX 58 L) = true := by
  induction L with
  | nil => rfl
  | cons p t ih =>
    have hp := h p (by simp)
    have hn := h' p (by simp)
    have ht := ih (fun q hq => h q (by simp [hq])) (fun q hq => h' q (by simp [hq]))
    cases t with
    | nil => exact noCC_plain p hp
    | cons q t =>
      rw [joiX_cons 58 p (q :: t) (by simp)]
      exact noCC_join p _ hp hn ht (joiX_head (q :: t) (fun z hz => h z (by simp [hz])) (fun z hz => h' z (by simp [hz])) (by simp))
def nouS (st : Nat × Nat × Nat) (i : Nat) (z : Bool) : Nat × Nat × Nat :=
  if z = false then (st.1, st.2.1, 0) else if st.2.1 < st.2.2 + 1 then (i + 1 - (st.2.2 + 1), st.2.2 + 1, st.2.2 + 1) else (st.1, st.2.1, st.2.2 + 1)
def nouK (z : List Bool) : Nat → Nat × Nat × Nat
  | 0 => (0, 0, 0)
  | k + 1 => nouS (nouK z k) k (z.getD k false)
def nouE (z : List Bool) : Nat × Nat := ((nouK z 8).1, (nouK z 8).2.1)
def allZ (z : List Bool) (f n : Nat) : Bool := (List.range n).all fun j => z.getD (f + j) false
def rowF (z : List Bool) (n : Nat) (nx : Nat × Nat) : Nat → Nat × Nat
  | 0 => nx
  | j + 1 => if allZ z (9 - n - (j + 1)) n then (9 - n - (j + 1), n) else rowF z n nx j
def rowN (z : List Bool) : Nat → Nat × Nat
  | 0 => (8, 0)
  | n + 1 => if n + 1 < 2 then (8, 0) else rowF z (n + 1) (rowN z n) (9 - (n + 1))
def rowE (z : List Bool) : Nat × Nat := rowN z 8
def rowOk (z : List Bool) : Bool :=
  decide ((nouE z).1 + (nouE z).2 ≤ 8) && decide (rowE z = if (nouE z).2 < 2 then (8, 0) else nouE z) && allZ z (nouE z).1 (nouE z).2
theorem row_all : ∀ b0 b1 b2 b3 b4 b5 b6 b7 : Bool, rowOk [b0, b1, b2, b3, b4, b5, b6, b7] = true := by decide +kernel
theorem row_ok (z : List Bool) (h : z.length = 8) : (nouE z).1 + (nouE z).2 ≤ 8 ∧ (rowE z = if (nouE z).2 < 2 then (8, 0) else nouE z) ∧ ∀ j, j < (nouE z).2 → z.getD ((nouE z).1 + j) false = true := by
  obtain ⟨b0, b1, b2, b3, b4, b5, b6, b7, rfl⟩ : ∃ b0 b1 b2 b3 b4 b5 b6 b7, z = [b0, b1, b2, b3, b4, b5, b6, b7] := by
    match z, h with
    | [b0, b1, b2, b3, b4, b5, b6, b7], _ => exact ⟨b0, b1, b2, b3, b4, b5, b6, b7, rfl⟩
  have := row_all b0 b1 b2 b3 b4 b5 b6 b7
  unfold rowOk at this
  rw [Bool.and_eq_true, Bool.and_eq_true, decide_eq_true_eq, decide_eq_true_eq] at this
  refine ⟨this.1.1, this.1.2, fun j hj => ?_⟩
  have h2 := this.2
  unfold allZ at h2
  exact List.all_eq_true.1 h2 j (List.mem_range.2 hj)
def zsG (g : List Nat) : List Bool := g.map fun n => n == 0
def coreE (g : List Nat) : List UInt8 :=
  if (nouE (zsG g)).2 < 2 then joiX 58 (hexs g) else joiX 58 (hexs (g.take (nouE (zsG g)).1)) ++ 58 :: 58 :: joiX 58 (hexs (g.drop ((nouE (zsG g)).1 + (nouE (zsG g)).2)))
def mapB (g : List Nat) : Bool := (g.take 5).all (· == 0) && g.getD 5 0 == 65535
def mapT (a b c d : UInt8) : List UInt8 := 58 :: 58 :: 102 :: 102 :: 102 :: 102 :: 58 :: quadT a b c d
def groupsG (ip : List UInt8) : List Nat := (List.range 8).map fun i => 256 * (ip.getD (2 * i) 0).toNat + (ip.getD (2 * i + 1) 0).toNat
theorem groupsG_len (ip : List UInt8) : (groupsG ip).length = 8 := by simp [groupsG]
theorem groupsG_lt (ip : List UInt8) : ∀ n ∈ groupsG ip, n < 65536 := by
  intro n hn
  obtain ⟨i, _, rfl⟩ := List.mem_map.1 hn
  have := UInt8.toNat_lt (ip.getD (2 * i) 0)
  have := UInt8.toNat_lt (ip.getD (2 * i + 1) 0)
  omega
theorem byN_hi (a b : UInt8) : byN (256 * a.toNat + b.toNat) 8 = a := by
  apply UInt8.toNat_inj.1
  rw [byN_toNat]
  have := UInt8.toNat_lt a
  have := UInt8.toNat_lt b
  omega
theorem byN_lo (a b : UInt8) : byN (256 * a.toNat + b.toNat) 0 = b := by
  apply UInt8.toNat_inj.1
  rw [byN_toNat]
  have := UInt8.toNat_lt b
  omega
theorem bytesG_groups (ip : List UInt8) (h : ip.length = 16) : bytesG (groupsG ip) = ip := by
  match ip, h with
  | [a0, a1, a2, a3, a4, a5, a6, a7, a8, a9, a10, a11, a12, a13, a14, a15], _ =>
    have e : groupsG [a0, a1, a2, a3, a4, a5, a6, a7, a8, a9, a10, a11, a12, a13, a14, a15] = [256 * a0.toNat + a1.toNat, 256 * a2.toNat + a3.toNat, 256 * a4.toNat + a5.toNat, 256 * a6.toNat + a7.toNat, 256 * a8.toNat + a9.toNat, 256 * a10.toNat + a11.toNat, 256 * a12.toNat + a13.toNat, 256 * a14.toNat + a15.toNat] := rfl
    rw [e]
    simp [bytesG, byN_hi, byN_lo]
def addrE (ip : List UInt8) : List UInt8 := if mapB (groupsG ip) = true then mapT (ip.getD 12 0) (ip.getD 13 0) (ip.getD 14 0) (ip.getD 15 0) else coreE (groupsG ip)
theorem joiX_mem (x y : UInt8) : ∀ (L : List (List UInt8)), y ∈ joiX x L → y = x ∨ ∃ p ∈ L, y ∈ p := by
  intro L
  induction L with
  | nil => intro h; simp [joiX] at h
  | cons p t ih =>
    intro h
    cases t with
    | nil => exact .inr ⟨p, by simp, h⟩
    | cons q t =>
      rw [joiX_cons x p (q :: t) (by simp), List.mem_append, List.mem_cons] at h
      rcases h with h | rfl | h
      · exact .inr ⟨p, by simp, h⟩
      · exact .inl rfl
      · rcases ih h with h | ⟨z, h1, h2⟩
        · exact .inl h
        · exact .inr ⟨z, by simp [List.mem_cons.1 h1], h2⟩
theorem joiX_len (x : UInt8) (b : Nat) : ∀ (L : List (List UInt8)), (∀ p ∈ L, p.length ≤ b) → (joiX x L).length ≤ (b + 1) * L.length := by
  intro L
  induction L with
  | nil => intro _; simp [joiX]
  | cons p t ih =>
    intro h
    have hp := h p (by simp)
    have ht := ih (fun q hq => h q (by simp [hq]))
    cases t with
    | nil => show p.length ≤ _; simp; omega
    | cons q t =>
      rw [joiX_cons x p (q :: t) (by simp), List.length_append, List.length_cons]
      rw [List.length_cons (a := p), Nat.mul_add]
      omega
theorem hexs_len (g : List Nat) (h : ∀ n ∈ g, n < 65536) : (joiX 58 (hexs g)).length ≤ 5 * g.length := by
  have := joiX_len 58 4 (hexs g) (fun p hp => by obtain ⟨n, hn, rfl⟩ := List.mem_map.1 hp; exact hexL_len4 (h n hn))
  simpa [hexs] using this
theorem addr_len (ip : List UInt8) : (addrE ip).length ≤ 100 := by
  unfold addrE
  split
  · have := (quadT_len (ip.getD 12 0) (ip.getD 13 0) (ip.getD 14 0) (ip.getD 15 0)).1
    unfold mapT
    simp only [List.length_cons]
    omega
  · have hl := groupsG_lt ip
    have hlen := groupsG_len ip
    unfold coreE
    split
    · have := hexs_len (groupsG ip) hl
      omega
    · have h1 := hexs_len ((groupsG ip).take (nouE (zsG (groupsG ip))).1) (fun n hn => hl n (List.mem_of_mem_take hn))
      have h2 := hexs_len ((groupsG ip).drop ((nouE (zsG (groupsG ip))).1 + (nouE (zsG (groupsG ip))).2)) (fun n hn => hl n (List.mem_of_mem_drop hn))
      rw [List.length_take] at h1
      rw [List.length_drop] at h2
      rw [List.length_append, List.length_cons, List.length_cons]
      omega
end Go.Proofs.YthbdeafbdmbabaaGreatDoor
namespace Go.Proofs.YthbdeafbdmbabaaGreatDoor
open Go.RowKit Go
set_option linter.unusedVariables false
def lz8 (n : Nat) : Nat := if 128 ≤ n then 0 else if 64 ≤ n then 1 else if 32 ≤ n then 2 else if 16 ≤ n then 3 else if 8 ≤ n then 4 else if 4 ≤ n then 5 else if 2 ≤ n then 6 else if 1 ≤ n then 7 else 8
def comL : List UInt8 → List UInt8 → Nat
  | x :: xs, y :: ys => if x = y then 8 + comL xs ys else lz8 (x ^^^ y).toNat
  | _, _ => 0
def bitsF (f : Int) : Nat := if f = 4 then 32 else if f = 6 then 128 else 0
def comE (f g : Int) (a b : List UInt8) : Nat := if f = g then comL (a.take (bitsF f / 8)) (b.take (bitsF f / 8)) else 0
def bitN (ip : List UInt8) (i : Nat) : Nat := (ip.getD (i / 8) 0).toNat / 2 ^ (7 - i % 8) % 2
def comR (N : Nat) (a b : List UInt8) (n : Nat) : Nat := if n < N ∧ bitN a n = bitN b n then comR N a b (n + 1) else n
termination_by N - n
theorem comR_upto (N : Nat) (a b : List UInt8) (c : Nat) : ∀ (d n : Nat), d = c - n → n ≤ c → c ≤ N → (∀ j, n ≤ j → j < c → bitN a j = bitN b j) → (c = N ∨ bitN a c ≠ bitN b c) → comR N a b n = c := by
  intro d
  induction d with
  | zero =>
    intro n h1 h2 h3 h4 h5
    obtain rfl : n = c := by omega
    rw [comR, if_neg]
    rintro ⟨h6, h7⟩
    rcases h5 with h5 | h5
    · omega
    · exact h5 h7
  | succ d ih =>
    intro n h1 h2 h3 h4 h5
    rw [comR, if_pos ⟨by omega, h4 n (Nat.le_refl _) (by omega)⟩]
    exact ih (n + 1) (by omega) (by omega) h3 (fun j h6 h7 => h4 j (by omega) h7) h5
theorem lz8_all : ∀ z : Fin 256, z.val ≠ 0 → lz8 z.val < 8 ∧ (∀ j : Fin 8, j.val < lz8 z.val → z.val.testBit (7 - j.val) = false) ∧ z.val.testBit (7 - lz8 z.val) = true := by decide +kernel
theorem bit_ne (n k : Nat) : (n / 2 ^ k % 2 = 1) ↔ n.testBit k = true := by
  rw [Nat.testBit_eq_decide_div_mod_eq, decide_eq_true_eq]
theorem bit_xor (x y : UInt8) (k : Nat) : (x.toNat / 2 ^ k % 2 = y.toNat / 2 ^ k % 2) ↔ (x ^^^ y).toNat.testBit k = false := by
  rw [UInt8.toNat_xor, Nat.testBit_xor]
  have hx := bit_ne x.toNat k
  have hy := bit_ne y.toNat k
  have h1 := Nat.mod_two_eq_zero_or_one (x.toNat / 2 ^ k)
  have h2 := Nat.mod_two_eq_zero_or_one (y.toNat / 2 ^ k)
  cases hbx : x.toNat.testBit k <;> cases hby : y.toNat.testBit k <;> rw [hbx] at hx <;> rw [hby] at hy <;> simp at hx hy ⊢ <;> omega
theorem lz_byte (x y : UInt8) (h : x ≠ y) : lz8 (x ^^^ y).toNat < 8 ∧ (∀ j, j < lz8 (x ^^^ y).toNat → x.toNat / 2 ^ (7 - j) % 2 = y.toNat / 2 ^ (7 - j) % 2) ∧ x.toNat / 2 ^ (7 - lz8 (x ^^^ y).toNat) % 2 ≠ y.toNat / 2 ^ (7 - lz8 (x ^^^ y).toNat) % 2 := by
  have hz : (x ^^^ y).toNat ≠ 0 := by
    intro e
    apply h
    have : x ^^^ y = 0 := UInt8.toNat_inj.1 (by rw [e]; rfl)
    exact UInt8.xor_eq_zero_iff.1 this
  obtain ⟨h1, h2, h3⟩ := lz8_all ⟨(x ^^^ y).toNat, UInt8.toNat_lt _⟩ hz
  simp only at h1 h2 h3
  refine ⟨h1, fun j hj => ?_, fun e => ?_⟩
  · exact (bit_xor x y _).2 (h2 ⟨j, by omega⟩ hj)
  · have := (bit_xor x y _).1 e
    rw [h3] at this
    cases this
theorem bitN_lo (x : UInt8) (xs : List UInt8) (j : Nat) (h : j < 8) : bitN (x :: xs) j = x.toNat / 2 ^ (7 - j) % 2 := by
  unfold bitN
  rw [show j / 8 = 0 by omega, show j % 8 = j by omega]
  rfl
theorem bitN_hi (x : UInt8) (xs : List UInt8) (j : Nat) : bitN (x :: xs) (8 + j) = bitN xs j := by
  unfold bitN
  rw [show (8 + j) / 8 = j / 8 + 1 by omega, show (8 + j) % 8 = j % 8 by omega]
  rfl
theorem comL_ok : ∀ (m : Nat) (a b : List UInt8), m ≤ a.length → m ≤ b.length → comL (a.take m) (b.take m) ≤ 8 * m ∧ (∀ j, j < comL (a.take m) (b.take m) → bitN a j = bitN b j) ∧ (comL (a.take m) (b.take m) = 8 * m ∨ bitN a (comL (a.take m) (b.take m)) ≠ bitN b (comL (a.take m) (b.take m))) := by
  intro m
  induction m with
  | zero => intro a b _ _; simp [comL]
  | succ m ih =>
    intro a b ha hb
    cases a with
    | nil => simp at ha
    | cons x xs =>
      cases b with
      | nil => simp at hb
      | cons y ys =>
        obtain ⟨h1, h2, h3⟩ := ih xs ys (by simpa using ha) (by simpa using hb)
        rw [List.take_succ_cons, List.take_succ_cons, comL]
        by_cases hxy : x = y
        · rw [if_pos hxy]
          refine ⟨by omega, fun j hj => ?_, ?_⟩
          · by_cases h8 : j < 8
            · rw [bitN_lo _ _ _ h8, bitN_lo _ _ _ h8, hxy]
            · obtain ⟨i, rfl⟩ : ∃ i, j = 8 + i := ⟨j - 8, by omega⟩
              rw [bitN_hi, bitN_hi]
              exact h2 i (by omega)
          · rcases h3 with h3 | h3
            · left; omega
            · right; rw [bitN_hi, bitN_hi]; exact h3
        · rw [if_neg hxy]
          obtain ⟨g1, g2, g3⟩ := lz_byte x y hxy
          refine ⟨by omega, fun j hj => ?_, .inr ?_⟩
          · rw [bitN_lo _ _ _ (by omega), bitN_lo _ _ _ (by omega)]
            exact g2 j hj
          · rw [bitN_lo _ _ _ g1, bitN_lo _ _ _ g1]
            exact g3
theorem bitsF_cases (f : Int) : bitsF f = 32 ∨ bitsF f = 128 ∨ bitsF f = 0 := by
  unfold bitsF
  split
  · exact .inl rfl
  · split
    · exact .inr (.inl rfl)
    · exact .inr (.inr rfl)
/-- the document's way, bit by bit -/
theorem com_bits (f : Int) (a b : List UInt8) (ha : a.length = 16) (hb : b.length = 16) : comR (bitsF f) a b 0 = comE f f a b := by
  unfold comE
  rw [if_pos rfl]
  have h8 : 8 * (bitsF f / 8) = bitsF f ∧ bitsF f / 8 ≤ 16 := by rcases bitsF_cases f with h | h | h <;> rw [h] <;> decide
  obtain ⟨h1, h2, h3⟩ := comL_ok (bitsF f / 8) a b (by omega) (by omega)
  rw [h8.1] at h1 h3
  exact comR_upto _ a b _ _ 0 rfl (Nat.zero_le _) h1 (fun j _ hj => h2 j hj) h3
structure Ad where
  fam : Int
  ip : List UInt8
  zone : Int
def map16 (a b c d : UInt8) : List UInt8 := [0, 0, 0, 0, 0, 0, 0, 0, 0, 0, 255, 255, a, b, c, d]
def low4 (ip : List UInt8) : List UInt8 := quad16 (ip.getD 0 0) (ip.getD 1 0) (ip.getD 2 0) (ip.getD 3 0)
def top4 (ip : List UInt8) : List UInt8 := quad16 (ip.getD 12 0) (ip.getD 13 0) (ip.getD 14 0) (ip.getD 15 0)
def map4 (ip : List UInt8) : List UInt8 := map16 (ip.getD 0 0) (ip.getD 1 0) (ip.getD 2 0) (ip.getD 3 0)
def mapE (f : Int) (ip : List UInt8) (z : Int) : Ad := if f = 4 then ⟨6, map4 ip, 0⟩ else ⟨f, ip, z⟩
def unmapE (f : Int) (ip : List UInt8) (z : Int) : Ad := if f = 6 ∧ ip = map4 (top4 ip) then ⟨4, top4 ip, 0⟩ else ⟨f, ip, z⟩
theorem mapE_len (f : Int) (ip : List UInt8) (z : Int) (h : ip.length = 16) : (mapE f ip z).ip.length = 16 := by
  unfold mapE; split
  · rfl
  · exact h
theorem unmapE_len (f : Int) (ip : List UInt8) (z : Int) (h : ip.length = 16) : (unmapE f ip z).ip.length = 16 := by
  unfold unmapE; split
  · rfl
  · exact h
def checkE (f : Int) (ip : List UInt8) (z : Int) : Int := if f = 4 then (if ip = low4 ip ∧ z = 0 then 0 else 5) else if f = 6 then (if z < 0 ∨ 2147483647 < z then 4 else 0) else 10
def holdsE (f : Int) (ip : List UInt8) (z n : Int) : Int := if checkE f ip z ≠ 0 then checkE f ip z else if n < 0 ∨ (bitsF f : Int) < n then 4 else 0
def withinE (f : Int) (ip : List UInt8) (g : Int) (jp : List UInt8) (y n : Int) : Bool := (holdsE g jp y n == 0) && (f == g) && decide (n ≤ (comE f g ip jp : Int))
def ip127 : List UInt8 := quad16 127 0 0 0
def ip169 : List UInt8 := quad16 169 254 0 0
def ip224 : List UInt8 := quad16 224 0 0 0
def ipFe80 : List UInt8 := [254, 128, 0, 0, 0, 0, 0, 0, 0, 0, 0, 0, 0, 0, 0, 0]
def ipFec0 : List UInt8 := [254, 192, 0, 0, 0, 0, 0, 0, 0, 0, 0, 0, 0, 0, 0, 0]
def ipFf00 : List UInt8 := [255, 0, 0, 0, 0, 0, 0, 0, 0, 0, 0, 0, 0, 0, 0, 0]
def ipOne : List UInt8 := [0, 0, 0, 0, 0, 0, 0, 0, 0, 0, 0, 0, 0, 0, 0, 1]
def nearB (f : Int) (ip : List UInt8) : Bool := withinE f ip 4 ip127 0 8 || withinE f ip 4 ip169 0 16 || withinE f ip 6 ipFe80 0 10 || withinE f ip 6 ipOne 0 128
def manyB (f : Int) (ip : List UInt8) : Bool := (f == 6) && (ip.getD 0 0 == 255)
def scope1 (f : Int) (ip : List UInt8) : Int := if f ≠ 4 ∧ f ≠ 6 then 0 else if manyB f ip = true then ((ip.getD 1 0).toNat % 16 : Nat) else if nearB f ip = true then 2 else if withinE f ip 6 ipFec0 0 10 = true then 5 else 14
def scopeE (f : Int) (ip : List UInt8) (z : Int) : Int := scope1 (unmapE f ip z).fam (unmapE f ip z).ip
def multiE (f : Int) (ip : List UInt8) : Bool := withinE f ip 4 ip224 0 4 || manyB f ip
theorem holds_ff : holdsE 6 ipFf00 0 8 = 0 := by decide +kernel
theorem within_ff (f : Int) (ip : List UInt8) (h : ip.length = 16) : withinE f ip 6 ipFf00 0 8 = manyB f ip := by
  unfold withinE manyB
  rw [holds_ff]
  by_cases hf : f = 6
  · subst hf
    cases ip with
    | nil => simp at h
    | cons x xs =>
      have e : comE 6 6 (x :: xs) ipFf00 = if x = 255 then 8 + comL (xs.take 15) [0, 0, 0, 0, 0, 0, 0, 0, 0, 0, 0, 0, 0, 0, 0] else lz8 (x ^^^ 255).toNat := rfl
      rw [e]
      by_cases hx : x = 255
      · rw [if_pos hx]; simp [hx]; omega
      · rw [if_neg hx]
        have h1 := (lz_byte x 255 hx).1
        have h2 : (x == 255) = false := by simpa using hx
        obtain ⟨m, hm⟩ : ∃ m, m = lz8 (x ^^^ 255).toNat := ⟨_, rfl⟩
        rw [← hm] at h1 ⊢
        simp [h2]
        omega
  · have : (f == 6) = false := by simpa using hf
    rw [this]
    simp
end Go.Proofs.YthbdeafbdmbabaaGreatDoor
