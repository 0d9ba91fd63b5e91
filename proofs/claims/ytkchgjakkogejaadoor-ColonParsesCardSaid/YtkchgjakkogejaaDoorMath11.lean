/- Plain: addresses of four bytes in writing (layer 7). -/
import Derived.Test.YtkchgjakkogejaaDoorMath01
import Derived.Lib.Split
import Derived.Lib.SplitLaws
import Derived.Lib.ItoaNum
namespace Go.Proofs.YtkchgjakkogejaaDoor
open Go.RowKit Go
set_option linter.unusedVariables false
/- what digits of a base are worth, held to 2^32 -/
def okD (b : Nat) (c : UInt8) : Bool := hexB c.toNat && decide (hexV c.toNat < b)
def vstep (b : Nat) (n : Nat) (c : UInt8) : Nat := min (n * b + (hexV c.toNat).toNat) 4294967296
def valN (b : Nat) (l : List UInt8) : Nat := l.foldl (vstep b) 0
def valE (b : Nat) (l : List UInt8) : Nat × Bool := if l.all (okD b) then (valN b l, !l.isEmpty) else (0, false)
def numE (l : List UInt8) : Nat × Bool :=
  if Lib.hasPrefix l [48, 120] || Lib.hasPrefix l [48, 88] then valE 16 (l.drop 2) else if Lib.hasPrefix l [48] then valE 8 l else valE 10 l
theorem valN_snoc (b : Nat) (l : List UInt8) (c : UInt8) : valN b (l ++ [c]) = vstep b (valN b l) c := by simp [valN]
theorem valN_le (b : Nat) (l : List UInt8) : valN b l ≤ 4294967296 := by
  rcases List.eq_nil_or_concat l with rfl | ⟨a, c, rfl⟩
  · simp [valN]
  · rw [List.concat_eq_append, valN_snoc]; unfold vstep; omega
theorem valE_le (b : Nat) (l : List UInt8) : (valE b l).1 ≤ 4294967296 := by
  unfold valE
  split
  · exact valN_le b l
  · exact Nat.zero_le _
theorem numE_le (l : List UInt8) : (numE l).1 ≤ 4294967296 := by
  unfold numE
  split
  · exact valE_le _ _
  · split <;> exact valE_le _ _
theorem hexV_bd (c : Int) : 0 ≤ hexV c ∧ hexV c ≤ 15 := by
  unfold hexV
  split
  · omega
  · split
    · omega
    · split <;> omega
/- cut at the first k dots -/
def cutN : List UInt8 → Nat → List (List UInt8)
  | l, 0 => [l]
  | [], _ + 1 => [[]]
  | c :: r, k + 1 => if c = 46 then [] :: cutN r k else match cutN r (k + 1) with
    | x :: t => (c :: x) :: t
    | [] => [[c]]
theorem cutN_dot (l r : List UInt8) (k : Nat) (h : (46 : UInt8) ∉ l) : cutN (l ++ 46 :: r) (k + 1) = l :: cutN r k := by
  induction l with
  | nil => simp [cutN]
  | cons c t ih =>
    have h1 : ¬ c = 46 := fun e => h (by rw [e]; simp)
    have h2 : (46 : UInt8) ∉ t := fun e => h (by simp [e])
    rw [List.cons_append, cutN, if_neg h1, ih h2]
theorem cutN_none (l : List UInt8) (k : Nat) (h : (46 : UInt8) ∉ l) : cutN l k = [l] := by
  cases k with
  | zero => cases l <;> rfl
  | succ k =>
    induction l with
    | nil => simp [cutN]
    | cons c t ih =>
      have h1 : ¬ c = 46 := fun e => h (by rw [e]; simp)
      have h2 : (46 : UInt8) ∉ t := fun e => h (by simp [e])
      rw [cutN, if_neg h1, ih h2]
theorem cutN_zero (l : List UInt8) : cutN l 0 = [l] := by cases l <;> rfl
theorem split_cutN : ∀ (k : Nat) (l : List UInt8), Lib.splitK [46] 0 k l = cutN l k := by
  intro k
  induction k with
  | zero => intro l; rw [cutN_zero]; rfl
  | succ k ih =>
    intro l
    have hi := Lib.index_one l 46
    by_cases hm : (46 : UInt8) ∈ l
    · obtain ⟨a, b, rfl, ha⟩ := List.eq_append_cons_of_mem hm
      have hix : Lib.index (a ++ 46 :: b) [46] = a.length := by
        rw [hi]
        rcases Int.lt_or_le (Lib.indexByte (a ++ 46 :: b) 46) 0 with h1 | h1
        · have h2 := Lib.indexByte_ge (a ++ 46 :: b) 46
          exact absurd (by simp) (Lib.indexByte_none (l := a ++ 46 :: b) (c := 46) (by omega) a.length)
        · obtain ⟨k, hk⟩ : ∃ k : Nat, Lib.indexByte (a ++ 46 :: b) 46 = k := ⟨_, (Int.toNat_of_nonneg h1).symm⟩
          obtain ⟨h2, h3⟩ := Lib.indexByte_some hk
          rw [hk]
          rcases Nat.lt_trichotomy k a.length with h4 | h4 | h4
          · rw [List.getElem?_append_left h4] at h2
            exact absurd (List.mem_of_getElem? h2) ha
          · rw [h4]
          · exact absurd (by simp) (h3 a.length h4)
      rw [Lib.splitK, hix]
      have hq : ((a.length : Int) == -1) = false := by simp
      rw [hq, cutN_dot a b k ha, ← ih b]
      simp
    · have hix : Lib.index l [46] = -1 := by
        rw [hi]
        rcases Int.lt_or_le (Lib.indexByte l 46) 0 with h1 | h1
        · have h2 := Lib.indexByte_ge l 46
          omega
        · obtain ⟨k, hk⟩ : ∃ k : Nat, Lib.indexByte l 46 = k := ⟨_, (Int.toNat_of_nonneg h1).symm⟩
          exact absurd (List.mem_of_getElem? (Lib.indexByte_some hk).1) hm
      rw [Lib.splitK, hix, cutN_none l _ hm]
      simp
theorem cutN_len (l : List UInt8) (k : Nat) : (cutN l k).length ≤ k + 1 := by
  rw [← split_cutN]
  induction k generalizing l with
  | zero => simp [Lib.splitK]
  | succ k ih =>
    rw [Lib.splitK]
    split
    · simp
    · rw [List.length_cons]
      exact Nat.succ_le_succ (ih _)
theorem cutN_ne (l : List UInt8) (k : Nat) : cutN l k ≠ [] := by
  rw [← split_cutN]
  cases k with
  | zero => simp [Lib.splitK]
  | succ k => rw [Lib.splitK]; split <;> simp
theorem cutN_mem : ∀ (l : List UInt8) (k : Nat) (x : List UInt8), x ∈ cutN l k → x.length ≤ l.length := by
  intro l
  induction l with
  | nil =>
    intro k x h
    cases k with
    | zero => simp [cutN] at h; subst h; simp
    | succ k => simp [cutN] at h; subst h; simp
  | cons c r ih =>
    intro k x h
    cases k with
    | zero => simp [cutN] at h; subst h; simp
    | succ k =>
      rw [cutN] at h
      split at h
      · rcases List.mem_cons.1 h with rfl | h
        · simp
        · have := ih k x h; simp; omega
      · split at h
        · rename_i y t e
          rcases List.mem_cons.1 h with rfl | h
          · have := ih (k + 1) y (by rw [e]; simp); simp; omega
          · have := ih (k + 1) x (by rw [e]; simp [h]); simp; omega
        · simp at h; subst h; simp
/- addresses -/
def quad16 (a b c d : UInt8) : List UInt8 := [a, b, c, d, 0, 0, 0, 0, 0, 0, 0, 0, 0, 0, 0, 0]
def zero16 : List UInt8 := [0, 0, 0, 0, 0, 0, 0, 0, 0, 0, 0, 0, 0, 0, 0, 0]
def byN (v k : Nat) : UInt8 := UInt8.ofNat (v / 2 ^ k)
def adrV : List Nat → Nat
  | [v] => v
  | [a, v] => a * 16777216 + v
  | [a, b, v] => a * 16777216 + b * 65536 + v
  | [a, b, c, v] => a * 16777216 + b * 65536 + c * 256 + v
  | _ => 0
def adrB : List Nat → Bool
  | [v] => decide (v < 4294967296)
  | [a, v] => decide (v < 16777216) && decide (a ≤ 255)
  | [a, b, v] => decide (v < 65536) && decide (a ≤ 255) && decide (b ≤ 255)
  | [a, b, c, v] => decide (v < 256) && decide (a ≤ 255) && decide (b ≤ 255) && decide (c ≤ 255)
  | _ => false
def quadN (v : Nat) : List UInt8 := quad16 (byN v 24) (byN v 16) (byN v 8) (byN v 0)
def adrE (l : List Nat) : Option (List UInt8) := if adrB l then some (quadN (adrV l)) else none
/- an answer: the family, the bytes, the fault -/
structure AdR where
  fam : Int
  ip : List UInt8
  err : Int
def adR (o : Option (List UInt8)) (e : Int) : AdR := match o with
  | some ip => ⟨4, ip, 0⟩
  | none => ⟨0, zero16, e⟩
def looseE (l : List UInt8) : AdR := if (cutN l 3).all (fun p => (numE p).2) then adR (adrE ((cutN l 3).map fun p => (numE p).1)) 4 else adR none 5
def quadT (a b c d : UInt8) : List UInt8 := Lib.decDigits a.toNat ++ 46 :: (Lib.decDigits b.toNat ++ 46 :: (Lib.decDigits c.toNat ++ 46 :: Lib.decDigits d.toNat))
def quadI (ip : List UInt8) : List UInt8 := quadT (ip.getD 0 0) (ip.getD 1 0) (ip.getD 2 0) (ip.getD 3 0)
def parseE (l : List UInt8) : AdR := if (looseE l).err = 0 ∧ quadI (looseE l).ip = l then looseE l else adR none 5
/- a byte's digits -/
def decX (n : Nat) : List UInt8 := if n < 10 then [UInt8.ofNat (48 + n)] else if n < 100 then [UInt8.ofNat (48 + n / 10), UInt8.ofNat (48 + n % 10)] else [UInt8.ofNat (48 + n / 100), UInt8.ofNat (48 + n / 10 % 10), UInt8.ofNat (48 + n % 10)]
theorem decX_eq (n : Nat) (h : n < 1000) : Lib.decDigits n = decX n := by
  unfold decX
  by_cases h1 : n < 10
  · rw [if_pos h1, Lib.decDigits_one h1]
  · rw [if_neg h1]
    by_cases h2 : n < 100
    · rw [if_pos h2, Lib.decDigits, dif_neg h1, Lib.decDigits_one (by omega)]; rfl
    · rw [if_neg h2, Lib.decDigits, dif_neg h1, Lib.decDigits, dif_neg (by omega), Lib.decDigits_one (by omega), Nat.div_div_eq_div_mul]; rfl
theorem decX_all : ∀ n : Fin 256, numE (decX n.val) = (n.val, true) ∧ (decX n.val).all (fun c => decide (c ≠ 46) && decide (c.toNat < 128)) = true ∧ (decX n.val).length ≤ 3 ∧ 1 ≤ (decX n.val).length := by decide +kernel
theorem dec_byte (c : UInt8) : numE (Lib.decDigits c.toNat) = (c.toNat, true) ∧ (46 : UInt8) ∉ Lib.decDigits c.toNat ∧ (Lib.decDigits c.toNat).length ≤ 3 ∧ 1 ≤ (Lib.decDigits c.toNat).length := by
  have hc : c.toNat < 256 := UInt8.toNat_lt c
  rw [decX_eq c.toNat (by omega)]
  obtain ⟨h1, h2, h3, h4⟩ := decX_all ⟨c.toNat, hc⟩
  refine ⟨h1, fun h => ?_, h3, h4⟩
  have := List.all_eq_true.1 h2 _ h
  simp at this
theorem quadT_len (a b c d : UInt8) : (quadT a b c d).length ≤ 15 ∧ 7 ≤ (quadT a b c d).length := by
  have := dec_byte a; have := dec_byte b; have := dec_byte c; have := dec_byte d
  unfold quadT
  simp only [List.length_append, List.length_cons]
  omega
theorem byN_toNat (v k : Nat) : (byN v k).toNat = v / 2 ^ k % 256 := by
  unfold byN
  simp
theorem quadN_bytes (a b c d : UInt8) : quadN (a.toNat * 16777216 + b.toNat * 65536 + c.toNat * 256 + d.toNat) = quad16 a b c d := by
  have ha := UInt8.toNat_lt a; have hb := UInt8.toNat_lt b; have hc := UInt8.toNat_lt c; have hd := UInt8.toNat_lt d
  unfold quadN
  have e1 : byN (a.toNat * 16777216 + b.toNat * 65536 + c.toNat * 256 + d.toNat) 24 = a := by apply UInt8.toNat_inj.1; rw [byN_toNat]; omega
  have e2 : byN (a.toNat * 16777216 + b.toNat * 65536 + c.toNat * 256 + d.toNat) 16 = b := by apply UInt8.toNat_inj.1; rw [byN_toNat]; omega
  have e3 : byN (a.toNat * 16777216 + b.toNat * 65536 + c.toNat * 256 + d.toNat) 8 = c := by apply UInt8.toNat_inj.1; rw [byN_toNat]; omega
  have e4 : byN (a.toNat * 16777216 + b.toNat * 65536 + c.toNat * 256 + d.toNat) 0 = d := by apply UInt8.toNat_inj.1; rw [byN_toNat]; omega
  rw [e1, e2, e3, e4]
theorem quadT_loose (a b c d : UInt8) : looseE (quadT a b c d) = ⟨4, quad16 a b c d, 0⟩ := by
  have ha := dec_byte a; have hb := dec_byte b; have hc := dec_byte c; have hd := dec_byte d
  have e : cutN (quadT a b c d) 3 = [Lib.decDigits a.toNat, Lib.decDigits b.toNat, Lib.decDigits c.toNat, Lib.decDigits d.toNat] := by
    unfold quadT
    rw [cutN_dot _ _ _ ha.2.1, cutN_dot _ _ _ hb.2.1, cutN_dot _ _ _ hc.2.1, cutN_zero]
  unfold looseE
  rw [e]
  simp only [List.all_cons, List.all_nil, List.map_cons, List.map_nil, ha.1, hb.1, hc.1, hd.1, Bool.and_true, if_true, adrE, adrB, adrV]
  have := UInt8.toNat_lt a; have := UInt8.toNat_lt b; have := UInt8.toNat_lt c; have := UInt8.toNat_lt d
  rw [if_pos (by simp; omega), quadN_bytes]
  rfl
theorem quadT_parse (a b c d : UInt8) : parseE (quadT a b c d) = ⟨4, quad16 a b c d, 0⟩ := by
  unfold parseE
  rw [quadT_loose, if_pos ⟨rfl, rfl⟩]
theorem valN_step (b : Nat) (s : ByteArray) (k : Nat) (h : k < s.size) : valN b (s.data.toList.take (k + 1)) = vstep b (valN b (s.data.toList.take k)) s[k] := by
  rw [take_snoc s k h, valN_snoc]
theorem val_end (b : Nat) (s : ByteArray) (ha : (s.data.toList.take s.size).all (okD b) = true) : valE b s.data.toList = (valN b (s.data.toList.take s.size), !s.data.toList.isEmpty) := by
  have ht : s.data.toList.take s.size = s.data.toList := List.take_of_length_le (by simp)
  rw [ht] at ha ⊢
  unfold valE
  rw [if_pos ha]
theorem val_bad (b : Nat) (s : ByteArray) (k : Nat) (h : k < s.size) (hb : okD b s[k] = false) : valE b s.data.toList = (0, false) := by
  have hm : s[k] ∈ s.data.toList := by
    have : s.data.toList[k]'(by simpa using h) ∈ s.data.toList := List.getElem_mem _
    exact this
  have : ¬ s.data.toList.all (okD b) = true := fun e => by
    have := List.all_eq_true.1 e _ hm
    rw [hb] at this; simp at this
  unfold valE
  rw [if_neg this]
theorem cutN_big : ∀ (l : List UInt8) (k d : Nat), l.length ≤ k → cutN l k = cutN l (k + d) := by
  intro l
  induction l with
  | nil =>
    intro k d _
    cases k with
    | zero => cases d <;> rfl
    | succ k => rw [show k + 1 + d = (k + d) + 1 by omega]; rfl
  | cons c r ih =>
    intro k d h
    cases k with
    | zero => simp at h
    | succ k =>
      rw [show k + 1 + d = (k + d) + 1 by omega, cutN, cutN]
      have h' : r.length ≤ k := by simpa using h
      rw [ih k d h', ih (k + 1) d (by omega), show k + 1 + d = k + d + 1 by omega]
theorem works_loose : looseE [49, 50, 55, 46, 49] = ⟨4, quad16 127 0 0 1, 0⟩ := by
  have h : (looseE [49, 50, 55, 46, 49]).fam = 4 ∧ (looseE [49, 50, 55, 46, 49]).ip = quad16 127 0 0 1 ∧ (looseE [49, 50, 55, 46, 49]).err = 0 := by decide +kernel
  obtain ⟨h1, h2, h3⟩ := h
  rw [← h1, ← h2, ← h3]
theorem quadI_works : quadI (quad16 127 0 0 1) = [49, 50, 55, 46, 48, 46, 48, 46, 49] := by
  unfold quadI quadT
  rw [decX_eq _ (by decide), decX_eq _ (by decide), decX_eq _ (by decide), decX_eq _ (by decide)]
  decide +kernel
theorem works_parse : parseE [49, 50, 55, 46, 49] = ⟨0, zero16, 5⟩ := by
  unfold parseE
  rw [works_loose]
  simp only [quadI_works]
  rw [if_neg (by decide)]
  rfl
end Go.Proofs.YtkchgjakkogejaaDoor
