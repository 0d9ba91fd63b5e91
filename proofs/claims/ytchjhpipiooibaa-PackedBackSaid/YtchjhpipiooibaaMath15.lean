/- Layer 10: numbers as octets, over plain lists. -/
import Derived.Test.YtchjhpipiooibaaMath01
namespace Go.Proofs.Ytchjhpipiooibaa
/-- a width, held to those that numbers have -/
def ocWide (w : Int) : Nat := (min (max w 0) 4).toNat
def ocByte (n : Int) : UInt8 := UInt8.ofNat (n % 256).toNat
/-- a number's octets, the highest first -/
def ocT : Nat → Int → List UInt8
  | 0, _ => []
  | k + 1, n => ocT k (n / 256) ++ [ocByte n]
/-- the number of octets -/
def ocN (l : List UInt8) : Nat := l.foldl (fun n c => 256 * n + c.toNat) 0
/-- what is taken, what is left, and the error -/
def ocTake (l : List UInt8) (x n : Int) : List UInt8 × List UInt8 × Int :=
  if x ≠ 0 then ([], l, x) else if (l.length : Int) < n then ([], l, 1) else (l.take n.toNat, l.drop n.toNat, 0)
theorem ocWide_le (w : Int) : ocWide w ≤ 4 := by unfold ocWide; omega
theorem ocT_len : ∀ (k : Nat) (n : Int), (ocT k n).length = k
  | 0, _ => rfl
  | k + 1, n => by simp [ocT, ocT_len k]
theorem ocT_top : ∀ (k : Nat) (n : Int), ocT (k + 1) n = ocByte (n / 256 ^ k) :: ocT k n
  | 0, n => by simp [ocT]
  | k + 1, n => by
    rw [ocT, ocT_top k, ocT, List.cons_append, Int.ediv_ediv_of_nonneg (by decide), show (256 : Int) * 256 ^ k = 256 ^ (k + 1) by rw [Int.pow_succ, Int.mul_comm]]
theorem ocByte_val (n : Int) : ((ocByte n).toNat : Int) = n % 256 := by
  unfold ocByte
  rw [UInt8.toNat_ofNat']
  omega
theorem ocN_snoc (l : List UInt8) (c : UInt8) : ocN (l ++ [c]) = 256 * ocN l + c.toNat := by simp [ocN]
theorem ocN_lt_aux (r : List UInt8) : ocN r.reverse < 256 ^ r.length := by
  induction r with
  | nil => decide
  | cons c r ih =>
    rw [List.reverse_cons, ocN_snoc, List.length_cons, Nat.pow_succ]
    have := UInt8.toNat_lt c
    omega
theorem ocN_lt (l : List UInt8) : ocN l < 256 ^ l.length := by
  have := ocN_lt_aux l.reverse
  simpa using this
theorem ocN_oct : ∀ (k : Nat) (n : Int), (ocN (ocT k n) : Int) = n % 256 ^ k
  | 0, n => by simp [ocT, ocN]
  | k + 1, n => by
    rw [ocT, ocN_snoc]
    have h := ocN_oct k (n / 256)
    have hb := ocByte_val n
    rw [Int.pow_succ, Int.mul_comm (256 ^ k) 256, Int.emod_def n (256 * 256 ^ k), ← Int.ediv_ediv_of_nonneg (by decide), Int.mul_assoc]
    rw [Int.emod_def (n / 256)] at h
    omega
theorem ocTake_all (l m : List UInt8) : ocTake (l ++ m) 0 (l.length : Int) = (l, m, 0) := by
  unfold ocTake
  rw [if_neg (by decide), if_neg (by simp; omega)]
  simp
end Go.Proofs.Ytchjhpipiooibaa
