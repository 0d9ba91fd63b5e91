/- A host's label, and folding, in plain mathematics. -/
import Derived.Test.YtcdbnnfokophbaaMath02
namespace Go.Proofs.Ytcdbnnfokophbaa
open Go.RowKit
set_option linter.unusedVariables false
/-- a letter, a digit or a hyphen -/
def plainB (c : Int) : Bool := decide (97 ≤ c ∧ c ≤ 122) || decide (65 ≤ c ∧ c ≤ 90) || decide (48 ≤ c ∧ c ≤ 57) || decide (c = 45)
theorem plainB_iff (c : Int) : plainB c = true ↔ (97 ≤ c ∧ c ≤ 122) ∨ (65 ≤ c ∧ c ≤ 90) ∨ (48 ≤ c ∧ c ≤ 57) ∨ c = 45 := by
  unfold plainB; simp [or_assoc]
theorem plainB_no (c : Int) : plainB c = false ↔ ¬ ((97 ≤ c ∧ c ≤ 122) ∨ (65 ≤ c ∧ c ≤ 90) ∨ (48 ≤ c ∧ c ≤ 57) ∨ c = 45) := by
  rw [← plainB_iff]; simp
def ldhB (c : UInt8) : Bool := plainB c.toNat
def hostB (l : List UInt8) : Bool := decide (0 < l.length) && decide (l.length ≤ 63) && decide (gb l 0 ≠ 45) && decide (gb l (l.length - 1) ≠ 45) && l.all ldhB
theorem hostB_iff (l : List UInt8) : hostB l = true ↔ 0 < l.length ∧ l.length ≤ 63 ∧ gb l 0 ≠ 45 ∧ gb l (l.length - 1) ≠ 45 ∧ ∀ c ∈ l, ldhB c = true := by
  unfold hostB; simp [and_assoc]
def farB (l : List UInt8) : Bool := l.any fun c => decide (128 ≤ c.toNat)
theorem farB_no (l : List UInt8) : farB l = false ↔ ∀ c ∈ l, c.toNat < 128 := by
  unfold farB; simp
/- folding -/
theorem low_all : ∀ n : Fin 256, lowB (lowB (UInt8.ofNat n.val)) = lowB (UInt8.ofNat n.val) ∧ ldhB (lowB (UInt8.ofNat n.val)) = ldhB (UInt8.ofNat n.val) ∧ ((lowB (UInt8.ofNat n.val)).toNat = 45 ↔ (UInt8.ofNat n.val).toNat = 45) ∧
    ((lowB (UInt8.ofNat n.val)).toNat < 128 ↔ (UInt8.ofNat n.val).toNat < 128) := by decide +kernel
theorem low_at (c : UInt8) : lowB (lowB c) = lowB c ∧ ldhB (lowB c) = ldhB c ∧ ((lowB c).toNat = 45 ↔ c.toNat = 45) ∧ ((lowB c).toNat < 128 ↔ c.toNat < 128) := by
  have h := low_all ⟨c.toNat, c.toNat_lt⟩
  simpa using h
theorem low_low (l : List UInt8) : (l.map lowB).map lowB = l.map lowB := by
  rw [List.map_map]; exact List.map_congr_left fun c _ => (low_at c).1
theorem gb_low (l : List UInt8) (i : Nat) : gb (l.map lowB) i = 45 ↔ gb l i = 45 := by
  unfold gb
  by_cases h : i < l.length
  · simp [h, (low_at l[i]).2.2.1]
  · simp [h]
theorem host_low (l : List UInt8) : hostB (l.map lowB) = hostB l := by
  apply Bool.eq_iff_iff.2
  rw [hostB_iff, hostB_iff, List.length_map]
  have h : (∀ c ∈ l.map lowB, ldhB c = true) ↔ ∀ c ∈ l, ldhB c = true := by
    constructor
    · intro h c hc; rw [← (low_at c).2.1]; exact h _ (List.mem_map_of_mem hc)
    · intro h c hc; obtain ⟨d, hd, rfl⟩ := List.mem_map.1 hc; rw [(low_at d).2.1]; exact h d hd
  rw [h, Ne, Ne, gb_low, gb_low]
theorem far_low (l : List UInt8) : farB (l.map lowB) = farB l := by
  have h : (farB (l.map lowB) = false) ↔ farB l = false := by
    rw [farB_no, farB_no]
    constructor
    · intro h c hc; exact (low_at c).2.2.2.1 (h _ (List.mem_map_of_mem hc))
    · intro h c hc; obtain ⟨d, hd, rfl⟩ := List.mem_map.1 hc; exact (low_at d).2.2.2.2 (h d hd)
  cases h1 : farB (l.map lowB) <;> cases h2 : farB l <;> simp_all
theorem host_near {l : List UInt8} (h : hostB l = true) : farB l = false := by
  rw [farB_no]
  intro c hc
  have := ((hostB_iff l).1 h).2.2.2.2 c hc
  unfold ldhB at this
  rw [plainB_iff] at this
  omega
end Go.Proofs.Ytcdbnnfokophbaa
