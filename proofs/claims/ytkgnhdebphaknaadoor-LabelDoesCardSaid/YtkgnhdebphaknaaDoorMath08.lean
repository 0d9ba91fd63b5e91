/- Layer 4 in plain mathematics: a host's label, both ways. -/
import Derived.Test.YtkgnhdebphaknaaDoorMath06
import Derived.Test.YtkgnhdebphaknaaDoorMath02
namespace Go.Proofs.YtkgnhdebphaknaaDoor
open Go.RowKit
set_option linter.unusedVariables false
/-- a letter, a digit or a hyphen -/
def plainB (c : Int) : Bool := decide (97 ≤ c ∧ c ≤ 122) || decide (65 ≤ c ∧ c ≤ 90) || decide (48 ≤ c ∧ c ≤ 57) || decide (c = 45)
theorem plainB_iff (c : Int) : plainB c = true ↔ (97 ≤ c ∧ c ≤ 122) ∨ (65 ≤ c ∧ c ≤ 90) ∨ (48 ≤ c ∧ c ≤ 57) ∨ c = 45 := by
  unfold plainB; simp [or_assoc]
theorem plainB_no (c : Int) : plainB c = false ↔ ¬ ((97 ≤ c ∧ c ≤ 122) ∨ (65 ≤ c ∧ c ≤ 90) ∨ (48 ≤ c ∧ c ≤ 57) ∨ c = 45) := by
  rw [← plainB_iff]; simp
def ldhB (c : UInt8) : Bool := plainB c.toNat
def hostB (l : List UInt8) : Bool := decide (0 < l.length) && decide (l.length ≤ 63) && decide (gb l 0 ≠ 45) && decide (gb l (l.length - 1) ≠ 45) && l.all ldhB
theorem hostB_iff (l : List UInt8) : hostB l = true ↔ 0 < l.length ∧ l.length ≤ 63 ∧ gb l 0 ≠ 45 ∧ gb l (l.length - 1) ≠ 45 ∧ ∀ c ∈ l, ldhB c = true := by
  unfold hostB; simp [and_assoc]
def farB (l : List UInt8) : Bool := l.any fun c => decide (128 ≤ c.toNat)
theorem farB_no (l : List UInt8) : farB l = false ↔ ∀ c ∈ l, c.toNat < 128 := by
  unfold farB; simp
/-- a point that may be in a label -/
def ptOk (c : Int) : Bool := !((decide (c < 128) && !plainB c) || decide (c = 12290) || decide (c = 65294) || decide (c = 65377))
theorem ptOk_iff (c : Int) : ptOk c = true ↔ (c < 128 → plainB c = true) ∧ c ≠ 12290 ∧ c ≠ 65294 ∧ c ≠ 65377 := by
  unfold ptOk
  by_cases h : c < 128 <;> cases hp : plainB c <;> simp [h, and_assoc]
def fitB (l : List Int) : Bool := decide (l.getD 0 0 ≠ 45) && decide (l.getD (l.length - 1) 0 ≠ 45) && l.all ptOk
theorem fitB_iff (l : List Int) : fitB l = true ↔ l.getD 0 0 ≠ 45 ∧ l.getD (l.length - 1) 0 ≠ 45 ∧ ∀ c ∈ l, ptOk c = true := by
  unfold fitB; simp only [Bool.and_eq_true, decide_eq_true_eq, List.all_eq_true, and_assoc]
def sgn : List UInt8 := [120, 110, 45, 45]
def asciiE (s : List UInt8) : List UInt8 × Int :=
  if farB s = false then (if hostB s = true then (s.map lowB, 0) else ([], 7)) else
  match runesL (s.map lowB) with
  | none => ([], 5)
  | some ks => if fitB ks = false then ([], 7) else if (encE ks).2 ≠ 0 then ([], (encE ks).2) else if 59 < (encE ks).1.length then ([], 7) else (sgn ++ (encE ks).1, 0)
theorem asciiE_host {s : List UInt8} (h : farB s = false) (h2 : hostB s = true) : asciiE s = (s.map lowB, 0) := by unfold asciiE; rw [if_pos h, if_pos h2]
theorem asciiE_bad {s : List UInt8} (h : farB s = false) (h2 : hostB s = false) : asciiE s = ([], 7) := by unfold asciiE; rw [if_pos h, if_neg (by simp [h2])]
theorem asciiE_none {s : List UInt8} (h : farB s = true) (h2 : runesL (s.map lowB) = none) : asciiE s = ([], 5) := by unfold asciiE; rw [if_neg (by simp [h]), h2]
theorem asciiE_unfit {s : List UInt8} {ks : List Int} (h : farB s = true) (h2 : runesL (s.map lowB) = some ks) (h3 : fitB ks = false) : asciiE s = ([], 7) := by
  unfold asciiE; rw [if_neg (by simp [h]), h2]; simp only; rw [if_pos h3]
theorem asciiE_enc {s : List UInt8} {ks : List Int} {x : Int} (h : farB s = true) (h2 : runesL (s.map lowB) = some ks) (h3 : fitB ks = true) (h4 : (encE ks).2 = x) (hx : x ≠ 0) : asciiE s = ([], x) := by
  unfold asciiE; rw [if_neg (by simp [h]), h2]; simp only; rw [if_neg (by simp [h3]), if_pos (by rw [h4]; exact hx), h4]
theorem asciiE_long {s : List UInt8} {ks : List Int} (h : farB s = true) (h2 : runesL (s.map lowB) = some ks) (h3 : fitB ks = true) (h4 : (encE ks).2 = 0) (h5 : 59 < (encE ks).1.length) : asciiE s = ([], 7) := by
  unfold asciiE; rw [if_neg (by simp [h]), h2]; simp only; rw [if_neg (by simp [h3]), if_neg (by simp [h4]), if_pos h5]
theorem asciiE_ok {s : List UInt8} {ks : List Int} (h : farB s = true) (h2 : runesL (s.map lowB) = some ks) (h3 : fitB ks = true) (h4 : (encE ks).2 = 0) (h5 : ¬ 59 < (encE ks).1.length) : asciiE s = (sgn ++ (encE ks).1, 0) := by
  unfold asciiE; rw [if_neg (by simp [h]), h2]; simp only; rw [if_neg (by simp [h3]), if_neg (by simp [h4]), if_neg h5]
def uniE (s : List UInt8) : List UInt8 :=
  if hostB (s.map lowB) = true ∧ (s.map lowB).take 4 = sgn then
    if (decE ((s.map lowB).drop 4)).2 ≠ 0 then s else
    match textL (decE ((s.map lowB).drop 4)).1 with
    | none => s
    | some u => if asciiE u = (s.map lowB, 0) then u else s
  else s
theorem uniE_plain {s : List UInt8} (h : ¬ (hostB (s.map lowB) = true ∧ (s.map lowB).take 4 = sgn)) : uniE s = s := by unfold uniE; rw [if_neg h]
theorem uniE_dec {s : List UInt8} (h : hostB (s.map lowB) = true) (h1 : (s.map lowB).take 4 = sgn) (h2 : (decE ((s.map lowB).drop 4)).2 ≠ 0) : uniE s = s := by unfold uniE; rw [if_pos ⟨h, h1⟩, if_pos h2]
theorem uniE_none {s : List UInt8} (h : hostB (s.map lowB) = true) (h1 : (s.map lowB).take 4 = sgn) (h2 : (decE ((s.map lowB).drop 4)).2 = 0) (h3 : textL (decE ((s.map lowB).drop 4)).1 = none) : uniE s = s := by
  unfold uniE; rw [if_pos ⟨h, h1⟩, if_neg (by simp [h2]), h3]
theorem uniE_no {s u : List UInt8} (h : hostB (s.map lowB) = true) (h1 : (s.map lowB).take 4 = sgn) (h2 : (decE ((s.map lowB).drop 4)).2 = 0) (h3 : textL (decE ((s.map lowB).drop 4)).1 = some u) (h4 : asciiE u ≠ (s.map lowB, 0)) : uniE s = s := by
  unfold uniE; rw [if_pos ⟨h, h1⟩, if_neg (by simp [h2]), h3]; simp only; rw [if_neg h4]
theorem uniE_yes {s u : List UInt8} (h : hostB (s.map lowB) = true) (h1 : (s.map lowB).take 4 = sgn) (h2 : (decE ((s.map lowB).drop 4)).2 = 0) (h3 : textL (decE ((s.map lowB).drop 4)).1 = some u) (h4 : asciiE u = (s.map lowB, 0)) : uniE s = u := by
  unfold uniE; rw [if_pos ⟨h, h1⟩, if_neg (by simp [h2]), h3]; simp only; rw [if_pos h4]
/- folding -/
theorem low_all : ∀ n : Fin 256, lowB (lowB (UInt8.ofNat n.val)) = lowB (UInt8.ofNat n.val) ∧ ldhB (lowB (UInt8.ofNat n.val)) = ldhB (UInt8.ofNat n.val) ∧ ((lowB (UInt8.ofNat n.val)).toNat = 45 ↔ (UInt8.ofNat n.val).toNat = 45) ∧
    ((lowB (UInt8.ofNat n.val)).toNat < 128 ↔ (UInt8.ofNat n.val).toNat < 128) := by decide +kernel
theorem low_at (c : UInt8) : lowB (lowB c) = lowB c ∧ ldhB (lowB c) = ldhB c ∧ ((lowB c).toNat = 45 ↔ c.toNat = 45) ∧ ((lowB c).toNat < 128 ↔ c.toNat < 128) := by
  have h := low_all ⟨c.toNat, c.toNat_lt⟩
  simpa using h
theorem low_low (l : List UInt8) : (l.map lowB).map lowB = l.map lowB := by
  rw [List.map_map]; exact List.map_congr_left fun c _ => (low_at c).1
theorem gb_low (l : List UInt8) (i : Nat) : gb (l.map lowB) i = 45 ↔ gb l i = 45 := by
  unfold gb
  by_cases h : i < l.length
  · simp [h, (low_at l[i]).2.2.1]
  · simp [h]
theorem host_low (l : List UInt8) : hostB (l.map lowB) = hostB l := by
  apply Bool.eq_iff_iff.2
  rw [hostB_iff, hostB_iff, List.length_map]
  have h : (∀ c ∈ l.map lowB, ldhB c = true) ↔ ∀ c ∈ l, ldhB c = true := by
    constructor
    · intro h c hc; rw [← (low_at c).2.1]; exact h _ (List.mem_map_of_mem hc)
    · intro h c hc; obtain ⟨d, hd, rfl⟩ := List.mem_map.1 hc; rw [(low_at d).2.1]; exact h d hd
  rw [h, Ne, Ne, gb_low, gb_low]
theorem far_low (l : List UInt8) : farB (l.map lowB) = farB l := by
  have h : (farB (l.map lowB) = false) ↔ farB l = false := by
    rw [farB_no, farB_no]
    constructor
    · intro h c hc; exact (low_at c).2.2.2.1 (h _ (List.mem_map_of_mem hc))
    · intro h c hc; obtain ⟨d, hd, rfl⟩ := List.mem_map.1 hc; exact (low_at d).2.2.2.2 (h d hd)
  cases h1 : farB (l.map lowB) <;> cases h2 : farB l <;> simp_all
theorem asciiE_low (l : List UInt8) : asciiE (l.map lowB) = asciiE l := by
  unfold asciiE; rw [far_low, host_low, low_low]
theorem host_near {l : List UInt8} (h : hostB l = true) : farB l = false := by
  rw [farB_no]
  intro c hc
  have := ((hostB_iff l).1 h).2.2.2.2 c hc
  unfold ldhB at this
  rw [plainB_iff] at this
  omega
end Go.Proofs.YtkgnhdebphaknaaDoor
