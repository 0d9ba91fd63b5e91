import Derived.Test.YtkgnhdebphaknaaDoorMath03b
namespace Go.Proofs.YtkgnhdebphaknaaDoor
open Go.RowKit
set_option linter.unusedVariables false
/- Reading: a byte's figure, the number that figures are, points put in. -/
def valI (c : Int) : Int := if 97 ≤ c ∧ c ≤ 122 then c - 97 else if 65 ≤ c ∧ c ≤ 90 then c - 65 else if 48 ≤ c ∧ c ≤ 57 then c - 22 else -1
theorem valI_bd (c : Int) : -1 ≤ valI c ∧ valI c ≤ 35 := by unfold valI; split <;> (try split) <;> (try split) <;> omega
def vB (c : UInt8) : Int := valI (c.toNat : Int)
theorem vB_bd (c : UInt8) : -1 ≤ vB c ∧ vB c ≤ 35 := valI_bd _
abbrev NumR := Int × Int × List UInt8
def numb (b : Int) : List UInt8 → Int → Int → Int → NumR
  | [], _, _, _ => (5, 0, [])
  | c :: r, k, d, w =>
    if vB c < 0 then (5, 0, [])
    else if 4294967295 < d + vB c * w then (6, 0, [])
    else if vB c < bndI k b then (0, d + vB c * w, r)
    else if 4294967295 < w * (36 - bndI k b) then (6, 0, [])
    else numb b r (k + 1) (d + vB c * w) (w * (36 - bndI k b))
theorem numb_nil (b k d w : Int) : numb b [] k d w = (5, 0, []) := rfl
theorem numb_no {b k d w : Int} {c : UInt8} {r : List UInt8} (h : vB c < 0) : numb b (c :: r) k d w = (5, 0, []) := by unfold numb; rw [if_pos h]
theorem numb_over {b k d w : Int} {c : UInt8} {r : List UInt8} (h : ¬ vB c < 0) (h2 : 4294967295 < d + vB c * w) : numb b (c :: r) k d w = (6, 0, []) := by unfold numb; rw [if_neg h, if_pos h2]
theorem numb_end {b k d w : Int} {c : UInt8} {r : List UInt8} (h : ¬ vB c < 0) (h2 : ¬ 4294967295 < d + vB c * w) (h3 : vB c < bndI k b) : numb b (c :: r) k d w = (0, d + vB c * w, r) := by
  unfold numb; rw [if_neg h, if_neg h2, if_pos h3]
theorem numb_wide {b k d w : Int} {c : UInt8} {r : List UInt8} (h : ¬ vB c < 0) (h2 : ¬ 4294967295 < d + vB c * w) (h3 : ¬ vB c < bndI k b) (h4 : 4294967295 < w * (36 - bndI k b)) : numb b (c :: r) k d w = (6, 0, []) := by
  unfold numb; rw [if_neg h, if_neg h2, if_neg h3, if_pos h4]
theorem numb_go {b k d w : Int} {c : UInt8} {r : List UInt8} (h : ¬ vB c < 0) (h2 : ¬ 4294967295 < d + vB c * w) (h3 : ¬ vB c < bndI k b) (h4 : ¬ 4294967295 < w * (36 - bndI k b)) :
    numb b (c :: r) k d w = numb b r (k + 1) (d + vB c * w) (w * (36 - bndI k b)) := by
  conv => lhs; unfold numb
  rw [if_neg h, if_neg h2, if_neg h3, if_neg h4]
/-- what a number leaves is shorter, and the number is bounded -/
theorem numb_less (b : Int) : ∀ (r : List UInt8) (k d w : Int), 0 ≤ d → d ≤ 4294967295 → 0 ≤ w → 0 ≤ (numb b r k d w).2.1 ∧ (numb b r k d w).2.1 ≤ 4294967295 ∧ ((numb b r k d w).1 = 0 → ∃ p, p ≠ [] ∧ r = p ++ (numb b r k d w).2.2) ∧ ((numb b r k d w).1 = 0 ∨ (numb b r k d w).1 = 5 ∨ (numb b r k d w).1 = 6)
  | [], k, d, w, h0, h1, hw => by simp [numb]
  | c :: r, k, d, w, h0, h1, hw => by
    by_cases h : vB c < 0
    · rw [numb_no h]; simp
    by_cases h2 : 4294967295 < d + vB c * w
    · rw [numb_over h h2]; simp
    have hm : 0 ≤ vB c * w := Int.mul_nonneg (by omega) hw
    by_cases h3 : vB c < bndI k b
    · rw [numb_end h h2 h3]
      exact ⟨by simp only; omega, by simp only; omega, fun _ => ⟨[c], by simp, rfl⟩, .inl rfl⟩
    by_cases h4 : 4294967295 < w * (36 - bndI k b)
    · rw [numb_wide h h2 h3 h4]; simp
    · rw [numb_go h h2 h3 h4]
      have hb := bnd_bd k b
      obtain ⟨i1, i2, i3, i4⟩ := numb_less b r (k + 1) (d + vB c * w) (w * (36 - bndI k b)) (by omega) (by omega) (Int.mul_nonneg hw (by omega))
      refine ⟨i1, i2, fun h => ?_, i4⟩
      obtain ⟨p, _, hp⟩ := i3 h
      exact ⟨c :: p, by simp, by rw [List.cons_append, ← hp]⟩
/-- points, n, at, the bias, whether the first number comes -/
abbrev Ds := List Int × Int × Int × Int × Bool
def insI (l : List Int) (i : Nat) (x : Int) : List Int := l.take i ++ x :: l.drop i
def putS (d : Int) (st : Ds) : Int × Ds :=
  if 4294967295 < st.2.2.1 + d then (6, st)
  else if 1114111 < st.2.1 + (st.2.2.1 + d) / (st.1.length + 1) then (4, st)
  else if 4096 < st.1.length + 1 then (3, st)
  else (0, insI st.1 ((st.2.2.1 + d) % (st.1.length + 1)).toNat (st.2.1 + (st.2.2.1 + d) / (st.1.length + 1)), st.2.1 + (st.2.2.1 + d) / (st.1.length + 1), (st.2.2.1 + d) % (st.1.length + 1) + 1, adp d (st.1.length + 1) st.2.2.2.2, false)
theorem putS_over {d : Int} {st : Ds} (h : 4294967295 < st.2.2.1 + d) : putS d st = (6, st) := by unfold putS; rw [if_pos h]
theorem putS_range {d : Int} {st : Ds} (h : ¬ 4294967295 < st.2.2.1 + d) (h2 : 1114111 < st.2.1 + (st.2.2.1 + d) / (st.1.length + 1)) : putS d st = (4, st) := by unfold putS; rw [if_neg h, if_pos h2]
theorem putS_long {d : Int} {st : Ds} (h : ¬ 4294967295 < st.2.2.1 + d) (h2 : ¬ 1114111 < st.2.1 + (st.2.2.1 + d) / (st.1.length + 1)) (h3 : 4096 < st.1.length + 1) : putS d st = (3, st) := by unfold putS; rw [if_neg h, if_neg h2, if_pos h3]
theorem putS_ok {d : Int} {st : Ds} (h : ¬ 4294967295 < st.2.2.1 + d) (h2 : ¬ 1114111 < st.2.1 + (st.2.2.1 + d) / (st.1.length + 1)) (h3 : ¬ 4096 < st.1.length + 1) :
    putS d st = (0, insI st.1 ((st.2.2.1 + d) % (st.1.length + 1)).toNat (st.2.1 + (st.2.2.1 + d) / (st.1.length + 1)), st.2.1 + (st.2.2.1 + d) / (st.1.length + 1), (st.2.2.1 + d) % (st.1.length + 1) + 1, adp d (st.1.length + 1) st.2.2.2.2, false) := by
  unfold putS; rw [if_neg h, if_neg h2, if_neg h3]
/-- the state at the head of each number -/
structure DInv (st : Ds) : Prop where
  n0 : 128 ≤ st.2.1
  n1 : st.2.1 ≤ 1114111
  a0 : 0 ≤ st.2.2.1
  a1 : st.2.2.1 ≤ 5000
  b0 : 0 ≤ st.2.2.2.1
  b1 : st.2.2.2.1 ≤ 1099511627776
  l : st.1.length ≤ 4096
  p : ∀ x ∈ st.1, 0 ≤ x ∧ x ≤ 1114111
theorem insI_mem {l : List Int} {i : Nat} {x y : Int} (h : y ∈ insI l i x) : y = x ∨ y ∈ l := by
  unfold insI at h
  rcases List.mem_append.1 h with h | h
  · exact .inr (List.mem_of_mem_take h)
  · rcases List.mem_cons.1 h with h | h
    · exact .inl h
    · exact .inr (List.mem_of_mem_drop h)
theorem insI_len {l : List Int} {i : Nat} {x : Int} (h : i ≤ l.length) : (insI l i x).length = l.length + 1 := by simp [insI]; omega
theorem putS_inv {d : Int} {st : Ds} (hi : DInv st) (d0 : 0 ≤ d) (d1 : d ≤ 4294967295) (h : ¬ 4294967295 < st.2.2.1 + d) (h2 : ¬ 1114111 < st.2.1 + (st.2.2.1 + d) / (st.1.length + 1)) (h3 : ¬ 4096 < st.1.length + 1) :
    DInv (insI st.1 ((st.2.2.1 + d) % (st.1.length + 1)).toNat (st.2.1 + (st.2.2.1 + d) / (st.1.length + 1)), st.2.1 + (st.2.2.1 + d) / (st.1.length + 1), (st.2.2.1 + d) % (st.1.length + 1) + 1, adp d (st.1.length + 1) st.2.2.2.2, false) := by
  have a0 := hi.a0
  have m0 := Int.emod_nonneg (st.2.2.1 + d) (show (st.1.length + 1 : Int) ≠ 0 by omega)
  have m1 := Int.emod_lt_of_pos (st.2.2.1 + d) (show (0 : Int) < st.1.length + 1 by omega)
  have q0 := Int.ediv_nonneg (show 0 ≤ st.2.2.1 + d by omega) (show (0 : Int) ≤ st.1.length + 1 by omega)
  have hb := adp_bd d (st.1.length + 1) st.2.2.2.2 d0 (by omega) (by omega)
  have hn := hi.n0
  refine ⟨by simp only; omega, by simp only; omega, by simp only; omega, by simp only; omega, hb.1, hb.2, ?_, ?_⟩
  · simp only
    rw [insI_len (by omega)]
    omega
  · simp only
    intro x hx
    rcases insI_mem hx with rfl | hx
    · omega
    · exact hi.p x hx
def decL : Nat → List UInt8 → Ds → List Int × Int
  | 0, _, st => (st.1, 0)
  | f + 1, r, st =>
    if r = [] then (st.1, 0)
    else if (numb st.2.2.2.1 r 1 0 1).1 ≠ 0 then ([], (numb st.2.2.2.1 r 1 0 1).1)
    else if (putS (numb st.2.2.2.1 r 1 0 1).2.1 st).1 ≠ 0 then ([], (putS (numb st.2.2.2.1 r 1 0 1).2.1 st).1)
    else decL f (numb st.2.2.2.1 r 1 0 1).2.2 (putS (numb st.2.2.2.1 r 1 0 1).2.1 st).2
theorem decL_end (f : Nat) (st : Ds) : decL f [] st = (st.1, 0) := by cases f <;> simp [decL]
theorem decL_num {f : Nat} {r : List UInt8} {st : Ds} {x : Int} (hf : r.length ≤ f) (hr : r ≠ []) (h : (numb st.2.2.2.1 r 1 0 1).1 = x) (hx : x ≠ 0) : decL f r st = ([], x) := by
  match f, hf with
  | 0, hf => exact absurd (List.length_eq_zero_iff.1 (by omega)) hr
  | f + 1, hf => unfold decL; rw [if_neg hr, if_pos (by rw [h]; exact hx), h]
theorem decL_put {f : Nat} {r r' : List UInt8} {st st' : Ds} {x d : Int} (hf : r.length ≤ f) (hr : r ≠ []) (h : numb st.2.2.2.1 r 1 0 1 = (0, d, r')) (h2 : putS d st = (x, st')) (hx : x ≠ 0) : decL f r st = ([], x) := by
  match f, hf with
  | 0, hf => exact absurd (List.length_eq_zero_iff.1 (by omega)) hr
  | f + 1, hf => unfold decL; rw [if_neg hr, if_neg (by rw [h]; simp), if_pos (by rw [h, h2]; exact hx), h, h2]
theorem decL_go {f : Nat} {r r' : List UInt8} {st st' : Ds} {d : Int} (hf : r.length ≤ f) (hr : r ≠ []) (h : numb st.2.2.2.1 r 1 0 1 = (0, d, r')) (h2 : putS d st = (0, st')) :
    ∃ f', decL f r st = decL f' r' st' ∧ r'.length ≤ f' ∧ r'.length < r.length := by
  have hl := (numb_less st.2.2.2.1 r 1 0 1 (by omega) (by omega) (by omega)).2.2.1 (by rw [h])
  rw [h] at hl
  obtain ⟨p, hp, he⟩ := hl
  have hpl : 0 < p.length := List.length_pos_iff.2 hp
  have hlen : r.length = p.length + r'.length := by conv => lhs; rw [he]; rw [List.length_append]
  match f, hf with
  | 0, hf => exact absurd (List.length_eq_zero_iff.1 (by omega)) hr
  | f + 1, hf => exact ⟨f, by conv => lhs; unfold decL; rw [if_neg hr, if_neg (by rw [h]; simp), if_neg (by rw [h, h2]; simp), h, h2], by omega, by omega⟩
/-- where the numbers begin: behind the last hyphen -/
def hyf (l : List UInt8) : Nat := (l.reverse.dropWhile fun c => decide (c ≠ 45)).length
theorem hyf_nil : hyf [] = 0 := rfl
theorem hyf_yes (l : List UInt8) : hyf (l ++ [45]) = l.length + 1 := by simp [hyf]
theorem hyf_no (l : List UInt8) {c : UInt8} (h : c ≠ 45) : hyf (l ++ [c]) = hyf l := by simp [hyf, h]
theorem hyf_le (l : List UInt8) : hyf l ≤ l.length := by
  unfold hyf
  have := (List.dropWhile_sublist (l := l.reverse) (fun c => decide (c ≠ 45))).length_le
  simpa using this
theorem hyf_app : ∀ (b a : List UInt8), (∀ c ∈ b, c ≠ 45) → hyf (a ++ b) = hyf a
  | [], a, _ => by simp
  | c :: b, a, h => by
    rw [show a ++ c :: b = (a ++ [c]) ++ b by simp, hyf_app b (a ++ [c]) (fun x hx => h x (List.mem_cons_of_mem _ hx)), hyf_no a (h c List.mem_cons_self)]
def preL (s : List UInt8) : List UInt8 := s.take (hyf s - 1)
def bigB (l : List UInt8) : Bool := l.any fun c => decide (128 ≤ c.toNat)
def ptsL (l : List UInt8) : List Int := l.map fun c => (c.toNat : Int)
def decE (s : List UInt8) : List Int × Int :=
  if 32768 < s.length then ([], 3)
  else if bigB (preL s) then ([], 5)
  else if 4096 < (preL s).length then ([], 3)
  else decL s.length (s.drop (hyf s)) (ptsL (preL s), 128, 0, 72, true)
theorem decE_long {s : List UInt8} (h : 32768 < s.length) : decE s = ([], 3) := by unfold decE; rw [if_pos h]
theorem decE_big {s : List UInt8} (h : ¬ 32768 < s.length) (h2 : bigB (preL s) = true) : decE s = ([], 5) := by unfold decE; rw [if_neg h, if_pos h2]
theorem decE_many {s : List UInt8} (h : ¬ 32768 < s.length) (h2 : bigB (preL s) = false) (h3 : 4096 < (preL s).length) : decE s = ([], 3) := by unfold decE; rw [if_neg h, if_neg (by simp [h2]), if_pos h3]
theorem decE_go {s : List UInt8} (h : ¬ 32768 < s.length) (h2 : bigB (preL s) = false) (h3 : ¬ 4096 < (preL s).length) : decE s = decL s.length (s.drop (hyf s)) (ptsL (preL s), 128, 0, 72, true) := by
  unfold decE; rw [if_neg h, if_neg (by simp [h2]), if_neg h3]
theorem dInv_start {l : List UInt8} (h : ¬ 4096 < l.length) (h2 : ∀ c ∈ l, c.toNat < 128) : DInv (ptsL l, 128, 0, 72, true) := by
  refine ⟨by simp, by simp, by simp, by simp, by simp, by simp, by simp only [ptsL, List.length_map]; omega, ?_⟩
  intro x hx
  obtain ⟨c, hc, rfl⟩ := List.mem_map.1 hx
  have := h2 c hc
  omega
end Go.Proofs.YtkgnhdebphaknaaDoor
