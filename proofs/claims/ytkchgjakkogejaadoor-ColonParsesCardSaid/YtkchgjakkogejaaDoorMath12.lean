/- Plain: addresses of eight groups in writing (layer 8): cut at a byte; the groups that a text is. -/
import Derived.Test.YtkchgjakkogejaaDoorMath11
namespace Go.Proofs.YtkchgjakkogejaaDoor
open Go.RowKit Go
set_option linter.unusedVariables false
/- cut at each x -/
def cutX (x : UInt8) : List UInt8 → List (List UInt8)
  | [] => [[]]
  | c :: r => if c = x then [] :: cutX x r else match cutX x r with
    | p :: t => (c :: p) :: t
    | [] => [[c]]
/- cut at the first k x -/
def cutXN (x : UInt8) : List UInt8 → Nat → List (List UInt8)
  | l, 0 => [l]
  | [], _ + 1 => [[]]
  | c :: r, k + 1 => if c = x then [] :: cutXN x r k else match cutXN x r (k + 1) with
    | p :: t => (c :: p) :: t
    | [] => [[c]]
theorem cutX_ne (x : UInt8) (l : List UInt8) : cutX x l ≠ [] := by
  cases l with
  | nil => simp [cutX]
  | cons c r =>
    rw [cutX]
    split
    · simp
    · split <;> simp
theorem cutX_hit (x : UInt8) (l r : List UInt8) (h : x ∉ l) : cutX x (l ++ x :: r) = l :: cutX x r := by
  induction l with
  | nil => simp [cutX]
  | cons c t ih =>
    have h1 : ¬ c = x := fun e => h (by rw [e]; simp)
    have h2 : x ∉ t := fun e => h (by simp [e])
    rw [List.cons_append, cutX, if_neg h1, ih h2]
theorem cutX_none (x : UInt8) (l : List UInt8) (h : x ∉ l) : cutX x l = [l] := by
  induction l with
  | nil => rfl
  | cons c t ih =>
    have h1 : ¬ c = x := fun e => h (by rw [e]; simp)
    have h2 : x ∉ t := fun e => h (by simp [e])
    rw [cutX, if_neg h1, ih h2]
theorem cutXN_zero (x : UInt8) (l : List UInt8) : cutXN x l 0 = [l] := by cases l <;> rfl
theorem cutXN_ne (x : UInt8) (l : List UInt8) (k : Nat) : cutXN x l k ≠ [] := by
  cases k with
  | zero => rw [cutXN_zero]; simp
  | succ k =>
    cases l with
    | nil => simp [cutXN]
    | cons c r =>
      rw [cutXN]
      split
      · simp
      · split <;> simp
theorem cutXN_all (x : UInt8) : ∀ (l : List UInt8) (k : Nat), (cutX x l).length ≤ k + 1 → cutXN x l k = cutX x l := by
  intro l
  induction l with
  | nil => intro k _; cases k <;> rfl
  | cons c r ih =>
    intro k h
    have hne := cutX_ne x r
    by_cases hc : c = x
    · rw [cutX, if_pos hc] at h ⊢
      cases k with
      | zero =>
        exfalso
        have : 0 < (cutX x r).length := List.length_pos_iff.2 hne
        simp only [List.length_cons] at h
        omega
      | succ k =>
        rw [cutXN, if_pos hc, ih k (by simp only [List.length_cons] at h; omega)]
    · rw [cutX, if_neg hc] at h ⊢
      have hl : (cutX x r).length ≤ k + 1 := by
        split at h
        · rename_i p t e
          rw [e]
          simpa using h
        · rename_i e
          exact absurd e hne
      have := ih k hl
      cases k with
      | zero =>
        rw [cutXN_zero] at this ⊢
        rw [← this]
      | succ k => rw [cutXN, if_neg hc, this]
theorem cutXN_over (x : UInt8) : ∀ (l : List UInt8) (k : Nat), k + 1 < (cutX x l).length → ∃ a p, cutXN x l k = a ++ [p] ∧ x ∈ p := by
  intro l
  induction l with
  | nil => intro k h; simp [cutX] at h
  | cons c r ih =>
    intro k h
    have hne := cutX_ne x r
    by_cases hc : c = x
    · rw [cutX, if_pos hc] at h
      cases k with
      | zero => exact ⟨[], c :: r, cutXN_zero _ _, by simp [hc]⟩
      | succ k =>
        obtain ⟨a, p, h1, h2⟩ := ih k (by simp only [List.length_cons] at h; omega)
        exact ⟨[] :: a, p, by rw [cutXN, if_pos hc, h1]; rfl, h2⟩
    · rw [cutX, if_neg hc] at h
      have hl : k + 1 < (cutX x r).length := by
        split at h
        · rename_i p t e
          rw [e]
          simpa using h
        · rename_i e
          exact absurd e hne
      obtain ⟨a, p, h1, h2⟩ := ih k hl
      cases k with
      | zero =>
        rw [cutXN_zero] at h1
        refine ⟨[], c :: r, cutXN_zero _ _, ?_⟩
        have : r = p := by
          cases a with
          | nil => simpa using h1
          | cons y t => simp at h1
        rw [this]
        simp [h2]
      | succ k =>
        cases a with
        | nil => exact ⟨[], c :: p, by rw [cutXN, if_neg hc, h1]; rfl, by simp [h2]⟩
        | cons y t => exact ⟨(c :: y) :: t, p, by rw [cutXN, if_neg hc, h1]; rfl, h2⟩
theorem cutXN_hit (x : UInt8) (l r : List UInt8) (k : Nat) (h : x ∉ l) : cutXN x (l ++ x :: r) (k + 1) = l :: cutXN x r k := by
  induction l with
  | nil => simp [cutXN]
  | cons c t ih =>
    have h1 : ¬ c = x := fun e => h (by rw [e]; simp)
    have h2 : x ∉ t := fun e => h (by simp [e])
    rw [List.cons_append, cutXN, if_neg h1, ih h2]
theorem cutXN_none (x : UInt8) (l : List UInt8) (k : Nat) (h : x ∉ l) : cutXN x l k = [l] := by
  cases k with
  | zero => exact cutXN_zero x l
  | succ k =>
    induction l with
    | nil => rfl
    | cons c t ih =>
      have h1 : ¬ c = x := fun e => h (by rw [e]; simp)
      have h2 : x ∉ t := fun e => h (by simp [e])
      rw [cutXN, if_neg h1, ih h2]
theorem index_hitX (x : UInt8) (a b : List UInt8) (ha : x ∉ a) : Lib.index (a ++ x :: b) [x] = a.length := by
  rw [Lib.index_one (a ++ x :: b) x]
  rcases Int.lt_or_le (Lib.indexByte (a ++ x :: b) x) 0 with h1 | h1
  · have h2 := Lib.indexByte_ge (a ++ x :: b) x
    exact absurd (by simp) (Lib.indexByte_none (l := a ++ x :: b) (c := x) (by omega) a.length)
  · obtain ⟨k, hk⟩ : ∃ k : Nat, Lib.indexByte (a ++ x :: b) x = k := ⟨_, (Int.toNat_of_nonneg h1).symm⟩
    obtain ⟨h2, h3⟩ := Lib.indexByte_some hk
    rw [hk]
    rcases Nat.lt_trichotomy k a.length with h4 | h4 | h4
    · rw [List.getElem?_append_left h4] at h2
      exact absurd (List.mem_of_getElem? h2) ha
    · rw [h4]
    · exact absurd (by simp) (h3 a.length h4)
theorem index_noneX (x : UInt8) (l : List UInt8) (hm : x ∉ l) : Lib.index l [x] = -1 := by
  rw [Lib.index_one l x]
  rcases Int.lt_or_le (Lib.indexByte l x) 0 with h1 | h1
  · have h2 := Lib.indexByte_ge l x
    omega
  · obtain ⟨k, hk⟩ : ∃ k : Nat, Lib.indexByte l x = k := ⟨_, (Int.toNat_of_nonneg h1).symm⟩
    exact absurd (List.mem_of_getElem? (Lib.indexByte_some hk).1) hm
theorem split_cutXN (x : UInt8) : ∀ (k : Nat) (l : List UInt8), Lib.splitK [x] 0 k l = cutXN x l k := by
  intro k
  induction k with
  | zero => intro l; rw [cutXN_zero]; rfl
  | succ k ih =>
    intro l
    by_cases hm : x ∈ l
    · obtain ⟨a, b, rfl, ha⟩ := List.eq_append_cons_of_mem hm
      rw [Lib.splitK, index_hitX x a b ha]
      have hq : ((a.length : Int) == -1) = false := by simp
      rw [hq, cutXN_hit x a b k ha, ← ih b]
      simp
    · rw [Lib.splitK, index_noneX x l hm, cutXN_none x l _ hm]
      simp
theorem cutXN_big (x : UInt8) : ∀ (l : List UInt8) (k d : Nat), l.length ≤ k → cutXN x l k = cutXN x l (k + d) := by
  intro l
  induction l with
  | nil =>
    intro k d _
    cases k with
    | zero => cases d <;> rfl
    | succ k => rw [show k + 1 + d = (k + d) + 1 by omega]; rfl
  | cons c r ih =>
    intro k d h
    cases k with
    | zero => simp at h
    | succ k =>
      rw [show k + 1 + d = (k + d) + 1 by omega, cutXN, cutXN]
      have h' : r.length ≤ k := by simpa using h
      rw [ih k d h', ih (k + 1) d (by omega), show k + 1 + d = k + d + 1 by omega]
theorem cutXN_mem (x : UInt8) : ∀ (l : List UInt8) (k : Nat) (p : List UInt8), p ∈ cutXN x l k → p.length ≤ l.length := by
  intro l
  induction l with
  | nil =>
    intro k p h
    cases k with
    | zero => simp [cutXN] at h; subst h; simp
    | succ k => simp [cutXN] at h; subst h; simp
  | cons c r ih =>
    intro k p h
    cases k with
    | zero => simp [cutXN] at h; subst h; simp
    | succ k =>
      rw [cutXN] at h
      split at h
      · rcases List.mem_cons.1 h with rfl | h
        · simp
        · have := ih k p h; simp; omega
      · split at h
        · rename_i y t e
          rcases List.mem_cons.1 h with rfl | h
          · have := ih (k + 1) y (by rw [e]; simp); simp; omega
          · have := ih (k + 1) p (by rw [e]; simp [h]); simp; omega
        · simp at h; subst h; simp
theorem cutXN_len (x : UInt8) (l : List UInt8) (k : Nat) : (cutXN x l k).length ≤ k + 1 := by
  rw [← split_cutXN]
  induction k generalizing l with
  | zero => simp [Lib.splitK]
  | succ k ih =>
    rw [Lib.splitK]
    split
    · simp
    · rw [List.length_cons]
      exact Nat.succ_le_succ (ih _)
/- the pieces joined again -/
def joiX (x : UInt8) : List (List UInt8) → List UInt8
  | [] => []
  | [p] => p
  | p :: q :: t => p ++ x :: joiX x (q :: t)
theorem joiX_cons (x : UInt8) (p : List UInt8) (t : List (List UInt8)) (h : t ≠ []) : joiX x (p :: t) = p ++ x :: joiX x t := by
  cases t with
  | nil => exact absurd rfl h
  | cons q t => rfl
theorem cutX_joi (x : UInt8) : ∀ (L : List (List UInt8)), L ≠ [] → (∀ p ∈ L, x ∉ p) → cutX x (joiX x L) = L := by
  intro L
  induction L with
  | nil => intro h; exact absurd rfl h
  | cons p t ih =>
    intro _ h
    have hp := h p (by simp)
    cases t with
    | nil => exact cutX_none x p hp
    | cons q t =>
      rw [joiX_cons x p (q :: t) (by simp), cutX_hit x p _ hp, ih (by simp) (fun y hy => h y (by simp [hy]))]
/- a group's digits -/
def hexN (l : List UInt8) : Nat := l.foldl (fun n c => 16 * n + (hexV c.toNat).toNat) 0
def allH (l : List UInt8) : Bool := l.all fun c => hexB c.toNat
def groupE (l : List UInt8) : Option Nat := if l = [] ∨ 4 < l.length ∨ allH l = false then none else some (hexN l)
theorem hexN_snoc (l : List UInt8) (c : UInt8) : hexN (l ++ [c]) = 16 * hexN l + (hexV c.toNat).toNat := by simp [hexN]
theorem hexN_fold : ∀ (l : List UInt8) (a : Nat), l.foldl (fun n c => 16 * n + (hexV c.toNat).toNat) a < (a + 1) * 16 ^ l.length := by
  intro l
  induction l with
  | nil => intro a; simp
  | cons c l ih =>
    intro a
    have h1 := ih (16 * a + (hexV c.toNat).toNat)
    have h2 := hexV_bd c.toNat
    rw [List.foldl_cons, List.length_cons, Nat.pow_succ, Nat.mul_comm (16 ^ l.length) 16, ← Nat.mul_assoc]
    exact Nat.lt_of_lt_of_le h1 (Nat.mul_le_mul_right _ (by omega))
theorem hexN_lt (l : List UInt8) : hexN l < 16 ^ l.length := by simpa [hexN] using hexN_fold l 0
theorem groupE_lt {l : List UInt8} {n : Nat} (h : groupE l = some n) : n < 65536 := by
  unfold groupE at h
  split at h
  · cases h
  · rename_i hh
    injection h with h
    have h1 := hexN_lt l
    have h2 : l.length ≤ 4 := by omega
    have : 16 ^ l.length ≤ 16 ^ 4 := Nat.pow_le_pow_right (by decide) h2
    omega
/- the last piece may be an address of four bytes -/
def fourE (l : List UInt8) : Option (List UInt8) := if (parseE l).err = 0 then some ((parseE l).ip.take 4) else none
def grp2 (b : List UInt8) : List Nat := [256 * (b.getD 0 0).toNat + (b.getD 1 0).toNat, 256 * (b.getD 2 0).toNat + (b.getD 3 0).toNat]
def sideP (last : Bool) : List (List UInt8) → Option (List Nat)
  | [] => some []
  | p :: r => match groupE p with
    | some n => (sideP last r).map (n :: ·)
    | none => if last = true ∧ r = [] then (fourE p).map grp2 else none
def sideE (last : Bool) (l : List UInt8) : Option (List Nat) := if l = [] then some [] else sideP last (cutX 58 l)
def sideC (last : Bool) (l : List UInt8) : Option (List Nat) := if l = [] then some [] else sideP last (cutXN 58 l 7)
def bytesG (g : List Nat) : List UInt8 := g.flatMap fun n => [byN n 8, byN n 0]
theorem bytesG_len (g : List Nat) : (bytesG g).length = 2 * g.length := by
  induction g with
  | nil => rfl
  | cons n g ih => rw [bytesG, List.flatMap_cons, List.length_append, List.length_cons]; unfold bytesG at ih; rw [ih]; simp; omega
theorem sideP_len (last : Bool) : ∀ (L : List (List UInt8)) (m : List Nat), sideP last L = some m → L.length ≤ m.length := by
  intro L
  induction L with
  | nil => intro m h; simp
  | cons p r ih =>
    intro m h
    rw [sideP] at h
    split at h
    · obtain ⟨m', h1, rfl⟩ := Option.map_eq_some_iff.1 h
      have := ih m' h1
      simp; omega
    · split at h
      · rename_i hh
        obtain ⟨b, _, rfl⟩ := Option.map_eq_some_iff.1 h
        rw [hh.2]
        simp [grp2]
      · cases h
theorem sideP_lt (last : Bool) : ∀ (L : List (List UInt8)) (m : List Nat), sideP last L = some m → ∀ n ∈ m, n < 65536 := by
  intro L
  induction L with
  | nil => intro m h; rw [sideP] at h; injection h with h; subst h; simp
  | cons p r ih =>
    intro m h
    rw [sideP] at h
    split at h
    · rename_i v hv
      obtain ⟨m', h1, rfl⟩ := Option.map_eq_some_iff.1 h
      intro n hn
      rcases List.mem_cons.1 hn with rfl | hn
      · exact groupE_lt hv
      · exact ih m' h1 n hn
    · split at h
      · obtain ⟨b, _, rfl⟩ := Option.map_eq_some_iff.1 h
        intro n hn
        have := UInt8.toNat_lt (b.getD 0 0)
        have := UInt8.toNat_lt (b.getD 1 0)
        have := UInt8.toNat_lt (b.getD 2 0)
        have := UInt8.toNat_lt (b.getD 3 0)
        simp only [grp2, List.mem_cons, List.not_mem_nil, or_false] at hn
        rcases hn with rfl | rfl <;> omega
      · cases h
theorem parseE_quad (l : List UInt8) (h : (parseE l).err = 0) : ∃ a b c d, l = quadT a b c d ∧ parseE l = ⟨4, quad16 a b c d, 0⟩ := by
  have hq : (looseE l).err = 0 ∧ quadI (looseE l).ip = l := by
    by_cases hc : (looseE l).err = 0 ∧ quadI (looseE l).ip = l
    · exact hc
    · unfold parseE at h
      rw [if_neg hc] at h
      exact absurd h (by decide)
  have hl : l = quadT ((looseE l).ip.getD 0 0) ((looseE l).ip.getD 1 0) ((looseE l).ip.getD 2 0) ((looseE l).ip.getD 3 0) := hq.2.symm
  refine ⟨_, _, _, _, hl, ?_⟩
  have := quadT_parse ((looseE l).ip.getD 0 0) ((looseE l).ip.getD 1 0) ((looseE l).ip.getD 2 0) ((looseE l).ip.getD 3 0)
  rw [← hl] at this
  exact this
theorem parseE_not (l : List UInt8) (h : ∀ a b c d, l ≠ quadT a b c d) : parseE l = ⟨0, zero16, 5⟩ := by
  unfold parseE
  rw [if_neg]
  · rfl
  · rintro ⟨_, h2⟩
    exact h _ _ _ _ h2.symm
theorem quadT_chars (a b c d x : UInt8) (h : x ∈ quadT a b c d) : digB x = true ∨ x = 46 := by
  have key : ∀ (y : UInt8), ∀ z ∈ Lib.decDigits y.toNat, digB z = true := by
    intro y z hz
    rw [decX_eq _ (by have := UInt8.toNat_lt y; omega)] at hz
    have hall : ∀ n : Fin 256, (decX n.val).all digB = true := by decide +kernel
    exact List.all_eq_true.1 (hall ⟨y.toNat, UInt8.toNat_lt y⟩) z hz
  unfold quadT at h
  simp only [List.mem_append, List.mem_cons] at h
  rcases h with h | rfl | h | rfl | h | rfl | h
  · exact .inl (key a x h)
  · exact .inr rfl
  · exact .inl (key b x h)
  · exact .inr rfl
  · exact .inl (key c x h)
  · exact .inr rfl
  · exact .inl (key d x h)
theorem group_colon (p : List UInt8) (h : (58 : UInt8) ∈ p) : groupE p = none := by
  unfold groupE
  rw [if_pos]
  refine .inr (.inr ?_)
  unfold allH
  rw [List.all_eq_false]
  exact ⟨58, h, by decide⟩
theorem four_colon (p : List UInt8) (h : (58 : UInt8) ∈ p) : fourE p = none := by
  unfold fourE
  rw [if_neg]
  intro he
  obtain ⟨a, b, c, d, hl, _⟩ := parseE_quad p he
  rw [hl] at h
  rcases quadT_chars a b c d 58 h with h | h
  · revert h; decide
  · revert h; decide
theorem sideP_colon (last : Bool) (a : List (List UInt8)) (p : List UInt8) (h : (58 : UInt8) ∈ p) : sideP last (a ++ [p]) = none := by
  induction a with
  | nil =>
    rw [List.nil_append, sideP, group_colon p h]
    simp [four_colon p h]
  | cons q a ih =>
    rw [List.cons_append, sideP, ih]
    split
    · rfl
    · rw [if_neg]
      simp
/-- pieces beyond eight: none by the one way, too many by the other -/
theorem sideC_or (last : Bool) (l : List UInt8) : sideC last l = sideE last l ∨ (sideC last l = none ∧ ∀ m, sideE last l = some m → 8 < m.length) := by
  unfold sideC sideE
  by_cases h0 : l = []
  · left; rw [if_pos h0, if_pos h0]
  · rw [if_neg h0, if_neg h0]
    by_cases hl : (cutX 58 l).length ≤ 7 + 1
    · left; rw [cutXN_all 58 l 7 hl]
    · right
      obtain ⟨a, p, h1, h2⟩ := cutXN_over 58 l 7 (by omega)
      refine ⟨by rw [h1]; exact sideP_colon last a p h2, fun m hm => ?_⟩
      have := sideP_len last _ m hm
      omega
/- two colons -/
def noughtsN (n : Nat) : List Nat := List.replicate n 0
def plainE (l : List UInt8) : Option (List Nat) :=
  if Lib.index l [58, 58] = -1 then
    match sideE true l with
    | some m => if m.length = 8 then some m else none
    | none => none
  else
    match sideE false (l.take (Lib.index l [58, 58]).toNat), sideE true (l.drop ((Lib.index l [58, 58]).toNat + 2)) with
    | some x, some y => if x.length + y.length ≤ 7 then some (x ++ noughtsN (8 - x.length - y.length) ++ y) else none
    | _, _ => none
theorem plainE_len {l : List UInt8} {g : List Nat} (h : plainE l = some g) : g.length = 8 := by
  unfold plainE at h
  split at h
  · split at h
    · split at h
      · rename_i h8
        injection h with h
        rw [← h]; exact h8
      · cases h
    · cases h
  · split at h
    · split at h
      · injection h with h
        rw [← h]
        simp [noughtsN]
        omega
      · cases h
    · cases h
theorem plainE_lt {l : List UInt8} {g : List Nat} (h : plainE l = some g) : ∀ n ∈ g, n < 65536 := by
  have key : ∀ last l m, sideE last l = some m → ∀ n ∈ m, n < 65536 := by
    intro last l m h
    unfold sideE at h
    split at h
    · injection h with h; subst h; simp
    · exact sideP_lt last _ m h
  unfold plainE at h
  split at h
  · split at h
    · rename_i m hm
      split at h
      · injection h with h
        subst h
        exact key _ _ _ hm
      · cases h
    · cases h
  · split at h
    · rename_i x y hx hy
      split at h
      · injection h with h
        subst h
        intro n hn
        simp only [List.mem_append] at hn
        rcases hn with (hn | hn) | hn
        · exact key _ _ _ hx n hn
        · simp [noughtsN] at hn; omega
        · exact key _ _ _ hy n hn
      · cases h
    · cases h
end Go.Proofs.YtkchgjakkogejaaDoor
