/- Names of labels, and how they are written, in plain mathematics. -/
import Derived.Test.YtchjhpipiooibaaMath01
namespace Go.Proofs.Ytchjhpipiooibaa
open Go.RowKit
set_option linter.unusedVariables false
/-- what stands behind a backslash: the byte, and how many bytes more than one it has -/
def escL : List UInt8 → Option (UInt8 × Nat)
  | [] => none
  | x :: r => if digB x = false then some (x, 0) else if r.length < 2 then none else if digsB (x :: r.take 2) = true ∧ numL (x :: r.take 2) ≤ 255 then some (UInt8.ofNat (numL (x :: r.take 2)), 2) else none
theorem escL_cons (x : UInt8) (r : List UInt8) : escL (x :: r) = if digB x = false then some (x, 0) else if r.length < 2 then none else if digsB (x :: r.take 2) = true ∧ numL (x :: r.take 2) ≤ 255 then some (UInt8.ofNat (numL (x :: r.take 2)), 2) else none := rfl
def sgL (x : UInt8) (r : List UInt8) : Option (UInt8 × Nat) := if x.toNat = 92 then (escL r).map fun p => (p.1, p.2 + 1) else some (x, 0)
/-- the label that a written text goes on with, and what is left -/
def lab (l b : List UInt8) : Option (List UInt8 × List UInt8) :=
  match l with
  | [] => some (b, [])
  | x :: r => if x.toNat = 46 then some (b, x :: r) else
    match sgL x r with
    | none => none
    | some (c, k) => lab (r.drop k) (b ++ [c])
termination_by l.length
decreasing_by simp; omega
/-- a written name, label by label: errno, labels, ends with a dot? -/
def mach (l b : List UInt8) (n : List (List UInt8)) (dot : Bool) : Int × List (List UInt8) × Bool :=
  match l with
  | [] => if dot = true then (0, n, true) else if b = [] then (8, [], false) else if 63 < b.length then (7, [], false) else (0, n ++ [b], false)
  | x :: r => if x.toNat = 46 then (if b = [] then (8, [], false) else if 63 < b.length then (7, [], false) else mach r [] (n ++ [b]) true) else
    match sgL x r with
    | none => (5, [], false)
    | some (c, k) => mach (r.drop k) (b ++ [c]) n false
termination_by l.length
decreasing_by
  · simp
  · simp; omega
theorem lab_nil (b : List UInt8) : lab [] b = some (b, []) := by rw [lab]
theorem lab_dot (x : UInt8) (r b : List UInt8) (h : x.toNat = 46) : lab (x :: r) b = some (b, x :: r) := by rw [lab, if_pos h]
theorem lab_bad (x : UInt8) (r b : List UInt8) (h : x.toNat ≠ 46) (hs : sgL x r = none) : lab (x :: r) b = none := by rw [lab, if_neg h, hs]
theorem lab_go (x : UInt8) (r b : List UInt8) (h : x.toNat ≠ 46) {c : UInt8} {k : Nat} (hs : sgL x r = some (c, k)) : lab (x :: r) b = lab (r.drop k) (b ++ [c]) := by
  conv => lhs; rw [lab, if_neg h, hs]
theorem mach_end (b : List UInt8) (n : List (List UInt8)) (d : Bool) : mach [] b n d = if d = true then (0, n, true) else if b = [] then (8, [], false) else if 63 < b.length then (7, [], false) else (0, n ++ [b], false) := by rw [mach]
theorem mach_dot (x : UInt8) (r b : List UInt8) (n : List (List UInt8)) (d : Bool) (h : x.toNat = 46) : mach (x :: r) b n d = if b = [] then (8, [], false) else if 63 < b.length then (7, [], false) else mach r [] (n ++ [b]) true := by
  conv => lhs; rw [mach, if_pos h]
theorem mach_bad (x : UInt8) (r b : List UInt8) (n : List (List UInt8)) (d : Bool) (h : x.toNat ≠ 46) (hs : sgL x r = none) : mach (x :: r) b n d = (5, [], false) := by rw [mach, if_neg h, hs]
theorem mach_go (x : UInt8) (r b : List UInt8) (n : List (List UInt8)) (d : Bool) (h : x.toNat ≠ 46) {c : UInt8} {k : Nat} (hs : sgL x r = some (c, k)) : mach (x :: r) b n d = mach (r.drop k) (b ++ [c]) n false := by
  conv => lhs; rw [mach, if_neg h, hs]
theorem mach_any (x : UInt8) (r b : List UInt8) (n : List (List UInt8)) (d : Bool) : mach (x :: r) b n d = mach (x :: r) b n false := by
  by_cases h : x.toNat = 46
  · rw [mach_dot _ _ _ _ _ h, mach_dot _ _ _ _ _ h]
  · cases hs : sgL x r with
    | none => rw [mach_bad _ _ _ _ _ h hs, mach_bad _ _ _ _ _ h hs]
    | some p => obtain ⟨c, k⟩ := p; rw [mach_go _ _ _ _ _ h hs, mach_go _ _ _ _ _ h hs]
theorem mach_lab : ∀ (m : Nat) (l b : List UInt8) (n : List (List UInt8)), l.length ≤ m → mach l b n false = match lab l b with
    | none => (5, [], false)
    | some (c, r) => if c = [] then (8, [], false) else if 63 < c.length then (7, [], false) else match r with
      | [] => (0, n ++ [c], false)
      | _ :: t => mach t [] (n ++ [c]) true
  | m, [], b, n, _ => by rw [lab_nil, mach_end]; simp
  | 0, x :: r, b, n, h => absurd h (by simp)
  | m + 1, x :: r, b, n, h => by
    by_cases h1 : x.toNat = 46
    · rw [lab_dot _ _ _ h1, mach_dot _ _ _ _ _ h1]
    · cases hs : sgL x r with
      | none => rw [lab_bad _ _ _ h1 hs, mach_bad _ _ _ _ _ h1 hs]
      | some p =>
        obtain ⟨c, k⟩ := p
        rw [lab_go _ _ _ h1 hs, mach_go _ _ _ _ _ h1 hs]
        exact mach_lab m _ _ _ (by simp at h ⊢; omega)
theorem lab_rest : ∀ (m : Nat) (l b : List UInt8), l.length ≤ m → ∀ c x t, lab l b = some (c, x :: t) → x.toNat = 46
  | m, [], b, _, c, x, t, e => by rw [lab_nil] at e; simp at e
  | 0, y :: r, b, h, _, _, _, _ => absurd h (by simp)
  | m + 1, y :: r, b, h, c, x, t, e => by
    by_cases h1 : y.toNat = 46
    · rw [lab_dot _ _ _ h1] at e
      simp at e
      rw [← e.2.1]; exact h1
    · cases hs : sgL y r with
      | none => rw [lab_bad _ _ _ h1 hs] at e; cases e
      | some p =>
        obtain ⟨d, k⟩ := p
        rw [lab_go _ _ _ h1 hs] at e
        exact lab_rest m _ _ (by simp at h ⊢; omega) c x t e
/- the same as one name -/
def sizeL (n : List (List UInt8)) : Nat := 1 + (n.map fun l => l.length + 1).sum
def okLab (l : List UInt8) : Bool := decide (1 ≤ l.length) && decide (l.length ≤ 63)
theorem okLab_iff (l : List UInt8) : okLab l = true ↔ 1 ≤ l.length ∧ l.length ≤ 63 := by unfold okLab; simp
def checkL (n : List (List UInt8)) : Int := if n.all okLab = true then (if 255 < sizeL n then 3 else 0) else 7
theorem checkL_ok {n : List (List UInt8)} : checkL n = 0 ↔ n.all okLab = true ∧ sizeL n ≤ 255 := by
  unfold checkL
  by_cases h : n.all okLab = true
  · rw [if_pos h]
    by_cases h2 : 255 < sizeL n
    · rw [if_pos h2]; exact ⟨fun e => absurd e (by decide), fun e => by omega⟩
    · rw [if_neg h2]; exact ⟨fun _ => ⟨h, by omega⟩, fun _ => rfl⟩
  · rw [if_neg h]; simp [h]
def finL (m : Int × List (List UInt8) × Bool) : Int × List (List UInt8) × Bool := if m.1 = 0 ∧ 255 < sizeL m.2.1 then (3, [], false) else m
def parseL (s : List UInt8) : Int × List (List UInt8) × Bool := if s = [46] then (0, [], true) else finL (mach s [] [] false)
theorem mach_good : ∀ (m : Nat) (l b : List UInt8) (n : List (List UInt8)) (d : Bool), l.length ≤ m → n.all okLab = true →
    ((mach l b n d).1 = 0 ∧ (mach l b n d).2.1.all okLab = true) ∨ ((mach l b n d).1 ≠ 0 ∧ (mach l b n d).2 = ([], false))
  | m, [], b, n, d, _, hn => by
    rw [mach_end]
    by_cases h0 : d = true
    · rw [if_pos h0]; exact .inl ⟨rfl, hn⟩
    · rw [if_neg h0]
      by_cases h1 : b = []
      · rw [if_pos h1]; exact .inr ⟨by simp, rfl⟩
      · rw [if_neg h1]
        by_cases h2 : 63 < b.length
        · rw [if_pos h2]; exact .inr ⟨by simp, rfl⟩
        · rw [if_neg h2]
          have : 0 < b.length := List.length_pos_iff.2 h1
          refine .inl ⟨rfl, ?_⟩
          rw [List.all_append, hn]
          simp [okLab_iff]; omega
  | 0, x :: r, b, n, d, h, _ => absurd h (by simp)
  | m + 1, x :: r, b, n, d, h, hn => by
    by_cases h1 : x.toNat = 46
    · rw [mach_dot _ _ _ _ _ h1]
      by_cases h1 : b = []
      · rw [if_pos h1]; exact .inr ⟨by simp, rfl⟩
      · rw [if_neg h1]
        by_cases h2 : 63 < b.length
        · rw [if_pos h2]; exact .inr ⟨by simp, rfl⟩
        · rw [if_neg h2]
          have : 0 < b.length := List.length_pos_iff.2 h1
          refine mach_good m _ _ _ _ (by simp at h; omega) ?_
          rw [List.all_append, hn]
          simp [okLab_iff]; omega
    · cases hs : sgL x r with
      | none => rw [mach_bad _ _ _ _ _ h1 hs]; exact .inr ⟨by simp, rfl⟩
      | some p =>
        obtain ⟨c, k⟩ := p
        rw [mach_go _ _ _ _ _ h1 hs]
        exact mach_good m _ _ _ _ (by simp at h ⊢; omega) hn
theorem parse_good (s : List UInt8) : ((parseL s).1 = 0 ∧ checkL (parseL s).2.1 = 0) ∨ ((parseL s).1 ≠ 0 ∧ (parseL s).2 = ([], false)) := by
  unfold parseL
  by_cases h : s = [46]
  · rw [if_pos h]; exact .inl ⟨rfl, by decide⟩
  · rw [if_neg h]
    unfold finL
    rcases mach_good s.length s [] [] false (Nat.le_refl _) rfl with ⟨h1, h2⟩ | ⟨h1, h2⟩
    · by_cases h3 : 255 < sizeL (mach s [] [] false).2.1
      · rw [if_pos ⟨h1, h3⟩]; exact .inr ⟨by simp, rfl⟩
      · rw [if_neg (fun x => h3 x.2)]; exact .inl ⟨h1, checkL_ok.2 ⟨h2, by omega⟩⟩
    · rw [if_neg (fun x => h1 x.1)]; exact .inr ⟨h1, h2⟩
/- writing -/
def escB (c : UInt8) : List UInt8 :=
  if c.toNat = 46 ∨ c.toNat = 92 then [92, c] else if c.toNat < 33 ∨ 126 < c.toNat then [92, UInt8.ofNat (48 + c.toNat / 100), UInt8.ofNat (48 + c.toNat / 10 % 10), UInt8.ofNat (48 + c.toNat % 10)] else [c]
def escs (l : List UInt8) : List UInt8 := l.flatMap escB
def textD (n : List (List UInt8)) : List UInt8 := n.flatMap fun l => escs l ++ [46]
def wrtL (n : List (List UInt8)) : List UInt8 := if n = [] then [46] else textD n
def plainD (n : List (List UInt8)) : List UInt8 := (n.flatMap fun l => 46 :: escs l).drop 1
def plainL (n : List (List UInt8)) : List UInt8 := if n = [] then [46] else plainD n
theorem num3 : ∀ k : Fin 256, digB (UInt8.ofNat (48 + k.val / 100)) = true ∧ digsB [UInt8.ofNat (48 + k.val / 100), UInt8.ofNat (48 + k.val / 10 % 10), UInt8.ofNat (48 + k.val % 10)] = true ∧ numL [UInt8.ofNat (48 + k.val / 100), UInt8.ofNat (48 + k.val / 10 % 10), UInt8.ofNat (48 + k.val % 10)] = k.val := by decide +kernel
theorem sgL_esc (c : UInt8) (rest : List UInt8) : ∃ x r k, escB c ++ rest = x :: r ∧ x.toNat ≠ 46 ∧ sgL x r = some (c, k) ∧ r.drop k = rest := by
  unfold escB
  by_cases h1 : c.toNat = 46 ∨ c.toNat = 92
  · rw [if_pos h1]
    refine ⟨92, c :: rest, 1, rfl, by decide, ?_, rfl⟩
    have hd : digB c = false := by unfold digB; rcases h1 with h | h <;> simp [h]
    unfold sgL
    rw [if_pos (by decide), escL_cons, if_pos hd]; rfl
  · rw [if_neg h1]
    by_cases h2 : c.toNat < 33 ∨ 126 < c.toNat
    · rw [if_pos h2]
      obtain ⟨a1, a2, a3⟩ := num3 ⟨c.toNat, c.toNat_lt⟩
      refine ⟨92, UInt8.ofNat (48 + c.toNat / 100) :: UInt8.ofNat (48 + c.toNat / 10 % 10) :: UInt8.ofNat (48 + c.toNat % 10) :: rest, 3, rfl, by decide, ?_, rfl⟩
      have e : escL (UInt8.ofNat (48 + c.toNat / 100) :: UInt8.ofNat (48 + c.toNat / 10 % 10) :: UInt8.ofNat (48 + c.toNat % 10) :: rest) = some (c, 2) := by
        have ht : List.take 2 (UInt8.ofNat (48 + c.toNat / 10 % 10) :: UInt8.ofNat (48 + c.toNat % 10) :: rest) = [UInt8.ofNat (48 + c.toNat / 10 % 10), UInt8.ofNat (48 + c.toNat % 10)] := rfl
        rw [escL_cons, ht, if_neg (by simp only at a1; rw [a1]; simp), if_neg (by simp)]
        simp only at a2 a3
        rw [if_pos ⟨a2, by rw [a3]; have := c.toNat_lt; omega⟩, a3]
        simp
      unfold sgL
      rw [if_pos (by decide), e]; rfl
    · rw [if_neg h2]
      refine ⟨c, rest, 0, rfl, fun h => h1 (.inl h), ?_, rfl⟩
      unfold sgL
      rw [if_neg (fun h => h1 (.inr h))]
theorem mach_escs : ∀ (l b rest : List UInt8) (n : List (List UInt8)) (d : Bool), l ≠ [] ∨ d = false → mach (escs l ++ rest) b n d = mach rest (b ++ l) n false
  | [], b, rest, n, d, h => by
    obtain rfl : d = false := by simpa using h
    simp [escs]
  | c :: l, b, rest, n, d, _ => by
    obtain ⟨x, r, k, e1, e2, e3, e4⟩ := sgL_esc c (escs l ++ rest)
    have : escs (c :: l) ++ rest = x :: r := by rw [← e1]; simp [escs]
    rw [this, mach_go _ _ _ _ _ e2 e3, e4, mach_escs l _ _ _ _ (.inr rfl), List.append_assoc]; rfl
theorem mach_label (l rest : List UInt8) (n : List (List UInt8)) (d : Bool) (h : okLab l = true) : mach (escs l ++ 46 :: rest) [] n d = mach rest [] (n ++ [l]) true := by
  have h2 := (okLab_iff l).1 h
  have hne : l ≠ [] := by rintro rfl; simp at h2
  rw [mach_escs l [] (46 :: rest) n d (.inl hne), mach_dot _ _ _ _ _ (by decide), List.nil_append, if_neg hne, if_neg (by omega)]
theorem mach_text : ∀ (n m : List (List UInt8)) (d : Bool), n.all okLab = true → n ≠ [] ∨ d = true → ∀ rest, mach (textD n ++ rest) [] m d = mach rest [] (m ++ n) true
  | [], m, d, _, h, rest => by
    obtain rfl : d = true := by simpa using h
    simp [textD]
  | l :: n, m, d, hn, _, rest => by
    simp only [List.all_cons, Bool.and_eq_true] at hn
    have : textD (l :: n) ++ rest = escs l ++ 46 :: (textD n ++ rest) := by simp [textD]
    rw [this, mach_label _ _ _ _ hn.1, mach_text n (m ++ [l]) true hn.2 (.inr rfl) rest]
    simp
theorem escs_head (c : UInt8) (l rest : List UInt8) : escs (c :: l) ++ rest ≠ [46] := by
  obtain ⟨x, r, k, e1, e2, e3, e4⟩ := sgL_esc c (escs l ++ rest)
  have : escs (c :: l) ++ rest = x :: r := by rw [← e1]; simp [escs]
  rw [this]
  intro h
  simp at h
  exact e2 (by rw [h.1]; rfl)
theorem textD_snoc (n : List (List UInt8)) (l : List UInt8) : textD (n ++ [l]) = textD n ++ (escs l ++ [46]) := by simp [textD]
theorem plainD_snoc (n : List (List UInt8)) (l : List UInt8) : plainD (n ++ [l]) = textD n ++ escs l := by
  have key : ∀ n : List (List UInt8), (n.flatMap fun l => 46 :: escs l) ++ [46] = 46 :: textD n := by
    intro n
    induction n with
    | nil => rfl
    | cons a n ih => simp [textD] at ih ⊢; exact ih
  have e := key (n ++ [l])
  rw [textD_snoc] at e
  have : ((n ++ [l]).flatMap fun l => 46 :: escs l) = 46 :: (textD n ++ escs l) := by
    have e2 : ((n ++ [l]).flatMap fun l => 46 :: escs l) ++ [46] = (46 :: (textD n ++ escs l)) ++ [46] := by rw [e]; simp
    exact List.append_cancel_right e2
  unfold plainD
  rw [this]; rfl
theorem textD_plainD (n : List (List UInt8)) (h : n ≠ []) : textD n = plainD n ++ [46] := by
  have e := (List.dropLast_concat_getLast h).symm
  rw [e, plainD_snoc, textD_snoc]; simp
theorem snoc_of (n : List (List UInt8)) (h : n ≠ []) : ∃ a l, n = a ++ [l] := ⟨n.dropLast, n.getLast h, (List.dropLast_concat_getLast h).symm⟩
theorem parse_fin {n : List (List UInt8)} {d : Bool} (h : checkL n = 0) : finL (0, n, d) = (0, n, d) := by
  unfold finL
  rw [if_neg (fun x => by have := (checkL_ok.1 h).2; have h2 := x.2; simp only at h2; omega)]
theorem ok_cons {n : List (List UInt8)} (h : checkL n = 0) (hne : n ≠ []) : ∃ c l m, n = (c :: l) :: m := by
  match n, hne with
  | [] :: m, _ =>
    have := (checkL_ok.1 h).1
    simp [okLab] at this
  | (c :: l) :: m, _ => exact ⟨c, l, m, rfl⟩
theorem parse_text (n : List (List UInt8)) (h : checkL n = 0) : parseL (wrtL n) = (0, n, true) := by
  by_cases hn : n = []
  · subst hn; rfl
  · unfold parseL wrtL
    rw [if_neg hn]
    have hne : textD n ≠ [46] := by
      obtain ⟨c, l, m, rfl⟩ := ok_cons h hn
      have := escs_head c l (46 :: textD m)
      intro e
      apply this
      rw [← e]; simp [textD]
    rw [if_neg hne]
    have := mach_text n [] false (checkL_ok.1 h).1 (.inl hn) []
    rw [List.append_nil] at this
    rw [this, mach_end, if_pos rfl]
    exact parse_fin h
theorem parse_plain (n : List (List UInt8)) (h : checkL n = 0) : parseL (plainL n) = (0, n, decide (n = [])) := by
  by_cases hn : n = []
  · subst hn; rfl
  · unfold parseL plainL
    rw [if_neg hn]
    obtain ⟨a, l, rfl⟩ := snoc_of n hn
    have hall := (checkL_ok.1 h).1
    rw [List.all_append, Bool.and_eq_true] at hall
    have hl : okLab l = true := by simpa using hall.2
    have hl2 := (okLab_iff l).1 hl
    have hlne : l ≠ [] := by rintro rfl; simp at hl2
    rw [plainD_snoc]
    have hne : textD a ++ escs l ≠ [46] := by
      match a, l, hlne with
      | [], c :: l, _ => have := escs_head c l []; simpa [textD] using this
      | [] :: a, _, _ => simp [okLab] at hall
      | (c :: k) :: a, l, _ =>
        have := escs_head c k (46 :: textD a ++ escs l)
        intro e
        apply this
        rw [← e]; simp [textD]
    rw [if_neg hne]
    have e : mach (textD a ++ escs l) [] [] false = (0, a ++ [l], false) := by
      by_cases ha : a = []
      · subst ha
        have := mach_escs l [] [] [] false (.inl hlne)
        simp only [textD, List.flatMap_nil, List.nil_append, List.append_nil] at this ⊢
        rw [this, mach_end, if_neg (by simp), if_neg hlne, if_neg (by omega)]; rfl
      · rw [mach_text a [] false hall.1 (.inl ha) (escs l)]
        have := mach_escs l [] [] ([] ++ a) true (.inl hlne)
        simp only [List.nil_append, List.append_nil] at this ⊢
        rw [this, mach_end, if_neg (by simp), if_neg hlne, if_neg (by omega)]
    rw [e, parse_fin h]
    simp
end Go.Proofs.Ytchjhpipiooibaa
