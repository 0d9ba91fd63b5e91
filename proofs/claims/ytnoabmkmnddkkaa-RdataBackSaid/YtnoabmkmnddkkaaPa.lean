/- Texts behind a law of this seat, in order: Math01, Math09, Math15, Math17, Math18, Math19. -/
import Derived.Lib.Strings
import Derived.WalkKit
namespace Go.Proofs.Ytnoabmkmnddkkaa
open Go.RowKit
theorem ret_int {k : IntKind} {a b : Int} (h : a = b) : Ending.returned (.int k a) = .returned (.int k b) := by rw [h]
theorem ret_bool {a b : Bool} (h : a = b) : Ending.returned (.bool a) = .returned (.bool b) := by rw [h]
theorem ret_str {a b : ByteArray} (h : a = b) : Ending.returned (.string a) = .returned (.string b) := by rw [h]
theorem take_snoc (s : ByteArray) (k : Nat) (h : k < s.size) : s.data.toList.take (k + 1) = s.data.toList.take k ++ [s[k]] := by
  rw [List.take_succ_eq_append_getElem (by simpa using h)]; rfl
theorem ret_v {k : IntKind} {a b : Int} (h : a = b) : Value.int k a = Value.int k b := by rw [h]
def strV (l : List UInt8) : Value := .string ⟨l.toArray⟩
def strVs (l : List (List UInt8)) : List Value := l.map strV
theorem strVs_app (a : List (List UInt8)) (x : List UInt8) : strVs (a ++ [x]) = strVs a ++ [strV x] := by simp [strVs]
end Go.Proofs.Ytnoabmkmnddkkaa
namespace Go.Proofs.Ytnoabmkmnddkkaa
open Go.RowKit
set_option linter.unusedVariables false
def sizeL (n : List (List UInt8)) : Nat := 1 + (n.map fun l => l.length + 1).sum
def okLab (l : List UInt8) : Bool := decide (1 ≤ l.length) && decide (l.length ≤ 63)
theorem okLab_iff (l : List UInt8) : okLab l = true ↔ 1 ≤ l.length ∧ l.length ≤ 63 := by unfold okLab; simp
def checkL (n : List (List UInt8)) : Int := if n.all okLab = true then (if 255 < sizeL n then 3 else 0) else 7
theorem checkL_ok {n : List (List UInt8)} : checkL n = 0 ↔ n.all okLab = true ∧ sizeL n ≤ 255 := by
  unfold checkL
  by_cases h : n.all okLab = true
  · rw [if_pos h]
    by_cases h2 : 255 < sizeL n
    · rw [if_pos h2]; exact ⟨fun e => absurd e (by decide), fun e => by omega⟩
    · rw [if_neg h2]; exact ⟨fun _ => ⟨h, by omega⟩, fun _ => rfl⟩
  · rw [if_neg h]; simp [h]
end Go.Proofs.Ytnoabmkmnddkkaa
namespace Go.Proofs.Ytnoabmkmnddkkaa
/-- a width, held to those that numbers have -/
def ocWide (w : Int) : Nat := (min (max w 0) 4).toNat
def ocByte (n : Int) : UInt8 := UInt8.ofNat (n % 256).toNat
/-- a number's octets, the highest first -/
def ocT : Nat → Int → List UInt8
  | 0, _ => []
  | k + 1, n => ocT k (n / 256) ++ [ocByte n]
/-- the number of octets -/
def ocN (l : List UInt8) : Nat := l.foldl (fun n c => 256 * n + c.toNat) 0
/-- what is taken, what is left, and the error -/
def ocTake (l : List UInt8) (x n : Int) : List UInt8 × List UInt8 × Int :=
  if x ≠ 0 then ([], l, x) else if (l.length : Int) < n then ([], l, 1) else (l.take n.toNat, l.drop n.toNat, 0)
theorem ocWide_le (w : Int) : ocWide w ≤ 4 := by unfold ocWide; omega
theorem ocT_len : ∀ (k : Nat) (n : Int), (ocT k n).length = k
  | 0, _ => rfl
  | k + 1, n => by simp [ocT, ocT_len k]
theorem ocT_top : ∀ (k : Nat) (n : Int), ocT (k + 1) n = ocByte (n / 256 ^ k) :: ocT k n
  | 0, n => by simp [ocT]
  | k + 1, n => by
    rw [ocT, ocT_top k, ocT, List.cons_append, Int.ediv_ediv_of_nonneg (by decide), show (256 : Int) * 256 ^ k = 256 ^ (k + 1) by rw [Int.pow_succ, Int.mul_comm]]
theorem ocByte_val (n : Int) : ((ocByte n).toNat : Int) = n % 256 := by
  unfold ocByte
  rw [UInt8.toNat_ofNat']
  omega
theorem ocN_snoc (l : List UInt8) (c : UInt8) : ocN (l ++ [c]) = 256 * ocN l + c.toNat := by simp [ocN]
theorem ocN_lt_aux (r : List UInt8) : ocN r.reverse < 256 ^ r.length := by
  induction r with
  | nil => decide
  | cons c r ih =>
    rw [List.reverse_cons, ocN_snoc, List.length_cons, Nat.pow_succ]
    have := UInt8.toNat_lt c
    omega
theorem ocN_lt (l : List UInt8) : ocN l < 256 ^ l.length := by
  have := ocN_lt_aux l.reverse
  simpa using this
theorem ocN_oct : ∀ (k : Nat) (n : Int), (ocN (ocT k n) : Int) = n % 256 ^ k
  | 0, n => by simp [ocT, ocN]
  | k + 1, n => by
    rw [ocT, ocN_snoc]
    have h := ocN_oct k (n / 256)
    have hb := ocByte_val n
    rw [Int.pow_succ, Int.mul_comm (256 ^ k) 256, Int.emod_def n (256 * 256 ^ k), ← Int.ediv_ediv_of_nonneg (by decide), Int.mul_assoc]
    rw [Int.emod_def (n / 256)] at h
    omega
theorem ocTake_all (l m : List UInt8) : ocTake (l ++ m) 0 (l.length : Int) = (l, m, 0) := by
  unfold ocTake
  rw [if_neg (by decide), if_neg (by simp; omega)]
  simp
def ocNumT (l : List UInt8) (x n : Int) : Nat × List UInt8 × Int := (ocN (ocTake l x (ocWide n : Nat)).1, (ocTake l x (ocWide n : Nat)).2)
end Go.Proofs.Ytnoabmkmnddkkaa
/- Layer 12: names as octets in a message, over plain lists. -/
namespace Go.Proofs.Ytnoabmkmnddkkaa
set_option linter.unusedVariables false
abbrev Lbs := List (List UInt8)
/-- what a reading comes to: the name, what is behind, the error -/
structure PkR where
  n : Lbs
  fin : Nat
  err : Int
def pkBad (x : Int) : PkR := ⟨[], 0, x⟩
/-- where a pointer leads -/
def ptrN (c d : UInt8) : Nat := 256 * (c.toNat - 192) + d.toNat
/-- a name's reading at p: what was led to last is low, its size so far, its labels so far, what is behind (0: not known) -/
def pkRun (m : List UInt8) (p low size : Nat) (n : Lbs) (fin : Nat) : PkR :=
  if h : p < m.length then
    if m[p].toNat = 0 then ⟨n, if fin = 0 then p + 1 else fin, 0⟩
    else if m[p].toNat ≤ 63 then
      if m.length < p + 1 + m[p].toNat then pkBad 1
      else if 255 < size + (m[p].toNat + 1) then pkBad 3
      else pkRun m (p + 1 + m[p].toNat) low (size + (m[p].toNat + 1)) (n ++ [(m.drop (p + 1)).take m[p].toNat]) fin
    else if m[p].toNat < 192 then pkBad 7
    else if h2 : p + 1 < m.length then
      if h3 : ptrN (m[p]'h) (m[p + 1]'h2) < low then pkRun m (ptrN (m[p]'h) (m[p + 1]'h2)) (ptrN (m[p]'h) (m[p + 1]'h2)) size n (if fin = 0 then p + 2 else fin)
      else pkBad 9
    else pkBad 1
  else pkBad 1
termination_by (low, m.length - p)
decreasing_by
  · exact Prod.Lex.right _ (by omega)
  · exact Prod.Lex.left _ _ h3
section
variable {m : List UInt8} {p low size fin : Nat} {n : Lbs}
theorem pkRun_out (h : ¬ p < m.length) : pkRun m p low size n fin = pkBad 1 := by
  rw [pkRun, dif_neg h]
theorem pkRun_end (h : p < m.length) (h0 : m[p].toNat = 0) : pkRun m p low size n fin = ⟨n, if fin = 0 then p + 1 else fin, 0⟩ := by
  rw [pkRun, dif_pos h, if_pos h0]
theorem pkRun_short (h : p < m.length) (h0 : m[p].toNat ≠ 0) (h1 : m[p].toNat ≤ 63) (h2 : m.length < p + 1 + m[p].toNat) : pkRun m p low size n fin = pkBad 1 := by
  rw [pkRun, dif_pos h, if_neg h0, if_pos h1, if_pos h2]
theorem pkRun_long (h : p < m.length) (h0 : m[p].toNat ≠ 0) (h1 : m[p].toNat ≤ 63) (h2 : ¬ m.length < p + 1 + m[p].toNat) (h3 : 255 < size + (m[p].toNat + 1)) : pkRun m p low size n fin = pkBad 3 := by
  rw [pkRun, dif_pos h, if_neg h0, if_pos h1, if_neg h2, if_pos h3]
theorem pkRun_label (h : p < m.length) (h0 : m[p].toNat ≠ 0) (h1 : m[p].toNat ≤ 63) (h2 : ¬ m.length < p + 1 + m[p].toNat) (h3 : ¬ 255 < size + (m[p].toNat + 1)) :
    pkRun m p low size n fin = pkRun m (p + 1 + m[p].toNat) low (size + (m[p].toNat + 1)) (n ++ [(m.drop (p + 1)).take m[p].toNat]) fin := by
  conv => lhs; rw [pkRun, dif_pos h, if_neg h0, if_pos h1, if_neg h2, if_neg h3]
theorem pkRun_lab (h : p < m.length) (h1 : ¬ m[p].toNat ≤ 63) (h2 : m[p].toNat < 192) : pkRun m p low size n fin = pkBad 7 := by
  rw [pkRun, dif_pos h, if_neg (by omega), if_neg h1, if_pos h2]
theorem pkRun_half (h : p < m.length) (h1 : ¬ m[p].toNat < 192) (h2 : ¬ p + 1 < m.length) : pkRun m p low size n fin = pkBad 1 := by
  rw [pkRun, dif_pos h, if_neg (by omega), if_neg (by omega), if_neg h1, dif_neg h2]
theorem pkRun_far (h : p < m.length) (h1 : ¬ m[p].toNat < 192) (h2 : p + 1 < m.length) (h3 : ¬ ptrN (m[p]'h) (m[p + 1]'h2) < low) : pkRun m p low size n fin = pkBad 9 := by
  rw [pkRun, dif_pos h, if_neg (by omega), if_neg (by omega), if_neg h1, dif_pos h2, dif_neg h3]
theorem pkRun_ptr (h : p < m.length) (h1 : ¬ m[p].toNat < 192) (h2 : p + 1 < m.length) (h3 : ptrN (m[p]'h) (m[p + 1]'h2) < low) :
    pkRun m p low size n fin = pkRun m (ptrN (m[p]'h) (m[p + 1]'h2)) (ptrN (m[p]'h) (m[p + 1]'h2)) size n (if fin = 0 then p + 2 else fin) := by
  conv => lhs; rw [pkRun, dif_pos h, if_neg (by omega), if_neg (by omega), if_neg h1, dif_pos h2, dif_pos h3]
end
/-- the name at an offset -/
def pkGet (m : List UInt8) (at_ : Int) : PkR := if at_ < 0 ∨ (m.length : Int) < at_ then pkBad 4 else pkRun m at_.toNat at_.toNat 1 [] 0
theorem pkRun_bad : ∀ (k : Nat) (m : List UInt8) (p low size : Nat) (n : Lbs) (fin : Nat), low * (m.length + 1) + (m.length - p) ≤ k →
    ((pkRun m p low size n fin).err = 0 ∨ ∃ x, x ≠ 0 ∧ pkRun m p low size n fin = pkBad x) := by
  intro k
  induction k with
  | zero =>
    intro m p low size n fin hk
    exact .inr ⟨1, by decide, pkRun_out (by omega)⟩
  | succ k ih =>
    intro m p low size n fin hk
    by_cases h : p < m.length
    · by_cases h0 : m[p].toNat = 0
      · exact .inl (by rw [pkRun_end h h0])
      · by_cases h1 : m[p].toNat ≤ 63
        · by_cases h2 : m.length < p + 1 + m[p].toNat
          · exact .inr ⟨1, by decide, pkRun_short h h0 h1 h2⟩
          · by_cases h3 : 255 < size + (m[p].toNat + 1)
            · exact .inr ⟨3, by decide, pkRun_long h h0 h1 h2 h3⟩
            · rw [pkRun_label h h0 h1 h2 h3]
              exact ih _ _ _ _ _ _ (by omega)
        · by_cases h2 : m[p].toNat < 192
          · exact .inr ⟨7, by decide, pkRun_lab h h1 h2⟩
          · by_cases h3 : p + 1 < m.length
            · by_cases h4 : ptrN (m[p]'h) (m[p + 1]'h3) < low
              · rw [pkRun_ptr h h2 h3 h4]
                refine ih _ _ _ _ _ _ ?_
                have := Nat.mul_le_mul_right (m.length + 1) h4
                rw [Nat.succ_mul] at this
                omega
              · exact .inr ⟨9, by decide, pkRun_far h h2 h3 h4⟩
            · exact .inr ⟨1, by decide, pkRun_half h h2 h3⟩
    · exact .inr ⟨1, by decide, pkRun_out h⟩
theorem pkRun_or (m : List UInt8) (p low size : Nat) (n : Lbs) (fin : Nat) : (pkRun m p low size n fin).err = 0 ∨ ∃ x, x ≠ 0 ∧ pkRun m p low size n fin = pkBad x := pkRun_bad _ m p low size n fin (Nat.le_refl _)
/-- a name's octets -/
def labB (l : List UInt8) : List UInt8 := ocByte l.length :: l
def labsB (n : Lbs) : List UInt8 := (n.map labB).flatten
def wireB (n : Lbs) : List UInt8 := labsB n ++ [0]
theorem labsB_cons (l : List UInt8) (n : Lbs) : labsB (l :: n) = labB l ++ labsB n := rfl
theorem labsB_app (a b : Lbs) : labsB (a ++ b) = labsB a ++ labsB b := by simp [labsB]
theorem labsB_len : ∀ n : Lbs, (labsB n).length + 1 = sizeL n
  | [] => rfl
  | l :: n => by
    have := labsB_len n
    rw [labsB_cons, List.length_append]
    unfold sizeL at this ⊢
    simp only [List.map_cons, List.sum_cons, labB, List.length_cons]
    omega
theorem wireB_len (n : Lbs) : (wireB n).length = sizeL n := by
  have := labsB_len n
  simp [wireB]
  omega
theorem ocByte_lab (l : List UInt8) (h : l.length ≤ 63) : (ocByte l.length).toNat = l.length := by
  have := ocByte_val (l.length : Int)
  omega
/-- where a table has a name -/
def pkFind (T : List (Lbs × Int)) (n : Lbs) : Option Int := (T.find? (fun r => decide (r.1 = n))).map (·.2)
/-- a name's octets, by a table: ok: may anything come into it? -/
def pkPut (ok : Bool) : Lbs → Int → List (Lbs × Int) → List UInt8 × List (Lbs × Int)
  | [], _, T => ([0], T)
  | l :: r, pos, T =>
    match pkFind T (l :: r) with
    | some to => (ocT 2 (49152 + to), T)
    | none =>
      let o := pkPut ok r (pos + (l.length + 1)) (if ok = true ∧ pos ≤ 16383 then T ++ [(l :: r, pos)] else T)
      (labB l ++ o.1, o.2)
theorem pkPut_hit {ok : Bool} {l : List UInt8} {r : Lbs} {pos to : Int} {T : List (Lbs × Int)} (h : pkFind T (l :: r) = some to) : pkPut ok (l :: r) pos T = (ocT 2 (49152 + to), T) := by
  simp [pkPut, h]
theorem pkPut_miss {ok : Bool} {l : List UInt8} {r : Lbs} {pos : Int} {T : List (Lbs × Int)} (h : pkFind T (l :: r) = none) :
    pkPut ok (l :: r) pos T = (labB l ++ (pkPut ok r (pos + (l.length + 1)) (if ok = true ∧ pos ≤ 16383 then T ++ [(l :: r, pos)] else T)).1, (pkPut ok r (pos + (l.length + 1)) (if ok = true ∧ pos ≤ 16383 then T ++ [(l :: r, pos)] else T)).2) := by
  simp [pkPut, h]
theorem pkPut_none (n : Lbs) : ∀ (pos : Int), pkPut false n pos [] = (wireB n, []) := by
  induction n with
  | nil => intro pos; rfl
  | cons l r ih =>
    intro pos
    rw [pkPut_miss (by rfl)]
    simp [ih, wireB, labsB_cons]
theorem pkFind_app {T : List (Lbs × Int)} {n : Lbs} (k : Lbs) (to : Int) : pkFind (T ++ [(k, to)]) n = match pkFind T n with
    | some x => some x
    | none => if k = n then some to else none := by
  unfold pkFind
  rw [List.find?_append]
  cases h : T.find? (fun r => decide (r.1 = n)) with
  | some x => simp
  | none =>
    by_cases e : k = n
    · simp [e]
    · simp [e]
theorem pkFind_mem {T : List (Lbs × Int)} {n : Lbs} {to : Int} (h : pkFind T n = some to) : (n, to) ∈ T := by
  unfold pkFind at h
  rw [Option.map_eq_some_iff] at h
  obtain ⟨x, hx, rfl⟩ := h
  have h1 := List.find?_some hx
  have h2 := List.mem_of_find?_eq_some hx
  simp at h1
  subst h1
  exact h2
end Go.Proofs.Ytnoabmkmnddkkaa
namespace Go.Proofs.Ytnoabmkmnddkkaa
set_option linter.unusedVariables false
theorem labB_len (l : List UInt8) : (labB l).length = l.length + 1 := rfl
theorem labsB_take (n : Lbs) (k : Nat) (h : k < n.length) : labsB (n.take (k + 1)) = labsB (n.take k) ++ labB n[k] := by
  rw [List.take_succ_eq_append_getElem h, labsB_app]
  simp [labsB]
theorem wireB_drop (n : Lbs) (k : Nat) : (wireB n).drop (labsB (n.take k)).length = wireB (n.drop k) := by
  have h : labsB n = labsB (n.take k) ++ labsB (n.drop k) := by rw [← labsB_app, List.take_append_drop]
  unfold wireB
  rw [h, List.append_assoc, List.drop_left]
theorem wireB_take (n : Lbs) (k : Nat) : (wireB n).take (labsB (n.take k)).length = labsB (n.take k) := by
  have h : labsB n = labsB (n.take k) ++ labsB (n.drop k) := by rw [← labsB_app, List.take_append_drop]
  unfold wireB
  rw [h, List.append_assoc, List.take_left]
theorem drop_lab (n : Lbs) (k : Nat) (h : k < n.length) : n.drop k = n[k] :: n.drop (k + 1) := List.drop_eq_getElem_cons h
/-- names that may be told apart by their octets -/
theorem labB_inj {a b : List UInt8} {x y : List UInt8} (ha : okLab a = true) (hb : okLab b = true) (h : labB a ++ x = labB b ++ y) : a = b ∧ x = y := by
  have ha := (okLab_iff a).1 ha
  have hb := (okLab_iff b).1 hb
  unfold labB at h
  simp only [List.cons_append, List.cons.injEq] at h
  have hl : a.length = b.length := by
    have h1 := ocByte_lab a ha.2
    have h2 := ocByte_lab b hb.2
    rw [h.1] at h1
    omega
  exact List.append_inj h.2 hl
theorem wireB_cons (l : List UInt8) (n : Lbs) : wireB (l :: n) = labB l ++ wireB n := by simp [wireB, labsB_cons]
theorem wireB_inj : ∀ (a b : Lbs), a.all okLab = true → b.all okLab = true → wireB a = wireB b → a = b
  | [], [], _, _, _ => rfl
  | [], l :: n, _, hb, h => by
    simp only [List.all_cons, Bool.and_eq_true] at hb
    have h1 := (okLab_iff l).1 hb.1
    have h2 := ocByte_lab l h1.2
    rw [wireB_cons] at h
    simp only [wireB, labB, labsB, List.map_nil, List.flatten_nil, List.nil_append, List.cons_append, List.cons.injEq] at h
    rw [← h.1] at h2
    simp at h2
    omega
  | l :: n, [], ha, _, h => by
    simp only [List.all_cons, Bool.and_eq_true] at ha
    have h1 := (okLab_iff l).1 ha.1
    have h2 := ocByte_lab l h1.2
    rw [wireB_cons] at h
    simp only [wireB, labB, labsB, List.map_nil, List.flatten_nil, List.nil_append, List.cons_append, List.cons.injEq] at h
    rw [h.1] at h2
    simp at h2
    omega
  | l :: n, m :: k, ha, hb, h => by
    simp only [List.all_cons, Bool.and_eq_true] at ha hb
    rw [wireB_cons, wireB_cons] at h
    obtain ⟨h1, h2⟩ := labB_inj ha.1 hb.1 h
    rw [h1, wireB_inj n k ha.2 hb.2 h2]
/-- offsets that a pointer can tell -/
def TOk (T : List (Lbs × Int)) : Prop := ∀ r ∈ T, 0 ≤ r.2 ∧ r.2 ≤ 16383
theorem TOk.find {T : List (Lbs × Int)} (h : TOk T) {n : Lbs} {to : Int} (e : pkFind T n = some to) : 0 ≤ to ∧ to ≤ 16383 := h _ (pkFind_mem e)
theorem TOk.add {T : List (Lbs × Int)} (h : TOk T) {n : Lbs} {pos : Int} (h0 : 0 ≤ pos) (h1 : pos ≤ 16383) : TOk (T ++ [(n, pos)]) := fun r hr => by
  rcases List.mem_append.1 hr with hr | hr
  · exact h r hr
  · simp at hr; subst hr; exact ⟨h0, h1⟩
theorem pkPut_len (ok : Bool) : ∀ (n : Lbs) (pos : Int) (T : List (Lbs × Int)), (pkPut ok n pos T).2.length ≤ T.length + n.length
  | [], _, T => Nat.le_refl _
  | l :: r, pos, T => by
    cases h : pkFind T (l :: r) with
    | some to => rw [pkPut_hit h]; simp
    | none =>
      rw [pkPut_miss h]
      refine Nat.le_trans (pkPut_len ok r _ _) ?_
      split <;> simp <;> omega
theorem pkPut_ok (ok : Bool) : ∀ (n : Lbs) (pos : Int) (T : List (Lbs × Int)), (ok = true → 0 ≤ pos) → TOk T → TOk (pkPut ok n pos T).2
  | [], _, T, _, h => h
  | l :: r, pos, T, hp, h => by
    cases hf : pkFind T (l :: r) with
    | some to => rw [pkPut_hit hf]; exact h
    | none =>
      rw [pkPut_miss hf]
      refine pkPut_ok ok r _ _ (fun e => by have := hp e; omega) ?_
      split
      · rename_i hh
        exact h.add (hp hh.1) hh.2
      · exact h
/-- what Put does to a table: T is what it had -/
def putO (tb : Bool) (n : Lbs) (at_ : Int) (T : List (Lbs × Int)) : List UInt8 × List (Lbs × Int) × Int :=
  if checkL n = 0 then ((pkPut (tb && decide (0 ≤ at_)) n at_ T).1, (pkPut (tb && decide (0 ≤ at_)) n at_ T).2, 0) else ([], T, checkL n)
theorem pkPut_size (ok : Bool) : ∀ (n : Lbs) (pos : Int) (T : List (Lbs × Int)), (pkPut ok n pos T).1.length ≤ sizeL n
  | [], _, T => Nat.le_refl _
  | l :: r, pos, T => by
    have hs : sizeL (l :: r) = sizeL r + (l.length + 1) := by simp [sizeL]; omega
    cases h : pkFind T (l :: r) with
    | some to =>
      rw [pkPut_hit h, hs]
      have : 1 ≤ sizeL r := by unfold sizeL; omega
      simp [ocT_len]
      omega
    | none =>
      rw [pkPut_miss h, hs, List.length_append, labB_len]
      have := pkPut_size ok r (pos + (l.length + 1)) (if ok = true ∧ pos ≤ 16383 then T ++ [(l :: r, pos)] else T)
      omega
theorem putO_len (tb : Bool) (n : Lbs) (a : Int) (T : List (Lbs × Int)) : (putO tb n a T).2.1.length ≤ T.length + n.length := by
  unfold putO
  split
  · exact pkPut_len _ n a T
  · exact Nat.le_add_right _ _
theorem putO_ok (tb : Bool) (n : Lbs) (a : Int) (T : List (Lbs × Int)) (h : TOk T) : TOk (putO tb n a T).2.1 := by
  unfold putO
  split
  · refine pkPut_ok _ n a T (fun e => ?_) h
    rw [Bool.and_eq_true] at e
    exact of_decide_eq_true e.2
  · exact h
end Go.Proofs.Ytnoabmkmnddkkaa
namespace Go.Proofs.Ytnoabmkmnddkkaa
set_option linter.unusedVariables false
/-- what is read of a message is read of a longer one -/
theorem pkRun_mono_k (z : List UInt8) : ∀ (k : Nat) (m : List UInt8) (p low size : Nat) (n : Lbs) (fin : Nat), low * (m.length + 1) + (m.length - p) ≤ k →
    (pkRun m p low size n fin).err = 0 → pkRun (m ++ z) p low size n fin = pkRun m p low size n fin := by
  intro k
  induction k with
  | zero =>
    intro m p low size n fin hk h
    rw [pkRun_out (by omega)] at h
    exact absurd h (by decide)
  | succ k ih =>
    intro m p low size n fin hk he
    by_cases h : p < m.length
    · have h' : p < (m ++ z).length := by rw [List.length_append]; omega
      have e : (m ++ z)[p] = m[p] := List.getElem_append_left h
      by_cases h0 : m[p].toNat = 0
      · rw [pkRun_end h h0, pkRun_end h' (by rw [e]; exact h0)]
      · by_cases h1 : m[p].toNat ≤ 63
        · by_cases h2 : m.length < p + 1 + m[p].toNat
          · rw [pkRun_short h h0 h1 h2] at he
            exact absurd he (by decide)
          · by_cases h3 : 255 < size + (m[p].toNat + 1)
            · rw [pkRun_long h h0 h1 h2 h3] at he
              exact absurd he (by decide)
            · rw [pkRun_label h h0 h1 h2 h3] at he ⊢
              rw [pkRun_label h' (by rw [e]; exact h0) (by rw [e]; exact h1) (by rw [e, List.length_append]; omega) (by rw [e]; exact h3)]
              have hd : ((m ++ z).drop (p + 1)).take m[p].toNat = (m.drop (p + 1)).take m[p].toNat := by
                rw [List.drop_append_of_le_length (by omega), List.take_append_of_le_length (by rw [List.length_drop]; omega)]
              rw [e, hd]
              exact ih _ _ _ _ _ _ (by omega) he
        · by_cases h2 : m[p].toNat < 192
          · rw [pkRun_lab h h1 h2] at he
            exact absurd he (by decide)
          · by_cases h3 : p + 1 < m.length
            · have h3' : p + 1 < (m ++ z).length := by rw [List.length_append]; omega
              have e3 : (m ++ z)[p + 1] = m[p + 1] := List.getElem_append_left h3
              by_cases h4 : ptrN (m[p]'h) (m[p + 1]'h3) < low
              · rw [pkRun_ptr h h2 h3 h4] at he ⊢
                rw [pkRun_ptr h' (by rw [e]; exact h2) h3' (by rw [e, e3]; exact h4), e, e3]
                refine ih _ _ _ _ _ _ ?_ he
                have := Nat.mul_le_mul_right (m.length + 1) h4
                rw [Nat.succ_mul] at this
                omega
              · rw [pkRun_far h h2 h3 h4] at he
                exact absurd he (by decide)
            · rw [pkRun_half h h2 h3] at he
              exact absurd he (by decide)
    · rw [pkRun_out h] at he
      exact absurd he (by decide)
theorem pkRun_mono {m : List UInt8} (z : List UInt8) {p low size : Nat} {n : Lbs} {fin : Nat} {R : PkR} (h : pkRun m p low size n fin = R) (h0 : R.err = 0) : pkRun (m ++ z) p low size n fin = R := by
  rw [pkRun_mono_k z _ m p low size n fin (Nat.le_refl _) (by rw [h]; exact h0), h]
theorem pkGet_mono {m : List UInt8} (z : List UInt8) {a : Int} {R : PkR} (h : pkGet m a = R) (h0 : R.err = 0) : pkGet (m ++ z) a = R := by
  unfold pkGet at h ⊢
  split at h
  · subst h
    exact absurd h0 (by decide)
  · rw [if_neg (by rw [List.length_append]; omega)]
    exact pkRun_mono z h h0
/-- a name's octets by a table, and what comes into it -/
def pkOut (T : List (Lbs × Int)) : Lbs → List UInt8
  | [] => [0]
  | l :: r => match pkFind T (l :: r) with
    | some to => ocT 2 (49152 + to)
    | none => labB l ++ pkOut T r
def pkNew (ok : Bool) (T : List (Lbs × Int)) : Lbs → Int → List (Lbs × Int)
  | [], _ => []
  | l :: r, pos => match pkFind T (l :: r) with
    | some _ => []
    | none => (if ok = true ∧ pos ≤ 16383 then [(l :: r, pos)] else []) ++ pkNew ok T r (pos + (l.length + 1))
theorem pkPut_out (ok : Bool) : ∀ (r : Lbs) (pos : Int) (T1 T : List (Lbs × Int)), (∀ n : Lbs, n.length ≤ r.length → pkFind T1 n = pkFind T n) → pkPut ok r pos T1 = (pkOut T r, T1 ++ pkNew ok T r pos)
  | [], _, T1, T, _ => by simp [pkPut, pkOut, pkNew]
  | l :: r, pos, T1, T, h => by
    have hf := h (l :: r) (Nat.le_refl _)
    cases hs : pkFind T (l :: r) with
    | some to =>
      rw [pkPut_hit (hf.trans hs)]
      simp [pkOut, pkNew, hs]
    | none =>
      rw [pkPut_miss (hf.trans hs), pkPut_out ok r _ _ T (fun n hn => ?_)]
      · simp only [pkOut, pkNew, hs]
        split <;> simp
      · split
        · rw [pkFind_app, if_neg (fun e => by subst e; simp at hn; omega), h n (by simp; omega)]
          cases pkFind T n <;> rfl
        · exact h n (by simp; omega)
theorem pkNew_false (T : List (Lbs × Int)) : ∀ (r : Lbs) (pos : Int), pkNew false T r pos = []
  | [], _ => rfl
  | l :: r, pos => by
    unfold pkNew
    split
    · rfl
    · rw [pkNew_false T r]; simp
theorem pkOut_pos (T : List (Lbs × Int)) (r : Lbs) : 0 < (pkOut T r).length := by
  cases r with
  | nil => simp [pkOut]
  | cons l r =>
    unfold pkOut
    split
    · rw [ocT_len]; decide
    · rw [List.length_append, labB_len]; omega
theorem pkOut_nil (r : Lbs) : pkOut [] r = wireB r := by
  have := pkPut_none r 0
  rw [pkPut_out false r 0 [] [] (fun _ _ => rfl)] at this
  exact congrArg Prod.fst this
/-- what a table's entry leads to -/
def Ent (m : List UInt8) (n : Lbs) (to : Int) : Prop :=
  0 ≤ to ∧ to ≤ 16383 ∧ to.toNat < m.length ∧ ∀ (size : Nat) (n0 : Lbs) (fin : Nat), fin ≠ 0 → size + (sizeL n - 1) ≤ 255 → pkRun m to.toNat to.toNat size n0 fin = ⟨n0 ++ n, fin, 0⟩
def TInv (m : List UInt8) (T : List (Lbs × Int)) : Prop := ∀ n to, (n, to) ∈ T → Ent m n to
theorem Ent.mono {m : List UInt8} {n : Lbs} {to : Int} (h : Ent m n to) (z : List UInt8) : Ent (m ++ z) n to :=
  ⟨h.1, h.2.1, by rw [List.length_append]; have := h.2.2.1; omega, fun size n0 fin hf hs => pkRun_mono z (h.2.2.2 size n0 fin hf hs) rfl⟩
theorem TInv.mono {m : List UInt8} {T : List (Lbs × Int)} (h : TInv m T) (z : List UInt8) : TInv (m ++ z) T := fun n to hm => (h n to hm).mono z
theorem sizeL_cons (l : List UInt8) (r : Lbs) : sizeL (l :: r) = sizeL r + (l.length + 1) := by simp [sizeL]; omega
theorem sizeL_pos (r : Lbs) : 1 ≤ sizeL r := by unfold sizeL; omega
theorem at_app {a b c : List UInt8} {x : UInt8} (h : b = x :: c) (post : List UInt8) (hp : a.length < (a ++ b ++ post).length) : (a ++ b ++ post)[a.length] = x := by
  subst h
  simp
theorem oc2 (to : Int) (h0 : 0 ≤ to) (h1 : to ≤ 16383) : ∃ c d, ocT 2 (49152 + to) = [c, d] ∧ 192 ≤ c.toNat ∧ ptrN c d = to.toNat := by
  refine ⟨ocByte ((49152 + to) / 256), ocByte (49152 + to), by simp [ocT], ?_, ?_⟩
  · have := ocByte_val ((49152 + to) / 256)
    omega
  · have h2 := ocByte_val ((49152 + to) / 256)
    have h3 := ocByte_val (49152 + to)
    unfold ptrN
    omega
theorem read_out (T : List (Lbs × Int)) : ∀ (r : Lbs) (pre post : List UInt8) (low size : Nat) (n0 : Lbs) (fin : Nat), r.all okLab = true → size + (sizeL r - 1) ≤ 255 → TInv (pre ++ pkOut T r ++ post) T → (∀ n to, (n, to) ∈ T → to.toNat < low) →
    pkRun (pre ++ pkOut T r ++ post) pre.length low size n0 fin = ⟨n0 ++ r, if fin = 0 then pre.length + (pkOut T r).length else fin, 0⟩
  | [], pre, post, low, size, n0, fin, _, _, _, _ => by
    have hl : pre.length < (pre ++ pkOut T [] ++ post).length := by simp [pkOut] <;> omega
    rw [pkRun_end hl (by rw [at_app (show pkOut T [] = 0 :: [] from rfl)]; rfl)]
    simp [pkOut]
  | l :: r, pre, post, low, size, n0, fin, hall, hs, hT, hlow => by
    simp only [List.all_cons, Bool.and_eq_true] at hall
    have hl63 := (okLab_iff l).1 hall.1
    have hsc := sizeL_cons l r
    have hsp := sizeL_pos r
    cases hf : pkFind T (l :: r) with
    | some to =>
      have hmem := pkFind_mem hf
      obtain ⟨h0, h1, h2, h3⟩ := hT _ _ hmem
      obtain ⟨c, d, hcd, hc, hp⟩ := oc2 to h0 h1
      have ho : pkOut T (l :: r) = [c, d] := by unfold pkOut; rw [hf]; exact hcd
      rw [ho] at h2 h3 ⊢
      have hl : pre.length < (pre ++ [c, d] ++ post).length := by simp <;> omega
      have hl2 : pre.length + 1 < (pre ++ [c, d] ++ post).length := by simp <;> omega
      have e1 : (pre ++ [c, d] ++ post)[pre.length] = c := at_app rfl post hl
      have e2 : (pre ++ [c, d] ++ post)[pre.length + 1] = d := by
        have : (pre ++ [c, d] ++ post) = (pre ++ [c]) ++ [d] ++ post := by simp
        have h5 := at_app (a := pre ++ [c]) (b := [d]) (c := []) (x := d) rfl post (by simp)
        simp only [this]
        have h6 : pre.length + 1 = (pre ++ [c]).length := by simp
        simp only [h6]
        exact h5
      rw [pkRun_ptr hl (by rw [e1]; omega) hl2 (by rw [e1, e2, hp]; exact hlow _ _ hmem), e1, e2, hp]
      rw [h3 size n0 _ (by split <;> omega) (by rw [hsc] at hs ⊢; exact hs)]
      rfl
    | none =>
      have ho : pkOut T (l :: r) = labB l ++ pkOut T r := by rw [pkOut, hf]
      have ha : pre ++ pkOut T (l :: r) ++ post = (pre ++ labB l) ++ pkOut T r ++ post := by rw [ho]; simp
      have hb : pre ++ pkOut T (l :: r) ++ post = pre ++ labB l ++ (pkOut T r ++ post) := by rw [ho]; simp
      have hop := pkOut_pos T r
      have hlen : (pre ++ pkOut T (l :: r) ++ post).length = pre.length + (l.length + 1) + (pkOut T r).length + post.length := by rw [ha]; simp [labB]; omega
      have hl : pre.length < (pre ++ pkOut T (l :: r) ++ post).length := by omega
      have e1 : (pre ++ pkOut T (l :: r) ++ post)[pre.length] = ocByte l.length := by
        simp only [hb]
        exact at_app (show labB l = ocByte l.length :: l from rfl) _ (by simp [labB] <;> omega)
      have e2 := ocByte_lab l hl63.2
      have hdrop : ((pre ++ pkOut T (l :: r) ++ post).drop (pre.length + 1)).take l.length = l := by
        have : pre ++ pkOut T (l :: r) ++ post = (pre ++ [ocByte l.length]) ++ (l ++ (pkOut T r ++ post)) := by rw [ho]; simp [labB]
        rw [this, show pre.length + 1 = (pre ++ [ocByte l.length]).length by simp, List.drop_left, List.take_left]
      rw [pkRun_label hl (by rw [e1, e2]; omega) (by rw [e1, e2]; exact hl63.2) (by rw [e1, e2, hlen]; omega) (by rw [e1, e2]; omega)]
      simp only [e1, e2, hdrop]
      have hp1 : pre.length + 1 + l.length = (pre ++ labB l).length := by simp [labB]; omega
      rw [hp1, ha, read_out T r (pre ++ labB l) post low (size + (l.length + 1)) (n0 ++ [l]) fin hall.2 (by omega) (by rw [← ha]; exact hT) hlow]
      rw [ho]
      simp only [List.length_append, labB_len, List.append_assoc, List.singleton_append]
      congr 1
      split <;> omega
theorem new_inv (ok : Bool) (T : List (Lbs × Int)) (hok : ok = true) : ∀ (r : Lbs) (pre post : List UInt8), r.all okLab = true → sizeL r ≤ 255 → TInv (pre ++ pkOut T r ++ post) T → (∀ n to, (n, to) ∈ T → to.toNat < pre.length) →
    ∀ n to, (n, to) ∈ pkNew ok T r pre.length → Ent (pre ++ pkOut T r ++ post) n to
  | [], pre, post, _, _, _, _, n, to, h => by simp [pkNew] at h
  | l :: r, pre, post, hall, hs, hT, hlow, n, to, h => by
    have hall' := hall
    simp only [List.all_cons, Bool.and_eq_true] at hall'
    have hsc := sizeL_cons l r
    cases hf : pkFind T (l :: r) with
    | some t => simp [pkNew, hf] at h
    | none =>
      have ho : pkOut T (l :: r) = labB l ++ pkOut T r := by rw [pkOut, hf]
      have ha : pre ++ pkOut T (l :: r) ++ post = (pre ++ labB l) ++ pkOut T r ++ post := by rw [ho]; simp
      simp only [pkNew, hf, List.mem_append] at h
      rcases h with h | h
      · split at h
        · rename_i hc
          simp at h
          obtain ⟨rfl, rfl⟩ := h
          have hop := pkOut_pos T (l :: r)
          refine ⟨by omega, hc.2, by simp; omega, fun size n0 fin hfn hsz => ?_⟩
          rw [Int.toNat_natCast, read_out T (l :: r) pre post pre.length size n0 fin hall hsz hT hlow, if_neg hfn]
        · simp at h
      · rw [ha]
        refine new_inv ok T hok r (pre ++ labB l) post hall'.2 (by omega) (by rw [← ha]; exact hT) (fun n to hm => by have := hlow n to hm; rw [List.length_append]; omega) n to ?_
        have : ((pre ++ labB l).length : Int) = (pre.length : Int) + (l.length + 1) := by simp [labB]
        rw [this]
        exact h
/-- one name put: what is got, and what the table leads to -/
theorem put_step {x : List UInt8} {T : List (Lbs × Int)} {n : Lbs} (h : TInv x T) (hn : checkL n = 0) (ok : Bool) :
    TInv (x ++ pkOut T n) (T ++ pkNew ok T n x.length) ∧ pkGet (x ++ pkOut T n) x.length = ⟨n, x.length + (pkOut T n).length, 0⟩ := by
  obtain ⟨hall, hs⟩ := checkL_ok.1 hn
  have hsp := sizeL_pos n
  have hT : TInv (x ++ pkOut T n ++ []) T := by rw [List.append_nil]; exact h.mono _
  have hlow : ∀ n to, (n, to) ∈ T → to.toNat < x.length := fun n to hm => (h n to hm).2.2.1
  refine ⟨fun k to hm => ?_, ?_⟩
  · rcases List.mem_append.1 hm with hm | hm
    · exact (h k to hm).mono _
    · cases ok with
      | true => simpa using new_inv true T rfl n x [] hall hs hT hlow k to hm
      | false => exact absurd hm (by rw [pkNew_false]; simp)
  · unfold pkGet
    rw [if_neg (by rw [List.length_append]; omega), Int.toNat_natCast]
    have := read_out T n x [] x.length 1 [] 0 hall (by omega) hT hlow
    simpa using this
end Go.Proofs.Ytnoabmkmnddkkaa
