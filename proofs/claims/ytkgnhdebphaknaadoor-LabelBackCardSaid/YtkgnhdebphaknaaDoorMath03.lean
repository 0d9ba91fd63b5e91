import Derived.Test.YtkgnhdebphaknaaDoorMath01
namespace Go.Proofs.YtkgnhdebphaknaaDoor
open Go.RowKit
/- Plain functions of layer 3: the figures of a number, the bias, points written and read. -/
def bndI (k b : Int) : Int := min (max (36 * k - b) 1) 26
theorem bnd_bd (k b : Int) : 1 ≤ bndI k b ∧ bndI k b ≤ 26 := by unfold bndI; omega
def redI (d : Int) : Int × Int := if 455 < d then ((redI (d / 35)).1, (redI (d / 35)).2 + 1) else (d, 0)
termination_by d.toNat
decreasing_by all_goals omega
theorem red_go {d : Int} (h : 455 < d) : redI d = ((redI (d / 35)).1, (redI (d / 35)).2 + 1) := by rw [redI]; rw [if_pos h]
theorem red_end {d : Int} (h : ¬ 455 < d) : redI d = (d, 0) := by rw [redI]; rw [if_neg h]
theorem red_bd (n : Nat) : ∀ d : Int, d.toNat ≤ n → 0 ≤ d → 0 ≤ (redI d).1 ∧ (redI d).1 ≤ 455 ∧ 0 ≤ (redI d).2 ∧ (redI d).2 ≤ d := by
  induction n with
  | zero => intro d h h0; rw [red_end (by omega)]; simp only; omega
  | succ n ih =>
    intro d h h0
    by_cases hd : 455 < d
    · rw [red_go hd]
      have := ih (d / 35) (by omega) (by omega)
      simp only; omega
    · rw [red_end hd]; simp only; omega
def adp (d n : Int) (first : Bool) : Int :=
  36 * (redI ((if first then d / 700 else d / 2) + (if first then d / 700 else d / 2) / n)).2 +
    36 * (redI ((if first then d / 700 else d / 2) + (if first then d / 700 else d / 2) / n)).1 / ((redI ((if first then d / 700 else d / 2) + (if first then d / 700 else d / 2) / n)).1 + 38)
theorem quo_bd (r : Int) (h : 0 ≤ r) : 0 ≤ 36 * r / (r + 38) ∧ 36 * r / (r + 38) ≤ 36 := by
  constructor
  · exact Int.ediv_nonneg (by omega) (by omega)
  · exact Int.ediv_le_of_le_mul (by omega) (by omega)
theorem half_bd (d n : Int) (h0 : 0 ≤ d) (hn : 1 ≤ n) : 0 ≤ d / n ∧ d / n ≤ d := ⟨Int.ediv_nonneg h0 (by omega), Int.ediv_le_self n h0⟩
theorem adp_bd (d n : Int) (first : Bool) (h0 : 0 ≤ d) (h1 : d ≤ 8589934592) (hn : 1 ≤ n) : 0 ≤ adp d n first ∧ adp d n first ≤ 1099511627776 := by
  unfold adp
  obtain ⟨x, hx⟩ : ∃ x, x = (if first then d / 700 else d / 2) := ⟨_, rfl⟩
  have hx2 : 0 ≤ x ∧ x ≤ 8589934592 := by rw [hx]; split <;> omega
  rw [← hx]
  have h2 := half_bd x n hx2.1 hn
  have h3 := red_bd _ (x + x / n) (Nat.le_refl _) (by omega)
  have h4 := quo_bd _ h3.1
  omega
def figC (f : Int) : UInt8 := if f < 26 then UInt8.ofNat (97 + f).toNat else UInt8.ofNat (22 + f).toNat
theorem fig_lt (d k b : Int) (h : bndI k b ≤ d) : ((d - bndI k b) / (36 - bndI k b)).toNat < d.toNat ∧ 0 ≤ (d - bndI k b) / (36 - bndI k b) := by
  have hb := bnd_bd k b
  have h1 := half_bd (d - bndI k b) (36 - bndI k b) (by omega) (by omega)
  omega
def figs (d k b : Int) : List UInt8 :=
  if h : bndI k b ≤ d then figC (bndI k b + (d - bndI k b) % (36 - bndI k b)) :: figs ((d - bndI k b) / (36 - bndI k b)) (k + 1) b else [figC d]
termination_by d.toNat
decreasing_by exact (fig_lt d k b h).1
theorem figs_go {d k b : Int} (h : bndI k b ≤ d) : figs d k b = figC (bndI k b + (d - bndI k b) % (36 - bndI k b)) :: figs ((d - bndI k b) / (36 - bndI k b)) (k + 1) b := by rw [figs]; rw [dif_pos h]
theorem figs_end {d k b : Int} (h : ¬ bndI k b ≤ d) : figs d k b = [figC d] := by rw [figs]; rw [dif_neg h]
theorem figs_ten {d k b : Int} {m : Nat} (h : bndI k b ≤ d) (hm : d < 10 ^ m) : ∃ m', m = m' + 1 ∧ (d - bndI k b) / (36 - bndI k b) < 10 ^ m' ∧ 0 ≤ (d - bndI k b) / (36 - bndI k b) := by
  have hb := bnd_bd k b
  match m, hm with
  | 0, hm => simp at hm; omega
  | m' + 1, hm =>
    refine ⟨m', rfl, ?_, (fig_lt d k b h).2⟩
    have h1 : (d - bndI k b) / (36 - bndI k b) * (36 - bndI k b) ≤ d - bndI k b := Int.ediv_mul_le _ (by omega)
    have h2 : (d - bndI k b) / (36 - bndI k b) * 10 ≤ (d - bndI k b) / (36 - bndI k b) * (36 - bndI k b) := Int.mul_le_mul_of_nonneg_left (by omega) (fig_lt d k b h).2
    rw [Int.pow_succ] at hm
    omega
theorem figs_len : ∀ (m : Nat) (d k b : Int), 0 ≤ d → d < 10 ^ m → (figs d k b).length ≤ m + 1
  | 0, d, k, b, h0, h => by
    have := bnd_bd k b
    rw [figs_end (by simp at h; omega)]; simp
  | m + 1, d, k, b, h0, h => by
    by_cases hd : bndI k b ≤ d
    · obtain ⟨m', e, h1, h2⟩ := figs_ten hd h
      obtain rfl : m = m' := by omega
      rw [figs_go hd, List.length_cons]
      have := figs_len m _ (k + 1) b h2 h1
      omega
    · rw [figs_end hd]; simp
/-- bytes written, steps, bias, done -/
abbrev St := List UInt8 × Int × Int × Int
def upS (m c s : Int) : Int := if c < m then s + 1 else s
theorem upS_bd (m c s : Int) : s ≤ upS m c s ∧ upS m c s ≤ s + 1 := by unfold upS; split <;> omega
def rnd (m basic : Int) : List Int → St → Option St
  | [], st => some st
  | c :: r, st =>
    if 4294967295 < upS m c st.2.1 then none
    else if c = m then rnd m basic r (st.1 ++ figs (upS m c st.2.1) 1 st.2.2.1, 0, adp (upS m c st.2.1) (st.2.2.2 + 1) (decide (st.2.2.2 = basic)), st.2.2.2 + 1)
    else rnd m basic r (st.1, upS m c st.2.1, st.2.2.1, st.2.2.2)
theorem rnd_ov {m basic c : Int} {r : List Int} {st : St} (h : 4294967295 < upS m c st.2.1) : rnd m basic (c :: r) st = none := by unfold rnd; rw [if_pos h]
theorem rnd_put {m basic c : Int} {r : List Int} {st : St} (h : ¬ 4294967295 < upS m c st.2.1) (hc : c = m) :
    rnd m basic (c :: r) st = rnd m basic r (st.1 ++ figs (upS m c st.2.1) 1 st.2.2.1, 0, adp (upS m c st.2.1) (st.2.2.2 + 1) (decide (st.2.2.2 = basic)), st.2.2.2 + 1) := by
  conv => lhs; unfold rnd
  rw [if_neg h, if_pos hc]
theorem rnd_pass {m basic c : Int} {r : List Int} {st : St} (h : ¬ 4294967295 < upS m c st.2.1) (hc : ¬ c = m) :
    rnd m basic (c :: r) st = rnd m basic r (st.1, upS m c st.2.1, st.2.2.1, st.2.2.2) := by
  conv => lhs; unfold rnd
  rw [if_neg h, if_neg hc]
theorem rnd_over (m basic : Int) (l : List Int) (st : St) (h : 4294967295 < st.2.1) (hl : l ≠ []) : rnd m basic l st = none := by
  match l, hl with
  | c :: r, _ => exact rnd_ov (by have := upS_bd m c st.2.1; omega)
theorem rnd_done (m basic : Int) : ∀ (l : List Int) (st st2 : St), rnd m basic l st = some st2 → st2.2.2.2 = st.2.2.2 + (l.countP fun c => decide (c = m) : Nat)
  | [], st, st2, h => by
    unfold rnd at h
    obtain rfl := Option.some.inj h
    simp
  | c :: r, st, st2, h => by
    by_cases h1 : 4294967295 < upS m c st.2.1
    · rw [rnd_ov h1] at h; cases h
    · by_cases hc : c = m
      · rw [rnd_put h1 hc] at h
        have := rnd_done m basic r _ st2 h
        rw [this, List.countP_cons]
        simp [hc]
        omega
      · rw [rnd_pass h1 hc] at h
        have := rnd_done m basic r _ st2 h
        rw [this, List.countP_cons]
        simp [hc]
def lstF (n : Int) (m c : Int) : Int := if n ≤ c then min m c else m
def leastI (l : List Int) (n : Int) : Int := l.foldl (lstF n) 1114111
theorem lst_fold (n : Int) : ∀ (l : List Int) (m : Int), l.foldl (lstF n) m ≤ m ∧ (l.foldl (lstF n) m = m ∨ (l.foldl (lstF n) m ∈ l ∧ n ≤ l.foldl (lstF n) m)) ∧ ∀ c ∈ l, n ≤ c → l.foldl (lstF n) m ≤ c
  | [], m => by simp
  | c :: r, m => by
    obtain ⟨h1, h2, h3⟩ := lst_fold n r (lstF n m c)
    have hl : lstF n m c ≤ m ∧ (lstF n m c = m ∨ (lstF n m c = c ∧ n ≤ c)) ∧ (n ≤ c → lstF n m c ≤ c) := by
      unfold lstF; split <;> omega
    rw [List.foldl_cons]
    refine ⟨by omega, ?_, ?_⟩
    · rcases h2 with h2 | ⟨h2, h4⟩
      · rcases hl.2.1 with h5 | ⟨h5, h6⟩
        · left; omega
        · right; rw [h2, h5]; exact ⟨List.mem_cons_self, h6⟩
      · right; exact ⟨List.mem_cons_of_mem _ h2, h4⟩
    · intro x hx hn
      rcases List.mem_cons.1 hx with rfl | hx
      · have := hl.2.2 hn; omega
      · exact h3 x hx hn
/-- what the least point is -/
def IsLst (l : List Int) (n r : Int) : Prop := r ∈ l ∧ n ≤ r ∧ ∀ c ∈ l, n ≤ c → r ≤ c
theorem isLst_uniq {l : List Int} {n a b : Int} (ha : IsLst l n a) (hb : IsLst l n b) : a = b := by
  have h1 := ha.2.2 b hb.1 hb.2.1
  have h2 := hb.2.2 a ha.1 ha.2.1
  omega
theorem lst_is {l : List Int} {n m : Int} (hm : 1114111 ≤ m) (hx : ∀ c ∈ l, c ≤ 1114111) (he : ∃ c ∈ l, n ≤ c) : IsLst l n (l.foldl (lstF n) m) := by
  obtain ⟨h1, h2, h3⟩ := lst_fold n l m
  obtain ⟨c, hc, hn⟩ := he
  have h4 := h3 c hc hn
  have h5 := hx c hc
  rcases h2 with h2 | h2
  · have e : c = l.foldl (lstF n) m := by omega
    rw [← e]
    exact ⟨hc, hn, fun d hd hdn => by rw [e]; exact h3 d hd hdn⟩
  · exact ⟨h2.1, h2.2, h3⟩
def cnt (l : List Int) (n : Int) : Int := (l.countP fun c => decide (c < n) : Nat)
theorem cnt_le (l : List Int) (n : Int) : 0 ≤ cnt l n ∧ cnt l n ≤ l.length := by
  unfold cnt
  have := List.countP_le_length (p := fun c => decide (c < n)) (l := l)
  omega
theorem cnt_ex {l : List Int} {n : Int} (h : cnt l n < l.length) : ∃ c ∈ l, n ≤ c := by
  unfold cnt at h
  apply Classical.byContradiction
  intro hn
  have : l.countP (fun c => decide (c < n)) = l.length := by
    rw [List.countP_eq_length]
    intro a ha
    simp
    apply Classical.byContradiction
    intro h2
    exact hn ⟨a, ha, by omega⟩
  omega
theorem cnt_succ (l : List Int) (m : Int) : cnt l (m + 1) = cnt l m + (l.countP fun c => decide (c = m) : Nat) := by
  unfold cnt
  induction l with
  | nil => simp
  | cons c r ih =>
    simp only [List.countP_cons, decide_eq_true_eq, Int.natCast_add, ih]
    by_cases h1 : c < m
    · rw [if_pos h1, if_pos (by omega), if_neg (by omega)]; simp; omega
    · by_cases h3 : c = m
      · rw [if_neg h1, if_pos (by omega), if_pos h3]; simp; omega
      · rw [if_neg h1, if_neg (by omega), if_neg h3]; simp
theorem cnt_lst {l : List Int} {n m : Int} (h : IsLst l n m) : cnt l m = cnt l n := by
  unfold cnt
  congr 1
  apply List.countP_congr
  intro c hc
  simp
  have h1 := h.2.1
  constructor
  · intro hlt
    apply Classical.byContradiction
    intro hh
    have := h.2.2 c hc (by omega)
    omega
  · omega
theorem cnt_pos {l : List Int} {m : Int} (h : m ∈ l) : 1 ≤ l.countP (fun c => decide (c = m)) := List.countP_pos_iff.2 ⟨m, h, by simp⟩
/-- the state at the head of each round of writing -/
structure EInv (l : List Int) (n : Int) (st : St) : Prop where
  n0 : 128 ≤ n
  n1 : n ≤ 1114112
  s0 : 0 ≤ st.2.1
  s1 : st.2.1 ≤ 4294967296
  b0 : 0 ≤ st.2.2.1
  b1 : st.2.2.1 ≤ 1099511627776
  d : st.2.2.2 = cnt l n
  o : (st.1.length : Int) ≤ 5000 + 40 * st.2.2.2
def encL (l : List Int) (basic : Int) : Nat → Int → St → Option (List UInt8)
  | 0, _, _ => none
  | f + 1, n, st =>
    if st.2.2.2 < l.length then
      match rnd (leastI l n) basic l (st.1, st.2.1 + (leastI l n - n) * (st.2.2.2 + 1), st.2.2.1, st.2.2.2) with
      | none => none
      | some st2 => encL l basic f (leastI l n + 1) (st2.1, st2.2.1 + 1, st2.2.2.1, st2.2.2.2)
    else some st.1
theorem encL_end {l : List Int} {basic n : Int} {f : Nat} {st : St} (h : ¬ st.2.2.2 < l.length) : encL l basic (f + 1) n st = some st.1 := by
  unfold encL; rw [if_neg h]
theorem encL_no {l : List Int} {basic n : Int} {f : Nat} {st : St} (h : st.2.2.2 < l.length) (hr : rnd (leastI l n) basic l (st.1, st.2.1 + (leastI l n - n) * (st.2.2.2 + 1), st.2.2.1, st.2.2.2) = none) : encL l basic (f + 1) n st = none := by
  unfold encL; rw [if_pos h, hr]
theorem encL_go {l : List Int} {basic n : Int} {f : Nat} {st st2 : St} (h : st.2.2.2 < l.length) (hr : rnd (leastI l n) basic l (st.1, st.2.1 + (leastI l n - n) * (st.2.2.2 + 1), st.2.2.1, st.2.2.2) = some st2) :
    encL l basic (f + 1) n st = encL l basic f (leastI l n + 1) (st2.1, st2.2.1 + 1, st2.2.2.1, st2.2.2.2) := by
  conv => lhs; unfold encL
  rw [if_pos h, hr]
/-- the points that stand for themselves -/
def basL (l : List Int) : List UInt8 := (l.filter fun c => decide (c < 128)).map fun c => UInt8.ofNat c.toNat
def hyp (l : List UInt8) : List UInt8 := if l.length = 0 then [] else l ++ [45]
def offB (l : List Int) : Bool := l.any fun c => decide (c < 0) || decide (1114111 < c)
def encO (l : List Int) : Option (List UInt8) := encL l (basL l).length (l.length + 1) 128 (hyp (basL l), 0, 72, (basL l).length)
def encE (l : List Int) : List UInt8 × Int :=
  if 4096 < l.length then ([], 3) else if offB l then ([], 4) else match encO l with
    | none => ([], 6)
    | some o => (o, 0)
end Go.Proofs.YtkgnhdebphaknaaDoor
