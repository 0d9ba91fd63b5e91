/- Texts behind a law of this seat, in order: Math01, Math03, Math03b, Math03c, Math03d, Math04, Math05, Math06, Math09, MathEx. -/
import Derived.Lib.Strings
import Derived.WalkKit
namespace Go.Proofs.YtbcnnjifndmdpaaDoor
open Go.RowKit
theorem ret_int {k : IntKind} {a b : Int} (h : a = b) : Ending.returned (.int k a) = .returned (.int k b) := by rw [h]
theorem ret_bool {a b : Bool} (h : a = b) : Ending.returned (.bool a) = .returned (.bool b) := by rw [h]
def lowI (c : Int) : Int := if 65 ≤ c ∧ c ≤ 90 then c + 32 else c
def digB (c : UInt8) : Bool := decide (48 ≤ c.toNat) && decide (c.toNat ≤ 57)
def digsB (l : List UInt8) : Bool := !l.isEmpty && l.all digB
theorem take_snoc (s : ByteArray) (k : Nat) (h : k < s.size) : s.data.toList.take (k + 1) = s.data.toList.take k ++ [s[k]] := by
  rw [List.take_succ_eq_append_getElem (by simpa using h)]; rfl
theorem digs_step (s : ByteArray) (k : Nat) (h : k < s.size) (ha : (s.data.toList.take k).all digB = true) (h1 : 48 ≤ s[k].toNat) (h2 : s[k].toNat ≤ 57) : (s.data.toList.take (k + 1)).all digB = true := by
  rw [take_snoc s k h, List.all_append, ha]; simp [digB, h1, h2]
theorem digs_bad (s : ByteArray) (k : Nat) (h : k < s.size) (h1 : s[k].toNat < 48 ∨ 57 < s[k].toNat) : digsB s.data.toList = false := by
  have hm : s[k] ∈ s.data.toList := by
    have : s.data.toList[k]'(by simpa using h) ∈ s.data.toList := List.getElem_mem _
    exact this
  have : s.data.toList.all digB = false := by
    rw [List.all_eq_false]
    exact ⟨_, hm, by simp [digB]; omega⟩
  simp [digsB, this]
theorem digs_end (s : ByteArray) (ha : (s.data.toList.take s.size).all digB = true) : digsB s.data.toList = !s.data.toList.isEmpty := by
  rw [List.take_of_length_le (by simp)] at ha
  simp [digsB, ha]
def numL (l : List UInt8) : Nat := l.foldl (fun n c => n * 10 + (c.toNat - 48)) 0
def NumP (l : List UInt8) (most : Int) (e : Ending) : Prop :=
  (digsB l = false ∧ e = .returned (.tuple #[.int .i64 0, .int .i64 5])) ∨
  (digsB l = true ∧ most < numL l ∧ e = .returned (.tuple #[.int .i64 0, .int .i64 4])) ∨
  (digsB l = true ∧ (numL l : Int) ≤ most ∧ e = .returned (.tuple #[.int .i64 (numL l), .int .i64 0]))
theorem digs_at (s : ByteArray) (k : Nat) (h : k < s.size) (hd : digsB s.data.toList = true) : 48 ≤ s[k].toNat ∧ s[k].toNat ≤ 57 := by
  have hm : s[k] ∈ s.data.toList := by
    have : s.data.toList[k]'(by simpa using h) ∈ s.data.toList := List.getElem_mem _
    exact this
  simp only [digsB, Bool.and_eq_true, List.all_eq_true] at hd
  have := hd.2 _ hm
  simpa [digB] using this
theorem numL_snoc (l : List UInt8) (c : UInt8) : numL (l ++ [c]) = numL l * 10 + (c.toNat - 48) := by simp [numL]
theorem numL_step (s : ByteArray) (k : Nat) (h : k < s.size) : numL (s.data.toList.take (k + 1)) = numL (s.data.toList.take k) * 10 + (s[k].toNat - 48) := by
  rw [take_snoc s k h, numL_snoc]
theorem foldl_le (l : List UInt8) (a : Nat) : a ≤ l.foldl (fun n c => n * 10 + (c.toNat - 48)) a := by
  induction l generalizing a with
  | nil => simp
  | cons c l ih => exact Nat.le_trans (by omega) (ih (a * 10 + (c.toNat - 48)))
theorem numL_take_le (l : List UInt8) (k : Nat) : numL (l.take k) ≤ numL l := by
  have : numL l = (l.drop k).foldl (fun n c => n * 10 + (c.toNat - 48)) (numL (l.take k)) := by
    unfold numL; rw [← List.foldl_append, List.take_append_drop]
  rw [this]; exact foldl_le _ _
theorem ret_v {k : IntKind} {a b : Int} (h : a = b) : Value.int k a = Value.int k b := by rw [h]
theorem digs_ne (l : List UInt8) (hd : digsB l = true) : l ≠ [] := by
  rintro rfl; simp [digsB] at hd
theorem numP_over (s : ByteArray) (k : Nat) (most : Int) (hlt : k < s.size) (hd : digsB s.data.toList = true)
    (hs : numL (s.data.toList.take (k + 1)) = numL (s.data.toList.take k) * 10 + (s[k].toNat - 48))
    (h : most < (numL (s.data.toList.take k) : Int) * 10 + ((s[k].toNat : Int) - 48)) : NumP s.data.toList most (.returned (.tuple #[.int .i64 0, .int .i64 4])) := by
  refine .inr (.inl ⟨hd, ?_, rfl⟩)
  have h1 := digs_at s k hlt hd
  have h2 := numL_take_le s.data.toList (k + 1)
  omega
theorem numP_end (s : ByteArray) (k : Nat) (most : Int) (hk : k = s.size) (hd : digsB s.data.toList = true) (h : k = 0 ∨ (numL (s.data.toList.take k) : Int) ≤ most) :
    NumP s.data.toList most (.returned (.tuple #[.int .i64 (numL (s.data.toList.take k)), .int .i64 0])) := by
  have hn := digs_ne _ hd
  have h0 : k ≠ 0 := by
    rintro rfl
    apply hn
    have : s.data.toList.length = 0 := by simpa using hk.symm
    exact List.length_eq_zero_iff.1 this
  have ht : s.data.toList.take k = s.data.toList := List.take_of_length_le (by simp; omega)
  rw [ht] at h ⊢
  exact .inr (.inr ⟨hd, by omega, rfl⟩)
def lowB (c : UInt8) : UInt8 := if 65 ≤ c.toNat ∧ c.toNat ≤ 90 then c + 32 else c
theorem lowB_int (c : UInt8) : ((lowB c).toNat : Int) = lowI c.toNat := by
  unfold lowB lowI
  by_cases h : 65 ≤ c.toNat ∧ c.toNat ≤ 90
  · rw [if_pos h, if_pos (by omega), UInt8.toNat_add]
    have : (32 : UInt8).toNat = 32 := rfl
    omega
  · rw [if_neg h, if_neg (by omega)]
def strV (l : List UInt8) : Value := .string ⟨l.toArray⟩
def strVs (l : List (List UInt8)) : List Value := l.map strV
theorem strVs_app (a : List (List UInt8)) (x : List UInt8) : strVs (a ++ [x]) = strVs a ++ [strV x] := by simp [strVs]
theorem strVs_len (a : List (List UInt8)) : (strVs a).length = a.length := by simp [strVs]
end Go.Proofs.YtbcnnjifndmdpaaDoor
namespace Go.Proofs.YtbcnnjifndmdpaaDoor
open Go.RowKit
def bndI (k b : Int) : Int := min (max (36 * k - b) 1) 26
theorem bnd_bd (k b : Int) : 1 ≤ bndI k b ∧ bndI k b ≤ 26 := by unfold bndI; omega
def redI (d : Int) : Int × Int := if 455 < d then ((redI (d / 35)).1, (redI (d / 35)).2 + 1) else (d, 0)
termination_by d.toNat
decreasing_by all_goals omega
theorem red_go {d : Int} (h : 455 < d) : redI d = ((redI (d / 35)).1, (redI (d / 35)).2 + 1) := by rw [redI]; rw [if_pos h]
theorem red_end {d : Int} (h : ¬ 455 < d) : redI d = (d, 0) := by rw [redI]; rw [if_neg h]
theorem red_bd (n : Nat) : ∀ d : Int, d.toNat ≤ n → 0 ≤ d → 0 ≤ (redI d).1 ∧ (redI d).1 ≤ 455 ∧ 0 ≤ (redI d).2 ∧ (redI d).2 ≤ d := by
  induction n with
  | zero => intro d h h0; rw [red_end (by omega)]; simp only; omega
  | succ n ih =>
    intro d h h0
    by_cases hd : 455 < d
    · rw [red_go hd]
      have := ih (d / 35) (by omega) (by omega)
      simp only; omega
    · rw [red_end hd]; simp only; omega
def adp (d n : Int) (first : Bool) : Int :=
  36 * (redI ((if first then d / 700 else d / 2) + (if first then d / 700 else d / 2) / n)).2 +
    36 * (redI ((if first then d / 700 else d / 2) + (if first then d / 700 else d / 2) / n)).1 / ((redI ((if first then d / 700 else d / 2) + (if first then d / 700 else d / 2) / n)).1 + 38)
theorem quo_bd (r : Int) (h : 0 ≤ r) : 0 ≤ 36 * r / (r + 38) ∧ 36 * r / (r + 38) ≤ 36 := by
  constructor
  · exact Int.ediv_nonneg (by omega) (by omega)
  · exact Int.ediv_le_of_le_mul (by omega) (by omega)
theorem half_bd (d n : Int) (h0 : 0 ≤ d) (hn : 1 ≤ n) : 0 ≤ d / n ∧ d / n ≤ d := ⟨Int.ediv_nonneg h0 (by omega), Int.ediv_le_self n h0⟩
theorem adp_bd (d n : Int) (first : Bool) (h0 : 0 ≤ d) (h1 : d ≤ 8589934592) (hn : 1 ≤ n) : 0 ≤ adp d n first ∧ adp d n first ≤ 1099511627776 := by
  unfold adp
  obtain ⟨x, hx⟩ : ∃ x, x = (if first then d / 700 else d / 2) := ⟨_, rfl⟩
  have hx2 : 0 ≤ x ∧ x ≤ 8589934592 := by rw [hx]; split <;> omega
  rw [← hx]
  have h2 := half_bd x n hx2.1 hn
  have h3 := red_bd _ (x + x / n) (Nat.le_refl _) (by omega)
  have h4 := quo_bd _ h3.1
  omega
def figC (f : Int) : UInt8 := if f < 26 then UInt8.ofNat (97 + f).toNat else UInt8.ofNat (22 + f).toNat
theorem fig_lt (d k b : Int) (h : bndI k b ≤ d) : ((d - bndI k b) / (36 - bndI k b)).toNat < d.toNat ∧ 0 ≤ (d - bndI k b) / (36 - bndI k b) := by
  have hb := bnd_bd k b
  have h1 := half_bd (d - bndI k b) (36 - bndI k b) (by omega) (by omega)
  omega
def figs (d k b : Int) : List UInt8 :=
  if h : bndI k b ≤ d then figC (bndI k b + (d - bndI k b) % (36 - bndI k b)) :: figs ((d - bndI k b) / (36 - bndI k b)) (k + 1) b else [figC d]
termination_by d.toNat
decreasing_by exact (fig_lt d k b h).1
theorem figs_go {d k b : Int} (h : bndI k b ≤ d) : figs d k b = figC (bndI k b + (d - bndI k b) % (36 - bndI k b)) :: figs ((d - bndI k b) / (36 - bndI k b)) (k + 1) b := by rw [figs]; rw [dif_pos h]
theorem figs_end {d k b : Int} (h : ¬ bndI k b ≤ d) : figs d k b = [figC d] := by rw [figs]; rw [dif_neg h]
theorem figs_ten {d k b : Int} {m : Nat} (h : bndI k b ≤ d) (hm : d < 10 ^ m) : ∃ m', m = m' + 1 ∧ (d - bndI k b) / (36 - bndI k b) < 10 ^ m' ∧ 0 ≤ (d - bndI k b) / (36 - bndI k b) := by
  have hb := bnd_bd k b
  match m, hm with
  | 0, hm => simp at hm; omega
  | m' + 1, hm =>
    refine ⟨m', rfl, ?_, (fig_lt d k b h).2⟩
    have h1 : (d - bndI k b) / (36 - bndI k b) * (36 - bndI k b) ≤ d - bndI k b := Int.ediv_mul_le _ (by omega)
    have h2 : (d - bndI k b) / (36 - bndI k b) * 10 ≤ (d - bndI k b) / (36 - bndI k b) * (36 - bndI k b) := Int.mul_le_mul_of_nonneg_left (by omega) (fig_lt d k b h).2
    rw [Int.pow_succ] at hm
    omega
theorem figs_len : ∀ (m : Nat) (d k b : Int), 0 ≤ d → d < 10 ^ m → (figs d k b).length ≤ m + 1
  | 0, d, k, b, h0, h => by
    have := bnd_bd k b
    rw [figs_end (by simp at h; omega)]; simp
  | m + 1, d, k, b, h0, h => by
    by_cases hd : bndI k b ≤ d
    · obtain ⟨m', e, h1, h2⟩ := figs_ten hd h
      obtain rfl : m = m' := by omega
      rw [figs_go hd, List.length_cons]
      have := figs_len m _ (k + 1) b h2 h1
      omega
    · rw [figs_end hd]; simp
/-- bytes written, steps, bias, done -/
abbrev St := List UInt8 × Int × Int × Int
def upS (m c s : Int) : Int := if c < m then s + 1 else s
theorem upS_bd (m c s : Int) : s ≤ upS m c s ∧ upS m c s ≤ s + 1 := by unfold upS; split <;> omega
def rnd (m basic : Int) : List Int → St → Option St
  | [], st => some st
  | c :: r, st =>
    if 4294967295 < upS m c st.2.1 then none
    else if c = m then rnd m basic r (st.1 ++ figs (upS m c st.2.1) 1 st.2.2.1, 0, adp (upS m c st.2.1) (st.2.2.2 + 1) (decide (st.2.2.2 = basic)), st.2.2.2 + 1)
    else rnd m basic r (st.1, upS m c st.2.1, st.2.2.1, st.2.2.2)
theorem rnd_ov {m basic c : Int} {r : List Int} {st : St} (h : 4294967295 < upS m c st.2.1) : rnd m basic (c :: r) st = none := by unfold rnd; rw [if_pos h]
theorem rnd_put {m basic c : Int} {r : List Int} {st : St} (h : ¬ 4294967295 < upS m c st.2.1) (hc : c = m) :
    rnd m basic (c :: r) st = rnd m basic r (st.1 ++ figs (upS m c st.2.1) 1 st.2.2.1, 0, adp (upS m c st.2.1) (st.2.2.2 + 1) (decide (st.2.2.2 = basic)), st.2.2.2 + 1) := by
  conv => lhs; unfold rnd
  rw [if_neg h, if_pos hc]
theorem rnd_pass {m basic c : Int} {r : List Int} {st : St} (h : ¬ 4294967295 < upS m c st.2.1) (hc : ¬ c = m) :
    rnd m basic (c :: r) st = rnd m basic r (st.1, upS m c st.2.1, st.2.2.1, st.2.2.2) := by
  conv => lhs; unfold rnd
  rw [if_neg h, if_neg hc]
theorem rnd_done (m basic : Int) : ∀ (l : List Int) (st st2 : St), rnd m basic l st = some st2 → st2.2.2.2 = st.2.2.2 + (l.countP fun c => decide (c = m) : Nat)
  | [], st, st2, h => by
    unfold rnd at h
    obtain rfl := Option.some.inj h
    simp
  | c :: r, st, st2, h => by
    by_cases h1 : 4294967295 < upS m c st.2.1
    · rw [rnd_ov h1] at h; cases h
    · by_cases hc : c = m
      · rw [rnd_put h1 hc] at h
        have := rnd_done m basic r _ st2 h
        rw [this, List.countP_cons]
        simp [hc]
        omega
      · rw [rnd_pass h1 hc] at h
        have := rnd_done m basic r _ st2 h
        rw [this, List.countP_cons]
        simp [hc]
def lstF (n : Int) (m c : Int) : Int := if n ≤ c then min m c else m
def leastI (l : List Int) (n : Int) : Int := l.foldl (lstF n) 1114111
theorem lst_fold (n : Int) : ∀ (l : List Int) (m : Int), l.foldl (lstF n) m ≤ m ∧ (l.foldl (lstF n) m = m ∨ (l.foldl (lstF n) m ∈ l ∧ n ≤ l.foldl (lstF n) m)) ∧ ∀ c ∈ l, n ≤ c → l.foldl (lstF n) m ≤ c
  | [], m => by simp
  | c :: r, m => by
    obtain ⟨h1, h2, h3⟩ := lst_fold n r (lstF n m c)
    have hl : lstF n m c ≤ m ∧ (lstF n m c = m ∨ (lstF n m c = c ∧ n ≤ c)) ∧ (n ≤ c → lstF n m c ≤ c) := by
      unfold lstF; split <;> omega
    rw [List.foldl_cons]
    refine ⟨by omega, ?_, ?_⟩
    · rcases h2 with h2 | ⟨h2, h4⟩
      · rcases hl.2.1 with h5 | ⟨h5, h6⟩
        · left; omega
        · right; rw [h2, h5]; exact ⟨List.mem_cons_self, h6⟩
      · right; exact ⟨List.mem_cons_of_mem _ h2, h4⟩
    · intro x hx hn
      rcases List.mem_cons.1 hx with rfl | hx
      · have := hl.2.2 hn; omega
      · exact h3 x hx hn
/-- what the least point is -/
def IsLst (l : List Int) (n r : Int) : Prop := r ∈ l ∧ n ≤ r ∧ ∀ c ∈ l, n ≤ c → r ≤ c
theorem lst_is {l : List Int} {n m : Int} (hm : 1114111 ≤ m) (hx : ∀ c ∈ l, c ≤ 1114111) (he : ∃ c ∈ l, n ≤ c) : IsLst l n (l.foldl (lstF n) m) := by
  obtain ⟨h1, h2, h3⟩ := lst_fold n l m
  obtain ⟨c, hc, hn⟩ := he
  have h4 := h3 c hc hn
  have h5 := hx c hc
  rcases h2 with h2 | h2
  · have e : c = l.foldl (lstF n) m := by omega
    rw [← e]
    exact ⟨hc, hn, fun d hd hdn => by rw [e]; exact h3 d hd hdn⟩
  · exact ⟨h2.1, h2.2, h3⟩
def cnt (l : List Int) (n : Int) : Int := (l.countP fun c => decide (c < n) : Nat)
theorem cnt_le (l : List Int) (n : Int) : 0 ≤ cnt l n ∧ cnt l n ≤ l.length := by
  unfold cnt
  have := List.countP_le_length (p := fun c => decide (c < n)) (l := l)
  omega
theorem cnt_ex {l : List Int} {n : Int} (h : cnt l n < l.length) : ∃ c ∈ l, n ≤ c := by
  unfold cnt at h
  apply Classical.byContradiction
  intro hn
  have : l.countP (fun c => decide (c < n)) = l.length := by
    rw [List.countP_eq_length]
    intro a ha
    simp
    apply Classical.byContradiction
    intro h2
    exact hn ⟨a, ha, by omega⟩
  omega
theorem cnt_succ (l : List Int) (m : Int) : cnt l (m + 1) = cnt l m + (l.countP fun c => decide (c = m) : Nat) := by
  unfold cnt
  induction l with
  | nil => simp
  | cons c r ih =>
    simp only [List.countP_cons, decide_eq_true_eq, Int.natCast_add, ih]
    by_cases h1 : c < m
    · rw [if_pos h1, if_pos (by omega), if_neg (by omega)]; simp; omega
    · by_cases h3 : c = m
      · rw [if_neg h1, if_pos (by omega), if_pos h3]; simp; omega
      · rw [if_neg h1, if_neg (by omega), if_neg h3]; simp
theorem cnt_lst {l : List Int} {n m : Int} (h : IsLst l n m) : cnt l m = cnt l n := by
  unfold cnt
  congr 1
  apply List.countP_congr
  intro c hc
  simp
  have h1 := h.2.1
  constructor
  · intro hlt
    apply Classical.byContradiction
    intro hh
    have := h.2.2 c hc (by omega)
    omega
  · omega
theorem cnt_pos {l : List Int} {m : Int} (h : m ∈ l) : 1 ≤ l.countP (fun c => decide (c = m)) := List.countP_pos_iff.2 ⟨m, h, by simp⟩
/-- the state at the head of each round of writing -/
structure EInv (l : List Int) (n : Int) (st : St) : Prop where
  n0 : 128 ≤ n
  n1 : n ≤ 1114112
  s0 : 0 ≤ st.2.1
  s1 : st.2.1 ≤ 4294967296
  b0 : 0 ≤ st.2.2.1
  b1 : st.2.2.1 ≤ 1099511627776
  d : st.2.2.2 = cnt l n
  o : (st.1.length : Int) ≤ 5000 + 40 * st.2.2.2
def encL (l : List Int) (basic : Int) : Nat → Int → St → Option (List UInt8)
  | 0, _, _ => none
  | f + 1, n, st =>
    if st.2.2.2 < l.length then
      match rnd (leastI l n) basic l (st.1, st.2.1 + (leastI l n - n) * (st.2.2.2 + 1), st.2.2.1, st.2.2.2) with
      | none => none
      | some st2 => encL l basic f (leastI l n + 1) (st2.1, st2.2.1 + 1, st2.2.2.1, st2.2.2.2)
    else some st.1
theorem encL_end {l : List Int} {basic n : Int} {f : Nat} {st : St} (h : ¬ st.2.2.2 < l.length) : encL l basic (f + 1) n st = some st.1 := by
  unfold encL; rw [if_neg h]
theorem encL_no {l : List Int} {basic n : Int} {f : Nat} {st : St} (h : st.2.2.2 < l.length) (hr : rnd (leastI l n) basic l (st.1, st.2.1 + (leastI l n - n) * (st.2.2.2 + 1), st.2.2.1, st.2.2.2) = none) : encL l basic (f + 1) n st = none := by
  unfold encL; rw [if_pos h, hr]
theorem encL_go {l : List Int} {basic n : Int} {f : Nat} {st st2 : St} (h : st.2.2.2 < l.length) (hr : rnd (leastI l n) basic l (st.1, st.2.1 + (leastI l n - n) * (st.2.2.2 + 1), st.2.2.1, st.2.2.2) = some st2) :
    encL l basic (f + 1) n st = encL l basic f (leastI l n + 1) (st2.1, st2.2.1 + 1, st2.2.2.1, st2.2.2.2) := by
  conv => lhs; unfold encL
  rw [if_pos h, hr]
/-- the points that stand for themselves -/
def basL (l : List Int) : List UInt8 := (l.filter fun c => decide (c < 128)).map fun c => UInt8.ofNat c.toNat
def hyp (l : List UInt8) : List UInt8 := if l.length = 0 then [] else l ++ [45]
def offB (l : List Int) : Bool := l.any fun c => decide (c < 0) || decide (1114111 < c)
def encO (l : List Int) : Option (List UInt8) := encL l (basL l).length (l.length + 1) 128 (hyp (basL l), 0, 72, (basL l).length)
def encE (l : List Int) : List UInt8 × Int :=
  if 4096 < l.length then ([], 3) else if offB l then ([], 4) else match encO l with
    | none => ([], 6)
    | some o => (o, 0)
end Go.Proofs.YtbcnnjifndmdpaaDoor
namespace Go.Proofs.YtbcnnjifndmdpaaDoor
open Go.RowKit
set_option linter.unusedVariables false
theorem basL_len (l : List Int) : ((basL l).length : Int) = cnt l 128 := by
  unfold basL cnt
  rw [List.length_map, List.countP_eq_length_filter]
theorem basL_yes (l : List Int) {c : Int} (h : c < 128) : basL (l ++ [c]) = basL l ++ [UInt8.ofNat c.toNat] := by
  unfold basL; simp [List.filter_append, h]
theorem basL_no (l : List Int) {c : Int} (h : ¬ c < 128) : basL (l ++ [c]) = basL l := by
  unfold basL; simp [List.filter_append, h]
theorem u8_nat {c : Int} (h0 : 0 ≤ c) (h1 : c < 256) : ((UInt8.ofNat c.toNat).toNat : Int) = c := by
  simp only [UInt8.toNat_ofNat']; omega
theorem offB_at {l : List Int} {k : Nat} (hk : k < l.length) (h : l[k] < 0 ∨ 1114111 < l[k]) : offB l = true := by
  unfold offB
  rw [List.any_eq_true]
  exact ⟨l[k], List.getElem_mem _, by simp; omega⟩
theorem offB_no {l : List Int} (h : ∀ x ∈ l, 0 ≤ x ∧ x ≤ 1114111) : offB l = false := by
  unfold offB
  rw [List.any_eq_false]
  intro x hx
  have := h x hx
  simp; omega
theorem encE_long {l : List Int} (h : 4096 < l.length) : encE l = ([], 3) := by unfold encE; rw [if_pos h]
theorem encE_off {l : List Int} (h : ¬ 4096 < l.length) (h2 : offB l = true) : encE l = ([], 4) := by unfold encE; rw [if_neg h, if_pos h2]
theorem encE_over {l : List Int} (h : ¬ 4096 < l.length) (h2 : offB l = false) (h3 : encO l = none) : encE l = ([], 6) := by
  unfold encE; rw [if_neg h, if_neg (by simp [h2]), h3]
theorem encE_ok {l : List Int} {o : List UInt8} (h : ¬ 4096 < l.length) (h2 : offB l = false) (h3 : encO l = some o) : encE l = (o, 0) := by
  unfold encE; rw [if_neg h, if_neg (by simp [h2]), h3]
theorem hyp_len (l : List UInt8) : (hyp l).length ≤ l.length + 1 := by unfold hyp; split <;> simp
theorem eInv_start {l : List Int} (h : ¬ 4096 < l.length) : EInv l 128 (hyp (basL l), 0, 72, (basL l).length) := by
  have h1 := basL_len l
  have h2 := cnt_le l 128
  have h3 := hyp_len (basL l)
  exact ⟨by omega, by omega, by simp, by simp, by simp, by simp, h1, by simp only; omega⟩
theorem eInv_lst {l : List Int} {n : Int} {st : St} (hi : EInv l n st) (hx : ∀ x ∈ l, 0 ≤ x ∧ x ≤ 1114111) (hd : st.2.2.2 < l.length) : IsLst l n (leastI l n) :=
  lst_is (Int.le_refl _) (fun c hc => (hx c hc).2) (cnt_ex (by rw [← hi.d]; exact hd))
theorem eInv_step {l : List Int} {n bs : Int} {st st2 : St} (hi : EInv l n st) (hx : ∀ x ∈ l, 0 ≤ x ∧ x ≤ 1114111) (hd : st.2.2.2 < l.length)
    (hr : rnd (leastI l n) bs l (st.1, st.2.1 + (leastI l n - n) * (st.2.2.2 + 1), st.2.2.1, st.2.2.2) = some st2) (x0 : 0 ≤ st2.2.1) (x1 : st2.2.1 ≤ 4294967295) (y0 : 0 ≤ st2.2.2.1) (y1 : st2.2.2.1 ≤ 1099511627776) (ho : (st2.1.length : Int) ≤ 5000 + 40 * st2.2.2.2) :
    EInv l (leastI l n + 1) (st2.1, st2.2.1 + 1, st2.2.2.1, st2.2.2.2) ∧ st.2.2.2 < st2.2.2.2 := by
  have hm := eInv_lst hi hx hd
  have h1 := rnd_done _ _ _ _ _ hr
  have h2 := cnt_lst hm
  have h3 := cnt_succ l (leastI l n)
  have h4 := cnt_pos hm.1
  have h5 := hi.d
  have h6 := hx _ hm.1
  have h7 := hi.n0
  have h8 := hm.2.1
  simp only at h1
  exact ⟨⟨by omega, by omega, by simp only; omega, by simp only; omega, y0, y1, by simp only; omega, ho⟩, by omega⟩
theorem enc_go {l : List Int} {bs n : Int} {f : Nat} {st st2 : St} {O : Option (List UInt8)} (h : O = encL l bs f n st) (hf : (l.length : Int) - st.2.2.2 < f) (hd : st.2.2.2 < l.length)
    (hr : rnd (leastI l n) bs l (st.1, st.2.1 + (leastI l n - n) * (st.2.2.2 + 1), st.2.2.1, st.2.2.2) = some st2) (h2 : st.2.2.2 < st2.2.2.2) :
    ∃ f', O = encL l bs f' (leastI l n + 1) (st2.1, st2.2.1 + 1, st2.2.2.1, st2.2.2.2) ∧ (l.length : Int) - st2.2.2.2 < f' := by
  match f, h, hf with
  | 0, _, hf => simp at hf; omega
  | f' + 1, h, hf => exact ⟨f', by rw [h, encL_go hd hr], by omega⟩
theorem enc_no {l : List Int} {bs n : Int} {f : Nat} {st : St} {O : Option (List UInt8)} (h : O = encL l bs f n st) (hf : (l.length : Int) - st.2.2.2 < f) (hd : st.2.2.2 < l.length)
    (hr : rnd (leastI l n) bs l (st.1, st.2.1 + (leastI l n - n) * (st.2.2.2 + 1), st.2.2.1, st.2.2.2) = none) : O = none := by
  match f, h, hf with
  | 0, _, hf => simp at hf; omega
  | f' + 1, h, hf => rw [h, encL_no hd hr]
theorem enc_end {l : List Int} {bs n : Int} {f : Nat} {st : St} {O : Option (List UInt8)} (h : O = encL l bs f n st) (hf : (l.length : Int) - st.2.2.2 < f) (hd : ¬ st.2.2.2 < l.length) (hc : st.2.2.2 ≤ l.length) : O = some st.1 := by
  match f, h, hf with
  | 0, _, hf => simp at hf; omega
  | f' + 1, h, hf => rw [h, encL_end hd]
end Go.Proofs.YtbcnnjifndmdpaaDoor
namespace Go.Proofs.YtbcnnjifndmdpaaDoor
open Go.RowKit
set_option linter.unusedVariables false
def valI (c : Int) : Int := if 97 ≤ c ∧ c ≤ 122 then c - 97 else if 65 ≤ c ∧ c ≤ 90 then c - 65 else if 48 ≤ c ∧ c ≤ 57 then c - 22 else -1
theorem valI_bd (c : Int) : -1 ≤ valI c ∧ valI c ≤ 35 := by unfold valI; split <;> (try split) <;> (try split) <;> omega
def vB (c : UInt8) : Int := valI (c.toNat : Int)
theorem vB_bd (c : UInt8) : -1 ≤ vB c ∧ vB c ≤ 35 := valI_bd _
abbrev NumR := Int × Int × List UInt8
def numb (b : Int) : List UInt8 → Int → Int → Int → NumR
  | [], _, _, _ => (5, 0, [])
  | c :: r, k, d, w =>
    if vB c < 0 then (5, 0, [])
    else if 4294967295 < d + vB c * w then (6, 0, [])
    else if vB c < bndI k b then (0, d + vB c * w, r)
    else if 4294967295 < w * (36 - bndI k b) then (6, 0, [])
    else numb b r (k + 1) (d + vB c * w) (w * (36 - bndI k b))
theorem numb_no {b k d w : Int} {c : UInt8} {r : List UInt8} (h : vB c < 0) : numb b (c :: r) k d w = (5, 0, []) := by unfold numb; rw [if_pos h]
theorem numb_over {b k d w : Int} {c : UInt8} {r : List UInt8} (h : ¬ vB c < 0) (h2 : 4294967295 < d + vB c * w) : numb b (c :: r) k d w = (6, 0, []) := by unfold numb; rw [if_neg h, if_pos h2]
theorem numb_end {b k d w : Int} {c : UInt8} {r : List UInt8} (h : ¬ vB c < 0) (h2 : ¬ 4294967295 < d + vB c * w) (h3 : vB c < bndI k b) : numb b (c :: r) k d w = (0, d + vB c * w, r) := by
  unfold numb; rw [if_neg h, if_neg h2, if_pos h3]
theorem numb_wide {b k d w : Int} {c : UInt8} {r : List UInt8} (h : ¬ vB c < 0) (h2 : ¬ 4294967295 < d + vB c * w) (h3 : ¬ vB c < bndI k b) (h4 : 4294967295 < w * (36 - bndI k b)) : numb b (c :: r) k d w = (6, 0, []) := by
  unfold numb; rw [if_neg h, if_neg h2, if_neg h3, if_pos h4]
theorem numb_go {b k d w : Int} {c : UInt8} {r : List UInt8} (h : ¬ vB c < 0) (h2 : ¬ 4294967295 < d + vB c * w) (h3 : ¬ vB c < bndI k b) (h4 : ¬ 4294967295 < w * (36 - bndI k b)) :
    numb b (c :: r) k d w = numb b r (k + 1) (d + vB c * w) (w * (36 - bndI k b)) := by
  conv => lhs; unfold numb
  rw [if_neg h, if_neg h2, if_neg h3, if_neg h4]
/-- what a number leaves is shorter, and the number is bounded -/
theorem numb_less (b : Int) : ∀ (r : List UInt8) (k d w : Int), 0 ≤ d → d ≤ 4294967295 → 0 ≤ w → 0 ≤ (numb b r k d w).2.1 ∧ (numb b r k d w).2.1 ≤ 4294967295 ∧ ((numb b r k d w).1 = 0 → ∃ p, p ≠ [] ∧ r = p ++ (numb b r k d w).2.2) ∧ ((numb b r k d w).1 = 0 ∨ (numb b r k d w).1 = 5 ∨ (numb b r k d w).1 = 6)
  | [], k, d, w, h0, h1, hw => by simp [numb]
  | c :: r, k, d, w, h0, h1, hw => by
    by_cases h : vB c < 0
    · rw [numb_no h]; simp
    by_cases h2 : 4294967295 < d + vB c * w
    · rw [numb_over h h2]; simp
    have hm : 0 ≤ vB c * w := Int.mul_nonneg (by omega) hw
    by_cases h3 : vB c < bndI k b
    · rw [numb_end h h2 h3]
      exact ⟨by simp only; omega, by simp only; omega, fun _ => ⟨[c], by simp, rfl⟩, .inl rfl⟩
    by_cases h4 : 4294967295 < w * (36 - bndI k b)
    · rw [numb_wide h h2 h3 h4]; simp
    · rw [numb_go h h2 h3 h4]
      have hb := bnd_bd k b
      obtain ⟨i1, i2, i3, i4⟩ := numb_less b r (k + 1) (d + vB c * w) (w * (36 - bndI k b)) (by omega) (by omega) (Int.mul_nonneg hw (by omega))
      refine ⟨i1, i2, fun h => ?_, i4⟩
      obtain ⟨p, _, hp⟩ := i3 h
      exact ⟨c :: p, by simp, by rw [List.cons_append, ← hp]⟩
/-- points, n, at, the bias, whether the first number comes -/
abbrev Ds := List Int × Int × Int × Int × Bool
def insI (l : List Int) (i : Nat) (x : Int) : List Int := l.take i ++ x :: l.drop i
def putS (d : Int) (st : Ds) : Int × Ds :=
  if 4294967295 < st.2.2.1 + d then (6, st)
  else if 1114111 < st.2.1 + (st.2.2.1 + d) / (st.1.length + 1) then (4, st)
  else if 4096 < st.1.length + 1 then (3, st)
  else (0, insI st.1 ((st.2.2.1 + d) % (st.1.length + 1)).toNat (st.2.1 + (st.2.2.1 + d) / (st.1.length + 1)), st.2.1 + (st.2.2.1 + d) / (st.1.length + 1), (st.2.2.1 + d) % (st.1.length + 1) + 1, adp d (st.1.length + 1) st.2.2.2.2, false)
theorem putS_over {d : Int} {st : Ds} (h : 4294967295 < st.2.2.1 + d) : putS d st = (6, st) := by unfold putS; rw [if_pos h]
theorem putS_range {d : Int} {st : Ds} (h : ¬ 4294967295 < st.2.2.1 + d) (h2 : 1114111 < st.2.1 + (st.2.2.1 + d) / (st.1.length + 1)) : putS d st = (4, st) := by unfold putS; rw [if_neg h, if_pos h2]
theorem putS_long {d : Int} {st : Ds} (h : ¬ 4294967295 < st.2.2.1 + d) (h2 : ¬ 1114111 < st.2.1 + (st.2.2.1 + d) / (st.1.length + 1)) (h3 : 4096 < st.1.length + 1) : putS d st = (3, st) := by unfold putS; rw [if_neg h, if_neg h2, if_pos h3]
theorem putS_ok {d : Int} {st : Ds} (h : ¬ 4294967295 < st.2.2.1 + d) (h2 : ¬ 1114111 < st.2.1 + (st.2.2.1 + d) / (st.1.length + 1)) (h3 : ¬ 4096 < st.1.length + 1) :
    putS d st = (0, insI st.1 ((st.2.2.1 + d) % (st.1.length + 1)).toNat (st.2.1 + (st.2.2.1 + d) / (st.1.length + 1)), st.2.1 + (st.2.2.1 + d) / (st.1.length + 1), (st.2.2.1 + d) % (st.1.length + 1) + 1, adp d (st.1.length + 1) st.2.2.2.2, false) := by
  unfold putS; rw [if_neg h, if_neg h2, if_neg h3]
/-- the state at the head of each number -/
structure DInv (st : Ds) : Prop where
  n0 : 128 ≤ st.2.1
  n1 : st.2.1 ≤ 1114111
  a0 : 0 ≤ st.2.2.1
  a1 : st.2.2.1 ≤ 5000
  b0 : 0 ≤ st.2.2.2.1
  b1 : st.2.2.2.1 ≤ 1099511627776
  l : st.1.length ≤ 4096
  p : ∀ x ∈ st.1, 0 ≤ x ∧ x ≤ 1114111
theorem insI_mem {l : List Int} {i : Nat} {x y : Int} (h : y ∈ insI l i x) : y = x ∨ y ∈ l := by
  unfold insI at h
  rcases List.mem_append.1 h with h | h
  · exact .inr (List.mem_of_mem_take h)
  · rcases List.mem_cons.1 h with h | h
    · exact .inl h
    · exact .inr (List.mem_of_mem_drop h)
theorem insI_len {l : List Int} {i : Nat} {x : Int} (h : i ≤ l.length) : (insI l i x).length = l.length + 1 := by simp [insI]; omega
theorem putS_inv {d : Int} {st : Ds} (hi : DInv st) (d0 : 0 ≤ d) (d1 : d ≤ 4294967295) (h : ¬ 4294967295 < st.2.2.1 + d) (h2 : ¬ 1114111 < st.2.1 + (st.2.2.1 + d) / (st.1.length + 1)) (h3 : ¬ 4096 < st.1.length + 1) :
    DInv (insI st.1 ((st.2.2.1 + d) % (st.1.length + 1)).toNat (st.2.1 + (st.2.2.1 + d) / (st.1.length + 1)), st.2.1 + (st.2.2.1 + d) / (st.1.length + 1), (st.2.2.1 + d) % (st.1.length + 1) + 1, adp d (st.1.length + 1) st.2.2.2.2, false) := by
  have a0 := hi.a0
  have m0 := Int.emod_nonneg (st.2.2.1 + d) (show (st.1.length + 1 : Int) ≠ 0 by omega)
  have m1 := Int.emod_lt_of_pos (st.2.2.1 + d) (show (0 : Int) < st.1.length + 1 by omega)
  have q0 := Int.ediv_nonneg (show 0 ≤ st.2.2.1 + d by omega) (show (0 : Int) ≤ st.1.length + 1 by omega)
  have hb := adp_bd d (st.1.length + 1) st.2.2.2.2 d0 (by omega) (by omega)
  have hn := hi.n0
  refine ⟨by simp only; omega, by simp only; omega, by simp only; omega, by simp only; omega, hb.1, hb.2, ?_, ?_⟩
  · simp only
    rw [insI_len (by omega)]
    omega
  · simp only
    intro x hx
    rcases insI_mem hx with rfl | hx
    · omega
    · exact hi.p x hx
def decL : Nat → List UInt8 → Ds → List Int × Int
  | 0, _, st => (st.1, 0)
  | f + 1, r, st =>
    if r = [] then (st.1, 0)
    else if (numb st.2.2.2.1 r 1 0 1).1 ≠ 0 then ([], (numb st.2.2.2.1 r 1 0 1).1)
    else if (putS (numb st.2.2.2.1 r 1 0 1).2.1 st).1 ≠ 0 then ([], (putS (numb st.2.2.2.1 r 1 0 1).2.1 st).1)
    else decL f (numb st.2.2.2.1 r 1 0 1).2.2 (putS (numb st.2.2.2.1 r 1 0 1).2.1 st).2
theorem decL_end (f : Nat) (st : Ds) : decL f [] st = (st.1, 0) := by cases f <;> simp [decL]
theorem decL_num {f : Nat} {r : List UInt8} {st : Ds} {x : Int} (hf : r.length ≤ f) (hr : r ≠ []) (h : (numb st.2.2.2.1 r 1 0 1).1 = x) (hx : x ≠ 0) : decL f r st = ([], x) := by
  match f, hf with
  | 0, hf => exact absurd (List.length_eq_zero_iff.1 (by omega)) hr
  | f + 1, hf => unfold decL; rw [if_neg hr, if_pos (by rw [h]; exact hx), h]
theorem decL_put {f : Nat} {r r' : List UInt8} {st st' : Ds} {x d : Int} (hf : r.length ≤ f) (hr : r ≠ []) (h : numb st.2.2.2.1 r 1 0 1 = (0, d, r')) (h2 : putS d st = (x, st')) (hx : x ≠ 0) : decL f r st = ([], x) := by
  match f, hf with
  | 0, hf => exact absurd (List.length_eq_zero_iff.1 (by omega)) hr
  | f + 1, hf => unfold decL; rw [if_neg hr, if_neg (by rw [h]; simp), if_pos (by rw [h, h2]; exact hx), h, h2]
theorem decL_go {f : Nat} {r r' : List UInt8} {st st' : Ds} {d : Int} (hf : r.length ≤ f) (hr : r ≠ []) (h : numb st.2.2.2.1 r 1 0 1 = (0, d, r')) (h2 : putS d st = (0, st')) :
    ∃ f', decL f r st = decL f' r' st' ∧ r'.length ≤ f' ∧ r'.length < r.length := by
  have hl := (numb_less st.2.2.2.1 r 1 0 1 (by omega) (by omega) (by omega)).2.2.1 (by rw [h])
  rw [h] at hl
  obtain ⟨p, hp, he⟩ := hl
  have hpl : 0 < p.length := List.length_pos_iff.2 hp
  have hlen : r.length = p.length + r'.length := by conv => lhs; rw [he]; rw [List.length_append]
  match f, hf with
  | 0, hf => exact absurd (List.length_eq_zero_iff.1 (by omega)) hr
  | f + 1, hf => exact ⟨f, by conv => lhs; unfold decL; rw [if_neg hr, if_neg (by rw [h]; simp), if_neg (by rw [h, h2]; simp), h, h2], by omega, by omega⟩
/-- where the numbers begin: behind the last hyphen -/
def hyf (l : List UInt8) : Nat := (l.reverse.dropWhile fun c => decide (c ≠ 45)).length
theorem hyf_nil : hyf [] = 0 := rfl
theorem hyf_yes (l : List UInt8) : hyf (l ++ [45]) = l.length + 1 := by simp [hyf]
theorem hyf_no (l : List UInt8) {c : UInt8} (h : c ≠ 45) : hyf (l ++ [c]) = hyf l := by simp [hyf, h]
theorem hyf_le (l : List UInt8) : hyf l ≤ l.length := by
  unfold hyf
  have := (List.dropWhile_sublist (l := l.reverse) (fun c => decide (c ≠ 45))).length_le
  simpa using this
theorem hyf_app : ∀ (b a : List UInt8), (∀ c ∈ b, c ≠ 45) → hyf (a ++ b) = hyf a
  | [], a, _ => by simp
  | c :: b, a, h => by
    rw [show a ++ c :: b = (a ++ [c]) ++ b by simp, hyf_app b (a ++ [c]) (fun x hx => h x (List.mem_cons_of_mem _ hx)), hyf_no a (h c List.mem_cons_self)]
def preL (s : List UInt8) : List UInt8 := s.take (hyf s - 1)
def bigB (l : List UInt8) : Bool := l.any fun c => decide (128 ≤ c.toNat)
def ptsL (l : List UInt8) : List Int := l.map fun c => (c.toNat : Int)
def decE (s : List UInt8) : List Int × Int :=
  if 32768 < s.length then ([], 3)
  else if bigB (preL s) then ([], 5)
  else if 4096 < (preL s).length then ([], 3)
  else decL s.length (s.drop (hyf s)) (ptsL (preL s), 128, 0, 72, true)
theorem decE_long {s : List UInt8} (h : 32768 < s.length) : decE s = ([], 3) := by unfold decE; rw [if_pos h]
theorem decE_big {s : List UInt8} (h : ¬ 32768 < s.length) (h2 : bigB (preL s) = true) : decE s = ([], 5) := by unfold decE; rw [if_neg h, if_pos h2]
theorem decE_many {s : List UInt8} (h : ¬ 32768 < s.length) (h2 : bigB (preL s) = false) (h3 : 4096 < (preL s).length) : decE s = ([], 3) := by unfold decE; rw [if_neg h, if_neg (by simp [h2]), if_pos h3]
theorem decE_go {s : List UInt8} (h : ¬ 32768 < s.length) (h2 : bigB (preL s) = false) (h3 : ¬ 4096 < (preL s).length) : decE s = decL s.length (s.drop (hyf s)) (ptsL (preL s), 128, 0, 72, true) := by
  unfold decE; rw [if_neg h, if_neg (by simp [h2]), if_neg h3]
theorem dInv_start {l : List UInt8} (h : ¬ 4096 < l.length) (h2 : ∀ c ∈ l, c.toNat < 128) : DInv (ptsL l, 128, 0, 72, true) := by
  refine ⟨by simp, by simp, by simp, by simp, by simp, by simp, by simp only [ptsL, List.length_map]; omega, ?_⟩
  intro x hx
  obtain ⟨c, hc, rfl⟩ := List.mem_map.1 hx
  have := h2 c hc
  omega
end Go.Proofs.YtbcnnjifndmdpaaDoor
namespace Go.Proofs.YtbcnnjifndmdpaaDoor
open Go.RowKit
set_option linter.unusedVariables false
def PtsOk (l : List Int) : Prop := l.length ≤ 4096 ∧ ∀ x ∈ l, 0 ≤ x ∧ x ≤ 1114111
theorem ptsOk_nil : PtsOk [] := ⟨by simp, by simp⟩
theorem putS_cases (d : Int) (st : Ds) (hi : DInv st) (d0 : 0 ≤ d) (d1 : d ≤ 4294967295) : (putS d st).1 ≠ 0 ∨ (∃ st', putS d st = (0, st') ∧ DInv st') := by
  by_cases h : 4294967295 < st.2.2.1 + d
  · left; rw [putS_over h]; simp
  by_cases h2 : 1114111 < st.2.1 + (st.2.2.1 + d) / (st.1.length + 1)
  · left; rw [putS_range h h2]; simp
  by_cases h3 : 4096 < st.1.length + 1
  · left; rw [putS_long h h2 h3]; simp
  · right; exact ⟨_, putS_ok h h2 h3, putS_inv hi d0 d1 h h2 h3⟩
theorem decL_ok : ∀ (f : Nat) (r : List UInt8) (st : Ds), DInv st → PtsOk (decL f r st).1
  | 0, r, st, hi => by unfold decL; exact ⟨hi.l, hi.p⟩
  | f + 1, r, st, hi => by
    unfold decL
    by_cases hr : r = []
    · rw [if_pos hr]; exact ⟨hi.l, hi.p⟩
    rw [if_neg hr]
    by_cases hn : (numb st.2.2.2.1 r 1 0 1).1 ≠ 0
    · rw [if_pos hn]; exact ptsOk_nil
    rw [if_neg hn]
    have hb := numb_less st.2.2.2.1 r 1 0 1 (by omega) (by omega) (by omega)
    rcases putS_cases (numb st.2.2.2.1 r 1 0 1).2.1 st hi hb.1 hb.2.1 with h | ⟨st', h, h2⟩
    · rw [if_pos h]; exact ptsOk_nil
    · rw [if_neg (by rw [h]; simp), h]
      exact decL_ok f _ st' h2
theorem bigB_all {l : List UInt8} (h : bigB l = false) : ∀ c ∈ l, c.toNat < 128 := by
  unfold bigB at h
  rw [List.any_eq_false] at h
  intro c hc
  have := h c hc
  simp at this
  omega
theorem decE_ok (s : List UInt8) : PtsOk (decE s).1 := by
  by_cases h : 32768 < s.length
  · rw [decE_long h]; exact ptsOk_nil
  by_cases h2 : bigB (preL s) = true
  · rw [decE_big h h2]; exact ptsOk_nil
  have h2' : bigB (preL s) = false := by simpa using h2
  by_cases h3 : 4096 < (preL s).length
  · rw [decE_many h h2' h3]; exact ptsOk_nil
  · rw [decE_go h h2' h3]
    exact decL_ok _ _ _ (dInv_start h3 (bigB_all h2'))
end Go.Proofs.YtbcnnjifndmdpaaDoor
namespace Go.Proofs.YtbcnnjifndmdpaaDoor
open Go.RowKit
set_option linter.unusedVariables false
theorem vB_fig0 : ∀ k : Fin 36, vB (figC (k.val : Int)) = (k.val : Int) ∧ figC (k.val : Int) ≠ 45 ∧ (figC (k.val : Int)).toNat < 128 := by decide +kernel
theorem vB_fig {f : Int} (h0 : 0 ≤ f) (h1 : f ≤ 35) : vB (figC f) = f ∧ figC f ≠ 45 ∧ (figC f).toNat < 128 := by
  obtain ⟨n, rfl⟩ := Int.eq_ofNat_of_zero_le h0
  exact vB_fig0 ⟨n, by omega⟩
/-- a way to spell figures that keeps them -/
def Spell (g : UInt8 → UInt8) : Prop := ∀ f : Int, 0 ≤ f → f ≤ 35 → vB (g (figC f)) = f ∧ g (figC f) ≠ 45
theorem spell_id : Spell id := fun f h0 h1 => ⟨(vB_fig h0 h1).1, (vB_fig h0 h1).2.1⟩
theorem bnd_mono (k b : Int) : bndI k b ≤ bndI (k + 1) b := by unfold bndI; omega
theorem pow35 {j : Nat} (h : ((35 ^ j : Nat) : Int) ≤ 250000000) : ((35 ^ j : Nat) : Int) * 35 ≤ 4294967295 := by
  by_cases h5 : j ≤ 5
  · have : 35 ^ j ≤ 35 ^ 5 := Nat.pow_le_pow_right (by omega) h5
    have e : (35 : Nat) ^ 5 = 52521875 := by decide
    omega
  · have : 35 ^ 6 ≤ 35 ^ j := Nat.pow_le_pow_right (by omega) (by omega)
    have e : (35 : Nat) ^ 6 = 1838265625 := by decide
    omega
theorem numb_figs (g : UInt8 → UInt8) (hg : Spell g) (b : Int) (r : List UInt8) : ∀ (n : Nat) (q k D W : Int), q.toNat ≤ n → 0 ≤ q → 0 ≤ D → 1 ≤ W → D + q * W ≤ 250000000 → ((∃ j : Nat, W = ((35 ^ j : Nat) : Int)) ∨ 2 ≤ bndI k b) →
    numb b ((figs q k b).map g ++ r) k D W = (0, D + q * W, r) := by
  intro n
  induction n with
  | zero =>
    intro q k D W hn h0 hD hW hb hp
    have ht := bnd_bd k b
    obtain rfl : q = 0 := by omega
    rw [figs_end (by omega)]
    have hv := hg 0 (by omega) (by omega)
    simp only [List.map_cons, List.map_nil, List.cons_append, List.nil_append]
    rw [numb_end (by rw [hv.1]; omega) (by rw [hv.1]; omega) (by rw [hv.1]; omega), hv.1]
  | succ n ih =>
    intro q k D W hn h0 hD hW hb hp
    have ht := bnd_bd k b
    by_cases hq : bndI k b ≤ q
    · rw [figs_go hq]
      have hl := fig_lt q k b hq
      have m0 := Int.emod_nonneg (q - bndI k b) (show 36 - bndI k b ≠ 0 by omega)
      have m1 := Int.emod_lt_of_pos (q - bndI k b) (show 0 < 36 - bndI k b by omega)
      have hdm := Int.mul_ediv_add_emod (q - bndI k b) (36 - bndI k b)
      have hv := hg (bndI k b + (q - bndI k b) % (36 - bndI k b)) (by omega) (by omega)
      obtain ⟨f, hf⟩ : ∃ f, f = bndI k b + (q - bndI k b) % (36 - bndI k b) := ⟨_, rfl⟩
      obtain ⟨q', hq'⟩ : ∃ q', q' = (q - bndI k b) / (36 - bndI k b) := ⟨_, rfl⟩
      rw [← hq'] at hdm hl
      rw [← hf] at hv
      rw [← hf, ← hq']
      simp only [List.map_cons, List.cons_append]
      have e1 : q * W = f * W + q' * (W * (36 - bndI k b)) := by
        have : q = f + (36 - bndI k b) * q' := by omega
        rw [this, Int.add_mul]
        congr 1
        rw [Int.mul_comm (36 - bndI k b) q', Int.mul_assoc, Int.mul_comm (36 - bndI k b) W]
      have hw0 : 0 ≤ W * (36 - bndI k b) := Int.mul_nonneg (by omega) (by omega)
      have e2 : 0 ≤ q' * (W * (36 - bndI k b)) := Int.mul_nonneg hl.2 hw0
      have e3 : bndI k b * W ≤ q * W := Int.mul_le_mul_of_nonneg_right hq (by omega)
      have e4 : W * (36 - bndI k b) ≤ 4294967295 := by
        rcases hp with ⟨j, hj⟩ | h2
        · by_cases h1 : bndI k b = 1
          · rw [h1] at e3 ⊢
            have : W * (36 - 1) = W * 35 := by omega
            rw [this, hj]
            exact pow35 (by omega)
          · have e5 : 2 * W ≤ bndI k b * W := Int.mul_le_mul_of_nonneg_right (by omega) (by omega)
            have e6 : W * (36 - bndI k b) ≤ W * 34 := Int.mul_le_mul_of_nonneg_left (by omega) (by omega)
            omega
        · have e5 : 2 * W ≤ bndI k b * W := Int.mul_le_mul_of_nonneg_right h2 (by omega)
          have e6 : W * (36 - bndI k b) ≤ W * 34 := Int.mul_le_mul_of_nonneg_left (by omega) (by omega)
          omega
      have e7 : 0 ≤ f * W := Int.mul_nonneg (by omega) (by omega)
      have e8 : 1 * 1 ≤ W * (36 - bndI k b) := Int.mul_le_mul hW (by omega) (by omega) (by omega)
      rw [numb_go (by rw [hv.1]; omega) (by rw [hv.1]; omega) (by rw [hv.1]; omega) (by omega), hv.1]
      rw [ih q' (k + 1) (D + f * W) (W * (36 - bndI k b)) (by omega) hl.2 (by omega) (by omega) (by omega) ?_]
      · rw [e1, Int.add_assoc]
      · have hmo := bnd_mono k b
        rcases hp with ⟨j, hj⟩ | h2
        · by_cases h1 : bndI k b = 1
          · left
            exact ⟨j + 1, by rw [h1, hj, Nat.pow_succ]; push_cast; omega⟩
          · right; omega
        · right; omega
    · rw [figs_end hq]
      have hv := hg q (by omega) (by omega)
      simp only [List.map_cons, List.map_nil, List.cons_append, List.nil_append]
      have e0 : 0 ≤ q * W := Int.mul_nonneg h0 (by omega)
      rw [numb_end (by rw [hv.1]; omega) (by rw [hv.1]; omega) (by rw [hv.1]; omega), hv.1]
/-- the reader goes from one state to another along some figures -/
def Goes (g : UInt8 → UInt8) (ds : Ds) (F : List UInt8) (ds' : Ds) : Prop :=
  ∀ (f : Nat) (r : List UInt8), F.length + r.length ≤ f → ∃ f', r.length ≤ f' ∧ decL f (F.map g ++ r) ds = decL f' r ds'
theorem goes_nil (g : UInt8 → UInt8) (ds : Ds) : Goes g ds [] ds := fun f r h => ⟨f, by simpa using h, rfl⟩
theorem goes_app {g : UInt8 → UInt8} {a b c : Ds} {F G : List UInt8} (h : Goes g a F b) (k : Goes g b G c) : Goes g a (F ++ G) c := by
  intro f r hf
  rw [List.length_append] at hf
  obtain ⟨f1, h1, e1⟩ := h f (G.map g ++ r) (by simp; omega)
  obtain ⟨f2, h2, e2⟩ := k f1 r (by simpa using h1)
  exact ⟨f2, h2, by rw [List.map_append, List.append_assoc, e1, e2]⟩
theorem figs_ne (q k b : Int) : figs q k b ≠ [] := by
  by_cases h : bndI k b ≤ q
  · rw [figs_go h]; simp
  · rw [figs_end h]; simp
theorem goes_num {g : UInt8 → UInt8} (hg : Spell g) {ds ds' : Ds} {s : Int} (h0 : 0 ≤ s) (h1 : s ≤ 250000000) (hp : putS s ds = (0, ds')) : Goes g ds (figs s 1 ds.2.2.2.1) ds' := by
  intro f r hf
  have hn := numb_figs g hg ds.2.2.2.1 r s.toNat s 1 0 1 (Nat.le_refl _) h0 (by omega) (by omega) (by omega) (.inl ⟨0, rfl⟩)
  rw [show (0 : Int) + s * 1 = s by omega] at hn
  obtain ⟨f', e, hl, _⟩ := decL_go (f := f) (by simpa using hf) (by
    intro h
    have := List.append_eq_nil_iff.1 h
    exact figs_ne s 1 ds.2.2.2.1 (List.map_eq_nil_iff.1 this.1)) hn hp
  exact ⟨f', hl, e⟩
/-- figures alone -/
def Figs (F : List UInt8) : Prop := ∀ c ∈ F, ∃ f : Int, 0 ≤ f ∧ f ≤ 35 ∧ c = figC f
theorem figs_nil : Figs [] := fun c h => by cases h
theorem figs_app {F G : List UInt8} (h : Figs F) (k : Figs G) : Figs (F ++ G) := fun c hc => by
  rcases List.mem_append.1 hc with hc | hc
  · exact h c hc
  · exact k c hc
theorem figs_all : ∀ (n : Nat) (q k b : Int), q.toNat ≤ n → 0 ≤ q → Figs (figs q k b) := by
  intro n
  induction n with
  | zero =>
    intro q k b hn h0 c hc
    have ht := bnd_bd k b
    rw [figs_end (by omega)] at hc
    obtain rfl := List.mem_singleton.1 hc
    exact ⟨q, h0, by omega, rfl⟩
  | succ n ih =>
    intro q k b hn h0 c hc
    have ht := bnd_bd k b
    by_cases hq : bndI k b ≤ q
    · rw [figs_go hq] at hc
      have hl := fig_lt q k b hq
      have m0 := Int.emod_nonneg (q - bndI k b) (show 36 - bndI k b ≠ 0 by omega)
      have m1 := Int.emod_lt_of_pos (q - bndI k b) (show 0 < 36 - bndI k b by omega)
      rcases List.mem_cons.1 hc with rfl | hc
      · exact ⟨_, by omega, by omega, rfl⟩
      · exact ih _ (k + 1) b (by omega) hl.2 c hc
    · rw [figs_end hq] at hc
      obtain rfl := List.mem_singleton.1 hc
      exact ⟨q, h0, by omega, rfl⟩
end Go.Proofs.YtbcnnjifndmdpaaDoor
namespace Go.Proofs.YtbcnnjifndmdpaaDoor
open Go.RowKit
set_option linter.unusedVariables false
abbrev leF (m : Int) (l : List Int) : List Int := l.filter fun c => decide (c ≤ m)
abbrev ltF (m : Int) (l : List Int) : List Int := l.filter fun c => decide (c < m)
/-- writer and reader, inside a round: P is done with, Q is not -/
structure SimIn (l P Q : List Int) (m basic : Int) (st : St) (ds : Ds) : Prop where
  cut : l = P ++ Q
  pts : ds.1 = leF m P ++ ltF m Q
  len : (ds.1.length : Int) = st.2.2.2
  bias : ds.2.2.2.1 = st.2.2.1
  first : ds.2.2.2.2 = decide (st.2.2.2 = basic)
  pos : ds.2.1 * (st.2.2.2 + 1) + ds.2.2.1 + st.2.1 = m * (st.2.2.2 + 1) + (leF m P).length
  n0 : 128 ≤ ds.2.1
  n1 : ds.2.1 ≤ m
  a0 : 0 ≤ ds.2.2.1
  s0 : 0 ≤ st.2.1
  bb : basic ≤ st.2.2.2
theorem sim_bd {l P Q : List Int} {m basic : Int} {st : St} {ds : Ds} (h : SimIn l P Q m basic st ds) (hB : (m - 128) * (l.length + 1) + l.length + 1 ≤ 250000000) (hm : 128 ≤ m) : ds.2.2.1 + st.2.1 ≤ 250000000 ∧ ds.2.2.1 + st.2.1 = (m - ds.2.1) * (st.2.2.2 + 1) + (leF m P).length ∧ st.2.2.2 ≤ l.length ∧ ((leF m P).length : Int) ≤ st.2.2.2 := by
  have h1 := h.pos
  have hl := h.len
  have e1 : (m - ds.2.1) * (st.2.2.2 + 1) = m * (st.2.2.2 + 1) - ds.2.1 * (st.2.2.2 + 1) := Int.sub_mul _ _ _
  have hp := congrArg List.length h.pts
  rw [List.length_append] at hp
  have hP : (leF m P).length ≤ P.length := List.length_filter_le _ _
  have hQ : (ltF m Q).length ≤ Q.length := List.length_filter_le _ _
  have hc := congrArg List.length h.cut
  rw [List.length_append] at hc
  have d0 : 0 ≤ st.2.2.2 := by omega
  have d1 : st.2.2.2 ≤ l.length := by omega
  have e2 : (m - ds.2.1) * (st.2.2.2 + 1) ≤ (m - 128) * (l.length + 1) := Int.mul_le_mul (by have := h.n0; omega) (by omega) (by omega) (by omega)
  exact ⟨by omega, by omega, d1, by omega⟩
theorem leF_app (m : Int) (P : List Int) (c : Int) : leF m (P ++ [c]) = leF m P ++ (if c ≤ m then [c] else []) := by
  simp only [leF, List.filter_append]
  by_cases h : c ≤ m <;> simp [h]
theorem ltF_cons (m : Int) (Q : List Int) (c : Int) : ltF m (c :: Q) = (if c < m then [c] else []) ++ ltF m Q := by
  simp only [ltF, List.filter_cons]
  by_cases h : c < m <;> simp [h]
theorem sim_rnd (g : UInt8 → UInt8) (hg : Spell g) (l : List Int) (m basic : Int) (hl : l.length ≤ 4096) (hm0 : 128 ≤ m) (hm1 : m ≤ 1114111) (hB : (m - 128) * (l.length + 1) + l.length + 1 ≤ 250000000) : ∀ (Q P : List Int) (st : St) (ds : Ds), SimIn l P Q m basic st ds →
    ∃ (F : List UInt8) (st2 : St) (ds2 : Ds), rnd m basic Q st = some st2 ∧ st2.1 = st.1 ++ F ∧ Figs F ∧ Goes g ds F ds2 ∧ SimIn l l [] m basic st2 ds2
  | [], P, st, ds, h => by
    have e : P = l := by have := h.cut; simpa using this.symm
    subst e
    exact ⟨[], st, ds, rfl, by simp, figs_nil, goes_nil g ds, h⟩
  | c :: Q, P, st, ds, h => by
    obtain ⟨b1, b2, b3, b4⟩ := sim_bd h hB hm0
    have a0 := h.a0
    have s0 := h.s0
    have hcut : l = (P ++ [c]) ++ Q := by rw [h.cut]; simp
    by_cases hcm : c < m
    · have hup : upS m c st.2.1 = st.2.1 + 1 := by unfold upS; rw [if_pos hcm]
      have hs : SimIn l (P ++ [c]) Q m basic (st.1, st.2.1 + 1, st.2.2.1, st.2.2.2) ds := by
        refine ⟨hcut, ?_, h.len, h.bias, h.first, ?_, h.n0, h.n1, a0, by simp only; omega, h.bb⟩
        · rw [h.pts, leF_app, ltF_cons, if_pos hcm, if_pos (by omega)]; simp
        · simp only
          rw [leF_app, if_pos (by omega), List.length_append]
          have := h.pos
          simp only [List.length_singleton]
          push_cast
          omega
      rw [rnd_pass (by rw [hup]; omega) (by omega), hup]
      exact sim_rnd g hg l m basic hl hm0 hm1 hB Q (P ++ [c]) _ ds hs
    · have hup : upS m c st.2.1 = st.2.1 := by unfold upS; rw [if_neg hcm]
      by_cases hce : c = m
      · subst hce
        have hpt := h.pts
        rw [ltF_cons, if_neg hcm, List.nil_append] at hpt
        have hdl := h.len
        have hlen2 : ds.1.length < l.length := by
          rw [hpt, hcut]
          have h1 : (leF c P).length ≤ P.length := List.length_filter_le _ _
          have h2 : (ltF c Q).length ≤ Q.length := List.length_filter_le _ _
          simp only [List.length_append, List.length_singleton]
          omega
        have hq : (ds.2.2.1 + st.2.1) / (ds.1.length + 1) = c - ds.2.1 ∧ (ds.2.2.1 + st.2.1) % (ds.1.length + 1) = (leF c P).length := by
          rw [hdl, b2]
          have e : (c - ds.2.1) * (st.2.2.2 + 1) + ((leF c P).length : Int) = ((leF c P).length : Int) + (st.2.2.2 + 1) * (c - ds.2.1) := by rw [Int.mul_comm]; omega
          rw [e]
          constructor
          · rw [Int.add_mul_ediv_left _ _ (by omega), Int.ediv_eq_zero_of_lt (by omega) (by omega)]; omega
          · rw [Int.add_mul_emod_self_left, Int.emod_eq_of_lt (by omega) (by omega)]
        have hput := putS_ok (d := st.2.1) (st := ds) (by omega) (by rw [hq.1]; omega) (by omega)
        rw [hq.1, hq.2, show ds.2.1 + (c - ds.2.1) = c by omega, show (((leF c P).length : Nat) : Int).toNat = (leF c P).length by omega] at hput
        have hgo := goes_num hg (ds := ds) s0 (by omega) hput
        rw [h.bias] at hgo
        have hins : insI ds.1 (leF c P).length c = leF c (P ++ [c]) ++ ltF c Q := by
          rw [hpt, leF_app, if_pos (Int.le_refl _)]
          unfold insI
          rw [List.take_left, List.drop_left]
          simp
        have hs : SimIn l (P ++ [c]) Q c basic (st.1 ++ figs st.2.1 1 st.2.2.1, 0, adp st.2.1 (st.2.2.2 + 1) (decide (st.2.2.2 = basic)), st.2.2.2 + 1)
            (insI ds.1 (leF c P).length c, c, ((leF c P).length : Int) + 1, adp st.2.1 (ds.1.length + 1) ds.2.2.2.2, false) := by
          refine ⟨hcut, hins, ?_, by simp only [hdl, h.first], ?_, ?_, by simp only; omega, by simp only; omega, by simp only; omega, by simp only; omega, by have := h.bb; simp only; omega⟩
          · simp only
            rw [insI_len (by rw [hpt, List.length_append]; omega)]
            push_cast
            omega
          · have := h.bb
            simp only
            symm
            exact decide_eq_false (by omega)
          · simp only
            rw [leF_app, if_pos (Int.le_refl _), List.length_append]
            simp only [List.length_singleton]
            push_cast
            omega
        obtain ⟨F, st2, ds2, hr, hF, hfg, hgo2, hs2⟩ := sim_rnd g hg l c basic hl hm0 hm1 hB Q (P ++ [c]) _ _ hs
        rw [rnd_put (by rw [hup]; omega) rfl, hup]
        exact ⟨figs st.2.1 1 st.2.2.1 ++ F, st2, ds2, hr, by rw [hF]; simp, figs_app (figs_all _ _ _ _ (Nat.le_refl _) s0) hfg, goes_app hgo hgo2, hs2⟩
      · have hs : SimIn l (P ++ [c]) Q m basic (st.1, st.2.1, st.2.2.1, st.2.2.2) ds := by
          refine ⟨hcut, ?_, h.len, h.bias, h.first, ?_, h.n0, h.n1, a0, s0, h.bb⟩
          · rw [h.pts, leF_app, ltF_cons, if_neg hcm, if_neg (by omega)]; simp
          · rw [leF_app, if_neg (by omega)]
            have := h.pos
            simpa using this
        rw [rnd_pass (by rw [hup]; omega) hce, hup]
        exact sim_rnd g hg l m basic hl hm0 hm1 hB Q (P ++ [c]) _ ds hs
/-- writer and reader, between two rounds -/
structure SimOut (l : List Int) (n basic : Int) (st : St) (ds : Ds) : Prop where
  pts : ds.1 = ltF n l
  len : (ds.1.length : Int) = st.2.2.2
  bias : ds.2.2.2.1 = st.2.2.1
  first : ds.2.2.2.2 = decide (st.2.2.2 = basic)
  pos : ds.2.1 * (st.2.2.2 + 1) + ds.2.2.1 + st.2.1 = n * (st.2.2.2 + 1)
  n0 : 128 ≤ ds.2.1
  n1 : ds.2.1 ≤ n
  a0 : 0 ≤ ds.2.2.1
  s0 : 0 ≤ st.2.1
  bb : basic ≤ st.2.2.2
theorem ltF_succ (l : List Int) (m : Int) : ltF (m + 1) l = leF m l := by
  apply List.filter_congr
  intro c _
  simp
  omega
theorem ltF_lst {l : List Int} {n m : Int} (h : IsLst l n m) : ltF n l = ltF m l := by
  apply List.filter_congr
  intro c hc
  have h1 := h.2.1
  by_cases hn : c < n
  · simp [hn]; omega
  · have := h.2.2 c hc (by omega)
    simp [hn]; omega
theorem sim_out (g : UInt8 → UInt8) (hg : Spell g) (l : List Int) (basic : Int) (hl : l.length ≤ 4096) (hx : ∀ x ∈ l, x ≤ 1114111) (hB : ∀ m ∈ l, (m - 128) * (l.length + 1) + l.length + 1 ≤ 250000000) : ∀ (f : Nat) (n : Int) (st : St) (ds : Ds), SimOut l n basic st ds → (l.length : Int) - st.2.2.2 < f →
    ∃ (F : List UInt8) (ds2 : Ds), encL l basic f n st = some (st.1 ++ F) ∧ Figs F ∧ Goes g ds F ds2 ∧ ds2.1 = l
  | 0, n, st, ds, h, hf => by
    exfalso
    have h1 := h.len
    have h2 := congrArg List.length h.pts
    have h3 : (ltF n l).length ≤ l.length := List.length_filter_le _ _
    simp at hf
    omega
  | f + 1, n, st, ds, h, hf => by
    have h1 := h.len
    have h2 := congrArg List.length h.pts
    have h3 : (ltF n l).length ≤ l.length := List.length_filter_le _ _
    by_cases hd : st.2.2.2 < l.length
    · have hex : ∃ c ∈ l, n ≤ c := by
        apply cnt_ex
        have : cnt l n = ((ltF n l).length : Int) := by unfold cnt; rw [List.countP_eq_length_filter]
        omega
      have hm := lst_is (l := l) (n := n) (m := 1114111) (Int.le_refl _) hx hex
      have hmm : leastI l n = l.foldl (lstF n) 1114111 := rfl
      rw [← hmm] at hm
      obtain ⟨m, hme⟩ : ∃ m, m = leastI l n := ⟨_, rfl⟩
      rw [← hme] at hm
      have hn1 := h.n1
      have hn0 := h.n0
      have hnm := hm.2.1
      have hs : SimIn l [] l m basic (st.1, st.2.1 + (m - n) * (st.2.2.2 + 1), st.2.2.1, st.2.2.2) ds := by
        have hq : 0 ≤ (m - n) * (st.2.2.2 + 1) := Int.mul_nonneg (by omega) (by omega)
        refine ⟨by simp, by rw [h.pts, ltF_lst hm]; simp [leF], h1, h.bias, h.first, ?_, hn0, by omega, h.a0, by have := h.s0; simp only; omega, h.bb⟩
        have := h.pos
        have e : (m - n) * (st.2.2.2 + 1) = m * (st.2.2.2 + 1) - n * (st.2.2.2 + 1) := Int.sub_mul _ _ _
        simp only [leF, List.filter_nil, List.length_nil]
        omega
      obtain ⟨F, st2, ds2, hr, hF, hfg, hgo, hs2⟩ := sim_rnd g hg l m basic hl (by omega) (hx m hm.1) (hB m hm.1) l [] _ ds hs
      have hr' := hr
      rw [hme] at hr'
      have hdone := rnd_done _ _ _ _ _ hr
      simp only at hdone
      have hcp := cnt_pos hm.1
      have ho : SimOut l (m + 1) basic (st2.1, st2.2.1 + 1, st2.2.2.1, st2.2.2.2) ds2 := by
        have hp := hs2.pts
        rw [show ltF m [] = [] from rfl, List.append_nil] at hp
        have hpl := congrArg List.length hp
        refine ⟨by rw [hp, ltF_succ], hs2.len, hs2.bias, hs2.first, ?_, hs2.n0, by have := hs2.n1; omega, hs2.a0, by have := hs2.s0; simp only; omega, hs2.bb⟩
        have h5 := hs2.pos
        have h6 := hs2.len
        rw [← hpl] at h5
        have e : (m + 1) * (st2.2.2.2 + 1) = m * (st2.2.2.2 + 1) + (st2.2.2.2 + 1) := by rw [Int.add_mul]; omega
        simp only
        omega
      obtain ⟨G, ds3, he, hgG, hgo2, hl3⟩ := sim_out g hg l basic hl hx hB f (m + 1) _ ds2 ho (by simp only; omega)
      refine ⟨F ++ G, ds3, ?_, figs_app hfg hgG, goes_app hgo hgo2, hl3⟩
      rw [encL_go hd hr', ← hme, he]
      simp only [hF]
      simp
    · refine ⟨[], ds, ?_, figs_nil, goes_nil g ds, ?_⟩
      · rw [encL_end hd]; simp
      · rw [h.pts]
        have : (ltF n l).length = l.length := by omega
        exact List.Sublist.eq_of_length (List.filter_sublist) this
end Go.Proofs.YtbcnnjifndmdpaaDoor
namespace Go.Proofs.YtbcnnjifndmdpaaDoor
open Go.RowKit
set_option linter.unusedVariables false
theorem figs_11 {s k b : Int} (h0 : 0 ≤ s) (h1 : s ≤ 4294967295) : (figs s k b).length ≤ 11 := figs_len 10 s k b h0 (Int.lt_of_le_of_lt h1 (by decide))
theorem rnd_len (m basic : Int) : ∀ (l : List Int) (st st2 : St), 0 ≤ st.2.1 → rnd m basic l st = some st2 → 0 ≤ st2.2.1 ∧ (st2.1.length : Int) ≤ st.1.length + 11 * (st2.2.2.2 - st.2.2.2)
  | [], st, st2, h0, h => by
    unfold rnd at h
    obtain rfl := Option.some.inj h
    exact ⟨h0, by omega⟩
  | c :: r, st, st2, h0, h => by
    have hu := upS_bd m c st.2.1
    by_cases h1 : 4294967295 < upS m c st.2.1
    · rw [rnd_ov h1] at h; cases h
    · by_cases hc : c = m
      · rw [rnd_put h1 hc] at h
        have hf := figs_11 (s := upS m c st.2.1) (k := 1) (b := st.2.2.1) (by omega) (by omega)
        obtain ⟨i1, i2⟩ := rnd_len m basic r _ st2 (by simp only; omega) h
        refine ⟨i1, ?_⟩
        simp only [List.length_append] at i2
        push_cast at i2
        omega
      · rw [rnd_pass h1 hc] at h
        exact rnd_len m basic r (st.1, upS m c st.2.1, st.2.2.1, st.2.2.2) st2 (by simp only; omega) h
theorem encL_len (l : List Int) (basic : Int) : ∀ (f : Nat) (n : Int) (st : St) (o : List UInt8), 0 ≤ st.2.1 → n ≤ 1114112 → (∀ x ∈ l, x ≤ 1114111) → cnt l n = st.2.2.2 → encL l basic f n st = some o → (o.length : Int) ≤ st.1.length + 11 * (l.length - st.2.2.2)
  | 0, n, st, o, h0, hn, hx, hc, h => by unfold encL at h; cases h
  | f + 1, n, st, o, h0, hn, hx, hc, h => by
    have hcl := cnt_le l n
    by_cases hd : st.2.2.2 < l.length
    · have hm : IsLst l n (leastI l n) := lst_is (Int.le_refl _) hx (cnt_ex (by rw [hc]; exact hd))
      cases hr : rnd (leastI l n) basic l (st.1, st.2.1 + (leastI l n - n) * (st.2.2.2 + 1), st.2.2.1, st.2.2.2) with
      | none => rw [encL_no hd hr] at h; cases h
      | some st2 =>
        rw [encL_go hd hr] at h
        have hmn := hm.2.1
        have hp : 0 ≤ (leastI l n - n) * (st.2.2.2 + 1) := Int.mul_nonneg (by omega) (by omega)
        obtain ⟨i1, i2⟩ := rnd_len _ _ _ _ _ (by simp only; omega) hr
        have hdn := rnd_done _ _ _ _ _ hr
        simp only at hdn i2
        have hcs := cnt_succ l (leastI l n)
        have hcl2 := cnt_lst hm
        have := encL_len l basic f (leastI l n + 1) (st2.1, st2.2.1 + 1, st2.2.2.1, st2.2.2.2) o (by simp only; omega) (by have := hx _ hm.1; omega) hx (by simp only; omega) h
        simp only at this
        omega
    · rw [encL_end hd] at h
      obtain rfl := Option.some.inj h
      omega
theorem ptsL_basL {l : List Int} (hx : ∀ x ∈ l, 0 ≤ x) : ptsL (basL l) = ltF 128 l := by
  unfold ptsL basL
  rw [List.map_map]
  conv => rhs; rw [← List.map_id (ltF 128 l)]
  apply List.map_congr_left
  intro x hm
  have h1 := List.mem_filter.1 hm
  have h2 := hx x h1.1
  have h3 : x < 128 := by simpa using h1.2
  simp only [Function.comp, id]
  exact u8_nat h2 (by omega)
theorem ptsL_len2 (l : List UInt8) : (ptsL l).length = l.length := by simp [ptsL]
theorem basL_small {l : List Int} (hx : ∀ x ∈ l, 0 ≤ x) : ∀ c ∈ basL l, c.toNat < 128 := by
  intro c hc
  unfold basL at hc
  obtain ⟨x, hm, rfl⟩ := List.mem_map.1 hc
  have h1 := List.mem_filter.1 hm
  have h2 := hx x h1.1
  have h3 : x < 128 := by simpa using h1.2
  have := u8_nat h2 (show x < 256 by omega)
  omega
theorem hyf_hyp (b F : List UInt8) (hb : ∀ c ∈ F, c ≠ 45) : hyf (hyp b ++ F) = (hyp b).length ∧ preL (hyp b ++ F) = b := by
  have h1 : hyf (hyp b ++ F) = (hyp b).length := by
    rw [hyf_app F (hyp b) hb]
    unfold hyp
    by_cases h0 : b.length = 0
    · rw [if_pos h0]; rfl
    · rw [if_neg h0, hyf_yes]; simp
  refine ⟨h1, ?_⟩
  unfold preL
  rw [h1]
  unfold hyp
  by_cases h0 : b.length = 0
  · rw [if_pos h0, List.length_eq_zero_iff.1 h0]; simp
  · rw [if_neg h0]; simp
theorem figs_no45 {g : UInt8 → UInt8} (hg : Spell g) {F : List UInt8} (hF : Figs F) : ∀ c ∈ F.map g, c ≠ 45 := by
  intro c hc
  obtain ⟨x, hx, rfl⟩ := List.mem_map.1 hc
  obtain ⟨f, h0, h1, rfl⟩ := hF x hx
  exact (hg f h0 h1).2
/-- what is written, and that it is read -/
theorem back_top (g : UInt8 → UInt8) (hg : Spell g) (l : List Int) (hl : l.length ≤ 4096) (hx : ∀ x ∈ l, 0 ≤ x ∧ x ≤ 1114111) (hB : ∀ m ∈ l, (m - 128) * (l.length + 1) + l.length + 1 ≤ 250000000) :
    ∃ F : List UInt8, encO l = some (hyp (basL l) ++ F) ∧ Figs F ∧ ((hyp (basL l) ++ F).length ≤ 32768 → decE (hyp (basL l) ++ F.map g) = (l, 0)) := by
  have hx0 : ∀ x ∈ l, 0 ≤ x := fun x h => (hx x h).1
  have hx1 : ∀ x ∈ l, x ≤ 1114111 := fun x h => (hx x h).2
  have hbl := basL_len l
  have hcl := cnt_le l 128
  have hs : SimOut l 128 ((basL l).length : Int) (hyp (basL l), 0, 72, ((basL l).length : Int)) (ptsL (basL l), 128, 0, 72, true) := by
    refine ⟨ptsL_basL hx0, by simp only [ptsL_len2], rfl, by simp, by simp, by simp, by simp, by simp, by simp, by simp⟩
  obtain ⟨F, ds2, he, hF, hgo, hd2⟩ := sim_out g hg l ((basL l).length : Int) hl hx1 hB (l.length + 1) 128 _ _ hs (by simp only; push_cast; omega)
  refine ⟨F, he, hF, fun hlen => ?_⟩
  have hno := figs_no45 hg hF
  obtain ⟨h1, h2⟩ := hyf_hyp (basL l) (F.map g) hno
  have hsm := basL_small hx0
  have hbig : bigB (basL l) = false := by
    unfold bigB
    rw [List.any_eq_false]
    intro c hc
    have := hsm c hc
    simp; omega
  have hlen2 : (hyp (basL l) ++ F.map g).length ≤ 32768 := by simpa using hlen
  rw [decE_go (by omega) (by rw [h2]; exact hbig) (by rw [h2]; omega), h1, h2, List.drop_left]
  obtain ⟨f', _, e⟩ := hgo (hyp (basL l) ++ F.map g).length [] (by simp)
  rw [List.append_nil] at e
  rw [e, decL_end, hd2]
theorem encO_len {l : List Int} {o : List UInt8} (hl : l.length ≤ 4096) (hx : ∀ x ∈ l, 0 ≤ x ∧ x ≤ 1114111) (h : encO l = some o) : (o.length : Int) ≤ l.length + 1 + 11 * l.length := by
  have hbl := basL_len l
  have hcl := cnt_le l 128
  have hh := hyp_len (basL l)
  have := encL_len l ((basL l).length : Int) (l.length + 1) 128 (hyp (basL l), 0, 72, ((basL l).length : Int)) o (by simp) (by omega) (fun x h => (hx x h).2) (by simp only; omega) h
  simp only at this
  omega
theorem bd_150 {l : List Int} (hl : l.length ≤ 150) (hx : ∀ x ∈ l, 0 ≤ x ∧ x ≤ 1114111) : ∀ m ∈ l, (m - 128) * (l.length + 1) + l.length + 1 ≤ 250000000 := by
  intro m hm
  have h := hx m hm
  by_cases h0 : 128 ≤ m
  · have : (m - 128) * (l.length + 1) ≤ 1113983 * 151 := Int.mul_le_mul (by omega) (by omega) (by omega) (by omega)
    omega
  · have : (m - 128) * ((l.length : Int) + 1) ≤ 0 := Int.mul_nonpos_of_nonpos_of_nonneg (by omega) (by omega)
    omega
end Go.Proofs.YtbcnnjifndmdpaaDoor
namespace Go.Proofs.YtbcnnjifndmdpaaDoor
open Go.RowKit
set_option linter.unusedVariables false
/-- what stands behind a backslash: the byte, and how many bytes more than one it has -/
def escL : List UInt8 → Option (UInt8 × Nat)
  | [] => none
  | x :: r => if digB x = false then some (x, 0) else if r.length < 2 then none else if digsB (x :: r.take 2) = true ∧ numL (x :: r.take 2) ≤ 255 then some (UInt8.ofNat (numL (x :: r.take 2)), 2) else none
theorem escL_cons (x : UInt8) (r : List UInt8) : escL (x :: r) = if digB x = false then some (x, 0) else if r.length < 2 then none else if digsB (x :: r.take 2) = true ∧ numL (x :: r.take 2) ≤ 255 then some (UInt8.ofNat (numL (x :: r.take 2)), 2) else none := rfl
def sgL (x : UInt8) (r : List UInt8) : Option (UInt8 × Nat) := if x.toNat = 92 then (escL r).map fun p => (p.1, p.2 + 1) else some (x, 0)
/-- the label that a written text goes on with, and what is left -/
def lab (l b : List UInt8) : Option (List UInt8 × List UInt8) :=
  match l with
  | [] => some (b, [])
  | x :: r => if x.toNat = 46 then some (b, x :: r) else
    match sgL x r with
    | none => none
    | some (c, k) => lab (r.drop k) (b ++ [c])
termination_by l.length
decreasing_by simp; omega
/-- a written name, label by label: errno, labels, ends with a dot? -/
def mach (l b : List UInt8) (n : List (List UInt8)) (dot : Bool) : Int × List (List UInt8) × Bool :=
  match l with
  | [] => if dot = true then (0, n, true) else if b = [] then (8, [], false) else if 63 < b.length then (7, [], false) else (0, n ++ [b], false)
  | x :: r => if x.toNat = 46 then (if b = [] then (8, [], false) else if 63 < b.length then (7, [], false) else mach r [] (n ++ [b]) true) else
    match sgL x r with
    | none => (5, [], false)
    | some (c, k) => mach (r.drop k) (b ++ [c]) n false
termination_by l.length
decreasing_by
  · simp
  · simp; omega
theorem lab_nil (b : List UInt8) : lab [] b = some (b, []) := by rw [lab]
theorem lab_dot (x : UInt8) (r b : List UInt8) (h : x.toNat = 46) : lab (x :: r) b = some (b, x :: r) := by rw [lab, if_pos h]
theorem lab_bad (x : UInt8) (r b : List UInt8) (h : x.toNat ≠ 46) (hs : sgL x r = none) : lab (x :: r) b = none := by rw [lab, if_neg h, hs]
theorem lab_go (x : UInt8) (r b : List UInt8) (h : x.toNat ≠ 46) {c : UInt8} {k : Nat} (hs : sgL x r = some (c, k)) : lab (x :: r) b = lab (r.drop k) (b ++ [c]) := by
  conv => lhs; rw [lab, if_neg h, hs]
theorem mach_end (b : List UInt8) (n : List (List UInt8)) (d : Bool) : mach [] b n d = if d = true then (0, n, true) else if b = [] then (8, [], false) else if 63 < b.length then (7, [], false) else (0, n ++ [b], false) := by rw [mach]
theorem mach_dot (x : UInt8) (r b : List UInt8) (n : List (List UInt8)) (d : Bool) (h : x.toNat = 46) : mach (x :: r) b n d = if b = [] then (8, [], false) else if 63 < b.length then (7, [], false) else mach r [] (n ++ [b]) true := by
  conv => lhs; rw [mach, if_pos h]
theorem mach_bad (x : UInt8) (r b : List UInt8) (n : List (List UInt8)) (d : Bool) (h : x.toNat ≠ 46) (hs : sgL x r = none) : mach (x :: r) b n d = (5, [], false) := by rw [mach, if_neg h, hs]
theorem mach_go (x : UInt8) (r b : List UInt8) (n : List (List UInt8)) (d : Bool) (h : x.toNat ≠ 46) {c : UInt8} {k : Nat} (hs : sgL x r = some (c, k)) : mach (x :: r) b n d = mach (r.drop k) (b ++ [c]) n false := by
  conv => lhs; rw [mach, if_neg h, hs]
theorem mach_any (x : UInt8) (r b : List UInt8) (n : List (List UInt8)) (d : Bool) : mach (x :: r) b n d = mach (x :: r) b n false := by
  by_cases h : x.toNat = 46
  · rw [mach_dot _ _ _ _ _ h, mach_dot _ _ _ _ _ h]
  · cases hs : sgL x r with
    | none => rw [mach_bad _ _ _ _ _ h hs, mach_bad _ _ _ _ _ h hs]
    | some p => obtain ⟨c, k⟩ := p; rw [mach_go _ _ _ _ _ h hs, mach_go _ _ _ _ _ h hs]
theorem mach_lab : ∀ (m : Nat) (l b : List UInt8) (n : List (List UInt8)), l.length ≤ m → mach l b n false = match lab l b with
    | none => (5, [], false)
    | some (c, r) => if c = [] then (8, [], false) else if 63 < c.length then (7, [], false) else match r with
      | [] => (0, n ++ [c], false)
      | _ :: t => mach t [] (n ++ [c]) true
  | m, [], b, n, _ => by rw [lab_nil, mach_end]; simp
  | 0, x :: r, b, n, h => absurd h (by simp)
  | m + 1, x :: r, b, n, h => by
    by_cases h1 : x.toNat = 46
    · rw [lab_dot _ _ _ h1, mach_dot _ _ _ _ _ h1]
    · cases hs : sgL x r with
      | none => rw [lab_bad _ _ _ h1 hs, mach_bad _ _ _ _ _ h1 hs]
      | some p =>
        obtain ⟨c, k⟩ := p
        rw [lab_go _ _ _ h1 hs, mach_go _ _ _ _ _ h1 hs]
        exact mach_lab m _ _ _ (by simp at h ⊢; omega)
theorem lab_rest : ∀ (m : Nat) (l b : List UInt8), l.length ≤ m → ∀ c x t, lab l b = some (c, x :: t) → x.toNat = 46
  | m, [], b, _, c, x, t, e => by rw [lab_nil] at e; simp at e
  | 0, y :: r, b, h, _, _, _, _ => absurd h (by simp)
  | m + 1, y :: r, b, h, c, x, t, e => by
    by_cases h1 : y.toNat = 46
    · rw [lab_dot _ _ _ h1] at e
      simp at e
      rw [← e.2.1]; exact h1
    · cases hs : sgL y r with
      | none => rw [lab_bad _ _ _ h1 hs] at e; cases e
      | some p =>
        obtain ⟨d, k⟩ := p
        rw [lab_go _ _ _ h1 hs] at e
        exact lab_rest m _ _ (by simp at h ⊢; omega) c x t e
def sizeL (n : List (List UInt8)) : Nat := 1 + (n.map fun l => l.length + 1).sum
def okLab (l : List UInt8) : Bool := decide (1 ≤ l.length) && decide (l.length ≤ 63)
theorem okLab_iff (l : List UInt8) : okLab l = true ↔ 1 ≤ l.length ∧ l.length ≤ 63 := by unfold okLab; simp
def checkL (n : List (List UInt8)) : Int := if n.all okLab = true then (if 255 < sizeL n then 3 else 0) else 7
theorem checkL_ok {n : List (List UInt8)} : checkL n = 0 ↔ n.all okLab = true ∧ sizeL n ≤ 255 := by
  unfold checkL
  by_cases h : n.all okLab = true
  · rw [if_pos h]
    by_cases h2 : 255 < sizeL n
    · rw [if_pos h2]; exact ⟨fun e => absurd e (by decide), fun e => by omega⟩
    · rw [if_neg h2]; exact ⟨fun _ => ⟨h, by omega⟩, fun _ => rfl⟩
  · rw [if_neg h]; simp [h]
def finL (m : Int × List (List UInt8) × Bool) : Int × List (List UInt8) × Bool := if m.1 = 0 ∧ 255 < sizeL m.2.1 then (3, [], false) else m
def parseL (s : List UInt8) : Int × List (List UInt8) × Bool := if s = [46] then (0, [], true) else finL (mach s [] [] false)
theorem mach_good : ∀ (m : Nat) (l b : List UInt8) (n : List (List UInt8)) (d : Bool), l.length ≤ m → n.all okLab = true →
    ((mach l b n d).1 = 0 ∧ (mach l b n d).2.1.all okLab = true) ∨ ((mach l b n d).1 ≠ 0 ∧ (mach l b n d).2 = ([], false))
  | m, [], b, n, d, _, hn => by
    rw [mach_end]
    by_cases h0 : d = true
    · rw [if_pos h0]; exact .inl ⟨rfl, hn⟩
    · rw [if_neg h0]
      by_cases h1 : b = []
      · rw [if_pos h1]; exact .inr ⟨by simp, rfl⟩
      · rw [if_neg h1]
        by_cases h2 : 63 < b.length
        · rw [if_pos h2]; exact .inr ⟨by simp, rfl⟩
        · rw [if_neg h2]
          have : 0 < b.length := List.length_pos_iff.2 h1
          refine .inl ⟨rfl, ?_⟩
          rw [List.all_append, hn]
          simp [okLab_iff]; omega
  | 0, x :: r, b, n, d, h, _ => absurd h (by simp)
  | m + 1, x :: r, b, n, d, h, hn => by
    by_cases h1 : x.toNat = 46
    · rw [mach_dot _ _ _ _ _ h1]
      by_cases h1 : b = []
      · rw [if_pos h1]; exact .inr ⟨by simp, rfl⟩
      · rw [if_neg h1]
        by_cases h2 : 63 < b.length
        · rw [if_pos h2]; exact .inr ⟨by simp, rfl⟩
        · rw [if_neg h2]
          have : 0 < b.length := List.length_pos_iff.2 h1
          refine mach_good m _ _ _ _ (by simp at h; omega) ?_
          rw [List.all_append, hn]
          simp [okLab_iff]; omega
    · cases hs : sgL x r with
      | none => rw [mach_bad _ _ _ _ _ h1 hs]; exact .inr ⟨by simp, rfl⟩
      | some p =>
        obtain ⟨c, k⟩ := p
        rw [mach_go _ _ _ _ _ h1 hs]
        exact mach_good m _ _ _ _ (by simp at h ⊢; omega) hn
def escB (c : UInt8) : List UInt8 :=
  if c.toNat = 46 ∨ c.toNat = 92 then [92, c] else if c.toNat < 33 ∨ 126 < c.toNat then [92, UInt8.ofNat (48 + c.toNat / 100), UInt8.ofNat (48 + c.toNat / 10 % 10), UInt8.ofNat (48 + c.toNat % 10)] else [c]
def escs (l : List UInt8) : List UInt8 := l.flatMap escB
def textD (n : List (List UInt8)) : List UInt8 := n.flatMap fun l => escs l ++ [46]
def wrtL (n : List (List UInt8)) : List UInt8 := if n = [] then [46] else textD n
def plainD (n : List (List UInt8)) : List UInt8 := (n.flatMap fun l => 46 :: escs l).drop 1
def plainL (n : List (List UInt8)) : List UInt8 := if n = [] then [46] else plainD n
theorem num3 : ∀ k : Fin 256, digB (UInt8.ofNat (48 + k.val / 100)) = true ∧ digsB [UInt8.ofNat (48 + k.val / 100), UInt8.ofNat (48 + k.val / 10 % 10), UInt8.ofNat (48 + k.val % 10)] = true ∧ numL [UInt8.ofNat (48 + k.val / 100), UInt8.ofNat (48 + k.val / 10 % 10), UInt8.ofNat (48 + k.val % 10)] = k.val := by decide +kernel
theorem sgL_esc (c : UInt8) (rest : List UInt8) : ∃ x r k, escB c ++ rest = x :: r ∧ x.toNat ≠ 46 ∧ sgL x r = some (c, k) ∧ r.drop k = rest := by
  unfold escB
  by_cases h1 : c.toNat = 46 ∨ c.toNat = 92
  · rw [if_pos h1]
    refine ⟨92, c :: rest, 1, rfl, by decide, ?_, rfl⟩
    have hd : digB c = false := by unfold digB; rcases h1 with h | h <;> simp [h]
    unfold sgL
    rw [if_pos (by decide), escL_cons, if_pos hd]; rfl
  · rw [if_neg h1]
    by_cases h2 : c.toNat < 33 ∨ 126 < c.toNat
    · rw [if_pos h2]
      obtain ⟨a1, a2, a3⟩ := num3 ⟨c.toNat, c.toNat_lt⟩
      refine ⟨92, UInt8.ofNat (48 + c.toNat / 100) :: UInt8.ofNat (48 + c.toNat / 10 % 10) :: UInt8.ofNat (48 + c.toNat % 10) :: rest, 3, rfl, by decide, ?_, rfl⟩
      have e : escL (UInt8.ofNat (48 + c.toNat / 100) :: UInt8.ofNat (48 + c.toNat / 10 % 10) :: UInt8.ofNat (48 + c.toNat % 10) :: rest) = some (c, 2) := by
        have ht : List.take 2 (UInt8.ofNat (48 + c.toNat / 10 % 10) :: UInt8.ofNat (48 + c.toNat % 10) :: rest) = [UInt8.ofNat (48 + c.toNat / 10 % 10), UInt8.ofNat (48 + c.toNat % 10)] := rfl
        rw [escL_cons, ht, if_neg (by simp only at a1; rw [a1]; simp), if_neg (by simp)]
        simp only at a2 a3
        rw [if_pos ⟨a2, by rw [a3]; have := c.toNat_lt; omega⟩, a3]
        simp
      unfold sgL
      rw [if_pos (by decide), e]; rfl
    · rw [if_neg h2]
      refine ⟨c, rest, 0, rfl, fun h => h1 (.inl h), ?_, rfl⟩
      unfold sgL
      rw [if_neg (fun h => h1 (.inr h))]
theorem mach_escs : ∀ (l b rest : List UInt8) (n : List (List UInt8)) (d : Bool), l ≠ [] ∨ d = false → mach (escs l ++ rest) b n d = mach rest (b ++ l) n false
  | [], b, rest, n, d, h => by
    obtain rfl : d = false := by simpa using h
    simp [escs]
  | c :: l, b, rest, n, d, _ => by
    obtain ⟨x, r, k, e1, e2, e3, e4⟩ := sgL_esc c (escs l ++ rest)
    have : escs (c :: l) ++ rest = x :: r := by rw [← e1]; simp [escs]
    rw [this, mach_go _ _ _ _ _ e2 e3, e4, mach_escs l _ _ _ _ (.inr rfl), List.append_assoc]; rfl
theorem mach_label (l rest : List UInt8) (n : List (List UInt8)) (d : Bool) (h : okLab l = true) : mach (escs l ++ 46 :: rest) [] n d = mach rest [] (n ++ [l]) true := by
  have h2 := (okLab_iff l).1 h
  have hne : l ≠ [] := by rintro rfl; simp at h2
  rw [mach_escs l [] (46 :: rest) n d (.inl hne), mach_dot _ _ _ _ _ (by decide), List.nil_append, if_neg hne, if_neg (by omega)]
theorem mach_text : ∀ (n m : List (List UInt8)) (d : Bool), n.all okLab = true → n ≠ [] ∨ d = true → ∀ rest, mach (textD n ++ rest) [] m d = mach rest [] (m ++ n) true
  | [], m, d, _, h, rest => by
    obtain rfl : d = true := by simpa using h
    simp [textD]
  | l :: n, m, d, hn, _, rest => by
    simp only [List.all_cons, Bool.and_eq_true] at hn
    have : textD (l :: n) ++ rest = escs l ++ 46 :: (textD n ++ rest) := by simp [textD]
    rw [this, mach_label _ _ _ _ hn.1, mach_text n (m ++ [l]) true hn.2 (.inr rfl) rest]
    simp
theorem escs_head (c : UInt8) (l rest : List UInt8) : escs (c :: l) ++ rest ≠ [46] := by
  obtain ⟨x, r, k, e1, e2, e3, e4⟩ := sgL_esc c (escs l ++ rest)
  have : escs (c :: l) ++ rest = x :: r := by rw [← e1]; simp [escs]
  rw [this]
  intro h
  simp at h
  exact e2 (by rw [h.1]; rfl)
theorem textD_snoc (n : List (List UInt8)) (l : List UInt8) : textD (n ++ [l]) = textD n ++ (escs l ++ [46]) := by simp [textD]
theorem plainD_snoc (n : List (List UInt8)) (l : List UInt8) : plainD (n ++ [l]) = textD n ++ escs l := by
  have key : ∀ n : List (List UInt8), (n.flatMap fun l => 46 :: escs l) ++ [46] = 46 :: textD n := by
    intro n
    induction n with
    | nil => rfl
    | cons a n ih => simp [textD] at ih ⊢; exact ih
  have e := key (n ++ [l])
  rw [textD_snoc] at e
  have : ((n ++ [l]).flatMap fun l => 46 :: escs l) = 46 :: (textD n ++ escs l) := by
    have e2 : ((n ++ [l]).flatMap fun l => 46 :: escs l) ++ [46] = (46 :: (textD n ++ escs l)) ++ [46] := by rw [e]; simp
    exact List.append_cancel_right e2
  unfold plainD
  rw [this]; rfl
theorem textD_plainD (n : List (List UInt8)) (h : n ≠ []) : textD n = plainD n ++ [46] := by
  have e := (List.dropLast_concat_getLast h).symm
  rw [e, plainD_snoc, textD_snoc]; simp
theorem snoc_of (n : List (List UInt8)) (h : n ≠ []) : ∃ a l, n = a ++ [l] := ⟨n.dropLast, n.getLast h, (List.dropLast_concat_getLast h).symm⟩
theorem parse_fin {n : List (List UInt8)} {d : Bool} (h : checkL n = 0) : finL (0, n, d) = (0, n, d) := by
  unfold finL
  rw [if_neg (fun x => by have := (checkL_ok.1 h).2; have h2 := x.2; simp only at h2; omega)]
theorem ok_cons {n : List (List UInt8)} (h : checkL n = 0) (hne : n ≠ []) : ∃ c l m, n = (c :: l) :: m := by
  match n, hne with
  | [] :: m, _ =>
    have := (checkL_ok.1 h).1
    simp [okLab] at this
  | (c :: l) :: m, _ => exact ⟨c, l, m, rfl⟩
theorem parse_text (n : List (List UInt8)) (h : checkL n = 0) : parseL (wrtL n) = (0, n, true) := by
  by_cases hn : n = []
  · subst hn; rfl
  · unfold parseL wrtL
    rw [if_neg hn]
    have hne : textD n ≠ [46] := by
      obtain ⟨c, l, m, rfl⟩ := ok_cons h hn
      have := escs_head c l (46 :: textD m)
      intro e
      apply this
      rw [← e]; simp [textD]
    rw [if_neg hne]
    have := mach_text n [] false (checkL_ok.1 h).1 (.inl hn) []
    rw [List.append_nil] at this
    rw [this, mach_end, if_pos rfl]
    exact parse_fin h
theorem parse_plain (n : List (List UInt8)) (h : checkL n = 0) : parseL (plainL n) = (0, n, decide (n = [])) := by
  by_cases hn : n = []
  · subst hn; rfl
  · unfold parseL plainL
    rw [if_neg hn]
    obtain ⟨a, l, rfl⟩ := snoc_of n hn
    have hall := (checkL_ok.1 h).1
    rw [List.all_append, Bool.and_eq_true] at hall
    have hl : okLab l = true := by simpa using hall.2
    have hl2 := (okLab_iff l).1 hl
    have hlne : l ≠ [] := by rintro rfl; simp at hl2
    rw [plainD_snoc]
    have hne : textD a ++ escs l ≠ [46] := by
      match a, l, hlne with
      | [], c :: l, _ => have := escs_head c l []; simpa [textD] using this
      | [] :: a, _, _ => simp [okLab] at hall
      | (c :: k) :: a, l, _ =>
        have := escs_head c k (46 :: textD a ++ escs l)
        intro e
        apply this
        rw [← e]; simp [textD]
    rw [if_neg hne]
    have e : mach (textD a ++ escs l) [] [] false = (0, a ++ [l], false) := by
      by_cases ha : a = []
      · subst ha
        have := mach_escs l [] [] [] false (.inl hlne)
        simp only [textD, List.flatMap_nil, List.nil_append, List.append_nil] at this ⊢
        rw [this, mach_end, if_neg (by simp), if_neg hlne, if_neg (by omega)]; rfl
      · rw [mach_text a [] false hall.1 (.inl ha) (escs l)]
        have := mach_escs l [] [] ([] ++ a) true (.inl hlne)
        simp only [List.nil_append, List.append_nil] at this ⊢
        rw [this, mach_end, if_neg (by simp), if_neg hlne, if_neg (by omega)]
    rw [e, parse_fin h]
    simp
end Go.Proofs.YtbcnnjifndmdpaaDoor
namespace Go.Proofs.YtbcnnjifndmdpaaDoor
open Go.RowKit
set_option linter.unusedVariables false
theorem figs_ex : figs 745 1 72 = [107, 118, 97] := by
  rw [figs_go (by decide), figs_go (by decide), figs_end (by decide)]
  decide +kernel
theorem enc_ex : encE [98, 252, 99, 104, 101, 114] = ([98, 99, 104, 101, 114, 45, 107, 118, 97], 0) := by
  refine encE_ok (by decide) (by decide) ?_
  have h1 : leastI [98, 252, 99, 104, 101, 114] 128 = 252 := by decide
  have h2 : hyp (basL [98, 252, 99, 104, 101, 114]) = [98, 99, 104, 101, 114, 45] := by decide +kernel
  have h3 : ((basL [98, 252, 99, 104, 101, 114]).length : Int) = 5 := by decide +kernel
  unfold encO
  rw [h2, h3]
  have hr : rnd (leastI [98, 252, 99, 104, 101, 114] 128) 5 [98, 252, 99, 104, 101, 114] ([98, 99, 104, 101, 114, 45], 0 + (leastI [98, 252, 99, 104, 101, 114] 128 - 128) * (5 + 1), 72, 5) = some ([98, 99, 104, 101, 114, 45, 107, 118, 97], 4, adp 745 6 true, 6) := by
    rw [h1]
    rw [rnd_pass (by decide) (by decide), rnd_put (by decide) (by decide), rnd_pass (by decide) (by decide), rnd_pass (by decide) (by decide), rnd_pass (by decide) (by decide), rnd_pass (by decide) (by decide)]
    have e : upS 252 252 (upS 252 98 (0 + (252 - 128) * (5 + 1))) = 745 := by decide
    simp only [e, figs_ex]
    simp [rnd]
    decide
  rw [encL_go (by decide) hr]
  exact encL_end (by decide)
end Go.Proofs.YtbcnnjifndmdpaaDoor
