/- Plain: the text of eight groups, and that it is read as it was (layer 8). -/
import Derived.Test.YtkchgjakkogejaaDoorMath12
namespace Go.Proofs.YtkchgjakkogejaaDoor
open Go.RowKit Go
set_option linter.unusedVariables false
def octE (l : List UInt8) : Option (List UInt8) := (plainE l).map bytesG
theorem bytesG_app (a b : List Nat) : bytesG (a ++ b) = bytesG a ++ bytesG b := by simp [bytesG]
theorem bytesG_noughts (n : Nat) : bytesG (noughtsN n) = List.replicate (2 * n) 0 := by
  induction n with
  | zero => rfl
  | succ n ih =>
    have h1 : noughtsN (n + 1) = 0 :: noughtsN n := rfl
    have h2 : bytesG (0 :: noughtsN n) = [byN 0 8, byN 0 0] ++ bytesG (noughtsN n) := rfl
    rw [h1, h2, ih, show 2 * (n + 1) = 2 * n + 1 + 1 by omega]
    rfl
/-- what the program's way of two halves comes to -/
def octM (x y : Option (List Nat)) : Option (List UInt8) := match x, y with
  | some x, some y => if x.length + y.length ≤ 7 then some (bytesG x ++ List.replicate (16 - 2 * x.length - 2 * y.length) 0 ++ bytesG y) else none
  | _, _ => none
def octW (y : Option (List Nat)) : Option (List UInt8) := match y with
  | some y => if y.length = 8 then some (bytesG y) else none
  | none => none
theorem oct_gap (l : List UInt8) (i : Nat) (h : Lib.index l [58, 58] = i) : octE l = octM (sideC false (l.take i)) (sideC true (l.drop (i + 2))) := by
  have e : octE l = octM (sideE false (l.take i)) (sideE true (l.drop (i + 2))) := by
    unfold octE plainE octM
    rw [h, if_neg (by omega), Int.toNat_natCast]
    cases sideE false (l.take i) with
    | none => rfl
    | some x =>
      cases sideE true (l.drop (i + 2)) with
      | none => rfl
      | some y =>
        by_cases h7 : x.length + y.length ≤ 7
        · simp only [if_pos h7, Option.map_some, bytesG_app, bytesG_noughts]
          rw [show 2 * (8 - x.length - y.length) = 16 - 2 * x.length - 2 * y.length by omega]
        · simp only [if_neg h7, Option.map_none]
  rw [e]
  have n1 : ∀ (x y : Option (List Nat)), (∀ m, x = some m → 8 < m.length) → octM x y = none := by
    intro x y hx
    cases x with
    | none => rfl
    | some m =>
      cases y with
      | none => rfl
      | some y => have := hx m rfl; unfold octM; simp only; rw [if_neg (by omega)]
  have n2 : ∀ (x y : Option (List Nat)), (∀ m, y = some m → 8 < m.length) → octM x y = none := by
    intro x y hy
    cases x with
    | none => rfl
    | some m =>
      cases y with
      | none => rfl
      | some y => have := hy y rfl; unfold octM; simp only; rw [if_neg (by omega)]
  rcases sideC_or false (l.take i) with h1 | ⟨h1, h1'⟩
  · rcases sideC_or true (l.drop (i + 2)) with h2 | ⟨h2, h2'⟩
    · rw [h1, h2]
    · rw [h2, n2 _ _ h2', n2 _ none (fun m hm => by cases hm)]
  · rw [h1, n1 _ _ h1', n1 none _ (fun m hm => by cases hm)]
theorem oct_whole (l : List UInt8) (h : Lib.index l [58, 58] = -1) : octE l = octW (sideC true l) := by
  have e : octE l = octW (sideE true l) := by
    unfold octE plainE octW
    rw [h, if_pos rfl]
    cases sideE true l with
    | none => rfl
    | some m =>
      by_cases h8 : m.length = 8
      · simp only [if_pos h8, Option.map_some]
      · simp only [if_neg h8, Option.map_none]
  rw [e]
  rcases sideC_or true l with h1 | ⟨h1, h1'⟩
  · rw [h1]
  · rw [h1]
    cases hs : sideE true l with
    | none => rfl
    | some m =>
      have := h1' m hs
      unfold octW
      simp only
      rw [if_neg (by omega)]
/- digits of the base 16 -/
def hexC (d : Nat) : UInt8 := if d < 10 then UInt8.ofNat (48 + d) else UInt8.ofNat (87 + d)
def hexL (n : Nat) : List UInt8 := if n < 16 then [hexC n] else hexL (n / 16) ++ [hexC (n % 16)]
termination_by n
theorem hexL_lo {n : Nat} (h : n < 16) : hexL n = [hexC n] := by rw [hexL, if_pos h]
theorem hexL_hi {n : Nat} (h : ¬ n < 16) : hexL n = hexL (n / 16) ++ [hexC (n % 16)] := by rw [hexL, if_neg h]
theorem hexC_all : ∀ d : Fin 16, hexB (hexC d.val).toNat = true ∧ hexV (hexC d.val).toNat = d.val ∧ hexC d.val ≠ 58 ∧ hexC d.val ≠ 46 ∧ hexC d.val ≠ 37 := by decide +kernel
theorem hexC_at {d : Nat} (h : d < 16) : hexB (hexC d).toNat = true ∧ hexV (hexC d).toNat = d ∧ hexC d ≠ 58 ∧ hexC d ≠ 46 ∧ hexC d ≠ 37 := hexC_all ⟨d, h⟩
theorem hexL_all : ∀ (n : Nat), allH (hexL n) = true ∧ hexN (hexL n) = n ∧ (hexL n ≠ []) ∧ (58 : UInt8) ∉ hexL n ∧ (46 : UInt8) ∉ hexL n ∧ (37 : UInt8) ∉ hexL n := by
  intro n
  induction n using Nat.strongRecOn with
  | _ n ih =>
    by_cases h : n < 16
    · rw [hexL_lo h]
      obtain ⟨h1, h2, h3, h4, h5⟩ := hexC_at h
      refine ⟨by simp [allH, h1], by simp [hexN, h2], by simp, ?_, ?_, ?_⟩
      · simpa using Ne.symm h3
      · simpa using Ne.symm h4
      · simpa using Ne.symm h5
    · obtain ⟨a1, a2, a3, a4, a5, a6⟩ := ih (n / 16) (by omega)
      obtain ⟨h1, h2, h3, h4, h5⟩ := hexC_at (show n % 16 < 16 by omega)
      rw [hexL_hi h]
      refine ⟨?_, ?_, by simp, ?_, ?_, ?_⟩
      · unfold allH at a1 ⊢; rw [List.all_append, a1]; simp [h1]
      · rw [hexN_snoc, a2, h2]; omega
      · simp only [List.mem_append, List.mem_singleton, not_or]; exact ⟨a4, Ne.symm h3⟩
      · simp only [List.mem_append, List.mem_singleton, not_or]; exact ⟨a5, Ne.symm h4⟩
      · simp only [List.mem_append, List.mem_singleton, not_or]; exact ⟨a6, Ne.symm h5⟩
theorem hexL_len4 {n : Nat} (h : n < 65536) : (hexL n).length ≤ 4 := by
  by_cases h1 : n < 16
  · rw [hexL_lo h1]; simp
  · by_cases h2 : n / 16 < 16
    · rw [hexL_hi h1, hexL_lo h2]; simp
    · by_cases h3 : n / 16 / 16 < 16
      · rw [hexL_hi h1, hexL_hi h2, hexL_lo h3]; simp
      · rw [hexL_hi h1, hexL_hi h2, hexL_hi h3, hexL_lo (by omega)]; simp
theorem group_hexL {n : Nat} (h : n < 65536) : groupE (hexL n) = some n := by
  obtain ⟨h1, h2, h3, _⟩ := hexL_all n
  have := hexL_len4 h
  unfold groupE
  rw [if_neg (by simp [h1, h3]; omega), h2]
def hexs (g : List Nat) : List (List UInt8) := g.map hexL
theorem sideP_hexs (last : Bool) (g : List Nat) (h : ∀ n ∈ g, n < 65536) : sideP last (hexs g) = some g := by
  induction g with
  | nil => rfl
  | cons n g ih =>
    have e : hexs (n :: g) = hexL n :: hexs g := rfl
    rw [e, sideP, group_hexL (h n (by simp)), ih (fun m hm => h m (by simp [hm]))]
    rfl
theorem hexs_colon (g : List Nat) : ∀ p ∈ hexs g, (58 : UInt8) ∉ p := by
  intro p hp
  obtain ⟨n, _, rfl⟩ := List.mem_map.1 hp
  exact (hexL_all n).2.2.2.1
theorem hexs_ne (g : List Nat) : ∀ p ∈ hexs g, p ≠ [] := by
  intro p hp
  obtain ⟨n, _, rfl⟩ := List.mem_map.1 hp
  exact (hexL_all n).2.2.1
theorem joiX_nil (x : UInt8) (L : List (List UInt8)) (h : ∀ p ∈ L, p ≠ []) (hj : joiX x L = []) : L = [] := by
  cases L with
  | nil => rfl
  | cons p t =>
    cases t with
    | nil => exact absurd hj (h p (by simp))
    | cons q t => simp [joiX] at hj
theorem side_hexs (last : Bool) (g : List Nat) (h : ∀ n ∈ g, n < 65536) : sideE last (joiX 58 (hexs g)) = some g := by
  unfold sideE
  by_cases h0 : joiX 58 (hexs g) = []
  · rw [if_pos h0]
    have := joiX_nil 58 (hexs g) (hexs_ne g) h0
    have hg : g = [] := by simpa [hexs] using this
    rw [hg]
  · have hg : hexs g ≠ [] := by
      intro e
      rw [e] at h0
      exact h0 rfl
    rw [if_neg h0, cutX_joi 58 (hexs g) hg (hexs_colon g), sideP_hexs last g h]
/- no two colons, and none at the end -/
def noCC : List UInt8 → Bool
  | [] => true
  | [c] => decide (c ≠ 58)
  | c :: d :: r => (decide (c ≠ 58) || decide (d ≠ 58)) && noCC (d :: r)
theorem pre_no (c d : UInt8) (r : List UInt8) (h : c ≠ 58 ∨ d ≠ 58) : List.isPrefixOf [58, 58] (c :: d :: r) = false := by
  rcases h with h | h
  · simp [List.isPrefixOf, Ne.symm h]
  · simp [List.isPrefixOf, Ne.symm h]
theorem index_noCC : ∀ (l : List UInt8), noCC l = true → Lib.index l [58, 58] = -1 := by
  intro l
  induction l with
  | nil => intro _; rfl
  | cons c l ih =>
    intro h
    cases l with
    | nil =>
      rw [Lib.index]
      simp [List.isPrefixOf, Lib.index]
    | cons d r =>
      rw [noCC, Bool.and_eq_true] at h
      have h1 : c ≠ 58 ∨ d ≠ 58 := by simpa using h.1
      rw [Lib.index, pre_no c d r h1, ih h.2]
      rfl
theorem index_CC : ∀ (a b : List UInt8), noCC a = true → Lib.index (a ++ 58 :: 58 :: b) [58, 58] = a.length := by
  intro a
  induction a with
  | nil => intro b _; rw [List.nil_append, Lib.index]; rfl
  | cons c l ih =>
    intro b h
    cases l with
    | nil =>
      have h1 : c ≠ 58 := by simpa [noCC] using h
      rw [List.cons_append, List.nil_append, Lib.index, pre_no c 58 _ (.inl h1), Lib.index]
      rfl
    | cons d r =>
      rw [noCC, Bool.and_eq_true] at h
      have h1 : c ≠ 58 ∨ d ≠ 58 := by simpa using h.1
      have hi := ih b h.2
      rw [List.cons_append] at hi ⊢
      rw [List.cons_append, Lib.index, pre_no c d _ h1, hi]
      have : (((d :: r).length : Int) == -1) = false := by rw [beq_eq_false_iff_ne]; omega
      rw [this]
      simp
theorem noCC_plain (p : List UInt8) (h : (58 : UInt8) ∉ p) : noCC p = true := by
  induction p with
  | nil => rfl
  | cons c p ih =>
    have h1 : c ≠ 58 := fun e => h (by rw [e]; simp)
    have h2 := ih (fun e => h (by simp [e]))
    cases p with
    | nil => simp [noCC, h1]
    | cons d r => rw [noCC, h2]; simp [h1]
theorem noCC_join (p x : List UInt8) (h : (58 : UInt8) ∉ p) (hp : p ≠ []) (hx : noCC x = true) (h0 : ∃ c t, x = c :: t ∧ c ≠ 58) : noCC (p ++ 58 :: x) = true := by
  induction p with
  | nil => exact absurd rfl hp
  | cons c p ih =>
    have h1 : c ≠ 58 := fun e => h (by rw [e]; simp)
    have hr : (58 : UInt8) ∉ p := fun e => h (by simp [e])
    cases p with
    | nil =>
      obtain ⟨d, t, rfl, hd⟩ := h0
      rw [List.cons_append, List.nil_append, noCC, noCC, hx]
      simp [h1, hd]
    | cons d r =>
      have := ih hr (by simp)
      rw [List.cons_append, List.cons_append, noCC, ← List.cons_append, this]
      simp [h1]
theorem joiX_head (L : List (List UInt8)) (h : ∀ p ∈ L, (58 : UInt8) ∉ p) (h' : ∀ p ∈ L, p ≠ []) (hL : L ≠ []) : ∃ c t, joiX 58 L = c :: t ∧ c ≠ 58 := by
  cases L with
  | nil => exact absurd rfl hL
  | cons p t =>
    have hp := h p (by simp)
    have hn := h' p (by simp)
    cases p with
    | nil => exact absurd rfl hn
    | cons c r =>
      have hc : c ≠ 58 := fun e => hp (by rw [e]; simp)
      cases t with
      | nil => exact ⟨c, r, rfl, hc⟩
      | cons q t => exact ⟨c, _, rfl, hc⟩
theorem joiX_noCC (L : List (List UInt8)) (h : ∀ p ∈ L, (58 : UInt8) ∉ p) (h' : ∀ p ∈ L, p ≠ []) : noCC (joiX 58 L) = true := by
  induction L with
  | nil => rfl
  | cons p t ih =>
    have hp := h p (by simp)
    have hn := h' p (by simp)
    have ht := ih (fun q hq => h q (by simp [hq])) (fun q hq => h' q (by simp [hq]))
    cases t with
    | nil => exact noCC_plain p hp
    | cons q t =>
      rw [joiX_cons 58 p (q :: t) (by simp)]
      exact noCC_join p _ hp hn ht (joiX_head (q :: t) (fun z hz => h z (by simp [hz])) (fun z hz => h' z (by simp [hz])) (by simp))
/- the row of groups 0: as the program looks for it -/
def nouS (st : Nat × Nat × Nat) (i : Nat) (z : Bool) : Nat × Nat × Nat :=
  if z = false then (st.1, st.2.1, 0) else if st.2.1 < st.2.2 + 1 then (i + 1 - (st.2.2 + 1), st.2.2 + 1, st.2.2 + 1) else (st.1, st.2.1, st.2.2 + 1)
def nouK (z : List Bool) : Nat → Nat × Nat × Nat
  | 0 => (0, 0, 0)
  | k + 1 => nouS (nouK z k) k (z.getD k false)
def nouE (z : List Bool) : Nat × Nat := ((nouK z 8).1, (nouK z 8).2.1)
/- as the document does: from the longest, the first -/
def allZ (z : List Bool) (f n : Nat) : Bool := (List.range n).all fun j => z.getD (f + j) false
def rowF (z : List Bool) (n : Nat) (nx : Nat × Nat) : Nat → Nat × Nat
  | 0 => nx
  | j + 1 => if allZ z (9 - n - (j + 1)) n then (9 - n - (j + 1), n) else rowF z n nx j
def rowN (z : List Bool) : Nat → Nat × Nat
  | 0 => (8, 0)
  | n + 1 => if n + 1 < 2 then (8, 0) else rowF z (n + 1) (rowN z n) (9 - (n + 1))
def rowE (z : List Bool) : Nat × Nat := rowN z 8
def rowOk (z : List Bool) : Bool :=
  decide ((nouE z).1 + (nouE z).2 ≤ 8) && decide (rowE z = if (nouE z).2 < 2 then (8, 0) else nouE z) && allZ z (nouE z).1 (nouE z).2
theorem row_all : ∀ b0 b1 b2 b3 b4 b5 b6 b7 : Bool, rowOk [b0, b1, b2, b3, b4, b5, b6, b7] = true := by decide +kernel
theorem row_ok (z : List Bool) (h : z.length = 8) : (nouE z).1 + (nouE z).2 ≤ 8 ∧ (rowE z = if (nouE z).2 < 2 then (8, 0) else nouE z) ∧ ∀ j, j < (nouE z).2 → z.getD ((nouE z).1 + j) false = true := by
  obtain ⟨b0, b1, b2, b3, b4, b5, b6, b7, rfl⟩ : ∃ b0 b1 b2 b3 b4 b5 b6 b7, z = [b0, b1, b2, b3, b4, b5, b6, b7] := by
    match z, h with
    | [b0, b1, b2, b3, b4, b5, b6, b7], _ => exact ⟨b0, b1, b2, b3, b4, b5, b6, b7, rfl⟩
  have := row_all b0 b1 b2 b3 b4 b5 b6 b7
  unfold rowOk at this
  rw [Bool.and_eq_true, Bool.and_eq_true, decide_eq_true_eq, decide_eq_true_eq] at this
  refine ⟨this.1.1, this.1.2, fun j hj => ?_⟩
  have h2 := this.2
  unfold allZ at h2
  exact List.all_eq_true.1 h2 j (List.mem_range.2 hj)
/- the text -/
def zsG (g : List Nat) : List Bool := g.map fun n => n == 0
def coreE (g : List Nat) : List UInt8 :=
  if (nouE (zsG g)).2 < 2 then joiX 58 (hexs g) else joiX 58 (hexs (g.take (nouE (zsG g)).1)) ++ 58 :: 58 :: joiX 58 (hexs (g.drop ((nouE (zsG g)).1 + (nouE (zsG g)).2)))
theorem core_parts (g : List Nat) (h : g.length = 8) : g.take (nouE (zsG g)).1 ++ noughtsN (nouE (zsG g)).2 ++ g.drop ((nouE (zsG g)).1 + (nouE (zsG g)).2) = g := by
  have hz : (zsG g).length = 8 := by simp [zsG, h]
  obtain ⟨h1, _, h3⟩ := row_ok (zsG g) hz
  obtain ⟨f, hf⟩ : ∃ f, f = (nouE (zsG g)).1 := ⟨_, rfl⟩
  obtain ⟨m, hm⟩ : ∃ m, m = (nouE (zsG g)).2 := ⟨_, rfl⟩
  rw [← hf, ← hm] at h1 h3 ⊢
  have hmid : noughtsN m = (g.drop f).take m := by
    refine List.ext_getElem (by simp [noughtsN]; omega) fun j hj1 hj2 => ?_
    have hjm : j < m := by simpa [noughtsN] using hj1
    have := h3 j hjm
    have hlt : f + j < g.length := by omega
    rw [List.getD_eq_getElem?_getD, zsG, List.getElem?_map, List.getElem?_eq_getElem hlt] at this
    simp at this
    simp [noughtsN, this]
  rw [hmid, List.append_assoc, ← List.drop_drop, List.take_append_drop, List.take_append_drop]
theorem core_back (g : List Nat) (h : g.length = 8) (hl : ∀ n ∈ g, n < 65536) : plainE (coreE g) = some g := by
  have hp := core_parts g h
  have hz : (zsG g).length = 8 := by simp [zsG, h]
  obtain ⟨h1, _, _⟩ := row_ok (zsG g) hz
  unfold coreE
  by_cases hm : (nouE (zsG g)).2 < 2
  · rw [if_pos hm]
    unfold plainE
    rw [if_pos (index_noCC _ (joiX_noCC _ (hexs_colon g) (hexs_ne g))), side_hexs true g hl]
    simp [h]
  · rw [if_neg hm]
    obtain ⟨f, hf⟩ : ∃ f, f = (nouE (zsG g)).1 := ⟨_, rfl⟩
    obtain ⟨m, hmm⟩ : ∃ m, m = (nouE (zsG g)).2 := ⟨_, rfl⟩
    rw [← hf, ← hmm] at h1 hp ⊢
    rw [← hmm] at hm
    have hi := index_CC (joiX 58 (hexs (g.take f))) (joiX 58 (hexs (g.drop (f + m)))) (joiX_noCC _ (hexs_colon _) (hexs_ne _))
    unfold plainE
    rw [hi, if_neg (by omega), Int.toNat_natCast, List.take_left, List.drop_append, List.drop_of_length_le (by omega), List.nil_append]
    rw [show (joiX 58 (hexs (g.take f))).length + 2 - (joiX 58 (hexs (g.take f))).length = 2 by omega]
    rw [List.drop_succ_cons, List.drop_succ_cons, List.drop_zero]
    rw [side_hexs false (g.take f) (fun n hn => hl n (List.mem_of_mem_take hn)), side_hexs true (g.drop (f + m)) (fun n hn => hl n (List.mem_of_mem_drop hn))]
    simp only
    have l1 : (g.take f).length = f := by rw [List.length_take]; omega
    have l2 : (g.drop (f + m)).length = 8 - (f + m) := by rw [List.length_drop]; omega
    rw [if_pos (by omega), l1, l2, show 8 - f - (8 - (f + m)) = m by omega, hp]
/- among those of Inet -/
def mapB (g : List Nat) : Bool := (g.take 5).all (· == 0) && g.getD 5 0 == 65535
def mapT (a b c d : UInt8) : List UInt8 := 58 :: 58 :: 102 :: 102 :: 102 :: 102 :: 58 :: quadT a b c d
theorem quadT_no58 (a b c d : UInt8) : (58 : UInt8) ∉ quadT a b c d := by
  intro h
  rcases quadT_chars a b c d 58 h with h | h
  · revert h; decide
  · revert h; decide
theorem quadT_no37 (a b c d : UInt8) : (37 : UInt8) ∉ quadT a b c d := by
  intro h
  rcases quadT_chars a b c d 37 h with h | h
  · revert h; decide
  · revert h; decide
theorem group_quadT (a b c d : UInt8) : groupE (quadT a b c d) = none := by
  unfold groupE
  rw [if_pos]
  refine .inr (.inr ?_)
  unfold allH
  rw [List.all_eq_false]
  exact ⟨46, by unfold quadT; simp, by decide⟩
theorem four_quadT (a b c d : UInt8) : fourE (quadT a b c d) = some [a, b, c, d] := by
  unfold fourE
  rw [quadT_parse]
  rfl
theorem map_back (a b c d : UInt8) : plainE (mapT a b c d) = some [0, 0, 0, 0, 0, 65535, 256 * a.toNat + b.toNat, 256 * c.toNat + d.toNat] := by
  have hi : Lib.index (mapT a b c d) [58, 58] = 0 := index_CC [] (102 :: 102 :: 102 :: 102 :: 58 :: quadT a b c d) rfl
  have hc : cutX 58 (102 :: 102 :: 102 :: 102 :: 58 :: quadT a b c d) = [[102, 102, 102, 102], quadT a b c d] := by
    have := cutX_hit 58 [102, 102, 102, 102] (quadT a b c d) (by decide)
    rw [cutX_none 58 _ (quadT_no58 a b c d)] at this
    exact this
  have hg : groupE [102, 102, 102, 102] = some 65535 := by decide +kernel
  unfold plainE
  rw [hi, if_neg (by decide)]
  have e1 : List.take (Int.toNat 0) (mapT a b c d) = [] := rfl
  have e2 : List.drop (Int.toNat 0 + 2) (mapT a b c d) = 102 :: 102 :: 102 :: 102 :: 58 :: quadT a b c d := rfl
  rw [e1, e2]
  have s1 : sideE false [] = some [] := rfl
  have s2 : sideE true (102 :: 102 :: 102 :: 102 :: 58 :: quadT a b c d) = some [65535, 256 * a.toNat + b.toNat, 256 * c.toNat + d.toNat] := by
    unfold sideE
    rw [if_neg (by simp), hc, sideP, hg]
    simp only
    rw [sideP, group_quadT]
    simp [four_quadT, grp2]
  rw [s1, s2]
  rfl
/- sixteen bytes as groups -/
def groupsG (ip : List UInt8) : List Nat := (List.range 8).map fun i => 256 * (ip.getD (2 * i) 0).toNat + (ip.getD (2 * i + 1) 0).toNat
theorem groupsG_len (ip : List UInt8) : (groupsG ip).length = 8 := by simp [groupsG]
theorem groupsG_lt (ip : List UInt8) : ∀ n ∈ groupsG ip, n < 65536 := by
  intro n hn
  obtain ⟨i, _, rfl⟩ := List.mem_map.1 hn
  have := UInt8.toNat_lt (ip.getD (2 * i) 0)
  have := UInt8.toNat_lt (ip.getD (2 * i + 1) 0)
  omega
theorem byN_hi (a b : UInt8) : byN (256 * a.toNat + b.toNat) 8 = a := by
  apply UInt8.toNat_inj.1
  rw [byN_toNat]
  have := UInt8.toNat_lt a
  have := UInt8.toNat_lt b
  omega
theorem byN_lo (a b : UInt8) : byN (256 * a.toNat + b.toNat) 0 = b := by
  apply UInt8.toNat_inj.1
  rw [byN_toNat]
  have := UInt8.toNat_lt b
  omega
theorem bytesG_groups (ip : List UInt8) (h : ip.length = 16) : bytesG (groupsG ip) = ip := by
  match ip, h with
  | [a0, a1, a2, a3, a4, a5, a6, a7, a8, a9, a10, a11, a12, a13, a14, a15], _ =>
    have e : groupsG [a0, a1, a2, a3, a4, a5, a6, a7, a8, a9, a10, a11, a12, a13, a14, a15] = [256 * a0.toNat + a1.toNat, 256 * a2.toNat + a3.toNat, 256 * a4.toNat + a5.toNat, 256 * a6.toNat + a7.toNat, 256 * a8.toNat + a9.toNat, 256 * a10.toNat + a11.toNat, 256 * a12.toNat + a13.toNat, 256 * a14.toNat + a15.toNat] := rfl
    rw [e]
    simp [bytesG, byN_hi, byN_lo]
def addrE (ip : List UInt8) : List UInt8 := if mapB (groupsG ip) = true then mapT (ip.getD 12 0) (ip.getD 13 0) (ip.getD 14 0) (ip.getD 15 0) else coreE (groupsG ip)
theorem map_groups (ip : List UInt8) (h : mapB (groupsG ip) = true) : groupsG ip = [0, 0, 0, 0, 0, 65535, 256 * (ip.getD 12 0).toNat + (ip.getD 13 0).toNat, 256 * (ip.getD 14 0).toNat + (ip.getD 15 0).toNat] := by
  have e : groupsG ip = [256 * (ip.getD 0 0).toNat + (ip.getD 1 0).toNat, 256 * (ip.getD 2 0).toNat + (ip.getD 3 0).toNat, 256 * (ip.getD 4 0).toNat + (ip.getD 5 0).toNat, 256 * (ip.getD 6 0).toNat + (ip.getD 7 0).toNat, 256 * (ip.getD 8 0).toNat + (ip.getD 9 0).toNat, 256 * (ip.getD 10 0).toNat + (ip.getD 11 0).toNat, 256 * (ip.getD 12 0).toNat + (ip.getD 13 0).toNat, 256 * (ip.getD 14 0).toNat + (ip.getD 15 0).toNat] := rfl
  rw [e] at h ⊢
  simp only [mapB, List.take_succ_cons, List.take_zero, List.all_cons, List.all_nil, Bool.and_true, Bool.and_eq_true, beq_iff_eq, List.getD_cons_succ, List.getD_cons_zero] at h
  obtain ⟨⟨h0, h1, h2, h3, h4⟩, h5⟩ := h
  rw [h0, h1, h2, h3, h4, h5]
theorem addr_back (ip : List UInt8) : plainE (addrE ip) = some (groupsG ip) := by
  unfold addrE
  split
  · rename_i h
    rw [map_back, map_groups ip h]
  · exact core_back _ (groupsG_len ip) (groupsG_lt ip)
theorem joiX_mem (x y : UInt8) : ∀ (L : List (List UInt8)), y ∈ joiX x L → y = x ∨ ∃ p ∈ L, y ∈ p := by
  intro L
  induction L with
  | nil => intro h; simp [joiX] at h
  | cons p t ih =>
    intro h
    cases t with
    | nil => exact .inr ⟨p, by simp, h⟩
    | cons q t =>
      rw [joiX_cons x p (q :: t) (by simp), List.mem_append, List.mem_cons] at h
      rcases h with h | rfl | h
      · exact .inr ⟨p, by simp, h⟩
      · exact .inl rfl
      · rcases ih h with h | ⟨z, h1, h2⟩
        · exact .inl h
        · exact .inr ⟨z, by simp [List.mem_cons.1 h1], h2⟩
theorem hexs_no37 (g : List Nat) : (37 : UInt8) ∉ joiX 58 (hexs g) := by
  intro h
  rcases joiX_mem 58 37 _ h with h | ⟨p, hp, h⟩
  · revert h; decide
  · obtain ⟨n, _, rfl⟩ := List.mem_map.1 hp
    exact (hexL_all n).2.2.2.2.2 h
theorem addr_no37 (ip : List UInt8) : (37 : UInt8) ∉ addrE ip := by
  unfold addrE
  split
  · unfold mapT
    simp only [List.mem_cons, not_or]
    exact ⟨by decide, by decide, by decide, by decide, by decide, by decide, by decide, quadT_no37 _ _ _ _⟩
  · unfold coreE
    split
    · exact hexs_no37 _
    · simp only [List.mem_append, List.mem_cons, not_or]
      exact ⟨hexs_no37 _, by decide, by decide, hexs_no37 _⟩
theorem joiX_len (x : UInt8) (b : Nat) : ∀ (L : List (List UInt8)), (∀ p ∈ L, p.length ≤ b) → (joiX x L).length ≤ (b + 1) * L.length := by
  intro L
  induction L with
  | nil => intro _; simp [joiX]
  | cons p t ih =>
    intro h
    have hp := h p (by simp)
    have ht := ih (fun q hq => h q (by simp [hq]))
    cases t with
    | nil => show p.length ≤ _; simp; omega
    | cons q t =>
      rw [joiX_cons x p (q :: t) (by simp), List.length_append, List.length_cons]
      rw [List.length_cons (a := p), Nat.mul_add]
      omega
theorem hexs_len (g : List Nat) (h : ∀ n ∈ g, n < 65536) : (joiX 58 (hexs g)).length ≤ 5 * g.length := by
  have := joiX_len 58 4 (hexs g) (fun p hp => by obtain ⟨n, hn, rfl⟩ := List.mem_map.1 hp; exact hexL_len4 (h n hn))
  simpa [hexs] using this
theorem addr_len (ip : List UInt8) : (addrE ip).length ≤ 100 := by
  unfold addrE
  split
  · have := (quadT_len (ip.getD 12 0) (ip.getD 13 0) (ip.getD 14 0) (ip.getD 15 0)).1
    unfold mapT
    simp only [List.length_cons]
    omega
  · have hl := groupsG_lt ip
    have hlen := groupsG_len ip
    unfold coreE
    split
    · have := hexs_len (groupsG ip) hl
      omega
    · have h1 := hexs_len ((groupsG ip).take (nouE (zsG (groupsG ip))).1) (fun n hn => hl n (List.mem_of_mem_take hn))
      have h2 := hexs_len ((groupsG ip).drop ((nouE (zsG (groupsG ip))).1 + (nouE (zsG (groupsG ip))).2)) (fun n hn => hl n (List.mem_of_mem_drop hn))
      rw [List.length_take] at h1
      rw [List.length_drop] at h2
      rw [List.length_append, List.length_cons, List.length_cons]
      omega
end Go.Proofs.YtkchgjakkogejaaDoor
