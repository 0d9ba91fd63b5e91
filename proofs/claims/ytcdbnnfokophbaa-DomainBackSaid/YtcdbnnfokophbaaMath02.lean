import Derived.WalkKit
import Derived.Lib.Strings
import Derived.Lib.DecodeN
import Derived.Lib.RuneBytes
import Derived.Test.YtcdbnnfokophbaaMath01
namespace Go.Proofs.Ytcdbnnfokophbaa
open Go.RowKit Go
set_option linter.unusedVariables false
/- Plain functions on code points and their bytes (layer 2). -/
def ptB (c : Int) : Bool := decide (0 ≤ c) && decide (c ≤ 1114111) && (decide (c < 55296) || decide (57343 < c))
theorem ptB_iff (c : Int) : ptB c = true ↔ 0 ≤ c ∧ c ≤ 1114111 ∧ (c < 55296 ∨ 57343 < c) := by
  simp [ptB, and_assoc]
def gb (l : List UInt8) (i : Nat) : Nat := (l.getD i 0).toNat
theorem gb_lt (l : List UInt8) (i : Nat) : gb l i < 256 := (l.getD i 0).toNat_lt
def decU (l : List UInt8) : Nat × Nat := Lib.decodeN l.length (gb l 0) (gb l 1) (gb l 2) (gb l 3)
def nx (l : List UInt8) : Nat × Nat := if l = [] ∨ ((decU l).1 = 65533 ∧ (decU l).2 ≤ 1) then (0, 0) else decU l
theorem decN_sound (n b0 b1 b2 b3 : Nat) (hn : 1 ≤ n) (h0 : b0 < 256) (h1 : b1 < 256) (h2 : b2 < 256) (h3 : b3 < 256) (h : ¬ ((Lib.decodeN n b0 b1 b2 b3).1 = 65533 ∧ (Lib.decodeN n b0 b1 b2 b3).2 ≤ 1)) :
    ptB (Lib.decodeN n b0 b1 b2 b3).1 = true ∧ 1 ≤ (Lib.decodeN n b0 b1 b2 b3).2 ∧ (Lib.decodeN n b0 b1 b2 b3).2 ≤ n ∧ (Lib.decodeN n b0 b1 b2 b3).2 ≤ 4 ∧
    Lib.encodeRuneZ (Lib.decodeN n b0 b1 b2 b3).1 = ([b0, b1, b2, b3].take (Lib.decodeN n b0 b1 b2 b3).2).map fun x => ((x : Nat) : Int) := by
  revert h
  unfold Lib.decodeN
  split
  · intro _
    refine ⟨(ptB_iff _).2 ⟨by omega, by omega, by omega⟩, by omega, by omega, by omega, ?_⟩
    rw [Lib.encodeRuneZ_one (by omega) (by omega)]; rfl
  split
  · split
    · intro _
      refine ⟨(ptB_iff _).2 ⟨by simp only; omega, by simp only; omega, by simp only; omega⟩, by simp only; omega, by simp only; omega, by simp only; omega, ?_⟩
      simp only
      rw [Lib.encodeRuneZ_two (by omega) (by omega)]
      simp only [List.take, List.map]
      congr 1
      · omega
      · congr 1; omega
    · intro h; exact absurd ⟨rfl, Nat.le_refl _⟩ h
  split
  · split
    · intro _
      refine ⟨(ptB_iff _).2 ⟨by simp only; omega, by simp only; omega, by simp only; omega⟩, by simp only; omega, by simp only; omega, by simp only; omega, ?_⟩
      simp only
      rw [Lib.encodeRuneZ_three (by omega)]
      simp only [List.take, List.map]
      congr 1
      · omega
      · congr 1
        · omega
        · congr 1; omega
    · intro h; exact absurd ⟨rfl, Nat.le_refl _⟩ h
  split
  · split
    · intro _
      refine ⟨(ptB_iff _).2 ⟨by simp only; omega, by simp only; omega, by simp only; omega⟩, by simp only; omega, by simp only; omega, by simp only; omega, ?_⟩
      simp only
      rw [Lib.encodeRuneZ_four (by omega) (by omega)]
      simp only [List.take, List.map]
      congr 1
      · omega
      · congr 1
        · omega
        · congr 1
          · omega
          · congr 1; omega
    · intro h; exact absurd ⟨rfl, Nat.le_refl _⟩ h
  · intro h; exact absurd ⟨rfl, Nat.le_refl _⟩ h
theorem decN_one (n b0 b1 b2 b3 : Nat) (c : Int) (hp : ptB c = true) (hc : c ≤ 127) (e0 : (b0 : Int) = c) : Lib.decodeN n b0 b1 b2 b3 = (c.toNat, 1) := by
  obtain ⟨p0, p1, p2⟩ := (ptB_iff c).1 hp
  unfold Lib.decodeN
  rw [if_pos (by omega)]
  apply Prod.ext <;> simp only
  omega
theorem decN_two (n b0 b1 b2 b3 : Nat) (c : Int) (hp : ptB c = true) (h0 : 128 ≤ c) (h1 : c ≤ 2047) (hn : 2 ≤ n) (e0 : (b0 : Int) = 192 + c / 64) (e1 : (b1 : Int) = 128 + c % 64) : Lib.decodeN n b0 b1 b2 b3 = (c.toNat, 2) := by
  unfold Lib.decodeN
  rw [if_neg (by omega), if_pos (by omega), if_pos (by omega)]
  apply Prod.ext <;> simp only
  omega
theorem decN_three (n b0 b1 b2 b3 : Nat) (c : Int) (hp : ptB c = true) (h0 : 2048 ≤ c) (h1 : c ≤ 65535) (hn : 3 ≤ n) (e0 : (b0 : Int) = 224 + c / 4096) (e1 : (b1 : Int) = 128 + c / 64 % 64) (e2 : (b2 : Int) = 128 + c % 64) : Lib.decodeN n b0 b1 b2 b3 = (c.toNat, 3) := by
  obtain ⟨p0, p1, p2⟩ := (ptB_iff c).1 hp
  have hv : b0 % 16 * 4096 + b1 % 64 * 64 + b2 % 64 = c.toNat := by omega
  unfold Lib.decodeN
  rw [if_neg (by omega), if_neg (by omega), if_pos (by omega), hv, if_pos (by omega)]
theorem decN_four (n b0 b1 b2 b3 : Nat) (c : Int) (hp : ptB c = true) (h0 : 65536 ≤ c) (hn : 4 ≤ n) (e0 : (b0 : Int) = 240 + c / 262144) (e1 : (b1 : Int) = 128 + c / 4096 % 64) (e2 : (b2 : Int) = 128 + c / 64 % 64) (e3 : (b3 : Int) = 128 + c % 64) : Lib.decodeN n b0 b1 b2 b3 = (c.toNat, 4) := by
  obtain ⟨p0, p1, p2⟩ := (ptB_iff c).1 hp
  have hv : b0 % 8 * 262144 + b1 % 64 * 4096 + b2 % 64 * 64 + b3 % 64 = c.toNat := by omega
  unfold Lib.decodeN
  rw [if_neg (by omega), if_neg (by omega), if_neg (by omega), if_pos (by omega), hv, if_pos (by omega)]
theorem take4 (l : List UInt8) (k : Nat) (h1 : k ≤ l.length) (h2 : k ≤ 4) : ([gb l 0, gb l 1, gb l 2, gb l 3].take k) = (l.take k).map fun x => x.toNat := by
  match l, k with
  | _, 0 => rfl
  | a :: _, 1 => rfl
  | a :: b :: _, 2 => rfl
  | a :: b :: c :: _, 3 => rfl
  | a :: b :: c :: d :: _, 4 => rfl
  | [], k + 1 => simp at h1
  | [a], k + 2 => simp at h1
  | [a, b], k + 3 => simp at h1
  | [a, b, c], k + 4 => simp at h1
  | _ , k + 5 => omega
theorem map_back (l : List UInt8) : (l.map fun x => ((x.toNat : Nat) : Int)).map (fun x => x.toNat.toUInt8) = l := by
  rw [List.map_map]
  conv => rhs; rw [← List.map_id l]
  apply List.map_congr_left
  intro x _
  simp
theorem nx_sound (l : List UInt8) (h : 0 < (nx l).2) : ptB (nx l).1 = true ∧ (nx l).2 ≤ l.length ∧ (nx l).2 ≤ 4 ∧ l.take (nx l).2 = Lib.encodeRune (nx l).1 := by
  unfold nx at h ⊢
  split at h
  · simp at h
  · rename_i hc
    rw [if_neg hc]
    simp only [not_or] at hc
    have hl : 1 ≤ l.length := by
      cases l with
      | nil => exact absurd rfl hc.1
      | cons _ _ => simp
    obtain ⟨a, b, c, d, e⟩ := decN_sound l.length (gb l 0) (gb l 1) (gb l 2) (gb l 3) hl (gb_lt _ _) (gb_lt _ _) (gb_lt _ _) (gb_lt _ _) hc.2
    refine ⟨a, c, d, ?_⟩
    rw [take4 l _ c d, List.map_map] at e
    have e' := congrArg (List.map fun x => x.toNat.toUInt8) e
    have hb := map_back (l.take (decU l).2)
    unfold decU at hb ⊢
    rw [show ((fun x => ((x : Nat) : Int)) ∘ fun (x : UInt8) => x.toNat) = fun x => ((x.toNat : Nat) : Int) from rfl] at e'
    rw [hb] at e'
    exact e'.symm
theorem enc_z (r : Int) : (Lib.encodeRune r).map (fun x => ((x.toNat : Nat) : Int)) = Lib.encodeRuneZ r := by
  unfold Lib.encodeRune
  rw [List.map_map]
  conv => rhs; rw [← List.map_id (Lib.encodeRuneZ r)]
  apply List.map_congr_left
  intro x hx
  have := Lib.encodeRuneZ_byte r x hx
  simp
  omega
theorem enc_len (r : Int) : (Lib.encodeRune r).length = (Lib.encodeRuneZ r).length := by simp [Lib.encodeRune]
theorem enc_len_bd (r : Int) : 1 ≤ (Lib.encodeRune r).length ∧ (Lib.encodeRune r).length ≤ 4 := by rw [enc_len]; exact Lib.encodeRuneZ_length r
theorem gb_pre (l : List UInt8) (c : Int) (h : l.take (Lib.encodeRune c).length = Lib.encodeRune c) (i : Nat) (hi : i < (Lib.encodeRuneZ c).length) : ((gb l i : Nat) : Int) = (Lib.encodeRuneZ c)[i] := by
  have e := congrArg (List.map (fun (x : UInt8) => ((x.toNat : Nat) : Int))) h
  rw [enc_z, enc_len] at e
  have hi' : i < l.length := by
    have := congrArg List.length e
    simp at this
    omega
  have := congrArg (fun z => z[i]?) e
  simp [hi, hi'] at this
  simp [gb, List.getD, hi', this]
theorem pre_len (l e : List UInt8) (h : l.take e.length = e) : e.length ≤ l.length := by
  have := congrArg List.length h
  simp at this; omega
theorem nx_complete (l : List UInt8) (c : Int) (hp : ptB c = true) (h : l.take (Lib.encodeRune c).length = Lib.encodeRune c) : nx l = (c.toNat, (Lib.encodeRune c).length) := by
  obtain ⟨p0, p1, p2⟩ := (ptB_iff c).1 hp
  have hl := pre_len _ _ h
  have g := gb_pre l c h
  have hd : decU l = (c.toNat, (Lib.encodeRune c).length) := by
    rw [enc_len] at hl ⊢
    unfold decU
    by_cases h1 : c ≤ 127
    · rw [Lib.encodeRuneZ_one p0 h1]
      exact decN_one _ _ _ _ _ c hp h1 (by have := g 0 (by simp [Lib.encodeRuneZ_one p0 h1]); simpa [Lib.encodeRuneZ_one p0 h1] using this)
    by_cases h2 : c ≤ 2047
    · have E := Lib.encodeRuneZ_two (r := c) (by omega) h2
      have g0 := g 0 (by simp [E]); have g1 := g 1 (by simp [E])
      simp [E] at g0 g1 hl
      rw [E]
      exact decN_two _ _ _ _ _ c hp (by omega) h2 hl g0 g1
    by_cases h3 : c ≤ 65535
    · have E := Lib.encodeRuneZ_three (r := c) (by omega)
      have g0 := g 0 (by simp [E]); have g1 := g 1 (by simp [E]); have g2 := g 2 (by simp [E])
      simp [E] at g0 g1 g2 hl
      rw [E]
      exact decN_three _ _ _ _ _ c hp (by omega) h3 hl g0 g1 g2
    · have E := Lib.encodeRuneZ_four (r := c) (by omega) p1
      have g0 := g 0 (by simp [E]); have g1 := g 1 (by simp [E]); have g2 := g 2 (by simp [E]); have g3 := g 3 (by simp [E])
      simp [E] at g0 g1 g2 g3 hl
      rw [E]
      exact decN_four _ _ _ _ _ c hp (by omega) hl g0 g1 g2 g3
  unfold nx
  rw [hd, if_neg]
  rintro (rfl | ⟨h1, h2⟩)
  · have h1 := (enc_len_bd c).1
    rw [List.length_nil] at hl
    omega
  · simp only at h1 h2
    have : c = 65533 := by omega
    subst this
    rw [enc_len, Lib.encodeRuneZ_three (by omega)] at h2
    simp at h2
theorem nx_zero (l : List UInt8) (h : (nx l).2 = 0) : nx l = (0, 0) := by
  unfold nx at h ⊢
  split
  · rfl
  · rename_i hc
    rw [if_neg hc] at h
    simp only [not_or] at hc
    have hl : 1 ≤ l.length := by
      cases l with
      | nil => exact absurd rfl hc.1
      | cons _ _ => simp
    have := (decN_sound l.length (gb l 0) (gb l 1) (gb l 2) (gb l 3) hl (gb_lt _ _) (gb_lt _ _) (gb_lt _ _) (gb_lt _ _) hc.2).2.1
    unfold decU at h
    omega
theorem nx_bd (l : List UInt8) : (nx l).1 ≤ 1114111 ∧ (nx l).2 ≤ 4 ∧ (nx l).2 ≤ l.length := by
  by_cases h : 0 < (nx l).2
  · obtain ⟨a, b, c, _⟩ := nx_sound l h
    have := (ptB_iff _).1 a
    omega
  · rw [nx_zero l (by omega)]; simp
/- the reference's way -/
def leadZ (c : Int) : Int × Int :=
  if c < 128 then (1, c) else if 192 ≤ c ∧ c < 224 then (2, c - 192) else if 224 ≤ c ∧ c < 240 then (3, c - 224) else if 240 ≤ c ∧ c < 248 then (4, c - 240) else (0, 0)
def accZ (t : Int) (l : List UInt8) : Int := l.foldl (fun c b => 64 * c + (b.toNat : Int) % 64) t
theorem lead_acc (c : Int) (hp : ptB c = true) : ∃ z zs, Lib.encodeRune c = z :: zs ∧ (leadZ z.toNat).1 = (Lib.encodeRune c).length ∧ accZ (leadZ z.toNat).2 zs = c := by
  obtain ⟨p0, p1, p2⟩ := (ptB_iff c).1 hp
  have hz := enc_z c
  by_cases h1 : c ≤ 127
  · rw [Lib.encodeRuneZ_one p0 h1] at hz
    simp only [List.map_eq_cons_iff, List.map_eq_nil_iff] at hz
    obtain ⟨z, _, hE, hz, rfl⟩ := hz
    · rw [hE]
      refine ⟨z, [], rfl, ?_, ?_⟩ <;> simp only [leadZ, accZ, if_pos (show ((z.toNat : Nat) : Int) < 128 by omega)]
      · rfl
      · simp only [List.foldl]; omega
  by_cases h2 : c ≤ 2047
  · rw [Lib.encodeRuneZ_two (by omega) h2] at hz
    simp only [List.map_eq_cons_iff, List.map_eq_nil_iff] at hz
    obtain ⟨z, _, hE, hz, y, _, rfl, hy, rfl⟩ := hz
    · rw [hE]
      refine ⟨z, [y], rfl, ?_, ?_⟩ <;> simp only [leadZ, accZ, if_neg (show ¬ ((z.toNat : Nat) : Int) < 128 by omega), if_pos (show (192 : Int) ≤ (z.toNat : Int) ∧ (z.toNat : Int) < 224 by omega)]
      · rfl
      · simp only [List.foldl]; omega
  by_cases h3 : c ≤ 65535
  · rw [Lib.encodeRuneZ_three (by omega)] at hz
    simp only [List.map_eq_cons_iff, List.map_eq_nil_iff] at hz
    obtain ⟨z, _, hE, hz, y, _, rfl, hy, x, _, rfl, hx, rfl⟩ := hz
    · rw [hE]
      refine ⟨z, [y, x], rfl, ?_, ?_⟩ <;> simp only [leadZ, accZ, if_neg (show ¬ ((z.toNat : Nat) : Int) < 128 by omega), if_neg (show ¬ ((192 : Int) ≤ (z.toNat : Int) ∧ (z.toNat : Int) < 224) by omega), if_pos (show (224 : Int) ≤ (z.toNat : Int) ∧ (z.toNat : Int) < 240 by omega)]
      · rfl
      · simp only [List.foldl]; omega
  · rw [Lib.encodeRuneZ_four (by omega) p1] at hz
    simp only [List.map_eq_cons_iff, List.map_eq_nil_iff] at hz
    obtain ⟨z, _, hE, hz, y, _, rfl, hy, x, _, rfl, hx, u, _, rfl, hu, rfl⟩ := hz
    · rw [hE]
      refine ⟨z, [y, x, u], rfl, ?_, ?_⟩ <;> simp only [leadZ, accZ, if_neg (show ¬ ((z.toNat : Nat) : Int) < 128 by omega), if_neg (show ¬ ((192 : Int) ≤ (z.toNat : Int) ∧ (z.toNat : Int) < 224) by omega), if_neg (show ¬ ((224 : Int) ≤ (z.toNat : Int) ∧ (z.toNat : Int) < 240) by omega), if_pos (show (240 : Int) ≤ (z.toNat : Int) ∧ (z.toNat : Int) < 248 by omega)]
      · rfl
      · simp only [List.foldl]; omega
/-- what the reference comes to at a row of bytes whose lead says n, t -/
theorem refNx_yes (b : UInt8) (r : List UInt8) (n : Nat) (hn : (leadZ b.toNat).1 = n) (hl : n ≤ (b :: r).length) (c : Int) (hp : ptB c = true) (he : Lib.encodeRune c = (b :: r).take n) : nx (b :: r) = (c.toNat, n) := by
  have e := congrArg List.length he
  rw [List.length_take, Nat.min_eq_left hl] at e
  rw [nx_complete (b :: r) c hp (by rw [e]; exact he.symm), e]
theorem refNx_no (b : UInt8) (r : List UInt8) (h : (leadZ b.toNat).1 = 0 ∨ ((r.length : Int) + 1 < (leadZ b.toNat).1) ∨
    (∃ n : Nat, (leadZ b.toNat).1 = n ∧ (ptB (accZ (leadZ b.toNat).2 (r.take (n - 1))) = false ∨ Lib.encodeRune (accZ (leadZ b.toNat).2 (r.take (n - 1))) ≠ (b :: r).take n))) : nx (b :: r) = (0, 0) := by
  apply nx_zero
  rcases Nat.eq_zero_or_pos (nx (b :: r)).2 with h0 | h0
  · exact h0
  exfalso
  obtain ⟨hp, hl, h4, ht⟩ := nx_sound _ h0
  obtain ⟨z, zs, hE, hL, hA⟩ := lead_acc _ hp
  have hlen := congrArg List.length ht
  rw [List.length_take, Nat.min_eq_left hl] at hlen
  rw [← hlen] at hL
  obtain ⟨k, hk⟩ : ∃ k, (nx (b :: r)).2 = k + 1 := ⟨(nx (b :: r)).2 - 1, by omega⟩
  have ht' := ht
  rw [hk, List.take_succ_cons, hE] at ht
  injection ht with hz hzs
  subst hz
  rcases h with h | h | ⟨n, hn, h⟩
  · omega
  · rw [List.length_cons] at hl; omega
  · have : n = k + 1 := by omega
    subst this
    rw [Nat.add_sub_cancel, hzs, hA] at h
    rcases h with h | h
    · rw [hp] at h; cases h
    · apply h; rw [← hk, ht']
/- whole texts -/
def runesL (l : List UInt8) : Option (List Int) :=
  if h : l = [] then some [] else if h2 : (nx l).2 = 0 then none else (runesL (l.drop (nx l).2)).map (((nx l).1 : Int) :: ·)
termination_by l.length
decreasing_by
  have : l.length ≠ 0 := fun h0 => h (List.eq_nil_of_length_eq_zero h0)
  rw [List.length_drop]; omega
theorem runesL_nil : runesL [] = some [] := by rw [runesL]; simp
theorem runesL_none (l : List UInt8) (h : l ≠ []) (h2 : (nx l).2 = 0) : runesL l = none := by rw [runesL]; simp [h, h2]
theorem runesL_some (l : List UInt8) (h : l ≠ []) (h2 : (nx l).2 ≠ 0) : runesL l = (runesL (l.drop (nx l).2)).map (((nx l).1 : Int) :: ·) := by
  conv => lhs; rw [runesL]
  simp [h, h2]
def textL (l : List Int) : Option (List UInt8) := if l.all ptB then some (l.flatMap Lib.encodeRune) else none
theorem textL_snoc (l : List Int) (k : Nat) (h : k < l.length) (ha : (l.take k).all ptB = true) (h1 : ptB l[k] = true) : (l.take (k + 1)).all ptB = true := by
  rw [List.take_succ_eq_append_getElem h, List.all_append, ha]; simp [h1]
theorem textL_bad (l : List Int) (k : Nat) (h : k < l.length) (h1 : ptB l[k] = false) : textL l = none := by
  unfold textL
  rw [if_neg]
  intro ha
  have := List.all_eq_true.1 ha l[k] (List.getElem_mem _)
  rw [h1] at this; cases this
theorem textL_good (l : List Int) (ha : (l.take l.length).all ptB = true) : textL l = some (l.flatMap Lib.encodeRune) := by
  rw [List.take_length] at ha
  unfold textL; rw [if_pos ha]
theorem runes_text : ∀ (n : Nat) (l : List UInt8) (ks : List Int), l.length ≤ n → runesL l = some ks → textL ks = some l := by
  intro n
  induction n with
  | zero =>
    intro l ks hl h
    have : l = [] := List.eq_nil_of_length_eq_zero (by omega)
    subst this
    rw [runesL_nil] at h
    obtain rfl := Option.some.inj h
    rfl
  | succ n ih =>
    intro l ks hl h
    by_cases h0 : l = []
    · subst h0
      rw [runesL_nil] at h
      obtain rfl := Option.some.inj h
      rfl
    · by_cases h2 : (nx l).2 = 0
      · rw [runesL_none l h0 h2] at h; cases h
      · rw [runesL_some l h0 h2] at h
        obtain ⟨ks', hk, rfl⟩ := Option.map_eq_some_iff.1 h
        obtain ⟨a, b, c, d⟩ := nx_sound l (by omega)
        have := ih (l.drop (nx l).2) ks' (by rw [List.length_drop]; omega) hk
        unfold textL at this ⊢
        split at this
        · rename_i hall
          rw [List.all_cons, a, hall]
          simp only [Bool.and_self, if_true, List.flatMap_cons]
          rw [Option.some.inj this, ← d, List.take_append_drop]
        · cases this
theorem text_runes : ∀ (ks : List Int) (l : List UInt8), textL ks = some l → runesL l = some ks := by
  intro ks
  induction ks with
  | nil =>
    intro l h
    have : l = [] := by unfold textL at h; simpa using h.symm
    subst this
    exact runesL_nil
  | cons c ks ih =>
    intro l h
    unfold textL at h
    split at h
    · rename_i hall
      rw [List.all_cons, Bool.and_eq_true] at hall
      have hl := (Option.some.inj h).symm
      rw [List.flatMap_cons] at hl
      have hb := (enc_len_bd c).1
      have hn : nx l = (c.toNat, (Lib.encodeRune c).length) := nx_complete l c hall.1 (by rw [hl]; simp)
      have hc := (ptB_iff c).1 hall.1
      rw [runesL_some l (by rw [hl]; intro h0; have := congrArg List.length h0; rw [List.length_append, List.length_nil] at this; omega) (by rw [hn]; simp only; omega), hn]
      simp only
      rw [hl, List.drop_left, ih _ (by unfold textL; rw [if_pos hall.2])]
      simp
      omega
    · cases h
theorem runesL_len : ∀ (n : Nat) (l : List UInt8) (ks : List Int), l.length ≤ n → runesL l = some ks → ks.length ≤ l.length := by
  intro n
  induction n with
  | zero =>
    intro l ks hl h
    have : l = [] := List.eq_nil_of_length_eq_zero (by omega)
    subst this
    rw [runesL_nil] at h
    obtain rfl := Option.some.inj h
    simp
  | succ n ih =>
    intro l ks hl h
    by_cases h0 : l = []
    · subst h0
      rw [runesL_nil] at h
      obtain rfl := Option.some.inj h
      simp
    · by_cases h2 : (nx l).2 = 0
      · rw [runesL_none l h0 h2] at h; cases h
      · rw [runesL_some l h0 h2] at h
        obtain ⟨ks', hk, rfl⟩ := Option.map_eq_some_iff.1 h
        have hb := nx_bd l
        have := ih (l.drop (nx l).2) ks' (by rw [List.length_drop]; omega) hk
        rw [List.length_drop] at this
        rw [List.length_cons]
        omega
theorem flat_len (ks : List Int) : (ks.flatMap Lib.encodeRune).length ≤ 4 * ks.length := by
  induction ks with
  | nil => simp
  | cons c ks ih =>
    have := (enc_len_bd c).2
    rw [List.flatMap_cons, List.length_append, List.length_cons]; omega
theorem flat_take (l : List Int) (k : Nat) (h : k < l.length) : (l.take (k + 1)).flatMap Lib.encodeRune = (l.take k).flatMap Lib.encodeRune ++ Lib.encodeRune l[k] := by
  rw [List.take_succ_eq_append_getElem h, List.flatMap_append]; simp
/-- what is still to be read, A being read -/
def RInv (l : List UInt8) (A : List Int) (s : List UInt8) : Prop := runesL l = (runesL s).map (A ++ ·) ∧ A.length + s.length ≤ l.length
theorem rInv_start (l : List UInt8) : RInv l [] l := ⟨by cases runesL l <;> simp, by simp⟩
theorem rInv_step {l : List UInt8} {A : List Int} {s : List UInt8} (h : RInv l A s) (hs : s ≠ []) (h2 : (nx s).2 ≠ 0) : RInv l (A ++ [((nx s).1 : Int)]) (s.drop (nx s).2) := by
  obtain ⟨h, hl⟩ := h
  have hb := nx_bd s
  refine ⟨?_, by rw [List.length_append, List.length_drop]; simp; omega⟩
  rw [h, runesL_some s hs h2]
  cases runesL (s.drop (nx s).2) <;> simp
theorem rInv_no {l : List UInt8} {A : List Int} {s : List UInt8} (h : RInv l A s) (hs : s ≠ []) (h2 : (nx s).2 = 0) : runesL l = none := by
  rw [h.1, runesL_none s hs h2]; rfl
theorem rInv_end {l : List UInt8} {A : List Int} (h : RInv l A []) : runesL l = some A := by
  rw [h.1, runesL_nil]; simp
end Go.Proofs.Ytcdbnnfokophbaa
