/- Texts behind a law of this seat, in order: Math02, Math08h, Math08, Math08b. -/
import Derived.Test.YtbcnnjifndmdpaaDoorPb
import Derived.Lib.DecodeN
import Derived.Lib.RuneBytes
import Derived.Lib.Strings
import Derived.WalkKit
namespace Go.Proofs.YtbcnnjifndmdpaaDoor
open Go.RowKit Go
set_option linter.unusedVariables false
def ptB (c : Int) : Bool := decide (0 ≤ c) && decide (c ≤ 1114111) && (decide (c < 55296) || decide (57343 < c))
theorem ptB_iff (c : Int) : ptB c = true ↔ 0 ≤ c ∧ c ≤ 1114111 ∧ (c < 55296 ∨ 57343 < c) := by
  simp [ptB, and_assoc]
def gb (l : List UInt8) (i : Nat) : Nat := (l.getD i 0).toNat
theorem gb_lt (l : List UInt8) (i : Nat) : gb l i < 256 := (l.getD i 0).toNat_lt
def decU (l : List UInt8) : Nat × Nat := Lib.decodeN l.length (gb l 0) (gb l 1) (gb l 2) (gb l 3)
def nx (l : List UInt8) : Nat × Nat := if l = [] ∨ ((decU l).1 = 65533 ∧ (decU l).2 ≤ 1) then (0, 0) else decU l
theorem decN_sound (n b0 b1 b2 b3 : Nat) (hn : 1 ≤ n) (h0 : b0 < 256) (h1 : b1 < 256) (h2 : b2 < 256) (h3 : b3 < 256) (h : ¬ ((Lib.decodeN n b0 b1 b2 b3).1 = 65533 ∧ (Lib.decodeN n b0 b1 b2 b3).2 ≤ 1)) :
    ptB (Lib.decodeN n b0 b1 b2 b3).1 = true ∧ 1 ≤ (Lib.decodeN n b0 b1 b2 b3).2 ∧ (Lib.decodeN n b0 b1 b2 b3).2 ≤ n ∧ (Lib.decodeN n b0 b1 b2 b3).2 ≤ 4 ∧
    Lib.encodeRuneZ (Lib.decodeN n b0 b1 b2 b3).1 = ([b0, b1, b2, b3].take (Lib.decodeN n b0 b1 b2 b3).2).map fun x => ((x : Nat) : Int) := by
  revert h
  unfold Lib.decodeN
  split
  · intro _
    refine ⟨(ptB_iff _).2 ⟨by omega, by omega, by omega⟩, by omega, by omega, by omega, ?_⟩
    rw [Lib.encodeRuneZ_one (by omega) (by omega)]; rfl
  split
  · split
    · intro _
      refine ⟨(ptB_iff _).2 ⟨by simp only; omega, by simp only; omega, by simp only; omega⟩, by simp only; omega, by simp only; omega, by simp only; omega, ?_⟩
      simp only
      rw [Lib.encodeRuneZ_two (by omega) (by omega)]
      simp only [List.take, List.map]
      congr 1
      · omega
      · congr 1; omega
    · intro h; exact absurd ⟨rfl, Nat.le_refl _⟩ h
  split
  · split
    · intro _
      refine ⟨(ptB_iff _).2 ⟨by simp only; omega, by simp only; omega, by simp only; omega⟩, by simp only; omega, by simp only; omega, by simp only; omega, ?_⟩
      simp only
      rw [Lib.encodeRuneZ_three (by omega)]
      simp only [List.take, List.map]
      congr 1
      · omega
      · congr 1
        · omega
        · congr 1; omega
    · intro h; exact absurd ⟨rfl, Nat.le_refl _⟩ h
  split
  · split
    · intro _
      refine ⟨(ptB_iff _).2 ⟨by simp only; omega, by simp only; omega, by simp only; omega⟩, by simp only; omega, by simp only; omega, by simp only; omega, ?_⟩
      simp only
      rw [Lib.encodeRuneZ_four (by omega) (by omega)]
      simp only [List.take, List.map]
      congr 1
      · omega
      · congr 1
        · omega
        · congr 1
          · omega
          · congr 1; omega
    · intro h; exact absurd ⟨rfl, Nat.le_refl _⟩ h
  · intro h; exact absurd ⟨rfl, Nat.le_refl _⟩ h
theorem decN_one (n b0 b1 b2 b3 : Nat) (c : Int) (hp : ptB c = true) (hc : c ≤ 127) (e0 : (b0 : Int) = c) : Lib.decodeN n b0 b1 b2 b3 = (c.toNat, 1) := by
  obtain ⟨p0, p1, p2⟩ := (ptB_iff c).1 hp
  unfold Lib.decodeN
  rw [if_pos (by omega)]
  apply Prod.ext <;> simp only
  omega
theorem decN_two (n b0 b1 b2 b3 : Nat) (c : Int) (hp : ptB c = true) (h0 : 128 ≤ c) (h1 : c ≤ 2047) (hn : 2 ≤ n) (e0 : (b0 : Int) = 192 + c / 64) (e1 : (b1 : Int) = 128 + c % 64) : Lib.decodeN n b0 b1 b2 b3 = (c.toNat, 2) := by
  unfold Lib.decodeN
  rw [if_neg (by omega), if_pos (by omega), if_pos (by omega)]
  apply Prod.ext <;> simp only
  omega
theorem decN_three (n b0 b1 b2 b3 : Nat) (c : Int) (hp : ptB c = true) (h0 : 2048 ≤ c) (h1 : c ≤ 65535) (hn : 3 ≤ n) (e0 : (b0 : Int) = 224 + c / 4096) (e1 : (b1 : Int) = 128 + c / 64 % 64) (e2 : (b2 : Int) = 128 + c % 64) : Lib.decodeN n b0 b1 b2 b3 = (c.toNat, 3) := by
  obtain ⟨p0, p1, p2⟩ := (ptB_iff c).1 hp
  have hv : b0 % 16 * 4096 + b1 % 64 * 64 + b2 % 64 = c.toNat := by omega
  unfold Lib.decodeN
  rw [if_neg (by omega), if_neg (by omega), if_pos (by omega), hv, if_pos (by omega)]
theorem decN_four (n b0 b1 b2 b3 : Nat) (c : Int) (hp : ptB c = true) (h0 : 65536 ≤ c) (hn : 4 ≤ n) (e0 : (b0 : Int) = 240 + c / 262144) (e1 : (b1 : Int) = 128 + c / 4096 % 64) (e2 : (b2 : Int) = 128 + c / 64 % 64) (e3 : (b3 : Int) = 128 + c % 64) : Lib.decodeN n b0 b1 b2 b3 = (c.toNat, 4) := by
  obtain ⟨p0, p1, p2⟩ := (ptB_iff c).1 hp
  have hv : b0 % 8 * 262144 + b1 % 64 * 4096 + b2 % 64 * 64 + b3 % 64 = c.toNat := by omega
  unfold Lib.decodeN
  rw [if_neg (by omega), if_neg (by omega), if_neg (by omega), if_pos (by omega), hv, if_pos (by omega)]
theorem take4 (l : List UInt8) (k : Nat) (h1 : k ≤ l.length) (h2 : k ≤ 4) : ([gb l 0, gb l 1, gb l 2, gb l 3].take k) = (l.take k).map fun x => x.toNat := by
  match l, k with
  | _, 0 => rfl
  | a :: _, 1 => rfl
  | a :: b :: _, 2 => rfl
  | a :: b :: c :: _, 3 => rfl
  | a :: b :: c :: d :: _, 4 => rfl
  | [], k + 1 => simp at h1
  | [a], k + 2 => simp at h1
  | [a, b], k + 3 => simp at h1
  | [a, b, c], k + 4 => simp at h1
  | _ , k + 5 => omega
theorem map_back (l : List UInt8) : (l.map fun x => ((x.toNat : Nat) : Int)).map (fun x => x.toNat.toUInt8) = l := by
  rw [List.map_map]
  conv => rhs; rw [← List.map_id l]
  apply List.map_congr_left
  intro x _
  simp
theorem nx_sound (l : List UInt8) (h : 0 < (nx l).2) : ptB (nx l).1 = true ∧ (nx l).2 ≤ l.length ∧ (nx l).2 ≤ 4 ∧ l.take (nx l).2 = Lib.encodeRune (nx l).1 := by
  unfold nx at h ⊢
  split at h
  · simp at h
  · rename_i hc
    rw [if_neg hc]
    simp only [not_or] at hc
    have hl : 1 ≤ l.length := by
      cases l with
      | nil => exact absurd rfl hc.1
      | cons _ _ => simp
    obtain ⟨a, b, c, d, e⟩ := decN_sound l.length (gb l 0) (gb l 1) (gb l 2) (gb l 3) hl (gb_lt _ _) (gb_lt _ _) (gb_lt _ _) (gb_lt _ _) hc.2
    refine ⟨a, c, d, ?_⟩
    rw [take4 l _ c d, List.map_map] at e
    have e' := congrArg (List.map fun x => x.toNat.toUInt8) e
    have hb := map_back (l.take (decU l).2)
    unfold decU at hb ⊢
    rw [show ((fun x => ((x : Nat) : Int)) ∘ fun (x : UInt8) => x.toNat) = fun x => ((x.toNat : Nat) : Int) from rfl] at e'
    rw [hb] at e'
    exact e'.symm
theorem enc_z (r : Int) : (Lib.encodeRune r).map (fun x => ((x.toNat : Nat) : Int)) = Lib.encodeRuneZ r := by
  unfold Lib.encodeRune
  rw [List.map_map]
  conv => rhs; rw [← List.map_id (Lib.encodeRuneZ r)]
  apply List.map_congr_left
  intro x hx
  have := Lib.encodeRuneZ_byte r x hx
  simp
  omega
theorem enc_len (r : Int) : (Lib.encodeRune r).length = (Lib.encodeRuneZ r).length := by simp [Lib.encodeRune]
theorem enc_len_bd (r : Int) : 1 ≤ (Lib.encodeRune r).length ∧ (Lib.encodeRune r).length ≤ 4 := by rw [enc_len]; exact Lib.encodeRuneZ_length r
theorem gb_pre (l : List UInt8) (c : Int) (h : l.take (Lib.encodeRune c).length = Lib.encodeRune c) (i : Nat) (hi : i < (Lib.encodeRuneZ c).length) : ((gb l i : Nat) : Int) = (Lib.encodeRuneZ c)[i] := by
  have e := congrArg (List.map (fun (x : UInt8) => ((x.toNat : Nat) : Int))) h
  rw [enc_z, enc_len] at e
  have hi' : i < l.length := by
    have := congrArg List.length e
    simp at this
    omega
  have := congrArg (fun z => z[i]?) e
  simp [hi, hi'] at this
  simp [gb, List.getD, hi', this]
theorem pre_len (l e : List UInt8) (h : l.take e.length = e) : e.length ≤ l.length := by
  have := congrArg List.length h
  simp at this; omega
theorem nx_complete (l : List UInt8) (c : Int) (hp : ptB c = true) (h : l.take (Lib.encodeRune c).length = Lib.encodeRune c) : nx l = (c.toNat, (Lib.encodeRune c).length) := by
  obtain ⟨p0, p1, p2⟩ := (ptB_iff c).1 hp
  have hl := pre_len _ _ h
  have g := gb_pre l c h
  have hd : decU l = (c.toNat, (Lib.encodeRune c).length) := by
    rw [enc_len] at hl ⊢
    unfold decU
    by_cases h1 : c ≤ 127
    · rw [Lib.encodeRuneZ_one p0 h1]
      exact decN_one _ _ _ _ _ c hp h1 (by have := g 0 (by simp [Lib.encodeRuneZ_one p0 h1]); simpa [Lib.encodeRuneZ_one p0 h1] using this)
    by_cases h2 : c ≤ 2047
    · have E := Lib.encodeRuneZ_two (r := c) (by omega) h2
      have g0 := g 0 (by simp [E]); have g1 := g 1 (by simp [E])
      simp [E] at g0 g1 hl
      rw [E]
      exact decN_two _ _ _ _ _ c hp (by omega) h2 hl g0 g1
    by_cases h3 : c ≤ 65535
    · have E := Lib.encodeRuneZ_three (r := c) (by omega)
      have g0 := g 0 (by simp [E]); have g1 := g 1 (by simp [E]); have g2 := g 2 (by simp [E])
      simp [E] at g0 g1 g2 hl
      rw [E]
      exact decN_three _ _ _ _ _ c hp (by omega) h3 hl g0 g1 g2
    · have E := Lib.encodeRuneZ_four (r := c) (by omega) p1
      have g0 := g 0 (by simp [E]); have g1 := g 1 (by simp [E]); have g2 := g 2 (by simp [E]); have g3 := g 3 (by simp [E])
      simp [E] at g0 g1 g2 g3 hl
      rw [E]
      exact decN_four _ _ _ _ _ c hp (by omega) hl g0 g1 g2 g3
  unfold nx
  rw [hd, if_neg]
  rintro (rfl | ⟨h1, h2⟩)
  · have h1 := (enc_len_bd c).1
    rw [List.length_nil] at hl
    omega
  · simp only at h1 h2
    have : c = 65533 := by omega
    subst this
    rw [enc_len, Lib.encodeRuneZ_three (by omega)] at h2
    simp at h2
theorem nx_zero (l : List UInt8) (h : (nx l).2 = 0) : nx l = (0, 0) := by
  unfold nx at h ⊢
  split
  · rfl
  · rename_i hc
    rw [if_neg hc] at h
    simp only [not_or] at hc
    have hl : 1 ≤ l.length := by
      cases l with
      | nil => exact absurd rfl hc.1
      | cons _ _ => simp
    have := (decN_sound l.length (gb l 0) (gb l 1) (gb l 2) (gb l 3) hl (gb_lt _ _) (gb_lt _ _) (gb_lt _ _) (gb_lt _ _) hc.2).2.1
    unfold decU at h
    omega
theorem nx_bd (l : List UInt8) : (nx l).1 ≤ 1114111 ∧ (nx l).2 ≤ 4 ∧ (nx l).2 ≤ l.length := by
  by_cases h : 0 < (nx l).2
  · obtain ⟨a, b, c, _⟩ := nx_sound l h
    have := (ptB_iff _).1 a
    omega
  · rw [nx_zero l (by omega)]; simp
def runesL (l : List UInt8) : Option (List Int) :=
  if h : l = [] then some [] else if h2 : (nx l).2 = 0 then none else (runesL (l.drop (nx l).2)).map (((nx l).1 : Int) :: ·)
termination_by l.length
decreasing_by
  have : l.length ≠ 0 := fun h0 => h (List.eq_nil_of_length_eq_zero h0)
  rw [List.length_drop]; omega
theorem runesL_nil : runesL [] = some [] := by rw [runesL]; simp
theorem runesL_none (l : List UInt8) (h : l ≠ []) (h2 : (nx l).2 = 0) : runesL l = none := by rw [runesL]; simp [h, h2]
theorem runesL_some (l : List UInt8) (h : l ≠ []) (h2 : (nx l).2 ≠ 0) : runesL l = (runesL (l.drop (nx l).2)).map (((nx l).1 : Int) :: ·) := by
  conv => lhs; rw [runesL]
  simp [h, h2]
def textL (l : List Int) : Option (List UInt8) := if l.all ptB then some (l.flatMap Lib.encodeRune) else none
theorem textL_snoc (l : List Int) (k : Nat) (h : k < l.length) (ha : (l.take k).all ptB = true) (h1 : ptB l[k] = true) : (l.take (k + 1)).all ptB = true := by
  rw [List.take_succ_eq_append_getElem h, List.all_append, ha]; simp [h1]
theorem textL_bad (l : List Int) (k : Nat) (h : k < l.length) (h1 : ptB l[k] = false) : textL l = none := by
  unfold textL
  rw [if_neg]
  intro ha
  have := List.all_eq_true.1 ha l[k] (List.getElem_mem _)
  rw [h1] at this; cases this
theorem textL_good (l : List Int) (ha : (l.take l.length).all ptB = true) : textL l = some (l.flatMap Lib.encodeRune) := by
  rw [List.take_length] at ha
  unfold textL; rw [if_pos ha]
theorem runes_text : ∀ (n : Nat) (l : List UInt8) (ks : List Int), l.length ≤ n → runesL l = some ks → textL ks = some l := by
  intro n
  induction n with
  | zero =>
    intro l ks hl h
    have : l = [] := List.eq_nil_of_length_eq_zero (by omega)
    subst this
    rw [runesL_nil] at h
    obtain rfl := Option.some.inj h
    rfl
  | succ n ih =>
    intro l ks hl h
    by_cases h0 : l = []
    · subst h0
      rw [runesL_nil] at h
      obtain rfl := Option.some.inj h
      rfl
    · by_cases h2 : (nx l).2 = 0
      · rw [runesL_none l h0 h2] at h; cases h
      · rw [runesL_some l h0 h2] at h
        obtain ⟨ks', hk, rfl⟩ := Option.map_eq_some_iff.1 h
        obtain ⟨a, b, c, d⟩ := nx_sound l (by omega)
        have := ih (l.drop (nx l).2) ks' (by rw [List.length_drop]; omega) hk
        unfold textL at this ⊢
        split at this
        · rename_i hall
          rw [List.all_cons, a, hall]
          simp only [Bool.and_self, if_true, List.flatMap_cons]
          rw [Option.some.inj this, ← d, List.take_append_drop]
        · cases this
theorem text_runes : ∀ (ks : List Int) (l : List UInt8), textL ks = some l → runesL l = some ks := by
  intro ks
  induction ks with
  | nil =>
    intro l h
    have : l = [] := by unfold textL at h; simpa using h.symm
    subst this
    exact runesL_nil
  | cons c ks ih =>
    intro l h
    unfold textL at h
    split at h
    · rename_i hall
      rw [List.all_cons, Bool.and_eq_true] at hall
      have hl := (Option.some.inj h).symm
      rw [List.flatMap_cons] at hl
      have hb := (enc_len_bd c).1
      have hn : nx l = (c.toNat, (Lib.encodeRune c).length) := nx_complete l c hall.1 (by rw [hl]; simp)
      have hc := (ptB_iff c).1 hall.1
      rw [runesL_some l (by rw [hl]; intro h0; have := congrArg List.length h0; rw [List.length_append, List.length_nil] at this; omega) (by rw [hn]; simp only; omega), hn]
      simp only
      rw [hl, List.drop_left, ih _ (by unfold textL; rw [if_pos hall.2])]
      simp
      omega
    · cases h
theorem runesL_len : ∀ (n : Nat) (l : List UInt8) (ks : List Int), l.length ≤ n → runesL l = some ks → ks.length ≤ l.length := by
  intro n
  induction n with
  | zero =>
    intro l ks hl h
    have : l = [] := List.eq_nil_of_length_eq_zero (by omega)
    subst this
    rw [runesL_nil] at h
    obtain rfl := Option.some.inj h
    simp
  | succ n ih =>
    intro l ks hl h
    by_cases h0 : l = []
    · subst h0
      rw [runesL_nil] at h
      obtain rfl := Option.some.inj h
      simp
    · by_cases h2 : (nx l).2 = 0
      · rw [runesL_none l h0 h2] at h; cases h
      · rw [runesL_some l h0 h2] at h
        obtain ⟨ks', hk, rfl⟩ := Option.map_eq_some_iff.1 h
        have hb := nx_bd l
        have := ih (l.drop (nx l).2) ks' (by rw [List.length_drop]; omega) hk
        rw [List.length_drop] at this
        rw [List.length_cons]
        omega
theorem flat_len (ks : List Int) : (ks.flatMap Lib.encodeRune).length ≤ 4 * ks.length := by
  induction ks with
  | nil => simp
  | cons c ks ih =>
    have := (enc_len_bd c).2
    rw [List.flatMap_cons, List.length_append, List.length_cons]; omega
theorem flat_take (l : List Int) (k : Nat) (h : k < l.length) : (l.take (k + 1)).flatMap Lib.encodeRune = (l.take k).flatMap Lib.encodeRune ++ Lib.encodeRune l[k] := by
  rw [List.take_succ_eq_append_getElem h, List.flatMap_append]; simp
/-- what is still to be read, A being read -/
def RInv (l : List UInt8) (A : List Int) (s : List UInt8) : Prop := runesL l = (runesL s).map (A ++ ·) ∧ A.length + s.length ≤ l.length
theorem rInv_start (l : List UInt8) : RInv l [] l := ⟨by cases runesL l <;> simp, by simp⟩
theorem rInv_step {l : List UInt8} {A : List Int} {s : List UInt8} (h : RInv l A s) (hs : s ≠ []) (h2 : (nx s).2 ≠ 0) : RInv l (A ++ [((nx s).1 : Int)]) (s.drop (nx s).2) := by
  obtain ⟨h, hl⟩ := h
  have hb := nx_bd s
  refine ⟨?_, by rw [List.length_append, List.length_drop]; simp; omega⟩
  rw [h, runesL_some s hs h2]
  cases runesL (s.drop (nx s).2) <;> simp
theorem rInv_no {l : List UInt8} {A : List Int} {s : List UInt8} (h : RInv l A s) (hs : s ≠ []) (h2 : (nx s).2 = 0) : runesL l = none := by
  rw [h.1, runesL_none s hs h2]; rfl
theorem rInv_end {l : List UInt8} {A : List Int} (h : RInv l A []) : runesL l = some A := by
  rw [h.1, runesL_nil]; simp
end Go.Proofs.YtbcnnjifndmdpaaDoor
namespace Go.Proofs.YtbcnnjifndmdpaaDoor
open Go.RowKit
set_option linter.unusedVariables false
/-- a letter, a digit or a hyphen -/
def plainB (c : Int) : Bool := decide (97 ≤ c ∧ c ≤ 122) || decide (65 ≤ c ∧ c ≤ 90) || decide (48 ≤ c ∧ c ≤ 57) || decide (c = 45)
theorem plainB_iff (c : Int) : plainB c = true ↔ (97 ≤ c ∧ c ≤ 122) ∨ (65 ≤ c ∧ c ≤ 90) ∨ (48 ≤ c ∧ c ≤ 57) ∨ c = 45 := by
  unfold plainB; simp [or_assoc]
def ldhB (c : UInt8) : Bool := plainB c.toNat
def hostB (l : List UInt8) : Bool := decide (0 < l.length) && decide (l.length ≤ 63) && decide (gb l 0 ≠ 45) && decide (gb l (l.length - 1) ≠ 45) && l.all ldhB
theorem hostB_iff (l : List UInt8) : hostB l = true ↔ 0 < l.length ∧ l.length ≤ 63 ∧ gb l 0 ≠ 45 ∧ gb l (l.length - 1) ≠ 45 ∧ ∀ c ∈ l, ldhB c = true := by
  unfold hostB; simp [and_assoc]
def farB (l : List UInt8) : Bool := l.any fun c => decide (128 ≤ c.toNat)
theorem farB_no (l : List UInt8) : farB l = false ↔ ∀ c ∈ l, c.toNat < 128 := by
  unfold farB; simp
theorem low_all : ∀ n : Fin 256, lowB (lowB (UInt8.ofNat n.val)) = lowB (UInt8.ofNat n.val) ∧ ldhB (lowB (UInt8.ofNat n.val)) = ldhB (UInt8.ofNat n.val) ∧ ((lowB (UInt8.ofNat n.val)).toNat = 45 ↔ (UInt8.ofNat n.val).toNat = 45) ∧
    ((lowB (UInt8.ofNat n.val)).toNat < 128 ↔ (UInt8.ofNat n.val).toNat < 128) := by decide +kernel
theorem low_at (c : UInt8) : lowB (lowB c) = lowB c ∧ ldhB (lowB c) = ldhB c ∧ ((lowB c).toNat = 45 ↔ c.toNat = 45) ∧ ((lowB c).toNat < 128 ↔ c.toNat < 128) := by
  have h := low_all ⟨c.toNat, c.toNat_lt⟩
  simpa using h
theorem low_low (l : List UInt8) : (l.map lowB).map lowB = l.map lowB := by
  rw [List.map_map]; exact List.map_congr_left fun c _ => (low_at c).1
theorem gb_low (l : List UInt8) (i : Nat) : gb (l.map lowB) i = 45 ↔ gb l i = 45 := by
  unfold gb
  by_cases h : i < l.length
  · simp [h, (low_at l[i]).2.2.1]
  · simp [h]
theorem host_low (l : List UInt8) : hostB (l.map lowB) = hostB l := by
  apply Bool.eq_iff_iff.2
  rw [hostB_iff, hostB_iff, List.length_map]
  have h : (∀ c ∈ l.map lowB, ldhB c = true) ↔ ∀ c ∈ l, ldhB c = true := by
    constructor
    · intro h c hc; rw [← (low_at c).2.1]; exact h _ (List.mem_map_of_mem hc)
    · intro h c hc; obtain ⟨d, hd, rfl⟩ := List.mem_map.1 hc; rw [(low_at d).2.1]; exact h d hd
  rw [h, Ne, Ne, gb_low, gb_low]
theorem far_low (l : List UInt8) : farB (l.map lowB) = farB l := by
  have h : (farB (l.map lowB) = false) ↔ farB l = false := by
    rw [farB_no, farB_no]
    constructor
    · intro h c hc; exact (low_at c).2.2.2.1 (h _ (List.mem_map_of_mem hc))
    · intro h c hc; obtain ⟨d, hd, rfl⟩ := List.mem_map.1 hc; exact (low_at d).2.2.2.2 (h d hd)
  cases h1 : farB (l.map lowB) <;> cases h2 : farB l <;> simp_all
theorem host_near {l : List UInt8} (h : hostB l = true) : farB l = false := by
  rw [farB_no]
  intro c hc
  have := ((hostB_iff l).1 h).2.2.2.2 c hc
  unfold ldhB at this
  rw [plainB_iff] at this
  omega
end Go.Proofs.YtbcnnjifndmdpaaDoor
namespace Go.Proofs.YtbcnnjifndmdpaaDoor
open Go.RowKit
set_option linter.unusedVariables false
/-- a point that may be in a label -/
def ptOk (c : Int) : Bool := !((decide (c < 128) && !plainB c) || decide (c = 12290) || decide (c = 65294) || decide (c = 65377))
theorem ptOk_iff (c : Int) : ptOk c = true ↔ (c < 128 → plainB c = true) ∧ c ≠ 12290 ∧ c ≠ 65294 ∧ c ≠ 65377 := by
  unfold ptOk
  by_cases h : c < 128 <;> cases hp : plainB c <;> simp [h, and_assoc]
def fitB (l : List Int) : Bool := decide (l.getD 0 0 ≠ 45) && decide (l.getD (l.length - 1) 0 ≠ 45) && l.all ptOk
theorem fitB_iff (l : List Int) : fitB l = true ↔ l.getD 0 0 ≠ 45 ∧ l.getD (l.length - 1) 0 ≠ 45 ∧ ∀ c ∈ l, ptOk c = true := by
  unfold fitB; simp only [Bool.and_eq_true, decide_eq_true_eq, List.all_eq_true, and_assoc]
def sgn : List UInt8 := [120, 110, 45, 45]
def asciiE (s : List UInt8) : List UInt8 × Int :=
  if farB s = false then (if hostB s = true then (s.map lowB, 0) else ([], 7)) else
  match runesL (s.map lowB) with
  | none => ([], 5)
  | some ks => if fitB ks = false then ([], 7) else if (encE ks).2 ≠ 0 then ([], (encE ks).2) else if 59 < (encE ks).1.length then ([], 7) else (sgn ++ (encE ks).1, 0)
theorem asciiE_host {s : List UInt8} (h : farB s = false) (h2 : hostB s = true) : asciiE s = (s.map lowB, 0) := by unfold asciiE; rw [if_pos h, if_pos h2]
theorem asciiE_bad {s : List UInt8} (h : farB s = false) (h2 : hostB s = false) : asciiE s = ([], 7) := by unfold asciiE; rw [if_pos h, if_neg (by simp [h2])]
theorem asciiE_none {s : List UInt8} (h : farB s = true) (h2 : runesL (s.map lowB) = none) : asciiE s = ([], 5) := by unfold asciiE; rw [if_neg (by simp [h]), h2]
theorem asciiE_unfit {s : List UInt8} {ks : List Int} (h : farB s = true) (h2 : runesL (s.map lowB) = some ks) (h3 : fitB ks = false) : asciiE s = ([], 7) := by
  unfold asciiE; rw [if_neg (by simp [h]), h2]; simp only; rw [if_pos h3]
theorem asciiE_enc {s : List UInt8} {ks : List Int} {x : Int} (h : farB s = true) (h2 : runesL (s.map lowB) = some ks) (h3 : fitB ks = true) (h4 : (encE ks).2 = x) (hx : x ≠ 0) : asciiE s = ([], x) := by
  unfold asciiE; rw [if_neg (by simp [h]), h2]; simp only; rw [if_neg (by simp [h3]), if_pos (by rw [h4]; exact hx), h4]
theorem asciiE_long {s : List UInt8} {ks : List Int} (h : farB s = true) (h2 : runesL (s.map lowB) = some ks) (h3 : fitB ks = true) (h4 : (encE ks).2 = 0) (h5 : 59 < (encE ks).1.length) : asciiE s = ([], 7) := by
  unfold asciiE; rw [if_neg (by simp [h]), h2]; simp only; rw [if_neg (by simp [h3]), if_neg (by simp [h4]), if_pos h5]
theorem asciiE_ok {s : List UInt8} {ks : List Int} (h : farB s = true) (h2 : runesL (s.map lowB) = some ks) (h3 : fitB ks = true) (h4 : (encE ks).2 = 0) (h5 : ¬ 59 < (encE ks).1.length) : asciiE s = (sgn ++ (encE ks).1, 0) := by
  unfold asciiE; rw [if_neg (by simp [h]), h2]; simp only; rw [if_neg (by simp [h3]), if_neg (by simp [h4]), if_neg h5]
def uniE (s : List UInt8) : List UInt8 :=
  if hostB (s.map lowB) = true ∧ (s.map lowB).take 4 = sgn then
    if (decE ((s.map lowB).drop 4)).2 ≠ 0 then s else
    match textL (decE ((s.map lowB).drop 4)).1 with
    | none => s
    | some u => if asciiE u = (s.map lowB, 0) then u else s
  else s
theorem uniE_plain {s : List UInt8} (h : ¬ (hostB (s.map lowB) = true ∧ (s.map lowB).take 4 = sgn)) : uniE s = s := by unfold uniE; rw [if_neg h]
theorem uniE_dec {s : List UInt8} (h : hostB (s.map lowB) = true) (h1 : (s.map lowB).take 4 = sgn) (h2 : (decE ((s.map lowB).drop 4)).2 ≠ 0) : uniE s = s := by unfold uniE; rw [if_pos ⟨h, h1⟩, if_pos h2]
theorem uniE_none {s : List UInt8} (h : hostB (s.map lowB) = true) (h1 : (s.map lowB).take 4 = sgn) (h2 : (decE ((s.map lowB).drop 4)).2 = 0) (h3 : textL (decE ((s.map lowB).drop 4)).1 = none) : uniE s = s := by
  unfold uniE; rw [if_pos ⟨h, h1⟩, if_neg (by simp [h2]), h3]
theorem uniE_no {s u : List UInt8} (h : hostB (s.map lowB) = true) (h1 : (s.map lowB).take 4 = sgn) (h2 : (decE ((s.map lowB).drop 4)).2 = 0) (h3 : textL (decE ((s.map lowB).drop 4)).1 = some u) (h4 : asciiE u ≠ (s.map lowB, 0)) : uniE s = s := by
  unfold uniE; rw [if_pos ⟨h, h1⟩, if_neg (by simp [h2]), h3]; simp only; rw [if_neg h4]
theorem uniE_yes {s u : List UInt8} (h : hostB (s.map lowB) = true) (h1 : (s.map lowB).take 4 = sgn) (h2 : (decE ((s.map lowB).drop 4)).2 = 0) (h3 : textL (decE ((s.map lowB).drop 4)).1 = some u) (h4 : asciiE u = (s.map lowB, 0)) : uniE s = u := by
  unfold uniE; rw [if_pos ⟨h, h1⟩, if_neg (by simp [h2]), h3]; simp only; rw [if_pos h4]
theorem asciiE_low (l : List UInt8) : asciiE (l.map lowB) = asciiE l := by
  unfold asciiE; rw [far_low, host_low, low_low]
end Go.Proofs.YtbcnnjifndmdpaaDoor
namespace Go.Proofs.YtbcnnjifndmdpaaDoor
open Go.RowKit
set_option linter.unusedVariables false
theorem rnd_min (m basic : Int) : ∀ (l : List Int) (st st2 : St), rnd m basic l st = some st2 → (st.1.length : Int) + (st2.2.2.2 - st.2.2.2) ≤ st2.1.length
  | [], st, st2, h => by
    unfold rnd at h
    obtain rfl := Option.some.inj h
    omega
  | c :: r, st, st2, h => by
    by_cases h1 : 4294967295 < upS m c st.2.1
    · rw [rnd_ov h1] at h; cases h
    · by_cases hc : c = m
      · rw [rnd_put h1 hc] at h
        have i2 := rnd_min m basic r _ st2 h
        have hne : 0 < (figs (upS m c st.2.1) 1 st.2.2.1).length := List.length_pos_iff.2 (figs_ne _ _ _)
        simp only [List.length_append] at i2
        push_cast at i2
        omega
      · rw [rnd_pass h1 hc] at h
        exact rnd_min m basic r (st.1, upS m c st.2.1, st.2.2.1, st.2.2.2) st2 h
theorem encL_min (l : List Int) (basic : Int) : ∀ (f : Nat) (n : Int) (st : St) (o : List UInt8), encL l basic f n st = some o → (st.1.length : Int) + (l.length - st.2.2.2) ≤ o.length
  | 0, n, st, o, h => by unfold encL at h; cases h
  | f + 1, n, st, o, h => by
    by_cases hd : st.2.2.2 < l.length
    · cases hr : rnd (leastI l n) basic l (st.1, st.2.1 + (leastI l n - n) * (st.2.2.2 + 1), st.2.2.1, st.2.2.2) with
      | none => rw [encL_no hd hr] at h; cases h
      | some st2 =>
        rw [encL_go hd hr] at h
        have i2 := rnd_min _ _ _ _ _ hr
        have := encL_min l basic f (leastI l n + 1) (st2.1, st2.2.1 + 1, st2.2.2.1, st2.2.2.2) o h
        simp only at this i2
        omega
    · rw [encL_end hd] at h
      obtain rfl := Option.some.inj h
      omega
theorem encO_min {l : List Int} {o : List UInt8} (h : encO l = some o) : (hyp (basL l)).length + l.length ≤ o.length + (basL l).length := by
  have := encL_min l ((basL l).length : Int) (l.length + 1) 128 (hyp (basL l), 0, 72, ((basL l).length : Int)) o h
  simp only at this
  omega
theorem hyp_ge (l : List UInt8) : l.length ≤ (hyp l).length := by
  unfold hyp; split <;> simp_all
/-- what is written, taken apart -/
theorem encE_parts {l : List Int} {P : List UInt8} (h : encE l = (P, 0)) (hP : P.length ≤ 59) : l.length ≤ 59 ∧ (∀ x ∈ l, 0 ≤ x ∧ x ≤ 1114111) ∧ ∃ F, P = hyp (basL l) ++ F ∧ Figs F ∧ decE P = (l, 0) ∧ ((∃ x ∈ l, 128 ≤ x) → F ≠ []) := by
  have h0 := h
  unfold encE at h
  by_cases h1 : 4096 < l.length
  · rw [if_pos h1] at h; cases h
  rw [if_neg h1] at h
  by_cases h2 : offB l = true
  · rw [if_pos h2] at h; cases h
  rw [if_neg h2] at h
  have h2' : offB l = false := by simpa using h2
  have hx : ∀ x ∈ l, 0 ≤ x ∧ x ≤ 1114111 := by
    unfold offB at h2'
    rw [List.any_eq_false] at h2'
    intro x hx
    have := h2' x hx
    simp at this
    omega
  cases ho : encO l with
  | none => rw [ho] at h; cases h
  | some o =>
    rw [ho] at h
    obtain rfl : o = P := by injection h
    have hm := encO_min ho
    have hg := hyp_ge (basL l)
    have hl : l.length ≤ 59 := by omega
    obtain ⟨F, he, hF, hd⟩ := back_top id spell_id l (by omega) hx (bd_150 (by omega) hx)
    rw [ho] at he
    obtain rfl := Option.some.inj he
    refine ⟨hl, hx, F, rfl, hF, ?_, ?_⟩
    · have := hd (by omega)
      rwa [List.map_id] at this
    · rintro ⟨x, hxl, h128⟩ hnil
      subst hnil
      have hbl := basL_len l
      have hc : cnt l 128 < l.length := by
        unfold cnt
        have : l.countP (fun c => decide (c < 128)) < l.length := by
          rcases Nat.lt_or_ge (l.countP (fun c => decide (c < 128))) l.length with h | h
          · exact h
          · exfalso
            have e : l.countP (fun c => decide (c < 128)) = l.length := Nat.le_antisymm List.countP_le_length h
            have := List.countP_eq_length.1 e x hxl
            simp at this
            omega
        omega
      rw [List.append_nil] at hm
      omega
theorem decL_len : ∀ (f : Nat) (r : List UInt8) (st : Ds), (decL f r st).1.length ≤ st.1.length + r.length
  | 0, r, st => by unfold decL; simp
  | f + 1, r, st => by
    unfold decL
    by_cases hr : r = []
    · rw [if_pos hr]; simp
    rw [if_neg hr]
    by_cases hn : (numb st.2.2.2.1 r 1 0 1).1 ≠ 0
    · rw [if_pos hn]; simp
    rw [if_neg hn]
    have hb := numb_less st.2.2.2.1 r 1 0 1 (by omega) (by omega) (by omega)
    obtain ⟨p, hp, he⟩ := hb.2.2.1 (by simpa using hn)
    have hl := congrArg List.length he
    rw [List.length_append] at hl
    have hp0 : 0 < p.length := List.length_pos_iff.2 hp
    by_cases h : (putS (numb st.2.2.2.1 r 1 0 1).2.1 st).1 ≠ 0
    · rw [if_pos h]; simp
    rw [if_neg h]
    have ih := decL_len f (numb st.2.2.2.1 r 1 0 1).2.2 (putS (numb st.2.2.2.1 r 1 0 1).2.1 st).2
    have h3 : (putS (numb st.2.2.2.1 r 1 0 1).2.1 st).2.1.length ≤ st.1.length + 1 := by
      unfold putS
      split
      · simp
      split
      · simp
      split
      · simp
      · simp only [insI, List.length_append, List.length_cons]
        rw [List.length_take, List.length_drop]
        omega
    omega
theorem decE_len (s : List UInt8) : (decE s).1.length ≤ s.length := by
  unfold decE
  split
  · simp
  split
  · simp
  split
  · simp
  · have := decL_len s.length (s.drop (hyf s)) (ptsL (preL s), 128, 0, 72, true)
    have h1 := hyf_le s
    simp only [ptsL_len2, List.length_drop] at this
    have h2 : (preL s).length ≤ hyf s := by unfold preL; rw [List.length_take]; omega
    omega
theorem enc_small {x : Int} (h0 : 0 ≤ x) (h1 : x < 128) : Lib.encodeRune x = [UInt8.ofNat x.toNat] := by
  unfold Lib.encodeRune
  rw [Lib.encodeRuneZ_one h0 (by omega)]
  rfl
theorem textL_some {ks : List Int} {t : List UInt8} (h : textL ks = some t) : ks.all ptB = true ∧ t = ks.flatMap Lib.encodeRune := by
  unfold textL at h
  split at h
  · rename_i h1; exact ⟨h1, (Option.some.inj h).symm⟩
  · cases h
theorem runes_far {t : List UInt8} {ks : List Int} (h : runesL t = some ks) (hf : farB t = true) : ∃ x ∈ ks, 128 ≤ x := by
  obtain ⟨hp, rfl⟩ := textL_some (runes_text t.length t ks (Nat.le_refl _) h)
  unfold farB at hf
  rw [List.any_eq_true] at hf
  obtain ⟨c, hc, h1⟩ := hf
  obtain ⟨x, hx, hcx⟩ := List.mem_flatMap.1 hc
  refine ⟨x, hx, ?_⟩
  apply Decidable.byContradiction
  intro hlt
  have hpx := (ptB_iff x).1 (List.all_eq_true.1 hp x hx)
  rw [enc_small hpx.1 (by omega)] at hcx
  obtain rfl := List.mem_singleton.1 hcx
  have : (UInt8.ofNat x.toNat).toNat = x.toNat := by rw [UInt8.toNat_ofNat']; omega
  rw [this] at h1
  simp at h1
  omega
theorem runes_small {t : List UInt8} {ks : List Int} (h : runesL t = some ks) {x : Int} (hx : x ∈ ks) (h1 : x < 128) : 0 ≤ x ∧ UInt8.ofNat x.toNat ∈ t := by
  obtain ⟨hp, rfl⟩ := textL_some (runes_text t.length t ks (Nat.le_refl _) h)
  have hpx := (ptB_iff x).1 (List.all_eq_true.1 hp x hx)
  refine ⟨hpx.1, List.mem_flatMap.2 ⟨x, hx, ?_⟩⟩
  rw [enc_small hpx.1 h1]
  simp
theorem fig_ldh0 : ∀ k : Fin 36, ldhB (figC (k.val : Int)) = true ∧ lowB (figC (k.val : Int)) = figC (k.val : Int) ∧ (figC (k.val : Int)).toNat ≠ 45 := by decide +kernel
theorem figs_ldh {F : List UInt8} (hF : Figs F) : ∀ c ∈ F, ldhB c = true ∧ lowB c = c ∧ c.toNat ≠ 45 := by
  intro c hc
  obtain ⟨f, h0, h1, rfl⟩ := hF c hc
  have := fig_ldh0 ⟨f.toNat, by omega⟩
  simp only [Int.toNat_of_nonneg h0] at this
  exact this
theorem sgn_ldh : ∀ c ∈ sgn, ldhB c = true ∧ lowB c = c := by decide +kernel
/-- what a label that is not plain is written as -/
structure FarIs (s : List UInt8) (ks : List Int) (P : List UInt8) : Prop where
  runes : runesL (s.map lowB) = some ks
  dec : decE P = (ks, 0)
  ldh : ∀ c ∈ sgn ++ P, ldhB c = true ∧ lowB c = c
  last : gb (sgn ++ P) ((sgn ++ P).length - 1) ≠ 45
  len : P.length ≤ 59
theorem far_is {s a : List UInt8} (hf : farB s = true) (h : asciiE s = (a, 0)) : ∃ ks P, a = sgn ++ P ∧ FarIs s ks P := by
  cases hr : runesL (s.map lowB) with
  | none => rw [asciiE_none hf hr] at h; cases h
  | some ks =>
    cases hfit : fitB ks with
    | false => rw [asciiE_unfit hf hr hfit] at h; cases h
    | true =>
      by_cases he : (encE ks).2 = 0
      · by_cases hl : 59 < (encE ks).1.length
        · rw [asciiE_long hf hr hfit he hl] at h; cases h
        · rw [asciiE_ok hf hr hfit he hl] at h
          have hee : encE ks = ((encE ks).1, 0) := by rw [← he]
          obtain ⟨hn, hx, F, hP, hF, hd, hne⟩ := encE_parts hee (by omega)
          have hfar := runes_far hr (by rw [far_low]; exact hf)
          have hF0 := hne hfar
          have hq := figs_ldh hF
          have hok := ((fitB_iff ks).1 hfit).2.2
          have hbas : ∀ c ∈ hyp (basL ks), ldhB c = true ∧ lowB c = c := by
            intro c hc
            have hb : c ∈ basL ks ∨ c = 45 := by
              unfold hyp at hc
              split at hc
              · cases hc
              · rcases List.mem_append.1 hc with hc | hc
                · exact .inl hc
                · exact .inr (List.mem_singleton.1 hc)
            rcases hb with hb | rfl
            · unfold basL at hb
              obtain ⟨x, hxm, rfl⟩ := List.mem_map.1 hb
              obtain ⟨hxk, hx1⟩ := List.mem_filter.1 hxm
              have hx1' : x < 128 := by simpa using hx1
              obtain ⟨h0, hmem⟩ := runes_small hr hxk hx1'
              obtain ⟨d, _, hd2⟩ := List.mem_map.1 hmem
              constructor
              · have hp := ((ptOk_iff x).1 (hok x hxk)).1 hx1'
                unfold ldhB
                have : ((UInt8.ofNat x.toNat).toNat : Int) = x := by rw [UInt8.toNat_ofNat']; omega
                rw [this]; exact hp
              · rw [← hd2]; exact (low_at d).1
            · decide +kernel
          refine ⟨ks, (encE ks).1, by injection h with h1 h2; exact h1.symm, hr, hd, ?_, ?_, by omega⟩
          · intro c hc
            rw [hP] at hc
            rcases List.mem_append.1 hc with hc | hc
            · exact sgn_ldh c hc
            · rcases List.mem_append.1 hc with hc | hc
              · exact hbas c hc
              · exact ⟨(hq c hc).1, (hq c hc).2.1⟩
          · rw [hP, ← List.append_assoc]
            have hFl : 0 < F.length := List.length_pos_iff.2 hF0
            have hlast : gb ((sgn ++ hyp (basL ks)) ++ F) (((sgn ++ hyp (basL ks)) ++ F).length - 1) = (F[F.length - 1]).toNat := by
              unfold gb
              rw [List.length_append, List.getD_eq_getElem?_getD, List.getElem?_append_right (by omega)]
              rw [show (sgn ++ hyp (basL ks)).length + F.length - 1 - (sgn ++ hyp (basL ks)).length = F.length - 1 by omega]
              rw [List.getElem?_eq_getElem (by omega)]
              rfl
            rw [hlast]
            exact (hq _ (List.getElem_mem _)).2.2
      · rw [asciiE_enc hf hr hfit rfl he] at h
        injection h with h1 h2
        exact absurd h2 he
theorem map_fix {l : List UInt8} (h : ∀ c ∈ l, lowB c = c) : l.map lowB = l := by
  conv => rhs; rw [← List.map_id l]
  exact List.map_congr_left h
theorem far_host {s : List UInt8} {ks : List Int} {P : List UInt8} (h : FarIs s ks P) : hostB (sgn ++ P) = true ∧ (sgn ++ P).map lowB = sgn ++ P ∧ (sgn ++ P).length ≤ 63 := by
  have hl : (sgn ++ P).length = 4 + P.length := by simp [sgn]; omega
  have := h.len
  refine ⟨(hostB_iff _).2 ⟨by omega, by omega, ?_, h.last, fun c hc => (h.ldh c hc).1⟩, map_fix fun c hc => (h.ldh c hc).2, by omega⟩
  simp [sgn, gb]
/-- what is accepted stays itself -/
theorem ascii_fixed {s a : List UInt8} (h : asciiE s = (a, 0)) : asciiE a = (a, 0) ∧ a.length ≤ 63 ∧ hostB a = true ∧ a.map lowB = a := by
  cases hf : farB s with
  | false =>
    cases hh : hostB s with
    | false => rw [asciiE_bad hf hh] at h; cases h
    | true =>
      rw [asciiE_host hf hh] at h
      injection h with h1 h2
      subst h1
      have hh2 : hostB (s.map lowB) = true := by rw [host_low]; exact hh
      refine ⟨?_, ((hostB_iff _).1 hh2).2.1, hh2, low_low s⟩
      rw [asciiE_low, asciiE_host hf hh]
  | true =>
    obtain ⟨ks, P, rfl, hi⟩ := far_is hf h
    obtain ⟨h1, h2, h3⟩ := far_host hi
    refine ⟨?_, h3, h1, h2⟩
    rw [asciiE_host (host_near h1) h1, h2]
theorem ascii_len {s : List UInt8} : (asciiE s).1.length ≤ 63 := by
  by_cases h : (asciiE s).2 = 0
  · have : asciiE s = ((asciiE s).1, 0) := by rw [← h]
    exact (ascii_fixed this).2.1
  · have : (asciiE s).1 = [] := by
      unfold asciiE at h ⊢
      split
      · rename_i h1
        rw [if_pos h1] at h
        split
        · rename_i h2; rw [if_pos h2] at h; simp at h
        · rfl
      · rename_i h1
        rw [if_neg h1] at h
        split
        · rfl
        · rename_i ks hks
          rw [hks] at h
          simp only at h
          split
          · rfl
          · rename_i h2
            rw [if_neg h2] at h
            split
            · rfl
            · rename_i h3
              rw [if_neg h3] at h
              split
              · rfl
              · rename_i h4
                rw [if_neg h4] at h
                simp at h
    rw [this]; simp
/-- what had to be written otherwise is read as it was -/
theorem ascii_back {s a : List UInt8} (hf : farB s = true) (h : asciiE s = (a, 0)) : uniE a = s.map lowB := by
  obtain ⟨ks, P, rfl, hi⟩ := far_is hf h
  obtain ⟨h1, h2, h3⟩ := far_host hi
  have hd : ((sgn ++ P).map lowB).drop 4 = P := by rw [h2]; rfl
  have ht : ((sgn ++ P).map lowB).take 4 = sgn := by rw [h2]; rfl
  refine uniE_yes (by rw [h2]; exact h1) ht (by rw [hd, hi.dec]) (by rw [hd, hi.dec]; exact runes_text _ _ _ (Nat.le_refl _) hi.runes) ?_
  rw [asciiE_low, h, h2]
end Go.Proofs.YtbcnnjifndmdpaaDoor
