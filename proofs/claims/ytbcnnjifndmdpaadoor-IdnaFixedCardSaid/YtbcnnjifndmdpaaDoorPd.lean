/- Texts behind a law of this seat, in order: Math10, Math10b. -/
import Derived.Test.YtbcnnjifndmdpaaDoorPb
import Derived.Test.YtbcnnjifndmdpaaDoorPc
import Derived.Lib.DecodeN
import Derived.Lib.Join
import Derived.Lib.MapLaws
import Derived.Lib.RuneBytes
import Derived.Lib.Split
import Derived.Lib.SplitLaws
import Derived.Lib.Strings
import Derived.WalkKit
namespace Go.Proofs.YtbcnnjifndmdpaaDoor
open Go.RowKit Go
set_option linter.unusedVariables false
def nuD (c : Int) : Int := if c = 12290 ∨ c = 65294 ∨ c = 65377 then 46 else c
theorem nuD_pos {c : Int} (h : 0 ≤ c) : 0 ≤ nuD c := by unfold nuD; split <;> omega
theorem nuD_le {c : Int} (h : c ≤ 2147483647) : nuD c ≤ 2147483647 := by unfold nuD; split <;> omega
theorem nuD_small {c : Int} (h : c < 128) : nuD c = c := by unfold nuD; rw [if_neg (by omega)]
theorem mapD_flat (f : Int → Int) (hf : ∀ x, 0 ≤ x → 0 ≤ f x) : ∀ (ks : List Int) (l : List UInt8), textL ks = some l → Lib.mapD f l = (ks.map f).flatMap Lib.encodeRune := by
  intro ks
  induction ks with
  | nil =>
    intro l h
    obtain ⟨_, rfl⟩ := textL_some h
    rfl
  | cons c r ih =>
    intro l h
    obtain ⟨ha, rfl⟩ := textL_some h
    rw [List.all_cons, Bool.and_eq_true] at ha
    have hb := enc_len_bd c
    have hne : (c :: r).flatMap Lib.encodeRune ≠ [] := by
      intro e
      have := congrArg List.length e
      rw [List.flatMap_cons, List.length_append, List.length_nil] at this
      omega
    have hn : nx ((c :: r).flatMap Lib.encodeRune) = (c.toNat, (Lib.encodeRune c).length) := nx_complete _ c ha.1 (by simp)
    have hd : Lib.decodeL ((c :: r).flatMap Lib.encodeRune) = (c.toNat, (Lib.encodeRune c).length) := by
      have : nx ((c :: r).flatMap Lib.encodeRune) = decU ((c :: r).flatMap Lib.encodeRune) := by
        unfold nx at hn ⊢
        split
        · rename_i h1
          rw [if_pos h1] at hn
          have h3 : 0 = (Lib.encodeRune c).length := congrArg Prod.snd hn
          omega
        · rfl
      rw [hn] at this
      rw [Lib.decodeL_N]
      exact this.symm
    have hc := (ptB_iff c).1 ha.1
    rw [Lib.mapD_step f _ hne, hd]
    have hct : ((c.toNat : Nat) : Int) = c := by omega
    rw [hct, if_pos (hf c hc.1)]
    have hr : textL r = some (r.flatMap Lib.encodeRune) := textL_good r (by rw [List.take_length]; exact ha.2)
    have := ih _ hr
    simp only [List.flatMap_cons, List.map_cons]
    rw [List.drop_left, this]
theorem mapD_runes (f : Int → Int) (hf : ∀ x, 0 ≤ x → 0 ≤ f x) {ks : List Int} {l : List UInt8} (h : runesL l = some ks) : Lib.mapD f l = (ks.map f).flatMap Lib.encodeRune :=
  mapD_flat f hf ks l (runes_text l.length l ks (Nat.le_refl _) h)
def spl : List UInt8 → List (List UInt8)
  | [] => [[]]
  | c :: r => if c = 46 then [] :: spl r else match spl r with
    | x :: t => (c :: x) :: t
    | [] => [[c]]
theorem spl_ne (l : List UInt8) : spl l ≠ [] := by
  cases l with
  | nil => simp [spl]
  | cons c r =>
    unfold spl
    split
    · simp
    · split <;> simp
theorem spl_dot (l r : List UInt8) (h : (46 : UInt8) ∉ l) : spl (l ++ 46 :: r) = l :: spl r := by
  induction l with
  | nil => simp [spl]
  | cons c t ih =>
    have h1 : ¬ c = 46 := fun e => h (by rw [e]; simp)
    have h2 : (46 : UInt8) ∉ t := fun e => h (by simp [e])
    rw [List.cons_append, spl, if_neg h1, ih h2]
theorem spl_none (l : List UInt8) (h : (46 : UInt8) ∉ l) : spl l = [l] := by
  induction l with
  | nil => simp [spl]
  | cons c t ih =>
    have h1 : ¬ c = 46 := fun e => h (by rw [e]; simp)
    have h2 : (46 : UInt8) ∉ t := fun e => h (by simp [e])
    rw [spl, if_neg h1, ih h2]
theorem split_spl : ∀ (n : Nat) (l : List UInt8), l.length ≤ n → Lib.splitK [46] 0 (Lib.count l [46]) l = spl l := by
  intro n
  induction n with
  | zero =>
    intro l h
    obtain rfl := List.eq_nil_of_length_eq_zero (Nat.le_zero.1 h)
    rfl
  | succ n ih =>
    intro l h
    rw [Lib.count_one]
    have hi := Lib.index_one l 46
    by_cases hm : (46 : UInt8) ∈ l
    · obtain ⟨a, b, rfl, ha⟩ := List.eq_append_cons_of_mem hm
      have hix : Lib.index (a ++ 46 :: b) [46] = a.length := by
        rw [hi]
        rcases Int.lt_or_le (Lib.indexByte (a ++ 46 :: b) 46) 0 with h1 | h1
        · have h2 := Lib.indexByte_ge (a ++ 46 :: b) 46
          exact absurd (by simp) (Lib.indexByte_none (l := a ++ 46 :: b) (c := 46) (by omega) a.length)
        · obtain ⟨k, hk⟩ : ∃ k : Nat, Lib.indexByte (a ++ 46 :: b) 46 = k := ⟨_, (Int.toNat_of_nonneg h1).symm⟩
          obtain ⟨h2, h3⟩ := Lib.indexByte_some hk
          rw [hk]
          rcases Nat.lt_trichotomy k a.length with h4 | h4 | h4
          · rw [List.getElem?_append_left h4] at h2
            exact absurd (List.mem_of_getElem? h2) ha
          · rw [h4]
          · exact absurd (by simp) (h3 a.length h4)
      have hc : (a ++ 46 :: b).count 46 = b.count 46 + 1 := by
        rw [List.count_append, List.count_cons, List.count_eq_zero.2 ha]; simp
      rw [hc, Lib.splitK, hix]
      have hq : ((a.length : Int) == -1) = false := by simp
      rw [hq, spl_dot a b ha]
      simp only [Bool.false_eq_true, if_false, Int.toNat_natCast, Nat.add_zero]
      have e1 : (a ++ 46 :: b).take a.length = a := by simp
      have e2 : (a ++ 46 :: b).drop (a.length + [(46 : UInt8)].length) = b := by
        rw [show a ++ 46 :: b = (a ++ [46]) ++ b by simp]
        rw [List.drop_append_of_le_length (by simp)]
        simp
      rw [e1, e2, ← Lib.count_one]
      rw [ih b (by simp at h; omega)]
    · rw [List.count_eq_zero.2 hm, spl_none l hm]
      rfl
theorem spl_mem {l x : List UInt8} (h : x ∈ spl l) : x.length ≤ l.length := by
  induction l generalizing x with
  | nil => simp [spl] at h; subst h; simp
  | cons c r ih =>
    rw [spl] at h
    split at h
    · rcases List.mem_cons.1 h with rfl | h
      · simp
      · have := ih h; simp; omega
    · split at h
      · rename_i y t hy
        rcases List.mem_cons.1 h with rfl | h
        · have := ih (x := y) (by rw [hy]; simp)
          simp; omega
        · have := ih (x := x) (by rw [hy]; simp [h])
          simp; omega
      · rename_i hy
        exact absurd hy (spl_ne r)
theorem spl_len (l : List UInt8) : (spl l).length ≤ l.length + 1 := by
  induction l with
  | nil => simp [spl]
  | cons c r ih =>
    rw [spl]
    split
    · simp; omega
    · split
      · rename_i y t hy
        rw [hy] at ih
        simp at ih ⊢; omega
      · simp
def joi (l : List (List UInt8)) : List UInt8 := Lib.join l [46]
theorem joi_one (x : List UInt8) : joi [x] = x := Lib.join_one x [46]
theorem joi_two (x y : List UInt8) (r : List (List UInt8)) : joi (x :: y :: r) = x ++ 46 :: joi (y :: r) := by
  unfold joi
  rw [Lib.join_cons, Lib.join_cons]
  simp [Lib.joinTail]
theorem spl_joi : ∀ (l : List (List UInt8)), l ≠ [] → (∀ x ∈ l, (46 : UInt8) ∉ x) → spl (joi l) = l := by
  intro l
  induction l with
  | nil => intro h; exact absurd rfl h
  | cons x r ih =>
    intro _ h
    cases r with
    | nil => rw [joi_one, spl_none x (h x (by simp))]
    | cons y r => rw [joi_two, spl_dot _ _ (h x (by simp)), ih (by simp) (fun z hz => h z (by simp [hz]))]
theorem spl_joi_dot : ∀ (l : List (List UInt8)), l ≠ [] → (∀ x ∈ l, (46 : UInt8) ∉ x) → spl (joi l ++ [46]) = l ++ [[]] := by
  intro l
  induction l with
  | nil => intro h; exact absurd rfl h
  | cons x r ih =>
    intro _ h
    cases r with
    | nil =>
      rw [joi_one, spl_dot x [] (h x (by simp))]
      rfl
    | cons y r =>
      have := ih (by simp) (fun z hz => h z (by simp [hz]))
      rw [joi_two, List.append_assoc, List.cons_append, spl_dot _ _ (h x (by simp)), this]
      rfl
theorem joi_last : ∀ (l : List (List UInt8)), l ≠ [] → (∀ x ∈ l, x ≠ [] ∧ (46 : UInt8) ∉ x) → ∃ p c, joi l = p ++ [c] ∧ c ≠ 46 := by
  intro l
  induction l with
  | nil => intro h; exact absurd rfl h
  | cons x r ih =>
    intro _ h
    cases r with
    | nil =>
      obtain ⟨h1, h2⟩ := h x (by simp)
      refine ⟨x.dropLast, x.getLast h1, ?_, fun e => h2 (by rw [← e]; exact List.getLast_mem h1)⟩
      rw [joi_one, List.dropLast_concat_getLast]
    | cons y r =>
      obtain ⟨p, c, e, hc⟩ := ih (by simp) (fun z hz => h z (by simp [hz]))
      exact ⟨x ++ 46 :: p, c, by rw [joi_two, e]; simp, hc⟩
end Go.Proofs.YtbcnnjifndmdpaaDoor
namespace Go.Proofs.YtbcnnjifndmdpaaDoor
open Go.RowKit Go
set_option linter.unusedVariables false
def labE (l : List UInt8) : Int := if l = [] then 8 else (asciiE l).2
def firstE : List (List UInt8) → Int
  | [] => 0
  | l :: r => if labE l = 0 then firstE r else labE l
def ascs (ls : List (List UInt8)) : List (List UInt8) := ls.map fun l => (asciiE l).1
def nameE (ls : List (List UInt8)) : List (List UInt8) × Int :=
  if firstE ls ≠ 0 then ([], firstE ls) else if 255 < sizeL (ascs ls) then ([], 3) else (ascs ls, 0)
def endB (t : List UInt8) : Bool := decide (t.getLast? = some 46)
def cutE (t : List UInt8) : List UInt8 := if endB t then t.dropLast else t
def dotE (t : List UInt8) : List UInt8 := if endB t then [46] else []
def hostT (t : List UInt8) : List UInt8 × Int :=
  if (nameE (spl (cutE t))).2 ≠ 0 then ([], (nameE (spl (cutE t))).2) else (joi (nameE (spl (cutE t))).1 ++ dotE t, 0)
def hostE (s : List UInt8) : List UInt8 × Int :=
  match runesL s with
  | none => ([], 5)
  | some ks => hostT (Lib.mapD nuD s)
def uniN (s : List UInt8) : List UInt8 := joi ((spl s).map uniE)
theorem hostE_none {s : List UInt8} (h : runesL s = none) : hostE s = ([], 5) := by unfold hostE; rw [h]
theorem hostE_some {s : List UInt8} {ks : List Int} (h : runesL s = some ks) : hostE s = hostT (Lib.mapD nuD s) := by unfold hostE; rw [h]
theorem endB_dot (l : List UInt8) : endB (l ++ [46]) = true := by unfold endB; simp
theorem endB_no (l : List UInt8) (c : UInt8) (h : c ≠ 46) : endB (l ++ [c]) = false := by unfold endB; simp [h]
theorem cutE_dot (l : List UInt8) : cutE (l ++ [46]) = l := by unfold cutE; rw [if_pos (endB_dot l)]; simp
theorem dotE_dot (l : List UInt8) : dotE (l ++ [46]) = [46] := by unfold dotE; rw [if_pos (endB_dot l)]
theorem firstE_zero : ∀ {ls : List (List UInt8)}, firstE ls = 0 → ∀ x ∈ ls, labE x = 0
  | [], _, x, hx => by cases hx
  | l :: r, h, x, hx => by
    unfold firstE at h
    split at h
    · rename_i h0
      rcases List.mem_cons.1 hx with rfl | hx
      · exact h0
      · exact firstE_zero h x hx
    · rename_i h0
      exact absurd h h0
theorem firstE_of : ∀ {ls : List (List UInt8)}, (∀ x ∈ ls, labE x = 0) → firstE ls = 0
  | [], _ => rfl
  | l :: r, h => by
    unfold firstE
    rw [if_pos (h l (by simp)), firstE_of fun x hx => h x (by simp [hx])]
theorem ascii_ne {x l : List UInt8} (h : asciiE x = (l, 0)) : x ≠ [] := by
  intro e
  subst e
  rw [asciiE_bad (by decide) (by decide)] at h
  cases h
theorem lbl_lab {x l : List UInt8} (h : asciiE x = (l, 0)) : labE x = 0 := by unfold labE; rw [if_neg (ascii_ne h), h]
theorem lab_lbl {x : List UInt8} (h : labE x = 0) : asciiE x = ((asciiE x).1, 0) := by
  unfold labE at h
  split at h
  · cases h
  · rw [← h]
theorem ldh_dots : ∀ k : Fin 256, ldhB (UInt8.ofNat k.val) = true → UInt8.ofNat k.val ≠ 46 ∧ k.val < 128 ∧ k.val ≠ 92 ∧ 33 ≤ k.val ∧ k.val ≤ 126 := by decide +kernel
theorem ldh_dot {c : UInt8} (h : ldhB c = true) : c ≠ 46 ∧ c.toNat < 128 ∧ c.toNat ≠ 92 ∧ 33 ≤ c.toNat ∧ c.toNat ≤ 126 := by
  have := ldh_dots ⟨c.toNat, c.toNat_lt⟩
  simp at this
  exact this h
theorem near_text {l : List UInt8} (h : ∀ c ∈ l, c.toNat < 128) : textL (l.map fun c => (c.toNat : Int)) = some l := by
  have e : (l.map fun c => (c.toNat : Int)).flatMap Lib.encodeRune = l := by
    induction l with
    | nil => rfl
    | cons c r ih =>
      have hc := h c (by simp)
      rw [List.map_cons, List.flatMap_cons, ih (fun x hx => h x (by simp [hx])), enc_small (by omega) (by omega)]
      simp
  unfold textL
  rw [if_pos, e]
  rw [List.all_eq_true]
  intro x hx
  obtain ⟨c, hc, rfl⟩ := List.mem_map.1 hx
  have := h c hc
  exact (ptB_iff _).2 ⟨by omega, by omega, by omega⟩
theorem encZ_far {x : Int} (h : 128 ≤ x) : ∀ c ∈ Lib.encodeRuneZ x, 128 ≤ c ∧ c ≤ 255 := by
  intro c hc
  have hb := Lib.encodeRuneZ_byte x c hc
  refine ⟨?_, by omega⟩
  unfold Lib.encodeRuneZ at hc
  rw [if_neg (by omega)] at hc
  split at hc
  · simp at hc; omega
  · split at hc
    · simp at hc; omega
    · split at hc
      · simp at hc; omega
      · simp at hc; omega
theorem enc_nodot {x : Int} (h0 : 0 ≤ x) (h : x ≠ 46) : (46 : UInt8) ∉ Lib.encodeRune x := by
  by_cases h1 : x < 128
  · rw [enc_small h0 h1]
    intro e
    have := congrArg UInt8.toNat (List.mem_singleton.1 e)
    rw [UInt8.toNat_ofNat'] at this
    simp at this
    omega
  · intro e
    unfold Lib.encodeRune at e
    obtain ⟨c, hc, he⟩ := List.mem_map.1 e
    have := encZ_far (by omega) c hc
    have h2 := congrArg UInt8.toNat he
    simp at h2
    omega
def noDot (ks : List Int) : Prop := ∀ c ∈ ks, c ≠ 46 ∧ nuD c = c
theorem text_nodot {ks : List Int} {t : List UInt8} (h : textL ks = some t) (hd : noDot ks) : (46 : UInt8) ∉ t := by
  obtain ⟨ha, rfl⟩ := textL_some h
  intro hm
  obtain ⟨c, hc, hm⟩ := List.mem_flatMap.1 hm
  exact enc_nodot ((ptB_iff c).1 (List.all_eq_true.1 ha c hc)).1 (hd c hc).1 hm
def TextT (t : List UInt8) : Prop := ∃ ks, textL ks = some t ∧ ∀ c ∈ ks, nuD c = c
theorem TextT.app {a b : List UInt8} (ha : TextT a) (hb : TextT b) : TextT (a ++ b) := by
  obtain ⟨k1, h1, n1⟩ := ha
  obtain ⟨k2, h2, n2⟩ := hb
  obtain ⟨a1, rfl⟩ := textL_some h1
  obtain ⟨a2, rfl⟩ := textL_some h2
  refine ⟨k1 ++ k2, ?_, fun c hc => (List.mem_append.1 hc).elim (n1 c) (n2 c)⟩
  unfold textL
  rw [if_pos (by rw [List.all_append, a1, a2]; rfl), List.flatMap_append]
theorem TextT.nil : TextT [] := ⟨[], rfl, fun c h => by cases h⟩
theorem TextT.dot : TextT [46] := ⟨[46], by decide +kernel, fun c h => by simp at h; subst h; rfl⟩
theorem textT_joi : ∀ {l : List (List UInt8)}, (∀ x ∈ l, TextT x) → TextT (joi l)
  | [], _ => TextT.nil
  | [x], h => by rw [joi_one]; exact h x (by simp)
  | x :: y :: r, h => by
    rw [joi_two, show x ++ 46 :: joi (y :: r) = x ++ ([46] ++ joi (y :: r)) by simp]
    exact (h x (by simp)).app (TextT.dot.app (textT_joi fun z hz => h z (by simp [hz])))
theorem TextT.map {t : List UInt8} (h : TextT t) : (∃ ks, runesL t = some ks) ∧ Lib.mapD nuD t = t := by
  obtain ⟨ks, h1, h2⟩ := h
  refine ⟨⟨ks, text_runes _ _ h1⟩, ?_⟩
  rw [mapD_flat nuD (fun x hx => nuD_pos hx) ks t h1]
  have : ks.map nuD = ks := by
    conv => rhs; rw [← List.map_id ks]
    exact List.map_congr_left h2
  rw [this]
  exact (textL_some h1).2.symm
structure Lbl (x l : List UInt8) : Prop where
  asc : asciiE x = (l, 0)
  text : ∃ ks, textL ks = some x ∧ noDot ks
theorem Lbl.nodot {x l : List UInt8} (h : Lbl x l) : (46 : UInt8) ∉ x := by
  obtain ⟨ks, h1, h2⟩ := h.text
  exact text_nodot h1 h2
theorem Lbl.t {x l : List UInt8} (h : Lbl x l) : TextT x := by
  obtain ⟨ks, h1, h2⟩ := h.text
  exact ⟨ks, h1, fun c hc => (h2 c hc).2⟩
theorem near_lbl {x l : List UInt8} (h : asciiE x = (l, 0)) (hh : hostB x = true) : Lbl x l := by
  have hl := ((hostB_iff x).1 hh).2.2.2.2
  refine ⟨h, _, near_text fun c hc => (ldh_dot (hl c hc)).2.1, ?_⟩
  intro c hc
  obtain ⟨b, hb, rfl⟩ := List.mem_map.1 hc
  have := ldh_dot (hl b hb)
  refine ⟨fun e => this.1 ?_, nuD_small (by omega)⟩
  apply UInt8.toNat_inj.1
  show b.toNat = 46
  omega
theorem self_lbl {x l : List UInt8} (h : asciiE x = (l, 0)) : Lbl l l := by
  obtain ⟨h1, h2, h3, h4⟩ := ascii_fixed h
  exact near_lbl h1 h3
theorem uni_lbl {l : List UInt8} (h : asciiE l = (l, 0)) : Lbl (uniE l) l ∧ (uniE l).length ≤ 4 * l.length := by
  obtain ⟨h1, h2, h3, h4⟩ := ascii_fixed h
  have hself : Lbl l l := self_lbl h
  by_cases hx : hostB (l.map lowB) = true ∧ (l.map lowB).take 4 = sgn
  · by_cases hd : (decE ((l.map lowB).drop 4)).2 = 0
    · cases ht : textL (decE ((l.map lowB).drop 4)).1 with
      | none => rw [uniE_none hx.1 hx.2 hd ht]; exact ⟨hself, by omega⟩
      | some u =>
        by_cases ha : asciiE u = (l.map lowB, 0)
        · rw [uniE_yes hx.1 hx.2 hd ht ha]
          rw [h4] at ha hd ht
          have hlen : u.length ≤ 4 * l.length := by
            obtain ⟨_, rfl⟩ := textL_some ht
            have := flat_len (decE (l.drop 4)).1
            have h5 := decE_len (l.drop 4)
            rw [List.length_drop] at h5
            omega
          refine ⟨?_, hlen⟩
          cases hf : farB u with
          | false =>
            cases hh : hostB u with
            | false => rw [asciiE_bad hf hh] at ha; cases ha
            | true => exact near_lbl ha hh
          | true =>
            obtain ⟨ks, P, rfl, hi⟩ := far_is hf ha
            have hdr : (sgn ++ P).drop 4 = P := rfl
            rw [hdr, hi.dec] at ht
            refine ⟨ha, ks, ht, ?_⟩
            have hfit : fitB ks = true := by
              cases hfit : fitB ks with
              | true => rfl
              | false => rw [asciiE_unfit hf hi.runes hfit] at ha; cases ha
            have hok := ((fitB_iff ks).1 hfit).2.2
            intro c hc
            have hp := (ptOk_iff c).1 (hok c hc)
            refine ⟨?_, ?_⟩
            · rintro rfl
              have := hp.1 (by decide)
              revert this
              decide +kernel
            · unfold nuD
              rw [if_neg]
              intro e
              have := hp.2
              omega
        · rw [uniE_no hx.1 hx.2 hd ht ha]; exact ⟨hself, by omega⟩
    · rw [uniE_dec hx.1 hx.2 hd]; exact ⟨hself, by omega⟩
  · rw [uniE_plain hx]; exact ⟨hself, by omega⟩
def dotD (d : Bool) : List UInt8 := if d then [46] else []
theorem host_joined (xs : List (List UInt8)) (f : List UInt8 → List UInt8) (hne : xs ≠ []) (h : ∀ x ∈ xs, Lbl x (f x)) (hs : sizeL (xs.map f) ≤ 255) (d : Bool) : hostE (joi xs ++ dotD d) = (joi (xs.map f) ++ dotD d, 0) := by
  have hT : TextT (joi xs ++ dotD d) := (textT_joi fun x hx => (h x hx).t).app (by cases d; exact TextT.nil; exact TextT.dot)
  obtain ⟨⟨ks, hr⟩, hm⟩ := hT.map
  have hnd : ∀ x ∈ xs, (46 : UInt8) ∉ x := fun x hx => (h x hx).nodot
  have hcut : cutE (joi xs ++ dotD d) = joi xs ∧ dotE (joi xs ++ dotD d) = dotD d := by
    cases d with
    | true => exact ⟨cutE_dot _, dotE_dot _⟩
    | false =>
      obtain ⟨p, c, e, hc⟩ := joi_last xs hne fun x hx => ⟨ascii_ne (h x hx).asc, hnd x hx⟩
      have hb : endB (joi xs) = false := by rw [e]; exact endB_no p c hc
      unfold dotD cutE dotE
      simp [hb]
  have hasc : ascs xs = xs.map f := List.map_congr_left fun x hx => by rw [(h x hx).asc]
  have hname : nameE xs = (xs.map f, 0) := by
    unfold nameE
    rw [if_neg (by rw [firstE_of fun x hx => lbl_lab (h x hx).asc]; simp), hasc, if_neg (by omega)]
  rw [hostE_some hr, hm]
  unfold hostT
  rw [hcut.1, hcut.2, spl_joi xs hne hnd, hname]
  simp
structure Good (a : List UInt8) (ls : List (List UInt8)) (d : Bool) : Prop where
  ne : ls ≠ []
  each : ∀ l ∈ ls, asciiE l = (l, 0)
  size : sizeL ls ≤ 255
  is : a = joi ls ++ dotD d
theorem host_good {s a : List UInt8} (h : hostE s = (a, 0)) : ∃ ls d, Good a ls d := by
  cases hr : runesL s with
  | none => rw [hostE_none hr] at h; cases h
  | some ks =>
    rw [hostE_some hr] at h
    unfold hostT at h
    split at h
    · rename_i h1
      injection h with h2 h3
      exact absurd h3 h1
    · rename_i h1
      injection h with h2 h3
      have h1 : (nameE (spl (cutE (Lib.mapD nuD s)))).2 = 0 := Decidable.not_not.1 h1
      obtain ⟨xs, hx⟩ : ∃ xs, xs = spl (cutE (Lib.mapD nuD s)) := ⟨_, rfl⟩
      have hxne : xs ≠ [] := by rw [hx]; exact spl_ne _
      rw [← hx] at h1 h2
      unfold nameE at h1 h2
      by_cases hf : firstE xs = 0
      · rw [if_neg (by simp [hf])] at h1 h2
        by_cases hb : 255 < sizeL (ascs xs)
        · rw [if_pos hb] at h1; cases h1
        · rw [if_neg hb] at h2
          refine ⟨ascs xs, endB (Lib.mapD nuD s), ?_, ?_, by omega, h2.symm⟩
          · intro e; exact hxne (List.map_eq_nil_iff.1 e)
          · intro l hl
            obtain ⟨x, hxm, rfl⟩ := List.mem_map.1 hl
            exact (ascii_fixed (lab_lbl (firstE_zero hf x hxm))).1
      · rw [if_pos (by simpa using hf)] at h1
        exact absurd h1 hf
theorem Good.fixed {a : List UInt8} {ls : List (List UInt8)} {d : Bool} (h : Good a ls d) : hostE a = (a, 0) := by
  have := host_joined ls id h.ne (fun x hx => self_lbl (h.each x hx)) (by rw [List.map_id]; exact h.size) d
  rw [List.map_id, ← h.is] at this
  exact this
theorem joi_snoc : ∀ (l : List (List UInt8)), l ≠ [] → joi (l ++ [[]]) = joi l ++ [46]
  | [], h => absurd rfl h
  | [x], _ => by rw [List.singleton_append, joi_two, joi_one, joi_one]
  | x :: y :: r, _ => by
    have := joi_snoc (y :: r) (by simp)
    rw [List.cons_append, List.cons_append, joi_two, joi_two, ← List.cons_append, this]
    simp
theorem uniE_nil : uniE [] = [] := uniE_plain (by decide)
theorem Good.uni {a : List UInt8} {ls : List (List UInt8)} {d : Bool} (h : Good a ls d) : uniN a = joi (ls.map uniE) ++ dotD d := by
  have hnd : ∀ x ∈ ls, (46 : UInt8) ∉ x := fun x hx => (self_lbl (h.each x hx)).nodot
  unfold uniN
  rw [h.is]
  cases d with
  | false =>
    have e : joi ls ++ dotD false = joi ls := by simp [dotD]
    rw [e, spl_joi ls h.ne hnd]
    simp [dotD]
  | true =>
    have e : joi ls ++ dotD true = joi ls ++ [46] := rfl
    rw [e, spl_joi_dot ls h.ne hnd, List.map_append, List.map_cons, List.map_nil, uniE_nil, joi_snoc _ (by intro e; exact h.ne (List.map_eq_nil_iff.1 e))]
    rfl
theorem Good.back {a : List UInt8} {ls : List (List UInt8)} {d : Bool} (h : Good a ls d) : hostE (uniN a) = (a, 0) := by
  have hlow : ∀ l ∈ ls, (asciiE (uniE l)).1 = l := fun l hl => by rw [(uni_lbl (h.each l hl)).1.asc]
  have e : (ls.map uniE).map (fun x => (asciiE x).1) = ls := by
    rw [List.map_map]
    conv => rhs; rw [← List.map_id ls]
    exact List.map_congr_left fun l hl => hlow l hl
  have := host_joined (ls.map uniE) (fun x => (asciiE x).1) (by intro e; exact h.ne (List.map_eq_nil_iff.1 e)) (by
    intro x hx
    obtain ⟨l, hl, rfl⟩ := List.mem_map.1 hx
    have := (uni_lbl (h.each l hl)).1
    exact ⟨by rw [this.asc], this.text⟩) (by rw [e]; exact h.size) d
  rw [e, ← h.uni, ← h.is] at this
  exact this
theorem joi_len : ∀ (l : List (List UInt8)), l ≠ [] → (joi l).length + 2 = sizeL l
  | [], h => absurd rfl h
  | [x], _ => by rw [joi_one]; simp [sizeL]; omega
  | x :: y :: r, _ => by
    have := joi_len (y :: r) (by simp)
    rw [joi_two]
    simp only [sizeL, List.map_cons, List.sum_cons, List.length_append, List.length_cons] at this ⊢
    omega
theorem dotD_len (d : Bool) : (dotD d).length ≤ 1 := by cases d <;> simp [dotD]
theorem size_uni : ∀ (l : List (List UInt8)), (∀ x ∈ l, asciiE x = (x, 0)) → sizeL (l.map uniE) ≤ 4 * sizeL l
  | [], _ => by simp [sizeL]
  | x :: r, h => by
    have h1 := (uni_lbl (h x (by simp))).2
    have h2 := size_uni r fun y hy => h y (by simp [hy])
    simp only [sizeL, List.map_cons, List.sum_cons] at h2 ⊢
    omega
theorem Good.len {a : List UInt8} {ls : List (List UInt8)} {d : Bool} (h : Good a ls d) : a.length ≤ 255 ∧ (uniN a).length ≤ 1021 := by
  have h1 := joi_len ls h.ne
  have h2 := joi_len (ls.map uniE) (by intro e; exact h.ne (List.map_eq_nil_iff.1 e))
  have h3 := size_uni ls h.each
  have h4 := dotD_len d
  have h5 := h.size
  constructor
  · rw [h.is, List.length_append]; omega
  · rw [h.uni, List.length_append]; omega
theorem escB_ldh : ∀ k : Fin 256, ldhB (UInt8.ofNat k.val) = true → escB (UInt8.ofNat k.val) = [UInt8.ofNat k.val] := by decide +kernel
theorem escs_host {l : List UInt8} (h : ∀ c ∈ l, ldhB c = true) : escs l = l := by
  unfold escs
  induction l with
  | nil => rfl
  | cons c r ih =>
    have hc := escB_ldh ⟨c.toNat, c.toNat_lt⟩
    simp at hc
    rw [List.flatMap_cons, ih fun x hx => h x (by simp [hx]), hc (h c (by simp))]
    rfl
theorem textD_joi : ∀ (l : List (List UInt8)), l ≠ [] → (∀ x ∈ l, hostB x = true) → textD l = joi l ++ [46]
  | [], h, _ => absurd rfl h
  | [x], _, h => by
    rw [joi_one, textD, List.flatMap_cons, List.flatMap_nil, List.append_nil, escs_host ((hostB_iff x).1 (h x (by simp))).2.2.2.2]
  | x :: y :: r, _, h => by
    have := textD_joi (y :: r) (by simp) fun z hz => h z (by simp [hz])
    rw [joi_two, textD, List.flatMap_cons, escs_host ((hostB_iff x).1 (h x (by simp))).2.2.2.2]
    unfold textD at this
    rw [this]
    simp
theorem Good.hosts {a : List UInt8} {ls : List (List UInt8)} {d : Bool} (h : Good a ls d) : ∀ l ∈ ls, hostB l = true := fun l hl => (ascii_fixed (h.each l hl)).2.2.1
theorem Good.check {a : List UInt8} {ls : List (List UInt8)} {d : Bool} (h : Good a ls d) : checkL ls = 0 := by
  refine checkL_ok.2 ⟨List.all_eq_true.2 fun x hx => ?_, h.size⟩
  have := (hostB_iff x).1 (h.hosts x hx)
  exact (okLab_iff x).2 ⟨by omega, by omega⟩
theorem Good.parse {a : List UInt8} {ls : List (List UInt8)} {d : Bool} (h : Good a ls d) : parseL a = (0, ls, d) := by
  have ht := textD_joi ls h.ne h.hosts
  cases d with
  | true =>
    have e : a = wrtL ls := by
      rw [h.is]; unfold wrtL
      rw [if_neg h.ne, ht]; rfl
    rw [e]
    exact parse_text ls h.check
  | false =>
    have e : a = plainL ls := by
      rw [h.is]; unfold plainL
      rw [if_neg h.ne]
      have := textD_plainD ls h.ne
      rw [ht] at this
      have := List.append_cancel_right this
      rw [← this]
      simp [dotD]
    have := parse_plain ls h.check
    rw [← e] at this
    rw [this]
    simp [h.ne]
theorem host_err {s a : List UInt8} {x : Int} (h : hostE s = (a, x)) (hx : x ≠ 0) : a = [] := by
  cases hr : runesL s with
  | none => rw [hostE_none hr] at h; injection h with h1 h2; exact h1.symm
  | some ks =>
    rw [hostE_some hr] at h
    unfold hostT at h
    split at h
    · injection h with h1 h2; exact h1.symm
    · injection h with h1 h2; exact absurd h2.symm hx
end Go.Proofs.YtbcnnjifndmdpaaDoor
