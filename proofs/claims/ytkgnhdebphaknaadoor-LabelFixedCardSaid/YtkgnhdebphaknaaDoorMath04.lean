import Derived.Test.YtkgnhdebphaknaaDoorMath03d
namespace Go.Proofs.YtkgnhdebphaknaaDoor
open Go.RowKit
set_option linter.unusedVariables false
/- What is written is read: the reader follows the writer, number by number. -/
theorem vB_fig0 : ∀ k : Fin 36, vB (figC (k.val : Int)) = (k.val : Int) ∧ figC (k.val : Int) ≠ 45 ∧ (figC (k.val : Int)).toNat < 128 := by decide +kernel
theorem vB_fig {f : Int} (h0 : 0 ≤ f) (h1 : f ≤ 35) : vB (figC f) = f ∧ figC f ≠ 45 ∧ (figC f).toNat < 128 := by
  obtain ⟨n, rfl⟩ := Int.eq_ofNat_of_zero_le h0
  exact vB_fig0 ⟨n, by omega⟩
def upc (c : UInt8) : UInt8 := if 97 ≤ c.toNat ∧ c.toNat ≤ 122 then c - 32 else c
theorem upc_fig0 : ∀ k : Fin 36, vB (upc (figC (k.val : Int))) = (k.val : Int) ∧ upc (figC (k.val : Int)) ≠ 45 := by decide +kernel
theorem upc_fig {f : Int} (h0 : 0 ≤ f) (h1 : f ≤ 35) : vB (upc (figC f)) = f ∧ upc (figC f) ≠ 45 := by
  obtain ⟨n, rfl⟩ := Int.eq_ofNat_of_zero_le h0
  exact upc_fig0 ⟨n, by omega⟩
/-- a way to spell figures that keeps them -/
def Spell (g : UInt8 → UInt8) : Prop := ∀ f : Int, 0 ≤ f → f ≤ 35 → vB (g (figC f)) = f ∧ g (figC f) ≠ 45
theorem spell_id : Spell id := fun f h0 h1 => ⟨(vB_fig h0 h1).1, (vB_fig h0 h1).2.1⟩
theorem spell_up : Spell upc := fun f h0 h1 => upc_fig h0 h1
theorem bnd_mono (k b : Int) : bndI k b ≤ bndI (k + 1) b := by unfold bndI; omega
theorem pow35 {j : Nat} (h : ((35 ^ j : Nat) : Int) ≤ 250000000) : ((35 ^ j : Nat) : Int) * 35 ≤ 4294967295 := by
  by_cases h5 : j ≤ 5
  · have : 35 ^ j ≤ 35 ^ 5 := Nat.pow_le_pow_right (by omega) h5
    have e : (35 : Nat) ^ 5 = 52521875 := by decide
    omega
  · have : 35 ^ 6 ≤ 35 ^ j := Nat.pow_le_pow_right (by omega) (by omega)
    have e : (35 : Nat) ^ 6 = 1838265625 := by decide
    omega
theorem numb_figs (g : UInt8 → UInt8) (hg : Spell g) (b : Int) (r : List UInt8) : ∀ (n : Nat) (q k D W : Int), q.toNat ≤ n → 0 ≤ q → 0 ≤ D → 1 ≤ W → D + q * W ≤ 250000000 → ((∃ j : Nat, W = ((35 ^ j : Nat) : Int)) ∨ 2 ≤ bndI k b) →
    numb b ((figs q k b).map g ++ r) k D W = (0, D + q * W, r) := by
  intro n
  induction n with
  | zero =>
    intro q k D W hn h0 hD hW hb hp
    have ht := bnd_bd k b
    obtain rfl : q = 0 := by omega
    rw [figs_end (by omega)]
    have hv := hg 0 (by omega) (by omega)
    simp only [List.map_cons, List.map_nil, List.cons_append, List.nil_append]
    rw [numb_end (by rw [hv.1]; omega) (by rw [hv.1]; omega) (by rw [hv.1]; omega), hv.1]
  | succ n ih =>
    intro q k D W hn h0 hD hW hb hp
    have ht := bnd_bd k b
    by_cases hq : bndI k b ≤ q
    · rw [figs_go hq]
      have hl := fig_lt q k b hq
      have m0 := Int.emod_nonneg (q - bndI k b) (show 36 - bndI k b ≠ 0 by omega)
      have m1 := Int.emod_lt_of_pos (q - bndI k b) (show 0 < 36 - bndI k b by omega)
      have hdm := Int.mul_ediv_add_emod (q - bndI k b) (36 - bndI k b)
      have hv := hg (bndI k b + (q - bndI k b) % (36 - bndI k b)) (by omega) (by omega)
      obtain ⟨f, hf⟩ : ∃ f, f = bndI k b + (q - bndI k b) % (36 - bndI k b) := ⟨_, rfl⟩
      obtain ⟨q', hq'⟩ : ∃ q', q' = (q - bndI k b) / (36 - bndI k b) := ⟨_, rfl⟩
      rw [← hq'] at hdm hl
      rw [← hf] at hv
      rw [← hf, ← hq']
      simp only [List.map_cons, List.cons_append]
      have e1 : q * W = f * W + q' * (W * (36 - bndI k b)) := by
        have : q = f + (36 - bndI k b) * q' := by omega
        rw [this, Int.add_mul]
        congr 1
        rw [Int.mul_comm (36 - bndI k b) q', Int.mul_assoc, Int.mul_comm (36 - bndI k b) W]
      have hw0 : 0 ≤ W * (36 - bndI k b) := Int.mul_nonneg (by omega) (by omega)
      have e2 : 0 ≤ q' * (W * (36 - bndI k b)) := Int.mul_nonneg hl.2 hw0
      have e3 : bndI k b * W ≤ q * W := Int.mul_le_mul_of_nonneg_right hq (by omega)
      have e4 : W * (36 - bndI k b) ≤ 4294967295 := by
        rcases hp with ⟨j, hj⟩ | h2
        · by_cases h1 : bndI k b = 1
          · rw [h1] at e3 ⊢
            have : W * (36 - 1) = W * 35 := by omega
            rw [this, hj]
            exact pow35 (by omega)
          · have e5 : 2 * W ≤ bndI k b * W := Int.mul_le_mul_of_nonneg_right (by omega) (by omega)
            have e6 : W * (36 - bndI k b) ≤ W * 34 := Int.mul_le_mul_of_nonneg_left (by omega) (by omega)
            omega
        · have e5 : 2 * W ≤ bndI k b * W := Int.mul_le_mul_of_nonneg_right h2 (by omega)
          have e6 : W * (36 - bndI k b) ≤ W * 34 := Int.mul_le_mul_of_nonneg_left (by omega) (by omega)
          omega
      have e7 : 0 ≤ f * W := Int.mul_nonneg (by omega) (by omega)
      have e8 : 1 * 1 ≤ W * (36 - bndI k b) := Int.mul_le_mul hW (by omega) (by omega) (by omega)
      rw [numb_go (by rw [hv.1]; omega) (by rw [hv.1]; omega) (by rw [hv.1]; omega) (by omega), hv.1]
      rw [ih q' (k + 1) (D + f * W) (W * (36 - bndI k b)) (by omega) hl.2 (by omega) (by omega) (by omega) ?_]
      · rw [e1, Int.add_assoc]
      · have hmo := bnd_mono k b
        rcases hp with ⟨j, hj⟩ | h2
        · by_cases h1 : bndI k b = 1
          · left
            exact ⟨j + 1, by rw [h1, hj, Nat.pow_succ]; push_cast; omega⟩
          · right; omega
        · right; omega
    · rw [figs_end hq]
      have hv := hg q (by omega) (by omega)
      simp only [List.map_cons, List.map_nil, List.cons_append, List.nil_append]
      have e0 : 0 ≤ q * W := Int.mul_nonneg h0 (by omega)
      rw [numb_end (by rw [hv.1]; omega) (by rw [hv.1]; omega) (by rw [hv.1]; omega), hv.1]
/-- the reader goes from one state to another along some figures -/
def Goes (g : UInt8 → UInt8) (ds : Ds) (F : List UInt8) (ds' : Ds) : Prop :=
  ∀ (f : Nat) (r : List UInt8), F.length + r.length ≤ f → ∃ f', r.length ≤ f' ∧ decL f (F.map g ++ r) ds = decL f' r ds'
theorem goes_nil (g : UInt8 → UInt8) (ds : Ds) : Goes g ds [] ds := fun f r h => ⟨f, by simpa using h, rfl⟩
theorem goes_app {g : UInt8 → UInt8} {a b c : Ds} {F G : List UInt8} (h : Goes g a F b) (k : Goes g b G c) : Goes g a (F ++ G) c := by
  intro f r hf
  rw [List.length_append] at hf
  obtain ⟨f1, h1, e1⟩ := h f (G.map g ++ r) (by simp; omega)
  obtain ⟨f2, h2, e2⟩ := k f1 r (by simpa using h1)
  exact ⟨f2, h2, by rw [List.map_append, List.append_assoc, e1, e2]⟩
theorem figs_ne (q k b : Int) : figs q k b ≠ [] := by
  by_cases h : bndI k b ≤ q
  · rw [figs_go h]; simp
  · rw [figs_end h]; simp
theorem goes_num {g : UInt8 → UInt8} (hg : Spell g) {ds ds' : Ds} {s : Int} (h0 : 0 ≤ s) (h1 : s ≤ 250000000) (hp : putS s ds = (0, ds')) : Goes g ds (figs s 1 ds.2.2.2.1) ds' := by
  intro f r hf
  have hn := numb_figs g hg ds.2.2.2.1 r s.toNat s 1 0 1 (Nat.le_refl _) h0 (by omega) (by omega) (by omega) (.inl ⟨0, rfl⟩)
  rw [show (0 : Int) + s * 1 = s by omega] at hn
  obtain ⟨f', e, hl, _⟩ := decL_go (f := f) (by simpa using hf) (by
    intro h
    have := List.append_eq_nil_iff.1 h
    exact figs_ne s 1 ds.2.2.2.1 (List.map_eq_nil_iff.1 this.1)) hn hp
  exact ⟨f', hl, e⟩
/-- figures alone -/
def Figs (F : List UInt8) : Prop := ∀ c ∈ F, ∃ f : Int, 0 ≤ f ∧ f ≤ 35 ∧ c = figC f
theorem figs_nil : Figs [] := fun c h => by cases h
theorem figs_app {F G : List UInt8} (h : Figs F) (k : Figs G) : Figs (F ++ G) := fun c hc => by
  rcases List.mem_append.1 hc with hc | hc
  · exact h c hc
  · exact k c hc
theorem figs_all : ∀ (n : Nat) (q k b : Int), q.toNat ≤ n → 0 ≤ q → Figs (figs q k b) := by
  intro n
  induction n with
  | zero =>
    intro q k b hn h0 c hc
    have ht := bnd_bd k b
    rw [figs_end (by omega)] at hc
    obtain rfl := List.mem_singleton.1 hc
    exact ⟨q, h0, by omega, rfl⟩
  | succ n ih =>
    intro q k b hn h0 c hc
    have ht := bnd_bd k b
    by_cases hq : bndI k b ≤ q
    · rw [figs_go hq] at hc
      have hl := fig_lt q k b hq
      have m0 := Int.emod_nonneg (q - bndI k b) (show 36 - bndI k b ≠ 0 by omega)
      have m1 := Int.emod_lt_of_pos (q - bndI k b) (show 0 < 36 - bndI k b by omega)
      rcases List.mem_cons.1 hc with rfl | hc
      · exact ⟨_, by omega, by omega, rfl⟩
      · exact ih _ (k + 1) b (by omega) hl.2 c hc
    · rw [figs_end hq] at hc
      obtain rfl := List.mem_singleton.1 hc
      exact ⟨q, h0, by omega, rfl⟩
end Go.Proofs.YtkgnhdebphaknaaDoor
