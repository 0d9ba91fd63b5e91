import Derived.Test.YtkgnhdebphaknaaDoorMath05
namespace Go.Proofs.YtkgnhdebphaknaaDoor
open Go.RowKit
set_option linter.unusedVariables false
theorem figs_11 {s k b : Int} (h0 : 0 ≤ s) (h1 : s ≤ 4294967295) : (figs s k b).length ≤ 11 := figs_len 10 s k b h0 (Int.lt_of_le_of_lt h1 (by decide))
theorem rnd_len (m basic : Int) : ∀ (l : List Int) (st st2 : St), 0 ≤ st.2.1 → rnd m basic l st = some st2 → 0 ≤ st2.2.1 ∧ (st2.1.length : Int) ≤ st.1.length + 11 * (st2.2.2.2 - st.2.2.2)
  | [], st, st2, h0, h => by
    unfold rnd at h
    obtain rfl := Option.some.inj h
    exact ⟨h0, by omega⟩
  | c :: r, st, st2, h0, h => by
    have hu := upS_bd m c st.2.1
    by_cases h1 : 4294967295 < upS m c st.2.1
    · rw [rnd_ov h1] at h; cases h
    · by_cases hc : c = m
      · rw [rnd_put h1 hc] at h
        have hf := figs_11 (s := upS m c st.2.1) (k := 1) (b := st.2.2.1) (by omega) (by omega)
        obtain ⟨i1, i2⟩ := rnd_len m basic r _ st2 (by simp only; omega) h
        refine ⟨i1, ?_⟩
        simp only [List.length_append] at i2
        push_cast at i2
        omega
      · rw [rnd_pass h1 hc] at h
        exact rnd_len m basic r (st.1, upS m c st.2.1, st.2.2.1, st.2.2.2) st2 (by simp only; omega) h
theorem encL_len (l : List Int) (basic : Int) : ∀ (f : Nat) (n : Int) (st : St) (o : List UInt8), 0 ≤ st.2.1 → n ≤ 1114112 → (∀ x ∈ l, x ≤ 1114111) → cnt l n = st.2.2.2 → encL l basic f n st = some o → (o.length : Int) ≤ st.1.length + 11 * (l.length - st.2.2.2)
  | 0, n, st, o, h0, hn, hx, hc, h => by unfold encL at h; cases h
  | f + 1, n, st, o, h0, hn, hx, hc, h => by
    have hcl := cnt_le l n
    by_cases hd : st.2.2.2 < l.length
    · have hm : IsLst l n (leastI l n) := lst_is (Int.le_refl _) hx (cnt_ex (by rw [hc]; exact hd))
      cases hr : rnd (leastI l n) basic l (st.1, st.2.1 + (leastI l n - n) * (st.2.2.2 + 1), st.2.2.1, st.2.2.2) with
      | none => rw [encL_no hd hr] at h; cases h
      | some st2 =>
        rw [encL_go hd hr] at h
        have hmn := hm.2.1
        have hp : 0 ≤ (leastI l n - n) * (st.2.2.2 + 1) := Int.mul_nonneg (by omega) (by omega)
        obtain ⟨i1, i2⟩ := rnd_len _ _ _ _ _ (by simp only; omega) hr
        have hdn := rnd_done _ _ _ _ _ hr
        simp only at hdn i2
        have hcs := cnt_succ l (leastI l n)
        have hcl2 := cnt_lst hm
        have := encL_len l basic f (leastI l n + 1) (st2.1, st2.2.1 + 1, st2.2.2.1, st2.2.2.2) o (by simp only; omega) (by have := hx _ hm.1; omega) hx (by simp only; omega) h
        simp only at this
        omega
    · rw [encL_end hd] at h
      obtain rfl := Option.some.inj h
      omega
theorem ptsL_basL {l : List Int} (hx : ∀ x ∈ l, 0 ≤ x) : ptsL (basL l) = ltF 128 l := by
  unfold ptsL basL
  rw [List.map_map]
  conv => rhs; rw [← List.map_id (ltF 128 l)]
  apply List.map_congr_left
  intro x hm
  have h1 := List.mem_filter.1 hm
  have h2 := hx x h1.1
  have h3 : x < 128 := by simpa using h1.2
  simp only [Function.comp, id]
  exact u8_nat h2 (by omega)
theorem ptsL_len2 (l : List UInt8) : (ptsL l).length = l.length := by simp [ptsL]
theorem basL_small {l : List Int} (hx : ∀ x ∈ l, 0 ≤ x) : ∀ c ∈ basL l, c.toNat < 128 := by
  intro c hc
  unfold basL at hc
  obtain ⟨x, hm, rfl⟩ := List.mem_map.1 hc
  have h1 := List.mem_filter.1 hm
  have h2 := hx x h1.1
  have h3 : x < 128 := by simpa using h1.2
  have := u8_nat h2 (show x < 256 by omega)
  omega
theorem hyf_hyp (b F : List UInt8) (hb : ∀ c ∈ F, c ≠ 45) : hyf (hyp b ++ F) = (hyp b).length ∧ preL (hyp b ++ F) = b := by
  have h1 : hyf (hyp b ++ F) = (hyp b).length := by
    rw [hyf_app F (hyp b) hb]
    unfold hyp
    by_cases h0 : b.length = 0
    · rw [if_pos h0]; rfl
    · rw [if_neg h0, hyf_yes]; simp
  refine ⟨h1, ?_⟩
  unfold preL
  rw [h1]
  unfold hyp
  by_cases h0 : b.length = 0
  · rw [if_pos h0, List.length_eq_zero_iff.1 h0]; simp
  · rw [if_neg h0]; simp
theorem figs_no45 {g : UInt8 → UInt8} (hg : Spell g) {F : List UInt8} (hF : Figs F) : ∀ c ∈ F.map g, c ≠ 45 := by
  intro c hc
  obtain ⟨x, hx, rfl⟩ := List.mem_map.1 hc
  obtain ⟨f, h0, h1, rfl⟩ := hF x hx
  exact (hg f h0 h1).2
/-- what is written, and that it is read -/
theorem back_top (g : UInt8 → UInt8) (hg : Spell g) (l : List Int) (hl : l.length ≤ 4096) (hx : ∀ x ∈ l, 0 ≤ x ∧ x ≤ 1114111) (hB : ∀ m ∈ l, (m - 128) * (l.length + 1) + l.length + 1 ≤ 250000000) :
    ∃ F : List UInt8, encO l = some (hyp (basL l) ++ F) ∧ Figs F ∧ ((hyp (basL l) ++ F).length ≤ 32768 → decE (hyp (basL l) ++ F.map g) = (l, 0)) := by
  have hx0 : ∀ x ∈ l, 0 ≤ x := fun x h => (hx x h).1
  have hx1 : ∀ x ∈ l, x ≤ 1114111 := fun x h => (hx x h).2
  have hbl := basL_len l
  have hcl := cnt_le l 128
  have hs : SimOut l 128 ((basL l).length : Int) (hyp (basL l), 0, 72, ((basL l).length : Int)) (ptsL (basL l), 128, 0, 72, true) := by
    refine ⟨ptsL_basL hx0, by simp only [ptsL_len2], rfl, by simp, by simp, by simp, by simp, by simp, by simp, by simp⟩
  obtain ⟨F, ds2, he, hF, hgo, hd2⟩ := sim_out g hg l ((basL l).length : Int) hl hx1 hB (l.length + 1) 128 _ _ hs (by simp only; push_cast; omega)
  refine ⟨F, he, hF, fun hlen => ?_⟩
  have hno := figs_no45 hg hF
  obtain ⟨h1, h2⟩ := hyf_hyp (basL l) (F.map g) hno
  have hsm := basL_small hx0
  have hbig : bigB (basL l) = false := by
    unfold bigB
    rw [List.any_eq_false]
    intro c hc
    have := hsm c hc
    simp; omega
  have hlen2 : (hyp (basL l) ++ F.map g).length ≤ 32768 := by simpa using hlen
  rw [decE_go (by omega) (by rw [h2]; exact hbig) (by rw [h2]; omega), h1, h2, List.drop_left]
  obtain ⟨f', _, e⟩ := hgo (hyp (basL l) ++ F.map g).length [] (by simp)
  rw [List.append_nil] at e
  rw [e, decL_end, hd2]
theorem encO_len {l : List Int} {o : List UInt8} (hl : l.length ≤ 4096) (hx : ∀ x ∈ l, 0 ≤ x ∧ x ≤ 1114111) (h : encO l = some o) : (o.length : Int) ≤ l.length + 1 + 11 * l.length := by
  have hbl := basL_len l
  have hcl := cnt_le l 128
  have hh := hyp_len (basL l)
  have := encL_len l ((basL l).length : Int) (l.length + 1) 128 (hyp (basL l), 0, 72, ((basL l).length : Int)) o (by simp) (by omega) (fun x h => (hx x h).2) (by simp only; omega) h
  simp only at this
  omega
theorem hyp_small {l : List Int} (hx : ∀ x ∈ l, 0 ≤ x) : ∀ c ∈ hyp (basL l), c.toNat < 128 := by
  intro c hc
  unfold hyp at hc
  split at hc
  · cases hc
  · rcases List.mem_append.1 hc with h | h
    · exact basL_small hx c h
    · obtain rfl := List.mem_singleton.1 h
      decide
theorem figs_small {F : List UInt8} (hF : Figs F) : ∀ c ∈ F, c.toNat < 128 := by
  intro c hc
  obtain ⟨f, h0, h1, rfl⟩ := hF c hc
  exact (vB_fig h0 h1).2.2
theorem bd_150 {l : List Int} (hl : l.length ≤ 150) (hx : ∀ x ∈ l, 0 ≤ x ∧ x ≤ 1114111) : ∀ m ∈ l, (m - 128) * (l.length + 1) + l.length + 1 ≤ 250000000 := by
  intro m hm
  have h := hx m hm
  by_cases h0 : 128 ≤ m
  · have : (m - 128) * (l.length + 1) ≤ 1113983 * 151 := Int.mul_le_mul (by omega) (by omega) (by omega) (by omega)
    omega
  · have : (m - 128) * ((l.length : Int) + 1) ≤ 0 := Int.mul_nonpos_of_nonpos_of_nonneg (by omega) (by omega)
    omega
/-- what a law of at most 150 points asks -/
theorem back_150 (g : UInt8 → UInt8) (hg : Spell g) (l : List Int) (hl : l.length ≤ 150) :
    (encE l = ([], 4)) ∨ (∃ b F : List UInt8, encE l = (hyp b ++ F, 0) ∧ Figs F ∧ (∀ c ∈ hyp b ++ F, c.toNat < 128) ∧ (hyp b ++ F).length ≤ 2000 ∧ decE (hyp b ++ F.map g) = (l, 0) ∧ (∀ x ∈ l, 0 ≤ x ∧ x ≤ 1114111)) := by
  by_cases ho : offB l = true
  · exact .inl (encE_off (by omega) ho)
  · right
    have ho' : offB l = false := by simpa using ho
    have hx : ∀ x ∈ l, 0 ≤ x ∧ x ≤ 1114111 := by
      unfold offB at ho'
      rw [List.any_eq_false] at ho'
      intro x hx
      have := ho' x hx
      simp at this
      omega
    obtain ⟨F, he, hF, hd⟩ := back_top g hg l (by omega) hx (bd_150 hl hx)
    have hlen := encO_len (by omega) hx he
    refine ⟨basL l, F, encE_ok (by omega) ho' he, hF, ?_, by omega, hd (by omega), hx⟩
    intro c hc
    rcases List.mem_append.1 hc with h | h
    · exact hyp_small (fun x h => (hx x h).1) c h
    · exact figs_small hF c h
end Go.Proofs.YtkgnhdebphaknaaDoor
