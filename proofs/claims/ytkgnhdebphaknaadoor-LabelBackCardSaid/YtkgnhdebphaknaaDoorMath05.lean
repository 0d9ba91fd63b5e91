import Derived.Test.YtkgnhdebphaknaaDoorMath04
namespace Go.Proofs.YtkgnhdebphaknaaDoor
open Go.RowKit
set_option linter.unusedVariables false
abbrev leF (m : Int) (l : List Int) : List Int := l.filter fun c => decide (c ≤ m)
abbrev ltF (m : Int) (l : List Int) : List Int := l.filter fun c => decide (c < m)
/-- writer and reader, inside a round: P is done with, Q is not -/
structure SimIn (l P Q : List Int) (m basic : Int) (st : St) (ds : Ds) : Prop where
  cut : l = P ++ Q
  pts : ds.1 = leF m P ++ ltF m Q
  len : (ds.1.length : Int) = st.2.2.2
  bias : ds.2.2.2.1 = st.2.2.1
  first : ds.2.2.2.2 = decide (st.2.2.2 = basic)
  pos : ds.2.1 * (st.2.2.2 + 1) + ds.2.2.1 + st.2.1 = m * (st.2.2.2 + 1) + (leF m P).length
  n0 : 128 ≤ ds.2.1
  n1 : ds.2.1 ≤ m
  a0 : 0 ≤ ds.2.2.1
  s0 : 0 ≤ st.2.1
  bb : basic ≤ st.2.2.2
theorem sim_bd {l P Q : List Int} {m basic : Int} {st : St} {ds : Ds} (h : SimIn l P Q m basic st ds) (hB : (m - 128) * (l.length + 1) + l.length + 1 ≤ 250000000) (hm : 128 ≤ m) : ds.2.2.1 + st.2.1 ≤ 250000000 ∧ ds.2.2.1 + st.2.1 = (m - ds.2.1) * (st.2.2.2 + 1) + (leF m P).length ∧ st.2.2.2 ≤ l.length ∧ ((leF m P).length : Int) ≤ st.2.2.2 := by
  have h1 := h.pos
  have hl := h.len
  have e1 : (m - ds.2.1) * (st.2.2.2 + 1) = m * (st.2.2.2 + 1) - ds.2.1 * (st.2.2.2 + 1) := Int.sub_mul _ _ _
  have hp := congrArg List.length h.pts
  rw [List.length_append] at hp
  have hP : (leF m P).length ≤ P.length := List.length_filter_le _ _
  have hQ : (ltF m Q).length ≤ Q.length := List.length_filter_le _ _
  have hc := congrArg List.length h.cut
  rw [List.length_append] at hc
  have d0 : 0 ≤ st.2.2.2 := by omega
  have d1 : st.2.2.2 ≤ l.length := by omega
  have e2 : (m - ds.2.1) * (st.2.2.2 + 1) ≤ (m - 128) * (l.length + 1) := Int.mul_le_mul (by have := h.n0; omega) (by omega) (by omega) (by omega)
  exact ⟨by omega, by omega, d1, by omega⟩
theorem leF_app (m : Int) (P : List Int) (c : Int) : leF m (P ++ [c]) = leF m P ++ (if c ≤ m then [c] else []) := by
  simp only [leF, List.filter_append]
  by_cases h : c ≤ m <;> simp [h]
theorem ltF_cons (m : Int) (Q : List Int) (c : Int) : ltF m (c :: Q) = (if c < m then [c] else []) ++ ltF m Q := by
  simp only [ltF, List.filter_cons]
  by_cases h : c < m <;> simp [h]
theorem sim_rnd (g : UInt8 → UInt8) (hg : Spell g) (l : List Int) (m basic : Int) (hl : l.length ≤ 4096) (hm0 : 128 ≤ m) (hm1 : m ≤ 1114111) (hB : (m - 128) * (l.length + 1) + l.length + 1 ≤ 250000000) : ∀ (Q P : List Int) (st : St) (ds : Ds), SimIn l P Q m basic st ds →
    ∃ (F : List UInt8) (st2 : St) (ds2 : Ds), rnd m basic Q st = some st2 ∧ st2.1 = st.1 ++ F ∧ Figs F ∧ Goes g ds F ds2 ∧ SimIn l l [] m basic st2 ds2
  | [], P, st, ds, h => by
    have e : P = l := by have := h.cut; simpa using this.symm
    subst e
    exact ⟨[], st, ds, rfl, by simp, figs_nil, goes_nil g ds, h⟩
  | c :: Q, P, st, ds, h => by
    obtain ⟨b1, b2, b3, b4⟩ := sim_bd h hB hm0
    have a0 := h.a0
    have s0 := h.s0
    have hcut : l = (P ++ [c]) ++ Q := by rw [h.cut]; simp
    by_cases hcm : c < m
    · have hup : upS m c st.2.1 = st.2.1 + 1 := by unfold upS; rw [if_pos hcm]
      have hs : SimIn l (P ++ [c]) Q m basic (st.1, st.2.1 + 1, st.2.2.1, st.2.2.2) ds := by
        refine ⟨hcut, ?_, h.len, h.bias, h.first, ?_, h.n0, h.n1, a0, by simp only; omega, h.bb⟩
        · rw [h.pts, leF_app, ltF_cons, if_pos hcm, if_pos (by omega)]; simp
        · simp only
          rw [leF_app, if_pos (by omega), List.length_append]
          have := h.pos
          simp only [List.length_singleton]
          push_cast
          omega
      rw [rnd_pass (by rw [hup]; omega) (by omega), hup]
      exact sim_rnd g hg l m basic hl hm0 hm1 hB Q (P ++ [c]) _ ds hs
    · have hup : upS m c st.2.1 = st.2.1 := by unfold upS; rw [if_neg hcm]
      by_cases hce : c = m
      · subst hce
        have hpt := h.pts
        rw [ltF_cons, if_neg hcm, List.nil_append] at hpt
        have hdl := h.len
        have hlen2 : ds.1.length < l.length := by
          rw [hpt, hcut]
          have h1 : (leF c P).length ≤ P.length := List.length_filter_le _ _
          have h2 : (ltF c Q).length ≤ Q.length := List.length_filter_le _ _
          simp only [List.length_append, List.length_singleton]
          omega
        have hq : (ds.2.2.1 + st.2.1) / (ds.1.length + 1) = c - ds.2.1 ∧ (ds.2.2.1 + st.2.1) % (ds.1.length + 1) = (leF c P).length := by
          rw [hdl, b2]
          have e : (c - ds.2.1) * (st.2.2.2 + 1) + ((leF c P).length : Int) = ((leF c P).length : Int) + (st.2.2.2 + 1) * (c - ds.2.1) := by rw [Int.mul_comm]; omega
          rw [e]
          constructor
          · rw [Int.add_mul_ediv_left _ _ (by omega), Int.ediv_eq_zero_of_lt (by omega) (by omega)]; omega
          · rw [Int.add_mul_emod_self_left, Int.emod_eq_of_lt (by omega) (by omega)]
        have hput := putS_ok (d := st.2.1) (st := ds) (by omega) (by rw [hq.1]; omega) (by omega)
        rw [hq.1, hq.2, show ds.2.1 + (c - ds.2.1) = c by omega, show (((leF c P).length : Nat) : Int).toNat = (leF c P).length by omega] at hput
        have hgo := goes_num hg (ds := ds) s0 (by omega) hput
        rw [h.bias] at hgo
        have hins : insI ds.1 (leF c P).length c = leF c (P ++ [c]) ++ ltF c Q := by
          rw [hpt, leF_app, if_pos (Int.le_refl _)]
          unfold insI
          rw [List.take_left, List.drop_left]
          simp
        have hs : SimIn l (P ++ [c]) Q c basic (st.1 ++ figs st.2.1 1 st.2.2.1, 0, adp st.2.1 (st.2.2.2 + 1) (decide (st.2.2.2 = basic)), st.2.2.2 + 1)
            (insI ds.1 (leF c P).length c, c, ((leF c P).length : Int) + 1, adp st.2.1 (ds.1.length + 1) ds.2.2.2.2, false) := by
          refine ⟨hcut, hins, ?_, by simp only [hdl, h.first], ?_, ?_, by simp only; omega, by simp only; omega, by simp only; omega, by simp only; omega, by have := h.bb; simp only; omega⟩
          · simp only
            rw [insI_len (by rw [hpt, List.length_append]; omega)]
            push_cast
            omega
          · have := h.bb
            simp only
            symm
            exact decide_eq_false (by omega)
          · simp only
            rw [leF_app, if_pos (Int.le_refl _), List.length_append]
            simp only [List.length_singleton]
            push_cast
            omega
        obtain ⟨F, st2, ds2, hr, hF, hfg, hgo2, hs2⟩ := sim_rnd g hg l c basic hl hm0 hm1 hB Q (P ++ [c]) _ _ hs
        rw [rnd_put (by rw [hup]; omega) rfl, hup]
        exact ⟨figs st.2.1 1 st.2.2.1 ++ F, st2, ds2, hr, by rw [hF]; simp, figs_app (figs_all _ _ _ _ (Nat.le_refl _) s0) hfg, goes_app hgo hgo2, hs2⟩
      · have hs : SimIn l (P ++ [c]) Q m basic (st.1, st.2.1, st.2.2.1, st.2.2.2) ds := by
          refine ⟨hcut, ?_, h.len, h.bias, h.first, ?_, h.n0, h.n1, a0, s0, h.bb⟩
          · rw [h.pts, leF_app, ltF_cons, if_neg hcm, if_neg (by omega)]; simp
          · rw [leF_app, if_neg (by omega)]
            have := h.pos
            simpa using this
        rw [rnd_pass (by rw [hup]; omega) hce, hup]
        exact sim_rnd g hg l m basic hl hm0 hm1 hB Q (P ++ [c]) _ ds hs
/-- writer and reader, between two rounds -/
structure SimOut (l : List Int) (n basic : Int) (st : St) (ds : Ds) : Prop where
  pts : ds.1 = ltF n l
  len : (ds.1.length : Int) = st.2.2.2
  bias : ds.2.2.2.1 = st.2.2.1
  first : ds.2.2.2.2 = decide (st.2.2.2 = basic)
  pos : ds.2.1 * (st.2.2.2 + 1) + ds.2.2.1 + st.2.1 = n * (st.2.2.2 + 1)
  n0 : 128 ≤ ds.2.1
  n1 : ds.2.1 ≤ n
  a0 : 0 ≤ ds.2.2.1
  s0 : 0 ≤ st.2.1
  bb : basic ≤ st.2.2.2
theorem ltF_succ (l : List Int) (m : Int) : ltF (m + 1) l = leF m l := by
  apply List.filter_congr
  intro c _
  simp
  omega
theorem ltF_lst {l : List Int} {n m : Int} (h : IsLst l n m) : ltF n l = ltF m l := by
  apply List.filter_congr
  intro c hc
  have h1 := h.2.1
  by_cases hn : c < n
  · simp [hn]; omega
  · have := h.2.2 c hc (by omega)
    simp [hn]; omega
theorem sim_out (g : UInt8 → UInt8) (hg : Spell g) (l : List Int) (basic : Int) (hl : l.length ≤ 4096) (hx : ∀ x ∈ l, x ≤ 1114111) (hB : ∀ m ∈ l, (m - 128) * (l.length + 1) + l.length + 1 ≤ 250000000) : ∀ (f : Nat) (n : Int) (st : St) (ds : Ds), SimOut l n basic st ds → (l.length : Int) - st.2.2.2 < f →
    ∃ (F : List UInt8) (ds2 : Ds), encL l basic f n st = some (st.1 ++ F) ∧ Figs F ∧ Goes g ds F ds2 ∧ ds2.1 = l
  | 0, n, st, ds, h, hf => by
    exfalso
    have h1 := h.len
    have h2 := congrArg List.length h.pts
    have h3 : (ltF n l).length ≤ l.length := List.length_filter_le _ _
    simp at hf
    omega
  | f + 1, n, st, ds, h, hf => by
    have h1 := h.len
    have h2 := congrArg List.length h.pts
    have h3 : (ltF n l).length ≤ l.length := List.length_filter_le _ _
    by_cases hd : st.2.2.2 < l.length
    · have hex : ∃ c ∈ l, n ≤ c := by
        apply cnt_ex
        have : cnt l n = ((ltF n l).length : Int) := by unfold cnt; rw [List.countP_eq_length_filter]
        omega
      have hm := lst_is (l := l) (n := n) (m := 1114111) (Int.le_refl _) hx hex
      have hmm : leastI l n = l.foldl (lstF n) 1114111 := rfl
      rw [← hmm] at hm
      obtain ⟨m, hme⟩ : ∃ m, m = leastI l n := ⟨_, rfl⟩
      rw [← hme] at hm
      have hn1 := h.n1
      have hn0 := h.n0
      have hnm := hm.2.1
      have hs : SimIn l [] l m basic (st.1, st.2.1 + (m - n) * (st.2.2.2 + 1), st.2.2.1, st.2.2.2) ds := by
        have hq : 0 ≤ (m - n) * (st.2.2.2 + 1) := Int.mul_nonneg (by omega) (by omega)
        refine ⟨by simp, by rw [h.pts, ltF_lst hm]; simp [leF], h1, h.bias, h.first, ?_, hn0, by omega, h.a0, by have := h.s0; simp only; omega, h.bb⟩
        have := h.pos
        have e : (m - n) * (st.2.2.2 + 1) = m * (st.2.2.2 + 1) - n * (st.2.2.2 + 1) := Int.sub_mul _ _ _
        simp only [leF, List.filter_nil, List.length_nil]
        omega
      obtain ⟨F, st2, ds2, hr, hF, hfg, hgo, hs2⟩ := sim_rnd g hg l m basic hl (by omega) (hx m hm.1) (hB m hm.1) l [] _ ds hs
      have hr' := hr
      rw [hme] at hr'
      have hdone := rnd_done _ _ _ _ _ hr
      simp only at hdone
      have hcp := cnt_pos hm.1
      have ho : SimOut l (m + 1) basic (st2.1, st2.2.1 + 1, st2.2.2.1, st2.2.2.2) ds2 := by
        have hp := hs2.pts
        rw [show ltF m [] = [] from rfl, List.append_nil] at hp
        have hpl := congrArg List.length hp
        refine ⟨by rw [hp, ltF_succ], hs2.len, hs2.bias, hs2.first, ?_, hs2.n0, by have := hs2.n1; omega, hs2.a0, by have := hs2.s0; simp only; omega, hs2.bb⟩
        have h5 := hs2.pos
        have h6 := hs2.len
        rw [← hpl] at h5
        have e : (m + 1) * (st2.2.2.2 + 1) = m * (st2.2.2.2 + 1) + (st2.2.2.2 + 1) := by rw [Int.add_mul]; omega
        simp only
        omega
      obtain ⟨G, ds3, he, hgG, hgo2, hl3⟩ := sim_out g hg l basic hl hx hB f (m + 1) _ ds2 ho (by simp only; omega)
      refine ⟨F ++ G, ds3, ?_, figs_app hfg hgG, goes_app hgo hgo2, hl3⟩
      rw [encL_go hd hr', ← hme, he]
      simp only [hF]
      simp
    · refine ⟨[], ds, ?_, figs_nil, goes_nil g ds, ?_⟩
      · rw [encL_end hd]; simp
      · rw [h.pts]
        have : (ltF n l).length = l.length := by omega
        exact List.Sublist.eq_of_length (List.filter_sublist) this
end Go.Proofs.YtkgnhdebphaknaaDoor
