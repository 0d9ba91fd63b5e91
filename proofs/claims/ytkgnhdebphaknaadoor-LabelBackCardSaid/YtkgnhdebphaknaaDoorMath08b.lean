/- Layer 4 in plain mathematics: what is accepted stays itself; what had to be written otherwise is read as it was. -/
import Derived.Test.YtkgnhdebphaknaaDoorMath08
namespace Go.Proofs.YtkgnhdebphaknaaDoor
open Go.RowKit
set_option linter.unusedVariables false
theorem rnd_min (m basic : Int) : ∀ (l : List Int) (st st2 : St), rnd m basic l st = some st2 → (st.1.length : Int) + (st2.2.2.2 - st.2.2.2) ≤ st2.1.length
  | [], st, st2, h => by
    unfold rnd at h
    obtain rfl := Option.some.inj h
    omega
  | c :: r, st, st2, h => by
    by_cases h1 : 4294967295 < upS m c st.2.1
    · rw [rnd_ov h1] at h; cases h
    · by_cases hc : c = m
      · rw [rnd_put h1 hc] at h
        have i2 := rnd_min m basic r _ st2 h
        have hne : 0 < (figs (upS m c st.2.1) 1 st.2.2.1).length := List.length_pos_iff.2 (figs_ne _ _ _)
        simp only [List.length_append] at i2
        push_cast at i2
        omega
      · rw [rnd_pass h1 hc] at h
        exact rnd_min m basic r (st.1, upS m c st.2.1, st.2.2.1, st.2.2.2) st2 h
theorem encL_min (l : List Int) (basic : Int) : ∀ (f : Nat) (n : Int) (st : St) (o : List UInt8), encL l basic f n st = some o → (st.1.length : Int) + (l.length - st.2.2.2) ≤ o.length
  | 0, n, st, o, h => by unfold encL at h; cases h
  | f + 1, n, st, o, h => by
    by_cases hd : st.2.2.2 < l.length
    · cases hr : rnd (leastI l n) basic l (st.1, st.2.1 + (leastI l n - n) * (st.2.2.2 + 1), st.2.2.1, st.2.2.2) with
      | none => rw [encL_no hd hr] at h; cases h
      | some st2 =>
        rw [encL_go hd hr] at h
        have i2 := rnd_min _ _ _ _ _ hr
        have := encL_min l basic f (leastI l n + 1) (st2.1, st2.2.1 + 1, st2.2.2.1, st2.2.2.2) o h
        simp only at this i2
        omega
    · rw [encL_end hd] at h
      obtain rfl := Option.some.inj h
      omega
theorem encO_min {l : List Int} {o : List UInt8} (h : encO l = some o) : (hyp (basL l)).length + l.length ≤ o.length + (basL l).length := by
  have := encL_min l ((basL l).length : Int) (l.length + 1) 128 (hyp (basL l), 0, 72, ((basL l).length : Int)) o h
  simp only at this
  omega
theorem hyp_ge (l : List UInt8) : l.length ≤ (hyp l).length := by
  unfold hyp; split <;> simp_all
/-- what is written, taken apart -/
theorem encE_parts {l : List Int} {P : List UInt8} (h : encE l = (P, 0)) (hP : P.length ≤ 59) : l.length ≤ 59 ∧ (∀ x ∈ l, 0 ≤ x ∧ x ≤ 1114111) ∧ ∃ F, P = hyp (basL l) ++ F ∧ Figs F ∧ decE P = (l, 0) ∧ ((∃ x ∈ l, 128 ≤ x) → F ≠ []) := by
  have h0 := h
  unfold encE at h
  by_cases h1 : 4096 < l.length
  · rw [if_pos h1] at h; cases h
  rw [if_neg h1] at h
  by_cases h2 : offB l = true
  · rw [if_pos h2] at h; cases h
  rw [if_neg h2] at h
  have h2' : offB l = false := by simpa using h2
  have hx : ∀ x ∈ l, 0 ≤ x ∧ x ≤ 1114111 := by
    unfold offB at h2'
    rw [List.any_eq_false] at h2'
    intro x hx
    have := h2' x hx
    simp at this
    omega
  cases ho : encO l with
  | none => rw [ho] at h; cases h
  | some o =>
    rw [ho] at h
    obtain rfl : o = P := by injection h
    have hm := encO_min ho
    have hg := hyp_ge (basL l)
    have hl : l.length ≤ 59 := by omega
    obtain ⟨F, he, hF, hd⟩ := back_top id spell_id l (by omega) hx (bd_150 (by omega) hx)
    rw [ho] at he
    obtain rfl := Option.some.inj he
    refine ⟨hl, hx, F, rfl, hF, ?_, ?_⟩
    · have := hd (by omega)
      rwa [List.map_id] at this
    · rintro ⟨x, hxl, h128⟩ hnil
      subst hnil
      have hbl := basL_len l
      have hc : cnt l 128 < l.length := by
        unfold cnt
        have : l.countP (fun c => decide (c < 128)) < l.length := by
          rcases Nat.lt_or_ge (l.countP (fun c => decide (c < 128))) l.length with h | h
          · exact h
          · exfalso
            have e : l.countP (fun c => decide (c < 128)) = l.length := Nat.le_antisymm List.countP_le_length h
            have := List.countP_eq_length.1 e x hxl
            simp at this
            omega
        omega
      rw [List.append_nil] at hm
      omega
theorem decL_len : ∀ (f : Nat) (r : List UInt8) (st : Ds), (decL f r st).1.length ≤ st.1.length + r.length
  | 0, r, st => by unfold decL; simp
  | f + 1, r, st => by
    unfold decL
    by_cases hr : r = []
    · rw [if_pos hr]; simp
    rw [if_neg hr]
    by_cases hn : (numb st.2.2.2.1 r 1 0 1).1 ≠ 0
    · rw [if_pos hn]; simp
    rw [if_neg hn]
    have hb := numb_less st.2.2.2.1 r 1 0 1 (by omega) (by omega) (by omega)
    obtain ⟨p, hp, he⟩ := hb.2.2.1 (by simpa using hn)
    have hl := congrArg List.length he
    rw [List.length_append] at hl
    have hp0 : 0 < p.length := List.length_pos_iff.2 hp
    by_cases h : (putS (numb st.2.2.2.1 r 1 0 1).2.1 st).1 ≠ 0
    · rw [if_pos h]; simp
    rw [if_neg h]
    have ih := decL_len f (numb st.2.2.2.1 r 1 0 1).2.2 (putS (numb st.2.2.2.1 r 1 0 1).2.1 st).2
    have h3 : (putS (numb st.2.2.2.1 r 1 0 1).2.1 st).2.1.length ≤ st.1.length + 1 := by
      unfold putS
      split
      · simp
      split
      · simp
      split
      · simp
      · simp only [insI, List.length_append, List.length_cons]
        rw [List.length_take, List.length_drop]
        omega
    omega
theorem decE_len (s : List UInt8) : (decE s).1.length ≤ s.length := by
  unfold decE
  split
  · simp
  split
  · simp
  split
  · simp
  · have := decL_len s.length (s.drop (hyf s)) (ptsL (preL s), 128, 0, 72, true)
    have h1 := hyf_le s
    simp only [ptsL_len2, List.length_drop] at this
    have h2 : (preL s).length ≤ hyf s := by unfold preL; rw [List.length_take]; omega
    omega
/- the points of a text -/
theorem enc_small {x : Int} (h0 : 0 ≤ x) (h1 : x < 128) : Lib.encodeRune x = [UInt8.ofNat x.toNat] := by
  unfold Lib.encodeRune
  rw [Lib.encodeRuneZ_one h0 (by omega)]
  rfl
theorem enc_big {x : Int} (hp : ptB x = true) (h : 128 ≤ x) : ∃ c ∈ Lib.encodeRune x, 128 ≤ c.toNat := by
  rw [ptB_iff] at hp
  have key : ∀ (z : Int) (zs : List Int), Lib.encodeRuneZ x = z :: zs → 128 ≤ z → z < 256 → ∃ c ∈ Lib.encodeRune x, 128 ≤ c.toNat := by
    intro z zs he h1 h2
    refine ⟨z.toNat.toUInt8, ?_, ?_⟩
    · unfold Lib.encodeRune; rw [he]; simp
    · show 128 ≤ (UInt8.ofNat z.toNat).toNat
      rw [UInt8.toNat_ofNat']
      omega
  unfold Lib.encodeRuneZ at key
  rw [if_neg (by omega)] at key
  by_cases a : 128 ≤ x ∧ x ≤ 2047
  · rw [if_pos a] at key; exact key _ _ rfl (by omega) (by omega)
  rw [if_neg a] at key
  by_cases b : (2048 ≤ x ∧ x < 55296) ∨ (57343 < x ∧ x ≤ 65535)
  · rw [if_pos b] at key; exact key _ _ rfl (by omega) (by omega)
  rw [if_neg b, if_pos (by omega)] at key
  exact key _ _ rfl (by omega) (by omega)
theorem textL_some {ks : List Int} {t : List UInt8} (h : textL ks = some t) : ks.all ptB = true ∧ t = ks.flatMap Lib.encodeRune := by
  unfold textL at h
  split at h
  · rename_i h1; exact ⟨h1, (Option.some.inj h).symm⟩
  · cases h
theorem runes_far {t : List UInt8} {ks : List Int} (h : runesL t = some ks) (hf : farB t = true) : ∃ x ∈ ks, 128 ≤ x := by
  obtain ⟨hp, rfl⟩ := textL_some (runes_text t.length t ks (Nat.le_refl _) h)
  unfold farB at hf
  rw [List.any_eq_true] at hf
  obtain ⟨c, hc, h1⟩ := hf
  obtain ⟨x, hx, hcx⟩ := List.mem_flatMap.1 hc
  refine ⟨x, hx, ?_⟩
  apply Decidable.byContradiction
  intro hlt
  have hpx := (ptB_iff x).1 (List.all_eq_true.1 hp x hx)
  rw [enc_small hpx.1 (by omega)] at hcx
  obtain rfl := List.mem_singleton.1 hcx
  have : (UInt8.ofNat x.toNat).toNat = x.toNat := by rw [UInt8.toNat_ofNat']; omega
  rw [this] at h1
  simp at h1
  omega
theorem runes_small {t : List UInt8} {ks : List Int} (h : runesL t = some ks) {x : Int} (hx : x ∈ ks) (h1 : x < 128) : 0 ≤ x ∧ UInt8.ofNat x.toNat ∈ t := by
  obtain ⟨hp, rfl⟩ := textL_some (runes_text t.length t ks (Nat.le_refl _) h)
  have hpx := (ptB_iff x).1 (List.all_eq_true.1 hp x hx)
  refine ⟨hpx.1, List.mem_flatMap.2 ⟨x, hx, ?_⟩⟩
  rw [enc_small hpx.1 h1]
  simp
/- figures -/
theorem fig_ldh0 : ∀ k : Fin 36, ldhB (figC (k.val : Int)) = true ∧ lowB (figC (k.val : Int)) = figC (k.val : Int) ∧ (figC (k.val : Int)).toNat ≠ 45 := by decide +kernel
theorem figs_ldh {F : List UInt8} (hF : Figs F) : ∀ c ∈ F, ldhB c = true ∧ lowB c = c ∧ c.toNat ≠ 45 := by
  intro c hc
  obtain ⟨f, h0, h1, rfl⟩ := hF c hc
  have := fig_ldh0 ⟨f.toNat, by omega⟩
  simp only [Int.toNat_of_nonneg h0] at this
  exact this
theorem sgn_ldh : ∀ c ∈ sgn, ldhB c = true ∧ lowB c = c := by decide +kernel
/-- what a label that is not plain is written as -/
structure FarIs (s : List UInt8) (ks : List Int) (P : List UInt8) : Prop where
  runes : runesL (s.map lowB) = some ks
  dec : decE P = (ks, 0)
  ldh : ∀ c ∈ sgn ++ P, ldhB c = true ∧ lowB c = c
  last : gb (sgn ++ P) ((sgn ++ P).length - 1) ≠ 45
  len : P.length ≤ 59
theorem far_is {s a : List UInt8} (hf : farB s = true) (h : asciiE s = (a, 0)) : ∃ ks P, a = sgn ++ P ∧ FarIs s ks P := by
  cases hr : runesL (s.map lowB) with
  | none => rw [asciiE_none hf hr] at h; cases h
  | some ks =>
    cases hfit : fitB ks with
    | false => rw [asciiE_unfit hf hr hfit] at h; cases h
    | true =>
      by_cases he : (encE ks).2 = 0
      · by_cases hl : 59 < (encE ks).1.length
        · rw [asciiE_long hf hr hfit he hl] at h; cases h
        · rw [asciiE_ok hf hr hfit he hl] at h
          have hee : encE ks = ((encE ks).1, 0) := by rw [← he]
          obtain ⟨hn, hx, F, hP, hF, hd, hne⟩ := encE_parts hee (by omega)
          have hfar := runes_far hr (by rw [far_low]; exact hf)
          have hF0 := hne hfar
          have hq := figs_ldh hF
          have hok := ((fitB_iff ks).1 hfit).2.2
          have hbas : ∀ c ∈ hyp (basL ks), ldhB c = true ∧ lowB c = c := by
            intro c hc
            have hb : c ∈ basL ks ∨ c = 45 := by
              unfold hyp at hc
              split at hc
              · cases hc
              · rcases List.mem_append.1 hc with hc | hc
                · exact .inl hc
                · exact .inr (List.mem_singleton.1 hc)
            rcases hb with hb | rfl
            · unfold basL at hb
              obtain ⟨x, hxm, rfl⟩ := List.mem_map.1 hb
              obtain ⟨hxk, hx1⟩ := List.mem_filter.1 hxm
              have hx1' : x < 128 := by simpa using hx1
              obtain ⟨h0, hmem⟩ := runes_small hr hxk hx1'
              obtain ⟨d, _, hd2⟩ := List.mem_map.1 hmem
              constructor
              · have hp := ((ptOk_iff x).1 (hok x hxk)).1 hx1'
                unfold ldhB
                have : ((UInt8.ofNat x.toNat).toNat : Int) = x := by rw [UInt8.toNat_ofNat']; omega
                rw [this]; exact hp
              · rw [← hd2]; exact (low_at d).1
            · decide +kernel
          refine ⟨ks, (encE ks).1, by injection h with h1 h2; exact h1.symm, hr, hd, ?_, ?_, by omega⟩
          · intro c hc
            rw [hP] at hc
            rcases List.mem_append.1 hc with hc | hc
            · exact sgn_ldh c hc
            · rcases List.mem_append.1 hc with hc | hc
              · exact hbas c hc
              · exact ⟨(hq c hc).1, (hq c hc).2.1⟩
          · rw [hP, ← List.append_assoc]
            have hFl : 0 < F.length := List.length_pos_iff.2 hF0
            have hlast : gb ((sgn ++ hyp (basL ks)) ++ F) (((sgn ++ hyp (basL ks)) ++ F).length - 1) = (F[F.length - 1]).toNat := by
              unfold gb
              rw [List.length_append, List.getD_eq_getElem?_getD, List.getElem?_append_right (by omega)]
              rw [show (sgn ++ hyp (basL ks)).length + F.length - 1 - (sgn ++ hyp (basL ks)).length = F.length - 1 by omega]
              rw [List.getElem?_eq_getElem (by omega)]
              rfl
            rw [hlast]
            exact (hq _ (List.getElem_mem _)).2.2
      · rw [asciiE_enc hf hr hfit rfl he] at h
        injection h with h1 h2
        exact absurd h2 he
theorem map_fix {l : List UInt8} (h : ∀ c ∈ l, lowB c = c) : l.map lowB = l := by
  conv => rhs; rw [← List.map_id l]
  exact List.map_congr_left h
theorem far_host {s : List UInt8} {ks : List Int} {P : List UInt8} (h : FarIs s ks P) : hostB (sgn ++ P) = true ∧ (sgn ++ P).map lowB = sgn ++ P ∧ (sgn ++ P).length ≤ 63 := by
  have hl : (sgn ++ P).length = 4 + P.length := by simp [sgn]; omega
  have := h.len
  refine ⟨(hostB_iff _).2 ⟨by omega, by omega, ?_, h.last, fun c hc => (h.ldh c hc).1⟩, map_fix fun c hc => (h.ldh c hc).2, by omega⟩
  simp [sgn, gb]
/-- what is accepted stays itself -/
theorem ascii_fixed {s a : List UInt8} (h : asciiE s = (a, 0)) : asciiE a = (a, 0) ∧ a.length ≤ 63 ∧ hostB a = true ∧ a.map lowB = a := by
  cases hf : farB s with
  | false =>
    cases hh : hostB s with
    | false => rw [asciiE_bad hf hh] at h; cases h
    | true =>
      rw [asciiE_host hf hh] at h
      injection h with h1 h2
      subst h1
      have hh2 : hostB (s.map lowB) = true := by rw [host_low]; exact hh
      refine ⟨?_, ((hostB_iff _).1 hh2).2.1, hh2, low_low s⟩
      rw [asciiE_low, asciiE_host hf hh]
  | true =>
    obtain ⟨ks, P, rfl, hi⟩ := far_is hf h
    obtain ⟨h1, h2, h3⟩ := far_host hi
    refine ⟨?_, h3, h1, h2⟩
    rw [asciiE_host (host_near h1) h1, h2]
theorem ascii_len {s : List UInt8} : (asciiE s).1.length ≤ 63 := by
  by_cases h : (asciiE s).2 = 0
  · have : asciiE s = ((asciiE s).1, 0) := by rw [← h]
    exact (ascii_fixed this).2.1
  · have : (asciiE s).1 = [] := by
      unfold asciiE at h ⊢
      split
      · rename_i h1
        rw [if_pos h1] at h
        split
        · rename_i h2; rw [if_pos h2] at h; simp at h
        · rfl
      · rename_i h1
        rw [if_neg h1] at h
        split
        · rfl
        · rename_i ks hks
          rw [hks] at h
          simp only at h
          split
          · rfl
          · rename_i h2
            rw [if_neg h2] at h
            split
            · rfl
            · rename_i h3
              rw [if_neg h3] at h
              split
              · rfl
              · rename_i h4
                rw [if_neg h4] at h
                simp at h
    rw [this]; simp
/-- what had to be written otherwise is read as it was -/
theorem ascii_back {s a : List UInt8} (hf : farB s = true) (h : asciiE s = (a, 0)) : uniE a = s.map lowB := by
  obtain ⟨ks, P, rfl, hi⟩ := far_is hf h
  obtain ⟨h1, h2, h3⟩ := far_host hi
  have hd : ((sgn ++ P).map lowB).drop 4 = P := by rw [h2]; rfl
  have ht : ((sgn ++ P).map lowB).take 4 = sgn := by rw [h2]; rfl
  refine uniE_yes (by rw [h2]; exact h1) ht (by rw [hd, hi.dec]) (by rw [hd, hi.dec]; exact runes_text _ _ _ (Nat.le_refl _) hi.runes) ?_
  rw [asciiE_low, h, h2]
/-- what is read otherwise is written as it was -/
theorem uni_back (s : List UInt8) : uniE s = s ∨ (asciiE (uniE s) = (s.map lowB, 0) ∧ (uniE s).length ≤ 300) := by
  by_cases h : hostB (s.map lowB) = true ∧ (s.map lowB).take 4 = sgn
  · by_cases h2 : (decE ((s.map lowB).drop 4)).2 = 0
    · cases h3 : textL (decE ((s.map lowB).drop 4)).1 with
      | none => exact .inl (uniE_none h.1 h.2 h2 h3)
      | some u =>
        by_cases h4 : asciiE u = (s.map lowB, 0)
        · right
          rw [uniE_yes h.1 h.2 h2 h3 h4]
          refine ⟨h4, ?_⟩
          obtain ⟨_, rfl⟩ := textL_some h3
          have := flat_len (decE ((s.map lowB).drop 4)).1
          have h5 := decE_len ((s.map lowB).drop 4)
          have h6 := ((hostB_iff _).1 h.1).2.1
          rw [List.length_drop] at h5
          omega
        · exact .inl (uniE_no h.1 h.2 h2 h3 h4)
    · exact .inl (uniE_dec h.1 h.2 h2)
  · exact .inl (uniE_plain h)
end Go.Proofs.YtkgnhdebphaknaaDoor
