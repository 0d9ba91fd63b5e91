import Derived.Test.YtkgnhdebphaknaaDoorMath03
namespace Go.Proofs.YtkgnhdebphaknaaDoor
open Go.RowKit
set_option linter.unusedVariables false
theorem basL_len (l : List Int) : ((basL l).length : Int) = cnt l 128 := by
  unfold basL cnt
  rw [List.length_map, List.countP_eq_length_filter]
theorem basL_yes (l : List Int) {c : Int} (h : c < 128) : basL (l ++ [c]) = basL l ++ [UInt8.ofNat c.toNat] := by
  unfold basL; simp [List.filter_append, h]
theorem basL_no (l : List Int) {c : Int} (h : ¬ c < 128) : basL (l ++ [c]) = basL l := by
  unfold basL; simp [List.filter_append, h]
theorem u8_nat {c : Int} (h0 : 0 ≤ c) (h1 : c < 256) : ((UInt8.ofNat c.toNat).toNat : Int) = c := by
  simp only [UInt8.toNat_ofNat']; omega
theorem offB_at {l : List Int} {k : Nat} (hk : k < l.length) (h : l[k] < 0 ∨ 1114111 < l[k]) : offB l = true := by
  unfold offB
  rw [List.any_eq_true]
  exact ⟨l[k], List.getElem_mem _, by simp; omega⟩
theorem offB_no {l : List Int} (h : ∀ x ∈ l, 0 ≤ x ∧ x ≤ 1114111) : offB l = false := by
  unfold offB
  rw [List.any_eq_false]
  intro x hx
  have := h x hx
  simp; omega
theorem encE_long {l : List Int} (h : 4096 < l.length) : encE l = ([], 3) := by unfold encE; rw [if_pos h]
theorem encE_off {l : List Int} (h : ¬ 4096 < l.length) (h2 : offB l = true) : encE l = ([], 4) := by unfold encE; rw [if_neg h, if_pos h2]
theorem encE_over {l : List Int} (h : ¬ 4096 < l.length) (h2 : offB l = false) (h3 : encO l = none) : encE l = ([], 6) := by
  unfold encE; rw [if_neg h, if_neg (by simp [h2]), h3]
theorem encE_ok {l : List Int} {o : List UInt8} (h : ¬ 4096 < l.length) (h2 : offB l = false) (h3 : encO l = some o) : encE l = (o, 0) := by
  unfold encE; rw [if_neg h, if_neg (by simp [h2]), h3]
theorem hyp_len (l : List UInt8) : (hyp l).length ≤ l.length + 1 := by unfold hyp; split <;> simp
theorem eInv_start {l : List Int} (h : ¬ 4096 < l.length) : EInv l 128 (hyp (basL l), 0, 72, (basL l).length) := by
  have h1 := basL_len l
  have h2 := cnt_le l 128
  have h3 := hyp_len (basL l)
  exact ⟨by omega, by omega, by simp, by simp, by simp, by simp, h1, by simp only; omega⟩
theorem eInv_lst {l : List Int} {n : Int} {st : St} (hi : EInv l n st) (hx : ∀ x ∈ l, 0 ≤ x ∧ x ≤ 1114111) (hd : st.2.2.2 < l.length) : IsLst l n (leastI l n) :=
  lst_is (Int.le_refl _) (fun c hc => (hx c hc).2) (cnt_ex (by rw [← hi.d]; exact hd))
theorem eInv_step {l : List Int} {n bs : Int} {st st2 : St} (hi : EInv l n st) (hx : ∀ x ∈ l, 0 ≤ x ∧ x ≤ 1114111) (hd : st.2.2.2 < l.length)
    (hr : rnd (leastI l n) bs l (st.1, st.2.1 + (leastI l n - n) * (st.2.2.2 + 1), st.2.2.1, st.2.2.2) = some st2) (x0 : 0 ≤ st2.2.1) (x1 : st2.2.1 ≤ 4294967295) (y0 : 0 ≤ st2.2.2.1) (y1 : st2.2.2.1 ≤ 1099511627776) (ho : (st2.1.length : Int) ≤ 5000 + 40 * st2.2.2.2) :
    EInv l (leastI l n + 1) (st2.1, st2.2.1 + 1, st2.2.2.1, st2.2.2.2) ∧ st.2.2.2 < st2.2.2.2 := by
  have hm := eInv_lst hi hx hd
  have h1 := rnd_done _ _ _ _ _ hr
  have h2 := cnt_lst hm
  have h3 := cnt_succ l (leastI l n)
  have h4 := cnt_pos hm.1
  have h5 := hi.d
  have h6 := hx _ hm.1
  have h7 := hi.n0
  have h8 := hm.2.1
  simp only at h1
  exact ⟨⟨by omega, by omega, by simp only; omega, by simp only; omega, y0, y1, by simp only; omega, ho⟩, by omega⟩
theorem enc_go {l : List Int} {bs n : Int} {f : Nat} {st st2 : St} {O : Option (List UInt8)} (h : O = encL l bs f n st) (hf : (l.length : Int) - st.2.2.2 < f) (hd : st.2.2.2 < l.length)
    (hr : rnd (leastI l n) bs l (st.1, st.2.1 + (leastI l n - n) * (st.2.2.2 + 1), st.2.2.1, st.2.2.2) = some st2) (h2 : st.2.2.2 < st2.2.2.2) :
    ∃ f', O = encL l bs f' (leastI l n + 1) (st2.1, st2.2.1 + 1, st2.2.2.1, st2.2.2.2) ∧ (l.length : Int) - st2.2.2.2 < f' := by
  match f, h, hf with
  | 0, _, hf => simp at hf; omega
  | f' + 1, h, hf => exact ⟨f', by rw [h, encL_go hd hr], by omega⟩
theorem enc_no {l : List Int} {bs n : Int} {f : Nat} {st : St} {O : Option (List UInt8)} (h : O = encL l bs f n st) (hf : (l.length : Int) - st.2.2.2 < f) (hd : st.2.2.2 < l.length)
    (hr : rnd (leastI l n) bs l (st.1, st.2.1 + (leastI l n - n) * (st.2.2.2 + 1), st.2.2.1, st.2.2.2) = none) : O = none := by
  match f, h, hf with
  | 0, _, hf => simp at hf; omega
  | f' + 1, h, hf => rw [h, encL_no hd hr]
theorem enc_end {l : List Int} {bs n : Int} {f : Nat} {st : St} {O : Option (List UInt8)} (h : O = encL l bs f n st) (hf : (l.length : Int) - st.2.2.2 < f) (hd : ¬ st.2.2.2 < l.length) (hc : st.2.2.2 ≤ l.length) : O = some st.1 := by
  match f, h, hf with
  | 0, _, hf => simp at hf; omega
  | f' + 1, h, hf => rw [h, encL_end hd]
end Go.Proofs.YtkgnhdebphaknaaDoor
