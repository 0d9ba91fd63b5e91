/- Layer 12: what is put is got, over plain lists. -/
import Derived.Test.YtchjhpipiooibaaMath18
namespace Go.Proofs.Ytchjhpipiooibaa
set_option linter.unusedVariables false
/-- what is read of a message is read of a longer one -/
theorem pkRun_mono_k (z : List UInt8) : ∀ (k : Nat) (m : List UInt8) (p low size : Nat) (n : Lbs) (fin : Nat), low * (m.length + 1) + (m.length - p) ≤ k →
    (pkRun m p low size n fin).err = 0 → pkRun (m ++ z) p low size n fin = pkRun m p low size n fin := by
  intro k
  induction k with
  | zero =>
    intro m p low size n fin hk h
    rw [pkRun_out (by omega)] at h
    exact absurd h (by decide)
  | succ k ih =>
    intro m p low size n fin hk he
    by_cases h : p < m.length
    · have h' : p < (m ++ z).length := by rw [List.length_append]; omega
      have e : (m ++ z)[p] = m[p] := List.getElem_append_left h
      by_cases h0 : m[p].toNat = 0
      · rw [pkRun_end h h0, pkRun_end h' (by rw [e]; exact h0)]
      · by_cases h1 : m[p].toNat ≤ 63
        · by_cases h2 : m.length < p + 1 + m[p].toNat
          · rw [pkRun_short h h0 h1 h2] at he
            exact absurd he (by decide)
          · by_cases h3 : 255 < size + (m[p].toNat + 1)
            · rw [pkRun_long h h0 h1 h2 h3] at he
              exact absurd he (by decide)
            · rw [pkRun_label h h0 h1 h2 h3] at he ⊢
              rw [pkRun_label h' (by rw [e]; exact h0) (by rw [e]; exact h1) (by rw [e, List.length_append]; omega) (by rw [e]; exact h3)]
              have hd : ((m ++ z).drop (p + 1)).take m[p].toNat = (m.drop (p + 1)).take m[p].toNat := by
                rw [List.drop_append_of_le_length (by omega), List.take_append_of_le_length (by rw [List.length_drop]; omega)]
              rw [e, hd]
              exact ih _ _ _ _ _ _ (by omega) he
        · by_cases h2 : m[p].toNat < 192
          · rw [pkRun_lab h h1 h2] at he
            exact absurd he (by decide)
          · by_cases h3 : p + 1 < m.length
            · have h3' : p + 1 < (m ++ z).length := by rw [List.length_append]; omega
              have e3 : (m ++ z)[p + 1] = m[p + 1] := List.getElem_append_left h3
              by_cases h4 : ptrN (m[p]'h) (m[p + 1]'h3) < low
              · rw [pkRun_ptr h h2 h3 h4] at he ⊢
                rw [pkRun_ptr h' (by rw [e]; exact h2) h3' (by rw [e, e3]; exact h4), e, e3]
                refine ih _ _ _ _ _ _ ?_ he
                have := Nat.mul_le_mul_right (m.length + 1) h4
                rw [Nat.succ_mul] at this
                omega
              · rw [pkRun_far h h2 h3 h4] at he
                exact absurd he (by decide)
            · rw [pkRun_half h h2 h3] at he
              exact absurd he (by decide)
    · rw [pkRun_out h] at he
      exact absurd he (by decide)
theorem pkRun_mono {m : List UInt8} (z : List UInt8) {p low size : Nat} {n : Lbs} {fin : Nat} {R : PkR} (h : pkRun m p low size n fin = R) (h0 : R.err = 0) : pkRun (m ++ z) p low size n fin = R := by
  rw [pkRun_mono_k z _ m p low size n fin (Nat.le_refl _) (by rw [h]; exact h0), h]
theorem pkGet_mono {m : List UInt8} (z : List UInt8) {a : Int} {R : PkR} (h : pkGet m a = R) (h0 : R.err = 0) : pkGet (m ++ z) a = R := by
  unfold pkGet at h ⊢
  split at h
  · subst h
    exact absurd h0 (by decide)
  · rw [if_neg (by rw [List.length_append]; omega)]
    exact pkRun_mono z h h0
/-- a name's octets by a table, and what comes into it -/
def pkOut (T : List (Lbs × Int)) : Lbs → List UInt8
  | [] => [0]
  | l :: r => match pkFind T (l :: r) with
    | some to => ocT 2 (49152 + to)
    | none => labB l ++ pkOut T r
def pkNew (ok : Bool) (T : List (Lbs × Int)) : Lbs → Int → List (Lbs × Int)
  | [], _ => []
  | l :: r, pos => match pkFind T (l :: r) with
    | some _ => []
    | none => (if ok = true ∧ pos ≤ 16383 then [(l :: r, pos)] else []) ++ pkNew ok T r (pos + (l.length + 1))
theorem pkPut_out (ok : Bool) : ∀ (r : Lbs) (pos : Int) (T1 T : List (Lbs × Int)), (∀ n : Lbs, n.length ≤ r.length → pkFind T1 n = pkFind T n) → pkPut ok r pos T1 = (pkOut T r, T1 ++ pkNew ok T r pos)
  | [], _, T1, T, _ => by simp [pkPut, pkOut, pkNew]
  | l :: r, pos, T1, T, h => by
    have hf := h (l :: r) (Nat.le_refl _)
    cases hs : pkFind T (l :: r) with
    | some to =>
      rw [pkPut_hit (hf.trans hs)]
      simp [pkOut, pkNew, hs]
    | none =>
      rw [pkPut_miss (hf.trans hs), pkPut_out ok r _ _ T (fun n hn => ?_)]
      · simp only [pkOut, pkNew, hs]
        split <;> simp
      · split
        · rw [pkFind_app, if_neg (fun e => by subst e; simp at hn; omega), h n (by simp; omega)]
          cases pkFind T n <;> rfl
        · exact h n (by simp; omega)
theorem pkNew_false (T : List (Lbs × Int)) : ∀ (r : Lbs) (pos : Int), pkNew false T r pos = []
  | [], _ => rfl
  | l :: r, pos => by
    unfold pkNew
    split
    · rfl
    · rw [pkNew_false T r]; simp
theorem pkOut_pos (T : List (Lbs × Int)) (r : Lbs) : 0 < (pkOut T r).length := by
  cases r with
  | nil => simp [pkOut]
  | cons l r =>
    unfold pkOut
    split
    · rw [ocT_len]; decide
    · rw [List.length_append, labB_len]; omega
theorem pkOut_size (T : List (Lbs × Int)) (r : Lbs) : (pkOut T r).length ≤ sizeL r := by
  have := pkPut_size false r 0 T
  rw [pkPut_out false r 0 T T (fun _ _ => rfl)] at this
  exact this
theorem pkOut_nil (r : Lbs) : pkOut [] r = wireB r := by
  have := pkPut_none r 0
  rw [pkPut_out false r 0 [] [] (fun _ _ => rfl)] at this
  exact congrArg Prod.fst this
/-- what a table's entry leads to -/
def Ent (m : List UInt8) (n : Lbs) (to : Int) : Prop :=
  0 ≤ to ∧ to ≤ 16383 ∧ to.toNat < m.length ∧ ∀ (size : Nat) (n0 : Lbs) (fin : Nat), fin ≠ 0 → size + (sizeL n - 1) ≤ 255 → pkRun m to.toNat to.toNat size n0 fin = ⟨n0 ++ n, fin, 0⟩
def TInv (m : List UInt8) (T : List (Lbs × Int)) : Prop := ∀ n to, (n, to) ∈ T → Ent m n to
theorem Ent.mono {m : List UInt8} {n : Lbs} {to : Int} (h : Ent m n to) (z : List UInt8) : Ent (m ++ z) n to :=
  ⟨h.1, h.2.1, by rw [List.length_append]; have := h.2.2.1; omega, fun size n0 fin hf hs => pkRun_mono z (h.2.2.2 size n0 fin hf hs) rfl⟩
theorem TInv.mono {m : List UInt8} {T : List (Lbs × Int)} (h : TInv m T) (z : List UInt8) : TInv (m ++ z) T := fun n to hm => (h n to hm).mono z
theorem sizeL_cons (l : List UInt8) (r : Lbs) : sizeL (l :: r) = sizeL r + (l.length + 1) := by simp [sizeL]; omega
theorem sizeL_pos (r : Lbs) : 1 ≤ sizeL r := by unfold sizeL; omega
theorem at_app {a b c : List UInt8} {x : UInt8} (h : b = x :: c) (post : List UInt8) (hp : a.length < (a ++ b ++ post).length) : (a ++ b ++ post)[a.length] = x := by
  subst h
  simp
theorem oc2 (to : Int) (h0 : 0 ≤ to) (h1 : to ≤ 16383) : ∃ c d, ocT 2 (49152 + to) = [c, d] ∧ 192 ≤ c.toNat ∧ ptrN c d = to.toNat := by
  refine ⟨ocByte ((49152 + to) / 256), ocByte (49152 + to), by simp [ocT], ?_, ?_⟩
  · have := ocByte_val ((49152 + to) / 256)
    omega
  · have h2 := ocByte_val ((49152 + to) / 256)
    have h3 := ocByte_val (49152 + to)
    unfold ptrN
    omega
theorem read_out (T : List (Lbs × Int)) : ∀ (r : Lbs) (pre post : List UInt8) (low size : Nat) (n0 : Lbs) (fin : Nat), r.all okLab = true → size + (sizeL r - 1) ≤ 255 → TInv (pre ++ pkOut T r ++ post) T → (∀ n to, (n, to) ∈ T → to.toNat < low) →
    pkRun (pre ++ pkOut T r ++ post) pre.length low size n0 fin = ⟨n0 ++ r, if fin = 0 then pre.length + (pkOut T r).length else fin, 0⟩
  | [], pre, post, low, size, n0, fin, _, _, _, _ => by
    have hl : pre.length < (pre ++ pkOut T [] ++ post).length := by simp [pkOut] <;> omega
    rw [pkRun_end hl (by rw [at_app (show pkOut T [] = 0 :: [] from rfl)]; rfl)]
    simp [pkOut]
  | l :: r, pre, post, low, size, n0, fin, hall, hs, hT, hlow => by
    simp only [List.all_cons, Bool.and_eq_true] at hall
    have hl63 := (okLab_iff l).1 hall.1
    have hsc := sizeL_cons l r
    have hsp := sizeL_pos r
    cases hf : pkFind T (l :: r) with
    | some to =>
      have hmem := pkFind_mem hf
      obtain ⟨h0, h1, h2, h3⟩ := hT _ _ hmem
      obtain ⟨c, d, hcd, hc, hp⟩ := oc2 to h0 h1
      have ho : pkOut T (l :: r) = [c, d] := by unfold pkOut; rw [hf]; exact hcd
      rw [ho] at h2 h3 ⊢
      have hl : pre.length < (pre ++ [c, d] ++ post).length := by simp <;> omega
      have hl2 : pre.length + 1 < (pre ++ [c, d] ++ post).length := by simp <;> omega
      have e1 : (pre ++ [c, d] ++ post)[pre.length] = c := at_app rfl post hl
      have e2 : (pre ++ [c, d] ++ post)[pre.length + 1] = d := by
        have : (pre ++ [c, d] ++ post) = (pre ++ [c]) ++ [d] ++ post := by simp
        have h5 := at_app (a := pre ++ [c]) (b := [d]) (c := []) (x := d) rfl post (by simp)
        simp only [this]
        have h6 : pre.length + 1 = (pre ++ [c]).length := by simp
        simp only [h6]
        exact h5
      rw [pkRun_ptr hl (by rw [e1]; omega) hl2 (by rw [e1, e2, hp]; exact hlow _ _ hmem), e1, e2, hp]
      rw [h3 size n0 _ (by split <;> omega) (by rw [hsc] at hs ⊢; exact hs)]
      rfl
    | none =>
      have ho : pkOut T (l :: r) = labB l ++ pkOut T r := by rw [pkOut, hf]
      have ha : pre ++ pkOut T (l :: r) ++ post = (pre ++ labB l) ++ pkOut T r ++ post := by rw [ho]; simp
      have hb : pre ++ pkOut T (l :: r) ++ post = pre ++ labB l ++ (pkOut T r ++ post) := by rw [ho]; simp
      have hop := pkOut_pos T r
      have hlen : (pre ++ pkOut T (l :: r) ++ post).length = pre.length + (l.length + 1) + (pkOut T r).length + post.length := by rw [ha]; simp [labB]; omega
      have hl : pre.length < (pre ++ pkOut T (l :: r) ++ post).length := by omega
      have e1 : (pre ++ pkOut T (l :: r) ++ post)[pre.length] = ocByte l.length := by
        simp only [hb]
        exact at_app (show labB l = ocByte l.length :: l from rfl) _ (by simp [labB] <;> omega)
      have e2 := ocByte_lab l hl63.2
      have hdrop : ((pre ++ pkOut T (l :: r) ++ post).drop (pre.length + 1)).take l.length = l := by
        have : pre ++ pkOut T (l :: r) ++ post = (pre ++ [ocByte l.length]) ++ (l ++ (pkOut T r ++ post)) := by rw [ho]; simp [labB]
        rw [this, show pre.length + 1 = (pre ++ [ocByte l.length]).length by simp, List.drop_left, List.take_left]
      rw [pkRun_label hl (by rw [e1, e2]; omega) (by rw [e1, e2]; exact hl63.2) (by rw [e1, e2, hlen]; omega) (by rw [e1, e2]; omega)]
      simp only [e1, e2, hdrop]
      have hp1 : pre.length + 1 + l.length = (pre ++ labB l).length := by simp [labB]; omega
      rw [hp1, ha, read_out T r (pre ++ labB l) post low (size + (l.length + 1)) (n0 ++ [l]) fin hall.2 (by omega) (by rw [← ha]; exact hT) hlow]
      rw [ho]
      simp only [List.length_append, labB_len, List.append_assoc, List.singleton_append]
      congr 1
      split <;> omega
theorem new_inv (ok : Bool) (T : List (Lbs × Int)) (hok : ok = true) : ∀ (r : Lbs) (pre post : List UInt8), r.all okLab = true → sizeL r ≤ 255 → TInv (pre ++ pkOut T r ++ post) T → (∀ n to, (n, to) ∈ T → to.toNat < pre.length) →
    ∀ n to, (n, to) ∈ pkNew ok T r pre.length → Ent (pre ++ pkOut T r ++ post) n to
  | [], pre, post, _, _, _, _, n, to, h => by simp [pkNew] at h
  | l :: r, pre, post, hall, hs, hT, hlow, n, to, h => by
    have hall' := hall
    simp only [List.all_cons, Bool.and_eq_true] at hall'
    have hsc := sizeL_cons l r
    cases hf : pkFind T (l :: r) with
    | some t => simp [pkNew, hf] at h
    | none =>
      have ho : pkOut T (l :: r) = labB l ++ pkOut T r := by rw [pkOut, hf]
      have ha : pre ++ pkOut T (l :: r) ++ post = (pre ++ labB l) ++ pkOut T r ++ post := by rw [ho]; simp
      simp only [pkNew, hf, List.mem_append] at h
      rcases h with h | h
      · split at h
        · rename_i hc
          simp at h
          obtain ⟨rfl, rfl⟩ := h
          have hop := pkOut_pos T (l :: r)
          refine ⟨by omega, hc.2, by simp; omega, fun size n0 fin hfn hsz => ?_⟩
          rw [Int.toNat_natCast, read_out T (l :: r) pre post pre.length size n0 fin hall hsz hT hlow, if_neg hfn]
        · simp at h
      · rw [ha]
        refine new_inv ok T hok r (pre ++ labB l) post hall'.2 (by omega) (by rw [← ha]; exact hT) (fun n to hm => by have := hlow n to hm; rw [List.length_append]; omega) n to ?_
        have : ((pre ++ labB l).length : Int) = (pre.length : Int) + (l.length + 1) := by simp [labB]
        rw [this]
        exact h
/-- one name put: what is got, and what the table leads to -/
theorem put_step {x : List UInt8} {T : List (Lbs × Int)} {n : Lbs} (h : TInv x T) (hn : checkL n = 0) (ok : Bool) :
    TInv (x ++ pkOut T n) (T ++ pkNew ok T n x.length) ∧ pkGet (x ++ pkOut T n) x.length = ⟨n, x.length + (pkOut T n).length, 0⟩ := by
  obtain ⟨hall, hs⟩ := checkL_ok.1 hn
  have hsp := sizeL_pos n
  have hT : TInv (x ++ pkOut T n ++ []) T := by rw [List.append_nil]; exact h.mono _
  have hlow : ∀ n to, (n, to) ∈ T → to.toNat < x.length := fun n to hm => (h n to hm).2.2.1
  refine ⟨fun k to hm => ?_, ?_⟩
  · rcases List.mem_append.1 hm with hm | hm
    · exact (h k to hm).mono _
    · cases ok with
      | true => simpa using new_inv true T rfl n x [] hall hs hT hlow k to hm
      | false => exact absurd hm (by rw [pkNew_false]; simp)
  · unfold pkGet
    rw [if_neg (by rw [List.length_append]; omega), Int.toNat_natCast]
    have := read_out T n x [] x.length 1 [] 0 hall (by omega) hT hlow
    simpa using this
end Go.Proofs.Ytchjhpipiooibaa
