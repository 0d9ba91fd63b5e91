/- Layer 8: colon.Text. -/
import Derived.Test.YtkchgjakkogejaaDoorColon4
namespace Go.Proofs.YtkchgjakkogejaaDoor
open Go.RowKit Go
set_option linter.unusedVariables false
set_option maxRecDepth 100000
def textC (ip : List UInt8) (z : Int) : List UInt8 := if 0 < z then addrE ip ++ 37 :: Lib.itoa z else addrE ip
theorem itoa_len20 (n : Int) (h0 : 0 ≤ n) (h1 : n ≤ 9223372036854775807) : (Lib.itoa n).length ≤ 20 := by
  obtain ⟨k, rfl⟩ := Int.eq_ofNat_of_zero_le h0
  rw [Lib.itoa_nonneg]
  have key : ∀ (m u : Nat), u < 10 ^ m → (Lib.decDigits u).length ≤ m + 1 := by
    intro m
    induction m with
    | zero => intro u hu; have : u = 0 := by omega
              subst this; rw [Lib.decDigits_one (by decide)]; simp
    | succ m ih =>
      intro u hu
      by_cases h : u < 10
      · rw [Lib.decDigits_one h]; simp
      · rw [Lib.decDigits, dif_neg h, List.length_append]
        have := ih (u / 10) (by rw [Nat.pow_succ] at hu; omega)
        simp only [List.length_cons, List.length_nil]
        omega
  exact key 19 k (by omega)
set_option maxHeartbeats 4000000 in
theorem text_any8 (f z : Int) (ip : List UInt8) (w : World) (hip : ip.length = 16) (hz0 : -9223372036854775808 ≤ z) (hz : z ≤ 9223372036854775807) (hP : P10 w) (hD : DB w) :
    Calls Tryd.prog 8 #[adV f ip z] w fun e w' => e = .returned (.string ⟨(textC ip z).toArray⟩) ∧ Below w.heap.size w w' := by
  have S := Ats.start w
  have hPd : ∀ wr L, Ats w.heap.size w wr L → P10 wr := fun wr L h => hP.below (Nat.le_refl _) h.below
  have hDd : ∀ wr L, Ats w.heap.size w wr L → DB wr := fun wr L h => hD.below (Nat.le_refl _) h.below
  have HPd := Lib.hid hPd
  have HDd := Lib.hid hDd
  have hA := fun w (h : P10 w) (h' : DB w) => address_any8 f z ip w hip h h'
  have hl := addr_len ip
  have hzc := ad_zone f z ip hip
  have hdef : textC ip z = if 0 < z then addrE ip ++ 37 :: Lib.itoa z else addrE ip := rfl
  obtain ⟨a, ha⟩ : ∃ a, a = addrE ip := ⟨_, rfl⟩
  rw [← ha] at hA hl hdef
  have HA := Lib.hid hA
  clear hPd hDd hA ha
  by_cases h0 : 0 < z
  · rw [if_pos h0] at hdef
    have hd : decide ((0 : Int) < z) = true := decide_eq_true h0
    have hdg := fun w (h : P10 w) => digits_num z w hz0 hz h
    have hdl := itoa_len20 z (by omega) hz
    obtain ⟨t, ht⟩ : ∃ t, t = Lib.itoa z := ⟨_, rfl⟩
    rw [← ht] at hdef hdg hdl
    have HE := Lib.hid hdef
    have HN := Lib.hid hdg
    clear hdef hdg ht h0 hP hD
    go_enter Tryd.func8, Tryd.ntmps8
    go_wp2_with (first
      | ((with_reducible show wpList _ _ _ (Oper.mk _ (Op.box _ _) _ _ _ _ :: _) _ _); refine wpList_boxS rfl _ _ rfl (adCs f ip z).toArray rfl S ?_; clear S; intro ga w1 S)
      | ((with_reducible refine (HA.out _ (HPd.out _ _ S) (HDd.out _ _ S)).mono ?_); rintro e w2 ⟨rfl, hb⟩; have S := S.call hb; clear hb)
      | ((with_reducible refine (HN.out _ (HPd.out _ _ S)).mono ?_); rintro e w2 ⟨rfl, hb⟩; have S := S.call hb; clear hb)
      | ((with_reducible show wpList _ _ _ (Oper.mk _ (Op.load _ _) _ _ _ _ :: _) _ _); refine wpList_loadS rfl _ _ rfl S _ rfl 0 _ _ rfl _ Tryd.underlying25 rfl (adSize _ _ _ hip) ?_)
      | ((with_reducible show wpList _ _ _ (Oper.mk _ (Op.load _ _) _ _ _ _ :: _) _ _); refine wpList_cellS rfl _ _ rfl S _ _ rfl 0 _ _ rfl _ Tryd.underlying3 rfl _ (by with_reducible exact hzc) ?_))
    go_ret
    exact ⟨ret_str (by rw [HE.out, ByteArray.mk_append_mk, ByteArray.mk_append_mk]; simp), S.below⟩
  · rw [if_neg h0] at hdef
    have hd : decide ((0 : Int) < z) = false := decide_eq_false h0
    have HE := Lib.hid hdef
    clear hdef h0 hP hD
    go_enter Tryd.func8, Tryd.ntmps8
    go_wp2_with (first
      | ((with_reducible show wpList _ _ _ (Oper.mk _ (Op.box _ _) _ _ _ _ :: _) _ _); refine wpList_boxS rfl _ _ rfl (adCs f ip z).toArray rfl S ?_; clear S; intro ga w1 S)
      | ((with_reducible refine (HA.out _ (HPd.out _ _ S) (HDd.out _ _ S)).mono ?_); rintro e w2 ⟨rfl, hb⟩; have S := S.call hb; clear hb)
      | ((with_reducible show wpList _ _ _ (Oper.mk _ (Op.load _ _) _ _ _ _ :: _) _ _); refine wpList_loadS rfl _ _ rfl S _ rfl 0 _ _ rfl _ Tryd.underlying25 rfl (adSize _ _ _ hip) ?_)
      | ((with_reducible show wpList _ _ _ (Oper.mk _ (Op.load _ _) _ _ _ _ :: _) _ _); refine wpList_cellS rfl _ _ rfl S _ _ rfl 0 _ _ rfl _ Tryd.underlying3 rfl _ (by with_reducible exact hzc) ?_))
    go_ret
    exact ⟨ret_str (by rw [HE.out]), S.below⟩
end Go.Proofs.YtkchgjakkogejaaDoor
