/- The laws of layer 5: DomainTells, DomainHolds, DomainBack. -/
import Derived.Test.YtcdbnnfokophbaaLaw05
namespace Go.Proofs.Ytcdbnnfokophbaa
open Go.RowKit Go
set_option linter.unusedVariables false
/-- a '[]string' that came in, as what the walks ask of it; nil has no room -/
theorem open_texts2 {H : Type} {enc : TypeId × Value → H} {P : Program} {W : World} {t e : TypeId} {A : Option Addr} {n c : Nat} {d : DataW H} {p : List MemPlace} (ht : P.underlying t = some (.slice e)) (he : P.underlying e = some .string) (hc : P.cellsOf e = 1)
    (hk : DataW.Trod enc P W 0 (fun _ => true) true t (.slice A n c) d p) : A = none → c = 0 := by
  obtain ⟨fuel, hf⟩ := hk
  rcases Go.ChangeShapes.open_strings ht he hc hf with ⟨hcs, _⟩ | ⟨a, len, cap, ss, hcs, _⟩
  · simp [Value.cells] at hcs
    exact fun _ => hcs.2.2
  · simp [Value.cells] at hcs
    intro h
    rw [hcs.1] at h
    cases h
set_option maxHeartbeats 4000000 in
theorem tells_core (A : Option Addr) (n c : Nat) (l : List (List UInt8)) (W : World) (hl : TextsAt W A n l) (hx : ∀ x ∈ l, x.length ≤ 140737488351232) :
    Calls Try.prog 4 #[.slice A n c] W fun e w' => e = .returned (.bool true) ∧ Below W.heap.size W w' := by
  have HF := Lib.hid (few_any A n c l W hl hx)
  have HW := Lib.hid (dWorks_any W)
  by_cases hbig : sizeL l ≤ 401
  · rw [decide_eq_true hbig] at HF
    have H1 := Lib.hid (fun w h => check_any A n c l w h (by omega))
    have H2 := Lib.hid (fun w h => refCheck_any A n c l w h (by omega))
    have H3 := Lib.hid (fun w h => size_any A n c l w h (by omega))
    have H4 := Lib.hid (fun w h => refSize_any A n c l w h (by omega))
    have H5 := Lib.hid (fun w h => dText_any A n c l w h (by omega))
    have H6 := Lib.hid (fun w h => refDText_any A n c l w h (by omega))
    have H7 := Lib.hid (fun w h => plain_any A n c l w h (by omega))
    have H8 := Lib.hid (fun w h => refPlain5_any A n c l w h (by omega))
    have H9 := Lib.hid (fun w h => hostD_any A n c l w h (by omega))
    have H10 := Lib.hid (fun w h => refHostD_any A n c l w h (by omega))
    have H11 := Lib.hid (fun w h => lowerD_any A n c l w h (by omega))
    have H12 := Lib.hid (fun w h => refLowerD_any A n c l w h (by omega))
    have hnl := size_len l
    have hll := lowN_len l
    have hlow : (lowN l).length ≤ 4000 := by omega
    obtain ⟨L, hL⟩ : ∃ L, L = lowN l := ⟨_, rfl⟩
    rw [← hL] at H11 H12 hlow
    clear hL hll hx
    go_enter Try.func4, Try.ntmps4
    go_wp2_with fail
    with_reducible refine HF.out.mono ?_
    rintro e w1 ⟨rfl, rfl⟩
    go_wp2_with fail
    with_reducible refine HW.out.mono ?_
    rintro e w2 ⟨rfl, B2⟩
    have ht2 := hl.below B2
    go_wp2_with fail
    with_reducible refine (H1.out w2 ht2).mono ?_
    rintro e w3 ⟨rfl, rfl⟩
    go_wp2_with fail
    with_reducible refine (H2.out w2 ht2).mono ?_
    rintro e w3 ⟨rfl, rfl⟩
    go_wp2_with fail
    with_reducible refine (H3.out w2 ht2).mono ?_
    rintro e w3 ⟨rfl, rfl⟩
    go_wp2_with fail
    with_reducible refine (H4.out w2 ht2).mono ?_
    rintro e w3 ⟨rfl, rfl⟩
    go_wp2_with fail
    with_reducible refine (H5.out w2 ht2).mono ?_
    rintro e w3 ⟨rfl, b3⟩
    have B3 := B2.trans (b3.mono B2.size)
    have ht3 := hl.below B3
    go_wp2_with fail
    with_reducible refine (H6.out w3 ht3).mono ?_
    rintro e w4 ⟨rfl, rfl⟩
    go_wp2_with fail
    with_reducible refine (H7.out w3 ht3).mono ?_
    rintro e w4 ⟨rfl, b4⟩
    have B4 := B3.trans (b4.mono B3.size)
    have ht4 := hl.below B4
    go_wp2_with fail
    with_reducible refine (H8.out w4 ht4).mono ?_
    rintro e w5 ⟨rfl, rfl⟩
    go_wp2_with fail
    with_reducible refine (H9.out w4 ht4).mono ?_
    rintro e w5 ⟨rfl, b5⟩
    have B5 := B4.trans (b5.mono B4.size)
    have ht5 := hl.below B5
    go_wp2_with fail
    with_reducible refine (H10.out w5 ht5).mono ?_
    rintro e w6 ⟨rfl, rfl⟩
    go_wp2_with fail
    with_reducible refine (H11.out w5 ht5).mono ?_
    rintro e w6 ⟨A6, c6, rfl, ht6, b6⟩
    have B6 := B5.trans (b6.mono B5.size)
    go_wp2_with fail
    with_reducible refine (H12.out w6 (hl.below B6)).mono ?_
    rintro e w7 ⟨A7, c7, rfl, ht7, b7⟩
    have B7 := B6.trans (b7.mono B6.size)
    have HE := Lib.hid (refExact_any A6 A7 _ _ c6 c7 L L w7 (ht6.below b7) ht7 hlow hlow)
    rw [show decide (L = L) = true from by simp] at HE
    go_wp2_with fail
    with_reducible refine HE.out.mono ?_
    rintro e w8 ⟨rfl, b8⟩
    go_wp2_with fail
    go_ret
    exact ⟨rfl, B7.trans (b8.mono B7.size)⟩
  · rw [decide_eq_false hbig] at HF
    go_enter Try.func4, Try.ntmps4
    go_wp2_with fail
    with_reducible refine HF.out.mono ?_
    rintro e w1 ⟨rfl, rfl⟩
    go_wp2_with fail
    with_reducible refine HW.out.mono ?_
    rintro e w2 ⟨rfl, B2⟩
    go_wp2_with fail
    go_ret
    exact ⟨rfl, B2⟩
set_option maxHeartbeats 4000000 in
theorem back_core (A : Option Addr) (n c : Nat) (l : List (List UInt8)) (W : World) (hl : TextsAt W A n l) (hx : ∀ x ∈ l, x.length ≤ 140737488351232) :
    Calls Try.prog 6 #[.slice A n c] W fun e w' => e = .returned (.bool true) ∧ Below W.heap.size W w' := by
  have HF := Lib.hid (fun w h => few_any A n c l w h hx)
  have HW := Lib.hid (fun w => dWorks_any w)
  by_cases hbig : sizeL l ≤ 401
  · rw [decide_eq_true hbig] at HF
    have H1 := Lib.hid (fun w h => refCheck_any A n c l w h (by omega))
    by_cases hch : checkL l = 0
    · rw [hch] at H1
      have HPT := Lib.hid (parse_text l hch)
      have HPP := Lib.hid (parse_plain l hch)
      have H2 := Lib.hid (fun w h => dText_any A n c l w h (by omega))
      have H3 := Lib.hid (fun w h => plain_any A n c l w h (by omega))
      have hnl := size_len l
      have e0 := hl.1
      have htl : (wrtL l).length ≤ 2000 ∧ (plainL l).length ≤ 2000 := by
        unfold wrtL plainL
        by_cases h : l = []
        · rw [if_pos h, if_pos h]; simp
        · rw [if_neg h, if_neg h]; have := textD_len l; have := plainD_len l; omega
      obtain ⟨htl, hpl⟩ := htl
      obtain ⟨T, hT⟩ : ∃ T, T = wrtL l := ⟨_, rfl⟩
      obtain ⟨U, hU⟩ : ∃ U, U = plainL l := ⟨_, rfl⟩
      rw [← hT] at htl H2 HPT
      rw [← hU] at hpl H3 HPP
      have hdn : decide (l = []) = ((n : Int) == 0) := by
        rw [e0]
        cases l with
        | nil => rfl
        | cons a l => simp; omega
      rw [hdn] at HPP
      have hT3 : (⟨T.toArray⟩ : ByteArray).size ≤ 3000 := by simpa [ByteArray.size] using (by omega : T.length ≤ 3000)
      have hU3 : (⟨U.toArray⟩ : ByteArray).size ≤ 3000 := by simpa [ByteArray.size] using (by omega : U.length ≤ 3000)
      have HPA := Lib.hid (fun w => parse_any ⟨T.toArray⟩ w hT3)
      have HPB := Lib.hid (fun w => parse_any ⟨U.toArray⟩ w hU3)
      obtain ⟨d0, hd0⟩ : ∃ d, d = ((n : Int) == 0) := ⟨_, rfl⟩
      rw [← hd0] at HPP
      have HD := Lib.hid hd0
      have hln : l.length ≤ 4000 := by omega
      have HEN := Lib.hid e0
      clear hch hT hU hdn hT3 hU3 hd0 e0 hx
      go_enter Try.func6, Try.ntmps6
      go_wp2_with fail
      with_reducible refine (HW.out W).mono ?_
      rintro e w1 ⟨rfl, B1⟩
      have ht1 := hl.below B1
      go_wp2_with fail
      with_reducible refine (HF.out w1 ht1).mono ?_
      rintro e w2 ⟨rfl, rfl⟩
      go_wp2_with fail
      with_reducible refine (H1.out w1 ht1).mono ?_
      rintro e w2 ⟨rfl, rfl⟩
      go_wp2_with fail
      with_reducible refine (H2.out w1 ht1).mono ?_
      rintro e w2 ⟨rfl, b2⟩
      have B2 := B1.trans (b2.mono B1.size)
      go_wp2_with fail
      with_reducible refine (HPA.out w2).mono ?_
      rintro e w3 ⟨A3, c3, he, ht3, b3⟩
      rw [ba_toList, HPT.out] at he ht3
      simp only at he ht3
      subst he
      have B3 := B2.trans (b3.mono B2.size)
      go_wp2_with fail
      with_reducible refine (H3.out w3 (hl.below B3)).mono ?_
      rintro e w4 ⟨rfl, b4⟩
      have B4 := B3.trans (b4.mono B3.size)
      go_wp2_with fail
      with_reducible refine (HPB.out w4).mono ?_
      rintro e w5 ⟨A5, c5, he, ht5, b5⟩
      rw [ba_toList, HPP.out] at he ht5
      simp only at he ht5
      subst he
      have B5 := B4.trans (b5.mono B4.size)
      have ht35 := (ht3.below b4).below b5
      have hl5 := hl.below B5
      have HE := Lib.hid (refExact_any A3 A _ _ c3 c l l w5 ht35 hl5 (by omega) (by rw [HEN.out]; omega))
      have HE2 := Lib.hid (fun w h h2 => refExact_any A5 A l.length n c5 c l l w h h2 (by omega) (by rw [HEN.out]; omega))
      rw [show decide (l = l) = true from by simp] at HE HE2
      clear HPT HPP
      go_wp2_with fail
      with_reducible refine HE.out.mono ?_
      rintro e w6 ⟨rfl, b6⟩
      have B6 := B5.trans (b6.mono B5.size)
      have ht56 := ht5.below b6
      have hl6 := hl.below B6
      have hd1 := HD.out
      subst hd1
      go_wp2_with fail
      with_reducible refine (HE2.out w6 ht56 hl6).mono ?_
      rintro e w7 ⟨rfl, b7⟩
      go_wp2_with fail
      go_ret
      exact ⟨rfl, B6.trans (b7.mono B6.size)⟩
    · have hxb : (checkL l == 0) = false := by simpa using hch
      obtain ⟨y, hy⟩ : ∃ y, y = checkL l := ⟨_, rfl⟩
      rw [← hy] at hxb H1
      clear hy hch
      go_enter Try.func6, Try.ntmps6
      go_wp2_with fail
      with_reducible refine (HW.out W).mono ?_
      rintro e w1 ⟨rfl, B1⟩
      have ht1 := hl.below B1
      go_wp2_with fail
      with_reducible refine (HF.out w1 ht1).mono ?_
      rintro e w2 ⟨rfl, rfl⟩
      go_wp2_with fail
      with_reducible refine (H1.out w1 ht1).mono ?_
      rintro e w2 ⟨rfl, rfl⟩
      go_wp2_with fail
      with_reducible refine (HW.out w1).mono ?_
      rintro e w3 ⟨rfl, b3⟩
      go_wp2_with fail
      go_ret
      exact ⟨rfl, B1.trans (b3.mono B1.size)⟩
  · rw [decide_eq_false hbig] at HF
    go_enter Try.func6, Try.ntmps6
    go_wp2_with fail
    with_reducible refine (HW.out W).mono ?_
    rintro e w1 ⟨rfl, B1⟩
    go_wp2_with fail
    with_reducible refine (HF.out w1 (hl.below B1)).mono ?_
    rintro e w2 ⟨rfl, rfl⟩
    go_wp2_with fail
    with_reducible refine (HW.out w1).mono ?_
    rintro e w3 ⟨rfl, b3⟩
    go_wp2_with fail
    go_ret
    exact ⟨rfl, B1.trans (b3.mono B1.size)⟩
end Go.Proofs.Ytcdbnnfokophbaa
