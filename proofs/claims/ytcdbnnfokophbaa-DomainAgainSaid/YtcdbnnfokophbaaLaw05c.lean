/- The laws of layer 5: DomainHolds; the three as the frame asks for them. -/
import Derived.Test.YtcdbnnfokophbaaLaw05b
namespace Go.Proofs.Ytcdbnnfokophbaa
open Go.RowKit Go
set_option linter.unusedVariables false
theorem under_cat (la lb : List (List UInt8)) : underN (la ++ lb) lb = true := by
  unfold underN sameN
  rw [show (la ++ lb).length - lb.length = la.length by simp, List.drop_left]
  simp
set_option maxHeartbeats 4000000 in
theorem holds_core (A B : Option Addr) (n m c d : Nat) (la lb : List (List UInt8)) (W : World) (ha : TextsAt W A n la) (hb : TextsAt W B m lb) (hnc : n ≤ c) (hA : A = none → c = 0) (hB : B = none → d = 0)
    (hxa : ∀ x ∈ la, x.length ≤ 140737488351232) (hxb : ∀ x ∈ lb, x.length ≤ 140737488351232) :
    Calls Try.prog 5 #[.slice A n c, .slice B m d] W fun e w' => e = .returned (.bool true) ∧ Below W.heap.size W w' := by
  have HF1 := Lib.hid (few_any A n c la W ha hxa)
  have HF2 := Lib.hid (few_any B m d lb W hb hxb)
  have HW := Lib.hid (fun w => dWorks_any w)
  by_cases hbig : sizeL la ≤ 401
  · rw [decide_eq_true hbig] at HF1
    by_cases hbig2 : sizeL lb ≤ 401
    · rw [decide_eq_true hbig2] at HF2
      have H1 := Lib.hid (fun w h h2 => cat_any A B n m c d la lb w h h2 hA hB (by omega) (by omega))
      have H2 := Lib.hid (fun w h h2 => refCat_any A B n m c d la lb w h h2 hA hB (by omega) (by omega))
      have H3 := Lib.hid (fun w h h2 => sameD_any A B n m c d la lb w h h2 (by omega) (by omega))
      have H4 := Lib.hid (fun w h h2 => refSameD_any A B n m c d la lb w h h2 (by omega) (by omega))
      have H5 := Lib.hid (fun w h h2 => under_any A B n m c d la lb w h h2 (by omega) (by omega))
      have H6 := Lib.hid (fun w h h2 => refUnder_any A B n m c d la lb w h h2 hnc hA (by omega) (by omega))
      have hcat : ∃ N x, N = (if checkL (la ++ lb) = 0 then la ++ lb else []) ∧ x = checkL (la ++ lb) ∧ sizeL N ≤ 1000 ∧ (x ≠ 0 ∨ underN N lb = true) := by
        refine ⟨_, _, rfl, rfl, ?_, ?_⟩
        · by_cases h : checkL (la ++ lb) = 0
          · rw [if_pos h]; have := (checkL_ok.1 h).2; omega
          · rw [if_neg h]; decide
        · by_cases h : checkL (la ++ lb) = 0
          · rw [if_pos h]; exact .inr (under_cat la lb)
          · exact .inl h
      obtain ⟨N, x, hN, hx, hsz, hlast⟩ := hcat
      have hNl := size_len N
      have HN := Lib.hid hN; have HX := Lib.hid hx
      have HL := Lib.hid hlast
      clear hN hx hlast hxa hxb
      go_enter Try.func5, Try.ntmps5
      go_wp2_with fail
      with_reducible refine HF1.out.mono ?_
      rintro e w1 ⟨rfl, rfl⟩
      go_wp2_with fail
      with_reducible refine HF2.out.mono ?_
      rintro e w1 ⟨rfl, rfl⟩
      go_wp2_with fail
      with_reducible refine (H1.out W ha hb).mono ?_
      rintro e w1 ⟨A1, c1, he, ht1, B1⟩
      rw [← HN.out, ← HX.out] at he
      rw [← HN.out] at ht1
      subst he
      go_wp2_with fail
      with_reducible refine (H2.out w1 (ha.below B1) (hb.below B1)).mono ?_
      rintro e w2 ⟨A2, c2, he, ht2, b2⟩
      rw [← HN.out, ← HX.out] at he
      rw [← HN.out] at ht2
      subst he
      have ht12 := ht1.below b2
      have B2 := B1.trans (b2.mono B1.size)
      go_wp2_with fail
      with_reducible refine (HW.out w2).mono ?_
      rintro e w3 ⟨rfl, b3⟩
      have B3 := B2.trans (b3.mono B2.size)
      go_wp2_with fail
      with_reducible refine (H3.out w3 (ha.below B3) (hb.below B3)).mono ?_
      rintro e w4 ⟨rfl, b4⟩
      have B4 := B3.trans (b4.mono B3.size)
      go_wp2_with fail
      with_reducible refine (H4.out w4 (ha.below B4) (hb.below B4)).mono ?_
      rintro e w5 ⟨rfl, b5⟩
      have B5 := B4.trans (b5.mono B4.size)
      go_wp2_with fail
      with_reducible refine (H5.out w5 (ha.below B5) (hb.below B5)).mono ?_
      rintro e w6 ⟨rfl, b6⟩
      have B6 := B5.trans (b6.mono B5.size)
      go_wp2_with fail
      with_reducible refine (H6.out w6 (ha.below B6) (hb.below B6)).mono ?_
      rintro e w7 ⟨rfl, b7⟩
      have B7 := B6.trans (b7.mono B6.size)
      have ht17 := ((((ht12.below b3).below b4).below b5).below b6).below b7
      have ht27 := ((((ht2.below b3).below b4).below b5).below b6).below b7
      have HE := Lib.hid (refExact_any A1 A2 _ _ c1 c2 N N w7 ht17 ht27 (by omega) (by omega))
      rw [show decide (N = N) = true from by simp] at HE
      go_wp2_with fail
      with_reducible refine HE.out.mono ?_
      rintro e w8 ⟨rfl, b8⟩
      have B8 := B7.trans (b8.mono B7.size)
      by_cases h0 : x = 0
      · subst h0
        have hu : underN N lb = true := HL.out.elim (fun h => absurd rfl h) id
        have H7 := Lib.hid (under_any A1 B _ m c1 d N lb w8 (ht17.below b8) (hb.below B8) (by omega) (by omega))
        rw [hu] at H7
        clear hu
        go_wp2_with fail
        with_reducible refine H7.out.mono ?_
        rintro e w9 ⟨rfl, b9⟩
        go_wp2_with fail
        go_ret
        exact ⟨rfl, B8.trans (b9.mono B8.size)⟩
      · go_wp2_with fail
        go_ret
        exact ⟨rfl, B8⟩
    · rw [decide_eq_false hbig2] at HF2
      go_enter Try.func5, Try.ntmps5
      go_wp2_with fail
      with_reducible refine HF1.out.mono ?_
      rintro e w1 ⟨rfl, rfl⟩
      go_wp2_with fail
      with_reducible refine HF2.out.mono ?_
      rintro e w1 ⟨rfl, rfl⟩
      go_wp2_with fail
      with_reducible refine (HW.out W).mono ?_
      rintro e w1 ⟨rfl, B1⟩
      go_wp2_with fail
      go_ret
      exact ⟨rfl, B1⟩
  · rw [decide_eq_false hbig] at HF1
    go_enter Try.func5, Try.ntmps5
    go_wp2_with fail
    with_reducible refine HF1.out.mono ?_
    rintro e w1 ⟨rfl, rfl⟩
    go_wp2_with fail
    with_reducible refine (HW.out W).mono ?_
    rintro e w1 ⟨rfl, B1⟩
    go_wp2_with fail
    go_ret
    exact ⟨rfl, B1⟩
theorem domainTells_law {H : Type} {enc : TypeId × Value → H} {d0 : DataW H} {p0 : List MemPlace} {base : Nat} (v0 : Value) (W : World) (o0 : Value.okWide Try.prog W .any base 24 v0)
    (k0 : DataW.Trod enc Try.prog W 0 (fun _ => true) true 24 v0 d0 p0) (z0 : (d0.weights Try.prog 24).all (· ≤ reachBytes) = true) :
    Calls Try.prog 4 #[v0] W fun e w' => e = .returned (.bool true) ∧ Below W.heap.size W w' := by
  obtain ⟨A, n, c, rfl⟩ := Go.WideShapes.okWide_slice Try.underlying24 o0
  obtain ⟨l, hl, hc, _, hx, hb⟩ := open_texts Try.underlying24 Try.underlying9 (by kernel_rfl) k0 z0
  exact tells_core A n c l W hl hx
theorem domainBack_law {H : Type} {enc : TypeId × Value → H} {d0 : DataW H} {p0 : List MemPlace} {base : Nat} (v0 : Value) (W : World) (o0 : Value.okWide Try.prog W .any base 24 v0)
    (k0 : DataW.Trod enc Try.prog W 0 (fun _ => true) true 24 v0 d0 p0) (z0 : (d0.weights Try.prog 24).all (· ≤ reachBytes) = true) :
    Calls Try.prog 6 #[v0] W fun e w' => e = .returned (.bool true) ∧ Below W.heap.size W w' := by
  obtain ⟨A, n, c, rfl⟩ := Go.WideShapes.okWide_slice Try.underlying24 o0
  obtain ⟨l, hl, hc, _, hx, hb⟩ := open_texts Try.underlying24 Try.underlying9 (by kernel_rfl) k0 z0
  exact back_core A n c l W hl hx
theorem domainHolds_law {H : Type} {enc : TypeId × Value → H} {d0 d1 : DataW H} {p0 p1 : List MemPlace} {base : Nat} (v0 v1 : Value) (W : World) (o0 : Value.okWide Try.prog W .any base 24 v0)
    (k0 : DataW.Trod enc Try.prog W 0 (fun _ => true) true 24 v0 d0 p0) (z0 : (d0.weights Try.prog 24).all (· ≤ reachBytes) = true) (o1 : Value.okWide Try.prog W .any base 24 v1)
    (k1 : DataW.Trod enc Try.prog W 0 (fun _ => true) true 24 v1 d1 p1) (z1 : (d1.weights Try.prog 24).all (· ≤ reachBytes) = true) :
    Calls Try.prog 5 #[v0, v1] W fun e w' => e = .returned (.bool true) ∧ Below W.heap.size W w' := by
  obtain ⟨A, n, c, rfl⟩ := Go.WideShapes.okWide_slice Try.underlying24 o0
  obtain ⟨B, m, d, rfl⟩ := Go.WideShapes.okWide_slice Try.underlying24 o1
  obtain ⟨la, hla, hc, _, hx, hb⟩ := open_texts Try.underlying24 Try.underlying9 (by kernel_rfl) k0 z0
  obtain ⟨lb, hlb, hc2, _, hx2, hb2⟩ := open_texts Try.underlying24 Try.underlying9 (by kernel_rfl) k1 z1
  exact holds_core A B n m c d la lb W hla hlb hc (open_texts2 Try.underlying24 Try.underlying9 (by kernel_rfl) k0) (open_texts2 Try.underlying24 Try.underlying9 (by kernel_rfl) k1) hx hx2
end Go.Proofs.Ytcdbnnfokophbaa
