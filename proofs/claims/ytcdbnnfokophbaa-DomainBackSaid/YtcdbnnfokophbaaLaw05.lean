/- The laws of layer 5: works; DomainParses, DomainAgain. -/
import Derived.Test.YtcdbnnfokophbaaDom3
import Derived.Test.YtcdbnnfokophbaaDom7
import Derived.Test.YtcdbnnfokophbaaDom10
namespace Go.Proofs.Ytcdbnnfokophbaa
open Go.RowKit Go
set_option linter.unusedVariables false
def exN : List (List UInt8) := [[97, 46, 98], [99]]
theorem exN_len : exN.length = 2 := rfl
theorem exN_size : sizeL exN = 7 := by decide
theorem exN_text : wrtL exN = [97, 92, 46, 98, 46, 99, 46] := by decide
theorem exN_plain : plainL exN = [97, 92, 46, 98, 46, 99] := by decide
theorem exN_parse : parseL [97, 92, 46, 98, 46, 99] = (0, exN, false) := by
  rw [← exN_plain, parse_plain exN (by decide)]; rfl
set_option maxHeartbeats 1000000 in
theorem dWorks_any (w : World) : Calls Try.prog 8 #[] w fun e w' => e = .returned (.bool true) ∧ Below w.heap.size w w' := by
  have hp := parse_any ⟨#[97, 92, 46, 98, 46, 99]⟩ w (by decide)
  have HP := Lib.hid hp
  clear hp
  go_enter Try.func8, Try.ntmps8
  go_wp2_with fail
  with_reducible refine HP.out.mono ?_
  rintro e w1 ⟨A, c, he, ht, hb⟩
  rw [show (⟨#[97, 92, 46, 98, 46, 99]⟩ : ByteArray).data.toList = [97, 92, 46, 98, 46, 99] from rfl, exN_parse] at he ht
  simp only at he ht
  rw [exN_len] at he ht
  subst he
  clear HP
  have ht2 : TextsAt (w1.alloc (.cells #[.string ⟨#[97, 46, 98]⟩, .string ⟨#[99]⟩] 9)) A 2 exN := ht.below ((Below.refl _ w1).alloc (Nat.le_refl _) _)
  have HB0 : Below w1.heap.size w1 (w1.alloc (.cells #[.string ⟨#[97, 46, 98]⟩, .string ⟨#[99]⟩] 9)) := (Below.refl _ w1).alloc (Nat.le_refl _) _
  have HE := Lib.hid (refExact_any A (some ⟨w1.heap.size, 0, none⟩) 2 2 c 2 exN [[97, 46, 98], [99]] _ ht2 (textsAt_new2 w1 [97, 46, 98] [99] 9) (by decide) (by decide))
  rw [show decide (exN = [[97, 46, 98], [99]]) = true from rfl] at HE
  go_wp2_with fail
  with_reducible refine HE.out.mono ?_
  rintro e w2 ⟨rfl, hb2⟩
  have ht3 := ht2.below hb2
  have HT := Lib.hid (dText_any A 2 c exN w2 ht3 (by rw [exN_size]; decide))
  rw [exN_text] at HT
  go_wp2_with fail
  with_reducible refine HT.out.mono ?_
  rintro e w3 ⟨rfl, hb3⟩
  have HS := Lib.hid (size_any A 2 c exN w3 (ht3.below hb3) (by rw [exN_size]; decide))
  rw [exN_size] at HS
  go_wp2_with fail
  with_reducible refine HS.out.mono ?_
  rintro e w4 ⟨rfl, rfl⟩
  go_wp2_with fail
  go_ret
  refine ⟨rfl, hb.trans ?_⟩
  have k0 := hb.size
  have k1 := HB0.size
  have k2 := hb2.size
  exact (HB0.mono k0).trans ((hb2.mono (Nat.le_trans k0 k1)).trans (hb3.mono (Nat.le_trans k0 (Nat.le_trans k1 k2))))
theorem ba_toList (T : List UInt8) : (⟨T.toArray⟩ : ByteArray).data.toList = T := by simp
theorem parse_size (s : List UInt8) : sizeL (parseL s).2.1 ≤ 255 := by
  rcases parse_good s with ⟨_, h⟩ | ⟨_, h⟩
  · exact (checkL_ok.1 h).2
  · rw [h]; decide
set_option maxHeartbeats 2000000 in
theorem domainParses_law (a0 : ByteArray) (W : World) (w0 : a0.size ≤ maxLen) : Calls Try.prog 3 #[.string a0] W fun e w' => e = .returned (.bool true) ∧ Below W.heap.size W w' := by
  unfold maxLen at w0
  by_cases hbig : 1200 < a0.size
  · have HW := Lib.hid (dWorks_any W)
    go_enter Try.func3, Try.ntmps3
    go_wp2_with fail
    with_reducible refine HW.out.mono ?_
    rintro e w1 ⟨rfl, hb⟩
    go_wp2_with fail
    go_ret
    exact ⟨rfl, hb⟩
  · have HP := Lib.hid (parse_any a0 W (by omega))
    have hpn : ∀ w, Calls Try.prog 10 #[.string a0] w fun e w' => ParseP a0 w.heap.size w e w' := fun w => refParse_any a0 w (by omega)
    have HPN := Lib.hid hpn
    have hsz := parse_size a0.data.toList
    obtain ⟨x, N, d, hr⟩ : ∃ x N d, parseL a0.data.toList = (x, N, d) := ⟨_, _, _, rfl⟩
    have HR := Lib.hid hr
    rw [hr] at hsz
    simp only at hsz
    have hNl := size_len N
    clear hpn hr
    go_enter Try.func3, Try.ntmps3
    go_wp2_with fail
    with_reducible refine HP.out.mono ?_
    rintro e w1 ⟨A, c, he, ht, hb1⟩
    rw [HR.out] at he ht
    simp only at he ht
    subst he
    go_wp2_with fail
    with_reducible refine (HPN.out w1).mono ?_
    rintro e w2 ⟨A2, c2, he, ht2, hb2⟩
    rw [HR.out] at he ht2
    simp only at he ht2
    subst he
    have HW := Lib.hid (dWorks_any w2)
    go_wp2_with fail
    with_reducible refine HW.out.mono ?_
    rintro e w3 ⟨rfl, hb3⟩
    have HE := Lib.hid (refExact_any A A2 _ _ c c2 N N w3 ((ht.below hb2).below hb3) (ht2.below hb3) (by omega) (by omega))
    rw [show decide (N = N) = true from by simp] at HE
    go_wp2_with fail
    with_reducible refine HE.out.mono ?_
    rintro e w4 ⟨rfl, hb4⟩
    go_wp2_with fail
    go_ret
    have k1 := hb1.size
    have k2 := hb2.size
    have k3 := hb3.size
    exact ⟨rfl, hb1.trans ((hb2.mono k1).trans ((hb3.mono (by omega)).trans (hb4.mono (by omega))))⟩
set_option maxHeartbeats 2000000 in
theorem domainAgain_law (a0 : ByteArray) (W : World) (w0 : a0.size ≤ maxLen) : Calls Try.prog 7 #[.string a0] W fun e w' => e = .returned (.bool true) ∧ Below W.heap.size W w' := by
  unfold maxLen at w0
  have HW := Lib.hid (dWorks_any W)
  by_cases hbig : 1200 < a0.size
  · have HW2 := Lib.hid (fun w => dWorks_any w)
    go_enter Try.func7, Try.ntmps7
    go_wp2_with fail
    with_reducible refine HW.out.mono ?_
    rintro e w1 ⟨rfl, hb⟩
    go_wp2_with fail
    with_reducible refine (HW2.out w1).mono ?_
    rintro e w2 ⟨rfl, hb2⟩
    go_wp2_with fail
    go_ret
    exact ⟨rfl, hb.trans (hb2.mono hb.size)⟩
  · have HP := Lib.hid (fun w => parse_any a0 w (by omega))
    have hgood := parse_good a0.data.toList
    obtain ⟨x, N, d, hr⟩ : ∃ x N d, parseL a0.data.toList = (x, N, d) := ⟨_, _, _, rfl⟩
    have HR := Lib.hid hr
    rw [hr] at hgood
    simp only at hgood
    clear hr
    go_enter Try.func7, Try.ntmps7
    go_wp2_with fail
    with_reducible refine HW.out.mono ?_
    rintro e w1 ⟨rfl, hb⟩
    go_wp2_with fail
    with_reducible refine (HP.out w1).mono ?_
    rintro e w2 ⟨A, c, he, ht, hb2⟩
    rw [HR.out] at he ht
    simp only at he ht
    subst he
    have k1 := hb.size
    have k2 := hb2.size
    rcases hgood with ⟨rfl, hch⟩ | ⟨hx, hN⟩
    · have hsz := (checkL_ok.1 hch).2
      have hNl := size_len N
      have HPT := Lib.hid (parse_text N hch)
      have HCH := Lib.hid hch
      have htl : (wrtL N).length ≤ 2000 := by
        unfold wrtL
        by_cases h : N = []
        · rw [if_pos h]; simp
        · rw [if_neg h]; have := textD_len N; omega
      have HT := Lib.hid (dText_any A _ c N w2 ht (by omega))
      have HT2 := Lib.hid (fun A c w h => dText_any A N.length c N w h (by omega))
      have HCK := Lib.hid (fun w h => check_any A N.length c N w h (by omega))
      rw [hch] at HCK
      obtain ⟨T, hT⟩ : ∃ T, T = wrtL N := ⟨_, rfl⟩
      rw [← hT] at htl HT HT2 HPT
      clear hch hT HP HR
      go_wp2_with fail
      with_reducible refine HT.out.mono ?_
      rintro e w3 ⟨rfl, hb3⟩
      have HP2 := Lib.hid (parse_any ⟨T.toArray⟩ w3 (by simpa [ByteArray.size] using (by omega : T.length ≤ 3000)))
      go_wp2_with fail
      with_reducible refine HP2.out.mono ?_
      rintro e w4 ⟨A4, c4, he, ht4, hb4⟩
      rw [ba_toList, HPT.out] at he ht4
      simp only at he ht4
      subst he
      have ht43 := (ht.below hb3).below hb4
      have HE := Lib.hid (refExact_any A4 A _ _ c4 c N N w4 ht4 ht43 (by omega) (by omega))
      rw [show decide (N = N) = true from by simp] at HE
      clear HPT
      go_wp2_with fail
      with_reducible refine HE.out.mono ?_
      rintro e w5 ⟨rfl, hb5⟩
      go_wp2_with fail
      with_reducible refine (HT2.out A4 c4 w5 (ht4.below hb5)).mono ?_
      rintro e w6 ⟨rfl, hb6⟩
      go_wp2_with fail
      with_reducible refine (HCK.out w6 ((ht43.below hb5).below hb6)).mono ?_
      rintro e w7 ⟨rfl, rfl⟩
      go_wp2_with fail
      go_ret
      have k3 := hb3.size
      have k4 := hb4.size
      have k5 := hb5.size
      exact ⟨rfl, hb.trans ((hb2.mono k1).trans ((hb3.mono (by omega)).trans ((hb4.mono (by omega)).trans ((hb5.mono (by omega)).trans (hb6.mono (by omega))))))⟩
    · obtain ⟨rfl, rfl⟩ : N = [] ∧ d = false := by simpa using hN
      have hxb : (x == 0) = false := by simpa using hx
      clear hN hx
      go_wp2_with fail
      go_ret
      exact ⟨rfl, hb.trans (hb2.mono k1)⟩
end Go.Proofs.Ytcdbnnfokophbaa
