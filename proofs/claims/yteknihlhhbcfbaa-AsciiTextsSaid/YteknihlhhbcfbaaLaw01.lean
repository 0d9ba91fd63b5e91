import Derived.Test.YteknihlhhbcfbaaProg
import Derived.WalkKit
import Derived.WalkSpells
import Derived.WalkLawsBesides
import Derived.Lib.Hide
import Derived.Deep.QuietTactic
import Derived.BigQuiet
import Derived.Test.YteknihlhhbcfbaaMath01
import Derived.Test.YteknihlhhbcfbaaMem
import Derived.Test.YteknihlhhbcfbaaAscii
import Derived.OpenShut
namespace Go.Proofs.Yteknihlhhbcfbaa
open Go.RowKit Go
def numR (l : List UInt8) (most : Int) : Int × Int := if digsB l = false then (0, 5) else if most < numL l then (0, 4) else (numL l, 0)
theorem numP_R {l : List UInt8} {most : Int} {e : Ending} (h : NumP l most e) : e = .returned (.tuple #[.int .i64 (numR l most).1, .int .i64 (numR l most).2]) := by
  unfold numR
  rcases h with ⟨h, he⟩ | ⟨h, h2, he⟩ | ⟨h, h2, he⟩
  · rw [if_pos h]; exact he
  · rw [if_neg (by simp [h]), if_pos h2]; exact he
  · rw [if_neg (by simp [h]), if_neg (by omega)]; exact he
set_option maxHeartbeats 1000000 in
theorem numbers_law (s : ByteArray) (most c : Int) (w : World) (hm0 : -9223372036854775808 ≤ most) (hm1 : most ≤ 9223372036854775807) (h0 : 0 ≤ c) (h1 : c ≤ 255) (hs : s.size ≤ 9223372036854775807) :
    Calls Try.prog 5 #[.string s, .int .i64 most, .int .u8 c] w fun e w' => e = .returned (.bool true) ∧ Below w.heap.size w w' := by
  by_cases hl : 2000 < s.size
  · go_enter Try.func5, Try.ntmps5
    go_wp2_with fail
    refine (works_any w).mono ?_
    rintro e w' ⟨rfl, hb⟩
    go_wp2_with fail
    go_ret
    exact ⟨rfl, hb⟩
  · obtain ⟨n, hn⟩ : ∃ n, n = (numR s.data.toList most).1 := ⟨_, rfl⟩
    obtain ⟨f, hf⟩ : ∃ f, f = (numR s.data.toList most).2 := ⟨_, rfl⟩
    have k1 : ∀ w, Calls Try.prog 18 #[.string s, .int .i64 most] w fun e w' => e = .returned (.tuple #[.int .i64 n, .int .i64 f]) ∧ w = w' := fun w =>
      (number_any s most w (by omega) hm0 hm1).mono fun e w' ⟨h, hw⟩ => ⟨by rw [hn, hf]; exact numP_R h, hw⟩
    have k2 : ∀ w, Calls Try.prog 19 #[.string s, .int .i64 most] w fun e w' => e = .returned (.tuple #[.int .i64 n, .int .i64 f]) ∧ w = w' := fun w =>
      (refNumber_any s most w (by omega) hm0 hm1).mono fun e w' ⟨h, hw⟩ => ⟨by rw [hn, hf]; exact numP_R h, hw⟩
    have K1 := Lib.hid k1
    have K2 := Lib.hid k2
    clear k1 k2 hn hf
    go_enter Try.func5, Try.ntmps5
    go_wp2_with fail
    refine (K1.out w).mono ?_
    rintro e w' ⟨rfl, rfl⟩
    go_wp2_with fail
    refine (K2.out w).mono ?_
    rintro e w' ⟨rfl, rfl⟩
    go_wp2_with fail
    refine (hex_any c w h0 h1).mono ?_
    rintro e w' ⟨rfl, rfl⟩
    go_wp2_with fail
    refine (refHex_any c w h0 h1).mono ?_
    rintro e w' ⟨rfl, rfl⟩
    go_wp2_with fail
    refine (works_any w).mono ?_
    rintro e w' ⟨rfl, hb⟩
    go_wp2_with fail
    go_ret
    exact ⟨rfl, hb⟩
set_option maxHeartbeats 2000000 in
theorem texts_law (s t : ByteArray) (c : Int) (w : World) (h0 : 0 ≤ c) (h1 : c ≤ 255) (hs : s.size ≤ 9223372036854775807) (ht : t.size ≤ 9223372036854775807) :
    Calls Try.prog 3 #[.string s, .string t, .int .u8 c] w fun e w' => e = .returned (.bool true) ∧ Below w.heap.size w w' := by
  by_cases hl : 2000 < s.size ∨ 2000 < t.size
  · by_cases hl1 : 2000 < s.size
    · go_enter Try.func3, Try.ntmps3
      go_wp2_with fail
      refine (works_any w).mono ?_
      rintro e w' ⟨rfl, hb⟩
      go_wp2_with fail
      go_ret
      exact ⟨rfl, hb⟩
    · have hl2 : 2000 < t.size := by omega
      clear hl
      go_enter Try.func3, Try.ntmps3
      go_wp2_with fail
      refine (works_any w).mono ?_
      rintro e w' ⟨rfl, hb⟩
      go_wp2_with fail
      go_ret
      exact ⟨rfl, hb⟩
  · have hl1 : s.size ≤ 2000 := by omega
    have hl2 : t.size ≤ 2000 := by omega
    clear hl
    have hc : ∃ a b z, ∀ e, CutP s c e → e = .returned (.tuple #[.string a, .string b, .bool z]) := by
      by_cases hk : cutK s.data.toList c < s.size
      · refine ⟨s.extract 0 (cutK s.data.toList c), s.extract (cutK s.data.toList c + 1) s.size, true, fun e h => ?_⟩
        rcases h with ⟨_, h⟩ | ⟨h, _⟩
        · exact h
        · omega
      · refine ⟨s, ⟨#[]⟩, false, fun e h => ?_⟩
        rcases h with ⟨h, _⟩ | ⟨_, h⟩
        · omega
        · exact h
    obtain ⟨a, b, z, hcut⟩ := hc
    have HC := Lib.hid hcut
    clear hcut
    have hfl := fieldsL_len s.data.toList
    simp only [Array.length_toList, ByteArray.size_data] at hfl
    go_enter Try.func3, Try.ntmps3
    go_wp2_with fail
    refine (cut_any s c w (by omega) h0 h1).mono ?_
    rintro e w1 ⟨hp, hb1⟩
    obtain rfl := HC.out e hp
    clear hp
    go_wp2_with fail
    refine (refCut_any s c w1 (by omega)).mono ?_
    rintro e w2 ⟨hp, hb2⟩
    obtain rfl := HC.out e hp
    clear hp
    go_wp2_with fail
    refine (works_any w2).mono ?_
    rintro e w3 ⟨rfl, hb3⟩
    go_wp2_with fail
    refine (lower_any s w3 (by omega)).mono ?_
    rintro e w4 ⟨rfl, hb4⟩
    go_wp2_with fail
    refine (refLower_any s w4 (by omega)).mono ?_
    rintro e w5 ⟨rfl, hb5⟩
    go_wp2_with fail
    refine (same_any s t w5 (by omega) (by omega)).mono ?_
    rintro e w6 ⟨rfl, hb6⟩
    go_wp2_with fail
    refine (refSame_any s t w6 (by omega) (by omega)).mono ?_
    rintro e w7 ⟨rfl, hb7⟩
    go_wp2_with fail
    refine (fields_texts s w7 (by omega)).mono ?_
    rintro e w8 ⟨A, ca, rfl, hta, hb8⟩
    go_wp2_with fail
    refine (refFields_texts s w8 (by omega)).mono ?_
    rintro e w9 ⟨B, cb, rfl, htb, hb9⟩
    have h2 := hb1.size
    have h3 := hb2.size
    have h4 := hb3.size
    have h5 := hb4.size
    have h6 := hb5.size
    have h7 := hb6.size
    have h8 := hb7.size
    have h9 := hb8.size
    have h10 := hb9.size
    go_wp2_with fail
    refine (sameTexts_any A B _ _ ca cb _ _ w9 (hta.below hb9) htb (by omega) (by omega)).mono ?_
    rintro e w10 ⟨rfl, hb10⟩
    rw [decide_eq_true rfl]
    go_wp2_with fail
    go_ret
    exact ⟨rfl, (((((((((hb1.trans (hb2.mono (by omega))).trans (hb3.mono (by omega))).trans (hb4.mono (by omega))).trans (hb5.mono (by omega))).trans (hb6.mono (by omega))).trans (hb7.mono (by omega))).trans (hb8.mono (by omega))).trans (hb9.mono (by omega))).trans (hb10.mono (by omega)))⟩
theorem asciiNumbers_law (a0 : ByteArray) (a1 a2 : Int) (W : World) (w0 : a0.size ≤ maxLen) (w1 : (Lit.int .i64 a1).wf = true) (w2 : (Lit.int .u8 a2).wf = true) :
    Calls Try.prog 5 #[.string a0, .int .i64 a1, .int .u8 a2] W fun e w' => e = .returned (.bool true) ∧ Below W.heap.size W w' := by
  have b1 := bounds_i64 w1
  have b2 := bounds_u8 w2
  unfold maxLen at w0
  exact numbers_law a0 a1 a2 W b1.1 b1.2 b2.1 b2.2 w0
theorem asciiTexts_law (a0 a1 : ByteArray) (a2 : Int) (W : World) (w0 : a0.size ≤ maxLen) (w1 : a1.size ≤ maxLen) (w2 : (Lit.int .u8 a2).wf = true) :
    Calls Try.prog 3 #[.string a0, .string a1, .int .u8 a2] W fun e w' => e = .returned (.bool true) ∧ Below W.heap.size W w' := by
  have b2 := bounds_u8 w2
  unfold maxLen at w0 w1
  exact texts_law a0 a1 a2 W b2.1 b2.2 w0 w1
end Go.Proofs.Yteknihlhhbcfbaa
