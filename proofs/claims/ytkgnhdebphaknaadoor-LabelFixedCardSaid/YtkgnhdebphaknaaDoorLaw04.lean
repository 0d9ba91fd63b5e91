/- The laws of layer 4. -/
import Derived.Test.YtkgnhdebphaknaaDoorLabel6
import Derived.Test.YtkgnhdebphaknaaDoorMathEx
namespace Go.Proofs.YtkgnhdebphaknaaDoor
open Go.RowKit Go
set_option linter.unusedVariables false
theorem ascii_back_up {s a x : List UInt8} (hf : farB s = true) (h : asciiE s = (a, 0)) (hx : x.map lowB = a) : uniE x = s.map lowB := by
  obtain ⟨ks, P, rfl, hi⟩ := far_is hf h
  obtain ⟨h1, h2, h3⟩ := far_host hi
  have hd : (x.map lowB).drop 4 = P := by rw [hx]; rfl
  have ht : (x.map lowB).take 4 = sgn := by rw [hx]; rfl
  refine uniE_yes (by rw [hx]; exact h1) ht (by rw [hd, hi.dec]) (by rw [hd, hi.dec]; exact runes_text _ _ _ (Nat.le_refl _) hi.runes) ?_
  rw [asciiE_low, h, hx]
theorem far_ex : farB [66, 195, 188, 99, 104, 101, 114] = true := by decide +kernel
theorem asc_ex : asciiE [66, 195, 188, 99, 104, 101, 114] = ([120, 110, 45, 45, 98, 99, 104, 101, 114, 45, 107, 118, 97], 0) := by
  have hm : ([66, 195, 188, 99, 104, 101, 114] : List UInt8).map lowB = [98, 195, 188, 99, 104, 101, 114] := by decide +kernel
  have ht : textL [98, 252, 99, 104, 101, 114] = some [98, 195, 188, 99, 104, 101, 114] := by decide +kernel
  have hr : runesL (([66, 195, 188, 99, 104, 101, 114] : List UInt8).map lowB) = some [98, 252, 99, 104, 101, 114] := by rw [hm]; exact text_runes _ _ ht
  have hf : fitB [98, 252, 99, 104, 101, 114] = true := by decide +kernel
  rw [asciiE_ok far_ex hr hf (by rw [enc_ex]) (by rw [enc_ex]; decide), enc_ex]
  rfl
theorem uni_ex : uniE [88, 78, 45, 45, 66, 67, 72, 69, 82, 45, 75, 86, 65] = [98, 195, 188, 99, 104, 101, 114] := by
  rw [ascii_back_up far_ex asc_ex (by decide +kernel)]
  decide +kernel
theorem host_ex1 : hostB [97, 45, 49] = true := by decide +kernel
theorem host_ex2 : hostB [45, 97] = false := by decide +kernel
theorem u8_alike {w w' : World} (h : U8 w) (hb : Below w.heap.size w w') : U8 w' := h.below hb
set_option maxHeartbeats 1000000 in
theorem works04_any (w : World) (hT : U8 w) : Calls Tryd.prog 6 #[] w fun e w' => e = .returned (.bool true) ∧ Below w.heap.size w w' := by
  have h1 := toAscii_any (⟨#[66, 195, 188, 99, 104, 101, 114]⟩ : ByteArray) w hT (by decide)
  have h2 := fun w1 (hb : Below w.heap.size w w1) => toUni_any (⟨#[88, 78, 45, 45, 66, 67, 72, 69, 82, 45, 75, 86, 65]⟩ : ByteArray) w1 (hT.below hb) (by decide)
  have h3 := fun w1 => host_any (⟨#[97, 45, 49]⟩ : ByteArray) w1 (by decide)
  have h4 := fun w1 => host_any (⟨#[45, 97]⟩ : ByteArray) w1 (by decide)
  have e1 : asciiE (⟨#[66, 195, 188, 99, 104, 101, 114]⟩ : ByteArray).data.toList = ([120, 110, 45, 45, 98, 99, 104, 101, 114, 45, 107, 118, 97], 0) := asc_ex
  have e2 : uniE (⟨#[88, 78, 45, 45, 66, 67, 72, 69, 82, 45, 75, 86, 65]⟩ : ByteArray).data.toList = [98, 195, 188, 99, 104, 101, 114] := uni_ex
  have e3 : hostB (⟨#[97, 45, 49]⟩ : ByteArray).data.toList = true := host_ex1
  have e4 : hostB (⟨#[45, 97]⟩ : ByteArray).data.toList = false := host_ex2
  rw [e1] at h1
  rw [e2] at h2
  rw [e3] at h3
  rw [e4] at h4
  have H1 := Lib.hid h1
  have H2 := Lib.hid h2
  have H3 := Lib.hid h3
  have H4 := Lib.hid h4
  clear h1 h2 h3 h4 e1 e2 e3 e4
  go_enter Tryd.func6, Tryd.ntmps6
  go_wp2_with fail
  ((with_reducible refine H1.out.mono ?_))
  rintro e w1 ⟨rfl, hb1⟩
  go_wp2_with fail
  ((with_reducible refine (H2.out _ hb1).mono ?_))
  rintro e w2 ⟨rfl, hb2⟩
  have HB2 := hb1.trans (hb2.mono hb1.size)
  go_wp2_with fail
  ((with_reducible refine (H3.out _).mono ?_))
  rintro e w3 ⟨rfl, hb3⟩
  have HB3 := HB2.trans (hb3.mono HB2.size)
  go_wp2_with fail
  ((with_reducible refine (H4.out _).mono ?_))
  rintro e w4 ⟨rfl, hb4⟩
  have HB4 := HB3.trans (hb4.mono HB3.size)
  go_wp2_with fail
  go_ret
  exact ⟨rfl, HB4⟩
theorem ret_tt {b : Bool} (h : b = true) : Ending.returned (.bool b) = .returned (.bool true) := by rw [h]
set_option maxHeartbeats 1000000 in
theorem does_law (s : ByteArray) (w : World) (hT : U8 w) (hs : s.size ≤ 9223372036854775807) :
    Calls Tryd.prog 3 #[.string s] w fun e w' => e = .returned (.bool true) ∧ Below w.heap.size w w' := by
  by_cases hbig : 300 < s.size
  · go_enter Tryd.func3, Tryd.ntmps3
    go_wp2_with fail
    ((with_reducible refine (works04_any w hT).mono ?_))
    rintro e w1 ⟨rfl, hb1⟩
    go_wp2
    go_ret
    exact ⟨rfl, hb1⟩
  obtain ⟨a, ha⟩ : ∃ a : ByteArray, a = ⟨(asciiE s.data.toList).1.toArray⟩ := ⟨_, rfl⟩
  obtain ⟨x, hx⟩ : ∃ x, x = (asciiE s.data.toList).2 := ⟨_, rfl⟩
  obtain ⟨u, hu⟩ : ∃ u : ByteArray, u = ⟨(uniE s.data.toList).toArray⟩ := ⟨_, rfl⟩
  obtain ⟨h, hh⟩ : ∃ h, h = hostB s.data.toList := ⟨_, rfl⟩
  have c1 := fun w hT => toAscii_any s w hT (by omega)
  have c2 := fun w => refToAscii_any s w (by omega)
  have c3 := fun w => host_any s w hs
  have c4 := fun w => refHost_any s w hs
  have c5 := fun w hT => toUni_any s w hT (by omega)
  have c6 := fun w => refToUni_any s w (by omega)
  rw [← ha, ← hx] at c1 c2
  rw [← hh] at c3 c4
  rw [← hu] at c5 c6
  have C1 := Lib.hid c1
  have C2 := Lib.hid c2
  have C3 := Lib.hid c3
  have C4 := Lib.hid c4
  have C5 := Lib.hid c5
  have C6 := Lib.hid c6
  clear c1 c2 c3 c4 c5 c6 ha hx hu hh
  go_enter Tryd.func3, Tryd.ntmps3
  go_wp2_with fail
  ((with_reducible refine (C1.out w hT).mono ?_))
  rintro e w1 ⟨rfl, hb1⟩
  go_wp2_with fail
  ((with_reducible refine (C2.out w1).mono ?_))
  rintro e w2 ⟨rfl, hb2⟩
  have HB2 := hb1.trans (hb2.mono hb1.size)
  go_wp2_with fail
  ((with_reducible refine (works04_any w2 (hT.below HB2)).mono ?_))
  rintro e w3 ⟨rfl, hb3⟩
  have HB3 := HB2.trans (hb3.mono HB2.size)
  go_wp2_with fail
  ((with_reducible refine (C3.out w3).mono ?_))
  rintro e w4 ⟨rfl, hb4⟩
  have HB4 := HB3.trans (hb4.mono HB3.size)
  go_wp2_with fail
  ((with_reducible refine (C4.out w4).mono ?_))
  rintro e w5 ⟨rfl, rfl⟩
  go_wp2_with fail
  ((with_reducible refine (C5.out w4 (hT.below HB4)).mono ?_))
  rintro e w5 ⟨rfl, hb5⟩
  have HB5 := HB4.trans (hb5.mono HB4.size)
  go_wp2_with fail
  ((with_reducible refine (C6.out w5).mono ?_))
  rintro e w6 ⟨rfl, hb6⟩
  have HB6 := HB5.trans (hb6.mono HB5.size)
  go_wp2_with fail
  go_ret
  exact ⟨ret_tt (by simp), HB6⟩
theorem labelDoes_law (a0 : ByteArray) (W : World) (w0 : a0.size ≤ maxLen) (hT : U8 W) :
    Calls Tryd.prog 3 #[.string a0] W fun e w' => e = .returned (.bool true) ∧ Below W.heap.size W w' := by
  unfold maxLen at w0
  exact does_law a0 W hT w0
theorem asc_nil {s : List UInt8} (h : (asciiE s).2 ≠ 0) : (asciiE s).1 = [] := by
  unfold asciiE at h ⊢
  split
  · rename_i h1
    rw [if_pos h1] at h
    split
    · rename_i h2; rw [if_pos h2] at h; simp at h
    · rfl
  · rename_i h1
    rw [if_neg h1] at h
    split
    · rfl
    · rename_i ks hks
      rw [hks] at h
      simp only at h
      split
      · rfl
      · rename_i h2
        rw [if_neg h2] at h
        split
        · rfl
        · rename_i h3
          rw [if_neg h3] at h
          split
          · rfl
          · rename_i h4
            rw [if_neg h4] at h
            simp at h
set_option maxHeartbeats 1000000 in
theorem fixed_law (s : ByteArray) (w : World) (hT : U8 w) (hs : s.size ≤ 9223372036854775807) :
    Calls Tryd.prog 4 #[.string s] w fun e w' => e = .returned (.bool true) ∧ Below w.heap.size w w' := by
  by_cases hbig : 300 < s.size
  · go_enter Tryd.func4, Tryd.ntmps4
    go_wp2_with fail
    ((with_reducible refine (works04_any w hT).mono ?_))
    rintro e w1 ⟨rfl, hb1⟩
    go_wp2_with fail
    ((with_reducible refine (works04_any w1 (hT.below hb1)).mono ?_))
    rintro e w2 ⟨rfl, hb2⟩
    go_wp2
    go_ret
    exact ⟨rfl, hb1.trans (hb2.mono hb1.size)⟩
  obtain ⟨a, ha⟩ : ∃ a : ByteArray, a = ⟨(asciiE s.data.toList).1.toArray⟩ := ⟨_, rfl⟩
  obtain ⟨x, hx⟩ : ∃ x, x = (asciiE s.data.toList).2 := ⟨_, rfl⟩
  have c1 := fun w hT => toAscii_any s w hT (by omega)
  rw [← ha, ← hx] at c1
  have C1 := Lib.hid c1
  by_cases hx0 : x = 0
  · have hal : a.data.toList = (asciiE s.data.toList).1 := by rw [ha]
    have hp : asciiE s.data.toList = (a.data.toList, 0) := by rw [hal, ← hx0, hx]
    obtain ⟨f1, f2, f3, f4⟩ := ascii_fixed hp
    have haz : a.size ≤ 63 := by have : a.data.toList.length = a.size := by simp
                                 omega
    have c2 := fun w hT => toAscii_any a w hT (by omega)
    rw [f1, ba_self] at c2
    have c3 := fun w => refHost_any a w (by omega)
    rw [f3] at c3
    have c4 := fun w => refLower_any a w (by omega)
    rw [f4, ba_self] at c4
    have C2 := Lib.hid c2
    have C3 := Lib.hid c3
    have C4 := Lib.hid c4
    clear c1 c2 c3 c4 f1 f2 f3 f4 hp hal ha hx
    subst hx0
    go_enter Tryd.func4, Tryd.ntmps4
    go_wp2_with fail
    ((with_reducible refine (works04_any w hT).mono ?_))
    rintro e w1 ⟨rfl, hb1⟩
    go_wp2_with fail
    ((with_reducible refine (C1.out w1 (hT.below hb1)).mono ?_))
    rintro e w2 ⟨rfl, hb2⟩
    have HB2 := hb1.trans (hb2.mono hb1.size)
    go_wp2_with fail
    ((with_reducible refine (C2.out w2 (hT.below HB2)).mono ?_))
    rintro e w3 ⟨rfl, hb3⟩
    have HB3 := HB2.trans (hb3.mono HB2.size)
    go_wp2_with fail
    ((with_reducible refine (C3.out w3).mono ?_))
    rintro e w4 ⟨rfl, rfl⟩
    go_wp2_with fail
    ((with_reducible refine (C4.out w3).mono ?_))
    rintro e w5 ⟨rfl, hb5⟩
    have HB5 := HB3.trans (hb5.mono HB3.size)
    go_wp2_with fail
    go_ret
    exact ⟨ret_tt (by simp), HB5⟩
  · have hn := asc_nil (s := s.data.toList) (by rw [← hx]; exact hx0)
    have hae : a = ⟨#[]⟩ := by rw [ha, hn]
    have hx1 : (x == 0) = false := by simpa using hx0
    clear c1 ha hx hn
    subst hae
    go_enter Tryd.func4, Tryd.ntmps4
    go_wp2_with fail
    ((with_reducible refine (works04_any w hT).mono ?_))
    rintro e w1 ⟨rfl, hb1⟩
    go_wp2_with fail
    ((with_reducible refine (C1.out w1 (hT.below hb1)).mono ?_))
    rintro e w2 ⟨rfl, hb2⟩
    have HB2 := hb1.trans (hb2.mono hb1.size)
    go_wp2
    go_ret
    exact ⟨ret_tt (by decide), HB2⟩
theorem ba_eqb {a b : ByteArray} (h : a = b) : (a.toList == b.toList) = true := by subst h; simp
set_option maxHeartbeats 4000000 in
theorem back_law (s : ByteArray) (w : World) (hT : U8 w) (hs : s.size ≤ 9223372036854775807) :
    Calls Tryd.prog 5 #[.string s] w fun e w' => e = .returned (.bool true) ∧ Below w.heap.size w w' := by
  by_cases hbig : 300 < s.size
  · go_enter Tryd.func5, Tryd.ntmps5
    go_wp2_with fail
    ((with_reducible refine (works04_any w hT).mono ?_))
    rintro e w1 ⟨rfl, hb1⟩
    go_wp2_with fail
    ((with_reducible refine (works04_any w1 (hT.below hb1)).mono ?_))
    rintro e w2 ⟨rfl, hb2⟩
    go_wp2
    go_ret
    exact ⟨rfl, hb1.trans (hb2.mono hb1.size)⟩
  obtain ⟨a, ha⟩ : ∃ a : ByteArray, a = ⟨(asciiE s.data.toList).1.toArray⟩ := ⟨_, rfl⟩
  obtain ⟨x, hx⟩ : ∃ x, x = (asciiE s.data.toList).2 := ⟨_, rfl⟩
  obtain ⟨u, hu⟩ : ∃ u : ByteArray, u = ⟨(uniE s.data.toList).toArray⟩ := ⟨_, rfl⟩
  obtain ⟨l, hl⟩ : ∃ l : ByteArray, l = ⟨(s.data.toList.map lowB).toArray⟩ := ⟨_, rfl⟩
  have c1 := fun w hT => toAscii_any s w hT (by omega)
  have c2 := fun w hT => toUni_any s w hT (by omega)
  have c3 := fun w => refLower_any s w (by omega)
  have c4 := fun w => refFar_any s w (by omega)
  rw [← ha, ← hx] at c1
  rw [← hu] at c2
  rw [← hl] at c3
  obtain ⟨f, hf⟩ : ∃ f, f = farB s.data.toList := ⟨_, rfl⟩
  rw [← hf] at c4
  have C1 := Lib.hid c1
  have C2 := Lib.hid c2
  have C3 := Lib.hid c3
  have C4 := Lib.hid c4
  have hue : (u.toList == s.toList) = true ∨ ((u.toList == s.toList) = false ∧ ∀ w, U8 w → Calls Tryd.prog 7 #[.string u] w fun e w' => e = .returned (.tuple #[.string l, .int .i64 0]) ∧ Below w.heap.size w w') := by
    rcases uni_back s.data.toList with h | ⟨h1, h2⟩
    · left; apply ba_eqb; rw [hu, h]
    · cases hq : (u.toList == s.toList) with
      | true => exact .inl rfl
      | false =>
        right
        refine ⟨rfl, fun w hT => ?_⟩
        rw [hu, hl]
        exact asc_at w hT h2 h1
  have hfe : x = 0 → f = true → a.size ≤ 63 ∧ ∀ w, U8 w → Calls Tryd.prog 11 #[.string a] w fun e w' => e = .returned (.string l) ∧ Below w.heap.size w w' := by
    intro hx0 hf0
    have hal : a.data.toList = (asciiE s.data.toList).1 := by rw [ha]
    have hp : asciiE s.data.toList = (a.data.toList, 0) := by rw [hal, ← hx0, hx]
    have h1 := (ascii_fixed hp).2.1
    have haz : a.size ≤ 63 := by
      have : a.data.toList.length = a.size := by simp
      omega
    refine ⟨haz, fun w hT => ?_⟩
    have := toUni_any a w hT (by omega)
    rw [ascii_back (by rw [← hf]; exact hf0) hp, ← hl] at this
    exact this
  have HFE := Lib.hid hfe
  clear c1 c2 c3 c4 hfe ha hx hu hl hf
  rcases hue with hue | ⟨hue, hc5⟩
  · by_cases hx0 : x = 0
    · subst hx0
      cases f with
      | true =>
        obtain ⟨haz, c6⟩ := HFE.out rfl rfl
        have C6 := Lib.hid c6
        clear c6
        go_enter Tryd.func5, Tryd.ntmps5
        go_wp2_with fail
        ((with_reducible refine (works04_any w hT).mono ?_))
        rintro e w1 ⟨rfl, hb1⟩
        go_wp2_with fail
        ((with_reducible refine (C2.out w1 (hT.below hb1)).mono ?_))
        rintro e w2 ⟨rfl, hb2⟩
        have HB2 := hb1.trans (hb2.mono hb1.size)
        go_wp2_with fail
        ((with_reducible refine (C1.out w2 (hT.below HB2)).mono ?_))
        rintro e w3 ⟨rfl, hb3⟩
        have HB3 := HB2.trans (hb3.mono HB2.size)
        go_wp2_with fail
        ((with_reducible refine (C4.out w3).mono ?_))
        rintro e w4 ⟨rfl, rfl⟩
        go_wp2_with fail
        ((with_reducible refine (C6.out w3 (hT.below HB3)).mono ?_))
        rintro e w5 ⟨rfl, hb5⟩
        have HB5 := HB3.trans (hb5.mono HB3.size)
        go_wp2_with fail
        ((with_reducible refine (C3.out w5).mono ?_))
        rintro e w6 ⟨rfl, hb6⟩
        have HB6 := HB5.trans (hb6.mono HB5.size)
        go_wp2_with fail
        go_ret
        exact ⟨ret_tt (by simp), HB6⟩
      | false =>
        go_enter Tryd.func5, Tryd.ntmps5
        go_wp2_with fail
        ((with_reducible refine (works04_any w hT).mono ?_))
        rintro e w1 ⟨rfl, hb1⟩
        go_wp2_with fail
        ((with_reducible refine (C2.out w1 (hT.below hb1)).mono ?_))
        rintro e w2 ⟨rfl, hb2⟩
        have HB2 := hb1.trans (hb2.mono hb1.size)
        go_wp2_with fail
        ((with_reducible refine (C1.out w2 (hT.below HB2)).mono ?_))
        rintro e w3 ⟨rfl, hb3⟩
        have HB3 := HB2.trans (hb3.mono HB2.size)
        go_wp2_with fail
        ((with_reducible refine (C4.out w3).mono ?_))
        rintro e w4 ⟨rfl, rfl⟩
        go_wp2_with fail
        go_ret
        exact ⟨rfl, HB3⟩
    · have hx1 : (x == 0) = false := by simpa using hx0
      go_enter Tryd.func5, Tryd.ntmps5
      go_wp2_with fail
      ((with_reducible refine (works04_any w hT).mono ?_))
      rintro e w1 ⟨rfl, hb1⟩
      go_wp2_with fail
      ((with_reducible refine (C2.out w1 (hT.below hb1)).mono ?_))
      rintro e w2 ⟨rfl, hb2⟩
      have HB2 := hb1.trans (hb2.mono hb1.size)
      go_wp2_with fail
      ((with_reducible refine (C1.out w2 (hT.below HB2)).mono ?_))
      rintro e w3 ⟨rfl, hb3⟩
      have HB3 := HB2.trans (hb3.mono HB2.size)
      go_wp2_with fail
      go_ret
      exact ⟨rfl, HB3⟩
  · have C5 := Lib.hid hc5
    clear hc5
    by_cases hx0 : x = 0
    · subst hx0
      cases f with
      | true =>
        obtain ⟨haz, c6⟩ := HFE.out rfl rfl
        have C6 := Lib.hid c6
        clear c6
        go_enter Tryd.func5, Tryd.ntmps5
        go_wp2_with fail
        ((with_reducible refine (works04_any w hT).mono ?_))
        rintro e w1 ⟨rfl, hb1⟩
        go_wp2_with fail
        ((with_reducible refine (C2.out w1 (hT.below hb1)).mono ?_))
        rintro e w2 ⟨rfl, hb2⟩
        have HB2 := hb1.trans (hb2.mono hb1.size)
        go_wp2_with fail
        ((with_reducible refine (C5.out w2 (hT.below HB2)).mono ?_))
        rintro e w7 ⟨rfl, hb7⟩
        have HB7 := HB2.trans (hb7.mono HB2.size)
        go_wp2_with fail
        ((with_reducible refine (C3.out w7).mono ?_))
        rintro e w8 ⟨rfl, hb8⟩
        have HB8 := HB7.trans (hb8.mono HB7.size)
        go_wp2_with fail
        ((with_reducible refine (C1.out w8 (hT.below HB8)).mono ?_))
        rintro e w3 ⟨rfl, hb3⟩
        have HB3 := HB8.trans (hb3.mono HB8.size)
        go_wp2_with fail
        ((with_reducible refine (C4.out w3).mono ?_))
        rintro e w4 ⟨rfl, rfl⟩
        go_wp2_with fail
        ((with_reducible refine (C6.out w3 (hT.below HB3)).mono ?_))
        rintro e w5 ⟨rfl, hb5⟩
        have HB5 := HB3.trans (hb5.mono HB3.size)
        go_wp2_with fail
        ((with_reducible refine (C3.out w5).mono ?_))
        rintro e w6 ⟨rfl, hb6⟩
        have HB6 := HB5.trans (hb6.mono HB5.size)
        go_wp2_with fail
        go_ret
        exact ⟨ret_tt (by simp), HB6⟩
      | false =>
        go_enter Tryd.func5, Tryd.ntmps5
        go_wp2_with fail
        ((with_reducible refine (works04_any w hT).mono ?_))
        rintro e w1 ⟨rfl, hb1⟩
        go_wp2_with fail
        ((with_reducible refine (C2.out w1 (hT.below hb1)).mono ?_))
        rintro e w2 ⟨rfl, hb2⟩
        have HB2 := hb1.trans (hb2.mono hb1.size)
        go_wp2_with fail
        ((with_reducible refine (C5.out w2 (hT.below HB2)).mono ?_))
        rintro e w7 ⟨rfl, hb7⟩
        have HB7 := HB2.trans (hb7.mono HB2.size)
        go_wp2_with fail
        ((with_reducible refine (C3.out w7).mono ?_))
        rintro e w8 ⟨rfl, hb8⟩
        have HB8 := HB7.trans (hb8.mono HB7.size)
        go_wp2_with fail
        ((with_reducible refine (C1.out w8 (hT.below HB8)).mono ?_))
        rintro e w3 ⟨rfl, hb3⟩
        have HB3 := HB8.trans (hb3.mono HB8.size)
        go_wp2_with fail
        ((with_reducible refine (C4.out w3).mono ?_))
        rintro e w4 ⟨rfl, rfl⟩
        go_wp2_with fail
        go_ret
        exact ⟨rfl, HB3⟩
    · have hx1 : (x == 0) = false := by simpa using hx0
      go_enter Tryd.func5, Tryd.ntmps5
      go_wp2_with fail
      ((with_reducible refine (works04_any w hT).mono ?_))
      rintro e w1 ⟨rfl, hb1⟩
      go_wp2_with fail
      ((with_reducible refine (C2.out w1 (hT.below hb1)).mono ?_))
      rintro e w2 ⟨rfl, hb2⟩
      have HB2 := hb1.trans (hb2.mono hb1.size)
      go_wp2_with fail
      ((with_reducible refine (C5.out w2 (hT.below HB2)).mono ?_))
      rintro e w7 ⟨rfl, hb7⟩
      have HB7 := HB2.trans (hb7.mono HB2.size)
      go_wp2_with fail
      ((with_reducible refine (C3.out w7).mono ?_))
      rintro e w8 ⟨rfl, hb8⟩
      have HB8 := HB7.trans (hb8.mono HB7.size)
      go_wp2_with fail
      ((with_reducible refine (C1.out w8 (hT.below HB8)).mono ?_))
      rintro e w3 ⟨rfl, hb3⟩
      have HB3 := HB8.trans (hb3.mono HB8.size)
      go_wp2_with fail
      go_ret
      exact ⟨rfl, HB3⟩
theorem labelFixed_law (a0 : ByteArray) (W : World) (w0 : a0.size ≤ maxLen) (hT : U8 W) :
    Calls Tryd.prog 4 #[.string a0] W fun e w' => e = .returned (.bool true) ∧ Below W.heap.size W w' := by
  unfold maxLen at w0
  exact fixed_law a0 W hT w0
theorem labelBack_law (a0 : ByteArray) (W : World) (w0 : a0.size ≤ maxLen) (hT : U8 W) :
    Calls Tryd.prog 5 #[.string a0] W fun e w' => e = .returned (.bool true) ∧ Below W.heap.size W w' := by
  unfold maxLen at w0
  exact back_law a0 W hT w0
end Go.Proofs.YtkgnhdebphaknaaDoor
