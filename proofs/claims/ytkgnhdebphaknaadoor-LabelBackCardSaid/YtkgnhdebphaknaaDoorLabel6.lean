/- Layer 4: the document's ToUnicode. -/
import Derived.Test.YtkgnhdebphaknaaDoorLabel5
namespace Go.Proofs.YtkgnhdebphaknaaDoor
open Go.RowKit Go
set_option linter.unusedVariables false
theorem ext4 (t : ByteArray) (h : 4 ≤ t.size) : (t.extract 0 4).toList = t.data.toList.take 4 := by
  rw [ByteArray.toList_eq, Lib.extract_eq]
  simp
theorem ext_yes (t : ByteArray) (h : t.data.toList.take 4 = sgn) : 4 ≤ t.size ∧ ((t.extract 0 4).toList == [120, 110, 45, 45]) = true := by
  have hl := congrArg List.length h
  have hs : t.data.toList.length = t.size := by simp
  rw [List.length_take] at hl
  have h4 : sgn.length = 4 := rfl
  have : 4 ≤ t.size := by omega
  refine ⟨this, ?_⟩
  rw [ext4 t this, h]
  rfl
theorem ext_no (t : ByteArray) (h4 : 4 ≤ t.size) (h : ¬ t.data.toList.take 4 = sgn) : ((t.extract 0 4).toList == [120, 110, 45, 45]) = false := by
  rw [ext4 t h4]
  apply Decidable.byContradiction
  intro hh
  exact h (by have h2 : t.data.toList.take 4 = [120, 110, 45, 45] := by simpa using hh
              exact h2)
theorem refDecOk_any (s : ByteArray) (l : List Int) (n : Nat) (w : World) (hs : s.size ≤ 9223372036854775806) (hd : decE s.data.toList = (l, 0)) (hn : n = l.length) : Calls Tryd.prog 24 #[.string s] w fun e w' => (∃ A c, e = .returned (.tuple #[.slice A n c, .int .i64 0]) ∧ IntsAt w' .i64 A n l) ∧ Below w.heap.size w w' := by
  refine (refDecode_any s w hs).mono ?_
  rintro e w' ⟨hb, A, c, he, ha⟩
  rw [hd] at he ha
  rw [hn]
  exact ⟨⟨A, c, he, ha⟩, hb⟩
theorem decE_full (s : List UInt8) : ∃ l x, decE s = (l, x) ∧ l.length ≤ s.length ∧ (∀ y ∈ l, -2147483648 ≤ y ∧ y ≤ 2147483647) :=
  ⟨_, _, rfl, decE_len s, fun y h => by have := (decE_ok s).2 y h; omega⟩
theorem refDecAny_any (s : ByteArray) (l : List Int) (x : Int) (n : Nat) (w : World) (hs : s.size ≤ 9223372036854775806) (hd : decE s.data.toList = (l, x)) (hn : n = l.length) : Calls Tryd.prog 24 #[.string s] w fun e w' => (∃ A c, e = .returned (.tuple #[.slice A n c, .int .i64 x]) ∧ IntsAt w' .i64 A n l) ∧ Below w.heap.size w w' := by
  refine (refDecode_any s w hs).mono ?_
  rintro e w' ⟨hb, A, c, he, ha⟩
  rw [hd] at he ha
  rw [hn]
  exact ⟨⟨A, c, he, ha⟩, hb⟩
/-- the text of what is decoded -/
theorem refTextAt (A : Option Addr) (n c : Nat) (l : List Int) (w : World) (hl : IntsAt w .i64 A n l) (hn : n ≤ 4000) (hx : ∀ x ∈ l, -2147483648 ≤ x ∧ x ≤ 2147483647) (U : ByteArray) (f : Int) (hU : textS l = U) (hf : textE l = f) :
    Calls Tryd.prog 25 #[.slice A n c] w fun e w' => e = .returned (.tuple #[.string U, .int .i64 f]) ∧ Below w.heap.size w w' := by
  subst hU hf
  exact refText_any A n c l w hl hn hx
set_option maxHeartbeats 4000000 in
theorem refToUni_any (s : ByteArray) (w : World) (hs : s.size ≤ 4000) :
    Calls Tryd.prog 12 #[.string s] w fun e w' => e = .returned (.string ⟨(uniE s.data.toList).toArray⟩) ∧ Below w.heap.size w w' := by
  obtain ⟨t, ht⟩ : ∃ t : ByteArray, t = ⟨(s.data.toList.map lowB).toArray⟩ := ⟨_, rfl⟩
  have htz : t.size ≤ 4000 := by rw [ht, low_size s]; exact hs
  have htl : t.data.toList = s.data.toList.map lowB := by rw [ht]
  have HW := way s.data.toList
  have hl := refLower_any s w hs
  rw [← ht] at hl
  rw [← htl] at HW
  have HL := Lib.hid hl
  clear hl ht htl
  have hey := ext_yes t
  have HEY := Lib.hid hey
  have hrl : 4 ≤ t.size → (t.extract 4 t.size).data.toList = t.data.toList.drop 4 := fun h => drop_bat t 4 h
  have hrz : 4 ≤ t.size → (t.extract 4 t.size).size ≤ t.size := fun h => by
    have h1 := congrArg List.length (hrl h)
    have h2 : (t.extract 4 t.size).data.toList.length = (t.extract 4 t.size).size := by simp
    have h3 : t.data.toList.length = t.size := by simp
    rw [List.length_drop] at h1
    omega
  have HRL := Lib.hid hrl
  have HRZ := Lib.hid hrz
  clear hey hrl hrz
  cases HW with
  | plain h e =>
    have HE := Lib.hid e
    clear e
    cases hh : hostB t.data.toList with
    | false =>
      clear h
      go_enter Tryd.func12, Tryd.ntmps12
      go_wp2_with fail
      ((with_reducible refine HL.out.mono ?_))
      rintro e w1 ⟨rfl, hb1⟩
      go_wp2_with fail
      ((with_reducible refine (refHost_any t w1 (by omega)).mono ?_))
      rintro e w2 ⟨rfl, rfl⟩
      rw [hh]
      go_wp2
      all_goals (go_ret; exact ⟨ret_uni HE.out, hb1⟩)
    | true =>
      have hp : ¬ t.data.toList.take 4 = sgn := by
        rcases h with h | h
        · rw [hh] at h; cases h
        · exact h
      by_cases h4 : 4 ≤ t.size
      · have he := ext_no t h4 hp
        clear h hp
        go_enter Tryd.func12, Tryd.ntmps12
        go_wp2_with fail
        ((with_reducible refine HL.out.mono ?_))
        rintro e w1 ⟨rfl, hb1⟩
        go_wp2_with fail
        ((with_reducible refine (refHost_any t w1 (by omega)).mono ?_))
        rintro e w2 ⟨rfl, rfl⟩
        rw [hh]
        go_wp2
        all_goals (go_ret; exact ⟨ret_uni HE.out, hb1⟩)
      · clear h hp
        go_enter Tryd.func12, Tryd.ntmps12
        go_wp2_with fail
        ((with_reducible refine HL.out.mono ?_))
        rintro e w1 ⟨rfl, hb1⟩
        go_wp2_with fail
        ((with_reducible refine (refHost_any t w1 (by omega)).mono ?_))
        rintro e w2 ⟨rfl, rfl⟩
        rw [hh]
        go_wp2
        all_goals (go_ret; exact ⟨ret_uni HE.out, hb1⟩)
  | bad hh hp x d hx e =>
    have HE := Lib.hid e
    obtain ⟨h4, he⟩ := HEY.out hp
    obtain ⟨l, x', hd, hll, hlx⟩ := decE_full (t.data.toList.drop 4)
    obtain rfl : x' = x := by rw [hd] at d; exact d
    have htl : t.data.toList.length = t.size := by simp
    have hn1 : l.length ≤ 4000 := by rw [List.length_drop] at hll; omega
    rw [← HRL.out h4] at hd
    have hz := HRZ.out h4
    have hdc := fun w => refDecAny_any _ l x' l.length w (by omega) hd rfl
    have HDC := Lib.hid hdc
    have HLX := Lib.hid hlx
    have hx1 : (x' == 0) = false := by simpa using hx
    obtain ⟨n, hn⟩ : ∃ n, n = l.length := ⟨_, rfl⟩
    rw [← hn] at HDC hn1
    clear hp d e hd hll hlx hdc htl hz hn
    obtain ⟨U, hU⟩ : ∃ U, textS l = U := ⟨_, rfl⟩
    obtain ⟨f, hf⟩ : ∃ f, textE l = f := ⟨_, rfl⟩
    have HU := Lib.hid hU
    have HF := Lib.hid hf
    clear hU hf
    go_enter Tryd.func12, Tryd.ntmps12
    go_wp2_with fail
    ((with_reducible refine HL.out.mono ?_))
    rintro e w1 ⟨rfl, hb1⟩
    go_wp2_with fail
    ((with_reducible refine (refHost_any t w1 (by omega)).mono ?_))
    rintro e w2 ⟨rfl, rfl⟩
    rw [hh]
    go_wp2_with fail
    ((with_reducible refine (HDC.out w1).mono ?_))
    rintro e w3 ⟨⟨A, c, rfl, hat⟩, hb3⟩
    have HB3 := hb1.trans (hb3.mono hb1.size)
    go_wp2_with fail
    ((with_reducible refine (refTextAt A n c l w3 hat hn1 HLX.out U f HU.out HF.out).mono ?_))
    rintro e w4 ⟨rfl, hb4⟩
    have HB4 := HB3.trans (hb4.mono HB3.size)
    go_wp2
    all_goals (go_ret; exact ⟨ret_uni HE.out, HB4⟩)
  | none hh hp l d tx e =>
    have HE := Lib.hid e
    obtain ⟨h4, he⟩ := HEY.out hp
    have htl : t.data.toList.length = t.size := by simp
    have hlen := decE_len (t.data.toList.drop 4)
    have hok := decE_ok (t.data.toList.drop 4)
    rw [d] at hlen hok
    rw [List.length_drop] at hlen
    simp only at hlen hok
    have hxl : ∀ y ∈ l, -2147483648 ≤ y ∧ y ≤ 2147483647 := fun y h => by have := hok.2 y h; omega
    have hn1 : l.length ≤ 4000 := by omega
    rw [← HRL.out h4] at d
    have hz := HRZ.out h4
    have hdc := fun w => refDecAny_any _ l 0 l.length w (by omega) d rfl
    have HDC := Lib.hid hdc
    have HLX := Lib.hid hxl
    obtain ⟨n, hn⟩ : ∃ n, n = l.length := ⟨_, rfl⟩
    rw [← hn] at HDC hn1
    clear hp d e hlen hok hxl hdc htl hz hn
    obtain ⟨U, hU⟩ : ∃ U, textS l = U := ⟨_, rfl⟩
    have hf := (text_no tx).2
    have HU := Lib.hid hU
    have HF := Lib.hid hf
    clear hU hf tx
    go_enter Tryd.func12, Tryd.ntmps12
    go_wp2_with fail
    ((with_reducible refine HL.out.mono ?_))
    rintro e w1 ⟨rfl, hb1⟩
    go_wp2_with fail
    ((with_reducible refine (refHost_any t w1 (by omega)).mono ?_))
    rintro e w2 ⟨rfl, rfl⟩
    rw [hh]
    go_wp2_with fail
    ((with_reducible refine (HDC.out w1).mono ?_))
    rintro e w3 ⟨⟨A, c, rfl, hat⟩, hb3⟩
    have HB3 := hb1.trans (hb3.mono hb1.size)
    go_wp2_with fail
    ((with_reducible refine (refTextAt A n c l w3 hat hn1 HLX.out U 4 HU.out HF.out).mono ?_))
    rintro e w4 ⟨rfl, hb4⟩
    have HB4 := HB3.trans (hb4.mono HB3.size)
    go_wp2
    all_goals (go_ret; exact ⟨ret_uni HE.out, HB4⟩)
  | other hh hp l d u tx hu x a hx e =>
    have HE := Lib.hid e
    obtain ⟨h4, he⟩ := HEY.out hp
    have htl : t.data.toList.length = t.size := by simp
    have hlen := decE_len (t.data.toList.drop 4)
    have hok := decE_ok (t.data.toList.drop 4)
    rw [d] at hlen hok
    rw [List.length_drop] at hlen
    simp only at hlen hok
    have hxl : ∀ y ∈ l, -2147483648 ≤ y ∧ y ≤ 2147483647 := fun y h => by have := hok.2 y h; omega
    have hn1 : l.length ≤ 4000 := by omega
    rw [← HRL.out h4] at d
    have hz := HRZ.out h4
    have hdc := fun w => refDecAny_any _ l 0 l.length w (by omega) d rfl
    have HDC := Lib.hid hdc
    have HLX := Lib.hid hxl
    obtain ⟨n, hn⟩ : ∃ n, n = l.length := ⟨_, rfl⟩
    rw [← hn] at HDC hn1
    clear hp d e hlen hok hxl hdc htl hz hn
    have hx1 : (x == 0) = false := by simpa using hx
    obtain ⟨b, hb⟩ : ∃ b, b = (asciiE u).1 := ⟨_, rfl⟩
    have ha := fun w => refAsc_at (b := b) (x := x) w hu (by rw [hb, ← a])
    have hU0 := (textS_yes tx).1
    have hf := (textS_yes tx).2
    obtain ⟨U, hU⟩ : ∃ U : ByteArray, U = ⟨u.toArray⟩ := ⟨_, rfl⟩
    obtain ⟨B, hB⟩ : ∃ B : ByteArray, B = ⟨b.toArray⟩ := ⟨_, rfl⟩
    rw [← hU] at ha hU0
    rw [← hB] at ha
    have HU := Lib.hid hU0
    have HF := Lib.hid hf
    have HA := Lib.hid ha
    clear tx ha a hb hU hB hU0 hf
    go_enter Tryd.func12, Tryd.ntmps12
    go_wp2_with fail
    ((with_reducible refine HL.out.mono ?_))
    rintro e w1 ⟨rfl, hb1⟩
    go_wp2_with fail
    ((with_reducible refine (refHost_any t w1 (by omega)).mono ?_))
    rintro e w2 ⟨rfl, rfl⟩
    rw [hh]
    go_wp2_with fail
    ((with_reducible refine (HDC.out w1).mono ?_))
    rintro e w3 ⟨⟨A, c, rfl, hat⟩, hb3⟩
    have HB3 := hb1.trans (hb3.mono hb1.size)
    go_wp2_with fail
    ((with_reducible refine (refTextAt A n c l w3 hat hn1 HLX.out U 0 HU.out HF.out).mono ?_))
    rintro e w4 ⟨rfl, hb4⟩
    have HB4 := HB3.trans (hb4.mono HB3.size)
    go_wp2_with fail
    ((with_reducible refine (HA.out w4).mono ?_))
    rintro e w5 ⟨rfl, hb5⟩
    have HB5 := HB4.trans (hb5.mono HB4.size)
    go_wp2
    all_goals (go_ret; exact ⟨ret_uni HE.out, HB5⟩)
  | differs hh hp l d u tx hu b a hb e =>
    have HE := Lib.hid e
    obtain ⟨h4, he⟩ := HEY.out hp
    have htl : t.data.toList.length = t.size := by simp
    have hlen := decE_len (t.data.toList.drop 4)
    have hok := decE_ok (t.data.toList.drop 4)
    rw [d] at hlen hok
    rw [List.length_drop] at hlen
    simp only at hlen hok
    have hxl : ∀ y ∈ l, -2147483648 ≤ y ∧ y ≤ 2147483647 := fun y h => by have := hok.2 y h; omega
    have hn1 : l.length ≤ 4000 := by omega
    rw [← HRL.out h4] at d
    have hz := HRZ.out h4
    have hdc := fun w => refDecAny_any _ l 0 l.length w (by omega) d rfl
    have HDC := Lib.hid hdc
    have HLX := Lib.hid hxl
    obtain ⟨n, hn⟩ : ∃ n, n = l.length := ⟨_, rfl⟩
    rw [← hn] at HDC hn1
    clear hp d e hlen hok hxl hdc htl hz hn
    have ha := fun w => refAsc_at w hu a
    have hU0 := (textS_yes tx).1
    have hf := (textS_yes tx).2
    obtain ⟨U, hU⟩ : ∃ U : ByteArray, U = ⟨u.toArray⟩ := ⟨_, rfl⟩
    obtain ⟨B, hB⟩ : ∃ B : ByteArray, B = ⟨b.toArray⟩ := ⟨_, rfl⟩
    have hne : (B.toList == t.toList) = false := ba_ne (by rw [hB]; exact hb)
    rw [← hU] at ha hU0
    rw [← hB] at ha
    have HU := Lib.hid hU0
    have HF := Lib.hid hf
    have HA := Lib.hid ha
    clear tx ha a hb hU hB hU0 hf
    go_enter Tryd.func12, Tryd.ntmps12
    go_wp2_with fail
    ((with_reducible refine HL.out.mono ?_))
    rintro e w1 ⟨rfl, hb1⟩
    go_wp2_with fail
    ((with_reducible refine (refHost_any t w1 (by omega)).mono ?_))
    rintro e w2 ⟨rfl, rfl⟩
    rw [hh]
    go_wp2_with fail
    ((with_reducible refine (HDC.out w1).mono ?_))
    rintro e w3 ⟨⟨A, c, rfl, hat⟩, hb3⟩
    have HB3 := hb1.trans (hb3.mono hb1.size)
    go_wp2_with fail
    ((with_reducible refine (refTextAt A n c l w3 hat hn1 HLX.out U 0 HU.out HF.out).mono ?_))
    rintro e w4 ⟨rfl, hb4⟩
    have HB4 := HB3.trans (hb4.mono HB3.size)
    go_wp2_with fail
    ((with_reducible refine (HA.out w4).mono ?_))
    rintro e w5 ⟨rfl, hb5⟩
    have HB5 := HB4.trans (hb5.mono HB4.size)
    go_wp2
    all_goals (go_ret; exact ⟨ret_uni HE.out, HB5⟩)
  | same hh hp l d u tx hu a e =>
    have HE := Lib.hid e
    obtain ⟨h4, he⟩ := HEY.out hp
    have htl : t.data.toList.length = t.size := by simp
    have hlen := decE_len (t.data.toList.drop 4)
    have hok := decE_ok (t.data.toList.drop 4)
    rw [d] at hlen hok
    rw [List.length_drop] at hlen
    simp only at hlen hok
    have hxl : ∀ y ∈ l, -2147483648 ≤ y ∧ y ≤ 2147483647 := fun y h => by have := hok.2 y h; omega
    have hn1 : l.length ≤ 4000 := by omega
    rw [← HRL.out h4] at d
    have hz := HRZ.out h4
    have hdc := fun w => refDecAny_any _ l 0 l.length w (by omega) d rfl
    have HDC := Lib.hid hdc
    have HLX := Lib.hid hxl
    obtain ⟨n, hn⟩ : ∃ n, n = l.length := ⟨_, rfl⟩
    rw [← hn] at HDC hn1
    clear hp d e hlen hok hxl hdc htl hz hn
    have ha := fun w => refAsc_at w hu a
    rw [ba_self] at ha
    have hU0 := (textS_yes tx).1
    have hf := (textS_yes tx).2
    obtain ⟨U, hU⟩ : ∃ U : ByteArray, U = ⟨u.toArray⟩ := ⟨_, rfl⟩
    rw [← hU] at ha hU0
    have HUU := Lib.hid hU
    have HU := Lib.hid hU0
    have HF := Lib.hid hf
    have HA := Lib.hid ha
    clear tx ha a hU hU0 hf
    go_enter Tryd.func12, Tryd.ntmps12
    go_wp2_with fail
    ((with_reducible refine HL.out.mono ?_))
    rintro e w1 ⟨rfl, hb1⟩
    go_wp2_with fail
    ((with_reducible refine (refHost_any t w1 (by omega)).mono ?_))
    rintro e w2 ⟨rfl, rfl⟩
    rw [hh]
    go_wp2_with fail
    ((with_reducible refine (HDC.out w1).mono ?_))
    rintro e w3 ⟨⟨A, c, rfl, hat⟩, hb3⟩
    have HB3 := hb1.trans (hb3.mono hb1.size)
    go_wp2_with fail
    ((with_reducible refine (refTextAt A n c l w3 hat hn1 HLX.out U 0 HU.out HF.out).mono ?_))
    rintro e w4 ⟨rfl, hb4⟩
    have HB4 := HB3.trans (hb4.mono HB3.size)
    go_wp2_with fail
    ((with_reducible refine (HA.out w4).mono ?_))
    rintro e w5 ⟨rfl, hb5⟩
    have HB5 := HB4.trans (hb5.mono HB4.size)
    go_wp2
    all_goals (go_ret; rw [HUU.out]; exact ⟨ret_uni2 HE.out, HB5⟩)
end Go.Proofs.YtkgnhdebphaknaaDoor
