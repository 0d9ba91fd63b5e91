/- Layer 4: ToUnicode, and the document's. -/
import Derived.Test.YtkgnhdebphaknaaDoorLabel4
import Derived.Test.YtkgnhdebphaknaaDoorShelf
namespace Go.Proofs.YtkgnhdebphaknaaDoor
open Go.RowKit Go
set_option linter.unusedVariables false
theorem pre_iff (t : List UInt8) : Lib.hasPrefix t sgn = true ↔ t.take 4 = sgn := by
  unfold Lib.hasPrefix
  rw [List.isPrefixOf_iff_prefix, List.prefix_iff_eq_take]
  constructor
  · intro h; exact h.symm
  · intro h; exact h.symm
theorem cutYes_any (t : ByteArray) (w : World) (h : t.data.toList.take 4 = sgn) : Calls Tryd.prog 22 #[.string t, .string ⟨#[120, 110, 45, 45]⟩] w fun e w' => e = .returned (.tuple #[.string ⟨(t.data.toList.drop 4).toArray⟩, .bool true]) ∧ w = w' := by
  refine (Tryd.strings_CutPrefix t ⟨#[120, 110, 45, 45]⟩ w).mono ?_
  rintro e w' ⟨rfl, rfl⟩
  have hp := (pre_iff t.data.toList).2 h
  have hq : (⟨#[120, 110, 45, 45]⟩ : ByteArray).data.toList = sgn := rfl
  rw [hq]
  unfold Lib.trimPrefix
  rw [hp, if_pos rfl]
  exact ⟨rfl, rfl⟩
theorem cutNo_any (t : ByteArray) (w : World) (h : ¬ t.data.toList.take 4 = sgn) : Calls Tryd.prog 22 #[.string t, .string ⟨#[120, 110, 45, 45]⟩] w fun e w' => e = .returned (.tuple #[.string t, .bool false]) ∧ w = w' := by
  refine (Tryd.strings_CutPrefix t ⟨#[120, 110, 45, 45]⟩ w).mono ?_
  rintro e w' ⟨rfl, rfl⟩
  have hp : Lib.hasPrefix t.data.toList sgn = false := by
    cases hh : Lib.hasPrefix t.data.toList sgn with
    | false => rfl
    | true => exact absurd ((pre_iff _).1 hh) h
  have hq : (⟨#[120, 110, 45, 45]⟩ : ByteArray).data.toList = sgn := rfl
  rw [hq]
  unfold Lib.trimPrefix
  rw [hp, if_neg (by simp)]
  exact ⟨rfl, rfl⟩
theorem decOk_any (s : ByteArray) (l : List Int) (n : Nat) (w : World) (hs : s.size ≤ 9223372036854775806) (hd : decE s.data.toList = (l, 0)) (hn : n = l.length) : Calls Tryd.prog 35 #[.string s] w fun e w' => (∃ A c, e = .returned (.tuple #[.slice A n c, .int .i64 0]) ∧ IntsAt w' .i32 A n l) ∧ Below w.heap.size w w' := by
  refine (decode_any s w hs).mono ?_
  rintro e w' ⟨hb, A, c, he, ha⟩
  rw [hd] at he ha
  rw [hn]
  exact ⟨⟨A, c, he, ha⟩, hb⟩
theorem decBad_any (s : ByteArray) (x : Int) (w : World) (hs : s.size ≤ 9223372036854775806) (hd : (decE s.data.toList).2 = x) : Calls Tryd.prog 35 #[.string s] w fun e w' => (∃ A n c, e = .returned (.tuple #[.slice A n c, .int .i64 x])) ∧ Below w.heap.size w w' := by
  refine (decode_any s w hs).mono ?_
  rintro e w' ⟨hb, A, c, he, ha⟩
  rw [hd] at he
  exact ⟨⟨A, _, c, he⟩, hb⟩
theorem read_any (s : ByteArray) (l : List Int) (w : World) (hs : s.size ≤ 4000) (hd : decE s.data.toList = (l, 0)) :
    Calls Tryd.prog 23 #[.string s] w fun e w' => e = .returned (.tuple #[.string (textS l), .int .i64 (textE l)]) ∧ Below w.heap.size w w' := by
  obtain ⟨n, hn⟩ : ∃ n, n = l.length := ⟨_, rfl⟩
  have hdc := decOk_any s l n w (by omega) hd hn
  have HDC := Lib.hid hdc
  have hsl : s.data.toList.length = s.size := by simp
  have hlen := decE_len s.data.toList
  have hok := decE_ok s.data.toList
  rw [hd] at hlen hok
  have hx : ∀ x ∈ l, -2147483648 ≤ x ∧ x ≤ 2147483647 := fun x h => by have := hok.2 x h; omega
  have HX := Lib.hid hx
  have hn1 : n ≤ 4000 := by simp only at hlen; omega
  clear hdc hlen hok hx hd hn hsl
  go_enter Tryd.func23, Tryd.ntmps23
  go_wp2_with fail
  ((with_reducible refine HDC.out.mono ?_))
  rintro e w1 ⟨⟨A, c, rfl, hat⟩, hb1⟩
  go_wp2_with fail
  ((with_reducible refine (text_any A n c l w1 hat hn1 HX.out).mono ?_))
  rintro e w2 ⟨rfl, hb2⟩
  go_wp2
  go_ret2
  exact ⟨rfl, hb1.trans (hb2.mono hb1.size)⟩
theorem readBad_any (s : ByteArray) (x : Int) (w : World) (hs : s.size ≤ 4000) (hd : (decE s.data.toList).2 = x) (hx : x ≠ 0) :
    Calls Tryd.prog 23 #[.string s] w fun e w' => e = .returned (.tuple #[.string ⟨#[]⟩, .int .i64 x]) ∧ Below w.heap.size w w' := by
  have hdc := decBad_any s x w (by omega) hd
  have HDC := Lib.hid hdc
  have hx1 : (x == 0) = false := by simpa using hx
  clear hdc hd
  go_enter Tryd.func23, Tryd.ntmps23
  go_wp2_with fail
  ((with_reducible refine HDC.out.mono ?_))
  rintro e w1 ⟨⟨A, n, c, rfl⟩, hb1⟩
  go_wp2
  go_ret2
  exact ⟨rfl, hb1⟩
/-- which way a text goes -/
inductive Way (s t : List UInt8) : Prop
  | plain (h : hostB t = false ∨ ¬ t.take 4 = sgn) (e : uniE s = s)
  | bad (h : hostB t = true) (p : t.take 4 = sgn) (x : Int) (d : (decE (t.drop 4)).2 = x) (hx : x ≠ 0) (e : uniE s = s)
  | none (h : hostB t = true) (p : t.take 4 = sgn) (l : List Int) (d : decE (t.drop 4) = (l, 0)) (tx : textL l = Option.none) (e : uniE s = s)
  | other (h : hostB t = true) (p : t.take 4 = sgn) (l : List Int) (d : decE (t.drop 4) = (l, 0)) (u : List UInt8) (tx : textL l = some u) (hu : u.length ≤ 300) (x : Int) (a : (asciiE u).2 = x) (hx : x ≠ 0) (e : uniE s = s)
  | differs (h : hostB t = true) (p : t.take 4 = sgn) (l : List Int) (d : decE (t.drop 4) = (l, 0)) (u : List UInt8) (tx : textL l = some u) (hu : u.length ≤ 300) (b : List UInt8) (a : asciiE u = (b, 0)) (hb : b ≠ t) (e : uniE s = s)
  | same (h : hostB t = true) (p : t.take 4 = sgn) (l : List Int) (d : decE (t.drop 4) = (l, 0)) (u : List UInt8) (tx : textL l = some u) (hu : u.length ≤ 300) (a : asciiE u = (t, 0)) (e : uniE s = u)
theorem way (s : List UInt8) : Way s (s.map lowB) := by
  cases hh : hostB (s.map lowB) with
  | false => exact .plain (.inl hh) (uniE_plain (by simp [hh]))
  | true =>
    by_cases hp : (s.map lowB).take 4 = sgn
    · by_cases hd : (decE ((s.map lowB).drop 4)).2 = 0
      · have hd2 : decE ((s.map lowB).drop 4) = ((decE ((s.map lowB).drop 4)).1, 0) := by rw [← hd]
        cases ht : textL (decE ((s.map lowB).drop 4)).1 with
        | none => exact .none hh hp _ hd2 ht (uniE_none hh hp hd ht)
        | some u =>
          have hul : u.length ≤ 300 := by
            obtain ⟨_, rfl⟩ := textL_some ht
            have := flat_len (decE ((s.map lowB).drop 4)).1
            have h5 := decE_len ((s.map lowB).drop 4)
            have h6 := ((hostB_iff _).1 hh).2.1
            rw [List.length_drop] at h5
            omega
          by_cases ha : (asciiE u).2 = 0
          · have ha2 : asciiE u = ((asciiE u).1, 0) := by rw [← ha]
            by_cases hb : (asciiE u).1 = s.map lowB
            · rw [hb] at ha2
              exact .same hh hp _ hd2 u ht hul ha2 (uniE_yes hh hp hd ht ha2)
            · refine .differs hh hp _ hd2 u ht hul _ ha2 hb (uniE_no hh hp hd ht ?_)
              intro h
              rw [h] at hb
              exact hb rfl
          · refine .other hh hp _ hd2 u ht hul _ rfl ha (uniE_no hh hp hd ht ?_)
            intro h
            rw [h] at ha
            exact ha rfl
      · exact .bad hh hp _ rfl hd (uniE_dec hh hp hd)
    · exact .plain (.inr hp) (uniE_plain (by simp [hp]))
theorem ba_self (s : ByteArray) : (⟨s.data.toList.toArray⟩ : ByteArray) = s := rfl
theorem ret_uni {s : ByteArray} (h : uniE s.data.toList = s.data.toList) : Ending.returned (.string s) = .returned (.string ⟨(uniE s.data.toList).toArray⟩) := by rw [h]
theorem ret_uni2 {s : ByteArray} {u : List UInt8} (h : uniE s.data.toList = u) : Ending.returned (.string ⟨u.toArray⟩) = .returned (.string ⟨(uniE s.data.toList).toArray⟩) := by rw [h]
theorem ba_size (l : List UInt8) : (⟨l.toArray⟩ : ByteArray).size = l.length := by show l.toArray.size = _; simp
theorem asc_at {u b : List UInt8} {x : Int} (w : World) (hT : U8 w) (hu : u.length ≤ 300) (h : asciiE u = (b, x)) : Calls Tryd.prog 7 #[.string ⟨u.toArray⟩] w fun e w' => e = .returned (.tuple #[.string ⟨b.toArray⟩, .int .i64 x]) ∧ Below w.heap.size w w' := by
  refine (toAscii_any ⟨u.toArray⟩ w hT (by rw [ba_size]; omega)).mono ?_
  rintro e w' ⟨rfl, hb⟩
  have : (⟨u.toArray⟩ : ByteArray).data.toList = u := rfl
  rw [this, h]
  exact ⟨rfl, hb⟩
theorem refAsc_at {u b : List UInt8} {x : Int} (w : World) (hu : u.length ≤ 300) (h : asciiE u = (b, x)) : Calls Tryd.prog 8 #[.string ⟨u.toArray⟩] w fun e w' => e = .returned (.tuple #[.string ⟨b.toArray⟩, .int .i64 x]) ∧ Below w.heap.size w w' := by
  refine (refToAscii_any ⟨u.toArray⟩ w (by rw [ba_size]; omega)).mono ?_
  rintro e w' ⟨rfl, hb⟩
  have : (⟨u.toArray⟩ : ByteArray).data.toList = u := rfl
  rw [this, h]
  exact ⟨rfl, hb⟩
theorem ba_ne {a t : ByteArray} (h : a.data.toList ≠ t.data.toList) : (a.toList == t.toList) = false := by
  rw [ByteArray.toList_eq, ByteArray.toList_eq]
  simpa using h
theorem host_small {t : ByteArray} (h : hostB t.data.toList = true) : t.size ≤ 63 := by
  have := ((hostB_iff _).1 h).2.1
  simpa using this
theorem text_no {l : List Int} (h : textL l = Option.none) : textS l = ⟨#[]⟩ ∧ textE l = 4 := textS_no h
theorem drop_size (t : ByteArray) : (⟨(t.data.toList.drop 4).toArray⟩ : ByteArray).size ≤ t.size := by
  rw [ba_size, List.length_drop]
  have : t.data.toList.length = t.size := by simp
  omega
set_option maxHeartbeats 4000000 in
theorem toUni_any (s : ByteArray) (w : World) (hT : U8 w) (hs : s.size ≤ 4000) :
    Calls Tryd.prog 11 #[.string s] w fun e w' => e = .returned (.string ⟨(uniE s.data.toList).toArray⟩) ∧ Below w.heap.size w w' := by
  obtain ⟨t, ht⟩ : ∃ t : ByteArray, t = ⟨(s.data.toList.map lowB).toArray⟩ := ⟨_, rfl⟩
  have htz : t.size = s.size := by rw [ht]; exact low_size s
  have htl : t.data.toList = s.data.toList.map lowB := by rw [ht]
  have HW := way s.data.toList
  have hl := lower_any s w hs
  rw [← ht] at hl
  rw [← htl] at HW
  have HL := Lib.hid hl
  clear hl ht htl
  obtain ⟨r, hr⟩ : ∃ r : ByteArray, r = ⟨(t.data.toList.drop 4).toArray⟩ := ⟨_, rfl⟩
  have hrz : r.size ≤ t.size := by rw [hr]; exact drop_size t
  have hrl : r.data.toList = t.data.toList.drop 4 := by rw [hr]
  have hcy := fun w h => cutYes_any t w h
  rw [← hr] at hcy
  have HCY := Lib.hid hcy
  have HRL := Lib.hid hrl
  clear hcy hr hrl
  cases HW with
  | plain h e =>
    have HE := Lib.hid e
    clear e
    by_cases hp : t.data.toList.take 4 = sgn
    · have hh : hostB t.data.toList = false := by
        rcases h with h | h
        · exact h
        · exact absurd hp h
      have hc := fun w => HCY.out w hp
      have HC := Lib.hid hc
      clear hc hp h
      go_enter Tryd.func11, Tryd.ntmps11
      go_wp2_with fail
      ((with_reducible refine HL.out.mono ?_))
      rintro e w1 ⟨rfl, hb1⟩
      go_wp2_with fail
      ((with_reducible refine (HC.out w1).mono ?_))
      rintro e w2 ⟨rfl, rfl⟩
      go_wp2_with fail
      ((with_reducible refine (host_any t w1 (by omega)).mono ?_))
      rintro e w2 ⟨rfl, hb2⟩
      rw [hh]
      go_wp2
      go_ret
      exact ⟨ret_uni HE.out, hb1.trans (hb2.mono hb1.size)⟩
    · have hc := fun w => cutNo_any t w hp
      have HC := Lib.hid hc
      clear hc hp h
      go_enter Tryd.func11, Tryd.ntmps11
      go_wp2_with fail
      ((with_reducible refine HL.out.mono ?_))
      rintro e w1 ⟨rfl, hb1⟩
      go_wp2_with fail
      ((with_reducible refine (HC.out w1).mono ?_))
      rintro e w2 ⟨rfl, rfl⟩
      go_wp2
      go_ret
      exact ⟨ret_uni HE.out, hb1⟩
  | bad hh hp x d hx e =>
    have HE := Lib.hid e
    rw [← HRL.out] at d
    have hrd := fun w => readBad_any r x w (by omega) d hx
    have HRD := Lib.hid hrd
    have hc := fun w => HCY.out w hp
    have HC := Lib.hid hc
    have hx1 : (x == 0) = false := by simpa using hx
    clear hc hp hrd d e
    go_enter Tryd.func11, Tryd.ntmps11
    go_wp2_with fail
    ((with_reducible refine HL.out.mono ?_))
    rintro e w1 ⟨rfl, hb1⟩
    go_wp2_with fail
    ((with_reducible refine (HC.out w1).mono ?_))
    rintro e w2 ⟨rfl, rfl⟩
    go_wp2_with fail
    ((with_reducible refine (host_any t w1 (by omega)).mono ?_))
    rintro e w2 ⟨rfl, hb2⟩
    have HB2 := hb1.trans (hb2.mono hb1.size)
    rw [hh]
    go_wp2_with fail
    ((with_reducible refine (HRD.out w2).mono ?_))
    rintro e w3 ⟨rfl, hb3⟩
    go_wp2
    go_ret
    exact ⟨ret_uni HE.out, HB2.trans (hb3.mono HB2.size)⟩
  | none hh hp l d tx e =>
    have HE := Lib.hid e
    rw [← HRL.out] at d
    have hrd := fun w => read_any r l w (by omega) d
    rw [(text_no tx).1, (text_no tx).2] at hrd
    have HRD := Lib.hid hrd
    have hc := fun w => HCY.out w hp
    have HC := Lib.hid hc
    clear hc hp hrd d e tx
    go_enter Tryd.func11, Tryd.ntmps11
    go_wp2_with fail
    ((with_reducible refine HL.out.mono ?_))
    rintro e w1 ⟨rfl, hb1⟩
    go_wp2_with fail
    ((with_reducible refine (HC.out w1).mono ?_))
    rintro e w2 ⟨rfl, rfl⟩
    go_wp2_with fail
    ((with_reducible refine (host_any t w1 (by omega)).mono ?_))
    rintro e w2 ⟨rfl, hb2⟩
    have HB2 := hb1.trans (hb2.mono hb1.size)
    rw [hh]
    go_wp2_with fail
    ((with_reducible refine (HRD.out w2).mono ?_))
    rintro e w3 ⟨rfl, hb3⟩
    go_wp2
    go_ret
    exact ⟨ret_uni HE.out, HB2.trans (hb3.mono HB2.size)⟩
  | other hh hp l d u tx hu x a hx e =>
    have HE := Lib.hid e
    rw [← HRL.out] at d
    have hrd := fun w => read_any r l w (by omega) d
    rw [(textS_yes tx).1, (textS_yes tx).2] at hrd
    have HRD := Lib.hid hrd
    have hc := fun w => HCY.out w hp
    have HC := Lib.hid hc
    have hx1 : (x == 0) = false := by simpa using hx
    obtain ⟨b, hb⟩ : ∃ b, b = (asciiE u).1 := ⟨_, rfl⟩
    have ha := fun w hT => asc_at (b := b) (x := x) w hT hu (by rw [hb, ← a])
    obtain ⟨U, hU⟩ : ∃ U : ByteArray, U = ⟨u.toArray⟩ := ⟨_, rfl⟩
    obtain ⟨B, hB⟩ : ∃ B : ByteArray, B = ⟨b.toArray⟩ := ⟨_, rfl⟩
    rw [← hU] at ha HRD
    rw [← hB] at ha
    have HA := Lib.hid ha
    clear hc hp hrd d e tx ha a hb hU hB
    go_enter Tryd.func11, Tryd.ntmps11
    go_wp2_with fail
    ((with_reducible refine HL.out.mono ?_))
    rintro e w1 ⟨rfl, hb1⟩
    go_wp2_with fail
    ((with_reducible refine (HC.out w1).mono ?_))
    rintro e w2 ⟨rfl, rfl⟩
    go_wp2_with fail
    ((with_reducible refine (host_any t w1 (by omega)).mono ?_))
    rintro e w2 ⟨rfl, hb2⟩
    have HB2 := hb1.trans (hb2.mono hb1.size)
    rw [hh]
    go_wp2_with fail
    ((with_reducible refine (HRD.out w2).mono ?_))
    rintro e w3 ⟨rfl, hb3⟩
    have HB3 := HB2.trans (hb3.mono HB2.size)
    go_wp2_with fail
    ((with_reducible refine (HA.out w3 (hT.below HB3)).mono ?_))
    rintro e w4 ⟨rfl, hb4⟩
    go_wp2
    go_ret
    exact ⟨ret_uni HE.out, HB3.trans (hb4.mono HB3.size)⟩
  | differs hh hp l d u tx hu b a hb e =>
    have HE := Lib.hid e
    rw [← HRL.out] at d
    have hrd := fun w => read_any r l w (by omega) d
    rw [(textS_yes tx).1, (textS_yes tx).2] at hrd
    have HRD := Lib.hid hrd
    have hc := fun w => HCY.out w hp
    have HC := Lib.hid hc
    have ha := fun w hT => asc_at w hT hu a
    obtain ⟨U, hU⟩ : ∃ U : ByteArray, U = ⟨u.toArray⟩ := ⟨_, rfl⟩
    obtain ⟨B, hB⟩ : ∃ B : ByteArray, B = ⟨b.toArray⟩ := ⟨_, rfl⟩
    have hne : (B.toList == t.toList) = false := ba_ne (by rw [hB]; exact hb)
    rw [← hU] at ha HRD
    rw [← hB] at ha
    have HA := Lib.hid ha
    clear hc hp hrd d e tx ha a hb hU hB
    go_enter Tryd.func11, Tryd.ntmps11
    go_wp2_with fail
    ((with_reducible refine HL.out.mono ?_))
    rintro e w1 ⟨rfl, hb1⟩
    go_wp2_with fail
    ((with_reducible refine (HC.out w1).mono ?_))
    rintro e w2 ⟨rfl, rfl⟩
    go_wp2_with fail
    ((with_reducible refine (host_any t w1 (by omega)).mono ?_))
    rintro e w2 ⟨rfl, hb2⟩
    have HB2 := hb1.trans (hb2.mono hb1.size)
    rw [hh]
    go_wp2_with fail
    ((with_reducible refine (HRD.out w2).mono ?_))
    rintro e w3 ⟨rfl, hb3⟩
    have HB3 := HB2.trans (hb3.mono HB2.size)
    go_wp2_with fail
    ((with_reducible refine (HA.out w3 (hT.below HB3)).mono ?_))
    rintro e w4 ⟨rfl, hb4⟩
    go_wp2
    go_ret
    exact ⟨ret_uni HE.out, HB3.trans (hb4.mono HB3.size)⟩
  | same hh hp l d u tx hu a e =>
    have HE := Lib.hid e
    rw [← HRL.out] at d
    have hrd := fun w => read_any r l w (by omega) d
    rw [(textS_yes tx).1, (textS_yes tx).2] at hrd
    have HRD := Lib.hid hrd
    have hc := fun w => HCY.out w hp
    have HC := Lib.hid hc
    have ha := fun w hT => asc_at w hT hu a
    rw [ba_self] at ha
    obtain ⟨U, hU⟩ : ∃ U : ByteArray, U = ⟨u.toArray⟩ := ⟨_, rfl⟩
    rw [← hU] at ha HRD
    have HU := Lib.hid hU
    have HA := Lib.hid ha
    clear hc hp hrd d e tx ha a hU
    go_enter Tryd.func11, Tryd.ntmps11
    go_wp2_with fail
    ((with_reducible refine HL.out.mono ?_))
    rintro e w1 ⟨rfl, hb1⟩
    go_wp2_with fail
    ((with_reducible refine (HC.out w1).mono ?_))
    rintro e w2 ⟨rfl, rfl⟩
    go_wp2_with fail
    ((with_reducible refine (host_any t w1 (by omega)).mono ?_))
    rintro e w2 ⟨rfl, hb2⟩
    have HB2 := hb1.trans (hb2.mono hb1.size)
    rw [hh]
    go_wp2_with fail
    ((with_reducible refine (HRD.out w2).mono ?_))
    rintro e w3 ⟨rfl, hb3⟩
    have HB3 := HB2.trans (hb3.mono HB2.size)
    go_wp2_with fail
    ((with_reducible refine (HA.out w3 (hT.below HB3)).mono ?_))
    rintro e w4 ⟨rfl, hb4⟩
    go_wp2
    go_ret
    rw [HU.out]
    exact ⟨ret_uni2 HE.out, HB3.trans (hb4.mono HB3.size)⟩
end Go.Proofs.YtkgnhdebphaknaaDoor
