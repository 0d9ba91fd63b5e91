/- Layer 4: ToASCII, and the document's. -/
import Derived.Test.YtkgnhdebphaknaaDoorLabel2
namespace Go.Proofs.YtkgnhdebphaknaaDoor
open Go.RowKit Go
set_option linter.unusedVariables false
def wrtE (t : List UInt8) : List UInt8 × Int :=
  match runesL t with
  | none => ([], 5)
  | some ks => if fitB ks = false then ([], 7) else if (encE ks).2 ≠ 0 then ([], (encE ks).2) else if 59 < (encE ks).1.length then ([], 7) else (sgn ++ (encE ks).1, 0)
theorem asciiE_far {s : List UInt8} (h : farB s = true) : asciiE s = wrtE (s.map lowB) := by unfold asciiE; rw [if_neg (by simp [h])]; rfl
theorem wrtE_none {t : List UInt8} (h2 : runesL t = none) : wrtE t = ([], 5) := by unfold wrtE; rw [h2]
theorem wrtE_unfit {t : List UInt8} {ks : List Int} (h2 : runesL t = some ks) (h3 : fitB ks = false) : wrtE t = ([], 7) := by unfold wrtE; rw [h2]; simp only; rw [if_pos h3]
theorem wrtE_enc {t : List UInt8} {ks : List Int} (h2 : runesL t = some ks) (h3 : fitB ks = true) (h4 : (encE ks).2 ≠ 0) : wrtE t = ([], (encE ks).2) := by
  unfold wrtE; rw [h2]; simp only; rw [if_neg (by simp [h3]), if_pos h4]
theorem wrtE_long {t : List UInt8} {ks : List Int} (h2 : runesL t = some ks) (h3 : fitB ks = true) (h4 : (encE ks).2 = 0) (h5 : 59 < (encE ks).1.length) : wrtE t = ([], 7) := by
  unfold wrtE; rw [h2]; simp only; rw [if_neg (by simp [h3]), if_neg (by simp [h4]), if_pos h5]
theorem wrtE_ok {t : List UInt8} {ks : List Int} (h2 : runesL t = some ks) (h3 : fitB ks = true) (h4 : (encE ks).2 = 0) (h5 : ¬ 59 < (encE ks).1.length) : wrtE t = (sgn ++ (encE ks).1, 0) := by
  unfold wrtE; rw [h2]; simp only; rw [if_neg (by simp [h3]), if_neg (by simp [h4]), if_neg h5]
theorem ret_si {a b : ByteArray} {x y : Int} (h : a = b) (k : x = y) : Ending.returned (.tuple #[.string a, .int .i64 x]) = .returned (.tuple #[.string b, .int .i64 y]) := by rw [h, k]
theorem ret_wrt {t p : List UInt8} {x : Int} (h : wrtE t = (p, x)) : Ending.returned (.tuple #[.string ⟨p.toArray⟩, .int .i64 x]) = .returned (.tuple #[.string ⟨(wrtE t).1.toArray⟩, .int .i64 (wrtE t).2]) := by rw [h]
theorem ret_asc {t p : List UInt8} {x : Int} (h : asciiE t = (p, x)) : Ending.returned (.tuple #[.string ⟨p.toArray⟩, .int .i64 x]) = .returned (.tuple #[.string ⟨(asciiE t).1.toArray⟩, .int .i64 (asciiE t).2]) := by rw [h]
theorem runesNo_any (s : ByteArray) (w : World) (hT : U8 w) (hs : s.size ≤ 4000) (h : runesL s.data.toList = none) : Calls Tryd.prog 27 #[.string s] w fun e w' => e = .returned (.tuple #[.slice none 0 0, .int .i64 5]) ∧ Below w.heap.size w w' := by
  refine (runes_any s w hT hs).mono ?_
  rintro e w' ⟨h1, hb⟩
  rcases h1 with ⟨_, rfl⟩ | ⟨ks, A, c, h2, _⟩
  · exact ⟨rfl, hb⟩
  · rw [h] at h2; cases h2
theorem runesYes_any (s : ByteArray) (ks : List Int) (n : Nat) (w : World) (hT : U8 w) (hs : s.size ≤ 4000) (h : runesL s.data.toList = some ks) (hn : n = ks.length) : Calls Tryd.prog 27 #[.string s] w fun e w' => (∃ A c, e = .returned (.tuple #[.slice A n c, .int .i64 0]) ∧ IntsAt w' .i32 A n ks) ∧ Below w.heap.size w w' := by
  refine (runes_any s w hT hs).mono ?_
  rintro e w' ⟨h1, hb⟩
  rcases h1 with ⟨h2, _⟩ | ⟨ks', A, c, h2, he, ha⟩
  · rw [h] at h2; cases h2
  · rw [h] at h2
    obtain rfl := Option.some.inj h2
    rw [hn]
    exact ⟨⟨A, c, he, ha⟩, hb⟩
theorem refRunesNo_any (s : ByteArray) (w : World) (hs : s.size ≤ 4000) (h : runesL s.data.toList = none) : Calls Tryd.prog 18 #[.string s] w fun e w' => e = .returned (.tuple #[.slice none 0 0, .int .i64 5]) ∧ Below w.heap.size w w' := by
  refine (refRunes_any s w hs).mono ?_
  rintro e w' ⟨h1, hb⟩
  rcases h1 with ⟨_, rfl⟩ | ⟨ks, A, c, h2, _⟩
  · exact ⟨rfl, hb⟩
  · rw [h] at h2; cases h2
theorem refRunesYes_any (s : ByteArray) (ks : List Int) (n : Nat) (w : World) (hs : s.size ≤ 4000) (h : runesL s.data.toList = some ks) (hn : n = ks.length) : Calls Tryd.prog 18 #[.string s] w fun e w' => (∃ A c, e = .returned (.tuple #[.slice A n c, .int .i64 0]) ∧ IntsAt w' .i64 A n ks) ∧ Below w.heap.size w w' := by
  refine (refRunes_any s w hs).mono ?_
  rintro e w' ⟨h1, hb⟩
  rcases h1 with ⟨h2, _⟩ | ⟨ks', A, c, h2, he, ha⟩
  · rw [h] at h2; cases h2
  · rw [h] at h2
    obtain rfl := Option.some.inj h2
    rw [hn]
    exact ⟨⟨A, c, he, ha⟩, hb⟩
theorem encE_len {l : List Int} (hx : ∀ x ∈ l, 0 ≤ x ∧ x ≤ 1114111) : (encE l).1.length ≤ 60000 := by
  by_cases h : 4096 < l.length
  · rw [encE_long h]; simp
  · have ho := offB_no hx
    cases he : encO l with
    | none => rw [encE_over h ho he]; simp
    | some o =>
      rw [encE_ok h ho he]
      have := encO_len (by omega) hx he
      simp only
      omega
theorem runes_pts {t : List UInt8} {ks : List Int} (h : runesL t = some ks) : ∀ x ∈ ks, 0 ≤ x ∧ x ≤ 1114111 := by
  intro x hx
  have := (ptB_iff x).1 (List.all_eq_true.1 (textL_some (runes_text t.length t ks (Nat.le_refl _) h)).1 x hx)
  omega
theorem runes_ne {t : List UInt8} {ks : List Int} (h : runesL t = some ks) (ht : 0 < t.length) : 0 < ks.length := by
  have h2 := (textL_some (runes_text t.length t ks (Nat.le_refl _) h)).2
  apply Nat.pos_of_ne_zero
  intro h0
  obtain rfl := List.eq_nil_of_length_eq_zero h0
  simp at h2
  subst h2
  simp at ht
theorem sgn_app (p : List UInt8) : (⟨#[120, 110, 45, 45]⟩ : ByteArray) ++ ⟨p.toArray⟩ = ⟨(sgn ++ p).toArray⟩ := ba_app2 sgn p
theorem enc_str {ks : List Int} {x : Int} {sp : ByteArray} (h : sp = ⟨(encE ks).1.toArray⟩) : sp.size = (encE ks).1.length := by rw [h]; simp [ByteArray.size]
set_option maxHeartbeats 1000000 in
theorem write_any (s : ByteArray) (w : World) (hT : U8 w) (hs : s.size ≤ 4000) (h0 : 0 < s.size) :
    Calls Tryd.prog 17 #[.string s] w fun e w' => e = .returned (.tuple #[.string ⟨(wrtE s.data.toList).1.toArray⟩, .int .i64 (wrtE s.data.toList).2]) ∧ Below w.heap.size w w' := by
  have hsl : s.data.toList.length = s.size := by simp
  cases hr : runesL s.data.toList with
  | none =>
    have hru := runesNo_any s w hT hs hr
    have HRU := Lib.hid hru
    have hE := wrtE_none hr
    have HE := Lib.hid hE
    clear hru hE hr
    go_enter Tryd.func17, Tryd.ntmps17
    go_wp2_with fail
    ((with_reducible refine HRU.out.mono ?_))
    rintro e w1 ⟨rfl, hb1⟩
    go_wp2
    go_ret2
    exact ⟨ret_wrt HE.out, hb1⟩
  | some ks =>
    obtain ⟨n, hn⟩ : ∃ n, n = ks.length := ⟨_, rfl⟩
    have hru := runesYes_any s ks n w hT hs hr hn
    have HRU := Lib.hid hru
    have hk0 := runes_ne hr (by omega)
    have hkl := runesL_len s.data.toList.length s.data.toList ks (Nat.le_refl _) hr
    have hpts := runes_pts hr
    have hpl := encE_len hpts
    have hx : ∀ x ∈ ks, -2147483648 ≤ x ∧ x ≤ 2147483647 := fun x h => by have := hpts x h; omega
    have HX := Lib.hid hx
    have HR := Lib.hid hr
    have hn0 : 0 < n := by omega
    have hn1 : n ≤ 4000 := by omega
    obtain ⟨x, hxe⟩ : ∃ x, x = (encE ks).2 := ⟨_, rfl⟩
    obtain ⟨sp, hsp⟩ : ∃ sp : ByteArray, sp = ⟨(encE ks).1.toArray⟩ := ⟨_, rfl⟩
    have hspl := enc_str (x := x) hsp
    have HXE := Lib.hid hxe
    have HSP := Lib.hid hsp
    have HSL := Lib.hid hspl
    have hspz : sp.size ≤ 60000 := by omega
    clear hru hr hk0 hkl hpts hpl hx hn hxe hsp hspl hsl
    cases hf : fitB ks with
    | false =>
      have hE := wrtE_unfit HR.out hf
      have HE := Lib.hid hE
      clear hE
      go_enter Tryd.func17, Tryd.ntmps17
      go_wp2_with fail
      ((with_reducible refine HRU.out.mono ?_))
      rintro e w1 ⟨⟨A, c, rfl, hat⟩, hb1⟩
      go_wp2_with fail
      ((with_reducible refine (fit_any A n c ks w1 hat hn1 hn0).mono ?_))
      rintro e w2 ⟨rfl, rfl⟩
      rw [hf]
      go_wp2
      go_ret2
      exact ⟨ret_wrt HE.out, hb1⟩
    | true =>
      have HF := Lib.hid hf
      go_enter Tryd.func17, Tryd.ntmps17
      go_wp2_with fail
      ((with_reducible refine HRU.out.mono ?_))
      rintro e w1 ⟨⟨A, c, rfl, hat⟩, hb1⟩
      go_wp2_with fail
      ((with_reducible refine (fit_any A n c ks w1 hat hn1 hn0).mono ?_))
      rintro e w2 ⟨rfl, rfl⟩
      rw [hf]
      clear hf
      go_wp2_with fail
      ((with_reducible refine (encode_any w1 A n c ks hat (by omega) HX.out).mono ?_))
      rintro e w2 ⟨rfl, hb2⟩
      have HB := hb1.trans (hb2.mono hb1.size)
      rw [← HXE.out, ← HSP.out]
      by_cases hx0 : x = 0
      · by_cases hl : 59 < sp.size
        · have hE := wrtE_long HR.out HF.out (by rw [← HXE.out]; exact hx0) (by rw [← HSL.out]; exact hl)
          have HE := Lib.hid hE
          clear hE
          subst hx0
          go_wp2
          go_ret2
          exact ⟨ret_wrt HE.out, HB⟩
        · have hE := wrtE_ok HR.out HF.out (by rw [← HXE.out]; exact hx0) (by rw [← HSL.out]; exact hl)
          have HE := Lib.hid hE
          clear hE
          subst hx0
          go_wp2
          go_ret2
          refine ⟨?_, HB⟩
          rw [HE.out, HSP.out]
          exact ret_si (sgn_app _) rfl
      · have hE := wrtE_enc HR.out HF.out (by rw [← HXE.out]; exact hx0)
        rw [← HXE.out] at hE
        have HE := Lib.hid hE
        clear hE
        have hx1 : (x == 0) = false := by simpa using hx0
        go_wp2
        go_ret2
        exact ⟨ret_wrt HE.out, HB⟩
theorem low_size (s : ByteArray) : (⟨(s.data.toList.map lowB).toArray⟩ : ByteArray).size = s.size := by
  show (s.data.toList.map lowB).toArray.size = s.size
  rw [List.size_toArray, List.length_map]
  exact Array.length_toList
set_option maxHeartbeats 1000000 in
theorem toAscii_any (s : ByteArray) (w : World) (hT : U8 w) (hs : s.size ≤ 4000) :
    Calls Tryd.prog 7 #[.string s] w fun e w' => e = .returned (.tuple #[.string ⟨(asciiE s.data.toList).1.toArray⟩, .int .i64 (asciiE s.data.toList).2]) ∧ Below w.heap.size w w' := by
  obtain ⟨t, ht⟩ : ∃ t : ByteArray, t = ⟨(s.data.toList.map lowB).toArray⟩ := ⟨_, rfl⟩
  have htz : t.size = s.size := by rw [ht]; exact low_size s
  have htl : t.data.toList = s.data.toList.map lowB := by rw [ht]
  have HT := Lib.hid ht
  have HTL := Lib.hid htl
  clear ht htl
  cases hf : farB s.data.toList with
  | true =>
    have h0 : 0 < s.size := by
      apply Nat.pos_of_ne_zero
      intro h
      have : s.data.toList = [] := List.eq_nil_of_length_eq_zero (by simpa using h)
      rw [this] at hf
      simp [farB] at hf
    have hE := asciiE_far hf
    have HE := Lib.hid hE
    clear hE
    go_enter Tryd.func7, Tryd.ntmps7
    go_wp2_with fail
    ((with_reducible refine (lower_any s w hs).mono ?_))
    rintro e w1 ⟨rfl, hb1⟩
    rw [← HT.out]
    go_wp2_with fail
    ((with_reducible refine (far_any s w1 (by omega)).mono ?_))
    rintro e w2 ⟨rfl, hb2⟩
    have HB := hb1.trans (hb2.mono hb1.size)
    rw [hf]
    go_wp2_with fail
    ((with_reducible refine (write_any t w2 (hT.below HB) (by omega) (by omega)).mono ?_))
    rintro e w3 ⟨rfl, hb3⟩
    rw [HTL.out, ← HE.out]
    go_wp2
    go_ret2
    exact ⟨rfl, HB.trans (hb3.mono HB.size)⟩
  | false =>
    cases hh : hostB s.data.toList with
    | true =>
      have hE := asciiE_host hf hh
      have HE := Lib.hid hE
      clear hE
      go_enter Tryd.func7, Tryd.ntmps7
      go_wp2_with fail
      ((with_reducible refine (lower_any s w hs).mono ?_))
      rintro e w1 ⟨rfl, hb1⟩
      rw [← HT.out]
      go_wp2_with fail
      ((with_reducible refine (far_any s w1 (by omega)).mono ?_))
      rintro e w2 ⟨rfl, hb2⟩
      have HB := hb1.trans (hb2.mono hb1.size)
      rw [hf]
      go_wp2_with fail
      ((with_reducible refine (host_any s w2 (by omega)).mono ?_))
      rintro e w3 ⟨rfl, hb3⟩
      rw [hh]
      go_wp2
      go_ret2
      rw [HT.out]
      exact ⟨ret_asc HE.out, HB.trans (hb3.mono HB.size)⟩
    | false =>
      have hE := asciiE_bad hf hh
      have HE := Lib.hid hE
      clear hE
      go_enter Tryd.func7, Tryd.ntmps7
      go_wp2_with fail
      ((with_reducible refine (lower_any s w hs).mono ?_))
      rintro e w1 ⟨rfl, hb1⟩
      rw [← HT.out]
      go_wp2_with fail
      ((with_reducible refine (far_any s w1 (by omega)).mono ?_))
      rintro e w2 ⟨rfl, hb2⟩
      have HB := hb1.trans (hb2.mono hb1.size)
      rw [hf]
      go_wp2_with fail
      ((with_reducible refine (host_any s w2 (by omega)).mono ?_))
      rintro e w3 ⟨rfl, hb3⟩
      rw [hh]
      go_wp2
      go_ret2
      exact ⟨ret_asc HE.out, HB.trans (hb3.mono HB.size)⟩
end Go.Proofs.YtkgnhdebphaknaaDoor
