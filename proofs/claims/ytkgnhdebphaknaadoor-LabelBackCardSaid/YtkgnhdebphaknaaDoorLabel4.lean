/- Layer 4: the document's ToASCII. -/
import Derived.Test.YtkgnhdebphaknaaDoorLabel3
namespace Go.Proofs.YtkgnhdebphaknaaDoor
open Go.RowKit Go
set_option linter.unusedVariables false
theorem ref_step {l : List Int} {k : Nat} {x : Int} (hk : k < l.length) (hx : x = l[k]) (ha : ∀ c ∈ l.take k, ptOk c = true) (h1 : 0 < k → l.getD 0 0 ≠ 45) (h : ptOk x = true) (h45 : x = 45 → 0 < k ∧ k ≠ l.length - 1) :
    (∀ c ∈ l.take (k + 1), ptOk c = true) ∧ (l.getD 0 0 ≠ 45) ∧ (k + 1 = l.length → l.getD (l.length - 1) 0 ≠ 45) := by
  subst hx
  refine ⟨fit_step hk ha h, ?_, ?_⟩
  · by_cases h0 : 0 < k
    · exact h1 h0
    · obtain rfl : k = 0 := by omega
      rw [getD_at hk]
      intro e
      have := (h45 e).1
      omega
  · intro he
    obtain rfl : k = l.length - 1 := by omega
    rw [getD_at hk]
    intro e
    exact (h45 e).2 rfl
theorem getD_first {l : List Int} {x : Int} (hk : 0 < l.length) (hx : x = l[0]) (h : x = 45) : l.getD 0 0 = 45 := by rw [getD_at hk, ← hx, h]
theorem getD_last {l : List Int} {k : Nat} {x : Int} (hk : k < l.length) (hx : x = l[k]) (h : x = 45) (hl : k = l.length - 1) : l.getD (l.length - 1) 0 = 45 := by subst hl; rw [getD_at hk, ← hx, h]
theorem far_pos {s : ByteArray} (hf : farB s.data.toList = true) : 0 < s.size := by
  apply Nat.pos_of_ne_zero
  intro h
  have : s.data.toList = [] := List.eq_nil_of_length_eq_zero (by simpa using h)
  rw [this] at hf
  simp [farB] at hf
set_option maxHeartbeats 4000000 in
set_option maxRecDepth 100000 in
theorem refToAscii_any (s : ByteArray) (w : World) (hs : s.size ≤ 4000) :
    Calls Tryd.prog 8 #[.string s] w fun e w' => e = .returned (.tuple #[.string ⟨(asciiE s.data.toList).1.toArray⟩, .int .i64 (asciiE s.data.toList).2]) ∧ Below w.heap.size w w' := by
  obtain ⟨t, ht⟩ : ∃ t : ByteArray, t = ⟨(s.data.toList.map lowB).toArray⟩ := ⟨_, rfl⟩
  have htz : t.size = s.size := by rw [ht]; exact low_size s
  have htl : t.data.toList = s.data.toList.map lowB := by rw [ht]
  have HT := Lib.hid ht
  have HTL := Lib.hid htl
  clear ht htl
  cases hf : farB s.data.toList with
  | false =>
    cases hh : hostB s.data.toList with
    | true =>
      have hE := asciiE_host hf hh
      have HE := Lib.hid hE
      clear hE
      go_enter Tryd.func8, Tryd.ntmps8
      go_wp2_with fail
      ((with_reducible refine (refFar_any s w (by omega)).mono ?_))
      rintro e w2 ⟨rfl, rfl⟩
      rw [hf]
      go_wp2_with fail
      ((with_reducible refine (refHost_any s w (by omega)).mono ?_))
      rintro e w3 ⟨rfl, rfl⟩
      rw [hh]
      go_wp2_with fail
      ((with_reducible refine (refLower_any s w hs).mono ?_))
      rintro e w1 ⟨rfl, hb1⟩
      go_wp2
      go_ret2
      exact ⟨ret_asc HE.out, hb1⟩
    | false =>
      have hE := asciiE_bad hf hh
      have HE := Lib.hid hE
      clear hE
      go_enter Tryd.func8, Tryd.ntmps8
      go_wp2_with fail
      ((with_reducible refine (refFar_any s w (by omega)).mono ?_))
      rintro e w2 ⟨rfl, rfl⟩
      rw [hf]
      go_wp2_with fail
      ((with_reducible refine (refHost_any s w (by omega)).mono ?_))
      rintro e w3 ⟨rfl, rfl⟩
      rw [hh]
      go_wp2
      go_ret2
      exact ⟨ret_asc HE.out, Below.refl _ _⟩
  | true =>
    have hE0 := asciiE_far hf
    rw [← HTL.out] at hE0
    cases hr : runesL t.data.toList with
    | none =>
      rw [wrtE_none hr] at hE0
      have HE := Lib.hid hE0
      have hru := fun w => refRunesNo_any t w (by omega) hr
      have HRU := Lib.hid hru
      clear hE0 hru hr
      go_enter Tryd.func8, Tryd.ntmps8
      go_wp2_with fail
      ((with_reducible refine (refFar_any s w (by omega)).mono ?_))
      rintro e w2 ⟨rfl, rfl⟩
      rw [hf]
      go_wp2_with fail
      ((with_reducible refine (refLower_any s w hs).mono ?_))
      rintro e w1 ⟨rfl, hb1⟩
      rw [← HT.out]
      go_wp2_with fail
      ((with_reducible refine (HRU.out w1).mono ?_))
      rintro e w2 ⟨rfl, hb2⟩
      go_wp2
      go_ret2
      exact ⟨ret_asc HE.out, hb1.trans (hb2.mono hb1.size)⟩
    | some ks =>
      obtain ⟨n, hn⟩ : ∃ n, n = ks.length := ⟨_, rfl⟩
      have hru := fun w => refRunesYes_any t ks n w (by omega) hr hn
      have HRU := Lib.hid hru
      have HN := Lib.hid hn
      have htlen : t.data.toList.length = t.size := by simp
      have hkl := runesL_len t.data.toList.length t.data.toList ks (Nat.le_refl _) hr
      have hk0 := runes_ne hr (by have := far_pos hf; omega)
      have hpts := runes_pts hr
      have hpl := encE_len hpts
      have hx : ∀ x ∈ ks, -2147483648 ≤ x ∧ x ≤ 2147483647 := fun x h => by have := hpts x h; omega
      have HX := Lib.hid hx
      have HPT := Lib.hid hpts
      have HR := Lib.hid hr
      have hn1 : n ≤ 4000 := by omega
      have HE0 := Lib.hid hE0
      have hn0 : 0 < n := by omega
      clear hru hr hn htlen hkl hpts hx hE0 hk0
      have hun : fitB ks = false → asciiE s.data.toList = ([], 7) := fun h => by rw [HE0.out, wrtE_unfit HR.out h]
      have HUN := Lib.hid hun
      clear hun
      go_enter Tryd.func8, Tryd.ntmps8
      go_wp2_with fail
      ((with_reducible refine (refFar_any s w (by omega)).mono ?_))
      rintro e w2 ⟨rfl, rfl⟩
      rw [hf]
      go_wp2_with fail
      ((with_reducible refine (refLower_any s w hs).mono ?_))
      rintro e w1 ⟨rfl, hb1⟩
      rw [← HT.out]
      go_wp2_with fail
      ((with_reducible refine (HRU.out w1).mono ?_))
      rintro e w2 ⟨⟨A, c, rfl, hat⟩, hb2⟩
      have HB := hb1.trans (hb2.mono hb1.size)
      go_wp2_with fail
      have HAT := Lib.hid hat
      clear hat
      go_loop [6] (fun i => ∃ k : Nat, k ≤ n ∧ i = .int .i64 k ∧ Hid (∀ c ∈ ks.take k, ptOk c = true) ∧ Hid (0 < k → ks.getD 0 0 ≠ 45) ∧ Hid (0 < k → k = n → ks.getD (ks.length - 1) 0 ≠ 45)) (fun i => n - (intOf i).toNat)
      case atStart => exact ⟨0, Nat.zero_le _, rfl, Lib.hid (by simp), Lib.hid (by omega), Lib.hid (by omega)⟩
      case round =>
        obtain ⟨k, hk, rfl, ha, ha1, ha2⟩ := hrel
        by_cases hlt : k < n
        · obtain ⟨b, o, rfl, hb, hcell⟩ := HAT.out.2 (by omega)
          have hkl : k < ks.length := by have := HN.out; omega
          have h1 := hcell k hkl
          have hpt := HPT.out _ (List.getElem_mem hkl)
          obtain ⟨x, hxe⟩ : ∃ x, x = ks[k] := ⟨_, rfl⟩
          have hbad := fit_bad hkl
          have hstep := ref_step hkl hxe ha.out ha1.out
          have hlast := getD_last hkl hxe
          have hfirst : k = 0 → x = 45 → ks.getD 0 0 = 45 := fun h => by subst h; exact getD_first hkl hxe
          rw [← hxe] at h1 hbad hpt
          obtain ⟨x0, x1⟩ := hpt
          have HBAD := Lib.hid hbad
          have HSTEP := Lib.hid hstep
          have HLAST := Lib.hid hlast
          have HFIRST := Lib.hid hfirst
          clear hxe hbad hstep hlast hfirst hcell
          have hgo : ptOk x = true → (x = 45 → 0 < k ∧ k ≠ ks.length - 1) → Hid (∀ c ∈ ks.take (k + 1), ptOk c = true) ∧ Hid (0 < k + 1 → ks.getD 0 0 ≠ 45) ∧ Hid (0 < k + 1 → k + 1 = n → ks.getD (ks.length - 1) 0 ≠ 45) := fun a b => by
            obtain ⟨p, q, r⟩ := HSTEP.out a b
            exact ⟨Lib.hid p, Lib.hid fun _ => q, Lib.hid fun _ h => r (by rw [h, HN.out])⟩
          have HGO := Lib.hid hgo
          clear hgo
          have d1 : ∀ v : Int, x ≠ v → (x == v) = false := fun v h => by simpa using h
          by_cases hx : x < 128
          · have hok := ptOk_small hx
            have e1 := d1 12290 (by omega)
            have e2 := d1 65294 (by omega)
            have e3 := d1 65377 (by omega)
            cases hp : plainB x with
            | false =>
              have hno := HUN.out (HBAD.out (by rw [hok, hp]))
              have HNO := Lib.hid hno
              clear hok hno d1
              go_wp2_with fail
              ((with_reducible refine (refPlain_any _ _).mono ?_))
              rintro e w3 ⟨rfl, rfl⟩
              rw [hp]
              go_wp2
              go_ret2
              exact ⟨ret_asc HNO.out, HB⟩
            | true =>
              by_cases h45 : x = 45
              · by_cases hk0 : k = 0
                · have hno := HUN.out (fit_first (HFIRST.out hk0 h45))
                  have HNO := Lib.hid hno
                  have e4 : ((k : Int) == 0) = true := by simp; omega
                  have e5 : (x == 45) = true := by simp; omega
                  clear hok hno d1 hk0 h45
                  go_wp2_with fail
                  ((with_reducible refine (refPlain_any _ _).mono ?_))
                  rintro e w3 ⟨rfl, rfl⟩
                  rw [hp]
                  go_wp2
                  all_goals (go_ret2; exact ⟨ret_asc HNO.out, HB⟩)
                · have e4 : ((k : Int) == 0) = false := by simp; omega
                  have e5 : (x == 45) = true := by simp; omega
                  by_cases hk9 : k = n - 1
                  · have hno := HUN.out (fit_last (HLAST.out h45 (by rw [← HN.out]; exact hk9)))
                    have HNO := Lib.hid hno
                    have e6 : ((k : Int) == (n : Int) - 1) = true := by simp; omega
                    clear hok hno d1 hk9 h45
                    go_wp2_with fail
                    ((with_reducible refine (refPlain_any _ _).mono ?_))
                    rintro e w3 ⟨rfl, rfl⟩
                    rw [hp]
                    go_wp2
                    all_goals (go_ret2; exact ⟨ret_asc HNO.out, HB⟩)
                  · have e6 : ((k : Int) == (n : Int) - 1) = false := by simp; omega
                    obtain ⟨g1, g2, g3⟩ := HGO.out (by rw [hok, hp]) (fun _ => ⟨by omega, by rw [← HN.out]; exact hk9⟩)
                    clear hok d1 h45
                    go_wp2_with fail
                    ((with_reducible refine (refPlain_any _ _).mono ?_))
                    rintro e w3 ⟨rfl, rfl⟩
                    rw [hp]
                    go_wp2
                    go_round
                    case rel => exact ⟨k + 1, by omega, by go_num, g1, g2, g3⟩
                    case measure => simp [intOf]; omega
              · have e5 := d1 45 h45
                obtain ⟨g1, g2, g3⟩ := HGO.out (by rw [hok, hp]) (fun h => absurd h h45)
                clear hok d1
                go_wp2_with fail
                ((with_reducible refine (refPlain_any _ _).mono ?_))
                rintro e w3 ⟨rfl, rfl⟩
                rw [hp]
                go_wp2
                go_round
                case rel => exact ⟨k + 1, by omega, by go_num, g1, g2, g3⟩
                case measure => simp [intOf]; omega
          · have hx2 : 128 ≤ x := by omega
            have hok := ptOk_big hx
            cases hd : dotB x with
            | true =>
              have hno := HUN.out (HBAD.out (by rw [hok, hd]; rfl))
              have HNO := Lib.hid hno
              have hd2 : x = 12290 ∨ x = 65294 ∨ x = 65377 := by unfold dotB at hd; simpa [or_assoc] using hd
              clear hok hno d1 hd
              rcases hd2 with rfl | rfl | rfl
              · go_wp2
                all_goals (go_ret2; exact ⟨ret_asc HNO.out, HB⟩)
              · go_wp2
                all_goals (go_ret2; exact ⟨ret_asc HNO.out, HB⟩)
              · go_wp2
                all_goals (go_ret2; exact ⟨ret_asc HNO.out, HB⟩)
            | false =>
              have hd2 : x ≠ 12290 ∧ x ≠ 65294 ∧ x ≠ 65377 := by unfold dotB at hd; simpa [and_assoc] using hd
              have e1 := d1 12290 hd2.1
              have e2 := d1 65294 hd2.2.1
              have e3 := d1 65377 hd2.2.2
              obtain ⟨g1, g2, g3⟩ := HGO.out (by rw [hok, hd]; rfl) (fun h => by omega)
              clear hok d1 hd2 hd
              go_wp2
              go_round
              case rel => exact ⟨k + 1, by omega, by go_num, g1, g2, g3⟩
              case measure => simp [intOf]; omega
        · have hkn : k = n := by omega
          have hks : 0 < k := by omega
          have hfit := fit_end (l := ks) (ha1.out hks) (ha2.out hks hkn) (by rw [← HN.out, ← hkn]; exact ha.out)
          have HF := Lib.hid hfit
          obtain ⟨y, hye⟩ : ∃ y, y = (encE ks).2 := ⟨_, rfl⟩
          obtain ⟨sp, hsp⟩ : ∃ sp : ByteArray, sp = ⟨(encE ks).1.toArray⟩ := ⟨_, rfl⟩
          have hspl := enc_str (x := y) hsp
          have HYE := Lib.hid hye
          have HSP := Lib.hid hsp
          have HSL := Lib.hid hspl
          have hspz : sp.size ≤ 60000 := by omega
          clear hye hsp hspl hfit hpl
          go_wp2_with fail
          ((with_reducible refine (refEncode_any _ A n c ks HAT.out (by omega) HX.out).mono ?_))
          rintro e w4 ⟨rfl, hb4⟩
          have HB4 := HB.trans (hb4.mono HB.size)
          rw [← HYE.out, ← HSP.out]
          by_cases hy0 : y = 0
          · by_cases hl : 59 < sp.size
            · have hE := HE0.out
              rw [wrtE_long HR.out HF.out (by rw [← HYE.out]; exact hy0) (by rw [← HSL.out]; exact hl)] at hE
              have HE := Lib.hid hE
              clear hE
              subst hy0
              go_wp2
              go_ret2
              exact ⟨ret_asc HE.out, HB4⟩
            · have hE := HE0.out
              rw [wrtE_ok HR.out HF.out (by rw [← HYE.out]; exact hy0) (by rw [← HSL.out]; exact hl)] at hE
              have HE := Lib.hid hE
              clear hE
              subst hy0
              go_wp2
              go_ret2
              refine ⟨?_, HB4⟩
              rw [HE.out, HSP.out]
              exact ret_si (sgn_app _) rfl
          · have hE := HE0.out
            rw [wrtE_enc HR.out HF.out (by rw [← HYE.out]; exact hy0), ← HYE.out] at hE
            have HE := Lib.hid hE
            clear hE
            have hy1 : (y == 0) = false := by simpa using hy0
            go_wp2
            go_ret2
            exact ⟨ret_asc HE.out, HB4⟩
end Go.Proofs.YtkgnhdebphaknaaDoor
