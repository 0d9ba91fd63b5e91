/- Texts behind a law of this seat, in order: Puny16. -/
import Derived.Test.YtkgnhdebphaknaaDoorPa
import Derived.Test.YtkgnhdebphaknaaDoorPb
import Derived.Test.YtkgnhdebphaknaaDoorPc
import Derived.Test.YtkgnhdebphaknaaDoorPd
import Derived.Test.YtkgnhdebphaknaaDoorPe
import Derived.Test.YtkgnhdebphaknaaDoorPh
import Derived.Test.YtkgnhdebphaknaaDoorPi
import Derived.Test.YtkgnhdebphaknaaDoorPj
import Derived.Test.YtkgnhdebphaknaaDoorPk
import Derived.Test.YtkgnhdebphaknaaDoorPl
import Derived.Test.YtkgnhdebphaknaaDoorPm
import Derived.Test.YtkgnhdebphaknaaDoorPn
import Derived.Test.YtkgnhdebphaknaaDoorPo
import Derived.Test.YtkgnhdebphaknaaDoorPp
import Derived.Below
import Derived.BigQuiet
import Derived.BigRegion
import Derived.ChangeSlices
import Derived.Deep.AppendLies
import Derived.Deep.Draws
import Derived.Deep.QuietTactic
import Derived.Deep.RegionHeld3
import Derived.Deep.RegionLaw
import Derived.Deep.RegionWith
import Derived.Handed
import Derived.IntWalk
import Derived.Laws.CopyOwn
import Derived.Laws.Externs
import Derived.Laws.OwnMore
import Derived.Laws.Rows
import Derived.Lib.AppendZeros
import Derived.Lib.AppendZerosOnto
import Derived.Lib.Bytealg
import Derived.Lib.Hide
import Derived.Lib.Overlaps
import Derived.Lib.Strings
import Derived.Maps.AppendAt
import Derived.Shelf.Small.Strs
import Derived.Shelf.Small.Utf8
import Derived.Shelf.Small.Wraps
import Derived.Shelf.Strings.Prefix
import Derived.Shelf.Strings.Search1
import Derived.Shelf.Unicode.Decode
import Derived.Shelf.Unicode.DecodeAny
import Derived.Shelf.Unicode.DecodeSlow
import Derived.Shelf.Utf8.AppendRunePlain
import Derived.SizedLaws
import Derived.SliceStrings
import Derived.StillTailTactics
import Derived.Test.YtkgnhdebphaknaaDoorProg
import Derived.WalkKit
import Derived.WalkLawsBesides
import Derived.WalkSpells
namespace Go.Proofs.YtkgnhdebphaknaaDoor
open Go.RowKit Go
set_option linter.unusedVariables false
theorem elemInt : Elem1 Tryd.prog 3 (.int .i64 0) 8 := by unfold Elem1; kernel_rfl
theorem hyf_step (s : ByteArray) (k : Nat) (hk : k < s.size) : hyf (s.data.toList.take (k + 1)) = if s[k].toNat = 45 then k + 1 else hyf (s.data.toList.take k) := by
  rw [take_snoc s k hk]
  have hl : (s.data.toList.take k).length = k := by rw [List.length_take]; simp; omega
  by_cases h : s[k].toNat = 45
  · rw [if_pos h, show s[k] = 45 from UInt8.toNat_inj.1 h, hyf_yes, hl]
  · rw [if_neg h, hyf_no _ (by intro e; apply h; rw [e]; rfl)]
set_option maxRecDepth 100000 in
set_option maxHeartbeats 8000000 in
theorem refDecode_any (s : ByteArray) (w : World) (hs : s.size ≤ 9223372036854775806) : Calls Tryd.prog 24 #[.string s] w (DecP .i64 s.data.toList w) := by
  have hsl : s.data.toList.length = s.size := by simp
  have HSL := Lib.hid hsl
  clear hsl
  by_cases hbig : 32768 < s.size
  · have he := decE_long (s := s.data.toList) (by rw [HSL.out]; exact hbig)
    have HE := Lib.hid he
    clear he
    go_enter Tryd.func24, Tryd.ntmps24
    go_wp2
    go_ret2
    exact decP_no (Below.refl _ _) HE.out
  go_enter Tryd.func24, Tryd.ntmps24
  go_wp2
  go_loop [4, 5] (fun u i => ∃ k : Nat, k ≤ s.size ∧ i = .int .i64 k ∧ u = .int .i64 (hyf (s.data.toList.take k) : Int)) (fun _ i => s.size - (intOf i).toNat)
  case atStart => exact ⟨0, by omega, rfl, rfl⟩
  case round =>
    obtain ⟨k, hk, rfl, rfl⟩ := hrel
    by_cases hlt : k < s.size
    · have hst := hyf_step s k hlt
      have HST := Lib.hid hst
      have hb8 : (s[k].toNat : Int) ≤ 255 := by have := s[k].toNat_lt; omega
      obtain ⟨H, hH⟩ : ∃ H, H = hyf (s.data.toList.take k) := ⟨_, rfl⟩
      rw [← hH] at HST
      rw [← hH]
      clear hst hH
      by_cases h45 : s[k].toNat = 45
      · have hq : ((s[k].toNat : Int) == 45) = true := by simp [h45]
        have HQ := Lib.hid h45
        clear h45
        go_wp2
        go_round
        case rel => exact ⟨k + 1, by omega, by go_num, by rw [HST.out, if_pos HQ.out]; go_num⟩
        case measure => simp [intOf]; omega
      · have hq : ((s[k].toNat : Int) == 45) = false := by simp; omega
        have HQ := Lib.hid h45
        clear h45
        go_wp2
        go_round
        case rel => exact ⟨k + 1, by omega, by go_num, by rw [HST.out, if_neg HQ.out]⟩
        case measure => simp [intOf]; omega
    · rw [List.take_of_length_le (by rw [HSL.out]; omega)]
      have hle := hyf_le s.data.toList
      rw [HSL.out] at hle
      obtain ⟨H, hH⟩ : ∃ H, H = hyf s.data.toList := ⟨_, rfl⟩
      rw [← hH] at hle
      rw [← hH]
      have HH := Lib.hid hH
      have hpre : preL s.data.toList = s.data.toList.take (H - 1) := by unfold preL; rw [← hH]
      have HPRE := Lib.hid hpre
      clear hH hpre
      go_wp2
      go_loopw [6, 7] (fun v i wr => ∃ j : Nat, j ≤ H - 1 ∧ i = .int .i64 j ∧ wr.ownsRow w.heap.size 3 1 v j (intVs .i64 (ptsL (s.data.toList.take j))) ∧ Below w.heap.size w wr ∧ Hid (∀ c ∈ s.data.toList.take j, c.toNat < 128)) (fun _ i _ => s.size - (intOf i).toNat)
      case atStart => exact ⟨0, by omega, rfl, World.ownsRow_nil _ _ _ _, Below.refl _ _, Lib.hid (by simp)⟩
      case round =>
        obtain ⟨j, hj, rfl, hown, HB, hall⟩ := hrel
        by_cases hjl : j < H - 1
        · have hjs : j < s.size := by omega
          have hb8 : (s[j].toNat : Int) ≤ 255 := by have := s[j].toNat_lt; omega
          have hstep := ptsL_step s j hjs
          have HS := Lib.hid hstep
          have hwz := HB.size
          have hjH : (j : Int) < (H : Int) - 1 := by omega
          clear hstep
          by_cases h128 : 128 ≤ s[j].toNat
          · have hbg : bigB (preL s.data.toList) = true := by
              rw [HPRE.out]
              unfold bigB
              rw [List.any_eq_true]
              refine ⟨s[j], ?_, by simpa using h128⟩
              have hm : s.data.toList[j]'(by simpa using hjs) ∈ s.data.toList.take (H - 1) := List.mem_take_iff_getElem.2 ⟨j, by rw [HSL.out]; omega, rfl⟩
              exact hm
            have he := decE_big (s := s.data.toList) (by rw [HSL.out]; exact hbig) hbg
            have HE := Lib.hid he
            have h2 : (128 : Int) ≤ (s[j].toNat : Int) := by omega
            clear hbg he
            go_wp2
            go_ret2
            exact decP_no HB HE.out
          · have h2 : (s[j].toNat : Int) < 128 := by omega
            have hall2 : ∀ c ∈ s.data.toList.take (j + 1), c.toNat < 128 := by
              rw [take_snoc s j hjs]
              intro c hc
              rcases List.mem_append.1 hc with hc | hc
              · exact hall.out c hc
              · obtain rfl := List.mem_singleton.1 hc
                omega
            have HALL := Lib.hid hall2
            clear hall2
            go_wp2_with (at_builtin; refine wpList_app1 rfl (.tmp 42) (.tmp 47) 28 3 rfl Tryd.underlying28 elemInt rfl w.heap.size _ j _ _ rfl rfl hown rfl (by omega) (by omega) hwz ?_)
            intro v' w2 hown2 HB2 hne
            have hown3 : w2.ownsRow w.heap.size 3 1 v' (j + 1) (intVs .i64 (ptsL (s.data.toList.take (j + 1)))) := by
              rw [HS.out]; exact own_appInt1 hown2
            clear hown2 hown
            go_wp2_with fail
            go_roundw
            case rel => exact ⟨j + 1, by omega, by go_num, hown3, HB.trans HB2, HALL⟩
            case measure => simp [intOf]; omega
        · obtain rfl : j = H - 1 := by omega
          rw [← HPRE.out] at hown hall
          have hjH : (H : Int) - 1 ≤ ((H - 1 : Nat) : Int) := by omega
          have hpl : (preL s.data.toList).length = H - 1 := by rw [HPRE.out, List.length_take, HSL.out]; omega
          have hno := bigB_none hall.out
          have HNO := Lib.hid hno
          have HPL := Lib.hid hpl
          obtain ⟨m, hm⟩ : ∃ m, m = H - 1 := ⟨_, rfl⟩
          rw [← hm] at hown hjH HPL
          rw [← hm]
          have HM := Lib.hid hm
          obtain ⟨A, c, rfl⟩ := own_slice hown
          have HOWN := Lib.hid hown
          clear hno hpl hm hlt hjl hj hown
          by_cases hmany : 4096 < m
          · have he := decE_many (s := s.data.toList) (by rw [HSL.out]; exact hbig) HNO.out (by rw [HPL.out]; exact hmany)
            have HE := Lib.hid he
            clear he
            go_wp2
            go_ret2
            exact decP_no HB HE.out
          · have he := decE_go (s := s.data.toList) (by rw [HSL.out]; exact hbig) HNO.out (by rw [HPL.out]; exact hmany)
            have HE := Lib.hid he
            have hdi := dInv_start (l := preL s.data.toList) (by rw [HPL.out]; exact hmany) hall.out
            have HDI := Lib.hid hdi
            clear he hdi
            have hst : Hid (decE s.data.toList = decL s.size (s.data.toList.drop H) (ptsL (preL s.data.toList), 128, 0, 72, true)) := Lib.hid (HE.out.trans (by rw [HSL.out, ← HH.out]))
            have hown0 : wr.ownsRow w.heap.size 3 1 (.slice A m c) (ptsL (preL s.data.toList)).length (intVs .i64 (ptsL (preL s.data.toList))) := by rw [ptsL_len, HPL.out]; exact HOWN.out
            have HOWN0 := Lib.hid hown0
            clear hown0
            go_wp2
            go_loopw [4, 6, 8, 9, 10, 11] (fun u4 u6 u8 u9 u10 u11 wr => ∃ (f a : Nat) (st : Ds), u4 = .int .i64 (a : Int) ∧ wr.ownsRow w.heap.size 3 1 u6 st.1.length (intVs .i64 st.1) ∧ u8 = .int .i64 st.2.1 ∧ u9 = .int .i64 st.2.2.1 ∧ u10 = .int .i64 st.2.2.2.1 ∧ u11 = .bool st.2.2.2.2 ∧ a ≤ s.size ∧ Hid (DInv st) ∧ Below w.heap.size w wr ∧ Hid (decE s.data.toList = decL f (s.data.toList.drop a) st) ∧ Hid (s.size - a ≤ f)) (fun u4 _ _ _ _ _ _ => s.size - (intOf u4).toNat)
            case atStart => exact ⟨s.size, H, _, rfl, HOWN0.out, rfl, rfl, rfl, rfl, hle, HDI, HB, hst, Lib.hid (by omega)⟩
            case round =>
              obtain ⟨f, a, ⟨pts, n, at', b, fst⟩, rfl, hown, rfl, rfl, rfl, rfl, has, hI, HB, hdec, hf⟩ := hrel
              simp only at hown hI hdec
              have n0 : 128 ≤ n := hI.out.n0
              have n1 : n ≤ 1114111 := hI.out.n1
              have a0 : 0 ≤ at' := hI.out.a0
              have a1 : at' ≤ 5000 := hI.out.a1
              have b0 : 0 ≤ b := hI.out.b0
              have b1 : b ≤ 1099511627776 := hI.out.b1
              have l1 : pts.length ≤ 4096 := hI.out.l
              obtain ⟨A2, c2, rfl⟩ := own_slice hown
              by_cases has2 : a < s.size
              · have hne : s.data.toList.drop a ≠ [] := by
                  intro h
                  have := congrArg List.length h
                  rw [List.length_drop, HSL.out] at this
                  simp at this
                  omega
                have hfl : (s.data.toList.drop a).length ≤ f := by rw [List.length_drop, HSL.out]; exact hf.out
                have hnum := refNumber3_any s a b wr has (by omega) b0 b1
                have HNUM := Lib.hid hnum
                have HNE := Lib.hid hne
                have HFL := Lib.hid hfl
                have hwz := HB.size
                have HOW := Lib.hid hown
                clear hnum hne hfl hown
                go_wp2_with fail
                ((with_reducible refine HNUM.out.mono ?_))
                rintro e w2 ⟨hb2, (⟨hx, rfl⟩ | ⟨d, a', hnn, ha', rfl⟩)⟩
                · have HB2 := HB.trans (hb2.mono hwz)
                  have hd := hdec.out.trans (decL_num (x := (numb b (s.data.toList.drop a) 1 0 1).1) HFL.out HNE.out rfl hx)
                  have HD := Lib.hid hd
                  obtain ⟨x, hxx⟩ : ∃ x, x = (numb b (s.data.toList.drop a) 1 0 1).1 := ⟨_, rfl⟩
                  rw [← hxx] at hx HD
                  rw [← hxx]
                  have x2 : (x != 0) = true := by simpa using hx
                  clear hd hxx hx hb2
                  go_wp2
                  go_ret2
                  exact decP_no HB2 HD.out
                · have HB2 := HB.trans (hb2.mono hwz)
                  have hless := numb_less b (s.data.toList.drop a) 1 0 1 (by omega) (by omega) (by omega)
                  rw [hnn] at hless
                  simp only at hless
                  obtain ⟨d0, d1, _, _⟩ := hless
                  have hown2 := ownsRow_below HOW.out hb2
                  have HNN := Lib.hid hnn
                  have hL := fun h => putS_over (d := d) (st := (pts, n, at', b, fst)) h
                  have hRg := fun h => putS_range (d := d) (st := (pts, n, at', b, fst)) h
                  have hLg := fun h => putS_long (d := d) (st := (pts, n, at', b, fst)) h
                  have hOk := fun h => putS_ok (d := d) (st := (pts, n, at', b, fst)) h
                  have hIn := fun h h2 h3 => putS_inv (d := d) (st := (pts, n, at', b, fst)) hI.out d0 d1 h h2 h3
                  simp only at hL hRg hLg hOk hIn
                  obtain ⟨L, hLen⟩ : ∃ L, L = pts.length := ⟨_, rfl⟩
                  rw [← hLen] at l1 hown2
                  rw [← hLen]
                  simp only [← hLen] at hRg hLg hOk hIn
                  have HLN := Lib.hid hLen
                  have hbe := fun w => adapt_any d ((L : Int) + 1) fst w d0 (by omega) (by omega) (by omega)
                  have hbb := adp_bd d ((L : Int) + 1) fst d0 (by omega) (by omega)
                  obtain ⟨D, hD⟩ : ∃ D, D = adp d ((L : Int) + 1) fst := ⟨_, rfl⟩
                  simp only [← hD] at hbe hOk hIn
                  rw [← hD] at hbb
                  have HBE := Lib.hid hbe
                  have q0 := Int.ediv_nonneg (show 0 ≤ at' + d by omega) (show (0 : Int) ≤ (L : Int) + 1 by omega)
                  have q1 : (at' + d) / ((L : Int) + 1) ≤ at' + d := Int.ediv_le_self _ (by omega)
                  have m0 := Int.emod_nonneg (at' + d) (show (L : Int) + 1 ≠ 0 by omega)
                  have m1 := Int.emod_lt_of_pos (at' + d) (show (0 : Int) < (L : Int) + 1 by omega)
                  obtain ⟨N, hN⟩ : ∃ N, N = n + (at' + d) / ((L : Int) + 1) := ⟨_, rfl⟩
                  rw [← hN] at hRg
                  simp only [← hN] at hLg hOk hIn
                  have hN0 : 128 ≤ N := by omega
                  have hN1 : N ≤ 5000000000 := by omega
                  have HL := Lib.hid hL
                  have HRG := Lib.hid hRg
                  have HLG := Lib.hid hLg
                  have HOK := Lib.hid hOk
                  have HIN := Lib.hid hIn
                  have HNN2 := Lib.hid hN
                  have HOWN2 := Lib.hid hown2
                  have hz : ((L : Int) + 1 == 0) = false := by simp; omega
                  have hNs : n + (at' + d) / ((L : Int) + 1) = N := hN.symm
                  clear hL hRg hLg hOk hIn hLen hbe hD hnn hb2 hN hown2
                  by_cases hov : 4294967295 < at' + d
                  · have hd := hdec.out.trans (decL_put HFL.out HNE.out HNN.out (HL.out hov) (by decide))
                    have HD := Lib.hid hd
                    have hK := fun w => overY_any (at' + d) w hov
                    have HKO := Lib.hid hK
                    clear hd hK
                    go_wp2_with (first | ((with_reducible refine (HBE.out _).mono ?_); rintro e w' ⟨rfl, rfl⟩) | ((with_reducible refine (HKO.out _).mono ?_); rintro e w' ⟨rfl, rfl⟩))
                    go_ret2
                    exact decP_no HB2 HD.out
                  have hK := fun w => overN_any (at' + d) w hov
                  have HKO := Lib.hid hK
                  clear hK
                  by_cases hrg : 1114111 < N
                  · have hd := hdec.out.trans (decL_put HFL.out HNE.out HNN.out (HRG.out hov hrg) (by decide))
                    have HD := Lib.hid hd
                    clear hd
                    go_wp2_with (first | ((with_reducible refine (HBE.out _).mono ?_); rintro e w' ⟨rfl, rfl⟩) | ((with_reducible refine (HKO.out _).mono ?_); rintro e w' ⟨rfl, rfl⟩))
                    go_ret2
                    exact decP_no HB2 HD.out
                  by_cases hlg : 4096 < L + 1
                  · have hd := hdec.out.trans (decL_put HFL.out HNE.out HNN.out (HLG.out hov hrg hlg) (by decide))
                    have HD := Lib.hid hd
                    have hlg2 : (4096 : Int) < (L : Int) + 1 := by omega
                    clear hd
                    go_wp2_with (first | ((with_reducible refine (HBE.out _).mono ?_); rintro e w' ⟨rfl, rfl⟩) | ((with_reducible refine (HKO.out _).mono ?_); rintro e w' ⟨rfl, rfl⟩))
                    go_ret2
                    exact decP_no HB2 HD.out
                  have hlg2 : (L : Int) + 1 ≤ 4096 := by omega
                  have hrg2 : N ≤ 1114111 := by omega
                  have hpo := HOK.out hov hrg hlg
                  have hin := HIN.out hov hrg hlg
                  obtain ⟨ii, hii⟩ := Int.eq_ofNat_of_zero_le m0
                  rw [hii] at hpo hin m1
                  obtain ⟨f', hd, hf2, hlt2⟩ := decL_go HFL.out HNE.out HNN.out hpo
                  have HD := Lib.hid (hdec.out.trans hd)
                  have hf3 : s.size - a' ≤ f' := by rw [List.length_drop, HSL.out] at hf2; exact hf2
                  have hlt3 : s.size - a' < s.size - a := by rw [List.length_drop, List.length_drop, HSL.out] at hlt2; exact hlt2
                  have HF3 := Lib.hid hf3
                  have HIN2 := Lib.hid hin
                  have hiL : ii ≤ L := by omega
                  clear hpo hin hd hf2 hlt2 hf3
                  rcases HOWN2.out.2 with ⟨hv0, h0⟩ | ⟨gl, cap, cur, hv, hgB, hg, hnc, hcm, hcs, htk⟩
                  · injection hv0 with hv1 _ hv2
                    subst hv1
                    subst hv2
                    subst h0
                    obtain rfl : ii = 0 := by omega
                    have h0 : (0 : Nat) = 0 := rfl
                    have hbe0 : ∀ w, Calls Tryd.prog 33 #[.int .i64 d, .int .i64 1, .bool fst] w fun e w' => e = .returned (.int .i64 D) ∧ w = w' := fun w => by have h := HBE.out w; simpa using h
                    have HBE0 := Lib.hid hbe0
                    have hNs0 : n + (at' + d) = N := by have h := hNs; simpa using h
                    clear hbe0 hNs hz
                    have hown3 : w2.ownsRow w2.heap.size 3 1 (.slice none 0 0) 0 [] := World.ownsRow_nil _ _ _ _
                    have hb3 : Below w2.heap.size w2 w2 := Below.refl _ _
                    go_wp2_with (first | ((with_reducible refine (HBE0.out _).mono ?_); rintro e w' ⟨rfl, rfl⟩) | ((with_reducible refine (HKO.out _).mono ?_); rintro e w' ⟨rfl, rfl⟩) | (at_builtin; refine wpList_app1 rfl (.tmp 100) (.tmp 102) 28 3 rfl Tryd.underlying28 elemInt rfl w2.heap.size (.slice none 0 0) 0 [] _ rfl rfl hown3 rfl (by omega) (by omega) (Nat.le_refl _) ?_))
                    intro v4 w4 hown4 hb4 hne4
                    have hb34 := hb3.trans hb4
                    have hw4 := hb34.size
                    clear hown3
                    go_wp2_with (at_builtin; refine wpList_appSrc rfl (.tmp 104) (.tmp 107) 28 3 rfl Tryd.underlying28 elemInt rfl w2.heap.size v4 (0 + 1) 0 0 none _ [] rfl rfl rfl hown4 (fun _ => rfl) (fun _ h => nomatch h) (fun _ h => nomatch h) (by omega) (by omega) hw4 ?_)
                    intro v5 w5 hown5 hb5
                    have hbw := HB2.trans ((hb34.trans hb5).mono HB2.size)
                    have hown6 : w5.ownsRow w.heap.size 3 1 v5 (insI pts 0 N).length (intVs .i64 (insI pts 0 N)) := by
                      rw [show (insI pts 0 N).length = 0 + 1 + 0 by rw [insI_len (by have := HLN.out; omega)]; have := HLN.out; omega, show intVs .i64 (insI pts 0 N) = ((intVs .i64 pts).take 0 ++ [.int .i64 N]) ++ (intVs .i64 pts).drop 0 by rw [show insI pts 0 N = insL pts 0 N from rfl, intVs_ins]; simp]
                      have hown7 := own_mono hown5 HB2.size
                      have hp : pts = [] := List.length_eq_zero_iff.1 (by have := HLN.out; omega)
                      simpa [hp, intVs] using hown7
                    have HOWN6 := Lib.hid hown6
                    clear hown4 hown5 hown6 hne4
                    go_wp2
                    go_roundw
                    case rel => exact ⟨f', a', (insI pts 0 N, N, (0 : Int) + 1, D, false), rfl, HOWN6.out, rfl, rfl, rfl, rfl, ha', HIN2, hbw, HD, HF3⟩
                    case measure => simp [intOf]; omega
                  · injection hv with hv1 _ hv2
                    subst hv1
                    subst hv2
                    have hgl : gl < w2.heap.size := (Array.getElem?_eq_some_iff.1 hg).1
                    have hcell : ∀ j u, (intVs .i64 pts)[j]? = some u → w2.cell? ⟨gl, j, none⟩ = some u := fun j u hu => by
                      have hAt : At w2 gl 3 cur := hg
                      rw [hAt.cell, ← Array.getElem?_toList]
                      rw [← htk, List.getElem?_take] at hu
                      split at hu
                      · exact hu
                      · cases hu
                    have HCELL := Lib.hid hcell
                    clear hcs htk hg
                    by_cases hci : c2 = ii
                    · obtain rfl : L = ii := by omega
                      subst hci
                      have HC1 : Hid (∀ ad, some (⟨gl, 0, none⟩ : Addr) = some ad → ∀ j u, ((intVs .i64 pts).take c2)[j]? = some u → w2.cell? (ad.add j) = some u) := Lib.hid (fun ad h j u hu => by
                        injection h with h
                        subst h
                        rw [addr_add0]
                        rw [List.getElem?_take] at hu
                        split at hu
                        · exact hcell j u hu
                        · cases hu)
                      have HC4 : Hid (∀ w4 : World, Below w2.heap.size w2 w4 → ∀ ad, some (⟨gl, 0, none⟩ : Addr) = some ad → ∀ j u, ((intVs .i64 pts).drop c2)[j]? = some u → w4.cell? (ad.add j) = some u) := Lib.hid (fun w4 hb ad h j u hu => by
                        injection h with h
                        subst h
                        have hn : (intVs .i64 pts).drop c2 = [] := List.drop_eq_nil_of_le (by rw [intVs_len, ← HLN.out]; omega)
                        rw [hn] at hu
                        cases hu)
                      clear hcell
                      have HU1 : Hid (((intVs .i64 pts).take c2).length = c2) := Lib.hid (by rw [List.length_take, intVs_len, ← HLN.out] <;> omega)
                      have HO1 : Hid (∀ u ∈ (intVs .i64 pts).take c2, u.oneCell' = true) := Lib.hid (fun u hu => by
                        obtain ⟨z, _, rfl⟩ := List.mem_map.1 (List.mem_of_mem_take hu)
                        rfl)
                      have HO2 : Hid (∀ u ∈ (intVs .i64 pts).drop c2, u.oneCell' = true) := Lib.hid (fun u hu => by
                        obtain ⟨z, _, rfl⟩ := List.mem_map.1 (List.mem_of_mem_drop hu)
                        rfl)
                      go_wp2_with (first | ((with_reducible refine (HBE.out _).mono ?_); rintro e w' ⟨rfl, rfl⟩) | ((with_reducible refine (HKO.out _).mono ?_); rintro e w' ⟨rfl, rfl⟩) | (at_builtin; refine wpList_appSrc rfl (.tmp 95) (.tmp 98) 28 3 rfl Tryd.underlying28 elemInt rfl w2.heap.size (.slice none 0 0) 0 c2 c2 (some ⟨gl, 0, none⟩) [] ((intVs .i64 pts).take c2) rfl rfl HU1.out (World.ownsRow_nil _ _ _ _) (fun h => nomatch h) HC1.out HO1.out (by omega) (by omega) (Nat.le_refl _) ?_))
                      intro v3 w3 hown3 hb3
                      try simp only [Nat.zero_add, List.nil_append] at hown3
                      have hw3 := hb3.size
                      go_wp2_with (at_builtin; refine wpList_app1 rfl (.tmp 100) (.tmp 102) 28 3 rfl Tryd.underlying28 elemInt rfl w2.heap.size _ c2 _ _ rfl rfl hown3 rfl (by omega) (by omega) hw3 ?_)
                      intro v4 w4 hown4 hb4 hne4
                      have hb34 := hb3.trans hb4
                      have hw4 := hb34.size
                      have hc4 := HC4.out w4 hb34
                      have HC4' := Lib.hid hc4
                      clear hc4 hown3
                      go_wp2_with (at_builtin; refine wpList_appSrc rfl (.tmp 104) (.tmp 107) 28 3 rfl Tryd.underlying28 elemInt rfl w2.heap.size v4 (c2 + 1) 0 0 (some ⟨gl, 0, none⟩) _ ((intVs .i64 pts).drop c2) rfl rfl (by rw [List.length_drop, intVs_len, ← HLN.out] <;> omega) hown4 (fun h => nomatch h) HC4'.out HO2.out (by omega) (by omega) hw4 ?_)
                      intro v5 w5 hown5 hb5
                      have hbw := HB2.trans ((hb34.trans hb5).mono HB2.size)
                      have hown6 : w5.ownsRow w.heap.size 3 1 v5 (insI pts c2 N).length (intVs .i64 (insI pts c2 N)) := by
                        rw [show (insI pts c2 N).length = c2 + 1 + 0 by rw [insI_len (by have := HLN.out; omega)]; have := HLN.out; omega, show intVs .i64 (insI pts c2 N) = ((intVs .i64 pts).take c2 ++ [.int .i64 N]) ++ (intVs .i64 pts).drop c2 by rw [show insI pts c2 N = insL pts c2 N from rfl, intVs_ins]; simp]
                        have hown7 := own_mono hown5 HB2.size
                        simpa using hown7
                      have HOWN6 := Lib.hid hown6
                      clear hown4 hown5 hown6 hne4
                      go_wp2
                      go_roundw
                      case rel => exact ⟨f', a', (insI pts c2 N, N, (c2 : Int) + 1, D, false), rfl, HOWN6.out, rfl, rfl, rfl, rfl, ha', HIN2, hbw, HD, HF3⟩
                      case measure => simp [intOf]; omega
                    · have HA1 : Hid (some (⟨gl, 0, none⟩ : Addr) = none → ii = 0) := Lib.hid (fun h => by cases h)
                      have HA2 : Hid (some (⟨gl, ii, none⟩ : Addr) = none → (L - ii) = 0) := Lib.hid (fun h => by cases h)
                      have HC1 : Hid (∀ ad, some (⟨gl, 0, none⟩ : Addr) = some ad → ∀ j u, ((intVs .i64 pts).take ii)[j]? = some u → w2.cell? (ad.add j) = some u) := Lib.hid (fun ad h j u hu => by
                        injection h with h
                        subst h
                        rw [addr_add0]
                        rw [List.getElem?_take] at hu
                        split at hu
                        · exact hcell j u hu
                        · cases hu)
                      have HC4 : Hid (∀ w4 : World, Below w2.heap.size w2 w4 → ∀ ad, some (⟨gl, ii, none⟩ : Addr) = some ad → ∀ j u, ((intVs .i64 pts).drop ii)[j]? = some u → w4.cell? (ad.add j) = some u) := Lib.hid (fun w4 hb ad h j u hu => by
                        injection h with h
                        subst h
                        have hadd : (⟨gl, ii, none⟩ : Addr).add j = ⟨gl, ii + j, none⟩ := by unfold Addr.add; split <;> simp_all
                        rw [hadd, hb.cell (p := ⟨gl, ii + j, none⟩) hgl]
                        rw [List.getElem?_drop] at hu
                        exact hcell _ _ hu)
                      clear hcell
                      have HU1 : Hid (((intVs .i64 pts).take ii).length = ii) := Lib.hid (by rw [List.length_take, intVs_len, ← HLN.out] <;> omega)
                      have HU2 : Hid (((intVs .i64 pts).drop ii).length = (L - ii)) := Lib.hid (by rw [List.length_drop, intVs_len, ← HLN.out] <;> omega)
                      have HO1 : Hid (∀ u ∈ (intVs .i64 pts).take ii, u.oneCell' = true) := Lib.hid (fun u hu => by
                        obtain ⟨z, _, rfl⟩ := List.mem_map.1 (List.mem_of_mem_take hu)
                        rfl)
                      have HO2 : Hid (∀ u ∈ (intVs .i64 pts).drop ii, u.oneCell' = true) := Lib.hid (fun u hu => by
                        obtain ⟨z, _, rfl⟩ := List.mem_map.1 (List.mem_of_mem_drop hu)
                        rfl)
                      go_wp2_with (first | ((with_reducible refine (HBE.out _).mono ?_); rintro e w' ⟨rfl, rfl⟩) | ((with_reducible refine (HKO.out _).mono ?_); rintro e w' ⟨rfl, rfl⟩) | (at_builtin; refine wpList_appSrc rfl (.tmp 95) (.tmp 98) 28 3 rfl Tryd.underlying28 elemInt rfl w2.heap.size (.slice none 0 0) 0 ii c2 (some ⟨gl, 0, none⟩) [] ((intVs .i64 pts).take ii) rfl rfl HU1.out (World.ownsRow_nil _ _ _ _) HA1.out HC1.out HO1.out (by omega) (by omega) (Nat.le_refl _) ?_))
                      intro v3 w3 hown3 hb3
                      try simp only [Nat.zero_add, List.nil_append] at hown3
                      have hw3 := hb3.size
                      go_wp2_with (at_builtin; refine wpList_app1 rfl (.tmp 100) (.tmp 102) 28 3 rfl Tryd.underlying28 elemInt rfl w2.heap.size _ ii _ _ rfl rfl hown3 rfl (by omega) (by omega) hw3 ?_)
                      intro v4 w4 hown4 hb4 hne4
                      have hb34 := hb3.trans hb4
                      have hw4 := hb34.size
                      have hc4 := HC4.out w4 hb34
                      have HC4' := Lib.hid hc4
                      clear hc4 hown3
                      go_wp2_with (at_builtin; refine wpList_appSrc rfl (.tmp 104) (.tmp 107) 28 3 rfl Tryd.underlying28 elemInt rfl w2.heap.size v4 (ii + 1) (L - ii) (c2 - ii) (some ⟨gl, ii, none⟩) _ ((intVs .i64 pts).drop ii) rfl rfl HU2.out hown4 HA2.out HC4'.out HO2.out (by omega) (by omega) hw4 ?_)
                      intro v5 w5 hown5 hb5
                      have hbw := HB2.trans ((hb34.trans hb5).mono HB2.size)
                      have hown6 : w5.ownsRow w.heap.size 3 1 v5 (insI pts ii N).length (intVs .i64 (insI pts ii N)) := by
                        rw [show (insI pts ii N).length = ii + 1 + (L - ii) by rw [insI_len (by have := HLN.out; omega)]; have := HLN.out; omega, show intVs .i64 (insI pts ii N) = ((intVs .i64 pts).take ii ++ [.int .i64 N]) ++ (intVs .i64 pts).drop ii by rw [show insI pts ii N = insL pts ii N from rfl, intVs_ins]; simp]
                        have hown7 := own_mono hown5 HB2.size
                        simpa using hown7
                      have HOWN6 := Lib.hid hown6
                      clear hown4 hown5 hown6 hne4
                      go_wp2
                      go_roundw
                      case rel => exact ⟨f', a', (insI pts ii N, N, (ii : Int) + 1, D, false), rfl, HOWN6.out, rfl, rfl, rfl, rfl, ha', HIN2, hbw, HD, HF3⟩
                      case measure => simp [intOf]; omega
              · have hd := hdec.out
                rw [show s.data.toList.drop a = [] from List.drop_eq_nil_of_le (by rw [HSL.out]; omega), decL_end] at hd
                have HD := Lib.hid hd
                have hia : IntsAt wr .i64 A2 pts.length pts := by
                  obtain ⟨A3, c3, h3, h4⟩ := IntsAt.of_own hown
                  injection h3 with h5 h6 h7
                  rw [h5]; exact h4
                have HIA := Lib.hid hia
                clear hd hia hown
                go_wp2
                go_ret2
                exact decP_yes HB HD.out HIA.out
end Go.Proofs.YtkgnhdebphaknaaDoor
