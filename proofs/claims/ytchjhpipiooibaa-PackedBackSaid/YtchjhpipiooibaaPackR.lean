/- Layer 12: the document's Get. -/
import Derived.Test.YtchjhpipiooibaaMath17
import Derived.Test.YtchjhpipiooibaaOctet3
import Derived.Test.YtchjhpipiooibaaDom
namespace Go.Proofs.Ytchjhpipiooibaa
open Go.RowKit Go
set_option linter.unusedVariables false
theorem elemStrR : Elem1 Try.prog 9 (.string ByteArray.empty) 16 := by unfold Elem1; kernel_rfl
def GetR (R : PkR) (w : World) (e : Ending) (w' : World) : Prop := ∃ A c, e = .returned (.tuple #[.slice A R.n.length c, .int .i64 R.fin, .int .i64 R.err]) ∧ TextsAt w' A R.n.length R.n ∧ Below w.heap.size w w'
theorem getR_bad {R : PkR} {x : Int} {w w' : World} (h : R = pkBad x) (hb : Below w.heap.size w w') : GetR R w (.returned (.tuple #[.slice none 0 0, .int .i64 0, .int .i64 x])) w' := by
  subst h
  exact ⟨none, 0, rfl, ⟨rfl, fun h => absurd h (by simp [pkBad])⟩, hb⟩
theorem getR_ok {R : PkR} {n : Lbs} {f : Nat} {x : Int} {v : Value} {w w' : World} (h : R = ⟨n, f, 0⟩) (hx : x = (f : Int)) (ho : w'.ownsRow w.heap.size 9 1 v n.length (strVs n)) (hb : Below w.heap.size w w') : GetR R w (.returned (.tuple #[v, .int .i64 x, .int .i64 0])) w' := by
  subst h hx
  obtain ⟨A, c, rfl, ht⟩ := TextsAt.of_own ho
  exact ⟨A, c, rfl, ht, hb⟩
/-- what is behind, -1: not known -/
def finI (fin : Nat) : Int := if fin = 0 then -1 else fin
/-- two octets -/
theorem ocN_two (s : ByteArray) (p : Nat) (h : p + 1 < s.size) : ocN (s.extract p (p + 2)).data.toList = 256 * s[p].toNat + s[p + 1].toNat := by
  rw [Lib.extract_eq]
  have h1 : p < s.data.toList.length := by rw [Array.length_toList]; exact Nat.lt_of_succ_lt h
  have h2 : p + 1 < s.data.toList.length := by rw [Array.length_toList]; exact h
  have e : (s.data.toList.drop p).take (p + 2 - p) = [s.data.toList[p], s.data.toList[p + 1]] := by
    rw [show p + 2 - p = 2 by omega, List.drop_eq_getElem_cons h1, List.drop_eq_getElem_cons h2]
    rfl
  simp only [e, ocN, List.foldl]
  show 256 * (256 * 0 + (s.data.toList[p]).toNat) + (s.data.toList[p + 1]).toNat = _
  rw [Nat.mul_zero, Nat.zero_add]
  rfl
set_option maxRecDepth 100000 in
set_option maxHeartbeats 8000000 in
theorem refGet12_any (s : ByteArray) (hM : s.size ≤ 70000) (at_ : Int) (w : World) : Calls Try.prog 8 #[.string s, .int .i64 at_] w (GetR (pkGet s.data.toList at_) w) := by
  have hlenM : s.data.toList.length = s.size := by rw [Array.length_toList]; rfl
  by_cases h0 : at_ < 0 ∨ (s.size : Int) < at_
  · have hp : pkGet s.data.toList at_ = pkBad 4 := by unfold pkGet; rw [hlenM, if_pos h0]
    have HP := Lib.hid hp
    clear hp hlenM
    rcases h0 with h0 | h0
    · go_enter Try.func8, Try.ntmps8
      go_wp2
      refine bodyPost_ret (results_tmp3 rfl _ _ _) rfl ?_
      exact getR_bad HP.out (Below.refl _ _)
    · go_enter Try.func8, Try.ntmps8
      go_wp2
      all_goals
        refine bodyPost_ret (results_tmp3 rfl _ _ _) rfl ?_
        exact getR_bad HP.out (Below.refl _ _)
  · obtain ⟨p, hpa⟩ : ∃ p : Nat, at_ = (p : Int) := ⟨at_.toNat, by omega⟩
    subst hpa
    have hple : p ≤ s.size := by omega
    have hp : pkGet s.data.toList (p : Int) = pkRun s.data.toList p p 1 [] 0 := by unfold pkGet; rw [if_neg (by omega), Int.toNat_natCast]
    rw [hp]
    obtain ⟨m, hm⟩ : ∃ m, m = s.data.toList := ⟨_, rfl⟩
    rw [← hm] at hlenM ⊢
    obtain ⟨R, hR⟩ : ∃ R, R = pkRun m p p 1 [] 0 := ⟨_, rfl⟩
    rw [← hR]
    have HR := Lib.hid hR
    have HM := Lib.hid hm
    have HLM := Lib.hid hlenM
    have HM7 := Lib.hid hM
    have HPL := Lib.hid hple
    have ht1 : ¬ ((p : Int) < 0) := by omega
    have ht2 : ¬ ((p : Int) > s.size) := by omega
    clear hp hR hm hlenM hM h0 hple
    go_enter Try.func8, Try.ntmps8
    go_wp2_with fail
    go_loopw [10, 1, 9, 8, 7, 11] (fun u10 u1 u9 u8 u7 u11 wr => ∃ (p low size : Nat) (n : Lbs) (fin k : Nat), p ≤ s.size ∧ low ≤ s.size ∧ size ≤ 255 ∧ 2 * n.length + 1 ≤ size ∧ k + min low 16384 + (255 - size) ≤ 17000 ∧ R = pkRun m p low size n fin ∧
      u10 = .int .i64 (finI fin) ∧ u1 = .int .i64 p ∧ u9 = .int .i64 low ∧ u8 = .int .i64 size ∧ u11 = .int .i64 k ∧ wr.ownsRow w.heap.size 9 1 u7 n.length (strVs n) ∧ Below w.heap.size w wr) (fun _ _ _ _ _ u11 _ => 70000 - (intOf u11).toNat)
    case atStart => exact ⟨p, p, 1, [], 0, 0, HPL.out, HPL.out, by decide, by decide, by omega, HR.out, rfl, rfl, rfl, rfl, rfl, ⟨rfl, .inl ⟨rfl, rfl⟩⟩, Below.refl _ _⟩
    case round =>
      obtain ⟨p, low, size, n, fin, k, hp, hlow, hsize, hn, hk, hR, rfl, rfl, rfl, rfl, rfl, hown, hbw⟩ := hrel
      have hlm := HLM.out
      have hM7 := HM7.out
      have k7 : (k : Int) < 70000 := by omega
      by_cases h1 : p < s.size
      · have h1m : p < m.length := by omega
        obtain ⟨c, hc⟩ : ∃ c, c = s[p].toNat := ⟨_, rfl⟩
        have hcm : m[p].toNat = c := by rw [hc]; simp only [HM.out]; rfl
        have hc255 : c ≤ 255 := by have := s[p].toNat_lt; omega
        have h1i : ¬ ((p : Int) ≥ s.size) := by omega
        have hci : (s[p].toNat : Int) = (c : Int) := by rw [hc]
        have hb : (c : Int) ≤ 255 := by omega
        by_cases c0 : c = 0
        · have t0 : ((c : Int) == 0) = true := by rw [c0]; rfl
          have hE := hR.trans (pkRun_end h1m (by rw [hcm]; exact c0))
          have HE := Lib.hid hE
          have HBW := Lib.hid hbw
          have HOWN := Lib.hid hown
          by_cases hf : fin = 0
          · have hx : finI fin < 0 := by unfold finI; rw [if_pos hf]; decide
            have hfe : (if fin = 0 then p + 1 else fin) = p + 1 := if_pos hf
            have HF := Lib.hid hfe
            generalize finI fin = x at hx ⊢
            clear hR hown hbw hk hn hsize hc hcm c0 hE hf hfe hlm h1m
            go_wp2_with fail
            refine bodyPost_ret (results_tmp3 rfl _ _ _) rfl ?_
            rw [HF.out] at HE
            exact getR_ok HE.out (by omega) HOWN.out HBW.out
          · have hx : ¬ finI fin < 0 := by unfold finI; rw [if_neg hf]; omega
            have hfe : (if fin = 0 then p + 1 else fin) = fin := if_neg hf
            have hfx : finI fin = fin := by unfold finI; rw [if_neg hf]
            have HF := Lib.hid hfe
            have HFX := Lib.hid hfx
            generalize finI fin = x at hx HFX ⊢
            clear hR hown hbw hk hn hsize hc hcm c0 hE hf hfe hlm h1m hfx
            go_wp2_with fail
            refine bodyPost_ret (results_tmp3 rfl _ _ _) rfl ?_
            rw [HF.out] at HE
            exact getR_ok HE.out HFX.out HOWN.out HBW.out
        · have t0 : ((c : Int) == 0) = false := by rw [beq_eq_false_iff_ne]; omega
          by_cases c1 : c ≤ 63
          · have t1 : ¬ ((c : Int) ≥ 192) := by omega
            have t2 : ¬ ((c : Int) ≥ 64) := by omega
            have hcn : s[p].toNat = c := hc.symm
            by_cases c2 : m.length < p + 1 + c
            · have t3 : (p : Int) + 1 + (c : Int) > s.size := by omega
              have HE := Lib.hid (hR.trans (pkRun_short h1m (by rw [hcm]; exact c0) (by rw [hcm]; exact c1) (by rw [hcm]; exact c2)))
              have HBW := Lib.hid hbw
              clear hR hown hbw hk hn hsize hc hcm c0 c1 c2 hcn
              go_wp2_with fail
              refine bodyPost_ret (results_tmp3 rfl _ _ _) rfl ?_
              exact getR_bad HE.out HBW.out
            · have t3 : ¬ ((p : Int) + 1 + (c : Int) > s.size) := by omega
              by_cases c3 : 255 < size + (c + 1)
              · have t4 : (size : Int) + (c : Int) + 1 > 255 := by omega
                have HE := Lib.hid (hR.trans (pkRun_long h1m (by rw [hcm]; exact c0) (by rw [hcm]; exact c1) (by rw [hcm]; exact c2) (by rw [hcm]; exact c3)))
                have HBW := Lib.hid hbw
                clear hR hown hbw hk hn hc hcm c0 c1 c2 c3 hcn
                go_wp2_with fail
                refine bodyPost_ret (results_tmp3 rfl _ _ _) rfl ?_
                exact getR_bad HE.out HBW.out
              · have t4 : ¬ ((size : Int) + (c : Int) + 1 > 255) := by omega
                have hE := hR.trans (pkRun_label h1m (by rw [hcm]; exact c0) (by rw [hcm]; exact c1) (by rw [hcm]; exact c2) (by rw [hcm]; exact c3))
                rw [hcm] at hE
                have HE := Lib.hid hE
                have HBW := Lib.hid hbw
                have hex : (s.data.toList.drop (p + 1)).take (p + 1 + c - (p + 1)) = (m.drop (p + 1)).take c := by rw [HM.out, show p + 1 + c - (p + 1) = c by omega]
                have HEX := Lib.hid hex
                have HOWN := Lib.hid hown
                have HX := Lib.hid (⟨by omega, by omega, by omega, by omega, hlow⟩ : p + 1 + c ≤ s.size ∧ size + (c + 1) ≤ 255 ∧ 2 * (n.length + 1) + 1 ≤ size + (c + 1) ∧ (k + 1) + min low 16384 + (255 - (size + (c + 1))) ≤ 17000 ∧ low ≤ s.size)
                have hsz : size + (c + 1) ≤ 255 := by omega
                have hl2 : p + 1 + c ≤ s.size := by omega
                obtain ⟨N, hN⟩ : ∃ N, N = n.length := ⟨_, rfl⟩
                have L1 := Lib.hid (show (N + 1) * 16 ≤ 140737488355328 by omega)
                have L2 := Lib.hid (show N + 1 ≤ 140737488355328 by omega)
                have HS := Lib.hid hbw.size
                rw [← hN] at HOWN
                have HN := Lib.hid hN
                clear hR hown hbw hk hn hc hcm c0 c1 c2 c3 hE hex hN hcn hlow
                go_wp2_with (first
                  | (at_builtin; refine wpList_app1 rfl (.tmp 81) (.tmp 90) 23 9 rfl Try.underlying23 elemStrR rfl w.heap.size _ N (strVs n) (.string (s.extract (p + 1) (p + 1 + c))) rfl rfl HOWN.out rfl L1.out L2.out HS.out ?_; intro v' w4 hown' hb4 _; have HO4 := Lib.hid hown'; have HB4 := Lib.hid hb4; clear hown' hb4))
                go_roundw
                case rel =>
                  obtain rfl : N = n.length := HN.out
                  have := own_app HO4.out
                  rw [HEX.out] at this
                  refine ⟨p + 1 + c, low, size + (c + 1), n ++ [(m.drop (p + 1)).take c], fin, k + 1, HX.out.1, HX.out.2.2.2.2, HX.out.2.1, by rw [List.length_append]; exact HX.out.2.2.1, HX.out.2.2.2.1, HE.out, rfl, by go_num, rfl, by go_num, by go_num, this, HBW.out.trans HB4.out⟩
                case measure => simp [intOf]; omega
          · have t2 : (c : Int) ≥ 64 := by omega
            by_cases c2 : c < 192
            · have t1 : ¬ ((c : Int) ≥ 192) := by omega
              have HE := Lib.hid (hR.trans (pkRun_lab h1m (by rw [hcm]; exact c1) (by rw [hcm]; exact c2)))
              have HBW := Lib.hid hbw
              clear hR hown hbw hk hn hsize hc hcm c0 c1 c2
              go_wp2_with fail
              refine bodyPost_ret (results_tmp3 rfl _ _ _) rfl ?_
              exact getR_bad HE.out HBW.out
            · have t1 : (c : Int) ≥ 192 := by omega
              by_cases c3 : p + 1 < s.size
              · have t3 : ¬ ((p : Int) + 1 ≥ s.size) := by omega
                obtain ⟨d, hd⟩ : ∃ d, d = s[p + 1].toNat := ⟨_, rfl⟩
                have hd255 : d ≤ 255 := by have := s[p + 1].toNat_lt; omega
                have hN := refNum_any (s.extract p (p + 2)) 
                have hoc := ocN_two s p c3
                rw [← hc, ← hd] at hoc
                obtain ⟨v, hv⟩ : ∃ v, v = 256 * c + d := ⟨_, rfl⟩
                rw [hoc, ← hv] at hN
                have hN := fun w => hN w (by rw [ByteArray.size_extract]; omega)
                obtain ⟨t, ht⟩ : ∃ t, t = ptrN (m[p]'h1m) (m[p + 1]'(by omega)) := ⟨_, rfl⟩
                have htv : (v : Int) - 49152 = (t : Int) := by
                  rw [ht, hv]
                  unfold ptrN
                  have e2 : (m[p + 1]'(by omega)).toNat = d := by rw [hd]; simp only [HM.out]; rfl
                  rw [hcm, e2]
                  omega
                have htb : t ≤ 16383 := by omega
                have hvb : v ≤ 65535 := by omega
                have HNUM := Lib.hid hN
                have HBW := Lib.hid hbw
                have HOWN := Lib.hid hown
                by_cases c4 : t < low
                · have t5 : decide (low ≤ t) = false := decide_eq_false (by omega)
                  have t6 : decide ((low : Int) ≤ t) = false := decide_eq_false (by omega)
                  have hE := hR.trans (pkRun_ptr h1m (by rw [hcm]; exact c2) (by omega) (by rw [← ht]; exact c4))
                  rw [← ht] at hE
                  have HX := Lib.hid (⟨by omega, by omega⟩ : t ≤ s.size ∧ (k + 1) + min t 16384 + (255 - size) ≤ 17000)
                  have HS := Lib.hid hsize
                  have HN2 := Lib.hid hn
                  by_cases hf : fin = 0
                  · have hx : finI fin < 0 := by unfold finI; rw [if_pos hf]; decide
                    rw [if_pos hf] at hE
                    have HE := Lib.hid hE
                    have hfp : finI (p + 2) = (p : Int) + 2 := by unfold finI; rw [if_neg (by omega)]; omega
                    have HFP := Lib.hid hfp
                    generalize finI fin = x at hx ⊢
                    clear hR hown hbw hk hn hsize hc hcm c0 c1 c2 hE hf hfp ht hd hoc hN c4 hv hlow
                    go_wp2_with ((with_reducible refine (HNUM.out _).mono ?_); rintro e w3 ⟨rfl, rfl⟩)
                    go_roundw
                    case rel => exact ⟨t, t, size, n, p + 2, k + 1, HX.out.1, HX.out.1, HS.out, HN2.out, HX.out.2, HE.out, by rw [HFP.out], rfl, rfl, rfl, by go_num, HOWN.out, HBW.out⟩
                    case measure => simp [intOf]; omega
                  · have hx : ¬ finI fin < 0 := by unfold finI; rw [if_neg hf]; omega
                    rw [if_neg hf] at hE
                    have HE := Lib.hid hE
                    clear hR hown hbw hk hn hsize hc hcm c0 c1 c2 hE hf ht hd hoc hN c4 hv hlow
                    generalize hgx : finI fin = x at hx ⊢
                    have HGX := Lib.hid hgx
                    have hx2 : decide (x < 0) = false := decide_eq_false hx
                    clear hgx hx
                    go_wp2_with ((with_reducible refine (HNUM.out _).mono ?_); rintro e w3 ⟨rfl, rfl⟩)
                    go_roundw
                    case rel => exact ⟨t, t, size, n, fin, k + 1, HX.out.1, HX.out.1, HS.out, HN2.out, HX.out.2, HE.out, by rw [HGX.out], rfl, rfl, rfl, by go_num, HOWN.out, HBW.out⟩
                    case measure => simp [intOf]; omega
                · have t5 : (t : Int) ≥ low := by omega
                  have HE := Lib.hid (hR.trans (pkRun_far h1m (by rw [hcm]; exact c2) (by omega) (by rw [← ht]; exact c4)))
                  clear hR hown hbw hk hn hsize hc hcm c0 c1 c2 ht hd hoc hN c4 hv
                  go_wp2_with ((with_reducible refine (HNUM.out _).mono ?_); rintro e w3 ⟨rfl, rfl⟩)
                  refine bodyPost_ret (results_tmp3 rfl _ _ _) rfl ?_
                  exact getR_bad HE.out HBW.out
              · have t3 : (p : Int) + 1 ≥ s.size := by omega
                have HE := Lib.hid (hR.trans (pkRun_half h1m (by rw [hcm]; exact c2) (by omega)))
                have HBW := Lib.hid hbw
                clear hR hown hbw hk hn hsize hc hcm c0 c1 c2 c3
                go_wp2_with fail
                refine bodyPost_ret (results_tmp3 rfl _ _ _) rfl ?_
                exact getR_bad HE.out HBW.out
      · have HE := Lib.hid (hR.trans (pkRun_out (by omega)))
        have h1i : (p : Int) ≥ s.size := by omega
        have HBW := Lib.hid hbw
        clear hR hown hbw hk hn hsize h1
        go_wp2_with fail
        refine bodyPost_ret (results_tmp3 rfl _ _ _) rfl ?_
        exact getR_bad HE.out HBW.out
end Go.Proofs.Ytchjhpipiooibaa
