/- Names read: the document's Parse. -/
import Derived.Test.YtcdbnnfokophbaaDom6
namespace Go.Proofs.Ytcdbnnfokophbaa
open Go.RowKit Go
set_option linter.unusedVariables false
theorem mach_atEnd {s : ByteArray} {k : Nat} (h : k = s.size) : s.data.toList.drop k = [] := by
  rw [List.drop_eq_nil_of_le (by simp; omega)]
theorem mach_atEsc {s : ByteArray} {k : Nat} {b : List UInt8} {n : List (List UInt8)} {d : Bool} (h : k < s.size) (h92 : s[k].toNat = 92) (he : escL (s.extract (k + 1) s.size).data.toList = none) : mach (s.data.toList.drop k) b n d = (5, [], false) := by
  rw [ext_drop] at he
  rw [dropB_at s k h, mach_bad _ _ _ _ _ (by omega) (by unfold sgL; rw [if_pos h92, he]; rfl)]
theorem mach_atEsc2 {s : ByteArray} {k : Nat} {b : List UInt8} {n : List (List UInt8)} {d : Bool} {c : UInt8} {m : Nat} (h : k < s.size) (h92 : s[k].toNat = 92) (he : escL (s.extract (k + 1) s.size).data.toList = some (c, m)) :
    k + 1 + (m + 1) ≤ s.size ∧ mach (s.data.toList.drop k) b n d = mach (s.data.toList.drop (k + 1 + (m + 1))) (b ++ [c]) n false := by
  rw [ext_drop] at he
  have hl := escL_len _ _ _ he
  rw [List.length_drop] at hl
  simp only [Array.length_toList, ByteArray.size_data] at hl
  refine ⟨by omega, ?_⟩
  rw [dropB_at s k h, mach_go _ _ _ _ _ (by omega) (c := c) (k := m + 1) (by unfold sgL; rw [if_pos h92, he]; rfl), List.drop_drop]
theorem mach_atPlain {s : ByteArray} {k : Nat} {b : List UInt8} {n : List (List UInt8)} {d : Bool} (h : k < s.size) (h92 : s[k].toNat ≠ 92) (h46 : s[k].toNat ≠ 46) : mach (s.data.toList.drop k) b n d = mach (s.data.toList.drop (k + 1)) (b ++ [s[k]]) n false := by
  rw [dropB_at s k h, mach_go _ _ _ _ _ h46 (c := s[k]) (k := 0) (by unfold sgL; rw [if_neg h92])]; rfl
theorem mach_atDot {s : ByteArray} {k : Nat} {b : List UInt8} {n : List (List UInt8)} {d : Bool} (h : k < s.size) (h46 : s[k].toNat = 46) : mach (s.data.toList.drop k) b n d = if b = [] then (8, [], false) else if 63 < b.length then (7, [], false) else mach (s.data.toList.drop (k + 1)) [] (n ++ [b]) true := by
  rw [dropB_at s k h, mach_dot _ _ _ _ _ h46]
set_option maxRecDepth 100000 in
set_option maxHeartbeats 4000000 in
theorem refParse_any (s : ByteArray) (w : World) (hs : s.size ≤ 3000) :
    Calls Try.prog 10 #[.string s] w fun e w' => ParseP s w.heap.size w e w' := by
  by_cases hdot : s.data.toList = [46]
  · have H := Lib.hid (parseP_dot (B := w.heap.size) (w := w) hdot)
    have e : s = ⟨#[46]⟩ := by rw [ba_list s, hdot]
    subst e
    clear hdot
    go_enter Try.func10, Try.ntmps10
    go_wp2_with fail
    go_ret3
    exact H.out
  · have e : (s.toList == [46]) = false := by
      rw [ByteArray.toList_eq, beq_eq_false_iff_ne]; exact hdot
    have HD := Lib.hid hdot
    clear hdot
    go_enter Try.func10, Try.ntmps10
    go_wp2_with fail
    go_loopw [6, 8, 5, 7] (fun vb i vn vd wr => ∃ (k : Nat) (b : List UInt8) (n : List (List UInt8)) (d : Bool), i = .int .i64 k ∧ vd = .bool d ∧ wr.ownsRow w.heap.size 5 1 vb b.length (u8Vs b) ∧ wr.ownsRow w.heap.size 9 1 vn n.length (strVs n) ∧ Below w.heap.size w wr ∧ sizeL n + b.length ≤ k + 1 ∧
      ((k ≤ s.size ∧ Hid (mach (s.data.toList.drop k) b n d = mach s.data.toList [] [] false)) ∨ (k = s.size + 1 ∧ d = false ∧ Hid (mach s.data.toList [] [] false = (0, n, false))))) (fun _ i _ _ _ => s.size + 1 - (intOf i).toNat)
    case atStart => exact ⟨0, [], [], false, rfl, rfl, World.ownsRow_nil _ _ _ _, World.ownsRow_nil _ _ _ _, Below.refl _ _, by simp [sizeL], .inl ⟨Nat.zero_le _, Lib.hid rfl⟩⟩
    case round =>
      obtain ⟨k, b, n, d, rfl, rfl, hob, hon, HB, hsum, hcase⟩ := hrel
      have hsz := HB.size
      have hnl := size_len n
      rcases hcase with ⟨hk, HM⟩ | ⟨hk, rfl, HM⟩
      · have hend : ∀ c, mach (s.data.toList.drop k) b n d = c → mach s.data.toList [] [] false = c := fun c h => by rw [← HM.out]; exact h
        by_cases hks : k < s.size
        · by_cases h92 : s[k].toNat = 92
          · have t1 : ((s[k].toNat : Int) == 92) = true := by simp; omega
            have hes := escaped_any (s.extract (k + 1) s.size) wr (by simp [ByteArray.size_extract]; omega)
            have HES := Lib.hid hes
            have hbad := fun h => parse_merr HD.out (by decide) (hend _ (mach_atEsc hks h92 (b := b) (n := n) (d := d) h))
            have hgo := fun c m h => mach_atEsc2 hks h92 (b := b) (n := n) (d := d) (c := c) (m := m) h
            have HBAD := Lib.hid hbad
            have HGO := Lib.hid hgo
            clear hes hbad hgo h92 hend
            go_wp2_with fail
            with_reducible refine HES.out.mono ?_
            rintro e w1 ⟨hp, rfl⟩
            rcases hp with ⟨hn, rfl⟩ | ⟨c, m, hy, rfl⟩
            · have HF := Lib.hid (HBAD.out hn)
              clear HBAD HGO HM HES hn
              go_wp2_with fail
              go_ret3
              exact parseP_err _ HF.out HB
            · obtain ⟨hg1, hg2⟩ := HGO.out c m hy
              have HG := Lib.hid (hg2.symm.trans HM.out)
              have t2 : ((m : Int) + 1 == 0) = false := by simp; omega
              have hc0 : (c.toNat : Int) ≤ 255 := by have := c.toNat_lt; omega
              clear HBAD HGO HM HES hy hg2
              go_wp2_with (at_builtin; refine wpList_app1k rfl (.tmp 37) (.tmp 39) 51 5 rfl Try.underlying51 elem5 rfl w.heap.size _ b.length _ _ rfl rfl hob rfl (by omega) (by omega) hsz ?_)
              intro v' w' hown' HB' hkeep
              rw [u8Vs_app] at hown'
              have hon' := hkeep _ _ _ _ (by decide) hon
              clear hkeep
              go_wp2_with fail
              go_roundw
              case rel => exact ⟨k + 1 + (m + 1), b ++ [c], n, false, by go_num, rfl, by simpa using hown', hon', HB.trans HB', by simp; omega, .inl ⟨hg1, HG⟩⟩
              case measure => simp [intOf]; omega
          · by_cases h46 : s[k].toNat = 46
            · have t1 : ((s[k].toNat : Int) == 92) = false := by simp; omega
              have t2 : ((s[k].toNat : Int) == 46) = true := by simp; omega
              have t3 : ((k : Int) == (s.size : Int)) = false := by simp; omega
              have hst := mach_atDot hks h46 (b := b) (n := n) (d := d)
              clear h92 h46
              have hcv := own_string Try.underlying51 Try.underlying5 Try.underlying9 hob
              obtain ⟨A, cp, rfl⟩ := ownSlice_of hob
              by_cases hb0 : b = []
              · rw [if_pos hb0] at hst
                have HF := Lib.hid (parse_merr HD.out (by decide) (hend _ hst))
                have t4 : ((b.length : Int) == 0) = true := by rw [hb0]; rfl
                clear hb0 hst hend HM hcv
                go_wp2_with fail
                go_ret3
                exact parseP_err _ HF.out HB
              · rw [if_neg hb0] at hst
                have t4 : ((b.length : Int) == 0) = false := by have := List.length_pos_iff.2 hb0; simp; omega
                clear hb0
                by_cases h63 : 63 < b.length
                · rw [if_pos h63] at hst
                  have HF := Lib.hid (parse_merr HD.out (by decide) (hend _ hst))
                  clear hst hend HM hcv
                  go_wp2_with fail
                  go_ret3
                  exact parseP_err _ HF.out HB
                · rw [if_neg h63] at hst
                  have HG := Lib.hid (hst.symm.trans HM.out)
                  have HSS := Lib.hid (size_snoc n b)
                  clear hst hend HM
                  go_wp2_with (at_builtin; refine wpList_app1k rfl (.tmp 76) (.tmp 79) 23 9 rfl Try.underlying23 elem9 rfl w.heap.size _ n.length _ _ rfl rfl hon rfl (by omega) (by omega) hsz ?_)
                  intro v' w' hown' HB' hkeep
                  have hown2 := own_app1 hown'
                  obtain ⟨N, hN⟩ : ∃ N, N = n ++ [b] := ⟨_, rfl⟩
                  rw [← hN] at hown2 HSS HG
                  clear hN hkeep hown' hon hob hcv
                  go_wp2_with fail
                  go_roundw
                  case rel => exact ⟨k + 1, [], N, true, by go_num, rfl, World.ownsRow_nil _ _ _ _, hown2, HB.trans HB', by rw [HSS.out]; simp; omega, .inl ⟨by omega, HG⟩⟩
                  case measure => simp [intOf]; omega
            · have t1 : ((s[k].toNat : Int) == 92) = false := by simp; omega
              have t2 : ((s[k].toNat : Int) == 46) = false := by simp; omega
              have HG := Lib.hid ((mach_atPlain hks h92 h46 (b := b) (n := n) (d := d)).symm.trans HM.out)
              have hc0 : (s[k].toNat : Int) ≤ 255 := by have := s[k].toNat_lt; omega
              clear h92 h46 hend HM
              go_wp2_with (at_builtin; refine wpList_app1k rfl (.tmp 55) (.tmp 59) 51 5 rfl Try.underlying51 elem5 rfl w.heap.size _ b.length _ _ rfl rfl hob rfl (by omega) (by omega) hsz ?_)
              intro v' w' hown' HB' hkeep
              rw [u8Vs_app] at hown'
              have hon' := hkeep _ _ _ _ (by decide) hon
              clear hkeep
              go_wp2_with fail
              go_roundw
              case rel => exact ⟨k + 1, b ++ [s[k]], n, false, by go_num, rfl, by simpa using hown', hon', HB.trans HB', by simp; omega, .inl ⟨by omega, HG⟩⟩
              case measure => simp [intOf]; omega
        · have hke : k = s.size := by omega
          have hnil := mach_atEnd hke
          have t3 : ((k : Int) == (s.size : Int)) = true := by simp; omega
          cases d with
          | true =>
            have HM1 := Lib.hid (hend _ (by rw [hnil, mach_end, if_pos rfl]))
            clear hend HM hnil hke
            obtain ⟨A, c, rfl, hta⟩ := TextsAt.of_own hon
            have hck := refSize_any A _ c _ wr hta (by omega)
            have HCK := Lib.hid hck
            clear hck hon hob
            by_cases hbig : 255 < sizeL n
            · have HF := Lib.hid (parse_big HD.out HM1.out hbig)
              go_wp2_with fail
              with_reducible refine HCK.out.mono ?_
              rintro e w3 ⟨rfl, rfl⟩
              go_wp2_with fail
              go_ret3
              exact parseP_err _ HF.out HB
            · have HF := Lib.hid (parse_small HD.out HM1.out hbig)
              go_wp2_with fail
              with_reducible refine HCK.out.mono ?_
              rintro e w3 ⟨rfl, rfl⟩
              go_wp2_with fail
              go_ret3
              exact parseP_ok HF.out hta HB
          | false =>
            have hst : mach (s.data.toList.drop k) b n false = if b = [] then (8, [], false) else if 63 < b.length then (7, [], false) else (0, n ++ [b], false) := by rw [hnil, mach_end, if_neg (by simp)]
            have hcv := own_string Try.underlying51 Try.underlying5 Try.underlying9 hob
            obtain ⟨A, cp, rfl⟩ := ownSlice_of hob
            clear hnil
            by_cases hb0 : b = []
            · rw [if_pos hb0] at hst
              have HF := Lib.hid (parse_merr HD.out (by decide) (hend _ hst))
              have t4 : ((b.length : Int) == 0) = true := by rw [hb0]; rfl
              clear hb0 hst hend HM hcv hke
              go_wp2_with fail
              go_ret3
              exact parseP_err _ HF.out HB
            · rw [if_neg hb0] at hst
              have t4 : ((b.length : Int) == 0) = false := by have := List.length_pos_iff.2 hb0; simp; omega
              clear hb0
              by_cases h63 : 63 < b.length
              · rw [if_pos h63] at hst
                have HF := Lib.hid (parse_merr HD.out (by decide) (hend _ hst))
                clear hst hend HM hcv hke
                go_wp2_with fail
                go_ret3
                exact parseP_err _ HF.out HB
              · rw [if_neg h63] at hst
                have HG := Lib.hid (hend _ hst)
                have HSS := Lib.hid (size_snoc n b)
                have hks2 : ¬ (k : Int) < (s.size : Int) := by omega
                have hk1 : k + 1 = s.size + 1 := by omega
                have HK1 := Lib.hid hk1
                clear hst hend HM hke hk1
                go_wp2_with (at_builtin; refine wpList_app1k rfl (.tmp 76) (.tmp 79) 23 9 rfl Try.underlying23 elem9 rfl w.heap.size _ n.length _ _ rfl rfl hon rfl (by omega) (by omega) hsz ?_)
                intro v' w' hown' HB' hkeep
                have hown2 := own_app1 hown'
                obtain ⟨N, hN⟩ : ∃ N, N = n ++ [b] := ⟨_, rfl⟩
                rw [← hN] at hown2 HSS HG
                clear hN hkeep hown' hon hob hcv
                go_wp2_with fail
                go_roundw
                case rel => exact ⟨k + 1, [], N, false, by go_num, rfl, World.ownsRow_nil _ _ _ _, hown2, HB.trans HB', by rw [HSS.out]; simp; omega, .inr ⟨HK1.out, rfl, HG⟩⟩
                case measure => simp [intOf]; omega
      · have HM1 := HM
        have t9 : ¬ (k : Int) ≤ (s.size : Int) := by omega
        obtain ⟨A, c, rfl, hta⟩ := TextsAt.of_own hon
        have hck := refSize_any A _ c _ wr hta (by omega)
        have HCK := Lib.hid hck
        clear hck hon hob
        by_cases hbig : 255 < sizeL n
        · have HF := Lib.hid (parse_big HD.out HM1.out hbig)
          go_wp2_with fail
          with_reducible refine HCK.out.mono ?_
          rintro e w3 ⟨rfl, rfl⟩
          go_wp2_with fail
          go_ret3
          exact parseP_err _ HF.out HB
        · have HF := Lib.hid (parse_small HD.out HM1.out hbig)
          go_wp2_with fail
          with_reducible refine HCK.out.mono ?_
          rintro e w3 ⟨rfl, rfl⟩
          go_wp2_with fail
          go_ret3
          exact parseP_ok HF.out hta HB
end Go.Proofs.Ytcdbnnfokophbaa
