/- Names written: Plain; the document's Plain and Text. -/
import Derived.Test.YtcdbnnfokophbaaDom2
import Derived.Test.YtcdbnnfokophbaaDig01
namespace Go.Proofs.Ytcdbnnfokophbaa
open Go.RowKit Go
set_option linter.unusedVariables false
theorem text_cut (l : List (List UInt8)) (h : l ≠ []) (n : Nat) (hn : n + 1 = (textD l).length) : (⟨(textD l).toArray⟩ : ByteArray).extract 0 n = ⟨(plainD l).toArray⟩ := by
  apply ByteArray.ext
  apply Array.ext'
  rw [textD_plainD l h] at hn ⊢
  simp at hn
  simp [hn]
set_option maxHeartbeats 400000 in
theorem plain_any (A : Option Addr) (n c : Nat) (l : List (List UInt8)) (w : World) (hl : TextsAt w A n l) (hb : sizeL l ≤ 5000) :
    Calls Try.prog 19 #[.slice A n c] w fun e w' => e = .returned (.string ⟨(plainL l).toArray⟩) ∧ Below w.heap.size w w' := by
  have htx := dText_any A n c l w hl hb
  have HTX := Lib.hid htx
  clear htx
  obtain rfl := hl.1
  by_cases hn : l = []
  · have ht : plainL l = [46] := by rw [hn]; rfl
    have ht2 : wrtL l = [46] := by rw [hn]; rfl
    rw [ht]
    rw [ht2] at HTX
    have h0 : l.length = 0 := by rw [hn]; rfl
    rw [h0] at hl HTX ⊢
    go_enter Try.func19, Try.ntmps19
    go_wp2_with fail
    with_reducible refine HTX.out.mono ?_
    rintro e w1 ⟨rfl, hb1⟩
    go_wp2_with fail
    go_ret
    exact ⟨rfl, hb1⟩
  · have ht : plainL l = plainD l := by unfold plainL; rw [if_neg hn]
    have ht2 : wrtL l = textD l := by unfold wrtL; rw [if_neg hn]
    rw [ht]
    rw [ht2] at HTX
    have hpos : ((l.length : Int) == 0) = false := by have := List.length_pos_iff.2 hn; simp; omega
    have htl := textD_len l
    have hpl : (textD l).length = (plainD l).length + 1 := by rw [textD_plainD l hn]; simp
    have hcut := fun n hn2 => text_cut l hn n hn2
    have HC := Lib.hid hcut
    obtain ⟨T, hT⟩ : ∃ T, T = textD l := ⟨_, rfl⟩
    obtain ⟨k, hk⟩ : ∃ k, k = (plainD l).length := ⟨_, rfl⟩
    rw [← hT] at HC HTX htl hpl
    rw [← hk] at hpl
    clear hcut hT hk hn ht ht2
    have hk1 := HC.out k hpl.symm
    have HK := Lib.hid hk1
    clear hk1 HC
    obtain ⟨s, hs1, rfl, hs2⟩ := ba_of T
    rw [hs1] at HTX HK
    rw [hs2] at hpl htl
    clear hs1 hs2
    go_enter Try.func19, Try.ntmps19
    go_wp2_with fail
    with_reducible refine HTX.out.mono ?_
    rintro e w1 ⟨rfl, hb1⟩
    go_wp2_with fail
    go_ret
    refine ⟨ret_str ?_, hb1⟩
    rw [← HK.out]
theorem plainD_take (l : List (List UInt8)) (k : Nat) (h : k < l.length) : plainD (l.take (k + 1)) = plainD (l.take k) ++ (if k = 0 then [] else [46]) ++ escs l[k] := by
  rw [List.take_succ_eq_append_getElem h, plainD_snoc]
  by_cases h0 : k = 0
  · subst h0; simp [textD, plainD]
  · rw [if_neg h0, textD_plainD]
    intro e
    have := congrArg List.length e
    rw [List.length_take, List.length_nil] at this
    omega
theorem plainD_len (l : List (List UInt8)) : (plainD l).length ≤ 4 * sizeL l := by
  by_cases h : l = []
  · subst h; simp [plainD]
  · have := textD_len l
    rw [textD_plainD l h] at this
    simp at this
    omega
theorem itoa_d (n : Int) (h0 : 0 ≤ n) (h1 : n ≤ 9) : Lib.itoa n = [UInt8.ofNat (48 + n.toNat)] := by
  have : ∀ k : Fin 10, Lib.itoa ((k.val : Nat) : Int) = [UInt8.ofNat (48 + k.val)] := by decide +kernel
  have h := this ⟨n.toNat, by omega⟩
  simp only at h
  rwa [Int.toNat_of_nonneg h0] at h
theorem refDig (n : Int) (k : Nat) (d : UInt8) (w : World) (hd : Hid (d = UInt8.ofNat (48 + k))) (h : n = k) (hk : k ≤ 9) : Calls Try.prog 38 #[.int .i64 n] w fun e w' => e = .returned (.string ⟨#[d]⟩) ∧ w = w' := by
  rw [hd.out]
  clear hd
  refine (refDigits_any n w (by omega) (by omega)).mono ?_
  rintro e w1 ⟨rfl, rfl⟩
  refine ⟨?_, rfl⟩
  rw [itoa_d n (by omega) (by omega)]
  subst h
  rfl
theorem piece1 (s : ByteArray) (j : Nat) (h : j < s.size) : s.extract j (j + 1) = ⟨#[s[j]]⟩ := by
  apply ByteArray.ext
  simp only [ByteArray.data_extract]
  apply Array.ext
  · simp; have : j < s.data.size := h; omega
  · intro i h1 h2
    simp at h1 h2
    have : i = 0 := by omega
    subst this
    simp; rfl
set_option maxRecDepth 100000 in
set_option maxHeartbeats 2000000 in
theorem refPlain5_any (A : Option Addr) (n c : Nat) (l : List (List UInt8)) (w : World) (hl : TextsAt w A n l) (hb : sizeL l ≤ 5000) :
    Calls Try.prog 20 #[.slice A n c] w fun e w' => e = .returned (.string ⟨(plainL l).toArray⟩) ∧ w = w' := by
  obtain rfl := hl.1
  go_enter Try.func20, Try.ntmps20
  go_wp2_with fail
  go_loop [3, 4] (fun v i => ∃ k : Nat, k ≤ l.length ∧ i = .int .i64 k ∧ v = .string ⟨(plainD (l.take k)).toArray⟩) (fun _ i => l.length - (intOf i).toNat)
  case atStart => exact ⟨0, Nat.zero_le _, rfl, rfl⟩
  case round =>
    obtain ⟨k, hk, rfl, rfl⟩ := hrel
    have hsl := size_len l
    by_cases hkl : k < l.length
    · obtain ⟨b, o, rfl, hbh, hcell⟩ := hl.2 (by omega)
      have h1 := hcell k hkl
      have hm := size_at l k hkl
      have ht := plainD_take l k hkl
      have htl := plainD_len (l.take k)
      obtain ⟨x, hx⟩ : ∃ x, x = l[k] := ⟨_, rfl⟩
      obtain ⟨T, hT⟩ : ∃ T, T = plainD (l.take k) := ⟨_, rfl⟩
      rw [← hx] at h1 hm ht
      rw [← hT] at ht htl ⊢
      unfold strV at h1
      obtain ⟨s, hs1, rfl, hs2⟩ := ba_of x
      rw [hs1] at h1
      rw [hs2] at hm
      clear hcell hx hT hs1 hs2
      have two : ∃ T2, plainD (l.take (k + 1)) = T2 ++ escs s.data.toList ∧ ((k = 0 ∧ T2 = T) ∨ (k ≠ 0 ∧ T2 = T ++ [46])) := by
        by_cases hk0 : k = 0
        · exact ⟨T, by rw [ht, if_pos hk0, List.append_nil], .inl ⟨hk0, rfl⟩⟩
        · exact ⟨T ++ [46], by rw [ht, if_neg hk0], .inr ⟨hk0, rfl⟩⟩
      clear ht
      obtain ⟨T2, ht, h2⟩ := two
      have HT := Lib.hid ht
      clear ht
      have hl2 : T2.length ≤ T.length + 1 := by
        rcases h2 with ⟨_, e⟩ | ⟨_, e⟩
        · rw [e]; omega
        · rw [e]; simp
      have h3 : (¬ (0 < (k : Int)) ∧ Hid ((⟨T.toArray⟩ : ByteArray) = ⟨T2.toArray⟩)) ∨ ((0 < (k : Int)) ∧ Hid ((⟨T.toArray⟩ : ByteArray) ++ ⟨#[46]⟩ = ⟨T2.toArray⟩)) := by
        rcases h2 with ⟨h0, e⟩ | ⟨h0, e⟩
        · exact .inl ⟨by omega, Lib.hid (by rw [e])⟩
        · exact .inr ⟨by omega, Lib.hid (by rw [e]; simp [ByteArray.mk_append_mk])⟩
      clear h2
      rcases h3 with ⟨hk1, HV⟩ | ⟨hk1, HV⟩
      all_goals
        go_wp2_with fail
        go_loop [3, 5] (fun v i => ∃ j : Nat, j ≤ s.size ∧ i = .int .i64 j ∧ v = .string ⟨(T2 ++ escs (s.data.toList.take j)).toArray⟩) (fun _ i => s.size - (intOf i).toNat)
        case atStart => exact ⟨0, Nat.zero_le _, rfl, by simp only [List.take_zero, escs, List.flatMap_nil, List.append_nil]; rw [← HV.out]⟩
        case round =>
          obtain ⟨j, hj, rfl, rfl⟩ := hrel
          by_cases hjl : j < s.size
          · have hst := escs_take s.data.toList j (by simpa using hjl)
            rw [byte_at s j hjl] at hst
            have hel := escs_len (s.data.toList.take j)
            rw [List.length_take] at hel
            obtain ⟨U, hU⟩ : ∃ U, U = T2 ++ escs (s.data.toList.take j) := ⟨_, rfl⟩
            have hul : U.length ≤ 40000 := by rw [hU, List.length_append]; omega
            have hUU : T2 ++ escs (s.data.toList.take (j + 1)) = U ++ escB s[j] := by rw [hst, hU, List.append_assoc]
            rw [← hU]
            have HU := Lib.hid hUU
            have HP := Lib.hid (piece1 s j hjl)
            clear hUU hU hst hel
            have hc0 := s[j].toNat_lt
            by_cases t1 : s[j].toNat = 46 ∨ s[j].toNat = 92
            · have HE := Lib.hid (esc_dot _ t1)
              have t2 : (s[j].toNat : Int) = 46 ∨ (s[j].toNat : Int) = 92 := by omega
              clear t1
              rcases t2 with t2 | t2
              all_goals
                go_wp2_with fail
                go_round
                case rel => exact ⟨j + 1, by omega, by go_num, by rw [HU.out, HE.out, HP.out]; simp [ByteArray.mk_append_mk]⟩
                case measure => simp [intOf]; omega
            · by_cases t2 : s[j].toNat < 33 ∨ 126 < s[j].toNat
              · have he := esc_num _ t1 t2
                obtain ⟨d1, hd1⟩ : ∃ d, d = UInt8.ofNat (48 + s[j].toNat / 100) := ⟨_, rfl⟩
                obtain ⟨d2, hd2⟩ : ∃ d, d = UInt8.ofNat (48 + s[j].toNat / 10 % 10) := ⟨_, rfl⟩
                obtain ⟨d3, hd3⟩ : ∃ d, d = UInt8.ofNat (48 + s[j].toNat % 10) := ⟨_, rfl⟩
                rw [← hd1, ← hd2, ← hd3] at he
                have HE := Lib.hid he
                have HD1 := Lib.hid hd1; have HD2 := Lib.hid hd2; have HD3 := Lib.hid hd3
                clear he hd1 hd2 hd3
                have e1 : ((s[j].toNat : Int) == 46) = false := by simp; omega
                have e2 : ((s[j].toNat : Int) == 92) = false := by simp; omega
                have e3 : ¬ (33 ≤ (s[j].toNat : Int)) ∨ ¬ ((s[j].toNat : Int) ≤ 126) := by omega
                clear t1 t2
                rcases e3 with e3 | e3
                all_goals
                  go_wp2_with fail
                  with_reducible refine (refDig _ (s[j].toNat / 100) d1 _ HD1 (by omega) (by omega)).mono ?_
                  rintro e w1 ⟨rfl, rfl⟩
                  go_wp2_with fail
                  with_reducible refine (refDig _ (s[j].toNat / 10 % 10) d2 _ HD2 (by omega) (by omega)).mono ?_
                  rintro e w1 ⟨rfl, rfl⟩
                  go_wp2_with fail
                  with_reducible refine (refDig _ (s[j].toNat % 10) d3 _ HD3 (by omega) (by omega)).mono ?_
                  rintro e w1 ⟨rfl, rfl⟩
                  go_wp2_with fail
                  go_round
                  case rel => exact ⟨j + 1, by omega, by go_num, by rw [HU.out, HE.out]; simp [ByteArray.mk_append_mk]⟩
                  case measure => simp [intOf]; omega
              · have HE := Lib.hid (esc_one _ t1 t2)
                have e1 : ((s[j].toNat : Int) == 46) = false := by simp; omega
                have e2 : ((s[j].toNat : Int) == 92) = false := by simp; omega
                have e3 : (33 ≤ (s[j].toNat : Int)) := by omega
                have e4 : ((s[j].toNat : Int) ≤ 126) := by omega
                clear t1 t2
                go_wp2_with fail
                go_round
                case rel => exact ⟨j + 1, by omega, by go_num, by rw [HU.out, HE.out, HP.out]; simp [ByteArray.mk_append_mk]⟩
                case measure => simp [intOf]; omega
          · rw [List.take_of_length_le (by simp; omega)]
            obtain ⟨V, hV⟩ : ∃ V, V = T2 ++ escs s.data.toList := ⟨_, rfl⟩
            rw [← hV]
            have HH := Lib.hid (HT.out.trans hV.symm)
            clear hV
            go_wp2_with fail
            go_round
            case rel => exact ⟨k + 1, by omega, by go_num, by rw [HH.out]⟩
            case measure => simp [intOf]; omega
    · rw [List.take_of_length_le (by omega)]
      by_cases h0 : l = []
      · have e : plainL l = [46] := by rw [h0]; rfl
        have e2 : ((l.length : Int) == 0) = true := by rw [h0]; rfl
        have HE := Lib.hid e
        clear h0 e
        go_wp2_with fail
        go_ret
        exact ⟨ret_str (by rw [HE.out]), rfl⟩
      · have e : plainL l = plainD l := by unfold plainL; rw [if_neg h0]
        have e2 : ((l.length : Int) == 0) = false := by have := List.length_pos_iff.2 h0; simp; omega
        have HE := Lib.hid e
        clear h0 e
        go_wp2_with fail
        go_ret
        exact ⟨ret_str (by rw [HE.out]), rfl⟩
set_option maxHeartbeats 400000 in
theorem refDText_any (A : Option Addr) (n c : Nat) (l : List (List UInt8)) (w : World) (hl : TextsAt w A n l) (hb : sizeL l ≤ 5000) :
    Calls Try.prog 18 #[.slice A n c] w fun e w' => e = .returned (.string ⟨(wrtL l).toArray⟩) ∧ w = w' := by
  have htx := refPlain5_any A n c l w hl hb
  have HTX := Lib.hid htx
  clear htx
  obtain rfl := hl.1
  by_cases h0 : l = []
  · have e : wrtL l = [46] := by rw [h0]; rfl
    have e2 : ((l.length : Int) == 0) = true := by rw [h0]; rfl
    rw [e]
    clear h0 e
    go_enter Try.func18, Try.ntmps18
    go_wp2_with fail
    go_ret
    exact ⟨rfl, rfl⟩
  · have e : wrtL l = textD l := by unfold wrtL; rw [if_neg h0]
    have e1 : plainL l = plainD l := by unfold plainL; rw [if_neg h0]
    have e2 : ((l.length : Int) == 0) = false := by have := List.length_pos_iff.2 h0; simp; omega
    have hpl := plainD_len l
    rw [e, textD_plainD l h0]
    rw [e1] at HTX
    clear h0 e e1
    obtain ⟨T, hT⟩ : ∃ T, T = plainD l := ⟨_, rfl⟩
    rw [← hT] at HTX hpl ⊢
    clear hT
    go_enter Try.func18, Try.ntmps18
    go_wp2_with fail
    with_reducible refine HTX.out.mono ?_
    rintro e w1 ⟨rfl, rfl⟩
    go_wp2_with fail
    go_ret
    exact ⟨ret_str (by simp [ByteArray.mk_append_mk]), rfl⟩
end Go.Proofs.Ytcdbnnfokophbaa
