/- Texts behind a law of this seat, in order: Dom3. -/
import Derived.Test.YthbdeafbdmbabaaGreatDoorPa
import Derived.Test.YthbdeafbdmbabaaGreatDoorPb
import Derived.Test.YthbdeafbdmbabaaGreatDoorPd
import Derived.Test.YthbdeafbdmbabaaGreatDoorPg
import Derived.Test.YthbdeafbdmbabaaGreatDoorPh
import Derived.Test.YthbdeafbdmbabaaGreatDoorPj
import Derived.Test.YthbdeafbdmbabaaGreatDoorPk
import Derived.Test.YthbdeafbdmbabaaGreatDoorPw
import Derived.Test.YthbdeafbdmbabaaGreatDoorPx
import Derived.BigQuiet
import Derived.Deep.QuietTactic
import Derived.Handed
import Derived.Handy
import Derived.Lib.Bytealg
import Derived.Lib.Hide
import Derived.Lib.ItoaLen
import Derived.Lib.ItoaMem
import Derived.Lib.ItoaNum
import Derived.Lib.Join
import Derived.Lib.Strings
import Derived.OpenShut
import Derived.Shelf.LaysM
import Derived.Shelf.Small.Bits
import Derived.Shelf.Small.Strs
import Derived.Shelf.Strconv.Itoa0
import Derived.Shelf.Strconv.Itoa1
import Derived.Shelf.Strconv.Itoa2
import Derived.Shelf.Strconv.Itoa3
import Derived.Shelf.Strings.Builder1
import Derived.Shelf.Strings.Builder2
import Derived.Shelf.Strings.Builder2Cap
import Derived.Shelf.Strings.BuilderCap
import Derived.Shelf.Strings.BuilderF
import Derived.Shelf.Strings.BuilderK
import Derived.Shelf.Strings.Count
import Derived.Shelf.Strings.Cut
import Derived.Shelf.Strings.OnBuilder
import Derived.Shelf.Strings.Prefix
import Derived.Shelf.Strings.Search1
import Derived.Shelf.Strings.Search2
import Derived.Shelf.Strings.Search3
import Derived.Shelf.Strings.Shaped
import Derived.Shelf.Strings.Split
import Derived.Shelf.Strings.SplitShaped
import Derived.Shelf.Unicode.Decode
import Derived.Shelf.Unicode.DecodeAny
import Derived.Shelf.Unicode.DecodeSlow
import Derived.SizedLaws
import Derived.SliceStrings
import Derived.Test.YthbdeafbdmbabaaGreatDoorProg
import Derived.WalkKit
import Derived.WalkLawsBesides
import Derived.WalkSpells
namespace Go.Proofs.YthbdeafbdmbabaaGreatDoor
open Go.RowKit Go
set_option linter.unusedVariables false
theorem plainD_take (l : List (List UInt8)) (k : Nat) (h : k < l.length) : plainD (l.take (k + 1)) = plainD (l.take k) ++ (if k = 0 then [] else [46]) ++ escs l[k] := by
  rw [List.take_succ_eq_append_getElem h, plainD_snoc]
  by_cases h0 : k = 0
  · subst h0; simp [textD, plainD]
  · rw [if_neg h0, textD_plainD]
    intro e
    have := congrArg List.length e
    rw [List.length_take, List.length_nil] at this
    omega
theorem plainD_len (l : List (List UInt8)) : (plainD l).length ≤ 4 * sizeL l := by
  by_cases h : l = []
  · subst h; simp [plainD]
  · have := textD_len l
    rw [textD_plainD l h] at this
    simp at this
    omega
theorem itoa_d (n : Int) (h0 : 0 ≤ n) (h1 : n ≤ 9) : Lib.itoa n = [UInt8.ofNat (48 + n.toNat)] := by
  have : ∀ k : Fin 10, Lib.itoa ((k.val : Nat) : Int) = [UInt8.ofNat (48 + k.val)] := by decide +kernel
  have h := this ⟨n.toNat, by omega⟩
  simp only at h
  rwa [Int.toNat_of_nonneg h0] at h
theorem refDig (n : Int) (k : Nat) (d : UInt8) (w : World) (hd : Hid (d = UInt8.ofNat (48 + k))) (h : n = k) (hk : k ≤ 9) : Calls Tryz.prog 41 #[.int .i64 n] w fun e w' => e = .returned (.string ⟨#[d]⟩) ∧ w = w' := by
  rw [hd.out]
  clear hd
  refine (refDigits_any n w (by omega) (by omega)).mono ?_
  rintro e w1 ⟨rfl, rfl⟩
  refine ⟨?_, rfl⟩
  rw [itoa_d n (by omega) (by omega)]
  subst h
  rfl
theorem piece1 (s : ByteArray) (j : Nat) (h : j < s.size) : s.extract j (j + 1) = ⟨#[s[j]]⟩ := by
  apply ByteArray.ext
  simp only [ByteArray.data_extract]
  apply Array.ext
  · simp; have : j < s.data.size := h; omega
  · intro i h1 h2
    simp at h1 h2
    have : i = 0 := by omega
    subst this
    simp; rfl
set_option maxRecDepth 100000 in
set_option maxHeartbeats 2000000 in
theorem refPlain5_any (A : Option Addr) (n c : Nat) (l : List (List UInt8)) (w : World) (hl : TextsAt w A n l) (hb : sizeL l ≤ 5000) :
    Calls Tryz.prog 50 #[.slice A n c] w fun e w' => e = .returned (.string ⟨(plainL l).toArray⟩) ∧ w = w' := by
  obtain rfl := hl.1
  go_enter Tryz.func50, Tryz.ntmps50
  go_wp2_with fail
  go_loop [3, 4] (fun v i => ∃ k : Nat, k ≤ l.length ∧ i = .int .i64 k ∧ v = .string ⟨(plainD (l.take k)).toArray⟩) (fun _ i => l.length - (intOf i).toNat)
  case atStart => exact ⟨0, Nat.zero_le _, rfl, rfl⟩
  case round =>
    obtain ⟨k, hk, rfl, rfl⟩ := hrel
    have hsl := size_len l
    by_cases hkl : k < l.length
    · obtain ⟨b, o, rfl, hbh, hcell⟩ := hl.2 (by omega)
      have h1 := hcell k hkl
      have hm := size_at l k hkl
      have ht := plainD_take l k hkl
      have htl := plainD_len (l.take k)
      obtain ⟨x, hx⟩ : ∃ x, x = l[k] := ⟨_, rfl⟩
      obtain ⟨T, hT⟩ : ∃ T, T = plainD (l.take k) := ⟨_, rfl⟩
      rw [← hx] at h1 hm ht
      rw [← hT] at ht htl ⊢
      unfold strV at h1
      obtain ⟨s, hs1, rfl, hs2⟩ := ba_of x
      rw [hs1] at h1
      rw [hs2] at hm
      clear hcell hx hT hs1 hs2
      have two : ∃ T2, plainD (l.take (k + 1)) = T2 ++ escs s.data.toList ∧ ((k = 0 ∧ T2 = T) ∨ (k ≠ 0 ∧ T2 = T ++ [46])) := by
        by_cases hk0 : k = 0
        · exact ⟨T, by rw [ht, if_pos hk0, List.append_nil], .inl ⟨hk0, rfl⟩⟩
        · exact ⟨T ++ [46], by rw [ht, if_neg hk0], .inr ⟨hk0, rfl⟩⟩
      clear ht
      obtain ⟨T2, ht, h2⟩ := two
      have HT := Lib.hid ht
      clear ht
      have hl2 : T2.length ≤ T.length + 1 := by
        rcases h2 with ⟨_, e⟩ | ⟨_, e⟩
        · rw [e]; omega
        · rw [e]; simp
      have h3 : (¬ (0 < (k : Int)) ∧ Hid ((⟨T.toArray⟩ : ByteArray) = ⟨T2.toArray⟩)) ∨ ((0 < (k : Int)) ∧ Hid ((⟨T.toArray⟩ : ByteArray) ++ ⟨#[46]⟩ = ⟨T2.toArray⟩)) := by
        rcases h2 with ⟨h0, e⟩ | ⟨h0, e⟩
        · exact .inl ⟨by omega, Lib.hid (by rw [e])⟩
        · exact .inr ⟨by omega, Lib.hid (by rw [e]; simp [ByteArray.mk_append_mk])⟩
      clear h2
      rcases h3 with ⟨hk1, HV⟩ | ⟨hk1, HV⟩
      all_goals
        go_wp2_with fail
        go_loop [3, 5] (fun v i => ∃ j : Nat, j ≤ s.size ∧ i = .int .i64 j ∧ v = .string ⟨(T2 ++ escs (s.data.toList.take j)).toArray⟩) (fun _ i => s.size - (intOf i).toNat)
        case atStart => exact ⟨0, Nat.zero_le _, rfl, by simp only [List.take_zero, escs, List.flatMap_nil, List.append_nil]; rw [← HV.out]⟩
        case round =>
          obtain ⟨j, hj, rfl, rfl⟩ := hrel
          by_cases hjl : j < s.size
          · have hst := escs_take s.data.toList j (by simpa using hjl)
            rw [byte_at s j hjl] at hst
            have hel := escs_len (s.data.toList.take j)
            rw [List.length_take] at hel
            obtain ⟨U, hU⟩ : ∃ U, U = T2 ++ escs (s.data.toList.take j) := ⟨_, rfl⟩
            have hul : U.length ≤ 40000 := by rw [hU, List.length_append]; omega
            have hUU : T2 ++ escs (s.data.toList.take (j + 1)) = U ++ escB s[j] := by rw [hst, hU, List.append_assoc]
            rw [← hU]
            have HU := Lib.hid hUU
            have HP := Lib.hid (piece1 s j hjl)
            clear hUU hU hst hel
            have hc0 := s[j].toNat_lt
            by_cases t1 : s[j].toNat = 46 ∨ s[j].toNat = 92
            · have HE := Lib.hid (esc_dot _ t1)
              have t2 : (s[j].toNat : Int) = 46 ∨ (s[j].toNat : Int) = 92 := by omega
              clear t1
              rcases t2 with t2 | t2
              all_goals
                go_wp2_with fail
                go_round
                case rel => exact ⟨j + 1, by omega, by go_num, by rw [HU.out, HE.out, HP.out]; simp [ByteArray.mk_append_mk]⟩
                case measure => simp [intOf]; omega
            · by_cases t2 : s[j].toNat < 33 ∨ 126 < s[j].toNat
              · have he := esc_num _ t1 t2
                obtain ⟨d1, hd1⟩ : ∃ d, d = UInt8.ofNat (48 + s[j].toNat / 100) := ⟨_, rfl⟩
                obtain ⟨d2, hd2⟩ : ∃ d, d = UInt8.ofNat (48 + s[j].toNat / 10 % 10) := ⟨_, rfl⟩
                obtain ⟨d3, hd3⟩ : ∃ d, d = UInt8.ofNat (48 + s[j].toNat % 10) := ⟨_, rfl⟩
                rw [← hd1, ← hd2, ← hd3] at he
                have HE := Lib.hid he
                have HD1 := Lib.hid hd1; have HD2 := Lib.hid hd2; have HD3 := Lib.hid hd3
                clear he hd1 hd2 hd3
                have e1 : ((s[j].toNat : Int) == 46) = false := by simp; omega
                have e2 : ((s[j].toNat : Int) == 92) = false := by simp; omega
                have e3 : ¬ (33 ≤ (s[j].toNat : Int)) ∨ ¬ ((s[j].toNat : Int) ≤ 126) := by omega
                clear t1 t2
                rcases e3 with e3 | e3
                all_goals
                  go_wp2_with fail
                  with_reducible refine (refDig _ (s[j].toNat / 100) d1 _ HD1 (by omega) (by omega)).mono ?_
                  rintro e w1 ⟨rfl, rfl⟩
                  go_wp2_with fail
                  with_reducible refine (refDig _ (s[j].toNat / 10 % 10) d2 _ HD2 (by omega) (by omega)).mono ?_
                  rintro e w1 ⟨rfl, rfl⟩
                  go_wp2_with fail
                  with_reducible refine (refDig _ (s[j].toNat % 10) d3 _ HD3 (by omega) (by omega)).mono ?_
                  rintro e w1 ⟨rfl, rfl⟩
                  go_wp2_with fail
                  go_round
                  case rel => exact ⟨j + 1, by omega, by go_num, by rw [HU.out, HE.out]; simp [ByteArray.mk_append_mk]⟩
                  case measure => simp [intOf]; omega
              · have HE := Lib.hid (esc_one _ t1 t2)
                have e1 : ((s[j].toNat : Int) == 46) = false := by simp; omega
                have e2 : ((s[j].toNat : Int) == 92) = false := by simp; omega
                have e3 : (33 ≤ (s[j].toNat : Int)) := by omega
                have e4 : ((s[j].toNat : Int) ≤ 126) := by omega
                clear t1 t2
                go_wp2_with fail
                go_round
                case rel => exact ⟨j + 1, by omega, by go_num, by rw [HU.out, HE.out, HP.out]; simp [ByteArray.mk_append_mk]⟩
                case measure => simp [intOf]; omega
          · rw [List.take_of_length_le (by simp; omega)]
            obtain ⟨V, hV⟩ : ∃ V, V = T2 ++ escs s.data.toList := ⟨_, rfl⟩
            rw [← hV]
            have HH := Lib.hid (HT.out.trans hV.symm)
            clear hV
            go_wp2_with fail
            go_round
            case rel => exact ⟨k + 1, by omega, by go_num, by rw [HH.out]⟩
            case measure => simp [intOf]; omega
    · rw [List.take_of_length_le (by omega)]
      by_cases h0 : l = []
      · have e : plainL l = [46] := by rw [h0]; rfl
        have e2 : ((l.length : Int) == 0) = true := by rw [h0]; rfl
        have HE := Lib.hid e
        clear h0 e
        go_wp2_with fail
        go_ret
        exact ⟨ret_str (by rw [HE.out]), rfl⟩
      · have e : plainL l = plainD l := by unfold plainL; rw [if_neg h0]
        have e2 : ((l.length : Int) == 0) = false := by have := List.length_pos_iff.2 h0; simp; omega
        have HE := Lib.hid e
        clear h0 e
        go_wp2_with fail
        go_ret
        exact ⟨ret_str (by rw [HE.out]), rfl⟩
end Go.Proofs.YthbdeafbdmbabaaGreatDoor
