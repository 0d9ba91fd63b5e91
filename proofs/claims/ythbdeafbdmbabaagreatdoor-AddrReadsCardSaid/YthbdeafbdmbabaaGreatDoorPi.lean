/- Texts behind a law of this seat, in order: Quad2. -/
import Derived.Test.YthbdeafbdmbabaaGreatDoorPa
import Derived.Test.YthbdeafbdmbabaaGreatDoorPb
import Derived.Test.YthbdeafbdmbabaaGreatDoorPc
import Derived.Test.YthbdeafbdmbabaaGreatDoorPd
import Derived.Test.YthbdeafbdmbabaaGreatDoorPg
import Derived.Test.YthbdeafbdmbabaaGreatDoorPh
import Derived.BigQuiet
import Derived.Deep.QuietTactic
import Derived.Handed
import Derived.Lib.Bytealg
import Derived.Lib.Hide
import Derived.Lib.ItoaNum
import Derived.Lib.Join
import Derived.Lib.Split
import Derived.Lib.SplitLaws
import Derived.Lib.Strings
import Derived.Shelf.LaysM
import Derived.Shelf.Small.Bits
import Derived.Shelf.Small.Strs
import Derived.Shelf.Strconv.Itoa0
import Derived.Shelf.Strconv.Itoa1
import Derived.Shelf.Strconv.Itoa2
import Derived.Shelf.Strconv.Itoa3
import Derived.Shelf.Strings.Builder1
import Derived.Shelf.Strings.Builder2
import Derived.Shelf.Strings.Builder2Cap
import Derived.Shelf.Strings.BuilderCap
import Derived.Shelf.Strings.BuilderF
import Derived.Shelf.Strings.BuilderK
import Derived.Shelf.Strings.Count
import Derived.Shelf.Strings.Cut
import Derived.Shelf.Strings.OnBuilder
import Derived.Shelf.Strings.Prefix
import Derived.Shelf.Strings.Search1
import Derived.Shelf.Strings.Search2
import Derived.Shelf.Strings.Search3
import Derived.Shelf.Strings.Shaped
import Derived.Shelf.Strings.Split
import Derived.Shelf.Strings.SplitShaped
import Derived.Shelf.Unicode.Decode
import Derived.Shelf.Unicode.DecodeAny
import Derived.Shelf.Unicode.DecodeSlow
import Derived.SizedLaws
import Derived.SliceStrings
import Derived.Test.YthbdeafbdmbabaaGreatDoorProg
import Derived.WalkKit
import Derived.WalkLawsBesides
import Derived.WalkSpells
namespace Go.Proofs.YthbdeafbdmbabaaGreatDoor
open Go.RowKit Go
set_option linter.unusedVariables false
set_option maxRecDepth 100000
theorem okD_out {b : Nat} {c : UInt8} (h : okD b c = true) : hexB c.toNat = true ∧ hexV c.toNat < b := by simpa [okD] using h
set_option maxHeartbeats 1000000 in
theorem value_any (b : Nat) (s : ByteArray) (w : World) (hs : s.size ≤ 4000) (hb : b = 8 ∨ b = 10 ∨ b = 16) :
    Calls Tryz.prog 116 #[.string s, .int .i64 b] w fun e w' => e = .returned (.tuple #[.int .u64 (valE b s.data.toList).1, .bool (valE b s.data.toList).2]) ∧ w = w' := by
  have hb' : (1 : Int) ≤ b ∧ (b : Int) ≤ 16 := by omega
  go_enter Tryz.func116, Tryz.ntmps116
  go_wp2
  go_loop [6, 12] (fun n i => ∃ k : Nat, k ≤ s.size ∧ i = .int .i64 k ∧ n = .int .u64 (valN b (s.data.toList.take k)) ∧ (s.data.toList.take k).all (okD b) = true) (fun _ i => s.size - (intOf i).toNat)
  case atStart => exact ⟨0, Nat.zero_le _, rfl, rfl, rfl⟩
  case round =>
    obtain ⟨k, hk, rfl, rfl, hall⟩ := hrel
    have HA := Lib.hid hall; clear hall
    by_cases hlt : k < s.size
    · have hst := valN_step b s k hlt
      have hle := valN_le b (s.data.toList.take k)
      have hc := UInt8.toNat_lt s[k]
      have hv := hexV_bd s[k].toNat
      by_cases ho : okD b s[k] = true
      · obtain ⟨o1, o2⟩ := okD_out ho
        have hn := take_snoc s k hlt
        have hall' : (s.data.toList.take (k + 1)).all (okD b) = true := by rw [hn, List.all_append, HA.out]; simp [ho]
        have hex := hex_any s[k].toNat w (by omega) (by omega)
        obtain ⟨v, hv'⟩ : ∃ v : Nat, hexV s[k].toNat = v := ⟨(hexV s[k].toNat).toNat, by omega⟩
        rw [o1, hv'] at hex
        have hst' : valN b (s.data.toList.take (k + 1)) = min (valN b (s.data.toList.take k) * b + v) 4294967296 := by rw [hst]; unfold vstep; rw [hv']; rfl
        obtain ⟨m, hm⟩ : ∃ m : Nat, valN b (s.data.toList.take k) * b = m := ⟨_, rfl⟩
        have hm2 : m ≤ 4294967296 * 16 := by rw [← hm]; exact Nat.mul_le_mul hle (by omega)
        rw [hm] at hst'
        have hmI : ((valN b (s.data.toList.take k) : Nat) : Int) * (b : Int) = m := by rw [← hm]; simp
        have HX := Lib.hid hex
        have HS := Lib.hid hst'
        have HL := Lib.hid hall'
        clear hex hst hst' hall' hn ho o1 hm
        go_wp2_with fail
        refine HX.out.mono ?_
        rintro e w' ⟨rfl, rfl⟩
        go_wp2_with fail
        go_round
        case rel => exact ⟨k + 1, by omega, by go_num, ret_v (by rw [HS.out]; omega), HL.out⟩
        case measure => simp [intOf]; omega
      · have e := val_bad b s k hlt (by simpa using ho)
        have hex := hex_any s[k].toNat w (by omega) (by omega)
        have HX := Lib.hid hex
        have HE := Lib.hid e
        have HO := Lib.hid ho
        clear hex hst ho e
        cases o1 : hexB s[k].toNat
        · rw [o1] at HX
          clear HO
          go_wp2_with fail
          refine HX.out.mono ?_
          rintro e w' ⟨rfl, rfl⟩
          go_wp2_with fail
          go_ret2
          exact ⟨by rw [HE.out]; rfl, rfl⟩
        · have o2 : (b : Int) ≤ hexV s[k].toNat := by
            have := HO.out
            simp only [okD, o1, Bool.true_and, decide_eq_true_eq] at this
            omega
          rw [o1] at HX
          clear HO
          go_wp2_with fail
          refine HX.out.mono ?_
          rintro e w' ⟨rfl, rfl⟩
          go_wp2_with fail
          go_ret2
          exact ⟨by rw [HE.out]; rfl, rfl⟩
    · obtain rfl : k = s.size := by omega
      have e := val_end b s HA.out
      have HE := Lib.hid e
      clear e
      by_cases hz : s.toList.isEmpty = true
      · go_wp2_with fail
        go_ret2
        exact ⟨by rw [HE.out, ← ByteArray.toList_eq, hz]; rfl, rfl⟩
      · have hz' : s.toList.isEmpty = false := by simpa using hz
        clear hz
        go_wp2_with fail
        go_ret2
        exact ⟨by rw [HE.out, ← ByteArray.toList_eq, hz']; rfl, rfl⟩
theorem pre_any (s p : ByteArray) (w : World) : Calls Tryz.prog 115 #[.string s, .string p] w fun e w' => e = .returned (.bool (Lib.hasPrefix s.data.toList p.data.toList)) ∧ w = w' :=
  (Tryz.strings_HasPrefix s p w).mono fun e w' ⟨h, hw⟩ => ⟨h, hw.symm⟩
theorem extract_tail (s : ByteArray) (k : Nat) : (s.extract k s.size).data.toList = s.data.toList.drop k := by
  rw [Lib.extract_data]
  exact List.take_of_length_le (by simp)
theorem pre2_size (s : ByteArray) (x y : UInt8) (h : Lib.hasPrefix s.data.toList [x, y] = true) : 2 ≤ s.size := by
  rw [Lib.size_eq]
  unfold Lib.hasPrefix at h
  have := (List.isPrefixOf_iff_prefix.1 h).length_le
  simpa using this
set_option maxHeartbeats 1000000 in
theorem number_quad (s : ByteArray) (w : World) (hs : s.size ≤ 4000) :
    Calls Tryz.prog 91 #[.string s] w fun e w' => e = .returned (.tuple #[.int .u64 (numE s.data.toList).1, .bool (numE s.data.toList).2]) ∧ w = w' := by
  have p1 := pre_any s ⟨#[48, 120]⟩ w
  have p2 := pre_any s ⟨#[48, 88]⟩ w
  have p3 := pre_any s ⟨#[48]⟩ w
  simp only at p1 p2 p3
  cases h1 : Lib.hasPrefix s.data.toList [48, 120]
  · rw [h1] at p1
    cases h2 : Lib.hasPrefix s.data.toList [48, 88]
    · rw [h2] at p2
      cases h3 : Lib.hasPrefix s.data.toList [48]
      · rw [h3] at p3
        have e : numE s.data.toList = valE 10 s.data.toList := by simp [numE, h1, h2, h3]
        have hv := value_any 10 s w hs (by omega)
        rw [← e] at hv
        have P1 := Lib.hid p1; have P2 := Lib.hid p2; have P3 := Lib.hid p3; have HV := Lib.hid hv
        clear p1 p2 p3 hv h1 h2 h3 e
        go_enter Tryz.func91, Tryz.ntmps91
        go_wp2_with (first
          | (refine P1.out.mono ?_; rintro e w' ⟨rfl, rfl⟩)
          | (refine P2.out.mono ?_; rintro e w' ⟨rfl, rfl⟩)
          | (refine P3.out.mono ?_; rintro e w' ⟨rfl, rfl⟩)
          | (refine HV.out.mono ?_; rintro e w' ⟨rfl, rfl⟩))
        go_ret2
        exact ⟨rfl, rfl⟩
      · rw [h3] at p3
        have e : numE s.data.toList = valE 8 s.data.toList := by simp [numE, h1, h2, h3]
        have hv := value_any 8 s w hs (by omega)
        rw [← e] at hv
        have P1 := Lib.hid p1; have P2 := Lib.hid p2; have P3 := Lib.hid p3; have HV := Lib.hid hv
        clear p1 p2 p3 hv h1 h2 h3 e
        go_enter Tryz.func91, Tryz.ntmps91
        go_wp2_with (first
          | (refine P1.out.mono ?_; rintro e w' ⟨rfl, rfl⟩)
          | (refine P2.out.mono ?_; rintro e w' ⟨rfl, rfl⟩)
          | (refine P3.out.mono ?_; rintro e w' ⟨rfl, rfl⟩)
          | (refine HV.out.mono ?_; rintro e w' ⟨rfl, rfl⟩))
        go_ret2
        exact ⟨rfl, rfl⟩
    · rw [h2] at p2
      have hz := pre2_size s 48 88 h2
      have e : numE s.data.toList = valE 16 (s.extract 2 s.size).data.toList := by rw [extract_tail]; simp [numE, h1, h2]
      have hv := value_any 16 (s.extract 2 s.size) w (by rw [ByteArray.size_extract]; omega) (by omega)
      rw [← e] at hv
      have P1 := Lib.hid p1; have P2 := Lib.hid p2; have P3 := Lib.hid p3; have HV := Lib.hid hv
      clear p1 p2 p3 hv h1 h2 e
      go_enter Tryz.func91, Tryz.ntmps91
      go_wp2_with (first
        | (refine P1.out.mono ?_; rintro e w' ⟨rfl, rfl⟩)
        | (refine P2.out.mono ?_; rintro e w' ⟨rfl, rfl⟩)
        | (refine P3.out.mono ?_; rintro e w' ⟨rfl, rfl⟩)
        | (refine HV.out.mono ?_; rintro e w' ⟨rfl, rfl⟩))
      go_ret2
      exact ⟨rfl, rfl⟩
  · rw [h1] at p1
    have hz := pre2_size s 48 120 h1
    have e : numE s.data.toList = valE 16 (s.extract 2 s.size).data.toList := by rw [extract_tail]; simp [numE, h1]
    have hv := value_any 16 (s.extract 2 s.size) w (by rw [ByteArray.size_extract]; omega) (by omega)
    rw [← e] at hv
    have P1 := Lib.hid p1; have P2 := Lib.hid p2; have P3 := Lib.hid p3; have HV := Lib.hid hv
    clear p1 p2 p3 hv h1 e
    go_enter Tryz.func91, Tryz.ntmps91
    go_wp2_with (first
      | (refine P1.out.mono ?_; rintro e w' ⟨rfl, rfl⟩)
      | (refine P2.out.mono ?_; rintro e w' ⟨rfl, rfl⟩)
      | (refine P3.out.mono ?_; rintro e w' ⟨rfl, rfl⟩)
      | (refine HV.out.mono ?_; rintro e w' ⟨rfl, rfl⟩))
    go_ret2
    exact ⟨rfl, rfl⟩
end Go.Proofs.YthbdeafbdmbabaaGreatDoor
