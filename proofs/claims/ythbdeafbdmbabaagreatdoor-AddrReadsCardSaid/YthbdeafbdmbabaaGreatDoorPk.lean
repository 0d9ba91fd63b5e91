/- Texts behind a law of this seat, in order: Dig01. -/
import Derived.Test.YthbdeafbdmbabaaGreatDoorPa
import Derived.Test.YthbdeafbdmbabaaGreatDoorPb
import Derived.Test.YthbdeafbdmbabaaGreatDoorPd
import Derived.Test.YthbdeafbdmbabaaGreatDoorPg
import Derived.Test.YthbdeafbdmbabaaGreatDoorPh
import Derived.Test.YthbdeafbdmbabaaGreatDoorPj
import Derived.BigQuiet
import Derived.Deep.QuietTactic
import Derived.Handed
import Derived.Lib.Bytealg
import Derived.Lib.Hide
import Derived.Lib.ItoaLen
import Derived.Lib.ItoaMem
import Derived.Lib.ItoaNum
import Derived.Lib.Join
import Derived.Lib.Strings
import Derived.OpenShut
import Derived.Shelf.LaysM
import Derived.Shelf.Small.Bits
import Derived.Shelf.Small.Strs
import Derived.Shelf.Strconv.Itoa0
import Derived.Shelf.Strconv.Itoa1
import Derived.Shelf.Strconv.Itoa2
import Derived.Shelf.Strconv.Itoa3
import Derived.Shelf.Strings.Builder1
import Derived.Shelf.Strings.Builder2
import Derived.Shelf.Strings.Builder2Cap
import Derived.Shelf.Strings.BuilderCap
import Derived.Shelf.Strings.BuilderF
import Derived.Shelf.Strings.BuilderK
import Derived.Shelf.Strings.Count
import Derived.Shelf.Strings.Cut
import Derived.Shelf.Strings.OnBuilder
import Derived.Shelf.Strings.Prefix
import Derived.Shelf.Strings.Search1
import Derived.Shelf.Strings.Search2
import Derived.Shelf.Strings.Search3
import Derived.Shelf.Strings.Shaped
import Derived.Shelf.Strings.Split
import Derived.Shelf.Strings.SplitShaped
import Derived.Shelf.Unicode.Decode
import Derived.Shelf.Unicode.DecodeAny
import Derived.Shelf.Unicode.DecodeSlow
import Derived.SizedLaws
import Derived.SliceStrings
import Derived.Test.YthbdeafbdmbabaaGreatDoorProg
import Derived.WalkKit
import Derived.WalkLawsBesides
import Derived.WalkSpells
namespace Go.Proofs.YthbdeafbdmbabaaGreatDoor
open Go.RowKit Go
theorem dig_piece : ∀ d : Fin 10, (⟨#[48, 49, 50, 51, 52, 53, 54, 55, 56, 57]⟩ : ByteArray).extract d.val (d.val + 1) = ⟨#[UInt8.ofNat (48 + d.val)]⟩ := by decide +kernel
def DigInv (D : List UInt8) (j m : Nat) (S : List UInt8) : Prop := (0 < m → Lib.decDigits m ++ S = D) ∧ (m = 0 → S = D) ∧ m < 10 ^ (20 - j) ∧ S.length ≤ j ∧ m ≤ 9223372036854775808
theorem digInv_start (u : Nat) (h0 : 0 < u) (h1 : u ≤ 9223372036854775808) : DigInv (Lib.decDigits u) 0 u [] :=
  ⟨fun _ => by simp, fun h => absurd h (by omega), by simp only [Nat.sub_zero]; omega, by simp, h1⟩
theorem digInv_step {D : List UInt8} {j m : Nat} {S : List UInt8} (h : DigInv D j m S) (hj : j < 20) (hm : 0 < m) : DigInv D (j + 1) (m / 10) (UInt8.ofNat (48 + m % 10) :: S) := by
  obtain ⟨h1, _, h3, h4, h5⟩ := h
  have h1 := h1 hm
  refine ⟨fun hp => ?_, fun hz => ?_, ?_, by simp; omega, by omega⟩
  · rw [Lib.decDigits, dif_neg (by omega)] at h1
    simpa using h1
  · have hl : m < 10 := by omega
    rw [Lib.decDigits_one hl] at h1
    have : m % 10 = m := Nat.mod_eq_of_lt hl
    rw [this]
    simpa using h1
  · have e : 20 - j = (20 - (j + 1)) + 1 := by omega
    rw [e, Nat.pow_succ] at h3
    omega
theorem digInv_end {D : List UInt8} {j m : Nat} {S : List UInt8} (h : DigInv D j m S) (hj : 20 ≤ j ∨ m = 0) : S = D := by
  obtain ⟨_, h2, h3, _, _⟩ := h
  rcases hj with hj | hj
  · rw [show 20 - j = 0 by omega] at h3
    exact h2 (by omega)
  · exact h2 hj
theorem neg_u64 (n : Int) (h0 : -9223372036854775808 ≤ n) (h1 : n < 0) : IntKind.u64.wrap (-IntKind.u64.wrap n) = ((n.natAbs : Nat) : Int) := by
  simp [IntKind.wrap, IntKind.bits, IntKind.signed]
  omega
theorem ret_s {a b : ByteArray} (h : a = b) : Value.string a = Value.string b := by rw [h]
theorem piece_app (m : Nat) (S : List UInt8) : (⟨#[48, 49, 50, 51, 52, 53, 54, 55, 56, 57]⟩ : ByteArray).extract (m % 10) (m % 10 + 1) ++ ⟨S.toArray⟩ = ⟨(UInt8.ofNat (48 + m % 10) :: S).toArray⟩ := by
  have := dig_piece ⟨m % 10, by omega⟩
  simp only at this
  rw [this, ByteArray.mk_append_mk]
  simp
set_option maxHeartbeats 1000000 in
theorem refDigits_any (n : Int) (w : World) (h0 : -9223372036854775808 ≤ n) (h1 : n ≤ 9223372036854775807) :
    Calls Tryz.prog 41 #[.int .i64 n] w fun e w' => e = .returned (.string ⟨(Lib.itoa n).toArray⟩) ∧ w = w' := by
  by_cases hz : n = 0
  · subst hz
    have hi : Lib.itoa 0 = [48] := by rw [show (0 : Int) = ((0 : Nat) : Int) from rfl, Lib.itoa_nonneg, Lib.decDigits_one (by decide)]; rfl
    rw [hi]
    clear hi
    go_enter Tryz.func41, Tryz.ntmps41
    go_wp2
    go_ret
    exact ⟨rfl, rfl⟩
  have hzb : (n == 0) = false := by simpa using hz
  have hst := digInv_start n.natAbs (by omega) (by omega)
  have HST := Lib.hid hst
  clear hst
  by_cases hneg : n < 0
  · have hi : Lib.itoa n = 45 :: Lib.decDigits n.natAbs := by unfold Lib.itoa; rw [if_pos hneg]
    have hw := neg_u64 n h0 hneg
    have HW := Lib.hid hw
    have HI := Lib.hid hi
    clear hw hi
    go_enter Tryz.func41, Tryz.ntmps41
    go_wp2
    go_loop [3, 4, 5] (fun v s i => ∃ j m : Nat, ∃ S, v = .int .u64 m ∧ s = .string ⟨S.toArray⟩ ∧ i = .int .i64 j ∧ j ≤ 20 ∧ DigInv (Lib.decDigits n.natAbs) j m S) (fun _ _ i => 20 - (intOf i).toNat)
    case atStart => exact ⟨0, _, [], ret_v HW.out, rfl, rfl, by omega, HST.out⟩
    case round =>
      obtain ⟨j, m, S, rfl, rfl, rfl, hj, hinv⟩ := hrel
      have hS := hinv.2.2.2.1
      have hm64 := hinv.2.2.2.2
      have HI2 := Lib.hid hinv
      clear hinv
      by_cases hgo : j < 20 ∧ 0 < m
      · obtain ⟨hj20, hm⟩ := hgo
        have hst := digInv_step HI2.out hj20 hm
        have hpa := piece_app m S
        have HS := Lib.hid hst
        have HP := Lib.hid hpa
        clear hst hpa
        go_wp2
        go_round
        case rel => exact ⟨j + 1, m / 10, _, by go_num, ret_s HP.out, by go_num, by omega, HS.out⟩
        case measure => simp [intOf]; omega
      · have hend := digInv_end HI2.out (show 20 ≤ j ∨ m = 0 by omega)
        have HE := Lib.hid hend; clear hend
        by_cases hj20 : j < 20
        · obtain rfl : m = 0 := by omega
          clear hgo
          go_wp2
          go_ret
          exact ⟨ret_str (by rw [HI.out, HE.out, ByteArray.mk_append_mk]; rfl), rfl⟩
        · clear hgo
          go_wp2
          go_ret
          exact ⟨ret_str (by rw [HI.out, HE.out, ByteArray.mk_append_mk]; rfl), rfl⟩
  · have hi : Lib.itoa n = Lib.decDigits n.natAbs := by unfold Lib.itoa; rw [if_neg hneg]; congr 1; omega
    have HI := Lib.hid hi
    have hpos : 0 < n := by omega
    clear hi hneg
    go_enter Tryz.func41, Tryz.ntmps41
    go_wp2
    go_loop [3, 4, 5] (fun v s i => ∃ j m : Nat, ∃ S, v = .int .u64 m ∧ s = .string ⟨S.toArray⟩ ∧ i = .int .i64 j ∧ j ≤ 20 ∧ DigInv (Lib.decDigits n.natAbs) j m S) (fun _ _ i => 20 - (intOf i).toNat)
    case atStart => exact ⟨0, _, [], ret_v (by omega), rfl, rfl, by omega, HST.out⟩
    case round =>
      obtain ⟨j, m, S, rfl, rfl, rfl, hj, hinv⟩ := hrel
      have hS := hinv.2.2.2.1
      have hm64 := hinv.2.2.2.2
      have HI2 := Lib.hid hinv
      clear hinv
      by_cases hgo : j < 20 ∧ 0 < m
      · obtain ⟨hj20, hm⟩ := hgo
        have hst := digInv_step HI2.out hj20 hm
        have hpa := piece_app m S
        have HS := Lib.hid hst
        have HP := Lib.hid hpa
        clear hst hpa
        go_wp2
        go_round
        case rel => exact ⟨j + 1, m / 10, _, by go_num, ret_s HP.out, by go_num, by omega, HS.out⟩
        case measure => simp [intOf]; omega
      · have hend := digInv_end HI2.out (show 20 ≤ j ∨ m = 0 by omega)
        have HE := Lib.hid hend; clear hend
        by_cases hj20 : j < 20
        · obtain rfl : m = 0 := by omega
          clear hgo
          go_wp2
          go_ret
          exact ⟨ret_str (by rw [HI.out, HE.out]), rfl⟩
        · clear hgo
          go_wp2
          go_ret
          exact ⟨ret_str (by rw [HI.out, HE.out]), rfl⟩
set_option maxHeartbeats 1000000 in
theorem digits_num (n : Int) (w : World) (h0 : -9223372036854775808 ≤ n) (h1 : n ≤ 9223372036854775807) (htab : Lib.TabIs Tryz.prog w "internal/strconv.uint64pow10" .u64 Lib.pow10Tab) :
    Calls Tryz.prog 39 #[.int .i64 n] w fun e w' => e = .returned (.string ⟨(Lib.itoa n).toArray⟩) ∧ Below w.heap.size w w' := by
  have hk := Tryz.strconv_Itoa n h0 h1 w htab
  have HK := Lib.hid hk
  clear hk htab
  go_enter Tryz.func39, Tryz.ntmps39
  go_wp2_with fail
  refine HK.out.mono ?_
  rintro e w' ⟨rfl, k, os, rfl⟩
  go_wp2_with fail
  go_ret
  refine ⟨rfl, ?_⟩
  refine ⟨rfl, rfl, rfl, ?_, fun i hi => ?_⟩
  · simp [Sort.grow, World.drewN]
  · simp only [Sort.grow, World.drewN]
    exact Array.getElem?_append_left hi
theorem decDigits_all (u : Nat) : (Lib.decDigits u).all digB = true := by
  induction u using Nat.strongRecOn with
  | _ u ih =>
    by_cases h : u < 10
    · rw [Lib.decDigits_one h]; simp [digB]; omega
    · rw [Lib.decDigits, dif_neg h, List.all_append, ih (u / 10) (by omega)]; simp [digB]; omega
theorem decDigits_num (u : Nat) : numL (Lib.decDigits u) = u := by
  induction u using Nat.strongRecOn with
  | _ u ih =>
    by_cases h : u < 10
    · rw [Lib.decDigits_one h]; simp [numL]; omega
    · rw [Lib.decDigits, dif_neg h, numL_snoc, ih (u / 10) (by omega)]; simp; omega
end Go.Proofs.YthbdeafbdmbabaaGreatDoor
