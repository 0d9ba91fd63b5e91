/- Texts behind a law of this seat, in order: Quad4, Quad5. -/
import Derived.Test.YthbdeafbdmbabaaGreatDoorPa
import Derived.Test.YthbdeafbdmbabaaGreatDoorPb
import Derived.Test.YthbdeafbdmbabaaGreatDoorPc
import Derived.Test.YthbdeafbdmbabaaGreatDoorPd
import Derived.Test.YthbdeafbdmbabaaGreatDoorPe
import Derived.Test.YthbdeafbdmbabaaGreatDoorPf
import Derived.Test.YthbdeafbdmbabaaGreatDoorPg
import Derived.Test.YthbdeafbdmbabaaGreatDoorPh
import Derived.Test.YthbdeafbdmbabaaGreatDoorPi
import Derived.Test.YthbdeafbdmbabaaGreatDoorPm
import Derived.Test.YthbdeafbdmbabaaGreatDoorPn
import Derived.Test.YthbdeafbdmbabaaGreatDoorPo
import Derived.Test.YthbdeafbdmbabaaGreatDoorPp
import Derived.Below
import Derived.BigQuiet
import Derived.ChangeSlices
import Derived.Deep.AppendLies
import Derived.Deep.Draws
import Derived.Deep.QuietTactic
import Derived.Deep.RegionLaw
import Derived.Great.Ranges
import Derived.Handed
import Derived.Laws.BitsAllLaws
import Derived.Laws.OwnMore
import Derived.Laws.Rows
import Derived.Laws.StructEq
import Derived.Lib.Bytealg
import Derived.Lib.Hide
import Derived.Lib.ItoaNum
import Derived.Lib.Join
import Derived.Lib.Split
import Derived.Lib.SplitLaws
import Derived.Lib.Strings
import Derived.OpenShut
import Derived.Shelf.LaysM
import Derived.Shelf.Small.Bits
import Derived.Shelf.Small.Strs
import Derived.Shelf.Strconv.Itoa0
import Derived.Shelf.Strconv.Itoa1
import Derived.Shelf.Strconv.Itoa2
import Derived.Shelf.Strconv.Itoa3
import Derived.Shelf.Strings.Builder1
import Derived.Shelf.Strings.Builder2
import Derived.Shelf.Strings.Builder2Cap
import Derived.Shelf.Strings.BuilderCap
import Derived.Shelf.Strings.BuilderF
import Derived.Shelf.Strings.BuilderK
import Derived.Shelf.Strings.Count
import Derived.Shelf.Strings.Cut
import Derived.Shelf.Strings.OnBuilder
import Derived.Shelf.Strings.Prefix
import Derived.Shelf.Strings.Search1
import Derived.Shelf.Strings.Search2
import Derived.Shelf.Strings.Search3
import Derived.Shelf.Strings.Shaped
import Derived.Shelf.Strings.Split
import Derived.Shelf.Strings.SplitShaped
import Derived.Shelf.Unicode.Decode
import Derived.Shelf.Unicode.DecodeAny
import Derived.Shelf.Unicode.DecodeSlow
import Derived.SizedLaws
import Derived.SliceStrings
import Derived.Stop.BytesEq
import Derived.Test.YthbdeafbdmbabaaGreatDoorProg
import Derived.WalkKit
import Derived.WalkLawsBesides
import Derived.WalkSpells
namespace Go.Proofs.YthbdeafbdmbabaaGreatDoor
open Go.RowKit Go
set_option linter.unusedVariables false
theorem or_mulN (a b i m : Nat) (hm : m = 2 ^ i) (h : a < m) : a ||| (b * m) = a + b * m := by
  subst hm
  rw [Nat.or_comm, ← Nat.shiftLeft_eq, ← Nat.shiftLeft_add_eq_or_of_lt h, Nat.add_comm]
theorem or_mid (lo b H p q P Q : Nat) (hP : P = 2 ^ p) (hQ : Q = 2 ^ q) (h1 : lo < P) (h2 : lo + b * P < Q) : (lo + H * Q) ||| (b * P) = lo + b * P + H * Q := by
  have e1 := or_mulN lo H q Q hQ (by omega)
  have e2 := or_mulN lo b p P hP h1
  have e3 := or_mulN (lo + b * P) H q Q hQ h2
  rw [← e1, Nat.or_assoc, Nat.or_comm (H * Q), ← Nat.or_assoc, e2, e3]
theorem or64 (n m r : Nat) (h : n ||| m = r) (h1 : n < 18446744073709551616) (h2 : m < 18446744073709551616) : bits BinOp.or IntKind.u64 (n : Int) (m : Int) = (r : Nat) := by
  rw [u64_or_nat n m h1 h2, h]
def adTup (r : AdR) : Value := .tuple #[adV r.fam r.ip 0, .int .i64 r.err]
theorem ret_bytes {v a b c d : Int} (ha : a = v / 16777216 % 256) (hb : b = v / 65536 % 256) (hc : c = v / 256 % 256) (hd : d = v % 256) {n : Nat} (hn : (n : Int) = v) (w : World) :
    Calls Tryz.prog 29 #[.int .u8 a, .int .u8 b, .int .u8 c, .int .u8 d] w fun e w' => e = .returned (adV 4 (quadN n) 0) ∧ Below w.heap.size w w' := by
  have h := of_any (byN n 24) (byN n 16) (byN n 8) (byN n 0) w
  simp only [byN_toNat] at h
  have e1 : (((n / 2 ^ 24 % 256 : Nat)) : Int) = a := by omega
  have e2 : (((n / 2 ^ 16 % 256 : Nat)) : Int) = b := by omega
  have e3 : (((n / 2 ^ 8 % 256 : Nat)) : Int) = c := by omega
  have e4 : (((n / 2 ^ 0 % 256 : Nat)) : Int) = d := by omega
  rw [e1, e2, e3, e4] at h
  exact h
set_option maxRecDepth 100000 in
set_option maxHeartbeats 1000000 in
theorem address4 (g c a b x v : Nat) (w : World) (h0 : w.cell? ⟨g, 0, none⟩ = some (.int .u64 a)) (h1 : w.cell? ⟨g, 1, none⟩ = some (.int .u64 b)) (h2 : w.cell? ⟨g, 2, none⟩ = some (.int .u64 x)) (h3 : w.cell? ⟨g, 3, none⟩ = some (.int .u64 v)) (hc : 4 ≤ c) (b0 : a ≤ 4294967296) (b1 : b ≤ 4294967296) (b2 : x ≤ 4294967296) (b3 : v ≤ 4294967296) :
    Calls Tryz.prog 92 #[.slice (some ⟨g, 0, none⟩) 4 c] w fun e w' => e = .returned (adTup (adR (adrE [a, b, x, v]) 4)) ∧ Below w.heap.size w w' := by
  have S := Ats.start w
  by_cases k0 : v < 256
  · have k0' : decide ((256 : Int) ≤ (v : Int)) = false := by rw [decide_eq_false_iff_not]; omega
    have K0 := Lib.hid k0
    clear k0
    go_enter Tryz.func92, Tryz.ntmps92
    go_wp2_with (first | ((with_reducible show wpList _ _ _ (Oper.mk _ (Op.load _ _) _ _ _ _ :: _) _ _); refine wpList_oldS rfl _ _ rfl S _ rfl _ (by with_reducible first | exact h0 | exact h1 | exact h2 | exact h3) _ Tryz.underlying70 rfl ?_) | ((with_reducible show wpList _ _ _ (Oper.mk _ (Op.alloc _) _ _ _ _ :: _) _ _); refine wpList_allocS rfl _ rfl _ adZero S ?_; clear S; intro g w1 S) | ((with_reducible show wpList _ _ _ (Oper.mk _ (Op.store _ _ _) _ _ _ _ :: _) _ _); refine wpList_storeS rfl _ _ _ rfl S _ rfl _ rfl 0 _ _ rfl adInfo (by rfl) (by first | exact adCs_one _ _ _ | simp [Value.oneCell']) ?_; clear S; intro w1 S; (first | simp only [List.set_cons_zero] at S | simp only [List.set_cons_succ, List.set_cons_zero] at S | skip)))
    go_loop [5, 25] (fun s i => ∃ k n : Nat, i = .int .i64 k ∧ s = .int .u64 n ∧ ((k = 0 ∧ n = v) ∨ (k = 1 ∧ a ≤ 255 ∧ n = v + a * 16777216) ∨ (k = 2 ∧ a ≤ 255 ∧ b ≤ 255 ∧ n = v + a * 16777216 + b * 65536) ∨ (k = 3 ∧ a ≤ 255 ∧ b ≤ 255 ∧ x ≤ 255 ∧ n = v + a * 16777216 + b * 65536 + x * 256))) (fun _ i => 3 - (intOf i).toNat)
    case atStart => exact ⟨0, v, rfl, rfl, .inl ⟨rfl, rfl⟩⟩
    case round =>
      obtain ⟨k, n, rfl, rfl, hr⟩ := hrel
      have k0 := K0.out
      rcases hr with ⟨rfl, hn⟩ | ⟨rfl, k1, hn⟩ | ⟨rfl, k1, k2, hn⟩ | ⟨rfl, k1, k2, k3, hn⟩
      · by_cases kk : a ≤ 255
        · have ho := or64 (v + 0 * 4294967296) (a * 16777216) _ (or_mid v a 0 24 32 16777216 4294967296 rfl rfl (by omega) (by omega)) (by omega) (by omega)
          rw [show (v + 0 * 4294967296) = n by omega] at ho
          have hv : ((a * 16777216 : Nat) : Int) = (a : Int) * 16777216 := by omega
          rw [hv] at ho
          have HO := Lib.hid ho
          have HN := Lib.hid hn
          clear ho hv hn k0
          go_wp2_with (first | ((with_reducible show wpList _ _ _ (Oper.mk _ (Op.load _ _) _ _ _ _ :: _) _ _); refine wpList_oldS rfl _ _ rfl S _ rfl _ (by with_reducible first | exact h0 | exact h1 | exact h2 | exact h3) _ Tryz.underlying70 rfl ?_) | ((with_reducible show wpList _ _ _ (Oper.mk _ (Op.store _ _ _) _ _ _ _ :: _) _ _); refine wpList_storeS rfl _ _ _ rfl S _ rfl _ rfl 0 _ _ rfl adInfo (by rfl) (by first | exact adCs_one _ _ _ | simp [Value.oneCell']) ?_; clear S; intro w1 S; (first | simp only [List.set_cons_zero] at S | simp only [List.set_cons_succ, List.set_cons_zero] at S | skip)))
          go_round
          case rel => exact ⟨1, _, rfl, ret_v HO.out, .inr (.inl ⟨rfl, kk, by have := HN.out; omega⟩)⟩
          case measure => simp [intOf]
        · have he : adrE [a, b, x, v] = none := by simp [adrE, adrB]; omega
          have HE := Lib.hid he
          clear he hn k0
          go_wp2_with (first | ((with_reducible show wpList _ _ _ (Oper.mk _ (Op.load _ _) _ _ _ _ :: _) _ _); refine wpList_oldS rfl _ _ rfl S _ rfl _ (by with_reducible first | exact h0 | exact h1 | exact h2 | exact h3) _ Tryz.underlying70 rfl ?_) | ((with_reducible show wpList _ _ _ (Oper.mk _ (Op.store _ _ _) _ _ _ _ :: _) _ _); refine wpList_storeS rfl _ _ _ rfl S _ rfl _ rfl 0 _ _ rfl adInfo (by rfl) (by first | exact adCs_one _ _ _ | simp [Value.oneCell']) ?_; clear S; intro w1 S; (first | simp only [List.set_cons_zero] at S | simp only [List.set_cons_succ, List.set_cons_zero] at S | skip)))
          exact bodyPost_ret (results_cell2S rfl _ S _ 0 _ _ _ rfl rfl Tryz.underlying24 rfl adInfo) rfl ⟨by rw [HE.out]; rfl, S.below⟩
      · by_cases kk : b ≤ 255
        · have ho := or64 (v + a * 16777216) (b * 65536) _ (or_mid v b a 16 24 65536 16777216 rfl rfl (by omega) (by omega)) (by omega) (by omega)
          rw [show (v + a * 16777216) = n by omega] at ho
          have hv : ((b * 65536 : Nat) : Int) = (b : Int) * 65536 := by omega
          rw [hv] at ho
          have HO := Lib.hid ho
          have HN := Lib.hid hn
          clear ho hv hn k0
          go_wp2_with (first | ((with_reducible show wpList _ _ _ (Oper.mk _ (Op.load _ _) _ _ _ _ :: _) _ _); refine wpList_oldS rfl _ _ rfl S _ rfl _ (by with_reducible first | exact h0 | exact h1 | exact h2 | exact h3) _ Tryz.underlying70 rfl ?_) | ((with_reducible show wpList _ _ _ (Oper.mk _ (Op.store _ _ _) _ _ _ _ :: _) _ _); refine wpList_storeS rfl _ _ _ rfl S _ rfl _ rfl 0 _ _ rfl adInfo (by rfl) (by first | exact adCs_one _ _ _ | simp [Value.oneCell']) ?_; clear S; intro w1 S; (first | simp only [List.set_cons_zero] at S | simp only [List.set_cons_succ, List.set_cons_zero] at S | skip)))
          go_round
          case rel => exact ⟨2, _, rfl, ret_v HO.out, .inr (.inr (.inl ⟨rfl, k1, kk, by have := HN.out; omega⟩))⟩
          case measure => simp [intOf]
        · have he : adrE [a, b, x, v] = none := by simp [adrE, adrB]; omega
          have HE := Lib.hid he
          clear he hn k0
          go_wp2_with (first | ((with_reducible show wpList _ _ _ (Oper.mk _ (Op.load _ _) _ _ _ _ :: _) _ _); refine wpList_oldS rfl _ _ rfl S _ rfl _ (by with_reducible first | exact h0 | exact h1 | exact h2 | exact h3) _ Tryz.underlying70 rfl ?_) | ((with_reducible show wpList _ _ _ (Oper.mk _ (Op.store _ _ _) _ _ _ _ :: _) _ _); refine wpList_storeS rfl _ _ _ rfl S _ rfl _ rfl 0 _ _ rfl adInfo (by rfl) (by first | exact adCs_one _ _ _ | simp [Value.oneCell']) ?_; clear S; intro w1 S; (first | simp only [List.set_cons_zero] at S | simp only [List.set_cons_succ, List.set_cons_zero] at S | skip)))
          exact bodyPost_ret (results_cell2S rfl _ S _ 0 _ _ _ rfl rfl Tryz.underlying24 rfl adInfo) rfl ⟨by rw [HE.out]; rfl, S.below⟩
      · by_cases kk : x ≤ 255
        · have ho := or64 (v + (a * 256 + b) * 65536) (x * 256) _ (or_mid v x (a * 256 + b) 8 16 256 65536 rfl rfl (by omega) (by omega)) (by omega) (by omega)
          rw [show (v + (a * 256 + b) * 65536) = n by omega] at ho
          have hv : ((x * 256 : Nat) : Int) = (x : Int) * 256 := by omega
          rw [hv] at ho
          have HO := Lib.hid ho
          have HN := Lib.hid hn
          clear ho hv hn k0
          go_wp2_with (first | ((with_reducible show wpList _ _ _ (Oper.mk _ (Op.load _ _) _ _ _ _ :: _) _ _); refine wpList_oldS rfl _ _ rfl S _ rfl _ (by with_reducible first | exact h0 | exact h1 | exact h2 | exact h3) _ Tryz.underlying70 rfl ?_) | ((with_reducible show wpList _ _ _ (Oper.mk _ (Op.store _ _ _) _ _ _ _ :: _) _ _); refine wpList_storeS rfl _ _ _ rfl S _ rfl _ rfl 0 _ _ rfl adInfo (by rfl) (by first | exact adCs_one _ _ _ | simp [Value.oneCell']) ?_; clear S; intro w1 S; (first | simp only [List.set_cons_zero] at S | simp only [List.set_cons_succ, List.set_cons_zero] at S | skip)))
          go_round
          case rel => exact ⟨3, _, rfl, ret_v HO.out, .inr (.inr (.inr (⟨rfl, k1, k2, kk, by have := HN.out; omega⟩)))⟩
          case measure => simp [intOf]
        · have he : adrE [a, b, x, v] = none := by simp [adrE, adrB]; omega
          have HE := Lib.hid he
          clear he hn k0
          go_wp2_with (first | ((with_reducible show wpList _ _ _ (Oper.mk _ (Op.load _ _) _ _ _ _ :: _) _ _); refine wpList_oldS rfl _ _ rfl S _ rfl _ (by with_reducible first | exact h0 | exact h1 | exact h2 | exact h3) _ Tryz.underlying70 rfl ?_) | ((with_reducible show wpList _ _ _ (Oper.mk _ (Op.store _ _ _) _ _ _ _ :: _) _ _); refine wpList_storeS rfl _ _ _ rfl S _ rfl _ rfl 0 _ _ rfl adInfo (by rfl) (by first | exact adCs_one _ _ _ | simp [Value.oneCell']) ?_; clear S; intro w1 S; (first | simp only [List.set_cons_zero] at S | simp only [List.set_cons_succ, List.set_cons_zero] at S | skip)))
          exact bodyPost_ret (results_cell2S rfl _ S _ 0 _ _ _ rfl rfl Tryz.underlying24 rfl adInfo) rfl ⟨by rw [HE.out]; rfl, S.below⟩
      · have he : adrE [a, b, x, v] = some (quadN n) := by
          have e1 : adrB [a, b, x, v] = true := by simp [adrB]; omega
          have e2 : adrV [a, b, x, v] = n := by simp only [adrV]; omega
          rw [adrE, if_pos e1, e2]
        have hn2 : n < 4294967296 := by omega
        have HE := Lib.hid he
        clear he hn k0
        go_wp2_with (first | ((with_reducible refine (ret_bytes (v := (n : Int)) (by omega) (by omega) (by omega) (by omega) (n := n) rfl _).mono ?_); rintro e w2 ⟨rfl, hb⟩; have S := S.call hb; clear hb) | ((with_reducible show wpList _ _ _ (Oper.mk _ (Op.load _ _) _ _ _ _ :: _) _ _); refine wpList_oldS rfl _ _ rfl S _ rfl _ (by with_reducible first | exact h0 | exact h1 | exact h2 | exact h3) _ Tryz.underlying70 rfl ?_) | ((with_reducible show wpList _ _ _ (Oper.mk _ (Op.store _ _ _) _ _ _ _ :: _) _ _); refine wpList_storeS rfl _ _ _ rfl S _ rfl _ rfl 0 _ _ rfl adInfo (by rfl) (by first | exact adCs_one _ _ _ | simp [Value.oneCell']) ?_; clear S; intro w1 S; (first | simp only [List.set_cons_zero] at S | simp only [List.set_cons_succ, List.set_cons_zero] at S | skip)))
        exact bodyPost_ret (results_cell2S rfl _ S _ 0 _ _ _ rfl rfl Tryz.underlying24 rfl adInfo) rfl ⟨by rw [HE.out]; rfl, S.below⟩
  · have he : adrE [a, b, x, v] = none := by simp [adrE, adrB]; omega
    have HE := Lib.hid he
    have k0' : decide ((256 : Int) ≤ (v : Int)) = true := by rw [decide_eq_true_eq]; omega
    clear he k0
    go_enter Tryz.func92, Tryz.ntmps92
    go_wp2_with (first | ((with_reducible show wpList _ _ _ (Oper.mk _ (Op.load _ _) _ _ _ _ :: _) _ _); refine wpList_oldS rfl _ _ rfl S _ rfl _ (by with_reducible first | exact h0 | exact h1 | exact h2 | exact h3) _ Tryz.underlying70 rfl ?_) | ((with_reducible show wpList _ _ _ (Oper.mk _ (Op.alloc _) _ _ _ _ :: _) _ _); refine wpList_allocS rfl _ rfl _ adZero S ?_; clear S; intro g w1 S) | ((with_reducible show wpList _ _ _ (Oper.mk _ (Op.store _ _ _) _ _ _ _ :: _) _ _); refine wpList_storeS rfl _ _ _ rfl S _ rfl _ rfl 0 _ _ rfl adInfo (by rfl) (by first | exact adCs_one _ _ _ | simp [Value.oneCell']) ?_; clear S; intro w1 S; (first | simp only [List.set_cons_zero] at S | simp only [List.set_cons_succ, List.set_cons_zero] at S | skip)))
    exact bodyPost_ret (results_cell2S rfl _ S _ 0 _ _ _ rfl rfl Tryz.underlying24 rfl adInfo) rfl ⟨by rw [HE.out]; rfl, S.below⟩
set_option maxRecDepth 100000 in
set_option maxHeartbeats 1000000 in
theorem address3 (g c a b v : Nat) (w : World) (h0 : w.cell? ⟨g, 0, none⟩ = some (.int .u64 a)) (h1 : w.cell? ⟨g, 1, none⟩ = some (.int .u64 b)) (h2 : w.cell? ⟨g, 2, none⟩ = some (.int .u64 v)) (hc : 3 ≤ c) (b0 : a ≤ 4294967296) (b1 : b ≤ 4294967296) (b2 : v ≤ 4294967296) :
    Calls Tryz.prog 92 #[.slice (some ⟨g, 0, none⟩) 3 c] w fun e w' => e = .returned (adTup (adR (adrE [a, b, v]) 4)) ∧ Below w.heap.size w w' := by
  have S := Ats.start w
  by_cases k0 : v < 65536
  · have k0' : decide ((65536 : Int) ≤ (v : Int)) = false := by rw [decide_eq_false_iff_not]; omega
    have K0 := Lib.hid k0
    clear k0
    go_enter Tryz.func92, Tryz.ntmps92
    go_wp2_with (first | ((with_reducible show wpList _ _ _ (Oper.mk _ (Op.load _ _) _ _ _ _ :: _) _ _); refine wpList_oldS rfl _ _ rfl S _ rfl _ (by with_reducible first | exact h0 | exact h1 | exact h2) _ Tryz.underlying70 rfl ?_) | ((with_reducible show wpList _ _ _ (Oper.mk _ (Op.alloc _) _ _ _ _ :: _) _ _); refine wpList_allocS rfl _ rfl _ adZero S ?_; clear S; intro g w1 S) | ((with_reducible show wpList _ _ _ (Oper.mk _ (Op.store _ _ _) _ _ _ _ :: _) _ _); refine wpList_storeS rfl _ _ _ rfl S _ rfl _ rfl 0 _ _ rfl adInfo (by rfl) (by first | exact adCs_one _ _ _ | simp [Value.oneCell']) ?_; clear S; intro w1 S; (first | simp only [List.set_cons_zero] at S | simp only [List.set_cons_succ, List.set_cons_zero] at S | skip)))
    go_loop [5, 25] (fun s i => ∃ k n : Nat, i = .int .i64 k ∧ s = .int .u64 n ∧ ((k = 0 ∧ n = v) ∨ (k = 1 ∧ a ≤ 255 ∧ n = v + a * 16777216) ∨ (k = 2 ∧ a ≤ 255 ∧ b ≤ 255 ∧ n = v + a * 16777216 + b * 65536))) (fun _ i => 2 - (intOf i).toNat)
    case atStart => exact ⟨0, v, rfl, rfl, .inl ⟨rfl, rfl⟩⟩
    case round =>
      obtain ⟨k, n, rfl, rfl, hr⟩ := hrel
      have k0 := K0.out
      rcases hr with ⟨rfl, hn⟩ | ⟨rfl, k1, hn⟩ | ⟨rfl, k1, k2, hn⟩
      · by_cases kk : a ≤ 255
        · have ho := or64 (v + 0 * 4294967296) (a * 16777216) _ (or_mid v a 0 24 32 16777216 4294967296 rfl rfl (by omega) (by omega)) (by omega) (by omega)
          rw [show (v + 0 * 4294967296) = n by omega] at ho
          have hv : ((a * 16777216 : Nat) : Int) = (a : Int) * 16777216 := by omega
          rw [hv] at ho
          have HO := Lib.hid ho
          have HN := Lib.hid hn
          clear ho hv hn k0
          go_wp2_with (first | ((with_reducible show wpList _ _ _ (Oper.mk _ (Op.load _ _) _ _ _ _ :: _) _ _); refine wpList_oldS rfl _ _ rfl S _ rfl _ (by with_reducible first | exact h0 | exact h1 | exact h2) _ Tryz.underlying70 rfl ?_) | ((with_reducible show wpList _ _ _ (Oper.mk _ (Op.store _ _ _) _ _ _ _ :: _) _ _); refine wpList_storeS rfl _ _ _ rfl S _ rfl _ rfl 0 _ _ rfl adInfo (by rfl) (by first | exact adCs_one _ _ _ | simp [Value.oneCell']) ?_; clear S; intro w1 S; (first | simp only [List.set_cons_zero] at S | simp only [List.set_cons_succ, List.set_cons_zero] at S | skip)))
          go_round
          case rel => exact ⟨1, _, rfl, ret_v HO.out, .inr (.inl ⟨rfl, kk, by have := HN.out; omega⟩)⟩
          case measure => simp [intOf]
        · have he : adrE [a, b, v] = none := by simp [adrE, adrB]; omega
          have HE := Lib.hid he
          clear he hn k0
          go_wp2_with (first | ((with_reducible show wpList _ _ _ (Oper.mk _ (Op.load _ _) _ _ _ _ :: _) _ _); refine wpList_oldS rfl _ _ rfl S _ rfl _ (by with_reducible first | exact h0 | exact h1 | exact h2) _ Tryz.underlying70 rfl ?_) | ((with_reducible show wpList _ _ _ (Oper.mk _ (Op.store _ _ _) _ _ _ _ :: _) _ _); refine wpList_storeS rfl _ _ _ rfl S _ rfl _ rfl 0 _ _ rfl adInfo (by rfl) (by first | exact adCs_one _ _ _ | simp [Value.oneCell']) ?_; clear S; intro w1 S; (first | simp only [List.set_cons_zero] at S | simp only [List.set_cons_succ, List.set_cons_zero] at S | skip)))
          exact bodyPost_ret (results_cell2S rfl _ S _ 0 _ _ _ rfl rfl Tryz.underlying24 rfl adInfo) rfl ⟨by rw [HE.out]; rfl, S.below⟩
      · by_cases kk : b ≤ 255
        · have ho := or64 (v + a * 16777216) (b * 65536) _ (or_mid v b a 16 24 65536 16777216 rfl rfl (by omega) (by omega)) (by omega) (by omega)
          rw [show (v + a * 16777216) = n by omega] at ho
          have hv : ((b * 65536 : Nat) : Int) = (b : Int) * 65536 := by omega
          rw [hv] at ho
          have HO := Lib.hid ho
          have HN := Lib.hid hn
          clear ho hv hn k0
          go_wp2_with (first | ((with_reducible show wpList _ _ _ (Oper.mk _ (Op.load _ _) _ _ _ _ :: _) _ _); refine wpList_oldS rfl _ _ rfl S _ rfl _ (by with_reducible first | exact h0 | exact h1 | exact h2) _ Tryz.underlying70 rfl ?_) | ((with_reducible show wpList _ _ _ (Oper.mk _ (Op.store _ _ _) _ _ _ _ :: _) _ _); refine wpList_storeS rfl _ _ _ rfl S _ rfl _ rfl 0 _ _ rfl adInfo (by rfl) (by first | exact adCs_one _ _ _ | simp [Value.oneCell']) ?_; clear S; intro w1 S; (first | simp only [List.set_cons_zero] at S | simp only [List.set_cons_succ, List.set_cons_zero] at S | skip)))
          go_round
          case rel => exact ⟨2, _, rfl, ret_v HO.out, .inr (.inr (⟨rfl, k1, kk, by have := HN.out; omega⟩))⟩
          case measure => simp [intOf]
        · have he : adrE [a, b, v] = none := by simp [adrE, adrB]; omega
          have HE := Lib.hid he
          clear he hn k0
          go_wp2_with (first | ((with_reducible show wpList _ _ _ (Oper.mk _ (Op.load _ _) _ _ _ _ :: _) _ _); refine wpList_oldS rfl _ _ rfl S _ rfl _ (by with_reducible first | exact h0 | exact h1 | exact h2) _ Tryz.underlying70 rfl ?_) | ((with_reducible show wpList _ _ _ (Oper.mk _ (Op.store _ _ _) _ _ _ _ :: _) _ _); refine wpList_storeS rfl _ _ _ rfl S _ rfl _ rfl 0 _ _ rfl adInfo (by rfl) (by first | exact adCs_one _ _ _ | simp [Value.oneCell']) ?_; clear S; intro w1 S; (first | simp only [List.set_cons_zero] at S | simp only [List.set_cons_succ, List.set_cons_zero] at S | skip)))
          exact bodyPost_ret (results_cell2S rfl _ S _ 0 _ _ _ rfl rfl Tryz.underlying24 rfl adInfo) rfl ⟨by rw [HE.out]; rfl, S.below⟩
      · have he : adrE [a, b, v] = some (quadN n) := by
          have e1 : adrB [a, b, v] = true := by simp [adrB]; omega
          have e2 : adrV [a, b, v] = n := by simp only [adrV]; omega
          rw [adrE, if_pos e1, e2]
        have hn2 : n < 4294967296 := by omega
        have HE := Lib.hid he
        clear he hn k0
        go_wp2_with (first | ((with_reducible refine (ret_bytes (v := (n : Int)) (by omega) (by omega) (by omega) (by omega) (n := n) rfl _).mono ?_); rintro e w2 ⟨rfl, hb⟩; have S := S.call hb; clear hb) | ((with_reducible show wpList _ _ _ (Oper.mk _ (Op.load _ _) _ _ _ _ :: _) _ _); refine wpList_oldS rfl _ _ rfl S _ rfl _ (by with_reducible first | exact h0 | exact h1 | exact h2) _ Tryz.underlying70 rfl ?_) | ((with_reducible show wpList _ _ _ (Oper.mk _ (Op.store _ _ _) _ _ _ _ :: _) _ _); refine wpList_storeS rfl _ _ _ rfl S _ rfl _ rfl 0 _ _ rfl adInfo (by rfl) (by first | exact adCs_one _ _ _ | simp [Value.oneCell']) ?_; clear S; intro w1 S; (first | simp only [List.set_cons_zero] at S | simp only [List.set_cons_succ, List.set_cons_zero] at S | skip)))
        exact bodyPost_ret (results_cell2S rfl _ S _ 0 _ _ _ rfl rfl Tryz.underlying24 rfl adInfo) rfl ⟨by rw [HE.out]; rfl, S.below⟩
  · have he : adrE [a, b, v] = none := by simp [adrE, adrB]; omega
    have HE := Lib.hid he
    have k0' : decide ((65536 : Int) ≤ (v : Int)) = true := by rw [decide_eq_true_eq]; omega
    clear he k0
    go_enter Tryz.func92, Tryz.ntmps92
    go_wp2_with (first | ((with_reducible show wpList _ _ _ (Oper.mk _ (Op.load _ _) _ _ _ _ :: _) _ _); refine wpList_oldS rfl _ _ rfl S _ rfl _ (by with_reducible first | exact h0 | exact h1 | exact h2) _ Tryz.underlying70 rfl ?_) | ((with_reducible show wpList _ _ _ (Oper.mk _ (Op.alloc _) _ _ _ _ :: _) _ _); refine wpList_allocS rfl _ rfl _ adZero S ?_; clear S; intro g w1 S) | ((with_reducible show wpList _ _ _ (Oper.mk _ (Op.store _ _ _) _ _ _ _ :: _) _ _); refine wpList_storeS rfl _ _ _ rfl S _ rfl _ rfl 0 _ _ rfl adInfo (by rfl) (by first | exact adCs_one _ _ _ | simp [Value.oneCell']) ?_; clear S; intro w1 S; (first | simp only [List.set_cons_zero] at S | simp only [List.set_cons_succ, List.set_cons_zero] at S | skip)))
    exact bodyPost_ret (results_cell2S rfl _ S _ 0 _ _ _ rfl rfl Tryz.underlying24 rfl adInfo) rfl ⟨by rw [HE.out]; rfl, S.below⟩
set_option maxRecDepth 100000 in
set_option maxHeartbeats 1000000 in
theorem address2 (g c a v : Nat) (w : World) (h0 : w.cell? ⟨g, 0, none⟩ = some (.int .u64 a)) (h1 : w.cell? ⟨g, 1, none⟩ = some (.int .u64 v)) (hc : 2 ≤ c) (b0 : a ≤ 4294967296) (b1 : v ≤ 4294967296) :
    Calls Tryz.prog 92 #[.slice (some ⟨g, 0, none⟩) 2 c] w fun e w' => e = .returned (adTup (adR (adrE [a, v]) 4)) ∧ Below w.heap.size w w' := by
  have S := Ats.start w
  by_cases k0 : v < 16777216
  · have k0' : decide ((16777216 : Int) ≤ (v : Int)) = false := by rw [decide_eq_false_iff_not]; omega
    have K0 := Lib.hid k0
    clear k0
    go_enter Tryz.func92, Tryz.ntmps92
    go_wp2_with (first | ((with_reducible show wpList _ _ _ (Oper.mk _ (Op.load _ _) _ _ _ _ :: _) _ _); refine wpList_oldS rfl _ _ rfl S _ rfl _ (by with_reducible first | exact h0 | exact h1) _ Tryz.underlying70 rfl ?_) | ((with_reducible show wpList _ _ _ (Oper.mk _ (Op.alloc _) _ _ _ _ :: _) _ _); refine wpList_allocS rfl _ rfl _ adZero S ?_; clear S; intro g w1 S) | ((with_reducible show wpList _ _ _ (Oper.mk _ (Op.store _ _ _) _ _ _ _ :: _) _ _); refine wpList_storeS rfl _ _ _ rfl S _ rfl _ rfl 0 _ _ rfl adInfo (by rfl) (by first | exact adCs_one _ _ _ | simp [Value.oneCell']) ?_; clear S; intro w1 S; (first | simp only [List.set_cons_zero] at S | simp only [List.set_cons_succ, List.set_cons_zero] at S | skip)))
    go_loop [5, 25] (fun s i => ∃ k n : Nat, i = .int .i64 k ∧ s = .int .u64 n ∧ ((k = 0 ∧ n = v) ∨ (k = 1 ∧ a ≤ 255 ∧ n = v + a * 16777216))) (fun _ i => 1 - (intOf i).toNat)
    case atStart => exact ⟨0, v, rfl, rfl, .inl ⟨rfl, rfl⟩⟩
    case round =>
      obtain ⟨k, n, rfl, rfl, hr⟩ := hrel
      have k0 := K0.out
      rcases hr with ⟨rfl, hn⟩ | ⟨rfl, k1, hn⟩
      · by_cases kk : a ≤ 255
        · have ho := or64 (v + 0 * 4294967296) (a * 16777216) _ (or_mid v a 0 24 32 16777216 4294967296 rfl rfl (by omega) (by omega)) (by omega) (by omega)
          rw [show (v + 0 * 4294967296) = n by omega] at ho
          have hv : ((a * 16777216 : Nat) : Int) = (a : Int) * 16777216 := by omega
          rw [hv] at ho
          have HO := Lib.hid ho
          have HN := Lib.hid hn
          clear ho hv hn k0
          go_wp2_with (first | ((with_reducible show wpList _ _ _ (Oper.mk _ (Op.load _ _) _ _ _ _ :: _) _ _); refine wpList_oldS rfl _ _ rfl S _ rfl _ (by with_reducible first | exact h0 | exact h1) _ Tryz.underlying70 rfl ?_) | ((with_reducible show wpList _ _ _ (Oper.mk _ (Op.store _ _ _) _ _ _ _ :: _) _ _); refine wpList_storeS rfl _ _ _ rfl S _ rfl _ rfl 0 _ _ rfl adInfo (by rfl) (by first | exact adCs_one _ _ _ | simp [Value.oneCell']) ?_; clear S; intro w1 S; (first | simp only [List.set_cons_zero] at S | simp only [List.set_cons_succ, List.set_cons_zero] at S | skip)))
          go_round
          case rel => exact ⟨1, _, rfl, ret_v HO.out, .inr (⟨rfl, kk, by have := HN.out; omega⟩)⟩
          case measure => simp [intOf]
        · have he : adrE [a, v] = none := by simp [adrE, adrB]; omega
          have HE := Lib.hid he
          clear he hn k0
          go_wp2_with (first | ((with_reducible show wpList _ _ _ (Oper.mk _ (Op.load _ _) _ _ _ _ :: _) _ _); refine wpList_oldS rfl _ _ rfl S _ rfl _ (by with_reducible first | exact h0 | exact h1) _ Tryz.underlying70 rfl ?_) | ((with_reducible show wpList _ _ _ (Oper.mk _ (Op.store _ _ _) _ _ _ _ :: _) _ _); refine wpList_storeS rfl _ _ _ rfl S _ rfl _ rfl 0 _ _ rfl adInfo (by rfl) (by first | exact adCs_one _ _ _ | simp [Value.oneCell']) ?_; clear S; intro w1 S; (first | simp only [List.set_cons_zero] at S | simp only [List.set_cons_succ, List.set_cons_zero] at S | skip)))
          exact bodyPost_ret (results_cell2S rfl _ S _ 0 _ _ _ rfl rfl Tryz.underlying24 rfl adInfo) rfl ⟨by rw [HE.out]; rfl, S.below⟩
      · have he : adrE [a, v] = some (quadN n) := by
          have e1 : adrB [a, v] = true := by simp [adrB]; omega
          have e2 : adrV [a, v] = n := by simp only [adrV]; omega
          rw [adrE, if_pos e1, e2]
        have hn2 : n < 4294967296 := by omega
        have HE := Lib.hid he
        clear he hn k0
        go_wp2_with (first | ((with_reducible refine (ret_bytes (v := (n : Int)) (by omega) (by omega) (by omega) (by omega) (n := n) rfl _).mono ?_); rintro e w2 ⟨rfl, hb⟩; have S := S.call hb; clear hb) | ((with_reducible show wpList _ _ _ (Oper.mk _ (Op.load _ _) _ _ _ _ :: _) _ _); refine wpList_oldS rfl _ _ rfl S _ rfl _ (by with_reducible first | exact h0 | exact h1) _ Tryz.underlying70 rfl ?_) | ((with_reducible show wpList _ _ _ (Oper.mk _ (Op.store _ _ _) _ _ _ _ :: _) _ _); refine wpList_storeS rfl _ _ _ rfl S _ rfl _ rfl 0 _ _ rfl adInfo (by rfl) (by first | exact adCs_one _ _ _ | simp [Value.oneCell']) ?_; clear S; intro w1 S; (first | simp only [List.set_cons_zero] at S | simp only [List.set_cons_succ, List.set_cons_zero] at S | skip)))
        exact bodyPost_ret (results_cell2S rfl _ S _ 0 _ _ _ rfl rfl Tryz.underlying24 rfl adInfo) rfl ⟨by rw [HE.out]; rfl, S.below⟩
  · have he : adrE [a, v] = none := by simp [adrE, adrB]; omega
    have HE := Lib.hid he
    have k0' : decide ((16777216 : Int) ≤ (v : Int)) = true := by rw [decide_eq_true_eq]; omega
    clear he k0
    go_enter Tryz.func92, Tryz.ntmps92
    go_wp2_with (first | ((with_reducible show wpList _ _ _ (Oper.mk _ (Op.load _ _) _ _ _ _ :: _) _ _); refine wpList_oldS rfl _ _ rfl S _ rfl _ (by with_reducible first | exact h0 | exact h1) _ Tryz.underlying70 rfl ?_) | ((with_reducible show wpList _ _ _ (Oper.mk _ (Op.alloc _) _ _ _ _ :: _) _ _); refine wpList_allocS rfl _ rfl _ adZero S ?_; clear S; intro g w1 S) | ((with_reducible show wpList _ _ _ (Oper.mk _ (Op.store _ _ _) _ _ _ _ :: _) _ _); refine wpList_storeS rfl _ _ _ rfl S _ rfl _ rfl 0 _ _ rfl adInfo (by rfl) (by first | exact adCs_one _ _ _ | simp [Value.oneCell']) ?_; clear S; intro w1 S; (first | simp only [List.set_cons_zero] at S | simp only [List.set_cons_succ, List.set_cons_zero] at S | skip)))
    exact bodyPost_ret (results_cell2S rfl _ S _ 0 _ _ _ rfl rfl Tryz.underlying24 rfl adInfo) rfl ⟨by rw [HE.out]; rfl, S.below⟩
set_option maxRecDepth 100000 in
set_option maxHeartbeats 1000000 in
theorem address1 (g c v : Nat) (w : World) (h0 : w.cell? ⟨g, 0, none⟩ = some (.int .u64 v)) (hc : 1 ≤ c) (b0 : v ≤ 4294967296) :
    Calls Tryz.prog 92 #[.slice (some ⟨g, 0, none⟩) 1 c] w fun e w' => e = .returned (adTup (adR (adrE [v]) 4)) ∧ Below w.heap.size w w' := by
  have S := Ats.start w
  by_cases k0 : v < 4294967296
  · have k0' : decide ((4294967296 : Int) ≤ (v : Int)) = false := by rw [decide_eq_false_iff_not]; omega
    have K0 := Lib.hid k0
    clear k0
    go_enter Tryz.func92, Tryz.ntmps92
    go_wp2_with (first | ((with_reducible show wpList _ _ _ (Oper.mk _ (Op.load _ _) _ _ _ _ :: _) _ _); refine wpList_oldS rfl _ _ rfl S _ rfl _ (by with_reducible first | exact h0) _ Tryz.underlying70 rfl ?_) | ((with_reducible show wpList _ _ _ (Oper.mk _ (Op.alloc _) _ _ _ _ :: _) _ _); refine wpList_allocS rfl _ rfl _ adZero S ?_; clear S; intro g w1 S) | ((with_reducible show wpList _ _ _ (Oper.mk _ (Op.store _ _ _) _ _ _ _ :: _) _ _); refine wpList_storeS rfl _ _ _ rfl S _ rfl _ rfl 0 _ _ rfl adInfo (by rfl) (by first | exact adCs_one _ _ _ | simp [Value.oneCell']) ?_; clear S; intro w1 S; (first | simp only [List.set_cons_zero] at S | simp only [List.set_cons_succ, List.set_cons_zero] at S | skip)))
    go_loop [5, 25] (fun s i => ∃ k n : Nat, i = .int .i64 k ∧ s = .int .u64 n ∧ ((k = 0 ∧ n = v))) (fun _ i => 0 - (intOf i).toNat)
    case atStart => exact ⟨0, v, rfl, rfl, ⟨rfl, rfl⟩⟩
    case round =>
      obtain ⟨k, n, rfl, rfl, hr⟩ := hrel
      have k0 := K0.out
      obtain ⟨rfl, hn⟩ := hr
      have he : adrE [v] = some (quadN n) := by
        have e1 : adrB [v] = true := by simp [adrB]; omega
        have e2 : adrV [v] = n := by simp only [adrV]; omega
        rw [adrE, if_pos e1, e2]
      have hn2 : n < 4294967296 := by omega
      have HE := Lib.hid he
      clear he hn k0
      go_wp2_with (first | ((with_reducible refine (ret_bytes (v := (n : Int)) (by omega) (by omega) (by omega) (by omega) (n := n) rfl _).mono ?_); rintro e w2 ⟨rfl, hb⟩; have S := S.call hb; clear hb) | ((with_reducible show wpList _ _ _ (Oper.mk _ (Op.load _ _) _ _ _ _ :: _) _ _); refine wpList_oldS rfl _ _ rfl S _ rfl _ (by with_reducible first | exact h0) _ Tryz.underlying70 rfl ?_) | ((with_reducible show wpList _ _ _ (Oper.mk _ (Op.store _ _ _) _ _ _ _ :: _) _ _); refine wpList_storeS rfl _ _ _ rfl S _ rfl _ rfl 0 _ _ rfl adInfo (by rfl) (by first | exact adCs_one _ _ _ | simp [Value.oneCell']) ?_; clear S; intro w1 S; (first | simp only [List.set_cons_zero] at S | simp only [List.set_cons_succ, List.set_cons_zero] at S | skip)))
      exact bodyPost_ret (results_cell2S rfl _ S _ 0 _ _ _ rfl rfl Tryz.underlying24 rfl adInfo) rfl ⟨by rw [HE.out]; rfl, S.below⟩
  · have he : adrE [v] = none := by simp [adrE, adrB]; omega
    have HE := Lib.hid he
    have k0' : decide ((4294967296 : Int) ≤ (v : Int)) = true := by rw [decide_eq_true_eq]; omega
    clear he k0
    go_enter Tryz.func92, Tryz.ntmps92
    go_wp2_with (first | ((with_reducible show wpList _ _ _ (Oper.mk _ (Op.load _ _) _ _ _ _ :: _) _ _); refine wpList_oldS rfl _ _ rfl S _ rfl _ (by with_reducible first | exact h0) _ Tryz.underlying70 rfl ?_) | ((with_reducible show wpList _ _ _ (Oper.mk _ (Op.alloc _) _ _ _ _ :: _) _ _); refine wpList_allocS rfl _ rfl _ adZero S ?_; clear S; intro g w1 S) | ((with_reducible show wpList _ _ _ (Oper.mk _ (Op.store _ _ _) _ _ _ _ :: _) _ _); refine wpList_storeS rfl _ _ _ rfl S _ rfl _ rfl 0 _ _ rfl adInfo (by rfl) (by first | exact adCs_one _ _ _ | simp [Value.oneCell']) ?_; clear S; intro w1 S; (first | simp only [List.set_cons_zero] at S | simp only [List.set_cons_succ, List.set_cons_zero] at S | skip)))
    exact bodyPost_ret (results_cell2S rfl _ S _ 0 _ _ _ rfl rfl Tryz.underlying24 rfl adInfo) rfl ⟨by rw [HE.out]; rfl, S.below⟩
end Go.Proofs.YthbdeafbdmbabaaGreatDoor
namespace Go.Proofs.YthbdeafbdmbabaaGreatDoor
open Go.RowKit Go
set_option linter.unusedVariables false
theorem address_any (g c : Nat) (ns : List Nat) (w : World) (h0 : ns ≠ []) (h4 : ns.length ≤ 4) (hc : ns.length ≤ c) (hcell : ∀ (j v : Nat), ns[j]? = some v → w.cell? ⟨g, j, none⟩ = some (.int .u64 v)) (hb : ∀ v ∈ ns, v ≤ 4294967296) :
    Calls Tryz.prog 92 #[.slice (some ⟨g, 0, none⟩) ns.length c] w fun e w' => e = .returned (adTup (adR (adrE ns) 4)) ∧ Below w.heap.size w w' := by
  match ns, h0, h4, hc, hcell, hb with
  | [v], _, _, hc, hcell, hb => exact address1 g c v w (hcell 0 v rfl) hc (hb v (by simp))
  | [a, v], _, _, hc, hcell, hb => exact address2 g c a v w (hcell 0 a rfl) (hcell 1 v rfl) hc (hb a (by simp)) (hb v (by simp))
  | [a, b, v], _, _, hc, hcell, hb => exact address3 g c a b v w (hcell 0 a rfl) (hcell 1 b rfl) (hcell 2 v rfl) hc (hb a (by simp)) (hb b (by simp)) (hb v (by simp))
  | [a, b, x, v], _, _, hc, hcell, hb => exact address4 g c a b x v w (hcell 0 a rfl) (hcell 1 b rfl) (hcell 2 x rfl) (hcell 3 v rfl) hc (hb a (by simp)) (hb b (by simp)) (hb x (by simp)) (hb v (by simp))
  | [], h, _, _, _, _ => exact absurd rfl h
  | _ :: _ :: _ :: _ :: _ :: _, _, h, _, _, _ => simp at h
def arr4 : Array Value := #[.int .u64 0, .int .u64 0, .int .u64 0, .int .u64 0]
theorem arr4Zero : (Tryz.prog.info? 97).map (·.zero) = some (some (.agg arr4)) := by kernel_rfl
theorem u64Size : (Tryz.prog.info? 70).map (·.size) = some 1 := by kernel_rfl
theorem loose_bad (l p : List UInt8) (hp : p ∈ cutN l 3) (h : (numE p).2 = false) : looseE l = ⟨0, zero16, 5⟩ := by
  have : ¬ (cutN l 3).all (fun p => (numE p).2) = true := fun e => by
    have := List.all_eq_true.1 e _ hp
    rw [h] at this; simp at this
  unfold looseE
  rw [if_neg this]
  rfl
theorem loose_good (l : List UInt8) (h : (cutN l 3).all (fun p => (numE p).2) = true) : looseE l = adR (adrE ((cutN l 3).map fun p => (numE p).1)) 4 := by
  unfold looseE
  rw [if_pos h]
theorem adrE_len (ns : List Nat) (e : Int) : (adR (adrE ns) e).ip.length = 16 := by
  unfold adrE
  split <;> rfl
theorem looseE_len (l : List UInt8) : (looseE l).ip.length = 16 := by
  unfold looseE
  split
  · exact adrE_len _ _
  · rfl
theorem ad_sizes (f f' z z' : Int) (ip ip' : List UInt8) (h : ip.length = 16) (h' : ip'.length = 16) : (adCs f ip z).toArray.size = (adCs f' ip' z').toArray.size := by
  rw [List.size_toArray, List.size_toArray, adCs_len, adCs_len, h, h']
theorem slice4 (g n : Nat) (h : n ≤ 4) (w : World) : (Instr.sliceAt 97 (.pointer (some ⟨g, 0, none⟩)) none (some (.int .i64 n)) none).run Tryz.prog w = .ok (.slice (some ⟨g, 0, none⟩) n 4) w := by
  have ha : Tryz.prog.arrayLen 97 = 4 := by kernel_rfl
  have he : Tryz.prog.elem 97 = 70 := by kernel_rfl
  rw [run_sliceAt_array_h w 97 _ (by kernel_rfl) .i64 n (by omega) (by rw [ha]; omega), he, Tryz.sizeOf70]
  simp [slicedAt, ha, Result.andThen, Addr.add]
set_option maxRecDepth 100000 in
set_option maxHeartbeats 2000000 in
theorem loose_any (s : ByteArray) (w : World) (hs : s.size ≤ 4000) :
    Calls Tryz.prog 66 #[.string s] w fun e w' => e = .returned (adTup (looseE s.data.toList)) ∧ Below w.heap.size w w' := by
  have S := Ats.start w
  have hsp := fun w => splitN_any s 4 w hs (by decide) (by decide)
  have hmem := cutN_mem s.data.toList 3
  have hlen := cutN_len s.data.toList 3
  have hne := cutN_ne s.data.toList 3
  have hLB := loose_bad s.data.toList
  have hLG := loose_good s.data.toList
  rw [← Lib.size_eq] at hmem
  simp only [show 4 - 1 = 3 from rfl, Int.cast_ofNat_Int] at hsp
  obtain ⟨ps, hps⟩ : ∃ ps, ps = cutN s.data.toList 3 := ⟨_, rfl⟩
  rw [← hps] at hsp hmem hlen hne hLB hLG
  clear hps
  have HSP := Lib.hid hsp
  have HM := Lib.hid hmem
  have HLB := Lib.hid hLB
  have HLG := Lib.hid hLG
  have HNE := Lib.hid hne
  have hn1 : 1 ≤ ps.length := List.length_pos_iff.2 hne
  clear hsp hmem hLB hLG hne
  go_enter Tryz.func66, Tryz.ntmps66
  go_wp2_with (first
    | ((with_reducible refine (HSP.out _).mono ?_); rintro e w' ⟨R, hR, rfl, rfl⟩; have HR := Lib.hid hR; clear hR; have S := S.add 9 R; generalize w1.alloc (.cells R 9) = w2 at S ⊢; generalize w1.heap.size = gR at S ⊢)
    | ((with_reducible show wpList _ _ _ (Oper.mk _ (Op.alloc _) _ _ _ _ :: _) _ _); refine wpList_allocS rfl _ rfl _ adZero S ?_; clear S; intro g0 w1 S)
    | ((with_reducible show wpList _ _ _ (Oper.mk _ (Op.alloc _) _ _ _ _ :: _) _ _); refine wpList_allocS rfl _ rfl _ arr4Zero S ?_; clear S; intro gN w1 S))
  go_loopw [14] (fun i wr => ∃ (k : Nat) (C : Array Value), i = .int .i64 k ∧ k ≤ ps.length ∧ C.size = 4 ∧ (∀ (j v : Nat), ((ps.take k).map fun p => (numE p).1)[j]? = some v → C[j]? = some (.int .u64 v)) ∧ (ps.take k).all (fun p => (numE p).2) = true ∧ Ats w.heap.size w wr [(gN, 97, C), (gR, 9, R), (g0, 24, (adCs 0 zero16 0).toArray)]) (fun i _ => ps.length - (intOf i).toNat)
  case atStart => exact ⟨0, arr4, rfl, Nat.zero_le _, rfl, fun j v h => by simp at h, rfl, S⟩
  case round =>
    obtain ⟨k, C, rfl, hk, hC, hcell, hall, S⟩ := hrel
    have HC := Lib.hid hcell
    have HA := Lib.hid hall
    clear hcell hall
    by_cases hlt : k < ps.length
    · obtain ⟨p, hp⟩ : ∃ p, ps[k]? = some p := ⟨_, List.getElem?_eq_getElem hlt⟩
      have hpm : p ∈ ps := List.mem_of_getElem? hp
      have hR := HR.out k p hp
      obtain ⟨b, hb⟩ : ∃ b : ByteArray, b = ⟨p.toArray⟩ := ⟨_, rfl⟩
      have hbl : b.data.toList = p := by rw [hb]
      have hRb : R[k]? = some (.string b) := by rw [hR, hb]; rfl
      have hbs : b.size ≤ 4000 := by have := HM.out p hpm; rw [Lib.size_eq, hbl]; omega
      have hnum := fun w => number_quad b w hbs
      rw [hbl] at hnum
      obtain ⟨v, hv⟩ : ∃ v, v = (numE p).1 := ⟨_, rfl⟩
      cases ho : (numE p).2
      · have hE := HLB.out p hpm ho
        rw [← hv, ho] at hnum
        have HE := Lib.hid hE
        have HN := Lib.hid hnum
        have HRb := Lib.hid hRb
        clear hE hnum hRb hR hb hbl hp ho hv hpm
        go_wp2_with (first
          | ((with_reducible refine (HN.out _).mono ?_); rintro e w' ⟨rfl, rfl⟩)
          | ((with_reducible show wpList _ _ _ (Oper.mk _ (Op.load _ _) _ _ _ _ :: _) _ _); refine wpList_cellS rfl _ _ rfl S _ _ rfl 1 _ _ rfl _ Tryz.underlying9 rfl _ (by exact HRb.out) ?_)
          | ((with_reducible show wpList _ _ _ (Oper.mk _ (Op.store _ _ _) _ _ _ _ :: _) _ _); refine wpList_storeS rfl _ _ _ rfl S _ rfl _ rfl 2 _ _ rfl adInfo (by rfl) (by first | exact adCs_one _ _ _ | simp [Value.oneCell']) ?_; clear S; intro w1 S; (first | simp only [List.set_cons_zero] at S | simp only [List.set_cons_succ, List.set_cons_zero] at S | skip)))
        exact bodyPost_ret (results_cell2S rfl _ S _ 2 _ _ _ rfl rfl Tryz.underlying24 rfl adInfo) rfl ⟨by rw [HE.out]; rfl, S.below⟩
      · have hk4 : k < C.size := by omega
        have htake : ps.take (k + 1) = ps.take k ++ [p] := by rw [List.take_add_one, hp]; rfl
        have hall' : (ps.take (k + 1)).all (fun p => (numE p).2) = true := by rw [htake, List.all_append, HA.out]; simp [ho]
        have hcell' : ∀ (j u : Nat), ((ps.take (k + 1)).map fun p => (numE p).1)[j]? = some u → (C.setIfInBounds k (.int .u64 v))[j]? = some (.int .u64 u) := by
          intro j u hu
          have hl : ((ps.take k).map fun p => (numE p).1).length = k := by rw [List.length_map, List.length_take]; omega
          rw [htake, List.map_append] at hu
          by_cases hjk : j = k
          · subst hjk
            rw [List.getElem?_append_right (by omega), hl, Nat.sub_self] at hu
            simp only [ List.map_cons, List.getElem?_cons_zero, Option.some.injEq] at hu
            rw [← hu, ← hv, Array.getElem?_setIfInBounds_self_of_lt hk4]
          · rw [Array.getElem?_setIfInBounds_ne (Ne.symm hjk)]
            by_cases hjl : j < k
            · rw [List.getElem?_append_left (by omega)] at hu
              exact HC.out j u hu
            · rw [List.getElem?_append_right (by omega), hl] at hu
              have : ([p].map fun p => (numE p).1)[j - k]? = none := by
                apply List.getElem?_eq_none
                simp; omega
              rw [this] at hu
              cases hu
        have hC' : (C.setIfInBounds k (.int .u64 v)).size = 4 := by simpa using hC
        rw [← hv, ho] at hnum
        have HN := Lib.hid hnum
        have HRb := Lib.hid hRb
        have HC' := Lib.hid hcell'
        have HA' := Lib.hid hall'
        have HS' := Lib.hid hC'
        clear hnum hRb hR hb hbl hp ho hv hpm hcell' hall' htake hC' HC HA
        go_wp2_with (first
          | ((with_reducible refine (HN.out _).mono ?_); rintro e w' ⟨rfl, rfl⟩)
          | ((with_reducible show wpList _ _ _ (Oper.mk _ (Op.load _ _) _ _ _ _ :: _) _ _); refine wpList_cellS rfl _ _ rfl S _ _ rfl 1 _ _ rfl _ Tryz.underlying9 rfl _ (by exact HRb.out) ?_)
          | ((with_reducible show wpList _ _ _ (Oper.mk _ (Op.store _ _ _) _ _ _ _ :: _) _ _); refine wpList_putS rfl _ _ _ rfl S _ _ rfl _ rfl rfl rfl 0 _ _ rfl u64Size (by exact hk4) ?_; clear S; intro w1 S; (first | simp only [List.set_cons_zero] at S | simp only [List.set_cons_succ, List.set_cons_zero] at S | skip)))
        go_roundw
        case rel => exact ⟨k + 1, _, by go_num, by omega, HS'.out, HC'.out, HA'.out, S⟩
        case measure => simp [intOf]; omega
    · obtain rfl : k = ps.length := by omega
      rw [List.take_length] at HC HA
      have hE := HLG.out HA.out
      have hA := address_any gN 4 (ps.map fun p => (numE p).1) wr (by simpa using HNE.out) (by simpa using hlen) (by simpa using hlen) (fun j v hj => (S.get (i := 0) rfl).cells j (HC.out j v hj)) (fun v hv => by obtain ⟨q, _, rfl⟩ := List.mem_map.1 hv; exact numE_le q)
      rw [List.length_map, ← hE] at hA
      simp only [adTup] at hA
      have HL := Lib.hid (looseE_len s.data.toList)
      have HAd := Lib.hid hA
      have hsl := slice4 gN ps.length hlen
      clear hE hA
      go_wp2_with (first
        | ((with_reducible refine HAd.out.mono ?_); rintro e w2 ⟨rfl, hb⟩; have S := S.call hb; clear hb)
        | ((with_reducible show wpList _ _ _ (Oper.mk _ (Op.store _ _ _) _ _ _ _ :: _) _ _); refine wpList_storeS rfl _ _ _ rfl S _ rfl _ rfl 2 _ _ rfl (adSize _ _ _ HL.out) (by exact ad_sizes _ _ _ _ _ _ rfl HL.out) (by exact adCs_one _ _ _) ?_; clear S; intro w1 S; (first | simp only [List.set_cons_zero] at S | simp only [List.set_cons_succ, List.set_cons_zero] at S | skip)))
      exact bodyPost_ret (results_cell2S rfl _ S _ 2 _ _ _ rfl rfl Tryz.underlying24 rfl (adSize _ _ _ HL.out)) rfl ⟨rfl, S.below⟩
end Go.Proofs.YthbdeafbdmbabaaGreatDoor
