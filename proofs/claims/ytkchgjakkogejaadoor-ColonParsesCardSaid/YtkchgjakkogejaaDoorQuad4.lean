/- Layer 7: quad.address. -/
import Derived.Test.YtkchgjakkogejaaDoorQuad
import Derived.Test.YtkchgjakkogejaaDoorQuad2
import Derived.Test.YtkchgjakkogejaaDoorShelf
import Derived.Laws.BitsAllLaws
namespace Go.Proofs.YtkchgjakkogejaaDoor
open Go.RowKit Go
set_option linter.unusedVariables false
theorem or_mulN (a b i m : Nat) (hm : m = 2 ^ i) (h : a < m) : a ||| (b * m) = a + b * m := by
  subst hm
  rw [Nat.or_comm, ← Nat.shiftLeft_eq, ← Nat.shiftLeft_add_eq_or_of_lt h, Nat.add_comm]
theorem or_mid (lo b H p q P Q : Nat) (hP : P = 2 ^ p) (hQ : Q = 2 ^ q) (h1 : lo < P) (h2 : lo + b * P < Q) : (lo + H * Q) ||| (b * P) = lo + b * P + H * Q := by
  have e1 := or_mulN lo H q Q hQ (by omega)
  have e2 := or_mulN lo b p P hP h1
  have e3 := or_mulN (lo + b * P) H q Q hQ h2
  rw [← e1, Nat.or_assoc, Nat.or_comm (H * Q), ← Nat.or_assoc, e2, e3]
theorem or64 (n m r : Nat) (h : n ||| m = r) (h1 : n < 18446744073709551616) (h2 : m < 18446744073709551616) : bits BinOp.or IntKind.u64 (n : Int) (m : Int) = (r : Nat) := by
  rw [u64_or_nat n m h1 h2, h]
def adTup (r : AdR) : Value := .tuple #[adV r.fam r.ip 0, .int .i64 r.err]
theorem ret_bytes {v a b c d : Int} (ha : a = v / 16777216 % 256) (hb : b = v / 65536 % 256) (hc : c = v / 256 % 256) (hd : d = v % 256) {n : Nat} (hn : (n : Int) = v) (w : World) :
    Calls Tryd.prog 33 #[.int .u8 a, .int .u8 b, .int .u8 c, .int .u8 d] w fun e w' => e = .returned (adV 4 (quadN n) 0) ∧ Below w.heap.size w w' := by
  have h := of_any (byN n 24) (byN n 16) (byN n 8) (byN n 0) w
  simp only [byN_toNat] at h
  have e1 : (((n / 2 ^ 24 % 256 : Nat)) : Int) = a := by omega
  have e2 : (((n / 2 ^ 16 % 256 : Nat)) : Int) = b := by omega
  have e3 : (((n / 2 ^ 8 % 256 : Nat)) : Int) = c := by omega
  have e4 : (((n / 2 ^ 0 % 256 : Nat)) : Int) = d := by omega
  rw [e1, e2, e3, e4] at h
  exact h
set_option maxRecDepth 100000 in
set_option maxHeartbeats 1000000 in
theorem address4 (g c a b x v : Nat) (w : World) (h0 : w.cell? ⟨g, 0, none⟩ = some (.int .u64 a)) (h1 : w.cell? ⟨g, 1, none⟩ = some (.int .u64 b)) (h2 : w.cell? ⟨g, 2, none⟩ = some (.int .u64 x)) (h3 : w.cell? ⟨g, 3, none⟩ = some (.int .u64 v)) (hc : 4 ≤ c) (b0 : a ≤ 4294967296) (b1 : b ≤ 4294967296) (b2 : x ≤ 4294967296) (b3 : v ≤ 4294967296) :
    Calls Tryd.prog 78 #[.slice (some ⟨g, 0, none⟩) 4 c] w fun e w' => e = .returned (adTup (adR (adrE [a, b, x, v]) 4)) ∧ Below w.heap.size w w' := by
  have S := Ats.start w
  by_cases k0 : v < 256
  · have k0' : decide ((256 : Int) ≤ (v : Int)) = false := by rw [decide_eq_false_iff_not]; omega
    have K0 := Lib.hid k0
    clear k0
    go_enter Tryd.func78, Tryd.ntmps78
    go_wp2_with (first | ((with_reducible show wpList _ _ _ (Oper.mk _ (Op.load _ _) _ _ _ _ :: _) _ _); refine wpList_oldS rfl _ _ rfl S _ rfl _ (by with_reducible first | exact h0 | exact h1 | exact h2 | exact h3) _ Tryd.underlying54 rfl ?_) | ((with_reducible show wpList _ _ _ (Oper.mk _ (Op.alloc _) _ _ _ _ :: _) _ _); refine wpList_allocS rfl _ rfl _ adZero S ?_; clear S; intro g w1 S) | ((with_reducible show wpList _ _ _ (Oper.mk _ (Op.store _ _ _) _ _ _ _ :: _) _ _); refine wpList_storeS rfl _ _ _ rfl S _ rfl _ rfl 0 _ _ rfl adInfo (by rfl) (by first | exact adCs_one _ _ _ | simp [Value.oneCell']) ?_; clear S; intro w1 S; (first | simp only [List.set_cons_zero] at S | simp only [List.set_cons_succ, List.set_cons_zero] at S | skip)))
    go_loop [5, 25] (fun s i => ∃ k n : Nat, i = .int .i64 k ∧ s = .int .u64 n ∧ ((k = 0 ∧ n = v) ∨ (k = 1 ∧ a ≤ 255 ∧ n = v + a * 16777216) ∨ (k = 2 ∧ a ≤ 255 ∧ b ≤ 255 ∧ n = v + a * 16777216 + b * 65536) ∨ (k = 3 ∧ a ≤ 255 ∧ b ≤ 255 ∧ x ≤ 255 ∧ n = v + a * 16777216 + b * 65536 + x * 256))) (fun _ i => 3 - (intOf i).toNat)
    case atStart => exact ⟨0, v, rfl, rfl, .inl ⟨rfl, rfl⟩⟩
    case round =>
      obtain ⟨k, n, rfl, rfl, hr⟩ := hrel
      have k0 := K0.out
      rcases hr with ⟨rfl, hn⟩ | ⟨rfl, k1, hn⟩ | ⟨rfl, k1, k2, hn⟩ | ⟨rfl, k1, k2, k3, hn⟩
      · by_cases kk : a ≤ 255
        · have ho := or64 (v + 0 * 4294967296) (a * 16777216) _ (or_mid v a 0 24 32 16777216 4294967296 rfl rfl (by omega) (by omega)) (by omega) (by omega)
          rw [show (v + 0 * 4294967296) = n by omega] at ho
          have hv : ((a * 16777216 : Nat) : Int) = (a : Int) * 16777216 := by omega
          rw [hv] at ho
          have HO := Lib.hid ho
          have HN := Lib.hid hn
          clear ho hv hn k0
          go_wp2_with (first | ((with_reducible show wpList _ _ _ (Oper.mk _ (Op.load _ _) _ _ _ _ :: _) _ _); refine wpList_oldS rfl _ _ rfl S _ rfl _ (by with_reducible first | exact h0 | exact h1 | exact h2 | exact h3) _ Tryd.underlying54 rfl ?_) | ((with_reducible show wpList _ _ _ (Oper.mk _ (Op.store _ _ _) _ _ _ _ :: _) _ _); refine wpList_storeS rfl _ _ _ rfl S _ rfl _ rfl 0 _ _ rfl adInfo (by rfl) (by first | exact adCs_one _ _ _ | simp [Value.oneCell']) ?_; clear S; intro w1 S; (first | simp only [List.set_cons_zero] at S | simp only [List.set_cons_succ, List.set_cons_zero] at S | skip)))
          go_round
          case rel => exact ⟨1, _, rfl, ret_v HO.out, .inr (.inl ⟨rfl, kk, by have := HN.out; omega⟩)⟩
          case measure => simp [intOf]
        · have he : adrE [a, b, x, v] = none := by simp [adrE, adrB]; omega
          have HE := Lib.hid he
          clear he hn k0
          go_wp2_with (first | ((with_reducible show wpList _ _ _ (Oper.mk _ (Op.load _ _) _ _ _ _ :: _) _ _); refine wpList_oldS rfl _ _ rfl S _ rfl _ (by with_reducible first | exact h0 | exact h1 | exact h2 | exact h3) _ Tryd.underlying54 rfl ?_) | ((with_reducible show wpList _ _ _ (Oper.mk _ (Op.store _ _ _) _ _ _ _ :: _) _ _); refine wpList_storeS rfl _ _ _ rfl S _ rfl _ rfl 0 _ _ rfl adInfo (by rfl) (by first | exact adCs_one _ _ _ | simp [Value.oneCell']) ?_; clear S; intro w1 S; (first | simp only [List.set_cons_zero] at S | simp only [List.set_cons_succ, List.set_cons_zero] at S | skip)))
          exact bodyPost_ret (results_cell2S rfl _ S _ 0 _ _ _ rfl rfl Tryd.underlying25 rfl adInfo) rfl ⟨by rw [HE.out]; rfl, S.below⟩
      · by_cases kk : b ≤ 255
        · have ho := or64 (v + a * 16777216) (b * 65536) _ (or_mid v b a 16 24 65536 16777216 rfl rfl (by omega) (by omega)) (by omega) (by omega)
          rw [show (v + a * 16777216) = n by omega] at ho
          have hv : ((b * 65536 : Nat) : Int) = (b : Int) * 65536 := by omega
          rw [hv] at ho
          have HO := Lib.hid ho
          have HN := Lib.hid hn
          clear ho hv hn k0
          go_wp2_with (first | ((with_reducible show wpList _ _ _ (Oper.mk _ (Op.load _ _) _ _ _ _ :: _) _ _); refine wpList_oldS rfl _ _ rfl S _ rfl _ (by with_reducible first | exact h0 | exact h1 | exact h2 | exact h3) _ Tryd.underlying54 rfl ?_) | ((with_reducible show wpList _ _ _ (Oper.mk _ (Op.store _ _ _) _ _ _ _ :: _) _ _); refine wpList_storeS rfl _ _ _ rfl S _ rfl _ rfl 0 _ _ rfl adInfo (by rfl) (by first | exact adCs_one _ _ _ | simp [Value.oneCell']) ?_; clear S; intro w1 S; (first | simp only [List.set_cons_zero] at S | simp only [List.set_cons_succ, List.set_cons_zero] at S | skip)))
          go_round
          case rel => exact ⟨2, _, rfl, ret_v HO.out, .inr (.inr (.inl ⟨rfl, k1, kk, by have := HN.out; omega⟩))⟩
          case measure => simp [intOf]
        · have he : adrE [a, b, x, v] = none := by simp [adrE, adrB]; omega
          have HE := Lib.hid he
          clear he hn k0
          go_wp2_with (first | ((with_reducible show wpList _ _ _ (Oper.mk _ (Op.load _ _) _ _ _ _ :: _) _ _); refine wpList_oldS rfl _ _ rfl S _ rfl _ (by with_reducible first | exact h0 | exact h1 | exact h2 | exact h3) _ Tryd.underlying54 rfl ?_) | ((with_reducible show wpList _ _ _ (Oper.mk _ (Op.store _ _ _) _ _ _ _ :: _) _ _); refine wpList_storeS rfl _ _ _ rfl S _ rfl _ rfl 0 _ _ rfl adInfo (by rfl) (by first | exact adCs_one _ _ _ | simp [Value.oneCell']) ?_; clear S; intro w1 S; (first | simp only [List.set_cons_zero] at S | simp only [List.set_cons_succ, List.set_cons_zero] at S | skip)))
          exact bodyPost_ret (results_cell2S rfl _ S _ 0 _ _ _ rfl rfl Tryd.underlying25 rfl adInfo) rfl ⟨by rw [HE.out]; rfl, S.below⟩
      · by_cases kk : x ≤ 255
        · have ho := or64 (v + (a * 256 + b) * 65536) (x * 256) _ (or_mid v x (a * 256 + b) 8 16 256 65536 rfl rfl (by omega) (by omega)) (by omega) (by omega)
          rw [show (v + (a * 256 + b) * 65536) = n by omega] at ho
          have hv : ((x * 256 : Nat) : Int) = (x : Int) * 256 := by omega
          rw [hv] at ho
          have HO := Lib.hid ho
          have HN := Lib.hid hn
          clear ho hv hn k0
          go_wp2_with (first | ((with_reducible show wpList _ _ _ (Oper.mk _ (Op.load _ _) _ _ _ _ :: _) _ _); refine wpList_oldS rfl _ _ rfl S _ rfl _ (by with_reducible first | exact h0 | exact h1 | exact h2 | exact h3) _ Tryd.underlying54 rfl ?_) | ((with_reducible show wpList _ _ _ (Oper.mk _ (Op.store _ _ _) _ _ _ _ :: _) _ _); refine wpList_storeS rfl _ _ _ rfl S _ rfl _ rfl 0 _ _ rfl adInfo (by rfl) (by first | exact adCs_one _ _ _ | simp [Value.oneCell']) ?_; clear S; intro w1 S; (first | simp only [List.set_cons_zero] at S | simp only [List.set_cons_succ, List.set_cons_zero] at S | skip)))
          go_round
          case rel => exact ⟨3, _, rfl, ret_v HO.out, .inr (.inr (.inr (⟨rfl, k1, k2, kk, by have := HN.out; omega⟩)))⟩
          case measure => simp [intOf]
        · have he : adrE [a, b, x, v] = none := by simp [adrE, adrB]; omega
          have HE := Lib.hid he
          clear he hn k0
          go_wp2_with (first | ((with_reducible show wpList _ _ _ (Oper.mk _ (Op.load _ _) _ _ _ _ :: _) _ _); refine wpList_oldS rfl _ _ rfl S _ rfl _ (by with_reducible first | exact h0 | exact h1 | exact h2 | exact h3) _ Tryd.underlying54 rfl ?_) | ((with_reducible show wpList _ _ _ (Oper.mk _ (Op.store _ _ _) _ _ _ _ :: _) _ _); refine wpList_storeS rfl _ _ _ rfl S _ rfl _ rfl 0 _ _ rfl adInfo (by rfl) (by first | exact adCs_one _ _ _ | simp [Value.oneCell']) ?_; clear S; intro w1 S; (first | simp only [List.set_cons_zero] at S | simp only [List.set_cons_succ, List.set_cons_zero] at S | skip)))
          exact bodyPost_ret (results_cell2S rfl _ S _ 0 _ _ _ rfl rfl Tryd.underlying25 rfl adInfo) rfl ⟨by rw [HE.out]; rfl, S.below⟩
      · have he : adrE [a, b, x, v] = some (quadN n) := by
          have e1 : adrB [a, b, x, v] = true := by simp [adrB]; omega
          have e2 : adrV [a, b, x, v] = n := by simp only [adrV]; omega
          rw [adrE, if_pos e1, e2]
        have hn2 : n < 4294967296 := by omega
        have HE := Lib.hid he
        clear he hn k0
        go_wp2_with (first | ((with_reducible refine (ret_bytes (v := (n : Int)) (by omega) (by omega) (by omega) (by omega) (n := n) rfl _).mono ?_); rintro e w2 ⟨rfl, hb⟩; have S := S.call hb; clear hb) | ((with_reducible show wpList _ _ _ (Oper.mk _ (Op.load _ _) _ _ _ _ :: _) _ _); refine wpList_oldS rfl _ _ rfl S _ rfl _ (by with_reducible first | exact h0 | exact h1 | exact h2 | exact h3) _ Tryd.underlying54 rfl ?_) | ((with_reducible show wpList _ _ _ (Oper.mk _ (Op.store _ _ _) _ _ _ _ :: _) _ _); refine wpList_storeS rfl _ _ _ rfl S _ rfl _ rfl 0 _ _ rfl adInfo (by rfl) (by first | exact adCs_one _ _ _ | simp [Value.oneCell']) ?_; clear S; intro w1 S; (first | simp only [List.set_cons_zero] at S | simp only [List.set_cons_succ, List.set_cons_zero] at S | skip)))
        exact bodyPost_ret (results_cell2S rfl _ S _ 0 _ _ _ rfl rfl Tryd.underlying25 rfl adInfo) rfl ⟨by rw [HE.out]; rfl, S.below⟩
  · have he : adrE [a, b, x, v] = none := by simp [adrE, adrB]; omega
    have HE := Lib.hid he
    have k0' : decide ((256 : Int) ≤ (v : Int)) = true := by rw [decide_eq_true_eq]; omega
    clear he k0
    go_enter Tryd.func78, Tryd.ntmps78
    go_wp2_with (first | ((with_reducible show wpList _ _ _ (Oper.mk _ (Op.load _ _) _ _ _ _ :: _) _ _); refine wpList_oldS rfl _ _ rfl S _ rfl _ (by with_reducible first | exact h0 | exact h1 | exact h2 | exact h3) _ Tryd.underlying54 rfl ?_) | ((with_reducible show wpList _ _ _ (Oper.mk _ (Op.alloc _) _ _ _ _ :: _) _ _); refine wpList_allocS rfl _ rfl _ adZero S ?_; clear S; intro g w1 S) | ((with_reducible show wpList _ _ _ (Oper.mk _ (Op.store _ _ _) _ _ _ _ :: _) _ _); refine wpList_storeS rfl _ _ _ rfl S _ rfl _ rfl 0 _ _ rfl adInfo (by rfl) (by first | exact adCs_one _ _ _ | simp [Value.oneCell']) ?_; clear S; intro w1 S; (first | simp only [List.set_cons_zero] at S | simp only [List.set_cons_succ, List.set_cons_zero] at S | skip)))
    exact bodyPost_ret (results_cell2S rfl _ S _ 0 _ _ _ rfl rfl Tryd.underlying25 rfl adInfo) rfl ⟨by rw [HE.out]; rfl, S.below⟩
set_option maxRecDepth 100000 in
set_option maxHeartbeats 1000000 in
theorem address3 (g c a b v : Nat) (w : World) (h0 : w.cell? ⟨g, 0, none⟩ = some (.int .u64 a)) (h1 : w.cell? ⟨g, 1, none⟩ = some (.int .u64 b)) (h2 : w.cell? ⟨g, 2, none⟩ = some (.int .u64 v)) (hc : 3 ≤ c) (b0 : a ≤ 4294967296) (b1 : b ≤ 4294967296) (b2 : v ≤ 4294967296) :
    Calls Tryd.prog 78 #[.slice (some ⟨g, 0, none⟩) 3 c] w fun e w' => e = .returned (adTup (adR (adrE [a, b, v]) 4)) ∧ Below w.heap.size w w' := by
  have S := Ats.start w
  by_cases k0 : v < 65536
  · have k0' : decide ((65536 : Int) ≤ (v : Int)) = false := by rw [decide_eq_false_iff_not]; omega
    have K0 := Lib.hid k0
    clear k0
    go_enter Tryd.func78, Tryd.ntmps78
    go_wp2_with (first | ((with_reducible show wpList _ _ _ (Oper.mk _ (Op.load _ _) _ _ _ _ :: _) _ _); refine wpList_oldS rfl _ _ rfl S _ rfl _ (by with_reducible first | exact h0 | exact h1 | exact h2) _ Tryd.underlying54 rfl ?_) | ((with_reducible show wpList _ _ _ (Oper.mk _ (Op.alloc _) _ _ _ _ :: _) _ _); refine wpList_allocS rfl _ rfl _ adZero S ?_; clear S; intro g w1 S) | ((with_reducible show wpList _ _ _ (Oper.mk _ (Op.store _ _ _) _ _ _ _ :: _) _ _); refine wpList_storeS rfl _ _ _ rfl S _ rfl _ rfl 0 _ _ rfl adInfo (by rfl) (by first | exact adCs_one _ _ _ | simp [Value.oneCell']) ?_; clear S; intro w1 S; (first | simp only [List.set_cons_zero] at S | simp only [List.set_cons_succ, List.set_cons_zero] at S | skip)))
    go_loop [5, 25] (fun s i => ∃ k n : Nat, i = .int .i64 k ∧ s = .int .u64 n ∧ ((k = 0 ∧ n = v) ∨ (k = 1 ∧ a ≤ 255 ∧ n = v + a * 16777216) ∨ (k = 2 ∧ a ≤ 255 ∧ b ≤ 255 ∧ n = v + a * 16777216 + b * 65536))) (fun _ i => 2 - (intOf i).toNat)
    case atStart => exact ⟨0, v, rfl, rfl, .inl ⟨rfl, rfl⟩⟩
    case round =>
      obtain ⟨k, n, rfl, rfl, hr⟩ := hrel
      have k0 := K0.out
      rcases hr with ⟨rfl, hn⟩ | ⟨rfl, k1, hn⟩ | ⟨rfl, k1, k2, hn⟩
      · by_cases kk : a ≤ 255
        · have ho := or64 (v + 0 * 4294967296) (a * 16777216) _ (or_mid v a 0 24 32 16777216 4294967296 rfl rfl (by omega) (by omega)) (by omega) (by omega)
          rw [show (v + 0 * 4294967296) = n by omega] at ho
          have hv : ((a * 16777216 : Nat) : Int) = (a : Int) * 16777216 := by omega
          rw [hv] at ho
          have HO := Lib.hid ho
          have HN := Lib.hid hn
          clear ho hv hn k0
          go_wp2_with (first | ((with_reducible show wpList _ _ _ (Oper.mk _ (Op.load _ _) _ _ _ _ :: _) _ _); refine wpList_oldS rfl _ _ rfl S _ rfl _ (by with_reducible first | exact h0 | exact h1 | exact h2) _ Tryd.underlying54 rfl ?_) | ((with_reducible show wpList _ _ _ (Oper.mk _ (Op.store _ _ _) _ _ _ _ :: _) _ _); refine wpList_storeS rfl _ _ _ rfl S _ rfl _ rfl 0 _ _ rfl adInfo (by rfl) (by first | exact adCs_one _ _ _ | simp [Value.oneCell']) ?_; clear S; intro w1 S; (first | simp only [List.set_cons_zero] at S | simp only [List.set_cons_succ, List.set_cons_zero] at S | skip)))
          go_round
          case rel => exact ⟨1, _, rfl, ret_v HO.out, .inr (.inl ⟨rfl, kk, by have := HN.out; omega⟩)⟩
          case measure => simp [intOf]
        · have he : adrE [a, b, v] = none := by simp [adrE, adrB]; omega
          have HE := Lib.hid he
          clear he hn k0
          go_wp2_with (first | ((with_reducible show wpList _ _ _ (Oper.mk _ (Op.load _ _) _ _ _ _ :: _) _ _); refine wpList_oldS rfl _ _ rfl S _ rfl _ (by with_reducible first | exact h0 | exact h1 | exact h2) _ Tryd.underlying54 rfl ?_) | ((with_reducible show wpList _ _ _ (Oper.mk _ (Op.store _ _ _) _ _ _ _ :: _) _ _); refine wpList_storeS rfl _ _ _ rfl S _ rfl _ rfl 0 _ _ rfl adInfo (by rfl) (by first | exact adCs_one _ _ _ | simp [Value.oneCell']) ?_; clear S; intro w1 S; (first | simp only [List.set_cons_zero] at S | simp only [List.set_cons_succ, List.set_cons_zero] at S | skip)))
          exact bodyPost_ret (results_cell2S rfl _ S _ 0 _ _ _ rfl rfl Tryd.underlying25 rfl adInfo) rfl ⟨by rw [HE.out]; rfl, S.below⟩
      · by_cases kk : b ≤ 255
        · have ho := or64 (v + a * 16777216) (b * 65536) _ (or_mid v b a 16 24 65536 16777216 rfl rfl (by omega) (by omega)) (by omega) (by omega)
          rw [show (v + a * 16777216) = n by omega] at ho
          have hv : ((b * 65536 : Nat) : Int) = (b : Int) * 65536 := by omega
          rw [hv] at ho
          have HO := Lib.hid ho
          have HN := Lib.hid hn
          clear ho hv hn k0
          go_wp2_with (first | ((with_reducible show wpList _ _ _ (Oper.mk _ (Op.load _ _) _ _ _ _ :: _) _ _); refine wpList_oldS rfl _ _ rfl S _ rfl _ (by with_reducible first | exact h0 | exact h1 | exact h2) _ Tryd.underlying54 rfl ?_) | ((with_reducible show wpList _ _ _ (Oper.mk _ (Op.store _ _ _) _ _ _ _ :: _) _ _); refine wpList_storeS rfl _ _ _ rfl S _ rfl _ rfl 0 _ _ rfl adInfo (by rfl) (by first | exact adCs_one _ _ _ | simp [Value.oneCell']) ?_; clear S; intro w1 S; (first | simp only [List.set_cons_zero] at S | simp only [List.set_cons_succ, List.set_cons_zero] at S | skip)))
          go_round
          case rel => exact ⟨2, _, rfl, ret_v HO.out, .inr (.inr (⟨rfl, k1, kk, by have := HN.out; omega⟩))⟩
          case measure => simp [intOf]
        · have he : adrE [a, b, v] = none := by simp [adrE, adrB]; omega
          have HE := Lib.hid he
          clear he hn k0
          go_wp2_with (first | ((with_reducible show wpList _ _ _ (Oper.mk _ (Op.load _ _) _ _ _ _ :: _) _ _); refine wpList_oldS rfl _ _ rfl S _ rfl _ (by with_reducible first | exact h0 | exact h1 | exact h2) _ Tryd.underlying54 rfl ?_) | ((with_reducible show wpList _ _ _ (Oper.mk _ (Op.store _ _ _) _ _ _ _ :: _) _ _); refine wpList_storeS rfl _ _ _ rfl S _ rfl _ rfl 0 _ _ rfl adInfo (by rfl) (by first | exact adCs_one _ _ _ | simp [Value.oneCell']) ?_; clear S; intro w1 S; (first | simp only [List.set_cons_zero] at S | simp only [List.set_cons_succ, List.set_cons_zero] at S | skip)))
          exact bodyPost_ret (results_cell2S rfl _ S _ 0 _ _ _ rfl rfl Tryd.underlying25 rfl adInfo) rfl ⟨by rw [HE.out]; rfl, S.below⟩
      · have he : adrE [a, b, v] = some (quadN n) := by
          have e1 : adrB [a, b, v] = true := by simp [adrB]; omega
          have e2 : adrV [a, b, v] = n := by simp only [adrV]; omega
          rw [adrE, if_pos e1, e2]
        have hn2 : n < 4294967296 := by omega
        have HE := Lib.hid he
        clear he hn k0
        go_wp2_with (first | ((with_reducible refine (ret_bytes (v := (n : Int)) (by omega) (by omega) (by omega) (by omega) (n := n) rfl _).mono ?_); rintro e w2 ⟨rfl, hb⟩; have S := S.call hb; clear hb) | ((with_reducible show wpList _ _ _ (Oper.mk _ (Op.load _ _) _ _ _ _ :: _) _ _); refine wpList_oldS rfl _ _ rfl S _ rfl _ (by with_reducible first | exact h0 | exact h1 | exact h2) _ Tryd.underlying54 rfl ?_) | ((with_reducible show wpList _ _ _ (Oper.mk _ (Op.store _ _ _) _ _ _ _ :: _) _ _); refine wpList_storeS rfl _ _ _ rfl S _ rfl _ rfl 0 _ _ rfl adInfo (by rfl) (by first | exact adCs_one _ _ _ | simp [Value.oneCell']) ?_; clear S; intro w1 S; (first | simp only [List.set_cons_zero] at S | simp only [List.set_cons_succ, List.set_cons_zero] at S | skip)))
        exact bodyPost_ret (results_cell2S rfl _ S _ 0 _ _ _ rfl rfl Tryd.underlying25 rfl adInfo) rfl ⟨by rw [HE.out]; rfl, S.below⟩
  · have he : adrE [a, b, v] = none := by simp [adrE, adrB]; omega
    have HE := Lib.hid he
    have k0' : decide ((65536 : Int) ≤ (v : Int)) = true := by rw [decide_eq_true_eq]; omega
    clear he k0
    go_enter Tryd.func78, Tryd.ntmps78
    go_wp2_with (first | ((with_reducible show wpList _ _ _ (Oper.mk _ (Op.load _ _) _ _ _ _ :: _) _ _); refine wpList_oldS rfl _ _ rfl S _ rfl _ (by with_reducible first | exact h0 | exact h1 | exact h2) _ Tryd.underlying54 rfl ?_) | ((with_reducible show wpList _ _ _ (Oper.mk _ (Op.alloc _) _ _ _ _ :: _) _ _); refine wpList_allocS rfl _ rfl _ adZero S ?_; clear S; intro g w1 S) | ((with_reducible show wpList _ _ _ (Oper.mk _ (Op.store _ _ _) _ _ _ _ :: _) _ _); refine wpList_storeS rfl _ _ _ rfl S _ rfl _ rfl 0 _ _ rfl adInfo (by rfl) (by first | exact adCs_one _ _ _ | simp [Value.oneCell']) ?_; clear S; intro w1 S; (first | simp only [List.set_cons_zero] at S | simp only [List.set_cons_succ, List.set_cons_zero] at S | skip)))
    exact bodyPost_ret (results_cell2S rfl _ S _ 0 _ _ _ rfl rfl Tryd.underlying25 rfl adInfo) rfl ⟨by rw [HE.out]; rfl, S.below⟩
set_option maxRecDepth 100000 in
set_option maxHeartbeats 1000000 in
theorem address2 (g c a v : Nat) (w : World) (h0 : w.cell? ⟨g, 0, none⟩ = some (.int .u64 a)) (h1 : w.cell? ⟨g, 1, none⟩ = some (.int .u64 v)) (hc : 2 ≤ c) (b0 : a ≤ 4294967296) (b1 : v ≤ 4294967296) :
    Calls Tryd.prog 78 #[.slice (some ⟨g, 0, none⟩) 2 c] w fun e w' => e = .returned (adTup (adR (adrE [a, v]) 4)) ∧ Below w.heap.size w w' := by
  have S := Ats.start w
  by_cases k0 : v < 16777216
  · have k0' : decide ((16777216 : Int) ≤ (v : Int)) = false := by rw [decide_eq_false_iff_not]; omega
    have K0 := Lib.hid k0
    clear k0
    go_enter Tryd.func78, Tryd.ntmps78
    go_wp2_with (first | ((with_reducible show wpList _ _ _ (Oper.mk _ (Op.load _ _) _ _ _ _ :: _) _ _); refine wpList_oldS rfl _ _ rfl S _ rfl _ (by with_reducible first | exact h0 | exact h1) _ Tryd.underlying54 rfl ?_) | ((with_reducible show wpList _ _ _ (Oper.mk _ (Op.alloc _) _ _ _ _ :: _) _ _); refine wpList_allocS rfl _ rfl _ adZero S ?_; clear S; intro g w1 S) | ((with_reducible show wpList _ _ _ (Oper.mk _ (Op.store _ _ _) _ _ _ _ :: _) _ _); refine wpList_storeS rfl _ _ _ rfl S _ rfl _ rfl 0 _ _ rfl adInfo (by rfl) (by first | exact adCs_one _ _ _ | simp [Value.oneCell']) ?_; clear S; intro w1 S; (first | simp only [List.set_cons_zero] at S | simp only [List.set_cons_succ, List.set_cons_zero] at S | skip)))
    go_loop [5, 25] (fun s i => ∃ k n : Nat, i = .int .i64 k ∧ s = .int .u64 n ∧ ((k = 0 ∧ n = v) ∨ (k = 1 ∧ a ≤ 255 ∧ n = v + a * 16777216))) (fun _ i => 1 - (intOf i).toNat)
    case atStart => exact ⟨0, v, rfl, rfl, .inl ⟨rfl, rfl⟩⟩
    case round =>
      obtain ⟨k, n, rfl, rfl, hr⟩ := hrel
      have k0 := K0.out
      rcases hr with ⟨rfl, hn⟩ | ⟨rfl, k1, hn⟩
      · by_cases kk : a ≤ 255
        · have ho := or64 (v + 0 * 4294967296) (a * 16777216) _ (or_mid v a 0 24 32 16777216 4294967296 rfl rfl (by omega) (by omega)) (by omega) (by omega)
          rw [show (v + 0 * 4294967296) = n by omega] at ho
          have hv : ((a * 16777216 : Nat) : Int) = (a : Int) * 16777216 := by omega
          rw [hv] at ho
          have HO := Lib.hid ho
          have HN := Lib.hid hn
          clear ho hv hn k0
          go_wp2_with (first | ((with_reducible show wpList _ _ _ (Oper.mk _ (Op.load _ _) _ _ _ _ :: _) _ _); refine wpList_oldS rfl _ _ rfl S _ rfl _ (by with_reducible first | exact h0 | exact h1) _ Tryd.underlying54 rfl ?_) | ((with_reducible show wpList _ _ _ (Oper.mk _ (Op.store _ _ _) _ _ _ _ :: _) _ _); refine wpList_storeS rfl _ _ _ rfl S _ rfl _ rfl 0 _ _ rfl adInfo (by rfl) (by first | exact adCs_one _ _ _ | simp [Value.oneCell']) ?_; clear S; intro w1 S; (first | simp only [List.set_cons_zero] at S | simp only [List.set_cons_succ, List.set_cons_zero] at S | skip)))
          go_round
          case rel => exact ⟨1, _, rfl, ret_v HO.out, .inr (⟨rfl, kk, by have := HN.out; omega⟩)⟩
          case measure => simp [intOf]
        · have he : adrE [a, v] = none := by simp [adrE, adrB]; omega
          have HE := Lib.hid he
          clear he hn k0
          go_wp2_with (first | ((with_reducible show wpList _ _ _ (Oper.mk _ (Op.load _ _) _ _ _ _ :: _) _ _); refine wpList_oldS rfl _ _ rfl S _ rfl _ (by with_reducible first | exact h0 | exact h1) _ Tryd.underlying54 rfl ?_) | ((with_reducible show wpList _ _ _ (Oper.mk _ (Op.store _ _ _) _ _ _ _ :: _) _ _); refine wpList_storeS rfl _ _ _ rfl S _ rfl _ rfl 0 _ _ rfl adInfo (by rfl) (by first | exact adCs_one _ _ _ | simp [Value.oneCell']) ?_; clear S; intro w1 S; (first | simp only [List.set_cons_zero] at S | simp only [List.set_cons_succ, List.set_cons_zero] at S | skip)))
          exact bodyPost_ret (results_cell2S rfl _ S _ 0 _ _ _ rfl rfl Tryd.underlying25 rfl adInfo) rfl ⟨by rw [HE.out]; rfl, S.below⟩
      · have he : adrE [a, v] = some (quadN n) := by
          have e1 : adrB [a, v] = true := by simp [adrB]; omega
          have e2 : adrV [a, v] = n := by simp only [adrV]; omega
          rw [adrE, if_pos e1, e2]
        have hn2 : n < 4294967296 := by omega
        have HE := Lib.hid he
        clear he hn k0
        go_wp2_with (first | ((with_reducible refine (ret_bytes (v := (n : Int)) (by omega) (by omega) (by omega) (by omega) (n := n) rfl _).mono ?_); rintro e w2 ⟨rfl, hb⟩; have S := S.call hb; clear hb) | ((with_reducible show wpList _ _ _ (Oper.mk _ (Op.load _ _) _ _ _ _ :: _) _ _); refine wpList_oldS rfl _ _ rfl S _ rfl _ (by with_reducible first | exact h0 | exact h1) _ Tryd.underlying54 rfl ?_) | ((with_reducible show wpList _ _ _ (Oper.mk _ (Op.store _ _ _) _ _ _ _ :: _) _ _); refine wpList_storeS rfl _ _ _ rfl S _ rfl _ rfl 0 _ _ rfl adInfo (by rfl) (by first | exact adCs_one _ _ _ | simp [Value.oneCell']) ?_; clear S; intro w1 S; (first | simp only [List.set_cons_zero] at S | simp only [List.set_cons_succ, List.set_cons_zero] at S | skip)))
        exact bodyPost_ret (results_cell2S rfl _ S _ 0 _ _ _ rfl rfl Tryd.underlying25 rfl adInfo) rfl ⟨by rw [HE.out]; rfl, S.below⟩
  · have he : adrE [a, v] = none := by simp [adrE, adrB]; omega
    have HE := Lib.hid he
    have k0' : decide ((16777216 : Int) ≤ (v : Int)) = true := by rw [decide_eq_true_eq]; omega
    clear he k0
    go_enter Tryd.func78, Tryd.ntmps78
    go_wp2_with (first | ((with_reducible show wpList _ _ _ (Oper.mk _ (Op.load _ _) _ _ _ _ :: _) _ _); refine wpList_oldS rfl _ _ rfl S _ rfl _ (by with_reducible first | exact h0 | exact h1) _ Tryd.underlying54 rfl ?_) | ((with_reducible show wpList _ _ _ (Oper.mk _ (Op.alloc _) _ _ _ _ :: _) _ _); refine wpList_allocS rfl _ rfl _ adZero S ?_; clear S; intro g w1 S) | ((with_reducible show wpList _ _ _ (Oper.mk _ (Op.store _ _ _) _ _ _ _ :: _) _ _); refine wpList_storeS rfl _ _ _ rfl S _ rfl _ rfl 0 _ _ rfl adInfo (by rfl) (by first | exact adCs_one _ _ _ | simp [Value.oneCell']) ?_; clear S; intro w1 S; (first | simp only [List.set_cons_zero] at S | simp only [List.set_cons_succ, List.set_cons_zero] at S | skip)))
    exact bodyPost_ret (results_cell2S rfl _ S _ 0 _ _ _ rfl rfl Tryd.underlying25 rfl adInfo) rfl ⟨by rw [HE.out]; rfl, S.below⟩
set_option maxRecDepth 100000 in
set_option maxHeartbeats 1000000 in
theorem address1 (g c v : Nat) (w : World) (h0 : w.cell? ⟨g, 0, none⟩ = some (.int .u64 v)) (hc : 1 ≤ c) (b0 : v ≤ 4294967296) :
    Calls Tryd.prog 78 #[.slice (some ⟨g, 0, none⟩) 1 c] w fun e w' => e = .returned (adTup (adR (adrE [v]) 4)) ∧ Below w.heap.size w w' := by
  have S := Ats.start w
  by_cases k0 : v < 4294967296
  · have k0' : decide ((4294967296 : Int) ≤ (v : Int)) = false := by rw [decide_eq_false_iff_not]; omega
    have K0 := Lib.hid k0
    clear k0
    go_enter Tryd.func78, Tryd.ntmps78
    go_wp2_with (first | ((with_reducible show wpList _ _ _ (Oper.mk _ (Op.load _ _) _ _ _ _ :: _) _ _); refine wpList_oldS rfl _ _ rfl S _ rfl _ (by with_reducible first | exact h0) _ Tryd.underlying54 rfl ?_) | ((with_reducible show wpList _ _ _ (Oper.mk _ (Op.alloc _) _ _ _ _ :: _) _ _); refine wpList_allocS rfl _ rfl _ adZero S ?_; clear S; intro g w1 S) | ((with_reducible show wpList _ _ _ (Oper.mk _ (Op.store _ _ _) _ _ _ _ :: _) _ _); refine wpList_storeS rfl _ _ _ rfl S _ rfl _ rfl 0 _ _ rfl adInfo (by rfl) (by first | exact adCs_one _ _ _ | simp [Value.oneCell']) ?_; clear S; intro w1 S; (first | simp only [List.set_cons_zero] at S | simp only [List.set_cons_succ, List.set_cons_zero] at S | skip)))
    go_loop [5, 25] (fun s i => ∃ k n : Nat, i = .int .i64 k ∧ s = .int .u64 n ∧ ((k = 0 ∧ n = v))) (fun _ i => 0 - (intOf i).toNat)
    case atStart => exact ⟨0, v, rfl, rfl, ⟨rfl, rfl⟩⟩
    case round =>
      obtain ⟨k, n, rfl, rfl, hr⟩ := hrel
      have k0 := K0.out
      obtain ⟨rfl, hn⟩ := hr
      have he : adrE [v] = some (quadN n) := by
        have e1 : adrB [v] = true := by simp [adrB]; omega
        have e2 : adrV [v] = n := by simp only [adrV]; omega
        rw [adrE, if_pos e1, e2]
      have hn2 : n < 4294967296 := by omega
      have HE := Lib.hid he
      clear he hn k0
      go_wp2_with (first | ((with_reducible refine (ret_bytes (v := (n : Int)) (by omega) (by omega) (by omega) (by omega) (n := n) rfl _).mono ?_); rintro e w2 ⟨rfl, hb⟩; have S := S.call hb; clear hb) | ((with_reducible show wpList _ _ _ (Oper.mk _ (Op.load _ _) _ _ _ _ :: _) _ _); refine wpList_oldS rfl _ _ rfl S _ rfl _ (by with_reducible first | exact h0) _ Tryd.underlying54 rfl ?_) | ((with_reducible show wpList _ _ _ (Oper.mk _ (Op.store _ _ _) _ _ _ _ :: _) _ _); refine wpList_storeS rfl _ _ _ rfl S _ rfl _ rfl 0 _ _ rfl adInfo (by rfl) (by first | exact adCs_one _ _ _ | simp [Value.oneCell']) ?_; clear S; intro w1 S; (first | simp only [List.set_cons_zero] at S | simp only [List.set_cons_succ, List.set_cons_zero] at S | skip)))
      exact bodyPost_ret (results_cell2S rfl _ S _ 0 _ _ _ rfl rfl Tryd.underlying25 rfl adInfo) rfl ⟨by rw [HE.out]; rfl, S.below⟩
  · have he : adrE [v] = none := by simp [adrE, adrB]; omega
    have HE := Lib.hid he
    have k0' : decide ((4294967296 : Int) ≤ (v : Int)) = true := by rw [decide_eq_true_eq]; omega
    clear he k0
    go_enter Tryd.func78, Tryd.ntmps78
    go_wp2_with (first | ((with_reducible show wpList _ _ _ (Oper.mk _ (Op.load _ _) _ _ _ _ :: _) _ _); refine wpList_oldS rfl _ _ rfl S _ rfl _ (by with_reducible first | exact h0) _ Tryd.underlying54 rfl ?_) | ((with_reducible show wpList _ _ _ (Oper.mk _ (Op.alloc _) _ _ _ _ :: _) _ _); refine wpList_allocS rfl _ rfl _ adZero S ?_; clear S; intro g w1 S) | ((with_reducible show wpList _ _ _ (Oper.mk _ (Op.store _ _ _) _ _ _ _ :: _) _ _); refine wpList_storeS rfl _ _ _ rfl S _ rfl _ rfl 0 _ _ rfl adInfo (by rfl) (by first | exact adCs_one _ _ _ | simp [Value.oneCell']) ?_; clear S; intro w1 S; (first | simp only [List.set_cons_zero] at S | simp only [List.set_cons_succ, List.set_cons_zero] at S | skip)))
    exact bodyPost_ret (results_cell2S rfl _ S _ 0 _ _ _ rfl rfl Tryd.underlying25 rfl adInfo) rfl ⟨by rw [HE.out]; rfl, S.below⟩
end Go.Proofs.YtkchgjakkogejaaDoor
