import Derived.Test.YtkgnhdebphaknaaDoorPuny14
namespace Go.Proofs.YtkgnhdebphaknaaDoor
open Go.RowKit Go
set_option linter.unusedVariables false
theorem refValueB_any (s : ByteArray) (k : Nat) (hk : k < s.size) (w : World) : Calls Tryd.prog 52 #[.int .u8 (s[k].toNat : Int)] w fun e w' => e = .returned (.int .i64 (vB s[k])) ∧ Below w.heap.size w w' :=
  refValue_any (s[k].toNat : Int) w (by omega) (by have := s[k].toNat_lt; omega)
theorem drop_at (s : ByteArray) (k : Nat) (hk : k < s.size) : s.data.toList.drop k = s[k] :: s.data.toList.drop (k + 1) := by
  have : k < s.data.toList.length := by simpa using hk
  rw [List.drop_eq_getElem_cons this]; rfl
def RefNP (s : ByteArray) (a0 : Nat) (b : Int) (w : World) (e : Ending) (w' : World) : Prop :=
  Below w.heap.size w w' ∧
  (((numb b (s.data.toList.drop a0) 1 0 1).1 ≠ 0 ∧ e = .returned (.tuple #[.int .i64 0, .int .i64 0, .int .i64 (numb b (s.data.toList.drop a0) 1 0 1).1])) ∨
   (∃ (d : Int) (a : Nat), numb b (s.data.toList.drop a0) 1 0 1 = (0, d, s.data.toList.drop a) ∧ a ≤ s.size ∧ e = .returned (.tuple #[.int .i64 d, .int .i64 (a : Int), .int .i64 0])))
theorem refNP_no {s : ByteArray} {a0 : Nat} {b : Int} {w w' : World} {x d : Int} {t : List UInt8} (hb : Below w.heap.size w w') (h : numb b (s.data.toList.drop a0) 1 0 1 = (x, d, t)) (hx : x ≠ 0) :
    RefNP s a0 b w (.returned (.tuple #[.int .i64 0, .int .i64 0, .int .i64 x])) w' := ⟨hb, .inl ⟨by rw [h]; exact hx, by rw [h]⟩⟩
theorem refNP_yes {s : ByteArray} {a0 : Nat} {b : Int} {w w' : World} {d : Int} {a : Nat} (hb : Below w.heap.size w w') (h : numb b (s.data.toList.drop a0) 1 0 1 = (0, d, s.data.toList.drop a)) (ha : a ≤ s.size) :
    RefNP s a0 b w (.returned (.tuple #[.int .i64 d, .int .i64 (a : Int), .int .i64 0])) w' := ⟨hb, .inr ⟨d, a, h, ha, rfl⟩⟩
set_option maxRecDepth 100000 in
set_option maxHeartbeats 4000000 in
theorem refNumber3_any (s : ByteArray) (a0 : Nat) (b : Int) (w : World) (ha : a0 ≤ s.size) (hs : s.size ≤ 40000) (b0 : 0 ≤ b) (b1 : b ≤ 1099511627776) :
    Calls Tryd.prog 37 #[.string s, .int .i64 (a0 : Int), .int .i64 b] w (RefNP s a0 b w) := by
  go_enter Tryd.func37, Tryd.ntmps37
  go_wp2
  go_loopw [1, 9, 10, 11] (fun u x y z wr => ∃ (a : Nat) (D W K : Int), u = .int .i64 (a : Int) ∧ x = .int .i64 D ∧ y = .int .i64 W ∧ z = .int .i64 K ∧ a ≤ s.size ∧ Below w.heap.size w wr ∧ Hid (numb b (s.data.toList.drop a0) 1 0 1 = numb b (s.data.toList.drop a) K D W) ∧ 0 ≤ D ∧ D ≤ 4294967295 ∧ 1 ≤ W ∧ W ≤ 4294967295 ∧ 1 ≤ K ∧ K ≤ a + 1) (fun u _ _ _ _ => s.size - (intOf u).toNat)
  case atStart => exact ⟨a0, 0, 1, 1, rfl, rfl, rfl, rfl, ha, Below.refl _ _, Lib.hid rfl, by omega, by omega, by omega, by omega, by omega, by omega⟩
  case round =>
    obtain ⟨a, D, W, K, rfl, rfl, rfl, rfl, hak, HB, hnum, D0, D1, W0, W1, K0, K1⟩ := hrel
    by_cases hlt : a < s.size
    · have hval := fun w => refValueB_any s a hlt w
      have hdr := drop_at s a hlt
      have hbc := vB_bd s[a]
      obtain ⟨F, hF⟩ : ∃ F, F = vB s[a] := ⟨_, rfl⟩
      simp only [← hF] at hval
      have hge := hnum.out
      rw [hdr] at hge
      have HGE := Lib.hid hge
      rw [← hF] at hbc
      have HF := Lib.hid hF
      have HVAL := Lib.hid hval
      have hbd := bnd_bd K b
      have hk := fun w => refBoundL_any K b w K0 (by omega) b0 b1
      obtain ⟨t, ht⟩ : ∃ t, t = bndI K b := ⟨_, rfl⟩
      rw [← ht] at hbd
      simp only [← ht] at hk
      have HK := Lib.hid hk
      have HTT := Lib.hid ht
      obtain ⟨t0, t1⟩ := hbd
      have hb8 : (s[a].toNat : Int) ≤ 255 := by have := s[a].toNat_lt; omega
      have hwz := HB.size
      clear hval hdr hge hF hk ht hnum
      go_wp2_with fail
      ((with_reducible refine (HVAL.out _).mono ?_))
      rintro e w1 ⟨rfl, hb1⟩
      have HB1 := HB.trans (hb1.mono hwz)
      clear hb1 hb8
      by_cases hneg : F < 0
      · have hn := HGE.out.trans (numb_no (by rw [← HF.out]; exact hneg))
        have HN := Lib.hid hn
        clear hn
        go_wp2
        go_ret3
        exact refNP_no HB1 HN.out (by decide)
      have hfw0 : 0 ≤ F * W := Int.mul_nonneg (by omega) (by omega)
      have hfw1 : F * W ≤ 35 * 4294967295 := Int.mul_le_mul (by omega) W1 (by omega) (by omega)
      by_cases h2 : 4294967295 < D + F * W
      · have hn := HGE.out.trans (numb_over (by rw [← HF.out]; omega) (by rw [← HF.out]; exact h2))
        have HN := Lib.hid hn
        have hK := fun w => overY_any (D + F * W) w h2
        have HKO := Lib.hid hK
        clear hn hK
        go_wp2_with ((with_reducible refine (HKO.out _).mono ?_); rintro e w' ⟨rfl, rfl⟩)
        go_ret3
        exact refNP_no HB1 HN.out (by decide)
      have hK := fun w => overN_any (D + F * W) w h2
      have HKO := Lib.hid hK
      clear hK
      by_cases h3 : F < t
      · have hn := HGE.out.trans (numb_end (by rw [← HF.out]; omega) (by rw [← HF.out]; exact h2) (by rw [← HF.out, ← HTT.out]; exact h3))
        rw [← HF.out] at hn
        have HN := Lib.hid hn
        clear hn
        go_wp2_with (first | ((with_reducible refine (HKO.out _).mono ?_); rintro e w' ⟨rfl, rfl⟩) | ((with_reducible refine (HK.out _).mono ?_); rintro e w' ⟨rfl, rfl⟩))
        go_ret3
        exact refNP_yes (a := a + 1) HB1 HN.out (by omega)
      have hw0 : 0 ≤ W * (36 - t) := Int.mul_nonneg (by omega) (by omega)
      have hw1 : W * (36 - t) ≤ 4294967295 * 35 := Int.mul_le_mul W1 (by omega) (by omega) (by omega)
      by_cases h4 : 4294967295 < W * (36 - t)
      · have hn := HGE.out.trans (numb_wide (by rw [← HF.out]; omega) (by rw [← HF.out]; exact h2) (by rw [← HF.out, ← HTT.out]; exact h3) (by rw [← HTT.out]; exact h4))
        have HN := Lib.hid hn
        have hK2 := fun w => overY_any (W * (36 - t)) w h4
        have HKO2 := Lib.hid hK2
        clear hn hK2
        go_wp2_with (first | ((with_reducible refine (HKO.out _).mono ?_); rintro e w' ⟨rfl, rfl⟩) | ((with_reducible refine (HK.out _).mono ?_); rintro e w' ⟨rfl, rfl⟩) | ((with_reducible refine (HKO2.out _).mono ?_); rintro e w' ⟨rfl, rfl⟩))
        go_ret3
        exact refNP_no HB1 HN.out (by decide)
      · have hn := HGE.out.trans (numb_go (by rw [← HF.out]; omega) (by rw [← HF.out]; exact h2) (by rw [← HF.out, ← HTT.out]; exact h3) (by rw [← HTT.out]; exact h4))
        rw [← HF.out, ← HTT.out] at hn
        have hw2 : 1 ≤ W * (36 - t) := by
          have : 1 * 1 ≤ W * (36 - t) := Int.mul_le_mul W0 (by omega) (by omega) (by omega)
          omega
        have HN := Lib.hid hn
        have hK2 := fun w => overN_any (W * (36 - t)) w h4
        have HKO2 := Lib.hid hK2
        clear hn hK2
        go_wp2_with (first | ((with_reducible refine (HKO.out _).mono ?_); rintro e w' ⟨rfl, rfl⟩) | ((with_reducible refine (HK.out _).mono ?_); rintro e w' ⟨rfl, rfl⟩) | ((with_reducible refine (HKO2.out _).mono ?_); rintro e w' ⟨rfl, rfl⟩))
        go_roundw
        case rel => exact ⟨a + 1, D + F * W, W * (36 - t), K + 1, by go_num, rfl, rfl, rfl, by omega, HB1, HN, by omega, by omega, hw2, by omega, by omega, by omega⟩
        case measure => simp [intOf]; omega
    · have hn := hnum.out
      rw [show s.data.toList.drop a = [] from List.drop_eq_nil_of_le (by simp; omega)] at hn
      have HN := Lib.hid (hn.trans (numb_nil b K D W))
      clear hn hnum
      go_wp2
      go_ret3
      exact refNP_no HB HN.out (by decide)
end Go.Proofs.YtkgnhdebphaknaaDoor
