import Derived.Test.YtkgnhdebphaknaaDoorPuny10
namespace Go.Proofs.YtkgnhdebphaknaaDoor
open Go.RowKit Go
set_option linter.unusedVariables false
set_option maxHeartbeats 400000 in
theorem boundL_any (k b : Int) (w : World) (k0 : 1 ≤ k) (k1 : k ≤ 100000) (b0 : 0 ≤ b) (b1 : b ≤ 1099511627776) :
    Calls Tryd.prog 58 #[.int .i64 k, .int .i64 b] w fun e w' => e = .returned (.int .i64 (bndI k b)) ∧ w = w' := by
  go_enter Tryd.func58, Tryd.ntmps58
  go_wp2
  all_goals
    go_ret
    exact ⟨ret_int (by unfold bndI; omega), rfl⟩
set_option maxHeartbeats 400000 in
theorem refBoundL_any (k b : Int) (w : World) (k0 : 1 ≤ k) (k1 : k ≤ 100000) (b0 : 0 ≤ b) (b1 : b ≤ 1099511627776) :
    Calls Tryd.prog 44 #[.int .i64 k, .int .i64 b] w fun e w' => e = .returned (.int .i64 (bndI k b)) ∧ w = w' := by
  go_enter Tryd.func44, Tryd.ntmps44
  go_wp2
  all_goals
    go_ret
    exact ⟨ret_int (by unfold bndI; omega), rfl⟩
theorem only_setCell {a w : World} {g i : Nat} (h : a.grownBy w (some g)) (u : Value) : a.grownBy (w.setCell ⟨g, i, none⟩ u) (some g) :=
  ⟨h.os, h.tape, h.output, by simpa [World.setCell] using h.size, fun k hk hne => (Below.heap_setCell w ⟨g, i, none⟩ u k (by
    rintro rfl
    exact hne rfl)).trans (h.block k hk hne)⟩
/-- what number does: the number whose figures come next -/
def NumRP (g : Nat) (v : Value) (n a b : Int) (f : Bool) (l : List UInt8) (w : World) (e : Ending) (w' : World) : Prop :=
  w.grownBy w' (some g) ∧ ∃ r' : ByteArray, At w' g 60 (rdC r' v n a b f) ∧
  (((numb b l 1 0 1).1 ≠ 0 ∧ e = .returned (.tuple #[.int .i64 0, .int .i64 (numb b l 1 0 1).1])) ∨
   ((numb b l 1 0 1).1 = 0 ∧ e = .returned (.tuple #[.int .i64 (numb b l 1 0 1).2.1, .int .i64 0]) ∧ r'.data.toList = (numb b l 1 0 1).2.2))
theorem numRP_no {g : Nat} {v : Value} {n a b : Int} {f : Bool} {l : List UInt8} {w w' : World} {x d : Int} {t : List UInt8} {r' : ByteArray} (hg : w.grownBy w' (some g)) (ha : At w' g 60 (rdC r' v n a b f)) (h : numb b l 1 0 1 = (x, d, t)) (hx : x ≠ 0) :
    NumRP g v n a b f l w (.returned (.tuple #[.int .i64 0, .int .i64 x])) w' := ⟨hg, r', ha, .inl ⟨by rw [h]; exact hx, by rw [h]⟩⟩
theorem numRP_yes {g : Nat} {v : Value} {n a b : Int} {f : Bool} {l : List UInt8} {w w' : World} {d : Int} {r' : ByteArray} (hg : w.grownBy w' (some g)) (ha : At w' g 60 (rdC r' v n a b f)) (h : numb b l 1 0 1 = (0, d, r'.data.toList)) :
    NumRP g v n a b f l w (.returned (.tuple #[.int .i64 d, .int .i64 0])) w' := ⟨hg, r', ha, .inr ⟨by rw [h], by rw [h], by rw [h]⟩⟩
set_option maxRecDepth 100000 in
set_option maxHeartbeats 4000000 in
theorem rnumber_any (g : Nat) (r : ByteArray) (v : Value) (n a b : Int) (f : Bool) (w : World) (hat : At w g 60 (rdC r v n a b f)) (hs : r.size ≤ 40000) (b0 : 0 ≤ b) (b1 : b ≤ 1099511627776) :
    Calls Tryd.prog 48 #[.pointer (some ⟨g, 0, none⟩)] w (NumRP g v n a b f r.data.toList w) := by
  obtain ⟨R, hR⟩ : ∃ R, R = numb b r.data.toList 1 0 1 := ⟨_, rfl⟩
  have HR := Lib.hid hR
  have HAT := Lib.hid hat
  clear hR hat
  go_enter Tryd.func48, Tryd.ntmps48
  go_wp2
  go_loopw [4, 5, 6] (fun x y z wr => ∃ (D W K : Int) (rr : ByteArray), x = .int .i64 D ∧ y = .int .i64 W ∧ z = .int .i64 K ∧ At wr g 60 (rdC rr v n a b f) ∧ w.grownBy wr (some g) ∧ Hid (numb b r.data.toList 1 0 1 = numb b rr.data.toList K D W) ∧ 0 ≤ D ∧ D ≤ 4294967295 ∧ 1 ≤ W ∧ W ≤ 4294967295 ∧ 1 ≤ K ∧ K + (rr.size : Int) ≤ 40001) (fun _ _ z _ => (50000 - intOf z).toNat)
  case atStart => exact ⟨0, 1, 1, r, rfl, rfl, rfl, HAT.out, World.grownBy.refl _ _, Lib.hid rfl, by omega, by omega, by omega, by omega, by omega, by omega⟩
  case round =>
    obtain ⟨D, W, K, rr, rfl, rfl, rfl, hat, hgr, hnum, D0, D1, W0, W1, K0, K1⟩ := hrel
    have hfig := figure_any g rr v n a b f wr hat (by omega)
    have HFIG := Lib.hid hfig
    have hbd := bnd_bd K b
    have hk := fun w => boundL_any K b w K0 (by omega) b0 b1
    have HAT2 := Lib.hid hat
    obtain ⟨t, ht⟩ : ∃ t, t = bndI K b := ⟨_, rfl⟩
    rw [← ht] at hbd
    simp only [← ht] at hk
    have HK := Lib.hid hk
    have HTT := Lib.hid ht
    obtain ⟨t0, t1⟩ := hbd
    clear hfig hk ht hat
    go_wp2_with fail
    ((with_reducible refine HFIG.out.mono ?_))
    rintro e w' (⟨hl, rfl, rfl⟩ | ⟨c, q, hl, rfl, (⟨hc, rfl⟩ | ⟨hc, rfl⟩)⟩)
    · have hn : numb b r.data.toList 1 0 1 = (5, 0, []) := by rw [hnum.out, hl]; rfl
      have HN := Lib.hid hn
      clear hn hl
      go_wp2
      go_ret2
      exact numRP_no hgr HAT2.out HN.out (by decide)
    · have hn : numb b r.data.toList 1 0 1 = (5, 0, []) := by rw [hnum.out, hl]; exact numb_no hc
      have HN := Lib.hid hn
      clear hn hl hc
      go_wp2
      go_ret2
      exact numRP_no (only_setCell hgr _) (HAT2.out.put 0 (.string q)) HN.out (by decide)
    · have hat3 : At (wr.setCell ⟨g, 0, none⟩ (.string q)) g 60 (rdC q v n a b f) := HAT2.out.put 0 (.string q)
      have hgr3 := only_setCell (i := 0) hgr (.string q)
      have hqs : (q.size : Int) + 1 ≤ rr.size := by
        have := congrArg List.length hl
        simp at this
        omega
      have hbc := vB_bd c
      obtain ⟨F, hF⟩ : ∃ F, F = vB c := ⟨_, rfl⟩
      have hge := hnum.out
      rw [hl] at hge
      have hfw0 : 0 ≤ F * W := Int.mul_nonneg (by omega) (by omega)
      have hfw1 : F * W ≤ 35 * 4294967295 := Int.mul_le_mul (by omega) W1 (by omega) (by omega)
      rw [← hF] at hc hbc
      rw [← hF]
      have HGE := Lib.hid hge
      have HF := Lib.hid hF
      have HAT3 := Lib.hid hat3
      have HGR3 := Lib.hid hgr3
      clear hge hl hF hgr3 hnum
      generalize (wr.setCell ⟨g, 0, none⟩ (.string q)) = w3 at HAT3 HGR3 hat3 ⊢
      have c4 : w3.cell? ⟨g, 4, none⟩ = some (.int .i64 b) := hat3.cells 4 rfl
      clear hat3
      by_cases h2 : 4294967295 < D + F * W
      · have hn := HGE.out.trans (numb_over (by rw [← HF.out]; omega) (by rw [← HF.out]; exact h2))
        have HN := Lib.hid hn
        clear hn
        go_wp2
        go_ret2
        exact numRP_no HGR3.out HAT3.out HN.out (by decide)
      · by_cases h3 : F < t
        · have hn := HGE.out.trans (numb_end (by rw [← HF.out]; omega) (by rw [← HF.out]; exact h2) (by rw [← HF.out, ← HTT.out]; exact h3))
          rw [← HF.out] at hn
          have HN := Lib.hid hn
          clear hn
          go_wp2_with ((with_reducible refine (HK.out _).mono ?_); rintro e w' ⟨rfl, rfl⟩)
          go_ret2
          exact numRP_yes HGR3.out HAT3.out HN.out
        · have hw0 : 0 ≤ W * (36 - t) := Int.mul_nonneg (by omega) (by omega)
          have hw1 : W * (36 - t) ≤ 4294967295 * 35 := Int.mul_le_mul W1 (by omega) (by omega) (by omega)
          by_cases h4 : 4294967295 < W * (36 - t)
          · have hn := HGE.out.trans (numb_wide (by rw [← HF.out]; omega) (by rw [← HF.out]; exact h2) (by rw [← HF.out, ← HTT.out]; exact h3) (by rw [← HTT.out]; exact h4))
            have HN := Lib.hid hn
            clear hn
            go_wp2_with ((with_reducible refine (HK.out _).mono ?_); rintro e w' ⟨rfl, rfl⟩)
            go_ret2
            exact numRP_no HGR3.out HAT3.out HN.out (by decide)
          · have hn := HGE.out.trans (numb_go (by rw [← HF.out]; omega) (by rw [← HF.out]; exact h2) (by rw [← HF.out, ← HTT.out]; exact h3) (by rw [← HTT.out]; exact h4))
            rw [← HF.out, ← HTT.out] at hn
            have hw2 : 1 ≤ W * (36 - t) := by
              have : 1 * 1 ≤ W * (36 - t) := Int.mul_le_mul W0 (by omega) (by omega) (by omega)
              omega
            have HN := Lib.hid hn
            clear hn
            go_wp2_with ((with_reducible refine (HK.out _).mono ?_); rintro e w' ⟨rfl, rfl⟩)
            go_roundw
            case rel => exact ⟨D + F * W, W * (36 - t), K + 1, q, rfl, rfl, rfl, HAT3.out, HGR3.out, HN, by omega, by omega, hw2, by omega, by omega, by omega⟩
            case measure => simp [intOf]; omega
end Go.Proofs.YtkgnhdebphaknaaDoor
