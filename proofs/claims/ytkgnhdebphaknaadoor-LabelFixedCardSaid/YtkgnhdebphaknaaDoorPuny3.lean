import Derived.Test.YtkgnhdebphaknaaDoorPuny2
namespace Go.Proofs.YtkgnhdebphaknaaDoor
open Go.RowKit Go
set_option linter.unusedVariables false
abbrev figTab : ByteArray := { data := #[97, 98, 99, 100, 101, 102, 103, 104, 105, 106, 107, 108, 109, 110, 111, 112, 113, 114, 115, 116, 117, 118, 119, 120, 121, 122, 48, 49, 50, 51, 52, 53, 54, 55, 56, 57] }
theorem fig_tab0 : ∀ k : Fin 36, figTab[k.val]'(k.isLt) = figC (k.val : Int) := by decide +kernel
theorem fig_ext0 : ∀ k : Fin 36, figTab.extract k.val (k.val + 1) = ⟨#[figC (k.val : Int)]⟩ := by decide +kernel
theorem fig_ext {f : Int} (h0 : 0 ≤ f) (h1 : f ≤ 35) : figTab.extract f.toNat (f + 1).toNat = ⟨#[figC f]⟩ := by
  obtain ⟨n, rfl⟩ := Int.eq_ofNat_of_zero_le h0
  have := fig_ext0 ⟨n, by omega⟩
  simpa using this
theorem ba_app (o : List UInt8) (c : UInt8) : (⟨o.toArray⟩ : ByteArray) ++ ⟨#[c]⟩ = ⟨(o ++ [c]).toArray⟩ := by
  rw [show (⟨#[c]⟩ : ByteArray) = ⟨([c] : List UInt8).toArray⟩ from rfl, ByteArray.mk_append_mk]; first | done | simp
theorem ba_app2 (o p : List UInt8) : (⟨o.toArray⟩ : ByteArray) ++ ⟨p.toArray⟩ = ⟨(o ++ p).toArray⟩ := by
  rw [ByteArray.mk_append_mk]; first | done | simp
theorem pow_ten : (8589934592 : Int) < 10 ^ 10 := by decide
set_option maxHeartbeats 1000000 in
theorem figures_any (d b : Int) (w : World) (d0 : 0 ≤ d) (d1 : d ≤ 8589934592) (b0 : 0 ≤ b) (b1 : b ≤ 1099511627776) :
    Calls Tryd.prog 32 #[.int .i64 d, .int .i64 b] w fun e w' => e = .returned (.string ⟨(figs d 1 b).toArray⟩) ∧ w = w' := by
  obtain ⟨F, hF⟩ : ∃ F, F = figs d 1 b := ⟨_, rfl⟩
  have HF := Lib.hid hF
  rw [← hF]
  clear hF
  have H0 : Hid (d < 10 ^ 10) := Lib.hid (Int.lt_of_le_of_lt d1 pow_ten)
  go_enter Tryd.func32, Tryd.ntmps32
  go_wp2
  go_loop [0, 5, 6] (fun v s u => ∃ a k : Int, ∃ o : List UInt8, ∃ m : Nat, v = .int .i64 a ∧ s = .string ⟨o.toArray⟩ ∧ u = .int .i64 k ∧ 0 ≤ a ∧ a ≤ 8589934592 ∧ 1 ≤ k ∧ k + (m : Int) ≤ 12 ∧ Hid (a < 10 ^ m) ∧ (o.length : Int) + 1 ≤ k ∧ F = o ++ figs a k b) (fun _ _ u => (100 - intOf u).toNat)
  case atStart => exact ⟨d, 1, [], 10, rfl, rfl, rfl, by omega, by omega, by omega, by omega, H0, by simp, HF.out⟩
  case round =>
    obtain ⟨a, k, o, m, rfl, rfl, rfl, a0, a1, k0, k1, hm, ho, hf⟩ := hrel
    have hk := fun w => refBound_any k b w k0 (by omega) b0 b1
    have hbd := bnd_bd k b
    have hg := fun h => figs_go (d := a) (k := k) (b := b) h
    have he := fun h => figs_end (d := a) (k := k) (b := b) h
    have ht := fun h => figs_ten (d := a) (k := k) (b := b) (m := m) h hm.out
    obtain ⟨t, htt⟩ : ∃ t, t = bndI k b := ⟨_, rfl⟩
    rw [← htt] at hbd hg he
    simp only [← htt] at hk ht
    have HK := Lib.hid hk
    have HG := Lib.hid hg
    have HE := Lib.hid he
    have HT := Lib.hid ht
    have HFF := Lib.hid hf
    clear hk hg he ht htt hf
    obtain ⟨t0, t1⟩ := hbd
    by_cases hlt : t ≤ a
    · have hz : (36 - t == 0) = false := by simp; omega
      have m0 := Int.emod_nonneg (a - t) (show 36 - t ≠ 0 by omega)
      have m1 := Int.emod_lt_of_pos (a - t) (show 0 < 36 - t by omega)
      obtain ⟨d2, d3⟩ := half_bd (a - t) (36 - t) (by omega) (by omega)
      have hx := fig_ext (f := t + (a - t) % (36 - t)) (by omega) (by omega)
      obtain ⟨m', rfl, hm2, _⟩ := HT.out hlt
      have HM := Lib.hid hm2
      have HX := Lib.hid hx
      have hal : ¬ a < t := by omega
      have HL := Lib.hid (HG.out hlt)
      clear hx hm2 hm
      go_wp2_with ((with_reducible refine (HK.out _).mono ?_); rintro e w' ⟨rfl, rfl⟩)
      go_round
      case rel => exact ⟨(a - t) / (36 - t), k + 1, o ++ [figC (t + (a - t) % (36 - t))], m', rfl, by rw [HX.out, ba_app], rfl, by omega, by omega, by omega, by omega, HM, by simp; omega, by rw [HFF.out, HL.out]; simp⟩
      case measure => simp [intOf]; omega
    · have hlt' : a < t := by omega
      have hx := fig_ext (f := a) (by omega) (by omega)
      have HX := Lib.hid hx
      have HL := Lib.hid (HE.out hlt)
      clear hx
      go_wp2_with ((with_reducible refine (HK.out _).mono ?_); rintro e w' ⟨rfl, rfl⟩)
      go_ret
      exact ⟨by rw [HX.out, ba_app, HFF.out, HL.out]; rfl, rfl⟩
end Go.Proofs.YtkgnhdebphaknaaDoor
