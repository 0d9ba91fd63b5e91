/- Layer 12: (*packed.Table).Put of no table; New. -/
import Derived.Test.YtchjhpipiooibaaTabC3
namespace Go.Proofs.Ytchjhpipiooibaa
open Go.RowKit Go
set_option linter.unusedVariables false
theorem newTab_any (w : World) : Calls Try.prog 11 #[] w fun e w' => ∃ g, e = .returned (.pointer (some ⟨g, 0, none⟩)) ∧ w.heap.size ≤ g ∧ At w' g 58 #[.map none] ∧ Below w.heap.size w w' := by
  go_enter Try.func11, Try.ntmps11
  go_wp2
  go_ret
  exact ⟨_, rfl, Nat.le_refl _, At.new w _ _, (Below.refl _ _).alloc (Nat.le_refl _) _⟩
theorem ptab_new {W0 w w' : World} {g : Nat} (hb : Below W0.heap.size W0 w) (hg : w.heap.size ≤ g) (ha : At w' g 58 #[.map none]) (hb2 : Below w.heap.size w w') : PTab W0 w' g [] := by
  have h1 := hb.size
  have h2 := hb2.size
  exact ⟨_, ⟨hb.trans (hb2.mono hb.size), by omega, fun y hy => by simp at hy; subst hy; exact ⟨by show W0.heap.size ≤ g; omega, ha⟩, by simp⟩, .inl ⟨rfl, rfl⟩⟩
set_option maxRecDepth 100000 in
set_option maxHeartbeats 4000000 in
theorem putNil_any (A : Option Addr) (n c : Nat) (l : Lbs) (w : World) (hl : TextsAt w A n l) (hb : sizeL l ≤ 401) (at_ : Int) :
    Calls Try.prog 12 #[.pointer none, .slice A n c, .int .i64 at_] w fun e w' => e = .returned (.tuple #[.string ⟨(putO false l at_ []).1.toArray⟩, .int .i64 (putO false l at_ []).2.2]) ∧ Below w.heap.size w w' := by
  have HC := Lib.hid (check_any A n c l w hl (by omega))
  by_cases h0 : checkL l = 0
  · have hO : putO false l at_ [] = (wireB l, [], 0) := by
      unfold putO
      rw [if_pos h0, Bool.false_and, pkPut_none]
    rw [hO]
    rw [h0] at HC
    have hS := (checkL_ok.1 h0).2
    have HOC := Lib.hid (octets_any A n c l w hl (by omega))
    have HL := Lib.hid hl
    have hlen := size_len l
    have hn4 : n ≤ 400 := by have := hl.1; omega
    have HPl := Lib.hid (fun s w => placeNil_any s w)
    have HLn := Lib.hid (fun s a b w => learnNil_any s a b w)
    obtain ⟨wb, hwb⟩ : ∃ wb : ByteArray, wb = ⟨(wireB l).toArray⟩ := ⟨_, rfl⟩
    have hwz : wb.size = sizeL l := by rw [hwb, ← wireB_len]; rfl
    show Calls _ _ _ _ (fun e w' => e = .returned (.tuple #[.string ⟨(wireB l).toArray⟩, .int .i64 0]) ∧ Below w.heap.size w w')
    rw [← hwb] at HOC ⊢
    have HWZ := Lib.hid hwz
    clear hO h0 hb hl hwb hwz
    go_enter Try.func12, Try.ntmps12
    go_wp2_with (first
      | ((with_reducible refine HC.out.mono ?_); rintro e w2 ⟨rfl, rfl⟩)
      | ((with_reducible refine HOC.out.mono ?_); rintro e w3 ⟨rfl, hb3⟩; have HB3 := Lib.hid hb3; clear hb3))
    go_loopw [10, 24] (fun f i wr => ∃ k : Nat, k ≤ n ∧ i = .int .i64 k ∧ f = .int .i64 (labsB (l.take k)).length ∧ Below w.heap.size w wr) (fun _ i _ => n - (intOf i).toNat)
    case atStart => exact ⟨0, Nat.zero_le _, rfl, rfl, HB3.out⟩
    case round =>
      obtain ⟨k, hk, rfl, rfl, hBW⟩ := hrel
      have hwz := HWZ.out
      by_cases hlt : k < n
      · obtain ⟨b, o, rfl, hbh, hcell⟩ := HL.out.2 (by omega)
        have hkl : k < l.length := by have := HL.out.1; omega
        have c1 := (hBW.cell (p := ⟨b, o + k, none⟩) hbh).trans (hcell k hkl)
        have hlab := labsB_take l k hkl
        have hz1 := labsB_len (l.take k)
        have hz2 := size_at l k hkl
        obtain ⟨x, hx⟩ : ∃ x, x = l[k] := ⟨_, rfl⟩
        rw [← hx] at c1 hlab hz2
        obtain ⟨xb, hxb⟩ : ∃ xb : ByteArray, xb = ⟨x.toArray⟩ := ⟨_, rfl⟩
        have hxz : xb.size = x.length := by rw [hxb]; rfl
        unfold strV at c1
        rw [← hxb] at c1
        obtain ⟨f, hf⟩ : ∃ f, f = (labsB (l.take k)).length := ⟨_, rfl⟩
        rw [← hf] at hz1 ⊢
        have hfb : f ≤ wb.size := by omega
        have hfl : (labsB (l.take (k + 1))).length = f + (x.length + 1) := by rw [hlab, List.length_append, labB_len, ← hf]
        have hx4 : xb.size ≤ 300 := by omega
        have hwz3 : wb.size ≤ 300 := by omega
        have HFX := Lib.hid (show ((labsB (l.take (k + 1))).length : Int) = (f : Int) + ((xb.size : Int) + 1) by rw [hfl, hxz]; omega)
        have hf3 : f ≤ 300 := by omega
        have HBW := Lib.hid hBW
        clear hcell hlab hz1 hz2 hx hxb hxz hf hfl hBW hkl hbh hwz
        go_wp2_with (first
          | ((with_reducible refine (HPl.out _ _).mono ?_); rintro e w2 ⟨rfl, rfl⟩)
          | ((with_reducible refine (HLn.out _ _ _ _).mono ?_); rintro e w2 ⟨rfl, rfl⟩))
        go_roundw
        case rel => exact ⟨k + 1, by omega, by go_num, by rw [HFX.out], HBW.out⟩
        case measure => simp [intOf]; omega
      · have HBW := Lib.hid hBW
        generalize (labsB (l.take k)).length = f
        clear hBW hwz
        go_wp2_with fail
        exact bodyPost_ret (results_tmp2 rfl _ _ _) rfl ⟨rfl, HBW.out⟩
  · have hO : putO false l at_ [] = ([], [], checkL l) := by unfold putO; rw [if_neg h0]
    rw [hO]
    have hb : (checkL l != 0) = true := by simpa using h0
    obtain ⟨x, hx⟩ : ∃ x, x = checkL l := ⟨_, rfl⟩
    rw [← hx] at hb HC ⊢
    clear hO h0 hx hl
    go_enter Try.func12, Try.ntmps12
    go_wp2_with ((with_reducible refine HC.out.mono ?_); rintro e w2 ⟨rfl, rfl⟩)
    exact bodyPost_ret (results_tmp2 rfl _ _ _) rfl ⟨rfl, Below.refl _ _⟩
end Go.Proofs.Ytchjhpipiooibaa
