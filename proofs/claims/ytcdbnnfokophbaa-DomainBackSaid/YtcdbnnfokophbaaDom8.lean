/- Names: hosts; small letters, sameness, lying below: the document's. -/
import Derived.Test.YtcdbnnfokophbaaDom5
import Derived.Test.YtcdbnnfokophbaaDom2
import Derived.Test.YtcdbnnfokophbaaLabelHost
namespace Go.Proofs.Ytcdbnnfokophbaa
open Go.RowKit Go
set_option linter.unusedVariables false
def hostN (n : List (List UInt8)) : Bool := !n.isEmpty && n.all hostB && decide (sizeL n ≤ 255)
theorem hostN_bad (l : List (List UInt8)) (k : Nat) (h : k < l.length) (e : hostB l[k] = false) : hostN l = false := by
  unfold hostN
  have : l.all hostB = false := by
    rw [List.all_eq_false]
    exact ⟨l[k], List.getElem_mem h, by rw [e]; simp⟩
  rw [this]; simp
theorem hosts_step (l : List (List UInt8)) (k : Nat) (h : k < l.length) (ha : (l.take k).all hostB = true) (e : hostB l[k] = true) : (l.take (k + 1)).all hostB = true := by
  rw [List.take_succ_eq_append_getElem h, List.all_append, ha]
  simp [e]
theorem hosts_ok (l : List (List UInt8)) (ha : l.all hostB = true) : l.all okLab = true := by
  rw [List.all_eq_true] at ha ⊢
  intro x hx
  have := (hostB_iff x).1 (ha x hx)
  exact (okLab_iff x).2 ⟨by omega, by omega⟩
theorem hostN_end (l : List (List UInt8)) (ha : l.all hostB = true) : hostN l = (decide (0 < l.length) && decide (sizeL l ≤ 255)) := by
  unfold hostN
  rw [ha]
  cases l <;> simp
set_option maxHeartbeats 1000000 in
theorem hostD_any (A : Option Addr) (n c : Nat) (l : List (List UInt8)) (w : World) (hl : TextsAt w A n l) (hb : sizeL l ≤ 5000) :
    Calls Try.prog 21 #[.slice A n c] w fun e w' => e = .returned (.bool (hostN l)) ∧ Below w.heap.size w w' := by
  obtain rfl := hl.1
  go_enter Try.func21, Try.ntmps21
  go_wp2_with fail
  go_loopw [7] (fun i wr => ∃ k : Nat, k ≤ l.length ∧ i = .int .i64 k ∧ Below w.heap.size w wr ∧ Hid ((l.take k).all hostB = true)) (fun i _ => l.length - (intOf i).toNat)
  case atStart => exact ⟨0, Nat.zero_le _, rfl, Below.refl _ _, Lib.hid rfl⟩
  case round =>
    obtain ⟨k, hk, rfl, HB, HA⟩ := hrel
    have hsl := size_len l
    have hsz := HB.size
    by_cases hkl : k < l.length
    · obtain ⟨b, o, rfl, hbh, hcell⟩ := hl.2 (by omega)
      have h1 := hcell k hkl
      rw [← HB.cell (p := ⟨b, o + k, none⟩) hbh] at h1
      have hm := size_at l k hkl
      have hbad := hostN_bad l k hkl
      have hgo := hosts_step l k hkl HA.out
      obtain ⟨x, hx⟩ : ∃ x, x = l[k] := ⟨_, rfl⟩
      rw [← hx] at h1 hm hbad hgo
      unfold strV at h1
      obtain ⟨s, hs1, rfl, hs2⟩ := ba_of x
      rw [hs1] at h1
      rw [hs2] at hm
      have HBAD := Lib.hid hbad; have HGO := Lib.hid hgo
      have hho := host_any s wr (by omega)
      have HHO := Lib.hid hho
      clear hcell hx hs1 hs2 hbad hgo hho
      go_wp2_with fail
      with_reducible refine HHO.out.mono ?_
      rintro e w1 ⟨rfl, hb1⟩
      have HB1 := HB.trans (hb1.mono hsz)
      cases hh : hostB s.data.toList with
      | true =>
        have HG := Lib.hid (HGO.out hh)
        clear hh HBAD HGO HHO
        go_wp2_with fail
        go_roundw
        case rel => exact ⟨k + 1, by omega, by go_num, HB1, HG⟩
        case measure => simp [intOf]; omega
      | false =>
        have HF := Lib.hid (HBAD.out hh)
        clear hh HBAD HGO HHO
        go_wp2_with fail
        go_ret
        exact ⟨ret_bool HF.out.symm, HB1⟩
    · have ha := HA.out
      rw [List.take_of_length_le (by omega)] at ha
      have hend := hostN_end l ha
      have hch := check_end l _ l.length rfl (by omega) (by rw [List.take_of_length_le (Nat.le_refl _)]; exact hosts_ok l ha)
      by_cases h0 : l.length = 0
      · have HE := Lib.hid hend
        have t0 : ¬ (0 < (l.length : Int)) := by omega
        have hf : hostN l = false := by rw [hend]; simp; omega
        have HF := Lib.hid hf
        clear hend ha hch h0 hf
        go_wp2_with fail
        go_ret
        exact ⟨ret_bool HF.out.symm, HB⟩
      · have hck := check_any A l.length c l wr (hl.below HB) (by omega)
        rw [hch] at hck
        have t0 : (0 < (l.length : Int)) := by omega
        by_cases hbig : 255 < sizeL l
        · rw [if_pos hbig] at hck
          have hf : hostN l = false := by rw [hend]; simp; omega
          have HF := Lib.hid hf
          have HCK := Lib.hid hck
          clear hend ha hch h0 hf hck hbig
          go_wp2_with fail
          with_reducible refine HCK.out.mono ?_
          rintro e w3 ⟨rfl, rfl⟩
          go_wp2_with fail
          go_ret
          exact ⟨ret_bool HF.out.symm, HB⟩
        · rw [if_neg hbig] at hck
          have hf : hostN l = true := by rw [hend]; simp; omega
          have HF := Lib.hid hf
          have HCK := Lib.hid hck
          clear hend ha hch h0 hf hck hbig
          go_wp2_with fail
          with_reducible refine HCK.out.mono ?_
          rintro e w3 ⟨rfl, rfl⟩
          go_wp2_with fail
          go_ret
          exact ⟨ret_bool HF.out.symm, HB⟩
set_option maxHeartbeats 1000000 in
theorem refHostD_any (A : Option Addr) (n c : Nat) (l : List (List UInt8)) (w : World) (hl : TextsAt w A n l) (hb : sizeL l ≤ 5000) :
    Calls Try.prog 22 #[.slice A n c] w fun e w' => e = .returned (.bool (hostN l)) ∧ w = w' := by
  obtain rfl := hl.1
  go_enter Try.func22, Try.ntmps22
  go_wp2_with fail
  go_loop [3] (fun i => ∃ k : Nat, k ≤ l.length ∧ i = .int .i64 k ∧ Hid ((l.take k).all hostB = true)) (fun i => l.length - (intOf i).toNat)
  case atStart => exact ⟨0, Nat.zero_le _, rfl, Lib.hid rfl⟩
  case round =>
    obtain ⟨k, hk, rfl, HA⟩ := hrel
    have hsl := size_len l
    by_cases hkl : k < l.length
    · obtain ⟨b, o, rfl, hbh, hcell⟩ := hl.2 (by omega)
      have h1 := hcell k hkl
      have hm := size_at l k hkl
      have hbad := hostN_bad l k hkl
      have hgo := hosts_step l k hkl HA.out
      obtain ⟨x, hx⟩ : ∃ x, x = l[k] := ⟨_, rfl⟩
      rw [← hx] at h1 hm hbad hgo
      unfold strV at h1
      obtain ⟨s, hs1, rfl, hs2⟩ := ba_of x
      rw [hs1] at h1
      rw [hs2] at hm
      have HBAD := Lib.hid hbad; have HGO := Lib.hid hgo
      have hho := refHost_any s w (by omega)
      have HHO := Lib.hid hho
      clear hcell hx hs1 hs2 hbad hgo hho
      go_wp2_with fail
      with_reducible refine HHO.out.mono ?_
      rintro e w1 ⟨rfl, rfl⟩
      cases hh : hostB s.data.toList with
      | true =>
        have HG := Lib.hid (HGO.out hh)
        clear hh HBAD HGO HHO
        go_wp2_with fail
        go_round
        case rel => exact ⟨k + 1, by omega, by go_num, HG⟩
        case measure => simp [intOf]; omega
      | false =>
        have HF := Lib.hid (HBAD.out hh)
        clear hh HBAD HGO HHO
        go_wp2_with fail
        go_ret
        exact ⟨ret_bool HF.out.symm, rfl⟩
    · have ha := HA.out
      rw [List.take_of_length_le (by omega)] at ha
      have hend := hostN_end l ha
      by_cases h0 : l.length = 0
      · have t0 : ¬ (0 < (l.length : Int)) := by omega
        have hf : hostN l = false := by rw [hend]; simp; omega
        have HF := Lib.hid hf
        clear hend ha h0 hf
        go_wp2_with fail
        go_ret
        exact ⟨ret_bool HF.out.symm, rfl⟩
      · have hck := refSize_any A l.length c l w hl (by omega)
        have t0 : (0 < (l.length : Int)) := by omega
        have HCK := Lib.hid hck
        have HE := Lib.hid hend
        by_cases hbig : sizeL l ≤ 255
        · have hf : hostN l = true := by rw [hend]; simp; omega
          have HF := Lib.hid hf
          clear hend ha h0 hf hck
          go_wp2_with fail
          with_reducible refine HCK.out.mono ?_
          rintro e w3 ⟨rfl, rfl⟩
          go_wp2_with fail
          go_ret
          exact ⟨ret_bool (by rw [HF.out]; simp; omega), rfl⟩
        · have hf : hostN l = false := by rw [hend]; simp; omega
          have HF := Lib.hid hf
          clear hend ha h0 hf hck
          go_wp2_with fail
          with_reducible refine HCK.out.mono ?_
          rintro e w3 ⟨rfl, rfl⟩
          go_wp2_with fail
          go_ret
          exact ⟨ret_bool (by rw [HF.out]; simp; omega), rfl⟩
/- small letters; the document's -/
def lowN (n : List (List UInt8)) : List (List UInt8) := n.map fun l => l.map lowB
def sameN (a b : List (List UInt8)) : Bool := decide (lowN a = lowN b)
def underN (a b : List (List UInt8)) : Bool := decide (b.length ≤ a.length) && sameN (a.drop (a.length - b.length)) b
theorem lowN_take (l : List (List UInt8)) (k : Nat) (h : k < l.length) : lowN (l.take (k + 1)) = lowN (l.take k) ++ [l[k].map lowB] := by
  unfold lowN
  rw [List.take_succ_eq_append_getElem h, List.map_append]
  rfl
theorem lowN_len (l : List (List UInt8)) : (lowN l).length = l.length := by unfold lowN; simp
theorem lowN_size (l : List (List UInt8)) : sizeL (lowN l) = sizeL l := by
  unfold sizeL lowN
  induction l with
  | nil => rfl
  | cons a l ih => simp at ih ⊢; omega
set_option maxHeartbeats 1000000 in
theorem refLowerD_any (A : Option Addr) (n c : Nat) (l : List (List UInt8)) (w : World) (hl : TextsAt w A n l) (hb : sizeL l ≤ 3000) :
    Calls Try.prog 24 #[.slice A n c] w fun e w' => ∃ A' c', e = .returned (.slice A' (lowN l).length c') ∧ TextsAt w' A' (lowN l).length (lowN l) ∧ Below w.heap.size w w' := by
  obtain rfl := hl.1
  go_enter Try.func24, Try.ntmps24
  go_wp2_with fail
  go_loopw [3, 4] (fun v i wr => ∃ k : Nat, k ≤ l.length ∧ i = .int .i64 k ∧ wr.ownsRow w.heap.size 9 1 v (lowN (l.take k)).length (strVs (lowN (l.take k))) ∧ Below w.heap.size w wr) (fun _ i _ => l.length - (intOf i).toNat)
  case atStart => exact ⟨0, Nat.zero_le _, rfl, World.ownsRow_nil _ _ _ _, Below.refl _ _⟩
  case round =>
    obtain ⟨k, hk, rfl, hown, HB⟩ := hrel
    have hsl := size_len l
    have hsz := HB.size
    by_cases hkl : k < l.length
    · obtain ⟨b, o, rfl, hbh, hcell⟩ := hl.2 (by omega)
      have h1 := hcell k hkl
      rw [← HB.cell (p := ⟨b, o + k, none⟩) hbh] at h1
      have hm := size_at l k hkl
      have ht := lowN_take l k hkl
      have hll := lowN_len (l.take k)
      rw [List.length_take, Nat.min_eq_left hk] at hll
      obtain ⟨x, hx⟩ : ∃ x, x = l[k] := ⟨_, rfl⟩
      obtain ⟨L, hL⟩ : ∃ L, L = lowN (l.take k) := ⟨_, rfl⟩
      rw [← hx] at h1 hm ht
      rw [← hL] at ht hown hll
      unfold strV at h1
      obtain ⟨s, hs1, rfl, hs2⟩ := ba_of x
      rw [hs1] at h1
      rw [hs2] at hm
      have HT := Lib.hid ht
      have hlo := refLower_any s wr (by omega)
      have HLO := Lib.hid hlo
      have HLL := Lib.hid hll
      have hll2 : L.length ≤ 3000 := by omega
      clear hcell hx hs1 hs2 ht hlo hL hll
      go_wp2_with fail
      with_reducible refine HLO.out.mono ?_
      rintro e w1 ⟨rfl, hb1⟩
      have hown1 := ownsRow_below hown hb1
      have HB1 := HB.trans (hb1.mono hsz)
      have hsz1 := HB1.size
      clear hown hb1 hsz HB
      go_wp2_with (at_builtin; refine wpList_app1 rfl (.tmp 11) (.tmp 17) 23 9 rfl Try.underlying23 elem9 rfl w.heap.size _ L.length _ _ rfl rfl hown1 rfl (by omega) (by omega) hsz1 ?_)
      intro v' w' hown' HB' hne
      have hown2 := own_app1 hown'
      rw [← HT.out] at hown2
      clear hown'
      go_wp2_with fail
      go_roundw
      case rel => exact ⟨k + 1, by omega, by go_num, hown2, HB1.trans HB'⟩
      case measure => simp [intOf]; omega
    · rw [List.take_of_length_le (by omega)] at hown
      obtain ⟨A2, c2, rfl, hta⟩ := TextsAt.of_own hown
      clear hown
      obtain ⟨L, hL⟩ : ∃ L, L = lowN l := ⟨_, rfl⟩
      have HL := Lib.hid hL
      rw [← hL] at hta ⊢
      clear hL
      go_wp2_with fail
      go_ret
      have hL2 := HL.out
      subst hL2
      exact ⟨A2, c2, rfl, hta, HB⟩
end Go.Proofs.Ytcdbnnfokophbaa
