/- Names written: domain.write, Text, Plain. -/
import Derived.Test.YtcdbnnfokophbaaDom
import Derived.Test.YtcdbnnfokophbaaBld
namespace Go.Proofs.Ytcdbnnfokophbaa
open Go.RowKit Go
set_option linter.unusedVariables false
abbrev Bd (B b : Nat) (l : List UInt8) (w : World) : Prop := Lib.IsBuilderF 56 5 B b (Lib.byteCells l) w
theorem wb (B b : Nat) (acc : List UInt8) (c : UInt8) (x : Int) (w : World) (hx : x = (c.toNat : Int)) (h : Bd B b acc w) (hlen : acc.length ≤ 1000000) (hB : B ≤ w.heap.size) :
    Calls Try.prog 36 #[.pointer (some ⟨b, 0, none⟩), .int .u8 x] w fun e w' => e = .returned .nilIface ∧ Bd B b (acc ++ [c]) w' ∧ Below B w w' := by
  refine (writeByte_k B b (Lib.byteCells acc) x w h (by rw [Lib.byteCells_length]; omega) hB).mono ?_
  rintro e w1 ⟨rfl, h1, h2, h3⟩
  refine ⟨rfl, ?_, h2⟩
  rw [hx] at h1
  unfold Bd
  rw [Lib.byteCells_append]
  exact Or.inr h1
theorem esc_dot (c : UInt8) (h : c.toNat = 46 ∨ c.toNat = 92) : escB c = [92, c] := by unfold escB; rw [if_pos h]
theorem esc_num (c : UInt8) (h : ¬ (c.toNat = 46 ∨ c.toNat = 92)) (h2 : c.toNat < 33 ∨ 126 < c.toNat) : escB c = [92, UInt8.ofNat (48 + c.toNat / 100), UInt8.ofNat (48 + c.toNat / 10 % 10), UInt8.ofNat (48 + c.toNat % 10)] := by unfold escB; rw [if_neg h, if_pos h2]
theorem esc_one (c : UInt8) (h : ¬ (c.toNat = 46 ∨ c.toNat = 92)) (h2 : ¬ (c.toNat < 33 ∨ 126 < c.toNat)) : escB c = [c] := by unfold escB; rw [if_neg h, if_neg h2]
theorem esc_app (acc : List UInt8) (a b c d : UInt8) : acc ++ [a] ++ [b] ++ [c] ++ [d] = acc ++ [a, b, c, d] := by simp
theorem num_d (n k : Nat) (h : n < 10) (hk : k = 48 + n) : ((UInt8.ofNat k).toNat : Int) = 48 + n := by
  subst hk
  rw [UInt8.toNat_ofNat_of_lt' (by simp [UInt8.size]; omega)]; rfl
set_option maxHeartbeats 1000000 in
theorem dWrite_any (B b : Nat) (acc : List UInt8) (c : UInt8) (w : World) (h : Bd B b acc w) (hlen : acc.length ≤ 100000) (hB : B ≤ w.heap.size) :
    Calls Try.prog 35 #[.pointer (some ⟨b, 0, none⟩), .int .u8 c.toNat] w fun e w' => e = .returned (.tuple #[]) ∧ Bd B b (acc ++ escB c) w' ∧ Below B w w' := by
  have hc0 := c.toNat_lt
  by_cases h1 : c.toNat = 46 ∨ c.toNat = 92
  · have HE := Lib.hid (esc_dot c h1)
    have ht : ((c.toNat : Int) == 46 || (c.toNat : Int) == 92) = true := by
      rcases h1 with h | h <;> simp [h]
    have hgo : Calls Try.prog 36 #[.pointer (some ⟨b, 0, none⟩), .int .u8 92] w fun e w' => e = .returned .nilIface ∧ Calls Try.prog 36 #[.pointer (some ⟨b, 0, none⟩), .int .u8 c.toNat] w' fun e w'' => e = .returned .nilIface ∧ Bd B b (acc ++ escB c) w'' ∧ Below B w w'' := by
      refine (wb B b acc 92 92 w rfl h (by omega) hB).mono ?_
      rintro e w1 ⟨rfl, h2, hb2⟩
      refine ⟨rfl, ?_⟩
      refine (wb B b _ c _ w1 rfl h2 (by simp; omega) (by have := hb2.size; omega)).mono ?_
      rintro e w2 ⟨rfl, h3, hb3⟩
      exact ⟨rfl, by rw [HE.out]; simpa using h3, hb2.trans hb3⟩
    have HGO := Lib.hid hgo
    clear hgo h
    obtain ⟨z, hz⟩ : ∃ z : Int, z = (c.toNat : Int) := ⟨_, rfl⟩
    rw [← hz] at HGO ht ⊢
    have hzz : z = 46 ∨ z = 92 := by omega
    clear hz ht h1
    rcases hzz with rfl | rfl
    all_goals
      go_enter Try.func35, Try.ntmps35
      go_wp2_with fail
      with_reducible refine HGO.out.mono ?_
      rintro e w1 ⟨rfl, h2⟩
      go_wp2_with fail
      with_reducible refine h2.mono ?_
      rintro e w2 ⟨rfl, h3, hb3⟩
      go_wp2_with fail
      go_returns
      exact ⟨rfl, h3, hb3⟩
  · by_cases h2 : c.toNat < 33 ∨ 126 < c.toNat
    · have HE := Lib.hid (esc_num c h1 h2)
      have hgo : Calls Try.prog 36 #[.pointer (some ⟨b, 0, none⟩), .int .u8 92] w fun e w' => e = .returned .nilIface ∧ Calls Try.prog 36 #[.pointer (some ⟨b, 0, none⟩), .int .u8 (48 + (c.toNat : Int) / 100)] w' fun e w'' => e = .returned .nilIface ∧
          Calls Try.prog 36 #[.pointer (some ⟨b, 0, none⟩), .int .u8 (48 + (c.toNat : Int) / 10 % 10)] w'' fun e w3 => e = .returned .nilIface ∧ Calls Try.prog 36 #[.pointer (some ⟨b, 0, none⟩), .int .u8 (48 + (c.toNat : Int) % 10)] w3 fun e w4 => e = .returned .nilIface ∧ Bd B b (acc ++ escB c) w4 ∧ Below B w w4 := by
        refine (wb B b acc 92 92 w rfl h (by omega) hB).mono ?_
        rintro e w1 ⟨rfl, h2, hb2⟩
        refine ⟨rfl, ?_⟩
        refine (wb B b _ (UInt8.ofNat (48 + c.toNat / 100)) _ w1 ?_ h2 (by simp; omega) (by have := hb2.size; omega)).mono ?_
        · rw [num_d (c.toNat / 100) _ (by omega) rfl]; omega
        rintro e w2 ⟨rfl, h3, hb3⟩
        refine ⟨rfl, ?_⟩
        refine (wb B b _ (UInt8.ofNat (48 + c.toNat / 10 % 10)) _ w2 ?_ h3 (by simp; omega) (by have := hb2.size; have := hb3.size; omega)).mono ?_
        · rw [num_d (c.toNat / 10 % 10) _ (by omega) rfl]; omega
        rintro e w3 ⟨rfl, h4, hb4⟩
        refine ⟨rfl, ?_⟩
        refine (wb B b _ (UInt8.ofNat (48 + c.toNat % 10)) _ w3 ?_ h4 (by simp; omega) (by have := hb2.size; have := hb3.size; have := hb4.size; omega)).mono ?_
        · rw [num_d (c.toNat % 10) _ (by omega) rfl]; omega
        rintro e w4 ⟨rfl, h5, hb5⟩
        exact ⟨rfl, by rw [HE.out, ← esc_app]; exact h5, hb2.trans (hb3.trans (hb4.trans hb5))⟩
      have HGO := Lib.hid hgo
      clear hgo h
      obtain ⟨z, hz⟩ : ∃ z : Int, z = (c.toNat : Int) := ⟨_, rfl⟩
      rw [← hz] at HGO ⊢
      have t1 : (z == 46) = false := by simp; omega
      have t2 : (z == 92) = false := by simp; omega
      have hz0 : 0 ≤ z := by omega
      have hz1 : z ≤ 255 := by omega
      have t3 : z < 33 ∨ 126 < z := by omega
      clear hz h1 h2 hc0
      rcases t3 with t3 | t3
      all_goals
        go_enter Try.func35, Try.ntmps35
        go_wp2_with fail
        with_reducible refine HGO.out.mono ?_
        rintro e w1 ⟨rfl, h2⟩
        go_wp2_with fail
        with_reducible refine h2.mono ?_
        rintro e w2 ⟨rfl, h3⟩
        go_wp2_with fail
        with_reducible refine h3.mono ?_
        rintro e w3 ⟨rfl, h4⟩
        go_wp2_with fail
        with_reducible refine h4.mono ?_
        rintro e w4 ⟨rfl, h5, hb5⟩
        go_wp2_with fail
        go_returns
        exact ⟨rfl, h5, hb5⟩
    · have HE := Lib.hid (esc_one c h1 h2)
      have hgo := wb B b acc c c.toNat w rfl h (by omega) hB
      have HGO := Lib.hid hgo
      rw [HE.out]
      clear hgo h HE
      obtain ⟨z, hz⟩ : ∃ z : Int, z = (c.toNat : Int) := ⟨_, rfl⟩
      rw [← hz] at HGO ⊢
      have t1 : (z == 46) = false := by simp; omega
      have t2 : (z == 92) = false := by simp; omega
      have hz0 : 0 ≤ z := by omega
      have hz1 : z ≤ 255 := by omega
      have t3 : ¬ z < 33 := by omega
      have t4 : ¬ 126 < z := by omega
      clear hz h1 h2 hc0
      go_enter Try.func35, Try.ntmps35
      go_wp2_with fail
      with_reducible refine HGO.out.mono ?_
      rintro e w1 ⟨rfl, h2, hb2⟩
      go_wp2_with fail
      go_returns
      exact ⟨rfl, h2, hb2⟩
theorem escB_len (c : UInt8) : (escB c).length ≤ 4 := by
  unfold escB
  split
  · simp
  · split <;> simp
theorem escs_len (l : List UInt8) : (escs l).length ≤ 4 * l.length := by
  unfold escs
  induction l with
  | nil => simp
  | cons c l ih => have := escB_len c; simp only [List.flatMap_cons, List.length_append, List.length_cons]; omega
theorem textD_len (n : List (List UInt8)) : (textD n).length ≤ 4 * sizeL n := by
  unfold textD sizeL
  induction n with
  | nil => simp
  | cons l n ih =>
    have := escs_len l
    simp only [List.flatMap_cons, List.length_append, List.length_cons, List.length_nil, List.map_cons, List.sum_cons]
    omega
theorem escs_take (l : List UInt8) (k : Nat) (h : k < l.length) : escs (l.take (k + 1)) = escs (l.take k) ++ escB l[k] := by
  unfold escs
  rw [List.take_succ_eq_append_getElem h, List.flatMap_append]
  simp only [List.flatMap_cons, List.flatMap_nil, List.append_nil]
theorem textD_take (l : List (List UInt8)) (k : Nat) (h : k < l.length) : textD (l.take (k + 1)) = textD (l.take k) ++ escs l[k] ++ [46] := by
  rw [List.take_succ_eq_append_getElem h, textD_snoc, List.append_assoc]
theorem byte_at (s : ByteArray) (k : Nat) (h : k < s.size) : s.data.toList[k]'(by simpa using h) = s[k] := rfl
theorem ba_of (x : List UInt8) : ∃ s : ByteArray, (⟨x.toArray⟩ : ByteArray) = s ∧ x = s.data.toList ∧ x.length = s.size := ⟨⟨x.toArray⟩, rfl, by simp, by simp [ByteArray.size]⟩
set_option maxHeartbeats 1000000 in
theorem dText_any (A : Option Addr) (n c : Nat) (l : List (List UInt8)) (w : World) (hl : TextsAt w A n l) (hb : sizeL l ≤ 5000) :
    Calls Try.prog 17 #[.slice A n c] w fun e w' => e = .returned (.string ⟨(wrtL l).toArray⟩) ∧ Below w.heap.size w w' := by
  obtain rfl := hl.1
  by_cases hn : l = []
  · have ht : wrtL l = [46] := by rw [hn]; rfl
    rw [ht]
    have h0 : l.length = 0 := by rw [hn]; rfl
    rw [h0] at hl ⊢
    go_enter Try.func17, Try.ntmps17
    go_wp2_with fail
    go_ret
    exact ⟨rfl, Below.refl _ _⟩
  · have ht : wrtL l = textD l := by unfold wrtL; rw [if_neg hn]
    rw [ht]
    have hpos : ((l.length : Int) == 0) = false := by have := List.length_pos_iff.2 hn; simp; omega
    clear hn ht
    go_enter Try.func17, Try.ntmps17
    go_wp2_with fail
    go_loopw [12] (fun i wr => ∃ k : Nat, k ≤ l.length ∧ i = .int .i64 k ∧ Bd w.heap.size w.heap.size (textD (l.take k)) wr ∧ Below w.heap.size w wr) (fun i _ => l.length - (intOf i).toNat)
    case atStart => exact ⟨0, Nat.zero_le _, rfl, Lib.IsBuilderF.of (Lib.fresh_isBuilder _ _ w), (Below.refl _ w).alloc (Nat.le_refl _) _⟩
    case round =>
      obtain ⟨k, hk, rfl, hbd, HB⟩ := hrel
      have hgr := HB.size
      have hsl := size_len l
      by_cases hkl : k < l.length
      · obtain ⟨b, o, rfl, hbh, hcell⟩ := hl.2 (by omega)
        have h1 := hcell k hkl
        rw [← HB.cell (p := ⟨b, o + k, none⟩) hbh] at h1
        have hm := size_at l k hkl
        have ht := textD_take l k hkl
        have htl := textD_len (l.take k)
        obtain ⟨x, hx⟩ : ∃ x, x = l[k] := ⟨_, rfl⟩
        obtain ⟨T, hT⟩ : ∃ T, T = textD (l.take k) := ⟨_, rfl⟩
        rw [← hx] at h1 hm ht
        rw [← hT] at ht hbd htl
        unfold strV at h1
        obtain ⟨s, hs1, rfl, hs2⟩ := ba_of x
        rw [hs1] at h1
        rw [hs2] at hm
        have HT := Lib.hid ht
        clear hcell ht hx hT hs1 hs2
        go_wp2_with fail
        go_loopw [18] (fun i wr2 => ∃ j : Nat, j ≤ s.size ∧ i = .int .i64 j ∧ Bd w.heap.size w.heap.size (T ++ escs (s.data.toList.take j)) wr2 ∧ Below w.heap.size w wr2) (fun i _ => s.size - (intOf i).toNat)
        case atStart => exact ⟨0, Nat.zero_le _, rfl, by simpa [escs] using hbd, HB⟩
        case round =>
          obtain ⟨j, hj, rfl, hbd2, HB2⟩ := hrel
          have hgr2 := HB2.size
          by_cases hjl : j < s.size
          · have hst := escs_take s.data.toList j (by simpa using hjl)
            rw [byte_at s j hjl] at hst
            have hel := escs_len (s.data.toList.take j)
            rw [List.length_take] at hel
            have hwr := dWrite_any w.heap.size w.heap.size _ s[j] _ hbd2 (by rw [List.length_append]; omega) hgr2
            rw [List.append_assoc, ← hst] at hwr
            have HW := Lib.hid hwr
            clear hst hwr
            go_wp2_with fail
            with_reducible refine HW.out.mono ?_
            rintro e w1 ⟨rfl, h2, hb2⟩
            go_wp2_with fail
            go_roundw
            case rel => exact ⟨j + 1, by omega, by go_num, h2, HB2.trans hb2⟩
            case measure => simp [intOf]; omega
          · rw [List.take_of_length_le (by simp; omega)] at hbd2
            have hel := escs_len s.data.toList
            simp only [Array.length_toList, ByteArray.size_data] at hel
            have hwr := wb w.heap.size w.heap.size _ 46 46 _ rfl hbd2 (by rw [List.length_append]; omega) hgr2
            rw [← HT.out] at hwr
            have HW := Lib.hid hwr
            clear hwr
            go_wp2_with fail
            with_reducible refine HW.out.mono ?_
            rintro e w1 ⟨rfl, h2, hb2⟩
            go_wp2_with fail
            go_roundw
            case rel => exact ⟨k + 1, by omega, by go_num, h2, HB2.trans hb2⟩
            case measure => simp [intOf]; omega
      · rw [List.take_of_length_le (by omega)] at hbd
        have hst := Try.Builder_String_any_k w.heap.size w.heap.size _ wr hbd hgr
        have HST := Lib.hid hst
        clear hst
        go_wp2_with fail
        with_reducible refine HST.out.mono ?_
        rintro e w1 ⟨rfl, h2, hb2, h3⟩
        go_wp2_with fail
        go_ret
        exact ⟨rfl, HB.trans hb2⟩
end Go.Proofs.Ytcdbnnfokophbaa
