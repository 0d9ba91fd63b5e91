import Derived.Test.YteknihlhhbcfbaaProg
import Derived.WalkKit
import Derived.WalkSpells
import Derived.WalkLawsBesides
import Derived.Lib.Hide
import Derived.Deep.QuietTactic
import Derived.BigQuiet
import Derived.Test.YteknihlhhbcfbaaMath01
import Derived.Test.YteknihlhhbcfbaaMem
import Derived.Test.YteknihlhhbcfbaaAscii
import Derived.OpenShut
namespace Go.Proofs.Yteknihlhhbcfbaa
open Go.RowKit Go
def numR (l : List UInt8) (most : Int) : Int × Int := if digsB l = false then (0, 5) else if most < numL l then (0, 4) else (numL l, 0)
theorem numP_R {l : List UInt8} {most : Int} {e : Ending} (h : NumP l most e) : e = .returned (.tuple #[.int .i64 (numR l most).1, .int .i64 (numR l most).2]) := by
  unfold numR
  rcases h with ⟨h, he⟩ | ⟨h, h2, he⟩ | ⟨h, h2, he⟩
  · rw [if_pos h]; exact he
  · rw [if_neg (by simp [h]), if_pos h2]; exact he
  · rw [if_neg (by simp [h]), if_neg (by omega)]; exact he
set_option maxHeartbeats 1000000 in
theorem numbers_law (s : ByteArray) (most c : Int) (w : World) (hm0 : -9223372036854775808 ≤ most) (hm1 : most ≤ 9223372036854775807) (h0 : 0 ≤ c) (h1 : c ≤ 255) (hs : s.size ≤ 9223372036854775807) :
    Calls Try.prog 5 #[.string s, .int .i64 most, .int .u8 c] w fun e w' => e = .returned (.bool true) ∧ Below w.heap.size w w' := by
  by_cases hl : 2000 < s.size
  · go_enter Try.func5, Try.ntmps5
    go_wp2_with fail
    refine (works_any w).mono ?_
    rintro e w' ⟨rfl, hb⟩
    go_wp2_with fail
    go_ret
    exact ⟨rfl, hb⟩
  · obtain ⟨n, hn⟩ : ∃ n, n = (numR s.data.toList most).1 := ⟨_, rfl⟩
    obtain ⟨f, hf⟩ : ∃ f, f = (numR s.data.toList most).2 := ⟨_, rfl⟩
    have k1 : ∀ w, Calls Try.prog 18 #[.string s, .int .i64 most] w fun e w' => e = .returned (.tuple #[.int .i64 n, .int .i64 f]) ∧ w = w' := fun w =>
      (number_any s most w (by omega) hm0 hm1).mono fun e w' ⟨h, hw⟩ => ⟨by rw [hn, hf]; exact numP_R h, hw⟩
    have k2 : ∀ w, Calls Try.prog 19 #[.string s, .int .i64 most] w fun e w' => e = .returned (.tuple #[.int .i64 n, .int .i64 f]) ∧ w = w' := fun w =>
      (refNumber_any s most w (by omega) hm0 hm1).mono fun e w' ⟨h, hw⟩ => ⟨by rw [hn, hf]; exact numP_R h, hw⟩
    have K1 := Lib.hid k1
    have K2 := Lib.hid k2
    clear k1 k2 hn hf
    go_enter Try.func5, Try.ntmps5
    go_wp2_with fail
    refine (K1.out w).mono ?_
    rintro e w' ⟨rfl, rfl⟩
    go_wp2_with fail
    refine (K2.out w).mono ?_
    rintro e w' ⟨rfl, rfl⟩
    go_wp2_with fail
    refine (hex_any c w h0 h1).mono ?_
    rintro e w' ⟨rfl, rfl⟩
    go_wp2_with fail
    refine (refHex_any c w h0 h1).mono ?_
    rintro e w' ⟨rfl, rfl⟩
    go_wp2_with fail
    refine (works_any w).mono ?_
    rintro e w' ⟨rfl, hb⟩
    go_wp2_with fail
    go_ret
    exact ⟨rfl, hb⟩
set_option maxHeartbeats 2000000 in
theorem texts_law (s t : ByteArray) (c : Int) (w : World) (h0 : 0 ≤ c) (h1 : c ≤ 255) (hs : s.size ≤ 9223372036854775807) (ht : t.size ≤ 9223372036854775807) :
    Calls Try.prog 3 #[.string s, .string t, .int .u8 c] w fun e w' => e = .returned (.bool true) ∧ Below w.heap.size w w' := by
  by_cases hl : 2000 < s.size ∨ 2000 < t.size
  · by_cases hl1 : 2000 < s.size
    · go_enter Try.func3, Try.ntmps3
      go_wp2_with fail
      refine (works_any w).mono ?_
      rintro e w' ⟨rfl, hb⟩
      go_wp2_with fail
      go_ret
      exact ⟨rfl, hb⟩
    · have hl2 : 2000 < t.size := by omega
      clear hl
      go_enter Try.func3, Try.ntmps3
      go_wp2_with fail
      refine (works_any w).mono ?_
      rintro e w' ⟨rfl, hb⟩
      go_wp2_with fail
      go_ret
      exact ⟨rfl, hb⟩
  · have hl1 : s.size ≤ 2000 := by omega
    have hl2 : t.size ≤ 2000 := by omega
    clear hl
    have hc : ∃ a b z, ∀ e, CutP s c e → e = .returned (.tuple #[.string a, .string b, .bool z]) := by
      by_cases hk : cutK s.data.toList c < s.size
      · refine ⟨s.extract 0 (cutK s.data.toList c), s.extract (cutK s.data.toList c + 1) s.size, true, fun e h => ?_⟩
        rcases h with ⟨_, h⟩ | ⟨h, _⟩
        · exact h
        · omega
      · refine ⟨s, ⟨#[]⟩, false, fun e h => ?_⟩
        rcases h with ⟨h, _⟩ | ⟨_, h⟩
        · omega
        · exact h
    obtain ⟨a, b, z, hcut⟩ := hc
    have HC := Lib.hid hcut
    clear hcut
    have hfl := fieldsL_len s.data.toList
    simp only [Array.length_toList, ByteArray.size_data] at hfl
    go_enter Try.func3, Try.ntmps3
    go_wp2_with fail
    refine (cut_any s c w (by omega) h0 h1).mono ?_
    rintro e w1 ⟨hp, hb1⟩
    obtain rfl := HC.out e hp
    clear hp
    go_wp2_with fail
    refine (refCut_any s c w1 (by omega)).mono ?_
    rintro e w2 ⟨hp, hb2⟩
    obtain rfl := HC.out e hp
    clear hp
    go_wp2_with fail
    refine (works_any w2).mono ?_
    rintro e w3 ⟨rfl, hb3⟩
    go_wp2_with fail
    refine (lower_any s w3 (by omega)).mono ?_
    rintro e w4 ⟨rfl, hb4⟩
    go_wp2_with fail
    refine (refLower_any s w4 (by omega)).mono ?_
    rintro e w5 ⟨rfl, hb5⟩
    go_wp2_with fail
    refine (same_any s t w5 (by omega) (by omega)).mono ?_
    rintro e w6 ⟨rfl, hb6⟩
    go_wp2_with fail
    refine (refSame_any s t w6 (by omega) (by omega)).mono ?_
    rintro e w7 ⟨rfl, hb7⟩
    go_wp2_with fail
    refine (fields_texts s w7 (by omega)).mono ?_
    rintro e w8 ⟨A, ca, rfl, hta, hb8⟩
    go_wp2_with fail
    refine (refFields_texts s w8 (by omega)).mono ?_
    rintro e w9 ⟨B, cb, rfl, htb, hb9⟩
    have h2 := hb1.size
    have h3 := hb2.size
    have h4 := hb3.size
    have h5 := hb4.size
    have h6 := hb5.size
    have h7 := hb6.size
    have h8 := hb7.size
    have h9 := hb8.size
    have h10 := hb9.size
    go_wp2_with fail
    refine (sameTexts_any A B _ _ ca cb _ _ w9 (hta.below hb9) htb (by omega) (by omega)).mono ?_
    rintro e w10 ⟨rfl, hb10⟩
    rw [decide_eq_true rfl]
    go_wp2_with fail
    go_ret
    exact ⟨rfl, (((((((((hb1.trans (hb2.mono (by omega))).trans (hb3.mono (by omega))).trans (hb4.mono (by omega))).trans (hb5.mono (by omega))).trans (hb6.mono (by omega))).trans (hb7.mono (by omega))).trans (hb8.mono (by omega))).trans (hb9.mono (by omega))).trans (hb10.mono (by omega)))⟩
theorem joinL_len (sep : List UInt8) (l : List (List UInt8)) : ∀ k, k ≤ l.length → (joinL sep (l.take k)).length ≤ lens (l.take k) + k * sep.length := by
  intro k
  induction k with
  | zero => intro _; simp [joinL_nil]
  | succ k ih =>
    intro h
    have h1 := ih (by omega)
    rw [joinL_take sep l k (by omega), lens_take l k (by omega), List.length_append, Nat.succ_mul]
    split
    · omega
    · rw [List.length_append]; omega
theorem cutK_free (x : List UInt8) (c : Int) (h : hasB c x = false) : cutK x c = x.length := by
  unfold cutK
  rw [List.findIdx_eq_length]
  intro y hy
  have := List.any_eq_false.1 h y hy
  simpa using this
theorem cut_last {x : List UInt8} {c : Int} {e : Ending} (h : CutP ⟨x.toArray⟩ c e) (hx : hasB c x = false) : e = .returned (.tuple #[.string ⟨x.toArray⟩, .string ⟨#[]⟩, .bool false]) := by
  have hk := cutK_free x c hx
  rcases h with ⟨h1, _⟩ | ⟨_, h2⟩
  · simp only [ByteArray.size] at h1
    rw [hk] at h1
    simp at h1
  · exact h2
theorem cut_more {x r : List UInt8} {b : UInt8} {c : Int} {e : Ending} (h : CutP ⟨(x ++ (b :: r)).toArray⟩ c e) (hx : hasB c x = false) (hb : (b.toNat : Int) = c) : e = .returned (.tuple #[.string ⟨x.toArray⟩, .string ⟨r.toArray⟩, .bool true]) := by
  have hk : cutK (x ++ b :: r) c = x.length := by
    have h1 := cutK_free x c hx
    unfold cutK at h1 ⊢
    rw [List.findIdx_append, h1]
    simp [List.findIdx_cons, hb]
  rcases h with ⟨_, h2⟩ | ⟨h1, _⟩
  · rw [h2]
    simp only [hk, CutHit]
    have e1 : (⟨(x ++ b :: r).toArray⟩ : ByteArray).extract 0 x.length = ⟨x.toArray⟩ := by rw [Lib.extract_eq]; simp
    have e2 : (⟨(x ++ b :: r).toArray⟩ : ByteArray).extract (x.length + 1) (⟨(x ++ b :: r).toArray⟩ : ByteArray).size = ⟨r.toArray⟩ := by
      rw [Lib.extract_eq, List.take_of_length_le (by simp [ByteArray.size]; omega)]
      simp [List.drop_append]
    rw [e1, e2]
  · simp only [ByteArray.size] at h1
    rw [hk] at h1
    simp at h1
    omega
theorem asciiNumbers_law (a0 : ByteArray) (a1 a2 : Int) (W : World) (w0 : a0.size ≤ maxLen) (w1 : (Lit.int .i64 a1).wf = true) (w2 : (Lit.int .u8 a2).wf = true) :
    Calls Try.prog 5 #[.string a0, .int .i64 a1, .int .u8 a2] W fun e w' => e = .returned (.bool true) ∧ Below W.heap.size W w' := by
  have b1 := bounds_i64 w1
  have b2 := bounds_u8 w2
  unfold maxLen at w0
  exact numbers_law a0 a1 a2 W b1.1 b1.2 b2.1 b2.2 w0
theorem asciiTexts_law (a0 a1 : ByteArray) (a2 : Int) (W : World) (w0 : a0.size ≤ maxLen) (w1 : a1.size ≤ maxLen) (w2 : (Lit.int .u8 a2).wf = true) :
    Calls Try.prog 3 #[.string a0, .string a1, .int .u8 a2] W fun e w' => e = .returned (.bool true) ∧ Below W.heap.size W w' := by
  have b2 := bounds_u8 w2
  unfold maxLen at w0 w1
  exact texts_law a0 a1 a2 W b2.1 b2.2 w0 w1
theorem noteq_self (x : List UInt8) : (⟨x.toArray⟩ : ByteArray).size = x.length := by simp [ByteArray.size]
theorem conv_byte (c : Int) (hc0 : 0 ≤ c) (hc1 : c ≤ 255) (w : World) : (convert 33 9 (.slice (some ⟨w.heap.size, 0, none⟩) 1 1)).run Try.prog (w.alloc (.cells #[.int .u8 c] 5)) = .ok (.string ⟨#[UInt8.ofNat c.toNat]⟩) (w.alloc (.cells #[.int .u8 c] 5)) := by
  have := run_convert_bytes_back (P := Try.prog) (w.alloc (.cells #[.int .u8 c] 5)) 33 9 5 ⟨w.heap.size, 0, none⟩ 1 [UInt8.ofNat c.toNat] Try.underlying33 Try.underlying5 Try.underlying9 (fun j hj => by
    match j, hj with
    | 0, _ =>
      simp [Addr.add]
      omega)
  simpa using this
theorem joinL_cons2 (sep x y : List UInt8) (r : List (List UInt8)) : joinL sep (x :: y :: r) = x ++ (sep ++ joinL sep (y :: r)) := by
  unfold joinL
  rw [Lib.join_cons, Lib.join_cons]
  simp [Lib.joinTail]
theorem lens_cons (x : List UInt8) (r : List (List UInt8)) : lens (x :: r) = x.length + lens r := by simp [lens]
theorem joinL_drop_last (sep : List UInt8) (l : List (List UInt8)) (k : Nat) (h : k + 1 = l.length) : joinL sep (l.drop k) = l[k] := by
  rw [List.drop_eq_getElem_cons (by omega), List.drop_of_length_le (by omega), joinL_one]
theorem joinL_drop_more (sep : List UInt8) (l : List (List UInt8)) (k : Nat) (h : k + 1 < l.length) : joinL sep (l.drop k) = l[k] ++ (sep ++ joinL sep (l.drop (k + 1))) := by
  rw [List.drop_eq_getElem_cons (by omega)]
  have hne : l.drop (k + 1) = l[k + 1] :: l.drop (k + 2) := List.drop_eq_getElem_cons (by omega)
  rw [hne, joinL_cons2]
theorem joinL_drop_le (sep : List UInt8) (l : List (List UInt8)) : ∀ d k, k + d = l.length → (joinL sep (l.drop k)).length ≤ lens (l.drop k) + d * sep.length := by
  intro d
  induction d with
  | zero => intro k h; rw [List.drop_of_length_le (by omega)]; simp [joinL_nil]
  | succ d ih =>
    intro k h
    have h1 := ih (k + 1) (by omega)
    have h2 : lens (l.drop k) = (l[k]'(by omega)).length + lens (l.drop (k + 1)) := by
      rw [List.drop_eq_getElem_cons (by omega), lens_cons]
    rw [h2, Nat.succ_mul]
    by_cases hl : k + 1 = l.length
    · rw [joinL_drop_last sep l k hl]; omega
    · rw [joinL_drop_more sep l k (by omega), List.length_append, List.length_append]; omega
theorem lens_drop_le (l : List (List UInt8)) (k : Nat) : lens (l.drop k) ≤ lens l := by
  have : lens l = lens (l.take k) + lens (l.drop k) := by
    unfold lens; rw [← List.sum_append, ← List.map_append, List.take_append_drop]
  omega
set_option maxHeartbeats 2000000 in
theorem joins_works (A : Option Addr) (n c0 : Nat) (l : List (List UInt8)) (c : Int) (s : ByteArray) (w : World) (hl : TextsAt w A n l) (hn : n ≤ 1000000000000000) (hs : s.size ≤ 140737488351232) (hx : ∀ x ∈ l, x.length ≤ 140737488351232) (h0 : 0 ≤ c) (h1 : c ≤ 255) (hc0 : n ≤ c0) :
    Calls Try.prog 4 #[.slice A n c0, .int .u8 c, .string s] w fun e w' => e = .returned (.bool true) ∧ Below w.heap.size w w' := by
  have HLEN := Lib.hid hl.1
  go_enter Try.func4, Try.ntmps4
  go_wp2_with fail
  go_loopw [7, 8] (fun v i wr => ∃ k : Nat, k ≤ n ∧ k ≤ 60 ∧ i = .int .i64 k ∧ v = .int .i64 (s.size + lens (l.take k)) ∧ (k = 0 ∨ s.size + lens (l.take k) ≤ 2000) ∧ w = wr) (fun _ i _ => n - (intOf i).toNat)
  case atStart => exact ⟨0, Nat.zero_le _, by omega, rfl, by simp [lens], .inl rfl, rfl⟩
  case round =>
    obtain ⟨k, hk, hk60, rfl, rfl, hle, rfl⟩ := hrel
    by_cases hlt : k < n
    · obtain ⟨b, o, hA, hb, hcell⟩ := hl.2 (by omega)
      subst hA
      have hkl : k < l.length := by have := HLEN.out; omega
      have h1 := hcell k hkl
      have ht := lens_take l k hkl
      have hxk := hx l[k] (List.getElem_mem _)
      have hlz : k = 0 → lens (l.take k) = 0 := by rintro rfl; simp [lens]
      have HT := Lib.hid ht
      clear ht
      have hT := HT.out
      obtain ⟨x, hxe⟩ : ∃ x, x = l[k] := ⟨_, rfl⟩
      rw [← hxe] at h1 hT hxk
      have HTT := Lib.hid hT
      clear HT hxe hcell hT
      obtain ⟨S, hS⟩ : ∃ S, S = lens (l.take k) := ⟨_, rfl⟩
      rw [← hS] at hle hlz HTT
      rw [← hS]
      clear hS
      unfold strV at h1
      have hsm : S + x.length ≤ 140737488351232 + 2000 := by omega
      by_cases hbig : 2000 < s.size + (S + x.length) ∨ 60 ≤ k
      · have hw : ∀ w, Calls Try.prog 6 #[] w fun e w' => e = .returned (.bool true) ∧ Below w.heap.size w w' := works_any
        have HW := Lib.hid hw
        clear hw
        by_cases h60 : 60 ≤ k
        · go_wp2_with fail
          refine (HW.out _).mono ?_
          rintro e w' ⟨rfl, hb'⟩
          go_wp2_with fail
          go_ret
          exact ⟨rfl, hb'⟩
        · have hb2 : 2000 < s.size + (S + x.length) := by omega
          clear hbig
          go_wp2_with fail
          refine (HW.out _).mono ?_
          rintro e w' ⟨rfl, hb'⟩
          go_wp2_with fail
          go_ret
          exact ⟨rfl, hb'⟩
      · have h60 : k < 60 := by omega
        have hb2 : s.size + (S + x.length) ≤ 2000 := by omega
        clear hbig
        go_wp2_with fail
        go_roundw
        case rel => exact ⟨k + 1, by omega, by omega, by go_num, ret_v (by rw [HTT.out]; omega), .inr (by rw [HTT.out]; omega), trivial⟩
        case measure => simp [intOf]; omega
    · obtain rfl : k = n := by omega
      have hall : l.take k = l := List.take_of_length_le (by have := HLEN.out; omega)
      have hjl := joinL_len s.data.toList l k (by have := HLEN.out; omega)
      rw [hall] at hjl hle
      have hjl2 : (joinL s.data.toList l).length ≤ 100000000 ∧ (0 < k → s.size ≤ 4000) ∧ lens l ≤ 2000 := by
        rcases hle with rfl | h
        · have : l = [] := List.length_eq_zero_iff.1 (HLEN.out).symm
          subst this
          exact ⟨by simp [joinL_nil], fun h => absurd h (by omega), by simp [lens]⟩
        · refine ⟨?_, fun _ => by omega, by omega⟩
          have : k * s.size ≤ 60 * 2000 := Nat.mul_le_mul hk60 (by omega)
          simp only [Array.length_toList, ByteArray.size_data] at hjl
          omega
      obtain ⟨hj1, hj2, hj3⟩ := hjl2
      rw [hall]
      clear hjl hall hle
      have hjoin : ∀ W, Below w.heap.size w W → Calls Try.prog 16 #[.string s, .slice A k c0] W fun e w' => e = .returned (.string ⟨(joinL s.data.toList l).toArray⟩) ∧ Below W.heap.size W w' := fun W hb => join_any s A k c0 l W (hl.below hb) (by omega) hc0 hj1
      have hjref : ∀ W, Below w.heap.size w W → Calls Try.prog 17 #[.string s, .slice A k c0] W fun e w' => e = .returned (.string ⟨(joinL s.data.toList l).toArray⟩) ∧ W = w' := fun W hb => refJoin_any s A k c0 l W (hl.below hb) (by omega) hj2 hj1
      have HJ := Lib.hid hjoin
      have HR := Lib.hid hjref
      clear hjoin hjref
      obtain ⟨J, hJ⟩ : ∃ J, J = joinL s.data.toList l := ⟨_, rfl⟩
      rw [← hJ] at HJ HR
      clear hJ hj1 hj2 hs
      go_wp2_with fail
      refine (works_any w).mono ?_
      rintro e w1 ⟨rfl, hb1⟩
      go_wp2_with fail
      refine (HJ.out w1 hb1).mono ?_
      rintro e w2 ⟨rfl, hb2⟩
      have hb12 := hb1.trans (hb2.mono hb1.size)
      clear hb1 hb2
      go_wp2_with fail
      refine (HR.out w2 hb12).mono ?_
      rintro e w3 ⟨rfl, rfl⟩
      go_wp2_with fail
      clear HJ HR
      go_loopw [9, 10] (fun i _ wr => ∃ m : Nat, m ≤ k ∧ i = .int .i64 m ∧ (∀ y ∈ l.take m, hasB c y = false) ∧ w2 = wr) (fun i _ _ => k - (intOf i).toNat)
      case atStart => exact ⟨0, Nat.zero_le _, rfl, by simp, rfl⟩
      case round =>
        obtain ⟨m, hm, rfl, hfree, rfl⟩ := hrel
        have HF := Lib.hid hfree; clear hfree
        by_cases hmk : m < k
        · obtain ⟨b, o, hA, hb, hcell⟩ := (hl.below hb12).2 (by omega)
          subst hA
          have hkl : m < l.length := by have := HLEN.out; omega
          have h1 := hcell m hkl
          have hst := fun h => free_take c l m hkl HF.out h
          have hxk := hx l[m] (List.getElem_mem _)
          have HS := Lib.hid hst; clear hst
          obtain ⟨x, hxe⟩ : ∃ x, x = l[m] := ⟨_, rfl⟩
          rw [← hxe] at h1 HS hxk
          clear hxe hcell
          obtain ⟨X, hX⟩ : ∃ X : ByteArray, X = ⟨x.toArray⟩ := ⟨_, rfl⟩
          have hXx : X.data.toList = x := by rw [hX]
          have hXs : X.size ≤ 140737488351232 := by rw [hX]; simpa [ByteArray.size] using hxk
          unfold strV at h1
          rw [← hX] at h1
          rw [← hXx] at HS
          clear hX hXx hxk
          go_wp2_with fail
          go_loopw [10] (fun j wr => ∃ q : Nat, q ≤ X.size ∧ j = .int .i64 q ∧ hasB c (X.data.toList.take q) = false ∧ w2 = wr) (fun j _ => X.size - (intOf j).toNat)
          case atStart => exact ⟨0, Nat.zero_le _, rfl, rfl, rfl⟩
          case round =>
            obtain ⟨q, hq, rfl, hno, rfl⟩ := hrel
            have HN := Lib.hid hno; clear hno
            by_cases hqx : q < X.size
            · by_cases he : (X[q].toNat : Int) = c
              · have heb : ((X[q].toNat : Int) == c) = true := beq_iff_eq.2 he
                clear he
                go_wp2_with fail
                go_ret
                exact ⟨rfl, hb12⟩
              · have heb : ((X[q].toNat : Int) == c) = false := beq_eq_false_iff_ne.2 he
                have hn := hasB_take c X.data.toList q (by simpa using hqx) HN.out he
                have HN2 := Lib.hid hn
                clear he hn
                go_wp2_with fail
                go_roundw
                case rel => exact ⟨q + 1, by omega, by go_num, HN2.out, trivial⟩
                case measure => simp [intOf]; omega
            · have hn : hasB c X.data.toList = false := by
                have := HN.out
                rw [List.take_of_length_le (by simp; omega)] at this
                exact this
              have HF2 := Lib.hid (HS.out hn)
              clear hn
              go_wp2_with fail
              go_roundw
              case rel => exact ⟨m + 1, by omega, by go_num, HF2.out, trivial⟩
              case measure => simp [intOf]; omega
        · obtain rfl : m = k := by omega
          have hfree : ∀ y ∈ l, hasB c y = false := by
            have := HF.out
            rw [List.take_of_length_le (by have := HLEN.out; omega)] at this
            exact this
          have HFR := Lib.hid hfree
          clear hfree HF
          have hcv := conv_byte c h0 (by assumption) w2
          obtain ⟨B, hB⟩ : ∃ B, B = UInt8.ofNat c.toNat := ⟨_, rfl⟩
          have hBc : (B.toNat : Int) = c := by rw [hB]; simp; omega
          rw [← hB] at hcv
          have HBC := Lib.hid hBc
          clear hB hBc
          have hlj := joinL_drop_le [B] l l.length 0 (by omega)
          have hjn : ∀ W, Below w.heap.size w W → Calls Try.prog 16 #[.string ⟨#[B]⟩, .slice A m c0] W fun e w' => e = .returned (.string ⟨(joinL [B] l).toArray⟩) ∧ Below W.heap.size W w' := fun W hb => join_any ⟨#[B]⟩ A m c0 l W (hl.below hb) (by omega) hc0 (by
            simp only [List.drop_zero, List.length_cons, List.length_nil] at hlj
            have := HLEN.out
            show (joinL [B] l).length ≤ 100000000
            omega)
          have HJN := Lib.hid hjn
          clear hjn hlj
          go_wp2_with fail
          refine (HJN.out _ (hb12.alloc hb12.size _)).mono ?_
          rintro e w3 ⟨rfl, hb3⟩
          have hb13 := (hb12.alloc hb12.size (.cells #[.int .u8 c] 5)).trans (hb3.mono (by have := hb12.size; simp; omega))
          clear hb3 hb12 hcv HJN
          have hlast := fun q (hq : q + 1 = l.length) => joinL_drop_last [B] l q hq
          have hmore := fun q (hq : q + 1 < l.length) => joinL_drop_more [B] l q hq
          have hdle := fun q d (hq : q + d = l.length) => joinL_drop_le [B] l d q hq
          have HLA := Lib.hid hlast
          have HMO := Lib.hid hmore
          have HDL := Lib.hid hdle
          clear hlast hmore hdle
          go_wp2_with fail
          go_loopw [11, 12] (fun r i wr => ∃ q : Nat, q ≤ m ∧ i = .int .i64 q ∧ r = strV (joinL [B] (l.drop q)) ∧ Below w.heap.size w wr) (fun _ i _ => m - (intOf i).toNat)
          case atStart => exact ⟨0, Nat.zero_le _, rfl, rfl, hb13⟩
          case round =>
            obtain ⟨q, hq, rfl, rfl, hbr⟩ := hrel
            by_cases hqm : q < m
            · obtain ⟨b, o, hA, hb, hcell⟩ := (hl.below hbr).2 (by omega)
              subst hA
              have hkl : q < l.length := by have := HLEN.out; omega
              have h1 := hcell q hkl
              have hfx := HFR.out l[q] (List.getElem_mem _)
              have hlen2 := HDL.out q (l.length - q) (by omega)
              have hld := lens_drop_le l q
              have hmu : (l.length - q) * [B].length ≤ 60 := by have := HLEN.out; simp; omega
              have hla : q + 1 = l.length → joinL [B] (l.drop q) = l[q] := fun h => HLA.out q h
              have hmo : q + 1 < l.length → joinL [B] (l.drop q) = l[q] ++ ([B] ++ joinL [B] (l.drop (q + 1))) := fun h => HMO.out q h
              have hRl : (joinL [B] (l.drop q)).length ≤ 100000 := by omega
              clear hlen2 hld hmu
              obtain ⟨x, hxe⟩ : ∃ x, x = l[q] := ⟨_, rfl⟩
              rw [← hxe] at h1 hfx hla hmo
              obtain ⟨R, hR⟩ : ∃ R, R = joinL [B] (l.drop q) := ⟨_, rfl⟩
              rw [← hR] at hla hmo hRl
              rw [← hR]
              have HLA2 := Lib.hid hla
              have HMO2 := Lib.hid hmo
              have HFX := Lib.hid hfx
              clear hla hmo hR hxe hcell hkl hfx
              unfold strV at h1
              unfold strV
              go_wp2_with fail
              refine (cut_any ⟨R.toArray⟩ c wr (by simpa [ByteArray.size] using hRl) h0 (by assumption)).mono ?_
              rintro e w4 ⟨hp, hb4⟩
              have hb14 := hbr.trans (hb4.mono hbr.size)
              have h1' : w4.cell? ⟨b, o + q, none⟩ = some (.string ⟨x.toArray⟩) := (hb4.cell (p := ⟨b, o + q, none⟩) hb).trans h1
              clear h1 hb4
              by_cases hql : q + 1 = m
              · have hRx := HLA2.out (by have := HLEN.out; omega)
                subst hRx
                obtain rfl := cut_last hp HFX.out
                clear hp
                have hge : (m : Int) ≤ (q : Int) + 1 := by omega
                have HQ := Lib.hid hql
                clear hql
                go_wp2_with fail
                go_roundw
                case rel => exact ⟨q + 1, by omega, by go_num, by rw [List.drop_of_length_le (by have := HLEN.out; have := HQ.out; omega)]; rfl, hb14⟩
                case measure => simp [intOf]; omega
              · have hRx := HMO2.out (by have := HLEN.out; omega)
                subst hRx
                obtain rfl := cut_more hp HFX.out HBC.out
                clear hp
                have hge : (q : Int) + 1 < (m : Int) := by omega
                have hdec : decide ((q : Int) < (m : Int) - 1) = true := decide_eq_true (by omega)
                clear hql
                go_wp2_with fail
                go_roundw
                case rel => exact ⟨q + 1, by omega, by go_num, rfl, hb14⟩
                case measure => simp [intOf]; omega
            · obtain rfl : q = m := by omega
              have hd : l.drop q = [] := List.drop_of_length_le (by have := HLEN.out; omega)
              rw [hd, show strV (joinL [B] []) = .string ⟨#[]⟩ from rfl]
              clear hd
              go_wp2_with fail
              go_ret
              exact ⟨rfl, hbr⟩
theorem asciiJoins_law {H : Type} {enc : TypeId × Value → H} {d0 : DataW H} {p0 : List MemPlace} {base : Nat} (v0 : Value) (a1 : Int) (a2 : ByteArray) (W : World) (o0 : Value.okWide Try.prog W .any base 28 v0)
    (k0 : DataW.Trod enc Try.prog W 0 (fun _ => true) true 28 v0 d0 p0) (z0 : (d0.weights Try.prog 28).all (· ≤ reachBytes) = true) (w1 : (Lit.int .u8 a1).wf = true) (_w2 : a2.size ≤ maxLen) (z2 : a2.data.toList.length ≤ reachBytes) :
    Calls Try.prog 4 #[v0, .int .u8 a1, .string a2] W fun e w' => e = .returned (.bool true) ∧ Below W.heap.size W w' := by
  have b1 := bounds_u8 w1
  obtain ⟨A, n, c, rfl⟩ := Go.WideShapes.okWide_slice Try.underlying28 o0
  obtain ⟨l, hl, hc, _, hx, hb⟩ := open_texts Try.underlying28 Try.underlying9 (by kernel_rfl) k0 z0
  have hbytes : Try.prog.bytesOf 9 = 16 := by kernel_rfl
  rw [hbytes] at hb
  unfold reachBytes at z2
  exact joins_works A n c l a1 a2 W hl (by omega) (by simpa using z2) hx b1.1 b1.2 hc
end Go.Proofs.Yteknihlhhbcfbaa
