import Derived.Test.YtaedkhpilkbpfaaDoorUtf3
import Derived.WalkSpells
import Derived.WalkLawsBesides
import Derived.Lib.Hide
import Derived.Deep.QuietTactic
import Derived.BigQuiet
import Derived.WalkSmall
import Derived.OpenShut
namespace Go.Proofs.YtaedkhpilkbpfaaDoor
open Go.RowKit Go
set_option linter.unusedVariables false
theorem nx_w1 : nx (⟨#[195, 169, 97]⟩ : ByteArray).data.toList = (233, 2) := by decide +kernel
theorem nx_w2 : nx (⟨#[192, 128]⟩ : ByteArray).data.toList = (0, 0) := by decide +kernel
set_option maxHeartbeats 1000000 in
theorem works02_any (w : World) (hT : U8 w) : Calls Tryd.prog 6 #[] w fun e w' => e = .returned (.bool true) ∧ Below w.heap.size w w' := by
  have h1 := next_any (⟨#[195, 169, 97]⟩ : ByteArray) w hT
  have h2 := fun w1 (hb : Below w.heap.size w w1) => next_any (⟨#[192, 128]⟩ : ByteArray) w1 (hT.below hb)
  rw [nx_w1] at h1
  rw [nx_w2] at h2
  have H1 := Lib.hid h1
  have H2 := Lib.hid h2
  clear h1 h2
  go_enter Tryd.func6, Tryd.ntmps6
  go_wp2_with fail
  ((with_reducible refine H1.out.mono ?_))
  rintro e w1 ⟨rfl, hb1⟩
  go_wp2_with fail
  ((with_reducible refine (H2.out _ hb1).mono ?_))
  rintro e w2 ⟨rfl, hb2⟩
  go_wp2_with fail
  go_ret
  exact ⟨rfl, hb1.trans (hb2.mono hb1.size)⟩
theorem runes_pt {l : List UInt8} {ks : List Int} (h : runesL l = some ks) : ∀ x ∈ ks, 0 ≤ x ∧ x ≤ 1114111 := by
  have := runes_text l.length l ks (Nat.le_refl _) h
  unfold textL at this
  split at this
  · rename_i ha
    intro x hx
    have := (ptB_iff x).1 (List.all_eq_true.1 ha x hx)
    omega
  · cases this
theorem intsAt_nil (w : World) (q : IntKind) : IntsAt w q none 0 [] := ⟨rfl, fun h => absurd h (by omega)⟩
set_option maxHeartbeats 2000000 in
theorem reads_law (s : ByteArray) (w : World) (hT : U8 w) (hs : s.size ≤ 9223372036854775807) :
    Calls Tryd.prog 3 #[.string s] w fun e w' => e = .returned (.bool true) ∧ Below w.heap.size w w' := by
  have WK := Lib.hid (fun w1 (hb : Below w.heap.size w w1) => works02_any w1 (hT.below hb))
  by_cases hl : 2000 < s.size
  · go_enter Tryd.func3, Tryd.ntmps3
    go_wp2_with fail
    ((with_reducible refine (WK.out _ (Below.refl _ _)).mono ?_))
    rintro e w' ⟨rfl, hb⟩
    go_wp2_with fail
    go_ret
    exact ⟨rfl, hb⟩
  have k1 := next_any s w hT
  have k2 := fun w1 => refNext_any s w1 hs
  have hbd := nx_bd s.data.toList
  obtain ⟨c, hc⟩ : ∃ c, c = (nx s.data.toList).1 := ⟨_, rfl⟩
  obtain ⟨n, hn⟩ : ∃ n, n = (nx s.data.toList).2 := ⟨_, rfl⟩
  rw [← hc, ← hn] at k1
  simp only [← hc, ← hn] at k2
  rw [← hc, ← hn] at hbd
  obtain ⟨c1, n1, _⟩ := hbd
  obtain ⟨z, hz⟩ : ∃ z, z = decide (0 < n) := ⟨_, rfl⟩
  have hzz : (z == decide (0 < n)) = true := by rw [hz]; simp
  rw [← hz] at k1
  have k3 := fun w1 (hb : Below w.heap.size w w1) => runes_any s w1 (hT.below hb) (by omega)
  have k4 := fun w1 => refRunes_any s w1 (by omega)
  have K1 := Lib.hid k1
  have K2 := Lib.hid k2
  have K3 := Lib.hid k3
  have K4 := Lib.hid k4
  clear k1 k2 k3 k4 hc hn hz
  go_enter Tryd.func3, Tryd.ntmps3
  go_wp2_with fail
  ((with_reducible refine K1.out.mono ?_))
  rintro e w1 ⟨rfl, hb1⟩
  go_wp2_with fail
  ((with_reducible refine (K2.out _).mono ?_))
  rintro e w2 ⟨rfl, hb2⟩
  have hb2' := hb1.trans (hb2.mono hb1.size)
  go_wp2_with fail
  ((with_reducible refine (K3.out _ hb2').mono ?_))
  rintro e w3 ⟨hE, hb3⟩
  have hb3' := hb2'.trans (hb3.mono hb2'.size)
  rcases hE with ⟨hR, rfl⟩ | ⟨ks, A, ca, hR, rfl, hat⟩
  · have HR := Lib.hid hR
    clear hR
    go_wp2_with fail
    ((with_reducible refine (K4.out _).mono ?_))
    rintro e w4 ⟨hE, hb4⟩
    have hb4' := hb3'.trans (hb4.mono hb3'.size)
    rcases hE with ⟨_, rfl⟩ | ⟨ks, A, ca, hR, _⟩
    · go_wp2_with fail
      ((with_reducible refine (WK.out _ hb4').mono ?_))
      rintro e w5 ⟨rfl, hb5⟩
      have hb5' := hb4'.trans (hb5.mono hb4'.size)
      go_wp2_with fail
      ((with_reducible refine (ints_any none 0 0 [] _ (intsAt_nil _ _) (by omega) (by simp)).mono ?_))
      rintro e w6 ⟨⟨B, d, rfl, hat⟩, hb6⟩
      have hb6' := hb5'.trans (hb6.mono hb5'.size)
      go_wp2_with fail
      ((with_reducible refine (sameInts_any B none 0 0 d 0 [] [] _ hat (intsAt_nil _ _) (by omega) (by omega)).mono ?_))
      rintro e w7 ⟨rfl, hb7⟩
      rw [decide_eq_true rfl]
      go_wp2_with fail
      go_ret
      exact ⟨rfl, hb6'.trans (hb7.mono hb6'.size)⟩
    · rw [HR.out] at hR; cases hR
  · have HR := Lib.hid hR
    have hlen := runesL_len s.data.toList.length s.data.toList ks (Nat.le_refl _) hR
    have hpt := runes_pt hR
    have hlen2 : ks.length ≤ s.size := by simpa using hlen
    clear hR hlen
    go_wp2_with fail
    ((with_reducible refine (K4.out _).mono ?_))
    rintro e w4 ⟨hE, hb4⟩
    have hb4' := hb3'.trans (hb4.mono hb3'.size)
    rcases hE with ⟨hR, _⟩ | ⟨ks2, A2, ca2, hR, rfl, hat2⟩
    · rw [HR.out] at hR; cases hR
    · rw [HR.out] at hR
      obtain rfl := Option.some.inj hR
      clear hR
      obtain ⟨m, hm⟩ : ∃ m, m = ks.length := ⟨_, rfl⟩
      rw [← hm] at hlen2 hat hat2
      rw [← hm]
      clear hm
      go_wp2_with fail
      ((with_reducible refine (WK.out _ hb4').mono ?_))
      rintro e w5 ⟨rfl, hb5⟩
      have hb5' := hb4'.trans (hb5.mono hb4'.size)
      have hat5 := (hat.below hb4).below hb5
      have hx : ∀ x ∈ ks, -2147483648 ≤ x ∧ x ≤ 2147483647 := fun x hx => by have := hpt x hx; omega
      have HX := Lib.hid hx
      have hat52 := hat2.below hb5
      clear hat hat2 hpt hx
      go_wp2_with fail
      ((with_reducible refine (ints_any A m ca ks _ hat5 (by omega) HX.out).mono ?_))
      rintro e w6 ⟨⟨B, d, rfl, hat6⟩, hb6⟩
      have hb6' := hb5'.trans (hb6.mono hb5'.size)
      have hat62 := hat52.below hb6
      clear hat5 hat52
      go_wp2_with fail
      ((with_reducible refine (sameInts_any B A2 m m d ca2 ks ks _ hat6 hat62 (by omega) (by omega)).mono ?_))
      rintro e w7 ⟨rfl, hb7⟩
      rw [decide_eq_true rfl]
      go_wp2_with fail
      go_ret
      exact ⟨rfl, hb6'.trans (hb7.mono hb6'.size)⟩
theorem ret_eqb {b : Bool} (h : b = true) : Ending.returned (.bool b) = .returned (.bool true) := by rw [h]
set_option maxHeartbeats 2000000 in
theorem writes_law (A : Option Addr) (n ca : Nat) (l : List Int) (c : Int) (w : World) (hT : U8 w) (hl : IntsAt w .i32 A n l) (hn : n ≤ 9223372036854775807) (hx : ∀ x ∈ l, -2147483648 ≤ x ∧ x ≤ 2147483647) (c0 : -2147483648 ≤ c) (c1 : c ≤ 2147483647) :
    Calls Tryd.prog 4 #[.slice A n ca, .int .i32 c] w fun e w' => e = .returned (.bool true) ∧ Below w.heap.size w w' := by
  have WK := Lib.hid (fun w1 (hb : Below w.heap.size w w1) => works02_any w1 (hT.below hb))
  have HX := Lib.hid hx
  clear hx
  by_cases hbig : 500 < n
  · go_enter Tryd.func4, Tryd.ntmps4
    go_wp2_with fail
    ((with_reducible refine (WK.out _ (Below.refl _ _)).mono ?_))
    rintro e w' ⟨rfl, hb⟩
    go_wp2_with fail
    go_ret
    exact ⟨rfl, hb⟩
  go_enter Tryd.func4, Tryd.ntmps4
  go_wp2_with fail
  ((with_reducible refine (text_any A n ca l w hl (by omega) HX.out).mono ?_))
  rintro e w1 ⟨rfl, hb1⟩
  have hl1 := hl.below hb1
  go_wp2_with fail
  ((with_reducible refine (ints_any A n ca l w1 hl1 (by omega) HX.out).mono ?_))
  rintro e w2 ⟨⟨B, d, rfl, hat⟩, hb2⟩
  have hb2' := hb1.trans (hb2.mono hb1.size)
  go_wp2_with fail
  ((with_reducible refine (refText_any B n d l w2 hat (by omega) HX.out).mono ?_))
  rintro e w3 ⟨rfl, hb3⟩
  have hb3' := hb2'.trans (hb3.mono hb2'.size)
  obtain ⟨t, ht⟩ : ∃ t, t = textS l := ⟨_, rfl⟩
  obtain ⟨f, hf⟩ : ∃ f, f = textE l := ⟨_, rfl⟩
  rw [← ht, ← hf]
  clear ht hf hl hl1 hat
  go_wp2_with fail
  ((with_reducible refine (WK.out _ hb3').mono ?_))
  rintro e w4 ⟨rfl, hb4⟩
  have hb4' := hb3'.trans (hb4.mono hb3'.size)
  go_wp2_with fail
  ((with_reducible refine (point_any c _).mono ?_))
  rintro e w5 ⟨rfl, rfl⟩
  obtain ⟨p, hp⟩ : ∃ p, p = ptB c := ⟨_, rfl⟩
  have k := fun w => refPoint_any c w (by omega) (by omega)
  rw [← hp]
  rw [← hp] at k
  have K := Lib.hid k
  clear k hp
  go_wp2_with fail
  ((with_reducible refine (K.out _).mono ?_))
  rintro e w6 ⟨rfl, rfl⟩
  go_wp2_with fail
  go_ret
  exact ⟨ret_eqb (by simp), hb4'⟩
theorem textL_pts {l : List Int} {t : List UInt8} (h : textL l = some t) : t.length ≤ 4 * l.length := by
  unfold textL at h
  split at h
  · rw [← Option.some.inj h]; exact flat_len l
  · cases h
set_option maxHeartbeats 2000000 in
theorem back_law2 (A : Option Addr) (n ca : Nat) (l : List Int) (w0 w : World) (hT : U8 w0) (hb0 : Below w0.heap.size w0 w) (hl : IntsAt w .i32 A n l) (hn : n ≤ 500) (hx : ∀ x ∈ l, -2147483648 ≤ x ∧ x ≤ 2147483647) (t : List UInt8) (ht : textL l = some t) :
    (⟨t.toArray⟩ : ByteArray).size ≤ 2000 ∧ Calls Tryd.prog 9 #[.string ⟨t.toArray⟩] w fun e w' => (∃ B d, e = .returned (.tuple #[.slice B n d, .int .i64 0]) ∧ IntsAt w' .i32 B n l) ∧ Below w.heap.size w w' := by
  have hlen := textL_pts ht
  have hn2 := hl.1
  have hs : (⟨t.toArray⟩ : ByteArray).size ≤ 2000 := by simp only [ByteArray.size]; simp; omega
  refine ⟨hs, (runes_any ⟨t.toArray⟩ w (hT.below hb0) (by omega)).mono ?_⟩
  rintro e w' ⟨hE, hb⟩
  have hr := text_runes l t ht
  refine ⟨?_, hb⟩
  rcases hE with ⟨hR, _⟩ | ⟨ks, B, d, hR, rfl, hat⟩
  · simp only at hR
    rw [hr] at hR; cases hR
  · simp only at hR
    rw [hr] at hR
    obtain rfl := Option.some.inj hR
    rw [← hn2] at hat
    exact ⟨B, d, by rw [← hn2], hat⟩
theorem tx_cases (l : List Int) : (textL l = none ∧ textS l = ⟨#[]⟩ ∧ textE l = 4) ∨ (∃ t, textL l = some t ∧ textS l = ⟨t.toArray⟩ ∧ textE l = 0) := by
  cases h : textL l with
  | none => exact .inl ⟨rfl, (textS_no h).1, (textS_no h).2⟩
  | some t => exact .inr ⟨t, rfl, (textS_yes h).1, (textS_yes h).2⟩
set_option maxHeartbeats 2000000 in
theorem back_tail (s : ByteArray) (A : Option Addr) (n ca : Nat) (l : List Int) (w : World) (hT : U8 w) (hs : s.size ≤ 9223372036854775807) (hl : IntsAt w .i32 A n l) (hn : n ≤ 9223372036854775807) (hx : ∀ x ∈ l, -2147483648 ≤ x ∧ x ≤ 2147483647) :
    Calls Tryd.prog 5 #[.string s, .slice A n ca] w fun e w' => e = .returned (.bool true) ∧ Below w.heap.size w w' := by
  have WK := Lib.hid (fun w1 (hb : Below w.heap.size w w1) => works02_any w1 (hT.below hb))
  have HX := Lib.hid hx
  have TX := Lib.hid (tx_cases l)
  clear hx
  by_cases hbig : 2000 < s.size
  · go_enter Tryd.func5, Tryd.ntmps5
    go_wp2_with fail
    ((with_reducible refine (WK.out _ (Below.refl _ _)).mono ?_))
    rintro e w1 ⟨rfl, hb1⟩
    go_wp2_with fail
    ((with_reducible refine (WK.out _ hb1).mono ?_))
    rintro e w2 ⟨rfl, hb2⟩
    go_wp2_with fail
    go_ret
    exact ⟨rfl, hb1.trans (hb2.mono hb1.size)⟩
  by_cases hbig2 : 500 < n
  · go_enter Tryd.func5, Tryd.ntmps5
    go_wp2_with fail
    ((with_reducible refine (WK.out _ (Below.refl _ _)).mono ?_))
    rintro e w1 ⟨rfl, hb1⟩
    go_wp2_with fail
    ((with_reducible refine (WK.out _ hb1).mono ?_))
    rintro e w2 ⟨rfl, hb2⟩
    go_wp2_with fail
    go_ret
    exact ⟨rfl, hb1.trans (hb2.mono hb1.size)⟩
  go_enter Tryd.func5, Tryd.ntmps5
  go_wp2_with fail
  ((with_reducible refine (WK.out _ (Below.refl _ _)).mono ?_))
  rintro e w1 ⟨rfl, hb1⟩
  go_wp2_with fail
  ((with_reducible refine (runes_any s w1 (hT.below hb1) (by omega)).mono ?_))
  rintro e w2 ⟨hE, hb2⟩
  have hb2' := hb1.trans (hb2.mono hb1.size)
  have hl2 := hl.below hb2'
  rcases hE with ⟨hR, rfl⟩ | ⟨ks, B0, d0, hR, rfl, hat0⟩
  · clear hR hl
    go_wp2_with fail
    ((with_reducible refine (text_any A n ca l w2 hl2 (by omega) HX.out).mono ?_))
    rintro e v1 ⟨rfl, hv1⟩
    have hv1' := hb2'.trans (hv1.mono hb2'.size)
    rcases TX.out with ⟨h1, h2, h3⟩ | ⟨t, h1, h2, h3⟩
    · rw [h2, h3]
      clear h1 h2 h3
      go_wp2_with fail
      go_ret
      exact ⟨rfl, hv1'⟩
    · rw [h2, h3]
      obtain ⟨hts, hk⟩ := back_law2 A n ca l w v1 hT hv1' (hl2.below hv1) (by omega) HX.out t h1
      have hl3 := hl2.below hv1
      have KK := Lib.hid hk
      obtain ⟨tb, htb⟩ : ∃ tb : ByteArray, tb = ⟨t.toArray⟩ := ⟨_, rfl⟩
      rw [← htb] at KK hts
      rw [← htb]
      clear h1 h2 h3 hk htb
      go_wp2_with fail
      ((with_reducible refine KK.out.mono ?_))
      rintro e v2 ⟨⟨B, d, rfl, hat⟩, hv2⟩
      have hv2' := hv1'.trans (hv2.mono hv1'.size)
      go_wp2_with fail
      ((with_reducible refine (ints_any B n d l v2 hat (by omega) HX.out).mono ?_))
      rintro e v3 ⟨⟨C, d2, rfl, hat2⟩, hv3⟩
      have hv3' := hv2'.trans (hv3.mono hv2'.size)
      have hl4 := (hl3.below hv2).below hv3
      go_wp2_with fail
      ((with_reducible refine (ints_any A n ca l v3 hl4 (by omega) HX.out).mono ?_))
      rintro e v4 ⟨⟨D, d3, rfl, hat3⟩, hv4⟩
      have hv4' := hv3'.trans (hv4.mono hv3'.size)
      go_wp2_with fail
      ((with_reducible refine (sameInts_any C D n n d2 d3 l l v4 (hat2.below hv4) hat3 (by omega) (by omega)).mono ?_))
      rintro e v5 ⟨rfl, hv5⟩
      rw [decide_eq_true rfl]
      go_wp2_with fail
      go_ret
      exact ⟨rfl, hv4'.trans (hv5.mono hv4'.size)⟩
  · have hpt := runes_pt hR
    have hlen := runesL_len s.data.toList.length s.data.toList ks (Nat.le_refl _) hR
    have hlen2 : ks.length ≤ s.size := by simpa using hlen
    have htx := textS_yes (runes_text s.data.toList.length s.data.toList ks (Nat.le_refl _) hR)
    have hx2 : ∀ x ∈ ks, -2147483648 ≤ x ∧ x ≤ 2147483647 := fun x hx => by have := hpt x hx; omega
    have HX2 := Lib.hid hx2
    have HTX := Lib.hid htx
    obtain ⟨m, hm⟩ : ∃ m, m = ks.length := ⟨_, rfl⟩
    rw [← hm] at hlen2 hat0
    rw [← hm]
    clear hm hR hl hpt hlen hx2 htx
    go_wp2_with fail
    ((with_reducible refine (text_any B0 m d0 ks w2 hat0 (by omega) HX2.out).mono ?_))
    rintro e w3 ⟨rfl, hb3⟩
    have hb3' := hb2'.trans (hb3.mono hb2'.size)
    have hl3 := hl2.below hb3
    rw [HTX.out.1, HTX.out.2]
    clear hl2 hat0
    go_wp2_with fail
    ((with_reducible refine (text_any A n ca l w3 hl3 (by omega) HX.out).mono ?_))
    rintro e v1 ⟨rfl, hv1⟩
    have hv1' := hb3'.trans (hv1.mono hb3'.size)
    rcases TX.out with ⟨h1, h2, h3⟩ | ⟨t, h1, h2, h3⟩
    · rw [h2, h3]
      clear h1 h2 h3
      go_wp2_with fail
      go_ret
      exact ⟨rfl, hv1'⟩
    · rw [h2, h3]
      obtain ⟨hts, hk⟩ := back_law2 A n ca l w v1 hT hv1' (hl3.below hv1) (by omega) HX.out t h1
      have hl3 := hl3.below hv1
      have KK := Lib.hid hk
      obtain ⟨tb, htb⟩ : ∃ tb : ByteArray, tb = ⟨t.toArray⟩ := ⟨_, rfl⟩
      rw [← htb] at KK hts
      rw [← htb]
      clear h1 h2 h3 hk htb
      go_wp2_with fail
      ((with_reducible refine KK.out.mono ?_))
      rintro e v2 ⟨⟨B, d, rfl, hat⟩, hv2⟩
      have hv2' := hv1'.trans (hv2.mono hv1'.size)
      go_wp2_with fail
      ((with_reducible refine (ints_any B n d l v2 hat (by omega) HX.out).mono ?_))
      rintro e v3 ⟨⟨C, d2, rfl, hat2⟩, hv3⟩
      have hv3' := hv2'.trans (hv3.mono hv2'.size)
      have hl4 := (hl3.below hv2).below hv3
      go_wp2_with fail
      ((with_reducible refine (ints_any A n ca l v3 hl4 (by omega) HX.out).mono ?_))
      rintro e v4 ⟨⟨D, d3, rfl, hat3⟩, hv4⟩
      have hv4' := hv3'.trans (hv4.mono hv3'.size)
      go_wp2_with fail
      ((with_reducible refine (sameInts_any C D n n d2 d3 l l v4 (hat2.below hv4) hat3 (by omega) (by omega)).mono ?_))
      rintro e v5 ⟨rfl, hv5⟩
      rw [decide_eq_true rfl]
      go_wp2_with fail
      go_ret
      exact ⟨rfl, hv4'.trans (hv5.mono hv4'.size)⟩
theorem utfReads_law (a0 : ByteArray) (W : World) (w0 : a0.size ≤ maxLen) (hT : U8 W) :
    Calls Tryd.prog 3 #[.string a0] W fun e w' => e = .returned (.bool true) ∧ Below W.heap.size W w' := by
  unfold maxLen at w0
  exact reads_law a0 W hT w0
theorem wf_i32 {x : Int} (h : (Lit.int .i32 x).wf = true) : -2147483648 ≤ x ∧ x ≤ 2147483647 := bounds_i32 h
theorem utfWrites_law {H : Type} {enc : TypeId × Value → H} {d0 : DataW H} {p0 : List MemPlace} {base : Nat} (v0 : Value) (a1 : Int) (W : World) (o0 : Value.okWide Tryd.prog W .any base 27 v0)
    (k0 : DataW.Trod enc Tryd.prog W 0 (fun _ => true) true 27 v0 d0 p0) (w1 : (Lit.int .i32 a1).wf = true) (hT : U8 W) :
    Calls Tryd.prog 4 #[v0, .int .i32 a1] W fun e w' => e = .returned (.bool true) ∧ Below W.heap.size W w' := by
  have b1 := wf_i32 w1
  obtain ⟨A, n, c, rfl⟩ := Go.WideShapes.okWide_slice Tryd.underlying27 o0
  obtain ⟨l, hl, hc, hm, hx⟩ := open_intsAt Tryd.underlying27 Tryd.underlying21 (by kernel_rfl) k0
  unfold maxLen at hm
  exact writes_law A n c l a1 W hT hl (by omega) (fun x h => wf_i32 (hx x h)) b1.1 b1.2
theorem utfBack_law {H : Type} {enc : TypeId × Value → H} {d1 : DataW H} {p1 : List MemPlace} {base : Nat} (a0 : ByteArray) (v1 : Value) (W : World) (w0 : a0.size ≤ maxLen) (o1 : Value.okWide Tryd.prog W .any base 27 v1)
    (k1 : DataW.Trod enc Tryd.prog W 0 (fun _ => true) true 27 v1 d1 p1) (hT : U8 W) :
    Calls Tryd.prog 5 #[.string a0, v1] W fun e w' => e = .returned (.bool true) ∧ Below W.heap.size W w' := by
  obtain ⟨A, n, c, rfl⟩ := Go.WideShapes.okWide_slice Tryd.underlying27 o1
  obtain ⟨l, hl, hc, hm, hx⟩ := open_intsAt Tryd.underlying27 Tryd.underlying21 (by kernel_rfl) k1
  unfold maxLen at hm w0
  exact back_tail a0 A n c l W hT w0 hl (by omega) (fun x h => wf_i32 (hx x h))
end Go.Proofs.YtaedkhpilkbpfaaDoor
