import Derived.Test.YtcdneaofgnofeaaLaw03
import Derived.OpenShut
namespace Go.Proofs.Ytcdneaofgnofeaa
open Go.RowKit Go
set_option linter.unusedVariables false
theorem ret_eqb {b : Bool} (h : b = true) : Ending.returned (.bool b) = .returned (.bool true) := by rw [h]
set_option maxHeartbeats 4000000 in
theorem writes_law3 (A : Option Addr) (n ca : Nat) (l : List Int) (w : World) (hl : IntsAt w .i32 A n l) (hn : n ≤ 9223372036854775807) (hx : ∀ x ∈ l, -2147483648 ≤ x ∧ x ≤ 2147483647) :
    Calls Try.prog 3 #[.slice A n ca] w fun e w' => e = .returned (.bool true) ∧ Below w.heap.size w w' := by
  have HX := Lib.hid hx
  clear hx
  by_cases hbig : 150 < n
  · go_enter Try.func3, Try.ntmps3
    go_wp2_with fail
    ((with_reducible refine (works03_any _).mono ?_))
    rintro e w' ⟨rfl, hb⟩
    go_wp2_with fail
    go_ret
    exact ⟨rfl, hb⟩
  go_enter Try.func3, Try.ntmps3
  go_wp2_with fail
  ((with_reducible refine (encode_any w A n ca l hl hn HX.out).mono ?_))
  rintro e w1 ⟨rfl, hb1⟩
  have hl1 := hl.below hb1
  go_wp2_with fail
  ((with_reducible refine (ints_any A n ca l w1 hl1 (by omega) HX.out).mono ?_))
  rintro e w2 ⟨⟨B, d, rfl, hat⟩, hb2⟩
  have hb2' := hb1.trans (hb2.mono hb1.size)
  go_wp2_with fail
  ((with_reducible refine (refEncode_any w2 B n d l hat hn HX.out).mono ?_))
  rintro e w3 ⟨rfl, hb3⟩
  have hb3' := hb2'.trans (hb3.mono hb2'.size)
  obtain ⟨t, ht⟩ : ∃ t : ByteArray, t = ⟨(encE l).1.toArray⟩ := ⟨_, rfl⟩
  obtain ⟨f, hf⟩ : ∃ f, f = (encE l).2 := ⟨_, rfl⟩
  rw [← ht, ← hf]
  clear ht hf hl hl1 hat
  go_wp2_with fail
  ((with_reducible refine (works03_any _).mono ?_))
  rintro e w4 ⟨rfl, hb4⟩
  go_wp2_with fail
  go_ret
  exact ⟨ret_eqb (by simp), hb3'.trans (hb4.mono hb3'.size)⟩
set_option maxHeartbeats 4000000 in
theorem reads_law3 (s : ByteArray) (w : World) (hs : s.size ≤ 9223372036854775806) :
    Calls Try.prog 4 #[.string s] w fun e w' => e = .returned (.bool true) ∧ Below w.heap.size w w' := by
  by_cases hbig : 400 < s.size
  · go_enter Try.func4, Try.ntmps4
    go_wp2_with fail
    ((with_reducible refine (works03_any _).mono ?_))
    rintro e w' ⟨rfl, hb⟩
    go_wp2_with fail
    go_ret
    exact ⟨rfl, hb⟩
  have hok := decE_ok s.data.toList
  have k1 := fun w => decode_any s w hs
  have k2 := fun w => refDecode_any s w hs
  unfold DecP at k1 k2
  obtain ⟨l, hl⟩ : ∃ l, l = (decE s.data.toList).1 := ⟨_, rfl⟩
  obtain ⟨f, hf⟩ : ∃ f, f = (decE s.data.toList).2 := ⟨_, rfl⟩
  obtain ⟨n, hn⟩ : ∃ n, n = (decE s.data.toList).1.length := ⟨_, rfl⟩
  simp only [← hl, ← hf] at k1 k2
  rw [← hl] at hok hn
  obtain ⟨hok1, hok2⟩ := hok
  rw [← hn] at hok1
  simp only [← hn] at k1 k2
  have HX : Hid (∀ x ∈ l, -2147483648 ≤ x ∧ x ≤ 2147483647) := Lib.hid (fun x hx => by have := hok2 x hx; omega)
  have K1 := Lib.hid k1
  have K2 := Lib.hid k2
  clear k1 k2 hok2 hl hf hn
  go_enter Try.func4, Try.ntmps4
  go_wp2_with fail
  ((with_reducible refine (K1.out _).mono ?_))
  rintro e w1 ⟨hb1, A, c, rfl, hat1⟩
  go_wp2_with fail
  ((with_reducible refine (K2.out _).mono ?_))
  rintro e w2 ⟨hb2, A2, c2, rfl, hat2⟩
  have hb2' := hb1.trans (hb2.mono hb1.size)
  have hat12 := hat1.below hb2
  go_wp2_with fail
  ((with_reducible refine (works03_any _).mono ?_))
  rintro e w3 ⟨rfl, hb3⟩
  have hb3' := hb2'.trans (hb3.mono hb2'.size)
  have hat13 := hat12.below hb3
  have hat23 := hat2.below hb3
  clear hat1 hat12 hat2
  go_wp2_with fail
  ((with_reducible refine (ints_any A n c l w3 hat13 (by omega) HX.out).mono ?_))
  rintro e w4 ⟨⟨B, d, rfl, hat4⟩, hb4⟩
  have hb4' := hb3'.trans (hb4.mono hb3'.size)
  have hat24 := hat23.below hb4
  clear hat13 hat23
  go_wp2_with fail
  ((with_reducible refine (sameInts_any B A2 n n d c2 l l w4 hat4 hat24 (by omega) (by omega)).mono ?_))
  rintro e w5 ⟨rfl, hb5⟩
  rw [decide_eq_true rfl]
  go_wp2_with fail
  go_ret
  exact ⟨ret_eqb (by simp), hb4'.trans (hb5.mono hb4'.size)⟩
theorem wf_i32 {x : Int} (h : (Lit.int .i32 x).wf = true) : -2147483648 ≤ x ∧ x ≤ 2147483647 := bounds_i32 h
theorem punyWrites_law {H : Type} {enc : TypeId × Value → H} {d0 : DataW H} {p0 : List MemPlace} {base : Nat} (v0 : Value) (W : World) (o0 : Value.okWide Try.prog W .any base 22 v0)
    (k0 : DataW.Trod enc Try.prog W 0 (fun _ => true) true 22 v0 d0 p0) :
    Calls Try.prog 3 #[v0] W fun e w' => e = .returned (.bool true) ∧ Below W.heap.size W w' := by
  obtain ⟨A, n, c, rfl⟩ := Go.WideShapes.okWide_slice Try.underlying22 o0
  obtain ⟨l, hl, hc, hm, hx⟩ := open_intsAt Try.underlying22 Try.underlying21 (by kernel_rfl) k0
  unfold maxLen at hm
  exact writes_law3 A n c l W hl (by omega) (fun x h => wf_i32 (hx x h))
theorem punyReads_law (a0 : ByteArray) (W : World) (w0 : a0.size ≤ maxLen) :
    Calls Try.prog 4 #[.string a0] W fun e w' => e = .returned (.bool true) ∧ Below W.heap.size W w' := by
  by_cases h : a0.size ≤ 9223372036854775806
  · exact reads_law3 a0 W h
  · go_enter Try.func4, Try.ntmps4
    unfold maxLen at w0
    go_wp2_with fail
    ((with_reducible refine (works03_any _).mono ?_))
    rintro e w' ⟨rfl, hb⟩
    go_wp2_with fail
    go_ret
    exact ⟨rfl, hb⟩
end Go.Proofs.Ytcdneaofgnofeaa
