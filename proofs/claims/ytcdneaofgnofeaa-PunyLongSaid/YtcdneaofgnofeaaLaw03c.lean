import Derived.Test.YtcdneaofgnofeaaLaw03b
import Derived.Test.YtcdneaofgnofeaaMath06
namespace Go.Proofs.Ytcdneaofgnofeaa
open Go.RowKit Go
set_option linter.unusedVariables false
theorem small_at (s : ByteArray) (k : Nat) (hk : k < s.size) (h : ∀ c ∈ s.data.toList, c.toNat < 128) : (s[k].toNat : Int) < 128 := by
  have hm : s[k] ∈ s.data.toList := by
    have : s.data.toList[k]'(by simpa using hk) ∈ s.data.toList := List.getElem_mem _
    exact this
  have := h _ hm
  omega
/-- reading a text whose points are known -/
theorem decodeTo_any (s : ByteArray) (l : List Int) (n : Nat) (hn : n = l.length) (w : World) (hs : s.size ≤ 9223372036854775806) (hd : decE s.data.toList = (l, 0)) :
    Calls Try.prog 12 #[.string s] w fun e w' => (∃ A c, e = .returned (.tuple #[.slice A n c, .int .i64 0]) ∧ IntsAt w' .i32 A n l) ∧ Below w.heap.size w w' := by
  refine (decode_any s w hs).mono ?_
  rintro e w' ⟨hb, A, c, he, ha⟩
  rw [hd] at he ha
  rw [hn]
  exact ⟨⟨A, c, he, ha⟩, hb⟩
set_option maxRecDepth 100000 in
set_option maxHeartbeats 4000000 in
theorem back_law3 (A : Option Addr) (n ca : Nat) (l : List Int) (w : World) (hl : IntsAt w .i32 A n l) (hn : n ≤ 9223372036854775807) (hx : ∀ x ∈ l, -2147483648 ≤ x ∧ x ≤ 2147483647) :
    Calls Try.prog 5 #[.slice A n ca] w fun e w' => e = .returned (.bool true) ∧ Below w.heap.size w w' := by
  have HX := Lib.hid hx
  clear hx
  by_cases hbig : 150 < n
  · go_enter Try.func5, Try.ntmps5
    go_wp2_with fail
    ((with_reducible refine (works03_any _).mono ?_))
    rintro e w1 ⟨rfl, hb1⟩
    go_wp2_with fail
    ((with_reducible refine (works03_any _).mono ?_))
    rintro e w2 ⟨rfl, hb2⟩
    go_wp2_with fail
    go_ret
    exact ⟨rfl, hb1.trans (hb2.mono hb1.size)⟩
  have hlen := hl.1
  have HLEN := Lib.hid hlen
  rcases back_150 id spell_id l (by omega) with he | ⟨b, F, he, hF, hsm, hol, hd, hr⟩
  · have HE := Lib.hid he
    clear he hlen
    go_enter Try.func5, Try.ntmps5
    go_wp2_with fail
    ((with_reducible refine (works03_any _).mono ?_))
    rintro e w1 ⟨rfl, hb1⟩
    have hl1 := hl.below hb1
    go_wp2_with fail
    ((with_reducible refine (encode_any w1 A n ca l hl1 hn HX.out).mono ?_))
    rintro e w2 ⟨rfl, hb2⟩
    rw [HE.out]
    go_wp2_with fail
    go_ret
    exact ⟨rfl, hb1.trans (hb2.mono hb1.size)⟩
  · rw [List.map_id] at hd
    obtain ⟨o, ho⟩ : ∃ o, o = hyp b ++ F := ⟨_, rfl⟩
    rw [← ho] at he hsm hol hd
    have HE := Lib.hid he
    obtain ⟨s, hs⟩ : ∃ s : ByteArray, s = ⟨o.toArray⟩ := ⟨_, rfl⟩
    have hsl : s.data.toList = o := by rw [hs]
    have hsz : s.size ≤ 2000 := by
      have : s.data.toList.length = s.size := by simp
      rw [hsl] at this
      omega
    rw [← hsl] at hsm hd
    have HSM := Lib.hid hsm
    have HD := Lib.hid hd
    have HS := Lib.hid hs
    have HN := Lib.hid hlen
    clear he hlen hsm hd hF hr ho hs hsl hol
    go_enter Try.func5, Try.ntmps5
    go_wp2_with fail
    ((with_reducible refine (works03_any _).mono ?_))
    rintro e w1 ⟨rfl, hb1⟩
    have hl1 := hl.below hb1
    go_wp2_with fail
    ((with_reducible refine (encode_any w1 A n ca l hl1 hn HX.out).mono ?_))
    rintro e w2 ⟨rfl, hb2⟩
    have hb2' := hb1.trans (hb2.mono hb1.size)
    have hl2 := hl1.below hb2
    rw [HE.out]
    simp only
    rw [← HS.out]
    clear hl hl1
    go_wp2_with fail
    go_loop [5] (fun i => ∃ k : Nat, k ≤ s.size ∧ i = .int .i64 k) (fun i => s.size - (intOf i).toNat)
    case atStart => exact ⟨0, Nat.zero_le _, rfl⟩
    case round =>
      obtain ⟨k, hk, rfl⟩ := hrel
      by_cases hlt : k < s.size
      · have hsk := small_at s k hlt HSM.out
        have hb8 : (s[k].toNat : Int) ≤ 255 := by omega
        go_wp2
        go_round
        case rel => exact ⟨k + 1, by omega, by go_num⟩
        case measure => simp [intOf]; omega
      · have hdc := decodeTo_any s l n HN.out w2 (by omega) HD.out
        have HDC := Lib.hid hdc
        clear hdc
        go_wp2_with fail
        ((with_reducible refine HDC.out.mono ?_))
        rintro e w3 ⟨⟨B, d, rfl, hat3⟩, hb3⟩
        have hb3' := hb2'.trans (hb3.mono hb2'.size)
        have hl3 := hl2.below hb3
        go_wp2_with fail
        ((with_reducible refine (ints_any B n d l w3 hat3 (by omega) HX.out).mono ?_))
        rintro e w4 ⟨⟨C, d4, rfl, hat4⟩, hb4⟩
        have hb4' := hb3'.trans (hb4.mono hb3'.size)
        have hl4 := hl3.below hb4
        go_wp2_with fail
        ((with_reducible refine (ints_any A n ca l w4 hl4 (by omega) HX.out).mono ?_))
        rintro e w5 ⟨⟨D, d5, rfl, hat5⟩, hb5⟩
        have hb5' := hb4'.trans (hb5.mono hb4'.size)
        have hat45 := hat4.below hb5
        go_wp2_with fail
        ((with_reducible refine (sameInts_any C D n n d4 d5 l l w5 hat45 hat5 (by omega) (by omega)).mono ?_))
        rintro e w6 ⟨rfl, hb6⟩
        rw [decide_eq_true rfl]
        go_wp2_with fail
        go_ret
        exact ⟨rfl, hb5'.trans (hb6.mono hb5'.size)⟩
theorem punyBack_law {H : Type} {enc : TypeId × Value → H} {d0 : DataW H} {p0 : List MemPlace} {base : Nat} (v0 : Value) (W : World) (o0 : Value.okWide Try.prog W .any base 22 v0)
    (k0 : DataW.Trod enc Try.prog W 0 (fun _ => true) true 22 v0 d0 p0) :
    Calls Try.prog 5 #[v0] W fun e w' => e = .returned (.bool true) ∧ Below W.heap.size W w' := by
  obtain ⟨A, n, c, rfl⟩ := Go.WideShapes.okWide_slice Try.underlying22 o0
  obtain ⟨l, hl, hc, hm, hx⟩ := open_intsAt Try.underlying22 Try.underlying21 (by kernel_rfl) k0
  unfold maxLen at hm
  exact back_law3 A n c l W hl (by omega) (fun x h => wf_i32 (hx x h))
end Go.Proofs.Ytcdneaofgnofeaa
