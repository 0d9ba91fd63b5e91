/- Layer 12: works, and the law of Get. -/
import Derived.Test.YtchjhpipiooibaaTabC4
import Derived.Test.YtchjhpipiooibaaPack5
import Derived.Test.YtchjhpipiooibaaPackR
import Derived.Test.YtchjhpipiooibaaExact
namespace Go.Proofs.Ytchjhpipiooibaa
open Go.RowKit Go
set_option linter.unusedVariables false
set_option linter.unusedSimpArgs false
theorem textsAt_pair (w : World) (a b : List UInt8) : TextsAt (w.alloc (.cells #[.string ⟨a.toArray⟩, .string ⟨b.toArray⟩] 9)) (some ⟨w.heap.size, 0, none⟩) 2 [a, b] := by
  refine ⟨rfl, fun _ => ⟨_, _, rfl, by simp, fun j hj => ?_⟩⟩
  have hat := At.new w 9 #[.string ⟨a.toArray⟩, .string ⟨b.toArray⟩]
  match j, hj with
  | 0, _ => exact hat.cells 0 rfl
  | 1, _ => exact hat.cells 1 rfl
theorem below_new (w : World) (ob : Obj) : Below w.heap.size w (w.alloc ob) := (Below.refl _ _).alloc (Nat.le_refl _) _
theorem bl {a w w' : World} (h : Below a.heap.size a w) (k : Below w.heap.size w w') : Below a.heap.size a w' := h.trans (k.mono h.size)
def exT1 : List (Lbs × Int) := [([[97], [98]], 0), ([[98]], 2)]
theorem exPut1 : putO true [[97], [98]] 0 [] = ([1, 97, 1, 98, 0], exT1, 0) := by decide +kernel
theorem exPut2 : putO true [[99], [98]] 5 exT1 = ([1, 99, 192, 2], exT1 ++ [([[99], [98]], 5)], 0) := by decide +kernel
theorem exGet : pkGet [1, 97, 1, 98, 0, 1, 99, 192, 2] 5 = ⟨[[99], [98]], 9, 0⟩ := by
  unfold pkGet
  rw [if_neg (by decide)]
  show pkRun [1, 97, 1, 98, 0, 1, 99, 192, 2] 5 5 1 [] 0 = _
  rw [pkRun_label (by decide) (by decide) (by decide) (by decide) (by decide)]
  show pkRun [1, 97, 1, 98, 0, 1, 99, 192, 2] 7 5 3 [[99]] 0 = _
  rw [pkRun_ptr (by decide) (by decide) (by decide) (by decide)]
  show pkRun [1, 97, 1, 98, 0, 1, 99, 192, 2] 2 2 3 [[99]] 9 = _
  rw [pkRun_label (by decide) (by decide) (by decide) (by decide) (by decide)]
  show pkRun [1, 97, 1, 98, 0, 1, 99, 192, 2] 4 2 5 [[99], [98]] 9 = _
  rw [pkRun_end (by decide) (by decide)]
  rfl
set_option maxRecDepth 100000 in
set_option maxHeartbeats 4000000 in
theorem works12_any (w : World) : Calls Try.prog 6 #[] w fun e w' => e = .returned (.bool true) ∧ Below w.heap.size w w' := by
  have HN := Lib.hid (fun w => newTab_any w)
  have hP1 := fun (wr : World) (g : Nat) (hT : PTab w wr g []) (A : Option Addr) (hl : TextsAt wr A 2 [[97], [98]]) (hne : ∀ b o, 0 < 2 → A = some ⟨b, o, none⟩ → b ≠ g) => putTab_any w wr g [] hT (fun r hr => by cases hr) (by decide) A 2 2 [[97], [98]] hl hne (by decide) 0
  rw [exPut1] at hP1
  have hP2 := fun (wr : World) (g : Nat) (hT : PTab w wr g exT1) (A : Option Addr) (hl : TextsAt wr A 2 [[99], [98]]) (hne : ∀ b o, 0 < 2 → A = some ⟨b, o, none⟩ → b ≠ g) => putTab_any w wr g exT1 hT (by intro r hr; simp [exT1] at hr; rcases hr with rfl | rfl <;> decide) (by decide) A 2 2 [[99], [98]] hl hne (by decide) 5
  rw [exPut2] at hP2
  have HP1 := Lib.hid hP1
  have HP2 := Lib.hid hP2
  have hG := fun w => pGet_any ⟨#[1, 97, 1, 98, 0, 1, 99, 192, 2]⟩ (by decide) 5 w
  have hG2 : ∀ w, Calls Try.prog 7 #[.string ((⟨#[1, 97, 1, 98, 0]⟩ : ByteArray) ++ ⟨#[1, 99, 192, 2]⟩), .int .i64 5] w fun e w' => ∃ A c, e = .returned (.tuple #[.slice A 2 c, .int .i64 9, .int .i64 0]) ∧ TextsAt w' A 2 [[99], [98]] ∧ Below w.heap.size w w' := fun w => by
    rw [show (⟨#[1, 97, 1, 98, 0]⟩ : ByteArray) ++ ⟨#[1, 99, 192, 2]⟩ = ⟨#[1, 97, 1, 98, 0, 1, 99, 192, 2]⟩ from rfl]
    exact (hG w).mono fun e w' h => by
      rw [show (⟨#[1, 97, 1, 98, 0, 1, 99, 192, 2]⟩ : ByteArray).data.toList = [1, 97, 1, 98, 0, 1, 99, 192, 2] from rfl, exGet] at h
      exact h
  have HG := Lib.hid hG2
  have HE := Lib.hid (fun (A B : Option Addr) (c d : Nat) w (ha : TextsAt w A 2 [[99], [98]]) (hb : TextsAt w B 2 [[99], [98]]) => refExactX_any A B 2 2 c d [[99], [98]] [[99], [98]] w ha hb (by decide) (by decide))
  clear hP1 hP2 hG hG2
  go_enter Try.func6, Try.ntmps6
  go_wp2_with (first
    | ((with_reducible refine (HN.out _).mono ?_); rintro e w1 ⟨g, rfl, hg, ha, hb⟩; have HPT := Lib.hid (ptab_new (W0 := w) (Below.refl _ _) hg ha hb); have HGL := Lib.hid ha.lt; clear ha hb)
    | ((with_reducible refine (HP1.out _ _ (HPT.out.kept (below_new _ _)) _ (textsAt_pair _ [97] [98]) (fun b o _ he => by have := HGL.out; injection he with he; injection he; omega)).mono ?_); rintro e w2 ⟨rfl, hp2, hk2, hb2⟩; have HPT2 := Lib.hid hp2; have HGL2 := Lib.hid (by obtain ⟨_, S, _⟩ := hp2; exact (S.get (i := 0) rfl).lt); clear hp2 hk2 hb2)
    | ((with_reducible refine (HP2.out _ _ (HPT2.out.kept (below_new _ _)) _ (textsAt_pair _ [99] [98]) (fun b o _ he => by have := HGL2.out; injection he with he; injection he; omega)).mono ?_); rintro e w3 ⟨rfl, hp3, hk3, hb3⟩; have HB3 := Lib.hid hb3; clear hp3 hk3 hb3)
    | ((with_reducible refine (HG.out _).mono ?_); rintro e w4 ⟨A4, c4, rfl, hta4, hb4⟩; have HT4 := Lib.hid hta4; have HB4 := Lib.hid hb4; clear hta4 hb4)
    | ((with_reducible refine (HE.out _ _ _ _ _ (HT4.out.below (below_new _ _)) (textsAt_pair _ [99] [98])).mono ?_); rintro e w5 ⟨rfl, hb5⟩; have HB5 := Lib.hid hb5; clear hb5))
  go_ret
  exact ⟨rfl, bl (bl (bl HB3.out HB4.out) (below_new _ _)) HB5.out⟩
theorem pkRun_len : ∀ (k : Nat) (m : List UInt8) (p low size : Nat) (n : Lbs) (fin : Nat), low * (m.length + 1) + (m.length - p) ≤ k → n.length ≤ size → size ≤ 255 → (pkRun m p low size n fin).n.length ≤ 255 := by
  intro k
  induction k with
  | zero => intro m p low size n fin hk _ _; rw [pkRun_out (by omega)]; exact Nat.zero_le _
  | succ k ih =>
    intro m p low size n fin hk hn hs
    by_cases h : p < m.length
    · by_cases h0 : m[p].toNat = 0
      · rw [pkRun_end h h0]; show n.length ≤ 255; omega
      · by_cases h1 : m[p].toNat ≤ 63
        · by_cases h2 : m.length < p + 1 + m[p].toNat
          · rw [pkRun_short h h0 h1 h2]; exact Nat.zero_le _
          · by_cases h3 : 255 < size + (m[p].toNat + 1)
            · rw [pkRun_long h h0 h1 h2 h3]; exact Nat.zero_le _
            · rw [pkRun_label h h0 h1 h2 h3]
              exact ih _ _ _ _ _ _ (by omega) (by rw [List.length_append, List.length_singleton]; omega) (by omega)
        · by_cases h2 : m[p].toNat < 192
          · rw [pkRun_lab h h1 h2]; exact Nat.zero_le _
          · by_cases h3 : p + 1 < m.length
            · by_cases h4 : ptrN (m[p]'h) (m[p + 1]'h3) < low
              · rw [pkRun_ptr h h2 h3 h4]
                refine ih _ _ _ _ _ _ ?_ hn hs
                have := Nat.mul_le_mul_right (m.length + 1) h4
                rw [Nat.succ_mul] at this
                omega
              · rw [pkRun_far h h2 h3 h4]; exact Nat.zero_le _
            · rw [pkRun_half h h2 h3]; exact Nat.zero_le _
    · rw [pkRun_out h]; exact Nat.zero_le _
theorem pkGet_len (m : List UInt8) (a : Int) : (pkGet m a).n.length ≤ 4000 := by
  unfold pkGet
  split
  · exact Nat.zero_le _
  · exact Nat.le_trans (pkRun_len _ m _ _ 1 [] 0 (Nat.le_refl _) (Nat.zero_le _) (by decide)) (by decide)
set_option maxRecDepth 100000 in
set_option maxHeartbeats 4000000 in
theorem packedGets_law (s : ByteArray) (at_ : Int) (w : World) {p0 p1 : Prop} (_ : p0) (_ : p1) : Calls Try.prog 3 #[.string s, .int .i64 at_] w fun e w' => e = .returned (.bool true) ∧ Below w.heap.size w w' := by
  have HO := Lib.hid (fun w => works12_any w)
  by_cases hlen : (70000 : Int) < (s.size : Int)
  · go_enter Try.func3, Try.ntmps3
    go_wp2_with ((with_reducible refine (HO.out _).mono ?_); rintro e w2 ⟨rfl, hb⟩)
    go_ret
    exact ⟨rfl, hb⟩
  · have hG := fun w => pGet_any s (by omega) at_ w
    have hR := fun w => refGet12_any s (by omega) at_ w
    obtain ⟨R, hRv⟩ : ∃ R, R = pkGet s.data.toList at_ := ⟨_, rfl⟩
    rw [← hRv] at hG hR
    have hnl : R.n.length ≤ 4000 := by rw [hRv]; exact pkGet_len _ _
    have HG := Lib.hid hG
    have HR := Lib.hid hR
    have HE := Lib.hid (fun (A B : Option Addr) (c d : Nat) w (ha : TextsAt w A R.n.length R.n) (hb : TextsAt w B R.n.length R.n) => refExactX_any A B R.n.length R.n.length c d R.n R.n w ha hb hnl hnl)
    have hE2 := HE.out
    simp only [decide_true] at hE2
    have HE2 := Lib.hid hE2
    clear hG hR hRv hnl hE2
    go_enter Try.func3, Try.ntmps3
    go_wp2_with (first
      | ((with_reducible refine (HG.out _).mono ?_); rintro e w2 ⟨A2, c2, rfl, hta2, hb2⟩; have HT2 := Lib.hid hta2; have HB2 := Lib.hid hb2; clear hta2 hb2)
      | ((with_reducible refine (HR.out _).mono ?_); rintro e w3 ⟨A3, c3, rfl, hta3, hb3⟩; have HT3 := Lib.hid hta3; have HB3 := Lib.hid hb3; clear hta3 hb3)
      | ((with_reducible refine (HO.out _).mono ?_); rintro e w4 ⟨rfl, hb4⟩; have HB4 := Lib.hid hb4; clear hb4)
      | ((with_reducible refine (HE2.out _ _ _ _ _ ((HT2.out.below HB3.out).below HB4.out) (HT3.out.below HB4.out)).mono ?_); rintro e w5 ⟨rfl, hb5⟩; have HB5 := Lib.hid hb5; clear hb5))
    go_ret
    exact ⟨ret_bool (by simp), bl (bl (bl HB2.out HB3.out) HB4.out) HB5.out⟩
end Go.Proofs.Ytchjhpipiooibaa
