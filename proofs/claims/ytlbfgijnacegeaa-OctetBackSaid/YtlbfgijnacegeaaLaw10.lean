/- The law of layer 10: what is put is read. -/
import Derived.Test.YtlbfgijnacegeaaOctet5
namespace Go.Proofs.Ytlbfgijnacegeaa
open Go.RowKit Go
set_option linter.unusedVariables false
theorem Ats.born {B : Nat} {w0 w w' : World} {L : List (Nat × TypeId × Array Value)} (S : Ats B w0 w L) {g : Nat} {t : TypeId} {cs : Array Value} (hg : w.heap.size ≤ g) (ha : At w' g t cs) (hb : Below w.heap.size w w') : Ats B w0 w' ((g, t, cs) :: L) := by
  have S2 := S.call hb
  refine ⟨S2.below, S2.big, fun x h => ?_, ?_⟩
  · rcases List.mem_cons.1 h with rfl | h
    · exact ⟨Nat.le_trans S.big hg, ha⟩
    · exact S2.at_ x h
  · rw [List.map_cons, List.nodup_cons]
    refine ⟨fun h => ?_, S.apart⟩
    obtain ⟨x, hx, he⟩ := List.mem_map.1 h
    have := (S.at_ x hx).2.lt
    simp only at he
    omega
theorem works10_any (w : World) : Calls Try.prog 4 #[] w fun e w' => e = .returned (.bool true) ∧ Below w.heap.size w w' := by
  have hN := fun w => eyeNew_any ⟨#[1, 2, 3]⟩ w
  have hM := fun g w (h : EyeAt w g [1, 2, 3] 0) => eyeNum_any g [1, 2, 3] 0 2 w h
  have hP := fun w => octPut_any 2 258 w
  have hL := fun g w (h : EyeAt w g [3] 0) => eyeLeft_any g [3] 0 w h
  have hT := fun g w (h : EyeAt w g [3] 0) => eyeTake_any g [3] 0 1 w h
  have hE := fun g w (h : EyeAt w g [] 0) => eyeEnd_any g [] 0 w h
  rw [show ocNumT [1, 2, 3] 0 2 = (258, [3], 0) by decide] at hM
  rw [show ocTake [3] 0 1 = ([3], [], 0) by decide] at hT
  rw [show ocEnd [] 0 = 0 by decide] at hE
  rw [show (⟨(ocT (ocWide 2) 258).toArray⟩ : ByteArray) = ⟨#[1, 2]⟩ by decide] at hP
  have HN := Lib.hid hN
  have HM := Lib.hid hM
  have HP := Lib.hid hP
  have HL := Lib.hid hL
  have HT := Lib.hid hT
  have HE := Lib.hid hE
  clear hN hM hP hL hT hE
  have S := Ats.start w
  go_enter Try.func4, Try.ntmps4
  go_wp2_with (first
    | ((with_reducible refine (HN.out _).mono ?_); rintro e w2 ⟨g, rfl, hg, ha, hb⟩; have S := S.born hg ha hb; clear hg ha hb)
    | ((with_reducible refine (HM.out _ _ (S.get (i := 0) rfl)).mono ?_); rintro e w2 ⟨rfl, ha, hb⟩; have S := S.grow (i := 0) rfl hb ha; clear ha hb)
    | ((with_reducible refine (HP.out _).mono ?_); rintro e w2 ⟨rfl, hb⟩; have S := S.call hb; clear hb)
    | ((with_reducible refine (HL.out _ _ (S.get (i := 0) rfl)).mono ?_); rintro e w2 ⟨rfl, rfl⟩)
    | ((with_reducible refine (HT.out _ _ (S.get (i := 0) rfl)).mono ?_); rintro e w2 ⟨rfl, ha, hb⟩; have S := S.grow (i := 0) rfl hb ha; clear ha hb)
    | ((with_reducible refine (HE.out _ _ (S.get (i := 0) rfl)).mono ?_); rintro e w2 ⟨rfl, rfl⟩))
  go_ret
  exact ⟨rfl, S.below⟩
theorem ocNumT_all (k : Nat) (m n : Int) (l : List UInt8) (hk : k = ocWide m) : ocNumT (ocT k n ++ l) 0 m = (ocN (ocT k n), l, 0) := by
  unfold ocNumT
  have := ocTake_all (ocT k n) l
  rw [ocT_len, hk] at this
  rw [hk, this]
theorem ocShl (k : Nat) (h : k ≤ 4) : IntKind.i64.wrap (2 ^ (8 * k)) = 256 ^ k := by
  rcases (show k = 0 ∨ k = 1 ∨ k = 2 ∨ k = 3 ∨ k = 4 by omega) with rfl | rfl | rfl | rfl | rfl <;> decide
set_option maxRecDepth 100000 in
set_option maxHeartbeats 4000000 in
theorem octetBack_law (m n : Int) (more : ByteArray) (w : World) {p0 p1 p2 : Prop} (_ : p0) (_ : p1) (_ : p2) : Calls Try.prog 3 #[.int .i64 m, .int .i64 n, .string more] w fun e w' => e = .returned (.bool true) ∧ Below w.heap.size w w' := by
  have hO := fun w => works10_any w
  have HO := Lib.hid hO
  have S := Ats.start w
  by_cases hlen : (100 : Int) < (more.size : Int)
  · clear hO
    go_enter Try.func3, Try.ntmps3
    go_wp2_with ((with_reducible refine (HO.out _).mono ?_); rintro e w2 ⟨rfl, hb⟩; have S := S.call hb; clear hb)
    go_ret
    exact ⟨rfl, S.below⟩
  · obtain ⟨k, hk⟩ : ∃ k, k = ocWide m := ⟨_, rfl⟩
    have hle : k ≤ 4 := by rw [hk]; exact ocWide_le m
    have hP := fun w => octPut_any m n w
    have hR := fun w => refPut_any m n w
    rw [← hk] at hP hR
    obtain ⟨t, ht⟩ : ∃ t : ByteArray, t = ⟨(ocT k n).toArray⟩ := ⟨_, rfl⟩
    have htl : t.data.toList = ocT k n := by rw [ht]
    have hz : t.size = k := by rw [ht]; exact ocT_len k n
    obtain ⟨x, hx⟩ : ∃ x, x = ocN (ocT k n) := ⟨_, rfl⟩
    have hN := fun w => eyeNew_any (t ++ more) w
    have hM := fun g w (h : EyeAt w g (ocT k n ++ more.data.toList) 0) => eyeNum_any g (ocT k n ++ more.data.toList) 0 m w h
    have hQ := fun w => refNum_any t w (by omega)
    have hL := fun g w (h : EyeAt w g more.data.toList 0) => eyeLeft_any g more.data.toList 0 w h
    have hv := ocN_oct k n
    have hsh := ocShl k hle
    rw [ocNumT_all k m n _ hk] at hM
    rw [htl] at hQ
    simp only [show (t ++ more).data.toList = ocT k n ++ more.data.toList by simp [htl]] at hN
    rw [← hx] at hM hQ hv
    simp only [← ht] at hP hR
    have hml : more.data.toList.length = more.size := by simp
    rw [hml] at hL
    obtain ⟨l, hl⟩ : ∃ l, l = ocT k n ++ more.data.toList := ⟨_, rfl⟩
    obtain ⟨r, hr⟩ : ∃ r, r = more.data.toList := ⟨_, rfl⟩
    rw [← hl] at hN hM
    rw [← hr] at hM hL
    have hp : (0 : Int) < 256 ^ k := Int.pow_pos (by decide)
    have hp2 : (256 : Int) ^ k = (256 ^ k : Nat) := by norm_cast
    have hsum : t.size + more.size ≤ 200 := by omega
    have hend : n < 0 ∨ (0 ≤ n ∧ 256 ^ k ≤ n) ∨ (0 ≤ n ∧ n < 256 ^ k ∧ (x : Int) = n) := by
      by_cases h0 : n < 0
      · exact .inl h0
      · by_cases h1 : (256 : Int) ^ k ≤ n
        · exact .inr (.inl ⟨by omega, h1⟩)
        · exact .inr (.inr ⟨by omega, by omega, by rw [hv]; exact Int.emod_eq_of_lt (by omega) (by omega)⟩)
    have key : (decide (n < 0) || decide (wrap64 (2 ^ (8 * k)) ≤ n) || ((x : Int) == n)) = true := by
      rw [show wrap64 (2 ^ (8 * k)) = 256 ^ k from (by rw [← hsh, IntKind.wrap_i64]; unfold wrap64; rfl)]
      rcases hend with h | ⟨_, h⟩ | ⟨_, _, h⟩ <;> simp [h]
    have KEY := Lib.hid key
    have HP := Lib.hid hP
    have HR := Lib.hid hR
    have HN := Lib.hid hN
    have HM := Lib.hid hM
    have HQ := Lib.hid hQ
    have HL := Lib.hid hL
    clear hO hk hP hR hN hM hQ hL ht htl hx hl hr hml hv hp hp2 key hend hsh
    all_goals
      go_enter Try.func3, Try.ntmps3
      go_wp2_with (first
        | ((with_reducible refine (HO.out _).mono ?_); rintro e w2 ⟨rfl, hb⟩; have S := S.call hb; clear hb)
        | ((with_reducible refine (HP.out _).mono ?_); rintro e w2 ⟨rfl, hb⟩; have S := S.call hb; clear hb)
        | ((with_reducible refine (HR.out _).mono ?_); rintro e w2 ⟨rfl, hb⟩; have S := S.call hb; clear hb)
        | ((with_reducible refine (HN.out _).mono ?_); rintro e w2 ⟨g, rfl, hg, ha, hb⟩; have S := S.born hg ha hb; clear hg ha hb)
        | ((with_reducible refine (HM.out _ _ (S.get (i := 0) rfl)).mono ?_); rintro e w2 ⟨rfl, ha, hb⟩; have S := S.grow (i := 0) rfl hb ha; clear ha hb)
        | ((with_reducible refine (HQ.out _).mono ?_); rintro e w2 ⟨rfl, rfl⟩)
        | ((with_reducible refine (HL.out _ _ (S.get (i := 0) rfl)).mono ?_); rintro e w2 ⟨rfl, rfl⟩))
      all_goals
        go_ret
        exact ⟨by first | rfl | exact ret_bool KEY.out, S.below⟩
end Go.Proofs.Ytlbfgijnacegeaa
