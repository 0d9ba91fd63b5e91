/- The law of layer 8: which address any text is. -/
import Derived.Test.YtkchgjakkogejaaDoorLaw08
import Derived.Test.YtkchgjakkogejaaDoorRef8g
namespace Go.Proofs.YtkchgjakkogejaaDoor
open Go.RowKit Go
set_option linter.unusedVariables false
set_option maxRecDepth 100000
set_option maxHeartbeats 4000000 in
theorem parses08_any (s : ByteArray) (w : World) (hP : P10 w) (hD : DB w) (hM : MX w) (hm : s.size ≤ maxLen) :
    Calls Tryd.prog 3 #[.string s] w fun e w' => e = .returned (.bool true) ∧ Below w.heap.size w w' := by
  have S := Ats.start w
  have h4 := fun w (h : P10 w) (h' : DB w) (h'' : MX w) => works08_any w h h' h''
  have hPd : ∀ wr L, Ats w.heap.size w wr L → P10 wr := fun wr L h => hP.below (Nat.le_refl _) h.below
  have hDd : ∀ wr L, Ats w.heap.size w wr L → DB wr := fun wr L h => hD.below (Nat.le_refl _) h.below
  have hMd : ∀ wr L, Ats w.heap.size w wr L → MX wr := fun wr L h => hM.below (Nat.le_refl _) h.below
  have HPd := Lib.hid hPd
  have HDd := Lib.hid hDd
  have HMd := Lib.hid hMd
  have H4 := Lib.hid h4
  have hm2 : s.size ≤ 9223372036854775807 := by unfold maxLen at hm; omega
  clear hPd hDd hMd h4 hP hD hM hm
  by_cases h3 : 300 < s.size
  · have d9 : decide ((300 : Int) < s.size) = true := by rw [decide_eq_true_eq]; omega
    go_enter Tryd.func3, Tryd.ntmps3
    go_wp2_with (first
      | ((with_reducible refine (H4.out _ (HPd.out _ _ S) (HDd.out _ _ S) (HMd.out _ _ S)).mono ?_); rintro e w2 ⟨rfl, hb⟩; have S := S.call hb; clear hb))
    go_ret
    exact ⟨rfl, S.below⟩
  · have d9 : decide ((300 : Int) < s.size) = false := by rw [decide_eq_false_iff_not]; omega
    have h1 := fun wr (h : P10 wr) (h' : MX wr) => parse_any8 s wr (by omega) h h'
    have h2 := fun wr => refParse8_any s wr (by omega)
    have hl := colonE_len s.data.toList
    obtain ⟨R, hR⟩ : ∃ R, R = colonE s.data.toList := ⟨_, rfl⟩
    rw [← hR] at h1 h2 hl
    obtain ⟨f, ip, z, er⟩ := R
    simp only [adTupZ] at h1 h2
    simp only at hl
    have has := adSize f ip z hl
    have hEq := ad_eqlSelf f z ip hl
    have hG := ad_guard
    have H1 := Lib.hid h1
    have H2 := Lib.hid h2
    clear h1 h2 hR
    go_enter Tryd.func3, Tryd.ntmps3
    go_wp2_with (first
      | ((with_reducible refine (H1.out _ (HPd.out _ _ S) (HMd.out _ _ S)).mono ?_); rintro e w2 ⟨rfl, hb⟩; have S := S.call hb; clear hb)
      | ((with_reducible refine (H2.out _).mono ?_); rintro e w2 ⟨rfl, hb⟩; have S := S.call hb; clear hb)
      | ((with_reducible refine (H4.out _ (HPd.out _ _ S) (HDd.out _ _ S) (HMd.out _ _ S)).mono ?_); rintro e w2 ⟨rfl, hb⟩; have S := S.call hb; clear hb)
      | ((with_reducible show wpList _ _ _ (Oper.mk (some 3) (Op.alloc _) _ _ _ _ :: _) _ _); refine wpList_allocS rfl _ rfl _ adZero S ?_; clear S; intro ga w1 S)
      | ((with_reducible show wpList _ _ _ (Oper.mk (some 5) (Op.alloc _) _ _ _ _ :: _) _ _); refine wpList_allocS rfl _ rfl _ adZero S ?_; clear S; intro gb w1 S)
      | ((with_reducible show wpList _ _ _ (Oper.mk _ (Op.store _ (Operand.tmp 3) _) _ _ _ _ :: _) _ _); refine wpList_storeS rfl _ _ _ rfl S _ rfl _ rfl 0 _ _ rfl has (by exact ad_sizes _ _ _ _ _ _ rfl hl) (by exact adCs_one _ _ _) ?_; clear S; intro w1 S; (first | simp only [List.set_cons_zero] at S | simp only [List.set_cons_succ, List.set_cons_zero] at S | skip))
      | ((with_reducible show wpList _ _ _ (Oper.mk _ (Op.store _ (Operand.tmp 5) _) _ _ _ _ :: _) _ _); refine wpList_storeS rfl _ _ _ rfl S _ rfl _ rfl 0 _ _ rfl has (by exact ad_sizes _ _ _ _ _ _ rfl hl) (by exact adCs_one _ _ _) ?_; clear S; intro w1 S; (first | simp only [List.set_cons_zero] at S | simp only [List.set_cons_succ, List.set_cons_zero] at S | skip))
      | ((with_reducible show wpList _ _ _ (Oper.mk _ (Op.load _ (Operand.tmp 3)) _ _ _ _ :: _) _ _); refine wpList_loadS rfl _ _ rfl S _ rfl 1 _ _ rfl _ Tryd.underlying25 rfl has ?_)
      | ((with_reducible show wpList _ _ _ (Oper.mk _ (Op.load _ (Operand.tmp 5)) _ _ _ _ :: _) _ _); refine wpList_loadS rfl _ _ rfl S _ rfl 0 _ _ rfl _ Tryd.underlying25 rfl has ?_))
    go_ret
    exact ⟨rfl, S.below⟩
theorem colonParses_law (s : ByteArray) (W : World) (hm : s.size ≤ maxLen) (hD : DB W) (hP : P10 W) (hM : MX W) :
    Calls Tryd.prog 3 #[.string s] W fun e w' => e = .returned (.bool true) ∧ Below W.heap.size W w' := parses08_any s W hP hD hM hm
end Go.Proofs.YtkchgjakkogejaaDoor
