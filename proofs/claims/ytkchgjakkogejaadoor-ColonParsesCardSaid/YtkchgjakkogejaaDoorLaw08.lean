/- The laws of layer 8: works; what is written is read. -/
import Derived.Test.YtkchgjakkogejaaDoorColon12
import Derived.Test.YtkchgjakkogejaaDoorRef8c
import Derived.Test.YtkchgjakkogejaaDoorMemQuiet
import Derived.Test.YtkchgjakkogejaaDoorMemPart
import Derived.Test.YtkchgjakkogejaaDoorAdOpen
namespace Go.Proofs.YtkchgjakkogejaaDoor
open Go.RowKit Go
set_option linter.unusedVariables false
set_option maxRecDepth 100000
set_option maxHeartbeats 4000000 in
theorem works08_any (w : World) (hP : P10 w) (hD : DB w) (hM : MX w) : Calls Tryd.prog 5 #[] w fun e w' => e = .returned (.bool true) ∧ Below w.heap.size w w' := by
  have S := Ats.start w
  have h1 := fun w (h : P10 w) (h' : MX w) => parse_any8 ⟨lit1.toArray⟩ w (by decide) h h'
  have h2 := fun w (h : P10 w) (h' : MX w) => parse_any8 ⟨lit2.toArray⟩ w (by decide) h h'
  have h3 := fun w (h : P10 w) (h' : DB w) => text_any8 6 0 ip1 w rfl (by decide) (by decide) h h'
  have h4 := fun w (h : P10 w) (h' : DB w) => text_any8 6 7 ip2 w rfl (by decide) (by decide) h h'
  rw [show (⟨lit1.toArray⟩ : ByteArray).data.toList = lit1 from rfl, colon_ex1] at h1
  rw [show (⟨lit2.toArray⟩ : ByteArray).data.toList = lit2 from rfl, colon_ex2] at h2
  rw [text_ex1] at h3
  rw [text_ex2] at h4
  simp only [adTupZ] at h1 h2
  unfold lit1 at h1
  unfold lit2 at h2
  unfold lit3 at h3
  unfold lit4 at h4
  have s1 := adSize 6 ip1 0 rfl
  have s2 := adSize 6 ip2 7 rfl
  have hz : (adCs 6 ip2 7).toArray[17]? = some (.int .i64 7) := rfl
  have hf : (adCs 6 ip1 0).toArray[0]? = some (.int .i64 6) := rfl
  obtain ⟨a1, ha1⟩ : ∃ a, a = ip1 := ⟨_, rfl⟩
  obtain ⟨a2, ha2⟩ : ∃ a, a = ip2 := ⟨_, rfl⟩
  have l1 : a1.length = 16 := by rw [ha1]; rfl
  have l2 : a2.length = 16 := by rw [ha2]; rfl
  rw [← ha1] at h1 h3 s1 hf
  rw [← ha2] at h2 h4 s2 hz
  have hPd : ∀ wr L, Ats w.heap.size w wr L → P10 wr := fun wr L h => hP.below (Nat.le_refl _) h.below
  have hDd : ∀ wr L, Ats w.heap.size w wr L → DB wr := fun wr L h => hD.below (Nat.le_refl _) h.below
  have hMd : ∀ wr L, Ats w.heap.size w wr L → MX wr := fun wr L h => hM.below (Nat.le_refl _) h.below
  have HPd := Lib.hid hPd
  have HDd := Lib.hid hDd
  have HMd := Lib.hid hMd
  have H1 := Lib.hid h1
  have H2 := Lib.hid h2
  have H3 := Lib.hid h3
  have H4 := Lib.hid h4
  clear hPd hDd hMd h1 h2 h3 h4 hP hD hM ha1 ha2
  go_enter Tryd.func5, Tryd.ntmps5
  go_wp2_with (first
    | ((with_reducible refine (H1.out _ (HPd.out _ _ S) (HMd.out _ _ S)).mono ?_); rintro e w2 ⟨rfl, hb⟩; have S := S.call hb; clear hb)
    | ((with_reducible refine (H2.out _ (HPd.out _ _ S) (HMd.out _ _ S)).mono ?_); rintro e w2 ⟨rfl, hb⟩; have S := S.call hb; clear hb)
    | ((with_reducible refine (H3.out _ (HPd.out _ _ S) (HDd.out _ _ S)).mono ?_); rintro e w2 ⟨rfl, hb⟩; have S := S.call hb; clear hb)
    | ((with_reducible refine (H4.out _ (HPd.out _ _ S) (HDd.out _ _ S)).mono ?_); rintro e w2 ⟨rfl, hb⟩; have S := S.call hb; clear hb)
    | ((with_reducible show wpList _ _ _ (Oper.mk (some 1) (Op.alloc _) _ _ _ _ :: _) _ _); refine wpList_allocS rfl _ rfl _ adZero S ?_; clear S; intro ga w1 S)
    | ((with_reducible show wpList _ _ _ (Oper.mk (some 3) (Op.alloc _) _ _ _ _ :: _) _ _); refine wpList_allocS rfl _ rfl _ adZero S ?_; clear S; intro gb w1 S)
    | ((with_reducible show wpList _ _ _ (Oper.mk _ (Op.store _ (Operand.tmp 1) _) _ _ _ _ :: _) _ _); refine wpList_storeS rfl _ _ _ rfl S _ rfl _ rfl 0 _ _ rfl s1 (by exact ad_sizes _ _ _ _ _ _ rfl l1) (by exact adCs_one _ _ _) ?_; clear S; intro w1 S; (first | simp only [List.set_cons_zero] at S | simp only [List.set_cons_succ, List.set_cons_zero] at S | skip))
    | ((with_reducible show wpList _ _ _ (Oper.mk _ (Op.store _ (Operand.tmp 3) _) _ _ _ _ :: _) _ _); refine wpList_storeS rfl _ _ _ rfl S _ rfl _ rfl 0 _ _ rfl s2 (by exact ad_sizes _ _ _ _ _ _ rfl l2) (by exact adCs_one _ _ _) ?_; clear S; intro w1 S; (first | simp only [List.set_cons_zero] at S | simp only [List.set_cons_succ, List.set_cons_zero] at S | skip))
    | ((with_reducible show wpList _ _ _ (Oper.mk _ (Op.load _ (Operand.tmp 1)) _ _ _ _ :: _) _ _); refine wpList_loadS rfl _ _ rfl S _ rfl 1 _ _ rfl _ Tryd.underlying25 rfl s1 ?_)
    | ((with_reducible show wpList _ _ _ (Oper.mk _ (Op.load _ (Operand.tmp 3)) _ _ _ _ :: _) _ _); refine wpList_loadS rfl _ _ rfl S _ rfl 0 _ _ rfl _ Tryd.underlying25 rfl s2 ?_)
    | ((with_reducible show wpList _ _ _ (Oper.mk _ (Op.load _ _) _ _ _ _ :: _) _ _); refine wpList_cellS rfl _ _ rfl S _ _ rfl 1 _ _ rfl _ Tryd.underlying3 rfl _ (by with_reducible exact hf) ?_)
    | ((with_reducible show wpList _ _ _ (Oper.mk _ (Op.load _ _) _ _ _ _ :: _) _ _); refine wpList_cellS rfl _ _ rfl S _ _ rfl 0 _ _ rfl _ Tryd.underlying3 rfl _ (by with_reducible exact hz) ?_))
  go_ret
  exact ⟨rfl, S.below⟩
set_option maxHeartbeats 4000000 in
theorem back08_any (f z : Int) (ip : List UInt8) (w : World) (hip : ip.length = 16) (hz0 : -9223372036854775808 ≤ z) (hz : z ≤ 9223372036854775807) (hP : P10 w) (hD : DB w) (hM : MX w) :
    Calls Tryd.prog 4 #[adV f ip z] w fun e w' => e = .returned (.bool true) ∧ Below w.heap.size w w' := by
  have S := Ats.start w
  have hl := textC_len ip z hz
  have h1 := fun w (h : P10 w) (h' : DB w) => text_any8 f z ip w hip hz0 hz h h'
  have h2 := fun w (h : P10 w) (h' : MX w) => parse_any8 ⟨(textC ip z).toArray⟩ w (by show (textC ip z).length ≤ 4000; omega) h h'
  have h3 := fun w => refText_any8 f z ip w hip hz0 hz
  have h4 := fun w (h : P10 w) (h' : DB w) (h'' : MX w) => works08_any w h h' h''
  have e2 : (⟨(textC ip z).toArray⟩ : ByteArray).data.toList = textC ip z := rfl
  rw [e2] at h2
  have hc1 := colon_zone ip z hip
  have hc2 := colon_plain ip z hip
  have hzc := ad_zone f z ip hip
  have hG := ad_guard
  obtain ⟨t, ht⟩ : ∃ t : ByteArray, t = ⟨(textC ip z).toArray⟩ := ⟨_, rfl⟩
  obtain ⟨R, hR⟩ : ∃ R, R = colonE (textC ip z) := ⟨_, rfl⟩
  rw [← ht] at h1 h2 h3
  rw [← hR] at h2 hc1 hc2
  simp only [adTupZ] at h2
  have hPd : ∀ wr L, Ats w.heap.size w wr L → P10 wr := fun wr L h => hP.below (Nat.le_refl _) h.below
  have hDd : ∀ wr L, Ats w.heap.size w wr L → DB wr := fun wr L h => hD.below (Nat.le_refl _) h.below
  have hMd : ∀ wr L, Ats w.heap.size w wr L → MX wr := fun wr L h => hM.below (Nat.le_refl _) h.below
  have HPd := Lib.hid hPd
  have HDd := Lib.hid hDd
  have HMd := Lib.hid hMd
  have H1 := Lib.hid h1
  have H3 := Lib.hid h3
  have H4 := Lib.hid h4
  clear hPd hDd hMd h1 h3 h4 hP hD hM ht hR e2 hl
  by_cases hb : 2147483647 < z
  · have hc := hc1 (by omega)
    rw [if_pos hb] at hc
    have d1 : decide ((2147483647 : Int) < z) = true := decide_eq_true hb
    subst hc
    have H2 := Lib.hid h2
    clear h2 hc1 hc2 hb
    go_enter Tryd.func4, Tryd.ntmps4
    go_wp2_with (first
      | ((with_reducible show wpList _ _ _ (Oper.mk _ (Op.box _ _) _ _ _ _ :: _) _ _); refine wpList_boxS rfl _ _ rfl (adCs f ip z).toArray rfl S ?_; clear S; intro gx w1 S)
      | ((with_reducible refine (H1.out _ (HPd.out _ _ S) (HDd.out _ _ S)).mono ?_); rintro e w2 ⟨rfl, hb⟩; have S := S.call hb; clear hb)
      | ((with_reducible refine (H4.out _ (HPd.out _ _ S) (HDd.out _ _ S) (HMd.out _ _ S)).mono ?_); rintro e w2 ⟨rfl, hb⟩; have S := S.call hb; clear hb)
      | ((with_reducible refine (H3.out _).mono ?_); rintro e w2 ⟨rfl, hb⟩; have S := S.call hb; clear hb)
      | ((with_reducible refine (H2.out _ (HPd.out _ _ S) (HMd.out _ _ S)).mono ?_); rintro e w2 ⟨rfl, hb⟩; have S := S.call hb; clear hb)
      | ((with_reducible show wpList _ _ _ (Oper.mk _ (Op.load _ _) _ _ _ _ :: _) _ _); refine wpList_loadS rfl _ _ rfl S _ rfl 0 _ _ rfl _ Tryd.underlying25 rfl (adSize _ _ _ hip) ?_)
      | ((with_reducible show wpList _ _ _ (Oper.mk (some 4) (Op.alloc _) _ _ _ _ :: _) _ _); refine wpList_allocS rfl _ rfl _ adZero S ?_; clear S; intro gb w1 S)
      | ((with_reducible show wpList _ _ _ (Oper.mk _ (Op.store _ _ _) _ _ _ _ :: _) _ _); refine wpList_storeS rfl _ _ _ rfl S _ rfl _ rfl 0 _ _ rfl adInfo (by rfl) (by first | exact adCs_one _ _ _ | simp [Value.oneCell']) ?_; clear S; intro w1 S; (first | simp only [List.set_cons_zero] at S | simp only [List.set_cons_succ, List.set_cons_zero] at S | skip))
      | ((with_reducible show wpList _ _ _ (Oper.mk _ (Op.load _ _) _ _ _ _ :: _) _ _); refine wpList_cellS rfl _ _ rfl S _ _ rfl 1 _ _ rfl _ Tryd.underlying3 rfl _ (by with_reducible exact hzc) ?_))
    go_ret
    exact ⟨rfl, S.below⟩
  · have hc : R = ⟨6, ip, max z 0, 0⟩ := by
      by_cases h0 : 0 < z
      · rw [hc1 h0, if_neg hb, Int.max_eq_left (by omega)]
      · rw [hc2 h0, Int.max_eq_right (by omega)]
    have d1 : decide ((2147483647 : Int) < z) = false := decide_eq_false hb
    obtain ⟨zz, hzz⟩ : ∃ zz, zz = max z 0 := ⟨_, rfl⟩
    rw [← hzz] at hc
    subst hc
    have H2 := Lib.hid h2
    have hin : (Tryd.prog.info? 23).map (·.size) = some (ip.map cellU).length := by rw [z16Size]; simp [hip]
    have hcl : ∀ (j : Nat) v, (ip.map cellU)[j]? = some v → (adCs f ip z).toArray[1 + j]? = some v := by
      intro j v hv
      rw [List.getElem?_map, Option.map_eq_some_iff] at hv
      obtain ⟨c, hc, rfl⟩ := hv
      exact ad_byte f z ip j c hc
    have sz := adSize 6 ip zz hip
    have hEq := ad_eqlSelf 6 zz ip hip
    have hmx := hzz.symm
    have hbd := build_ad ip hip
    have hzn := ad_setZone 6 0 zz ip hip
    have hl18 : (adCs 6 ip 0).length = 18 := by rw [adCs_len, hip]
    clear h2 hc1 hc2 hb hzz
    go_enter Tryd.func4, Tryd.ntmps4
    go_wp2_with (first
      | ((with_reducible show wpList _ _ _ (Oper.mk _ (Op.box _ _) _ _ _ _ :: _) _ _); refine wpList_boxS rfl _ _ rfl (adCs f ip z).toArray rfl S ?_; clear S; intro gx w1 S)
      | ((with_reducible refine (H1.out _ (HPd.out _ _ S) (HDd.out _ _ S)).mono ?_); rintro e w2 ⟨rfl, hb⟩; have S := S.call hb; clear hb)
      | ((with_reducible refine (H4.out _ (HPd.out _ _ S) (HDd.out _ _ S) (HMd.out _ _ S)).mono ?_); rintro e w2 ⟨rfl, hb⟩; have S := S.call hb; clear hb)
      | ((with_reducible refine (H3.out _).mono ?_); rintro e w2 ⟨rfl, hb⟩; have S := S.call hb; clear hb)
      | ((with_reducible refine (H2.out _ (HPd.out _ _ S) (HMd.out _ _ S)).mono ?_); rintro e w2 ⟨rfl, hb⟩; have S := S.call hb; clear hb)
      | ((with_reducible show wpList _ _ _ (Oper.mk _ (Op.load _ (Operand.tmp 1)) _ _ _ _ :: _) _ _); refine wpList_loadS rfl _ _ rfl S _ rfl 0 _ _ rfl _ Tryd.underlying25 rfl (adSize _ _ _ hip) ?_)
      | ((with_reducible show wpList _ _ _ (Oper.mk (some 4) (Op.alloc _) _ _ _ _ :: _) _ _); refine wpList_allocS rfl _ rfl _ adZero S ?_; clear S; intro gb w1 S)
      | ((with_reducible show wpList _ _ _ (Oper.mk (some 6) (Op.alloc _) _ _ _ _ :: _) _ _); refine wpList_allocS rfl _ rfl _ adZero S ?_; clear S; intro gc w1 S)
      | ((with_reducible show wpList _ _ _ (Oper.mk _ (Op.store _ (Operand.tmp 4) _) _ _ _ _ :: _) _ _); refine wpList_storeS rfl _ _ _ rfl S _ rfl _ rfl 0 _ _ rfl sz (by exact ad_sizes _ _ _ _ _ _ rfl hip) (by exact adCs_one _ _ _) ?_; clear S; intro w1 S; (first | simp only [List.set_cons_zero] at S | simp only [List.set_cons_succ, List.set_cons_zero] at S | skip))
      | ((with_reducible show wpList _ _ _ (Oper.mk _ (Op.store _ (Operand.tmp 6) _) _ _ _ _ :: _) _ _); refine wpList_storeS rfl _ _ _ rfl S _ rfl _ rfl 0 _ _ rfl sz (by exact ad_sizes _ _ _ _ _ _ rfl hip) (by exact adCs_one _ _ _) ?_; clear S; intro w1 S; (first | simp only [List.set_cons_zero] at S | simp only [List.set_cons_succ, List.set_cons_zero] at S | skip))
      | ((with_reducible show wpList _ _ _ (Oper.mk (some 28) (Op.load _ _) _ _ _ _ :: _) _ _); refine wpList_partS rfl _ _ rfl S _ _ rfl 1 _ _ rfl _ Tryd.underlying23 rfl (ip.map cellU) hin hcl ?_)
      | ((with_reducible show wpList _ _ _ (Oper.mk _ (Op.load _ (Operand.tmp 4)) _ _ _ _ :: _) _ _); refine wpList_loadS rfl _ _ rfl S _ rfl 1 _ _ rfl _ Tryd.underlying25 rfl sz ?_)
      | ((with_reducible show wpList _ _ _ (Oper.mk _ (Op.load _ (Operand.tmp 6)) _ _ _ _ :: _) _ _); refine wpList_loadS rfl _ _ rfl S _ rfl 0 _ _ rfl _ Tryd.underlying25 rfl sz ?_)
      | ((with_reducible show wpList _ _ _ (Oper.mk _ (Op.load _ _) _ _ _ _ :: _) _ _); refine wpList_cellS rfl _ _ rfl S _ _ rfl 1 _ _ rfl _ Tryd.underlying3 rfl _ (by with_reducible exact hzc) ?_))
    go_ret
    exact ⟨rfl, S.below⟩
theorem colonBack_law {H : Type} {enc : TypeId × Value → H} {d0 : DataW H} {p0 : List MemPlace} {base : Nat} (v0 : Value) (W : World) (o0 : Value.okWide Tryd.prog W .any base 25 v0)
    (k0 : DataW.Trod enc Tryd.prog W 0 (fun _ => true) true 25 v0 d0 p0) (hD : DB W) (hP : P10 W) (hM : MX W) :
    Calls Tryd.prog 4 #[v0] W fun e w' => e = .returned (.bool true) ∧ Below W.heap.size W w' := by
  obtain ⟨f, z, ip, rfl, hip, _, wz⟩ := open_ad o0 k0
  have h0 : -9223372036854775808 ≤ z ∧ z ≤ 9223372036854775807 := by
    simp only [Lit.wf, Bool.and_eq_true, decide_eq_true_eq] at wz
    have e0 : IntKind.i64.min = -9223372036854775808 := rfl
    have e1 : IntKind.i64.max = 9223372036854775807 := rfl
    omega
  exact back08_any f z ip W hip h0.1 h0.2 hP hD hM
end Go.Proofs.YtkchgjakkogejaaDoor
