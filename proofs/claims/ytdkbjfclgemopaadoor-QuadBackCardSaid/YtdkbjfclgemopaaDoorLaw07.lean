/- The law of layer 7: what is written is read. -/
import Derived.Test.YtdkbjfclgemopaaDoorQuad7
namespace Go.Proofs.YtdkbjfclgemopaaDoor
open Go.RowKit Go
set_option linter.unusedVariables false
theorem ip_get (ip : List UInt8) (k : Nat) (hip : ip.length = 16) (hk : k < 16) : ip[k]? = some (ip.getD k 0) := by
  rw [List.getD_eq_getElem?_getD, List.getElem?_eq_getElem (show k < ip.length by omega)]
  rfl
set_option maxRecDepth 100000 in
set_option maxHeartbeats 4000000 in
theorem back07_any (f z : Int) (ip : List UInt8) (w : World) (hip : ip.length = 16) (hP : P10 w) :
    Calls Tryd.prog 3 #[adV f ip z] w fun e w' => e = .returned (.bool true) ∧ Below w.heap.size w w' := by
  have S := Ats.start w
  have hl := (quadT_len (ip.getD 0 0) (ip.getD 1 0) (ip.getD 2 0) (ip.getD 3 0)).1
  have h1 := fun w (h : P10 w) => text_any f z ip w hip h
  have h2 := fun w (h : P10 w) => parse_any ⟨(quadI ip).toArray⟩ w (by show (quadI ip).length ≤ 4000; unfold quadI; omega) h
  have h3 := fun w => loose_any ⟨(quadI ip).toArray⟩ w (by show (quadI ip).length ≤ 4000; unfold quadI; omega)
  have h4 := fun w => of_any (ip.getD 0 0) (ip.getD 1 0) (ip.getD 2 0) (ip.getD 3 0) w
  have h5 := fun w (h : P10 w) => works07_any w h
  have h6 := fun w => refText_any f z ip w hip
  have h7 := fun w => refOf_any (ip.getD 0 0) (ip.getD 1 0) (ip.getD 2 0) (ip.getD 3 0) w
  have e2 : parseE (⟨(quadI ip).toArray⟩ : ByteArray).data.toList = ⟨4, quad16 (ip.getD 0 0) (ip.getD 1 0) (ip.getD 2 0) (ip.getD 3 0), 0⟩ := quadT_parse _ _ _ _
  have e3 : looseE (⟨(quadI ip).toArray⟩ : ByteArray).data.toList = ⟨4, quad16 (ip.getD 0 0) (ip.getD 1 0) (ip.getD 2 0) (ip.getD 3 0), 0⟩ := quadT_loose _ _ _ _
  rw [e2] at h2
  rw [e3] at h3
  simp only [adTup] at h2 h3
  have b0 : (adCs f ip z).toArray[1]? = some (.int .u8 (ip.getD 0 0).toNat) := ad_byte f z ip 0 _ (ip_get ip 0 hip (by decide))
  have b1 : (adCs f ip z).toArray[2]? = some (.int .u8 (ip.getD 1 0).toNat) := ad_byte f z ip 1 _ (ip_get ip 1 hip (by decide))
  have b2 : (adCs f ip z).toArray[3]? = some (.int .u8 (ip.getD 2 0).toNat) := ad_byte f z ip 2 _ (ip_get ip 2 hip (by decide))
  have b3 : (adCs f ip z).toArray[4]? = some (.int .u8 (ip.getD 3 0).toNat) := ad_byte f z ip 3 _ (ip_get ip 3 hip (by decide))
  have hE := ad_eqlSelf 4 0 (quad16 (ip.getD 0 0) (ip.getD 1 0) (ip.getD 2 0) (ip.getD 3 0)) rfl
  have hG := ad_guard
  have hW := wrapU8
  have c0 := UInt8.toNat_lt (ip.getD 0 0)
  have c1 := UInt8.toNat_lt (ip.getD 1 0)
  have c2 := UInt8.toNat_lt (ip.getD 2 0)
  have c3 := UInt8.toNat_lt (ip.getD 3 0)
  obtain ⟨x0, hx0⟩ : ∃ x, x = ip.getD 0 0 := ⟨_, rfl⟩
  obtain ⟨x1, hx1⟩ : ∃ x, x = ip.getD 1 0 := ⟨_, rfl⟩
  obtain ⟨x2, hx2⟩ : ∃ x, x = ip.getD 2 0 := ⟨_, rfl⟩
  obtain ⟨x3, hx3⟩ : ∃ x, x = ip.getD 3 0 := ⟨_, rfl⟩
  rw [← hx0, ← hx1, ← hx2, ← hx3] at h2 h3 h4 h7 hE
  rw [← hx0] at b0 c0
  rw [← hx1] at b1 c1
  rw [← hx2] at b2 c2
  rw [← hx3] at b3 c3
  obtain ⟨t, ht⟩ : ∃ t : ByteArray, t = ⟨(quadI ip).toArray⟩ := ⟨_, rfl⟩
  rw [← ht] at h1 h2 h3 h6
  have hPd : ∀ wr L, Ats w.heap.size w wr L → P10 wr := fun wr L h => hP.below (Nat.le_refl _) h.below
  have HPd := Lib.hid hPd
  have H1 := Lib.hid h1
  have H2 := Lib.hid h2
  have H3 := Lib.hid h3
  have H4 := Lib.hid h4
  have H5 := Lib.hid h5
  have H6 := Lib.hid h6
  have H7 := Lib.hid h7
  have B0 := Lib.hid b0
  have B1 := Lib.hid b1
  have B2 := Lib.hid b2
  have B3 := Lib.hid b3
  have HI := Lib.hid hip
  clear hPd h1 h2 h3 h4 h5 h6 h7 b0 b1 b2 b3 e2 e3 hx0 hx1 hx2 hx3 ht hl hip
  go_enter Tryd.func3, Tryd.ntmps3
  go_wp2_with (first
    | ((with_reducible refine (H1.out _ (HPd.out _ _ S)).mono ?_); rintro e w2 ⟨rfl, hb⟩; have S := S.call hb; clear hb)
    | ((with_reducible refine (H2.out _ (HPd.out _ _ S)).mono ?_); rintro e w2 ⟨rfl, hb⟩; have S := S.call hb; clear hb)
    | ((with_reducible refine (H3.out _).mono ?_); rintro e w2 ⟨rfl, hb⟩; have S := S.call hb; clear hb)
    | ((with_reducible refine (H4.out _).mono ?_); rintro e w2 ⟨rfl, hb⟩; have S := S.call hb; clear hb)
    | ((with_reducible show wpList _ _ _ (Oper.mk _ (Op.box _ _) _ _ _ _ :: _) _ _); refine wpList_boxS rfl _ _ rfl (adCs f ip z).toArray rfl S ?_; clear S; intro gx w1 S)
    | ((with_reducible show wpList _ _ _ (Oper.mk _ (Op.alloc _) _ _ _ _ :: _) _ _); refine wpList_allocS rfl _ rfl _ adZero S ?_; clear S; intro ga w1 S)
    | ((with_reducible show wpList _ _ _ (Oper.mk _ (Op.load _ _) _ _ _ _ :: _) _ _); refine wpList_loadS rfl _ _ rfl S _ rfl 0 _ _ rfl _ Tryd.underlying24 rfl (adSize _ _ _ HI.out) ?_)
    | ((with_reducible show wpList _ _ _ (Oper.mk _ (Op.store _ _ _) _ _ _ _ :: _) _ _); refine wpList_storeS rfl _ _ _ rfl S _ rfl _ rfl 0 _ _ rfl adInfo (by rfl) (by first | exact adCs_one _ _ _ | simp [Value.oneCell']) ?_; clear S; intro w1 S; (first | simp only [List.set_cons_zero] at S | simp only [List.set_cons_succ, List.set_cons_zero] at S | skip))
    | ((with_reducible show wpList _ _ _ (Oper.mk _ (Op.load _ _) _ _ _ _ :: _) _ _); refine wpList_cellS rfl _ _ rfl S _ _ rfl 2 _ _ rfl _ Tryd.underlying5 rfl _ (by with_reducible first | exact B0.out | exact B1.out | exact B2.out | exact B3.out) ?_))
  (try simp only [Act.put, List.setIfInBounds_toArray, List.set_cons_succ, List.set_cons_zero]); refine quietS_region (by kernel_rfl) (by kernel_rfl) S ?_
  repeat (first
    | go_big_quiet_skip
    | (go_big_quiet_want
       first
         | ((with_reducible show Oper.quiet _ (Oper.mk _ (Op.call { callee := Callee.value (Operand.func 8), args := _, argTypes := _ }) _ _ _ _) _ _ _); refine q_call 8 _ _ rfl (enters_of Tryd.func8 (by kernel_rfl) rfl) (fun w S => ((H5.out _ (HPd.out _ _ S)).mono fun e w2 h => ⟨h.1, S.call h.2⟩)) (by simp [Act.eval]) ?_)
         | ((with_reducible show Oper.quiet _ (Oper.mk _ (Op.call { callee := Callee.value (Operand.func 9), args := _, argTypes := _ }) _ _ _ _) _ _ _); refine q_call 9 _ _ rfl (enters_of Tryd.func9 (by kernel_rfl) rfl) (fun w S => ((H6.out _).mono fun e w2 h => ⟨h.1, S.call h.2⟩)) (by simp [Act.eval]) ?_)
         | ((with_reducible show Oper.quiet _ (Oper.mk _ (Op.call { callee := Callee.value (Operand.func 10), args := _, argTypes := _ }) _ _ _ _) _ _ _); refine q_call 10 _ _ rfl (enters_of Tryd.func10 (by kernel_rfl) rfl) (fun w S => ((H7.out _).mono fun e w2 h => ⟨h.1, S.call h.2⟩)) (by simp [Act.eval]) ?_)
         | ((with_reducible show Oper.quiet _ (Oper.mk _ (Op.load _ (Operand.tmp 1)) _ _ _ _) _ _ _); refine q_loadS _ _ rfl _ rfl 3 _ _ rfl _ Tryd.underlying24 rfl (adSize _ _ _ HI.out) ?_)
         | ((with_reducible show Oper.quiet _ (Oper.mk _ (Op.load _ (Operand.tmp 4)) _ _ _ _) _ _ _); refine q_loadS _ _ rfl _ rfl 2 _ _ rfl _ Tryd.underlying24 rfl adInfo ?_)
         | ((with_reducible show Oper.quiet _ (Oper.mk _ (Op.load _ (Operand.tmp 6)) _ _ _ _) _ _ _); refine q_loadS _ _ rfl _ rfl 1 _ _ rfl _ Tryd.underlying24 rfl adInfo ?_)
         | ((with_reducible show Oper.quiet _ (Oper.mk _ (Op.load _ (Operand.tmp 8)) _ _ _ _) _ _ _); refine q_loadS _ _ rfl _ rfl 0 _ _ rfl _ Tryd.underlying24 rfl adInfo ?_)
         | ((with_reducible show Oper.quiet _ (Oper.mk _ (Op.load _ _) _ _ _ _) _ _ _); refine q_cellS _ _ rfl _ _ rfl 3 _ _ rfl _ Tryd.underlying5 rfl _ (by with_reducible first | exact B0.out | exact B1.out | exact B2.out | exact B3.out) ?_)
         | (refine q_pure (v := ?_) ?_ ?_; rotate_left; focus (intro w; go_simp; try with_reducible rfl))
       (simp only [Act.put, List.setIfInBounds_toArray, List.set_cons_succ, List.set_cons_zero]; go_big_quiet_on)))
  (refine wpQuiet_nil ?_; clear S; intro w1 S)
  go_wp2_with fail
  go_ret
  exact ⟨rfl, S.below⟩
end Go.Proofs.YtdkbjfclgemopaaDoor
