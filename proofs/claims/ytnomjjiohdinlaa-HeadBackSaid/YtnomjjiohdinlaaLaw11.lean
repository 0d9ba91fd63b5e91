/- The laws of layer 11. -/
import Derived.Test.YtnomjjiohdinlaaRef11
import Derived.Test.YtnomjjiohdinlaaOpenHd
namespace Go.Proofs.Ytnomjjiohdinlaa
open Go.RowKit Go
set_option linter.unusedVariables false
set_option linter.unusedSimpArgs false
set_option maxRecDepth 100000
def cn1 : Nat → Int := fun i => match i with | 0 => 1 | _ => 0
def hd1 : Hd := ⟨1, false, 0, false, false, true, false, false, false, 0⟩
theorem works11_any (w : World) : Calls Try.prog 5 #[] w fun e w' => e = .returned (.bool true) ∧ Below w.heap.size w w' := by
  have hP := fun w => put_any hd1 cn1 w
  have e : hdPut hd1 cn1 = ([0, 1, 1, 0, 0, 1, 0, 0, 0, 0, 0, 0], 0) := by decide
  rw [e] at hP
  have hP : ∀ w, Calls Try.prog 8 #[.agg #[.int .i64 1, .bool false, .int .i64 0, .bool false, .bool false, .bool true, .bool false, .bool false, .bool false, .int .i64 0], .agg #[.int .i64 1, .int .i64 0, .int .i64 0, .int .i64 0]] w fun e w' => e = .returned (.tuple #[.string ⟨#[0, 1, 1, 0, 0, 1, 0, 0, 0, 0, 0, 0]⟩, .int .i64 0]) ∧ Below w.heap.size w w' := hP
  have HP := Lib.hid hP
  clear hP e
  have S := Ats.start w
  go_enter Try.func5, Try.ntmps5
  go_wp2_with ((with_reducible refine (HP.out _).mono ?_); rintro e w2 ⟨rfl, hb⟩; have S := S.call hb; clear hb)
  go_ret
  exact ⟨rfl, S.below⟩
set_option maxHeartbeats 4000000 in
theorem headGets_law (s : ByteArray) (w : World) {p0 : Prop} (_ : p0) : Calls Try.prog 3 #[.string s] w fun e w' => e = .returned (.bool true) ∧ Below w.heap.size w w' := by
  have hO := fun w => works11_any w
  have HO := Lib.hid hO
  have S := Ats.start w
  clear hO
  by_cases hlen : (100 : Int) < (s.size : Int)
  · go_enter Try.func3, Try.ntmps3
    go_wp2_with ((with_reducible refine (HO.out _).mono ?_); rintro e w2 ⟨rfl, hb⟩; have S := S.call hb; clear hb)
    go_ret
    exact ⟨rfl, S.below⟩
  · have hG := fun w => get_any s w
    have hR := fun w => refGet_any s w
    obtain ⟨h, c, x, hv⟩ : ∃ h c x, (if s.size < 12 then getV zeroH (fun _ => 0) 1 else getV (unH (hdW s.data.toList 0) (hdW s.data.toList 1)) (fun i => hdW s.data.toList (2 + i)) 0) = getV h c x := by
      split
      · exact ⟨_, _, _, rfl⟩
      · exact ⟨_, _, _, rfl⟩
    rw [hv] at hG hR
    have hE := hd_eql h
    have hF := cn_eql c
    have hg := hd_guard
    have hg2 := cn_guard
    have HG := Lib.hid hG
    have HR := Lib.hid hR
    clear hG hR hv
    go_enter Try.func3, Try.ntmps3
    go_wp2_with (first
      | ((with_reducible refine (HO.out _).mono ?_); rintro e w2 ⟨rfl, hb⟩; have S := S.call hb; clear hb)
      | ((with_reducible refine (HG.out _).mono ?_); rintro e w2 ⟨rfl, hb⟩; have S := S.call hb; clear hb)
      | ((with_reducible refine (HR.out _).mono ?_); rintro e w2 ⟨rfl, hb⟩; have S := S.call hb; clear hb)
      | ((with_reducible show wpList _ _ _ (Oper.mk (some 3) (Op.alloc _) _ _ _ _ :: _) _ _); refine wpList_allocS rfl _ rfl _ hdZero S ?_; clear S; intro g3 w1 S)
      | ((with_reducible show wpList _ _ _ (Oper.mk (some 4) (Op.alloc _) _ _ _ _ :: _) _ _); refine wpList_allocS rfl _ rfl _ cnZero S ?_; clear S; intro g4 w1 S)
      | ((with_reducible show wpList _ _ _ (Oper.mk (some 6) (Op.alloc _) _ _ _ _ :: _) _ _); refine wpList_allocS rfl _ rfl _ hdZero S ?_; clear S; intro g6 w1 S)
      | ((with_reducible show wpList _ _ _ (Oper.mk (some 7) (Op.alloc _) _ _ _ _ :: _) _ _); refine wpList_allocS rfl _ rfl _ cnZero S ?_; clear S; intro g7 w1 S)
      | ((with_reducible show wpList _ _ _ (Oper.mk _ (Op.store _ (Operand.tmp 3) _) _ _ _ _ :: _) _ _); refine wpList_storeS rfl _ _ _ rfl S _ rfl _ rfl 1 _ _ rfl hdInfo (by rfl) (by exact hdOne _) ?_; clear S; intro w1 S; (first | simp only [List.set_cons_zero] at S | simp only [List.set_cons_succ, List.set_cons_zero] at S | skip))
      | ((with_reducible show wpList _ _ _ (Oper.mk _ (Op.store _ (Operand.tmp 4) _) _ _ _ _ :: _) _ _); refine wpList_storeS rfl _ _ _ rfl S _ rfl _ rfl 0 _ _ rfl cnInfo (by rfl) (by exact cnOne _) ?_; clear S; intro w1 S; (first | simp only [List.set_cons_zero] at S | simp only [List.set_cons_succ, List.set_cons_zero] at S | skip))
      | ((with_reducible show wpList _ _ _ (Oper.mk _ (Op.store _ (Operand.tmp 6) _) _ _ _ _ :: _) _ _); refine wpList_storeS rfl _ _ _ rfl S _ rfl _ rfl 1 _ _ rfl hdInfo (by rfl) (by exact hdOne _) ?_; clear S; intro w1 S; (first | simp only [List.set_cons_zero] at S | simp only [List.set_cons_succ, List.set_cons_zero] at S | skip))
      | ((with_reducible show wpList _ _ _ (Oper.mk _ (Op.store _ (Operand.tmp 7) _) _ _ _ _ :: _) _ _); refine wpList_storeS rfl _ _ _ rfl S _ rfl _ rfl 0 _ _ rfl cnInfo (by rfl) (by exact cnOne _) ?_; clear S; intro w1 S; (first | simp only [List.set_cons_zero] at S | simp only [List.set_cons_succ, List.set_cons_zero] at S | skip))
      | ((with_reducible show wpList _ _ _ (Oper.mk _ (Op.load _ (Operand.tmp 3)) _ _ _ _ :: _) _ _); refine wpList_loadS rfl _ _ rfl S _ rfl 3 _ _ rfl _ Try.underlying24 rfl hdInfo ?_)
      | ((with_reducible show wpList _ _ _ (Oper.mk _ (Op.load _ (Operand.tmp 6)) _ _ _ _ :: _) _ _); refine wpList_loadS rfl _ _ rfl S _ rfl 1 _ _ rfl _ Try.underlying24 rfl hdInfo ?_)
      | ((with_reducible show wpList _ _ _ (Oper.mk _ (Op.load _ (Operand.tmp 4)) _ _ _ _ :: _) _ _); refine wpList_loadS rfl _ _ rfl S _ rfl 2 _ _ rfl _ Try.underlying25 rfl cnInfo ?_)
      | ((with_reducible show wpList _ _ _ (Oper.mk _ (Op.load _ (Operand.tmp 7)) _ _ _ _ :: _) _ _); refine wpList_loadS rfl _ _ rfl S _ rfl 0 _ _ rfl _ Try.underlying25 rfl cnInfo ?_))
    go_ret
    exact ⟨rfl, S.below⟩
theorem get_back (h : Hd) (c : Nat → Int) (more : ByteArray) (hk : hdOk h = true) (hc : cntOk c = true) (w : World) :
    Calls Try.prog 6 #[.string ((⟨(hdT h c).toArray⟩ : ByteArray) ++ more)] w fun e w' => e = .returned (getV h c 0) ∧ Below w.heap.size w w' := by
  have hg := get_any ((⟨(hdT h c).toArray⟩ : ByteArray) ++ more) w
  have hl : ((⟨(hdT h c).toArray⟩ : ByteArray) ++ more).data.toList = hdT h c ++ more.data.toList := by simp
  have hz : ((⟨(hdT h c).toArray⟩ : ByteArray) ++ more).size = ((⟨(hdT h c).toArray⟩ : ByteArray) ++ more).data.toList.length := by rw [Array.length_toList]; rfl
  have hn : ¬ ((⟨(hdT h c).toArray⟩ : ByteArray) ++ more).size < 12 := by
    rw [hz, hl, List.length_append, show (hdT h c).length = 12 from hdTk_len h c 4]; omega
  rw [if_neg hn, hl] at hg
  have hb := hdOk_bd hk
  rw [hdT_id h c _ ⟨hb.1, hb.2.1⟩, hdT_n h c _ (hdN_bd hk), unH_N hk] at hg
  unfold getV cnV at hg ⊢
  rw [cnC_ext (c := fun i => ((hdW (hdT h c ++ more.data.toList) (2 + i) : Nat) : Int)) (d := c) fun i hi => hdT_c h c _ i hi (cntOk_bd hc i hi)] at hg
  exact hg
theorem hdPut_cases (h : Hd) (c : Nat → Int) : (hdOk h = true ∧ cntOk c = true ∧ hdPut h c = (hdT h c, 0)) ∨ hdPut h c = ([], 4) := by
  cases a : hdOk h
  · exact .inr (hdPut_head c a)
  · cases b : cntOk c
    · exact .inr (hdPut_cnt b)
    · exact .inl ⟨rfl, rfl, hdPut_yes a b⟩
set_option maxHeartbeats 4000000 in
theorem back11_any (h : Hd) (c : Nat → Int) (more : ByteArray) (w : World) : Calls Try.prog 4 #[hdV h, cnV c, .string more] w fun e w' => e = .returned (.bool true) ∧ Below w.heap.size w w' := by
  have hO := fun w => works11_any w
  have HO := Lib.hid hO
  have S := Ats.start w
  clear hO
  by_cases hlen : (100 : Int) < (more.size : Int)
  · go_enter Try.func4, Try.ntmps4
    go_wp2_with (first
      | ((with_reducible show wpList _ _ _ (Oper.mk (some 3) (Op.box _ _) _ _ _ _ :: _) _ _); refine wpList_boxS rfl _ _ rfl (hdC h) rfl S ?_; clear S; intro gh w1 S)
      | ((with_reducible show wpList _ _ _ (Oper.mk (some 4) (Op.box _ _) _ _ _ _ :: _) _ _); refine wpList_boxS rfl _ _ rfl (cnC c) rfl S ?_; clear S; intro gn w1 S)
      | ((with_reducible refine (HO.out _).mono ?_); rintro e w2 ⟨rfl, hb⟩; have S := S.call hb; clear hb))
    go_ret
    exact ⟨rfl, S.below⟩
  · have hP := fun w => put_any h c w
    have hR := fun w => refPut11_any h c w
    have hC := fun w => check_any h w
    have hD := fun w => refCheck_any h w
    have hE := hd_eql h
    have hF := cn_eql c
    have hg := hd_guard
    have hg2 := cn_guard
    obtain ⟨x, hx⟩ : ∃ x, x = hdE h := ⟨_, rfl⟩
    rw [← hx] at hC hD
    have HC := Lib.hid hC
    have HD := Lib.hid hD
    clear hC hD hx
    rcases hdPut_cases h c with ⟨hk, hc, hp⟩ | hp
    · rw [hp] at hP hR
      have hG := fun w => get_back h c more hk hc w
      have hz : (⟨(hdT h c).toArray⟩ : ByteArray).size = 12 := by show (hdT h c).toArray.size = 12; rw [List.size_toArray]; exact hdTk_len h c 4
      simp only [putV] at hP hR
      obtain ⟨s, hs⟩ : ∃ s : ByteArray, s = ⟨(hdT h c).toArray⟩ := ⟨_, rfl⟩
      simp only [← hs] at hP hR hG hz
      have HP := Lib.hid hP
      have HR := Lib.hid hR
      have HG := Lib.hid hG
      clear hP hR hG hk hc hp hs
      go_enter Try.func4, Try.ntmps4
      go_wp2_with (first
        | ((with_reducible show wpList _ _ _ (Oper.mk (some 3) (Op.box _ _) _ _ _ _ :: _) _ _); refine wpList_boxS rfl _ _ rfl (hdC h) rfl S ?_; clear S; intro gh w1 S)
        | ((with_reducible show wpList _ _ _ (Oper.mk (some 4) (Op.box _ _) _ _ _ _ :: _) _ _); refine wpList_boxS rfl _ _ rfl (cnC c) rfl S ?_; clear S; intro gn w1 S)
        | ((with_reducible show wpList _ _ _ (Oper.mk _ (Op.load _ (Operand.tmp 3)) _ _ _ _ :: _) _ _); refine wpList_loadS rfl _ _ rfl S _ rfl 1 _ _ rfl _ Try.underlying24 rfl hdInfo ?_)
        | ((with_reducible show wpList _ _ _ (Oper.mk _ (Op.load _ (Operand.tmp 4)) _ _ _ _ :: _) _ _); refine wpList_loadS rfl _ _ rfl S _ rfl 0 _ _ rfl _ Try.underlying25 rfl cnInfo ?_)
        | ((with_reducible refine (HP.out _).mono ?_); rintro e w2 ⟨rfl, hb⟩; have S := S.call hb; clear hb)
        | ((with_reducible refine (HR.out _).mono ?_); rintro e w2 ⟨rfl, hb⟩; have S := S.call hb; clear hb))
      (try simp only [Act.put, List.setIfInBounds_toArray, List.set_cons_succ, List.set_cons_zero]); refine quietS_region (by kernel_rfl) (by kernel_rfl) S ?_
      repeat (first
        | go_big_quiet_skip
        | (go_big_quiet_want
           first
             | ((with_reducible show Oper.quiet _ (Oper.mk _ (Op.load _ (Operand.tmp 3)) _ _ _ _) _ _ _); refine q_loadS _ _ rfl _ rfl 1 _ _ rfl _ Try.underlying24 rfl hdInfo ?_)
             | ((with_reducible show Oper.quiet _ (Oper.mk (some 30) (Op.call { callee := Callee.value (Operand.func 5), args := _, argTypes := _ }) _ _ _ _) _ _ _); refine q_call 5 _ _ rfl (enters_of Try.func5 (by kernel_rfl) rfl) (fun w S => (((HO.out _)).mono fun e w2 h => ⟨h.1, S.call h.2⟩)) (by simp [Act.eval]) ?_)
             | ((with_reducible show Oper.quiet _ (Oper.mk (some 44) (Op.call { callee := Callee.value (Operand.func 10), args := _, argTypes := _ }) _ _ _ _) _ _ _); refine q_call 10 _ _ rfl (enters_of Try.func10 (by kernel_rfl) rfl) (fun w S => (((HC.out _)).mono fun e w2 h => ⟨h.1, S.call h.2⟩)) (by simp [Act.eval]) ?_)
             | ((with_reducible show Oper.quiet _ (Oper.mk (some 46) (Op.call { callee := Callee.value (Operand.func 11), args := _, argTypes := _ }) _ _ _ _) _ _ _); refine q_call 11 _ _ rfl (enters_of Try.func11 (by kernel_rfl) rfl) (fun w S => (((HD.out _)).mono fun e w2 h => ⟨h.1, S.call h.2⟩)) (by simp [Act.eval]) ?_)
             | (refine q_pure (v := ?_) ?_ ?_; rotate_left; focus (intro w; go_simp; try with_reducible rfl))
           (simp only [Act.put, List.setIfInBounds_toArray, List.set_cons_succ, List.set_cons_zero]; go_big_quiet_on)))
      (refine wpQuiet_nil ?_; clear S; intro w1 S)
      go_wp2_with (first
        | ((with_reducible show wpList _ _ _ (Oper.mk (some 11) (Op.alloc _) _ _ _ _ :: _) _ _); refine wpList_allocS rfl _ rfl _ hdZero S ?_; clear S; intro g11 w1 S)
        | ((with_reducible show wpList _ _ _ (Oper.mk (some 12) (Op.alloc _) _ _ _ _ :: _) _ _); refine wpList_allocS rfl _ rfl _ cnZero S ?_; clear S; intro g12 w1 S)
        | ((with_reducible refine (HG.out _).mono ?_); rintro e w2 ⟨rfl, hb⟩; have S := S.call hb; clear hb)
        | ((with_reducible show wpList _ _ _ (Oper.mk _ (Op.store _ (Operand.tmp 11) _) _ _ _ _ :: _) _ _); refine wpList_storeS rfl _ _ _ rfl S _ rfl _ rfl 1 _ _ rfl hdInfo (by rfl) (by exact hdOne _) ?_; clear S; intro w1 S; (first | simp only [List.set_cons_zero] at S | simp only [List.set_cons_succ, List.set_cons_zero] at S | skip))
        | ((with_reducible show wpList _ _ _ (Oper.mk _ (Op.store _ (Operand.tmp 12) _) _ _ _ _ :: _) _ _); refine wpList_storeS rfl _ _ _ rfl S _ rfl _ rfl 0 _ _ rfl cnInfo (by rfl) (by exact cnOne _) ?_; clear S; intro w1 S; (first | simp only [List.set_cons_zero] at S | simp only [List.set_cons_succ, List.set_cons_zero] at S | skip))
        | ((with_reducible show wpList _ _ _ (Oper.mk _ (Op.load _ (Operand.tmp 11)) _ _ _ _ :: _) _ _); refine wpList_loadS rfl _ _ rfl S _ rfl 1 _ _ rfl _ Try.underlying24 rfl hdInfo ?_)
        | ((with_reducible show wpList _ _ _ (Oper.mk _ (Op.load _ (Operand.tmp 3)) _ _ _ _ :: _) _ _); refine wpList_loadS rfl _ _ rfl S _ rfl 3 _ _ rfl _ Try.underlying24 rfl hdInfo ?_)
        | ((with_reducible show wpList _ _ _ (Oper.mk _ (Op.load _ (Operand.tmp 12)) _ _ _ _ :: _) _ _); refine wpList_loadS rfl _ _ rfl S _ rfl 0 _ _ rfl _ Try.underlying25 rfl cnInfo ?_)
        | ((with_reducible show wpList _ _ _ (Oper.mk _ (Op.load _ (Operand.tmp 4)) _ _ _ _ :: _) _ _); refine wpList_loadS rfl _ _ rfl S _ rfl 2 _ _ rfl _ Try.underlying25 rfl cnInfo ?_))
      go_ret
      exact ⟨rfl, S.below⟩
    · rw [hp] at hP hR
      simp only [putV] at hP hR
      have HP := Lib.hid hP
      have HR := Lib.hid hR
      clear hP hR hp
      go_enter Try.func4, Try.ntmps4
      go_wp2_with (first
        | ((with_reducible show wpList _ _ _ (Oper.mk (some 3) (Op.box _ _) _ _ _ _ :: _) _ _); refine wpList_boxS rfl _ _ rfl (hdC h) rfl S ?_; clear S; intro gh w1 S)
        | ((with_reducible show wpList _ _ _ (Oper.mk (some 4) (Op.box _ _) _ _ _ _ :: _) _ _); refine wpList_boxS rfl _ _ rfl (cnC c) rfl S ?_; clear S; intro gn w1 S)
        | ((with_reducible show wpList _ _ _ (Oper.mk _ (Op.load _ (Operand.tmp 3)) _ _ _ _ :: _) _ _); refine wpList_loadS rfl _ _ rfl S _ rfl 1 _ _ rfl _ Try.underlying24 rfl hdInfo ?_)
        | ((with_reducible show wpList _ _ _ (Oper.mk _ (Op.load _ (Operand.tmp 4)) _ _ _ _ :: _) _ _); refine wpList_loadS rfl _ _ rfl S _ rfl 0 _ _ rfl _ Try.underlying25 rfl cnInfo ?_)
        | ((with_reducible refine (HP.out _).mono ?_); rintro e w2 ⟨rfl, hb⟩; have S := S.call hb; clear hb)
        | ((with_reducible refine (HR.out _).mono ?_); rintro e w2 ⟨rfl, hb⟩; have S := S.call hb; clear hb))
      (try simp only [Act.put, List.setIfInBounds_toArray, List.set_cons_succ, List.set_cons_zero]); refine quietS_region (by kernel_rfl) (by kernel_rfl) S ?_
      repeat (first
        | go_big_quiet_skip
        | (go_big_quiet_want
           first
             | ((with_reducible show Oper.quiet _ (Oper.mk _ (Op.load _ (Operand.tmp 3)) _ _ _ _) _ _ _); refine q_loadS _ _ rfl _ rfl 1 _ _ rfl _ Try.underlying24 rfl hdInfo ?_)
             | ((with_reducible show Oper.quiet _ (Oper.mk (some 30) (Op.call { callee := Callee.value (Operand.func 5), args := _, argTypes := _ }) _ _ _ _) _ _ _); refine q_call 5 _ _ rfl (enters_of Try.func5 (by kernel_rfl) rfl) (fun w S => (((HO.out _)).mono fun e w2 h => ⟨h.1, S.call h.2⟩)) (by simp [Act.eval]) ?_)
             | ((with_reducible show Oper.quiet _ (Oper.mk (some 44) (Op.call { callee := Callee.value (Operand.func 10), args := _, argTypes := _ }) _ _ _ _) _ _ _); refine q_call 10 _ _ rfl (enters_of Try.func10 (by kernel_rfl) rfl) (fun w S => (((HC.out _)).mono fun e w2 h => ⟨h.1, S.call h.2⟩)) (by simp [Act.eval]) ?_)
             | ((with_reducible show Oper.quiet _ (Oper.mk (some 46) (Op.call { callee := Callee.value (Operand.func 11), args := _, argTypes := _ }) _ _ _ _) _ _ _); refine q_call 11 _ _ rfl (enters_of Try.func11 (by kernel_rfl) rfl) (fun w S => (((HD.out _)).mono fun e w2 h => ⟨h.1, S.call h.2⟩)) (by simp [Act.eval]) ?_)
             | (refine q_pure (v := ?_) ?_ ?_; rotate_left; focus (intro w; go_simp; try with_reducible rfl))
           (simp only [Act.put, List.setIfInBounds_toArray, List.set_cons_succ, List.set_cons_zero]; go_big_quiet_on)))
      (refine wpQuiet_nil ?_; clear S; intro w1 S)
      go_wp2
      go_ret
      exact ⟨rfl, S.below⟩
theorem headBack_law {H : Type} {enc : TypeId × Value → H} {d0 d1 : DataW H} {p0 p1 : List MemPlace} {base0 base1 : Nat} (v0 v1 : Value) (more : ByteArray) (W : World) (o0 : Value.okWide Try.prog W .any base0 24 v0)
    (k0 : DataW.Trod enc Try.prog W 0 (fun _ => true) true 24 v0 d0 p0) (o1 : Value.okWide Try.prog W .any base1 25 v1)
    (k1 : DataW.Trod enc Try.prog W 0 (fun _ => true) true 25 v1 d1 p1) {q2 : Prop} (_ : q2) :
    Calls Try.prog 4 #[v0, v1, .string more] W fun e w' => e = .returned (.bool true) ∧ Below W.heap.size W w' := by
  obtain ⟨h, rfl⟩ := open_hd o0 k0
  obtain ⟨c, rfl⟩ := open_cn o1 k1
  exact back11_any h c more W
end Go.Proofs.Ytnomjjiohdinlaa
