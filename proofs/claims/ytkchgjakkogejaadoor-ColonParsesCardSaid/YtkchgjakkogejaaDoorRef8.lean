/- Layer 8: the document's Group, empty, row, hex. -/
import Derived.Test.YtkchgjakkogejaaDoorColon5
namespace Go.Proofs.YtkchgjakkogejaaDoor
open Go.RowKit Go
set_option linter.unusedVariables false
set_option maxRecDepth 100000
set_option maxHeartbeats 2000000 in
theorem refGroup_any (f z : Int) (ip : List UInt8) (k : Nat) (w : World) (hip : ip.length = 16) (hk : k < 8) :
    Calls Tryd.prog 20 #[adV f ip z, .int .i64 k] w fun e w' => e = .returned (.int .i64 ((groupsG ip).getD k 0 : Nat)) ∧ Below w.heap.size w w' := by
  have S := Ats.start w
  obtain ⟨h0, h1⟩ := ad_two f z ip k hip hk
  have hg : (groupsG ip).getD k 0 = 256 * (ip.getD (2 * k) 0).toNat + (ip.getD (2 * k + 1) 0).toNat := by
    rw [List.getD_eq_getElem?_getD, groupsG_at ip k hk]; rfl
  have b0 := UInt8.toNat_lt (ip.getD (2 * k) 0)
  have b1 := UInt8.toNat_lt (ip.getD (2 * k + 1) 0)
  obtain ⟨x, hx⟩ : ∃ x, x = ip.getD (2 * k) 0 := ⟨_, rfl⟩
  obtain ⟨y, hy⟩ : ∃ y, y = ip.getD (2 * k + 1) 0 := ⟨_, rfl⟩
  rw [← hx] at h0 hg b0
  rw [← hy] at h1 hg b1
  have HG := Lib.hid hg
  have e1 : IntKind.i64.wrap (2 * (k : Int)) = 2 * k := IntWalk.i64_in _ (by omega)
  have e2 : IntKind.i64.wrap (2 * (k : Int) + 1) = 2 * k + 1 := IntWalk.i64_in _ (by omega)
  have e3 : IntKind.i64.wrap (256 * (x.toNat : Int)) = 256 * x.toNat := IntWalk.i64_in _ (by omega)
  have e4 : IntKind.i64.wrap (256 * (x.toNat : Int) + y.toNat) = 256 * x.toNat + y.toNat := IntWalk.i64_in _ (by omega)
  have e5 := wrapU8 x
  have e6 := wrapU8 y
  have e7 : (0 : Int) ≤ 2 * k ∧ 2 * (k : Int) < 16 := by omega
  have e8 : (0 : Int) ≤ 2 * k + 1 ∧ 2 * (k : Int) + 1 < 16 := by omega
  have e9 : (2 * (k : Int)).toNat = 2 * k := by omega
  have e10 : (2 * (k : Int) + 1).toNat = 2 * k + 1 := by omega
  clear hg hx hy
  go_enter Tryd.func20, Tryd.ntmps20
  go_wp2_with (first
    | ((with_reducible show wpList _ _ _ (Oper.mk _ (Op.box _ _) _ _ _ _ :: _) _ _); refine wpList_boxS rfl _ _ rfl (adCs f ip z).toArray rfl S ?_; clear S; intro ga w1 S))
  (try simp only [Act.put, List.setIfInBounds_toArray, List.set_cons_succ, List.set_cons_zero]); refine quietS_region (by kernel_rfl) (by kernel_rfl) S ?_
  repeat (first
    | go_big_quiet_skip
    | (go_big_quiet_want
       first
         | ((with_reducible show Oper.quiet _ (Oper.mk _ (Op.load _ (Operand.tmp 8)) _ _ _ _) _ _ _); refine q_cellS _ _ rfl _ _ rfl 0 _ _ rfl _ Tryd.underlying5 rfl _ (by exact h0) ?_)
         | ((with_reducible show Oper.quiet _ (Oper.mk _ (Op.load _ (Operand.tmp 16)) _ _ _ _) _ _ _); refine q_cellS _ _ rfl _ _ rfl 0 _ _ rfl _ Tryd.underlying5 rfl _ (by exact h1) ?_)
         | (refine q_pure (v := ?_) ?_ ?_; rotate_left; focus (intro w; go_simp; try with_reducible rfl))
       (simp only [Act.put, List.setIfInBounds_toArray, List.set_cons_succ, List.set_cons_zero]; go_big_quiet_on)))
  (refine wpQuiet_nil ?_; clear S; intro w1 S)
  go_wp2_with fail
  go_ret
  exact ⟨ret_int (by rw [HG.out]; omega), S.below⟩
end Go.Proofs.YtkchgjakkogejaaDoor
