/- Layer 7: the document's Text and Of; the law's works. -/
import Derived.Test.YtkchgjakkogejaaDoorQuad6
import Derived.Test.YtkchgjakkogejaaDoorMemQuiet
namespace Go.Proofs.YtkchgjakkogejaaDoor
open Go.RowKit Go
set_option linter.unusedVariables false
theorem ad_eqlSelf (f z : Int) (ip : List UInt8) (h : ip.length = 16) (w : World) : (binOp .eql 25 (adV f ip z) (adV f ip z)).run Tryd.prog w = .ok (.bool true) w := by
  rw [ad_eql f f z z ip ip h h w]
  simp
theorem ad_guard (op : BinOp) (x y : Operand) (xs ys : Array Value) (w : World) : (eqGuard op 25 x y (.agg xs) (.agg ys)).run Tryd.prog w = .ok () w :=
  run_eqGuard_agg w op 25 x y xs ys (by kernel_rfl)
def decs (ip : List UInt8) (k : Nat) : List (List UInt8) := (List.range k).map fun j => Lib.decDigits (ip.getD j 0).toNat
theorem decs_succ (ip : List UInt8) (k : Nat) : decs ip (k + 1) = decs ip k ++ [Lib.decDigits (ip.getD k 0).toNat] := by
  unfold decs
  rw [List.range_succ, List.map_append]
  rfl
theorem decs_ne (ip : List UInt8) (k : Nat) (h : 0 < k) : decs ip k ≠ [] := by
  unfold decs
  simp
  omega
theorem decs_end (ip : List UInt8) : joinL [46] (decs ip 4) = quadI ip := by
  unfold joinL quadI quadT decs
  simp [List.range_succ, Lib.join_cons, Lib.joinTail]
theorem decs_one (ip : List UInt8) : joinL [46] (decs ip 1) = Lib.decDigits (ip.getD 0 0).toNat := by
  unfold joinL decs
  simp [List.range_succ, Lib.join_cons, Lib.joinTail]
theorem decs_step (ip : List UInt8) (k : Nat) (h : 0 < k) : joinL [46] (decs ip (k + 1)) = joinL [46] (decs ip k) ++ ([46] ++ Lib.decDigits (ip.getD k 0).toNat) := by
  rw [decs_succ, joinL_snoc _ _ _ (decs_ne ip k h)]
theorem decs_len (ip : List UInt8) (k : Nat) : (joinL [46] (decs ip k)).length ≤ 4 * k := by
  induction k with
  | zero => exact Nat.le_refl 0
  | succ k ih =>
    have hd := (dec_byte (ip.getD k 0)).2.2.1
    by_cases h : 0 < k
    · rw [decs_step ip k h, List.length_append, List.length_append]
      simp only [List.length_cons, List.length_nil]
      omega
    · obtain rfl : k = 0 := by omega
      rw [decs_one]
      omega
theorem refDigitsU_any (c : UInt8) (w : World) : Calls Tryd.prog 24 #[.int .i64 c.toNat] w fun e w' => e = .returned (.string ⟨(Lib.decDigits c.toNat).toArray⟩) ∧ w = w' := by
  have hc := UInt8.toNat_lt c
  have := refDigits_any c.toNat w (by omega) (by omega)
  rw [Lib.itoa_nonneg] at this
  exact this
set_option maxRecDepth 100000 in
set_option maxHeartbeats 2000000 in
theorem refText_any (f z : Int) (ip : List UInt8) (w : World) (hip : ip.length = 16) :
    Calls Tryd.prog 22 #[adV f ip z] w fun e w' => e = .returned (.string ⟨(quadI ip).toArray⟩) ∧ Below w.heap.size w w' := by
  have S := Ats.start w
  go_enter Tryd.func22, Tryd.ntmps22
  go_wp2_with (first
    | ((with_reducible show wpList _ _ _ (Oper.mk _ (Op.box _ _) _ _ _ _ :: _) _ _); refine wpList_boxS rfl _ _ rfl (adCs f ip z).toArray rfl S ?_; clear S; intro ga w1 S))
  go_loop [3, 4] (fun s i => ∃ k : Nat, i = .int .i64 k ∧ k ≤ 4 ∧ s = .string ⟨(joinL [46] (decs ip k)).toArray⟩) (fun _ i => 4 - (intOf i).toNat)
  case atStart => exact ⟨0, rfl, Nat.zero_le _, rfl⟩
  case round =>
    obtain ⟨k, rfl, hk, rfl⟩ := hrel
    by_cases hlt : k < 4
    · have hc : ip[k]? = some (ip.getD k 0) := by rw [List.getD_eq_getElem?_getD, List.getElem?_eq_getElem (show k < ip.length by omega)]; rfl
      have hb := ad_byte f z ip k _ hc
      have hd := refDigitsU_any (ip.getD k 0) w1
      have hst := decs_step ip k
      have hon := decs_one ip
      have hl := decs_len ip k
      have hdl := (dec_byte (ip.getD k 0)).2.2.1
      obtain ⟨c, hcc⟩ : ∃ c, c = ip.getD k 0 := ⟨_, rfl⟩
      rw [← hcc] at hb hd hst hdl
      have hc255 := UInt8.toNat_lt c
      have HB := Lib.hid hb
      have HD := Lib.hid hd
      have HS := Lib.hid hst
      have HO := Lib.hid hon
      have HC := Lib.hid hcc
      clear hb hd hst hon hcc hc
      by_cases h0 : k = 0
      · subst h0
        go_wp2_with (first
          | ((with_reducible refine HD.out.mono ?_); rintro e w2 ⟨rfl, rfl⟩)
          | ((with_reducible show wpList _ _ _ (Oper.mk _ (Op.load _ _) _ _ _ _ :: _) _ _); refine wpList_cellS rfl _ _ rfl S _ _ rfl 0 _ _ rfl _ Tryd.underlying5 rfl _ (by exact HB.out) ?_))
        go_round
        case rel => exact ⟨1, rfl, by decide, ret_s (by rw [HO.out, ← HC.out, ByteArray.mk_append_mk]; rfl)⟩
        case measure => simp [intOf]
      · have h0' : 0 < k := by omega
        clear h0
        go_wp2_with (first
          | ((with_reducible refine HD.out.mono ?_); rintro e w2 ⟨rfl, rfl⟩)
          | ((with_reducible show wpList _ _ _ (Oper.mk _ (Op.load _ _) _ _ _ _ :: _) _ _); refine wpList_cellS rfl _ _ rfl S _ _ rfl 0 _ _ rfl _ Tryd.underlying5 rfl _ (by exact HB.out) ?_))
        go_round
        case rel => exact ⟨k + 1, by go_num, by omega, ret_s (by rw [HS.out h0', ByteArray.mk_append_mk, ByteArray.mk_append_mk]; simp)⟩
        case measure => simp [intOf]; omega
    · obtain rfl : k = 4 := by omega
      have he := decs_end ip
      have HE := Lib.hid he
      clear he
      go_wp2_with fail
      go_ret
      exact ⟨ret_str (by rw [HE.out]), S.below⟩
set_option maxRecDepth 100000 in
set_option maxHeartbeats 1000000 in
theorem refOf_any (a b c d : UInt8) (w : World) :
    Calls Tryd.prog 23 #[.int .i64 a.toNat, .int .i64 b.toNat, .int .i64 c.toNat, .int .i64 d.toNat] w fun e w' => e = .returned (adV 4 (quad16 a b c d) 0) ∧ Below w.heap.size w w' := by
  have S := Ats.start w
  have ha := UInt8.toNat_lt a; have hb := UInt8.toNat_lt b; have hc := UInt8.toNat_lt c; have hd := UInt8.toNat_lt d
  go_enter Tryd.func23, Tryd.ntmps23
  go_wp2_with (first
    | ((with_reducible show wpList _ _ _ (Oper.mk _ (Op.alloc _) _ _ _ _ :: _) _ _); refine wpList_allocS rfl _ rfl _ adZero S ?_; clear S; intro g w1 S)
    | ((with_reducible show wpList _ _ _ (Oper.mk _ (Op.store _ _ _) _ _ _ _ :: _) _ _); refine wpList_storeS rfl _ _ _ rfl S _ rfl _ rfl 0 _ _ rfl adInfo (by rfl) (by first | exact adCs_one _ _ _ | simp [Value.oneCell']) ?_; clear S; intro w1 S; (first | simp only [List.set_cons_zero] at S | simp only [List.set_cons_succ, List.set_cons_zero] at S | skip)))
  exact bodyPost_ret (v := adV 4 (quad16 a b c d) 0) (results_cellS rfl _ S _ 0 _ _ _ rfl rfl Tryd.underlying25 rfl adInfo) rfl ⟨rfl, S.below⟩
end Go.Proofs.YtkchgjakkogejaaDoor
