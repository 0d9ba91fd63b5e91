/- Layer 11: a head as a value; arrays of integers held against each other; head.within, head.flags, the document's flag. -/
import Derived.Test.YtnomjjiohdinlaaMath16
import Derived.Test.YtnomjjiohdinlaaOctet5
import Derived.Test.YtnomjjiohdinlaaMemQuiet
import Derived.Test.YtnomjjiohdinlaaMemOwn
import Derived.Laws.StructEq
import Derived.Stop.BytesEq
import Derived.StillTailTactics
namespace Go.Proofs.Ytnomjjiohdinlaa
open Go.RowKit Go
set_option linter.unusedVariables false
set_option maxRecDepth 100000
def hdC (h : Hd) : Array Value := #[.int .i64 h.id, .bool h.qr, .int .i64 h.op, .bool h.aa, .bool h.tc, .bool h.rd, .bool h.ra, .bool h.ad, .bool h.cd, .int .i64 h.rc]
abbrev hdV (h : Hd) : Value := .agg (hdC h)
theorem hdInfo : (Try.prog.info? 24).map (·.size) = some 10 := by kernel_rfl
theorem hdZero : (Try.prog.info? 24).map (·.zero) = some (some (.agg (hdC zeroH))) := by kernel_rfl
theorem hdOne (h : Hd) : (hdC h).all (·.oneCell') = true := by simp [hdC, Value.oneCell']
/-- four integers -/
def cnC (c : Nat → Int) : Array Value := #[.int .i64 (c 0), .int .i64 (c 1), .int .i64 (c 2), .int .i64 (c 3)]
abbrev cnV (c : Nat → Int) : Value := .agg (cnC c)
theorem cnInfo : (Try.prog.info? 25).map (·.size) = some 4 := by kernel_rfl
theorem cnZero : (Try.prog.info? 25).map (·.zero) = some (some (.agg (cnC fun _ => 0))) := by kernel_rfl
theorem cnOne (c : Nat → Int) : (cnC c).all (·.oneCell') = true := by simp [cnC, Value.oneCell']
theorem cnC_ext {c d : Nat → Int} (h : ∀ i, i < 4 → c i = d i) : cnC c = cnC d := by
  unfold cnC
  rw [h 0 (by decide), h 1 (by decide), h 2 (by decide), h 3 (by decide)]
theorem cn_set (c : Nat → Int) (k : Nat) (v : Int) (hk : k < 4) : (cnC c).setIfInBounds k (.int .i64 v) = cnC (fun i => if i = k then v else c i) := by
  rcases (show k = 0 ∨ k = 1 ∨ k = 2 ∨ k = 3 by omega) with rfl | rfl | rfl | rfl <;> rfl
theorem hd_eql (h : Hd) (w : World) : (binOp .eql 24 (.agg (hdC h)) (.agg (hdC h))).run Try.prog w = .ok (.bool true) w := by
  have hS : Try.prog.underlying 24 = some (.struct (Try.prog.fieldsOf 24)) := by kernel_rfl
  have hp : Try.prog.stoodInHeld 24 = false := by kernel_rfl
  rw [run_eql_struct, show (10000 : Nat) = 9999 + 1 from rfl, run_equalIn_agg w 9999 24 _ _ hS hp]
  simp only [Program.fieldsOf, Try.underlying24]
  have u := Try.underlying3
  have ub := Try.underlying4
  have a := Try.isAgg3
  have ab := Try.isAgg4
  have ei := fun x : Int => run_equalIn_int (P := Try.prog) w 9998 3 .i64 .i64 x x Try.underlying3
  have eb := fun x : Bool => run_equalIn_bool' (P := Try.prog) w 9998 4 x x Try.underlying4
  simp [Op.eqFields, Sem.run_bind, part, hdC, a, ab, ei, eb, Result.andThen]
theorem cn_eql (c : Nat → Int) (w : World) : (binOp .eql 25 (.agg (cnC c)) (.agg (cnC c))).run Try.prog w = .ok (.bool true) w := by
  rw [run_eql_struct, show (10000 : Nat) = 9998 + 2 from rfl, Op.equalIn]
  have u := Try.underlying3
  have a := Try.isAgg3
  have s := Try.sizeOf3
  have ei := fun x : Int => run_equalIn_int (P := Try.prog) w 9998 3 .i64 .i64 x x Try.underlying3
  simp only [Sem.run_bind, run_underlying Try.underlying25, Result.andThen_ok, s, Std.Legacy.Range.forIn_eq_forIn_range', Std.Legacy.Range.size, Nat.sub_zero, Nat.add_sub_cancel, Nat.div_one]
  simp [List.range', List.forIn_cons, part, cnC, a, ei, Result.andThen]
theorem hd_guard (op : BinOp) (x y : Operand) (xs ys : Array Value) (w : World) : (eqGuard op 24 x y (.agg xs) (.agg ys)).run Try.prog w = .ok () w :=
  run_eqGuard_agg w op 24 x y xs ys (by kernel_rfl)
theorem cn_guard (op : BinOp) (x y : Operand) (xs ys : Array Value) (w : World) : (eqGuard op 25 x y (.agg xs) (.agg ys)).run Try.prog w = .ok () w :=
  run_eqGuard_agg w op 25 x y xs ys (by kernel_rfl)
theorem within_any (n m : Int) (w : World) : Calls Try.prog 19 #[.int .i64 n, .int .i64 m] w fun e w' => e = .returned (.bool (hdIn n m)) ∧ w = w' := by
  have key : ∀ b : Bool, (b = true ↔ 0 ≤ n ∧ n ≤ m) → b = hdIn n m := fun b h => by
    rw [Bool.eq_iff_iff, h, hdIn_iff]
  have KEY := Lib.hid key
  clear key
  go_enter Try.func19, Try.ntmps19
  go_wp2
  all_goals (go_ret; exact ⟨ret_bool (KEY.out _ (by simp; omega)), rfl⟩)
theorem refFlag_any (b : Bool) (n : Int) (w : World) : Calls Try.prog 20 #[.bool b, .int .i64 n] w fun e w' => e = .returned (.int .i64 (bN b n)) ∧ w = w' := by
  cases b <;>
  · go_enter Try.func20, Try.ntmps20
    go_wp2
    go_ret
    exact ⟨rfl, rfl⟩
/-- a head's bits, each beside where it lies -/
def flC (g : Nat) : Array Value := #[.int .i64 32768, .pointer (some ⟨g, 1, none⟩), .int .i64 1024, .pointer (some ⟨g, 3, none⟩), .int .i64 512, .pointer (some ⟨g, 4, none⟩), .int .i64 256, .pointer (some ⟨g, 5, none⟩), .int .i64 128, .pointer (some ⟨g, 6, none⟩), .int .i64 32, .pointer (some ⟨g, 7, none⟩), .int .i64 16, .pointer (some ⟨g, 8, none⟩)]
def flZ : Array Value := #[.int .i64 0, .pointer none, .int .i64 0, .pointer none, .int .i64 0, .pointer none, .int .i64 0, .pointer none, .int .i64 0, .pointer none, .int .i64 0, .pointer none, .int .i64 0, .pointer none]
theorem flInfo : (Try.prog.info? 52).map (·.size) = some 14 := by kernel_rfl
theorem flZero : (Try.prog.info? 52).map (·.zero) = some (some (.agg flZ)) := by kernel_rfl
set_option maxHeartbeats 4000000 in
theorem flags_any (g : Nat) (w : World) : Calls Try.prog 24 #[.pointer (some ⟨g, 0, none⟩)] w fun e w' => e = .returned (.agg (flC g)) ∧ Below w.heap.size w w' := by
  have S := Ats.start w
  go_enter Try.func24, Try.ntmps24
  go_wp2_with ((with_reducible show wpList _ _ _ (Oper.mk _ (Op.alloc _) _ _ _ _ :: _) _ _); refine wpList_allocS rfl _ rfl _ flZero S ?_; clear S; intro gr w1 S)
  refine wp_region_still_tail 29 (by kernel_rfl) (by kernel_rfl) ?_
  simp only [List.take_succ_cons, List.take_zero, List.drop_succ_cons, List.drop_zero]
  repeat still_step
  refine wpStill_nil ?_
  change wpList _ _ _ _ _ w1.drew
  have S := S.drew
  generalize w1.drew = w2 at S ⊢
  go_wp2_with ((with_reducible show wpList _ _ _ (Oper.mk _ (Op.store _ _ _) _ _ _ _ :: _) _ _); refine wpList_storeS rfl _ _ _ rfl S _ rfl _ rfl 0 _ _ rfl flInfo (by rfl) (by simp [Value.oneCell']) ?_; clear S; intro w1 S; (first | simp only [List.set_cons_zero] at S | simp only [List.set_cons_succ, List.set_cons_zero] at S | skip))
  exact bodyPost_ret (results_cellS rfl _ S _ 0 _ _ _ rfl rfl Try.underlying52 rfl flInfo) rfl ⟨rfl, S.below⟩
end Go.Proofs.Ytnomjjiohdinlaa
