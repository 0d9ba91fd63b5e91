/- A region that draws its order, over blocks that are known: walked once, in the order of the text; callees may make new memory. -/
import Derived.Test.YtchjhpipiooibaaMemRow
import Derived.Deep.Quiet
import Derived.BigQuiet
import Derived.WalkKit
namespace Go.Proofs.Ytchjhpipiooibaa
open Go.RowKit Go
set_option linter.unusedVariables false
theorem wrapU8 (c : UInt8) : IntKind.i64.wrap (c.toNat : Int) = c.toNat := by
  have := UInt8.toNat_lt c
  simp [IntKind.wrap, IntKind.bits, IntKind.signed]
  omega
theorem quietS_region {P : Program} {B : Nat} {w0 w : World} {L : List (Nat × TypeId × Array Value)} {id : Nat} {l : List Oper} {Q : Exit → Act → World → Prop} {a : Act} (hm : P.follows .mixedOrders = true) (hB : Region.lexB .any l.toArray = true) (S : Ats B w0 w L)
    (h : wpQuiet P l.toArray (fun w' => Ats B w0 w' L) (fun a' => ∀ w', Ats B w0 w' L → Q .normal a' w') l a) : (Code.region id l.toArray true).wp P Q a w :=
  wp_region_quiet (C := fun w' => Ats B w0 w' L) hm hB S.drew (by simpa using h)
section
variable {P : Program} {o : Oper} {a : Act} {K : Act → Prop} {C : World → Prop}
theorem q_pure {v : Value} (hv : ∀ w, (execOp a.eval o).run P w = .ok (.value v) w) (h : K (a.put o.dst v)) : o.quiet P a C K :=
  ⟨v, fun w _ => by unfold Oper.quietAt; rw [hv w]; exact ⟨rfl, rfl⟩, h⟩
theorem q_read {v : Value} (hv : ∀ w, C w → (execOp a.eval o).run P w = .ok (.value v) w) (h : K (a.put o.dst v)) : o.quiet P a C K :=
  ⟨v, fun w hC => by unfold Oper.quietAt; rw [hv w hC]; exact ⟨rfl, rfl⟩, h⟩
theorem q_call (f : FuncId) (xs : List Operand) (ts : Array TypeId) (ho : o.op = .call { callee := .value (.func f), args := xs.toArray, argTypes := ts })
    (hE : ∀ args w, (callFunc f args).run P w = .ok (.enter f args) w) {v : Value} {args : List Value} (hc : ∀ w, C w → Calls P f args.toArray w fun e w' => e = .returned v ∧ C w') (ha : xs.map a.eval = args) (h : K (a.put o.dst v)) : o.quiet P a C K := by
  refine ⟨v, fun w hC => ?_, h⟩
  have : (execOp a.eval o).run P w = .ok (.enter f args.toArray) w := by
    rw [← ha]
    simp [execOp, ho, resolve, invoke, Act.eval, Deferred.ofValue, hE]
  unfold Oper.quietAt
  rw [this]
  exact ⟨rfl, hc w hC⟩
end
section
variable {P : Program} {o : Oper} {a : Act} {K : Act → Prop} {B : Nat} {w0 : World} {L : List (Nat × TypeId × Array Value)}
theorem q_loadS (ty : TypeId) (x : Operand) (ho : o.op = .load ty x) (g : Nat) (hx : a.eval x = .pointer (some ⟨g, 0, none⟩)) (i : Nat) (t : TypeId) (cs : Array Value)
    (hi : L[i]? = some (g, t, cs)) (d : TypeDesc) (hu : P.underlying ty = some d) (hd : (match d with | .struct _ | .array _ _ => true | _ => false) = true) (hn : (P.info? ty).map (·.size) = some cs.size)
    (h : K (a.put o.dst (.agg cs))) : o.quiet P a (fun w' => Ats B w0 w' L) K :=
  q_read (fun w S => by
    unfold execOp
    simp only [ho, hx, Instr.loadAt, Instr.sureAddr, Sem.run_bind, Sem.run_pure, Result.andThen_ok, run_loadVar_row w g t ty cs (0, 0) d (S.get hi) hu hd hn]) h
theorem q_cellS (ty : TypeId) (x : Operand) (ho : o.op = .load ty x) (g k : Nat) (hx : a.eval x = .pointer (some ⟨g, k, none⟩)) (i : Nat) (t : TypeId) (cs : Array Value)
    (hi : L[i]? = some (g, t, cs)) (d : TypeDesc) (hu : P.underlying ty = some d) (hd : (match d with | .struct _ | .array _ _ => false | _ => true) = true) (v : Value) (hv : cs[k]? = some v)
    (h : K (a.put o.dst v)) : o.quiet P a (fun w' => Ats B w0 w' L) K :=
  q_read (fun w S => by
    have hagg : (isAgg ty).run P w = .ok false w := by
      unfold isAgg
      rw [Sem.run_bind, run_underlying hu w]
      cases d <;> simp_all
    have hc : w.cell? ⟨g, k, none⟩ = some v := (S.get hi).cells k hv
    unfold execOp
    simp only [ho, hx, Instr.loadAt, Instr.sureAddr, loadVar, Sem.run_bind, Sem.run_pure, Result.andThen_ok, hagg, Bool.false_eq_true, if_false, run_load, hc]) h
theorem q_oldS {w0 : World} (ty : TypeId) (x : Operand) (ho : o.op = .load ty x) (p : Addr) (hx : a.eval x = .pointer (some p)) (v : Value) (hv : w0.cell? p = some v)
    (d : TypeDesc) (hu : P.underlying ty = some d) (hd : (match d with | .struct _ | .array _ _ => false | _ => true) = true)
    (h : K (a.put o.dst v)) : o.quiet P a (fun w' => Ats w0.heap.size w0 w' L) K :=
  q_read (fun w S => by
    have hagg : (isAgg ty).run P w = .ok false w := by
      unfold isAgg
      rw [Sem.run_bind, run_underlying hu w]
      cases d <;> simp_all
    have hc : w.cell? p = some v := (S.below.cell (block_lt_of_cell hv)).trans hv
    unfold execOp
    simp only [ho, hx, Instr.loadAt, Instr.sureAddr, loadVar, Sem.run_bind, Sem.run_pure, Result.andThen_ok, hagg, Bool.false_eq_true, if_false, run_load, hc]) h
end
end Go.Proofs.Ytchjhpipiooibaa
