/- A part of a block that is known, read whole: an array within a struct. -/
import Derived.Test.YtchjhpipiooibaaMemRow
import Derived.Laws.Rows
namespace Go.Proofs.Ytchjhpipiooibaa
open Go.RowKit Go
set_option linter.unusedVariables false
theorem run_loadVar_part {P : Program} (w : World) (g k : Nat) (ty : TypeId) (part : List Value) (d : TypeDesc) (hc : ∀ (j : Nat) v, part[j]? = some v → w.cell? ⟨g, k + j, none⟩ = some v)
    (hu : P.underlying ty = some d) (hd : (match d with | .struct _ | .array _ _ => true | _ => false) = true) (hi : (P.info? ty).map (·.size) = some part.length) :
    (loadVar ty ⟨g, k, none⟩).run P w = .ok (.agg part.toArray) w := by
  have hl : (loadCells ⟨g, k, none⟩ part.length).run P w = .ok part.toArray w :=
    run_loadCells_list (P := P) w ⟨g, k, none⟩ part (fun j v hv => by
      have hadd : (⟨g, k, none⟩ : Addr).add j = ⟨g, k + j, none⟩ := by unfold Addr.add; split <;> simp_all
      rw [hadd]
      exact hc j v hv)
  cases hq : P.info? ty with
  | none => simp [hq] at hi
  | some i =>
    have hs : i.size = part.length := by simpa [hq] using hi
    have hagg : (isAgg ty).run P w = .ok true w := by
      unfold isAgg
      rw [Sem.run_bind, run_underlying hu w]
      cases d <;> simp_all
    simp [loadVar, Sem.run_bind, hagg, sizeOf, typeInfo, hq, hs, hl]
theorem wpList_partS {P : Program} {ops : Array Oper} {rest : List Oper} {o : Oper} {a : Act} {Q : Exit → Act → World → Prop} {B : Nat} {w0 w : World} {L : List (Nat × TypeId × Array Value)} (hgd : Region.wanted o (yielded ops a.tmps) = true) (ty : TypeId) (x : Operand) (ho : o.op = .load ty x) (S : Ats B w0 w L) (g k : Nat) (hx : a.eval x = .pointer (some ⟨g, k, none⟩)) (i : Nat) (t : TypeId) (cs : Array Value)
    (hi : L[i]? = some (g, t, cs)) (d : TypeDesc) (hu : P.underlying ty = some d) (hd : (match d with | .struct _ | .array _ _ => true | _ => false) = true) (part : List Value) (hn : (P.info? ty).map (·.size) = some part.length) (hc : ∀ (j : Nat) v, part[j]? = some v → cs[k + j]? = some v)
    (h : wpList P ops Q rest (a.put o.dst (.agg part.toArray)) w) : wpList P ops Q (o :: rest) a w := by
  refine wpList_want hgd fun K hK => ?_
  have := hK _ _ h
  have hr := run_loadVar_part (P := P) w g k ty part d (fun j v hv => (S.get hi).cells _ (hc j v hv)) hu hd hn
  unfold Oper.wp execOp
  simp only [ho, hx, Instr.loadAt, Instr.sureAddr, Sem.run_bind, Sem.run_pure, Result.andThen_ok, hr]
  exact this
end Go.Proofs.Ytchjhpipiooibaa
