/- A region that draws its order and ends in stores to blocks that it does not read; three results, two of which lie in variables. -/
import Derived.Test.YtchjhpipiooibaaMemMix
namespace Go.Proofs.Ytchjhpipiooibaa
open Go.RowKit Go
set_option linter.unusedVariables false
/-- the worlds in which the blocks idx of L0 are as they were -/
def AtsF (B : Nat) (w0 : World) (L0 : List (Nat × TypeId × Array Value)) (idx : List Nat) (w : World) : Prop := ∃ L, Ats B w0 w L ∧ ∀ i ∈ idx, L[i]? = L0[i]?
section
variable {P : Program} {ops : Array Oper} {Q : Act → World → Prop} {o : Oper} {a : Act} {l : List (Oper × Bool)} {w : World} {B : Nat} {w0 : World} {L L0 : List (Nat × TypeId × Array Value)} {idx : List Nat}
theorem Ats.toF (S : Ats B w0 w L) (idx : List Nat) : AtsF B w0 L idx w := ⟨L, S, fun _ _ => rfl⟩
theorem mix_begin (h : (∀ i ∈ idx, L0[i]? = L0[i]?) → wpMixO P ops (AtsF B w0 L0 idx) Q l a w) : wpMixO P ops (AtsF B w0 L0 idx) Q l a w := h fun _ _ => rfl
theorem mix_loadF (hw : Region.wanted o (yielded ops a.tmps) = true) (ty : TypeId) (x : Operand) (ho : o.op = .load ty x) (g : Nat) (hx : a.eval x = .pointer (some ⟨g, 0, none⟩)) (i : Nat) (hm : i ∈ idx) (t : TypeId) (cs : Array Value)
    (hi : L0[i]? = some (g, t, cs)) (d : TypeDesc) (hu : P.underlying ty = some d) (hd : (match d with | .struct _ | .array _ _ => true | _ => false) = true) (hn : (P.info? ty).map (·.size) = some cs.size)
    (h : wpMixO P ops (AtsF B w0 L0 idx) Q l (a.put o.dst (.agg cs)) w) : wpMixO P ops (AtsF B w0 L0 idx) Q ((o, true) :: l) a w :=
  mix_val hw (fun w ⟨L, S, hL⟩ => by
    unfold execOp
    simp only [ho, hx, Instr.loadAt, Instr.sureAddr, Sem.run_bind, Sem.run_pure, Result.andThen_ok, run_loadVar_row w g t ty cs (0, 0) d (S.get ((hL i hm).trans hi)) hu hd hn]) h
theorem mix_cellF (hw : Region.wanted o (yielded ops a.tmps) = true) (ty : TypeId) (x : Operand) (ho : o.op = .load ty x) (g k : Nat) (hx : a.eval x = .pointer (some ⟨g, k, none⟩)) (i : Nat) (hm : i ∈ idx) (t : TypeId) (cs : Array Value)
    (hi : L0[i]? = some (g, t, cs)) (d : TypeDesc) (hu : P.underlying ty = some d) (hd : (match d with | .struct _ | .array _ _ => false | _ => true) = true) (v : Value) (hv : cs[k]? = some v)
    (h : wpMixO P ops (AtsF B w0 L0 idx) Q l (a.put o.dst v) w) : wpMixO P ops (AtsF B w0 L0 idx) Q ((o, true) :: l) a w :=
  mix_val hw (fun w ⟨L, S, hL⟩ => by
    have hagg : (isAgg ty).run P w = .ok false w := by
      unfold isAgg
      rw [Sem.run_bind, run_underlying hu w]
      cases d <;> simp_all
    have hc : w.cell? ⟨g, k, none⟩ = some v := (S.get ((hL i hm).trans hi)).cells k hv
    unfold execOp
    simp only [ho, hx, Instr.loadAt, Instr.sureAddr, loadVar, Sem.run_bind, Sem.run_pure, Result.andThen_ok, hagg, Bool.false_eq_true, if_false, run_load, hc]) h
theorem mix_storeF (hw : Region.wanted o (yielded ops a.tmps) = true) (ty : TypeId) (x y : Operand) (ho : o.op = .store ty x y) (S : Ats B w0 w L) (hL : ∀ i ∈ idx, L[i]? = L0[i]?) (g : Nat) (hx : a.eval x = .pointer (some ⟨g, 0, none⟩)) (cs' : Array Value) (hy : a.eval y = .agg cs') (i : Nat) (hm : i ∉ idx) (t : TypeId) (cs : Array Value)
    (hi : L[i]? = some (g, t, cs)) (hn : (P.info? ty).map (·.size) = some cs'.size) (hs : cs.size = cs'.size) (h1 : cs'.all (·.oneCell') = true)
    (h : ∀ w1, Ats B w0 w1 (L.set i (g, t, cs')) → (∀ j ∈ idx, (L.set i (g, t, cs'))[j]? = L0[j]?) → wpMixO P ops (AtsF B w0 L0 idx) Q l (a.put o.dst undef) w1) : wpMixO P ops (AtsF B w0 L0 idx) Q ((o, false) :: l) a w := by
  show if _ then _ else _
  rw [if_pos hw]
  have S1 := S.grow hi (grown_setRow w g cs') (setRow_heap w g cs cs' t (0, 0) (S.get hi))
  have hL1 : ∀ j ∈ idx, (L.set i (g, t, cs'))[j]? = L0[j]? := fun j hj => by
    rw [List.getElem?_set_ne (fun e => hm (by rw [e]; exact hj))]
    exact hL j hj
  unfold tame execOp
  simp only [ho, hx, hy, Instr.storeAt, Instr.sureAddr, Sem.run_bind, Sem.run_pure, Result.andThen_ok, run_storeVar_row w g t ty cs cs' (S.get hi) hn hs h1]
  exact ⟨⟨_, S1, hL1⟩, h _ S1 hL1⟩
end
theorem results_cell3S {P : Program} {B : Nat} {w0 w : World} {L : List (Nat × TypeId × Array Value)} {fn : Func} {p p2 q : Tmp} {ty ty2 : TypeId} (h : fn.results = #[.cell p ty, .cell p2 ty2, .tmp q]) (tmps : Array Value) (S : Ats B w0 w L) (g i : Nat) (t : TypeId) (cs : Array Value) (d : TypeDesc)
    (hp : tmps.getD p undef = .pointer (some ⟨g, 0, none⟩)) (hi : L[i]? = some (g, t, cs))
    (hu : P.underlying ty = some d) (hd : (match d with | .struct _ | .array _ _ => true | _ => false) = true) (hn : (P.info? ty).map (·.size) = some cs.size)
    (g2 i2 : Nat) (t2 : TypeId) (cs2 : Array Value) (d2 : TypeDesc)
    (hp2 : tmps.getD p2 undef = .pointer (some ⟨g2, 0, none⟩)) (hi2 : L[i2]? = some (g2, t2, cs2))
    (hu2 : P.underlying ty2 = some d2) (hd2 : (match d2 with | .struct _ | .array _ _ => true | _ => false) = true) (hn2 : (P.info? ty2).map (·.size) = some cs2.size) :
    (results fn tmps).run P w = .ok (.tuple #[.agg cs, .agg cs2, tmps.getD q undef]) w := by
  have hp' : tmps[p]?.getD undef = .pointer (some ⟨g, 0, none⟩) := by simpa using hp
  have hp2' : tmps[p2]?.getD undef = .pointer (some ⟨g2, 0, none⟩) := by simpa using hp2
  simp [results, h, hp', hp2', asAddr, run_loadVar_row w g t ty cs (0, 0) d (S.get hi) hu hd hn, run_loadVar_row w g2 t2 ty2 cs2 (0, 0) d2 (S.get hi2) hu2 hd2 hn2]
end Go.Proofs.Ytchjhpipiooibaa
