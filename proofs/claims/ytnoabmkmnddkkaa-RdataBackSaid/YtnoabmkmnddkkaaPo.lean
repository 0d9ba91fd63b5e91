/- Texts behind a law of this seat, in order: MemFork. -/
import Derived.Test.YtnoabmkmnddkkaaPa
import Derived.Test.YtnoabmkmnddkkaaPb
import Derived.Test.YtnoabmkmnddkkaaPc
import Derived.Test.YtnoabmkmnddkkaaPd
import Derived.Test.YtnoabmkmnddkkaaPg
import Derived.Test.YtnoabmkmnddkkaaPh
import Derived.Test.YtnoabmkmnddkkaaPn
import Derived.Below
import Derived.BigQuiet
import Derived.ChangeSlices
import Derived.Deep.AppendLies
import Derived.Deep.Draws
import Derived.Deep.Quiet
import Derived.Deep.RegionLaw
import Derived.Great.Ranges
import Derived.Handed
import Derived.Laws.OwnMore
import Derived.Laws.Rows
import Derived.Lib.Strings
import Derived.Maps.OwnSet
import Derived.SizedLaws
import Derived.SliceStrings
import Derived.WalkKit
import Derived.WalkLawsBesides
import Derived.WalkSpells
/- A region that draws its order, in which two operations that are not pure may come in either order: what is pure ahead of them is walked once, then both ways. -/
namespace Go.Proofs.Ytnoabmkmnddkkaa
open Go.RowKit Go
set_option linter.unusedVariables false
section
variable {P : Program} {ops : Array Oper} {md : Region.Mode} {C : World → Prop} {Q : Act → World → Prop}
def wpFork (P : Program) (ops : Array Oper) (C : World → Prop) (Q : Act → World → Prop) (k1 : Nat) (l1 : List (Nat × Bool)) (k2 : Nat) (l2 : List (Nat × Bool)) : List Nat → Act → World → Prop
  | [], a, w => cOp P ops C k1 (wpMix P ops C Q l1) a w ∧ cOp P ops C k2 (wpMix P ops C Q l2) a w
  | k :: l, a, w => ∃ o v, ops[k]? = some o ∧ PureIn P ops C o v a ∧ wpFork P ops C Q k1 l1 k2 l2 l (a.put o.dst v) w
def forkB (md : Region.Mode) (ops : Array Oper) (k1 : Nat) (l1 : List (Nat × Bool)) (k2 : Nat) (l2 : List (Nat × Bool)) : List Nat → Array Bool → Bool
  | [], listed => decide (Region.ready md ops listed = [k1, k2]) && mixB md ops l1 (listed.setIfInBounds k1 true) && mixB md ops l2 (listed.setIfInBounds k2 true) && decide (l1.length = l2.length)
  | k :: l, listed => (Region.ready md ops listed).contains k && Region.free md ops listed k && forkB md ops k1 l1 k2 l2 l (listed.setIfInBounds k true)
theorem wpAnyC_fork (hs : Region.noSelect ops = true) {k1 k2 : Nat} {l1 l2 : List (Nat × Bool)} : ∀ (l : List Nat) (listed : Array Bool) (a : Act) (w : World), C w → forkB md ops k1 l1 k2 l2 l listed = true → wpFork P ops C Q k1 l1 k2 l2 l a w →
    wpAnyC P md ops C Q (l.length + (l1.length + 1)) listed a w
  | [], listed, a, w, hC, hB, h => by
    simp only [forkB, Bool.and_eq_true, decide_eq_true_eq] at hB
    obtain ⟨⟨⟨hr, hB1⟩, hB2⟩, hll⟩ := hB
    show wpAnyC P md ops C Q (0 + (l1.length + 1)) listed a w
    rw [Nat.zero_add]
    refine ⟨fun h1 => (by rw [hr] at h1; cases h1), fun i hi => ?_⟩
    rw [hr] at hi
    rcases List.mem_cons.1 hi with rfl | hi
    · exact cOp_mono hC (fun a' w' hC' h' => wpAnyC_mix hs l1 _ a' w' hC' hB1 h') h.1
    · have hi2 : i = k2 := by simpa using hi
      subst hi2
      rw [hll]
      exact cOp_mono hC (fun a' w' hC' h' => wpAnyC_mix hs l2 _ a' w' hC' hB2 h') h.2
  | k :: l, listed, a, w, hC, hB, h => by
    simp only [forkB, Bool.and_eq_true] at hB
    obtain ⟨⟨hr, hf⟩, hB'⟩ := hB
    obtain ⟨o, v, h0, hy, hK⟩ := h
    show wpAnyC P md ops C Q ((l.length + 1) + (l1.length + 1)) listed a w
    rw [show (l.length + 1) + (l1.length + 1) = (l.length + (l1.length + 1)) + 1 by omega]
    exact wpAnyC_first h0 (Region.noSelect_spec hs) _ listed a w hC (Region.free_spec h0 hf) (by simpa using hr) hy (wpAnyC_fork hs l _ _ w hC hB' hK)
end
/-- the walk over the operations themselves -/
def wpForkO (P : Program) (ops : Array Oper) (C : World → Prop) (Q : Act → World → Prop) (o1 : Oper) (l1 : List (Oper × Bool)) (o2 : Oper) (l2 : List (Oper × Bool)) : List Oper → Act → World → Prop
  | [], a, w => wpMixO P ops C Q ((o1, false) :: l1) a w ∧ wpMixO P ops C Q ((o2, false) :: l2) a w
  | o :: l, a, w => ∃ v, PureIn P ops C o v a ∧ wpForkO P ops C Q o1 l1 o2 l2 l (a.put o.dst v) w
theorem wpMixO_cOp {P : Program} {opl : List Oper} {C : World → Prop} {Q : Act → World → Prop} {k : Nat} {l : List (Nat × Bool)} (hk : k < opl.length) (hl : l.all (fun x => decide (x.1 < opl.length)) = true) {a : Act} {w : World} (h : wpMixO P opl.toArray C Q ((opl.getD k noOper, false) :: l.map fun x => (opl.getD x.1 noOper, x.2)) a w) :
    cOp P opl.toArray C k (wpMix P opl.toArray C Q l) a w :=
  wpMix_of_O ((k, false) :: l) a w (by simp only [List.all_cons, Bool.and_eq_true, decide_eq_true_eq]; exact ⟨hk, hl⟩) h
theorem wpFork_of_O {P : Program} {opl : List Oper} {C : World → Prop} {Q : Act → World → Prop} {k1 k2 : Nat} {l1 l2 : List (Nat × Bool)} (h1 : k1 < opl.length) (h2 : k2 < opl.length) (hl1 : l1.all (fun x => decide (x.1 < opl.length)) = true) (hl2 : l2.all (fun x => decide (x.1 < opl.length)) = true) :
    ∀ (l : List Nat) (a : Act) (w : World), l.all (fun k => decide (k < opl.length)) = true → wpForkO P opl.toArray C Q (opl.getD k1 noOper) (l1.map fun x => (opl.getD x.1 noOper, x.2)) (opl.getD k2 noOper) (l2.map fun x => (opl.getD x.1 noOper, x.2)) (l.map fun k => opl.getD k noOper) a w →
      wpFork P opl.toArray C Q k1 l1 k2 l2 l a w
  | [], a, w, _, h => ⟨wpMixO_cOp h1 hl1 h.1, wpMixO_cOp h2 hl2 h.2⟩
  | k :: l, a, w, hl, h => by
    simp only [List.all_cons, Bool.and_eq_true, decide_eq_true_eq] at hl
    have h0 : opl.toArray[k]? = some (opl.getD k noOper) := by
      rw [List.getElem?_toArray, List.getD_eq_getElem?_getD, List.getElem?_eq_getElem hl.1]; rfl
    obtain ⟨v, hy, hk⟩ := h
    exact ⟨_, v, h0, hy, wpFork_of_O h1 h2 hl1 hl2 l _ w hl.2 hk⟩
def forkAll (opl : List Oper) (l : List Nat) (k1 : Nat) (l1 : List (Nat × Bool)) (k2 : Nat) (l2 : List (Nat × Bool)) : Bool :=
  Region.noSelect opl.toArray && decide (l.length + (l1.length + 1) = opl.toArray.size) && forkB .any opl.toArray k1 l1 k2 l2 l (Array.replicate opl.toArray.size false) && decide (k1 < opl.length) && decide (k2 < opl.length) && l1.all (fun x => decide (x.1 < opl.length)) && l2.all (fun x => decide (x.1 < opl.length)) && l.all (fun k => decide (k < opl.length))
theorem wp_region_forkO {P : Program} {opl : List Oper} {C : World → Prop} {id : Nat} {Q : Exit → Act → World → Prop} {a : Act} {w : World} (l : List Nat) (k1 : Nat) (l1 : List (Nat × Bool)) (k2 : Nat) (l2 : List (Nat × Bool)) (hm : P.follows .mixedOrders = true) (hB : forkAll opl l k1 l1 k2 l2 = true) (hC : C w.drew)
    (h : wpForkO P opl.toArray C (fun a' w' => Q .normal a' w') (opl.getD k1 noOper) (l1.map fun x => (opl.getD x.1 noOper, x.2)) (opl.getD k2 noOper) (l2.map fun x => (opl.getD x.1 noOper, x.2)) (l.map fun k => opl.getD k noOper) a w.drew) : (Code.region id opl.toArray true).wp P Q a w := by
  simp only [forkAll, Bool.and_eq_true, decide_eq_true_eq] at hB
  obtain ⟨⟨⟨⟨⟨⟨⟨hs, hl⟩, hB⟩, h1⟩, h2⟩, hl1⟩, hl2⟩, hll⟩ := hB
  refine wp_region_any hm (wpAny_of_C (C := C) (Q := fun a' w' => Q .normal a' w') (fun _ _ h => h) _ _ _ _ hC ?_)
  have := wpAnyC_fork (md := .any) hs l _ _ _ hC hB (wpFork_of_O h1 h2 hl1 hl2 l a w.drew hll h)
  rw [hl] at this
  exact this
section
variable {P : Program} {ops : Array Oper} {C : World → Prop} {Q : Act → World → Prop} {o o1 o2 : Oper} {a : Act} {l : List Oper} {l1 l2 m : List (Oper × Bool)} {w : World}
theorem fork_nil (h1 : wpMixO P ops C Q ((o1, false) :: l1) a w) (h2 : wpMixO P ops C Q ((o2, false) :: l2) a w) : wpForkO P ops C Q o1 l1 o2 l2 [] a w := ⟨h1, h2⟩
theorem fork_val (hw : Region.wanted o (yielded ops a.tmps) = true) {v : Value} (hv : ∀ w, C w → (execOp a.eval o).run P w = .ok (.value v) w) (h : wpForkO P ops C Q o1 l1 o2 l2 l (a.put o.dst v) w) : wpForkO P ops C Q o1 l1 o2 l2 (o :: l) a w :=
  ⟨v, .inl ⟨hw, hv⟩, h⟩
theorem fork_move (hw : Region.wanted o (yielded ops a.tmps) = true) (x : Operand) (ho : o.op = .move x) (h : wpForkO P ops C Q o1 l1 o2 l2 l (a.put o.dst (a.eval x)) w) : wpForkO P ops C Q o1 l1 o2 l2 (o :: l) a w :=
  fork_val hw (fun w _ => by rw [BigFrame.run_move x ho]) h
/-- a cell that was there in the world w0 -/
theorem fork_oldB {w0 : World} (hw : Region.wanted o (yielded ops a.tmps) = true) (ty : TypeId) (x : Operand) (ho : o.op = .load ty x) (p : Addr) (hx : a.eval x = .pointer (some p)) (v : Value) (hv : w0.cell? p = some v)
    (d : TypeDesc) (hu : P.underlying ty = some d) (hd : (match d with | .struct _ | .array _ _ => false | _ => true) = true)
    (h : wpForkO P ops (fun w' => Below w0.heap.size w0 w') Q o1 l1 o2 l2 l (a.put o.dst v) w) : wpForkO P ops (fun w' => Below w0.heap.size w0 w') Q o1 l1 o2 l2 (o :: l) a w :=
  fork_val hw (fun w hb => by
    have hagg : (isAgg ty).run P w = .ok false w := by
      unfold isAgg
      rw [Sem.run_bind, run_underlying hu w]
      cases d <;> simp_all
    have hc : w.cell? p = some v := (hb.cell (block_lt_of_cell hv)).trans hv
    unfold execOp
    simp only [ho, hx, Instr.loadAt, Instr.sureAddr, loadVar, Sem.run_bind, Sem.run_pure, Result.andThen_ok, hagg, Bool.false_eq_true, if_false, run_load, hc]) h
/-- a new variable, in a region that draws its order -/
theorem mix_alloc (hw : Region.wanted o (yielded ops a.tmps) = true) (ty : TypeId) (ho : o.op = .alloc ty) (z : Value) (hz : (P.info? ty).map (·.zero) = some (some z)) (h : C (w.alloc (.cells z.cells ty)) ∧ wpMixO P ops C Q m (a.put o.dst (.pointer (some ⟨w.heap.size, 0, none⟩))) (w.alloc (.cells z.cells ty))) : wpMixO P ops C Q ((o, false) :: m) a w := by
  show if _ then _ else _
  rw [if_pos hw]
  have hx : (execOp a.eval o).run P w = .ok (.value (.pointer (some ⟨w.heap.size, 0, none⟩))) (w.alloc (.cells z.cells ty)) := by
    unfold execOp
    cases hq : P.info? ty with
    | none => simp [hq] at hz
    | some i =>
      have hzi : i.zero = some z := by simpa [hq] using hz
      simp only [ho, Sem.run_bind, Instr.alloc, zeroValue, typeInfo, newVar, newRow]
      simp [hq, hzi]
  unfold tame
  rw [hx]
  exact h
/-- the whole of a block that is known, written, in a region that draws its order -/
theorem mix_storeB (hw : Region.wanted o (yielded ops a.tmps) = true) (ty : TypeId) (x y : Operand) (ho : o.op = .store ty x y) (g : Nat) (hx : a.eval x = .pointer (some ⟨g, 0, none⟩)) (cs' : Array Value) (hy : a.eval y = .agg cs') (t : TypeId) (cs : Array Value) (hA : At w g t cs)
    (hn : (P.info? ty).map (·.size) = some cs'.size) (hs : cs.size = cs'.size) (h1 : cs'.all (·.oneCell') = true)
    (h : C (w.setRow g cs') ∧ wpMixO P ops C Q m (a.put o.dst undef) (w.setRow g cs')) : wpMixO P ops C Q ((o, false) :: m) a w := by
  show if _ then _ else _
  rw [if_pos hw]
  unfold tame execOp
  simp only [ho, hx, hy, Instr.storeAt, Instr.sureAddr, Sem.run_bind, Sem.run_pure, Result.andThen_ok, run_storeVar_row w g t ty cs cs' hA hn hs h1]
  exact h
/-- an array or a struct that was there in the world w0, read whole -/
theorem mix_oldPartB {w0 : World} (hw : Region.wanted o (yielded ops a.tmps) = true) (ty : TypeId) (x : Operand) (ho : o.op = .load ty x) (g k : Nat) (hx : a.eval x = .pointer (some ⟨g, k, none⟩)) (part : List Value) (hc : ∀ (j : Nat) v, part[j]? = some v → w0.cell? ⟨g, k + j, none⟩ = some v)
    (d : TypeDesc) (hu : P.underlying ty = some d) (hd : (match d with | .struct _ | .array _ _ => true | _ => false) = true) (hn : (P.info? ty).map (·.size) = some part.length) (hCw : ∀ w', C w' → Below w0.heap.size w0 w')
    (h : wpMixO P ops C Q m (a.put o.dst (.agg part.toArray)) w) : wpMixO P ops C Q ((o, true) :: m) a w :=
  mix_val hw (fun w hb => by
    have hr := run_loadVar_part (P := P) w g k ty part d (fun j v hv => ((hCw w hb).cell (block_lt_of_cell (hc j v hv))).trans (hc j v hv)) hu hd hn
    unfold execOp
    simp only [ho, hx, Instr.loadAt, Instr.sureAddr, Sem.run_bind, Sem.run_pure, Result.andThen_ok, hr]) h
end
end Go.Proofs.Ytnoabmkmnddkkaa
