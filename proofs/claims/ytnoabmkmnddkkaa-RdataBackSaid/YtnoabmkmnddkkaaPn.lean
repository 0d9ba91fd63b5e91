/- Texts behind a law of this seat, in order: MemQuiet, MemMix, MemMix2. -/
import Derived.Test.YtnoabmkmnddkkaaPa
import Derived.Test.YtnoabmkmnddkkaaPb
import Derived.Test.YtnoabmkmnddkkaaPc
import Derived.Test.YtnoabmkmnddkkaaPd
import Derived.Test.YtnoabmkmnddkkaaPg
import Derived.Below
import Derived.BigQuiet
import Derived.ChangeSlices
import Derived.Deep.AppendLies
import Derived.Deep.Draws
import Derived.Deep.Quiet
import Derived.Deep.RegionLaw
import Derived.Great.Ranges
import Derived.Handed
import Derived.Laws.OwnMore
import Derived.Laws.Rows
import Derived.Lib.Strings
import Derived.SizedLaws
import Derived.SliceStrings
import Derived.WalkKit
import Derived.WalkLawsBesides
import Derived.WalkSpells
/- A region that draws its order, over blocks that are known: walked once, in the order of the text; callees may make new memory. -/
namespace Go.Proofs.Ytnoabmkmnddkkaa
open Go.RowKit Go
set_option linter.unusedVariables false
theorem wrapU8 (c : UInt8) : IntKind.i64.wrap (c.toNat : Int) = c.toNat := by
  have := UInt8.toNat_lt c
  simp [IntKind.wrap, IntKind.bits, IntKind.signed]
  omega
theorem quietS_region {P : Program} {B : Nat} {w0 w : World} {L : List (Nat × TypeId × Array Value)} {id : Nat} {l : List Oper} {Q : Exit → Act → World → Prop} {a : Act} (hm : P.follows .mixedOrders = true) (hB : Region.lexB .any l.toArray = true) (S : Ats B w0 w L)
    (h : wpQuiet P l.toArray (fun w' => Ats B w0 w' L) (fun a' => ∀ w', Ats B w0 w' L → Q .normal a' w') l a) : (Code.region id l.toArray true).wp P Q a w :=
  wp_region_quiet (C := fun w' => Ats B w0 w' L) hm hB S.drew (by simpa using h)
section
variable {P : Program} {o : Oper} {a : Act} {K : Act → Prop} {C : World → Prop}
theorem q_pure {v : Value} (hv : ∀ w, (execOp a.eval o).run P w = .ok (.value v) w) (h : K (a.put o.dst v)) : o.quiet P a C K :=
  ⟨v, fun w _ => by unfold Oper.quietAt; rw [hv w]; exact ⟨rfl, rfl⟩, h⟩
theorem q_read {v : Value} (hv : ∀ w, C w → (execOp a.eval o).run P w = .ok (.value v) w) (h : K (a.put o.dst v)) : o.quiet P a C K :=
  ⟨v, fun w hC => by unfold Oper.quietAt; rw [hv w hC]; exact ⟨rfl, rfl⟩, h⟩
theorem q_call (f : FuncId) (xs : List Operand) (ts : Array TypeId) (ho : o.op = .call { callee := .value (.func f), args := xs.toArray, argTypes := ts })
    (hE : ∀ args w, (callFunc f args).run P w = .ok (.enter f args) w) {v : Value} {args : List Value} (hc : ∀ w, C w → Calls P f args.toArray w fun e w' => e = .returned v ∧ C w') (ha : xs.map a.eval = args) (h : K (a.put o.dst v)) : o.quiet P a C K := by
  refine ⟨v, fun w hC => ?_, h⟩
  have : (execOp a.eval o).run P w = .ok (.enter f args.toArray) w := by
    rw [← ha]
    simp [execOp, ho, resolve, invoke, Act.eval, Deferred.ofValue, hE]
  unfold Oper.quietAt
  rw [this]
  exact ⟨rfl, hc w hC⟩
end
section
variable {P : Program} {o : Oper} {a : Act} {K : Act → Prop} {B : Nat} {w0 : World} {L : List (Nat × TypeId × Array Value)}
theorem q_loadS (ty : TypeId) (x : Operand) (ho : o.op = .load ty x) (g : Nat) (hx : a.eval x = .pointer (some ⟨g, 0, none⟩)) (i : Nat) (t : TypeId) (cs : Array Value)
    (hi : L[i]? = some (g, t, cs)) (d : TypeDesc) (hu : P.underlying ty = some d) (hd : (match d with | .struct _ | .array _ _ => true | _ => false) = true) (hn : (P.info? ty).map (·.size) = some cs.size)
    (h : K (a.put o.dst (.agg cs))) : o.quiet P a (fun w' => Ats B w0 w' L) K :=
  q_read (fun w S => by
    unfold execOp
    simp only [ho, hx, Instr.loadAt, Instr.sureAddr, Sem.run_bind, Sem.run_pure, Result.andThen_ok, run_loadVar_row w g t ty cs (0, 0) d (S.get hi) hu hd hn]) h
theorem q_cellS (ty : TypeId) (x : Operand) (ho : o.op = .load ty x) (g k : Nat) (hx : a.eval x = .pointer (some ⟨g, k, none⟩)) (i : Nat) (t : TypeId) (cs : Array Value)
    (hi : L[i]? = some (g, t, cs)) (d : TypeDesc) (hu : P.underlying ty = some d) (hd : (match d with | .struct _ | .array _ _ => false | _ => true) = true) (v : Value) (hv : cs[k]? = some v)
    (h : K (a.put o.dst v)) : o.quiet P a (fun w' => Ats B w0 w' L) K :=
  q_read (fun w S => by
    have hagg : (isAgg ty).run P w = .ok false w := by
      unfold isAgg
      rw [Sem.run_bind, run_underlying hu w]
      cases d <;> simp_all
    have hc : w.cell? ⟨g, k, none⟩ = some v := (S.get hi).cells k hv
    unfold execOp
    simp only [ho, hx, Instr.loadAt, Instr.sureAddr, loadVar, Sem.run_bind, Sem.run_pure, Result.andThen_ok, hagg, Bool.false_eq_true, if_false, run_load, hc]) h
theorem q_oldS {w0 : World} (ty : TypeId) (x : Operand) (ho : o.op = .load ty x) (p : Addr) (hx : a.eval x = .pointer (some p)) (v : Value) (hv : w0.cell? p = some v)
    (d : TypeDesc) (hu : P.underlying ty = some d) (hd : (match d with | .struct _ | .array _ _ => false | _ => true) = true)
    (h : K (a.put o.dst v)) : o.quiet P a (fun w' => Ats w0.heap.size w0 w' L) K :=
  q_read (fun w S => by
    have hagg : (isAgg ty).run P w = .ok false w := by
      unfold isAgg
      rw [Sem.run_bind, run_underlying hu w]
      cases d <;> simp_all
    have hc : w.cell? p = some v := (S.below.cell (block_lt_of_cell hv)).trans hv
    unfold execOp
    simp only [ho, hx, Instr.loadAt, Instr.sureAddr, loadVar, Sem.run_bind, Sem.run_pure, Result.andThen_ok, hagg, Bool.false_eq_true, if_false, run_load, hc]) h
end
end Go.Proofs.Ytnoabmkmnddkkaa
/- A region that draws its order, over blocks that are known, with calls whose answers hang on the world (slices): walked once, what only reckons or reads ahead of the calls. -/
namespace Go.Proofs.Ytnoabmkmnddkkaa
open Go.RowKit Go
set_option linter.unusedVariables false
section
variable {P : Program} {ops : Array Oper} {md : Region.Mode} {C : World → Prop} {Q : Act → World → Prop}
/-- an operation that goes on in a world of the class -/
def tame (P : Program) (o : Oper) (a : Act) (w : World) (K : Act → World → Prop) : Prop :=
  match (execOp a.eval o).run P w with
  | .ok (.value v) w' => K (a.put o.dst v) w'
  | .ok .skip w' => K (a.put o.dst undef) w'
  | .ok (.enter f args) w' => Calls P f args w' (fun e w'' => ∃ v, e = .returned v ∧ K (a.put o.dst v) w'')
  | _ => False
theorem tame_mono {o : Oper} {a : Act} {w : World} {K K' : Act → World → Prop} (h : ∀ a w, K a w → K' a w) (hh : tame P o a w K) : tame P o a w K' := by
  unfold tame at *
  generalize (execOp a.eval o).run P w = r at *
  cases r with
  | ok n w' =>
    cases n <;> simp only at hh ⊢
    case value u => exact h _ _ hh
    case skip => exact h _ _ hh
    case enter f args => exact hh.mono fun e w'' ⟨v, he, hk⟩ => ⟨v, he, h _ _ hk⟩
  | halt x w' => exact hh
theorem wp_of_tame {o : Oper} {a : Act} {w : World} {K K' : Act → World → Prop} {Q' : Exit → Act → World → Prop} (h : ∀ a w, K a w → K' a w) (hh : tame P o a w K) : o.wp P a w K' Q' := by
  unfold tame at hh
  unfold Oper.wp
  generalize (execOp a.eval o).run P w = r at *
  cases r with
  | ok n w' =>
    cases n <;> simp only at hh <;> simp only [Oper.upon]
    case value u => exact h _ _ hh
    case skip => exact h _ _ hh
    case enter f args => exact hh.mono fun e w'' ⟨v, he, hk⟩ => by subst he; exact h _ _ hk
  | halt x w' => exact absurd hh (by simp)
def cOp (P : Program) (ops : Array Oper) (C : World → Prop) (i : Nat) (K : Act → World → Prop) (a : Act) (w : World) : Prop :=
  match ops[i]? with
  | none => K a w
  | some o => if Region.wanted o (yielded ops a.tmps) then tame P o a w (fun a' w' => C w' ∧ K a' w') else K (a.put o.dst undef) w
theorem cOp_mono {i : Nat} {a : Act} {w : World} {K K' : Act → World → Prop} (hC : C w) (h : ∀ a w, C w → K a w → K' a w) (hh : cOp P ops C i K a w) : cOp P ops C i K' a w := by
  unfold cOp at *
  split
  · rename_i ho; simp only [ho] at hh; exact h _ _ hC hh
  · rename_i o ho
    simp only [ho] at hh
    split
    · rename_i hw; simp only [hw, if_true] at hh; exact tame_mono (fun a w ⟨h1, h2⟩ => ⟨h1, h a w h1 h2⟩) hh
    · rename_i hw; simp only [hw] at hh; exact h _ _ hC hh
theorem wpOp_of_cOp {i : Nat} {a : Act} {w : World} {K K' : Act → World → Prop} {Q' : Exit → Act → World → Prop} (hC : C w) (h : ∀ a w, C w → K a w → K' a w) (hh : cOp P ops C i K a w) : wpOp P ops Q' i K' a w := by
  unfold cOp at hh
  unfold wpOp
  split
  · rename_i ho; simp only [ho] at hh; exact h _ _ hC hh
  · rename_i o ho
    simp only [ho] at hh
    split
    · rename_i hw; simp only [hw, if_true] at hh; exact .inl (wp_of_tame (fun a w ⟨h1, h2⟩ => h a w h1 h2) hh)
    · rename_i hw; simp only [hw] at hh; exact h _ _ hC hh
def wpAnyC (P : Program) (md : Region.Mode) (ops : Array Oper) (C : World → Prop) (Q : Act → World → Prop) : Nat → Array Bool → Act → World → Prop
  | 0, listed, a, w => Region.ready md ops listed = [] ∧ Q a w
  | fuel + 1, listed, a, w => (Region.ready md ops listed = [] → Q a w) ∧ ∀ i ∈ Region.ready md ops listed, cOp P ops C i (wpAnyC P md ops C Q fuel (listed.setIfInBounds i true)) a w
theorem wpAny_of_C {Q' : Exit → Act → World → Prop} (hQ : ∀ a w, Q a w → Q' .normal a w) : ∀ (fuel : Nat) (listed : Array Bool) (a : Act) (w : World), C w → wpAnyC P md ops C Q fuel listed a w → wpAny P md ops Q' fuel listed a w
  | 0, _, _, _, _, h => ⟨h.1, hQ _ _ h.2⟩
  | fuel + 1, _, _, _, hC, h => ⟨fun h0 => hQ _ _ (h.1 h0), fun i hi => wpOp_of_cOp hC (fun a' w' hC' h' => wpAny_of_C hQ fuel _ a' w' hC' h') (h.2 i hi)⟩
/-- in state a, in every world of the class, o leaves v in its temporary, and the world alone -/
def PureIn (P : Program) (ops : Array Oper) (C : World → Prop) (o : Oper) (v : Value) (a : Act) : Prop :=
  (Region.wanted o (yielded ops a.tmps) = true ∧ ∀ w, C w → (execOp a.eval o).run P w = .ok (.value v) w) ∨ (Region.wanted o (yielded ops a.tmps) = false ∧ v = undef)
theorem PureIn.cOp {i : Nat} {o : Oper} {v : Value} {a : Act} {w : World} (hi : ops[i]? = some o) (hC : C w) (hy : PureIn P ops C o v a) {K : Act → World → Prop} (h : K (a.put o.dst v) w) : cOp P ops C i K a w := by
  unfold Ytnoabmkmnddkkaa.cOp
  simp only [hi]
  rcases hy with ⟨hw, hv⟩ | ⟨hw, rfl⟩
  · simp only [hw, if_true]
    unfold tame
    rw [hv w hC]
    exact ⟨hC, h⟩
  · simp only [hw, Bool.false_eq_true, if_false]; exact h
theorem PureIn.of_same {o : Oper} {v : Value} {a a' : Act} (hy : PureIn P ops C o v a) (he : execOp a'.eval o = execOp a.eval o) (hw : Region.wanted o (yielded ops a'.tmps) = Region.wanted o (yielded ops a.tmps)) : PureIn P ops C o v a' := by
  unfold PureIn at *
  rw [he, hw]
  exact hy
theorem cOp_put {j : Nat} {oi oj : Oper} {v : Value} {w : World} (hj : ops[j]? = some oj) (hap : oi.apart ops oj = true)
    (hsi : ∀ cs b, oi.op ≠ .select cs b) (hsj : ∀ cs b, oj.op ≠ .select cs b) {K : Act → World → Prop} {a : Act} (hy : PureIn P ops C oi v a) (h : cOp P ops C j K (a.put oi.dst v) w) :
    cOp P ops C j (fun a' w' => PureIn P ops C oi v a' ∧ K (a'.put oi.dst v) w') a w := by
  obtain ⟨h1, h2, h3⟩ := Oper.apart_spec hap
  have keep : ∀ u, PureIn P ops C oi v (a.put oj.dst u) := fun u => hy.of_same (execOp_put oi hsi a oj.dst u h3) (wanted_put oi a oj.dst u h3)
  unfold cOp at *
  simp only [hj] at *
  rw [wanted_put oj a oi.dst v h1] at h
  split
  · rename_i hw
    simp only [hw, if_true] at h
    unfold tame at *
    rw [execOp_put oj hsj a oi.dst v h1] at h
    generalize (execOp a.eval oj).run P w = r at *
    cases r with
    | ok n w' =>
      cases n <;> simp only at h ⊢
      case value u => exact ⟨h.1, keep u, by rw [← Act.put_comm a v u h2]; exact h.2⟩
      case skip => exact ⟨h.1, keep undef, by rw [← Act.put_comm a v undef h2]; exact h.2⟩
      case enter f args => exact h.mono fun e w'' ⟨u, he, hC, hk⟩ => ⟨u, he, hC, keep u, by rw [← Act.put_comm a v u h2]; exact hk⟩
    | halt x w' => exact h
  · rename_i hw
    simp only [hw] at h
    exact ⟨keep _, by rw [← Act.put_comm a v undef h2]; exact h⟩
theorem wpAnyC_first {i : Nat} {oi : Oper} {v : Value} (hi : ops[i]? = some oi) (hsel : ∀ (j : Nat) (o : Oper) cs b, ops[j]? = some o → o.op ≠ .select cs b) :
    ∀ (fuel : Nat) (listed : Array Bool) (a : Act) (w : World), C w →
      (∀ j oj, ops[j]? = some oj → j ≠ i → listed.getD j true = false → (∀ e ∈ oj.after, Region.binds md e = true → e.on ≠ i) → oi.apart ops oj = true) →
      i ∈ Region.ready md ops listed → PureIn P ops C oi v a →
      wpAnyC P md ops C Q fuel (listed.setIfInBounds i true) (a.put oi.dst v) w → wpAnyC P md ops C Q (fuel + 1) listed a w := by
  intro fuel
  induction fuel with
  | zero =>
    intro listed a w hC _ hr hy H
    refine ⟨fun h => (by rw [h] at hr; cases hr), fun j hj => ?_⟩
    by_cases hji : j = i
    · subst hji; exact hy.cOp hi hC H
    · have := ready_mono hj hji
      rw [H.1] at this
      cases this
  | succ fuel ih =>
    intro listed a w hC hfree hr hy H
    refine ⟨fun h => (by rw [h] at hr; cases hr), fun j hj => ?_⟩
    by_cases hji : j = i
    · subst hji; exact hy.cOp hi hC H
    · have h1 := H.2 j (ready_mono hj hji)
      obtain ⟨hjun, oj, hoj, hall⟩ := mem_ready.1 hj
      have hnot : ∀ e ∈ oj.after, Region.binds md e = true → e.on ≠ i := fun e he hb heq => by
        have h1 := hall e he hb
        have h0 := (mem_ready.1 hr).1
        rw [heq] at h1
        rcases Nat.lt_or_ge i listed.size with h' | h'
        · simp [h'] at h0 h1; rw [h0] at h1; cases h1
        · simp [Array.getElem?_eq_none h'] at h1
      have h2 := cOp_put hoj (hfree j oj hoj hji hjun hnot) (fun cs b => hsel i oi cs b hi) (fun cs b => hsel j oj cs b hoj) hy h1
      have hfree' : ∀ k ok, ops[k]? = some ok → k ≠ i → (listed.setIfInBounds j true).getD k true = false →
          (∀ e ∈ ok.after, Region.binds md e = true → e.on ≠ i) → oi.apart ops ok = true := fun k ok hk hki hun hno => by
        refine hfree k ok hk hki ?_ hno
        by_cases hjk : j = k
        · subst hjk; exact hjun
        · rw [getD_set_ne true hjk] at hun; exact hun
      refine cOp_mono hC (fun a' w' hC' h3 => ih (listed.setIfInBounds j true) a' w' hC' hfree' (ready_mono hr (Ne.symm hji)) h3.1 ?_) h2
      rw [Array.setIfInBounds_comm _ _ hji]
      exact h3.2
/-- the order that is walked: what is pure (true) may come as soon as it is ready; else it must be alone -/
def mixB (md : Region.Mode) (ops : Array Oper) : List (Nat × Bool) → Array Bool → Bool
  | [], listed => (Region.ready md ops listed).isEmpty
  | (k, true) :: l, listed => (Region.ready md ops listed).contains k && Region.free md ops listed k && mixB md ops l (listed.setIfInBounds k true)
  | (k, false) :: l, listed => decide (Region.ready md ops listed = [k]) && mixB md ops l (listed.setIfInBounds k true)
def wpMix (P : Program) (ops : Array Oper) (C : World → Prop) (Q : Act → World → Prop) : List (Nat × Bool) → Act → World → Prop
  | [], a, w => Q a w
  | (k, true) :: l, a, w => ∃ o v, ops[k]? = some o ∧ PureIn P ops C o v a ∧ wpMix P ops C Q l (a.put o.dst v) w
  | (k, false) :: l, a, w => cOp P ops C k (wpMix P ops C Q l) a w
theorem wpAnyC_mix (hs : Region.noSelect ops = true) : ∀ (l : List (Nat × Bool)) (listed : Array Bool) (a : Act) (w : World), C w → mixB md ops l listed = true → wpMix P ops C Q l a w → wpAnyC P md ops C Q l.length listed a w
  | [], _, _, _, _, hB, h => ⟨by simpa [mixB] using hB, h⟩
  | (k, true) :: l, listed, a, w, hC, hB, h => by
    simp only [mixB, Bool.and_eq_true] at hB
    obtain ⟨⟨hr, hf⟩, hB'⟩ := hB
    obtain ⟨o, v, h0, hy, hK⟩ := h
    exact wpAnyC_first h0 (Region.noSelect_spec hs) l.length listed a w hC (Region.free_spec h0 hf) (by simpa using hr) hy (wpAnyC_mix hs l _ _ w hC hB' hK)
  | (k, false) :: l, listed, a, w, hC, hB, h => by
    simp only [mixB, Bool.and_eq_true, decide_eq_true_eq] at hB
    refine ⟨fun h1 => (by rw [hB.1] at h1; cases h1), fun i hi => ?_⟩
    rw [hB.1] at hi
    have hik : i = k := by simpa using hi
    subst hik
    exact cOp_mono hC (fun a' w' hC' h' => wpAnyC_mix hs l _ a' w' hC' hB.2 h') h
def mixAll (ops : Array Oper) (l : List (Nat × Bool)) : Bool := Region.noSelect ops && decide (l.length = ops.size) && mixB .any ops l (Array.replicate ops.size false)
theorem wp_region_mix {id : Nat} {Q : Exit → Act → World → Prop} {a : Act} {w : World} (l : List (Nat × Bool)) (hm : P.follows .mixedOrders = true) (hB : mixAll ops l = true) (hC : C w.drew)
    (h : wpMix P ops C (fun a' w' => Q .normal a' w') l a w.drew) : (Code.region id ops true).wp P Q a w := by
  simp only [mixAll, Bool.and_eq_true, decide_eq_true_eq] at hB
  obtain ⟨⟨hs, hl⟩, hB⟩ := hB
  refine wp_region_any hm (wpAny_of_C (Q := fun a' w' => Q .normal a' w') (fun _ _ h => h) _ _ _ _ hC ?_)
  have := wpAnyC_mix (md := .any) hs l _ _ _ hC hB h
  rw [hl] at this
  exact this
end
/-- the walk over the operations themselves -/
def wpMixO (P : Program) (ops : Array Oper) (C : World → Prop) (Q : Act → World → Prop) : List (Oper × Bool) → Act → World → Prop
  | [], a, w => Q a w
  | (o, true) :: l, a, w => ∃ v, PureIn P ops C o v a ∧ wpMixO P ops C Q l (a.put o.dst v) w
  | (o, false) :: l, a, w => if Region.wanted o (yielded ops a.tmps) then tame P o a w (fun a' w' => C w' ∧ wpMixO P ops C Q l a' w') else wpMixO P ops C Q l (a.put o.dst undef) w
def noOper : Oper := { dst := none, op := .move (.tmp 0), type := 0, pos := "", after := #[], guard := none }
theorem wpMix_of_O {P : Program} {opl : List Oper} {C : World → Prop} {Q : Act → World → Prop} : ∀ (l : List (Nat × Bool)) (a : Act) (w : World), l.all (fun x => decide (x.1 < opl.length)) = true → wpMixO P opl.toArray C Q (l.map fun x => (opl.getD x.1 noOper, x.2)) a w → wpMix P opl.toArray C Q l a w
  | [], _, _, _, h => h
  | (k, b) :: l, a, w, hl, h => by
    simp only [List.all_cons, Bool.and_eq_true, decide_eq_true_eq] at hl
    have h0 : opl.toArray[k]? = some (opl.getD k noOper) := by
      rw [List.getElem?_toArray, List.getD_eq_getElem?_getD, List.getElem?_eq_getElem hl.1]; rfl
    cases b with
    | true =>
      obtain ⟨v, hy, hk⟩ := h
      exact ⟨_, v, h0, hy, wpMix_of_O l _ w hl.2 hk⟩
    | false =>
      show cOp P opl.toArray C k _ a w
      unfold cOp
      simp only [h0]
      have h : (if Region.wanted (opl.getD k noOper) (yielded opl.toArray a.tmps) then tame P (opl.getD k noOper) a w (fun a' w' => C w' ∧ wpMixO P opl.toArray C Q (l.map fun x => (opl.getD x.1 noOper, x.2)) a' w') else wpMixO P opl.toArray C Q (l.map fun x => (opl.getD x.1 noOper, x.2)) (a.put (opl.getD k noOper).dst undef) w) := h
      split
      · rename_i hw
        rw [if_pos hw] at h
        exact tame_mono (fun a w ⟨h1, h2⟩ => ⟨h1, wpMix_of_O l a w hl.2 h2⟩) h
      · rename_i hw
        rw [if_neg hw] at h
        exact wpMix_of_O l _ w hl.2 h
theorem wp_region_mixO {P : Program} {opl : List Oper} {C : World → Prop} {id : Nat} {Q : Exit → Act → World → Prop} {a : Act} {w : World} (l : List (Nat × Bool)) (hm : P.follows .mixedOrders = true) (hB : (mixAll opl.toArray l && l.all fun x => decide (x.1 < opl.length)) = true) (hC : C w.drew)
    (h : wpMixO P opl.toArray C (fun a' w' => Q .normal a' w') (l.map fun x => (opl.getD x.1 noOper, x.2)) a w.drew) : (Code.region id opl.toArray true).wp P Q a w := by
  simp only [Bool.and_eq_true] at hB
  exact wp_region_mix l hm hB.1 hC (wpMix_of_O l a w.drew hB.2 h)
section
variable {P : Program} {ops : Array Oper} {C : World → Prop} {Q : Act → World → Prop} {o : Oper} {a : Act} {l : List (Oper × Bool)} {w : World}
theorem mix_nil (h : Q a w) : wpMixO P ops C Q [] a w := h
theorem mix_val (hw : Region.wanted o (yielded ops a.tmps) = true) {v : Value} (hv : ∀ w, C w → (execOp a.eval o).run P w = .ok (.value v) w) (h : wpMixO P ops C Q l (a.put o.dst v) w) : wpMixO P ops C Q ((o, true) :: l) a w :=
  ⟨v, .inl ⟨hw, hv⟩, h⟩
theorem mix_move (hw : Region.wanted o (yielded ops a.tmps) = true) (x : Operand) (ho : o.op = .move x) (h : wpMixO P ops C Q l (a.put o.dst (a.eval x)) w) : wpMixO P ops C Q ((o, true) :: l) a w :=
  mix_val hw (fun w _ => by rw [BigFrame.run_move x ho]) h
theorem mix_assign (hw : Region.wanted o (yielded ops a.tmps) = true) (x : Operand) (ho : o.op = .assign x) (h : wpMixO P ops C Q l (a.put o.dst (a.eval x)) w) : wpMixO P ops C Q ((o, true) :: l) a w :=
  mix_val hw (fun w _ => by rw [BigFrame.run_assign x ho]) h
theorem mix_skip (hw : Region.wanted o (yielded ops a.tmps) = false) (h : wpMixO P ops C Q l (a.put o.dst undef) w) : wpMixO P ops C Q ((o, true) :: l) a w :=
  ⟨undef, .inr ⟨hw, rfl⟩, h⟩
theorem mix_skipC (hw : Region.wanted o (yielded ops a.tmps) = false) (h : wpMixO P ops C Q l (a.put o.dst undef) w) : wpMixO P ops C Q ((o, false) :: l) a w := by
  show if _ then _ else _
  rw [if_neg (by rw [hw]; exact Bool.false_ne_true)]
  exact h
theorem mix_call (f : FuncId) (xs : List Operand) (ts : Array TypeId) (hw : Region.wanted o (yielded ops a.tmps) = true) (ho : o.op = .call { callee := .value (.func f), args := xs.toArray, argTypes := ts })
    (hE : ∀ args w, (callFunc f args).run P w = .ok (.enter f args) w) {args : List Value} (ha : xs.map a.eval = args) {R : Ending → World → Prop} (hc : Calls P f args.toArray w R)
    (h : ∀ e w', R e w' → ∃ v, e = .returned v ∧ C w' ∧ wpMixO P ops C Q l (a.put o.dst v) w') : wpMixO P ops C Q ((o, false) :: l) a w := by
  show if _ then _ else _
  rw [if_pos hw]
  have : (execOp a.eval o).run P w = .ok (.enter f args.toArray) w := by
    rw [← ha]
    simp [execOp, ho, resolve, invoke, Act.eval, Deferred.ofValue, hE]
  unfold tame
  rw [this]
  exact hc.mono fun e w' hR => h e w' hR
end
section
variable {P : Program} {ops : Array Oper} {Q : Act → World → Prop} {o : Oper} {a : Act} {l : List (Oper × Bool)} {w : World} {B : Nat} {w0 : World} {L : List (Nat × TypeId × Array Value)}
theorem mix_loadS (hw : Region.wanted o (yielded ops a.tmps) = true) (ty : TypeId) (x : Operand) (ho : o.op = .load ty x) (g : Nat) (hx : a.eval x = .pointer (some ⟨g, 0, none⟩)) (i : Nat) (t : TypeId) (cs : Array Value)
    (hi : L[i]? = some (g, t, cs)) (d : TypeDesc) (hu : P.underlying ty = some d) (hd : (match d with | .struct _ | .array _ _ => true | _ => false) = true) (hn : (P.info? ty).map (·.size) = some cs.size)
    (h : wpMixO P ops (fun w' => Ats B w0 w' L) Q l (a.put o.dst (.agg cs)) w) : wpMixO P ops (fun w' => Ats B w0 w' L) Q ((o, true) :: l) a w :=
  mix_val hw (fun w S => by
    unfold execOp
    simp only [ho, hx, Instr.loadAt, Instr.sureAddr, Sem.run_bind, Sem.run_pure, Result.andThen_ok, run_loadVar_row w g t ty cs (0, 0) d (S.get hi) hu hd hn]) h
end
end Go.Proofs.Ytnoabmkmnddkkaa
/- A region that draws its order and ends in stores to blocks that it does not read; three results, two of which lie in variables. -/
namespace Go.Proofs.Ytnoabmkmnddkkaa
open Go.RowKit Go
set_option linter.unusedVariables false
/-- the worlds in which the blocks idx of L0 are as they were -/
def AtsF (B : Nat) (w0 : World) (L0 : List (Nat × TypeId × Array Value)) (idx : List Nat) (w : World) : Prop := ∃ L, Ats B w0 w L ∧ ∀ i ∈ idx, L[i]? = L0[i]?
section
variable {P : Program} {ops : Array Oper} {Q : Act → World → Prop} {o : Oper} {a : Act} {l : List (Oper × Bool)} {w : World} {B : Nat} {w0 : World} {L L0 : List (Nat × TypeId × Array Value)} {idx : List Nat}
theorem Ats.toF (S : Ats B w0 w L) (idx : List Nat) : AtsF B w0 L idx w := ⟨L, S, fun _ _ => rfl⟩
theorem mix_begin (h : (∀ i ∈ idx, L0[i]? = L0[i]?) → wpMixO P ops (AtsF B w0 L0 idx) Q l a w) : wpMixO P ops (AtsF B w0 L0 idx) Q l a w := h fun _ _ => rfl
theorem mix_loadF (hw : Region.wanted o (yielded ops a.tmps) = true) (ty : TypeId) (x : Operand) (ho : o.op = .load ty x) (g : Nat) (hx : a.eval x = .pointer (some ⟨g, 0, none⟩)) (i : Nat) (hm : i ∈ idx) (t : TypeId) (cs : Array Value)
    (hi : L0[i]? = some (g, t, cs)) (d : TypeDesc) (hu : P.underlying ty = some d) (hd : (match d with | .struct _ | .array _ _ => true | _ => false) = true) (hn : (P.info? ty).map (·.size) = some cs.size)
    (h : wpMixO P ops (AtsF B w0 L0 idx) Q l (a.put o.dst (.agg cs)) w) : wpMixO P ops (AtsF B w0 L0 idx) Q ((o, true) :: l) a w :=
  mix_val hw (fun w ⟨L, S, hL⟩ => by
    unfold execOp
    simp only [ho, hx, Instr.loadAt, Instr.sureAddr, Sem.run_bind, Sem.run_pure, Result.andThen_ok, run_loadVar_row w g t ty cs (0, 0) d (S.get ((hL i hm).trans hi)) hu hd hn]) h
theorem mix_cellF (hw : Region.wanted o (yielded ops a.tmps) = true) (ty : TypeId) (x : Operand) (ho : o.op = .load ty x) (g k : Nat) (hx : a.eval x = .pointer (some ⟨g, k, none⟩)) (i : Nat) (hm : i ∈ idx) (t : TypeId) (cs : Array Value)
    (hi : L0[i]? = some (g, t, cs)) (d : TypeDesc) (hu : P.underlying ty = some d) (hd : (match d with | .struct _ | .array _ _ => false | _ => true) = true) (v : Value) (hv : cs[k]? = some v)
    (h : wpMixO P ops (AtsF B w0 L0 idx) Q l (a.put o.dst v) w) : wpMixO P ops (AtsF B w0 L0 idx) Q ((o, true) :: l) a w :=
  mix_val hw (fun w ⟨L, S, hL⟩ => by
    have hagg : (isAgg ty).run P w = .ok false w := by
      unfold isAgg
      rw [Sem.run_bind, run_underlying hu w]
      cases d <;> simp_all
    have hc : w.cell? ⟨g, k, none⟩ = some v := (S.get ((hL i hm).trans hi)).cells k hv
    unfold execOp
    simp only [ho, hx, Instr.loadAt, Instr.sureAddr, loadVar, Sem.run_bind, Sem.run_pure, Result.andThen_ok, hagg, Bool.false_eq_true, if_false, run_load, hc]) h
theorem mix_storeF (hw : Region.wanted o (yielded ops a.tmps) = true) (ty : TypeId) (x y : Operand) (ho : o.op = .store ty x y) (S : Ats B w0 w L) (hL : ∀ i ∈ idx, L[i]? = L0[i]?) (g : Nat) (hx : a.eval x = .pointer (some ⟨g, 0, none⟩)) (cs' : Array Value) (hy : a.eval y = .agg cs') (i : Nat) (hm : i ∉ idx) (t : TypeId) (cs : Array Value)
    (hi : L[i]? = some (g, t, cs)) (hn : (P.info? ty).map (·.size) = some cs'.size) (hs : cs.size = cs'.size) (h1 : cs'.all (·.oneCell') = true)
    (h : ∀ w1, Ats B w0 w1 (L.set i (g, t, cs')) → (∀ j ∈ idx, (L.set i (g, t, cs'))[j]? = L0[j]?) → wpMixO P ops (AtsF B w0 L0 idx) Q l (a.put o.dst undef) w1) : wpMixO P ops (AtsF B w0 L0 idx) Q ((o, false) :: l) a w := by
  show if _ then _ else _
  rw [if_pos hw]
  have S1 := S.grow hi (grown_setRow w g cs') (setRow_heap w g cs cs' t (0, 0) (S.get hi))
  have hL1 : ∀ j ∈ idx, (L.set i (g, t, cs'))[j]? = L0[j]? := fun j hj => by
    rw [List.getElem?_set_ne (fun e => hm (by rw [e]; exact hj))]
    exact hL j hj
  unfold tame execOp
  simp only [ho, hx, hy, Instr.storeAt, Instr.sureAddr, Sem.run_bind, Sem.run_pure, Result.andThen_ok, run_storeVar_row w g t ty cs cs' (S.get hi) hn hs h1]
  exact ⟨⟨_, S1, hL1⟩, h _ S1 hL1⟩
end
theorem results_cell3S {P : Program} {B : Nat} {w0 w : World} {L : List (Nat × TypeId × Array Value)} {fn : Func} {p p2 q : Tmp} {ty ty2 : TypeId} (h : fn.results = #[.cell p ty, .cell p2 ty2, .tmp q]) (tmps : Array Value) (S : Ats B w0 w L) (g i : Nat) (t : TypeId) (cs : Array Value) (d : TypeDesc)
    (hp : tmps.getD p undef = .pointer (some ⟨g, 0, none⟩)) (hi : L[i]? = some (g, t, cs))
    (hu : P.underlying ty = some d) (hd : (match d with | .struct _ | .array _ _ => true | _ => false) = true) (hn : (P.info? ty).map (·.size) = some cs.size)
    (g2 i2 : Nat) (t2 : TypeId) (cs2 : Array Value) (d2 : TypeDesc)
    (hp2 : tmps.getD p2 undef = .pointer (some ⟨g2, 0, none⟩)) (hi2 : L[i2]? = some (g2, t2, cs2))
    (hu2 : P.underlying ty2 = some d2) (hd2 : (match d2 with | .struct _ | .array _ _ => true | _ => false) = true) (hn2 : (P.info? ty2).map (·.size) = some cs2.size) :
    (results fn tmps).run P w = .ok (.tuple #[.agg cs, .agg cs2, tmps.getD q undef]) w := by
  have hp' : tmps[p]?.getD undef = .pointer (some ⟨g, 0, none⟩) := by simpa using hp
  have hp2' : tmps[p2]?.getD undef = .pointer (some ⟨g2, 0, none⟩) := by simpa using hp2
  simp [results, h, hp', hp2', asAddr, run_loadVar_row w g t ty cs (0, 0) d (S.get hi) hu hd hn, run_loadVar_row w g2 t2 ty2 cs2 (0, 0) d2 (S.get hi2) hu2 hd2 hn2]
end Go.Proofs.Ytnoabmkmnddkkaa
