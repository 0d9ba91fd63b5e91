/- Texts behind a law of this seat, in order: MemRow, MemPart, MemOwn. -/
import Derived.Test.YtnoabmkmnddkkaaPa
import Derived.Test.YtnoabmkmnddkkaaPb
import Derived.Test.YtnoabmkmnddkkaaPc
import Derived.Test.YtnoabmkmnddkkaaPd
import Derived.Below
import Derived.ChangeSlices
import Derived.Deep.AppendLies
import Derived.Deep.Draws
import Derived.Deep.RegionLaw
import Derived.Great.Ranges
import Derived.Handed
import Derived.Laws.OwnMore
import Derived.Laws.Rows
import Derived.Lib.Strings
import Derived.SizedLaws
import Derived.SliceStrings
import Derived.WalkKit
import Derived.WalkLawsBesides
import Derived.WalkSpells
/- Blocks of the call's own, each known whole: one hypothesis for all of them, kept from step to step. -/
namespace Go.Proofs.Ytnoabmkmnddkkaa
open Go.RowKit Go
set_option linter.unusedVariables false
theorem grown_setRow (w : World) (g : Nat) (c : Array Value) : w.grownBy (w.setRow g c) (some g) :=
  ⟨rfl, rfl, rfl, by simp, fun k _ hk => setRow_other w g k c (fun e => hk (by rw [e]))⟩
theorem grown_setCell (w : World) (p : Addr) (u : Value) : w.grownBy (w.setCell p u) (some p.block) :=
  ⟨rfl, rfl, rfl, by simp [World.setCell], fun k _ hk => Below.heap_setCell w p u k (fun e => hk (by rw [e]))⟩
theorem grown_alloc (w : World) (ob : Obj) : w.grownBy (w.alloc ob) none :=
  ⟨rfl, rfl, rfl, by simp, fun k hk _ => Below.heap_alloc w ob k hk⟩
/-- all blocks that are known: number, type, cells -/
structure Ats (B : Nat) (w0 w : World) (L : List (Nat × TypeId × Array Value)) : Prop where
  below : Below B w0 w
  big : B ≤ w.heap.size
  at_ : ∀ x ∈ L, B ≤ x.1 ∧ At w x.1 x.2.1 x.2.2
  apart : (L.map (·.1)).Nodup
section
variable {B : Nat} {w0 w : World} {L : List (Nat × TypeId × Array Value)}
theorem Ats.start (w : World) : Ats w.heap.size w w [] := ⟨Below.refl _ _, Nat.le_refl _, fun x h => by simp at h, by simp⟩
theorem Ats.get (S : Ats B w0 w L) {i g : Nat} {t : TypeId} {cs : Array Value} (h : L[i]? = some (g, t, cs)) : At w g t cs := (S.at_ _ (List.mem_of_getElem? h)).2
theorem Ats.ge (S : Ats B w0 w L) {i g : Nat} {t : TypeId} {cs : Array Value} (h : L[i]? = some (g, t, cs)) : B ≤ g := (S.at_ _ (List.mem_of_getElem? h)).1
theorem Ats.call (S : Ats B w0 w L) {w' : World} (hb : Below w.heap.size w w') : Ats B w0 w' L :=
  ⟨S.below.trans (hb.mono S.big), Nat.le_trans S.big hb.size, fun x h => ⟨(S.at_ x h).1, (S.at_ x h).2.below hb (S.at_ x h).2.lt⟩, S.apart⟩
theorem Ats.drew (S : Ats B w0 w L) : Ats B w0 w.drew L := ⟨S.below.drew, S.big, S.at_, S.apart⟩
theorem Ats.drewN (S : Ats B w0 w L) (n : Nat) : Ats B w0 (w.drewN n) L := ⟨⟨S.below.os, S.below.tape, S.below.output, S.below.size, S.below.block⟩, S.big, S.at_, S.apart⟩
theorem Ats.drop (S : Ats B w0 w L) {L' : List (Nat × TypeId × Array Value)} (h : L'.Sublist L) : Ats B w0 w L' :=
  ⟨S.below, S.big, fun x hx => S.at_ x (h.subset hx), (h.map _).nodup S.apart⟩
theorem Ats.add (S : Ats B w0 w L) (t : TypeId) (cs : Array Value) : Ats B w0 (w.alloc (.cells cs t)) ((w.heap.size, t, cs) :: L) := by
  refine ⟨S.below.alloc S.big _, by simp; have := S.big; omega, fun x h => ?_, ?_⟩
  · rcases List.mem_cons.1 h with rfl | h
    · exact ⟨S.big, At.new w t cs⟩
    · exact ⟨(S.at_ x h).1, (S.at_ x h).2.alloc _⟩
  · rw [List.map_cons, List.nodup_cons]
    refine ⟨fun h => ?_, S.apart⟩
    obtain ⟨x, hx, he⟩ := List.mem_map.1 h
    have := (S.at_ x hx).2.lt
    simp only at he
    omega
theorem Ats.grow (S : Ats B w0 w L) {i g : Nat} {t : TypeId} {cs : Array Value} (h : L[i]? = some (g, t, cs)) {w' : World} (hg : w.grownBy w' (some g)) {cs' : Array Value} (ha : At w' g t cs') : Ats B w0 w' (L.set i (g, t, cs')) := by
  have hi : i < L.length := (List.getElem?_eq_some_iff.1 h).1
  have hiv : L[i] = (g, t, cs) := (List.getElem?_eq_some_iff.1 h).2
  have hm : (L.set i (g, t, cs')).map (·.1) = L.map (·.1) := by
    rw [List.map_set]
    refine List.ext_getElem (by simp) fun j h1 h2 => ?_
    rw [List.getElem_set]
    split
    · rename_i e; subst e; simp [hiv]
    · rfl
  refine ⟨S.below.grown hg S.big (fun k hk => by injection hk with hk; subst hk; exact S.ge h), Nat.le_trans S.big hg.size, fun x hx => ?_, by rw [hm]; exact S.apart⟩
  obtain ⟨j, hj, hjv⟩ := List.mem_iff_getElem.1 hx
  have hjl : j < L.length := by simpa using hj
  by_cases hij : i = j
  · subst hij
    rw [List.getElem_set_self] at hjv
    subst hjv
    exact ⟨S.ge h, ha⟩
  · rw [List.getElem_set_ne hij] at hjv
    have hx' : x ∈ L := List.mem_iff_getElem.2 ⟨j, hjl, hjv⟩
    refine ⟨(S.at_ x hx').1, (S.at_ x hx').2.grown hg ?_⟩
    intro e
    injection e with e
    have hnd := List.pairwise_iff_getElem.1 S.apart
    rcases Nat.lt_or_gt_of_ne hij with h1 | h1
    · exact hnd i j (by simpa using hi) (by simpa using hjl) h1 (by simp [hiv, hjv, e])
    · exact hnd j i (by simpa using hjl) (by simpa using hi) h1 (by simp [hiv, hjv, e])
end
section
variable {P : Program} {ops : Array Oper} {rest : List Oper} {o : Oper} {a : Act} {Q : Exit → Act → World → Prop} {B : Nat} {w0 w : World} {L : List (Nat × TypeId × Array Value)}
theorem wpList_want (hw : Region.wanted o (yielded ops a.tmps) = true) (h : ∀ K : Act → World → Prop, (∀ a w, wpList P ops Q rest a w → K a w) → o.wp P a w K Q) : wpList P ops Q (o :: rest) a w :=
  wpList_step fun K hK => by rw [if_pos hw]; exact h K hK
/-- a new variable -/
theorem wpList_allocS (hgd : Region.wanted o (yielded ops a.tmps) = true) (ty : TypeId) (ho : o.op = .alloc ty) (z : Value) (hz : (P.info? ty).map (·.zero) = some (some z)) (S : Ats B w0 w L)
    (h : ∀ g w1, Ats B w0 w1 ((g, ty, z.cells) :: L) → wpList P ops Q rest (a.put o.dst (.pointer (some ⟨g, 0, none⟩))) w1) : wpList P ops Q (o :: rest) a w := by
  refine wpList_want hgd fun K hK => ?_
  have := hK _ _ (h _ _ (S.add ty z.cells))
  unfold Oper.wp execOp
  cases hq : P.info? ty with
  | none => simp [hq] at hz
  | some i =>
    have hzi : i.zero = some z := by simpa [hq] using hz
    simp only [ho, Sem.run_bind, Instr.alloc, zeroValue, typeInfo, newVar, newRow]
    simp [hq, hzi, Oper.upon_value, this]
/-- a variable that begins with a value -/
theorem wpList_boxS (hgd : Region.wanted o (yielded ops a.tmps) = true) (ty : TypeId) (x : Operand) (ho : o.op = .box ty x) (cs : Array Value) (hx : (a.eval x).cells = cs) (S : Ats B w0 w L)
    (h : ∀ g w1, Ats B w0 w1 ((g, ty, cs) :: L) → wpList P ops Q rest (a.put o.dst (.pointer (some ⟨g, 0, none⟩))) w1) : wpList P ops Q (o :: rest) a w :=
  wpList_want hgd fun K hK => by
    have := hK _ _ (h _ _ (S.add ty cs))
    subst hx
    unfold Oper.wp execOp
    simp only [ho, Sem.run_bind, Instr.box, newVar, newRow, run_newObj_alloc, Sem.run_pure, Result.andThen_ok]
    exact this
/-- the whole of it, read -/
theorem wpList_loadS (hgd : Region.wanted o (yielded ops a.tmps) = true) (ty : TypeId) (x : Operand) (ho : o.op = .load ty x) (S : Ats B w0 w L) (g : Nat) (hx : a.eval x = .pointer (some ⟨g, 0, none⟩)) (i : Nat) (t : TypeId) (cs : Array Value)
    (hi : L[i]? = some (g, t, cs)) (d : TypeDesc) (hu : P.underlying ty = some d) (hd : (match d with | .struct _ | .array _ _ => true | _ => false) = true) (hn : (P.info? ty).map (·.size) = some cs.size)
    (h : wpList P ops Q rest (a.put o.dst (.agg cs)) w) : wpList P ops Q (o :: rest) a w :=
  wpList_want hgd fun K hK => wp_load_row ty x ho g hx t cs (0, 0) d (S.get hi) hu hd hn (hK _ _ h)
/-- the whole of it, written -/
theorem wpList_storeS (hgd : Region.wanted o (yielded ops a.tmps) = true) (ty : TypeId) (x y : Operand) (ho : o.op = .store ty x y) (S : Ats B w0 w L) (g : Nat) (hx : a.eval x = .pointer (some ⟨g, 0, none⟩)) (cs' : Array Value) (hy : a.eval y = .agg cs') (i : Nat) (t : TypeId) (cs : Array Value)
    (hi : L[i]? = some (g, t, cs)) (hn : (P.info? ty).map (·.size) = some cs'.size) (hs : cs.size = cs'.size) (h1 : cs'.all (·.oneCell') = true)
    (h : ∀ w1, Ats B w0 w1 (L.set i (g, t, cs')) → wpList P ops Q rest (a.put o.dst undef) w1) : wpList P ops Q (o :: rest) a w :=
  wpList_want hgd fun K hK => wp_store_row ty x y ho g cs' hx hy t cs (S.get hi) hn hs h1 (hK _ _ (h _ (S.grow hi (grown_setRow w g cs') (setRow_heap w g cs cs' t (0, 0) (S.get hi)))))
/-- one cell of it, read -/
theorem wpList_cellS (hgd : Region.wanted o (yielded ops a.tmps) = true) (ty : TypeId) (x : Operand) (ho : o.op = .load ty x) (S : Ats B w0 w L) (g k : Nat) (hx : a.eval x = .pointer (some ⟨g, k, none⟩)) (i : Nat) (t : TypeId) (cs : Array Value)
    (hi : L[i]? = some (g, t, cs)) (d : TypeDesc) (hu : P.underlying ty = some d) (hd : (match d with | .struct _ | .array _ _ => false | _ => true) = true) (v : Value) (hv : cs[k]? = some v)
    (h : wpList P ops Q rest (a.put o.dst v) w) : wpList P ops Q (o :: rest) a w := by
  refine wpList_want hgd fun K hK => ?_
  have := hK _ _ h
  have hagg : (isAgg ty).run P w = .ok false w := by
    unfold isAgg
    rw [Sem.run_bind, run_underlying hu w]
    cases d <;> simp_all
  have hc : w.cell? ⟨g, k, none⟩ = some v := (S.get hi).cells k hv
  unfold Oper.wp execOp
  simp only [ho, hx, Instr.loadAt, Instr.sureAddr, loadVar, Sem.run_bind, Sem.run_pure, Result.andThen_ok, hagg, Bool.false_eq_true, if_false, run_load, hc, Oper.upon_value]
  exact this
/-- a cell that was there when the call began, read -/
theorem wpList_oldS (hgd : Region.wanted o (yielded ops a.tmps) = true) (ty : TypeId) (x : Operand) (ho : o.op = .load ty x) (S : Ats w0.heap.size w0 w L) (p : Addr) (hx : a.eval x = .pointer (some p)) (v : Value) (hv : w0.cell? p = some v)
    (d : TypeDesc) (hu : P.underlying ty = some d) (hd : (match d with | .struct _ | .array _ _ => false | _ => true) = true)
    (h : wpList P ops Q rest (a.put o.dst v) w) : wpList P ops Q (o :: rest) a w := by
  refine wpList_want hgd fun K hK => ?_
  have := hK _ _ h
  have hagg : (isAgg ty).run P w = .ok false w := by
    unfold isAgg
    rw [Sem.run_bind, run_underlying hu w]
    cases d <;> simp_all
  have hc : w.cell? p = some v := (S.below.cell (block_lt_of_cell hv)).trans hv
  unfold Oper.wp execOp
  simp only [ho, hx, Instr.loadAt, Instr.sureAddr, loadVar, Sem.run_bind, Sem.run_pure, Result.andThen_ok, hagg, Bool.false_eq_true, if_false, run_load, hc, Oper.upon_value]
  exact this
/-- one cell of it, written -/
theorem wpList_putS (hgd : Region.wanted o (yielded ops a.tmps) = true) (ty : TypeId) (x y : Operand) (ho : o.op = .store ty x y) (S : Ats B w0 w L) (g k : Nat) (hx : a.eval x = .pointer (some ⟨g, k, none⟩)) (v : Value) (hy : a.eval y = v) (hc1 : v.cells = #[v]) (h1 : v.oneCell' = true) (i : Nat) (t : TypeId) (cs : Array Value)
    (hi : L[i]? = some (g, t, cs)) (hn : (P.info? ty).map (·.size) = some 1) (hk : k < cs.size)
    (h : ∀ w1, Ats B w0 w1 (L.set i (g, t, cs.setIfInBounds k v)) → wpList P ops Q rest (a.put o.dst undef) w1) : wpList P ops Q (o :: rest) a w := by
  refine wpList_want hgd fun K hK => ?_
  have A := S.get hi
  have := hK _ _ (h _ (S.grow hi (grown_setCell w ⟨g, k, none⟩ v) (A.put k v)))
  have hc : w.cell? ⟨g, k, none⟩ = some cs[k] := A.cells k (by simp [hk])
  have hf := A.ice k
  have hst : (storeVar ty ⟨g, k, none⟩ v).run P w = .ok () (w.setCell ⟨g, k, none⟩ v) := by
    cases hq : P.info? ty with
    | none => simp [hq] at hn
    | some q =>
      have hs : q.size = 1 := by simpa [hq] using hn
      have := run_store P w ⟨g, k, none⟩ v .plain h1
      simp [storeVar, sizeOf, typeInfo, hq, hs, hc1, storeCells, Addr.add_zero', this, hc, hf]
  unfold Oper.wp execOp
  simp only [ho, hx, hy, Instr.storeAt, Instr.sureAddr, Sem.run_bind, Sem.run_pure, Result.andThen_ok, hst]
  exact this
end
/-- results that lie in a variable -/
theorem results_cell2S {P : Program} {B : Nat} {w0 w : World} {L : List (Nat × TypeId × Array Value)} {fn : Func} {p q : Tmp} {ty : TypeId} (h : fn.results = #[.cell p ty, .tmp q]) (tmps : Array Value) (S : Ats B w0 w L) (g i : Nat) (t : TypeId) (cs : Array Value) (d : TypeDesc)
    (hp : tmps.getD p undef = .pointer (some ⟨g, 0, none⟩)) (hi : L[i]? = some (g, t, cs))
    (hu : P.underlying ty = some d) (hd : (match d with | .struct _ | .array _ _ => true | _ => false) = true) (hn : (P.info? ty).map (·.size) = some cs.size) :
    (results fn tmps).run P w = .ok (.tuple #[.agg cs, tmps.getD q undef]) w := by
  have hp' : tmps[p]?.getD undef = .pointer (some ⟨g, 0, none⟩) := by simpa using hp
  simp [results, h, hp', asAddr, run_loadVar_row w g t ty cs (0, 0) d (S.get hi) hu hd hn]
theorem results_cellS {P : Program} {B : Nat} {w0 w : World} {L : List (Nat × TypeId × Array Value)} {fn : Func} {p : Tmp} {ty : TypeId} (h : fn.results = #[.cell p ty]) (tmps : Array Value) (S : Ats B w0 w L) (g i : Nat) (t : TypeId) (cs : Array Value) (d : TypeDesc)
    (hp : tmps.getD p undef = .pointer (some ⟨g, 0, none⟩)) (hi : L[i]? = some (g, t, cs))
    (hu : P.underlying ty = some d) (hd : (match d with | .struct _ | .array _ _ => true | _ => false) = true) (hn : (P.info? ty).map (·.size) = some cs.size) :
    (results fn tmps).run P w = .ok (.agg cs) w :=
  results_cell_row h tmps w g t cs (0, 0) d hp (S.get hi) hu hd hn
end Go.Proofs.Ytnoabmkmnddkkaa
namespace Go.Proofs.Ytnoabmkmnddkkaa
open Go.RowKit Go
set_option linter.unusedVariables false
theorem run_loadVar_part {P : Program} (w : World) (g k : Nat) (ty : TypeId) (part : List Value) (d : TypeDesc) (hc : ∀ (j : Nat) v, part[j]? = some v → w.cell? ⟨g, k + j, none⟩ = some v)
    (hu : P.underlying ty = some d) (hd : (match d with | .struct _ | .array _ _ => true | _ => false) = true) (hi : (P.info? ty).map (·.size) = some part.length) :
    (loadVar ty ⟨g, k, none⟩).run P w = .ok (.agg part.toArray) w := by
  have hl : (loadCells ⟨g, k, none⟩ part.length).run P w = .ok part.toArray w :=
    run_loadCells_list (P := P) w ⟨g, k, none⟩ part (fun j v hv => by
      have hadd : (⟨g, k, none⟩ : Addr).add j = ⟨g, k + j, none⟩ := by unfold Addr.add; split <;> simp_all
      rw [hadd]
      exact hc j v hv)
  cases hq : P.info? ty with
  | none => simp [hq] at hi
  | some i =>
    have hs : i.size = part.length := by simpa [hq] using hi
    have hagg : (isAgg ty).run P w = .ok true w := by
      unfold isAgg
      rw [Sem.run_bind, run_underlying hu w]
      cases d <;> simp_all
    simp [loadVar, Sem.run_bind, hagg, sizeOf, typeInfo, hq, hs, hl]
theorem wpList_partS {P : Program} {ops : Array Oper} {rest : List Oper} {o : Oper} {a : Act} {Q : Exit → Act → World → Prop} {B : Nat} {w0 w : World} {L : List (Nat × TypeId × Array Value)} (hgd : Region.wanted o (yielded ops a.tmps) = true) (ty : TypeId) (x : Operand) (ho : o.op = .load ty x) (S : Ats B w0 w L) (g k : Nat) (hx : a.eval x = .pointer (some ⟨g, k, none⟩)) (i : Nat) (t : TypeId) (cs : Array Value)
    (hi : L[i]? = some (g, t, cs)) (d : TypeDesc) (hu : P.underlying ty = some d) (hd : (match d with | .struct _ | .array _ _ => true | _ => false) = true) (part : List Value) (hn : (P.info? ty).map (·.size) = some part.length) (hc : ∀ (j : Nat) v, part[j]? = some v → cs[k + j]? = some v)
    (h : wpList P ops Q rest (a.put o.dst (.agg part.toArray)) w) : wpList P ops Q (o :: rest) a w := by
  refine wpList_want hgd fun K hK => ?_
  have := hK _ _ h
  have hr := run_loadVar_part (P := P) w g k ty part d (fun j v hv => (S.get hi).cells _ (hc j v hv)) hu hd hn
  unfold Oper.wp execOp
  simp only [ho, hx, Instr.loadAt, Instr.sureAddr, Sem.run_bind, Sem.run_pure, Result.andThen_ok, hr]
  exact this
end Go.Proofs.Ytnoabmkmnddkkaa
/- Rows of the call's own beside blocks that are known. -/
namespace Go.Proofs.Ytnoabmkmnddkkaa
open Go.RowKit Go
set_option linter.unusedVariables false
theorem Ats.of_below {B : Nat} {w0 w : World} (h : Below B w0 w) (hB : B ≤ w.heap.size) : Ats B w0 w [] := ⟨h, hB, fun x hx => by simp at hx, by simp⟩
theorem own_grown {w w' : World} {B e n : Nat} {v : Value} {xs : List Value} {row : Option Nat} (ho : w.ownsRow B e 1 v n xs) (hb : w.grownBy w' row) (hne : v.ownBlock ≠ row ∨ v.ownBlock = none) : w'.ownsRow B e 1 v n xs := by
  refine ⟨ho.1, ?_⟩
  rcases ho.2 with h0 | ⟨g', cap, cur, hv, hB, hg, hr⟩
  · exact .inl h0
  · refine .inr ⟨g', cap, cur, hv, hB, ?_, hr⟩
    have hlt : g' < w.heap.size := (Array.getElem?_eq_some_iff.1 hg).1
    rw [hb.block g' hlt ?_]
    · exact hg
    · intro e
      rw [hv] at hne
      rcases hne with hne | hne
      · exact hne (by simp [Value.ownBlock, e])
      · simp [Value.ownBlock] at hne
section
variable {P : Program} {ops : Array Oper} {rest : List Oper} {o : Oper} {a : Act} {Q : Exit → Act → World → Prop} {B : Nat} {w0 w : World} {L : List (Nat × TypeId × Array Value)}
/-- a new variable; the world goes on -/
theorem wpList_allocT (hgd : Region.wanted o (yielded ops a.tmps) = true) (ty : TypeId) (ho : o.op = .alloc ty) (z : Value) (hz : (P.info? ty).map (·.zero) = some (some z)) (S : Ats B w0 w L)
    (h : ∀ g w1, Ats B w0 w1 ((g, ty, z.cells) :: L) → Below w.heap.size w w1 → wpList P ops Q rest (a.put o.dst (.pointer (some ⟨g, 0, none⟩))) w1) : wpList P ops Q (o :: rest) a w := by
  refine wpList_want hgd fun K hK => ?_
  have := hK _ _ (h _ _ (S.add ty z.cells) ((Below.refl _ w).alloc (Nat.le_refl _) _))
  unfold Oper.wp execOp
  cases hq : P.info? ty with
  | none => simp [hq] at hz
  | some i =>
    have hzi : i.zero = some z := by simpa [hq] using hz
    simp only [ho, Sem.run_bind, Instr.alloc, zeroValue, typeInfo, newVar, newRow]
    simp [hq, hzi, Oper.upon_value, this]
/-- the whole of it, written; what else there is stays -/
theorem wpList_storeT (hgd : Region.wanted o (yielded ops a.tmps) = true) (ty : TypeId) (x y : Operand) (ho : o.op = .store ty x y) (S : Ats B w0 w L) (g : Nat) (hx : a.eval x = .pointer (some ⟨g, 0, none⟩)) (cs' : Array Value) (hy : a.eval y = .agg cs') (i : Nat) (t : TypeId) (cs : Array Value)
    (hi : L[i]? = some (g, t, cs)) (hn : (P.info? ty).map (·.size) = some cs'.size) (hs : cs.size = cs'.size) (h1 : cs'.all (·.oneCell') = true)
    (h : ∀ w1, Ats B w0 w1 (L.set i (g, t, cs')) → w.grownBy w1 (some g) → wpList P ops Q rest (a.put o.dst undef) w1) : wpList P ops Q (o :: rest) a w :=
  wpList_want hgd fun K hK => wp_store_row ty x y ho g cs' hx hy t cs (S.get hi) hn hs h1 (hK _ _ (h _ (S.grow hi (grown_setRow w g cs') (setRow_heap w g cs cs' t (0, 0) (S.get hi))) (grown_setRow w g cs')))
/-- 'out = append(out, x)' beside blocks of other types -/
theorem wpList_app1S {w1 : World} (hgd : o.guard = none) (s x : Operand) (t e : TypeId)
    (ho : o.op = .call { callee := .builtin .append, args := #[s, x], argTypes := #[t, t] }) (ht : P.underlying t = some (.slice e)) {z : Value} {bytes : Nat} (hI : Elem1 P e z bytes) (hzs : z.cells.size = 1)
    (base : Nat) (v : Value) (n : Nat) (xs : List Value) (u : Value) (hs : a.eval s = v) (hx : a.eval x = .slice (some ⟨w1.heap.size, 0, none⟩) 1 1) (hown : w1.ownsRow base e 1 v n xs) (S : Ats B w0 w1 L) (hne : ∀ y ∈ L, e ≠ y.2.1) (hBb : B ≤ base)
    (hu : u.oneCell' = true) (hb : (n + 1) * bytes ≤ 140737488355328) (hn : n + 1 ≤ 140737488355328) (hbase : base ≤ w1.heap.size)
    (h : ∀ v' w', w'.ownsRow base e 1 v' (n + 1) (xs ++ [u]) → Ats B w0 w' L → wpList P ops Q rest (a.put o.dst v') w') : wpList P ops Q (o :: rest) a (w1.alloc (.cells #[u] e)) := by
  obtain ⟨i, hi, hz, h1, h2⟩ := info_parts hI
  refine wpList_append_own (w1.alloc (.cells #[u] e)) hgd s x t ho base e i z 1 bytes ht hi hz h1 h2 hzs (by decide) v n xs hs (hown.alloc _) ⟨w1.heap.size, 0, none⟩ 1 1 [u] hx rfl ?_ ?_ ?_ hb ?_ ?_
  · intro j y hj
    match j, hj with
    | 0, hj => simp at hj; subst hj; simp [Addr.add]
  · intro y hy; simp at hy; subst hy; exact hu
  · unfold maxLen; omega
  · simp; omega
  · intro v' w' hown' hgrow hnil
    refine h v' w' hown' ?_
    have Sa := S.add e #[u]
    refine ⟨S.below.trans ?_, ?_, fun y hy => ⟨(S.at_ y hy).1, ?_⟩, S.apart⟩
    · refine ((Below.refl B w1).alloc S.big _).grown hgrow (by simp; have := S.big; omega) (fun k hk => ?_)
      exact Nat.le_trans hBb (hown.lt k hk).1
    · have := hgrow.size
      simp at this
      have := S.big
      omega
    · exact ((S.at_ y hy).2.alloc _).grown hgrow ((S.at_ y hy).2.own_ne hown (hne y hy))
end
end Go.Proofs.Ytnoabmkmnddkkaa
