/- Texts behind a law of this seat, in order: Rec4, Rec5, Rec6, Law13, Law13b, Rec7. -/
import Derived.Test.YtnoabmkmnddkkaaPa
import Derived.Test.YtnoabmkmnddkkaaPb
import Derived.Test.YtnoabmkmnddkkaaPc
import Derived.Test.YtnoabmkmnddkkaaPd
import Derived.Test.YtnoabmkmnddkkaaPe
import Derived.Test.YtnoabmkmnddkkaaPf
import Derived.Test.YtnoabmkmnddkkaaPg
import Derived.Test.YtnoabmkmnddkkaaPh
import Derived.Test.YtnoabmkmnddkkaaPi
import Derived.Test.YtnoabmkmnddkkaaPj
import Derived.Test.YtnoabmkmnddkkaaPk
import Derived.Test.YtnoabmkmnddkkaaPl
import Derived.Test.YtnoabmkmnddkkaaPm
import Derived.Test.YtnoabmkmnddkkaaPn
import Derived.Test.YtnoabmkmnddkkaaPo
import Derived.Test.YtnoabmkmnddkkaaPy
import Derived.Test.YtnoabmkmnddkkaaPz
import Derived.Test.YtnoabmkmnddkkaaQa
import Derived.Test.YtnoabmkmnddkkaaQb
import Derived.Test.YtnoabmkmnddkkaaQc
import Derived.Test.YtnoabmkmnddkkaaQd
import Derived.Below
import Derived.BigQuiet
import Derived.BigRegion
import Derived.ChangeSlices
import Derived.Deep.AppendLies
import Derived.Deep.Draws
import Derived.Deep.Quiet
import Derived.Deep.QuietTactic
import Derived.Deep.RegionLaw
import Derived.Deep.Slices
import Derived.Great.Ranges
import Derived.Handed
import Derived.Handy
import Derived.Laws.CopyRow
import Derived.Laws.OwnMore
import Derived.Laws.Rows
import Derived.Laws.StructEq
import Derived.Lib.Hide
import Derived.Lib.ItoaNum
import Derived.Lib.Split
import Derived.Lib.SplitLaws
import Derived.Lib.Strings
import Derived.Maps.OwnSet
import Derived.OpenShut
import Derived.SizedLaws
import Derived.SliceStrings
import Derived.StillTailTactics
import Derived.Stop.BytesEq
import Derived.Test.YtnoabmkmnddkkaaProg
import Derived.WalkKit
import Derived.WalkLawsBesides
import Derived.WalkSpells
/- Layer 13: the parts' clear; rdata.parts. -/
namespace Go.Proofs.Ytnoabmkmnddkkaa
open Go.RowKit Go
set_option linter.unusedVariables false
set_option linter.unusedSimpArgs false
set_option maxRecDepth 100000
theorem run_storeVar_at {P : Program} (w : World) (g k : Nat) (t ty : TypeId) (old : Array Value) (part : List Value) (hg : w.heap[g]? = some (.cells old t (0, 0))) (hi : (P.info? ty).map (·.size) = some part.length)
    (hfit : k + part.length ≤ old.size) (h1 : ∀ v ∈ part, v.oneCell' = true) :
    (storeVar ty ⟨g, k, none⟩ (.agg part.toArray)).run P w = .ok () (w.setRow g (old.toList.take k ++ part ++ old.toList.drop (k + part.length)).toArray) := by
  have := run_storeCells_at P g k t part 0 old w hg (by simpa using hfit) h1
  simp only [Nat.add_zero] at this
  cases hq : P.info? ty with
  | none => simp [hq] at hi
  | some i =>
    have hs : part.length = i.size := by simp [hq] at hi; omega
    simp [storeVar, sizeOf, typeInfo, hq, Value.cells, hs, this]
/-- a part of a block, written whole -/
theorem wpList_storePartS {P : Program} {ops : Array Oper} {rest : List Oper} {o : Oper} {a : Act} {Q : Exit → Act → World → Prop} {B : Nat} {w0 w : World} {L : List (Nat × TypeId × Array Value)} (hgd : Region.wanted o (yielded ops a.tmps) = true) (ty : TypeId) (x y : Operand) (ho : o.op = .store ty x y) (S : Ats B w0 w L) (g k : Nat) (hx : a.eval x = .pointer (some ⟨g, k, none⟩)) (part : List Value) (hy : a.eval y = .agg part.toArray) (i : Nat) (t : TypeId) (cs : Array Value)
    (hi : L[i]? = some (g, t, cs)) (hn : (P.info? ty).map (·.size) = some part.length) (hfit : k + part.length ≤ cs.size) (h1 : ∀ v ∈ part, v.oneCell' = true)
    (h : ∀ w1, Ats B w0 w1 (L.set i (g, t, (cs.toList.take k ++ part ++ cs.toList.drop (k + part.length)).toArray)) → wpList P ops Q rest (a.put o.dst undef) w1) : wpList P ops Q (o :: rest) a w :=
  wpList_want hgd fun K hK => by
    have := hK _ _ (h _ (S.grow hi (grown_setRow w g _) (setRow_heap w g cs _ t (0, 0) (S.get hi))))
    unfold Oper.wp execOp
    simp only [ho, hx, hy, Instr.storeAt, Instr.sureAddr, Sem.run_bind, Sem.run_pure, Result.andThen_ok, run_storeVar_at w g k t ty cs part (S.get hi) hn hfit h1]
    exact this
section
variable {B : Nat} {w0 w : World} {g : Nat} {R : Rc Nm} {M : List (Nat × TypeId × Array Value)}
theorem rawClear_any (hip : R.ip.length = 16) (S : Ats B w0 w ((g, 34, rcC R) :: M)) : Calls Try.prog 41 #[ptA g .raw] w fun e w' => e = .returned (.tuple #[]) ∧ Ats B w0 w' ((g, 34, rcC (clrP nilN R .raw)) :: M) := by
  have b0 : (#[.pointer (some ⟨g, 32, none⟩)] : Array Value)[0]? = some (.pointer (some ⟨g, 32, none⟩)) := rfl
  have hs := rc_size hip
  have HP := Lib.hid (rc_put_raw hip [])
  obtain ⟨x, hx⟩ : ∃ x, x = rcC R := ⟨_, rfl⟩
  rw [← hx] at S hs HP
  have HS := Lib.hid hs
  clear hx hs hip
  go_enter Try.func41, Try.ntmps41
  go_wp2_with (first
    | ((with_reducible show wpList _ _ _ (Oper.mk _ (Op.box _ _) _ _ _ _ :: _) _ _); refine wpList_boxS rfl _ _ rfl #[.pointer (some ⟨g, 32, none⟩)] rfl S ?_; clear S; intro gb w1 S)
    | ((with_reducible show wpList _ _ _ (Oper.mk _ (Op.load _ _) _ _ _ _ :: _) _ _); refine wpList_cellS rfl _ _ rfl S _ _ rfl 0 _ _ rfl _ Try.underlying60 rfl _ (by with_reducible exact b0) ?_)
    | ((with_reducible show wpList _ _ _ (Oper.mk _ (Op.store _ (Operand.tmp 4) _) _ _ _ _ :: _) _ _); refine wpList_putS rfl _ _ _ rfl S _ _ rfl _ rfl rfl rfl 1 _ _ rfl strInfo1 (by rw [HS.out]; decide) ?_; clear S; intro w1 S; (first | simp only [List.set_cons_zero] at S | simp only [List.set_cons_succ, List.set_cons_zero] at S | skip)))
  go_returns
  refine ⟨rfl, ?_⟩
  have S2 : Ats B w0 w1 ((gb, 62, #[.pointer (some ⟨g, 32, none⟩)]) :: (g, 34, x.setIfInBounds 32 (.string ⟨([] : List UInt8).toArray⟩)) :: M) := S
  rw [HP.out] at S2
  exact S2.drop (List.sublist_cons_self _ _)
theorem numClear_any (hip : R.ip.length = 16) (k wd : Nat) (hk : k < 8) (S : Ats B w0 w ((g, 34, rcC R) :: M)) : Calls Try.prog 80 #[ptA g (.num k wd)] w fun e w' => e = .returned (.tuple #[]) ∧ Ats B w0 w' ((g, 34, rcC (clrP nilN R (.num k wd))) :: M) := by
  have HP := Lib.hid (rc_put_nu hip 0 k hk)
  have hs := rc_size hip
  obtain ⟨o, ho⟩ : ∃ o, o = 24 + k := ⟨_, rfl⟩
  have hlt : o < 33 := by omega
  show Calls Try.prog _ #[.agg #[.pointer (some ⟨g, 24 + k, none⟩), .int .i64 wd]] w fun e w' => e = .returned (.tuple #[]) ∧ Ats B w0 w' ((g, 34, rcC { R with nu := upd R.nu k 0 }) :: M)
  rw [← ho] at HP ⊢
  obtain ⟨x, hx⟩ : ∃ x, x = rcC R := ⟨_, rfl⟩
  rw [← hx] at S hs HP
  have HS := Lib.hid (show o < x.size by rw [hs]; exact hlt)
  have b0 : (#[.pointer (some ⟨g, o, none⟩), .int .i64 wd] : Array Value)[0]? = some (.pointer (some ⟨g, o, none⟩)) := rfl
  clear hx hs hip ho hk hlt
  go_enter Try.func80, Try.ntmps80
  go_wp2_with (first
    | ((with_reducible show wpList _ _ _ (Oper.mk _ (Op.box _ _) _ _ _ _ :: _) _ _); refine wpList_boxS rfl _ _ rfl #[.pointer (some ⟨g, o, none⟩), .int .i64 wd] rfl S ?_; clear S; intro gb w1 S)
    | ((with_reducible show wpList _ _ _ (Oper.mk _ (Op.load _ _) _ _ _ _ :: _) _ _); refine wpList_cellS rfl _ _ rfl S _ _ rfl 0 _ _ rfl _ Try.underlying69 rfl _ (by with_reducible exact b0) ?_)
    | ((with_reducible show wpList _ _ _ (Oper.mk _ (Op.store _ (Operand.tmp 4) _) _ _ _ _ :: _) _ _); refine wpList_putS rfl _ _ _ rfl S _ _ rfl _ rfl rfl rfl 1 _ _ rfl intInfo1 (by exact HS.out) ?_; clear S; intro w1 S; (first | simp only [List.set_cons_zero] at S | simp only [List.set_cons_succ, List.set_cons_zero] at S | skip)))
  go_returns
  refine ⟨rfl, ?_⟩
  rw [← HP.out]
  exact S.drop (List.sublist_cons_self _ _)
theorem nameClear_any (hip : R.ip.length = 16) (k : Nat) (b : Bool) (hk : k = 1 ∨ k = 2) (S : Ats B w0 w ((g, 34, rcC R) :: M)) : Calls Try.prog 54 #[ptA g (.nam k b)] w fun e w' => e = .returned (.tuple #[]) ∧ Ats B w0 w' ((g, 34, rcC (clrP nilN R (.nam k b))) :: M) := by
  have HP := Lib.hid (rc_put_nm hip nilN k hk)
  have hs := rc_size hip
  obtain ⟨o, ho⟩ : ∃ o, o = 21 + k := ⟨_, rfl⟩
  have hlt : o < 33 := by omega
  show Calls Try.prog _ #[.agg #[.pointer (some ⟨g, 21 + k, none⟩), .bool b]] w fun e w' => e = .returned (.tuple #[]) ∧ Ats B w0 w' ((g, 34, rcC { R with nm := upd R.nm k nilN }) :: M)
  rw [← ho] at HP ⊢
  obtain ⟨x, hx⟩ : ∃ x, x = rcC R := ⟨_, rfl⟩
  rw [← hx] at S hs HP
  have HS := Lib.hid (show o < x.size by rw [hs]; exact hlt)
  have b0 : (#[.pointer (some ⟨g, o, none⟩), .bool b] : Array Value)[0]? = some (.pointer (some ⟨g, o, none⟩)) := rfl
  clear hx hs hip ho hk hlt
  go_enter Try.func54, Try.ntmps54
  go_wp2_with (first
    | ((with_reducible show wpList _ _ _ (Oper.mk _ (Op.box _ _) _ _ _ _ :: _) _ _); refine wpList_boxS rfl _ _ rfl #[.pointer (some ⟨g, o, none⟩), .bool b] rfl S ?_; clear S; intro gb w1 S)
    | ((with_reducible show wpList _ _ _ (Oper.mk _ (Op.load _ _) _ _ _ _ :: _) _ _); refine wpList_cellS rfl _ _ rfl S _ _ rfl 0 _ _ rfl _ Try.underlying66 rfl _ (by with_reducible exact b0) ?_)
    | ((with_reducible show wpList _ _ _ (Oper.mk _ (Op.store _ (Operand.tmp 4) _) _ _ _ _ :: _) _ _); refine wpList_putS rfl _ _ _ rfl S _ _ rfl _ rfl rfl rfl 1 _ _ rfl nameInfo1 (by exact HS.out) ?_; clear S; intro w1 S; (first | simp only [List.set_cons_zero] at S | simp only [List.set_cons_succ, List.set_cons_zero] at S | skip)))
  go_returns
  refine ⟨rfl, ?_⟩
  rw [← HP.out]
  exact S.drop (List.sublist_cons_self _ _)
theorem adCs_oneL (f : Int) (ip : List UInt8) (z : Int) : ∀ v ∈ adCs f ip z, v.oneCell' = true := by
  simpa using adCs_one f ip z
theorem adClear_any (hip : R.ip.length = 16) (f : Int) (S : Ats B w0 w ((g, 34, rcC R) :: M)) : Calls Try.prog 46 #[ptA g (.adr f)] w fun e w' => e = .returned (.tuple #[]) ∧ Ats B w0 w' ((g, 34, rcC (clrP nilN R (.adr f))) :: M) := by
  have HP := Lib.hid (rc_put_ad hip 0 0 zero16 rfl)
  have hs := rc_size hip
  show Calls Try.prog _ #[.agg #[.pointer (some ⟨g, 4, none⟩), .int .i64 f]] w fun e w' => e = .returned (.tuple #[]) ∧ Ats B w0 w' ((g, 34, rcC { R with fam := 0, ip := zero16, zn := 0 }) :: M)
  obtain ⟨x, hx⟩ : ∃ x, x = rcC R := ⟨_, rfl⟩
  rw [← hx] at S hs HP
  have HS := Lib.hid (show 4 + (adCs 0 zero16 0).length ≤ x.size by rw [hs]; decide)
  have b0 : (#[.pointer (some ⟨g, 4, none⟩), .int .i64 f] : Array Value)[0]? = some (.pointer (some ⟨g, 4, none⟩)) := rfl
  clear hx hs hip
  go_enter Try.func46, Try.ntmps46
  go_wp2_with (first
    | ((with_reducible show wpList _ _ _ (Oper.mk _ (Op.box _ _) _ _ _ _ :: _) _ _); refine wpList_boxS rfl _ _ rfl #[.pointer (some ⟨g, 4, none⟩), .int .i64 f] rfl S ?_; clear S; intro gb w1 S)
    | ((with_reducible show wpList _ _ _ (Oper.mk _ (Op.load _ _) _ _ _ _ :: _) _ _); refine wpList_cellS rfl _ _ rfl S _ _ rfl 0 _ _ rfl _ Try.underlying63 rfl _ (by with_reducible exact b0) ?_)
    | ((with_reducible show wpList _ _ _ (Oper.mk _ (Op.store _ _ _) _ _ _ _ :: _) _ _); refine wpList_storePartS rfl _ _ _ rfl S _ _ rfl (adCs 0 zero16 0) rfl 1 _ _ rfl (by rw [adInfo]; rfl) HS.out (adCs_oneL _ _ _) ?_; clear S; intro w1 S; simp only [List.set_cons_succ, List.set_cons_zero] at S))
  go_returns
  refine ⟨rfl, ?_⟩
  rw [← HP.out]
  exact S.drop (List.sublist_cons_self _ _)
end
/-- what parts answers: a row of so many -/
def PartsP (w : World) (g : Nat) (ps : List Pt) (e : Ending) (w' : World) : Prop :=
  ∃ gp c cs, e = .returned (.slice (some ⟨gp, 0, none⟩) ps.length c) ∧ w.heap.size ≤ gp ∧ At w' gp 52 cs ∧ (∀ j (h : j < ps.length), cs[j]? = some (ptV g ps[j])) ∧ Below w.heap.size w w'
theorem partsP_lit {w wd : World} {g : Nat} {ps : List Pt} {cs : Array Value} (hcs : cs = (ps.map (ptV g)).toArray) (hb : Below w.heap.size w wd) :
    PartsP w g ps (.returned (.slice (some ⟨wd.heap.size, 0, none⟩) ps.length ps.length)) (wd.alloc (.cells cs 52)) := by
  refine ⟨_, _, cs, rfl, hb.size, At.new _ _ _, fun j h => ?_, hb.trans ((below_new wd _).mono hb.size)⟩
  rw [hcs]
  simp [List.getElem?_eq_getElem h]
end Go.Proofs.Ytnoabmkmnddkkaa
/- Layer 13: rdata.parts. -/
namespace Go.Proofs.Ytnoabmkmnddkkaa
open Go.RowKit Go
set_option linter.unusedVariables false
set_option linter.unusedSimpArgs false
set_option maxRecDepth 100000
theorem below_drew (w : World) : Below w.heap.size w w.drew := (Below.refl _ _).drew
theorem elemPart : Elem1 Try.prog 52 .nilIface 16 := by unfold Elem1; kernel_rfl
theorem own_two (w : World) (a b : Value) (e : TypeId) (B : Nat) (hB : B ≤ w.heap.size) : (w.alloc (.cells #[a, b] e)).ownsRow B e 1 (.slice (some ⟨w.heap.size, 0, none⟩) 2 2) 2 [a, b] :=
  ⟨rfl, .inr ⟨_, 2, #[a, b], rfl, hB, heap_alloc_new w _, Nat.le_refl _, by decide, rfl, rfl⟩⟩
theorem partsP_own {w w' : World} {g : Nat} {ps : List Pt} {v : Value} (h0 : 0 < ps.length) (ho : w'.ownsRow w.heap.size 52 1 v ps.length (ps.map (ptV g))) (hb : Below w.heap.size w w') : PartsP w g ps (.returned v) w' := by
  rcases ho.2 with ⟨_, h1⟩ | ⟨gp, c, cs, rfl, hB, hg, _, _, _, hr⟩
  · omega
  · refine ⟨gp, c, cs, rfl, hB, hg, fun j hj => ?_, hb⟩
    have : (cs.toList.take (ps.length * 1))[j]? = (ps.map (ptV g))[j]? := by rw [hr]
    rw [Nat.mul_one, List.getElem?_take_of_lt hj] at this
    rw [← Array.getElem?_toList, this]
    simp [List.getElem?_eq_getElem hj]
def soaL : List Pt := [.nam 1 true, .nam 2 true, .num 3 4, .num 4 4, .num 5 4, .num 6 4, .num 7 4]
section
variable {R : Rc Nm} {g : Nat} {w : World} (h : At w g 34 (rcC R))
include h
theorem parts_raw (hc : R.cl ≠ 1) : Calls Try.prog 13 #[.pointer (some ⟨g, 0, none⟩)] w (PartsP w g [.raw]) := by
  have c1 := h.cells 1 rc_ty
  have c2 := h.cells 2 rc_cl
  have t1 : (R.cl != 1) = true := by simpa using hc
  generalize R.cl = cl at c2 t1
  clear hc h c1
  go_enter Try.func13, Try.ntmps13
  go_wp2
  go_ret
  exact partsP_lit (ps := [.raw]) rfl (Below.refl _ _)
theorem parts_one (p : Pt) (hc : R.cl = 1) (hp : (R.ty = 1 ∧ p = .adr 4) ∨ (R.ty = 28 ∧ p = .adr 6) ∨ (R.ty = 5 ∧ p = .nam 1 true) ∨ (R.ty = 12 ∧ p = .nam 1 true)) : Calls Try.prog 13 #[.pointer (some ⟨g, 0, none⟩)] w (PartsP w g [p]) := by
  have c1 := h.cells 1 rc_ty
  have c2 := h.cells 2 rc_cl
  rw [hc] at c2
  rcases hp with ⟨ht, rfl⟩ | ⟨ht, rfl⟩ | ⟨ht, rfl⟩ | ⟨ht, rfl⟩
  all_goals
    rw [ht] at c1
    clear hc h ht
    go_enter Try.func13, Try.ntmps13
    go_wp2
    go_ret
    exact partsP_lit (ps := [_]) rfl (Below.refl _ _)
theorem parts_else (hc : R.cl = 1) (h1 : R.ty ≠ 1) (h2 : R.ty ≠ 28) (h3 : R.ty ≠ 5) (h4 : R.ty ≠ 12) (h5 : R.ty ≠ 33) (h6 : R.ty ≠ 6) : Calls Try.prog 13 #[.pointer (some ⟨g, 0, none⟩)] w (PartsP w g [.raw]) := by
  have c1 := h.cells 1 rc_ty
  have c2 := h.cells 2 rc_cl
  rw [hc] at c2
  have t1 : (R.ty == 1) = false := by simpa using h1
  have t2 : (R.ty == 28) = false := by simpa using h2
  have t3 : (R.ty == 5) = false := by simpa using h3
  have t4 : (R.ty == 12) = false := by simpa using h4
  have t5 : (R.ty == 33) = false := by simpa using h5
  have t6 : (R.ty == 6) = false := by simpa using h6
  generalize R.ty = ty at c1 t1 t2 t3 t4 t5 t6
  clear hc h h1 h2 h3 h4 h5 h6
  go_enter Try.func13, Try.ntmps13
  go_wp2
  go_ret
  exact partsP_lit (ps := [.raw]) rfl (Below.refl _ _)
theorem parts_srv (hc : R.cl = 1) (ht : R.ty = 33) : Calls Try.prog 13 #[.pointer (some ⟨g, 0, none⟩)] w (PartsP w g [.num 0 2, .num 1 2, .num 2 2, .nam 1 false]) := by
  have c1 := h.cells 1 rc_ty
  have c2 := h.cells 2 rc_cl
  rw [hc] at c2
  rw [ht] at c1
  clear hc h ht
  go_enter Try.func13, Try.ntmps13
  go_wp2
  refine wp_region_still_tail 20 (by kernel_rfl) (by kernel_rfl) ?_
  simp only [List.take_succ_cons, List.take_zero, List.drop_succ_cons, List.drop_zero]
  repeat still_step
  refine wpStill_nil ?_
  change wpList _ _ _ _ _ w.drew
  go_wp2
  go_ret
  exact partsP_lit (w := w) (wd := w.drew) (ps := [.num 0 2, .num 1 2, .num 2 2, .nam 1 false]) rfl (below_drew w)
theorem parts_soa (hc : R.cl = 1) (ht : R.ty = 6) : Calls Try.prog 13 #[.pointer (some ⟨g, 0, none⟩)] w (PartsP w g [.nam 1 true, .nam 2 true, .num 3 4, .num 4 4, .num 5 4, .num 6 4, .num 7 4]) := by
  have c1 := h.cells 1 rc_ty
  have c2 := h.cells 2 rc_cl
  rw [hc] at c2
  rw [ht] at c1
  clear hc h ht
  go_enter Try.func13, Try.ntmps13
  go_wp2
  refine wp_region_still_tail 10 (by kernel_rfl) (by kernel_rfl) ?_
  simp only [List.take_succ_cons, List.take_zero, List.drop_succ_cons, List.drop_zero]
  repeat still_step
  refine wpStill_nil ?_
  change wpList _ _ _ _ _ w.drew
  have h2 : (w.drew.alloc (.cells #[ptV g (.nam 1 true), ptV g (.nam 2 true)] 52)).ownsRow w.heap.size 52 1 (.slice (some ⟨w.heap.size, 0, none⟩) 2 2) 2 [ptV g (.nam 1 true), ptV g (.nam 2 true)] := own_two w.drew _ _ _ _ (Nat.le_refl _)
  have hb2 : Below w.heap.size w (w.drew.alloc (.cells #[ptV g (.nam 1 true), ptV g (.nam 2 true)] 52)) := bl (below_drew w) (below_new w.drew _)
  have H2 := Lib.hid h2
  have HB2 := Lib.hid hb2
  clear h2 hb2
  go_wp2_with fail
  go_loopw [3, 81] (fun v i wr => ∃ k : Nat, k ≤ 5 ∧ i = .int .i64 k ∧ wr.ownsRow w.heap.size 52 1 v (2 + k) ((soaL.take (2 + k)).map (ptV g)) ∧ Below w.heap.size w wr) (fun _ i _ => 5 - (intOf i).toNat)
  case atStart => exact ⟨0, by omega, rfl, H2.out, HB2.out⟩
  case round =>
    clear H2 HB2
    obtain ⟨k, hk, rfl, hown, hbw⟩ := hrel
    have hsz := hbw.size
    match k, hk with
    | 0, _ => 
      go_wp2_with ((with_reducible show wpList _ _ _ (Oper.mk (some 93) _ _ _ _ _ :: _) _ _); refine wpList_app1 rfl (.tmp 84) (.tmp 92) 48 52 rfl Try.underlying48 elemPart rfl w.heap.size _ _ _ (ptV g (.num 3 4)) rfl rfl hown rfl (by decide) (by decide) hsz ?_; intro v2 w2 hown2 hb2 _)
      go_roundw
      case rel => exact ⟨1, by decide, rfl, hown2, hbw.trans hb2⟩
      case measure => decide
    | 1, _ => 
      go_wp2_with ((with_reducible show wpList _ _ _ (Oper.mk (some 93) _ _ _ _ _ :: _) _ _); refine wpList_app1 rfl (.tmp 84) (.tmp 92) 48 52 rfl Try.underlying48 elemPart rfl w.heap.size _ _ _ (ptV g (.num 4 4)) rfl rfl hown rfl (by decide) (by decide) hsz ?_; intro v2 w2 hown2 hb2 _)
      go_roundw
      case rel => exact ⟨2, by decide, rfl, hown2, hbw.trans hb2⟩
      case measure => decide
    | 2, _ => 
      go_wp2_with ((with_reducible show wpList _ _ _ (Oper.mk (some 93) _ _ _ _ _ :: _) _ _); refine wpList_app1 rfl (.tmp 84) (.tmp 92) 48 52 rfl Try.underlying48 elemPart rfl w.heap.size _ _ _ (ptV g (.num 5 4)) rfl rfl hown rfl (by decide) (by decide) hsz ?_; intro v2 w2 hown2 hb2 _)
      go_roundw
      case rel => exact ⟨3, by decide, rfl, hown2, hbw.trans hb2⟩
      case measure => decide
    | 3, _ => 
      go_wp2_with ((with_reducible show wpList _ _ _ (Oper.mk (some 93) _ _ _ _ _ :: _) _ _); refine wpList_app1 rfl (.tmp 84) (.tmp 92) 48 52 rfl Try.underlying48 elemPart rfl w.heap.size _ _ _ (ptV g (.num 6 4)) rfl rfl hown rfl (by decide) (by decide) hsz ?_; intro v2 w2 hown2 hb2 _)
      go_roundw
      case rel => exact ⟨4, by decide, rfl, hown2, hbw.trans hb2⟩
      case measure => decide
    | 4, _ => 
      go_wp2_with ((with_reducible show wpList _ _ _ (Oper.mk (some 93) _ _ _ _ _ :: _) _ _); refine wpList_app1 rfl (.tmp 84) (.tmp 92) 48 52 rfl Try.underlying48 elemPart rfl w.heap.size _ _ _ (ptV g (.num 7 4)) rfl rfl hown rfl (by decide) (by decide) hsz ?_; intro v2 w2 hown2 hb2 _)
      go_roundw
      case rel => exact ⟨5, by decide, rfl, hown2, hbw.trans hb2⟩
      case measure => decide
    | 5, _ =>
      have HO := Lib.hid hown
      have HBW := Lib.hid hbw
      clear hown hbw
      go_wp2_with fail
      go_ret
      exact partsP_own (ps := soaL) (by decide) HO.out HBW.out
end
theorem parts_any {R : Rc Nm} {g : Nat} {w : World} (h : At w g 34 (rcC R)) : Calls Try.prog 13 #[.pointer (some ⟨g, 0, none⟩)] w (PartsP w g (rParts R.ty R.cl)) := by
  unfold rParts
  by_cases hc : R.cl = 1
  · rw [if_neg (by simpa using hc)]
    by_cases h1 : R.ty = 1
    · rw [if_pos h1]; exact parts_one h _ hc (.inl ⟨h1, rfl⟩)
    · rw [if_neg h1]
      by_cases h2 : R.ty = 28
      · rw [if_pos h2]; exact parts_one h _ hc (.inr (.inl ⟨h2, rfl⟩))
      · rw [if_neg h2]
        by_cases h3 : R.ty = 5
        · rw [if_pos (.inl h3)]; exact parts_one h _ hc (.inr (.inr (.inl ⟨h3, rfl⟩)))
        · by_cases h4 : R.ty = 12
          · rw [if_pos (.inr h4)]; exact parts_one h _ hc (.inr (.inr (.inr ⟨h4, rfl⟩)))
          · rw [if_neg (fun e => e.elim h3 h4)]
            by_cases h5 : R.ty = 33
            · rw [if_pos h5]; exact parts_srv h hc h5
            · rw [if_neg h5]
              by_cases h6 : R.ty = 6
              · rw [if_pos h6]; exact parts_soa h hc h6
              · rw [if_neg h6]; exact parts_else h hc h1 h2 h3 h4 h5 h6
  · rw [if_pos hc]; exact parts_raw h hc
end Go.Proofs.Ytnoabmkmnddkkaa
namespace Go.Proofs.Ytnoabmkmnddkkaa
open Go.RowKit Go
set_option linter.unusedVariables false
set_option linter.unusedSimpArgs false
set_option maxRecDepth 100000
theorem nums_eql (a b c d e a' b' c' d' e' : Int) (w : World) : (binOp .eql 32 (.agg #[.int .i64 a, .int .i64 b, .int .i64 c, .int .i64 d, .int .i64 e]) (.agg #[.int .i64 a', .int .i64 b', .int .i64 c', .int .i64 d', .int .i64 e'])).run Try.prog w = .ok (.bool (a == a' && b == b' && c == c' && d == d' && e == e')) w := by
  rw [run_eql_struct, show (10000 : Nat) = 9998 + 2 from rfl, Op.equalIn]
  have u := Try.underlying3
  have ag := Try.isAgg3
  have s := Try.sizeOf3
  have ei := fun x y : Int => run_equalIn_int (P := Try.prog) w 9998 3 .i64 .i64 x y Try.underlying3
  simp only [Sem.run_bind, run_underlying Try.underlying32, Result.andThen_ok, s, Std.Legacy.Range.forIn_eq_forIn_range', Std.Legacy.Range.size, Nat.sub_zero, Nat.add_sub_cancel, Nat.div_one]
  cases h1 : (a == a')
  · simp [List.range', List.forIn_cons, part, ag, ei, h1, Result.andThen]
  · cases h2 : (b == b')
    · simp [List.range', List.forIn_cons, part, ag, ei, h1, h2, Result.andThen]
    · cases h3 : (c == c')
      · simp [List.range', List.forIn_cons, part, ag, ei, h1, h2, h3, Result.andThen]
      · cases h4 : (d == d')
        · simp [List.range', List.forIn_cons, part, ag, ei, h1, h2, h3, h4, Result.andThen]
        · cases h5 : (e == e')
          · simp [List.range', List.forIn_cons, part, ag, ei, h1, h2, h3, h4, h5, Result.andThen]
          · simp [List.range', List.forIn_cons, part, ag, ei, h1, h2, h3, h4, h5, Result.andThen]
theorem nums_guard (op : BinOp) (x y : Operand) (xs ys : Array Value) (w : World) : (eqGuard op 32 x y (.agg xs) (.agg ys)).run Try.prog w = .ok () w :=
  run_eqGuard_agg w op 32 x y xs ys (by kernel_rfl)
/-- a record whose address has its bytes, and whose names lie there and are few -/
def RcOk (W : World) (R : Rc Nm) : Prop := R.ip.length = 16 ∧ ∀ k, k = 1 ∨ k = 2 → TextsAt W (R.nm k).A (R.nm k).n (R.nm k).l ∧ sizeL (R.nm k).l ≤ 401
theorem RcOk.clr {W : World} {R : Rc Nm} (h : RcOk W R) (p : Pt) : RcOk W (clrP nilN R p) := by
  cases p with
  | raw => exact h
  | adr f => exact ⟨rfl, h.2⟩
  | num k w => exact h
  | nam k b =>
    refine ⟨h.1, fun j hj => ?_⟩
    show TextsAt W (upd R.nm k nilN j).A (upd R.nm k nilN j).n (upd R.nm k nilN j).l ∧ sizeL (upd R.nm k nilN j).l ≤ 401
    unfold upd
    split
    · exact ⟨textsAt_nil W, by decide⟩
    · exact h.2 j hj
theorem clr_tx (R : Rc Nm) (p : Pt) : (clrP nilN R p).tx = clrP [] R.tx p := by
  cases p with
  | raw => rfl
  | adr f => rfl
  | num k w => rfl
  | nam k b =>
    have : (fun j => (upd R.nm k nilN j).l) = upd (fun j => (R.nm j).l) k [] := by
      funext j
      unfold upd
      split <;> rfl
    show ({ R with nm := fun j => (upd R.nm k nilN j).l } : Rc Lbs) = { R with nm := upd (fun j => (R.nm j).l) k [] }
    rw [this]
theorem Ats.swap {B : Nat} {w0 w : World} {a b : Nat × TypeId × Array Value} {M : List (Nat × TypeId × Array Value)} (S : Ats B w0 w (a :: b :: M)) : Ats B w0 w (b :: a :: M) :=
  ⟨S.below, S.big, fun x hx => S.at_ x (by simp only [List.mem_cons] at hx ⊢; rcases hx with h | h | h <;> simp [h]), by have := S.apart; simp only [List.map_cons, List.nodup_cons, List.mem_cons, not_or] at this ⊢; exact ⟨⟨fun e => this.1.1 e.symm, this.2.1⟩, this.1.2, this.2.2⟩⟩
set_option maxHeartbeats 4000000 in
theorem empty_any (R : Rc Nm) (W : World) (hR : RcOk W R) (w : World) (hbW : Below W.heap.size W w) : Calls Try.prog 20 #[rcV R] w fun e w' => e = .returned (.bool (emptyB R.tx)) ∧ Below w.heap.size w w' := by
  have S := Ats.start w
  have hip := hR.1
  obtain ⟨fam, hfam⟩ : ∃ x, x = R.fam := ⟨_, rfl⟩
  obtain ⟨ip, hip'⟩ : ∃ x, x = R.ip := ⟨_, rfl⟩
  obtain ⟨zn, hzn⟩ : ∃ x, x = R.zn := ⟨_, rfl⟩
  have HAP := Lib.hid (show ∀ (j : Nat) v, (adCs fam ip zn)[j]? = some v → (rcC R)[4 + j]? = some v from fun j v hv => rc_ad hip j v (by rw [← hfam, ← hip', ← hzn]; exact hv))
  have HASZ := Lib.hid (show (Try.prog.info? 31).map (·.size) = some (adCs fam ip zn).length by rw [adInfo, adCs_len, hip', hip])
  have hE : ∀ w, (binOp .eql 31 (.agg (adCs fam ip zn).toArray) (.agg #[.int .i64 0, .int .u8 0, .int .u8 0, .int .u8 0, .int .u8 0, .int .u8 0, .int .u8 0, .int .u8 0, .int .u8 0, .int .u8 0, .int .u8 0, .int .u8 0, .int .u8 0, .int .u8 0, .int .u8 0, .int .u8 0, .int .u8 0, .int .i64 0])).run Try.prog w = .ok (.bool (fam == 0 && ip == zero16 && zn == 0)) w := fun w => ad_eql fam 0 zn 0 ip zero16 (by rw [hip']; exact hip) rfl w
  have hG := ad_guard
  have hG5 := nums_guard
  obtain ⟨n0, hn0⟩ : ∃ x, x = R.nu 0 := ⟨_, rfl⟩
  obtain ⟨n1, hn1⟩ : ∃ x, x = R.nu 1 := ⟨_, rfl⟩
  obtain ⟨n2, hn2⟩ : ∃ x, x = R.nu 2 := ⟨_, rfl⟩
  have c0 : (rcC R)[24]? = some (.int .i64 n0) := by rw [hn0]; exact rc_nu hip 0 (by decide)
  have c1 : (rcC R)[25]? = some (.int .i64 n1) := by rw [hn1]; exact rc_nu hip 1 (by decide)
  have c2 : (rcC R)[26]? = some (.int .i64 n2) := by rw [hn2]; exact rc_nu hip 2 (by decide)
  obtain ⟨a, ha⟩ : ∃ x, x = R.nu 3 := ⟨_, rfl⟩
  obtain ⟨b, hb⟩ : ∃ x, x = R.nu 4 := ⟨_, rfl⟩
  obtain ⟨c, hc⟩ : ∃ x, x = R.nu 5 := ⟨_, rfl⟩
  obtain ⟨d, hd⟩ : ∃ x, x = R.nu 6 := ⟨_, rfl⟩
  obtain ⟨e, he⟩ : ∃ x, x = R.nu 7 := ⟨_, rfl⟩
  have HNP := Lib.hid (show ∀ (j : Nat) v, ([.int .i64 a, .int .i64 b, .int .i64 c, .int .i64 d, .int .i64 e] : List Value)[j]? = some v → (rcC R)[27 + j]? = some v by
    intro j v hv
    rw [ha, hb, hc, hd, he] at hv
    match j, hv with
    | 0, hv => exact (rc_nu hip 3 (by decide)).trans hv
    | 1, hv => exact (rc_nu hip 4 (by decide)).trans hv
    | 2, hv => exact (rc_nu hip 5 (by decide)).trans hv
    | 3, hv => exact (rc_nu hip 6 (by decide)).trans hv
    | 4, hv => exact (rc_nu hip 7 (by decide)).trans hv
    | j + 5, hv => simp at hv)
  have HNSZ := Lib.hid (show (Try.prog.info? 32).map (·.size) = some [Value.int .i64 a, .int .i64 b, .int .i64 c, .int .i64 d, .int .i64 e].length by kernel_rfl)
  have hN : ∀ w, (binOp .eql 32 (.agg #[.int .i64 a, .int .i64 b, .int .i64 c, .int .i64 d, .int .i64 e]) (.agg #[.int .i64 0, .int .i64 0, .int .i64 0, .int .i64 0, .int .i64 0])).run Try.prog w = .ok (.bool (a == 0 && b == 0 && c == 0 && d == 0 && e == 0)) w := fun w => nums_eql a b c d e 0 0 0 0 0 w
  obtain ⟨y1, hy1⟩ : ∃ y, y = R.nm 1 := ⟨_, rfl⟩
  obtain ⟨y2, hy2⟩ : ∃ y, y = R.nm 2 := ⟨_, rfl⟩
  have hl1 : y1.n = y1.l.length := by rw [hy1]; exact (hR.2 1 (.inl rfl)).1.1
  have hl2 : y2.n = y2.l.length := by rw [hy2]; exact (hR.2 2 (.inr rfl)).1.1
  obtain ⟨A1, m1, cc1, l1⟩ := y1
  obtain ⟨A2, m2, cc2, l2⟩ := y2
  have d1 : (rcC R)[22]? = some (.slice A1 m1 cc1) := by rw [rc_nm1 hip, ← hy1]; rfl
  have d2 : (rcC R)[23]? = some (.slice A2 m2 cc2) := by rw [rc_nm2 hip, ← hy2]; rfl
  obtain ⟨s, hs⟩ : ∃ s : ByteArray, s = ⟨R.raw.toArray⟩ := ⟨_, rfl⟩
  have hz : s.size = R.raw.length := by rw [hs]; rfl
  have d3 : (rcC R)[32]? = some (.string s) := by rw [hs]; exact rc_raw hip
  obtain ⟨b1, hb1⟩ : ∃ x, x = (fam == 0 && ip == zero16 && zn == 0) := ⟨_, rfl⟩
  obtain ⟨b2, hb2⟩ : ∃ x, x = ((m1 : Int) == 0) := ⟨_, rfl⟩
  obtain ⟨b3, hb3⟩ : ∃ x, x = ((m2 : Int) == 0) := ⟨_, rfl⟩
  obtain ⟨b4, hb4⟩ : ∃ x, x = (n0 == 0) := ⟨_, rfl⟩
  obtain ⟨b5, hb5⟩ : ∃ x, x = (n1 == 0) := ⟨_, rfl⟩
  obtain ⟨b6, hb6⟩ : ∃ x, x = (n2 == 0) := ⟨_, rfl⟩
  obtain ⟨b7, hb7⟩ : ∃ x, x = (a == 0 && b == 0 && c == 0 && d == 0 && e == 0) := ⟨_, rfl⟩
  obtain ⟨b8, hb8⟩ : ∃ x, x = s.toList.isEmpty := ⟨_, rfl⟩
  have hr : emptyB R.tx = (b1 && b2 && b3 && b4 && b5 && b6 && b7 && b8) := by
    have e2 : b2 = decide (((R.tx).nm 1).length = 0) := by
      show b2 = decide ((R.nm 1).l.length = 0)
      have hl1 : m1 = l1.length := hl1
      rw [hb2, ← hy1, hl1, Bool.eq_iff_iff]
      simp
    have e3 : b3 = decide (((R.tx).nm 2).length = 0) := by
      show b3 = decide ((R.nm 2).l.length = 0)
      have hl2 : m2 = l2.length := hl2
      rw [hb3, ← hy2, hl2, Bool.eq_iff_iff]
      simp
    have e8 : b8 = decide (R.raw.length = 0) := by
      rw [hb8, Bool.eq_iff_iff, List.isEmpty_iff, decide_eq_true_eq, hs]
      simp
    unfold emptyB
    rw [e2, e3, e8, hb1, hb4, hb5, hb6, hb7, hfam, hip', hzn, hn0, hn1, hn2, ha, hb, hc, hd, he]
    rfl
  rw [hr]
  rw [← hb1] at hE
  rw [← hb7] at hN
  have t2 := hb2.symm
  have t3 := hb3.symm
  have t4 := hb4.symm
  have t5 := hb5.symm
  have t6 := hb6.symm
  have t8 := hb8.symm
  show Calls Try.prog _ #[.agg (rcC R)] w _
  obtain ⟨x, hx⟩ : ∃ x, x = rcC R := ⟨_, rfl⟩
  rw [← hx] at HAP c0 c1 c2 HNP d1 d2 d3 ⊢
  have HT2 := Lib.hid t2
  have HT3 := Lib.hid t3
  have HT4 := Lib.hid t4
  have HT5 := Lib.hid t5
  have HT6 := Lib.hid t6
  have HT8 := Lib.hid t8
  clear hR hbW hip hfam hip' hzn hn0 hn1 hn2 ha hb hc hd he hy1 hy2 hl1 hl2 hs hz hb1 hb2 hb3 hb4 hb5 hb6 hb7 hb8 hr t2 t3 t4 t5 t6 t8 hx
  cases b1 with
  | false =>
    go_enter Try.func20, Try.ntmps20
    go_wp2_with (first
      | ((with_reducible show wpList _ _ _ (Oper.mk _ (Op.box _ _) _ _ _ _ :: _) _ _); refine wpList_boxS rfl _ _ rfl x rfl S ?_; clear S; intro ga w1 S)
      | ((with_reducible show wpList _ _ _ (Oper.mk (some 4) (Op.load _ _) _ _ _ _ :: _) _ _); refine wpList_partS rfl _ _ rfl S _ _ rfl 0 _ _ rfl _ Try.underlying31 rfl _ HASZ.out HAP.out ?_)
      | ((with_reducible show wpList _ _ _ (Oper.mk (some 36) (Op.load _ _) _ _ _ _ :: _) _ _); refine wpList_partS rfl _ _ rfl S _ _ rfl 0 _ _ rfl _ Try.underlying32 rfl [.int .i64 a, .int .i64 b, .int .i64 c, .int .i64 d, .int .i64 e] HNSZ.out HNP.out ?_)
      | ((with_reducible show wpList _ _ _ (Oper.mk _ (Op.load _ (Operand.tmp 8)) _ _ _ _ :: _) _ _); refine wpList_cellS rfl _ _ rfl S _ _ rfl 0 _ _ rfl _ Try.underlying28 rfl _ (by with_reducible exact d1) ?_)
      | ((with_reducible show wpList _ _ _ (Oper.mk _ (Op.load _ (Operand.tmp 14)) _ _ _ _ :: _) _ _); refine wpList_cellS rfl _ _ rfl S _ _ rfl 0 _ _ rfl _ Try.underlying28 rfl _ (by with_reducible exact d2) ?_)
      | ((with_reducible show wpList _ _ _ (Oper.mk _ (Op.load _ (Operand.tmp 20)) _ _ _ _ :: _) _ _); refine wpList_cellS rfl _ _ rfl S _ _ rfl 0 _ _ rfl _ Try.underlying3 rfl _ (by with_reducible exact c0) ?_)
      | ((with_reducible show wpList _ _ _ (Oper.mk _ (Op.load _ (Operand.tmp 25)) _ _ _ _ :: _) _ _); refine wpList_cellS rfl _ _ rfl S _ _ rfl 0 _ _ rfl _ Try.underlying3 rfl _ (by with_reducible exact c1) ?_)
      | ((with_reducible show wpList _ _ _ (Oper.mk _ (Op.load _ (Operand.tmp 30)) _ _ _ _ :: _) _ _); refine wpList_cellS rfl _ _ rfl S _ _ rfl 0 _ _ rfl _ Try.underlying3 rfl _ (by with_reducible exact c2) ?_)
      | ((with_reducible show wpList _ _ _ (Oper.mk _ (Op.load _ (Operand.tmp 41)) _ _ _ _ :: _) _ _); refine wpList_cellS rfl _ _ rfl S _ _ rfl 0 _ _ rfl _ Try.underlying9 rfl _ (by with_reducible exact d3) ?_))
    go_ret
    exact ⟨rfl, S.below⟩
  | true =>
    have t2 := HT2.out
    cases b2 with
    | false =>
      go_enter Try.func20, Try.ntmps20
      go_wp2_with (first
        | ((with_reducible show wpList _ _ _ (Oper.mk _ (Op.box _ _) _ _ _ _ :: _) _ _); refine wpList_boxS rfl _ _ rfl x rfl S ?_; clear S; intro ga w1 S)
        | ((with_reducible show wpList _ _ _ (Oper.mk (some 4) (Op.load _ _) _ _ _ _ :: _) _ _); refine wpList_partS rfl _ _ rfl S _ _ rfl 0 _ _ rfl _ Try.underlying31 rfl _ HASZ.out HAP.out ?_)
        | ((with_reducible show wpList _ _ _ (Oper.mk (some 36) (Op.load _ _) _ _ _ _ :: _) _ _); refine wpList_partS rfl _ _ rfl S _ _ rfl 0 _ _ rfl _ Try.underlying32 rfl [.int .i64 a, .int .i64 b, .int .i64 c, .int .i64 d, .int .i64 e] HNSZ.out HNP.out ?_)
        | ((with_reducible show wpList _ _ _ (Oper.mk _ (Op.load _ (Operand.tmp 8)) _ _ _ _ :: _) _ _); refine wpList_cellS rfl _ _ rfl S _ _ rfl 0 _ _ rfl _ Try.underlying28 rfl _ (by with_reducible exact d1) ?_)
        | ((with_reducible show wpList _ _ _ (Oper.mk _ (Op.load _ (Operand.tmp 14)) _ _ _ _ :: _) _ _); refine wpList_cellS rfl _ _ rfl S _ _ rfl 0 _ _ rfl _ Try.underlying28 rfl _ (by with_reducible exact d2) ?_)
        | ((with_reducible show wpList _ _ _ (Oper.mk _ (Op.load _ (Operand.tmp 20)) _ _ _ _ :: _) _ _); refine wpList_cellS rfl _ _ rfl S _ _ rfl 0 _ _ rfl _ Try.underlying3 rfl _ (by with_reducible exact c0) ?_)
        | ((with_reducible show wpList _ _ _ (Oper.mk _ (Op.load _ (Operand.tmp 25)) _ _ _ _ :: _) _ _); refine wpList_cellS rfl _ _ rfl S _ _ rfl 0 _ _ rfl _ Try.underlying3 rfl _ (by with_reducible exact c1) ?_)
        | ((with_reducible show wpList _ _ _ (Oper.mk _ (Op.load _ (Operand.tmp 30)) _ _ _ _ :: _) _ _); refine wpList_cellS rfl _ _ rfl S _ _ rfl 0 _ _ rfl _ Try.underlying3 rfl _ (by with_reducible exact c2) ?_)
        | ((with_reducible show wpList _ _ _ (Oper.mk _ (Op.load _ (Operand.tmp 41)) _ _ _ _ :: _) _ _); refine wpList_cellS rfl _ _ rfl S _ _ rfl 0 _ _ rfl _ Try.underlying9 rfl _ (by with_reducible exact d3) ?_))
      go_ret
      exact ⟨rfl, S.below⟩
    | true =>
      have t3 := HT3.out
      cases b3 with
      | false =>
        go_enter Try.func20, Try.ntmps20
        go_wp2_with (first
          | ((with_reducible show wpList _ _ _ (Oper.mk _ (Op.box _ _) _ _ _ _ :: _) _ _); refine wpList_boxS rfl _ _ rfl x rfl S ?_; clear S; intro ga w1 S)
          | ((with_reducible show wpList _ _ _ (Oper.mk (some 4) (Op.load _ _) _ _ _ _ :: _) _ _); refine wpList_partS rfl _ _ rfl S _ _ rfl 0 _ _ rfl _ Try.underlying31 rfl _ HASZ.out HAP.out ?_)
          | ((with_reducible show wpList _ _ _ (Oper.mk (some 36) (Op.load _ _) _ _ _ _ :: _) _ _); refine wpList_partS rfl _ _ rfl S _ _ rfl 0 _ _ rfl _ Try.underlying32 rfl [.int .i64 a, .int .i64 b, .int .i64 c, .int .i64 d, .int .i64 e] HNSZ.out HNP.out ?_)
          | ((with_reducible show wpList _ _ _ (Oper.mk _ (Op.load _ (Operand.tmp 8)) _ _ _ _ :: _) _ _); refine wpList_cellS rfl _ _ rfl S _ _ rfl 0 _ _ rfl _ Try.underlying28 rfl _ (by with_reducible exact d1) ?_)
          | ((with_reducible show wpList _ _ _ (Oper.mk _ (Op.load _ (Operand.tmp 14)) _ _ _ _ :: _) _ _); refine wpList_cellS rfl _ _ rfl S _ _ rfl 0 _ _ rfl _ Try.underlying28 rfl _ (by with_reducible exact d2) ?_)
          | ((with_reducible show wpList _ _ _ (Oper.mk _ (Op.load _ (Operand.tmp 20)) _ _ _ _ :: _) _ _); refine wpList_cellS rfl _ _ rfl S _ _ rfl 0 _ _ rfl _ Try.underlying3 rfl _ (by with_reducible exact c0) ?_)
          | ((with_reducible show wpList _ _ _ (Oper.mk _ (Op.load _ (Operand.tmp 25)) _ _ _ _ :: _) _ _); refine wpList_cellS rfl _ _ rfl S _ _ rfl 0 _ _ rfl _ Try.underlying3 rfl _ (by with_reducible exact c1) ?_)
          | ((with_reducible show wpList _ _ _ (Oper.mk _ (Op.load _ (Operand.tmp 30)) _ _ _ _ :: _) _ _); refine wpList_cellS rfl _ _ rfl S _ _ rfl 0 _ _ rfl _ Try.underlying3 rfl _ (by with_reducible exact c2) ?_)
          | ((with_reducible show wpList _ _ _ (Oper.mk _ (Op.load _ (Operand.tmp 41)) _ _ _ _ :: _) _ _); refine wpList_cellS rfl _ _ rfl S _ _ rfl 0 _ _ rfl _ Try.underlying9 rfl _ (by with_reducible exact d3) ?_))
        go_ret
        exact ⟨rfl, S.below⟩
      | true =>
        have t4 := HT4.out
        cases b4 with
        | false =>
          go_enter Try.func20, Try.ntmps20
          go_wp2_with (first
            | ((with_reducible show wpList _ _ _ (Oper.mk _ (Op.box _ _) _ _ _ _ :: _) _ _); refine wpList_boxS rfl _ _ rfl x rfl S ?_; clear S; intro ga w1 S)
            | ((with_reducible show wpList _ _ _ (Oper.mk (some 4) (Op.load _ _) _ _ _ _ :: _) _ _); refine wpList_partS rfl _ _ rfl S _ _ rfl 0 _ _ rfl _ Try.underlying31 rfl _ HASZ.out HAP.out ?_)
            | ((with_reducible show wpList _ _ _ (Oper.mk (some 36) (Op.load _ _) _ _ _ _ :: _) _ _); refine wpList_partS rfl _ _ rfl S _ _ rfl 0 _ _ rfl _ Try.underlying32 rfl [.int .i64 a, .int .i64 b, .int .i64 c, .int .i64 d, .int .i64 e] HNSZ.out HNP.out ?_)
            | ((with_reducible show wpList _ _ _ (Oper.mk _ (Op.load _ (Operand.tmp 8)) _ _ _ _ :: _) _ _); refine wpList_cellS rfl _ _ rfl S _ _ rfl 0 _ _ rfl _ Try.underlying28 rfl _ (by with_reducible exact d1) ?_)
            | ((with_reducible show wpList _ _ _ (Oper.mk _ (Op.load _ (Operand.tmp 14)) _ _ _ _ :: _) _ _); refine wpList_cellS rfl _ _ rfl S _ _ rfl 0 _ _ rfl _ Try.underlying28 rfl _ (by with_reducible exact d2) ?_)
            | ((with_reducible show wpList _ _ _ (Oper.mk _ (Op.load _ (Operand.tmp 20)) _ _ _ _ :: _) _ _); refine wpList_cellS rfl _ _ rfl S _ _ rfl 0 _ _ rfl _ Try.underlying3 rfl _ (by with_reducible exact c0) ?_)
            | ((with_reducible show wpList _ _ _ (Oper.mk _ (Op.load _ (Operand.tmp 25)) _ _ _ _ :: _) _ _); refine wpList_cellS rfl _ _ rfl S _ _ rfl 0 _ _ rfl _ Try.underlying3 rfl _ (by with_reducible exact c1) ?_)
            | ((with_reducible show wpList _ _ _ (Oper.mk _ (Op.load _ (Operand.tmp 30)) _ _ _ _ :: _) _ _); refine wpList_cellS rfl _ _ rfl S _ _ rfl 0 _ _ rfl _ Try.underlying3 rfl _ (by with_reducible exact c2) ?_)
            | ((with_reducible show wpList _ _ _ (Oper.mk _ (Op.load _ (Operand.tmp 41)) _ _ _ _ :: _) _ _); refine wpList_cellS rfl _ _ rfl S _ _ rfl 0 _ _ rfl _ Try.underlying9 rfl _ (by with_reducible exact d3) ?_))
          go_ret
          exact ⟨rfl, S.below⟩
        | true =>
          have t5 := HT5.out
          cases b5 with
          | false =>
            go_enter Try.func20, Try.ntmps20
            go_wp2_with (first
              | ((with_reducible show wpList _ _ _ (Oper.mk _ (Op.box _ _) _ _ _ _ :: _) _ _); refine wpList_boxS rfl _ _ rfl x rfl S ?_; clear S; intro ga w1 S)
              | ((with_reducible show wpList _ _ _ (Oper.mk (some 4) (Op.load _ _) _ _ _ _ :: _) _ _); refine wpList_partS rfl _ _ rfl S _ _ rfl 0 _ _ rfl _ Try.underlying31 rfl _ HASZ.out HAP.out ?_)
              | ((with_reducible show wpList _ _ _ (Oper.mk (some 36) (Op.load _ _) _ _ _ _ :: _) _ _); refine wpList_partS rfl _ _ rfl S _ _ rfl 0 _ _ rfl _ Try.underlying32 rfl [.int .i64 a, .int .i64 b, .int .i64 c, .int .i64 d, .int .i64 e] HNSZ.out HNP.out ?_)
              | ((with_reducible show wpList _ _ _ (Oper.mk _ (Op.load _ (Operand.tmp 8)) _ _ _ _ :: _) _ _); refine wpList_cellS rfl _ _ rfl S _ _ rfl 0 _ _ rfl _ Try.underlying28 rfl _ (by with_reducible exact d1) ?_)
              | ((with_reducible show wpList _ _ _ (Oper.mk _ (Op.load _ (Operand.tmp 14)) _ _ _ _ :: _) _ _); refine wpList_cellS rfl _ _ rfl S _ _ rfl 0 _ _ rfl _ Try.underlying28 rfl _ (by with_reducible exact d2) ?_)
              | ((with_reducible show wpList _ _ _ (Oper.mk _ (Op.load _ (Operand.tmp 20)) _ _ _ _ :: _) _ _); refine wpList_cellS rfl _ _ rfl S _ _ rfl 0 _ _ rfl _ Try.underlying3 rfl _ (by with_reducible exact c0) ?_)
              | ((with_reducible show wpList _ _ _ (Oper.mk _ (Op.load _ (Operand.tmp 25)) _ _ _ _ :: _) _ _); refine wpList_cellS rfl _ _ rfl S _ _ rfl 0 _ _ rfl _ Try.underlying3 rfl _ (by with_reducible exact c1) ?_)
              | ((with_reducible show wpList _ _ _ (Oper.mk _ (Op.load _ (Operand.tmp 30)) _ _ _ _ :: _) _ _); refine wpList_cellS rfl _ _ rfl S _ _ rfl 0 _ _ rfl _ Try.underlying3 rfl _ (by with_reducible exact c2) ?_)
              | ((with_reducible show wpList _ _ _ (Oper.mk _ (Op.load _ (Operand.tmp 41)) _ _ _ _ :: _) _ _); refine wpList_cellS rfl _ _ rfl S _ _ rfl 0 _ _ rfl _ Try.underlying9 rfl _ (by with_reducible exact d3) ?_))
            go_ret
            exact ⟨rfl, S.below⟩
          | true =>
            have t6 := HT6.out
            cases b6 with
            | false =>
              go_enter Try.func20, Try.ntmps20
              go_wp2_with (first
                | ((with_reducible show wpList _ _ _ (Oper.mk _ (Op.box _ _) _ _ _ _ :: _) _ _); refine wpList_boxS rfl _ _ rfl x rfl S ?_; clear S; intro ga w1 S)
                | ((with_reducible show wpList _ _ _ (Oper.mk (some 4) (Op.load _ _) _ _ _ _ :: _) _ _); refine wpList_partS rfl _ _ rfl S _ _ rfl 0 _ _ rfl _ Try.underlying31 rfl _ HASZ.out HAP.out ?_)
                | ((with_reducible show wpList _ _ _ (Oper.mk (some 36) (Op.load _ _) _ _ _ _ :: _) _ _); refine wpList_partS rfl _ _ rfl S _ _ rfl 0 _ _ rfl _ Try.underlying32 rfl [.int .i64 a, .int .i64 b, .int .i64 c, .int .i64 d, .int .i64 e] HNSZ.out HNP.out ?_)
                | ((with_reducible show wpList _ _ _ (Oper.mk _ (Op.load _ (Operand.tmp 8)) _ _ _ _ :: _) _ _); refine wpList_cellS rfl _ _ rfl S _ _ rfl 0 _ _ rfl _ Try.underlying28 rfl _ (by with_reducible exact d1) ?_)
                | ((with_reducible show wpList _ _ _ (Oper.mk _ (Op.load _ (Operand.tmp 14)) _ _ _ _ :: _) _ _); refine wpList_cellS rfl _ _ rfl S _ _ rfl 0 _ _ rfl _ Try.underlying28 rfl _ (by with_reducible exact d2) ?_)
                | ((with_reducible show wpList _ _ _ (Oper.mk _ (Op.load _ (Operand.tmp 20)) _ _ _ _ :: _) _ _); refine wpList_cellS rfl _ _ rfl S _ _ rfl 0 _ _ rfl _ Try.underlying3 rfl _ (by with_reducible exact c0) ?_)
                | ((with_reducible show wpList _ _ _ (Oper.mk _ (Op.load _ (Operand.tmp 25)) _ _ _ _ :: _) _ _); refine wpList_cellS rfl _ _ rfl S _ _ rfl 0 _ _ rfl _ Try.underlying3 rfl _ (by with_reducible exact c1) ?_)
                | ((with_reducible show wpList _ _ _ (Oper.mk _ (Op.load _ (Operand.tmp 30)) _ _ _ _ :: _) _ _); refine wpList_cellS rfl _ _ rfl S _ _ rfl 0 _ _ rfl _ Try.underlying3 rfl _ (by with_reducible exact c2) ?_)
                | ((with_reducible show wpList _ _ _ (Oper.mk _ (Op.load _ (Operand.tmp 41)) _ _ _ _ :: _) _ _); refine wpList_cellS rfl _ _ rfl S _ _ rfl 0 _ _ rfl _ Try.underlying9 rfl _ (by with_reducible exact d3) ?_))
              go_ret
              exact ⟨rfl, S.below⟩
            | true =>
              cases b7 with
              | false =>
                go_enter Try.func20, Try.ntmps20
                go_wp2_with (first
                  | ((with_reducible show wpList _ _ _ (Oper.mk _ (Op.box _ _) _ _ _ _ :: _) _ _); refine wpList_boxS rfl _ _ rfl x rfl S ?_; clear S; intro ga w1 S)
                  | ((with_reducible show wpList _ _ _ (Oper.mk (some 4) (Op.load _ _) _ _ _ _ :: _) _ _); refine wpList_partS rfl _ _ rfl S _ _ rfl 0 _ _ rfl _ Try.underlying31 rfl _ HASZ.out HAP.out ?_)
                  | ((with_reducible show wpList _ _ _ (Oper.mk (some 36) (Op.load _ _) _ _ _ _ :: _) _ _); refine wpList_partS rfl _ _ rfl S _ _ rfl 0 _ _ rfl _ Try.underlying32 rfl [.int .i64 a, .int .i64 b, .int .i64 c, .int .i64 d, .int .i64 e] HNSZ.out HNP.out ?_)
                  | ((with_reducible show wpList _ _ _ (Oper.mk _ (Op.load _ (Operand.tmp 8)) _ _ _ _ :: _) _ _); refine wpList_cellS rfl _ _ rfl S _ _ rfl 0 _ _ rfl _ Try.underlying28 rfl _ (by with_reducible exact d1) ?_)
                  | ((with_reducible show wpList _ _ _ (Oper.mk _ (Op.load _ (Operand.tmp 14)) _ _ _ _ :: _) _ _); refine wpList_cellS rfl _ _ rfl S _ _ rfl 0 _ _ rfl _ Try.underlying28 rfl _ (by with_reducible exact d2) ?_)
                  | ((with_reducible show wpList _ _ _ (Oper.mk _ (Op.load _ (Operand.tmp 20)) _ _ _ _ :: _) _ _); refine wpList_cellS rfl _ _ rfl S _ _ rfl 0 _ _ rfl _ Try.underlying3 rfl _ (by with_reducible exact c0) ?_)
                  | ((with_reducible show wpList _ _ _ (Oper.mk _ (Op.load _ (Operand.tmp 25)) _ _ _ _ :: _) _ _); refine wpList_cellS rfl _ _ rfl S _ _ rfl 0 _ _ rfl _ Try.underlying3 rfl _ (by with_reducible exact c1) ?_)
                  | ((with_reducible show wpList _ _ _ (Oper.mk _ (Op.load _ (Operand.tmp 30)) _ _ _ _ :: _) _ _); refine wpList_cellS rfl _ _ rfl S _ _ rfl 0 _ _ rfl _ Try.underlying3 rfl _ (by with_reducible exact c2) ?_)
                  | ((with_reducible show wpList _ _ _ (Oper.mk _ (Op.load _ (Operand.tmp 41)) _ _ _ _ :: _) _ _); refine wpList_cellS rfl _ _ rfl S _ _ rfl 0 _ _ rfl _ Try.underlying9 rfl _ (by with_reducible exact d3) ?_))
                go_ret
                exact ⟨rfl, S.below⟩
              | true =>
                have t8 := HT8.out
                cases b8 with
                | false =>
                  go_enter Try.func20, Try.ntmps20
                  go_wp2_with (first
                    | ((with_reducible show wpList _ _ _ (Oper.mk _ (Op.box _ _) _ _ _ _ :: _) _ _); refine wpList_boxS rfl _ _ rfl x rfl S ?_; clear S; intro ga w1 S)
                    | ((with_reducible show wpList _ _ _ (Oper.mk (some 4) (Op.load _ _) _ _ _ _ :: _) _ _); refine wpList_partS rfl _ _ rfl S _ _ rfl 0 _ _ rfl _ Try.underlying31 rfl _ HASZ.out HAP.out ?_)
                    | ((with_reducible show wpList _ _ _ (Oper.mk (some 36) (Op.load _ _) _ _ _ _ :: _) _ _); refine wpList_partS rfl _ _ rfl S _ _ rfl 0 _ _ rfl _ Try.underlying32 rfl [.int .i64 a, .int .i64 b, .int .i64 c, .int .i64 d, .int .i64 e] HNSZ.out HNP.out ?_)
                    | ((with_reducible show wpList _ _ _ (Oper.mk _ (Op.load _ (Operand.tmp 8)) _ _ _ _ :: _) _ _); refine wpList_cellS rfl _ _ rfl S _ _ rfl 0 _ _ rfl _ Try.underlying28 rfl _ (by with_reducible exact d1) ?_)
                    | ((with_reducible show wpList _ _ _ (Oper.mk _ (Op.load _ (Operand.tmp 14)) _ _ _ _ :: _) _ _); refine wpList_cellS rfl _ _ rfl S _ _ rfl 0 _ _ rfl _ Try.underlying28 rfl _ (by with_reducible exact d2) ?_)
                    | ((with_reducible show wpList _ _ _ (Oper.mk _ (Op.load _ (Operand.tmp 20)) _ _ _ _ :: _) _ _); refine wpList_cellS rfl _ _ rfl S _ _ rfl 0 _ _ rfl _ Try.underlying3 rfl _ (by with_reducible exact c0) ?_)
                    | ((with_reducible show wpList _ _ _ (Oper.mk _ (Op.load _ (Operand.tmp 25)) _ _ _ _ :: _) _ _); refine wpList_cellS rfl _ _ rfl S _ _ rfl 0 _ _ rfl _ Try.underlying3 rfl _ (by with_reducible exact c1) ?_)
                    | ((with_reducible show wpList _ _ _ (Oper.mk _ (Op.load _ (Operand.tmp 30)) _ _ _ _ :: _) _ _); refine wpList_cellS rfl _ _ rfl S _ _ rfl 0 _ _ rfl _ Try.underlying3 rfl _ (by with_reducible exact c2) ?_)
                    | ((with_reducible show wpList _ _ _ (Oper.mk _ (Op.load _ (Operand.tmp 41)) _ _ _ _ :: _) _ _); refine wpList_cellS rfl _ _ rfl S _ _ rfl 0 _ _ rfl _ Try.underlying9 rfl _ (by with_reducible exact d3) ?_))
                  go_ret
                  exact ⟨rfl, S.below⟩
                | true =>
                  go_enter Try.func20, Try.ntmps20
                  go_wp2_with (first
                    | ((with_reducible show wpList _ _ _ (Oper.mk _ (Op.box _ _) _ _ _ _ :: _) _ _); refine wpList_boxS rfl _ _ rfl x rfl S ?_; clear S; intro ga w1 S)
                    | ((with_reducible show wpList _ _ _ (Oper.mk (some 4) (Op.load _ _) _ _ _ _ :: _) _ _); refine wpList_partS rfl _ _ rfl S _ _ rfl 0 _ _ rfl _ Try.underlying31 rfl _ HASZ.out HAP.out ?_)
                    | ((with_reducible show wpList _ _ _ (Oper.mk (some 36) (Op.load _ _) _ _ _ _ :: _) _ _); refine wpList_partS rfl _ _ rfl S _ _ rfl 0 _ _ rfl _ Try.underlying32 rfl [.int .i64 a, .int .i64 b, .int .i64 c, .int .i64 d, .int .i64 e] HNSZ.out HNP.out ?_)
                    | ((with_reducible show wpList _ _ _ (Oper.mk _ (Op.load _ (Operand.tmp 8)) _ _ _ _ :: _) _ _); refine wpList_cellS rfl _ _ rfl S _ _ rfl 0 _ _ rfl _ Try.underlying28 rfl _ (by with_reducible exact d1) ?_)
                    | ((with_reducible show wpList _ _ _ (Oper.mk _ (Op.load _ (Operand.tmp 14)) _ _ _ _ :: _) _ _); refine wpList_cellS rfl _ _ rfl S _ _ rfl 0 _ _ rfl _ Try.underlying28 rfl _ (by with_reducible exact d2) ?_)
                    | ((with_reducible show wpList _ _ _ (Oper.mk _ (Op.load _ (Operand.tmp 20)) _ _ _ _ :: _) _ _); refine wpList_cellS rfl _ _ rfl S _ _ rfl 0 _ _ rfl _ Try.underlying3 rfl _ (by with_reducible exact c0) ?_)
                    | ((with_reducible show wpList _ _ _ (Oper.mk _ (Op.load _ (Operand.tmp 25)) _ _ _ _ :: _) _ _); refine wpList_cellS rfl _ _ rfl S _ _ rfl 0 _ _ rfl _ Try.underlying3 rfl _ (by with_reducible exact c1) ?_)
                    | ((with_reducible show wpList _ _ _ (Oper.mk _ (Op.load _ (Operand.tmp 30)) _ _ _ _ :: _) _ _); refine wpList_cellS rfl _ _ rfl S _ _ rfl 0 _ _ rfl _ Try.underlying3 rfl _ (by with_reducible exact c2) ?_)
                    | ((with_reducible show wpList _ _ _ (Oper.mk _ (Op.load _ (Operand.tmp 41)) _ _ _ _ :: _) _ _); refine wpList_cellS rfl _ _ rfl S _ _ rfl 0 _ _ rfl _ Try.underlying9 rfl _ (by with_reducible exact d3) ?_))
                  go_ret
                  exact ⟨rfl, S.below⟩
end Go.Proofs.Ytnoabmkmnddkkaa
namespace Go.Proofs.Ytnoabmkmnddkkaa
open Go.RowKit Go
set_option linter.unusedVariables false
set_option linter.unusedSimpArgs false
set_option maxRecDepth 100000
def smallB (R : Rc Lbs) : Bool := decide (sizeL (R.nm 0) ≤ 401) && decide (sizeL (R.nm 1) ≤ 401) && decide (sizeL (R.nm 2) ≤ 401) && decide (R.raw.length ≤ 70000)
/-- a record whose names lie in the world W -/
def RcAt (W : World) (R : Rc Nm) : Prop := R.ip.length = 16 ∧ ∀ k, k ≤ 2 → TextsAt W (R.nm k).A (R.nm k).n (R.nm k).l
theorem small_any (R : Rc Nm) (W : World) (hR : RcAt W R) (hx : ∀ k, k ≤ 2 → ∀ x ∈ (R.nm k).l, x.length ≤ 140737488351232) (w : World) (hbW : Below W.heap.size W w) :
    Calls Try.prog 6 #[rcV R] w fun e w' => e = .returned (.bool (smallB R.tx)) ∧ Below w.heap.size w w' := by
  have S := Ats.start w
  have hip := hR.1
  obtain ⟨y0, hy0⟩ : ∃ y, y = R.nm 0 := ⟨_, rfl⟩
  obtain ⟨y1, hy1⟩ : ∃ y, y = R.nm 1 := ⟨_, rfl⟩
  obtain ⟨y2, hy2⟩ : ∃ y, y = R.nm 2 := ⟨_, rfl⟩
  have g0 := hR.2 0 (by decide)
  have g1 := hR.2 1 (by decide)
  have g2 := hR.2 2 (by decide)
  have k0 := hx 0 (by decide)
  have k1 := hx 1 (by decide)
  have k2 := hx 2 (by decide)
  have d0 : (rcC R)[0]? = some (R.nm 0).v := rc_nm0
  have d1 := rc_nm1 hip
  have d2 := rc_nm2 hip
  rw [← hy0] at g0 k0 d0
  rw [← hy1] at g1 k1 d1
  rw [← hy2] at g2 k2 d2
  have hr : smallB R.tx = (decide (sizeL y0.l ≤ 401) && decide (sizeL y1.l ≤ 401) && decide (sizeL y2.l ≤ 401) && decide (R.raw.length ≤ 70000)) := by rw [hy0, hy1, hy2]; rfl
  rw [hr]
  obtain ⟨A0, n0, c0, l0⟩ := y0
  obtain ⟨A1, n1, c1, l1⟩ := y1
  obtain ⟨A2, n2, c2, l2⟩ := y2
  have HF0 := Lib.hid (fun w' (hb : Below w.heap.size w w') => few_any A0 n0 c0 l0 w' ((g0.below hbW).below hb) k0)
  have HF1 := Lib.hid (fun w' (hb : Below w.heap.size w w') => few_any A1 n1 c1 l1 w' ((g1.below hbW).below hb) k1)
  have HF2 := Lib.hid (fun w' (hb : Below w.heap.size w w') => few_any A2 n2 c2 l2 w' ((g2.below hbW).below hb) k2)
  have e0 : (rcC R)[0]? = some (.slice A0 n0 c0) := d0
  have e1 : (rcC R)[22]? = some (.slice A1 n1 c1) := d1
  have e2 : (rcC R)[23]? = some (.slice A2 n2 c2) := d2
  have e3 := rc_raw hip
  obtain ⟨s, hs⟩ : ∃ s : ByteArray, s = ⟨R.raw.toArray⟩ := ⟨_, rfl⟩
  have hz : s.size = R.raw.length := by rw [hs]; rfl
  rw [← hs] at e3
  have hb3 : decide (R.raw.length ≤ 70000) = decide ((s.size : Int) ≤ 70000) := by
    rw [hz, Bool.eq_iff_iff, decide_eq_true_eq, decide_eq_true_eq]
    omega
  show Calls Try.prog _ #[.agg (rcC R)] w fun e w' => e = .returned (.bool (decide (sizeL l0 ≤ 401) && decide (sizeL l1 ≤ 401) && decide (sizeL l2 ≤ 401) && decide (R.raw.length ≤ 70000))) ∧ Below w.heap.size w w'
  rw [hb3]
  obtain ⟨b0, hb0⟩ : ∃ b, b = decide (sizeL l0 ≤ 401) := ⟨_, rfl⟩
  obtain ⟨b1, hb1⟩ : ∃ b, b = decide (sizeL l1 ≤ 401) := ⟨_, rfl⟩
  obtain ⟨b2, hb2⟩ : ∃ b, b = decide (sizeL l2 ≤ 401) := ⟨_, rfl⟩
  rw [← hb0] at HF0 ⊢
  rw [← hb1] at HF1 ⊢
  rw [← hb2] at HF2 ⊢
  obtain ⟨x, hxx⟩ : ∃ x, x = rcC R := ⟨_, rfl⟩
  rw [← hxx] at e0 e1 e2 e3 ⊢
  obtain ⟨b3, hb33⟩ : ∃ b, decide ((s.size : Int) ≤ 70000) = b := ⟨_, rfl⟩
  rw [hb33]
  clear hR hx hip hy0 hy1 hy2 g0 g1 g2 k0 k1 k2 d0 d1 d2 hr hs hz hb3 hb0 hb1 hb2 hxx hbW
  cases b0 with
  | false =>
    go_enter Try.func6, Try.ntmps6
    go_wp2_with (first
      | ((with_reducible show wpList _ _ _ (Oper.mk _ (Op.box _ _) _ _ _ _ :: _) _ _); refine wpList_boxS rfl _ _ rfl x rfl S ?_; clear S; intro ga w1 S)
      | ((with_reducible show wpList _ _ _ (Oper.mk _ (Op.load _ (Operand.tmp 3)) _ _ _ _ :: _) _ _); refine wpList_cellS rfl _ _ rfl S _ _ rfl 0 _ _ rfl _ Try.underlying28 rfl _ (by with_reducible exact e0) ?_)
      | ((with_reducible show wpList _ _ _ (Oper.mk _ (Op.load _ (Operand.tmp 7)) _ _ _ _ :: _) _ _); refine wpList_cellS rfl _ _ rfl S _ _ rfl 0 _ _ rfl _ Try.underlying28 rfl _ (by with_reducible exact e1) ?_)
      | ((with_reducible show wpList _ _ _ (Oper.mk _ (Op.load _ (Operand.tmp 12)) _ _ _ _ :: _) _ _); refine wpList_cellS rfl _ _ rfl S _ _ rfl 0 _ _ rfl _ Try.underlying28 rfl _ (by with_reducible exact e2) ?_)
      | ((with_reducible show wpList _ _ _ (Oper.mk _ (Op.load _ (Operand.tmp 17)) _ _ _ _ :: _) _ _); refine wpList_cellS rfl _ _ rfl S _ _ rfl 0 _ _ rfl _ Try.underlying9 rfl _ (by with_reducible exact e3) ?_)
      | ((with_reducible refine (HF0.out _ S.below).mono ?_); rintro e w2 ⟨rfl, rfl⟩)
      | ((with_reducible refine (HF1.out _ S.below).mono ?_); rintro e w2 ⟨rfl, rfl⟩)
      | ((with_reducible refine (HF2.out _ S.below).mono ?_); rintro e w2 ⟨rfl, rfl⟩))
    go_ret
    exact ⟨rfl, S.below⟩
  | true =>
    cases b1 with
    | false =>
      go_enter Try.func6, Try.ntmps6
      go_wp2_with (first
        | ((with_reducible show wpList _ _ _ (Oper.mk _ (Op.box _ _) _ _ _ _ :: _) _ _); refine wpList_boxS rfl _ _ rfl x rfl S ?_; clear S; intro ga w1 S)
        | ((with_reducible show wpList _ _ _ (Oper.mk _ (Op.load _ (Operand.tmp 3)) _ _ _ _ :: _) _ _); refine wpList_cellS rfl _ _ rfl S _ _ rfl 0 _ _ rfl _ Try.underlying28 rfl _ (by with_reducible exact e0) ?_)
        | ((with_reducible show wpList _ _ _ (Oper.mk _ (Op.load _ (Operand.tmp 7)) _ _ _ _ :: _) _ _); refine wpList_cellS rfl _ _ rfl S _ _ rfl 0 _ _ rfl _ Try.underlying28 rfl _ (by with_reducible exact e1) ?_)
        | ((with_reducible show wpList _ _ _ (Oper.mk _ (Op.load _ (Operand.tmp 12)) _ _ _ _ :: _) _ _); refine wpList_cellS rfl _ _ rfl S _ _ rfl 0 _ _ rfl _ Try.underlying28 rfl _ (by with_reducible exact e2) ?_)
        | ((with_reducible show wpList _ _ _ (Oper.mk _ (Op.load _ (Operand.tmp 17)) _ _ _ _ :: _) _ _); refine wpList_cellS rfl _ _ rfl S _ _ rfl 0 _ _ rfl _ Try.underlying9 rfl _ (by with_reducible exact e3) ?_)
        | ((with_reducible refine (HF0.out _ S.below).mono ?_); rintro e w2 ⟨rfl, rfl⟩)
        | ((with_reducible refine (HF1.out _ S.below).mono ?_); rintro e w2 ⟨rfl, rfl⟩)
        | ((with_reducible refine (HF2.out _ S.below).mono ?_); rintro e w2 ⟨rfl, rfl⟩))
      go_ret
      exact ⟨rfl, S.below⟩
    | true =>
      cases b2 with
      | false =>
        go_enter Try.func6, Try.ntmps6
        go_wp2_with (first
          | ((with_reducible show wpList _ _ _ (Oper.mk _ (Op.box _ _) _ _ _ _ :: _) _ _); refine wpList_boxS rfl _ _ rfl x rfl S ?_; clear S; intro ga w1 S)
          | ((with_reducible show wpList _ _ _ (Oper.mk _ (Op.load _ (Operand.tmp 3)) _ _ _ _ :: _) _ _); refine wpList_cellS rfl _ _ rfl S _ _ rfl 0 _ _ rfl _ Try.underlying28 rfl _ (by with_reducible exact e0) ?_)
          | ((with_reducible show wpList _ _ _ (Oper.mk _ (Op.load _ (Operand.tmp 7)) _ _ _ _ :: _) _ _); refine wpList_cellS rfl _ _ rfl S _ _ rfl 0 _ _ rfl _ Try.underlying28 rfl _ (by with_reducible exact e1) ?_)
          | ((with_reducible show wpList _ _ _ (Oper.mk _ (Op.load _ (Operand.tmp 12)) _ _ _ _ :: _) _ _); refine wpList_cellS rfl _ _ rfl S _ _ rfl 0 _ _ rfl _ Try.underlying28 rfl _ (by with_reducible exact e2) ?_)
          | ((with_reducible show wpList _ _ _ (Oper.mk _ (Op.load _ (Operand.tmp 17)) _ _ _ _ :: _) _ _); refine wpList_cellS rfl _ _ rfl S _ _ rfl 0 _ _ rfl _ Try.underlying9 rfl _ (by with_reducible exact e3) ?_)
          | ((with_reducible refine (HF0.out _ S.below).mono ?_); rintro e w2 ⟨rfl, rfl⟩)
          | ((with_reducible refine (HF1.out _ S.below).mono ?_); rintro e w2 ⟨rfl, rfl⟩)
          | ((with_reducible refine (HF2.out _ S.below).mono ?_); rintro e w2 ⟨rfl, rfl⟩))
        go_ret
        exact ⟨rfl, S.below⟩
      | true =>
        go_enter Try.func6, Try.ntmps6
        go_wp2_with (first
          | ((with_reducible show wpList _ _ _ (Oper.mk _ (Op.box _ _) _ _ _ _ :: _) _ _); refine wpList_boxS rfl _ _ rfl x rfl S ?_; clear S; intro ga w1 S)
          | ((with_reducible show wpList _ _ _ (Oper.mk _ (Op.load _ (Operand.tmp 3)) _ _ _ _ :: _) _ _); refine wpList_cellS rfl _ _ rfl S _ _ rfl 0 _ _ rfl _ Try.underlying28 rfl _ (by with_reducible exact e0) ?_)
          | ((with_reducible show wpList _ _ _ (Oper.mk _ (Op.load _ (Operand.tmp 7)) _ _ _ _ :: _) _ _); refine wpList_cellS rfl _ _ rfl S _ _ rfl 0 _ _ rfl _ Try.underlying28 rfl _ (by with_reducible exact e1) ?_)
          | ((with_reducible show wpList _ _ _ (Oper.mk _ (Op.load _ (Operand.tmp 12)) _ _ _ _ :: _) _ _); refine wpList_cellS rfl _ _ rfl S _ _ rfl 0 _ _ rfl _ Try.underlying28 rfl _ (by with_reducible exact e2) ?_)
          | ((with_reducible show wpList _ _ _ (Oper.mk _ (Op.load _ (Operand.tmp 17)) _ _ _ _ :: _) _ _); refine wpList_cellS rfl _ _ rfl S _ _ rfl 0 _ _ rfl _ Try.underlying9 rfl _ (by with_reducible exact e3) ?_)
          | ((with_reducible refine (HF0.out _ S.below).mono ?_); rintro e w2 ⟨rfl, rfl⟩)
          | ((with_reducible refine (HF1.out _ S.below).mono ?_); rintro e w2 ⟨rfl, rfl⟩)
          | ((with_reducible refine (HF2.out _ S.below).mono ?_); rintro e w2 ⟨rfl, rfl⟩))
        go_ret
        exact ⟨rfl, S.below⟩
def sameB (A B : Rc Lbs) : Bool :=
  decide (A.nm 0 = B.nm 0) && (A.ty == B.ty) && (A.cl == B.cl) && (A.tt == B.tt) && (A.fam == B.fam && A.ip == B.ip && A.zn == B.zn) && decide (A.nm 1 = B.nm 1) && decide (A.nm 2 = B.nm 2) && (A.nu 0 == B.nu 0) && (A.nu 1 == B.nu 1) && (A.nu 2 == B.nu 2) &&
    (A.nu 3 == B.nu 3 && A.nu 4 == B.nu 4 && A.nu 5 == B.nu 5 && A.nu 6 == B.nu 6 && A.nu 7 == B.nu 7) && decide (A.raw = B.raw)
end Go.Proofs.Ytnoabmkmnddkkaa
namespace Go.Proofs.Ytnoabmkmnddkkaa
open Go.RowKit Go
set_option linter.unusedVariables false
set_option linter.unusedSimpArgs false
set_option maxRecDepth 100000
set_option maxHeartbeats 16000000 in
theorem same_any (R Q : Rc Nm) (w : World) (hR : RcAt w R) (hQ : RcAt w Q) (hR4 : ∀ k, k ≤ 2 → (R.nm k).n ≤ 4000) (hQ4 : ∀ k, k ≤ 2 → (Q.nm k).n ≤ 4000) :
    Calls Try.prog 9 #[rcV R, rcV Q] w fun e w' => e = .returned (.bool (sameB R.tx Q.tx)) ∧ Below w.heap.size w w' := by
  have S := Ats.start w
  have hip := hR.1
  have hiq := hQ.1
  have HX := Lib.hid (show ∀ k, k ≤ 2 → ∀ w', Below w.heap.size w w' → Calls Try.prog 10 #[(R.nm k).v, (Q.nm k).v] w' fun e w2 => e = .returned (.bool (decide ((R.nm k).l = (Q.nm k).l))) ∧ Below w'.heap.size w' w2 from fun k hk w' hb => refExactX_any _ _ _ _ _ _ _ _ w' ((hR.2 k hk).below hb) ((hQ.2 k hk).below hb) (hR4 k hk) (hQ4 k hk))
  have p0 : (rcC R)[0]? = some (R.nm 0).v := rc_nm0
  have q0 : (rcC Q)[0]? = some (Q.nm 0).v := rc_nm0
  have p1 : (rcC R)[1]? = some (.int .i64 R.ty) := rc_ty
  have q1 : (rcC Q)[1]? = some (.int .i64 Q.ty) := rc_ty
  have p2 : (rcC R)[2]? = some (.int .i64 R.cl) := rc_cl
  have q2 : (rcC Q)[2]? = some (.int .i64 Q.cl) := rc_cl
  have p3 : (rcC R)[3]? = some (.int .i64 R.tt) := rc_tt
  have q3 : (rcC Q)[3]? = some (.int .i64 Q.tt) := rc_tt
  have p5 := rc_nm1 hip
  have q5 := rc_nm1 hiq
  have p6 := rc_nm2 hip
  have q6 := rc_nm2 hiq
  have p7 : (rcC R)[24]? = some (.int .i64 (R.nu 0)) := rc_nu hip 0 (by decide)
  have q7 : (rcC Q)[24]? = some (.int .i64 (Q.nu 0)) := rc_nu hiq 0 (by decide)
  have p8 : (rcC R)[25]? = some (.int .i64 (R.nu 1)) := rc_nu hip 1 (by decide)
  have q8 : (rcC Q)[25]? = some (.int .i64 (Q.nu 1)) := rc_nu hiq 1 (by decide)
  have p9 : (rcC R)[26]? = some (.int .i64 (R.nu 2)) := rc_nu hip 2 (by decide)
  have q9 : (rcC Q)[26]? = some (.int .i64 (Q.nu 2)) := rc_nu hiq 2 (by decide)
  have p11 := rc_raw hip
  have q11 := rc_raw hiq
  have HAP := Lib.hid (fun j v hv => rc_ad hip j v hv)
  have HAQ := Lib.hid (fun j v hv => rc_ad hiq j v hv)
  have HASP := Lib.hid (show (Try.prog.info? 31).map (·.size) = some (adCs R.fam R.ip R.zn).length by rw [adInfo, adCs_len, hip])
  have HASQ := Lib.hid (show (Try.prog.info? 31).map (·.size) = some (adCs Q.fam Q.ip Q.zn).length by rw [adInfo, adCs_len, hiq])
  have hE : ∀ w, (binOp .eql 31 (.agg (adCs R.fam R.ip R.zn).toArray) (.agg (adCs Q.fam Q.ip Q.zn).toArray)).run Try.prog w = .ok (.bool (R.fam == Q.fam && R.ip == Q.ip && R.zn == Q.zn)) w := fun w => ad_eql R.fam Q.fam R.zn Q.zn R.ip Q.ip hip hiq w
  have hG := ad_guard
  have hG5 := nums_guard
  have hnp : ∀ (K : Rc Nm), K.ip.length = 16 → ∀ (j : Nat) v, ([.int .i64 (K.nu 3), .int .i64 (K.nu 4), .int .i64 (K.nu 5), .int .i64 (K.nu 6), .int .i64 (K.nu 7)] : List Value)[j]? = some v → (rcC K)[27 + j]? = some v := by
    intro K hK j v hv
    match j, hv with
    | 0, hv => exact (rc_nu hK 3 (by decide)).trans hv
    | 1, hv => exact (rc_nu hK 4 (by decide)).trans hv
    | 2, hv => exact (rc_nu hK 5 (by decide)).trans hv
    | 3, hv => exact (rc_nu hK 6 (by decide)).trans hv
    | 4, hv => exact (rc_nu hK 7 (by decide)).trans hv
    | j + 5, hv => simp at hv
  have HNP := Lib.hid (hnp R hip)
  have HNQ := Lib.hid (hnp Q hiq)
  have hnz : ∀ a b c d e : Int, (Try.prog.info? 32).map (·.size) = some [Value.int .i64 a, .int .i64 b, .int .i64 c, .int .i64 d, .int .i64 e].length := fun _ _ _ _ _ => by kernel_rfl
  have HNZ := Lib.hid hnz
  have hN : ∀ w, (binOp .eql 32 (.agg #[.int .i64 (R.nu 3), .int .i64 (R.nu 4), .int .i64 (R.nu 5), .int .i64 (R.nu 6), .int .i64 (R.nu 7)]) (.agg #[.int .i64 (Q.nu 3), .int .i64 (Q.nu 4), .int .i64 (Q.nu 5), .int .i64 (Q.nu 6), .int .i64 (Q.nu 7)])).run Try.prog w = .ok (.bool (R.nu 3 == Q.nu 3 && R.nu 4 == Q.nu 4 && R.nu 5 == Q.nu 5 && R.nu 6 == Q.nu 6 && R.nu 7 == Q.nu 7)) w := fun w => nums_eql _ _ _ _ _ _ _ _ _ _ w
  obtain ⟨s, hs⟩ : ∃ s : ByteArray, s = ⟨R.raw.toArray⟩ := ⟨_, rfl⟩
  obtain ⟨t, ht⟩ : ∃ t : ByteArray, t = ⟨Q.raw.toArray⟩ := ⟨_, rfl⟩
  have hst : decide (R.raw = Q.raw) = (s.toList == t.toList) := by rw [hs, ht, Bool.eq_iff_iff]; simp
  rw [← hs] at p11
  rw [← ht] at q11
  obtain ⟨b0, hb0⟩ : ∃ x, x = decide ((R.nm 0).l = (Q.nm 0).l) := ⟨_, rfl⟩
  obtain ⟨b1, hb1⟩ : ∃ x, x = (R.ty == Q.ty) := ⟨_, rfl⟩
  obtain ⟨b2, hb2⟩ : ∃ x, x = (R.cl == Q.cl) := ⟨_, rfl⟩
  obtain ⟨b3, hb3⟩ : ∃ x, x = (R.tt == Q.tt) := ⟨_, rfl⟩
  obtain ⟨b4, hb4⟩ : ∃ x, x = (R.fam == Q.fam && R.ip == Q.ip && R.zn == Q.zn) := ⟨_, rfl⟩
  obtain ⟨b5, hb5⟩ : ∃ x, x = decide ((R.nm 1).l = (Q.nm 1).l) := ⟨_, rfl⟩
  obtain ⟨b6, hb6⟩ : ∃ x, x = decide ((R.nm 2).l = (Q.nm 2).l) := ⟨_, rfl⟩
  obtain ⟨b7, hb7⟩ : ∃ x, x = (R.nu 0 == Q.nu 0) := ⟨_, rfl⟩
  obtain ⟨b8, hb8⟩ : ∃ x, x = (R.nu 1 == Q.nu 1) := ⟨_, rfl⟩
  obtain ⟨b9, hb9⟩ : ∃ x, x = (R.nu 2 == Q.nu 2) := ⟨_, rfl⟩
  obtain ⟨b10, hb10⟩ : ∃ x, x = (R.nu 3 == Q.nu 3 && R.nu 4 == Q.nu 4 && R.nu 5 == Q.nu 5 && R.nu 6 == Q.nu 6 && R.nu 7 == Q.nu 7) := ⟨_, rfl⟩
  obtain ⟨b11, hb11⟩ : ∃ x, x = (s.toList == t.toList) := ⟨_, rfl⟩
  have hr : sameB R.tx Q.tx = (b0 && b1 && b2 && b3 && b4 && b5 && b6 && b7 && b8 && b9 && b10 && b11) := by
    unfold sameB
    show (decide ((R.nm 0).l = (Q.nm 0).l) && (R.ty == Q.ty) && (R.cl == Q.cl) && (R.tt == Q.tt) && (R.fam == Q.fam && R.ip == Q.ip && R.zn == Q.zn) && decide ((R.nm 1).l = (Q.nm 1).l) && decide ((R.nm 2).l = (Q.nm 2).l) && (R.nu 0 == Q.nu 0) && (R.nu 1 == Q.nu 1) && (R.nu 2 == Q.nu 2) && (R.nu 3 == Q.nu 3 && R.nu 4 == Q.nu 4 && R.nu 5 == Q.nu 5 && R.nu 6 == Q.nu 6 && R.nu 7 == Q.nu 7) && decide (R.raw = Q.raw)) = _
    rw [hst, ← hb0, ← hb1, ← hb2, ← hb3, ← hb4, ← hb5, ← hb6, ← hb7, ← hb8, ← hb9, ← hb10, ← hb11]
  rw [hr]
  rw [← hb4] at hE
  rw [← hb10] at hN
  have HX0 := Lib.hid (HX.out 0 (by decide))
  have HX1 := Lib.hid (HX.out 1 (by decide))
  have HX2 := Lib.hid (HX.out 2 (by decide))
  rw [← hb0] at HX0
  rw [← hb5] at HX1
  rw [← hb6] at HX2
  have HT1 := Lib.hid hb1.symm
  have HT2 := Lib.hid hb2.symm
  have HT3 := Lib.hid hb3.symm
  have HT7 := Lib.hid hb7.symm
  have HT8 := Lib.hid hb8.symm
  have HT9 := Lib.hid hb9.symm
  have HT11 := Lib.hid hb11.symm
  show Calls Try.prog _ #[.agg (rcC R), .agg (rcC Q)] w _
  obtain ⟨x, hx⟩ : ∃ x, x = rcC R := ⟨_, rfl⟩
  obtain ⟨y, hy⟩ : ∃ y, y = rcC Q := ⟨_, rfl⟩
  obtain ⟨v0, hv0⟩ : ∃ v, v = (R.nm 0).v := ⟨_, rfl⟩
  obtain ⟨v1, hv1⟩ : ∃ v, v = (R.nm 1).v := ⟨_, rfl⟩
  obtain ⟨v2, hv2⟩ : ∃ v, v = (R.nm 2).v := ⟨_, rfl⟩
  obtain ⟨u0, hu0⟩ : ∃ v, v = (Q.nm 0).v := ⟨_, rfl⟩
  obtain ⟨u1, hu1⟩ : ∃ v, v = (Q.nm 1).v := ⟨_, rfl⟩
  obtain ⟨u2, hu2⟩ : ∃ v, v = (Q.nm 2).v := ⟨_, rfl⟩
  rw [← hv0] at p0 HX0
  rw [← hv1] at p5 HX1
  rw [← hv2] at p6 HX2
  rw [← hu0] at q0 HX0
  rw [← hu1] at q5 HX1
  rw [← hu2] at q6 HX2
  rw [← hx] at p0 p1 p2 p3 p5 p6 p7 p8 p9 p11 HAP HNP ⊢
  rw [← hy] at q0 q1 q2 q3 q5 q6 q7 q8 q9 q11 HAQ HNQ ⊢
  clear hR hQ hR4 hQ4 HX hip hiq hs ht hst hr hnp hnz hb0 hb1 hb2 hb3 hb4 hb5 hb6 hb7 hb8 hb9 hb10 hb11 hx hy hv0 hv1 hv2 hu0 hu1 hu2
  cases b0 with
  | false =>
    go_enter Try.func9, Try.ntmps9
    simp only [List.append_eq, List.cons_append, List.nil_append]
    go_wp2_with (first
      | ((with_reducible show wpList _ _ _ (Oper.mk (some 2) (Op.box _ _) _ _ _ _ :: _) _ _); refine wpList_boxS rfl _ _ rfl x rfl S ?_; clear S; intro ga w1 S)
      | ((with_reducible show wpList _ _ _ (Oper.mk (some 3) (Op.box _ _) _ _ _ _ :: _) _ _); refine wpList_boxS rfl _ _ rfl y rfl S ?_; clear S; intro gb w1 S)
      | ((with_reducible refine (HX0.out _ S.below).mono ?_); rintro e w2 ⟨rfl, hb⟩; have S := S.call hb; clear hb)
      | ((with_reducible refine (HX1.out _ S.below).mono ?_); rintro e w2 ⟨rfl, hb⟩; have S := S.call hb; clear hb)
      | ((with_reducible refine (HX2.out _ S.below).mono ?_); rintro e w2 ⟨rfl, hb⟩; have S := S.call hb; clear hb)
      | ((with_reducible show wpList _ _ _ (Oper.mk _ (Op.load _ (Operand.tmp 5)) _ _ _ _ :: _) _ _); refine wpList_cellS rfl _ _ rfl S _ _ rfl 1 _ _ rfl _ Try.underlying28 rfl _ (by with_reducible exact p0) ?_)
      | ((with_reducible show wpList _ _ _ (Oper.mk _ (Op.load _ (Operand.tmp 7)) _ _ _ _ :: _) _ _); refine wpList_cellS rfl _ _ rfl S _ _ rfl 0 _ _ rfl _ Try.underlying28 rfl _ (by with_reducible exact q0) ?_)
      | ((with_reducible show wpList _ _ _ (Oper.mk _ (Op.load _ (Operand.tmp 11)) _ _ _ _ :: _) _ _); refine wpList_cellS rfl _ _ rfl S _ _ rfl 1 _ _ rfl _ Try.underlying3 rfl _ (by with_reducible exact p1) ?_)
      | ((with_reducible show wpList _ _ _ (Oper.mk _ (Op.load _ (Operand.tmp 13)) _ _ _ _ :: _) _ _); refine wpList_cellS rfl _ _ rfl S _ _ rfl 0 _ _ rfl _ Try.underlying3 rfl _ (by with_reducible exact q1) ?_)
      | ((with_reducible show wpList _ _ _ (Oper.mk _ (Op.load _ (Operand.tmp 18)) _ _ _ _ :: _) _ _); refine wpList_cellS rfl _ _ rfl S _ _ rfl 1 _ _ rfl _ Try.underlying3 rfl _ (by with_reducible exact p2) ?_)
      | ((with_reducible show wpList _ _ _ (Oper.mk _ (Op.load _ (Operand.tmp 20)) _ _ _ _ :: _) _ _); refine wpList_cellS rfl _ _ rfl S _ _ rfl 0 _ _ rfl _ Try.underlying3 rfl _ (by with_reducible exact q2) ?_)
      | ((with_reducible show wpList _ _ _ (Oper.mk _ (Op.load _ (Operand.tmp 25)) _ _ _ _ :: _) _ _); refine wpList_cellS rfl _ _ rfl S _ _ rfl 1 _ _ rfl _ Try.underlying3 rfl _ (by with_reducible exact p3) ?_)
      | ((with_reducible show wpList _ _ _ (Oper.mk _ (Op.load _ (Operand.tmp 27)) _ _ _ _ :: _) _ _); refine wpList_cellS rfl _ _ rfl S _ _ rfl 0 _ _ rfl _ Try.underlying3 rfl _ (by with_reducible exact q3) ?_)
      | ((with_reducible show wpList _ _ _ (Oper.mk (some 33) (Op.load _ _) _ _ _ _ :: _) _ _); refine wpList_partS rfl _ _ rfl S _ _ rfl 1 _ _ rfl _ Try.underlying31 rfl _ HASP.out HAP.out ?_)
      | ((with_reducible show wpList _ _ _ (Oper.mk (some 35) (Op.load _ _) _ _ _ _ :: _) _ _); refine wpList_partS rfl _ _ rfl S _ _ rfl 0 _ _ rfl _ Try.underlying31 rfl _ HASQ.out HAQ.out ?_)
      | ((with_reducible show wpList _ _ _ (Oper.mk _ (Op.load _ (Operand.tmp 39)) _ _ _ _ :: _) _ _); refine wpList_cellS rfl _ _ rfl S _ _ rfl 1 _ _ rfl _ Try.underlying28 rfl _ (by with_reducible exact p5) ?_)
      | ((with_reducible show wpList _ _ _ (Oper.mk _ (Op.load _ (Operand.tmp 41)) _ _ _ _ :: _) _ _); refine wpList_cellS rfl _ _ rfl S _ _ rfl 0 _ _ rfl _ Try.underlying28 rfl _ (by with_reducible exact q5) ?_)
      | ((with_reducible show wpList _ _ _ (Oper.mk _ (Op.load _ (Operand.tmp 46)) _ _ _ _ :: _) _ _); refine wpList_cellS rfl _ _ rfl S _ _ rfl 1 _ _ rfl _ Try.underlying28 rfl _ (by with_reducible exact p6) ?_)
      | ((with_reducible show wpList _ _ _ (Oper.mk _ (Op.load _ (Operand.tmp 48)) _ _ _ _ :: _) _ _); refine wpList_cellS rfl _ _ rfl S _ _ rfl 0 _ _ rfl _ Try.underlying28 rfl _ (by with_reducible exact q6) ?_)
      | ((with_reducible show wpList _ _ _ (Oper.mk _ (Op.load _ (Operand.tmp 53)) _ _ _ _ :: _) _ _); refine wpList_cellS rfl _ _ rfl S _ _ rfl 1 _ _ rfl _ Try.underlying3 rfl _ (by with_reducible exact p7) ?_)
      | ((with_reducible show wpList _ _ _ (Oper.mk _ (Op.load _ (Operand.tmp 55)) _ _ _ _ :: _) _ _); refine wpList_cellS rfl _ _ rfl S _ _ rfl 0 _ _ rfl _ Try.underlying3 rfl _ (by with_reducible exact q7) ?_)
      | ((with_reducible show wpList _ _ _ (Oper.mk _ (Op.load _ (Operand.tmp 60)) _ _ _ _ :: _) _ _); refine wpList_cellS rfl _ _ rfl S _ _ rfl 1 _ _ rfl _ Try.underlying3 rfl _ (by with_reducible exact p8) ?_)
      | ((with_reducible show wpList _ _ _ (Oper.mk _ (Op.load _ (Operand.tmp 62)) _ _ _ _ :: _) _ _); refine wpList_cellS rfl _ _ rfl S _ _ rfl 0 _ _ rfl _ Try.underlying3 rfl _ (by with_reducible exact q8) ?_)
      | ((with_reducible show wpList _ _ _ (Oper.mk _ (Op.load _ (Operand.tmp 67)) _ _ _ _ :: _) _ _); refine wpList_cellS rfl _ _ rfl S _ _ rfl 1 _ _ rfl _ Try.underlying3 rfl _ (by with_reducible exact p9) ?_)
      | ((with_reducible show wpList _ _ _ (Oper.mk _ (Op.load _ (Operand.tmp 69)) _ _ _ _ :: _) _ _); refine wpList_cellS rfl _ _ rfl S _ _ rfl 0 _ _ rfl _ Try.underlying3 rfl _ (by with_reducible exact q9) ?_)
      | ((with_reducible show wpList _ _ _ (Oper.mk (some 75) (Op.load _ _) _ _ _ _ :: _) _ _); refine wpList_partS rfl _ _ rfl S _ _ rfl 1 _ _ rfl _ Try.underlying32 rfl [.int .i64 (R.nu 3), .int .i64 (R.nu 4), .int .i64 (R.nu 5), .int .i64 (R.nu 6), .int .i64 (R.nu 7)] (HNZ.out (R.nu 3) (R.nu 4) (R.nu 5) (R.nu 6) (R.nu 7)) HNP.out ?_)
      | ((with_reducible show wpList _ _ _ (Oper.mk (some 77) (Op.load _ _) _ _ _ _ :: _) _ _); refine wpList_partS rfl _ _ rfl S _ _ rfl 0 _ _ rfl _ Try.underlying32 rfl [.int .i64 (Q.nu 3), .int .i64 (Q.nu 4), .int .i64 (Q.nu 5), .int .i64 (Q.nu 6), .int .i64 (Q.nu 7)] (HNZ.out (Q.nu 3) (Q.nu 4) (Q.nu 5) (Q.nu 6) (Q.nu 7)) HNQ.out ?_)
      | ((with_reducible show wpList _ _ _ (Oper.mk _ (Op.load _ (Operand.tmp 81)) _ _ _ _ :: _) _ _); refine wpList_cellS rfl _ _ rfl S _ _ rfl 1 _ _ rfl _ Try.underlying9 rfl _ (by with_reducible exact p11) ?_)
      | ((with_reducible show wpList _ _ _ (Oper.mk _ (Op.load _ (Operand.tmp 83)) _ _ _ _ :: _) _ _); refine wpList_cellS rfl _ _ rfl S _ _ rfl 0 _ _ rfl _ Try.underlying9 rfl _ (by with_reducible exact q11) ?_))
    go_ret
    exact ⟨rfl, S.below⟩
  | true =>
    have t1 := HT1.out
    cases b1 with
    | false =>
      go_enter Try.func9, Try.ntmps9
      simp only [List.append_eq, List.cons_append, List.nil_append]
      go_wp2_with (first
        | ((with_reducible show wpList _ _ _ (Oper.mk (some 2) (Op.box _ _) _ _ _ _ :: _) _ _); refine wpList_boxS rfl _ _ rfl x rfl S ?_; clear S; intro ga w1 S)
        | ((with_reducible show wpList _ _ _ (Oper.mk (some 3) (Op.box _ _) _ _ _ _ :: _) _ _); refine wpList_boxS rfl _ _ rfl y rfl S ?_; clear S; intro gb w1 S)
        | ((with_reducible refine (HX0.out _ S.below).mono ?_); rintro e w2 ⟨rfl, hb⟩; have S := S.call hb; clear hb)
        | ((with_reducible refine (HX1.out _ S.below).mono ?_); rintro e w2 ⟨rfl, hb⟩; have S := S.call hb; clear hb)
        | ((with_reducible refine (HX2.out _ S.below).mono ?_); rintro e w2 ⟨rfl, hb⟩; have S := S.call hb; clear hb)
        | ((with_reducible show wpList _ _ _ (Oper.mk _ (Op.load _ (Operand.tmp 5)) _ _ _ _ :: _) _ _); refine wpList_cellS rfl _ _ rfl S _ _ rfl 1 _ _ rfl _ Try.underlying28 rfl _ (by with_reducible exact p0) ?_)
        | ((with_reducible show wpList _ _ _ (Oper.mk _ (Op.load _ (Operand.tmp 7)) _ _ _ _ :: _) _ _); refine wpList_cellS rfl _ _ rfl S _ _ rfl 0 _ _ rfl _ Try.underlying28 rfl _ (by with_reducible exact q0) ?_)
        | ((with_reducible show wpList _ _ _ (Oper.mk _ (Op.load _ (Operand.tmp 11)) _ _ _ _ :: _) _ _); refine wpList_cellS rfl _ _ rfl S _ _ rfl 1 _ _ rfl _ Try.underlying3 rfl _ (by with_reducible exact p1) ?_)
        | ((with_reducible show wpList _ _ _ (Oper.mk _ (Op.load _ (Operand.tmp 13)) _ _ _ _ :: _) _ _); refine wpList_cellS rfl _ _ rfl S _ _ rfl 0 _ _ rfl _ Try.underlying3 rfl _ (by with_reducible exact q1) ?_)
        | ((with_reducible show wpList _ _ _ (Oper.mk _ (Op.load _ (Operand.tmp 18)) _ _ _ _ :: _) _ _); refine wpList_cellS rfl _ _ rfl S _ _ rfl 1 _ _ rfl _ Try.underlying3 rfl _ (by with_reducible exact p2) ?_)
        | ((with_reducible show wpList _ _ _ (Oper.mk _ (Op.load _ (Operand.tmp 20)) _ _ _ _ :: _) _ _); refine wpList_cellS rfl _ _ rfl S _ _ rfl 0 _ _ rfl _ Try.underlying3 rfl _ (by with_reducible exact q2) ?_)
        | ((with_reducible show wpList _ _ _ (Oper.mk _ (Op.load _ (Operand.tmp 25)) _ _ _ _ :: _) _ _); refine wpList_cellS rfl _ _ rfl S _ _ rfl 1 _ _ rfl _ Try.underlying3 rfl _ (by with_reducible exact p3) ?_)
        | ((with_reducible show wpList _ _ _ (Oper.mk _ (Op.load _ (Operand.tmp 27)) _ _ _ _ :: _) _ _); refine wpList_cellS rfl _ _ rfl S _ _ rfl 0 _ _ rfl _ Try.underlying3 rfl _ (by with_reducible exact q3) ?_)
        | ((with_reducible show wpList _ _ _ (Oper.mk (some 33) (Op.load _ _) _ _ _ _ :: _) _ _); refine wpList_partS rfl _ _ rfl S _ _ rfl 1 _ _ rfl _ Try.underlying31 rfl _ HASP.out HAP.out ?_)
        | ((with_reducible show wpList _ _ _ (Oper.mk (some 35) (Op.load _ _) _ _ _ _ :: _) _ _); refine wpList_partS rfl _ _ rfl S _ _ rfl 0 _ _ rfl _ Try.underlying31 rfl _ HASQ.out HAQ.out ?_)
        | ((with_reducible show wpList _ _ _ (Oper.mk _ (Op.load _ (Operand.tmp 39)) _ _ _ _ :: _) _ _); refine wpList_cellS rfl _ _ rfl S _ _ rfl 1 _ _ rfl _ Try.underlying28 rfl _ (by with_reducible exact p5) ?_)
        | ((with_reducible show wpList _ _ _ (Oper.mk _ (Op.load _ (Operand.tmp 41)) _ _ _ _ :: _) _ _); refine wpList_cellS rfl _ _ rfl S _ _ rfl 0 _ _ rfl _ Try.underlying28 rfl _ (by with_reducible exact q5) ?_)
        | ((with_reducible show wpList _ _ _ (Oper.mk _ (Op.load _ (Operand.tmp 46)) _ _ _ _ :: _) _ _); refine wpList_cellS rfl _ _ rfl S _ _ rfl 1 _ _ rfl _ Try.underlying28 rfl _ (by with_reducible exact p6) ?_)
        | ((with_reducible show wpList _ _ _ (Oper.mk _ (Op.load _ (Operand.tmp 48)) _ _ _ _ :: _) _ _); refine wpList_cellS rfl _ _ rfl S _ _ rfl 0 _ _ rfl _ Try.underlying28 rfl _ (by with_reducible exact q6) ?_)
        | ((with_reducible show wpList _ _ _ (Oper.mk _ (Op.load _ (Operand.tmp 53)) _ _ _ _ :: _) _ _); refine wpList_cellS rfl _ _ rfl S _ _ rfl 1 _ _ rfl _ Try.underlying3 rfl _ (by with_reducible exact p7) ?_)
        | ((with_reducible show wpList _ _ _ (Oper.mk _ (Op.load _ (Operand.tmp 55)) _ _ _ _ :: _) _ _); refine wpList_cellS rfl _ _ rfl S _ _ rfl 0 _ _ rfl _ Try.underlying3 rfl _ (by with_reducible exact q7) ?_)
        | ((with_reducible show wpList _ _ _ (Oper.mk _ (Op.load _ (Operand.tmp 60)) _ _ _ _ :: _) _ _); refine wpList_cellS rfl _ _ rfl S _ _ rfl 1 _ _ rfl _ Try.underlying3 rfl _ (by with_reducible exact p8) ?_)
        | ((with_reducible show wpList _ _ _ (Oper.mk _ (Op.load _ (Operand.tmp 62)) _ _ _ _ :: _) _ _); refine wpList_cellS rfl _ _ rfl S _ _ rfl 0 _ _ rfl _ Try.underlying3 rfl _ (by with_reducible exact q8) ?_)
        | ((with_reducible show wpList _ _ _ (Oper.mk _ (Op.load _ (Operand.tmp 67)) _ _ _ _ :: _) _ _); refine wpList_cellS rfl _ _ rfl S _ _ rfl 1 _ _ rfl _ Try.underlying3 rfl _ (by with_reducible exact p9) ?_)
        | ((with_reducible show wpList _ _ _ (Oper.mk _ (Op.load _ (Operand.tmp 69)) _ _ _ _ :: _) _ _); refine wpList_cellS rfl _ _ rfl S _ _ rfl 0 _ _ rfl _ Try.underlying3 rfl _ (by with_reducible exact q9) ?_)
        | ((with_reducible show wpList _ _ _ (Oper.mk (some 75) (Op.load _ _) _ _ _ _ :: _) _ _); refine wpList_partS rfl _ _ rfl S _ _ rfl 1 _ _ rfl _ Try.underlying32 rfl [.int .i64 (R.nu 3), .int .i64 (R.nu 4), .int .i64 (R.nu 5), .int .i64 (R.nu 6), .int .i64 (R.nu 7)] (HNZ.out (R.nu 3) (R.nu 4) (R.nu 5) (R.nu 6) (R.nu 7)) HNP.out ?_)
        | ((with_reducible show wpList _ _ _ (Oper.mk (some 77) (Op.load _ _) _ _ _ _ :: _) _ _); refine wpList_partS rfl _ _ rfl S _ _ rfl 0 _ _ rfl _ Try.underlying32 rfl [.int .i64 (Q.nu 3), .int .i64 (Q.nu 4), .int .i64 (Q.nu 5), .int .i64 (Q.nu 6), .int .i64 (Q.nu 7)] (HNZ.out (Q.nu 3) (Q.nu 4) (Q.nu 5) (Q.nu 6) (Q.nu 7)) HNQ.out ?_)
        | ((with_reducible show wpList _ _ _ (Oper.mk _ (Op.load _ (Operand.tmp 81)) _ _ _ _ :: _) _ _); refine wpList_cellS rfl _ _ rfl S _ _ rfl 1 _ _ rfl _ Try.underlying9 rfl _ (by with_reducible exact p11) ?_)
        | ((with_reducible show wpList _ _ _ (Oper.mk _ (Op.load _ (Operand.tmp 83)) _ _ _ _ :: _) _ _); refine wpList_cellS rfl _ _ rfl S _ _ rfl 0 _ _ rfl _ Try.underlying9 rfl _ (by with_reducible exact q11) ?_))
      go_ret
      exact ⟨rfl, S.below⟩
    | true =>
      have t2 := HT2.out
      cases b2 with
      | false =>
        go_enter Try.func9, Try.ntmps9
        simp only [List.append_eq, List.cons_append, List.nil_append]
        go_wp2_with (first
          | ((with_reducible show wpList _ _ _ (Oper.mk (some 2) (Op.box _ _) _ _ _ _ :: _) _ _); refine wpList_boxS rfl _ _ rfl x rfl S ?_; clear S; intro ga w1 S)
          | ((with_reducible show wpList _ _ _ (Oper.mk (some 3) (Op.box _ _) _ _ _ _ :: _) _ _); refine wpList_boxS rfl _ _ rfl y rfl S ?_; clear S; intro gb w1 S)
          | ((with_reducible refine (HX0.out _ S.below).mono ?_); rintro e w2 ⟨rfl, hb⟩; have S := S.call hb; clear hb)
          | ((with_reducible refine (HX1.out _ S.below).mono ?_); rintro e w2 ⟨rfl, hb⟩; have S := S.call hb; clear hb)
          | ((with_reducible refine (HX2.out _ S.below).mono ?_); rintro e w2 ⟨rfl, hb⟩; have S := S.call hb; clear hb)
          | ((with_reducible show wpList _ _ _ (Oper.mk _ (Op.load _ (Operand.tmp 5)) _ _ _ _ :: _) _ _); refine wpList_cellS rfl _ _ rfl S _ _ rfl 1 _ _ rfl _ Try.underlying28 rfl _ (by with_reducible exact p0) ?_)
          | ((with_reducible show wpList _ _ _ (Oper.mk _ (Op.load _ (Operand.tmp 7)) _ _ _ _ :: _) _ _); refine wpList_cellS rfl _ _ rfl S _ _ rfl 0 _ _ rfl _ Try.underlying28 rfl _ (by with_reducible exact q0) ?_)
          | ((with_reducible show wpList _ _ _ (Oper.mk _ (Op.load _ (Operand.tmp 11)) _ _ _ _ :: _) _ _); refine wpList_cellS rfl _ _ rfl S _ _ rfl 1 _ _ rfl _ Try.underlying3 rfl _ (by with_reducible exact p1) ?_)
          | ((with_reducible show wpList _ _ _ (Oper.mk _ (Op.load _ (Operand.tmp 13)) _ _ _ _ :: _) _ _); refine wpList_cellS rfl _ _ rfl S _ _ rfl 0 _ _ rfl _ Try.underlying3 rfl _ (by with_reducible exact q1) ?_)
          | ((with_reducible show wpList _ _ _ (Oper.mk _ (Op.load _ (Operand.tmp 18)) _ _ _ _ :: _) _ _); refine wpList_cellS rfl _ _ rfl S _ _ rfl 1 _ _ rfl _ Try.underlying3 rfl _ (by with_reducible exact p2) ?_)
          | ((with_reducible show wpList _ _ _ (Oper.mk _ (Op.load _ (Operand.tmp 20)) _ _ _ _ :: _) _ _); refine wpList_cellS rfl _ _ rfl S _ _ rfl 0 _ _ rfl _ Try.underlying3 rfl _ (by with_reducible exact q2) ?_)
          | ((with_reducible show wpList _ _ _ (Oper.mk _ (Op.load _ (Operand.tmp 25)) _ _ _ _ :: _) _ _); refine wpList_cellS rfl _ _ rfl S _ _ rfl 1 _ _ rfl _ Try.underlying3 rfl _ (by with_reducible exact p3) ?_)
          | ((with_reducible show wpList _ _ _ (Oper.mk _ (Op.load _ (Operand.tmp 27)) _ _ _ _ :: _) _ _); refine wpList_cellS rfl _ _ rfl S _ _ rfl 0 _ _ rfl _ Try.underlying3 rfl _ (by with_reducible exact q3) ?_)
          | ((with_reducible show wpList _ _ _ (Oper.mk (some 33) (Op.load _ _) _ _ _ _ :: _) _ _); refine wpList_partS rfl _ _ rfl S _ _ rfl 1 _ _ rfl _ Try.underlying31 rfl _ HASP.out HAP.out ?_)
          | ((with_reducible show wpList _ _ _ (Oper.mk (some 35) (Op.load _ _) _ _ _ _ :: _) _ _); refine wpList_partS rfl _ _ rfl S _ _ rfl 0 _ _ rfl _ Try.underlying31 rfl _ HASQ.out HAQ.out ?_)
          | ((with_reducible show wpList _ _ _ (Oper.mk _ (Op.load _ (Operand.tmp 39)) _ _ _ _ :: _) _ _); refine wpList_cellS rfl _ _ rfl S _ _ rfl 1 _ _ rfl _ Try.underlying28 rfl _ (by with_reducible exact p5) ?_)
          | ((with_reducible show wpList _ _ _ (Oper.mk _ (Op.load _ (Operand.tmp 41)) _ _ _ _ :: _) _ _); refine wpList_cellS rfl _ _ rfl S _ _ rfl 0 _ _ rfl _ Try.underlying28 rfl _ (by with_reducible exact q5) ?_)
          | ((with_reducible show wpList _ _ _ (Oper.mk _ (Op.load _ (Operand.tmp 46)) _ _ _ _ :: _) _ _); refine wpList_cellS rfl _ _ rfl S _ _ rfl 1 _ _ rfl _ Try.underlying28 rfl _ (by with_reducible exact p6) ?_)
          | ((with_reducible show wpList _ _ _ (Oper.mk _ (Op.load _ (Operand.tmp 48)) _ _ _ _ :: _) _ _); refine wpList_cellS rfl _ _ rfl S _ _ rfl 0 _ _ rfl _ Try.underlying28 rfl _ (by with_reducible exact q6) ?_)
          | ((with_reducible show wpList _ _ _ (Oper.mk _ (Op.load _ (Operand.tmp 53)) _ _ _ _ :: _) _ _); refine wpList_cellS rfl _ _ rfl S _ _ rfl 1 _ _ rfl _ Try.underlying3 rfl _ (by with_reducible exact p7) ?_)
          | ((with_reducible show wpList _ _ _ (Oper.mk _ (Op.load _ (Operand.tmp 55)) _ _ _ _ :: _) _ _); refine wpList_cellS rfl _ _ rfl S _ _ rfl 0 _ _ rfl _ Try.underlying3 rfl _ (by with_reducible exact q7) ?_)
          | ((with_reducible show wpList _ _ _ (Oper.mk _ (Op.load _ (Operand.tmp 60)) _ _ _ _ :: _) _ _); refine wpList_cellS rfl _ _ rfl S _ _ rfl 1 _ _ rfl _ Try.underlying3 rfl _ (by with_reducible exact p8) ?_)
          | ((with_reducible show wpList _ _ _ (Oper.mk _ (Op.load _ (Operand.tmp 62)) _ _ _ _ :: _) _ _); refine wpList_cellS rfl _ _ rfl S _ _ rfl 0 _ _ rfl _ Try.underlying3 rfl _ (by with_reducible exact q8) ?_)
          | ((with_reducible show wpList _ _ _ (Oper.mk _ (Op.load _ (Operand.tmp 67)) _ _ _ _ :: _) _ _); refine wpList_cellS rfl _ _ rfl S _ _ rfl 1 _ _ rfl _ Try.underlying3 rfl _ (by with_reducible exact p9) ?_)
          | ((with_reducible show wpList _ _ _ (Oper.mk _ (Op.load _ (Operand.tmp 69)) _ _ _ _ :: _) _ _); refine wpList_cellS rfl _ _ rfl S _ _ rfl 0 _ _ rfl _ Try.underlying3 rfl _ (by with_reducible exact q9) ?_)
          | ((with_reducible show wpList _ _ _ (Oper.mk (some 75) (Op.load _ _) _ _ _ _ :: _) _ _); refine wpList_partS rfl _ _ rfl S _ _ rfl 1 _ _ rfl _ Try.underlying32 rfl [.int .i64 (R.nu 3), .int .i64 (R.nu 4), .int .i64 (R.nu 5), .int .i64 (R.nu 6), .int .i64 (R.nu 7)] (HNZ.out (R.nu 3) (R.nu 4) (R.nu 5) (R.nu 6) (R.nu 7)) HNP.out ?_)
          | ((with_reducible show wpList _ _ _ (Oper.mk (some 77) (Op.load _ _) _ _ _ _ :: _) _ _); refine wpList_partS rfl _ _ rfl S _ _ rfl 0 _ _ rfl _ Try.underlying32 rfl [.int .i64 (Q.nu 3), .int .i64 (Q.nu 4), .int .i64 (Q.nu 5), .int .i64 (Q.nu 6), .int .i64 (Q.nu 7)] (HNZ.out (Q.nu 3) (Q.nu 4) (Q.nu 5) (Q.nu 6) (Q.nu 7)) HNQ.out ?_)
          | ((with_reducible show wpList _ _ _ (Oper.mk _ (Op.load _ (Operand.tmp 81)) _ _ _ _ :: _) _ _); refine wpList_cellS rfl _ _ rfl S _ _ rfl 1 _ _ rfl _ Try.underlying9 rfl _ (by with_reducible exact p11) ?_)
          | ((with_reducible show wpList _ _ _ (Oper.mk _ (Op.load _ (Operand.tmp 83)) _ _ _ _ :: _) _ _); refine wpList_cellS rfl _ _ rfl S _ _ rfl 0 _ _ rfl _ Try.underlying9 rfl _ (by with_reducible exact q11) ?_))
        go_ret
        exact ⟨rfl, S.below⟩
      | true =>
        have t3 := HT3.out
        cases b3 with
        | false =>
          go_enter Try.func9, Try.ntmps9
          simp only [List.append_eq, List.cons_append, List.nil_append]
          go_wp2_with (first
            | ((with_reducible show wpList _ _ _ (Oper.mk (some 2) (Op.box _ _) _ _ _ _ :: _) _ _); refine wpList_boxS rfl _ _ rfl x rfl S ?_; clear S; intro ga w1 S)
            | ((with_reducible show wpList _ _ _ (Oper.mk (some 3) (Op.box _ _) _ _ _ _ :: _) _ _); refine wpList_boxS rfl _ _ rfl y rfl S ?_; clear S; intro gb w1 S)
            | ((with_reducible refine (HX0.out _ S.below).mono ?_); rintro e w2 ⟨rfl, hb⟩; have S := S.call hb; clear hb)
            | ((with_reducible refine (HX1.out _ S.below).mono ?_); rintro e w2 ⟨rfl, hb⟩; have S := S.call hb; clear hb)
            | ((with_reducible refine (HX2.out _ S.below).mono ?_); rintro e w2 ⟨rfl, hb⟩; have S := S.call hb; clear hb)
            | ((with_reducible show wpList _ _ _ (Oper.mk _ (Op.load _ (Operand.tmp 5)) _ _ _ _ :: _) _ _); refine wpList_cellS rfl _ _ rfl S _ _ rfl 1 _ _ rfl _ Try.underlying28 rfl _ (by with_reducible exact p0) ?_)
            | ((with_reducible show wpList _ _ _ (Oper.mk _ (Op.load _ (Operand.tmp 7)) _ _ _ _ :: _) _ _); refine wpList_cellS rfl _ _ rfl S _ _ rfl 0 _ _ rfl _ Try.underlying28 rfl _ (by with_reducible exact q0) ?_)
            | ((with_reducible show wpList _ _ _ (Oper.mk _ (Op.load _ (Operand.tmp 11)) _ _ _ _ :: _) _ _); refine wpList_cellS rfl _ _ rfl S _ _ rfl 1 _ _ rfl _ Try.underlying3 rfl _ (by with_reducible exact p1) ?_)
            | ((with_reducible show wpList _ _ _ (Oper.mk _ (Op.load _ (Operand.tmp 13)) _ _ _ _ :: _) _ _); refine wpList_cellS rfl _ _ rfl S _ _ rfl 0 _ _ rfl _ Try.underlying3 rfl _ (by with_reducible exact q1) ?_)
            | ((with_reducible show wpList _ _ _ (Oper.mk _ (Op.load _ (Operand.tmp 18)) _ _ _ _ :: _) _ _); refine wpList_cellS rfl _ _ rfl S _ _ rfl 1 _ _ rfl _ Try.underlying3 rfl _ (by with_reducible exact p2) ?_)
            | ((with_reducible show wpList _ _ _ (Oper.mk _ (Op.load _ (Operand.tmp 20)) _ _ _ _ :: _) _ _); refine wpList_cellS rfl _ _ rfl S _ _ rfl 0 _ _ rfl _ Try.underlying3 rfl _ (by with_reducible exact q2) ?_)
            | ((with_reducible show wpList _ _ _ (Oper.mk _ (Op.load _ (Operand.tmp 25)) _ _ _ _ :: _) _ _); refine wpList_cellS rfl _ _ rfl S _ _ rfl 1 _ _ rfl _ Try.underlying3 rfl _ (by with_reducible exact p3) ?_)
            | ((with_reducible show wpList _ _ _ (Oper.mk _ (Op.load _ (Operand.tmp 27)) _ _ _ _ :: _) _ _); refine wpList_cellS rfl _ _ rfl S _ _ rfl 0 _ _ rfl _ Try.underlying3 rfl _ (by with_reducible exact q3) ?_)
            | ((with_reducible show wpList _ _ _ (Oper.mk (some 33) (Op.load _ _) _ _ _ _ :: _) _ _); refine wpList_partS rfl _ _ rfl S _ _ rfl 1 _ _ rfl _ Try.underlying31 rfl _ HASP.out HAP.out ?_)
            | ((with_reducible show wpList _ _ _ (Oper.mk (some 35) (Op.load _ _) _ _ _ _ :: _) _ _); refine wpList_partS rfl _ _ rfl S _ _ rfl 0 _ _ rfl _ Try.underlying31 rfl _ HASQ.out HAQ.out ?_)
            | ((with_reducible show wpList _ _ _ (Oper.mk _ (Op.load _ (Operand.tmp 39)) _ _ _ _ :: _) _ _); refine wpList_cellS rfl _ _ rfl S _ _ rfl 1 _ _ rfl _ Try.underlying28 rfl _ (by with_reducible exact p5) ?_)
            | ((with_reducible show wpList _ _ _ (Oper.mk _ (Op.load _ (Operand.tmp 41)) _ _ _ _ :: _) _ _); refine wpList_cellS rfl _ _ rfl S _ _ rfl 0 _ _ rfl _ Try.underlying28 rfl _ (by with_reducible exact q5) ?_)
            | ((with_reducible show wpList _ _ _ (Oper.mk _ (Op.load _ (Operand.tmp 46)) _ _ _ _ :: _) _ _); refine wpList_cellS rfl _ _ rfl S _ _ rfl 1 _ _ rfl _ Try.underlying28 rfl _ (by with_reducible exact p6) ?_)
            | ((with_reducible show wpList _ _ _ (Oper.mk _ (Op.load _ (Operand.tmp 48)) _ _ _ _ :: _) _ _); refine wpList_cellS rfl _ _ rfl S _ _ rfl 0 _ _ rfl _ Try.underlying28 rfl _ (by with_reducible exact q6) ?_)
            | ((with_reducible show wpList _ _ _ (Oper.mk _ (Op.load _ (Operand.tmp 53)) _ _ _ _ :: _) _ _); refine wpList_cellS rfl _ _ rfl S _ _ rfl 1 _ _ rfl _ Try.underlying3 rfl _ (by with_reducible exact p7) ?_)
            | ((with_reducible show wpList _ _ _ (Oper.mk _ (Op.load _ (Operand.tmp 55)) _ _ _ _ :: _) _ _); refine wpList_cellS rfl _ _ rfl S _ _ rfl 0 _ _ rfl _ Try.underlying3 rfl _ (by with_reducible exact q7) ?_)
            | ((with_reducible show wpList _ _ _ (Oper.mk _ (Op.load _ (Operand.tmp 60)) _ _ _ _ :: _) _ _); refine wpList_cellS rfl _ _ rfl S _ _ rfl 1 _ _ rfl _ Try.underlying3 rfl _ (by with_reducible exact p8) ?_)
            | ((with_reducible show wpList _ _ _ (Oper.mk _ (Op.load _ (Operand.tmp 62)) _ _ _ _ :: _) _ _); refine wpList_cellS rfl _ _ rfl S _ _ rfl 0 _ _ rfl _ Try.underlying3 rfl _ (by with_reducible exact q8) ?_)
            | ((with_reducible show wpList _ _ _ (Oper.mk _ (Op.load _ (Operand.tmp 67)) _ _ _ _ :: _) _ _); refine wpList_cellS rfl _ _ rfl S _ _ rfl 1 _ _ rfl _ Try.underlying3 rfl _ (by with_reducible exact p9) ?_)
            | ((with_reducible show wpList _ _ _ (Oper.mk _ (Op.load _ (Operand.tmp 69)) _ _ _ _ :: _) _ _); refine wpList_cellS rfl _ _ rfl S _ _ rfl 0 _ _ rfl _ Try.underlying3 rfl _ (by with_reducible exact q9) ?_)
            | ((with_reducible show wpList _ _ _ (Oper.mk (some 75) (Op.load _ _) _ _ _ _ :: _) _ _); refine wpList_partS rfl _ _ rfl S _ _ rfl 1 _ _ rfl _ Try.underlying32 rfl [.int .i64 (R.nu 3), .int .i64 (R.nu 4), .int .i64 (R.nu 5), .int .i64 (R.nu 6), .int .i64 (R.nu 7)] (HNZ.out (R.nu 3) (R.nu 4) (R.nu 5) (R.nu 6) (R.nu 7)) HNP.out ?_)
            | ((with_reducible show wpList _ _ _ (Oper.mk (some 77) (Op.load _ _) _ _ _ _ :: _) _ _); refine wpList_partS rfl _ _ rfl S _ _ rfl 0 _ _ rfl _ Try.underlying32 rfl [.int .i64 (Q.nu 3), .int .i64 (Q.nu 4), .int .i64 (Q.nu 5), .int .i64 (Q.nu 6), .int .i64 (Q.nu 7)] (HNZ.out (Q.nu 3) (Q.nu 4) (Q.nu 5) (Q.nu 6) (Q.nu 7)) HNQ.out ?_)
            | ((with_reducible show wpList _ _ _ (Oper.mk _ (Op.load _ (Operand.tmp 81)) _ _ _ _ :: _) _ _); refine wpList_cellS rfl _ _ rfl S _ _ rfl 1 _ _ rfl _ Try.underlying9 rfl _ (by with_reducible exact p11) ?_)
            | ((with_reducible show wpList _ _ _ (Oper.mk _ (Op.load _ (Operand.tmp 83)) _ _ _ _ :: _) _ _); refine wpList_cellS rfl _ _ rfl S _ _ rfl 0 _ _ rfl _ Try.underlying9 rfl _ (by with_reducible exact q11) ?_))
          go_ret
          exact ⟨rfl, S.below⟩
        | true =>
          cases b4 with
          | false =>
            go_enter Try.func9, Try.ntmps9
            simp only [List.append_eq, List.cons_append, List.nil_append]
            go_wp2_with (first
              | ((with_reducible show wpList _ _ _ (Oper.mk (some 2) (Op.box _ _) _ _ _ _ :: _) _ _); refine wpList_boxS rfl _ _ rfl x rfl S ?_; clear S; intro ga w1 S)
              | ((with_reducible show wpList _ _ _ (Oper.mk (some 3) (Op.box _ _) _ _ _ _ :: _) _ _); refine wpList_boxS rfl _ _ rfl y rfl S ?_; clear S; intro gb w1 S)
              | ((with_reducible refine (HX0.out _ S.below).mono ?_); rintro e w2 ⟨rfl, hb⟩; have S := S.call hb; clear hb)
              | ((with_reducible refine (HX1.out _ S.below).mono ?_); rintro e w2 ⟨rfl, hb⟩; have S := S.call hb; clear hb)
              | ((with_reducible refine (HX2.out _ S.below).mono ?_); rintro e w2 ⟨rfl, hb⟩; have S := S.call hb; clear hb)
              | ((with_reducible show wpList _ _ _ (Oper.mk _ (Op.load _ (Operand.tmp 5)) _ _ _ _ :: _) _ _); refine wpList_cellS rfl _ _ rfl S _ _ rfl 1 _ _ rfl _ Try.underlying28 rfl _ (by with_reducible exact p0) ?_)
              | ((with_reducible show wpList _ _ _ (Oper.mk _ (Op.load _ (Operand.tmp 7)) _ _ _ _ :: _) _ _); refine wpList_cellS rfl _ _ rfl S _ _ rfl 0 _ _ rfl _ Try.underlying28 rfl _ (by with_reducible exact q0) ?_)
              | ((with_reducible show wpList _ _ _ (Oper.mk _ (Op.load _ (Operand.tmp 11)) _ _ _ _ :: _) _ _); refine wpList_cellS rfl _ _ rfl S _ _ rfl 1 _ _ rfl _ Try.underlying3 rfl _ (by with_reducible exact p1) ?_)
              | ((with_reducible show wpList _ _ _ (Oper.mk _ (Op.load _ (Operand.tmp 13)) _ _ _ _ :: _) _ _); refine wpList_cellS rfl _ _ rfl S _ _ rfl 0 _ _ rfl _ Try.underlying3 rfl _ (by with_reducible exact q1) ?_)
              | ((with_reducible show wpList _ _ _ (Oper.mk _ (Op.load _ (Operand.tmp 18)) _ _ _ _ :: _) _ _); refine wpList_cellS rfl _ _ rfl S _ _ rfl 1 _ _ rfl _ Try.underlying3 rfl _ (by with_reducible exact p2) ?_)
              | ((with_reducible show wpList _ _ _ (Oper.mk _ (Op.load _ (Operand.tmp 20)) _ _ _ _ :: _) _ _); refine wpList_cellS rfl _ _ rfl S _ _ rfl 0 _ _ rfl _ Try.underlying3 rfl _ (by with_reducible exact q2) ?_)
              | ((with_reducible show wpList _ _ _ (Oper.mk _ (Op.load _ (Operand.tmp 25)) _ _ _ _ :: _) _ _); refine wpList_cellS rfl _ _ rfl S _ _ rfl 1 _ _ rfl _ Try.underlying3 rfl _ (by with_reducible exact p3) ?_)
              | ((with_reducible show wpList _ _ _ (Oper.mk _ (Op.load _ (Operand.tmp 27)) _ _ _ _ :: _) _ _); refine wpList_cellS rfl _ _ rfl S _ _ rfl 0 _ _ rfl _ Try.underlying3 rfl _ (by with_reducible exact q3) ?_)
              | ((with_reducible show wpList _ _ _ (Oper.mk (some 33) (Op.load _ _) _ _ _ _ :: _) _ _); refine wpList_partS rfl _ _ rfl S _ _ rfl 1 _ _ rfl _ Try.underlying31 rfl _ HASP.out HAP.out ?_)
              | ((with_reducible show wpList _ _ _ (Oper.mk (some 35) (Op.load _ _) _ _ _ _ :: _) _ _); refine wpList_partS rfl _ _ rfl S _ _ rfl 0 _ _ rfl _ Try.underlying31 rfl _ HASQ.out HAQ.out ?_)
              | ((with_reducible show wpList _ _ _ (Oper.mk _ (Op.load _ (Operand.tmp 39)) _ _ _ _ :: _) _ _); refine wpList_cellS rfl _ _ rfl S _ _ rfl 1 _ _ rfl _ Try.underlying28 rfl _ (by with_reducible exact p5) ?_)
              | ((with_reducible show wpList _ _ _ (Oper.mk _ (Op.load _ (Operand.tmp 41)) _ _ _ _ :: _) _ _); refine wpList_cellS rfl _ _ rfl S _ _ rfl 0 _ _ rfl _ Try.underlying28 rfl _ (by with_reducible exact q5) ?_)
              | ((with_reducible show wpList _ _ _ (Oper.mk _ (Op.load _ (Operand.tmp 46)) _ _ _ _ :: _) _ _); refine wpList_cellS rfl _ _ rfl S _ _ rfl 1 _ _ rfl _ Try.underlying28 rfl _ (by with_reducible exact p6) ?_)
              | ((with_reducible show wpList _ _ _ (Oper.mk _ (Op.load _ (Operand.tmp 48)) _ _ _ _ :: _) _ _); refine wpList_cellS rfl _ _ rfl S _ _ rfl 0 _ _ rfl _ Try.underlying28 rfl _ (by with_reducible exact q6) ?_)
              | ((with_reducible show wpList _ _ _ (Oper.mk _ (Op.load _ (Operand.tmp 53)) _ _ _ _ :: _) _ _); refine wpList_cellS rfl _ _ rfl S _ _ rfl 1 _ _ rfl _ Try.underlying3 rfl _ (by with_reducible exact p7) ?_)
              | ((with_reducible show wpList _ _ _ (Oper.mk _ (Op.load _ (Operand.tmp 55)) _ _ _ _ :: _) _ _); refine wpList_cellS rfl _ _ rfl S _ _ rfl 0 _ _ rfl _ Try.underlying3 rfl _ (by with_reducible exact q7) ?_)
              | ((with_reducible show wpList _ _ _ (Oper.mk _ (Op.load _ (Operand.tmp 60)) _ _ _ _ :: _) _ _); refine wpList_cellS rfl _ _ rfl S _ _ rfl 1 _ _ rfl _ Try.underlying3 rfl _ (by with_reducible exact p8) ?_)
              | ((with_reducible show wpList _ _ _ (Oper.mk _ (Op.load _ (Operand.tmp 62)) _ _ _ _ :: _) _ _); refine wpList_cellS rfl _ _ rfl S _ _ rfl 0 _ _ rfl _ Try.underlying3 rfl _ (by with_reducible exact q8) ?_)
              | ((with_reducible show wpList _ _ _ (Oper.mk _ (Op.load _ (Operand.tmp 67)) _ _ _ _ :: _) _ _); refine wpList_cellS rfl _ _ rfl S _ _ rfl 1 _ _ rfl _ Try.underlying3 rfl _ (by with_reducible exact p9) ?_)
              | ((with_reducible show wpList _ _ _ (Oper.mk _ (Op.load _ (Operand.tmp 69)) _ _ _ _ :: _) _ _); refine wpList_cellS rfl _ _ rfl S _ _ rfl 0 _ _ rfl _ Try.underlying3 rfl _ (by with_reducible exact q9) ?_)
              | ((with_reducible show wpList _ _ _ (Oper.mk (some 75) (Op.load _ _) _ _ _ _ :: _) _ _); refine wpList_partS rfl _ _ rfl S _ _ rfl 1 _ _ rfl _ Try.underlying32 rfl [.int .i64 (R.nu 3), .int .i64 (R.nu 4), .int .i64 (R.nu 5), .int .i64 (R.nu 6), .int .i64 (R.nu 7)] (HNZ.out (R.nu 3) (R.nu 4) (R.nu 5) (R.nu 6) (R.nu 7)) HNP.out ?_)
              | ((with_reducible show wpList _ _ _ (Oper.mk (some 77) (Op.load _ _) _ _ _ _ :: _) _ _); refine wpList_partS rfl _ _ rfl S _ _ rfl 0 _ _ rfl _ Try.underlying32 rfl [.int .i64 (Q.nu 3), .int .i64 (Q.nu 4), .int .i64 (Q.nu 5), .int .i64 (Q.nu 6), .int .i64 (Q.nu 7)] (HNZ.out (Q.nu 3) (Q.nu 4) (Q.nu 5) (Q.nu 6) (Q.nu 7)) HNQ.out ?_)
              | ((with_reducible show wpList _ _ _ (Oper.mk _ (Op.load _ (Operand.tmp 81)) _ _ _ _ :: _) _ _); refine wpList_cellS rfl _ _ rfl S _ _ rfl 1 _ _ rfl _ Try.underlying9 rfl _ (by with_reducible exact p11) ?_)
              | ((with_reducible show wpList _ _ _ (Oper.mk _ (Op.load _ (Operand.tmp 83)) _ _ _ _ :: _) _ _); refine wpList_cellS rfl _ _ rfl S _ _ rfl 0 _ _ rfl _ Try.underlying9 rfl _ (by with_reducible exact q11) ?_))
            go_ret
            exact ⟨rfl, S.below⟩
          | true =>
            cases b5 with
            | false =>
              go_enter Try.func9, Try.ntmps9
              simp only [List.append_eq, List.cons_append, List.nil_append]
              go_wp2_with (first
                | ((with_reducible show wpList _ _ _ (Oper.mk (some 2) (Op.box _ _) _ _ _ _ :: _) _ _); refine wpList_boxS rfl _ _ rfl x rfl S ?_; clear S; intro ga w1 S)
                | ((with_reducible show wpList _ _ _ (Oper.mk (some 3) (Op.box _ _) _ _ _ _ :: _) _ _); refine wpList_boxS rfl _ _ rfl y rfl S ?_; clear S; intro gb w1 S)
                | ((with_reducible refine (HX0.out _ S.below).mono ?_); rintro e w2 ⟨rfl, hb⟩; have S := S.call hb; clear hb)
                | ((with_reducible refine (HX1.out _ S.below).mono ?_); rintro e w2 ⟨rfl, hb⟩; have S := S.call hb; clear hb)
                | ((with_reducible refine (HX2.out _ S.below).mono ?_); rintro e w2 ⟨rfl, hb⟩; have S := S.call hb; clear hb)
                | ((with_reducible show wpList _ _ _ (Oper.mk _ (Op.load _ (Operand.tmp 5)) _ _ _ _ :: _) _ _); refine wpList_cellS rfl _ _ rfl S _ _ rfl 1 _ _ rfl _ Try.underlying28 rfl _ (by with_reducible exact p0) ?_)
                | ((with_reducible show wpList _ _ _ (Oper.mk _ (Op.load _ (Operand.tmp 7)) _ _ _ _ :: _) _ _); refine wpList_cellS rfl _ _ rfl S _ _ rfl 0 _ _ rfl _ Try.underlying28 rfl _ (by with_reducible exact q0) ?_)
                | ((with_reducible show wpList _ _ _ (Oper.mk _ (Op.load _ (Operand.tmp 11)) _ _ _ _ :: _) _ _); refine wpList_cellS rfl _ _ rfl S _ _ rfl 1 _ _ rfl _ Try.underlying3 rfl _ (by with_reducible exact p1) ?_)
                | ((with_reducible show wpList _ _ _ (Oper.mk _ (Op.load _ (Operand.tmp 13)) _ _ _ _ :: _) _ _); refine wpList_cellS rfl _ _ rfl S _ _ rfl 0 _ _ rfl _ Try.underlying3 rfl _ (by with_reducible exact q1) ?_)
                | ((with_reducible show wpList _ _ _ (Oper.mk _ (Op.load _ (Operand.tmp 18)) _ _ _ _ :: _) _ _); refine wpList_cellS rfl _ _ rfl S _ _ rfl 1 _ _ rfl _ Try.underlying3 rfl _ (by with_reducible exact p2) ?_)
                | ((with_reducible show wpList _ _ _ (Oper.mk _ (Op.load _ (Operand.tmp 20)) _ _ _ _ :: _) _ _); refine wpList_cellS rfl _ _ rfl S _ _ rfl 0 _ _ rfl _ Try.underlying3 rfl _ (by with_reducible exact q2) ?_)
                | ((with_reducible show wpList _ _ _ (Oper.mk _ (Op.load _ (Operand.tmp 25)) _ _ _ _ :: _) _ _); refine wpList_cellS rfl _ _ rfl S _ _ rfl 1 _ _ rfl _ Try.underlying3 rfl _ (by with_reducible exact p3) ?_)
                | ((with_reducible show wpList _ _ _ (Oper.mk _ (Op.load _ (Operand.tmp 27)) _ _ _ _ :: _) _ _); refine wpList_cellS rfl _ _ rfl S _ _ rfl 0 _ _ rfl _ Try.underlying3 rfl _ (by with_reducible exact q3) ?_)
                | ((with_reducible show wpList _ _ _ (Oper.mk (some 33) (Op.load _ _) _ _ _ _ :: _) _ _); refine wpList_partS rfl _ _ rfl S _ _ rfl 1 _ _ rfl _ Try.underlying31 rfl _ HASP.out HAP.out ?_)
                | ((with_reducible show wpList _ _ _ (Oper.mk (some 35) (Op.load _ _) _ _ _ _ :: _) _ _); refine wpList_partS rfl _ _ rfl S _ _ rfl 0 _ _ rfl _ Try.underlying31 rfl _ HASQ.out HAQ.out ?_)
                | ((with_reducible show wpList _ _ _ (Oper.mk _ (Op.load _ (Operand.tmp 39)) _ _ _ _ :: _) _ _); refine wpList_cellS rfl _ _ rfl S _ _ rfl 1 _ _ rfl _ Try.underlying28 rfl _ (by with_reducible exact p5) ?_)
                | ((with_reducible show wpList _ _ _ (Oper.mk _ (Op.load _ (Operand.tmp 41)) _ _ _ _ :: _) _ _); refine wpList_cellS rfl _ _ rfl S _ _ rfl 0 _ _ rfl _ Try.underlying28 rfl _ (by with_reducible exact q5) ?_)
                | ((with_reducible show wpList _ _ _ (Oper.mk _ (Op.load _ (Operand.tmp 46)) _ _ _ _ :: _) _ _); refine wpList_cellS rfl _ _ rfl S _ _ rfl 1 _ _ rfl _ Try.underlying28 rfl _ (by with_reducible exact p6) ?_)
                | ((with_reducible show wpList _ _ _ (Oper.mk _ (Op.load _ (Operand.tmp 48)) _ _ _ _ :: _) _ _); refine wpList_cellS rfl _ _ rfl S _ _ rfl 0 _ _ rfl _ Try.underlying28 rfl _ (by with_reducible exact q6) ?_)
                | ((with_reducible show wpList _ _ _ (Oper.mk _ (Op.load _ (Operand.tmp 53)) _ _ _ _ :: _) _ _); refine wpList_cellS rfl _ _ rfl S _ _ rfl 1 _ _ rfl _ Try.underlying3 rfl _ (by with_reducible exact p7) ?_)
                | ((with_reducible show wpList _ _ _ (Oper.mk _ (Op.load _ (Operand.tmp 55)) _ _ _ _ :: _) _ _); refine wpList_cellS rfl _ _ rfl S _ _ rfl 0 _ _ rfl _ Try.underlying3 rfl _ (by with_reducible exact q7) ?_)
                | ((with_reducible show wpList _ _ _ (Oper.mk _ (Op.load _ (Operand.tmp 60)) _ _ _ _ :: _) _ _); refine wpList_cellS rfl _ _ rfl S _ _ rfl 1 _ _ rfl _ Try.underlying3 rfl _ (by with_reducible exact p8) ?_)
                | ((with_reducible show wpList _ _ _ (Oper.mk _ (Op.load _ (Operand.tmp 62)) _ _ _ _ :: _) _ _); refine wpList_cellS rfl _ _ rfl S _ _ rfl 0 _ _ rfl _ Try.underlying3 rfl _ (by with_reducible exact q8) ?_)
                | ((with_reducible show wpList _ _ _ (Oper.mk _ (Op.load _ (Operand.tmp 67)) _ _ _ _ :: _) _ _); refine wpList_cellS rfl _ _ rfl S _ _ rfl 1 _ _ rfl _ Try.underlying3 rfl _ (by with_reducible exact p9) ?_)
                | ((with_reducible show wpList _ _ _ (Oper.mk _ (Op.load _ (Operand.tmp 69)) _ _ _ _ :: _) _ _); refine wpList_cellS rfl _ _ rfl S _ _ rfl 0 _ _ rfl _ Try.underlying3 rfl _ (by with_reducible exact q9) ?_)
                | ((with_reducible show wpList _ _ _ (Oper.mk (some 75) (Op.load _ _) _ _ _ _ :: _) _ _); refine wpList_partS rfl _ _ rfl S _ _ rfl 1 _ _ rfl _ Try.underlying32 rfl [.int .i64 (R.nu 3), .int .i64 (R.nu 4), .int .i64 (R.nu 5), .int .i64 (R.nu 6), .int .i64 (R.nu 7)] (HNZ.out (R.nu 3) (R.nu 4) (R.nu 5) (R.nu 6) (R.nu 7)) HNP.out ?_)
                | ((with_reducible show wpList _ _ _ (Oper.mk (some 77) (Op.load _ _) _ _ _ _ :: _) _ _); refine wpList_partS rfl _ _ rfl S _ _ rfl 0 _ _ rfl _ Try.underlying32 rfl [.int .i64 (Q.nu 3), .int .i64 (Q.nu 4), .int .i64 (Q.nu 5), .int .i64 (Q.nu 6), .int .i64 (Q.nu 7)] (HNZ.out (Q.nu 3) (Q.nu 4) (Q.nu 5) (Q.nu 6) (Q.nu 7)) HNQ.out ?_)
                | ((with_reducible show wpList _ _ _ (Oper.mk _ (Op.load _ (Operand.tmp 81)) _ _ _ _ :: _) _ _); refine wpList_cellS rfl _ _ rfl S _ _ rfl 1 _ _ rfl _ Try.underlying9 rfl _ (by with_reducible exact p11) ?_)
                | ((with_reducible show wpList _ _ _ (Oper.mk _ (Op.load _ (Operand.tmp 83)) _ _ _ _ :: _) _ _); refine wpList_cellS rfl _ _ rfl S _ _ rfl 0 _ _ rfl _ Try.underlying9 rfl _ (by with_reducible exact q11) ?_))
              go_ret
              exact ⟨rfl, S.below⟩
            | true =>
              cases b6 with
              | false =>
                go_enter Try.func9, Try.ntmps9
                simp only [List.append_eq, List.cons_append, List.nil_append]
                go_wp2_with (first
                  | ((with_reducible show wpList _ _ _ (Oper.mk (some 2) (Op.box _ _) _ _ _ _ :: _) _ _); refine wpList_boxS rfl _ _ rfl x rfl S ?_; clear S; intro ga w1 S)
                  | ((with_reducible show wpList _ _ _ (Oper.mk (some 3) (Op.box _ _) _ _ _ _ :: _) _ _); refine wpList_boxS rfl _ _ rfl y rfl S ?_; clear S; intro gb w1 S)
                  | ((with_reducible refine (HX0.out _ S.below).mono ?_); rintro e w2 ⟨rfl, hb⟩; have S := S.call hb; clear hb)
                  | ((with_reducible refine (HX1.out _ S.below).mono ?_); rintro e w2 ⟨rfl, hb⟩; have S := S.call hb; clear hb)
                  | ((with_reducible refine (HX2.out _ S.below).mono ?_); rintro e w2 ⟨rfl, hb⟩; have S := S.call hb; clear hb)
                  | ((with_reducible show wpList _ _ _ (Oper.mk _ (Op.load _ (Operand.tmp 5)) _ _ _ _ :: _) _ _); refine wpList_cellS rfl _ _ rfl S _ _ rfl 1 _ _ rfl _ Try.underlying28 rfl _ (by with_reducible exact p0) ?_)
                  | ((with_reducible show wpList _ _ _ (Oper.mk _ (Op.load _ (Operand.tmp 7)) _ _ _ _ :: _) _ _); refine wpList_cellS rfl _ _ rfl S _ _ rfl 0 _ _ rfl _ Try.underlying28 rfl _ (by with_reducible exact q0) ?_)
                  | ((with_reducible show wpList _ _ _ (Oper.mk _ (Op.load _ (Operand.tmp 11)) _ _ _ _ :: _) _ _); refine wpList_cellS rfl _ _ rfl S _ _ rfl 1 _ _ rfl _ Try.underlying3 rfl _ (by with_reducible exact p1) ?_)
                  | ((with_reducible show wpList _ _ _ (Oper.mk _ (Op.load _ (Operand.tmp 13)) _ _ _ _ :: _) _ _); refine wpList_cellS rfl _ _ rfl S _ _ rfl 0 _ _ rfl _ Try.underlying3 rfl _ (by with_reducible exact q1) ?_)
                  | ((with_reducible show wpList _ _ _ (Oper.mk _ (Op.load _ (Operand.tmp 18)) _ _ _ _ :: _) _ _); refine wpList_cellS rfl _ _ rfl S _ _ rfl 1 _ _ rfl _ Try.underlying3 rfl _ (by with_reducible exact p2) ?_)
                  | ((with_reducible show wpList _ _ _ (Oper.mk _ (Op.load _ (Operand.tmp 20)) _ _ _ _ :: _) _ _); refine wpList_cellS rfl _ _ rfl S _ _ rfl 0 _ _ rfl _ Try.underlying3 rfl _ (by with_reducible exact q2) ?_)
                  | ((with_reducible show wpList _ _ _ (Oper.mk _ (Op.load _ (Operand.tmp 25)) _ _ _ _ :: _) _ _); refine wpList_cellS rfl _ _ rfl S _ _ rfl 1 _ _ rfl _ Try.underlying3 rfl _ (by with_reducible exact p3) ?_)
                  | ((with_reducible show wpList _ _ _ (Oper.mk _ (Op.load _ (Operand.tmp 27)) _ _ _ _ :: _) _ _); refine wpList_cellS rfl _ _ rfl S _ _ rfl 0 _ _ rfl _ Try.underlying3 rfl _ (by with_reducible exact q3) ?_)
                  | ((with_reducible show wpList _ _ _ (Oper.mk (some 33) (Op.load _ _) _ _ _ _ :: _) _ _); refine wpList_partS rfl _ _ rfl S _ _ rfl 1 _ _ rfl _ Try.underlying31 rfl _ HASP.out HAP.out ?_)
                  | ((with_reducible show wpList _ _ _ (Oper.mk (some 35) (Op.load _ _) _ _ _ _ :: _) _ _); refine wpList_partS rfl _ _ rfl S _ _ rfl 0 _ _ rfl _ Try.underlying31 rfl _ HASQ.out HAQ.out ?_)
                  | ((with_reducible show wpList _ _ _ (Oper.mk _ (Op.load _ (Operand.tmp 39)) _ _ _ _ :: _) _ _); refine wpList_cellS rfl _ _ rfl S _ _ rfl 1 _ _ rfl _ Try.underlying28 rfl _ (by with_reducible exact p5) ?_)
                  | ((with_reducible show wpList _ _ _ (Oper.mk _ (Op.load _ (Operand.tmp 41)) _ _ _ _ :: _) _ _); refine wpList_cellS rfl _ _ rfl S _ _ rfl 0 _ _ rfl _ Try.underlying28 rfl _ (by with_reducible exact q5) ?_)
                  | ((with_reducible show wpList _ _ _ (Oper.mk _ (Op.load _ (Operand.tmp 46)) _ _ _ _ :: _) _ _); refine wpList_cellS rfl _ _ rfl S _ _ rfl 1 _ _ rfl _ Try.underlying28 rfl _ (by with_reducible exact p6) ?_)
                  | ((with_reducible show wpList _ _ _ (Oper.mk _ (Op.load _ (Operand.tmp 48)) _ _ _ _ :: _) _ _); refine wpList_cellS rfl _ _ rfl S _ _ rfl 0 _ _ rfl _ Try.underlying28 rfl _ (by with_reducible exact q6) ?_)
                  | ((with_reducible show wpList _ _ _ (Oper.mk _ (Op.load _ (Operand.tmp 53)) _ _ _ _ :: _) _ _); refine wpList_cellS rfl _ _ rfl S _ _ rfl 1 _ _ rfl _ Try.underlying3 rfl _ (by with_reducible exact p7) ?_)
                  | ((with_reducible show wpList _ _ _ (Oper.mk _ (Op.load _ (Operand.tmp 55)) _ _ _ _ :: _) _ _); refine wpList_cellS rfl _ _ rfl S _ _ rfl 0 _ _ rfl _ Try.underlying3 rfl _ (by with_reducible exact q7) ?_)
                  | ((with_reducible show wpList _ _ _ (Oper.mk _ (Op.load _ (Operand.tmp 60)) _ _ _ _ :: _) _ _); refine wpList_cellS rfl _ _ rfl S _ _ rfl 1 _ _ rfl _ Try.underlying3 rfl _ (by with_reducible exact p8) ?_)
                  | ((with_reducible show wpList _ _ _ (Oper.mk _ (Op.load _ (Operand.tmp 62)) _ _ _ _ :: _) _ _); refine wpList_cellS rfl _ _ rfl S _ _ rfl 0 _ _ rfl _ Try.underlying3 rfl _ (by with_reducible exact q8) ?_)
                  | ((with_reducible show wpList _ _ _ (Oper.mk _ (Op.load _ (Operand.tmp 67)) _ _ _ _ :: _) _ _); refine wpList_cellS rfl _ _ rfl S _ _ rfl 1 _ _ rfl _ Try.underlying3 rfl _ (by with_reducible exact p9) ?_)
                  | ((with_reducible show wpList _ _ _ (Oper.mk _ (Op.load _ (Operand.tmp 69)) _ _ _ _ :: _) _ _); refine wpList_cellS rfl _ _ rfl S _ _ rfl 0 _ _ rfl _ Try.underlying3 rfl _ (by with_reducible exact q9) ?_)
                  | ((with_reducible show wpList _ _ _ (Oper.mk (some 75) (Op.load _ _) _ _ _ _ :: _) _ _); refine wpList_partS rfl _ _ rfl S _ _ rfl 1 _ _ rfl _ Try.underlying32 rfl [.int .i64 (R.nu 3), .int .i64 (R.nu 4), .int .i64 (R.nu 5), .int .i64 (R.nu 6), .int .i64 (R.nu 7)] (HNZ.out (R.nu 3) (R.nu 4) (R.nu 5) (R.nu 6) (R.nu 7)) HNP.out ?_)
                  | ((with_reducible show wpList _ _ _ (Oper.mk (some 77) (Op.load _ _) _ _ _ _ :: _) _ _); refine wpList_partS rfl _ _ rfl S _ _ rfl 0 _ _ rfl _ Try.underlying32 rfl [.int .i64 (Q.nu 3), .int .i64 (Q.nu 4), .int .i64 (Q.nu 5), .int .i64 (Q.nu 6), .int .i64 (Q.nu 7)] (HNZ.out (Q.nu 3) (Q.nu 4) (Q.nu 5) (Q.nu 6) (Q.nu 7)) HNQ.out ?_)
                  | ((with_reducible show wpList _ _ _ (Oper.mk _ (Op.load _ (Operand.tmp 81)) _ _ _ _ :: _) _ _); refine wpList_cellS rfl _ _ rfl S _ _ rfl 1 _ _ rfl _ Try.underlying9 rfl _ (by with_reducible exact p11) ?_)
                  | ((with_reducible show wpList _ _ _ (Oper.mk _ (Op.load _ (Operand.tmp 83)) _ _ _ _ :: _) _ _); refine wpList_cellS rfl _ _ rfl S _ _ rfl 0 _ _ rfl _ Try.underlying9 rfl _ (by with_reducible exact q11) ?_))
                go_ret
                exact ⟨rfl, S.below⟩
              | true =>
                have t7 := HT7.out
                cases b7 with
                | false =>
                  go_enter Try.func9, Try.ntmps9
                  simp only [List.append_eq, List.cons_append, List.nil_append]
                  go_wp2_with (first
                    | ((with_reducible show wpList _ _ _ (Oper.mk (some 2) (Op.box _ _) _ _ _ _ :: _) _ _); refine wpList_boxS rfl _ _ rfl x rfl S ?_; clear S; intro ga w1 S)
                    | ((with_reducible show wpList _ _ _ (Oper.mk (some 3) (Op.box _ _) _ _ _ _ :: _) _ _); refine wpList_boxS rfl _ _ rfl y rfl S ?_; clear S; intro gb w1 S)
                    | ((with_reducible refine (HX0.out _ S.below).mono ?_); rintro e w2 ⟨rfl, hb⟩; have S := S.call hb; clear hb)
                    | ((with_reducible refine (HX1.out _ S.below).mono ?_); rintro e w2 ⟨rfl, hb⟩; have S := S.call hb; clear hb)
                    | ((with_reducible refine (HX2.out _ S.below).mono ?_); rintro e w2 ⟨rfl, hb⟩; have S := S.call hb; clear hb)
                    | ((with_reducible show wpList _ _ _ (Oper.mk _ (Op.load _ (Operand.tmp 5)) _ _ _ _ :: _) _ _); refine wpList_cellS rfl _ _ rfl S _ _ rfl 1 _ _ rfl _ Try.underlying28 rfl _ (by with_reducible exact p0) ?_)
                    | ((with_reducible show wpList _ _ _ (Oper.mk _ (Op.load _ (Operand.tmp 7)) _ _ _ _ :: _) _ _); refine wpList_cellS rfl _ _ rfl S _ _ rfl 0 _ _ rfl _ Try.underlying28 rfl _ (by with_reducible exact q0) ?_)
                    | ((with_reducible show wpList _ _ _ (Oper.mk _ (Op.load _ (Operand.tmp 11)) _ _ _ _ :: _) _ _); refine wpList_cellS rfl _ _ rfl S _ _ rfl 1 _ _ rfl _ Try.underlying3 rfl _ (by with_reducible exact p1) ?_)
                    | ((with_reducible show wpList _ _ _ (Oper.mk _ (Op.load _ (Operand.tmp 13)) _ _ _ _ :: _) _ _); refine wpList_cellS rfl _ _ rfl S _ _ rfl 0 _ _ rfl _ Try.underlying3 rfl _ (by with_reducible exact q1) ?_)
                    | ((with_reducible show wpList _ _ _ (Oper.mk _ (Op.load _ (Operand.tmp 18)) _ _ _ _ :: _) _ _); refine wpList_cellS rfl _ _ rfl S _ _ rfl 1 _ _ rfl _ Try.underlying3 rfl _ (by with_reducible exact p2) ?_)
                    | ((with_reducible show wpList _ _ _ (Oper.mk _ (Op.load _ (Operand.tmp 20)) _ _ _ _ :: _) _ _); refine wpList_cellS rfl _ _ rfl S _ _ rfl 0 _ _ rfl _ Try.underlying3 rfl _ (by with_reducible exact q2) ?_)
                    | ((with_reducible show wpList _ _ _ (Oper.mk _ (Op.load _ (Operand.tmp 25)) _ _ _ _ :: _) _ _); refine wpList_cellS rfl _ _ rfl S _ _ rfl 1 _ _ rfl _ Try.underlying3 rfl _ (by with_reducible exact p3) ?_)
                    | ((with_reducible show wpList _ _ _ (Oper.mk _ (Op.load _ (Operand.tmp 27)) _ _ _ _ :: _) _ _); refine wpList_cellS rfl _ _ rfl S _ _ rfl 0 _ _ rfl _ Try.underlying3 rfl _ (by with_reducible exact q3) ?_)
                    | ((with_reducible show wpList _ _ _ (Oper.mk (some 33) (Op.load _ _) _ _ _ _ :: _) _ _); refine wpList_partS rfl _ _ rfl S _ _ rfl 1 _ _ rfl _ Try.underlying31 rfl _ HASP.out HAP.out ?_)
                    | ((with_reducible show wpList _ _ _ (Oper.mk (some 35) (Op.load _ _) _ _ _ _ :: _) _ _); refine wpList_partS rfl _ _ rfl S _ _ rfl 0 _ _ rfl _ Try.underlying31 rfl _ HASQ.out HAQ.out ?_)
                    | ((with_reducible show wpList _ _ _ (Oper.mk _ (Op.load _ (Operand.tmp 39)) _ _ _ _ :: _) _ _); refine wpList_cellS rfl _ _ rfl S _ _ rfl 1 _ _ rfl _ Try.underlying28 rfl _ (by with_reducible exact p5) ?_)
                    | ((with_reducible show wpList _ _ _ (Oper.mk _ (Op.load _ (Operand.tmp 41)) _ _ _ _ :: _) _ _); refine wpList_cellS rfl _ _ rfl S _ _ rfl 0 _ _ rfl _ Try.underlying28 rfl _ (by with_reducible exact q5) ?_)
                    | ((with_reducible show wpList _ _ _ (Oper.mk _ (Op.load _ (Operand.tmp 46)) _ _ _ _ :: _) _ _); refine wpList_cellS rfl _ _ rfl S _ _ rfl 1 _ _ rfl _ Try.underlying28 rfl _ (by with_reducible exact p6) ?_)
                    | ((with_reducible show wpList _ _ _ (Oper.mk _ (Op.load _ (Operand.tmp 48)) _ _ _ _ :: _) _ _); refine wpList_cellS rfl _ _ rfl S _ _ rfl 0 _ _ rfl _ Try.underlying28 rfl _ (by with_reducible exact q6) ?_)
                    | ((with_reducible show wpList _ _ _ (Oper.mk _ (Op.load _ (Operand.tmp 53)) _ _ _ _ :: _) _ _); refine wpList_cellS rfl _ _ rfl S _ _ rfl 1 _ _ rfl _ Try.underlying3 rfl _ (by with_reducible exact p7) ?_)
                    | ((with_reducible show wpList _ _ _ (Oper.mk _ (Op.load _ (Operand.tmp 55)) _ _ _ _ :: _) _ _); refine wpList_cellS rfl _ _ rfl S _ _ rfl 0 _ _ rfl _ Try.underlying3 rfl _ (by with_reducible exact q7) ?_)
                    | ((with_reducible show wpList _ _ _ (Oper.mk _ (Op.load _ (Operand.tmp 60)) _ _ _ _ :: _) _ _); refine wpList_cellS rfl _ _ rfl S _ _ rfl 1 _ _ rfl _ Try.underlying3 rfl _ (by with_reducible exact p8) ?_)
                    | ((with_reducible show wpList _ _ _ (Oper.mk _ (Op.load _ (Operand.tmp 62)) _ _ _ _ :: _) _ _); refine wpList_cellS rfl _ _ rfl S _ _ rfl 0 _ _ rfl _ Try.underlying3 rfl _ (by with_reducible exact q8) ?_)
                    | ((with_reducible show wpList _ _ _ (Oper.mk _ (Op.load _ (Operand.tmp 67)) _ _ _ _ :: _) _ _); refine wpList_cellS rfl _ _ rfl S _ _ rfl 1 _ _ rfl _ Try.underlying3 rfl _ (by with_reducible exact p9) ?_)
                    | ((with_reducible show wpList _ _ _ (Oper.mk _ (Op.load _ (Operand.tmp 69)) _ _ _ _ :: _) _ _); refine wpList_cellS rfl _ _ rfl S _ _ rfl 0 _ _ rfl _ Try.underlying3 rfl _ (by with_reducible exact q9) ?_)
                    | ((with_reducible show wpList _ _ _ (Oper.mk (some 75) (Op.load _ _) _ _ _ _ :: _) _ _); refine wpList_partS rfl _ _ rfl S _ _ rfl 1 _ _ rfl _ Try.underlying32 rfl [.int .i64 (R.nu 3), .int .i64 (R.nu 4), .int .i64 (R.nu 5), .int .i64 (R.nu 6), .int .i64 (R.nu 7)] (HNZ.out (R.nu 3) (R.nu 4) (R.nu 5) (R.nu 6) (R.nu 7)) HNP.out ?_)
                    | ((with_reducible show wpList _ _ _ (Oper.mk (some 77) (Op.load _ _) _ _ _ _ :: _) _ _); refine wpList_partS rfl _ _ rfl S _ _ rfl 0 _ _ rfl _ Try.underlying32 rfl [.int .i64 (Q.nu 3), .int .i64 (Q.nu 4), .int .i64 (Q.nu 5), .int .i64 (Q.nu 6), .int .i64 (Q.nu 7)] (HNZ.out (Q.nu 3) (Q.nu 4) (Q.nu 5) (Q.nu 6) (Q.nu 7)) HNQ.out ?_)
                    | ((with_reducible show wpList _ _ _ (Oper.mk _ (Op.load _ (Operand.tmp 81)) _ _ _ _ :: _) _ _); refine wpList_cellS rfl _ _ rfl S _ _ rfl 1 _ _ rfl _ Try.underlying9 rfl _ (by with_reducible exact p11) ?_)
                    | ((with_reducible show wpList _ _ _ (Oper.mk _ (Op.load _ (Operand.tmp 83)) _ _ _ _ :: _) _ _); refine wpList_cellS rfl _ _ rfl S _ _ rfl 0 _ _ rfl _ Try.underlying9 rfl _ (by with_reducible exact q11) ?_))
                  go_ret
                  exact ⟨rfl, S.below⟩
                | true =>
                  have t8 := HT8.out
                  cases b8 with
                  | false =>
                    go_enter Try.func9, Try.ntmps9
                    simp only [List.append_eq, List.cons_append, List.nil_append]
                    go_wp2_with (first
                      | ((with_reducible show wpList _ _ _ (Oper.mk (some 2) (Op.box _ _) _ _ _ _ :: _) _ _); refine wpList_boxS rfl _ _ rfl x rfl S ?_; clear S; intro ga w1 S)
                      | ((with_reducible show wpList _ _ _ (Oper.mk (some 3) (Op.box _ _) _ _ _ _ :: _) _ _); refine wpList_boxS rfl _ _ rfl y rfl S ?_; clear S; intro gb w1 S)
                      | ((with_reducible refine (HX0.out _ S.below).mono ?_); rintro e w2 ⟨rfl, hb⟩; have S := S.call hb; clear hb)
                      | ((with_reducible refine (HX1.out _ S.below).mono ?_); rintro e w2 ⟨rfl, hb⟩; have S := S.call hb; clear hb)
                      | ((with_reducible refine (HX2.out _ S.below).mono ?_); rintro e w2 ⟨rfl, hb⟩; have S := S.call hb; clear hb)
                      | ((with_reducible show wpList _ _ _ (Oper.mk _ (Op.load _ (Operand.tmp 5)) _ _ _ _ :: _) _ _); refine wpList_cellS rfl _ _ rfl S _ _ rfl 1 _ _ rfl _ Try.underlying28 rfl _ (by with_reducible exact p0) ?_)
                      | ((with_reducible show wpList _ _ _ (Oper.mk _ (Op.load _ (Operand.tmp 7)) _ _ _ _ :: _) _ _); refine wpList_cellS rfl _ _ rfl S _ _ rfl 0 _ _ rfl _ Try.underlying28 rfl _ (by with_reducible exact q0) ?_)
                      | ((with_reducible show wpList _ _ _ (Oper.mk _ (Op.load _ (Operand.tmp 11)) _ _ _ _ :: _) _ _); refine wpList_cellS rfl _ _ rfl S _ _ rfl 1 _ _ rfl _ Try.underlying3 rfl _ (by with_reducible exact p1) ?_)
                      | ((with_reducible show wpList _ _ _ (Oper.mk _ (Op.load _ (Operand.tmp 13)) _ _ _ _ :: _) _ _); refine wpList_cellS rfl _ _ rfl S _ _ rfl 0 _ _ rfl _ Try.underlying3 rfl _ (by with_reducible exact q1) ?_)
                      | ((with_reducible show wpList _ _ _ (Oper.mk _ (Op.load _ (Operand.tmp 18)) _ _ _ _ :: _) _ _); refine wpList_cellS rfl _ _ rfl S _ _ rfl 1 _ _ rfl _ Try.underlying3 rfl _ (by with_reducible exact p2) ?_)
                      | ((with_reducible show wpList _ _ _ (Oper.mk _ (Op.load _ (Operand.tmp 20)) _ _ _ _ :: _) _ _); refine wpList_cellS rfl _ _ rfl S _ _ rfl 0 _ _ rfl _ Try.underlying3 rfl _ (by with_reducible exact q2) ?_)
                      | ((with_reducible show wpList _ _ _ (Oper.mk _ (Op.load _ (Operand.tmp 25)) _ _ _ _ :: _) _ _); refine wpList_cellS rfl _ _ rfl S _ _ rfl 1 _ _ rfl _ Try.underlying3 rfl _ (by with_reducible exact p3) ?_)
                      | ((with_reducible show wpList _ _ _ (Oper.mk _ (Op.load _ (Operand.tmp 27)) _ _ _ _ :: _) _ _); refine wpList_cellS rfl _ _ rfl S _ _ rfl 0 _ _ rfl _ Try.underlying3 rfl _ (by with_reducible exact q3) ?_)
                      | ((with_reducible show wpList _ _ _ (Oper.mk (some 33) (Op.load _ _) _ _ _ _ :: _) _ _); refine wpList_partS rfl _ _ rfl S _ _ rfl 1 _ _ rfl _ Try.underlying31 rfl _ HASP.out HAP.out ?_)
                      | ((with_reducible show wpList _ _ _ (Oper.mk (some 35) (Op.load _ _) _ _ _ _ :: _) _ _); refine wpList_partS rfl _ _ rfl S _ _ rfl 0 _ _ rfl _ Try.underlying31 rfl _ HASQ.out HAQ.out ?_)
                      | ((with_reducible show wpList _ _ _ (Oper.mk _ (Op.load _ (Operand.tmp 39)) _ _ _ _ :: _) _ _); refine wpList_cellS rfl _ _ rfl S _ _ rfl 1 _ _ rfl _ Try.underlying28 rfl _ (by with_reducible exact p5) ?_)
                      | ((with_reducible show wpList _ _ _ (Oper.mk _ (Op.load _ (Operand.tmp 41)) _ _ _ _ :: _) _ _); refine wpList_cellS rfl _ _ rfl S _ _ rfl 0 _ _ rfl _ Try.underlying28 rfl _ (by with_reducible exact q5) ?_)
                      | ((with_reducible show wpList _ _ _ (Oper.mk _ (Op.load _ (Operand.tmp 46)) _ _ _ _ :: _) _ _); refine wpList_cellS rfl _ _ rfl S _ _ rfl 1 _ _ rfl _ Try.underlying28 rfl _ (by with_reducible exact p6) ?_)
                      | ((with_reducible show wpList _ _ _ (Oper.mk _ (Op.load _ (Operand.tmp 48)) _ _ _ _ :: _) _ _); refine wpList_cellS rfl _ _ rfl S _ _ rfl 0 _ _ rfl _ Try.underlying28 rfl _ (by with_reducible exact q6) ?_)
                      | ((with_reducible show wpList _ _ _ (Oper.mk _ (Op.load _ (Operand.tmp 53)) _ _ _ _ :: _) _ _); refine wpList_cellS rfl _ _ rfl S _ _ rfl 1 _ _ rfl _ Try.underlying3 rfl _ (by with_reducible exact p7) ?_)
                      | ((with_reducible show wpList _ _ _ (Oper.mk _ (Op.load _ (Operand.tmp 55)) _ _ _ _ :: _) _ _); refine wpList_cellS rfl _ _ rfl S _ _ rfl 0 _ _ rfl _ Try.underlying3 rfl _ (by with_reducible exact q7) ?_)
                      | ((with_reducible show wpList _ _ _ (Oper.mk _ (Op.load _ (Operand.tmp 60)) _ _ _ _ :: _) _ _); refine wpList_cellS rfl _ _ rfl S _ _ rfl 1 _ _ rfl _ Try.underlying3 rfl _ (by with_reducible exact p8) ?_)
                      | ((with_reducible show wpList _ _ _ (Oper.mk _ (Op.load _ (Operand.tmp 62)) _ _ _ _ :: _) _ _); refine wpList_cellS rfl _ _ rfl S _ _ rfl 0 _ _ rfl _ Try.underlying3 rfl _ (by with_reducible exact q8) ?_)
                      | ((with_reducible show wpList _ _ _ (Oper.mk _ (Op.load _ (Operand.tmp 67)) _ _ _ _ :: _) _ _); refine wpList_cellS rfl _ _ rfl S _ _ rfl 1 _ _ rfl _ Try.underlying3 rfl _ (by with_reducible exact p9) ?_)
                      | ((with_reducible show wpList _ _ _ (Oper.mk _ (Op.load _ (Operand.tmp 69)) _ _ _ _ :: _) _ _); refine wpList_cellS rfl _ _ rfl S _ _ rfl 0 _ _ rfl _ Try.underlying3 rfl _ (by with_reducible exact q9) ?_)
                      | ((with_reducible show wpList _ _ _ (Oper.mk (some 75) (Op.load _ _) _ _ _ _ :: _) _ _); refine wpList_partS rfl _ _ rfl S _ _ rfl 1 _ _ rfl _ Try.underlying32 rfl [.int .i64 (R.nu 3), .int .i64 (R.nu 4), .int .i64 (R.nu 5), .int .i64 (R.nu 6), .int .i64 (R.nu 7)] (HNZ.out (R.nu 3) (R.nu 4) (R.nu 5) (R.nu 6) (R.nu 7)) HNP.out ?_)
                      | ((with_reducible show wpList _ _ _ (Oper.mk (some 77) (Op.load _ _) _ _ _ _ :: _) _ _); refine wpList_partS rfl _ _ rfl S _ _ rfl 0 _ _ rfl _ Try.underlying32 rfl [.int .i64 (Q.nu 3), .int .i64 (Q.nu 4), .int .i64 (Q.nu 5), .int .i64 (Q.nu 6), .int .i64 (Q.nu 7)] (HNZ.out (Q.nu 3) (Q.nu 4) (Q.nu 5) (Q.nu 6) (Q.nu 7)) HNQ.out ?_)
                      | ((with_reducible show wpList _ _ _ (Oper.mk _ (Op.load _ (Operand.tmp 81)) _ _ _ _ :: _) _ _); refine wpList_cellS rfl _ _ rfl S _ _ rfl 1 _ _ rfl _ Try.underlying9 rfl _ (by with_reducible exact p11) ?_)
                      | ((with_reducible show wpList _ _ _ (Oper.mk _ (Op.load _ (Operand.tmp 83)) _ _ _ _ :: _) _ _); refine wpList_cellS rfl _ _ rfl S _ _ rfl 0 _ _ rfl _ Try.underlying9 rfl _ (by with_reducible exact q11) ?_))
                    go_ret
                    exact ⟨rfl, S.below⟩
                  | true =>
                    have t9 := HT9.out
                    cases b9 with
                    | false =>
                      go_enter Try.func9, Try.ntmps9
                      simp only [List.append_eq, List.cons_append, List.nil_append]
                      go_wp2_with (first
                        | ((with_reducible show wpList _ _ _ (Oper.mk (some 2) (Op.box _ _) _ _ _ _ :: _) _ _); refine wpList_boxS rfl _ _ rfl x rfl S ?_; clear S; intro ga w1 S)
                        | ((with_reducible show wpList _ _ _ (Oper.mk (some 3) (Op.box _ _) _ _ _ _ :: _) _ _); refine wpList_boxS rfl _ _ rfl y rfl S ?_; clear S; intro gb w1 S)
                        | ((with_reducible refine (HX0.out _ S.below).mono ?_); rintro e w2 ⟨rfl, hb⟩; have S := S.call hb; clear hb)
                        | ((with_reducible refine (HX1.out _ S.below).mono ?_); rintro e w2 ⟨rfl, hb⟩; have S := S.call hb; clear hb)
                        | ((with_reducible refine (HX2.out _ S.below).mono ?_); rintro e w2 ⟨rfl, hb⟩; have S := S.call hb; clear hb)
                        | ((with_reducible show wpList _ _ _ (Oper.mk _ (Op.load _ (Operand.tmp 5)) _ _ _ _ :: _) _ _); refine wpList_cellS rfl _ _ rfl S _ _ rfl 1 _ _ rfl _ Try.underlying28 rfl _ (by with_reducible exact p0) ?_)
                        | ((with_reducible show wpList _ _ _ (Oper.mk _ (Op.load _ (Operand.tmp 7)) _ _ _ _ :: _) _ _); refine wpList_cellS rfl _ _ rfl S _ _ rfl 0 _ _ rfl _ Try.underlying28 rfl _ (by with_reducible exact q0) ?_)
                        | ((with_reducible show wpList _ _ _ (Oper.mk _ (Op.load _ (Operand.tmp 11)) _ _ _ _ :: _) _ _); refine wpList_cellS rfl _ _ rfl S _ _ rfl 1 _ _ rfl _ Try.underlying3 rfl _ (by with_reducible exact p1) ?_)
                        | ((with_reducible show wpList _ _ _ (Oper.mk _ (Op.load _ (Operand.tmp 13)) _ _ _ _ :: _) _ _); refine wpList_cellS rfl _ _ rfl S _ _ rfl 0 _ _ rfl _ Try.underlying3 rfl _ (by with_reducible exact q1) ?_)
                        | ((with_reducible show wpList _ _ _ (Oper.mk _ (Op.load _ (Operand.tmp 18)) _ _ _ _ :: _) _ _); refine wpList_cellS rfl _ _ rfl S _ _ rfl 1 _ _ rfl _ Try.underlying3 rfl _ (by with_reducible exact p2) ?_)
                        | ((with_reducible show wpList _ _ _ (Oper.mk _ (Op.load _ (Operand.tmp 20)) _ _ _ _ :: _) _ _); refine wpList_cellS rfl _ _ rfl S _ _ rfl 0 _ _ rfl _ Try.underlying3 rfl _ (by with_reducible exact q2) ?_)
                        | ((with_reducible show wpList _ _ _ (Oper.mk _ (Op.load _ (Operand.tmp 25)) _ _ _ _ :: _) _ _); refine wpList_cellS rfl _ _ rfl S _ _ rfl 1 _ _ rfl _ Try.underlying3 rfl _ (by with_reducible exact p3) ?_)
                        | ((with_reducible show wpList _ _ _ (Oper.mk _ (Op.load _ (Operand.tmp 27)) _ _ _ _ :: _) _ _); refine wpList_cellS rfl _ _ rfl S _ _ rfl 0 _ _ rfl _ Try.underlying3 rfl _ (by with_reducible exact q3) ?_)
                        | ((with_reducible show wpList _ _ _ (Oper.mk (some 33) (Op.load _ _) _ _ _ _ :: _) _ _); refine wpList_partS rfl _ _ rfl S _ _ rfl 1 _ _ rfl _ Try.underlying31 rfl _ HASP.out HAP.out ?_)
                        | ((with_reducible show wpList _ _ _ (Oper.mk (some 35) (Op.load _ _) _ _ _ _ :: _) _ _); refine wpList_partS rfl _ _ rfl S _ _ rfl 0 _ _ rfl _ Try.underlying31 rfl _ HASQ.out HAQ.out ?_)
                        | ((with_reducible show wpList _ _ _ (Oper.mk _ (Op.load _ (Operand.tmp 39)) _ _ _ _ :: _) _ _); refine wpList_cellS rfl _ _ rfl S _ _ rfl 1 _ _ rfl _ Try.underlying28 rfl _ (by with_reducible exact p5) ?_)
                        | ((with_reducible show wpList _ _ _ (Oper.mk _ (Op.load _ (Operand.tmp 41)) _ _ _ _ :: _) _ _); refine wpList_cellS rfl _ _ rfl S _ _ rfl 0 _ _ rfl _ Try.underlying28 rfl _ (by with_reducible exact q5) ?_)
                        | ((with_reducible show wpList _ _ _ (Oper.mk _ (Op.load _ (Operand.tmp 46)) _ _ _ _ :: _) _ _); refine wpList_cellS rfl _ _ rfl S _ _ rfl 1 _ _ rfl _ Try.underlying28 rfl _ (by with_reducible exact p6) ?_)
                        | ((with_reducible show wpList _ _ _ (Oper.mk _ (Op.load _ (Operand.tmp 48)) _ _ _ _ :: _) _ _); refine wpList_cellS rfl _ _ rfl S _ _ rfl 0 _ _ rfl _ Try.underlying28 rfl _ (by with_reducible exact q6) ?_)
                        | ((with_reducible show wpList _ _ _ (Oper.mk _ (Op.load _ (Operand.tmp 53)) _ _ _ _ :: _) _ _); refine wpList_cellS rfl _ _ rfl S _ _ rfl 1 _ _ rfl _ Try.underlying3 rfl _ (by with_reducible exact p7) ?_)
                        | ((with_reducible show wpList _ _ _ (Oper.mk _ (Op.load _ (Operand.tmp 55)) _ _ _ _ :: _) _ _); refine wpList_cellS rfl _ _ rfl S _ _ rfl 0 _ _ rfl _ Try.underlying3 rfl _ (by with_reducible exact q7) ?_)
                        | ((with_reducible show wpList _ _ _ (Oper.mk _ (Op.load _ (Operand.tmp 60)) _ _ _ _ :: _) _ _); refine wpList_cellS rfl _ _ rfl S _ _ rfl 1 _ _ rfl _ Try.underlying3 rfl _ (by with_reducible exact p8) ?_)
                        | ((with_reducible show wpList _ _ _ (Oper.mk _ (Op.load _ (Operand.tmp 62)) _ _ _ _ :: _) _ _); refine wpList_cellS rfl _ _ rfl S _ _ rfl 0 _ _ rfl _ Try.underlying3 rfl _ (by with_reducible exact q8) ?_)
                        | ((with_reducible show wpList _ _ _ (Oper.mk _ (Op.load _ (Operand.tmp 67)) _ _ _ _ :: _) _ _); refine wpList_cellS rfl _ _ rfl S _ _ rfl 1 _ _ rfl _ Try.underlying3 rfl _ (by with_reducible exact p9) ?_)
                        | ((with_reducible show wpList _ _ _ (Oper.mk _ (Op.load _ (Operand.tmp 69)) _ _ _ _ :: _) _ _); refine wpList_cellS rfl _ _ rfl S _ _ rfl 0 _ _ rfl _ Try.underlying3 rfl _ (by with_reducible exact q9) ?_)
                        | ((with_reducible show wpList _ _ _ (Oper.mk (some 75) (Op.load _ _) _ _ _ _ :: _) _ _); refine wpList_partS rfl _ _ rfl S _ _ rfl 1 _ _ rfl _ Try.underlying32 rfl [.int .i64 (R.nu 3), .int .i64 (R.nu 4), .int .i64 (R.nu 5), .int .i64 (R.nu 6), .int .i64 (R.nu 7)] (HNZ.out (R.nu 3) (R.nu 4) (R.nu 5) (R.nu 6) (R.nu 7)) HNP.out ?_)
                        | ((with_reducible show wpList _ _ _ (Oper.mk (some 77) (Op.load _ _) _ _ _ _ :: _) _ _); refine wpList_partS rfl _ _ rfl S _ _ rfl 0 _ _ rfl _ Try.underlying32 rfl [.int .i64 (Q.nu 3), .int .i64 (Q.nu 4), .int .i64 (Q.nu 5), .int .i64 (Q.nu 6), .int .i64 (Q.nu 7)] (HNZ.out (Q.nu 3) (Q.nu 4) (Q.nu 5) (Q.nu 6) (Q.nu 7)) HNQ.out ?_)
                        | ((with_reducible show wpList _ _ _ (Oper.mk _ (Op.load _ (Operand.tmp 81)) _ _ _ _ :: _) _ _); refine wpList_cellS rfl _ _ rfl S _ _ rfl 1 _ _ rfl _ Try.underlying9 rfl _ (by with_reducible exact p11) ?_)
                        | ((with_reducible show wpList _ _ _ (Oper.mk _ (Op.load _ (Operand.tmp 83)) _ _ _ _ :: _) _ _); refine wpList_cellS rfl _ _ rfl S _ _ rfl 0 _ _ rfl _ Try.underlying9 rfl _ (by with_reducible exact q11) ?_))
                      go_ret
                      exact ⟨rfl, S.below⟩
                    | true =>
                      cases b10 with
                      | false =>
                        go_enter Try.func9, Try.ntmps9
                        simp only [List.append_eq, List.cons_append, List.nil_append]
                        go_wp2_with (first
                          | ((with_reducible show wpList _ _ _ (Oper.mk (some 2) (Op.box _ _) _ _ _ _ :: _) _ _); refine wpList_boxS rfl _ _ rfl x rfl S ?_; clear S; intro ga w1 S)
                          | ((with_reducible show wpList _ _ _ (Oper.mk (some 3) (Op.box _ _) _ _ _ _ :: _) _ _); refine wpList_boxS rfl _ _ rfl y rfl S ?_; clear S; intro gb w1 S)
                          | ((with_reducible refine (HX0.out _ S.below).mono ?_); rintro e w2 ⟨rfl, hb⟩; have S := S.call hb; clear hb)
                          | ((with_reducible refine (HX1.out _ S.below).mono ?_); rintro e w2 ⟨rfl, hb⟩; have S := S.call hb; clear hb)
                          | ((with_reducible refine (HX2.out _ S.below).mono ?_); rintro e w2 ⟨rfl, hb⟩; have S := S.call hb; clear hb)
                          | ((with_reducible show wpList _ _ _ (Oper.mk _ (Op.load _ (Operand.tmp 5)) _ _ _ _ :: _) _ _); refine wpList_cellS rfl _ _ rfl S _ _ rfl 1 _ _ rfl _ Try.underlying28 rfl _ (by with_reducible exact p0) ?_)
                          | ((with_reducible show wpList _ _ _ (Oper.mk _ (Op.load _ (Operand.tmp 7)) _ _ _ _ :: _) _ _); refine wpList_cellS rfl _ _ rfl S _ _ rfl 0 _ _ rfl _ Try.underlying28 rfl _ (by with_reducible exact q0) ?_)
                          | ((with_reducible show wpList _ _ _ (Oper.mk _ (Op.load _ (Operand.tmp 11)) _ _ _ _ :: _) _ _); refine wpList_cellS rfl _ _ rfl S _ _ rfl 1 _ _ rfl _ Try.underlying3 rfl _ (by with_reducible exact p1) ?_)
                          | ((with_reducible show wpList _ _ _ (Oper.mk _ (Op.load _ (Operand.tmp 13)) _ _ _ _ :: _) _ _); refine wpList_cellS rfl _ _ rfl S _ _ rfl 0 _ _ rfl _ Try.underlying3 rfl _ (by with_reducible exact q1) ?_)
                          | ((with_reducible show wpList _ _ _ (Oper.mk _ (Op.load _ (Operand.tmp 18)) _ _ _ _ :: _) _ _); refine wpList_cellS rfl _ _ rfl S _ _ rfl 1 _ _ rfl _ Try.underlying3 rfl _ (by with_reducible exact p2) ?_)
                          | ((with_reducible show wpList _ _ _ (Oper.mk _ (Op.load _ (Operand.tmp 20)) _ _ _ _ :: _) _ _); refine wpList_cellS rfl _ _ rfl S _ _ rfl 0 _ _ rfl _ Try.underlying3 rfl _ (by with_reducible exact q2) ?_)
                          | ((with_reducible show wpList _ _ _ (Oper.mk _ (Op.load _ (Operand.tmp 25)) _ _ _ _ :: _) _ _); refine wpList_cellS rfl _ _ rfl S _ _ rfl 1 _ _ rfl _ Try.underlying3 rfl _ (by with_reducible exact p3) ?_)
                          | ((with_reducible show wpList _ _ _ (Oper.mk _ (Op.load _ (Operand.tmp 27)) _ _ _ _ :: _) _ _); refine wpList_cellS rfl _ _ rfl S _ _ rfl 0 _ _ rfl _ Try.underlying3 rfl _ (by with_reducible exact q3) ?_)
                          | ((with_reducible show wpList _ _ _ (Oper.mk (some 33) (Op.load _ _) _ _ _ _ :: _) _ _); refine wpList_partS rfl _ _ rfl S _ _ rfl 1 _ _ rfl _ Try.underlying31 rfl _ HASP.out HAP.out ?_)
                          | ((with_reducible show wpList _ _ _ (Oper.mk (some 35) (Op.load _ _) _ _ _ _ :: _) _ _); refine wpList_partS rfl _ _ rfl S _ _ rfl 0 _ _ rfl _ Try.underlying31 rfl _ HASQ.out HAQ.out ?_)
                          | ((with_reducible show wpList _ _ _ (Oper.mk _ (Op.load _ (Operand.tmp 39)) _ _ _ _ :: _) _ _); refine wpList_cellS rfl _ _ rfl S _ _ rfl 1 _ _ rfl _ Try.underlying28 rfl _ (by with_reducible exact p5) ?_)
                          | ((with_reducible show wpList _ _ _ (Oper.mk _ (Op.load _ (Operand.tmp 41)) _ _ _ _ :: _) _ _); refine wpList_cellS rfl _ _ rfl S _ _ rfl 0 _ _ rfl _ Try.underlying28 rfl _ (by with_reducible exact q5) ?_)
                          | ((with_reducible show wpList _ _ _ (Oper.mk _ (Op.load _ (Operand.tmp 46)) _ _ _ _ :: _) _ _); refine wpList_cellS rfl _ _ rfl S _ _ rfl 1 _ _ rfl _ Try.underlying28 rfl _ (by with_reducible exact p6) ?_)
                          | ((with_reducible show wpList _ _ _ (Oper.mk _ (Op.load _ (Operand.tmp 48)) _ _ _ _ :: _) _ _); refine wpList_cellS rfl _ _ rfl S _ _ rfl 0 _ _ rfl _ Try.underlying28 rfl _ (by with_reducible exact q6) ?_)
                          | ((with_reducible show wpList _ _ _ (Oper.mk _ (Op.load _ (Operand.tmp 53)) _ _ _ _ :: _) _ _); refine wpList_cellS rfl _ _ rfl S _ _ rfl 1 _ _ rfl _ Try.underlying3 rfl _ (by with_reducible exact p7) ?_)
                          | ((with_reducible show wpList _ _ _ (Oper.mk _ (Op.load _ (Operand.tmp 55)) _ _ _ _ :: _) _ _); refine wpList_cellS rfl _ _ rfl S _ _ rfl 0 _ _ rfl _ Try.underlying3 rfl _ (by with_reducible exact q7) ?_)
                          | ((with_reducible show wpList _ _ _ (Oper.mk _ (Op.load _ (Operand.tmp 60)) _ _ _ _ :: _) _ _); refine wpList_cellS rfl _ _ rfl S _ _ rfl 1 _ _ rfl _ Try.underlying3 rfl _ (by with_reducible exact p8) ?_)
                          | ((with_reducible show wpList _ _ _ (Oper.mk _ (Op.load _ (Operand.tmp 62)) _ _ _ _ :: _) _ _); refine wpList_cellS rfl _ _ rfl S _ _ rfl 0 _ _ rfl _ Try.underlying3 rfl _ (by with_reducible exact q8) ?_)
                          | ((with_reducible show wpList _ _ _ (Oper.mk _ (Op.load _ (Operand.tmp 67)) _ _ _ _ :: _) _ _); refine wpList_cellS rfl _ _ rfl S _ _ rfl 1 _ _ rfl _ Try.underlying3 rfl _ (by with_reducible exact p9) ?_)
                          | ((with_reducible show wpList _ _ _ (Oper.mk _ (Op.load _ (Operand.tmp 69)) _ _ _ _ :: _) _ _); refine wpList_cellS rfl _ _ rfl S _ _ rfl 0 _ _ rfl _ Try.underlying3 rfl _ (by with_reducible exact q9) ?_)
                          | ((with_reducible show wpList _ _ _ (Oper.mk (some 75) (Op.load _ _) _ _ _ _ :: _) _ _); refine wpList_partS rfl _ _ rfl S _ _ rfl 1 _ _ rfl _ Try.underlying32 rfl [.int .i64 (R.nu 3), .int .i64 (R.nu 4), .int .i64 (R.nu 5), .int .i64 (R.nu 6), .int .i64 (R.nu 7)] (HNZ.out (R.nu 3) (R.nu 4) (R.nu 5) (R.nu 6) (R.nu 7)) HNP.out ?_)
                          | ((with_reducible show wpList _ _ _ (Oper.mk (some 77) (Op.load _ _) _ _ _ _ :: _) _ _); refine wpList_partS rfl _ _ rfl S _ _ rfl 0 _ _ rfl _ Try.underlying32 rfl [.int .i64 (Q.nu 3), .int .i64 (Q.nu 4), .int .i64 (Q.nu 5), .int .i64 (Q.nu 6), .int .i64 (Q.nu 7)] (HNZ.out (Q.nu 3) (Q.nu 4) (Q.nu 5) (Q.nu 6) (Q.nu 7)) HNQ.out ?_)
                          | ((with_reducible show wpList _ _ _ (Oper.mk _ (Op.load _ (Operand.tmp 81)) _ _ _ _ :: _) _ _); refine wpList_cellS rfl _ _ rfl S _ _ rfl 1 _ _ rfl _ Try.underlying9 rfl _ (by with_reducible exact p11) ?_)
                          | ((with_reducible show wpList _ _ _ (Oper.mk _ (Op.load _ (Operand.tmp 83)) _ _ _ _ :: _) _ _); refine wpList_cellS rfl _ _ rfl S _ _ rfl 0 _ _ rfl _ Try.underlying9 rfl _ (by with_reducible exact q11) ?_))
                        go_ret
                        exact ⟨rfl, S.below⟩
                      | true =>
                        have t11 := HT11.out
                        cases b11 with
                        | false =>
                          go_enter Try.func9, Try.ntmps9
                          simp only [List.append_eq, List.cons_append, List.nil_append]
                          go_wp2_with (first
                            | ((with_reducible show wpList _ _ _ (Oper.mk (some 2) (Op.box _ _) _ _ _ _ :: _) _ _); refine wpList_boxS rfl _ _ rfl x rfl S ?_; clear S; intro ga w1 S)
                            | ((with_reducible show wpList _ _ _ (Oper.mk (some 3) (Op.box _ _) _ _ _ _ :: _) _ _); refine wpList_boxS rfl _ _ rfl y rfl S ?_; clear S; intro gb w1 S)
                            | ((with_reducible refine (HX0.out _ S.below).mono ?_); rintro e w2 ⟨rfl, hb⟩; have S := S.call hb; clear hb)
                            | ((with_reducible refine (HX1.out _ S.below).mono ?_); rintro e w2 ⟨rfl, hb⟩; have S := S.call hb; clear hb)
                            | ((with_reducible refine (HX2.out _ S.below).mono ?_); rintro e w2 ⟨rfl, hb⟩; have S := S.call hb; clear hb)
                            | ((with_reducible show wpList _ _ _ (Oper.mk _ (Op.load _ (Operand.tmp 5)) _ _ _ _ :: _) _ _); refine wpList_cellS rfl _ _ rfl S _ _ rfl 1 _ _ rfl _ Try.underlying28 rfl _ (by with_reducible exact p0) ?_)
                            | ((with_reducible show wpList _ _ _ (Oper.mk _ (Op.load _ (Operand.tmp 7)) _ _ _ _ :: _) _ _); refine wpList_cellS rfl _ _ rfl S _ _ rfl 0 _ _ rfl _ Try.underlying28 rfl _ (by with_reducible exact q0) ?_)
                            | ((with_reducible show wpList _ _ _ (Oper.mk _ (Op.load _ (Operand.tmp 11)) _ _ _ _ :: _) _ _); refine wpList_cellS rfl _ _ rfl S _ _ rfl 1 _ _ rfl _ Try.underlying3 rfl _ (by with_reducible exact p1) ?_)
                            | ((with_reducible show wpList _ _ _ (Oper.mk _ (Op.load _ (Operand.tmp 13)) _ _ _ _ :: _) _ _); refine wpList_cellS rfl _ _ rfl S _ _ rfl 0 _ _ rfl _ Try.underlying3 rfl _ (by with_reducible exact q1) ?_)
                            | ((with_reducible show wpList _ _ _ (Oper.mk _ (Op.load _ (Operand.tmp 18)) _ _ _ _ :: _) _ _); refine wpList_cellS rfl _ _ rfl S _ _ rfl 1 _ _ rfl _ Try.underlying3 rfl _ (by with_reducible exact p2) ?_)
                            | ((with_reducible show wpList _ _ _ (Oper.mk _ (Op.load _ (Operand.tmp 20)) _ _ _ _ :: _) _ _); refine wpList_cellS rfl _ _ rfl S _ _ rfl 0 _ _ rfl _ Try.underlying3 rfl _ (by with_reducible exact q2) ?_)
                            | ((with_reducible show wpList _ _ _ (Oper.mk _ (Op.load _ (Operand.tmp 25)) _ _ _ _ :: _) _ _); refine wpList_cellS rfl _ _ rfl S _ _ rfl 1 _ _ rfl _ Try.underlying3 rfl _ (by with_reducible exact p3) ?_)
                            | ((with_reducible show wpList _ _ _ (Oper.mk _ (Op.load _ (Operand.tmp 27)) _ _ _ _ :: _) _ _); refine wpList_cellS rfl _ _ rfl S _ _ rfl 0 _ _ rfl _ Try.underlying3 rfl _ (by with_reducible exact q3) ?_)
                            | ((with_reducible show wpList _ _ _ (Oper.mk (some 33) (Op.load _ _) _ _ _ _ :: _) _ _); refine wpList_partS rfl _ _ rfl S _ _ rfl 1 _ _ rfl _ Try.underlying31 rfl _ HASP.out HAP.out ?_)
                            | ((with_reducible show wpList _ _ _ (Oper.mk (some 35) (Op.load _ _) _ _ _ _ :: _) _ _); refine wpList_partS rfl _ _ rfl S _ _ rfl 0 _ _ rfl _ Try.underlying31 rfl _ HASQ.out HAQ.out ?_)
                            | ((with_reducible show wpList _ _ _ (Oper.mk _ (Op.load _ (Operand.tmp 39)) _ _ _ _ :: _) _ _); refine wpList_cellS rfl _ _ rfl S _ _ rfl 1 _ _ rfl _ Try.underlying28 rfl _ (by with_reducible exact p5) ?_)
                            | ((with_reducible show wpList _ _ _ (Oper.mk _ (Op.load _ (Operand.tmp 41)) _ _ _ _ :: _) _ _); refine wpList_cellS rfl _ _ rfl S _ _ rfl 0 _ _ rfl _ Try.underlying28 rfl _ (by with_reducible exact q5) ?_)
                            | ((with_reducible show wpList _ _ _ (Oper.mk _ (Op.load _ (Operand.tmp 46)) _ _ _ _ :: _) _ _); refine wpList_cellS rfl _ _ rfl S _ _ rfl 1 _ _ rfl _ Try.underlying28 rfl _ (by with_reducible exact p6) ?_)
                            | ((with_reducible show wpList _ _ _ (Oper.mk _ (Op.load _ (Operand.tmp 48)) _ _ _ _ :: _) _ _); refine wpList_cellS rfl _ _ rfl S _ _ rfl 0 _ _ rfl _ Try.underlying28 rfl _ (by with_reducible exact q6) ?_)
                            | ((with_reducible show wpList _ _ _ (Oper.mk _ (Op.load _ (Operand.tmp 53)) _ _ _ _ :: _) _ _); refine wpList_cellS rfl _ _ rfl S _ _ rfl 1 _ _ rfl _ Try.underlying3 rfl _ (by with_reducible exact p7) ?_)
                            | ((with_reducible show wpList _ _ _ (Oper.mk _ (Op.load _ (Operand.tmp 55)) _ _ _ _ :: _) _ _); refine wpList_cellS rfl _ _ rfl S _ _ rfl 0 _ _ rfl _ Try.underlying3 rfl _ (by with_reducible exact q7) ?_)
                            | ((with_reducible show wpList _ _ _ (Oper.mk _ (Op.load _ (Operand.tmp 60)) _ _ _ _ :: _) _ _); refine wpList_cellS rfl _ _ rfl S _ _ rfl 1 _ _ rfl _ Try.underlying3 rfl _ (by with_reducible exact p8) ?_)
                            | ((with_reducible show wpList _ _ _ (Oper.mk _ (Op.load _ (Operand.tmp 62)) _ _ _ _ :: _) _ _); refine wpList_cellS rfl _ _ rfl S _ _ rfl 0 _ _ rfl _ Try.underlying3 rfl _ (by with_reducible exact q8) ?_)
                            | ((with_reducible show wpList _ _ _ (Oper.mk _ (Op.load _ (Operand.tmp 67)) _ _ _ _ :: _) _ _); refine wpList_cellS rfl _ _ rfl S _ _ rfl 1 _ _ rfl _ Try.underlying3 rfl _ (by with_reducible exact p9) ?_)
                            | ((with_reducible show wpList _ _ _ (Oper.mk _ (Op.load _ (Operand.tmp 69)) _ _ _ _ :: _) _ _); refine wpList_cellS rfl _ _ rfl S _ _ rfl 0 _ _ rfl _ Try.underlying3 rfl _ (by with_reducible exact q9) ?_)
                            | ((with_reducible show wpList _ _ _ (Oper.mk (some 75) (Op.load _ _) _ _ _ _ :: _) _ _); refine wpList_partS rfl _ _ rfl S _ _ rfl 1 _ _ rfl _ Try.underlying32 rfl [.int .i64 (R.nu 3), .int .i64 (R.nu 4), .int .i64 (R.nu 5), .int .i64 (R.nu 6), .int .i64 (R.nu 7)] (HNZ.out (R.nu 3) (R.nu 4) (R.nu 5) (R.nu 6) (R.nu 7)) HNP.out ?_)
                            | ((with_reducible show wpList _ _ _ (Oper.mk (some 77) (Op.load _ _) _ _ _ _ :: _) _ _); refine wpList_partS rfl _ _ rfl S _ _ rfl 0 _ _ rfl _ Try.underlying32 rfl [.int .i64 (Q.nu 3), .int .i64 (Q.nu 4), .int .i64 (Q.nu 5), .int .i64 (Q.nu 6), .int .i64 (Q.nu 7)] (HNZ.out (Q.nu 3) (Q.nu 4) (Q.nu 5) (Q.nu 6) (Q.nu 7)) HNQ.out ?_)
                            | ((with_reducible show wpList _ _ _ (Oper.mk _ (Op.load _ (Operand.tmp 81)) _ _ _ _ :: _) _ _); refine wpList_cellS rfl _ _ rfl S _ _ rfl 1 _ _ rfl _ Try.underlying9 rfl _ (by with_reducible exact p11) ?_)
                            | ((with_reducible show wpList _ _ _ (Oper.mk _ (Op.load _ (Operand.tmp 83)) _ _ _ _ :: _) _ _); refine wpList_cellS rfl _ _ rfl S _ _ rfl 0 _ _ rfl _ Try.underlying9 rfl _ (by with_reducible exact q11) ?_))
                          go_ret
                          exact ⟨rfl, S.below⟩
                        | true =>
                          go_enter Try.func9, Try.ntmps9
                          simp only [List.append_eq, List.cons_append, List.nil_append]
                          go_wp2_with (first
                            | ((with_reducible show wpList _ _ _ (Oper.mk (some 2) (Op.box _ _) _ _ _ _ :: _) _ _); refine wpList_boxS rfl _ _ rfl x rfl S ?_; clear S; intro ga w1 S)
                            | ((with_reducible show wpList _ _ _ (Oper.mk (some 3) (Op.box _ _) _ _ _ _ :: _) _ _); refine wpList_boxS rfl _ _ rfl y rfl S ?_; clear S; intro gb w1 S)
                            | ((with_reducible refine (HX0.out _ S.below).mono ?_); rintro e w2 ⟨rfl, hb⟩; have S := S.call hb; clear hb)
                            | ((with_reducible refine (HX1.out _ S.below).mono ?_); rintro e w2 ⟨rfl, hb⟩; have S := S.call hb; clear hb)
                            | ((with_reducible refine (HX2.out _ S.below).mono ?_); rintro e w2 ⟨rfl, hb⟩; have S := S.call hb; clear hb)
                            | ((with_reducible show wpList _ _ _ (Oper.mk _ (Op.load _ (Operand.tmp 5)) _ _ _ _ :: _) _ _); refine wpList_cellS rfl _ _ rfl S _ _ rfl 1 _ _ rfl _ Try.underlying28 rfl _ (by with_reducible exact p0) ?_)
                            | ((with_reducible show wpList _ _ _ (Oper.mk _ (Op.load _ (Operand.tmp 7)) _ _ _ _ :: _) _ _); refine wpList_cellS rfl _ _ rfl S _ _ rfl 0 _ _ rfl _ Try.underlying28 rfl _ (by with_reducible exact q0) ?_)
                            | ((with_reducible show wpList _ _ _ (Oper.mk _ (Op.load _ (Operand.tmp 11)) _ _ _ _ :: _) _ _); refine wpList_cellS rfl _ _ rfl S _ _ rfl 1 _ _ rfl _ Try.underlying3 rfl _ (by with_reducible exact p1) ?_)
                            | ((with_reducible show wpList _ _ _ (Oper.mk _ (Op.load _ (Operand.tmp 13)) _ _ _ _ :: _) _ _); refine wpList_cellS rfl _ _ rfl S _ _ rfl 0 _ _ rfl _ Try.underlying3 rfl _ (by with_reducible exact q1) ?_)
                            | ((with_reducible show wpList _ _ _ (Oper.mk _ (Op.load _ (Operand.tmp 18)) _ _ _ _ :: _) _ _); refine wpList_cellS rfl _ _ rfl S _ _ rfl 1 _ _ rfl _ Try.underlying3 rfl _ (by with_reducible exact p2) ?_)
                            | ((with_reducible show wpList _ _ _ (Oper.mk _ (Op.load _ (Operand.tmp 20)) _ _ _ _ :: _) _ _); refine wpList_cellS rfl _ _ rfl S _ _ rfl 0 _ _ rfl _ Try.underlying3 rfl _ (by with_reducible exact q2) ?_)
                            | ((with_reducible show wpList _ _ _ (Oper.mk _ (Op.load _ (Operand.tmp 25)) _ _ _ _ :: _) _ _); refine wpList_cellS rfl _ _ rfl S _ _ rfl 1 _ _ rfl _ Try.underlying3 rfl _ (by with_reducible exact p3) ?_)
                            | ((with_reducible show wpList _ _ _ (Oper.mk _ (Op.load _ (Operand.tmp 27)) _ _ _ _ :: _) _ _); refine wpList_cellS rfl _ _ rfl S _ _ rfl 0 _ _ rfl _ Try.underlying3 rfl _ (by with_reducible exact q3) ?_)
                            | ((with_reducible show wpList _ _ _ (Oper.mk (some 33) (Op.load _ _) _ _ _ _ :: _) _ _); refine wpList_partS rfl _ _ rfl S _ _ rfl 1 _ _ rfl _ Try.underlying31 rfl _ HASP.out HAP.out ?_)
                            | ((with_reducible show wpList _ _ _ (Oper.mk (some 35) (Op.load _ _) _ _ _ _ :: _) _ _); refine wpList_partS rfl _ _ rfl S _ _ rfl 0 _ _ rfl _ Try.underlying31 rfl _ HASQ.out HAQ.out ?_)
                            | ((with_reducible show wpList _ _ _ (Oper.mk _ (Op.load _ (Operand.tmp 39)) _ _ _ _ :: _) _ _); refine wpList_cellS rfl _ _ rfl S _ _ rfl 1 _ _ rfl _ Try.underlying28 rfl _ (by with_reducible exact p5) ?_)
                            | ((with_reducible show wpList _ _ _ (Oper.mk _ (Op.load _ (Operand.tmp 41)) _ _ _ _ :: _) _ _); refine wpList_cellS rfl _ _ rfl S _ _ rfl 0 _ _ rfl _ Try.underlying28 rfl _ (by with_reducible exact q5) ?_)
                            | ((with_reducible show wpList _ _ _ (Oper.mk _ (Op.load _ (Operand.tmp 46)) _ _ _ _ :: _) _ _); refine wpList_cellS rfl _ _ rfl S _ _ rfl 1 _ _ rfl _ Try.underlying28 rfl _ (by with_reducible exact p6) ?_)
                            | ((with_reducible show wpList _ _ _ (Oper.mk _ (Op.load _ (Operand.tmp 48)) _ _ _ _ :: _) _ _); refine wpList_cellS rfl _ _ rfl S _ _ rfl 0 _ _ rfl _ Try.underlying28 rfl _ (by with_reducible exact q6) ?_)
                            | ((with_reducible show wpList _ _ _ (Oper.mk _ (Op.load _ (Operand.tmp 53)) _ _ _ _ :: _) _ _); refine wpList_cellS rfl _ _ rfl S _ _ rfl 1 _ _ rfl _ Try.underlying3 rfl _ (by with_reducible exact p7) ?_)
                            | ((with_reducible show wpList _ _ _ (Oper.mk _ (Op.load _ (Operand.tmp 55)) _ _ _ _ :: _) _ _); refine wpList_cellS rfl _ _ rfl S _ _ rfl 0 _ _ rfl _ Try.underlying3 rfl _ (by with_reducible exact q7) ?_)
                            | ((with_reducible show wpList _ _ _ (Oper.mk _ (Op.load _ (Operand.tmp 60)) _ _ _ _ :: _) _ _); refine wpList_cellS rfl _ _ rfl S _ _ rfl 1 _ _ rfl _ Try.underlying3 rfl _ (by with_reducible exact p8) ?_)
                            | ((with_reducible show wpList _ _ _ (Oper.mk _ (Op.load _ (Operand.tmp 62)) _ _ _ _ :: _) _ _); refine wpList_cellS rfl _ _ rfl S _ _ rfl 0 _ _ rfl _ Try.underlying3 rfl _ (by with_reducible exact q8) ?_)
                            | ((with_reducible show wpList _ _ _ (Oper.mk _ (Op.load _ (Operand.tmp 67)) _ _ _ _ :: _) _ _); refine wpList_cellS rfl _ _ rfl S _ _ rfl 1 _ _ rfl _ Try.underlying3 rfl _ (by with_reducible exact p9) ?_)
                            | ((with_reducible show wpList _ _ _ (Oper.mk _ (Op.load _ (Operand.tmp 69)) _ _ _ _ :: _) _ _); refine wpList_cellS rfl _ _ rfl S _ _ rfl 0 _ _ rfl _ Try.underlying3 rfl _ (by with_reducible exact q9) ?_)
                            | ((with_reducible show wpList _ _ _ (Oper.mk (some 75) (Op.load _ _) _ _ _ _ :: _) _ _); refine wpList_partS rfl _ _ rfl S _ _ rfl 1 _ _ rfl _ Try.underlying32 rfl [.int .i64 (R.nu 3), .int .i64 (R.nu 4), .int .i64 (R.nu 5), .int .i64 (R.nu 6), .int .i64 (R.nu 7)] (HNZ.out (R.nu 3) (R.nu 4) (R.nu 5) (R.nu 6) (R.nu 7)) HNP.out ?_)
                            | ((with_reducible show wpList _ _ _ (Oper.mk (some 77) (Op.load _ _) _ _ _ _ :: _) _ _); refine wpList_partS rfl _ _ rfl S _ _ rfl 0 _ _ rfl _ Try.underlying32 rfl [.int .i64 (Q.nu 3), .int .i64 (Q.nu 4), .int .i64 (Q.nu 5), .int .i64 (Q.nu 6), .int .i64 (Q.nu 7)] (HNZ.out (Q.nu 3) (Q.nu 4) (Q.nu 5) (Q.nu 6) (Q.nu 7)) HNQ.out ?_)
                            | ((with_reducible show wpList _ _ _ (Oper.mk _ (Op.load _ (Operand.tmp 81)) _ _ _ _ :: _) _ _); refine wpList_cellS rfl _ _ rfl S _ _ rfl 1 _ _ rfl _ Try.underlying9 rfl _ (by with_reducible exact p11) ?_)
                            | ((with_reducible show wpList _ _ _ (Oper.mk _ (Op.load _ (Operand.tmp 83)) _ _ _ _ :: _) _ _); refine wpList_cellS rfl _ _ rfl S _ _ rfl 0 _ _ rfl _ Try.underlying9 rfl _ (by with_reducible exact q11) ?_))
                          go_ret
                          exact ⟨rfl, S.below⟩
end Go.Proofs.Ytnoabmkmnddkkaa
namespace Go.Proofs.Ytnoabmkmnddkkaa
open Go.RowKit Go
set_option linter.unusedVariables false
set_option linter.unusedSimpArgs false
set_option maxRecDepth 100000
theorem drop_at {A : Type} {l : List A} {k : Nat} (h : k < l.length) : l.drop k = l[k] :: l.drop (k + 1) := List.drop_eq_getElem_cons h
/-- one round of Check -/
def CheckR (w : World) (ga gp n : Nat) (cs : Array Value) (ps : List Pt) (E : Int) (F : Rc Lbs) (i : Value) (wr : World) : Prop :=
  ∃ (k : Nat) (R : Rc Nm), k ≤ n ∧ i = .int .i64 k ∧ RcOk w R ∧ Ats w.heap.size w wr [(ga, 34, rcC R), (gp, 52, cs)] ∧ chkL (ps.drop k) R.tx = E ∧ clrL [] (ps.drop k) R.tx = F
set_option maxHeartbeats 8000000 in
theorem rdCheck_any (R : Rc Nm) (w : World) (hR : RcOk w R) (h0 : TextsAt w (R.nm 0).A (R.nm 0).n (R.nm 0).l) (h0b : sizeL (R.nm 0).l ≤ 401) : Calls Try.prog 12 #[rcV R] w fun e w' => e = .returned (.int .i64 (recE R.tx)) ∧ Below w.heap.size w w' := by
  have S := Ats.start w
  have d1 : (rcC R)[1]? = some (.int .i64 R.ty) := rc_ty
  have d2 : (rcC R)[2]? = some (.int .i64 R.cl) := rc_cl
  have d3 : (rcC R)[3]? = some (.int .i64 R.tt) := rc_tt
  have HR := Lib.hid hR
  have HPT := Lib.hid (fun ga w' (h : At w' ga 34 (rcC R)) => parts_any h)
  have hok := rParts_ok R.ty R.cl
  have HW1 := Lib.hid (show ∀ w, Calls Try.prog 19 #[.int .i64 R.ty, .int .i64 2] w fun e w' => e = .returned (.bool (inW 2 R.ty)) ∧ w = w' from fun w => rdWithin_any R.ty 2 (.inl rfl) w)
  have HW2 := Lib.hid (show ∀ w, Calls Try.prog 19 #[.int .i64 R.cl, .int .i64 2] w fun e w' => e = .returned (.bool (inW 2 R.cl)) ∧ w = w' from fun w => rdWithin_any R.cl 2 (.inl rfl) w)
  have HW3 := Lib.hid (show ∀ w, Calls Try.prog 19 #[.int .i64 R.tt, .int .i64 4] w fun e w' => e = .returned (.bool (inW 4 R.tt)) ∧ w = w' from fun w => rdWithin_any R.tt 4 (.inr rfl) w)
  have hE : recE R.tx = if checkL (R.nm 0).l = 0 then (if (inW 2 R.ty && inW 2 R.cl && inW 4 R.tt) = true then (if chkL (rParts R.ty R.cl) R.tx = 0 then (if emptyB (clrL [] (rParts R.ty R.cl) R.tx) = true then 0 else 5) else chkL (rParts R.ty R.cl) R.tx) else 4) else checkL (R.nm 0).l := rfl
  obtain ⟨r, hr⟩ : ∃ r, r = recE R.tx := ⟨_, rfl⟩
  rw [← hr] at hE ⊢
  have d0 : (rcC R)[0]? = some (R.nm 0).v := rc_nm0
  obtain ⟨y, hy⟩ : ∃ y, y = R.nm 0 := ⟨_, rfl⟩
  rw [← hy] at d0 h0 h0b hE
  obtain ⟨A0, n0, c0, l0⟩ := y
  have d00 : (rcC R)[0]? = some (.slice A0 n0 c0) := d0
  clear d0
  have d0 := d00
  clear d00
  have HC0 := Lib.hid (fun w' (hb : Below w.heap.size w w') => check_any A0 n0 c0 l0 w' (h0.below hb) (Nat.le_trans h0b (by decide)))
  have hE : r = if checkL l0 = 0 then (if (inW 2 R.ty && inW 2 R.cl && inW 4 R.tt) = true then (if chkL (rParts R.ty R.cl) R.tx = 0 then (if emptyB (clrL [] (rParts R.ty R.cl) R.tx) = true then 0 else 5) else chkL (rParts R.ty R.cl) R.tx) else 4) else checkL l0 := hE
  have hl7 := rParts_len R.ty R.cl
  obtain ⟨ps, hps⟩ : ∃ ps, ps = rParts R.ty R.cl := ⟨_, rfl⟩
  rw [← hps] at HPT hok hE hl7
  have HL7 := Lib.hid hl7
  clear hl7
  obtain ⟨ty, hty⟩ : ∃ ty, ty = R.ty := ⟨_, rfl⟩
  obtain ⟨cl, hcl⟩ : ∃ cl, cl = R.cl := ⟨_, rfl⟩
  obtain ⟨tt, htt⟩ : ∃ tt, tt = R.tt := ⟨_, rfl⟩
  rw [← hty] at d1 HW1 hE
  rw [← hcl] at d2 HW2 hE
  rw [← htt] at d3 HW3 hE
  obtain ⟨e0, he0⟩ : ∃ x, x = checkL l0 := ⟨_, rfl⟩
  obtain ⟨i1, hi1⟩ : ∃ x, x = inW 2 ty := ⟨_, rfl⟩
  obtain ⟨i2, hi2⟩ : ∃ x, x = inW 2 cl := ⟨_, rfl⟩
  obtain ⟨i3, hi3⟩ : ∃ x, x = inW 4 tt := ⟨_, rfl⟩
  obtain ⟨E, hEE⟩ : ∃ x, x = chkL ps R.tx := ⟨_, rfl⟩
  obtain ⟨F, hF⟩ : ∃ x, x = clrL [] ps R.tx := ⟨_, rfl⟩
  rw [← he0] at HC0 hE
  rw [← hi1] at HW1 hE
  rw [← hi2] at HW2 hE
  rw [← hi3] at HW3 hE
  rw [← hEE, ← hF] at hE
  have HEE := Lib.hid hEE
  have HF := Lib.hid hF
  have HOK := Lib.hid hok
  have HE := Lib.hid hE
  clear hy h0 h0b hps hty hcl htt he0 hi1 hi2 hi3 hEE hF hr hR hok hE
  show Calls Try.prog _ #[.agg (rcC R)] w _
  obtain ⟨xc, hxc⟩ : ∃ x, x = rcC R := ⟨_, rfl⟩
  rw [← hxc] at d0 d1 d2 d3 HPT ⊢
  have HXC := Lib.hid hxc
  clear hxc
  by_cases z0 : e0 = 0
  · subst z0
    cases i1 with
    | false =>
      have HRE := Lib.hid (show r = 4 by rw [HE.out]; rfl)
      clear HE
      go_enter Try.func12, Try.ntmps12
      go_wp2_with (first
        | ((with_reducible show wpList _ _ _ (Oper.mk _ (Op.box _ _) _ _ _ _ :: _) _ _); refine wpList_boxS rfl _ _ rfl xc rfl S ?_; clear S; intro ga w1 S)
        | ((with_reducible show wpList _ _ _ (Oper.mk _ (Op.load _ (Operand.tmp 7)) _ _ _ _ :: _) _ _); refine wpList_cellS rfl _ _ rfl S _ _ rfl 0 _ _ rfl _ Try.underlying28 rfl _ (by with_reducible exact d0) ?_)
        | ((with_reducible show wpList _ _ _ (Oper.mk _ (Op.load _ (Operand.tmp 13)) _ _ _ _ :: _) _ _); refine wpList_cellS rfl _ _ rfl S _ _ rfl 0 _ _ rfl _ Try.underlying3 rfl _ (by with_reducible exact d1) ?_)
        | ((with_reducible show wpList _ _ _ (Oper.mk _ (Op.load _ (Operand.tmp 18)) _ _ _ _ :: _) _ _); refine wpList_cellS rfl _ _ rfl S _ _ rfl 0 _ _ rfl _ Try.underlying3 rfl _ (by with_reducible exact d2) ?_)
        | ((with_reducible show wpList _ _ _ (Oper.mk _ (Op.load _ (Operand.tmp 24)) _ _ _ _ :: _) _ _); refine wpList_cellS rfl _ _ rfl S _ _ rfl 0 _ _ rfl _ Try.underlying3 rfl _ (by with_reducible exact d3) ?_)
        | ((with_reducible refine (HC0.out _ S.below).mono ?_); rintro e w2 ⟨rfl, rfl⟩)
        | ((with_reducible refine (HW1.out _).mono ?_); rintro e w2 ⟨rfl, rfl⟩)
        | ((with_reducible refine (HW2.out _).mono ?_); rintro e w2 ⟨rfl, rfl⟩)
        | ((with_reducible refine (HW3.out _).mono ?_); rintro e w2 ⟨rfl, rfl⟩)
        | ((with_reducible refine (HPT.out _ _ (S.get (i := 0) rfl)).mono ?_); rintro e w2 ⟨gp, c, cs, rfl, hg, ha, hcs, hb⟩; have S := (S.born hg ha hb).swap; have HCS := Lib.hid hcs; clear hg ha hb hcs))
      go_ret
      exact ⟨ret_int HRE.out.symm, S.below⟩
    | true =>
      cases i2 with
      | false =>
        have HRE := Lib.hid (show r = 4 by rw [HE.out]; rfl)
        clear HE
        go_enter Try.func12, Try.ntmps12
        go_wp2_with (first
          | ((with_reducible show wpList _ _ _ (Oper.mk _ (Op.box _ _) _ _ _ _ :: _) _ _); refine wpList_boxS rfl _ _ rfl xc rfl S ?_; clear S; intro ga w1 S)
          | ((with_reducible show wpList _ _ _ (Oper.mk _ (Op.load _ (Operand.tmp 7)) _ _ _ _ :: _) _ _); refine wpList_cellS rfl _ _ rfl S _ _ rfl 0 _ _ rfl _ Try.underlying28 rfl _ (by with_reducible exact d0) ?_)
          | ((with_reducible show wpList _ _ _ (Oper.mk _ (Op.load _ (Operand.tmp 13)) _ _ _ _ :: _) _ _); refine wpList_cellS rfl _ _ rfl S _ _ rfl 0 _ _ rfl _ Try.underlying3 rfl _ (by with_reducible exact d1) ?_)
          | ((with_reducible show wpList _ _ _ (Oper.mk _ (Op.load _ (Operand.tmp 18)) _ _ _ _ :: _) _ _); refine wpList_cellS rfl _ _ rfl S _ _ rfl 0 _ _ rfl _ Try.underlying3 rfl _ (by with_reducible exact d2) ?_)
          | ((with_reducible show wpList _ _ _ (Oper.mk _ (Op.load _ (Operand.tmp 24)) _ _ _ _ :: _) _ _); refine wpList_cellS rfl _ _ rfl S _ _ rfl 0 _ _ rfl _ Try.underlying3 rfl _ (by with_reducible exact d3) ?_)
          | ((with_reducible refine (HC0.out _ S.below).mono ?_); rintro e w2 ⟨rfl, rfl⟩)
          | ((with_reducible refine (HW1.out _).mono ?_); rintro e w2 ⟨rfl, rfl⟩)
          | ((with_reducible refine (HW2.out _).mono ?_); rintro e w2 ⟨rfl, rfl⟩)
          | ((with_reducible refine (HW3.out _).mono ?_); rintro e w2 ⟨rfl, rfl⟩)
          | ((with_reducible refine (HPT.out _ _ (S.get (i := 0) rfl)).mono ?_); rintro e w2 ⟨gp, c, cs, rfl, hg, ha, hcs, hb⟩; have S := (S.born hg ha hb).swap; have HCS := Lib.hid hcs; clear hg ha hb hcs))
        go_ret
        exact ⟨ret_int HRE.out.symm, S.below⟩
      | true =>
        cases i3 with
        | false =>
          have HRE := Lib.hid (show r = 4 by rw [HE.out]; rfl)
          clear HE
          go_enter Try.func12, Try.ntmps12
          go_wp2_with (first
            | ((with_reducible show wpList _ _ _ (Oper.mk _ (Op.box _ _) _ _ _ _ :: _) _ _); refine wpList_boxS rfl _ _ rfl xc rfl S ?_; clear S; intro ga w1 S)
            | ((with_reducible show wpList _ _ _ (Oper.mk _ (Op.load _ (Operand.tmp 7)) _ _ _ _ :: _) _ _); refine wpList_cellS rfl _ _ rfl S _ _ rfl 0 _ _ rfl _ Try.underlying28 rfl _ (by with_reducible exact d0) ?_)
            | ((with_reducible show wpList _ _ _ (Oper.mk _ (Op.load _ (Operand.tmp 13)) _ _ _ _ :: _) _ _); refine wpList_cellS rfl _ _ rfl S _ _ rfl 0 _ _ rfl _ Try.underlying3 rfl _ (by with_reducible exact d1) ?_)
            | ((with_reducible show wpList _ _ _ (Oper.mk _ (Op.load _ (Operand.tmp 18)) _ _ _ _ :: _) _ _); refine wpList_cellS rfl _ _ rfl S _ _ rfl 0 _ _ rfl _ Try.underlying3 rfl _ (by with_reducible exact d2) ?_)
            | ((with_reducible show wpList _ _ _ (Oper.mk _ (Op.load _ (Operand.tmp 24)) _ _ _ _ :: _) _ _); refine wpList_cellS rfl _ _ rfl S _ _ rfl 0 _ _ rfl _ Try.underlying3 rfl _ (by with_reducible exact d3) ?_)
            | ((with_reducible refine (HC0.out _ S.below).mono ?_); rintro e w2 ⟨rfl, rfl⟩)
            | ((with_reducible refine (HW1.out _).mono ?_); rintro e w2 ⟨rfl, rfl⟩)
            | ((with_reducible refine (HW2.out _).mono ?_); rintro e w2 ⟨rfl, rfl⟩)
            | ((with_reducible refine (HW3.out _).mono ?_); rintro e w2 ⟨rfl, rfl⟩)
            | ((with_reducible refine (HPT.out _ _ (S.get (i := 0) rfl)).mono ?_); rintro e w2 ⟨gp, c, cs, rfl, hg, ha, hcs, hb⟩; have S := (S.born hg ha hb).swap; have HCS := Lib.hid hcs; clear hg ha hb hcs))
          go_ret
          exact ⟨ret_int HRE.out.symm, S.below⟩
        | true =>
          have hE1 : r = if E = 0 then (if emptyB F = true then 0 else 5) else E := by rw [HE.out]; rfl
          have HE1 := Lib.hid hE1
          clear HE hE1
          go_enter Try.func12, Try.ntmps12
          go_wp2_with (first
            | ((with_reducible show wpList _ _ _ (Oper.mk _ (Op.box _ _) _ _ _ _ :: _) _ _); refine wpList_boxS rfl _ _ rfl xc rfl S ?_; clear S; intro ga w1 S)
            | ((with_reducible show wpList _ _ _ (Oper.mk _ (Op.load _ (Operand.tmp 7)) _ _ _ _ :: _) _ _); refine wpList_cellS rfl _ _ rfl S _ _ rfl 0 _ _ rfl _ Try.underlying28 rfl _ (by with_reducible exact d0) ?_)
            | ((with_reducible show wpList _ _ _ (Oper.mk _ (Op.load _ (Operand.tmp 13)) _ _ _ _ :: _) _ _); refine wpList_cellS rfl _ _ rfl S _ _ rfl 0 _ _ rfl _ Try.underlying3 rfl _ (by with_reducible exact d1) ?_)
            | ((with_reducible show wpList _ _ _ (Oper.mk _ (Op.load _ (Operand.tmp 18)) _ _ _ _ :: _) _ _); refine wpList_cellS rfl _ _ rfl S _ _ rfl 0 _ _ rfl _ Try.underlying3 rfl _ (by with_reducible exact d2) ?_)
            | ((with_reducible show wpList _ _ _ (Oper.mk _ (Op.load _ (Operand.tmp 24)) _ _ _ _ :: _) _ _); refine wpList_cellS rfl _ _ rfl S _ _ rfl 0 _ _ rfl _ Try.underlying3 rfl _ (by with_reducible exact d3) ?_)
            | ((with_reducible refine (HC0.out _ S.below).mono ?_); rintro e w2 ⟨rfl, rfl⟩)
            | ((with_reducible refine (HW1.out _).mono ?_); rintro e w2 ⟨rfl, rfl⟩)
            | ((with_reducible refine (HW2.out _).mono ?_); rintro e w2 ⟨rfl, rfl⟩)
            | ((with_reducible refine (HW3.out _).mono ?_); rintro e w2 ⟨rfl, rfl⟩)
            | ((with_reducible refine (HPT.out _ _ (S.get (i := 0) rfl)).mono ?_); rintro e w2 ⟨gp, c, cs, rfl, hg, ha, hcs, hb⟩; have S := (S.born hg ha hb).swap; have HCS := Lib.hid hcs; clear hg ha hb hcs))
          rw [HXC.out] at S
          obtain ⟨n, hn⟩ : ∃ n, n = ps.length := ⟨_, rfl⟩
          rw [← hn]
          have HN := Lib.hid hn
          clear hn
          go_loopw [31] (fun i wr => CheckR w ga gp n cs ps E F i wr) (fun i _ => n - (intOf i).toNat)
          case atStart => exact ⟨0, R, Nat.zero_le _, rfl, HR.out, S, HEE.out.symm, HF.out.symm⟩
          case round =>
            clear S
            obtain ⟨k, R', hk, rfl, hR', S, hE', hF'⟩ := hrel
            have hn7 : n ≤ 7 := by rw [HN.out]; exact HL7.out
            by_cases hlt : k < n
            · have hlt' : k < ps.length := by rw [← HN.out]; exact hlt
              have hcell := HCS.out k hlt'
              have hpok := HOK.out ps[k] (List.getElem_mem hlt')
              rw [drop_at hlt'] at hE' hF'
              obtain ⟨p, hp⟩ : ∃ p, p = ps[k] := ⟨_, rfl⟩
              rw [← hp] at hcell hpok hE' hF'
              have hE2 : (if chkP R'.tx p = 0 then chkL (ps.drop (k + 1)) (clrP [] R'.tx p) else chkP R'.tx p) = E := hE'
              have hF2 : clrL [] (ps.drop (k + 1)) (clrP [] R'.tx p) = F := hF'
              rw [← clr_tx] at hE2 hF2
              have hR2 := hR'.clr p
              obtain ⟨x, hx⟩ : ∃ x, x = chkP R'.tx p := ⟨_, rfl⟩
              rw [← hx] at hE2
              have HR2 := Lib.hid hR2
              have HF2 := Lib.hid hF2
              clear hp hE' hF' hF2 hR2 hlt'
              cases p with
              | raw =>
                have hcell : cs[k]? = some (.iface 62 (.agg #[.pointer (some ⟨ga, 32, none⟩)])) := hcell
                have HCK := Lib.hid (fun w2 (hb : Below w.heap.size w w2) (h : At w2 ga 34 (rcC R')) => (show Calls Try.prog 40 #[.agg #[.pointer (some ⟨ga, 32, none⟩)]] w2 (fun e w' => e = .returned (.int .i64 x) ∧ Below w2.heap.size w2 w') by rw [hx]; exact rawCheck_any R' hR'.1 ga w2 h))
                have HCL := Lib.hid (fun w2 (S : Ats w.heap.size w w2 [(ga, 34, rcC R'), (gp, 52, cs)]) => (show Calls Try.prog 41 #[.agg #[.pointer (some ⟨ga, 32, none⟩)]] w2 (fun e w' => e = .returned (.tuple #[]) ∧ Ats w.heap.size w w' [(ga, 34, rcC (clrP nilN R' .raw)), (gp, 52, cs)]) from rawClear_any hR'.1 S))
                clear hpok hR' hx
                by_cases hx0 : x = 0
                · subst hx0
                  rw [if_pos rfl] at hE2
                  have HE2 := Lib.hid hE2
                  clear hE2
                  go_wp2_with (first
                    | ((with_reducible show wpList _ _ _ (Oper.mk _ (Op.load _ (Operand.tmp 33)) _ _ _ _ :: _) _ _); refine wpList_cellS rfl _ _ rfl S _ _ rfl 1 _ _ rfl _ Try.underlying52 rfl _ (by with_reducible exact hcell) ?_)
                    | ((with_reducible refine (HCK.out _ S.below (S.get (i := 0) rfl)).mono ?_); rintro e w2 ⟨rfl, hb⟩; have S := S.call hb; clear hb)
                    | ((with_reducible refine (HCL.out _ S).mono ?_); rintro e w2 ⟨rfl, S2⟩))
                  go_roundw
                  case rel => exact ⟨k + 1, _, by omega, by go_num, HR2.out, S2, HE2.out, HF2.out⟩
                  case measure => simp [intOf]; omega
                · have tx : (x != 0) = true := by simpa using hx0
                  rw [if_neg hx0] at hE2
                  have HE2 := Lib.hid hE2
                  have HRE := Lib.hid (show r = x by rw [HE1.out, if_neg (by rw [← hE2]; exact hx0), hE2])
                  clear hE2 hx0
                  go_wp2_with (first
                    | ((with_reducible show wpList _ _ _ (Oper.mk _ (Op.load _ (Operand.tmp 33)) _ _ _ _ :: _) _ _); refine wpList_cellS rfl _ _ rfl S _ _ rfl 1 _ _ rfl _ Try.underlying52 rfl _ (by with_reducible exact hcell) ?_)
                    | ((with_reducible refine (HCK.out _ S.below (S.get (i := 0) rfl)).mono ?_); rintro e w2 ⟨rfl, hb⟩; have S := S.call hb; clear hb))
                  go_ret
                  exact ⟨ret_int HRE.out.symm, S.below⟩
              | adr f =>
                have hcell : cs[k]? = some (.iface 65 (.agg #[.pointer (some ⟨ga, 4, none⟩), .int .i64 f])) := hcell
                have HCK := Lib.hid (fun w2 (hb : Below w.heap.size w w2) (h : At w2 ga 34 (rcC R')) => (show Calls Try.prog 45 #[.agg #[.pointer (some ⟨ga, 4, none⟩), .int .i64 f]] w2 (fun e w' => e = .returned (.int .i64 x) ∧ Below w2.heap.size w2 w') by rw [hx]; exact adCheck_any R' hR'.1 ga w2 h f hpok))
                have HCL := Lib.hid (fun w2 (S : Ats w.heap.size w w2 [(ga, 34, rcC R'), (gp, 52, cs)]) => (show Calls Try.prog 46 #[.agg #[.pointer (some ⟨ga, 4, none⟩), .int .i64 f]] w2 (fun e w' => e = .returned (.tuple #[]) ∧ Ats w.heap.size w w' [(ga, 34, rcC (clrP nilN R' (.adr f))), (gp, 52, cs)]) from adClear_any hR'.1 f S))
                clear hpok hR' hx
                by_cases hx0 : x = 0
                · subst hx0
                  rw [if_pos rfl] at hE2
                  have HE2 := Lib.hid hE2
                  clear hE2
                  go_wp2_with (first
                    | ((with_reducible show wpList _ _ _ (Oper.mk _ (Op.load _ (Operand.tmp 33)) _ _ _ _ :: _) _ _); refine wpList_cellS rfl _ _ rfl S _ _ rfl 1 _ _ rfl _ Try.underlying52 rfl _ (by with_reducible exact hcell) ?_)
                    | ((with_reducible refine (HCK.out _ S.below (S.get (i := 0) rfl)).mono ?_); rintro e w2 ⟨rfl, hb⟩; have S := S.call hb; clear hb)
                    | ((with_reducible refine (HCL.out _ S).mono ?_); rintro e w2 ⟨rfl, S2⟩))
                  go_roundw
                  case rel => exact ⟨k + 1, _, by omega, by go_num, HR2.out, S2, HE2.out, HF2.out⟩
                  case measure => simp [intOf]; omega
                · have tx : (x != 0) = true := by simpa using hx0
                  rw [if_neg hx0] at hE2
                  have HE2 := Lib.hid hE2
                  have HRE := Lib.hid (show r = x by rw [HE1.out, if_neg (by rw [← hE2]; exact hx0), hE2])
                  clear hE2 hx0
                  go_wp2_with (first
                    | ((with_reducible show wpList _ _ _ (Oper.mk _ (Op.load _ (Operand.tmp 33)) _ _ _ _ :: _) _ _); refine wpList_cellS rfl _ _ rfl S _ _ rfl 1 _ _ rfl _ Try.underlying52 rfl _ (by with_reducible exact hcell) ?_)
                    | ((with_reducible refine (HCK.out _ S.below (S.get (i := 0) rfl)).mono ?_); rintro e w2 ⟨rfl, hb⟩; have S := S.call hb; clear hb))
                  go_ret
                  exact ⟨ret_int HRE.out.symm, S.below⟩
              | nam j b =>
                have hcell : cs[k]? = some (.iface 68 (.agg #[.pointer (some ⟨ga, 21 + j, none⟩), .bool b])) := hcell
                have HCK := Lib.hid (fun w2 (hb : Below w.heap.size w w2) (h : At w2 ga 34 (rcC R')) => (show Calls Try.prog 53 #[.agg #[.pointer (some ⟨ga, 21 + j, none⟩), .bool b]] w2 (fun e w' => e = .returned (.int .i64 x) ∧ Below w2.heap.size w2 w') by rw [hx]; exact nameCheck_any R' hR'.1 ga w2 h j b hpok ((hR'.2 j hpok).1.below hb) (hR'.2 j hpok).2))
                have HCL := Lib.hid (fun w2 (S : Ats w.heap.size w w2 [(ga, 34, rcC R'), (gp, 52, cs)]) => (show Calls Try.prog 54 #[.agg #[.pointer (some ⟨ga, 21 + j, none⟩), .bool b]] w2 (fun e w' => e = .returned (.tuple #[]) ∧ Ats w.heap.size w w' [(ga, 34, rcC (clrP nilN R' (.nam j b))), (gp, 52, cs)]) from nameClear_any hR'.1 j b hpok S))
                clear hpok hR' hx
                by_cases hx0 : x = 0
                · subst hx0
                  rw [if_pos rfl] at hE2
                  have HE2 := Lib.hid hE2
                  clear hE2
                  go_wp2_with (first
                    | ((with_reducible show wpList _ _ _ (Oper.mk _ (Op.load _ (Operand.tmp 33)) _ _ _ _ :: _) _ _); refine wpList_cellS rfl _ _ rfl S _ _ rfl 1 _ _ rfl _ Try.underlying52 rfl _ (by with_reducible exact hcell) ?_)
                    | ((with_reducible refine (HCK.out _ S.below (S.get (i := 0) rfl)).mono ?_); rintro e w2 ⟨rfl, hb⟩; have S := S.call hb; clear hb)
                    | ((with_reducible refine (HCL.out _ S).mono ?_); rintro e w2 ⟨rfl, S2⟩))
                  go_roundw
                  case rel => exact ⟨k + 1, _, by omega, by go_num, HR2.out, S2, HE2.out, HF2.out⟩
                  case measure => simp [intOf]; omega
                · have tx : (x != 0) = true := by simpa using hx0
                  rw [if_neg hx0] at hE2
                  have HE2 := Lib.hid hE2
                  have HRE := Lib.hid (show r = x by rw [HE1.out, if_neg (by rw [← hE2]; exact hx0), hE2])
                  clear hE2 hx0
                  go_wp2_with (first
                    | ((with_reducible show wpList _ _ _ (Oper.mk _ (Op.load _ (Operand.tmp 33)) _ _ _ _ :: _) _ _); refine wpList_cellS rfl _ _ rfl S _ _ rfl 1 _ _ rfl _ Try.underlying52 rfl _ (by with_reducible exact hcell) ?_)
                    | ((with_reducible refine (HCK.out _ S.below (S.get (i := 0) rfl)).mono ?_); rintro e w2 ⟨rfl, hb⟩; have S := S.call hb; clear hb))
                  go_ret
                  exact ⟨ret_int HRE.out.symm, S.below⟩
              | num j wd =>
                have hcell : cs[k]? = some (.iface 71 (.agg #[.pointer (some ⟨ga, 24 + j, none⟩), .int .i64 wd])) := hcell
                have HCK := Lib.hid (fun w2 (hb : Below w.heap.size w w2) (h : At w2 ga 34 (rcC R')) => (show Calls Try.prog 79 #[.agg #[.pointer (some ⟨ga, 24 + j, none⟩), .int .i64 wd]] w2 (fun e w' => e = .returned (.int .i64 x) ∧ Below w2.heap.size w2 w') by rw [hx]; exact numCheck_any R' hR'.1 ga w2 h j wd hpok.1 hpok.2))
                have HCL := Lib.hid (fun w2 (S : Ats w.heap.size w w2 [(ga, 34, rcC R'), (gp, 52, cs)]) => (show Calls Try.prog 80 #[.agg #[.pointer (some ⟨ga, 24 + j, none⟩), .int .i64 wd]] w2 (fun e w' => e = .returned (.tuple #[]) ∧ Ats w.heap.size w w' [(ga, 34, rcC (clrP nilN R' (.num j wd))), (gp, 52, cs)]) from numClear_any hR'.1 j wd hpok.1 S))
                clear hpok hR' hx
                by_cases hx0 : x = 0
                · subst hx0
                  rw [if_pos rfl] at hE2
                  have HE2 := Lib.hid hE2
                  clear hE2
                  go_wp2_with (first
                    | ((with_reducible show wpList _ _ _ (Oper.mk _ (Op.load _ (Operand.tmp 33)) _ _ _ _ :: _) _ _); refine wpList_cellS rfl _ _ rfl S _ _ rfl 1 _ _ rfl _ Try.underlying52 rfl _ (by with_reducible exact hcell) ?_)
                    | ((with_reducible refine (HCK.out _ S.below (S.get (i := 0) rfl)).mono ?_); rintro e w2 ⟨rfl, hb⟩; have S := S.call hb; clear hb)
                    | ((with_reducible refine (HCL.out _ S).mono ?_); rintro e w2 ⟨rfl, S2⟩))
                  go_roundw
                  case rel => exact ⟨k + 1, _, by omega, by go_num, HR2.out, S2, HE2.out, HF2.out⟩
                  case measure => simp [intOf]; omega
                · have tx : (x != 0) = true := by simpa using hx0
                  rw [if_neg hx0] at hE2
                  have HE2 := Lib.hid hE2
                  have HRE := Lib.hid (show r = x by rw [HE1.out, if_neg (by rw [← hE2]; exact hx0), hE2])
                  clear hE2 hx0
                  go_wp2_with (first
                    | ((with_reducible show wpList _ _ _ (Oper.mk _ (Op.load _ (Operand.tmp 33)) _ _ _ _ :: _) _ _); refine wpList_cellS rfl _ _ rfl S _ _ rfl 1 _ _ rfl _ Try.underlying52 rfl _ (by with_reducible exact hcell) ?_)
                    | ((with_reducible refine (HCK.out _ S.below (S.get (i := 0) rfl)).mono ?_); rintro e w2 ⟨rfl, hb⟩; have S := S.call hb; clear hb))
                  go_ret
                  exact ⟨ret_int HRE.out.symm, S.below⟩
            · obtain rfl : k = n := by omega
              have hnil : ps.drop k = [] := List.drop_eq_nil_of_le (by rw [HN.out]; exact Nat.le_refl _)
              rw [hnil] at hE' hF'
              have hF3 : R'.tx = F := hF'
              have hE3 : E = 0 := hE'.symm
              have hip := hR'.1
              have HEM := Lib.hid (fun w' (hb : Below w.heap.size w w') => empty_any R' w hR' w' hb)
              rw [hF3] at HEM
              have hr2 : r = if emptyB F = true then 0 else 5 := by rw [HE1.out, if_pos hE3]
              have HSZ := Lib.hid (rcSize hip)
              obtain ⟨b, hb⟩ : ∃ b, b = emptyB F := ⟨_, rfl⟩
              rw [← hb] at HEM hr2
              have HR3 := Lib.hid hr2
              clear hnil hE' hF' hF3 hE3 hip hr2 hb hR' hlt
              cases b with
              | true =>
                go_wp2_with (first
                  | ((with_reducible show wpList _ _ _ (Oper.mk _ (Op.load _ (Operand.tmp 1)) _ _ _ _ :: _) _ _); refine wpList_loadS rfl _ _ rfl S _ rfl 0 _ _ rfl _ Try.underlying34 rfl HSZ.out ?_)
                  | ((with_reducible refine (HEM.out _ S.below).mono ?_); rintro e w2 ⟨rfl, hb⟩; have S := S.call hb; clear hb))
                go_ret
                exact ⟨ret_int HR3.out.symm, S.below⟩
              | false =>
                go_wp2_with (first
                  | ((with_reducible show wpList _ _ _ (Oper.mk _ (Op.load _ (Operand.tmp 1)) _ _ _ _ :: _) _ _); refine wpList_loadS rfl _ _ rfl S _ rfl 0 _ _ rfl _ Try.underlying34 rfl HSZ.out ?_)
                  | ((with_reducible refine (HEM.out _ S.below).mono ?_); rintro e w2 ⟨rfl, hb⟩; have S := S.call hb; clear hb))
                go_ret
                exact ⟨ret_int HR3.out.symm, S.below⟩
  · have t0 : (e0 != 0) = true := by simpa using z0
    have HRE := Lib.hid (show r = e0 by rw [HE.out, if_neg z0])
    clear z0 HE
    go_enter Try.func12, Try.ntmps12
    go_wp2_with (first
      | ((with_reducible show wpList _ _ _ (Oper.mk _ (Op.box _ _) _ _ _ _ :: _) _ _); refine wpList_boxS rfl _ _ rfl xc rfl S ?_; clear S; intro ga w1 S)
      | ((with_reducible show wpList _ _ _ (Oper.mk _ (Op.load _ (Operand.tmp 7)) _ _ _ _ :: _) _ _); refine wpList_cellS rfl _ _ rfl S _ _ rfl 0 _ _ rfl _ Try.underlying28 rfl _ (by with_reducible exact d0) ?_)
      | ((with_reducible show wpList _ _ _ (Oper.mk _ (Op.load _ (Operand.tmp 13)) _ _ _ _ :: _) _ _); refine wpList_cellS rfl _ _ rfl S _ _ rfl 0 _ _ rfl _ Try.underlying3 rfl _ (by with_reducible exact d1) ?_)
      | ((with_reducible show wpList _ _ _ (Oper.mk _ (Op.load _ (Operand.tmp 18)) _ _ _ _ :: _) _ _); refine wpList_cellS rfl _ _ rfl S _ _ rfl 0 _ _ rfl _ Try.underlying3 rfl _ (by with_reducible exact d2) ?_)
      | ((with_reducible show wpList _ _ _ (Oper.mk _ (Op.load _ (Operand.tmp 24)) _ _ _ _ :: _) _ _); refine wpList_cellS rfl _ _ rfl S _ _ rfl 0 _ _ rfl _ Try.underlying3 rfl _ (by with_reducible exact d3) ?_)
      | ((with_reducible refine (HC0.out _ S.below).mono ?_); rintro e w2 ⟨rfl, rfl⟩)
      | ((with_reducible refine (HW1.out _).mono ?_); rintro e w2 ⟨rfl, rfl⟩)
      | ((with_reducible refine (HW2.out _).mono ?_); rintro e w2 ⟨rfl, rfl⟩)
      | ((with_reducible refine (HW3.out _).mono ?_); rintro e w2 ⟨rfl, rfl⟩)
      | ((with_reducible refine (HPT.out _ _ (S.get (i := 0) rfl)).mono ?_); rintro e w2 ⟨gp, c, cs, rfl, hg, ha, hcs, hb⟩; have S := (S.born hg ha hb).swap; have HCS := Lib.hid hcs; clear hg ha hb hcs))
    go_ret
    exact ⟨ret_int HRE.out.symm, S.below⟩
end Go.Proofs.Ytnoabmkmnddkkaa
