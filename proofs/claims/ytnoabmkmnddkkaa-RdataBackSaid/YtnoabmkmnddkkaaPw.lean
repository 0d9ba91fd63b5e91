/- Texts behind a law of this seat, in order: Pack5. -/
import Derived.Test.YtnoabmkmnddkkaaPa
import Derived.Test.YtnoabmkmnddkkaaPb
import Derived.Test.YtnoabmkmnddkkaaPc
import Derived.Test.YtnoabmkmnddkkaaPd
import Derived.Test.YtnoabmkmnddkkaaPf
import Derived.Test.YtnoabmkmnddkkaaPg
import Derived.Test.YtnoabmkmnddkkaaPi
import Derived.Test.YtnoabmkmnddkkaaPj
import Derived.Test.YtnoabmkmnddkkaaPk
import Derived.Test.YtnoabmkmnddkkaaPl
import Derived.Below
import Derived.BigQuiet
import Derived.BigRegion
import Derived.ChangeSlices
import Derived.Deep.AppendLies
import Derived.Deep.Draws
import Derived.Deep.QuietTactic
import Derived.Deep.RegionLaw
import Derived.Defers
import Derived.Great.Ranges
import Derived.Handed
import Derived.Handy
import Derived.Laws.OwnMore
import Derived.Laws.Rows
import Derived.Lib.Hide
import Derived.Lib.Strings
import Derived.Recover
import Derived.SizedLaws
import Derived.SliceStrings
import Derived.StillTailTactics
import Derived.Test.YtnoabmkmnddkkaaProg
import Derived.WalkKit
import Derived.WalkLawsBesides
import Derived.WalkSpells
namespace Go.Proofs.Ytnoabmkmnddkkaa
open Go.RowKit Go
set_option linter.unusedVariables false
set_option linter.unusedSimpArgs false
theorem brZero : (Try.prog.info? 112).map (·.zero) = some (some (.agg #[.int .i64 0])) := by kernel_rfl
theorem brSize : (Try.prog.info? 112).map (·.size) = some 1 := by kernel_rfl
theorem errZero : (Try.prog.info? 35).map (·.zero) = some (some (.int .i64 0)) := by kernel_rfl
theorem errSize : (Try.prog.info? 35).map (·.size) = some 1 := by kernel_rfl
theorem assert_broken (v : Value) (w : World) : (Instr.typeAssert (.iface 112 v) 20 112 true).run Try.prog w = .ok (.tuple #[v, .bool true]) w := by
  simp [Instr.typeAssert, Sem.run_bind, run_underlying (P := Try.prog) Try.underlying112]
theorem why_any (x : Int) (w : World) : Calls Try.prog 61 #[.iface 112 (.agg #[.int .i64 x])] w fun e w' => e = .returned (.int .i64 x) ∧ Below w.heap.size w w' := by
  have S := Ats.start w
  have ha := fun v w => assert_broken v w
  go_enter Try.func61, Try.ntmps61
  go_wp2_with (first
    | ((with_reducible show wpList _ _ _ (Oper.mk _ (Op.alloc _) _ _ _ _ :: _) _ _); refine wpList_allocS rfl _ rfl _ brZero S ?_; clear S; intro gb w1 S)
    | ((with_reducible show wpList _ _ _ (Oper.mk _ (Op.store _ _ _) _ _ _ _ :: _) _ _); refine wpList_storeS rfl _ _ _ rfl S _ rfl _ rfl 0 _ _ rfl brSize (by rfl) (by simp [Value.oneCell']) ?_; clear S; intro w1 S; (first | simp only [List.set_cons_zero] at S | simp only [List.set_cons_succ, List.set_cons_zero] at S | skip))
    | ((with_reducible show wpList _ _ _ (Oper.mk _ (Op.load _ _) _ _ _ _ :: _) _ _); refine wpList_cellS rfl _ _ rfl S _ _ rfl 0 _ _ rfl _ Try.underlying35 rfl _ (by rfl) ?_))
  go_ret
  exact ⟨rfl, S.below⟩
theorem catch_idle (p : Addr) (w : World) : CallsD Try.prog 60 #[.pointer (some p)] .returning w fun e u' w' => e = .returned (.tuple #[]) ∧ u' = .returning ∧ w' = w := by
  refine callsD_of_wpS Try.func60 rfl fun c₀ cs hu => ?_
  apply wpS_seq
  apply wpS_region
  simp [wpOpsS, go_sem, recoverD, hu, Try.ntmps60, Exit.thenS]
  apply wpS_seq
  apply wpS_region
  simp [wpOpsS, go_sem, Exit.thenS]
  refine wpS_cond (t := false) (by simp [Act.eval, Array.replicate]) ?_
  simp only [Bool.false_eq_true, if_false]
  refine wpS_of_wp (wp_skip ?_)
  cases c₀
  simp_all [bodyPostS, results, Try.results60]
theorem catch_panic (g : Nat) (x x0 : Int) (w : World) (hat : At w g 35 #[.int .i64 x0]) : CallsD Try.prog 60 #[.pointer (some ⟨g, 0, none⟩)] (.panicking (pkPanic x)) w fun e u' w' =>
    e = .returned (.tuple #[]) ∧ u' = .panicking [{ v := .iface 112 (.agg #[.int .i64 x]), recovered := true }] ∧ At w' g 35 #[.int .i64 x] ∧ w.grownBy w' (some g) := by
  have HW := Lib.hid (fun w => why_any x w)
  have HA := Lib.hid hat
  clear hat
  unfold pkPanic
  refine callsD_of_wpS Try.func60 rfl fun c₀ cs hu => ?_
  apply wpS_seq
  apply wpS_region
  simp [wpOpsS, go_sem, recoverD, hu, Try.ntmps60, Exit.thenS]
  apply wpS_seq
  apply wpS_region
  simp [wpOpsS, go_sem, Exit.thenS]
  refine wpS_cond (t := true) (by simp [Act.eval, Array.replicate]) ?_
  simp only [if_true]
  refine wpS_of_wp ?_
  obtain ⟨V, hV⟩ : ∃ V, V = Value.iface 112 (.agg #[.int .i64 x]) := ⟨_, rfl⟩
  rw [← hV] at HW ⊢
  clear hV
  change Code.wp Try.prog _ _ { tmps := #[.pointer (some ⟨g, 0, none⟩), V, V, V, .bool true, undef, undef], defers := [] } w
  go_wp2_with ((with_reducible refine (HW.out _).mono ?_); rintro e w2 ⟨rfl, hb⟩; have hat2 := HA.out.below hb HA.out.lt; have c0 : w2.cell? ⟨g, 0, none⟩ = some (.int .i64 x0) := hat2.cells 0 rfl; have z0 := hat2.ice 0; have H2 := Lib.hid hat2; have HB := Lib.hid hb; clear hat2 hb)
  refine ⟨rfl, _, rfl, _, by simp [results, Try.results60], rfl, rfl, H2.out.put 0 (.int .i64 x), ?_⟩
  exact ⟨HB.out.os, HB.out.tape, HB.out.output, by rw [setCell_size]; exact HB.out.size, fun i hi hne => (Below.heap_setCell w2 ⟨g, 0, none⟩ _ i (fun e => hne (by rw [e]))).trans (HB.out.block i hi)⟩
/-- a row of texts of the call's own -/
def RowAt (w : World) (B : Nat) (A : Option Addr) (n : Nat) (l : List (List UInt8)) : Prop :=
  n = l.length ∧ (0 < n → ∃ b cs, A = some ⟨b, 0, none⟩ ∧ B ≤ b ∧ At w b 9 cs ∧ ∀ j (h : j < l.length), cs[j]? = some (strV l[j]))
theorem RowAt.texts {w : World} {B : Nat} {A : Option Addr} {n : Nat} {l : List (List UInt8)} (h : RowAt w B A n l) : TextsAt w A n l := by
  refine ⟨h.1, fun h0 => ?_⟩
  obtain ⟨b, cs, hA, _, ha, hc⟩ := h.2 h0
  exact ⟨b, 0, hA, ha.lt, fun j hj => by rw [Nat.zero_add, ha.cell]; exact hc j hj⟩
theorem RowAt.of_own {w : World} {B B' n : Nat} {v : Value} {l : List (List UInt8)} (h : w.ownsRow B 9 1 v n (strVs l)) (hB : B' ≤ B) : ∃ A c, v = .slice A n c ∧ RowAt w B' A n l := by
  have hn : n = l.length := by have := h.1; simp [strVs] at this; omega
  rcases h.2 with ⟨rfl, h0⟩ | ⟨g, cap, cur, rfl, hb, hg, _, _, _, hr⟩
  · exact ⟨none, 0, by rw [h0], hn, fun h1 => absurd h1 (by omega)⟩
  · refine ⟨_, _, rfl, hn, fun _ => ⟨g, cur, rfl, Nat.le_trans hB hb, hg, fun j hj => ?_⟩⟩
    have h2 : (cur.toList.take (n * 1))[j]? = (strVs l)[j]? := by rw [hr]
    rw [Nat.mul_one, List.getElem?_take_of_lt (by omega)] at h2
    rw [← Array.getElem?_toList, h2]
    simp [strVs, List.getElem?_eq_getElem hj]
theorem RowAt.nil (w : World) (B : Nat) : RowAt w B none 0 [] := ⟨rfl, fun h => absurd h (by omega)⟩
def GetO (R : PkR) (w : World) (e : Ending) (w' : World) : Prop := ∃ A c, e = .returned (.tuple #[.slice A R.n.length c, .int .i64 R.fin, .int .i64 R.err]) ∧ RowAt w' w.heap.size A R.n.length R.n ∧ Below w.heap.size w w'
theorem getO_bad {R : PkR} {x : Int} {w w' : World} (h : R = pkBad x) (hb : Below w.heap.size w w') : GetO R w (.returned (.tuple #[.slice none 0 0, .int .i64 0, .int .i64 x])) w' := by
  subst h
  exact ⟨none, 0, rfl, RowAt.nil w' _, hb⟩
set_option maxRecDepth 100000 in
set_option maxHeartbeats 4000000 in
theorem pGet_own (M : ByteArray) (hM : M.size ≤ 50000000) (at_ : Int) (w : World) : Calls Try.prog 57 #[.string M, .int .i64 at_] w (GetO (pkGet M.data.toList at_) w) := by
  have hmf : ∀ (fn : Fn) (first cap : Array Value) (w : World), (Instr.makeFunc fn first cap).run Try.prog w = .ok (.func fn first cap) w := fun _ _ _ _ => rfl
  have hlenM : M.data.toList.length = M.size := by rw [Array.length_toList]; rfl
  have S := Ats.start w
  by_cases h0 : at_ < 0
  · have hp : pkGet M.data.toList at_ = pkBad 4 := by unfold pkGet; rw [if_pos (.inl h0)]
    have HP := Lib.hid hp
    clear hp hlenM
    go_enter_defers Try.func57, Try.ntmps57
    go_wp2_with (first
      | ((with_reducible show wpList _ _ _ (Oper.mk _ (Op.alloc _) _ _ _ _ :: _) _ _); refine wpList_allocS rfl _ rfl _ errZero S ?_; clear S; intro ge w1 S)
      | ((with_reducible show wpList _ _ _ (Oper.mk _ (Op.store _ _ _) _ _ _ _ :: _) _ _); refine wpList_putS rfl _ _ _ rfl S _ _ rfl _ rfl rfl rfl 0 _ _ rfl errSize (by decide) ?_; clear S; intro w1 S; (first | simp only [List.set_cons_zero] at S | simp only [List.set_cons_succ, List.set_cons_zero] at S | skip)))
    have c0 : w1.cell? ⟨ge, 0, none⟩ = some (.int .i64 4) := (S.get (i := 0) rfl).cells 0 rfl
    exact ⟨_, by simp [results, Try.results57, Act.put, go_sem, c0], getO_bad HP.out S.below⟩
  · by_cases h1 : (M.size : Int) < at_
    · have hp : pkGet M.data.toList at_ = pkBad 4 := by unfold pkGet; rw [if_pos (.inr (by omega))]
      have HP := Lib.hid hp
      clear hp hlenM
      go_enter_defers Try.func57, Try.ntmps57
      go_wp2_with (first
        | ((with_reducible show wpList _ _ _ (Oper.mk _ (Op.alloc _) _ _ _ _ :: _) _ _); refine wpList_allocS rfl _ rfl _ errZero S ?_; clear S; intro ge w1 S)
        | ((with_reducible show wpList _ _ _ (Oper.mk _ (Op.store _ _ _) _ _ _ _ :: _) _ _); refine wpList_putS rfl _ _ _ rfl S _ _ rfl _ rfl rfl rfl 0 _ _ rfl errSize (by decide) ?_; clear S; intro w1 S; (first | simp only [List.set_cons_zero] at S | simp only [List.set_cons_succ, List.set_cons_zero] at S | skip)))
      have c0 : w1.cell? ⟨ge, 0, none⟩ = some (.int .i64 4) := (S.get (i := 0) rfl).cells 0 rfl
      exact ⟨_, by simp [results, Try.results57, Act.put, go_sem, c0], getO_bad HP.out S.below⟩
    · obtain ⟨p, hpa⟩ : ∃ p : Nat, at_ = (p : Int) := ⟨at_.toNat, by omega⟩
      subst hpa
      have hple : p ≤ M.size := by omega
      have hp : pkGet M.data.toList (p : Int) = pkRun M.data.toList p p 1 [] 0 := by unfold pkGet; rw [if_neg (by omega), Int.toNat_natCast]
      rw [hp]
      have hor := pkRun_or M.data.toList p p 1 [] 0
      obtain ⟨R, hR⟩ : ∃ R, R = pkRun M.data.toList p p 1 [] 0 := ⟨_, rfl⟩
      have HB := Lib.hid (fun w => begin_any M p hple w)
      have HR := Lib.hid (fun B g w (h : Rd B w g M (M.data.toList.drop p) p [] 1 0) => read_any B g M hM p hple w h)
      rw [← hR] at hor HR ⊢
      have HO := Lib.hid hor
      clear hp hor hR hlenM hM hple
      have ht1 : ¬ ((p : Int) < 0) := by omega
      have ht2 : ¬ ((p : Int) > M.size) := by omega
      clear h0 h1
      go_enter_defers Try.func57, Try.ntmps57
      go_wp2_with (first
        | ((with_reducible show wpList _ _ _ (Oper.mk _ (Op.alloc _) _ _ _ _ :: _) _ _); refine wpList_allocS rfl _ rfl _ errZero S ?_; clear S; intro ge w1 S)
        | ((with_reducible refine (HB.out _).mono ?_); rintro e w2 ⟨g, rfl, hrd, hb2⟩; have HRD := Lib.hid hrd; have HBS := Lib.hid S.below.size; clear hrd)
        | ((with_reducible refine (HR.out _ _ _ HRD.out).mono ?_); rintro e w3 ⟨hb3, hcase⟩; have S := S.call (hb2.trans hb3); rcases hcase with ⟨h0, rfl, l, low, size, hB, v, hat, ho⟩ | ⟨h0, h2, rfl⟩ <;> have H0 := Lib.hid h0 <;> clear h0; rotate_left; have H2 := Lib.hid h2; clear h2; rotate_left))
      · have c4 : w3.drew.cell? ⟨g, 4, none⟩ = some v := hat.drew.cells 4 rfl
        have c6 : w3.drew.cell? ⟨g, 6, none⟩ = some (.int .i64 R.fin) := hat.drew.cells 6 rfl
        have hE := (S.get (i := 0) rfl).drew
        have c0 : w3.drew.cell? ⟨ge, 0, none⟩ = some (.int .i64 0) := hE.cells 0 rfl
        have z0 := hE.ice 0
        have ho2 := own_put (i := 0) (u := .int .i64 0) (World.ownsRow.drew ho) hE (by decide)
        have HO2 := Lib.hid ho2
        have hbel := (S.drew).below
        have HBE := Lib.hid (below_put hbel (S.ge (i := 0) rfl) 0 (.int .i64 0))
        have HE := Lib.hid (hE.put 0 (.int .i64 0))
        clear hat ho hE ho2 hbel hb2 hb3
        refine wp_region_still_tail 10 (by kernel_rfl) (by kernel_rfl) ?_
        simp only [List.take_succ_cons, List.take_zero, List.drop_succ_cons, List.drop_zero]
        repeat still_step
        refine wpStill_nil ?_
        change wpList _ _ _ _ _ w3.drew
        go_wp2
        refine leaves_cons (f := 60) (args := #[.pointer (some ⟨ge, 0, none⟩)]) (by simp) (by simp [go_sem]) ?_
        refine (catch_idle ⟨ge, 0, none⟩ _).mono ?_
        rintro e u' w'' ⟨rfl, rfl, rfl⟩
        obtain ⟨A, c, rfl, hta⟩ := RowAt.of_own HO2.out HBS.out
        have e0 : (w3.setCell ⟨ge, 0, none⟩ (.int .i64 0)).cell? ⟨ge, 0, none⟩ = some (.int .i64 0) := HE.out.cells 0 rfl
        exact ⟨.tuple #[.slice A R.n.length c, .int .i64 R.fin, .int .i64 0], by simp [results, Try.results57, go_sem, e0], A, c, by rw [H0.out], hta, HBE.out⟩
      · refine leaves_cons (f := 60) (args := #[.pointer (some ⟨ge, 0, none⟩)]) (by simp) (by simp [go_sem]) ?_
        refine (catch_panic ge R.err 0 _ (S.get (i := 0) rfl)).mono ?_
        rintro e u' w'' ⟨rfl, rfl, hat, hgr⟩
        have e0 : w''.cell? ⟨ge, 0, none⟩ = some (.int .i64 R.err) := hat.cells 0 rfl
        exact ⟨.tuple #[.slice none 0 0, .int .i64 0, .int .i64 R.err], by simp [results, Try.results57, go_sem, e0], getO_bad H2.out (S.below.grown hgr S.big (fun k hk => by injection hk with hk; subst hk; exact S.ge (i := 0) rfl))⟩
end Go.Proofs.Ytnoabmkmnddkkaa
