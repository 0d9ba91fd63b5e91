/- Texts behind a law of this seat, in order: Rec3. -/
import Derived.Test.YtnoabmkmnddkkaaPa
import Derived.Test.YtnoabmkmnddkkaaPb
import Derived.Test.YtnoabmkmnddkkaaPc
import Derived.Test.YtnoabmkmnddkkaaPd
import Derived.Test.YtnoabmkmnddkkaaPe
import Derived.Test.YtnoabmkmnddkkaaPf
import Derived.Test.YtnoabmkmnddkkaaPg
import Derived.Test.YtnoabmkmnddkkaaPh
import Derived.Test.YtnoabmkmnddkkaaPi
import Derived.Test.YtnoabmkmnddkkaaPj
import Derived.Test.YtnoabmkmnddkkaaPk
import Derived.Test.YtnoabmkmnddkkaaPm
import Derived.Test.YtnoabmkmnddkkaaPn
import Derived.Test.YtnoabmkmnddkkaaPp
import Derived.Test.YtnoabmkmnddkkaaPq
import Derived.Test.YtnoabmkmnddkkaaPr
import Derived.Test.YtnoabmkmnddkkaaPs
import Derived.Test.YtnoabmkmnddkkaaPt
import Derived.Test.YtnoabmkmnddkkaaPu
import Derived.Test.YtnoabmkmnddkkaaPv
import Derived.Test.YtnoabmkmnddkkaaPy
import Derived.Test.YtnoabmkmnddkkaaPz
import Derived.Test.YtnoabmkmnddkkaaQa
import Derived.Test.YtnoabmkmnddkkaaQb
import Derived.Test.YtnoabmkmnddkkaaQc
import Derived.Test.YtnoabmkmnddkkaaQd
import Derived.Below
import Derived.BigQuiet
import Derived.BigRegion
import Derived.ChangeSlices
import Derived.Deep.AppendLies
import Derived.Deep.Draws
import Derived.Deep.OwnRows
import Derived.Deep.Quiet
import Derived.Deep.QuietTactic
import Derived.Deep.RegionLaw
import Derived.Deep.Slices
import Derived.Great.Ranges
import Derived.Handed
import Derived.Handy
import Derived.Laws.OwnMore
import Derived.Laws.Rows
import Derived.Laws.StructEq
import Derived.Lib.Hide
import Derived.Lib.ItoaNum
import Derived.Lib.Split
import Derived.Lib.SplitLaws
import Derived.Lib.Strings
import Derived.Maps.AppendAt
import Derived.Maps.OwnSet
import Derived.OpenShut
import Derived.Shelf.Strings.Builder1
import Derived.Shelf.Strings.BuilderF
import Derived.Shelf.Strings.BuilderK
import Derived.SizedLaws
import Derived.SliceStrings
import Derived.StillTailTactics
import Derived.Stop.BytesEq
import Derived.StringKeys
import Derived.Test.YtnoabmkmnddkkaaProg
import Derived.WalkKit
import Derived.WalkLawsBesides
import Derived.WalkSpells
/- Layer 13: the parts' put. -/
namespace Go.Proofs.Ytnoabmkmnddkkaa
open Go.RowKit Go
set_option linter.unusedVariables false
set_option linter.unusedSimpArgs false
set_option maxRecDepth 100000
theorem rdSliceH (g n : Nat) (h : n ≤ 16) (w : World) : (Instr.sliceAt 29 (.pointer (some ⟨g, 5, none⟩)) none (some (.int .i64 n)) none).run Try.prog w = .ok (.slice (some ⟨g, 5, none⟩) n 16) w := by
  have ha : Try.prog.arrayLen 29 = 16 := by kernel_rfl
  have he : Try.prog.elem 29 = 5 := by kernel_rfl
  rw [run_sliceAt_array_h w 29 _ (by kernel_rfl) .i64 n (by omega) (by rw [ha]; omega), he, Try.sizeOf5]
  simp [slicedAt, ha, Result.andThen, Addr.add]
theorem rdSliceA (g : Nat) (w : World) : (Instr.sliceAt 29 (.pointer (some ⟨g, 5, none⟩)) none none none).run Try.prog w = .ok (.slice (some ⟨g, 5, none⟩) 16 16) w := by
  have ha : Try.prog.arrayLen 29 = 16 := by kernel_rfl
  have he : Try.prog.elem 29 = 5 := by kernel_rfl
  rw [run_sliceAt_array_all w 29 _ (by kernel_rfl), he, Try.sizeOf5]
  simp [slicedAt, ha, Result.andThen, Addr.add]
section
variable (R : Rc Nm) (hip : R.ip.length = 16) (g : Nat) (w : World) (h : At w g 34 (rcC R)) (at_ : Int) (t : Value)
include hip h
theorem rawPut_any : Calls Try.prog 43 #[ptA g .raw, .int .i64 at_, t] w fun e w' => e = .returned (.string ⟨R.raw.toArray⟩) ∧ Below w.heap.size w w' := by
  have S := Ats.start w
  have c := h.cells 32 (rc_raw hip)
  obtain ⟨s, hs⟩ : ∃ s : ByteArray, s = ⟨R.raw.toArray⟩ := ⟨_, rfl⟩
  rw [← hs] at c ⊢
  have b0 : (#[.pointer (some ⟨g, 32, none⟩)] : Array Value)[0]? = some (.pointer (some ⟨g, 32, none⟩)) := rfl
  clear hs h hip
  go_enter Try.func43, Try.ntmps43
  go_wp2_with (first
    | ((with_reducible show wpList _ _ _ (Oper.mk _ (Op.box _ _) _ _ _ _ :: _) _ _); refine wpList_boxS rfl _ _ rfl #[.pointer (some ⟨g, 32, none⟩)] rfl S ?_; clear S; intro gb w1 S)
    | ((with_reducible show wpList _ _ _ (Oper.mk _ (Op.load _ _) _ _ _ _ :: _) _ _); refine wpList_cellS rfl _ _ rfl S _ _ rfl 0 _ _ rfl _ Try.underlying60 rfl _ (by with_reducible exact b0) ?_)
    | ((with_reducible show wpList _ _ _ (Oper.mk _ (Op.load _ _) _ _ _ _ :: _) _ _); refine wpList_oldS rfl _ _ rfl S _ rfl _ (by with_reducible exact c) _ Try.underlying9 rfl ?_))
  go_ret
  exact ⟨rfl, S.below⟩
theorem numPut_any (k wd : Nat) (hk : k < 8) (hw : wd = 2 ∨ wd = 4) : Calls Try.prog 82 #[ptA g (.num k wd), .int .i64 at_, t] w fun e w' => e = .returned (.string ⟨(ocT wd (R.nu k)).toArray⟩) ∧ Below w.heap.size w w' := by
  have S := Ats.start w
  have c := h.cells (24 + k) (rc_nu hip k hk)
  obtain ⟨n, hn⟩ : ∃ n, n = R.nu k := ⟨_, rfl⟩
  rw [← hn] at c ⊢
  have hP := fun w => octPut_any wd n w
  rw [show ocWide (wd : Int) = wd by unfold ocWide; rcases hw with rfl | rfl <;> decide] at hP
  have HP := Lib.hid hP
  obtain ⟨x, hx⟩ : ∃ x, x = ocT wd n := ⟨_, rfl⟩
  rw [← hx] at HP ⊢
  obtain ⟨o, ho⟩ : ∃ o, o = 24 + k := ⟨_, rfl⟩
  show Calls Try.prog _ #[.agg #[.pointer (some ⟨g, 24 + k, none⟩), .int .i64 wd], .int .i64 at_, t] w _
  rw [← ho] at c ⊢
  have b0 : (#[.pointer (some ⟨g, o, none⟩), .int .i64 wd] : Array Value)[0]? = some (.pointer (some ⟨g, o, none⟩)) := rfl
  have b1 : (#[.pointer (some ⟨g, o, none⟩), .int .i64 wd] : Array Value)[1]? = some (.int .i64 wd) := rfl
  obtain ⟨wi, hwi⟩ : ∃ wi : Int, wi = (wd : Int) := ⟨_, rfl⟩
  rw [← hwi] at b0 b1 HP ⊢
  clear hn hip h hk hw ho hwi hP hx
  go_enter Try.func82, Try.ntmps82
  go_wp2_with (first
    | ((with_reducible show wpList _ _ _ (Oper.mk _ (Op.box _ _) _ _ _ _ :: _) _ _); refine wpList_boxS rfl _ _ rfl #[.pointer (some ⟨g, o, none⟩), .int .i64 wi] rfl S ?_; clear S; intro gb w1 S))
  (try simp only [Act.put, List.setIfInBounds_toArray, List.set_cons_succ, List.set_cons_zero]); refine quietS_region (by kernel_rfl) (by kernel_rfl) S ?_
  repeat (first
    | go_big_quiet_skip
    | (go_big_quiet_want
       first
         | ((with_reducible show Oper.quiet _ (Oper.mk _ (Op.call { callee := Callee.value (Operand.func 66), args := _, argTypes := _ }) _ _ _ _) _ _ _); refine q_call 66 _ _ rfl (enters_of Try.func66 (by kernel_rfl) rfl) (fun w S => ((HP.out _).mono fun e w2 h => ⟨h.1, S.call h.2⟩)) (by simp [Act.eval]) ?_)
         | ((with_reducible show Oper.quiet _ (Oper.mk _ (Op.load _ _) _ _ _ _) _ _ _); refine q_cellS _ _ rfl _ _ rfl 0 _ _ rfl _ Try.underlying69 rfl _ (by with_reducible exact b0) ?_)
         | ((with_reducible show Oper.quiet _ (Oper.mk _ (Op.load _ _) _ _ _ _) _ _ _); refine q_cellS _ _ rfl _ _ rfl 0 _ _ rfl _ Try.underlying3 rfl _ (by with_reducible exact b1) ?_)
         | ((with_reducible show Oper.quiet _ (Oper.mk (some 12) (Op.load _ _) _ _ _ _) _ _ _); refine q_oldS _ _ rfl _ rfl _ (by with_reducible exact c) _ Try.underlying3 rfl ?_)
         | (refine q_pure (v := ?_) ?_ ?_; rotate_left; focus (intro w; go_simp; try with_reducible rfl))
       (simp only [Act.put, List.setIfInBounds_toArray, List.set_cons_succ, List.set_cons_zero]; go_big_quiet_on)))
  (refine wpQuiet_nil ?_; clear S; intro w1 S)
  go_wp2_with fail
  go_ret
  exact ⟨rfl, S.below⟩
theorem adPut_any (f : Int) (hf : f = 4 ∨ f = 6) : Calls Try.prog 48 #[ptA g (.adr f), .int .i64 at_, t] w fun e w' => e = .returned (.string ⟨(R.ip.take (bitsF f / 8)).toArray⟩) ∧ Below w.heap.size w w' := by
  have S := Ats.start w
  have HZ := Lib.hid (fun w => rdSize_any f hf w)
  have hn16 : bitsF f / 8 ≤ 16 := by rcases hf with rfl | rfl <;> decide
  obtain ⟨n, hn⟩ : ∃ n, n = bitsF f / 8 := ⟨_, rfl⟩
  rw [← hn] at HZ hn16 ⊢
  have hsl := fun w => rdSliceH g n hn16 w
  have hlen : (R.ip.take n).length = n := by rw [List.length_take]; omega
  have hcv : ∀ w', Below w.heap.size w w' → (convert 94 9 (.slice (some ⟨g, 5, none⟩) n 16)).run Try.prog w' = .ok (.string ⟨(R.ip.take n).toArray⟩) w' := fun w' hb => by
    have := run_convert_bytes_back (P := Try.prog) w' 94 9 5 ⟨g, 5, none⟩ 16 (R.ip.take n) Try.underlying94 Try.underlying5 Try.underlying9 (fun j hj => by
      have hj2 : j < R.ip.length := by rw [List.length_take] at hj; omega
      have hc : w.cell? ⟨g, 4 + (1 + j), none⟩ = some (.int .u8 (R.ip[j].toNat : Int)) := h.cells _ (rc_ad hip (1 + j) _ (by
        have := ad_byte R.fam R.zn R.ip j R.ip[j] (List.getElem?_eq_getElem hj2)
        rw [List.getElem?_toArray] at this
        exact this))
      have e : (⟨g, 5, none⟩ : Addr).add j = ⟨g, 4 + (1 + j), none⟩ := by rw [Go.WideShapes.add_plain, show 5 + j = 4 + (1 + j) by omega]
      rw [e, hb.cell h.lt, hc, List.getElem_take])
    rw [hlen] at this
    exact this
  obtain ⟨x, hx⟩ : ∃ x : ByteArray, x = ⟨(R.ip.take n).toArray⟩ := ⟨_, rfl⟩
  rw [← hx] at hcv ⊢
  have HCV := Lib.hid hcv
  have b0 : (#[.pointer (some ⟨g, 4, none⟩), .int .i64 f] : Array Value)[0]? = some (.pointer (some ⟨g, 4, none⟩)) := rfl
  have b1 : (#[.pointer (some ⟨g, 4, none⟩), .int .i64 f] : Array Value)[1]? = some (.int .i64 f) := rfl
  show Calls Try.prog _ #[.agg #[.pointer (some ⟨g, 4, none⟩), .int .i64 f], .int .i64 at_, t] w _
  clear hip h hf hn hx hlen hcv hn16
  go_enter Try.func48, Try.ntmps48
  go_wp2_with (first
    | ((with_reducible show wpList _ _ _ (Oper.mk _ (Op.box _ _) _ _ _ _ :: _) _ _); refine wpList_boxS rfl _ _ rfl #[.pointer (some ⟨g, 4, none⟩), .int .i64 f] rfl S ?_; clear S; intro gb w1 S))
  (try simp only [Act.put, List.setIfInBounds_toArray, List.set_cons_succ, List.set_cons_zero]); refine quietS_region (by kernel_rfl) (by kernel_rfl) S ?_
  repeat (first
    | go_big_quiet_skip
    | (go_big_quiet_want
       first
         | ((with_reducible show Oper.quiet _ (Oper.mk _ (Op.call { callee := Callee.value (Operand.func 50), args := _, argTypes := _ }) _ _ _ _) _ _ _); refine q_call 50 _ _ rfl (enters_of Try.func50 (by kernel_rfl) rfl) (fun w S => ((HZ.out _).mono fun e w2 h => ⟨h.1, S.call h.2⟩)) (by simp [Act.eval]) ?_)
         | ((with_reducible show Oper.quiet _ (Oper.mk _ (Op.load _ _) _ _ _ _) _ _ _); refine q_cellS _ _ rfl _ _ rfl 0 _ _ rfl _ Try.underlying63 rfl _ (by with_reducible exact b0) ?_)
         | ((with_reducible show Oper.quiet _ (Oper.mk _ (Op.load _ _) _ _ _ _) _ _ _); refine q_cellS _ _ rfl _ _ rfl 0 _ _ rfl _ Try.underlying3 rfl _ (by with_reducible exact b1) ?_)
         | ((with_reducible show Oper.quiet _ (Oper.mk (some 15) _ _ _ _ _) _ _ _); refine q_read (v := .string x) (fun w' S' => ?_) ?_; focus (have hcv' := HCV.out w' S'.below; unfold execOp; simp [Act.eval, hcv']))
         | (refine q_pure (v := ?_) ?_ ?_; rotate_left; focus (intro w; go_simp; try with_reducible rfl))
       (simp only [Act.put, List.setIfInBounds_toArray, List.set_cons_succ, List.set_cons_zero]; go_big_quiet_on)))
  (refine wpQuiet_nil ?_; clear S; intro w1 S)
  go_wp2_with fail
  go_ret
  exact ⟨rfl, S.below⟩
/-- a name, by no table -/
theorem nameNil_any (k : Nat) (b : Bool) (hk : k = 1 ∨ k = 2) (hl : TextsAt w (R.nm k).A (R.nm k).n (R.nm k).l) (hb : sizeL (R.nm k).l ≤ 401) (hbt : b = false ∨ t = .pointer none) :
    Calls Try.prog 56 #[ptA g (.nam k b), .int .i64 at_, t] w fun e w' => e = .returned (.string ⟨(putO false (R.nm k).l at_ []).1.toArray⟩) ∧ Below w.heap.size w w' := by
  have S := Ats.start w
  have c : w.cell? ⟨g, 21 + k, none⟩ = some (R.nm k).v := by
    rcases hk with rfl | rfl
    · exact h.cells 22 (rc_nm1 hip)
    · exact h.cells 23 (rc_nm2 hip)
  obtain ⟨y, hy⟩ : ∃ y, y = R.nm k := ⟨_, rfl⟩
  rw [← hy] at c hl hb ⊢
  obtain ⟨A, n, cc, l⟩ := y
  have c : w.cell? ⟨g, 21 + k, none⟩ = some (.slice A n cc) := c
  have HC := Lib.hid (fun w' (hb' : Below w.heap.size w w') => putNil_any A n cc l w' (hl.below hb') hb at_)
  show Calls Try.prog _ #[.agg #[.pointer (some ⟨g, 21 + k, none⟩), .bool b], .int .i64 at_, t] w fun e w' => e = .returned (.string ⟨(putO false l at_ []).1.toArray⟩) ∧ Below w.heap.size w w'
  obtain ⟨r, hr⟩ : ∃ r, r = putO false l at_ [] := ⟨_, rfl⟩
  rw [← hr] at HC ⊢
  obtain ⟨o, ho⟩ : ∃ o, o = 21 + k := ⟨_, rfl⟩
  rw [← ho] at c ⊢
  have b0 : (#[.pointer (some ⟨g, o, none⟩), .bool b] : Array Value)[0]? = some (.pointer (some ⟨g, o, none⟩)) := rfl
  have b1 : (#[.pointer (some ⟨g, o, none⟩), .bool b] : Array Value)[1]? = some (.bool b) := rfl
  clear hy hr hl hb hip h hk ho
  cases b with
  | false =>
    clear hbt
    go_enter Try.func56, Try.ntmps56
    go_wp2_with (first
      | ((with_reducible show wpList _ _ _ (Oper.mk _ (Op.box _ _) _ _ _ _ :: _) _ _); refine wpList_boxS rfl _ _ rfl #[.pointer (some ⟨g, o, none⟩), .bool false] rfl S ?_; clear S; intro gb w1 S)
      | ((with_reducible show wpList _ _ _ (Oper.mk _ (Op.load _ _) _ _ _ _ :: _) _ _); refine wpList_cellS rfl _ _ rfl S _ _ rfl 0 _ _ rfl _ Try.underlying66 rfl _ (by with_reducible exact b0) ?_)
      | ((with_reducible show wpList _ _ _ (Oper.mk _ (Op.load _ _) _ _ _ _ :: _) _ _); refine wpList_cellS rfl _ _ rfl S _ _ rfl 0 _ _ rfl _ Try.underlying4 rfl _ (by with_reducible exact b1) ?_)
      | ((with_reducible show wpList _ _ _ (Oper.mk _ (Op.load _ _) _ _ _ _ :: _) _ _); refine wpList_oldS rfl _ _ rfl S _ rfl _ (by with_reducible exact c) _ Try.underlying28 rfl ?_)
      | ((with_reducible refine (HC.out _ S.below).mono ?_); rintro e w2 ⟨rfl, hb⟩; have S := S.call hb; clear hb))
    go_ret
    exact ⟨rfl, S.below⟩
  | true =>
    obtain rfl : t = .pointer none := by
      rcases hbt with hbt | hbt
      · cases hbt
      · exact hbt
    clear hbt
    go_enter Try.func56, Try.ntmps56
    go_wp2_with (first
      | ((with_reducible show wpList _ _ _ (Oper.mk _ (Op.box _ _) _ _ _ _ :: _) _ _); refine wpList_boxS rfl _ _ rfl #[.pointer (some ⟨g, o, none⟩), .bool true] rfl S ?_; clear S; intro gb w1 S)
      | ((with_reducible show wpList _ _ _ (Oper.mk _ (Op.load _ _) _ _ _ _ :: _) _ _); refine wpList_cellS rfl _ _ rfl S _ _ rfl 0 _ _ rfl _ Try.underlying66 rfl _ (by with_reducible exact b0) ?_)
      | ((with_reducible show wpList _ _ _ (Oper.mk _ (Op.load _ _) _ _ _ _ :: _) _ _); refine wpList_cellS rfl _ _ rfl S _ _ rfl 0 _ _ rfl _ Try.underlying4 rfl _ (by with_reducible exact b1) ?_)
      | ((with_reducible show wpList _ _ _ (Oper.mk _ (Op.load _ _) _ _ _ _ :: _) _ _); refine wpList_oldS rfl _ _ rfl S _ rfl _ (by with_reducible exact c) _ Try.underlying28 rfl ?_)
      | ((with_reducible refine (HC.out _ S.below).mono ?_); rintro e w2 ⟨rfl, hb⟩; have S := S.call hb; clear hb))
    go_ret
    exact ⟨rfl, S.below⟩
/-- a name, by a table -/
theorem nameTab_any (W0 : World) (q : Nat) (T : List (Lbs × Int)) (hT : PTab W0 w q T) (hTok : TOk T) (hTl : T.length ≤ 50000) (k : Nat) (hk : k = 1 ∨ k = 2) (hl : TextsAt w (R.nm k).A (R.nm k).n (R.nm k).l) (hne : ∀ b o, 0 < (R.nm k).n → (R.nm k).A = some ⟨b, o, none⟩ → b ≠ q) (hb : sizeL (R.nm k).l ≤ 401) :
    Calls Try.prog 56 #[ptA g (.nam k true), .int .i64 at_, .pointer (some ⟨q, 0, none⟩)] w fun e w' => e = .returned (.string ⟨(putO true (R.nm k).l at_ T).1.toArray⟩) ∧ PTab W0 w' q (putO true (R.nm k).l at_ T).2.1 ∧ Kept isMapO q w w' ∧ Below W0.heap.size W0 w' := by
  have S := Ats.start w
  have c : w.cell? ⟨g, 21 + k, none⟩ = some (R.nm k).v := by
    rcases hk with rfl | rfl
    · exact h.cells 22 (rc_nm1 hip)
    · exact h.cells 23 (rc_nm2 hip)
  obtain ⟨y, hy⟩ : ∃ y, y = R.nm k := ⟨_, rfl⟩
  rw [← hy] at c hl hb hne ⊢
  obtain ⟨A, n, cc, l⟩ := y
  have c : w.cell? ⟨g, 21 + k, none⟩ = some (.slice A n cc) := c
  have HC := Lib.hid (fun w' (hb' : Below w.heap.size w w') => putTab_any W0 w' q T (hT.kept hb') hTok hTl A n cc l (hl.below hb') hne hb at_)
  show Calls Try.prog _ #[.agg #[.pointer (some ⟨g, 21 + k, none⟩), .bool true], .int .i64 at_, .pointer (some ⟨q, 0, none⟩)] w fun e w' => e = .returned (.string ⟨(putO true l at_ T).1.toArray⟩) ∧ PTab W0 w' q (putO true l at_ T).2.1 ∧ Kept isMapO q w w' ∧ Below W0.heap.size W0 w'
  obtain ⟨r, hr⟩ : ∃ r, r = putO true l at_ T := ⟨_, rfl⟩
  rw [← hr] at HC ⊢
  obtain ⟨o, ho⟩ : ∃ o, o = 21 + k := ⟨_, rfl⟩
  rw [← ho] at c ⊢
  have b0 : (#[.pointer (some ⟨g, o, none⟩), .bool true] : Array Value)[0]? = some (.pointer (some ⟨g, o, none⟩)) := rfl
  have b1 : (#[.pointer (some ⟨g, o, none⟩), .bool true] : Array Value)[1]? = some (.bool true) := rfl
  clear hy hr hl hb hip h hk ho hT hTok hTl hne
  go_enter Try.func56, Try.ntmps56
  go_wp2_with (first
    | ((with_reducible show wpList _ _ _ (Oper.mk _ (Op.box _ _) _ _ _ _ :: _) _ _); refine wpList_boxS rfl _ _ rfl #[.pointer (some ⟨g, o, none⟩), .bool true] rfl S ?_; clear S; intro gb w1 S)
    | ((with_reducible show wpList _ _ _ (Oper.mk _ (Op.load _ _) _ _ _ _ :: _) _ _); refine wpList_cellS rfl _ _ rfl S _ _ rfl 0 _ _ rfl _ Try.underlying66 rfl _ (by with_reducible exact b0) ?_)
    | ((with_reducible show wpList _ _ _ (Oper.mk _ (Op.load _ _) _ _ _ _ :: _) _ _); refine wpList_cellS rfl _ _ rfl S _ _ rfl 0 _ _ rfl _ Try.underlying4 rfl _ (by with_reducible exact b1) ?_)
    | ((with_reducible show wpList _ _ _ (Oper.mk _ (Op.load _ _) _ _ _ _ :: _) _ _); refine wpList_oldS rfl _ _ rfl S _ rfl _ (by with_reducible exact c) _ Try.underlying28 rfl ?_)
    | ((with_reducible refine (HC.out _ S.below).mono ?_); rintro e w2 ⟨rfl, hp, hk, hbw⟩; have HPK := Lib.hid hp; have HK := Lib.hid hk; have HBW := Lib.hid hbw; clear hp hk hbw))
  go_ret
  exact ⟨rfl, HPK.out, (Kept.below S.below).trans HK.out, HBW.out⟩
end
end Go.Proofs.Ytnoabmkmnddkkaa
