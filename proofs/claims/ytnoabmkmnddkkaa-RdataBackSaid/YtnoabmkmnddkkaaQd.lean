/- Texts behind a law of this seat, in order: Rec2. -/
import Derived.Test.YtnoabmkmnddkkaaPa
import Derived.Test.YtnoabmkmnddkkaaPb
import Derived.Test.YtnoabmkmnddkkaaPc
import Derived.Test.YtnoabmkmnddkkaaPd
import Derived.Test.YtnoabmkmnddkkaaPe
import Derived.Test.YtnoabmkmnddkkaaPf
import Derived.Test.YtnoabmkmnddkkaaPg
import Derived.Test.YtnoabmkmnddkkaaPn
import Derived.Test.YtnoabmkmnddkkaaPy
import Derived.Test.YtnoabmkmnddkkaaPz
import Derived.Test.YtnoabmkmnddkkaaQa
import Derived.Test.YtnoabmkmnddkkaaQb
import Derived.Test.YtnoabmkmnddkkaaQc
import Derived.Below
import Derived.BigQuiet
import Derived.BigRegion
import Derived.ChangeSlices
import Derived.Deep.AppendLies
import Derived.Deep.Draws
import Derived.Deep.Quiet
import Derived.Deep.QuietTactic
import Derived.Deep.RegionLaw
import Derived.Deep.Slices
import Derived.Great.Ranges
import Derived.Handed
import Derived.Handy
import Derived.Laws.OwnMore
import Derived.Laws.Rows
import Derived.Laws.StructEq
import Derived.Lib.Hide
import Derived.Lib.ItoaNum
import Derived.Lib.Split
import Derived.Lib.SplitLaws
import Derived.Lib.Strings
import Derived.OpenShut
import Derived.SizedLaws
import Derived.SliceStrings
import Derived.Stop.BytesEq
import Derived.Test.YtnoabmkmnddkkaaProg
import Derived.WalkKit
import Derived.WalkLawsBesides
import Derived.WalkSpells
/- Layer 13: rdata.within, size; the parts' check. -/
namespace Go.Proofs.Ytnoabmkmnddkkaa
open Go.RowKit Go
set_option linter.unusedVariables false
set_option linter.unusedSimpArgs false
set_option maxRecDepth 100000
theorem rdWithin_any (n : Int) (wd : Nat) (hw : wd = 2 ∨ wd = 4) (w : World) : Calls Try.prog 19 #[.int .i64 n, .int .i64 wd] w fun e w' => e = .returned (.bool (inW wd n)) ∧ w = w' := by
  have key : ∀ b : Bool, (b = true ↔ (0 ≤ n ∧ n < 256 ^ wd)) → b = inW wd n := fun b h => by
    rw [Bool.eq_iff_iff, inW_iff]; exact h
  by_cases h0 : 0 ≤ n
  · by_cases h1 : n < 256 ^ wd
    · have e := key true ⟨fun _ => ⟨h0, h1⟩, fun _ => rfl⟩
      have d0 : decide (n ≥ 0) = true := decide_eq_true h0
      rcases hw with rfl | rfl
      · have d1 : decide (n < 65536) = true := decide_eq_true (by simpa using h1)
        rw [← e]
        clear h0 h1 e key
        go_enter Try.func19, Try.ntmps19
        go_wp2
        go_ret
        exact ⟨rfl, rfl⟩
      · have d1 : decide (n < 4294967296) = true := decide_eq_true (by simpa using h1)
        rw [← e]
        clear h0 h1 e key
        go_enter Try.func19, Try.ntmps19
        go_wp2
        go_ret
        exact ⟨rfl, rfl⟩
    · have e := key false ⟨fun h => absurd h (by decide), fun h => absurd h.2 h1⟩
      have d0 : decide (n ≥ 0) = true := decide_eq_true h0
      rcases hw with rfl | rfl
      · have d1 : decide (n < 65536) = false := decide_eq_false (by simpa using h1)
        rw [← e]
        clear h0 h1 e key
        go_enter Try.func19, Try.ntmps19
        go_wp2
        go_ret
        exact ⟨rfl, rfl⟩
      · have d1 : decide (n < 4294967296) = false := decide_eq_false (by simpa using h1)
        rw [← e]
        clear h0 h1 e key
        go_enter Try.func19, Try.ntmps19
        go_wp2
        go_ret
        exact ⟨rfl, rfl⟩
  · have e := key false ⟨fun h => absurd h (by decide), fun h => absurd h.1 h0⟩
    have d0 : decide (n ≥ 0) = false := decide_eq_false h0
    rw [← e]
    clear h0 e key
    go_enter Try.func19, Try.ntmps19
    go_wp2
    go_ret
    exact ⟨rfl, rfl⟩
theorem rdSize_any (f : Int) (hf : f = 4 ∨ f = 6) (w : World) : Calls Try.prog 50 #[.int .i64 f] w fun e w' => e = .returned (.int .i64 (bitsF f / 8 : Nat)) ∧ Below w.heap.size w w' := by
  have hB : ∀ w, Calls Try.prog 51 #[.agg #[.int .i64 f, .int .u8 0, .int .u8 0, .int .u8 0, .int .u8 0, .int .u8 0, .int .u8 0, .int .u8 0, .int .u8 0, .int .u8 0, .int .u8 0, .int .u8 0, .int .u8 0, .int .u8 0, .int .u8 0, .int .u8 0, .int .u8 0, .int .i64 0]] w fun e w' => e = .returned (.int .i64 (bitsF f)) ∧ Below w.heap.size w w' := fun w => aBits_any f 0 zero16 w rfl
  have HB := Lib.hid hB
  clear hB
  rcases hf with rfl | rfl
  · rw [show ((bitsF 4 : Nat) : Int) = 32 from rfl] at HB
    go_enter Try.func50, Try.ntmps50
    go_wp2_with ((with_reducible refine (HB.out _).mono ?_); rintro e w2 ⟨rfl, hb⟩)
    go_ret
    exact ⟨rfl, hb⟩
  · rw [show ((bitsF 6 : Nat) : Int) = 128 from rfl] at HB
    go_enter Try.func50, Try.ntmps50
    go_wp2_with ((with_reducible refine (HB.out _).mono ?_); rintro e w2 ⟨rfl, hb⟩)
    go_ret
    exact ⟨rfl, hb⟩
section
variable {P : Program} {o : Oper} {a : Act} {K : Act → Prop} {L : List (Nat × TypeId × Array Value)}
/-- an array or a struct that was there when the call began, read whole, in a drawn region -/
theorem q_oldPartS {w0 : World} (ty : TypeId) (x : Operand) (ho : o.op = .load ty x) (g k : Nat) (hx : a.eval x = .pointer (some ⟨g, k, none⟩)) (part : List Value) (hc : ∀ (j : Nat) v, part[j]? = some v → w0.cell? ⟨g, k + j, none⟩ = some v)
    (d : TypeDesc) (hu : P.underlying ty = some d) (hd : (match d with | .struct _ | .array _ _ => true | _ => false) = true) (hn : (P.info? ty).map (·.size) = some part.length)
    (h : K (a.put o.dst (.agg part.toArray))) : o.quiet P a (fun w' => Ats w0.heap.size w0 w' L) K :=
  q_read (fun w S => by
    have hr := run_loadVar_part (P := P) w g k ty part d (fun j v hv => (S.below.cell (block_lt_of_cell (hc j v hv))).trans (hc j v hv)) hu hd hn
    unfold execOp
    simp only [ho, hx, Instr.loadAt, Instr.sureAddr, Sem.run_bind, Sem.run_pure, Result.andThen_ok, hr]) h
end
section
variable (R : Rc Nm) (hip : R.ip.length = 16) (g : Nat) (w : World) (h : At w g 34 (rcC R))
include hip h
theorem rawCheck_any : Calls Try.prog 40 #[ptA g .raw] w fun e w' => e = .returned (.int .i64 (chkP R.tx .raw)) ∧ Below w.heap.size w w' := by
  have S := Ats.start w
  have c := h.cells 32 (rc_raw hip)
  obtain ⟨s, hs⟩ : ∃ s : ByteArray, s = ⟨R.raw.toArray⟩ := ⟨_, rfl⟩
  have hz : s.size = R.raw.length := by rw [hs]; rfl
  rw [← hs] at c
  have hr : chkP R.tx .raw = if 65535 < s.size then 3 else 0 := by rw [hz]; rfl
  rw [hr]
  have b0 : (#[.pointer (some ⟨g, 32, none⟩)] : Array Value)[0]? = some (.pointer (some ⟨g, 32, none⟩)) := rfl
  clear hs hz hr h hip
  by_cases h1 : 65535 < s.size
  · rw [if_pos h1]
    have d1 : decide ((s.size : Int) > 65535) = true := decide_eq_true (by omega)
    clear h1
    go_enter Try.func40, Try.ntmps40
    go_wp2_with (first
      | ((with_reducible show wpList _ _ _ (Oper.mk _ (Op.box _ _) _ _ _ _ :: _) _ _); refine wpList_boxS rfl _ _ rfl #[.pointer (some ⟨g, 32, none⟩)] rfl S ?_; clear S; intro gb w1 S)
      | ((with_reducible show wpList _ _ _ (Oper.mk _ (Op.load _ _) _ _ _ _ :: _) _ _); refine wpList_cellS rfl _ _ rfl S _ _ rfl 0 _ _ rfl _ Try.underlying60 rfl _ (by with_reducible exact b0) ?_)
      | ((with_reducible show wpList _ _ _ (Oper.mk _ (Op.load _ _) _ _ _ _ :: _) _ _); refine wpList_oldS rfl _ _ rfl S _ rfl _ (by with_reducible exact c) _ Try.underlying9 rfl ?_))
    go_ret
    exact ⟨rfl, S.below⟩
  · rw [if_neg h1]
    have d1 : decide ((s.size : Int) > 65535) = false := decide_eq_false (by omega)
    clear h1
    go_enter Try.func40, Try.ntmps40
    go_wp2_with (first
      | ((with_reducible show wpList _ _ _ (Oper.mk _ (Op.box _ _) _ _ _ _ :: _) _ _); refine wpList_boxS rfl _ _ rfl #[.pointer (some ⟨g, 32, none⟩)] rfl S ?_; clear S; intro gb w1 S)
      | ((with_reducible show wpList _ _ _ (Oper.mk _ (Op.load _ _) _ _ _ _ :: _) _ _); refine wpList_cellS rfl _ _ rfl S _ _ rfl 0 _ _ rfl _ Try.underlying60 rfl _ (by with_reducible exact b0) ?_)
      | ((with_reducible show wpList _ _ _ (Oper.mk _ (Op.load _ _) _ _ _ _ :: _) _ _); refine wpList_oldS rfl _ _ rfl S _ rfl _ (by with_reducible exact c) _ Try.underlying9 rfl ?_))
    go_ret
    exact ⟨rfl, S.below⟩
theorem nameCheck_any (k : Nat) (b : Bool) (hk : k = 1 ∨ k = 2) (hl : TextsAt w (R.nm k).A (R.nm k).n (R.nm k).l) (hb : sizeL (R.nm k).l ≤ 401) :
    Calls Try.prog 53 #[ptA g (.nam k b)] w fun e w' => e = .returned (.int .i64 (chkP R.tx (.nam k b))) ∧ Below w.heap.size w w' := by
  have S := Ats.start w
  have c : w.cell? ⟨g, 21 + k, none⟩ = some (R.nm k).v := by
    rcases hk with rfl | rfl
    · exact h.cells 22 (rc_nm1 hip)
    · exact h.cells 23 (rc_nm2 hip)
  obtain ⟨y, hy⟩ : ∃ y, y = R.nm k := ⟨_, rfl⟩
  have hr : chkP R.tx (.nam k b) = checkL y.l := by rw [hy]; rfl
  rw [hr]
  rw [← hy] at c hl hb
  obtain ⟨A, n, cc, l⟩ := y
  have c : w.cell? ⟨g, 21 + k, none⟩ = some (.slice A n cc) := c
  have HC := Lib.hid (fun w' (hb' : Below w.heap.size w w') => check_any A n cc l w' (hl.below hb') (Nat.le_trans hb (by decide)))
  obtain ⟨o, ho⟩ : ∃ o, o = 21 + k := ⟨_, rfl⟩
  show Calls Try.prog _ #[.agg #[.pointer (some ⟨g, 21 + k, none⟩), .bool b]] w _
  rw [← ho] at c ⊢
  have b0 : (#[.pointer (some ⟨g, o, none⟩), .bool b] : Array Value)[0]? = some (.pointer (some ⟨g, o, none⟩)) := rfl
  clear hy hr hl hb hip h hk ho
  go_enter Try.func53, Try.ntmps53
  go_wp2_with (first
    | ((with_reducible show wpList _ _ _ (Oper.mk _ (Op.box _ _) _ _ _ _ :: _) _ _); refine wpList_boxS rfl _ _ rfl #[.pointer (some ⟨g, o, none⟩), .bool b] rfl S ?_; clear S; intro gb w1 S)
    | ((with_reducible show wpList _ _ _ (Oper.mk _ (Op.load _ _) _ _ _ _ :: _) _ _); refine wpList_cellS rfl _ _ rfl S _ _ rfl 0 _ _ rfl _ Try.underlying66 rfl _ (by with_reducible exact b0) ?_)
    | ((with_reducible show wpList _ _ _ (Oper.mk _ (Op.load _ _) _ _ _ _ :: _) _ _); refine wpList_oldS rfl _ _ rfl S _ rfl _ (by with_reducible exact c) _ Try.underlying28 rfl ?_)
    | ((with_reducible refine (HC.out _ S.below).mono ?_); rintro e w2 ⟨rfl, rfl⟩))
  go_ret
  exact ⟨rfl, S.below⟩
theorem numCheck_any (k wd : Nat) (hk : k < 8) (hw : wd = 2 ∨ wd = 4) : Calls Try.prog 79 #[ptA g (.num k wd)] w fun e w' => e = .returned (.int .i64 (chkP R.tx (.num k wd))) ∧ Below w.heap.size w w' := by
  have S := Ats.start w
  have c := h.cells (24 + k) (rc_nu hip k hk)
  obtain ⟨n, hn⟩ : ∃ n, n = R.nu k := ⟨_, rfl⟩
  have hr : chkP R.tx (.num k wd) = if inW wd n = true then 0 else 4 := by rw [hn]; rfl
  rw [hr]
  rw [← hn] at c
  have HW := Lib.hid (fun w => (rdWithin_any n wd hw w).mono (fun e w2 (h : _ ∧ _) => (⟨h.1, by rw [h.2]; exact Below.refl _ _⟩ : e = .returned (.bool (inW wd n)) ∧ Below w.heap.size w w2)))
  obtain ⟨b, hb⟩ : ∃ b, b = inW wd n := ⟨_, rfl⟩
  rw [← hb] at HW ⊢
  obtain ⟨o, ho⟩ : ∃ o, o = 24 + k := ⟨_, rfl⟩
  show Calls Try.prog _ #[.agg #[.pointer (some ⟨g, 24 + k, none⟩), .int .i64 wd]] w _
  rw [← ho] at c ⊢
  have b0 : (#[.pointer (some ⟨g, o, none⟩), .int .i64 wd] : Array Value)[0]? = some (.pointer (some ⟨g, o, none⟩)) := rfl
  have b1 : (#[.pointer (some ⟨g, o, none⟩), .int .i64 wd] : Array Value)[1]? = some (.int .i64 wd) := rfl
  obtain ⟨wi, hwi⟩ : ∃ wi : Int, wi = (wd : Int) := ⟨_, rfl⟩
  rw [← hwi] at b0 b1 HW ⊢
  clear hn hr hip h hk hw ho hb hwi
  cases b
  all_goals
    go_enter Try.func79, Try.ntmps79
    go_wp2_with (first
      | ((with_reducible show wpList _ _ _ (Oper.mk _ (Op.box _ _) _ _ _ _ :: _) _ _); refine wpList_boxS rfl _ _ rfl #[.pointer (some ⟨g, o, none⟩), .int .i64 wi] rfl S ?_; clear S; intro gb w1 S))
    (try simp only [Act.put, List.setIfInBounds_toArray, List.set_cons_succ, List.set_cons_zero]); refine quietS_region (by kernel_rfl) (by kernel_rfl) S ?_
    repeat (first
      | go_big_quiet_skip
      | (go_big_quiet_want
         first
           | ((with_reducible show Oper.quiet _ (Oper.mk _ (Op.call { callee := Callee.value (Operand.func 19), args := _, argTypes := _ }) _ _ _ _) _ _ _); refine q_call 19 _ _ rfl (enters_of Try.func19 (by kernel_rfl) rfl) (fun w S => ((HW.out _).mono fun e w2 h => ⟨h.1, S.call h.2⟩)) (by simp [Act.eval]) ?_)
           | ((with_reducible show Oper.quiet _ (Oper.mk _ (Op.load _ _) _ _ _ _) _ _ _); refine q_cellS _ _ rfl _ _ rfl 0 _ _ rfl _ Try.underlying69 rfl _ (by with_reducible exact b0) ?_)
           | ((with_reducible show Oper.quiet _ (Oper.mk _ (Op.load _ _) _ _ _ _) _ _ _); refine q_cellS _ _ rfl _ _ rfl 0 _ _ rfl _ Try.underlying3 rfl _ (by with_reducible exact b1) ?_)
           | ((with_reducible show Oper.quiet _ (Oper.mk (some 6) (Op.load _ _) _ _ _ _) _ _ _); refine q_oldS _ _ rfl _ rfl _ (by with_reducible exact c) _ Try.underlying3 rfl ?_)
           | (refine q_pure (v := ?_) ?_ ?_; rotate_left; focus (intro w; go_simp; try with_reducible rfl))
         (simp only [Act.put, List.setIfInBounds_toArray, List.set_cons_succ, List.set_cons_zero]; go_big_quiet_on)))
    (refine wpQuiet_nil ?_; clear S; intro w1 S)
    go_wp2_with fail
    go_ret
    exact ⟨rfl, S.below⟩
theorem adCheck_any (f : Int) (hf : f = 4 ∨ f = 6) : Calls Try.prog 45 #[ptA g (.adr f)] w fun e w' => e = .returned (.int .i64 (chkP R.tx (.adr f))) ∧ Below w.heap.size w w' := by
  have S := Ats.start w
  obtain ⟨fam, hfam⟩ : ∃ x, x = R.fam := ⟨_, rfl⟩
  obtain ⟨ip, hip'⟩ : ∃ x, x = R.ip := ⟨_, rfl⟩
  obtain ⟨zn, hzn⟩ : ∃ x, x = R.zn := ⟨_, rfl⟩
  have hpart : ∀ j v, (adCs fam ip zn)[j]? = some v → w.cell? ⟨g, 4 + j, none⟩ = some v := fun j v hv => h.cells _ (rc_ad hip j v (by rw [← hfam, ← hip', ← hzn]; exact hv))
  have hsz : (Try.prog.info? 31).map (·.size) = some (adCs fam ip zn).length := by rw [adInfo, adCs_len, hip', hip]
  have c4 : w.cell? ⟨g, 4, none⟩ = some (.int .i64 fam) := by rw [hfam]; exact h.cells 4 rc_fam
  have c21 : w.cell? ⟨g, 21, none⟩ = some (.int .i64 zn) := by rw [hzn]; exact h.cells 21 (rc_zn hip)
  have HC := Lib.hid (fun w => aCheck_any fam zn ip w (by rw [hip']; exact hip))
  have hr : chkP R.tx (.adr f) = if checkE fam ip zn = 0 ∧ fam = f ∧ zn = 0 then 0 else 10 := by rw [hfam, hip', hzn]; rfl
  rw [hr]
  obtain ⟨x, hx⟩ : ∃ x, x = checkE fam ip zn := ⟨_, rfl⟩
  rw [← hx] at HC ⊢
  have b0 : (#[.pointer (some ⟨g, 4, none⟩), .int .i64 f] : Array Value)[0]? = some (.pointer (some ⟨g, 4, none⟩)) := rfl
  have b1 : (#[.pointer (some ⟨g, 4, none⟩), .int .i64 f] : Array Value)[1]? = some (.int .i64 f) := rfl
  have HP := Lib.hid hpart
  have HSZ := Lib.hid hsz
  show Calls Try.prog _ #[.agg #[.pointer (some ⟨g, 4, none⟩), .int .i64 f]] w _
  have key : ∀ r : Int, (x ≠ 0 → r = 10) → (x = 0 → fam ≠ f → r = 10) → (x = 0 → fam = f → zn ≠ 0 → r = 10) → (x = 0 → fam = f → zn = 0 → r = 0) → r = (if x = 0 ∧ fam = f ∧ zn = 0 then 0 else 10) := fun r h1 h2 h3 h4 => by
    by_cases e1 : x = 0
    · by_cases e2 : fam = f
      · by_cases e3 : zn = 0
        · rw [if_pos ⟨e1, e2, e3⟩]; exact h4 e1 e2 e3
        · rw [if_neg (fun h => e3 h.2.2)]; exact h3 e1 e2 e3
      · rw [if_neg (fun h => e2 h.2.1)]; exact h2 e1 e2
    · rw [if_neg (fun h => e1 h.1)]; exact h1 e1
  have hlt : g < w.heap.size := h.lt
  have KEY := Lib.hid key
  clear hfam hip' hzn hr h hip hf key hx hpart hsz
  by_cases e1 : x = 0
  · by_cases e2 : fam = f
    · by_cases e3 : zn = 0
      · rw [← KEY.out 0 (fun h => absurd e1 h) (fun _ h => absurd e2 h) (fun _ _ h => absurd e3 h) (fun _ _ _ => rfl)]
        subst e1 e2 e3
        clear KEY
        go_enter Try.func45, Try.ntmps45
        go_wp2_with (first
          | ((with_reducible show wpList _ _ _ (Oper.mk _ (Op.box _ _) _ _ _ _ :: _) _ _); refine wpList_boxS rfl _ _ rfl #[.pointer (some ⟨g, 4, none⟩), .int .i64 fam] rfl S ?_; clear S; intro gb w1 S))
        (try simp only [Act.put, List.setIfInBounds_toArray, List.set_cons_succ, List.set_cons_zero]); refine quietS_region (by kernel_rfl) (by kernel_rfl) S ?_
        repeat (first
          | go_big_quiet_skip
          | (go_big_quiet_want
             first
               | ((with_reducible show Oper.quiet _ (Oper.mk _ (Op.call { callee := Callee.value (Operand.func 49), args := _, argTypes := _ }) _ _ _ _) _ _ _); refine q_call 49 _ _ rfl (enters_of Try.func49 (by kernel_rfl) rfl) (fun w S => ((HC.out _).mono fun e w2 h => ⟨h.1, S.call h.2⟩)) (by simp [Act.eval]) ?_)
               | ((with_reducible show Oper.quiet _ (Oper.mk _ (Op.load _ _) _ _ _ _) _ _ _); refine q_cellS _ _ rfl _ _ rfl 0 _ _ rfl _ Try.underlying63 rfl _ (by with_reducible exact b0) ?_)
               | ((with_reducible show Oper.quiet _ (Oper.mk _ (Op.load _ _) _ _ _ _) _ _ _); refine q_cellS _ _ rfl _ _ rfl 0 _ _ rfl _ Try.underlying3 rfl _ (by with_reducible exact b1) ?_)
               | ((with_reducible show Oper.quiet _ (Oper.mk (some 14) (Op.load _ _) _ _ _ _) _ _ _); refine q_oldS _ _ rfl _ rfl _ (by with_reducible exact c4) _ Try.underlying3 rfl ?_)
               | ((with_reducible show Oper.quiet _ (Oper.mk (some 24) (Op.load _ _) _ _ _ _) _ _ _); refine q_oldS _ _ rfl _ rfl _ (by with_reducible exact c21) _ Try.underlying3 rfl ?_)
               | ((with_reducible show Oper.quiet _ (Oper.mk (some 6) (Op.load _ _) _ _ _ _) _ _ _); refine q_oldPartS _ _ rfl _ _ rfl _ HP.out _ Try.underlying31 rfl HSZ.out ?_)
               | (refine q_pure (v := ?_) ?_ ?_; rotate_left; focus (intro w; go_simp; try with_reducible rfl))
             (simp only [Act.put, List.setIfInBounds_toArray, List.set_cons_succ, List.set_cons_zero]; go_big_quiet_on)))
        (refine wpQuiet_nil ?_; clear S; intro w1 S)
        go_wp2_with fail
        go_ret
        exact ⟨rfl, S.below⟩
      · rw [← KEY.out 10 (fun _ => rfl) (fun _ _ => rfl) (fun _ _ _ => rfl) (fun _ _ h => absurd h e3)]
        have t3 : (zn != 0) = true := by simpa using e3
        subst e1 e2
        clear KEY e3
        go_enter Try.func45, Try.ntmps45
        go_wp2_with (first
          | ((with_reducible show wpList _ _ _ (Oper.mk _ (Op.box _ _) _ _ _ _ :: _) _ _); refine wpList_boxS rfl _ _ rfl #[.pointer (some ⟨g, 4, none⟩), .int .i64 fam] rfl S ?_; clear S; intro gb w1 S))
        (try simp only [Act.put, List.setIfInBounds_toArray, List.set_cons_succ, List.set_cons_zero]); refine quietS_region (by kernel_rfl) (by kernel_rfl) S ?_
        repeat (first
          | go_big_quiet_skip
          | (go_big_quiet_want
             first
               | ((with_reducible show Oper.quiet _ (Oper.mk _ (Op.call { callee := Callee.value (Operand.func 49), args := _, argTypes := _ }) _ _ _ _) _ _ _); refine q_call 49 _ _ rfl (enters_of Try.func49 (by kernel_rfl) rfl) (fun w S => ((HC.out _).mono fun e w2 h => ⟨h.1, S.call h.2⟩)) (by simp [Act.eval]) ?_)
               | ((with_reducible show Oper.quiet _ (Oper.mk _ (Op.load _ _) _ _ _ _) _ _ _); refine q_cellS _ _ rfl _ _ rfl 0 _ _ rfl _ Try.underlying63 rfl _ (by with_reducible exact b0) ?_)
               | ((with_reducible show Oper.quiet _ (Oper.mk _ (Op.load _ _) _ _ _ _) _ _ _); refine q_cellS _ _ rfl _ _ rfl 0 _ _ rfl _ Try.underlying3 rfl _ (by with_reducible exact b1) ?_)
               | ((with_reducible show Oper.quiet _ (Oper.mk (some 14) (Op.load _ _) _ _ _ _) _ _ _); refine q_oldS _ _ rfl _ rfl _ (by with_reducible exact c4) _ Try.underlying3 rfl ?_)
               | ((with_reducible show Oper.quiet _ (Oper.mk (some 24) (Op.load _ _) _ _ _ _) _ _ _); refine q_oldS _ _ rfl _ rfl _ (by with_reducible exact c21) _ Try.underlying3 rfl ?_)
               | ((with_reducible show Oper.quiet _ (Oper.mk (some 6) (Op.load _ _) _ _ _ _) _ _ _); refine q_oldPartS _ _ rfl _ _ rfl _ HP.out _ Try.underlying31 rfl HSZ.out ?_)
               | (refine q_pure (v := ?_) ?_ ?_; rotate_left; focus (intro w; go_simp; try with_reducible rfl))
             (simp only [Act.put, List.setIfInBounds_toArray, List.set_cons_succ, List.set_cons_zero]; go_big_quiet_on)))
        (refine wpQuiet_nil ?_; clear S; intro w1 S)
        go_wp2_with fail
        go_ret
        exact ⟨rfl, S.below⟩
    · rw [← KEY.out 10 (fun _ => rfl) (fun _ _ => rfl) (fun _ _ _ => rfl) (fun _ h _ => absurd h e2)]
      have t2 : (fam != f) = true := by simpa using e2
      subst e1
      clear KEY e2
      go_enter Try.func45, Try.ntmps45
      go_wp2_with (first
        | ((with_reducible show wpList _ _ _ (Oper.mk _ (Op.box _ _) _ _ _ _ :: _) _ _); refine wpList_boxS rfl _ _ rfl #[.pointer (some ⟨g, 4, none⟩), .int .i64 f] rfl S ?_; clear S; intro gb w1 S))
      (try simp only [Act.put, List.setIfInBounds_toArray, List.set_cons_succ, List.set_cons_zero]); refine quietS_region (by kernel_rfl) (by kernel_rfl) S ?_
      repeat (first
        | go_big_quiet_skip
        | (go_big_quiet_want
           first
             | ((with_reducible show Oper.quiet _ (Oper.mk _ (Op.call { callee := Callee.value (Operand.func 49), args := _, argTypes := _ }) _ _ _ _) _ _ _); refine q_call 49 _ _ rfl (enters_of Try.func49 (by kernel_rfl) rfl) (fun w S => ((HC.out _).mono fun e w2 h => ⟨h.1, S.call h.2⟩)) (by simp [Act.eval]) ?_)
             | ((with_reducible show Oper.quiet _ (Oper.mk _ (Op.load _ _) _ _ _ _) _ _ _); refine q_cellS _ _ rfl _ _ rfl 0 _ _ rfl _ Try.underlying63 rfl _ (by with_reducible exact b0) ?_)
             | ((with_reducible show Oper.quiet _ (Oper.mk _ (Op.load _ _) _ _ _ _) _ _ _); refine q_cellS _ _ rfl _ _ rfl 0 _ _ rfl _ Try.underlying3 rfl _ (by with_reducible exact b1) ?_)
             | ((with_reducible show Oper.quiet _ (Oper.mk (some 14) (Op.load _ _) _ _ _ _) _ _ _); refine q_oldS _ _ rfl _ rfl _ (by with_reducible exact c4) _ Try.underlying3 rfl ?_)
             | ((with_reducible show Oper.quiet _ (Oper.mk (some 24) (Op.load _ _) _ _ _ _) _ _ _); refine q_oldS _ _ rfl _ rfl _ (by with_reducible exact c21) _ Try.underlying3 rfl ?_)
             | ((with_reducible show Oper.quiet _ (Oper.mk (some 6) (Op.load _ _) _ _ _ _) _ _ _); refine q_oldPartS _ _ rfl _ _ rfl _ HP.out _ Try.underlying31 rfl HSZ.out ?_)
             | (refine q_pure (v := ?_) ?_ ?_; rotate_left; focus (intro w; go_simp; try with_reducible rfl))
           (simp only [Act.put, List.setIfInBounds_toArray, List.set_cons_succ, List.set_cons_zero]; go_big_quiet_on)))
      (refine wpQuiet_nil ?_; clear S; intro w1 S)
      go_wp2_with fail
      go_ret
      exact ⟨rfl, S.below⟩
  · rw [← KEY.out 10 (fun _ => rfl) (fun _ _ => rfl) (fun _ _ _ => rfl) (fun h _ _ => absurd h e1)]
    have t1 : (x != 0) = true := by simpa using e1
    clear KEY e1
    go_enter Try.func45, Try.ntmps45
    go_wp2_with (first
      | ((with_reducible show wpList _ _ _ (Oper.mk _ (Op.box _ _) _ _ _ _ :: _) _ _); refine wpList_boxS rfl _ _ rfl #[.pointer (some ⟨g, 4, none⟩), .int .i64 f] rfl S ?_; clear S; intro gb w1 S))
    (try simp only [Act.put, List.setIfInBounds_toArray, List.set_cons_succ, List.set_cons_zero]); refine quietS_region (by kernel_rfl) (by kernel_rfl) S ?_
    repeat (first
      | go_big_quiet_skip
      | (go_big_quiet_want
         first
           | ((with_reducible show Oper.quiet _ (Oper.mk _ (Op.call { callee := Callee.value (Operand.func 49), args := _, argTypes := _ }) _ _ _ _) _ _ _); refine q_call 49 _ _ rfl (enters_of Try.func49 (by kernel_rfl) rfl) (fun w S => ((HC.out _).mono fun e w2 h => ⟨h.1, S.call h.2⟩)) (by simp [Act.eval]) ?_)
           | ((with_reducible show Oper.quiet _ (Oper.mk _ (Op.load _ _) _ _ _ _) _ _ _); refine q_cellS _ _ rfl _ _ rfl 0 _ _ rfl _ Try.underlying63 rfl _ (by with_reducible exact b0) ?_)
           | ((with_reducible show Oper.quiet _ (Oper.mk _ (Op.load _ _) _ _ _ _) _ _ _); refine q_cellS _ _ rfl _ _ rfl 0 _ _ rfl _ Try.underlying3 rfl _ (by with_reducible exact b1) ?_)
           | ((with_reducible show Oper.quiet _ (Oper.mk (some 14) (Op.load _ _) _ _ _ _) _ _ _); refine q_oldS _ _ rfl _ rfl _ (by with_reducible exact c4) _ Try.underlying3 rfl ?_)
           | ((with_reducible show Oper.quiet _ (Oper.mk (some 24) (Op.load _ _) _ _ _ _) _ _ _); refine q_oldS _ _ rfl _ rfl _ (by with_reducible exact c21) _ Try.underlying3 rfl ?_)
           | ((with_reducible show Oper.quiet _ (Oper.mk (some 6) (Op.load _ _) _ _ _ _) _ _ _); refine q_oldPartS _ _ rfl _ _ rfl _ HP.out _ Try.underlying31 rfl HSZ.out ?_)
           | (refine q_pure (v := ?_) ?_ ?_; rotate_left; focus (intro w; go_simp; try with_reducible rfl))
         (simp only [Act.put, List.setIfInBounds_toArray, List.set_cons_succ, List.set_cons_zero]; go_big_quiet_on)))
    (refine wpQuiet_nil ?_; clear S; intro w1 S)
    go_wp2_with fail
    go_ret
    exact ⟨rfl, S.below⟩
end
end Go.Proofs.Ytnoabmkmnddkkaa
