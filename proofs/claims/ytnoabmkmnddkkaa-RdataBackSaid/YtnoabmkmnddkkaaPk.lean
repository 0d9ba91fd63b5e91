/- Texts behind a law of this seat, in order: Pack2, Pack3. -/
import Derived.Test.YtnoabmkmnddkkaaPa
import Derived.Test.YtnoabmkmnddkkaaPb
import Derived.Test.YtnoabmkmnddkkaaPc
import Derived.Test.YtnoabmkmnddkkaaPd
import Derived.Test.YtnoabmkmnddkkaaPg
import Derived.Test.YtnoabmkmnddkkaaPi
import Derived.Test.YtnoabmkmnddkkaaPj
import Derived.Below
import Derived.ChangeSlices
import Derived.Deep.AppendLies
import Derived.Deep.Draws
import Derived.Deep.RegionLaw
import Derived.Great.Ranges
import Derived.Handed
import Derived.Handy
import Derived.Laws.OwnMore
import Derived.Laws.Rows
import Derived.Lib.Hide
import Derived.Lib.Strings
import Derived.SizedLaws
import Derived.SliceStrings
import Derived.StillTailTactics
import Derived.Test.YtnoabmkmnddkkaaProg
import Derived.WalkKit
import Derived.WalkLawsBesides
import Derived.WalkSpells
/- Layer 12: a reader's steps that take no label: whole, num, mark. -/
namespace Go.Proofs.Ytnoabmkmnddkkaa
open Go.RowKit Go
set_option linter.unusedVariables false
/-- what the reading breaks off with -/
def pkPanic (x : Int) : List PanicEntry := [{ v := .iface 112 (.agg #[.int .i64 x]), recovered := false }]
/-- a reader, its name in a row of the call's own -/
def Rd (B : Nat) (w : World) (g : Nat) (M : ByteArray) (l : List UInt8) (low : Int) (n : Lbs) (size fin : Int) : Prop :=
  B ≤ g ∧ ∃ v, RdAt w g M l 0 low v size fin ∧ w.ownsRow B 9 1 v n.length (strVs n)
section
variable {B g : Nat} {M : ByteArray} {l : List UInt8} {x low : Int} {v : Value} {size fin : Int} {n : Lbs}
theorem Rd.turn {w w' : World} {l' : List UInt8} {low' size' fin' : Int} (hB : B ≤ g) (h : RdAt w g M l x low v size fin) (ho : w.ownsRow B 9 1 v n.length (strVs n)) (ha : RdAt w' g M l' 0 low' v size' fin') (hg : w.grownBy w' (some g)) : Rd B w' g M l' low' n size' fin' :=
  ⟨hB, v, ha, own_grown ho hg (.inl (h.own_ne ho (by decide)))⟩
theorem rd_below {w w' : World} (hB : B ≤ g) (h : RdAt w g M l x low v size fin) (hg : w.grownBy w' (some g)) : Below B w w' :=
  (Below.refl B w).grown hg (Nat.le_trans hB (Nat.le_of_lt h.lt)) (fun k hk => by injection hk with hk; omega)
theorem grown_drew' {w w' : World} {row : Option Nat} (h : w.drew.grownBy w' row) : w.grownBy w' row := ⟨h.os, h.tape, h.output, h.size, h.block⟩
theorem whole_ok {w : World} (h : RdAt w g M l 0 low v size fin) : Calls Try.prog 76 #[.pointer (some ⟨g, 0, none⟩)] w fun e w' => e = .returned (.tuple #[]) ∧ w = w' := by
  have HE := Lib.hid (fun w (h : RdAt w g M l 0 low v size fin) => rErr_any h)
  have H := Lib.hid h
  clear h
  go_enter Try.func76, Try.ntmps76
  go_wp2_with ((with_reducible refine (HE.out _ H.out).mono ?_); rintro e w2 ⟨rfl, rfl⟩)
  go_returns
  exact ⟨rfl, rfl⟩
theorem whole_no (hx : x ≠ 0) {w : World} (h : RdAt w g M l x low v size fin) : Calls Try.prog 76 #[.pointer (some ⟨g, 0, none⟩)] w fun e w' => e = .panicked (pkPanic x) ∧ w = w' := by
  have HE := Lib.hid (fun w (h : RdAt w g M l x low v size fin) => rErr_any h)
  have H := Lib.hid h
  have hb : (x != 0) = true := by simpa using hx
  clear h hx
  go_enter Try.func76, Try.ntmps76
  go_wp2_with ((with_reducible refine (HE.out _ H.out).mono ?_); rintro e w2 ⟨rfl, rfl⟩)
  exact ⟨rfl, rfl, rfl⟩
theorem ocNumT_one (c : UInt8) (l : List UInt8) : ocNumT (c :: l) 0 1 = (c.toNat, l, 0) := by
  unfold ocNumT
  rw [ocWide1, show ((1 : Nat) : Int) = 1 from rfl, ocTake_ok (by simp; omega)]
  simp [ocN]
theorem ocNumT_nil : ocNumT [] 0 1 = (0, [], 1) := by decide
theorem num_ok {c : UInt8} {w : World} (h : Rd B w g M (c :: l) low n size fin) : Calls Try.prog 67 #[.pointer (some ⟨g, 0, none⟩)] w fun e w' => e = .returned (.int .i64 c.toNat) ∧ Rd B w' g M l low n size fin ∧ Below B w w' := by
  obtain ⟨hB, v, hat, ho⟩ := h
  have HN := rNum_any hat
  rw [ocNumT_one] at HN
  have HN := Lib.hid HN
  have HW := Lib.hid (fun w (h : RdAt w g M l 0 low v size fin) => whole_ok h)
  have HF := Lib.hid (fun w' (ha : RdAt w' g M l 0 low v size fin) (hg : w.grownBy w' (some g)) => (⟨Rd.turn hB hat ho ha hg, rd_below hB hat hg⟩ : Rd B w' g M l low n size fin ∧ Below B w w'))
  clear hat ho hB
  go_enter Try.func67, Try.ntmps67
  go_wp2_with (first
    | ((with_reducible refine HN.out.mono ?_); rintro e w2 ⟨rfl, hat, hgr⟩; have HA := Lib.hid hat; have HG := Lib.hid hgr; clear hat hgr)
    | ((with_reducible refine (HW.out _ HA.out).mono ?_); rintro e w3 ⟨rfl, rfl⟩))
  go_ret
  exact ⟨rfl, HF.out _ HA.out HG.out⟩
theorem num_no {w : World} (h : Rd B w g M [] low n size fin) : Calls Try.prog 67 #[.pointer (some ⟨g, 0, none⟩)] w fun e w' => e = .panicked (pkPanic 1) ∧ Below B w w' := by
  obtain ⟨hB, v, hat, ho⟩ := h
  have HN := rNum_any hat
  rw [ocNumT_nil] at HN
  have HN := Lib.hid HN
  have HW := Lib.hid (fun w (h : RdAt w g M [] 1 low v size fin) => whole_no (by decide) h)
  have HF := Lib.hid (fun w' (hg : w.grownBy w' (some g)) => rd_below hB hat hg)
  clear hat ho hB
  go_enter Try.func67, Try.ntmps67
  go_wp2_with (first
    | ((with_reducible refine HN.out.mono ?_); rintro e w2 ⟨rfl, hat, hgr⟩; have HA := Lib.hid hat; have HG := Lib.hid hgr; clear hat hgr)
    | ((with_reducible refine (HW.out _ HA.out).mono ?_); rintro e w3 ⟨rfl, rfl⟩))
  exact ⟨rfl, rfl, HF.out _ HG.out⟩
theorem mark_on {w : World} (hf : fin ≠ 0) (h : Rd B w g M l low n size fin) : Calls Try.prog 68 #[.pointer (some ⟨g, 0, none⟩)] w fun e w' => e = .returned (.tuple #[]) ∧ w = w' := by
  obtain ⟨hB, v, hat, ho⟩ := h
  have c6 : w.cell? ⟨g, 6, none⟩ = some (.int .i64 fin) := hat.cells 6 rfl
  have hb : (fin == 0) = false := by simpa using hf
  clear hat ho hB hf
  go_enter Try.func68, Try.ntmps68
  go_wp2
  go_returns
  exact ⟨rfl, rfl⟩
set_option maxRecDepth 100000 in
theorem mark_off {w : World} (hl : l.length ≤ M.size) (hM : M.size ≤ 50000000) (h : Rd B w g M l low n size 0) : Calls Try.prog 68 #[.pointer (some ⟨g, 0, none⟩)] w fun e w' => e = .returned (.tuple #[]) ∧ Rd B w' g M l low n size ((M.size : Int) - l.length) ∧ Below B w w' := by
  obtain ⟨hB, v, hat, ho⟩ := h
  have HL := Lib.hid (fun w (h : RdAt w g M l 0 low v size 0) => (rLeft_any h).mono (fun e w'' (h : _ ∧ _) => (⟨h.1, h.2.symm⟩ : e = .returned (.int .i64 l.length) ∧ w'' = w)))
  have HF := Lib.hid (fun w' (ha : RdAt w' g M l 0 low v size ((M.size : Int) - l.length)) (hg : w.grownBy w' (some g)) => (⟨Rd.turn hB hat ho ha hg, rd_below hB hat hg⟩ : Rd B w' g M l low n size ((M.size : Int) - l.length) ∧ Below B w w'))
  have HA := Lib.hid hat
  have HD := Lib.hid hat.drew
  have hw : IntKind.i64.wrap ((M.size : Int) - l.length) = (M.size : Int) - l.length := by rw [IntKind.wrap_i64]; omega
  have c6 : w.cell? ⟨g, 6, none⟩ = some (.int .i64 0) := hat.cells 6 rfl
  have c0 : w.drew.cell? ⟨g, 0, none⟩ = some (.string M) := hat.drew.cells 0 rfl
  have c6d : w.drew.cell? ⟨g, 6, none⟩ = some (.int .i64 0) := hat.drew.cells 6 rfl
  have z6 : w.drew.frozen? ⟨g, 6, none⟩ = false := hat.drew.ice 6
  clear hat ho hB hl hM
  go_enter Try.func68, Try.ntmps68
  go_wp2
  refine wp_region_still_tail 12 (by kernel_rfl) (by kernel_rfl) ?_
  simp only [List.take_succ_cons, List.take_zero, List.drop_succ_cons, List.drop_zero]
  repeat (first | still_step | (refine wpStill_step (fun K hK => ?_); go_simp; (with_reducible refine ⟨_, (HL.out _ HD.out), hK _ ?_⟩); clear hK K))
  refine wpStill_nil ?_
  change wpList _ _ _ _ _ w.drew
  go_wp2
  go_returns
  exact ⟨rfl, HF.out _ (HD.out.put 6 _) (grown_drew' (grown_setCell _ ⟨g, 6, none⟩ _))⟩
end
end Go.Proofs.Ytnoabmkmnddkkaa
/- Layer 12: a reader takes a label, and follows a pointer. -/
namespace Go.Proofs.Ytnoabmkmnddkkaa
open Go.RowKit Go
set_option linter.unusedVariables false
theorem elemStrP : Elem1 Try.prog 9 (.string ByteArray.empty) 16 := by unfold Elem1; kernel_rfl
theorem nameSize : (Try.prog.info? 28).map (·.size) = some 1 := by kernel_rfl
theorem setCell_size (w : World) (p : Addr) (v : Value) : (w.setCell p v).heap.size = w.heap.size := by simp [World.setCell]
theorem ba_mk (b : ByteArray) : (⟨b.data.toList.toArray⟩ : ByteArray) = b := by cases b; simp
theorem own_belowP {w w' : World} {base e s n : Nat} {v : Value} {xs : List Value} (ho : w.ownsRow base e s v n xs) (hb : Below w.heap.size w w') : w'.ownsRow base e s v n xs := by
  refine ⟨ho.1, ?_⟩
  rcases ho.2 with h0 | ⟨g', cap, cur, hv, hB, hg, hr⟩
  · exact .inl h0
  · exact .inr ⟨g', cap, cur, hv, hB, (hb.block g' (Array.getElem?_eq_some_iff.1 hg).1).trans hg, hr⟩
theorem below_put {B : Nat} {a w : World} (h : Below B a w) {g : Nat} (hB : B ≤ g) (i : Nat) (v : Value) : Below B a (w.setCell ⟨g, i, none⟩ v) :=
  ⟨h.os, h.tape, h.output, by rw [setCell_size]; exact h.size, fun k hk => (Below.heap_setCell w ⟨g, i, none⟩ v k (by rintro rfl; omega)).trans (h.block k hk)⟩
theorem own_slice {w : World} {base e s n : Nat} {v : Value} {xs : List Value} (h : w.ownsRow base e s v n xs) : ∃ A c, v = .slice A n c := by
  rcases h.2 with ⟨rfl, rfl⟩ | ⟨g, cap, cur, rfl, _⟩
  · exact ⟨_, _, rfl⟩
  · exact ⟨_, _, rfl⟩
theorem ats_one {B g : Nat} {w : World} {t : TypeId} {cs : Array Value} (hB : B ≤ g) (h : At w g t cs) : Ats B w w [(g, t, cs)] :=
  ⟨Below.refl _ _, Nat.le_trans hB (Nat.le_of_lt h.lt), fun x hx => by simp at hx; subst hx; exact ⟨hB, h⟩, by simp⟩
section
variable {B g : Nat} {M : ByteArray} {l : List UInt8} {low : Int} {size fin : Int} {n : Lbs}
theorem label_short {c : Nat} {w : World} (hc : l.length < c) (h : Rd B w g M l low n size fin) : Calls Try.prog 69 #[.pointer (some ⟨g, 0, none⟩), .int .i64 c] w fun e w' => e = .panicked (pkPanic 1) ∧ Below B w w' := by
  obtain ⟨hB, v, hat, ho⟩ := h
  have HN := rTake_any (c : Int) hat
  rw [ocTake_short (by omega)] at HN
  have HN := Lib.hid HN
  have HW := Lib.hid (fun w (h : RdAt w g M l 1 low v size fin) => whole_no (by decide) h)
  have HF := Lib.hid (fun w' (hg : w.grownBy w' (some g)) => rd_below hB hat hg)
  clear hat ho hB hc
  go_enter Try.func69, Try.ntmps69
  go_wp2_with (first
    | ((with_reducible refine HN.out.mono ?_); rintro e w2 ⟨rfl, hat, hgr⟩; have HA := Lib.hid hat; have HG := Lib.hid hgr; clear hat hgr)
    | ((with_reducible refine (HW.out _ HA.out).mono ?_); rintro e w3 ⟨rfl, rfl⟩))
  exact ⟨rfl, rfl, HF.out _ HG.out⟩
set_option maxHeartbeats 1000000 in
theorem label_long {c s : Nat} {w : World} (hc : c ≤ l.length) (hc2 : c ≤ 63) (hs : s ≤ 255) (hl : 255 < s + (c + 1)) (h : Rd B w g M l low n s fin) : Calls Try.prog 69 #[.pointer (some ⟨g, 0, none⟩), .int .i64 c] w fun e w' => e = .panicked (pkPanic 3) ∧ Below B w w' := by
  obtain ⟨hB, v, hat, ho⟩ := h
  have HN := rTake_any (c : Int) hat
  rw [ocTake_ok (by omega), Int.toNat_natCast] at HN
  obtain ⟨b, hb⟩ : ∃ b : ByteArray, b = ⟨(l.take c).toArray⟩ := ⟨_, rfl⟩
  have hbz : b.size = c := by rw [hb]; simp [ByteArray.size]; omega
  simp only [← hb] at HN
  have HN := Lib.hid HN
  have HW := Lib.hid (fun w (h : RdAt w g M (l.drop c) 0 low v s fin) => whole_ok h)
  have HF := Lib.hid (fun w' (hg : w.grownBy w' (some g)) => rd_below hB hat hg)
  have HB := Lib.hid hB
  have hgt : (s : Int) + ((c : Int) + 1) > 255 := by omega
  clear hat ho hB hc hb
  subst hbz
  go_enter Try.func69, Try.ntmps69
  go_wp2_with (first
    | ((with_reducible refine HN.out.mono ?_); rintro e w2 ⟨rfl, hat, hgr⟩; have HA := Lib.hid hat; have HG := Lib.hid hgr; have c5 : w2.cell? ⟨g, 5, none⟩ = some (.int .i64 s) := hat.cells 5 rfl; have z5 := hat.ice 5; clear hat hgr)
    | ((with_reducible refine (HW.out _ HA.out).mono ?_); rintro e w3 ⟨rfl, rfl⟩))
  exact ⟨rfl, rfl, (HF.out _ HG.out).trans ((rd_below HB.out HA.out (grown_setCell _ ⟨g, 5, none⟩ _)).mono (Nat.le_refl _))⟩
set_option maxRecDepth 100000 in
set_option maxHeartbeats 1000000 in
theorem label_ok {c s : Nat} {w : World} (hc : c ≤ l.length) (hc2 : c ≤ 63) (hl : s + (c + 1) ≤ 255) (hn : n.length ≤ 1000) (h : Rd B w g M l low n s fin) : Calls Try.prog 69 #[.pointer (some ⟨g, 0, none⟩), .int .i64 c] w fun e w' =>
    e = .returned (.tuple #[]) ∧ Rd B w' g M (l.drop c) low (n ++ [l.take c]) (s + (c + 1) : Nat) fin ∧ Below B w w' := by
  obtain ⟨hB, v, hat, ho⟩ := h
  have HN := rTake_any (c : Int) hat
  rw [ocTake_ok (by omega), Int.toNat_natCast] at HN
  obtain ⟨b, hb⟩ : ∃ b : ByteArray, b = ⟨(l.take c).toArray⟩ := ⟨_, rfl⟩
  have hbz : b.size = c := by rw [hb]; simp [ByteArray.size]; omega
  have hbs : strV (l.take c) = .string b := by rw [hb]; rfl
  simp only [← hb] at HN
  have HN := Lib.hid HN
  have HW := Lib.hid (fun w (h : RdAt w g M (l.drop c) 0 low v s fin) => whole_ok h)
  have HO := Lib.hid (fun w' (ha : RdAt w' g M (l.drop c) 0 low v s fin) (hg : w.grownBy w' (some g)) => (⟨own_grown ho hg (.inl (hat.own_ne ho (by decide))), rd_below hB hat hg⟩ : w'.ownsRow B 9 1 v n.length (strVs n) ∧ Below B w w'))
  have hgt : ¬ (s : Int) + ((c : Int) + 1) > 255 := by omega
  have l1 : (n.length + 1) * 16 ≤ 140737488355328 := by omega
  have l2 : n.length + 1 ≤ 140737488355328 := by omega
  have HB := Lib.hid hB
  have HBS := Lib.hid hbs
  obtain ⟨N, hN⟩ : ∃ N, N = n.length := ⟨_, rfl⟩
  rw [← hN] at l1 l2
  have HN2 := Lib.hid hN
  have L1 := Lib.hid l1
  have L2 := Lib.hid l2
  clear l1 l2
  rw [← hN] at HO
  clear hat ho hB hc hb hn hbs hN
  subst hbz
  go_enter Try.func69, Try.ntmps69
  go_wp2_with (first
    | ((with_reducible refine HN.out.mono ?_); rintro e w2 ⟨rfl, hat, hgr⟩; have HA := Lib.hid hat; have HG := Lib.hid hgr; have c5 : w2.cell? ⟨g, 5, none⟩ = some (.int .i64 s) := hat.cells 5 rfl; have z5 := hat.ice 5; have c4 : w2.cell? ⟨g, 4, none⟩ = some v := hat.cells 4 rfl; clear hat hgr)
    | ((with_reducible refine (HW.out _ HA.out).mono ?_); rintro e w3 ⟨rfl, rfl⟩)
    | ((with_reducible show wpList _ _ _ (Oper.mk (some 36) _ _ _ _ _ :: _) _ _); refine wpList_app1S rfl _ _ 28 9 rfl Try.underlying28 elemStrP rfl B v N (strVs n) (.string b) (by rfl) (congrArg (fun k => Value.slice (some ⟨k, 0, none⟩) 1 1) (setCell_size w2 ⟨g, 5, none⟩ (.int .i64 ((s : Int) + ((b.size : Int) + 1)))).symm) (own_put (HO.out _ HA.out HG.out).1 HA.out (by decide)) (ats_one HB.out (HA.out.put 5 _)) (by intro y hy; simp at hy; subst hy; show 9 ≠ 106; decide) (Nat.le_refl _) rfl L1.out L2.out (Nat.le_trans HB.out (Nat.le_of_lt (HA.out.put 5 _).lt)) ?_; intro v' w4 hown' S; obtain ⟨A', c', rfl⟩ := own_slice hown'; have HOWN := Lib.hid hown'; clear hown'; have c4' : w4.cell? ⟨g, 4, none⟩ = some v := (S.get (i := 0) rfl).cells 4 rfl; have z4 := (S.get (i := 0) rfl).ice 4))
  go_returns
  refine ⟨rfl, ⟨HB.out, _, (S.get (i := 0) rfl).put 4 _, ?_⟩, (HO.out _ HA.out HG.out).2.trans ((rd_below HB.out HA.out (grown_setCell _ ⟨g, 5, none⟩ _)).trans (S.below.trans (rd_below (x := 0) (l := l.drop b.size) (low := low) (v := v) (size := _) (fin := fin) (M := M) HB.out (S.get (i := 0) rfl) (grown_setCell _ ⟨g, 4, none⟩ _))))⟩
  obtain rfl : N = n.length := HN2.out
  have := own_put (i := 4) (u := .slice A' (n.length + 1) c') HOWN.out (S.get (i := 0) rfl) (by decide)
  rw [← HBS.out] at this
  rw [strVs_app]
  simpa using this
set_option maxRecDepth 100000 in
set_option maxHeartbeats 1000000 in
theorem follow_short {c : UInt8} {w : World} (h : Rd B w g M [] low n size fin) : Calls Try.prog 70 #[.pointer (some ⟨g, 0, none⟩), .int .i64 c.toNat] w fun e w' => e = .panicked (pkPanic 1) ∧ Below B w w' := by
  have HN := Lib.hid (num_no h)
  have hc : ((c.toNat : Nat) : Int) ≤ 255 := by have := c.toNat_lt; omega
  clear h
  go_enter Try.func70, Try.ntmps70
  go_wp2_with ((with_reducible refine HN.out.mono ?_); rintro e w2 ⟨rfl, hb⟩)
  exact ⟨rfl, rfl, hb⟩
/-- what mark leaves: what is behind -/
def finM (fin : Nat) (M : ByteArray) (l : List UInt8) : Nat := if fin = 0 then M.size - l.length else fin
theorem mark_any {fin : Nat} {w : World} (hl : l.length ≤ M.size) (hM : M.size ≤ 50000000) (h : Rd B w g M l low n size fin) : Calls Try.prog 68 #[.pointer (some ⟨g, 0, none⟩)] w fun e w' => e = .returned (.tuple #[]) ∧ Rd B w' g M l low n size (finM fin M l) ∧ Below B w w' := by
  by_cases hf : fin = 0
  · subst hf
    refine (mark_off hl hM h).mono ?_
    rintro e w1 ⟨rfl, h1, h2⟩
    refine ⟨rfl, ?_, h2⟩
    have e : ((finM 0 M l : Nat) : Int) = (M.size : Int) - l.length := by unfold finM; rw [if_pos rfl]; omega
    rw [e]
    exact h1
  · refine (mark_on (by omega) h).mono ?_
    rintro e w1 ⟨rfl, rfl⟩
    refine ⟨rfl, ?_, Below.refl _ _⟩
    have e : finM fin M l = fin := by unfold finM; rw [if_neg hf]
    rw [e]
    exact h
set_option maxRecDepth 100000 in
set_option maxHeartbeats 1000000 in
theorem follow_far {c d : UInt8} {low fin : Nat} {w : World} (hc : 192 ≤ c.toNat) (hl : l.length ≤ M.size) (hM : M.size ≤ 50000000) (hlow : low ≤ ptrN c d) (h : Rd B w g M (d :: l) low n size fin) : Calls Try.prog 70 #[.pointer (some ⟨g, 0, none⟩), .int .i64 c.toNat] w fun e w' => e = .panicked (pkPanic 9) ∧ Below B w w' := by
  have HN := Lib.hid (num_ok h)
  have HM := Lib.hid (fun w (h : Rd B w g M l low n size fin) => mark_any hl hM h)
  have hp : (c.toNat : Int) * 256 + d.toNat - 49152 = (ptrN c d : Nat) := by unfold ptrN; omega
  have hp0 : ptrN c d ≤ 16383 := by have := c.toNat_lt; have := d.toNat_lt; unfold ptrN; omega
  have hc1 : ((c.toNat : Nat) : Int) ≤ 255 := by have := c.toNat_lt; omega
  have hd1 : ((d.toNat : Nat) : Int) ≤ 255 := by have := d.toNat_lt; omega
  obtain ⟨t, ht⟩ : ∃ t, t = ptrN c d := ⟨_, rfl⟩
  rw [← ht] at hp hp0 hlow
  have hge : ((low : Nat) : Int) ≤ t := by omega
  clear h ht hlow hl hM
  go_enter Try.func70, Try.ntmps70
  go_wp2_with (first
    | ((with_reducible refine HN.out.mono ?_); rintro e w2 ⟨rfl, hR, hb⟩; have HR := Lib.hid hR; clear hR)
    | ((with_reducible refine (HM.out _ HR.out).mono ?_); rintro e w3 ⟨rfl, ⟨hB3, v3, hat3, ho3⟩, hb3⟩; have c3 : w3.cell? ⟨g, 3, none⟩ = some (.int .i64 low) := hat3.cells 3 rfl; clear hat3 ho3))
  exact ⟨rfl, rfl, hb.trans hb3⟩
set_option maxRecDepth 100000 in
set_option maxHeartbeats 1000000 in
theorem follow_ok {c d : UInt8} {low fin : Nat} {w : World} (hc : 192 ≤ c.toNat) (hl : l.length ≤ M.size) (hM : M.size ≤ 50000000) (hlow : ptrN c d < low) (hlM : low ≤ M.size) (h : Rd B w g M (d :: l) low n size fin) : Calls Try.prog 70 #[.pointer (some ⟨g, 0, none⟩), .int .i64 c.toNat] w fun e w' =>
    e = .returned (.tuple #[]) ∧ Rd B w' g M (M.data.toList.drop (ptrN c d)) (ptrN c d) n size (finM fin M l) ∧ Below B w w' := by
  have HN := Lib.hid (num_ok h)
  have HM := Lib.hid (fun w (h : Rd B w g M l low n size fin) => mark_any hl hM h)
  have hp : (c.toNat : Int) * 256 + d.toNat - 49152 = (ptrN c d : Nat) := by unfold ptrN; omega
  have hp0 : ptrN c d ≤ 16383 := by have := c.toNat_lt; have := d.toNat_lt; unfold ptrN; omega
  have hc1 : ((c.toNat : Nat) : Int) ≤ 255 := by have := c.toNat_lt; omega
  have hd1 : ((d.toNat : Nat) : Int) ≤ 255 := by have := d.toNat_lt; omega
  obtain ⟨t, ht⟩ : ∃ t, t = ptrN c d := ⟨_, rfl⟩
  rw [← ht] at hp hp0 hlow ⊢
  have hge : ¬ ((low : Nat) : Int) ≤ t := by omega
  have htM : t ≤ M.size := by omega
  have hex : (M.extract t M.size).data.toList = M.data.toList.drop t := by rw [Lib.extract_eq]; simp; rw [List.take_of_length_le (by simp)]
  have HQ := Lib.hid (fun w => eyeNew_any (M.extract t M.size) w)
  have HEX := Lib.hid hex
  clear h ht hlow hl hM hlM hex
  go_enter Try.func70, Try.ntmps70
  go_wp2_with (first
    | ((with_reducible refine HN.out.mono ?_); rintro e w2 ⟨rfl, hR, hb⟩; have HR := Lib.hid hR; clear hR)
    | ((with_reducible refine (HM.out _ HR.out).mono ?_); rintro e w3 ⟨rfl, ⟨hB3, v3, hat3, ho3⟩, hb3⟩; have c3 : w3.cell? ⟨g, 3, none⟩ = some (.int .i64 low) := hat3.cells 3 rfl; have z3 := hat3.ice 3; have c0 : w3.cell? ⟨g, 0, none⟩ = some (.string M) := hat3.cells 0 rfl; have HA := Lib.hid hat3; have HO := Lib.hid ho3; clear hat3 ho3)
    | ((with_reducible refine (HQ.out _).mono ?_); rintro e w5 ⟨ge, rfl, hge, hae, hbe⟩; have hat5 := (HA.out.put 3 (.int .i64 t)).below hbe (by have := HA.out.lt; simpa [World.setCell] using this); have e0 : w5.cell? ⟨ge, 0, none⟩ = some (.string (M.extract t M.size)) := hae.cells 0 (by show some (Value.string ⟨_⟩) = _; rw [ba_mk]); have e1 : w5.cell? ⟨ge, 1, none⟩ = some (.int .i64 0) := hae.cells 1 rfl; have d1 : w5.cell? ⟨g, 1, none⟩ = some (.string ⟨l.toArray⟩) := hat5.cells 1 rfl; have d2 : w5.cell? ⟨g, 2, none⟩ = some (.int .i64 0) := hat5.cells 2 rfl; have y1 := hat5.ice 1; have y2 := hat5.ice 2; have H5 := Lib.hid hat5; have HBE := Lib.hid hbe; clear hat5 hae hge hbe))
  go_returns
  have hst := HA.out.put 3 (.int .i64 (t : Nat))
  have ho1 := own_put (i := 3) (u := .int .i64 (t : Nat)) HO.out HA.out (by decide)
  have ho5 := own_belowP ho1 HBE.out
  have h6 := H5.out.put 1 (.string (M.extract t M.size))
  have ho6 := own_put (i := 1) (u := .string (M.extract t M.size)) ho5 H5.out (by decide)
  have ho7 := own_put (i := 2) (u := .int .i64 0) ho6 h6 (by decide)
  refine ⟨rfl, ⟨hB3, v3, ?_, ho7⟩, ?_⟩
  · show At _ _ _ #[_, .string ⟨(M.data.toList.drop t).toArray⟩, _, _, _, _, _]
    rw [← HEX.out, ba_mk]
    exact h6.put 2 _
  · refine hb.trans (hb3.trans ?_)
    refine (below_put (Below.refl B w3) hB3 3 _).trans ((HBE.out.mono (by have := HA.out.lt; rw [setCell_size]; omega)).trans ?_)
    exact below_put (below_put (Below.refl B w5) hB3 1 _) hB3 2 _
end
end Go.Proofs.Ytnoabmkmnddkkaa
