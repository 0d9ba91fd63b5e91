/- Layer 12: a reader's steps that take no label: whole, num, mark. -/
import Derived.Test.YtchjhpipiooibaaPack
import Derived.StillTailTactics
import Derived.Deep.RegionLaw
namespace Go.Proofs.Ytchjhpipiooibaa
open Go.RowKit Go
set_option linter.unusedVariables false
/-- what the reading breaks off with -/
def pkPanic (x : Int) : List PanicEntry := [{ v := .iface 69 (.agg #[.int .i64 x]), recovered := false }]
/-- a reader, its name in a row of the call's own -/
def Rd (B : Nat) (w : World) (g : Nat) (M : ByteArray) (l : List UInt8) (low : Int) (n : Lbs) (size fin : Int) : Prop :=
  B ≤ g ∧ ∃ v, RdAt w g M l 0 low v size fin ∧ w.ownsRow B 9 1 v n.length (strVs n)
section
variable {B g : Nat} {M : ByteArray} {l : List UInt8} {x low : Int} {v : Value} {size fin : Int} {n : Lbs}
theorem Rd.turn {w w' : World} {l' : List UInt8} {low' size' fin' : Int} (hB : B ≤ g) (h : RdAt w g M l x low v size fin) (ho : w.ownsRow B 9 1 v n.length (strVs n)) (ha : RdAt w' g M l' 0 low' v size' fin') (hg : w.grownBy w' (some g)) : Rd B w' g M l' low' n size' fin' :=
  ⟨hB, v, ha, own_grown ho hg (.inl (h.own_ne ho (by decide)))⟩
theorem rd_below {w w' : World} (hB : B ≤ g) (h : RdAt w g M l x low v size fin) (hg : w.grownBy w' (some g)) : Below B w w' :=
  (Below.refl B w).grown hg (Nat.le_trans hB (Nat.le_of_lt h.lt)) (fun k hk => by injection hk with hk; omega)
theorem grown_drew' {w w' : World} {row : Option Nat} (h : w.drew.grownBy w' row) : w.grownBy w' row := ⟨h.os, h.tape, h.output, h.size, h.block⟩
theorem whole_ok {w : World} (h : RdAt w g M l 0 low v size fin) : Calls Try.prog 42 #[.pointer (some ⟨g, 0, none⟩)] w fun e w' => e = .returned (.tuple #[]) ∧ w = w' := by
  have HE := Lib.hid (fun w (h : RdAt w g M l 0 low v size fin) => rErr_any h)
  have H := Lib.hid h
  clear h
  go_enter Try.func42, Try.ntmps42
  go_wp2_with ((with_reducible refine (HE.out _ H.out).mono ?_); rintro e w2 ⟨rfl, rfl⟩)
  go_returns
  exact ⟨rfl, rfl⟩
theorem whole_no (hx : x ≠ 0) {w : World} (h : RdAt w g M l x low v size fin) : Calls Try.prog 42 #[.pointer (some ⟨g, 0, none⟩)] w fun e w' => e = .panicked (pkPanic x) ∧ w = w' := by
  have HE := Lib.hid (fun w (h : RdAt w g M l x low v size fin) => rErr_any h)
  have H := Lib.hid h
  have hb : (x != 0) = true := by simpa using hx
  clear h hx
  go_enter Try.func42, Try.ntmps42
  go_wp2_with ((with_reducible refine (HE.out _ H.out).mono ?_); rintro e w2 ⟨rfl, rfl⟩)
  exact ⟨rfl, rfl, rfl⟩
theorem ocNumT_one (c : UInt8) (l : List UInt8) : ocNumT (c :: l) 0 1 = (c.toNat, l, 0) := by
  unfold ocNumT
  rw [ocWide1, show ((1 : Nat) : Int) = 1 from rfl, ocTake_ok (by simp; omega)]
  simp [ocN]
theorem ocNumT_nil : ocNumT [] 0 1 = (0, [], 1) := by decide
theorem num_ok {c : UInt8} {w : World} (h : Rd B w g M (c :: l) low n size fin) : Calls Try.prog 32 #[.pointer (some ⟨g, 0, none⟩)] w fun e w' => e = .returned (.int .i64 c.toNat) ∧ Rd B w' g M l low n size fin ∧ Below B w w' := by
  obtain ⟨hB, v, hat, ho⟩ := h
  have HN := rNum_any hat
  rw [ocNumT_one] at HN
  have HN := Lib.hid HN
  have HW := Lib.hid (fun w (h : RdAt w g M l 0 low v size fin) => whole_ok h)
  have HF := Lib.hid (fun w' (ha : RdAt w' g M l 0 low v size fin) (hg : w.grownBy w' (some g)) => (⟨Rd.turn hB hat ho ha hg, rd_below hB hat hg⟩ : Rd B w' g M l low n size fin ∧ Below B w w'))
  clear hat ho hB
  go_enter Try.func32, Try.ntmps32
  go_wp2_with (first
    | ((with_reducible refine HN.out.mono ?_); rintro e w2 ⟨rfl, hat, hgr⟩; have HA := Lib.hid hat; have HG := Lib.hid hgr; clear hat hgr)
    | ((with_reducible refine (HW.out _ HA.out).mono ?_); rintro e w3 ⟨rfl, rfl⟩))
  go_ret
  exact ⟨rfl, HF.out _ HA.out HG.out⟩
theorem num_no {w : World} (h : Rd B w g M [] low n size fin) : Calls Try.prog 32 #[.pointer (some ⟨g, 0, none⟩)] w fun e w' => e = .panicked (pkPanic 1) ∧ Below B w w' := by
  obtain ⟨hB, v, hat, ho⟩ := h
  have HN := rNum_any hat
  rw [ocNumT_nil] at HN
  have HN := Lib.hid HN
  have HW := Lib.hid (fun w (h : RdAt w g M [] 1 low v size fin) => whole_no (by decide) h)
  have HF := Lib.hid (fun w' (hg : w.grownBy w' (some g)) => rd_below hB hat hg)
  clear hat ho hB
  go_enter Try.func32, Try.ntmps32
  go_wp2_with (first
    | ((with_reducible refine HN.out.mono ?_); rintro e w2 ⟨rfl, hat, hgr⟩; have HA := Lib.hid hat; have HG := Lib.hid hgr; clear hat hgr)
    | ((with_reducible refine (HW.out _ HA.out).mono ?_); rintro e w3 ⟨rfl, rfl⟩))
  exact ⟨rfl, rfl, HF.out _ HG.out⟩
theorem mark_on {w : World} (hf : fin ≠ 0) (h : Rd B w g M l low n size fin) : Calls Try.prog 33 #[.pointer (some ⟨g, 0, none⟩)] w fun e w' => e = .returned (.tuple #[]) ∧ w = w' := by
  obtain ⟨hB, v, hat, ho⟩ := h
  have c6 : w.cell? ⟨g, 6, none⟩ = some (.int .i64 fin) := hat.cells 6 rfl
  have hb : (fin == 0) = false := by simpa using hf
  clear hat ho hB hf
  go_enter Try.func33, Try.ntmps33
  go_wp2
  go_returns
  exact ⟨rfl, rfl⟩
theorem mark_off {w : World} (hl : l.length ≤ M.size) (hM : M.size ≤ 1000000) (h : Rd B w g M l low n size 0) : Calls Try.prog 33 #[.pointer (some ⟨g, 0, none⟩)] w fun e w' => e = .returned (.tuple #[]) ∧ Rd B w' g M l low n size ((M.size : Int) - l.length) ∧ Below B w w' := by
  obtain ⟨hB, v, hat, ho⟩ := h
  have HL := Lib.hid (fun w (h : RdAt w g M l 0 low v size 0) => (rLeft_any h).mono (fun e w'' (h : _ ∧ _) => (⟨h.1, h.2.symm⟩ : e = .returned (.int .i64 l.length) ∧ w'' = w)))
  have HF := Lib.hid (fun w' (ha : RdAt w' g M l 0 low v size ((M.size : Int) - l.length)) (hg : w.grownBy w' (some g)) => (⟨Rd.turn hB hat ho ha hg, rd_below hB hat hg⟩ : Rd B w' g M l low n size ((M.size : Int) - l.length) ∧ Below B w w'))
  have HA := Lib.hid hat
  have HD := Lib.hid hat.drew
  have hw : IntKind.i64.wrap ((M.size : Int) - l.length) = (M.size : Int) - l.length := by rw [IntKind.wrap_i64]; omega
  have c6 : w.cell? ⟨g, 6, none⟩ = some (.int .i64 0) := hat.cells 6 rfl
  have c0 : w.drew.cell? ⟨g, 0, none⟩ = some (.string M) := hat.drew.cells 0 rfl
  have c6d : w.drew.cell? ⟨g, 6, none⟩ = some (.int .i64 0) := hat.drew.cells 6 rfl
  have z6 : w.drew.frozen? ⟨g, 6, none⟩ = false := hat.drew.ice 6
  clear hat ho hB hl hM
  go_enter Try.func33, Try.ntmps33
  go_wp2
  refine wp_region_still_tail 12 (by kernel_rfl) (by kernel_rfl) ?_
  simp only [List.take_succ_cons, List.take_zero, List.drop_succ_cons, List.drop_zero]
  repeat (first | still_step | (refine wpStill_step (fun K hK => ?_); go_simp; (with_reducible refine ⟨_, (HL.out _ HD.out), hK _ ?_⟩); clear hK K))
  refine wpStill_nil ?_
  change wpList _ _ _ _ _ w.drew
  go_wp2
  go_returns
  exact ⟨rfl, HF.out _ (HD.out.put 6 _) (grown_drew' (grown_setCell _ ⟨g, 6, none⟩ _))⟩
end
end Go.Proofs.Ytchjhpipiooibaa
