/- Layer 10: octet.wide, New, and what an Eye says of itself. -/
import Derived.Test.YtchjhpipiooibaaMath15
import Derived.Test.YtchjhpipiooibaaMemRow
import Derived.Test.YtchjhpipiooibaaProg
import Derived.WalkKit
import Derived.WalkSpells
import Derived.WalkLawsBesides
import Derived.Lib.Hide
import Derived.Handy
namespace Go.Proofs.Ytchjhpipiooibaa
open Go.RowKit Go
set_option linter.unusedVariables false
/-- an Eye's cells: what was not read, and the error -/
def eyeC (l : List UInt8) (x : Int) : Array Value := #[.string ⟨l.toArray⟩, .int .i64 x]
abbrev EyeAt (w : World) (g : Nat) (l : List UInt8) (x : Int) : Prop := At w g 51 (eyeC l x)
theorem wide_any (n : Int) (w : World) : Calls Try.prog 39 #[.int .i64 n] w fun e w' => e = .returned (.int .i64 (ocWide n : Nat)) ∧ w = w' := by
  have key : ∀ x : Int, x = min (max n 0) 4 → x = (ocWide n : Nat) := fun x h => by unfold ocWide; omega
  have KEY := Lib.hid key
  clear key
  go_enter Try.func39, Try.ntmps39
  go_wp2
  all_goals (go_ret; exact ⟨ret_int (KEY.out _ (by omega)), rfl⟩)
theorem held_any (n : Int) (w : World) : Calls Try.prog 40 #[.int .i64 n] w fun e w' => e = .returned (.int .i64 (ocWide n : Nat)) ∧ w = w' := by
  have key : ∀ x : Int, x = max (min n 4) 0 → x = (ocWide n : Nat) := fun x h => by unfold ocWide; omega
  have KEY := Lib.hid key
  clear key
  go_enter Try.func40, Try.ntmps40
  go_wp2
  all_goals (go_ret; exact ⟨ret_int (KEY.out _ (by omega)), rfl⟩)
theorem eyeNew_any (s : ByteArray) (w : World) : Calls Try.prog 30 #[.string s] w fun e w' => ∃ g, e = .returned (.pointer (some ⟨g, 0, none⟩)) ∧ w.heap.size ≤ g ∧ EyeAt w' g s.data.toList 0 ∧ Below w.heap.size w w' := by
  go_enter Try.func30, Try.ntmps30
  go_wp2
  go_ret
  refine ⟨_, rfl, Nat.le_refl _, ?_, (Below.refl _ _).alloc (Nat.le_refl _) _⟩
  have e : eyeC s.data.toList 0 = #[.string s, .int .i64 0] := by simp [eyeC]
  show At _ _ _ _
  rw [e]
  exact At.new w 51 #[.string s, .int .i64 0]
theorem eyeErr_any (g : Nat) (l : List UInt8) (x : Int) (w : World) (h : EyeAt w g l x) : Calls Try.prog 46 #[.pointer (some ⟨g, 0, none⟩)] w fun e w' => e = .returned (.int .i64 x) ∧ w = w' := by
  have c1 : w.cell? ⟨g, 1, none⟩ = some (.int .i64 x) := h.cells 1 rfl
  clear h
  go_enter Try.func46, Try.ntmps46
  go_wp2
  go_ret
  exact ⟨rfl, rfl⟩
theorem eyeLeft_any (g : Nat) (l : List UInt8) (x : Int) (w : World) (h : EyeAt w g l x) : Calls Try.prog 43 #[.pointer (some ⟨g, 0, none⟩)] w fun e w' => e = .returned (.int .i64 l.length) ∧ w = w' := by
  obtain ⟨s, hs⟩ : ∃ s : ByteArray, s = ⟨l.toArray⟩ := ⟨_, rfl⟩
  have hz : s.size = l.length := by rw [hs]; rfl
  have c0 : w.cell? ⟨g, 0, none⟩ = some (.string s) := by rw [hs]; exact h.cells 0 rfl
  have HZ := Lib.hid hz
  clear h hs hz
  go_enter Try.func43, Try.ntmps43
  go_wp2
  go_ret
  exact ⟨by rw [HZ.out]; rfl, rfl⟩
end Go.Proofs.Ytchjhpipiooibaa
