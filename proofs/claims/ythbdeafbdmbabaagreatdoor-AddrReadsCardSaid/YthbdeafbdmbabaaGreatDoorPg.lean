/- Texts behind a law of this seat, in order: Low. -/
import Derived.Test.YthbdeafbdmbabaaGreatDoorPb
import Derived.Test.YthbdeafbdmbabaaGreatDoorPd
import Derived.Handed
import Derived.Lib.Hide
import Derived.Lib.Strings
import Derived.SizedLaws
import Derived.SliceStrings
import Derived.Test.YthbdeafbdmbabaaGreatDoorProg
import Derived.WalkKit
import Derived.WalkLawsBesides
import Derived.WalkSpells
namespace Go.Proofs.YthbdeafbdmbabaaGreatDoor
open Go.RowKit Go
set_option linter.unusedVariables false
theorem elem5 : Elem1 Tryz.prog 5 (.int .u8 0) 1 := by unfold Elem1; kernel_rfl
def lowRow (s : ByteArray) (k : Nat) : List Value := ((s.data.toList.take k).map lowB).map fun c => Value.int .u8 (c.toNat : Int)
theorem lowRow_step (s : ByteArray) (k : Nat) (hk : k < s.size) (n : Int) (hn : n = lowI s[k].toNat) : lowRow s k ++ [.int .u8 n] = lowRow s (k + 1) := by
  simp only [lowRow]
  rw [take_snoc s k hk]; simp [lowB_int, hn]
theorem lowRow_end {s : ByteArray} {wr : World} {base k : Nat} {v : Value} (h : wr.ownsRow base 5 1 v k (lowRow s k)) (hk : s.size ≤ k) : (convert 46 9 v).run Tryz.prog wr = .ok (.string ⟨(s.data.toList.map lowB).toArray⟩) wr := by
  simp only [lowRow] at h
  rw [List.take_of_length_le (by simpa using hk)] at h
  exact own_string Tryz.underlying46 Tryz.underlying5 Tryz.underlying9 h
set_option maxHeartbeats 1000000 in
theorem refLower_any (s : ByteArray) (w : World) (hs : s.size ≤ 4000) :
    Calls Tryz.prog 96 #[.string s] w fun e w' => e = .returned (.string ⟨(s.data.toList.map lowB).toArray⟩) ∧ Below w.heap.size w w' := by
  go_enter Tryz.func96, Tryz.ntmps96
  go_wp2
  go_loopw [3, 4] (fun v i wr => ∃ k : Nat, k ≤ s.size ∧ i = .int .i64 k ∧ wr.ownsRow w.heap.size 5 1 v k (lowRow s k) ∧ Below w.heap.size w wr) (fun _ i _ => s.size - (intOf i).toNat)
  case atStart => exact ⟨0, Nat.zero_le _, rfl, World.ownsRow_nil _ _ _ _, Below.refl _ _⟩
  case round =>
    obtain ⟨k, hk, rfl, hown, HB⟩ := hrel
    by_cases hlt : k < s.size
    · have hb : (s[k].toNat : Int) ≤ 255 := by have := s[k].toNat_lt; omega
      have hhit := lowRow_step s k hlt
      have HH := Lib.hid hhit; clear hhit
      have hsz := HB.size
      rcases (show (s[k].toNat : Int) < 65 ∨ 90 < (s[k].toNat : Int) ∨ (65 ≤ (s[k].toNat : Int) ∧ (s[k].toNat : Int) ≤ 90) by omega) with h1 | h1 | ⟨h1, h2⟩
      all_goals
        go_wp2_with (at_builtin; refine wpList_app1 rfl (.tmp 23) (.tmp 25) 46 5 rfl Tryz.underlying46 elem5 rfl w.heap.size _ k _ _ rfl rfl hown rfl (by omega) (by omega) hsz ?_)
        intro v' w' hown' HB' hne
        rw [HH.out _ (by unfold lowI; split <;> omega)] at hown'
        go_wp2
        go_roundw
        case rel => exact ⟨k + 1, by omega, by go_num, hown', HB.trans HB'⟩
        case measure => simp [intOf]; omega
    · have hcv := lowRow_end hown (by omega)
      go_wp2
      go_ret
      exact ⟨rfl, HB⟩
end Go.Proofs.YthbdeafbdmbabaaGreatDoor
