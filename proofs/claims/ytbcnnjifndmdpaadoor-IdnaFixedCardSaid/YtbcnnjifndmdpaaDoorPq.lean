/- Texts behind a law of this seat, in order: Utf. -/
import Derived.Test.YtbcnnjifndmdpaaDoorPa
import Derived.Test.YtbcnnjifndmdpaaDoorPb
import Derived.Test.YtbcnnjifndmdpaaDoorPc
import Derived.Test.YtbcnnjifndmdpaaDoorPe
import Derived.Test.YtbcnnjifndmdpaaDoorPf
import Derived.BigQuiet
import Derived.ChangeSlices
import Derived.Deep.QuietTactic
import Derived.Deep.RegionWith
import Derived.Handed
import Derived.Lib.DecodeN
import Derived.Lib.Hide
import Derived.Lib.RuneBytes
import Derived.Lib.Strings
import Derived.Shelf.LaysM
import Derived.Shelf.Small.Strs
import Derived.Shelf.Small.Utf8
import Derived.Shelf.Small.Wraps
import Derived.Shelf.Strings.Builder1
import Derived.Shelf.Strings.Builder2
import Derived.Shelf.Strings.Builder2Cap
import Derived.Shelf.Strings.BuilderCap
import Derived.Shelf.Strings.BuilderF
import Derived.Shelf.Strings.BuilderK
import Derived.Shelf.Strings.BuilderRune
import Derived.Shelf.Strings.Count
import Derived.Shelf.Strings.MapAny
import Derived.Shelf.Strings.OnBuilder
import Derived.Shelf.Strings.Prefix
import Derived.Shelf.Strings.Search1
import Derived.Shelf.Strings.Search2
import Derived.Shelf.Strings.Search3
import Derived.Shelf.Strings.Shaped
import Derived.Shelf.Strings.Split
import Derived.Shelf.Strings.SplitShaped
import Derived.Shelf.Unicode.Decode
import Derived.Shelf.Unicode.DecodeAny
import Derived.Shelf.Unicode.DecodeSlow
import Derived.Shelf.Utf8.AppendRunePlain
import Derived.SizedLaws
import Derived.SliceStrings
import Derived.Test.YtbcnnjifndmdpaaDoorProg
import Derived.WalkKit
import Derived.WalkLawsBesides
import Derived.WalkSpells
namespace Go.Proofs.YtbcnnjifndmdpaaDoor
open Go.RowKit Go
set_option linter.unusedVariables false
theorem pt_valid (c : Int) : Lib.validRune c = ptB c := by
  simp only [Lib.validRune, ptB]
  by_cases h1 : 0 ≤ c <;> by_cases h2 : c ≤ 1114111 <;> by_cases h3 : c < 55296 <;> by_cases h4 : 57343 < c <;> simp [h1, h2, h3, h4] <;> omega
set_option maxHeartbeats 400000 in
theorem point_any (c : Int) (w : World) : Calls Tryd.prog 70 #[.int .i32 c] w fun e w' => e = .returned (.bool (ptB c)) ∧ w = w' := by
  have h := pt_valid c
  have H := Lib.hid h
  clear h
  go_enter Tryd.func70, Tryd.ntmps70
  go_wp2_with fail
  refine (Tryd.utf8_ValidRune c w).mono ?_
  rintro e w' ⟨rfl, rfl⟩
  go_wp2_with fail
  go_ret
  exact ⟨ret_bool H.out, rfl⟩
theorem decGo_dec (s : ByteArray) (h : s.size ≠ 0) : Lib.decodeGo s = decU s.data.toList := by
  have e : ∀ i, (s.get! i).toNat = gb s.data.toList i := fun i => by
    unfold gb ByteArray.get!
    congr 1
    simp [List.getD]
    rw [getElem!_def]
    cases s.data[i]? <;> rfl
  simp only [Lib.decodeGo, h, if_false]
  rw [Lib.decode_at]
  simp only [Nat.sub_zero, Nat.zero_add, e]
  rfl
theorem nx_go (s : ByteArray) : nx s.data.toList = if (Lib.decodeGo s).1 = 65533 ∧ (Lib.decodeGo s).2 ≤ 1 then (0, 0) else Lib.decodeGo s := by
  by_cases h : s.size = 0
  · have : s.data.toList = [] := List.eq_nil_of_length_eq_zero (by simpa using h)
    unfold nx
    rw [if_pos (.inl this), if_pos]
    simp [Lib.decodeGo, h]
  · have hne : s.data.toList ≠ [] := by
      intro hc
      have := congrArg List.length hc
      simp at this
      exact h (by simp [ByteArray.size, this])
    rw [decGo_dec s h]
    unfold nx
    simp [hne]
theorem nx_go_pos (s : ByteArray) (h : ¬ ((Lib.decodeGo s).1 = 65533 ∧ (Lib.decodeGo s).2 ≤ 1)) : 0 < (Lib.decodeGo s).2 := by
  have e := nx_go s
  rw [if_neg h] at e
  rcases Nat.eq_zero_or_pos (Lib.decodeGo s).2 with h0 | h0
  · have hz := nx_zero s.data.toList (by rw [e]; exact h0)
    exfalso
    by_cases hs : s.size = 0
    · simp [Lib.decodeGo, hs] at h
    · rw [decGo_dec s hs] at h h0
      have hl : 1 ≤ s.data.toList.length := by simp; omega
      have := (decN_sound s.data.toList.length (gb s.data.toList 0) (gb s.data.toList 1) (gb s.data.toList 2) (gb s.data.toList 3) hl (gb_lt _ _) (gb_lt _ _) (gb_lt _ _) (gb_lt _ _) h).2.1
      unfold decU at h0
      omega
  · exact h0
def U8 (w : World) : Prop := Lib.Utf8Tabs 0 1 w
theorem U8.below {w w' : World} (h : U8 w) (hb : Below w.heap.size w w') : U8 w' := Utf8Tabs_below h hb
theorem ret_next {a c : Int} {b d : Int} {x y : Bool} (h : a = c) (k : b = d) (g : x = y) : Ending.returned (.tuple #[.int .i32 a, .int .i64 b, .bool x]) = .returned (.tuple #[.int .i32 c, .int .i64 d, .bool y]) := by rw [h, k, g]
set_option maxHeartbeats 1000000 in
theorem next_any (s : ByteArray) (w : World) (hT : U8 w) : Calls Tryd.prog 22 #[.string s] w fun e w' => e = .returned (.tuple #[.int .i32 (nx s.data.toList).1, .int .i64 (nx s.data.toList).2, .bool (decide (0 < (nx s.data.toList).2))]) ∧ Below w.heap.size w w' := by
  have hk := Tryd.utf8_DecodeRuneInString s w hT
  have e := nx_go s
  have p := nx_go_pos s
  obtain ⟨R, hR⟩ : ∃ R, R = (Lib.decodeGo s).1 := ⟨_, rfl⟩
  obtain ⟨K, hK⟩ : ∃ K, K = (Lib.decodeGo s).2 := ⟨_, rfl⟩
  rw [← hR, ← hK] at hk e p
  have e2 : Lib.decodeGo s = (R, K) := by rw [hR, hK]
  rw [e2] at e
  clear e2 hR hK hT
  have KK := Lib.hid hk
  by_cases h1 : R = 65533
  · have b1 : ((R : Int) == 65533) = true := by simp [h1]
    by_cases h2 : K ≤ 1
    · rw [if_pos ⟨h1, h2⟩] at e
      rw [e]
      clear e p hk h1
      go_enter Tryd.func22, Tryd.ntmps22
      go_wp2_with fail
      refine KK.out.mono ?_
      rintro e w' ⟨rfl, hb⟩
      go_wp2_with fail
      go_ret3
      exact ⟨rfl, hb⟩
    · rw [if_neg (fun h => h2 h.2)] at e
      rw [e]
      clear e p hk h1
      go_enter Tryd.func22, Tryd.ntmps22
      go_wp2_with fail
      refine KK.out.mono ?_
      rintro e w' ⟨rfl, hb⟩
      go_wp2_with fail
      go_ret3
      exact ⟨ret_next rfl rfl (by simp; omega), hb⟩
  · have b1 : ((R : Int) == 65533) = false := by simp; omega
    have pp := p (fun h => h1 h.1)
    rw [if_neg (fun h => h1 h.1)] at e
    rw [e]
    clear e p hk h1
    go_enter Tryd.func22, Tryd.ntmps22
    go_wp2_with fail
    refine KK.out.mono ?_
    rintro e w' ⟨rfl, hb⟩
    go_wp2_with fail
    go_ret3
    exact ⟨ret_next rfl rfl (by simp; omega), hb⟩
end Go.Proofs.YtbcnnjifndmdpaaDoor
