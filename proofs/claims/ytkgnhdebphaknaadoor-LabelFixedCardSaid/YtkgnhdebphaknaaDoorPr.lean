/- Texts behind a law of this seat, in order: Utf. -/
import Derived.Test.YtkgnhdebphaknaaDoorPa
import Derived.Test.YtkgnhdebphaknaaDoorPb
import Derived.Test.YtkgnhdebphaknaaDoorPc
import Derived.Test.YtkgnhdebphaknaaDoorPd
import Derived.Test.YtkgnhdebphaknaaDoorPf
import Derived.BigQuiet
import Derived.ChangeSlices
import Derived.Deep.QuietTactic
import Derived.Deep.RegionWith
import Derived.Handed
import Derived.Lib.DecodeN
import Derived.Lib.Hide
import Derived.Lib.RuneBytes
import Derived.Lib.Strings
import Derived.Shelf.Small.Strs
import Derived.Shelf.Small.Utf8
import Derived.Shelf.Small.Wraps
import Derived.Shelf.Strings.Prefix
import Derived.Shelf.Strings.Search1
import Derived.Shelf.Unicode.Decode
import Derived.Shelf.Unicode.DecodeAny
import Derived.Shelf.Unicode.DecodeSlow
import Derived.Shelf.Utf8.AppendRunePlain
import Derived.SizedLaws
import Derived.SliceStrings
import Derived.Test.YtkgnhdebphaknaaDoorProg
import Derived.WalkKit
import Derived.WalkLawsBesides
import Derived.WalkSpells
namespace Go.Proofs.YtkgnhdebphaknaaDoor
open Go.RowKit Go
set_option linter.unusedVariables false
theorem pt_valid (c : Int) : Lib.validRune c = ptB c := by
  simp only [Lib.validRune, ptB]
  by_cases h1 : 0 ≤ c <;> by_cases h2 : c ≤ 1114111 <;> by_cases h3 : c < 55296 <;> by_cases h4 : 57343 < c <;> simp [h1, h2, h3, h4] <;> omega
set_option maxHeartbeats 400000 in
theorem point_any (c : Int) (w : World) : Calls Tryd.prog 50 #[.int .i32 c] w fun e w' => e = .returned (.bool (ptB c)) ∧ w = w' := by
  have h := pt_valid c
  have H := Lib.hid h
  clear h
  go_enter Tryd.func50, Tryd.ntmps50
  go_wp2_with fail
  refine (Tryd.utf8_ValidRune c w).mono ?_
  rintro e w' ⟨rfl, rfl⟩
  go_wp2_with fail
  go_ret
  exact ⟨ret_bool H.out, rfl⟩
set_option maxHeartbeats 1000000 in
theorem refPoint_any (c : Int) (w : World) (h0 : -9223372036854775808 ≤ c) (h1 : c ≤ 9223372036854775807) : Calls Tryd.prog 38 #[.int .i64 c] w fun e w' => e = .returned (.bool (ptB c)) ∧ w = w' := by
  obtain ⟨b, hb⟩ : ∃ b, b = ptB c := ⟨_, rfl⟩
  have HB := Lib.hid hb
  rw [← hb]
  clear hb
  by_cases a1 : 0 ≤ c
  · by_cases a2 : c ≤ 1114111
    · by_cases a3 : c < 55296
      · go_enter Tryd.func38, Tryd.ntmps38
        go_wp2
        go_ret
        exact ⟨ret_bool (by rw [HB.out]; simp [ptB, a1, a2, a3]), rfl⟩
      · by_cases a4 : 57343 < c
        · go_enter Tryd.func38, Tryd.ntmps38
          go_wp2
          go_ret
          exact ⟨ret_bool (by rw [HB.out]; simp [ptB, a1, a2, a4]), rfl⟩
        · go_enter Tryd.func38, Tryd.ntmps38
          go_wp2
          go_ret
          exact ⟨ret_bool (by rw [HB.out]; simp [ptB, a3, a4]), rfl⟩
    · go_enter Tryd.func38, Tryd.ntmps38
      go_wp2
      go_ret
      exact ⟨ret_bool (by rw [HB.out]; simp [ptB]; omega), rfl⟩
  · go_enter Tryd.func38, Tryd.ntmps38
    go_wp2
    go_ret
    exact ⟨ret_bool (by rw [HB.out]; simp [ptB]; omega), rfl⟩
theorem ret_ii {a b c d : Int} (h : a = c) (k : b = d) : Ending.returned (.tuple #[.int .i64 a, .int .i64 b]) = .returned (.tuple #[.int .i64 c, .int .i64 d]) := by rw [h, k]
set_option maxHeartbeats 1000000 in
theorem refLead_any (c : Int) (w : World) (h0 : 0 ≤ c) (h1 : c ≤ 255) : Calls Tryd.prog 43 #[.int .i64 c] w fun e w' => e = .returned (.tuple #[.int .i64 (leadZ c).1, .int .i64 (leadZ c).2]) ∧ w = w' := by
  by_cases a1 : c < 128
  · have h : leadZ c = (1, c) := by unfold leadZ; rw [if_pos a1]
    rw [h]; clear h
    go_enter Tryd.func43, Tryd.ntmps43
    go_wp2
    go_ret2
    exact ⟨rfl, rfl⟩
  by_cases a2 : c < 192
  · have h : leadZ c = (0, 0) := by unfold leadZ; rw [if_neg (by omega), if_neg (by omega), if_neg (by omega), if_neg (by omega)]
    rw [h]; clear h
    go_enter Tryd.func43, Tryd.ntmps43
    go_wp2
    go_ret2
    exact ⟨rfl, rfl⟩
  by_cases a3 : c < 224
  · have h : leadZ c = (2, c - 192) := by unfold leadZ; rw [if_neg (by omega), if_pos (by omega)]
    rw [h]; clear h
    go_enter Tryd.func43, Tryd.ntmps43
    go_wp2
    go_ret2
    exact ⟨rfl, rfl⟩
  by_cases a4 : c < 240
  · have h : leadZ c = (3, c - 224) := by unfold leadZ; rw [if_neg (by omega), if_neg (by omega), if_pos (by omega)]
    rw [h]; clear h
    go_enter Tryd.func43, Tryd.ntmps43
    go_wp2
    go_ret2
    exact ⟨rfl, rfl⟩
  by_cases a5 : c < 248
  · have h : leadZ c = (4, c - 240) := by unfold leadZ; rw [if_neg (by omega), if_neg (by omega), if_neg (by omega), if_pos (by omega)]
    rw [h]; clear h
    go_enter Tryd.func43, Tryd.ntmps43
    go_wp2
    go_ret2
    exact ⟨rfl, rfl⟩
  · have h : leadZ c = (0, 0) := by unfold leadZ; rw [if_neg (by omega), if_neg (by omega), if_neg (by omega), if_neg (by omega)]
    rw [h]; clear h
    go_enter Tryd.func43, Tryd.ntmps43
    go_wp2
    go_ret2
    exact ⟨rfl, rfl⟩
def BytesP (c : Int) (w : World) (e : Ending) (w' : World) : Prop :=
  e = .returned (.slice (some ⟨w.heap.size, 0, none⟩) (Lib.encodeRuneZ c).length (Lib.encodeRuneZ c).length) ∧ w' = w.alloc (.cells (Lib.runeCells c).toArray 5)
set_option maxHeartbeats 2000000 in
theorem refBytes_any (c : Int) (w : World) (hp : ptB c = true) : Calls Tryd.prog 39 #[.int .i64 c] w (BytesP c w) := by
  obtain ⟨p0, p1, p2⟩ := (ptB_iff c).1 hp
  have HP := Lib.hid hp
  clear hp p2
  unfold BytesP
  by_cases h1 : c < 128
  · have E := Lib.encodeRuneZ_one (r := c) (by omega) (by omega)
    unfold Lib.runeCells
    rw [E]
    clear E
    simp only [List.map, List.length]
    go_enter Tryd.func39, Tryd.ntmps39
    go_wp2
    go_ret
    exact ⟨rfl, rfl⟩
  by_cases h2 : c < 2048
  · have E := Lib.encodeRuneZ_two (r := c) (by omega) (by omega)
    unfold Lib.runeCells
    rw [E]
    clear E
    simp only [List.map, List.length]
    go_enter Tryd.func39, Tryd.ntmps39
    go_wp2
    go_ret
    exact ⟨rfl, rfl⟩
  by_cases h3 : c < 65536
  · have E := Lib.encodeRuneZ_three (r := c) (by have := (ptB_iff c).1 HP.out; omega)
    unfold Lib.runeCells
    rw [E]
    clear E
    simp only [List.map, List.length]
    go_enter Tryd.func39, Tryd.ntmps39
    go_wp2
    go_ret
    exact ⟨rfl, rfl⟩
  · have E := Lib.encodeRuneZ_four (r := c) (by omega) p1
    unfold Lib.runeCells
    rw [E]
    clear E
    simp only [List.map, List.length]
    go_enter Tryd.func39, Tryd.ntmps39
    go_wp2
    go_ret
    exact ⟨rfl, rfl⟩
theorem decGo_dec (s : ByteArray) (h : s.size ≠ 0) : Lib.decodeGo s = decU s.data.toList := by
  have e : ∀ i, (s.get! i).toNat = gb s.data.toList i := fun i => by
    unfold gb ByteArray.get!
    congr 1
    simp [List.getD]
    rw [getElem!_def]
    cases s.data[i]? <;> rfl
  simp only [Lib.decodeGo, h, if_false]
  rw [Lib.decode_at]
  simp only [Nat.sub_zero, Nat.zero_add, e]
  rfl
theorem nx_go (s : ByteArray) : nx s.data.toList = if (Lib.decodeGo s).1 = 65533 ∧ (Lib.decodeGo s).2 ≤ 1 then (0, 0) else Lib.decodeGo s := by
  by_cases h : s.size = 0
  · have : s.data.toList = [] := List.eq_nil_of_length_eq_zero (by simpa using h)
    unfold nx
    rw [if_pos (.inl this), if_pos]
    simp [Lib.decodeGo, h]
  · have hne : s.data.toList ≠ [] := by
      intro hc
      have := congrArg List.length hc
      simp at this
      exact h (by simp [ByteArray.size, this])
    rw [decGo_dec s h]
    unfold nx
    simp [hne]
theorem nx_go_pos (s : ByteArray) (h : ¬ ((Lib.decodeGo s).1 = 65533 ∧ (Lib.decodeGo s).2 ≤ 1)) : 0 < (Lib.decodeGo s).2 := by
  have e := nx_go s
  rw [if_neg h] at e
  rcases Nat.eq_zero_or_pos (Lib.decodeGo s).2 with h0 | h0
  · have hz := nx_zero s.data.toList (by rw [e]; exact h0)
    exfalso
    by_cases hs : s.size = 0
    · simp [Lib.decodeGo, hs] at h
    · rw [decGo_dec s hs] at h h0
      have hl : 1 ≤ s.data.toList.length := by simp; omega
      have := (decN_sound s.data.toList.length (gb s.data.toList 0) (gb s.data.toList 1) (gb s.data.toList 2) (gb s.data.toList 3) hl (gb_lt _ _) (gb_lt _ _) (gb_lt _ _) (gb_lt _ _) h).2.1
      unfold decU at h0
      omega
  · exact h0
def U8 (w : World) : Prop := Lib.Utf8Tabs 1 2 w
theorem U8.below {w w' : World} (h : U8 w) (hb : Below w.heap.size w w') : U8 w' := Utf8Tabs_below h hb
theorem ret_next {a c : Int} {b d : Int} {x y : Bool} (h : a = c) (k : b = d) (g : x = y) : Ending.returned (.tuple #[.int .i32 a, .int .i64 b, .bool x]) = .returned (.tuple #[.int .i32 c, .int .i64 d, .bool y]) := by rw [h, k, g]
set_option maxHeartbeats 1000000 in
theorem next_any (s : ByteArray) (w : World) (hT : U8 w) : Calls Tryd.prog 40 #[.string s] w fun e w' => e = .returned (.tuple #[.int .i32 (nx s.data.toList).1, .int .i64 (nx s.data.toList).2, .bool (decide (0 < (nx s.data.toList).2))]) ∧ Below w.heap.size w w' := by
  have hk := Tryd.utf8_DecodeRuneInString s w hT
  have e := nx_go s
  have p := nx_go_pos s
  obtain ⟨R, hR⟩ : ∃ R, R = (Lib.decodeGo s).1 := ⟨_, rfl⟩
  obtain ⟨K, hK⟩ : ∃ K, K = (Lib.decodeGo s).2 := ⟨_, rfl⟩
  rw [← hR, ← hK] at hk e p
  have e2 : Lib.decodeGo s = (R, K) := by rw [hR, hK]
  rw [e2] at e
  clear e2 hR hK hT
  have KK := Lib.hid hk
  by_cases h1 : R = 65533
  · have b1 : ((R : Int) == 65533) = true := by simp [h1]
    by_cases h2 : K ≤ 1
    · rw [if_pos ⟨h1, h2⟩] at e
      rw [e]
      clear e p hk h1
      go_enter Tryd.func40, Tryd.ntmps40
      go_wp2_with fail
      refine KK.out.mono ?_
      rintro e w' ⟨rfl, hb⟩
      go_wp2_with fail
      go_ret3
      exact ⟨rfl, hb⟩
    · rw [if_neg (fun h => h2 h.2)] at e
      rw [e]
      clear e p hk h1
      go_enter Tryd.func40, Tryd.ntmps40
      go_wp2_with fail
      refine KK.out.mono ?_
      rintro e w' ⟨rfl, hb⟩
      go_wp2_with fail
      go_ret3
      exact ⟨ret_next rfl rfl (by simp; omega), hb⟩
  · have b1 : ((R : Int) == 65533) = false := by simp; omega
    have pp := p (fun h => h1 h.1)
    rw [if_neg (fun h => h1 h.1)] at e
    rw [e]
    clear e p hk h1
    go_enter Tryd.func40, Tryd.ntmps40
    go_wp2_with fail
    refine KK.out.mono ?_
    rintro e w' ⟨rfl, hb⟩
    go_wp2_with fail
    go_ret3
    exact ⟨ret_next rfl rfl (by simp; omega), hb⟩
theorem accZ_step (t : Int) (l : List UInt8) (k : Nat) (h : k < l.length) : accZ t (l.take (k + 1)) = 64 * accZ t (l.take k) + (l[k].toNat : Int) % 64 := by
  unfold accZ
  rw [List.take_succ_eq_append_getElem h, List.foldl_append]
  rfl
theorem accZ_bd (t : Int) (h0 : 0 ≤ t) (h1 : t ≤ 127) : ∀ (l : List UInt8), l.length ≤ 3 → 0 ≤ accZ t l ∧ accZ t l ≤ 33554431 := by
  intro l hl
  match l with
  | [] => simp [accZ]; omega
  | [a] => simp [accZ]; omega
  | [a, b] => simp [accZ]; omega
  | [a, b, c] => simp [accZ]; omega
  | a :: b :: c :: d :: r => simp at hl
theorem leadZ_bd (c : Int) (h0 : 0 ≤ c) (h1 : c ≤ 255) : 0 ≤ (leadZ c).1 ∧ (leadZ c).1 ≤ 4 ∧ 0 ≤ (leadZ c).2 ∧ (leadZ c).2 ≤ 127 := by
  unfold leadZ
  repeat' split
  all_goals simp only
  all_goals omega
end Go.Proofs.YtkgnhdebphaknaaDoor
