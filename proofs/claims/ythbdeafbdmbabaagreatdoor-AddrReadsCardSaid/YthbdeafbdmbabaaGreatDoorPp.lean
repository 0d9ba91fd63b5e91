/- Texts behind a law of this seat, in order: Quad3. -/
import Derived.Test.YthbdeafbdmbabaaGreatDoorPa
import Derived.Test.YthbdeafbdmbabaaGreatDoorPb
import Derived.Test.YthbdeafbdmbabaaGreatDoorPc
import Derived.Test.YthbdeafbdmbabaaGreatDoorPd
import Derived.Test.YthbdeafbdmbabaaGreatDoorPe
import Derived.Test.YthbdeafbdmbabaaGreatDoorPf
import Derived.Test.YthbdeafbdmbabaaGreatDoorPg
import Derived.Test.YthbdeafbdmbabaaGreatDoorPh
import Derived.Test.YthbdeafbdmbabaaGreatDoorPi
import Derived.Test.YthbdeafbdmbabaaGreatDoorPm
import Derived.Test.YthbdeafbdmbabaaGreatDoorPn
import Derived.Test.YthbdeafbdmbabaaGreatDoorPo
import Derived.Below
import Derived.BigQuiet
import Derived.ChangeSlices
import Derived.Deep.AppendLies
import Derived.Deep.Draws
import Derived.Deep.QuietTactic
import Derived.Deep.RegionLaw
import Derived.Great.Ranges
import Derived.Handed
import Derived.Laws.OwnMore
import Derived.Laws.Rows
import Derived.Laws.StructEq
import Derived.Lib.Bytealg
import Derived.Lib.Hide
import Derived.Lib.ItoaNum
import Derived.Lib.Join
import Derived.Lib.Split
import Derived.Lib.SplitLaws
import Derived.Lib.Strings
import Derived.OpenShut
import Derived.Shelf.LaysM
import Derived.Shelf.Small.Bits
import Derived.Shelf.Small.Strs
import Derived.Shelf.Strconv.Itoa0
import Derived.Shelf.Strconv.Itoa1
import Derived.Shelf.Strconv.Itoa2
import Derived.Shelf.Strconv.Itoa3
import Derived.Shelf.Strings.Builder1
import Derived.Shelf.Strings.Builder2
import Derived.Shelf.Strings.Builder2Cap
import Derived.Shelf.Strings.BuilderCap
import Derived.Shelf.Strings.BuilderF
import Derived.Shelf.Strings.BuilderK
import Derived.Shelf.Strings.Count
import Derived.Shelf.Strings.Cut
import Derived.Shelf.Strings.OnBuilder
import Derived.Shelf.Strings.Prefix
import Derived.Shelf.Strings.Search1
import Derived.Shelf.Strings.Search2
import Derived.Shelf.Strings.Search3
import Derived.Shelf.Strings.Shaped
import Derived.Shelf.Strings.Split
import Derived.Shelf.Strings.SplitShaped
import Derived.Shelf.Unicode.Decode
import Derived.Shelf.Unicode.DecodeAny
import Derived.Shelf.Unicode.DecodeSlow
import Derived.SizedLaws
import Derived.SliceStrings
import Derived.Stop.BytesEq
import Derived.Test.YthbdeafbdmbabaaGreatDoorProg
import Derived.WalkKit
import Derived.WalkLawsBesides
import Derived.WalkSpells
namespace Go.Proofs.YthbdeafbdmbabaaGreatDoor
open Go.RowKit Go
set_option linter.unusedVariables false
theorem dotIndexN_any (x : ByteArray) (w : World) : Calls Tryz.prog 62 #[.string x, .string ⟨#[46]⟩] w fun e w' => e = .returned (.int .i64 (Lib.indexB x ⟨#[46]⟩)) ∧ w' = w := by
  refine (Tryz.strings_Index_one x 46 w).mono ?_
  rintro e w' ⟨rfl, rfl⟩
  refine ⟨?_, rfl⟩
  rw [← Lib.index_one]
theorem dotCountN_any (x : ByteArray) (w : World) : Calls Tryz.prog 130 #[.string x, .string ⟨#[46]⟩] w fun e w' => e = .returned (.int .i64 (Lib.countB x ⟨#[46]⟩)) ∧ w' = w := by
  refine (Tryz.strings_Count_one x 46 w).mono ?_
  rintro e w' ⟨rfl, rfl⟩
  refine ⟨?_, rfl⟩
  unfold Lib.countByte
  rw [← Lib.count_one]
theorem hi9N : (Tryz.prog.info? 9).map (fun i => (i.zero, i.size, i.bytes)) = some (some (.string ByteArray.empty), 1, 16) := by kernel_rfl
def RowOf (l : List (List UInt8)) (R : Array Value) : Prop := ∀ (j : Nat) (x : List UInt8), l[j]? = some x → R[j]? = some (strV x)
theorem rowOf_cells (l : List ByteArray) (N : Nat) : RowOf (l.map (·.data.toList)) (Lib.cellsOf l N) := by
  intro j x h
  rw [List.getElem?_map, Option.map_eq_some_iff] at h
  obtain ⟨b, hb, rfl⟩ := h
  unfold Lib.cellsOf
  have hj : j < l.length := (List.getElem?_eq_some_iff.1 hb).1
  rw [List.getElem?_toArray, List.getElem?_append_left (by simpa using hj), List.getElem?_map, hb]
  show some (Value.string b) = some (Value.string ⟨b.data.toList.toArray⟩)
  simp
theorem cut_min (l : List UInt8) (m : Nat) (hm : 1 ≤ m) : cutN l (min m (l.length + 1) - 1) = cutN l (m - 1) := by
  by_cases h : m - 1 ≤ l.length
  · rw [show min m (l.length + 1) - 1 = m - 1 by omega]
  · rw [show min m (l.length + 1) - 1 = l.length by omega, cutN_big l l.length (m - 1 - l.length) (Nat.le_refl _), show l.length + (m - 1 - l.length) = m - 1 by omega]
theorem genSplitN_any (s : ByteArray) (m : Nat) (w : World) (hs : s.size ≤ 4000) (hm : 1 ≤ m) (hm2 : m ≤ 1000) :
    Calls Tryz.prog 114 #[.string s, .string ⟨#[46]⟩, .int .i64 0, .int .i64 m] w fun e w' =>
      ∃ R, RowOf (cutN s.data.toList (m - 1)) R ∧ e = .returned (.slice (some ⟨w.heap.size, 0, none⟩) (cutN s.data.toList (m - 1)).length (min m (s.size + 1))) ∧ w' = w.alloc (.cells R 9) := by
  have c := Any.strings_genSplit_core { Tryz.lays221 with } hi9N s ⟨#[46]⟩ 0 (m : Nat) (min m (s.size + 1)) w (by omega) (by decide) (Nat.zero_le _)
    (fun x c _ => dotIndexN_any x _) (dotCountN_any s w) (by omega) (by omega) (by rw [if_neg (by omega)]; omega)
  have e1 : (Lib.splitB ⟨#[46]⟩ 0 (min m (s.size + 1) - 1) s).map (·.data.toList) = cutN s.data.toList (m - 1) := by
    rw [Lib.splitB_data]
    show Lib.splitK [46] 0 _ _ = _
    rw [split_cutN, Lib.size_eq, cut_min _ _ hm]
  have e2 : (Lib.splitB ⟨#[46]⟩ 0 (min m (s.size + 1) - 1) s).length = (cutN s.data.toList (m - 1)).length := by rw [← e1, List.length_map]
  have r := rowOf_cells (Lib.splitB ⟨#[46]⟩ 0 (min m (s.size + 1) - 1) s) (min m (s.size + 1))
  rw [e1] at r
  rw [e2] at c
  exact c.mono fun e w' ⟨h1, h2⟩ => ⟨_, r, h1, h2⟩
/-- cut at the first dots: at most m pieces -/
theorem splitN_any (s : ByteArray) (m : Nat) (w : World) (hs : s.size ≤ 4000) (hm : 1 ≤ m) (hm2 : m ≤ 1000) :
    Calls Tryz.prog 90 #[.string s, .string ⟨#[46]⟩, .int .i64 m] w fun e w' =>
      ∃ R, RowOf (cutN s.data.toList (m - 1)) R ∧ e = .returned (.slice (some ⟨w.heap.size, 0, none⟩) (cutN s.data.toList (m - 1)).length (min m (s.size + 1))) ∧ w' = w.alloc (.cells R 9) := by
  have H := Lib.hid (genSplitN_any s m w hs hm hm2)
  go_enter Tryz.func90, Tryz.ntmps90
  go_wp2_with fail
  with_reducible refine H.out.mono ?_
  rintro e w' ⟨R, hR, rfl, rfl⟩
  have HR := Lib.hid hR
  clear hR
  go_wp2_with fail
  go_ret
  exact ⟨R, HR.out, rfl, rfl⟩
end Go.Proofs.YthbdeafbdmbabaaGreatDoor
