/- Layer 7: cut at dots; quad.address. -/
import Derived.Test.YtkchgjakkogejaaDoorQuad
import Derived.Test.YtkchgjakkogejaaDoorQuad2
import Derived.Test.YtkchgjakkogejaaDoorShelf
import Derived.Shelf.Strings.Split
namespace Go.Proofs.YtkchgjakkogejaaDoor
open Go.RowKit Go
set_option linter.unusedVariables false
theorem dotIndexN_any (x : ByteArray) (w : World) : Calls Tryd.prog 64 #[.string x, .string ⟨#[46]⟩] w fun e w' => e = .returned (.int .i64 (Lib.indexB x ⟨#[46]⟩)) ∧ w' = w := by
  refine (Tryd.strings_Index_one x 46 w).mono ?_
  rintro e w' ⟨rfl, rfl⟩
  refine ⟨?_, rfl⟩
  rw [← Lib.index_one]
theorem dotCountN_any (x : ByteArray) (w : World) : Calls Tryd.prog 63 #[.string x, .string ⟨#[46]⟩] w fun e w' => e = .returned (.int .i64 (Lib.countB x ⟨#[46]⟩)) ∧ w' = w := by
  refine (Tryd.strings_Count_one x 46 w).mono ?_
  rintro e w' ⟨rfl, rfl⟩
  refine ⟨?_, rfl⟩
  unfold Lib.countByte
  rw [← Lib.count_one]
theorem hi9N : (Tryd.prog.info? 9).map (fun i => (i.zero, i.size, i.bytes)) = some (some (.string ByteArray.empty), 1, 16) := by kernel_rfl
def RowOf (l : List (List UInt8)) (R : Array Value) : Prop := ∀ (j : Nat) (x : List UInt8), l[j]? = some x → R[j]? = some (strV x)
theorem rowOf_cells (l : List ByteArray) (N : Nat) : RowOf (l.map (·.data.toList)) (Lib.cellsOf l N) := by
  intro j x h
  rw [List.getElem?_map, Option.map_eq_some_iff] at h
  obtain ⟨b, hb, rfl⟩ := h
  unfold Lib.cellsOf
  have hj : j < l.length := (List.getElem?_eq_some_iff.1 hb).1
  rw [List.getElem?_toArray, List.getElem?_append_left (by simpa using hj), List.getElem?_map, hb]
  show some (Value.string b) = some (Value.string ⟨b.data.toList.toArray⟩)
  simp
theorem cut_min (l : List UInt8) (m : Nat) (hm : 1 ≤ m) : cutN l (min m (l.length + 1) - 1) = cutN l (m - 1) := by
  by_cases h : m - 1 ≤ l.length
  · rw [show min m (l.length + 1) - 1 = m - 1 by omega]
  · rw [show min m (l.length + 1) - 1 = l.length by omega, cutN_big l l.length (m - 1 - l.length) (Nat.le_refl _), show l.length + (m - 1 - l.length) = m - 1 by omega]
theorem genSplitN_any (s : ByteArray) (m : Nat) (w : World) (hs : s.size ≤ 4000) (hm : 1 ≤ m) (hm2 : m ≤ 1000) :
    Calls Tryd.prog 51 #[.string s, .string ⟨#[46]⟩, .int .i64 0, .int .i64 m] w fun e w' =>
      ∃ R, RowOf (cutN s.data.toList (m - 1)) R ∧ e = .returned (.slice (some ⟨w.heap.size, 0, none⟩) (cutN s.data.toList (m - 1)).length (min m (s.size + 1))) ∧ w' = w.alloc (.cells R 9) := by
  have c := Any.strings_genSplit_core { Tryd.lays221 with } hi9N s ⟨#[46]⟩ 0 (m : Nat) (min m (s.size + 1)) w (by omega) (by decide) (Nat.zero_le _)
    (fun x c _ => dotIndexN_any x _) (dotCountN_any s w) (by omega) (by omega) (by rw [if_neg (by omega)]; omega)
  have e1 : (Lib.splitB ⟨#[46]⟩ 0 (min m (s.size + 1) - 1) s).map (·.data.toList) = cutN s.data.toList (m - 1) := by
    rw [Lib.splitB_data]
    show Lib.splitK [46] 0 _ _ = _
    rw [split_cutN, Lib.size_eq, cut_min _ _ hm]
  have e2 : (Lib.splitB ⟨#[46]⟩ 0 (min m (s.size + 1) - 1) s).length = (cutN s.data.toList (m - 1)).length := by rw [← e1, List.length_map]
  have r := rowOf_cells (Lib.splitB ⟨#[46]⟩ 0 (min m (s.size + 1) - 1) s) (min m (s.size + 1))
  rw [e1] at r
  rw [e2] at c
  exact c.mono fun e w' ⟨h1, h2⟩ => ⟨_, r, h1, h2⟩
/-- cut at the first dots: at most m pieces -/
theorem splitN_any (s : ByteArray) (m : Nat) (w : World) (hs : s.size ≤ 4000) (hm : 1 ≤ m) (hm2 : m ≤ 1000) :
    Calls Tryd.prog 40 #[.string s, .string ⟨#[46]⟩, .int .i64 m] w fun e w' =>
      ∃ R, RowOf (cutN s.data.toList (m - 1)) R ∧ e = .returned (.slice (some ⟨w.heap.size, 0, none⟩) (cutN s.data.toList (m - 1)).length (min m (s.size + 1))) ∧ w' = w.alloc (.cells R 9) := by
  have H := Lib.hid (genSplitN_any s m w hs hm hm2)
  go_enter Tryd.func40, Tryd.ntmps40
  go_wp2_with fail
  with_reducible refine H.out.mono ?_
  rintro e w' ⟨R, hR, rfl, rfl⟩
  have HR := Lib.hid hR
  clear hR
  go_wp2_with fail
  go_ret
  exact ⟨R, HR.out, rfl, rfl⟩
end Go.Proofs.YtkchgjakkogejaaDoor
