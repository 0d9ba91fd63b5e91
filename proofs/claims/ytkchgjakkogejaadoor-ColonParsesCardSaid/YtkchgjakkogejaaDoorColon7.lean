/- Layer 8: cut at colons; colon.half. -/
import Derived.Test.YtkchgjakkogejaaDoorColon6
import Derived.Test.YtkchgjakkogejaaDoorQuad3
namespace Go.Proofs.YtkchgjakkogejaaDoor
open Go.RowKit Go
set_option linter.unusedVariables false
set_option maxRecDepth 100000
theorem colIndex_any (x : ByteArray) (w : World) : Calls Tryd.prog 64 #[.string x, .string ⟨#[58]⟩] w fun e w' => e = .returned (.int .i64 (Lib.indexB x ⟨#[58]⟩)) ∧ w' = w := by
  refine (Tryd.strings_Index_one x 58 w).mono ?_
  rintro e w' ⟨rfl, rfl⟩
  refine ⟨?_, rfl⟩
  rw [← Lib.index_one]
theorem colCount_any (x : ByteArray) (w : World) : Calls Tryd.prog 63 #[.string x, .string ⟨#[58]⟩] w fun e w' => e = .returned (.int .i64 (Lib.countB x ⟨#[58]⟩)) ∧ w' = w := by
  refine (Tryd.strings_Count_one x 58 w).mono ?_
  rintro e w' ⟨rfl, rfl⟩
  refine ⟨?_, rfl⟩
  unfold Lib.countByte
  rw [← Lib.count_one]
theorem cutX_min (l : List UInt8) (m : Nat) (hm : 1 ≤ m) : cutXN 58 l (min m (l.length + 1) - 1) = cutXN 58 l (m - 1) := by
  by_cases h : m - 1 ≤ l.length
  · rw [show min m (l.length + 1) - 1 = m - 1 by omega]
  · rw [show min m (l.length + 1) - 1 = l.length by omega, cutXN_big 58 l l.length (m - 1 - l.length) (Nat.le_refl _), show l.length + (m - 1 - l.length) = m - 1 by omega]
theorem genSplitC_any (s : ByteArray) (m : Nat) (w : World) (hs : s.size ≤ 4000) (hm : 1 ≤ m) (hm2 : m ≤ 1000) :
    Calls Tryd.prog 51 #[.string s, .string ⟨#[58]⟩, .int .i64 0, .int .i64 m] w fun e w' =>
      ∃ R, RowOf (cutXN 58 s.data.toList (m - 1)) R ∧ e = .returned (.slice (some ⟨w.heap.size, 0, none⟩) (cutXN 58 s.data.toList (m - 1)).length (min m (s.size + 1))) ∧ w' = w.alloc (.cells R 9) := by
  have c := Any.strings_genSplit_core { Tryd.lays221 with } hi9N s ⟨#[58]⟩ 0 (m : Nat) (min m (s.size + 1)) w (by omega) (by decide) (Nat.zero_le _)
    (fun x c _ => colIndex_any x _) (colCount_any s w) (by omega) (by omega) (by rw [if_neg (by omega)]; omega)
  have e1 : (Lib.splitB ⟨#[58]⟩ 0 (min m (s.size + 1) - 1) s).map (·.data.toList) = cutXN 58 s.data.toList (m - 1) := by
    rw [Lib.splitB_data]
    show Lib.splitK [58] 0 _ _ = _
    rw [split_cutXN, Lib.size_eq, cutX_min _ _ hm]
  have e2 : (Lib.splitB ⟨#[58]⟩ 0 (min m (s.size + 1) - 1) s).length = (cutXN 58 s.data.toList (m - 1)).length := by rw [← e1, List.length_map]
  have r := rowOf_cells (Lib.splitB ⟨#[58]⟩ 0 (min m (s.size + 1) - 1) s) (min m (s.size + 1))
  rw [e1] at r
  rw [e2] at c
  exact c.mono fun e w' ⟨h1, h2⟩ => ⟨_, r, h1, h2⟩
theorem splitC_any (s : ByteArray) (m : Nat) (w : World) (hs : s.size ≤ 4000) (hm : 1 ≤ m) (hm2 : m ≤ 1000) :
    Calls Tryd.prog 40 #[.string s, .string ⟨#[58]⟩, .int .i64 m] w fun e w' =>
      ∃ R, RowOf (cutXN 58 s.data.toList (m - 1)) R ∧ e = .returned (.slice (some ⟨w.heap.size, 0, none⟩) (cutXN 58 s.data.toList (m - 1)).length (min m (s.size + 1))) ∧ w' = w.alloc (.cells R 9) := by
  have H := Lib.hid (genSplitC_any s m w hs hm hm2)
  go_enter Tryd.func40, Tryd.ntmps40
  go_wp2_with fail
  with_reducible refine H.out.mono ?_
  rintro e w' ⟨R, hR, rfl, rfl⟩
  have HR := Lib.hid hR
  clear hR
  go_wp2_with fail
  go_ret
  exact ⟨R, HR.out, rfl, rfl⟩
theorem groupY_any (p : List UInt8) (n : Nat) (w : World) (hs : p.length ≤ 4000) (h : groupE p = some n) :
    Calls Tryd.prog 41 #[.string ⟨p.toArray⟩] w fun e w' => (∃ A c, e = .returned (.tuple #[.slice A 2 c, .bool true]) ∧ IntsAt w' .u8 A 2 (bInts [byN n 8, byN n 0])) ∧ Below w.heap.size w w' := by
  refine (group_any ⟨p.toArray⟩ w (by show p.length ≤ 4000; exact hs)).mono ?_
  rintro e w' ⟨h1, h2⟩
  have e0 : (⟨p.toArray⟩ : ByteArray).data.toList = p := rfl
  rw [e0] at h1
  rcases h1 with ⟨hn, _⟩ | ⟨m, A, c, hm, he, hi⟩
  · rw [h] at hn; cases hn
  · rw [h] at hm
    injection hm with hm
    subst hm
    exact ⟨⟨A, c, he, hi⟩, h2⟩
theorem groupN_any (p : List UInt8) (w : World) (hs : p.length ≤ 4000) (h : groupE p = none) :
    Calls Tryd.prog 41 #[.string ⟨p.toArray⟩] w fun e w' => e = .returned (.tuple #[.slice none 0 0, .bool false]) ∧ Below w.heap.size w w' := by
  refine (group_any ⟨p.toArray⟩ w (by show p.length ≤ 4000; exact hs)).mono ?_
  rintro e w' ⟨h1, h2⟩
  have e0 : (⟨p.toArray⟩ : ByteArray).data.toList = p := rfl
  rw [e0] at h1
  rcases h1 with ⟨_, he⟩ | ⟨m, A, c, hm, _, _⟩
  · exact ⟨he, h2⟩
  · rw [h] at hm; cases hm
theorem fourY_any (p b : List UInt8) (w : World) (hs : p.length ≤ 4000) (hP : P10 w) (h : fourE p = some b) :
    Calls Tryd.prog 42 #[.string ⟨p.toArray⟩] w fun e w' => (∃ A, e = .returned (.tuple #[.slice A 4 16, .bool true]) ∧ IntsAt w' .u8 A 4 (bInts b)) ∧ Below w.heap.size w w' := by
  refine (four_any ⟨p.toArray⟩ w (by show p.length ≤ 4000; exact hs) hP).mono ?_
  rintro e w' ⟨⟨A, h1, hi⟩, h2⟩
  have e0 : (⟨p.toArray⟩ : ByteArray).data.toList = p := rfl
  rw [e0] at h1 hi
  unfold fourE at h
  split at h
  · rename_i he
    injection h with h
    rw [h] at hi
    rw [he] at h1
    exact ⟨⟨A, h1, hi⟩, h2⟩
  · cases h
theorem fourN_any (p : List UInt8) (w : World) (hs : p.length ≤ 4000) (hP : P10 w) (h : fourE p = none) :
    Calls Tryd.prog 42 #[.string ⟨p.toArray⟩] w fun e w' => (∃ A, e = .returned (.tuple #[.slice A 4 16, .bool false])) ∧ Below w.heap.size w w' := by
  refine (four_any ⟨p.toArray⟩ w (by show p.length ≤ 4000; exact hs) hP).mono ?_
  rintro e w' ⟨⟨A, h1, hi⟩, h2⟩
  have e0 : (⟨p.toArray⟩ : ByteArray).data.toList = p := rfl
  rw [e0] at h1
  unfold fourE at h
  split at h
  · cases h
  · rename_i he
    rw [decide_eq_false he] at h1
    exact ⟨⟨A, h1⟩, h2⟩
theorem grp2_bytes (b : List UInt8) (h : b.length = 4) : bytesG (grp2 b) = b := by
  match b, h with
  | [a, c, d, e], _ => simp [grp2, bytesG, byN_hi, byN_lo]
theorem four_len {p b : List UInt8} (h : fourE p = some b) : b.length = 4 := by
  unfold fourE at h
  split at h
  · injection h with h
    rw [← h, List.length_take, parseE_len]
    rfl
  · cases h
def HalfY (m : List Nat) (B : Nat) (w : World) (e : Ending) (w' : World) : Prop := (∃ A c, e = .returned (.tuple #[.slice A (2 * m.length) c, .bool true]) ∧ IntsAt w' .u8 A (2 * m.length) (bInts (bytesG m)) ∧ m.length ≤ 20) ∧ Below B w w'
def HalfP (last : Bool) (l : List UInt8) (w : World) (e : Ending) (w' : World) : Prop :=
  (sideC last l = none ∧ e = .returned (.tuple #[.slice none 0 0, .bool false]) ∧ Below w.heap.size w w') ∨ (∃ m, sideC last l = some m ∧ HalfY m w.heap.size w e w')
theorem own_bytes {w : World} {B e n k : Nat} {v : Value} {acc more : List Nat} {bs : List UInt8} (h : w.ownsRow B e 1 v (2 * acc.length + k) (intVs .u8 (bInts (bytesG acc)) ++ intVs .u8 (bInts bs))) (hb : bytesG more = bs) (hn : n = 2 * (acc ++ more).length) (hk : k = bs.length) :
    w.ownsRow B e 1 v n (intVs .u8 (bInts (bytesG (acc ++ more)))) := by
  have hl := bytesG_len more
  rw [hb] at hl
  rw [hn, bytesG_app, hb, List.length_append, Nat.mul_add]
  rw [hk, hl] at h
  simpa [bInts, intVs] using h
theorem sideP_go {last : Bool} {p : List UInt8} {r : List (List UInt8)} {n : Nat} (h : groupE p = some n) : sideP last (p :: r) = (sideP last r).map (n :: ·) := by rw [sideP, h]
theorem sideP_four {p b : List UInt8} (h : groupE p = none) (hb : fourE p = some b) : sideP true [p] = some (grp2 b) := by rw [sideP, h]; simp [hb]
theorem sideP_no {last : Bool} {p : List UInt8} {r : List (List UInt8)} (h : groupE p = none) (hc : ¬ (last = true ∧ r = []) ∨ fourE p = none) : sideP last (p :: r) = none := by
  rw [sideP, h]
  simp only
  rcases hc with hc | hc
  · rw [if_neg hc]
  · rw [hc]; split <;> rfl
end Go.Proofs.YtkchgjakkogejaaDoor
