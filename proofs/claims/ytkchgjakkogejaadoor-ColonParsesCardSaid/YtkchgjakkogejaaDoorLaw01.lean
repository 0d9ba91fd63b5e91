import Derived.Test.YtkchgjakkogejaaDoorProg
import Derived.WalkKit
import Derived.WalkSpells
import Derived.WalkLawsBesides
import Derived.Lib.Hide
import Derived.Deep.QuietTactic
import Derived.BigQuiet
import Derived.Test.YtkchgjakkogejaaDoorMath01
import Derived.Test.YtkchgjakkogejaaDoorMem
import Derived.Test.YtkchgjakkogejaaDoorAscii
import Derived.OpenShut
namespace Go.Proofs.YtkchgjakkogejaaDoor
open Go.RowKit Go
def numR (l : List UInt8) (most : Int) : Int × Int := if digsB l = false then (0, 5) else if most < numL l then (0, 4) else (numL l, 0)
theorem numP_R {l : List UInt8} {most : Int} {e : Ending} (h : NumP l most e) : e = .returned (.tuple #[.int .i64 (numR l most).1, .int .i64 (numR l most).2]) := by
  unfold numR
  rcases h with ⟨h, he⟩ | ⟨h, h2, he⟩ | ⟨h, h2, he⟩
  · rw [if_pos h]; exact he
  · rw [if_neg (by simp [h]), if_pos h2]; exact he
  · rw [if_neg (by simp [h]), if_neg (by omega)]; exact he
theorem joinL_len (sep : List UInt8) (l : List (List UInt8)) : ∀ k, k ≤ l.length → (joinL sep (l.take k)).length ≤ lens (l.take k) + k * sep.length := by
  intro k
  induction k with
  | zero => intro _; simp [joinL_nil]
  | succ k ih =>
    intro h
    have h1 := ih (by omega)
    rw [joinL_take sep l k (by omega), lens_take l k (by omega), List.length_append, Nat.succ_mul]
    split
    · omega
    · rw [List.length_append]; omega
theorem cutK_free (x : List UInt8) (c : Int) (h : hasB c x = false) : cutK x c = x.length := by
  unfold cutK
  rw [List.findIdx_eq_length]
  intro y hy
  have := List.any_eq_false.1 h y hy
  simpa using this
theorem cut_last {x : List UInt8} {c : Int} {e : Ending} (h : CutP ⟨x.toArray⟩ c e) (hx : hasB c x = false) : e = .returned (.tuple #[.string ⟨x.toArray⟩, .string ⟨#[]⟩, .bool false]) := by
  have hk := cutK_free x c hx
  rcases h with ⟨h1, _⟩ | ⟨_, h2⟩
  · simp only [ByteArray.size] at h1
    rw [hk] at h1
    simp at h1
  · exact h2
theorem cut_more {x r : List UInt8} {b : UInt8} {c : Int} {e : Ending} (h : CutP ⟨(x ++ (b :: r)).toArray⟩ c e) (hx : hasB c x = false) (hb : (b.toNat : Int) = c) : e = .returned (.tuple #[.string ⟨x.toArray⟩, .string ⟨r.toArray⟩, .bool true]) := by
  have hk : cutK (x ++ b :: r) c = x.length := by
    have h1 := cutK_free x c hx
    unfold cutK at h1 ⊢
    rw [List.findIdx_append, h1]
    simp [List.findIdx_cons, hb]
  rcases h with ⟨_, h2⟩ | ⟨h1, _⟩
  · rw [h2]
    simp only [hk, CutHit]
    have e1 : (⟨(x ++ b :: r).toArray⟩ : ByteArray).extract 0 x.length = ⟨x.toArray⟩ := by rw [Lib.extract_eq]; simp
    have e2 : (⟨(x ++ b :: r).toArray⟩ : ByteArray).extract (x.length + 1) (⟨(x ++ b :: r).toArray⟩ : ByteArray).size = ⟨r.toArray⟩ := by
      rw [Lib.extract_eq, List.take_of_length_le (by simp [ByteArray.size]; omega)]
      simp [List.drop_append]
    rw [e1, e2]
  · simp only [ByteArray.size] at h1
    rw [hk] at h1
    simp at h1
    omega
theorem noteq_self (x : List UInt8) : (⟨x.toArray⟩ : ByteArray).size = x.length := by simp [ByteArray.size]
theorem conv_byte (c : Int) (hc0 : 0 ≤ c) (hc1 : c ≤ 255) (w : World) : (convert 47 9 (.slice (some ⟨w.heap.size, 0, none⟩) 1 1)).run Tryd.prog (w.alloc (.cells #[.int .u8 c] 5)) = .ok (.string ⟨#[UInt8.ofNat c.toNat]⟩) (w.alloc (.cells #[.int .u8 c] 5)) := by
  have := run_convert_bytes_back (P := Tryd.prog) (w.alloc (.cells #[.int .u8 c] 5)) 47 9 5 ⟨w.heap.size, 0, none⟩ 1 [UInt8.ofNat c.toNat] Tryd.underlying47 Tryd.underlying5 Tryd.underlying9 (fun j hj => by
    match j, hj with
    | 0, _ =>
      simp [Addr.add]
      omega)
  simpa using this
theorem joinL_cons2 (sep x y : List UInt8) (r : List (List UInt8)) : joinL sep (x :: y :: r) = x ++ (sep ++ joinL sep (y :: r)) := by
  unfold joinL
  rw [Lib.join_cons, Lib.join_cons]
  simp [Lib.joinTail]
theorem lens_cons (x : List UInt8) (r : List (List UInt8)) : lens (x :: r) = x.length + lens r := by simp [lens]
theorem joinL_drop_last (sep : List UInt8) (l : List (List UInt8)) (k : Nat) (h : k + 1 = l.length) : joinL sep (l.drop k) = l[k] := by
  rw [List.drop_eq_getElem_cons (by omega), List.drop_of_length_le (by omega), joinL_one]
theorem joinL_drop_more (sep : List UInt8) (l : List (List UInt8)) (k : Nat) (h : k + 1 < l.length) : joinL sep (l.drop k) = l[k] ++ (sep ++ joinL sep (l.drop (k + 1))) := by
  rw [List.drop_eq_getElem_cons (by omega)]
  have hne : l.drop (k + 1) = l[k + 1] :: l.drop (k + 2) := List.drop_eq_getElem_cons (by omega)
  rw [hne, joinL_cons2]
theorem joinL_drop_le (sep : List UInt8) (l : List (List UInt8)) : ∀ d k, k + d = l.length → (joinL sep (l.drop k)).length ≤ lens (l.drop k) + d * sep.length := by
  intro d
  induction d with
  | zero => intro k h; rw [List.drop_of_length_le (by omega)]; simp [joinL_nil]
  | succ d ih =>
    intro k h
    have h1 := ih (k + 1) (by omega)
    have h2 : lens (l.drop k) = (l[k]'(by omega)).length + lens (l.drop (k + 1)) := by
      rw [List.drop_eq_getElem_cons (by omega), lens_cons]
    rw [h2, Nat.succ_mul]
    by_cases hl : k + 1 = l.length
    · rw [joinL_drop_last sep l k hl]; omega
    · rw [joinL_drop_more sep l k (by omega), List.length_append, List.length_append]; omega
theorem lens_drop_le (l : List (List UInt8)) (k : Nat) : lens (l.drop k) ≤ lens l := by
  have : lens l = lens (l.take k) + lens (l.drop k) := by
    unfold lens; rw [← List.sum_append, ← List.map_append, List.take_append_drop]
  omega
end Go.Proofs.YtkchgjakkogejaaDoor
