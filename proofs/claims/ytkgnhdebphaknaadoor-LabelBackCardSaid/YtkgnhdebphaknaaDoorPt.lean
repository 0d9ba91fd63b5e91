/- Texts behind a law of this seat, in order: Ascii. -/
import Derived.Test.YtkgnhdebphaknaaDoorPa
import Derived.Test.YtkgnhdebphaknaaDoorPb
import Derived.Test.YtkgnhdebphaknaaDoorPc
import Derived.Test.YtkgnhdebphaknaaDoorPn
import Derived.BigQuiet
import Derived.Deep.QuietTactic
import Derived.Handed
import Derived.Lib.Bytealg
import Derived.Lib.Hide
import Derived.Lib.Join
import Derived.Lib.Strings
import Derived.Shelf.Small.Strs
import Derived.Shelf.Small.Utf8
import Derived.Shelf.Small.Wraps
import Derived.Shelf.Strings.Prefix
import Derived.Shelf.Strings.Search1
import Derived.Shelf.Unicode.Decode
import Derived.Shelf.Unicode.DecodeAny
import Derived.Shelf.Unicode.DecodeSlow
import Derived.Shelf.Utf8.AppendRunePlain
import Derived.SizedLaws
import Derived.SliceStrings
import Derived.Test.YtkgnhdebphaknaaDoorProg
import Derived.WalkKit
import Derived.WalkLawsBesides
import Derived.WalkSpells
namespace Go.Proofs.YtkgnhdebphaknaaDoor
open Go.RowKit Go
set_option maxHeartbeats 400000 in
theorem small_any (c : Int) (w : World) (h0 : 0 ≤ c) (h1 : c ≤ 255) :
    Calls Tryd.prog 26 #[.int .u8 c] w fun e w' => e = .returned (.int .u8 (lowI c)) ∧ w = w' := by
  by_cases h : 65 ≤ c ∧ c ≤ 90
  · obtain ⟨ha, hb⟩ := h
    go_enter Tryd.func26, Tryd.ntmps26
    go_wp2
    go_ret
    exact ⟨ret_int (by simp [lowI, ha, hb]), rfl⟩
  · by_cases ha : 65 ≤ c
    · have hb : 90 < c := by omega
      go_enter Tryd.func26, Tryd.ntmps26
      go_wp2
      go_ret
      exact ⟨ret_int (by simp only [lowI]; rw [if_neg h]), rfl⟩
    · go_enter Tryd.func26, Tryd.ntmps26
      go_wp2
      go_ret
      exact ⟨ret_int (by simp only [lowI]; rw [if_neg h]), rfl⟩
def LowInv (s : ByteArray) (b k : Nat) (wr : World) : Prop :=
  b < wr.heap.size ∧ (∀ j (h : j < s.size), wr.cell? ⟨b, j, none⟩ = some (.int .u8 (if j < k then lowI s[j].toNat else s[j].toNat))) ∧ ∀ j, j < s.size → wr.frozen? ⟨b, j, none⟩ = false
theorem lowInv_start (s : ByteArray) (w : World) : LowInv s w.heap.size 0 ((w.alloc (.cells (bytesRow s (grownCap w s.size 0 5)) 5 ((bytesRow s (grownCap w s.size 0 5)).size, (bytesRow s (grownCap w s.size 0 5)).size + 1))).drew) := by
  have hz : s.size ≤ (bytesRow s (grownCap w s.size 0 5)).size := by simp [bytesRow]
  refine ⟨by simp, fun j hj => ?_, fun j hj => ?_⟩
  · show (w.alloc _).cell? _ = _
    rw [World.cell?_alloc_mark, bytesRow_at _ _ _ (by simpa using hj), if_neg (by omega)]
    rfl
  · show (w.alloc _).frozen? _ = _
    rw [World.frozen?_alloc_mark]
    simp; omega
theorem lowInv_step {s : ByteArray} {b k : Nat} {wr : World} (h : LowInv s b k wr) (hk : k < s.size) (v : Value) (hv : v = .int .u8 (lowI s[k].toNat)) : LowInv s b (k + 1) (wr.setCell ⟨b, k, none⟩ v) := by
  obtain ⟨h1, h2, h3⟩ := h
  refine ⟨by simpa using h1, fun j hj => ?_, fun j hj => ?_⟩
  · by_cases hjk : j = k
    · subst hjk
      rw [World.cell?_setCell_same _ _ _ (h2 j hj), if_pos (by omega), hv]
    · rw [World.cell?_setCell_other _ _ _ _ (fun e => by injection e with _ e2 _; exact hjk e2.symm), h2 j hj]
      by_cases hl : j < k
      · rw [if_pos hl, if_pos (by omega)]
      · rw [if_neg hl, if_neg (by omega)]
  · rw [World.frozen?_setCell]; exact h3 j hj
theorem lowInv_end {s : ByteArray} {b k cap : Nat} {wr : World} (h : LowInv s b k wr) (hk : s.size ≤ k) : (convert 33 9 (.slice (some ⟨b, 0, none⟩) s.size cap)).run Tryd.prog wr = .ok (.string ⟨(s.data.toList.map lowB).toArray⟩) wr := by
  have := run_convert_bytes_back (P := Tryd.prog) wr 33 9 5 ⟨b, 0, none⟩ cap (s.data.toList.map lowB) Tryd.underlying33 Tryd.underlying5 Tryd.underlying9 (fun j hj => by
    have hj' : j < s.size := by simpa using hj
    have e := h.2.1 j hj'
    rw [if_pos (by omega)] at e
    have ea : (⟨b, 0, none⟩ : Addr).add j = ⟨b, j, none⟩ := by unfold Addr.add; split <;> simp_all
    rw [ea, e, ← lowB_int]
    simp
    rfl)
  simpa using this
set_option maxHeartbeats 400000 in
theorem lower_any (s : ByteArray) (w : World) (hs : s.size ≤ 4000) :
    Calls Tryd.prog 15 #[.string s] w fun e w' => e = .returned (.string ⟨(s.data.toList.map lowB).toArray⟩) ∧ Below w.heap.size w w' := by
  have kb := run_bytes_of_string (P := Tryd.prog) w 9 33 5 s Tryd.underlying9 Tryd.underlying33 Tryd.underlying5
  have hst := lowInv_start s w
  obtain ⟨B, hB⟩ : ∃ B, B = w.heap.size := ⟨_, rfl⟩
  have HST := Lib.hid hst; clear hst
  go_enter Tryd.func15, Tryd.ntmps15
  go_wp2
  clear kb
  go_loopw [10] (fun i wr => ∃ k : Nat, k ≤ s.size ∧ i = .int .i64 k ∧ LowInv s w.heap.size k wr ∧ Below w.heap.size w wr) (fun i _ => s.size - (intOf i).toNat)
  case atStart => exact ⟨0, Nat.zero_le _, rfl, HST.out, ((Below.refl _ _).alloc (Nat.le_refl _) _).drew⟩
  case round =>
    obtain ⟨k, hk, rfl, HL, HB⟩ := hrel
    by_cases hlt : k < s.size
    · have hc := HL.2.1 k hlt
      rw [if_neg (by omega)] at hc
      have hf := HL.2.2 k hlt
      have hb : (s[k].toNat : Int) ≤ 255 := by have := s[k].toNat_lt; omega
      have hn := lowInv_step HL hlt _ rfl
      have HN := Lib.hid hn; clear hn
      go_wp2_with (go_at_call 26; refine (small_any _ _ (by omega) hb).mono ?_; rintro e w' ⟨rfl, rfl⟩)
      go_roundw
      case rel => exact ⟨k + 1, by omega, by go_num, HN.out, HB.setCell (Nat.le_refl _) _⟩
      case measure => simp [intOf]; omega
    · have hcv := fun cap => lowInv_end (cap := cap) HL (by omega)
      go_wp2
      go_ret
      exact ⟨rfl, HB⟩
end Go.Proofs.YtkgnhdebphaknaaDoor
