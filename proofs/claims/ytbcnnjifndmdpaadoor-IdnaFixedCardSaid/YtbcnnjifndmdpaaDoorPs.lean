/- Texts behind a law of this seat, in order: Ascii. -/
import Derived.Test.YtbcnnjifndmdpaaDoorPa
import Derived.Test.YtbcnnjifndmdpaaDoorPb
import Derived.Test.YtbcnnjifndmdpaaDoorPe
import Derived.Test.YtbcnnjifndmdpaaDoorPp
import Derived.BigQuiet
import Derived.Deep.QuietTactic
import Derived.Handed
import Derived.Lib.Bytealg
import Derived.Lib.Hide
import Derived.Lib.Join
import Derived.Lib.Strings
import Derived.Shelf.LaysM
import Derived.Shelf.Small.Strs
import Derived.Shelf.Small.Utf8
import Derived.Shelf.Small.Wraps
import Derived.Shelf.Strings.Builder1
import Derived.Shelf.Strings.Builder2
import Derived.Shelf.Strings.Builder2Cap
import Derived.Shelf.Strings.BuilderCap
import Derived.Shelf.Strings.BuilderF
import Derived.Shelf.Strings.BuilderK
import Derived.Shelf.Strings.BuilderRune
import Derived.Shelf.Strings.Count
import Derived.Shelf.Strings.MapAny
import Derived.Shelf.Strings.OnBuilder
import Derived.Shelf.Strings.Prefix
import Derived.Shelf.Strings.Search1
import Derived.Shelf.Strings.Search2
import Derived.Shelf.Strings.Search3
import Derived.Shelf.Strings.Shaped
import Derived.Shelf.Strings.Split
import Derived.Shelf.Strings.SplitShaped
import Derived.Shelf.Unicode.Decode
import Derived.Shelf.Unicode.DecodeAny
import Derived.Shelf.Unicode.DecodeSlow
import Derived.Shelf.Utf8.AppendRunePlain
import Derived.SizedLaws
import Derived.SliceStrings
import Derived.Test.YtbcnnjifndmdpaaDoorProg
import Derived.WalkKit
import Derived.WalkLawsBesides
import Derived.WalkSpells
namespace Go.Proofs.YtbcnnjifndmdpaaDoor
open Go.RowKit Go
set_option maxHeartbeats 400000 in
theorem small_any (c : Int) (w : World) (h0 : 0 ≤ c) (h1 : c ≤ 255) :
    Calls Tryd.prog 52 #[.int .u8 c] w fun e w' => e = .returned (.int .u8 (lowI c)) ∧ w = w' := by
  by_cases h : 65 ≤ c ∧ c ≤ 90
  · obtain ⟨ha, hb⟩ := h
    go_enter Tryd.func52, Tryd.ntmps52
    go_wp2
    go_ret
    exact ⟨ret_int (by simp [lowI, ha, hb]), rfl⟩
  · by_cases ha : 65 ≤ c
    · have hb : 90 < c := by omega
      go_enter Tryd.func52, Tryd.ntmps52
      go_wp2
      go_ret
      exact ⟨ret_int (by simp only [lowI]; rw [if_neg h]), rfl⟩
    · go_enter Tryd.func52, Tryd.ntmps52
      go_wp2
      go_ret
      exact ⟨ret_int (by simp only [lowI]; rw [if_neg h]), rfl⟩
set_option maxHeartbeats 400000 in
theorem digits_any (s : ByteArray) (w : World) (hs : s.size ≤ 4000) :
    Calls Tryd.prog 71 #[.string s] w fun e w' => e = .returned (.bool (digsB s.data.toList)) ∧ w = w' := by
  go_enter Tryd.func71, Tryd.ntmps71
  go_wp2
  go_loop [6] (fun i => ∃ k : Nat, k ≤ s.size ∧ i = .int .i64 k ∧ (s.data.toList.take k).all digB = true) (fun i => s.size - (intOf i).toNat)
  case atStart => exact ⟨0, Nat.zero_le _, rfl, rfl⟩
  case round =>
    obtain ⟨k, hk, rfl, hall⟩ := hrel
    have HA := Lib.hid hall; clear hall
    by_cases hlt : k < s.size
    · by_cases h1 : s[k].toNat < 48
      · go_wp2
        go_ret
        exact ⟨ret_bool (digs_bad s k hlt (by omega)).symm, rfl⟩
      · by_cases h2 : s[k].toNat ≤ 57
        · go_wp2
          go_round
          case rel => exact ⟨k + 1, by omega, by go_num, digs_step s k hlt HA.out (by omega) (by omega)⟩
          case measure => simp [intOf]; omega
        · go_wp2
          go_ret
          exact ⟨ret_bool (digs_bad s k hlt (by omega)).symm, rfl⟩
    · go_wp2
      go_ret
      exact ⟨ret_bool (by rw [ByteArray.toList_eq, digs_end s (by rw [← show k = s.size by omega]; exact HA.out)]), rfl⟩
set_option maxHeartbeats 400000 in
theorem number_any (s : ByteArray) (most : Int) (w : World) (hs : s.size ≤ 4000) (hm0 : -9223372036854775808 ≤ most) (hm1 : most ≤ 9223372036854775807) :
    Calls Tryd.prog 56 #[.string s, .int .i64 most] w fun e w' => NumP s.data.toList most e ∧ w = w' := by
  by_cases hd : digsB s.data.toList = true
  · have HD := Lib.hid hd
    go_enter Tryd.func56, Tryd.ntmps56
    go_wp2_with (go_at_call 71; refine (digits_any _ _ hs).mono ?_; rintro e w' ⟨rfl, rfl⟩)
    go_loop [6, 14] (fun n i => ∃ k : Nat, k ≤ s.size ∧ i = .int .i64 k ∧ n = .int .i64 (numL (s.data.toList.take k)) ∧ (k = 0 ∨ (numL (s.data.toList.take k) : Int) ≤ most)) (fun _ i => s.size - (intOf i).toNat)
    case atStart => exact ⟨0, Nat.zero_le _, rfl, rfl, .inl rfl⟩
    case round =>
      obtain ⟨k, hk, rfl, rfl, hle⟩ := hrel
      by_cases hlt : k < s.size
      · have hc := digs_at s k hlt HD.out
        have hst := numL_step s k hlt
        have HS := Lib.hid hst; clear hst
        obtain ⟨hc1, hc2⟩ := hc
        by_cases h1 : most < (s[k].toNat : Int) - 48
        · go_wp2
          go_ret2
          exact ⟨numP_over s k most hlt HD.out HS.out (by omega), rfl⟩
        · by_cases h2 : (most - ((s[k].toNat : Int) - 48)) / 10 < (numL (s.data.toList.take k) : Int)
          · go_wp2
            go_ret2
            exact ⟨numP_over s k most hlt HD.out HS.out (by omega), rfl⟩
          · go_wp2
            go_round
            case rel => exact ⟨k + 1, by omega, by go_num, ret_v (by rw [HS.out]; omega), .inr (by rw [HS.out]; omega)⟩
            case measure => simp [intOf]; omega
      · go_wp2
        go_ret2
        exact ⟨numP_end s k most (by omega) HD.out hle, rfl⟩
  · have hd' : digsB s.data.toList = false := by simpa using hd
    clear hd
    go_enter Tryd.func56, Tryd.ntmps56
    go_wp2_with (go_at_call 71; refine (digits_any _ _ hs).mono ?_; rintro e w' ⟨rfl, rfl⟩)
    go_ret2
    exact ⟨.inl ⟨hd', rfl⟩, rfl⟩
def LowInv (s : ByteArray) (b k : Nat) (wr : World) : Prop :=
  b < wr.heap.size ∧ (∀ j (h : j < s.size), wr.cell? ⟨b, j, none⟩ = some (.int .u8 (if j < k then lowI s[j].toNat else s[j].toNat))) ∧ ∀ j, j < s.size → wr.frozen? ⟨b, j, none⟩ = false
theorem lowInv_start (s : ByteArray) (w : World) : LowInv s w.heap.size 0 ((w.alloc (.cells (bytesRow s (grownCap w s.size 0 5)) 5 ((bytesRow s (grownCap w s.size 0 5)).size, (bytesRow s (grownCap w s.size 0 5)).size + 1))).drew) := by
  have hz : s.size ≤ (bytesRow s (grownCap w s.size 0 5)).size := by simp [bytesRow]
  refine ⟨by simp, fun j hj => ?_, fun j hj => ?_⟩
  · show (w.alloc _).cell? _ = _
    rw [World.cell?_alloc_mark, bytesRow_at _ _ _ (by simpa using hj), if_neg (by omega)]
    rfl
  · show (w.alloc _).frozen? _ = _
    rw [World.frozen?_alloc_mark]
    simp; omega
theorem lowInv_step {s : ByteArray} {b k : Nat} {wr : World} (h : LowInv s b k wr) (hk : k < s.size) (v : Value) (hv : v = .int .u8 (lowI s[k].toNat)) : LowInv s b (k + 1) (wr.setCell ⟨b, k, none⟩ v) := by
  obtain ⟨h1, h2, h3⟩ := h
  refine ⟨by simpa using h1, fun j hj => ?_, fun j hj => ?_⟩
  · by_cases hjk : j = k
    · subst hjk
      rw [World.cell?_setCell_same _ _ _ (h2 j hj), if_pos (by omega), hv]
    · rw [World.cell?_setCell_other _ _ _ _ (fun e => by injection e with _ e2 _; exact hjk e2.symm), h2 j hj]
      by_cases hl : j < k
      · rw [if_pos hl, if_pos (by omega)]
      · rw [if_neg hl, if_neg (by omega)]
  · rw [World.frozen?_setCell]; exact h3 j hj
theorem lowInv_end {s : ByteArray} {b k cap : Nat} {wr : World} (h : LowInv s b k wr) (hk : s.size ≤ k) : (convert 51 9 (.slice (some ⟨b, 0, none⟩) s.size cap)).run Tryd.prog wr = .ok (.string ⟨(s.data.toList.map lowB).toArray⟩) wr := by
  have := run_convert_bytes_back (P := Tryd.prog) wr 51 9 5 ⟨b, 0, none⟩ cap (s.data.toList.map lowB) Tryd.underlying51 Tryd.underlying5 Tryd.underlying9 (fun j hj => by
    have hj' : j < s.size := by simpa using hj
    have e := h.2.1 j hj'
    rw [if_pos (by omega)] at e
    have ea : (⟨b, 0, none⟩ : Addr).add j = ⟨b, j, none⟩ := by unfold Addr.add; split <;> simp_all
    rw [ea, e, ← lowB_int]
    simp
    rfl)
  simpa using this
set_option maxHeartbeats 400000 in
theorem lower_any (s : ByteArray) (w : World) (hs : s.size ≤ 4000) :
    Calls Tryd.prog 36 #[.string s] w fun e w' => e = .returned (.string ⟨(s.data.toList.map lowB).toArray⟩) ∧ Below w.heap.size w w' := by
  have kb := run_bytes_of_string (P := Tryd.prog) w 9 51 5 s Tryd.underlying9 Tryd.underlying51 Tryd.underlying5
  have hst := lowInv_start s w
  obtain ⟨B, hB⟩ : ∃ B, B = w.heap.size := ⟨_, rfl⟩
  have HST := Lib.hid hst; clear hst
  go_enter Tryd.func36, Tryd.ntmps36
  go_wp2
  clear kb
  go_loopw [10] (fun i wr => ∃ k : Nat, k ≤ s.size ∧ i = .int .i64 k ∧ LowInv s w.heap.size k wr ∧ Below w.heap.size w wr) (fun i _ => s.size - (intOf i).toNat)
  case atStart => exact ⟨0, Nat.zero_le _, rfl, HST.out, ((Below.refl _ _).alloc (Nat.le_refl _) _).drew⟩
  case round =>
    obtain ⟨k, hk, rfl, HL, HB⟩ := hrel
    by_cases hlt : k < s.size
    · have hc := HL.2.1 k hlt
      rw [if_neg (by omega)] at hc
      have hf := HL.2.2 k hlt
      have hb : (s[k].toNat : Int) ≤ 255 := by have := s[k].toNat_lt; omega
      have hn := lowInv_step HL hlt _ rfl
      have HN := Lib.hid hn; clear hn
      go_wp2_with (go_at_call 52; refine (small_any _ _ (by omega) hb).mono ?_; rintro e w' ⟨rfl, rfl⟩)
      go_roundw
      case rel => exact ⟨k + 1, by omega, by go_num, HN.out, HB.setCell (Nat.le_refl _) _⟩
      case measure => simp [intOf]; omega
    · have hcv := fun cap => lowInv_end (cap := cap) HL (by omega)
      go_wp2
      go_ret
      exact ⟨rfl, HB⟩
theorem elem9 : Elem1 Tryd.prog 9 (.string ByteArray.empty) 16 := by unfold Elem1; kernel_rfl
def joinL (sep : List UInt8) (l : List (List UInt8)) : List UInt8 := Lib.join l sep
set_option maxHeartbeats 1000000 in
theorem join_any (sep : ByteArray) (A : Option Addr) (n c : Nat) (l : List (List UInt8)) (w : World) (hl : TextsAt w A n l) (hn : n ≤ 4000) (hc : n ≤ c) (hlen : (joinL sep.data.toList l).length ≤ 100000000) :
    Calls Tryd.prog 15 #[.string sep, .slice A n c] w fun e w' => e = .returned (.string ⟨(joinL sep.data.toList l).toArray⟩) ∧ Below w.heap.size w w' := by
  rcases Nat.eq_zero_or_pos n with h0 | h0
  · subst h0
    have : l = [] := List.length_eq_zero_iff.1 hl.1.symm
    subst this
    go_enter Tryd.func15, Tryd.ntmps15
    go_wp2_with fail
    refine (Tryd.strings_Join_none _ _ _ _).mono ?_
    rintro e w' ⟨rfl, rfl⟩
    go_wp2_with fail
    go_ret
    exact ⟨rfl, Below.refl _ _⟩
  · obtain ⟨b, o, rfl, hb, hcell⟩ := hl.2 h0
    have hxs : (l.map fun x => (⟨x.toArray⟩ : ByteArray)).map (·.data.toList) = l := by simp [List.map_map, Function.comp_def]
    have hln : (l.map fun x => (⟨x.toArray⟩ : ByteArray)).length = n := by simp [hl.1]
    have hj := Tryd.strings_Join b o c (l.map fun x => (⟨x.toArray⟩ : ByteArray)) sep w (fun j x hx => by
      simp only [List.getElem?_map, Option.map_eq_some_iff] at hx
      obtain ⟨y, hy, rfl⟩ := hx
      obtain ⟨hjl, rfl⟩ := List.getElem?_eq_some_iff.1 hy
      exact hcell j hjl) hb (by omega) (by omega) (by rw [hxs]; exact Nat.le_trans hlen (by decide))
    rw [hxs, hln] at hj
    have HJ := Lib.hid hj
    clear hj hxs hln hcell
    go_enter Tryd.func15, Tryd.ntmps15
    go_wp2_with fail
    refine HJ.out.mono ?_
    rintro e w' ⟨rfl, hb'⟩
    go_wp2_with fail
    go_ret
    exact ⟨rfl, hb'⟩
end Go.Proofs.YtbcnnjifndmdpaaDoor
