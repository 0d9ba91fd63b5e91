/- Texts behind a law of this seat, in order: Ascii. -/
import Derived.Test.YthbdeafbdmbabaaDoorPa
import Derived.Test.YthbdeafbdmbabaaDoorPb
import Derived.Test.YthbdeafbdmbabaaDoorPd
import Derived.BigQuiet
import Derived.Deep.QuietTactic
import Derived.Handed
import Derived.Lib.Bytealg
import Derived.Lib.Hide
import Derived.Lib.Join
import Derived.Lib.Strings
import Derived.Shelf.LaysM
import Derived.Shelf.Small.Bits
import Derived.Shelf.Small.Strs
import Derived.Shelf.Strconv.Itoa0
import Derived.Shelf.Strconv.Itoa1
import Derived.Shelf.Strconv.Itoa2
import Derived.Shelf.Strconv.Itoa3
import Derived.Shelf.Strings.Builder1
import Derived.Shelf.Strings.Builder2
import Derived.Shelf.Strings.Builder2Cap
import Derived.Shelf.Strings.BuilderCap
import Derived.Shelf.Strings.BuilderF
import Derived.Shelf.Strings.BuilderK
import Derived.Shelf.Strings.Count
import Derived.Shelf.Strings.Cut
import Derived.Shelf.Strings.Explode
import Derived.Shelf.Strings.OnBuilder
import Derived.Shelf.Strings.Prefix
import Derived.Shelf.Strings.RuneCount
import Derived.Shelf.Strings.Search1
import Derived.Shelf.Strings.Search2
import Derived.Shelf.Strings.Search3
import Derived.Shelf.Strings.Shaped
import Derived.Shelf.Strings.Split
import Derived.Shelf.Strings.SplitShaped
import Derived.Shelf.Unicode.Decode
import Derived.Shelf.Unicode.DecodeAny
import Derived.Shelf.Unicode.DecodeSlow
import Derived.Shelf.Utf8.RuneCount
import Derived.SizedLaws
import Derived.SliceStrings
import Derived.Test.YthbdeafbdmbabaaDoorProg
import Derived.WalkKit
import Derived.WalkLawsBesides
import Derived.WalkSpells
namespace Go.Proofs.YthbdeafbdmbabaaDoor
open Go.RowKit Go
set_option maxHeartbeats 400000 in
theorem digits_any (s : ByteArray) (w : World) (hs : s.size ≤ 4000) :
    Calls Tryd.prog 43 #[.string s] w fun e w' => e = .returned (.bool (digsB s.data.toList)) ∧ w = w' := by
  go_enter Tryd.func43, Tryd.ntmps43
  go_wp2
  go_loop [6] (fun i => ∃ k : Nat, k ≤ s.size ∧ i = .int .i64 k ∧ (s.data.toList.take k).all digB = true) (fun i => s.size - (intOf i).toNat)
  case atStart => exact ⟨0, Nat.zero_le _, rfl, rfl⟩
  case round =>
    obtain ⟨k, hk, rfl, hall⟩ := hrel
    have HA := Lib.hid hall; clear hall
    by_cases hlt : k < s.size
    · by_cases h1 : s[k].toNat < 48
      · go_wp2
        go_ret
        exact ⟨ret_bool (digs_bad s k hlt (by omega)).symm, rfl⟩
      · by_cases h2 : s[k].toNat ≤ 57
        · go_wp2
          go_round
          case rel => exact ⟨k + 1, by omega, by go_num, digs_step s k hlt HA.out (by omega) (by omega)⟩
          case measure => simp [intOf]; omega
        · go_wp2
          go_ret
          exact ⟨ret_bool (digs_bad s k hlt (by omega)).symm, rfl⟩
    · go_wp2
      go_ret
      exact ⟨ret_bool (by rw [ByteArray.toList_eq, digs_end s (by rw [← show k = s.size by omega]; exact HA.out)]), rfl⟩
set_option maxHeartbeats 400000 in
theorem number_any (s : ByteArray) (most : Int) (w : World) (hs : s.size ≤ 4000) (hm0 : -9223372036854775808 ≤ most) (hm1 : most ≤ 9223372036854775807) :
    Calls Tryd.prog 29 #[.string s, .int .i64 most] w fun e w' => NumP s.data.toList most e ∧ w = w' := by
  by_cases hd : digsB s.data.toList = true
  · have HD := Lib.hid hd
    go_enter Tryd.func29, Tryd.ntmps29
    go_wp2_with (go_at_call 43; refine (digits_any _ _ hs).mono ?_; rintro e w' ⟨rfl, rfl⟩)
    go_loop [6, 14] (fun n i => ∃ k : Nat, k ≤ s.size ∧ i = .int .i64 k ∧ n = .int .i64 (numL (s.data.toList.take k)) ∧ (k = 0 ∨ (numL (s.data.toList.take k) : Int) ≤ most)) (fun _ i => s.size - (intOf i).toNat)
    case atStart => exact ⟨0, Nat.zero_le _, rfl, rfl, .inl rfl⟩
    case round =>
      obtain ⟨k, hk, rfl, rfl, hle⟩ := hrel
      by_cases hlt : k < s.size
      · have hc := digs_at s k hlt HD.out
        have hst := numL_step s k hlt
        have HS := Lib.hid hst; clear hst
        obtain ⟨hc1, hc2⟩ := hc
        by_cases h1 : most < (s[k].toNat : Int) - 48
        · go_wp2
          go_ret2
          exact ⟨numP_over s k most hlt HD.out HS.out (by omega), rfl⟩
        · by_cases h2 : (most - ((s[k].toNat : Int) - 48)) / 10 < (numL (s.data.toList.take k) : Int)
          · go_wp2
            go_ret2
            exact ⟨numP_over s k most hlt HD.out HS.out (by omega), rfl⟩
          · go_wp2
            go_round
            case rel => exact ⟨k + 1, by omega, by go_num, ret_v (by rw [HS.out]; omega), .inr (by rw [HS.out]; omega)⟩
            case measure => simp [intOf]; omega
      · go_wp2
        go_ret2
        exact ⟨numP_end s k most (by omega) HD.out hle, rfl⟩
  · have hd' : digsB s.data.toList = false := by simpa using hd
    clear hd
    go_enter Tryd.func29, Tryd.ntmps29
    go_wp2_with (go_at_call 43; refine (digits_any _ _ hs).mono ?_; rintro e w' ⟨rfl, rfl⟩)
    go_ret2
    exact ⟨.inl ⟨hd', rfl⟩, rfl⟩
set_option maxHeartbeats 1000000 in
theorem hex_any (c : Int) (w : World) (h0 : 0 ≤ c) (h1 : c ≤ 255) :
    Calls Tryd.prog 75 #[.int .u8 c] w fun e w' => e = .returned (.tuple #[.int .i64 (hexV c), .bool (hexB c)]) ∧ w = w' := by
  by_cases ha : 48 ≤ c ∧ c ≤ 57
  · obtain ⟨ha1, ha2⟩ := ha
    have e1 : hexV c = c - 48 := by simp [hexV, ha1, ha2]
    have e2 : hexB c = true := by simp [hexB, ha1, ha2]
    rw [e1, e2]
    clear e1 e2
    go_enter Tryd.func75, Tryd.ntmps75
    go_wp2
    go_ret2
    exact ⟨rfl, rfl⟩
  by_cases hb : 97 ≤ c ∧ c ≤ 102
  · obtain ⟨hb1, hb2⟩ := hb
    have e1 : hexV c = c - 87 := by simp only [hexV]; rw [if_neg ha, if_pos ⟨hb1, hb2⟩]
    have e2 : hexB c = true := by simp [hexB, hb1, hb2]
    have ha' : 57 < c := by omega
    rw [e1, e2]
    clear e1 e2 ha
    go_enter Tryd.func75, Tryd.ntmps75
    go_wp2
    go_ret2
    exact ⟨ret_hex (by omega) rfl, rfl⟩
  by_cases hc : 65 ≤ c ∧ c ≤ 70
  · obtain ⟨hc1, hc2⟩ := hc
    have e1 : hexV c = c - 55 := by simp only [hexV]; rw [if_neg ha, if_neg hb, if_pos ⟨hc1, hc2⟩]
    have e2 : hexB c = true := by simp [hexB, hc1, hc2]
    have ha' : 57 < c := by omega
    have hb' : c < 97 := by omega
    rw [e1, e2]
    clear e1 e2 ha hb
    go_enter Tryd.func75, Tryd.ntmps75
    go_wp2
    go_ret2
    exact ⟨ret_hex (by omega) rfl, rfl⟩
  have e1 : hexV c = 0 := by simp only [hexV]; rw [if_neg ha, if_neg hb, if_neg hc]
  have e2 : hexB c = false := by simp [hexB]; omega
  rw [e1, e2]
  clear e1 e2
  by_cases k1 : 48 ≤ c
  all_goals
    by_cases k2 : 97 ≤ c
    all_goals
      by_cases k3 : 65 ≤ c
      all_goals
        first
          | (exfalso; omega)
          | (have k1' : c < 48 ∨ 57 < c := by omega
             have k2' : c < 97 ∨ 102 < c := by omega
             have k3' : c < 65 ∨ 70 < c := by omega
             clear ha hb hc
             go_enter Tryd.func75, Tryd.ntmps75
             go_wp2
             go_ret2
             exact ⟨rfl, rfl⟩)
theorem elem9 : Elem1 Tryd.prog 9 (.string ByteArray.empty) 16 := by unfold Elem1; kernel_rfl
def joinL (sep : List UInt8) (l : List (List UInt8)) : List UInt8 := Lib.join l sep
theorem joinL_one (sep x : List UInt8) : joinL sep [x] = x := Lib.join_one x sep
set_option maxHeartbeats 1000000 in
theorem join_any (sep : ByteArray) (A : Option Addr) (n c : Nat) (l : List (List UInt8)) (w : World) (hl : TextsAt w A n l) (hn : n ≤ 4000) (hc : n ≤ c) (hlen : (joinL sep.data.toList l).length ≤ 100000000) :
    Calls Tryd.prog 31 #[.string sep, .slice A n c] w fun e w' => e = .returned (.string ⟨(joinL sep.data.toList l).toArray⟩) ∧ Below w.heap.size w w' := by
  rcases Nat.eq_zero_or_pos n with h0 | h0
  · subst h0
    have : l = [] := List.length_eq_zero_iff.1 hl.1.symm
    subst this
    go_enter Tryd.func31, Tryd.ntmps31
    go_wp2_with fail
    refine (Tryd.strings_Join_none _ _ _ _).mono ?_
    rintro e w' ⟨rfl, rfl⟩
    go_wp2_with fail
    go_ret
    exact ⟨rfl, Below.refl _ _⟩
  · obtain ⟨b, o, rfl, hb, hcell⟩ := hl.2 h0
    have hxs : (l.map fun x => (⟨x.toArray⟩ : ByteArray)).map (·.data.toList) = l := by simp [List.map_map, Function.comp_def]
    have hln : (l.map fun x => (⟨x.toArray⟩ : ByteArray)).length = n := by simp [hl.1]
    have hj := Tryd.strings_Join b o c (l.map fun x => (⟨x.toArray⟩ : ByteArray)) sep w (fun j x hx => by
      simp only [List.getElem?_map, Option.map_eq_some_iff] at hx
      obtain ⟨y, hy, rfl⟩ := hx
      obtain ⟨hjl, rfl⟩ := List.getElem?_eq_some_iff.1 hy
      exact hcell j hjl) hb (by omega) (by omega) (by rw [hxs]; exact Nat.le_trans hlen (by decide))
    rw [hxs, hln] at hj
    have HJ := Lib.hid hj
    clear hj hxs hln hcell
    go_enter Tryd.func31, Tryd.ntmps31
    go_wp2_with fail
    refine HJ.out.mono ?_
    rintro e w' ⟨rfl, hb'⟩
    go_wp2_with fail
    go_ret
    exact ⟨rfl, hb'⟩
def cutK (l : List UInt8) (c : Int) : Nat := l.findIdx fun x => decide ((x.toNat : Int) = c)
def CutHit (s : ByteArray) (k : Nat) : Value := .tuple #[.string (s.extract 0 k), .string (s.extract (k + 1) s.size), .bool true]
def CutMiss (s : ByteArray) : Value := .tuple #[.string s, .string ⟨#[]⟩, .bool false]
def CutP (s : ByteArray) (c : Int) (e : Ending) : Prop := (cutK s.data.toList c < s.size ∧ e = .returned (CutHit s (cutK s.data.toList c))) ∨ (s.size ≤ cutK s.data.toList c ∧ e = .returned (CutMiss s))
theorem indexByte_cutK (l : List UInt8) (c : Int) (h0 : 0 ≤ c) (h1 : c ≤ 255) : Lib.indexByte l c.toNat.toUInt8 = if cutK l c < l.length then (cutK l c : Int) else -1 := by
  induction l with
  | nil => simp [Lib.indexByte]
  | cons b l ih =>
    unfold Lib.indexByte
    have hb : (b == c.toNat.toUInt8) = decide ((b.toNat : Int) = c) := by
      rw [Bool.eq_iff_iff, beq_iff_eq, decide_eq_true_iff]
      constructor
      · rintro rfl; simp; omega
      · intro h; apply UInt8.toNat_inj.1; simp; omega
    rw [hb, ih]
    have hk : cutK (b :: l) c = if (b.toNat : Int) = c then 0 else cutK l c + 1 := by
      unfold cutK; rw [List.findIdx_cons]
      by_cases h : (b.toNat : Int) = c <;> simp [h]
    rw [hk]
    by_cases h : (b.toNat : Int) = c
    · simp [h]
    · by_cases h2 : cutK l c < l.length
      · simp [h, h2]
      · simp [h, h2]
set_option maxHeartbeats 1000000 in
theorem cut_any (s : ByteArray) (c : Int) (w : World) (hs : s.size ≤ 100000) (h0 : 0 ≤ c) (h1 : c ≤ 255) :
    Calls Tryd.prog 27 #[.string s, .int .u8 c] w fun e w' => CutP s c e ∧ Below w.heap.size w w' := by
  have hi := indexByte_cutK s.data.toList c h0 h1
  have hj := Tryd.strings_IndexByte s c w
  rw [hi] at hj
  clear hi
  by_cases hk : cutK s.data.toList c < s.size
  · rw [if_pos (by simpa using hk)] at hj
    have HK := Lib.hid hk
    obtain ⟨k, hk2⟩ : ∃ k, k = cutK s.data.toList c := ⟨_, rfl⟩
    rw [← hk2] at hj hk
    have HK2 := Lib.hid hk2
    have HJ := Lib.hid hj
    clear hj hk2
    go_enter Tryd.func27, Tryd.ntmps27
    go_wp2_with fail
    refine HJ.out.mono ?_
    rintro e w' ⟨rfl, rfl⟩
    go_wp2_with fail
    go_quiet (fail)
    go_wp2_with fail
    go_ret3
    exact ⟨.inl ⟨HK.out, by rw [← HK2.out]; rfl⟩, below_drewN (Below.refl _ _) _⟩
  · rw [if_neg (by simpa using hk)] at hj
    have HJ := Lib.hid hj
    clear hj
    go_enter Tryd.func27, Tryd.ntmps27
    go_wp2_with fail
    refine HJ.out.mono ?_
    rintro e w' ⟨rfl, rfl⟩
    go_wp2_with fail
    go_ret3
    exact ⟨.inr ⟨by omega, rfl⟩, Below.refl _ _⟩
end Go.Proofs.YthbdeafbdmbabaaDoor
