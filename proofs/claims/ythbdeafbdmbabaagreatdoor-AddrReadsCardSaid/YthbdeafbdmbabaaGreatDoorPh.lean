/- Texts behind a law of this seat, in order: Ascii. -/
import Derived.Test.YthbdeafbdmbabaaGreatDoorPa
import Derived.Test.YthbdeafbdmbabaaGreatDoorPb
import Derived.Test.YthbdeafbdmbabaaGreatDoorPd
import Derived.Test.YthbdeafbdmbabaaGreatDoorPg
import Derived.BigQuiet
import Derived.Deep.QuietTactic
import Derived.Handed
import Derived.Lib.Bytealg
import Derived.Lib.Hide
import Derived.Lib.Join
import Derived.Lib.Strings
import Derived.Shelf.LaysM
import Derived.Shelf.Small.Bits
import Derived.Shelf.Small.Strs
import Derived.Shelf.Strconv.Itoa0
import Derived.Shelf.Strconv.Itoa1
import Derived.Shelf.Strconv.Itoa2
import Derived.Shelf.Strconv.Itoa3
import Derived.Shelf.Strings.Builder1
import Derived.Shelf.Strings.Builder2
import Derived.Shelf.Strings.Builder2Cap
import Derived.Shelf.Strings.BuilderCap
import Derived.Shelf.Strings.BuilderF
import Derived.Shelf.Strings.BuilderK
import Derived.Shelf.Strings.Count
import Derived.Shelf.Strings.Cut
import Derived.Shelf.Strings.OnBuilder
import Derived.Shelf.Strings.Prefix
import Derived.Shelf.Strings.Search1
import Derived.Shelf.Strings.Search2
import Derived.Shelf.Strings.Search3
import Derived.Shelf.Strings.Shaped
import Derived.Shelf.Strings.Split
import Derived.Shelf.Strings.SplitShaped
import Derived.Shelf.Unicode.Decode
import Derived.Shelf.Unicode.DecodeAny
import Derived.Shelf.Unicode.DecodeSlow
import Derived.SizedLaws
import Derived.SliceStrings
import Derived.Test.YthbdeafbdmbabaaGreatDoorProg
import Derived.WalkKit
import Derived.WalkLawsBesides
import Derived.WalkSpells
namespace Go.Proofs.YthbdeafbdmbabaaGreatDoor
open Go.RowKit Go
set_option maxHeartbeats 400000 in
theorem small_any (c : Int) (w : World) (h0 : 0 ≤ c) (h1 : c ≤ 255) :
    Calls Tryz.prog 133 #[.int .u8 c] w fun e w' => e = .returned (.int .u8 (lowI c)) ∧ w = w' := by
  by_cases h : 65 ≤ c ∧ c ≤ 90
  · obtain ⟨ha, hb⟩ := h
    go_enter Tryz.func133, Tryz.ntmps133
    go_wp2
    go_ret
    exact ⟨ret_int (by simp [lowI, ha, hb]), rfl⟩
  · by_cases ha : 65 ≤ c
    · have hb : 90 < c := by omega
      go_enter Tryz.func133, Tryz.ntmps133
      go_wp2
      go_ret
      exact ⟨ret_int (by simp only [lowI]; rw [if_neg h]), rfl⟩
    · go_enter Tryz.func133, Tryz.ntmps133
      go_wp2
      go_ret
      exact ⟨ret_int (by simp only [lowI]; rw [if_neg h]), rfl⟩
set_option maxHeartbeats 400000 in
theorem digits_any (s : ByteArray) (w : World) (hs : s.size ≤ 4000) :
    Calls Tryz.prog 89 #[.string s] w fun e w' => e = .returned (.bool (digsB s.data.toList)) ∧ w = w' := by
  go_enter Tryz.func89, Tryz.ntmps89
  go_wp2
  go_loop [6] (fun i => ∃ k : Nat, k ≤ s.size ∧ i = .int .i64 k ∧ (s.data.toList.take k).all digB = true) (fun i => s.size - (intOf i).toNat)
  case atStart => exact ⟨0, Nat.zero_le _, rfl, rfl⟩
  case round =>
    obtain ⟨k, hk, rfl, hall⟩ := hrel
    have HA := Lib.hid hall; clear hall
    by_cases hlt : k < s.size
    · by_cases h1 : s[k].toNat < 48
      · go_wp2
        go_ret
        exact ⟨ret_bool (digs_bad s k hlt (by omega)).symm, rfl⟩
      · by_cases h2 : s[k].toNat ≤ 57
        · go_wp2
          go_round
          case rel => exact ⟨k + 1, by omega, by go_num, digs_step s k hlt HA.out (by omega) (by omega)⟩
          case measure => simp [intOf]; omega
        · go_wp2
          go_ret
          exact ⟨ret_bool (digs_bad s k hlt (by omega)).symm, rfl⟩
    · go_wp2
      go_ret
      exact ⟨ret_bool (by rw [ByteArray.toList_eq, digs_end s (by rw [← show k = s.size by omega]; exact HA.out)]), rfl⟩
set_option maxHeartbeats 400000 in
theorem number_any (s : ByteArray) (most : Int) (w : World) (hs : s.size ≤ 4000) (hm0 : -9223372036854775808 ≤ most) (hm1 : most ≤ 9223372036854775807) :
    Calls Tryz.prog 65 #[.string s, .int .i64 most] w fun e w' => NumP s.data.toList most e ∧ w = w' := by
  by_cases hd : digsB s.data.toList = true
  · have HD := Lib.hid hd
    go_enter Tryz.func65, Tryz.ntmps65
    go_wp2_with (go_at_call 89; refine (digits_any _ _ hs).mono ?_; rintro e w' ⟨rfl, rfl⟩)
    go_loop [6, 14] (fun n i => ∃ k : Nat, k ≤ s.size ∧ i = .int .i64 k ∧ n = .int .i64 (numL (s.data.toList.take k)) ∧ (k = 0 ∨ (numL (s.data.toList.take k) : Int) ≤ most)) (fun _ i => s.size - (intOf i).toNat)
    case atStart => exact ⟨0, Nat.zero_le _, rfl, rfl, .inl rfl⟩
    case round =>
      obtain ⟨k, hk, rfl, rfl, hle⟩ := hrel
      by_cases hlt : k < s.size
      · have hc := digs_at s k hlt HD.out
        have hst := numL_step s k hlt
        have HS := Lib.hid hst; clear hst
        obtain ⟨hc1, hc2⟩ := hc
        by_cases h1 : most < (s[k].toNat : Int) - 48
        · go_wp2
          go_ret2
          exact ⟨numP_over s k most hlt HD.out HS.out (by omega), rfl⟩
        · by_cases h2 : (most - ((s[k].toNat : Int) - 48)) / 10 < (numL (s.data.toList.take k) : Int)
          · go_wp2
            go_ret2
            exact ⟨numP_over s k most hlt HD.out HS.out (by omega), rfl⟩
          · go_wp2
            go_round
            case rel => exact ⟨k + 1, by omega, by go_num, ret_v (by rw [HS.out]; omega), .inr (by rw [HS.out]; omega)⟩
            case measure => simp [intOf]; omega
      · go_wp2
        go_ret2
        exact ⟨numP_end s k most (by omega) HD.out hle, rfl⟩
  · have hd' : digsB s.data.toList = false := by simpa using hd
    clear hd
    go_enter Tryz.func65, Tryz.ntmps65
    go_wp2_with (go_at_call 89; refine (digits_any _ _ hs).mono ?_; rintro e w' ⟨rfl, rfl⟩)
    go_ret2
    exact ⟨.inl ⟨hd', rfl⟩, rfl⟩
set_option maxHeartbeats 1000000 in
theorem refNumber_any (s : ByteArray) (most : Int) (w : World) (hs : s.size ≤ 4000) (hm0 : -9223372036854775808 ≤ most) (hm1 : most ≤ 9223372036854775807) :
    Calls Tryz.prog 69 #[.string s, .int .i64 most] w fun e w' => NumP s.data.toList most e ∧ w = w' := by
  by_cases he : s.toList.isEmpty = true
  · have hd : digsB s.data.toList = false := by rw [ByteArray.toList_eq] at he; simp [digsB, he]
    go_enter Tryz.func69, Tryz.ntmps69
    go_wp2
    go_ret2
    exact ⟨.inl ⟨hd, rfl⟩, rfl⟩
  have he' : s.toList.isEmpty = false := by simpa using he
  clear he
  have hz : 0 < s.size := by
    rw [ByteArray.toList_eq] at he'
    rcases Nat.eq_zero_or_pos s.size with h | h
    · have : s.data.toList = [] := List.length_eq_zero_iff.1 (by simpa using h)
      rw [this] at he'; simp at he'
    · exact h
  go_enter Tryz.func69, Tryz.ntmps69
  go_wp2
  go_loop [6] (fun i => ∃ k : Nat, k ≤ s.size ∧ i = .int .i64 k ∧ (s.data.toList.take k).all digB = true) (fun i => s.size - (intOf i).toNat)
  case atStart => exact ⟨0, Nat.zero_le _, rfl, rfl⟩
  case round =>
    obtain ⟨k, hk, rfl, hall⟩ := hrel
    have HA := Lib.hid hall; clear hall
    by_cases hlt : k < s.size
    · by_cases h1 : s[k].toNat < 48
      · go_wp2
        go_ret2
        exact ⟨.inl ⟨digs_bad s k hlt (by omega), rfl⟩, rfl⟩
      · by_cases h2 : s[k].toNat ≤ 57
        · go_wp2
          go_round
          case rel => exact ⟨k + 1, by omega, by go_num, digs_step s k hlt HA.out (by omega) (by omega)⟩
          case measure => simp [intOf]; omega
        · go_wp2
          go_ret2
          exact ⟨.inl ⟨digs_bad s k hlt (by omega), rfl⟩, rfl⟩
    · have hd : digsB s.data.toList = true := by
        rw [digs_end s (by rw [← show k = s.size by omega]; exact HA.out), ← ByteArray.toList_eq, he']; rfl
      have HD := Lib.hid hd; clear hd HA
      go_wp2
      go_loop [7] (fun i => ∃ f : Nat, f + 1 ≤ s.size ∧ i = .int .i64 f ∧ (s.data.toList.take f).all zerB = true) (fun i => s.size - (intOf i).toNat)
      case atStart => exact ⟨0, by omega, rfl, rfl⟩
      case round =>
        obtain ⟨f, hf, rfl, hall⟩ := hrel
        have HA := Lib.hid hall; clear hall
        have hlf : f < s.size := by omega
        have hdf := digs_at s f hlf HD.out
        by_cases hlt2 : f + 1 < s.size ∧ s[f].toNat = 48
        · obtain ⟨hlt2, h48⟩ := hlt2
          have g2 : ((s[f].toNat : Int) == 48) = true := by simp [h48]
          have H48 := Lib.hid h48; clear h48
          go_wp2
          go_round
          case rel => exact ⟨f + 1, by omega, by go_num, zers_step s f hlf HA.out H48.out⟩
          case measure => simp [intOf]; omega
        · have hex : (f + 1 < s.size → 49 ≤ s[f].toNat) := by omega
          have HE := Lib.hid hex; clear hex
          by_cases hA : f + 1 < s.size
          all_goals
            try have g2 : ((s[f].toNat : Int) == 48) = false := beq_eq_false_iff_ne.2 (by omega)
            clear hlt2
            by_cases hbig : (f : Int) + 19 < s.size
            · first
                | (exfalso; omega)
                | (go_wp2
                   go_ret2
                   exact ⟨numP_big s f most hm1 (by omega) HA.out HD.out HE.out, rfl⟩)
            · by_cases hneg : most < 0
              · go_wp2
                go_ret2
                exact ⟨.inr (.inl ⟨HD.out, by omega, rfl⟩), rfl⟩
              · go_wp2
                go_loop [8, 9] (fun n i => ∃ j : Nat, f ≤ j ∧ j ≤ s.size ∧ i = .int .i64 j ∧ n = .int .u64 (numL (s.data.toList.take j))) (fun _ i => s.size - (intOf i).toNat)
                case atStart => exact ⟨f, by omega, by omega, rfl, ret_v (by rw [numL_zeros _ HA.out]; rfl)⟩
                case round =>
                  obtain ⟨j, hj1, hj2, rfl, rfl⟩ := hrel
                  by_cases hj : j < s.size
                  · have hdj := digs_at s j hj HD.out
                    have hb := numL_18 s f j HA.out HD.out hj1 hj2 (by omega)
                    have hst := numL_step s j hj
                    have HS := Lib.hid hst; clear hst
                    go_wp2
                    go_round
                    case rel => exact ⟨j + 1, by omega, by omega, by go_num, ret_v (by rw [HS.out]; omega)⟩
                    case measure => simp [intOf]; omega
                  · have hb := numL_19 s f HA.out HD.out (by omega) (by omega)
                    have ht : s.data.toList.take j = s.data.toList := List.take_of_length_le (by simp; omega)
                    rw [ht]
                    by_cases hov : most < (numL s.data.toList : Int)
                    · go_wp2
                      go_ret2
                      exact ⟨.inr (.inl ⟨HD.out, hov, rfl⟩), rfl⟩
                    · go_wp2
                      go_ret2
                      exact ⟨.inr (.inr ⟨HD.out, by omega, rfl⟩), rfl⟩
set_option maxHeartbeats 1000000 in
theorem hex_any (c : Int) (w : World) (h0 : 0 ≤ c) (h1 : c ≤ 255) :
    Calls Tryz.prog 94 #[.int .u8 c] w fun e w' => e = .returned (.tuple #[.int .i64 (hexV c), .bool (hexB c)]) ∧ w = w' := by
  by_cases ha : 48 ≤ c ∧ c ≤ 57
  · obtain ⟨ha1, ha2⟩ := ha
    have e1 : hexV c = c - 48 := by simp [hexV, ha1, ha2]
    have e2 : hexB c = true := by simp [hexB, ha1, ha2]
    rw [e1, e2]
    clear e1 e2
    go_enter Tryz.func94, Tryz.ntmps94
    go_wp2
    go_ret2
    exact ⟨rfl, rfl⟩
  by_cases hb : 97 ≤ c ∧ c ≤ 102
  · obtain ⟨hb1, hb2⟩ := hb
    have e1 : hexV c = c - 87 := by simp only [hexV]; rw [if_neg ha, if_pos ⟨hb1, hb2⟩]
    have e2 : hexB c = true := by simp [hexB, hb1, hb2]
    have ha' : 57 < c := by omega
    rw [e1, e2]
    clear e1 e2 ha
    go_enter Tryz.func94, Tryz.ntmps94
    go_wp2
    go_ret2
    exact ⟨ret_hex (by omega) rfl, rfl⟩
  by_cases hc : 65 ≤ c ∧ c ≤ 70
  · obtain ⟨hc1, hc2⟩ := hc
    have e1 : hexV c = c - 55 := by simp only [hexV]; rw [if_neg ha, if_neg hb, if_pos ⟨hc1, hc2⟩]
    have e2 : hexB c = true := by simp [hexB, hc1, hc2]
    have ha' : 57 < c := by omega
    have hb' : c < 97 := by omega
    rw [e1, e2]
    clear e1 e2 ha hb
    go_enter Tryz.func94, Tryz.ntmps94
    go_wp2
    go_ret2
    exact ⟨ret_hex (by omega) rfl, rfl⟩
  have e1 : hexV c = 0 := by simp only [hexV]; rw [if_neg ha, if_neg hb, if_neg hc]
  have e2 : hexB c = false := by simp [hexB]; omega
  rw [e1, e2]
  clear e1 e2
  by_cases k1 : 48 ≤ c
  all_goals
    by_cases k2 : 97 ≤ c
    all_goals
      by_cases k3 : 65 ≤ c
      all_goals
        first
          | (exfalso; omega)
          | (have k1' : c < 48 ∨ 57 < c := by omega
             have k2' : c < 97 ∨ 102 < c := by omega
             have k3' : c < 65 ∨ 70 < c := by omega
             clear ha hb hc
             go_enter Tryz.func94, Tryz.ntmps94
             go_wp2
             go_ret2
             exact ⟨rfl, rfl⟩)
abbrev hexTab : ByteArray := { data := #[48, 49, 50, 51, 52, 53, 54, 55, 56, 57, 97, 98, 99, 100, 101, 102, 65, 66, 67, 68, 69, 70] }
theorem hex_tab : ∀ k : Fin 22, hexV ((hexTab[k.val]'(k.isLt)).toNat : Int) = (if 16 ≤ k.val then (k.val : Int) - 6 else k.val) ∧ hexB ((hexTab[k.val]'(k.isLt)).toNat : Int) = true := by decide +kernel
theorem hex_all : ∀ n : Fin 256, hexB (n.val : Int) = true → ∃ k : Fin 22, (hexTab[k.val]'(k.isLt)).toNat = n.val := by decide +kernel
theorem hex_not (c : Int) (h : hexB c = false) : hexV c = 0 := by
  simp only [hexB, Bool.or_eq_false_iff, Bool.and_eq_false_iff, decide_eq_false_iff_not] at h
  simp only [hexV]
  rw [if_neg (by omega), if_neg (by omega), if_neg (by omega)]
theorem hex_hi (c : Int) (k : Nat) (h : k < 22) (e : (((hexTab[k]'h).toNat : Int) == c) = true) (h16 : (16 : Int) ≤ k) : hexV c = (k : Int) - 6 ∧ hexB c = true := by
  have := hex_tab ⟨k, h⟩
  have e' : ((hexTab[k]'h).toNat : Int) = c := by simpa using e
  simp only [e'] at this
  rw [if_pos (by omega)] at this
  exact this
theorem hex_lo (c : Int) (k : Nat) (h : k < 22) (e : (((hexTab[k]'h).toNat : Int) == c) = true) (h16 : (k : Int) < 16) : hexV c = (k : Int) ∧ hexB c = true := by
  have := hex_tab ⟨k, h⟩
  have e' : ((hexTab[k]'h).toNat : Int) = c := by simpa using e
  simp only [e'] at this
  rw [if_neg (by omega)] at this
  exact this
def HexMiss (c : Int) (k : Nat) : Prop := ∀ j (h : j < 22), j < k → ((hexTab[j]'h).toNat : Int) ≠ c
theorem hexMiss_succ {c : Int} {k : Nat} (h : k < 22) (H : HexMiss c k) (e : (((hexTab[k]'h).toNat : Int) == c) = false) : HexMiss c (k + 1) := by
  intro j hj hk
  by_cases hjk : j = k
  · subst hjk; simpa using e
  · exact H j hj (by omega)
theorem hexMiss_end {c : Int} (h0 : 0 ≤ c) (h1 : c ≤ 255) (H : HexMiss c 22) : hexV c = 0 ∧ hexB c = false := by
  have hb : hexB c = false := by
    rcases Bool.eq_false_or_eq_true (hexB c) with h | h
    · exfalso
      obtain ⟨n, rfl⟩ := Int.eq_ofNat_of_zero_le h0
      obtain ⟨k, hk⟩ := hex_all ⟨n, by omega⟩ h
      exact H k.val k.isLt k.isLt (by rw [hk])
    · exact h
  exact ⟨hex_not c hb, hb⟩
set_option maxHeartbeats 1000000 in
theorem refHex_any (c : Int) (w : World) (h0 : 0 ≤ c) (h1 : c ≤ 255) :
    Calls Tryz.prog 132 #[.int .u8 c] w fun e w' => e = .returned (.tuple #[.int .i64 (hexV c), .bool (hexB c)]) ∧ w = w' := by
  go_enter Tryz.func132, Tryz.ntmps132
  go_wp2
  go_loop [5] (fun i => ∃ k : Nat, k ≤ 22 ∧ i = .int .i64 k ∧ HexMiss c k) (fun i => 22 - (intOf i).toNat)
  case atStart => exact ⟨0, Nat.zero_le _, rfl, fun j _ h => absurd h (by omega)⟩
  case round =>
    obtain ⟨k, hk, rfl, HM⟩ := hrel
    by_cases hlt : k < 22
    · go_wp2
      · have e := hex_hi c k hlt (by assumption) (by assumption)
        go_ret2
        exact ⟨ret_hex e.1.symm e.2.symm, rfl⟩
      · have e := hex_lo c k hlt (by assumption) (by assumption)
        go_ret2
        exact ⟨ret_hex e.1.symm e.2.symm, rfl⟩
      · have e := hexMiss_succ hlt HM (by assumption)
        go_round
        case rel => exact ⟨k + 1, by omega, by go_num, e⟩
        case measure => simp [intOf]; omega
    · obtain rfl : k = 22 := by omega
      have e := hexMiss_end h0 h1 HM
      go_wp2
      go_ret2
      exact ⟨rfl, rfl⟩
def LowInv (s : ByteArray) (b k : Nat) (wr : World) : Prop :=
  b < wr.heap.size ∧ (∀ j (h : j < s.size), wr.cell? ⟨b, j, none⟩ = some (.int .u8 (if j < k then lowI s[j].toNat else s[j].toNat))) ∧ ∀ j, j < s.size → wr.frozen? ⟨b, j, none⟩ = false
theorem lowInv_start (s : ByteArray) (w : World) : LowInv s w.heap.size 0 ((w.alloc (.cells (bytesRow s (grownCap w s.size 0 5)) 5 ((bytesRow s (grownCap w s.size 0 5)).size, (bytesRow s (grownCap w s.size 0 5)).size + 1))).drew) := by
  have hz : s.size ≤ (bytesRow s (grownCap w s.size 0 5)).size := by simp [bytesRow]
  refine ⟨by simp, fun j hj => ?_, fun j hj => ?_⟩
  · show (w.alloc _).cell? _ = _
    rw [World.cell?_alloc_mark, bytesRow_at _ _ _ (by simpa using hj), if_neg (by omega)]
    rfl
  · show (w.alloc _).frozen? _ = _
    rw [World.frozen?_alloc_mark]
    simp; omega
theorem lowInv_step {s : ByteArray} {b k : Nat} {wr : World} (h : LowInv s b k wr) (hk : k < s.size) (v : Value) (hv : v = .int .u8 (lowI s[k].toNat)) : LowInv s b (k + 1) (wr.setCell ⟨b, k, none⟩ v) := by
  obtain ⟨h1, h2, h3⟩ := h
  refine ⟨by simpa using h1, fun j hj => ?_, fun j hj => ?_⟩
  · by_cases hjk : j = k
    · subst hjk
      rw [World.cell?_setCell_same _ _ _ (h2 j hj), if_pos (by omega), hv]
    · rw [World.cell?_setCell_other _ _ _ _ (fun e => by injection e with _ e2 _; exact hjk e2.symm), h2 j hj]
      by_cases hl : j < k
      · rw [if_pos hl, if_pos (by omega)]
      · rw [if_neg hl, if_neg (by omega)]
  · rw [World.frozen?_setCell]; exact h3 j hj
theorem lowInv_end {s : ByteArray} {b k cap : Nat} {wr : World} (h : LowInv s b k wr) (hk : s.size ≤ k) : (convert 46 9 (.slice (some ⟨b, 0, none⟩) s.size cap)).run Tryz.prog wr = .ok (.string ⟨(s.data.toList.map lowB).toArray⟩) wr := by
  have := run_convert_bytes_back (P := Tryz.prog) wr 46 9 5 ⟨b, 0, none⟩ cap (s.data.toList.map lowB) Tryz.underlying46 Tryz.underlying5 Tryz.underlying9 (fun j hj => by
    have hj' : j < s.size := by simpa using hj
    have e := h.2.1 j hj'
    rw [if_pos (by omega)] at e
    have ea : (⟨b, 0, none⟩ : Addr).add j = ⟨b, j, none⟩ := by unfold Addr.add; split <;> simp_all
    rw [ea, e, ← lowB_int]
    simp
    rfl)
  simpa using this
set_option maxHeartbeats 400000 in
theorem lower_any (s : ByteArray) (w : World) (hs : s.size ≤ 4000) :
    Calls Tryz.prog 119 #[.string s] w fun e w' => e = .returned (.string ⟨(s.data.toList.map lowB).toArray⟩) ∧ Below w.heap.size w w' := by
  have kb := run_bytes_of_string (P := Tryz.prog) w 9 46 5 s Tryz.underlying9 Tryz.underlying46 Tryz.underlying5
  have hst := lowInv_start s w
  obtain ⟨B, hB⟩ : ∃ B, B = w.heap.size := ⟨_, rfl⟩
  have HST := Lib.hid hst; clear hst
  go_enter Tryz.func119, Tryz.ntmps119
  go_wp2
  clear kb
  go_loopw [10] (fun i wr => ∃ k : Nat, k ≤ s.size ∧ i = .int .i64 k ∧ LowInv s w.heap.size k wr ∧ Below w.heap.size w wr) (fun i _ => s.size - (intOf i).toNat)
  case atStart => exact ⟨0, Nat.zero_le _, rfl, HST.out, ((Below.refl _ _).alloc (Nat.le_refl _) _).drew⟩
  case round =>
    obtain ⟨k, hk, rfl, HL, HB⟩ := hrel
    by_cases hlt : k < s.size
    · have hc := HL.2.1 k hlt
      rw [if_neg (by omega)] at hc
      have hf := HL.2.2 k hlt
      have hb : (s[k].toNat : Int) ≤ 255 := by have := s[k].toNat_lt; omega
      have hn := lowInv_step HL hlt _ rfl
      have HN := Lib.hid hn; clear hn
      go_wp2_with (go_at_call 133; refine (small_any _ _ (by omega) hb).mono ?_; rintro e w' ⟨rfl, rfl⟩)
      go_roundw
      case rel => exact ⟨k + 1, by omega, by go_num, HN.out, HB.setCell (Nat.le_refl _) _⟩
      case measure => simp [intOf]; omega
    · have hcv := fun cap => lowInv_end (cap := cap) HL (by omega)
      go_wp2
      go_ret
      exact ⟨rfl, HB⟩
def sameB (a b : List UInt8) : Bool := decide (a.map lowB = b.map lowB)
theorem beq_dec {α : Type} [BEq α] [LawfulBEq α] [DecidableEq α] (a b : α) : (a == b) = decide (a = b) := by
  by_cases h : a = b <;> simp [h]
theorem take_eq_succ {α : Type} {a b : List α} {k : Nat} (h : a.take k = b.take k) (ha : k < a.length) (hb : k < b.length) (e : a[k] = b[k]) : a.take (k + 1) = b.take (k + 1) := by
  rw [List.take_succ_eq_append_getElem ha, List.take_succ_eq_append_getElem hb, h, e]
theorem ne_of_at {α : Type} {a b : List α} {k : Nat} (ha : k < a.length) (hb : k < b.length) (e : a[k] ≠ b[k]) : a ≠ b := by
  rintro rfl; exact e rfl
set_option maxHeartbeats 400000 in
theorem same_any (s t : ByteArray) (w : World) (hs : s.size ≤ 4000) (ht : t.size ≤ 4000) :
    Calls Tryz.prog 95 #[.string s, .string t] w fun e w' => e = .returned (.bool (sameB s.data.toList t.data.toList)) ∧ Below w.heap.size w w' := by
  go_enter Tryz.func95, Tryz.ntmps95
  go_wp2_with fail
  refine (lower_any _ _ hs).mono ?_
  rintro e w1 ⟨rfl, hb1⟩
  go_wp2_with fail
  refine (lower_any _ _ ht).mono ?_
  rintro e w2 ⟨rfl, hb2⟩
  go_wp2_with fail
  go_ret
  exact ⟨ret_bool (beq_dec _ _), hb1.trans (hb2.mono hb1.size)⟩
set_option maxHeartbeats 1000000 in
theorem sameTexts_any (A B : Option Addr) (n m c d : Nat) (la lb : List (List UInt8)) (w : World) (ha : TextsAt w A n la) (hb : TextsAt w B m lb) (hn : n ≤ 4000) (hm : m ≤ 4000) :
    Calls Tryz.prog 38 #[.slice A n c, .slice B m d] w fun e w' => e = .returned (.bool (decide (la = lb))) ∧ Below w.heap.size w w' := by
  by_cases hnm : n = m
  · subst hnm
    go_enter Tryz.func38, Tryz.ntmps38
    go_wp2_with fail
    go_loopw [5] (fun i wr => ∃ k : Nat, k ≤ n ∧ i = .int .i64 k ∧ la.take k = lb.take k ∧ Below w.heap.size w wr) (fun i _ => n - (intOf i).toNat)
    case atStart => exact ⟨0, Nat.zero_le _, rfl, rfl, Below.refl _ _⟩
    case round =>
      obtain ⟨k, hk, rfl, htk, HB⟩ := hrel
      by_cases hlt : k < n
      · obtain ⟨ba, oa, rfl, hba, hca⟩ := ha.2 (by omega)
        obtain ⟨bb, ob, rfl, hbb, hcb⟩ := hb.2 (by omega)
        have h1 := hca k (by have := ha.1; omega)
        have h2 := hcb k (by have := hb.1; omega)
        rw [← HB.cell (p := ⟨ba, oa + k, none⟩) hba] at h1
        rw [← HB.cell (p := ⟨bb, ob + k, none⟩) hbb] at h2
        have ka : k < la.length := by have := ha.1; omega
        have kb : k < lb.length := by have := hb.1; omega
        have hne := fun e => ne_of_at ka kb e
        have hse := fun e => take_eq_succ htk ka kb e
        have HN := Lib.hid hne; clear hne
        have HS := Lib.hid hse; clear hse
        obtain ⟨x, hx⟩ : ∃ x, x = la[k] := ⟨_, rfl⟩
        obtain ⟨y, hy⟩ : ∃ y, y = lb[k] := ⟨_, rfl⟩
        rw [← hx] at h1 HN HS
        rw [← hy] at h2 HN HS
        clear hx hy hca hcb ka kb htk
        unfold strV at h1 h2
        by_cases hxy : x = y
        · have HX := Lib.hid hxy
          subst hxy
          go_wp2_with fail
          go_quiet (fail)
          go_wp2_with fail
          go_roundw
          case rel => exact ⟨k + 1, by omega, by go_num, HS.out trivial, HB.trans (below_drewN (Below.refl _ _) _)⟩
          case measure => simp [intOf]; omega
        · have hxy' : (x == y) = false := by simpa using hxy
          go_wp2_with fail
          go_quiet (fail)
          go_wp2_with fail
          go_ret
          exact ⟨ret_bool (decide_eq_false (HN.out hxy)).symm, HB.trans (below_drewN (Below.refl _ _) _)⟩
      · have he : la = lb := by
          have h1 := ha.1
          have h2 := hb.1
          rw [List.take_of_length_le (by omega), List.take_of_length_le (by omega)] at htk
          exact htk
        have HE := Lib.hid he; clear he htk
        go_wp2_with fail
        go_ret
        exact ⟨ret_bool (decide_eq_true HE.out).symm, HB⟩
  · have hne : la ≠ lb := by
      intro e
      have h1 := ha.1
      have h2 := hb.1
      rw [e] at h1; omega
    go_enter Tryz.func38, Tryz.ntmps38
    go_wp2_with fail
    go_ret
    exact ⟨ret_bool (decide_eq_false hne).symm, Below.refl _ _⟩
theorem elem9 : Elem1 Tryz.prog 9 (.string ByteArray.empty) 16 := by unfold Elem1; kernel_rfl
def joinL (sep : List UInt8) (l : List (List UInt8)) : List UInt8 := Lib.join l sep
theorem joinL_snoc (sep : List UInt8) (l : List (List UInt8)) (x : List UInt8) (h : l ≠ []) : joinL sep (l ++ [x]) = joinL sep l ++ (sep ++ x) := by
  match l, h with
  | y :: r, _ =>
    unfold joinL
    rw [List.cons_append, Lib.join_cons, Lib.join_cons]
    simp [Lib.joinTail]
theorem joinL_one (sep x : List UInt8) : joinL sep [x] = x := Lib.join_one x sep
set_option maxHeartbeats 1000000 in
theorem join_any (sep : ByteArray) (A : Option Addr) (n c : Nat) (l : List (List UInt8)) (w : World) (hl : TextsAt w A n l) (hn : n ≤ 4000) (hc : n ≤ c) (hlen : (joinL sep.data.toList l).length ≤ 100000000) :
    Calls Tryz.prog 51 #[.string sep, .slice A n c] w fun e w' => e = .returned (.string ⟨(joinL sep.data.toList l).toArray⟩) ∧ Below w.heap.size w w' := by
  rcases Nat.eq_zero_or_pos n with h0 | h0
  · subst h0
    have : l = [] := List.length_eq_zero_iff.1 hl.1.symm
    subst this
    go_enter Tryz.func51, Tryz.ntmps51
    go_wp2_with fail
    refine (Tryz.strings_Join_none _ _ _ _).mono ?_
    rintro e w' ⟨rfl, rfl⟩
    go_wp2_with fail
    go_ret
    exact ⟨rfl, Below.refl _ _⟩
  · obtain ⟨b, o, rfl, hb, hcell⟩ := hl.2 h0
    have hxs : (l.map fun x => (⟨x.toArray⟩ : ByteArray)).map (·.data.toList) = l := by simp [List.map_map, Function.comp_def]
    have hln : (l.map fun x => (⟨x.toArray⟩ : ByteArray)).length = n := by simp [hl.1]
    have hj := Tryz.strings_Join b o c (l.map fun x => (⟨x.toArray⟩ : ByteArray)) sep w (fun j x hx => by
      simp only [List.getElem?_map, Option.map_eq_some_iff] at hx
      obtain ⟨y, hy, rfl⟩ := hx
      obtain ⟨hjl, rfl⟩ := List.getElem?_eq_some_iff.1 hy
      exact hcell j hjl) hb (by omega) (by omega) (by rw [hxs]; exact Nat.le_trans hlen (by decide))
    rw [hxs, hln] at hj
    have HJ := Lib.hid hj
    clear hj hxs hln hcell
    go_enter Tryz.func51, Tryz.ntmps51
    go_wp2_with fail
    refine HJ.out.mono ?_
    rintro e w' ⟨rfl, hb'⟩
    go_wp2_with fail
    go_ret
    exact ⟨rfl, hb'⟩
def cutK (l : List UInt8) (c : Int) : Nat := l.findIdx fun x => decide ((x.toNat : Int) = c)
def CutHit (s : ByteArray) (k : Nat) : Value := .tuple #[.string (s.extract 0 k), .string (s.extract (k + 1) s.size), .bool true]
def CutMiss (s : ByteArray) : Value := .tuple #[.string s, .string ⟨#[]⟩, .bool false]
def CutP (s : ByteArray) (c : Int) (e : Ending) : Prop := (cutK s.data.toList c < s.size ∧ e = .returned (CutHit s (cutK s.data.toList c))) ∨ (s.size ≤ cutK s.data.toList c ∧ e = .returned (CutMiss s))
theorem indexByte_cutK (l : List UInt8) (c : Int) (h0 : 0 ≤ c) (h1 : c ≤ 255) : Lib.indexByte l c.toNat.toUInt8 = if cutK l c < l.length then (cutK l c : Int) else -1 := by
  induction l with
  | nil => simp [Lib.indexByte]
  | cons b l ih =>
    unfold Lib.indexByte
    have hb : (b == c.toNat.toUInt8) = decide ((b.toNat : Int) = c) := by
      rw [Bool.eq_iff_iff, beq_iff_eq, decide_eq_true_iff]
      constructor
      · rintro rfl; simp; omega
      · intro h; apply UInt8.toNat_inj.1; simp; omega
    rw [hb, ih]
    have hk : cutK (b :: l) c = if (b.toNat : Int) = c then 0 else cutK l c + 1 := by
      unfold cutK; rw [List.findIdx_cons]
      by_cases h : (b.toNat : Int) = c <;> simp [h]
    rw [hk]
    by_cases h : (b.toNat : Int) = c
    · simp [h]
    · by_cases h2 : cutK l c < l.length
      · simp [h, h2]
      · simp [h, h2]
theorem cutK_of (s : ByteArray) (c : Int) (k : Nat) (hk : k < s.size) (he : (s[k].toNat : Int) = c) (hm : ∀ j (h : j < s.size), j < k → (s[j].toNat : Int) ≠ c) : cutK s.data.toList c = k := by
  unfold cutK
  rw [List.findIdx_eq (by simpa using hk)]
  refine ⟨?_, fun j hj => ?_⟩
  · exact decide_eq_true (show ((s[k].toNat : Int) = c) from he)
  · exact decide_eq_false (show ¬ ((s[j].toNat : Int) = c) from hm j (by omega) hj)
theorem cutK_none (s : ByteArray) (c : Int) (hm : ∀ j (h : j < s.size), (s[j].toNat : Int) ≠ c) : s.size ≤ cutK s.data.toList c := by
  unfold cutK
  have : s.data.toList.findIdx (fun x => decide ((x.toNat : Int) = c)) = s.data.toList.length := by
    rw [List.findIdx_eq_length]
    intro x hx
    obtain ⟨j, hj, rfl⟩ := List.getElem_of_mem hx
    exact decide_eq_false (show ¬ ((s[j].toNat : Int) = c) from hm j (by simpa using hj))
  rw [this]; simp
set_option maxHeartbeats 1000000 in
theorem cut_any (s : ByteArray) (c : Int) (w : World) (hs : s.size ≤ 100000) (h0 : 0 ≤ c) (h1 : c ≤ 255) :
    Calls Tryz.prog 63 #[.string s, .int .u8 c] w fun e w' => CutP s c e ∧ Below w.heap.size w w' := by
  have hi := indexByte_cutK s.data.toList c h0 h1
  have hj := Tryz.strings_IndexByte s c w
  rw [hi] at hj
  clear hi
  by_cases hk : cutK s.data.toList c < s.size
  · rw [if_pos (by simpa using hk)] at hj
    have HK := Lib.hid hk
    obtain ⟨k, hk2⟩ : ∃ k, k = cutK s.data.toList c := ⟨_, rfl⟩
    rw [← hk2] at hj hk
    have HK2 := Lib.hid hk2
    have HJ := Lib.hid hj
    clear hj hk2
    go_enter Tryz.func63, Tryz.ntmps63
    go_wp2_with fail
    refine HJ.out.mono ?_
    rintro e w' ⟨rfl, rfl⟩
    go_wp2_with fail
    go_quiet (fail)
    go_wp2_with fail
    go_ret3
    exact ⟨.inl ⟨HK.out, by rw [← HK2.out]; rfl⟩, below_drewN (Below.refl _ _) _⟩
  · rw [if_neg (by simpa using hk)] at hj
    have HJ := Lib.hid hj
    clear hj
    go_enter Tryz.func63, Tryz.ntmps63
    go_wp2_with fail
    refine HJ.out.mono ?_
    rintro e w' ⟨rfl, rfl⟩
    go_wp2_with fail
    go_ret3
    exact ⟨.inr ⟨by omega, rfl⟩, Below.refl _ _⟩
set_option maxHeartbeats 1000000 in
theorem refCut_any (s : ByteArray) (c : Int) (w : World) (hs : s.size ≤ 100000) :
    Calls Tryz.prog 67 #[.string s, .int .u8 c] w fun e w' => CutP s c e ∧ Below w.heap.size w w' := by
  go_enter Tryz.func67, Tryz.ntmps67
  go_wp2_with fail
  go_loop [7] (fun i => ∃ k : Nat, k ≤ s.size ∧ i = .int .i64 k ∧ ∀ j (h : j < s.size), j < k → (s[j].toNat : Int) ≠ c) (fun i => s.size - (intOf i).toNat)
  case atStart => exact ⟨0, Nat.zero_le _, rfl, fun j _ h => absurd h (by omega)⟩
  case round =>
    obtain ⟨k, hk, rfl, hm⟩ := hrel
    have HM := Lib.hid hm; clear hm
    by_cases hlt : k < s.size
    · by_cases he : (s[k].toNat : Int) = c
      · have hc := cutK_of s c k hlt he HM.out
        have HC := Lib.hid hc
        have heb : ((s[k].toNat : Int) == c) = true := beq_iff_eq.2 he
        clear hc he
        go_wp2_with fail
        go_quiet (fail)
        go_wp2_with fail
        go_ret3
        exact ⟨.inl ⟨by rw [HC.out]; exact hlt, by rw [HC.out]; rfl⟩, below_drewN (Below.refl _ _) _⟩
      · have heb : ((s[k].toNat : Int) == c) = false := beq_eq_false_iff_ne.2 he
        have HE := Lib.hid he
        clear he
        go_wp2_with fail
        go_round
        case rel => exact ⟨k + 1, by omega, by go_num, fun j hj hjk => by
          by_cases e : j = k
          · subst e; exact HE.out
          · exact HM.out j hj (by omega)⟩
        case measure => simp [intOf]; omega
    · have hn := cutK_none s c (fun j hj => HM.out j hj (by omega))
      go_wp2_with fail
      go_ret3
      exact ⟨.inr ⟨hn, rfl⟩, Below.refl _ _⟩
end Go.Proofs.YthbdeafbdmbabaaGreatDoor
