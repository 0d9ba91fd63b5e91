/- Texts behind a law of this seat, in order: Fmt. -/
import Derived.Test.YthbdeafbdmbabaaGreatDoorPa
import Derived.Test.YthbdeafbdmbabaaGreatDoorPb
import Derived.Test.YthbdeafbdmbabaaGreatDoorPc
import Derived.Test.YthbdeafbdmbabaaGreatDoorPd
import Derived.Test.YthbdeafbdmbabaaGreatDoorPe
import Derived.Test.YthbdeafbdmbabaaGreatDoorPf
import Derived.Test.YthbdeafbdmbabaaGreatDoorPg
import Derived.Test.YthbdeafbdmbabaaGreatDoorPh
import Derived.Test.YthbdeafbdmbabaaGreatDoorPi
import Derived.Test.YthbdeafbdmbabaaGreatDoorPj
import Derived.Test.YthbdeafbdmbabaaGreatDoorPk
import Derived.Test.YthbdeafbdmbabaaGreatDoorPm
import Derived.Test.YthbdeafbdmbabaaGreatDoorPn
import Derived.Test.YthbdeafbdmbabaaGreatDoorPo
import Derived.Test.YthbdeafbdmbabaaGreatDoorPp
import Derived.Test.YthbdeafbdmbabaaGreatDoorPq
import Derived.Test.YthbdeafbdmbabaaGreatDoorPr
import Derived.Below
import Derived.BigQuiet
import Derived.ChangeSlices
import Derived.Deep.AppendLies
import Derived.Deep.Draws
import Derived.Deep.QuietTactic
import Derived.Deep.RegionLaw
import Derived.Great.Ranges
import Derived.Handed
import Derived.Laws.Bits64b
import Derived.Laws.BitsAllLaws
import Derived.Laws.OwnMore
import Derived.Laws.Rows
import Derived.Laws.StructEq
import Derived.Lib.Bytealg
import Derived.Lib.Hide
import Derived.Lib.ItoaLen
import Derived.Lib.ItoaMem
import Derived.Lib.ItoaNum
import Derived.Lib.Join
import Derived.Lib.SmallJoins
import Derived.Lib.Split
import Derived.Lib.SplitLaws
import Derived.Lib.Strings
import Derived.OpenShut
import Derived.Shelf.LaysM
import Derived.Shelf.Small.Bits
import Derived.Shelf.Small.Strs
import Derived.Shelf.Strconv.Itoa0
import Derived.Shelf.Strconv.Itoa1
import Derived.Shelf.Strconv.Itoa2
import Derived.Shelf.Strconv.Itoa3
import Derived.Shelf.Strings.Builder1
import Derived.Shelf.Strings.Builder2
import Derived.Shelf.Strings.Builder2Cap
import Derived.Shelf.Strings.BuilderCap
import Derived.Shelf.Strings.BuilderF
import Derived.Shelf.Strings.BuilderK
import Derived.Shelf.Strings.Count
import Derived.Shelf.Strings.Cut
import Derived.Shelf.Strings.OnBuilder
import Derived.Shelf.Strings.Prefix
import Derived.Shelf.Strings.Search1
import Derived.Shelf.Strings.Search2
import Derived.Shelf.Strings.Search3
import Derived.Shelf.Strings.Shaped
import Derived.Shelf.Strings.Split
import Derived.Shelf.Strings.SplitShaped
import Derived.Shelf.Unicode.Decode
import Derived.Shelf.Unicode.DecodeAny
import Derived.Shelf.Unicode.DecodeSlow
import Derived.SizedLaws
import Derived.SliceStrings
import Derived.Stop.BytesEq
import Derived.Test.YthbdeafbdmbabaaGreatDoorProg
import Derived.WalkKit
import Derived.WalkLawsBesides
import Derived.WalkSpells
namespace Go.Proofs.YthbdeafbdmbabaaGreatDoor
open Go.RowKit Go
set_option linter.unusedVariables false
set_option maxRecDepth 100000
def db64 : List Int := [0, 1, 56, 2, 57, 49, 28, 3, 61, 58, 42, 50, 38, 29, 17, 4, 62, 47, 59, 36, 45, 43, 51, 22, 53, 39, 33, 30, 24, 18, 12, 5, 63, 55, 48, 27, 60, 41, 37, 16, 46, 35, 44, 21, 52, 32, 23, 11, 54, 26, 40, 15, 34, 20, 31, 10, 25, 14, 19, 9, 13, 8, 7, 6]
def DB (w : World) : Prop := Lib.TabIs Tryz.prog w "math/bits.deBruijn64tab" .u8 db64
theorem DB.below {w w' : World} (h : DB w) {B : Nat} (hB : w.heap.size ≤ B) (hb : Below B w w') : DB w' :=
  Joins.tab_stays (g := 5) (by kernel_rfl) h hb hB
theorem DB.four {w : World} (h : DB w) : w.cell? ⟨5, 15, none⟩ = some (.int .u8 4) :=
  h.cell (by kernel_rfl) 15 (by decide)
theorem tz16_any (w : World) (h : DB w) : Calls Tryz.prog 126 #[.int .u64 16] w fun e w' => e = .returned (.int .i64 4) ∧ w = w' := by
  have h4 := h.four
  have key : IntKind.u64.wrap (bits BinOp.and IntKind.u64 16 (IntKind.u64.wrap (-16)) * 285870213051353865) / 288230376151711744 = 15 := by decide +kernel
  clear h
  go_enter Tryz.func126, Tryz.ntmps126
  go_wp2_with (first | go_in | simp only [key])
  go_ret
  exact ⟨rfl, rfl⟩
theorem pow16_any (w : World) : Calls Tryz.prog 125 #[.int .i64 16] w fun e w' => e = .returned (.bool true) ∧ w = w' := by
  go_enter Tryz.func125, Tryz.ntmps125
  go_wp2
  go_ret
  exact ⟨rfl, rfl⟩
def a65 : Array Value := Array.replicate 65 (.int .u8 0)
theorem a65Zero : (Tryz.prog.info? 132).map (·.zero) = some (some (.agg a65)) := by kernel_rfl
theorem u8Size : (Tryz.prog.info? 5).map (·.size) = some 1 := by kernel_rfl
theorem digs36 : ∀ d : Fin 16, (({ data := #[48, 49, 50, 51, 52, 53, 54, 55, 56, 57, 97, 98, 99, 100, 101, 102, 103, 104, 105, 106, 107, 108, 109, 110, 111, 112, 113, 114, 115, 116, 117, 118, 119, 120, 121, 122] } : ByteArray)[d.val]'(by have := d.isLt; show d.val < 36; omega)) = hexC d.val := by decide +kernel
theorem and15 (m : Nat) (h : m < 65536) : bits BinOp.and IntKind.u64 (m : Int) 15 = ((m % 16 : Nat) : Int) := by
  have := bits_and_u64_nat m 15 (by omega) (by decide)
  rw [show (15 : Nat) = 2 ^ 4 - 1 from rfl, Nat.and_two_pow_sub_one_eq_mod] at this
  exact this
theorem slice65 (g q : Nat) (h : q < 65) (w : World) : (Instr.sliceAt 132 (.pointer (some ⟨g, 0, none⟩)) (some (.int .i64 q)) none none).run Tryz.prog w = .ok (.slice (some ⟨g, q, none⟩) (65 - q) (65 - q)) w := by
  have ha : Tryz.prog.arrayLen 132 = 65 := by kernel_rfl
  have he : Tryz.prog.elem 132 = 5 := by kernel_rfl
  rw [run_sliceAt_array_l w 132 _ (by kernel_rfl) .i64 q (by omega) (by rw [ha]; omega), he, Tryz.sizeOf5]
  simp [slicedAt, ha, Result.andThen, Addr.add]
  by_cases h1 : q = 0
  · rw [if_neg (by omega), if_pos h1, h1]
  · by_cases h2 : 65 = q
    · exact absurd h2 (by omega)
    · rw [if_neg h2, if_neg h1]
theorem set65 (q : Nat) (x : UInt8) (T : List UInt8) (C : Array Value) (hq : q < C.size) (h : ∀ (j : Nat) (c : UInt8), T[j]? = some c → C[q + 1 + j]? = some (.int .u8 c.toNat)) :
    ∀ (j : Nat) (c : UInt8), (x :: T)[j]? = some c → (C.setIfInBounds q (.int .u8 x.toNat))[q + j]? = some (.int .u8 c.toNat) := by
  intro j c hj
  cases j with
  | zero =>
    rw [List.getElem?_cons_zero] at hj
    injection hj with hj
    subst hj
    rw [Nat.add_zero, Array.getElem?_setIfInBounds_self_of_lt hq]
  | succ j =>
    rw [List.getElem?_cons_succ] at hj
    rw [Array.getElem?_setIfInBounds_ne (by omega), show q + (j + 1) = q + 1 + j by omega]
    exact h j c hj
theorem conv65 {B : Nat} {w0 w : World} (g q : Nat) (T : List UInt8) {x : UInt8} {T' : List UInt8} (C : Array Value) (hq : q < C.size) (hl : q + T.length = 65) (h : ∀ (j : Nat) (c : UInt8), T'[j]? = some c → C[q + 1 + j]? = some (.int .u8 c.toNat)) (e : T = x :: T' := by rfl)
    (S : Ats B w0 w [(g, 132, C.setIfInBounds q (.int .u8 x.toNat))]) :
    (convert 46 9 (.slice (some ⟨g, q, none⟩) (65 - q) (65 - q))).run Tryz.prog w = .ok (.string ⟨T.toArray⟩) w := by
  subst e
  have hc := set65 q x T' C hq h
  rw [show 65 - q = (x :: T').length by omega]
  refine run_convert_bytes_back (P := Tryz.prog) w 46 9 5 ⟨g, q, none⟩ _ (x :: T') Tryz.underlying46 Tryz.underlying5 Tryz.underlying9 (fun j hj => ?_)
  rw [Go.WideShapes.add_plain]
  exact (S.get (i := 0) rfl).cells (q + j) (hc j _ (List.getElem?_eq_getElem hj))
set_option maxHeartbeats 2000000 in
theorem fmtBits_any (n : Nat) (w : World) (hn : n < 65536) (hD : DB w) :
    Calls Tryz.prog 106 #[.slice none 0 0, .int .u64 n, .int .i64 16, .bool false, .bool false] w fun e w' => e = .returned (.tuple #[.slice none 0 0, .string ⟨(hexL n).toArray⟩]) ∧ Below w.heap.size w w' := by
  have S := Ats.start w
  have hz := fun wr (h : DB wr) => tz16_any wr h
  have hp := fun wr => pow16_any wr
  have hDd : ∀ wr L, Ats w.heap.size w wr L → DB wr := fun wr L h => hD.below (Nat.le_refl _) h.below
  have HD := Lib.hid hDd
  have HZ := Lib.hid hz
  have HP := Lib.hid hp
  clear hz hp hDd hD
  go_enter Tryz.func106, Tryz.ntmps106
  go_wp2_with (first
    | ((with_reducible refine (HP.out _).mono ?_); rintro e w2 ⟨rfl, hq⟩; subst hq)
    | ((with_reducible refine (HZ.out _ (HD.out _ _ S)).mono ?_); rintro e w2 ⟨rfl, hq⟩; subst hq)
    | ((with_reducible show wpList _ _ _ (Oper.mk _ (Op.alloc _) _ _ _ _ :: _) _ _); refine wpList_allocS rfl _ rfl _ a65Zero S ?_; clear S; intro g w1 S))
  go_loopw [13, 1] (fun i u wr => ∃ (k m : Nat) (C : Array Value) (T : List UInt8), i = .int .i64 k ∧ u = .int .u64 m ∧ C.size = 65 ∧ k + T.length = 65 ∧ hexL n = hexL m ++ T ∧ m * 16 ^ T.length ≤ n ∧ T.length ≤ 3 ∧ (∀ (j : Nat) (c : UInt8), T[j]? = some c → C[k + j]? = some (.int .u8 c.toNat)) ∧ Ats w.heap.size w wr [(g, 132, C)]) (fun i u _ => (intOf u).toNat)
  case atStart => exact ⟨65, n, a65, [], rfl, rfl, rfl, rfl, by simp, by simp, by simp, fun j c h => by simp at h, S⟩
  case round =>
    obtain ⟨k, m, C, T, rfl, rfl, hC, hk, hx, hm, hl3, hcell, S⟩ := hrel
    obtain ⟨q, rfl⟩ : ∃ q, k = q + 1 := ⟨k - 1, by omega⟩
    have hpow : 1 ≤ 16 ^ T.length := Nat.one_le_pow _ _ (by decide)
    have hmn : m ≤ n := Nat.le_trans (by have := Nat.mul_le_mul_left m hpow; omega) hm
    by_cases hlt : m < 16
    · have hd := digs36 ⟨m, hlt⟩
      simp only at hd
      have hc := hexC_at hlt
      have hm36 : m < 36 := by omega
      have hcond : decide ((16 : Int) ≤ (m : Int)) = false := by rw [decide_eq_false_iff_not]; omega
      have hk1 : q < C.size := by omega
      have hres : hexL n = hexC m :: T := by rw [hx, hexL_lo hlt]; rfl
      have HX := Lib.hid hres
      have HC := Lib.hid hcell
      clear hcell hx hres hpow hm hmn hc
      have hsl := slice65 g q (by omega)
      go_wp2_with (first
        | ((with_reducible show wpList _ _ _ (Oper.mk _ (Op.store _ _ _) _ _ _ _ :: _) _ _); refine wpList_putS rfl _ _ _ rfl S _ _ rfl _ rfl rfl rfl 0 _ _ rfl u8Size (by omega) ?_; clear S; intro w1 S; (first | simp only [List.set_cons_zero] at S | simp only [List.set_cons_succ, List.set_cons_zero] at S | skip)))
      have S2 : Ats w.heap.size w w1 [(g, 132, C.setIfInBounds q (.int .u8 (hexC m).toNat))] := by first | exact S | (rw [← hd]; exact S)
      have hcv := conv65 g q (hexC m :: T) C hk1 (by rw [List.length_cons]; omega) HC.out rfl S2
      rw [← HX.out] at hcv
      rw [hcv]
      clear S hsl
      go_wp2_with fail
      go_ret2
      exact ⟨rfl, S2.below⟩
    · have hd := digs36 ⟨m % 16, by omega⟩
      simp only at hd
      have ha := and15 m (by omega)
      have hl2 : T.length + 1 ≤ 3 := by
        have h1 : 16 ^ (T.length + 1) ≤ n := by
          rw [Nat.pow_succ, Nat.mul_comm]
          exact Nat.le_trans (Nat.mul_le_mul_right _ (by omega)) hm
        have h2 : 16 ^ (T.length + 1) < 16 ^ 4 := Nat.lt_of_le_of_lt h1 (by omega)
        have := (Nat.pow_lt_pow_iff_right (by decide : 1 < 16)).1 h2
        omega
      have hcond : decide ((16 : Int) ≤ (m : Int)) = true := by rw [decide_eq_true_eq]; omega
      have hk1 : q < C.size := by omega
      have hres : hexL n = hexL (m / 16) ++ (hexC (m % 16) :: T) := by rw [hx, hexL_hi hlt]; simp
      have hm2 : m / 16 * 16 ^ (T.length + 1) ≤ n := by
        rw [Nat.pow_succ, Nat.mul_comm (16 ^ T.length) 16, ← Nat.mul_assoc]
        exact Nat.le_trans (Nat.mul_le_mul_right _ (by omega)) hm
      have HX := Lib.hid hres
      have HC := Lib.hid hcell
      have HM := Lib.hid hm2
      clear hcell hx hres hpow hm hmn hm2
      go_wp2_with (first
        | ((with_reducible show wpList _ _ _ (Oper.mk _ (Op.store _ _ _) _ _ _ _ :: _) _ _); refine wpList_putS rfl _ _ _ rfl S _ _ rfl _ rfl rfl rfl 0 _ _ rfl u8Size (by omega) ?_; clear S; intro w1 S; (first | simp only [List.set_cons_zero] at S | simp only [List.set_cons_succ, List.set_cons_zero] at S | skip)))
      have S2 : Ats w.heap.size w w1 [(g, 132, C.setIfInBounds q (.int .u8 (hexC (m % 16)).toNat))] := by first | exact S | (rw [← hd]; exact S)
      go_roundw
      case rel => exact ⟨q, m / 16, _, hexC (m % 16) :: T, rfl, rfl, by simpa using hC, by rw [List.length_cons]; omega, HX.out, HM.out, by rw [List.length_cons]; omega, set65 q _ T C hk1 HC.out, S2⟩
      case measure => simp [intOf]; omega
set_option maxHeartbeats 2000000 in
theorem fmt16_any (n : Nat) (w : World) (hn : n < 65536) (hD : DB w) :
    Calls Tryz.prog 61 #[.int .u64 n, .int .i64 16] w fun e w' => e = .returned (.string ⟨(hexL n).toArray⟩) ∧ Below w.heap.size w w' := by
  have H := Lib.hid (fun w (h : DB w) => fmtBits_any n w hn h)
  have HD := Lib.hid hD
  clear hD
  go_enter Tryz.func61, Tryz.ntmps61
  go_wp2_with (first
    | ((with_reducible refine (H.out _ HD.out).mono ?_); rintro e w2 ⟨rfl, hb⟩)
    | go_in)
  go_ret
  exact ⟨rfl, hb⟩
end Go.Proofs.YthbdeafbdmbabaaGreatDoor
