/- Texts behind a law of this seat, in order: Addr8, Addr9, Ref9f, Math14. -/
import Derived.Test.YthbdeafbdmbabaaGreatDoorPa
import Derived.Test.YthbdeafbdmbabaaGreatDoorPb
import Derived.Test.YthbdeafbdmbabaaGreatDoorPc
import Derived.Test.YthbdeafbdmbabaaGreatDoorPd
import Derived.Test.YthbdeafbdmbabaaGreatDoorPe
import Derived.Test.YthbdeafbdmbabaaGreatDoorPf
import Derived.Test.YthbdeafbdmbabaaGreatDoorPg
import Derived.Test.YthbdeafbdmbabaaGreatDoorPh
import Derived.Test.YthbdeafbdmbabaaGreatDoorPi
import Derived.Test.YthbdeafbdmbabaaGreatDoorPj
import Derived.Test.YthbdeafbdmbabaaGreatDoorPk
import Derived.Test.YthbdeafbdmbabaaGreatDoorPl
import Derived.Test.YthbdeafbdmbabaaGreatDoorPm
import Derived.Test.YthbdeafbdmbabaaGreatDoorPn
import Derived.Test.YthbdeafbdmbabaaGreatDoorPo
import Derived.Test.YthbdeafbdmbabaaGreatDoorPp
import Derived.Test.YthbdeafbdmbabaaGreatDoorPq
import Derived.Test.YthbdeafbdmbabaaGreatDoorPr
import Derived.Test.YthbdeafbdmbabaaGreatDoorPs
import Derived.Test.YthbdeafbdmbabaaGreatDoorPt
import Derived.Test.YthbdeafbdmbabaaGreatDoorPu
import Derived.Test.YthbdeafbdmbabaaGreatDoorPv
import Derived.Test.YthbdeafbdmbabaaGreatDoorPw
import Derived.Test.YthbdeafbdmbabaaGreatDoorPx
import Derived.Test.YthbdeafbdmbabaaGreatDoorPy
import Derived.Test.YthbdeafbdmbabaaGreatDoorPz
import Derived.Test.YthbdeafbdmbabaaGreatDoorQa
import Derived.Test.YthbdeafbdmbabaaGreatDoorQb
import Derived.Test.YthbdeafbdmbabaaGreatDoorQc
import Derived.Test.YthbdeafbdmbabaaGreatDoorQd
import Derived.Test.YthbdeafbdmbabaaGreatDoorQe
import Derived.Test.YthbdeafbdmbabaaGreatDoorQf
import Derived.Test.YthbdeafbdmbabaaGreatDoorQg
import Derived.Below
import Derived.BigQuiet
import Derived.BigRegion
import Derived.ChangeSlices
import Derived.Deep.AppendLies
import Derived.Deep.Draws
import Derived.Deep.OwnRows
import Derived.Deep.Quiet
import Derived.Deep.QuietTactic
import Derived.Deep.RegionLaw
import Derived.Great.Ranges
import Derived.Handed
import Derived.Handy
import Derived.Laws.AppendOwnNone
import Derived.Laws.Bits64b
import Derived.Laws.BitsAllLaws
import Derived.Laws.CopyOwn
import Derived.Laws.OwnMore
import Derived.Laws.Rows
import Derived.Laws.StructEq
import Derived.Lib.AppendZeros
import Derived.Lib.AppendZerosOnto
import Derived.Lib.Bytealg
import Derived.Lib.DecodeN
import Derived.Lib.Hide
import Derived.Lib.ItoaLen
import Derived.Lib.ItoaMem
import Derived.Lib.ItoaNum
import Derived.Lib.Join
import Derived.Lib.Overlaps
import Derived.Lib.RuneBytes
import Derived.Lib.SmallJoins
import Derived.Lib.Split
import Derived.Lib.SplitLaws
import Derived.Lib.Strings
import Derived.OpenShut
import Derived.Shelf.LaysM
import Derived.Shelf.Small.Bits
import Derived.Shelf.Small.Strs
import Derived.Shelf.Strconv.Itoa0
import Derived.Shelf.Strconv.Itoa1
import Derived.Shelf.Strconv.Itoa2
import Derived.Shelf.Strconv.Itoa3
import Derived.Shelf.Strings.Builder1
import Derived.Shelf.Strings.Builder2
import Derived.Shelf.Strings.Builder2Cap
import Derived.Shelf.Strings.BuilderCap
import Derived.Shelf.Strings.BuilderF
import Derived.Shelf.Strings.BuilderK
import Derived.Shelf.Strings.Count
import Derived.Shelf.Strings.Cut
import Derived.Shelf.Strings.OnBuilder
import Derived.Shelf.Strings.Prefix
import Derived.Shelf.Strings.Search1
import Derived.Shelf.Strings.Search2
import Derived.Shelf.Strings.Search3
import Derived.Shelf.Strings.Shaped
import Derived.Shelf.Strings.Split
import Derived.Shelf.Strings.SplitShaped
import Derived.Shelf.Unicode.Decode
import Derived.Shelf.Unicode.DecodeAny
import Derived.Shelf.Unicode.DecodeSlow
import Derived.SizedLaws
import Derived.SliceStrings
import Derived.StillTailTactics
import Derived.Stop.BytesEq
import Derived.Test.YthbdeafbdmbabaaGreatDoorProg
import Derived.WalkKit
import Derived.WalkLawsBesides
import Derived.WalkSpells
namespace Go.Proofs.YthbdeafbdmbabaaGreatDoor
open Go.RowKit Go
set_option linter.unusedVariables false
set_option maxRecDepth 100000
def byteR (L : List (List UInt8)) (i : Nat) : UInt8 := UInt8.ofNat (16 * digV (L.getD (2 * (16 - i) - 1) []) + digV (L.getD (2 * (16 - i) - 2) []))
def byteQ (L : List (List UInt8)) (i : Nat) : UInt8 := UInt8.ofNat (numR (L.getD (3 - i) []) 255).1.toNat
def partB (b : Nat → UInt8) (k : Nat) : List UInt8 := (List.range 16).map fun i => if i < k then b i else 0
def saidE (L : List (List UInt8)) : Ad := if L.length = 6 then ⟨4, partB (byteQ L) 4, 0⟩ else if L.length = 34 then ⟨6, partB (byteR L) 16, 0⟩ else ⟨0, zero16, 0⟩
theorem partB_len (b : Nat → UInt8) (k : Nat) : (partB b k).length = 16 := by simp [partB]
theorem partB_set (b : Nat → UInt8) (k : Nat) (hk : k < 16) : (partB b k).set k (b k) = partB b (k + 1) := by
  refine List.ext_getElem (by simp [partB]) fun i h1 h2 => ?_
  rw [List.getElem_set]
  simp only [partB, List.getElem_map, List.getElem_range]
  by_cases h : k = i
  · subst h; rw [if_pos rfl, if_pos (by omega)]
  · rw [if_neg h]
    by_cases h' : i < k
    · rw [if_pos h', if_pos (by omega)]
    · rw [if_neg h', if_neg (by omega)]
theorem saidE_len (L : List (List UInt8)) : (saidE L).ip.length = 16 := by
  unfold saidE
  split
  · exact partB_len _ _
  · split
    · exact partB_len _ _
    · rfl
theorem numR_bd9 (l : List UInt8) (m : Int) (h : 0 ≤ m) : 0 ≤ (numR l m).1 ∧ (numR l m).1 ≤ m := by
  unfold numR
  split
  · exact ⟨Int.le_refl _, h⟩
  · split
    · exact ⟨Int.le_refl _, h⟩
    · constructor
      · show (0 : Int) ≤ (numL l : Nat); omega
      · show ((numL l : Nat) : Int) ≤ m; omega
theorem wrap_u8 (n : Nat) (h : n < 256) : IntKind.u8.wrap (n : Int) = n := by
  have h0 : ∀ d : Fin 256, IntKind.u8.wrap ((d.val : Nat) : Int) = d.val := by decide +kernel
  exact h0 ⟨n, h⟩
theorem or_nib (d e : Nat) (hd : d < 16) (he : e < 16) : bits BinOp.or IntKind.u8 ((d : Int) * 16) (e : Int) = ((16 * d + e : Nat) : Int) := by
  have h := u8_or_nat (d * 16) e (by omega) (by omega)
  have e2 := Nat.shiftLeft_add_eq_or_of_lt (show e < 2 ^ 4 by omega) d
  rw [Nat.shiftLeft_eq] at e2
  rw [← show d * 16 + e = d * 16 ||| e from e2] at h
  rw [show ((d : Int) * 16) = ((d * 16 : Nat) : Int) by omega, h]
  omega
theorem texts_cell {w : World} {A : Option Addr} {n : Nat} {L : List (List UInt8)} (hl : TextsAt w A n L) (hn : 0 < n) : ∃ b o, A = some ⟨b, o, none⟩ ∧ ∀ j, j < L.length → w.cell? ⟨b, o + j, none⟩ = some (.string ⟨(L.getD j []).toArray⟩) := by
  obtain ⟨b, o, hA, _, hc⟩ := hl.2 hn
  refine ⟨b, o, hA, fun j hj => ?_⟩
  have := hc j hj
  rw [this, List.getD_eq_getElem?_getD, List.getElem?_eq_getElem hj]
  rfl
theorem lab_len {L : List (List UInt8)} (h : sizeL L ≤ 3000) (j : Nat) : (L.getD j []).length ≤ 3000 := by
  rw [List.getD_eq_getElem?_getD]
  cases hj : L[j]? with
  | none => simp
  | some x =>
    have := size_lab L x (List.mem_of_getElem? hj)
    simp only [Option.getD_some]
    omega
set_option maxHeartbeats 4000000 in
theorem said_any (A : Option Addr) (n c : Nat) (L : List (List UInt8)) (w : World) (hl : TextsAt w A n L) (hsz : sizeL L ≤ 3000) :
    Calls Tryz.prog 47 #[.slice A n c] w fun e w' => e = .returned (adV (saidE L).fam (saidE L).ip 0) ∧ Below w.heap.size w w' := by
  have S := Ats.start w
  obtain rfl := hl.1
  by_cases h6 : L.length = 6
  · obtain ⟨b, o, rfl, hc⟩ := texts_cell hl (by omega)
    have hR : saidE L = ⟨4, partB (byteQ L) 4, 0⟩ := by unfold saidE; rw [if_pos h6]
    rw [hR]
    have hlen := lab_len hsz
    have t6 : ((L.length : Int) == 6) = true := by rw [h6]; rfl
    obtain ⟨m, hm⟩ : ∃ m, m = L.length := ⟨_, rfl⟩
    rw [← hm] at hc t6 h6 ⊢
    have HC := Lib.hid hc
    have H6 := Lib.hid h6
    clear hc hR hl h6 hm
    go_enter Tryz.func47, Tryz.ntmps47
    go_wp2_with (first
      | ((with_reducible show wpList _ _ _ (Oper.mk (some 2) (Op.alloc _) _ _ _ _ :: _) _ _); refine wpList_allocS rfl _ rfl _ adZero S ?_; clear S; intro gr w1 S)
      | ((with_reducible show wpList _ _ _ (Oper.mk (some 3) (Op.alloc _) _ _ _ _ :: _) _ _); refine wpList_allocS rfl _ rfl _ adZero S ?_; clear S; intro ga w1 S)
      | ((with_reducible show wpList _ _ _ (Oper.mk _ (Op.store _ (Operand.tmp 12) _) _ _ _ _ :: _) _ _); refine wpList_putS rfl _ _ _ rfl S _ _ rfl _ rfl rfl rfl 0 _ _ rfl intSize (by decide) ?_; clear S; intro w1 S; (first | simp only [List.set_cons_zero] at S | simp only [List.set_cons_succ, List.set_cons_zero] at S | skip)))
    have S : Ats w.heap.size w w1 [(ga, 24, (adCs 4 (partB (byteQ L) 0) 0).toArray), (gr, 24, (adCs 0 zero16 0).toArray)] := S
    go_loopw [13] (fun i wr => ∃ k : Nat, k ≤ 4 ∧ i = .int .i64 k ∧ Ats w.heap.size w wr [(ga, 24, (adCs 4 (partB (byteQ L) k) 0).toArray), (gr, 24, (adCs 0 zero16 0).toArray)]) (fun i _ => 4 - (intOf i).toNat)
    case atStart => exact ⟨0, Nat.zero_le _, rfl, S⟩
    case round =>
      obtain ⟨k, hk, rfl, S⟩ := hrel
      by_cases hlt : k < 4
      · have h6' := H6.out
        have c0 := HC.out (3 - k) (by omega)
        have e1 : IntKind.i64.wrap (3 - (k : Int)) = ((3 - k : Nat) : Int) := by rw [IntWalk.i64_in _ (by omega)]; omega
        have b1 : (3 - k : Nat) < m := by omega
        have hx := hlen (3 - k)
        have hs := partB_set (byteQ L) k (by omega)
        have hb : byteQ L k = UInt8.ofNat (numR (L.getD (3 - k) []) 255).1.toNat := rfl
        obtain ⟨x, hxe⟩ : ∃ x, x = L.getD (3 - k) [] := ⟨_, rfl⟩
        obtain ⟨j, hj⟩ : ∃ j : Nat, j = 3 - k := ⟨_, rfl⟩
        rw [← hxe] at c0 hx hb
        rw [← hj] at c0 e1 b1
        have hnm : ∀ w, Calls Tryz.prog 65 #[.string ⟨x.toArray⟩, .int .i64 255] w fun e w' => e = .returned (.tuple #[.int .i64 (numR x 255).1, .int .i64 (numR x 255).2]) ∧ w = w' := fun w => (number_any ⟨x.toArray⟩ 255 w (by show x.length ≤ 4000; omega) (by decide) (by decide)).mono fun e w' ⟨h, h'⟩ => ⟨numP_R h, h'⟩
        have hbd := numR_bd9 x 255 (by decide)
        obtain ⟨v, hv⟩ : ∃ v : Nat, (v : Int) = (numR x 255).1 := ⟨(numR x 255).1.toNat, Int.toNat_of_nonneg hbd.1⟩
        obtain ⟨er, her⟩ : ∃ er, er = (numR x 255).2 := ⟨_, rfl⟩
        rw [← hv] at hb hbd
        rw [← hv, ← her] at hnm
        have hw : IntKind.u8.wrap (v : Int) = ((byteQ L k).toNat : Nat) := by
          rw [wrap_u8 v (by omega), hb]
          simp
          omega
        obtain ⟨q, hq⟩ : ∃ q, q = byteQ L k := ⟨_, rfl⟩
        rw [← hq] at hs hw
        have hst := ad_setByte 4 0 (partB (byteQ L) k) k q (by rw [partB_len]; omega)
        rw [hs] at hst
        have hpl := partB_len (byteQ L) k
        obtain ⟨P0, hP0⟩ : ∃ P, P = partB (byteQ L) k := ⟨_, rfl⟩
        rw [← hP0] at hst hpl S
        have C0 := Lib.hid c0
        have HN := Lib.hid hnm
        have HS := Lib.hid hst
        have HLT := Lib.hid hlt
        have hk16 : k < 16 := by omega
        have hsz0 : 1 + k < (adCs 4 P0 0).toArray.size := by rw [List.size_toArray, adCs_len, hpl]; omega
        have d1 : decide ((k : Int) < 4) = true := decide_eq_true (by omega)
        have b2 : (j : Int) < m := by omega
        clear c0 hx hs hb hxe hj hnm hbd hv her hq hst hP0 h6' hlen
        go_wp2_with (first
          | ((with_reducible show wpList _ _ _ (Oper.mk _ (Op.load _ _) _ _ _ _ :: _) _ _); refine wpList_oldS rfl _ _ rfl S _ rfl _ (by with_reducible with_reducible exact C0.out) _ Tryz.underlying9 rfl ?_)
          | ((with_reducible refine (HN.out _).mono ?_); rintro e w2 ⟨rfl, hq⟩; subst hq)
          | ((with_reducible show wpList _ _ _ (Oper.mk _ (Op.store _ (Operand.tmp 29) _) _ _ _ _ :: _) _ _); refine wpList_putS rfl _ _ _ rfl S _ _ rfl _ rfl rfl rfl 0 _ _ rfl u8Size (by exact hsz0) ?_; clear S; intro w1 S; (first | simp only [List.set_cons_zero] at S | simp only [List.set_cons_succ, List.set_cons_zero] at S | skip)))
        have S : Ats w.heap.size w w1 [(ga, 24, (adCs 4 P0 0).toArray.setIfInBounds (1 + k) (.int .u8 q.toNat)), (gr, 24, (adCs 0 zero16 0).toArray)] := S
        rw [HS.out] at S
        go_roundw
        case rel => exact ⟨k + 1, by have := HLT.out; omega, by go_num, S⟩
        case measure => have := HLT.out; simp [intOf]; omega
      · obtain rfl : k = 4 := by omega
        have hpl := partB_len (byteQ L) 4
        have has := adSize 4 (partB (byteQ L) 4) 0 hpl
        go_wp2_with (first
          | ((with_reducible show wpList _ _ _ (Oper.mk _ (Op.load _ (Operand.tmp 3)) _ _ _ _ :: _) _ _); refine wpList_loadS rfl _ _ rfl S _ rfl 0 _ _ rfl _ Tryz.underlying24 rfl has ?_)
          | ((with_reducible show wpList _ _ _ (Oper.mk _ (Op.store _ (Operand.tmp 2) _) _ _ _ _ :: _) _ _); refine wpList_storeS rfl _ _ _ rfl S _ rfl _ rfl 1 _ _ rfl has (by exact ad_sizes _ _ _ _ _ _ rfl hpl) (by exact adCs_one _ _ _) ?_; clear S; intro w1 S; (first | simp only [List.set_cons_zero] at S | simp only [List.set_cons_succ, List.set_cons_zero] at S | skip)))
        exact bodyPost_ret (results_cellS rfl _ S _ 1 _ _ _ rfl rfl Tryz.underlying24 rfl has) rfl ⟨rfl, S.below⟩
  · have t6 : ((L.length : Int) == 6) = false := by rw [beq_eq_false_iff_ne]; omega
    by_cases h34 : L.length = 34
    · obtain ⟨b, o, rfl, hc⟩ := texts_cell hl (by omega)
      have hR : saidE L = ⟨6, partB (byteR L) 16, 0⟩ := by unfold saidE; rw [if_neg h6, if_pos h34]
      rw [hR]
      have t34 : ((L.length : Int) == 34) = true := by rw [h34]; rfl
      obtain ⟨m, hm⟩ : ∃ m, m = L.length := ⟨_, rfl⟩
      rw [← hm] at hc t6 t34 h34 ⊢
      have HC := Lib.hid hc
      have H34 := Lib.hid h34
      clear hc hR hl h6 h34 hm
      go_enter Tryz.func47, Tryz.ntmps47
      go_wp2_with (first
        | ((with_reducible show wpList _ _ _ (Oper.mk (some 2) (Op.alloc _) _ _ _ _ :: _) _ _); refine wpList_allocS rfl _ rfl _ adZero S ?_; clear S; intro gr w1 S)
        | ((with_reducible show wpList _ _ _ (Oper.mk (some 3) (Op.alloc _) _ _ _ _ :: _) _ _); refine wpList_allocS rfl _ rfl _ adZero S ?_; clear S; intro ga w1 S)
        | ((with_reducible show wpList _ _ _ (Oper.mk _ (Op.store _ (Operand.tmp 33) _) _ _ _ _ :: _) _ _); refine wpList_putS rfl _ _ _ rfl S _ _ rfl _ rfl rfl rfl 0 _ _ rfl intSize (by decide) ?_; clear S; intro w1 S; (first | simp only [List.set_cons_zero] at S | simp only [List.set_cons_succ, List.set_cons_zero] at S | skip)))
      have S : Ats w.heap.size w w1 [(ga, 24, (adCs 6 (partB (byteR L) 0) 0).toArray), (gr, 24, (adCs 0 zero16 0).toArray)] := S
      go_loopw [34] (fun i wr => ∃ k : Nat, k ≤ 16 ∧ i = .int .i64 k ∧ Ats w.heap.size w wr [(ga, 24, (adCs 6 (partB (byteR L) k) 0).toArray), (gr, 24, (adCs 0 zero16 0).toArray)]) (fun i _ => 16 - (intOf i).toNat)
      case atStart => exact ⟨0, Nat.zero_le _, rfl, S⟩
      case round =>
        obtain ⟨k, hk, rfl, S⟩ := hrel
        by_cases hlt : k < 16
        · have h34' := H34.out
          have c0 := HC.out (2 * (16 - k) - 1) (by omega)
          have c1 := HC.out (2 * (16 - k) - 2) (by omega)
          rw [← S.below.cell (block_lt_of_cell c0)] at c0
          rw [← S.below.cell (block_lt_of_cell c1)] at c1
          have e0 : IntKind.i64.wrap (16 - (k : Int)) = 16 - (k : Int) := IntWalk.i64_in _ (by omega)
          have e1 : IntKind.i64.wrap (2 * (16 - (k : Int))) = 2 * (16 - (k : Int)) := IntWalk.i64_in _ (by omega)
          have e2 : IntKind.i64.wrap (2 * (16 - (k : Int)) - 1) = ((2 * (16 - k) - 1 : Nat) : Int) := by rw [IntWalk.i64_in _ (by omega)]; omega
          have e3 : IntKind.i64.wrap (2 * (16 - (k : Int)) - 2) = ((2 * (16 - k) - 2 : Nat) : Int) := by rw [IntWalk.i64_in _ (by omega)]; omega
          have b1 : (2 * (16 - k) - 1 : Nat) < m := by omega
          have b2 : (2 * (16 - k) - 2 : Nat) < m := by omega
          have hs := partB_set (byteR L) k (by omega)
          have hb : byteR L k = UInt8.ofNat (16 * digV (L.getD (2 * (16 - k) - 1) []) + digV (L.getD (2 * (16 - k) - 2) [])) := rfl
          obtain ⟨j1, hj1⟩ : ∃ j : Nat, j = 2 * (16 - k) - 1 := ⟨_, rfl⟩
          obtain ⟨j2, hj2⟩ : ∃ j : Nat, j = 2 * (16 - k) - 2 := ⟨_, rfl⟩
          rw [← hj1] at c0 e2 b1 hb
          rw [← hj2] at c1 e3 b2 hb
          have hv1 := fun w => aValue_any (L.getD j1 []) w
          have hv2 := fun w => aValue_any (L.getD j2 []) w
          have hd1 := digV_lt (L.getD j1 [])
          have hd2 := digV_lt (L.getD j2 [])
          obtain ⟨p1, hp1⟩ : ∃ p, p = digV (L.getD j1 []) := ⟨_, rfl⟩
          obtain ⟨p2, hp2⟩ : ∃ p, p = digV (L.getD j2 []) := ⟨_, rfl⟩
          rw [← hp1] at hv1 hd1 hb
          rw [← hp2] at hv2 hd2 hb
          have hsh : IntKind.u8.wrap ((p1 : Int) * 16) = ((p1 * 16 : Nat) : Int) := by rw [show ((p1 : Int) * 16) = ((p1 * 16 : Nat) : Int) by omega]; exact wrap_u8 _ (by omega)
          have hor := or_nib p1 p2 hd1 hd2
          have hbn : ((16 * p1 + p2 : Nat) : Int) = ((byteR L k).toNat : Nat) := by
            rw [hb]
            simp
            omega
          rw [hbn] at hor
          obtain ⟨q, hq⟩ : ∃ q, q = byteR L k := ⟨_, rfl⟩
          rw [← hq] at hs hor
          have hst := ad_setByte 6 0 (partB (byteR L) k) k q (by rw [partB_len]; omega)
          rw [hs] at hst
          have hpl := partB_len (byteR L) k
          obtain ⟨P0, hP0⟩ : ∃ P, P = partB (byteR L) k := ⟨_, rfl⟩
          rw [← hP0] at hst hpl S
          obtain ⟨x1, hx1⟩ : ∃ x : ByteArray, x = ⟨(L.getD j1 []).toArray⟩ := ⟨_, rfl⟩
          obtain ⟨x2, hx2⟩ : ∃ x : ByteArray, x = ⟨(L.getD j2 []).toArray⟩ := ⟨_, rfl⟩
          rw [← hx1] at c0 hv1
          rw [← hx2] at c1 hv2
          have hv1s : ∀ w, Calls Tryz.prog 71 #[.string x1] w fun e w'' => e = .returned (.int .u8 p1) ∧ w'' = w := fun w => (hv1 w).mono fun e w'' ⟨h, h'⟩ => ⟨h, h'.symm⟩
          have HV1 := Lib.hid hv1s
          have hv2s : ∀ w, Calls Tryz.prog 71 #[.string x2] w fun e w'' => e = .returned (.int .u8 p2) ∧ w'' = w := fun w => (hv2 w).mono fun e w'' ⟨h, h'⟩ => ⟨h, h'.symm⟩
          have HV2 := Lib.hid hv2s
          have HS := Lib.hid hst
          have HLT := Lib.hid hlt
          have hk16 : k < 16 := by omega
          have hsz0 : 1 + k < (adCs 6 P0 0).toArray.size := by rw [List.size_toArray, adCs_len, hpl]; omega
          have d1 : decide ((k : Int) < 16) = true := decide_eq_true (by omega)
          have hk16' : (k : Int) < 16 := by omega
          have b3 : (j1 : Int) < m := by omega
          have b4 : (j2 : Int) < m := by omega
          clear hs hb hj1 hj2 hp1 hp2 hd1 hd2 hbn hq hst hP0 hx1 hx2 h34' hv1 hv2 hv1s hv2s
          go_wp2_with fail
          refine wp_region_still_tail 21 (by kernel_rfl) (by kernel_rfl) ?_
          simp only [List.take_succ_cons, List.take_zero, List.drop_succ_cons, List.drop_zero]
          repeat (first
            | still_step
            | (refine wpStill_step (fun K hK => ?_); go_simp; (with_reducible refine ⟨_, (HV1.out _), hK _ ?_⟩); clear hK K)
            | (refine wpStill_step (fun K hK => ?_); go_simp; (with_reducible refine ⟨_, (HV2.out _), hK _ ?_⟩); clear hK K))
          refine wpStill_nil ?_
          change wpList _ _ _ _ _ wr.drew
          have S := S.drew
          generalize wr.drew = w2 at S ⊢
          go_wp2_with (first
            | ((with_reducible show wpList _ _ _ (Oper.mk _ (Op.store _ (Operand.tmp 57) _) _ _ _ _ :: _) _ _); refine wpList_putS rfl _ _ _ rfl S _ _ rfl _ rfl rfl rfl 0 _ _ rfl u8Size (by exact hsz0) ?_; clear S; intro w1 S; (first | simp only [List.set_cons_zero] at S | simp only [List.set_cons_succ, List.set_cons_zero] at S | skip)))
          have S : Ats w.heap.size w w1 [(ga, 24, (adCs 6 P0 0).toArray.setIfInBounds (1 + k) (.int .u8 q.toNat)), (gr, 24, (adCs 0 zero16 0).toArray)] := S
          rw [HS.out] at S
          go_roundw
          case rel => exact ⟨k + 1, by have := HLT.out; omega, by go_num, S⟩
          case measure => have := HLT.out; simp [intOf]; omega
        · obtain rfl : k = 16 := by omega
          have hpl := partB_len (byteR L) 16
          have has := adSize 6 (partB (byteR L) 16) 0 hpl
          go_wp2_with (first
            | ((with_reducible show wpList _ _ _ (Oper.mk _ (Op.load _ (Operand.tmp 3)) _ _ _ _ :: _) _ _); refine wpList_loadS rfl _ _ rfl S _ rfl 0 _ _ rfl _ Tryz.underlying24 rfl has ?_)
            | ((with_reducible show wpList _ _ _ (Oper.mk _ (Op.store _ (Operand.tmp 2) _) _ _ _ _ :: _) _ _); refine wpList_storeS rfl _ _ _ rfl S _ rfl _ rfl 1 _ _ rfl has (by exact ad_sizes _ _ _ _ _ _ rfl hpl) (by exact adCs_one _ _ _) ?_; clear S; intro w1 S; (first | simp only [List.set_cons_zero] at S | simp only [List.set_cons_succ, List.set_cons_zero] at S | skip)))
          exact bodyPost_ret (results_cellS rfl _ S _ 1 _ _ _ rfl rfl Tryz.underlying24 rfl has) rfl ⟨rfl, S.below⟩
    · have hR : saidE L = ⟨0, zero16, 0⟩ := by unfold saidE; rw [if_neg h6, if_neg h34]
      have t34 : ((L.length : Int) == 34) = false := by rw [beq_eq_false_iff_ne]; omega
      rw [hR]
      obtain ⟨m, hm⟩ : ∃ m, m = L.length := ⟨_, rfl⟩
      rw [← hm] at t6 t34 ⊢
      clear hR hl h6 h34 hm hsz
      go_enter Tryz.func47, Tryz.ntmps47
      go_wp2_with (first
        | ((with_reducible show wpList _ _ _ (Oper.mk (some 2) (Op.alloc _) _ _ _ _ :: _) _ _); refine wpList_allocS rfl _ rfl _ adZero S ?_; clear S; intro gr w1 S)
        | ((with_reducible show wpList _ _ _ (Oper.mk (some 3) (Op.alloc _) _ _ _ _ :: _) _ _); refine wpList_allocS rfl _ rfl _ adZero S ?_; clear S; intro ga w1 S)
        | ((with_reducible show wpList _ _ _ (Oper.mk _ (Op.load _ (Operand.tmp 3)) _ _ _ _ :: _) _ _); refine wpList_loadS rfl _ _ rfl S _ rfl 0 _ _ rfl _ Tryz.underlying24 rfl adInfo ?_)
        | ((with_reducible show wpList _ _ _ (Oper.mk _ (Op.store _ (Operand.tmp 2) _) _ _ _ _ :: _) _ _); refine wpList_storeS rfl _ _ _ rfl S _ rfl _ rfl 1 _ _ rfl adInfo (by rfl) (by exact adCs_one _ _ _) ?_; clear S; intro w1 S; (first | simp only [List.set_cons_zero] at S | simp only [List.set_cons_succ, List.set_cons_zero] at S | skip)))
      exact bodyPost_ret (results_cellS rfl _ S _ 1 _ _ _ rfl rfl Tryz.underlying24 rfl adInfo) rfl ⟨rfl, S.below⟩
end Go.Proofs.YthbdeafbdmbabaaGreatDoor
namespace Go.Proofs.YthbdeafbdmbabaaGreatDoor
open Go.RowKit Go
set_option linter.unusedVariables false
set_option maxRecDepth 100000
def unrevP (L : List (List UInt8)) : Option (Int × List UInt8) := if bitsF (saidE L).fam ≠ 0 ∧ sameN (revL (saidE L).fam (saidE L).ip) L = true then some ((saidE L).fam, (saidE L).ip) else none
def unV : Option (Int × List UInt8) → Value
  | some a => .tuple #[adV a.1 a.2 0, .bool true]
  | none => .tuple #[adV 0 zero16 0, .bool false]
theorem sizeL_app (a b : List (List UInt8)) : sizeL (a ++ b) + 1 = sizeL a + sizeL b := by
  unfold sizeL
  rw [List.map_append, List.sum_append]
  omega
theorem rev4_size (ip : List UInt8) (k : Nat) : sizeL (rev4 ip k) ≤ 1 + 4 * k := by
  induction k with
  | zero => exact Nat.le_refl _
  | succ k ih =>
    rw [rev4_succ]
    have h := sizeL_app (rev4 ip k) [Lib.decDigits (ip.getD (3 - k) 0).toNat]
    have h2 := (dec_byte (ip.getD (3 - k) 0)).2.2.1
    have h3 : sizeL [Lib.decDigits (ip.getD (3 - k) 0).toNat] = (Lib.decDigits (ip.getD (3 - k) 0).toNat).length + 2 := by simp [sizeL]; omega
    omega
theorem rev6_size (ip : List UInt8) (k : Nat) : sizeL (rev6 ip k) ≤ 1 + 4 * k := by
  induction k with
  | zero => exact Nat.le_refl _
  | succ k ih =>
    rw [rev6_succ]
    have h := sizeL_app (rev6 ip k) (hex2 (ip.getD (15 - k) 0))
    have h3 : sizeL (hex2 (ip.getD (15 - k) 0)) = 5 := rfl
    omega
theorem revL_size (f : Int) (ip : List UInt8) : sizeL (revL f ip) ≤ 100 := by
  unfold revL
  split
  · have h := sizeL_app (rev4 ip 4) [lInaddr, lArpa]
    have h1 := rev4_size ip 4
    have h2 : sizeL [lInaddr, lArpa] = 14 := rfl
    omega
  · split
    · have h := sizeL_app (rev6 ip 16) [lIp6, lArpa]
      have h1 := rev6_size ip 16
      have h2 : sizeL [lIp6, lArpa] = 10 := rfl
      omega
    · decide
set_option maxHeartbeats 4000000 in
theorem aUnreverse_any (A : Option Addr) (n c : Nat) (L : List (List UInt8)) (w : World) (hl : TextsAt w A n L) (hsz : sizeL L ≤ 3000) (hP : P10 w) (hD : DB w) :
    Calls Tryz.prog 26 #[.slice A n c] w fun e w' => e = .returned (unV (unrevP L)) ∧ Below w.heap.size w w' := by
  have S := Ats.start w
  have h1 := fun w (h : TextsAt w A n L) => said_any A n c L w h hsz
  have hal := saidE_len L
  have hE : unrevP L = if bitsF (saidE L).fam ≠ 0 ∧ sameN (revL (saidE L).fam (saidE L).ip) L = true then some ((saidE L).fam, (saidE L).ip) else none := rfl
  obtain ⟨R, hR⟩ : ∃ R, R = unrevP L := ⟨_, rfl⟩
  rw [← hR] at hE ⊢
  obtain ⟨f, hf⟩ : ∃ f, f = (saidE L).fam := ⟨_, rfl⟩
  obtain ⟨ip, hip⟩ : ∃ ip, ip = (saidE L).ip := ⟨_, rfl⟩
  rw [← hf, ← hip] at h1 hE
  rw [← hip] at hal
  have h2 := fun w => aBits_any f 0 ip w hal
  have h3 := fun w (h : P10 w) (h' : DB w) => aReverse_any f 0 ip w hal h h'
  have hrs := revL_size f ip
  have h4 := fun (A' : Option Addr) n' c' w (h : TextsAt w A' n' (revL f ip)) (h' : TextsAt w A n L) => sameD_any A' A n' n c' c (revL f ip) L w h h' (by omega) hsz
  have has := adSize f ip 0 hal
  obtain ⟨N, hN⟩ : ∃ N, N = bitsF f := ⟨_, rfl⟩
  obtain ⟨V, hV⟩ : ∃ V, V = revL f ip := ⟨_, rfl⟩
  rw [← hV] at h3 h4 hE
  obtain ⟨b, hb⟩ : ∃ b, b = sameN V L := ⟨_, rfl⟩
  rw [← hN] at h2 hE
  rw [← hb] at h4 hE
  have hPd : ∀ wr L, Ats w.heap.size w wr L → P10 wr := fun wr L h => hP.below (Nat.le_refl _) h.below
  have hDd : ∀ wr L, Ats w.heap.size w wr L → DB wr := fun wr L h => hD.below (Nat.le_refl _) h.below
  have hTd : ∀ wr L', Ats w.heap.size w wr L' → TextsAt wr A n L := fun wr L' h => hl.below h.below
  have HPd := Lib.hid hPd
  have HDd := Lib.hid hDd
  have HTd := Lib.hid hTd
  have H1 := Lib.hid h1
  have H2 := Lib.hid h2
  have H3 := Lib.hid h3
  have H4 := Lib.hid h4
  clear hPd hDd hTd hP hD h1 h2 h3 h4 hR hf hip hV hb hl
  by_cases hn : N = 0
  · have hE' : R = none := by rw [hE, if_neg (fun h => h.1 hn)]
    subst hE'
    have hn0 : (((N : Nat) : Int) == 0) = true := by rw [hn]; rfl
    clear hE hN hn
    go_enter Tryz.func26, Tryz.ntmps26
    go_wp2_with (first
      | ((with_reducible show wpList _ _ _ (Oper.mk (some 2) (Op.alloc _) _ _ _ _ :: _) _ _); refine wpList_allocS rfl _ rfl _ adZero S ?_; clear S; intro gr w1 S)
      | ((with_reducible refine (H1.out _ (HTd.out _ _ S)).mono ?_); rintro e w2 ⟨rfl, hb⟩; have S := S.call hb; clear hb)
      | ((with_reducible refine (H2.out _).mono ?_); rintro e w2 ⟨rfl, hb⟩; have S := S.call hb; clear hb)
      | ((with_reducible show wpList _ _ _ (Oper.mk (some 4) (Op.alloc _) _ _ _ _ :: _) _ _); refine wpList_allocS rfl _ rfl _ adZero S ?_; clear S; intro ga w1 S)
      | ((with_reducible show wpList _ _ _ (Oper.mk _ (Op.store _ (Operand.tmp 4) _) _ _ _ _ :: _) _ _); refine wpList_storeS rfl _ _ _ rfl S _ rfl _ rfl 0 _ _ rfl has (by exact ad_sizes _ _ _ _ _ _ rfl hal) (by exact adCs_one _ _ _) ?_; clear S; intro w1 S; (first | simp only [List.set_cons_zero] at S | simp only [List.set_cons_succ, List.set_cons_zero] at S | skip))
      | ((with_reducible show wpList _ _ _ (Oper.mk _ (Op.load _ (Operand.tmp 4)) _ _ _ _ :: _) _ _); refine wpList_loadS rfl _ _ rfl S _ rfl 0 _ _ rfl _ Tryz.underlying24 rfl has ?_)
      | ((with_reducible show wpList _ _ _ (Oper.mk _ (Op.store _ (Operand.tmp 2) _) _ _ _ _ :: _) _ _); refine wpList_storeS rfl _ _ _ rfl S _ rfl _ rfl 1 _ _ rfl adInfo (by rfl) (by simp [Value.oneCell']) ?_; clear S; intro w1 S; (first | simp only [List.set_cons_zero] at S | simp only [List.set_cons_succ, List.set_cons_zero] at S | skip)))
    exact bodyPost_ret (results_cell2S rfl _ S _ 1 _ _ _ rfl rfl Tryz.underlying24 rfl adInfo) rfl ⟨rfl, S.below⟩
  · have hn0 : (((N : Nat) : Int) == 0) = false := by rw [beq_eq_false_iff_ne]; omega
    cases b with
    | false =>
      have hE' : R = none := by rw [hE, if_neg (fun h => Bool.false_ne_true h.2)]
      subst hE'
      clear hE hN hn
      go_enter Tryz.func26, Tryz.ntmps26
      go_wp2_with (first
        | ((with_reducible show wpList _ _ _ (Oper.mk (some 2) (Op.alloc _) _ _ _ _ :: _) _ _); refine wpList_allocS rfl _ rfl _ adZero S ?_; clear S; intro gr w1 S)
        | ((with_reducible refine (H1.out _ (HTd.out _ _ S)).mono ?_); rintro e w2 ⟨rfl, hb⟩; have S := S.call hb; clear hb)
        | ((with_reducible refine (H2.out _).mono ?_); rintro e w2 ⟨rfl, hb⟩; have S := S.call hb; clear hb)
        | ((with_reducible refine (H3.out _ (HPd.out _ _ S) (HDd.out _ _ S)).mono ?_); rintro e w2 ⟨A', c', rfl, hta, hb⟩; have S := S.call hb; clear hb)
        | ((with_reducible refine (H4.out _ _ _ _ hta (HTd.out _ _ S)).mono ?_); rintro e w2 ⟨rfl, hb⟩; have S := S.call hb; clear hb)
        | ((with_reducible show wpList _ _ _ (Oper.mk (some 4) (Op.alloc _) _ _ _ _ :: _) _ _); refine wpList_allocS rfl _ rfl _ adZero S ?_; clear S; intro ga w1 S)
        | ((with_reducible show wpList _ _ _ (Oper.mk _ (Op.store _ (Operand.tmp 4) _) _ _ _ _ :: _) _ _); refine wpList_storeS rfl _ _ _ rfl S _ rfl _ rfl 0 _ _ rfl has (by exact ad_sizes _ _ _ _ _ _ rfl hal) (by exact adCs_one _ _ _) ?_; clear S; intro w1 S; (first | simp only [List.set_cons_zero] at S | simp only [List.set_cons_succ, List.set_cons_zero] at S | skip))
        | ((with_reducible show wpList _ _ _ (Oper.mk _ (Op.load _ (Operand.tmp 4)) _ _ _ _ :: _) _ _); refine wpList_loadS rfl _ _ rfl S _ rfl 0 _ _ rfl _ Tryz.underlying24 rfl has ?_)
        | ((with_reducible show wpList _ _ _ (Oper.mk _ (Op.store _ (Operand.tmp 2) _) _ _ _ _ :: _) _ _); refine wpList_storeS rfl _ _ _ rfl S _ rfl _ rfl 1 _ _ rfl adInfo (by rfl) (by simp [Value.oneCell']) ?_; clear S; intro w1 S; (first | simp only [List.set_cons_zero] at S | simp only [List.set_cons_succ, List.set_cons_zero] at S | skip)))
      exact bodyPost_ret (results_cell2S rfl _ S _ 1 _ _ _ rfl rfl Tryz.underlying24 rfl adInfo) rfl ⟨rfl, S.below⟩
    | true =>
      have hE' : R = some (f, ip) := by rw [hE, if_pos ⟨hn, rfl⟩]
      subst hE'
      clear hE hN hn
      go_enter Tryz.func26, Tryz.ntmps26
      go_wp2_with (first
        | ((with_reducible show wpList _ _ _ (Oper.mk (some 2) (Op.alloc _) _ _ _ _ :: _) _ _); refine wpList_allocS rfl _ rfl _ adZero S ?_; clear S; intro gr w1 S)
        | ((with_reducible refine (H1.out _ (HTd.out _ _ S)).mono ?_); rintro e w2 ⟨rfl, hb⟩; have S := S.call hb; clear hb)
        | ((with_reducible refine (H2.out _).mono ?_); rintro e w2 ⟨rfl, hb⟩; have S := S.call hb; clear hb)
        | ((with_reducible refine (H3.out _ (HPd.out _ _ S) (HDd.out _ _ S)).mono ?_); rintro e w2 ⟨A', c', rfl, hta, hb⟩; have S := S.call hb; clear hb)
        | ((with_reducible refine (H4.out _ _ _ _ hta (HTd.out _ _ S)).mono ?_); rintro e w2 ⟨rfl, hb⟩; have S := S.call hb; clear hb)
        | ((with_reducible show wpList _ _ _ (Oper.mk (some 4) (Op.alloc _) _ _ _ _ :: _) _ _); refine wpList_allocS rfl _ rfl _ adZero S ?_; clear S; intro ga w1 S)
        | ((with_reducible show wpList _ _ _ (Oper.mk _ (Op.store _ (Operand.tmp 4) _) _ _ _ _ :: _) _ _); refine wpList_storeS rfl _ _ _ rfl S _ rfl _ rfl 0 _ _ rfl has (by exact ad_sizes _ _ _ _ _ _ rfl hal) (by exact adCs_one _ _ _) ?_; clear S; intro w1 S; (first | simp only [List.set_cons_zero] at S | simp only [List.set_cons_succ, List.set_cons_zero] at S | skip))
        | ((with_reducible show wpList _ _ _ (Oper.mk _ (Op.load _ (Operand.tmp 4)) _ _ _ _ :: _) _ _); refine wpList_loadS rfl _ _ rfl S _ rfl 0 _ _ rfl _ Tryz.underlying24 rfl has ?_)
        | ((with_reducible show wpList _ _ _ (Oper.mk _ (Op.store _ (Operand.tmp 2) _) _ _ _ _ :: _) _ _); refine wpList_storeS rfl _ _ _ rfl S _ rfl _ rfl 1 _ _ rfl has (by exact ad_sizes _ _ _ _ _ _ rfl hal) (by exact adCs_one _ _ _) ?_; clear S; intro w1 S; (first | simp only [List.set_cons_zero] at S | simp only [List.set_cons_succ, List.set_cons_zero] at S | skip)))
      exact bodyPost_ret (results_cell2S rfl _ S _ 1 _ _ _ rfl rfl Tryz.underlying24 rfl has) rfl ⟨rfl, S.below⟩
end Go.Proofs.YthbdeafbdmbabaaGreatDoor
namespace Go.Proofs.YthbdeafbdmbabaaGreatDoor
open Go.RowKit Go
set_option linter.unusedVariables false
set_option maxRecDepth 100000
def seg6 (L : List (List UInt8)) (k : Nat) : List UInt8 := L.getD (31 - k) [] ++ (if (31 - k) % 4 = 0 ∧ 0 < 31 - k then [58] else [])
def txt6 (L : List (List UInt8)) (k : Nat) : List UInt8 := (List.range k).flatMap (seg6 L)
def dotU (L : List (List UInt8)) : List UInt8 := L.getD 3 [] ++ 46 :: (L.getD 2 [] ++ 46 :: (L.getD 1 [] ++ 46 :: L.getD 0 []))
def txtU (L : List (List UInt8)) : List UInt8 := if L.length = 6 then dotU L else if L.length = 34 then txt6 L 32 else []
def unrevR (L : List (List UInt8)) : Option (Int × List UInt8) := if (parseA (txtU L)).err = 0 ∧ sameN (revL (parseA (txtU L)).fam (parseA (txtU L)).ip) L = true then some ((parseA (txtU L)).fam, (parseA (txtU L)).ip) else none
theorem txt6_succ (L : List (List UInt8)) (k : Nat) : txt6 L (k + 1) = txt6 L k ++ seg6 L k := by
  unfold txt6; rw [List.range_succ, List.flatMap_append]; simp
theorem sizeL_cons (x : List UInt8) (l : List (List UInt8)) : sizeL (x :: l) = x.length + 1 + sizeL l := by
  unfold sizeL; simp; omega
theorem sizeL_drop (L : List (List UInt8)) (k : Nat) : sizeL (L.drop k) ≤ sizeL L := by
  induction k generalizing L with
  | zero => exact Nat.le_refl _
  | succ k ih =>
    cases L with
    | nil => exact Nat.le_refl _
    | cons x l => rw [List.drop_succ_cons, sizeL_cons]; have := ih l; omega
theorem txt6_len (L : List (List UInt8)) (h : 32 ≤ L.length) (k : Nat) (hk : k ≤ 32) : (txt6 L k).length + 1 ≤ sizeL (L.drop (32 - k)) := by
  induction k with
  | zero => have := size_len (L.drop (32 - 0)); show 0 + 1 ≤ _; omega
  | succ k ih =>
    rw [txt6_succ, List.length_append, show 32 - (k + 1) = 31 - k by omega, List.drop_eq_getElem_cons (show 31 - k < L.length by omega), sizeL_cons]
    have h1 := ih (by omega)
    rw [show 32 - k = 31 - k + 1 by omega] at h1
    have h2 : (seg6 L k).length ≤ L[31 - k].length + 1 := by
      unfold seg6
      rw [List.length_append, List.getD_eq_getElem?_getD, List.getElem?_eq_getElem (show 31 - k < L.length by omega)]
      simp only [Option.getD_some]
      split <;> simp
    omega
theorem txt4_len (L : List (List UInt8)) (h : L.length = 6) : (dotU L).length ≤ sizeL L := by
  match L, h with
  | [a, b, c, d, e, f], _ => simp [dotU, sizeL]; omega
theorem txtU_len (L : List (List UInt8)) : (txtU L).length ≤ sizeL L := by
  unfold txtU
  split
  · rename_i h; exact txt4_len L h
  · split
    · rename_i h
      have h1 := txt6_len L (by omega) 32 (Nat.le_refl _)
      have h2 := sizeL_drop L (32 - 32)
      omega
    · exact Nat.zero_le _
theorem seg6_ints (L : List (List UInt8)) (k : Nat) (hk : k < 32) : seg6 L k = L.getD (31 - k) [] ++ (if (((31 - k : Nat) : Int).tmod 4 == 0 && decide ((0 : Int) < ((31 - k : Nat) : Int))) = true then [58] else []) := by
  unfold seg6
  have : ((((31 - k : Nat) : Int).tmod 4 == 0) = true) ↔ (31 - k) % 4 = 0 := by
    rw [beq_iff_eq, Int.tmod_eq_emod_of_nonneg (by omega)]
    omega
  by_cases h1 : (31 - k) % 4 = 0
  · have e1 := this.2 h1
    rw [e1]
    by_cases h2 : 0 < 31 - k
    · rw [if_pos ⟨h1, h2⟩, if_pos (by simp; omega)]
    · rw [if_neg (fun h => h2 h.2), if_neg (by simp; omega)]
  · have e1 : (((31 - k : Nat) : Int).tmod 4 == 0) = false := by
      cases hb : (((31 - k : Nat) : Int).tmod 4 == 0)
      · rfl
      · exact absurd (this.1 hb) h1
    rw [e1, if_neg (fun h => h1 h.1), if_neg (by simp)]
set_option maxHeartbeats 8000000 in
theorem rUnreverse_any (A : Option Addr) (n c : Nat) (L : List (List UInt8)) (w : World) (hl : TextsAt w A n L) (hsz : sizeL L ≤ 3000) :
    Calls Tryz.prog 27 #[.slice A n c] w fun e w' => e = .returned (unV (unrevR L)) ∧ Below w.heap.size w w' := by
  have S := Ats.start w
  obtain ⟨N, hN⟩ : ∃ N, N = L.length := ⟨_, rfl⟩
  have hNn : n = N := by rw [hN]; exact hl.1
  subst hNn
  have hul := txtU_len L
  have hp := fun w => rParse_any ⟨(txtU L).toArray⟩ w (by show (txtU L).length ≤ 4000; omega)
  rw [show (⟨(txtU L).toArray⟩ : ByteArray).data.toList = txtU L from rfl] at hp
  have hal := parseA_len (txtU L)
  have hE : unrevR L = if (parseA (txtU L)).err = 0 ∧ sameN (revL (parseA (txtU L)).fam (parseA (txtU L)).ip) L = true then some ((parseA (txtU L)).fam, (parseA (txtU L)).ip) else none := rfl
  obtain ⟨U, hU⟩ : ∃ U, U = unrevR L := ⟨_, rfl⟩
  rw [← hU] at hE ⊢
  have hTd : ∀ wr L', Ats w.heap.size w wr L' → TextsAt wr A n L := fun wr L' h => hl.below h.below
  have HTd := Lib.hid hTd
  have hlen := lab_len hsz
  clear hTd hU hul
  obtain ⟨R, hR⟩ : ∃ R, R = parseA (txtU L) := ⟨_, rfl⟩
  rw [← hR] at hp hal hE
  obtain ⟨f, ip, z, er⟩ := R
  simp only at hal hE
  simp only [adTupZ] at hp
  have h2 := fun w => rReverse_any f 0 ip w hal
  have hrs := revL_size f ip
  have h4 := fun (A' : Option Addr) n' c' w (h : TextsAt w A' n' (revL f ip)) (h' : TextsAt w A n L) => refSameD_any A' A n' n c' c (revL f ip) L w h h' (by omega) hsz
  have has := adSize f ip 0 hal
  have hasz := adSize f ip z hal
  have hsetz := ad_setZone f z 0 ip hal
  have hz18 : 17 < (adCs f ip z).toArray.size := by rw [ad_size18 f z ip hal]; decide
  obtain ⟨V, hV⟩ : ∃ V, V = revL f ip := ⟨_, rfl⟩
  rw [← hV] at h2 h4 hE
  obtain ⟨b, hb⟩ : ∃ b, b = sameN V L := ⟨_, rfl⟩
  rw [← hb] at h4 hE
  have HP := Lib.hid hp
  have H2 := Lib.hid h2
  have H4 := Lib.hid h4
  clear hp hR h2 h4 hV hb hrs
  by_cases h6 : L.length = 6
  · have hT : txtU L = dotU L := by unfold txtU; rw [if_pos h6]
    rw [hT] at HP
    obtain ⟨a, o, hA, hc⟩ := texts_cell hl (by omega)
    subst hA
    have c0 : w.cell? ⟨a, o, none⟩ = _ := hc 0 (by omega)
    have c1 := hc 1 (by omega)
    have c2 := hc 2 (by omega)
    have c3 := hc 3 (by omega)
    have l0 := hlen 0
    have l1 := hlen 1
    have l2 := hlen 2
    have l3 := hlen 3
    have ht : dotU L = L.getD 3 [] ++ 46 :: (L.getD 2 [] ++ 46 :: (L.getD 1 [] ++ 46 :: L.getD 0 [])) := rfl
    rw [ht] at HP
    have t6 : ((n : Int) == 6) = true := by rw [hN, h6]; rfl
    have t34 : ((n : Int) == 34) = false := by rw [hN, h6]; rfl
    have hn6 : n = 6 := by omega
    obtain ⟨x0, e0⟩ : ∃ x, x = L.getD 0 [] := ⟨_, rfl⟩
    obtain ⟨x1, e1⟩ : ∃ x, x = L.getD 1 [] := ⟨_, rfl⟩
    obtain ⟨x2, e2⟩ : ∃ x, x = L.getD 2 [] := ⟨_, rfl⟩
    obtain ⟨x3, e3⟩ : ∃ x, x = L.getD 3 [] := ⟨_, rfl⟩
    rw [← e0] at c0 l0 HP
    rw [← e1] at c1 l1 HP
    rw [← e2] at c2 l2 HP
    rw [← e3] at c3 l3 HP
    have hcat : (⟨x3.toArray⟩ : ByteArray) ++ ⟨#[46]⟩ ++ ⟨x2.toArray⟩ ++ ⟨#[46]⟩ ++ ⟨x1.toArray⟩ ++ ⟨#[46]⟩ ++ ⟨x0.toArray⟩ = ⟨(x3 ++ 46 :: (x2 ++ 46 :: (x1 ++ 46 :: x0))).toArray⟩ := by simp [ByteArray.mk_append_mk]
    rw [← hcat] at HP
    have C0 := Lib.hid c0
    have C1 := Lib.hid c1
    have C2 := Lib.hid c2
    have C3 := Lib.hid c3
    have bn0 : (0 : Int) < n := by omega
    have bn1 : (1 : Int) < n := by omega
    have bn2 : (2 : Int) < n := by omega
    have bn3 : (3 : Int) < n := by omega
    have bm0 : 0 < n := by omega
    have bm1 : 1 < n := by omega
    have bm2 : 2 < n := by omega
    have bm3 : 3 < n := by omega
    clear hcat hc c0 c1 c2 c3 ht hT e0 e1 e2 e3 h6 hN hlen hn6 hl
    go_enter Tryz.func27, Tryz.ntmps27
    go_wp2_with (first | ((with_reducible show wpList _ _ _ (Oper.mk (some 2) (Op.alloc _) _ _ _ _ :: _) _ _); refine wpList_allocS rfl _ rfl _ adZero S ?_; clear S; intro gr w1 S))
    (try simp only [Act.put, List.setIfInBounds_toArray, List.set_cons_succ, List.set_cons_zero]); refine quietS_region (by kernel_rfl) (by kernel_rfl) S ?_
    repeat (first
      | go_big_quiet_skip
      | (go_big_quiet_want
         first
           | ((with_reducible show Oper.quiet _ (Oper.mk (some 13) (Op.load _ _) _ _ _ _) _ _ _); refine q_oldS _ _ rfl _ rfl _ (by with_reducible exact C3.out) _ Tryz.underlying9 rfl ?_)
           | ((with_reducible show Oper.quiet _ (Oper.mk (some 17) (Op.load _ _) _ _ _ _) _ _ _); refine q_oldS _ _ rfl _ rfl _ (by with_reducible exact C2.out) _ Tryz.underlying9 rfl ?_)
           | ((with_reducible show Oper.quiet _ (Oper.mk (some 22) (Op.load _ _) _ _ _ _) _ _ _); refine q_oldS _ _ rfl _ rfl _ (by with_reducible exact C1.out) _ Tryz.underlying9 rfl ?_)
           | ((with_reducible show Oper.quiet _ (Oper.mk (some 27) (Op.load _ _) _ _ _ _) _ _ _); refine q_oldS _ _ rfl _ rfl _ (by with_reducible exact C0.out) _ Tryz.underlying9 rfl ?_)
           | (refine q_pure (v := ?_) ?_ ?_; rotate_left; focus (intro w; go_simp; rw [if_neg (by (simp; omega))]))
           | (refine q_pure (v := ?_) ?_ ?_; rotate_left; focus (intro w; go_simp; try with_reducible rfl))
         (simp only [Act.put, List.setIfInBounds_toArray, List.set_cons_succ, List.set_cons_zero]; go_big_quiet_on)))
    (refine wpQuiet_nil ?_; clear S; intro w1 S)
    go_wp2_with fail
    by_cases he : er = 0
    · have t0 : (er != 0) = false := by simpa using he
      have he0 := Lib.hid he
      clear he
      cases b with
      | false =>
        have hE' : U = none := by rw [hE, if_neg (fun h => Bool.false_ne_true h.2)]
        subst hE'
        clear hE
        go_wp2_with (first
          | ((with_reducible refine (HP.out _).mono ?_); rintro e w2 ⟨rfl, hb⟩; have S := S.call hb; clear hb)
          | ((with_reducible show wpList _ _ _ (Oper.mk (some 6) (Op.alloc _) _ _ _ _ :: _) _ _); refine wpList_allocS rfl _ rfl _ adZero S ?_; clear S; intro ga w1 S)
          | ((with_reducible show wpList _ _ _ (Oper.mk _ (Op.store _ (Operand.tmp 6) _) _ _ _ _ :: _) _ _); refine wpList_storeS rfl _ _ _ rfl S _ rfl _ rfl 0 _ _ rfl hasz (by exact ad_sizes _ _ _ _ _ _ rfl hal) (by exact adCs_one _ _ _) ?_; clear S; intro w1 S; (first | simp only [List.set_cons_zero] at S | simp only [List.set_cons_succ, List.set_cons_zero] at S | skip))
          | (((with_reducible show wpList _ _ _ (Oper.mk _ (Op.store _ (Operand.tmp 56) _) _ _ _ _ :: _) _ _); refine wpList_putS rfl _ _ _ rfl S _ _ rfl _ rfl rfl rfl 0 _ _ rfl intSize (by exact hz18) ?_; clear S; intro w1 S; (first | simp only [List.set_cons_zero] at S | simp only [List.set_cons_succ, List.set_cons_zero] at S | skip)); (have S : Ats w.heap.size w w1 [(ga, 24, (adCs f ip 0).toArray), (gr, 24, (adCs 0 zero16 0).toArray)] := by rw [← hsetz]; exact S))
          | ((with_reducible refine (H2.out _).mono ?_); rintro e w2 ⟨A', c', rfl, hta, hb⟩; have S := S.call hb; clear hb)
          | ((with_reducible refine (H4.out _ _ _ _ hta (HTd.out _ _ S)).mono ?_); rintro e w2 ⟨rfl, hb⟩; have S := S.call hb; clear hb)
          | ((with_reducible show wpList _ _ _ (Oper.mk _ (Op.load _ (Operand.tmp 6)) _ _ _ _ :: _) _ _); refine wpList_loadS rfl _ _ rfl S _ rfl 0 _ _ rfl _ Tryz.underlying24 rfl has ?_)
          | ((with_reducible show wpList _ _ _ (Oper.mk _ (Op.store _ (Operand.tmp 2) _) _ _ _ _ :: _) _ _); refine wpList_storeS rfl _ _ _ rfl S _ rfl _ rfl 1 _ _ rfl adInfo (by rfl) (by simp [Value.oneCell']) ?_; clear S; intro w1 S; (first | simp only [List.set_cons_zero] at S | simp only [List.set_cons_succ, List.set_cons_zero] at S | skip)))
        exact bodyPost_ret (results_cell2S rfl _ S _ 1 _ _ _ rfl rfl Tryz.underlying24 rfl adInfo) rfl ⟨rfl, S.below⟩
      | true =>
        have hE' : U = some (f, ip) := by rw [hE, if_pos ⟨he0.out, rfl⟩]
        subst hE'
        clear hE
        go_wp2_with (first
          | ((with_reducible refine (HP.out _).mono ?_); rintro e w2 ⟨rfl, hb⟩; have S := S.call hb; clear hb)
          | ((with_reducible show wpList _ _ _ (Oper.mk (some 6) (Op.alloc _) _ _ _ _ :: _) _ _); refine wpList_allocS rfl _ rfl _ adZero S ?_; clear S; intro ga w1 S)
          | ((with_reducible show wpList _ _ _ (Oper.mk _ (Op.store _ (Operand.tmp 6) _) _ _ _ _ :: _) _ _); refine wpList_storeS rfl _ _ _ rfl S _ rfl _ rfl 0 _ _ rfl hasz (by exact ad_sizes _ _ _ _ _ _ rfl hal) (by exact adCs_one _ _ _) ?_; clear S; intro w1 S; (first | simp only [List.set_cons_zero] at S | simp only [List.set_cons_succ, List.set_cons_zero] at S | skip))
          | (((with_reducible show wpList _ _ _ (Oper.mk _ (Op.store _ (Operand.tmp 56) _) _ _ _ _ :: _) _ _); refine wpList_putS rfl _ _ _ rfl S _ _ rfl _ rfl rfl rfl 0 _ _ rfl intSize (by exact hz18) ?_; clear S; intro w1 S; (first | simp only [List.set_cons_zero] at S | simp only [List.set_cons_succ, List.set_cons_zero] at S | skip)); (have S : Ats w.heap.size w w1 [(ga, 24, (adCs f ip 0).toArray), (gr, 24, (adCs 0 zero16 0).toArray)] := by rw [← hsetz]; exact S))
          | ((with_reducible refine (H2.out _).mono ?_); rintro e w2 ⟨A', c', rfl, hta, hb⟩; have S := S.call hb; clear hb)
          | ((with_reducible refine (H4.out _ _ _ _ hta (HTd.out _ _ S)).mono ?_); rintro e w2 ⟨rfl, hb⟩; have S := S.call hb; clear hb)
          | ((with_reducible show wpList _ _ _ (Oper.mk _ (Op.load _ (Operand.tmp 6)) _ _ _ _ :: _) _ _); refine wpList_loadS rfl _ _ rfl S _ rfl 0 _ _ rfl _ Tryz.underlying24 rfl has ?_)
          | ((with_reducible show wpList _ _ _ (Oper.mk _ (Op.store _ (Operand.tmp 2) _) _ _ _ _ :: _) _ _); refine wpList_storeS rfl _ _ _ rfl S _ rfl _ rfl 1 _ _ rfl has (by exact ad_sizes _ _ _ _ _ _ rfl hal) (by exact adCs_one _ _ _) ?_; clear S; intro w1 S; (first | simp only [List.set_cons_zero] at S | simp only [List.set_cons_succ, List.set_cons_zero] at S | skip)))
        exact bodyPost_ret (results_cell2S rfl _ S _ 1 _ _ _ rfl rfl Tryz.underlying24 rfl has) rfl ⟨rfl, S.below⟩
    · have t0 : (er != 0) = true := by simpa using he
      have hE' : U = none := by rw [hE, if_neg (fun h => he h.1)]
      subst hE'
      clear hE he
      go_wp2_with (first
        | ((with_reducible refine (HP.out _).mono ?_); rintro e w2 ⟨rfl, hb⟩; have S := S.call hb; clear hb)
        | ((with_reducible show wpList _ _ _ (Oper.mk (some 6) (Op.alloc _) _ _ _ _ :: _) _ _); refine wpList_allocS rfl _ rfl _ adZero S ?_; clear S; intro ga w1 S)
        | ((with_reducible show wpList _ _ _ (Oper.mk _ (Op.store _ (Operand.tmp 6) _) _ _ _ _ :: _) _ _); refine wpList_storeS rfl _ _ _ rfl S _ rfl _ rfl 0 _ _ rfl hasz (by exact ad_sizes _ _ _ _ _ _ rfl hal) (by exact adCs_one _ _ _) ?_; clear S; intro w1 S; (first | simp only [List.set_cons_zero] at S | simp only [List.set_cons_succ, List.set_cons_zero] at S | skip))
        | (((with_reducible show wpList _ _ _ (Oper.mk _ (Op.store _ (Operand.tmp 56) _) _ _ _ _ :: _) _ _); refine wpList_putS rfl _ _ _ rfl S _ _ rfl _ rfl rfl rfl 0 _ _ rfl intSize (by exact hz18) ?_; clear S; intro w1 S; (first | simp only [List.set_cons_zero] at S | simp only [List.set_cons_succ, List.set_cons_zero] at S | skip)); (have S : Ats w.heap.size w w1 [(ga, 24, (adCs f ip 0).toArray), (gr, 24, (adCs 0 zero16 0).toArray)] := by rw [← hsetz]; exact S))
        | ((with_reducible refine (H2.out _).mono ?_); rintro e w2 ⟨A', c', rfl, hta, hb⟩; have S := S.call hb; clear hb)
        | ((with_reducible refine (H4.out _ _ _ _ hta (HTd.out _ _ S)).mono ?_); rintro e w2 ⟨rfl, hb⟩; have S := S.call hb; clear hb)
        | ((with_reducible show wpList _ _ _ (Oper.mk _ (Op.load _ (Operand.tmp 6)) _ _ _ _ :: _) _ _); refine wpList_loadS rfl _ _ rfl S _ rfl 0 _ _ rfl _ Tryz.underlying24 rfl has ?_)
        | ((with_reducible show wpList _ _ _ (Oper.mk _ (Op.store _ (Operand.tmp 2) _) _ _ _ _ :: _) _ _); refine wpList_storeS rfl _ _ _ rfl S _ rfl _ rfl 1 _ _ rfl adInfo (by rfl) (by simp [Value.oneCell']) ?_; clear S; intro w1 S; (first | simp only [List.set_cons_zero] at S | simp only [List.set_cons_succ, List.set_cons_zero] at S | skip)))
      exact bodyPost_ret (results_cell2S rfl _ S _ 1 _ _ _ rfl rfl Tryz.underlying24 rfl adInfo) rfl ⟨rfl, S.below⟩
  · have t6 : ((n : Int) == 6) = false := by rw [hN, beq_eq_false_iff_ne]; omega
    by_cases h34 : L.length = 34
    · have hT : txtU L = txt6 L 32 := by unfold txtU; rw [if_neg h6, if_pos h34]
      rw [hT] at HP
      obtain ⟨a, o, hA, hc⟩ := texts_cell hl (by omega)
      subst hA
      have t34 : ((n : Int) == 34) = true := by rw [hN, h34]; rfl
      have hn34 : n = 34 := by omega
      have htl := fun k (hk : k ≤ 32) => txt6_len L (by omega) k hk
      have hsd := fun k => sizeL_drop L k
      rw [← hN] at hc
      have HTL := Lib.hid htl
      have HSD := Lib.hid hsd
      have HC := Lib.hid hc
      have HLEN := Lib.hid hlen
      have HN34 := Lib.hid hn34
      clear hc htl hsd hT h6 h34 hN hlen hl hn34
      go_enter Tryz.func27, Tryz.ntmps27
      go_wp2_with (first | ((with_reducible show wpList _ _ _ (Oper.mk (some 2) (Op.alloc _) _ _ _ _ :: _) _ _); refine wpList_allocS rfl _ rfl _ adZero S ?_; clear S; intro gr w1 S))
      go_loop [4, 5] (fun s i => ∃ k : Nat, k ≤ 32 ∧ i = .int .i64 (31 - (k : Int)) ∧ s = .string ⟨(txt6 L k).toArray⟩) (fun _ i => (intOf i + 1).toNat)
      case atStart => exact ⟨0, Nat.zero_le _, rfl, rfl⟩
      case round =>
        obtain ⟨k, hk, rfl, rfl⟩ := hrel
        by_cases hlt : k < 32
        · have hi : (31 - (k : Int)) = ((31 - k : Nat) : Int) := by omega
          rw [hi]
          have hn34 := HN34.out
          have hsg := seg6_ints L k hlt
          have hcc := HC.out (31 - k) (by omega)
          have hxl := HLEN.out (31 - k)
          have h1 := HTL.out k hk
          have h2 := HSD.out (32 - k)
          have hst := txt6_succ L k
          rw [hsg] at hst
          have hT : (txt6 L k).length ≤ 3000 := by omega
          obtain ⟨T, hTT⟩ : ∃ T, T = txt6 L k := ⟨_, rfl⟩
          obtain ⟨j, hj⟩ : ∃ j, j = 31 - k := ⟨_, rfl⟩
          obtain ⟨x, hx⟩ : ∃ x, x = L.getD (31 - k) [] := ⟨_, rfl⟩
          rw [← hTT] at hst hT ⊢
          rw [← hx] at hst hcc hxl
          rw [← hj] at hst hcc ⊢
          obtain ⟨r, hr⟩ : ∃ r : Nat, r = j % 4 := ⟨_, rfl⟩
          have hr2 : (j : Int).tmod 4 = r := by rw [Int.tmod_eq_emod_of_nonneg (by omega)]; omega
          have hr3 : IntKind.i64.wrap (r : Int) = r := IntWalk.i64_in _ (by omega)
          rw [hr2] at hst
          have b1 : (j : Int) < n := by omega
          have b2 : j < n := by omega
          have b3 : decide ((0 : Int) ≤ j) = true := decide_eq_true (by omega)
          have e1 : IntKind.i64.wrap ((j : Int) - 1) = (j : Int) - 1 := IntWalk.i64_in _ (by omega)
          have hxT : T.length + x.length ≤ 6000 := by omega
          have CC := Lib.hid hcc
          have HJ := Lib.hid hj
          have HLT := Lib.hid hlt
          obtain ⟨p1, hp1⟩ : ∃ p, p = ((r : Int) == 0) := ⟨_, rfl⟩
          obtain ⟨p2, hp2⟩ : ∃ p, p = decide ((0 : Int) < (j : Int)) := ⟨_, rfl⟩
          have hp1' := hp1.symm
          have hp2' := hp2.symm
          have hp3' : decide (0 < j) = p2 := by rw [hp2, decide_eq_decide]; omega
          rw [← hp1, ← hp2] at hst
          clear hTT hj hx hr hp1 hp2 hi hsg hcc h1 h2 hn34 hlt
          cases p1 with
          | true =>
            cases p2 with
            | true =>
              rw [show (true && true) = true from rfl, if_pos rfl] at hst
              have HST := Lib.hid hst
              clear hst
              go_wp2_with (first
                | ((with_reducible show wpList _ _ _ (Oper.mk _ (Op.load _ _) _ _ _ _ :: _) _ _); refine wpList_oldS rfl _ _ rfl S _ rfl _ (by with_reducible with_reducible exact CC.out) _ Tryz.underlying9 rfl ?_))
              go_round
              case rel =>
                have h1 := HLT.out
                have h2 := HJ.out
                exact ⟨k + 1, by omega, congrArg (Value.int .i64) (by omega), ret_s (by rw [HST.out]; simp [ByteArray.mk_append_mk])⟩
              case measure => have := HLT.out; have := HJ.out; first | (simp [intOf]; done) | (simp [intOf]; omega)
            | false =>
              rw [if_neg (by decide), List.append_nil] at hst
              have HST := Lib.hid hst
              clear hst
              go_wp2_with (first
                | ((with_reducible show wpList _ _ _ (Oper.mk _ (Op.load _ _) _ _ _ _ :: _) _ _); refine wpList_oldS rfl _ _ rfl S _ rfl _ (by with_reducible with_reducible exact CC.out) _ Tryz.underlying9 rfl ?_))
              go_round
              case rel =>
                have h1 := HLT.out
                have h2 := HJ.out
                exact ⟨k + 1, by omega, congrArg (Value.int .i64) (by omega), ret_s (by rw [HST.out]; simp [ByteArray.mk_append_mk])⟩
              case measure => have := HLT.out; have := HJ.out; first | (simp [intOf]; done) | (simp [intOf]; omega)
          | false =>
            rw [if_neg (by simp), List.append_nil] at hst
            have HST := Lib.hid hst
            clear hst
            go_wp2_with (first
              | ((with_reducible show wpList _ _ _ (Oper.mk _ (Op.load _ _) _ _ _ _ :: _) _ _); refine wpList_oldS rfl _ _ rfl S _ rfl _ (by with_reducible with_reducible exact CC.out) _ Tryz.underlying9 rfl ?_))
            go_round
            case rel =>
              have h1 := HLT.out
              have h2 := HJ.out
              exact ⟨k + 1, by omega, congrArg (Value.int .i64) (by omega), ret_s (by rw [HST.out]; simp [ByteArray.mk_append_mk])⟩
            case measure => have := HLT.out; have := HJ.out; first | (simp [intOf]; done) | (simp [intOf]; omega)
        · obtain rfl : k = 32 := by omega
          clear HTL HSD HC HLEN HN34 hlt
          go_wp2_with fail
          by_cases he : er = 0
          · have t0 : (er != 0) = false := by simpa using he
            have he0 := Lib.hid he
            clear he
            cases b with
            | false =>
              have hE' : U = none := by rw [hE, if_neg (fun h => Bool.false_ne_true h.2)]
              subst hE'
              clear hE
              go_wp2_with (first
                | ((with_reducible refine (HP.out _).mono ?_); rintro e w2 ⟨rfl, hb⟩; have S := S.call hb; clear hb)
                | ((with_reducible show wpList _ _ _ (Oper.mk (some 6) (Op.alloc _) _ _ _ _ :: _) _ _); refine wpList_allocS rfl _ rfl _ adZero S ?_; clear S; intro ga w1 S)
                | ((with_reducible show wpList _ _ _ (Oper.mk _ (Op.store _ (Operand.tmp 6) _) _ _ _ _ :: _) _ _); refine wpList_storeS rfl _ _ _ rfl S _ rfl _ rfl 0 _ _ rfl hasz (by exact ad_sizes _ _ _ _ _ _ rfl hal) (by exact adCs_one _ _ _) ?_; clear S; intro w1 S; (first | simp only [List.set_cons_zero] at S | simp only [List.set_cons_succ, List.set_cons_zero] at S | skip))
                | (((with_reducible show wpList _ _ _ (Oper.mk _ (Op.store _ (Operand.tmp 56) _) _ _ _ _ :: _) _ _); refine wpList_putS rfl _ _ _ rfl S _ _ rfl _ rfl rfl rfl 0 _ _ rfl intSize (by exact hz18) ?_; clear S; intro w1 S; (first | simp only [List.set_cons_zero] at S | simp only [List.set_cons_succ, List.set_cons_zero] at S | skip)); (have S : Ats w.heap.size w w1 [(ga, 24, (adCs f ip 0).toArray), (gr, 24, (adCs 0 zero16 0).toArray)] := by rw [← hsetz]; exact S))
                | ((with_reducible refine (H2.out _).mono ?_); rintro e w2 ⟨A', c', rfl, hta, hb⟩; have S := S.call hb; clear hb)
                | ((with_reducible refine (H4.out _ _ _ _ hta (HTd.out _ _ S)).mono ?_); rintro e w2 ⟨rfl, hb⟩; have S := S.call hb; clear hb)
                | ((with_reducible show wpList _ _ _ (Oper.mk _ (Op.load _ (Operand.tmp 6)) _ _ _ _ :: _) _ _); refine wpList_loadS rfl _ _ rfl S _ rfl 0 _ _ rfl _ Tryz.underlying24 rfl has ?_)
                | ((with_reducible show wpList _ _ _ (Oper.mk _ (Op.store _ (Operand.tmp 2) _) _ _ _ _ :: _) _ _); refine wpList_storeS rfl _ _ _ rfl S _ rfl _ rfl 1 _ _ rfl adInfo (by rfl) (by simp [Value.oneCell']) ?_; clear S; intro w1 S; (first | simp only [List.set_cons_zero] at S | simp only [List.set_cons_succ, List.set_cons_zero] at S | skip)))
              exact bodyPost_ret (results_cell2S rfl _ S _ 1 _ _ _ rfl rfl Tryz.underlying24 rfl adInfo) rfl ⟨rfl, S.below⟩
            | true =>
              have hE' : U = some (f, ip) := by rw [hE, if_pos ⟨he0.out, rfl⟩]
              subst hE'
              clear hE
              go_wp2_with (first
                | ((with_reducible refine (HP.out _).mono ?_); rintro e w2 ⟨rfl, hb⟩; have S := S.call hb; clear hb)
                | ((with_reducible show wpList _ _ _ (Oper.mk (some 6) (Op.alloc _) _ _ _ _ :: _) _ _); refine wpList_allocS rfl _ rfl _ adZero S ?_; clear S; intro ga w1 S)
                | ((with_reducible show wpList _ _ _ (Oper.mk _ (Op.store _ (Operand.tmp 6) _) _ _ _ _ :: _) _ _); refine wpList_storeS rfl _ _ _ rfl S _ rfl _ rfl 0 _ _ rfl hasz (by exact ad_sizes _ _ _ _ _ _ rfl hal) (by exact adCs_one _ _ _) ?_; clear S; intro w1 S; (first | simp only [List.set_cons_zero] at S | simp only [List.set_cons_succ, List.set_cons_zero] at S | skip))
                | (((with_reducible show wpList _ _ _ (Oper.mk _ (Op.store _ (Operand.tmp 56) _) _ _ _ _ :: _) _ _); refine wpList_putS rfl _ _ _ rfl S _ _ rfl _ rfl rfl rfl 0 _ _ rfl intSize (by exact hz18) ?_; clear S; intro w1 S; (first | simp only [List.set_cons_zero] at S | simp only [List.set_cons_succ, List.set_cons_zero] at S | skip)); (have S : Ats w.heap.size w w1 [(ga, 24, (adCs f ip 0).toArray), (gr, 24, (adCs 0 zero16 0).toArray)] := by rw [← hsetz]; exact S))
                | ((with_reducible refine (H2.out _).mono ?_); rintro e w2 ⟨A', c', rfl, hta, hb⟩; have S := S.call hb; clear hb)
                | ((with_reducible refine (H4.out _ _ _ _ hta (HTd.out _ _ S)).mono ?_); rintro e w2 ⟨rfl, hb⟩; have S := S.call hb; clear hb)
                | ((with_reducible show wpList _ _ _ (Oper.mk _ (Op.load _ (Operand.tmp 6)) _ _ _ _ :: _) _ _); refine wpList_loadS rfl _ _ rfl S _ rfl 0 _ _ rfl _ Tryz.underlying24 rfl has ?_)
                | ((with_reducible show wpList _ _ _ (Oper.mk _ (Op.store _ (Operand.tmp 2) _) _ _ _ _ :: _) _ _); refine wpList_storeS rfl _ _ _ rfl S _ rfl _ rfl 1 _ _ rfl has (by exact ad_sizes _ _ _ _ _ _ rfl hal) (by exact adCs_one _ _ _) ?_; clear S; intro w1 S; (first | simp only [List.set_cons_zero] at S | simp only [List.set_cons_succ, List.set_cons_zero] at S | skip)))
              exact bodyPost_ret (results_cell2S rfl _ S _ 1 _ _ _ rfl rfl Tryz.underlying24 rfl has) rfl ⟨rfl, S.below⟩
          · have t0 : (er != 0) = true := by simpa using he
            have hE' : U = none := by rw [hE, if_neg (fun h => he h.1)]
            subst hE'
            clear hE he
            go_wp2_with (first
              | ((with_reducible refine (HP.out _).mono ?_); rintro e w2 ⟨rfl, hb⟩; have S := S.call hb; clear hb)
              | ((with_reducible show wpList _ _ _ (Oper.mk (some 6) (Op.alloc _) _ _ _ _ :: _) _ _); refine wpList_allocS rfl _ rfl _ adZero S ?_; clear S; intro ga w1 S)
              | ((with_reducible show wpList _ _ _ (Oper.mk _ (Op.store _ (Operand.tmp 6) _) _ _ _ _ :: _) _ _); refine wpList_storeS rfl _ _ _ rfl S _ rfl _ rfl 0 _ _ rfl hasz (by exact ad_sizes _ _ _ _ _ _ rfl hal) (by exact adCs_one _ _ _) ?_; clear S; intro w1 S; (first | simp only [List.set_cons_zero] at S | simp only [List.set_cons_succ, List.set_cons_zero] at S | skip))
              | (((with_reducible show wpList _ _ _ (Oper.mk _ (Op.store _ (Operand.tmp 56) _) _ _ _ _ :: _) _ _); refine wpList_putS rfl _ _ _ rfl S _ _ rfl _ rfl rfl rfl 0 _ _ rfl intSize (by exact hz18) ?_; clear S; intro w1 S; (first | simp only [List.set_cons_zero] at S | simp only [List.set_cons_succ, List.set_cons_zero] at S | skip)); (have S : Ats w.heap.size w w1 [(ga, 24, (adCs f ip 0).toArray), (gr, 24, (adCs 0 zero16 0).toArray)] := by rw [← hsetz]; exact S))
              | ((with_reducible refine (H2.out _).mono ?_); rintro e w2 ⟨A', c', rfl, hta, hb⟩; have S := S.call hb; clear hb)
              | ((with_reducible refine (H4.out _ _ _ _ hta (HTd.out _ _ S)).mono ?_); rintro e w2 ⟨rfl, hb⟩; have S := S.call hb; clear hb)
              | ((with_reducible show wpList _ _ _ (Oper.mk _ (Op.load _ (Operand.tmp 6)) _ _ _ _ :: _) _ _); refine wpList_loadS rfl _ _ rfl S _ rfl 0 _ _ rfl _ Tryz.underlying24 rfl has ?_)
              | ((with_reducible show wpList _ _ _ (Oper.mk _ (Op.store _ (Operand.tmp 2) _) _ _ _ _ :: _) _ _); refine wpList_storeS rfl _ _ _ rfl S _ rfl _ rfl 1 _ _ rfl adInfo (by rfl) (by simp [Value.oneCell']) ?_; clear S; intro w1 S; (first | simp only [List.set_cons_zero] at S | simp only [List.set_cons_succ, List.set_cons_zero] at S | skip)))
            exact bodyPost_ret (results_cell2S rfl _ S _ 1 _ _ _ rfl rfl Tryz.underlying24 rfl adInfo) rfl ⟨rfl, S.below⟩
    · have hT : txtU L = [] := by unfold txtU; rw [if_neg h6, if_neg h34]
      rw [hT] at HP
      have t34 : ((n : Int) == 34) = false := by rw [hN, beq_eq_false_iff_ne]; omega
      clear hT h6 h34 hN hlen hl
      go_enter Tryz.func27, Tryz.ntmps27
      go_wp2_with (first | ((with_reducible show wpList _ _ _ (Oper.mk (some 2) (Op.alloc _) _ _ _ _ :: _) _ _); refine wpList_allocS rfl _ rfl _ adZero S ?_; clear S; intro gr w1 S))
      by_cases he : er = 0
      · have t0 : (er != 0) = false := by simpa using he
        have he0 := Lib.hid he
        clear he
        cases b with
        | false =>
          have hE' : U = none := by rw [hE, if_neg (fun h => Bool.false_ne_true h.2)]
          subst hE'
          clear hE
          go_wp2_with (first
            | ((with_reducible refine (HP.out _).mono ?_); rintro e w2 ⟨rfl, hb⟩; have S := S.call hb; clear hb)
            | ((with_reducible show wpList _ _ _ (Oper.mk (some 6) (Op.alloc _) _ _ _ _ :: _) _ _); refine wpList_allocS rfl _ rfl _ adZero S ?_; clear S; intro ga w1 S)
            | ((with_reducible show wpList _ _ _ (Oper.mk _ (Op.store _ (Operand.tmp 6) _) _ _ _ _ :: _) _ _); refine wpList_storeS rfl _ _ _ rfl S _ rfl _ rfl 0 _ _ rfl hasz (by exact ad_sizes _ _ _ _ _ _ rfl hal) (by exact adCs_one _ _ _) ?_; clear S; intro w1 S; (first | simp only [List.set_cons_zero] at S | simp only [List.set_cons_succ, List.set_cons_zero] at S | skip))
            | (((with_reducible show wpList _ _ _ (Oper.mk _ (Op.store _ (Operand.tmp 56) _) _ _ _ _ :: _) _ _); refine wpList_putS rfl _ _ _ rfl S _ _ rfl _ rfl rfl rfl 0 _ _ rfl intSize (by exact hz18) ?_; clear S; intro w1 S; (first | simp only [List.set_cons_zero] at S | simp only [List.set_cons_succ, List.set_cons_zero] at S | skip)); (have S : Ats w.heap.size w w1 [(ga, 24, (adCs f ip 0).toArray), (gr, 24, (adCs 0 zero16 0).toArray)] := by rw [← hsetz]; exact S))
            | ((with_reducible refine (H2.out _).mono ?_); rintro e w2 ⟨A', c', rfl, hta, hb⟩; have S := S.call hb; clear hb)
            | ((with_reducible refine (H4.out _ _ _ _ hta (HTd.out _ _ S)).mono ?_); rintro e w2 ⟨rfl, hb⟩; have S := S.call hb; clear hb)
            | ((with_reducible show wpList _ _ _ (Oper.mk _ (Op.load _ (Operand.tmp 6)) _ _ _ _ :: _) _ _); refine wpList_loadS rfl _ _ rfl S _ rfl 0 _ _ rfl _ Tryz.underlying24 rfl has ?_)
            | ((with_reducible show wpList _ _ _ (Oper.mk _ (Op.store _ (Operand.tmp 2) _) _ _ _ _ :: _) _ _); refine wpList_storeS rfl _ _ _ rfl S _ rfl _ rfl 1 _ _ rfl adInfo (by rfl) (by simp [Value.oneCell']) ?_; clear S; intro w1 S; (first | simp only [List.set_cons_zero] at S | simp only [List.set_cons_succ, List.set_cons_zero] at S | skip)))
          exact bodyPost_ret (results_cell2S rfl _ S _ 1 _ _ _ rfl rfl Tryz.underlying24 rfl adInfo) rfl ⟨rfl, S.below⟩
        | true =>
          have hE' : U = some (f, ip) := by rw [hE, if_pos ⟨he0.out, rfl⟩]
          subst hE'
          clear hE
          go_wp2_with (first
            | ((with_reducible refine (HP.out _).mono ?_); rintro e w2 ⟨rfl, hb⟩; have S := S.call hb; clear hb)
            | ((with_reducible show wpList _ _ _ (Oper.mk (some 6) (Op.alloc _) _ _ _ _ :: _) _ _); refine wpList_allocS rfl _ rfl _ adZero S ?_; clear S; intro ga w1 S)
            | ((with_reducible show wpList _ _ _ (Oper.mk _ (Op.store _ (Operand.tmp 6) _) _ _ _ _ :: _) _ _); refine wpList_storeS rfl _ _ _ rfl S _ rfl _ rfl 0 _ _ rfl hasz (by exact ad_sizes _ _ _ _ _ _ rfl hal) (by exact adCs_one _ _ _) ?_; clear S; intro w1 S; (first | simp only [List.set_cons_zero] at S | simp only [List.set_cons_succ, List.set_cons_zero] at S | skip))
            | (((with_reducible show wpList _ _ _ (Oper.mk _ (Op.store _ (Operand.tmp 56) _) _ _ _ _ :: _) _ _); refine wpList_putS rfl _ _ _ rfl S _ _ rfl _ rfl rfl rfl 0 _ _ rfl intSize (by exact hz18) ?_; clear S; intro w1 S; (first | simp only [List.set_cons_zero] at S | simp only [List.set_cons_succ, List.set_cons_zero] at S | skip)); (have S : Ats w.heap.size w w1 [(ga, 24, (adCs f ip 0).toArray), (gr, 24, (adCs 0 zero16 0).toArray)] := by rw [← hsetz]; exact S))
            | ((with_reducible refine (H2.out _).mono ?_); rintro e w2 ⟨A', c', rfl, hta, hb⟩; have S := S.call hb; clear hb)
            | ((with_reducible refine (H4.out _ _ _ _ hta (HTd.out _ _ S)).mono ?_); rintro e w2 ⟨rfl, hb⟩; have S := S.call hb; clear hb)
            | ((with_reducible show wpList _ _ _ (Oper.mk _ (Op.load _ (Operand.tmp 6)) _ _ _ _ :: _) _ _); refine wpList_loadS rfl _ _ rfl S _ rfl 0 _ _ rfl _ Tryz.underlying24 rfl has ?_)
            | ((with_reducible show wpList _ _ _ (Oper.mk _ (Op.store _ (Operand.tmp 2) _) _ _ _ _ :: _) _ _); refine wpList_storeS rfl _ _ _ rfl S _ rfl _ rfl 1 _ _ rfl has (by exact ad_sizes _ _ _ _ _ _ rfl hal) (by exact adCs_one _ _ _) ?_; clear S; intro w1 S; (first | simp only [List.set_cons_zero] at S | simp only [List.set_cons_succ, List.set_cons_zero] at S | skip)))
          exact bodyPost_ret (results_cell2S rfl _ S _ 1 _ _ _ rfl rfl Tryz.underlying24 rfl has) rfl ⟨rfl, S.below⟩
      · have t0 : (er != 0) = true := by simpa using he
        have hE' : U = none := by rw [hE, if_neg (fun h => he h.1)]
        subst hE'
        clear hE he
        go_wp2_with (first
          | ((with_reducible refine (HP.out _).mono ?_); rintro e w2 ⟨rfl, hb⟩; have S := S.call hb; clear hb)
          | ((with_reducible show wpList _ _ _ (Oper.mk (some 6) (Op.alloc _) _ _ _ _ :: _) _ _); refine wpList_allocS rfl _ rfl _ adZero S ?_; clear S; intro ga w1 S)
          | ((with_reducible show wpList _ _ _ (Oper.mk _ (Op.store _ (Operand.tmp 6) _) _ _ _ _ :: _) _ _); refine wpList_storeS rfl _ _ _ rfl S _ rfl _ rfl 0 _ _ rfl hasz (by exact ad_sizes _ _ _ _ _ _ rfl hal) (by exact adCs_one _ _ _) ?_; clear S; intro w1 S; (first | simp only [List.set_cons_zero] at S | simp only [List.set_cons_succ, List.set_cons_zero] at S | skip))
          | (((with_reducible show wpList _ _ _ (Oper.mk _ (Op.store _ (Operand.tmp 56) _) _ _ _ _ :: _) _ _); refine wpList_putS rfl _ _ _ rfl S _ _ rfl _ rfl rfl rfl 0 _ _ rfl intSize (by exact hz18) ?_; clear S; intro w1 S; (first | simp only [List.set_cons_zero] at S | simp only [List.set_cons_succ, List.set_cons_zero] at S | skip)); (have S : Ats w.heap.size w w1 [(ga, 24, (adCs f ip 0).toArray), (gr, 24, (adCs 0 zero16 0).toArray)] := by rw [← hsetz]; exact S))
          | ((with_reducible refine (H2.out _).mono ?_); rintro e w2 ⟨A', c', rfl, hta, hb⟩; have S := S.call hb; clear hb)
          | ((with_reducible refine (H4.out _ _ _ _ hta (HTd.out _ _ S)).mono ?_); rintro e w2 ⟨rfl, hb⟩; have S := S.call hb; clear hb)
          | ((with_reducible show wpList _ _ _ (Oper.mk _ (Op.load _ (Operand.tmp 6)) _ _ _ _ :: _) _ _); refine wpList_loadS rfl _ _ rfl S _ rfl 0 _ _ rfl _ Tryz.underlying24 rfl has ?_)
          | ((with_reducible show wpList _ _ _ (Oper.mk _ (Op.store _ (Operand.tmp 2) _) _ _ _ _ :: _) _ _); refine wpList_storeS rfl _ _ _ rfl S _ rfl _ rfl 1 _ _ rfl adInfo (by rfl) (by simp [Value.oneCell']) ?_; clear S; intro w1 S; (first | simp only [List.set_cons_zero] at S | simp only [List.set_cons_succ, List.set_cons_zero] at S | skip)))
        exact bodyPost_ret (results_cell2S rfl _ S _ 1 _ _ _ rfl rfl Tryz.underlying24 rfl adInfo) rfl ⟨rfl, S.below⟩
end Go.Proofs.YthbdeafbdmbabaaGreatDoor
namespace Go.Proofs.YthbdeafbdmbabaaGreatDoor
open Go.RowKit Go
set_option linter.unusedVariables false
set_option maxRecDepth 100000
theorem low_hexF : ∀ c : Fin 256, ∀ d : Fin 16, lowB (UInt8.ofNat c.val) = hexC d.val → hexB (UInt8.ofNat c.val).toNat = true ∧ (hexV (UInt8.ofNat c.val).toNat).toNat = d.val ∧ UInt8.ofNat c.val ≠ 58 ∧ UInt8.ofNat c.val ≠ 37 := by decide +kernel
theorem u8_of (c : UInt8) : UInt8.ofNat c.toNat = c := by simp
theorem low_hex (c : UInt8) (d : Nat) (hd : d < 16) (h : lowB c = hexC d) : hexB c.toNat = true ∧ (hexV c.toNat).toNat = d ∧ c ≠ 58 ∧ c ≠ 37 := by
  have := low_hexF ⟨c.toNat, UInt8.toNat_lt c⟩ ⟨d, hd⟩
  simp only [u8_of] at this
  exact this h
theorem low_digF : ∀ c : Fin 256, digB (lowB (UInt8.ofNat c.val)) = true → lowB (UInt8.ofNat c.val) = UInt8.ofNat c.val := by decide +kernel
theorem low_dig (c : UInt8) (h : digB (lowB c) = true) : lowB c = c := by
  have := low_digF ⟨c.toNat, UInt8.toNat_lt c⟩
  simp only [u8_of] at this
  exact this h
theorem low_hexC : ∀ d : Fin 16, lowB (hexC d.val) = hexC d.val := by decide +kernel
theorem low_digs (l m : List UInt8) (h : l.map lowB = m.map lowB) (hm : m.all digB = true) : l = m := by
  have hmm : m.map lowB = m := by
    have : ∀ x ∈ m, lowB x = x := fun x hx => by
      have h1 := List.all_eq_true.1 hm x hx
      have h2 : ∀ c : Fin 256, digB (UInt8.ofNat c.val) = true → lowB (UInt8.ofNat c.val) = UInt8.ofNat c.val := by decide +kernel
      have := h2 ⟨x.toNat, UInt8.toNat_lt x⟩
      simp only [u8_of] at this
      exact this h1
    rw [List.map_congr_left this, List.map_id']
  rw [hmm] at h
  subst h
  have : ∀ x ∈ l, lowB x = x := fun x hx => low_dig x (List.all_eq_true.1 hm _ (List.mem_map_of_mem hx))
  rw [List.map_congr_left this, List.map_id']
theorem getD_lowN (L : List (List UInt8)) (j : Nat) : (lowN L).getD j [] = (L.getD j []).map lowB := by
  unfold lowN
  rw [List.getD_eq_getElem?_getD, List.getElem?_map, List.getD_eq_getElem?_getD]
  cases L[j]? <;> rfl
theorem same_at {A L : List (List UInt8)} (h : sameN A L = true) : L.length = A.length ∧ ∀ j, (L.getD j []).map lowB = (A.getD j []).map lowB := by
  unfold sameN at h
  have h := of_decide_eq_true h
  refine ⟨?_, fun j => ?_⟩
  · have := congrArg List.length h
    rw [lowN_len, lowN_len] at this
    exact this.symm
  · rw [← getD_lowN, ← getD_lowN, h]
theorem rev4_at (ip : List UInt8) : revL 4 ip = [Lib.decDigits (ip.getD 3 0).toNat, Lib.decDigits (ip.getD 2 0).toNat, Lib.decDigits (ip.getD 1 0).toNat, Lib.decDigits (ip.getD 0 0).toNat, lInaddr, lArpa] := rfl
theorem num_dec (c : UInt8) : numR (Lib.decDigits c.toNat) 255 = ((c.toNat : Int), 0) := by
  have h := numR_pos (c.toNat : Int) 255 (by omega)
  rw [Lib.itoa_nonneg] at h
  have := UInt8.toNat_lt c
  rw [h, if_neg (by omega)]
theorem same4 {ip : List UInt8} {L : List (List UInt8)} (h : sameN (revL 4 ip) L = true) : L.length = 6 ∧ L.getD 0 [] = Lib.decDigits (ip.getD 3 0).toNat ∧ L.getD 1 [] = Lib.decDigits (ip.getD 2 0).toNat ∧ L.getD 2 [] = Lib.decDigits (ip.getD 1 0).toNat ∧ L.getD 3 [] = Lib.decDigits (ip.getD 0 0).toNat := by
  obtain ⟨h1, h2⟩ := same_at h
  rw [rev4_at] at h1 h2
  exact ⟨h1, low_digs _ _ (h2 0) (decDigits_all _), low_digs _ _ (h2 1) (decDigits_all _), low_digs _ _ (h2 2) (decDigits_all _), low_digs _ _ (h2 3) (decDigits_all _)⟩
theorem said4 {ip : List UInt8} {L : List (List UInt8)} (hip : ip.length = 16) (hc : ip = low4 ip) (h : sameN (revL 4 ip) L = true) : saidE L = ⟨4, ip, 0⟩ := by
  obtain ⟨h6, h0, h1, h2, h3⟩ := same4 h
  have hb : ∀ i, i < 4 → byteQ L i = ip.getD i 0 := by
    intro i hi
    unfold byteQ
    have : i = 0 ∨ i = 1 ∨ i = 2 ∨ i = 3 := by omega
    rcases this with rfl | rfl | rfl | rfl
    · rw [show 3 - 0 = 3 from rfl, h3, num_dec]; simp
    · rw [show 3 - 1 = 2 from rfl, h2, num_dec]; simp
    · rw [show 3 - 2 = 1 from rfl, h1, num_dec]; simp
    · rw [show 3 - 3 = 0 from rfl, h0, num_dec]; simp
  have hp : partB (byteQ L) 4 = low4 ip := by
    show quad16 (byteQ L 0) (byteQ L 1) (byteQ L 2) (byteQ L 3) = low4 ip
    rw [hb 0 (by decide), hb 1 (by decide), hb 2 (by decide), hb 3 (by decide)]
    rfl
  unfold saidE
  rw [if_pos h6, hp, ← hc]
theorem read4 {ip : List UInt8} {L : List (List UInt8)} (hc : ip = low4 ip) (h : sameN (revL 4 ip) L = true) : parseA (txtU L) = ⟨4, ip, 0, 0⟩ := by
  obtain ⟨h6, h0, h1, h2, h3⟩ := same4 h
  have ht : txtU L = quadT (ip.getD 0 0) (ip.getD 1 0) (ip.getD 2 0) (ip.getD 3 0) := by
    unfold txtU
    rw [if_pos h6]
    unfold dotU
    rw [h0, h1, h2, h3]
    rfl
  rw [ht, lit_quad _ _ _ _ (quadT_colB _ _ _ _)]
  show (⟨4, low4 ip, 0, 0⟩ : AdZ) = _
  rw [← hc]
def nib (ip : List UInt8) (j : Nat) : Nat := if j % 2 = 0 then (ip.getD (15 - j / 2) 0).toNat % 16 else (ip.getD (15 - j / 2) 0).toNat / 16
theorem nib_lt (ip : List UInt8) (j : Nat) : nib ip j < 16 := by
  unfold nib
  have := UInt8.toNat_lt (ip.getD (15 - j / 2) 0)
  split <;> omega
theorem rev6_at (ip : List UInt8) : ∀ (k j : Nat), j < 2 * k → (rev6 ip k).getD j [] = [hexC (nib ip j)] := by
  intro k
  induction k with
  | zero => intro j h; omega
  | succ k ih =>
    intro j h
    have hl := rev6_len ip k
    rw [rev6_succ, List.getD_eq_getElem?_getD]
    by_cases hj : j < 2 * k
    · rw [List.getElem?_append_left (by omega), ← List.getD_eq_getElem?_getD, ih j hj]
    · rw [List.getElem?_append_right (by omega), hl]
      have : j = 2 * k ∨ j = 2 * k + 1 := by omega
      rcases this with rfl | rfl
      · rw [Nat.sub_self]
        unfold nib
        rw [if_pos (by omega), show 2 * k / 2 = k by omega]
        rfl
      · rw [show 2 * k + 1 - 2 * k = 1 by omega]
        unfold nib
        rw [if_neg (by omega), show (2 * k + 1) / 2 = k by omega]
        rfl
theorem same6 {ip : List UInt8} {L : List (List UInt8)} (h : sameN (revL 6 ip) L = true) : L.length = 34 ∧ ∀ j, j < 32 → ∃ c, L.getD j [] = [c] ∧ hexB c.toNat = true ∧ (hexV c.toNat).toNat = nib ip j ∧ c ≠ 58 ∧ c ≠ 37 := by
  obtain ⟨h1, h2⟩ := same_at h
  have hr : revL 6 ip = rev6 ip 16 ++ [lIp6, lArpa] := rfl
  have hl := rev6_len ip 16
  rw [hr] at h1 h2
  refine ⟨by rw [h1, List.length_append, hl]; rfl, fun j hj => ?_⟩
  have h3 := h2 j
  have hap : (rev6 ip 16 ++ [lIp6, lArpa]).getD j [] = [hexC (nib ip j)] := by
    rw [List.getD_eq_getElem?_getD, List.getElem?_append_left (by omega), ← List.getD_eq_getElem?_getD, rev6_at ip 16 j (by omega)]
  rw [hap] at h3
  have h4 : (L.getD j []).map lowB = [hexC (nib ip j)] := by rw [h3]; simp [low_hexC ⟨nib ip j, nib_lt ip j⟩]
  have h5 : (L.getD j []).length = 1 := by
    have := congrArg List.length h4
    simpa using this
  match hx : L.getD j [], h5 with
  | [c], _ =>
    rw [hx] at h4
    have h6 : lowB c = hexC (nib ip j) := by simpa using h4
    exact ⟨c, rfl, low_hex c _ (nib_lt ip j) h6⟩
theorem said6 {ip : List UInt8} {L : List (List UInt8)} (hip : ip.length = 16) (h : sameN (revL 6 ip) L = true) : saidE L = ⟨6, ip, 0⟩ := by
  obtain ⟨h34, hc⟩ := same6 h
  have hd : ∀ j, j < 32 → digV (L.getD j []) = nib ip j := by
    intro j hj
    obtain ⟨c, h1, _, h2, _⟩ := hc j hj
    rw [h1]
    exact h2
  have hp : partB (byteR L) 16 = ip := by
    refine List.ext_getElem (by rw [partB_len, hip]) fun i h1 h2 => ?_
    have hi : i < 16 := by omega
    simp only [partB, List.getElem_map, List.getElem_range]
    rw [if_pos hi]
    unfold byteR
    rw [hd _ (by omega), hd _ (by omega)]
    have e : ip[i] = ip.getD i 0 := by rw [List.getD_eq_getElem?_getD, List.getElem?_eq_getElem h2]; rfl
    unfold nib
    rw [if_neg (by omega), if_pos (by omega), show 15 - (2 * (16 - i) - 1) / 2 = i by omega, show 15 - (2 * (16 - i) - 2) / 2 = i by omega, e]
    apply UInt8.toNat_inj.1
    have := UInt8.toNat_lt (ip.getD i 0)
    rw [UInt8.toNat_ofNat']
    omega
  unfold saidE
  rw [if_neg (by omega), if_pos h34, hp]
theorem txt6_chars {L : List (List UInt8)} {c : Nat → UInt8} (h : ∀ j, j < 32 → L.getD j [] = [c j]) : ∀ k, k ≤ 32 → txt6 L k = (List.range k).flatMap (fun k => c (31 - k) :: (if (31 - k) % 4 = 0 ∧ 0 < 31 - k then [58] else [])) := by
  intro k
  induction k with
  | zero => intro _; rfl
  | succ k ih =>
    intro hk
    rw [txt6_succ, ih (by omega), List.range_succ, List.flatMap_append]
    unfold seg6
    rw [h (31 - k) (by omega)]
    simp
def pcs (c : Nat → UInt8) : List (List UInt8) := [[c 31, c 30, c 29, c 28], [c 27, c 26, c 25, c 24], [c 23, c 22, c 21, c 20], [c 19, c 18, c 17, c 16], [c 15, c 14, c 13, c 12], [c 11, c 10, c 9, c 8], [c 7, c 6, c 5, c 4], [c 3, c 2, c 1, c 0]]
theorem txt6_pcs {L : List (List UInt8)} {c : Nat → UInt8} (h : ∀ j, j < 32 → L.getD j [] = [c j]) : txt6 L 32 = joiX 58 (pcs c) := by
  rw [txt6_chars h 32 (Nat.le_refl _)]
  rfl
theorem group_pc {a b c d : UInt8} (ha : hexB a.toNat = true) (hb : hexB b.toNat = true) (hc : hexB c.toNat = true) (hd : hexB d.toNat = true) :
    groupE [a, b, c, d] = some (256 * (16 * (hexV a.toNat).toNat + (hexV b.toNat).toNat) + (16 * (hexV c.toNat).toNat + (hexV d.toNat).toNat)) := by
  unfold groupE
  rw [if_neg (by simp [allH, ha, hb, hc, hd])]
  congr 1
  show 16 * (16 * (16 * (16 * 0 + _) + _) + _) + _ = _
  omega
theorem read6 {ip : List UInt8} {L : List (List UInt8)} (hip : ip.length = 16) (h : sameN (revL 6 ip) L = true) : parseA (txtU L) = ⟨6, ip, 0, 0⟩ := by
  obtain ⟨h34, hc0⟩ := same6 h
  obtain ⟨c, hc⟩ : ∃ c : Nat → UInt8, ∀ j, j < 32 → L.getD j [] = [c j] ∧ hexB (c j).toNat = true ∧ (hexV (c j).toNat).toNat = nib ip j ∧ c j ≠ 58 ∧ c j ≠ 37 := by
    refine ⟨fun j => (L.getD j []).getD 0 0, fun j hj => ?_⟩
    obtain ⟨x, h1, h2⟩ := hc0 j hj
    have e : (L.getD j []).getD 0 0 = x := by rw [h1]; rfl
    show L.getD j [] = [(L.getD j []).getD 0 0] ∧ hexB ((L.getD j []).getD 0 0).toNat = true ∧ (hexV ((L.getD j []).getD 0 0).toNat).toNat = nib ip j ∧ (L.getD j []).getD 0 0 ≠ 58 ∧ (L.getD j []).getD 0 0 ≠ 37
    rw [e]
    exact ⟨h1, h2⟩
  have ht : txtU L = joiX 58 (pcs c) := by
    unfold txtU
    rw [if_neg (by omega), if_pos h34]
    exact txt6_pcs fun j hj => (hc j hj).1
  have hall : ∀ p ∈ pcs c, (58 : UInt8) ∉ p ∧ p ≠ [] ∧ (37 : UInt8) ∉ p := by
    have key : ∀ i, i + 3 < 32 → (58 : UInt8) ∉ [c (i + 3), c (i + 2), c (i + 1), c i] ∧ [c (i + 3), c (i + 2), c (i + 1), c i] ≠ [] ∧ (37 : UInt8) ∉ [c (i + 3), c (i + 2), c (i + 1), c i] := by
      intro i hi
      have a0 := (hc i (by omega)).2.2.2
      have a1 := (hc (i + 1) (by omega)).2.2.2
      have a2 := (hc (i + 2) (by omega)).2.2.2
      have a3 := (hc (i + 3) (by omega)).2.2.2
      refine ⟨?_, by simp, ?_⟩
      · simp [Ne.symm a0.1, Ne.symm a1.1, Ne.symm a2.1, Ne.symm a3.1]
      · simp [Ne.symm a0.2, Ne.symm a1.2, Ne.symm a2.2, Ne.symm a3.2]
    intro p hp
    simp only [pcs, List.mem_cons, List.not_mem_nil, or_false] at hp
    rcases hp with rfl | rfl | rfl | rfl | rfl | rfl | rfl | rfl
    · exact key 28 (by decide)
    · exact key 24 (by decide)
    · exact key 20 (by decide)
    · exact key 16 (by decide)
    · exact key 12 (by decide)
    · exact key 8 (by decide)
    · exact key 4 (by decide)
    · exact key 0 (by decide)
  have hg : ∀ m, m < 8 → groupE [c (31 - 4 * m), c (30 - 4 * m), c (29 - 4 * m), c (28 - 4 * m)] = some (256 * (ip.getD (2 * m) 0).toNat + (ip.getD (2 * m + 1) 0).toNat) := by
    intro m hm
    obtain ⟨_, a1, a2, _⟩ := hc (31 - 4 * m) (by omega)
    obtain ⟨_, b1, b2, _⟩ := hc (30 - 4 * m) (by omega)
    obtain ⟨_, c1, c2, _⟩ := hc (29 - 4 * m) (by omega)
    obtain ⟨_, d1, d2, _⟩ := hc (28 - 4 * m) (by omega)
    rw [group_pc a1 b1 c1 d1, a2, b2, c2, d2]
    unfold nib
    rw [if_neg (by omega), if_pos (by omega), if_neg (by omega), if_pos (by omega), show 15 - (31 - 4 * m) / 2 = 2 * m by omega, show 15 - (30 - 4 * m) / 2 = 2 * m by omega, show 15 - (29 - 4 * m) / 2 = 2 * m + 1 by omega, show 15 - (28 - 4 * m) / 2 = 2 * m + 1 by omega]
    have := UInt8.toNat_lt (ip.getD (2 * m) 0)
    have := UInt8.toNat_lt (ip.getD (2 * m + 1) 0)
    congr 1
    omega
  have hs : sideP true (pcs c) = some (groupsG ip) := by
    have g0 := hg 0 (by decide)
    have g1 := hg 1 (by decide)
    have g2 := hg 2 (by decide)
    have g3 := hg 3 (by decide)
    have g4 := hg 4 (by decide)
    have g5 := hg 5 (by decide)
    have g6 := hg 6 (by decide)
    have g7 := hg 7 (by decide)
    simp only [Nat.mul_zero, Nat.sub_zero, Nat.mul_one, Nat.zero_add, Nat.reduceMul, Nat.reduceSub, Nat.reduceAdd] at g0 g1 g2 g3 g4 g5 g6 g7
    simp only [pcs, sideP, g0, g1, g2, g3, g4, g5, g6, g7, Option.map_some]
    rfl
  have hne : joiX 58 (pcs c) ≠ [] := by unfold pcs; simp [joiX]
  have ho : octE (joiX 58 (pcs c)) = some ip := by
    unfold octE plainE
    rw [index_noCC _ (joiX_noCC _ (fun p hp => (hall p hp).1) (fun p hp => (hall p hp).2.1)), if_pos rfl]
    unfold sideE
    rw [if_neg hne, cutX_joi 58 _ (by simp [pcs]) (fun p hp => (hall p hp).1), hs]
    simp only
    rw [if_pos (groupsG_len ip), Option.map_some, bytesG_groups ip hip]
  have h37 : (37 : UInt8) ∉ joiX 58 (pcs c) := by
    intro hm
    rcases joiX_mem 58 37 _ hm with h1 | ⟨p, hp, h1⟩
    · exact absurd h1 (by decide)
    · exact (hall p hp).2.2 h1
  rw [ht]
  refine lit_colon _ _ ?_ (cutK_not _ h37) ho
  unfold colB
  rw [decide_eq_true_eq]
  unfold pcs
  simp [joiX]
theorem parseA_cases (l : List UInt8) : (∃ a b c d, parseA l = ⟨4, quad16 a b c d, 0, 0⟩) ∨ (∃ ip z, parseA l = ⟨6, ip, z, 0⟩ ∧ ip.length = 16 ∧ 0 ≤ z ∧ z ≤ 2147483647) ∨ (∃ e, e ≠ 0 ∧ parseA l = ⟨0, zero16, 0, e⟩) := by
  unfold parseA
  by_cases hc : colB l = true
  · rw [if_pos hc]
    unfold colonE
    cases ho : octE (l.take (cutK l 37)) with
    | none => exact .inr (.inr ⟨5, by decide, rfl⟩)
    | some b =>
      have hb := octE_len ho
      simp only
      by_cases h1 : l.length ≤ cutK l 37
      · rw [if_pos h1]
        exact .inr (.inl ⟨b, 0, rfl, hb, by decide, by decide⟩)
      · rw [if_neg h1]
        by_cases h2 : (numR (l.drop (cutK l 37 + 1)) 2147483647).2 ≠ 0
        · rw [if_pos h2]
          exact .inr (.inr ⟨_, h2, rfl⟩)
        · rw [if_neg h2]
          by_cases h3 : (numR (l.drop (cutK l 37 + 1)) 2147483647).1 = 0
          · rw [if_pos h3]
            exact .inr (.inr ⟨4, by decide, rfl⟩)
          · rw [if_neg h3]
            have h4 := numR_bd9 (l.drop (cutK l 37 + 1)) 2147483647 (by decide)
            exact .inr (.inl ⟨b, _, rfl, hb, h4.1, h4.2⟩)
  · rw [if_neg hc]
    by_cases he : (parseE l).err = 0
    · obtain ⟨a, b, c, d, _, h⟩ := parseE_quad l he
      exact .inl ⟨a, b, c, d, by rw [h]⟩
    · have h : parseE l = ⟨0, zero16, 5⟩ := by
        refine parseE_not l fun a b c d hq => he ?_
        rw [hq, quadT_parse]
      exact .inr (.inr ⟨5, by decide, by rw [h]⟩)
theorem said_cases (L : List (List UInt8)) (h : bitsF (saidE L).fam ≠ 0) : ((saidE L).fam = 4 ∧ (saidE L).ip = low4 (saidE L).ip) ∨ (saidE L).fam = 6 := by
  unfold saidE at h ⊢
  by_cases h6 : L.length = 6
  · rw [if_pos h6]
    exact .inl ⟨rfl, rfl⟩
  · rw [if_neg h6] at h ⊢
    by_cases h34 : L.length = 34
    · rw [if_pos h34]
      exact .inr rfl
    · rw [if_neg h34] at h
      exact absurd rfl h
theorem unrev_eq (L : List (List UInt8)) : unrevP L = unrevR L := by
  have hl := saidE_len L
  unfold unrevP
  by_cases h : bitsF (saidE L).fam ≠ 0 ∧ sameN (revL (saidE L).fam (saidE L).ip) L = true
  · rw [if_pos h]
    obtain ⟨h1, h2⟩ := h
    obtain ⟨ip, hip⟩ : ∃ ip, ip = (saidE L).ip := ⟨_, rfl⟩
    rcases said_cases L h1 with ⟨h4, hc⟩ | h6
    · rw [h4, ← hip] at h2
      rw [← hip] at hc hl
      have := read4 hc h2
      unfold unrevR
      rw [this, h4, ← hip]
      simp only
      rw [if_pos (by simpa using h2)]
    · rw [h6, ← hip] at h2
      rw [← hip] at hl
      have := read6 hl h2
      unfold unrevR
      rw [this, h6, ← hip]
      simp only
      rw [if_pos (by simpa using h2)]
  · rw [if_neg h]
    unfold unrevR
    rw [if_neg]
    rintro ⟨he, hs⟩
    apply h
    rcases parseA_cases (txtU L) with ⟨a, b, c, d, hp⟩ | ⟨ip, z, hp, hip, _, _⟩ | ⟨e, hne, hp⟩
    · rw [hp] at hs
      simp only at hs
      rw [said4 rfl rfl hs]
      exact ⟨(by show (32 : Nat) ≠ 0; decide), hs⟩
    · rw [hp] at hs
      simp only at hs
      rw [said6 hip hs]
      exact ⟨(by show (128 : Nat) ≠ 0; decide), hs⟩
    · rw [hp] at he
      exact absurd he hne
end Go.Proofs.YthbdeafbdmbabaaGreatDoor
