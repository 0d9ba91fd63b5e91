/- Texts behind a law of this seat, in order: Quad6. -/
import Derived.Test.YthbdeafbdmbabaaGreatDoorPa
import Derived.Test.YthbdeafbdmbabaaGreatDoorPb
import Derived.Test.YthbdeafbdmbabaaGreatDoorPc
import Derived.Test.YthbdeafbdmbabaaGreatDoorPd
import Derived.Test.YthbdeafbdmbabaaGreatDoorPe
import Derived.Test.YthbdeafbdmbabaaGreatDoorPf
import Derived.Test.YthbdeafbdmbabaaGreatDoorPg
import Derived.Test.YthbdeafbdmbabaaGreatDoorPh
import Derived.Test.YthbdeafbdmbabaaGreatDoorPi
import Derived.Test.YthbdeafbdmbabaaGreatDoorPj
import Derived.Test.YthbdeafbdmbabaaGreatDoorPk
import Derived.Test.YthbdeafbdmbabaaGreatDoorPm
import Derived.Test.YthbdeafbdmbabaaGreatDoorPn
import Derived.Test.YthbdeafbdmbabaaGreatDoorPo
import Derived.Test.YthbdeafbdmbabaaGreatDoorPp
import Derived.Test.YthbdeafbdmbabaaGreatDoorPq
import Derived.Below
import Derived.BigQuiet
import Derived.ChangeSlices
import Derived.Deep.AppendLies
import Derived.Deep.Draws
import Derived.Deep.QuietTactic
import Derived.Deep.RegionLaw
import Derived.Great.Ranges
import Derived.Handed
import Derived.Laws.BitsAllLaws
import Derived.Laws.OwnMore
import Derived.Laws.Rows
import Derived.Laws.StructEq
import Derived.Lib.Bytealg
import Derived.Lib.Hide
import Derived.Lib.ItoaLen
import Derived.Lib.ItoaMem
import Derived.Lib.ItoaNum
import Derived.Lib.Join
import Derived.Lib.SmallJoins
import Derived.Lib.Split
import Derived.Lib.SplitLaws
import Derived.Lib.Strings
import Derived.OpenShut
import Derived.Shelf.LaysM
import Derived.Shelf.Small.Bits
import Derived.Shelf.Small.Strs
import Derived.Shelf.Strconv.Itoa0
import Derived.Shelf.Strconv.Itoa1
import Derived.Shelf.Strconv.Itoa2
import Derived.Shelf.Strconv.Itoa3
import Derived.Shelf.Strings.Builder1
import Derived.Shelf.Strings.Builder2
import Derived.Shelf.Strings.Builder2Cap
import Derived.Shelf.Strings.BuilderCap
import Derived.Shelf.Strings.BuilderF
import Derived.Shelf.Strings.BuilderK
import Derived.Shelf.Strings.Count
import Derived.Shelf.Strings.Cut
import Derived.Shelf.Strings.OnBuilder
import Derived.Shelf.Strings.Prefix
import Derived.Shelf.Strings.Search1
import Derived.Shelf.Strings.Search2
import Derived.Shelf.Strings.Search3
import Derived.Shelf.Strings.Shaped
import Derived.Shelf.Strings.Split
import Derived.Shelf.Strings.SplitShaped
import Derived.Shelf.Unicode.Decode
import Derived.Shelf.Unicode.DecodeAny
import Derived.Shelf.Unicode.DecodeSlow
import Derived.SizedLaws
import Derived.SliceStrings
import Derived.Stop.BytesEq
import Derived.Test.YthbdeafbdmbabaaGreatDoorProg
import Derived.WalkKit
import Derived.WalkLawsBesides
import Derived.WalkSpells
namespace Go.Proofs.YthbdeafbdmbabaaGreatDoor
open Go.RowKit Go
set_option linter.unusedVariables false
def P10 (w : World) : Prop := Lib.TabIs Tryz.prog w "internal/strconv.uint64pow10" .u64 Lib.pow10Tab
theorem P10.below {w w' : World} (h : P10 w) {B : Nat} (hB : w.heap.size ≤ B) (hb : Below B w w') : P10 w' :=
  Joins.tab_stays (g := 3) (by kernel_rfl) h hb hB
theorem digitsU_any (c : UInt8) (w : World) (hP : P10 w) : Calls Tryz.prog 39 #[.int .i64 c.toNat] w fun e w' => e = .returned (.string ⟨(Lib.decDigits c.toNat).toArray⟩) ∧ Below w.heap.size w w' := by
  have hc := UInt8.toNat_lt c
  have := digits_num c.toNat w (by omega) (by omega) hP
  rw [Lib.itoa_nonneg] at this
  exact this
theorem ad_byte (f z : Int) (ip : List UInt8) (k : Nat) (c : UInt8) (h : ip[k]? = some c) : (adCs f ip z).toArray[1 + k]? = some (.int .u8 c.toNat) := by
  have hk : k < ip.length := (List.getElem?_eq_some_iff.1 h).1
  rw [List.getElem?_toArray, Nat.add_comm]
  unfold adCs
  rw [List.getElem?_cons_succ, List.getElem?_append_left (by simpa using hk), List.getElem?_map, h]
  rfl
def txt4 : Array Value := #[.string ByteArray.empty, .string ByteArray.empty, .string ByteArray.empty, .string ByteArray.empty]
theorem txt4Zero : (Tryz.prog.info? 62).map (·.zero) = some (some (.agg txt4)) := by kernel_rfl
theorem strSize : (Tryz.prog.info? 9).map (·.size) = some 1 := by kernel_rfl
set_option maxRecDepth 100000 in
set_option maxHeartbeats 2000000 in
theorem text_any (f z : Int) (ip : List UInt8) (w : World) (hip : ip.length = 16) (hP : P10 w) :
    Calls Tryz.prog 30 #[adV f ip z] w fun e w' => e = .returned (.string ⟨(quadI ip).toArray⟩) ∧ Below w.heap.size w w' := by
  have S := Ats.start w
  go_enter Tryz.func30, Tryz.ntmps30
  go_wp2_with (first
    | ((with_reducible show wpList _ _ _ (Oper.mk _ (Op.box _ _) _ _ _ _ :: _) _ _); refine wpList_boxS rfl _ _ rfl (adCs f ip z).toArray rfl S ?_; clear S; intro ga w1 S)
    | ((with_reducible show wpList _ _ _ (Oper.mk _ (Op.alloc _) _ _ _ _ :: _) _ _); refine wpList_allocS rfl _ rfl _ txt4Zero S ?_; clear S; intro gl w1 S))
  have hPd : ∀ wr L, Ats w.heap.size w wr L → P10 wr := fun wr L h => hP.below (Nat.le_refl _) h.below
  have HPd := Lib.hid hPd
  clear hPd
  go_loopw [5] (fun i wr => ∃ (k : Nat) (C : Array Value), i = .int .i64 k ∧ k ≤ 4 ∧ C.size = 4 ∧ (∀ (j : Nat) (c : UInt8), j < k → ip[j]? = some c → C[j]? = some (strV (Lib.decDigits c.toNat))) ∧ Ats w.heap.size w wr [(gl, 62, C), (ga, 24, (adCs f ip z).toArray)]) (fun i _ => 4 - (intOf i).toNat)
  case atStart => exact ⟨0, txt4, rfl, Nat.zero_le _, rfl, fun j c h => absurd h (Nat.not_lt_zero _), S⟩
  case round =>
    obtain ⟨k, C, rfl, hk, hC, hcell, S⟩ := hrel
    have HC := Lib.hid hcell
    clear hcell
    by_cases hlt : k < 4
    · obtain ⟨c, hc⟩ : ∃ c, ip[k]? = some c := ⟨_, List.getElem?_eq_getElem (by omega)⟩
      have hb := ad_byte f z ip k c hc
      have hd := digitsU_any c wr (HPd.out _ _ S)
      have hc255 := UInt8.toNat_lt c
      have hk4 : k < C.size := by omega
      have hset : ∀ (j : Nat) (c' : UInt8), j < k + 1 → ip[j]? = some c' → (C.setIfInBounds k (.string ⟨(Lib.decDigits c.toNat).toArray⟩))[j]? = some (strV (Lib.decDigits c'.toNat)) := by
        intro j c' hj hcj
        by_cases hjk : j = k
        · subst hjk
          rw [hc] at hcj
          cases hcj
          rw [Array.getElem?_setIfInBounds_self_of_lt hk4]
          rfl
        · rw [Array.getElem?_setIfInBounds_ne (Ne.symm hjk)]
          exact HC.out j c' (by omega) hcj
      have hC' : (C.setIfInBounds k (.string ⟨(Lib.decDigits c.toNat).toArray⟩)).size = 4 := by simpa using hC
      have HB := Lib.hid hb
      have HD := Lib.hid hd
      have HS := Lib.hid hset
      have HS' := Lib.hid hC'
      clear hb hd hset hC' hc HC
      go_wp2_with (first
        | ((with_reducible refine HD.out.mono ?_); rintro e w2 ⟨rfl, hb⟩; have S := S.call hb; clear hb)
        | ((with_reducible show wpList _ _ _ (Oper.mk _ (Op.load _ _) _ _ _ _ :: _) _ _); refine wpList_cellS rfl _ _ rfl S _ _ rfl 1 _ _ rfl _ Tryz.underlying5 rfl _ (by exact HB.out) ?_)
        | ((with_reducible show wpList _ _ _ (Oper.mk _ (Op.store _ _ _) _ _ _ _ :: _) _ _); refine wpList_putS rfl _ _ _ rfl S _ _ rfl _ rfl rfl rfl 0 _ _ rfl strSize (by exact hk4) ?_; clear S; intro w1 S; (first | simp only [List.set_cons_zero] at S | simp only [List.set_cons_succ, List.set_cons_zero] at S | skip)))
      go_roundw
      case rel => exact ⟨k + 1, _, by go_num, by omega, HS'.out, HS.out, S⟩
      case measure => simp [intOf]; omega
    · obtain rfl : k = 4 := by omega
      have ht : TextsAt wr (some ⟨gl, 0, none⟩) 4 [Lib.decDigits (ip.getD 0 0).toNat, Lib.decDigits (ip.getD 1 0).toNat, Lib.decDigits (ip.getD 2 0).toNat, Lib.decDigits (ip.getD 3 0).toNat] := by
        have A := S.get (i := 0) rfl
        refine ⟨rfl, fun _ => ⟨gl, 0, rfl, A.lt, fun j hj => ?_⟩⟩
        have hj4 : j < 4 := hj
        have hget : ∀ (q : Nat), q < 4 → ip[q]? = some (ip.getD q 0) := fun q hq => by
          rw [List.getD_eq_getElem?_getD, List.getElem?_eq_getElem (show q < ip.length by omega)]; rfl
        have h0 : ∀ q, q < 4 → wr.cell? ⟨gl, 0 + q, none⟩ = some (strV (Lib.decDigits (ip.getD q 0).toNat)) := fun q hq => by
          rw [Nat.zero_add]
          exact A.cells q (HC.out q _ hq (hget q hq))
        match j, hj4 with
        | 0, _ => exact h0 0 (by decide)
        | 1, _ => exact h0 1 (by decide)
        | 2, _ => exact h0 2 (by decide)
        | 3, _ => exact h0 3 (by decide)
      have hj : joinL [46] [Lib.decDigits (ip.getD 0 0).toNat, Lib.decDigits (ip.getD 1 0).toNat, Lib.decDigits (ip.getD 2 0).toNat, Lib.decDigits (ip.getD 3 0).toNat] = quadI ip := by
        unfold joinL quadI quadT
        simp [Lib.join_cons, Lib.joinTail]
      have hJ := join_any ⟨#[46]⟩ (some ⟨gl, 0, none⟩) 4 4 _ wr ht (by decide) (by decide) (by
        show (joinL [46] _).length ≤ _
        rw [hj]
        have := (quadT_len (ip.getD 0 0) (ip.getD 1 0) (ip.getD 2 0) (ip.getD 3 0)).1
        unfold quadI
        omega)
      rw [show (⟨#[46]⟩ : ByteArray).data.toList = [46] from rfl, hj] at hJ
      have HJ := Lib.hid hJ
      clear hJ hj ht HC
      go_wp2_with (first
        | ((with_reducible refine HJ.out.mono ?_); rintro e w2 ⟨rfl, hb⟩; have S := S.call hb; clear hb))
      go_ret
      exact ⟨rfl, S.below⟩
set_option maxRecDepth 100000 in
set_option maxHeartbeats 2000000 in
theorem parse_any (s : ByteArray) (w : World) (hs : s.size ≤ 4000) (hP : P10 w) :
    Calls Tryz.prog 44 #[.string s] w fun e w' => e = .returned (adTup (parseE s.data.toList)) ∧ Below w.heap.size w w' := by
  have S := Ats.start w
  have hl := fun w => loose_any s w hs
  simp only [adTup] at hl
  have hip := looseE_len s.data.toList
  by_cases he : (looseE s.data.toList).err = 0
  · have hPd : ∀ wr L, Ats w.heap.size w wr L → P10 wr := fun wr L h => hP.below (Nat.le_refl _) h.below
    have HPd := Lib.hid hPd
    have HL := Lib.hid hl
    rw [he] at HL
    have HI := Lib.hid hip
    have HT := Lib.hid (fun w (h : P10 w) => text_any (looseE s.data.toList).fam 0 (looseE s.data.toList).ip w hip h)
    clear hl hip hPd
    by_cases hq : quadI (looseE s.data.toList).ip = s.data.toList
    · have hE : parseE s.data.toList = looseE s.data.toList := by unfold parseE; rw [if_pos ⟨he, hq⟩]
      have hq' : (quadI (looseE s.data.toList).ip == s.toList) = true := by rw [ByteArray.toList_eq]; simpa using hq
      have HE := Lib.hid hE
      have HX := Lib.hid he
      clear hq hE he
      go_enter Tryz.func44, Tryz.ntmps44
      go_wp2_with (first
        | ((with_reducible refine (HL.out _).mono ?_); rintro e w2 ⟨rfl, hb⟩; have S := S.call hb; clear hb)
        | ((with_reducible refine (HT.out _ (HPd.out _ _ S)).mono ?_); rintro e w2 ⟨rfl, hb⟩; have S := S.call hb; clear hb)
        | ((with_reducible show wpList _ _ _ (Oper.mk _ (Op.alloc _) _ _ _ _ :: _) _ _); refine wpList_allocS rfl _ rfl _ adZero S ?_; clear S; intro ga w1 S)
        | ((with_reducible show wpList _ _ _ (Oper.mk _ (Op.load _ _) _ _ _ _ :: _) _ _); refine wpList_loadS rfl _ _ rfl S _ rfl 0 _ _ rfl _ Tryz.underlying24 rfl (adSize _ _ _ HI.out) ?_)
        | ((with_reducible show wpList _ _ _ (Oper.mk _ (Op.store _ _ _) _ _ _ _ :: _) _ _); refine wpList_storeS rfl _ _ _ rfl S _ rfl _ rfl 0 _ _ rfl (adSize _ _ _ HI.out) (by exact ad_sizes _ _ _ _ _ _ rfl HI.out) (by exact adCs_one _ _ _) ?_; clear S; intro w1 S; (first | simp only [List.set_cons_zero] at S | simp only [List.set_cons_succ, List.set_cons_zero] at S | skip))
        | ((with_reducible show wpList _ _ _ (Oper.mk _ (Op.store _ _ _) _ _ _ _ :: _) _ _); refine wpList_storeS rfl _ _ _ rfl S _ rfl _ rfl 1 _ _ rfl (adSize _ _ _ HI.out) (by exact ad_sizes _ _ _ _ _ _ rfl HI.out) (by exact adCs_one _ _ _) ?_; clear S; intro w1 S; (first | simp only [List.set_cons_zero] at S | simp only [List.set_cons_succ, List.set_cons_zero] at S | skip))
        | ((with_reducible show wpList _ _ _ (Oper.mk _ (Op.store _ _ _) _ _ _ _ :: _) _ _); refine wpList_storeS rfl _ _ _ rfl S _ rfl _ rfl 1 _ _ rfl adInfo (by rfl) (by first | exact adCs_one _ _ _ | simp [Value.oneCell']) ?_; clear S; intro w1 S; (first | simp only [List.set_cons_zero] at S | simp only [List.set_cons_succ, List.set_cons_zero] at S | skip)))
      exact bodyPost_ret (results_cell2S rfl _ S _ 1 _ _ _ rfl rfl Tryz.underlying24 rfl (adSize _ _ _ HI.out)) rfl ⟨by rw [HE.out, adTup, HX.out]; rfl, S.below⟩
    · have hE : parseE s.data.toList = adR none 5 := by unfold parseE; rw [if_neg (fun h => hq h.2)]
      have hq' : (quadI (looseE s.data.toList).ip == s.toList) = false := by rw [ByteArray.toList_eq]; simpa using hq
      have HE := Lib.hid hE
      clear hq hE he
      go_enter Tryz.func44, Tryz.ntmps44
      go_wp2_with (first
        | ((with_reducible refine (HL.out _).mono ?_); rintro e w2 ⟨rfl, hb⟩; have S := S.call hb; clear hb)
        | ((with_reducible refine (HT.out _ (HPd.out _ _ S)).mono ?_); rintro e w2 ⟨rfl, hb⟩; have S := S.call hb; clear hb)
        | ((with_reducible show wpList _ _ _ (Oper.mk _ (Op.alloc _) _ _ _ _ :: _) _ _); refine wpList_allocS rfl _ rfl _ adZero S ?_; clear S; intro ga w1 S)
        | ((with_reducible show wpList _ _ _ (Oper.mk _ (Op.load _ _) _ _ _ _ :: _) _ _); refine wpList_loadS rfl _ _ rfl S _ rfl 0 _ _ rfl _ Tryz.underlying24 rfl (adSize _ _ _ HI.out) ?_)
        | ((with_reducible show wpList _ _ _ (Oper.mk _ (Op.store _ _ _) _ _ _ _ :: _) _ _); refine wpList_storeS rfl _ _ _ rfl S _ rfl _ rfl 0 _ _ rfl (adSize _ _ _ HI.out) (by exact ad_sizes _ _ _ _ _ _ rfl HI.out) (by exact adCs_one _ _ _) ?_; clear S; intro w1 S; (first | simp only [List.set_cons_zero] at S | simp only [List.set_cons_succ, List.set_cons_zero] at S | skip))
        | ((with_reducible show wpList _ _ _ (Oper.mk _ (Op.store _ _ _) _ _ _ _ :: _) _ _); refine wpList_storeS rfl _ _ _ rfl S _ rfl _ rfl 1 _ _ rfl (adSize _ _ _ HI.out) (by exact ad_sizes _ _ _ _ _ _ rfl HI.out) (by exact adCs_one _ _ _) ?_; clear S; intro w1 S; (first | simp only [List.set_cons_zero] at S | simp only [List.set_cons_succ, List.set_cons_zero] at S | skip))
        | ((with_reducible show wpList _ _ _ (Oper.mk _ (Op.store _ _ _) _ _ _ _ :: _) _ _); refine wpList_storeS rfl _ _ _ rfl S _ rfl _ rfl 1 _ _ rfl adInfo (by rfl) (by first | exact adCs_one _ _ _ | simp [Value.oneCell']) ?_; clear S; intro w1 S; (first | simp only [List.set_cons_zero] at S | simp only [List.set_cons_succ, List.set_cons_zero] at S | skip)))
      exact bodyPost_ret (results_cell2S rfl _ S _ 1 _ _ _ rfl rfl Tryz.underlying24 rfl adInfo) rfl ⟨by rw [HE.out]; rfl, S.below⟩
  · have hE : parseE s.data.toList = adR none 5 := by unfold parseE; rw [if_neg (fun h => he h.1)]
    obtain ⟨er, her⟩ : ∃ er, er = (looseE s.data.toList).err := ⟨_, rfl⟩
    rw [← her] at hl he
    have he' : (er != 0) = true := by simpa using he
    have HE := Lib.hid hE
    have HL := Lib.hid hl
    have HI := Lib.hid hip
    clear hE hl hip he her
    go_enter Tryz.func44, Tryz.ntmps44
    go_wp2_with (first
      | ((with_reducible refine (HL.out _).mono ?_); rintro e w2 ⟨rfl, hb⟩; have S := S.call hb; clear hb)
      | ((with_reducible show wpList _ _ _ (Oper.mk _ (Op.alloc _) _ _ _ _ :: _) _ _); refine wpList_allocS rfl _ rfl _ adZero S ?_; clear S; intro ga w1 S)
      | ((with_reducible show wpList _ _ _ (Oper.mk _ (Op.load _ _) _ _ _ _ :: _) _ _); refine wpList_loadS rfl _ _ rfl S _ rfl 0 _ _ rfl _ Tryz.underlying24 rfl (adSize _ _ _ HI.out) ?_)
      | ((with_reducible show wpList _ _ _ (Oper.mk _ (Op.store _ _ _) _ _ _ _ :: _) _ _); refine wpList_storeS rfl _ _ _ rfl S _ rfl _ rfl 0 _ _ rfl (adSize _ _ _ HI.out) (by exact ad_sizes _ _ _ _ _ _ rfl HI.out) (by exact adCs_one _ _ _) ?_; clear S; intro w1 S; (first | simp only [List.set_cons_zero] at S | simp only [List.set_cons_succ, List.set_cons_zero] at S | skip))
      | ((with_reducible show wpList _ _ _ (Oper.mk _ (Op.store _ _ _) _ _ _ _ :: _) _ _); refine wpList_storeS rfl _ _ _ rfl S _ rfl _ rfl 1 _ _ rfl (adSize _ _ _ HI.out) (by exact ad_sizes _ _ _ _ _ _ rfl HI.out) (by exact adCs_one _ _ _) ?_; clear S; intro w1 S; (first | simp only [List.set_cons_zero] at S | simp only [List.set_cons_succ, List.set_cons_zero] at S | skip))
      | ((with_reducible show wpList _ _ _ (Oper.mk _ (Op.store _ _ _) _ _ _ _ :: _) _ _); refine wpList_storeS rfl _ _ _ rfl S _ rfl _ rfl 1 _ _ rfl adInfo (by rfl) (by first | exact adCs_one _ _ _ | simp [Value.oneCell']) ?_; clear S; intro w1 S; (first | simp only [List.set_cons_zero] at S | simp only [List.set_cons_succ, List.set_cons_zero] at S | skip)))
    exact bodyPost_ret (results_cell2S rfl _ S _ 1 _ _ _ rfl rfl Tryz.underlying24 rfl adInfo) rfl ⟨by rw [HE.out]; rfl, S.below⟩
end Go.Proofs.YthbdeafbdmbabaaGreatDoor
