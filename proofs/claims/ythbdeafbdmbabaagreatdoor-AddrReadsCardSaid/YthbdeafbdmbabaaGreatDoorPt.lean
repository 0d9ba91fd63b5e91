/- Texts behind a law of this seat, in order: Colon, Colon2. -/
import Derived.Test.YthbdeafbdmbabaaGreatDoorPa
import Derived.Test.YthbdeafbdmbabaaGreatDoorPb
import Derived.Test.YthbdeafbdmbabaaGreatDoorPc
import Derived.Test.YthbdeafbdmbabaaGreatDoorPd
import Derived.Test.YthbdeafbdmbabaaGreatDoorPe
import Derived.Test.YthbdeafbdmbabaaGreatDoorPf
import Derived.Test.YthbdeafbdmbabaaGreatDoorPg
import Derived.Test.YthbdeafbdmbabaaGreatDoorPh
import Derived.Test.YthbdeafbdmbabaaGreatDoorPi
import Derived.Test.YthbdeafbdmbabaaGreatDoorPj
import Derived.Test.YthbdeafbdmbabaaGreatDoorPk
import Derived.Test.YthbdeafbdmbabaaGreatDoorPm
import Derived.Test.YthbdeafbdmbabaaGreatDoorPn
import Derived.Test.YthbdeafbdmbabaaGreatDoorPo
import Derived.Test.YthbdeafbdmbabaaGreatDoorPp
import Derived.Test.YthbdeafbdmbabaaGreatDoorPq
import Derived.Test.YthbdeafbdmbabaaGreatDoorPr
import Derived.Test.YthbdeafbdmbabaaGreatDoorPs
import Derived.Below
import Derived.BigQuiet
import Derived.BigRegion
import Derived.ChangeSlices
import Derived.Deep.AppendLies
import Derived.Deep.Draws
import Derived.Deep.QuietTactic
import Derived.Deep.RegionLaw
import Derived.Great.Ranges
import Derived.Handed
import Derived.Laws.Bits64b
import Derived.Laws.BitsAllLaws
import Derived.Laws.OwnMore
import Derived.Laws.Rows
import Derived.Laws.StructEq
import Derived.Lib.Bytealg
import Derived.Lib.Hide
import Derived.Lib.ItoaLen
import Derived.Lib.ItoaMem
import Derived.Lib.ItoaNum
import Derived.Lib.Join
import Derived.Lib.SmallJoins
import Derived.Lib.Split
import Derived.Lib.SplitLaws
import Derived.Lib.Strings
import Derived.OpenShut
import Derived.Shelf.LaysM
import Derived.Shelf.Small.Bits
import Derived.Shelf.Small.Strs
import Derived.Shelf.Strconv.Itoa0
import Derived.Shelf.Strconv.Itoa1
import Derived.Shelf.Strconv.Itoa2
import Derived.Shelf.Strconv.Itoa3
import Derived.Shelf.Strings.Builder1
import Derived.Shelf.Strings.Builder2
import Derived.Shelf.Strings.Builder2Cap
import Derived.Shelf.Strings.BuilderCap
import Derived.Shelf.Strings.BuilderF
import Derived.Shelf.Strings.BuilderK
import Derived.Shelf.Strings.Count
import Derived.Shelf.Strings.Cut
import Derived.Shelf.Strings.OnBuilder
import Derived.Shelf.Strings.Prefix
import Derived.Shelf.Strings.Search1
import Derived.Shelf.Strings.Search2
import Derived.Shelf.Strings.Search3
import Derived.Shelf.Strings.Shaped
import Derived.Shelf.Strings.Split
import Derived.Shelf.Strings.SplitShaped
import Derived.Shelf.Unicode.Decode
import Derived.Shelf.Unicode.DecodeAny
import Derived.Shelf.Unicode.DecodeSlow
import Derived.SizedLaws
import Derived.SliceStrings
import Derived.Stop.BytesEq
import Derived.Test.YthbdeafbdmbabaaGreatDoorProg
import Derived.WalkKit
import Derived.WalkLawsBesides
import Derived.WalkSpells
namespace Go.Proofs.YthbdeafbdmbabaaGreatDoor
open Go.RowKit Go
set_option linter.unusedVariables false
set_option maxRecDepth 100000
def u64V (n : Nat) : Value := .int .u64 n
def gVs (g : List Nat) : Array Value := (g.map u64V).toArray
def g8 : Array Value := Array.replicate 8 (.int .u64 0)
theorem g8Zero : (Tryz.prog.info? 83).map (·.zero) = some (some (.agg g8)) := by kernel_rfl
theorem g8Info : (Tryz.prog.info? 83).map (·.size) = some 8 := by kernel_rfl
theorem or_bytes (a b : UInt8) : bits BinOp.or IntKind.u64 ((a.toNat : Int) * 256) (b.toNat : Int) = ((256 * a.toNat + b.toNat : Nat) : Int) := by
  have ha := UInt8.toNat_lt a
  have hb := UInt8.toNat_lt b
  have h := u64_or_nat (a.toNat * 256) b.toNat (by omega) (by omega)
  have e := Nat.shiftLeft_add_eq_or_of_lt (show b.toNat < 2 ^ 8 by omega) a.toNat
  rw [Nat.shiftLeft_eq] at e
  rw [← show a.toNat * 256 + b.toNat = a.toNat * 256 ||| b.toNat from e] at h
  rw [show ((a.toNat : Int) * 256) = ((a.toNat * 256 : Nat) : Int) by omega, h]
  omega
theorem ad_two (f z : Int) (ip : List UInt8) (k : Nat) (h : ip.length = 16) (hk : k < 8) :
    (adCs f ip z).toArray[1 + 2 * k]? = some (.int .u8 (ip.getD (2 * k) 0).toNat) ∧ (adCs f ip z).toArray[1 + (2 * k + 1)]? = some (.int .u8 (ip.getD (2 * k + 1) 0).toNat) := by
  have key : ∀ j, j < 16 → ip[j]? = some (ip.getD j 0) := fun j hj => by
    rw [List.getD_eq_getElem?_getD, List.getElem?_eq_getElem (show j < ip.length by omega)]; rfl
  exact ⟨ad_byte f z ip _ _ (key _ (by omega)), ad_byte f z ip _ _ (key _ (by omega))⟩
theorem groupsG_at (ip : List UInt8) (k : Nat) (hk : k < 8) : (groupsG ip)[k]? = some (256 * (ip.getD (2 * k) 0).toNat + (ip.getD (2 * k + 1) 0).toNat) := by
  unfold groupsG
  rw [List.getElem?_map, List.getElem?_range hk]
  rfl
set_option maxHeartbeats 2000000 in
theorem groups_any (f z : Int) (ip : List UInt8) (w : World) (hip : ip.length = 16) :
    Calls Tryz.prog 75 #[adV f ip z] w fun e w' => e = .returned (.agg (gVs (groupsG ip))) ∧ Below w.heap.size w w' := by
  have S := Ats.start w
  go_enter Tryz.func75, Tryz.ntmps75
  go_wp2_with (first
    | ((with_reducible show wpList _ _ _ (Oper.mk _ (Op.box _ _) _ _ _ _ :: _) _ _); refine wpList_boxS rfl _ _ rfl (adCs f ip z).toArray rfl S ?_; clear S; intro ga w1 S)
    | ((with_reducible show wpList _ _ _ (Oper.mk (some 2) (Op.alloc _) _ _ _ _ :: _) _ _); refine wpList_allocS rfl _ rfl _ g8Zero S ?_; clear S; intro gr w1 S)
    | ((with_reducible show wpList _ _ _ (Oper.mk (some 3) (Op.alloc _) _ _ _ _ :: _) _ _); refine wpList_allocS rfl _ rfl _ g8Zero S ?_; clear S; intro gl w1 S))
  go_loopw [5] (fun i wr => ∃ (k : Nat) (C : Array Value), i = .int .i64 k ∧ k ≤ 8 ∧ C.size = 8 ∧ (∀ (j n : Nat), j < k → (groupsG ip)[j]? = some n → C[j]? = some (u64V n)) ∧ Ats w.heap.size w wr [(gl, 83, C), (gr, 83, g8), (ga, 24, (adCs f ip z).toArray)]) (fun i _ => 8 - (intOf i).toNat)
  case atStart => exact ⟨0, g8, rfl, Nat.zero_le _, rfl, fun j n h => absurd h (Nat.not_lt_zero _), S⟩
  case round =>
    obtain ⟨k, C, rfl, hk, hC, hcell, S⟩ := hrel
    have HC := Lib.hid hcell
    clear hcell
    by_cases hlt : k < 8
    · obtain ⟨h0, h1⟩ := ad_two f z ip k hip hlt
      have c0 := (S.get (i := 2) rfl).cells _ h0
      have c1 := (S.get (i := 2) rfl).cells _ h1
      have hor := or_bytes (ip.getD (2 * k) 0) (ip.getD (2 * k + 1) 0)
      have b0 := UInt8.toNat_lt (ip.getD (2 * k) 0)
      have b1 := UInt8.toNat_lt (ip.getD (2 * k + 1) 0)
      obtain ⟨x, hx⟩ : ∃ x, x = ip.getD (2 * k) 0 := ⟨_, rfl⟩
      obtain ⟨y, hy⟩ : ∃ y, y = ip.getD (2 * k + 1) 0 := ⟨_, rfl⟩
      rw [← hx] at c0 hor b0
      rw [← hy] at c1 hor b1
      have hkC : k < C.size := by omega
      have cg : wr.cell? ⟨gl, k, none⟩ = some C[k] := (S.get (i := 0) rfl).cells k (by simp [hkC])
      have zg := (S.get (i := 0) rfl).ice k
      have HX := Lib.hid hx
      have HY := Lib.hid hy
      have e1 : IntKind.i64.wrap (2 * (k : Int)) = 2 * k := IntWalk.i64_in _ (by omega)
      have e2 : IntKind.i64.wrap (2 * (k : Int) + 1) = 2 * k + 1 := IntWalk.i64_in _ (by omega)
      clear h0 h1 hx hy
      go_wp2_with fail
      go_region
      have hset : ∀ (j n : Nat), j < k + 1 → (groupsG ip)[j]? = some n → (C.setIfInBounds k (u64V (256 * x.toNat + y.toNat)))[j]? = some (u64V n) := by
        intro j n hj hn
        by_cases hjk : j = k
        · subst hjk
          rw [groupsG_at ip j hlt, ← HX.out, ← HY.out] at hn
          injection hn with hn
          rw [← hn, Array.getElem?_setIfInBounds_self_of_lt hkC]
        · rw [Array.getElem?_setIfInBounds_ne (Ne.symm hjk)]
          exact HC.out j n (by omega) hn
      have hC' : (C.setIfInBounds k (u64V (256 * x.toNat + y.toNat))).size = 8 := by simpa using hC
      have S2 := (S.grow (i := 0) rfl (grown_setCell wr ⟨gl, k, none⟩ (u64V (256 * x.toNat + y.toNat))) ((S.get (i := 0) rfl).put k _)).drew
      have HS := Lib.hid hset
      have HC' := Lib.hid hC'
      clear S hset hC' c0 c1 cg zg hor
      go_wp2_with fail
      go_roundw
      case rel => exact ⟨k + 1, _, by go_num, by omega, HC'.out, HS.out, S2⟩
      case measure => simp [intOf]; omega
    · obtain rfl : k = 8 := by omega
      have hfin : C = gVs (groupsG ip) := by
        have hl := groupsG_len ip
        refine Array.ext (by rw [hC]; simp [gVs, hl]) fun j h1 h2 => ?_
        have hj : j < (groupsG ip).length := by omega
        have := HC.out j (groupsG ip)[j] (by omega) (List.getElem?_eq_getElem hj)
        rw [Array.getElem?_eq_getElem h1] at this
        injection this with this
        rw [this]
        simp [gVs]
      subst hfin
      have hsz : (Tryz.prog.info? 83).map (·.size) = some (gVs (groupsG ip)).size := by rw [hC]; exact g8Info
      go_wp2_with (first
        | ((with_reducible show wpList _ _ _ (Oper.mk _ (Op.load _ _) _ _ _ _ :: _) _ _); refine wpList_loadS rfl _ _ rfl S _ rfl 0 _ _ rfl _ Tryz.underlying83 rfl hsz ?_)
        | ((with_reducible show wpList _ _ _ (Oper.mk _ (Op.store _ _ _) _ _ _ _ :: _) _ _); refine wpList_storeS rfl _ _ _ rfl S _ rfl _ rfl 1 _ _ rfl hsz (by exact hC.symm) (by simp [gVs, u64V, Value.oneCell']) ?_; clear S; intro w1 S; (first | simp only [List.set_cons_zero] at S | simp only [List.set_cons_succ, List.set_cons_zero] at S | skip)))
      exact bodyPost_ret (results_cellS rfl _ S _ 1 _ _ _ rfl rfl Tryz.underlying83 rfl hsz) rfl ⟨rfl, S.below⟩
end Go.Proofs.YthbdeafbdmbabaaGreatDoor
namespace Go.Proofs.YthbdeafbdmbabaaGreatDoor
open Go.RowKit Go
set_option linter.unusedVariables false
set_option maxRecDepth 100000
theorem nouK_le (z : List Bool) (k : Nat) : (nouK z k).2.2 ≤ k ∧ (nouK z k).2.1 ≤ k ∧ (nouK z k).1 ≤ k := by
  induction k with
  | zero => exact ⟨Nat.le_refl _, Nat.le_refl _, Nat.le_refl _⟩
  | succ k ih =>
    rw [nouK]
    unfold nouS
    obtain ⟨h1, h2, h3⟩ := ih
    split
    · exact ⟨Nat.zero_le _, by show (nouK z k).2.1 ≤ k + 1; omega, by show (nouK z k).1 ≤ k + 1; omega⟩
    · split
      · exact ⟨by show (nouK z k).2.2 + 1 ≤ k + 1; omega, by show (nouK z k).2.2 + 1 ≤ k + 1; omega, by show k + 1 - ((nouK z k).2.2 + 1) ≤ k + 1; omega⟩
      · exact ⟨by show (nouK z k).2.2 + 1 ≤ k + 1; omega, by show (nouK z k).2.1 ≤ k + 1; omega, by show (nouK z k).1 ≤ k + 1; omega⟩
theorem zsG_at {g : List Nat} {k n : Nat} (h : g[k]? = some n) : (zsG g).getD k false = (n == 0) := by
  rw [List.getD_eq_getElem?_getD, zsG, List.getElem?_map, h]
  rfl
theorem gVs_at {g : List Nat} {k n : Nat} (h : g[k]? = some n) : (gVs g)[k]? = some (.int .u64 n) := by
  unfold gVs
  rw [List.getElem?_toArray, List.getElem?_map, h]
  rfl
theorem gVs_size (g : List Nat) : (gVs g).size = g.length := by simp [gVs]
theorem g8Size (g : List Nat) (h : g.length = 8) : (Tryz.prog.info? 83).map (·.size) = some (gVs g).size := by rw [gVs_size, h]; exact g8Info
theorem idxG {g : List Nat} {k v : Nat} (h : g[k]? = some v) (hg : g.length = 8) (w : World) : (Instr.index 83 (.agg (gVs g)) (.int .i64 k)).run Tryz.prog w = .ok (.int .u64 v) w := by
  have hk : k < g.length := (List.getElem?_eq_some_iff.1 h).1
  have hc := gVs_at h
  have a := Tryz.isAgg57
  have s := Tryz.sizeOf57
  have i1 : (0 : Int) ≤ k ∧ (k : Int) < (8 : Nat) := by omega
  simp [Instr.index, run_underlying Tryz.underlying83, asIntOf, part, a, s, hc, i1]
  intro h8
  omega
set_option maxHeartbeats 2000000 in
theorem noughts_any (g : List Nat) (w : World) (hg : g.length = 8) :
    Calls Tryz.prog 76 #[.agg (gVs g)] w fun e w' => e = .returned (.tuple #[.int .i64 (nouE (zsG g)).1, .int .i64 (nouE (zsG g)).2]) ∧ Below w.heap.size w w' := by
  have S := Ats.start w
  have hsz := g8Size g hg
  go_enter Tryz.func76, Tryz.ntmps76
  go_wp2_with (first
    | ((with_reducible show wpList _ _ _ (Oper.mk _ (Op.box _ _) _ _ _ _ :: _) _ _); refine wpList_boxS rfl _ _ rfl (gVs g) rfl S ?_; clear S; intro ga w1 S)
    | ((with_reducible show wpList _ _ _ (Oper.mk _ (Op.load _ _) _ _ _ _ :: _) _ _); refine wpList_loadS rfl _ _ rfl S _ rfl 0 _ _ rfl _ Tryz.underlying83 rfl hsz ?_))
  go_loop [4, 5, 6, 10] (fun f m n i => ∃ k : Nat, i = .int .i64 k ∧ k ≤ 8 ∧ f = .int .i64 (nouK (zsG g) k).1 ∧ m = .int .i64 (nouK (zsG g) k).2.1 ∧ n = .int .i64 (nouK (zsG g) k).2.2) (fun _ _ _ i => 8 - (intOf i).toNat)
  case atStart => exact ⟨0, rfl, Nat.zero_le _, rfl, rfl, rfl⟩
  case round =>
    obtain ⟨k, rfl, hk, rfl, rfl, rfl⟩ := hrel
    by_cases hlt : k < 8
    · obtain ⟨v, hv⟩ : ∃ v, g[k]? = some v := ⟨_, List.getElem?_eq_getElem (by omega)⟩
      have hcell := idxG hv hg
      have hz := zsG_at hv
      have hstep : nouK (zsG g) (k + 1) = nouS (nouK (zsG g) k) k (v == 0) := by rw [nouK, hz]
      obtain ⟨l1, l2, l3⟩ := nouK_le (zsG g) k
      obtain ⟨st, hst⟩ : ∃ st, st = nouK (zsG g) k := ⟨_, rfl⟩
      rw [← hst] at hstep l1 l2 l3 ⊢
      obtain ⟨f, m, n⟩ := st
      simp only at l1 l2 l3 ⊢
      by_cases h0 : v = 0
      · subst h0
        by_cases hm : m < n + 1
        · have hr : nouK (zsG g) (k + 1) = (k + 1 - (n + 1), n + 1, n + 1) := by
            rw [hstep]
            unfold nouS
            rw [if_neg (by simp)]
            simp only
            rw [if_pos hm]
          have hd : decide ((m : Int) < (n : Int) + 1) = true := by rw [decide_eq_true_eq]; omega
          have HR := Lib.hid hr
          clear hstep hr hst hz
          go_wp2_with fail
          go_round
          case rel => exact ⟨k + 1, by go_num, by omega, ret_v (by rw [HR.out]; simp only; omega), ret_v (by rw [HR.out]; simp only; omega), ret_v (by rw [HR.out]; simp only; omega)⟩
          case measure => simp [intOf]; omega
        · have hr : nouK (zsG g) (k + 1) = (f, m, n + 1) := by
            rw [hstep]
            unfold nouS
            rw [if_neg (by simp)]
            simp only
            rw [if_neg hm]
          have hd : decide ((m : Int) < (n : Int) + 1) = false := by rw [decide_eq_false_iff_not]; omega
          have HR := Lib.hid hr
          clear hstep hr hst hz
          go_wp2_with fail
          go_round
          case rel => exact ⟨k + 1, by go_num, by omega, ret_v (by rw [HR.out]), ret_v (by rw [HR.out]), ret_v (by rw [HR.out]; simp only; omega)⟩
          case measure => simp [intOf]; omega
      · have hr : nouK (zsG g) (k + 1) = (f, m, 0) := by
          rw [hstep]
          unfold nouS
          rw [if_pos (by simpa using h0)]
        have hd : ((v : Int) != 0) = true := by simpa using h0
        have HR := Lib.hid hr
        clear hstep hr hst hz h0
        go_wp2_with fail
        go_round
        case rel => exact ⟨k + 1, by go_num, by omega, ret_v (by rw [HR.out]), ret_v (by rw [HR.out]), ret_v (by rw [HR.out]; rfl)⟩
        case measure => simp [intOf]; omega
    · obtain rfl : k = 8 := by omega
      go_wp2_with fail
      go_ret2
      exact ⟨rfl, S.below⟩
end Go.Proofs.YthbdeafbdmbabaaGreatDoor
