/- Layer 8: colon.groups. -/
import Derived.Test.YtkchgjakkogejaaDoorFmt
import Derived.BigRegion
import Derived.Laws.Bits64b
namespace Go.Proofs.YtkchgjakkogejaaDoor
open Go.RowKit Go
set_option linter.unusedVariables false
set_option maxRecDepth 100000
def u64V (n : Nat) : Value := .int .u64 n
def gVs (g : List Nat) : Array Value := (g.map u64V).toArray
def g8 : Array Value := Array.replicate 8 (.int .u64 0)
theorem g8Zero : (Tryd.prog.info? 56).map (·.zero) = some (some (.agg g8)) := by kernel_rfl
theorem g8Info : (Tryd.prog.info? 56).map (·.size) = some 8 := by kernel_rfl
theorem uintSize : (Tryd.prog.info? 55).map (·.size) = some 1 := by kernel_rfl
theorem or_bytes (a b : UInt8) : bits BinOp.or IntKind.u64 ((a.toNat : Int) * 256) (b.toNat : Int) = ((256 * a.toNat + b.toNat : Nat) : Int) := by
  have ha := UInt8.toNat_lt a
  have hb := UInt8.toNat_lt b
  have h := u64_or_nat (a.toNat * 256) b.toNat (by omega) (by omega)
  have e := Nat.shiftLeft_add_eq_or_of_lt (show b.toNat < 2 ^ 8 by omega) a.toNat
  rw [Nat.shiftLeft_eq] at e
  rw [← show a.toNat * 256 + b.toNat = a.toNat * 256 ||| b.toNat from e] at h
  rw [show ((a.toNat : Int) * 256) = ((a.toNat * 256 : Nat) : Int) by omega, h]
  omega
theorem ad_two (f z : Int) (ip : List UInt8) (k : Nat) (h : ip.length = 16) (hk : k < 8) :
    (adCs f ip z).toArray[1 + 2 * k]? = some (.int .u8 (ip.getD (2 * k) 0).toNat) ∧ (adCs f ip z).toArray[1 + (2 * k + 1)]? = some (.int .u8 (ip.getD (2 * k + 1) 0).toNat) := by
  have key : ∀ j, j < 16 → ip[j]? = some (ip.getD j 0) := fun j hj => by
    rw [List.getD_eq_getElem?_getD, List.getElem?_eq_getElem (show j < ip.length by omega)]; rfl
  exact ⟨ad_byte f z ip _ _ (key _ (by omega)), ad_byte f z ip _ _ (key _ (by omega))⟩
theorem groupsG_at (ip : List UInt8) (k : Nat) (hk : k < 8) : (groupsG ip)[k]? = some (256 * (ip.getD (2 * k) 0).toNat + (ip.getD (2 * k + 1) 0).toNat) := by
  unfold groupsG
  rw [List.getElem?_map, List.getElem?_range hk]
  rfl
set_option maxHeartbeats 2000000 in
theorem groups_any (f z : Int) (ip : List UInt8) (w : World) (hip : ip.length = 16) :
    Calls Tryd.prog 31 #[adV f ip z] w fun e w' => e = .returned (.agg (gVs (groupsG ip))) ∧ Below w.heap.size w w' := by
  have S := Ats.start w
  go_enter Tryd.func31, Tryd.ntmps31
  go_wp2_with (first
    | ((with_reducible show wpList _ _ _ (Oper.mk _ (Op.box _ _) _ _ _ _ :: _) _ _); refine wpList_boxS rfl _ _ rfl (adCs f ip z).toArray rfl S ?_; clear S; intro ga w1 S)
    | ((with_reducible show wpList _ _ _ (Oper.mk (some 2) (Op.alloc _) _ _ _ _ :: _) _ _); refine wpList_allocS rfl _ rfl _ g8Zero S ?_; clear S; intro gr w1 S)
    | ((with_reducible show wpList _ _ _ (Oper.mk (some 3) (Op.alloc _) _ _ _ _ :: _) _ _); refine wpList_allocS rfl _ rfl _ g8Zero S ?_; clear S; intro gl w1 S))
  go_loopw [5] (fun i wr => ∃ (k : Nat) (C : Array Value), i = .int .i64 k ∧ k ≤ 8 ∧ C.size = 8 ∧ (∀ (j n : Nat), j < k → (groupsG ip)[j]? = some n → C[j]? = some (u64V n)) ∧ Ats w.heap.size w wr [(gl, 56, C), (gr, 56, g8), (ga, 25, (adCs f ip z).toArray)]) (fun i _ => 8 - (intOf i).toNat)
  case atStart => exact ⟨0, g8, rfl, Nat.zero_le _, rfl, fun j n h => absurd h (Nat.not_lt_zero _), S⟩
  case round =>
    obtain ⟨k, C, rfl, hk, hC, hcell, S⟩ := hrel
    have HC := Lib.hid hcell
    clear hcell
    by_cases hlt : k < 8
    · obtain ⟨h0, h1⟩ := ad_two f z ip k hip hlt
      have c0 := (S.get (i := 2) rfl).cells _ h0
      have c1 := (S.get (i := 2) rfl).cells _ h1
      have hor := or_bytes (ip.getD (2 * k) 0) (ip.getD (2 * k + 1) 0)
      have b0 := UInt8.toNat_lt (ip.getD (2 * k) 0)
      have b1 := UInt8.toNat_lt (ip.getD (2 * k + 1) 0)
      obtain ⟨x, hx⟩ : ∃ x, x = ip.getD (2 * k) 0 := ⟨_, rfl⟩
      obtain ⟨y, hy⟩ : ∃ y, y = ip.getD (2 * k + 1) 0 := ⟨_, rfl⟩
      rw [← hx] at c0 hor b0
      rw [← hy] at c1 hor b1
      have hkC : k < C.size := by omega
      have cg : wr.cell? ⟨gl, k, none⟩ = some C[k] := (S.get (i := 0) rfl).cells k (by simp [hkC])
      have zg := (S.get (i := 0) rfl).ice k
      have HX := Lib.hid hx
      have HY := Lib.hid hy
      have e1 : IntKind.i64.wrap (2 * (k : Int)) = 2 * k := IntWalk.i64_in _ (by omega)
      have e2 : IntKind.i64.wrap (2 * (k : Int) + 1) = 2 * k + 1 := IntWalk.i64_in _ (by omega)
      clear h0 h1 hx hy
      go_wp2_with fail
      go_region
      have hset : ∀ (j n : Nat), j < k + 1 → (groupsG ip)[j]? = some n → (C.setIfInBounds k (u64V (256 * x.toNat + y.toNat)))[j]? = some (u64V n) := by
        intro j n hj hn
        by_cases hjk : j = k
        · subst hjk
          rw [groupsG_at ip j hlt, ← HX.out, ← HY.out] at hn
          injection hn with hn
          rw [← hn, Array.getElem?_setIfInBounds_self_of_lt hkC]
        · rw [Array.getElem?_setIfInBounds_ne (Ne.symm hjk)]
          exact HC.out j n (by omega) hn
      have hC' : (C.setIfInBounds k (u64V (256 * x.toNat + y.toNat))).size = 8 := by simpa using hC
      have S2 := (S.grow (i := 0) rfl (grown_setCell wr ⟨gl, k, none⟩ (u64V (256 * x.toNat + y.toNat))) ((S.get (i := 0) rfl).put k _)).drew
      have HS := Lib.hid hset
      have HC' := Lib.hid hC'
      clear S hset hC' c0 c1 cg zg hor
      go_wp2_with fail
      go_roundw
      case rel => exact ⟨k + 1, _, by go_num, by omega, HC'.out, HS.out, S2⟩
      case measure => simp [intOf]; omega
    · obtain rfl : k = 8 := by omega
      have hfin : C = gVs (groupsG ip) := by
        have hl := groupsG_len ip
        refine Array.ext (by rw [hC]; simp [gVs, hl]) fun j h1 h2 => ?_
        have hj : j < (groupsG ip).length := by omega
        have := HC.out j (groupsG ip)[j] (by omega) (List.getElem?_eq_getElem hj)
        rw [Array.getElem?_eq_getElem h1] at this
        injection this with this
        rw [this]
        simp [gVs]
      subst hfin
      have hsz : (Tryd.prog.info? 56).map (·.size) = some (gVs (groupsG ip)).size := by rw [hC]; exact g8Info
      go_wp2_with (first
        | ((with_reducible show wpList _ _ _ (Oper.mk _ (Op.load _ _) _ _ _ _ :: _) _ _); refine wpList_loadS rfl _ _ rfl S _ rfl 0 _ _ rfl _ Tryd.underlying56 rfl hsz ?_)
        | ((with_reducible show wpList _ _ _ (Oper.mk _ (Op.store _ _ _) _ _ _ _ :: _) _ _); refine wpList_storeS rfl _ _ _ rfl S _ rfl _ rfl 1 _ _ rfl hsz (by exact hC.symm) (by simp [gVs, u64V, Value.oneCell']) ?_; clear S; intro w1 S; (first | simp only [List.set_cons_zero] at S | simp only [List.set_cons_succ, List.set_cons_zero] at S | skip)))
      exact bodyPost_ret (results_cellS rfl _ S _ 1 _ _ _ rfl rfl Tryd.underlying56 rfl hsz) rfl ⟨rfl, S.below⟩
end Go.Proofs.YtkchgjakkogejaaDoor
