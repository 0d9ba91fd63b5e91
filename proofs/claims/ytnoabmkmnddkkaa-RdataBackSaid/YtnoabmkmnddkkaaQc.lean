/- Texts behind a law of this seat, in order: AddrC. -/
import Derived.Test.YtnoabmkmnddkkaaPa
import Derived.Test.YtnoabmkmnddkkaaPb
import Derived.Test.YtnoabmkmnddkkaaPc
import Derived.Test.YtnoabmkmnddkkaaPd
import Derived.Test.YtnoabmkmnddkkaaPg
import Derived.Test.YtnoabmkmnddkkaaPn
import Derived.Test.YtnoabmkmnddkkaaPy
import Derived.Test.YtnoabmkmnddkkaaPz
import Derived.Test.YtnoabmkmnddkkaaQb
import Derived.Below
import Derived.BigQuiet
import Derived.BigRegion
import Derived.ChangeSlices
import Derived.Deep.AppendLies
import Derived.Deep.Draws
import Derived.Deep.Quiet
import Derived.Deep.QuietTactic
import Derived.Deep.RegionLaw
import Derived.Great.Ranges
import Derived.Handed
import Derived.Laws.OwnMore
import Derived.Laws.Rows
import Derived.Laws.StructEq
import Derived.Lib.Hide
import Derived.Lib.ItoaNum
import Derived.Lib.Split
import Derived.Lib.SplitLaws
import Derived.Lib.Strings
import Derived.OpenShut
import Derived.SizedLaws
import Derived.SliceStrings
import Derived.Stop.BytesEq
import Derived.Test.YtnoabmkmnddkkaaProg
import Derived.WalkKit
import Derived.WalkLawsBesides
import Derived.WalkSpells
namespace Go.Proofs.Ytnoabmkmnddkkaa
open Go.RowKit Go
set_option linter.unusedVariables false
set_option maxRecDepth 100000
theorem ok_of_then {r : Result Bool} {f : Bool → Bool} {b : Bool} {w : World} (hf : ∀ x y, f x = f y → x = y) (h : r.andThen (fun b w' => Result.ok (Value.bool (f b)) w') = .ok (.bool (f b)) w) : r = .ok b w := by
  cases r with
  | ok x w' =>
    simp only [Result.andThen] at h
    injection h with h1 h2
    injection h1 with h1
    rw [hf _ _ h1, h2]
  | _ => simp [Result.andThen] at h
theorem ad_neq (f f' z z' : Int) (ip ip' : List UInt8) (h : ip.length = 16) (h' : ip'.length = 16) (w : World) :
    (binOp .neq 31 (adV f ip z) (adV f' ip' z')).run Try.prog w = .ok (.bool (!(f == f' && ip == ip' && z == z'))) w := by
  have e := ad_eql f f' z z' ip ip' h h' w
  unfold adV at e ⊢
  rw [run_eql_struct] at e
  rw [run_neq_struct]
  have := ok_of_then (f := fun b => b) (fun _ _ h => h) e
  rw [this]
  rfl
theorem ad_guard (op : BinOp) (x y : Operand) (xs ys : Array Value) (w : World) : (eqGuard op 31 x y (.agg xs) (.agg ys)).run Try.prog w = .ok () w :=
  run_eqGuard_agg w op 31 x y xs ys (by kernel_rfl)
theorem ad_byte (f z : Int) (ip : List UInt8) (k : Nat) (c : UInt8) (h : ip[k]? = some c) : (adCs f ip z).toArray[1 + k]? = some (.int .u8 c.toNat) := by
  have hk : k < ip.length := (List.getElem?_eq_some_iff.1 h).1
  rw [List.getElem?_toArray, Nat.add_comm]
  unfold adCs
  rw [List.getElem?_cons_succ, List.getElem?_append_left (by simpa using hk), List.getElem?_map, h]
  rfl
theorem fam3 (f : Int) : (f = 4) ∨ (f = 6) ∨ (f ≠ 4 ∧ f ≠ 6) := by omega
theorem bitsF_no {f : Int} (h : f ≠ 4 ∧ f ≠ 6) : bitsF f = 0 := by unfold bitsF; rw [if_neg h.1, if_neg h.2]
set_option maxHeartbeats 1000000 in
theorem aBits_any (f z : Int) (ip : List UInt8) (w : World) (hip : ip.length = 16) :
    Calls Try.prog 51 #[adV f ip z] w fun e w' => e = .returned (.int .i64 (bitsF f)) ∧ Below w.heap.size w w' := by
  have S := Ats.start w
  have hf := ad_fam f z ip
  rcases fam3 f with rfl | rfl | hn
  · go_enter Try.func51, Try.ntmps51
    go_wp2_with (first
      | ((with_reducible show wpList _ _ _ (Oper.mk _ (Op.box _ _) _ _ _ _ :: _) _ _); refine wpList_boxS rfl _ _ rfl (adCs 4 ip z).toArray rfl S ?_; clear S; intro ga w1 S)
      | ((with_reducible show wpList _ _ _ (Oper.mk _ (Op.load _ _) _ _ _ _ :: _) _ _); refine wpList_cellS rfl _ _ rfl S _ _ rfl 0 _ _ rfl _ Try.underlying3 rfl _ (by with_reducible exact hf) ?_))
    go_ret
    exact ⟨rfl, S.below⟩
  · go_enter Try.func51, Try.ntmps51
    go_wp2_with (first
      | ((with_reducible show wpList _ _ _ (Oper.mk _ (Op.box _ _) _ _ _ _ :: _) _ _); refine wpList_boxS rfl _ _ rfl (adCs 6 ip z).toArray rfl S ?_; clear S; intro ga w1 S)
      | ((with_reducible show wpList _ _ _ (Oper.mk _ (Op.load _ _) _ _ _ _ :: _) _ _); refine wpList_cellS rfl _ _ rfl S _ _ rfl 0 _ _ rfl _ Try.underlying3 rfl _ (by with_reducible exact hf) ?_))
    go_ret
    exact ⟨rfl, S.below⟩
  · have h4 : (f == 4) = false := by simpa using hn.1
    have h6 : (f == 6) = false := by simpa using hn.2
    rw [bitsF_no hn]
    clear hn
    go_enter Try.func51, Try.ntmps51
    go_wp2_with (first
      | ((with_reducible show wpList _ _ _ (Oper.mk _ (Op.box _ _) _ _ _ _ :: _) _ _); refine wpList_boxS rfl _ _ rfl (adCs f ip z).toArray rfl S ?_; clear S; intro ga w1 S)
      | ((with_reducible show wpList _ _ _ (Oper.mk _ (Op.load _ _) _ _ _ _ :: _) _ _); refine wpList_cellS rfl _ _ rfl S _ _ rfl 0 _ _ rfl _ Try.underlying3 rfl _ (by with_reducible exact hf) ?_))
    go_ret
    exact ⟨rfl, S.below⟩
theorem ad_at (f z : Int) (ip : List UInt8) (k : Nat) (hip : ip.length = 16) (hk : k < 16) : (adCs f ip z).toArray[1 + k]? = some (.int .u8 (ip.getD k 0).toNat) :=
  ad_byte f z ip k _ (by rw [List.getD_eq_getElem?_getD, List.getElem?_eq_getElem (by omega)]; rfl)
set_option maxHeartbeats 2000000 in
theorem aCheck_any (f z : Int) (ip : List UInt8) (w : World) (hip : ip.length = 16) :
    Calls Try.prog 49 #[adV f ip z] w fun e w' => e = .returned (.int .i64 (checkE f ip z)) ∧ Below w.heap.size w w' := by
  have S := Ats.start w
  have hf := ad_fam f z ip
  have hz := ad_zone f z ip hip
  have h1 := fun w => aBits_any f z ip w hip
  rcases fam3 f with rfl | rfl | hn
  · have h2 := fun w => of_any (ip.getD 0 0) (ip.getD 1 0) (ip.getD 2 0) (ip.getD 3 0) w
    have hN := ad_neq 4 4 z 0 ip (low4 ip) hip rfl
    rw [show quad16 (ip.getD 0 0) (ip.getD 1 0) (ip.getD 2 0) (ip.getD 3 0) = low4 ip from rfl] at h2
    have hG := ad_guard
    have c0 : (adCs 4 ip z).toArray[1]? = some (.int .u8 (ip.getD 0 0).toNat) := ad_at 4 z ip 0 hip (by decide)
    have c1 : (adCs 4 ip z).toArray[2]? = some (.int .u8 (ip.getD 1 0).toNat) := ad_at 4 z ip 1 hip (by decide)
    have c2 : (adCs 4 ip z).toArray[3]? = some (.int .u8 (ip.getD 2 0).toNat) := ad_at 4 z ip 2 hip (by decide)
    have c3 : (adCs 4 ip z).toArray[4]? = some (.int .u8 (ip.getD 3 0).toNat) := ad_at 4 z ip 3 hip (by decide)
    rw [show bitsF 4 = 32 from rfl] at h1
    obtain ⟨R, hR⟩ : ∃ R, R = checkE 4 ip z := ⟨_, rfl⟩
    have hR' : R = if ip = low4 ip ∧ z = 0 then 0 else 5 := hR
    rw [← hR]
    clear hR
    have ht : (!((4 : Int) == 4 && ip == low4 ip && z == 0)) = !(ip == low4 ip && z == 0) := by simp
    rw [ht] at hN
    obtain ⟨L4, hL⟩ : ∃ L4, L4 = low4 ip := ⟨_, rfl⟩
    obtain ⟨x0, hx0⟩ : ∃ x, x = ip.getD 0 0 := ⟨_, rfl⟩
    obtain ⟨x1, hx1⟩ : ∃ x, x = ip.getD 1 0 := ⟨_, rfl⟩
    obtain ⟨x2, hx2⟩ : ∃ x, x = ip.getD 2 0 := ⟨_, rfl⟩
    obtain ⟨x3, hx3⟩ : ∃ x, x = ip.getD 3 0 := ⟨_, rfl⟩
    rw [← hL] at h2 hN hR'
    rw [← hx0] at h2 c0
    rw [← hx1] at h2 c1
    rw [← hx2] at h2 c2
    rw [← hx3] at h2 c3
    obtain ⟨b, hb⟩ : ∃ b, b = (ip == L4 && z == 0) := ⟨_, rfl⟩
    rw [← hb] at hN
    have hz0 : b = true → z = 0 := by
      intro h
      rw [h] at hb
      have := hb.symm
      simp at this
      exact this.2
    have hRb : R = if b = true then 0 else 5 := by
      rw [hR', hb]
      simp
    have H1 := Lib.hid h1
    have H2 := Lib.hid h2
    clear h1 h2 hx0 hx1 hx2 hx3 hL hR' hb ht
    cases b with
    | true =>
      have hz0 := hz0 rfl
      rw [if_pos rfl] at hRb
      subst hz0
      have HR := Lib.hid hRb
      clear hRb
      rw [show (!true) = false from rfl] at hN
      go_enter Try.func49, Try.ntmps49
      go_wp2_with (first
        | ((with_reducible show wpList _ _ _ (Oper.mk _ (Op.box _ _) _ _ _ _ :: _) _ _); refine wpList_boxS rfl _ _ rfl (adCs 4 ip 0).toArray rfl S ?_; clear S; intro ga w1 S)
        | ((with_reducible refine (H1.out _).mono ?_); rintro e w2 ⟨rfl, hb⟩; have S := S.call hb; clear hb)
        | ((with_reducible show wpList _ _ _ (Oper.mk _ (Op.load _ _) _ _ _ _ :: _) _ _); refine wpList_loadS rfl _ _ rfl S _ rfl 0 _ _ rfl _ Try.underlying31 rfl (adSize _ _ _ hip) ?_))
      (try simp only [Act.put, List.setIfInBounds_toArray, List.set_cons_succ, List.set_cons_zero]); refine quietS_region (by kernel_rfl) (by kernel_rfl) S ?_
      repeat (first
        | go_big_quiet_skip
        | (go_big_quiet_want
           first
             | ((with_reducible show Oper.quiet _ (Oper.mk _ (Op.call { callee := Callee.value (Operand.func 52), args := _, argTypes := _ }) _ _ _ _) _ _ _); refine q_call 52 _ _ rfl (enters_of Try.func52 (by kernel_rfl) rfl) (fun w S => ((H2.out _).mono fun e w2 h => ⟨h.1, S.call h.2⟩)) (by simp [Act.eval]) ?_)
             | ((with_reducible show Oper.quiet _ (Oper.mk _ (Op.load _ (Operand.tmp 1)) _ _ _ _) _ _ _); refine q_loadS _ _ rfl _ rfl 0 _ _ rfl _ Try.underlying31 rfl (adSize _ _ _ hip) ?_)
             | ((with_reducible show Oper.quiet _ (Oper.mk _ (Op.load _ _) _ _ _ _) _ _ _); refine q_cellS _ _ rfl _ _ rfl 0 _ _ rfl _ Try.underlying3 rfl _ (by with_reducible exact hf) ?_)
             | ((with_reducible show Oper.quiet _ (Oper.mk _ (Op.load _ _) _ _ _ _) _ _ _); refine q_cellS _ _ rfl _ _ rfl 0 _ _ rfl _ Try.underlying5 rfl _ (by with_reducible exact c0) ?_)
             | ((with_reducible show Oper.quiet _ (Oper.mk _ (Op.load _ _) _ _ _ _) _ _ _); refine q_cellS _ _ rfl _ _ rfl 0 _ _ rfl _ Try.underlying5 rfl _ (by with_reducible exact c1) ?_)
             | ((with_reducible show Oper.quiet _ (Oper.mk _ (Op.load _ _) _ _ _ _) _ _ _); refine q_cellS _ _ rfl _ _ rfl 0 _ _ rfl _ Try.underlying5 rfl _ (by with_reducible exact c2) ?_)
             | ((with_reducible show Oper.quiet _ (Oper.mk _ (Op.load _ _) _ _ _ _) _ _ _); refine q_cellS _ _ rfl _ _ rfl 0 _ _ rfl _ Try.underlying5 rfl _ (by with_reducible exact c3) ?_)
             | (refine q_pure (v := ?_) ?_ ?_; rotate_left; focus (intro w; go_simp; try with_reducible rfl))
           (simp only [Act.put, List.setIfInBounds_toArray, List.set_cons_succ, List.set_cons_zero]; go_big_quiet_on)))
      (refine wpQuiet_nil ?_; clear S; intro w1 S)
      go_wp2_with (first
        | ((with_reducible show wpList _ _ _ (Oper.mk _ (Op.load _ _) _ _ _ _ :: _) _ _); refine wpList_cellS rfl _ _ rfl S _ _ rfl 0 _ _ rfl _ Try.underlying3 rfl _ (by with_reducible exact hz) ?_))
      go_ret
      exact ⟨by rw [HR.out]; rfl, S.below⟩
    | false =>
      rw [if_neg (by decide)] at hRb
      have HR := Lib.hid hRb
      clear hRb hz0
      rw [show (!false) = true from rfl] at hN
      go_enter Try.func49, Try.ntmps49
      go_wp2_with (first
        | ((with_reducible show wpList _ _ _ (Oper.mk _ (Op.box _ _) _ _ _ _ :: _) _ _); refine wpList_boxS rfl _ _ rfl (adCs 4 ip z).toArray rfl S ?_; clear S; intro ga w1 S)
        | ((with_reducible refine (H1.out _).mono ?_); rintro e w2 ⟨rfl, hb⟩; have S := S.call hb; clear hb)
        | ((with_reducible show wpList _ _ _ (Oper.mk _ (Op.load _ _) _ _ _ _ :: _) _ _); refine wpList_loadS rfl _ _ rfl S _ rfl 0 _ _ rfl _ Try.underlying31 rfl (adSize _ _ _ hip) ?_))
      (try simp only [Act.put, List.setIfInBounds_toArray, List.set_cons_succ, List.set_cons_zero]); refine quietS_region (by kernel_rfl) (by kernel_rfl) S ?_
      repeat (first
        | go_big_quiet_skip
        | (go_big_quiet_want
           first
             | ((with_reducible show Oper.quiet _ (Oper.mk _ (Op.call { callee := Callee.value (Operand.func 52), args := _, argTypes := _ }) _ _ _ _) _ _ _); refine q_call 52 _ _ rfl (enters_of Try.func52 (by kernel_rfl) rfl) (fun w S => ((H2.out _).mono fun e w2 h => ⟨h.1, S.call h.2⟩)) (by simp [Act.eval]) ?_)
             | ((with_reducible show Oper.quiet _ (Oper.mk _ (Op.load _ (Operand.tmp 1)) _ _ _ _) _ _ _); refine q_loadS _ _ rfl _ rfl 0 _ _ rfl _ Try.underlying31 rfl (adSize _ _ _ hip) ?_)
             | ((with_reducible show Oper.quiet _ (Oper.mk _ (Op.load _ _) _ _ _ _) _ _ _); refine q_cellS _ _ rfl _ _ rfl 0 _ _ rfl _ Try.underlying3 rfl _ (by with_reducible exact hf) ?_)
             | ((with_reducible show Oper.quiet _ (Oper.mk _ (Op.load _ _) _ _ _ _) _ _ _); refine q_cellS _ _ rfl _ _ rfl 0 _ _ rfl _ Try.underlying5 rfl _ (by with_reducible exact c0) ?_)
             | ((with_reducible show Oper.quiet _ (Oper.mk _ (Op.load _ _) _ _ _ _) _ _ _); refine q_cellS _ _ rfl _ _ rfl 0 _ _ rfl _ Try.underlying5 rfl _ (by with_reducible exact c1) ?_)
             | ((with_reducible show Oper.quiet _ (Oper.mk _ (Op.load _ _) _ _ _ _) _ _ _); refine q_cellS _ _ rfl _ _ rfl 0 _ _ rfl _ Try.underlying5 rfl _ (by with_reducible exact c2) ?_)
             | ((with_reducible show Oper.quiet _ (Oper.mk _ (Op.load _ _) _ _ _ _) _ _ _); refine q_cellS _ _ rfl _ _ rfl 0 _ _ rfl _ Try.underlying5 rfl _ (by with_reducible exact c3) ?_)
             | (refine q_pure (v := ?_) ?_ ?_; rotate_left; focus (intro w; go_simp; try with_reducible rfl))
           (simp only [Act.put, List.setIfInBounds_toArray, List.set_cons_succ, List.set_cons_zero]; go_big_quiet_on)))
      (refine wpQuiet_nil ?_; clear S; intro w1 S)
      go_wp2_with fail
      go_ret
      exact ⟨by rw [HR.out]; rfl, S.below⟩
  · rw [show bitsF 6 = 128 from rfl] at h1
    have H1 := Lib.hid h1
    clear h1
    obtain ⟨R, hR⟩ : ∃ R, R = checkE 6 ip z := ⟨_, rfl⟩
    have hR' : R = if z < 0 ∨ 2147483647 < z then 4 else 0 := hR
    rw [← hR]
    clear hR
    by_cases z0 : z < 0
    · rw [if_pos (.inl z0)] at hR'
      have d0 : decide (z < 0) = true := decide_eq_true z0
      subst hR'
      clear z0
      go_enter Try.func49, Try.ntmps49
      go_wp2_with (first
        | ((with_reducible show wpList _ _ _ (Oper.mk _ (Op.box _ _) _ _ _ _ :: _) _ _); refine wpList_boxS rfl _ _ rfl (adCs 6 ip z).toArray rfl S ?_; clear S; intro ga w1 S)
        | ((with_reducible refine (H1.out _).mono ?_); rintro e w2 ⟨rfl, hb⟩; have S := S.call hb; clear hb)
        | ((with_reducible show wpList _ _ _ (Oper.mk _ (Op.load _ _) _ _ _ _ :: _) _ _); refine wpList_loadS rfl _ _ rfl S _ rfl 0 _ _ rfl _ Try.underlying31 rfl (adSize _ _ _ hip) ?_))
      (try simp only [Act.put, List.setIfInBounds_toArray, List.set_cons_succ, List.set_cons_zero]); refine quietS_region (by kernel_rfl) (by kernel_rfl) S ?_
      repeat (first
        | go_big_quiet_skip
        | (go_big_quiet_want
           first
             | ((with_reducible show Oper.quiet _ (Oper.mk _ (Op.load _ _) _ _ _ _) _ _ _); refine q_cellS _ _ rfl _ _ rfl 0 _ _ rfl _ Try.underlying3 rfl _ (by with_reducible exact hf) ?_)
             | (refine q_pure (v := ?_) ?_ ?_; rotate_left; focus (intro w; go_simp; try with_reducible rfl))
           (simp only [Act.put, List.setIfInBounds_toArray, List.set_cons_succ, List.set_cons_zero]; go_big_quiet_on)))
      (refine wpQuiet_nil ?_; clear S; intro w1 S)
      go_wp2_with (first
        | ((with_reducible show wpList _ _ _ (Oper.mk _ (Op.load _ _) _ _ _ _ :: _) _ _); refine wpList_cellS rfl _ _ rfl S _ _ rfl 0 _ _ rfl _ Try.underlying3 rfl _ (by with_reducible exact hz) ?_))
      go_ret
      exact ⟨rfl, S.below⟩
    · have d0 : decide (z < 0) = false := decide_eq_false z0
      by_cases z1 : 2147483647 < z
      · rw [if_pos (.inr z1)] at hR'
        have d1 : decide (2147483647 < z) = true := decide_eq_true z1
        subst hR'
        clear z0 z1
        go_enter Try.func49, Try.ntmps49
        go_wp2_with (first
          | ((with_reducible show wpList _ _ _ (Oper.mk _ (Op.box _ _) _ _ _ _ :: _) _ _); refine wpList_boxS rfl _ _ rfl (adCs 6 ip z).toArray rfl S ?_; clear S; intro ga w1 S)
          | ((with_reducible refine (H1.out _).mono ?_); rintro e w2 ⟨rfl, hb⟩; have S := S.call hb; clear hb)
          | ((with_reducible show wpList _ _ _ (Oper.mk _ (Op.load _ _) _ _ _ _ :: _) _ _); refine wpList_loadS rfl _ _ rfl S _ rfl 0 _ _ rfl _ Try.underlying31 rfl (adSize _ _ _ hip) ?_))
        (try simp only [Act.put, List.setIfInBounds_toArray, List.set_cons_succ, List.set_cons_zero]); refine quietS_region (by kernel_rfl) (by kernel_rfl) S ?_
        repeat (first
          | go_big_quiet_skip
          | (go_big_quiet_want
             first
               | ((with_reducible show Oper.quiet _ (Oper.mk _ (Op.load _ _) _ _ _ _) _ _ _); refine q_cellS _ _ rfl _ _ rfl 0 _ _ rfl _ Try.underlying3 rfl _ (by with_reducible exact hf) ?_)
               | (refine q_pure (v := ?_) ?_ ?_; rotate_left; focus (intro w; go_simp; try with_reducible rfl))
             (simp only [Act.put, List.setIfInBounds_toArray, List.set_cons_succ, List.set_cons_zero]; go_big_quiet_on)))
        (refine wpQuiet_nil ?_; clear S; intro w1 S)
        go_wp2_with (first
          | ((with_reducible show wpList _ _ _ (Oper.mk _ (Op.load _ _) _ _ _ _ :: _) _ _); refine wpList_cellS rfl _ _ rfl S _ _ rfl 0 _ _ rfl _ Try.underlying3 rfl _ (by with_reducible exact hz) ?_))
        go_ret
        exact ⟨rfl, S.below⟩
      · rw [if_neg (fun h => h.elim z0 z1)] at hR'
        have d1 : decide (2147483647 < z) = false := decide_eq_false z1
        subst hR'
        clear z0 z1
        go_enter Try.func49, Try.ntmps49
        go_wp2_with (first
          | ((with_reducible show wpList _ _ _ (Oper.mk _ (Op.box _ _) _ _ _ _ :: _) _ _); refine wpList_boxS rfl _ _ rfl (adCs 6 ip z).toArray rfl S ?_; clear S; intro ga w1 S)
          | ((with_reducible refine (H1.out _).mono ?_); rintro e w2 ⟨rfl, hb⟩; have S := S.call hb; clear hb)
          | ((with_reducible show wpList _ _ _ (Oper.mk _ (Op.load _ _) _ _ _ _ :: _) _ _); refine wpList_loadS rfl _ _ rfl S _ rfl 0 _ _ rfl _ Try.underlying31 rfl (adSize _ _ _ hip) ?_))
        (try simp only [Act.put, List.setIfInBounds_toArray, List.set_cons_succ, List.set_cons_zero]); refine quietS_region (by kernel_rfl) (by kernel_rfl) S ?_
        repeat (first
          | go_big_quiet_skip
          | (go_big_quiet_want
             first
               | ((with_reducible show Oper.quiet _ (Oper.mk _ (Op.load _ _) _ _ _ _) _ _ _); refine q_cellS _ _ rfl _ _ rfl 0 _ _ rfl _ Try.underlying3 rfl _ (by with_reducible exact hf) ?_)
               | (refine q_pure (v := ?_) ?_ ?_; rotate_left; focus (intro w; go_simp; try with_reducible rfl))
             (simp only [Act.put, List.setIfInBounds_toArray, List.set_cons_succ, List.set_cons_zero]; go_big_quiet_on)))
        (refine wpQuiet_nil ?_; clear S; intro w1 S)
        go_wp2_with (first
          | ((with_reducible show wpList _ _ _ (Oper.mk _ (Op.load _ _) _ _ _ _ :: _) _ _); refine wpList_cellS rfl _ _ rfl S _ _ rfl 0 _ _ rfl _ Try.underlying3 rfl _ (by with_reducible exact hz) ?_))
        go_ret
        exact ⟨rfl, S.below⟩
  · have h4 : (f == 4) = false := by simpa using hn.1
    have h6 : (f == 6) = false := by simpa using hn.2
    rw [bitsF_no hn] at h1
    have H1 := Lib.hid h1
    have hR : checkE f ip z = 10 := by unfold checkE; rw [if_neg hn.1, if_neg hn.2]
    rw [hR]
    clear hn h1 hR
    go_enter Try.func49, Try.ntmps49
    go_wp2_with (first
      | ((with_reducible show wpList _ _ _ (Oper.mk _ (Op.box _ _) _ _ _ _ :: _) _ _); refine wpList_boxS rfl _ _ rfl (adCs f ip z).toArray rfl S ?_; clear S; intro ga w1 S)
      | ((with_reducible refine (H1.out _).mono ?_); rintro e w2 ⟨rfl, hb⟩; have S := S.call hb; clear hb)
      | ((with_reducible show wpList _ _ _ (Oper.mk _ (Op.load _ _) _ _ _ _ :: _) _ _); refine wpList_loadS rfl _ _ rfl S _ rfl 0 _ _ rfl _ Try.underlying31 rfl (adSize _ _ _ hip) ?_))
    go_ret
    exact ⟨rfl, S.below⟩
end Go.Proofs.Ytnoabmkmnddkkaa
