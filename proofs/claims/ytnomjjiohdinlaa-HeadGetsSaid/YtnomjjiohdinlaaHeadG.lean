/- Layer 11: head.Get. -/
import Derived.Test.YtnomjjiohdinlaaHeadP
import Derived.Test.YtnomjjiohdinlaaLaw10
import Derived.Test.YtnomjjiohdinlaaMemMix2
namespace Go.Proofs.Ytnomjjiohdinlaa
open Go.RowKit Go
set_option linter.unusedVariables false
set_option linter.unusedSimpArgs false
set_option maxRecDepth 100000
abbrev getV (h : Hd) (c : Nat → Int) (e : Int) : Value := .tuple #[hdV h, cnV c, .int .i64 e]
def cntP (v : Nat → Nat) (k : Nat) (i : Nat) : Int := if i < k then v (2 + i) else 0
theorem cntP_0 (v : Nat → Nat) : cnC (cntP v 0) = cnC (fun _ => 0) := rfl
theorem cntP_s (v : Nat → Nat) (k : Nat) (hk : k < 4) : (cnC (cntP v k)).setIfInBounds k (.int .i64 (v (2 + k) : Nat)) = cnC (cntP v (k + 1)) := by
  rw [cn_set _ _ _ hk]
  refine cnC_ext fun i hi => ?_
  unfold cntP
  by_cases h : i = k
  · subst h; rw [if_pos rfl, if_pos (by omega)]
  · rw [if_neg h]
    by_cases h2 : i < k
    · rw [if_pos h2, if_pos (by omega)]
    · rw [if_neg h2, if_neg (by omega)]
theorem hd_put0 (h : Hd) (v : Int) : (hdC h).setIfInBounds 0 (.int .i64 v) = hdC { h with id := v } := rfl
set_option maxHeartbeats 4000000 in
theorem get_core (s : ByteArray) (lf : Nat → List UInt8) (xf : Nat → Int) (vf : Nat → Nat) (h0 : lf 0 = s.data.toList) (hx0 : xf 0 = 0) (hv : ∀ k, vf k < 65536)
    (hM : ∀ k g w, EyeAt w g (lf k) (xf k) → Calls Try.prog 13 #[.pointer (some ⟨g, 0, none⟩), .int .i64 2] w (EyeP w g (.int .i64 (vf k : Nat)) (lf (k + 1)) (xf (k + 1)))) (r : Value)
    (hr : (xf 6 = 0 ∧ r = getV (unH (vf 0) (vf 1)) (fun i => vf (2 + i)) 0) ∨ (xf 6 ≠ 0 ∧ r = getV zeroH (fun _ => 0) (xf 6))) (w : World) :
    Calls Try.prog 6 #[.string s] w fun e w' => e = .returned r ∧ Below w.heap.size w w' := by
  have S := Ats.start w
  have hN := fun w => eyeNew_any s w
  rw [← h0, ← hx0] at hN
  have hU := fun w => unpack_any (vf 1) w (hv 1)
  have hE := fun g w (h : EyeAt w g (lf 6) (xf 6)) => eyeErr_any g _ _ w h
  have HR := Lib.hid hr
  have HN := Lib.hid hN
  have HM := Lib.hid hM
  have HU := Lib.hid hU
  have HE := Lib.hid hE
  have HP0 := hd_put0 (unH 0 (vf 1)) (vf 0)
  clear hN hM hU hE h0 hx0 hv hr
  go_enter Try.func6, Try.ntmps6
  go_wp2_with (first
    | ((with_reducible show wpList _ _ _ (Oper.mk (some 2) (Op.alloc _) _ _ _ _ :: _) _ _); refine wpList_allocS rfl _ rfl _ hdZero S ?_; clear S; intro gr w1 S)
    | ((with_reducible show wpList _ _ _ (Oper.mk (some 3) (Op.alloc _) _ _ _ _ :: _) _ _); refine wpList_allocS rfl _ rfl _ cnZero S ?_; clear S; intro gs w1 S)
    | ((with_reducible show wpList _ _ _ (Oper.mk (some 7) (Op.alloc _) _ _ _ _ :: _) _ _); refine wpList_allocS rfl _ rfl _ hdZero S ?_; clear S; intro g w1 S)
    | ((with_reducible show wpList _ _ _ (Oper.mk (some 8) (Op.alloc _) _ _ _ _ :: _) _ _); refine wpList_allocS rfl _ rfl _ cnZero S ?_; clear S; intro gc w1 S)
    | ((with_reducible refine (HN.out _).mono ?_); rintro e w2 ⟨gy, rfl, hg, ha, hb⟩; have S := S.born hg ha hb; clear hg ha hb)
    | ((with_reducible refine (HM.out _ _ _ (S.get (i := 0) rfl)).mono ?_); rintro e w2 ⟨rfl, ha, hb⟩; have S := S.grow (i := 0) rfl hb ha; clear ha hb)
    | ((with_reducible refine (HU.out _).mono ?_); rintro e w2 ⟨rfl, hb⟩; have S := S.call hb; clear hb)
    | ((with_reducible show wpList _ _ _ (Oper.mk _ (Op.store _ (Operand.tmp 7) _) _ _ _ _ :: _) _ _); refine wpList_storeS rfl _ _ _ rfl S _ rfl _ rfl 0 _ _ rfl hdInfo (by rfl) (by exact hdOne _) ?_; clear S; intro w1 S; (first | simp only [List.set_cons_zero] at S | simp only [List.set_cons_succ, List.set_cons_zero] at S | skip))
    | ((with_reducible show wpList _ _ _ (Oper.mk _ (Op.store _ (Operand.tmp 19) _) _ _ _ _ :: _) _ _); refine wpList_putS rfl _ _ _ rfl S _ _ rfl _ rfl rfl rfl 0 _ _ rfl intInfo (by exact (by decide : 0 < 10)) ?_; clear S; intro w1 S; (first | simp only [List.set_cons_zero] at S | simp only [List.set_cons_succ, List.set_cons_zero] at S | skip)))
  have S : Ats w.heap.size w w1 [(gc, 25, cnC (cntP vf 0)), (g, 24, hdC (unH (vf 0) (vf 1))), (gy, 45, eyeC (lf (2 + 0)) (xf (2 + 0))), (gs, 25, cnC fun _ => 0), (gr, 24, hdC zeroH)] := S
  go_loopw [20] (fun i wr => ∃ k : Nat, k ≤ 4 ∧ i = .int .i64 k ∧ Ats w.heap.size w wr [(gc, 25, cnC (cntP vf k)), (g, 24, hdC (unH (vf 0) (vf 1))), (gy, 45, eyeC (lf (2 + k)) (xf (2 + k))), (gs, 25, cnC fun _ => 0), (gr, 24, hdC zeroH)]) (fun i _ => 4 - (intOf i).toNat)
  case atStart => exact ⟨0, Nat.zero_le _, rfl, S⟩
  case round =>
    obtain ⟨k, hk, rfl, S⟩ := hrel
    by_cases hlt : k < 4
    · have hs := cntP_s vf k hlt
      have hsz : k < (cnC (cntP vf k)).size := hlt
      obtain ⟨x, hx⟩ : ∃ x, x = cnC (cntP vf k) := ⟨_, rfl⟩
      rw [← hx] at hs hsz S
      have HS := Lib.hid hs
      have HZ := Lib.hid hsz
      clear hs hsz hx
      go_wp2_with (first
        | ((with_reducible refine (HM.out _ _ _ (S.get (i := 2) rfl)).mono ?_); rintro e w2 ⟨rfl, ha, hb⟩; have S := S.grow (i := 2) rfl hb ha; clear ha hb)
        | ((with_reducible show wpList _ _ _ (Oper.mk _ (Op.store _ (Operand.tmp 26) _) _ _ _ _ :: _) _ _); refine wpList_putS rfl _ _ _ rfl S _ _ rfl _ rfl rfl rfl 0 _ _ rfl intInfo (by exact HZ.out) ?_; clear S; intro w1 S; (first | simp only [List.set_cons_zero] at S | simp only [List.set_cons_succ, List.set_cons_zero] at S | skip)))
      have S : Ats w.heap.size w w1 [(gc, 25, x.setIfInBounds k (.int .i64 (vf (2 + k) : Nat))), (g, 24, hdC (unH (vf 0) (vf 1))), (gy, 45, eyeC (lf (2 + (k + 1))) (xf (2 + (k + 1)))), (gs, 25, cnC fun _ => 0), (gr, 24, hdC zeroH)] := S
      rw [HS.out] at S
      exact ⟨⟨k + 1, by omega, by go_num, S⟩, by simp [intOf]; omega⟩
    · obtain rfl : k = 4 := by omega
      have hrv : cnC (cntP vf 4) = cnC (fun i => vf (2 + i)) := cnC_ext fun i hi => by unfold cntP; rw [if_pos hi]
      rw [hrv] at S
      clear hrv
      rcases HR.out with ⟨hx6, hr⟩ | ⟨hx6, hr⟩
      · have he : ∀ w, EyeAt w gy (lf 6) 0 → Calls Try.prog 15 #[.pointer (some ⟨gy, 0, none⟩)] w fun e w' => e = .returned (.int .i64 0) ∧ w = w' := fun w h => by
          have := HE.out gy w (by rw [hx6]; exact h)
          rw [hx6] at this
          exact this
        have ey : eyeC (lf (2 + 4)) (xf (2 + 4)) = eyeC (lf 6) 0 := by show eyeC (lf 6) (xf 6) = _; rw [hx6]
        rw [ey] at S
        have HER := Lib.hid he
        have HRR := Lib.hid hr
        clear hr he hx6 ey HR
        go_wp2_with ((with_reducible refine (HER.out _ (S.get (i := 2) rfl)).mono ?_); rintro e w2 ⟨rfl, rfl⟩)
        refine wp_region_mixO (C := AtsF w.heap.size w [(gc, 25, cnC fun i => vf (2 + i)), (g, 24, hdC (unH (vf 0) (vf 1))), (gy, 45, eyeC (lf 6) 0), (gs, 25, cnC fun _ => 0), (gr, 24, hdC zeroH)] [0, 1]) [(0, true), (1, true), (2, false), (3, false), (4, true)] (by kernel_rfl) (by kernel_rfl) (S.drew.toF _) ?_
        (simp only [List.map_cons, List.map_nil, List.getD_cons_zero, List.getD_cons_succ]; have S := S.drew; refine mix_begin fun hF => ?_)
        repeat (first
          | (refine mix_loadF rfl _ (.tmp 7) rfl _ rfl 1 (by decide) _ _ rfl _ Try.underlying24 rfl hdInfo ?_; simp only [Act.put, List.setIfInBounds_toArray, List.set_cons_succ, List.set_cons_zero])
          | (refine mix_loadF rfl _ (.tmp 8) rfl _ rfl 0 (by decide) _ _ rfl _ Try.underlying25 rfl cnInfo ?_; simp only [Act.put, List.setIfInBounds_toArray, List.set_cons_succ, List.set_cons_zero])
          | (refine mix_storeF rfl _ (.tmp 2) _ rfl S hF _ rfl _ rfl 4 (by decide) _ _ rfl hdInfo (by rfl) (by exact hdOne _) ?_; clear S hF; intro w1 S hF; simp only [Act.put, List.set_cons_succ, List.set_cons_zero] at S hF ⊢)
          | (refine mix_storeF rfl _ (.tmp 3) _ rfl S hF _ rfl _ rfl 3 (by decide) _ _ rfl cnInfo (by rfl) (by exact cnOne _) ?_; clear S hF; intro w1 S hF; simp only [Act.put, List.set_cons_succ, List.set_cons_zero] at S hF ⊢)
          | (refine mix_assign rfl _ rfl ?_; simp only [Act.put, Act.eval, Array.getD_eq_getD_getElem?, List.getElem?_toArray, List.getElem?_cons_succ, List.getElem?_cons_zero, Option.getD_some, List.setIfInBounds_toArray, List.set_cons_succ, List.set_cons_zero]))
        (refine mix_nil ?_; clear hF)
        go_wp2
        exact bodyPost_ret (results_cell3S rfl _ S _ 4 _ _ _ rfl rfl Try.underlying24 rfl hdInfo _ 3 _ _ _ rfl rfl Try.underlying25 rfl cnInfo) rfl ⟨by rw [HRR.out]; rfl, S.below⟩
      · have hb : (xf 6 != 0) = true := by simpa using hx6
        have HRR := Lib.hid hr
        have S : Ats w.heap.size w wr [(gc, 25, cnC fun i => vf (2 + i)), (g, 24, hdC (unH (vf 0) (vf 1))), (gy, 45, eyeC (lf 6) (xf 6)), (gs, 25, cnC fun _ => 0), (gr, 24, hdC zeroH)] := S
        clear hr hx6 HR
        go_wp2_with (first
          | ((with_reducible refine (HE.out _ _ (S.get (i := 2) rfl)).mono ?_); rintro e w2 ⟨rfl, rfl⟩)
          | ((with_reducible show wpList _ _ _ (Oper.mk _ (Op.store _ (Operand.tmp 2) _) _ _ _ _ :: _) _ _); refine wpList_storeS rfl _ _ _ rfl S _ rfl _ rfl 4 _ _ rfl hdInfo (by rfl) (by exact hdOne zeroH) ?_; clear S; intro w1 S; (first | simp only [List.set_cons_zero] at S | simp only [List.set_cons_succ, List.set_cons_zero] at S | skip))
          | ((with_reducible show wpList _ _ _ (Oper.mk _ (Op.store _ (Operand.tmp 3) _) _ _ _ _ :: _) _ _); refine wpList_storeS rfl _ _ _ rfl S _ rfl _ rfl 3 _ _ rfl cnInfo (by rfl) (by exact cnOne fun _ => 0) ?_; clear S; intro w1 S; (first | simp only [List.set_cons_zero] at S | simp only [List.set_cons_succ, List.set_cons_zero] at S | skip)))
        exact bodyPost_ret (results_cell3S rfl _ S _ 4 _ _ _ rfl rfl Try.underlying24 rfl hdInfo _ 3 _ _ _ rfl rfl Try.underlying25 rfl cnInfo) rfl ⟨by rw [HRR.out]; rfl, S.below⟩
theorem get_any (s : ByteArray) (w : World) : Calls Try.prog 6 #[.string s] w fun e w' => e = .returned (if s.size < 12 then getV zeroH (fun _ => 0) 1 else getV (unH (hdW s.data.toList 0) (hdW s.data.toList 1)) (fun i => hdW s.data.toList (2 + i)) 0) ∧ Below w.heap.size w w' := by
  obtain ⟨l, hl⟩ : ∃ l, l = s.data.toList := ⟨_, rfl⟩
  have hz : s.size = l.length := by rw [hl]; simp
  rw [← hl]
  refine get_core s (fun k => (hdS l k).2.1) (fun k => (hdS l k).2.2) (fun k => (hdS l (k + 1)).1) (by rw [← hl]; rfl) rfl (fun k => hdS_lt l (k + 1)) (fun k g w h => eyeNum_any g _ _ 2 w h) _ ?_ w
  by_cases h : s.size < 12
  · have hb := hdS_bad l 6 (by omega)
    refine .inr ⟨by show (hdS l 6).2.2 ≠ 0; rw [hb]; decide, ?_⟩
    rw [if_pos h]
    show _ = getV zeroH (fun _ => 0) (hdS l 6).2.2
    rw [hb]
  · have hg := hdS_ok l 6 (by omega)
    refine .inl ⟨by show (hdS l 6).2.2 = 0; rw [hg], ?_⟩
    rw [if_neg h]
    show _ = getV (unH ((hdS l 1).1 : Nat) ((hdS l 2).1 : Nat)) (fun i => ((hdS l (2 + i + 1)).1 : Nat)) 0
    rw [hdS_val l 0 (by omega), hdS_val l 1 (by omega)]
    unfold getV cnV
    rw [cnC_ext (c := fun i => ((hdW l (2 + i) : Nat) : Int)) (d := fun i => ((hdS l (2 + i + 1)).1 : Nat)) fun i hi => by show ((hdW l (2 + i) : Nat) : Int) = _; rw [hdS_val l (2 + i) (by omega)]]
end Go.Proofs.Ytnomjjiohdinlaa
