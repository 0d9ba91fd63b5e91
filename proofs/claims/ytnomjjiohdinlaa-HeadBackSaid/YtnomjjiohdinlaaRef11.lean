/- Layer 11: the document's Get. -/
import Derived.Test.YtnomjjiohdinlaaHeadG
namespace Go.Proofs.Ytnomjjiohdinlaa
open Go.RowKit Go
set_option linter.unusedVariables false
set_option linter.unusedSimpArgs false
set_option maxRecDepth 100000
theorem two_at (s : ByteArray) (a b : Nat) (h : a + 2 = b) (hb : b ≤ s.size) : (s.extract a b).size ≤ 4 ∧ (s.extract a b).data.toList = (s.data.toList.drop a).take 2 := by
  subst h
  have e : (s.extract a (a + 2)).data.toList = (s.data.toList.drop a).take 2 := by
    rw [Lib.extract_eq]; simp
  refine ⟨?_, e⟩
  have : (s.extract a (a + 2)).size = (s.extract a (a + 2)).data.toList.length := by rw [Array.length_toList]; rfl
  rw [this, e, List.length_take]
  omega
set_option maxHeartbeats 4000000 in
theorem refGet_any (s : ByteArray) (w : World) : Calls Try.prog 7 #[.string s] w fun e w' => e = .returned (if s.size < 12 then getV zeroH (fun _ => 0) 1 else getV (unH (hdW s.data.toList 0) (hdW s.data.toList 1)) (fun i => hdW s.data.toList (2 + i)) 0) ∧ Below w.heap.size w w' := by
  have S := Ats.start w
  by_cases hlen : s.size < 12
  · rw [if_pos hlen]
    have h1 : (s.size : Int) < 12 := by omega
    clear hlen
    go_enter Try.func7, Try.ntmps7
    go_wp2_with (first
      | ((with_reducible show wpList _ _ _ (Oper.mk (some 2) (Op.alloc _) _ _ _ _ :: _) _ _); refine wpList_allocS rfl _ rfl _ hdZero S ?_; clear S; intro gr w1 S)
      | ((with_reducible show wpList _ _ _ (Oper.mk (some 3) (Op.alloc _) _ _ _ _ :: _) _ _); refine wpList_allocS rfl _ rfl _ cnZero S ?_; clear S; intro gs w1 S)
      | ((with_reducible show wpList _ _ _ (Oper.mk (some 5) (Op.alloc _) _ _ _ _ :: _) _ _); refine wpList_allocS rfl _ rfl _ cnZero S ?_; clear S; intro gc w1 S))
    refine wp_region_mixO (C := AtsF w.heap.size w [(gc, 25, cnC fun _ => 0), (gs, 25, cnC fun _ => 0), (gr, 24, hdC zeroH)] [0]) [(0, true), (1, true), (2, false), (3, false), (4, true)] (by kernel_rfl) (by kernel_rfl) (S.drew.toF _) ?_
    (simp only [List.map_cons, List.map_nil, List.getD_cons_zero, List.getD_cons_succ]; have S := S.drew; refine mix_begin fun hF => ?_)
    repeat (first
      | (refine mix_loadF rfl _ (.tmp 5) rfl _ rfl 0 (by decide) _ _ rfl _ Try.underlying25 rfl cnInfo ?_; simp only [Act.put, List.setIfInBounds_toArray, List.set_cons_succ, List.set_cons_zero])
      | (refine mix_storeF rfl _ (.tmp 2) _ rfl S hF _ rfl _ rfl 2 (by decide) _ _ rfl hdInfo (by rfl) (by exact hdOne zeroH) ?_; clear S hF; intro w1 S hF; simp only [Act.put, List.set_cons_succ, List.set_cons_zero] at S hF ⊢)
      | (refine mix_storeF rfl _ (.tmp 3) _ rfl S hF _ rfl _ rfl 1 (by decide) _ _ rfl cnInfo (by rfl) (by exact cnOne _) ?_; clear S hF; intro w1 S hF; simp only [Act.put, List.set_cons_succ, List.set_cons_zero] at S hF ⊢)
      | (refine mix_assign rfl _ rfl ?_; simp only [Act.put, Act.eval, Array.getD_eq_getD_getElem?, List.getElem?_toArray, List.getElem?_cons_succ, List.getElem?_cons_zero, Option.getD_some, List.setIfInBounds_toArray, List.set_cons_succ, List.set_cons_zero])
      | (refine mix_val rfl (v := ?_) ?_ ?_; rotate_left; (focus (intro w _; go_simp; try with_reducible rfl)); simp only [Act.put, List.setIfInBounds_toArray, List.set_cons_succ, List.set_cons_zero]))
    (refine mix_nil ?_; clear hF)
    go_wp2
    exact bodyPost_ret (results_cell3S rfl _ S _ 2 _ _ _ rfl rfl Try.underlying24 rfl hdInfo _ 1 _ _ _ rfl rfl Try.underlying25 rfl cnInfo) rfl ⟨rfl, S.below⟩
  · rw [if_neg hlen]
    have h1 : ¬ (s.size : Int) < 12 := by omega
    have h2 : 12 ≤ s.size := by omega
    have hQ : ∀ a b w, a + 2 = b → b ≤ s.size → Calls Try.prog 16 #[.string (s.extract a b)] w fun e w' => e = .returned (.int .i64 (ocN ((s.data.toList.drop a).take 2))) ∧ w = w' := fun a b w h hb => by
      have := refNum_any (s.extract a b) w (two_at s a b h hb).1
      rw [(two_at s a b h hb).2] at this
      exact this
    obtain ⟨n, hn⟩ : ∃ n, n = hdW s.data.toList 1 := ⟨_, rfl⟩
    obtain ⟨d, hd⟩ : ∃ n, n = hdW s.data.toList 0 := ⟨_, rfl⟩
    have hlt : n < 65536 := by rw [hn]; exact hdW_lt _ _
    have hN : ∀ w, Calls Try.prog 16 #[.string (s.extract 2 4)] w fun e w' => e = .returned (.int .i64 n) ∧ w = w' := fun w => by rw [hn]; exact hQ 2 4 w rfl (by omega)
    have hD : ∀ w, Calls Try.prog 16 #[.string (s.extract 0 2)] w fun e w' => e = .returned (.int .i64 d) ∧ w = w' := fun w => by rw [hd]; exact hQ 0 2 w rfl (by omega)
    rw [← hn, ← hd]
    have HQ := Lib.hid hQ
    have HN := Lib.hid hN
    have HD := Lib.hid hD
    clear hQ hN hD hn hd hlen
    go_enter Try.func7, Try.ntmps7
    go_wp2_with (first
      | ((with_reducible show wpList _ _ _ (Oper.mk (some 2) (Op.alloc _) _ _ _ _ :: _) _ _); refine wpList_allocS rfl _ rfl _ hdZero S ?_; clear S; intro gr w1 S)
      | ((with_reducible show wpList _ _ _ (Oper.mk (some 3) (Op.alloc _) _ _ _ _ :: _) _ _); refine wpList_allocS rfl _ rfl _ cnZero S ?_; clear S; intro gs w1 S)
      | ((with_reducible show wpList _ _ _ (Oper.mk (some 5) (Op.alloc _) _ _ _ _ :: _) _ _); refine wpList_allocS rfl _ rfl _ cnZero S ?_; clear S; intro gc w1 S)
      | ((with_reducible show wpList _ _ _ (Oper.mk (some 7) (Op.alloc _) _ _ _ _ :: _) _ _); refine wpList_allocS rfl _ rfl _ hdZero S ?_; clear S; intro g w1 S)
      | ((with_reducible refine (HN.out _).mono ?_); rintro e w2 ⟨rfl, rfl⟩)
      | ((with_reducible refine (HD.out _).mono ?_); rintro e w2 ⟨rfl, rfl⟩)
      | ((with_reducible show wpList _ _ _ (Oper.mk _ (Op.store _ (Operand.tmp 7) _) _ _ _ _ :: _) _ _); refine wpList_storeS rfl _ _ _ rfl S _ rfl _ rfl 0 _ _ rfl hdInfo (by rfl) (by simp [Value.oneCell']) ?_; clear S; intro w1 S; (first | simp only [List.set_cons_zero] at S | simp only [List.set_cons_succ, List.set_cons_zero] at S | skip))
      | ((with_reducible show wpList _ _ _ (Oper.mk _ (Op.store _ (Operand.tmp 30) _) _ _ _ _ :: _) _ _); refine wpList_putS rfl _ _ _ rfl S _ _ rfl _ rfl rfl rfl 0 _ _ rfl boolInfo (by exact (by decide : 1 < 10)) ?_; clear S; intro w1 S; (first | simp only [List.set_cons_zero] at S | simp only [List.set_cons_succ, List.set_cons_zero] at S | skip))
      | ((with_reducible show wpList _ _ _ (Oper.mk _ (Op.store _ (Operand.tmp 35) _) _ _ _ _ :: _) _ _); refine wpList_putS rfl _ _ _ rfl S _ _ rfl _ rfl rfl rfl 0 _ _ rfl boolInfo (by exact (by decide : 3 < 10)) ?_; clear S; intro w1 S; (first | simp only [List.set_cons_zero] at S | simp only [List.set_cons_succ, List.set_cons_zero] at S | skip))
      | ((with_reducible show wpList _ _ _ (Oper.mk _ (Op.store _ (Operand.tmp 40) _) _ _ _ _ :: _) _ _); refine wpList_putS rfl _ _ _ rfl S _ _ rfl _ rfl rfl rfl 0 _ _ rfl boolInfo (by exact (by decide : 4 < 10)) ?_; clear S; intro w1 S; (first | simp only [List.set_cons_zero] at S | simp only [List.set_cons_succ, List.set_cons_zero] at S | skip))
      | ((with_reducible show wpList _ _ _ (Oper.mk _ (Op.store _ (Operand.tmp 45) _) _ _ _ _ :: _) _ _); refine wpList_putS rfl _ _ _ rfl S _ _ rfl _ rfl rfl rfl 0 _ _ rfl boolInfo (by exact (by decide : 5 < 10)) ?_; clear S; intro w1 S; (first | simp only [List.set_cons_zero] at S | simp only [List.set_cons_succ, List.set_cons_zero] at S | skip))
      | ((with_reducible show wpList _ _ _ (Oper.mk _ (Op.store _ (Operand.tmp 50) _) _ _ _ _ :: _) _ _); refine wpList_putS rfl _ _ _ rfl S _ _ rfl _ rfl rfl rfl 0 _ _ rfl boolInfo (by exact (by decide : 6 < 10)) ?_; clear S; intro w1 S; (first | simp only [List.set_cons_zero] at S | simp only [List.set_cons_succ, List.set_cons_zero] at S | skip))
      | ((with_reducible show wpList _ _ _ (Oper.mk _ (Op.store _ (Operand.tmp 55) _) _ _ _ _ :: _) _ _); refine wpList_putS rfl _ _ _ rfl S _ _ rfl _ rfl rfl rfl 0 _ _ rfl boolInfo (by exact (by decide : 7 < 10)) ?_; clear S; intro w1 S; (first | simp only [List.set_cons_zero] at S | simp only [List.set_cons_succ, List.set_cons_zero] at S | skip))
      | ((with_reducible show wpList _ _ _ (Oper.mk _ (Op.store _ (Operand.tmp 60) _) _ _ _ _ :: _) _ _); refine wpList_putS rfl _ _ _ rfl S _ _ rfl _ rfl rfl rfl 0 _ _ rfl boolInfo (by exact (by decide : 8 < 10)) ?_; clear S; intro w1 S; (first | simp only [List.set_cons_zero] at S | simp only [List.set_cons_succ, List.set_cons_zero] at S | skip)))
    have S : Ats w.heap.size w w1 [(g, 24, hdC (unH d n)), (gc, 25, cnC (cntP (hdW s.data.toList) 0)), (gs, 25, cnC fun _ => 0), (gr, 24, hdC zeroH)] := S
    go_loopw [8] (fun i wr => ∃ k : Nat, k ≤ 4 ∧ i = .int .i64 k ∧ Ats w.heap.size w wr [(g, 24, hdC (unH d n)), (gc, 25, cnC (cntP (hdW s.data.toList) k)), (gs, 25, cnC fun _ => 0), (gr, 24, hdC zeroH)]) (fun i _ => 4 - (intOf i).toNat)
    case atStart => exact ⟨0, Nat.zero_le _, rfl, S⟩
    case round =>
      obtain ⟨k, hk, rfl, S⟩ := hrel
      by_cases hlt : k < 4
      · have hs := cntP_s (hdW s.data.toList) k hlt
        have hq : ∀ w, Calls Try.prog 16 #[.string (s.extract (4 + 2 * k) (6 + 2 * k))] w fun e w' => e = .returned (.int .i64 (hdW s.data.toList (2 + k) : Nat)) ∧ w = w' := fun w => by
          have := HQ.out (4 + 2 * k) (6 + 2 * k) w (by omega) (by omega)
          rw [show 4 + 2 * k = 2 * (2 + k) by omega] at this ⊢
          exact this
        have hsz : k < (cnC (cntP (hdW s.data.toList) k)).size := hlt
        obtain ⟨x, hx⟩ : ∃ x, x = cnC (cntP (hdW s.data.toList) k) := ⟨_, rfl⟩
        obtain ⟨v, hv⟩ : ∃ v, v = hdW s.data.toList (2 + k) := ⟨_, rfl⟩
        rw [← hx] at hs hsz S
        rw [← hv] at hs
        simp only [← hv] at hq
        have HS := Lib.hid hs
        have HZ := Lib.hid hsz
        have HQQ := Lib.hid hq
        clear hs hsz hx hq hv
        go_wp2_with (first
          | ((with_reducible refine (HQQ.out _).mono ?_); rintro e w2 ⟨rfl, rfl⟩)
          | ((with_reducible show wpList _ _ _ (Oper.mk _ (Op.store _ (Operand.tmp 75) _) _ _ _ _ :: _) _ _); refine wpList_putS rfl _ _ _ rfl S _ _ rfl _ rfl rfl rfl 1 _ _ rfl intInfo (by exact HZ.out) ?_; clear S; intro w1 S; (first | simp only [List.set_cons_zero] at S | simp only [List.set_cons_succ, List.set_cons_zero] at S | skip)))
        have S : Ats w.heap.size w w1 [(g, 24, hdC (unH d n)), (gc, 25, x.setIfInBounds k (.int .i64 (v : Nat))), (gs, 25, cnC fun _ => 0), (gr, 24, hdC zeroH)] := S
        rw [HS.out] at S
        exact ⟨⟨k + 1, by omega, by go_num, S⟩, by simp [intOf]; omega⟩
      · obtain rfl : k = 4 := by omega
        have hrv : cnC (cntP (hdW s.data.toList) 4) = cnC (fun i => hdW s.data.toList (2 + i)) := cnC_ext fun i hi => by unfold cntP; rw [if_pos hi]
        rw [hrv] at S
        clear hrv
        go_wp2
        refine wp_region_mixO (C := AtsF w.heap.size w [(g, 24, hdC (unH d n)), (gc, 25, cnC (fun i => hdW s.data.toList (2 + i))), (gs, 25, cnC fun _ => 0), (gr, 24, hdC zeroH)] [0, 1]) [(0, true), (1, true), (2, false), (3, false), (4, true)] (by kernel_rfl) (by kernel_rfl) (S.drew.toF _) ?_
        (simp only [List.map_cons, List.map_nil, List.getD_cons_zero, List.getD_cons_succ]; have S := S.drew; refine mix_begin fun hF => ?_)
        repeat (first
          | (refine mix_loadF rfl _ (.tmp 7) rfl _ rfl 0 (by decide) _ _ rfl _ Try.underlying24 rfl hdInfo ?_; simp only [Act.put, List.setIfInBounds_toArray, List.set_cons_succ, List.set_cons_zero])
          | (refine mix_loadF rfl _ (.tmp 5) rfl _ rfl 1 (by decide) _ _ rfl _ Try.underlying25 rfl cnInfo ?_; simp only [Act.put, List.setIfInBounds_toArray, List.set_cons_succ, List.set_cons_zero])
          | (refine mix_storeF rfl _ (.tmp 2) _ rfl S hF _ rfl _ rfl 3 (by decide) _ _ rfl hdInfo (by rfl) (by exact hdOne _) ?_; clear S hF; intro w1 S hF; simp only [Act.put, List.set_cons_succ, List.set_cons_zero] at S hF ⊢)
          | (refine mix_storeF rfl _ (.tmp 3) _ rfl S hF _ rfl _ rfl 2 (by decide) _ _ rfl cnInfo (by rfl) (by exact cnOne _) ?_; clear S hF; intro w1 S hF; simp only [Act.put, List.set_cons_succ, List.set_cons_zero] at S hF ⊢)
          | (refine mix_assign rfl _ rfl ?_; simp only [Act.put, Act.eval, Array.getD_eq_getD_getElem?, List.getElem?_toArray, List.getElem?_cons_succ, List.getElem?_cons_zero, Option.getD_some, List.setIfInBounds_toArray, List.set_cons_succ, List.set_cons_zero]))
        (refine mix_nil ?_; clear hF)
        go_wp2
        exact bodyPost_ret (results_cell3S rfl _ S _ 3 _ _ _ rfl rfl Try.underlying24 rfl hdInfo _ 2 _ _ _ rfl rfl Try.underlying25 rfl cnInfo) rfl ⟨rfl, S.below⟩
end Go.Proofs.Ytnomjjiohdinlaa
