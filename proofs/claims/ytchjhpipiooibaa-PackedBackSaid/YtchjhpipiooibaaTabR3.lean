/- Layer 12: the document's Put, of a table. -/
import Derived.Test.YtchjhpipiooibaaTabR2
import Derived.BigRegion
import Derived.Deep.RegionLaw
namespace Go.Proofs.Ytchjhpipiooibaa
open Go.RowKit Go
set_option linter.unusedVariables false
theorem RTab.kept {W0 w w' : World} {q : Nat} {T : List (Lbs × Int)} (h : RTab W0 w q T) (hb : Below w.heap.size w w') : RTab W0 w' q T := by
  obtain ⟨v, vals, S, ho, hl, hn⟩ := h
  exact ⟨v, vals, S.call hb, own_belowX ho hb, hl, hn⟩
theorem At.own_ne_s {w : World} {g : Nat} {t : TypeId} {cs : Array Value} {B e s n : Nat} {v : Value} {xs : List Value} (h : At w g t cs) (ho : w.ownsRow B e s v n xs) (hne : e ≠ t) : v.ownBlock ≠ some g := row_ne ho h hne
theorem own_putS {w : World} {B e s n g i t : Nat} {v u : Value} {xs : List Value} {cs : Array Value} (ho : w.ownsRow B e s v n xs) (h : At w g t cs) (hne : e ≠ t) : (w.setCell ⟨g, i, none⟩ u).ownsRow B e s v n xs := by
  have hn := row_ne ho h hne
  refine ⟨ho.1, ?_⟩
  rcases ho.2 with h0 | ⟨g', cap, cur, hv, hB, hg, hr⟩
  · exact .inl h0
  · refine .inr ⟨g', cap, cur, hv, hB, ?_, hr⟩
    rw [Below.heap_setCell w ⟨g, i, none⟩ u g' ?_]
    · exact hg
    · rintro rfl
      exact hn (by rw [hv]; simp [Value.ownBlock])
theorem ats_row {B : Nat} {w0 w w' : World} {L : List (Nat × TypeId × Array Value)} (S : Ats B w0 w L) {e s n : Nat} {v : Value} {xs : List Value} (ho : w.ownsRow B e s v n xs) (hg : w.grownBy w' v.ownBlock) (hne : ∀ y ∈ L, e ≠ y.2.1) : Ats B w0 w' L :=
  ⟨S.below.grown hg S.big (fun k hk => (ho.lt k hk).1), Nat.le_trans S.big hg.size, fun y hy => ⟨(S.at_ y hy).1, (S.at_ y hy).2.grown hg (row_ne ho (S.at_ y hy).2 (hne y hy))⟩, S.apart⟩
theorem elemRow : (Try.prog.info? 67).map (fun i => (i.zero, i.size, i.bytes)) = some (some (.agg #[.slice none 0 0, .int .i64 0]), 2, 32) := by kernel_rfl
/-- one round of Put -/
def PutR (W0 w : World) (q n : Nat) (l : Lbs) (at_ : Int) (ok : Bool) (N : Nat) (O : List UInt8 × List (Lbs × Int)) (s i : Value) (wr : World) : Prop :=
  ∃ (k : Nat) (T : List (Lbs × Int)), k ≤ n ∧ i = .int .i64 k ∧ s = .string ⟨(labsB (l.take k)).toArray⟩ ∧ RTab W0 wr q T ∧ TOk T ∧ T.length ≤ N + k ∧ Kept (isRowO 67) q w wr ∧ Below W0.heap.size W0 wr ∧
    O = (labsB (l.take k) ++ (pkPut ok (l.drop k) (at_ + (labsB (l.take k)).length) T).1, (pkPut ok (l.drop k) (at_ + (labsB (l.take k)).length) T).2)
set_option maxRecDepth 100000 in
set_option maxHeartbeats 8000000 in
theorem refPutTab_any (W0 w : World) (q : Nat) (T0 : List (Lbs × Int)) (hT : RTab W0 w q T0) (hTok : TOk T0) (hTl : T0.length ≤ 50000) (A : Option Addr) (n c : Nat) (l : Lbs) (hl : TextsAt W0 A n l) (hnc : n ≤ c) (hb : sizeL l ≤ 401) (at_ : Int) :
    Calls Try.prog 13 #[.pointer (some ⟨q, 0, none⟩), .slice A n c, .int .i64 at_] w fun e w' => e = .returned (.tuple #[.string ⟨(putO true l at_ T0).1.toArray⟩, .int .i64 (putO true l at_ T0).2.2]) ∧ RTab W0 w' q (putO true l at_ T0).2.1 ∧ Kept (isRowO 67) q w w' ∧ Below W0.heap.size W0 w' := by
  have hW : Below W0.heap.size W0 w := by obtain ⟨_, _, S, _⟩ := hT; exact S.below
  have HC := Lib.hid (fun w (h : Below W0.heap.size W0 w) => refCheck_any A n c l w (hl.below h) (by omega))
  by_cases h0 : checkL l = 0
  · have hO : putO true l at_ T0 = ((pkPut (decide (0 ≤ at_)) l at_ T0).1, (pkPut (decide (0 ≤ at_)) l at_ T0).2, 0) := by
      unfold putO
      rw [if_pos h0, Bool.true_and]
    rw [hO]
    rw [h0] at HC
    have hS := (checkL_ok.1 h0).2
    have HALL := Lib.hid (checkL_ok.1 h0).1
    have HW := Lib.hid hW
    have HP := Lib.hid (fun (m n : Int) w => refPut_any m n w)
    have HL := Lib.hid hl
    have hlen := size_len l
    have hn4 : n ≤ 400 := by have := hl.1; omega
    have HS400 := Lib.hid hS
    obtain ⟨O, hOv⟩ : ∃ O, O = pkPut (decide (0 ≤ at_)) l at_ T0 := ⟨_, rfl⟩
    rw [← hOv]
    have HST := Lib.hid (show PutR W0 w q n l at_ (decide (0 ≤ at_)) T0.length O (.string ⟨#[]⟩) (.int .i64 0) w from
      ⟨0, T0, Nat.zero_le _, rfl, rfl, hT, hTok, Nat.le_refl _, Kept.refl _, hW, by rw [hOv]; simp [labsB]⟩)
    obtain ⟨N, hN⟩ : ∃ N, N = T0.length := ⟨_, rfl⟩
    rw [← hN] at hTl HST
    clear hO h0 hb hW hT hTok hOv hN
    go_enter Try.func13, Try.ntmps13
    go_wp2_with ((with_reducible refine (HC.out _ HW.out).mono ?_); rintro e w2 ⟨rfl, rfl⟩)
    go_loopw [9, 10] (fun s i wr => PutR W0 w q n l at_ (decide (0 ≤ at_)) N O s i wr) (fun _ i _ => n - (intOf i).toNat)
    case atStart => exact HST.out
    case round =>
      obtain ⟨k, T, hk, rfl, rfl, hRT, hTok, hTl2, hKP, hBW, hO⟩ := hrel
      by_cases hlt : k < n
      · obtain ⟨b, o, rfl, hbh, hcell⟩ := HL.out.2 (by omega)
        have hkl : k < l.length := by have := HL.out.1; omega
        have c0 := hcell k hkl
        have hlab := labsB_take l k hkl
        have hdl := drop_lab l k hkl
        have hz1 := labsB_len (l.take k)
        have hz2 := size_at l k hkl
        have hFn := fun wr (h : RTab W0 wr q T) => refFind_any W0 wr q T h (by omega) (some ⟨b, o + k, none⟩) (n - k) (c - k) (l.drop k) (HL.out.dropX k (by omega)) (by omega) (by omega)
        obtain ⟨x, hx⟩ : ∃ x, x = l[k] := ⟨_, rfl⟩
        rw [← hx] at c0 hlab hz2 hdl
        rw [hdl] at hFn hO
        obtain ⟨xb, hxb⟩ : ∃ xb : ByteArray, xb = ⟨x.toArray⟩ := ⟨_, rfl⟩
        have hxz : xb.size = x.length := by rw [hxb]; rfl
        obtain ⟨sb, hsb⟩ : ∃ sb : ByteArray, sb = ⟨(labsB (l.take k)).toArray⟩ := ⟨_, rfl⟩
        have hsz : sb.size = (labsB (l.take k)).length := by rw [hsb]; rfl
        rw [← hsz] at hO
        unfold strV at c0
        rw [← hxb] at c0
        have C0 := Lib.hid c0
        have HBH := Lib.hid hbh
        rw [← hsb]
        have HSB := Lib.hid hsb
        have hz3 : sb.size ≤ 300 := by omega
        have hz4 : xb.size ≤ 300 := by omega
        have hck : k ≤ c := by omega
        cases hf : pkFind T (x :: l.drop (k + 1)) with
        | some to =>
          rw [findI_some hf] at hFn
          have hto := hTok.find hf
          rw [pkPut_hit hf] at hO
          have hp1 := fun w => HP.out 2 (49152 + to) w
          rw [show ocWide 2 = 2 by decide] at hp1
          obtain ⟨pb, hpb⟩ : ∃ pb : ByteArray, pb = ⟨(ocT 2 (49152 + to)).toArray⟩ := ⟨_, rfl⟩
          have hz5 : pb.size = 2 := by rw [hpb]; rfl
          rw [← hpb] at hp1
          have HP1 := Lib.hid hp1
          have HPB := Lib.hid hpb
          have HO := Lib.hid hO
          have HFn := Lib.hid hFn
          have HRT := Lib.hid hRT
          have HKP := Lib.hid hKP
          have HBW := Lib.hid hBW
          have hto1 := hto.1
          have hto2 := hto.2
          clear hcell c0 hlab hz1 hz2 hx hxb hsb hxz hsz hp1 hpb hkl hf hO hFn hto hdl hRT hKP hBW hTok hTl2 hbh
          go_wp2_with (first
            | ((with_reducible refine (HFn.out _ HRT.out).mono ?_); rintro e w2 ⟨rfl, hb⟩; have HB2 := Lib.hid hb; clear hb)
            | ((with_reducible refine (HP1.out _).mono ?_); rintro e w3 ⟨rfl, hb⟩; have HB3 := Lib.hid hb; clear hb))
          have hb3 := HB2.out.trans (HB3.out.mono HB2.out.size)
          refine bodyPost_ret (results_tmp2 rfl _ _ _) rfl ⟨?_, ?_, HKP.out.trans (Kept.below hb3), HBW.out.trans (hb3.mono HBW.out.size)⟩
          · exact ret_two (by rw [HO.out, HSB.out, HPB.out, ba_app])
          · rw [HO.out]
            exact HRT.out.kept hb3
        | none =>
          rw [findI_none hf] at hFn
          rw [pkPut_miss hf] at hO
          have hcat : sb ++ ⟨(ocT 1 (xb.size : Int)).toArray⟩ ++ xb = ⟨(labsB (l.take (k + 1))).toArray⟩ := by
            rw [hlab, hsb, hxz, hxb, ba_app, ba_app]
            simp [labB, ocT]
          have HCAT := Lib.hid hcat
          have hp1 := fun w => HP.out 1 (xb.size : Int) w
          rw [show ocWide 1 = 1 by decide] at hp1
          obtain ⟨pb, hpb⟩ : ∃ pb : ByteArray, pb = ⟨(ocT 1 (xb.size : Int)).toArray⟩ := ⟨_, rfl⟩
          have hz5 : pb.size = 1 := by rw [hpb]; rfl
          rw [← hpb] at hp1 HCAT
          have HP1 := Lib.hid hp1
          have hpos : at_ + (labsB (l.take (k + 1))).length = at_ + (sb.size : Int) + ((x.length : Int) + 1) := by
            rw [hlab, List.length_append, labB_len, ← hsz]; omega
          have hO2 : ∀ T', T' = (if decide (0 ≤ at_) = true ∧ at_ + (sb.size : Int) ≤ 16383 then T ++ [(x :: l.drop (k + 1), at_ + (sb.size : Int))] else T) →
              O = (labsB (l.take (k + 1)) ++ (pkPut (decide (0 ≤ at_)) (l.drop (k + 1)) (at_ + (labsB (l.take (k + 1))).length) T').1, (pkPut (decide (0 ≤ at_)) (l.drop (k + 1)) (at_ + (labsB (l.take (k + 1))).length) T').2) := fun T' hT' => by
            rw [hO, hpos, hT', hlab]
            simp [List.append_assoc]
          have HO2 := Lib.hid hO2
          have HFn := Lib.hid hFn
          have HRT := Lib.hid hRT
          have HKP := Lib.hid hKP
          have HBW := Lib.hid hBW
          have HTok := Lib.hid hTok
          have HTl2 := Lib.hid hTl2
          have HX := Lib.hid hdl
          clear hcell c0 hlab hz1 hz2 hx hxb hsb hxz hsz hp1 hpb hkl hf hO hFn hdl hRT hKP hBW hTok hTl2 hcat hpos hO2 hbh
          by_cases ha : at_ < 0
          · have t1 : ¬ at_ ≥ 0 := by omega
            have HNO := Lib.hid (show ¬ (decide (0 ≤ at_) = true ∧ at_ + (sb.size : Int) ≤ 16383) from fun h => by have := of_decide_eq_true h.1; omega)
            clear ha
            go_wp2_with ((with_reducible refine (HFn.out _ HRT.out).mono ?_); rintro e w2 ⟨rfl, hb⟩; have S := Ats.start w2; have HB2 := Lib.hid hb; have C1 := Lib.hid (((HBW.out.trans (hb.mono HBW.out.size)).cell (p := ⟨b, o + k, none⟩) HBH.out).trans C0.out); clear hb)
            (try simp only [Act.put, List.setIfInBounds_toArray, List.set_cons_succ, List.set_cons_zero]); refine quietS_region (by kernel_rfl) (by kernel_rfl) S ?_
            repeat (first
              | go_big_quiet_skip
              | (go_big_quiet_want
                 first
                   | ((with_reducible show Oper.quiet _ (Oper.mk (some 73) (Op.load _ _) _ _ _ _) _ _ _); refine q_oldS _ _ rfl _ rfl _ (by with_reducible exact C1.out) _ Try.underlying9 rfl ?_)
                   | ((with_reducible show Oper.quiet _ (Oper.mk (some 80) (Op.load _ _) _ _ _ _) _ _ _); refine q_oldS _ _ rfl _ rfl _ (by with_reducible exact C1.out) _ Try.underlying9 rfl ?_)
                   | ((with_reducible show Oper.quiet _ (Oper.mk (some 75) (Op.call { callee := Callee.value (Operand.func 28), args := _, argTypes := _ }) _ _ _ _) _ _ _); refine q_call 28 _ _ rfl (enters_of Try.func28 (by kernel_rfl) rfl) (fun w S => (((HP1.out _)).mono fun e w2 h => ⟨h.1, S.call h.2⟩)) (by simp [Act.eval]) ?_)
                   | (refine q_pure (v := ?_) ?_ ?_; rotate_left; focus (intro w; go_simp; rw [if_neg (by (simp; omega))]))
                   | (refine q_pure (v := ?_) ?_ ?_; rotate_left; focus (intro w; go_simp; try with_reducible rfl))
                 (simp only [Act.put, List.setIfInBounds_toArray, List.set_cons_succ, List.set_cons_zero]; go_big_quiet_on)))
            (refine wpQuiet_nil ?_; clear S; intro w1 S)
            go_wp2_with fail
            go_roundw
            case rel =>
              have hb3 := HB2.out.trans (S.below.mono HB2.out.size)
              exact ⟨k + 1, T, by omega, by go_num, by rw [HCAT.out], HRT.out.kept hb3, HTok.out, Nat.le_trans HTl2.out (by omega), HKP.out.trans (Kept.below hb3), HBW.out.trans (hb3.mono HBW.out.size), HO2.out T (by rw [if_neg (HNO.out)])⟩
            case measure => simp [intOf]; omega
          · have t1 : at_ ≥ 0 := by omega
            by_cases hb2 : at_ < 16384
            · by_cases hp : at_ + (sb.size : Int) < 16384
              · have t2 : at_ + (sb.size : Int) < 16384 := hp
                have HYES := Lib.hid (show decide (0 ≤ at_) = true ∧ at_ + (sb.size : Int) ≤ 16383 from ⟨decide_eq_true (by omega), by omega⟩)
                clear ha
                go_wp2_with ((with_reducible refine (HFn.out _ HRT.out).mono ?_); rintro e w2 ⟨rfl, hb⟩; have S := Ats.start w2; have HB2 := Lib.hid hb; have C1 := Lib.hid (((HBW.out.trans (hb.mono HBW.out.size)).cell (p := ⟨b, o + k, none⟩) HBH.out).trans C0.out); clear hb)
                obtain ⟨v, vals, Sq, ho, hvl, hnv⟩ := HRT.out.kept HB2.out
                obtain ⟨Av, cv, rfl⟩ := own_slice_of ho
                have hat := Sq.get (i := 0) rfl
                have cq : w2.drew.cell? ⟨q, 0, none⟩ = some (.slice Av T.length cv) := hat.drew.cells 0 rfl
                have cq' : w2.cell? ⟨q, 0, none⟩ = some (.slice Av T.length cv) := hat.cells 0 rfl
                have hqlt := hat.lt
                have HAT := Lib.hid hat
                have HOW := Lib.hid ho
                have hTn : T.length ≤ 100000 := Nat.le_trans HTl2.out (by omega)
                have l1 := Lib.hid (show (T.length + 1) * 32 ≤ 140737488355328 by omega)
                have l2 := Lib.hid (show T.length + 1 ≤ 140737488355328 by omega)
                have l3 := Lib.hid (Nat.le_trans (Sq.ge (i := 0) rfl) (Nat.le_of_lt hqlt))
                have hwp : IntKind.i64.wrap (at_ + (sb.size : Int)) = at_ + (sb.size : Int) := IntWalk.i64_in _ (by omega)
                have hck2 : (c = k) = False := by simp; omega
                clear hat ho
                go_region_law (refine step_appS (by rfl) _ _ _ 67 (by rfl) Try.underlying38 elemRow rfl (by decide) W0.heap.size (.slice Av T.length cv) T.length (rowCells vals T) [.slice (some ⟨b, o + k, none⟩) (n - k) (c - k), .int .i64 (at_ + (sb.size : Int))] rfl (by rfl) (by rfl) HOW.out (by simp [Value.oneCell']) l1.out l2.out l3.out ?_; intro v' w3 hown' hgr; obtain ⟨Av2, cv2, rfl⟩ := own_slice_of hown'; have hat3 := HAT.out.grown hgr (HAT.out.own_ne_s HOW.out (by decide)); have cq3 : w3.cell? ⟨q, 0, none⟩ = some (.slice Av T.length cv) := hat3.cells 0 rfl; have zq3 := hat3.ice 0; have HAT3 := Lib.hid hat3; have HOW3 := Lib.hid hown'; have HGR := Lib.hid hgr; clear hat3 hown' hgr)
                all_goals
                  clear hwp
                  go_wp2_with fail
                  have hv2 : T.length + 1 = (T ++ [(x :: l.drop (k + 1), at_ + (sb.size : Int))]).length := by simp
                  have hS4 := (ats_row Sq HOW.out HGR.out (by intro y hy; simp at hy; subst hy; show 67 ≠ 40; decide)).grow (i := 0) rfl (grown_setCell w3 ⟨q, 0, none⟩ (.slice Av2 (T.length + 1) cv2)) (HAT3.out.put 0 (.slice Av2 (T.length + 1) cv2))
                  have ho4 := own_putS (i := 0) (u := .slice Av2 (T.length + 1) cv2) HOW3.out HAT3.out (by decide)
                  have hR4 : RTab W0 (w3.setCell ⟨q, 0, none⟩ (.slice Av2 (T.length + 1) cv2)) q (T ++ [(x :: l.drop (k + 1), at_ + (sb.size : Int))]) := by
                    refine ⟨_, vals ++ [.slice (some ⟨b, o + k, none⟩) (n - k) (c - k)], hS4, ?_, by simp [hvl], ?_⟩
                    · rw [rowCells_add vals T hvl, ← hv2]
                      exact ho4
                    · intro i h1 h2
                      by_cases hi : i < T.length
                      · rw [List.getElem_append_left hi, List.getElem_append_left (by omega)]
                        exact hnv i hi (by omega)
                      · obtain rfl : i = T.length := by simp at h1; omega
                        rw [List.getElem_append_right (by omega), List.getElem_append_right (by omega)]
                        simp only [hvl, Nat.sub_self, List.getElem_cons_zero]
                        rw [← HX.out]
                        exact ⟨_, _, _, rfl, HL.out.dropX k (by omega), by omega⟩
                  have hK4 : Kept (isRowO 67) q w (w3.setCell ⟨q, 0, none⟩ (.slice Av2 (T.length + 1) cv2)) := HKP.out.trans ((Kept.below HB2.out).trans ((Kept.row HOW.out HGR.out).trans (Kept.put 0 _)))
                  have C1 := Lib.hid ((hS4.below.cell (p := ⟨b, o + k, none⟩) HBH.out).trans C0.out)
                  have HB4 := Lib.hid hS4.below
                  have HR4 := Lib.hid hR4
                  have HK4 := Lib.hid hK4
                  clear hS4 ho4 hR4 hK4 hv2 hvl hnv HAT HOW HAT3 HOW3 HGR Sq cq cq' cq3 zq3 S
                  generalize w3.setCell ⟨q, 0, none⟩ (.slice Av2 (T.length + 1) cv2) = w4 at C1 HB4 HR4 HK4 ⊢
                  have S := Ats.start w4
                  (try simp only [Act.put, List.setIfInBounds_toArray, List.set_cons_succ, List.set_cons_zero]); refine quietS_region (by kernel_rfl) (by kernel_rfl) S ?_
                  repeat (first
                    | go_big_quiet_skip
                    | (go_big_quiet_want
                       first
                         | ((with_reducible show Oper.quiet _ (Oper.mk (some 73) (Op.load _ _) _ _ _ _) _ _ _); refine q_oldS _ _ rfl _ rfl _ (by with_reducible exact C1.out) _ Try.underlying9 rfl ?_)
                         | ((with_reducible show Oper.quiet _ (Oper.mk (some 80) (Op.load _ _) _ _ _ _) _ _ _); refine q_oldS _ _ rfl _ rfl _ (by with_reducible exact C1.out) _ Try.underlying9 rfl ?_)
                         | ((with_reducible show Oper.quiet _ (Oper.mk (some 75) (Op.call { callee := Callee.value (Operand.func 28), args := _, argTypes := _ }) _ _ _ _) _ _ _); refine q_call 28 _ _ rfl (enters_of Try.func28 (by kernel_rfl) rfl) (fun w S => (((HP1.out _)).mono fun e w2 h => ⟨h.1, S.call h.2⟩)) (by simp [Act.eval]) ?_)
                         | (refine q_pure (v := ?_) ?_ ?_; rotate_left; focus (intro w; go_simp; rw [if_neg (by (simp; omega))]))
                         | (refine q_pure (v := ?_) ?_ ?_; rotate_left; focus (intro w; go_simp; try with_reducible rfl))
                       (simp only [Act.put, List.setIfInBounds_toArray, List.set_cons_succ, List.set_cons_zero]; go_big_quiet_on)))
                  (refine wpQuiet_nil ?_; clear S; intro w1 S)
                  go_wp2_with fail
                  go_roundw
                  case rel =>
                    have hb3 := S.below
                    exact ⟨k + 1, T ++ [(x :: l.drop (k + 1), at_ + (sb.size : Int))], by omega, by go_num, by rw [HCAT.out], HR4.out.kept hb3, HTok.out.add (by omega) HYES.out.2, by rw [List.length_append, List.length_singleton]; have := HTl2.out; omega, HK4.out.trans (Kept.below hb3), HB4.out.trans (hb3.mono HB4.out.size), HO2.out _ (by rw [if_pos HYES.out])⟩
                  case measure => simp [intOf]; omega
              · have t2 : ¬ at_ + (sb.size : Int) < 16384 := hp
                have HNO := Lib.hid (show ¬ (decide (0 ≤ at_) = true ∧ at_ + (sb.size : Int) ≤ 16383) from fun h => by omega)
                clear ha hp
                go_wp2_with ((with_reducible refine (HFn.out _ HRT.out).mono ?_); rintro e w2 ⟨rfl, hb⟩; have S := Ats.start w2; have HB2 := Lib.hid hb; have C1 := Lib.hid (((HBW.out.trans (hb.mono HBW.out.size)).cell (p := ⟨b, o + k, none⟩) HBH.out).trans C0.out); clear hb)
                (try simp only [Act.put, List.setIfInBounds_toArray, List.set_cons_succ, List.set_cons_zero]); refine quietS_region (by kernel_rfl) (by kernel_rfl) S ?_
                repeat (first
                  | go_big_quiet_skip
                  | (go_big_quiet_want
                     first
                       | ((with_reducible show Oper.quiet _ (Oper.mk (some 73) (Op.load _ _) _ _ _ _) _ _ _); refine q_oldS _ _ rfl _ rfl _ (by with_reducible exact C1.out) _ Try.underlying9 rfl ?_)
                       | ((with_reducible show Oper.quiet _ (Oper.mk (some 80) (Op.load _ _) _ _ _ _) _ _ _); refine q_oldS _ _ rfl _ rfl _ (by with_reducible exact C1.out) _ Try.underlying9 rfl ?_)
                       | ((with_reducible show Oper.quiet _ (Oper.mk (some 75) (Op.call { callee := Callee.value (Operand.func 28), args := _, argTypes := _ }) _ _ _ _) _ _ _); refine q_call 28 _ _ rfl (enters_of Try.func28 (by kernel_rfl) rfl) (fun w S => (((HP1.out _)).mono fun e w2 h => ⟨h.1, S.call h.2⟩)) (by simp [Act.eval]) ?_)
                       | (refine q_pure (v := ?_) ?_ ?_; rotate_left; focus (intro w; go_simp; rw [if_neg (by (simp; omega))]))
                       | (refine q_pure (v := ?_) ?_ ?_; rotate_left; focus (intro w; go_simp; try with_reducible rfl))
                     (simp only [Act.put, List.setIfInBounds_toArray, List.set_cons_succ, List.set_cons_zero]; go_big_quiet_on)))
                (refine wpQuiet_nil ?_; clear S; intro w1 S)
                go_wp2_with fail
                go_roundw
                case rel =>
                  have hb3 := HB2.out.trans (S.below.mono HB2.out.size)
                  exact ⟨k + 1, T, by omega, by go_num, by rw [HCAT.out], HRT.out.kept hb3, HTok.out, Nat.le_trans HTl2.out (by omega), HKP.out.trans (Kept.below hb3), HBW.out.trans (hb3.mono HBW.out.size), HO2.out T (by rw [if_neg (HNO.out)])⟩
                case measure => simp [intOf]; omega
            · have t2 : ¬ at_ < 16384 := hb2
              have HNO := Lib.hid (show ¬ (decide (0 ≤ at_) = true ∧ at_ + (sb.size : Int) ≤ 16383) from fun h => by omega)
              clear ha hb2
              obtain ⟨bb, t3⟩ : ∃ bb, decide (wrap64 (at_ + (sb.size : Int)) < 16384) = bb := ⟨_, rfl⟩
              cases bb
              · go_wp2_with ((with_reducible refine (HFn.out _ HRT.out).mono ?_); rintro e w2 ⟨rfl, hb⟩; have S := Ats.start w2; have HB2 := Lib.hid hb; have C1 := Lib.hid (((HBW.out.trans (hb.mono HBW.out.size)).cell (p := ⟨b, o + k, none⟩) HBH.out).trans C0.out); clear hb)
                (try simp only [Act.put, List.setIfInBounds_toArray, List.set_cons_succ, List.set_cons_zero]); refine quietS_region (by kernel_rfl) (by kernel_rfl) S ?_
                repeat (first
                  | go_big_quiet_skip
                  | (go_big_quiet_want
                     first
                       | ((with_reducible show Oper.quiet _ (Oper.mk (some 73) (Op.load _ _) _ _ _ _) _ _ _); refine q_oldS _ _ rfl _ rfl _ (by with_reducible exact C1.out) _ Try.underlying9 rfl ?_)
                       | ((with_reducible show Oper.quiet _ (Oper.mk (some 80) (Op.load _ _) _ _ _ _) _ _ _); refine q_oldS _ _ rfl _ rfl _ (by with_reducible exact C1.out) _ Try.underlying9 rfl ?_)
                       | ((with_reducible show Oper.quiet _ (Oper.mk (some 75) (Op.call { callee := Callee.value (Operand.func 28), args := _, argTypes := _ }) _ _ _ _) _ _ _); refine q_call 28 _ _ rfl (enters_of Try.func28 (by kernel_rfl) rfl) (fun w S => (((HP1.out _)).mono fun e w2 h => ⟨h.1, S.call h.2⟩)) (by simp [Act.eval]) ?_)
                       | (refine q_pure (v := ?_) ?_ ?_; rotate_left; focus (intro w; go_simp; rw [if_neg (by (simp; omega))]))
                       | (refine q_pure (v := ?_) ?_ ?_; rotate_left; focus (intro w; go_simp; try with_reducible rfl))
                     (simp only [Act.put, List.setIfInBounds_toArray, List.set_cons_succ, List.set_cons_zero]; go_big_quiet_on)))
                (refine wpQuiet_nil ?_; clear S; intro w1 S)
                go_wp2_with fail
                go_roundw
                case rel =>
                  have hb3 := HB2.out.trans (S.below.mono HB2.out.size)
                  exact ⟨k + 1, T, by omega, by go_num, by rw [HCAT.out], HRT.out.kept hb3, HTok.out, Nat.le_trans HTl2.out (by omega), HKP.out.trans (Kept.below hb3), HBW.out.trans (hb3.mono HBW.out.size), HO2.out T (by rw [if_neg (HNO.out)])⟩
                case measure => simp [intOf]; omega
              · go_wp2_with ((with_reducible refine (HFn.out _ HRT.out).mono ?_); rintro e w2 ⟨rfl, hb⟩; have S := Ats.start w2; have HB2 := Lib.hid hb; have C1 := Lib.hid (((HBW.out.trans (hb.mono HBW.out.size)).cell (p := ⟨b, o + k, none⟩) HBH.out).trans C0.out); clear hb)
                (try simp only [Act.put, List.setIfInBounds_toArray, List.set_cons_succ, List.set_cons_zero]); refine quietS_region (by kernel_rfl) (by kernel_rfl) S ?_
                repeat (first
                  | go_big_quiet_skip
                  | (go_big_quiet_want
                     first
                       | ((with_reducible show Oper.quiet _ (Oper.mk (some 73) (Op.load _ _) _ _ _ _) _ _ _); refine q_oldS _ _ rfl _ rfl _ (by with_reducible exact C1.out) _ Try.underlying9 rfl ?_)
                       | ((with_reducible show Oper.quiet _ (Oper.mk (some 80) (Op.load _ _) _ _ _ _) _ _ _); refine q_oldS _ _ rfl _ rfl _ (by with_reducible exact C1.out) _ Try.underlying9 rfl ?_)
                       | ((with_reducible show Oper.quiet _ (Oper.mk (some 75) (Op.call { callee := Callee.value (Operand.func 28), args := _, argTypes := _ }) _ _ _ _) _ _ _); refine q_call 28 _ _ rfl (enters_of Try.func28 (by kernel_rfl) rfl) (fun w S => (((HP1.out _)).mono fun e w2 h => ⟨h.1, S.call h.2⟩)) (by simp [Act.eval]) ?_)
                       | (refine q_pure (v := ?_) ?_ ?_; rotate_left; focus (intro w; go_simp; rw [if_neg (by (simp; omega))]))
                       | (refine q_pure (v := ?_) ?_ ?_; rotate_left; focus (intro w; go_simp; try with_reducible rfl))
                     (simp only [Act.put, List.setIfInBounds_toArray, List.set_cons_succ, List.set_cons_zero]; go_big_quiet_on)))
                (refine wpQuiet_nil ?_; clear S; intro w1 S)
                go_wp2_with fail
                go_roundw
                case rel =>
                  have hb3 := HB2.out.trans (S.below.mono HB2.out.size)
                  exact ⟨k + 1, T, by omega, by go_num, by rw [HCAT.out], HRT.out.kept hb3, HTok.out, Nat.le_trans HTl2.out (by omega), HKP.out.trans (Kept.below hb3), HBW.out.trans (hb3.mono HBW.out.size), HO2.out T (by rw [if_neg (HNO.out)])⟩
                case measure => simp [intOf]; omega
      · have he : l.take k = l := List.take_of_length_le (by have := HL.out.1; omega)
        have he2 : l.drop k = [] := List.drop_eq_nil_of_le (by have := HL.out.1; omega)
        rw [he, he2] at hO
        rw [he]
        have hz1 := labsB_len l
        obtain ⟨sb, hsb⟩ : ∃ sb : ByteArray, sb = ⟨(labsB l).toArray⟩ := ⟨_, rfl⟩
        have hsz : sb.size ≤ 300 := by rw [hsb, ba_size]; omega
        rw [← hsb]
        have HSB := Lib.hid hsb
        have hp1 := fun w => HP.out 1 0 w
        rw [show ocWide 1 = 1 by decide] at hp1
        have hp1 : ∀ w, Calls Try.prog 28 #[.int .i64 1, .int .i64 0] w fun e w' => e = .returned (.string ⟨#[0]⟩) ∧ Below w.heap.size w w' := hp1
        have HP1 := Lib.hid hp1
        have HRT := Lib.hid hRT
        have HKP := Lib.hid hKP
        have HBW := Lib.hid hBW
        have HO := Lib.hid hO
        clear hz1 hsb hp1 he he2 hRT hKP hBW hO hTok hTl2
        go_wp2_with ((with_reducible refine (HP1.out _).mono ?_); rintro e w2 ⟨rfl, hb⟩; have HB2 := Lib.hid hb; clear hb)
        refine bodyPost_ret (results_tmp2 rfl _ _ _) rfl ⟨?_, ?_, HKP.out.trans (Kept.below HB2.out), HBW.out.trans (HB2.out.mono HBW.out.size)⟩
        · exact ret_two (by rw [HO.out, HSB.out, ByteArray.mk_append_mk]; simp [pkPut])
        · rw [HO.out]
          exact HRT.out.kept HB2.out
  · have hO : putO true l at_ T0 = ([], T0, checkL l) := by unfold putO; rw [if_neg h0]
    rw [hO]
    have hb : (checkL l != 0) = true := by simpa using h0
    have HW := Lib.hid hW
    have HRT := Lib.hid hT
    obtain ⟨x, hx⟩ : ∃ x, x = checkL l := ⟨_, rfl⟩
    rw [← hx] at hb HC ⊢
    clear hO h0 hW hx hl hT hTok
    go_enter Try.func13, Try.ntmps13
    go_wp2_with ((with_reducible refine (HC.out _ HW.out).mono ?_); rintro e w2 ⟨rfl, rfl⟩)
    exact bodyPost_ret (results_tmp2 rfl _ _ _) rfl ⟨rfl, HRT.out, Kept.refl _, HW.out⟩
end Go.Proofs.Ytchjhpipiooibaa
