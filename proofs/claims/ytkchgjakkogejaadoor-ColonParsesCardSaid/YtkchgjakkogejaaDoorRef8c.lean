/- Layer 8: the document's Text. -/
import Derived.Test.YtkchgjakkogejaaDoorRef8b
import Derived.Test.YtkchgjakkogejaaDoorQuad7
namespace Go.Proofs.YtkchgjakkogejaaDoor
open Go.RowKit Go
set_option linter.unusedVariables false
set_option maxRecDepth 100000
theorem joiX_snoc (x : UInt8) (L : List (List UInt8)) (p : List UInt8) : joiX x (L ++ [p]) = if L = [] then p else joiX x L ++ x :: p := by
  induction L with
  | nil => rfl
  | cons q t ih =>
    rw [if_neg (by simp), List.cons_append, joiX_cons x q (t ++ [p]) (by simp), ih]
    cases t with
    | nil => rw [if_pos rfl]; rfl
    | cons r t => rw [if_neg (by simp), joiX_cons x q (r :: t) (by simp)]; simp
theorem hexs_take {g : List Nat} {k : Nat} (h : k < g.length) : hexs (g.take (k + 1)) = hexs (g.take k) ++ [hexL (g.getD k 0)] := by
  rw [hexs, List.take_succ_eq_append_getElem h, List.map_append, List.getD_eq_getElem?_getD, List.getElem?_eq_getElem h]; rfl
theorem hexs_nil {g : List Nat} {k : Nat} (h : k < g.length) : hexs (g.take k) = [] ↔ k = 0 := by
  constructor
  · intro e
    have := congrArg List.length e
    rw [hexs, List.length_map, List.length_take] at this
    have h0 : min k g.length = 0 := this
    omega
  · rintro rfl; rfl
def txtK (g : List Nat) (f m k : Nat) : List UInt8 := if k ≤ f then joiX 58 (hexs (g.take k)) else joiX 58 (hexs (g.take f)) ++ 58 :: 58 :: joiX 58 (hexs ((g.drop (f + m)).take (k - (f + m))))
theorem txt_a0 {g : List Nat} {f m : Nat} (h : 0 < g.length) (hf : 0 < f) : txtK g f m 1 = hexL (g.getD 0 0) := by
  unfold txtK
  rw [if_pos (by omega), show (1 : Nat) = 0 + 1 from rfl, hexs_take h, joiX_snoc, if_pos (by rfl)]
theorem txt_a {g : List Nat} {f m k : Nat} (h : k < g.length) (hf : k < f) (h0 : 0 < k) : txtK g f m (k + 1) = txtK g f m k ++ 58 :: hexL (g.getD k 0) := by
  unfold txtK
  rw [if_pos (by omega), if_pos (by omega), hexs_take h, joiX_snoc, if_neg (fun e => by have := (hexs_nil h).1 e; omega)]
theorem txt_b {g : List Nat} {f m : Nat} (hm : 1 ≤ m) : txtK g f m (f + 1) = txtK g f m f ++ [58, 58] := by
  unfold txtK
  rw [if_neg (by omega), if_pos (Nat.le_refl _), show f + 1 - (f + m) = 0 by omega]
  rfl
theorem txt_c {g : List Nat} {f m k : Nat} (h1 : f < k) (h2 : k < f + m) : txtK g f m (k + 1) = txtK g f m k := by
  unfold txtK
  rw [if_neg (by omega), if_neg (by omega), show k + 1 - (f + m) = 0 by omega, show k - (f + m) = 0 by omega]
theorem getD_drop (g : List Nat) (a j : Nat) : (g.drop a).getD j 0 = g.getD (a + j) 0 := by
  rw [List.getD_eq_getElem?_getD, List.getElem?_drop, List.getD_eq_getElem?_getD]
theorem txt_d {g : List Nat} {f m k : Nat} (h : k < g.length) (hm : 1 ≤ m) (hk : k = f + m) : txtK g f m (k + 1) = txtK g f m k ++ hexL (g.getD k 0) := by
  subst hk
  unfold txtK
  rw [if_neg (by omega), if_neg (by omega), show f + m + 1 - (f + m) = 0 + 1 by omega, show f + m - (f + m) = 0 by omega, hexs_take (by rw [List.length_drop]; omega), joiX_snoc, if_pos (by rfl), getD_drop]
  simp [hexs, joiX]
theorem txt_e {g : List Nat} {f m k : Nat} (h : k < g.length) (hm : 1 ≤ m) (hk : f + m < k) : txtK g f m (k + 1) = txtK g f m k ++ 58 :: hexL (g.getD k 0) := by
  unfold txtK
  rw [if_neg (by omega), if_neg (by omega)]
  obtain ⟨j, hj⟩ : ∃ j, j = k - (f + m) := ⟨_, rfl⟩
  have hjl : j < (g.drop (f + m)).length := by rw [List.length_drop]; omega
  rw [show k + 1 - (f + m) = j + 1 by omega, ← hj, hexs_take hjl, joiX_snoc, if_neg (fun e => by have := (hexs_nil hjl).1 e; omega), getD_drop, show f + m + j = k by omega]
  simp
theorem txt_len {g : List Nat} (f m k : Nat) (hg : g.length = 8) (hb : ∀ n ∈ g, n < 65536) : (txtK g f m k).length ≤ 100 := by
  unfold txtK
  split
  · have h1 := hexs_len (g.take k) (fun n hn => hb n (List.mem_of_mem_take hn))
    rw [List.length_take] at h1
    omega
  · have h1 := hexs_len (g.take f) (fun n hn => hb n (List.mem_of_mem_take hn))
    have h2 := hexs_len ((g.drop (f + m)).take (k - (f + m))) (fun n hn => hb n (List.mem_of_mem_drop (List.mem_of_mem_take hn)))
    rw [List.length_take] at h1
    rw [List.length_take, List.length_drop] at h2
    rw [List.length_append, List.length_cons, List.length_cons]
    omega
theorem txt_end {g : List Nat} (hg : g.length = 8) : txtK g (rowE (zsG g)).1 (rowE (zsG g)).2 8 = coreE g := by
  have hz : (zsG g).length = 8 := by simp [zsG, hg]
  obtain ⟨h1, h2, _⟩ := row_ok (zsG g) hz
  rw [h2]
  unfold coreE txtK
  by_cases hm : (nouE (zsG g)).2 < 2
  · rw [if_pos hm, if_pos hm, if_pos (by decide), List.take_of_length_le (by omega)]
  · rw [if_neg hm, if_neg hm, if_neg (by omega), List.take_of_length_le (l := List.drop _ g) (by rw [List.length_drop]; omega)]
theorem row_bd {g : List Nat} (hg : g.length = 8) : (rowE (zsG g) = (8, 0)) ∨ (2 ≤ (rowE (zsG g)).2 ∧ (rowE (zsG g)).1 + (rowE (zsG g)).2 ≤ 8) := by
  have hz : (zsG g).length = 8 := by simp [zsG, hg]
  obtain ⟨h1, h2, _⟩ := row_ok (zsG g) hz
  rw [h2]
  by_cases hm : (nouE (zsG g)).2 < 2
  · left; rw [if_pos hm]
  · right; rw [if_neg hm]; exact ⟨by omega, h1⟩
theorem map_allZ (g : List Nat) (hg : g.length = 8) : mapB g = (allZ (zsG g) 0 5 && (g.getD 5 0 == 65535)) := by
  match g, hg with
  | [a0, a1, a2, a3, a4, a5, a6, a7], _ =>
    simp [mapB, allZ, zsG, List.range_succ, Bool.and_assoc]
set_option maxHeartbeats 2000000 in
theorem mapped_any (f z : Int) (ip : List UInt8) (w : World) (hip : ip.length = 16) :
    Calls Tryd.prog 21 #[adV f ip z] w fun e w' => e = .returned (.bool (mapB (groupsG ip))) ∧ Below w.heap.size w w' := by
  have S := Ats.start w
  have h1 : ∀ w, Calls Tryd.prog 37 #[adV f ip z, .int .i64 0, .int .i64 5] w fun e w' => e = .returned (.bool (allZ (zsG (groupsG ip)) 0 5)) ∧ Below w.heap.size w w' := fun w => empty_any f z ip 0 5 w hip (by decide)
  have h2 : ∀ w, Calls Tryd.prog 20 #[adV f ip z, .int .i64 5] w fun e w' => e = .returned (.int .i64 ((groupsG ip).getD 5 0 : Nat)) ∧ Below w.heap.size w w' := fun w => refGroup_any f z ip 5 w hip (by decide)
  have hm := map_allZ (groupsG ip) (groupsG_len ip)
  obtain ⟨v, hv⟩ : ∃ v, v = (groupsG ip).getD 5 0 := ⟨_, rfl⟩
  obtain ⟨b, hb⟩ : ∃ b, b = allZ (zsG (groupsG ip)) 0 5 := ⟨_, rfl⟩
  obtain ⟨r, hr⟩ : ∃ r, r = mapB (groupsG ip) := ⟨_, rfl⟩
  rw [← hv] at h2 hm
  rw [← hb] at h1 hm
  rw [← hr] at hm ⊢
  have H1 := Lib.hid h1
  have H2 := Lib.hid h2
  clear h1 h2 hv hb hr
  obtain ⟨t, ht⟩ : ∃ t, t = (v == 65535) := ⟨_, rfl⟩
  have ht' : ((v : Int) == 65535) = t := by rw [ht, Bool.eq_iff_iff, beq_iff_eq, beq_iff_eq]; omega
  rw [← ht] at hm
  have HM := Lib.hid hm
  clear hm ht
  cases b with
  | true =>
    go_enter Tryd.func21, Tryd.ntmps21
    go_wp2_with (first
      | ((with_reducible show wpList _ _ _ (Oper.mk _ (Op.box _ _) _ _ _ _ :: _) _ _); refine wpList_boxS rfl _ _ rfl (adCs f ip z).toArray rfl S ?_; clear S; intro ga w1 S)
      | ((with_reducible refine (H1.out _).mono ?_); rintro e w2 ⟨rfl, hb⟩; have S := S.call hb; clear hb)
      | ((with_reducible refine (H2.out _).mono ?_); rintro e w2 ⟨rfl, hb⟩; have S := S.call hb; clear hb)
      | ((with_reducible show wpList _ _ _ (Oper.mk _ (Op.load _ _) _ _ _ _ :: _) _ _); refine wpList_loadS rfl _ _ rfl S _ rfl 0 _ _ rfl _ Tryd.underlying25 rfl (adSize _ _ _ hip) ?_))
    go_ret
    exact ⟨ret_bool (by rw [HM.out]; rfl), S.below⟩
  | false =>
    go_enter Tryd.func21, Tryd.ntmps21
    go_wp2_with (first
      | ((with_reducible show wpList _ _ _ (Oper.mk _ (Op.box _ _) _ _ _ _ :: _) _ _); refine wpList_boxS rfl _ _ rfl (adCs f ip z).toArray rfl S ?_; clear S; intro ga w1 S)
      | ((with_reducible refine (H1.out _).mono ?_); rintro e w2 ⟨rfl, hb⟩; have S := S.call hb; clear hb)
      | ((with_reducible refine (H2.out _).mono ?_); rintro e w2 ⟨rfl, hb⟩; have S := S.call hb; clear hb)
      | ((with_reducible show wpList _ _ _ (Oper.mk _ (Op.load _ _) _ _ _ _ :: _) _ _); refine wpList_loadS rfl _ _ rfl S _ rfl 0 _ _ rfl _ Tryd.underlying25 rfl (adSize _ _ _ hip) ?_))
    go_ret
    exact ⟨ret_bool (by rw [HM.out]; rfl), S.below⟩
set_option maxHeartbeats 4000000 in
theorem refText_any8 (f z : Int) (ip : List UInt8) (w : World) (hip : ip.length = 16) (hz0 : -9223372036854775808 ≤ z) (hz : z ≤ 9223372036854775807) :
    Calls Tryd.prog 9 #[adV f ip z] w fun e w' => e = .returned (.string ⟨(textC ip z).toArray⟩) ∧ Below w.heap.size w w' := by
  have S := Ats.start w
  have hdef : addrE ip = if mapB (groupsG ip) = true then mapT (ip.getD 12 0) (ip.getD 13 0) (ip.getD 14 0) (ip.getD 15 0) else coreE (groupsG ip) := rfl
  have htd : textC ip z = if 0 < z then addrE ip ++ 37 :: Lib.itoa z else addrE ip := rfl
  have hal := addr_len ip
  have hGl := groupsG_len ip
  have hGb := groupsG_lt ip
  have hmp := fun w => mapped_any f z ip w hip
  have hrw := fun w => row_any f z ip w hip
  have hgr := fun k w (h : k < 8) => refGroup_any f z ip k w hip h
  obtain ⟨G, hGG⟩ : ∃ G, G = groupsG ip := ⟨_, rfl⟩
  rw [← hGG] at hdef hGl hGb hmp hrw hgr
  clear hGG
  have hbd := row_bd hGl
  have hend := txt_end hGl
  have hof := fun w => refOf_any (ip.getD 12 0) (ip.getD 13 0) (ip.getD 14 0) (ip.getD 15 0) w
  have htx := fun w => refText_any 4 0 (quad16 (ip.getD 12 0) (ip.getD 13 0) (ip.getD 14 0) (ip.getD 15 0)) w rfl
  have hql := (quadT_len (ip.getD 12 0) (ip.getD 13 0) (ip.getD 14 0) (ip.getD 15 0)).1
  simp only [quad4_text] at htx
  obtain ⟨b12, b13, b14, b15⟩ := ad_bytes4 f z ip hip
  unfold mapT at hdef
  obtain ⟨q, hq⟩ : ∃ q, q = quadT (ip.getD 12 0) (ip.getD 13 0) (ip.getD 14 0) (ip.getD 15 0) := ⟨_, rfl⟩
  rw [← hq] at hdef htx hql
  obtain ⟨x12, h12⟩ : ∃ x, x = ip.getD 12 0 := ⟨_, rfl⟩
  obtain ⟨x13, h13⟩ : ∃ x, x = ip.getD 13 0 := ⟨_, rfl⟩
  obtain ⟨x14, h14⟩ : ∃ x, x = ip.getD 14 0 := ⟨_, rfl⟩
  obtain ⟨x15, h15⟩ : ∃ x, x = ip.getD 15 0 := ⟨_, rfl⟩
  rw [← h12, ← h13, ← h14, ← h15] at hof htx
  rw [← h12] at b12
  rw [← h13] at b13
  rw [← h14] at b14
  rw [← h15] at b15
  have c12 := UInt8.toNat_lt x12
  have c13 := UInt8.toNat_lt x13
  have c14 := UInt8.toNat_lt x14
  have c15 := UInt8.toNat_lt x15
  have hW := wrapU8
  have hzc := ad_zone f z ip hip
  obtain ⟨fr, hfr⟩ : ∃ fr, fr = (rowE (zsG G)).1 := ⟨_, rfl⟩
  obtain ⟨m, hm⟩ : ∃ m, m = (rowE (zsG G)).2 := ⟨_, rfl⟩
  have hb1 : (fr = 8 ∧ m = 0) ∨ (2 ≤ m ∧ fr + m ≤ 8) := by
    rw [hfr, hm]
    rcases hbd with h | ⟨h1, h2⟩
    · left; rw [h]; exact ⟨rfl, rfl⟩
    · right; exact ⟨h1, h2⟩
  rw [← hfr, ← hm] at hend hrw
  have HM := Lib.hid hmp
  have HR := Lib.hid hrw
  have HG := Lib.hid hgr
  have HO := Lib.hid hof
  have HT := Lib.hid htx
  have HE := Lib.hid hend
  have HD := Lib.hid hdef
  have HZ := Lib.hid htd
  have HB := Lib.hid hb1
  clear hmp hrw hgr hof htx hend hdef htd hb1 hbd hfr hm h12 h13 h14 h15 hq
  go_enter Tryd.func9, Tryd.ntmps9
  go_wp2_with (first
    | ((with_reducible show wpList _ _ _ (Oper.mk _ (Op.box _ _) _ _ _ _ :: _) _ _); refine wpList_boxS rfl _ _ rfl (adCs f ip z).toArray rfl S ?_; clear S; intro ga w1 S)
    | ((with_reducible refine (HR.out _).mono ?_); rintro e w2 ⟨rfl, hb⟩; have S := S.call hb; clear hb)
    | ((with_reducible show wpList _ _ _ (Oper.mk _ (Op.load _ _) _ _ _ _ :: _) _ _); refine wpList_loadS rfl _ _ rfl S _ rfl 0 _ _ rfl _ Tryd.underlying25 rfl (adSize _ _ _ hip) ?_))
  go_loopw [3, 6] (fun s i wr => ∃ k : Nat, i = .int .i64 k ∧ k ≤ 8 ∧ s = .string ⟨(txtK G fr m k).toArray⟩ ∧ Ats w.heap.size w wr [(ga, 25, (adCs f ip z).toArray)]) (fun _ i _ => 8 - (intOf i).toNat)
  case atStart => exact ⟨0, rfl, Nat.zero_le _, by unfold txtK; rw [if_pos (Nat.zero_le _)]; rfl, S⟩
  case round =>
    obtain ⟨k, rfl, hk, rfl, S⟩ := hrel
    by_cases hlt : k < 8
    · have hg := HG.out k wr hlt
      have hv : G.getD k 0 < 65536 := by
        rw [List.getD_eq_getElem?_getD, List.getElem?_eq_getElem (show k < G.length by omega)]
        exact hGb _ (List.getElem_mem _)
      have hx := fun w => refHexN_any (G.getD k 0) w hv
      have ha0 := txt_a0 (g := G) (f := fr) (m := m) (by omega)
      have hna := txt_a (g := G) (f := fr) (m := m) (k := k) (by omega)
      have hnb := txt_b (g := G) (f := fr) (m := m)
      have hnc := txt_c (g := G) (f := fr) (m := m) (k := k)
      have hnd := txt_d (g := G) (f := fr) (m := m) (k := k) (by omega)
      have hne := txt_e (g := G) (f := fr) (m := m) (k := k) (by omega)
      have hl := txt_len fr m k hGl hGb
      have hh4 := hexL_len4 hv
      obtain ⟨v, hvv⟩ : ∃ v, v = G.getD k 0 := ⟨_, rfl⟩
      rw [← hvv] at hg hx hna hnd hne hh4
      have HGk := Lib.hid hg
      have HX := Lib.hid hx
      have hwr : IntKind.i64.wrap ((fr : Int) + m) = fr + m := IntWalk.i64_in _ (by rcases HB.out with h | h <;> omega)
      obtain ⟨h, hh⟩ : ∃ h, h = hexL v := ⟨_, rfl⟩
      rw [← hh] at HX hna hnd hne hh4
      have hb := HB.out
      clear hg hx
      have h00 : k = 0 → 0 < fr → txtK G fr m (k + 1) = h := fun e hf => by subst e; rw [hh, hvv]; exact ha0 hf
      clear ha0
      rcases Nat.lt_trichotomy k fr with hA | hB | hC
      · by_cases h0 : k = 0
        · have t18 : decide ((fr : Int) ≤ k) = false := by rw [decide_eq_false_iff_not]; omega
          have t32 : decide ((0 : Int) < k) = false := by rw [decide_eq_false_iff_not]; omega
          have t32n : decide (0 < k) = false := by rw [decide_eq_false_iff_not]; omega
          have hk0 : txtK G fr m k = [] := by subst h0; unfold txtK; rw [if_pos (Nat.zero_le _)]; rfl
          have HQ := Lib.hid (show txtK G fr m (k + 1) = txtK G fr m k ++ h by rw [hk0, h00 h0 (by omega)]; rfl)
          clear hb hna hnb hnc hnd hne h00 hh hvv hk0 h0
          go_wp2_with (first
            | ((with_reducible refine HGk.out.mono ?_); rintro e w2 ⟨rfl, hb⟩; have S := S.call hb; clear hb)
            | ((with_reducible refine (HX.out _).mono ?_); rintro e w2 ⟨rfl, hq⟩; subst hq)
            | ((with_reducible show wpList _ _ _ (Oper.mk _ (Op.load _ _) _ _ _ _ :: _) _ _); refine wpList_loadS rfl _ _ rfl S _ rfl 0 _ _ rfl _ Tryd.underlying25 rfl (adSize _ _ _ hip) ?_))
          go_roundw
          case rel => exact ⟨k + 1, by go_num, by omega, ret_s (by rw [HQ.out]; try simp [ByteArray.mk_append_mk]), S⟩
          case measure => simp [intOf]; omega
        · have t18 : decide ((fr : Int) ≤ k) = false := by rw [decide_eq_false_iff_not]; omega
          have t32 : decide ((0 : Int) < k) = true := by rw [decide_eq_true_eq]; omega
          have t38 : ((k : Int) != fr + m) = true := by rw [bne_iff_ne]; omega
          have HQ := Lib.hid (hna (by omega) (by omega))
          clear hb hna hnb hnc hnd hne h00 hh hvv
          go_wp2_with (first
            | ((with_reducible refine HGk.out.mono ?_); rintro e w2 ⟨rfl, hb⟩; have S := S.call hb; clear hb)
            | ((with_reducible refine (HX.out _).mono ?_); rintro e w2 ⟨rfl, hq⟩; subst hq)
            | ((with_reducible show wpList _ _ _ (Oper.mk _ (Op.load _ _) _ _ _ _ :: _) _ _); refine wpList_loadS rfl _ _ rfl S _ rfl 0 _ _ rfl _ Tryd.underlying25 rfl (adSize _ _ _ hip) ?_))
          go_roundw
          case rel => exact ⟨k + 1, by go_num, by omega, ret_s (by rw [HQ.out]; try simp [ByteArray.mk_append_mk]), S⟩
          case measure => simp [intOf]; omega
      · have t18 : decide ((fr : Int) ≤ k) = true := by rw [decide_eq_true_eq]; omega
        have t24 : decide ((k : Int) < fr + m) = true := by rw [decide_eq_true_eq]; omega
        have t28 : ((k : Int) == fr) = true := by rw [beq_iff_eq]; omega
        have t28n : (k == fr) = true := by rw [beq_iff_eq]; omega
        have i1 : fr ≤ k := by omega
        have i2 : k < fr + m := by omega
        have HQ := Lib.hid (show txtK G fr m (k + 1) = txtK G fr m k ++ [58, 58] by subst hB; exact hnb (by omega))
        clear hb hna hnb hnc hnd hne h00 hh hvv hB
        go_wp2_with (first
          | ((with_reducible refine HGk.out.mono ?_); rintro e w2 ⟨rfl, hb⟩; have S := S.call hb; clear hb)
          | ((with_reducible refine (HX.out _).mono ?_); rintro e w2 ⟨rfl, hq⟩; subst hq)
          | ((with_reducible show wpList _ _ _ (Oper.mk _ (Op.load _ _) _ _ _ _ :: _) _ _); refine wpList_loadS rfl _ _ rfl S _ rfl 0 _ _ rfl _ Tryd.underlying25 rfl (adSize _ _ _ hip) ?_))
        go_roundw
        case rel => exact ⟨k + 1, by go_num, by omega, ret_s (by rw [HQ.out]; try simp [ByteArray.mk_append_mk]), S⟩
        case measure => simp [intOf]; omega
      · rcases Nat.lt_trichotomy k (fr + m) with hC2 | hD | hE
        · have t18 : decide ((fr : Int) ≤ k) = true := by rw [decide_eq_true_eq]; omega
          have t24 : decide ((k : Int) < fr + m) = true := by rw [decide_eq_true_eq]; omega
          have t28 : ((k : Int) == fr) = false := by rw [beq_eq_false_iff_ne]; omega
          have HQ := Lib.hid (hnc (by omega) (by omega))
          clear hb hna hnb hnc hnd hne h00 hh hvv
          go_wp2_with (first
            | ((with_reducible refine HGk.out.mono ?_); rintro e w2 ⟨rfl, hb⟩; have S := S.call hb; clear hb)
            | ((with_reducible refine (HX.out _).mono ?_); rintro e w2 ⟨rfl, hq⟩; subst hq)
            | ((with_reducible show wpList _ _ _ (Oper.mk _ (Op.load _ _) _ _ _ _ :: _) _ _); refine wpList_loadS rfl _ _ rfl S _ rfl 0 _ _ rfl _ Tryd.underlying25 rfl (adSize _ _ _ hip) ?_))
          go_roundw
          case rel => exact ⟨k + 1, by go_num, by omega, ret_s (by rw [HQ.out]; try simp [ByteArray.mk_append_mk]), S⟩
          case measure => simp [intOf]; omega
        · have t18 : decide ((fr : Int) ≤ k) = true := by rw [decide_eq_true_eq]; omega
          have t24 : decide ((k : Int) < fr + m) = false := by rw [decide_eq_false_iff_not]; omega
          have t32 : decide ((0 : Int) < k) = true := by rw [decide_eq_true_eq]; omega
          have t38 : ((k : Int) != fr + m) = false := by rw [bne_eq_false_iff_eq]; omega
          have HQ := Lib.hid (hnd (by omega) hD)
          clear hb hna hnb hnc hnd hne h00 hh hvv hD
          go_wp2_with (first
            | ((with_reducible refine HGk.out.mono ?_); rintro e w2 ⟨rfl, hb⟩; have S := S.call hb; clear hb)
            | ((with_reducible refine (HX.out _).mono ?_); rintro e w2 ⟨rfl, hq⟩; subst hq)
            | ((with_reducible show wpList _ _ _ (Oper.mk _ (Op.load _ _) _ _ _ _ :: _) _ _); refine wpList_loadS rfl _ _ rfl S _ rfl 0 _ _ rfl _ Tryd.underlying25 rfl (adSize _ _ _ hip) ?_))
          go_roundw
          case rel => exact ⟨k + 1, by go_num, by omega, ret_s (by rw [HQ.out]; try simp [ByteArray.mk_append_mk]), S⟩
          case measure => simp [intOf]; omega
        · have t18 : decide ((fr : Int) ≤ k) = true := by rw [decide_eq_true_eq]; omega
          have t24 : decide ((k : Int) < fr + m) = false := by rw [decide_eq_false_iff_not]; omega
          have t32 : decide ((0 : Int) < k) = true := by rw [decide_eq_true_eq]; omega
          have t38 : ((k : Int) != fr + m) = true := by rw [bne_iff_ne]; omega
          have HQ := Lib.hid (hne (by omega) (by omega))
          clear hb hna hnb hnc hnd hne h00 hh hvv
          go_wp2_with (first
            | ((with_reducible refine HGk.out.mono ?_); rintro e w2 ⟨rfl, hb⟩; have S := S.call hb; clear hb)
            | ((with_reducible refine (HX.out _).mono ?_); rintro e w2 ⟨rfl, hq⟩; subst hq)
            | ((with_reducible show wpList _ _ _ (Oper.mk _ (Op.load _ _) _ _ _ _ :: _) _ _); refine wpList_loadS rfl _ _ rfl S _ rfl 0 _ _ rfl _ Tryd.underlying25 rfl (adSize _ _ _ hip) ?_))
          go_roundw
          case rel => exact ⟨k + 1, by go_num, by omega, ret_s (by rw [HQ.out]; try simp [ByteArray.mk_append_mk]), S⟩
          case measure => simp [intOf]; omega
    · obtain rfl : k = 8 := by omega
      rw [HE.out]
      have hcl : (coreE G).length ≤ 100 := by rw [← HE.out]; exact txt_len fr m 8 hGl hGb
      obtain ⟨t, ht⟩ : ∃ t, t = Lib.itoa z := ⟨_, rfl⟩
      obtain ⟨r, hr⟩ : ∃ r, r = mapB G := ⟨_, rfl⟩
      obtain ⟨cg, hcg⟩ : ∃ cg, cg = coreE G := ⟨_, rfl⟩
      have hZ := HZ.out
      have hD := HD.out
      rw [← ht] at hZ
      rw [← hr, ← hcg] at hD
      rw [← hr] at HM
      rw [← hcg] at hcl ⊢
      by_cases h0 : 0 < z
      · have d0 : decide ((0 : Int) < z) = true := decide_eq_true h0
        rw [if_pos h0] at hZ
        have hdg := fun w => refDigits_any z w hz0 hz
        have hdl := itoa_len20 z (by omega) hz
        rw [← ht] at hdg hdl
        have HN := Lib.hid hdg
        cases r with
        | true =>
          rw [if_pos rfl] at hD
          rw [hD] at hZ
          have HF := Lib.hid hZ
          clear hdg h0 hZ hD ht hr hcg HE HB
          go_wp2_with (first
            | ((with_reducible refine (HM.out _).mono ?_); rintro e w2 ⟨rfl, hb⟩; have S := S.call hb; clear hb)
            | ((with_reducible refine (HO.out _).mono ?_); rintro e w2 ⟨rfl, hb⟩; have S := S.call hb; clear hb)
            | ((with_reducible refine (HT.out _).mono ?_); rintro e w2 ⟨rfl, hb⟩; have S := S.call hb; clear hb)
            | ((with_reducible refine (HN.out _).mono ?_); rintro e w2 ⟨rfl, hq⟩; subst hq)
            | ((with_reducible show wpList _ _ _ (Oper.mk _ (Op.load _ _) _ _ _ _ :: _) _ _); refine wpList_loadS rfl _ _ rfl S _ rfl 0 _ _ rfl _ Tryd.underlying25 rfl (adSize _ _ _ hip) ?_)
            | ((with_reducible show wpList _ _ _ (Oper.mk _ (Op.load _ _) _ _ _ _ :: _) _ _); refine wpList_cellS rfl _ _ rfl S _ _ rfl 0 _ _ rfl _ Tryd.underlying5 rfl _ (by with_reducible first | exact b12 | exact b13 | exact b14 | exact b15) ?_)
            | ((with_reducible show wpList _ _ _ (Oper.mk _ (Op.load _ _) _ _ _ _ :: _) _ _); refine wpList_cellS rfl _ _ rfl S _ _ rfl 0 _ _ rfl _ Tryd.underlying3 rfl _ (by with_reducible exact hzc) ?_))
          go_ret
          exact ⟨ret_str (by rw [HF.out]; simp [ByteArray.mk_append_mk]), S.below⟩
        | false =>
          rw [if_neg (by simp)] at hD
          rw [hD] at hZ
          have HF := Lib.hid hZ
          clear hdg h0 hZ hD ht hr hcg HE HB
          go_wp2_with (first
            | ((with_reducible refine (HM.out _).mono ?_); rintro e w2 ⟨rfl, hb⟩; have S := S.call hb; clear hb)
            | ((with_reducible refine (HN.out _).mono ?_); rintro e w2 ⟨rfl, hq⟩; subst hq)
            | ((with_reducible show wpList _ _ _ (Oper.mk _ (Op.load _ _) _ _ _ _ :: _) _ _); refine wpList_loadS rfl _ _ rfl S _ rfl 0 _ _ rfl _ Tryd.underlying25 rfl (adSize _ _ _ hip) ?_)
            | ((with_reducible show wpList _ _ _ (Oper.mk _ (Op.load _ _) _ _ _ _ :: _) _ _); refine wpList_cellS rfl _ _ rfl S _ _ rfl 0 _ _ rfl _ Tryd.underlying3 rfl _ (by with_reducible exact hzc) ?_))
          go_ret
          exact ⟨ret_str (by rw [HF.out]; simp [ByteArray.mk_append_mk]), S.below⟩
      · have d0 : decide ((0 : Int) < z) = false := decide_eq_false h0
        rw [if_neg h0] at hZ
        cases r with
        | true =>
          rw [if_pos rfl] at hD
          rw [hD] at hZ
          have HF := Lib.hid hZ
          clear h0 hZ hD ht hr hcg HE HB
          go_wp2_with (first
            | ((with_reducible refine (HM.out _).mono ?_); rintro e w2 ⟨rfl, hb⟩; have S := S.call hb; clear hb)
            | ((with_reducible refine (HO.out _).mono ?_); rintro e w2 ⟨rfl, hb⟩; have S := S.call hb; clear hb)
            | ((with_reducible refine (HT.out _).mono ?_); rintro e w2 ⟨rfl, hb⟩; have S := S.call hb; clear hb)
            | ((with_reducible show wpList _ _ _ (Oper.mk _ (Op.load _ _) _ _ _ _ :: _) _ _); refine wpList_loadS rfl _ _ rfl S _ rfl 0 _ _ rfl _ Tryd.underlying25 rfl (adSize _ _ _ hip) ?_)
            | ((with_reducible show wpList _ _ _ (Oper.mk _ (Op.load _ _) _ _ _ _ :: _) _ _); refine wpList_cellS rfl _ _ rfl S _ _ rfl 0 _ _ rfl _ Tryd.underlying5 rfl _ (by with_reducible first | exact b12 | exact b13 | exact b14 | exact b15) ?_)
            | ((with_reducible show wpList _ _ _ (Oper.mk _ (Op.load _ _) _ _ _ _ :: _) _ _); refine wpList_cellS rfl _ _ rfl S _ _ rfl 0 _ _ rfl _ Tryd.underlying3 rfl _ (by with_reducible exact hzc) ?_))
          go_ret
          exact ⟨ret_str (by rw [HF.out]; simp [ByteArray.mk_append_mk]), S.below⟩
        | false =>
          rw [if_neg (by simp)] at hD
          rw [hD] at hZ
          have HF := Lib.hid hZ
          clear h0 hZ hD ht hr hcg HE HB
          go_wp2_with (first
            | ((with_reducible refine (HM.out _).mono ?_); rintro e w2 ⟨rfl, hb⟩; have S := S.call hb; clear hb)
            | ((with_reducible show wpList _ _ _ (Oper.mk _ (Op.load _ _) _ _ _ _ :: _) _ _); refine wpList_loadS rfl _ _ rfl S _ rfl 0 _ _ rfl _ Tryd.underlying25 rfl (adSize _ _ _ hip) ?_)
            | ((with_reducible show wpList _ _ _ (Oper.mk _ (Op.load _ _) _ _ _ _ :: _) _ _); refine wpList_cellS rfl _ _ rfl S _ _ rfl 0 _ _ rfl _ Tryd.underlying3 rfl _ (by with_reducible exact hzc) ?_))
          go_ret
          exact ⟨ret_str (by rw [HF.out]), S.below⟩
end Go.Proofs.YtkchgjakkogejaaDoor
