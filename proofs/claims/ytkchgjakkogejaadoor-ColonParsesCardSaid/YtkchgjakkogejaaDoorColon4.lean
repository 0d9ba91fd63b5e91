/- Layer 8: colon.address. -/
import Derived.Test.YtkchgjakkogejaaDoorColon3
import Derived.Test.YtkchgjakkogejaaDoorMemQuiet
namespace Go.Proofs.YtkchgjakkogejaaDoor
open Go.RowKit Go
set_option linter.unusedVariables false
set_option maxRecDepth 100000
theorem slice8_all (g : Nat) (w : World) : (Instr.sliceAt 56 (.pointer (some ⟨g, 0, none⟩)) none none none).run Tryd.prog w = .ok (.slice (some ⟨g, 0, none⟩) 8 8) w := by
  have ha : Tryd.prog.arrayLen 56 = 8 := by kernel_rfl
  have he : Tryd.prog.elem 56 = 55 := by kernel_rfl
  rw [run_sliceAt_array_all w 56 _ (by kernel_rfl), he, Tryd.sizeOf55]
  simp [slicedAt, ha, Result.andThen, Addr.add]
theorem slice8_h (g f : Nat) (h : f ≤ 8) (w : World) : (Instr.sliceAt 56 (.pointer (some ⟨g, 0, none⟩)) none (some (.int .i64 f)) none).run Tryd.prog w = .ok (.slice (some ⟨g, 0, none⟩) f 8) w := by
  have ha : Tryd.prog.arrayLen 56 = 8 := by kernel_rfl
  have he : Tryd.prog.elem 56 = 55 := by kernel_rfl
  rw [run_sliceAt_array_h w 56 _ (by kernel_rfl) .i64 f (by omega) (by rw [ha]; omega), he, Tryd.sizeOf55]
  simp [slicedAt, ha, Result.andThen, Addr.add]
def at8 (g l : Nat) : Addr := if l = 8 then ⟨g, 0, none⟩ else ⟨g, l, none⟩
theorem slice8_l (g l : Nat) (h : l ≤ 8) (w : World) : (Instr.sliceAt 56 (.pointer (some ⟨g, 0, none⟩)) (some (.int .i64 l)) none none).run Tryd.prog w = .ok (.slice (some (at8 g l)) (8 - l) (8 - l)) w := by
  have ha : Tryd.prog.arrayLen 56 = 8 := by kernel_rfl
  have he : Tryd.prog.elem 56 = 55 := by kernel_rfl
  rw [run_sliceAt_array_l w 56 _ (by kernel_rfl) .i64 l (by omega) (by rw [ha]; omega), he, Tryd.sizeOf55]
  simp [slicedAt, ha, Result.andThen, Addr.add, at8]
  by_cases h8 : l = 8
  · rw [if_pos h8.symm, if_pos h8]
  · rw [if_neg (Ne.symm h8), if_neg h8]
    by_cases h0 : l = 0
    · rw [if_pos h0, h0]
    · rw [if_neg h0]
theorem ints8_h {w : World} {b t : Nat} {G : List Nat} (A : At w b t (gVs G)) (f : Nat) (hf : f ≤ G.length) : IntsAt w .u64 (some ⟨b, 0, none⟩) f (gInts (G.take f)) := by
  refine ⟨by simp [gInts]; omega, fun _ => ⟨b, 0, rfl, A.lt, fun j hj => ?_⟩⟩
  have hjf : j < f := by simp [gInts] at hj; omega
  rw [Nat.zero_add]
  refine A.cells j ?_
  rw [gVs_at (List.getElem?_eq_getElem (show j < G.length by omega))]
  simp [gInts]
theorem ints8_l {w : World} {b t : Nat} {G : List Nat} (A : At w b t (gVs G)) (l : Nat) (hG : G.length = 8) (hl : l ≤ 8) : IntsAt w .u64 (some (at8 b l)) (8 - l) (gInts (G.drop l)) := by
  refine ⟨by simp [gInts]; omega, fun h0 => ⟨b, l, by unfold at8; rw [if_neg (by omega)], A.lt, fun j hj => ?_⟩⟩
  have hjf : l + j < 8 := by simp [gInts] at hj; omega
  refine A.cells (l + j) ?_
  rw [gVs_at (List.getElem?_eq_getElem (show l + j < G.length by omega))]
  simp [gInts]
theorem ad_bytes4 (f z : Int) (ip : List UInt8) (h : ip.length = 16) :
    (adCs f ip z).toArray[13]? = some (.int .u8 (ip.getD 12 0).toNat) ∧ (adCs f ip z).toArray[14]? = some (.int .u8 (ip.getD 13 0).toNat) ∧ (adCs f ip z).toArray[15]? = some (.int .u8 (ip.getD 14 0).toNat) ∧ (adCs f ip z).toArray[16]? = some (.int .u8 (ip.getD 15 0).toNat) := by
  have h6 := ad_two f z ip 6 h (by decide)
  have h7 := ad_two f z ip 7 h (by decide)
  exact ⟨h6.1, h6.2, h7.1, h7.2⟩
theorem quad4_text (a b c d : UInt8) : quadI (quad16 a b c d) = quadT a b c d := rfl
set_option maxHeartbeats 4000000 in
theorem address_any8 (f z : Int) (ip : List UInt8) (w : World) (hip : ip.length = 16) (hP : P10 w) (hD : DB w) :
    Calls Tryd.prog 16 #[adV f ip z] w fun e w' => e = .returned (.string ⟨(addrE ip).toArray⟩) ∧ Below w.heap.size w w' := by
  have S := Ats.start w
  have hGl := groupsG_len ip
  have hGb := groupsG_lt ip
  obtain ⟨b12, b13, b14, b15⟩ := ad_bytes4 f z ip hip
  have hdef : addrE ip = if mapB (groupsG ip) = true then mapT (ip.getD 12 0) (ip.getD 13 0) (ip.getD 14 0) (ip.getD 15 0) else coreE (groupsG ip) := rfl
  have hgr := fun w => groups_any f z ip w hip
  obtain ⟨G, hGG⟩ : ∃ G, G = groupsG ip := ⟨_, rfl⟩
  rw [← hGG] at hGl hGb hdef hgr
  have hPd : ∀ wr L, Ats w.heap.size w wr L → P10 wr := fun wr L h => hP.below (Nat.le_refl _) h.below
  have hDd : ∀ wr L, Ats w.heap.size w wr L → DB wr := fun wr L h => hD.below (Nat.le_refl _) h.below
  have HPd := Lib.hid hPd
  have HDd := Lib.hid hDd
  have HG := Lib.hid hgr
  have HB := Lib.hid hGb
  clear hPd hDd hgr hGG
  obtain ⟨n0, n1, n2, n3, n4, n5, n6, n7, rfl⟩ : ∃ n0 n1 n2 n3 n4 n5 n6 n7, G = [n0, n1, n2, n3, n4, n5, n6, n7] := by
    match G, hGl with
    | [n0, n1, n2, n3, n4, n5, n6, n7], _ => exact ⟨n0, n1, n2, n3, n4, n5, n6, n7, rfl⟩
  have b0 := hGb n0 (by simp)
  have b1 := hGb n1 (by simp)
  have b2 := hGb n2 (by simp)
  have b3 := hGb n3 (by simp)
  have b4 := hGb n4 (by simp)
  have or_lt : ∀ a b : Nat, a < 65536 → b < 65536 → a ||| b < 65536 := fun a b ha hb => Nat.or_lt_two_pow (n := 16) ha hb
  have q1 := u64_or_nat n0 n1 (by omega) (by omega)
  have l1 := or_lt _ _ b0 b1
  have q2 := u64_or_nat (n0 ||| n1) n2 (by omega) (by omega)
  have l2 := or_lt _ _ l1 b2
  have q3 := u64_or_nat (n0 ||| n1 ||| n2) n3 (by omega) (by omega)
  have l3 := or_lt _ _ l2 b3
  have q4 := u64_or_nat (n0 ||| n1 ||| n2 ||| n3) n4 (by omega) (by omega)
  have hor : (n0 ||| n1 ||| n2 ||| n3 ||| n4 = 0) ↔ (n0 = 0 ∧ n1 = 0 ∧ n2 = 0 ∧ n3 = 0 ∧ n4 = 0) := by
    rw [Nat.or_eq_zero_iff, Nat.or_eq_zero_iff, Nat.or_eq_zero_iff, Nat.or_eq_zero_iff]
    constructor
    · rintro ⟨⟨⟨⟨a, b⟩, c⟩, d⟩, e⟩; exact ⟨a, b, c, d, e⟩
    · rintro ⟨a, b, c, d, e⟩; exact ⟨⟨⟨⟨a, b⟩, c⟩, d⟩, e⟩
  obtain ⟨m, hm⟩ : ∃ m, m = n0 ||| n1 ||| n2 ||| n3 ||| n4 := ⟨_, rfl⟩
  rw [← hm] at q4 hor
  have hmap : mapB [n0, n1, n2, n3, n4, n5, n6, n7] = (decide (m = 0) && decide (n5 = 65535)) := by
    rw [Bool.eq_iff_iff]
    simp only [mapB, List.take_succ_cons, List.take_zero, List.all_cons, List.all_nil, Bool.and_true, Bool.and_eq_true, beq_iff_eq, List.getD_cons_succ, List.getD_cons_zero, decide_eq_true_eq]
    rw [hor]
  have hsz : (Tryd.prog.info? 56).map (·.size) = some (gVs [n0, n1, n2, n3, n4, n5, n6, n7]).size := g8Size _ rfl
  have C0 : (gVs [n0, n1, n2, n3, n4, n5, n6, n7])[0]? = some (.int .u64 n0) := rfl
  have C1 : (gVs [n0, n1, n2, n3, n4, n5, n6, n7])[1]? = some (.int .u64 n1) := rfl
  have C2 : (gVs [n0, n1, n2, n3, n4, n5, n6, n7])[2]? = some (.int .u64 n2) := rfl
  have C3 : (gVs [n0, n1, n2, n3, n4, n5, n6, n7])[3]? = some (.int .u64 n3) := rfl
  have C4 : (gVs [n0, n1, n2, n3, n4, n5, n6, n7])[4]? = some (.int .u64 n4) := rfl
  have C5 : (gVs [n0, n1, n2, n3, n4, n5, n6, n7])[5]? = some (.int .u64 n5) := rfl
  clear l1 l2 l3 or_lt hor hm b0 b1 b2 b3 b4 hGb
  by_cases h0 : m = 0
  · have t0 : ((m : Int) == 0) = true := by simpa using h0
    by_cases h5 : n5 = 65535
    · have t5 : ((n5 : Int) == 65535) = true := by rw [beq_iff_eq]; omega
      rw [if_pos (by rw [hmap]; simp [h0, h5])] at hdef
      have hof := fun w => of_any (ip.getD 12 0) (ip.getD 13 0) (ip.getD 14 0) (ip.getD 15 0) w
      have htx := fun w (h : P10 w) => text_any 4 0 (quad16 (ip.getD 12 0) (ip.getD 13 0) (ip.getD 14 0) (ip.getD 15 0)) w rfl h
      simp only [quad4_text] at htx
      have hql := (quadT_len (ip.getD 12 0) (ip.getD 13 0) (ip.getD 14 0) (ip.getD 15 0)).1
      unfold mapT at hdef
      obtain ⟨q, hq⟩ : ∃ q, q = quadT (ip.getD 12 0) (ip.getD 13 0) (ip.getD 14 0) (ip.getD 15 0) := ⟨_, rfl⟩
      rw [← hq] at hdef htx hql
      obtain ⟨x12, h12⟩ : ∃ x, x = ip.getD 12 0 := ⟨_, rfl⟩
      obtain ⟨x13, h13⟩ : ∃ x, x = ip.getD 13 0 := ⟨_, rfl⟩
      obtain ⟨x14, h14⟩ : ∃ x, x = ip.getD 14 0 := ⟨_, rfl⟩
      obtain ⟨x15, h15⟩ : ∃ x, x = ip.getD 15 0 := ⟨_, rfl⟩
      rw [← h12, ← h13, ← h14, ← h15] at hof htx
      rw [← h12] at b12
      rw [← h13] at b13
      rw [← h14] at b14
      rw [← h15] at b15
      have HE := Lib.hid hdef
      have HO := Lib.hid hof
      have HT := Lib.hid htx
      clear hdef hmap h0 h5 hof htx hq h12 h13 h14 h15
      go_enter Tryd.func16, Tryd.ntmps16
      go_wp2_with (first
        | ((with_reducible show wpList _ _ _ (Oper.mk _ (Op.box _ _) _ _ _ _ :: _) _ _); refine wpList_boxS rfl _ _ rfl (adCs f ip z).toArray rfl S ?_; clear S; intro ga w1 S)
        | ((with_reducible show wpList _ _ _ (Oper.mk (some 3) (Op.alloc _) _ _ _ _ :: _) _ _); refine wpList_allocS rfl _ rfl _ g8Zero S ?_; clear S; intro gg w1 S)
        | ((with_reducible refine (HG.out _).mono ?_); rintro e w2 ⟨rfl, hb⟩; have S := S.call hb; clear hb)
        | ((with_reducible refine (HO.out _).mono ?_); rintro e w2 ⟨rfl, hb⟩; have S := S.call hb; clear hb)
        | ((with_reducible refine (HT.out _ (HPd.out _ _ S)).mono ?_); rintro e w2 ⟨rfl, hb⟩; have S := S.call hb; clear hb)
        | ((with_reducible show wpList _ _ _ (Oper.mk _ (Op.load _ _) _ _ _ _ :: _) _ _); refine wpList_loadS rfl _ _ rfl S _ rfl 0 _ _ rfl _ Tryd.underlying25 rfl (adSize _ _ _ hip) ?_)
        | ((with_reducible show wpList _ _ _ (Oper.mk _ (Op.store _ _ _) _ _ _ _ :: _) _ _); refine wpList_storeS rfl _ _ _ rfl S _ rfl _ rfl 0 _ _ rfl hsz (by rfl) (by simp [gVs, u64V, Value.oneCell']) ?_; clear S; intro w1 S; (first | simp only [List.set_cons_zero] at S | simp only [List.set_cons_succ, List.set_cons_zero] at S | skip))
        | ((with_reducible show wpList _ _ _ (Oper.mk _ (Op.load _ _) _ _ _ _ :: _) _ _); refine wpList_cellS rfl _ _ rfl S _ _ rfl 0 _ _ rfl _ Tryd.underlying55 rfl _ (by with_reducible first | exact C0 | exact C1 | exact C2 | exact C3 | exact C4 | exact C5) ?_)
        | ((with_reducible show wpList _ _ _ (Oper.mk _ (Op.load _ _) _ _ _ _ :: _) _ _); refine wpList_cellS rfl _ _ rfl S _ _ rfl 1 _ _ rfl _ Tryd.underlying5 rfl _ (by with_reducible first | exact b12 | exact b13 | exact b14 | exact b15) ?_))
      go_ret
      exact ⟨ret_str (by rw [HE.out, ByteArray.mk_append_mk]; simp), S.below⟩
    · have t5 : ((n5 : Int) == 65535) = false := by rw [beq_eq_false_iff_ne]; omega
      rw [if_neg (by rw [hmap]; simp [h5])] at hdef
      have HE := Lib.hid hdef
      clear h5
      clear hdef hmap h0
      obtain ⟨r1, r2, r3⟩ := row_ok (zsG [n0, n1, n2, n3, n4, n5, n6, n7]) rfl
      clear r2 r3
      have hno := fun w => noughts_any [n0, n1, n2, n3, n4, n5, n6, n7] w rfl
      unfold coreE at HE
      obtain ⟨fr, hfr⟩ : ∃ fr, fr = (nouE (zsG [n0, n1, n2, n3, n4, n5, n6, n7])).1 := ⟨_, rfl⟩
      obtain ⟨mm, hmm⟩ : ∃ mm, mm = (nouE (zsG [n0, n1, n2, n3, n4, n5, n6, n7])).2 := ⟨_, rfl⟩
      rw [← hfr, ← hmm] at r1 hno HE
      have HN := Lib.hid hno
      clear hno hfr hmm
      by_cases h2 : mm < 2
      · rw [if_pos h2] at HE
        have hd : decide ((mm : Int) < 2) = true := by rw [decide_eq_true_eq]; omega
        have HW : Hid (∀ g L' wr, Ats w.heap.size w wr ((g, 56, gVs [n0, n1, n2, n3, n4, n5, n6, n7]) :: L') → Calls Tryd.prog 35 #[.slice (some ⟨g, 0, none⟩) 8 8] wr fun e w' => e = .returned (.string ⟨(joiX 58 (hexs [n0, n1, n2, n3, n4, n5, n6, n7])).toArray⟩) ∧ Below wr.heap.size wr w') :=
          Lib.hid (fun g L' wr S' => written_any _ 8 8 [n0, n1, n2, n3, n4, n5, n6, n7] wr (ints8_h (S'.get (i := 0) rfl) 8 (Nat.le_refl _)) (Nat.le_refl _) HB.out (HDd.out _ _ S'))
        have hsl := slice8_all
        clear h2
        go_enter Tryd.func16, Tryd.ntmps16
        go_wp2_with (first
          | ((with_reducible show wpList _ _ _ (Oper.mk _ (Op.box _ _) _ _ _ _ :: _) _ _); refine wpList_boxS rfl _ _ rfl (adCs f ip z).toArray rfl S ?_; clear S; intro ga w1 S)
          | ((with_reducible show wpList _ _ _ (Oper.mk (some 3) (Op.alloc _) _ _ _ _ :: _) _ _); refine wpList_allocS rfl _ rfl _ g8Zero S ?_; clear S; intro gg w1 S)
          | ((with_reducible refine (HG.out _).mono ?_); rintro e w2 ⟨rfl, hb⟩; have S := S.call hb; clear hb)
          | ((with_reducible refine (HN.out _).mono ?_); rintro e w2 ⟨rfl, hb⟩; have S := S.call hb; clear hb)
          | ((with_reducible refine (HW.out _ _ _ S).mono ?_); rintro e w2 ⟨rfl, hb⟩; have S := S.call hb; clear hb)
          | ((with_reducible show wpList _ _ _ (Oper.mk _ (Op.load _ _) _ _ _ _ :: _) _ _); refine wpList_loadS rfl _ _ rfl S _ rfl 0 _ _ rfl _ Tryd.underlying25 rfl (adSize _ _ _ hip) ?_)
          | ((with_reducible show wpList _ _ _ (Oper.mk _ (Op.load _ _) _ _ _ _ :: _) _ _); refine wpList_loadS rfl _ _ rfl S _ rfl 0 _ _ rfl _ Tryd.underlying56 rfl hsz ?_)
          | ((with_reducible show wpList _ _ _ (Oper.mk _ (Op.store _ _ _) _ _ _ _ :: _) _ _); refine wpList_storeS rfl _ _ _ rfl S _ rfl _ rfl 0 _ _ rfl hsz (by rfl) (by simp [gVs, u64V, Value.oneCell']) ?_; clear S; intro w1 S; (first | simp only [List.set_cons_zero] at S | simp only [List.set_cons_succ, List.set_cons_zero] at S | skip))
          | ((with_reducible show wpList _ _ _ (Oper.mk _ (Op.load _ _) _ _ _ _ :: _) _ _); refine wpList_cellS rfl _ _ rfl S _ _ rfl 0 _ _ rfl _ Tryd.underlying55 rfl _ (by with_reducible first | exact C0 | exact C1 | exact C2 | exact C3 | exact C4 | exact C5) ?_))
        go_ret
        exact ⟨ret_str (by rw [HE.out]), S.below⟩
      · rw [if_neg h2] at HE
        have hd : decide ((mm : Int) < 2) = false := by rw [decide_eq_false_iff_not]; omega
        have HW : Hid (∀ g L' wr, Ats w.heap.size w wr ((g, 56, gVs [n0, n1, n2, n3, n4, n5, n6, n7]) :: L') → Calls Tryd.prog 35 #[.slice (some ⟨g, 0, none⟩) fr 8] wr fun e w' => e = .returned (.string ⟨(joiX 58 (hexs (List.take fr [n0, n1, n2, n3, n4, n5, n6, n7]))).toArray⟩) ∧ Below wr.heap.size wr w') :=
          Lib.hid (fun g L' wr S' => written_any _ fr 8 _ wr (ints8_h (S'.get (i := 0) rfl) fr (show fr ≤ 8 by omega)) (by rw [List.length_take]; exact Nat.min_le_right _ _) (fun v hv => HB.out v (List.mem_of_mem_take hv)) (HDd.out _ _ S'))
        have HV : Hid (∀ g L' wr, Ats w.heap.size w wr ((g, 56, gVs [n0, n1, n2, n3, n4, n5, n6, n7]) :: L') → Calls Tryd.prog 35 #[.slice (some (at8 g (fr + mm))) (8 - (fr + mm)) (8 - (fr + mm))] wr fun e w' => e = .returned (.string ⟨(joiX 58 (hexs (List.drop (fr + mm) [n0, n1, n2, n3, n4, n5, n6, n7]))).toArray⟩) ∧ Below wr.heap.size wr w') :=
          Lib.hid (fun g L' wr S' => written_any _ (8 - (fr + mm)) _ _ wr (ints8_l (S'.get (i := 0) rfl) (fr + mm) rfl r1) (by rw [List.length_drop]; exact Nat.sub_le _ _) (fun v hv => HB.out v (List.mem_of_mem_drop hv)) (HDd.out _ _ S'))
        have k1 := hexs_len (List.take fr [n0, n1, n2, n3, n4, n5, n6, n7]) (fun v hv => HB.out v (List.mem_of_mem_take hv))
        have k2 := hexs_len (List.drop (fr + mm) [n0, n1, n2, n3, n4, n5, n6, n7]) (fun v hv => HB.out v (List.mem_of_mem_drop hv))
        have k1' : (List.take fr [n0, n1, n2, n3, n4, n5, n6, n7]).length ≤ 8 := by rw [List.length_take]; exact Nat.min_le_right _ _
        have k2' : (List.drop (fr + mm) [n0, n1, n2, n3, n4, n5, n6, n7]).length ≤ 8 := by rw [List.length_drop]; exact Nat.sub_le _ _
        replace k1 : (joiX 58 (hexs (List.take fr [n0, n1, n2, n3, n4, n5, n6, n7]))).length ≤ 40 := by omega
        replace k2 : (joiX 58 (hexs (List.drop (fr + mm) [n0, n1, n2, n3, n4, n5, n6, n7]))).length ≤ 40 := by omega
        obtain ⟨p1, hp1⟩ : ∃ p, p = joiX 58 (hexs (List.take fr [n0, n1, n2, n3, n4, n5, n6, n7])) := ⟨_, rfl⟩
        obtain ⟨p2, hp2⟩ : ∃ p, p = joiX 58 (hexs (List.drop (fr + mm) [n0, n1, n2, n3, n4, n5, n6, n7])) := ⟨_, rfl⟩
        rw [← hp1] at HW HE k1
        rw [← hp2] at HV HE k2
        clear hp1 hp2 k1' k2'
        have hs1 := fun g w => slice8_h g fr (by omega) w
        have hs2 := fun g w => slice8_l g (fr + mm) r1 w
        simp only [Int.natCast_add] at hs2
        have hwr : IntKind.i64.wrap ((fr : Int) + mm) = fr + mm := IntWalk.i64_in _ (by omega)
        clear h2
        go_enter Tryd.func16, Tryd.ntmps16
        go_wp2_with (first
          | ((with_reducible show wpList _ _ _ (Oper.mk _ (Op.box _ _) _ _ _ _ :: _) _ _); refine wpList_boxS rfl _ _ rfl (adCs f ip z).toArray rfl S ?_; clear S; intro ga w1 S)
          | ((with_reducible show wpList _ _ _ (Oper.mk (some 3) (Op.alloc _) _ _ _ _ :: _) _ _); refine wpList_allocS rfl _ rfl _ g8Zero S ?_; clear S; intro gg w1 S)
          | ((with_reducible refine (HG.out _).mono ?_); rintro e w2 ⟨rfl, hb⟩; have S := S.call hb; clear hb)
          | ((with_reducible refine (HN.out _).mono ?_); rintro e w2 ⟨rfl, hb⟩; have S := S.call hb; clear hb)
          | ((with_reducible refine (HW.out _ _ _ S).mono ?_); rintro e w2 ⟨rfl, hb⟩; have S := S.call hb; clear hb)
          | ((with_reducible show wpList _ _ _ (Oper.mk _ (Op.load _ _) _ _ _ _ :: _) _ _); refine wpList_loadS rfl _ _ rfl S _ rfl 0 _ _ rfl _ Tryd.underlying25 rfl (adSize _ _ _ hip) ?_)
          | ((with_reducible show wpList _ _ _ (Oper.mk _ (Op.load _ _) _ _ _ _ :: _) _ _); refine wpList_loadS rfl _ _ rfl S _ rfl 0 _ _ rfl _ Tryd.underlying56 rfl hsz ?_)
          | ((with_reducible show wpList _ _ _ (Oper.mk _ (Op.store _ _ _) _ _ _ _ :: _) _ _); refine wpList_storeS rfl _ _ _ rfl S _ rfl _ rfl 0 _ _ rfl hsz (by rfl) (by simp [gVs, u64V, Value.oneCell']) ?_; clear S; intro w1 S; (first | simp only [List.set_cons_zero] at S | simp only [List.set_cons_succ, List.set_cons_zero] at S | skip))
          | ((with_reducible show wpList _ _ _ (Oper.mk _ (Op.load _ _) _ _ _ _ :: _) _ _); refine wpList_cellS rfl _ _ rfl S _ _ rfl 0 _ _ rfl _ Tryd.underlying55 rfl _ (by with_reducible first | exact C0 | exact C1 | exact C2 | exact C3 | exact C4 | exact C5) ?_))
        (try simp only [Act.put, List.setIfInBounds_toArray, List.set_cons_succ, List.set_cons_zero]); refine quietS_region (by kernel_rfl) (by kernel_rfl) S ?_
        repeat (first
          | go_big_quiet_skip
          | (go_big_quiet_want
             first
               | ((with_reducible show Oper.quiet _ (Oper.mk (some 54) (Op.call { callee := Callee.value (Operand.func 35), args := _, argTypes := _ }) _ _ _ _) _ _ _); refine q_call 35 _ _ rfl (enters_of Tryd.func35 (by kernel_rfl) rfl) (fun w S => (((HW.out _ _ _ S)).mono fun e w2 h => ⟨h.1, S.call h.2⟩)) (by simp [Act.eval]) ?_)
               | ((with_reducible show Oper.quiet _ (Oper.mk (some 60) (Op.call { callee := Callee.value (Operand.func 35), args := _, argTypes := _ }) _ _ _ _) _ _ _); refine q_call 35 _ _ rfl (enters_of Tryd.func35 (by kernel_rfl) rfl) (fun w S => (((HV.out _ _ _ S)).mono fun e w2 h => ⟨h.1, S.call h.2⟩)) (by simp [Act.eval]) ?_)
               | (refine q_pure (v := ?_) ?_ ?_; rotate_left; focus (intro w; go_simp; rw [if_neg (by (simp; omega))]))
               | (refine q_pure (v := ?_) ?_ ?_; rotate_left; focus (intro w; go_simp; try with_reducible rfl))
             (simp only [Act.put, List.setIfInBounds_toArray, List.set_cons_succ, List.set_cons_zero]; go_big_quiet_on)))
        (refine wpQuiet_nil ?_; clear S; intro w1 S)
        go_wp2_with fail
        go_ret
        exact ⟨ret_str (by rw [HE.out, ByteArray.mk_append_mk, ByteArray.mk_append_mk]; simp), S.below⟩
  · have t0 : ((m : Int) == 0) = false := by simpa using h0
    rw [if_neg (by rw [hmap]; simp [h0])] at hdef
    have HE := Lib.hid hdef
    clear hdef hmap h0
    obtain ⟨r1, r2, r3⟩ := row_ok (zsG [n0, n1, n2, n3, n4, n5, n6, n7]) rfl
    clear r2 r3
    have hno := fun w => noughts_any [n0, n1, n2, n3, n4, n5, n6, n7] w rfl
    unfold coreE at HE
    obtain ⟨fr, hfr⟩ : ∃ fr, fr = (nouE (zsG [n0, n1, n2, n3, n4, n5, n6, n7])).1 := ⟨_, rfl⟩
    obtain ⟨mm, hmm⟩ : ∃ mm, mm = (nouE (zsG [n0, n1, n2, n3, n4, n5, n6, n7])).2 := ⟨_, rfl⟩
    rw [← hfr, ← hmm] at r1 hno HE
    have HN := Lib.hid hno
    clear hno hfr hmm
    by_cases h2 : mm < 2
    · rw [if_pos h2] at HE
      have hd : decide ((mm : Int) < 2) = true := by rw [decide_eq_true_eq]; omega
      have HW : Hid (∀ g L' wr, Ats w.heap.size w wr ((g, 56, gVs [n0, n1, n2, n3, n4, n5, n6, n7]) :: L') → Calls Tryd.prog 35 #[.slice (some ⟨g, 0, none⟩) 8 8] wr fun e w' => e = .returned (.string ⟨(joiX 58 (hexs [n0, n1, n2, n3, n4, n5, n6, n7])).toArray⟩) ∧ Below wr.heap.size wr w') :=
        Lib.hid (fun g L' wr S' => written_any _ 8 8 [n0, n1, n2, n3, n4, n5, n6, n7] wr (ints8_h (S'.get (i := 0) rfl) 8 (Nat.le_refl _)) (Nat.le_refl _) HB.out (HDd.out _ _ S'))
      have hsl := slice8_all
      clear h2
      go_enter Tryd.func16, Tryd.ntmps16
      go_wp2_with (first
        | ((with_reducible show wpList _ _ _ (Oper.mk _ (Op.box _ _) _ _ _ _ :: _) _ _); refine wpList_boxS rfl _ _ rfl (adCs f ip z).toArray rfl S ?_; clear S; intro ga w1 S)
        | ((with_reducible show wpList _ _ _ (Oper.mk (some 3) (Op.alloc _) _ _ _ _ :: _) _ _); refine wpList_allocS rfl _ rfl _ g8Zero S ?_; clear S; intro gg w1 S)
        | ((with_reducible refine (HG.out _).mono ?_); rintro e w2 ⟨rfl, hb⟩; have S := S.call hb; clear hb)
        | ((with_reducible refine (HN.out _).mono ?_); rintro e w2 ⟨rfl, hb⟩; have S := S.call hb; clear hb)
        | ((with_reducible refine (HW.out _ _ _ S).mono ?_); rintro e w2 ⟨rfl, hb⟩; have S := S.call hb; clear hb)
        | ((with_reducible show wpList _ _ _ (Oper.mk _ (Op.load _ _) _ _ _ _ :: _) _ _); refine wpList_loadS rfl _ _ rfl S _ rfl 0 _ _ rfl _ Tryd.underlying25 rfl (adSize _ _ _ hip) ?_)
        | ((with_reducible show wpList _ _ _ (Oper.mk _ (Op.load _ _) _ _ _ _ :: _) _ _); refine wpList_loadS rfl _ _ rfl S _ rfl 0 _ _ rfl _ Tryd.underlying56 rfl hsz ?_)
        | ((with_reducible show wpList _ _ _ (Oper.mk _ (Op.store _ _ _) _ _ _ _ :: _) _ _); refine wpList_storeS rfl _ _ _ rfl S _ rfl _ rfl 0 _ _ rfl hsz (by rfl) (by simp [gVs, u64V, Value.oneCell']) ?_; clear S; intro w1 S; (first | simp only [List.set_cons_zero] at S | simp only [List.set_cons_succ, List.set_cons_zero] at S | skip))
        | ((with_reducible show wpList _ _ _ (Oper.mk _ (Op.load _ _) _ _ _ _ :: _) _ _); refine wpList_cellS rfl _ _ rfl S _ _ rfl 0 _ _ rfl _ Tryd.underlying55 rfl _ (by with_reducible first | exact C0 | exact C1 | exact C2 | exact C3 | exact C4 | exact C5) ?_))
      go_ret
      exact ⟨ret_str (by rw [HE.out]), S.below⟩
    · rw [if_neg h2] at HE
      have hd : decide ((mm : Int) < 2) = false := by rw [decide_eq_false_iff_not]; omega
      have HW : Hid (∀ g L' wr, Ats w.heap.size w wr ((g, 56, gVs [n0, n1, n2, n3, n4, n5, n6, n7]) :: L') → Calls Tryd.prog 35 #[.slice (some ⟨g, 0, none⟩) fr 8] wr fun e w' => e = .returned (.string ⟨(joiX 58 (hexs (List.take fr [n0, n1, n2, n3, n4, n5, n6, n7]))).toArray⟩) ∧ Below wr.heap.size wr w') :=
        Lib.hid (fun g L' wr S' => written_any _ fr 8 _ wr (ints8_h (S'.get (i := 0) rfl) fr (show fr ≤ 8 by omega)) (by rw [List.length_take]; exact Nat.min_le_right _ _) (fun v hv => HB.out v (List.mem_of_mem_take hv)) (HDd.out _ _ S'))
      have HV : Hid (∀ g L' wr, Ats w.heap.size w wr ((g, 56, gVs [n0, n1, n2, n3, n4, n5, n6, n7]) :: L') → Calls Tryd.prog 35 #[.slice (some (at8 g (fr + mm))) (8 - (fr + mm)) (8 - (fr + mm))] wr fun e w' => e = .returned (.string ⟨(joiX 58 (hexs (List.drop (fr + mm) [n0, n1, n2, n3, n4, n5, n6, n7]))).toArray⟩) ∧ Below wr.heap.size wr w') :=
        Lib.hid (fun g L' wr S' => written_any _ (8 - (fr + mm)) _ _ wr (ints8_l (S'.get (i := 0) rfl) (fr + mm) rfl r1) (by rw [List.length_drop]; exact Nat.sub_le _ _) (fun v hv => HB.out v (List.mem_of_mem_drop hv)) (HDd.out _ _ S'))
      have k1 := hexs_len (List.take fr [n0, n1, n2, n3, n4, n5, n6, n7]) (fun v hv => HB.out v (List.mem_of_mem_take hv))
      have k2 := hexs_len (List.drop (fr + mm) [n0, n1, n2, n3, n4, n5, n6, n7]) (fun v hv => HB.out v (List.mem_of_mem_drop hv))
      have k1' : (List.take fr [n0, n1, n2, n3, n4, n5, n6, n7]).length ≤ 8 := by rw [List.length_take]; exact Nat.min_le_right _ _
      have k2' : (List.drop (fr + mm) [n0, n1, n2, n3, n4, n5, n6, n7]).length ≤ 8 := by rw [List.length_drop]; exact Nat.sub_le _ _
      replace k1 : (joiX 58 (hexs (List.take fr [n0, n1, n2, n3, n4, n5, n6, n7]))).length ≤ 40 := by omega
      replace k2 : (joiX 58 (hexs (List.drop (fr + mm) [n0, n1, n2, n3, n4, n5, n6, n7]))).length ≤ 40 := by omega
      obtain ⟨p1, hp1⟩ : ∃ p, p = joiX 58 (hexs (List.take fr [n0, n1, n2, n3, n4, n5, n6, n7])) := ⟨_, rfl⟩
      obtain ⟨p2, hp2⟩ : ∃ p, p = joiX 58 (hexs (List.drop (fr + mm) [n0, n1, n2, n3, n4, n5, n6, n7])) := ⟨_, rfl⟩
      rw [← hp1] at HW HE k1
      rw [← hp2] at HV HE k2
      clear hp1 hp2 k1' k2'
      have hs1 := fun g w => slice8_h g fr (by omega) w
      have hs2 := fun g w => slice8_l g (fr + mm) r1 w
      simp only [Int.natCast_add] at hs2
      have hwr : IntKind.i64.wrap ((fr : Int) + mm) = fr + mm := IntWalk.i64_in _ (by omega)
      clear h2
      go_enter Tryd.func16, Tryd.ntmps16
      go_wp2_with (first
        | ((with_reducible show wpList _ _ _ (Oper.mk _ (Op.box _ _) _ _ _ _ :: _) _ _); refine wpList_boxS rfl _ _ rfl (adCs f ip z).toArray rfl S ?_; clear S; intro ga w1 S)
        | ((with_reducible show wpList _ _ _ (Oper.mk (some 3) (Op.alloc _) _ _ _ _ :: _) _ _); refine wpList_allocS rfl _ rfl _ g8Zero S ?_; clear S; intro gg w1 S)
        | ((with_reducible refine (HG.out _).mono ?_); rintro e w2 ⟨rfl, hb⟩; have S := S.call hb; clear hb)
        | ((with_reducible refine (HN.out _).mono ?_); rintro e w2 ⟨rfl, hb⟩; have S := S.call hb; clear hb)
        | ((with_reducible refine (HW.out _ _ _ S).mono ?_); rintro e w2 ⟨rfl, hb⟩; have S := S.call hb; clear hb)
        | ((with_reducible show wpList _ _ _ (Oper.mk _ (Op.load _ _) _ _ _ _ :: _) _ _); refine wpList_loadS rfl _ _ rfl S _ rfl 0 _ _ rfl _ Tryd.underlying25 rfl (adSize _ _ _ hip) ?_)
        | ((with_reducible show wpList _ _ _ (Oper.mk _ (Op.load _ _) _ _ _ _ :: _) _ _); refine wpList_loadS rfl _ _ rfl S _ rfl 0 _ _ rfl _ Tryd.underlying56 rfl hsz ?_)
        | ((with_reducible show wpList _ _ _ (Oper.mk _ (Op.store _ _ _) _ _ _ _ :: _) _ _); refine wpList_storeS rfl _ _ _ rfl S _ rfl _ rfl 0 _ _ rfl hsz (by rfl) (by simp [gVs, u64V, Value.oneCell']) ?_; clear S; intro w1 S; (first | simp only [List.set_cons_zero] at S | simp only [List.set_cons_succ, List.set_cons_zero] at S | skip))
        | ((with_reducible show wpList _ _ _ (Oper.mk _ (Op.load _ _) _ _ _ _ :: _) _ _); refine wpList_cellS rfl _ _ rfl S _ _ rfl 0 _ _ rfl _ Tryd.underlying55 rfl _ (by with_reducible first | exact C0 | exact C1 | exact C2 | exact C3 | exact C4 | exact C5) ?_))
      (try simp only [Act.put, List.setIfInBounds_toArray, List.set_cons_succ, List.set_cons_zero]); refine quietS_region (by kernel_rfl) (by kernel_rfl) S ?_
      repeat (first
        | go_big_quiet_skip
        | (go_big_quiet_want
           first
             | ((with_reducible show Oper.quiet _ (Oper.mk (some 54) (Op.call { callee := Callee.value (Operand.func 35), args := _, argTypes := _ }) _ _ _ _) _ _ _); refine q_call 35 _ _ rfl (enters_of Tryd.func35 (by kernel_rfl) rfl) (fun w S => (((HW.out _ _ _ S)).mono fun e w2 h => ⟨h.1, S.call h.2⟩)) (by simp [Act.eval]) ?_)
             | ((with_reducible show Oper.quiet _ (Oper.mk (some 60) (Op.call { callee := Callee.value (Operand.func 35), args := _, argTypes := _ }) _ _ _ _) _ _ _); refine q_call 35 _ _ rfl (enters_of Tryd.func35 (by kernel_rfl) rfl) (fun w S => (((HV.out _ _ _ S)).mono fun e w2 h => ⟨h.1, S.call h.2⟩)) (by simp [Act.eval]) ?_)
             | (refine q_pure (v := ?_) ?_ ?_; rotate_left; focus (intro w; go_simp; rw [if_neg (by (simp; omega))]))
             | (refine q_pure (v := ?_) ?_ ?_; rotate_left; focus (intro w; go_simp; try with_reducible rfl))
           (simp only [Act.put, List.setIfInBounds_toArray, List.set_cons_succ, List.set_cons_zero]; go_big_quiet_on)))
      (refine wpQuiet_nil ?_; clear S; intro w1 S)
      go_wp2_with fail
      go_ret
      exact ⟨ret_str (by rw [HE.out, ByteArray.mk_append_mk, ByteArray.mk_append_mk]; simp), S.below⟩
end Go.Proofs.YtkchgjakkogejaaDoor
