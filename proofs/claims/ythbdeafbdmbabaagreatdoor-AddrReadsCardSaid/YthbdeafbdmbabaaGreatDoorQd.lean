/- Texts behind a law of this seat, in order: Colon4, Colon5, Colon6, Colon7, Colon8, Ref8, Ref8b, Ref8c, Parts, Ref8d. -/
import Derived.Test.YthbdeafbdmbabaaGreatDoorPa
import Derived.Test.YthbdeafbdmbabaaGreatDoorPb
import Derived.Test.YthbdeafbdmbabaaGreatDoorPc
import Derived.Test.YthbdeafbdmbabaaGreatDoorPd
import Derived.Test.YthbdeafbdmbabaaGreatDoorPe
import Derived.Test.YthbdeafbdmbabaaGreatDoorPf
import Derived.Test.YthbdeafbdmbabaaGreatDoorPg
import Derived.Test.YthbdeafbdmbabaaGreatDoorPh
import Derived.Test.YthbdeafbdmbabaaGreatDoorPi
import Derived.Test.YthbdeafbdmbabaaGreatDoorPj
import Derived.Test.YthbdeafbdmbabaaGreatDoorPk
import Derived.Test.YthbdeafbdmbabaaGreatDoorPm
import Derived.Test.YthbdeafbdmbabaaGreatDoorPn
import Derived.Test.YthbdeafbdmbabaaGreatDoorPo
import Derived.Test.YthbdeafbdmbabaaGreatDoorPp
import Derived.Test.YthbdeafbdmbabaaGreatDoorPq
import Derived.Test.YthbdeafbdmbabaaGreatDoorPr
import Derived.Test.YthbdeafbdmbabaaGreatDoorPs
import Derived.Test.YthbdeafbdmbabaaGreatDoorPt
import Derived.Test.YthbdeafbdmbabaaGreatDoorPu
import Derived.Test.YthbdeafbdmbabaaGreatDoorPv
import Derived.Test.YthbdeafbdmbabaaGreatDoorQc
import Derived.Below
import Derived.BigQuiet
import Derived.BigRegion
import Derived.ChangeSlices
import Derived.Deep.AppendLies
import Derived.Deep.Draws
import Derived.Deep.OwnRows
import Derived.Deep.Quiet
import Derived.Deep.QuietTactic
import Derived.Deep.RegionLaw
import Derived.Great.Ranges
import Derived.Handed
import Derived.Laws.Bits64b
import Derived.Laws.BitsAllLaws
import Derived.Laws.OwnMore
import Derived.Laws.Rows
import Derived.Laws.StructEq
import Derived.Lib.Bytealg
import Derived.Lib.Hide
import Derived.Lib.ItoaLen
import Derived.Lib.ItoaMem
import Derived.Lib.ItoaNum
import Derived.Lib.Join
import Derived.Lib.SmallJoins
import Derived.Lib.Split
import Derived.Lib.SplitLaws
import Derived.Lib.Strings
import Derived.OpenShut
import Derived.Shelf.LaysM
import Derived.Shelf.Small.Bits
import Derived.Shelf.Small.Strs
import Derived.Shelf.Strconv.Itoa0
import Derived.Shelf.Strconv.Itoa1
import Derived.Shelf.Strconv.Itoa2
import Derived.Shelf.Strconv.Itoa3
import Derived.Shelf.Strings.Builder1
import Derived.Shelf.Strings.Builder2
import Derived.Shelf.Strings.Builder2Cap
import Derived.Shelf.Strings.BuilderCap
import Derived.Shelf.Strings.BuilderF
import Derived.Shelf.Strings.BuilderK
import Derived.Shelf.Strings.Count
import Derived.Shelf.Strings.Cut
import Derived.Shelf.Strings.OnBuilder
import Derived.Shelf.Strings.Prefix
import Derived.Shelf.Strings.Search1
import Derived.Shelf.Strings.Search2
import Derived.Shelf.Strings.Search3
import Derived.Shelf.Strings.Shaped
import Derived.Shelf.Strings.Split
import Derived.Shelf.Strings.SplitShaped
import Derived.Shelf.Unicode.Decode
import Derived.Shelf.Unicode.DecodeAny
import Derived.Shelf.Unicode.DecodeSlow
import Derived.SizedLaws
import Derived.SliceStrings
import Derived.Stop.BytesEq
import Derived.Test.YthbdeafbdmbabaaGreatDoorProg
import Derived.WalkKit
import Derived.WalkLawsBesides
import Derived.WalkSpells
namespace Go.Proofs.YthbdeafbdmbabaaGreatDoor
open Go.RowKit Go
set_option linter.unusedVariables false
set_option maxRecDepth 100000
theorem slice8_all (g : Nat) (w : World) : (Instr.sliceAt 83 (.pointer (some ⟨g, 0, none⟩)) none none none).run Tryz.prog w = .ok (.slice (some ⟨g, 0, none⟩) 8 8) w := by
  have ha : Tryz.prog.arrayLen 83 = 8 := by kernel_rfl
  have he : Tryz.prog.elem 83 = 57 := by kernel_rfl
  rw [run_sliceAt_array_all w 83 _ (by kernel_rfl), he, Tryz.sizeOf57]
  simp [slicedAt, ha, Result.andThen, Addr.add]
theorem slice8_h (g f : Nat) (h : f ≤ 8) (w : World) : (Instr.sliceAt 83 (.pointer (some ⟨g, 0, none⟩)) none (some (.int .i64 f)) none).run Tryz.prog w = .ok (.slice (some ⟨g, 0, none⟩) f 8) w := by
  have ha : Tryz.prog.arrayLen 83 = 8 := by kernel_rfl
  have he : Tryz.prog.elem 83 = 57 := by kernel_rfl
  rw [run_sliceAt_array_h w 83 _ (by kernel_rfl) .i64 f (by omega) (by rw [ha]; omega), he, Tryz.sizeOf57]
  simp [slicedAt, ha, Result.andThen, Addr.add]
def at8 (g l : Nat) : Addr := if l = 8 then ⟨g, 0, none⟩ else ⟨g, l, none⟩
theorem slice8_l (g l : Nat) (h : l ≤ 8) (w : World) : (Instr.sliceAt 83 (.pointer (some ⟨g, 0, none⟩)) (some (.int .i64 l)) none none).run Tryz.prog w = .ok (.slice (some (at8 g l)) (8 - l) (8 - l)) w := by
  have ha : Tryz.prog.arrayLen 83 = 8 := by kernel_rfl
  have he : Tryz.prog.elem 83 = 57 := by kernel_rfl
  rw [run_sliceAt_array_l w 83 _ (by kernel_rfl) .i64 l (by omega) (by rw [ha]; omega), he, Tryz.sizeOf57]
  simp [slicedAt, ha, Result.andThen, Addr.add, at8]
  by_cases h8 : l = 8
  · rw [if_pos h8.symm, if_pos h8]
  · rw [if_neg (Ne.symm h8), if_neg h8]
    by_cases h0 : l = 0
    · rw [if_pos h0, h0]
    · rw [if_neg h0]
theorem ints8_h {w : World} {b t : Nat} {G : List Nat} (A : At w b t (gVs G)) (f : Nat) (hf : f ≤ G.length) : IntsAt w .u64 (some ⟨b, 0, none⟩) f (gInts (G.take f)) := by
  refine ⟨by simp [gInts]; omega, fun _ => ⟨b, 0, rfl, A.lt, fun j hj => ?_⟩⟩
  have hjf : j < f := by simp [gInts] at hj; omega
  rw [Nat.zero_add]
  refine A.cells j ?_
  rw [gVs_at (List.getElem?_eq_getElem (show j < G.length by omega))]
  simp [gInts]
theorem ints8_l {w : World} {b t : Nat} {G : List Nat} (A : At w b t (gVs G)) (l : Nat) (hG : G.length = 8) (hl : l ≤ 8) : IntsAt w .u64 (some (at8 b l)) (8 - l) (gInts (G.drop l)) := by
  refine ⟨by simp [gInts]; omega, fun h0 => ⟨b, l, by unfold at8; rw [if_neg (by omega)], A.lt, fun j hj => ?_⟩⟩
  have hjf : l + j < 8 := by simp [gInts] at hj; omega
  refine A.cells (l + j) ?_
  rw [gVs_at (List.getElem?_eq_getElem (show l + j < G.length by omega))]
  simp [gInts]
theorem ad_bytes4 (f z : Int) (ip : List UInt8) (h : ip.length = 16) :
    (adCs f ip z).toArray[13]? = some (.int .u8 (ip.getD 12 0).toNat) ∧ (adCs f ip z).toArray[14]? = some (.int .u8 (ip.getD 13 0).toNat) ∧ (adCs f ip z).toArray[15]? = some (.int .u8 (ip.getD 14 0).toNat) ∧ (adCs f ip z).toArray[16]? = some (.int .u8 (ip.getD 15 0).toNat) := by
  have h6 := ad_two f z ip 6 h (by decide)
  have h7 := ad_two f z ip 7 h (by decide)
  exact ⟨h6.1, h6.2, h7.1, h7.2⟩
theorem quad4_text (a b c d : UInt8) : quadI (quad16 a b c d) = quadT a b c d := rfl
set_option maxHeartbeats 4000000 in
theorem address_any8 (f z : Int) (ip : List UInt8) (w : World) (hip : ip.length = 16) (hP : P10 w) (hD : DB w) :
    Calls Tryz.prog 52 #[adV f ip z] w fun e w' => e = .returned (.string ⟨(addrE ip).toArray⟩) ∧ Below w.heap.size w w' := by
  have S := Ats.start w
  have hGl := groupsG_len ip
  have hGb := groupsG_lt ip
  obtain ⟨b12, b13, b14, b15⟩ := ad_bytes4 f z ip hip
  have hdef : addrE ip = if mapB (groupsG ip) = true then mapT (ip.getD 12 0) (ip.getD 13 0) (ip.getD 14 0) (ip.getD 15 0) else coreE (groupsG ip) := rfl
  have hgr := fun w => groups_any f z ip w hip
  obtain ⟨G, hGG⟩ : ∃ G, G = groupsG ip := ⟨_, rfl⟩
  rw [← hGG] at hGl hGb hdef hgr
  have hPd : ∀ wr L, Ats w.heap.size w wr L → P10 wr := fun wr L h => hP.below (Nat.le_refl _) h.below
  have hDd : ∀ wr L, Ats w.heap.size w wr L → DB wr := fun wr L h => hD.below (Nat.le_refl _) h.below
  have HPd := Lib.hid hPd
  have HDd := Lib.hid hDd
  have HG := Lib.hid hgr
  have HB := Lib.hid hGb
  clear hPd hDd hgr hGG
  obtain ⟨n0, n1, n2, n3, n4, n5, n6, n7, rfl⟩ : ∃ n0 n1 n2 n3 n4 n5 n6 n7, G = [n0, n1, n2, n3, n4, n5, n6, n7] := by
    match G, hGl with
    | [n0, n1, n2, n3, n4, n5, n6, n7], _ => exact ⟨n0, n1, n2, n3, n4, n5, n6, n7, rfl⟩
  have b0 := hGb n0 (by simp)
  have b1 := hGb n1 (by simp)
  have b2 := hGb n2 (by simp)
  have b3 := hGb n3 (by simp)
  have b4 := hGb n4 (by simp)
  have or_lt : ∀ a b : Nat, a < 65536 → b < 65536 → a ||| b < 65536 := fun a b ha hb => Nat.or_lt_two_pow (n := 16) ha hb
  have q1 := u64_or_nat n0 n1 (by omega) (by omega)
  have l1 := or_lt _ _ b0 b1
  have q2 := u64_or_nat (n0 ||| n1) n2 (by omega) (by omega)
  have l2 := or_lt _ _ l1 b2
  have q3 := u64_or_nat (n0 ||| n1 ||| n2) n3 (by omega) (by omega)
  have l3 := or_lt _ _ l2 b3
  have q4 := u64_or_nat (n0 ||| n1 ||| n2 ||| n3) n4 (by omega) (by omega)
  have hor : (n0 ||| n1 ||| n2 ||| n3 ||| n4 = 0) ↔ (n0 = 0 ∧ n1 = 0 ∧ n2 = 0 ∧ n3 = 0 ∧ n4 = 0) := by
    rw [Nat.or_eq_zero_iff, Nat.or_eq_zero_iff, Nat.or_eq_zero_iff, Nat.or_eq_zero_iff]
    constructor
    · rintro ⟨⟨⟨⟨a, b⟩, c⟩, d⟩, e⟩; exact ⟨a, b, c, d, e⟩
    · rintro ⟨a, b, c, d, e⟩; exact ⟨⟨⟨⟨a, b⟩, c⟩, d⟩, e⟩
  obtain ⟨m, hm⟩ : ∃ m, m = n0 ||| n1 ||| n2 ||| n3 ||| n4 := ⟨_, rfl⟩
  rw [← hm] at q4 hor
  have hmap : mapB [n0, n1, n2, n3, n4, n5, n6, n7] = (decide (m = 0) && decide (n5 = 65535)) := by
    rw [Bool.eq_iff_iff]
    simp only [mapB, List.take_succ_cons, List.take_zero, List.all_cons, List.all_nil, Bool.and_true, Bool.and_eq_true, beq_iff_eq, List.getD_cons_succ, List.getD_cons_zero, decide_eq_true_eq]
    rw [hor]
  have hsz : (Tryz.prog.info? 83).map (·.size) = some (gVs [n0, n1, n2, n3, n4, n5, n6, n7]).size := g8Size _ rfl
  have C0 : (gVs [n0, n1, n2, n3, n4, n5, n6, n7])[0]? = some (.int .u64 n0) := rfl
  have C1 : (gVs [n0, n1, n2, n3, n4, n5, n6, n7])[1]? = some (.int .u64 n1) := rfl
  have C2 : (gVs [n0, n1, n2, n3, n4, n5, n6, n7])[2]? = some (.int .u64 n2) := rfl
  have C3 : (gVs [n0, n1, n2, n3, n4, n5, n6, n7])[3]? = some (.int .u64 n3) := rfl
  have C4 : (gVs [n0, n1, n2, n3, n4, n5, n6, n7])[4]? = some (.int .u64 n4) := rfl
  have C5 : (gVs [n0, n1, n2, n3, n4, n5, n6, n7])[5]? = some (.int .u64 n5) := rfl
  clear l1 l2 l3 or_lt hor hm b0 b1 b2 b3 b4 hGb
  by_cases h0 : m = 0
  · have t0 : ((m : Int) == 0) = true := by simpa using h0
    by_cases h5 : n5 = 65535
    · have t5 : ((n5 : Int) == 65535) = true := by rw [beq_iff_eq]; omega
      rw [if_pos (by rw [hmap]; simp [h0, h5])] at hdef
      have hof := fun w => of_any (ip.getD 12 0) (ip.getD 13 0) (ip.getD 14 0) (ip.getD 15 0) w
      have htx := fun w (h : P10 w) => text_any 4 0 (quad16 (ip.getD 12 0) (ip.getD 13 0) (ip.getD 14 0) (ip.getD 15 0)) w rfl h
      simp only [quad4_text] at htx
      have hql := (quadT_len (ip.getD 12 0) (ip.getD 13 0) (ip.getD 14 0) (ip.getD 15 0)).1
      unfold mapT at hdef
      obtain ⟨q, hq⟩ : ∃ q, q = quadT (ip.getD 12 0) (ip.getD 13 0) (ip.getD 14 0) (ip.getD 15 0) := ⟨_, rfl⟩
      rw [← hq] at hdef htx hql
      obtain ⟨x12, h12⟩ : ∃ x, x = ip.getD 12 0 := ⟨_, rfl⟩
      obtain ⟨x13, h13⟩ : ∃ x, x = ip.getD 13 0 := ⟨_, rfl⟩
      obtain ⟨x14, h14⟩ : ∃ x, x = ip.getD 14 0 := ⟨_, rfl⟩
      obtain ⟨x15, h15⟩ : ∃ x, x = ip.getD 15 0 := ⟨_, rfl⟩
      rw [← h12, ← h13, ← h14, ← h15] at hof htx
      rw [← h12] at b12
      rw [← h13] at b13
      rw [← h14] at b14
      rw [← h15] at b15
      have HE := Lib.hid hdef
      have HO := Lib.hid hof
      have HT := Lib.hid htx
      clear hdef hmap h0 h5 hof htx hq h12 h13 h14 h15
      go_enter Tryz.func52, Tryz.ntmps52
      go_wp2_with (first
        | ((with_reducible show wpList _ _ _ (Oper.mk _ (Op.box _ _) _ _ _ _ :: _) _ _); refine wpList_boxS rfl _ _ rfl (adCs f ip z).toArray rfl S ?_; clear S; intro ga w1 S)
        | ((with_reducible show wpList _ _ _ (Oper.mk (some 3) (Op.alloc _) _ _ _ _ :: _) _ _); refine wpList_allocS rfl _ rfl _ g8Zero S ?_; clear S; intro gg w1 S)
        | ((with_reducible refine (HG.out _).mono ?_); rintro e w2 ⟨rfl, hb⟩; have S := S.call hb; clear hb)
        | ((with_reducible refine (HO.out _).mono ?_); rintro e w2 ⟨rfl, hb⟩; have S := S.call hb; clear hb)
        | ((with_reducible refine (HT.out _ (HPd.out _ _ S)).mono ?_); rintro e w2 ⟨rfl, hb⟩; have S := S.call hb; clear hb)
        | ((with_reducible show wpList _ _ _ (Oper.mk _ (Op.load _ _) _ _ _ _ :: _) _ _); refine wpList_loadS rfl _ _ rfl S _ rfl 0 _ _ rfl _ Tryz.underlying24 rfl (adSize _ _ _ hip) ?_)
        | ((with_reducible show wpList _ _ _ (Oper.mk _ (Op.store _ _ _) _ _ _ _ :: _) _ _); refine wpList_storeS rfl _ _ _ rfl S _ rfl _ rfl 0 _ _ rfl hsz (by rfl) (by simp [gVs, u64V, Value.oneCell']) ?_; clear S; intro w1 S; (first | simp only [List.set_cons_zero] at S | simp only [List.set_cons_succ, List.set_cons_zero] at S | skip))
        | ((with_reducible show wpList _ _ _ (Oper.mk _ (Op.load _ _) _ _ _ _ :: _) _ _); refine wpList_cellS rfl _ _ rfl S _ _ rfl 0 _ _ rfl _ Tryz.underlying57 rfl _ (by with_reducible first | exact C0 | exact C1 | exact C2 | exact C3 | exact C4 | exact C5) ?_)
        | ((with_reducible show wpList _ _ _ (Oper.mk _ (Op.load _ _) _ _ _ _ :: _) _ _); refine wpList_cellS rfl _ _ rfl S _ _ rfl 1 _ _ rfl _ Tryz.underlying5 rfl _ (by with_reducible first | exact b12 | exact b13 | exact b14 | exact b15) ?_))
      go_ret
      exact ⟨ret_str (by rw [HE.out, ByteArray.mk_append_mk]; simp), S.below⟩
    · have t5 : ((n5 : Int) == 65535) = false := by rw [beq_eq_false_iff_ne]; omega
      rw [if_neg (by rw [hmap]; simp [h5])] at hdef
      have HE := Lib.hid hdef
      clear h5
      clear hdef hmap h0
      obtain ⟨r1, r2, r3⟩ := row_ok (zsG [n0, n1, n2, n3, n4, n5, n6, n7]) rfl
      clear r2 r3
      have hno := fun w => noughts_any [n0, n1, n2, n3, n4, n5, n6, n7] w rfl
      unfold coreE at HE
      obtain ⟨fr, hfr⟩ : ∃ fr, fr = (nouE (zsG [n0, n1, n2, n3, n4, n5, n6, n7])).1 := ⟨_, rfl⟩
      obtain ⟨mm, hmm⟩ : ∃ mm, mm = (nouE (zsG [n0, n1, n2, n3, n4, n5, n6, n7])).2 := ⟨_, rfl⟩
      rw [← hfr, ← hmm] at r1 hno HE
      have HN := Lib.hid hno
      clear hno hfr hmm
      by_cases h2 : mm < 2
      · rw [if_pos h2] at HE
        have hd : decide ((mm : Int) < 2) = true := by rw [decide_eq_true_eq]; omega
        have HW : Hid (∀ g L' wr, Ats w.heap.size w wr ((g, 83, gVs [n0, n1, n2, n3, n4, n5, n6, n7]) :: L') → Calls Tryz.prog 77 #[.slice (some ⟨g, 0, none⟩) 8 8] wr fun e w' => e = .returned (.string ⟨(joiX 58 (hexs [n0, n1, n2, n3, n4, n5, n6, n7])).toArray⟩) ∧ Below wr.heap.size wr w') :=
          Lib.hid (fun g L' wr S' => written_any _ 8 8 [n0, n1, n2, n3, n4, n5, n6, n7] wr (ints8_h (S'.get (i := 0) rfl) 8 (Nat.le_refl _)) (Nat.le_refl _) HB.out (HDd.out _ _ S'))
        have hsl := slice8_all
        clear h2
        go_enter Tryz.func52, Tryz.ntmps52
        go_wp2_with (first
          | ((with_reducible show wpList _ _ _ (Oper.mk _ (Op.box _ _) _ _ _ _ :: _) _ _); refine wpList_boxS rfl _ _ rfl (adCs f ip z).toArray rfl S ?_; clear S; intro ga w1 S)
          | ((with_reducible show wpList _ _ _ (Oper.mk (some 3) (Op.alloc _) _ _ _ _ :: _) _ _); refine wpList_allocS rfl _ rfl _ g8Zero S ?_; clear S; intro gg w1 S)
          | ((with_reducible refine (HG.out _).mono ?_); rintro e w2 ⟨rfl, hb⟩; have S := S.call hb; clear hb)
          | ((with_reducible refine (HN.out _).mono ?_); rintro e w2 ⟨rfl, hb⟩; have S := S.call hb; clear hb)
          | ((with_reducible refine (HW.out _ _ _ S).mono ?_); rintro e w2 ⟨rfl, hb⟩; have S := S.call hb; clear hb)
          | ((with_reducible show wpList _ _ _ (Oper.mk _ (Op.load _ _) _ _ _ _ :: _) _ _); refine wpList_loadS rfl _ _ rfl S _ rfl 0 _ _ rfl _ Tryz.underlying24 rfl (adSize _ _ _ hip) ?_)
          | ((with_reducible show wpList _ _ _ (Oper.mk _ (Op.load _ _) _ _ _ _ :: _) _ _); refine wpList_loadS rfl _ _ rfl S _ rfl 0 _ _ rfl _ Tryz.underlying83 rfl hsz ?_)
          | ((with_reducible show wpList _ _ _ (Oper.mk _ (Op.store _ _ _) _ _ _ _ :: _) _ _); refine wpList_storeS rfl _ _ _ rfl S _ rfl _ rfl 0 _ _ rfl hsz (by rfl) (by simp [gVs, u64V, Value.oneCell']) ?_; clear S; intro w1 S; (first | simp only [List.set_cons_zero] at S | simp only [List.set_cons_succ, List.set_cons_zero] at S | skip))
          | ((with_reducible show wpList _ _ _ (Oper.mk _ (Op.load _ _) _ _ _ _ :: _) _ _); refine wpList_cellS rfl _ _ rfl S _ _ rfl 0 _ _ rfl _ Tryz.underlying57 rfl _ (by with_reducible first | exact C0 | exact C1 | exact C2 | exact C3 | exact C4 | exact C5) ?_))
        go_ret
        exact ⟨ret_str (by rw [HE.out]), S.below⟩
      · rw [if_neg h2] at HE
        have hd : decide ((mm : Int) < 2) = false := by rw [decide_eq_false_iff_not]; omega
        have HW : Hid (∀ g L' wr, Ats w.heap.size w wr ((g, 83, gVs [n0, n1, n2, n3, n4, n5, n6, n7]) :: L') → Calls Tryz.prog 77 #[.slice (some ⟨g, 0, none⟩) fr 8] wr fun e w' => e = .returned (.string ⟨(joiX 58 (hexs (List.take fr [n0, n1, n2, n3, n4, n5, n6, n7]))).toArray⟩) ∧ Below wr.heap.size wr w') :=
          Lib.hid (fun g L' wr S' => written_any _ fr 8 _ wr (ints8_h (S'.get (i := 0) rfl) fr (show fr ≤ 8 by omega)) (by rw [List.length_take]; exact Nat.min_le_right _ _) (fun v hv => HB.out v (List.mem_of_mem_take hv)) (HDd.out _ _ S'))
        have HV : Hid (∀ g L' wr, Ats w.heap.size w wr ((g, 83, gVs [n0, n1, n2, n3, n4, n5, n6, n7]) :: L') → Calls Tryz.prog 77 #[.slice (some (at8 g (fr + mm))) (8 - (fr + mm)) (8 - (fr + mm))] wr fun e w' => e = .returned (.string ⟨(joiX 58 (hexs (List.drop (fr + mm) [n0, n1, n2, n3, n4, n5, n6, n7]))).toArray⟩) ∧ Below wr.heap.size wr w') :=
          Lib.hid (fun g L' wr S' => written_any _ (8 - (fr + mm)) _ _ wr (ints8_l (S'.get (i := 0) rfl) (fr + mm) rfl r1) (by rw [List.length_drop]; exact Nat.sub_le _ _) (fun v hv => HB.out v (List.mem_of_mem_drop hv)) (HDd.out _ _ S'))
        have k1 := hexs_len (List.take fr [n0, n1, n2, n3, n4, n5, n6, n7]) (fun v hv => HB.out v (List.mem_of_mem_take hv))
        have k2 := hexs_len (List.drop (fr + mm) [n0, n1, n2, n3, n4, n5, n6, n7]) (fun v hv => HB.out v (List.mem_of_mem_drop hv))
        have k1' : (List.take fr [n0, n1, n2, n3, n4, n5, n6, n7]).length ≤ 8 := by rw [List.length_take]; exact Nat.min_le_right _ _
        have k2' : (List.drop (fr + mm) [n0, n1, n2, n3, n4, n5, n6, n7]).length ≤ 8 := by rw [List.length_drop]; exact Nat.sub_le _ _
        replace k1 : (joiX 58 (hexs (List.take fr [n0, n1, n2, n3, n4, n5, n6, n7]))).length ≤ 40 := by omega
        replace k2 : (joiX 58 (hexs (List.drop (fr + mm) [n0, n1, n2, n3, n4, n5, n6, n7]))).length ≤ 40 := by omega
        obtain ⟨p1, hp1⟩ : ∃ p, p = joiX 58 (hexs (List.take fr [n0, n1, n2, n3, n4, n5, n6, n7])) := ⟨_, rfl⟩
        obtain ⟨p2, hp2⟩ : ∃ p, p = joiX 58 (hexs (List.drop (fr + mm) [n0, n1, n2, n3, n4, n5, n6, n7])) := ⟨_, rfl⟩
        rw [← hp1] at HW HE k1
        rw [← hp2] at HV HE k2
        clear hp1 hp2 k1' k2'
        have hs1 := fun g w => slice8_h g fr (by omega) w
        have hs2 := fun g w => slice8_l g (fr + mm) r1 w
        simp only [Int.natCast_add] at hs2
        have hwr : IntKind.i64.wrap ((fr : Int) + mm) = fr + mm := IntWalk.i64_in _ (by omega)
        clear h2
        go_enter Tryz.func52, Tryz.ntmps52
        go_wp2_with (first
          | ((with_reducible show wpList _ _ _ (Oper.mk _ (Op.box _ _) _ _ _ _ :: _) _ _); refine wpList_boxS rfl _ _ rfl (adCs f ip z).toArray rfl S ?_; clear S; intro ga w1 S)
          | ((with_reducible show wpList _ _ _ (Oper.mk (some 3) (Op.alloc _) _ _ _ _ :: _) _ _); refine wpList_allocS rfl _ rfl _ g8Zero S ?_; clear S; intro gg w1 S)
          | ((with_reducible refine (HG.out _).mono ?_); rintro e w2 ⟨rfl, hb⟩; have S := S.call hb; clear hb)
          | ((with_reducible refine (HN.out _).mono ?_); rintro e w2 ⟨rfl, hb⟩; have S := S.call hb; clear hb)
          | ((with_reducible refine (HW.out _ _ _ S).mono ?_); rintro e w2 ⟨rfl, hb⟩; have S := S.call hb; clear hb)
          | ((with_reducible show wpList _ _ _ (Oper.mk _ (Op.load _ _) _ _ _ _ :: _) _ _); refine wpList_loadS rfl _ _ rfl S _ rfl 0 _ _ rfl _ Tryz.underlying24 rfl (adSize _ _ _ hip) ?_)
          | ((with_reducible show wpList _ _ _ (Oper.mk _ (Op.load _ _) _ _ _ _ :: _) _ _); refine wpList_loadS rfl _ _ rfl S _ rfl 0 _ _ rfl _ Tryz.underlying83 rfl hsz ?_)
          | ((with_reducible show wpList _ _ _ (Oper.mk _ (Op.store _ _ _) _ _ _ _ :: _) _ _); refine wpList_storeS rfl _ _ _ rfl S _ rfl _ rfl 0 _ _ rfl hsz (by rfl) (by simp [gVs, u64V, Value.oneCell']) ?_; clear S; intro w1 S; (first | simp only [List.set_cons_zero] at S | simp only [List.set_cons_succ, List.set_cons_zero] at S | skip))
          | ((with_reducible show wpList _ _ _ (Oper.mk _ (Op.load _ _) _ _ _ _ :: _) _ _); refine wpList_cellS rfl _ _ rfl S _ _ rfl 0 _ _ rfl _ Tryz.underlying57 rfl _ (by with_reducible first | exact C0 | exact C1 | exact C2 | exact C3 | exact C4 | exact C5) ?_))
        (try simp only [Act.put, List.setIfInBounds_toArray, List.set_cons_succ, List.set_cons_zero]); refine quietS_region (by kernel_rfl) (by kernel_rfl) S ?_
        repeat (first
          | go_big_quiet_skip
          | (go_big_quiet_want
             first
               | ((with_reducible show Oper.quiet _ (Oper.mk (some 54) (Op.call { callee := Callee.value (Operand.func 77), args := _, argTypes := _ }) _ _ _ _) _ _ _); refine q_call 77 _ _ rfl (enters_of Tryz.func77 (by kernel_rfl) rfl) (fun w S => (((HW.out _ _ _ S)).mono fun e w2 h => ⟨h.1, S.call h.2⟩)) (by simp [Act.eval]) ?_)
               | ((with_reducible show Oper.quiet _ (Oper.mk (some 60) (Op.call { callee := Callee.value (Operand.func 77), args := _, argTypes := _ }) _ _ _ _) _ _ _); refine q_call 77 _ _ rfl (enters_of Tryz.func77 (by kernel_rfl) rfl) (fun w S => (((HV.out _ _ _ S)).mono fun e w2 h => ⟨h.1, S.call h.2⟩)) (by simp [Act.eval]) ?_)
               | (refine q_pure (v := ?_) ?_ ?_; rotate_left; focus (intro w; go_simp; rw [if_neg (by (simp; omega))]))
               | (refine q_pure (v := ?_) ?_ ?_; rotate_left; focus (intro w; go_simp; try with_reducible rfl))
             (simp only [Act.put, List.setIfInBounds_toArray, List.set_cons_succ, List.set_cons_zero]; go_big_quiet_on)))
        (refine wpQuiet_nil ?_; clear S; intro w1 S)
        go_wp2_with fail
        go_ret
        exact ⟨ret_str (by rw [HE.out, ByteArray.mk_append_mk, ByteArray.mk_append_mk]; simp), S.below⟩
  · have t0 : ((m : Int) == 0) = false := by simpa using h0
    rw [if_neg (by rw [hmap]; simp [h0])] at hdef
    have HE := Lib.hid hdef
    clear hdef hmap h0
    obtain ⟨r1, r2, r3⟩ := row_ok (zsG [n0, n1, n2, n3, n4, n5, n6, n7]) rfl
    clear r2 r3
    have hno := fun w => noughts_any [n0, n1, n2, n3, n4, n5, n6, n7] w rfl
    unfold coreE at HE
    obtain ⟨fr, hfr⟩ : ∃ fr, fr = (nouE (zsG [n0, n1, n2, n3, n4, n5, n6, n7])).1 := ⟨_, rfl⟩
    obtain ⟨mm, hmm⟩ : ∃ mm, mm = (nouE (zsG [n0, n1, n2, n3, n4, n5, n6, n7])).2 := ⟨_, rfl⟩
    rw [← hfr, ← hmm] at r1 hno HE
    have HN := Lib.hid hno
    clear hno hfr hmm
    by_cases h2 : mm < 2
    · rw [if_pos h2] at HE
      have hd : decide ((mm : Int) < 2) = true := by rw [decide_eq_true_eq]; omega
      have HW : Hid (∀ g L' wr, Ats w.heap.size w wr ((g, 83, gVs [n0, n1, n2, n3, n4, n5, n6, n7]) :: L') → Calls Tryz.prog 77 #[.slice (some ⟨g, 0, none⟩) 8 8] wr fun e w' => e = .returned (.string ⟨(joiX 58 (hexs [n0, n1, n2, n3, n4, n5, n6, n7])).toArray⟩) ∧ Below wr.heap.size wr w') :=
        Lib.hid (fun g L' wr S' => written_any _ 8 8 [n0, n1, n2, n3, n4, n5, n6, n7] wr (ints8_h (S'.get (i := 0) rfl) 8 (Nat.le_refl _)) (Nat.le_refl _) HB.out (HDd.out _ _ S'))
      have hsl := slice8_all
      clear h2
      go_enter Tryz.func52, Tryz.ntmps52
      go_wp2_with (first
        | ((with_reducible show wpList _ _ _ (Oper.mk _ (Op.box _ _) _ _ _ _ :: _) _ _); refine wpList_boxS rfl _ _ rfl (adCs f ip z).toArray rfl S ?_; clear S; intro ga w1 S)
        | ((with_reducible show wpList _ _ _ (Oper.mk (some 3) (Op.alloc _) _ _ _ _ :: _) _ _); refine wpList_allocS rfl _ rfl _ g8Zero S ?_; clear S; intro gg w1 S)
        | ((with_reducible refine (HG.out _).mono ?_); rintro e w2 ⟨rfl, hb⟩; have S := S.call hb; clear hb)
        | ((with_reducible refine (HN.out _).mono ?_); rintro e w2 ⟨rfl, hb⟩; have S := S.call hb; clear hb)
        | ((with_reducible refine (HW.out _ _ _ S).mono ?_); rintro e w2 ⟨rfl, hb⟩; have S := S.call hb; clear hb)
        | ((with_reducible show wpList _ _ _ (Oper.mk _ (Op.load _ _) _ _ _ _ :: _) _ _); refine wpList_loadS rfl _ _ rfl S _ rfl 0 _ _ rfl _ Tryz.underlying24 rfl (adSize _ _ _ hip) ?_)
        | ((with_reducible show wpList _ _ _ (Oper.mk _ (Op.load _ _) _ _ _ _ :: _) _ _); refine wpList_loadS rfl _ _ rfl S _ rfl 0 _ _ rfl _ Tryz.underlying83 rfl hsz ?_)
        | ((with_reducible show wpList _ _ _ (Oper.mk _ (Op.store _ _ _) _ _ _ _ :: _) _ _); refine wpList_storeS rfl _ _ _ rfl S _ rfl _ rfl 0 _ _ rfl hsz (by rfl) (by simp [gVs, u64V, Value.oneCell']) ?_; clear S; intro w1 S; (first | simp only [List.set_cons_zero] at S | simp only [List.set_cons_succ, List.set_cons_zero] at S | skip))
        | ((with_reducible show wpList _ _ _ (Oper.mk _ (Op.load _ _) _ _ _ _ :: _) _ _); refine wpList_cellS rfl _ _ rfl S _ _ rfl 0 _ _ rfl _ Tryz.underlying57 rfl _ (by with_reducible first | exact C0 | exact C1 | exact C2 | exact C3 | exact C4 | exact C5) ?_))
      go_ret
      exact ⟨ret_str (by rw [HE.out]), S.below⟩
    · rw [if_neg h2] at HE
      have hd : decide ((mm : Int) < 2) = false := by rw [decide_eq_false_iff_not]; omega
      have HW : Hid (∀ g L' wr, Ats w.heap.size w wr ((g, 83, gVs [n0, n1, n2, n3, n4, n5, n6, n7]) :: L') → Calls Tryz.prog 77 #[.slice (some ⟨g, 0, none⟩) fr 8] wr fun e w' => e = .returned (.string ⟨(joiX 58 (hexs (List.take fr [n0, n1, n2, n3, n4, n5, n6, n7]))).toArray⟩) ∧ Below wr.heap.size wr w') :=
        Lib.hid (fun g L' wr S' => written_any _ fr 8 _ wr (ints8_h (S'.get (i := 0) rfl) fr (show fr ≤ 8 by omega)) (by rw [List.length_take]; exact Nat.min_le_right _ _) (fun v hv => HB.out v (List.mem_of_mem_take hv)) (HDd.out _ _ S'))
      have HV : Hid (∀ g L' wr, Ats w.heap.size w wr ((g, 83, gVs [n0, n1, n2, n3, n4, n5, n6, n7]) :: L') → Calls Tryz.prog 77 #[.slice (some (at8 g (fr + mm))) (8 - (fr + mm)) (8 - (fr + mm))] wr fun e w' => e = .returned (.string ⟨(joiX 58 (hexs (List.drop (fr + mm) [n0, n1, n2, n3, n4, n5, n6, n7]))).toArray⟩) ∧ Below wr.heap.size wr w') :=
        Lib.hid (fun g L' wr S' => written_any _ (8 - (fr + mm)) _ _ wr (ints8_l (S'.get (i := 0) rfl) (fr + mm) rfl r1) (by rw [List.length_drop]; exact Nat.sub_le _ _) (fun v hv => HB.out v (List.mem_of_mem_drop hv)) (HDd.out _ _ S'))
      have k1 := hexs_len (List.take fr [n0, n1, n2, n3, n4, n5, n6, n7]) (fun v hv => HB.out v (List.mem_of_mem_take hv))
      have k2 := hexs_len (List.drop (fr + mm) [n0, n1, n2, n3, n4, n5, n6, n7]) (fun v hv => HB.out v (List.mem_of_mem_drop hv))
      have k1' : (List.take fr [n0, n1, n2, n3, n4, n5, n6, n7]).length ≤ 8 := by rw [List.length_take]; exact Nat.min_le_right _ _
      have k2' : (List.drop (fr + mm) [n0, n1, n2, n3, n4, n5, n6, n7]).length ≤ 8 := by rw [List.length_drop]; exact Nat.sub_le _ _
      replace k1 : (joiX 58 (hexs (List.take fr [n0, n1, n2, n3, n4, n5, n6, n7]))).length ≤ 40 := by omega
      replace k2 : (joiX 58 (hexs (List.drop (fr + mm) [n0, n1, n2, n3, n4, n5, n6, n7]))).length ≤ 40 := by omega
      obtain ⟨p1, hp1⟩ : ∃ p, p = joiX 58 (hexs (List.take fr [n0, n1, n2, n3, n4, n5, n6, n7])) := ⟨_, rfl⟩
      obtain ⟨p2, hp2⟩ : ∃ p, p = joiX 58 (hexs (List.drop (fr + mm) [n0, n1, n2, n3, n4, n5, n6, n7])) := ⟨_, rfl⟩
      rw [← hp1] at HW HE k1
      rw [← hp2] at HV HE k2
      clear hp1 hp2 k1' k2'
      have hs1 := fun g w => slice8_h g fr (by omega) w
      have hs2 := fun g w => slice8_l g (fr + mm) r1 w
      simp only [Int.natCast_add] at hs2
      have hwr : IntKind.i64.wrap ((fr : Int) + mm) = fr + mm := IntWalk.i64_in _ (by omega)
      clear h2
      go_enter Tryz.func52, Tryz.ntmps52
      go_wp2_with (first
        | ((with_reducible show wpList _ _ _ (Oper.mk _ (Op.box _ _) _ _ _ _ :: _) _ _); refine wpList_boxS rfl _ _ rfl (adCs f ip z).toArray rfl S ?_; clear S; intro ga w1 S)
        | ((with_reducible show wpList _ _ _ (Oper.mk (some 3) (Op.alloc _) _ _ _ _ :: _) _ _); refine wpList_allocS rfl _ rfl _ g8Zero S ?_; clear S; intro gg w1 S)
        | ((with_reducible refine (HG.out _).mono ?_); rintro e w2 ⟨rfl, hb⟩; have S := S.call hb; clear hb)
        | ((with_reducible refine (HN.out _).mono ?_); rintro e w2 ⟨rfl, hb⟩; have S := S.call hb; clear hb)
        | ((with_reducible refine (HW.out _ _ _ S).mono ?_); rintro e w2 ⟨rfl, hb⟩; have S := S.call hb; clear hb)
        | ((with_reducible show wpList _ _ _ (Oper.mk _ (Op.load _ _) _ _ _ _ :: _) _ _); refine wpList_loadS rfl _ _ rfl S _ rfl 0 _ _ rfl _ Tryz.underlying24 rfl (adSize _ _ _ hip) ?_)
        | ((with_reducible show wpList _ _ _ (Oper.mk _ (Op.load _ _) _ _ _ _ :: _) _ _); refine wpList_loadS rfl _ _ rfl S _ rfl 0 _ _ rfl _ Tryz.underlying83 rfl hsz ?_)
        | ((with_reducible show wpList _ _ _ (Oper.mk _ (Op.store _ _ _) _ _ _ _ :: _) _ _); refine wpList_storeS rfl _ _ _ rfl S _ rfl _ rfl 0 _ _ rfl hsz (by rfl) (by simp [gVs, u64V, Value.oneCell']) ?_; clear S; intro w1 S; (first | simp only [List.set_cons_zero] at S | simp only [List.set_cons_succ, List.set_cons_zero] at S | skip))
        | ((with_reducible show wpList _ _ _ (Oper.mk _ (Op.load _ _) _ _ _ _ :: _) _ _); refine wpList_cellS rfl _ _ rfl S _ _ rfl 0 _ _ rfl _ Tryz.underlying57 rfl _ (by with_reducible first | exact C0 | exact C1 | exact C2 | exact C3 | exact C4 | exact C5) ?_))
      (try simp only [Act.put, List.setIfInBounds_toArray, List.set_cons_succ, List.set_cons_zero]); refine quietS_region (by kernel_rfl) (by kernel_rfl) S ?_
      repeat (first
        | go_big_quiet_skip
        | (go_big_quiet_want
           first
             | ((with_reducible show Oper.quiet _ (Oper.mk (some 54) (Op.call { callee := Callee.value (Operand.func 77), args := _, argTypes := _ }) _ _ _ _) _ _ _); refine q_call 77 _ _ rfl (enters_of Tryz.func77 (by kernel_rfl) rfl) (fun w S => (((HW.out _ _ _ S)).mono fun e w2 h => ⟨h.1, S.call h.2⟩)) (by simp [Act.eval]) ?_)
             | ((with_reducible show Oper.quiet _ (Oper.mk (some 60) (Op.call { callee := Callee.value (Operand.func 77), args := _, argTypes := _ }) _ _ _ _) _ _ _); refine q_call 77 _ _ rfl (enters_of Tryz.func77 (by kernel_rfl) rfl) (fun w S => (((HV.out _ _ _ S)).mono fun e w2 h => ⟨h.1, S.call h.2⟩)) (by simp [Act.eval]) ?_)
             | (refine q_pure (v := ?_) ?_ ?_; rotate_left; focus (intro w; go_simp; rw [if_neg (by (simp; omega))]))
             | (refine q_pure (v := ?_) ?_ ?_; rotate_left; focus (intro w; go_simp; try with_reducible rfl))
           (simp only [Act.put, List.setIfInBounds_toArray, List.set_cons_succ, List.set_cons_zero]; go_big_quiet_on)))
      (refine wpQuiet_nil ?_; clear S; intro w1 S)
      go_wp2_with fail
      go_ret
      exact ⟨ret_str (by rw [HE.out, ByteArray.mk_append_mk, ByteArray.mk_append_mk]; simp), S.below⟩
end Go.Proofs.YthbdeafbdmbabaaGreatDoor
namespace Go.Proofs.YthbdeafbdmbabaaGreatDoor
open Go.RowKit Go
set_option linter.unusedVariables false
set_option maxRecDepth 100000
def textC (ip : List UInt8) (z : Int) : List UInt8 := if 0 < z then addrE ip ++ 37 :: Lib.itoa z else addrE ip
theorem itoa_len20 (n : Int) (h0 : 0 ≤ n) (h1 : n ≤ 9223372036854775807) : (Lib.itoa n).length ≤ 20 := by
  obtain ⟨k, rfl⟩ := Int.eq_ofNat_of_zero_le h0
  rw [Lib.itoa_nonneg]
  have key : ∀ (m u : Nat), u < 10 ^ m → (Lib.decDigits u).length ≤ m + 1 := by
    intro m
    induction m with
    | zero => intro u hu; have : u = 0 := by omega
              subst this; rw [Lib.decDigits_one (by decide)]; simp
    | succ m ih =>
      intro u hu
      by_cases h : u < 10
      · rw [Lib.decDigits_one h]; simp
      · rw [Lib.decDigits, dif_neg h, List.length_append]
        have := ih (u / 10) (by rw [Nat.pow_succ] at hu; omega)
        simp only [List.length_cons, List.length_nil]
        omega
  exact key 19 k (by omega)
set_option maxHeartbeats 4000000 in
theorem text_any8 (f z : Int) (ip : List UInt8) (w : World) (hip : ip.length = 16) (hz0 : -9223372036854775808 ≤ z) (hz : z ≤ 9223372036854775807) (hP : P10 w) (hD : DB w) :
    Calls Tryz.prog 31 #[adV f ip z] w fun e w' => e = .returned (.string ⟨(textC ip z).toArray⟩) ∧ Below w.heap.size w w' := by
  have S := Ats.start w
  have hPd : ∀ wr L, Ats w.heap.size w wr L → P10 wr := fun wr L h => hP.below (Nat.le_refl _) h.below
  have hDd : ∀ wr L, Ats w.heap.size w wr L → DB wr := fun wr L h => hD.below (Nat.le_refl _) h.below
  have HPd := Lib.hid hPd
  have HDd := Lib.hid hDd
  have hA := fun w (h : P10 w) (h' : DB w) => address_any8 f z ip w hip h h'
  have hl := addr_len ip
  have hzc := ad_zone f z ip hip
  have hdef : textC ip z = if 0 < z then addrE ip ++ 37 :: Lib.itoa z else addrE ip := rfl
  obtain ⟨a, ha⟩ : ∃ a, a = addrE ip := ⟨_, rfl⟩
  rw [← ha] at hA hl hdef
  have HA := Lib.hid hA
  clear hPd hDd hA ha
  by_cases h0 : 0 < z
  · rw [if_pos h0] at hdef
    have hd : decide ((0 : Int) < z) = true := decide_eq_true h0
    have hdg := fun w (h : P10 w) => digits_num z w hz0 hz h
    have hdl := itoa_len20 z (by omega) hz
    obtain ⟨t, ht⟩ : ∃ t, t = Lib.itoa z := ⟨_, rfl⟩
    rw [← ht] at hdef hdg hdl
    have HE := Lib.hid hdef
    have HN := Lib.hid hdg
    clear hdef hdg ht h0 hP hD
    go_enter Tryz.func31, Tryz.ntmps31
    go_wp2_with (first
      | ((with_reducible show wpList _ _ _ (Oper.mk _ (Op.box _ _) _ _ _ _ :: _) _ _); refine wpList_boxS rfl _ _ rfl (adCs f ip z).toArray rfl S ?_; clear S; intro ga w1 S)
      | ((with_reducible refine (HA.out _ (HPd.out _ _ S) (HDd.out _ _ S)).mono ?_); rintro e w2 ⟨rfl, hb⟩; have S := S.call hb; clear hb)
      | ((with_reducible refine (HN.out _ (HPd.out _ _ S)).mono ?_); rintro e w2 ⟨rfl, hb⟩; have S := S.call hb; clear hb)
      | ((with_reducible show wpList _ _ _ (Oper.mk _ (Op.load _ _) _ _ _ _ :: _) _ _); refine wpList_loadS rfl _ _ rfl S _ rfl 0 _ _ rfl _ Tryz.underlying24 rfl (adSize _ _ _ hip) ?_)
      | ((with_reducible show wpList _ _ _ (Oper.mk _ (Op.load _ _) _ _ _ _ :: _) _ _); refine wpList_cellS rfl _ _ rfl S _ _ rfl 0 _ _ rfl _ Tryz.underlying3 rfl _ (by with_reducible exact hzc) ?_))
    go_ret
    exact ⟨ret_str (by rw [HE.out, ByteArray.mk_append_mk, ByteArray.mk_append_mk]; simp), S.below⟩
  · rw [if_neg h0] at hdef
    have hd : decide ((0 : Int) < z) = false := decide_eq_false h0
    have HE := Lib.hid hdef
    clear hdef h0 hP hD
    go_enter Tryz.func31, Tryz.ntmps31
    go_wp2_with (first
      | ((with_reducible show wpList _ _ _ (Oper.mk _ (Op.box _ _) _ _ _ _ :: _) _ _); refine wpList_boxS rfl _ _ rfl (adCs f ip z).toArray rfl S ?_; clear S; intro ga w1 S)
      | ((with_reducible refine (HA.out _ (HPd.out _ _ S) (HDd.out _ _ S)).mono ?_); rintro e w2 ⟨rfl, hb⟩; have S := S.call hb; clear hb)
      | ((with_reducible show wpList _ _ _ (Oper.mk _ (Op.load _ _) _ _ _ _ :: _) _ _); refine wpList_loadS rfl _ _ rfl S _ rfl 0 _ _ rfl _ Tryz.underlying24 rfl (adSize _ _ _ hip) ?_)
      | ((with_reducible show wpList _ _ _ (Oper.mk _ (Op.load _ _) _ _ _ _ :: _) _ _); refine wpList_cellS rfl _ _ rfl S _ _ rfl 0 _ _ rfl _ Tryz.underlying3 rfl _ (by with_reducible exact hzc) ?_))
    go_ret
    exact ⟨ret_str (by rw [HE.out]), S.below⟩
end Go.Proofs.YthbdeafbdmbabaaGreatDoor
namespace Go.Proofs.YthbdeafbdmbabaaGreatDoor
open Go.RowKit Go
set_option linter.unusedVariables false
set_option maxRecDepth 100000
def bInts (l : List UInt8) : List Int := l.map fun c : UInt8 => ((c.toNat : Nat) : Int)
theorem bInts_len (l : List UInt8) : (bInts l).length = l.length := by simp [bInts]
theorem elemB : Elem1 Tryz.prog 5 (.int .u8 0) 1 := by unfold Elem1; kernel_rfl
/-- 'append(out, b...)' of bytes that lie somewhere -/
theorem wpList_appInts {P : Program} {w : World} {ops : Array Oper} {rest : List Oper} {o : Oper} {a : Act} {Q : Exit → Act → World → Prop} (hgd : o.guard = none) (s x : Operand) (t e : TypeId)
    (ho : o.op = .call { callee := .builtin .append, args := #[s, x], argTypes := #[t, t] }) (ht : P.underlying t = some (.slice e)) {z : Value} {bytes : Nat} (hI : Elem1 P e z bytes) (hzs : z.cells.size = 1)
    (base : Nat) (v : Value) (n m c : Nat) (A : Option Addr) (q : IntKind) (xs : List Value) (l : List Int) (hs : a.eval s = v) (hx : a.eval x = .slice A m c) (hm0 : 0 < m) (hl : IntsAt w q A m l) (hown : w.ownsRow base e 1 v n xs)
    (hm : m ≤ 1000) (hb : (n + m) * bytes ≤ 140737488355328) (hn : n + m ≤ 140737488355328) (hbase : base ≤ w.heap.size)
    (h : ∀ v' w', w'.ownsRow base e 1 v' (n + m) (xs ++ intVs q l) → Below base w w' → wpList P ops Q rest (a.put o.dst v') w') : wpList P ops Q (o :: rest) a w := by
  obtain ⟨i, hi, hz, h1, h2⟩ := info_parts hI
  have hlen : l.length = m := hl.1.symm
  obtain ⟨b, o', rfl, hlt, hc⟩ := hl.2 hm0
  refine wpList_append_own w hgd s x t ho base e i z 1 bytes ht hi hz h1 h2 hzs (by decide) v n xs hs hown _ m c (intVs q l) hx (by rw [intVs_len]; omega) ?_ ?_ ?_ hb hbase ?_
  · intro j y hj
    have hjl : j < l.length := by
      have := (List.getElem?_eq_some_iff.1 hj).1
      rwa [intVs_len] at this
    have hadd : (⟨b, o', none⟩ : Addr).add j = ⟨b, o' + j, none⟩ := by unfold Addr.add; split <;> simp_all
    rw [hadd, hc j hjl]
    simp [intVs, hjl] at hj
    rw [← hj]
  · intro y hy
    obtain ⟨q, _, rfl⟩ := List.mem_map.1 hy
    rfl
  · unfold maxLen; omega
  · intro v' w' hown' hgrow hnil
    refine h v' w' hown' ?_
    exact (Below.refl base w).grown hgrow hbase (fun k hk => (hown.lt k hk).1)
theorem fit_any (n : Nat) (b : Bool) (w : World) :
    Calls Tryz.prog 88 #[.int .i64 n, .bool b] w fun e w' => e = .returned (.bool (if b = true then decide (n ≤ 14) else decide (n = 16))) ∧ w = w' := by
  cases b with
  | true =>
    have h1 : decide ((n : Int) ≤ 14) = decide (n ≤ 14) := decide_eq_decide.2 (by omega)
    go_enter Tryz.func88, Tryz.ntmps88
    go_wp2
    go_ret
    exact ⟨ret_bool (by first | rfl | simp), rfl⟩
  | false =>
    have h1 : ((n : Int) == 16) = decide (n = 16) := by rw [Bool.eq_iff_iff, beq_iff_eq, decide_eq_true_eq]; omega
    go_enter Tryz.func88, Tryz.ntmps88
    go_wp2
    go_ret
    exact ⟨ret_bool (by first | rfl | simp), rfl⟩
theorem i64_or_nat (a b : Nat) (ha : a < 4294967296) (hb : b < 4294967296) : bits .or .i64 (a : Int) (b : Int) = ((a ||| b : Nat) : Int) := by
  have hx : a ||| b < 2 ^ 32 := Nat.or_lt_two_pow (by omega) (by omega)
  show IntKind.i64.wrap ((BitVec.ofInt 64 (a : Int) ||| BitVec.ofInt 64 (b : Int)).toNat : Int) = _
  rw [BitVec.toNat_or, ofInt_u64 a (by omega), ofInt_u64 b (by omega), IntKind.wrap_i64]
  omega
theorem hex_or (n d : Nat) (hn : n < 65536) (hd : d < 16) : bits BinOp.or IntKind.i64 ((n : Int) * 16) (d : Int) = ((16 * n + d : Nat) : Int) := by
  have h := i64_or_nat (n * 16) d (by omega) (by omega)
  have e := Nat.shiftLeft_add_eq_or_of_lt (show d < 2 ^ 4 by omega) n
  rw [Nat.shiftLeft_eq] at e
  rw [← show n * 16 + d = n * 16 ||| d from e] at h
  rw [show ((n : Int) * 16) = ((n * 16 : Nat) : Int) by omega, h]
  omega
theorem hexN_take (s : ByteArray) (k : Nat) (h : k < s.size) : hexN (s.data.toList.take (k + 1)) = 16 * hexN (s.data.toList.take k) + (hexV s[k].toNat).toNat := by
  rw [take_snoc s k h, hexN_snoc]
theorem allH_take (s : ByteArray) (k : Nat) (h : k < s.size) (ha : allH (s.data.toList.take k) = true) (hb : hexB s[k].toNat = true) : allH (s.data.toList.take (k + 1)) = true := by
  rw [take_snoc s k h]
  unfold allH at ha ⊢
  rw [List.all_append, ha]
  simp [hb]
theorem allH_bad (s : ByteArray) (k : Nat) (h : k < s.size) (hb : hexB s[k].toNat = false) : allH s.data.toList = false := by
  unfold allH
  rw [List.all_eq_false]
  have hm : s[k] ∈ s.data.toList := by
    have : s.data.toList[k]'(by simpa using h) ∈ s.data.toList := List.getElem_mem _
    exact this
  exact ⟨_, hm, by rw [hb]; simp⟩
theorem group_none (l : List UInt8) (h : l = [] ∨ 4 < l.length ∨ allH l = false) : groupE l = none := by unfold groupE; rw [if_pos h]
theorem group_some (l : List UInt8) (h0 : l ≠ []) (h4 : l.length ≤ 4) (h : allH l = true) : groupE l = some (hexN l) := by unfold groupE; rw [if_neg (by simp [h0, h]; omega)]
def GroupP (l : List UInt8) (w : World) (e : Ending) (w' : World) : Prop :=
  ((groupE l = none ∧ e = .returned (.tuple #[.slice none 0 0, .bool false])) ∨ (∃ n A c, groupE l = some n ∧ e = .returned (.tuple #[.slice A 2 c, .bool true]) ∧ IntsAt w' .u8 A 2 (bInts [byN n 8, byN n 0]))) ∧ Below w.heap.size w w'
theorem byte2 (n : Nat) (h : n < 65536) : IntKind.u8.wrap ((n : Int) / 256) = ((byN n 8).toNat : Nat) ∧ IntKind.u8.wrap (n : Int) = ((byN n 0).toNat : Nat) := by
  rw [byN_toNat, byN_toNat, IntKind.wrap_u8', IntKind.wrap_u8']
  omega
set_option maxHeartbeats 2000000 in
theorem group_any (s : ByteArray) (w : World) (hs : s.size ≤ 4000) :
    Calls Tryz.prog 112 #[.string s] w fun e w' => GroupP s.data.toList w e w' := by
  have hz := Lib.size_eq s
  by_cases h0 : s.data.toList = []
  · have hg := group_none _ (.inl h0)
    have h0' : s.toList.isEmpty = true := by rw [ByteArray.toList_eq, h0]; rfl
    have HG := Lib.hid hg
    clear hg h0 hz
    go_enter Tryz.func112, Tryz.ntmps112
    go_wp2
    go_ret2
    exact ⟨.inl ⟨HG.out, rfl⟩, Below.refl _ _⟩
  · have h0' : s.toList.isEmpty = false := by rw [ByteArray.toList_eq]; simpa using h0
    by_cases h4 : 4 < s.size
    · have hg := group_none s.data.toList (.inr (.inl (by omega)))
      have HG := Lib.hid hg
      clear hg h0 hz
      go_enter Tryz.func112, Tryz.ntmps112
      go_wp2
      go_ret2
      exact ⟨.inl ⟨HG.out, rfl⟩, Below.refl _ _⟩
    · have H0 := Lib.hid h0
      have HZ := Lib.hid hz
      clear h0 hz
      go_enter Tryz.func112, Tryz.ntmps112
      go_wp2
      go_loop [4, 17] (fun n i => ∃ k : Nat, i = .int .i64 k ∧ k ≤ s.size ∧ n = .int .i64 (hexN (s.data.toList.take k)) ∧ allH (s.data.toList.take k) = true) (fun _ i => s.size - (intOf i).toNat)
      case atStart => exact ⟨0, rfl, Nat.zero_le _, rfl, rfl⟩
      case round =>
        obtain ⟨k, rfl, hk, rfl, hall⟩ := hrel
        have HA := Lib.hid hall
        clear hall
        have hlt65 : hexN (s.data.toList.take k) < 65536 := by
          have h1 := hexN_lt (s.data.toList.take k)
          have h2 : (s.data.toList.take k).length ≤ 4 := by rw [List.length_take]; have := HZ.out; omega
          have : 16 ^ (s.data.toList.take k).length ≤ 16 ^ 4 := Nat.pow_le_pow_right (by decide) h2
          omega
        by_cases hlt : k < s.size
        · have hc := UInt8.toNat_lt s[k]
          have hx := hex_any s[k].toNat w (by omega) (by omega)
          have hst := hexN_take s k hlt
          have hal := allH_take s k hlt HA.out
          have hba := allH_bad s k hlt
          have hv := hexV_bd s[k].toNat
          obtain ⟨d, hd⟩ : ∃ d : Nat, hexV s[k].toNat = d := ⟨(hexV s[k].toNat).toNat, by omega⟩
          rw [hd] at hx hst
          rw [Int.toNat_natCast] at hst
          have hd15 : d ≤ 15 := by omega
          obtain ⟨b, hb⟩ : ∃ b, b = hexB s[k].toNat := ⟨_, rfl⟩
          rw [← hb] at hx hal hba
          have hor := hex_or (hexN (s.data.toList.take k)) d hlt65 (by omega)
          cases b with
          | true =>
            have hal' := hal rfl
            have HX := Lib.hid hx
            have HS := Lib.hid hst
            have HL := Lib.hid hal'
            clear hx hst hal hba hal' hv hd hb
            go_wp2_with (first
              | ((with_reducible refine HX.out.mono ?_); rintro e w2 ⟨rfl, hq⟩; subst hq))
            go_round
            case rel => exact ⟨k + 1, by go_num, by omega, ret_v (by rw [HS.out]; omega), HL.out⟩
            case measure => simp [intOf]; omega
          | false =>
            have hg := group_none _ (.inr (.inr (hba rfl)))
            have HX := Lib.hid hx
            have HG := Lib.hid hg
            clear hx hst hal hba hg hv hd hb hor
            go_wp2_with (first
              | ((with_reducible refine HX.out.mono ?_); rintro e w2 ⟨rfl, hq⟩; subst hq))
            go_ret2
            exact ⟨.inl ⟨HG.out, rfl⟩, Below.refl _ _⟩
        · obtain rfl : k = s.size := by omega
          have ht : s.data.toList.take s.size = s.data.toList := List.take_of_length_le (by simp)
          have hg := group_some s.data.toList H0.out (by have := HZ.out; omega) (by rw [← ht]; exact HA.out)
          obtain ⟨e1, e2⟩ := byte2 _ hlt65
          rw [← ht] at hg
          obtain ⟨n, hn⟩ : ∃ n, n = hexN (s.data.toList.take s.size) := ⟨_, rfl⟩
          rw [← hn] at hg e1 e2 hlt65 ⊢
          rw [ht] at hg
          have HG := Lib.hid hg
          clear hg hn ht
          have hints : ∀ wr : World, IntsAt (wr.alloc (.cells #[.int .u8 (byN n 8).toNat, .int .u8 (byN n 0).toNat] 5)) .u8 (some ⟨wr.heap.size, 0, none⟩) 2 (bInts [byN n 8, byN n 0]) := by
            intro wr
            refine ⟨rfl, fun _ => ⟨_, 0, rfl, by simp, fun j hj => ?_⟩⟩
            have hj2 : j < 2 := hj
            rw [Nat.zero_add, World.cell?_alloc_mark]
            match j, hj2 with
            | 0, _ => rfl
            | 1, _ => rfl
          have HI := Lib.hid hints
          clear hints
          go_wp2_with fail
          go_ret2
          exact ⟨.inr ⟨n, _, 2, HG.out, rfl, HI.out w⟩, (Below.refl _ w).alloc (Nat.le_refl _) _⟩
theorem slice16_4 (g : Nat) (w : World) : (Instr.sliceAt 22 (.pointer (some ⟨g, 1, none⟩)) none (some (.int .i64 4)) none).run Tryz.prog w = .ok (.slice (some ⟨g, 1, none⟩) 4 16) w := by
  have ha : Tryz.prog.arrayLen 22 = 16 := by kernel_rfl
  have he : Tryz.prog.elem 22 = 5 := by kernel_rfl
  rw [run_sliceAt_array_h w 22 _ (by kernel_rfl) .i64 4 (by omega) (by rw [ha]; omega), he, Tryz.sizeOf5]
  simp [slicedAt, ha, Result.andThen, Addr.add]
theorem ad_ints4 {w : World} {g t : Nat} {f z : Int} {ip : List UInt8} (A : At w g t (adCs f ip z).toArray) (h : ip.length = 16) : IntsAt w .u8 (some ⟨g, 1, none⟩) 4 (bInts (ip.take 4)) := by
  refine ⟨by rw [bInts_len, List.length_take]; omega, fun _ => ⟨g, 1, rfl, A.lt, fun j hj => ?_⟩⟩
  have hj4 : j < 4 := by rw [bInts_len, List.length_take] at hj; omega
  refine A.cells (1 + j) ?_
  rw [ad_byte f z ip j (ip[j]'(by omega)) (List.getElem?_eq_getElem (by omega))]
  simp [bInts]
theorem parseE_len (l : List UInt8) : (parseE l).ip.length = 16 := by
  unfold parseE
  split
  · exact looseE_len l
  · rfl
set_option maxHeartbeats 2000000 in
theorem four_any (s : ByteArray) (w : World) (hs : s.size ≤ 4000) (hP : P10 w) :
    Calls Tryz.prog 113 #[.string s] w fun e w' => (∃ A, e = .returned (.tuple #[.slice A 4 16, .bool (decide ((parseE s.data.toList).err = 0))]) ∧ IntsAt w' .u8 A 4 (bInts ((parseE s.data.toList).ip.take 4))) ∧ Below w.heap.size w w' := by
  have S := Ats.start w
  have hp := parse_any s w hs hP
  have hl := parseE_len s.data.toList
  have hsl := slice16_4
  obtain ⟨r, hr⟩ : ∃ r, r = parseE s.data.toList := ⟨_, rfl⟩
  rw [← hr] at hp hl ⊢
  simp only [adTup] at hp
  obtain ⟨fam, ip, er⟩ := r
  simp only at hp hl ⊢
  have hb : (er == 0) = decide (er = 0) := by rw [Bool.eq_iff_iff, beq_iff_eq, decide_eq_true_eq]
  obtain ⟨b, hbb⟩ : ∃ b, b = decide (er = 0) := ⟨_, rfl⟩
  rw [← hbb] at hb ⊢
  have HP := Lib.hid hp
  clear hp hr hbb
  go_enter Tryz.func113, Tryz.ntmps113
  go_wp2_with (first
    | ((with_reducible refine HP.out.mono ?_); rintro e w2 ⟨rfl, hb⟩; have S := S.call hb; clear hb)
    | ((with_reducible show wpList _ _ _ (Oper.mk _ (Op.alloc _) _ _ _ _ :: _) _ _); refine wpList_allocS rfl _ rfl _ adZero S ?_; clear S; intro ga w1 S)
    | ((with_reducible show wpList _ _ _ (Oper.mk _ (Op.store _ _ _) _ _ _ _ :: _) _ _); refine wpList_storeS rfl _ _ _ rfl S _ rfl _ rfl 0 _ _ rfl (adSize _ _ _ hl) (by exact ad_sizes _ _ _ _ _ _ rfl hl) (by exact adCs_one _ _ _) ?_; clear S; intro w1 S; (first | simp only [List.set_cons_zero] at S | simp only [List.set_cons_succ, List.set_cons_zero] at S | skip)))
  go_ret2
  exact ⟨⟨_, rfl, ad_ints4 (S.get (i := 0) rfl) hl⟩, S.below⟩
end Go.Proofs.YthbdeafbdmbabaaGreatDoor
namespace Go.Proofs.YthbdeafbdmbabaaGreatDoor
open Go.RowKit Go
set_option linter.unusedVariables false
set_option maxRecDepth 100000
theorem colIndex_any (x : ByteArray) (w : World) : Calls Tryz.prog 62 #[.string x, .string ⟨#[58]⟩] w fun e w' => e = .returned (.int .i64 (Lib.indexB x ⟨#[58]⟩)) ∧ w' = w := by
  refine (Tryz.strings_Index_one x 58 w).mono ?_
  rintro e w' ⟨rfl, rfl⟩
  refine ⟨?_, rfl⟩
  rw [← Lib.index_one]
theorem colCount_any (x : ByteArray) (w : World) : Calls Tryz.prog 130 #[.string x, .string ⟨#[58]⟩] w fun e w' => e = .returned (.int .i64 (Lib.countB x ⟨#[58]⟩)) ∧ w' = w := by
  refine (Tryz.strings_Count_one x 58 w).mono ?_
  rintro e w' ⟨rfl, rfl⟩
  refine ⟨?_, rfl⟩
  unfold Lib.countByte
  rw [← Lib.count_one]
theorem cutX_min (l : List UInt8) (m : Nat) (hm : 1 ≤ m) : cutXN 58 l (min m (l.length + 1) - 1) = cutXN 58 l (m - 1) := by
  by_cases h : m - 1 ≤ l.length
  · rw [show min m (l.length + 1) - 1 = m - 1 by omega]
  · rw [show min m (l.length + 1) - 1 = l.length by omega, cutXN_big 58 l l.length (m - 1 - l.length) (Nat.le_refl _), show l.length + (m - 1 - l.length) = m - 1 by omega]
theorem genSplitC_any (s : ByteArray) (m : Nat) (w : World) (hs : s.size ≤ 4000) (hm : 1 ≤ m) (hm2 : m ≤ 1000) :
    Calls Tryz.prog 114 #[.string s, .string ⟨#[58]⟩, .int .i64 0, .int .i64 m] w fun e w' =>
      ∃ R, RowOf (cutXN 58 s.data.toList (m - 1)) R ∧ e = .returned (.slice (some ⟨w.heap.size, 0, none⟩) (cutXN 58 s.data.toList (m - 1)).length (min m (s.size + 1))) ∧ w' = w.alloc (.cells R 9) := by
  have c := Any.strings_genSplit_core { Tryz.lays221 with } hi9N s ⟨#[58]⟩ 0 (m : Nat) (min m (s.size + 1)) w (by omega) (by decide) (Nat.zero_le _)
    (fun x c _ => colIndex_any x _) (colCount_any s w) (by omega) (by omega) (by rw [if_neg (by omega)]; omega)
  have e1 : (Lib.splitB ⟨#[58]⟩ 0 (min m (s.size + 1) - 1) s).map (·.data.toList) = cutXN 58 s.data.toList (m - 1) := by
    rw [Lib.splitB_data]
    show Lib.splitK [58] 0 _ _ = _
    rw [split_cutXN, Lib.size_eq, cutX_min _ _ hm]
  have e2 : (Lib.splitB ⟨#[58]⟩ 0 (min m (s.size + 1) - 1) s).length = (cutXN 58 s.data.toList (m - 1)).length := by rw [← e1, List.length_map]
  have r := rowOf_cells (Lib.splitB ⟨#[58]⟩ 0 (min m (s.size + 1) - 1) s) (min m (s.size + 1))
  rw [e1] at r
  rw [e2] at c
  exact c.mono fun e w' ⟨h1, h2⟩ => ⟨_, r, h1, h2⟩
theorem splitC_any (s : ByteArray) (m : Nat) (w : World) (hs : s.size ≤ 4000) (hm : 1 ≤ m) (hm2 : m ≤ 1000) :
    Calls Tryz.prog 90 #[.string s, .string ⟨#[58]⟩, .int .i64 m] w fun e w' =>
      ∃ R, RowOf (cutXN 58 s.data.toList (m - 1)) R ∧ e = .returned (.slice (some ⟨w.heap.size, 0, none⟩) (cutXN 58 s.data.toList (m - 1)).length (min m (s.size + 1))) ∧ w' = w.alloc (.cells R 9) := by
  have H := Lib.hid (genSplitC_any s m w hs hm hm2)
  go_enter Tryz.func90, Tryz.ntmps90
  go_wp2_with fail
  with_reducible refine H.out.mono ?_
  rintro e w' ⟨R, hR, rfl, rfl⟩
  have HR := Lib.hid hR
  clear hR
  go_wp2_with fail
  go_ret
  exact ⟨R, HR.out, rfl, rfl⟩
theorem groupY_any (p : List UInt8) (n : Nat) (w : World) (hs : p.length ≤ 4000) (h : groupE p = some n) :
    Calls Tryz.prog 112 #[.string ⟨p.toArray⟩] w fun e w' => (∃ A c, e = .returned (.tuple #[.slice A 2 c, .bool true]) ∧ IntsAt w' .u8 A 2 (bInts [byN n 8, byN n 0])) ∧ Below w.heap.size w w' := by
  refine (group_any ⟨p.toArray⟩ w (by show p.length ≤ 4000; exact hs)).mono ?_
  rintro e w' ⟨h1, h2⟩
  have e0 : (⟨p.toArray⟩ : ByteArray).data.toList = p := rfl
  rw [e0] at h1
  rcases h1 with ⟨hn, _⟩ | ⟨m, A, c, hm, he, hi⟩
  · rw [h] at hn; cases hn
  · rw [h] at hm
    injection hm with hm
    subst hm
    exact ⟨⟨A, c, he, hi⟩, h2⟩
theorem groupN_any (p : List UInt8) (w : World) (hs : p.length ≤ 4000) (h : groupE p = none) :
    Calls Tryz.prog 112 #[.string ⟨p.toArray⟩] w fun e w' => e = .returned (.tuple #[.slice none 0 0, .bool false]) ∧ Below w.heap.size w w' := by
  refine (group_any ⟨p.toArray⟩ w (by show p.length ≤ 4000; exact hs)).mono ?_
  rintro e w' ⟨h1, h2⟩
  have e0 : (⟨p.toArray⟩ : ByteArray).data.toList = p := rfl
  rw [e0] at h1
  rcases h1 with ⟨_, he⟩ | ⟨m, A, c, hm, _, _⟩
  · exact ⟨he, h2⟩
  · rw [h] at hm; cases hm
theorem fourY_any (p b : List UInt8) (w : World) (hs : p.length ≤ 4000) (hP : P10 w) (h : fourE p = some b) :
    Calls Tryz.prog 113 #[.string ⟨p.toArray⟩] w fun e w' => (∃ A, e = .returned (.tuple #[.slice A 4 16, .bool true]) ∧ IntsAt w' .u8 A 4 (bInts b)) ∧ Below w.heap.size w w' := by
  refine (four_any ⟨p.toArray⟩ w (by show p.length ≤ 4000; exact hs) hP).mono ?_
  rintro e w' ⟨⟨A, h1, hi⟩, h2⟩
  have e0 : (⟨p.toArray⟩ : ByteArray).data.toList = p := rfl
  rw [e0] at h1 hi
  unfold fourE at h
  split at h
  · rename_i he
    injection h with h
    rw [h] at hi
    rw [he] at h1
    exact ⟨⟨A, h1, hi⟩, h2⟩
  · cases h
theorem fourN_any (p : List UInt8) (w : World) (hs : p.length ≤ 4000) (hP : P10 w) (h : fourE p = none) :
    Calls Tryz.prog 113 #[.string ⟨p.toArray⟩] w fun e w' => (∃ A, e = .returned (.tuple #[.slice A 4 16, .bool false])) ∧ Below w.heap.size w w' := by
  refine (four_any ⟨p.toArray⟩ w (by show p.length ≤ 4000; exact hs) hP).mono ?_
  rintro e w' ⟨⟨A, h1, hi⟩, h2⟩
  have e0 : (⟨p.toArray⟩ : ByteArray).data.toList = p := rfl
  rw [e0] at h1
  unfold fourE at h
  split at h
  · cases h
  · rename_i he
    rw [decide_eq_false he] at h1
    exact ⟨⟨A, h1⟩, h2⟩
theorem grp2_bytes (b : List UInt8) (h : b.length = 4) : bytesG (grp2 b) = b := by
  match b, h with
  | [a, c, d, e], _ => simp [grp2, bytesG, byN_hi, byN_lo]
theorem four_len {p b : List UInt8} (h : fourE p = some b) : b.length = 4 := by
  unfold fourE at h
  split at h
  · injection h with h
    rw [← h, List.length_take, parseE_len]
    rfl
  · cases h
def HalfY (m : List Nat) (B : Nat) (w : World) (e : Ending) (w' : World) : Prop := (∃ A c, e = .returned (.tuple #[.slice A (2 * m.length) c, .bool true]) ∧ IntsAt w' .u8 A (2 * m.length) (bInts (bytesG m)) ∧ m.length ≤ 20) ∧ Below B w w'
def HalfP (last : Bool) (l : List UInt8) (w : World) (e : Ending) (w' : World) : Prop :=
  (sideC last l = none ∧ e = .returned (.tuple #[.slice none 0 0, .bool false]) ∧ Below w.heap.size w w') ∨ (∃ m, sideC last l = some m ∧ HalfY m w.heap.size w e w')
theorem own_bytes {w : World} {B e n k : Nat} {v : Value} {acc more : List Nat} {bs : List UInt8} (h : w.ownsRow B e 1 v (2 * acc.length + k) (intVs .u8 (bInts (bytesG acc)) ++ intVs .u8 (bInts bs))) (hb : bytesG more = bs) (hn : n = 2 * (acc ++ more).length) (hk : k = bs.length) :
    w.ownsRow B e 1 v n (intVs .u8 (bInts (bytesG (acc ++ more)))) := by
  have hl := bytesG_len more
  rw [hb] at hl
  rw [hn, bytesG_app, hb, List.length_append, Nat.mul_add]
  rw [hk, hl] at h
  simpa [bInts, intVs] using h
theorem sideP_go {last : Bool} {p : List UInt8} {r : List (List UInt8)} {n : Nat} (h : groupE p = some n) : sideP last (p :: r) = (sideP last r).map (n :: ·) := by rw [sideP, h]
theorem sideP_four {p b : List UInt8} (h : groupE p = none) (hb : fourE p = some b) : sideP true [p] = some (grp2 b) := by rw [sideP, h]; simp [hb]
theorem sideP_no {last : Bool} {p : List UInt8} {r : List (List UInt8)} (h : groupE p = none) (hc : ¬ (last = true ∧ r = []) ∨ fourE p = none) : sideP last (p :: r) = none := by
  rw [sideP, h]
  simp only
  rcases hc with hc | hc
  · rw [if_neg hc]
  · rw [hc]; split <;> rfl
end Go.Proofs.YthbdeafbdmbabaaGreatDoor
namespace Go.Proofs.YthbdeafbdmbabaaGreatDoor
open Go.RowKit Go
set_option linter.unusedVariables false
set_option maxRecDepth 100000
theorem drop_cons {ps : List (List UInt8)} {k : Nat} {p : List UInt8} (h : ps[k]? = some p) : ps.drop k = p :: ps.drop (k + 1) := by
  obtain ⟨h1, h2⟩ := List.getElem?_eq_some_iff.1 h
  rw [List.drop_eq_getElem_cons h1, h2]
set_option maxHeartbeats 4000000 in
theorem half_any (s : ByteArray) (last : Bool) (w : World) (hs : s.size ≤ 4000) (hP : P10 w) :
    Calls Tryz.prog 87 #[.string s, .bool last] w fun e w' => HalfP last s.data.toList w e w' := by
  by_cases h0 : s.data.toList = []
  · have hg : sideC last s.data.toList = some [] := by unfold sideC; rw [if_pos h0]
    have h0' : s.toList.isEmpty = true := by rw [ByteArray.toList_eq, h0]; rfl
    have HG := Lib.hid hg
    clear hg h0
    go_enter Tryz.func87, Tryz.ntmps87
    go_wp2
    go_ret2
    exact .inr ⟨[], HG.out, ⟨none, 0, rfl, ⟨rfl, fun h => absurd h (by decide)⟩, by decide⟩, Below.refl _ _⟩
  · have h0' : s.toList.isEmpty = false := by rw [ByteArray.toList_eq]; simpa using h0
    have hg : sideC last s.data.toList = sideP last (cutXN 58 s.data.toList 7) := by unfold sideC; rw [if_neg h0]
    have hsp := splitC_any s 8 w hs (by decide) (by decide)
    have hmem := cutXN_mem 58 s.data.toList 7
    have hlen := cutXN_len 58 s.data.toList 7
    rw [← Lib.size_eq] at hmem
    simp only [show 8 - 1 = 7 from rfl, Int.cast_ofNat_Int] at hsp
    obtain ⟨ps, hps⟩ : ∃ ps, ps = cutXN 58 s.data.toList 7 := ⟨_, rfl⟩
    rw [← hps] at hsp hmem hlen hg
    obtain ⟨R, hR⟩ : ∃ R, R = sideC last s.data.toList := ⟨_, rfl⟩
    have hHP : ∀ e w', (R = none ∧ e = .returned (.tuple #[.slice none 0 0, .bool false]) ∧ Below w.heap.size w w') ∨ (∃ m, R = some m ∧ HalfY m w.heap.size w e w') → HalfP last s.data.toList w e w' := by
      intro e w' h
      rw [hR] at h
      exact h
    rw [← hR] at hg
    have HSP := Lib.hid hsp
    have HH := Lib.hid hHP
    have HG := Lib.hid hg
    have HM := Lib.hid hmem
    have HP := Lib.hid hP
    clear hps hsp hg h0 hR hHP hmem hP
    go_enter Tryz.func87, Tryz.ntmps87
    go_wp2_with fail
    with_reducible refine HSP.out.mono ?_
    rintro e w1 ⟨C, hC, rfl, rfl⟩
    have HC := Lib.hid hC
    clear hC HSP
    have hb0 : Below w.heap.size w (w.alloc (.cells C 9)) := (Below.refl _ w).alloc (Nat.le_refl _) _
    have hcell : ∀ (j : Nat) (x : List UInt8), ps[j]? = some x → (w.alloc (.cells C 9)).cell? ⟨w.heap.size, j, none⟩ = some (strV x) := fun j x hx => by
      rw [World.cell?_alloc_mark]; exact HC.out j x hx
    have hP1 : P10 (w.alloc (.cells C 9)) := HP.out.below (Nat.le_refl _) hb0
    have hg1 : w.heap.size < (w.alloc (.cells C 9)).heap.size := by simp
    obtain ⟨gs, hgs⟩ : ∃ gs, gs = w.heap.size := ⟨_, rfl⟩
    have hb0' : Below gs w (w.alloc (.cells C 9)) := by rw [hgs]; exact hb0
    have HGS := Lib.hid hgs
    rw [← hgs] at hcell hg1 ⊢
    generalize w.alloc (.cells C 9) = w1 at hcell hP1 hg1 hb0' ⊢
    have HCL := Lib.hid hcell
    have HP1 := Lib.hid hP1
    have HB0 := Lib.hid hb0'
    clear hcell hP1 hb0 hb0' HP HC hgs
    go_wp2_with fail
    go_loopw [6, 18] (fun v i wr => ∃ (k : Nat) (acc : List Nat), i = .int .i64 k ∧ k ≤ ps.length ∧ wr.ownsRow w1.heap.size 5 1 v (2 * acc.length) (intVs .u8 (bInts (bytesG acc))) ∧ R = (sideP last (ps.drop k)).map (acc ++ ·) ∧ acc.length ≤ 2 * k ∧ Below w1.heap.size w1 wr) (fun _ i _ => ps.length - (intOf i).toNat)
    case atStart => exact ⟨0, [], rfl, Nat.zero_le _, World.ownsRow_nil _ _ _ _, by rw [HG.out, List.drop_zero]; simp, Nat.zero_le _, Below.refl _ _⟩
    case round =>
      obtain ⟨k, acc, rfl, hk, hown, hr, hal, HB⟩ := hrel
      have HO := Lib.hid hown
      have HR := Lib.hid hr
      clear hown hr HG
      by_cases hlt : k < ps.length
      · obtain ⟨p, hp⟩ : ∃ p, ps[k]? = some p := ⟨_, List.getElem?_eq_getElem hlt⟩
        have h1 := HCL.out k p hp
        rw [← HB.cell (p := ⟨gs, k, none⟩) hg1] at h1
        unfold strV at h1
        have hpl := HM.out p (List.mem_of_getElem? hp)
        have hdr := drop_cons hp
        have hrest : ps.drop (k + 1) = [] ↔ k + 1 = ps.length := by rw [List.drop_eq_nil_iff]; omega
        cases hgp : groupE p with
        | some n =>
          have hgc := groupY_any p n wr (by omega) hgp
          have hnew : R = (sideP last (ps.drop (k + 1))).map ((acc ++ [n]) ++ ·) := by
            rw [HR.out, hdr, sideP_go hgp, Option.map_map]
            congr 1
            funext x
            simp
          have HGC := Lib.hid hgc
          have HN := Lib.hid hnew
          clear hgc hnew hdr hrest hgp hp
          go_wp2_with fail
          with_reducible refine HGC.out.mono ?_
          rintro e w2 ⟨⟨A, c, rfl, hi⟩, hb⟩
          have HI := Lib.hid hi
          have HB2 := HB.trans (hb.mono HB.size)
          have hown2 := ownsRow_below HO.out hb
          clear hi HGC
          go_wp2_with (at_builtin; refine wpList_appInts rfl (.tmp 47) (.tmp 48) 46 5 rfl Tryz.underlying46 elemB rfl w1.heap.size _ (2 * acc.length) 2 c A .u8 _ (bInts [byN n 8, byN n 0]) rfl rfl (by decide) HI.out hown2 (by decide) (by omega) (by omega) HB2.size ?_)
          intro v3 w3 hown3 hb3
          have hown4 := own_bytes (acc := acc) (more := [n]) hown3 rfl rfl rfl
          have HB3 := HB2.trans hb3
          have HO4 := Lib.hid hown4
          clear hown3 hown4 hown2
          go_wp2_with fail
          go_roundw
          case rel => exact ⟨k + 1, acc ++ [n], by go_num, by omega, HO4.out, HN.out, by simp; omega, HB3⟩
          case measure => simp [intOf]; omega
        | none =>
          have hgc := groupN_any p wr (by omega) hgp
          have HGC := Lib.hid hgc
          by_cases hcl : last = true ∧ k + 1 = ps.length
          · obtain ⟨rfl, hc2⟩ := hcl
            have hPr : P10 wr := HP1.out.below (Nat.le_refl _) HB
            have hnil := hrest.2 hc2
            have t38 : ((k : Int) == (ps.length : Int) - 1) = true := by rw [beq_iff_eq]; omega
            cases hf : fourE p with
            | some b =>
              have hb4 := four_len hf
              have hnew : R = (sideP true (ps.drop (k + 1))).map ((acc ++ grp2 b) ++ ·) := by
                rw [HR.out, hdr, hnil, sideP_four hgp hf]
                simp [sideP]
              have hgb := grp2_bytes b hb4
              have HF := Lib.hid (fun wr (h : P10 wr) => fourY_any p b wr (by omega) h hf)
              have HN := Lib.hid hnew
              have HGB := Lib.hid hgb
              have HB4 := Lib.hid hb4
              clear hgc hnew hdr hrest hgp hp hc2 hnil hf hgb hb4
              go_wp2_with fail
              with_reducible refine HGC.out.mono ?_
              rintro e w2 ⟨rfl, hb⟩
              have HB2 := HB.trans (hb.mono HB.size)
              have hown2 := ownsRow_below HO.out hb
              have hP2 : P10 w2 := hPr.below (Nat.le_refl _) hb
              have HF2 := Lib.hid (HF.out w2 hP2)
              clear HGC HF hPr hP2
              go_wp2_with fail
              with_reducible refine HF2.out.mono ?_
              rintro e w3 ⟨⟨A, rfl, hi⟩, hb'⟩
              have HI := Lib.hid hi
              have HB3 := HB2.trans (hb'.mono HB2.size)
              have hown3 := ownsRow_below hown2 hb'
              clear hi HF2 hown2
              go_wp2_with (at_builtin; refine wpList_appInts rfl (.tmp 47) (.tmp 48) 46 5 rfl Tryz.underlying46 elemB rfl w1.heap.size _ (2 * acc.length) 4 16 A .u8 _ (bInts b) rfl rfl (by decide) HI.out hown3 (by decide) (by omega) (by omega) HB3.size ?_)
              intro v4 w4 hown4 hb4
              have hown5 := own_bytes (acc := acc) (more := grp2 b) hown4 HGB.out rfl (by rw [HB4.out])
              have HB5 := HB3.trans hb4
              have HO5 := Lib.hid hown5
              clear hown3 hown4 hown5
              go_wp2_with fail
              go_roundw
              case rel => exact ⟨k + 1, acc ++ grp2 b, by go_num, by omega, HO5.out, HN.out, by simp [grp2]; omega, HB5⟩
              case measure => simp [intOf]; omega
            | none =>
              have hno : R = none := by
                rw [HR.out, hdr, sideP_no hgp (.inr hf)]
                rfl
              have HNO := Lib.hid hno
              have HF := Lib.hid (fun wr (h : P10 wr) => fourN_any p wr (by omega) h hf)
              clear hgc hno hdr hrest hgp hp hc2 hnil hf
              go_wp2_with fail
              with_reducible refine HGC.out.mono ?_
              rintro e w2 ⟨rfl, hb⟩
              have HB2 := HB.trans (hb.mono HB.size)
              have hP2 : P10 w2 := hPr.below (Nat.le_refl _) hb
              have HF2 := Lib.hid (HF.out w2 hP2)
              clear HGC HF hPr hP2
              go_wp2_with fail
              with_reducible refine HF2.out.mono ?_
              rintro e w3 ⟨⟨A, rfl⟩, hb'⟩
              have HB3 := HB2.trans (hb'.mono HB2.size)
              clear HF2
              go_wp2_with fail
              go_ret2
              exact HH.out _ _ (.inl ⟨HNO.out, rfl, by rw [← HGS.out]; exact HB0.out.trans (HB3.mono (Nat.le_of_lt hg1))⟩)
          · have hno : R = none := by
              rw [HR.out, hdr, sideP_no hgp (.inl (fun h => hcl ⟨h.1, hrest.1 h.2⟩))]
              rfl
            have HNO := Lib.hid hno
            cases last with
            | false =>
              clear hgc hno hdr hrest hgp hp hcl
              go_wp2_with fail
              with_reducible refine HGC.out.mono ?_
              rintro e w2 ⟨rfl, hb⟩
              have HB2 := HB.trans (hb.mono HB.size)
              clear HGC
              go_wp2_with fail
              go_ret2
              exact HH.out _ _ (.inl ⟨HNO.out, rfl, by rw [← HGS.out]; exact HB0.out.trans (HB2.mono (Nat.le_of_lt hg1))⟩)
            | true =>
              have t38 : ((k : Int) == (ps.length : Int) - 1) = false := by
                rw [beq_eq_false_iff_ne]
                intro e
                exact hcl ⟨rfl, by omega⟩
              clear hgc hno hdr hrest hgp hp hcl
              go_wp2_with fail
              with_reducible refine HGC.out.mono ?_
              rintro e w2 ⟨rfl, hb⟩
              have HB2 := HB.trans (hb.mono HB.size)
              clear HGC
              go_wp2_with fail
              go_ret2
              exact HH.out _ _ (.inl ⟨HNO.out, rfl, by rw [← HGS.out]; exact HB0.out.trans (HB2.mono (Nat.le_of_lt hg1))⟩)
      · obtain rfl : k = ps.length := by omega
        have hfin : R = some acc := by
          rw [HR.out, List.drop_length]
          simp [sideP]
        have HF := Lib.hid hfin
        clear hfin HR
        obtain ⟨A, c, rfl, hi⟩ := IntsAt.of_own HO.out
        have HI := Lib.hid hi
        clear hi HO
        go_wp2_with fail
        go_ret2
        exact HH.out _ _ (.inr ⟨acc, HF.out, ⟨A, c, rfl, HI.out, by omega⟩, by rw [← HGS.out]; exact HB0.out.trans (HB.mono (Nat.le_of_lt hg1))⟩)
end Go.Proofs.YthbdeafbdmbabaaGreatDoor
namespace Go.Proofs.YthbdeafbdmbabaaGreatDoor
open Go.RowKit Go
set_option linter.unusedVariables false
set_option maxRecDepth 100000
set_option maxHeartbeats 2000000 in
theorem refGroup_any (f z : Int) (ip : List UInt8) (k : Nat) (w : World) (hip : ip.length = 16) (hk : k < 8) :
    Calls Tryz.prog 55 #[adV f ip z, .int .i64 k] w fun e w' => e = .returned (.int .i64 ((groupsG ip).getD k 0 : Nat)) ∧ Below w.heap.size w w' := by
  have S := Ats.start w
  obtain ⟨h0, h1⟩ := ad_two f z ip k hip hk
  have hg : (groupsG ip).getD k 0 = 256 * (ip.getD (2 * k) 0).toNat + (ip.getD (2 * k + 1) 0).toNat := by
    rw [List.getD_eq_getElem?_getD, groupsG_at ip k hk]; rfl
  have b0 := UInt8.toNat_lt (ip.getD (2 * k) 0)
  have b1 := UInt8.toNat_lt (ip.getD (2 * k + 1) 0)
  obtain ⟨x, hx⟩ : ∃ x, x = ip.getD (2 * k) 0 := ⟨_, rfl⟩
  obtain ⟨y, hy⟩ : ∃ y, y = ip.getD (2 * k + 1) 0 := ⟨_, rfl⟩
  rw [← hx] at h0 hg b0
  rw [← hy] at h1 hg b1
  have HG := Lib.hid hg
  have e1 : IntKind.i64.wrap (2 * (k : Int)) = 2 * k := IntWalk.i64_in _ (by omega)
  have e2 : IntKind.i64.wrap (2 * (k : Int) + 1) = 2 * k + 1 := IntWalk.i64_in _ (by omega)
  have e3 : IntKind.i64.wrap (256 * (x.toNat : Int)) = 256 * x.toNat := IntWalk.i64_in _ (by omega)
  have e4 : IntKind.i64.wrap (256 * (x.toNat : Int) + y.toNat) = 256 * x.toNat + y.toNat := IntWalk.i64_in _ (by omega)
  have e5 := wrapU8 x
  have e6 := wrapU8 y
  have e7 : (0 : Int) ≤ 2 * k ∧ 2 * (k : Int) < 16 := by omega
  have e8 : (0 : Int) ≤ 2 * k + 1 ∧ 2 * (k : Int) + 1 < 16 := by omega
  have e9 : (2 * (k : Int)).toNat = 2 * k := by omega
  have e10 : (2 * (k : Int) + 1).toNat = 2 * k + 1 := by omega
  clear hg hx hy
  go_enter Tryz.func55, Tryz.ntmps55
  go_wp2_with (first
    | ((with_reducible show wpList _ _ _ (Oper.mk _ (Op.box _ _) _ _ _ _ :: _) _ _); refine wpList_boxS rfl _ _ rfl (adCs f ip z).toArray rfl S ?_; clear S; intro ga w1 S))
  (try simp only [Act.put, List.setIfInBounds_toArray, List.set_cons_succ, List.set_cons_zero]); refine quietS_region (by kernel_rfl) (by kernel_rfl) S ?_
  repeat (first
    | go_big_quiet_skip
    | (go_big_quiet_want
       first
         | ((with_reducible show Oper.quiet _ (Oper.mk _ (Op.load _ (Operand.tmp 8)) _ _ _ _) _ _ _); refine q_cellS _ _ rfl _ _ rfl 0 _ _ rfl _ Tryz.underlying5 rfl _ (by exact h0) ?_)
         | ((with_reducible show Oper.quiet _ (Oper.mk _ (Op.load _ (Operand.tmp 16)) _ _ _ _) _ _ _); refine q_cellS _ _ rfl _ _ rfl 0 _ _ rfl _ Tryz.underlying5 rfl _ (by exact h1) ?_)
         | (refine q_pure (v := ?_) ?_ ?_; rotate_left; focus (intro w; go_simp; try with_reducible rfl))
       (simp only [Act.put, List.setIfInBounds_toArray, List.set_cons_succ, List.set_cons_zero]; go_big_quiet_on)))
  (refine wpQuiet_nil ?_; clear S; intro w1 S)
  go_wp2_with fail
  go_ret
  exact ⟨ret_int (by rw [HG.out]; omega), S.below⟩
end Go.Proofs.YthbdeafbdmbabaaGreatDoor
namespace Go.Proofs.YthbdeafbdmbabaaGreatDoor
open Go.RowKit Go
set_option linter.unusedVariables false
set_option maxRecDepth 100000
theorem zsG_D (g : List Nat) (k : Nat) (h : k < g.length) : (zsG g).getD k false = (g.getD k 0 == 0) := by
  rw [zsG_at (List.getElem?_eq_getElem h), List.getD_eq_getElem?_getD, List.getElem?_eq_getElem h]
  rfl
theorem allZ_bad {z : List Bool} {a n j : Nat} (hj : j < n) (h : z.getD (a + j) false = false) : allZ z a n = false := by
  unfold allZ
  rw [List.all_eq_false]
  exact ⟨j, List.mem_range.2 hj, by rw [h]; simp⟩
theorem allZ_end {z : List Bool} {a n : Nat} (h : ∀ j, j < n → z.getD (a + j) false = true) : allZ z a n = true := by
  unfold allZ
  rw [List.all_eq_true]
  intro j hj
  exact h j (List.mem_range.1 hj)
set_option maxHeartbeats 2000000 in
theorem empty_any (f z : Int) (ip : List UInt8) (a n : Nat) (w : World) (hip : ip.length = 16) (hn : a + n ≤ 8) :
    Calls Tryz.prog 78 #[adV f ip z, .int .i64 a, .int .i64 n] w fun e w' => e = .returned (.bool (allZ (zsG (groupsG ip)) a n)) ∧ Below w.heap.size w w' := by
  have S := Ats.start w
  have hGl := groupsG_len ip
  have hgr := fun k w (h : k < 8) => refGroup_any f z ip k w hip h
  obtain ⟨G, hGG⟩ : ∃ G, G = groupsG ip := ⟨_, rfl⟩
  rw [← hGG] at hGl hgr ⊢
  have HG := Lib.hid hgr
  clear hgr hGG
  have hwr : IntKind.i64.wrap ((a : Int) + n) = a + n := IntWalk.i64_in _ (by omega)
  go_enter Tryz.func78, Tryz.ntmps78
  go_wp2_with (first
    | ((with_reducible show wpList _ _ _ (Oper.mk _ (Op.box _ _) _ _ _ _ :: _) _ _); refine wpList_boxS rfl _ _ rfl (adCs f ip z).toArray rfl S ?_; clear S; intro ga w1 S))
  go_loopw [7] (fun i wr => ∃ p : Nat, i = .int .i64 p ∧ a ≤ p ∧ p ≤ a + n ∧ (∀ j, a + j < p → (zsG G).getD (a + j) false = true) ∧ Ats w.heap.size w wr [(ga, 24, (adCs f ip z).toArray)]) (fun i _ => a + n - (intOf i).toNat)
  case atStart => exact ⟨a, rfl, Nat.le_refl _, by omega, fun j h => absurd h (by omega), S⟩
  case round =>
    obtain ⟨p, rfl, hap, hpn, hall, S⟩ := hrel
    have HA := Lib.hid hall
    clear hall
    by_cases hlt : p < a + n
    · have hc := HG.out p wr (by omega)
      have hz := zsG_D G p (by omega)
      have HC := Lib.hid hc
      clear hc
      have hc1 : decide ((p : Int) < (a : Int) + n) = true := by rw [decide_eq_true_eq]; omega
      obtain ⟨v, hv⟩ : ∃ v, v = G.getD p 0 := ⟨_, rfl⟩
      rw [← hv] at HC hz
      by_cases h0 : v = 0
      · have hd : ((v : Int) != 0) = false := by simpa using h0
        have hz1 : (zsG G).getD p false = true := by rw [hz, h0]; rfl
        have HZ := Lib.hid hz1
        clear hz hz1 hv h0
        go_wp2_with (first
          | ((with_reducible refine HC.out.mono ?_); rintro e w2 ⟨rfl, hb⟩; have S := S.call hb; clear hb)
          | ((with_reducible show wpList _ _ _ (Oper.mk _ (Op.load _ _) _ _ _ _ :: _) _ _); refine wpList_loadS rfl _ _ rfl S _ rfl 0 _ _ rfl _ Tryz.underlying24 rfl (adSize _ _ _ hip) ?_))
        go_roundw
        case rel => exact ⟨p + 1, by go_num, by omega, by omega, fun j hj => by
          by_cases e : a + j = p
          · rw [e]; exact HZ.out
          · exact HA.out j (by omega), S⟩
        case measure => simp [intOf]; omega
      · have hd : ((v : Int) != 0) = true := by simpa using h0
        have hz1 : allZ (zsG G) a n = false := allZ_bad (j := p - a) (by omega) (by rw [show a + (p - a) = p by omega, hz]; simpa using h0)
        have HZ := Lib.hid hz1
        clear hz hz1 hv h0
        go_wp2_with (first
          | ((with_reducible refine HC.out.mono ?_); rintro e w2 ⟨rfl, hb⟩; have S := S.call hb; clear hb)
          | ((with_reducible show wpList _ _ _ (Oper.mk _ (Op.load _ _) _ _ _ _ :: _) _ _); refine wpList_loadS rfl _ _ rfl S _ rfl 0 _ _ rfl _ Tryz.underlying24 rfl (adSize _ _ _ hip) ?_))
        go_ret
        exact ⟨ret_bool HZ.out.symm, S.below⟩
    · have hc1 : decide ((p : Int) < (a : Int) + n) = false := by rw [decide_eq_false_iff_not]; omega
      have HZ := Lib.hid (allZ_end (z := zsG G) (a := a) (n := n) (fun j hj => HA.out j (by omega)))
      go_wp2_with fail
      go_ret
      exact ⟨ret_bool HZ.out.symm, S.below⟩
theorem rowF_step (z : List Bool) (n : Nat) (nx : Nat × Nat) (j a : Nat) (h : a + n + j = 8) : rowF z n nx (j + 1) = if allZ z a n then (a, n) else rowF z n nx j := by
  rw [rowF, show 9 - n - (j + 1) = a by omega]
set_option maxHeartbeats 2000000 in
theorem row_any (f z : Int) (ip : List UInt8) (w : World) (hip : ip.length = 16) :
    Calls Tryz.prog 53 #[adV f ip z] w fun e w' => e = .returned (.tuple #[.int .i64 (rowE (zsG (groupsG ip))).1, .int .i64 (rowE (zsG (groupsG ip))).2]) ∧ Below w.heap.size w w' := by
  have S := Ats.start w
  have hem := fun a n w (h : a + n ≤ 8) => empty_any f z ip a n w hip h
  obtain ⟨Z, hZ⟩ : ∃ Z, Z = zsG (groupsG ip) := ⟨_, rfl⟩
  rw [← hZ] at hem ⊢
  have HM := Lib.hid hem
  clear hem hZ
  have hr8 : rowE Z = rowN Z 8 := rfl
  obtain ⟨R, hR⟩ : ∃ R, R = rowE Z := ⟨_, rfl⟩
  rw [← hR] at hr8 ⊢
  have HR := Lib.hid hr8
  clear hr8 hR
  go_enter Tryz.func53, Tryz.ntmps53
  go_wp2_with (first
    | ((with_reducible show wpList _ _ _ (Oper.mk _ (Op.box _ _) _ _ _ _ :: _) _ _); refine wpList_boxS rfl _ _ rfl (adCs f ip z).toArray rfl S ?_; clear S; intro ga w1 S))
  go_loopw [4] (fun i wr => ∃ n : Nat, i = .int .i64 n ∧ 1 ≤ n ∧ n ≤ 8 ∧ R = rowN Z n ∧ Ats w.heap.size w wr [(ga, 24, (adCs f ip z).toArray)]) (fun i _ => (intOf i).toNat)
  case atStart => exact ⟨8, rfl, by decide, Nat.le_refl _, HR.out, S⟩
  case round =>
    obtain ⟨n, rfl, hn1, hn8, hr, S⟩ := hrel
    have HN := Lib.hid hr
    clear hr HR
    by_cases hlt : 2 ≤ n
    · have hr2 : R = rowF Z n (rowN Z (n - 1)) (9 - n) := by
        rw [HN.out]
        obtain ⟨m, rfl⟩ : ∃ m, n = m + 1 := ⟨n - 1, by omega⟩
        rw [rowN, if_neg (by omega)]
        rfl
      have HN2 := Lib.hid hr2
      clear hr2 HN
      have hc1 : decide ((2 : Int) ≤ n) = true := by rw [decide_eq_true_eq]; omega
      go_wp2_with fail
      go_loopw [5] (fun i wr => ∃ a : Nat, i = .int .i64 a ∧ a + n ≤ 9 ∧ R = rowF Z n (rowN Z (n - 1)) (9 - n - a) ∧ Ats w.heap.size w wr [(ga, 24, (adCs f ip z).toArray)]) (fun i _ => 9 - (intOf i).toNat)
      case atStart => exact ⟨0, rfl, by omega, HN2.out, S⟩
      case round =>
        obtain ⟨a, rfl, ha, hr, S⟩ := hrel
        have HA := Lib.hid hr
        clear hr HN2
        have hwr : IntKind.i64.wrap ((a : Int) + n) = a + n := IntWalk.i64_in _ (by omega)
        by_cases hal : a + n ≤ 8
        · have hc2 : decide ((a : Int) + n ≤ 8) = true := by rw [decide_eq_true_eq]; omega
          have hst := rowF_step Z n (rowN Z (n - 1)) (9 - n - (a + 1)) a (by omega)
          rw [show 9 - n - (a + 1) + 1 = 9 - n - a by omega, ← HA.out] at hst
          have hcm := HM.out a n wr hal
          obtain ⟨b, hb⟩ : ∃ b, b = allZ Z a n := ⟨_, rfl⟩
          rw [← hb] at hst hcm
          have HC := Lib.hid hcm
          clear hb hcm HA
          cases b with
          | true =>
            rw [if_pos rfl] at hst
            have HS := Lib.hid hst
            clear hst
            go_wp2_with (first
              | ((with_reducible refine HC.out.mono ?_); rintro e w2 ⟨rfl, hb⟩; have S := S.call hb; clear hb)
              | ((with_reducible show wpList _ _ _ (Oper.mk _ (Op.load _ _) _ _ _ _ :: _) _ _); refine wpList_loadS rfl _ _ rfl S _ rfl 0 _ _ rfl _ Tryz.underlying24 rfl (adSize _ _ _ hip) ?_))
            go_ret2
            exact ⟨by rw [HS.out]; rfl, S.below⟩
          | false =>
            rw [if_neg (by simp)] at hst
            have HS := Lib.hid hst
            clear hst
            go_wp2_with (first
              | ((with_reducible refine HC.out.mono ?_); rintro e w2 ⟨rfl, hb⟩; have S := S.call hb; clear hb)
              | ((with_reducible show wpList _ _ _ (Oper.mk _ (Op.load _ _) _ _ _ _ :: _) _ _); refine wpList_loadS rfl _ _ rfl S _ rfl 0 _ _ rfl _ Tryz.underlying24 rfl (adSize _ _ _ hip) ?_))
            go_roundw
            case rel => exact ⟨a + 1, by go_num, by omega, HS.out, S⟩
            case measure => simp [intOf]; omega
        · have hc2 : decide ((a : Int) + n ≤ 8) = false := by rw [decide_eq_false_iff_not]; omega
          have hst : R = rowN Z (n - 1) := by rw [HA.out, show 9 - n - a = 0 by omega]; rfl
          have HS := Lib.hid hst
          clear hst HA
          go_wp2_with fail
          go_roundw
          case rel => exact ⟨n - 1, by go_num, by omega, by omega, HS.out, S⟩
          case measure => simp [intOf]; omega
    · have hc1 : decide ((2 : Int) ≤ n) = false := by rw [decide_eq_false_iff_not]; omega
      have hst : R = (8, 0) := by
        rw [HN.out]
        obtain rfl : n = 1 := by omega
        rfl
      have HS := Lib.hid hst
      clear hst HN
      go_wp2_with fail
      go_ret2
      exact ⟨by rw [HS.out]; rfl, S.below⟩
theorem hex_piece : ∀ d : Fin 16, (⟨#[48, 49, 50, 51, 52, 53, 54, 55, 56, 57, 97, 98, 99, 100, 101, 102]⟩ : ByteArray).extract d.val (d.val + 1) = ⟨#[hexC d.val]⟩ := by decide +kernel
theorem hexp_app (m : Nat) (S : List UInt8) : (⟨#[48, 49, 50, 51, 52, 53, 54, 55, 56, 57, 97, 98, 99, 100, 101, 102]⟩ : ByteArray).extract (m % 16) (m % 16 + 1) ++ ⟨S.toArray⟩ = ⟨(hexC (m % 16) :: S).toArray⟩ := by
  have := hex_piece ⟨m % 16, by omega⟩
  simp only at this
  rw [this, ByteArray.mk_append_mk]
  simp
theorem hex0 : hexL 0 = [48] := by rw [hexL_lo (by decide)]; rfl
set_option maxHeartbeats 2000000 in
theorem refHexN_any (n : Nat) (w : World) (hn : n < 65536) :
    Calls Tryz.prog 54 #[.int .i64 n] w fun e w' => e = .returned (.string ⟨(hexL n).toArray⟩) ∧ w = w' := by
  by_cases h0 : n = 0
  · subst h0
    rw [hex0]
    go_enter Tryz.func54, Tryz.ntmps54
    go_wp2
    go_loop [3, 0] (fun s v => s = .string ⟨#[]⟩ ∧ v = .int .i64 0) (fun _ _ => 0)
    case atStart => exact ⟨rfl, rfl⟩
    case round =>
      obtain ⟨rfl, rfl⟩ := hrel
      go_wp2
      go_ret
      exact ⟨rfl, rfl⟩
  · have hl4 := hexL_len4 hn
    have hne := (hexL_all n).2.2.1
    have HL := Lib.hid hl4
    have HNE := Lib.hid hne
    clear hl4 hne
    go_enter Tryz.func54, Tryz.ntmps54
    go_wp2
    go_loop [3, 0] (fun s v => ∃ (m : Nat) (T : List UInt8), s = .string ⟨T.toArray⟩ ∧ v = .int .i64 m ∧ m < 65536 ∧ hexL n = (if m = 0 then [] else hexL m) ++ T) (fun _ v => (intOf v).toNat)
    case atStart => exact ⟨n, [], rfl, rfl, hn, by rw [if_neg h0]; simp⟩
    case round =>
      obtain ⟨m, T, rfl, rfl, hm, hx⟩ := hrel
      have hT : T.length ≤ 4 := by
        have := HL.out
        rw [hx, List.length_append] at this
        omega
      have HX := Lib.hid hx
      clear hx
      by_cases hm0 : m = 0
      · subst hm0
        have hfin : hexL n = T := by rw [HX.out]; rfl
        have hte : (T.isEmpty) = false := by
          have := HNE.out
          rw [hfin] at this
          simpa using this
        have HF := Lib.hid hfin
        clear hfin
        go_wp2
        go_ret
        exact ⟨ret_str (by rw [HF.out]), rfl⟩
      · have hp := hexp_app m T
        have hst : hexL n = (if m / 16 = 0 then [] else hexL (m / 16)) ++ (hexC (m % 16) :: T) := by
          rw [HX.out, if_neg hm0]
          by_cases h16 : m < 16
          · rw [hexL_lo h16, if_pos (by omega), show m % 16 = m by omega]; rfl
          · rw [hexL_hi h16, if_neg (by omega)]; simp
        have HP := Lib.hid hp
        have HS := Lib.hid hst
        clear hp hst
        have hm1 : 0 < m := by omega
        clear hm0
        go_wp2
        go_round
        case rel => exact ⟨m / 16, _, ret_s HP.out, by go_num, by omega, HS.out⟩
        case measure => simp [intOf]; omega
end Go.Proofs.YthbdeafbdmbabaaGreatDoor
namespace Go.Proofs.YthbdeafbdmbabaaGreatDoor
open Go.RowKit Go
set_option linter.unusedVariables false
set_option maxRecDepth 100000
theorem joiX_snoc (x : UInt8) (L : List (List UInt8)) (p : List UInt8) : joiX x (L ++ [p]) = if L = [] then p else joiX x L ++ x :: p := by
  induction L with
  | nil => rfl
  | cons q t ih =>
    rw [if_neg (by simp), List.cons_append, joiX_cons x q (t ++ [p]) (by simp), ih]
    cases t with
    | nil => rw [if_pos rfl]; rfl
    | cons r t => rw [if_neg (by simp), joiX_cons x q (r :: t) (by simp)]; simp
theorem hexs_take {g : List Nat} {k : Nat} (h : k < g.length) : hexs (g.take (k + 1)) = hexs (g.take k) ++ [hexL (g.getD k 0)] := by
  rw [hexs, List.take_succ_eq_append_getElem h, List.map_append, List.getD_eq_getElem?_getD, List.getElem?_eq_getElem h]; rfl
theorem hexs_nil {g : List Nat} {k : Nat} (h : k < g.length) : hexs (g.take k) = [] ↔ k = 0 := by
  constructor
  · intro e
    have := congrArg List.length e
    rw [hexs, List.length_map, List.length_take] at this
    have h0 : min k g.length = 0 := this
    omega
  · rintro rfl; rfl
def txtK (g : List Nat) (f m k : Nat) : List UInt8 := if k ≤ f then joiX 58 (hexs (g.take k)) else joiX 58 (hexs (g.take f)) ++ 58 :: 58 :: joiX 58 (hexs ((g.drop (f + m)).take (k - (f + m))))
theorem txt_a0 {g : List Nat} {f m : Nat} (h : 0 < g.length) (hf : 0 < f) : txtK g f m 1 = hexL (g.getD 0 0) := by
  unfold txtK
  rw [if_pos (by omega), show (1 : Nat) = 0 + 1 from rfl, hexs_take h, joiX_snoc, if_pos (by rfl)]
theorem txt_a {g : List Nat} {f m k : Nat} (h : k < g.length) (hf : k < f) (h0 : 0 < k) : txtK g f m (k + 1) = txtK g f m k ++ 58 :: hexL (g.getD k 0) := by
  unfold txtK
  rw [if_pos (by omega), if_pos (by omega), hexs_take h, joiX_snoc, if_neg (fun e => by have := (hexs_nil h).1 e; omega)]
theorem txt_b {g : List Nat} {f m : Nat} (hm : 1 ≤ m) : txtK g f m (f + 1) = txtK g f m f ++ [58, 58] := by
  unfold txtK
  rw [if_neg (by omega), if_pos (Nat.le_refl _), show f + 1 - (f + m) = 0 by omega]
  rfl
theorem txt_c {g : List Nat} {f m k : Nat} (h1 : f < k) (h2 : k < f + m) : txtK g f m (k + 1) = txtK g f m k := by
  unfold txtK
  rw [if_neg (by omega), if_neg (by omega), show k + 1 - (f + m) = 0 by omega, show k - (f + m) = 0 by omega]
theorem getD_drop (g : List Nat) (a j : Nat) : (g.drop a).getD j 0 = g.getD (a + j) 0 := by
  rw [List.getD_eq_getElem?_getD, List.getElem?_drop, List.getD_eq_getElem?_getD]
theorem txt_d {g : List Nat} {f m k : Nat} (h : k < g.length) (hm : 1 ≤ m) (hk : k = f + m) : txtK g f m (k + 1) = txtK g f m k ++ hexL (g.getD k 0) := by
  subst hk
  unfold txtK
  rw [if_neg (by omega), if_neg (by omega), show f + m + 1 - (f + m) = 0 + 1 by omega, show f + m - (f + m) = 0 by omega, hexs_take (by rw [List.length_drop]; omega), joiX_snoc, if_pos (by rfl), getD_drop]
  simp [hexs, joiX]
theorem txt_e {g : List Nat} {f m k : Nat} (h : k < g.length) (hm : 1 ≤ m) (hk : f + m < k) : txtK g f m (k + 1) = txtK g f m k ++ 58 :: hexL (g.getD k 0) := by
  unfold txtK
  rw [if_neg (by omega), if_neg (by omega)]
  obtain ⟨j, hj⟩ : ∃ j, j = k - (f + m) := ⟨_, rfl⟩
  have hjl : j < (g.drop (f + m)).length := by rw [List.length_drop]; omega
  rw [show k + 1 - (f + m) = j + 1 by omega, ← hj, hexs_take hjl, joiX_snoc, if_neg (fun e => by have := (hexs_nil hjl).1 e; omega), getD_drop, show f + m + j = k by omega]
  simp
theorem txt_len {g : List Nat} (f m k : Nat) (hg : g.length = 8) (hb : ∀ n ∈ g, n < 65536) : (txtK g f m k).length ≤ 100 := by
  unfold txtK
  split
  · have h1 := hexs_len (g.take k) (fun n hn => hb n (List.mem_of_mem_take hn))
    rw [List.length_take] at h1
    omega
  · have h1 := hexs_len (g.take f) (fun n hn => hb n (List.mem_of_mem_take hn))
    have h2 := hexs_len ((g.drop (f + m)).take (k - (f + m))) (fun n hn => hb n (List.mem_of_mem_drop (List.mem_of_mem_take hn)))
    rw [List.length_take] at h1
    rw [List.length_take, List.length_drop] at h2
    rw [List.length_append, List.length_cons, List.length_cons]
    omega
theorem txt_end {g : List Nat} (hg : g.length = 8) : txtK g (rowE (zsG g)).1 (rowE (zsG g)).2 8 = coreE g := by
  have hz : (zsG g).length = 8 := by simp [zsG, hg]
  obtain ⟨h1, h2, _⟩ := row_ok (zsG g) hz
  rw [h2]
  unfold coreE txtK
  by_cases hm : (nouE (zsG g)).2 < 2
  · rw [if_pos hm, if_pos hm, if_pos (by decide), List.take_of_length_le (by omega)]
  · rw [if_neg hm, if_neg hm, if_neg (by omega), List.take_of_length_le (l := List.drop _ g) (by rw [List.length_drop]; omega)]
theorem row_bd {g : List Nat} (hg : g.length = 8) : (rowE (zsG g) = (8, 0)) ∨ (2 ≤ (rowE (zsG g)).2 ∧ (rowE (zsG g)).1 + (rowE (zsG g)).2 ≤ 8) := by
  have hz : (zsG g).length = 8 := by simp [zsG, hg]
  obtain ⟨h1, h2, _⟩ := row_ok (zsG g) hz
  rw [h2]
  by_cases hm : (nouE (zsG g)).2 < 2
  · left; rw [if_pos hm]
  · right; rw [if_neg hm]; exact ⟨by omega, h1⟩
theorem map_allZ (g : List Nat) (hg : g.length = 8) : mapB g = (allZ (zsG g) 0 5 && (g.getD 5 0 == 65535)) := by
  match g, hg with
  | [a0, a1, a2, a3, a4, a5, a6, a7], _ =>
    simp [mapB, allZ, zsG, List.range_succ, Bool.and_assoc]
set_option maxHeartbeats 2000000 in
theorem mapped_any (f z : Int) (ip : List UInt8) (w : World) (hip : ip.length = 16) :
    Calls Tryz.prog 56 #[adV f ip z] w fun e w' => e = .returned (.bool (mapB (groupsG ip))) ∧ Below w.heap.size w w' := by
  have S := Ats.start w
  have h1 : ∀ w, Calls Tryz.prog 78 #[adV f ip z, .int .i64 0, .int .i64 5] w fun e w' => e = .returned (.bool (allZ (zsG (groupsG ip)) 0 5)) ∧ Below w.heap.size w w' := fun w => empty_any f z ip 0 5 w hip (by decide)
  have h2 : ∀ w, Calls Tryz.prog 55 #[adV f ip z, .int .i64 5] w fun e w' => e = .returned (.int .i64 ((groupsG ip).getD 5 0 : Nat)) ∧ Below w.heap.size w w' := fun w => refGroup_any f z ip 5 w hip (by decide)
  have hm := map_allZ (groupsG ip) (groupsG_len ip)
  obtain ⟨v, hv⟩ : ∃ v, v = (groupsG ip).getD 5 0 := ⟨_, rfl⟩
  obtain ⟨b, hb⟩ : ∃ b, b = allZ (zsG (groupsG ip)) 0 5 := ⟨_, rfl⟩
  obtain ⟨r, hr⟩ : ∃ r, r = mapB (groupsG ip) := ⟨_, rfl⟩
  rw [← hv] at h2 hm
  rw [← hb] at h1 hm
  rw [← hr] at hm ⊢
  have H1 := Lib.hid h1
  have H2 := Lib.hid h2
  clear h1 h2 hv hb hr
  obtain ⟨t, ht⟩ : ∃ t, t = (v == 65535) := ⟨_, rfl⟩
  have ht' : ((v : Int) == 65535) = t := by rw [ht, Bool.eq_iff_iff, beq_iff_eq, beq_iff_eq]; omega
  rw [← ht] at hm
  have HM := Lib.hid hm
  clear hm ht
  cases b with
  | true =>
    go_enter Tryz.func56, Tryz.ntmps56
    go_wp2_with (first
      | ((with_reducible show wpList _ _ _ (Oper.mk _ (Op.box _ _) _ _ _ _ :: _) _ _); refine wpList_boxS rfl _ _ rfl (adCs f ip z).toArray rfl S ?_; clear S; intro ga w1 S)
      | ((with_reducible refine (H1.out _).mono ?_); rintro e w2 ⟨rfl, hb⟩; have S := S.call hb; clear hb)
      | ((with_reducible refine (H2.out _).mono ?_); rintro e w2 ⟨rfl, hb⟩; have S := S.call hb; clear hb)
      | ((with_reducible show wpList _ _ _ (Oper.mk _ (Op.load _ _) _ _ _ _ :: _) _ _); refine wpList_loadS rfl _ _ rfl S _ rfl 0 _ _ rfl _ Tryz.underlying24 rfl (adSize _ _ _ hip) ?_))
    go_ret
    exact ⟨ret_bool (by rw [HM.out]; rfl), S.below⟩
  | false =>
    go_enter Tryz.func56, Tryz.ntmps56
    go_wp2_with (first
      | ((with_reducible show wpList _ _ _ (Oper.mk _ (Op.box _ _) _ _ _ _ :: _) _ _); refine wpList_boxS rfl _ _ rfl (adCs f ip z).toArray rfl S ?_; clear S; intro ga w1 S)
      | ((with_reducible refine (H1.out _).mono ?_); rintro e w2 ⟨rfl, hb⟩; have S := S.call hb; clear hb)
      | ((with_reducible refine (H2.out _).mono ?_); rintro e w2 ⟨rfl, hb⟩; have S := S.call hb; clear hb)
      | ((with_reducible show wpList _ _ _ (Oper.mk _ (Op.load _ _) _ _ _ _ :: _) _ _); refine wpList_loadS rfl _ _ rfl S _ rfl 0 _ _ rfl _ Tryz.underlying24 rfl (adSize _ _ _ hip) ?_))
    go_ret
    exact ⟨ret_bool (by rw [HM.out]; rfl), S.below⟩
set_option maxHeartbeats 4000000 in
theorem refText_any8 (f z : Int) (ip : List UInt8) (w : World) (hip : ip.length = 16) (hz0 : -9223372036854775808 ≤ z) (hz : z ≤ 9223372036854775807) :
    Calls Tryz.prog 33 #[adV f ip z] w fun e w' => e = .returned (.string ⟨(textC ip z).toArray⟩) ∧ Below w.heap.size w w' := by
  have S := Ats.start w
  have hdef : addrE ip = if mapB (groupsG ip) = true then mapT (ip.getD 12 0) (ip.getD 13 0) (ip.getD 14 0) (ip.getD 15 0) else coreE (groupsG ip) := rfl
  have htd : textC ip z = if 0 < z then addrE ip ++ 37 :: Lib.itoa z else addrE ip := rfl
  have hal := addr_len ip
  have hGl := groupsG_len ip
  have hGb := groupsG_lt ip
  have hmp := fun w => mapped_any f z ip w hip
  have hrw := fun w => row_any f z ip w hip
  have hgr := fun k w (h : k < 8) => refGroup_any f z ip k w hip h
  obtain ⟨G, hGG⟩ : ∃ G, G = groupsG ip := ⟨_, rfl⟩
  rw [← hGG] at hdef hGl hGb hmp hrw hgr
  clear hGG
  have hbd := row_bd hGl
  have hend := txt_end hGl
  have hof := fun w => refOf_any (ip.getD 12 0) (ip.getD 13 0) (ip.getD 14 0) (ip.getD 15 0) w
  have htx := fun w => refText_any 4 0 (quad16 (ip.getD 12 0) (ip.getD 13 0) (ip.getD 14 0) (ip.getD 15 0)) w rfl
  have hql := (quadT_len (ip.getD 12 0) (ip.getD 13 0) (ip.getD 14 0) (ip.getD 15 0)).1
  simp only [quad4_text] at htx
  obtain ⟨b12, b13, b14, b15⟩ := ad_bytes4 f z ip hip
  unfold mapT at hdef
  obtain ⟨q, hq⟩ : ∃ q, q = quadT (ip.getD 12 0) (ip.getD 13 0) (ip.getD 14 0) (ip.getD 15 0) := ⟨_, rfl⟩
  rw [← hq] at hdef htx hql
  obtain ⟨x12, h12⟩ : ∃ x, x = ip.getD 12 0 := ⟨_, rfl⟩
  obtain ⟨x13, h13⟩ : ∃ x, x = ip.getD 13 0 := ⟨_, rfl⟩
  obtain ⟨x14, h14⟩ : ∃ x, x = ip.getD 14 0 := ⟨_, rfl⟩
  obtain ⟨x15, h15⟩ : ∃ x, x = ip.getD 15 0 := ⟨_, rfl⟩
  rw [← h12, ← h13, ← h14, ← h15] at hof htx
  rw [← h12] at b12
  rw [← h13] at b13
  rw [← h14] at b14
  rw [← h15] at b15
  have c12 := UInt8.toNat_lt x12
  have c13 := UInt8.toNat_lt x13
  have c14 := UInt8.toNat_lt x14
  have c15 := UInt8.toNat_lt x15
  have hW := wrapU8
  have hzc := ad_zone f z ip hip
  obtain ⟨fr, hfr⟩ : ∃ fr, fr = (rowE (zsG G)).1 := ⟨_, rfl⟩
  obtain ⟨m, hm⟩ : ∃ m, m = (rowE (zsG G)).2 := ⟨_, rfl⟩
  have hb1 : (fr = 8 ∧ m = 0) ∨ (2 ≤ m ∧ fr + m ≤ 8) := by
    rw [hfr, hm]
    rcases hbd with h | ⟨h1, h2⟩
    · left; rw [h]; exact ⟨rfl, rfl⟩
    · right; exact ⟨h1, h2⟩
  rw [← hfr, ← hm] at hend hrw
  have HM := Lib.hid hmp
  have HR := Lib.hid hrw
  have HG := Lib.hid hgr
  have HO := Lib.hid hof
  have HT := Lib.hid htx
  have HE := Lib.hid hend
  have HD := Lib.hid hdef
  have HZ := Lib.hid htd
  have HB := Lib.hid hb1
  clear hmp hrw hgr hof htx hend hdef htd hb1 hbd hfr hm h12 h13 h14 h15 hq
  go_enter Tryz.func33, Tryz.ntmps33
  go_wp2_with (first
    | ((with_reducible show wpList _ _ _ (Oper.mk _ (Op.box _ _) _ _ _ _ :: _) _ _); refine wpList_boxS rfl _ _ rfl (adCs f ip z).toArray rfl S ?_; clear S; intro ga w1 S)
    | ((with_reducible refine (HR.out _).mono ?_); rintro e w2 ⟨rfl, hb⟩; have S := S.call hb; clear hb)
    | ((with_reducible show wpList _ _ _ (Oper.mk _ (Op.load _ _) _ _ _ _ :: _) _ _); refine wpList_loadS rfl _ _ rfl S _ rfl 0 _ _ rfl _ Tryz.underlying24 rfl (adSize _ _ _ hip) ?_))
  go_loopw [3, 6] (fun s i wr => ∃ k : Nat, i = .int .i64 k ∧ k ≤ 8 ∧ s = .string ⟨(txtK G fr m k).toArray⟩ ∧ Ats w.heap.size w wr [(ga, 24, (adCs f ip z).toArray)]) (fun _ i _ => 8 - (intOf i).toNat)
  case atStart => exact ⟨0, rfl, Nat.zero_le _, by unfold txtK; rw [if_pos (Nat.zero_le _)]; rfl, S⟩
  case round =>
    obtain ⟨k, rfl, hk, rfl, S⟩ := hrel
    by_cases hlt : k < 8
    · have hg := HG.out k wr hlt
      have hv : G.getD k 0 < 65536 := by
        rw [List.getD_eq_getElem?_getD, List.getElem?_eq_getElem (show k < G.length by omega)]
        exact hGb _ (List.getElem_mem _)
      have hx := fun w => refHexN_any (G.getD k 0) w hv
      have ha0 := txt_a0 (g := G) (f := fr) (m := m) (by omega)
      have hna := txt_a (g := G) (f := fr) (m := m) (k := k) (by omega)
      have hnb := txt_b (g := G) (f := fr) (m := m)
      have hnc := txt_c (g := G) (f := fr) (m := m) (k := k)
      have hnd := txt_d (g := G) (f := fr) (m := m) (k := k) (by omega)
      have hne := txt_e (g := G) (f := fr) (m := m) (k := k) (by omega)
      have hl := txt_len fr m k hGl hGb
      have hh4 := hexL_len4 hv
      obtain ⟨v, hvv⟩ : ∃ v, v = G.getD k 0 := ⟨_, rfl⟩
      rw [← hvv] at hg hx hna hnd hne hh4
      have HGk := Lib.hid hg
      have HX := Lib.hid hx
      have hwr : IntKind.i64.wrap ((fr : Int) + m) = fr + m := IntWalk.i64_in _ (by rcases HB.out with h | h <;> omega)
      obtain ⟨h, hh⟩ : ∃ h, h = hexL v := ⟨_, rfl⟩
      rw [← hh] at HX hna hnd hne hh4
      have hb := HB.out
      clear hg hx
      have h00 : k = 0 → 0 < fr → txtK G fr m (k + 1) = h := fun e hf => by subst e; rw [hh, hvv]; exact ha0 hf
      clear ha0
      rcases Nat.lt_trichotomy k fr with hA | hB | hC
      · by_cases h0 : k = 0
        · have t18 : decide ((fr : Int) ≤ k) = false := by rw [decide_eq_false_iff_not]; omega
          have t32 : decide ((0 : Int) < k) = false := by rw [decide_eq_false_iff_not]; omega
          have t32n : decide (0 < k) = false := by rw [decide_eq_false_iff_not]; omega
          have hk0 : txtK G fr m k = [] := by subst h0; unfold txtK; rw [if_pos (Nat.zero_le _)]; rfl
          have HQ := Lib.hid (show txtK G fr m (k + 1) = txtK G fr m k ++ h by rw [hk0, h00 h0 (by omega)]; rfl)
          clear hb hna hnb hnc hnd hne h00 hh hvv hk0 h0
          go_wp2_with (first
            | ((with_reducible refine HGk.out.mono ?_); rintro e w2 ⟨rfl, hb⟩; have S := S.call hb; clear hb)
            | ((with_reducible refine (HX.out _).mono ?_); rintro e w2 ⟨rfl, hq⟩; subst hq)
            | ((with_reducible show wpList _ _ _ (Oper.mk _ (Op.load _ _) _ _ _ _ :: _) _ _); refine wpList_loadS rfl _ _ rfl S _ rfl 0 _ _ rfl _ Tryz.underlying24 rfl (adSize _ _ _ hip) ?_))
          go_roundw
          case rel => exact ⟨k + 1, by go_num, by omega, ret_s (by rw [HQ.out]; try simp [ByteArray.mk_append_mk]), S⟩
          case measure => simp [intOf]; omega
        · have t18 : decide ((fr : Int) ≤ k) = false := by rw [decide_eq_false_iff_not]; omega
          have t32 : decide ((0 : Int) < k) = true := by rw [decide_eq_true_eq]; omega
          have t38 : ((k : Int) != fr + m) = true := by rw [bne_iff_ne]; omega
          have HQ := Lib.hid (hna (by omega) (by omega))
          clear hb hna hnb hnc hnd hne h00 hh hvv
          go_wp2_with (first
            | ((with_reducible refine HGk.out.mono ?_); rintro e w2 ⟨rfl, hb⟩; have S := S.call hb; clear hb)
            | ((with_reducible refine (HX.out _).mono ?_); rintro e w2 ⟨rfl, hq⟩; subst hq)
            | ((with_reducible show wpList _ _ _ (Oper.mk _ (Op.load _ _) _ _ _ _ :: _) _ _); refine wpList_loadS rfl _ _ rfl S _ rfl 0 _ _ rfl _ Tryz.underlying24 rfl (adSize _ _ _ hip) ?_))
          go_roundw
          case rel => exact ⟨k + 1, by go_num, by omega, ret_s (by rw [HQ.out]; try simp [ByteArray.mk_append_mk]), S⟩
          case measure => simp [intOf]; omega
      · have t18 : decide ((fr : Int) ≤ k) = true := by rw [decide_eq_true_eq]; omega
        have t24 : decide ((k : Int) < fr + m) = true := by rw [decide_eq_true_eq]; omega
        have t28 : ((k : Int) == fr) = true := by rw [beq_iff_eq]; omega
        have t28n : (k == fr) = true := by rw [beq_iff_eq]; omega
        have i1 : fr ≤ k := by omega
        have i2 : k < fr + m := by omega
        have HQ := Lib.hid (show txtK G fr m (k + 1) = txtK G fr m k ++ [58, 58] by subst hB; exact hnb (by omega))
        clear hb hna hnb hnc hnd hne h00 hh hvv hB
        go_wp2_with (first
          | ((with_reducible refine HGk.out.mono ?_); rintro e w2 ⟨rfl, hb⟩; have S := S.call hb; clear hb)
          | ((with_reducible refine (HX.out _).mono ?_); rintro e w2 ⟨rfl, hq⟩; subst hq)
          | ((with_reducible show wpList _ _ _ (Oper.mk _ (Op.load _ _) _ _ _ _ :: _) _ _); refine wpList_loadS rfl _ _ rfl S _ rfl 0 _ _ rfl _ Tryz.underlying24 rfl (adSize _ _ _ hip) ?_))
        go_roundw
        case rel => exact ⟨k + 1, by go_num, by omega, ret_s (by rw [HQ.out]; try simp [ByteArray.mk_append_mk]), S⟩
        case measure => simp [intOf]; omega
      · rcases Nat.lt_trichotomy k (fr + m) with hC2 | hD | hE
        · have t18 : decide ((fr : Int) ≤ k) = true := by rw [decide_eq_true_eq]; omega
          have t24 : decide ((k : Int) < fr + m) = true := by rw [decide_eq_true_eq]; omega
          have t28 : ((k : Int) == fr) = false := by rw [beq_eq_false_iff_ne]; omega
          have HQ := Lib.hid (hnc (by omega) (by omega))
          clear hb hna hnb hnc hnd hne h00 hh hvv
          go_wp2_with (first
            | ((with_reducible refine HGk.out.mono ?_); rintro e w2 ⟨rfl, hb⟩; have S := S.call hb; clear hb)
            | ((with_reducible refine (HX.out _).mono ?_); rintro e w2 ⟨rfl, hq⟩; subst hq)
            | ((with_reducible show wpList _ _ _ (Oper.mk _ (Op.load _ _) _ _ _ _ :: _) _ _); refine wpList_loadS rfl _ _ rfl S _ rfl 0 _ _ rfl _ Tryz.underlying24 rfl (adSize _ _ _ hip) ?_))
          go_roundw
          case rel => exact ⟨k + 1, by go_num, by omega, ret_s (by rw [HQ.out]; try simp [ByteArray.mk_append_mk]), S⟩
          case measure => simp [intOf]; omega
        · have t18 : decide ((fr : Int) ≤ k) = true := by rw [decide_eq_true_eq]; omega
          have t24 : decide ((k : Int) < fr + m) = false := by rw [decide_eq_false_iff_not]; omega
          have t32 : decide ((0 : Int) < k) = true := by rw [decide_eq_true_eq]; omega
          have t38 : ((k : Int) != fr + m) = false := by rw [bne_eq_false_iff_eq]; omega
          have HQ := Lib.hid (hnd (by omega) hD)
          clear hb hna hnb hnc hnd hne h00 hh hvv hD
          go_wp2_with (first
            | ((with_reducible refine HGk.out.mono ?_); rintro e w2 ⟨rfl, hb⟩; have S := S.call hb; clear hb)
            | ((with_reducible refine (HX.out _).mono ?_); rintro e w2 ⟨rfl, hq⟩; subst hq)
            | ((with_reducible show wpList _ _ _ (Oper.mk _ (Op.load _ _) _ _ _ _ :: _) _ _); refine wpList_loadS rfl _ _ rfl S _ rfl 0 _ _ rfl _ Tryz.underlying24 rfl (adSize _ _ _ hip) ?_))
          go_roundw
          case rel => exact ⟨k + 1, by go_num, by omega, ret_s (by rw [HQ.out]; try simp [ByteArray.mk_append_mk]), S⟩
          case measure => simp [intOf]; omega
        · have t18 : decide ((fr : Int) ≤ k) = true := by rw [decide_eq_true_eq]; omega
          have t24 : decide ((k : Int) < fr + m) = false := by rw [decide_eq_false_iff_not]; omega
          have t32 : decide ((0 : Int) < k) = true := by rw [decide_eq_true_eq]; omega
          have t38 : ((k : Int) != fr + m) = true := by rw [bne_iff_ne]; omega
          have HQ := Lib.hid (hne (by omega) (by omega))
          clear hb hna hnb hnc hnd hne h00 hh hvv
          go_wp2_with (first
            | ((with_reducible refine HGk.out.mono ?_); rintro e w2 ⟨rfl, hb⟩; have S := S.call hb; clear hb)
            | ((with_reducible refine (HX.out _).mono ?_); rintro e w2 ⟨rfl, hq⟩; subst hq)
            | ((with_reducible show wpList _ _ _ (Oper.mk _ (Op.load _ _) _ _ _ _ :: _) _ _); refine wpList_loadS rfl _ _ rfl S _ rfl 0 _ _ rfl _ Tryz.underlying24 rfl (adSize _ _ _ hip) ?_))
          go_roundw
          case rel => exact ⟨k + 1, by go_num, by omega, ret_s (by rw [HQ.out]; try simp [ByteArray.mk_append_mk]), S⟩
          case measure => simp [intOf]; omega
    · obtain rfl : k = 8 := by omega
      rw [HE.out]
      have hcl : (coreE G).length ≤ 100 := by rw [← HE.out]; exact txt_len fr m 8 hGl hGb
      obtain ⟨t, ht⟩ : ∃ t, t = Lib.itoa z := ⟨_, rfl⟩
      obtain ⟨r, hr⟩ : ∃ r, r = mapB G := ⟨_, rfl⟩
      obtain ⟨cg, hcg⟩ : ∃ cg, cg = coreE G := ⟨_, rfl⟩
      have hZ := HZ.out
      have hD := HD.out
      rw [← ht] at hZ
      rw [← hr, ← hcg] at hD
      rw [← hr] at HM
      rw [← hcg] at hcl ⊢
      by_cases h0 : 0 < z
      · have d0 : decide ((0 : Int) < z) = true := decide_eq_true h0
        rw [if_pos h0] at hZ
        have hdg := fun w => refDigits_any z w hz0 hz
        have hdl := itoa_len20 z (by omega) hz
        rw [← ht] at hdg hdl
        have HN := Lib.hid hdg
        cases r with
        | true =>
          rw [if_pos rfl] at hD
          rw [hD] at hZ
          have HF := Lib.hid hZ
          clear hdg h0 hZ hD ht hr hcg HE HB
          go_wp2_with (first
            | ((with_reducible refine (HM.out _).mono ?_); rintro e w2 ⟨rfl, hb⟩; have S := S.call hb; clear hb)
            | ((with_reducible refine (HO.out _).mono ?_); rintro e w2 ⟨rfl, hb⟩; have S := S.call hb; clear hb)
            | ((with_reducible refine (HT.out _).mono ?_); rintro e w2 ⟨rfl, hb⟩; have S := S.call hb; clear hb)
            | ((with_reducible refine (HN.out _).mono ?_); rintro e w2 ⟨rfl, hq⟩; subst hq)
            | ((with_reducible show wpList _ _ _ (Oper.mk _ (Op.load _ _) _ _ _ _ :: _) _ _); refine wpList_loadS rfl _ _ rfl S _ rfl 0 _ _ rfl _ Tryz.underlying24 rfl (adSize _ _ _ hip) ?_)
            | ((with_reducible show wpList _ _ _ (Oper.mk _ (Op.load _ _) _ _ _ _ :: _) _ _); refine wpList_cellS rfl _ _ rfl S _ _ rfl 0 _ _ rfl _ Tryz.underlying5 rfl _ (by with_reducible first | exact b12 | exact b13 | exact b14 | exact b15) ?_)
            | ((with_reducible show wpList _ _ _ (Oper.mk _ (Op.load _ _) _ _ _ _ :: _) _ _); refine wpList_cellS rfl _ _ rfl S _ _ rfl 0 _ _ rfl _ Tryz.underlying3 rfl _ (by with_reducible exact hzc) ?_))
          go_ret
          exact ⟨ret_str (by rw [HF.out]; simp [ByteArray.mk_append_mk]), S.below⟩
        | false =>
          rw [if_neg (by simp)] at hD
          rw [hD] at hZ
          have HF := Lib.hid hZ
          clear hdg h0 hZ hD ht hr hcg HE HB
          go_wp2_with (first
            | ((with_reducible refine (HM.out _).mono ?_); rintro e w2 ⟨rfl, hb⟩; have S := S.call hb; clear hb)
            | ((with_reducible refine (HN.out _).mono ?_); rintro e w2 ⟨rfl, hq⟩; subst hq)
            | ((with_reducible show wpList _ _ _ (Oper.mk _ (Op.load _ _) _ _ _ _ :: _) _ _); refine wpList_loadS rfl _ _ rfl S _ rfl 0 _ _ rfl _ Tryz.underlying24 rfl (adSize _ _ _ hip) ?_)
            | ((with_reducible show wpList _ _ _ (Oper.mk _ (Op.load _ _) _ _ _ _ :: _) _ _); refine wpList_cellS rfl _ _ rfl S _ _ rfl 0 _ _ rfl _ Tryz.underlying3 rfl _ (by with_reducible exact hzc) ?_))
          go_ret
          exact ⟨ret_str (by rw [HF.out]; simp [ByteArray.mk_append_mk]), S.below⟩
      · have d0 : decide ((0 : Int) < z) = false := decide_eq_false h0
        rw [if_neg h0] at hZ
        cases r with
        | true =>
          rw [if_pos rfl] at hD
          rw [hD] at hZ
          have HF := Lib.hid hZ
          clear h0 hZ hD ht hr hcg HE HB
          go_wp2_with (first
            | ((with_reducible refine (HM.out _).mono ?_); rintro e w2 ⟨rfl, hb⟩; have S := S.call hb; clear hb)
            | ((with_reducible refine (HO.out _).mono ?_); rintro e w2 ⟨rfl, hb⟩; have S := S.call hb; clear hb)
            | ((with_reducible refine (HT.out _).mono ?_); rintro e w2 ⟨rfl, hb⟩; have S := S.call hb; clear hb)
            | ((with_reducible show wpList _ _ _ (Oper.mk _ (Op.load _ _) _ _ _ _ :: _) _ _); refine wpList_loadS rfl _ _ rfl S _ rfl 0 _ _ rfl _ Tryz.underlying24 rfl (adSize _ _ _ hip) ?_)
            | ((with_reducible show wpList _ _ _ (Oper.mk _ (Op.load _ _) _ _ _ _ :: _) _ _); refine wpList_cellS rfl _ _ rfl S _ _ rfl 0 _ _ rfl _ Tryz.underlying5 rfl _ (by with_reducible first | exact b12 | exact b13 | exact b14 | exact b15) ?_)
            | ((with_reducible show wpList _ _ _ (Oper.mk _ (Op.load _ _) _ _ _ _ :: _) _ _); refine wpList_cellS rfl _ _ rfl S _ _ rfl 0 _ _ rfl _ Tryz.underlying3 rfl _ (by with_reducible exact hzc) ?_))
          go_ret
          exact ⟨ret_str (by rw [HF.out]; simp [ByteArray.mk_append_mk]), S.below⟩
        | false =>
          rw [if_neg (by simp)] at hD
          rw [hD] at hZ
          have HF := Lib.hid hZ
          clear h0 hZ hD ht hr hcg HE HB
          go_wp2_with (first
            | ((with_reducible refine (HM.out _).mono ?_); rintro e w2 ⟨rfl, hb⟩; have S := S.call hb; clear hb)
            | ((with_reducible show wpList _ _ _ (Oper.mk _ (Op.load _ _) _ _ _ _ :: _) _ _); refine wpList_loadS rfl _ _ rfl S _ rfl 0 _ _ rfl _ Tryz.underlying24 rfl (adSize _ _ _ hip) ?_)
            | ((with_reducible show wpList _ _ _ (Oper.mk _ (Op.load _ _) _ _ _ _ :: _) _ _); refine wpList_cellS rfl _ _ rfl S _ _ rfl 0 _ _ rfl _ Tryz.underlying3 rfl _ (by with_reducible exact hzc) ?_))
          go_ret
          exact ⟨ret_str (by rw [HF.out]), S.below⟩
end Go.Proofs.YthbdeafbdmbabaaGreatDoor
namespace Go.Proofs.YthbdeafbdmbabaaGreatDoor
open Go.RowKit Go
set_option linter.unusedVariables false
set_option maxRecDepth 100000
theorem cutX_len (x : UInt8) (l : List UInt8) : (cutX x l).length ≤ l.length + 1 := by
  induction l with
  | nil => simp [cutX]
  | cons c r ih =>
    rw [cutX]
    split
    · simp; omega
    · split
      · rename_i p t e
        rw [e] at ih
        simp at ih ⊢
        omega
      · simp
def PInv (x : UInt8) (l : List UInt8) (k a : Nat) (L : List (List UInt8)) : Prop := a ≤ k ∧ (∀ c ∈ (l.drop a).take (k - a), c ≠ x) ∧ cutX x l = L ++ cutX x (l.drop a)
theorem pInv_start (x : UInt8) (l : List UInt8) : PInv x l 0 0 [] := ⟨Nat.le_refl _, by simp, by simp⟩
theorem pInv_len {x : UInt8} {l : List UInt8} {k a : Nat} {L : List (List UInt8)} (h : PInv x l k a L) : L.length ≤ l.length + 1 := by
  have := cutX_len x l
  rw [h.2.2, List.length_append] at this
  omega
theorem pInv_go {x : UInt8} {l : List UInt8} {k a : Nat} {L : List (List UInt8)} (h : PInv x l k a L) (hk : k < l.length) (hc : l[k] ≠ x) : PInv x l (k + 1) a L := by
  obtain ⟨h1, h2, h3⟩ := h
  refine ⟨by omega, fun c hm => ?_, h3⟩
  rw [show k + 1 - a = (k - a) + 1 by omega, List.take_succ_eq_append_getElem (by rw [List.length_drop]; omega), List.mem_append, List.mem_singleton] at hm
  rcases hm with hm | hm
  · exact h2 c hm
  · rw [hm, List.getElem_drop]
    have e : a + (k - a) = k := by omega
    simp only [e]
    exact hc
theorem drop_split (l : List UInt8) (a k : Nat) (h : a ≤ k) (hk : k < l.length) : l.drop a = (l.drop a).take (k - a) ++ l[k] :: l.drop (k + 1) := by
  conv => lhs; rw [← List.take_append_drop (k - a) (l.drop a)]
  rw [List.drop_drop, show a + (k - a) = k by omega, List.drop_eq_getElem_cons hk]
theorem pInv_hit {x : UInt8} {l : List UInt8} {k a : Nat} {L : List (List UInt8)} (h : PInv x l k a L) (hk : k < l.length) (hc : l[k] = x) : PInv x l (k + 1) (k + 1) (L ++ [(l.drop a).take (k - a)]) := by
  obtain ⟨h1, h2, h3⟩ := h
  refine ⟨Nat.le_refl _, by simp, ?_⟩
  have e := drop_split l a k h1 hk
  rw [hc] at e
  rw [h3]
  conv => lhs; rw [e]
  rw [cutX_hit x _ _ (fun hm => h2 x hm rfl)]
  simp
theorem pInv_end {x : UInt8} {l : List UInt8} {k a : Nat} {L : List (List UInt8)} (h : PInv x l k a L) (hk : k = l.length) : L ++ [(l.drop a).take (k - a)] = cutX x l := by
  obtain ⟨h1, h2, h3⟩ := h
  have e : (l.drop a).take (k - a) = l.drop a := List.take_of_length_le (by rw [List.length_drop]; omega)
  rw [e] at h2 ⊢
  rw [h3, cutX_none x _ (fun hm => h2 x hm rfl)]
set_option maxHeartbeats 2000000 in
theorem refParts07_any (s : ByteArray) (w : World) (hs : s.size ≤ 4000) :
    Calls Tryz.prog 70 #[.string s] w fun e w' => (∃ A c, e = .returned (.slice A (cutX 46 s.data.toList).length c) ∧ TextsAt w' A (cutX 46 s.data.toList).length (cutX 46 s.data.toList)) ∧ Below w.heap.size w w' := by
  have hst := pInv_start 46 s.data.toList
  have HST := Lib.hid hst
  have HZ := Lib.hid (Lib.size_eq s)
  obtain ⟨C, hC⟩ : ∃ C, C = cutX 46 s.data.toList := ⟨_, rfl⟩
  rw [← hC]
  have HC := Lib.hid hC
  clear hst hC
  go_enter Tryz.func70, Tryz.ntmps70
  go_wp2_with fail
  go_loopw [3, 4, 5] (fun v f i wr => ∃ (k a : Nat) (L : List (List UInt8)), i = .int .i64 k ∧ f = .int .i64 a ∧ wr.ownsRow w.heap.size 9 1 v L.length (strVs L) ∧ Below w.heap.size w wr ∧ ((k ≤ s.size ∧ PInv 46 s.data.toList k a L) ∨ (k = s.size + 1 ∧ L = C))) (fun _ _ i _ => s.size + 1 - (intOf i).toNat)
  case atStart => exact ⟨0, 0, [], rfl, rfl, World.ownsRow_nil _ _ _ _, Below.refl _ _, .inl ⟨Nat.zero_le _, HST.out⟩⟩
  case round =>
    obtain ⟨k, a, L, rfl, rfl, hown, HB, hcase⟩ := hrel
    have hsz := HB.size
    rcases hcase with ⟨hk, hinv⟩ | ⟨hk, hLC⟩
    · have hL := pInv_len hinv
      rw [← HZ.out] at hL
      have hak := hinv.1
      by_cases hlt : k < s.size
      · have hkl : k < s.data.toList.length := by rw [← HZ.out]; exact hlt
        have hgo : s[k] ≠ 46 → PInv 46 s.data.toList (k + 1) a L := fun h => pInv_go hinv hkl h
        have hhit : s[k] = 46 → PInv 46 s.data.toList (k + 1) (k + 1) (L ++ [(s.data.toList.drop a).take (k - a)]) := fun h => pInv_hit hinv hkl h
        have HGO := Lib.hid hgo
        have HHIT := Lib.hid hhit
        clear hgo hhit hinv
        by_cases hc : s[k] = 46
        · have t20 : ((s[k].toNat : Int) == 46) = true := by rw [hc]; rfl
          have HC2 := Lib.hid hc
          clear hc
          go_wp2_with (at_builtin; refine wpList_app1 rfl (.tmp 22) (.tmp 27) 33 9 rfl Tryz.underlying33 elem9 rfl w.heap.size _ L.length _ _ rfl rfl hown rfl (by omega) (by omega) hsz ?_)
          intro v' w' hown' HB' _
          have ho := own_app hown'
          clear hown' hown
          go_wp2_with fail
          go_roundw
          case rel => exact ⟨k + 1, k + 1, _, by go_num, by go_num, ho, HB.trans HB', .inl ⟨by omega, HHIT.out HC2.out⟩⟩
          case measure => simp [intOf]; omega
        · have t20 : ((s[k].toNat : Int) == 46) = false := by
            rw [beq_eq_false_iff_ne]
            intro e
            exact hc (UInt8.toNat_inj.1 (by show s[k].toNat = 46; omega))
          have HC2 := Lib.hid hc
          clear hc
          go_wp2_with fail
          go_roundw
          case rel => exact ⟨k + 1, a, _, by go_num, rfl, hown, HB, .inl ⟨by omega, HGO.out HC2.out⟩⟩
          case measure => simp [intOf]; omega
      · have hks : k = s.size := by omega
        have hend := pInv_end hinv (by rw [← HZ.out]; exact hks)
        rw [← HC.out] at hend
        have HEND := Lib.hid hend
        have t15 : ((k : Int) == s.size) = true := by rw [beq_iff_eq]; omega
        have i1 : k ≤ s.size := hk
        have i2 : s.size ≤ k := by omega
        clear hend hks hinv hlt
        go_wp2_with (at_builtin; refine wpList_app1 rfl (.tmp 22) (.tmp 27) 33 9 rfl Tryz.underlying33 elem9 rfl w.heap.size _ L.length _ _ rfl rfl hown rfl (by omega) (by omega) hsz ?_)
        intro v' w' hown' HB' _
        have ho := own_app hown'
        clear hown' hown
        go_wp2_with fail
        go_roundw
        case rel => exact ⟨k + 1, k + 1, _, by go_num, by go_num, ho, HB.trans HB', .inr ⟨by omega, HEND.out⟩⟩
        case measure => simp [intOf]; omega
    · have d9 : decide ((k : Int) ≤ s.size) = false := by rw [decide_eq_false_iff_not]; omega
      have i2 : ¬ k ≤ s.size := by omega
      subst hLC
      obtain ⟨A, c, rfl, hta⟩ := TextsAt.of_own hown
      clear hk hown
      go_wp2_with fail
      go_ret
      exact ⟨⟨A, c, rfl, hta⟩, HB⟩
set_option maxHeartbeats 2000000 in
theorem refParts08_any (s : ByteArray) (w : World) (hs : s.size ≤ 4000) :
    Calls Tryz.prog 117 #[.string s] w fun e w' => (∃ A c, e = .returned (.slice A (cutX 58 s.data.toList).length c) ∧ TextsAt w' A (cutX 58 s.data.toList).length (cutX 58 s.data.toList)) ∧ Below w.heap.size w w' := by
  have hst := pInv_start 58 s.data.toList
  have HST := Lib.hid hst
  have HZ := Lib.hid (Lib.size_eq s)
  obtain ⟨C, hC⟩ : ∃ C, C = cutX 58 s.data.toList := ⟨_, rfl⟩
  rw [← hC]
  have HC := Lib.hid hC
  clear hst hC
  go_enter Tryz.func117, Tryz.ntmps117
  go_wp2_with fail
  go_loopw [3, 4, 5] (fun v f i wr => ∃ (k a : Nat) (L : List (List UInt8)), i = .int .i64 k ∧ f = .int .i64 a ∧ wr.ownsRow w.heap.size 9 1 v L.length (strVs L) ∧ Below w.heap.size w wr ∧ ((k ≤ s.size ∧ PInv 58 s.data.toList k a L) ∨ (k = s.size + 1 ∧ L = C))) (fun _ _ i _ => s.size + 1 - (intOf i).toNat)
  case atStart => exact ⟨0, 0, [], rfl, rfl, World.ownsRow_nil _ _ _ _, Below.refl _ _, .inl ⟨Nat.zero_le _, HST.out⟩⟩
  case round =>
    obtain ⟨k, a, L, rfl, rfl, hown, HB, hcase⟩ := hrel
    have hsz := HB.size
    rcases hcase with ⟨hk, hinv⟩ | ⟨hk, hLC⟩
    · have hL := pInv_len hinv
      rw [← HZ.out] at hL
      have hak := hinv.1
      by_cases hlt : k < s.size
      · have hkl : k < s.data.toList.length := by rw [← HZ.out]; exact hlt
        have hgo : s[k] ≠ 58 → PInv 58 s.data.toList (k + 1) a L := fun h => pInv_go hinv hkl h
        have hhit : s[k] = 58 → PInv 58 s.data.toList (k + 1) (k + 1) (L ++ [(s.data.toList.drop a).take (k - a)]) := fun h => pInv_hit hinv hkl h
        have HGO := Lib.hid hgo
        have HHIT := Lib.hid hhit
        clear hgo hhit hinv
        by_cases hc : s[k] = 58
        · have t20 : ((s[k].toNat : Int) == 58) = true := by rw [hc]; rfl
          have HC2 := Lib.hid hc
          clear hc
          go_wp2_with (at_builtin; refine wpList_app1 rfl (.tmp 22) (.tmp 27) 33 9 rfl Tryz.underlying33 elem9 rfl w.heap.size _ L.length _ _ rfl rfl hown rfl (by omega) (by omega) hsz ?_)
          intro v' w' hown' HB' _
          have ho := own_app hown'
          clear hown' hown
          go_wp2_with fail
          go_roundw
          case rel => exact ⟨k + 1, k + 1, _, by go_num, by go_num, ho, HB.trans HB', .inl ⟨by omega, HHIT.out HC2.out⟩⟩
          case measure => simp [intOf]; omega
        · have t20 : ((s[k].toNat : Int) == 58) = false := by
            rw [beq_eq_false_iff_ne]
            intro e
            exact hc (UInt8.toNat_inj.1 (by show s[k].toNat = 58; omega))
          have HC2 := Lib.hid hc
          clear hc
          go_wp2_with fail
          go_roundw
          case rel => exact ⟨k + 1, a, _, by go_num, rfl, hown, HB, .inl ⟨by omega, HGO.out HC2.out⟩⟩
          case measure => simp [intOf]; omega
      · have hks : k = s.size := by omega
        have hend := pInv_end hinv (by rw [← HZ.out]; exact hks)
        rw [← HC.out] at hend
        have HEND := Lib.hid hend
        have t15 : ((k : Int) == s.size) = true := by rw [beq_iff_eq]; omega
        have i1 : k ≤ s.size := hk
        have i2 : s.size ≤ k := by omega
        clear hend hks hinv hlt
        go_wp2_with (at_builtin; refine wpList_app1 rfl (.tmp 22) (.tmp 27) 33 9 rfl Tryz.underlying33 elem9 rfl w.heap.size _ L.length _ _ rfl rfl hown rfl (by omega) (by omega) hsz ?_)
        intro v' w' hown' HB' _
        have ho := own_app hown'
        clear hown' hown
        go_wp2_with fail
        go_roundw
        case rel => exact ⟨k + 1, k + 1, _, by go_num, by go_num, ho, HB.trans HB', .inr ⟨by omega, HEND.out⟩⟩
        case measure => simp [intOf]; omega
    · have d9 : decide ((k : Int) ≤ s.size) = false := by rw [decide_eq_false_iff_not]; omega
      have i2 : ¬ k ≤ s.size := by omega
      subst hLC
      obtain ⟨A, c, rfl, hta⟩ := TextsAt.of_own hown
      clear hk hown
      go_wp2_with fail
      go_ret
      exact ⟨⟨A, c, rfl, hta⟩, HB⟩
end Go.Proofs.YthbdeafbdmbabaaGreatDoor
namespace Go.Proofs.YthbdeafbdmbabaaGreatDoor
open Go.RowKit Go
set_option linter.unusedVariables false
set_option maxRecDepth 100000
def grpI (l : List UInt8) : Int := match groupE l with
  | some n => n
  | none => -1
theorem grpI_none {l : List UInt8} (h : groupE l = none) : grpI l = -1 := by unfold grpI; rw [h]
theorem grpI_some {l : List UInt8} {n : Nat} (h : groupE l = some n) : grpI l = n := by unfold grpI; rw [h]
set_option maxHeartbeats 2000000 in
theorem refGrp_any (s : ByteArray) (w : World) (hs : s.size ≤ 4000) :
    Calls Tryz.prog 118 #[.string s] w fun e w' => e = .returned (.int .i64 (grpI s.data.toList)) ∧ w = w' := by
  have hz := Lib.size_eq s
  by_cases h0 : s.size < 1
  · have hn : s.data.toList = [] := List.length_eq_zero_iff.1 (by omega)
    have hg := grpI_none (group_none _ (.inl hn))
    have HG := Lib.hid hg
    clear hg hz hn
    go_enter Tryz.func118, Tryz.ntmps118
    go_wp2
    go_ret
    exact ⟨ret_int HG.out.symm, rfl⟩
  · by_cases h4 : 4 < s.size
    · have hg := grpI_none (group_none s.data.toList (.inr (.inl (by omega))))
      have HG := Lib.hid hg
      clear hg hz
      go_enter Tryz.func118, Tryz.ntmps118
      go_wp2
      go_ret
      exact ⟨ret_int HG.out.symm, rfl⟩
    · have hne : s.data.toList ≠ [] := by
        intro e
        have h1 := congrArg List.length e
        rw [← hz] at h1
        have h2 : s.size = 0 := h1
        omega
      have H0 := Lib.hid hne
      have HZ := Lib.hid hz
      clear hz hne
      go_enter Tryz.func118, Tryz.ntmps118
      go_wp2
      go_loop [3, 4] (fun n i => ∃ k : Nat, i = .int .i64 k ∧ k ≤ s.size ∧ n = .int .i64 (hexN (s.data.toList.take k)) ∧ allH (s.data.toList.take k) = true) (fun _ i => s.size - (intOf i).toNat)
      case atStart => exact ⟨0, rfl, Nat.zero_le _, rfl, rfl⟩
      case round =>
        obtain ⟨k, rfl, hk, rfl, hall⟩ := hrel
        have HA := Lib.hid hall
        clear hall
        have hlt65 : hexN (s.data.toList.take k) < 65536 := by
          have h1 := hexN_lt (s.data.toList.take k)
          have h2 : (s.data.toList.take k).length ≤ 4 := by rw [List.length_take]; have := HZ.out; omega
          have : 16 ^ (s.data.toList.take k).length ≤ 16 ^ 4 := Nat.pow_le_pow_right (by decide) h2
          omega
        by_cases hlt : k < s.size
        · have hc := UInt8.toNat_lt s[k]
          have hx := refHex_any s[k].toNat w (by omega) (by omega)
          have hst := hexN_take s k hlt
          have hal := allH_take s k hlt HA.out
          have hba := allH_bad s k hlt
          have hv := hexV_bd s[k].toNat
          obtain ⟨d, hd⟩ : ∃ d : Nat, hexV s[k].toNat = d := ⟨(hexV s[k].toNat).toNat, by omega⟩
          rw [hd] at hx hst
          rw [Int.toNat_natCast] at hst
          have hd15 : d ≤ 15 := by omega
          obtain ⟨b, hb⟩ : ∃ b, b = hexB s[k].toNat := ⟨_, rfl⟩
          rw [← hb] at hx hal hba
          cases b with
          | true =>
            have hal' := hal rfl
            have HX := Lib.hid hx
            have HS := Lib.hid hst
            have HL := Lib.hid hal'
            clear hx hst hal hba hal' hv hd hb
            go_wp2_with (first
              | ((with_reducible refine HX.out.mono ?_); rintro e w2 ⟨rfl, hq⟩; subst hq))
            go_round
            case rel => exact ⟨k + 1, by go_num, by omega, ret_v (by rw [HS.out]; omega), HL.out⟩
            case measure => simp [intOf]; omega
          | false =>
            have hg := grpI_none (group_none _ (.inr (.inr (hba rfl))))
            have HX := Lib.hid hx
            have HG := Lib.hid hg
            clear hx hst hal hba hg hv hd hb
            go_wp2_with (first
              | ((with_reducible refine HX.out.mono ?_); rintro e w2 ⟨rfl, hq⟩; subst hq))
            go_ret
            exact ⟨ret_int HG.out.symm, rfl⟩
        · obtain rfl : k = s.size := by omega
          have ht : s.data.toList.take s.size = s.data.toList := List.take_of_length_le (by simp)
          have hg := grpI_some (group_some s.data.toList H0.out (by have := HZ.out; omega) (by rw [← ht]; exact HA.out))
          rw [ht]
          have HG := Lib.hid hg
          clear hg ht
          go_wp2_with fail
          go_ret
          exact ⟨ret_int HG.out.symm, rfl⟩
end Go.Proofs.YthbdeafbdmbabaaGreatDoor
