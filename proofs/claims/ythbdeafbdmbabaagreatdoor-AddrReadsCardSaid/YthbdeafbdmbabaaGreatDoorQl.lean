/- Texts behind a law of this seat, in order: Law09, Law09b, Law09c. -/
import Derived.Test.YthbdeafbdmbabaaGreatDoorPa
import Derived.Test.YthbdeafbdmbabaaGreatDoorPb
import Derived.Test.YthbdeafbdmbabaaGreatDoorPc
import Derived.Test.YthbdeafbdmbabaaGreatDoorPd
import Derived.Test.YthbdeafbdmbabaaGreatDoorPe
import Derived.Test.YthbdeafbdmbabaaGreatDoorPf
import Derived.Test.YthbdeafbdmbabaaGreatDoorPg
import Derived.Test.YthbdeafbdmbabaaGreatDoorPh
import Derived.Test.YthbdeafbdmbabaaGreatDoorPi
import Derived.Test.YthbdeafbdmbabaaGreatDoorPj
import Derived.Test.YthbdeafbdmbabaaGreatDoorPk
import Derived.Test.YthbdeafbdmbabaaGreatDoorPl
import Derived.Test.YthbdeafbdmbabaaGreatDoorPm
import Derived.Test.YthbdeafbdmbabaaGreatDoorPn
import Derived.Test.YthbdeafbdmbabaaGreatDoorPo
import Derived.Test.YthbdeafbdmbabaaGreatDoorPp
import Derived.Test.YthbdeafbdmbabaaGreatDoorPq
import Derived.Test.YthbdeafbdmbabaaGreatDoorPr
import Derived.Test.YthbdeafbdmbabaaGreatDoorPs
import Derived.Test.YthbdeafbdmbabaaGreatDoorPt
import Derived.Test.YthbdeafbdmbabaaGreatDoorPu
import Derived.Test.YthbdeafbdmbabaaGreatDoorPv
import Derived.Test.YthbdeafbdmbabaaGreatDoorPw
import Derived.Test.YthbdeafbdmbabaaGreatDoorPx
import Derived.Test.YthbdeafbdmbabaaGreatDoorPy
import Derived.Test.YthbdeafbdmbabaaGreatDoorPz
import Derived.Test.YthbdeafbdmbabaaGreatDoorQa
import Derived.Test.YthbdeafbdmbabaaGreatDoorQb
import Derived.Test.YthbdeafbdmbabaaGreatDoorQc
import Derived.Test.YthbdeafbdmbabaaGreatDoorQd
import Derived.Test.YthbdeafbdmbabaaGreatDoorQe
import Derived.Test.YthbdeafbdmbabaaGreatDoorQf
import Derived.Test.YthbdeafbdmbabaaGreatDoorQg
import Derived.Test.YthbdeafbdmbabaaGreatDoorQh
import Derived.Test.YthbdeafbdmbabaaGreatDoorQi
import Derived.Test.YthbdeafbdmbabaaGreatDoorQj
import Derived.Test.YthbdeafbdmbabaaGreatDoorQk
import Derived.Below
import Derived.BigQuiet
import Derived.BigRegion
import Derived.ChangeSame
import Derived.ChangeSlices
import Derived.Deep.AppendLies
import Derived.Deep.Draws
import Derived.Deep.OwnRows
import Derived.Deep.Quiet
import Derived.Deep.QuietTactic
import Derived.Deep.RegionLaw
import Derived.Great.Ranges
import Derived.Handed
import Derived.Handy
import Derived.Laws.AppendOwnNone
import Derived.Laws.Bits64b
import Derived.Laws.BitsAllLaws
import Derived.Laws.CopyOwn
import Derived.Laws.OwnMore
import Derived.Laws.Rows
import Derived.Laws.StructEq
import Derived.Lib.AppendZeros
import Derived.Lib.AppendZerosOnto
import Derived.Lib.Bytealg
import Derived.Lib.DecodeN
import Derived.Lib.Hide
import Derived.Lib.ItoaLen
import Derived.Lib.ItoaMem
import Derived.Lib.ItoaNum
import Derived.Lib.Join
import Derived.Lib.Overlaps
import Derived.Lib.RuneBytes
import Derived.Lib.SmallJoins
import Derived.Lib.Split
import Derived.Lib.SplitLaws
import Derived.Lib.Strings
import Derived.OpenShut
import Derived.Shelf.LaysM
import Derived.Shelf.Small.Bits
import Derived.Shelf.Small.Strs
import Derived.Shelf.Strconv.Itoa0
import Derived.Shelf.Strconv.Itoa1
import Derived.Shelf.Strconv.Itoa2
import Derived.Shelf.Strconv.Itoa3
import Derived.Shelf.Strings.Builder1
import Derived.Shelf.Strings.Builder2
import Derived.Shelf.Strings.Builder2Cap
import Derived.Shelf.Strings.BuilderCap
import Derived.Shelf.Strings.BuilderF
import Derived.Shelf.Strings.BuilderK
import Derived.Shelf.Strings.Count
import Derived.Shelf.Strings.Cut
import Derived.Shelf.Strings.OnBuilder
import Derived.Shelf.Strings.Prefix
import Derived.Shelf.Strings.Search1
import Derived.Shelf.Strings.Search2
import Derived.Shelf.Strings.Search3
import Derived.Shelf.Strings.Shaped
import Derived.Shelf.Strings.Split
import Derived.Shelf.Strings.SplitShaped
import Derived.Shelf.Unicode.Decode
import Derived.Shelf.Unicode.DecodeAny
import Derived.Shelf.Unicode.DecodeSlow
import Derived.Shelf.Vars
import Derived.SizedLaws
import Derived.SliceStrings
import Derived.StillTailTactics
import Derived.Stop.BytesEq
import Derived.Test.YthbdeafbdmbabaaGreatDoorProg
import Derived.WalkKit
import Derived.WalkLawsBesides
import Derived.WalkSpells
namespace Go.Proofs.YthbdeafbdmbabaaGreatDoor
open Go.RowKit Go
set_option linter.unusedVariables false
set_option linter.unusedSimpArgs false
set_option maxRecDepth 100000
def tA : List UInt8 := [49, 57, 50, 46, 48, 46, 50, 46, 49]
def tB : List UInt8 := [102, 101, 56, 48, 58, 58, 49, 37, 50]
def tR : List UInt8 := [49, 46, 50, 46, 48, 46, 49, 57, 50, 46, 105, 110, 45, 97, 100, 100, 114, 46, 97, 114, 112, 97]
def ipA : List UInt8 := quad16 192 0 2 1
def ipB : List UInt8 := [254, 128, 0, 0, 0, 0, 0, 0, 0, 0, 0, 0, 0, 0, 0, 1]
theorem pA : parseA tA = ⟨4, ipA, 0, 0⟩ := by rw [← quadT_lit 192 0 2 1 tA (by decide +kernel)]; exact lit_quad _ _ _ _ (quadT_colB _ _ _ _)
theorem pB : parseA tB = ⟨6, ipB, 2, 0⟩ := by
  have h1 : colB tB = true := by decide +kernel
  have h2 : cutK tB 37 = 7 := by decide +kernel
  have h3 : octE [102, 101, 56, 48, 58, 58, 49] = some ipB := by decide +kernel
  have h4 : numR [50] 2147483647 = (2, 0) := by decide +kernel
  unfold parseA colonE
  rw [if_pos h1, h2, show List.take 7 tB = [102, 101, 56, 48, 58, 58, 49] from rfl, h3, show List.drop (7 + 1) tB = [50] from rfl, h4]
  rfl
theorem sA : scopeE 4 ipA 0 = 14 := by decide +kernel
theorem sB : scopeE 6 ipB 2 = 2 := by decide +kernel
theorem cA : checkE 4 ipA 0 = 0 := by decide +kernel
theorem uA : unmapE 6 (map4 ipA) 0 = ⟨4, ipA, 0⟩ := rfl
theorem mA : mapE 4 ipA 0 = ⟨6, map4 ipA, 0⟩ := rfl
theorem rA : revL 4 ipA = [[49], [50], [48], [49, 57, 50], lInaddr, lArpa] := by
  rw [rev4_at]
  rw [decX_eq _ (by have := UInt8.toNat_lt (ipA.getD 3 0); omega), decX_eq _ (by have := UInt8.toNat_lt (ipA.getD 2 0); omega), decX_eq _ (by have := UInt8.toNat_lt (ipA.getD 1 0); omega), decX_eq _ (by have := UInt8.toNat_lt (ipA.getD 0 0); omega)]
  decide +kernel
theorem plA : plainL (revL 4 ipA) = tR := by rw [rA]; decide +kernel
set_option maxHeartbeats 1000000 in
theorem domainText_any (A : Option Addr) (n c : Nat) (l : List (List UInt8)) (w : World) (hl : TextsAt w A n l) (hb : sizeL l ≤ 3000) :
    Calls Tryz.prog 28 #[.slice A n c] w fun e w' => e = .returned (.string ⟨(plainL l).toArray⟩) ∧ Below w.heap.size w w' := by
  have H1 := Lib.hid (refPlain5_any A n c l w hl (by omega))
  go_enter Tryz.func28, Tryz.ntmps28
  go_wp2_with ((with_reducible refine H1.out.mono ?_); rintro e w2 ⟨rfl, hq⟩; subst hq)
  go_ret
  exact ⟨rfl, Below.refl _ _⟩
set_option maxHeartbeats 8000000 in
theorem works09_any (w : World) (hP : P10 w) (hD : DB w) (hM : MX w) (hNR : NR w) : Calls Tryz.prog 5 #[] w fun e w' => e = .returned (.bool true) ∧ Below w.heap.size w w' := by
  have S := Ats.start w
  have h1 := fun w (h : P10 w) (h' : MX w) => aParse_any ⟨tA.toArray⟩ w (by decide) h h'
  have h2 := fun w (h : P10 w) (h' : MX w) => aParse_any ⟨tB.toArray⟩ w (by decide) h h'
  rw [show (⟨tA.toArray⟩ : ByteArray).data.toList = tA from rfl, pA] at h1
  rw [show (⟨tB.toArray⟩ : ByteArray).data.toList = tB from rfl, pB] at h2
  have h3 := fun w (h : NR w) => aScope_any 6 2 ipB w rfl h
  rw [sB] at h3
  have h4 := fun w (h : NR w) => aScope_any 4 0 ipA w rfl h
  rw [sA] at h4
  have h5 := fun w (h : P10 w) (h' : DB w) => aReverse_any 4 0 ipA w rfl h h'
  have hrs := revL_size 4 ipA
  have h6 := fun A n c w (h : TextsAt w A n (revL 4 ipA)) => domainText_any A n c (revL 4 ipA) w h (by omega)
  rw [plA] at h6
  have h7 := fun w => aMap_any 4 0 ipA w rfl
  rw [mA] at h7
  have h8 := fun w => aUnmap_any 6 0 (map4 ipA) w rfl
  rw [uA] at h8
  have h9 := fun w => aCheck_any 4 0 ipA w rfl
  rw [cA] at h9
  simp only [adTupZ] at h1 h2 h7 h8
  unfold tA at h1
  unfold tB at h2
  unfold tR at h6
  have s1 := adSize 4 ipA 0 rfl
  have s2 := adSize 6 ipB 2 rfl
  have hE := ad_eqlSelf 4 0 ipA rfl
  have hG := ad_guard
  obtain ⟨V, hV⟩ : ∃ V, V = revL 4 ipA := ⟨_, rfl⟩
  rw [← hV] at h5 h6
  obtain ⟨a1, ha1⟩ : ∃ a, a = ipA := ⟨_, rfl⟩
  obtain ⟨a2, ha2⟩ : ∃ a, a = ipB := ⟨_, rfl⟩
  have l1 : a1.length = 16 := by rw [ha1]; rfl
  have l2 : a2.length = 16 := by rw [ha2]; rfl
  obtain ⟨a3, ha3⟩ : ∃ a, a = map4 ipA := ⟨_, rfl⟩
  rw [← ha3] at h7 h8
  rw [← ha1] at h1 h4 h5 h7 h8 h9 s1 hE
  rw [← ha2] at h2 h3 s2
  have hPd : ∀ wr L, Ats w.heap.size w wr L → P10 wr := fun wr L h => hP.below (Nat.le_refl _) h.below
  have hDd : ∀ wr L, Ats w.heap.size w wr L → DB wr := fun wr L h => hD.below (Nat.le_refl _) h.below
  have hMd : ∀ wr L, Ats w.heap.size w wr L → MX wr := fun wr L h => hM.below (Nat.le_refl _) h.below
  have hNd : ∀ wr L, Ats w.heap.size w wr L → NR wr := fun wr L h => hNR.below (Nat.le_refl _) h.below
  have HPd := Lib.hid hPd
  have HDd := Lib.hid hDd
  have HMd := Lib.hid hMd
  have HNd := Lib.hid hNd
  have H1 := Lib.hid h1
  have H2 := Lib.hid h2
  have H3 := Lib.hid h3
  have H4 := Lib.hid h4
  have H5 := Lib.hid h5
  have H6 := Lib.hid h6
  have H7 := Lib.hid h7
  have H8 := Lib.hid h8
  have H9 := Lib.hid h9
  clear hPd hDd hMd hNd h1 h2 h3 h4 h5 h6 h7 h8 h9 hP hD hM hNR ha1 ha2 ha3 hV hrs
  go_enter Tryz.func5, Tryz.ntmps5
  go_wp2_with (first
    | ((with_reducible refine (H1.out _ (HPd.out _ _ S) (HMd.out _ _ S)).mono ?_); rintro e w2 ⟨rfl, hb⟩; have S := S.call hb; clear hb)
    | ((with_reducible refine (H2.out _ (HPd.out _ _ S) (HMd.out _ _ S)).mono ?_); rintro e w2 ⟨rfl, hb⟩; have S := S.call hb; clear hb)
    | ((with_reducible show wpList _ _ _ (Oper.mk (some 1) (Op.alloc _) _ _ _ _ :: _) _ _); refine wpList_allocS rfl _ rfl _ adZero S ?_; clear S; intro ga w1 S)
    | ((with_reducible show wpList _ _ _ (Oper.mk (some 3) (Op.alloc _) _ _ _ _ :: _) _ _); refine wpList_allocS rfl _ rfl _ adZero S ?_; clear S; intro gb w1 S)
    | ((with_reducible show wpList _ _ _ (Oper.mk _ (Op.store _ (Operand.tmp 1) _) _ _ _ _ :: _) _ _); refine wpList_storeS rfl _ _ _ rfl S _ rfl _ rfl 0 _ _ rfl s1 (by exact ad_sizes _ _ _ _ _ _ rfl l1) (by exact adCs_one _ _ _) ?_; clear S; intro w1 S; (first | simp only [List.set_cons_zero] at S | simp only [List.set_cons_succ, List.set_cons_zero] at S | skip))
    | ((with_reducible show wpList _ _ _ (Oper.mk _ (Op.store _ (Operand.tmp 3) _) _ _ _ _ :: _) _ _); refine wpList_storeS rfl _ _ _ rfl S _ rfl _ rfl 0 _ _ rfl s2 (by exact ad_sizes _ _ _ _ _ _ rfl l2) (by exact adCs_one _ _ _) ?_; clear S; intro w1 S; (first | simp only [List.set_cons_zero] at S | simp only [List.set_cons_succ, List.set_cons_zero] at S | skip)))
  refine wp_region_mixO (C := fun w' => Ats w.heap.size w w' [(gb, 24, (adCs 6 a2 2).toArray), (ga, 24, (adCs 4 a1 0).toArray)]) [(0, true), (1, true), (2, true), (3, true), (4, true), (5, true), (6, true), (7, true), (8, false), (9, true), (10, true), (11, true), (12, true), (13, false), (14, true), (15, true), (16, true), (17, true), (18, false), (19, false), (20, true), (21, true), (22, true), (23, true), (26, true), (24, false), (25, false), (27, true), (28, true), (29, true), (30, true), (31, false), (32, true), (33, true), (34, true)] (by kernel_rfl) (by kernel_rfl) S.drew ?_
  simp only [List.map_cons, List.map_nil, List.getD_cons_zero, List.getD_cons_succ]
  have S := S.drew
  repeat (first
    | (refine mix_loadS rfl _ (.tmp 3) rfl _ rfl 0 _ _ rfl _ Tryz.underlying24 rfl s2 ?_; simp only [Act.put, List.setIfInBounds_toArray, List.set_cons_succ, List.set_cons_zero])
    | (refine mix_loadS rfl _ (.tmp 1) rfl _ rfl 1 _ _ rfl _ Tryz.underlying24 rfl s1 ?_; simp only [Act.put, List.setIfInBounds_toArray, List.set_cons_succ, List.set_cons_zero])
    | (refine mix_move rfl _ rfl ?_; simp only [Act.put, Act.eval, Array.getD_eq_getD_getElem?, List.getElem?_toArray, List.getElem?_cons_succ, List.getElem?_cons_zero, Option.getD_some, List.setIfInBounds_toArray, List.set_cons_succ, List.set_cons_zero]) | (refine mix_assign rfl _ rfl ?_; simp only [Act.put, Act.eval, Array.getD_eq_getD_getElem?, List.getElem?_toArray, List.getElem?_cons_succ, List.getElem?_cons_zero, Option.getD_some, List.setIfInBounds_toArray, List.set_cons_succ, List.set_cons_zero]) | (refine mix_val rfl (v := ?_) ?_ ?_; rotate_left; (focus (intro w5 S5; go_simp; try with_reducible rfl)); simp only [Act.put, List.setIfInBounds_toArray, List.set_cons_succ, List.set_cons_zero])
    | (refine mix_call 16 _ _ rfl rfl (enters_of Tryz.func16 (by kernel_rfl) rfl) ?_ (H3.out _ (HNd.out _ _ S)) ?_; (focus (simp [Act.eval])); rintro e w2 ⟨rfl, hb⟩; refine ⟨_, rfl, S.call hb, ?_⟩; have S := S.call hb; clear hb; simp only [Act.put, List.setIfInBounds_toArray, List.set_cons_succ, List.set_cons_zero])
    | (refine mix_call 16 _ _ rfl rfl (enters_of Tryz.func16 (by kernel_rfl) rfl) ?_ (H4.out _ (HNd.out _ _ S)) ?_; (focus (simp [Act.eval])); rintro e w2 ⟨rfl, hb⟩; refine ⟨_, rfl, S.call hb, ?_⟩; have S := S.call hb; clear hb; simp only [Act.put, List.setIfInBounds_toArray, List.set_cons_succ, List.set_cons_zero])
    | (refine mix_call 21 _ _ rfl rfl (enters_of Tryz.func21 (by kernel_rfl) rfl) ?_ (H5.out _ (HPd.out _ _ S) (HDd.out _ _ S)) ?_; (focus (simp [Act.eval])); rintro e w2 ⟨A5, c5, rfl, hta, hb⟩; refine ⟨_, rfl, S.call hb, ?_⟩; have S := S.call hb; clear hb; simp only [Act.put, List.setIfInBounds_toArray, List.set_cons_succ, List.set_cons_zero])
    | (refine mix_call 28 _ _ rfl rfl (enters_of Tryz.func28 (by kernel_rfl) rfl) ?_ (H6.out _ _ c5 _ hta) ?_; (focus (simp [Act.eval])); rintro e w2 ⟨rfl, hb⟩; refine ⟨_, rfl, S.call hb, ?_⟩; have S := S.call hb; clear hb; simp only [Act.put, List.setIfInBounds_toArray, List.set_cons_succ, List.set_cons_zero])
    | (refine mix_call 12 _ _ rfl rfl (enters_of Tryz.func12 (by kernel_rfl) rfl) ?_ (H7.out _) ?_; (focus (simp [Act.eval])); rintro e w2 ⟨rfl, hb⟩; refine ⟨_, rfl, S.call hb, ?_⟩; have S := S.call hb; clear hb; simp only [Act.put, List.setIfInBounds_toArray, List.set_cons_succ, List.set_cons_zero])
    | (refine mix_call 14 _ _ rfl rfl (enters_of Tryz.func14 (by kernel_rfl) rfl) ?_ (H8.out _) ?_; (focus (simp [Act.eval])); rintro e w2 ⟨rfl, hb⟩; refine ⟨_, rfl, S.call hb, ?_⟩; have S := S.call hb; clear hb; simp only [Act.put, List.setIfInBounds_toArray, List.set_cons_succ, List.set_cons_zero])
    | (refine mix_call 6 _ _ rfl rfl (enters_of Tryz.func6 (by kernel_rfl) rfl) ?_ (H9.out _) ?_; (focus (simp [Act.eval])); rintro e w2 ⟨rfl, hb⟩; refine ⟨_, rfl, S.call hb, ?_⟩; have S := S.call hb; clear hb; simp only [Act.put, List.setIfInBounds_toArray, List.set_cons_succ, List.set_cons_zero])
  )
  refine mix_nil ?_
  go_wp2_with fail
  go_ret
  exact ⟨rfl, S.below⟩
end Go.Proofs.YthbdeafbdmbabaaGreatDoor
namespace Go.Proofs.YthbdeafbdmbabaaGreatDoor
open Go.RowKit Go
set_option linter.unusedVariables false
set_option linter.unusedSimpArgs false
set_option maxRecDepth 100000
set_option maxHeartbeats 8000000 in
theorem tells09_any (f z : Int) (ip : List UInt8) (w : World) (hip : ip.length = 16) (hz0 : -9223372036854775808 ≤ z) (hz : z ≤ 9223372036854775807) (hP : P10 w) (hD : DB w) (hM : MX w) (hNR : NR w) (hM4 : M4 w) :
    Calls Tryz.prog 3 #[adV f ip z] w fun e w' => e = .returned (.bool true) ∧ Below w.heap.size w w' := by
  have S := Ats.start w
  have h0 := fun w (h : P10 w) (h' : DB w) (h'' : MX w) (h3 : NR w) => works09_any w h h' h'' h3
  have k1 := fun w => aCheck_any f z ip w hip
  have k2 := fun w => rCheck_any f z ip w hip
  have k3 := fun w => aBits_any f z ip w hip
  have k4 := fun w => rBits_any f z ip w hip
  have k5 := fun w (h : P10 w) (h' : DB w) => aText_any f z ip w hip hz0 hz h h'
  have k6 := fun w => rText_any f z ip w hip hz0 hz
  have k7 := fun w => aMap_any f z ip w hip
  have k8 := fun w => rMap_any f z ip w hip
  have k9 := fun w => aUnmap_any f z ip w hip
  have k10 := fun w => rUnmap_any f z ip w hip
  have k11 := fun w (h : NR w) => aScope_any f z ip w hip h
  have k12 := fun w => rScope_any f z ip w hip
  have k13 := fun w (h : M4 w) => aMulti_any f z ip w hip h
  have k14 := fun w => rMulti_any f z ip w hip
  have k15 := fun w (h : P10 w) (h' : DB w) => aReverse_any f z ip w hip h h'
  have k16 := fun w => rReverse_any f z ip w hip
  have hrs := revL_size f ip
  have hrl := size_len (revL f ip)
  have k17 := fun (A B : Option Addr) n m c d w (h : TextsAt w A n (revL f ip)) (h' : TextsAt w B m (revL f ip)) => refExact_any A B n m c d (revL f ip) (revL f ip) w h h' (by have := h.1; omega) (by have := h'.1; omega)
  rw [show decide (revL f ip = revL f ip) = true from decide_eq_true rfl] at k17
  have hml := mapE_len f ip z hip
  have hul := unmapE_len f ip z hip
  have haf := adSize f ip z hip
  obtain ⟨C, hC⟩ : ∃ C, C = checkE f ip z := ⟨_, rfl⟩
  rw [← hC] at k1 k2
  obtain ⟨N, hN⟩ : ∃ N, N = bitsF f := ⟨_, rfl⟩
  rw [← hN] at k3 k4
  obtain ⟨T, hT⟩ : ∃ T : ByteArray, T = ⟨(textA f ip z).toArray⟩ := ⟨_, rfl⟩
  rw [← hT] at k5 k6
  obtain ⟨Mm, hMm⟩ : ∃ M, M = mapE f ip z := ⟨_, rfl⟩
  rw [← hMm] at k7 k8 hml
  obtain ⟨f1, i1, z1⟩ := Mm
  obtain ⟨Um, hUm⟩ : ∃ M, M = unmapE f ip z := ⟨_, rfl⟩
  rw [← hUm] at k9 k10 hul
  obtain ⟨f2, i2, z2⟩ := Um
  simp only at k7 k8 k9 k10 hml hul
  have hE1 := ad_eqlSelf f1 z1 i1 hml
  have hE2 := ad_eqlSelf f2 z2 i2 hul
  have hG := ad_guard
  obtain ⟨sc, hsc⟩ : ∃ s, s = scopeE f ip z := ⟨_, rfl⟩
  rw [← hsc] at k11 k12
  obtain ⟨mu, hmu⟩ : ∃ s, s = multiE f ip := ⟨_, rfl⟩
  rw [← hmu] at k13 k14
  obtain ⟨V, hV⟩ : ∃ V, V = revL f ip := ⟨_, rfl⟩
  rw [← hV] at k15 k16 k17
  have hPd : ∀ wr L, Ats w.heap.size w wr L → P10 wr := fun wr L h => hP.below (Nat.le_refl _) h.below
  have hDd : ∀ wr L, Ats w.heap.size w wr L → DB wr := fun wr L h => hD.below (Nat.le_refl _) h.below
  have hMd : ∀ wr L, Ats w.heap.size w wr L → MX wr := fun wr L h => hM.below (Nat.le_refl _) h.below
  have hNd : ∀ wr L, Ats w.heap.size w wr L → NR wr := fun wr L h => hNR.below (Nat.le_refl _) h.below
  have h4d : ∀ wr L, Ats w.heap.size w wr L → M4 wr := fun wr L h => hM4.below (Nat.le_refl _) h.below
  have HPd := Lib.hid hPd
  have HDd := Lib.hid hDd
  have HMd := Lib.hid hMd
  have HNd := Lib.hid hNd
  have H4d := Lib.hid h4d
  have H0 := Lib.hid h0
  have K1 := Lib.hid k1
  have K2 := Lib.hid k2
  have K3 := Lib.hid k3
  have K4 := Lib.hid k4
  have K5 := Lib.hid k5
  have K6 := Lib.hid k6
  have K7 := Lib.hid k7
  have K8 := Lib.hid k8
  have K9 := Lib.hid k9
  have K10 := Lib.hid k10
  have K11 := Lib.hid k11
  have K12 := Lib.hid k12
  have K13 := Lib.hid k13
  have K14 := Lib.hid k14
  have K15 := Lib.hid k15
  have K16 := Lib.hid k16
  have K17 := Lib.hid k17
  clear hPd hDd hMd hNd h4d h0 hP hD hM hNR hM4 hC hN hT hMm hUm hsc hmu hV hrs hrl hz0 hz
  clear k1 k2 k3 k4 k5 k6 k7 k8 k9 k10 k11 k12 k13 k14 k15 k16 k17
  go_enter Tryz.func3, Tryz.ntmps3
  go_wp2_with (first
    | ((with_reducible show wpList _ _ _ (Oper.mk _ (Op.box _ _) _ _ _ _ :: _) _ _); refine wpList_boxS rfl _ _ rfl (adCs f ip z).toArray rfl S ?_; clear S; intro ga w1 S))
  refine wp_region_mixO (C := fun w' => Ats w.heap.size w w' [(ga, 24, (adCs f ip z).toArray)]) [(0, false), (1, true), (2, true), (4, true), (3, false), (5, false), (6, true), (7, true), (8, true), (9, true), (11, true), (10, false), (12, false), (13, true), (14, true), (15, true), (16, true), (18, true), (17, false), (19, false), (20, true), (21, true), (22, true), (23, true), (25, true), (24, false), (26, false), (27, true), (28, true), (29, true), (30, true), (32, true), (31, false), (33, false), (34, true), (35, true), (36, true), (37, true), (39, true), (38, false), (40, false), (41, true), (42, true), (43, true), (44, true), (46, true), (45, false), (47, false), (48, true), (49, true), (50, true), (51, true), (53, true), (52, false), (54, false), (55, false), (56, true), (57, true)] (by kernel_rfl) (by kernel_rfl) S.drew ?_
  simp only [List.map_cons, List.map_nil, List.getD_cons_zero, List.getD_cons_succ]
  have S := S.drew
  repeat (first
    | (refine mix_loadS rfl _ (.tmp 1) rfl _ rfl 0 _ _ rfl _ Tryz.underlying24 rfl haf ?_; simp only [Act.put, List.setIfInBounds_toArray, List.set_cons_succ, List.set_cons_zero])
    | (refine mix_move rfl _ rfl ?_; simp only [Act.put, Act.eval, Array.getD_eq_getD_getElem?, List.getElem?_toArray, List.getElem?_cons_succ, List.getElem?_cons_zero, Option.getD_some, List.setIfInBounds_toArray, List.set_cons_succ, List.set_cons_zero]) | (refine mix_assign rfl _ rfl ?_; simp only [Act.put, Act.eval, Array.getD_eq_getD_getElem?, List.getElem?_toArray, List.getElem?_cons_succ, List.getElem?_cons_zero, Option.getD_some, List.setIfInBounds_toArray, List.set_cons_succ, List.set_cons_zero]) | (refine mix_val rfl (v := ?_) ?_ ?_; rotate_left; (focus (intro w5 S5; go_simp; try with_reducible rfl)); simp only [Act.put, List.setIfInBounds_toArray, List.set_cons_succ, List.set_cons_zero])
    | (refine mix_call 5 _ _ rfl rfl (enters_of Tryz.func5 (by kernel_rfl) rfl) ?_ (H0.out _ (HPd.out _ _ S) (HDd.out _ _ S) (HMd.out _ _ S) (HNd.out _ _ S)) ?_; (focus (simp [Act.eval])); rintro e w2 ⟨rfl, hb⟩; refine ⟨_, rfl, S.call hb, ?_⟩; have S := S.call hb; clear hb; simp only [Act.put, List.setIfInBounds_toArray, List.set_cons_succ, List.set_cons_zero])
    | (refine mix_call 6 _ _ rfl rfl (enters_of Tryz.func6 (by kernel_rfl) rfl) ?_ (K1.out _) ?_; (focus (simp [Act.eval])); rintro e w2 ⟨rfl, hb⟩; refine ⟨_, rfl, S.call hb, ?_⟩; have S := S.call hb; clear hb; simp only [Act.put, List.setIfInBounds_toArray, List.set_cons_succ, List.set_cons_zero])
    | (refine mix_call 7 _ _ rfl rfl (enters_of Tryz.func7 (by kernel_rfl) rfl) ?_ (K2.out _) ?_; (focus (simp [Act.eval])); rintro e w2 ⟨rfl, hb⟩; refine ⟨_, rfl, S.call hb, ?_⟩; have S := S.call hb; clear hb; simp only [Act.put, List.setIfInBounds_toArray, List.set_cons_succ, List.set_cons_zero])
    | (refine mix_call 8 _ _ rfl rfl (enters_of Tryz.func8 (by kernel_rfl) rfl) ?_ (K3.out _) ?_; (focus (simp [Act.eval])); rintro e w2 ⟨rfl, hb⟩; refine ⟨_, rfl, S.call hb, ?_⟩; have S := S.call hb; clear hb; simp only [Act.put, List.setIfInBounds_toArray, List.set_cons_succ, List.set_cons_zero])
    | (refine mix_call 9 _ _ rfl rfl (enters_of Tryz.func9 (by kernel_rfl) rfl) ?_ (K4.out _) ?_; (focus (simp [Act.eval])); rintro e w2 ⟨rfl, hb⟩; refine ⟨_, rfl, S.call hb, ?_⟩; have S := S.call hb; clear hb; simp only [Act.put, List.setIfInBounds_toArray, List.set_cons_succ, List.set_cons_zero])
    | (refine mix_call 10 _ _ rfl rfl (enters_of Tryz.func10 (by kernel_rfl) rfl) ?_ (K5.out _ (HPd.out _ _ S) (HDd.out _ _ S)) ?_; (focus (simp [Act.eval])); rintro e w2 ⟨rfl, hb⟩; refine ⟨_, rfl, S.call hb, ?_⟩; have S := S.call hb; clear hb; simp only [Act.put, List.setIfInBounds_toArray, List.set_cons_succ, List.set_cons_zero])
    | (refine mix_call 11 _ _ rfl rfl (enters_of Tryz.func11 (by kernel_rfl) rfl) ?_ (K6.out _) ?_; (focus (simp [Act.eval])); rintro e w2 ⟨rfl, hb⟩; refine ⟨_, rfl, S.call hb, ?_⟩; have S := S.call hb; clear hb; simp only [Act.put, List.setIfInBounds_toArray, List.set_cons_succ, List.set_cons_zero])
    | (refine mix_call 12 _ _ rfl rfl (enters_of Tryz.func12 (by kernel_rfl) rfl) ?_ (K7.out _) ?_; (focus (simp [Act.eval])); rintro e w2 ⟨rfl, hb⟩; refine ⟨_, rfl, S.call hb, ?_⟩; have S := S.call hb; clear hb; simp only [Act.put, List.setIfInBounds_toArray, List.set_cons_succ, List.set_cons_zero])
    | (refine mix_call 13 _ _ rfl rfl (enters_of Tryz.func13 (by kernel_rfl) rfl) ?_ (K8.out _) ?_; (focus (simp [Act.eval])); rintro e w2 ⟨rfl, hb⟩; refine ⟨_, rfl, S.call hb, ?_⟩; have S := S.call hb; clear hb; simp only [Act.put, List.setIfInBounds_toArray, List.set_cons_succ, List.set_cons_zero])
    | (refine mix_call 14 _ _ rfl rfl (enters_of Tryz.func14 (by kernel_rfl) rfl) ?_ (K9.out _) ?_; (focus (simp [Act.eval])); rintro e w2 ⟨rfl, hb⟩; refine ⟨_, rfl, S.call hb, ?_⟩; have S := S.call hb; clear hb; simp only [Act.put, List.setIfInBounds_toArray, List.set_cons_succ, List.set_cons_zero])
    | (refine mix_call 15 _ _ rfl rfl (enters_of Tryz.func15 (by kernel_rfl) rfl) ?_ (K10.out _) ?_; (focus (simp [Act.eval])); rintro e w2 ⟨rfl, hb⟩; refine ⟨_, rfl, S.call hb, ?_⟩; have S := S.call hb; clear hb; simp only [Act.put, List.setIfInBounds_toArray, List.set_cons_succ, List.set_cons_zero])
    | (refine mix_call 16 _ _ rfl rfl (enters_of Tryz.func16 (by kernel_rfl) rfl) ?_ (K11.out _ (HNd.out _ _ S)) ?_; (focus (simp [Act.eval])); rintro e w2 ⟨rfl, hb⟩; refine ⟨_, rfl, S.call hb, ?_⟩; have S := S.call hb; clear hb; simp only [Act.put, List.setIfInBounds_toArray, List.set_cons_succ, List.set_cons_zero])
    | (refine mix_call 17 _ _ rfl rfl (enters_of Tryz.func17 (by kernel_rfl) rfl) ?_ (K12.out _) ?_; (focus (simp [Act.eval])); rintro e w2 ⟨rfl, hb⟩; refine ⟨_, rfl, S.call hb, ?_⟩; have S := S.call hb; clear hb; simp only [Act.put, List.setIfInBounds_toArray, List.set_cons_succ, List.set_cons_zero])
    | (refine mix_call 18 _ _ rfl rfl (enters_of Tryz.func18 (by kernel_rfl) rfl) ?_ (K13.out _ (H4d.out _ _ S)) ?_; (focus (simp [Act.eval])); rintro e w2 ⟨rfl, hb⟩; refine ⟨_, rfl, S.call hb, ?_⟩; have S := S.call hb; clear hb; simp only [Act.put, List.setIfInBounds_toArray, List.set_cons_succ, List.set_cons_zero])
    | (refine mix_call 19 _ _ rfl rfl (enters_of Tryz.func19 (by kernel_rfl) rfl) ?_ (K14.out _) ?_; (focus (simp [Act.eval])); rintro e w2 ⟨rfl, hb⟩; refine ⟨_, rfl, S.call hb, ?_⟩; have S := S.call hb; clear hb; simp only [Act.put, List.setIfInBounds_toArray, List.set_cons_succ, List.set_cons_zero])
    | (refine mix_call 21 _ _ rfl rfl (enters_of Tryz.func21 (by kernel_rfl) rfl) ?_ (K15.out _ (HPd.out _ _ S) (HDd.out _ _ S)) ?_; (focus (simp [Act.eval])); rintro e w2 ⟨A5, c5, rfl, hta, hb⟩; refine ⟨_, rfl, S.call hb, ?_⟩; have S := S.call hb; clear hb; simp only [Act.put, List.setIfInBounds_toArray, List.set_cons_succ, List.set_cons_zero])
    | (refine mix_call 22 _ _ rfl rfl (enters_of Tryz.func22 (by kernel_rfl) rfl) ?_ (K16.out _) ?_; (focus (simp [Act.eval])); rintro e w2 ⟨A6, c6, rfl, htb, hb⟩; have hta := hta.below hb; refine ⟨_, rfl, S.call hb, ?_⟩; have S := S.call hb; clear hb; simp only [Act.put, List.setIfInBounds_toArray, List.set_cons_succ, List.set_cons_zero])
    | (refine mix_call 20 _ _ rfl rfl (enters_of Tryz.func20 (by kernel_rfl) rfl) ?_ (K17.out _ _ _ _ c5 c6 _ hta htb) ?_; (focus (simp [Act.eval])); rintro e w2 ⟨rfl, hb⟩; refine ⟨_, rfl, S.call hb, ?_⟩; have S := S.call hb; clear hb; simp only [Act.put, List.setIfInBounds_toArray, List.set_cons_succ, List.set_cons_zero])
  )
  refine mix_nil ?_
  go_wp2_with fail
  go_ret
  exact ⟨rfl, S.below⟩
theorem addrTells_law {H : Type} {enc : TypeId × Value → H} {d0 : DataW H} {p0 : List MemPlace} {base : Nat} (v0 : Value) (W : World) (o0 : Value.okWide Tryz.prog W .any base 24 v0)
    (k0 : DataW.Trod enc Tryz.prog W 0 (fun _ => true) true 24 v0 d0 p0) (hD : DB W) (hP : P10 W) (hN : NR W) (hM4 : M4 W) (hM : MX W) :
    Calls Tryz.prog 3 #[v0] W fun e w' => e = .returned (.bool true) ∧ Below W.heap.size W w' := by
  obtain ⟨f, z, ip, rfl, hip, _, wz⟩ := open_ad o0 k0
  have h0 : -9223372036854775808 ≤ z ∧ z ≤ 9223372036854775807 := by
    simp only [Lit.wf, Bool.and_eq_true, decide_eq_true_eq] at wz
    have e0 : IntKind.i64.min = -9223372036854775808 := rfl
    have e1 : IntKind.i64.max = 9223372036854775807 := rfl
    omega
  exact tells09_any f z ip W hip h0.1 h0.2 hP hD hM hN hM4
end Go.Proofs.YthbdeafbdmbabaaGreatDoor
namespace Go.Proofs.YthbdeafbdmbabaaGreatDoor
open Go.RowKit Go
set_option linter.unusedVariables false
set_option linter.unusedSimpArgs false
set_option maxRecDepth 100000
theorem unV_form (L : List (List UInt8)) : ∃ f ip b, unV (unrevP L) = .tuple #[adV f ip 0, .bool b] ∧ ip.length = 16 := by
  cases h : unrevP L with
  | none => exact ⟨0, zero16, false, rfl, rfl⟩
  | some a =>
    refine ⟨a.1, a.2, true, rfl, ?_⟩
    unfold unrevP at h
    split at h
    · injection h with h
      rw [← h]
      exact saidE_len L
    · cases h
set_option maxHeartbeats 8000000 in
theorem reads09_any (s : ByteArray) (A : Option Addr) (n c : Nat) (L : List (List UInt8)) (w : World) (hs : s.size ≤ 9223372036854775807) (hl : TextsAt w A n L) (hx : ∀ x ∈ L, x.length ≤ 140737488351232) (hP : P10 w) (hD : DB w) (hM : MX w) (hNR : NR w) :
    Calls Tryz.prog 4 #[.string s, .slice A n c] w fun e w' => e = .returned (.bool true) ∧ Below w.heap.size w w' := by
  have S := Ats.start w
  have h0 := fun w (h : P10 w) (h' : DB w) (h'' : MX w) (h3 : NR w) => works09_any w h h' h'' h3
  have hPd : ∀ wr L, Ats w.heap.size w wr L → P10 wr := fun wr L h => hP.below (Nat.le_refl _) h.below
  have hDd : ∀ wr L, Ats w.heap.size w wr L → DB wr := fun wr L h => hD.below (Nat.le_refl _) h.below
  have hMd : ∀ wr L, Ats w.heap.size w wr L → MX wr := fun wr L h => hM.below (Nat.le_refl _) h.below
  have hNd : ∀ wr L, Ats w.heap.size w wr L → NR wr := fun wr L h => hNR.below (Nat.le_refl _) h.below
  have hTd : ∀ wr L', Ats w.heap.size w wr L' → TextsAt wr A n L := fun wr L' h => hl.below h.below
  have HPd := Lib.hid hPd
  have HDd := Lib.hid hDd
  have HMd := Lib.hid hMd
  have HNd := Lib.hid hNd
  have HTd := Lib.hid hTd
  have H0 := Lib.hid h0
  have hf := fun w (h : TextsAt w A n L) => few_any A n c L w h hx
  clear hPd hDd hMd hNd hTd h0 hP hD hM hNR hl
  by_cases h3 : 300 < s.size
  · have d9 : decide ((300 : Int) < s.size) = true := by rw [decide_eq_true_eq]; omega
    clear hf
    go_enter Tryz.func4, Tryz.ntmps4
    go_wp2_with (first
      | ((with_reducible refine (H0.out _ (HPd.out _ _ S) (HDd.out _ _ S) (HMd.out _ _ S) (HNd.out _ _ S)).mono ?_); rintro e w2 ⟨rfl, hb⟩; have S := S.call hb; clear hb))
    go_ret
    exact ⟨rfl, S.below⟩
  · have d9 : decide ((300 : Int) < s.size) = false := by rw [decide_eq_false_iff_not]; omega
    by_cases hfw : sizeL L ≤ 401
    · have k1 := fun w (h : P10 w) (h' : MX w) => aParse_any s w (by omega) h h'
      have k2 := fun w => rParse_any s w (by omega)
      have k3 := fun w (h : TextsAt w A n L) (h' : P10 w) (h'' : DB w) => aUnreverse_any A n c L w h (by omega) h' h''
      have k4 := fun w (h : TextsAt w A n L) => rUnreverse_any A n c L w h (by omega)
      rw [← unrev_eq L] at k4
      obtain ⟨f2, i2, b2, hV, hl2⟩ := unV_form L
      rw [hV] at k3 k4
      have hl1 := parseA_len s.data.toList
      obtain ⟨R, hR⟩ : ∃ R, R = parseA s.data.toList := ⟨_, rfl⟩
      rw [← hR] at k1 k2 hl1
      obtain ⟨f1, i1, z1, e1⟩ := R
      simp only [adTupZ] at k1 k2
      simp only at hl1
      rw [show decide (sizeL L ≤ 401) = true from decide_eq_true hfw] at hf
      have s1 := adSize f1 i1 z1 hl1
      have s2 := adSize f2 i2 0 hl2
      have hE1 := ad_eqlSelf f1 z1 i1 hl1
      have hE2 := ad_eqlSelf f2 0 i2 hl2
      have hG := ad_guard
      have HF := Lib.hid hf
      have K1 := Lib.hid k1
      have K2 := Lib.hid k2
      have K3 := Lib.hid k3
      have K4 := Lib.hid k4
      clear hf k1 k2 k3 k4 hV hR hx h3
      go_enter Tryz.func4, Tryz.ntmps4
      go_wp2_with (first
        | ((with_reducible refine (HF.out _ (HTd.out _ _ S)).mono ?_); rintro e w2 ⟨rfl, hq⟩; subst hq)
        | ((with_reducible refine (K1.out _ (HPd.out _ _ S) (HMd.out _ _ S)).mono ?_); rintro e w2 ⟨rfl, hb⟩; have S := S.call hb; clear hb)
        | ((with_reducible refine (K2.out _).mono ?_); rintro e w2 ⟨rfl, hb⟩; have S := S.call hb; clear hb)
        | ((with_reducible refine (K3.out _ (HTd.out _ _ S) (HPd.out _ _ S) (HDd.out _ _ S)).mono ?_); rintro e w2 ⟨rfl, hb⟩; have S := S.call hb; clear hb)
        | ((with_reducible refine (K4.out _ (HTd.out _ _ S)).mono ?_); rintro e w2 ⟨rfl, hb⟩; have S := S.call hb; clear hb)
        | ((with_reducible refine (H0.out _ (HPd.out _ _ S) (HDd.out _ _ S) (HMd.out _ _ S) (HNd.out _ _ S)).mono ?_); rintro e w2 ⟨rfl, hb⟩; have S := S.call hb; clear hb)
        | ((with_reducible show wpList _ _ _ (Oper.mk (some 5) (Op.alloc _) _ _ _ _ :: _) _ _); refine wpList_allocS rfl _ rfl _ adZero S ?_; clear S; intro ga w1 S)
        | ((with_reducible show wpList _ _ _ (Oper.mk (some 7) (Op.alloc _) _ _ _ _ :: _) _ _); refine wpList_allocS rfl _ rfl _ adZero S ?_; clear S; intro gb w1 S)
        | ((with_reducible show wpList _ _ _ (Oper.mk (some 9) (Op.alloc _) _ _ _ _ :: _) _ _); refine wpList_allocS rfl _ rfl _ adZero S ?_; clear S; intro gc w1 S)
        | ((with_reducible show wpList _ _ _ (Oper.mk (some 11) (Op.alloc _) _ _ _ _ :: _) _ _); refine wpList_allocS rfl _ rfl _ adZero S ?_; clear S; intro gd w1 S)
        | ((with_reducible show wpList _ _ _ (Oper.mk _ (Op.store _ (Operand.tmp 5) _) _ _ _ _ :: _) _ _); refine wpList_storeS rfl _ _ _ rfl S _ rfl _ rfl 0 _ _ rfl s1 (by exact ad_sizes _ _ _ _ _ _ rfl hl1) (by exact adCs_one _ _ _) ?_; clear S; intro w1 S; (first | simp only [List.set_cons_zero] at S | simp only [List.set_cons_succ, List.set_cons_zero] at S | skip))
        | ((with_reducible show wpList _ _ _ (Oper.mk _ (Op.store _ (Operand.tmp 7) _) _ _ _ _ :: _) _ _); refine wpList_storeS rfl _ _ _ rfl S _ rfl _ rfl 0 _ _ rfl s1 (by exact ad_sizes _ _ _ _ _ _ rfl hl1) (by exact adCs_one _ _ _) ?_; clear S; intro w1 S; (first | simp only [List.set_cons_zero] at S | simp only [List.set_cons_succ, List.set_cons_zero] at S | skip))
        | ((with_reducible show wpList _ _ _ (Oper.mk _ (Op.store _ (Operand.tmp 9) _) _ _ _ _ :: _) _ _); refine wpList_storeS rfl _ _ _ rfl S _ rfl _ rfl 0 _ _ rfl s2 (by exact ad_sizes _ _ _ _ _ _ rfl hl2) (by exact adCs_one _ _ _) ?_; clear S; intro w1 S; (first | simp only [List.set_cons_zero] at S | simp only [List.set_cons_succ, List.set_cons_zero] at S | skip))
        | ((with_reducible show wpList _ _ _ (Oper.mk _ (Op.store _ (Operand.tmp 11) _) _ _ _ _ :: _) _ _); refine wpList_storeS rfl _ _ _ rfl S _ rfl _ rfl 0 _ _ rfl s2 (by exact ad_sizes _ _ _ _ _ _ rfl hl2) (by exact adCs_one _ _ _) ?_; clear S; intro w1 S; (first | simp only [List.set_cons_zero] at S | simp only [List.set_cons_succ, List.set_cons_zero] at S | skip))
        | ((with_reducible show wpList _ _ _ (Oper.mk _ (Op.load _ (Operand.tmp 5)) _ _ _ _ :: _) _ _); refine wpList_loadS rfl _ _ rfl S _ rfl 3 _ _ rfl _ Tryz.underlying24 rfl s1 ?_)
        | ((with_reducible show wpList _ _ _ (Oper.mk _ (Op.load _ (Operand.tmp 7)) _ _ _ _ :: _) _ _); refine wpList_loadS rfl _ _ rfl S _ rfl 2 _ _ rfl _ Tryz.underlying24 rfl s1 ?_)
        | ((with_reducible show wpList _ _ _ (Oper.mk _ (Op.load _ (Operand.tmp 9)) _ _ _ _ :: _) _ _); refine wpList_loadS rfl _ _ rfl S _ rfl 1 _ _ rfl _ Tryz.underlying24 rfl s2 ?_)
        | ((with_reducible show wpList _ _ _ (Oper.mk _ (Op.load _ (Operand.tmp 11)) _ _ _ _ :: _) _ _); refine wpList_loadS rfl _ _ rfl S _ rfl 0 _ _ rfl _ Tryz.underlying24 rfl s2 ?_))
      go_ret
      exact ⟨rfl, S.below⟩
    · rw [show decide (sizeL L ≤ 401) = false from decide_eq_false hfw] at hf
      have HF := Lib.hid hf
      clear hf hfw hx h3
      go_enter Tryz.func4, Tryz.ntmps4
      go_wp2_with (first
        | ((with_reducible refine (HF.out _ (HTd.out _ _ S)).mono ?_); rintro e w2 ⟨rfl, hq⟩; subst hq)
        | ((with_reducible refine (H0.out _ (HPd.out _ _ S) (HDd.out _ _ S) (HMd.out _ _ S) (HNd.out _ _ S)).mono ?_); rintro e w2 ⟨rfl, hb⟩; have S := S.call hb; clear hb))
      go_ret
      exact ⟨rfl, S.below⟩
theorem addrReads_law {H : Type} {enc : TypeId × Value → H} {d1 : DataW H} {p1 : List MemPlace} {base : Nat} (s : ByteArray) (v1 : Value) (W : World) (hs : s.size ≤ maxLen) (o1 : Value.okWide Tryz.prog W .any base 34 v1)
    (k1 : DataW.Trod enc Tryz.prog W 0 (fun _ => true) true 34 v1 d1 p1) (z1 : (d1.weights Tryz.prog 34).all (· ≤ reachBytes) = true) (hD : DB W) (hP : P10 W) (hN : NR W) (hM : MX W) :
    Calls Tryz.prog 4 #[.string s, v1] W fun e w' => e = .returned (.bool true) ∧ Below W.heap.size W w' := by
  obtain ⟨A, n, c, rfl⟩ := Go.WideShapes.okWide_slice Tryz.underlying34 o1
  obtain ⟨L, hl, hc, _, hx, hb⟩ := open_texts Tryz.underlying34 Tryz.underlying9 (by kernel_rfl) k1 z1
  exact reads09_any s A n c L W (by unfold maxLen at hs; omega) hl hx hP hD hM hN
end Go.Proofs.YthbdeafbdmbabaaGreatDoor
