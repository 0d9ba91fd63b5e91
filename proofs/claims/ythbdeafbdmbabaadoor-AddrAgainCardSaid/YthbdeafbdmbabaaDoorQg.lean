/- Texts behind a law of this seat, in order: Law09, Law09d. -/
import Derived.Test.YthbdeafbdmbabaaDoorPa
import Derived.Test.YthbdeafbdmbabaaDoorPb
import Derived.Test.YthbdeafbdmbabaaDoorPc
import Derived.Test.YthbdeafbdmbabaaDoorPd
import Derived.Test.YthbdeafbdmbabaaDoorPe
import Derived.Test.YthbdeafbdmbabaaDoorPf
import Derived.Test.YthbdeafbdmbabaaDoorPg
import Derived.Test.YthbdeafbdmbabaaDoorPh
import Derived.Test.YthbdeafbdmbabaaDoorPi
import Derived.Test.YthbdeafbdmbabaaDoorPj
import Derived.Test.YthbdeafbdmbabaaDoorPk
import Derived.Test.YthbdeafbdmbabaaDoorPl
import Derived.Test.YthbdeafbdmbabaaDoorPm
import Derived.Test.YthbdeafbdmbabaaDoorPn
import Derived.Test.YthbdeafbdmbabaaDoorPo
import Derived.Test.YthbdeafbdmbabaaDoorPp
import Derived.Test.YthbdeafbdmbabaaDoorPq
import Derived.Test.YthbdeafbdmbabaaDoorPr
import Derived.Test.YthbdeafbdmbabaaDoorPs
import Derived.Test.YthbdeafbdmbabaaDoorPt
import Derived.Test.YthbdeafbdmbabaaDoorPu
import Derived.Test.YthbdeafbdmbabaaDoorPv
import Derived.Test.YthbdeafbdmbabaaDoorPw
import Derived.Test.YthbdeafbdmbabaaDoorPx
import Derived.Test.YthbdeafbdmbabaaDoorPy
import Derived.Test.YthbdeafbdmbabaaDoorPz
import Derived.Test.YthbdeafbdmbabaaDoorQa
import Derived.Test.YthbdeafbdmbabaaDoorQb
import Derived.Test.YthbdeafbdmbabaaDoorQc
import Derived.Test.YthbdeafbdmbabaaDoorQd
import Derived.Test.YthbdeafbdmbabaaDoorQe
import Derived.Test.YthbdeafbdmbabaaDoorQf
import Derived.Below
import Derived.BigQuiet
import Derived.BigRegion
import Derived.ChangeSame
import Derived.ChangeSlices
import Derived.Deep.AppendLies
import Derived.Deep.Draws
import Derived.Deep.OwnRows
import Derived.Deep.Quiet
import Derived.Deep.QuietTactic
import Derived.Deep.RegionLaw
import Derived.Great.Ranges
import Derived.Handed
import Derived.Handy
import Derived.Laws.AppendOwnNone
import Derived.Laws.Bits64b
import Derived.Laws.BitsAllLaws
import Derived.Laws.CopyOwn
import Derived.Laws.OwnMore
import Derived.Laws.Rows
import Derived.Laws.StructEq
import Derived.Lib.AppendZeros
import Derived.Lib.AppendZerosOnto
import Derived.Lib.Bytealg
import Derived.Lib.DecodeN
import Derived.Lib.Hide
import Derived.Lib.ItoaLen
import Derived.Lib.ItoaMem
import Derived.Lib.ItoaNum
import Derived.Lib.Join
import Derived.Lib.Overlaps
import Derived.Lib.RuneBytes
import Derived.Lib.SmallJoins
import Derived.Lib.Split
import Derived.Lib.SplitLaws
import Derived.Lib.Strings
import Derived.OpenShut
import Derived.Shelf.LaysM
import Derived.Shelf.Small.Bits
import Derived.Shelf.Small.Strs
import Derived.Shelf.Strconv.Itoa0
import Derived.Shelf.Strconv.Itoa1
import Derived.Shelf.Strconv.Itoa2
import Derived.Shelf.Strconv.Itoa3
import Derived.Shelf.Strings.Builder1
import Derived.Shelf.Strings.Builder2
import Derived.Shelf.Strings.Builder2Cap
import Derived.Shelf.Strings.BuilderCap
import Derived.Shelf.Strings.BuilderF
import Derived.Shelf.Strings.BuilderK
import Derived.Shelf.Strings.Count
import Derived.Shelf.Strings.Cut
import Derived.Shelf.Strings.Explode
import Derived.Shelf.Strings.OnBuilder
import Derived.Shelf.Strings.Prefix
import Derived.Shelf.Strings.RuneCount
import Derived.Shelf.Strings.Search1
import Derived.Shelf.Strings.Search2
import Derived.Shelf.Strings.Search3
import Derived.Shelf.Strings.Shaped
import Derived.Shelf.Strings.Split
import Derived.Shelf.Strings.SplitShaped
import Derived.Shelf.Unicode.Decode
import Derived.Shelf.Unicode.DecodeAny
import Derived.Shelf.Unicode.DecodeSlow
import Derived.Shelf.Utf8.RuneCount
import Derived.Shelf.Vars
import Derived.SizedLaws
import Derived.SliceStrings
import Derived.StillTailTactics
import Derived.Stop.BytesEq
import Derived.Test.YthbdeafbdmbabaaDoorProg
import Derived.WalkKit
import Derived.WalkLawsBesides
import Derived.WalkSpells
namespace Go.Proofs.YthbdeafbdmbabaaDoor
open Go.RowKit Go
set_option linter.unusedVariables false
set_option linter.unusedSimpArgs false
set_option maxRecDepth 100000
def tA : List UInt8 := [49, 57, 50, 46, 48, 46, 50, 46, 49]
def tB : List UInt8 := [102, 101, 56, 48, 58, 58, 49, 37, 50]
def tR : List UInt8 := [49, 46, 50, 46, 48, 46, 49, 57, 50, 46, 105, 110, 45, 97, 100, 100, 114, 46, 97, 114, 112, 97]
def ipA : List UInt8 := quad16 192 0 2 1
def ipB : List UInt8 := [254, 128, 0, 0, 0, 0, 0, 0, 0, 0, 0, 0, 0, 0, 0, 1]
theorem pA : parseA tA = ⟨4, ipA, 0, 0⟩ := by rw [← quadT_lit 192 0 2 1 tA (by decide +kernel)]; exact lit_quad _ _ _ _ (quadT_colB _ _ _ _)
theorem pB : parseA tB = ⟨6, ipB, 2, 0⟩ := by
  have h1 : colB tB = true := by decide +kernel
  have h2 : cutK tB 37 = 7 := by decide +kernel
  have h3 : octE [102, 101, 56, 48, 58, 58, 49] = some ipB := by decide +kernel
  have h4 : numR [50] 2147483647 = (2, 0) := by decide +kernel
  unfold parseA colonE
  rw [if_pos h1, h2, show List.take 7 tB = [102, 101, 56, 48, 58, 58, 49] from rfl, h3, show List.drop (7 + 1) tB = [50] from rfl, h4]
  rfl
theorem sA : scopeE 4 ipA 0 = 14 := by decide +kernel
theorem sB : scopeE 6 ipB 2 = 2 := by decide +kernel
theorem cA : checkE 4 ipA 0 = 0 := by decide +kernel
theorem uA : unmapE 6 (map4 ipA) 0 = ⟨4, ipA, 0⟩ := rfl
theorem mA : mapE 4 ipA 0 = ⟨6, map4 ipA, 0⟩ := rfl
theorem rA : revL 4 ipA = [[49], [50], [48], [49, 57, 50], lInaddr, lArpa] := by
  rw [rev4_at]
  rw [decX_eq _ (by have := UInt8.toNat_lt (ipA.getD 3 0); omega), decX_eq _ (by have := UInt8.toNat_lt (ipA.getD 2 0); omega), decX_eq _ (by have := UInt8.toNat_lt (ipA.getD 1 0); omega), decX_eq _ (by have := UInt8.toNat_lt (ipA.getD 0 0); omega)]
  decide +kernel
theorem plA : plainL (revL 4 ipA) = tR := by rw [rA]; decide +kernel
set_option maxHeartbeats 1000000 in
theorem domainText_any (A : Option Addr) (n c : Nat) (l : List (List UInt8)) (w : World) (hl : TextsAt w A n l) (hb : sizeL l ≤ 3000) :
    Calls Tryd.prog 9 #[.slice A n c] w fun e w' => e = .returned (.string ⟨(plainL l).toArray⟩) ∧ Below w.heap.size w w' := by
  have H1 := Lib.hid (refPlain5_any A n c l w hl (by omega))
  go_enter Tryd.func9, Tryd.ntmps9
  go_wp2_with ((with_reducible refine H1.out.mono ?_); rintro e w2 ⟨rfl, hq⟩; subst hq)
  go_ret
  exact ⟨rfl, Below.refl _ _⟩
set_option maxHeartbeats 8000000 in
theorem works09_any (w : World) (hP : P10 w) (hD : DB w) (hM : MX w) (hNR : NR w) : Calls Tryd.prog 4 #[] w fun e w' => e = .returned (.bool true) ∧ Below w.heap.size w w' := by
  have S := Ats.start w
  have h1 := fun w (h : P10 w) (h' : MX w) => aParse_any ⟨tA.toArray⟩ w (by decide) h h'
  have h2 := fun w (h : P10 w) (h' : MX w) => aParse_any ⟨tB.toArray⟩ w (by decide) h h'
  rw [show (⟨tA.toArray⟩ : ByteArray).data.toList = tA from rfl, pA] at h1
  rw [show (⟨tB.toArray⟩ : ByteArray).data.toList = tB from rfl, pB] at h2
  have h3 := fun w (h : NR w) => aScope_any 6 2 ipB w rfl h
  rw [sB] at h3
  have h4 := fun w (h : NR w) => aScope_any 4 0 ipA w rfl h
  rw [sA] at h4
  have h5 := fun w (h : P10 w) (h' : DB w) => aReverse_any 4 0 ipA w rfl h h'
  have hrs := revL_size 4 ipA
  have h6 := fun A n c w (h : TextsAt w A n (revL 4 ipA)) => domainText_any A n c (revL 4 ipA) w h (by omega)
  rw [plA] at h6
  have h7 := fun w => aMap_any 4 0 ipA w rfl
  rw [mA] at h7
  have h8 := fun w => aUnmap_any 6 0 (map4 ipA) w rfl
  rw [uA] at h8
  have h9 := fun w => aCheck_any 4 0 ipA w rfl
  rw [cA] at h9
  simp only [adTupZ] at h1 h2 h7 h8
  unfold tA at h1
  unfold tB at h2
  unfold tR at h6
  have s1 := adSize 4 ipA 0 rfl
  have s2 := adSize 6 ipB 2 rfl
  have hE := ad_eqlSelf 4 0 ipA rfl
  have hG := ad_guard
  obtain ⟨V, hV⟩ : ∃ V, V = revL 4 ipA := ⟨_, rfl⟩
  rw [← hV] at h5 h6
  obtain ⟨a1, ha1⟩ : ∃ a, a = ipA := ⟨_, rfl⟩
  obtain ⟨a2, ha2⟩ : ∃ a, a = ipB := ⟨_, rfl⟩
  have l1 : a1.length = 16 := by rw [ha1]; rfl
  have l2 : a2.length = 16 := by rw [ha2]; rfl
  obtain ⟨a3, ha3⟩ : ∃ a, a = map4 ipA := ⟨_, rfl⟩
  rw [← ha3] at h7 h8
  rw [← ha1] at h1 h4 h5 h7 h8 h9 s1 hE
  rw [← ha2] at h2 h3 s2
  have hPd : ∀ wr L, Ats w.heap.size w wr L → P10 wr := fun wr L h => hP.below (Nat.le_refl _) h.below
  have hDd : ∀ wr L, Ats w.heap.size w wr L → DB wr := fun wr L h => hD.below (Nat.le_refl _) h.below
  have hMd : ∀ wr L, Ats w.heap.size w wr L → MX wr := fun wr L h => hM.below (Nat.le_refl _) h.below
  have hNd : ∀ wr L, Ats w.heap.size w wr L → NR wr := fun wr L h => hNR.below (Nat.le_refl _) h.below
  have HPd := Lib.hid hPd
  have HDd := Lib.hid hDd
  have HMd := Lib.hid hMd
  have HNd := Lib.hid hNd
  have H1 := Lib.hid h1
  have H2 := Lib.hid h2
  have H3 := Lib.hid h3
  have H4 := Lib.hid h4
  have H5 := Lib.hid h5
  have H6 := Lib.hid h6
  have H7 := Lib.hid h7
  have H8 := Lib.hid h8
  have H9 := Lib.hid h9
  clear hPd hDd hMd hNd h1 h2 h3 h4 h5 h6 h7 h8 h9 hP hD hM hNR ha1 ha2 ha3 hV hrs
  go_enter Tryd.func4, Tryd.ntmps4
  go_wp2_with (first
    | ((with_reducible refine (H1.out _ (HPd.out _ _ S) (HMd.out _ _ S)).mono ?_); rintro e w2 ⟨rfl, hb⟩; have S := S.call hb; clear hb)
    | ((with_reducible refine (H2.out _ (HPd.out _ _ S) (HMd.out _ _ S)).mono ?_); rintro e w2 ⟨rfl, hb⟩; have S := S.call hb; clear hb)
    | ((with_reducible show wpList _ _ _ (Oper.mk (some 1) (Op.alloc _) _ _ _ _ :: _) _ _); refine wpList_allocS rfl _ rfl _ adZero S ?_; clear S; intro ga w1 S)
    | ((with_reducible show wpList _ _ _ (Oper.mk (some 3) (Op.alloc _) _ _ _ _ :: _) _ _); refine wpList_allocS rfl _ rfl _ adZero S ?_; clear S; intro gb w1 S)
    | ((with_reducible show wpList _ _ _ (Oper.mk _ (Op.store _ (Operand.tmp 1) _) _ _ _ _ :: _) _ _); refine wpList_storeS rfl _ _ _ rfl S _ rfl _ rfl 0 _ _ rfl s1 (by exact ad_sizes _ _ _ _ _ _ rfl l1) (by exact adCs_one _ _ _) ?_; clear S; intro w1 S; (first | simp only [List.set_cons_zero] at S | simp only [List.set_cons_succ, List.set_cons_zero] at S | skip))
    | ((with_reducible show wpList _ _ _ (Oper.mk _ (Op.store _ (Operand.tmp 3) _) _ _ _ _ :: _) _ _); refine wpList_storeS rfl _ _ _ rfl S _ rfl _ rfl 0 _ _ rfl s2 (by exact ad_sizes _ _ _ _ _ _ rfl l2) (by exact adCs_one _ _ _) ?_; clear S; intro w1 S; (first | simp only [List.set_cons_zero] at S | simp only [List.set_cons_succ, List.set_cons_zero] at S | skip)))
  refine wp_region_mixO (C := fun w' => Ats w.heap.size w w' [(gb, 25, (adCs 6 a2 2).toArray), (ga, 25, (adCs 4 a1 0).toArray)]) [(0, true), (1, true), (2, true), (3, true), (4, true), (5, true), (6, true), (7, true), (8, false), (9, true), (10, true), (11, true), (12, true), (13, false), (14, true), (15, true), (16, true), (17, true), (18, false), (19, false), (20, true), (21, true), (22, true), (23, true), (26, true), (24, false), (25, false), (27, true), (28, true), (29, true), (30, true), (31, false), (32, true), (33, true), (34, true)] (by kernel_rfl) (by kernel_rfl) S.drew ?_
  simp only [List.map_cons, List.map_nil, List.getD_cons_zero, List.getD_cons_succ]
  have S := S.drew
  repeat (first
    | (refine mix_loadS rfl _ (.tmp 3) rfl _ rfl 0 _ _ rfl _ Tryd.underlying25 rfl s2 ?_; simp only [Act.put, List.setIfInBounds_toArray, List.set_cons_succ, List.set_cons_zero])
    | (refine mix_loadS rfl _ (.tmp 1) rfl _ rfl 1 _ _ rfl _ Tryd.underlying25 rfl s1 ?_; simp only [Act.put, List.setIfInBounds_toArray, List.set_cons_succ, List.set_cons_zero])
    | (refine mix_move rfl _ rfl ?_; simp only [Act.put, Act.eval, Array.getD_eq_getD_getElem?, List.getElem?_toArray, List.getElem?_cons_succ, List.getElem?_cons_zero, Option.getD_some, List.setIfInBounds_toArray, List.set_cons_succ, List.set_cons_zero]) | (refine mix_assign rfl _ rfl ?_; simp only [Act.put, Act.eval, Array.getD_eq_getD_getElem?, List.getElem?_toArray, List.getElem?_cons_succ, List.getElem?_cons_zero, Option.getD_some, List.setIfInBounds_toArray, List.set_cons_succ, List.set_cons_zero]) | (refine mix_val rfl (v := ?_) ?_ ?_; rotate_left; (focus (intro w5 S5; go_simp; try with_reducible rfl)); simp only [Act.put, List.setIfInBounds_toArray, List.set_cons_succ, List.set_cons_zero])
    | (refine mix_call 8 _ _ rfl rfl (enters_of Tryd.func8 (by kernel_rfl) rfl) ?_ (H3.out _ (HNd.out _ _ S)) ?_; (focus (simp [Act.eval])); rintro e w2 ⟨rfl, hb⟩; refine ⟨_, rfl, S.call hb, ?_⟩; have S := S.call hb; clear hb; simp only [Act.put, List.setIfInBounds_toArray, List.set_cons_succ, List.set_cons_zero])
    | (refine mix_call 8 _ _ rfl rfl (enters_of Tryd.func8 (by kernel_rfl) rfl) ?_ (H4.out _ (HNd.out _ _ S)) ?_; (focus (simp [Act.eval])); rintro e w2 ⟨rfl, hb⟩; refine ⟨_, rfl, S.call hb, ?_⟩; have S := S.call hb; clear hb; simp only [Act.put, List.setIfInBounds_toArray, List.set_cons_succ, List.set_cons_zero])
    | (refine mix_call 10 _ _ rfl rfl (enters_of Tryd.func10 (by kernel_rfl) rfl) ?_ (H5.out _ (HPd.out _ _ S) (HDd.out _ _ S)) ?_; (focus (simp [Act.eval])); rintro e w2 ⟨A5, c5, rfl, hta, hb⟩; refine ⟨_, rfl, S.call hb, ?_⟩; have S := S.call hb; clear hb; simp only [Act.put, List.setIfInBounds_toArray, List.set_cons_succ, List.set_cons_zero])
    | (refine mix_call 9 _ _ rfl rfl (enters_of Tryd.func9 (by kernel_rfl) rfl) ?_ (H6.out _ _ c5 _ hta) ?_; (focus (simp [Act.eval])); rintro e w2 ⟨rfl, hb⟩; refine ⟨_, rfl, S.call hb, ?_⟩; have S := S.call hb; clear hb; simp only [Act.put, List.setIfInBounds_toArray, List.set_cons_succ, List.set_cons_zero])
    | (refine mix_call 12 _ _ rfl rfl (enters_of Tryd.func12 (by kernel_rfl) rfl) ?_ (H7.out _) ?_; (focus (simp [Act.eval])); rintro e w2 ⟨rfl, hb⟩; refine ⟨_, rfl, S.call hb, ?_⟩; have S := S.call hb; clear hb; simp only [Act.put, List.setIfInBounds_toArray, List.set_cons_succ, List.set_cons_zero])
    | (refine mix_call 11 _ _ rfl rfl (enters_of Tryd.func11 (by kernel_rfl) rfl) ?_ (H8.out _) ?_; (focus (simp [Act.eval])); rintro e w2 ⟨rfl, hb⟩; refine ⟨_, rfl, S.call hb, ?_⟩; have S := S.call hb; clear hb; simp only [Act.put, List.setIfInBounds_toArray, List.set_cons_succ, List.set_cons_zero])
    | (refine mix_call 13 _ _ rfl rfl (enters_of Tryd.func13 (by kernel_rfl) rfl) ?_ (H9.out _) ?_; (focus (simp [Act.eval])); rintro e w2 ⟨rfl, hb⟩; refine ⟨_, rfl, S.call hb, ?_⟩; have S := S.call hb; clear hb; simp only [Act.put, List.setIfInBounds_toArray, List.set_cons_succ, List.set_cons_zero])
  )
  refine mix_nil ?_
  go_wp2_with fail
  go_ret
  exact ⟨rfl, S.below⟩
end Go.Proofs.YthbdeafbdmbabaaDoor
namespace Go.Proofs.YthbdeafbdmbabaaDoor
open Go.RowKit Go
set_option linter.unusedVariables false
set_option linter.unusedSimpArgs false
set_option maxRecDepth 100000
theorem quadI_len (ip : List UInt8) : (quadI ip).length ≤ 15 := (quadT_len _ _ _ _).1
theorem again_cases (l : List UInt8) : (∃ f ip z, parseA l = ⟨f, ip, z, 0⟩ ∧ ip.length = 16 ∧ 0 ≤ z ∧ z ≤ 2147483647 ∧ parseA (textA f ip z) = ⟨f, ip, z, 0⟩ ∧ checkE f ip z = 0 ∧ (textA f ip z).length ≤ 4000) ∨ (∃ e, e ≠ 0 ∧ parseA l = ⟨0, zero16, 0, e⟩) := by
  rcases parseA_cases l with ⟨a, b, c, d, h⟩ | ⟨ip, z, h, hip, h0, h1⟩ | h
  · have := quadI_len (quad16 a b c d)
    exact .inl ⟨4, quad16 a b c d, 0, h, rfl, Int.le_refl _, by decide, again4 a b c d, check4 a b c d, by show (quadI (quad16 a b c d)).length ≤ 4000; omega⟩
  · have := textC_len ip z (by omega)
    exact .inl ⟨6, ip, z, h, hip, h0, h1, again6 ip z hip h0 h1, check6 ip z h0 h1, by show (textC ip z).length ≤ 4000; omega⟩
  · exact .inr h
set_option maxHeartbeats 8000000 in
theorem again09_any (s : ByteArray) (w : World) (hs : s.size ≤ 9223372036854775807) (hP : P10 w) (hD : DB w) (hM : MX w) (hNR : NR w) :
    Calls Tryd.prog 3 #[.string s] w fun e w' => e = .returned (.bool true) ∧ Below w.heap.size w w' := by
  have S := Ats.start w
  have h0 := fun w (h : P10 w) (h' : DB w) (h'' : MX w) (h3 : NR w) => works09_any w h h' h'' h3
  have hPd : ∀ wr L, Ats w.heap.size w wr L → P10 wr := fun wr L h => hP.below (Nat.le_refl _) h.below
  have hDd : ∀ wr L, Ats w.heap.size w wr L → DB wr := fun wr L h => hD.below (Nat.le_refl _) h.below
  have hMd : ∀ wr L, Ats w.heap.size w wr L → MX wr := fun wr L h => hM.below (Nat.le_refl _) h.below
  have hNd : ∀ wr L, Ats w.heap.size w wr L → NR wr := fun wr L h => hNR.below (Nat.le_refl _) h.below
  have HPd := Lib.hid hPd
  have HDd := Lib.hid hDd
  have HMd := Lib.hid hMd
  have HNd := Lib.hid hNd
  have H0 := Lib.hid h0
  clear hPd hDd hMd hNd h0 hP hD hM hNR
  by_cases h3 : 300 < s.size
  · have d9 : decide ((300 : Int) < s.size) = true := by rw [decide_eq_true_eq]; omega
    go_enter Tryd.func3, Tryd.ntmps3
    go_wp2_with (first
      | ((with_reducible refine (H0.out _ (HPd.out _ _ S) (HDd.out _ _ S) (HMd.out _ _ S) (HNd.out _ _ S)).mono ?_); rintro e w2 ⟨rfl, hb⟩; have S := S.call hb; clear hb))
    go_ret
    exact ⟨rfl, S.below⟩
  · have d9 : decide ((300 : Int) < s.size) = false := by rw [decide_eq_false_iff_not]; omega
    have k1 := fun w (h : P10 w) (h' : MX w) => aParse_any s w (by omega) h h'
    rcases again_cases s.data.toList with ⟨f, ip, z, hp, hip, z0, z1, hp2, hck, htl⟩ | ⟨er, her, hp⟩
    · rw [hp] at k1
      simp only [adTupZ] at k1
      have k2 := fun w (h : P10 w) (h' : DB w) => aText_any f z ip w hip (by omega) (by omega) h h'
      have k3 := fun w (h : P10 w) (h' : MX w) => aParse_any ⟨(textA f ip z).toArray⟩ w (by show (textA f ip z).length ≤ 4000; exact htl) h h'
      rw [show (⟨(textA f ip z).toArray⟩ : ByteArray).data.toList = textA f ip z from rfl, hp2] at k3
      simp only [adTupZ] at k3
      have k4 := fun w => rCheck_any f z ip w hip
      rw [hck] at k4
      obtain ⟨T, hT⟩ : ∃ T : ByteArray, T = ⟨(textA f ip z).toArray⟩ := ⟨_, rfl⟩
      rw [← hT] at k2 k3
      have hE := ad_eqlSelf f z ip hip
      have hG := ad_guard
      have has := adSize f ip z hip
      have K1 := Lib.hid k1
      have K2 := Lib.hid k2
      have K3 := Lib.hid k3
      have K4 := Lib.hid k4
      clear k1 k2 k3 k4 hp hp2 hck htl hT h3 z0 z1
      go_enter Tryd.func3, Tryd.ntmps3
      go_wp2_with (first
        | ((with_reducible refine (K1.out _ (HPd.out _ _ S) (HMd.out _ _ S)).mono ?_); rintro e w2 ⟨rfl, hb⟩; have S := S.call hb; clear hb)
        | ((with_reducible refine (K3.out _ (HPd.out _ _ S) (HMd.out _ _ S)).mono ?_); rintro e w2 ⟨rfl, hb⟩; have S := S.call hb; clear hb)
        | ((with_reducible refine (K2.out _ (HPd.out _ _ S) (HDd.out _ _ S)).mono ?_); rintro e w2 ⟨rfl, hb⟩; have S := S.call hb; clear hb)
        | ((with_reducible refine (K4.out _).mono ?_); rintro e w2 ⟨rfl, hb⟩; have S := S.call hb; clear hb)
        | ((with_reducible refine (H0.out _ (HPd.out _ _ S) (HDd.out _ _ S) (HMd.out _ _ S) (HNd.out _ _ S)).mono ?_); rintro e w2 ⟨rfl, hb⟩; have S := S.call hb; clear hb)
        | ((with_reducible show wpList _ _ _ (Oper.mk (some 3) (Op.alloc _) _ _ _ _ :: _) _ _); refine wpList_allocS rfl _ rfl _ adZero S ?_; clear S; intro ga w1 S)
        | ((with_reducible show wpList _ _ _ (Oper.mk (some 6) (Op.alloc _) _ _ _ _ :: _) _ _); refine wpList_allocS rfl _ rfl _ adZero S ?_; clear S; intro gb w1 S)
        | ((with_reducible show wpList _ _ _ (Oper.mk _ (Op.store _ (Operand.tmp 3) _) _ _ _ _ :: _) _ _); refine wpList_storeS rfl _ _ _ rfl S _ rfl _ rfl 0 _ _ rfl has (by exact ad_sizes _ _ _ _ _ _ rfl hip) (by exact adCs_one _ _ _) ?_; clear S; intro w1 S; (first | simp only [List.set_cons_zero] at S | simp only [List.set_cons_succ, List.set_cons_zero] at S | skip))
        | ((with_reducible show wpList _ _ _ (Oper.mk _ (Op.store _ (Operand.tmp 6) _) _ _ _ _ :: _) _ _); refine wpList_storeS rfl _ _ _ rfl S _ rfl _ rfl 0 _ _ rfl has (by exact ad_sizes _ _ _ _ _ _ rfl hip) (by exact adCs_one _ _ _) ?_; clear S; intro w1 S; (first | simp only [List.set_cons_zero] at S | simp only [List.set_cons_succ, List.set_cons_zero] at S | skip))
        | ((with_reducible show wpList _ _ _ (Oper.mk _ (Op.load _ (Operand.tmp 6)) _ _ _ _ :: _) _ _); refine wpList_loadS rfl _ _ rfl S _ rfl 0 _ _ rfl _ Tryd.underlying25 rfl has ?_)
        | ((with_reducible show wpList _ _ _ (Oper.mk _ (Op.load _ (Operand.tmp 3)) _ _ _ _ :: _) _ _); refine wpList_loadS rfl _ _ rfl S _ rfl 0 _ _ rfl _ Tryd.underlying25 rfl has ?_)
        | ((with_reducible show wpList _ _ _ (Oper.mk _ (Op.load _ (Operand.tmp 3)) _ _ _ _ :: _) _ _); refine wpList_loadS rfl _ _ rfl S _ rfl 1 _ _ rfl _ Tryd.underlying25 rfl has ?_))
      go_ret
      exact ⟨rfl, S.below⟩
    · rw [hp] at k1
      simp only [adTupZ] at k1
      have hE : ∀ w, (binOp .eql 25 (adV 0 zero16 0) (.agg #[Value.int IntKind.i64 0, Value.int IntKind.u8 0, Value.int IntKind.u8 0, Value.int IntKind.u8 0, Value.int IntKind.u8 0, Value.int IntKind.u8 0, Value.int IntKind.u8 0, Value.int IntKind.u8 0, Value.int IntKind.u8 0, Value.int IntKind.u8 0, Value.int IntKind.u8 0, Value.int IntKind.u8 0, Value.int IntKind.u8 0, Value.int IntKind.u8 0, Value.int IntKind.u8 0, Value.int IntKind.u8 0, Value.int IntKind.u8 0, Value.int IntKind.i64 0])).run Tryd.prog w = .ok (.bool true) w := ad_eqlSelf 0 0 zero16 rfl
      have hG := ad_guard
      have t0 : (er != 0) = true := by simpa using her
      have K1 := Lib.hid k1
      clear k1 hp her h3
      go_enter Tryd.func3, Tryd.ntmps3
      go_wp2_with (first
        | ((with_reducible refine (K1.out _ (HPd.out _ _ S) (HMd.out _ _ S)).mono ?_); rintro e w2 ⟨rfl, hb⟩; have S := S.call hb; clear hb)
        | ((with_reducible refine (H0.out _ (HPd.out _ _ S) (HDd.out _ _ S) (HMd.out _ _ S) (HNd.out _ _ S)).mono ?_); rintro e w2 ⟨rfl, hb⟩; have S := S.call hb; clear hb)
        | ((with_reducible show wpList _ _ _ (Oper.mk (some 3) (Op.alloc _) _ _ _ _ :: _) _ _); refine wpList_allocS rfl _ rfl _ adZero S ?_; clear S; intro ga w1 S)
        | ((with_reducible show wpList _ _ _ (Oper.mk _ (Op.store _ (Operand.tmp 3) _) _ _ _ _ :: _) _ _); refine wpList_storeS rfl _ _ _ rfl S _ rfl _ rfl 0 _ _ rfl adInfo (by rfl) (by exact adCs_one _ _ _) ?_; clear S; intro w1 S; (first | simp only [List.set_cons_zero] at S | simp only [List.set_cons_succ, List.set_cons_zero] at S | skip))
        | ((with_reducible show wpList _ _ _ (Oper.mk _ (Op.load _ (Operand.tmp 3)) _ _ _ _ :: _) _ _); refine wpList_loadS rfl _ _ rfl S _ rfl 0 _ _ rfl _ Tryd.underlying25 rfl adInfo ?_))
      go_ret
      exact ⟨rfl, S.below⟩
theorem addrAgain_law (s : ByteArray) (W : World) (hs : s.size ≤ maxLen) (hD : DB W) (hP : P10 W) (hN : NR W) (hM : MX W) :
    Calls Tryd.prog 3 #[.string s] W fun e w' => e = .returned (.bool true) ∧ Below W.heap.size W w' :=
  again09_any s W (by unfold maxLen at hs; omega) hP hD hM hN
end Go.Proofs.YthbdeafbdmbabaaDoor
