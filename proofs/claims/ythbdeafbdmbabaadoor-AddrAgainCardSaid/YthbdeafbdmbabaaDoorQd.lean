/- Texts behind a law of this seat, in order: Addr8, Addr9, Math14. -/
import Derived.Test.YthbdeafbdmbabaaDoorPa
import Derived.Test.YthbdeafbdmbabaaDoorPb
import Derived.Test.YthbdeafbdmbabaaDoorPc
import Derived.Test.YthbdeafbdmbabaaDoorPd
import Derived.Test.YthbdeafbdmbabaaDoorPe
import Derived.Test.YthbdeafbdmbabaaDoorPf
import Derived.Test.YthbdeafbdmbabaaDoorPg
import Derived.Test.YthbdeafbdmbabaaDoorPh
import Derived.Test.YthbdeafbdmbabaaDoorPi
import Derived.Test.YthbdeafbdmbabaaDoorPj
import Derived.Test.YthbdeafbdmbabaaDoorPk
import Derived.Test.YthbdeafbdmbabaaDoorPl
import Derived.Test.YthbdeafbdmbabaaDoorPm
import Derived.Test.YthbdeafbdmbabaaDoorPn
import Derived.Test.YthbdeafbdmbabaaDoorPo
import Derived.Test.YthbdeafbdmbabaaDoorPp
import Derived.Test.YthbdeafbdmbabaaDoorPq
import Derived.Test.YthbdeafbdmbabaaDoorPr
import Derived.Test.YthbdeafbdmbabaaDoorPs
import Derived.Test.YthbdeafbdmbabaaDoorPt
import Derived.Test.YthbdeafbdmbabaaDoorPu
import Derived.Test.YthbdeafbdmbabaaDoorPv
import Derived.Test.YthbdeafbdmbabaaDoorPw
import Derived.Test.YthbdeafbdmbabaaDoorPx
import Derived.Test.YthbdeafbdmbabaaDoorPy
import Derived.Test.YthbdeafbdmbabaaDoorPz
import Derived.Test.YthbdeafbdmbabaaDoorQa
import Derived.Test.YthbdeafbdmbabaaDoorQb
import Derived.Test.YthbdeafbdmbabaaDoorQc
import Derived.Below
import Derived.BigQuiet
import Derived.BigRegion
import Derived.ChangeSlices
import Derived.Deep.AppendLies
import Derived.Deep.Draws
import Derived.Deep.OwnRows
import Derived.Deep.Quiet
import Derived.Deep.QuietTactic
import Derived.Deep.RegionLaw
import Derived.Great.Ranges
import Derived.Handed
import Derived.Handy
import Derived.Laws.AppendOwnNone
import Derived.Laws.Bits64b
import Derived.Laws.BitsAllLaws
import Derived.Laws.CopyOwn
import Derived.Laws.OwnMore
import Derived.Laws.Rows
import Derived.Laws.StructEq
import Derived.Lib.AppendZeros
import Derived.Lib.AppendZerosOnto
import Derived.Lib.Bytealg
import Derived.Lib.DecodeN
import Derived.Lib.Hide
import Derived.Lib.ItoaLen
import Derived.Lib.ItoaMem
import Derived.Lib.ItoaNum
import Derived.Lib.Join
import Derived.Lib.Overlaps
import Derived.Lib.RuneBytes
import Derived.Lib.SmallJoins
import Derived.Lib.Split
import Derived.Lib.SplitLaws
import Derived.Lib.Strings
import Derived.OpenShut
import Derived.Shelf.LaysM
import Derived.Shelf.Small.Bits
import Derived.Shelf.Small.Strs
import Derived.Shelf.Strconv.Itoa0
import Derived.Shelf.Strconv.Itoa1
import Derived.Shelf.Strconv.Itoa2
import Derived.Shelf.Strconv.Itoa3
import Derived.Shelf.Strings.Builder1
import Derived.Shelf.Strings.Builder2
import Derived.Shelf.Strings.Builder2Cap
import Derived.Shelf.Strings.BuilderCap
import Derived.Shelf.Strings.BuilderF
import Derived.Shelf.Strings.BuilderK
import Derived.Shelf.Strings.Count
import Derived.Shelf.Strings.Cut
import Derived.Shelf.Strings.Explode
import Derived.Shelf.Strings.OnBuilder
import Derived.Shelf.Strings.Prefix
import Derived.Shelf.Strings.RuneCount
import Derived.Shelf.Strings.Search1
import Derived.Shelf.Strings.Search2
import Derived.Shelf.Strings.Search3
import Derived.Shelf.Strings.Shaped
import Derived.Shelf.Strings.Split
import Derived.Shelf.Strings.SplitShaped
import Derived.Shelf.Unicode.Decode
import Derived.Shelf.Unicode.DecodeAny
import Derived.Shelf.Unicode.DecodeSlow
import Derived.Shelf.Utf8.RuneCount
import Derived.SizedLaws
import Derived.SliceStrings
import Derived.StillTailTactics
import Derived.Stop.BytesEq
import Derived.Test.YthbdeafbdmbabaaDoorProg
import Derived.WalkKit
import Derived.WalkLawsBesides
import Derived.WalkSpells
namespace Go.Proofs.YthbdeafbdmbabaaDoor
open Go.RowKit Go
set_option linter.unusedVariables false
set_option maxRecDepth 100000
theorem numR_bd9 (l : List UInt8) (m : Int) (h : 0 ≤ m) : 0 ≤ (numR l m).1 ∧ (numR l m).1 ≤ m := by
  unfold numR
  split
  · exact ⟨Int.le_refl _, h⟩
  · split
    · exact ⟨Int.le_refl _, h⟩
    · constructor
      · show (0 : Int) ≤ (numL l : Nat); omega
      · show ((numL l : Nat) : Int) ≤ m; omega
end Go.Proofs.YthbdeafbdmbabaaDoor
namespace Go.Proofs.YthbdeafbdmbabaaDoor
open Go.RowKit Go
set_option linter.unusedVariables false
set_option maxRecDepth 100000
theorem sizeL_app (a b : List (List UInt8)) : sizeL (a ++ b) + 1 = sizeL a + sizeL b := by
  unfold sizeL
  rw [List.map_append, List.sum_append]
  omega
theorem rev4_size (ip : List UInt8) (k : Nat) : sizeL (rev4 ip k) ≤ 1 + 4 * k := by
  induction k with
  | zero => exact Nat.le_refl _
  | succ k ih =>
    rw [rev4_succ]
    have h := sizeL_app (rev4 ip k) [Lib.decDigits (ip.getD (3 - k) 0).toNat]
    have h2 := (dec_byte (ip.getD (3 - k) 0)).2.2.1
    have h3 : sizeL [Lib.decDigits (ip.getD (3 - k) 0).toNat] = (Lib.decDigits (ip.getD (3 - k) 0).toNat).length + 2 := by simp [sizeL]; omega
    omega
theorem rev6_size (ip : List UInt8) (k : Nat) : sizeL (rev6 ip k) ≤ 1 + 4 * k := by
  induction k with
  | zero => exact Nat.le_refl _
  | succ k ih =>
    rw [rev6_succ]
    have h := sizeL_app (rev6 ip k) (hex2 (ip.getD (15 - k) 0))
    have h3 : sizeL (hex2 (ip.getD (15 - k) 0)) = 5 := rfl
    omega
theorem revL_size (f : Int) (ip : List UInt8) : sizeL (revL f ip) ≤ 100 := by
  unfold revL
  split
  · have h := sizeL_app (rev4 ip 4) [lInaddr, lArpa]
    have h1 := rev4_size ip 4
    have h2 : sizeL [lInaddr, lArpa] = 14 := rfl
    omega
  · split
    · have h := sizeL_app (rev6 ip 16) [lIp6, lArpa]
      have h1 := rev6_size ip 16
      have h2 : sizeL [lIp6, lArpa] = 10 := rfl
      omega
    · decide
end Go.Proofs.YthbdeafbdmbabaaDoor
namespace Go.Proofs.YthbdeafbdmbabaaDoor
open Go.RowKit Go
set_option linter.unusedVariables false
set_option maxRecDepth 100000
theorem rev4_at (ip : List UInt8) : revL 4 ip = [Lib.decDigits (ip.getD 3 0).toNat, Lib.decDigits (ip.getD 2 0).toNat, Lib.decDigits (ip.getD 1 0).toNat, Lib.decDigits (ip.getD 0 0).toNat, lInaddr, lArpa] := rfl
theorem parseA_cases (l : List UInt8) : (∃ a b c d, parseA l = ⟨4, quad16 a b c d, 0, 0⟩) ∨ (∃ ip z, parseA l = ⟨6, ip, z, 0⟩ ∧ ip.length = 16 ∧ 0 ≤ z ∧ z ≤ 2147483647) ∨ (∃ e, e ≠ 0 ∧ parseA l = ⟨0, zero16, 0, e⟩) := by
  unfold parseA
  by_cases hc : colB l = true
  · rw [if_pos hc]
    unfold colonE
    cases ho : octE (l.take (cutK l 37)) with
    | none => exact .inr (.inr ⟨5, by decide, rfl⟩)
    | some b =>
      have hb := octE_len ho
      simp only
      by_cases h1 : l.length ≤ cutK l 37
      · rw [if_pos h1]
        exact .inr (.inl ⟨b, 0, rfl, hb, by decide, by decide⟩)
      · rw [if_neg h1]
        by_cases h2 : (numR (l.drop (cutK l 37 + 1)) 2147483647).2 ≠ 0
        · rw [if_pos h2]
          exact .inr (.inr ⟨_, h2, rfl⟩)
        · rw [if_neg h2]
          by_cases h3 : (numR (l.drop (cutK l 37 + 1)) 2147483647).1 = 0
          · rw [if_pos h3]
            exact .inr (.inr ⟨4, by decide, rfl⟩)
          · rw [if_neg h3]
            have h4 := numR_bd9 (l.drop (cutK l 37 + 1)) 2147483647 (by decide)
            exact .inr (.inl ⟨b, _, rfl, hb, h4.1, h4.2⟩)
  · rw [if_neg hc]
    by_cases he : (parseE l).err = 0
    · obtain ⟨a, b, c, d, _, h⟩ := parseE_quad l he
      exact .inl ⟨a, b, c, d, by rw [h]⟩
    · have h : parseE l = ⟨0, zero16, 5⟩ := by
        refine parseE_not l fun a b c d hq => he ?_
        rw [hq, quadT_parse]
      exact .inr (.inr ⟨5, by decide, by rw [h]⟩)
theorem plain_colon (l : List UInt8) (g : List Nat) (h : plainE l = some g) : (58 : UInt8) ∈ l := by
  refine Decidable.byContradiction fun hn => ?_
  have h8 := plainE_len h
  have hi : Lib.index l [58, 58] = -1 := index_noCC l (noCC_plain l hn)
  unfold plainE at h
  rw [hi, if_pos rfl] at h
  unfold sideE at h
  by_cases h0 : l = []
  · rw [if_pos h0] at h
    simp at h
  · rw [if_neg h0, cutX_none 58 l hn, sideP] at h
    cases hg : groupE l with
    | some n =>
      rw [hg] at h
      simp [sideP] at h
    | none =>
      rw [hg] at h
      simp only [if_true, and_self] at h
      cases hf : fourE l with
      | none => rw [hf] at h; simp at h
      | some b => rw [hf] at h; simp [grp2] at h
theorem textC_col (ip : List UInt8) (z : Int) : colB (textC ip z) = true := by
  have := plain_colon (addrE ip) _ (addr_back ip)
  unfold colB textC
  rw [decide_eq_true_eq]
  split
  · exact List.mem_append_left _ this
  · exact this
theorem again4 (a b c d : UInt8) : parseA (textA 4 (quad16 a b c d) 0) = ⟨4, quad16 a b c d, 0, 0⟩ := lit_quad a b c d (quadT_colB a b c d)
theorem again6 (ip : List UInt8) (z : Int) (hip : ip.length = 16) (h0 : 0 ≤ z) (h1 : z ≤ 2147483647) : parseA (textA 6 ip z) = ⟨6, ip, z, 0⟩ := by
  show parseA (textC ip z) = _
  unfold parseA
  rw [if_pos (textC_col ip z)]
  by_cases hz : 0 < z
  · rw [colon_zone ip z hip hz, if_neg (by omega)]
  · rw [colon_plain ip z hip hz]
    obtain rfl : z = 0 := by omega
    rfl
theorem check4 (a b c d : UInt8) : checkE 4 (quad16 a b c d) 0 = 0 := by
  unfold checkE
  rw [if_pos rfl, if_pos ⟨rfl, rfl⟩]
theorem check6 (ip : List UInt8) (z : Int) (h0 : 0 ≤ z) (h1 : z ≤ 2147483647) : checkE 6 ip z = 0 := by
  unfold checkE
  rw [if_neg (by decide), if_pos rfl, if_neg (by omega)]
end Go.Proofs.YthbdeafbdmbabaaDoor
