/- Texts behind a law of this seat, in order: Octet4. -/
import Derived.Test.YtnoabmkmnddkkaaPa
import Derived.Test.YtnoabmkmnddkkaaPb
import Derived.Test.YtnoabmkmnddkkaaPc
import Derived.Test.YtnoabmkmnddkkaaPd
import Derived.Test.YtnoabmkmnddkkaaPg
import Derived.Test.YtnoabmkmnddkkaaPi
import Derived.Test.YtnoabmkmnddkkaaPj
import Derived.Below
import Derived.ChangeSlices
import Derived.Deep.AppendLies
import Derived.Deep.Draws
import Derived.Deep.OwnRows
import Derived.Deep.RegionLaw
import Derived.Great.Ranges
import Derived.Handed
import Derived.Handy
import Derived.Laws.OwnMore
import Derived.Laws.Rows
import Derived.Lib.Hide
import Derived.Lib.Strings
import Derived.SizedLaws
import Derived.SliceStrings
import Derived.Test.YtnoabmkmnddkkaaProg
import Derived.WalkKit
import Derived.WalkLawsBesides
import Derived.WalkSpells
namespace Go.Proofs.Ytnoabmkmnddkkaa
open Go.RowKit Go
set_option linter.unusedVariables false
theorem u8SizeO : (Try.prog.info? 5).map (·.size) = some 1 := by kernel_rfl
def u8C (c : UInt8) : Value := .int .u8 c.toNat
/-- what the row holds when i octets have been laid: noughts ahead of them -/
def rowC (k i : Nat) (n : Int) : Array Value := ((List.replicate (k - i) (0 : UInt8) ++ ocT i n).map u8C).toArray
theorem rowC_size (k i : Nat) (n : Int) (h : i ≤ k) : (rowC k i n).size = k := by simp [rowC, ocT_len]; omega
theorem rowC_start (k : Nat) (n : Int) : madeCells #[.int .u8 0] k = rowC k 0 n := by
  apply Array.ext
  · rw [rowC_size k 0 n (by omega)]; simp [madeCells]
  · intro i h1 h2
    simp [madeCells, rowC, u8C, ocT, Nat.mod_one]
theorem rowC_put (k i : Nat) (n : Int) (h : i < k) : (rowC k i n).setIfInBounds (k - 1 - i) (u8C (ocByte (n / 256 ^ i))) = rowC k (i + 1) n := by
  unfold rowC
  rw [List.setIfInBounds_toArray, ocT_top, show k - i = (k - (i + 1)) + 1 by omega, List.replicate_succ']
  congr 1
  rw [List.append_assoc, List.map_append, List.map_append, List.set_append_right _ _ (by simp; omega)]
  simp
  rw [show k - 1 - i - (k - (i + 1)) = 0 by omega]
  rfl
theorem shr_byte (n : Int) (i : Nat) : IntKind.u8.wrap (n / 2 ^ (8 * i)) = (ocByte (n / 256 ^ i)).toNat := by
  have e : (2 : Int) ^ (8 * i) = 256 ^ i := by rw [Int.pow_mul]; rfl
  rw [e, ocByte_val]
  simp [IntKind.wrap, IntKind.bits, IntKind.signed]
theorem elemU8o : Elem1 Try.prog 5 (.int .u8 0) 1 := by unfold Elem1; kernel_rfl
set_option maxRecDepth 100000 in
set_option maxHeartbeats 2000000 in
theorem octPut_any (m n : Int) (w : World) : Calls Try.prog 66 #[.int .i64 m, .int .i64 n] w fun e w' => e = .returned (.string ⟨(ocT (ocWide m) n).toArray⟩) ∧ Below w.heap.size w w' := by
  have hW := fun w => wide_any m w
  have hle := ocWide_le m
  obtain ⟨k, hk⟩ : ∃ k, k = ocWide m := ⟨_, rfl⟩
  rw [← hk] at hle ⊢
  simp only [← hk] at hW
  have hmk := run_make_row' (P := Try.prog) 94 5 (.int .u8 0) 1 Try.underlying94 elemU8o rfl .i64 .i64 k (by omega) (by omega)
  have HW := Lib.hid hW
  clear hW hk
  have S := Ats.start w
  go_enter Try.func66, Try.ntmps66
  go_wp2_with ((with_reducible refine (HW.out _).mono ?_); rintro e w2 ⟨rfl, rfl⟩)
  clear hmk
  have S := S.add 5 (madeCells #[.int .u8 0] k)
  rw [rowC_start k n] at S ⊢
  generalize hb : w.heap.size = b at S ⊢
  generalize w.alloc _ = w1 at S ⊢
  have HBB := Lib.hid hb
  clear hb
  go_loopw [12] (fun x wr => ∃ i : Nat, i ≤ k ∧ x = .int .i64 i ∧ Ats b w wr [(b, 5, rowC k i n)]) (fun x _ => k - (intOf x).toNat)
  case atStart => exact ⟨0, Nat.zero_le _, rfl, S⟩
  case round =>
    obtain ⟨i, hi, rfl, S⟩ := hrel
    by_cases hlt : i < k
    · obtain ⟨j, hj⟩ : ∃ j, j = k - 1 - i := ⟨_, rfl⟩
      have e1 : (k : Int) - 1 - (i : Int) = (j : Int) := by omega
      have hsz := rowC_size k i n (by omega)
      have hjk : j < k := by omega
      have hput := rowC_put k i n hlt
      have hsh := shr_byte n i
      rw [← hj] at hput
      have HPUT := Lib.hid hput
      have HSZ := Lib.hid hsz
      clear hput hj hsz
      go_wp2_with ((with_reducible show wpList _ _ _ (Oper.mk _ (Op.store _ _ _) _ _ _ _ :: _) _ _); refine wpList_putS rfl _ _ _ rfl S _ _ rfl _ rfl rfl rfl 0 _ _ rfl u8SizeO (by rw [HSZ.out]; exact hjk) ?_; clear S; intro w1 S; (first | simp only [List.set_cons_zero] at S | simp only [List.set_cons_succ, List.set_cons_zero] at S | skip))
      have S2 : Ats b w w1 [(b, 5, (rowC k i n).setIfInBounds j (u8C (ocByte (n / 256 ^ i))))] := S
      rw [HPUT.out] at S2
      go_roundw
      case rel => exact ⟨i + 1, by omega, by go_num, S2⟩
      case measure => simp [intOf]; omega
    · obtain rfl : i = k := by omega
      have hcv := run_convert_bytes_back (P := Try.prog) wr 94 9 5 ⟨b, 0, none⟩ i (ocT i n) Try.underlying94 Try.underlying5 Try.underlying9 (fun j hj => by
        rw [addr_add0]
        refine (S.get (i := 0) rfl).cells j ?_
        unfold rowC
        rw [Nat.sub_self]
        simp [u8C, List.getElem?_eq_getElem hj])
      rw [ocT_len] at hcv
      go_wp2
      go_ret
      exact ⟨rfl, by rw [HBB.out]; exact S.below⟩
end Go.Proofs.Ytnoabmkmnddkkaa
