/- Layer 10: the document's Put. -/
import Derived.Test.YtchjhpipiooibaaOctet4
namespace Go.Proofs.Ytchjhpipiooibaa
open Go.RowKit Go
set_option linter.unusedVariables false
theorem own_bcs1o {w : World} (c : UInt8) : (convert 77 9 (.slice (some ⟨w.heap.size, 0, none⟩) 1 1)).run Try.prog (w.alloc (.cells #[.int .u8 c.toNat] 5)) = .ok (.string ⟨#[c]⟩) (w.alloc (.cells #[.int .u8 c.toNat] 5)) := by
  refine run_convert_bytes_back (P := Try.prog) _ 77 9 5 ⟨w.heap.size, 0, none⟩ 1 [c] Try.underlying77 Try.underlying5 Try.underlying9 (fun j hj => ?_)
  have hj0 : j = 0 := by simp at hj; omega
  subst hj0
  rw [addr_add0, World.cell?_alloc_mark]
  simp
theorem ba_cons1 (c : UInt8) (l : List UInt8) : (⟨#[c]⟩ : ByteArray) ++ ⟨l.toArray⟩ = ⟨(c :: l).toArray⟩ := by
  apply ByteArray.ext
  simp
theorem u64_byte (n : Int) (i : Nat) (hi : i < 4) : (n % 18446744073709551616 / 256 ^ i) % 256 = (ocByte (n / 256 ^ i)).toNat := by
  rw [ocByte_val]
  rcases (show i = 0 ∨ i = 1 ∨ i = 2 ∨ i = 3 by omega) with rfl | rfl | rfl | rfl <;> simp <;> omega
theorem u64_next (n : Int) (i : Nat) : n % 18446744073709551616 / 256 ^ i / 256 = n % 18446744073709551616 / 256 ^ (i + 1) := by
  rw [Int.ediv_ediv_of_nonneg (Int.pow_nonneg (by decide)), Int.pow_succ]
theorem u64_bd (n : Int) (i : Nat) : 0 ≤ n % 18446744073709551616 / 256 ^ i ∧ n % 18446744073709551616 / 256 ^ i < 18446744073709551616 := by
  have h0 : 0 ≤ n % 18446744073709551616 := Int.emod_nonneg _ (by decide)
  have h1 : n % 18446744073709551616 < 18446744073709551616 := Int.emod_lt_of_pos _ (by decide)
  have hp : (0 : Int) < 256 ^ i := Int.pow_pos (by decide)
  refine ⟨Int.ediv_nonneg h0 (by omega), Int.lt_of_le_of_lt (Int.ediv_le_self _ h0) h1⟩
set_option maxRecDepth 100000 in
set_option maxHeartbeats 2000000 in
theorem refPut_any (m n : Int) (w : World) : Calls Try.prog 28 #[.int .i64 m, .int .i64 n] w fun e w' => e = .returned (.string ⟨(ocT (ocWide m) n).toArray⟩) ∧ Below w.heap.size w w' := by
  have hW := fun w => held_any m w
  have hle := ocWide_le m
  obtain ⟨k, hk⟩ : ∃ k, k = ocWide m := ⟨_, rfl⟩
  rw [← hk] at hle ⊢
  simp only [← hk] at hW
  have HW := Lib.hid hW
  have hu : IntKind.u64.wrap n = n % 18446744073709551616 / 256 ^ 0 := by simp [IntKind.wrap, IntKind.bits, IntKind.signed]
  clear hW hk
  go_enter Try.func28, Try.ntmps28
  go_wp2
  clear hu
  go_loopw [5, 6, 7] (fun s x y wr => ∃ i : Nat, i ≤ k ∧ y = .int .i64 i ∧ x = .int .u64 (n % 18446744073709551616 / 256 ^ i) ∧ s = .string ⟨(ocT i n).toArray⟩ ∧ Below w.heap.size w wr) (fun _ _ y _ => k - (intOf y).toNat)
  case atStart => exact ⟨0, Nat.zero_le _, rfl, by simp, rfl, Below.refl _ _⟩
  case round =>
    obtain ⟨i, hi, rfl, rfl, rfl, HB⟩ := hrel
    by_cases hlt : i < k
    · have hb := u64_byte n i (by omega)
      have hn := u64_next n i
      obtain ⟨h0, h1⟩ := u64_bd n i
      have ht := ocT_top i n
      have hl := ocT_len i n
      obtain ⟨c, hc⟩ : ∃ c, c = ocByte (n / 256 ^ i) := ⟨_, rfl⟩
      obtain ⟨M, hM⟩ : ∃ M, M = n % 18446744073709551616 / 256 ^ i := ⟨_, rfl⟩
      rw [← hc] at ht hb
      rw [← hM] at hb h0 h1 hn ⊢
      have hcv := own_bcs1o (w := wr) c
      have hw8 : IntKind.u8.wrap (M % 256) = c.toNat := by rw [hb]; have := c.toNat_lt; simp [IntKind.wrap, IntKind.bits, IntKind.signed]; omega
      have HT := Lib.hid ht
      have HN := Lib.hid hn
      have HB2 := Lib.hid HB
      clear ht hn hc hM HB
      go_wp2_with ((with_reducible refine (HW.out _).mono ?_); rintro e w2 ⟨rfl, rfl⟩)
      refine ⟨⟨i + 1, by omega, by go_num, by rw [HN.out], by rw [HT.out, ba_cons1], HB2.out.alloc HB2.out.size _⟩, by simp [intOf]; omega⟩
    · obtain rfl : i = k := by omega
      go_wp2_with ((with_reducible refine (HW.out _).mono ?_); rintro e w2 ⟨rfl, rfl⟩)
      go_ret
      exact ⟨rfl, HB⟩
end Go.Proofs.Ytchjhpipiooibaa
