/- Layer 10: (*octet.Eye).Num, and the document's Num. -/
import Derived.Test.YtchjhpipiooibaaOctet2
import Derived.Test.YtchjhpipiooibaaMemBy
namespace Go.Proofs.Ytchjhpipiooibaa
open Go.RowKit Go
set_option linter.unusedVariables false
theorem i64_orN (a b : Nat) (ha : a < 4294967296) (hb : b < 4294967296) : bits .or .i64 (a : Int) (b : Int) = ((a ||| b : Nat) : Int) := by
  have hx : a ||| b < 2 ^ 32 := Nat.or_lt_two_pow (by omega) (by omega)
  show IntKind.i64.wrap ((BitVec.ofInt 64 (a : Int) ||| BitVec.ofInt 64 (b : Int)).toNat : Int) = _
  rw [BitVec.toNat_or, ofInt_u64 a (by omega), ofInt_u64 b (by omega), IntKind.wrap_i64]
  omega
theorem byte_or (n d : Nat) (hn : n < 16777216) (hd : d < 256) : bits BinOp.or IntKind.i64 ((n : Int) * 256) (d : Int) = ((256 * n + d : Nat) : Int) := by
  have h := i64_orN (n * 256) d (by omega) (by omega)
  have e := Nat.shiftLeft_add_eq_or_of_lt (show d < 2 ^ 8 by omega) n
  rw [Nat.shiftLeft_eq] at e
  rw [← show n * 256 + d = n * 256 ||| d from e] at h
  rw [show ((n : Int) * 256) = ((n * 256 : Nat) : Int) by omega, h]
  omega
theorem ocN_take (s : ByteArray) (k : Nat) (h : k < s.size) : ocN (s.data.toList.take (k + 1)) = 256 * ocN (s.data.toList.take k) + s[k].toNat := by
  rw [take_snoc s k h, ocN_snoc]
theorem ocN_take_lt (s : ByteArray) (k : Nat) (h : k ≤ 3) : ocN (s.data.toList.take k) < 16777216 := by
  have h1 := ocN_lt (s.data.toList.take k)
  have h2 : 256 ^ (s.data.toList.take k).length ≤ 256 ^ 3 := Nat.pow_le_pow_right (by decide) (by rw [List.length_take]; omega)
  omega
theorem refNum_any (s : ByteArray) (w : World) (hs : s.size ≤ 4) : Calls Try.prog 19 #[.string s] w fun e w' => e = .returned (.int .i64 (ocN s.data.toList)) ∧ w = w' := by
  go_enter Try.func19, Try.ntmps19
  go_wp2
  go_loop [3, 4] (fun n i => ∃ k : Nat, k ≤ s.size ∧ i = .int .i64 k ∧ n = .int .i64 (ocN (s.data.toList.take k))) (fun _ i => s.size - (intOf i).toNat)
  case atStart => exact ⟨0, Nat.zero_le _, rfl, rfl⟩
  case round =>
    obtain ⟨k, hk, rfl, rfl⟩ := hrel
    by_cases hlt : k < s.size
    · have hb : (s[k].toNat : Int) ≤ 255 := by have := s[k].toNat_lt; omega
      have hn := ocN_take_lt s k (by omega)
      have ht := ocN_take s k hlt
      obtain ⟨v, hv⟩ : ∃ v, v = ocN (s.data.toList.take k) := ⟨_, rfl⟩
      rw [← hv] at hn ht
      have HT := Lib.hid ht
      rw [← hv]
      clear ht hv
      go_wp2
      go_round
      case rel => exact ⟨k + 1, by omega, by go_num, by rw [HT.out]; go_num⟩
      case measure => simp [intOf]; omega
    · obtain rfl : k = s.size := by omega
      have he : s.data.toList.take s.size = s.data.toList := List.take_of_length_le (by simp)
      rw [he]
      go_wp2
      go_ret
      exact ⟨rfl, rfl⟩
theorem ocTake_len (l : List UInt8) (x : Int) (k : Nat) : (ocTake l x k).1.length ≤ k := by
  unfold ocTake
  split
  · simp
  · split
    · simp
    · rw [List.length_take]; omega
theorem grown_trans {a w w' : World} {row : Option Nat} (h : a.grownBy w row) (k : w.grownBy w' none) : a.grownBy w' row :=
  ⟨k.os.trans h.os, k.tape.trans h.tape, k.output.trans h.output, Nat.le_trans h.size k.size, fun i hi hne => (k.block i (Nat.lt_of_lt_of_le hi h.size) (by simp)).trans (h.block i hi hne)⟩
theorem grown_drew {a w : World} {row : Option Nat} (h : a.grownBy w row) : a.grownBy w.drew row := ⟨h.os, h.tape, h.output, h.size, h.block⟩
def ocNumT (l : List UInt8) (x n : Int) : Nat × List UInt8 × Int := (ocN (ocTake l x (ocWide n : Nat)).1, (ocTake l x (ocWide n : Nat)).2)
set_option maxRecDepth 100000 in
set_option maxHeartbeats 2000000 in
theorem eyeNum_any (g : Nat) (l : List UInt8) (x n : Int) (w : World) (h : EyeAt w g l x) : Calls Try.prog 41 #[.pointer (some ⟨g, 0, none⟩), .int .i64 n] w
    (EyeP w g (.int .i64 (ocNumT l x n).1) (ocNumT l x n).2.1 (ocNumT l x n).2.2) := by
  unfold ocNumT
  have hW := fun w => wide_any n w
  have hle := ocWide_le n
  obtain ⟨m, hm⟩ : ∃ m, m = ocWide n := ⟨_, rfl⟩
  rw [← hm] at hle ⊢
  simp only [← hm] at hW
  have hT := eyeTake_any g l x (m : Int) w h
  have hlen := ocTake_len l x m
  obtain ⟨R, hR⟩ : ∃ R, R = ocTake l x (m : Int) := ⟨_, rfl⟩
  rw [← hR] at hT hlen ⊢
  obtain ⟨o, l', x'⟩ := R
  obtain ⟨s, hs⟩ : ∃ s : ByteArray, s = ⟨o.toArray⟩ := ⟨_, rfl⟩
  have hz : s.size ≤ 4 := by rw [hs]; exact Nat.le_trans hlen hle
  have hol : o = s.data.toList := by rw [hs]
  simp only [← hs] at hT
  have HW := Lib.hid hW
  have HT := Lib.hid hT
  have HO := Lib.hid hol
  clear hW hT hm hR hs hol hlen hle h
  show Calls _ _ _ _ (EyeP w g (.int .i64 (ocN o)) l' x')
  rw [HO.out]
  clear HO
  go_enter Try.func41, Try.ntmps41
  go_wp2_with (first
    | ((with_reducible refine (HW.out _).mono ?_); rintro e w2 ⟨rfl, rfl⟩)
    | ((with_reducible refine HT.out.mono ?_); rintro e w2 ⟨rfl, hat, hgr⟩; have kb := run_bytes_of_string (P := Try.prog) w2 9 77 5 s Try.underlying9 Try.underlying77 Try.underlying5))
  clear kb
  have hst := byAt_start s w2
  have hgr2 := grown_drew (grown_trans hgr (grown_alloc w2 (.cells (bytesRow s (grownCap w2 s.size 0 5)) 5 ((bytesRow s (grownCap w2 s.size 0 5)).size, (bytesRow s (grownCap w2 s.size 0 5)).size + 1))))
  have hat2 := (hat.alloc (.cells (bytesRow s (grownCap w2 s.size 0 5)) 5 ((bytesRow s (grownCap w2 s.size 0 5)).size, (bytesRow s (grownCap w2 s.size 0 5)).size + 1))).drew
  have HST := Lib.hid hst
  have HGR := Lib.hid hgr2
  have HAT := Lib.hid hat2
  clear hst hgr2 hat2 hat hgr
  generalize w2.heap.size = b at HST ⊢
  generalize ((w2.alloc (.cells (bytesRow s (grownCap w2 s.size 0 5)) 5 ((bytesRow s (grownCap w2 s.size 0 5)).size, (bytesRow s (grownCap w2 s.size 0 5)).size + 1))).drew) = W1 at HST HGR HAT ⊢
  go_loop [5, 14] (fun n i => ∃ k : Nat, k ≤ s.size ∧ i = .int .i64 k ∧ n = .int .i64 (ocN (s.data.toList.take k))) (fun _ i => s.size - (intOf i).toNat)
  case atStart => exact ⟨0, Nat.zero_le _, rfl, rfl⟩
  case round =>
    obtain ⟨k, hk, rfl, rfl⟩ := hrel
    by_cases hlt : k < s.size
    · have hc := HST.out.2 k hlt
      have hb : (s[k].toNat : Int) ≤ 255 := by have := s[k].toNat_lt; omega
      have hn := ocN_take_lt s k (by omega)
      have ht := ocN_take s k hlt
      have hor := fun v hv => byte_or v s[k].toNat hv s[k].toNat_lt
      obtain ⟨v, hv⟩ : ∃ v, v = ocN (s.data.toList.take k) := ⟨_, rfl⟩
      rw [← hv] at hn ht
      have ho := hor v hn
      have HT2 := Lib.hid ht
      rw [← hv]
      clear ht hv hor
      go_wp2
      go_round
      case rel => exact ⟨k + 1, by omega, by go_num, by rw [HT2.out]; go_num⟩
      case measure => simp [intOf]; omega
    · obtain rfl : k = s.size := by omega
      have he : s.data.toList.take s.size = s.data.toList := List.take_of_length_le (by simp)
      rw [he]
      go_wp2
      go_ret
      exact ⟨rfl, HAT.out, HGR.out⟩
end Go.Proofs.Ytchjhpipiooibaa
