/- Layer 12: the Eye within a reader. -/
import Derived.Test.YtchjhpipiooibaaMath17
import Derived.Test.YtchjhpipiooibaaOctet3
import Derived.Test.YtchjhpipiooibaaMemOwn
namespace Go.Proofs.Ytchjhpipiooibaa
open Go.RowKit Go
set_option linter.unusedVariables false
/-- a reader's cells: the message, what was not read, the error, what was led to last, the name, its size, what is behind -/
def rdC (M : ByteArray) (l : List UInt8) (x low : Int) (v : Value) (size fin : Int) : Array Value := #[.string M, .string ⟨l.toArray⟩, .int .i64 x, .int .i64 low, v, .int .i64 size, .int .i64 fin]
abbrev RdAt (w : World) (g : Nat) (M : ByteArray) (l : List UInt8) (x low : Int) (v : Value) (size fin : Int) : Prop := At w g 53 (rdC M l x low v size fin)
section
variable {g : Nat} {M : ByteArray} {l : List UInt8} {x low : Int} {v : Value} {size fin : Int}
theorem rErr_any {w : World} (h : RdAt w g M l x low v size fin) : Calls Try.prog 46 #[.pointer (some ⟨g, 1, none⟩)] w fun e w' => e = .returned (.int .i64 x) ∧ w = w' := by
  have c1 : w.cell? ⟨g, 2, none⟩ = some (.int .i64 x) := h.cells 2 rfl
  clear h
  go_enter Try.func46, Try.ntmps46
  go_wp2
  go_ret
  exact ⟨rfl, rfl⟩
theorem rLeft_any {w : World} (h : RdAt w g M l x low v size fin) : Calls Try.prog 43 #[.pointer (some ⟨g, 1, none⟩)] w fun e w' => e = .returned (.int .i64 l.length) ∧ w = w' := by
  obtain ⟨s, hs⟩ : ∃ s : ByteArray, s = ⟨l.toArray⟩ := ⟨_, rfl⟩
  have hz : s.size = l.length := by rw [hs]; rfl
  have c0 : w.cell? ⟨g, 1, none⟩ = some (.string s) := by rw [hs]; exact h.cells 1 rfl
  have HZ := Lib.hid hz
  clear h hs hz
  go_enter Try.func43, Try.ntmps43
  go_wp2
  go_ret
  exact ⟨by rw [HZ.out]; rfl, rfl⟩
set_option maxHeartbeats 2000000 in
theorem rTake_any (n : Int) {w : World} (h : RdAt w g M l 0 low v size fin) : Calls Try.prog 44 #[.pointer (some ⟨g, 1, none⟩), .int .i64 n] w
    fun e w' => e = .returned (.string ⟨(ocTake l 0 n).1.toArray⟩) ∧ RdAt w' g M (ocTake l 0 n).2.1 (ocTake l 0 n).2.2 low v size fin ∧ w.grownBy w' (some g) := by
  have hE := fun w (h : RdAt w g M l 0 low v size fin) => rErr_any h
  have HE := Lib.hid hE
  have H := Lib.hid h
  clear hE
  obtain ⟨s, hs⟩ : ∃ s : ByteArray, s = ⟨l.toArray⟩ := ⟨_, rfl⟩
  have hz : s.size = l.length := by rw [hs]; rfl
  have c0 : w.cell? ⟨g, 1, none⟩ = some (.string s) := by rw [hs]; exact h.cells 1 rfl
  have c1 : w.cell? ⟨g, 2, none⟩ = some (.int .i64 0) := h.cells 2 rfl
  have z0 := h.ice 1
  have z1 := h.ice 2
  have HS := Lib.hid hs
  have HZ := Lib.hid hz
  clear h hs
  by_cases hn : (l.length : Int) < n
  · have h1 : (s.size : Int) < n := by rw [hz]; exact hn
    have HN := Lib.hid hn
    clear hn hz
    go_enter Try.func44, Try.ntmps44
    go_wp2_with ((with_reducible refine (HE.out _ H.out).mono ?_); rintro e w2 ⟨rfl, rfl⟩)
    go_ret
    rw [ocTake_short HN.out]
    exact ⟨rfl, H.out.put 2 (.int .i64 1), grown_setCell _ ⟨g, 2, none⟩ _⟩
  · have h1 : ¬ (s.size : Int) < n := by rw [hz]; exact hn
    have h2 := ocTake_ok hn
    obtain ⟨k, hk⟩ : ∃ k : Nat, k = n.toNat := ⟨_, rfl⟩
    have h3 : max n 0 = (k : Int) := by omega
    have h4 : k ≤ s.size := by omega
    rw [← hk] at h2
    have H2 := Lib.hid h2
    clear hn hz h2 hk
    go_enter Try.func44, Try.ntmps44
    go_wp2_with ((with_reducible refine (HE.out _ H.out).mono ?_); rintro e w2 ⟨rfl, rfl⟩)
    go_ret
    rw [H2.out]
    refine ⟨ret_str (by rw [HS.out, ba_take]), ?_, grown_setCell _ ⟨g, 1, none⟩ _⟩
    have h5 := H.out.put 1 (.string (s.extract k s.size))
    have h6 : s.extract k s.size = ⟨(l.drop k).toArray⟩ := by rw [HZ.out, HS.out, ba_drop]
    rw [h6] at h5 ⊢
    exact h5
theorem ocWide1 : ocWide 1 = 1 := by decide
set_option maxRecDepth 100000 in
set_option maxHeartbeats 2000000 in
theorem rNum_any {w : World} (h : RdAt w g M l 0 low v size fin) : Calls Try.prog 41 #[.pointer (some ⟨g, 1, none⟩), .int .i64 1] w
    fun e w' => e = .returned (.int .i64 (ocNumT l 0 1).1) ∧ RdAt w' g M (ocNumT l 0 1).2.1 (ocNumT l 0 1).2.2 low v size fin ∧ w.grownBy w' (some g) := by
  unfold ocNumT
  rw [ocWide1]
  have hW := fun w => wide_any 1 w
  rw [ocWide1] at hW
  rw [show ((1 : Nat) : Int) = 1 from rfl] at hW ⊢
  have hT := rTake_any 1 h
  have hlen : (ocTake l 0 1).1.length ≤ 1 := ocTake_len l 0 1
  obtain ⟨R, hR⟩ : ∃ R, R = ocTake l 0 1 := ⟨_, rfl⟩
  rw [← hR] at hT hlen ⊢
  obtain ⟨o, l', x'⟩ := R
  obtain ⟨s, hs⟩ : ∃ s : ByteArray, s = ⟨o.toArray⟩ := ⟨_, rfl⟩
  have hz : s.size ≤ 4 := by rw [hs]; exact Nat.le_trans hlen (by decide)
  have hol : o = s.data.toList := by rw [hs]
  simp only [← hs] at hT
  have HW := Lib.hid hW
  have HT := Lib.hid hT
  have HO := Lib.hid hol
  clear hW hT hR hs hol hlen h
  show Calls _ _ _ _ (fun e w' => e = .returned (.int .i64 (ocN o)) ∧ RdAt w' g M l' x' low v size fin ∧ w.grownBy w' (some g))
  rw [HO.out]
  clear HO
  go_enter Try.func41, Try.ntmps41
  go_wp2_with (first
    | ((with_reducible refine (HW.out _).mono ?_); rintro e w2 ⟨rfl, rfl⟩)
    | ((with_reducible refine HT.out.mono ?_); rintro e w2 ⟨rfl, hat, hgr⟩; have kb := run_bytes_of_string (P := Try.prog) w2 9 77 5 s Try.underlying9 Try.underlying77 Try.underlying5))
  clear kb
  have hst := byAt_start s w2
  have hgr2 := grown_drew (grown_trans hgr (grown_alloc w2 (.cells (bytesRow s (grownCap w2 s.size 0 5)) 5 ((bytesRow s (grownCap w2 s.size 0 5)).size, (bytesRow s (grownCap w2 s.size 0 5)).size + 1))))
  have hat2 := (hat.alloc (.cells (bytesRow s (grownCap w2 s.size 0 5)) 5 ((bytesRow s (grownCap w2 s.size 0 5)).size, (bytesRow s (grownCap w2 s.size 0 5)).size + 1))).drew
  have HST := Lib.hid hst
  have HGR := Lib.hid hgr2
  have HAT := Lib.hid hat2
  clear hst hgr2 hat2 hat hgr
  generalize w2.heap.size = b at HST ⊢
  generalize ((w2.alloc (.cells (bytesRow s (grownCap w2 s.size 0 5)) 5 ((bytesRow s (grownCap w2 s.size 0 5)).size, (bytesRow s (grownCap w2 s.size 0 5)).size + 1))).drew) = W1 at HST HGR HAT ⊢
  go_loop [5, 14] (fun n i => ∃ k : Nat, k ≤ s.size ∧ i = .int .i64 k ∧ n = .int .i64 (ocN (s.data.toList.take k))) (fun _ i => s.size - (intOf i).toNat)
  case atStart => exact ⟨0, Nat.zero_le _, rfl, rfl⟩
  case round =>
    obtain ⟨k, hk, rfl, rfl⟩ := hrel
    by_cases hlt : k < s.size
    · have hc := HST.out.2 k hlt
      have hb : (s[k].toNat : Int) ≤ 255 := by have := s[k].toNat_lt; omega
      have hn := ocN_take_lt s k (by omega)
      have ht := ocN_take s k hlt
      have hor := fun v hv => byte_or v s[k].toNat hv s[k].toNat_lt
      obtain ⟨v, hv⟩ : ∃ v, v = ocN (s.data.toList.take k) := ⟨_, rfl⟩
      rw [← hv] at hn ht
      have ho := hor v hn
      have HT2 := Lib.hid ht
      rw [← hv]
      clear ht hv hor
      go_wp2
      go_round
      case rel => exact ⟨k + 1, by omega, by go_num, by rw [HT2.out]; go_num⟩
      case measure => simp [intOf]; omega
    · obtain rfl : k = s.size := by omega
      have he : s.data.toList.take s.size = s.data.toList := List.take_of_length_le (by simp)
      rw [he]
      go_wp2
      go_ret
      exact ⟨rfl, HAT.out, HGR.out⟩
end
end Go.Proofs.Ytchjhpipiooibaa
