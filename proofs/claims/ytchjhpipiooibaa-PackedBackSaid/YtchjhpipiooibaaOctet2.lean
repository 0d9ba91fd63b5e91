/- Layer 10: (*octet.Eye).Take and End. -/
import Derived.Test.YtchjhpipiooibaaOctet
namespace Go.Proofs.Ytchjhpipiooibaa
open Go.RowKit Go
set_option linter.unusedVariables false
/-- what a method of an Eye does: it answers v, and the Eye is as told; what else there is stays -/
def EyeP (w : World) (g : Nat) (v : Value) (l : List UInt8) (x : Int) (e : Ending) (w' : World) : Prop := e = .returned v ∧ EyeAt w' g l x ∧ w.grownBy w' (some g)
theorem ocTake_bad {l : List UInt8} {x n : Int} (h : x ≠ 0) : ocTake l x n = ([], l, x) := by unfold ocTake; rw [if_pos h]
theorem ocTake_short {l : List UInt8} {n : Int} (h : (l.length : Int) < n) : ocTake l 0 n = ([], l, 1) := by unfold ocTake; rw [if_neg (by decide), if_pos h]
theorem ocTake_ok {l : List UInt8} {n : Int} (h : ¬ (l.length : Int) < n) : ocTake l 0 n = (l.take n.toNat, l.drop n.toNat, 0) := by unfold ocTake; rw [if_neg (by decide), if_neg h]
theorem ba_take (l : List UInt8) (k : Nat) : (⟨l.toArray⟩ : ByteArray).extract 0 k = ⟨(l.take k).toArray⟩ := by
  rw [Lib.extract_eq]; simp
theorem ba_drop (l : List UInt8) (k : Nat) : (⟨l.toArray⟩ : ByteArray).extract k l.length = ⟨(l.drop k).toArray⟩ := by
  rw [Lib.extract_eq]; simp; rw [List.take_of_length_le (by simp)]
set_option maxHeartbeats 2000000 in
theorem eyeTake_any (g : Nat) (l : List UInt8) (x n : Int) (w : World) (h : EyeAt w g l x) : Calls Try.prog 44 #[.pointer (some ⟨g, 0, none⟩), .int .i64 n] w
    (EyeP w g (.string ⟨(ocTake l x n).1.toArray⟩) (ocTake l x n).2.1 (ocTake l x n).2.2) := by
  have hE := fun w h => eyeErr_any g l x w h
  have HE := Lib.hid hE
  have H := Lib.hid h
  clear hE
  by_cases hx : x = 0
  · subst hx
    obtain ⟨s, hs⟩ : ∃ s : ByteArray, s = ⟨l.toArray⟩ := ⟨_, rfl⟩
    have hz : s.size = l.length := by rw [hs]; rfl
    have c0 : w.cell? ⟨g, 0, none⟩ = some (.string s) := by rw [hs]; exact h.cells 0 rfl
    have c1 : w.cell? ⟨g, 1, none⟩ = some (.int .i64 0) := h.cells 1 rfl
    have z0 := h.ice 0
    have z1 := h.ice 1
    have HS := Lib.hid hs
    have HZ := Lib.hid hz
    clear h hs
    by_cases hn : (l.length : Int) < n
    · have h1 : (s.size : Int) < n := by rw [hz]; exact hn
      have HN := Lib.hid hn
      clear hn hz
      go_enter Try.func44, Try.ntmps44
      go_wp2_with ((with_reducible refine (HE.out _ H.out).mono ?_); rintro e w2 ⟨rfl, rfl⟩)
      go_ret
      rw [ocTake_short HN.out]
      exact ⟨rfl, H.out.put 1 (.int .i64 1), grown_setCell _ ⟨g, 1, none⟩ _⟩
    · have h1 : ¬ (s.size : Int) < n := by rw [hz]; exact hn
      have h2 := ocTake_ok hn
      obtain ⟨k, hk⟩ : ∃ k : Nat, k = n.toNat := ⟨_, rfl⟩
      have h3 : max n 0 = (k : Int) := by omega
      have h4 : k ≤ s.size := by omega
      rw [← hk] at h2
      have H2 := Lib.hid h2
      clear hn hz h2 hk
      go_enter Try.func44, Try.ntmps44
      go_wp2_with ((with_reducible refine (HE.out _ H.out).mono ?_); rintro e w2 ⟨rfl, rfl⟩)
      go_ret
      rw [H2.out]
      refine ⟨ret_str (by rw [HS.out, ba_take]), ?_, grown_setCell _ ⟨g, 0, none⟩ _⟩
      have h5 := H.out.put 0 (.string (s.extract k s.size))
      have h6 : s.extract k s.size = ⟨(l.drop k).toArray⟩ := by rw [HZ.out, HS.out, ba_drop]
      rw [h6] at h5 ⊢
      exact h5
  · have hb : (x != 0) = true := by simpa using hx
    have h2 := ocTake_bad (l := l) (n := n) hx
    have H2 := Lib.hid h2
    clear h2 hx h
    go_enter Try.func44, Try.ntmps44
    go_wp2_with ((with_reducible refine (HE.out _ H.out).mono ?_); rintro e w2 ⟨rfl, rfl⟩)
    go_ret
    rw [H2.out]
    exact ⟨rfl, H.out, World.grownBy.refl _ _⟩
def ocEnd (l : List UInt8) (x : Int) : Int := if x ≠ 0 then x else if l = [] then 0 else 2
end Go.Proofs.Ytchjhpipiooibaa
