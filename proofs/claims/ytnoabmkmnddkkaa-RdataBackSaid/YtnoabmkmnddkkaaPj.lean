/- Texts behind a law of this seat, in order: Octet, Octet2, Octet3, Pack. -/
import Derived.Test.YtnoabmkmnddkkaaPa
import Derived.Test.YtnoabmkmnddkkaaPb
import Derived.Test.YtnoabmkmnddkkaaPc
import Derived.Test.YtnoabmkmnddkkaaPd
import Derived.Test.YtnoabmkmnddkkaaPg
import Derived.Test.YtnoabmkmnddkkaaPi
import Derived.Below
import Derived.ChangeSlices
import Derived.Deep.AppendLies
import Derived.Deep.Draws
import Derived.Deep.RegionLaw
import Derived.Great.Ranges
import Derived.Handed
import Derived.Handy
import Derived.Laws.OwnMore
import Derived.Laws.Rows
import Derived.Lib.Hide
import Derived.Lib.Strings
import Derived.SizedLaws
import Derived.SliceStrings
import Derived.Test.YtnoabmkmnddkkaaProg
import Derived.WalkKit
import Derived.WalkLawsBesides
import Derived.WalkSpells
namespace Go.Proofs.Ytnoabmkmnddkkaa
open Go.RowKit Go
set_option linter.unusedVariables false
/-- an Eye's cells: what was not read, and the error -/
def eyeC (l : List UInt8) (x : Int) : Array Value := #[.string ⟨l.toArray⟩, .int .i64 x]
abbrev EyeAt (w : World) (g : Nat) (l : List UInt8) (x : Int) : Prop := At w g 73 (eyeC l x)
theorem wide_any (n : Int) (w : World) : Calls Try.prog 74 #[.int .i64 n] w fun e w' => e = .returned (.int .i64 (ocWide n : Nat)) ∧ w = w' := by
  have key : ∀ x : Int, x = min (max n 0) 4 → x = (ocWide n : Nat) := fun x h => by unfold ocWide; omega
  have KEY := Lib.hid key
  clear key
  go_enter Try.func74, Try.ntmps74
  go_wp2
  all_goals (go_ret; exact ⟨ret_int (KEY.out _ (by omega)), rfl⟩)
theorem eyeNew_any (s : ByteArray) (w : World) : Calls Try.prog 14 #[.string s] w fun e w' => ∃ g, e = .returned (.pointer (some ⟨g, 0, none⟩)) ∧ w.heap.size ≤ g ∧ EyeAt w' g s.data.toList 0 ∧ Below w.heap.size w w' := by
  go_enter Try.func14, Try.ntmps14
  go_wp2
  go_ret
  refine ⟨_, rfl, Nat.le_refl _, ?_, (Below.refl _ _).alloc (Nat.le_refl _) _⟩
  have e : eyeC s.data.toList 0 = #[.string s, .int .i64 0] := by simp [eyeC]
  show At _ _ _ _
  rw [e]
  exact At.new w 73 #[.string s, .int .i64 0]
theorem eyeErr_any (g : Nat) (l : List UInt8) (x : Int) (w : World) (h : EyeAt w g l x) : Calls Try.prog 15 #[.pointer (some ⟨g, 0, none⟩)] w fun e w' => e = .returned (.int .i64 x) ∧ w = w' := by
  have c1 : w.cell? ⟨g, 1, none⟩ = some (.int .i64 x) := h.cells 1 rfl
  clear h
  go_enter Try.func15, Try.ntmps15
  go_wp2
  go_ret
  exact ⟨rfl, rfl⟩
theorem eyeLeft_any (g : Nat) (l : List UInt8) (x : Int) (w : World) (h : EyeAt w g l x) : Calls Try.prog 21 #[.pointer (some ⟨g, 0, none⟩)] w fun e w' => e = .returned (.int .i64 l.length) ∧ w = w' := by
  obtain ⟨s, hs⟩ : ∃ s : ByteArray, s = ⟨l.toArray⟩ := ⟨_, rfl⟩
  have hz : s.size = l.length := by rw [hs]; rfl
  have c0 : w.cell? ⟨g, 0, none⟩ = some (.string s) := by rw [hs]; exact h.cells 0 rfl
  have HZ := Lib.hid hz
  clear h hs hz
  go_enter Try.func21, Try.ntmps21
  go_wp2
  go_ret
  exact ⟨by rw [HZ.out]; rfl, rfl⟩
end Go.Proofs.Ytnoabmkmnddkkaa
namespace Go.Proofs.Ytnoabmkmnddkkaa
open Go.RowKit Go
set_option linter.unusedVariables false
/-- what a method of an Eye does: it answers v, and the Eye is as told; what else there is stays -/
def EyeP (w : World) (g : Nat) (v : Value) (l : List UInt8) (x : Int) (e : Ending) (w' : World) : Prop := e = .returned v ∧ EyeAt w' g l x ∧ w.grownBy w' (some g)
theorem ocTake_bad {l : List UInt8} {x n : Int} (h : x ≠ 0) : ocTake l x n = ([], l, x) := by unfold ocTake; rw [if_pos h]
theorem ocTake_short {l : List UInt8} {n : Int} (h : (l.length : Int) < n) : ocTake l 0 n = ([], l, 1) := by unfold ocTake; rw [if_neg (by decide), if_pos h]
theorem ocTake_ok {l : List UInt8} {n : Int} (h : ¬ (l.length : Int) < n) : ocTake l 0 n = (l.take n.toNat, l.drop n.toNat, 0) := by unfold ocTake; rw [if_neg (by decide), if_neg h]
theorem ba_take (l : List UInt8) (k : Nat) : (⟨l.toArray⟩ : ByteArray).extract 0 k = ⟨(l.take k).toArray⟩ := by
  rw [Lib.extract_eq]; simp
theorem ba_drop (l : List UInt8) (k : Nat) : (⟨l.toArray⟩ : ByteArray).extract k l.length = ⟨(l.drop k).toArray⟩ := by
  rw [Lib.extract_eq]; simp; rw [List.take_of_length_le (by simp)]
set_option maxHeartbeats 2000000 in
theorem eyeTake_any (g : Nat) (l : List UInt8) (x n : Int) (w : World) (h : EyeAt w g l x) : Calls Try.prog 44 #[.pointer (some ⟨g, 0, none⟩), .int .i64 n] w
    (EyeP w g (.string ⟨(ocTake l x n).1.toArray⟩) (ocTake l x n).2.1 (ocTake l x n).2.2) := by
  have hE := fun w h => eyeErr_any g l x w h
  have HE := Lib.hid hE
  have H := Lib.hid h
  clear hE
  by_cases hx : x = 0
  · subst hx
    obtain ⟨s, hs⟩ : ∃ s : ByteArray, s = ⟨l.toArray⟩ := ⟨_, rfl⟩
    have hz : s.size = l.length := by rw [hs]; rfl
    have c0 : w.cell? ⟨g, 0, none⟩ = some (.string s) := by rw [hs]; exact h.cells 0 rfl
    have c1 : w.cell? ⟨g, 1, none⟩ = some (.int .i64 0) := h.cells 1 rfl
    have z0 := h.ice 0
    have z1 := h.ice 1
    have HS := Lib.hid hs
    have HZ := Lib.hid hz
    clear h hs
    by_cases hn : (l.length : Int) < n
    · have h1 : (s.size : Int) < n := by rw [hz]; exact hn
      have HN := Lib.hid hn
      clear hn hz
      go_enter Try.func44, Try.ntmps44
      go_wp2_with ((with_reducible refine (HE.out _ H.out).mono ?_); rintro e w2 ⟨rfl, rfl⟩)
      go_ret
      rw [ocTake_short HN.out]
      exact ⟨rfl, H.out.put 1 (.int .i64 1), grown_setCell _ ⟨g, 1, none⟩ _⟩
    · have h1 : ¬ (s.size : Int) < n := by rw [hz]; exact hn
      have h2 := ocTake_ok hn
      obtain ⟨k, hk⟩ : ∃ k : Nat, k = n.toNat := ⟨_, rfl⟩
      have h3 : max n 0 = (k : Int) := by omega
      have h4 : k ≤ s.size := by omega
      rw [← hk] at h2
      have H2 := Lib.hid h2
      clear hn hz h2 hk
      go_enter Try.func44, Try.ntmps44
      go_wp2_with ((with_reducible refine (HE.out _ H.out).mono ?_); rintro e w2 ⟨rfl, rfl⟩)
      go_ret
      rw [H2.out]
      refine ⟨ret_str (by rw [HS.out, ba_take]), ?_, grown_setCell _ ⟨g, 0, none⟩ _⟩
      have h5 := H.out.put 0 (.string (s.extract k s.size))
      have h6 : s.extract k s.size = ⟨(l.drop k).toArray⟩ := by rw [HZ.out, HS.out, ba_drop]
      rw [h6] at h5 ⊢
      exact h5
  · have hb : (x != 0) = true := by simpa using hx
    have h2 := ocTake_bad (l := l) (n := n) hx
    have H2 := Lib.hid h2
    clear h2 hx h
    go_enter Try.func44, Try.ntmps44
    go_wp2_with ((with_reducible refine (HE.out _ H.out).mono ?_); rintro e w2 ⟨rfl, rfl⟩)
    go_ret
    rw [H2.out]
    exact ⟨rfl, H.out, World.grownBy.refl _ _⟩
def ocEnd (l : List UInt8) (x : Int) : Int := if x ≠ 0 then x else if l = [] then 0 else 2
theorem eyeEnd_any (g : Nat) (l : List UInt8) (x : Int) (w : World) (h : EyeAt w g l x) : Calls Try.prog 16 #[.pointer (some ⟨g, 0, none⟩)] w fun e w' => e = .returned (.int .i64 (ocEnd l x)) ∧ w = w' := by
  have hE := fun w h => eyeErr_any g l x w h
  have hL := fun w h => eyeLeft_any g l x w h
  have HE := Lib.hid hE
  have HL := Lib.hid hL
  have H := Lib.hid h
  have key : ∀ y, (x ≠ 0 → y = x) → (x = 0 → l = [] → y = 0) → (x = 0 → l ≠ [] → y = 2) → y = ocEnd l x := fun y h1 h2 h3 => by
    unfold ocEnd
    split
    · exact h1 (by assumption)
    · split
      · exact h2 (by omega) (by assumption)
      · exact h3 (by omega) (by assumption)
  have KEY := Lib.hid key
  clear hE hL h key
  by_cases hx : x = 0
  · cases l with
    | nil =>
      have e := KEY.out 0 (fun h => absurd hx h) (fun _ _ => rfl) (fun _ h => absurd rfl h)
      have EE := Lib.hid e
      subst hx
      clear e KEY
      go_enter Try.func16, Try.ntmps16
      go_wp2_with (first | ((with_reducible refine (HE.out _ H.out).mono ?_); rintro e w2 ⟨rfl, rfl⟩) | ((with_reducible refine (HL.out _ H.out).mono ?_); rintro e w2 ⟨rfl, rfl⟩))
      go_ret
      exact ⟨ret_int EE.out, rfl⟩
    | cons c l =>
      have e := KEY.out 2 (fun h => absurd hx h) (fun _ h => absurd h (by simp)) (fun _ _ => rfl)
      have EE := Lib.hid e
      have h1 : (0 : Int) < ((c :: l).length : Nat) := by simp
      obtain ⟨n, hn⟩ : ∃ n, n = (c :: l).length := ⟨_, rfl⟩
      rw [← hn] at h1
      simp only [← hn] at HL
      subst hx
      clear e KEY hn
      go_enter Try.func16, Try.ntmps16
      go_wp2_with (first | ((with_reducible refine (HE.out _ H.out).mono ?_); rintro e w2 ⟨rfl, rfl⟩) | ((with_reducible refine (HL.out _ H.out).mono ?_); rintro e w2 ⟨rfl, rfl⟩))
      go_ret
      exact ⟨ret_int EE.out, rfl⟩
  · have hb : (x != 0) = true := by simpa using hx
    have e := KEY.out x (fun _ => rfl) (fun h => absurd h hx) (fun h => absurd h hx)
    have EE := Lib.hid e
    clear e KEY hx
    go_enter Try.func16, Try.ntmps16
    go_wp2_with ((with_reducible refine (HE.out _ H.out).mono ?_); rintro e w2 ⟨rfl, rfl⟩)
    go_ret
    exact ⟨ret_int EE.out, rfl⟩
end Go.Proofs.Ytnoabmkmnddkkaa
namespace Go.Proofs.Ytnoabmkmnddkkaa
open Go.RowKit Go
set_option linter.unusedVariables false
theorem i64_orN (a b : Nat) (ha : a < 4294967296) (hb : b < 4294967296) : bits .or .i64 (a : Int) (b : Int) = ((a ||| b : Nat) : Int) := by
  have hx : a ||| b < 2 ^ 32 := Nat.or_lt_two_pow (by omega) (by omega)
  show IntKind.i64.wrap ((BitVec.ofInt 64 (a : Int) ||| BitVec.ofInt 64 (b : Int)).toNat : Int) = _
  rw [BitVec.toNat_or, ofInt_u64 a (by omega), ofInt_u64 b (by omega), IntKind.wrap_i64]
  omega
theorem byte_or (n d : Nat) (hn : n < 16777216) (hd : d < 256) : bits BinOp.or IntKind.i64 ((n : Int) * 256) (d : Int) = ((256 * n + d : Nat) : Int) := by
  have h := i64_orN (n * 256) d (by omega) (by omega)
  have e := Nat.shiftLeft_add_eq_or_of_lt (show d < 2 ^ 8 by omega) n
  rw [Nat.shiftLeft_eq] at e
  rw [← show n * 256 + d = n * 256 ||| d from e] at h
  rw [show ((n : Int) * 256) = ((n * 256 : Nat) : Int) by omega, h]
  omega
theorem ocN_take (s : ByteArray) (k : Nat) (h : k < s.size) : ocN (s.data.toList.take (k + 1)) = 256 * ocN (s.data.toList.take k) + s[k].toNat := by
  rw [take_snoc s k h, ocN_snoc]
theorem ocN_take_lt (s : ByteArray) (k : Nat) (h : k ≤ 3) : ocN (s.data.toList.take k) < 16777216 := by
  have h1 := ocN_lt (s.data.toList.take k)
  have h2 : 256 ^ (s.data.toList.take k).length ≤ 256 ^ 3 := Nat.pow_le_pow_right (by decide) (by rw [List.length_take]; omega)
  omega
theorem ocTake_len (l : List UInt8) (x : Int) (k : Nat) : (ocTake l x k).1.length ≤ k := by
  unfold ocTake
  split
  · simp
  · split
    · simp
    · rw [List.length_take]; omega
theorem grown_trans {a w w' : World} {row : Option Nat} (h : a.grownBy w row) (k : w.grownBy w' none) : a.grownBy w' row :=
  ⟨k.os.trans h.os, k.tape.trans h.tape, k.output.trans h.output, Nat.le_trans h.size k.size, fun i hi hne => (k.block i (Nat.lt_of_lt_of_le hi h.size) (by simp)).trans (h.block i hi hne)⟩
theorem grown_drew {a w : World} {row : Option Nat} (h : a.grownBy w row) : a.grownBy w.drew row := ⟨h.os, h.tape, h.output, h.size, h.block⟩
set_option maxRecDepth 100000 in
set_option maxHeartbeats 2000000 in
theorem eyeNum_any (g : Nat) (l : List UInt8) (x n : Int) (w : World) (h : EyeAt w g l x) : Calls Try.prog 75 #[.pointer (some ⟨g, 0, none⟩), .int .i64 n] w
    (EyeP w g (.int .i64 (ocNumT l x n).1) (ocNumT l x n).2.1 (ocNumT l x n).2.2) := by
  unfold ocNumT
  have hW := fun w => wide_any n w
  have hle := ocWide_le n
  obtain ⟨m, hm⟩ : ∃ m, m = ocWide n := ⟨_, rfl⟩
  rw [← hm] at hle ⊢
  simp only [← hm] at hW
  have hT := eyeTake_any g l x (m : Int) w h
  have hlen := ocTake_len l x m
  obtain ⟨R, hR⟩ : ∃ R, R = ocTake l x (m : Int) := ⟨_, rfl⟩
  rw [← hR] at hT hlen ⊢
  obtain ⟨o, l', x'⟩ := R
  obtain ⟨s, hs⟩ : ∃ s : ByteArray, s = ⟨o.toArray⟩ := ⟨_, rfl⟩
  have hz : s.size ≤ 4 := by rw [hs]; exact Nat.le_trans hlen hle
  have hol : o = s.data.toList := by rw [hs]
  simp only [← hs] at hT
  have HW := Lib.hid hW
  have HT := Lib.hid hT
  have HO := Lib.hid hol
  clear hW hT hm hR hs hol hlen hle h
  show Calls _ _ _ _ (EyeP w g (.int .i64 (ocN o)) l' x')
  rw [HO.out]
  clear HO
  go_enter Try.func75, Try.ntmps75
  go_wp2_with (first
    | ((with_reducible refine (HW.out _).mono ?_); rintro e w2 ⟨rfl, rfl⟩)
    | ((with_reducible refine HT.out.mono ?_); rintro e w2 ⟨rfl, hat, hgr⟩; have kb := run_bytes_of_string (P := Try.prog) w2 9 94 5 s Try.underlying9 Try.underlying94 Try.underlying5))
  clear kb
  have hst := byAt_start s w2
  have hgr2 := grown_drew (grown_trans hgr (grown_alloc w2 (.cells (bytesRow s (grownCap w2 s.size 0 5)) 5 ((bytesRow s (grownCap w2 s.size 0 5)).size, (bytesRow s (grownCap w2 s.size 0 5)).size + 1))))
  have hat2 := (hat.alloc (.cells (bytesRow s (grownCap w2 s.size 0 5)) 5 ((bytesRow s (grownCap w2 s.size 0 5)).size, (bytesRow s (grownCap w2 s.size 0 5)).size + 1))).drew
  have HST := Lib.hid hst
  have HGR := Lib.hid hgr2
  have HAT := Lib.hid hat2
  clear hst hgr2 hat2 hat hgr
  generalize w2.heap.size = b at HST ⊢
  generalize ((w2.alloc (.cells (bytesRow s (grownCap w2 s.size 0 5)) 5 ((bytesRow s (grownCap w2 s.size 0 5)).size, (bytesRow s (grownCap w2 s.size 0 5)).size + 1))).drew) = W1 at HST HGR HAT ⊢
  go_loop [5, 14] (fun n i => ∃ k : Nat, k ≤ s.size ∧ i = .int .i64 k ∧ n = .int .i64 (ocN (s.data.toList.take k))) (fun _ i => s.size - (intOf i).toNat)
  case atStart => exact ⟨0, Nat.zero_le _, rfl, rfl⟩
  case round =>
    obtain ⟨k, hk, rfl, rfl⟩ := hrel
    by_cases hlt : k < s.size
    · have hc := HST.out.2 k hlt
      have hb : (s[k].toNat : Int) ≤ 255 := by have := s[k].toNat_lt; omega
      have hn := ocN_take_lt s k (by omega)
      have ht := ocN_take s k hlt
      have hor := fun v hv => byte_or v s[k].toNat hv s[k].toNat_lt
      obtain ⟨v, hv⟩ : ∃ v, v = ocN (s.data.toList.take k) := ⟨_, rfl⟩
      rw [← hv] at hn ht
      have ho := hor v hn
      have HT2 := Lib.hid ht
      rw [← hv]
      clear ht hv hor
      go_wp2
      go_round
      case rel => exact ⟨k + 1, by omega, by go_num, by rw [HT2.out]; go_num⟩
      case measure => simp [intOf]; omega
    · obtain rfl : k = s.size := by omega
      have he : s.data.toList.take s.size = s.data.toList := List.take_of_length_le (by simp)
      rw [he]
      go_wp2
      go_ret
      exact ⟨rfl, HAT.out, HGR.out⟩
end Go.Proofs.Ytnoabmkmnddkkaa
/- Layer 12: the Eye within a reader. -/
namespace Go.Proofs.Ytnoabmkmnddkkaa
open Go.RowKit Go
set_option linter.unusedVariables false
/-- a reader's cells: the message, what was not read, the error, what was led to last, the name, its size, what is behind -/
def rdC (M : ByteArray) (l : List UInt8) (x low : Int) (v : Value) (size fin : Int) : Array Value := #[.string M, .string ⟨l.toArray⟩, .int .i64 x, .int .i64 low, v, .int .i64 size, .int .i64 fin]
abbrev RdAt (w : World) (g : Nat) (M : ByteArray) (l : List UInt8) (x low : Int) (v : Value) (size fin : Int) : Prop := At w g 106 (rdC M l x low v size fin)
section
variable {g : Nat} {M : ByteArray} {l : List UInt8} {x low : Int} {v : Value} {size fin : Int}
theorem rErr_any {w : World} (h : RdAt w g M l x low v size fin) : Calls Try.prog 15 #[.pointer (some ⟨g, 1, none⟩)] w fun e w' => e = .returned (.int .i64 x) ∧ w = w' := by
  have c1 : w.cell? ⟨g, 2, none⟩ = some (.int .i64 x) := h.cells 2 rfl
  clear h
  go_enter Try.func15, Try.ntmps15
  go_wp2
  go_ret
  exact ⟨rfl, rfl⟩
theorem rLeft_any {w : World} (h : RdAt w g M l x low v size fin) : Calls Try.prog 21 #[.pointer (some ⟨g, 1, none⟩)] w fun e w' => e = .returned (.int .i64 l.length) ∧ w = w' := by
  obtain ⟨s, hs⟩ : ∃ s : ByteArray, s = ⟨l.toArray⟩ := ⟨_, rfl⟩
  have hz : s.size = l.length := by rw [hs]; rfl
  have c0 : w.cell? ⟨g, 1, none⟩ = some (.string s) := by rw [hs]; exact h.cells 1 rfl
  have HZ := Lib.hid hz
  clear h hs hz
  go_enter Try.func21, Try.ntmps21
  go_wp2
  go_ret
  exact ⟨by rw [HZ.out]; rfl, rfl⟩
set_option maxHeartbeats 2000000 in
theorem rTake_any (n : Int) {w : World} (h : RdAt w g M l 0 low v size fin) : Calls Try.prog 44 #[.pointer (some ⟨g, 1, none⟩), .int .i64 n] w
    fun e w' => e = .returned (.string ⟨(ocTake l 0 n).1.toArray⟩) ∧ RdAt w' g M (ocTake l 0 n).2.1 (ocTake l 0 n).2.2 low v size fin ∧ w.grownBy w' (some g) := by
  have hE := fun w (h : RdAt w g M l 0 low v size fin) => rErr_any h
  have HE := Lib.hid hE
  have H := Lib.hid h
  clear hE
  obtain ⟨s, hs⟩ : ∃ s : ByteArray, s = ⟨l.toArray⟩ := ⟨_, rfl⟩
  have hz : s.size = l.length := by rw [hs]; rfl
  have c0 : w.cell? ⟨g, 1, none⟩ = some (.string s) := by rw [hs]; exact h.cells 1 rfl
  have c1 : w.cell? ⟨g, 2, none⟩ = some (.int .i64 0) := h.cells 2 rfl
  have z0 := h.ice 1
  have z1 := h.ice 2
  have HS := Lib.hid hs
  have HZ := Lib.hid hz
  clear h hs
  by_cases hn : (l.length : Int) < n
  · have h1 : (s.size : Int) < n := by rw [hz]; exact hn
    have HN := Lib.hid hn
    clear hn hz
    go_enter Try.func44, Try.ntmps44
    go_wp2_with ((with_reducible refine (HE.out _ H.out).mono ?_); rintro e w2 ⟨rfl, rfl⟩)
    go_ret
    rw [ocTake_short HN.out]
    exact ⟨rfl, H.out.put 2 (.int .i64 1), grown_setCell _ ⟨g, 2, none⟩ _⟩
  · have h1 : ¬ (s.size : Int) < n := by rw [hz]; exact hn
    have h2 := ocTake_ok hn
    obtain ⟨k, hk⟩ : ∃ k : Nat, k = n.toNat := ⟨_, rfl⟩
    have h3 : max n 0 = (k : Int) := by omega
    have h4 : k ≤ s.size := by omega
    rw [← hk] at h2
    have H2 := Lib.hid h2
    clear hn hz h2 hk
    go_enter Try.func44, Try.ntmps44
    go_wp2_with ((with_reducible refine (HE.out _ H.out).mono ?_); rintro e w2 ⟨rfl, rfl⟩)
    go_ret
    rw [H2.out]
    refine ⟨ret_str (by rw [HS.out, ba_take]), ?_, grown_setCell _ ⟨g, 1, none⟩ _⟩
    have h5 := H.out.put 1 (.string (s.extract k s.size))
    have h6 : s.extract k s.size = ⟨(l.drop k).toArray⟩ := by rw [HZ.out, HS.out, ba_drop]
    rw [h6] at h5 ⊢
    exact h5
theorem ocWide1 : ocWide 1 = 1 := by decide
set_option maxRecDepth 100000 in
set_option maxHeartbeats 2000000 in
theorem rNum_any {w : World} (h : RdAt w g M l 0 low v size fin) : Calls Try.prog 75 #[.pointer (some ⟨g, 1, none⟩), .int .i64 1] w
    fun e w' => e = .returned (.int .i64 (ocNumT l 0 1).1) ∧ RdAt w' g M (ocNumT l 0 1).2.1 (ocNumT l 0 1).2.2 low v size fin ∧ w.grownBy w' (some g) := by
  unfold ocNumT
  rw [ocWide1]
  have hW := fun w => wide_any 1 w
  rw [ocWide1] at hW
  rw [show ((1 : Nat) : Int) = 1 from rfl] at hW ⊢
  have hT := rTake_any 1 h
  have hlen : (ocTake l 0 1).1.length ≤ 1 := ocTake_len l 0 1
  obtain ⟨R, hR⟩ : ∃ R, R = ocTake l 0 1 := ⟨_, rfl⟩
  rw [← hR] at hT hlen ⊢
  obtain ⟨o, l', x'⟩ := R
  obtain ⟨s, hs⟩ : ∃ s : ByteArray, s = ⟨o.toArray⟩ := ⟨_, rfl⟩
  have hz : s.size ≤ 4 := by rw [hs]; exact Nat.le_trans hlen (by decide)
  have hol : o = s.data.toList := by rw [hs]
  simp only [← hs] at hT
  have HW := Lib.hid hW
  have HT := Lib.hid hT
  have HO := Lib.hid hol
  clear hW hT hR hs hol hlen h
  show Calls _ _ _ _ (fun e w' => e = .returned (.int .i64 (ocN o)) ∧ RdAt w' g M l' x' low v size fin ∧ w.grownBy w' (some g))
  rw [HO.out]
  clear HO
  go_enter Try.func75, Try.ntmps75
  go_wp2_with (first
    | ((with_reducible refine (HW.out _).mono ?_); rintro e w2 ⟨rfl, rfl⟩)
    | ((with_reducible refine HT.out.mono ?_); rintro e w2 ⟨rfl, hat, hgr⟩; have kb := run_bytes_of_string (P := Try.prog) w2 9 94 5 s Try.underlying9 Try.underlying94 Try.underlying5))
  clear kb
  have hst := byAt_start s w2
  have hgr2 := grown_drew (grown_trans hgr (grown_alloc w2 (.cells (bytesRow s (grownCap w2 s.size 0 5)) 5 ((bytesRow s (grownCap w2 s.size 0 5)).size, (bytesRow s (grownCap w2 s.size 0 5)).size + 1))))
  have hat2 := (hat.alloc (.cells (bytesRow s (grownCap w2 s.size 0 5)) 5 ((bytesRow s (grownCap w2 s.size 0 5)).size, (bytesRow s (grownCap w2 s.size 0 5)).size + 1))).drew
  have HST := Lib.hid hst
  have HGR := Lib.hid hgr2
  have HAT := Lib.hid hat2
  clear hst hgr2 hat2 hat hgr
  generalize w2.heap.size = b at HST ⊢
  generalize ((w2.alloc (.cells (bytesRow s (grownCap w2 s.size 0 5)) 5 ((bytesRow s (grownCap w2 s.size 0 5)).size, (bytesRow s (grownCap w2 s.size 0 5)).size + 1))).drew) = W1 at HST HGR HAT ⊢
  go_loop [5, 14] (fun n i => ∃ k : Nat, k ≤ s.size ∧ i = .int .i64 k ∧ n = .int .i64 (ocN (s.data.toList.take k))) (fun _ i => s.size - (intOf i).toNat)
  case atStart => exact ⟨0, Nat.zero_le _, rfl, rfl⟩
  case round =>
    obtain ⟨k, hk, rfl, rfl⟩ := hrel
    by_cases hlt : k < s.size
    · have hc := HST.out.2 k hlt
      have hb : (s[k].toNat : Int) ≤ 255 := by have := s[k].toNat_lt; omega
      have hn := ocN_take_lt s k (by omega)
      have ht := ocN_take s k hlt
      have hor := fun v hv => byte_or v s[k].toNat hv s[k].toNat_lt
      obtain ⟨v, hv⟩ : ∃ v, v = ocN (s.data.toList.take k) := ⟨_, rfl⟩
      rw [← hv] at hn ht
      have ho := hor v hn
      have HT2 := Lib.hid ht
      rw [← hv]
      clear ht hv hor
      go_wp2
      go_round
      case rel => exact ⟨k + 1, by omega, by go_num, by rw [HT2.out]; go_num⟩
      case measure => simp [intOf]; omega
    · obtain rfl : k = s.size := by omega
      have he : s.data.toList.take s.size = s.data.toList := List.take_of_length_le (by simp)
      rw [he]
      go_wp2
      go_ret
      exact ⟨rfl, HAT.out, HGR.out⟩
end
end Go.Proofs.Ytnoabmkmnddkkaa
