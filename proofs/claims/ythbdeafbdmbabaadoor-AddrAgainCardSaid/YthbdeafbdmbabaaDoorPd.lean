/- Texts behind a law of this seat, in order: Mem. -/
import Derived.Test.YthbdeafbdmbabaaDoorPb
import Derived.Handed
import Derived.Lib.Strings
import Derived.SizedLaws
import Derived.SliceStrings
import Derived.WalkKit
import Derived.WalkLawsBesides
import Derived.WalkSpells
namespace Go.Proofs.YthbdeafbdmbabaaDoor
open Go.RowKit Go
/-- one cell a piece, for an element type of the program's table -/
def Elem1 (P : Program) (e : TypeId) (z : Value) (bytes : Nat) : Prop := (P.info? e).map (fun i => (i.zero, i.size, i.bytes)) = some (some z, 1, bytes)
/-- a slice value that reads as a list of texts; nil and empty let in -/
def TextsAt (w : World) (A : Option Addr) (n : Nat) (l : List (List UInt8)) : Prop :=
  n = l.length ∧ (0 < n → ∃ b o, A = some ⟨b, o, none⟩ ∧ b < w.heap.size ∧ ∀ j (h : j < l.length), w.cell? ⟨b, o + j, none⟩ = some (strV l[j]))
theorem TextsAt.below {w w' : World} {A : Option Addr} {n : Nat} {l : List (List UInt8)} (h : TextsAt w A n l) (hb : Below w.heap.size w w') : TextsAt w' A n l := by
  refine ⟨h.1, fun h0 => ?_⟩
  obtain ⟨b, o, hA, hlt, hc⟩ := h.2 h0
  exact ⟨b, o, hA, Nat.lt_of_lt_of_le hlt hb.size, fun j hj => by rw [hb.cell (p := ⟨b, o + j, none⟩) hlt]; exact hc j hj⟩
theorem TextsAt.of_own {w : World} {base e n : Nat} {v : Value} {l : List (List UInt8)} (h : w.ownsRow base e 1 v n (strVs l)) : ∃ A c, v = .slice A n c ∧ TextsAt w A n l := by
  have hl : n = l.length := by have := h.1; simp [strVs] at this; omega
  rcases h.2 with ⟨rfl, h0⟩ | ⟨g, cap, cur, rfl, _, hg, _⟩
  · have : n = 0 := h0
    subst this
    exact ⟨none, 0, rfl, hl, fun h => absurd h (by omega)⟩
  · refine ⟨_, _, rfl, hl, fun h0 => ⟨g, 0, rfl, (Array.getElem?_eq_some_iff.1 hg).1, fun j hj => ?_⟩⟩
    rw [Nat.zero_add, h.cellAt j (by omega)]
    simp [strVs, hj]
theorem own_app1 {w : World} {base e : Nat} {v : Value} {L : List (List UInt8)} {W : List UInt8} (h : w.ownsRow base e 1 v (L.length + 1) (strVs L ++ [Value.string ⟨W.toArray⟩])) :
    w.ownsRow base e 1 v (L ++ [W]).length (strVs (L ++ [W])) := by
  rw [strVs_app]
  simpa [strV] using h
theorem cell_lt {w : World} {p : Addr} {v : Value} (h : w.cell? p = some v) : p.block < w.heap.size := by
  unfold World.cell? at h
  split at h
  · rename_i hh; exact (Array.getElem?_eq_some_iff.1 hh).1
  · cases h
end Go.Proofs.YthbdeafbdmbabaaDoor
