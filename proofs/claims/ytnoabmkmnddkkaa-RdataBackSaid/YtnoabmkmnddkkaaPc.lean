/- Texts behind a law of this seat, in order: Mem02. -/
import Derived.Test.YtnoabmkmnddkkaaPa
import Derived.Test.YtnoabmkmnddkkaaPb
import Derived.ChangeSlices
import Derived.Handed
import Derived.Lib.Strings
import Derived.SizedLaws
import Derived.SliceStrings
import Derived.WalkKit
import Derived.WalkLawsBesides
import Derived.WalkSpells
namespace Go.Proofs.Ytnoabmkmnddkkaa
open Go.RowKit Go
def intVs (q : IntKind) (l : List Int) : List Value := l.map (Value.int q)
def IntsAt (w : World) (q : IntKind) (A : Option Addr) (n : Nat) (l : List Int) : Prop :=
  n = l.length ∧ (0 < n → ∃ b o, A = some ⟨b, o, none⟩ ∧ b < w.heap.size ∧ ∀ j (h : j < l.length), w.cell? ⟨b, o + j, none⟩ = some (.int q l[j]))
theorem IntsAt.below {w w' : World} {q : IntKind} {A : Option Addr} {n : Nat} {l : List Int} (h : IntsAt w q A n l) (hb : Below w.heap.size w w') : IntsAt w' q A n l := by
  refine ⟨h.1, fun h0 => ?_⟩
  obtain ⟨b, o, hA, hlt, hc⟩ := h.2 h0
  exact ⟨b, o, hA, Nat.lt_of_lt_of_le hlt hb.size, fun j hj => by rw [hb.cell (p := ⟨b, o + j, none⟩) hlt]; exact hc j hj⟩
theorem IntsAt.of_own {w : World} {q : IntKind} {base e n : Nat} {v : Value} {l : List Int} (h : w.ownsRow base e 1 v n (intVs q l)) : ∃ A c, v = .slice A n c ∧ IntsAt w q A n l := by
  have hl : n = l.length := by have := h.1; simp [intVs] at this; omega
  rcases h.2 with ⟨rfl, h0⟩ | ⟨g, cap, cur, rfl, _, hg, _⟩
  · have : n = 0 := h0
    subst this
    exact ⟨none, 0, rfl, hl, fun h => absurd h (by omega)⟩
  · refine ⟨_, _, rfl, hl, fun h0 => ⟨g, 0, rfl, (Array.getElem?_eq_some_iff.1 hg).1, fun j hj => ?_⟩⟩
    rw [Nat.zero_add, h.cellAt j (by omega)]
    simp [intVs, hj]
end Go.Proofs.Ytnoabmkmnddkkaa
