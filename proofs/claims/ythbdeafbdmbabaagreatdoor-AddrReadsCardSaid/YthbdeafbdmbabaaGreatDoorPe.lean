/- Texts behind a law of this seat, in order: Mem02. -/
import Derived.Test.YthbdeafbdmbabaaGreatDoorPb
import Derived.Test.YthbdeafbdmbabaaGreatDoorPd
import Derived.ChangeSlices
import Derived.Handed
import Derived.Lib.Strings
import Derived.SizedLaws
import Derived.SliceStrings
import Derived.WalkKit
import Derived.WalkLawsBesides
import Derived.WalkSpells
namespace Go.Proofs.YthbdeafbdmbabaaGreatDoor
open Go.RowKit Go
def intVs (q : IntKind) (l : List Int) : List Value := l.map (Value.int q)
theorem intVs_len (q : IntKind) (a : List Int) : (intVs q a).length = a.length := by simp [intVs]
theorem ownsRow_below {w w' : World} {B e size n : Nat} {v : Value} {xs : List Value} (h : w.ownsRow B e size v n xs) (hb : Below w.heap.size w w') : w'.ownsRow B e size v n xs := by
  refine ⟨h.1, ?_⟩
  rcases h.2 with h0 | ⟨g, cap, cur, hv, hB, hg, hr⟩
  · exact .inl h0
  · refine .inr ⟨g, cap, cur, hv, hB, ?_, hr⟩
    rw [hb.block g (Array.getElem?_eq_some_iff.1 hg).1]
    exact hg
def IntsAt (w : World) (q : IntKind) (A : Option Addr) (n : Nat) (l : List Int) : Prop :=
  n = l.length ∧ (0 < n → ∃ b o, A = some ⟨b, o, none⟩ ∧ b < w.heap.size ∧ ∀ j (h : j < l.length), w.cell? ⟨b, o + j, none⟩ = some (.int q l[j]))
theorem IntsAt.below {w w' : World} {q : IntKind} {A : Option Addr} {n : Nat} {l : List Int} (h : IntsAt w q A n l) (hb : Below w.heap.size w w') : IntsAt w' q A n l := by
  refine ⟨h.1, fun h0 => ?_⟩
  obtain ⟨b, o, hA, hlt, hc⟩ := h.2 h0
  exact ⟨b, o, hA, Nat.lt_of_lt_of_le hlt hb.size, fun j hj => by rw [hb.cell (p := ⟨b, o + j, none⟩) hlt]; exact hc j hj⟩
theorem IntsAt.of_own {w : World} {q : IntKind} {base e n : Nat} {v : Value} {l : List Int} (h : w.ownsRow base e 1 v n (intVs q l)) : ∃ A c, v = .slice A n c ∧ IntsAt w q A n l := by
  have hl : n = l.length := by have := h.1; simp [intVs] at this; omega
  rcases h.2 with ⟨rfl, h0⟩ | ⟨g, cap, cur, rfl, _, hg, _⟩
  · have : n = 0 := h0
    subst this
    exact ⟨none, 0, rfl, hl, fun h => absurd h (by omega)⟩
  · refine ⟨_, _, rfl, hl, fun h0 => ⟨g, 0, rfl, (Array.getElem?_eq_some_iff.1 hg).1, fun j hj => ?_⟩⟩
    rw [Nat.zero_add, h.cellAt j (by omega)]
    simp [intVs, hj]
end Go.Proofs.YthbdeafbdmbabaaGreatDoor
