/- A slice of names that came in. -/
import Derived.Test.YtchjhpipiooibaaMem02
import Derived.SliceStrings
import Derived.Deep.Slices
namespace Go.Proofs.Ytchjhpipiooibaa
open Go.RowKit Go
set_option linter.unusedVariables false
/-- a name's slice, and what it reads as -/
structure Nm where
  A : Option Addr
  n : Nat
  c : Nat
  l : List (List UInt8)
def Nm.v (y : Nm) : Value := .slice y.A y.n y.c
def NmOk (W : World) (y : Nm) : Prop := TextsAt W y.A y.n y.l ∧ y.n ≤ y.c ∧ ∀ x ∈ y.l, x.length ≤ 140737488351232
def NamesAt (W : World) (A : Option Addr) (n : Nat) (L : List Nm) : Prop :=
  n = L.length ∧ (0 < n → ∃ b o, A = some ⟨b, o, none⟩ ∧ b < W.heap.size ∧ ∀ j (h : j < L.length), W.cell? ⟨b, o + j, none⟩ = some L[j].v) ∧ ∀ y ∈ L, NmOk W y
theorem open_name1 {H : Type} {enc : TypeId × Value → H} {P : Program} {W : World} {t e : TypeId} {fuel : Nat} {v : Value} {d : DataW H} {p : List MemPlace} (ht : P.underlying t = some (.slice e)) (he : P.underlying e = some .string) (hc : P.cellsOf e = 1)
    (h : DataW.trod enc P W 0 (fun _ => true) true fuel t [v] = some (d, p)) (hsz : (d.weights P t).all (· ≤ reachBytes) = true) : ∃ y : Nm, v = y.v ∧ NmOk W y := by
  have hv : ∃ A n c, v = .slice A n c := by
    rcases Go.ChangeShapes.open_strings ht he hc h with ⟨hcs, _⟩ | ⟨a, len, cap, ss, hcs, _⟩
    · simp at hcs; exact ⟨_, _, _, hcs⟩
    · simp at hcs; exact ⟨_, _, _, hcs⟩
  obtain ⟨A, n, c, rfl⟩ := hv
  obtain ⟨l, hl, hnc, _, hx, _⟩ := open_texts (A := A) (n := n) (c := c) ht he hc ⟨fuel, h⟩ hsz
  exact ⟨⟨A, n, c, l⟩, rfl, hl, hnc, hx⟩
theorem open_names {H : Type} {enc : TypeId × Value → H} {P : Program} {W : World} {t u e : TypeId} {A : Option Addr} {n c : Nat} {d : DataW H} {p : List MemPlace} (hu : P.underlying u = some (.slice t)) (ht : P.underlying t = some (.slice e)) (he : P.underlying e = some .string) (hc : P.cellsOf e = 1) (hct : P.cellsOf t = 1)
    (hk : DataW.Trod enc P W 0 (fun _ => true) true u (.slice A n c) d p) (hsz : (d.weights P u).all (· ≤ reachBytes) = true) : ∃ L, NamesAt W A n L := by
  obtain ⟨fuel, hf⟩ := hk
  rcases Go.Deep.open_slice1 hu hct hf with ⟨hcs, _⟩ | ⟨a, len, cap, m, fu, V, D, Pl, hcs, hb, hl, hm, hmm, hx, hV⟩
  · simp [Value.cells] at hcs
    obtain ⟨rfl, rfl, rfl⟩ := hcs
    exact ⟨[], rfl, fun h => absurd h (by omega), fun y hy => by simp at hy⟩
  · simp [Value.cells] at hcs
    obtain ⟨rfl, rfl, rfl⟩ := hcs
    simp only [if_true] at hmm
    have hd := congrArg Prod.fst hx
    simp only at hd
    have each : ∀ i, i < n → ∃ y : Nm, V i = y.v ∧ NmOk W y := fun i hi => open_name1 ht he hc (hV i (by omega)).2 (List.all_eq_true.2 fun k hk => List.all_eq_true.1 hsz k (by
      rw [hd]
      simp only [DataW.weights, hu]
      exact List.mem_cons_of_mem _ (List.mem_append_left _ (weights_all_mem (List.mem_map.2 ⟨i, List.mem_range.2 hi, rfl⟩) _ hk))))
    obtain ⟨Y, hY⟩ := @Go.Deep.choose_lt Nm ⟨⟨none, 0, 0, []⟩⟩ n _ each
    refine ⟨(List.range n).map Y, by simp, fun h0 => ?_, fun y hy => ?_⟩
    · have h0' := (hV 0 (by omega)).1
      obtain ⟨b, o, sp⟩ := a
      have hspot : sp = none := by simpa [Addr.add] using World.cell?_spot h0'
      subst hspot
      refine ⟨b, o, rfl, by simpa [Addr.add] using cell_lt h0', fun j hj => ?_⟩
      have hj' : j < n := by simpa using hj
      have h := (hV j (by omega)).1
      rw [Go.WideShapes.add_plain] at h
      rw [h, (hY j hj').1]
      simp
    · obtain ⟨i, hi, rfl⟩ := List.mem_map.1 hy
      exact (hY i (by simpa using hi)).2
end Go.Proofs.Ytchjhpipiooibaa
