/- Texts behind a law of this seat, in order: Mem. -/
import Derived.Test.YtnoabmkmnddkkaaPa
import Derived.Handed
import Derived.Lib.Strings
import Derived.SizedLaws
import Derived.SliceStrings
import Derived.WalkKit
import Derived.WalkLawsBesides
import Derived.WalkSpells
namespace Go.Proofs.Ytnoabmkmnddkkaa
open Go.RowKit Go
/-- one cell a piece, for an element type of the program's table -/
def Elem1 (P : Program) (e : TypeId) (z : Value) (bytes : Nat) : Prop := (P.info? e).map (fun i => (i.zero, i.size, i.bytes)) = some (some z, 1, bytes)
/-- 'out = append(out, x)', x of one cell, laid right ahead in a block of its own -/
theorem wpList_app1 {P : Program} {w0 : World} {ops : Array Oper} {rest : List Oper} {o : Oper} {a : Act} {Q : Exit → Act → World → Prop} (hgd : o.guard = none) (s x : Operand) (t e : TypeId)
    (ho : o.op = .call { callee := .builtin .append, args := #[s, x], argTypes := #[t, t] }) (ht : P.underlying t = some (.slice e)) {z : Value} {bytes : Nat} (hI : Elem1 P e z bytes) (hzs : z.cells.size = 1)
    (base : Nat) (v : Value) (n : Nat) (xs : List Value) (u : Value) (hs : a.eval s = v) (hx : a.eval x = .slice (some ⟨w0.heap.size, 0, none⟩) 1 1) (hown : w0.ownsRow base e 1 v n xs)
    (hu : u.oneCell' = true) (hb : (n + 1) * bytes ≤ 140737488355328) (hn : n + 1 ≤ 140737488355328) (hbase : base ≤ w0.heap.size)
    (h : ∀ v' w', w'.ownsRow base e 1 v' (n + 1) (xs ++ [u]) → Below base w0 w' → v' ≠ .slice none 0 0 → wpList P ops Q rest (a.put o.dst v') w') : wpList P ops Q (o :: rest) a (w0.alloc (.cells #[u] e)) := by
  obtain ⟨i, hi, hz, h1, h2⟩ := info_parts hI
  refine wpList_append_own (w0.alloc (.cells #[u] e)) hgd s x t ho base e i z 1 bytes ht hi hz h1 h2 hzs (by decide) v n xs hs (hown.alloc _) ⟨w0.heap.size, 0, none⟩ 1 1 [u] hx rfl ?_ ?_ ?_ hb ?_ ?_
  · intro j y hj
    match j, hj with
    | 0, hj => simp at hj; subst hj; simp [Addr.add]
  · intro y hy; simp at hy; subst hy; exact hu
  · unfold maxLen; omega
  · simp; omega
  · intro v' w' hown' hgrow hnil
    refine h v' w' hown' ?_ (fun hv => ?_)
    · refine ((Below.refl base w0).alloc hbase _).grown hgrow (by simp; omega) (fun k hk => ?_)
      exact (hown.lt k hk).1
    · exact absurd (hnil.1 hv).2 (by decide)
theorem addr_add0 (b j : Nat) : (⟨b, 0, none⟩ : Addr).add j = ⟨b, j, none⟩ := by unfold Addr.add; split <;> simp_all
/-- a slice value that reads as a list of texts; nil and empty let in -/
def TextsAt (w : World) (A : Option Addr) (n : Nat) (l : List (List UInt8)) : Prop :=
  n = l.length ∧ (0 < n → ∃ b o, A = some ⟨b, o, none⟩ ∧ b < w.heap.size ∧ ∀ j (h : j < l.length), w.cell? ⟨b, o + j, none⟩ = some (strV l[j]))
theorem TextsAt.below {w w' : World} {A : Option Addr} {n : Nat} {l : List (List UInt8)} (h : TextsAt w A n l) (hb : Below w.heap.size w w') : TextsAt w' A n l := by
  refine ⟨h.1, fun h0 => ?_⟩
  obtain ⟨b, o, hA, hlt, hc⟩ := h.2 h0
  exact ⟨b, o, hA, Nat.lt_of_lt_of_le hlt hb.size, fun j hj => by rw [hb.cell (p := ⟨b, o + j, none⟩) hlt]; exact hc j hj⟩
theorem TextsAt.of_own {w : World} {base e n : Nat} {v : Value} {l : List (List UInt8)} (h : w.ownsRow base e 1 v n (strVs l)) : ∃ A c, v = .slice A n c ∧ TextsAt w A n l := by
  have hl : n = l.length := by have := h.1; simp [strVs] at this; omega
  rcases h.2 with ⟨rfl, h0⟩ | ⟨g, cap, cur, rfl, _, hg, _⟩
  · have : n = 0 := h0
    subst this
    exact ⟨none, 0, rfl, hl, fun h => absurd h (by omega)⟩
  · refine ⟨_, _, rfl, hl, fun h0 => ⟨g, 0, rfl, (Array.getElem?_eq_some_iff.1 hg).1, fun j hj => ?_⟩⟩
    rw [Nat.zero_add, h.cellAt j (by omega)]
    simp [strVs, hj]
theorem weights_all_mem {H : Type} {P : Program} {e : TypeId} : ∀ {ds : List (DataW H)} {d : DataW H}, d ∈ ds → ∀ n ∈ d.weights P e, n ∈ DataW.weightsAll P e ds
  | d0 :: ds, d, hd, n, hn => by
    simp only [DataW.weightsAll, List.mem_append]
    rcases List.mem_cons.1 hd with rfl | h
    · exact Or.inl hn
    · exact Or.inr (weights_all_mem h n hn)
theorem sized_part {H : Type} {P : Program} {ts : List TypeId} {ds : List (DataW H)} (h : (DataW.weightsEach P ts ds).all (· ≤ reachBytes) = true) {j : Nat} {t : TypeId} {d : DataW H} (ht : ts[j]? = some t) (hd : ds[j]? = some d) : (d.weights P t).all (· ≤ reachBytes) = true :=
  List.all_eq_true.2 fun n hn => List.all_eq_true.1 h n (DataW.weights_mem_each ht hd n hn)
theorem cell_lt {w : World} {p : Addr} {v : Value} (h : w.cell? p = some v) : p.block < w.heap.size := by
  unfold World.cell? at h
  split at h
  · rename_i hh; exact (Array.getElem?_eq_some_iff.1 hh).1
  · cases h
/-- a '[]string' that came in, as what the walks ask of it -/
theorem open_texts {H : Type} {enc : TypeId × Value → H} {P : Program} {W : World} {t e : TypeId} {A : Option Addr} {n c : Nat} {d : DataW H} {p : List MemPlace} (ht : P.underlying t = some (.slice e)) (he : P.underlying e = some .string) (hc : P.cellsOf e = 1)
    (hk : DataW.Trod enc P W 0 (fun _ => true) true t (.slice A n c) d p) (hsz : (d.weights P t).all (· ≤ reachBytes) = true) :
    ∃ l, TextsAt W A n l ∧ n ≤ c ∧ c ≤ maxLen ∧ (∀ x ∈ l, x.length ≤ 140737488351232) ∧ n * P.bytesOf e ≤ 140737488351232 := by
  obtain ⟨fuel, hf⟩ := hk
  rcases Go.ChangeShapes.open_strings ht he hc hf with ⟨hcs, _⟩ | ⟨a, len, cap, ss, hcs, _, hl, hm, hz, hx, hcell, hws⟩
  · simp [Value.cells] at hcs
    obtain ⟨rfl, rfl, rfl⟩ := hcs
    exact ⟨[], ⟨rfl, fun h => absurd h (by omega)⟩, Nat.le_refl _, by decide, by simp, by omega⟩
  · simp [Value.cells] at hcs
    obtain ⟨rfl, rfl, rfl⟩ := hcs
    simp only [if_true] at hz
    have hd : d = .slice (Go.ChangeShapes.strs (ss.take n)) (Go.ChangeShapes.strs (ss.drop n)) := congrArg Prod.fst hx
    have hall := List.all_eq_true.1 hsz
    have hx1 : ∀ s ∈ ss.take n, s.size ≤ 140737488351232 := fun s hs => by
      have hm1 : (.lit (.string s.data.toList) : DataW H) ∈ Go.ChangeShapes.strs (ss.take n) := List.mem_map.2 ⟨s, hs, rfl⟩
      have := hall s.data.toList.length (by
        rw [hd]
        simp only [DataW.weights, ht]
        exact List.mem_cons_of_mem _ (List.mem_append_left _ (weights_all_mem hm1 _ (by simp [DataW.weights]))))
      have h2 := of_decide_eq_true this
      unfold reachBytes at h2
      simpa using h2
    have hln : (ss.take n).length = n := by rw [List.length_take]; omega
    refine ⟨(ss.take n).map (·.data.toList), ⟨by rw [List.length_map, hln], fun h0 => ?_⟩, hl, hm, fun x hx2 => ?_, ?_⟩
    · have h0' := hcell 0 (by omega)
      obtain ⟨b, o, sp⟩ := a
      have hspot : sp = none := by simpa [Addr.add] using World.cell?_spot h0'
      subst hspot
      refine ⟨b, o, rfl, by simpa [Addr.add] using cell_lt h0', fun j hj => ?_⟩
      have hj' : j < ss.length := by rw [List.length_map, hln] at hj; omega
      have h := hcell j hj'
      rw [Go.WideShapes.add_plain] at h
      rw [h]
      simp [strV, List.getD, hj']
    · obtain ⟨s, hs, rfl⟩ := List.mem_map.1 hx2
      simpa using hx1 s hs
    · have := hall ((ss.take n).length * P.bytesOf e + (ss.drop n).length * P.bytesOf e) (by
        rw [hd]
        simp only [DataW.weights, ht]
        refine List.mem_cons.2 (.inl ?_)
        simp [Go.ChangeShapes.strs, Nat.add_mul])
      rw [hln] at this
      have h2 := of_decide_eq_true this
      unfold reachBytes at h2
      omega
end Go.Proofs.Ytnoabmkmnddkkaa
