/- Texts behind a law of this seat, in order: Mem03. -/
import Derived.Test.YtnoabmkmnddkkaaPa
import Derived.Test.YtnoabmkmnddkkaaPb
import Derived.Test.YtnoabmkmnddkkaaPc
import Derived.Below
import Derived.ChangeSlices
import Derived.Deep.AppendLies
import Derived.Deep.Draws
import Derived.Deep.RegionLaw
import Derived.Handed
import Derived.Laws.OwnMore
import Derived.Laws.Rows
import Derived.Lib.Strings
import Derived.SizedLaws
import Derived.SliceStrings
import Derived.WalkKit
import Derived.WalkLawsBesides
import Derived.WalkSpells
namespace Go.Proofs.Ytnoabmkmnddkkaa
open Go.RowKit Go
/- A block of the call's own that is known whole: a struct behind a pointer. -/
def At (w : World) (g : Nat) (t : TypeId) (cs : Array Value) : Prop := w.heap[g]? = some (.cells cs t (0, 0))
section
variable {w w' : World} {g : Nat} {t : TypeId} {cs : Array Value}
theorem At.lt (h : At w g t cs) : g < w.heap.size := (Array.getElem?_eq_some_iff.1 h).1
theorem At.cell (h : At w g t cs) (i : Nat) : w.cell? ⟨g, i, none⟩ = cs[i]? := cell_of_row w g i cs t (0, 0) h
theorem At.cells (h : At w g t cs) (i : Nat) {v : Value} (e : cs[i]? = some v) : w.cell? ⟨g, i, none⟩ = some v := (h.cell i).trans e
theorem At.ice (h : At w g t cs) (i : Nat) : w.frozen? ⟨g, i, none⟩ = false := by
  unfold At at h; simp [World.frozen?, h]
theorem At.new (w : World) (t : TypeId) (cs : Array Value) : At (w.alloc (.cells cs t)) w.heap.size t cs := heap_alloc_new w _
theorem At.drewN (h : At w g t cs) (n : Nat) : At (w.drewN n) g t cs := h
theorem At.drew (h : At w g t cs) : At w.drew g t cs := h
theorem At.alloc (h : At w g t cs) (o : Obj) : At (w.alloc o) g t cs := (Below.heap_alloc w o g h.lt).trans h
theorem At.put (h : At w g t cs) (i : Nat) (u : Value) : At (w.setCell ⟨g, i, none⟩ u) g t (cs.setIfInBounds i u) := by
  unfold At at h ⊢
  simp [World.setCell, Array.getElem?_modify, h]
theorem At.below {B : Nat} (h : At w g t cs) (hb : Below B w w') (hg : g < B) : At w' g t cs := (hb.block g hg).trans h
theorem At.own_ne {B e n : Nat} {v : Value} {xs : List Value} (h : At w g t cs) (ho : w.ownsRow B e 1 v n xs) (hne : e ≠ t) : v.ownBlock ≠ some g := by
  rcases ho.2 with ⟨rfl, _⟩ | ⟨g', cap, cur, rfl, _, hh, _⟩
  · simp [Value.ownBlock]
  · intro he
    have : g' = g := by simpa [Value.ownBlock] using he
    subst this
    unfold At at h
    rw [hh] at h
    injection h with h
    injection h with _ ht
    exact hne ht
theorem At.grown {row : Option Nat} (h : At w g t cs) (hb : w.grownBy w' row) (hg : row ≠ some g) : At w' g t cs := (hb.block g h.lt (fun e => hg e.symm)).trans h
end
theorem below_own {w w' : World} {B e n : Nat} {v : Value} {xs : List Value} (ho : w.ownsRow B e 1 v n xs) (hb : w.grownBy w' v.ownBlock) (hB : B ≤ w.heap.size) : Below B w w' :=
  (Below.refl B w).grown hb hB (fun k hk => (ho.lt k hk).1)
theorem own_put {w : World} {B e n g i t : Nat} {v u : Value} {xs : List Value} {cs : Array Value} (ho : w.ownsRow B e 1 v n xs) (h : At w g t cs) (hne : e ≠ t) : (w.setCell ⟨g, i, none⟩ u).ownsRow B e 1 v n xs := by
  have hn := h.own_ne ho hne
  refine ⟨ho.1, ?_⟩
  rcases ho.2 with h0 | ⟨g', cap, cur, hv, hB, hg, hr⟩
  · exact .inl h0
  · refine .inr ⟨g', cap, cur, hv, hB, ?_, hr⟩
    rw [Below.heap_setCell w ⟨g, i, none⟩ u g' ?_]
    · exact hg
    · rintro rfl
      exact hn (by rw [hv]; simp [Value.ownBlock])
/-- 'p.f = append(p.f, x)' in a region that draws its order: p's block is the call's own, and so is the row -/
theorem step_app1 {P : Program} {ops : Array Oper} {o : Oper} {a : Act} {K : Act → World → Prop} {Q : Exit → Act → World → Prop} {E : Prop} {w0 : World} (hgd : o.guard = none) (s x : Operand) (t e : TypeId)
    (ho : o.op = .call { callee := .builtin .append, args := #[s, x], argTypes := #[t, t] }) (ht : P.underlying t = some (.slice e)) {z : Value} {bytes : Nat} (hI : Elem1 P e z bytes) (hzs : z.cells.size = 1)
    (B : Nat) (v : Value) (n : Nat) (xs : List Value) (u : Value) (hs : a.eval s = v) (hx : a.eval x = .slice (some ⟨w0.heap.size, 0, none⟩) 1 1) (hown : w0.ownsRow B e 1 v n xs)
    (hu : u.oneCell' = true) (hb : (n + 1) * bytes ≤ 140737488355328) (hn : n + 1 ≤ 140737488355328) (hbase : B ≤ w0.heap.size)
    (g t' i : Nat) (cs : Array Value) (hat : At w0 g t' cs) (hne : e ≠ t') (v0 : Value) (hi : cs[i]? = some v0)
    (h : ∀ gg cap w1, w1.ownsRow B e 1 (.slice (some ⟨gg, 0, none⟩) (n + 1) cap) (n + 1) (xs ++ [u]) → At w1 g t' cs → Below B w0 w1 → w1.cell? ⟨g, i, none⟩ = some v0 → w1.frozen? ⟨g, i, none⟩ = false →
      K (a.put o.dst (.slice (some ⟨gg, 0, none⟩) (n + 1) cap)) w1) :
    if Region.wanted o (yielded ops a.tmps) = true then Oper.wp P o a ((w0.alloc (.cells #[u] e)).drew) K Q else E := by
  obtain ⟨i0, hi0, hz, h1, h2⟩ := info_parts hI
  refine step_append_lies _ hgd s x t ho B e i0 z 1 bytes ht hi0 hz h1 h2 hzs (by decide) v n xs hs ((hown.alloc _).drew) ⟨w0.heap.size, 0, none⟩ 1 1 [u] hx rfl
    (World.news_of_block (cs := #[u]) (t := e) (fr := (0, 0)) (heap_alloc_new w0 _)) (by simpa using hu) (by decide) (by unfold maxLen; omega) hb (by simp; omega) (w0.heap.size + 1) (by simp) ?_
  intro gg cap w1 hown1 hgrow _ _
  have ha := ((hat.alloc (.cells #[u] e)).drew).grown hgrow (hat.own_ne hown hne)
  refine h gg cap w1 hown1 ha ?_ (ha.cells i hi) (ha.ice i)
  refine (((Below.refl B w0).alloc hbase (.cells #[u] e)).drew).grown hgrow (by simp; omega) (fun k hk => (hown.lt k hk).1)
end Go.Proofs.Ytnoabmkmnddkkaa
