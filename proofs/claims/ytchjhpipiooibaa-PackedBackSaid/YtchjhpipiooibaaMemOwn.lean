/- Rows of the call's own beside blocks that are known. -/
import Derived.Test.YtchjhpipiooibaaMemRow
namespace Go.Proofs.Ytchjhpipiooibaa
open Go.RowKit Go
set_option linter.unusedVariables false
theorem Ats.of_below {B : Nat} {w0 w : World} (h : Below B w0 w) (hB : B ≤ w.heap.size) : Ats B w0 w [] := ⟨h, hB, fun x hx => by simp at hx, by simp⟩
theorem own_grown {w w' : World} {B e n : Nat} {v : Value} {xs : List Value} {row : Option Nat} (ho : w.ownsRow B e 1 v n xs) (hb : w.grownBy w' row) (hne : v.ownBlock ≠ row ∨ v.ownBlock = none) : w'.ownsRow B e 1 v n xs := by
  refine ⟨ho.1, ?_⟩
  rcases ho.2 with h0 | ⟨g', cap, cur, hv, hB, hg, hr⟩
  · exact .inl h0
  · refine .inr ⟨g', cap, cur, hv, hB, ?_, hr⟩
    have hlt : g' < w.heap.size := (Array.getElem?_eq_some_iff.1 hg).1
    rw [hb.block g' hlt ?_]
    · exact hg
    · intro e
      rw [hv] at hne
      rcases hne with hne | hne
      · exact hne (by simp [Value.ownBlock, e])
      · simp [Value.ownBlock] at hne
section
variable {P : Program} {ops : Array Oper} {rest : List Oper} {o : Oper} {a : Act} {Q : Exit → Act → World → Prop} {B : Nat} {w0 w : World} {L : List (Nat × TypeId × Array Value)}
/-- a new variable; the world goes on -/
theorem wpList_allocT (hgd : Region.wanted o (yielded ops a.tmps) = true) (ty : TypeId) (ho : o.op = .alloc ty) (z : Value) (hz : (P.info? ty).map (·.zero) = some (some z)) (S : Ats B w0 w L)
    (h : ∀ g w1, Ats B w0 w1 ((g, ty, z.cells) :: L) → Below w.heap.size w w1 → wpList P ops Q rest (a.put o.dst (.pointer (some ⟨g, 0, none⟩))) w1) : wpList P ops Q (o :: rest) a w := by
  refine wpList_want hgd fun K hK => ?_
  have := hK _ _ (h _ _ (S.add ty z.cells) ((Below.refl _ w).alloc (Nat.le_refl _) _))
  unfold Oper.wp execOp
  cases hq : P.info? ty with
  | none => simp [hq] at hz
  | some i =>
    have hzi : i.zero = some z := by simpa [hq] using hz
    simp only [ho, Sem.run_bind, Instr.alloc, zeroValue, typeInfo, newVar, newRow]
    simp [hq, hzi, Oper.upon_value, this]
/-- the whole of it, written; what else there is stays -/
theorem wpList_storeT (hgd : Region.wanted o (yielded ops a.tmps) = true) (ty : TypeId) (x y : Operand) (ho : o.op = .store ty x y) (S : Ats B w0 w L) (g : Nat) (hx : a.eval x = .pointer (some ⟨g, 0, none⟩)) (cs' : Array Value) (hy : a.eval y = .agg cs') (i : Nat) (t : TypeId) (cs : Array Value)
    (hi : L[i]? = some (g, t, cs)) (hn : (P.info? ty).map (·.size) = some cs'.size) (hs : cs.size = cs'.size) (h1 : cs'.all (·.oneCell') = true)
    (h : ∀ w1, Ats B w0 w1 (L.set i (g, t, cs')) → w.grownBy w1 (some g) → wpList P ops Q rest (a.put o.dst undef) w1) : wpList P ops Q (o :: rest) a w :=
  wpList_want hgd fun K hK => wp_store_row ty x y ho g cs' hx hy t cs (S.get hi) hn hs h1 (hK _ _ (h _ (S.grow hi (grown_setRow w g cs') (setRow_heap w g cs cs' t (0, 0) (S.get hi))) (grown_setRow w g cs')))
/-- 'out = append(out, x)' beside blocks of other types -/
theorem wpList_app1S {w1 : World} (hgd : o.guard = none) (s x : Operand) (t e : TypeId)
    (ho : o.op = .call { callee := .builtin .append, args := #[s, x], argTypes := #[t, t] }) (ht : P.underlying t = some (.slice e)) {z : Value} {bytes : Nat} (hI : Elem1 P e z bytes) (hzs : z.cells.size = 1)
    (base : Nat) (v : Value) (n : Nat) (xs : List Value) (u : Value) (hs : a.eval s = v) (hx : a.eval x = .slice (some ⟨w1.heap.size, 0, none⟩) 1 1) (hown : w1.ownsRow base e 1 v n xs) (S : Ats B w0 w1 L) (hne : ∀ y ∈ L, e ≠ y.2.1) (hBb : B ≤ base)
    (hu : u.oneCell' = true) (hb : (n + 1) * bytes ≤ 140737488355328) (hn : n + 1 ≤ 140737488355328) (hbase : base ≤ w1.heap.size)
    (h : ∀ v' w', w'.ownsRow base e 1 v' (n + 1) (xs ++ [u]) → Ats B w0 w' L → wpList P ops Q rest (a.put o.dst v') w') : wpList P ops Q (o :: rest) a (w1.alloc (.cells #[u] e)) := by
  obtain ⟨i, hi, hz, h1, h2⟩ := info_parts hI
  refine wpList_append_own (w1.alloc (.cells #[u] e)) hgd s x t ho base e i z 1 bytes ht hi hz h1 h2 hzs (by decide) v n xs hs (hown.alloc _) ⟨w1.heap.size, 0, none⟩ 1 1 [u] hx rfl ?_ ?_ ?_ hb ?_ ?_
  · intro j y hj
    match j, hj with
    | 0, hj => simp at hj; subst hj; simp [Addr.add]
  · intro y hy; simp at hy; subst hy; exact hu
  · unfold maxLen; omega
  · simp; omega
  · intro v' w' hown' hgrow hnil
    refine h v' w' hown' ?_
    have Sa := S.add e #[u]
    refine ⟨S.below.trans ?_, ?_, fun y hy => ⟨(S.at_ y hy).1, ?_⟩, S.apart⟩
    · refine ((Below.refl B w1).alloc S.big _).grown hgrow (by simp; have := S.big; omega) (fun k hk => ?_)
      exact Nat.le_trans hBb (hown.lt k hk).1
    · have := hgrow.size
      simp at this
      have := S.big
      omega
    · exact ((S.at_ y hy).2.alloc _).grown hgrow ((S.at_ y hy).2.own_ne hown (hne y hy))
end
end Go.Proofs.Ytchjhpipiooibaa
