import Derived.Test.YtchjhpipiooibaaMem
import Derived.ChangeSlices
namespace Go.Proofs.Ytchjhpipiooibaa
open Go.RowKit Go
/- Rows of integers: a slice value that reads as a list of integers of one kind; nil and empty let in. -/
def intVs (q : IntKind) (l : List Int) : List Value := l.map (Value.int q)
theorem intVs_app (q : IntKind) (a : List Int) (x : Int) : intVs q (a ++ [x]) = intVs q a ++ [.int q x] := by simp [intVs]
theorem intVs_len (q : IntKind) (a : List Int) : (intVs q a).length = a.length := by simp [intVs]
theorem ownsRow_below {w w' : World} {B e size n : Nat} {v : Value} {xs : List Value} (h : w.ownsRow B e size v n xs) (hb : Below w.heap.size w w') : w'.ownsRow B e size v n xs := by
  refine ⟨h.1, ?_⟩
  rcases h.2 with h0 | ⟨g, cap, cur, hv, hB, hg, hr⟩
  · exact .inl h0
  · refine .inr ⟨g, cap, cur, hv, hB, ?_, hr⟩
    rw [hb.block g (Array.getElem?_eq_some_iff.1 hg).1]
    exact hg
def IntsAt (w : World) (q : IntKind) (A : Option Addr) (n : Nat) (l : List Int) : Prop :=
  n = l.length ∧ (0 < n → ∃ b o, A = some ⟨b, o, none⟩ ∧ b < w.heap.size ∧ ∀ j (h : j < l.length), w.cell? ⟨b, o + j, none⟩ = some (.int q l[j]))
theorem IntsAt.below {w w' : World} {q : IntKind} {A : Option Addr} {n : Nat} {l : List Int} (h : IntsAt w q A n l) (hb : Below w.heap.size w w') : IntsAt w' q A n l := by
  refine ⟨h.1, fun h0 => ?_⟩
  obtain ⟨b, o, hA, hlt, hc⟩ := h.2 h0
  exact ⟨b, o, hA, Nat.lt_of_lt_of_le hlt hb.size, fun j hj => by rw [hb.cell (p := ⟨b, o + j, none⟩) hlt]; exact hc j hj⟩
theorem IntsAt.of_own {w : World} {q : IntKind} {base e n : Nat} {v : Value} {l : List Int} (h : w.ownsRow base e 1 v n (intVs q l)) : ∃ A c, v = .slice A n c ∧ IntsAt w q A n l := by
  have hl : n = l.length := by have := h.1; simp [intVs] at this; omega
  rcases h.2 with ⟨rfl, h0⟩ | ⟨g, cap, cur, rfl, _, hg, _⟩
  · have : n = 0 := h0
    subst this
    exact ⟨none, 0, rfl, hl, fun h => absurd h (by omega)⟩
  · refine ⟨_, _, rfl, hl, fun h0 => ⟨g, 0, rfl, (Array.getElem?_eq_some_iff.1 hg).1, fun j hj => ?_⟩⟩
    rw [Nat.zero_add, h.cellAt j (by omega)]
    simp [intVs, hj]
theorem own_appInt {w : World} {q : IntKind} {base e : Nat} {v : Value} {L : List Int} {x : Int} (h : w.ownsRow base e 1 v (L.length + 1) (intVs q L ++ [Value.int q x])) :
    w.ownsRow base e 1 v (L ++ [x]).length (intVs q (L ++ [x])) := by
  rw [intVs_app]
  simpa using h
theorem own_appInt1 {w : World} {q : IntKind} {base e n : Nat} {v : Value} {L : List Int} {x : Int} (h : w.ownsRow base e 1 v n (intVs q L ++ [Value.int q x])) :
    w.ownsRow base e 1 v n (intVs q (L ++ [x])) := by
  rw [intVs_app]; exact h
/-- a row of integers that came in -/
theorem open_intsAt {H : Type} {enc : TypeId × Value → H} {P : Program} {W : World} {t e : TypeId} {q : IntKind} {A : Option Addr} {n c : Nat} {d : DataW H} {p : List MemPlace} (ht : P.underlying t = some (.slice e)) (he : P.underlying e = some (.int q)) (hc : P.cellsOf e = 1)
    (hk : DataW.Trod enc P W 0 (fun _ => true) true t (.slice A n c) d p) :
    ∃ l, IntsAt W q A n l ∧ n ≤ c ∧ c ≤ maxLen ∧ (∀ x ∈ l, (Lit.int q x).wf = true) := by
  obtain ⟨fuel, hf⟩ := hk
  rcases Go.ChangeShapes.open_ints ht he hc hf with ⟨hcs, _⟩ | ⟨a, len, cap, zs, hcs, _, hl, hm, hz, hx, hcell, hws⟩
  · simp [Value.cells] at hcs
    obtain ⟨rfl, rfl, rfl⟩ := hcs
    exact ⟨[], ⟨rfl, fun h => absurd h (by omega)⟩, Nat.le_refl _, by decide, by simp⟩
  · simp [Value.cells] at hcs
    obtain ⟨rfl, rfl, rfl⟩ := hcs
    simp only [if_true] at hz
    have hln : (zs.take n).length = n := by rw [List.length_take]; omega
    refine ⟨zs.take n, ⟨hln.symm, fun h0 => ?_⟩, hl, hm, fun x hx2 => hws x (List.mem_of_mem_take hx2)⟩
    have h0' := hcell 0 (by omega)
    obtain ⟨b, o, sp⟩ := a
    have hspot : sp = none := by simpa [Addr.add] using World.cell?_spot h0'
    subst hspot
    refine ⟨b, o, rfl, by simpa [Addr.add] using cell_lt h0', fun j hj => ?_⟩
    have hj' : j < zs.length := by omega
    have h := hcell j hj'
    rw [Go.WideShapes.add_plain] at h
    rw [h]
    simp [List.getD, hj']
/-- 'out = append(out, xs...)', xs laid right ahead in a block of its own -/
theorem wpList_appN {P : Program} {w0 : World} {ops : Array Oper} {rest : List Oper} {o : Oper} {a : Act} {Q : Exit → Act → World → Prop} (hgd : o.guard = none) (s x : Operand) (t e : TypeId)
    (ho : o.op = .call { callee := .builtin .append, args := #[s, x], argTypes := #[t, t] }) (ht : P.underlying t = some (.slice e)) {z : Value} {bytes : Nat} (hI : Elem1 P e z bytes) (hzs : z.cells.size = 1)
    (base : Nat) (v : Value) (n m : Nat) (xs us : List Value) (hs : a.eval s = v) (hm : us.length = m) (hx : a.eval x = .slice (some ⟨w0.heap.size, 0, none⟩) m m) (hown : w0.ownsRow base e 1 v n xs)
    (hu : ∀ u ∈ us, u.oneCell' = true) (_h0 : m ≤ 1000) (hb : (n + m) * bytes ≤ 140737488355328) (hn : n + m ≤ 140737488355328) (hbase : base ≤ w0.heap.size)
    (h : ∀ v' w', w'.ownsRow base e 1 v' (n + m) (xs ++ us) → Below base w0 w' → wpList P ops Q rest (a.put o.dst v') w') : wpList P ops Q (o :: rest) a (w0.alloc (.cells us.toArray e)) := by
  obtain ⟨i, hi, hz, h1, h2⟩ := info_parts hI
  refine wpList_append_own (w0.alloc (.cells us.toArray e)) hgd s x t ho base e i z 1 bytes ht hi hz h1 h2 hzs (by decide) v n xs hs (hown.alloc _) ⟨w0.heap.size, 0, none⟩ m m us hx (by rw [hm, Nat.mul_one]) ?_ ?_ ?_ hb ?_ ?_
  · intro j y hj
    rw [show (⟨w0.heap.size, 0, none⟩ : Addr).add j = ⟨w0.heap.size, j, none⟩ from addr_add0 _ _, World.cell?_alloc_mark]
    simpa using hj
  · exact hu
  · unfold maxLen; omega
  · simp; omega
  · intro v' w' hown' hgrow hnil
    refine h v' w' hown' ?_
    refine ((Below.refl base w0).alloc hbase _).grown hgrow (by simp; omega) (fun k hk => ?_)
    exact (hown.lt k hk).1
theorem ints_ne {la lb : List Int} {k : Nat} (ka : k < la.length) (kb : k < lb.length) (h : la[k] ≠ lb[k]) : la ≠ lb := by
  intro e; subst e; exact h rfl
theorem ints_step {la lb : List Int} {k : Nat} (h : la.take k = lb.take k) (ka : k < la.length) (kb : k < lb.length) (e : la[k] = lb[k]) : la.take (k + 1) = lb.take (k + 1) := by
  rw [List.take_succ_eq_append_getElem ka, List.take_succ_eq_append_getElem kb, h, e]
end Go.Proofs.Ytchjhpipiooibaa
