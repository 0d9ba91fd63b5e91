/- Layer 12: rows beside a table; what has been got. -/
import Derived.Test.YtchjhpipiooibaaLaw12b
import Derived.Test.YtchjhpipiooibaaMath19
import Derived.Maps.AppendAt
namespace Go.Proofs.Ytchjhpipiooibaa
open Go.RowKit Go
set_option linter.unusedVariables false
set_option linter.unusedSimpArgs false
/-- 'out = append(out, x)', x of one cell: where the new row lies -/
theorem wpList_app1L {P : Program} {w0 : World} {ops : Array Oper} {rest : List Oper} {o : Oper} {a : Act} {Q : Exit → Act → World → Prop} (hgd : o.guard = none) (s x : Operand) (t e : TypeId)
    (ho : o.op = .call { callee := .builtin .append, args := #[s, x], argTypes := #[t, t] }) (ht : P.underlying t = some (.slice e)) {z : Value} {bytes : Nat} (hI : Elem1 P e z bytes) (hzs : z.cells.size = 1)
    (base : Nat) (v : Value) (n : Nat) (xs : List Value) (u : Value) (hs : a.eval s = v) (hx : a.eval x = .slice (some ⟨w0.heap.size, 0, none⟩) 1 1) (hown : w0.ownsRow base e 1 v n xs)
    (hu : u.oneCell' = true) (hb : (n + 1) * bytes ≤ 140737488355328) (hn : n + 1 ≤ 140737488355328) (hbase : base ≤ w0.heap.size)
    (h : ∀ A c w', w'.ownsRow base e 1 (.slice A (n + 1) c) (n + 1) (xs ++ [u]) → w0.grownBy w' v.ownBlock → ((Value.slice A (n + 1) c).ownBlock = v.ownBlock ∨ (Value.slice A (n + 1) c).ownBlock = some (w0.heap.size + 1)) → wpList P ops Q rest (a.put o.dst (.slice A (n + 1) c)) w') :
    wpList P ops Q (o :: rest) a (w0.alloc (.cells #[u] e)) := by
  obtain ⟨i, hi, hz, h1, h2⟩ := info_parts hI
  refine wpList_append_own_at (w0.alloc (.cells #[u] e)) hgd s x t ho base e i z 1 bytes ht hi hz h1 h2 hzs (by decide) v n xs hs (hown.alloc _) ⟨w0.heap.size, 0, none⟩ 1 1 [u] hx rfl ?_ ?_ ?_ hb ?_ ?_
  · intro j y hj
    match j, hj with
    | 0, hj => simp at hj; subst hj; simp [Addr.add]
  · intro y hy; simp at hy; subst hy; exact hu
  · unfold maxLen; omega
  · simp; omega
  · intro v' w' hown' hgrow hnil hloc
    obtain ⟨A, c, rfl⟩ := own_slice_of hown'
    refine h A c w' hown' ⟨hgrow.os, hgrow.tape, hgrow.output, Nat.le_trans (by simp) hgrow.size, fun i hi hne => ?_⟩ (by simpa using hloc)
    exact (hgrow.block i (by simp; omega) hne).trans (Below.heap_alloc w0 _ i hi)
/-- two rows in different blocks -/
def Apart (v u : Value) : Prop := v.ownBlock ≠ u.ownBlock ∨ v.ownBlock = none
theorem own_block_lt {w : World} {B e s n : Nat} {v : Value} {xs : List Value} (ho : w.ownsRow B e s v n xs) {b : Nat} (h : v.ownBlock = some b) : b < w.heap.size := by
  rcases ho.2 with ⟨rfl, _⟩ | ⟨g, cap, cur, rfl, _, hg, _⟩
  · simp [Value.ownBlock] at h
  · have : g = b := by simpa [Value.ownBlock] using h
    subst this
    exact (Array.getElem?_eq_some_iff.1 hg).1
theorem rows_apart {w : World} {B e e' s s' n n' : Nat} {v v' : Value} {xs xs' : List Value} (h : w.ownsRow B e s v n xs) (k : w.ownsRow B e' s' v' n' xs') (hne : e ≠ e') : Apart v v' := by
  rcases h.2 with ⟨rfl, _⟩ | ⟨g, cap, cur, rfl, _, hg, _⟩
  · exact .inr rfl
  · refine .inl fun he => ?_
    rcases k.2 with ⟨rfl, _⟩ | ⟨g', cap', cur', rfl, _, hg', _⟩
    · simp [Value.ownBlock] at he
    · have : g = g' := by simpa [Value.ownBlock] using he
      subst this
      rw [hg] at hg'
      injection hg' with hg'
      injection hg' with _ ht
      exact hne ht
theorem Apart.flip {v u : Value} (h : Apart v u) : Apart u v := by
  unfold Apart at *
  rcases h with h | h
  · exact .inl (Ne.symm h)
  · cases hu : u.ownBlock with
    | none => exact .inr rfl
    | some b => exact .inl (by rw [h]; simp)
/-- a row that has been appended to lies apart from what lay apart -/
theorem Apart.grown {w : World} {B e s n : Nat} {v u v' : Value} {xs : List Value} (h : Apart v u) (ho : w.ownsRow B e s u n xs) (hl : v'.ownBlock = v.ownBlock ∨ v'.ownBlock = some (w.heap.size + 1)) : Apart v' u := by
  rcases hl with hl | hl
  · unfold Apart at *; rw [hl]; exact h
  · refine .inl fun he => ?_
    rw [hl] at he
    have := own_block_lt ho he.symm
    omega
theorem own_other {w w' : World} {B e s n : Nat} {v u : Value} {xs : List Value} (ho : w.ownsRow B e s u n xs) (hb : w.grownBy w' v.ownBlock) (h : Apart v u) : w'.ownsRow B e s u n xs := by
  refine ⟨ho.1, ?_⟩
  rcases ho.2 with h0 | ⟨g', cap, cur, rfl, hB, hg, hr⟩
  · exact .inl h0
  · refine .inr ⟨g', cap, cur, rfl, hB, ?_, hr⟩
    refine (hb.block g' (Array.getElem?_eq_some_iff.1 hg).1 fun he => ?_).trans hg
    unfold Apart at h
    rcases h with h | h
    · exact h (by rw [← he]; rfl)
    · rw [h] at he; cases he
/-- a table stays while a row is appended to -/
theorem PTab.row {W0 w w' : World} {g : Nat} {T : List (Lbs × Int)} (h : PTab W0 w g T) {e s n : Nat} {v : Value} {xs : List Value} (ho : w.ownsRow W0.heap.size e s v n xs) (hg : w.grownBy w' v.ownBlock) (hne : e ≠ 58) : PTab W0 w' g T := by
  obtain ⟨mv, S, h2⟩ := h
  refine ⟨mv, ats_row S ho hg (by intro y hy; simp at hy; subst hy; exact hne), ?_⟩
  rcases h2 with h2 | ⟨bm, D, he, hB, hm, hrep⟩
  · exact .inl h2
  · refine .inr ⟨bm, D, he, hB, map_kept (p := isRowO e) (g := bm + 1) hm (Kept.row ho hg) (by omega) (fun _ _ => rfl), hrep⟩
theorem own_over {W0 w w' : World} {g : Nat} {T : List (Lbs × Int)} (hp : PTab W0 w g T) {B e s n : Nat} {v : Value} {xs : List Value} (ho : w.ownsRow B e s v n xs) (hk : Kept isMapO g w w') (hne : e ≠ 58) : w'.ownsRow B e s v n xs := by
  obtain ⟨mv, S, _⟩ := hp
  exact own_kept ho hk (row_ne ho (S.get (i := 0) rfl) hne) (fun _ => rfl)
/-- what has been put is got, one behind the other -/
def Got (m : List UInt8) (a : List Int) (N : List Nm) : Prop :=
  a.length = N.length ∧ ∀ j (h : j < N.length) (h' : j < a.length), ∃ e : Nat, pkGet m a[j] = ⟨N[j].l, e, 0⟩ ∧ (∀ (h2 : j + 1 < a.length), a[j + 1] = (e : Int)) ∧ (j + 1 = a.length → m.length = e)
theorem got_nil (m : List UInt8) : Got m [] [] := ⟨rfl, fun j h => by simp at h⟩
theorem Got.step {m : List UInt8} {a : List Int} {N : List Nm} (h : Got m a N) (o : List UInt8) (y : Nm) (hg : pkGet (m ++ o) m.length = ⟨y.l, m.length + o.length, 0⟩) : Got (m ++ o) (a ++ [(m.length : Int)]) (N ++ [y]) := by
  refine ⟨by simp [h.1], fun j hj hj' => ?_⟩
  have hl := h.1
  by_cases hlt : j < a.length
  · obtain ⟨e, h1, h2, h3⟩ := h.2 j (by omega) hlt
    refine ⟨e, ?_, fun h4 => ?_, fun h4 => ?_⟩
    · rw [List.getElem_append_left hlt, List.getElem_append_left (show j < N.length by omega)]
      exact pkGet_mono o h1 rfl
    · by_cases h5 : j + 1 < a.length
      · rw [List.getElem_append_left h5]; exact h2 h5
      · have h6 : j + 1 = a.length := by simp at h4; omega
        simp only [h6, List.getElem_concat_length]
        rw [h3 h6]
    · simp at h4; omega
  · have h6 : j = a.length := by simp at hj'; omega
    subst h6
    refine ⟨m.length + o.length, ?_, fun h4 => by simp at h4, fun _ => by simp⟩
    simp only [List.getElem_concat_length]
    have : (N ++ [y])[a.length]'(by simp; omega) = y := by
      rw [List.getElem_append_right (by omega)]
      simp [hl]
    rw [this]
    exact hg
theorem putO_step {x : List UInt8} {T : List (Lbs × Int)} {n : Lbs} (h : TInv x T) (hn : checkL n = 0) :
    ∃ o, (putO true n x.length T).1 = o ∧ TInv (x ++ o) (putO true n x.length T).2.1 ∧ pkGet (x ++ o) x.length = ⟨n, x.length + o.length, 0⟩ ∧ o.length ≤ sizeL n := by
  refine ⟨pkOut T n, ?_⟩
  unfold putO
  rw [if_pos hn, pkPut_out _ n _ T T (fun _ _ => rfl)]
  have := put_step h hn (true && decide (0 ≤ (x.length : Int)))
  exact ⟨rfl, this.1, this.2, pkOut_size T n⟩
theorem putO_plain {x : List UInt8} {n : Lbs} (hn : checkL n = 0) :
    (putO false n x.length []).1 = wireB n ∧ pkGet (x ++ wireB n) x.length = ⟨n, x.length + (wireB n).length, 0⟩ ∧ (wireB n).length = sizeL n := by
  have h0 : TInv x [] := fun n to h => by simp at h
  have := (put_step h0 hn false).2
  rw [pkOut_nil] at this
  refine ⟨?_, this, wireB_len n⟩
  unfold putO
  rw [if_pos hn, Bool.false_and, pkPut_none]
theorem elemName : Elem1 Try.prog 24 (.slice none 0 0) 24 := by unfold Elem1; kernel_rfl
theorem elemInt12 : Elem1 Try.prog 3 (.int .i64 0) 8 := by unfold Elem1; kernel_rfl
theorem own_cells {w : World} {B e n : Nat} {A : Option Addr} {c : Nat} {xs : List Value} (h : w.ownsRow B e 1 (.slice A n c) n xs) (h0 : 0 < n) : ∃ b, A = some ⟨b, 0, none⟩ ∧ b < w.heap.size ∧ ∀ j, j < n → w.cell? ⟨b, j, none⟩ = xs[j]? := by
  rcases h.2 with ⟨_, h1⟩ | ⟨g, cap, cur, he, _, hg, _⟩
  · omega
  · injection he with he
    subst he
    exact ⟨g, rfl, (Array.getElem?_eq_some_iff.1 hg).1, fun j hj => h.cellAt j (by omega)⟩
/-- what a round of the law's second half has -/
def RoundP (W wr : World) (A9 A10 A11 : Option Addr) (xs ys : ByteArray) (Nl j : Nat) : Prop :=
  ∃ (b9 b10 b11 : Nat) (z : Nm) (e1 e2 : Nat) (p1 p2 : Int), A9 = some ⟨b9, 0, none⟩ ∧ A10 = some ⟨b10, 0, none⟩ ∧ A11 = some ⟨b11, 0, none⟩ ∧
    (∀ w', Below wr.heap.size wr w' → w'.cell? ⟨b9, j, none⟩ = some (.slice z.A z.n z.c) ∧ w'.cell? ⟨b10, j, none⟩ = some (.int .i64 p1) ∧ w'.cell? ⟨b11, j, none⟩ = some (.int .i64 p2) ∧ TextsAt w' z.A z.n z.l) ∧ z.n ≤ 400 ∧ z.l.length ≤ 400 ∧
    (∀ w, Calls Try.prog 7 #[.string xs, .int .i64 p1] w fun e w' => ∃ A c, e = .returned (.tuple #[.slice A z.l.length c, .int .i64 e1, .int .i64 0]) ∧ TextsAt w' A z.l.length z.l ∧ Below w.heap.size w w') ∧
    (∀ w, Calls Try.prog 7 #[.string ys, .int .i64 p2] w fun e w' => ∃ A c, e = .returned (.tuple #[.slice A z.l.length c, .int .i64 e2, .int .i64 0]) ∧ TextsAt w' A z.l.length z.l ∧ Below w.heap.size w w') ∧
    ((j + 1 < Nl ∧ ∀ w', Below wr.heap.size wr w' → w'.cell? ⟨b10, j + 1, none⟩ = some (.int .i64 e1) ∧ w'.cell? ⟨b11, j + 1, none⟩ = some (.int .i64 e2)) ∨ (j + 1 = Nl ∧ e1 = xs.size ∧ e2 = ys.size))
theorem got_round {W wr : World} {A9 A10 A11 : Option Addr} {c9 c10 c11 Nl : Nat} {N : List Nm} {a b : List Int} {x y : List UInt8} {xs ys : ByteArray} (hbw : Below W.heap.size W wr)
    (ho9 : wr.ownsRow W.heap.size 24 1 (.slice A9 Nl c9) Nl (N.map Nm.v)) (ho10 : wr.ownsRow W.heap.size 3 1 (.slice A10 Nl c10) Nl (intVs .i64 a)) (ho11 : wr.ownsRow W.heap.size 3 1 (.slice A11 Nl c11) Nl (intVs .i64 b))
    (hNl : Nl = N.length) (hNok : ∀ z ∈ N, NmOk W z ∧ checkL z.l = 0) (hGx : Got x a N) (hGy : Got y b N) (hxd : xs.data.toList = x) (hyd : ys.data.toList = y) (hxz : xs.size = x.length) (hyz : ys.size = y.length) (hx7 : xs.size ≤ 70000) (hy7 : ys.size ≤ 70000)
    (j : Nat) (hj : j < Nl) : RoundP W wr A9 A10 A11 xs ys Nl j := by
  obtain ⟨b9, h9, hb9, hc9⟩ := own_cells ho9 (by omega)
  obtain ⟨b10, h10, hb10, hc10⟩ := own_cells ho10 (by omega)
  obtain ⟨b11, h11, hb11, hc11⟩ := own_cells ho11 (by omega)
  have hla := hGx.1
  have hlb := hGy.1
  have hjN : j < N.length := by omega
  have hja : j < a.length := by omega
  have hjb : j < b.length := by omega
  obtain ⟨e1, hg1, hn1, hl1⟩ := hGx.2 j hjN hja
  obtain ⟨e2, hg2, hn2, hl2⟩ := hGy.2 j hjN hjb
  obtain ⟨⟨htx, _, _⟩, hck⟩ := hNok _ (List.getElem_mem hjN)
  have hlz := size_len N[j].l
  have hs := (checkL_ok.1 hck).2
  have hn := htx.1
  refine ⟨b9, b10, b11, N[j], e1, e2, a[j], b[j], h9, h10, h11, fun w' hb => ⟨?_, ?_, ?_, (htx.below hbw).below hb⟩, by omega, by omega, fun w => ?_, fun w => ?_, ?_⟩
  · rw [hb.cell (p := ⟨b9, j, none⟩) hb9, hc9 j hj, List.getElem?_map, List.getElem?_eq_getElem hjN]; rfl
  · rw [hb.cell (p := ⟨b10, j, none⟩) hb10, hc10 j hj]; unfold intVs; rw [List.getElem?_map, List.getElem?_eq_getElem hja]; rfl
  · rw [hb.cell (p := ⟨b11, j, none⟩) hb11, hc11 j hj]; unfold intVs; rw [List.getElem?_map, List.getElem?_eq_getElem hjb]; rfl
  · have := pGet_any xs hx7 a[j] w
    rw [hxd, hg1] at this
    exact this
  · have := pGet_any ys hy7 b[j] w
    rw [hyd, hg2] at this
    exact this
  · by_cases h1 : j + 1 < Nl
    · refine .inl ⟨h1, fun w' hb => ⟨?_, ?_⟩⟩
      · rw [hb.cell (p := ⟨b10, j + 1, none⟩) hb10, hc10 _ h1]; unfold intVs; rw [List.getElem?_map, List.getElem?_eq_getElem (show j + 1 < a.length by omega), hn1 (by omega)]; rfl
      · rw [hb.cell (p := ⟨b11, j + 1, none⟩) hb11, hc11 _ h1]; unfold intVs; rw [List.getElem?_map, List.getElem?_eq_getElem (show j + 1 < b.length by omega), hn2 (by omega)]; rfl
    · exact .inr ⟨by omega, by rw [hxz]; exact (hl1 (by omega)).symm, by rw [hyz]; exact (hl2 (by omega)).symm⟩
end Go.Proofs.Ytchjhpipiooibaa
