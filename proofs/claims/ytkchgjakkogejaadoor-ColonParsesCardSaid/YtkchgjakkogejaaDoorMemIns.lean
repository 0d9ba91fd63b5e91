import Derived.Test.YtkchgjakkogejaaDoorMem03
import Derived.Laws.CopyOwn
import Derived.Lib.AppendZerosOnto
import Derived.Lib.AppendZeros
import Derived.Lib.Overlaps
namespace Go.Proofs.YtkchgjakkogejaaDoor
open Go.RowKit Go
theorem only_setRow (w : World) (g : Nat) (cs : Array Value) : w.grownBy (w.setRow g cs) (some g) :=
  ⟨rfl, rfl, rfl, by simp [World.setRow], fun k _ hne => setRow_other w g k cs (fun e => hne (by rw [e]))⟩
theorem only_drew {a w : World} {row : Option Nat} (h : a.grownBy w row) : a.grownBy w.drew row := ⟨h.os, h.tape, h.output, h.size, h.block⟩
theorem only_of_drew {w w' : World} {row : Option Nat} (h : w.drew.grownBy w' row) : w.grownBy w' row := ⟨h.os, h.tape, h.output, h.size, h.block⟩
theorem only_alloc {a w : World} {row : Option Nat} (h : a.grownBy w row) (o : Obj) : a.grownBy (w.alloc o) row :=
  ⟨h.os, h.tape, h.output, Nat.le_trans h.size (by simp), fun i hi hne => (Below.heap_alloc w o i (Nat.lt_of_lt_of_le hi h.size)).trans (h.block i hi hne)⟩
theorem only_next {a w w' : World} {row : Option Nat} (h : a.grownBy w row) {g : Nat} (k : w.grownBy w' (some g)) (hg : row = some g ∨ a.heap.size ≤ g) : a.grownBy w' row :=
  ⟨k.os.trans h.os, k.tape.trans h.tape, k.output.trans h.output, Nat.le_trans h.size k.size, fun i hi hne => (k.block i (Nat.lt_of_lt_of_le hi h.size) (by
    rintro e
    injection e with e
    rcases hg with hg | hg
    · exact hne (by rw [hg, e])
    · omega)).trans (h.block i hi hne)⟩
theorem wp_copy_at {P : Program} {o : Oper} {a : Act} {w : World} {K : Act → World → Prop} {Q : Exit → Act → World → Prop} (d s : Operand) (dT sT : TypeId)
    (ho : o.op = .call { callee := .builtin .copy, args := #[d, s], argTypes := #[dT, sT] }) (elem : TypeId) (hu : P.underlying dT = some (.slice elem)) (hsz : (P.info? elem).map (·.size) = some 1)
    (g off dLen dCap : Nat) (ad : Addr) (sLen sCap : Nat) (hd : a.eval d = .slice (some ⟨g, off, none⟩) dLen dCap) (hs : a.eval s = .slice (some ad) sLen sCap)
    (cur : List Value) (t : TypeId) (hg : At w g t cur.toArray) (cs : List Value) (hn : cs.length = Nat.min sLen dLen)
    (hsrc : ∀ j v, cs[j]? = some v → w.cell? (ad.add j) = some v) (hfit : off + cs.length ≤ cur.length) (h1 : ∀ v ∈ cs, v.oneCell' = true)
    (h : ∀ w', Hid (At w' g t (splice cur off cs).toArray) → w.grownBy w' (some g) → K (a.put o.dst (goInt cs.length)) w') : o.wp P a w K Q := by
  have hrun := run_copy_row (P := P) w dT sT o.type elem g off dLen dCap ad sLen sCap cur.toArray t cs hu hsz hg hn hsrc (by simpa using hfit) h1
  unfold Oper.wp
  simp [execOp, ho, resolve, invoke, builtin, hd, hs, hrun, Result.andThen]
  exact h _ (show _ = _ by simpa [splice] using setRow_heap w g _ _ t _ hg) (only_setRow _ _ _)
theorem wpList_copy_at {P : Program} {ops : Array Oper} {rest : List Oper} {o : Oper} {a : Act} {w : World} {Q : Exit → Act → World → Prop} (hgd : o.guard = none) (d s : Operand) (dT sT : TypeId)
    (ho : o.op = .call { callee := .builtin .copy, args := #[d, s], argTypes := #[dT, sT] }) (elem : TypeId) (hu : P.underlying dT = some (.slice elem)) (hsz : (P.info? elem).map (·.size) = some 1)
    (g off dLen dCap : Nat) (ad : Addr) (sLen sCap : Nat) (hd : a.eval d = .slice (some ⟨g, off, none⟩) dLen dCap) (hs : a.eval s = .slice (some ad) sLen sCap)
    (cur : List Value) (t : TypeId) (hg : At w g t cur.toArray) (cs : List Value) (hn : cs.length = Nat.min sLen dLen)
    (hsrc : ∀ j v, cs[j]? = some v → w.cell? (ad.add j) = some v) (hfit : off + cs.length ≤ cur.length) (h1 : ∀ v ∈ cs, v.oneCell' = true)
    (h : ∀ w', Hid (At w' g t (splice cur off cs).toArray) → w.grownBy w' (some g) → wpList P ops Q rest (a.put o.dst (goInt cs.length)) w') : wpList P ops Q (o :: rest) a w :=
  wpList_plain hgd fun _ hK => wp_copy_at d s dT sT ho elem hu hsz g off dLen dCap ad sLen sCap hd hs cur t hg cs hn hsrc hfit h1 fun w' h2 h3 => hK _ _ (h w' h2 h3)
theorem step_copy_at {P : Program} {ops : Array Oper} {o : Oper} {a : Act} {w : World} {K : Act → World → Prop} {Q : Exit → Act → World → Prop} {E : Prop} (hgd : o.guard = none) (d s : Operand) (dT sT : TypeId)
    (ho : o.op = .call { callee := .builtin .copy, args := #[d, s], argTypes := #[dT, sT] }) (elem : TypeId) (hu : P.underlying dT = some (.slice elem)) (hsz : (P.info? elem).map (·.size) = some 1)
    (g off dLen dCap : Nat) (ad : Addr) (sLen sCap : Nat) (hd : a.eval d = .slice (some ⟨g, off, none⟩) dLen dCap) (hs : a.eval s = .slice (some ad) sLen sCap)
    (cur : List Value) (t : TypeId) (hg : At w g t cur.toArray) (cs : List Value) (hn : cs.length = Nat.min sLen dLen)
    (hsrc : ∀ j v, cs[j]? = some v → w.cell? (ad.add j) = some v) (hfit : off + cs.length ≤ cur.length) (h1 : ∀ v ∈ cs, v.oneCell' = true)
    (h : ∀ w', Hid (At w' g t (splice cur off cs).toArray) → w.grownBy w' (some g) → K (a.put o.dst (goInt cs.length)) w') :
    if Region.wanted o (yielded ops a.tmps) = true then Oper.wp P o a w K Q else E := by
  have hw : Region.wanted o (yielded ops a.tmps) = true := by simp [Region.wanted, hgd]
  rw [if_pos hw]
  exact wp_copy_at d s dT sT ho elem hu hsz g off dLen dCap ad sLen sCap hd hs cur t hg cs hn hsrc hfit h1 h
def insL (l : List Int) (i : Nat) (x : Int) : List Int := l.take i ++ x :: l.drop i
theorem insL_len (l : List Int) (i : Nat) (x : Int) (h : i ≤ l.length) : (insL l i x).length = l.length + 1 := by simp [insL]; omega
theorem insL_end (l : List Int) (x : Int) : insL l l.length x = l ++ [x] := by simp [insL]
theorem intVs_ins (q : IntKind) (l : List Int) (i : Nat) (x : Int) : intVs q (insL l i x) = (intVs q l).take i ++ .int q x :: (intVs q l).drop i := by
  simp [intVs, insL, List.map_take, List.map_drop]
theorem splice_def (L : List Value) (off : Nat) (cs : List Value) : splice L off cs = L.take off ++ (cs ++ L.drop (off + cs.length)) := rfl
/-- room: the rest moved up by one, then x laid in its place -/
theorem splice_room (cur xs : List Value) (i n : Nat) (u : Value) (hx : cur.take n = xs) (hxl : xs.length = n) (hi : i ≤ n) (hc : n + 1 ≤ cur.length) :
    (splice (splice cur (i + 1) (xs.drop i)) i [u]).take (n + 1) = xs.take i ++ u :: xs.drop i ∧ (splice (splice cur (i + 1) (xs.drop i)) i [u]).length = cur.length := by
  have hl1 : (splice cur (i + 1) (xs.drop i)).length = cur.length := length_splice _ _ _ (by rw [List.length_drop]; omega)
  have hl2 : (splice (splice cur (i + 1) (xs.drop i)) i [u]).length = cur.length := by rw [length_splice _ _ _ (by simp; omega), hl1]
  refine ⟨?_, hl2⟩
  have e1 : (splice cur (i + 1) (xs.drop i)).take i = xs.take i := by
    unfold splice
    rw [List.take_append_of_le_length (by rw [List.length_take]; omega), List.take_take, Nat.min_eq_left (by omega), ← hx, List.take_take, Nat.min_eq_left (by omega)]
  have e2 : (splice cur (i + 1) (xs.drop i)).drop (i + 1) = xs.drop i ++ cur.drop (n + 1) := by
    unfold splice
    rw [List.drop_append_of_le_length (by rw [List.length_take]; omega), List.drop_eq_nil_of_le (by rw [List.length_take]; omega), List.nil_append, List.length_drop, hxl, show i + 1 + (n - i) = n + 1 by omega]
  have e3 : splice (splice cur (i + 1) (xs.drop i)) i [u] = (xs.take i ++ u :: xs.drop i) ++ cur.drop (n + 1) := by
    rw [splice_def (splice cur (i + 1) (xs.drop i)) i [u], List.length_singleton, e1, e2]
    simp
  rw [e3, List.take_append_of_le_length (by simp; omega), List.take_of_length_le (by simp; omega)]
/-- no room: a new row of what stood ahead and zeros; x laid, then the rest -/
theorem splice_grow (row xs : List Value) (i n : Nat) (u : Value) (hx : row.take i = xs.take i) (hxl : xs.length = n) (hi : i ≤ n) (hc : n + 1 ≤ row.length) :
    (splice (splice row i [u]) (i + 1) (xs.drop i)).take (n + 1) = xs.take i ++ u :: xs.drop i ∧ (splice (splice row i [u]) (i + 1) (xs.drop i)).length = row.length := by
  have hl1 : (splice row i [u]).length = row.length := length_splice _ _ _ (by simp; omega)
  refine ⟨?_, by rw [length_splice _ _ _ (by rw [List.length_drop]; omega), hl1]⟩
  have e1 : (splice row i [u]).take (i + 1) = xs.take i ++ [u] := by
    unfold splice
    rw [hx, ← List.append_assoc, List.take_append_of_le_length (by simp; omega), List.take_of_length_le (by simp; omega)]
  have e3 : splice (splice row i [u]) (i + 1) (xs.drop i) = (xs.take i ++ u :: xs.drop i) ++ (splice row i [u]).drop (n + 1) := by
    conv => lhs; unfold splice
    rw [show (List.take i row ++ ([u] ++ List.drop (i + [u].length) row)) = splice row i [u] from rfl, e1, List.length_drop, hxl, show i + 1 + (n - i) = n + 1 by omega]
    simp
  rw [e3, List.take_append_of_le_length (by simp; omega), List.take_of_length_le (by simp; omega)]
end Go.Proofs.YtkchgjakkogejaaDoor
