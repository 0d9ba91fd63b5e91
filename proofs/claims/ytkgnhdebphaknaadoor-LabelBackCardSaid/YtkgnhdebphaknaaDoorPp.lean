/- Texts behind a law of this seat, in order: MemRef. -/
import Derived.Test.YtkgnhdebphaknaaDoorPb
import Derived.Test.YtkgnhdebphaknaaDoorPc
import Derived.Test.YtkgnhdebphaknaaDoorPd
import Derived.Test.YtkgnhdebphaknaaDoorPi
import Derived.Test.YtkgnhdebphaknaaDoorPk
import Derived.Below
import Derived.ChangeSlices
import Derived.Deep.AppendLies
import Derived.Deep.Draws
import Derived.Deep.RegionLaw
import Derived.Handed
import Derived.Laws.CopyOwn
import Derived.Laws.OwnMore
import Derived.Laws.Rows
import Derived.Lib.AppendZeros
import Derived.Lib.AppendZerosOnto
import Derived.Lib.Overlaps
import Derived.Lib.Strings
import Derived.Maps.AppendAt
import Derived.SizedLaws
import Derived.SliceStrings
import Derived.WalkKit
import Derived.WalkLawsBesides
import Derived.WalkSpells
namespace Go.Proofs.YtkgnhdebphaknaaDoor
open Go.RowKit Go
theorem run_app_nil {P : Program} (w : World) (base : Nat) (t ty e : TypeId) (i : TypeInfo) (ht : P.underlying t = some (.slice e)) (hi : P.info? e = some i) (v : Value) (n : Nat) (xs : List Value) (hown : w.ownsRow base e 1 v n xs) (c : Nat) :
    (Builtin.append_ #[t, t] ty #[v, .slice none 0 c]).run P w = .ok v w := by
  rcases hown.2 with ⟨rfl, rfl⟩ | ⟨g, cap, cur, rfl, _, _, hnc, _⟩
  · simp [Builtin.append_, run_underlying ht, sizeOf, typeInfo, hi, Builtin.lenOf, Builtin.firstCells]
  · simp [Builtin.append_, run_underlying ht, sizeOf, typeInfo, hi, Builtin.lenOf, Builtin.firstCells, hnc, storeCells]
/-- 'out = append(out, xs...)', xs anywhere, nil let in -/
theorem wpList_appSrc {P : Program} {w : World} {ops : Array Oper} {rest : List Oper} {o : Oper} {a : Act} {Q : Exit → Act → World → Prop} (hgd : o.guard = none) (s x : Operand) (t e : TypeId)
    (ho : o.op = .call { callee := .builtin .append, args := #[s, x], argTypes := #[t, t] }) (ht : P.underlying t = some (.slice e)) {z : Value} {bytes : Nat} (hI : Elem1 P e z bytes) (hzs : z.cells.size = 1)
    (base : Nat) (v : Value) (n m c : Nat) (A : Option Addr) (xs us : List Value) (hs : a.eval s = v) (hx : a.eval x = .slice A m c) (hm : us.length = m) (hown : w.ownsRow base e 1 v n xs)
    (hA : A = none → m = 0) (hc : ∀ ad, A = some ad → ∀ j u, us[j]? = some u → w.cell? (ad.add j) = some u)
    (hu : ∀ u ∈ us, u.oneCell' = true) (hb : (n + m) * bytes ≤ 140737488355328) (hn : n + m ≤ 140737488355328) (hbase : base ≤ w.heap.size)
    (h : ∀ v' w', w'.ownsRow base e 1 v' (n + m) (xs ++ us) → Below base w w' → wpList P ops Q rest (a.put o.dst v') w') : wpList P ops Q (o :: rest) a w := by
  obtain ⟨i, hi, hz, h1, h2⟩ := info_parts hI
  rcases A with _ | ad
  · obtain rfl := hA rfl
    obtain rfl : us = [] := List.length_eq_zero_iff.1 hm
    exact Lib.wpList_append_run w hgd s x t t ho v (.slice none 0 c) hs hx v w (run_app_nil w base t _ e i ht hi v n xs hown c) (h v w (by simpa using hown) (Below.refl _ _))
  · exact wpList_append_own_at w hgd s x t ho base e i z 1 bytes ht hi hz h1 h2 hzs (by decide) v n xs hs hown ad m c us hx (by rw [hm, Nat.mul_one]) (hc ad rfl) hu (by unfold maxLen; omega) hb hbase
      fun v' w' hown' hgrow _ _ => h v' w' hown' (below_own hown hgrow hbase)
end Go.Proofs.YtkgnhdebphaknaaDoor
