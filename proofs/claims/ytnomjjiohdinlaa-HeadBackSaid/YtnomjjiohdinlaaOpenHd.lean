/- A head, and four integers, that came in, opened. -/
import Derived.Test.YtnomjjiohdinlaaOpenTr
import Derived.Test.YtnomjjiohdinlaaHead
namespace Go.Proofs.Ytnomjjiohdinlaa
open Go.RowKit Go Go.ChangeShapes Go.WideShapes
set_option linter.unusedVariables false
set_option maxRecDepth 100000
theorem open_cn {H : Type} {enc : TypeId × Value → H} {W : World} {d : DataW H} {p : List MemPlace} {base base' : Nat} {sp : Nat → Bool} {r : Reach} {v : Value} (o : Value.okWide Try.prog W r base' 25 v)
    (k : DataW.Trod enc Try.prog W base sp true 25 v d p) : ∃ c : Nat → Int, v = cnV c := by
  have hc4 : Try.prog.cellsOf 25 = 4 := by kernel_rfl
  have hcI : Try.prog.cellsOf 3 = 1 := by kernel_rfl
  obtain ⟨fuel, hf⟩ := k
  obtain ⟨xs, n, rfl, hx, hl, hxl, hall⟩ := DataW.trod_array Try.underlying25 hf
  rw [hcI] at hall
  have hs : ∃ cs : Array Value, v = .agg cs ∧ cs.size = 4 := by
    have := okWide_array Try.underlying25 o
    rw [hc4] at this
    exact this
  obtain ⟨cs, rfl, hsz⟩ := hs
  obtain ⟨a, b, c, d', e⟩ := list4 (show cs.toList.length = 4 by simpa using hsz)
  change ∀ i, i < 4 → DataW.trod enc Try.prog W base sp true n 3 ((cs.toList.drop (i * 1)).take 1) = xs[i]? at hall
  rw [e] at hall
  obtain ⟨x0, rfl, _⟩ := tr_int Try.underlying3 (hall 0 (by decide)) (by omega)
  obtain ⟨x1, rfl, _⟩ := tr_int Try.underlying3 (hall 1 (by decide)) (by omega)
  obtain ⟨x2, rfl, _⟩ := tr_int Try.underlying3 (hall 2 (by decide)) (by omega)
  obtain ⟨x3, rfl, _⟩ := tr_int Try.underlying3 (hall 3 (by decide)) (by omega)
  refine ⟨fun i => match i with | 0 => x0 | 1 => x1 | 2 => x2 | _ => x3, ?_⟩
  show Value.agg cs = _
  congr 1
  exact Array.toList_inj.1 e
theorem open_hd {H : Type} {enc : TypeId × Value → H} {W : World} {d : DataW H} {p : List MemPlace} {base base' : Nat} {sp : Nat → Bool} {r : Reach} {v : Value} (o : Value.okWide Try.prog W r base' 24 v)
    (k : DataW.Trod enc Try.prog W base sp true 24 v d p) : ∃ h : Hd, v = hdV h := by
  have hS := Try.underlying24
  obtain ⟨cs, rfl, hsz⟩ := okWide_struct hS o
  have hc : Try.prog.cellsOf 24 = 10 := by kernel_rfl
  have hcI : Try.prog.cellsOf 3 = 1 := by kernel_rfl
  have hcB : Try.prog.cellsOf 4 = 1 := by kernel_rfl
  rw [hc] at hsz
  obtain ⟨fuel, hf⟩ := k
  obtain ⟨xs, n, rfl, hx, hl, hxl, hall⟩ := DataW.trod_struct hS hf
  have hx10 : xs.length = 10 := by simpa using hxl
  obtain ⟨c0, c1, c2, c3, c4, c5, c6, c7, c8, c9, e⟩ := list10 (show cs.toList.length = 10 by simpa using hsz)
  have hI : ∀ j i : Nat, DataW.trod enc Try.prog W base sp true n 3 ((cs.toList.drop j).take (Try.prog.cellsOf 3)) = xs[i]? → DataW.trod enc Try.prog W base sp true n 3 (([c0, c1, c2, c3, c4, c5, c6, c7, c8, c9].drop j).take 1) = xs[i]? := fun j i h => by rw [hcI, e] at h; exact h
  have hB : ∀ j i : Nat, DataW.trod enc Try.prog W base sp true n 4 ((cs.toList.drop j).take (Try.prog.cellsOf 4)) = xs[i]? → DataW.trod enc Try.prog W base sp true n 4 (([c0, c1, c2, c3, c4, c5, c6, c7, c8, c9].drop j).take 1) = xs[i]? := fun j i h => by rw [hcB, e] at h; exact h
  obtain ⟨x0, rfl, _⟩ := tr_int Try.underlying3 (hI 0 0 (hall 0 _ rfl)) (by omega)
  obtain ⟨x1, rfl⟩ := tr_bool Try.underlying4 (hB 1 1 (hall 1 _ rfl)) (by omega)
  obtain ⟨x2, rfl, _⟩ := tr_int Try.underlying3 (hI 2 2 (hall 2 _ rfl)) (by omega)
  obtain ⟨x3, rfl⟩ := tr_bool Try.underlying4 (hB 3 3 (hall 3 _ rfl)) (by omega)
  obtain ⟨x4, rfl⟩ := tr_bool Try.underlying4 (hB 4 4 (hall 4 _ rfl)) (by omega)
  obtain ⟨x5, rfl⟩ := tr_bool Try.underlying4 (hB 5 5 (hall 5 _ rfl)) (by omega)
  obtain ⟨x6, rfl⟩ := tr_bool Try.underlying4 (hB 6 6 (hall 6 _ rfl)) (by omega)
  obtain ⟨x7, rfl⟩ := tr_bool Try.underlying4 (hB 7 7 (hall 7 _ rfl)) (by omega)
  obtain ⟨x8, rfl⟩ := tr_bool Try.underlying4 (hB 8 8 (hall 8 _ rfl)) (by omega)
  obtain ⟨x9, rfl, _⟩ := tr_int Try.underlying3 (hI 9 9 (hall 9 _ rfl)) (by omega)
  refine ⟨⟨x0, x1, x2, x3, x4, x5, x6, x7, x8, x9⟩, ?_⟩
  show Value.agg cs = _
  congr 1
  exact Array.toList_inj.1 e
end Go.Proofs.Ytnomjjiohdinlaa
