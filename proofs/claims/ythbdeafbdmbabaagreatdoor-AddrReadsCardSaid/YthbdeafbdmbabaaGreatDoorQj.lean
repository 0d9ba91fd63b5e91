/- Texts behind a law of this seat, in order: AdOpen. -/
import Derived.Test.YthbdeafbdmbabaaGreatDoorPb
import Derived.Test.YthbdeafbdmbabaaGreatDoorPc
import Derived.Test.YthbdeafbdmbabaaGreatDoorPd
import Derived.Test.YthbdeafbdmbabaaGreatDoorPe
import Derived.Test.YthbdeafbdmbabaaGreatDoorPf
import Derived.Test.YthbdeafbdmbabaaGreatDoorPm
import Derived.Test.YthbdeafbdmbabaaGreatDoorPn
import Derived.Below
import Derived.ChangeSame
import Derived.ChangeSlices
import Derived.Deep.AppendLies
import Derived.Deep.Draws
import Derived.Deep.RegionLaw
import Derived.Great.Ranges
import Derived.Handed
import Derived.Laws.OwnMore
import Derived.Laws.Rows
import Derived.Laws.StructEq
import Derived.Lib.ItoaNum
import Derived.Lib.Split
import Derived.Lib.SplitLaws
import Derived.Lib.Strings
import Derived.OpenShut
import Derived.SizedLaws
import Derived.SliceStrings
import Derived.Stop.BytesEq
import Derived.Test.YthbdeafbdmbabaaGreatDoorProg
import Derived.WalkKit
import Derived.WalkLawsBesides
import Derived.WalkSpells
namespace Go.Proofs.YthbdeafbdmbabaaGreatDoor
open Go.RowKit Go Go.ChangeShapes Go.WideShapes
set_option linter.unusedVariables false
set_option maxRecDepth 100000
def backU : Value → UInt8
  | .int _ n => UInt8.ofNat n.toNat
  | _ => 0
theorem backU_cellU (b : UInt8) : backU (cellU b) = b := by
  simp [backU, cellU]
theorem back_all (l : List Value) (h : ∀ x ∈ l, ∃ b : UInt8, x = cellU b) : (l.map backU).map cellU = l := by
  induction l with
  | nil => rfl
  | cons x l ih =>
    obtain ⟨b, rfl⟩ := h x (by simp)
    rw [List.map_cons, List.map_cons, backU_cellU, ih fun y hy => h y (by simp [hy])]
theorem one_of_take {α : Type} {l : List α} {x : α} (h : l.take 1 = [x]) : l[0]? = some x := by
  have := congrArg (·[0]?) h
  simpa using this
theorem open_ad {H : Type} {enc : TypeId × Value → H} {W : World} {d : DataW H} {p : List MemPlace} {base base' : Nat} {sp : Nat → Bool} {r : Reach} {v : Value} (o : Value.okWide Tryz.prog W r base' 24 v)
    (k : DataW.Trod enc Tryz.prog W base sp true 24 v d p) :
    ∃ (f z : Int) (ip : List UInt8), v = adV f ip z ∧ ip.length = 16 ∧ (Lit.int .i64 f).wf = true ∧ (Lit.int .i64 z).wf = true := by
  have hS := Tryz.underlying24
  obtain ⟨cs, rfl, hsz⟩ := okWide_struct hS o
  have hc18 : Tryz.prog.cellsOf 24 = 18 := by kernel_rfl
  rw [hc18] at hsz
  obtain ⟨fuel, hf⟩ := k
  obtain ⟨xs, n, rfl, hx, hl, hxl, hall⟩ := DataW.trod_struct hS hf
  have h0 := hall 0 _ rfl
  have h1 := hall 1 _ rfl
  have h2 := hall 2 _ rfl
  have hcI : Tryz.prog.cellsOf 3 = 1 := by kernel_rfl
  have hcA : Tryz.prog.cellsOf 22 = 16 := by kernel_rfl
  have hcU : Tryz.prog.cellsOf 5 = 1 := by kernel_rfl
  change DataW.trod enc Tryz.prog W base sp true n 3 ((cs.toList.drop 0).take (Tryz.prog.cellsOf 3)) = xs[0]? at h0
  change DataW.trod enc Tryz.prog W base sp true n 22 ((cs.toList.drop 1).take (Tryz.prog.cellsOf 22)) = xs[1]? at h1
  change DataW.trod enc Tryz.prog W base sp true n 3 ((cs.toList.drop 17).take (Tryz.prog.cellsOf 3)) = xs[2]? at h2
  rw [hcI] at h0 h2
  rw [hcA] at h1
  have gx : ∀ i, i < 3 → ∃ y, xs[i]? = some y := fun i hi => ⟨_, List.getElem?_eq_getElem (by simp at hxl; omega)⟩
  obtain ⟨y0, hy0⟩ := gx 0 (by decide)
  obtain ⟨y1, hy1⟩ := gx 1 (by decide)
  obtain ⟨y2, hy2⟩ := gx 2 (by decide)
  rw [hy0] at h0
  rw [hy1] at h1
  rw [hy2] at h2
  obtain ⟨f, e0, _, wf0⟩ := DataW.trod_int Tryz.underlying3 h0
  obtain ⟨z, e2, _, wf2⟩ := DataW.trod_int Tryz.underlying3 h2
  obtain ⟨ys, m, rfl, hxa, hla, hal, halla⟩ := DataW.trod_array Tryz.underlying22 h1
  have hb : ∀ x ∈ (cs.toList.drop 1).take 16, ∃ b : UInt8, x = cellU b := by
    intro x hx
    obtain ⟨i, hi, hiv⟩ := List.mem_iff_getElem.1 hx
    have hi16 : i < 16 := by rw [List.length_take] at hi; omega
    have hi' := halla i hi16
    rw [hcU, Nat.mul_one] at hi'
    obtain ⟨q, hq⟩ : ∃ q, ys[i]? = some q := ⟨_, List.getElem?_eq_getElem (by omega)⟩
    rw [hq] at hi'
    obtain ⟨b, eb, _, wb⟩ := DataW.trod_int Tryz.underlying5 hi'
    have hget := one_of_take eb
    rw [List.getElem?_drop, Nat.add_zero, List.getElem?_eq_getElem hi, hiv] at hget
    have hbw : 0 ≤ b ∧ b ≤ 255 := by
      simp only [Lit.wf, Bool.and_eq_true, decide_eq_true_eq] at wb
      have h0 : IntKind.u8.min = 0 := rfl
      have h1 : IntKind.u8.max = 255 := rfl
      omega
    refine ⟨UInt8.ofNat b.toNat, ?_⟩
    injection hget with hget
    rw [hget]
    unfold cellU
    congr 1
    rw [UInt8.toNat_ofNat']
    omega
  refine ⟨f, z, ((cs.toList.drop 1).take 16).map backU, ?_, ?_, wf0, wf2⟩
  · unfold adV adCs
    rw [back_all _ hb]
    congr 1
    have hcl : cs.toList.length = 18 := by simpa using hsz
    apply Array.toList_inj.1
    rw [List.toList_toArray]
    have g0 := one_of_take e0
    rw [List.drop_zero] at g0
    have g2 := one_of_take e2
    rw [List.getElem?_drop] at g2
    have gg2 : cs.toList[17]? = some (Value.int .i64 z) := g2
    have d17 : cs.toList.drop 17 = [Value.int .i64 z] := by
      rw [List.drop_eq_getElem_cons (by omega), List.drop_eq_nil_of_le (by omega)]
      rw [List.getElem?_eq_getElem (by omega)] at gg2
      injection gg2 with gg2
      rw [gg2]
    have hd : cs.toList = cs.toList.take 1 ++ ((cs.toList.drop 1).take 16 ++ cs.toList.drop 17) := by
      have e1 : cs.toList.drop 17 = (cs.toList.drop 1).drop 16 := by rw [List.drop_drop]
      rw [e1, List.take_append_drop, List.take_append_drop]
    have t1 : cs.toList.take 1 = [Value.int .i64 f] := by
      rw [List.drop_zero] at e0
      exact e0
    rw [d17, t1] at hd
    exact hd
  · simp
    have : cs.size = 18 := hsz
    omega
end Go.Proofs.YthbdeafbdmbabaaGreatDoor
