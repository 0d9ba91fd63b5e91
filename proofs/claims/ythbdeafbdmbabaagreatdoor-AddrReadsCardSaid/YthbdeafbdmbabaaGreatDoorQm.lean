/- Texts behind a law of this seat, in order: Near. -/
import Derived.Test.YthbdeafbdmbabaaGreatDoorPa
import Derived.Test.YthbdeafbdmbabaaGreatDoorPb
import Derived.Test.YthbdeafbdmbabaaGreatDoorPc
import Derived.Test.YthbdeafbdmbabaaGreatDoorPd
import Derived.Test.YthbdeafbdmbabaaGreatDoorPe
import Derived.Test.YthbdeafbdmbabaaGreatDoorPf
import Derived.Test.YthbdeafbdmbabaaGreatDoorPg
import Derived.Test.YthbdeafbdmbabaaGreatDoorPh
import Derived.Test.YthbdeafbdmbabaaGreatDoorPi
import Derived.Test.YthbdeafbdmbabaaGreatDoorPj
import Derived.Test.YthbdeafbdmbabaaGreatDoorPk
import Derived.Test.YthbdeafbdmbabaaGreatDoorPl
import Derived.Test.YthbdeafbdmbabaaGreatDoorPm
import Derived.Test.YthbdeafbdmbabaaGreatDoorPn
import Derived.Test.YthbdeafbdmbabaaGreatDoorPo
import Derived.Test.YthbdeafbdmbabaaGreatDoorPp
import Derived.Test.YthbdeafbdmbabaaGreatDoorPq
import Derived.Test.YthbdeafbdmbabaaGreatDoorPr
import Derived.Test.YthbdeafbdmbabaaGreatDoorPs
import Derived.Test.YthbdeafbdmbabaaGreatDoorPt
import Derived.Test.YthbdeafbdmbabaaGreatDoorPu
import Derived.Test.YthbdeafbdmbabaaGreatDoorPv
import Derived.Test.YthbdeafbdmbabaaGreatDoorQc
import Derived.Test.YthbdeafbdmbabaaGreatDoorQd
import Derived.Test.YthbdeafbdmbabaaGreatDoorQe
import Derived.Below
import Derived.BigQuiet
import Derived.BigRegion
import Derived.ChangeSame
import Derived.ChangeSlices
import Derived.Deep.AppendLies
import Derived.Deep.Draws
import Derived.Deep.OwnRows
import Derived.Deep.Quiet
import Derived.Deep.QuietTactic
import Derived.Deep.RegionLaw
import Derived.Great.Ranges
import Derived.Handed
import Derived.LaidSub
import Derived.Laws.Bits64b
import Derived.Laws.BitsAllLaws
import Derived.Laws.CopyOwn
import Derived.Laws.OwnMore
import Derived.Laws.Rows
import Derived.Laws.StructEq
import Derived.Lib.AppendZeros
import Derived.Lib.AppendZerosOnto
import Derived.Lib.Bytealg
import Derived.Lib.Hide
import Derived.Lib.ItoaLen
import Derived.Lib.ItoaMem
import Derived.Lib.ItoaNum
import Derived.Lib.Join
import Derived.Lib.LaidTab
import Derived.Lib.LaidU8
import Derived.Lib.Overlaps
import Derived.Lib.SmallJoins
import Derived.Lib.Split
import Derived.Lib.SplitLaws
import Derived.Lib.Strings
import Derived.OpenShut
import Derived.Shelf.LaysM
import Derived.Shelf.Small.Bits
import Derived.Shelf.Small.Strs
import Derived.Shelf.Strconv.Itoa0
import Derived.Shelf.Strconv.Itoa1
import Derived.Shelf.Strconv.Itoa2
import Derived.Shelf.Strconv.Itoa3
import Derived.Shelf.Strings.Builder1
import Derived.Shelf.Strings.Builder2
import Derived.Shelf.Strings.Builder2Cap
import Derived.Shelf.Strings.BuilderCap
import Derived.Shelf.Strings.BuilderF
import Derived.Shelf.Strings.BuilderK
import Derived.Shelf.Strings.Count
import Derived.Shelf.Strings.Cut
import Derived.Shelf.Strings.OnBuilder
import Derived.Shelf.Strings.Prefix
import Derived.Shelf.Strings.Search1
import Derived.Shelf.Strings.Search2
import Derived.Shelf.Strings.Search3
import Derived.Shelf.Strings.Shaped
import Derived.Shelf.Strings.Split
import Derived.Shelf.Strings.SplitShaped
import Derived.Shelf.Unicode.Decode
import Derived.Shelf.Unicode.DecodeAny
import Derived.Shelf.Unicode.DecodeSlow
import Derived.SizedLaws
import Derived.SliceStrings
import Derived.Stop.BytesEq
import Derived.Test.YthbdeafbdmbabaaGreatDoorProg
import Derived.WalkKit
import Derived.WalkLawsBesides
import Derived.WalkSpells
/- Layer 9: what the project's listed variables hold, as a row's condition tells it. -/
namespace Go.Proofs.YthbdeafbdmbabaaGreatDoor
open Go.RowKit Go Go.ChangeShapes Go.WideShapes
set_option linter.unusedVariables false
set_option maxRecDepth 100000
def adD (f : Int) (ip : List UInt8) (z : Int) : DataW Unit := .agg [.lit (.int .i64 f), Lib.tabData .u8 (ip.map fun c => ((c.toNat : Nat) : Int)), .lit (.int .i64 z)]
def preD (g : Int) (jp : List UInt8) (y n : Int) : DataW Unit := .agg [adD g jp y, .lit (.int .i64 n)]
def reachD (r : Int × List UInt8 × Int × Int) : DataW Unit := .agg [preD r.1 r.2.1 0 r.2.2.1, .lit (.int .i64 r.2.2.2)]
def nearD : DataW Unit := .agg (nearL.map reachD)
section
variable {enc : TypeId × Value → Unit} {w : World} {base : Nat} {sp : Nat → Bool} {held : Bool}
theorem int_det {fuel : Nat} {cs : List Value} {f : Int} {p : List MemPlace} (h : DataW.trod enc Tryz.prog w base sp held fuel 3 cs = some (.lit (.int .i64 f), p)) : cs = [.int .i64 f] := by
  obtain ⟨z, hc, hx, _⟩ := DataW.trod_int Tryz.underlying3 h
  have : (DataW.lit (.int .i64 f) : DataW Unit) = .lit (.int .i64 z) := congrArg Prod.fst hx
  injection this with this
  injection this with _ this
  rw [hc, this]
theorem ad_det {fuel : Nat} {cs : List Value} {f z : Int} {ip : List UInt8} {p : List MemPlace} (h : DataW.trod enc Tryz.prog w base sp held fuel 24 cs = some (adD f ip z, p)) : cs = adCs f ip z := by
  have hS := Tryz.underlying24
  obtain ⟨xs, n, rfl, hx, hl, hxl, hall⟩ := DataW.trod_struct hS h
  have hc18 : Tryz.prog.cellsOf 24 = 18 := by kernel_rfl
  have hcI : Tryz.prog.cellsOf 3 = 1 := by kernel_rfl
  have hcA : Tryz.prog.cellsOf 22 = 16 := by kernel_rfl
  have hcU : Tryz.prog.cellsOf 5 = 1 := by kernel_rfl
  have hm : xs.map (·.1) = [.lit (.int .i64 f), Lib.tabData .u8 (ip.map fun c => ((c.toNat : Nat) : Int)), .lit (.int .i64 z)] := by
    have := congrArg Prod.fst hx
    injection this with this
    exact this.symm
  match xs, hxl, hm with
  | [y0, y1, y2], _, hm =>
    injection hm with m0 hm
    injection hm with m1 hm
    injection hm with m2 _
    have m0 : y0.1 = .lit (.int .i64 f) := m0
    have m1 : y1.1 = Lib.tabData .u8 (ip.map fun c => ((c.toNat : Nat) : Int)) := m1
    have m2 : y2.1 = .lit (.int .i64 z) := m2
    have h0 := hall 0 _ rfl
    have h1 := hall 1 _ rfl
    have h2 := hall 2 _ rfl
    change DataW.trod enc Tryz.prog w base sp held n 3 ((cs.drop 0).take (Tryz.prog.cellsOf 3)) = some y0 at h0
    change DataW.trod enc Tryz.prog w base sp held n 22 ((cs.drop 1).take (Tryz.prog.cellsOf 22)) = some y1 at h1
    change DataW.trod enc Tryz.prog w base sp held n 3 ((cs.drop 17).take (Tryz.prog.cellsOf 3)) = some y2 at h2
    rw [hcI] at h0 h2
    rw [hcA] at h1
    rw [hc18] at hl
    rw [show y0 = (y0.1, y0.2) from rfl, m0] at h0
    rw [show y1 = (y1.1, y1.2) from rfl, m1] at h1
    rw [show y2 = (y2.1, y2.2) from rfl, m2] at h2
    have e0 := int_det h0
    have e2 := int_det h2
    have e1 := Lib.cells_of_tab Tryz.underlying22 Tryz.underlying5 hcU hcA h1
    rw [List.drop_zero] at e0
    have d17 : (cs.drop 17).take 1 = cs.drop 17 := List.take_of_length_le (by rw [List.length_drop]; omega)
    rw [d17] at e2
    have hd : cs = cs.take 1 ++ ((cs.drop 1).take 16 ++ cs.drop 17) := by
      have e1 : cs.drop 17 = (cs.drop 1).drop 16 := by rw [List.drop_drop]
      rw [e1, List.take_append_drop, List.take_append_drop]
    rw [e0, e1, e2] at hd
    rw [hd]
    unfold adCs
    simp [cellU]
theorem pre_det {fuel : Nat} {cs : List Value} {g y n : Int} {jp : List UInt8} {p : List MemPlace} (h : DataW.trod enc Tryz.prog w base sp held fuel 49 cs = some (preD g jp y n, p)) : cs = preCs g jp y n := by
  obtain ⟨y0, y1, m, hx, hl, h0, h1⟩ := trod_struct2 Tryz.underlying49 h
  have hc19 : Tryz.prog.cellsOf 49 = 19 := by kernel_rfl
  have hc18 : Tryz.prog.cellsOf 24 = 18 := by kernel_rfl
  have hcI : Tryz.prog.cellsOf 3 = 1 := by kernel_rfl
  have hm := congrArg Prod.fst hx
  unfold preD at hm
  injection hm with hm
  injection hm with m0 hm
  injection hm with m1 _
  change DataW.trod enc Tryz.prog w base sp held m 24 ((cs.drop 0).take (Tryz.prog.cellsOf 24)) = some y0 at h0
  change DataW.trod enc Tryz.prog w base sp held m 3 ((cs.drop 18).take (Tryz.prog.cellsOf 3)) = some y1 at h1
  rw [hc18, List.drop_zero] at h0
  rw [hcI] at h1
  rw [hc19] at hl
  rw [show y0 = (y0.1, y0.2) from rfl, ← m0] at h0
  rw [show y1 = (y1.1, y1.2) from rfl, ← m1] at h1
  have e0 := ad_det h0
  have e1 := int_det h1
  rw [List.take_of_length_le (by rw [List.length_drop]; omega)] at e1
  have hd : cs = cs.take 18 ++ cs.drop 18 := (List.take_append_drop _ _).symm
  rw [e0, e1] at hd
  exact hd
theorem reach_det {fuel : Nat} {cs : List Value} {r : Int × List UInt8 × Int × Int} {p : List MemPlace} (h : DataW.trod enc Tryz.prog w base sp held fuel 51 cs = some (reachD r, p)) : cs = reachCs r := by
  obtain ⟨y0, y1, m, hx, hl, h0, h1⟩ := trod_struct2 Tryz.underlying51 h
  have hc20 : Tryz.prog.cellsOf 51 = 20 := by kernel_rfl
  have hc19 : Tryz.prog.cellsOf 49 = 19 := by kernel_rfl
  have hcI : Tryz.prog.cellsOf 3 = 1 := by kernel_rfl
  have hm := congrArg Prod.fst hx
  unfold reachD at hm
  injection hm with hm
  injection hm with m0 hm
  injection hm with m1 _
  change DataW.trod enc Tryz.prog w base sp held m 49 ((cs.drop 0).take (Tryz.prog.cellsOf 49)) = some y0 at h0
  change DataW.trod enc Tryz.prog w base sp held m 3 ((cs.drop 19).take (Tryz.prog.cellsOf 3)) = some y1 at h1
  rw [hc19, List.drop_zero] at h0
  rw [hcI] at h1
  rw [hc20] at hl
  rw [show y0 = (y0.1, y0.2) from rfl, ← m0] at h0
  rw [show y1 = (y1.1, y1.2) from rfl, ← m1] at h1
  have e0 := pre_det h0
  have e1 := int_det h1
  rw [List.take_of_length_le (by rw [List.length_drop]; omega)] at e1
  have hd : cs = cs.take 19 ++ cs.drop 19 := (List.take_append_drop _ _).symm
  rw [e0, e1] at hd
  exact hd
theorem near_det {fuel : Nat} {cs : List Value} {p : List MemPlace} (h : DataW.trod enc Tryz.prog w base sp held fuel 52 cs = some (nearD, p)) : cs = nearCs := by
  have hc20 : Tryz.prog.cellsOf 51 = 20 := by kernel_rfl
  have hc100 : Tryz.prog.cellsOf 52 = 100 := by kernel_rfl
  have hl : cs.length = 100 := by
    obtain ⟨_, _, _, _, hl, _⟩ := DataW.trod_array Tryz.underlying52 h
    rw [hl, hc100]
  have key : ∀ i r, i < 5 → nearL[i]? = some r → (cs.drop (i * 20)).take 20 = reachCs r := by
    intro i r hi hr
    obtain ⟨fu, d, q, hd, ht⟩ := Lib.array_elem Tryz.underlying52 h i hi
    rw [List.getElem?_map, hr] at hd
    injection hd with hd
    rw [hc20, ← hd] at ht
    exact reach_det ht
  have k0 := key 0 _ (by decide) rfl
  have k1 := key 1 _ (by decide) rfl
  have k2 := key 2 _ (by decide) rfl
  have k3 := key 3 _ (by decide) rfl
  have k4 := key 4 _ (by decide) rfl
  have step : ∀ i, cs.drop (i * 20) = (cs.drop (i * 20)).take 20 ++ cs.drop ((i + 1) * 20) := by
    intro i
    have : cs.drop ((i + 1) * 20) = (cs.drop (i * 20)).drop 20 := by rw [List.drop_drop]; congr 1; omega
    rw [this, List.take_append_drop]
  have hz : cs.drop (5 * 20) = [] := List.drop_eq_nil_of_le (by omega)
  have e : cs = cs.drop (0 * 20) := rfl
  rw [e, step 0, k0, step 1, k1, step 2, k2, step 3, k3, step 4, k4, hz]
  rfl
end
theorem nr_of_head {W : World} {rest : List (String × DataW Unit)} (h : laidMet Tryz.prog (("wayfinder/addr.near", nearD) :: rest) W) : NR W := by
  obtain ⟨ps, ⟨g', t', cs, fuel, p, q, hg', ht', hvar, hd, _, _⟩, _⟩ := h
  have hg : Tryz.prog.globalNamed "wayfinder/addr.near" = some 0 := by kernel_rfl
  have hty : (Tryz.prog.globals[0]?).map (·.type) = some 52 := by kernel_rfl
  obtain rfl := Option.some.inj (hg.symm.trans hg')
  obtain rfl := Option.some.inj (hty.symm.trans ht')
  have e := near_det hd
  intro j v hv
  rw [World.var?_cell hg hvar j, ← Array.getElem?_toList, e]
  exact hv
theorem m4_of_head {W : World} {rest : List (String × DataW Unit)} (h : laidMet Tryz.prog (("wayfinder/addr.many4", preD 4 ip224 0 4) :: rest) W) : M4 W := by
  obtain ⟨ps, ⟨g', t', cs, fuel, p, q, hg', ht', hvar, hd, _, _⟩, _⟩ := h
  have hg : Tryz.prog.globalNamed "wayfinder/addr.many4" = some 1 := by kernel_rfl
  have hty : (Tryz.prog.globals[1]?).map (·.type) = some 49 := by kernel_rfl
  obtain rfl := Option.some.inj (hg.symm.trans hg')
  obtain rfl := Option.some.inj (hty.symm.trans ht')
  have e := pre_det hd
  intro j v hv
  rw [World.var?_cell hg hvar j, ← Array.getElem?_toList, e]
  exact hv
end Go.Proofs.YthbdeafbdmbabaaGreatDoor
