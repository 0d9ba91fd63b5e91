/- Texts behind a law of this seat, in order: AdV. -/
import Derived.Test.YtnoabmkmnddkkaaPa
import Derived.Test.YtnoabmkmnddkkaaPb
import Derived.Test.YtnoabmkmnddkkaaPc
import Derived.Test.YtnoabmkmnddkkaaPd
import Derived.Test.YtnoabmkmnddkkaaPg
import Derived.Test.YtnoabmkmnddkkaaPy
import Derived.Below
import Derived.ChangeSlices
import Derived.Deep.AppendLies
import Derived.Deep.Draws
import Derived.Deep.RegionLaw
import Derived.Great.Ranges
import Derived.Handed
import Derived.Laws.OwnMore
import Derived.Laws.Rows
import Derived.Laws.StructEq
import Derived.Lib.ItoaNum
import Derived.Lib.Split
import Derived.Lib.SplitLaws
import Derived.Lib.Strings
import Derived.OpenShut
import Derived.SizedLaws
import Derived.SliceStrings
import Derived.Stop.BytesEq
import Derived.Test.YtnoabmkmnddkkaaProg
import Derived.WalkKit
import Derived.WalkLawsBesides
import Derived.WalkSpells
namespace Go.Proofs.Ytnoabmkmnddkkaa
open Go.RowKit Go Go.ChangeShapes Go.WideShapes
set_option linter.unusedVariables false
def cellU (c : UInt8) : Value := .int .u8 c.toNat
def adCs (f : Int) (ip : List UInt8) (z : Int) : List Value := .int .i64 f :: (ip.map cellU ++ [.int .i64 z])
abbrev adV (f : Int) (ip : List UInt8) (z : Int) : Value := .agg (adCs f ip z).toArray
theorem adCs_len (f : Int) (ip : List UInt8) (z : Int) : (adCs f ip z).length = ip.length + 2 := by simp [adCs]
theorem ip_eql (w : World) (d : Nat) (ip ip' : List UInt8) (h : ip.length = 16) (h' : ip'.length = 16) :
    (Op.equalIn (d + 2) 29 (.agg (ip.map cellU).toArray) (.agg (ip'.map cellU).toArray)).run Try.prog w = .ok (ip == ip') w :=
  run_equalIn_bytes w d 29 5 16 Try.underlying29 Try.underlying5 (fun w => by have := Try.sizeOf5; simp [this]) ip ip' h h'
theorem ad_part0 (f z : Int) (ip : List UInt8) (w : World) : (part 3 (adCs f ip z).toArray 0).run Try.prog w = .ok (.int .i64 f) w := by
  have u := Try.underlying3
  have a := Try.isAgg3
  simp [part, a, adCs]
theorem ad_part17 (f z : Int) (ip : List UInt8) (h : ip.length = 16) (w : World) : (part 3 (adCs f ip z).toArray 17).run Try.prog w = .ok (.int .i64 z) w := by
  have u := Try.underlying3
  have a := Try.isAgg3
  have e : (adCs f ip z)[17]? = some (.int .i64 z) := by
    unfold adCs
    rw [List.getElem?_cons_succ, List.getElem?_append_right (by simp [h]), List.length_map, h]
    rfl
  simp [part, a, e]
theorem ad_part1 (f z : Int) (ip : List UInt8) (h : ip.length = 16) (w : World) : (part 29 (adCs f ip z).toArray 1).run Try.prog w = .ok (.agg (ip.map cellU).toArray) w := by
  have a := Try.isAgg29
  have s := Try.sizeOf29
  have e : List.take 16 (adCs f ip z).tail = ip.map cellU := by
    unfold adCs
    rw [List.tail_cons]
    exact List.take_left' (by simp [h])
  simp [part, a, s, e]
theorem ad_eql (f f' z z' : Int) (ip ip' : List UInt8) (h : ip.length = 16) (h' : ip'.length = 16) (w : World) :
    (binOp .eql 31 (adV f ip z) (adV f' ip' z')).run Try.prog w = .ok (.bool (f == f' && ip == ip' && z == z')) w := by
  have hS : Try.prog.underlying 31 = some (.struct (Try.prog.fieldsOf 31)) := by kernel_rfl
  have hp : Try.prog.stoodInHeld 31 = false := by kernel_rfl
  unfold adV
  rw [run_eql_struct, show (10000 : Nat) = 9999 + 1 from rfl, run_equalIn_agg w 9999 31 _ _ hS hp]
  simp only [Program.fieldsOf, Try.underlying31]
  have pf := ad_part0 f z ip
  have pf' := ad_part0 f' z' ip'
  have pi := ad_part1 f z ip h
  have pi' := ad_part1 f' z' ip' h'
  have pz := ad_part17 f z ip h
  have pz' := ad_part17 f' z' ip' h'
  have ei := ip_eql w 9997 ip ip' h h'
  have ef := run_equalIn_int (P := Try.prog) w 9998 3 .i64 .i64 f f' Try.underlying3
  have ez := run_equalIn_int (P := Try.prog) w 9998 3 .i64 .i64 z z' Try.underlying3
  have n1 : ¬ ("Family" = "_") := by decide
  have n2 : ¬ ("IP" = "_") := by decide
  have n3 : ¬ ("Zone" = "_") := by decide
  simp only [Op.eqFields, Sem.run_bind, Sem.run_ite, pf, pf', pi, pi', pz, pz', ef, ei, ez, Result.andThen_ok, ne_eq, n1, n2, n3, not_false_eq_true, if_true, Sem.run_pure]
  cases h1 : (f == f')
  · simp [Result.andThen]
  · cases h2 : (ip == ip')
    · simp [Result.andThen]
    · cases h3 : (z == z')
      · simp [Result.andThen]
      · simp [Result.andThen]
theorem ad_fam (f z : Int) (ip : List UInt8) : (adCs f ip z).toArray[0]? = some (.int .i64 f) := rfl
theorem ad_zone (f z : Int) (ip : List UInt8) (h : ip.length = 16) : (adCs f ip z).toArray[17]? = some (.int .i64 z) := by
  rw [List.getElem?_toArray]
  unfold adCs
  rw [List.getElem?_cons_succ, List.getElem?_append_right (by simp [h]), List.length_map, h]
  rfl
theorem adCs_one (f : Int) (ip : List UInt8) (z : Int) : (adCs f ip z).toArray.all (·.oneCell') = true := by
  simp [adCs, cellU, Value.oneCell']
theorem adInfo : (Try.prog.info? 31).map (·.size) = some 18 := by kernel_rfl
theorem adZero : (Try.prog.info? 31).map (·.zero) = some (some (.agg (adCs 0 zero16 0).toArray)) := by kernel_rfl
theorem adSize (f : Int) (ip : List UInt8) (z : Int) (h : ip.length = 16) : (Try.prog.info? 31).map (·.size) = some (adCs f ip z).toArray.size := by
  rw [adInfo]; simp [adCs, h]
end Go.Proofs.Ytnoabmkmnddkkaa
