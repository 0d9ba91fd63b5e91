/- Texts behind a law of this seat, in order: Rec. -/
import Derived.Test.YtnoabmkmnddkkaaPa
import Derived.Test.YtnoabmkmnddkkaaPb
import Derived.Test.YtnoabmkmnddkkaaPc
import Derived.Test.YtnoabmkmnddkkaaPd
import Derived.Test.YtnoabmkmnddkkaaPe
import Derived.Test.YtnoabmkmnddkkaaPg
import Derived.Test.YtnoabmkmnddkkaaPy
import Derived.Test.YtnoabmkmnddkkaaPz
import Derived.Below
import Derived.ChangeSlices
import Derived.Deep.AppendLies
import Derived.Deep.Draws
import Derived.Deep.RegionLaw
import Derived.Deep.Slices
import Derived.Great.Ranges
import Derived.Handed
import Derived.Handy
import Derived.Laws.OwnMore
import Derived.Laws.Rows
import Derived.Laws.StructEq
import Derived.Lib.ItoaNum
import Derived.Lib.Split
import Derived.Lib.SplitLaws
import Derived.Lib.Strings
import Derived.OpenShut
import Derived.SizedLaws
import Derived.SliceStrings
import Derived.Stop.BytesEq
import Derived.Test.YtnoabmkmnddkkaaProg
import Derived.WalkKit
import Derived.WalkLawsBesides
import Derived.WalkSpells
/- Layer 13: a record as cells; its parts as values. -/
namespace Go.Proofs.Ytnoabmkmnddkkaa
open Go.RowKit Go
set_option linter.unusedVariables false
set_option linter.unusedSimpArgs false
set_option maxRecDepth 100000
theorem list16 {A : Type} {l : List A} (h : l.length = 16) : ∃ a b c d e f g i j k m n o p q r, l = [a, b, c, d, e, f, g, i, j, k, m, n, o, p, q, r] := by
  match l, h with
  | [a, b, c, d, e, f, g, i, j, k, m, n, o, p, q, r], _ => exact ⟨a, b, c, d, e, f, g, i, j, k, m, n, o, p, q, r, rfl⟩
def rcL (R : Rc Nm) : List Value :=
  (R.nm 0).v :: .int .i64 R.ty :: .int .i64 R.cl :: .int .i64 R.tt :: (adCs R.fam R.ip R.zn ++ [(R.nm 1).v, (R.nm 2).v, .int .i64 (R.nu 0), .int .i64 (R.nu 1), .int .i64 (R.nu 2), .int .i64 (R.nu 3), .int .i64 (R.nu 4), .int .i64 (R.nu 5), .int .i64 (R.nu 6), .int .i64 (R.nu 7), .string ⟨R.raw.toArray⟩])
def rcC (R : Rc Nm) : Array Value := (rcL R).toArray
abbrev rcV (R : Rc Nm) : Value := .agg (rcC R)
def Rc.tx (R : Rc Nm) : Rc Lbs := { R with nm := fun k => (R.nm k).l }
def nilN : Nm := ⟨none, 0, 0, []⟩
section
variable {R : Rc Nm}
theorem rc_len (h : R.ip.length = 16) : (rcL R).length = 33 := by simp [rcL, adCs, h]
theorem rc_size (h : R.ip.length = 16) : (rcC R).size = 33 := by unfold rcC; rw [List.size_toArray, rc_len h]
theorem rcSize (h : R.ip.length = 16) : (Try.prog.info? 34).map (·.size) = some (rcC R).size := by
  rw [rc_size h]; kernel_rfl
theorem rc_nm0 : (rcC R)[0]? = some (R.nm 0).v := rfl
theorem rc_ty : (rcC R)[1]? = some (.int .i64 R.ty) := rfl
theorem rc_cl : (rcC R)[2]? = some (.int .i64 R.cl) := rfl
theorem rc_tt : (rcC R)[3]? = some (.int .i64 R.tt) := rfl
theorem rc_fam : (rcC R)[4]? = some (.int .i64 R.fam) := rfl
theorem rc_back (h : R.ip.length = 16) (k : Nat) : (rcC R)[22 + k]? = [(R.nm 1).v, (R.nm 2).v, .int .i64 (R.nu 0), .int .i64 (R.nu 1), .int .i64 (R.nu 2), .int .i64 (R.nu 3), .int .i64 (R.nu 4), .int .i64 (R.nu 5), .int .i64 (R.nu 6), .int .i64 (R.nu 7), .string ⟨R.raw.toArray⟩][k]? := by
  unfold rcC rcL
  rw [List.getElem?_toArray]
  have hl : (adCs R.fam R.ip R.zn).length = 18 := by rw [adCs_len, h]
  rw [show 22 + k = k + 18 + 1 + 1 + 1 + 1 by omega]
  simp only [List.getElem?_cons_succ]
  rw [List.getElem?_append_right (by omega), hl, Nat.add_sub_cancel]
theorem rc_nm1 (h : R.ip.length = 16) : (rcC R)[22]? = some (R.nm 1).v := rc_back h 0
theorem rc_nm2 (h : R.ip.length = 16) : (rcC R)[23]? = some (R.nm 2).v := rc_back h 1
theorem rc_nu (h : R.ip.length = 16) : ∀ k, k < 8 → (rcC R)[24 + k]? = some (.int .i64 (R.nu k)) :=
  lt8 ⟨rc_back h 2, rc_back h 3, rc_back h 4, rc_back h 5, rc_back h 6, rc_back h 7, rc_back h 8, rc_back h 9⟩
theorem rc_raw (h : R.ip.length = 16) : (rcC R)[32]? = some (.string ⟨R.raw.toArray⟩) := rc_back h 10
/-- the address within -/
theorem rc_ad (h : R.ip.length = 16) (j : Nat) (v : Value) (hv : (adCs R.fam R.ip R.zn)[j]? = some v) : (rcC R)[4 + j]? = some v := by
  unfold rcC rcL
  rw [List.getElem?_toArray, show 4 + j = j + 1 + 1 + 1 + 1 by omega]
  simp only [List.getElem?_cons_succ]
  rw [List.getElem?_append_left (by have := (List.getElem?_eq_some_iff.1 hv).1; exact this)]
  exact hv
theorem rc_zn (h : R.ip.length = 16) : (rcC R)[21]? = some (.int .i64 R.zn) := by
  refine rc_ad h 17 _ ?_
  have := ad_zone R.fam R.zn R.ip h
  rw [List.getElem?_toArray] at this
  exact this
theorem rc_one : (rcC R).all (·.oneCell') = true := by
  simp [rcC, rcL, adCs, cellU, Value.oneCell', Nm.v]
/- one cell written -/
theorem rc_put_nu (h : R.ip.length = 16) (v : Int) : ∀ k, k < 8 → (rcC R).setIfInBounds (24 + k) (.int .i64 v) = rcC { R with nu := upd R.nu k v } := by
  obtain ⟨nm, ty, cl, tt, fam, ip, zn, nu, raw⟩ := R
  obtain ⟨a0, a1, a2, a3, a4, a5, a6, a7, a8, a9, aa, ab, ac, ad, ae, af, rfl⟩ := list16 h
  exact lt8 ⟨rfl, rfl, rfl, rfl, rfl, rfl, rfl, rfl⟩
theorem rc_put_nm (h : R.ip.length = 16) (y : Nm) (k : Nat) (hk : k = 1 ∨ k = 2) : (rcC R).setIfInBounds (21 + k) y.v = rcC { R with nm := upd R.nm k y } := by
  obtain ⟨nm, ty, cl, tt, fam, ip, zn, nu, raw⟩ := R
  obtain ⟨a0, a1, a2, a3, a4, a5, a6, a7, a8, a9, aa, ab, ac, ad, ae, af, rfl⟩ := list16 h
  rcases hk with rfl | rfl <;> rfl
theorem rc_put_raw (h : R.ip.length = 16) (s : List UInt8) : (rcC R).setIfInBounds 32 (.string ⟨s.toArray⟩) = rcC { R with raw := s } := by
  obtain ⟨nm, ty, cl, tt, fam, ip, zn, nu, raw⟩ := R
  obtain ⟨a0, a1, a2, a3, a4, a5, a6, a7, a8, a9, aa, ab, ac, ad, ae, af, rfl⟩ := list16 h
  rfl
theorem rc_put_fam (f : Int) : (rcC R).setIfInBounds 4 (.int .i64 f) = rcC { R with fam := f } := rfl
theorem rc_put_nm0 (y : Nm) : (rcC R).setIfInBounds 0 y.v = rcC { R with nm := upd R.nm 0 y } := rfl
theorem rc_put_ty (v : Int) : (rcC R).setIfInBounds 1 (.int .i64 v) = rcC { R with ty := v } := rfl
theorem rc_put_cl (v : Int) : (rcC R).setIfInBounds 2 (.int .i64 v) = rcC { R with cl := v } := rfl
theorem rc_put_tt (v : Int) : (rcC R).setIfInBounds 3 (.int .i64 v) = rcC { R with tt := v } := rfl
/-- an address written whole -/
theorem rc_put_ad (h : R.ip.length = 16) (f z : Int) (ip' : List UInt8) (h' : ip'.length = 16) : ((rcC R).toList.take 4 ++ adCs f ip' z ++ (rcC R).toList.drop 22).toArray = rcC { R with fam := f, ip := ip', zn := z } := by
  obtain ⟨nm, ty, cl, tt, fam, ip, zn, nu, raw⟩ := R
  obtain ⟨a0, a1, a2, a3, a4, a5, a6, a7, a8, a9, aa, ab, ac, ad, ae, af, rfl⟩ := list16 h
  obtain ⟨b0, b1, b2, b3, b4, b5, b6, b7, b8, b9, ba, bb, bc, bd, be, bf, rfl⟩ := list16 h'
  rfl
/-- the front of an address's bytes written -/
theorem rc_put_ip (h : R.ip.length = 16) (l : List UInt8) (hl : l.length ≤ 16) : ((rcC R).toList.take 5 ++ l.map cellU ++ (rcC R).toList.drop (5 + l.length)).toArray = rcC { R with ip := l ++ R.ip.drop l.length } := by
  have hr : (rcC R).toList = rcL R := rfl
  rw [hr]
  show _ = (rcL _).toArray
  congr 1
  have e1 : (rcL R).take 5 = [(R.nm 0).v, .int .i64 R.ty, .int .i64 R.cl, .int .i64 R.tt, .int .i64 R.fam] := rfl
  have e2 : (rcL R).drop (5 + l.length) = (R.ip.map cellU ++ [Value.int .i64 R.zn] ++ [(R.nm 1).v, (R.nm 2).v, .int .i64 (R.nu 0), .int .i64 (R.nu 1), .int .i64 (R.nu 2), .int .i64 (R.nu 3), .int .i64 (R.nu 4), .int .i64 (R.nu 5), .int .i64 (R.nu 6), .int .i64 (R.nu 7), .string ⟨R.raw.toArray⟩]).drop l.length := by
    rw [Nat.add_comm, show l.length + 5 = l.length + 1 + 1 + 1 + 1 + 1 by omega]
    rfl
  rw [e1, e2, List.append_assoc (R.ip.map cellU), List.drop_append_of_le_length (by rw [List.length_map]; omega)]
  unfold rcL adCs
  simp [List.map_drop]
end
/-- a part of the record in block g: the struct -/
def ptA (g : Nat) : Pt → Value
  | .raw => .agg #[.pointer (some ⟨g, 32, none⟩)]
  | .adr f => .agg #[.pointer (some ⟨g, 4, none⟩), .int .i64 f]
  | .nam k b => .agg #[.pointer (some ⟨g, 21 + k, none⟩), .bool b]
  | .num k w => .agg #[.pointer (some ⟨g, 24 + k, none⟩), .int .i64 w]
def ptT : Pt → TypeId
  | .raw => 62
  | .adr _ => 65
  | .nam _ _ => 68
  | .num _ _ => 71
def ptV (g : Nat) (p : Pt) : Value := .iface (ptT p) (ptA g p)
theorem intInfo1 : (Try.prog.info? 3).map (·.size) = some 1 := by kernel_rfl
theorem strInfo1 : (Try.prog.info? 9).map (·.size) = some 1 := by kernel_rfl
theorem nameInfo1 : (Try.prog.info? 28).map (·.size) = some 1 := by kernel_rfl
end Go.Proofs.Ytnoabmkmnddkkaa
