/- Texts behind a law of this seat, in order: Ref8f, Ref8g. -/
import Derived.Test.YthbdeafbdmbabaaGreatDoorPa
import Derived.Test.YthbdeafbdmbabaaGreatDoorPb
import Derived.Test.YthbdeafbdmbabaaGreatDoorPc
import Derived.Test.YthbdeafbdmbabaaGreatDoorPd
import Derived.Test.YthbdeafbdmbabaaGreatDoorPe
import Derived.Test.YthbdeafbdmbabaaGreatDoorPf
import Derived.Test.YthbdeafbdmbabaaGreatDoorPg
import Derived.Test.YthbdeafbdmbabaaGreatDoorPh
import Derived.Test.YthbdeafbdmbabaaGreatDoorPi
import Derived.Test.YthbdeafbdmbabaaGreatDoorPj
import Derived.Test.YthbdeafbdmbabaaGreatDoorPk
import Derived.Test.YthbdeafbdmbabaaGreatDoorPl
import Derived.Test.YthbdeafbdmbabaaGreatDoorPm
import Derived.Test.YthbdeafbdmbabaaGreatDoorPn
import Derived.Test.YthbdeafbdmbabaaGreatDoorPo
import Derived.Test.YthbdeafbdmbabaaGreatDoorPp
import Derived.Test.YthbdeafbdmbabaaGreatDoorPq
import Derived.Test.YthbdeafbdmbabaaGreatDoorPr
import Derived.Test.YthbdeafbdmbabaaGreatDoorPs
import Derived.Test.YthbdeafbdmbabaaGreatDoorPt
import Derived.Test.YthbdeafbdmbabaaGreatDoorPu
import Derived.Test.YthbdeafbdmbabaaGreatDoorPv
import Derived.Test.YthbdeafbdmbabaaGreatDoorQc
import Derived.Test.YthbdeafbdmbabaaGreatDoorQd
import Derived.Test.YthbdeafbdmbabaaGreatDoorQe
import Derived.Below
import Derived.BigQuiet
import Derived.BigRegion
import Derived.ChangeSlices
import Derived.Deep.AppendLies
import Derived.Deep.Draws
import Derived.Deep.OwnRows
import Derived.Deep.Quiet
import Derived.Deep.QuietTactic
import Derived.Deep.RegionLaw
import Derived.Great.Ranges
import Derived.Handed
import Derived.Laws.AppendOwnNone
import Derived.Laws.Bits64b
import Derived.Laws.BitsAllLaws
import Derived.Laws.CopyOwn
import Derived.Laws.OwnMore
import Derived.Laws.Rows
import Derived.Laws.StructEq
import Derived.Lib.AppendZeros
import Derived.Lib.AppendZerosOnto
import Derived.Lib.Bytealg
import Derived.Lib.Hide
import Derived.Lib.ItoaLen
import Derived.Lib.ItoaMem
import Derived.Lib.ItoaNum
import Derived.Lib.Join
import Derived.Lib.Overlaps
import Derived.Lib.SmallJoins
import Derived.Lib.Split
import Derived.Lib.SplitLaws
import Derived.Lib.Strings
import Derived.OpenShut
import Derived.Shelf.LaysM
import Derived.Shelf.Small.Bits
import Derived.Shelf.Small.Strs
import Derived.Shelf.Strconv.Itoa0
import Derived.Shelf.Strconv.Itoa1
import Derived.Shelf.Strconv.Itoa2
import Derived.Shelf.Strconv.Itoa3
import Derived.Shelf.Strings.Builder1
import Derived.Shelf.Strings.Builder2
import Derived.Shelf.Strings.Builder2Cap
import Derived.Shelf.Strings.BuilderCap
import Derived.Shelf.Strings.BuilderF
import Derived.Shelf.Strings.BuilderK
import Derived.Shelf.Strings.Count
import Derived.Shelf.Strings.Cut
import Derived.Shelf.Strings.OnBuilder
import Derived.Shelf.Strings.Prefix
import Derived.Shelf.Strings.Search1
import Derived.Shelf.Strings.Search2
import Derived.Shelf.Strings.Search3
import Derived.Shelf.Strings.Shaped
import Derived.Shelf.Strings.Split
import Derived.Shelf.Strings.SplitShaped
import Derived.Shelf.Unicode.Decode
import Derived.Shelf.Unicode.DecodeAny
import Derived.Shelf.Unicode.DecodeSlow
import Derived.SizedLaws
import Derived.SliceStrings
import Derived.Stop.BytesEq
import Derived.Test.YthbdeafbdmbabaaGreatDoorProg
import Derived.WalkKit
import Derived.WalkLawsBesides
import Derived.WalkSpells
namespace Go.Proofs.YthbdeafbdmbabaaGreatDoor
open Go.RowKit Go
set_option linter.unusedVariables false
set_option maxRecDepth 100000
def plV (o : Option (List Nat)) : Value := match o with
  | some g => .tuple #[adV 6 (bytesG g) 0, .bool true]
  | none => .tuple #[adV 0 zero16 0, .bool false]
theorem sideN_any (s : ByteArray) (last : Bool) (w : World) (hs : s.size ≤ 4000) (h : sideE last s.data.toList = none) :
    Calls Tryz.prog 93 #[.string s, .bool last] w fun e w' => e = .returned (.tuple #[.slice none 0 0, .bool false]) ∧ Below w.heap.size w w' := by
  refine (refSide_any s last w hs).mono ?_
  rintro e w' (⟨_, he, hb⟩ | ⟨m, hm, _⟩)
  · exact ⟨he, hb⟩
  · rw [h] at hm; cases hm
theorem sideY_any (s : ByteArray) (m : List Nat) (last : Bool) (w : World) (hs : s.size ≤ 4000) (h : sideE last s.data.toList = some m) :
    Calls Tryz.prog 93 #[.string s, .bool last] w fun e w' => SideY m w.heap.size w e w' := by
  refine (refSide_any s last w hs).mono ?_
  rintro e w' (⟨hn, _, _⟩ | ⟨m', hm, hy⟩)
  · rw [h] at hn; cases hn
  · rw [h] at hm
    injection hm with hm
    subst hm
    exact hy
theorem sideW_any (s : ByteArray) (last : Bool) (w : World) (hs : s.size ≤ 4000) :
    Calls Tryz.prog 93 #[.string s, .bool last] w fun e w' => (∃ A n c b, e = .returned (.tuple #[.slice A n c, .bool b])) ∧ Below w.heap.size w w' := by
  refine (refSide_any s last w hs).mono ?_
  rintro e w' (⟨_, he, hb⟩ | ⟨m, _, ⟨A, c, he, _⟩, hb⟩)
  · exact ⟨⟨_, _, _, _, he⟩, hb⟩
  · exact ⟨⟨_, _, _, _, he⟩, hb⟩
theorem side_len2 {last : Bool} {l : List UInt8} {m : List Nat} (h : sideE last l = some m) : m.length ≤ 2 * (l.length + 1) := by
  unfold sideE at h
  split at h
  · injection h with h; subst h; simp
  · have key : ∀ (L : List (List UInt8)) (m : List Nat), sideP last L = some m → m.length ≤ 2 * L.length := by
      intro L
      induction L with
      | nil => intro m h; rw [sideP] at h; injection h with h; subst h; simp
      | cons p r ih =>
        intro m h
        rw [sideP] at h
        split at h
        · obtain ⟨m', h1, rfl⟩ := Option.map_eq_some_iff.1 h
          have := ih m' h1
          simp; omega
        · split at h
          · obtain ⟨b, _, rfl⟩ := Option.map_eq_some_iff.1 h
            simp [grp2]; omega
          · cases h
    have h1 := key _ m h
    have h2 := cutX_len 58 l
    omega
theorem take_two (ip : List UInt8) (g : List Nat) (k : Nat) (a b : UInt8) (hip : ip.length = 16) (hk : k < 8) (hg : g.length = 8) (ht : ip.take (2 * k) = bytesG (g.take k)) (ha : a = byN (g.getD k 0) 8) (hb : b = byN (g.getD k 0) 0) :
    ((ip.set (2 * k) a).set (2 * k + 1) b).take (2 * (k + 1)) = bytesG (g.take (k + 1)) := by
  have e1 : g.take (k + 1) = g.take k ++ [g.getD k 0] := by
    rw [List.take_succ_eq_append_getElem (by omega), List.getD_eq_getElem?_getD, List.getElem?_eq_getElem (by omega)]
    rfl
  rw [e1, bytesG_app, ← ht]
  have e2 : bytesG [g.getD k 0] = [a, b] := by rw [ha, hb]; rfl
  rw [e2, show 2 * (k + 1) = 2 * k + 1 + 1 by omega, List.take_succ_eq_append_getElem (by simp; omega), List.take_succ_eq_append_getElem (by simp; omega)]
  have f1 : ((ip.set (2 * k) a).set (2 * k + 1) b)[2 * k + 1]'(by simp; omega) = b := by simp
  have f2 : ((ip.set (2 * k) a).set (2 * k + 1) b)[2 * k]'(by simp; omega) = a := by
    rw [List.getElem_set_ne (by omega)]
    simp
  have f3 : ((ip.set (2 * k) a).set (2 * k + 1) b).take (2 * k) = ip.take (2 * k) := by
    rw [List.take_set_of_le (by omega), List.take_set_of_le (by omega)]
  rw [f1, f2, f3]
  simp
theorem occ2 (s : ByteArray) (k : Nat) (h : k + 2 ≤ s.size) : Lib.occAt s.data.toList [58, 58] k = ((s.extract k (k + 2)).toList == [58, 58]) := by
  have := Lib.occ_of_piece s ⟨#[58, 58]⟩ k h
  rw [show (⟨#[58, 58]⟩ : ByteArray).toList = [58, 58] by rw [ByteArray.toList_eq]] at this
  exact this
theorem idx_none2 (s : ByteArray) (k : Nat) (h : ¬ k + 1 < s.size) (hno : ∀ j, j < k → Lib.occAt s.data.toList [58, 58] j = false) : Lib.index s.data.toList [58, 58] = -1 := by
  refine Lib.index_none fun j hj => ?_
  by_cases hjk : j < k
  · exact hno j hjk
  · cases ho : Lib.occAt s.data.toList [58, 58] j with
    | false => rfl
    | true =>
      exfalso
      rcases Lib.occAt_room ho with hr | hr
      · rw [← Lib.size_eq] at hr
        have : ([58, 58] : List UInt8).length = 2 := rfl
        omega
      · cases hr
def plW (y : Option (List Nat)) : Option (List Nat) := match y with
  | some m => if m.length = 8 then some m else none
  | none => none
def plM (x y : Option (List Nat)) : Option (List Nat) := match x, y with
  | some x, some y => if x.length + y.length ≤ 7 then some (x ++ noughtsN (8 - x.length - y.length) ++ y) else none
  | _, _ => none
theorem plM_n1 (y : Option (List Nat)) : plM none y = none := rfl
theorem plM_n2 (x : Option (List Nat)) : plM x none = none := by cases x <;> rfl
theorem plM_s (x y : List Nat) : plM (some x) (some y) = if x.length + y.length ≤ 7 then some (x ++ noughtsN (8 - x.length - y.length) ++ y) else none := rfl
theorem plW_s (y : List Nat) : plW (some y) = if y.length = 8 then some y else none := rfl
theorem plain_whole {l : List UInt8} (h : Lib.index l [58, 58] = -1) : plainE l = plW (sideE true l) := by
  unfold plainE plW; rw [if_pos h]; cases sideE true l <;> rfl
theorem plain_gap {l : List UInt8} {i : Nat} (h : Lib.index l [58, 58] = i) : plainE l = plM (sideE false (l.take i)) (sideE true (l.drop (i + 2))) := by
  unfold plainE plM
  rw [h, if_neg (by omega), Int.toNat_natCast]
  cases sideE false (l.take i) with
  | none => rfl
  | some x => cases sideE true (l.drop (i + 2)) <;> rfl
def lenOf : Value → Nat
  | .slice _ n _ => n
  | _ => 0
theorem lenOf_own {w : World} {B e n : Nat} {v : Value} {xs : List Value} (h : w.ownsRow B e 1 v n xs) : lenOf v = n := by
  rcases h.2 with ⟨rfl, h0⟩ | ⟨g, cap, cur, rfl, _⟩
  · exact h0.symm
  · rfl
/-- 'append(out, b...)' of integers that lie somewhere, or nowhere -/
theorem wpList_appInts0 {P : Program} {w : World} {ops : Array Oper} {rest : List Oper} {o : Oper} {a : Act} {Q : Exit → Act → World → Prop} (hgd : o.guard = none) (s x : Operand) (t e : TypeId)
    (ho : o.op = .call { callee := .builtin .append, args := #[s, x], argTypes := #[t, t] }) (ht : P.underlying t = some (.slice e)) {z : Value} {bytes : Nat} (hI : Elem1 P e z bytes) (hzs : z.cells.size = 1)
    (base : Nat) (v : Value) (n m c : Nat) (A : Option Addr) (q : IntKind) (xs : List Value) (l : List Int) (hs : a.eval s = v) (hx : a.eval x = .slice A m c) (hA : A = none → c = 0) (hl : IntsAt w q A m l) (hown : w.ownsRow base e 1 v n xs)
    (hm : m ≤ 100000) (hb : (n + m) * bytes ≤ 140737488355328) (hn : n + m ≤ 140737488355328) (hbase : base ≤ w.heap.size)
    (h : ∀ v' w', w'.ownsRow base e 1 v' (n + m) (xs ++ intVs q l) → Below base w w' → wpList P ops Q rest (a.put o.dst v') w') : wpList P ops Q (o :: rest) a w := by
  obtain ⟨i, hi, hz, h1, h2⟩ := info_parts hI
  have hlen : l.length = m := hl.1.symm
  match A, hA with
  | none, hA =>
    have h0 : m = 0 := by
      refine Decidable.byContradiction fun h => ?_
      obtain ⟨b, o, h2, _⟩ := hl.2 (by omega)
      cases h2
    have hc := hA rfl
    subst h0
    subst hc
    obtain rfl := List.length_eq_zero_iff.1 hlen
    refine wpList_append_own_none hgd s x t ho base e i 1 ht hi v n xs hs hown hx ?_
    refine h v w ?_ (Below.refl _ _)
    simpa [intVs] using hown
  | some ad, _ =>
    refine wpList_append_own w hgd s x t ho base e i z 1 bytes ht hi hz h1 h2 hzs (by decide) v n xs hs hown ad m c (intVs q l) hx (by rw [intVs_len]; omega) ?_ ?_ ?_ hb hbase ?_
    · intro j y hj
      have hjl : j < l.length := by
        have := (List.getElem?_eq_some_iff.1 hj).1
        rwa [intVs_len] at this
      obtain ⟨b, o', h2, hlt, hc⟩ := hl.2 (by omega)
      obtain rfl : ad = ⟨b, o', none⟩ := by simpa using h2
      have hadd : (⟨b, o', none⟩ : Addr).add j = ⟨b, o' + j, none⟩ := by unfold Addr.add; split <;> simp_all
      rw [hadd, hc j hjl]
      simp [intVs, hjl] at hj
      rw [← hj]
    · intro y hy
      obtain ⟨z, _, rfl⟩ := List.mem_map.1 hy
      rfl
    · unfold maxLen; omega
    · intro v' w' hown' hgrow hnil
      refine h v' w' hown' ?_
      exact (Below.refl base w).grown hgrow hbase (fun k hk => (hown.lt k hk).1)
set_option maxHeartbeats 8000000 in
theorem refPlain8_any (s : ByteArray) (w : World) (hs : s.size ≤ 4000) :
    Calls Tryz.prog 68 #[.string s] w fun e w' => e = .returned (plV (plainE s.data.toList)) ∧ Below w.heap.size w w' := by
  have S := Ats.start w
  have hlen := fun g (h : plainE s.data.toList = some g) => plainE_len h
  have hlt := fun g (h : plainE s.data.toList = some g) => plainE_lt h
  have hocc := fun k h => occ2 s k h
  have hin := idx_none2 s
  have hfirst : ∀ i, i ≤ s.data.toList.length → Lib.occAt s.data.toList [58, 58] i = true → (∀ j, j < i → Lib.occAt s.data.toList [58, 58] j = false) → Lib.index s.data.toList [58, 58] = i := fun i h1 h2 h3 => Lib.index_first h1 h2 h3
  rw [← Lib.size_eq] at hfirst
  have hpw := plain_whole (l := s.data.toList)
  have hpg := fun i => plain_gap (l := s.data.toList) (i := i)
  have hw1 := fun wr => sideN_any s true wr hs
  have hw2 := fun m wr => sideY_any s m true wr hs
  obtain ⟨O, hO⟩ : ∃ O, O = plainE s.data.toList := ⟨_, rfl⟩
  rw [← hO] at hpw ⊢
  simp only [← hO] at hlen hlt hpg
  obtain ⟨oc, hoc⟩ : ∃ oc : Nat → Bool, oc = fun k => Lib.occAt s.data.toList [58, 58] k := ⟨_, rfl⟩
  obtain ⟨ix, hix⟩ : ∃ ix, ix = Lib.index s.data.toList [58, 58] := ⟨_, rfl⟩
  rw [← hix] at hin hpw hfirst
  simp only [← hix] at hpg
  have hocc' : ∀ k, k + 2 ≤ s.size → oc k = ((s.extract k (k + 2)).toList == [58, 58]) := fun k h => by rw [hoc]; exact hocc k h
  have hin' : ∀ k, ¬ k + 1 < s.size → (∀ j, j < k → oc j = false) → ix = -1 := fun k h h' => hin k h (fun j hj => by have := h' j hj; rw [hoc] at this; exact this)
  have hfirst' : ∀ i : Nat, i ≤ s.size → oc i = true → (∀ j, j < i → oc j = false) → ix = i := fun i h1 h2 h3 => hfirst i h1 (by rw [hoc] at h2; exact h2) (fun j hj => by have := h3 j hj; rw [hoc] at this; exact this)
  have HOC := Lib.hid hocc'
  have HIN := Lib.hid hin'
  have HFI := Lib.hid hfirst'
  have HPW := Lib.hid hpw
  have HPG := Lib.hid hpg
  have HLE := Lib.hid hlen
  have HLT := Lib.hid hlt
  have HW1 := Lib.hid hw1
  have HW2 := Lib.hid hw2
  clear hlen hlt hocc hocc' hin hin' hfirst hfirst' hpw hpg hO hoc hix hw1 hw2
  go_enter Tryz.func68, Tryz.ntmps68
  go_wp2_with (first | ((with_reducible show wpList _ _ _ (Oper.mk (some 2) (Op.alloc _) _ _ _ _ :: _) _ _); refine wpList_allocS rfl _ rfl _ adZero S ?_; clear S; intro gr w1 S))
  go_loop [4, 5] (fun a i => ∃ k : Nat, i = .int .i64 k ∧ k ≤ s.size + 1 ∧ ((a = .int .i64 (-1) ∧ ∀ j, j < k → oc j = false) ∨ (∃ j : Nat, a = .int .i64 j ∧ ix = j ∧ j + 2 ≤ s.size))) (fun _ i => s.size + 2 - (intOf i).toNat)
  case atStart => exact ⟨0, rfl, Nat.zero_le _, .inl ⟨rfl, fun j h => absurd h (Nat.not_lt_zero _)⟩⟩
  case round =>
    obtain ⟨k, rfl, hk, hcase⟩ := hrel
    rcases hcase with ⟨rfl, hno⟩ | ⟨j, rfl, hj, hj2⟩
    · have HNO := Lib.hid hno
      clear hno
      by_cases hk1 : k + 1 < s.size
      · have ho := HOC.out k (by omega)
        obtain ⟨b, hb⟩ : ∃ b, b = oc k := ⟨_, rfl⟩
        rw [← hb] at ho
        have ho' := ho.symm
        have HB := Lib.hid hb
        clear ho hb
        cases b with
        | true =>
          have hf := HFI.out k (by omega) HB.out.symm HNO.out
          have HF := Lib.hid hf
          clear hf
          go_wp2_with fail
          go_round
          case rel => exact ⟨k + 1, by go_num, by omega, .inr ⟨k, rfl, HF.out, by omega⟩⟩
          case measure => simp [intOf]; omega
        | false =>
          go_wp2_with fail
          go_round
          case rel => exact ⟨k + 1, by go_num, by omega, .inl ⟨rfl, fun j hj => by
            by_cases e : j = k
            · rw [e]; exact HB.out.symm
            · exact HNO.out j (by omega)⟩⟩
          case measure => simp [intOf]; omega
      · have hpw := HPW.out (HIN.out k hk1 HNO.out)
        cases hx : sideE true s.data.toList with
        | none =>
          rw [hx] at hpw
          have HO := Lib.hid (show O = none from hpw)
          have HX := Lib.hid (fun wr => HW1.out wr hx)
          clear hpw hx
          go_wp2_with (first
            | ((with_reducible refine (HX.out _).mono ?_); rintro e w3 ⟨rfl, hb⟩; have S := S.call hb; clear hb)
            | ((with_reducible show wpList _ _ _ (Oper.mk _ (Op.store _ (Operand.tmp 2) _) _ _ _ _ :: _) _ _); refine wpList_storeS rfl _ _ _ rfl S _ rfl _ rfl 0 _ _ rfl adInfo (by rfl) (by simp [Value.oneCell']) ?_; clear S; intro w1 S; (first | simp only [List.set_cons_zero] at S | simp only [List.set_cons_succ, List.set_cons_zero] at S | skip)))
          exact bodyPost_ret (results_cell2S rfl _ S _ 0 _ _ _ rfl rfl Tryz.underlying24 rfl adInfo) rfl ⟨by rw [HO.out]; rfl, S.below⟩
        | some g =>
          rw [hx, plW_s] at hpw
          have hl2 := side_len2 hx
          rw [← Lib.size_eq] at hl2
          have HX := Lib.hid (fun wr => HW2.out g wr hx)
          by_cases h8 : g.length = 8
          · rw [if_pos h8] at hpw
            have HO := Lib.hid hpw
            have HG8 := Lib.hid h8
            have HGB := Lib.hid (HLT.out g hpw)
            have hx8 : ∀ wr, Calls Tryz.prog 93 #[.string s, .bool true] wr fun e w' => (∃ A c, e = .returned (.tuple #[.slice A 8 c, .bool true]) ∧ IntsAt w' .i64 A 8 (gInts g)) ∧ Below wr.heap.size wr w' := fun wr => by
              have := HW2.out g wr hx
              unfold SideY at this
              rw [h8] at this
              exact this.mono fun e w' ⟨⟨A, c, h1, h2, _⟩, h3⟩ => ⟨⟨A, c, h1, h2⟩, h3⟩
            have HX8 := Lib.hid hx8
            clear hpw hx h8 HX hx8
            go_wp2_with fail
            with_reducible refine (HX8.out _).mono ?_
            rintro e w5 ⟨⟨A, c, rfl, hi⟩, hb⟩
            have S0 := S.call hb
            have HI := Lib.hid hi
            clear hb hi S
            have S := Ats.start w5
            go_wp2_with (first
              | ((with_reducible show wpList _ _ _ (Oper.mk (some 13) (Op.alloc _) _ _ _ _ :: _) _ _); refine wpList_allocS rfl _ rfl _ adZero S ?_; clear S; intro ga w1 S)
              | ((with_reducible show wpList _ _ _ (Oper.mk _ (Op.store _ (Operand.tmp 13) _) _ _ _ _ :: _) _ _); refine wpList_storeS rfl _ _ _ rfl S _ rfl _ rfl 0 _ _ rfl adInfo (by rfl) (by simp [Value.oneCell']) ?_; clear S; intro w1 S; (first | simp only [List.set_cons_zero] at S | simp only [List.set_cons_succ, List.set_cons_zero] at S | skip)))
            go_loopw [14] (fun i wr => ∃ (k : Nat) (ip : List UInt8), i = .int .i64 k ∧ k ≤ 8 ∧ ip.length = 16 ∧ ip.take (2 * k) = bytesG (g.take k) ∧ Ats w5.heap.size w5 wr [(ga, 24, (adCs 6 ip 0).toArray)]) (fun i _ => 8 - (intOf i).toNat)
            case atStart => exact ⟨0, zero16, rfl, Nat.zero_le _, rfl, rfl, S⟩
            case round =>
              obtain ⟨k, ip, rfl, hk, hipl, htk, S⟩ := hrel
              have HTK := Lib.hid htk
              clear htk
              by_cases hlt : k < 8
              · obtain ⟨bA, oA, hAe, hbA, hcell⟩ := HI.out.2 (by decide)
                subst hAe
                have hk8 : k < (gInts g).length := by rw [gInts_len, HG8.out]; exact hlt
                have h1 := hcell k hk8
                have hgk : (gInts g)[k] = ((g.getD k 0 : Nat) : Int) := by
                  rw [List.getD_eq_getElem?_getD, List.getElem?_eq_getElem (by rw [HG8.out]; exact hlt)]
                  simp [gInts]
                rw [hgk] at h1
                have hn65 : g.getD k 0 < 65536 := by
                  rw [List.getD_eq_getElem?_getD, List.getElem?_eq_getElem (by rw [HG8.out]; exact hlt)]
                  exact HGB.out _ (List.getElem_mem _)
                have htt := take_two ip g k _ _ hipl hlt HG8.out HTK.out rfl rfl
                obtain ⟨n, hn⟩ : ∃ n, n = g.getD k 0 := ⟨_, rfl⟩
                rw [← hn] at h1 hn65 htt
                obtain ⟨e1, e2⟩ := byte2 n hn65
                have e2' : IntKind.u8.wrap ((n : Int) % 256) = ((byN n 0).toNat : Nat) := by rw [← e2, IntKind.wrap_u8', IntKind.wrap_u8']; omega
                have q1 : (n : Int).tdiv 256 = (n : Int) / 256 := Int.tdiv_eq_ediv_of_nonneg (by omega)
                have q2 : (n : Int).tmod 256 = (n : Int) % 256 := Int.tmod_eq_emod_of_nonneg (by omega)
                have x1 : (2 * (k : Int)).toNat = 2 * k := by omega
                have x2 : (2 * (k : Int) + 1).toNat = 2 * k + 1 := by omega
                have hset1 := ad_setByte 6 0 ip (2 * k) (byN n 8) (by omega)
                have hset2 := ad_setByte 6 0 (ip.set (2 * k) (byN n 8)) (2 * k + 1) (byN n 0) (by rw [List.length_set]; omega)
                have hs1 : 1 + 2 * k < (adCs 6 ip 0).toArray.size := by rw [List.size_toArray, adCs_len, hipl]; omega
                have hs2 : 1 + (2 * k + 1) < (adCs 6 (ip.set (2 * k) (byN n 8)) 0).toArray.size := by rw [List.size_toArray, adCs_len, List.length_set, hipl]; omega
                have HTT := Lib.hid htt
                clear htt hgk hcell hk8 hn e2
                go_wp2_with (first
                  | ((with_reducible show wpList _ _ _ (Oper.mk _ (Op.load _ _) _ _ _ _ :: _) _ _); refine wpList_oldS rfl _ _ rfl S _ rfl _ (by with_reducible exact h1) _ Tryz.underlying3 rfl ?_)
                  | (((with_reducible show wpList _ _ _ (Oper.mk _ (Op.store _ (Operand.tmp 108) _) _ _ _ _ :: _) _ _); refine wpList_putS rfl _ _ _ rfl S _ _ rfl _ rfl rfl rfl 0 _ _ rfl u8Size (by exact hs1) ?_; clear S; intro w1 S; (first | simp only [List.set_cons_zero] at S | simp only [List.set_cons_succ, List.set_cons_zero] at S | skip)); have S : Ats w5.heap.size w5 w1 [(ga, 24, (adCs 6 (ip.set (2 * k) (byN n 8)) 0).toArray)] := by rw [← hset1]; exact S)
                  | (((with_reducible show wpList _ _ _ (Oper.mk _ (Op.store _ (Operand.tmp 119) _) _ _ _ _ :: _) _ _); refine wpList_putS rfl _ _ _ rfl S _ _ rfl _ rfl rfl rfl 0 _ _ rfl u8Size (by exact hs2) ?_; clear S; intro w1 S; (first | simp only [List.set_cons_zero] at S | simp only [List.set_cons_succ, List.set_cons_zero] at S | skip)); have S : Ats w5.heap.size w5 w1 [(ga, 24, (adCs 6 ((ip.set (2 * k) (byN n 8)).set (2 * k + 1) (byN n 0)) 0).toArray)] := by rw [← hset2]; exact S))
                go_roundw
                case rel => exact ⟨k + 1, _, by go_num, by omega, by simp; exact hipl, HTT.out, S⟩
                case measure => simp [intOf]; omega
              · obtain rfl : k = 8 := by omega
                have hfin : ip = bytesG g := by
                  have := HTK.out
                  rw [List.take_of_length_le (by omega), List.take_of_length_le (by rw [HG8.out]; exact Nat.le_refl _)] at this
                  exact this
                have hsz := adSize 6 ip 0 hipl
                have HFI := Lib.hid hfin
                clear hfin hlt
                have S1 := S0.join S
                clear S
                have S := S1
                clear S1
                go_wp2_with (first
                  | ((with_reducible show wpList _ _ _ (Oper.mk _ (Op.load _ (Operand.tmp 13)) _ _ _ _ :: _) _ _); refine wpList_loadS rfl _ _ rfl S _ rfl 0 _ _ rfl _ Tryz.underlying24 rfl hsz ?_)
                  | ((with_reducible show wpList _ _ _ (Oper.mk _ (Op.store _ (Operand.tmp 2) _) _ _ _ _ :: _) _ _); refine wpList_storeS rfl _ _ _ rfl S _ rfl _ rfl 1 _ _ rfl hsz (by exact ad_sizes _ _ _ _ _ _ rfl hipl) (by exact adCs_one _ _ _) ?_; clear S; intro w1 S; (first | simp only [List.set_cons_zero] at S | simp only [List.set_cons_succ, List.set_cons_zero] at S | skip)))
                exact bodyPost_ret (results_cell2S rfl _ S _ 1 _ _ _ rfl rfl Tryz.underlying24 rfl hsz) rfl ⟨by rw [HO.out, HFI.out]; rfl, S.below⟩
          · rw [if_neg h8] at hpw
            have HO := Lib.hid hpw
            have t45 : ((g.length : Int) != 8) = true := by rw [bne_iff_ne]; omega
            have t45n : (g.length != 8) = true := by rw [bne_iff_ne]; exact h8
            clear hpw hx h8
            go_wp2_with (first
              | ((with_reducible refine (HX.out _).mono ?_); rintro e w3 ⟨⟨A, c, rfl, _, _⟩, hb⟩; have S := S.call hb; clear hb)
              | ((with_reducible show wpList _ _ _ (Oper.mk _ (Op.store _ (Operand.tmp 2) _) _ _ _ _ :: _) _ _); refine wpList_storeS rfl _ _ _ rfl S _ rfl _ rfl 0 _ _ rfl adInfo (by rfl) (by simp [Value.oneCell']) ?_; clear S; intro w1 S; (first | simp only [List.set_cons_zero] at S | simp only [List.set_cons_succ, List.set_cons_zero] at S | skip)))
            exact bodyPost_ret (results_cell2S rfl _ S _ 0 _ _ _ rfl rfl Tryz.underlying24 rfl adInfo) rfl ⟨by rw [HO.out]; rfl, S.below⟩
    · obtain ⟨b19, hb19⟩ : ∃ b, decide ((k : Int) + 1 < s.size) = b := ⟨_, rfl⟩
      have hb19n : decide (k + 1 < s.size) = b19 := by rw [← hb19]; exact decide_eq_decide.2 (by omega)
      cases b19
      all_goals
        have hpg := HPG.out j hj
        have ex1 : (s.extract 0 j).data.toList = s.data.toList.take j := Lib.extract_from_zero s j
        have ex2 : (s.extract (j + 2) s.size).data.toList = s.data.toList.drop (j + 2) := extract_tail s (j + 2)
        have sz1 : (s.extract 0 j).size ≤ 4000 := by rw [ByteArray.size_extract]; omega
        have sz2 : (s.extract (j + 2) s.size).size ≤ 4000 := by rw [ByteArray.size_extract]; omega
        have c1 := sideN_any (s.extract 0 j) false
        have c2 := fun m => sideY_any (s.extract 0 j) m false
        have c3 := sideN_any (s.extract (j + 2) s.size) true
        have c4 := fun m => sideY_any (s.extract (j + 2) s.size) m true
        have c5 := fun wr => sideW_any (s.extract (j + 2) s.size) true wr sz2
        rw [ex1] at c1
        rw [ex2] at c3
        simp only [ex1] at c2
        simp only [ex2] at c4
        have hj' : j + 2 ≤ s.size := hj2
        cases hx : sideE false (s.data.toList.take j) with
        | none =>
          rw [hx, plM_n1] at hpg
          have HO := Lib.hid hpg
          have HX := Lib.hid (fun wr => c1 wr sz1 hx)
          have HY := Lib.hid c5
          clear hpg hx c1 c2 c3 c4 c5 ex1 ex2 sz1 sz2 hj
          go_wp2_with fail
          with_reducible refine (HX.out _).mono ?_
          rintro e w3 ⟨rfl, hb⟩
          have S := S.call hb
          clear hb
          go_wp2_with fail
          with_reducible refine (HY.out _).mono ?_
          rintro e w4 ⟨⟨A, n, c, bb, rfl⟩, hb⟩
          have S := S.call hb
          clear hb
          cases bb
          all_goals
            go_wp2_with (first | ((with_reducible show wpList _ _ _ (Oper.mk _ (Op.store _ (Operand.tmp 2) _) _ _ _ _ :: _) _ _); refine wpList_storeS rfl _ _ _ rfl S _ rfl _ rfl 0 _ _ rfl adInfo (by rfl) (by simp [Value.oneCell']) ?_; clear S; intro w1 S; (first | simp only [List.set_cons_zero] at S | simp only [List.set_cons_succ, List.set_cons_zero] at S | skip)))
            exact bodyPost_ret (results_cell2S rfl _ S _ 0 _ _ _ rfl rfl Tryz.underlying24 rfl adInfo) rfl ⟨by rw [HO.out]; rfl, S.below⟩
        | some x =>
          cases hy : sideE true (s.data.toList.drop (j + 2)) with
          | none =>
            rw [hx, hy, plM_n2] at hpg
            have HO := Lib.hid hpg
            have HX := Lib.hid (fun wr => c2 x wr sz1 hx)
            have HY := Lib.hid (fun wr => c3 wr sz2 hy)
            clear hpg hx hy c1 c2 c3 c4 c5 ex1 ex2 sz1 sz2 hj
            go_wp2_with fail
            with_reducible refine (HX.out _).mono ?_
            rintro e w3 ⟨⟨A, c, rfl, _, _⟩, hb⟩
            have S := S.call hb
            clear hb
            go_wp2_with fail
            with_reducible refine (HY.out _).mono ?_
            rintro e w4 ⟨rfl, hb⟩
            have S := S.call hb
            clear hb
            go_wp2_with (first | ((with_reducible show wpList _ _ _ (Oper.mk _ (Op.store _ (Operand.tmp 2) _) _ _ _ _ :: _) _ _); refine wpList_storeS rfl _ _ _ rfl S _ rfl _ rfl 0 _ _ rfl adInfo (by rfl) (by simp [Value.oneCell']) ?_; clear S; intro w1 S; (first | simp only [List.set_cons_zero] at S | simp only [List.set_cons_succ, List.set_cons_zero] at S | skip)))
            exact bodyPost_ret (results_cell2S rfl _ S _ 0 _ _ _ rfl rfl Tryz.underlying24 rfl adInfo) rfl ⟨by rw [HO.out]; rfl, S.below⟩
          | some y =>
            rw [hx, hy, plM_s] at hpg
            have lx := side_len2 hx
            have ly := side_len2 hy
            rw [List.length_take] at lx
            rw [List.length_drop] at ly
            rw [← Lib.size_eq] at lx ly
            have lx' : x.length ≤ 9000 := by omega
            have ly' : y.length ≤ 9000 := by omega
            have HX := Lib.hid (fun wr => c2 x wr sz1 hx)
            have HY := Lib.hid (fun wr => c4 y wr sz2 hy)
            clear lx ly hx hy c1 c2 c3 c4 c5 ex1 ex2 sz1 sz2 hj
            have hwr : IntKind.i64.wrap ((x.length : Int) + y.length) = x.length + y.length := IntWalk.i64_in _ (by omega)
            by_cases h7 : x.length + y.length ≤ 7
            · rw [if_pos h7] at hpg
              obtain ⟨g, hg⟩ : ∃ g, g = x ++ noughtsN (8 - x.length - y.length) ++ y := ⟨_, rfl⟩
              rw [← hg] at hpg
              have HO := Lib.hid hpg
              have HG8 := Lib.hid (HLE.out g hpg)
              have HGB := Lib.hid (HLT.out g hpg)
              have HGE := Lib.hid hg
              have d76 : decide ((7 : Int) < (x.length : Int) + y.length) = false := by rw [decide_eq_false_iff_not]; omega
              clear hpg hg
              go_wp2_with fail
              with_reducible refine (HX.out _).mono ?_
              rintro e w3 ⟨⟨A1, c1, rfl, hi1, ha1⟩, hb⟩
              have S := S.call hb
              have HI1 := Lib.hid hi1
              have HA1 := Lib.hid ha1
              clear hb hi1 ha1
              go_wp2_with fail
              with_reducible refine (HY.out _).mono ?_
              rintro e w4 ⟨⟨A2, c2, rfl, hi2, ha2⟩, hb⟩
              have S := S.call hb
              have HI1' := Lib.hid (HI1.out.below hb)
              have HI2 := Lib.hid hi2
              have HA2 := Lib.hid ha2
              clear hb hi2 ha2 HI1
              go_wp2_with ((with_reducible show wpList _ _ _ (Oper.mk (some 81) _ _ _ _ _ :: _) _ _); refine wpList_appInts0 rfl (.tmp 79) (.tmp 80) 102 3 rfl Tryz.underlying102 elemI rfl w4.heap.size _ 0 x.length c1 A1 .i64 [] (gInts x) rfl rfl HA1.out HI1'.out (World.ownsRow_nil _ _ _ _) (by omega) (by omega) (by omega) (Nat.le_refl _) ?_)
              intro v1 w6 hown1 hb1
              have hown2 : w6.ownsRow w4.heap.size 3 1 v1 x.length (intVs .i64 (gInts x)) := by simpa using hown1
              have HOW := Lib.hid hown2
              clear hown1 hown2
              go_wp2_with fail
              go_loopw [6] (fun v wr => ∃ n : Nat, wr.ownsRow w4.heap.size 3 1 v (x.length + n) (intVs .i64 (gInts (x ++ noughtsN n))) ∧ x.length + n + y.length ≤ 8 ∧ Below w4.heap.size w4 wr) (fun v wr => 8 - (lenOf v + y.length))
              case atStart => exact ⟨0, by simpa [noughtsN] using HOW.out, by omega, hb1⟩
              case round =>
                obtain ⟨n, hown, hn8, HB⟩ := hrel
                have HO6 := Lib.hid hown
                obtain ⟨A6, c6, rfl, _⟩ := of_own2 hown
                clear hown HOW
                have hwr2 : IntKind.i64.wrap (((x.length + n : Nat) : Int) + y.length) = (x.length + n : Nat) + y.length := IntWalk.i64_in _ (by omega)
                obtain ⟨m, hm⟩ : ∃ m, m = x.length + n := ⟨_, rfl⟩
                rw [← hm] at HO6 hn8 hwr2 ⊢
                have HMM := Lib.hid hm
                clear hm
                by_cases hlt : m + y.length < 8
                · have d87 : decide ((m : Int) + y.length < 8) = true := by rw [decide_eq_true_eq]; omega
                  go_wp2_with (at_builtin; refine wpList_app1 rfl (.tmp 88) (.tmp 89) 102 3 rfl Tryz.underlying102 elemI rfl w4.heap.size _ m _ _ rfl rfl HO6.out rfl (by omega) (by omega) HB.size ?_)
                  intro v7 w7 hown7 hb7 _
                  have hown8 : w7.ownsRow w4.heap.size 3 1 v7 (x.length + (n + 1)) (intVs .i64 (gInts (x ++ noughtsN (n + 1)))) := by
                    have h1 := own_gInt (k := 0) hown7
                    rw [show x ++ noughtsN (n + 1) = x ++ noughtsN n ++ [0] by unfold noughtsN; rw [List.replicate_succ', List.append_assoc], show x.length + (n + 1) = m + 1 by rw [HMM.out]; omega]
                    exact h1
                  have HB7 := HB.trans hb7
                  have hl7 := lenOf_own hown8
                  have HO8 := Lib.hid hown8
                  clear hown7 hown8 HO6
                  go_wp2_with fail
                  go_roundw
                  case rel => exact ⟨n + 1, HO8.out, by have := HMM.out; omega, HB7⟩
                  case measure => rw [hl7]; simp [lenOf]; have := HMM.out; omega
                · have d87 : decide ((m : Int) + y.length < 8) = false := by rw [decide_eq_false_iff_not]; omega
                  have hn : n = 8 - x.length - y.length := by have := HMM.out; omega
                  have HN := Lib.hid hn
                  have hm8 : m + y.length = 8 := by omega
                  have HM8 := Lib.hid hm8
                  clear hlt hn hm8
                  go_wp2_with ((with_reducible show wpList _ _ _ (Oper.mk (some 93) _ _ _ _ _ :: _) _ _); refine wpList_appInts0 rfl (.tmp 91) (.tmp 92) 102 3 rfl Tryz.underlying102 elemI rfl w4.heap.size _ m y.length c2 A2 .i64 _ (gInts y) rfl rfl HA2.out (HI2.out.below HB) HO6.out (by omega) (by omega) (by omega) HB.size ?_)
                  intro v8 w5 hown8 hb8
                  have hown9 : w5.ownsRow w4.heap.size 3 1 v8 8 (intVs .i64 (gInts g)) := by
                    have h1 := hown8
                    rw [HM8.out] at h1
                    rw [HGE.out, ← HN.out]
                    have e : intVs .i64 (gInts (x ++ noughtsN n ++ y)) = intVs .i64 (gInts (x ++ noughtsN n)) ++ intVs .i64 (gInts y) := by simp [intVs, gInts]
                    rw [e]
                    exact h1
                  obtain ⟨A, c, rfl, hi, _⟩ := of_own2 hown9
                  have HI := Lib.hid hi
                  have S0 := S.call (HB.trans hb8)
                  clear hown8 hown9 hi hb8 HO6 S
                  have S := Ats.start w5
                  go_wp2_with (first
                    | ((with_reducible show wpList _ _ _ (Oper.mk (some 13) (Op.alloc _) _ _ _ _ :: _) _ _); refine wpList_allocS rfl _ rfl _ adZero S ?_; clear S; intro ga w1 S)
                    | ((with_reducible show wpList _ _ _ (Oper.mk _ (Op.store _ (Operand.tmp 13) _) _ _ _ _ :: _) _ _); refine wpList_storeS rfl _ _ _ rfl S _ rfl _ rfl 0 _ _ rfl adInfo (by rfl) (by simp [Value.oneCell']) ?_; clear S; intro w1 S; (first | simp only [List.set_cons_zero] at S | simp only [List.set_cons_succ, List.set_cons_zero] at S | skip)))
                  go_loopw [14] (fun i wr => ∃ (k : Nat) (ip : List UInt8), i = .int .i64 k ∧ k ≤ 8 ∧ ip.length = 16 ∧ ip.take (2 * k) = bytesG (g.take k) ∧ Ats w5.heap.size w5 wr [(ga, 24, (adCs 6 ip 0).toArray)]) (fun i _ => 8 - (intOf i).toNat)
                  case atStart => exact ⟨0, zero16, rfl, Nat.zero_le _, rfl, rfl, S⟩
                  case round =>
                    obtain ⟨k, ip, rfl, hk, hipl, htk, S⟩ := hrel
                    have HTK := Lib.hid htk
                    clear htk
                    by_cases hlt : k < 8
                    · obtain ⟨bA, oA, hAe, hbA, hcell⟩ := HI.out.2 (by decide)
                      subst hAe
                      have hk8 : k < (gInts g).length := by rw [gInts_len, HG8.out]; exact hlt
                      have h1 := hcell k hk8
                      have hgk : (gInts g)[k] = ((g.getD k 0 : Nat) : Int) := by
                        rw [List.getD_eq_getElem?_getD, List.getElem?_eq_getElem (by rw [HG8.out]; exact hlt)]
                        simp [gInts]
                      rw [hgk] at h1
                      have hn65 : g.getD k 0 < 65536 := by
                        rw [List.getD_eq_getElem?_getD, List.getElem?_eq_getElem (by rw [HG8.out]; exact hlt)]
                        exact HGB.out _ (List.getElem_mem _)
                      have htt := take_two ip g k _ _ hipl hlt HG8.out HTK.out rfl rfl
                      obtain ⟨n, hn⟩ : ∃ n, n = g.getD k 0 := ⟨_, rfl⟩
                      rw [← hn] at h1 hn65 htt
                      obtain ⟨e1, e2⟩ := byte2 n hn65
                      have e2' : IntKind.u8.wrap ((n : Int) % 256) = ((byN n 0).toNat : Nat) := by rw [← e2, IntKind.wrap_u8', IntKind.wrap_u8']; omega
                      have q1 : (n : Int).tdiv 256 = (n : Int) / 256 := Int.tdiv_eq_ediv_of_nonneg (by omega)
                      have q2 : (n : Int).tmod 256 = (n : Int) % 256 := Int.tmod_eq_emod_of_nonneg (by omega)
                      have x1 : (2 * (k : Int)).toNat = 2 * k := by omega
                      have x2 : (2 * (k : Int) + 1).toNat = 2 * k + 1 := by omega
                      have hset1 := ad_setByte 6 0 ip (2 * k) (byN n 8) (by omega)
                      have hset2 := ad_setByte 6 0 (ip.set (2 * k) (byN n 8)) (2 * k + 1) (byN n 0) (by rw [List.length_set]; omega)
                      have hs1 : 1 + 2 * k < (adCs 6 ip 0).toArray.size := by rw [List.size_toArray, adCs_len, hipl]; omega
                      have hs2 : 1 + (2 * k + 1) < (adCs 6 (ip.set (2 * k) (byN n 8)) 0).toArray.size := by rw [List.size_toArray, adCs_len, List.length_set, hipl]; omega
                      have HTT := Lib.hid htt
                      clear htt hgk hcell hk8 hn e2
                      go_wp2_with (first
                        | ((with_reducible show wpList _ _ _ (Oper.mk _ (Op.load _ _) _ _ _ _ :: _) _ _); refine wpList_oldS rfl _ _ rfl S _ rfl _ (by with_reducible exact h1) _ Tryz.underlying3 rfl ?_)
                        | (((with_reducible show wpList _ _ _ (Oper.mk _ (Op.store _ (Operand.tmp 108) _) _ _ _ _ :: _) _ _); refine wpList_putS rfl _ _ _ rfl S _ _ rfl _ rfl rfl rfl 0 _ _ rfl u8Size (by exact hs1) ?_; clear S; intro w1 S; (first | simp only [List.set_cons_zero] at S | simp only [List.set_cons_succ, List.set_cons_zero] at S | skip)); have S : Ats w5.heap.size w5 w1 [(ga, 24, (adCs 6 (ip.set (2 * k) (byN n 8)) 0).toArray)] := by rw [← hset1]; exact S)
                        | (((with_reducible show wpList _ _ _ (Oper.mk _ (Op.store _ (Operand.tmp 119) _) _ _ _ _ :: _) _ _); refine wpList_putS rfl _ _ _ rfl S _ _ rfl _ rfl rfl rfl 0 _ _ rfl u8Size (by exact hs2) ?_; clear S; intro w1 S; (first | simp only [List.set_cons_zero] at S | simp only [List.set_cons_succ, List.set_cons_zero] at S | skip)); have S : Ats w5.heap.size w5 w1 [(ga, 24, (adCs 6 ((ip.set (2 * k) (byN n 8)).set (2 * k + 1) (byN n 0)) 0).toArray)] := by rw [← hset2]; exact S))
                      go_roundw
                      case rel => exact ⟨k + 1, _, by go_num, by omega, by simp; exact hipl, HTT.out, S⟩
                      case measure => simp [intOf]; omega
                    · obtain rfl : k = 8 := by omega
                      have hfin : ip = bytesG g := by
                        have := HTK.out
                        rw [List.take_of_length_le (by omega), List.take_of_length_le (by rw [HG8.out]; exact Nat.le_refl _)] at this
                        exact this
                      have hsz := adSize 6 ip 0 hipl
                      have HFI := Lib.hid hfin
                      clear hfin hlt
                      have S1 := S0.join S
                      clear S
                      have S := S1
                      clear S1
                      go_wp2_with (first
                        | ((with_reducible show wpList _ _ _ (Oper.mk _ (Op.load _ (Operand.tmp 13)) _ _ _ _ :: _) _ _); refine wpList_loadS rfl _ _ rfl S _ rfl 0 _ _ rfl _ Tryz.underlying24 rfl hsz ?_)
                        | ((with_reducible show wpList _ _ _ (Oper.mk _ (Op.store _ (Operand.tmp 2) _) _ _ _ _ :: _) _ _); refine wpList_storeS rfl _ _ _ rfl S _ rfl _ rfl 1 _ _ rfl hsz (by exact ad_sizes _ _ _ _ _ _ rfl hipl) (by exact adCs_one _ _ _) ?_; clear S; intro w1 S; (first | simp only [List.set_cons_zero] at S | simp only [List.set_cons_succ, List.set_cons_zero] at S | skip)))
                      exact bodyPost_ret (results_cell2S rfl _ S _ 1 _ _ _ rfl rfl Tryz.underlying24 rfl hsz) rfl ⟨by rw [HO.out, HFI.out]; rfl, S.below⟩
            · rw [if_neg h7] at hpg
              have HO := Lib.hid hpg
              have d76 : decide ((7 : Int) < (x.length : Int) + y.length) = true := by rw [decide_eq_true_eq]; omega
              clear hpg
              go_wp2_with fail
              with_reducible refine (HX.out _).mono ?_
              rintro e w3 ⟨⟨A, c, rfl, _, _⟩, hb⟩
              have S := S.call hb
              clear hb
              go_wp2_with fail
              with_reducible refine (HY.out _).mono ?_
              rintro e w4 ⟨⟨A', c', rfl, _, _⟩, hb⟩
              have S := S.call hb
              clear hb
              go_wp2_with (first | ((with_reducible show wpList _ _ _ (Oper.mk _ (Op.store _ (Operand.tmp 2) _) _ _ _ _ :: _) _ _); refine wpList_storeS rfl _ _ _ rfl S _ rfl _ rfl 0 _ _ rfl adInfo (by rfl) (by simp [Value.oneCell']) ?_; clear S; intro w1 S; (first | simp only [List.set_cons_zero] at S | simp only [List.set_cons_succ, List.set_cons_zero] at S | skip)))
              exact bodyPost_ret (results_cell2S rfl _ S _ 0 _ _ _ rfl rfl Tryz.underlying24 rfl adInfo) rfl ⟨by rw [HO.out]; rfl, S.below⟩
end Go.Proofs.YthbdeafbdmbabaaGreatDoor
namespace Go.Proofs.YthbdeafbdmbabaaGreatDoor
open Go.RowKit Go
set_option linter.unusedVariables false
set_option maxRecDepth 100000
theorem plV_some (g : List Nat) : plV (some g) = .tuple #[adV 6 (bytesG g) 0, .bool true] := rfl
theorem plV_none : plV none = .tuple #[adV 0 zero16 0, .bool false] := rfl
set_option maxHeartbeats 4000000 in
theorem refParse8_any (s : ByteArray) (w : World) (hs : s.size ≤ 4000) :
    Calls Tryz.prog 45 #[.string s] w fun e w' => e = .returned (adTupZ (colonE s.data.toList)) ∧ Below w.heap.size w w' := by
  have S := Ats.start w
  have hsz := Lib.size_eq s
  have hcut := fun wr => refCut_any s 37 wr (by omega)
  have hpl := fun wr => refPlain8_any ⟨(s.data.toList.take (cutK s.data.toList 37)).toArray⟩ wr (by show (s.data.toList.take _).length ≤ 4000; rw [List.length_take]; omega)
  have hnum := fun wr => refNumber_any ⟨(s.data.toList.drop (cutK s.data.toList 37 + 1)).toArray⟩ 2147483647 wr (by show (s.data.toList.drop _).length ≤ 4000; rw [List.length_drop]; omega) (by decide) (by decide)
  have e1 : (⟨(s.data.toList.take (cutK s.data.toList 37)).toArray⟩ : ByteArray).data.toList = s.data.toList.take (cutK s.data.toList 37) := rfl
  have e2 : (⟨(s.data.toList.drop (cutK s.data.toList 37 + 1)).toArray⟩ : ByteArray).data.toList = s.data.toList.drop (cutK s.data.toList 37 + 1) := rfl
  rw [e1] at hpl
  rw [e2] at hnum
  have hE : colonE s.data.toList = colonE s.data.toList := rfl
  conv at hE => rhs; unfold colonE octE
  obtain ⟨R, hR⟩ : ∃ R, R = colonE s.data.toList := ⟨_, rfl⟩
  rw [← hR] at hE ⊢
  obtain ⟨O, hO⟩ : ∃ O, O = plainE (s.data.toList.take (cutK s.data.toList 37)) := ⟨_, rfl⟩
  have hOl : ∀ g, O = some g → (bytesG g).length = 16 := fun g h => by rw [bytesG_len, plainE_len (hO ▸ h)]
  rw [← hO] at hE hpl
  obtain ⟨k, hk⟩ : ∃ k, k = cutK s.data.toList 37 := ⟨_, rfl⟩
  have hx1 := ba_ext s k
  have hx2 := ba_ext2 s k
  rw [← hk] at hE hpl hnum
  obtain ⟨N, hN⟩ : ∃ N, N = numR (s.data.toList.drop (k + 1)) 2147483647 := ⟨_, rfl⟩
  have hnum2 : ∀ wr, Calls Tryz.prog 69 #[.string ⟨(s.data.toList.drop (k + 1)).toArray⟩, .int .i64 2147483647] wr fun e w' => e = .returned (.tuple #[.int .i64 N.1, .int .i64 N.2]) ∧ wr = w' := fun wr => (hnum wr).mono fun e w' ⟨h, h'⟩ => ⟨by rw [hN]; exact numP_R h, h'⟩
  rw [← hN] at hE
  by_cases hlt : k < s.size
  · have hcut2 : ∀ wr, Calls Tryz.prog 67 #[.string s, .int .u8 37] wr fun e w' => e = .returned (.tuple #[.string ⟨(s.data.toList.take k).toArray⟩, .string ⟨(s.data.toList.drop (k + 1)).toArray⟩, .bool true]) ∧ Below wr.heap.size wr w' := fun wr => (hcut wr).mono fun e w' ⟨h, h'⟩ => ⟨by
      rcases h with ⟨_, h⟩ | ⟨h, _⟩
      · rw [h, CutHit, ← hk, hx1, hx2]
      · omega, h'⟩
    have HC := Lib.hid hcut2
    have HO := Lib.hid hpl
    have HN := Lib.hid hnum2
    clear hcut hcut2 hpl hnum hnum2 hx1 hx2 hR hO e1 e2
    cases O with
    | none =>
      rw [plV_none] at HO
      simp only [Option.map_none] at hE
      have HE := Lib.hid hE
      have hbl : zero16.length = 16 := rfl
      have has := adSize 0 zero16 0 rfl
      clear hE hsz hk hN hOl
      go_enter Tryz.func45, Tryz.ntmps45
      go_wp2_with (first
        | ((with_reducible show wpList _ _ _ (Oper.mk (some 2) (Op.alloc _) _ _ _ _ :: _) _ _); refine wpList_allocS rfl _ rfl _ adZero S ?_; clear S; intro gr w1 S)
        | ((with_reducible show wpList _ _ _ (Oper.mk (some 7) (Op.alloc _) _ _ _ _ :: _) _ _); refine wpList_allocS rfl _ rfl _ adZero S ?_; clear S; intro ga w1 S)
        | ((with_reducible refine (HC.out _).mono ?_); rintro e w2 ⟨rfl, hb⟩; have S := S.call hb; clear hb)
        | ((with_reducible refine (HO.out _).mono ?_); rintro e w2 ⟨rfl, hb⟩; have S := S.call hb; clear hb)
        | ((with_reducible refine (HN.out _).mono ?_); rintro e w2 ⟨rfl, hq⟩; subst hq)
        | ((with_reducible show wpList _ _ _ (Oper.mk _ (Op.store _ (Operand.tmp 7) _) _ _ _ _ :: _) _ _); refine wpList_storeS rfl _ _ _ rfl S _ rfl _ rfl 0 _ _ rfl has (by exact ad_sizes _ _ _ _ _ _ rfl hbl) (by exact adCs_one _ _ _) ?_; clear S; intro w1 S; (first | simp only [List.set_cons_zero] at S | simp only [List.set_cons_succ, List.set_cons_zero] at S | skip))
        | (((with_reducible show wpList _ _ _ (Oper.mk _ (Op.store _ (Operand.tmp 42) _) _ _ _ _ :: _) _ _); refine wpList_putS rfl _ _ _ rfl S _ _ rfl _ rfl rfl rfl 0 _ _ rfl intSize (by rw [ad_size18 _ _ _ hbl]; decide) ?_; clear S; intro w1 S; (first | simp only [List.set_cons_zero] at S | simp only [List.set_cons_succ, List.set_cons_zero] at S | skip)); try (have S : Ats w.heap.size w w1 [(ga, 24, (adCs 6 b n).toArray), (gr, 24, (adCs 0 zero16 0).toArray)] := by rw [← hzn]; exact S))
        | ((with_reducible show wpList _ _ _ (Oper.mk _ (Op.load _ (Operand.tmp 7)) _ _ _ _ :: _) _ _); refine wpList_loadS rfl _ _ rfl S _ rfl 0 _ _ rfl _ Tryz.underlying24 rfl has ?_)
        | ((with_reducible show wpList _ _ _ (Oper.mk _ (Op.store _ (Operand.tmp 2) _) _ _ _ _ :: _) _ _); refine wpList_storeS rfl _ _ _ rfl S _ rfl _ rfl 1 _ _ rfl has (by exact ad_sizes _ _ _ _ _ _ rfl hbl) (by exact adCs_one _ _ _) ?_; clear S; intro w1 S; (first | simp only [List.set_cons_zero] at S | simp only [List.set_cons_succ, List.set_cons_zero] at S | skip))
        | ((with_reducible show wpList _ _ _ (Oper.mk _ (Op.store _ (Operand.tmp 2) _) _ _ _ _ :: _) _ _); refine wpList_storeS rfl _ _ _ rfl S _ rfl _ rfl 1 _ _ rfl adInfo (by rfl) (by first | exact adCs_one _ _ _ | simp [Value.oneCell']) ?_; clear S; intro w1 S; (first | simp only [List.set_cons_zero] at S | simp only [List.set_cons_succ, List.set_cons_zero] at S | skip)))
      exact bodyPost_ret (results_cell2S rfl _ S _ 1 _ _ _ rfl rfl Tryz.underlying24 rfl adInfo) rfl ⟨by rw [HE.out]; rfl, S.below⟩
    | some g =>
      have hbl := hOl g rfl
      rw [plV_some] at HO
      simp only [Option.map_some] at hE
      rw [if_neg (by omega)] at hE
      obtain ⟨b, hb⟩ : ∃ b, b = bytesG g := ⟨_, rfl⟩
      rw [← hb] at hbl HO hE
      have HE := Lib.hid hE
      clear hE hsz hk hN hOl hb
      have has := adSize 6 b 0 hbl
      obtain ⟨n, er⟩ := N
      simp only at HN HE
      by_cases h0 : er = 0
      · have t36 : (er != 0) = false := by simpa using h0
        have t32 : (er == 0) = true := by simpa using h0
        by_cases hn0 : n = 0
        · have t40 : (n == 0) = true := by simpa using hn0
          have hE := HE.out
          rw [if_neg (by simpa using h0), if_pos hn0] at hE
          have HE := Lib.hid hE
          clear hE h0 hn0
          go_enter Tryz.func45, Tryz.ntmps45
          go_wp2_with (first
            | ((with_reducible show wpList _ _ _ (Oper.mk (some 2) (Op.alloc _) _ _ _ _ :: _) _ _); refine wpList_allocS rfl _ rfl _ adZero S ?_; clear S; intro gr w1 S)
            | ((with_reducible show wpList _ _ _ (Oper.mk (some 7) (Op.alloc _) _ _ _ _ :: _) _ _); refine wpList_allocS rfl _ rfl _ adZero S ?_; clear S; intro ga w1 S)
            | ((with_reducible refine (HC.out _).mono ?_); rintro e w2 ⟨rfl, hb⟩; have S := S.call hb; clear hb)
            | ((with_reducible refine (HO.out _).mono ?_); rintro e w2 ⟨rfl, hb⟩; have S := S.call hb; clear hb)
            | ((with_reducible refine (HN.out _).mono ?_); rintro e w2 ⟨rfl, hq⟩; subst hq)
            | ((with_reducible show wpList _ _ _ (Oper.mk _ (Op.store _ (Operand.tmp 7) _) _ _ _ _ :: _) _ _); refine wpList_storeS rfl _ _ _ rfl S _ rfl _ rfl 0 _ _ rfl has (by exact ad_sizes _ _ _ _ _ _ rfl hbl) (by exact adCs_one _ _ _) ?_; clear S; intro w1 S; (first | simp only [List.set_cons_zero] at S | simp only [List.set_cons_succ, List.set_cons_zero] at S | skip))
            | (((with_reducible show wpList _ _ _ (Oper.mk _ (Op.store _ (Operand.tmp 42) _) _ _ _ _ :: _) _ _); refine wpList_putS rfl _ _ _ rfl S _ _ rfl _ rfl rfl rfl 0 _ _ rfl intSize (by rw [ad_size18 _ _ _ hbl]; decide) ?_; clear S; intro w1 S; (first | simp only [List.set_cons_zero] at S | simp only [List.set_cons_succ, List.set_cons_zero] at S | skip)); try (have S : Ats w.heap.size w w1 [(ga, 24, (adCs 6 b n).toArray), (gr, 24, (adCs 0 zero16 0).toArray)] := by rw [← hzn]; exact S))
            | ((with_reducible show wpList _ _ _ (Oper.mk _ (Op.load _ (Operand.tmp 7)) _ _ _ _ :: _) _ _); refine wpList_loadS rfl _ _ rfl S _ rfl 0 _ _ rfl _ Tryz.underlying24 rfl has ?_)
            | ((with_reducible show wpList _ _ _ (Oper.mk _ (Op.store _ (Operand.tmp 2) _) _ _ _ _ :: _) _ _); refine wpList_storeS rfl _ _ _ rfl S _ rfl _ rfl 1 _ _ rfl has (by exact ad_sizes _ _ _ _ _ _ rfl hbl) (by exact adCs_one _ _ _) ?_; clear S; intro w1 S; (first | simp only [List.set_cons_zero] at S | simp only [List.set_cons_succ, List.set_cons_zero] at S | skip))
            | ((with_reducible show wpList _ _ _ (Oper.mk _ (Op.store _ (Operand.tmp 2) _) _ _ _ _ :: _) _ _); refine wpList_storeS rfl _ _ _ rfl S _ rfl _ rfl 1 _ _ rfl adInfo (by rfl) (by first | exact adCs_one _ _ _ | simp [Value.oneCell']) ?_; clear S; intro w1 S; (first | simp only [List.set_cons_zero] at S | simp only [List.set_cons_succ, List.set_cons_zero] at S | skip)))
          exact bodyPost_ret (results_cell2S rfl _ S _ 1 _ _ _ rfl rfl Tryz.underlying24 rfl adInfo) rfl ⟨by rw [HE.out]; rfl, S.below⟩
        · have t40 : (n == 0) = false := by simpa using hn0
          have hE := HE.out
          rw [if_neg (by simpa using h0), if_neg hn0] at hE
          have HE := Lib.hid hE
          have hzn := ad_setZone 6 0 n b hbl
          have has2 := adSize 6 b n hbl
          clear hE h0 hn0
          go_enter Tryz.func45, Tryz.ntmps45
          go_wp2_with (first
            | ((with_reducible show wpList _ _ _ (Oper.mk (some 2) (Op.alloc _) _ _ _ _ :: _) _ _); refine wpList_allocS rfl _ rfl _ adZero S ?_; clear S; intro gr w1 S)
            | ((with_reducible show wpList _ _ _ (Oper.mk (some 7) (Op.alloc _) _ _ _ _ :: _) _ _); refine wpList_allocS rfl _ rfl _ adZero S ?_; clear S; intro ga w1 S)
            | ((with_reducible refine (HC.out _).mono ?_); rintro e w2 ⟨rfl, hb⟩; have S := S.call hb; clear hb)
            | ((with_reducible refine (HO.out _).mono ?_); rintro e w2 ⟨rfl, hb⟩; have S := S.call hb; clear hb)
            | ((with_reducible refine (HN.out _).mono ?_); rintro e w2 ⟨rfl, hq⟩; subst hq)
            | ((with_reducible show wpList _ _ _ (Oper.mk _ (Op.store _ (Operand.tmp 7) _) _ _ _ _ :: _) _ _); refine wpList_storeS rfl _ _ _ rfl S _ rfl _ rfl 0 _ _ rfl has (by exact ad_sizes _ _ _ _ _ _ rfl hbl) (by exact adCs_one _ _ _) ?_; clear S; intro w1 S; (first | simp only [List.set_cons_zero] at S | simp only [List.set_cons_succ, List.set_cons_zero] at S | skip))
            | (((with_reducible show wpList _ _ _ (Oper.mk _ (Op.store _ (Operand.tmp 42) _) _ _ _ _ :: _) _ _); refine wpList_putS rfl _ _ _ rfl S _ _ rfl _ rfl rfl rfl 0 _ _ rfl intSize (by rw [ad_size18 _ _ _ hbl]; decide) ?_; clear S; intro w1 S; (first | simp only [List.set_cons_zero] at S | simp only [List.set_cons_succ, List.set_cons_zero] at S | skip)); try (have S : Ats w.heap.size w w1 [(ga, 24, (adCs 6 b n).toArray), (gr, 24, (adCs 0 zero16 0).toArray)] := by rw [← hzn]; exact S))
            | ((with_reducible show wpList _ _ _ (Oper.mk _ (Op.load _ (Operand.tmp 7)) _ _ _ _ :: _) _ _); refine wpList_loadS rfl _ _ rfl S _ rfl 0 _ _ rfl _ Tryz.underlying24 rfl has2 ?_)
            | ((with_reducible show wpList _ _ _ (Oper.mk _ (Op.store _ (Operand.tmp 2) _) _ _ _ _ :: _) _ _); refine wpList_storeS rfl _ _ _ rfl S _ rfl _ rfl 1 _ _ rfl has2 (by exact ad_sizes _ _ _ _ _ _ rfl hbl) (by exact adCs_one _ _ _) ?_; clear S; intro w1 S; (first | simp only [List.set_cons_zero] at S | simp only [List.set_cons_succ, List.set_cons_zero] at S | skip))
            | ((with_reducible show wpList _ _ _ (Oper.mk _ (Op.store _ (Operand.tmp 2) _) _ _ _ _ :: _) _ _); refine wpList_storeS rfl _ _ _ rfl S _ rfl _ rfl 1 _ _ rfl adInfo (by rfl) (by first | exact adCs_one _ _ _ | simp [Value.oneCell']) ?_; clear S; intro w1 S; (first | simp only [List.set_cons_zero] at S | simp only [List.set_cons_succ, List.set_cons_zero] at S | skip)))
          exact bodyPost_ret (results_cell2S rfl _ S _ 1 _ _ _ rfl rfl Tryz.underlying24 rfl has2) rfl ⟨by rw [HE.out]; rfl, S.below⟩
      · have t36 : (er != 0) = true := by simpa using h0
        have t32 : (er == 0) = false := by simpa using h0
        have hE := HE.out
        rw [if_pos h0] at hE
        have HE := Lib.hid hE
        clear hE h0
        go_enter Tryz.func45, Tryz.ntmps45
        go_wp2_with (first
          | ((with_reducible show wpList _ _ _ (Oper.mk (some 2) (Op.alloc _) _ _ _ _ :: _) _ _); refine wpList_allocS rfl _ rfl _ adZero S ?_; clear S; intro gr w1 S)
          | ((with_reducible show wpList _ _ _ (Oper.mk (some 7) (Op.alloc _) _ _ _ _ :: _) _ _); refine wpList_allocS rfl _ rfl _ adZero S ?_; clear S; intro ga w1 S)
          | ((with_reducible refine (HC.out _).mono ?_); rintro e w2 ⟨rfl, hb⟩; have S := S.call hb; clear hb)
          | ((with_reducible refine (HO.out _).mono ?_); rintro e w2 ⟨rfl, hb⟩; have S := S.call hb; clear hb)
          | ((with_reducible refine (HN.out _).mono ?_); rintro e w2 ⟨rfl, hq⟩; subst hq)
          | ((with_reducible show wpList _ _ _ (Oper.mk _ (Op.store _ (Operand.tmp 7) _) _ _ _ _ :: _) _ _); refine wpList_storeS rfl _ _ _ rfl S _ rfl _ rfl 0 _ _ rfl has (by exact ad_sizes _ _ _ _ _ _ rfl hbl) (by exact adCs_one _ _ _) ?_; clear S; intro w1 S; (first | simp only [List.set_cons_zero] at S | simp only [List.set_cons_succ, List.set_cons_zero] at S | skip))
          | (((with_reducible show wpList _ _ _ (Oper.mk _ (Op.store _ (Operand.tmp 42) _) _ _ _ _ :: _) _ _); refine wpList_putS rfl _ _ _ rfl S _ _ rfl _ rfl rfl rfl 0 _ _ rfl intSize (by rw [ad_size18 _ _ _ hbl]; decide) ?_; clear S; intro w1 S; (first | simp only [List.set_cons_zero] at S | simp only [List.set_cons_succ, List.set_cons_zero] at S | skip)); try (have S : Ats w.heap.size w w1 [(ga, 24, (adCs 6 b n).toArray), (gr, 24, (adCs 0 zero16 0).toArray)] := by rw [← hzn]; exact S))
          | ((with_reducible show wpList _ _ _ (Oper.mk _ (Op.load _ (Operand.tmp 7)) _ _ _ _ :: _) _ _); refine wpList_loadS rfl _ _ rfl S _ rfl 0 _ _ rfl _ Tryz.underlying24 rfl has ?_)
          | ((with_reducible show wpList _ _ _ (Oper.mk _ (Op.store _ (Operand.tmp 2) _) _ _ _ _ :: _) _ _); refine wpList_storeS rfl _ _ _ rfl S _ rfl _ rfl 1 _ _ rfl has (by exact ad_sizes _ _ _ _ _ _ rfl hbl) (by exact adCs_one _ _ _) ?_; clear S; intro w1 S; (first | simp only [List.set_cons_zero] at S | simp only [List.set_cons_succ, List.set_cons_zero] at S | skip))
          | ((with_reducible show wpList _ _ _ (Oper.mk _ (Op.store _ (Operand.tmp 2) _) _ _ _ _ :: _) _ _); refine wpList_storeS rfl _ _ _ rfl S _ rfl _ rfl 1 _ _ rfl adInfo (by rfl) (by first | exact adCs_one _ _ _ | simp [Value.oneCell']) ?_; clear S; intro w1 S; (first | simp only [List.set_cons_zero] at S | simp only [List.set_cons_succ, List.set_cons_zero] at S | skip)))
        exact bodyPost_ret (results_cell2S rfl _ S _ 1 _ _ _ rfl rfl Tryz.underlying24 rfl adInfo) rfl ⟨by rw [HE.out]; rfl, S.below⟩
  · have hcut2 : ∀ wr, Calls Tryz.prog 67 #[.string s, .int .u8 37] wr fun e w' => e = .returned (.tuple #[.string s, .string ⟨#[]⟩, .bool false]) ∧ Below wr.heap.size wr w' := fun wr => (hcut wr).mono fun e w' ⟨h, h'⟩ => ⟨by
      rcases h with ⟨h, _⟩ | ⟨_, h⟩
      · omega
      · exact h, h'⟩
    have htk : (⟨(s.data.toList.take k).toArray⟩ : ByteArray) = s := by
      rw [List.take_of_length_le (by omega)]
    rw [htk] at hpl
    have HC := Lib.hid hcut2
    have HO := Lib.hid hpl
    have HN := Lib.hid hnum2
    clear hcut hcut2 hpl hnum hnum2 hx1 hx2 hR hO e1 e2 htk
    cases O with
    | none =>
      rw [plV_none] at HO
      simp only [Option.map_none] at hE
      have HE := Lib.hid hE
      have hbl : zero16.length = 16 := rfl
      have has := adSize 0 zero16 0 rfl
      clear hE hsz hk hN hOl
      go_enter Tryz.func45, Tryz.ntmps45
      go_wp2_with (first
        | ((with_reducible show wpList _ _ _ (Oper.mk (some 2) (Op.alloc _) _ _ _ _ :: _) _ _); refine wpList_allocS rfl _ rfl _ adZero S ?_; clear S; intro gr w1 S)
        | ((with_reducible show wpList _ _ _ (Oper.mk (some 7) (Op.alloc _) _ _ _ _ :: _) _ _); refine wpList_allocS rfl _ rfl _ adZero S ?_; clear S; intro ga w1 S)
        | ((with_reducible refine (HC.out _).mono ?_); rintro e w2 ⟨rfl, hb⟩; have S := S.call hb; clear hb)
        | ((with_reducible refine (HO.out _).mono ?_); rintro e w2 ⟨rfl, hb⟩; have S := S.call hb; clear hb)
        | ((with_reducible refine (HN.out _).mono ?_); rintro e w2 ⟨rfl, hq⟩; subst hq)
        | ((with_reducible show wpList _ _ _ (Oper.mk _ (Op.store _ (Operand.tmp 7) _) _ _ _ _ :: _) _ _); refine wpList_storeS rfl _ _ _ rfl S _ rfl _ rfl 0 _ _ rfl has (by exact ad_sizes _ _ _ _ _ _ rfl hbl) (by exact adCs_one _ _ _) ?_; clear S; intro w1 S; (first | simp only [List.set_cons_zero] at S | simp only [List.set_cons_succ, List.set_cons_zero] at S | skip))
        | (((with_reducible show wpList _ _ _ (Oper.mk _ (Op.store _ (Operand.tmp 42) _) _ _ _ _ :: _) _ _); refine wpList_putS rfl _ _ _ rfl S _ _ rfl _ rfl rfl rfl 0 _ _ rfl intSize (by rw [ad_size18 _ _ _ hbl]; decide) ?_; clear S; intro w1 S; (first | simp only [List.set_cons_zero] at S | simp only [List.set_cons_succ, List.set_cons_zero] at S | skip)); try (have S : Ats w.heap.size w w1 [(ga, 24, (adCs 6 b n).toArray), (gr, 24, (adCs 0 zero16 0).toArray)] := by rw [← hzn]; exact S))
        | ((with_reducible show wpList _ _ _ (Oper.mk _ (Op.load _ (Operand.tmp 7)) _ _ _ _ :: _) _ _); refine wpList_loadS rfl _ _ rfl S _ rfl 0 _ _ rfl _ Tryz.underlying24 rfl has ?_)
        | ((with_reducible show wpList _ _ _ (Oper.mk _ (Op.store _ (Operand.tmp 2) _) _ _ _ _ :: _) _ _); refine wpList_storeS rfl _ _ _ rfl S _ rfl _ rfl 1 _ _ rfl has (by exact ad_sizes _ _ _ _ _ _ rfl hbl) (by exact adCs_one _ _ _) ?_; clear S; intro w1 S; (first | simp only [List.set_cons_zero] at S | simp only [List.set_cons_succ, List.set_cons_zero] at S | skip))
        | ((with_reducible show wpList _ _ _ (Oper.mk _ (Op.store _ (Operand.tmp 2) _) _ _ _ _ :: _) _ _); refine wpList_storeS rfl _ _ _ rfl S _ rfl _ rfl 1 _ _ rfl adInfo (by rfl) (by first | exact adCs_one _ _ _ | simp [Value.oneCell']) ?_; clear S; intro w1 S; (first | simp only [List.set_cons_zero] at S | simp only [List.set_cons_succ, List.set_cons_zero] at S | skip)))
      exact bodyPost_ret (results_cell2S rfl _ S _ 1 _ _ _ rfl rfl Tryz.underlying24 rfl adInfo) rfl ⟨by rw [HE.out]; rfl, S.below⟩
    | some g =>
      have hbl := hOl g rfl
      rw [plV_some] at HO
      simp only [Option.map_some] at hE
      rw [if_pos (by omega)] at hE
      obtain ⟨b, hb⟩ : ∃ b, b = bytesG g := ⟨_, rfl⟩
      rw [← hb] at hbl HO hE
      have HE := Lib.hid hE
      clear hE hsz hk hN hOl hb
      have has := adSize 6 b 0 hbl
      go_enter Tryz.func45, Tryz.ntmps45
      go_wp2_with (first
        | ((with_reducible show wpList _ _ _ (Oper.mk (some 2) (Op.alloc _) _ _ _ _ :: _) _ _); refine wpList_allocS rfl _ rfl _ adZero S ?_; clear S; intro gr w1 S)
        | ((with_reducible show wpList _ _ _ (Oper.mk (some 7) (Op.alloc _) _ _ _ _ :: _) _ _); refine wpList_allocS rfl _ rfl _ adZero S ?_; clear S; intro ga w1 S)
        | ((with_reducible refine (HC.out _).mono ?_); rintro e w2 ⟨rfl, hb⟩; have S := S.call hb; clear hb)
        | ((with_reducible refine (HO.out _).mono ?_); rintro e w2 ⟨rfl, hb⟩; have S := S.call hb; clear hb)
        | ((with_reducible refine (HN.out _).mono ?_); rintro e w2 ⟨rfl, hq⟩; subst hq)
        | ((with_reducible show wpList _ _ _ (Oper.mk _ (Op.store _ (Operand.tmp 7) _) _ _ _ _ :: _) _ _); refine wpList_storeS rfl _ _ _ rfl S _ rfl _ rfl 0 _ _ rfl has (by exact ad_sizes _ _ _ _ _ _ rfl hbl) (by exact adCs_one _ _ _) ?_; clear S; intro w1 S; (first | simp only [List.set_cons_zero] at S | simp only [List.set_cons_succ, List.set_cons_zero] at S | skip))
        | (((with_reducible show wpList _ _ _ (Oper.mk _ (Op.store _ (Operand.tmp 42) _) _ _ _ _ :: _) _ _); refine wpList_putS rfl _ _ _ rfl S _ _ rfl _ rfl rfl rfl 0 _ _ rfl intSize (by rw [ad_size18 _ _ _ hbl]; decide) ?_; clear S; intro w1 S; (first | simp only [List.set_cons_zero] at S | simp only [List.set_cons_succ, List.set_cons_zero] at S | skip)); try (have S : Ats w.heap.size w w1 [(ga, 24, (adCs 6 b n).toArray), (gr, 24, (adCs 0 zero16 0).toArray)] := by rw [← hzn]; exact S))
        | ((with_reducible show wpList _ _ _ (Oper.mk _ (Op.load _ (Operand.tmp 7)) _ _ _ _ :: _) _ _); refine wpList_loadS rfl _ _ rfl S _ rfl 0 _ _ rfl _ Tryz.underlying24 rfl has ?_)
        | ((with_reducible show wpList _ _ _ (Oper.mk _ (Op.store _ (Operand.tmp 2) _) _ _ _ _ :: _) _ _); refine wpList_storeS rfl _ _ _ rfl S _ rfl _ rfl 1 _ _ rfl has (by exact ad_sizes _ _ _ _ _ _ rfl hbl) (by exact adCs_one _ _ _) ?_; clear S; intro w1 S; (first | simp only [List.set_cons_zero] at S | simp only [List.set_cons_succ, List.set_cons_zero] at S | skip))
        | ((with_reducible show wpList _ _ _ (Oper.mk _ (Op.store _ (Operand.tmp 2) _) _ _ _ _ :: _) _ _); refine wpList_storeS rfl _ _ _ rfl S _ rfl _ rfl 1 _ _ rfl adInfo (by rfl) (by first | exact adCs_one _ _ _ | simp [Value.oneCell']) ?_; clear S; intro w1 S; (first | simp only [List.set_cons_zero] at S | simp only [List.set_cons_succ, List.set_cons_zero] at S | skip)))
      exact bodyPost_ret (results_cell2S rfl _ S _ 1 _ _ _ rfl rfl Tryz.underlying24 rfl has) rfl ⟨by rw [HE.out]; rfl, S.below⟩
end Go.Proofs.YthbdeafbdmbabaaGreatDoor
