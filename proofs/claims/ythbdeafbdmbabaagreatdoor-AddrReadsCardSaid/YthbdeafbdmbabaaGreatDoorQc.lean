/- Texts behind a law of this seat, in order: Quad7, AdEq, MemMix. -/
import Derived.Test.YthbdeafbdmbabaaGreatDoorPa
import Derived.Test.YthbdeafbdmbabaaGreatDoorPb
import Derived.Test.YthbdeafbdmbabaaGreatDoorPc
import Derived.Test.YthbdeafbdmbabaaGreatDoorPd
import Derived.Test.YthbdeafbdmbabaaGreatDoorPe
import Derived.Test.YthbdeafbdmbabaaGreatDoorPf
import Derived.Test.YthbdeafbdmbabaaGreatDoorPg
import Derived.Test.YthbdeafbdmbabaaGreatDoorPh
import Derived.Test.YthbdeafbdmbabaaGreatDoorPi
import Derived.Test.YthbdeafbdmbabaaGreatDoorPj
import Derived.Test.YthbdeafbdmbabaaGreatDoorPk
import Derived.Test.YthbdeafbdmbabaaGreatDoorPm
import Derived.Test.YthbdeafbdmbabaaGreatDoorPn
import Derived.Test.YthbdeafbdmbabaaGreatDoorPo
import Derived.Test.YthbdeafbdmbabaaGreatDoorPp
import Derived.Test.YthbdeafbdmbabaaGreatDoorPq
import Derived.Test.YthbdeafbdmbabaaGreatDoorPr
import Derived.Test.YthbdeafbdmbabaaGreatDoorPv
import Derived.Below
import Derived.BigQuiet
import Derived.ChangeSlices
import Derived.Deep.AppendLies
import Derived.Deep.Draws
import Derived.Deep.Quiet
import Derived.Deep.QuietTactic
import Derived.Deep.RegionLaw
import Derived.Great.Ranges
import Derived.Handed
import Derived.Laws.BitsAllLaws
import Derived.Laws.OwnMore
import Derived.Laws.Rows
import Derived.Laws.StructEq
import Derived.Lib.Bytealg
import Derived.Lib.Hide
import Derived.Lib.ItoaLen
import Derived.Lib.ItoaMem
import Derived.Lib.ItoaNum
import Derived.Lib.Join
import Derived.Lib.SmallJoins
import Derived.Lib.Split
import Derived.Lib.SplitLaws
import Derived.Lib.Strings
import Derived.OpenShut
import Derived.Shelf.LaysM
import Derived.Shelf.Small.Bits
import Derived.Shelf.Small.Strs
import Derived.Shelf.Strconv.Itoa0
import Derived.Shelf.Strconv.Itoa1
import Derived.Shelf.Strconv.Itoa2
import Derived.Shelf.Strconv.Itoa3
import Derived.Shelf.Strings.Builder1
import Derived.Shelf.Strings.Builder2
import Derived.Shelf.Strings.Builder2Cap
import Derived.Shelf.Strings.BuilderCap
import Derived.Shelf.Strings.BuilderF
import Derived.Shelf.Strings.BuilderK
import Derived.Shelf.Strings.Count
import Derived.Shelf.Strings.Cut
import Derived.Shelf.Strings.OnBuilder
import Derived.Shelf.Strings.Prefix
import Derived.Shelf.Strings.Search1
import Derived.Shelf.Strings.Search2
import Derived.Shelf.Strings.Search3
import Derived.Shelf.Strings.Shaped
import Derived.Shelf.Strings.Split
import Derived.Shelf.Strings.SplitShaped
import Derived.Shelf.Unicode.Decode
import Derived.Shelf.Unicode.DecodeAny
import Derived.Shelf.Unicode.DecodeSlow
import Derived.SizedLaws
import Derived.SliceStrings
import Derived.Stop.BytesEq
import Derived.Test.YthbdeafbdmbabaaGreatDoorProg
import Derived.WalkKit
import Derived.WalkLawsBesides
import Derived.WalkSpells
namespace Go.Proofs.YthbdeafbdmbabaaGreatDoor
open Go.RowKit Go
set_option linter.unusedVariables false
theorem ad_eqlSelf (f z : Int) (ip : List UInt8) (h : ip.length = 16) (w : World) : (binOp .eql 24 (adV f ip z) (adV f ip z)).run Tryz.prog w = .ok (.bool true) w := by
  rw [ad_eql f f z z ip ip h h w]
  simp
theorem ad_guard (op : BinOp) (x y : Operand) (xs ys : Array Value) (w : World) : (eqGuard op 24 x y (.agg xs) (.agg ys)).run Tryz.prog w = .ok () w :=
  run_eqGuard_agg w op 24 x y xs ys (by kernel_rfl)
def decs (ip : List UInt8) (k : Nat) : List (List UInt8) := (List.range k).map fun j => Lib.decDigits (ip.getD j 0).toNat
theorem decs_succ (ip : List UInt8) (k : Nat) : decs ip (k + 1) = decs ip k ++ [Lib.decDigits (ip.getD k 0).toNat] := by
  unfold decs
  rw [List.range_succ, List.map_append]
  rfl
theorem decs_ne (ip : List UInt8) (k : Nat) (h : 0 < k) : decs ip k ≠ [] := by
  unfold decs
  simp
  omega
theorem decs_end (ip : List UInt8) : joinL [46] (decs ip 4) = quadI ip := by
  unfold joinL quadI quadT decs
  simp [List.range_succ, Lib.join_cons, Lib.joinTail]
theorem decs_one (ip : List UInt8) : joinL [46] (decs ip 1) = Lib.decDigits (ip.getD 0 0).toNat := by
  unfold joinL decs
  simp [List.range_succ, Lib.join_cons, Lib.joinTail]
theorem decs_step (ip : List UInt8) (k : Nat) (h : 0 < k) : joinL [46] (decs ip (k + 1)) = joinL [46] (decs ip k) ++ ([46] ++ Lib.decDigits (ip.getD k 0).toNat) := by
  rw [decs_succ, joinL_snoc _ _ _ (decs_ne ip k h)]
theorem decs_len (ip : List UInt8) (k : Nat) : (joinL [46] (decs ip k)).length ≤ 4 * k := by
  induction k with
  | zero => exact Nat.le_refl 0
  | succ k ih =>
    have hd := (dec_byte (ip.getD k 0)).2.2.1
    by_cases h : 0 < k
    · rw [decs_step ip k h, List.length_append, List.length_append]
      simp only [List.length_cons, List.length_nil]
      omega
    · obtain rfl : k = 0 := by omega
      rw [decs_one]
      omega
theorem refDigitsU_any (c : UInt8) (w : World) : Calls Tryz.prog 41 #[.int .i64 c.toNat] w fun e w' => e = .returned (.string ⟨(Lib.decDigits c.toNat).toArray⟩) ∧ w = w' := by
  have hc := UInt8.toNat_lt c
  have := refDigits_any c.toNat w (by omega) (by omega)
  rw [Lib.itoa_nonneg] at this
  exact this
set_option maxRecDepth 100000 in
set_option maxHeartbeats 2000000 in
theorem refText_any (f z : Int) (ip : List UInt8) (w : World) (hip : ip.length = 16) :
    Calls Tryz.prog 32 #[adV f ip z] w fun e w' => e = .returned (.string ⟨(quadI ip).toArray⟩) ∧ Below w.heap.size w w' := by
  have S := Ats.start w
  go_enter Tryz.func32, Tryz.ntmps32
  go_wp2_with (first
    | ((with_reducible show wpList _ _ _ (Oper.mk _ (Op.box _ _) _ _ _ _ :: _) _ _); refine wpList_boxS rfl _ _ rfl (adCs f ip z).toArray rfl S ?_; clear S; intro ga w1 S))
  go_loop [3, 4] (fun s i => ∃ k : Nat, i = .int .i64 k ∧ k ≤ 4 ∧ s = .string ⟨(joinL [46] (decs ip k)).toArray⟩) (fun _ i => 4 - (intOf i).toNat)
  case atStart => exact ⟨0, rfl, Nat.zero_le _, rfl⟩
  case round =>
    obtain ⟨k, rfl, hk, rfl⟩ := hrel
    by_cases hlt : k < 4
    · have hc : ip[k]? = some (ip.getD k 0) := by rw [List.getD_eq_getElem?_getD, List.getElem?_eq_getElem (show k < ip.length by omega)]; rfl
      have hb := ad_byte f z ip k _ hc
      have hd := refDigitsU_any (ip.getD k 0) w1
      have hst := decs_step ip k
      have hon := decs_one ip
      have hl := decs_len ip k
      have hdl := (dec_byte (ip.getD k 0)).2.2.1
      obtain ⟨c, hcc⟩ : ∃ c, c = ip.getD k 0 := ⟨_, rfl⟩
      rw [← hcc] at hb hd hst hdl
      have hc255 := UInt8.toNat_lt c
      have HB := Lib.hid hb
      have HD := Lib.hid hd
      have HS := Lib.hid hst
      have HO := Lib.hid hon
      have HC := Lib.hid hcc
      clear hb hd hst hon hcc hc
      by_cases h0 : k = 0
      · subst h0
        go_wp2_with (first
          | ((with_reducible refine HD.out.mono ?_); rintro e w2 ⟨rfl, rfl⟩)
          | ((with_reducible show wpList _ _ _ (Oper.mk _ (Op.load _ _) _ _ _ _ :: _) _ _); refine wpList_cellS rfl _ _ rfl S _ _ rfl 0 _ _ rfl _ Tryz.underlying5 rfl _ (by exact HB.out) ?_))
        go_round
        case rel => exact ⟨1, rfl, by decide, ret_s (by rw [HO.out, ← HC.out, ByteArray.mk_append_mk]; rfl)⟩
        case measure => simp [intOf]
      · have h0' : 0 < k := by omega
        clear h0
        go_wp2_with (first
          | ((with_reducible refine HD.out.mono ?_); rintro e w2 ⟨rfl, rfl⟩)
          | ((with_reducible show wpList _ _ _ (Oper.mk _ (Op.load _ _) _ _ _ _ :: _) _ _); refine wpList_cellS rfl _ _ rfl S _ _ rfl 0 _ _ rfl _ Tryz.underlying5 rfl _ (by exact HB.out) ?_))
        go_round
        case rel => exact ⟨k + 1, by go_num, by omega, ret_s (by rw [HS.out h0', ByteArray.mk_append_mk, ByteArray.mk_append_mk]; simp)⟩
        case measure => simp [intOf]; omega
    · obtain rfl : k = 4 := by omega
      have he := decs_end ip
      have HE := Lib.hid he
      clear he
      go_wp2_with fail
      go_ret
      exact ⟨ret_str (by rw [HE.out]), S.below⟩
set_option maxRecDepth 100000 in
set_option maxHeartbeats 1000000 in
theorem refOf_any (a b c d : UInt8) (w : World) :
    Calls Tryz.prog 34 #[.int .i64 a.toNat, .int .i64 b.toNat, .int .i64 c.toNat, .int .i64 d.toNat] w fun e w' => e = .returned (adV 4 (quad16 a b c d) 0) ∧ Below w.heap.size w w' := by
  have S := Ats.start w
  have ha := UInt8.toNat_lt a; have hb := UInt8.toNat_lt b; have hc := UInt8.toNat_lt c; have hd := UInt8.toNat_lt d
  go_enter Tryz.func34, Tryz.ntmps34
  go_wp2_with (first
    | ((with_reducible show wpList _ _ _ (Oper.mk _ (Op.alloc _) _ _ _ _ :: _) _ _); refine wpList_allocS rfl _ rfl _ adZero S ?_; clear S; intro g w1 S)
    | ((with_reducible show wpList _ _ _ (Oper.mk _ (Op.store _ _ _) _ _ _ _ :: _) _ _); refine wpList_storeS rfl _ _ _ rfl S _ rfl _ rfl 0 _ _ rfl adInfo (by rfl) (by first | exact adCs_one _ _ _ | simp [Value.oneCell']) ?_; clear S; intro w1 S; (first | simp only [List.set_cons_zero] at S | simp only [List.set_cons_succ, List.set_cons_zero] at S | skip)))
  exact bodyPost_ret (v := adV 4 (quad16 a b c d) 0) (results_cellS rfl _ S _ 0 _ _ _ rfl rfl Tryz.underlying24 rfl adInfo) rfl ⟨rfl, S.below⟩
end Go.Proofs.YthbdeafbdmbabaaGreatDoor
/- Addresses and their bytes, held against others. -/
namespace Go.Proofs.YthbdeafbdmbabaaGreatDoor
open Go.RowKit Go
set_option linter.unusedVariables false
theorem ok_of_then {r : Result Bool} {f : Bool → Bool} {b : Bool} {w : World} (hf : ∀ x y, f x = f y → x = y) (h : r.andThen (fun b w' => Result.ok (Value.bool (f b)) w') = .ok (.bool (f b)) w) : r = .ok b w := by
  cases r with
  | ok x w' =>
    simp only [Result.andThen] at h
    injection h with h1 h2
    injection h1 with h1
    rw [hf _ _ h1, h2]
  | _ => simp [Result.andThen] at h
theorem ad_neq (f f' z z' : Int) (ip ip' : List UInt8) (h : ip.length = 16) (h' : ip'.length = 16) (w : World) :
    (binOp .neq 24 (adV f ip z) (adV f' ip' z')).run Tryz.prog w = .ok (.bool (!(f == f' && ip == ip' && z == z'))) w := by
  have e := ad_eql f f' z z' ip ip' h h' w
  unfold adV at e ⊢
  rw [run_eql_struct] at e
  rw [run_neq_struct]
  have := ok_of_then (f := fun b => b) (fun _ _ h => h) e
  rw [this]
  rfl
theorem ip_neq (w : World) (ip ip' : List UInt8) (h : ip.length = 16) (h' : ip'.length = 16) :
    (binOp .neq 22 (.agg (ip.map cellU).toArray) (.agg (ip'.map cellU).toArray)).run Tryz.prog w = .ok (.bool (!(ip == ip'))) w := by
  rw [run_neq_struct, show (10000 : Nat) = 9998 + 2 from rfl, ip_eql w 9998 ip ip' h h']
  rfl
theorem ip_eqlB (w : World) (ip ip' : List UInt8) (h : ip.length = 16) (h' : ip'.length = 16) :
    (binOp .eql 22 (.agg (ip.map cellU).toArray) (.agg (ip'.map cellU).toArray)).run Tryz.prog w = .ok (.bool (ip == ip')) w := by
  rw [run_eql_struct, show (10000 : Nat) = 9998 + 2 from rfl, ip_eql w 9998 ip ip' h h']
  rfl
theorem ip_guard (op : BinOp) (x y : Operand) (xs ys : Array Value) (w : World) : (eqGuard op 22 x y (.agg xs) (.agg ys)).run Tryz.prog w = .ok () w :=
  run_eqGuard_agg w op 22 x y xs ys (by kernel_rfl)
section
variable {P : Program} {o : Oper} {a : Act} {K : Act → Prop} {B : Nat} {w0 : World} {L : List (Nat × TypeId × Array Value)}
/-- an array or a struct within a block, read whole, in a drawn region -/
theorem q_partS (ty : TypeId) (x : Operand) (ho : o.op = .load ty x) (g k : Nat) (hx : a.eval x = .pointer (some ⟨g, k, none⟩)) (i : Nat) (t : TypeId) (cs : Array Value)
    (hi : L[i]? = some (g, t, cs)) (d : TypeDesc) (hu : P.underlying ty = some d) (hd : (match d with | .struct _ | .array _ _ => true | _ => false) = true) (part : List Value) (hn : (P.info? ty).map (·.size) = some part.length) (hc : ∀ (j : Nat) v, part[j]? = some v → cs[k + j]? = some v)
    (h : K (a.put o.dst (.agg part.toArray))) : o.quiet P a (fun w' => Ats B w0 w' L) K :=
  q_read (fun w S => by
    have hr := run_loadVar_part (P := P) w g k ty part d (fun j v hv => (S.get hi).cells _ (hc j v hv)) hu hd hn
    unfold execOp
    simp only [ho, hx, Instr.loadAt, Instr.sureAddr, Sem.run_bind, Sem.run_pure, Result.andThen_ok, hr]) h
end
theorem ip_cells (f z : Int) (ip : List UInt8) : ∀ (j : Nat) v, (ip.map cellU)[j]? = some v → (adCs f ip z).toArray[1 + j]? = some v := by
  intro j v hv
  rw [List.getElem?_map, Option.map_eq_some_iff] at hv
  obtain ⟨c, hc, rfl⟩ := hv
  exact ad_byte f z ip j c hc
theorem ip_field (f z : Int) (ip : List UInt8) (hip : ip.length = 16) : List.take 16 (adCs f ip z).tail = ip.map cellU := by
  unfold adCs
  rw [List.tail_cons]
  exact List.take_left' (by simp [hip])
end Go.Proofs.YthbdeafbdmbabaaGreatDoor
/- A region that draws its order, over blocks that are known, with calls whose answers hang on the world (slices): walked once, what only reckons or reads ahead of the calls. -/
namespace Go.Proofs.YthbdeafbdmbabaaGreatDoor
open Go.RowKit Go
set_option linter.unusedVariables false
section
variable {P : Program} {ops : Array Oper} {md : Region.Mode} {C : World → Prop} {Q : Act → World → Prop}
/-- an operation that goes on in a world of the class -/
def tame (P : Program) (o : Oper) (a : Act) (w : World) (K : Act → World → Prop) : Prop :=
  match (execOp a.eval o).run P w with
  | .ok (.value v) w' => K (a.put o.dst v) w'
  | .ok .skip w' => K (a.put o.dst undef) w'
  | .ok (.enter f args) w' => Calls P f args w' (fun e w'' => ∃ v, e = .returned v ∧ K (a.put o.dst v) w'')
  | _ => False
theorem tame_mono {o : Oper} {a : Act} {w : World} {K K' : Act → World → Prop} (h : ∀ a w, K a w → K' a w) (hh : tame P o a w K) : tame P o a w K' := by
  unfold tame at *
  generalize (execOp a.eval o).run P w = r at *
  cases r with
  | ok n w' =>
    cases n <;> simp only at hh ⊢
    case value u => exact h _ _ hh
    case skip => exact h _ _ hh
    case enter f args => exact hh.mono fun e w'' ⟨v, he, hk⟩ => ⟨v, he, h _ _ hk⟩
  | halt x w' => exact hh
theorem wp_of_tame {o : Oper} {a : Act} {w : World} {K K' : Act → World → Prop} {Q' : Exit → Act → World → Prop} (h : ∀ a w, K a w → K' a w) (hh : tame P o a w K) : o.wp P a w K' Q' := by
  unfold tame at hh
  unfold Oper.wp
  generalize (execOp a.eval o).run P w = r at *
  cases r with
  | ok n w' =>
    cases n <;> simp only at hh <;> simp only [Oper.upon]
    case value u => exact h _ _ hh
    case skip => exact h _ _ hh
    case enter f args => exact hh.mono fun e w'' ⟨v, he, hk⟩ => by subst he; exact h _ _ hk
  | halt x w' => exact absurd hh (by simp)
def cOp (P : Program) (ops : Array Oper) (C : World → Prop) (i : Nat) (K : Act → World → Prop) (a : Act) (w : World) : Prop :=
  match ops[i]? with
  | none => K a w
  | some o => if Region.wanted o (yielded ops a.tmps) then tame P o a w (fun a' w' => C w' ∧ K a' w') else K (a.put o.dst undef) w
theorem cOp_mono {i : Nat} {a : Act} {w : World} {K K' : Act → World → Prop} (hC : C w) (h : ∀ a w, C w → K a w → K' a w) (hh : cOp P ops C i K a w) : cOp P ops C i K' a w := by
  unfold cOp at *
  split
  · rename_i ho; simp only [ho] at hh; exact h _ _ hC hh
  · rename_i o ho
    simp only [ho] at hh
    split
    · rename_i hw; simp only [hw, if_true] at hh; exact tame_mono (fun a w ⟨h1, h2⟩ => ⟨h1, h a w h1 h2⟩) hh
    · rename_i hw; simp only [hw] at hh; exact h _ _ hC hh
theorem wpOp_of_cOp {i : Nat} {a : Act} {w : World} {K K' : Act → World → Prop} {Q' : Exit → Act → World → Prop} (hC : C w) (h : ∀ a w, C w → K a w → K' a w) (hh : cOp P ops C i K a w) : wpOp P ops Q' i K' a w := by
  unfold cOp at hh
  unfold wpOp
  split
  · rename_i ho; simp only [ho] at hh; exact h _ _ hC hh
  · rename_i o ho
    simp only [ho] at hh
    split
    · rename_i hw; simp only [hw, if_true] at hh; exact .inl (wp_of_tame (fun a w ⟨h1, h2⟩ => h a w h1 h2) hh)
    · rename_i hw; simp only [hw] at hh; exact h _ _ hC hh
def wpAnyC (P : Program) (md : Region.Mode) (ops : Array Oper) (C : World → Prop) (Q : Act → World → Prop) : Nat → Array Bool → Act → World → Prop
  | 0, listed, a, w => Region.ready md ops listed = [] ∧ Q a w
  | fuel + 1, listed, a, w => (Region.ready md ops listed = [] → Q a w) ∧ ∀ i ∈ Region.ready md ops listed, cOp P ops C i (wpAnyC P md ops C Q fuel (listed.setIfInBounds i true)) a w
theorem wpAny_of_C {Q' : Exit → Act → World → Prop} (hQ : ∀ a w, Q a w → Q' .normal a w) : ∀ (fuel : Nat) (listed : Array Bool) (a : Act) (w : World), C w → wpAnyC P md ops C Q fuel listed a w → wpAny P md ops Q' fuel listed a w
  | 0, _, _, _, _, h => ⟨h.1, hQ _ _ h.2⟩
  | fuel + 1, _, _, _, hC, h => ⟨fun h0 => hQ _ _ (h.1 h0), fun i hi => wpOp_of_cOp hC (fun a' w' hC' h' => wpAny_of_C hQ fuel _ a' w' hC' h') (h.2 i hi)⟩
/-- in state a, in every world of the class, o leaves v in its temporary, and the world alone -/
def PureIn (P : Program) (ops : Array Oper) (C : World → Prop) (o : Oper) (v : Value) (a : Act) : Prop :=
  (Region.wanted o (yielded ops a.tmps) = true ∧ ∀ w, C w → (execOp a.eval o).run P w = .ok (.value v) w) ∨ (Region.wanted o (yielded ops a.tmps) = false ∧ v = undef)
theorem PureIn.cOp {i : Nat} {o : Oper} {v : Value} {a : Act} {w : World} (hi : ops[i]? = some o) (hC : C w) (hy : PureIn P ops C o v a) {K : Act → World → Prop} (h : K (a.put o.dst v) w) : cOp P ops C i K a w := by
  unfold YthbdeafbdmbabaaGreatDoor.cOp
  simp only [hi]
  rcases hy with ⟨hw, hv⟩ | ⟨hw, rfl⟩
  · simp only [hw, if_true]
    unfold tame
    rw [hv w hC]
    exact ⟨hC, h⟩
  · simp only [hw, Bool.false_eq_true, if_false]; exact h
theorem PureIn.of_same {o : Oper} {v : Value} {a a' : Act} (hy : PureIn P ops C o v a) (he : execOp a'.eval o = execOp a.eval o) (hw : Region.wanted o (yielded ops a'.tmps) = Region.wanted o (yielded ops a.tmps)) : PureIn P ops C o v a' := by
  unfold PureIn at *
  rw [he, hw]
  exact hy
theorem cOp_put {j : Nat} {oi oj : Oper} {v : Value} {w : World} (hj : ops[j]? = some oj) (hap : oi.apart ops oj = true)
    (hsi : ∀ cs b, oi.op ≠ .select cs b) (hsj : ∀ cs b, oj.op ≠ .select cs b) {K : Act → World → Prop} {a : Act} (hy : PureIn P ops C oi v a) (h : cOp P ops C j K (a.put oi.dst v) w) :
    cOp P ops C j (fun a' w' => PureIn P ops C oi v a' ∧ K (a'.put oi.dst v) w') a w := by
  obtain ⟨h1, h2, h3⟩ := Oper.apart_spec hap
  have keep : ∀ u, PureIn P ops C oi v (a.put oj.dst u) := fun u => hy.of_same (execOp_put oi hsi a oj.dst u h3) (wanted_put oi a oj.dst u h3)
  unfold cOp at *
  simp only [hj] at *
  rw [wanted_put oj a oi.dst v h1] at h
  split
  · rename_i hw
    simp only [hw, if_true] at h
    unfold tame at *
    rw [execOp_put oj hsj a oi.dst v h1] at h
    generalize (execOp a.eval oj).run P w = r at *
    cases r with
    | ok n w' =>
      cases n <;> simp only at h ⊢
      case value u => exact ⟨h.1, keep u, by rw [← Act.put_comm a v u h2]; exact h.2⟩
      case skip => exact ⟨h.1, keep undef, by rw [← Act.put_comm a v undef h2]; exact h.2⟩
      case enter f args => exact h.mono fun e w'' ⟨u, he, hC, hk⟩ => ⟨u, he, hC, keep u, by rw [← Act.put_comm a v u h2]; exact hk⟩
    | halt x w' => exact h
  · rename_i hw
    simp only [hw] at h
    exact ⟨keep _, by rw [← Act.put_comm a v undef h2]; exact h⟩
theorem wpAnyC_first {i : Nat} {oi : Oper} {v : Value} (hi : ops[i]? = some oi) (hsel : ∀ (j : Nat) (o : Oper) cs b, ops[j]? = some o → o.op ≠ .select cs b) :
    ∀ (fuel : Nat) (listed : Array Bool) (a : Act) (w : World), C w →
      (∀ j oj, ops[j]? = some oj → j ≠ i → listed.getD j true = false → (∀ e ∈ oj.after, Region.binds md e = true → e.on ≠ i) → oi.apart ops oj = true) →
      i ∈ Region.ready md ops listed → PureIn P ops C oi v a →
      wpAnyC P md ops C Q fuel (listed.setIfInBounds i true) (a.put oi.dst v) w → wpAnyC P md ops C Q (fuel + 1) listed a w := by
  intro fuel
  induction fuel with
  | zero =>
    intro listed a w hC _ hr hy H
    refine ⟨fun h => (by rw [h] at hr; cases hr), fun j hj => ?_⟩
    by_cases hji : j = i
    · subst hji; exact hy.cOp hi hC H
    · have := ready_mono hj hji
      rw [H.1] at this
      cases this
  | succ fuel ih =>
    intro listed a w hC hfree hr hy H
    refine ⟨fun h => (by rw [h] at hr; cases hr), fun j hj => ?_⟩
    by_cases hji : j = i
    · subst hji; exact hy.cOp hi hC H
    · have h1 := H.2 j (ready_mono hj hji)
      obtain ⟨hjun, oj, hoj, hall⟩ := mem_ready.1 hj
      have hnot : ∀ e ∈ oj.after, Region.binds md e = true → e.on ≠ i := fun e he hb heq => by
        have h1 := hall e he hb
        have h0 := (mem_ready.1 hr).1
        rw [heq] at h1
        rcases Nat.lt_or_ge i listed.size with h' | h'
        · simp [h'] at h0 h1; rw [h0] at h1; cases h1
        · simp [Array.getElem?_eq_none h'] at h1
      have h2 := cOp_put hoj (hfree j oj hoj hji hjun hnot) (fun cs b => hsel i oi cs b hi) (fun cs b => hsel j oj cs b hoj) hy h1
      have hfree' : ∀ k ok, ops[k]? = some ok → k ≠ i → (listed.setIfInBounds j true).getD k true = false →
          (∀ e ∈ ok.after, Region.binds md e = true → e.on ≠ i) → oi.apart ops ok = true := fun k ok hk hki hun hno => by
        refine hfree k ok hk hki ?_ hno
        by_cases hjk : j = k
        · subst hjk; exact hjun
        · rw [getD_set_ne true hjk] at hun; exact hun
      refine cOp_mono hC (fun a' w' hC' h3 => ih (listed.setIfInBounds j true) a' w' hC' hfree' (ready_mono hr (Ne.symm hji)) h3.1 ?_) h2
      rw [Array.setIfInBounds_comm _ _ hji]
      exact h3.2
/-- the order that is walked: what is pure (true) may come as soon as it is ready; else it must be alone -/
def mixB (md : Region.Mode) (ops : Array Oper) : List (Nat × Bool) → Array Bool → Bool
  | [], listed => (Region.ready md ops listed).isEmpty
  | (k, true) :: l, listed => (Region.ready md ops listed).contains k && Region.free md ops listed k && mixB md ops l (listed.setIfInBounds k true)
  | (k, false) :: l, listed => decide (Region.ready md ops listed = [k]) && mixB md ops l (listed.setIfInBounds k true)
def wpMix (P : Program) (ops : Array Oper) (C : World → Prop) (Q : Act → World → Prop) : List (Nat × Bool) → Act → World → Prop
  | [], a, w => Q a w
  | (k, true) :: l, a, w => ∃ o v, ops[k]? = some o ∧ PureIn P ops C o v a ∧ wpMix P ops C Q l (a.put o.dst v) w
  | (k, false) :: l, a, w => cOp P ops C k (wpMix P ops C Q l) a w
theorem wpAnyC_mix (hs : Region.noSelect ops = true) : ∀ (l : List (Nat × Bool)) (listed : Array Bool) (a : Act) (w : World), C w → mixB md ops l listed = true → wpMix P ops C Q l a w → wpAnyC P md ops C Q l.length listed a w
  | [], _, _, _, _, hB, h => ⟨by simpa [mixB] using hB, h⟩
  | (k, true) :: l, listed, a, w, hC, hB, h => by
    simp only [mixB, Bool.and_eq_true] at hB
    obtain ⟨⟨hr, hf⟩, hB'⟩ := hB
    obtain ⟨o, v, h0, hy, hK⟩ := h
    exact wpAnyC_first h0 (Region.noSelect_spec hs) l.length listed a w hC (Region.free_spec h0 hf) (by simpa using hr) hy (wpAnyC_mix hs l _ _ w hC hB' hK)
  | (k, false) :: l, listed, a, w, hC, hB, h => by
    simp only [mixB, Bool.and_eq_true, decide_eq_true_eq] at hB
    refine ⟨fun h1 => (by rw [hB.1] at h1; cases h1), fun i hi => ?_⟩
    rw [hB.1] at hi
    have hik : i = k := by simpa using hi
    subst hik
    exact cOp_mono hC (fun a' w' hC' h' => wpAnyC_mix hs l _ a' w' hC' hB.2 h') h
def mixAll (ops : Array Oper) (l : List (Nat × Bool)) : Bool := Region.noSelect ops && decide (l.length = ops.size) && mixB .any ops l (Array.replicate ops.size false)
theorem wp_region_mix {id : Nat} {Q : Exit → Act → World → Prop} {a : Act} {w : World} (l : List (Nat × Bool)) (hm : P.follows .mixedOrders = true) (hB : mixAll ops l = true) (hC : C w.drew)
    (h : wpMix P ops C (fun a' w' => Q .normal a' w') l a w.drew) : (Code.region id ops true).wp P Q a w := by
  simp only [mixAll, Bool.and_eq_true, decide_eq_true_eq] at hB
  obtain ⟨⟨hs, hl⟩, hB⟩ := hB
  refine wp_region_any hm (wpAny_of_C (Q := fun a' w' => Q .normal a' w') (fun _ _ h => h) _ _ _ _ hC ?_)
  have := wpAnyC_mix (md := .any) hs l _ _ _ hC hB h
  rw [hl] at this
  exact this
end
/-- the walk over the operations themselves -/
def wpMixO (P : Program) (ops : Array Oper) (C : World → Prop) (Q : Act → World → Prop) : List (Oper × Bool) → Act → World → Prop
  | [], a, w => Q a w
  | (o, true) :: l, a, w => ∃ v, PureIn P ops C o v a ∧ wpMixO P ops C Q l (a.put o.dst v) w
  | (o, false) :: l, a, w => if Region.wanted o (yielded ops a.tmps) then tame P o a w (fun a' w' => C w' ∧ wpMixO P ops C Q l a' w') else wpMixO P ops C Q l (a.put o.dst undef) w
def noOper : Oper := { dst := none, op := .move (.tmp 0), type := 0, pos := "", after := #[], guard := none }
theorem wpMix_of_O {P : Program} {opl : List Oper} {C : World → Prop} {Q : Act → World → Prop} : ∀ (l : List (Nat × Bool)) (a : Act) (w : World), l.all (fun x => decide (x.1 < opl.length)) = true → wpMixO P opl.toArray C Q (l.map fun x => (opl.getD x.1 noOper, x.2)) a w → wpMix P opl.toArray C Q l a w
  | [], _, _, _, h => h
  | (k, b) :: l, a, w, hl, h => by
    simp only [List.all_cons, Bool.and_eq_true, decide_eq_true_eq] at hl
    have h0 : opl.toArray[k]? = some (opl.getD k noOper) := by
      rw [List.getElem?_toArray, List.getD_eq_getElem?_getD, List.getElem?_eq_getElem hl.1]; rfl
    cases b with
    | true =>
      obtain ⟨v, hy, hk⟩ := h
      exact ⟨_, v, h0, hy, wpMix_of_O l _ w hl.2 hk⟩
    | false =>
      show cOp P opl.toArray C k _ a w
      unfold cOp
      simp only [h0]
      have h : (if Region.wanted (opl.getD k noOper) (yielded opl.toArray a.tmps) then tame P (opl.getD k noOper) a w (fun a' w' => C w' ∧ wpMixO P opl.toArray C Q (l.map fun x => (opl.getD x.1 noOper, x.2)) a' w') else wpMixO P opl.toArray C Q (l.map fun x => (opl.getD x.1 noOper, x.2)) (a.put (opl.getD k noOper).dst undef) w) := h
      split
      · rename_i hw
        rw [if_pos hw] at h
        exact tame_mono (fun a w ⟨h1, h2⟩ => ⟨h1, wpMix_of_O l a w hl.2 h2⟩) h
      · rename_i hw
        rw [if_neg hw] at h
        exact wpMix_of_O l _ w hl.2 h
theorem wp_region_mixO {P : Program} {opl : List Oper} {C : World → Prop} {id : Nat} {Q : Exit → Act → World → Prop} {a : Act} {w : World} (l : List (Nat × Bool)) (hm : P.follows .mixedOrders = true) (hB : (mixAll opl.toArray l && l.all fun x => decide (x.1 < opl.length)) = true) (hC : C w.drew)
    (h : wpMixO P opl.toArray C (fun a' w' => Q .normal a' w') (l.map fun x => (opl.getD x.1 noOper, x.2)) a w.drew) : (Code.region id opl.toArray true).wp P Q a w := by
  simp only [Bool.and_eq_true] at hB
  exact wp_region_mix l hm hB.1 hC (wpMix_of_O l a w.drew hB.2 h)
section
variable {P : Program} {ops : Array Oper} {C : World → Prop} {Q : Act → World → Prop} {o : Oper} {a : Act} {l : List (Oper × Bool)} {w : World}
theorem mix_nil (h : Q a w) : wpMixO P ops C Q [] a w := h
theorem mix_val (hw : Region.wanted o (yielded ops a.tmps) = true) {v : Value} (hv : ∀ w, C w → (execOp a.eval o).run P w = .ok (.value v) w) (h : wpMixO P ops C Q l (a.put o.dst v) w) : wpMixO P ops C Q ((o, true) :: l) a w :=
  ⟨v, .inl ⟨hw, hv⟩, h⟩
theorem mix_move (hw : Region.wanted o (yielded ops a.tmps) = true) (x : Operand) (ho : o.op = .move x) (h : wpMixO P ops C Q l (a.put o.dst (a.eval x)) w) : wpMixO P ops C Q ((o, true) :: l) a w :=
  mix_val hw (fun w _ => by rw [BigFrame.run_move x ho]) h
theorem mix_assign (hw : Region.wanted o (yielded ops a.tmps) = true) (x : Operand) (ho : o.op = .assign x) (h : wpMixO P ops C Q l (a.put o.dst (a.eval x)) w) : wpMixO P ops C Q ((o, true) :: l) a w :=
  mix_val hw (fun w _ => by rw [BigFrame.run_assign x ho]) h
theorem mix_skip (hw : Region.wanted o (yielded ops a.tmps) = false) (h : wpMixO P ops C Q l (a.put o.dst undef) w) : wpMixO P ops C Q ((o, true) :: l) a w :=
  ⟨undef, .inr ⟨hw, rfl⟩, h⟩
theorem mix_skipC (hw : Region.wanted o (yielded ops a.tmps) = false) (h : wpMixO P ops C Q l (a.put o.dst undef) w) : wpMixO P ops C Q ((o, false) :: l) a w := by
  show if _ then _ else _
  rw [if_neg (by rw [hw]; exact Bool.false_ne_true)]
  exact h
theorem mix_call (f : FuncId) (xs : List Operand) (ts : Array TypeId) (hw : Region.wanted o (yielded ops a.tmps) = true) (ho : o.op = .call { callee := .value (.func f), args := xs.toArray, argTypes := ts })
    (hE : ∀ args w, (callFunc f args).run P w = .ok (.enter f args) w) {args : List Value} (ha : xs.map a.eval = args) {R : Ending → World → Prop} (hc : Calls P f args.toArray w R)
    (h : ∀ e w', R e w' → ∃ v, e = .returned v ∧ C w' ∧ wpMixO P ops C Q l (a.put o.dst v) w') : wpMixO P ops C Q ((o, false) :: l) a w := by
  show if _ then _ else _
  rw [if_pos hw]
  have : (execOp a.eval o).run P w = .ok (.enter f args.toArray) w := by
    rw [← ha]
    simp [execOp, ho, resolve, invoke, Act.eval, Deferred.ofValue, hE]
  unfold tame
  rw [this]
  exact hc.mono fun e w' hR => h e w' hR
end
section
variable {P : Program} {ops : Array Oper} {Q : Act → World → Prop} {o : Oper} {a : Act} {l : List (Oper × Bool)} {w : World} {B : Nat} {w0 : World} {L : List (Nat × TypeId × Array Value)}
theorem mix_loadS (hw : Region.wanted o (yielded ops a.tmps) = true) (ty : TypeId) (x : Operand) (ho : o.op = .load ty x) (g : Nat) (hx : a.eval x = .pointer (some ⟨g, 0, none⟩)) (i : Nat) (t : TypeId) (cs : Array Value)
    (hi : L[i]? = some (g, t, cs)) (d : TypeDesc) (hu : P.underlying ty = some d) (hd : (match d with | .struct _ | .array _ _ => true | _ => false) = true) (hn : (P.info? ty).map (·.size) = some cs.size)
    (h : wpMixO P ops (fun w' => Ats B w0 w' L) Q l (a.put o.dst (.agg cs)) w) : wpMixO P ops (fun w' => Ats B w0 w' L) Q ((o, true) :: l) a w :=
  mix_val hw (fun w S => by
    unfold execOp
    simp only [ho, hx, Instr.loadAt, Instr.sureAddr, Sem.run_bind, Sem.run_pure, Result.andThen_ok, run_loadVar_row w g t ty cs (0, 0) d (S.get hi) hu hd hn]) h
end
end Go.Proofs.YthbdeafbdmbabaaGreatDoor
