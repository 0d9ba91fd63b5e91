/- Texts behind a law of this seat, in order: OpenRR. -/
import Derived.Test.YtnoabmkmnddkkaaPa
import Derived.Test.YtnoabmkmnddkkaaPb
import Derived.Test.YtnoabmkmnddkkaaPc
import Derived.Test.YtnoabmkmnddkkaaPd
import Derived.Test.YtnoabmkmnddkkaaPe
import Derived.Test.YtnoabmkmnddkkaaPg
import Derived.Test.YtnoabmkmnddkkaaPx
import Derived.Test.YtnoabmkmnddkkaaPy
import Derived.Test.YtnoabmkmnddkkaaPz
import Derived.Test.YtnoabmkmnddkkaaQa
import Derived.Test.YtnoabmkmnddkkaaQi
import Derived.Below
import Derived.ChangeSame
import Derived.ChangeSlices
import Derived.Deep.AppendLies
import Derived.Deep.Draws
import Derived.Deep.RegionLaw
import Derived.Deep.Slices
import Derived.Great.Ranges
import Derived.Handed
import Derived.Handy
import Derived.Laws.OwnMore
import Derived.Laws.Rows
import Derived.Laws.StructEq
import Derived.Lib.ItoaNum
import Derived.Lib.Split
import Derived.Lib.SplitLaws
import Derived.Lib.Strings
import Derived.OpenShut
import Derived.SizedLaws
import Derived.SliceStrings
import Derived.Stop.BytesEq
import Derived.Test.YtnoabmkmnddkkaaProg
import Derived.WalkKit
import Derived.WalkLawsBesides
import Derived.WalkSpells
/- A slice of records that came in, opened. -/
namespace Go.Proofs.Ytnoabmkmnddkkaa
open Go.RowKit Go Go.ChangeShapes Go.WideShapes
set_option linter.unusedVariables false
set_option maxRecDepth 100000
section
variable {H : Type} {enc : TypeId × Value → H} {W : World} {base : Nat} {sp : Nat → Bool} {n : Nat} {i : Nat} {xs : List (DataW H × List MemPlace)}
theorem tr_some {t : TypeId} {cs : List Value} (h : DataW.trod enc Try.prog W base sp true n t cs = xs[i]?) (hi : i < xs.length) : DataW.trod enc Try.prog W base sp true n t cs = some xs[i] := by
  rw [h, List.getElem?_eq_getElem hi]
theorem tr_ip {cs : List Value} {x : DataW H × List MemPlace} (h : DataW.trod enc Try.prog W base sp true n 29 cs = some x) : ∃ ip : List UInt8, cs = ip.map cellU ∧ ip.length = 16 := by
  have hcA : Try.prog.cellsOf 29 = 16 := by kernel_rfl
  have hcU : Try.prog.cellsOf 5 = 1 := by kernel_rfl
  obtain ⟨ys, m, rfl, hxa, hla, hal, halla⟩ := DataW.trod_array Try.underlying29 h
  rw [hcA] at hla
  have hb : ∀ x ∈ cs, ∃ b : UInt8, x = cellU b := by
    intro x hx
    obtain ⟨i, hi, hiv⟩ := List.mem_iff_getElem.1 hx
    have hi' := halla i (by omega)
    rw [hcU, Nat.mul_one] at hi'
    obtain ⟨q, hq⟩ : ∃ q, ys[i]? = some q := ⟨_, List.getElem?_eq_getElem (by omega)⟩
    rw [hq] at hi'
    obtain ⟨b, eb, _, wb⟩ := DataW.trod_int Try.underlying5 hi'
    have hget := one_of_take eb
    rw [List.getElem?_drop, Nat.add_zero, List.getElem?_eq_getElem hi, hiv] at hget
    have hbw : 0 ≤ b ∧ b ≤ 255 := by
      simp only [Lit.wf, Bool.and_eq_true, decide_eq_true_eq] at wb
      have h0 : IntKind.u8.min = 0 := rfl
      have h1 : IntKind.u8.max = 255 := rfl
      omega
    refine ⟨UInt8.ofNat b.toNat, ?_⟩
    injection hget with hget
    rw [hget]
    unfold cellU
    congr 1
    rw [UInt8.toNat_ofNat']
    omega
  exact ⟨cs.map backU, (back_all cs hb).symm, by rw [List.length_map, hla]⟩
theorem list18 {A : Type} {l : List A} (h : l.length = 18) : ∃ a r z, l = a :: (r ++ [z]) ∧ r.length = 16 := by
  obtain ⟨a, t, rfl⟩ : ∃ a t, l = a :: t := by cases l with | nil => simp at h | cons a t => exact ⟨a, t, rfl⟩
  have ht : t ≠ [] := by intro e; subst e; simp at h
  refine ⟨a, t.dropLast, t.getLast ht, by rw [List.dropLast_concat_getLast ht], by simp at h ⊢; omega⟩
theorem tr_ad {cs : List Value} {x : DataW H × List MemPlace} (h : DataW.trod enc Try.prog W base sp true n 31 cs = some x) : ∃ (f z : Int) (ip : List UInt8), cs = adCs f ip z ∧ ip.length = 16 := by
  have hc18 : Try.prog.cellsOf 31 = 18 := by kernel_rfl
  have hcI : Try.prog.cellsOf 3 = 1 := by kernel_rfl
  have hcA : Try.prog.cellsOf 29 = 16 := by kernel_rfl
  obtain ⟨ys, m, rfl, hx, hl, hxl, hall⟩ := DataW.trod_struct Try.underlying31 h
  rw [hc18] at hl
  obtain ⟨a, r, z, rfl, hr⟩ := list18 hl
  have h3 : ys.length = 3 := by simpa using hxl
  have h0 := hall 0 _ rfl
  have h1 := hall 1 _ rfl
  have h2 := hall 2 _ rfl
  change DataW.trod enc Try.prog W base sp true m 3 ((((a :: (r ++ [z])).drop 0)).take (Try.prog.cellsOf 3)) = ys[0]? at h0
  change DataW.trod enc Try.prog W base sp true m 29 ((((a :: (r ++ [z])).drop 1)).take (Try.prog.cellsOf 29)) = ys[1]? at h1
  change DataW.trod enc Try.prog W base sp true m 3 ((((a :: (r ++ [z])).drop 17)).take (Try.prog.cellsOf 3)) = ys[2]? at h2
  rw [hcI] at h0 h2
  rw [hcA] at h1
  have e1 : ((a :: (r ++ [z])).drop 1).take 16 = r := by
    rw [List.drop_succ_cons, List.drop_zero]
    exact List.take_left' hr
  have e2 : ((a :: (r ++ [z])).drop 17).take 1 = [z] := by
    rw [List.drop_succ_cons, List.drop_append, List.drop_eq_nil_of_le (by omega), hr]
    rfl
  rw [e1] at h1
  rw [e2] at h2
  obtain ⟨f, rfl, _⟩ := tr_int Try.underlying3 h0 (by omega)
  obtain ⟨zn, rfl, _⟩ := tr_int Try.underlying3 h2 (by omega)
  obtain ⟨ip, rfl, hip⟩ := tr_ip (tr_some h1 (by omega))
  exact ⟨f, zn, ip, rfl, hip⟩
theorem list5 {A : Type} {l : List A} (h : l.length = 5) : ∃ a b c d e, l = [a, b, c, d, e] := by
  match l, h with
  | [a, b, c, d, e], _ => exact ⟨a, b, c, d, e, rfl⟩
theorem tr_nums {cs : List Value} {x : DataW H × List MemPlace} (h : DataW.trod enc Try.prog W base sp true n 32 cs = some x) : ∃ a b c d e : Int, cs = [.int .i64 a, .int .i64 b, .int .i64 c, .int .i64 d, .int .i64 e] := by
  have hc5 : Try.prog.cellsOf 32 = 5 := by kernel_rfl
  have hcI : Try.prog.cellsOf 3 = 1 := by kernel_rfl
  obtain ⟨ys, m, rfl, hx, hl, hxl, hall⟩ := DataW.trod_array Try.underlying32 h
  rw [hc5] at hl
  rw [hcI] at hall
  obtain ⟨a, b, c, d, e, rfl⟩ := list5 hl
  obtain ⟨x0, rfl, _⟩ := tr_int Try.underlying3 (hall 0 (by decide)) (by omega)
  obtain ⟨x1, rfl, _⟩ := tr_int Try.underlying3 (hall 1 (by decide)) (by omega)
  obtain ⟨x2, rfl, _⟩ := tr_int Try.underlying3 (hall 2 (by decide)) (by omega)
  obtain ⟨x3, rfl, _⟩ := tr_int Try.underlying3 (hall 3 (by decide)) (by omega)
  obtain ⟨x4, rfl, _⟩ := tr_int Try.underlying3 (hall 4 (by decide)) (by omega)
  exact ⟨x0, x1, x2, x3, x4, rfl⟩
end
theorem cons_len {A : Type} {l : List A} {n : Nat} (h : l.length = n + 1) : ∃ a t, l = a :: t ∧ t.length = n := by
  cases l with
  | nil => simp at h
  | cons a t => exact ⟨a, t, rfl, by simpa using h⟩
theorem list33 {A : Type} {l : List A} (h : l.length = 33) : ∃ a0 a1 a2 a3 r b0 b1 b2 b3 b4 s c, l = a0 :: a1 :: a2 :: a3 :: (r ++ (b0 :: b1 :: b2 :: b3 :: b4 :: (s ++ [c]))) ∧ r.length = 18 ∧ s.length = 5 := by
  obtain ⟨a0, t0, rfl, h0⟩ := cons_len h
  obtain ⟨a1, t1, rfl, h1⟩ := cons_len h0
  obtain ⟨a2, t2, rfl, h2⟩ := cons_len h1
  obtain ⟨a3, t3, rfl, h3⟩ := cons_len h2
  have e : t3 = t3.take 18 ++ t3.drop 18 := (List.take_append_drop 18 t3).symm
  have h4 : (t3.drop 18).length = 10 + 1 := by rw [List.length_drop, h3]
  obtain ⟨b0, u0, e0, g0⟩ := cons_len h4
  obtain ⟨b1, u1, rfl, g1⟩ := cons_len g0
  obtain ⟨b2, u2, rfl, g2⟩ := cons_len g1
  obtain ⟨b3, u3, rfl, g3⟩ := cons_len g2
  obtain ⟨b4, u4, rfl, g4⟩ := cons_len g3
  have hne : u4 ≠ [] := by intro q; subst q; simp at g4
  refine ⟨a0, a1, a2, a3, t3.take 18, b0, b1, b2, b3, b4, u4.dropLast, u4.getLast hne, ?_, by rw [List.length_take, h3]; rfl, by rw [List.length_dropLast, g4]⟩
  rw [List.dropLast_concat_getLast hne, ← e0, List.take_append_drop]
/-- a record that came in -/
def RcG (W : World) (R : Rc Nm) : Prop := R.ip.length = 16 ∧ ∀ k, k ≤ 2 → NmOk W (R.nm k)
theorem open_rr {H : Type} {enc : TypeId × Value → H} {W : World} {n : Nat} {cs : List Value} {d : DataW H} {p : List MemPlace} (h : DataW.trod enc Try.prog W 0 (fun _ => true) true n 34 cs = some (d, p)) (hsz : (d.weights Try.prog 34).all (· ≤ reachBytes) = true) :
    ∃ R : Rc Nm, cs = rcL R ∧ RcG W R := by
  have hc : Try.prog.cellsOf 34 = 33 := by kernel_rfl
  have hcI : Try.prog.cellsOf 3 = 1 := by kernel_rfl
  have hcN : Try.prog.cellsOf 28 = 1 := by kernel_rfl
  have hcS : Try.prog.cellsOf 9 = 1 := by kernel_rfl
  have hcA : Try.prog.cellsOf 31 = 18 := by kernel_rfl
  have hc5 : Try.prog.cellsOf 32 = 5 := by kernel_rfl
  obtain ⟨xs, m, rfl, hx, hl, hxl, hall⟩ := DataW.trod_struct Try.underlying34 h
  rw [hc] at hl
  obtain ⟨a0, a1, a2, a3, r, b0, b1, b2, b3, b4, s, c, rfl, hr, hs⟩ := list33 hl
  have h12 : xs.length = 12 := by simpa using hxl
  have hd : d = .agg (xs.map (·.1)) := congrArg Prod.fst hx
  have hsz2 : (DataW.weightsEach Try.prog [28, 3, 3, 3, 31, 28, 28, 3, 3, 3, 32, 9] (xs.map (·.1))).all (· ≤ reachBytes) = true := by
    rw [hd] at hsz
    simp only [DataW.weights, Try.underlying34] at hsz
    exact hsz
  have hk : ∀ (o : Nat) (j k : Nat) (t : TypeId) (l : List Value), Try.prog.cellsOf t = k → (((a0 :: a1 :: a2 :: a3 :: (r ++ (b0 :: b1 :: b2 :: b3 :: b4 :: (s ++ [c])))).drop o).take k) = l → DataW.trod enc Try.prog W 0 (fun _ => true) true m t (((a0 :: a1 :: a2 :: a3 :: (r ++ (b0 :: b1 :: b2 :: b3 :: b4 :: (s ++ [c])))).drop o).take (Try.prog.cellsOf t)) = xs[j]? → DataW.trod enc Try.prog W 0 (fun _ => true) true m t l = xs[j]? := fun o j k t l h1 h2 h3 => by rw [h1, h2] at h3; exact h3
  have D : ∀ o, 22 ≤ o → (a0 :: a1 :: a2 :: a3 :: (r ++ (b0 :: b1 :: b2 :: b3 :: b4 :: (s ++ [c])))).drop o = (b0 :: b1 :: b2 :: b3 :: b4 :: (s ++ [c])).drop (o - 22) := fun o ho => by
    obtain ⟨q, rfl⟩ : ∃ q, o = q + 18 + 1 + 1 + 1 + 1 := ⟨o - 22, by omega⟩
    simp only [List.drop_succ_cons]
    rw [List.drop_append, List.drop_eq_nil_of_le (by omega), hr]
    simp
  have D2 : ∀ o, 27 ≤ o → (a0 :: a1 :: a2 :: a3 :: (r ++ (b0 :: b1 :: b2 :: b3 :: b4 :: (s ++ [c])))).drop o = (s ++ [c]).drop (o - 27) := fun o ho => by
    rw [D o (by omega)]
    obtain ⟨q, rfl⟩ : ∃ q, o = q + 27 := ⟨o - 27, by omega⟩
    rw [show q + 27 - 22 = q + 1 + 1 + 1 + 1 + 1 by omega, show q + 27 - 27 = q by omega]
    rfl
  have n0 := hk 0 0 1 _ [a0] hcN rfl (hall 0 _ rfl)
  obtain ⟨ty, rfl, _⟩ := tr_int Try.underlying3 (hk 1 1 1 _ [a1] hcI rfl (hall 1 _ rfl)) (by omega)
  obtain ⟨cl, rfl, _⟩ := tr_int Try.underlying3 (hk 2 2 1 _ [a2] hcI rfl (hall 2 _ rfl)) (by omega)
  obtain ⟨tt, rfl, _⟩ := tr_int Try.underlying3 (hk 3 3 1 _ [a3] hcI rfl (hall 3 _ rfl)) (by omega)
  obtain ⟨fam, zn, ip, hra, hip⟩ := tr_ad (tr_some (hk 4 4 18 _ r hcA (by rw [List.drop_succ_cons, List.drop_succ_cons, List.drop_succ_cons, List.drop_succ_cons, List.drop_zero]; exact List.take_left' hr) (hall 4 _ rfl)) (by omega))
  have n1 := hk 22 5 1 _ [b0] hcN (by rw [D 22 (by decide)]; rfl) (hall 5 _ rfl)
  have n2 := hk 23 6 1 _ [b1] hcN (by rw [D 23 (by decide)]; rfl) (hall 6 _ rfl)
  obtain ⟨u0, rfl, _⟩ := tr_int Try.underlying3 (hk 24 7 1 _ [b2] hcI (by rw [D 24 (by decide)]; rfl) (hall 7 _ rfl)) (by omega)
  obtain ⟨u1, rfl, _⟩ := tr_int Try.underlying3 (hk 25 8 1 _ [b3] hcI (by rw [D 25 (by decide)]; rfl) (hall 8 _ rfl)) (by omega)
  obtain ⟨u2, rfl, _⟩ := tr_int Try.underlying3 (hk 26 9 1 _ [b4] hcI (by rw [D 26 (by decide)]; rfl) (hall 9 _ rfl)) (by omega)
  obtain ⟨u3, u4, u5, u6, u7, rfl⟩ := tr_nums (tr_some (hk 27 10 5 _ s hc5 (by rw [D2 27 (by decide)]; exact List.take_left' hs) (hall 10 _ rfl)) (by omega))
  obtain ⟨sv, rfl, _⟩ := tr_string Try.underlying9 (hk 32 11 1 _ [c] hcS (by rw [D2 32 (by decide)]; rfl) (hall 11 _ rfl)) (by omega)
  have hp : ∀ j (hj : j < xs.length), (xs.map (·.1))[j]? = some (xs[j]'hj).1 := fun j hj => by rw [List.getElem?_map, List.getElem?_eq_getElem hj]; rfl
  have hS1 : Try.prog.cellsOf 9 = 1 := hcS
  obtain ⟨y0, rfl, g0⟩ := open_name1 Try.underlying28 Try.underlying9 hS1 (d := (xs[0]'(by omega)).1) (p := (xs[0]'(by omega)).2) (tr_some n0 (by omega)) (sized_part hsz2 (j := 0) rfl (hp 0 (by omega)))
  obtain ⟨y1, rfl, g1⟩ := open_name1 Try.underlying28 Try.underlying9 hS1 (d := (xs[5]'(by omega)).1) (p := (xs[5]'(by omega)).2) (tr_some n1 (by omega)) (sized_part hsz2 (j := 5) rfl (hp 5 (by omega)))
  obtain ⟨y2, rfl, g2⟩ := open_name1 Try.underlying28 Try.underlying9 hS1 (d := (xs[6]'(by omega)).1) (p := (xs[6]'(by omega)).2) (tr_some n2 (by omega)) (sized_part hsz2 (j := 6) rfl (hp 6 (by omega)))
  refine ⟨⟨fun k => match k with | 0 => y0 | 1 => y1 | _ => y2, ty, cl, tt, fam, ip, zn, fun k => match k with | 0 => u0 | 1 => u1 | 2 => u2 | 3 => u3 | 4 => u4 | 5 => u5 | 6 => u6 | _ => u7, sv.data.toList⟩, ?_, hip, fun k hk => ?_⟩
  · rw [hra]
    unfold rcL
    simp
  · match k, hk with
    | 0, _ => exact g0
    | 1, _ => exact g1
    | 2, _ => exact g2
/-- a slice of records -/
def RRsAt (W : World) (A : Option Addr) (n : Nat) (L : List (Rc Nm)) : Prop :=
  n = L.length ∧ (0 < n → ∃ b o, A = some ⟨b, o, none⟩ ∧ b < W.heap.size ∧ ∀ j (h : j < L.length) (i : Nat) v, (rcL L[j])[i]? = some v → W.cell? ⟨b, o + j * 33 + i, none⟩ = some v) ∧ ∀ R ∈ L, RcG W R
theorem open_rrs {H : Type} {enc : TypeId × Value → H} {W : World} {A : Option Addr} {n c : Nat} {d : DataW H} {p : List MemPlace} (hk : DataW.Trod enc Try.prog W 0 (fun _ => true) true 22 (.slice A n c) d p) (hsz : (d.weights Try.prog 22).all (· ≤ reachBytes) = true) : ∃ L, RRsAt W A n L := by
  have hc : Try.prog.cellsOf 34 = 33 := by kernel_rfl
  obtain ⟨fuel, hf⟩ := hk
  rcases Go.Deep.open_slice Try.underlying22 hf with ⟨hcs, _⟩ | ⟨a, len, cap, m, fu, D, Pl, hcs, hb, hl, hm, hmm, hx, hV⟩
  · simp [Value.cells] at hcs
    obtain ⟨rfl, rfl, rfl⟩ := hcs
    exact ⟨[], rfl, fun h => absurd h (by omega), fun y hy => by simp at hy⟩
  · simp [Value.cells] at hcs
    obtain ⟨rfl, rfl, rfl⟩ := hcs
    simp only [if_true] at hmm
    have hd := congrArg Prod.fst hx
    simp only at hd
    rw [hc] at hV
    have each : ∀ i, i < n → ∃ R : Rc Nm, W.cells? 0 (a.add (i * 33)) 33 = some (rcL R) ∧ RcG W R := fun i hi => by
      obtain ⟨cs, h1, h2⟩ := hV i (by omega)
      obtain ⟨R, rfl, hR⟩ := open_rr h2 (List.all_eq_true.2 fun k hk => List.all_eq_true.1 hsz k (by
        rw [hd]
        simp only [DataW.weights, Try.underlying22]
        exact List.mem_cons_of_mem _ (List.mem_append_left _ (weights_all_mem (List.mem_map.2 ⟨i, List.mem_range.2 hi, rfl⟩) _ hk))))
      exact ⟨R, h1, hR⟩
    obtain ⟨Y, hY⟩ := @Go.Deep.choose_lt (Rc Nm) ⟨zeroR nilN⟩ n _ each
    have hcells : ∀ i, i < n → ∀ (j : Nat) v, (rcL (Y i))[j]? = some v → W.cell? ((a.add (i * 33)).add j) = some v := fun i hi j v hv => by
      have h33 : j < 33 := by
        have h1 := (List.getElem?_eq_some_iff.1 hv).1
        rw [rc_len (hY i hi).2.1] at h1
        exact h1
      exact ((World.cells?_some (hY i hi).1).2.2 j h33).trans hv
    refine ⟨(List.range n).map Y, by simp, fun h0 => ?_, fun y hy => ?_⟩
    · have h0' := hcells 0 h0 0 _ (show (rcL (Y 0))[0]? = some ((Y 0).nm 0).v from rfl)
      obtain ⟨b, o, sp⟩ := a
      have hspot : sp = none := by simpa [Addr.add] using World.cell?_spot h0'
      subst hspot
      refine ⟨b, o, rfl, by simpa [Addr.add] using cell_lt h0', fun j hj i v hv => ?_⟩
      have hj' : j < n := by simpa using hj
      have h := hcells j hj' i v (by simpa using hv)
      rw [Go.WideShapes.add_plain, Go.WideShapes.add_plain] at h
      exact h
    · obtain ⟨i, hi, rfl⟩ := List.mem_map.1 hy
      exact (hY i (by simpa using hi)).2
end Go.Proofs.Ytnoabmkmnddkkaa
