/- Texts behind a law of this seat, in order: Dom10. -/
import Derived.Test.YthbdeafbdmbabaaGreatDoorPa
import Derived.Test.YthbdeafbdmbabaaGreatDoorPb
import Derived.Test.YthbdeafbdmbabaaGreatDoorPd
import Derived.Test.YthbdeafbdmbabaaGreatDoorPe
import Derived.Test.YthbdeafbdmbabaaGreatDoorPf
import Derived.Test.YthbdeafbdmbabaaGreatDoorPg
import Derived.Test.YthbdeafbdmbabaaGreatDoorPh
import Derived.Test.YthbdeafbdmbabaaGreatDoorPw
import Derived.Test.YthbdeafbdmbabaaGreatDoorPx
import Derived.Test.YthbdeafbdmbabaaGreatDoorPy
import Derived.Test.YthbdeafbdmbabaaGreatDoorPz
import Derived.Test.YthbdeafbdmbabaaGreatDoorQa
import Derived.Below
import Derived.BigQuiet
import Derived.ChangeSlices
import Derived.Deep.AppendLies
import Derived.Deep.Draws
import Derived.Deep.OwnRows
import Derived.Deep.QuietTactic
import Derived.Deep.RegionLaw
import Derived.Handed
import Derived.Handy
import Derived.Laws.AppendOwnNone
import Derived.Laws.OwnMore
import Derived.Laws.Rows
import Derived.Lib.Bytealg
import Derived.Lib.DecodeN
import Derived.Lib.Hide
import Derived.Lib.Join
import Derived.Lib.RuneBytes
import Derived.Lib.Strings
import Derived.Shelf.LaysM
import Derived.Shelf.Small.Bits
import Derived.Shelf.Small.Strs
import Derived.Shelf.Strconv.Itoa0
import Derived.Shelf.Strconv.Itoa1
import Derived.Shelf.Strconv.Itoa2
import Derived.Shelf.Strconv.Itoa3
import Derived.Shelf.Strings.Builder1
import Derived.Shelf.Strings.Builder2
import Derived.Shelf.Strings.Builder2Cap
import Derived.Shelf.Strings.BuilderCap
import Derived.Shelf.Strings.BuilderF
import Derived.Shelf.Strings.BuilderK
import Derived.Shelf.Strings.Count
import Derived.Shelf.Strings.Cut
import Derived.Shelf.Strings.OnBuilder
import Derived.Shelf.Strings.Prefix
import Derived.Shelf.Strings.Search1
import Derived.Shelf.Strings.Search2
import Derived.Shelf.Strings.Search3
import Derived.Shelf.Strings.Shaped
import Derived.Shelf.Strings.Split
import Derived.Shelf.Strings.SplitShaped
import Derived.Shelf.Unicode.Decode
import Derived.Shelf.Unicode.DecodeAny
import Derived.Shelf.Unicode.DecodeSlow
import Derived.SizedLaws
import Derived.SliceStrings
import Derived.Test.YthbdeafbdmbabaaGreatDoorProg
import Derived.WalkKit
import Derived.WalkLawsBesides
import Derived.WalkSpells
namespace Go.Proofs.YthbdeafbdmbabaaGreatDoor
open Go.RowKit Go
set_option linter.unusedVariables false
theorem under_hit {la lb : List (List UInt8)} {k : Nat} (hle : lb.length ≤ la.length) (hk : k < lb.length) (h : sameB (la[la.length - lb.length + k]'(by omega)) lb[k] = false) : underN la lb = false := by
  unfold underN sameN
  rw [decide_eq_true hle, Bool.true_and, decide_eq_false_iff_not]
  intro e
  unfold sameB at h
  rw [decide_eq_false_iff_not] at h
  apply h
  have := congrArg (fun l => l[k]?) e
  unfold lowN at this
  rw [List.getElem?_map, List.getElem?_map, List.getElem?_drop, List.getElem?_eq_getElem hk, List.getElem?_eq_getElem (show la.length - lb.length + k < la.length by omega)] at this
  simpa using this
def UpTo (la lb : List (List UInt8)) (k : Nat) : Prop := ∀ j (h : j < lb.length) (h2 : la.length - lb.length + j < la.length), j < k → sameB la[la.length - lb.length + j] lb[j] = true
theorem upTo_step {la lb : List (List UInt8)} {k : Nat} (H : UpTo la lb k) (hk : k < lb.length) (hle : lb.length ≤ la.length) (h : sameB (la[la.length - lb.length + k]'(by omega)) lb[k] = true) : UpTo la lb (k + 1) := by
  intro j hj hj2 hlt
  by_cases e : j = k
  · subst e; exact h
  · exact H j hj hj2 (by omega)
theorem under_end {la lb : List (List UInt8)} (H : UpTo la lb lb.length) (hle : lb.length ≤ la.length) : underN la lb = true := by
  unfold underN sameN
  rw [decide_eq_true hle, Bool.true_and, decide_eq_true_iff]
  unfold lowN
  apply List.ext_getElem
  · simp; omega
  · intro j h1 h2
    simp only [List.length_map, List.length_drop] at h1 h2
    have := H j h2 (by omega) h2
    unfold sameB at this
    rw [decide_eq_true_iff] at this
    simpa using this
set_option maxHeartbeats 1000000 in
theorem under_any (A B : Option Addr) (n m c d : Nat) (la lb : List (List UInt8)) (w : World) (ha : TextsAt w A n la) (hb : TextsAt w B m lb) (hn : sizeL la ≤ 3000) (hm : sizeL lb ≤ 3000) :
    Calls Tryz.prog 72 #[.slice A n c, .slice B m d] w fun e w' => e = .returned (.bool (underN la lb)) ∧ Below w.heap.size w w' := by
  obtain rfl := ha.1
  obtain rfl := hb.1
  have hl1 := size_len la
  have hl2 := size_len lb
  by_cases hle : lb.length ≤ la.length
  · have HH := fun k hk h => @under_hit la lb k hle hk h
    have HS := fun k H hk h => @upTo_step la lb k H hk hle h
    have HE := Lib.hid (fun H => @under_end la lb H hle)
    have HH := Lib.hid HH
    have HS := Lib.hid HS
    have t0 : ¬ ((la.length : Int) - (lb.length : Int) < 0) := by omega
    go_enter Tryz.func72, Tryz.ntmps72
    go_wp2_with fail
    go_loopw [17] (fun i wr => ∃ k : Nat, k ≤ lb.length ∧ i = .int .i64 k ∧ Below w.heap.size w wr ∧ Hid (UpTo la lb k)) (fun i _ => lb.length - (intOf i).toNat)
    case atStart => exact ⟨0, Nat.zero_le _, rfl, Below.refl _ _, Lib.hid (fun j _ _ h => absurd h (by omega))⟩
    case round =>
      obtain ⟨k, hk, rfl, HB, HU⟩ := hrel
      have hsz := HB.size
      by_cases hkl : k < lb.length
      · obtain ⟨b1, o1, rfl, hbh1, hcell1⟩ := ha.2 (by omega)
        obtain ⟨b2, o2, rfl, hbh2, hcell2⟩ := hb.2 (by omega)
        have hka : la.length - lb.length + k < la.length := by omega
        have h1 := hcell1 _ hka
        have h2 := hcell2 k hkl
        rw [← HB.cell (p := ⟨b1, o1 + (la.length - lb.length + k), none⟩) hbh1] at h1
        rw [← HB.cell (p := ⟨b2, o2 + k, none⟩) hbh2] at h2
        have hm1 := size_at la _ hka
        have hm2 := size_at lb k hkl
        have hbad := HH.out k hkl
        have hgo := HS.out k HU.out hkl
        obtain ⟨x, hx⟩ : ∃ x, x = la[la.length - lb.length + k] := ⟨_, rfl⟩
        obtain ⟨y, hy⟩ : ∃ y, y = lb[k] := ⟨_, rfl⟩
        rw [← hx] at h1 hm1 hbad hgo
        rw [← hy] at h2 hm2 hbad hgo
        unfold strV at h1 h2
        obtain ⟨s, hs1, rfl, hs2⟩ := ba_of x
        obtain ⟨t, ht1, rfl, ht2⟩ := ba_of y
        rw [hs1] at h1
        rw [ht1] at h2
        rw [hs2] at hm1
        rw [ht2] at hm2
        have HBAD := Lib.hid hbad; have HGO := Lib.hid hgo
        have HSA := Lib.hid (same_any s t wr (by omega) (by omega))
        clear hcell1 hcell2 hx hy hs1 hs2 ht1 ht2 hbad hgo
        go_wp2_with fail
        with_reducible refine HSA.out.mono ?_
        rintro e w1 ⟨rfl, hb1⟩
        have HB1 := HB.trans (hb1.mono hsz)
        cases hh : sameB s.data.toList t.data.toList with
        | true =>
          have HG := Lib.hid (HGO.out hh)
          clear hh HBAD HGO HSA
          go_wp2_with fail
          go_roundw
          case rel => exact ⟨k + 1, by omega, by go_num, HB1, HG⟩
          case measure => simp [intOf]; omega
        | false =>
          have HF := Lib.hid (HBAD.out hh)
          clear hh HBAD HGO HSA
          go_wp2_with fail
          go_ret
          exact ⟨ret_bool HF.out.symm, HB1⟩
      · have hke : k = lb.length := by omega
        have hu := HU.out
        rw [hke] at hu
        have HF := Lib.hid (HE.out hu)
        clear hu hke
        go_wp2_with fail
        go_ret
        exact ⟨ret_bool HF.out.symm, HB⟩
  · have hf : underN la lb = false := by unfold underN; simp; omega
    have HF := Lib.hid hf
    have t0 : ((la.length : Int) - (lb.length : Int) < 0) := by omega
    clear hf hle
    go_enter Tryz.func72, Tryz.ntmps72
    go_wp2_with fail
    go_ret
    exact ⟨ret_bool HF.out.symm, Below.refl _ _⟩
theorem same_lens {la lb : List (List UInt8)} (h : la.length = lb.length) : underN la lb = sameN la lb := by
  unfold underN
  rw [decide_eq_true (by omega), Bool.true_and, show la.length - lb.length = 0 by omega, List.drop_zero]
theorem same_not {la lb : List (List UInt8)} (h : la.length ≠ lb.length) : sameN la lb = false := by
  unfold sameN
  rw [decide_eq_false_iff_not]
  intro e
  have := congrArg List.length e
  rw [lowN_len, lowN_len] at this
  exact h this
set_option maxHeartbeats 400000 in
theorem sameD_any (A B : Option Addr) (n m c d : Nat) (la lb : List (List UInt8)) (w : World) (ha : TextsAt w A n la) (hb : TextsAt w B m lb) (hn : sizeL la ≤ 3000) (hm : sizeL lb ≤ 3000) :
    Calls Tryz.prog 48 #[.slice A n c, .slice B m d] w fun e w' => e = .returned (.bool (sameN la lb)) ∧ Below w.heap.size w w' := by
  obtain rfl := ha.1
  obtain rfl := hb.1
  by_cases h : la.length = lb.length
  · have hu := under_any A B _ _ c d la lb w ha hb hn hm
    rw [same_lens h] at hu
    have HU := Lib.hid hu
    have t0 : ((la.length : Int) == (lb.length : Int)) = true := by simp; omega
    clear hu h
    go_enter Tryz.func48, Tryz.ntmps48
    go_wp2_with fail
    with_reducible refine HU.out.mono ?_
    rintro e w1 ⟨rfl, hb1⟩
    go_wp2_with fail
    go_ret
    exact ⟨rfl, hb1⟩
  · have HF := Lib.hid (same_not h)
    have t0 : ((la.length : Int) == (lb.length : Int)) = false := by simp; omega
    clear h
    go_enter Tryz.func48, Tryz.ntmps48
    go_wp2_with fail
    go_ret
    exact ⟨ret_bool HF.out.symm, Below.refl _ _⟩
end Go.Proofs.YthbdeafbdmbabaaGreatDoor
