/- Texts behind a law of this seat, in order: TabC2. -/
import Derived.Test.YtnoabmkmnddkkaaPa
import Derived.Test.YtnoabmkmnddkkaaPb
import Derived.Test.YtnoabmkmnddkkaaPc
import Derived.Test.YtnoabmkmnddkkaaPd
import Derived.Test.YtnoabmkmnddkkaaPf
import Derived.Test.YtnoabmkmnddkkaaPg
import Derived.Test.YtnoabmkmnddkkaaPh
import Derived.Test.YtnoabmkmnddkkaaPi
import Derived.Test.YtnoabmkmnddkkaaPj
import Derived.Test.YtnoabmkmnddkkaaPk
import Derived.Test.YtnoabmkmnddkkaaPm
import Derived.Test.YtnoabmkmnddkkaaPn
import Derived.Test.YtnoabmkmnddkkaaPp
import Derived.Test.YtnoabmkmnddkkaaPs
import Derived.Below
import Derived.BigQuiet
import Derived.BigRegion
import Derived.ChangeSlices
import Derived.Deep.AppendLies
import Derived.Deep.Draws
import Derived.Deep.OwnRows
import Derived.Deep.Quiet
import Derived.Deep.QuietTactic
import Derived.Deep.RegionLaw
import Derived.Great.Ranges
import Derived.Handed
import Derived.Handy
import Derived.Laws.OwnMore
import Derived.Laws.Rows
import Derived.Lib.Hide
import Derived.Lib.Strings
import Derived.Maps.OwnSet
import Derived.SizedLaws
import Derived.SliceStrings
import Derived.StillTailTactics
import Derived.StringKeys
import Derived.Test.YtnoabmkmnddkkaaProg
import Derived.WalkKit
import Derived.WalkLawsBesides
import Derived.WalkSpells
namespace Go.Proofs.Ytnoabmkmnddkkaa
open Go.RowKit Go
open Go.Maps (Keyed)
set_option linter.unusedVariables false
set_option maxRecDepth 100000
def keyN (n : Lbs) : Lit := .string (wireB n)
theorem isKeyN (n : Lbs) : WideAt.IsKeyLit (keyN n) := by unfold keyN; trivial
/-- the map reads as the table -/
def Rep (D : DataW Unit) (T : List (Lbs × Int)) : Prop :=
  Go.Maps.IsMap D ∧ ∀ n : Lbs, n.all okLab = true → Go.Maps.has D (keyN n) = (pkFind T n).isSome ∧ ∀ to, pkFind T n = some to → D.atKey (keyN n) (.lit (.int .i64 0)) = .lit (.int .i64 to)
theorem rep_nil : Rep (.map []) [] := ⟨⟨[], rfl⟩, fun n _ => ⟨rfl, fun to h => by simp [pkFind] at h⟩⟩
theorem keyN_ne {a b : Lbs} (ha : a.all okLab = true) (hb : b.all okLab = true) (h : a ≠ b) : keyN a ≠ keyN b := fun e => h (wireB_inj a b ha hb (by unfold keyN at e; injection e))
theorem Rep.put {D : DataW Unit} {T : List (Lbs × Int)} (h : Rep D T) {n : Lbs} (hn : n.all okLab = true) (hf : pkFind T n = none) (pos : Int) : Rep (D.put (keyN n) (.lit (.int .i64 pos))) (T ++ [(n, pos)]) := by
  refine ⟨h.1.put _ _, fun m hm => ?_⟩
  rw [pkFind_app]
  by_cases e : n = m
  · subst e
    rw [hf]
    simp only [if_true]
    refine ⟨by rw [Go.Maps.has_put_same h.1 (isKeyN n)]; rfl, fun to ht => ?_⟩
    injection ht with ht
    subst ht
    exact Go.Maps.atKey_put_same h.1 (isKeyN n) _ _
  · have hne := keyN_ne hm hn (Ne.symm e)
    obtain ⟨h1, h2⟩ := h.2 m hm
    rw [Go.Maps.has_put_other hne, h1]
    cases hm2 : pkFind T m with
    | some to =>
      refine ⟨rfl, fun t ht => ?_⟩
      rw [Go.Maps.atKey_put_other hne]
      exact h2 t (by rw [hm2]; exact ht)
    | none =>
      rw [if_neg e]
      exact ⟨rfl, fun t ht => by cases ht⟩
/-- the program's table g, in a world that comes of W0 -/
def PTab (W0 w : World) (g : Nat) (T : List (Lbs × Int)) : Prop :=
  ∃ mv, Ats W0.heap.size W0 w [(g, 45, #[mv])] ∧ ((mv = .map none ∧ T = []) ∨
    ∃ bm D, mv = .map (some bm) ∧ W0.heap.size ≤ bm ∧ w.ownsMap Try.prog 9 (plainElem (H := Unit) Try.prog 3) bm T.length D ∧ Rep D T)
theorem kStr : Keyed Try.prog 9 := Go.Maps.string_keyed Try.underlying9
theorem zInt (w : World) : (zeroValue 3).run Try.prog w = .ok (.int .i64 0) w := by kernel_rfl
theorem keyOfN (n : Lbs) (h : sizeL n ≤ 100000) : keyOf Try.prog 9 (.string ⟨(wireB n).toArray⟩) = some (keyN n) := by
  have := Go.WideMaps.keyOf_string_mk (P := Try.prog) (k := 9) Try.underlying9 (s := ⟨(wireB n).toArray⟩) (by show (wireB n).length ≤ _; rw [wireB_len]; unfold maxLen; omega)
  simpa [keyN] using this
def placeI (T : List (Lbs × Int)) (n : Lbs) : Int := match pkFind T n with | some to => to | none => 0
theorem place_any (W0 w : World) (g : Nat) (T : List (Lbs × Int)) (hT : PTab W0 w g T) (n : Lbs) (hn : n.all okLab = true) (hs : sizeL n ≤ 100000) :
    Calls Try.prog 65 #[.pointer (some ⟨g, 0, none⟩), .string ⟨(wireB n).toArray⟩] w fun e w' => e = .returned (.tuple #[.int .i64 (placeI T n), .bool (pkFind T n).isSome]) ∧ w = w' := by
  have hk := keyOfN n hs
  obtain ⟨s, hsv⟩ : ∃ s : ByteArray, s = ⟨(wireB n).toArray⟩ := ⟨_, rfl⟩
  rw [← hsv] at hk ⊢
  clear hsv
  obtain ⟨mv, S, ⟨rfl, rfl⟩ | ⟨bm, D, rfl, hB, hown, hrep⟩⟩ := hT
  · have c0 : w.cell? ⟨g, 0, none⟩ = some (.map none) := (S.get (i := 0) rfl).cells 0 rfl
    have hl := Maps.look_nil (w := w) true kStr Try.underlying43 (zInt w) hk
    simp only [if_true] at hl
    clear S hk
    go_enter Try.func65, Try.ntmps65
    go_wp2
    refine bodyPost_ret (results_tmp2 rfl _ _ _) rfl ⟨?_, rfl⟩
    rfl
  · have c0 : w.cell? ⟨g, 0, none⟩ = some (.map (some bm)) := (S.get (i := 0) rfl).cells 0 rfl
    have HR := Lib.hid (hrep.2 n hn)
    have HI := Lib.hid hrep
    have HK := Lib.hid hk
    have HOWN := Lib.hid hown
    clear S hk hrep hown
    go_enter Try.func65, Try.ntmps65
    go_wp2_with (first | (at_lookup; refine wpList_lookup_own_ok_int _ rfl _ _ 43 rfl 9 3 .i64 kStr Try.underlying43 Try.underlying3 (zInt _) bm T.length D rfl HOWN.out _ _ rfl HK.out ?_; intro v hat _; have HAT := Lib.hid hat; clear hat))
    refine bodyPost_ret (results_tmp2 rfl _ _ _) rfl ⟨?_, rfl⟩
    obtain ⟨h1, h2⟩ := HR.out
    have hv : v = placeI T n := by
      unfold placeI
      cases hf : pkFind T n with
      | some to =>
        have h3 := h2 to hf
        have h4 := HAT.out
        rw [h3] at h4
        injection h4 with h4
        injection h4 with _ h4
        exact h4.symm
      | none =>
        rw [hf] at h1
        have h4 := HAT.out
        rw [Go.Maps.atKey_of_not_has h1] at h4
        injection h4 with h4
        injection h4 with _ h4
        exact h4.symm
    rw [hv, ← h1]
    rfl
theorem placeNil_any (s : ByteArray) (w : World) : Calls Try.prog 65 #[.pointer none, .string s] w fun e w' => e = .returned (.tuple #[.int .i64 0, .bool false]) ∧ w = w' := by
  go_enter Try.func65, Try.ntmps65
  go_wp2
  exact bodyPost_ret (results_tmp2 rfl _ _ _) rfl ⟨rfl, rfl⟩
theorem learnNil_any (s : ByteArray) (a b : Int) (w : World) : Calls Try.prog 38 #[.pointer none, .string s, .int .i64 a, .int .i64 b] w fun e w' => e = .returned (.tuple #[]) ∧ w = w' := by
  go_enter Try.func38, Try.ntmps38
  go_wp2
  go_returns
  exact ⟨rfl, rfl⟩
theorem mapNil_eq (w : World) : (binOp BinOp.eql 43 (.map none) (.map none)).run Try.prog w = .ok (.bool true) w := by
  kernel_rfl
theorem mapSome_eq (b : Nat) (w : World) : (binOp BinOp.eql 43 (.map (some b)) (.map none)).run Try.prog w = .ok (.bool false) w := by
  kernel_rfl
theorem PTab.kept {W0 w w' : World} {g : Nat} {T : List (Lbs × Int)} (h : PTab W0 w g T) (hb : Below w.heap.size w w') : PTab W0 w' g T := by
  obtain ⟨mv, S, h2⟩ := h
  refine ⟨mv, S.call hb, ?_⟩
  rcases h2 with h2 | ⟨bm, D, he, hB, ho, hr⟩
  · exact .inl h2
  · exact .inr ⟨bm, D, he, hB, map_kept (p := fun _ => false) (g := bm + 1) ho (Kept.below hb) (by omega) (fun _ _ => rfl), hr⟩
set_option maxRecDepth 100000 in
set_option maxHeartbeats 4000000 in
theorem learn_any (W0 w : World) (g : Nat) (T : List (Lbs × Int)) (hT : PTab W0 w g T) (hTl : T.length ≤ 100000) (n : Lbs) (hn : n.all okLab = true) (hs : sizeL n ≤ 100000) (hf : pkFind T n = none) (at_ : Int) (from_ : Nat) (hfr : from_ ≤ 1000) :
    Calls Try.prog 38 #[.pointer (some ⟨g, 0, none⟩), .string ⟨(wireB n).toArray⟩, .int .i64 at_, .int .i64 from_] w fun e w' => e = .returned (.tuple #[]) ∧
      PTab W0 w' g (if decide (0 ≤ at_) = true ∧ at_ + (from_ : Int) ≤ 16383 then T ++ [(n, at_ + (from_ : Int))] else T) ∧ Kept isMapO g w w' ∧ Below W0.heap.size W0 w' := by
  have hk := keyOfN n hs
  obtain ⟨s, hsv⟩ : ∃ s : ByteArray, s = ⟨(wireB n).toArray⟩ := ⟨_, rfl⟩
  rw [← hsv] at hk ⊢
  clear hsv
  have hBW : Below W0.heap.size W0 w := by obtain ⟨_, S, _⟩ := hT; exact S.below
  by_cases hc : decide (0 ≤ at_) = true ∧ at_ + (from_ : Int) ≤ 16383
  · rw [if_pos hc]
    have ha : 0 ≤ at_ := of_decide_eq_true hc.1
    have hc2 := hc.2
    have t1 : ¬ at_ < 0 := by omega
    have t2 : ¬ at_ > 16383 - (from_ : Int) := by omega
    have hww : wrap64 (at_ + (from_ : Int)) = at_ + (from_ : Int) := by unfold wrap64; omega
    obtain ⟨mv, S, ⟨rfl, rfl⟩ | ⟨bm, D, rfl, hB, hown, hrep⟩⟩ := hT
    · have hmm := @run_makeMap Try.prog
      have hme := fun w => mapNil_eq w
      have hat := S.get (i := 0) rfl
      have c0 : w.cell? ⟨g, 0, none⟩ = some (.map none) := hat.cells 0 rfl
      have z0 := hat.ice 0
      have c0a : (w.alloc (.map #[] 0)).cell? ⟨g, 0, none⟩ = some (.map none) := (hat.alloc _).cells 0 rfl
      have z0a := (hat.alloc (.map #[] 0)).ice 0
      have HAT := Lib.hid hat
      have hgl := hat.lt
      have hsz := S.big
      have hne : w.heap.size ≠ g := by omega
      have hmade := World.ownsMap_made (H := Unit) (w.setCell ⟨g, 0, none⟩ (.map (some w.heap.size))) Try.prog 9 (plainElem Try.prog 3)
      rw [setCell_size] at hmade
      have HOWN := Lib.hid hmade
      clear hmade
      have HS := Lib.hid S
      have HK := Lib.hid hk
      have HR := Lib.hid (rep_nil.put hn hf (at_ + (from_ : Int)))
      clear hat S hk hc hBW hf hne
      go_enter Try.func38, Try.ntmps38
      go_wp2_with (first | (at_mapUpdate; refine wpList_mapUpdate_own _ rfl _ _ _ 43 rfl 9 3 kStr Try.underlying43 _ w.heap.size 0 (.map []) rfl HOWN.out (by unfold maxLen; omega) _ _ _ rfl rfl HK.out _ [] (plainElem_int Try.underlying3 (WalkArith.wf_i64 (by omega))) ?_; intro w2 hown2 hgr2))
      go_returns
      have hat1 := (HAT.out.put 0 (.map (some w.heap.size))).alloc (.map #[] 0)
      have hat2 := hat1.grown hgr2 (by simp; omega)
      have hbel : Below W0.heap.size W0 w2 := ((below_put HS.out.below (HS.out.ge (i := 0) rfl) 0 (.map (some w.heap.size))).alloc (by rw [setCell_size]; exact hsz) (.map #[] 0)).grown hgr2 (by have := setCell_size w ⟨g, 0, none⟩ (.map (some w.heap.size)); simp; omega) (fun k hk => by injection hk with hk; omega)
      have hS2 : Ats W0.heap.size W0 w2 [(g, 45, #[.map (some w.heap.size)])] :=
        ⟨hbel, hbel.size, fun y hy => by simp at hy; subst hy; exact ⟨HS.out.ge (i := 0) rfl, hat2⟩, by simp⟩
      refine ⟨rfl, ⟨_, hS2, .inr ⟨w.heap.size, _, rfl, hsz, by simpa using hown2, HR.out⟩⟩, ?_, hbel⟩
      refine (Kept.put 0 (.map (some w.heap.size))).trans ((Kept.non (grown_alloc _ (.map #[] 0))).trans ?_)
      obtain ⟨es, cl, hes, _⟩ := HOWN.out
      exact Kept.map hes hgr2
    · have hat := S.get (i := 0) rfl
      have c0 : w.cell? ⟨g, 0, none⟩ = some (.map (some bm)) := hat.cells 0 rfl
      have HK := Lib.hid hk
      have HOWN := Lib.hid hown
      have hme := fun b w => mapSome_eq b w
      have HS := Lib.hid S
      have HR := Lib.hid (hrep.put hn hf (at_ + (from_ : Int)))
      have HTL := Lib.hid (show T.length < maxLen by unfold maxLen; omega)
      clear hat S hk hc hBW hf hown hrep hTl
      go_enter Try.func38, Try.ntmps38
      go_wp2_with (first | (at_mapUpdate; refine wpList_mapUpdate_own _ rfl _ _ _ 43 rfl 9 3 kStr Try.underlying43 _ bm T.length D rfl HOWN.out HTL.out _ _ _ rfl rfl HK.out _ [] (plainElem_int Try.underlying3 (WalkArith.wf_i64 (by omega))) ?_; intro w2 hown2 hgr2))
      go_returns
      have hbm := map_ne HOWN.out (HS.out.get (i := 0) rfl)
      have hS2 : Ats W0.heap.size W0 w2 [(g, 45, #[.map (some bm)])] :=
        ⟨HS.out.below.grown hgr2 HS.out.big (fun k hk => by injection hk with hk; omega), Nat.le_trans HS.out.big hgr2.size, fun y hy => by simp at hy; subst hy; exact ⟨HS.out.ge (i := 0) rfl, (HS.out.get (i := 0) rfl).grown hgr2 (fun e => hbm (by injection e))⟩, by simp⟩
      obtain ⟨es, cl, hes, _⟩ := HOWN.out
      exact ⟨rfl, ⟨_, hS2, .inr ⟨bm, _, rfl, hB, by rw [List.length_append]; exact hown2, HR.out⟩⟩, Kept.map hes hgr2, hS2.below⟩
  · rw [if_neg hc]
    have HT := Lib.hid hT
    have HB := Lib.hid hBW
    by_cases ha : at_ < 0
    · clear hT hBW hc hf hk
      go_enter Try.func38, Try.ntmps38
      go_wp2
      go_returns
      exact ⟨rfl, HT.out, Kept.refl _, HB.out⟩
    · have t2 : at_ > 16383 - (from_ : Int) := by
        have : ¬ at_ + (from_ : Int) ≤ 16383 := fun h => hc ⟨decide_eq_true (by omega), h⟩
        omega
      clear hT hBW hc hf hk
      go_enter Try.func38, Try.ntmps38
      go_wp2
      all_goals
        go_returns
        exact ⟨rfl, HT.out, Kept.refl _, HB.out⟩
end Go.Proofs.Ytnoabmkmnddkkaa
