/- Texts behind a law of this seat, in order: Puny4, Puny5. -/
import Derived.Test.YtbcnnjifndmdpaaDoorPb
import Derived.Test.YtbcnnjifndmdpaaDoorPe
import Derived.Test.YtbcnnjifndmdpaaDoorPf
import Derived.Test.YtbcnnjifndmdpaaDoorPi
import Derived.Test.YtbcnnjifndmdpaaDoorPj
import Derived.Below
import Derived.BigQuiet
import Derived.ChangeSlices
import Derived.Deep.AppendLies
import Derived.Deep.Draws
import Derived.Deep.QuietTactic
import Derived.Deep.RegionHeld3
import Derived.Deep.RegionLaw
import Derived.Deep.RegionWith
import Derived.Handed
import Derived.IntWalk
import Derived.Laws.OwnMore
import Derived.Laws.Rows
import Derived.Lib.Hide
import Derived.Lib.Strings
import Derived.SizedLaws
import Derived.SliceStrings
import Derived.StillTailTactics
import Derived.Test.YtbcnnjifndmdpaaDoorProg
import Derived.WalkKit
import Derived.WalkLawsBesides
import Derived.WalkSpells
namespace Go.Proofs.YtbcnnjifndmdpaaDoor
open Go.RowKit Go
set_option linter.unusedVariables false
theorem elemU8 : Elem1 Tryd.prog 5 (.int .u8 0) 1 := by unfold Elem1; kernel_rfl
abbrev wrC (v : Value) (n s b bs d : Int) : Array Value := #[v, .int .i32 n, .int .i64 s, .int .i64 b, .int .i64 bs, .int .i64 d]
def bcs (l : List UInt8) : List Value := l.map fun c => Value.int .u8 (c.toNat : Int)
theorem bcs_app (l : List UInt8) (c : UInt8) : bcs (l ++ [c]) = bcs l ++ [.int .u8 (c.toNat : Int)] := by simp [bcs]
/-- what is known of a writer: its block, and the row of bytes that it holds -/
def Wr (w : World) (B g : Nat) (o : List UInt8) (n s b bs d : Int) : Prop := ∃ v, At w g 101 (wrC v n s b bs d) ∧ w.ownsRow B 5 1 v o.length (bcs o)
theorem fig_at {f : Int} (h0 : 0 ≤ f) (h1 : f ≤ 35) : ∀ h : f.toNat < 36, (figTab[f.toNat]'h).toNat = (figC f).toNat := by
  obtain ⟨n, rfl⟩ := Int.eq_ofNat_of_zero_le h0
  intro h
  have := fig_tab0 ⟨n, by omega⟩
  simp at this
  simp [this]
theorem wr_put0 {w : World} {B g : Nat} {v v' : Value} {o : List UInt8} {c : UInt8} {n s b bs d : Int} (hat : At w g 101 (wrC v n s b bs d)) (hown : w.ownsRow B 5 1 v' (o.length + 1) (bcs o ++ [.int .u8 (c.toNat : Int)])) :
    Wr (w.setCell ⟨g, 0, none⟩ v') B g (o ++ [c]) n s b bs d := by
  refine ⟨v', hat.put 0 v', ?_⟩
  have := own_put (i := 0) (u := v') hown hat (by decide)
  rw [bcs_app]
  simpa using this
set_option maxHeartbeats 2000000 in
theorem wnumber_any (B g : Nat) (o : List UInt8) (n s b bs d : Int) (w : World) (hW : Wr w B g o n s b bs d) (hB : B ≤ g) (hBw : B ≤ w.heap.size) (ho : o.length ≤ 1000000) (s0 : 0 ≤ s) (s1 : s ≤ 8589934592) (b0 : 0 ≤ b) (b1 : b ≤ 1099511627776) :
    Calls Tryd.prog 91 #[.pointer (some ⟨g, 0, none⟩)] w fun e w' => e = .returned (.tuple #[]) ∧ Wr w' B g (o ++ figs s 1 b) n s b bs d ∧ Below B w w' := by
  obtain ⟨F, hF⟩ : ∃ F, F = o ++ figs s 1 b := ⟨_, rfl⟩
  have HF := Lib.hid hF
  rw [← hF]
  clear hF
  have H0 : Hid (s < 10 ^ 10) := Lib.hid (Int.lt_of_le_of_lt s1 pow_ten)
  have HW := Lib.hid hW
  have c2 : w.cell? ⟨g, 2, none⟩ = some (.int .i64 s) := by obtain ⟨v, h, _⟩ := hW; exact h.cells 2 rfl
  clear hW
  go_enter Tryd.func91, Tryd.ntmps91
  go_wp2
  clear c2
  go_loopw [2, 3] (fun x u wr => ∃ a k : Int, ∃ p : List UInt8, ∃ m : Nat, x = .int .i64 a ∧ u = .int .i64 k ∧ 0 ≤ a ∧ a ≤ 8589934592 ∧ 1 ≤ k ∧ k + (m : Int) ≤ 12 ∧ Hid (a < 10 ^ m) ∧ (p.length : Int) + 1 ≤ o.length + k ∧ F = p ++ figs a k b ∧ Wr wr B g p n s b bs d ∧ Below B w wr) (fun _ u _ => (100 - intOf u).toNat)
  case atStart => exact ⟨s, 1, o, 10, rfl, rfl, by omega, by omega, by omega, by omega, H0, by omega, HF.out, HW.out, Below.refl _ _⟩
  case round =>
    obtain ⟨a, k, p, m, rfl, rfl, a0, a1, k0, k1, hm, hp, hf, ⟨v, hat, hown⟩, HB⟩ := hrel
    have hk := fun w => bound_any k b w k0 (by omega) b0 b1
    have hbd := bnd_bd k b
    have hg := fun h => figs_go (d := a) (k := k) (b := b) h
    have he := fun h => figs_end (d := a) (k := k) (b := b) h
    have ht := fun h => figs_ten (d := a) (k := k) (b := b) (m := m) h hm.out
    obtain ⟨t, htt⟩ : ∃ t, t = bndI k b := ⟨_, rfl⟩
    rw [← htt] at hbd hg he
    simp only [← htt] at hk ht
    have HK := Lib.hid hk
    have HG := Lib.hid hg
    have HE := Lib.hid he
    have HT := Lib.hid ht
    have HFF := Lib.hid hf
    have HAT := Lib.hid hat
    clear hk hg he ht htt hf
    obtain ⟨t0, t1⟩ := hbd
    have c0 := hat.cells 0 rfl
    have c3 := hat.cells 3 rfl
    have z0 := hat.ice 0
    clear hat
    have c0a := fun ob => (HAT.out.alloc ob).cells 0 rfl
    by_cases hlt : t ≤ a
    · have hz : (36 - t == 0) = false := by simp; omega
      have m0 := Int.emod_nonneg (a - t) (show 36 - t ≠ 0 by omega)
      have m1 := Int.emod_lt_of_pos (a - t) (show 0 < 36 - t by omega)
      obtain ⟨d2, d3⟩ := half_bd (a - t) (36 - t) (by omega) (by omega)
      obtain ⟨f, hf⟩ : ∃ f, f = t + (a - t) % (36 - t) := ⟨_, rfl⟩
      have hx := fig_at (f := t + (a - t) % (36 - t)) (by omega) (by omega)
      obtain ⟨m', rfl, hm2, _⟩ := HT.out hlt
      have HM := Lib.hid hm2
      have HL := Lib.hid (HG.out hlt)
      have hal : ¬ a < t := by omega
      have h36 : t + (a - t) % (36 - t) < 36 := by omega
      have hws := HB.size
      clear hm2 hm hf
      have e1 : IntKind.i64.wrap (a - t) = a - t := IntWalk.i64_in _ (by omega)
      have e2 : IntKind.i64.wrap (36 - t) = 36 - t := IntWalk.i64_in _ (by omega)
      have e3 : (a - t).tmod (36 - t) = (a - t) % (36 - t) := Int.tmod_eq_emod_of_nonneg (by omega)
      have e4 : IntKind.i64.wrap (t + (a - t) % (36 - t)) = t + (a - t) % (36 - t) := IntWalk.i64_in _ (by omega)
      have e5 : ¬ 36 - t = 0 := by omega
      have e6 : 0 ≤ t + (a - t) % (36 - t) := by omega
      have l1 : (p.length + 1) * 1 ≤ 140737488355328 := by omega
      have l2 : p.length + 1 ≤ 140737488355328 := by omega
      have l3 : B ≤ wr.heap.size := by omega
      go_wp2_with ((with_reducible refine (HK.out _).mono ?_); rintro e w' ⟨rfl, rfl⟩)
      go_region_law (refine step_app1 (by rfl) _ _ _ 5 (by rfl) Tryd.underlying51 elemU8 rfl B v p.length (bcs p) (.int .u8 ((figC (t + (a - t) % (36 - t))).toNat : Int)) (by rfl) (by rfl) hown rfl l1 l2 l3 g 101 0 (wrC v n s b bs d) HAT.out (by decide) v rfl ?_; intro gg cap w1 hown1 hat1 hb1 c0' z0')
      all_goals
        clear e1 e2 e3 e4 e5 e6 hx c0a
        go_wp2
        go_roundw
        case rel => exact ⟨(a - t) / (36 - t), k + 1, p ++ [figC (t + (a - t) % (36 - t))], m', rfl, rfl, by omega, by omega, by omega, by omega, HM, by simp; omega, by rw [HFF.out, HL.out]; simp, wr_put0 hat1 hown1, (HB.trans hb1).setCell hB _⟩
        case measure => simp [intOf]; omega
    · have hlt' : a < t := by omega
      have hx := fig_at (f := a) (by omega) (by omega)
      have HL := Lib.hid (HE.out hlt)
      have h36 : a < 36 := by omega
      have hws := HB.size
      go_wp2_with ((with_reducible refine (HK.out _).mono ?_); rintro e w' ⟨rfl, rfl⟩)
      go_region_law (refine step_app1 (by rfl) _ _ _ 5 (by rfl) Tryd.underlying51 elemU8 rfl B v p.length (bcs p) (.int .u8 ((figC a).toNat : Int)) (by rfl) (by rfl) hown rfl (by omega) (by omega) (by omega) g 101 0 (wrC v n s b bs d) HAT.out (by decide) v rfl ?_; intro gg cap w1 hown1 hat1 hb1 c0' z0')
      all_goals
        go_wp2
        refine bodyPost_ret (results_none rfl _ _ _) rfl ?_
        exact ⟨rfl, by rw [HFF.out, HL.out]; exact wr_put0 hat1 hown1, (HB.trans hb1).setCell hB _⟩
end Go.Proofs.YtbcnnjifndmdpaaDoor
namespace Go.Proofs.YtbcnnjifndmdpaaDoor
open Go.RowKit Go
set_option linter.unusedVariables false
set_option maxHeartbeats 2000000 in
theorem wput_any (B g : Nat) (o : List UInt8) (n s b bs d : Int) (w : World) (hW : Wr w B g o n s b bs d) (hB : B ≤ g) (hBw : B ≤ w.heap.size) (ho : o.length ≤ 1000000) (s0 : 0 ≤ s) (s1 : s ≤ 8589934592) (b0 : 0 ≤ b) (b1 : b ≤ 1099511627776)
    (d0 : 0 ≤ d) (d1 : d ≤ 10000) :
    Calls Tryd.prog 85 #[.pointer (some ⟨g, 0, none⟩)] w fun e w' => e = .returned (.tuple #[]) ∧ Wr w' B g (o ++ figs s 1 b) n 0 (adp s (d + 1) (decide (d = bs))) bs (d + 1) ∧ Below B w w' := by
  obtain ⟨F, hF⟩ : ∃ F, F = o ++ figs s 1 b := ⟨_, rfl⟩
  have hN := wnumber_any B g o n s b bs d w hW hB hBw ho s0 s1 b0 b1
  rw [← hF] at hN
  rw [← hF]
  have HN := Lib.hid hN
  clear hF hN hW
  have hk := fun w => behind_any s (d + 1) (decide (d = bs)) w s0 s1 (by omega) (by omega)
  obtain ⟨A, hA⟩ : ∃ A, A = adp s (d + 1) (decide (d = bs)) := ⟨_, rfl⟩
  simp only [← hA] at hk
  rw [← hA]
  have HK := Lib.hid hk
  clear hk hA
  go_enter Tryd.func85, Tryd.ntmps85
  go_wp2_with fail
  ((with_reducible refine HN.out.mono ?_))
  rintro e w1 ⟨rfl, ⟨v, hat, hown⟩, HB⟩
  have HAT := Lib.hid hat
  have c2 := hat.cells 2 rfl
  have c3 := hat.cells 3 rfl
  have c4 := hat.cells 4 rfl
  have c5 := hat.cells 5 rfl
  have z2 := hat.ice 2
  have z3 := hat.ice 3
  have z5 := hat.ice 5
  have k2 : (w1.setCell ⟨g, 3, none⟩ (.int .i64 A)).drew.cell? ⟨g, 2, none⟩ = some (.int .i64 s) := ((hat.put 3 (.int .i64 A)).drew).cells 2 rfl
  have k5 : (w1.setCell ⟨g, 3, none⟩ (.int .i64 A)).drew.cell? ⟨g, 5, none⟩ = some (.int .i64 d) := ((hat.put 3 (.int .i64 A)).drew).cells 5 rfl
  have k4 : (w1.setCell ⟨g, 3, none⟩ (.int .i64 A)).drew.cell? ⟨g, 4, none⟩ = some (.int .i64 bs) := ((hat.put 3 (.int .i64 A)).drew).cells 4 rfl
  have K2 := Lib.hid k2
  have K5 := Lib.hid k5
  have K4 := Lib.hid k4
  have hat2 := (hat.put 3 (.int .i64 A)).drew
  have hown2 : (w1.setCell ⟨g, 3, none⟩ (.int .i64 A)).drew.ownsRow B 5 1 v F.length (bcs F) := (own_put hown hat (by decide)).drew
  have hb2 : Below B w (w1.setCell ⟨g, 3, none⟩ (.int .i64 A)).drew := (HB.setCell (p := ⟨g, 3, none⟩) hB _).drew
  have HAT2 := Lib.hid hat2
  have HOWN2 := Lib.hid hown2
  have HB2 := Lib.hid hb2
  clear hat k2 k5 k4 hat2 hown2 hb2 hown HB
  have e1 : IntKind.i64.wrap (d + 1) = d + 1 := IntWalk.i64_in _ (by omega)
  go_wp2_with fail
  go_outline
  go_region_held3 (fun w' => w'.cell? ⟨g, 2, none⟩ = some (.int .i64 s) ∧ w'.cell? ⟨g, 5, none⟩ = some (.int .i64 d) ∧ w'.cell? ⟨g, 4, none⟩ = some (.int .i64 bs)) (first | exact ⟨K2.out, K5.out, K4.out⟩ | go_keep) (first | (go_at_call 81; refine (HK.out _).mono ?_; rintro e w' ⟨rfl, rfl⟩))
  clear c2 c3 c4 c5 z2 z3 z5 K2 K5 K4
  rename_i hh
  clear hh
  generalize (w1.setCell ⟨g, 3, none⟩ (.int .i64 A)).drew = w2 at HAT2 HOWN2 HB2 ⊢
  have c2 := HAT2.out.cells 2 rfl
  have c5 := HAT2.out.cells 5 rfl
  have z2 := HAT2.out.ice 2
  have z5 := HAT2.out.ice 5
  go_outline
  go_wp2
  go_end0
  refine ⟨rfl, ⟨v, ?_, ?_⟩, ?_⟩
  · exact ((HAT2.out.put 2 (.int .i64 0)).put 5 (.int .i64 (d + 1)))
  · exact own_put (own_put HOWN2.out HAT2.out (by decide)) (HAT2.out.put 2 (.int .i64 0)) (by decide)
  · exact ((HB2.out.setCell hB _).setCell hB _)
end Go.Proofs.YtbcnnjifndmdpaaDoor
