import Derived.Test.YtkgnhdebphaknaaDoorPuny4
import Derived.Deep.RegionHeld3
namespace Go.Proofs.YtkgnhdebphaknaaDoor
open Go.RowKit Go
set_option linter.unusedVariables false
set_option maxHeartbeats 2000000 in
theorem wput_any (B g : Nat) (o : List UInt8) (n s b bs d : Int) (w : World) (hW : Wr w B g o n s b bs d) (hB : B ≤ g) (hBw : B ≤ w.heap.size) (ho : o.length ≤ 1000000) (s0 : 0 ≤ s) (s1 : s ≤ 8589934592) (b0 : 0 ≤ b) (b1 : b ≤ 1099511627776)
    (d0 : 0 ≤ d) (d1 : d ≤ 10000) :
    Calls Tryd.prog 55 #[.pointer (some ⟨g, 0, none⟩)] w fun e w' => e = .returned (.tuple #[]) ∧ Wr w' B g (o ++ figs s 1 b) n 0 (adp s (d + 1) (decide (d = bs))) bs (d + 1) ∧ Below B w w' := by
  obtain ⟨F, hF⟩ : ∃ F, F = o ++ figs s 1 b := ⟨_, rfl⟩
  have hN := wnumber_any B g o n s b bs d w hW hB hBw ho s0 s1 b0 b1
  rw [← hF] at hN
  rw [← hF]
  have HN := Lib.hid hN
  clear hF hN hW
  have hk := fun w => behind_any s (d + 1) (decide (d = bs)) w s0 s1 (by omega) (by omega)
  obtain ⟨A, hA⟩ : ∃ A, A = adp s (d + 1) (decide (d = bs)) := ⟨_, rfl⟩
  simp only [← hA] at hk
  rw [← hA]
  have HK := Lib.hid hk
  clear hk hA
  go_enter Tryd.func55, Tryd.ntmps55
  go_wp2_with fail
  ((with_reducible refine HN.out.mono ?_))
  rintro e w1 ⟨rfl, ⟨v, hat, hown⟩, HB⟩
  have HAT := Lib.hid hat
  have c2 := hat.cells 2 rfl
  have c3 := hat.cells 3 rfl
  have c4 := hat.cells 4 rfl
  have c5 := hat.cells 5 rfl
  have z2 := hat.ice 2
  have z3 := hat.ice 3
  have z5 := hat.ice 5
  have k2 : (w1.setCell ⟨g, 3, none⟩ (.int .i64 A)).drew.cell? ⟨g, 2, none⟩ = some (.int .i64 s) := ((hat.put 3 (.int .i64 A)).drew).cells 2 rfl
  have k5 : (w1.setCell ⟨g, 3, none⟩ (.int .i64 A)).drew.cell? ⟨g, 5, none⟩ = some (.int .i64 d) := ((hat.put 3 (.int .i64 A)).drew).cells 5 rfl
  have k4 : (w1.setCell ⟨g, 3, none⟩ (.int .i64 A)).drew.cell? ⟨g, 4, none⟩ = some (.int .i64 bs) := ((hat.put 3 (.int .i64 A)).drew).cells 4 rfl
  have K2 := Lib.hid k2
  have K5 := Lib.hid k5
  have K4 := Lib.hid k4
  have hat2 := (hat.put 3 (.int .i64 A)).drew
  have hown2 : (w1.setCell ⟨g, 3, none⟩ (.int .i64 A)).drew.ownsRow B 5 1 v F.length (bcs F) := (own_put hown hat (by decide)).drew
  have hb2 : Below B w (w1.setCell ⟨g, 3, none⟩ (.int .i64 A)).drew := (HB.setCell (p := ⟨g, 3, none⟩) hB _).drew
  have HAT2 := Lib.hid hat2
  have HOWN2 := Lib.hid hown2
  have HB2 := Lib.hid hb2
  clear hat k2 k5 k4 hat2 hown2 hb2 hown HB
  have e1 : IntKind.i64.wrap (d + 1) = d + 1 := IntWalk.i64_in _ (by omega)
  go_wp2_with fail
  go_outline
  go_region_held3 (fun w' => w'.cell? ⟨g, 2, none⟩ = some (.int .i64 s) ∧ w'.cell? ⟨g, 5, none⟩ = some (.int .i64 d) ∧ w'.cell? ⟨g, 4, none⟩ = some (.int .i64 bs)) (first | exact ⟨K2.out, K5.out, K4.out⟩ | go_keep) (first | (go_at_call 59; refine (HK.out _).mono ?_; rintro e w' ⟨rfl, rfl⟩))
  clear c2 c3 c4 c5 z2 z3 z5 K2 K5 K4
  rename_i hh
  clear hh
  generalize (w1.setCell ⟨g, 3, none⟩ (.int .i64 A)).drew = w2 at HAT2 HOWN2 HB2 ⊢
  have c2 := HAT2.out.cells 2 rfl
  have c5 := HAT2.out.cells 5 rfl
  have z2 := HAT2.out.ice 2
  have z5 := HAT2.out.ice 5
  go_outline
  go_wp2
  go_end0
  refine ⟨rfl, ⟨v, ?_, ?_⟩, ?_⟩
  · exact ((HAT2.out.put 2 (.int .i64 0)).put 5 (.int .i64 (d + 1)))
  · exact own_put (own_put HOWN2.out HAT2.out (by decide)) (HAT2.out.put 2 (.int .i64 0)) (by decide)
  · exact ((HB2.out.setCell hB _).setCell hB _)
end Go.Proofs.YtkgnhdebphaknaaDoor
