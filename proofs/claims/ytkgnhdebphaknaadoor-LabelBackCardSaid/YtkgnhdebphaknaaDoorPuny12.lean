import Derived.Test.YtkgnhdebphaknaaDoorPuny11
import Derived.BigRegion
namespace Go.Proofs.YtkgnhdebphaknaaDoor
open Go.RowKit Go
set_option linter.unusedVariables false
/-- what is known of a reader: its block, and the row of points that it holds -/
def Rd (w : World) (B g : Nat) (r : ByteArray) (st : Ds) : Prop := ∃ v, At w g 60 (rdC r v st.2.1 st.2.2.1 st.2.2.2.1 st.2.2.2.2) ∧ w.ownsRow B 21 1 v st.1.length (intVs .i32 st.1)
def PutRP (B g : Nat) (r : ByteArray) (d : Int) (st : Ds) (w : World) (e : Ending) (w' : World) : Prop :=
  (∃ x : Int, x ≠ 0 ∧ (putS d st).1 = x ∧ e = .returned (.int .i64 x) ∧ Below B w w') ∨
  (∃ st', putS d st = (0, st') ∧ e = .returned (.int .i64 0) ∧ Rd w' B g r st' ∧ DInv st' ∧ Below B w w')
theorem putRP_no {B g : Nat} {r : ByteArray} {d x : Int} {st st' : Ds} {w w' : World} (h : putS d st = (x, st')) (hx : x ≠ 0) (hb : Below B w w') : PutRP B g r d st w (.returned (.int .i64 x)) w' := .inl ⟨x, hx, by rw [h], rfl, hb⟩
theorem below_only {B : Nat} {w w' : World} {g : Nat} (h : w.grownBy w' (some g)) (hB : B ≤ g) (hw : B ≤ w.heap.size) : Below B w w' :=
  ⟨h.os, h.tape, h.output, h.size, fun k hk => h.block k (by omega) (by intro e; injection e with e; omega)⟩
set_option maxRecDepth 100000 in
set_option maxHeartbeats 4000000 in
theorem rput_any (B g : Nat) (r : ByteArray) (d : Int) (pts : List Int) (n a b : Int) (f : Bool) (w : World) (hR : Rd w B g r (pts, n, a, b, f)) (hi : DInv (pts, n, a, b, f)) (hB : B ≤ g) (hBw : B ≤ w.heap.size) (d0 : 0 ≤ d) (d1 : d ≤ 4294967295) :
    Calls Tryd.prog 49 #[.pointer (some ⟨g, 0, none⟩), .int .i64 d] w (PutRP B g r d (pts, n, a, b, f) w) := by
  obtain ⟨v, hat, hown⟩ := hR
  simp only at hat hown
  have n0 : 128 ≤ n := hi.n0
  have n1 : n ≤ 1114111 := hi.n1
  have a0 : 0 ≤ a := hi.a0
  have a1 : a ≤ 5000 := hi.a1
  have l1 : pts.length ≤ 4096 := hi.l
  have HI := Lib.hid hi
  obtain ⟨A, c, rfl⟩ := own_slice hown
  have hL := fun h => putS_over (d := d) (st := (pts, n, a, b, f)) h
  have hRg := fun h => putS_range (d := d) (st := (pts, n, a, b, f)) h
  have hLg := fun h => putS_long (d := d) (st := (pts, n, a, b, f)) h
  have hOk := fun h => putS_ok (d := d) (st := (pts, n, a, b, f)) h
  have hIn := fun h h2 h3 => putS_inv (d := d) (st := (pts, n, a, b, f)) hi d0 d1 h h2 h3
  simp only at hL hRg hLg hOk hIn
  obtain ⟨L, hLen⟩ : ∃ L, L = pts.length := ⟨_, rfl⟩
  rw [← hLen] at l1 hown hat
  simp only [← hLen] at hRg hLg hOk hIn
  have HLEN := Lib.hid hLen
  have hbe := fun w => behind_any d ((L : Int) + 1) f w d0 (by omega) (by omega) (by omega)
  have hbb := adp_bd d ((L : Int) + 1) f d0 (by omega) (by omega)
  obtain ⟨D, hD⟩ : ∃ D, D = adp d ((L : Int) + 1) f := ⟨_, rfl⟩
  simp only [← hD] at hbe hOk hIn
  rw [← hD] at hbb
  have HBE := Lib.hid hbe
  have q0 := Int.ediv_nonneg (show 0 ≤ a + d by omega) (show (0 : Int) ≤ (L : Int) + 1 by omega)
  have q1 : (a + d) / ((L : Int) + 1) ≤ a + d := Int.ediv_le_self _ (by omega)
  have m0 := Int.emod_nonneg (a + d) (show (L : Int) + 1 ≠ 0 by omega)
  have m1 := Int.emod_lt_of_pos (a + d) (show (0 : Int) < (L : Int) + 1 by omega)
  have HL := Lib.hid hL
  have HRG := Lib.hid hRg
  have HLG := Lib.hid hLg
  have HOK := Lib.hid hOk
  have HIN := Lib.hid hIn
  have HAT := Lib.hid hat
  have HOWN := Lib.hid hown
  have c3 := hat.cells 3 rfl
  have c1 := hat.cells 1 rfl
  have c5 := hat.cells 5 rfl
  have c4 := hat.cells 4 rfl
  have z3 := hat.ice 3
  have z4 := hat.ice 4
  have z5 := hat.ice 5
  clear hi hL hRg hLg hOk hIn hat hown hLen hbe hD
  by_cases hov : 4294967295 < a + d
  · have hn := HL.out hov
    have HN := Lib.hid hn
    clear hn
    go_enter Tryd.func49, Tryd.ntmps49
    go_wp2
    go_ret
    exact putRP_no HN.out (by decide) ((Below.refl _ _).setCell hB _)
  have hat2 : At (((w.setCell ⟨g, 3, none⟩ (.int .i64 (a + d))).setCell ⟨g, 4, none⟩ (.int .i64 D)).setCell ⟨g, 5, none⟩ (.bool false)) g 60 (rdC r (.slice A L c) n (a + d) D false) := ((HAT.out.put 3 (.int .i64 (a + d))).put 4 (.int .i64 D)).put 5 (.bool false)
  have hown2 : (((w.setCell ⟨g, 3, none⟩ (.int .i64 (a + d))).setCell ⟨g, 4, none⟩ (.int .i64 D)).setCell ⟨g, 5, none⟩ (.bool false)).ownsRow B 21 1 (.slice A L c) L (intVs .i32 pts) :=
    own_put (own_put (own_put HOWN.out HAT.out (by decide)) (HAT.out.put 3 (.int .i64 (a + d))) (by decide)) ((HAT.out.put 3 (.int .i64 (a + d))).put 4 (.int .i64 D)) (by decide)
  have hb2 : Below B w (((w.setCell ⟨g, 3, none⟩ (.int .i64 (a + d))).setCell ⟨g, 4, none⟩ (.int .i64 D)).setCell ⟨g, 5, none⟩ (.bool false)) := (((Below.refl _ _).setCell hB _).setCell hB _).setCell hB _
  have HAT2 := Lib.hid hat2
  have HOWN2 := Lib.hid hown2
  have HB2 := Lib.hid hb2
  clear hat2 hown2 hb2
  go_enter Tryd.func49, Tryd.ntmps49
  go_wp2_with ((with_reducible refine (HBE.out _).mono ?_); rintro e w' ⟨rfl, rfl⟩)
  clear c1 c3 c4 c5 z3 z4 z5
  generalize (((w.setCell ⟨g, 3, none⟩ (.int .i64 (a + d))).setCell ⟨g, 4, none⟩ (.int .i64 D)).setCell ⟨g, 5, none⟩ (.bool false)) = w2 at HAT2 HOWN2 HB2 ⊢
  obtain ⟨N, hN⟩ : ∃ N, N = n + (a + d) / ((L : Int) + 1) := ⟨_, rfl⟩
  have hN0 : 128 ≤ N := by omega
  have hN1 : N ≤ 4294967296 + 1114111 := by omega
  have e1 : (a + d).tdiv ((L : Int) + 1) = (a + d) / ((L : Int) + 1) := Int.tdiv_eq_ediv_of_nonneg (by omega)
  have e2 : IntKind.i64.wrap ((a + d) / ((L : Int) + 1)) = (a + d) / ((L : Int) + 1) := IntWalk.i64_in _ (by omega)
  have e3 : IntKind.i64.wrap (n + (a + d) / ((L : Int) + 1)) = N := by rw [hN]; exact IntWalk.i64_in _ (by omega)
  have e5 : ¬ ((L : Int) + 1 = 0) := by omega
  rw [← hN] at HRG HLG HOK HIN
  have HNN := Lib.hid hN
  have K3 := Lib.hid (show (w2.setCell ⟨g, 2, none⟩ (.int .i64 N)).drew.cell? ⟨g, 3, none⟩ = some (.int .i64 (a + d)) from ((HAT2.out.put 2 (.int .i64 N)).drew).cells 3 rfl)
  have hat3 : At (w2.setCell ⟨g, 2, none⟩ (.int .i64 N)).drew g 60 (rdC r (.slice A L c) N (a + d) D false) := (HAT2.out.put 2 (.int .i64 N)).drew
  have hown3 : (w2.setCell ⟨g, 2, none⟩ (.int .i64 N)).drew.ownsRow B 21 1 (.slice A L c) L (intVs .i32 pts) := (own_put HOWN2.out HAT2.out (by decide)).drew
  have hb3 : Below B w (w2.setCell ⟨g, 2, none⟩ (.int .i64 N)).drew := (HB2.out.setCell (p := ⟨g, 2, none⟩) hB _).drew
  have HAT3 := Lib.hid hat3
  have HOWN3 := Lib.hid hown3
  have HB3 := Lib.hid hb3
  have c2 := HAT2.out.cells 2 rfl
  have c3 := HAT2.out.cells 3 rfl
  have z2 := HAT2.out.ice 2
  clear hat3 hown3 hb3 hN
  go_region
  all_goals
    clear c2 c3 z2 K3 e1 e2 e3
    generalize (w2.setCell ⟨g, 2, none⟩ (.int .i64 N)).drew = w3 at HAT3 HOWN3 HB3 ⊢
    have c2 := HAT3.out.cells 2 rfl
    have c3 := HAT3.out.cells 3 rfl
    have z3 := HAT3.out.ice 3
    have hz : ((L : Int) + 1 == 0) = false := by simp; omega
    by_cases hrg : 1114111 < N
    · have hn := HRG.out (by omega) hrg
      have HN := Lib.hid hn
      clear hn
      go_wp2
      go_ret
      exact putRP_no HN.out (by decide) (HB3.out.setCell hB _)
    have hrg2 : N ≤ 1114111 := by omega
    by_cases hlg : 4096 < L + 1
    · have hn := HLG.out (by omega) (by omega) hlg
      have HN := Lib.hid hn
      have hlg2 : (4096 : Int) < (L : Int) + 1 := by omega
      clear hn
      go_wp2
      go_ret
      exact putRP_no HN.out (by decide) (HB3.out.setCell hB _)
    have hlg2 : (L : Int) + 1 ≤ 4096 := by omega
    have hn := HOK.out (by omega) (by omega) hlg
    have hin := HIN.out (by omega) (by omega) hlg
    have HN := Lib.hid hn
    have HIN2 := Lib.hid hin
    clear hn hin
    obtain ⟨i, hii⟩ := Int.eq_ofNat_of_zero_le m0
    rw [hii] at HN HIN2 m1
    have HII := Lib.hid hii
    have hat4 : At (w3.setCell ⟨g, 3, none⟩ (.int .i64 (i : Int))) g 60 (rdC r (.slice A L c) N (i : Int) D false) := HAT3.out.put 3 (.int .i64 (i : Int))
    have hown4 : (w3.setCell ⟨g, 3, none⟩ (.int .i64 (i : Int))).ownsRow B 21 1 (.slice A L c) L (intVs .i32 pts) := own_put HOWN3.out HAT3.out (by decide)
    have hb4 : Below B w (w3.setCell ⟨g, 3, none⟩ (.int .i64 (i : Int))) := HB3.out.setCell (p := ⟨g, 3, none⟩) hB _
    have HAT4 := Lib.hid hat4
    have HOWN4 := Lib.hid hown4
    have HB4 := Lib.hid hb4
    clear hat4 hown4 hb4
    go_wp2_with fail
    clear c2 c3 z3 hz hii
    generalize w3.setCell ⟨g, 3, none⟩ (.int .i64 (i : Int)) = w4 at HAT4 HOWN4 HB4 ⊢
    have c1 : w4.cell? ⟨g, 1, none⟩ = some (.slice A L c) := HAT4.out.cells 1 rfl
    have c2 : w4.cell? ⟨g, 2, none⟩ = some (.int .i64 N) := HAT4.out.cells 2 rfl
    have c3 : w4.cell? ⟨g, 3, none⟩ = some (.int .i64 (i : Int)) := HAT4.out.cells 3 rfl
    have c1a : ∀ ob, (w4.alloc ob).cell? ⟨g, 1, none⟩ = some (.slice A L c) := fun ob => (HAT4.out.alloc ob).cells 1 rfl
    have c3a : ∀ ob, (w4.alloc ob).cell? ⟨g, 3, none⟩ = some (.int .i64 (i : Int)) := fun ob => (HAT4.out.alloc ob).cells 3 rfl
    have e6 : IntKind.i32.wrap N = N := by rw [IntKind.wrap_i32]; omega
    have hatA : At (w4.alloc (.cells #[.int .i32 N] 21)).drew g 60 (rdC r (.slice A L c) N (i : Int) D false) := (HAT4.out.alloc _).drew
    have hownA : (w4.alloc (.cells #[.int .i32 N] 21)).drew.ownsRow B 21 1 (.slice A L c) L (intVs .i32 pts) := (HOWN4.out.alloc _).drew
    have hneb : (Value.slice A L c).ownBlock ≠ some w4.heap.size := by
      intro e
      have h := (HOWN4.out.lt _ e).2
      omega
    have hbA : Below B w (w4.alloc (.cells #[.int .i32 N] 21)).drew := (HB4.out.alloc (Nat.le_trans hBw HB4.out.size) _).drew
    have hBA := Nat.le_trans hBw hbA.size
    have hin := insert_any (w4.alloc (.cells #[.int .i32 N] 21)).drew B L i (.slice A L c) pts hownA (by omega) (by omega) N w4.heap.size (At.new w4 21 #[.int .i32 N]).drew hBA hneb
    have hnegA := hatA.own_ne hownA (by decide)
    have HINS := Lib.hid hin
    have HATA := Lib.hid hatA
    have HOWNA := Lib.hid hownA
    have HBA := Lib.hid hbA
    have HNE := Lib.hid hnegA
    have HBAS := Lib.hid hBA
    clear hin hatA hownA hbA hneb hnegA hBA
    go_region_law (first | (go_simp; go_at_call 60; refine HINS.out.mono ?_; rintro e w5 ⟨gg, cap, rfl, hownI, hgrI⟩; have hatI := HATA.out.grown hgrI HNE.out; have c1' : w5.cell? ⟨g, 1, none⟩ = some (.slice A L c) := hatI.cells 1 rfl; have z1' := hatI.ice 1))
    all_goals
      clear c1 c2 c3 c1a c3a e6 c1' z1'
      have hat6 : At (w5.setCell ⟨g, 1, none⟩ (.slice (some ⟨gg, 0, none⟩) (L + 1) cap)) g 60 (rdC r (.slice (some ⟨gg, 0, none⟩) (L + 1) cap) N (i : Int) D false) := hatI.put 1 _
      have hown6 := own_put (i := 1) (u := .slice (some ⟨gg, 0, none⟩) (L + 1) cap) hownI hatI (by decide)
      have hb6 := (HBA.out.trans (below_own HOWNA.out hgrI HBAS.out)).setCell (p := ⟨g, 1, none⟩) hB (.slice (some ⟨gg, 0, none⟩) (L + 1) cap)
      generalize w5.setCell ⟨g, 1, none⟩ (.slice (some ⟨gg, 0, none⟩) (L + 1) cap) = w6 at hat6 hown6 hb6 ⊢
      have c3 : w6.cell? ⟨g, 3, none⟩ = some (.int .i64 (i : Int)) := hat6.cells 3 rfl
      have z3 := hat6.ice 3
      have HAT6 := Lib.hid hat6
      have HOWN6 := Lib.hid hown6
      clear hat6 hown6 hatI hownI hgrI
      go_wp2
      go_ret
      have hlen : (insL pts i N).length = L + 1 := by rw [insL_len _ _ _ (by have := HLEN.out; omega), HLEN.out]
      refine .inr ⟨_, HN.out, rfl, ⟨.slice (some ⟨gg, 0, none⟩) (L + 1) cap, HAT6.out.put 3 (.int .i64 ((i : Int) + 1)), ?_⟩, HIN2.out, hb6.setCell hB _⟩
      have := own_put (i := 3) (u := .int .i64 ((i : Int) + 1)) HOWN6.out HAT6.out (by decide)
      show World.ownsRow _ B 21 1 _ (insL pts i N).length (intVs .i32 (insL pts i N))
      rw [hlen]
      exact this
end Go.Proofs.YtkgnhdebphaknaaDoor
