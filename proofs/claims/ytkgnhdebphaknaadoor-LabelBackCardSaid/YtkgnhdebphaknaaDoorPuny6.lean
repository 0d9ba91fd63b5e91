import Derived.Test.YtkgnhdebphaknaaDoorPuny5
import Derived.BigRegion
namespace Go.Proofs.YtkgnhdebphaknaaDoor
open Go.RowKit Go
set_option linter.unusedVariables false
theorem figs_len10 {s k b : Int} (h0 : 0 ≤ s) (h1 : s ≤ 4294967295) : (figs s k b).length ≤ 11 := figs_len 10 s k b h0 (Int.lt_of_le_of_lt h1 (by decide))
def RoundP (l : List Int) (B g : Nat) (bs n m : Int) (st : St) (w : World) (e : Ending) (w' : World) : Prop :=
  (rnd m bs l st = none ∧ e = .returned (.bool false) ∧ Below B w w') ∨
  (∃ st2 : St, rnd m bs l st = some st2 ∧ e = .returned (.bool true) ∧ Wr w' B g st2.1 (m + 1) (st2.2.1 + 1) st2.2.2.1 bs st2.2.2.2 ∧ Below B w w' ∧ 0 ≤ st2.2.1 ∧ st2.2.1 ≤ 4294967295 ∧ 0 ≤ st2.2.2.1 ∧ st2.2.2.1 ≤ 1099511627776 ∧ (st2.1.length : Int) ≤ 5000 + 40 * st2.2.2.2)
set_option maxHeartbeats 4000000 in
theorem wround_any (g : Nat) (o : List UInt8) (n s b bs d : Int) (w0 w : World) (A : Option Addr) (N ca : Nat) (l : List Int) (hW : Wr w w0.heap.size g o n s b bs d) (hB : w0.heap.size ≤ g) (hBw : Below w0.heap.size w0 w)
    (hl : IntsAt w0 .i32 A N l) (hN : N ≤ 4096) (hN0 : 0 < N) (hx : ∀ x ∈ l, 0 ≤ x ∧ x ≤ 1114111) (n0 : 0 ≤ n) (hm : IsLst l n (leastI l n))
    (s0 : 0 ≤ s) (s1 : s ≤ 4294967296) (b0 : 0 ≤ b) (b1 : b ≤ 1099511627776) (d0 : 0 ≤ d) (d1 : d ≤ 4096) (ho : (o.length : Int) ≤ 5000 + 40 * d) :
    Calls Tryd.prog 42 #[.pointer (some ⟨g, 0, none⟩), .slice A N ca] w (RoundP l w0.heap.size g bs n (leastI l n) (o, s + (leastI l n - n) * (d + 1), b, d) w) := by
  have hlw := hl.below hBw
  have hm1 := hx _ hm.1
  have hm2 := hm.2.1
  have hk := fun w (h : IntsAt w .i32 A N l) => leastFrom_any A N ca l n w h (by omega) hx n0 (by omega)
  obtain ⟨m, hmm⟩ : ∃ m, m = leastI l n := ⟨_, rfl⟩
  simp only [← hmm] at hk hm1 hm2 hm
  rw [← hmm]
  have HK := Lib.hid hk
  have HX := Lib.hid hx
  have HL := Lib.hid hl
  have HLEN := Lib.hid hl.1
  clear hk hx hl hmm hm
  obtain ⟨hm0, hm1⟩ := hm1
  obtain ⟨v, hat, hown⟩ := hW
  have hu1 : 0 ≤ (m - n) * (d + 1) := Int.mul_nonneg (by omega) (by omega)
  have hu2 : (m - n) * (d + 1) ≤ 1114111 * 4097 := Int.mul_le_mul (by omega) (by omega) (by omega) (by omega)
  obtain ⟨S, hS⟩ : ∃ S, S = s + (m - n) * (d + 1) := ⟨_, rfl⟩
  have hS0 : 0 ≤ S := by omega
  have hS1 : S ≤ 10000000000 := by omega
  have hsm : IntKind.i64.wrap (s + (m - n) * (d + 1)) = S := by rw [hS]; exact IntWalk.i64_in _ (by omega)
  rw [← hS]
  have e1 : IntKind.i32.wrap (m - n) = m - n := by rw [IntKind.wrap_i32]; omega
  have e2 : IntKind.i64.wrap (m - n) = m - n := IntWalk.i64_in _ (by omega)
  have e3 : IntKind.i64.wrap (d + 1) = d + 1 := IntWalk.i64_in _ (by omega)
  have e4 : IntKind.i64.wrap ((m - n) * (d + 1)) = (m - n) * (d + 1) := IntWalk.i64_in _ (by omega)
  have HAT := Lib.hid hat
  have c1 := hat.cells 1 rfl
  have c2 := hat.cells 2 rfl
  have c5 := hat.cells 5 rfl
  have z1 := hat.ice 1
  have z2 := hat.ice 2
  have K1 := Lib.hid (show (w.setCell ⟨g, 2, none⟩ (.int .i64 S)).drew.cell? ⟨g, 1, none⟩ = some (.int .i32 n) from ((hat.put 2 (.int .i64 S)).drew).cells 1 rfl)
  have K5 := Lib.hid (show (w.setCell ⟨g, 2, none⟩ (.int .i64 S)).drew.cell? ⟨g, 5, none⟩ = some (.int .i64 d) from ((hat.put 2 (.int .i64 S)).drew).cells 5 rfl)
  have hat2 : At (w.setCell ⟨g, 2, none⟩ (.int .i64 S)).drew g 54 (wrC v n S b bs d) := (hat.put 2 (.int .i64 S)).drew
  have hown2 : (w.setCell ⟨g, 2, none⟩ (.int .i64 S)).drew.ownsRow w0.heap.size 5 1 v o.length (bcs o) := (own_put hown hat (by decide)).drew
  have hb2 : Below w0.heap.size w (w.setCell ⟨g, 2, none⟩ (.int .i64 S)).drew := ((Below.refl _ _).setCell (p := ⟨g, 2, none⟩) hB _).drew
  have HAT2 := Lib.hid hat2
  have HOWN2 := Lib.hid hown2
  have HB2 := Lib.hid hb2
  have HSM := Lib.hid hS
  clear hat hat2 hown hown2 hb2 hS
  go_enter Tryd.func42, Tryd.ntmps42
  go_wp2_with fail
  ((with_reducible refine (HK.out _ hlw).mono ?_))
  rintro e w' ⟨rfl, rfl⟩
  go_wp2_with fail
  go_region
  all_goals
    clear c1 c2 c5 z1 z2 K1 K5 e1 e2 e3 e4 hsm
    generalize (w.setCell ⟨g, 2, none⟩ (.int .i64 S)).drew = w2 at HAT2 HOWN2 HB2 ⊢
    have c1 := HAT2.out.cells 1 rfl
    have z1 := HAT2.out.ice 1
    have hst : rnd m bs l (o, S, b, d) = rnd m bs (l.drop 0) (o, S, b, d) := rfl
    have HST := Lib.hid hst
    clear hst
    go_wp2_with fail
    clear c1 z1
    go_loopw [40] (fun u wr => ∃ k : Nat, ∃ st : St, u = .int .i64 k ∧ k ≤ N ∧ Wr wr w0.heap.size g st.1 m st.2.1 st.2.2.1 bs st.2.2.2 ∧ Below w0.heap.size w wr ∧ Hid (rnd m bs l (o, S, b, d) = rnd m bs (l.drop k) st) ∧ 0 ≤ st.2.1 ∧ st.2.1 ≤ 10000000000 ∧ (0 < k → st.2.1 ≤ 4294967295) ∧ 0 ≤ st.2.2.1 ∧ st.2.2.1 ≤ 1099511627776 ∧ 0 ≤ st.2.2.2 ∧ st.2.2.2 ≤ d + k ∧ (st.1.length : Int) ≤ 5000 + 40 * st.2.2.2) (fun u _ => N - (intOf u).toNat)
    case atStart => exact ⟨0, (o, S, b, d), rfl, by omega, ⟨v, HAT2.out.put 1 (.int .i32 m), own_put HOWN2.out HAT2.out (by decide)⟩, HB2.out.setCell hB _, HST, hS0, hS1, fun h => absurd h (by omega), b0, b1, d0, by simp, ho⟩
    case round =>
      obtain ⟨k, ⟨p, x, y, z⟩, rfl, hk, hW, HB, hr, x0, x1, x2, y0, y1, zz0, zz1, hp⟩ := hrel
      simp only at hW x0 x1 x2 y0 y1 zz0 zz1 hp hr
      obtain ⟨v3, hat3, hown3⟩ := hW
      have HAT3 := Lib.hid hat3
      have HOWN3 := Lib.hid hown3
      have c1 := hat3.cells 1 rfl
      have c2 := hat3.cells 2 rfl
      have z1 := hat3.ice 1
      have z2 := hat3.ice 2
      clear hat3 hown3
      by_cases hlt : k < N
      · obtain ⟨bb, oo, rfl, hbb, hcell⟩ := HL.out.2 (by omega)
        have hkl : k < l.length := by have := HLEN.out; omega
        have h1 := hcell k hkl
        rw [← (hBw.trans HB).cell (p := ⟨bb, oo + k, none⟩) hbb] at h1
        have hdr := List.drop_eq_getElem_cons hkl
        have hxk := HX.out l[k] (List.getElem_mem _)
        obtain ⟨c, hc⟩ : ∃ c, c = l[k] := ⟨_, rfl⟩
        rw [← hc] at h1 hdr hxk
        have hr2 := hr.out
        rw [hdr] at hr2
        have HR := Lib.hid hr2
        obtain ⟨q0, q1⟩ := hxk
        clear hcell hc hdr hr2 hr
        by_cases hcm : c < m
        · have hup : upS m c x = x + 1 := by unfold upS; rw [if_pos hcm]
          by_cases hov : 4294967295 < x + 1
          · have hn := HR.out.trans (rnd_ov (by simp only; rw [hup]; exact hov))
            have HN := Lib.hid hn
            clear hn hup
            go_wp2
            go_ret
            exact .inl ⟨HN.out, rfl, HB.setCell hB _⟩
          · have hn := HR.out.trans (rnd_pass (by simp only; rw [hup]; exact hov) (by omega))
            simp only [hup] at hn
            have HN := Lib.hid hn
            have hcm2 : (c == m) = false := by simp; omega
            have hov2 : x + 1 ≤ 4294967295 := by omega
            clear hn hup
            go_wp2
            go_roundw
            case rel => exact ⟨k + 1, (p, x + 1, y, z), by go_num, by omega, ⟨v3, HAT3.out.put 2 (.int .i64 (x + 1)), own_put HOWN3.out HAT3.out (by decide)⟩, HB.setCell hB _, HN, by simp only; omega, by simp only; omega, fun _ => hov2, y0, y1, zz0, by simp only; omega, hp⟩
            case measure => simp [intOf]; omega
        · have hup : upS m c x = x := by unfold upS; rw [if_neg hcm]
          have hcm' : m ≤ c := by omega
          by_cases hov : 4294967295 < x
          · have hn := HR.out.trans (rnd_ov (by simp only; rw [hup]; exact hov))
            have HN := Lib.hid hn
            clear hn hup
            go_wp2
            go_ret
            exact .inl ⟨HN.out, rfl, HB⟩
          · have hov2 : x ≤ 4294967295 := by omega
            by_cases hce : c = m
            · have hn := HR.out.trans (rnd_put (by simp only; rw [hup]; exact hov) hce)
              simp only [hup] at hn
              have HN := Lib.hid hn
              have hce2 : (c == m) = true := by simp [hce]
              have hfl := figs_len10 (k := 1) (b := y) x0 hov2
              have had := adp_bd x (z + 1) (decide (z = bs)) x0 (by omega) (by omega)
              have hcall := wput_any w0.heap.size g p m x y bs z wr ⟨v3, HAT3.out, HOWN3.out⟩ hB (Nat.le_trans hBw.size HB.size) (by omega) x0 (by omega) y0 y1 zz0 (by omega)
              have HC := Lib.hid hcall
              have HE := Lib.hid hce
              clear hn hup hcall hce
              go_wp2_with ((with_reducible refine HC.out.mono ?_); rintro e w' ⟨rfl, hW4, hb4⟩)
              go_roundw
              case rel => exact ⟨k + 1, (p ++ figs x 1 y, 0, adp x (z + 1) (decide (z = bs)), z + 1), by go_num, by omega, hW4, HB.trans hb4, HN, by simp only; omega, by simp only; omega, fun _ => by simp only; omega, had.1, had.2, by simp only; omega, by simp only; omega, by simp; omega⟩
              case measure => simp [intOf]; omega
            · have hn := HR.out.trans (rnd_pass (by simp only; rw [hup]; exact hov) hce)
              simp only [hup] at hn
              have HN := Lib.hid hn
              have hce2 : (c == m) = false := by simpa using hce
              clear hn hup
              go_wp2
              go_roundw
              case rel => exact ⟨k + 1, (p, x, y, z), by go_num, by omega, ⟨v3, HAT3.out, HOWN3.out⟩, HB, HN, x0, x1, fun _ => hov2, y0, y1, zz0, by simp only; omega, hp⟩
              case measure => simp [intOf]; omega
      · have hn := hr.out
        rw [List.drop_eq_nil_of_le (by have := HLEN.out; omega)] at hn
        have HN := Lib.hid hn
        have x3 := x2 (by omega)
        clear hn hr x2
        go_wp2
        go_ret
        exact .inr ⟨(p, x, y, z), HN.out, rfl, ⟨v3, (HAT3.out.put 2 (.int .i64 (x + 1))).put 1 (.int .i32 (m + 1)), own_put (own_put HOWN3.out HAT3.out (by decide)) (HAT3.out.put 2 (.int .i64 (x + 1))) (by decide)⟩, (HB.setCell hB _).setCell hB _, x0, x3, y0, y1, hp⟩
end Go.Proofs.YtkgnhdebphaknaaDoor
