import Derived.Test.YtkgnhdebphaknaaDoorPuny6
import Derived.Test.YtkgnhdebphaknaaDoorMath03b
namespace Go.Proofs.YtkgnhdebphaknaaDoor
open Go.RowKit Go
set_option linter.unusedVariables false
theorem own_slice {w : World} {B e n : Nat} {v : Value} {xs : List Value} (h : w.ownsRow B e 1 v n xs) : ∃ A c, v = .slice A n c := by
  rcases h.2 with ⟨rfl, h0⟩ | ⟨g, cap, cur, rfl, _⟩
  · exact ⟨none, 0, by rw [h0]⟩
  · exact ⟨_, _, rfl⟩
def doneOf (w : World) (g : Nat) : Nat := match w.cell? ⟨g, 5, none⟩ with
  | some (.int _ d) => d.toNat
  | _ => 0
theorem doneOf_wr {w : World} {B g : Nat} {o : List UInt8} {n s b bs d : Int} (h : Wr w B g o n s b bs d) : doneOf w g = d.toNat := by
  obtain ⟨v, hat, _⟩ := h
  have := hat.cells 5 rfl
  unfold doneOf
  rw [this]
  rfl
theorem ret_encE {l : List Int} {p : List UInt8} {x : Int} (h : encE l = (p, x)) : Ending.returned (.tuple #[.string ⟨p.toArray⟩, .int .i64 x]) = .returned (.tuple #[.string ⟨(encE l).1.toArray⟩, .int .i64 (encE l).2]) := by rw [h]
set_option maxHeartbeats 4000000 in
theorem encode_any (w : World) (A : Option Addr) (N ca : Nat) (l : List Int) (hl : IntsAt w .i32 A N l) (hN : N ≤ 9223372036854775807) (hx : ∀ x ∈ l, -2147483648 ≤ x ∧ x ≤ 2147483647) :
    Calls Tryd.prog 29 #[.slice A N ca] w fun e w' => e = .returned (.tuple #[.string ⟨(encE l).1.toArray⟩, .int .i64 (encE l).2]) ∧ Below w.heap.size w w' := by
  have HLEN := Lib.hid hl.1
  have HL := Lib.hid hl
  have HX := Lib.hid hx
  by_cases hbig : 4096 < N
  · have he := encE_long (l := l) (by have := HLEN.out; omega)
    have HE := Lib.hid he
    clear he hl hx
    go_enter Tryd.func29, Tryd.ntmps29
    go_wp2
    go_ret2
    exact ⟨ret_encE HE.out, Below.refl _ _⟩
  clear hl hx
  go_enter Tryd.func29, Tryd.ntmps29
  go_wp2
  go_loopw [4, 14] (fun v i wr => ∃ k : Nat, k ≤ N ∧ i = .int .i64 k ∧ wr.ownsRow w.heap.size 5 1 v (basL (l.take k)).length (bcs (basL (l.take k))) ∧ Below w.heap.size w wr ∧ (basL (l.take k)).length ≤ k ∧ Hid (∀ x ∈ l.take k, 0 ≤ x ∧ x ≤ 1114111)) (fun _ i _ => N - (intOf i).toNat)
  case atStart => exact ⟨0, Nat.zero_le _, rfl, World.ownsRow_nil _ _ _ _, Below.refl _ _, by simp [basL], Lib.hid (by simp)⟩
  case round =>
    obtain ⟨k, hk, rfl, hown, HB, hbl, hall⟩ := hrel
    by_cases hlt : k < N
    · obtain ⟨b, o, rfl, hb, hcell⟩ := HL.out.2 (by omega)
      have hkl : k < l.length := by have := HLEN.out; omega
      have h1 := hcell k hkl
      rw [← HB.cell (p := ⟨b, o + k, none⟩) hb] at h1
      have hxk := HX.out l[k] (List.getElem_mem _)
      have htk := List.take_succ_eq_append_getElem hkl
      have hoff := fun h => encE_off (l := l) (by have := HLEN.out; omega) (offB_at hkl h)
      obtain ⟨x, hxe⟩ : ∃ x, x = l[k] := ⟨_, rfl⟩
      rw [← hxe] at h1 hxk htk
      simp only [← hxe] at hoff
      have HT := Lib.hid htk
      have HO := Lib.hid hoff
      have hwz := HB.size
      clear htk hxe hcell hoff
      obtain ⟨x0, x1⟩ := hxk
      by_cases hlo : x < 0
      · have he := HO.out (.inl hlo)
        have HE := Lib.hid he
        clear he
        go_wp2
        go_ret2
        exact ⟨ret_encE HE.out, HB⟩
      · by_cases hhi : 1114111 < x
        · have he := HO.out (.inr hhi)
          have HE := Lib.hid he
          have hlo2 : 0 ≤ x := by omega
          clear he
          go_wp2
          go_ret2
          exact ⟨ret_encE HE.out, HB⟩
        · have hlo2 : 0 ≤ x := by omega
          have hhi2 : x ≤ 1114111 := by omega
          have hall2 : ∀ y ∈ l.take (k + 1), 0 ≤ y ∧ y ≤ 1114111 := by
            rw [HT.out]
            intro y hy
            rcases List.mem_append.1 hy with hy | hy
            · exact hall.out y hy
            · obtain rfl := List.mem_singleton.1 hy
              omega
          have HALL := Lib.hid hall2
          clear hall2
          by_cases hba : x < 128
          · have hu := u8_nat hlo2 (by omega)
            have hby := basL_yes (l.take k) hba
            rw [← HT.out] at hby
            have HBY := Lib.hid hby
            have HU := Lib.hid hu
            clear hu hby
            go_wp2_with (at_builtin; refine wpList_app1 rfl (.tmp 26) (.tmp 29) 33 5 rfl Tryd.underlying33 elemU8 rfl w.heap.size _ (basL (l.take k)).length _ _ rfl rfl hown rfl (by omega) (by omega) hwz ?_)
            intro v' w2 hown2 HB2 hne
            have hown3 : w2.ownsRow w.heap.size 5 1 v' (basL (l.take (k + 1))).length (bcs (basL (l.take (k + 1)))) := by
              rw [HBY.out, bcs_app, HU.out]; simpa using hown2
            have hbl2 : (basL (l.take (k + 1))).length ≤ k + 1 := by rw [HBY.out]; simp; omega
            clear hown2 hown
            go_wp2_with fail
            go_roundw
            case rel => exact ⟨k + 1, by omega, by go_num, hown3, HB.trans HB2, hbl2, HALL⟩
            case measure => simp [intOf]; omega
          · have hby := basL_no (l.take k) hba
            rw [← HT.out] at hby
            have HBY := Lib.hid hby
            have hba2 : 128 ≤ x := by omega
            clear hby
            go_wp2
            go_roundw
            case rel => exact ⟨k + 1, by omega, by go_num, by rw [HBY.out]; exact hown, HB, by rw [HBY.out]; omega, HALL⟩
            case measure => simp [intOf]; omega
    · obtain rfl : k = N := by omega
      rw [List.take_of_length_le (by have := HLEN.out; omega)] at hown hall hbl
      have hr : ∀ x ∈ l, 0 ≤ x ∧ x ≤ 1114111 := hall.out
      have hoff := offB_no hr
      have hst := eInv_start (l := l) (by have := HLEN.out; omega)
      have hO : encO l = encL l ((basL l).length : Int) (l.length + 1) 128 (hyp (basL l), 0, 72, (basL l).length) := rfl
      obtain ⟨z, hz⟩ : ∃ z, z = (basL l).length := ⟨_, rfl⟩
      obtain ⟨p, hp⟩ : ∃ p, p = hyp (basL l) := ⟨_, rfl⟩
      rw [← hz, ← hp] at hst hO
      have hwz := HB.size
      have HR := Lib.hid hr
      have HOFF := Lib.hid hoff
      have HST := Lib.hid hst
      have HO := Lib.hid hO
      clear hall hr hoff hst hO
      by_cases h0 : z = 0
      · have hp2 : p = [] := by rw [hp]; unfold hyp; rw [← hz, if_pos h0]
        have hb0 : basL l = [] := List.length_eq_zero_iff.1 (by omega)
        rw [hb0, List.length_nil] at hown
        obtain ⟨A4, c4, rfl⟩ := own_slice hown
        subst h0
        subst hp2
        clear hp hz hb0
        obtain ⟨W1, hW1⟩ : ∃ W1, W1 = wr := ⟨_, rfl⟩
        subst hW1
        have hww := HB.size
        have hownw := hown
        have HBW := HB
        have HG := Lib.hid (show w.heap.size ≤ W1.heap.size from hww)
        have hwr : Wr (W1.alloc (.cells (wrC (.slice A4 0 c4) 128 0 72 0 0) 54)) w.heap.size W1.heap.size [] 128 0 72 0 0 := ⟨_, At.new _ _ _, hownw.alloc _⟩
        have hbw : Below w.heap.size w (W1.alloc (.cells (wrC (.slice A4 0 c4) 128 0 72 0 0) 54)) := HBW.alloc hww _
        have HWR := Lib.hid hwr
        have HBB := Lib.hid hbw
        clear hwr hbw hownw
        go_wp2
        go_loopw [43] (fun q wq => ∃ (f : Nat) (n : Int) (st : St), Wr wq w.heap.size W1.heap.size st.1 n st.2.1 st.2.2.1 0 st.2.2.2 ∧ Below w.heap.size w wq ∧ Hid (EInv l n st) ∧ Hid (encO l = encL l 0 f n st) ∧ Hid ((l.length : Int) - st.2.2.2 < f)) (fun _ wq => k - doneOf wq W1.heap.size)
        case atStart => exact ⟨l.length + 1, 128, ([], 0, 72, 0), HWR.out, HBB.out, HST, HO, Lib.hid (by simp only; omega)⟩
        case round =>
          obtain ⟨f, n, ⟨o, s, b, d⟩, hW, HB3, hI, hO, hf⟩ := hrel
          simp only at hW hI hO hf
          have hdn := doneOf_wr hW
          have hi := hI.out
          have hcl := cnt_le l n
          have hdc : d = cnt l n := hi.d
          have hd0 : 0 ≤ d := by omega
          have hd1 : d ≤ k := by have := HLEN.out; omega
          have s0 : 0 ≤ s := hi.s0
          have s1 : s ≤ 4294967296 := hi.s1
          have b0 : 0 ≤ b := hi.b0
          have b1 : b ≤ 1099511627776 := hi.b1
          have n0 : 128 ≤ n := hi.n0
          have ho : (o.length : Int) ≤ 5000 + 40 * d := hi.o
          have HDN := Lib.hid hdn
          have HW3 := Lib.hid hW
          obtain ⟨v, hat, hown⟩ := hW
          have c0 := hat.cells 0 rfl
          have c5 := hat.cells 5 rfl
          clear hi hcl hdn hat hdc
          by_cases hlt : d < (k : Int)
          · have hdl : d < l.length := by have := HLEN.out; omega
            have hls := eInv_lst hI.out HR.out hdl
            have hc := wround_any W1.heap.size o n s b 0 d w _ A k ca l HW3.out HG.out HB3 HL.out (by omega) (by omega) HR.out (by omega) hls s0 s1 b0 b1 hd0 (by omega) ho
            have HC := Lib.hid hc
            have HDL := Lib.hid hdl
            clear hc hls hown hdl
            go_wp2_with fail
            ((with_reducible refine HC.out.mono ?_))
            rintro e w4 (⟨hn, rfl, hb4⟩ | ⟨⟨o2, s2, b2, d2⟩, hsm, rfl, hW4, hb4, x0, x1, y0, y1, hol⟩)
            · have he := encE_over (l := l) (by have := HLEN.out; omega) HOFF.out (enc_no hO.out hf.out HDL.out hn)
              have HE := Lib.hid he
              clear he hn
              go_wp2
              go_ret2
              exact ⟨ret_encE HE.out, HB3.trans hb4⟩
            · have hst := eInv_step hI.out HR.out HDL.out hsm x0 x1 y0 y1 hol
              obtain ⟨f', hO2, hf2⟩ := enc_go hO.out hf.out HDL.out hsm hst.2
              have HI2 := Lib.hid hst.1
              have HO2 := Lib.hid hO2
              have HF2 := Lib.hid hf2
              have hdd : d < d2 := hst.2
              have HDN2 := Lib.hid (doneOf_wr hW4)
              clear hst hsm hO2 hf2
              simp only at hW4
              go_wp2
              go_roundw
              case rel => exact ⟨f', _, (o2, s2 + 1, b2, d2), hW4, HB3.trans hb4, HI2, HO2, HF2⟩
              case measure => simp only [HDN.out, HDN2.out]; omega
          · have he := encE_ok (l := l) (by have := HLEN.out; omega) HOFF.out (enc_end hO.out hf.out (by have := HLEN.out; simp only; omega) (by have := HLEN.out; simp only; omega))
            have HE := Lib.hid he
            have hcv := own_string (P := Tryd.prog) Tryd.underlying33 Tryd.underlying5 Tryd.underlying9 hown
            clear he
            go_wp2
            go_ret2
            exact ⟨ret_encE HE.out, HB3⟩
      · have hp2 : p = basL l ++ [45] := by rw [hp]; unfold hyp; rw [← hz, if_neg h0]
        rw [← hz] at hown hbl
        obtain ⟨A4, c4, rfl⟩ := own_slice hown
        have HP2 := Lib.hid hp2
        have HZ := Lib.hid hz
        have hz0 : 0 < z := by omega
        clear hp hz hp2 h0
        go_wp2_with (at_builtin; refine wpList_app1 rfl (.tmp 36) (.tmp 37) 33 5 rfl Tryd.underlying33 elemU8 rfl w.heap.size _ z _ _ rfl rfl hown rfl (by omega) (by omega) hwz ?_)
        intro v' W1 hown2 HB2 hne
        obtain ⟨A5, c5, rfl⟩ := own_slice hown2
        have hownw : W1.ownsRow w.heap.size 5 1 (.slice A5 (z + 1) c5) p.length (bcs p) := by
          rw [HP2.out, bcs_app]
          have hq : (basL l ++ [45]).length = z + 1 := by rw [List.length_append, ← HZ.out]; rfl
          rw [hq]
          exact hown2
        have HBW := HB.trans HB2
        have hww := HBW.size
        clear hown2 hown hne
        have HG := Lib.hid (show w.heap.size ≤ W1.heap.size from hww)
        have hwr : Wr (W1.alloc (.cells (wrC (.slice A5 (z + 1) c5) 128 0 72 (z : Int) (z : Int)) 54)) w.heap.size W1.heap.size p 128 0 72 (z : Int) (z : Int) := ⟨_, At.new _ _ _, hownw.alloc _⟩
        have hbw : Below w.heap.size w (W1.alloc (.cells (wrC (.slice A5 (z + 1) c5) 128 0 72 (z : Int) (z : Int)) 54)) := HBW.alloc hww _
        have HWR := Lib.hid hwr
        have HBB := Lib.hid hbw
        clear hwr hbw hownw
        go_wp2
        go_loopw [43] (fun q wq => ∃ (f : Nat) (n : Int) (st : St), Wr wq w.heap.size W1.heap.size st.1 n st.2.1 st.2.2.1 (z : Int) st.2.2.2 ∧ Below w.heap.size w wq ∧ Hid (EInv l n st) ∧ Hid (encO l = encL l (z : Int) f n st) ∧ Hid ((l.length : Int) - st.2.2.2 < f)) (fun _ wq => k - doneOf wq W1.heap.size)
        case atStart => exact ⟨l.length + 1, 128, (p, 0, 72, (z : Int)), HWR.out, HBB.out, HST, HO, Lib.hid (by simp only; omega)⟩
        case round =>
          obtain ⟨f, n, ⟨o, s, b, d⟩, hW, HB3, hI, hO, hf⟩ := hrel
          simp only at hW hI hO hf
          have hdn := doneOf_wr hW
          have hi := hI.out
          have hcl := cnt_le l n
          have hdc : d = cnt l n := hi.d
          have hd0 : 0 ≤ d := by omega
          have hd1 : d ≤ k := by have := HLEN.out; omega
          have s0 : 0 ≤ s := hi.s0
          have s1 : s ≤ 4294967296 := hi.s1
          have b0 : 0 ≤ b := hi.b0
          have b1 : b ≤ 1099511627776 := hi.b1
          have n0 : 128 ≤ n := hi.n0
          have ho : (o.length : Int) ≤ 5000 + 40 * d := hi.o
          have HDN := Lib.hid hdn
          have HW3 := Lib.hid hW
          obtain ⟨v, hat, hown⟩ := hW
          have c0 := hat.cells 0 rfl
          have c5 := hat.cells 5 rfl
          clear hi hcl hdn hat hdc
          by_cases hlt : d < (k : Int)
          · have hdl : d < l.length := by have := HLEN.out; omega
            have hls := eInv_lst hI.out HR.out hdl
            have hc := wround_any W1.heap.size o n s b (z : Int) d w _ A k ca l HW3.out HG.out HB3 HL.out (by omega) (by omega) HR.out (by omega) hls s0 s1 b0 b1 hd0 (by omega) ho
            have HC := Lib.hid hc
            have HDL := Lib.hid hdl
            clear hc hls hown hdl
            go_wp2_with fail
            ((with_reducible refine HC.out.mono ?_))
            rintro e w4 (⟨hn, rfl, hb4⟩ | ⟨⟨o2, s2, b2, d2⟩, hsm, rfl, hW4, hb4, x0, x1, y0, y1, hol⟩)
            · have he := encE_over (l := l) (by have := HLEN.out; omega) HOFF.out (enc_no hO.out hf.out HDL.out hn)
              have HE := Lib.hid he
              clear he hn
              go_wp2
              go_ret2
              exact ⟨ret_encE HE.out, HB3.trans hb4⟩
            · have hst := eInv_step hI.out HR.out HDL.out hsm x0 x1 y0 y1 hol
              obtain ⟨f', hO2, hf2⟩ := enc_go hO.out hf.out HDL.out hsm hst.2
              have HI2 := Lib.hid hst.1
              have HO2 := Lib.hid hO2
              have HF2 := Lib.hid hf2
              have hdd : d < d2 := hst.2
              have HDN2 := Lib.hid (doneOf_wr hW4)
              clear hst hsm hO2 hf2
              simp only at hW4
              go_wp2
              go_roundw
              case rel => exact ⟨f', _, (o2, s2 + 1, b2, d2), hW4, HB3.trans hb4, HI2, HO2, HF2⟩
              case measure => simp only [HDN.out, HDN2.out]; omega
          · have he := encE_ok (l := l) (by have := HLEN.out; omega) HOFF.out (enc_end hO.out hf.out (by have := HLEN.out; simp only; omega) (by have := HLEN.out; simp only; omega))
            have HE := Lib.hid he
            have hcv := own_string (P := Tryd.prog) Tryd.underlying33 Tryd.underlying5 Tryd.underlying9 hown
            clear he
            go_wp2
            go_ret2
            exact ⟨ret_encE HE.out, HB3⟩
end Go.Proofs.YtkgnhdebphaknaaDoor
