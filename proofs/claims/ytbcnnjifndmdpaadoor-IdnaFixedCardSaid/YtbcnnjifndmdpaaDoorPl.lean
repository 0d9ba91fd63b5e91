/- Texts behind a law of this seat, in order: Puny6, Puny7. -/
import Derived.Test.YtbcnnjifndmdpaaDoorPb
import Derived.Test.YtbcnnjifndmdpaaDoorPe
import Derived.Test.YtbcnnjifndmdpaaDoorPf
import Derived.Test.YtbcnnjifndmdpaaDoorPi
import Derived.Test.YtbcnnjifndmdpaaDoorPj
import Derived.Test.YtbcnnjifndmdpaaDoorPk
import Derived.Below
import Derived.BigQuiet
import Derived.BigRegion
import Derived.ChangeSlices
import Derived.Deep.AppendLies
import Derived.Deep.Draws
import Derived.Deep.QuietTactic
import Derived.Deep.RegionHeld3
import Derived.Deep.RegionLaw
import Derived.Deep.RegionWith
import Derived.Handed
import Derived.IntWalk
import Derived.Laws.OwnMore
import Derived.Laws.Rows
import Derived.Lib.Hide
import Derived.Lib.Strings
import Derived.SizedLaws
import Derived.SliceStrings
import Derived.StillTailTactics
import Derived.Test.YtbcnnjifndmdpaaDoorProg
import Derived.WalkKit
import Derived.WalkLawsBesides
import Derived.WalkSpells
namespace Go.Proofs.YtbcnnjifndmdpaaDoor
open Go.RowKit Go
set_option linter.unusedVariables false
theorem figs_len10 {s k b : Int} (h0 : 0 ≤ s) (h1 : s ≤ 4294967295) : (figs s k b).length ≤ 11 := figs_len 10 s k b h0 (Int.lt_of_le_of_lt h1 (by decide))
def RoundP (l : List Int) (B g : Nat) (bs n m : Int) (st : St) (w : World) (e : Ending) (w' : World) : Prop :=
  (rnd m bs l st = none ∧ e = .returned (.bool false) ∧ Below B w w') ∨
  (∃ st2 : St, rnd m bs l st = some st2 ∧ e = .returned (.bool true) ∧ Wr w' B g st2.1 (m + 1) (st2.2.1 + 1) st2.2.2.1 bs st2.2.2.2 ∧ Below B w w' ∧ 0 ≤ st2.2.1 ∧ st2.2.1 ≤ 4294967295 ∧ 0 ≤ st2.2.2.1 ∧ st2.2.2.1 ≤ 1099511627776 ∧ (st2.1.length : Int) ≤ 5000 + 40 * st2.2.2.2)
set_option maxHeartbeats 4000000 in
theorem wround_any (g : Nat) (o : List UInt8) (n s b bs d : Int) (w0 w : World) (A : Option Addr) (N ca : Nat) (l : List Int) (hW : Wr w w0.heap.size g o n s b bs d) (hB : w0.heap.size ≤ g) (hBw : Below w0.heap.size w0 w)
    (hl : IntsAt w0 .i32 A N l) (hN : N ≤ 4096) (hN0 : 0 < N) (hx : ∀ x ∈ l, 0 ≤ x ∧ x ≤ 1114111) (n0 : 0 ≤ n) (hm : IsLst l n (leastI l n))
    (s0 : 0 ≤ s) (s1 : s ≤ 4294967296) (b0 : 0 ≤ b) (b1 : b ≤ 1099511627776) (d0 : 0 ≤ d) (d1 : d ≤ 4096) (ho : (o.length : Int) ≤ 5000 + 40 * d) :
    Calls Tryd.prog 73 #[.pointer (some ⟨g, 0, none⟩), .slice A N ca] w (RoundP l w0.heap.size g bs n (leastI l n) (o, s + (leastI l n - n) * (d + 1), b, d) w) := by
  have hlw := hl.below hBw
  have hm1 := hx _ hm.1
  have hm2 := hm.2.1
  have hk := fun w (h : IntsAt w .i32 A N l) => leastFrom_any A N ca l n w h (by omega) hx n0 (by omega)
  obtain ⟨m, hmm⟩ : ∃ m, m = leastI l n := ⟨_, rfl⟩
  simp only [← hmm] at hk hm1 hm2 hm
  rw [← hmm]
  have HK := Lib.hid hk
  have HX := Lib.hid hx
  have HL := Lib.hid hl
  have HLEN := Lib.hid hl.1
  clear hk hx hl hmm hm
  obtain ⟨hm0, hm1⟩ := hm1
  obtain ⟨v, hat, hown⟩ := hW
  have hu1 : 0 ≤ (m - n) * (d + 1) := Int.mul_nonneg (by omega) (by omega)
  have hu2 : (m - n) * (d + 1) ≤ 1114111 * 4097 := Int.mul_le_mul (by omega) (by omega) (by omega) (by omega)
  obtain ⟨S, hS⟩ : ∃ S, S = s + (m - n) * (d + 1) := ⟨_, rfl⟩
  have hS0 : 0 ≤ S := by omega
  have hS1 : S ≤ 10000000000 := by omega
  have hsm : IntKind.i64.wrap (s + (m - n) * (d + 1)) = S := by rw [hS]; exact IntWalk.i64_in _ (by omega)
  rw [← hS]
  have e1 : IntKind.i32.wrap (m - n) = m - n := by rw [IntKind.wrap_i32]; omega
  have e2 : IntKind.i64.wrap (m - n) = m - n := IntWalk.i64_in _ (by omega)
  have e3 : IntKind.i64.wrap (d + 1) = d + 1 := IntWalk.i64_in _ (by omega)
  have e4 : IntKind.i64.wrap ((m - n) * (d + 1)) = (m - n) * (d + 1) := IntWalk.i64_in _ (by omega)
  have HAT := Lib.hid hat
  have c1 := hat.cells 1 rfl
  have c2 := hat.cells 2 rfl
  have c5 := hat.cells 5 rfl
  have z1 := hat.ice 1
  have z2 := hat.ice 2
  have K1 := Lib.hid (show (w.setCell ⟨g, 2, none⟩ (.int .i64 S)).drew.cell? ⟨g, 1, none⟩ = some (.int .i32 n) from ((hat.put 2 (.int .i64 S)).drew).cells 1 rfl)
  have K5 := Lib.hid (show (w.setCell ⟨g, 2, none⟩ (.int .i64 S)).drew.cell? ⟨g, 5, none⟩ = some (.int .i64 d) from ((hat.put 2 (.int .i64 S)).drew).cells 5 rfl)
  have hat2 : At (w.setCell ⟨g, 2, none⟩ (.int .i64 S)).drew g 101 (wrC v n S b bs d) := (hat.put 2 (.int .i64 S)).drew
  have hown2 : (w.setCell ⟨g, 2, none⟩ (.int .i64 S)).drew.ownsRow w0.heap.size 5 1 v o.length (bcs o) := (own_put hown hat (by decide)).drew
  have hb2 : Below w0.heap.size w (w.setCell ⟨g, 2, none⟩ (.int .i64 S)).drew := ((Below.refl _ _).setCell (p := ⟨g, 2, none⟩) hB _).drew
  have HAT2 := Lib.hid hat2
  have HOWN2 := Lib.hid hown2
  have HB2 := Lib.hid hb2
  have HSM := Lib.hid hS
  clear hat hat2 hown hown2 hb2 hS
  go_enter Tryd.func73, Tryd.ntmps73
  go_wp2_with fail
  ((with_reducible refine (HK.out _ hlw).mono ?_))
  rintro e w' ⟨rfl, rfl⟩
  go_wp2_with fail
  go_region
  all_goals
    clear c1 c2 c5 z1 z2 K1 K5 e1 e2 e3 e4 hsm
    generalize (w.setCell ⟨g, 2, none⟩ (.int .i64 S)).drew = w2 at HAT2 HOWN2 HB2 ⊢
    have c1 := HAT2.out.cells 1 rfl
    have z1 := HAT2.out.ice 1
    have hst : rnd m bs l (o, S, b, d) = rnd m bs (l.drop 0) (o, S, b, d) := rfl
    have HST := Lib.hid hst
    clear hst
    go_wp2_with fail
    clear c1 z1
    go_loopw [40] (fun u wr => ∃ k : Nat, ∃ st : St, u = .int .i64 k ∧ k ≤ N ∧ Wr wr w0.heap.size g st.1 m st.2.1 st.2.2.1 bs st.2.2.2 ∧ Below w0.heap.size w wr ∧ Hid (rnd m bs l (o, S, b, d) = rnd m bs (l.drop k) st) ∧ 0 ≤ st.2.1 ∧ st.2.1 ≤ 10000000000 ∧ (0 < k → st.2.1 ≤ 4294967295) ∧ 0 ≤ st.2.2.1 ∧ st.2.2.1 ≤ 1099511627776 ∧ 0 ≤ st.2.2.2 ∧ st.2.2.2 ≤ d + k ∧ (st.1.length : Int) ≤ 5000 + 40 * st.2.2.2) (fun u _ => N - (intOf u).toNat)
    case atStart => exact ⟨0, (o, S, b, d), rfl, by omega, ⟨v, HAT2.out.put 1 (.int .i32 m), own_put HOWN2.out HAT2.out (by decide)⟩, HB2.out.setCell hB _, HST, hS0, hS1, fun h => absurd h (by omega), b0, b1, d0, by simp, ho⟩
    case round =>
      obtain ⟨k, ⟨p, x, y, z⟩, rfl, hk, hW, HB, hr, x0, x1, x2, y0, y1, zz0, zz1, hp⟩ := hrel
      simp only at hW x0 x1 x2 y0 y1 zz0 zz1 hp hr
      obtain ⟨v3, hat3, hown3⟩ := hW
      have HAT3 := Lib.hid hat3
      have HOWN3 := Lib.hid hown3
      have c1 := hat3.cells 1 rfl
      have c2 := hat3.cells 2 rfl
      have z1 := hat3.ice 1
      have z2 := hat3.ice 2
      clear hat3 hown3
      by_cases hlt : k < N
      · obtain ⟨bb, oo, rfl, hbb, hcell⟩ := HL.out.2 (by omega)
        have hkl : k < l.length := by have := HLEN.out; omega
        have h1 := hcell k hkl
        rw [← (hBw.trans HB).cell (p := ⟨bb, oo + k, none⟩) hbb] at h1
        have hdr := List.drop_eq_getElem_cons hkl
        have hxk := HX.out l[k] (List.getElem_mem _)
        obtain ⟨c, hc⟩ : ∃ c, c = l[k] := ⟨_, rfl⟩
        rw [← hc] at h1 hdr hxk
        have hr2 := hr.out
        rw [hdr] at hr2
        have HR := Lib.hid hr2
        obtain ⟨q0, q1⟩ := hxk
        clear hcell hc hdr hr2 hr
        by_cases hcm : c < m
        · have hup : upS m c x = x + 1 := by unfold upS; rw [if_pos hcm]
          by_cases hov : 4294967295 < x + 1
          · have hn := HR.out.trans (rnd_ov (by simp only; rw [hup]; exact hov))
            have HN := Lib.hid hn
            clear hn hup
            go_wp2
            go_ret
            exact .inl ⟨HN.out, rfl, HB.setCell hB _⟩
          · have hn := HR.out.trans (rnd_pass (by simp only; rw [hup]; exact hov) (by omega))
            simp only [hup] at hn
            have HN := Lib.hid hn
            have hcm2 : (c == m) = false := by simp; omega
            have hov2 : x + 1 ≤ 4294967295 := by omega
            clear hn hup
            go_wp2
            go_roundw
            case rel => exact ⟨k + 1, (p, x + 1, y, z), by go_num, by omega, ⟨v3, HAT3.out.put 2 (.int .i64 (x + 1)), own_put HOWN3.out HAT3.out (by decide)⟩, HB.setCell hB _, HN, by simp only; omega, by simp only; omega, fun _ => hov2, y0, y1, zz0, by simp only; omega, hp⟩
            case measure => simp [intOf]; omega
        · have hup : upS m c x = x := by unfold upS; rw [if_neg hcm]
          have hcm' : m ≤ c := by omega
          by_cases hov : 4294967295 < x
          · have hn := HR.out.trans (rnd_ov (by simp only; rw [hup]; exact hov))
            have HN := Lib.hid hn
            clear hn hup
            go_wp2
            go_ret
            exact .inl ⟨HN.out, rfl, HB⟩
          · have hov2 : x ≤ 4294967295 := by omega
            by_cases hce : c = m
            · have hn := HR.out.trans (rnd_put (by simp only; rw [hup]; exact hov) hce)
              simp only [hup] at hn
              have HN := Lib.hid hn
              have hce2 : (c == m) = true := by simp [hce]
              have hfl := figs_len10 (k := 1) (b := y) x0 hov2
              have had := adp_bd x (z + 1) (decide (z = bs)) x0 (by omega) (by omega)
              have hcall := wput_any w0.heap.size g p m x y bs z wr ⟨v3, HAT3.out, HOWN3.out⟩ hB (Nat.le_trans hBw.size HB.size) (by omega) x0 (by omega) y0 y1 zz0 (by omega)
              have HC := Lib.hid hcall
              have HE := Lib.hid hce
              clear hn hup hcall hce
              go_wp2_with ((with_reducible refine HC.out.mono ?_); rintro e w' ⟨rfl, hW4, hb4⟩)
              go_roundw
              case rel => exact ⟨k + 1, (p ++ figs x 1 y, 0, adp x (z + 1) (decide (z = bs)), z + 1), by go_num, by omega, hW4, HB.trans hb4, HN, by simp only; omega, by simp only; omega, fun _ => by simp only; omega, had.1, had.2, by simp only; omega, by simp only; omega, by simp; omega⟩
              case measure => simp [intOf]; omega
            · have hn := HR.out.trans (rnd_pass (by simp only; rw [hup]; exact hov) hce)
              simp only [hup] at hn
              have HN := Lib.hid hn
              have hce2 : (c == m) = false := by simpa using hce
              clear hn hup
              go_wp2
              go_roundw
              case rel => exact ⟨k + 1, (p, x, y, z), by go_num, by omega, ⟨v3, HAT3.out, HOWN3.out⟩, HB, HN, x0, x1, fun _ => hov2, y0, y1, zz0, by simp only; omega, hp⟩
              case measure => simp [intOf]; omega
      · have hn := hr.out
        rw [List.drop_eq_nil_of_le (by have := HLEN.out; omega)] at hn
        have HN := Lib.hid hn
        have x3 := x2 (by omega)
        clear hn hr x2
        go_wp2
        go_ret
        exact .inr ⟨(p, x, y, z), HN.out, rfl, ⟨v3, (HAT3.out.put 2 (.int .i64 (x + 1))).put 1 (.int .i32 (m + 1)), own_put (own_put HOWN3.out HAT3.out (by decide)) (HAT3.out.put 2 (.int .i64 (x + 1))) (by decide)⟩, (HB.setCell hB _).setCell hB _, x0, x3, y0, y1, hp⟩
end Go.Proofs.YtbcnnjifndmdpaaDoor
namespace Go.Proofs.YtbcnnjifndmdpaaDoor
open Go.RowKit Go
set_option linter.unusedVariables false
theorem own_slice {w : World} {B e n : Nat} {v : Value} {xs : List Value} (h : w.ownsRow B e 1 v n xs) : ∃ A c, v = .slice A n c := by
  rcases h.2 with ⟨rfl, h0⟩ | ⟨g, cap, cur, rfl, _⟩
  · exact ⟨none, 0, by rw [h0]⟩
  · exact ⟨_, _, rfl⟩
def doneOf (w : World) (g : Nat) : Nat := match w.cell? ⟨g, 5, none⟩ with
  | some (.int _ d) => d.toNat
  | _ => 0
theorem doneOf_wr {w : World} {B g : Nat} {o : List UInt8} {n s b bs d : Int} (h : Wr w B g o n s b bs d) : doneOf w g = d.toNat := by
  obtain ⟨v, hat, _⟩ := h
  have := hat.cells 5 rfl
  unfold doneOf
  rw [this]
  rfl
theorem ret_encE {l : List Int} {p : List UInt8} {x : Int} (h : encE l = (p, x)) : Ending.returned (.tuple #[.string ⟨p.toArray⟩, .int .i64 x]) = .returned (.tuple #[.string ⟨(encE l).1.toArray⟩, .int .i64 (encE l).2]) := by rw [h]
set_option maxHeartbeats 4000000 in
theorem encode_any (w : World) (A : Option Addr) (N ca : Nat) (l : List Int) (hl : IntsAt w .i32 A N l) (hN : N ≤ 9223372036854775807) (hx : ∀ x ∈ l, -2147483648 ≤ x ∧ x ≤ 2147483647) :
    Calls Tryd.prog 62 #[.slice A N ca] w fun e w' => e = .returned (.tuple #[.string ⟨(encE l).1.toArray⟩, .int .i64 (encE l).2]) ∧ Below w.heap.size w w' := by
  have HLEN := Lib.hid hl.1
  have HL := Lib.hid hl
  have HX := Lib.hid hx
  by_cases hbig : 4096 < N
  · have he := encE_long (l := l) (by have := HLEN.out; omega)
    have HE := Lib.hid he
    clear he hl hx
    go_enter Tryd.func62, Tryd.ntmps62
    go_wp2
    go_ret2
    exact ⟨ret_encE HE.out, Below.refl _ _⟩
  clear hl hx
  go_enter Tryd.func62, Tryd.ntmps62
  go_wp2
  go_loopw [4, 14] (fun v i wr => ∃ k : Nat, k ≤ N ∧ i = .int .i64 k ∧ wr.ownsRow w.heap.size 5 1 v (basL (l.take k)).length (bcs (basL (l.take k))) ∧ Below w.heap.size w wr ∧ (basL (l.take k)).length ≤ k ∧ Hid (∀ x ∈ l.take k, 0 ≤ x ∧ x ≤ 1114111)) (fun _ i _ => N - (intOf i).toNat)
  case atStart => exact ⟨0, Nat.zero_le _, rfl, World.ownsRow_nil _ _ _ _, Below.refl _ _, by simp [basL], Lib.hid (by simp)⟩
  case round =>
    obtain ⟨k, hk, rfl, hown, HB, hbl, hall⟩ := hrel
    by_cases hlt : k < N
    · obtain ⟨b, o, rfl, hb, hcell⟩ := HL.out.2 (by omega)
      have hkl : k < l.length := by have := HLEN.out; omega
      have h1 := hcell k hkl
      rw [← HB.cell (p := ⟨b, o + k, none⟩) hb] at h1
      have hxk := HX.out l[k] (List.getElem_mem _)
      have htk := List.take_succ_eq_append_getElem hkl
      have hoff := fun h => encE_off (l := l) (by have := HLEN.out; omega) (offB_at hkl h)
      obtain ⟨x, hxe⟩ : ∃ x, x = l[k] := ⟨_, rfl⟩
      rw [← hxe] at h1 hxk htk
      simp only [← hxe] at hoff
      have HT := Lib.hid htk
      have HO := Lib.hid hoff
      have hwz := HB.size
      clear htk hxe hcell hoff
      obtain ⟨x0, x1⟩ := hxk
      by_cases hlo : x < 0
      · have he := HO.out (.inl hlo)
        have HE := Lib.hid he
        clear he
        go_wp2
        go_ret2
        exact ⟨ret_encE HE.out, HB⟩
      · by_cases hhi : 1114111 < x
        · have he := HO.out (.inr hhi)
          have HE := Lib.hid he
          have hlo2 : 0 ≤ x := by omega
          clear he
          go_wp2
          go_ret2
          exact ⟨ret_encE HE.out, HB⟩
        · have hlo2 : 0 ≤ x := by omega
          have hhi2 : x ≤ 1114111 := by omega
          have hall2 : ∀ y ∈ l.take (k + 1), 0 ≤ y ∧ y ≤ 1114111 := by
            rw [HT.out]
            intro y hy
            rcases List.mem_append.1 hy with hy | hy
            · exact hall.out y hy
            · obtain rfl := List.mem_singleton.1 hy
              omega
          have HALL := Lib.hid hall2
          clear hall2
          by_cases hba : x < 128
          · have hu := u8_nat hlo2 (by omega)
            have hby := basL_yes (l.take k) hba
            rw [← HT.out] at hby
            have HBY := Lib.hid hby
            have HU := Lib.hid hu
            clear hu hby
            go_wp2_with (at_builtin; refine wpList_app1 rfl (.tmp 26) (.tmp 29) 51 5 rfl Tryd.underlying51 elemU8 rfl w.heap.size _ (basL (l.take k)).length _ _ rfl rfl hown rfl (by omega) (by omega) hwz ?_)
            intro v' w2 hown2 HB2 hne
            have hown3 : w2.ownsRow w.heap.size 5 1 v' (basL (l.take (k + 1))).length (bcs (basL (l.take (k + 1)))) := by
              rw [HBY.out, bcs_app, HU.out]; simpa using hown2
            have hbl2 : (basL (l.take (k + 1))).length ≤ k + 1 := by rw [HBY.out]; simp; omega
            clear hown2 hown
            go_wp2_with fail
            go_roundw
            case rel => exact ⟨k + 1, by omega, by go_num, hown3, HB.trans HB2, hbl2, HALL⟩
            case measure => simp [intOf]; omega
          · have hby := basL_no (l.take k) hba
            rw [← HT.out] at hby
            have HBY := Lib.hid hby
            have hba2 : 128 ≤ x := by omega
            clear hby
            go_wp2
            go_roundw
            case rel => exact ⟨k + 1, by omega, by go_num, by rw [HBY.out]; exact hown, HB, by rw [HBY.out]; omega, HALL⟩
            case measure => simp [intOf]; omega
    · obtain rfl : k = N := by omega
      rw [List.take_of_length_le (by have := HLEN.out; omega)] at hown hall hbl
      have hr : ∀ x ∈ l, 0 ≤ x ∧ x ≤ 1114111 := hall.out
      have hoff := offB_no hr
      have hst := eInv_start (l := l) (by have := HLEN.out; omega)
      have hO : encO l = encL l ((basL l).length : Int) (l.length + 1) 128 (hyp (basL l), 0, 72, (basL l).length) := rfl
      obtain ⟨z, hz⟩ : ∃ z, z = (basL l).length := ⟨_, rfl⟩
      obtain ⟨p, hp⟩ : ∃ p, p = hyp (basL l) := ⟨_, rfl⟩
      rw [← hz, ← hp] at hst hO
      have hwz := HB.size
      have HR := Lib.hid hr
      have HOFF := Lib.hid hoff
      have HST := Lib.hid hst
      have HO := Lib.hid hO
      clear hall hr hoff hst hO
      by_cases h0 : z = 0
      · have hp2 : p = [] := by rw [hp]; unfold hyp; rw [← hz, if_pos h0]
        have hb0 : basL l = [] := List.length_eq_zero_iff.1 (by omega)
        rw [hb0, List.length_nil] at hown
        obtain ⟨A4, c4, rfl⟩ := own_slice hown
        subst h0
        subst hp2
        clear hp hz hb0
        obtain ⟨W1, hW1⟩ : ∃ W1, W1 = wr := ⟨_, rfl⟩
        subst hW1
        have hww := HB.size
        have hownw := hown
        have HBW := HB
        have HG := Lib.hid (show w.heap.size ≤ W1.heap.size from hww)
        have hwr : Wr (W1.alloc (.cells (wrC (.slice A4 0 c4) 128 0 72 0 0) 101)) w.heap.size W1.heap.size [] 128 0 72 0 0 := ⟨_, At.new _ _ _, hownw.alloc _⟩
        have hbw : Below w.heap.size w (W1.alloc (.cells (wrC (.slice A4 0 c4) 128 0 72 0 0) 101)) := HBW.alloc hww _
        have HWR := Lib.hid hwr
        have HBB := Lib.hid hbw
        clear hwr hbw hownw
        go_wp2
        go_loopw [43] (fun q wq => ∃ (f : Nat) (n : Int) (st : St), Wr wq w.heap.size W1.heap.size st.1 n st.2.1 st.2.2.1 0 st.2.2.2 ∧ Below w.heap.size w wq ∧ Hid (EInv l n st) ∧ Hid (encO l = encL l 0 f n st) ∧ Hid ((l.length : Int) - st.2.2.2 < f)) (fun _ wq => k - doneOf wq W1.heap.size)
        case atStart => exact ⟨l.length + 1, 128, ([], 0, 72, 0), HWR.out, HBB.out, HST, HO, Lib.hid (by simp only; omega)⟩
        case round =>
          obtain ⟨f, n, ⟨o, s, b, d⟩, hW, HB3, hI, hO, hf⟩ := hrel
          simp only at hW hI hO hf
          have hdn := doneOf_wr hW
          have hi := hI.out
          have hcl := cnt_le l n
          have hdc : d = cnt l n := hi.d
          have hd0 : 0 ≤ d := by omega
          have hd1 : d ≤ k := by have := HLEN.out; omega
          have s0 : 0 ≤ s := hi.s0
          have s1 : s ≤ 4294967296 := hi.s1
          have b0 : 0 ≤ b := hi.b0
          have b1 : b ≤ 1099511627776 := hi.b1
          have n0 : 128 ≤ n := hi.n0
          have ho : (o.length : Int) ≤ 5000 + 40 * d := hi.o
          have HDN := Lib.hid hdn
          have HW3 := Lib.hid hW
          obtain ⟨v, hat, hown⟩ := hW
          have c0 := hat.cells 0 rfl
          have c5 := hat.cells 5 rfl
          clear hi hcl hdn hat hdc
          by_cases hlt : d < (k : Int)
          · have hdl : d < l.length := by have := HLEN.out; omega
            have hls := eInv_lst hI.out HR.out hdl
            have hc := wround_any W1.heap.size o n s b 0 d w _ A k ca l HW3.out HG.out HB3 HL.out (by omega) (by omega) HR.out (by omega) hls s0 s1 b0 b1 hd0 (by omega) ho
            have HC := Lib.hid hc
            have HDL := Lib.hid hdl
            clear hc hls hown hdl
            go_wp2_with fail
            ((with_reducible refine HC.out.mono ?_))
            rintro e w4 (⟨hn, rfl, hb4⟩ | ⟨⟨o2, s2, b2, d2⟩, hsm, rfl, hW4, hb4, x0, x1, y0, y1, hol⟩)
            · have he := encE_over (l := l) (by have := HLEN.out; omega) HOFF.out (enc_no hO.out hf.out HDL.out hn)
              have HE := Lib.hid he
              clear he hn
              go_wp2
              go_ret2
              exact ⟨ret_encE HE.out, HB3.trans hb4⟩
            · have hst := eInv_step hI.out HR.out HDL.out hsm x0 x1 y0 y1 hol
              obtain ⟨f', hO2, hf2⟩ := enc_go hO.out hf.out HDL.out hsm hst.2
              have HI2 := Lib.hid hst.1
              have HO2 := Lib.hid hO2
              have HF2 := Lib.hid hf2
              have hdd : d < d2 := hst.2
              have HDN2 := Lib.hid (doneOf_wr hW4)
              clear hst hsm hO2 hf2
              simp only at hW4
              go_wp2
              go_roundw
              case rel => exact ⟨f', _, (o2, s2 + 1, b2, d2), hW4, HB3.trans hb4, HI2, HO2, HF2⟩
              case measure => simp only [HDN.out, HDN2.out]; omega
          · have he := encE_ok (l := l) (by have := HLEN.out; omega) HOFF.out (enc_end hO.out hf.out (by have := HLEN.out; simp only; omega) (by have := HLEN.out; simp only; omega))
            have HE := Lib.hid he
            have hcv := own_string (P := Tryd.prog) Tryd.underlying51 Tryd.underlying5 Tryd.underlying9 hown
            clear he
            go_wp2
            go_ret2
            exact ⟨ret_encE HE.out, HB3⟩
      · have hp2 : p = basL l ++ [45] := by rw [hp]; unfold hyp; rw [← hz, if_neg h0]
        rw [← hz] at hown hbl
        obtain ⟨A4, c4, rfl⟩ := own_slice hown
        have HP2 := Lib.hid hp2
        have HZ := Lib.hid hz
        have hz0 : 0 < z := by omega
        clear hp hz hp2 h0
        go_wp2_with (at_builtin; refine wpList_app1 rfl (.tmp 36) (.tmp 37) 51 5 rfl Tryd.underlying51 elemU8 rfl w.heap.size _ z _ _ rfl rfl hown rfl (by omega) (by omega) hwz ?_)
        intro v' W1 hown2 HB2 hne
        obtain ⟨A5, c5, rfl⟩ := own_slice hown2
        have hownw : W1.ownsRow w.heap.size 5 1 (.slice A5 (z + 1) c5) p.length (bcs p) := by
          rw [HP2.out, bcs_app]
          have hq : (basL l ++ [45]).length = z + 1 := by rw [List.length_append, ← HZ.out]; rfl
          rw [hq]
          exact hown2
        have HBW := HB.trans HB2
        have hww := HBW.size
        clear hown2 hown hne
        have HG := Lib.hid (show w.heap.size ≤ W1.heap.size from hww)
        have hwr : Wr (W1.alloc (.cells (wrC (.slice A5 (z + 1) c5) 128 0 72 (z : Int) (z : Int)) 101)) w.heap.size W1.heap.size p 128 0 72 (z : Int) (z : Int) := ⟨_, At.new _ _ _, hownw.alloc _⟩
        have hbw : Below w.heap.size w (W1.alloc (.cells (wrC (.slice A5 (z + 1) c5) 128 0 72 (z : Int) (z : Int)) 101)) := HBW.alloc hww _
        have HWR := Lib.hid hwr
        have HBB := Lib.hid hbw
        clear hwr hbw hownw
        go_wp2
        go_loopw [43] (fun q wq => ∃ (f : Nat) (n : Int) (st : St), Wr wq w.heap.size W1.heap.size st.1 n st.2.1 st.2.2.1 (z : Int) st.2.2.2 ∧ Below w.heap.size w wq ∧ Hid (EInv l n st) ∧ Hid (encO l = encL l (z : Int) f n st) ∧ Hid ((l.length : Int) - st.2.2.2 < f)) (fun _ wq => k - doneOf wq W1.heap.size)
        case atStart => exact ⟨l.length + 1, 128, (p, 0, 72, (z : Int)), HWR.out, HBB.out, HST, HO, Lib.hid (by simp only; omega)⟩
        case round =>
          obtain ⟨f, n, ⟨o, s, b, d⟩, hW, HB3, hI, hO, hf⟩ := hrel
          simp only at hW hI hO hf
          have hdn := doneOf_wr hW
          have hi := hI.out
          have hcl := cnt_le l n
          have hdc : d = cnt l n := hi.d
          have hd0 : 0 ≤ d := by omega
          have hd1 : d ≤ k := by have := HLEN.out; omega
          have s0 : 0 ≤ s := hi.s0
          have s1 : s ≤ 4294967296 := hi.s1
          have b0 : 0 ≤ b := hi.b0
          have b1 : b ≤ 1099511627776 := hi.b1
          have n0 : 128 ≤ n := hi.n0
          have ho : (o.length : Int) ≤ 5000 + 40 * d := hi.o
          have HDN := Lib.hid hdn
          have HW3 := Lib.hid hW
          obtain ⟨v, hat, hown⟩ := hW
          have c0 := hat.cells 0 rfl
          have c5 := hat.cells 5 rfl
          clear hi hcl hdn hat hdc
          by_cases hlt : d < (k : Int)
          · have hdl : d < l.length := by have := HLEN.out; omega
            have hls := eInv_lst hI.out HR.out hdl
            have hc := wround_any W1.heap.size o n s b (z : Int) d w _ A k ca l HW3.out HG.out HB3 HL.out (by omega) (by omega) HR.out (by omega) hls s0 s1 b0 b1 hd0 (by omega) ho
            have HC := Lib.hid hc
            have HDL := Lib.hid hdl
            clear hc hls hown hdl
            go_wp2_with fail
            ((with_reducible refine HC.out.mono ?_))
            rintro e w4 (⟨hn, rfl, hb4⟩ | ⟨⟨o2, s2, b2, d2⟩, hsm, rfl, hW4, hb4, x0, x1, y0, y1, hol⟩)
            · have he := encE_over (l := l) (by have := HLEN.out; omega) HOFF.out (enc_no hO.out hf.out HDL.out hn)
              have HE := Lib.hid he
              clear he hn
              go_wp2
              go_ret2
              exact ⟨ret_encE HE.out, HB3.trans hb4⟩
            · have hst := eInv_step hI.out HR.out HDL.out hsm x0 x1 y0 y1 hol
              obtain ⟨f', hO2, hf2⟩ := enc_go hO.out hf.out HDL.out hsm hst.2
              have HI2 := Lib.hid hst.1
              have HO2 := Lib.hid hO2
              have HF2 := Lib.hid hf2
              have hdd : d < d2 := hst.2
              have HDN2 := Lib.hid (doneOf_wr hW4)
              clear hst hsm hO2 hf2
              simp only at hW4
              go_wp2
              go_roundw
              case rel => exact ⟨f', _, (o2, s2 + 1, b2, d2), hW4, HB3.trans hb4, HI2, HO2, HF2⟩
              case measure => simp only [HDN.out, HDN2.out]; omega
          · have he := encE_ok (l := l) (by have := HLEN.out; omega) HOFF.out (enc_end hO.out hf.out (by have := HLEN.out; simp only; omega) (by have := HLEN.out; simp only; omega))
            have HE := Lib.hid he
            have hcv := own_string (P := Tryd.prog) Tryd.underlying51 Tryd.underlying5 Tryd.underlying9 hown
            clear he
            go_wp2
            go_ret2
            exact ⟨ret_encE HE.out, HB3⟩
end Go.Proofs.YtbcnnjifndmdpaaDoor
