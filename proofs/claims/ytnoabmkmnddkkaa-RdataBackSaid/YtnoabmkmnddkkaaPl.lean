/- Texts behind a law of this seat, in order: Pack4. -/
import Derived.Test.YtnoabmkmnddkkaaPa
import Derived.Test.YtnoabmkmnddkkaaPb
import Derived.Test.YtnoabmkmnddkkaaPc
import Derived.Test.YtnoabmkmnddkkaaPd
import Derived.Test.YtnoabmkmnddkkaaPf
import Derived.Test.YtnoabmkmnddkkaaPg
import Derived.Test.YtnoabmkmnddkkaaPi
import Derived.Test.YtnoabmkmnddkkaaPj
import Derived.Test.YtnoabmkmnddkkaaPk
import Derived.Below
import Derived.BigQuiet
import Derived.BigRegion
import Derived.ChangeSlices
import Derived.Deep.AppendLies
import Derived.Deep.Draws
import Derived.Deep.QuietTactic
import Derived.Deep.RegionLaw
import Derived.Great.Ranges
import Derived.Handed
import Derived.Handy
import Derived.Laws.OwnMore
import Derived.Laws.Rows
import Derived.Lib.Hide
import Derived.Lib.Strings
import Derived.SizedLaws
import Derived.SliceStrings
import Derived.StillTailTactics
import Derived.Test.YtnoabmkmnddkkaaProg
import Derived.WalkKit
import Derived.WalkLawsBesides
import Derived.WalkSpells
namespace Go.Proofs.Ytnoabmkmnddkkaa
open Go.RowKit Go
set_option linter.unusedVariables false
theorem textsAt_nil (w : World) : TextsAt w none 0 [] := ⟨rfl, fun h => absurd h (by omega)⟩
set_option maxRecDepth 100000 in
set_option maxHeartbeats 2000000 in
theorem begin_any (M : ByteArray) (p : Nat) (hp : p ≤ M.size) (w : World) : Calls Try.prog 62 #[.string M, .int .i64 p] w fun e w' => ∃ g, e = .returned (.pointer (some ⟨g, 0, none⟩)) ∧ Rd w.heap.size w' g M (M.data.toList.drop p) p [] 1 0 ∧ Below w.heap.size w w' := by
  have HQ := Lib.hid (fun w => eyeNew_any (M.extract p M.size) w)
  have hz := fun w => size_any none 0 0 [] w (textsAt_nil w) (by decide)
  have e1 : ((sizeL [] : Nat) : Int) = 1 := rfl
  rw [e1] at hz
  have HZ := Lib.hid hz
  have hex : (M.extract p M.size).data.toList = M.data.toList.drop p := by rw [Lib.extract_eq]; simp; rw [List.take_of_length_le (by simp)]
  have HEX := Lib.hid hex
  clear hz e1 hex
  go_enter Try.func62, Try.ntmps62
  go_wp2_with fail
  go_region_law (first
    | (go_simp; go_at_call 14; (with_reducible refine (HQ.out _).mono ?_); rintro e w5 ⟨ge, rfl, hge, hae, hbe⟩; have e0 : w5.cell? ⟨ge, 0, none⟩ = some (.string (M.extract p M.size)) := hae.cells 0 (by show some (Value.string ⟨_⟩) = _; rw [ba_mk]); have e1 : w5.cell? ⟨ge, 1, none⟩ = some (.int .i64 0) := hae.cells 1 rfl; have HBE := Lib.hid hbe; clear hbe hae)
    | (go_simp; go_at_call 22; (with_reducible refine (HZ.out _).mono ?_); rintro e w6 ⟨rfl, rfl⟩))
  all_goals
    go_wp2
    go_ret
    have hbw : Below w.heap.size w w5 := (Below.refl w.heap.size w).drew.trans HBE.out
    refine ⟨_, rfl, ⟨hbw.size, .slice none 0 0, ?_, ⟨rfl, .inl ⟨rfl, rfl⟩⟩⟩, hbw.alloc hbw.size _⟩
    show At _ _ _ #[_, .string ⟨(M.data.toList.drop p).toArray⟩, _, _, _, _, _]
    rw [← HEX.out, ba_mk]
    exact At.new w5 _ _
/-- what reading comes to: the name lies in the reader, or it breaks off -/
def ReadP (B : Nat) (w : World) (g : Nat) (M : ByteArray) (R : PkR) (e : Ending) (w' : World) : Prop :=
  Below B w w' ∧ ((R.err = 0 ∧ e = .returned (.tuple #[]) ∧ ∃ l low size, Rd B w' g M l low R.n size R.fin) ∨ (R.err ≠ 0 ∧ R = pkBad R.err ∧ e = .panicked (pkPanic R.err)))
/-- how much is left to be read, at most -/
def rdLeft (g : Nat) (w : World) : Nat :=
  match w.heap[g]? with
  | some (.cells cs _ _) => (match cs[3]?, cs[1]?, cs[0]? with
    | some (Value.int _ low), some (Value.string s), some (Value.string M) => low.toNat * (M.size + 1) + s.size
    | _, _, _ => 0)
  | _ => 0
theorem rdLeft_at {w : World} {g : Nat} {M : ByteArray} {l : List UInt8} {x : Int} {low : Nat} {v : Value} {size fin : Int} (h : RdAt w g M l x low v size fin) : rdLeft g w = low * (M.size + 1) + l.length := by
  unfold rdLeft
  have h' : w.heap[g]? = some (.cells (rdC M l x low v size fin) 106 (0, 0)) := h
  rw [h']
  show ((low : Nat) : Int).toNat * (M.size + 1) + (⟨l.toArray⟩ : ByteArray).size = _
  rw [Int.toNat_natCast]
  rfl
theorem drop_cons (m : List UInt8) (p : Nat) (h : p < m.length) : m.drop p = m[p] :: m.drop (p + 1) := by
  rw [List.drop_eq_getElem_cons h]
set_option maxRecDepth 100000 in
set_option maxHeartbeats 4000000 in
theorem read_any (B g : Nat) (M : ByteArray) (hM : M.size ≤ 50000000) (p : Nat) (hp : p ≤ M.size) (w : World) (h : Rd B w g M (M.data.toList.drop p) p [] 1 0) :
    Calls Try.prog 63 #[.pointer (some ⟨g, 0, none⟩)] w (ReadP B w g M (pkRun M.data.toList p p 1 [] 0)) := by
  have hlenM : M.data.toList.length = M.size := by rw [Array.length_toList]; rfl
  obtain ⟨m, hm⟩ : ∃ m, m = M.data.toList := ⟨_, rfl⟩
  rw [← hm] at hlenM h ⊢
  obtain ⟨R, hR⟩ : ∃ R, R = pkRun m p p 1 [] 0 := ⟨_, rfl⟩
  rw [← hR]
  have HS := Lib.hid (show ∃ (p low size : Nat) (n : Lbs) (fin : Nat), p ≤ M.size ∧ low ≤ M.size ∧ size ≤ 255 ∧ 2 * n.length + 1 ≤ size ∧ R = pkRun m p low size n fin ∧ Rd B w g M (m.drop p) low n size fin from ⟨p, p, 1, [], 0, hp, hp, by decide, by decide, hR, h⟩)
  have HM := Lib.hid hm
  have HLM := Lib.hid hlenM
  have HM7 := Lib.hid hM
  have HB0 := Lib.hid (Below.refl B w)
  clear h hR hm hlenM hM hp
  go_enter Try.func63, Try.ntmps63
  go_wp2_with fail
  go_loopw [2] (fun _ wr => (∃ (p low size : Nat) (n : Lbs) (fin : Nat), p ≤ M.size ∧ low ≤ M.size ∧ size ≤ 255 ∧ 2 * n.length + 1 ≤ size ∧ R = pkRun m p low size n fin ∧ Rd B wr g M (m.drop p) low n size fin) ∧ Below B w wr) (fun _ wr => rdLeft g wr)
  case atStart => exact ⟨HS.out, HB0.out⟩
  case round =>
    obtain ⟨⟨p, low, size, n, fin, hp, hlow, hsize, hn, hR, h⟩, hbw⟩ := hrel
    have hlm := HLM.out
    have hM7 := HM7.out
    have hms : rdLeft g wr = low * (M.size + 1) + (m.drop p).length := by obtain ⟨_, v, ha, _⟩ := h; exact rdLeft_at ha
    by_cases h1 : p < m.length
    · have hdr := drop_cons m p h1
      have hdl : (m.drop p).length = (m.drop (p + 1)).length + 1 := by rw [hdr]; rfl
      have hll : (m.drop (p + 1)).length = m.length - (p + 1) := List.length_drop
      rw [hdr] at h
      have hN := num_ok h
      obtain ⟨c, hc⟩ : ∃ c, c = m[p] := ⟨_, rfl⟩
      rw [← hc] at hN
      obtain ⟨l, hl⟩ : ∃ l, l = m.drop (p + 1) := ⟨_, rfl⟩
      rw [← hl] at hN hdl hll
      have HN := Lib.hid hN
      have HMS := Lib.hid hms
      have HBW := Lib.hid hbw
      clear h hdr hN hms hbw
      by_cases c0 : c.toNat = 0
      · have hA := fun w (h : Rd B w g M l low n size fin) => mark_any (by omega) (by omega) h
        have HA := Lib.hid hA
        have hE := pkRun_end (low := low) (size := size) (n := n) (fin := fin) h1 (by rw [← hc]; exact c0)
        have HE := Lib.hid (hR.trans hE)
        have t0 : ((c.toNat : Int) == 0) = true := by simpa using c0
        have hf : finM fin M l = if fin = 0 then p + 1 else fin := by unfold finM; rw [show M.size - l.length = p + 1 by omega]
        have HF := Lib.hid hf
        clear hA hE hR c0 hc hf hl hdl hll hlm hM7 HMS
        go_wp2_with (first
          | ((with_reducible refine HN.out.mono ?_); rintro e w2 ⟨rfl, hrd, hb⟩; have HR2 := Lib.hid hrd; clear hrd)
          | ((with_reducible refine (HA.out _ HR2.out).mono ?_); rintro e w3 ⟨rfl, hrd, hb3⟩; have HR3 := Lib.hid hrd; clear hrd))
        go_returns
        refine ⟨HBW.out.trans (hb.trans hb3), .inl ?_⟩
        rw [HE.out]
        refine ⟨rfl, rfl, l, low, size, ?_⟩
        show Rd B w3 g M l low n size (if fin = 0 then p + 1 else fin : Nat)
        rw [← HF.out]
        exact HR3.out
      · have t0 : ((c.toNat : Int) == 0) = false := by rw [beq_eq_false_iff_ne]; omega
        by_cases c1 : c.toNat ≤ 63
        · have t1 : (c.toNat : Int) ≤ 63 := by omega
          have hcm : m[p].toNat = c.toNat := by rw [hc]
          by_cases c2 : m.length < p + 1 + c.toNat
          · have HA := Lib.hid (fun w (h : Rd B w g M l low n size fin) => label_short (c := c.toNat) (by omega) h)
            have HE := Lib.hid (hR.trans (pkRun_short h1 (by rw [hcm]; exact c0) (by rw [hcm]; exact c1) (by rw [hcm]; exact c2)))
            clear hR c0 hc hl hdl hll hlm hM7 HMS hcm c1 c2
            go_wp2_with (first
              | ((with_reducible refine HN.out.mono ?_); rintro e w2 ⟨rfl, hrd, hb⟩; have HR2 := Lib.hid hrd; clear hrd)
              | ((with_reducible refine (HA.out _ HR2.out).mono ?_); rintro e w3 ⟨rfl, hb3⟩))
            exact ⟨rfl, HBW.out.trans (hb.trans hb3), .inr (by rw [HE.out]; exact ⟨by decide, rfl, rfl⟩)⟩
          · by_cases c3 : 255 < size + (c.toNat + 1)
            · have HA := Lib.hid (fun w (h : Rd B w g M l low n size fin) => label_long (c := c.toNat) (by omega) c1 hsize c3 h)
              have HE := Lib.hid (hR.trans (pkRun_long h1 (by rw [hcm]; exact c0) (by rw [hcm]; exact c1) (by rw [hcm]; exact c2) (by rw [hcm]; exact c3)))
              clear hR c0 hc hl hdl hll hlm hM7 HMS hcm c1 c2 c3
              go_wp2_with (first
                | ((with_reducible refine HN.out.mono ?_); rintro e w2 ⟨rfl, hrd, hb⟩; have HR2 := Lib.hid hrd; clear hrd)
                | ((with_reducible refine (HA.out _ HR2.out).mono ?_); rintro e w3 ⟨rfl, hb3⟩))
              exact ⟨rfl, HBW.out.trans (hb.trans hb3), .inr (by rw [HE.out]; exact ⟨by decide, rfl, rfl⟩)⟩
            · have HA := Lib.hid (fun w (h : Rd B w g M l low n size fin) => label_ok (c := c.toNat) (by omega) c1 (by omega) (by omega) h)
              have hE := hR.trans (pkRun_label h1 (by rw [hcm]; exact c0) (by rw [hcm]; exact c1) (by rw [hcm]; exact c2) (by rw [hcm]; exact c3))
              rw [hcm, ← hl] at hE
              have hld : l.drop c.toNat = m.drop (p + 1 + c.toNat) := by rw [hl, List.drop_drop]
              have HE := Lib.hid hE
              have HLD := Lib.hid hld
              have HX := Lib.hid (⟨by omega, by omega, by simp; omega, by rw [hdl]; omega⟩ : p + 1 + c.toNat ≤ M.size ∧ size + (c.toNat + 1) ≤ 255 ∧ 2 * (n ++ [l.take c.toNat]).length + 1 ≤ size + (c.toNat + 1) ∧ m.length - (p + 1 + c.toNat) < (m.drop p).length)
              have HLOW := Lib.hid hlow
              clear hR c0 hc hl hdl hll hlm hM7 hcm c1 c2 c3 hE hld hlow hp hsize hn
              go_wp2_with (first
                | ((with_reducible refine HN.out.mono ?_); rintro e w2 ⟨rfl, hrd, hb⟩; have HR2 := Lib.hid hrd; clear hrd)
                | ((with_reducible refine (HA.out _ HR2.out).mono ?_); rintro e w3 ⟨rfl, hrd, hb3⟩; have HR3 := Lib.hid hrd; clear hrd))
              go_roundw
              case rel =>
                have h3 := HR3.out
                rw [HLD.out] at h3
                exact ⟨⟨_, _, _, _, _, HX.out.1, HLOW.out, HX.out.2.1, HX.out.2.2.1, HE.out, h3⟩, HBW.out.trans (hb.trans hb3)⟩
              case measure =>
                obtain ⟨_, v, ha, _⟩ := HR3.out
                rw [rdLeft_at ha, HMS.out, HLD.out, List.length_drop]
                have := HX.out.2.2.2
                omega
        · have t1 : ¬ (c.toNat : Int) ≤ 63 := by omega
          have hcm : m[p].toNat = c.toNat := by rw [hc]
          by_cases c2 : c.toNat < 192
          · have t2 : (c.toNat : Int) < 192 := by omega
            have HE := Lib.hid (hR.trans (pkRun_lab h1 (by rw [hcm]; exact c1) (by rw [hcm]; exact c2)))
            clear hR c0 hc hl hdl hll hlm hM7 HMS hcm c1 c2
            go_wp2_with ((with_reducible refine HN.out.mono ?_); rintro e w2 ⟨rfl, hrd, hb⟩; have HR2 := Lib.hid hrd; clear hrd)
            exact ⟨rfl, HBW.out.trans hb, .inr (by rw [HE.out]; exact ⟨by decide, rfl, rfl⟩)⟩
          · have t2 : ¬ (c.toNat : Int) < 192 := by omega
            by_cases c3 : p + 1 < m.length
            · have hdr2 := drop_cons m (p + 1) c3
              rw [← hl] at hdr2
              obtain ⟨d, hd⟩ : ∃ d, d = m[p + 1] := ⟨_, rfl⟩
              rw [← hd] at hdr2
              obtain ⟨l2, hl2⟩ : ∃ l2, l2 = m.drop (p + 1 + 1) := ⟨_, rfl⟩
              rw [← hl2] at hdr2
              have hl2l : l2.length = m.length - (p + 2) := by rw [hl2]; exact List.length_drop
              have hpt : ptrN (m[p]'h1) (m[p + 1]'c3) = ptrN c d := by rw [hc, hd]
              clear hl
              subst hdr2
              by_cases c4 : ptrN c d < low
              · have HA := Lib.hid (fun w (h : Rd B w g M (d :: l2) low n size fin) => follow_ok (c := c) (by omega) (by omega) (by omega) c4 hlow h)
                have hE := hR.trans (pkRun_ptr h1 (by rw [hcm]; exact c2) c3 (by rw [hpt]; exact c4))
                rw [hpt] at hE
                have hf : finM fin M l2 = if fin = 0 then p + 2 else fin := by unfold finM; rw [show M.size - l2.length = p + 2 by omega]
                rw [← hf] at hE
                have HE := Lib.hid hE
                have HX := Lib.hid (⟨by omega, c4⟩ : ptrN c d ≤ M.size ∧ ptrN c d < low)
                have HS := Lib.hid hsize
                have HN2 := Lib.hid hn
                clear hR c0 hc hdl hll hlm hM7 hcm c1 c2 c3 hE c4 hlow hp hsize hn hf hl2l hl2 hpt hd
                go_wp2_with (first
                  | ((with_reducible refine HN.out.mono ?_); rintro e w2 ⟨rfl, hrd, hb⟩; have HR2 := Lib.hid hrd; clear hrd)
                  | ((with_reducible refine (HA.out _ HR2.out).mono ?_); rintro e w3 ⟨rfl, hrd, hb3⟩; have HR3 := Lib.hid hrd; clear hrd))
                go_roundw
                case rel =>
                  have h3 := HR3.out
                  rw [← HM.out] at h3
                  exact ⟨⟨_, _, _, _, _, HX.out.1, HX.out.1, HS.out, HN2.out, HE.out, h3⟩, HBW.out.trans (hb.trans hb3)⟩
                case measure =>
                  obtain ⟨_, v, ha, _⟩ := HR3.out
                  rw [← HM.out] at ha
                  rw [rdLeft_at ha, HMS.out, List.length_drop]
                  have h5 := HX.out.2
                  have h6 := Nat.mul_le_mul_right (M.size + 1) h5
                  rw [Nat.succ_mul] at h6
                  have := HLM.out
                  omega
              · have HA := Lib.hid (fun w (h : Rd B w g M (d :: l2) low n size fin) => follow_far (c := c) (by omega) (by omega) (by omega) (by omega) h)
                have HE := Lib.hid (hR.trans (pkRun_far h1 (by rw [hcm]; exact c2) c3 (by rw [hpt]; exact c4)))
                clear hR c0 hc hdl hll hlm hM7 HMS hcm c1 c2 c3 c4 hl2l hl2 hpt hd
                go_wp2_with (first
                  | ((with_reducible refine HN.out.mono ?_); rintro e w2 ⟨rfl, hrd, hb⟩; have HR2 := Lib.hid hrd; clear hrd)
                  | ((with_reducible refine (HA.out _ HR2.out).mono ?_); rintro e w3 ⟨rfl, hb3⟩))
                exact ⟨rfl, HBW.out.trans (hb.trans hb3), .inr (by rw [HE.out]; exact ⟨by decide, rfl, rfl⟩)⟩
            · have hnil : l = [] := by rw [hl]; exact List.drop_eq_nil_of_le (by omega)
              clear hl
              subst hnil
              have HA := Lib.hid (fun w (h : Rd B w g M [] low n size fin) => follow_short (c := c) h)
              have HE := Lib.hid (hR.trans (pkRun_half h1 (by rw [hcm]; exact c2) c3))
              clear hR c0 hc hdl hll hlm hM7 HMS hcm c1 c2 c3
              go_wp2_with (first
                | ((with_reducible refine HN.out.mono ?_); rintro e w2 ⟨rfl, hrd, hb⟩; have HR2 := Lib.hid hrd; clear hrd)
                | ((with_reducible refine (HA.out _ HR2.out).mono ?_); rintro e w3 ⟨rfl, hb3⟩))
              exact ⟨rfl, HBW.out.trans (hb.trans hb3), .inr (by rw [HE.out]; exact ⟨by decide, rfl, rfl⟩)⟩
    · have hnil : m.drop p = [] := List.drop_eq_nil_of_le (by omega)
      rw [hnil] at h
      have HN := Lib.hid (num_no h)
      have HE := Lib.hid (hR.trans (pkRun_out h1))
      have HBW := Lib.hid hbw
      clear h hnil h1 hR hms hbw
      go_wp2_with ((with_reducible refine HN.out.mono ?_); rintro e w2 ⟨rfl, hb⟩)
      exact ⟨rfl, HBW.out.trans hb, .inr (by rw [HE.out]; exact ⟨by decide, rfl, rfl⟩)⟩
end Go.Proofs.Ytnoabmkmnddkkaa
