import Derived.Test.YtkgnhdebphaknaaDoorPuny12
import Derived.Test.YtkgnhdebphaknaaDoorMath03d
namespace Go.Proofs.YtkgnhdebphaknaaDoor
open Go.RowKit Go
set_option linter.unusedVariables false
theorem own_grown {w w' : World} {B e n g : Nat} {v : Value} {xs : List Value} (h : w.ownsRow B e 1 v n xs) (hne : v.ownBlock ≠ some g) (hg : w.grownBy w' (some g)) : w'.ownsRow B e 1 v n xs := by
  refine ⟨h.1, ?_⟩
  rcases h.2 with h0 | ⟨k, cap, cur, hv, hB, hk, hr⟩
  · exact .inl h0
  · refine .inr ⟨k, cap, cur, hv, hB, ?_, hr⟩
    rw [hg.block k (Array.getElem?_eq_some_iff.1 hk).1 (by rintro e; exact hne (by rw [hv, ← e]; rfl))]
    exact hk
theorem drop_ba (s : ByteArray) (k : Nat) (h : k ≤ s.size) : (s.extract k s.size).data.toList = s.data.toList.drop k := by
  rw [Lib.extract_eq]
  simp
  rw [List.take_of_length_le]
  simp
def restOf (w : World) (g : Nat) : Nat := match w.cell? ⟨g, 0, none⟩ with
  | some (.string r) => r.size
  | _ => 0
theorem restOf_rd {w : World} {B g : Nat} {r : ByteArray} {st : Ds} (h : Rd w B g r st) : restOf w g = r.size := by
  obtain ⟨v, hat, _⟩ := h
  have := hat.cells 0 rfl
  unfold restOf
  rw [this]
  rfl
/-- what reading hands back: the points, or none of them and why -/
def DecP (q : IntKind) (s : List UInt8) (w : World) (e : Ending) (w' : World) : Prop :=
  Below w.heap.size w w' ∧ ∃ A c, e = .returned (.tuple #[.slice A (decE s).1.length c, .int .i64 (decE s).2]) ∧ IntsAt w' q A (decE s).1.length (decE s).1
theorem decP_no {q : IntKind} {s : List UInt8} {w w' : World} {x : Int} (hb : Below w.heap.size w w') (h : decE s = ([], x)) : DecP q s w (.returned (.tuple #[.slice none 0 0, .int .i64 x])) w' :=
  ⟨hb, none, 0, by rw [h]; rfl, by rw [h]; exact ⟨rfl, fun h => absurd h (by simp)⟩⟩
theorem decP_yes {q : IntKind} {s : List UInt8} {w w' : World} {l : List Int} {A : Option Addr} {c : Nat} (hb : Below w.heap.size w w') (h : decE s = (l, 0)) (ha : IntsAt w' q A l.length l) : DecP q s w (.returned (.tuple #[.slice A l.length c, .int .i64 0])) w' :=
  ⟨hb, A, c, by rw [h], by rw [h]; exact ha⟩
theorem lastNo_any (s : ByteArray) (w : World) (hs : s.size ≤ 9223372036854775806) (h : hyf s.data.toList = 0) : Calls Tryd.prog 46 #[.string s, .int .u8 45] w fun e w' => e = .returned (.int .i64 (-1)) ∧ w = w' := by
  have := last_any s w hs
  rw [h] at this
  exact this
theorem lastYes_any (s : ByteArray) (j : Nat) (w : World) (hs : s.size ≤ 9223372036854775806) (h : hyf s.data.toList = j + 1) : Calls Tryd.prog 46 #[.string s, .int .u8 45] w fun e w' => e = .returned (.int .i64 (j : Int)) ∧ w = w' := by
  have := last_any s w hs
  rw [h] at this
  have e : ((j + 1 : Nat) : Int) - 1 = (j : Int) := by omega
  rw [e] at this
  exact this
set_option maxRecDepth 100000 in
set_option maxHeartbeats 4000000 in
theorem decode_any (s : ByteArray) (w : World) (hs : s.size ≤ 9223372036854775806) : Calls Tryd.prog 35 #[.string s] w (DecP .i32 s.data.toList w) := by
  have hsl : s.data.toList.length = s.size := by simp
  have HSL := Lib.hid hsl
  clear hsl
  by_cases hbig : 32768 < s.size
  · have he := decE_long (s := s.data.toList) (by rw [HSL.out]; exact hbig)
    have HE := Lib.hid he
    clear he
    go_enter Tryd.func35, Tryd.ntmps35
    go_wp2
    go_ret2
    exact decP_no (Below.refl _ _) HE.out
  have hle := hyf_le s.data.toList
  rw [HSL.out] at hle
  obtain ⟨H, hH⟩ : ∃ H, H = hyf s.data.toList := ⟨_, rfl⟩
  rw [← hH] at hle
  have HH := Lib.hid hH
  by_cases h0 : H = 0
  · have hk := fun w => lastNo_any s w hs (by rw [← hH, h0])
    have HK := Lib.hid hk
    subst h0
    clear hk hH
    have hpl : (s.extract 0 (max (-1 : Int) 0).toNat).data.toList = preL s.data.toList := by
      unfold preL
      rw [← HH.out, Lib.extract_eq]
      simp
      left
      omega
    have hps : (s.extract 0 (max (-1 : Int) 0).toNat).size ≤ 40000 := by rw [ByteArray.size_extract]; omega
    have hbas := basic_any (s.extract 0 (max (-1 : Int) 0).toNat) w hps
    rw [hpl] at hbas
    have HBAS := Lib.hid hbas
    clear hpl hps hbas
    go_enter Tryd.func35, Tryd.ntmps35
    go_wp2_with ((with_reducible refine (HK.out _).mono ?_); rintro e w' ⟨rfl, rfl⟩)
    ((with_reducible refine HBAS.out.mono ?_))
    rintro e w1 (⟨hb1, rfl, HB1⟩ | ⟨hb1, hm1, rfl, HB1⟩ | ⟨hb1, hm1, ha1, v, rfl, hown, HB1⟩)
    · have he := decE_big (s := s.data.toList) (by rw [HSL.out]; exact hbig) hb1
      have HE := Lib.hid he
      clear he hb1
      go_wp2
      go_ret2
      exact decP_no HB1 HE.out
    · have he := decE_many (s := s.data.toList) (by rw [HSL.out]; exact hbig) hb1 hm1
      have HE := Lib.hid he
      clear he hb1 hm1
      go_wp2
      go_ret2
      exact decP_no HB1 HE.out
    · have he := decE_go (s := s.data.toList) (by rw [HSL.out]; exact hbig) hb1 (by omega)
      have HE := Lib.hid he
      have hdi := dInv_start (l := preL s.data.toList) (by omega) ha1
      have HDI := Lib.hid hdi
      obtain ⟨A, c, rfl⟩ := own_slice hown
      have HOWN := Lib.hid hown
      clear he hb1 ha1 hdi hown
      have hwr : Rd (w1.alloc (.cells (rdC s (.slice A (preL s.data.toList).length c) 128 0 72 true) 60)) w.heap.size w1.heap.size (s) (ptsL (preL s.data.toList), 128, 0, 72, true) := ⟨_, At.new _ _ _, by
        show World.ownsRow _ _ _ _ _ (ptsL (preL s.data.toList)).length _
        rw [ptsL_len]
        exact HOWN.out.alloc _⟩
      have hbw : Below w.heap.size w (w1.alloc (.cells (rdC s (.slice A (preL s.data.toList).length c) 128 0 72 true) 60)) := HB1.alloc HB1.size _
      have hrl : (s).data.toList = s.data.toList.drop (hyf s.data.toList) := by
        rw [← HH.out]; rfl
      have hrs : (s).size ≤ s.size := by omega
      have HG := Lib.hid (show w.heap.size ≤ w1.heap.size from HB1.size)
      have hst : Hid (decE s.data.toList = decL s.size (s).data.toList (ptsL (preL s.data.toList), 128, 0, 72, true)) := Lib.hid (HE.out.trans (by rw [HSL.out]; exact congrArg (fun z => decL s.size z (ptsL (preL s.data.toList), 128, 0, 72, true)) hrl.symm))
      have HWR := Lib.hid hwr
      have HBW := Lib.hid hbw
      have HRS := Lib.hid hrs
      clear hwr hbw hrl hrs
      go_wp2_with fail
      go_loopw [32] (fun _ wr => ∃ (f : Nat) (rr : ByteArray) (st : Ds), Rd wr w.heap.size w1.heap.size rr st ∧ Hid (DInv st) ∧ Below w.heap.size w wr ∧ Hid (decE s.data.toList = decL f rr.data.toList st) ∧ Hid (rr.size ≤ f) ∧ rr.size ≤ s.size) (fun _ wr => restOf wr w1.heap.size)
      case atStart => exact ⟨s.size, _, _, HWR.out, HDI, HBW.out, hst, HRS, HRS.out⟩
      case round =>
        obtain ⟨f, rr, ⟨pts, n, a, b, fst⟩, hRd, hI, HB, hdec, hf, hrs⟩ := hrel
        have hro := restOf_rd hRd
        have HRO := Lib.hid hro
        have HRD := Lib.hid hRd
        obtain ⟨v, hat, hown⟩ := hRd
        simp only at hat hown hI hdec
        have b0 : 0 ≤ b := hI.out.b0
        have b1 : b ≤ 1099511627776 := hI.out.b1
        have c0 : wr.cell? ⟨w1.heap.size, 0, none⟩ = some (.string rr) := hat.cells 0 rfl
        clear hro
        by_cases he : rr.toList.isEmpty = true
        · have hnl : rr.data.toList = [] := by rw [ByteArray.toList_eq] at he; simpa using he
          have hd := hdec.out
          rw [hnl, decL_end] at hd
          have HD := Lib.hid hd
          have c1 := hat.cells 1 rfl
          obtain ⟨A2, c2, rfl, hia⟩ := IntsAt.of_own hown
          have HIA := Lib.hid hia
          clear hnl hd hat hown hia
          go_wp2
          go_ret2
          exact decP_yes HB HD.out HIA.out
        · have he' : rr.toList.isEmpty = false := by simpa using he
          have hrne : rr.data.toList ≠ [] := by
            rw [ByteArray.toList_eq] at he'
            intro h
            rw [h] at he'
            simp at he'
          have HRNE := Lib.hid hrne
          have hnum := rnumber_any w1.heap.size rr v n a b fst wr hat (by omega) b0 b1
          have HNUM := Lib.hid hnum
          have hown' := fun (w' : World) (h : wr.grownBy w' (some w1.heap.size)) => own_grown hown (hat.own_ne hown (by decide)) h
          have HOG := Lib.hid hown'
          clear he hrne hnum hat hown hown'
          go_wp2_with ((with_reducible refine HNUM.out.mono ?_))
          rintro e w2 ⟨hgr, r', hat2, (⟨hx, rfl⟩ | ⟨hx, rfl, hr'⟩)⟩
          · have hd := hdec.out.trans (decL_num (x := (numb b rr.data.toList 1 0 1).1) (by simpa using hf.out) HRNE.out rfl hx)
            have HD := Lib.hid hd
            obtain ⟨x, hxx⟩ : ∃ x, x = (numb b rr.data.toList 1 0 1).1 := ⟨_, rfl⟩
            rw [← hxx] at hx HD
            rw [← hxx]
            have x1 : (x == 0) = false := by simpa using hx
            have x2 : (x != 0) = true := by simpa using hx
            have HB2 := HB.trans (below_only hgr HG.out HB.size)
            clear hd hxx hx hat2 hgr
            go_wp2
            go_ret2
            exact decP_no HB2 HD.out
          · have hless := numb_less b rr.data.toList 1 0 1 (by omega) (by omega) (by omega)
            obtain ⟨d, hd⟩ : ∃ d, d = (numb b rr.data.toList 1 0 1).2.1 := ⟨_, rfl⟩
            have hnn : numb b rr.data.toList 1 0 1 = (0, d, r'.data.toList) := Prod.ext hx (Prod.ext hd.symm hr'.symm)
            rw [← hd] at hless
            rw [← hd]
            have d0 := hless.1
            have d1 := hless.2.1
            have HB2 := HB.trans (below_only hgr HG.out HB.size)
            have hput := rput_any w.heap.size w1.heap.size r' d pts n a b fst w2 ⟨v, hat2, HOG.out w2 hgr⟩ hI.out HG.out (HB2.size) d0 d1
            have HPUT := Lib.hid hput
            have HNN := Lib.hid hnn
            clear hless hnn hx hr' hd hat2 hput
            go_wp2_with ((with_reducible refine HPUT.out.mono ?_))
            rintro e w3 (⟨x, hx, hp, rfl, hb3⟩ | ⟨st', hp, rfl, hRd3, hI3, hb3⟩)
            · have hpp : putS d (pts, n, a, b, fst) = (x, (putS d (pts, n, a, b, fst)).2) := Prod.ext hp rfl
              have hd := hdec.out.trans (decL_put (by simpa using hf.out) HRNE.out HNN.out hpp hx)
              have HD := Lib.hid hd
              have x2 : (x != 0) = true := by simpa using hx
              have HB3 := HB2.trans hb3
              clear hd hx hp hpp
              go_wp2
              go_ret2
              exact decP_no HB3 HD.out
            · obtain ⟨f', hd, hf2, hlt⟩ := decL_go (by simpa using hf.out) HRNE.out HNN.out hp
              have HD := Lib.hid (hdec.out.trans hd)
              have HF2 : Hid (r'.size ≤ f') := Lib.hid (by simpa using hf2)
              have hlt2 : r'.size < rr.size := by simpa using hlt
              have HB3 := HB2.trans hb3
              have HI3 := Lib.hid hI3
              have HRO3 := Lib.hid (restOf_rd hRd3)
              have HRD3 := Lib.hid hRd3
              clear hd hp hf2 hlt hI3 hRd3
              go_wp2
              go_roundw
              case rel => exact ⟨f', r', st', HRD3.out, HI3, HB3, HD, HF2, by omega⟩
              case measure => simp only [HRO.out, HRO3.out]; omega
  · obtain ⟨j, rfl⟩ : ∃ j, H = j + 1 := ⟨H - 1, by omega⟩
    have hk := fun w => lastYes_any s j w hs hH.symm
    have HK := Lib.hid hk
    clear hk hH h0
    have hpl : (s.extract 0 j).data.toList = preL s.data.toList := by
      unfold preL
      rw [← HH.out, Lib.extract_eq]
      first | done | simp
    have hps : (s.extract 0 j).size ≤ 40000 := by rw [ByteArray.size_extract]; omega
    have hbas := basic_any (s.extract 0 j) w hps
    rw [hpl] at hbas
    have HBAS := Lib.hid hbas
    clear hpl hps hbas
    go_enter Tryd.func35, Tryd.ntmps35
    go_wp2_with ((with_reducible refine (HK.out _).mono ?_); rintro e w' ⟨rfl, rfl⟩)
    ((with_reducible refine HBAS.out.mono ?_))
    rintro e w1 (⟨hb1, rfl, HB1⟩ | ⟨hb1, hm1, rfl, HB1⟩ | ⟨hb1, hm1, ha1, v, rfl, hown, HB1⟩)
    · have he := decE_big (s := s.data.toList) (by rw [HSL.out]; exact hbig) hb1
      have HE := Lib.hid he
      clear he hb1
      go_wp2
      go_ret2
      exact decP_no HB1 HE.out
    · have he := decE_many (s := s.data.toList) (by rw [HSL.out]; exact hbig) hb1 hm1
      have HE := Lib.hid he
      clear he hb1 hm1
      go_wp2
      go_ret2
      exact decP_no HB1 HE.out
    · have he := decE_go (s := s.data.toList) (by rw [HSL.out]; exact hbig) hb1 (by omega)
      have HE := Lib.hid he
      have hdi := dInv_start (l := preL s.data.toList) (by omega) ha1
      have HDI := Lib.hid hdi
      obtain ⟨A, c, rfl⟩ := own_slice hown
      have HOWN := Lib.hid hown
      clear he hb1 ha1 hdi hown
      have hwr : Rd (w1.alloc (.cells (rdC (s.extract (j + 1) s.size) (.slice A (preL s.data.toList).length c) 128 0 72 true) 60)) w.heap.size w1.heap.size (s.extract (j + 1) s.size) (ptsL (preL s.data.toList), 128, 0, 72, true) := ⟨_, At.new _ _ _, by
        show World.ownsRow _ _ _ _ _ (ptsL (preL s.data.toList)).length _
        rw [ptsL_len]
        exact HOWN.out.alloc _⟩
      have hbw : Below w.heap.size w (w1.alloc (.cells (rdC (s.extract (j + 1) s.size) (.slice A (preL s.data.toList).length c) 128 0 72 true) 60)) := HB1.alloc HB1.size _
      have hrl : (s.extract (j + 1) s.size).data.toList = s.data.toList.drop (hyf s.data.toList) := by
        rw [← HH.out]; exact drop_ba s (j + 1) (by omega)
      have hrs : (s.extract (j + 1) s.size).size ≤ s.size := by rw [ByteArray.size_extract]; omega
      have HG := Lib.hid (show w.heap.size ≤ w1.heap.size from HB1.size)
      have hst : Hid (decE s.data.toList = decL s.size (s.extract (j + 1) s.size).data.toList (ptsL (preL s.data.toList), 128, 0, 72, true)) := Lib.hid (HE.out.trans (by rw [HSL.out]; exact congrArg (fun z => decL s.size z (ptsL (preL s.data.toList), 128, 0, 72, true)) hrl.symm))
      have HWR := Lib.hid hwr
      have HBW := Lib.hid hbw
      have HRS := Lib.hid hrs
      clear hwr hbw hrl hrs
      go_wp2_with fail
      go_loopw [32] (fun _ wr => ∃ (f : Nat) (rr : ByteArray) (st : Ds), Rd wr w.heap.size w1.heap.size rr st ∧ Hid (DInv st) ∧ Below w.heap.size w wr ∧ Hid (decE s.data.toList = decL f rr.data.toList st) ∧ Hid (rr.size ≤ f) ∧ rr.size ≤ s.size) (fun _ wr => restOf wr w1.heap.size)
      case atStart => exact ⟨s.size, _, _, HWR.out, HDI, HBW.out, hst, HRS, HRS.out⟩
      case round =>
        obtain ⟨f, rr, ⟨pts, n, a, b, fst⟩, hRd, hI, HB, hdec, hf, hrs⟩ := hrel
        have hro := restOf_rd hRd
        have HRO := Lib.hid hro
        have HRD := Lib.hid hRd
        obtain ⟨v, hat, hown⟩ := hRd
        simp only at hat hown hI hdec
        have b0 : 0 ≤ b := hI.out.b0
        have b1 : b ≤ 1099511627776 := hI.out.b1
        have c0 : wr.cell? ⟨w1.heap.size, 0, none⟩ = some (.string rr) := hat.cells 0 rfl
        clear hro
        by_cases he : rr.toList.isEmpty = true
        · have hnl : rr.data.toList = [] := by rw [ByteArray.toList_eq] at he; simpa using he
          have hd := hdec.out
          rw [hnl, decL_end] at hd
          have HD := Lib.hid hd
          have c1 := hat.cells 1 rfl
          obtain ⟨A2, c2, rfl, hia⟩ := IntsAt.of_own hown
          have HIA := Lib.hid hia
          clear hnl hd hat hown hia
          go_wp2
          go_ret2
          exact decP_yes HB HD.out HIA.out
        · have he' : rr.toList.isEmpty = false := by simpa using he
          have hrne : rr.data.toList ≠ [] := by
            rw [ByteArray.toList_eq] at he'
            intro h
            rw [h] at he'
            simp at he'
          have HRNE := Lib.hid hrne
          have hnum := rnumber_any w1.heap.size rr v n a b fst wr hat (by omega) b0 b1
          have HNUM := Lib.hid hnum
          have hown' := fun (w' : World) (h : wr.grownBy w' (some w1.heap.size)) => own_grown hown (hat.own_ne hown (by decide)) h
          have HOG := Lib.hid hown'
          clear he hrne hnum hat hown hown'
          go_wp2_with ((with_reducible refine HNUM.out.mono ?_))
          rintro e w2 ⟨hgr, r', hat2, (⟨hx, rfl⟩ | ⟨hx, rfl, hr'⟩)⟩
          · have hd := hdec.out.trans (decL_num (x := (numb b rr.data.toList 1 0 1).1) (by simpa using hf.out) HRNE.out rfl hx)
            have HD := Lib.hid hd
            obtain ⟨x, hxx⟩ : ∃ x, x = (numb b rr.data.toList 1 0 1).1 := ⟨_, rfl⟩
            rw [← hxx] at hx HD
            rw [← hxx]
            have x1 : (x == 0) = false := by simpa using hx
            have x2 : (x != 0) = true := by simpa using hx
            have HB2 := HB.trans (below_only hgr HG.out HB.size)
            clear hd hxx hx hat2 hgr
            go_wp2
            go_ret2
            exact decP_no HB2 HD.out
          · have hless := numb_less b rr.data.toList 1 0 1 (by omega) (by omega) (by omega)
            obtain ⟨d, hd⟩ : ∃ d, d = (numb b rr.data.toList 1 0 1).2.1 := ⟨_, rfl⟩
            have hnn : numb b rr.data.toList 1 0 1 = (0, d, r'.data.toList) := Prod.ext hx (Prod.ext hd.symm hr'.symm)
            rw [← hd] at hless
            rw [← hd]
            have d0 := hless.1
            have d1 := hless.2.1
            have HB2 := HB.trans (below_only hgr HG.out HB.size)
            have hput := rput_any w.heap.size w1.heap.size r' d pts n a b fst w2 ⟨v, hat2, HOG.out w2 hgr⟩ hI.out HG.out (HB2.size) d0 d1
            have HPUT := Lib.hid hput
            have HNN := Lib.hid hnn
            clear hless hnn hx hr' hd hat2 hput
            go_wp2_with ((with_reducible refine HPUT.out.mono ?_))
            rintro e w3 (⟨x, hx, hp, rfl, hb3⟩ | ⟨st', hp, rfl, hRd3, hI3, hb3⟩)
            · have hpp : putS d (pts, n, a, b, fst) = (x, (putS d (pts, n, a, b, fst)).2) := Prod.ext hp rfl
              have hd := hdec.out.trans (decL_put (by simpa using hf.out) HRNE.out HNN.out hpp hx)
              have HD := Lib.hid hd
              have x2 : (x != 0) = true := by simpa using hx
              have HB3 := HB2.trans hb3
              clear hd hx hp hpp
              go_wp2
              go_ret2
              exact decP_no HB3 HD.out
            · obtain ⟨f', hd, hf2, hlt⟩ := decL_go (by simpa using hf.out) HRNE.out HNN.out hp
              have HD := Lib.hid (hdec.out.trans hd)
              have HF2 : Hid (r'.size ≤ f') := Lib.hid (by simpa using hf2)
              have hlt2 : r'.size < rr.size := by simpa using hlt
              have HB3 := HB2.trans hb3
              have HI3 := Lib.hid hI3
              have HRO3 := Lib.hid (restOf_rd hRd3)
              have HRD3 := Lib.hid hRd3
              clear hd hp hf2 hlt hI3 hRd3
              go_wp2
              go_roundw
              case rel => exact ⟨f', r', st', HRD3.out, HI3, HB3, HD, HF2, by omega⟩
              case measure => simp only [HRO.out, HRO3.out]; omega
end Go.Proofs.YtkgnhdebphaknaaDoor
