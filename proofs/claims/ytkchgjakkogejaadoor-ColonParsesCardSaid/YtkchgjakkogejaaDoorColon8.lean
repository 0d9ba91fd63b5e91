/- Layer 8: colon.half. -/
import Derived.Test.YtkchgjakkogejaaDoorColon7
namespace Go.Proofs.YtkchgjakkogejaaDoor
open Go.RowKit Go
set_option linter.unusedVariables false
set_option maxRecDepth 100000
theorem drop_cons {ps : List (List UInt8)} {k : Nat} {p : List UInt8} (h : ps[k]? = some p) : ps.drop k = p :: ps.drop (k + 1) := by
  obtain ⟨h1, h2⟩ := List.getElem?_eq_some_iff.1 h
  rw [List.drop_eq_getElem_cons h1, h2]
set_option maxHeartbeats 4000000 in
theorem half_any (s : ByteArray) (last : Bool) (w : World) (hs : s.size ≤ 4000) (hP : P10 w) :
    Calls Tryd.prog 27 #[.string s, .bool last] w fun e w' => HalfP last s.data.toList w e w' := by
  by_cases h0 : s.data.toList = []
  · have hg : sideC last s.data.toList = some [] := by unfold sideC; rw [if_pos h0]
    have h0' : s.toList.isEmpty = true := by rw [ByteArray.toList_eq, h0]; rfl
    have HG := Lib.hid hg
    clear hg h0
    go_enter Tryd.func27, Tryd.ntmps27
    go_wp2
    go_ret2
    exact .inr ⟨[], HG.out, ⟨none, 0, rfl, ⟨rfl, fun h => absurd h (by decide)⟩, by decide⟩, Below.refl _ _⟩
  · have h0' : s.toList.isEmpty = false := by rw [ByteArray.toList_eq]; simpa using h0
    have hg : sideC last s.data.toList = sideP last (cutXN 58 s.data.toList 7) := by unfold sideC; rw [if_neg h0]
    have hsp := splitC_any s 8 w hs (by decide) (by decide)
    have hmem := cutXN_mem 58 s.data.toList 7
    have hlen := cutXN_len 58 s.data.toList 7
    rw [← Lib.size_eq] at hmem
    simp only [show 8 - 1 = 7 from rfl, Int.cast_ofNat_Int] at hsp
    obtain ⟨ps, hps⟩ : ∃ ps, ps = cutXN 58 s.data.toList 7 := ⟨_, rfl⟩
    rw [← hps] at hsp hmem hlen hg
    obtain ⟨R, hR⟩ : ∃ R, R = sideC last s.data.toList := ⟨_, rfl⟩
    have hHP : ∀ e w', (R = none ∧ e = .returned (.tuple #[.slice none 0 0, .bool false]) ∧ Below w.heap.size w w') ∨ (∃ m, R = some m ∧ HalfY m w.heap.size w e w') → HalfP last s.data.toList w e w' := by
      intro e w' h
      rw [hR] at h
      exact h
    rw [← hR] at hg
    have HSP := Lib.hid hsp
    have HH := Lib.hid hHP
    have HG := Lib.hid hg
    have HM := Lib.hid hmem
    have HP := Lib.hid hP
    clear hps hsp hg h0 hR hHP hmem hP
    go_enter Tryd.func27, Tryd.ntmps27
    go_wp2_with fail
    with_reducible refine HSP.out.mono ?_
    rintro e w1 ⟨C, hC, rfl, rfl⟩
    have HC := Lib.hid hC
    clear hC HSP
    have hb0 : Below w.heap.size w (w.alloc (.cells C 9)) := (Below.refl _ w).alloc (Nat.le_refl _) _
    have hcell : ∀ (j : Nat) (x : List UInt8), ps[j]? = some x → (w.alloc (.cells C 9)).cell? ⟨w.heap.size, j, none⟩ = some (strV x) := fun j x hx => by
      rw [World.cell?_alloc_mark]; exact HC.out j x hx
    have hP1 : P10 (w.alloc (.cells C 9)) := HP.out.below (Nat.le_refl _) hb0
    have hg1 : w.heap.size < (w.alloc (.cells C 9)).heap.size := by simp
    obtain ⟨gs, hgs⟩ : ∃ gs, gs = w.heap.size := ⟨_, rfl⟩
    have hb0' : Below gs w (w.alloc (.cells C 9)) := by rw [hgs]; exact hb0
    have HGS := Lib.hid hgs
    rw [← hgs] at hcell hg1 ⊢
    generalize w.alloc (.cells C 9) = w1 at hcell hP1 hg1 hb0' ⊢
    have HCL := Lib.hid hcell
    have HP1 := Lib.hid hP1
    have HB0 := Lib.hid hb0'
    clear hcell hP1 hb0 hb0' HP HC hgs
    go_wp2_with fail
    go_loopw [6, 18] (fun v i wr => ∃ (k : Nat) (acc : List Nat), i = .int .i64 k ∧ k ≤ ps.length ∧ wr.ownsRow w1.heap.size 5 1 v (2 * acc.length) (intVs .u8 (bInts (bytesG acc))) ∧ R = (sideP last (ps.drop k)).map (acc ++ ·) ∧ acc.length ≤ 2 * k ∧ Below w1.heap.size w1 wr) (fun _ i _ => ps.length - (intOf i).toNat)
    case atStart => exact ⟨0, [], rfl, Nat.zero_le _, World.ownsRow_nil _ _ _ _, by rw [HG.out, List.drop_zero]; simp, Nat.zero_le _, Below.refl _ _⟩
    case round =>
      obtain ⟨k, acc, rfl, hk, hown, hr, hal, HB⟩ := hrel
      have HO := Lib.hid hown
      have HR := Lib.hid hr
      clear hown hr HG
      by_cases hlt : k < ps.length
      · obtain ⟨p, hp⟩ : ∃ p, ps[k]? = some p := ⟨_, List.getElem?_eq_getElem hlt⟩
        have h1 := HCL.out k p hp
        rw [← HB.cell (p := ⟨gs, k, none⟩) hg1] at h1
        unfold strV at h1
        have hpl := HM.out p (List.mem_of_getElem? hp)
        have hdr := drop_cons hp
        have hrest : ps.drop (k + 1) = [] ↔ k + 1 = ps.length := by rw [List.drop_eq_nil_iff]; omega
        cases hgp : groupE p with
        | some n =>
          have hgc := groupY_any p n wr (by omega) hgp
          have hnew : R = (sideP last (ps.drop (k + 1))).map ((acc ++ [n]) ++ ·) := by
            rw [HR.out, hdr, sideP_go hgp, Option.map_map]
            congr 1
            funext x
            simp
          have HGC := Lib.hid hgc
          have HN := Lib.hid hnew
          clear hgc hnew hdr hrest hgp hp
          go_wp2_with fail
          with_reducible refine HGC.out.mono ?_
          rintro e w2 ⟨⟨A, c, rfl, hi⟩, hb⟩
          have HI := Lib.hid hi
          have HB2 := HB.trans (hb.mono HB.size)
          have hown2 := ownsRow_below HO.out hb
          clear hi HGC
          go_wp2_with (at_builtin; refine wpList_appInts rfl (.tmp 47) (.tmp 48) 47 5 rfl Tryd.underlying47 elemB rfl w1.heap.size _ (2 * acc.length) 2 c A .u8 _ (bInts [byN n 8, byN n 0]) rfl rfl (by decide) HI.out hown2 (by decide) (by omega) (by omega) HB2.size ?_)
          intro v3 w3 hown3 hb3
          have hown4 := own_bytes (acc := acc) (more := [n]) hown3 rfl rfl rfl
          have HB3 := HB2.trans hb3
          have HO4 := Lib.hid hown4
          clear hown3 hown4 hown2
          go_wp2_with fail
          go_roundw
          case rel => exact ⟨k + 1, acc ++ [n], by go_num, by omega, HO4.out, HN.out, by simp; omega, HB3⟩
          case measure => simp [intOf]; omega
        | none =>
          have hgc := groupN_any p wr (by omega) hgp
          have HGC := Lib.hid hgc
          by_cases hcl : last = true ∧ k + 1 = ps.length
          · obtain ⟨rfl, hc2⟩ := hcl
            have hPr : P10 wr := HP1.out.below (Nat.le_refl _) HB
            have hnil := hrest.2 hc2
            have t38 : ((k : Int) == (ps.length : Int) - 1) = true := by rw [beq_iff_eq]; omega
            cases hf : fourE p with
            | some b =>
              have hb4 := four_len hf
              have hnew : R = (sideP true (ps.drop (k + 1))).map ((acc ++ grp2 b) ++ ·) := by
                rw [HR.out, hdr, hnil, sideP_four hgp hf]
                simp [sideP]
              have hgb := grp2_bytes b hb4
              have HF := Lib.hid (fun wr (h : P10 wr) => fourY_any p b wr (by omega) h hf)
              have HN := Lib.hid hnew
              have HGB := Lib.hid hgb
              have HB4 := Lib.hid hb4
              clear hgc hnew hdr hrest hgp hp hc2 hnil hf hgb hb4
              go_wp2_with fail
              with_reducible refine HGC.out.mono ?_
              rintro e w2 ⟨rfl, hb⟩
              have HB2 := HB.trans (hb.mono HB.size)
              have hown2 := ownsRow_below HO.out hb
              have hP2 : P10 w2 := hPr.below (Nat.le_refl _) hb
              have HF2 := Lib.hid (HF.out w2 hP2)
              clear HGC HF hPr hP2
              go_wp2_with fail
              with_reducible refine HF2.out.mono ?_
              rintro e w3 ⟨⟨A, rfl, hi⟩, hb'⟩
              have HI := Lib.hid hi
              have HB3 := HB2.trans (hb'.mono HB2.size)
              have hown3 := ownsRow_below hown2 hb'
              clear hi HF2 hown2
              go_wp2_with (at_builtin; refine wpList_appInts rfl (.tmp 47) (.tmp 48) 47 5 rfl Tryd.underlying47 elemB rfl w1.heap.size _ (2 * acc.length) 4 16 A .u8 _ (bInts b) rfl rfl (by decide) HI.out hown3 (by decide) (by omega) (by omega) HB3.size ?_)
              intro v4 w4 hown4 hb4
              have hown5 := own_bytes (acc := acc) (more := grp2 b) hown4 HGB.out rfl (by rw [HB4.out])
              have HB5 := HB3.trans hb4
              have HO5 := Lib.hid hown5
              clear hown3 hown4 hown5
              go_wp2_with fail
              go_roundw
              case rel => exact ⟨k + 1, acc ++ grp2 b, by go_num, by omega, HO5.out, HN.out, by simp [grp2]; omega, HB5⟩
              case measure => simp [intOf]; omega
            | none =>
              have hno : R = none := by
                rw [HR.out, hdr, sideP_no hgp (.inr hf)]
                rfl
              have HNO := Lib.hid hno
              have HF := Lib.hid (fun wr (h : P10 wr) => fourN_any p wr (by omega) h hf)
              clear hgc hno hdr hrest hgp hp hc2 hnil hf
              go_wp2_with fail
              with_reducible refine HGC.out.mono ?_
              rintro e w2 ⟨rfl, hb⟩
              have HB2 := HB.trans (hb.mono HB.size)
              have hP2 : P10 w2 := hPr.below (Nat.le_refl _) hb
              have HF2 := Lib.hid (HF.out w2 hP2)
              clear HGC HF hPr hP2
              go_wp2_with fail
              with_reducible refine HF2.out.mono ?_
              rintro e w3 ⟨⟨A, rfl⟩, hb'⟩
              have HB3 := HB2.trans (hb'.mono HB2.size)
              clear HF2
              go_wp2_with fail
              go_ret2
              exact HH.out _ _ (.inl ⟨HNO.out, rfl, by rw [← HGS.out]; exact HB0.out.trans (HB3.mono (Nat.le_of_lt hg1))⟩)
          · have hno : R = none := by
              rw [HR.out, hdr, sideP_no hgp (.inl (fun h => hcl ⟨h.1, hrest.1 h.2⟩))]
              rfl
            have HNO := Lib.hid hno
            cases last with
            | false =>
              clear hgc hno hdr hrest hgp hp hcl
              go_wp2_with fail
              with_reducible refine HGC.out.mono ?_
              rintro e w2 ⟨rfl, hb⟩
              have HB2 := HB.trans (hb.mono HB.size)
              clear HGC
              go_wp2_with fail
              go_ret2
              exact HH.out _ _ (.inl ⟨HNO.out, rfl, by rw [← HGS.out]; exact HB0.out.trans (HB2.mono (Nat.le_of_lt hg1))⟩)
            | true =>
              have t38 : ((k : Int) == (ps.length : Int) - 1) = false := by
                rw [beq_eq_false_iff_ne]
                intro e
                exact hcl ⟨rfl, by omega⟩
              clear hgc hno hdr hrest hgp hp hcl
              go_wp2_with fail
              with_reducible refine HGC.out.mono ?_
              rintro e w2 ⟨rfl, hb⟩
              have HB2 := HB.trans (hb.mono HB.size)
              clear HGC
              go_wp2_with fail
              go_ret2
              exact HH.out _ _ (.inl ⟨HNO.out, rfl, by rw [← HGS.out]; exact HB0.out.trans (HB2.mono (Nat.le_of_lt hg1))⟩)
      · obtain rfl : k = ps.length := by omega
        have hfin : R = some acc := by
          rw [HR.out, List.drop_length]
          simp [sideP]
        have HF := Lib.hid hfin
        clear hfin HR
        obtain ⟨A, c, rfl, hi⟩ := IntsAt.of_own HO.out
        have HI := Lib.hid hi
        clear hi HO
        go_wp2_with fail
        go_ret2
        exact HH.out _ _ (.inr ⟨acc, HF.out, ⟨A, c, rfl, HI.out, by omega⟩, by rw [← HGS.out]; exact HB0.out.trans (HB.mono (Nat.le_of_lt hg1))⟩)
end Go.Proofs.YtkchgjakkogejaaDoor
