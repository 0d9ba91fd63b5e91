/- Layer 8: the document's side. -/
import Derived.Test.YtkchgjakkogejaaDoorRef7
import Derived.Test.YtkchgjakkogejaaDoorRef8d
import Derived.Test.YtkchgjakkogejaaDoorRef8
import Derived.Test.YtkchgjakkogejaaDoorColon8
import Derived.Test.YtkchgjakkogejaaDoorMemOwn
namespace Go.Proofs.YtkchgjakkogejaaDoor
open Go.RowKit Go
set_option linter.unusedVariables false
set_option maxRecDepth 100000
theorem elemI : Elem1 Tryd.prog 3 (.int .i64 0) 8 := by unfold Elem1; kernel_rfl
def SideY (m : List Nat) (B : Nat) (w : World) (e : Ending) (w' : World) : Prop := (∃ A c, e = .returned (.tuple #[.slice A m.length c, .bool true]) ∧ IntsAt w' .i64 A m.length (gInts m) ∧ (A = none → c = 0)) ∧ Below B w w'
def SideR (last : Bool) (l : List UInt8) (w : World) (e : Ending) (w' : World) : Prop :=
  (sideE last l = none ∧ e = .returned (.tuple #[.slice none 0 0, .bool false]) ∧ Below w.heap.size w w') ∨ (∃ m, sideE last l = some m ∧ SideY m w.heap.size w e w')
theorem gInts_len (g : List Nat) : (gInts g).length = g.length := by simp [gInts]
theorem own_gInt {w : World} {B e n k : Nat} {v : Value} {acc : List Nat} (h : w.ownsRow B e 1 v n (intVs .i64 (gInts acc) ++ [.int .i64 (k : Int)])) : w.ownsRow B e 1 v n (intVs .i64 (gInts (acc ++ [k]))) := by
  have e : intVs .i64 (gInts (acc ++ [k])) = intVs .i64 (gInts acc) ++ [.int .i64 (k : Int)] := by simp [intVs, gInts]
  rw [e]; exact h
theorem of_own2 {w : World} {q : IntKind} {base e n : Nat} {v : Value} {l : List Int} (h : w.ownsRow base e 1 v n (intVs q l)) : ∃ A c, v = .slice A n c ∧ IntsAt w q A n l ∧ (A = none → c = 0) := by
  have hl : n = l.length := by have := h.1; simp [intVs] at this; omega
  rcases h.2 with ⟨rfl, h0⟩ | ⟨g, cap, cur, rfl, _, hg, _⟩
  · have : n = 0 := h0
    subst this
    exact ⟨none, 0, rfl, ⟨hl, fun h => absurd h (by omega)⟩, fun _ => rfl⟩
  · refine ⟨_, _, rfl, ⟨hl, fun h0 => ⟨g, 0, rfl, (Array.getElem?_eq_some_iff.1 hg).1, fun j hj => ?_⟩⟩, fun h => by cases h⟩
    rw [Nat.zero_add, h.cellAt j (by omega)]
    simp [intVs, hj]
theorem grp2_groups (ip : List UInt8) (h : ip.length = 16) : grp2 (ip.take 4) = [(groupsG ip).getD 0 0, (groupsG ip).getD 1 0] := by
  match ip, h with
  | [a0, a1, a2, a3, a4, a5, a6, a7, a8, a9, a10, a11, a12, a13, a14, a15], _ => rfl
theorem four_err {p : List UInt8} (h : (parseE p).err ≠ 0) : fourE p = none := by unfold fourE; rw [if_neg h]
theorem four_ok {p : List UInt8} (h : (parseE p).err = 0) : fourE p = some ((parseE p).ip.take 4) := by unfold fourE; rw [if_pos h]
set_option maxHeartbeats 4000000 in
theorem refSide_any (s : ByteArray) (last : Bool) (w : World) (hs : s.size ≤ 4000) :
    Calls Tryd.prog 30 #[.string s, .bool last] w fun e w' => SideR last s.data.toList w e w' := by
  by_cases h0 : s.data.toList = []
  · have hg : sideE last s.data.toList = some [] := by unfold sideE; rw [if_pos h0]
    have h0' : s.toList.isEmpty = true := by rw [ByteArray.toList_eq, h0]; rfl
    have HG := Lib.hid hg
    clear hg h0
    go_enter Tryd.func30, Tryd.ntmps30
    go_wp2
    go_ret2
    exact .inr ⟨[], HG.out, ⟨none, 0, rfl, ⟨rfl, fun h => absurd h (by decide)⟩, fun _ => rfl⟩, Below.refl _ _⟩
  · have h0' : s.toList.isEmpty = false := by rw [ByteArray.toList_eq]; simpa using h0
    have hg : sideE last s.data.toList = sideP last (cutX 58 s.data.toList) := by unfold sideE; rw [if_neg h0]
    have hpt := refParts08_any s w hs
    have hln := cutX_len 58 s.data.toList
    have hmem := fun p (h : p ∈ cutXN 58 s.data.toList s.data.toList.length) => cutXN_mem 58 s.data.toList _ p h
    rw [cutXN_all 58 s.data.toList s.data.toList.length hln] at hmem
    rw [← Lib.size_eq] at hln hmem
    obtain ⟨ps, hps⟩ : ∃ ps, ps = cutX 58 s.data.toList := ⟨_, rfl⟩
    rw [← hps] at hpt hmem hln hg
    obtain ⟨R, hR⟩ : ∃ R, R = sideE last s.data.toList := ⟨_, rfl⟩
    have hHP : ∀ e w', (R = none ∧ e = .returned (.tuple #[.slice none 0 0, .bool false]) ∧ Below w.heap.size w w') ∨ (∃ m, R = some m ∧ SideY m w.heap.size w e w') → SideR last s.data.toList w e w' := by
      intro e w' h
      rw [hR] at h
      exact h
    rw [← hR] at hg
    have HSP := Lib.hid hpt
    have HH := Lib.hid hHP
    have HG := Lib.hid hg
    have HM := Lib.hid hmem
    clear hps hpt hg h0 hR hHP hmem
    go_enter Tryd.func30, Tryd.ntmps30
    go_wp2_with fail
    with_reducible refine HSP.out.mono ?_
    rintro e w2 ⟨⟨A, c, rfl, hta⟩, hb⟩
    have HTA := Lib.hid hta
    have HB0 := Lib.hid hb
    have HW2 := hb.size
    clear hta hb HSP
    go_wp2_with fail
    go_loopw [6, 8] (fun v i wr => ∃ (k : Nat) (acc : List Nat), i = .int .i64 k ∧ k ≤ ps.length ∧ wr.ownsRow w2.heap.size 3 1 v acc.length (intVs .i64 (gInts acc)) ∧ R = (sideP last (ps.drop k)).map (acc ++ ·) ∧ acc.length ≤ 2 * k ∧ Below w2.heap.size w2 wr) (fun _ i _ => ps.length - (intOf i).toNat)
    case atStart => exact ⟨0, [], rfl, Nat.zero_le _, World.ownsRow_nil _ _ _ _, by rw [HG.out, List.drop_zero]; simp, Nat.zero_le _, Below.refl _ _⟩
    case round =>
      obtain ⟨k, acc, rfl, hk, hown, hr, hal, HB⟩ := hrel
      have HR := Lib.hid hr
      clear hr HG
      by_cases hlt : k < ps.length
      · obtain ⟨p, hp⟩ : ∃ p, ps[k]? = some p := ⟨_, List.getElem?_eq_getElem hlt⟩
        obtain ⟨bA, oA, rfl, hbA, hcell⟩ := HTA.out.2 (by omega)
        have h1 := hcell k hlt
        rw [← HB.cell (p := ⟨bA, oA + k, none⟩) hbA] at h1
        have hpe : ps[k] = p := (List.getElem?_eq_some_iff.1 hp).2
        rw [hpe] at h1
        unfold strV at h1
        have hpl := HM.out p (List.mem_of_getElem? hp)
        have hdr := drop_cons hp
        have hrest : ps.drop (k + 1) = [] ↔ k + 1 = ps.length := by rw [List.drop_eq_nil_iff]; omega
        have hgc := refGrp_any ⟨p.toArray⟩ wr (by show p.length ≤ 4000; omega)
        rw [show (⟨p.toArray⟩ : ByteArray).data.toList = p from rfl] at hgc
        cases hgp : groupE p with
        | some n =>
          rw [grpI_some hgp] at hgc
          have hnew : R = (sideP last (ps.drop (k + 1))).map ((acc ++ [n]) ++ ·) := by
            rw [HR.out, hdr, sideP_go hgp, Option.map_map]
            congr 1
            funext x
            simp
          have HGC := Lib.hid hgc
          have HN := Lib.hid hnew
          clear hgc hnew hdr hrest hgp hp hpe hcell
          go_wp2_with (first
            | ((with_reducible refine HGC.out.mono ?_); rintro e w3 ⟨rfl, hq⟩; subst hq)
            | (at_builtin; refine wpList_app1 rfl (.tmp 30) (.tmp 32) 51 3 rfl Tryd.underlying51 elemI rfl w2.heap.size _ acc.length _ _ rfl rfl hown rfl (by omega) (by omega) HB.size ?_; intro v' w' hown' HB' _))
          have ho := own_gInt hown'
          have HBB := HB.trans HB'
          clear hown' hown
          go_wp2_with fail
          go_roundw
          case rel => exact ⟨k + 1, acc ++ [n], by go_num, by omega, by rw [List.length_append]; exact ho, HN.out, by simp; omega, HBB⟩
          case measure => simp [intOf]; omega
        | none =>
          rw [grpI_none hgp] at hgc
          have HGC := Lib.hid hgc
          have hpc := refParse07_any ⟨p.toArray⟩ wr (by show p.length ≤ 4000; omega)
          rw [show (⟨p.toArray⟩ : ByteArray).data.toList = p from rfl] at hpc
          simp only [adTup] at hpc
          have hipl := parseE_len p
          have hferr := four_err (p := p)
          have hfok := four_ok (p := p)
          obtain ⟨r, hr⟩ : ∃ r, r = parseE p := ⟨_, rfl⟩
          rw [← hr] at hpc hipl hferr hfok
          obtain ⟨fam, ip, er⟩ := r
          simp only at hpc hipl hferr hfok
          have hsz := adSize fam ip 0 hipl
          have HPC := Lib.hid hpc
          clear hgc hpc hr hp hpe hcell
          by_cases he : er = 0
          · have t43 : (er != 0) = false := by simpa using he
            cases last with
            | false =>
              have hno : R = none := by
                rw [HR.out, hdr, sideP_no hgp (.inl (fun h => by cases h.1))]
                rfl
              have HNO := Lib.hid hno
              clear hno hdr hrest hgp hferr hfok he
              go_wp2_with (first
                | ((with_reducible refine HGC.out.mono ?_); rintro e w3 ⟨rfl, hq⟩; subst hq)
                | ((with_reducible refine HPC.out.mono ?_); rintro e w3 ⟨rfl, hb⟩; have S := (Ats.of_below HB HB.size).call hb; clear hb)
                | ((with_reducible show wpList _ _ _ (Oper.mk (some 10) (Op.alloc _) _ _ _ _ :: _) _ _); refine wpList_allocS rfl _ rfl _ adZero S ?_; clear S; intro ga w1 S)
                | ((with_reducible show wpList _ _ _ (Oper.mk _ (Op.store _ (Operand.tmp 10) _) _ _ _ _ :: _) _ _); refine wpList_storeS rfl _ _ _ rfl S _ rfl _ rfl 0 _ _ rfl hsz (by exact ad_sizes _ _ _ _ _ _ rfl hipl) (by exact adCs_one _ _ _) ?_; clear S; intro w1 S; (first | simp only [List.set_cons_zero] at S | simp only [List.set_cons_succ, List.set_cons_zero] at S | skip)))
              go_ret2
              exact HH.out _ _ (.inl ⟨HNO.out, rfl, HB0.out.trans (S.below.mono HW2)⟩)
            | true =>
              by_cases hkl : k + 1 = ps.length
              · have hfb := hfok he
                have hnew : R = (sideP true (ps.drop (k + 1))).map ((acc ++ [(groupsG ip).getD 0 0] ++ [(groupsG ip).getD 1 0]) ++ ·) := by
                  rw [HR.out, hdr, hrest.2 hkl, sideP_four hgp hfb, grp2_groups ip hipl]
                  simp [sideP]
                have HN := Lib.hid hnew
                have g0 : ∀ w, Calls Tryd.prog 20 #[adV fam ip 0, .int .i64 0] w fun e w' => e = .returned (.int .i64 ((groupsG ip).getD 0 0 : Nat)) ∧ Below w.heap.size w w' := fun w => refGroup_any fam 0 ip 0 w hipl (by decide)
                have g1 : ∀ w, Calls Tryd.prog 20 #[adV fam ip 0, .int .i64 1] w fun e w' => e = .returned (.int .i64 ((groupsG ip).getD 1 0 : Nat)) ∧ Below w.heap.size w w' := fun w => refGroup_any fam 0 ip 1 w hipl (by decide)
                have G0 := Lib.hid g0
                have G1 := Lib.hid g1
                have t53 : decide ((k : Int) < (ps.length : Int) - 1) = false := by rw [decide_eq_false_iff_not]; omega
                have i53 : ¬ k + 1 < ps.length := by omega
                obtain ⟨n0, hn0⟩ : ∃ n, n = (groupsG ip).getD 0 0 := ⟨_, rfl⟩
                obtain ⟨n1, hn1⟩ : ∃ n, n = (groupsG ip).getD 1 0 := ⟨_, rfl⟩
                rw [← hn0] at HN G0
                rw [← hn1] at HN G1
                clear hnew hdr hrest hgp hferr hfok he hfb g0 g1 hkl hn0 hn1
                have HO := Lib.hid hown
                clear hown
                go_wp2_with (first
                  | ((with_reducible refine HGC.out.mono ?_); rintro e w3 ⟨rfl, hq⟩; subst hq)
                  | ((with_reducible refine HPC.out.mono ?_); rintro e w3 ⟨rfl, hb⟩; have S := (Ats.of_below HB HB.size).call hb; have HO := Lib.hid (ownsRow_below HO.out hb); clear hb)
                  | ((with_reducible refine (G0.out _).mono ?_); rintro e w3 ⟨rfl, hb⟩; have S := S.call hb; have HO := Lib.hid (ownsRow_below HO.out hb); clear hb)
                  | ((with_reducible refine (G1.out _).mono ?_); rintro e w3 ⟨rfl, hb⟩; have S := S.call hb; have HO := Lib.hid (ownsRow_below HO.out hb); clear hb)
                  | ((with_reducible show wpList _ _ _ (Oper.mk (some 10) (Op.alloc _) _ _ _ _ :: _) _ _); refine wpList_allocT rfl _ rfl _ adZero S ?_; clear S; intro ga w1 S hb; have HO := Lib.hid (ownsRow_below HO.out hb); clear hb)
                  | ((with_reducible show wpList _ _ _ (Oper.mk _ (Op.store _ (Operand.tmp 10) _) _ _ _ _ :: _) _ _); refine wpList_storeT rfl _ _ _ rfl S _ rfl _ rfl 0 _ _ rfl hsz (by exact ad_sizes _ _ _ _ _ _ rfl hipl) (by exact adCs_one _ _ _) ?_; have HNE := (S.get (i := 0) rfl).own_ne HO.out (by decide); clear S; intro w1 S hg1; simp only [List.set_cons_zero] at S; have HO := Lib.hid (own_grown HO.out hg1 (.inl HNE)); clear HNE hg1)
                  | ((with_reducible show wpList _ _ _ (Oper.mk _ (Op.load _ (Operand.tmp 10)) _ _ _ _ :: _) _ _); refine wpList_loadS rfl _ _ rfl S _ rfl 0 _ _ rfl _ Tryd.underlying25 rfl hsz ?_)
                  | ((with_reducible show wpList _ _ _ (Oper.mk (some 59) _ _ _ _ _ :: _) _ _); refine wpList_app1S rfl (.tmp 55) (.tmp 58) 51 3 rfl Tryd.underlying51 elemI rfl w2.heap.size _ acc.length _ _ rfl rfl HO.out S (by intro y hy; simp at hy; subst hy; exact (by decide : (3 : Nat) ≠ 25)) (Nat.le_refl _) rfl (by omega) (by omega) S.big ?_; clear S HO; intro v4 w4 ho4 S; have HO := Lib.hid (own_gInt ho4); clear ho4)
                  | ((with_reducible show wpList _ _ _ (Oper.mk (some 64) _ _ _ _ _ :: _) _ _); refine wpList_app1S rfl (.tmp 60) (.tmp 63) 51 3 rfl Tryd.underlying51 elemI rfl w2.heap.size _ (acc.length + 1) _ _ rfl rfl HO.out S (by intro y hy; simp at hy; subst hy; exact (by decide : (3 : Nat) ≠ 25)) (Nat.le_refl _) rfl (by omega) (by omega) S.big ?_; clear S HO; intro v5 w5 ho5 S; have HO := Lib.hid (own_gInt ho5); clear ho5))
                go_roundw
                case rel => exact ⟨k + 1, _, by go_num, by omega, by rw [List.length_append, List.length_append]; exact HO.out, HN.out, by simp; omega, S.below⟩
                case measure => simp [intOf]; omega
              · have hno : R = none := by
                  rw [HR.out, hdr, sideP_no hgp (.inl (fun h => hkl (hrest.1 h.2)))]
                  rfl
                have HNO := Lib.hid hno
                have t53 : decide ((k : Int) < (ps.length : Int) - 1) = true := by rw [decide_eq_true_eq]; omega
                have i53 : k + 1 < ps.length := by omega
                clear hno hdr hrest hgp hferr hfok he hkl
                go_wp2_with (first
                  | ((with_reducible refine HGC.out.mono ?_); rintro e w3 ⟨rfl, hq⟩; subst hq)
                  | ((with_reducible refine HPC.out.mono ?_); rintro e w3 ⟨rfl, hb⟩; have S := (Ats.of_below HB HB.size).call hb; clear hb)
                  | ((with_reducible show wpList _ _ _ (Oper.mk (some 10) (Op.alloc _) _ _ _ _ :: _) _ _); refine wpList_allocS rfl _ rfl _ adZero S ?_; clear S; intro ga w1 S)
                  | ((with_reducible show wpList _ _ _ (Oper.mk _ (Op.store _ (Operand.tmp 10) _) _ _ _ _ :: _) _ _); refine wpList_storeS rfl _ _ _ rfl S _ rfl _ rfl 0 _ _ rfl hsz (by exact ad_sizes _ _ _ _ _ _ rfl hipl) (by exact adCs_one _ _ _) ?_; clear S; intro w1 S; (first | simp only [List.set_cons_zero] at S | simp only [List.set_cons_succ, List.set_cons_zero] at S | skip)))
                go_ret2
                exact HH.out _ _ (.inl ⟨HNO.out, rfl, HB0.out.trans (S.below.mono HW2)⟩)
          · have t43 : (er != 0) = true := by simpa using he
            have hno : R = none := by
              rw [HR.out, hdr, sideP_no hgp (.inr (hferr he))]
              rfl
            have HNO := Lib.hid hno
            clear hno hdr hrest hgp hferr hfok he
            go_wp2_with (first
              | ((with_reducible refine HGC.out.mono ?_); rintro e w3 ⟨rfl, hq⟩; subst hq)
              | ((with_reducible refine HPC.out.mono ?_); rintro e w3 ⟨rfl, hb⟩; have S := (Ats.of_below HB HB.size).call hb; clear hb)
              | ((with_reducible show wpList _ _ _ (Oper.mk (some 10) (Op.alloc _) _ _ _ _ :: _) _ _); refine wpList_allocS rfl _ rfl _ adZero S ?_; clear S; intro ga w1 S)
              | ((with_reducible show wpList _ _ _ (Oper.mk _ (Op.store _ (Operand.tmp 10) _) _ _ _ _ :: _) _ _); refine wpList_storeS rfl _ _ _ rfl S _ rfl _ rfl 0 _ _ rfl hsz (by exact ad_sizes _ _ _ _ _ _ rfl hipl) (by exact adCs_one _ _ _) ?_; clear S; intro w1 S; (first | simp only [List.set_cons_zero] at S | simp only [List.set_cons_succ, List.set_cons_zero] at S | skip)))
            go_ret2
            exact HH.out _ _ (.inl ⟨HNO.out, rfl, HB0.out.trans (S.below.mono HW2)⟩)
      · obtain rfl : k = ps.length := by omega
        have hfin : R = some acc := by
          rw [HR.out, List.drop_length]
          simp [sideP]
        have HF := Lib.hid hfin
        clear hfin HR
        obtain ⟨A', c', rfl, hi, hcz⟩ := of_own2 hown
        have HI := Lib.hid hi
        have HCZ := Lib.hid hcz
        clear hi hcz hown
        go_wp2_with fail
        go_ret2
        exact HH.out _ _ (.inr ⟨acc, HF.out, ⟨A', c', rfl, HI.out, HCZ.out⟩, HB0.out.trans (HB.mono HW2)⟩)
end Go.Proofs.YtkchgjakkogejaaDoor
