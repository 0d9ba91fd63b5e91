/- Texts behind a law of this seat, in order: Law13d, Law13e. -/
import Derived.Test.YtnoabmkmnddkkaaPa
import Derived.Test.YtnoabmkmnddkkaaPb
import Derived.Test.YtnoabmkmnddkkaaPc
import Derived.Test.YtnoabmkmnddkkaaPd
import Derived.Test.YtnoabmkmnddkkaaPe
import Derived.Test.YtnoabmkmnddkkaaPf
import Derived.Test.YtnoabmkmnddkkaaPg
import Derived.Test.YtnoabmkmnddkkaaPh
import Derived.Test.YtnoabmkmnddkkaaPi
import Derived.Test.YtnoabmkmnddkkaaPj
import Derived.Test.YtnoabmkmnddkkaaPk
import Derived.Test.YtnoabmkmnddkkaaPl
import Derived.Test.YtnoabmkmnddkkaaPm
import Derived.Test.YtnoabmkmnddkkaaPn
import Derived.Test.YtnoabmkmnddkkaaPo
import Derived.Test.YtnoabmkmnddkkaaPp
import Derived.Test.YtnoabmkmnddkkaaPq
import Derived.Test.YtnoabmkmnddkkaaPr
import Derived.Test.YtnoabmkmnddkkaaPs
import Derived.Test.YtnoabmkmnddkkaaPt
import Derived.Test.YtnoabmkmnddkkaaPu
import Derived.Test.YtnoabmkmnddkkaaPv
import Derived.Test.YtnoabmkmnddkkaaPw
import Derived.Test.YtnoabmkmnddkkaaPx
import Derived.Test.YtnoabmkmnddkkaaPy
import Derived.Test.YtnoabmkmnddkkaaPz
import Derived.Test.YtnoabmkmnddkkaaQa
import Derived.Test.YtnoabmkmnddkkaaQb
import Derived.Test.YtnoabmkmnddkkaaQc
import Derived.Test.YtnoabmkmnddkkaaQd
import Derived.Test.YtnoabmkmnddkkaaQe
import Derived.Test.YtnoabmkmnddkkaaQf
import Derived.Test.YtnoabmkmnddkkaaQg
import Derived.Test.YtnoabmkmnddkkaaQh
import Derived.Test.YtnoabmkmnddkkaaQi
import Derived.Test.YtnoabmkmnddkkaaQj
import Derived.Below
import Derived.BigQuiet
import Derived.BigRegion
import Derived.ChangeSame
import Derived.ChangeSlices
import Derived.Deep.AppendLies
import Derived.Deep.Draws
import Derived.Deep.OwnRows
import Derived.Deep.Quiet
import Derived.Deep.QuietTactic
import Derived.Deep.RegionLaw
import Derived.Deep.Slices
import Derived.Defers
import Derived.Great.Ranges
import Derived.Handed
import Derived.Handy
import Derived.Laws.CopyRow
import Derived.Laws.OwnMore
import Derived.Laws.Rows
import Derived.Laws.StructEq
import Derived.Lib.BufferWrite
import Derived.Lib.Hide
import Derived.Lib.ItoaNum
import Derived.Lib.Split
import Derived.Lib.SplitLaws
import Derived.Lib.Strings
import Derived.Maps.AppendAt
import Derived.Maps.OwnSet
import Derived.OpenShut
import Derived.Recover
import Derived.Shelf.Strings.Builder1
import Derived.Shelf.Strings.BuilderF
import Derived.Shelf.Strings.BuilderK
import Derived.SizedLaws
import Derived.SliceStrings
import Derived.StillTailTactics
import Derived.Stop.BytesEq
import Derived.StringKeys
import Derived.Test.YtnoabmkmnddkkaaProg
import Derived.WalkKit
import Derived.WalkLawsBesides
import Derived.WalkSpells
namespace Go.Proofs.Ytnoabmkmnddkkaa
open Go.RowKit Go
set_option linter.unusedVariables false
set_option linter.unusedSimpArgs false
set_option maxRecDepth 100000
/-- a struct or an array that was there in the world w0, read whole -/
theorem wpList_oldPartW {P : Program} {ops : Array Oper} {rest : List Oper} {o : Oper} {a : Act} {Q : Exit → Act → World → Prop} {w0 w : World} (hgd : Region.wanted o (yielded ops a.tmps) = true) (ty : TypeId) (x : Operand) (ho : o.op = .load ty x) (hb : Below w0.heap.size w0 w) (g k : Nat) (hx : a.eval x = .pointer (some ⟨g, k, none⟩))
    (d : TypeDesc) (hu : P.underlying ty = some d) (hd : (match d with | .struct _ | .array _ _ => true | _ => false) = true) (part : List Value) (hn : (P.info? ty).map (·.size) = some part.length) (hc : ∀ (j : Nat) v, part[j]? = some v → w0.cell? ⟨g, k + j, none⟩ = some v)
    (h : wpList P ops Q rest (a.put o.dst (.agg part.toArray)) w) : wpList P ops Q (o :: rest) a w := by
  refine wpList_want hgd fun K hK => ?_
  have := hK _ _ h
  have hr := run_loadVar_part (P := P) w g k ty part d (fun j v hv => (hb.cell (block_lt_of_cell (hc j v hv))).trans (hc j v hv)) hu hd hn
  unfold Oper.wp execOp
  simp only [ho, hx, Instr.loadAt, Instr.sureAddr, Sem.run_bind, Sem.run_pure, Result.andThen_ok, hr]
  exact this
theorem alike_same {A B : Rc Lbs} (h : Alike A B) (h0 : A.nm 0 = B.nm 0) (h1 : A.ty = B.ty) (h2 : A.cl = B.cl) (h3 : A.tt = B.tt) : sameB A B = true := by
  obtain ⟨a1, a2, a3, a4, a5, a6, a7⟩ := h
  unfold sameB
  rw [h0, h1, h2, h3, a1, a2, a3, a4, a5, a7, a6 0 (by decide), a6 1 (by decide), a6 2 (by decide), a6 3 (by decide), a6 4 (by decide), a6 5 (by decide), a6 6 (by decide), a6 7 (by decide)]
  simp
theorem rc_set4 (Q R : Rc Nm) : ((((rcC Q).setIfInBounds 0 (R.nm 0).v).setIfInBounds 1 (.int .i64 R.ty)).setIfInBounds 2 (.int .i64 R.cl)).setIfInBounds 3 (.int .i64 R.tt) = rcC { Q with nm := upd Q.nm 0 (R.nm 0), ty := R.ty, cl := R.cl, tt := R.tt } := rfl
/-- one round of the law -/
def BackR13 (W : World) (g n : Nat) (u6 u7 : Value) (wr : World) : Prop :=
  ∃ (k : Nat) (T : List (Lbs × Int)) (x : List UInt8), k ≤ n ∧ u7 = .int .i64 k ∧ u6 = .string ⟨x.toArray⟩ ∧ PTab W wr g T ∧ TOk T ∧ T.length ≤ 802 * k ∧ x.length ≤ 20000 + 458745 * k ∧ TInv x T
set_option maxHeartbeats 16000000 in
theorem back13_core (first : ByteArray) (A : Option Addr) (n c : Nat) (L : List (Rc Nm)) (W : World) (hL : RRsAt W A n L) :
    Calls Try.prog 3 #[.string first, .slice A n c] W fun e w' => e = .returned (.bool true) ∧ Below W.heap.size W w' := by
  have HO := Lib.hid (fun w => works13_any w)
  by_cases hbig : (20000 : Int) < first.size
  · have t20 : decide ((20000 : Int) < first.size) = true := decide_eq_true hbig
    clear hL hbig
    go_enter Try.func3, Try.ntmps3
    go_wp2_with (first
      | ((with_reducible refine (HO.out W).mono ?_); rintro e w2 ⟨rfl, hb⟩; have HB := Lib.hid hb; clear hb)
      | ((with_reducible refine (HO.out _).mono ?_); rintro e w3 ⟨rfl, hb⟩; have HB3 := Lib.hid hb; clear hb))
    go_ret
    exact ⟨rfl, bl HB.out HB3.out⟩
  · have t20 : decide ((20000 : Int) < first.size) = false := decide_eq_false hbig
    by_cases hn20 : (20 : Int) < n
    · have t21 : decide ((20 : Int) < n) = true := decide_eq_true hn20
      clear hL hbig hn20
      go_enter Try.func3, Try.ntmps3
      go_wp2_with (first
        | ((with_reducible refine (HO.out W).mono ?_); rintro e w2 ⟨rfl, hb⟩; have HB := Lib.hid hb; clear hb)
        | ((with_reducible refine (HO.out _).mono ?_); rintro e w3 ⟨rfl, hb⟩; have HB3 := Lib.hid hb; clear hb))
      go_ret
      exact ⟨rfl, bl HB.out HB3.out⟩
    · have t21 : decide ((20 : Int) < n) = false := decide_eq_false hn20
      have hn4 : n ≤ 20 := by omega
      have HL := Lib.hid hL
      have HN := Lib.hid (fun w => newTab_any w)
      have hfs : first.data.toList.length = first.size := by rw [Array.length_toList]; rfl
      have HFS := Lib.hid (show first.data.toList.length ≤ 20000 by rw [hfs]; omega)
      clear hL hbig hn20 hfs
      go_enter Try.func3, Try.ntmps3
      go_wp2_with (first
        | ((with_reducible refine (HO.out W).mono ?_); rintro e w2 ⟨rfl, hb⟩; have HB := Lib.hid hb; clear hb)
        | ((with_reducible refine (HN.out _).mono ?_); rintro e w3 ⟨g, rfl, hg, ha, hb⟩; have HPT := Lib.hid (ptab_new HB.out hg ha hb); clear hg ha hb))
      go_loopw [6, 7] (fun u6 u7 wr => BackR13 W g n u6 u7 wr) (fun _ u7 _ => n - (intOf u7).toNat)
      case atStart => exact ⟨0, [], first.data.toList, Nat.zero_le _, rfl, rfl, HPT.out, tok_nil, Nat.zero_le _, HFS.out, fun n to h => by simp at h⟩
      case round =>
        obtain ⟨k, T, x, hk, rfl, rfl, hPT, hTok, hTl, hxl, hTI⟩ := hrel
        by_cases hlt : k < n
        · obtain ⟨bb, oo, rfl, hbh, hcell⟩ := HL.out.2.1 (by omega)
          have hkl : k < L.length := by have := HL.out.1; omega
          have hRG := HL.out.2.2 L[k] (List.getElem_mem hkl)
          have hRc := hcell k hkl
          obtain ⟨R, hR⟩ : ∃ R, R = L[k] := ⟨_, rfl⟩
          rw [← hR] at hRG hRc
          have hRat : RcAt W R := ⟨hRG.1, fun j hj => (hRG.2 j hj).1⟩
          have HSM := Lib.hid (fun w hb => small_any R W hRat (fun j hj => (hRG.2 j hj).2.2) w hb)
          have hip := hRG.1
          obtain ⟨pl, hpl⟩ : ∃ pl, pl = rcL R := ⟨_, rfl⟩
          have HRSZ := Lib.hid (show (Try.prog.info? 34).map (·.size) = some pl.length by rw [hpl, rc_len hip]; kernel_rfl)
          have hRc2 : ∀ (i : Nat) v, pl[i]? = some v → W.cell? ⟨bb, oo + k * 33 + i, none⟩ = some v := by rw [hpl]; exact hRc
          have HRC := Lib.hid hRc2
          have hRc2' : ∀ (i : Nat) v, (rcL R)[i]? = some v → W.cell? ⟨bb, oo + k * 33 + i, none⟩ = some v := hRc
          have HBR := Lib.hid hPT.bw
          have HSM2 := Lib.hid (show ∀ w, Below W.heap.size W w → Calls Try.prog 6 #[.agg pl.toArray] w fun e w' => e = .returned (.bool (smallB R.tx)) ∧ Below w.heap.size w w' from fun w hb => by rw [hpl]; exact HSM.out w hb)
          clear HSM hRc2
          cases hsm : smallB R.tx with
          | false =>
            rw [hsm] at HSM2
            clear hTI hTok hPT hcell hR hRG hRc hpl hRc2'
            go_wp2_with (first
              | ((with_reducible show wpList _ _ _ (Oper.mk (some 36) (Op.load _ _) _ _ _ _ :: _) _ _); refine wpList_oldPartW rfl _ _ rfl HBR.out _ _ rfl _ Try.underlying34 rfl pl HRSZ.out HRC.out ?_)
              | ((with_reducible refine (HSM2.out _ HBR.out).mono ?_); rintro e w2 ⟨rfl, hb⟩))
            go_ret
            exact ⟨rfl, bl HBR.out hb⟩
          | true =>
            rw [hsm] at HSM2
            have hsz : (sizeL (R.nm 0).l ≤ 401 ∧ sizeL (R.nm 1).l ≤ 401 ∧ sizeL (R.nm 2).l ≤ 401) := by
              have h : (decide (sizeL (R.nm 0).l ≤ 401) && decide (sizeL (R.nm 1).l ≤ 401) && decide (sizeL (R.nm 2).l ≤ 401) && decide (R.raw.length ≤ 70000)) = true := hsm
              simp only [Bool.and_eq_true, decide_eq_true_eq] at h
              exact ⟨h.1.1.1, h.1.1.2, h.1.2⟩
            have hRin : RcIn W R := ⟨hip, fun j hj => by
              refine ⟨(hRG.2 j hj).1, ?_⟩
              match j, hj with
              | 0, _ => exact hsz.1
              | 1, _ => exact hsz.2.1
              | 2, _ => exact hsz.2.2⟩
            obtain ⟨sx, hsx⟩ : ∃ sx : ByteArray, sx = ⟨x.toArray⟩ := ⟨_, rfl⟩
            have hsxz : sx.size = x.length := by rw [hsx]; rfl
            have hsxl : sx.data.toList = x := by rw [hsx]
            rw [← hsx]
            have hTl2 : T.length ≤ 40000 := by omega
            have hat : (sx.size : Int) ≤ 50000000 := by rw [hsxz]; omega
            have hPU := fun w2 (hT2 : PTab W w2 g T) => rdPutT_any R W w2 hRin g T hT2 hTok hTl2 sx.size (by omega) hat
            have HPT := Lib.hid hPT
            have HTOK := Lib.hid hTok
            have HTI := Lib.hid hTI
            have HXL := Lib.hid hxl
            have HTL := Lib.hid hTl
            by_cases hre : recE R.tx = 0
            · obtain ⟨O, hO⟩ : ∃ O, octL true R.tx (rParts R.tx.ty R.tx.cl) x.length T = O := ⟨_, rfl⟩
              obtain ⟨hTI2, Q, hQ, hal⟩ := rec_back true (R := R.tx) hip hre hTI (fun h => absurd h (by decide)) hO
              obtain ⟨hol, hotl, hotk⟩ := octL_rec R.tx hre hsz.2.1 hsz.2.2 x.length T hO
              obtain ⟨sa, hsa⟩ : ∃ sa : ByteArray, sa = ⟨O.1.toArray⟩ := ⟨_, rfl⟩
              have hsaz : sa.size = O.1.length := by rw [hsa]; rfl
              have hcat : sx ++ sa = ⟨(x ++ O.1).toArray⟩ := by rw [hsx, hsa, ba_push]
              have HPU := Lib.hid (show ∀ w2, PTab W w2 g T → Calls Try.prog 7 #[.agg pl.toArray, .int .i64 (sx.size : Int), .pointer (some ⟨g, 0, none⟩)] w2 fun e w' => e = .returned (.tuple #[.string sa, .int .i64 0]) ∧ PTab W w' g O.2 ∧ Kept isMapO g w2 w' ∧ Below W.heap.size W w' from fun w2 hT2 => by
                have h := hPU w2 hT2
                rw [if_pos hre, if_pos hre, hre, hsxz] at h
                have hO' : octL true R.tx (rParts R.ty R.cl) (x.length : Int) T = O := hO
                rw [hO'] at h
                rw [hpl, hsa, hsxz]
                exact h)
              have hsum : (sx ++ sa).size ≤ 50000000 := by
                have : (sx ++ sa).size = sx.size + sa.size := by simp
                omega
              have HG := Lib.hid (show ∀ w2, Calls Try.prog 8 #[.string (sx ++ sa), .int .i64 (sx.size : Int), .int .i64 (sa.size : Int), .int .i64 R.ty, .int .i64 R.cl] w2 fun e w' => ∃ (Qr : Rc Nm) (X : List (Nat × TypeId × Array Value)), e = .returned (.tuple #[.agg (rcC Qr), .int .i64 0]) ∧ Qr.tx = Q ∧ Qr.ip.length = 16 ∧ Ats w2.heap.size w2 w' X ∧ (∀ k, k ≤ 2 → RowIn X (Qr.nm k)) from fun w2 => by
                refine (rdGet_any (sx ++ sa) hsum sx.size sa.size R.ty R.cl w2).mono ?_
                rintro e w' ⟨Qr, rfl, h1, h2, X, h3, h4⟩
                have e1 : rGet (sx ++ sa).data.toList sx.size sa.size R.ty R.cl = (0, Q) := by
                  rw [hcat, hsxz, hsaz]
                  exact hQ
                rw [e1] at h1 ⊢
                exact ⟨Qr, X, rfl, h1, h2, h3, h4⟩)
              have HSAME := Lib.hid (show ∀ (Qr : Rc Nm) (w' : World), Qr.tx = Q → Qr.ip.length = 16 → (∀ k, k ≤ 2 → TextsAt w' (Qr.nm k).A (Qr.nm k).n (Qr.nm k).l) → Below W.heap.size W w' → Calls Try.prog 9 #[.agg (rcC { Qr with nm := upd Qr.nm 0 (R.nm 0), ty := R.ty, cl := R.cl, tt := R.tt }), .agg pl.toArray] w' fun e w2 => e = .returned (.bool true) ∧ Below w'.heap.size w' w2 from fun Qr w' h1 h2 h3 hb => by
                have hn1 : (Qr.nm 1).l = (R.nm 1).l := (congrFun (congrArg Rc.nm h1) 1).trans hal.2.2.2.1
                have hn2 : (Qr.nm 2).l = (R.nm 2).l := (congrFun (congrArg Rc.nm h1) 2).trans hal.2.2.2.2.1
                have hls : ∀ l : Lbs, sizeL l ≤ 401 → l.length ≤ 4000 := fun l hl => by
                  have h5 := labs_len l
                  have h6 := labsB_len l
                  omega
                have hRw : RcAt w' R := ⟨hip, fun j hj => (hRG.2 j hj).1.below hb⟩
                have hQw : RcAt w' { Qr with nm := upd Qr.nm 0 (R.nm 0), ty := R.ty, cl := R.cl, tt := R.tt } := ⟨h2, fun j hj => by
                  match j, hj with
                  | 0, _ => exact hRw.2 0 (by decide)
                  | 1, _ => exact h3 1 (by decide)
                  | 2, _ => exact h3 2 (by decide)⟩
                have hR4 : ∀ j, j ≤ 2 → (R.nm j).n ≤ 4000 := fun j hj => by
                  rw [(hRG.2 j hj).1.1]
                  match j, hj with
                  | 0, _ => exact hls _ hsz.1
                  | 1, _ => exact hls _ hsz.2.1
                  | 2, _ => exact hls _ hsz.2.2
                have h := same_any { Qr with nm := upd Qr.nm 0 (R.nm 0), ty := R.ty, cl := R.cl, tt := R.tt } R w' hQw hRw (fun j hj => by
                  match j, hj with
                  | 0, _ => exact hR4 0 (by decide)
                  | 1, _ => show (Qr.nm 1).n ≤ 4000; rw [(h3 1 (by decide)).1, hn1]; exact hls _ hsz.2.1
                  | 2, _ => show (Qr.nm 2).n ≤ 4000; rw [(h3 2 (by decide)).1, hn2]; exact hls _ hsz.2.2) hR4
                have hal2 : Alike Qr.tx R.tx := by rw [h1]; exact hal
                rw [alike_same (A := ({ Qr with nm := upd Qr.nm 0 (R.nm 0), ty := R.ty, cl := R.cl, tt := R.tt } : Rc Nm).tx) (B := R.tx) hal2 rfl rfl rfl rfl] at h
                rw [hpl]
                exact h)
              have HTOK2 := Lib.hid (hotk hTok)
              have HTI2 := Lib.hid hTI2
              have HCAT := Lib.hid hcat
              have HXL2 := Lib.hid (show (x ++ O.1).length ≤ 20000 + 458745 * (k + 1) by rw [List.length_append]; omega)
              have HTL2 := Lib.hid (show O.2.length ≤ 802 * (k + 1) by omega)
              have hsl1 : sx.size ≤ 9195900 := by rw [hsxz]; omega
              have hsl2 : sa.size ≤ 458745 := by rw [hsaz]; exact hol
              have HW1 := Lib.hid (show W.cell? ⟨bb, oo + k * 33 + 1, none⟩ = some (.int .i64 R.ty) from hRc2' 1 _ rfl)
              have HW2 := Lib.hid (show W.cell? ⟨bb, oo + k * 33 + 2, none⟩ = some (.int .i64 R.cl) from hRc2' 2 _ rfl)
              have HW3 := Lib.hid (show W.cell? ⟨bb, oo + k * 33 + 3, none⟩ = some (.int .i64 R.tt) from hRc2' 3 _ rfl)
              have HW0 := Lib.hid (show W.cell? ⟨bb, oo + k * 33 + 0, none⟩ = some (R.nm 0).v from hRc2' 0 _ rfl)
              have hcat2 : ¬ (9223372036854775807 < sx.size + sa.size) := by omega
              have HS4 := Lib.hid (fun Qr => rc_set4 Qr R)
              clear hTI hTok hPT hcell hR hRG hRc hpl hPU hsz hRin hsxz hsxl hat hTl2 hre hsm hRat hip hsx hO hTI2 hQ hal hol hotl hotk hsa hsaz hsum hcat hRc2'
              go_wp2_with (first
                | ((with_reducible show wpList _ _ _ (Oper.mk (some 36) (Op.load _ _) _ _ _ _ :: _) _ _); refine wpList_oldPartW rfl _ _ rfl HBR.out _ _ rfl _ Try.underlying34 rfl pl HRSZ.out HRC.out ?_)
                | ((with_reducible refine (HSM2.out _ HBR.out).mono ?_); rintro e w2 ⟨rfl, hb⟩; have HPT2 := Lib.hid (HPT.out.kept hb); clear hb)
                | ((with_reducible show wpList _ _ _ (Oper.mk (some 43) (Op.load _ _) _ _ _ _ :: _) _ _); refine wpList_oldPartW rfl _ _ rfl HPT2.out.bw _ _ rfl _ Try.underlying34 rfl pl HRSZ.out HRC.out ?_)
                | ((with_reducible refine (HPU.out _ HPT2.out).mono ?_); rintro e w3 ⟨rfl, hp3, _, hb3⟩; have HPT3 := Lib.hid hp3; have HB3 := Lib.hid hb3; clear hp3 hb3))
              have hold : ∀ (p : Addr) (v : Value), W.cell? p = some v → w3.cell? p = some v := fun p v hv => (HB3.out.cell (block_lt_of_cell hv)).trans hv
              have c0 := hold _ _ HW0.out
              have c1 := hold _ _ HW1.out
              have c2 := hold _ _ HW2.out
              have c3 := hold _ _ HW3.out
              rw [Nat.add_zero] at c0
              have HC0 := Lib.hid c0
              have HC1 := Lib.hid c1
              have HC2 := Lib.hid c2
              have HC3 := Lib.hid c3
              have HRC3 := Lib.hid (show ∀ (i : Nat) v, pl[i]? = some v → w3.cell? ⟨bb, oo + k * 33 + i, none⟩ = some v from fun i v hv => hold _ _ (HRC.out i v hv))
              clear c0 c1 c2 c3 hold
              refine wp_region_forkO (C := fun w' => Below w3.heap.size w3 w') [0, 1, 2, 3, 4, 5, 6, 7, 8, 9, 10, 11, 12, 13, 14, 15, 16] 17 [(18, true), (19, true), (20, true), (21, false), (22, false), (23, true)] 21 [(17, false), (18, true), (19, true), (20, true), (22, false), (23, true)] (by kernel_rfl) (by kernel_rfl) (below_drew w3) ?_
              simp only [List.map_cons, List.map_nil, List.getD_cons_zero, List.getD_cons_succ]
              repeat (first
                | (refine fork_move rfl _ rfl ?_; simp only [Act.put, Act.eval, Array.getD_eq_getD_getElem?, List.getElem?_toArray, List.getElem?_cons_succ, List.getElem?_cons_zero, Option.getD_some, List.setIfInBounds_toArray, List.set_cons_succ, List.set_cons_zero])
                | (refine fork_oldB rfl _ (.tmp 63) rfl _ rfl _ HC1.out _ Try.underlying3 rfl ?_; simp only [Act.put, Act.eval, Array.getD_eq_getD_getElem?, List.getElem?_toArray, List.getElem?_cons_succ, List.getElem?_cons_zero, Option.getD_some, List.setIfInBounds_toArray, List.set_cons_succ, List.set_cons_zero])
                | (refine fork_oldB rfl _ (.tmp 68) rfl _ rfl _ HC2.out _ Try.underlying3 rfl ?_; simp only [Act.put, Act.eval, Array.getD_eq_getD_getElem?, List.getElem?_toArray, List.getElem?_cons_succ, List.getElem?_cons_zero, Option.getD_some, List.setIfInBounds_toArray, List.set_cons_succ, List.set_cons_zero])
                | (refine fork_val rfl (v := ?_) ?_ ?_; rotate_left; (focus (intro w _; go_simp; try with_reducible rfl)); simp only [Act.put, List.setIfInBounds_toArray, List.set_cons_succ, List.set_cons_zero])
                | (refine fork_val rfl (v := ?_) ?_ ?_; rotate_left; (focus (intro w _; go_simp; rw [if_neg (by omega)])); simp only [Act.put, List.setIfInBounds_toArray, List.set_cons_succ, List.set_cons_zero]))
              refine fork_nil ?_ ?_
              · refine mix_call 8 _ _ rfl rfl (enters_of Try.func8 (by kernel_rfl) rfl) ?_ (HG.out _) ?_
                · simp [Act.eval]
                rintro e w4 ⟨Qr, X, rfl, hQr, hiq, hX, hrow⟩
                have S := ((Ats.start w3).drew).join hX
                rw [List.append_nil] at S
                refine ⟨_, rfl, S.below, ?_⟩
                simp only [Act.put, Act.eval, Array.getD_eq_getD_getElem?, List.getElem?_toArray, List.getElem?_cons_succ, List.getElem?_cons_zero, Option.getD_some, List.setIfInBounds_toArray, List.set_cons_succ, List.set_cons_zero]
                repeat (first
                  | (refine mix_move rfl _ rfl ?_; simp only [Act.put, Act.eval, Array.getD_eq_getD_getElem?, List.getElem?_toArray, List.getElem?_cons_succ, List.getElem?_cons_zero, Option.getD_some, List.setIfInBounds_toArray, List.set_cons_succ, List.set_cons_zero])
                  | (refine mix_val rfl (v := ?_) ?_ ?_; rotate_left; (focus (intro w _; go_simp; try with_reducible rfl)); simp only [Act.put, List.setIfInBounds_toArray, List.set_cons_succ, List.set_cons_zero]))
                have S2 := S.add 34 (rcC (zeroR nilN))
                refine mix_alloc rfl _ rfl _ rcZero ⟨S2.below, ?_⟩
                simp only [Act.put, Act.eval, Array.getD_eq_getD_getElem?, List.getElem?_toArray, List.getElem?_cons_succ, List.getElem?_cons_zero, Option.getD_some, List.setIfInBounds_toArray, List.set_cons_succ, List.set_cons_zero]
                obtain ⟨gx, hgx⟩ : ∃ gx, gx = w4.heap.size := ⟨_, rfl⟩
                rw [← hgx] at S2 ⊢
                obtain ⟨w5, hw5⟩ : ∃ w5, w5 = w4.alloc (.cells (rcV (zeroR nilN)).cells 34) := ⟨_, rfl⟩
                have S2 : Ats w3.heap.size w3 (w4.alloc (.cells (rcV (zeroR nilN)).cells 34)) ((gx, 34, rcC (zeroR nilN)) :: X) := S2
                rw [← hw5] at S2 ⊢
                clear hw5 hgx S hX
                have hzs : (rcC (zeroR nilN)).size = (rcC Qr).size := by rw [rc_size hiq]; rfl
                have S3 := S2.grow (i := 0) rfl (grown_setRow w5 gx (rcC Qr)) (setRow_heap w5 gx (rcC (zeroR nilN)) (rcC Qr) 34 (0, 0) (S2.get (i := 0) rfl))
                simp only [List.set_cons_zero] at S3
                refine mix_storeB rfl _ _ _ rfl gx rfl (rcC Qr) rfl _ _ (S2.get (i := 0) rfl) (rcSize hiq) hzs rc_one ⟨S3.below, ?_⟩
                simp only [Act.put, Act.eval, Array.getD_eq_getD_getElem?, List.getElem?_toArray, List.getElem?_cons_succ, List.getElem?_cons_zero, Option.getD_some, List.setIfInBounds_toArray, List.set_cons_succ, List.set_cons_zero]
                obtain ⟨w6, hw6⟩ : ∃ w6, w6 = w5.setRow gx (rcC Qr) := ⟨_, rfl⟩
                rw [← hw6] at S3 ⊢
                clear hw6 S2 hzs
                repeat (first
                  | (refine mix_assign rfl _ rfl ?_; simp only [Act.put, Act.eval, Array.getD_eq_getD_getElem?, List.getElem?_toArray, List.getElem?_cons_succ, List.getElem?_cons_zero, Option.getD_some, List.setIfInBounds_toArray, List.set_cons_succ, List.set_cons_zero])
                  | (refine mix_move rfl _ rfl ?_; simp only [Act.put, Act.eval, Array.getD_eq_getD_getElem?, List.getElem?_toArray, List.getElem?_cons_succ, List.getElem?_cons_zero, Option.getD_some, List.setIfInBounds_toArray, List.set_cons_succ, List.set_cons_zero])
                  | (refine mix_val rfl (v := ?_) ?_ ?_; rotate_left; (focus (intro w _; go_simp; try with_reducible rfl)); simp only [Act.put, List.setIfInBounds_toArray, List.set_cons_succ, List.set_cons_zero]))
                refine mix_nil ?_
                have S := S3
                clear S3
                obtain ⟨z0, hz0⟩ : ∃ z0, z0 = rcC Qr := ⟨_, rfl⟩
                have hz4 := HS4.out Qr
                rw [← hz0] at hz4 S
                have HZ4 := Lib.hid hz4
                have HZS := Lib.hid (show z0.size = 33 by rw [hz0]; exact rc_size hiq)
                have HQR := Lib.hid hQr
                have HIQ := Lib.hid hiq
                have HROW := Lib.hid hrow
                obtain ⟨v0, hv0⟩ : ∃ v0, v0 = (R.nm 0).v := ⟨_, rfl⟩
                obtain ⟨vA, vn, vc, hv⟩ : ∃ A n c, v0 = .slice A n c := ⟨_, _, _, hv0⟩
                have HC0' := Lib.hid (show w3.cell? ⟨bb, oo + k * 33, none⟩ = some (.slice vA vn vc) by rw [← hv, hv0]; exact HC0.out)
                have hz5 := HZ4.out
                rw [← hv0, hv] at hz5
                have HZ5 := Lib.hid hz5
                clear hz4 hz5 hz0 hQr hiq hrow HZ4 hv hv0 HC0
                go_wp2_with (first
                  | ((with_reducible show wpList _ _ _ (Oper.mk (some 77) (Op.load _ _) _ _ _ _ :: _) _ _); refine wpList_oldS rfl _ _ rfl S _ rfl _ HC0'.out _ Try.underlying28 rfl ?_)
                  | ((with_reducible show wpList _ _ _ (Oper.mk (some 83) (Op.load _ _) _ _ _ _ :: _) _ _); refine wpList_oldS rfl _ _ rfl S _ rfl _ HC1.out _ Try.underlying3 rfl ?_)
                  | ((with_reducible show wpList _ _ _ (Oper.mk (some 89) (Op.load _ _) _ _ _ _ :: _) _ _); refine wpList_oldS rfl _ _ rfl S _ rfl _ HC2.out _ Try.underlying3 rfl ?_)
                  | ((with_reducible show wpList _ _ _ (Oper.mk (some 95) (Op.load _ _) _ _ _ _ :: _) _ _); refine wpList_oldS rfl _ _ rfl S _ rfl _ HC3.out _ Try.underlying3 rfl ?_)
                  | ((with_reducible show wpList _ _ _ (Oper.mk _ (Op.store _ (Operand.tmp 78) _) _ _ _ _ :: _) _ _); refine wpList_putS rfl _ _ _ rfl S _ _ rfl _ rfl rfl rfl 0 _ _ rfl nameInfo1 (by rw [HZS.out]; decide) ?_; clear S; intro w1 S; (first | simp only [List.set_cons_zero] at S | simp only [List.set_cons_succ, List.set_cons_zero] at S | skip))
                  | ((with_reducible show wpList _ _ _ (Oper.mk _ (Op.store _ (Operand.tmp 84) _) _ _ _ _ :: _) _ _); refine wpList_putS rfl _ _ _ rfl S _ _ rfl _ rfl rfl rfl 0 _ _ rfl intInfo1 (by simp only [Array.size_setIfInBounds]; rw [HZS.out]; decide) ?_; clear S; intro w1 S; (first | simp only [List.set_cons_zero] at S | simp only [List.set_cons_succ, List.set_cons_zero] at S | skip))
                  | ((with_reducible show wpList _ _ _ (Oper.mk _ (Op.store _ (Operand.tmp 90) _) _ _ _ _ :: _) _ _); refine wpList_putS rfl _ _ _ rfl S _ _ rfl _ rfl rfl rfl 0 _ _ rfl intInfo1 (by simp only [Array.size_setIfInBounds]; rw [HZS.out]; decide) ?_; clear S; intro w1 S; (first | simp only [List.set_cons_zero] at S | simp only [List.set_cons_succ, List.set_cons_zero] at S | skip))
                  | ((with_reducible show wpList _ _ _ (Oper.mk _ (Op.store _ (Operand.tmp 96) _) _ _ _ _ :: _) _ _); refine wpList_putS rfl _ _ _ rfl S _ _ rfl _ rfl rfl rfl 0 _ _ rfl intInfo1 (by simp only [Array.size_setIfInBounds]; rw [HZS.out]; decide) ?_; clear S; intro w1 S; (first | simp only [List.set_cons_zero] at S | simp only [List.set_cons_succ, List.set_cons_zero] at S | skip)))
                have S : Ats w3.heap.size w3 _ ((gx, 34, (((z0.setIfInBounds 0 (.slice vA vn vc)).setIfInBounds 1 (.int .i64 R.ty)).setIfInBounds 2 (.int .i64 R.cl)).setIfInBounds 3 (.int .i64 R.tt)) :: X) := S
                rw [HZ5.out] at S
                obtain ⟨zz, hzz⟩ : ∃ zz, zz = rcC { Qr with nm := upd Qr.nm 0 (R.nm 0), ty := R.ty, cl := R.cl, tt := R.tt } := ⟨_, rfl⟩
                have HZZ := Lib.hid (show (Try.prog.info? 34).map (·.size) = some zz.size by rw [hzz]; exact rcSize HIQ.out)
                rw [← hzz] at S
                have HSM3 := Lib.hid (show ∀ w', Ats w3.heap.size w3 w' ((gx, 34, zz) :: X) → Calls Try.prog 9 #[.agg zz, .agg pl.toArray] w' fun e w2 => e = .returned (.bool true) ∧ Below w'.heap.size w' w2 from fun w' S' => by
                  rw [hzz]
                  exact HSAME.out Qr w' HQR.out HIQ.out (fun j hj => ((HROW.out j hj).mono fun y hy => List.mem_cons_of_mem _ hy).texts S') (HB3.out.trans (S'.below.mono HB3.out.size)))
                clear hzz HZ5 HZS
                refine wp_region_mixO (C := fun w' => Ats w3.heap.size w3 w' ((gx, 34, zz) :: X)) [(0, true), (1, true), (2, true), (3, true), (4, true), (5, true), (6, true), (7, true), (8, false), (9, true), (10, true)] (by kernel_rfl) (by kernel_rfl) S.drew ?_
                simp only [List.map_cons, List.map_nil, List.getD_cons_zero, List.getD_cons_succ]
                have S := S.drew
                repeat (first
                  | (refine mix_move rfl _ rfl ?_; simp only [Act.put, Act.eval, Array.getD_eq_getD_getElem?, List.getElem?_toArray, List.getElem?_cons_succ, List.getElem?_cons_zero, Option.getD_some, List.setIfInBounds_toArray, List.set_cons_succ, List.set_cons_zero])
                  | (refine mix_loadS rfl _ (.tmp 10) rfl _ rfl 0 _ _ rfl _ Try.underlying34 rfl HZZ.out ?_; simp only [Act.put, Act.eval, Array.getD_eq_getD_getElem?, List.getElem?_toArray, List.getElem?_cons_succ, List.getElem?_cons_zero, Option.getD_some, List.setIfInBounds_toArray, List.set_cons_succ, List.set_cons_zero])
                  | (refine mix_oldPartB (w0 := w3) rfl _ (.tmp 103) rfl _ _ rfl pl HRC3.out _ Try.underlying34 rfl HRSZ.out (fun w' S' => S'.below) ?_; simp only [Act.put, Act.eval, Array.getD_eq_getD_getElem?, List.getElem?_toArray, List.getElem?_cons_succ, List.getElem?_cons_zero, Option.getD_some, List.setIfInBounds_toArray, List.set_cons_succ, List.set_cons_zero])
                  | (refine mix_val rfl (v := ?_) ?_ ?_; rotate_left; (focus (intro w _; go_simp; try with_reducible rfl)); simp only [Act.put, List.setIfInBounds_toArray, List.set_cons_succ, List.set_cons_zero]))
                refine mix_call 9 _ _ rfl rfl (enters_of Try.func9 (by kernel_rfl) rfl) ?_ (HSM3.out _ S) ?_
                · simp [Act.eval]
                rintro e w8 ⟨rfl, hb8⟩
                have S8 := S.call hb8
                refine ⟨_, rfl, S8, ?_⟩
                clear S hb8
                simp only [Act.put, Act.eval, Array.getD_eq_getD_getElem?, List.getElem?_toArray, List.getElem?_cons_succ, List.getElem?_cons_zero, Option.getD_some, List.setIfInBounds_toArray, List.set_cons_succ, List.set_cons_zero]
                repeat (first
                  | (refine mix_move rfl _ rfl ?_; simp only [Act.put, Act.eval, Array.getD_eq_getD_getElem?, List.getElem?_toArray, List.getElem?_cons_succ, List.getElem?_cons_zero, Option.getD_some, List.setIfInBounds_toArray, List.set_cons_succ, List.set_cons_zero])
                  | (refine mix_val rfl (v := ?_) ?_ ?_; rotate_left; (focus (intro w _; go_simp; try with_reducible rfl)); simp only [Act.put, List.setIfInBounds_toArray, List.set_cons_succ, List.set_cons_zero]))
                refine mix_nil ?_
                go_wp2_with fail
                go_roundw
                case rel => exact ⟨k + 1, O.2, x ++ O.1, by omega, by go_num, by rw [HCAT.out], HPT3.out.kept S8.below, HTOK2.out, HTL2.out, HXL2.out, HTI2.out⟩
                case measure => simp [intOf]; omega
              · have S1 := ((Ats.start w3).drew).add 34 (rcC (zeroR nilN))
                refine mix_alloc rfl _ rfl _ rcZero ⟨S1.below, ?_⟩
                simp only [Act.put, Act.eval, Array.getD_eq_getD_getElem?, List.getElem?_toArray, List.getElem?_cons_succ, List.getElem?_cons_zero, Option.getD_some, List.setIfInBounds_toArray, List.set_cons_succ, List.set_cons_zero]
                obtain ⟨gx, hgx⟩ : ∃ gx, gx = w3.drew.heap.size := ⟨_, rfl⟩
                rw [← hgx] at S1 ⊢
                obtain ⟨w4, hw4⟩ : ∃ w4, w4 = w3.drew.alloc (.cells (rcV (zeroR nilN)).cells 34) := ⟨_, rfl⟩
                have S1 : Ats w3.heap.size w3 (w3.drew.alloc (.cells (rcV (zeroR nilN)).cells 34)) [(gx, 34, rcC (zeroR nilN))] := S1
                rw [← hw4] at S1 ⊢
                clear hw4 hgx
                refine mix_call 8 _ _ rfl rfl (enters_of Try.func8 (by kernel_rfl) rfl) ?_ (HG.out _) ?_
                · simp [Act.eval]
                rintro e w5 ⟨Qr, X, rfl, hQr, hiq, hX, hrow⟩
                have S2 := (S1.join hX).perm List.perm_append_comm
                refine ⟨_, rfl, S2.below, ?_⟩
                simp only [Act.put, Act.eval, Array.getD_eq_getD_getElem?, List.getElem?_toArray, List.getElem?_cons_succ, List.getElem?_cons_zero, Option.getD_some, List.setIfInBounds_toArray, List.set_cons_succ, List.set_cons_zero]
                repeat (first
                  | (refine mix_move rfl _ rfl ?_; simp only [Act.put, Act.eval, Array.getD_eq_getD_getElem?, List.getElem?_toArray, List.getElem?_cons_succ, List.getElem?_cons_zero, Option.getD_some, List.setIfInBounds_toArray, List.set_cons_succ, List.set_cons_zero])
                  | (refine mix_val rfl (v := ?_) ?_ ?_; rotate_left; (focus (intro w _; go_simp; try with_reducible rfl)); simp only [Act.put, List.setIfInBounds_toArray, List.set_cons_succ, List.set_cons_zero]))
                have S2 : Ats w3.heap.size w3 w5 ((gx, 34, rcC (zeroR nilN)) :: X) := S2
                clear hX S1
                have hzs : (rcC (zeroR nilN)).size = (rcC Qr).size := by rw [rc_size hiq]; rfl
                have S3 := S2.grow (i := 0) rfl (grown_setRow w5 gx (rcC Qr)) (setRow_heap w5 gx (rcC (zeroR nilN)) (rcC Qr) 34 (0, 0) (S2.get (i := 0) rfl))
                simp only [List.set_cons_zero] at S3
                refine mix_storeB rfl _ _ _ rfl gx rfl (rcC Qr) rfl _ _ (S2.get (i := 0) rfl) (rcSize hiq) hzs rc_one ⟨S3.below, ?_⟩
                simp only [Act.put, Act.eval, Array.getD_eq_getD_getElem?, List.getElem?_toArray, List.getElem?_cons_succ, List.getElem?_cons_zero, Option.getD_some, List.setIfInBounds_toArray, List.set_cons_succ, List.set_cons_zero]
                obtain ⟨w6, hw6⟩ : ∃ w6, w6 = w5.setRow gx (rcC Qr) := ⟨_, rfl⟩
                rw [← hw6] at S3 ⊢
                clear hw6 S2 hzs
                repeat (first
                  | (refine mix_assign rfl _ rfl ?_; simp only [Act.put, Act.eval, Array.getD_eq_getD_getElem?, List.getElem?_toArray, List.getElem?_cons_succ, List.getElem?_cons_zero, Option.getD_some, List.setIfInBounds_toArray, List.set_cons_succ, List.set_cons_zero])
                  | (refine mix_move rfl _ rfl ?_; simp only [Act.put, Act.eval, Array.getD_eq_getD_getElem?, List.getElem?_toArray, List.getElem?_cons_succ, List.getElem?_cons_zero, Option.getD_some, List.setIfInBounds_toArray, List.set_cons_succ, List.set_cons_zero])
                  | (refine mix_val rfl (v := ?_) ?_ ?_; rotate_left; (focus (intro w _; go_simp; try with_reducible rfl)); simp only [Act.put, List.setIfInBounds_toArray, List.set_cons_succ, List.set_cons_zero]))
                refine mix_nil ?_
                have S := S3
                clear S3
                obtain ⟨z0, hz0⟩ : ∃ z0, z0 = rcC Qr := ⟨_, rfl⟩
                have hz4 := HS4.out Qr
                rw [← hz0] at hz4 S
                have HZ4 := Lib.hid hz4
                have HZS := Lib.hid (show z0.size = 33 by rw [hz0]; exact rc_size hiq)
                have HQR := Lib.hid hQr
                have HIQ := Lib.hid hiq
                have HROW := Lib.hid hrow
                obtain ⟨v0, hv0⟩ : ∃ v0, v0 = (R.nm 0).v := ⟨_, rfl⟩
                obtain ⟨vA, vn, vc, hv⟩ : ∃ A n c, v0 = .slice A n c := ⟨_, _, _, hv0⟩
                have HC0' := Lib.hid (show w3.cell? ⟨bb, oo + k * 33, none⟩ = some (.slice vA vn vc) by rw [← hv, hv0]; exact HC0.out)
                have hz5 := HZ4.out
                rw [← hv0, hv] at hz5
                have HZ5 := Lib.hid hz5
                clear hz4 hz5 hz0 hQr hiq hrow HZ4 hv hv0 HC0
                go_wp2_with (first
                  | ((with_reducible show wpList _ _ _ (Oper.mk (some 77) (Op.load _ _) _ _ _ _ :: _) _ _); refine wpList_oldS rfl _ _ rfl S _ rfl _ HC0'.out _ Try.underlying28 rfl ?_)
                  | ((with_reducible show wpList _ _ _ (Oper.mk (some 83) (Op.load _ _) _ _ _ _ :: _) _ _); refine wpList_oldS rfl _ _ rfl S _ rfl _ HC1.out _ Try.underlying3 rfl ?_)
                  | ((with_reducible show wpList _ _ _ (Oper.mk (some 89) (Op.load _ _) _ _ _ _ :: _) _ _); refine wpList_oldS rfl _ _ rfl S _ rfl _ HC2.out _ Try.underlying3 rfl ?_)
                  | ((with_reducible show wpList _ _ _ (Oper.mk (some 95) (Op.load _ _) _ _ _ _ :: _) _ _); refine wpList_oldS rfl _ _ rfl S _ rfl _ HC3.out _ Try.underlying3 rfl ?_)
                  | ((with_reducible show wpList _ _ _ (Oper.mk _ (Op.store _ (Operand.tmp 78) _) _ _ _ _ :: _) _ _); refine wpList_putS rfl _ _ _ rfl S _ _ rfl _ rfl rfl rfl 0 _ _ rfl nameInfo1 (by rw [HZS.out]; decide) ?_; clear S; intro w1 S; (first | simp only [List.set_cons_zero] at S | simp only [List.set_cons_succ, List.set_cons_zero] at S | skip))
                  | ((with_reducible show wpList _ _ _ (Oper.mk _ (Op.store _ (Operand.tmp 84) _) _ _ _ _ :: _) _ _); refine wpList_putS rfl _ _ _ rfl S _ _ rfl _ rfl rfl rfl 0 _ _ rfl intInfo1 (by simp only [Array.size_setIfInBounds]; rw [HZS.out]; decide) ?_; clear S; intro w1 S; (first | simp only [List.set_cons_zero] at S | simp only [List.set_cons_succ, List.set_cons_zero] at S | skip))
                  | ((with_reducible show wpList _ _ _ (Oper.mk _ (Op.store _ (Operand.tmp 90) _) _ _ _ _ :: _) _ _); refine wpList_putS rfl _ _ _ rfl S _ _ rfl _ rfl rfl rfl 0 _ _ rfl intInfo1 (by simp only [Array.size_setIfInBounds]; rw [HZS.out]; decide) ?_; clear S; intro w1 S; (first | simp only [List.set_cons_zero] at S | simp only [List.set_cons_succ, List.set_cons_zero] at S | skip))
                  | ((with_reducible show wpList _ _ _ (Oper.mk _ (Op.store _ (Operand.tmp 96) _) _ _ _ _ :: _) _ _); refine wpList_putS rfl _ _ _ rfl S _ _ rfl _ rfl rfl rfl 0 _ _ rfl intInfo1 (by simp only [Array.size_setIfInBounds]; rw [HZS.out]; decide) ?_; clear S; intro w1 S; (first | simp only [List.set_cons_zero] at S | simp only [List.set_cons_succ, List.set_cons_zero] at S | skip)))
                have S : Ats w3.heap.size w3 _ ((gx, 34, (((z0.setIfInBounds 0 (.slice vA vn vc)).setIfInBounds 1 (.int .i64 R.ty)).setIfInBounds 2 (.int .i64 R.cl)).setIfInBounds 3 (.int .i64 R.tt)) :: X) := S
                rw [HZ5.out] at S
                obtain ⟨zz, hzz⟩ : ∃ zz, zz = rcC { Qr with nm := upd Qr.nm 0 (R.nm 0), ty := R.ty, cl := R.cl, tt := R.tt } := ⟨_, rfl⟩
                have HZZ := Lib.hid (show (Try.prog.info? 34).map (·.size) = some zz.size by rw [hzz]; exact rcSize HIQ.out)
                rw [← hzz] at S
                have HSM3 := Lib.hid (show ∀ w', Ats w3.heap.size w3 w' ((gx, 34, zz) :: X) → Calls Try.prog 9 #[.agg zz, .agg pl.toArray] w' fun e w2 => e = .returned (.bool true) ∧ Below w'.heap.size w' w2 from fun w' S' => by
                  rw [hzz]
                  exact HSAME.out Qr w' HQR.out HIQ.out (fun j hj => ((HROW.out j hj).mono fun y hy => List.mem_cons_of_mem _ hy).texts S') (HB3.out.trans (S'.below.mono HB3.out.size)))
                clear hzz HZ5 HZS
                refine wp_region_mixO (C := fun w' => Ats w3.heap.size w3 w' ((gx, 34, zz) :: X)) [(0, true), (1, true), (2, true), (3, true), (4, true), (5, true), (6, true), (7, true), (8, false), (9, true), (10, true)] (by kernel_rfl) (by kernel_rfl) S.drew ?_
                simp only [List.map_cons, List.map_nil, List.getD_cons_zero, List.getD_cons_succ]
                have S := S.drew
                repeat (first
                  | (refine mix_move rfl _ rfl ?_; simp only [Act.put, Act.eval, Array.getD_eq_getD_getElem?, List.getElem?_toArray, List.getElem?_cons_succ, List.getElem?_cons_zero, Option.getD_some, List.setIfInBounds_toArray, List.set_cons_succ, List.set_cons_zero])
                  | (refine mix_loadS rfl _ (.tmp 10) rfl _ rfl 0 _ _ rfl _ Try.underlying34 rfl HZZ.out ?_; simp only [Act.put, Act.eval, Array.getD_eq_getD_getElem?, List.getElem?_toArray, List.getElem?_cons_succ, List.getElem?_cons_zero, Option.getD_some, List.setIfInBounds_toArray, List.set_cons_succ, List.set_cons_zero])
                  | (refine mix_oldPartB (w0 := w3) rfl _ (.tmp 103) rfl _ _ rfl pl HRC3.out _ Try.underlying34 rfl HRSZ.out (fun w' S' => S'.below) ?_; simp only [Act.put, Act.eval, Array.getD_eq_getD_getElem?, List.getElem?_toArray, List.getElem?_cons_succ, List.getElem?_cons_zero, Option.getD_some, List.setIfInBounds_toArray, List.set_cons_succ, List.set_cons_zero])
                  | (refine mix_val rfl (v := ?_) ?_ ?_; rotate_left; (focus (intro w _; go_simp; try with_reducible rfl)); simp only [Act.put, List.setIfInBounds_toArray, List.set_cons_succ, List.set_cons_zero]))
                refine mix_call 9 _ _ rfl rfl (enters_of Try.func9 (by kernel_rfl) rfl) ?_ (HSM3.out _ S) ?_
                · simp [Act.eval]
                rintro e w8 ⟨rfl, hb8⟩
                have S8 := S.call hb8
                refine ⟨_, rfl, S8, ?_⟩
                clear S hb8
                simp only [Act.put, Act.eval, Array.getD_eq_getD_getElem?, List.getElem?_toArray, List.getElem?_cons_succ, List.getElem?_cons_zero, Option.getD_some, List.setIfInBounds_toArray, List.set_cons_succ, List.set_cons_zero]
                repeat (first
                  | (refine mix_move rfl _ rfl ?_; simp only [Act.put, Act.eval, Array.getD_eq_getD_getElem?, List.getElem?_toArray, List.getElem?_cons_succ, List.getElem?_cons_zero, Option.getD_some, List.setIfInBounds_toArray, List.set_cons_succ, List.set_cons_zero])
                  | (refine mix_val rfl (v := ?_) ?_ ?_; rotate_left; (focus (intro w _; go_simp; try with_reducible rfl)); simp only [Act.put, List.setIfInBounds_toArray, List.set_cons_succ, List.set_cons_zero]))
                refine mix_nil ?_
                go_wp2_with fail
                go_roundw
                case rel => exact ⟨k + 1, O.2, x ++ O.1, by omega, by go_num, by rw [HCAT.out], HPT3.out.kept S8.below, HTOK2.out, HTL2.out, HXL2.out, HTI2.out⟩
                case measure => simp [intOf]; omega
            · have HPU := Lib.hid (show ∀ w2, PTab W w2 g T → Calls Try.prog 7 #[.agg pl.toArray, .int .i64 (sx.size : Int), .pointer (some ⟨g, 0, none⟩)] w2 fun e w' => e = .returned (.tuple #[.string ⟨#[]⟩, .int .i64 (recE R.tx)]) ∧ PTab W w' g T ∧ Kept isMapO g w2 w' ∧ Below W.heap.size W w' from fun w2 hT2 => by
                have h := hPU w2 hT2
                rw [if_neg hre, if_neg hre] at h
                rw [hpl]
                exact h)
              obtain ⟨re, hree⟩ : ∃ re, re = recE R.tx := ⟨_, rfl⟩
              rw [← hree] at hre HPU
              have tre : (re != 0) = true := by simpa using hre
              have HSX := Lib.hid hsx
              clear hTI hTok hPT hcell hR hRG hRc hpl hPU hsz hRin hsxz hsxl hat hTl2 hre hree hsm hRat hip hsx hRc2'
              go_wp2_with (first
                | ((with_reducible show wpList _ _ _ (Oper.mk (some 36) (Op.load _ _) _ _ _ _ :: _) _ _); refine wpList_oldPartW rfl _ _ rfl HBR.out _ _ rfl _ Try.underlying34 rfl pl HRSZ.out HRC.out ?_)
                | ((with_reducible refine (HSM2.out _ HBR.out).mono ?_); rintro e w2 ⟨rfl, hb⟩; have HPT2 := Lib.hid (HPT.out.kept hb); clear hb)
                | ((with_reducible show wpList _ _ _ (Oper.mk (some 43) (Op.load _ _) _ _ _ _ :: _) _ _); refine wpList_oldPartW rfl _ _ rfl HPT2.out.bw _ _ rfl _ Try.underlying34 rfl pl HRSZ.out HRC.out ?_)
                | ((with_reducible refine (HPU.out _ HPT2.out).mono ?_); rintro e w3 ⟨rfl, hp3, _, _⟩; have HPT3 := Lib.hid hp3; clear hp3))
              go_roundw
              case rel => exact ⟨k + 1, T, x, by omega, by go_num, by rw [HSX.out], HPT3.out, HTOK.out, by have := HTL.out; omega, by have := HXL.out; omega, HTI.out⟩
              case measure => simp [intOf]; omega
        · obtain rfl : k = n := by omega
          have HBR := Lib.hid hPT.bw
          clear hTI hTok hPT
          go_wp2_with fail
          go_ret
          exact ⟨rfl, HBR.out⟩
end Go.Proofs.Ytnoabmkmnddkkaa
namespace Go.Proofs.Ytnoabmkmnddkkaa
open Go.RowKit Go
set_option linter.unusedVariables false
set_option maxRecDepth 100000
theorem rdataBack_law {H : Type} {enc : TypeId × Value → H} {d1 : DataW H} {p1 : List MemPlace} {base : Nat} (first : ByteArray) (v1 : Value) (W : World) {q0 q1 : Prop} (_ : q0) (_ : q1) (o1 : Value.okWide Try.prog W .any base 22 v1)
    (k1 : DataW.Trod enc Try.prog W 0 (fun _ => true) true 22 v1 d1 p1) (z1 : (d1.weights Try.prog 22).all (· ≤ reachBytes) = true) :
    Calls Try.prog 3 #[.string first, v1] W fun e w' => e = .returned (.bool true) ∧ Below W.heap.size W w' := by
  obtain ⟨A, n, c, rfl⟩ := Go.WideShapes.okWide_slice Try.underlying22 o1
  obtain ⟨L, hL⟩ := open_rrs k1 z1
  exact back13_core first A n c L W hL
end Go.Proofs.Ytnoabmkmnddkkaa
