/- Texts behind a law of this seat, in order: Rec11, Rec12. -/
import Derived.Test.YtnoabmkmnddkkaaPa
import Derived.Test.YtnoabmkmnddkkaaPb
import Derived.Test.YtnoabmkmnddkkaaPc
import Derived.Test.YtnoabmkmnddkkaaPd
import Derived.Test.YtnoabmkmnddkkaaPe
import Derived.Test.YtnoabmkmnddkkaaPf
import Derived.Test.YtnoabmkmnddkkaaPg
import Derived.Test.YtnoabmkmnddkkaaPh
import Derived.Test.YtnoabmkmnddkkaaPi
import Derived.Test.YtnoabmkmnddkkaaPj
import Derived.Test.YtnoabmkmnddkkaaPk
import Derived.Test.YtnoabmkmnddkkaaPl
import Derived.Test.YtnoabmkmnddkkaaPm
import Derived.Test.YtnoabmkmnddkkaaPn
import Derived.Test.YtnoabmkmnddkkaaPp
import Derived.Test.YtnoabmkmnddkkaaPq
import Derived.Test.YtnoabmkmnddkkaaPr
import Derived.Test.YtnoabmkmnddkkaaPs
import Derived.Test.YtnoabmkmnddkkaaPt
import Derived.Test.YtnoabmkmnddkkaaPu
import Derived.Test.YtnoabmkmnddkkaaPv
import Derived.Test.YtnoabmkmnddkkaaPy
import Derived.Test.YtnoabmkmnddkkaaPz
import Derived.Test.YtnoabmkmnddkkaaQa
import Derived.Test.YtnoabmkmnddkkaaQb
import Derived.Test.YtnoabmkmnddkkaaQc
import Derived.Test.YtnoabmkmnddkkaaQd
import Derived.Test.YtnoabmkmnddkkaaQe
import Derived.Test.YtnoabmkmnddkkaaQf
import Derived.Below
import Derived.BigQuiet
import Derived.BigRegion
import Derived.ChangeSlices
import Derived.Deep.AppendLies
import Derived.Deep.Draws
import Derived.Deep.OwnRows
import Derived.Deep.Quiet
import Derived.Deep.QuietTactic
import Derived.Deep.RegionLaw
import Derived.Deep.Slices
import Derived.Great.Ranges
import Derived.Handed
import Derived.Handy
import Derived.Laws.CopyRow
import Derived.Laws.OwnMore
import Derived.Laws.Rows
import Derived.Laws.StructEq
import Derived.Lib.Hide
import Derived.Lib.ItoaNum
import Derived.Lib.Split
import Derived.Lib.SplitLaws
import Derived.Lib.Strings
import Derived.Maps.AppendAt
import Derived.Maps.OwnSet
import Derived.OpenShut
import Derived.Shelf.Strings.Builder1
import Derived.Shelf.Strings.BuilderF
import Derived.Shelf.Strings.BuilderK
import Derived.SizedLaws
import Derived.SliceStrings
import Derived.StillTailTactics
import Derived.Stop.BytesEq
import Derived.StringKeys
import Derived.Test.YtnoabmkmnddkkaaProg
import Derived.WalkKit
import Derived.WalkLawsBesides
import Derived.WalkSpells
namespace Go.Proofs.Ytnoabmkmnddkkaa
open Go.RowKit Go
set_option linter.unusedVariables false
set_option linter.unusedSimpArgs false
set_option maxRecDepth 100000
theorem At.keptT {w w' : World} {q g : Nat} {T : List (Lbs × Int)} {W0 : World} {t : TypeId} {cs : Array Value} (h : At w g t cs) (hp : PTab W0 w q T) (ht : t ≠ 45) (hk : Kept isMapO q w w') : At w' g t cs := by
  refine h.kept hk (fun e => ?_) rfl
  subst e
  obtain ⟨mv, S, _⟩ := hp
  have ha := S.get (i := 0) rfl
  unfold At at h ha
  rw [h] at ha
  injection ha with ha
  injection ha with _ h2
  exact ht h2
/-- the texts of a record's names lie in the world that the caller began with -/
def RcIn (W0 : World) (R : Rc Nm) : Prop := R.ip.length = 16 ∧ ∀ k, k ≤ 2 → TextsAt W0 (R.nm k).A (R.nm k).n (R.nm k).l ∧ sizeL (R.nm k).l ≤ 401
theorem RcIn.ok {W0 w : World} {R : Rc Nm} (h : RcIn W0 R) (hb : Below W0.heap.size W0 w) : RcOk w R :=
  ⟨h.1, fun k hk => ⟨(h.2 k (by omega)).1.below hb, (h.2 k (by omega)).2⟩⟩
theorem ba_push (a b : List UInt8) : (⟨a.toArray⟩ : ByteArray) ++ ⟨b.toArray⟩ = ⟨(a ++ b).toArray⟩ := by
  apply ByteArray.ext; simp
/-- one round of Put -/
def PutTR (W0 : World) (q N : Nat) (ga gp n : Nat) (R : Rc Nm) (w : World) (cs : Array Value) (ps : List Pt) (at_ : Int) (O : List UInt8 × List (Lbs × Int)) (s i : Value) (wr : World) : Prop :=
  ∃ (k : Nat) (out : List UInt8) (T : List (Lbs × Int)), k ≤ n ∧ i = .int .i64 k ∧ s = .string ⟨out.toArray⟩ ∧ out.length ≤ 65535 * k ∧ At wr ga 34 (rcC R) ∧ At wr gp 52 cs ∧ (PTab W0 wr q T ∧ TOk T ∧ T.length ≤ N + 401 * k ∧ Kept isMapO q w wr) ∧
    O = (out ++ (octL true R.tx (ps.drop k) (at_ + out.length) T).1, (octL true R.tx (ps.drop k) (at_ + out.length) T).2)
set_option maxHeartbeats 8000000 in
theorem rdPutT_any (R : Rc Nm) (W0 w : World) (hR : RcIn W0 R) (q : Nat) (T0 : List (Lbs × Int)) (hT : PTab W0 w q T0) (hTok : TOk T0) (hTl : T0.length ≤ 40000) (at_ : Int) (ha0 : 0 ≤ at_) (ha1 : at_ ≤ 50000000) :
    Calls Try.prog 7 #[rcV R, .int .i64 at_, .pointer (some ⟨q, 0, none⟩)] w fun e w' => e = .returned (.tuple #[.string ⟨(if recE R.tx = 0 then (octL true R.tx (rParts R.ty R.cl) at_ T0).1 else []).toArray⟩, .int .i64 (recE R.tx)]) ∧ (PTab W0 w' q (if recE R.tx = 0 then (octL true R.tx (rParts R.ty R.cl) at_ T0).2 else T0) ∧ Kept isMapO q w w' ∧ Below W0.heap.size W0 w') := by
  have S := Ats.start w
  have hbW := hT.bw
  have HT := Lib.hid hT
  have HTK := Lib.hid hTok
  have HTL := Lib.hid hTl
  have HCK := Lib.hid (fun w' (hb : Below w.heap.size w w') => rdCheck_any R w' (hR.ok (hbW.trans (hb.mono hbW.size))) ((hR.2 0 (by decide)).1.below (hbW.trans (hb.mono hbW.size))) (hR.2 0 (by decide)).2)
  have HPT := Lib.hid (fun ga w' (h : At w' ga 34 (rcC R)) => parts_any h)
  have hip := hR.1
  have HSZ := Lib.hid (rcSize hip)
  have hchk : recE R.tx = 0 → ∀ p ∈ rParts R.ty R.cl, chkP R.tx p = 0 := fun h => (recE_zero h).2.2.1
  have HOK := Lib.hid (rParts_ok R.ty R.cl)
  have HL7 := Lib.hid (rParts_len R.ty R.cl)
  obtain ⟨r, hr⟩ : ∃ r, r = recE R.tx := ⟨_, rfl⟩
  obtain ⟨ps, hps⟩ : ∃ ps, ps = rParts R.ty R.cl := ⟨_, rfl⟩
  rw [← hr] at HCK hchk ⊢
  rw [← hps] at HPT HOK HL7 hchk ⊢
  have HR := Lib.hid hR
  have HBW := Lib.hid hbW
  show Calls Try.prog _ #[.agg (rcC R), .int .i64 at_, .pointer (some ⟨q, 0, none⟩)] w _
  obtain ⟨xc, hxc⟩ : ∃ x, x = rcC R := ⟨_, rfl⟩
  rw [← hxc] at HPT HSZ ⊢
  have HCK2 := Lib.hid (show ∀ w', Below w.heap.size w w' → Calls Try.prog 12 #[.agg xc] w' fun e w2 => e = .returned (.int .i64 r) ∧ Below w'.heap.size w' w2 from fun w' hb => by rw [hxc]; exact HCK.out w' hb)
  have HXC := Lib.hid hxc
  clear hr hps hR hbW hxc HCK hT hTok hTl
  by_cases hr0 : r = 0
  · subst hr0
    have hchk := hchk rfl
    have HCHK := Lib.hid hchk
    simp only [if_true]
    obtain ⟨O, hO⟩ : ∃ O, O = octL true R.tx ps at_ T0 := ⟨_, rfl⟩
    rw [← hO]
    have HO := Lib.hid hO
    clear hO hchk
    go_enter Try.func7, Try.ntmps7
    go_wp2_with (first
      | ((with_reducible show wpList _ _ _ (Oper.mk _ (Op.box _ _) _ _ _ _ :: _) _ _); refine wpList_boxS rfl _ _ rfl xc rfl S ?_; clear S; intro ga w1 S)
      | ((with_reducible show wpList _ _ _ (Oper.mk _ (Op.load _ (Operand.tmp 3)) _ _ _ _ :: _) _ _); refine wpList_loadS rfl _ _ rfl S _ rfl 0 _ _ rfl _ Try.underlying34 rfl HSZ.out ?_)
      | ((with_reducible refine (HCK2.out _ S.below).mono ?_); rintro e w2 ⟨rfl, hb⟩; have S := S.call hb; clear hb)
      | ((with_reducible refine (HPT.out _ _ (S.get (i := 0) rfl)).mono ?_); rintro e w2 ⟨gp, c, cs, rfl, hg, ha, hcs, hb⟩; have S := (S.born hg ha hb).swap; have HCS := Lib.hid hcs; clear hg ha hb hcs))
    obtain ⟨n, hn⟩ : ∃ n, n = ps.length := ⟨_, rfl⟩
    rw [← hn]
    have HN := Lib.hid hn
    clear hn
    rw [HXC.out] at S
    have HA0 := Lib.hid (S.get (i := 0) rfl)
    have HA1 := Lib.hid (S.get (i := 1) rfl)
    have HB0 := Lib.hid S.below
    clear S
    go_loopw [9, 19] (fun s i wr => PutTR W0 q T0.length ga gp n R w cs ps at_ O s i wr) (fun _ i _ => n - (intOf i).toNat)
    case atStart => exact ⟨0, [], T0, Nat.zero_le _, rfl, rfl, Nat.zero_le _, HA0.out, HA1.out, ⟨HT.out.kept HB0.out, HTK.out, Nat.le_add_right _ _, Kept.below HB0.out⟩, by rw [HO.out, List.drop_zero]; simp⟩
    case round =>
      clear HA0 HA1 HB0
      obtain ⟨k, out, T, hk, rfl, rfl, hol, hA, hP, hI, hO⟩ := hrel
      have hn7 : n ≤ 7 := by rw [HN.out]; exact HL7.out
      by_cases hlt : k < n
      · have hlt' : k < ps.length := by rw [← HN.out]; exact hlt
        have hcell := HCS.out k hlt'
        have hpok := HOK.out ps[k] (List.getElem_mem hlt')
        have hpc := HCHK.out ps[k] (List.getElem_mem hlt')
        rw [drop_at hlt'] at hO
        obtain ⟨p, hp⟩ : ∃ p, p = ps[k] := ⟨_, rfl⟩
        rw [← hp] at hcell hpok hpc hO
        have hlen := octP_len true R.tx (at_ + out.length) T p hpok hpc
        have HTAB := Lib.hid (octP_tab true R.tx (at_ + out.length) T p (HR.out.2 1 (by decide)).2 (HR.out.2 2 (by decide)).2 hpok)
        obtain ⟨a, ha⟩ : ∃ a, a = octP true R.tx (at_ + out.length) T p := ⟨_, rfl⟩
        have hO2 : O = (out ++ (a.1 ++ (octL true R.tx (ps.drop (k + 1)) (at_ + out.length + a.1.length) a.2).1), (octL true R.tx (ps.drop (k + 1)) (at_ + out.length + a.1.length) a.2).2) := by rw [ha]; exact hO
        rw [← ha] at hlen HTAB
        have HO2 := Lib.hid (show O = ((out ++ a.1) ++ (octL true R.tx (ps.drop (k + 1)) (at_ + ((out ++ a.1).length : Nat)) a.2).1, (octL true R.tx (ps.drop (k + 1)) (at_ + ((out ++ a.1).length : Nat)) a.2).2) by
          have e : at_ + ((out ++ a.1).length : Nat) = at_ + out.length + a.1.length := by rw [List.length_append]; omega
          rw [e, List.append_assoc]; exact hO2)
        have HOL2 := Lib.hid (show (out ++ a.1).length ≤ 65535 * (k + 1) by rw [List.length_append]; omega)
        have hsz : (⟨out.toArray⟩ : ByteArray).size = out.length := rfl
        have hAN := Lib.hid hA
        have c1 : wr.cell? ⟨gp, k, none⟩ = some (ptV ga p) := hP.cells k hcell
        have HP1 := Lib.hid hP
        have HI := Lib.hid hI
        have hol7 : out.length ≤ 458745 := by omega
        have haw : IntKind.i64.wrap (at_ + (out.length : Int)) = at_ + (out.length : Int) := by rw [IntKind.wrap_i64]; omega
        have haw2 : wrap64 (at_ + (out.length : Int)) = at_ + (out.length : Int) := by go_arith
        have hcat : ¬ (9223372036854775807 : Nat) < out.length + a.1.length := by omega
        obtain ⟨sv, hsv⟩ : ∃ sv : ByteArray, sv = ⟨out.toArray⟩ := ⟨_, rfl⟩
        have hsvz : sv.size = out.length := by rw [hsv]; rfl
        obtain ⟨av, hav⟩ : ∃ av : ByteArray, av = ⟨a.1.toArray⟩ := ⟨_, rfl⟩
        have havz : av.size = a.1.length := by rw [hav]; rfl
        have HCAT := Lib.hid (show sv ++ av = ⟨(out ++ a.1).toArray⟩ by rw [hsv, hav, ba_push])
        rw [← hsv]
        have hol8 : (sv.size : Int) ≤ 458745 := by rw [hsvz]; omega
        have hal8 : av.size ≤ 65535 := by rw [havz]; exact hlen
        have hcat2 : sv.size + av.size ≤ 9223372036854775807 := by omega
        clear hp hO hO2 hP hlt' haw haw2 hol hlen hsz hcell hcat
        cases p with
        | raw =>
          have c2 : wr.cell? ⟨gp, k, none⟩ = some (.iface 62 (.agg #[.pointer (some ⟨ga, 32, none⟩)])) := c1
          clear c1
          have e2 : a.2 = T := by rw [ha]; rfl
          have HPU := Lib.hid (show Calls Try.prog 43 #[.agg #[.pointer (some ⟨ga, 32, none⟩)], .int .i64 (at_ + (out.length : Int)), .pointer (some ⟨q, 0, none⟩)] wr (fun e w' => e = .returned (.string av) ∧ Below wr.heap.size wr w') by rw [hav, ha]; exact rawPut_any R hip ga wr hAN.out (at_ + (out.length : Int)) (.pointer (some ⟨q, 0, none⟩)))
          have HE2 := Lib.hid e2
          clear hpok hpc ha hav hsv e2 hA hI
          go_wp2_with ((with_reducible refine HPU.out.mono ?_); rintro e w2 ⟨rfl, hb⟩; have HB := Lib.hid hb; clear hb)
          go_roundw
          case rel => exact ⟨k + 1, out ++ a.1, a.2, by omega, by go_num, by rw [HCAT.out], HOL2.out, hAN.out.below HB.out hAN.out.lt, HP1.out.below HB.out HP1.out.lt, ⟨by rw [HE2.out]; exact HI.out.1.kept HB.out, HTAB.out.2 HI.out.2.1, by have h1 := HTAB.out.1; have h2 := HI.out.2.2.1; omega, HI.out.2.2.2.trans (Kept.below HB.out)⟩, HO2.out⟩
          case measure => simp [intOf]; omega
        | adr f =>
          have c2 : wr.cell? ⟨gp, k, none⟩ = some (.iface 65 (.agg #[.pointer (some ⟨ga, 4, none⟩), .int .i64 f])) := c1
          clear c1
          have e2 : a.2 = T := by rw [ha]; rfl
          have HPU := Lib.hid (show Calls Try.prog 48 #[.agg #[.pointer (some ⟨ga, 4, none⟩), .int .i64 f], .int .i64 (at_ + (out.length : Int)), .pointer (some ⟨q, 0, none⟩)] wr (fun e w' => e = .returned (.string av) ∧ Below wr.heap.size wr w') by rw [hav, ha]; exact adPut_any R hip ga wr hAN.out (at_ + (out.length : Int)) (.pointer (some ⟨q, 0, none⟩)) f hpok)
          have HE2 := Lib.hid e2
          clear hpok hpc ha hav hsv e2 hA hI
          go_wp2_with ((with_reducible refine HPU.out.mono ?_); rintro e w2 ⟨rfl, hb⟩; have HB := Lib.hid hb; clear hb)
          go_roundw
          case rel => exact ⟨k + 1, out ++ a.1, a.2, by omega, by go_num, by rw [HCAT.out], HOL2.out, hAN.out.below HB.out hAN.out.lt, HP1.out.below HB.out HP1.out.lt, ⟨by rw [HE2.out]; exact HI.out.1.kept HB.out, HTAB.out.2 HI.out.2.1, by have h1 := HTAB.out.1; have h2 := HI.out.2.2.1; omega, HI.out.2.2.2.trans (Kept.below HB.out)⟩, HO2.out⟩
          case measure => simp [intOf]; omega
        | nam j b =>
          have c2 : wr.cell? ⟨gp, k, none⟩ = some (.iface 68 (.agg #[.pointer (some ⟨ga, 21 + j, none⟩), .bool b])) := c1
          clear c1
          have hjk : j ≤ 2 := by rcases hpok with rfl | rfl <;> decide
          have hbr := hI.1.bw
          have hl := (HR.out.2 j hjk).1.below hbr
          have hne : ∀ b' o', 0 < (R.nm j).n → (R.nm j).A = some ⟨b', o', none⟩ → b' ≠ q := fun b' o' h0 hA' => by
            obtain ⟨b2, o2, e, hlt2, _⟩ := (HR.out.2 j hjk).1.2 h0
            rw [e] at hA'
            injection hA' with hA'
            injection hA' with h1 _
            have := hI.1.ge
            omega
          cases b with
          | true =>
            have e2 : a = ((putO true (R.nm j).l (at_ + out.length) T).1, (putO true (R.nm j).l (at_ + out.length) T).2.1) := by rw [ha]; rfl
            have HPU := Lib.hid (show Calls Try.prog 56 #[.agg #[.pointer (some ⟨ga, 21 + j, none⟩), .bool true], .int .i64 (at_ + (out.length : Int)), .pointer (some ⟨q, 0, none⟩)] wr (fun e w' => e = .returned (.string av) ∧ PTab W0 w' q a.2 ∧ Kept isMapO q wr w' ∧ Below W0.heap.size W0 w') by
              rw [hav, e2]
              exact nameTab_any R hip ga wr hAN.out _ W0 q T hI.1 hI.2.1 (by have h1 := hI.2.2.1; have h2 := HTL.out; omega) j hpok hl hne (HR.out.2 j hjk).2)
            clear hpok hpc ha hav hsv e2 hA hI hl hne hbr hjk
            go_wp2_with ((with_reducible refine HPU.out.mono ?_); rintro e w2 ⟨rfl, hp2, hk2, hb2⟩; have HPP := Lib.hid hp2; have HKK := Lib.hid hk2; have HBB := Lib.hid hb2; clear hp2 hk2 hb2)
            go_roundw
            case rel => exact ⟨k + 1, out ++ a.1, a.2, by omega, by go_num, by rw [HCAT.out], HOL2.out, hAN.out.keptT HI.out.1 (by decide) HKK.out, HP1.out.keptT HI.out.1 (by decide) HKK.out, ⟨HPP.out, HTAB.out.2 HI.out.2.1, by have h1 := HTAB.out.1; have h2 := HI.out.2.2.1; omega, HI.out.2.2.2.trans HKK.out⟩, HO2.out⟩
            case measure => simp [intOf]; omega
          | false =>
            have e2 : a = ((putO false (R.nm j).l (at_ + out.length) []).1, T) := by rw [ha]; rfl
            have HPU := Lib.hid (show Calls Try.prog 56 #[.agg #[.pointer (some ⟨ga, 21 + j, none⟩), .bool false], .int .i64 (at_ + (out.length : Int)), .pointer (some ⟨q, 0, none⟩)] wr (fun e w' => e = .returned (.string av) ∧ Below wr.heap.size wr w') by
              rw [hav, e2]
              exact nameNil_any R hip ga wr hAN.out _ _ j false hpok hl (HR.out.2 j hjk).2 (.inl rfl))
            have HE2 := Lib.hid (show a.2 = T by rw [e2])
            clear hpok hpc ha hav hsv e2 hA hI hl hne hbr hjk
            go_wp2_with ((with_reducible refine HPU.out.mono ?_); rintro e w2 ⟨rfl, hb⟩; have HB := Lib.hid hb; clear hb)
            go_roundw
            case rel => exact ⟨k + 1, out ++ a.1, a.2, by omega, by go_num, by rw [HCAT.out], HOL2.out, hAN.out.below HB.out hAN.out.lt, HP1.out.below HB.out HP1.out.lt, ⟨by rw [HE2.out]; exact HI.out.1.kept HB.out, HTAB.out.2 HI.out.2.1, by have h1 := HTAB.out.1; have h2 := HI.out.2.2.1; omega, HI.out.2.2.2.trans (Kept.below HB.out)⟩, HO2.out⟩
            case measure => simp [intOf]; omega
        | num j wd =>
          have c2 : wr.cell? ⟨gp, k, none⟩ = some (.iface 71 (.agg #[.pointer (some ⟨ga, 24 + j, none⟩), .int .i64 wd])) := c1
          clear c1
          have e2 : a.2 = T := by rw [ha]; rfl
          have HPU := Lib.hid (show Calls Try.prog 82 #[.agg #[.pointer (some ⟨ga, 24 + j, none⟩), .int .i64 wd], .int .i64 (at_ + (out.length : Int)), .pointer (some ⟨q, 0, none⟩)] wr (fun e w' => e = .returned (.string av) ∧ Below wr.heap.size wr w') by rw [hav, ha]; exact numPut_any R hip ga wr hAN.out (at_ + (out.length : Int)) (.pointer (some ⟨q, 0, none⟩)) j wd hpok.1 hpok.2)
          have HE2 := Lib.hid e2
          clear hpok hpc ha hav hsv e2 hA hI
          go_wp2_with ((with_reducible refine HPU.out.mono ?_); rintro e w2 ⟨rfl, hb⟩; have HB := Lib.hid hb; clear hb)
          go_roundw
          case rel => exact ⟨k + 1, out ++ a.1, a.2, by omega, by go_num, by rw [HCAT.out], HOL2.out, hAN.out.below HB.out hAN.out.lt, HP1.out.below HB.out HP1.out.lt, ⟨by rw [HE2.out]; exact HI.out.1.kept HB.out, HTAB.out.2 HI.out.2.1, by have h1 := HTAB.out.1; have h2 := HI.out.2.2.1; omega, HI.out.2.2.2.trans (Kept.below HB.out)⟩, HO2.out⟩
          case measure => simp [intOf]; omega
      · obtain rfl : k = n := by omega
        have hnil : ps.drop k = [] := List.drop_eq_nil_of_le (by rw [HN.out]; exact Nat.le_refl _)
        rw [hnil] at hO
        have hO2 : O = (out ++ [], T) := hO
        rw [List.append_nil] at hO2
        have HO2 := Lib.hid hO2
        have HI := Lib.hid hI
        clear hnil hO hO2 hol hA hP hlt hI
        go_wp2_with fail
        go_returns
        exact ⟨by rw [HO2.out]; rfl, by rw [HO2.out]; exact HI.out.1, HI.out.2.2.2, HI.out.1.bw⟩
  · have tx : (r != 0) = true := by simpa using hr0
    simp only [hr0, if_false]
    clear hr0 hchk
    go_enter Try.func7, Try.ntmps7
    go_wp2_with (first
      | ((with_reducible show wpList _ _ _ (Oper.mk _ (Op.box _ _) _ _ _ _ :: _) _ _); refine wpList_boxS rfl _ _ rfl xc rfl S ?_; clear S; intro ga w1 S)
      | ((with_reducible show wpList _ _ _ (Oper.mk _ (Op.load _ (Operand.tmp 3)) _ _ _ _ :: _) _ _); refine wpList_loadS rfl _ _ rfl S _ rfl 0 _ _ rfl _ Try.underlying34 rfl HSZ.out ?_)
      | ((with_reducible refine (HCK2.out _ S.below).mono ?_); rintro e w2 ⟨rfl, hb⟩; have S := S.call hb; clear hb))
    go_returns
    exact ⟨rfl, HT.out.kept S.below, Kept.below S.below, (HT.out.kept S.below).bw⟩
end Go.Proofs.Ytnoabmkmnddkkaa
namespace Go.Proofs.Ytnoabmkmnddkkaa
open Go.RowKit Go
set_option linter.unusedVariables false
set_option linter.unusedSimpArgs false
set_option maxRecDepth 100000
/-- one round of Put -/
def PutNR (W0 : World) (ga gp n : Nat) (R : Rc Nm) (w : World) (cs : Array Value) (ps : List Pt) (at_ : Int) (O : List UInt8 × List (Lbs × Int)) (s i : Value) (wr : World) : Prop :=
  ∃ (k : Nat) (out : List UInt8) (T : List (Lbs × Int)), k ≤ n ∧ i = .int .i64 k ∧ s = .string ⟨out.toArray⟩ ∧ out.length ≤ 65535 * k ∧ At wr ga 34 (rcC R) ∧ At wr gp 52 cs ∧ (Below w.heap.size w wr ∧ T = []) ∧
    O = (out ++ (octL false R.tx (ps.drop k) (at_ + out.length) T).1, (octL false R.tx (ps.drop k) (at_ + out.length) T).2)
set_option maxHeartbeats 8000000 in
theorem rdPutN_any (R : Rc Nm) (W0 w : World) (hR : RcIn W0 R) (hbW : Below W0.heap.size W0 w) (at_ : Int) (ha0 : 0 ≤ at_) (ha1 : at_ ≤ 50000000) :
    Calls Try.prog 7 #[rcV R, .int .i64 at_, .pointer none] w fun e w' => e = .returned (.tuple #[.string ⟨(if recE R.tx = 0 then (octL false R.tx (rParts R.ty R.cl) at_ []).1 else []).toArray⟩, .int .i64 (recE R.tx)]) ∧ Below w.heap.size w w' := by
  have S := Ats.start w
  have HCK := Lib.hid (fun w' (hb : Below w.heap.size w w') => rdCheck_any R w' (hR.ok (hbW.trans (hb.mono hbW.size))) ((hR.2 0 (by decide)).1.below (hbW.trans (hb.mono hbW.size))) (hR.2 0 (by decide)).2)
  have HPT := Lib.hid (fun ga w' (h : At w' ga 34 (rcC R)) => parts_any h)
  have hip := hR.1
  have HSZ := Lib.hid (rcSize hip)
  have hchk : recE R.tx = 0 → ∀ p ∈ rParts R.ty R.cl, chkP R.tx p = 0 := fun h => (recE_zero h).2.2.1
  have HOK := Lib.hid (rParts_ok R.ty R.cl)
  have HL7 := Lib.hid (rParts_len R.ty R.cl)
  obtain ⟨r, hr⟩ : ∃ r, r = recE R.tx := ⟨_, rfl⟩
  obtain ⟨ps, hps⟩ : ∃ ps, ps = rParts R.ty R.cl := ⟨_, rfl⟩
  rw [← hr] at HCK hchk ⊢
  rw [← hps] at HPT HOK HL7 hchk ⊢
  have HR := Lib.hid hR
  have HBW := Lib.hid hbW
  show Calls Try.prog _ #[.agg (rcC R), .int .i64 at_, .pointer none] w _
  obtain ⟨xc, hxc⟩ : ∃ x, x = rcC R := ⟨_, rfl⟩
  rw [← hxc] at HPT HSZ ⊢
  have HCK2 := Lib.hid (show ∀ w', Below w.heap.size w w' → Calls Try.prog 12 #[.agg xc] w' fun e w2 => e = .returned (.int .i64 r) ∧ Below w'.heap.size w' w2 from fun w' hb => by rw [hxc]; exact HCK.out w' hb)
  have HXC := Lib.hid hxc
  clear hr hps hR hbW hxc HCK 
  by_cases hr0 : r = 0
  · subst hr0
    have hchk := hchk rfl
    have HCHK := Lib.hid hchk
    simp only [if_true]
    obtain ⟨O, hO⟩ : ∃ O, O = octL false R.tx ps at_ [] := ⟨_, rfl⟩
    rw [← hO]
    have HO := Lib.hid hO
    clear hO hchk
    go_enter Try.func7, Try.ntmps7
    go_wp2_with (first
      | ((with_reducible show wpList _ _ _ (Oper.mk _ (Op.box _ _) _ _ _ _ :: _) _ _); refine wpList_boxS rfl _ _ rfl xc rfl S ?_; clear S; intro ga w1 S)
      | ((with_reducible show wpList _ _ _ (Oper.mk _ (Op.load _ (Operand.tmp 3)) _ _ _ _ :: _) _ _); refine wpList_loadS rfl _ _ rfl S _ rfl 0 _ _ rfl _ Try.underlying34 rfl HSZ.out ?_)
      | ((with_reducible refine (HCK2.out _ S.below).mono ?_); rintro e w2 ⟨rfl, hb⟩; have S := S.call hb; clear hb)
      | ((with_reducible refine (HPT.out _ _ (S.get (i := 0) rfl)).mono ?_); rintro e w2 ⟨gp, c, cs, rfl, hg, ha, hcs, hb⟩; have S := (S.born hg ha hb).swap; have HCS := Lib.hid hcs; clear hg ha hb hcs))
    obtain ⟨n, hn⟩ : ∃ n, n = ps.length := ⟨_, rfl⟩
    rw [← hn]
    have HN := Lib.hid hn
    clear hn
    rw [HXC.out] at S
    have HA0 := Lib.hid (S.get (i := 0) rfl)
    have HA1 := Lib.hid (S.get (i := 1) rfl)
    have HB0 := Lib.hid S.below
    clear S
    go_loopw [9, 19] (fun s i wr => PutNR W0  ga gp n R w cs ps at_ O s i wr) (fun _ i _ => n - (intOf i).toNat)
    case atStart => exact ⟨0, [], [], Nat.zero_le _, rfl, rfl, Nat.zero_le _, HA0.out, HA1.out, ⟨HB0.out, rfl⟩, by rw [HO.out, List.drop_zero]; simp⟩
    case round =>
      clear HA0 HA1 HB0
      obtain ⟨k, out, T, hk, rfl, rfl, hol, hA, hP, hI, hO⟩ := hrel
      have hn7 : n ≤ 7 := by rw [HN.out]; exact HL7.out
      by_cases hlt : k < n
      · have hlt' : k < ps.length := by rw [← HN.out]; exact hlt
        have hcell := HCS.out k hlt'
        have hpok := HOK.out ps[k] (List.getElem_mem hlt')
        have hpc := HCHK.out ps[k] (List.getElem_mem hlt')
        rw [drop_at hlt'] at hO
        obtain ⟨p, hp⟩ : ∃ p, p = ps[k] := ⟨_, rfl⟩
        rw [← hp] at hcell hpok hpc hO
        have hlen := octP_len false R.tx (at_ + out.length) T p hpok hpc
        have HTAB := Lib.hid (octP_tab false R.tx (at_ + out.length) T p (HR.out.2 1 (by decide)).2 (HR.out.2 2 (by decide)).2 hpok)
        obtain ⟨a, ha⟩ : ∃ a, a = octP false R.tx (at_ + out.length) T p := ⟨_, rfl⟩
        have hO2 : O = (out ++ (a.1 ++ (octL false R.tx (ps.drop (k + 1)) (at_ + out.length + a.1.length) a.2).1), (octL false R.tx (ps.drop (k + 1)) (at_ + out.length + a.1.length) a.2).2) := by rw [ha]; exact hO
        rw [← ha] at hlen HTAB
        have HO2 := Lib.hid (show O = ((out ++ a.1) ++ (octL false R.tx (ps.drop (k + 1)) (at_ + ((out ++ a.1).length : Nat)) a.2).1, (octL false R.tx (ps.drop (k + 1)) (at_ + ((out ++ a.1).length : Nat)) a.2).2) by
          have e : at_ + ((out ++ a.1).length : Nat) = at_ + out.length + a.1.length := by rw [List.length_append]; omega
          rw [e, List.append_assoc]; exact hO2)
        have HOL2 := Lib.hid (show (out ++ a.1).length ≤ 65535 * (k + 1) by rw [List.length_append]; omega)
        have hsz : (⟨out.toArray⟩ : ByteArray).size = out.length := rfl
        have hAN := Lib.hid hA
        have c1 : wr.cell? ⟨gp, k, none⟩ = some (ptV ga p) := hP.cells k hcell
        have HP1 := Lib.hid hP
        have HI := Lib.hid hI
        have hol7 : out.length ≤ 458745 := by omega
        have haw : IntKind.i64.wrap (at_ + (out.length : Int)) = at_ + (out.length : Int) := by rw [IntKind.wrap_i64]; omega
        have haw2 : wrap64 (at_ + (out.length : Int)) = at_ + (out.length : Int) := by go_arith
        have hcat : ¬ (9223372036854775807 : Nat) < out.length + a.1.length := by omega
        obtain ⟨sv, hsv⟩ : ∃ sv : ByteArray, sv = ⟨out.toArray⟩ := ⟨_, rfl⟩
        have hsvz : sv.size = out.length := by rw [hsv]; rfl
        obtain ⟨av, hav⟩ : ∃ av : ByteArray, av = ⟨a.1.toArray⟩ := ⟨_, rfl⟩
        have havz : av.size = a.1.length := by rw [hav]; rfl
        have HCAT := Lib.hid (show sv ++ av = ⟨(out ++ a.1).toArray⟩ by rw [hsv, hav, ba_push])
        rw [← hsv]
        have hol8 : (sv.size : Int) ≤ 458745 := by rw [hsvz]; omega
        have hal8 : av.size ≤ 65535 := by rw [havz]; exact hlen
        have hcat2 : sv.size + av.size ≤ 9223372036854775807 := by omega
        clear hp hO hO2 hP hlt' haw haw2 hol hlen hsz hcell hcat
        cases p with
        | raw =>
          have c2 : wr.cell? ⟨gp, k, none⟩ = some (.iface 62 (.agg #[.pointer (some ⟨ga, 32, none⟩)])) := c1
          clear c1
          have e2 : a.2 = T := by rw [ha]; rfl
          have HPU := Lib.hid (show Calls Try.prog 43 #[.agg #[.pointer (some ⟨ga, 32, none⟩)], .int .i64 (at_ + (out.length : Int)), .pointer none] wr (fun e w' => e = .returned (.string av) ∧ Below wr.heap.size wr w') by rw [hav, ha]; exact rawPut_any R hip ga wr hAN.out (at_ + (out.length : Int)) (.pointer none))
          have HE2 := Lib.hid e2
          clear hpok hpc ha hav hsv e2 hA hI
          go_wp2_with ((with_reducible refine HPU.out.mono ?_); rintro e w2 ⟨rfl, hb⟩; have HB := Lib.hid hb; clear hb)
          go_roundw
          case rel => exact ⟨k + 1, out ++ a.1, a.2, by omega, by go_num, by rw [HCAT.out], HOL2.out, hAN.out.below HB.out hAN.out.lt, HP1.out.below HB.out HP1.out.lt, ⟨HI.out.1.trans (HB.out.mono HI.out.1.size), by rw [HE2.out]; exact HI.out.2⟩, HO2.out⟩
          case measure => simp [intOf]; omega
        | adr f =>
          have c2 : wr.cell? ⟨gp, k, none⟩ = some (.iface 65 (.agg #[.pointer (some ⟨ga, 4, none⟩), .int .i64 f])) := c1
          clear c1
          have e2 : a.2 = T := by rw [ha]; rfl
          have HPU := Lib.hid (show Calls Try.prog 48 #[.agg #[.pointer (some ⟨ga, 4, none⟩), .int .i64 f], .int .i64 (at_ + (out.length : Int)), .pointer none] wr (fun e w' => e = .returned (.string av) ∧ Below wr.heap.size wr w') by rw [hav, ha]; exact adPut_any R hip ga wr hAN.out (at_ + (out.length : Int)) (.pointer none) f hpok)
          have HE2 := Lib.hid e2
          clear hpok hpc ha hav hsv e2 hA hI
          go_wp2_with ((with_reducible refine HPU.out.mono ?_); rintro e w2 ⟨rfl, hb⟩; have HB := Lib.hid hb; clear hb)
          go_roundw
          case rel => exact ⟨k + 1, out ++ a.1, a.2, by omega, by go_num, by rw [HCAT.out], HOL2.out, hAN.out.below HB.out hAN.out.lt, HP1.out.below HB.out HP1.out.lt, ⟨HI.out.1.trans (HB.out.mono HI.out.1.size), by rw [HE2.out]; exact HI.out.2⟩, HO2.out⟩
          case measure => simp [intOf]; omega
        | nam j b =>
          have c2 : wr.cell? ⟨gp, k, none⟩ = some (.iface 68 (.agg #[.pointer (some ⟨ga, 21 + j, none⟩), .bool b])) := c1
          clear c1
          have e2 : a = ((putO false (R.nm j).l (at_ + out.length) []).1, T) := by
            rw [ha]
            show (if (b && false) = true then _ else _) = _
            rw [Bool.and_false, if_neg (by decide)]
            rfl
          have HPU := Lib.hid (show Calls Try.prog 56 #[.agg #[.pointer (some ⟨ga, 21 + j, none⟩), .bool b], .int .i64 (at_ + (out.length : Int)), .pointer none] wr (fun e w' => e = .returned (.string av) ∧ Below wr.heap.size wr w') by
            rw [hav, e2]
            exact nameNil_any R hip ga wr hAN.out _ (.pointer none) j b hpok ((HR.out.2 j (by rcases hpok with rfl | rfl <;> decide)).1.below (HBW.out.trans (hI.1.mono HBW.out.size))) (HR.out.2 j (by rcases hpok with rfl | rfl <;> decide)).2 (.inr rfl))
          have HE2 := Lib.hid (show a.2 = T by rw [e2])
          clear hpok hpc ha hav hsv e2 hA hI
          go_wp2_with ((with_reducible refine HPU.out.mono ?_); rintro e w2 ⟨rfl, hb⟩; have HB := Lib.hid hb; clear hb)
          go_roundw
          case rel => exact ⟨k + 1, out ++ a.1, a.2, by omega, by go_num, by rw [HCAT.out], HOL2.out, hAN.out.below HB.out hAN.out.lt, HP1.out.below HB.out HP1.out.lt, ⟨HI.out.1.trans (HB.out.mono HI.out.1.size), by rw [HE2.out]; exact HI.out.2⟩, HO2.out⟩
          case measure => simp [intOf]; omega
        | num j wd =>
          have c2 : wr.cell? ⟨gp, k, none⟩ = some (.iface 71 (.agg #[.pointer (some ⟨ga, 24 + j, none⟩), .int .i64 wd])) := c1
          clear c1
          have e2 : a.2 = T := by rw [ha]; rfl
          have HPU := Lib.hid (show Calls Try.prog 82 #[.agg #[.pointer (some ⟨ga, 24 + j, none⟩), .int .i64 wd], .int .i64 (at_ + (out.length : Int)), .pointer none] wr (fun e w' => e = .returned (.string av) ∧ Below wr.heap.size wr w') by rw [hav, ha]; exact numPut_any R hip ga wr hAN.out (at_ + (out.length : Int)) (.pointer none) j wd hpok.1 hpok.2)
          have HE2 := Lib.hid e2
          clear hpok hpc ha hav hsv e2 hA hI
          go_wp2_with ((with_reducible refine HPU.out.mono ?_); rintro e w2 ⟨rfl, hb⟩; have HB := Lib.hid hb; clear hb)
          go_roundw
          case rel => exact ⟨k + 1, out ++ a.1, a.2, by omega, by go_num, by rw [HCAT.out], HOL2.out, hAN.out.below HB.out hAN.out.lt, HP1.out.below HB.out HP1.out.lt, ⟨HI.out.1.trans (HB.out.mono HI.out.1.size), by rw [HE2.out]; exact HI.out.2⟩, HO2.out⟩
          case measure => simp [intOf]; omega
      · obtain rfl : k = n := by omega
        have hnil : ps.drop k = [] := List.drop_eq_nil_of_le (by rw [HN.out]; exact Nat.le_refl _)
        rw [hnil] at hO
        have hO2 : O = (out ++ [], T) := hO
        rw [List.append_nil] at hO2
        have HO2 := Lib.hid hO2
        have HI := Lib.hid hI
        clear hnil hO hO2 hol hA hP hlt hI
        go_wp2_with fail
        go_returns
        exact ⟨by rw [HO2.out]; rfl, HI.out.1⟩
  · have tx : (r != 0) = true := by simpa using hr0
    simp only [hr0, if_false]
    clear hr0 hchk
    go_enter Try.func7, Try.ntmps7
    go_wp2_with (first
      | ((with_reducible show wpList _ _ _ (Oper.mk _ (Op.box _ _) _ _ _ _ :: _) _ _); refine wpList_boxS rfl _ _ rfl xc rfl S ?_; clear S; intro ga w1 S)
      | ((with_reducible show wpList _ _ _ (Oper.mk _ (Op.load _ (Operand.tmp 3)) _ _ _ _ :: _) _ _); refine wpList_loadS rfl _ _ rfl S _ rfl 0 _ _ rfl _ Try.underlying34 rfl HSZ.out ?_)
      | ((with_reducible refine (HCK2.out _ S.below).mono ?_); rintro e w2 ⟨rfl, hb⟩; have S := S.call hb; clear hb))
    go_returns
    exact ⟨rfl, S.below⟩
end Go.Proofs.Ytnoabmkmnddkkaa
