/- Texts behind a law of this seat, in order: TabC3, TabC4. -/
import Derived.Test.YtnoabmkmnddkkaaPa
import Derived.Test.YtnoabmkmnddkkaaPb
import Derived.Test.YtnoabmkmnddkkaaPc
import Derived.Test.YtnoabmkmnddkkaaPd
import Derived.Test.YtnoabmkmnddkkaaPf
import Derived.Test.YtnoabmkmnddkkaaPg
import Derived.Test.YtnoabmkmnddkkaaPh
import Derived.Test.YtnoabmkmnddkkaaPi
import Derived.Test.YtnoabmkmnddkkaaPj
import Derived.Test.YtnoabmkmnddkkaaPk
import Derived.Test.YtnoabmkmnddkkaaPm
import Derived.Test.YtnoabmkmnddkkaaPn
import Derived.Test.YtnoabmkmnddkkaaPp
import Derived.Test.YtnoabmkmnddkkaaPq
import Derived.Test.YtnoabmkmnddkkaaPr
import Derived.Test.YtnoabmkmnddkkaaPs
import Derived.Test.YtnoabmkmnddkkaaPt
import Derived.Below
import Derived.BigQuiet
import Derived.BigRegion
import Derived.ChangeSlices
import Derived.Deep.AppendLies
import Derived.Deep.Draws
import Derived.Deep.OwnRows
import Derived.Deep.Quiet
import Derived.Deep.QuietTactic
import Derived.Deep.RegionLaw
import Derived.Great.Ranges
import Derived.Handed
import Derived.Handy
import Derived.Laws.OwnMore
import Derived.Laws.Rows
import Derived.Lib.Hide
import Derived.Lib.Strings
import Derived.Maps.OwnSet
import Derived.Shelf.Strings.Builder1
import Derived.Shelf.Strings.BuilderF
import Derived.Shelf.Strings.BuilderK
import Derived.SizedLaws
import Derived.SliceStrings
import Derived.StillTailTactics
import Derived.StringKeys
import Derived.Test.YtnoabmkmnddkkaaProg
import Derived.WalkKit
import Derived.WalkLawsBesides
import Derived.WalkSpells
namespace Go.Proofs.Ytnoabmkmnddkkaa
open Go.RowKit Go
set_option linter.unusedVariables false
theorem wire_extract (l : Lbs) (k : Nat) : (⟨(wireB l).toArray⟩ : ByteArray).extract (labsB (l.take k)).length (⟨(wireB l).toArray⟩ : ByteArray).size = ⟨(wireB (l.drop k)).toArray⟩ := by
  rw [Lib.extract_eq]
  rw [wireB_drop, List.take_of_length_le]
  rw [wireB_len, show (⟨(wireB l).toArray⟩ : ByteArray).size = (wireB l).length from rfl, wireB_len]
  have h1 := labsB_len (l.take k)
  have h2 := size_app (l.take k) (l.drop k)
  rw [List.take_append_drop] at h2
  omega
theorem wire_extract0 (l : Lbs) (k : Nat) : (⟨(wireB l).toArray⟩ : ByteArray).extract 0 (labsB (l.take k)).length = ⟨(labsB (l.take k)).toArray⟩ := by
  rw [Lib.extract_eq]
  simp only [List.drop_zero, Nat.sub_zero]
  rw [wireB_take]
def PutC (A : Option Addr) (W0 w : World) (g n : Nat) (l : Lbs) (at_ : Int) (ok : Bool) (N : Nat) (O : List UInt8 × List (Lbs × Int)) (f i : Value) (wr : World) : Prop :=
  ∃ (k : Nat) (T : List (Lbs × Int)), k ≤ n ∧ i = .int .i64 k ∧ f = .int .i64 (labsB (l.take k)).length ∧ PTab W0 wr g T ∧ TOk T ∧ T.length ≤ N + k ∧ Kept isMapO g w wr ∧ Below W0.heap.size W0 wr ∧ TextsAt wr A n l ∧
    O = (labsB (l.take k) ++ (pkPut ok (l.drop k) (at_ + (labsB (l.take k)).length) T).1, (pkPut ok (l.drop k) (at_ + (labsB (l.take k)).length) T).2)
theorem textsAt_kept {w w' : World} {A : Option Addr} {n g : Nat} {l : Lbs} (h : TextsAt w A n l) (hk : Kept isMapO g w w') (hne : ∀ b o, 0 < n → A = some ⟨b, o, none⟩ → b ≠ g) : TextsAt w' A n l := by
  refine ⟨h.1, fun h0 => ?_⟩
  obtain ⟨b, o, hA, hlt, hc⟩ := h.2 h0
  have hl0 : 0 < l.length := by have := h.1; omega
  have e : w'.heap[b]? = w.heap[b]? := hk.block b hlt (hne b o h0 hA) fun ob ho => by
    have := hc 0 hl0
    cases ob with
    | map es c => simp [World.cell?, ho] at this
    | _ => rfl
  exact ⟨b, o, hA, Nat.lt_of_lt_of_le hlt hk.size, fun j hj => by rw [← hc j hj]; simp [World.cell?, e]⟩
theorem all_drop {l : Lbs} (h : l.all okLab = true) (k : Nat) : (l.drop k).all okLab = true := by
  rw [List.all_eq_true] at h ⊢
  exact fun x hx => h x (List.mem_of_mem_drop hx)
theorem sizeL_drop (l : Lbs) (k : Nat) : sizeL (l.drop k) ≤ sizeL l := by
  have h2 := size_app (l.take k) (l.drop k)
  rw [List.take_append_drop] at h2
  have := size_pos (l.take k)
  have := size_pos (l.drop k)
  omega
set_option maxRecDepth 100000 in
set_option maxHeartbeats 8000000 in
theorem putTab_any (W0 w : World) (g : Nat) (T0 : List (Lbs × Int)) (hT : PTab W0 w g T0) (hTok : TOk T0) (hTl : T0.length ≤ 50000) (A : Option Addr) (n c : Nat) (l : Lbs) (hl : TextsAt w A n l) (hne : ∀ b o, 0 < n → A = some ⟨b, o, none⟩ → b ≠ g) (hb : sizeL l ≤ 401) (at_ : Int) :
    Calls Try.prog 59 #[.pointer (some ⟨g, 0, none⟩), .slice A n c, .int .i64 at_] w fun e w' => e = .returned (.tuple #[.string ⟨(putO true l at_ T0).1.toArray⟩, .int .i64 (putO true l at_ T0).2.2]) ∧ PTab W0 w' g (putO true l at_ T0).2.1 ∧ Kept isMapO g w w' ∧ Below W0.heap.size W0 w' := by
  have hW : Below W0.heap.size W0 w := by obtain ⟨_, S, _⟩ := hT; exact S.below
  have HC := Lib.hid (check_any A n c l w hl (by omega))
  have HNE := Lib.hid hne
  by_cases h0 : checkL l = 0
  · have hO : putO true l at_ T0 = ((pkPut (decide (0 ≤ at_)) l at_ T0).1, (pkPut (decide (0 ≤ at_)) l at_ T0).2, 0) := by
      unfold putO
      rw [if_pos h0, Bool.true_and]
    rw [hO]
    rw [h0] at HC
    have hS := (checkL_ok.1 h0).2
    have HALL := Lib.hid (checkL_ok.1 h0).1
    have HW := Lib.hid hW
    have HP := Lib.hid (fun (m n : Int) w => octPut_any m n w)
    have HOC := Lib.hid (octets_any A n c l w hl (by omega))
    have hlen := size_len l
    have hn4 : n ≤ 400 := by have := hl.1; omega
    have HLN := Lib.hid hl.1
    obtain ⟨O, hOv⟩ : ∃ O, O = pkPut (decide (0 ≤ at_)) l at_ T0 := ⟨_, rfl⟩
    rw [← hOv]
    obtain ⟨N, hN⟩ : ∃ N, N = T0.length := ⟨_, rfl⟩
    have HST := Lib.hid (fun wr (hb : Below w.heap.size w wr) => (⟨0, T0, Nat.zero_le _, rfl, rfl, hT.kept hb, hTok, by rw [hN]; exact Nat.le_refl _, Kept.below hb, hW.trans (hb.mono hW.size), hl.below hb, by rw [hOv]; simp [labsB]⟩ : PutC A W0 w g n l at_ (decide (0 ≤ at_)) N O (.int .i64 0) (.int .i64 0) wr))
    rw [← hN] at hTl
    obtain ⟨wb, hwb⟩ : ∃ wb : ByteArray, wb = ⟨(wireB l).toArray⟩ := ⟨_, rfl⟩
    have hwz : wb.size = sizeL l := by rw [hwb, ← wireB_len]; rfl
    rw [← hwb] at HOC
    have HWB := Lib.hid hwb
    have HWZ := Lib.hid hwz
    clear hO h0 hb hW hT hTok hOv hN hl hwb hwz hne
    go_enter Try.func59, Try.ntmps59
    go_wp2_with (first
      | ((with_reducible refine HC.out.mono ?_); rintro e w2 ⟨rfl, rfl⟩)
      | ((with_reducible refine HOC.out.mono ?_); rintro e w3 ⟨rfl, hb3⟩; have HB3 := Lib.hid hb3; clear hb3))
    go_loopw [10, 24] (fun f i wr => PutC A W0 w g n l at_ (decide (0 ≤ at_)) N O f i wr) (fun _ i _ => n - (intOf i).toNat)
    case atStart => exact HST.out _ HB3.out
    case round =>
      obtain ⟨k, T, hk, rfl, rfl, hPT, hTok, hTl2, hKP, hBW, hTX, hO⟩ := hrel
      have hwz := HWZ.out
      by_cases hlt : k < n
      · obtain ⟨b, o, rfl, hbh, hcell⟩ := hTX.2 (by omega)
        have hkl : k < l.length := by have := HLN.out; omega
        have c1 := hcell k hkl
        have HTX := Lib.hid hTX
        have hlab := labsB_take l k hkl
        have hdl := drop_lab l k hkl
        have hz1 := labsB_len (l.take k)
        have hz2 := size_at l k hkl
        have hPl := place_any W0 wr g T hPT (l.drop k) (all_drop HALL.out k) (by have := sizeL_drop l k; omega)
        have hwe := wire_extract l k
        have hw0 := wire_extract0 l k
        rw [← HWB.out] at hwe hw0
        rw [← hwe] at hPl
        obtain ⟨x, hx⟩ : ∃ x, x = l[k] := ⟨_, rfl⟩
        rw [← hx] at c1 hlab hz2 hdl
        obtain ⟨xb, hxb⟩ : ∃ xb : ByteArray, xb = ⟨x.toArray⟩ := ⟨_, rfl⟩
        have hxz : xb.size = x.length := by rw [hxb]; rfl
        unfold strV at c1
        rw [← hxb] at c1
        have hLn := fun hf => learn_any W0 wr g T hPT (by omega) (l.drop k) (all_drop HALL.out k) (by have := sizeL_drop l k; omega) hf at_ (labsB (l.take k)).length (by omega)
        rw [← hwe] at hLn
        obtain ⟨f, hf⟩ : ∃ f, f = (labsB (l.take k)).length := ⟨_, rfl⟩
        rw [← hf] at hPl hLn hw0 hO hz1 ⊢
        have hfb : f ≤ wb.size := by omega
        have hfl : (labsB (l.take (k + 1))).length = f + (x.length + 1) := by rw [hlab, List.length_append, labB_len, ← hf]
        have hx4 : xb.size ≤ 300 := by omega
        have hwz3 : wb.size ≤ 300 := by omega
        rw [hdl] at hO
        cases hfd : pkFind T (x :: l.drop (k + 1)) with
        | some to =>
          have hto := hTok.find hfd
          rw [pkPut_hit hfd] at hO
          have hpi : placeI T (l.drop k) = to ∧ (pkFind T (l.drop k)).isSome = true := by rw [hdl]; unfold placeI; rw [hfd]; exact ⟨rfl, rfl⟩
          rw [hpi.1, hpi.2] at hPl
          have hto1 := hto.1
          have hto2 := hto.2
          have hp1 := fun w => HP.out 2 (49152 + to) w
          rw [show ocWide 2 = 2 by decide] at hp1
          obtain ⟨pb, hpb⟩ : ∃ pb : ByteArray, pb = ⟨(ocT 2 (49152 + to)).toArray⟩ := ⟨_, rfl⟩
          have hz5 : pb.size = 2 := by rw [hpb]; rfl
          rw [← hpb] at hp1
          have hwp : IntKind.i64.wrap (49152 + to) = 49152 + to := IntWalk.i64_in _ (by omega)
          have HP1 := Lib.hid hp1
          have HPB := Lib.hid hpb
          have HO := Lib.hid hO
          have HPl := Lib.hid hPl
          have HPT := Lib.hid hPT
          have HKP := Lib.hid hKP
          have HBW := Lib.hid hBW
          have HW0 := Lib.hid hw0
          have hez : (wb.extract 0 f).size = f := by rw [ByteArray.size_extract]; omega
          have hf3 : f ≤ 300 := by omega
          have S := Ats.start wr
          clear hcell hlab hdl hz1 hz2 hwe hw0 hx hxb hxz hLn hf hfl hO hfd hto hpi hp1 hpb hPl hPT hKP hBW hTok hTl2 hkl hbh hwz hTX
          go_wp2_with ((with_reducible refine HPl.out.mono ?_); rintro e w2 ⟨rfl, rfl⟩)
          (try simp only [Act.put, List.setIfInBounds_toArray, List.set_cons_succ, List.set_cons_zero]); refine quietS_region (by kernel_rfl) (by kernel_rfl) S ?_
          repeat (first
            | go_big_quiet_skip
            | (go_big_quiet_want
               first
                 | ((with_reducible show Oper.quiet _ (Oper.mk (some 42) (Op.call { callee := Callee.value (Operand.func 66), args := _, argTypes := _ }) _ _ _ _) _ _ _); refine q_call 66 _ _ rfl (enters_of Try.func66 (by kernel_rfl) rfl) (fun w S => (((HP1.out _)).mono fun e w2 h => ⟨h.1, S.call h.2⟩)) (by simp [Act.eval]) ?_)
                 | (refine q_pure (v := ?_) ?_ ?_; rotate_left; focus (intro w; go_simp; rw [if_neg (by (simp; omega))]))
                 | (refine q_pure (v := ?_) ?_ ?_; rotate_left; focus (intro w; go_simp; try with_reducible rfl))
               (simp only [Act.put, List.setIfInBounds_toArray, List.set_cons_succ, List.set_cons_zero]; go_big_quiet_on)))
          (refine wpQuiet_nil ?_; clear S; intro w1 S)
          go_wp2_with fail
          have hb3 := S.below
          refine bodyPost_ret (results_tmp2 rfl _ _ _) rfl ⟨?_, ?_, HKP.out.trans (Kept.below hb3), HBW.out.trans (hb3.mono HBW.out.size)⟩
          · exact ret_two (by rw [HO.out, HW0.out, HPB.out, ba_app])
          · rw [HO.out]
            exact HPT.out.kept hb3
        | none =>
          have hLn := hLn (by rw [hdl]; exact hfd)
          rw [pkPut_miss hfd] at hO
          have hpi : placeI T (l.drop k) = 0 ∧ (pkFind T (l.drop k)).isSome = false := by rw [hdl]; unfold placeI; rw [hfd]; exact ⟨rfl, rfl⟩
          rw [hpi.1, hpi.2] at hPl
          rw [hdl] at hLn
          obtain ⟨T2, hT2⟩ : ∃ T2, T2 = (if decide (0 ≤ at_) = true ∧ at_ + (f : Int) ≤ 16383 then T ++ [(x :: l.drop (k + 1), at_ + (f : Int))] else T) := ⟨_, rfl⟩
          rw [← hT2] at hLn hO
          have hpos : at_ + ((labsB (l.take (k + 1))).length : Int) = at_ + (f : Int) + ((x.length : Int) + 1) := by rw [hfl]; omega
          have hO2 : O = (labsB (l.take (k + 1)) ++ (pkPut (decide (0 ≤ at_)) (l.drop (k + 1)) (at_ + (labsB (l.take (k + 1))).length) T2).1, (pkPut (decide (0 ≤ at_)) (l.drop (k + 1)) (at_ + (labsB (l.take (k + 1))).length) T2).2) := by
            rw [hO, hpos, hlab]
            simp [List.append_assoc]
          have hTok2 : TOk T2 := by
            rw [hT2]
            split
            · rename_i h
              have := of_decide_eq_true h.1
              exact hTok.add (by omega) h.2
            · exact hTok
          have hTl3 : T2.length ≤ N + (k + 1) := by
            rw [hT2]
            split
            · rw [List.length_append, List.length_singleton]; omega
            · omega
          have hfx : ((labsB (l.take (k + 1))).length : Int) = (f : Int) + ((xb.size : Int) + 1) := by rw [hfl, hxz]; omega
          have HFX := Lib.hid hfx
          have HX := Lib.hid (⟨hTok2, hTl3, hO2⟩ : TOk T2 ∧ T2.length ≤ N + (k + 1) ∧ O = (labsB (l.take (k + 1)) ++ (pkPut (decide (0 ≤ at_)) (l.drop (k + 1)) (at_ + (labsB (l.take (k + 1))).length) T2).1, (pkPut (decide (0 ≤ at_)) (l.drop (k + 1)) (at_ + (labsB (l.take (k + 1))).length) T2).2))
          have HPl := Lib.hid hPl
          have HLn := Lib.hid hLn
          have HKP := Lib.hid hKP
          have hf3 : f ≤ 300 := by omega
          clear hcell hlab hdl hz1 hz2 hwe hw0 hx hxb hxz hLn hf hfl hO hfd hpi hPl hPT hKP hBW hTok hTl2 hkl hbh hwz hTX hT2 hpos hO2 hTok2 hTl3 hfx
          go_wp2_with (first
            | ((with_reducible refine HPl.out.mono ?_); rintro e w2 ⟨rfl, rfl⟩)
            | ((with_reducible refine HLn.out.mono ?_); rintro e w2 ⟨rfl, hp2, hk2, hb2⟩; have HP2 := Lib.hid hp2; have HK2 := Lib.hid hk2; have HB2 := Lib.hid hb2; clear hp2 hk2 hb2))
          go_roundw
          case rel => exact ⟨k + 1, T2, by omega, by go_num, by rw [HFX.out], HP2.out, HX.out.1, HX.out.2.1, HKP.out.trans HK2.out, HB2.out, textsAt_kept HTX.out HK2.out HNE.out, HX.out.2.2⟩
          case measure => simp [intOf]; omega
      · have he : l.take k = l := List.take_of_length_le (by have := HLN.out; omega)
        have he2 : l.drop k = [] := List.drop_eq_nil_of_le (by have := HLN.out; omega)
        rw [he, he2] at hO
        have HPT := Lib.hid hPT
        have HKP := Lib.hid hKP
        have HBW := Lib.hid hBW
        have HO := Lib.hid hO
        generalize (labsB (l.take k)).length = f
        clear he he2 hPT hKP hBW hO hTok hTl2 hwz hTX
        go_wp2_with fail
        refine bodyPost_ret (results_tmp2 rfl _ _ _) rfl ⟨?_, ?_, HKP.out, HBW.out⟩
        · exact ret_two (by rw [HO.out, HWB.out]; rfl)
        · rw [HO.out]
          exact HPT.out
  · have hO : putO true l at_ T0 = ([], T0, checkL l) := by unfold putO; rw [if_neg h0]
    rw [hO]
    have hb : (checkL l != 0) = true := by simpa using h0
    have HW := Lib.hid hW
    have HRT := Lib.hid hT
    obtain ⟨x, hx⟩ : ∃ x, x = checkL l := ⟨_, rfl⟩
    rw [← hx] at hb HC ⊢
    clear hO h0 hW hx hl hT hTok hne
    go_enter Try.func59, Try.ntmps59
    go_wp2_with ((with_reducible refine HC.out.mono ?_); rintro e w2 ⟨rfl, rfl⟩)
    exact bodyPost_ret (results_tmp2 rfl _ _ _) rfl ⟨rfl, HRT.out, Kept.refl _, HW.out⟩
end Go.Proofs.Ytnoabmkmnddkkaa
namespace Go.Proofs.Ytnoabmkmnddkkaa
open Go.RowKit Go
set_option linter.unusedVariables false
theorem newTab_any (w : World) : Calls Try.prog 5 #[] w fun e w' => ∃ g, e = .returned (.pointer (some ⟨g, 0, none⟩)) ∧ w.heap.size ≤ g ∧ At w' g 45 #[.map none] ∧ Below w.heap.size w w' := by
  go_enter Try.func5, Try.ntmps5
  go_wp2
  go_ret
  exact ⟨_, rfl, Nat.le_refl _, At.new w _ _, (Below.refl _ _).alloc (Nat.le_refl _) _⟩
theorem ptab_new {W0 w w' : World} {g : Nat} (hb : Below W0.heap.size W0 w) (hg : w.heap.size ≤ g) (ha : At w' g 45 #[.map none]) (hb2 : Below w.heap.size w w') : PTab W0 w' g [] := by
  have h1 := hb.size
  have h2 := hb2.size
  exact ⟨_, ⟨hb.trans (hb2.mono hb.size), by omega, fun y hy => by simp at hy; subst hy; exact ⟨by show W0.heap.size ≤ g; omega, ha⟩, by simp⟩, .inl ⟨rfl, rfl⟩⟩
set_option maxRecDepth 100000 in
set_option maxHeartbeats 4000000 in
theorem putNil_any (A : Option Addr) (n c : Nat) (l : Lbs) (w : World) (hl : TextsAt w A n l) (hb : sizeL l ≤ 401) (at_ : Int) :
    Calls Try.prog 59 #[.pointer none, .slice A n c, .int .i64 at_] w fun e w' => e = .returned (.tuple #[.string ⟨(putO false l at_ []).1.toArray⟩, .int .i64 (putO false l at_ []).2.2]) ∧ Below w.heap.size w w' := by
  have HC := Lib.hid (check_any A n c l w hl (by omega))
  by_cases h0 : checkL l = 0
  · have hO : putO false l at_ [] = (wireB l, [], 0) := by
      unfold putO
      rw [if_pos h0, Bool.false_and, pkPut_none]
    rw [hO]
    rw [h0] at HC
    have hS := (checkL_ok.1 h0).2
    have HOC := Lib.hid (octets_any A n c l w hl (by omega))
    have HL := Lib.hid hl
    have hlen := size_len l
    have hn4 : n ≤ 400 := by have := hl.1; omega
    have HPl := Lib.hid (fun s w => placeNil_any s w)
    have HLn := Lib.hid (fun s a b w => learnNil_any s a b w)
    obtain ⟨wb, hwb⟩ : ∃ wb : ByteArray, wb = ⟨(wireB l).toArray⟩ := ⟨_, rfl⟩
    have hwz : wb.size = sizeL l := by rw [hwb, ← wireB_len]; rfl
    show Calls _ _ _ _ (fun e w' => e = .returned (.tuple #[.string ⟨(wireB l).toArray⟩, .int .i64 0]) ∧ Below w.heap.size w w')
    rw [← hwb] at HOC ⊢
    have HWZ := Lib.hid hwz
    clear hO h0 hb hl hwb hwz
    go_enter Try.func59, Try.ntmps59
    go_wp2_with (first
      | ((with_reducible refine HC.out.mono ?_); rintro e w2 ⟨rfl, rfl⟩)
      | ((with_reducible refine HOC.out.mono ?_); rintro e w3 ⟨rfl, hb3⟩; have HB3 := Lib.hid hb3; clear hb3))
    go_loopw [10, 24] (fun f i wr => ∃ k : Nat, k ≤ n ∧ i = .int .i64 k ∧ f = .int .i64 (labsB (l.take k)).length ∧ Below w.heap.size w wr) (fun _ i _ => n - (intOf i).toNat)
    case atStart => exact ⟨0, Nat.zero_le _, rfl, rfl, HB3.out⟩
    case round =>
      obtain ⟨k, hk, rfl, rfl, hBW⟩ := hrel
      have hwz := HWZ.out
      by_cases hlt : k < n
      · obtain ⟨b, o, rfl, hbh, hcell⟩ := HL.out.2 (by omega)
        have hkl : k < l.length := by have := HL.out.1; omega
        have c1 := (hBW.cell (p := ⟨b, o + k, none⟩) hbh).trans (hcell k hkl)
        have hlab := labsB_take l k hkl
        have hz1 := labsB_len (l.take k)
        have hz2 := size_at l k hkl
        obtain ⟨x, hx⟩ : ∃ x, x = l[k] := ⟨_, rfl⟩
        rw [← hx] at c1 hlab hz2
        obtain ⟨xb, hxb⟩ : ∃ xb : ByteArray, xb = ⟨x.toArray⟩ := ⟨_, rfl⟩
        have hxz : xb.size = x.length := by rw [hxb]; rfl
        unfold strV at c1
        rw [← hxb] at c1
        obtain ⟨f, hf⟩ : ∃ f, f = (labsB (l.take k)).length := ⟨_, rfl⟩
        rw [← hf] at hz1 ⊢
        have hfb : f ≤ wb.size := by omega
        have hfl : (labsB (l.take (k + 1))).length = f + (x.length + 1) := by rw [hlab, List.length_append, labB_len, ← hf]
        have hx4 : xb.size ≤ 300 := by omega
        have hwz3 : wb.size ≤ 300 := by omega
        have HFX := Lib.hid (show ((labsB (l.take (k + 1))).length : Int) = (f : Int) + ((xb.size : Int) + 1) by rw [hfl, hxz]; omega)
        have hf3 : f ≤ 300 := by omega
        have HBW := Lib.hid hBW
        clear hcell hlab hz1 hz2 hx hxb hxz hf hfl hBW hkl hbh hwz
        go_wp2_with (first
          | ((with_reducible refine (HPl.out _ _).mono ?_); rintro e w2 ⟨rfl, rfl⟩)
          | ((with_reducible refine (HLn.out _ _ _ _).mono ?_); rintro e w2 ⟨rfl, rfl⟩))
        go_roundw
        case rel => exact ⟨k + 1, by omega, by go_num, by rw [HFX.out], HBW.out⟩
        case measure => simp [intOf]; omega
      · have HBW := Lib.hid hBW
        generalize (labsB (l.take k)).length = f
        clear hBW hwz
        go_wp2_with fail
        exact bodyPost_ret (results_tmp2 rfl _ _ _) rfl ⟨rfl, HBW.out⟩
  · have hO : putO false l at_ [] = ([], [], checkL l) := by unfold putO; rw [if_neg h0]
    rw [hO]
    have hb : (checkL l != 0) = true := by simpa using h0
    obtain ⟨x, hx⟩ : ∃ x, x = checkL l := ⟨_, rfl⟩
    rw [← hx] at hb HC ⊢
    clear hO h0 hx hl
    go_enter Try.func59, Try.ntmps59
    go_wp2_with ((with_reducible refine HC.out.mono ?_); rintro e w2 ⟨rfl, rfl⟩)
    exact bodyPost_ret (results_tmp2 rfl _ _ _) rfl ⟨rfl, Below.refl _ _⟩
end Go.Proofs.Ytnoabmkmnddkkaa
