/- Layer 12: the document's Put. -/
import Derived.Test.YtchjhpipiooibaaTabR
import Derived.Test.YtchjhpipiooibaaOctet5
import Derived.Test.YtchjhpipiooibaaMemQuiet
namespace Go.Proofs.Ytchjhpipiooibaa
open Go.RowKit Go
set_option linter.unusedVariables false
theorem ba_app (a b : List UInt8) : (⟨a.toArray⟩ : ByteArray) ++ ⟨b.toArray⟩ = ⟨(a ++ b).toArray⟩ := by
  apply ByteArray.ext; simp
theorem ba_size (a : List UInt8) : (⟨a.toArray⟩ : ByteArray).size = a.length := rfl
theorem ret_two {a b : ByteArray} {x : Int} (h : a = b) : Ending.returned (.tuple #[.string a, .int .i64 x]) = Ending.returned (.tuple #[.string b, .int .i64 x]) := by rw [h]
/-- of no table -/
theorem refPutNil_any (W0 : World) (A : Option Addr) (n c : Nat) (l : Lbs) (hl : TextsAt W0 A n l) (hnc : n ≤ c) (hb : sizeL l ≤ 401) (at_ : Int) (w : World) (hW : Below W0.heap.size W0 w) :
    Calls Try.prog 13 #[.pointer none, .slice A n c, .int .i64 at_] w fun e w' => e = .returned (.tuple #[.string ⟨(putO false l at_ []).1.toArray⟩, .int .i64 (putO false l at_ []).2.2]) ∧ Below w.heap.size w w' := by
  have HC := Lib.hid (fun w (h : Below W0.heap.size W0 w) => refCheck_any A n c l w (hl.below h) (by omega))
  by_cases h0 : checkL l = 0
  · have hO : putO false l at_ [] = (wireB l, [], 0) := by
      unfold putO
      rw [if_pos h0, Bool.false_and, pkPut_none]
    rw [hO]
    rw [h0] at HC
    have hS := (checkL_ok.1 h0).2
    have HW := Lib.hid hW
    have HF := Lib.hid (fun (A : Option Addr) (n c : Nat) w => refFindNil_any A n c w)
    have HP := Lib.hid (fun (m n : Int) w => refPut_any m n w)
    have HL := Lib.hid hl
    have hlen := size_len l
    have hn4 : n ≤ 400 := by have := hl.1; omega
    clear hO h0 hb hW
    go_enter Try.func13, Try.ntmps13
    go_wp2_with ((with_reducible refine (HC.out _ HW.out).mono ?_); rintro e w2 ⟨rfl, rfl⟩)
    go_loopw [9, 10] (fun s i wr => ∃ k : Nat, k ≤ n ∧ i = .int .i64 k ∧ s = .string ⟨(labsB (l.take k)).toArray⟩ ∧ Below w.heap.size w wr) (fun _ i _ => n - (intOf i).toNat)
    case atStart => exact ⟨0, Nat.zero_le _, rfl, rfl, Below.refl _ _⟩
    case round =>
      obtain ⟨k, hk, rfl, rfl, HB⟩ := hrel
      have S := Ats.start wr
      have HBW := Lib.hid HB
      clear HB
      by_cases hlt : k < n
      · obtain ⟨b, o, rfl, hbh, hcell⟩ := HL.out.2 (by omega)
        have hkl : k < l.length := by have := HL.out.1; omega
        have c1 := ((HW.out.trans (HBW.out.mono HW.out.size)).cell (p := ⟨b, o + k, none⟩) hbh).trans (hcell k hkl)
        have hlab := labsB_take l k hkl
        have hz1 := labsB_len (l.take k)
        have hz2 := size_at l k hkl
        obtain ⟨x, hx⟩ : ∃ x, x = l[k] := ⟨_, rfl⟩
        rw [← hx] at c1 hlab hz2
        obtain ⟨xb, hxb⟩ : ∃ xb : ByteArray, xb = ⟨x.toArray⟩ := ⟨_, rfl⟩
        have hxz : xb.size = x.length := by rw [hxb]; rfl
        obtain ⟨sb, hsb⟩ : ∃ sb : ByteArray, sb = ⟨(labsB (l.take k)).toArray⟩ := ⟨_, rfl⟩
        have hsz : sb.size = (labsB (l.take k)).length := by rw [hsb]; rfl
        have hcat : sb ++ ⟨(ocT 1 (xb.size : Int)).toArray⟩ ++ xb = ⟨(labsB (l.take (k + 1))).toArray⟩ := by
          rw [hlab, hsb, hxz, hxb, ba_app, ba_app]
          simp [labB, ocT]
        have HCAT := Lib.hid hcat
        unfold strV at c1
        rw [← hxb] at c1
        rw [← hsb]
        have C1 := Lib.hid c1
        have hz3 : sb.size ≤ 300 := by omega
        have hz4 : xb.size ≤ 300 := by omega
        have hp1 := fun w => HP.out 1 (xb.size : Int) w
        rw [show ocWide 1 = 1 by decide] at hp1
        obtain ⟨pb, hpb⟩ : ∃ pb : ByteArray, pb = ⟨(ocT 1 (xb.size : Int)).toArray⟩ := ⟨_, rfl⟩
        have hz5 : pb.size = 1 := by rw [hpb]; rfl
        rw [← hpb] at hp1 HCAT
        have HP1 := Lib.hid hp1
        clear hcell c1 hlab hz1 hz2 hx hxb hsb hxz hsz hcat hp1 hpb hkl
        go_wp2_with (first
          | ((with_reducible refine (HF.out _ _ _ _).mono ?_); rintro e w2 ⟨rfl, rfl⟩))
        (try simp only [Act.put, List.setIfInBounds_toArray, List.set_cons_succ, List.set_cons_zero]); refine quietS_region (by kernel_rfl) (by kernel_rfl) S ?_
        repeat (first
          | go_big_quiet_skip
          | (go_big_quiet_want
             first
               | ((with_reducible show Oper.quiet _ (Oper.mk (some 73) (Op.load _ _) _ _ _ _) _ _ _); refine q_oldS _ _ rfl _ rfl _ (by with_reducible exact C1.out) _ Try.underlying9 rfl ?_)
               | ((with_reducible show Oper.quiet _ (Oper.mk (some 80) (Op.load _ _) _ _ _ _) _ _ _); refine q_oldS _ _ rfl _ rfl _ (by with_reducible exact C1.out) _ Try.underlying9 rfl ?_)
               | ((with_reducible show Oper.quiet _ (Oper.mk (some 75) (Op.call { callee := Callee.value (Operand.func 28), args := _, argTypes := _ }) _ _ _ _) _ _ _); refine q_call 28 _ _ rfl (enters_of Try.func28 (by kernel_rfl) rfl) (fun w S => (((HP1.out _)).mono fun e w2 h => ⟨h.1, S.call h.2⟩)) (by simp [Act.eval]) ?_)
               | (refine q_pure (v := ?_) ?_ ?_; rotate_left; focus (intro w; go_simp; rw [if_neg (by (simp; omega))]))
               | (refine q_pure (v := ?_) ?_ ?_; rotate_left; focus (intro w; go_simp; try with_reducible rfl))
             (simp only [Act.put, List.setIfInBounds_toArray, List.set_cons_succ, List.set_cons_zero]; go_big_quiet_on)))
        (refine wpQuiet_nil ?_; clear S; intro w1 S)
        go_wp2_with fail
        go_roundw
        case rel => exact ⟨k + 1, by omega, by go_num, by rw [HCAT.out], HBW.out.trans (S.below.mono HBW.out.size)⟩
        case measure => simp [intOf]; omega
      · have he : l.take k = l := List.take_of_length_le (by have := HL.out.1; omega)
        rw [he]
        have hz1 := labsB_len l
        obtain ⟨sb, hsb⟩ : ∃ sb : ByteArray, sb = ⟨(labsB l).toArray⟩ := ⟨_, rfl⟩
        have hsz : sb.size ≤ 300 := by rw [hsb, ba_size]; omega
        rw [← hsb]
        have HSB := Lib.hid hsb
        have hp1 := fun w => HP.out 1 0 w
        rw [show ocWide 1 = 1 by decide] at hp1
        have hp1 : ∀ w, Calls Try.prog 28 #[.int .i64 1, .int .i64 0] w fun e w' => e = .returned (.string ⟨#[0]⟩) ∧ Below w.heap.size w w' := hp1
        have HP1 := Lib.hid hp1
        clear hz1 hsb hp1 he
        go_wp2_with ((with_reducible refine (HP1.out _).mono ?_); rintro e w2 ⟨rfl, hb⟩; have S := S.call hb; have HB2 := Lib.hid hb; clear hb)
        refine bodyPost_ret (results_tmp2 rfl _ _ _) rfl ⟨?_, HBW.out.trans (HB2.out.mono HBW.out.size)⟩
        exact ret_two (by rw [HSB.out, ByteArray.mk_append_mk]; simp [wireB])
  · have hO : putO false l at_ [] = ([], [], checkL l) := by unfold putO; rw [if_neg h0]
    rw [hO]
    have hb : (checkL l != 0) = true := by simpa using h0
    have HW := Lib.hid hW
    obtain ⟨x, hx⟩ : ∃ x, x = checkL l := ⟨_, rfl⟩
    rw [← hx] at hb HC ⊢
    clear hO h0 hW hx hl
    go_enter Try.func13, Try.ntmps13
    go_wp2_with ((with_reducible refine (HC.out _ HW.out).mono ?_); rintro e w2 ⟨rfl, rfl⟩)
    exact bodyPost_ret (results_tmp2 rfl _ _ _) rfl ⟨rfl, Below.refl _ _⟩
end Go.Proofs.Ytchjhpipiooibaa
