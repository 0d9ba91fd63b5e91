import Derived.Test.YtkgnhdebphaknaaDoorUtf
import Derived.WalkSpells
import Derived.WalkLawsBesides
import Derived.Lib.Hide
import Derived.Deep.QuietTactic
import Derived.Deep.RegionWith
import Derived.BigQuiet
import Derived.WalkSmall
namespace Go.Proofs.YtkgnhdebphaknaaDoor
open Go.RowKit Go
set_option linter.unusedVariables false
theorem conv_bytes (a : Int) (w : World) : (convert 33 9 (.slice (some ⟨w.heap.size, 0, none⟩) (Lib.encodeRuneZ a).length (Lib.encodeRuneZ a).length)).run Tryd.prog (w.alloc (.cells (Lib.runeCells a).toArray 5)).drew = .ok (.string ⟨(Lib.encodeRune a).toArray⟩) (w.alloc (.cells (Lib.runeCells a).toArray 5)).drew := by
  have := run_convert_bytes_back (P := Tryd.prog) (w.alloc (.cells (Lib.runeCells a).toArray 5)).drew 33 9 5 ⟨w.heap.size, 0, none⟩ (Lib.encodeRuneZ a).length (Lib.encodeRune a) Tryd.underlying33 Tryd.underlying5 Tryd.underlying9 (fun j hj => by
    rw [← Lib.byteCells_encodeRune, addr_add0]
    rw [show (w.alloc (Obj.cells (Lib.byteCells (Lib.encodeRune a)).toArray 5)).drew.cell? ⟨w.heap.size, j, none⟩ = (w.alloc (Obj.cells (Lib.byteCells (Lib.encodeRune a)).toArray 5)).cell? ⟨w.heap.size, j, none⟩ from rfl, World.cell?_alloc_mark]
    simp [Lib.byteCells, hj])
  rw [enc_len] at this
  exact this
set_option maxHeartbeats 1000000 in
theorem refNext_any (s : ByteArray) (w : World) (hs : s.size ≤ 9223372036854775807) : Calls Tryd.prog 30 #[.string s] w fun e w' => e = .returned (.tuple #[.int .i64 (nx s.data.toList).1, .int .i64 (nx s.data.toList).2]) ∧ Below w.heap.size w w' := by
  by_cases he : s.toList.isEmpty = true
  · have hz : nx s.data.toList = (0, 0) := by
      rw [ByteArray.toList_eq] at he
      have : s.data.toList = [] := by simpa using he
      unfold nx
      rw [if_pos (.inl this)]
    rw [hz]
    clear hz
    go_enter Tryd.func30, Tryd.ntmps30
    go_wp2
    go_ret2
    exact ⟨rfl, Below.refl _ _⟩
  have he' : s.toList.isEmpty = false := by simpa using he
  have hl0 : s.data.toList ≠ [] := by
    rw [ByteArray.toList_eq] at he'
    intro h
    rw [h] at he'
    simp at he'
  clear he
  obtain ⟨b, r, hbr⟩ : ∃ b r, s.data.toList = b :: r := by
    cases h : s.data.toList with
    | nil => exact absurd h hl0
    | cons b r => exact ⟨b, r, rfl⟩
  have hsz : s.size = r.length + 1 := by
    have := congrArg List.length hbr
    simpa using this
  have hb0 : ∀ h, (s[0]'h) = b := fun h => by
    have : s.data.toList[0]'(by rw [hbr]; simp) = b := by simp [hbr]
    exact this
  rw [hbr]
  have hbl : (b.toNat : Int) ≤ 255 := by have := b.toNat_lt; omega
  have hld := refLead_any b.toNat
  have bd := leadZ_bd b.toNat (by omega) hbl
  have NO := Lib.hid (refNx_no b r)
  have YES := Lib.hid (refNx_yes b r)
  obtain ⟨n, hn⟩ : ∃ n : Nat, (n : Int) = (leadZ b.toNat).1 := ⟨(leadZ b.toNat).1.toNat, by omega⟩
  obtain ⟨t, ht⟩ : ∃ t, t = (leadZ b.toNat).2 := ⟨_, rfl⟩
  rw [← hn] at hld bd NO YES
  rw [← ht] at hld bd NO
  obtain ⟨_, bn, bt0, bt1⟩ := bd
  have HB := Lib.hid hbr
  have HZ := Lib.hid hsz
  have B0 := Lib.hid hb0
  have LD := Lib.hid hld
  have hszp : 0 < s.size := by omega
  have hszi : (0 : Int) < (s.size : Int) := by omega
  have hs0 : ((s[0]'hszp).toNat : Int) ≤ 255 := by have := (s[0]'hszp).toNat_lt; omega
  clear hld hb0 hl0 hbr hn ht
  by_cases h0 : n = 0
  · rw [NO.out (.inl (by omega))]
    subst h0
    clear hsz
    go_enter Tryd.func30, Tryd.ntmps30
    go_wp2_with fail
    rw [B0.out]
    ((with_reducible refine (LD.out w (by omega) (by omega)).mono ?_))
    rintro e w' ⟨rfl, rfl⟩
    go_wp2_with fail
    go_ret2
    exact ⟨rfl, Below.refl _ _⟩
  by_cases h1 : s.size < n
  · rw [NO.out (.inr (.inl (by omega)))]
    clear hsz
    go_enter Tryd.func30, Tryd.ntmps30
    go_wp2_with fail
    rw [B0.out]
    ((with_reducible refine (LD.out w (by omega) (by omega)).mono ?_))
    rintro e w' ⟨rfl, rfl⟩
    go_wp2_with fail
    go_ret2
    exact ⟨rfl, Below.refl _ _⟩
  clear hsz
  go_enter Tryd.func30, Tryd.ntmps30
  go_wp2_with fail
  rw [B0.out]
  ((with_reducible refine (LD.out w (by omega) (by omega)).mono ?_))
  rintro e w' ⟨rfl, rfl⟩
  go_wp2_with fail
  go_loop [5, 6] (fun c i => ∃ k : Nat, 1 ≤ k ∧ k ≤ n ∧ i = .int .i64 k ∧ c = .int .i64 (accZ t (r.take (k - 1)))) (fun _ i => n - (intOf i).toNat)
  case atStart => exact ⟨1, by omega, by omega, rfl, ret_v (by simp [accZ])⟩
  case round =>
    obtain ⟨k, hk1, hk, rfl, rfl⟩ := hrel
    have hrl := HZ.out
    have hac := accZ_bd t bt0 bt1 (r.take (k - 1)) (by rw [List.length_take]; omega)
    by_cases hlt : k < n
    · have hks : k < s.size := by omega
      have hsk : ((s[k]'hks).toNat : Int) ≤ 255 := by have := (s[k]'hks).toNat_lt; omega
      have hel : s[k]'hks = r[k - 1]'(by omega) := by
        have e : s.data.toList[k]'(by simpa using hks) = (b :: r)[k]'(by simp; omega) := by simp [HB.out]
        rw [List.getElem_cons] at e
        rw [dif_neg (by omega)] at e
        exact e
      have hst := accZ_step t r (k - 1) (by omega)
      rw [← hel, show k - 1 + 1 = k by omega] at hst
      have HS := Lib.hid hst
      clear hst hel hrl
      obtain ⟨a, ha⟩ : ∃ a, a = accZ t (r.take (k - 1)) := ⟨_, rfl⟩
      rw [← ha] at hac HS
      rw [← ha]
      clear ha
      go_wp2
      go_round
      case rel => exact ⟨k + 1, by omega, by omega, by go_num, ret_v (by rw [Nat.add_sub_cancel, HS.out])⟩
      case measure => simp [intOf]; omega
    · obtain rfl : n = k := by omega
      clear hrl
      obtain ⟨a, ha⟩ : ∃ a, a = accZ t (r.take (n - 1)) := ⟨_, rfl⟩
      rw [← ha] at hac
      rw [← ha]
      have HA := Lib.hid ha
      clear ha
      by_cases hp : ptB a = true
      · have HP := Lib.hid hp
        clear hp
        have hb3 := ptB_iff a
        have hpa := hb3.1 HP.out
        obtain ⟨pa0, pa1, _⟩ := hpa
        clear hb3
        have hex : (s.extract 0 n).toList = (b :: r).take n := by
          rw [Lib.extract_eq, ByteArray.toList_eq, HB.out]
          simp
        have ne : (!Lib.encodeRune a == (s.extract 0 n).toList) = true → nx (b :: r) = (0, 0) := fun h => by
          refine NO.out (.inr (.inr ⟨n, rfl, .inr ?_⟩))
          rw [← HA.out, ← hex]
          simpa using h
        have eq : (!Lib.encodeRune a == (s.extract 0 n).toList) = false → nx (b :: r) = (a.toNat, n) := fun h => by
          refine YES.out n rfl (by rw [List.length_cons]; have := HZ.out; omega) a HP.out ?_
          rw [← hex]
          simpa using h
        have NE := Lib.hid ne
        have EQ := Lib.hid eq
        clear ne eq hex
        have kp := fun w => refPoint_any a w (by omega) (by omega)
        rw [HP.out] at kp
        have KP := Lib.hid kp
        have kb := fun w => refBytes_any a w HP.out
        have KB := Lib.hid kb
        have hcv := conv_bytes a w
        clear kp kb
        go_wp2_with fail
        go_region_with (first | (go_at_call 38; ((with_reducible refine (KP.out _).mono ?_)); rintro e w' ⟨rfl, rfl⟩) | (go_at_call 39; ((with_reducible refine (KB.out _).mono ?_)); rintro e w' ⟨rfl, rfl⟩))
        all_goals clear hcv
        all_goals go_wp2_with fail
        all_goals
          first
          | (have hq : (!Lib.encodeRune a == (s.extract 0 n).toList) = true := by assumption
             have hz := NE.out hq
             go_ret2
             exact ⟨by rw [hz]; rfl, ((Below.refl _ _).alloc (Nat.le_refl _) _).drew⟩)
          | (have hq : (!Lib.encodeRune a == (s.extract 0 n).toList) = false := by assumption
             have hz := EQ.out hq
             go_ret2
             exact ⟨by rw [hz]; exact ret_ii (by simp only; omega) rfl, ((Below.refl _ _).alloc (Nat.le_refl _) _).drew⟩)
      · have hpf : ptB a = false := by simpa using hp
        have hno := NO.out (.inr (.inr ⟨n, rfl, .inl (by rw [← HA.out]; exact hpf)⟩))
        have HN := Lib.hid hno
        have kp := fun w => refPoint_any a w (by omega) (by omega)
        rw [hpf] at kp
        have KP := Lib.hid kp
        clear hp hno kp hpf
        go_wp2_with fail
        go_quiet ((go_at_call 38; exact Calls.quiet_of_same ((KP.out _).mono fun e w' h => ⟨h.1, h.2.symm⟩)))
        go_wp2_with fail
        go_ret2
        exact ⟨by rw [HN.out]; rfl, below_drewN (Below.refl _ _) _⟩
end Go.Proofs.YtkgnhdebphaknaaDoor
