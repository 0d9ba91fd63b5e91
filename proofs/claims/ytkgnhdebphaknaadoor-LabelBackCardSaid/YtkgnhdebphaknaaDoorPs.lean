/- Texts behind a law of this seat, in order: Utf2, Utf3. -/
import Derived.Test.YtkgnhdebphaknaaDoorPa
import Derived.Test.YtkgnhdebphaknaaDoorPb
import Derived.Test.YtkgnhdebphaknaaDoorPc
import Derived.Test.YtkgnhdebphaknaaDoorPd
import Derived.Test.YtkgnhdebphaknaaDoorPf
import Derived.Test.YtkgnhdebphaknaaDoorPr
import Derived.BigQuiet
import Derived.ChangeSlices
import Derived.Deep.QuietTactic
import Derived.Deep.RegionWith
import Derived.Handed
import Derived.Lib.DecodeN
import Derived.Lib.Hide
import Derived.Lib.RuneBytes
import Derived.Lib.Strings
import Derived.Shelf.Small.Strs
import Derived.Shelf.Small.Utf8
import Derived.Shelf.Small.Wraps
import Derived.Shelf.Strings.Prefix
import Derived.Shelf.Strings.Search1
import Derived.Shelf.Unicode.Decode
import Derived.Shelf.Unicode.DecodeAny
import Derived.Shelf.Unicode.DecodeSlow
import Derived.Shelf.Utf8.AppendRunePlain
import Derived.SizedLaws
import Derived.SliceStrings
import Derived.Test.YtkgnhdebphaknaaDoorProg
import Derived.WalkKit
import Derived.WalkLawsBesides
import Derived.WalkSmall
import Derived.WalkSpells
namespace Go.Proofs.YtkgnhdebphaknaaDoor
open Go.RowKit Go
set_option linter.unusedVariables false
theorem conv_bytes (a : Int) (w : World) : (convert 33 9 (.slice (some ⟨w.heap.size, 0, none⟩) (Lib.encodeRuneZ a).length (Lib.encodeRuneZ a).length)).run Tryd.prog (w.alloc (.cells (Lib.runeCells a).toArray 5)).drew = .ok (.string ⟨(Lib.encodeRune a).toArray⟩) (w.alloc (.cells (Lib.runeCells a).toArray 5)).drew := by
  have := run_convert_bytes_back (P := Tryd.prog) (w.alloc (.cells (Lib.runeCells a).toArray 5)).drew 33 9 5 ⟨w.heap.size, 0, none⟩ (Lib.encodeRuneZ a).length (Lib.encodeRune a) Tryd.underlying33 Tryd.underlying5 Tryd.underlying9 (fun j hj => by
    rw [← Lib.byteCells_encodeRune, addr_add0]
    rw [show (w.alloc (Obj.cells (Lib.byteCells (Lib.encodeRune a)).toArray 5)).drew.cell? ⟨w.heap.size, j, none⟩ = (w.alloc (Obj.cells (Lib.byteCells (Lib.encodeRune a)).toArray 5)).cell? ⟨w.heap.size, j, none⟩ from rfl, World.cell?_alloc_mark]
    simp [Lib.byteCells, hj])
  rw [enc_len] at this
  exact this
set_option maxHeartbeats 1000000 in
theorem refNext_any (s : ByteArray) (w : World) (hs : s.size ≤ 9223372036854775807) : Calls Tryd.prog 30 #[.string s] w fun e w' => e = .returned (.tuple #[.int .i64 (nx s.data.toList).1, .int .i64 (nx s.data.toList).2]) ∧ Below w.heap.size w w' := by
  by_cases he : s.toList.isEmpty = true
  · have hz : nx s.data.toList = (0, 0) := by
      rw [ByteArray.toList_eq] at he
      have : s.data.toList = [] := by simpa using he
      unfold nx
      rw [if_pos (.inl this)]
    rw [hz]
    clear hz
    go_enter Tryd.func30, Tryd.ntmps30
    go_wp2
    go_ret2
    exact ⟨rfl, Below.refl _ _⟩
  have he' : s.toList.isEmpty = false := by simpa using he
  have hl0 : s.data.toList ≠ [] := by
    rw [ByteArray.toList_eq] at he'
    intro h
    rw [h] at he'
    simp at he'
  clear he
  obtain ⟨b, r, hbr⟩ : ∃ b r, s.data.toList = b :: r := by
    cases h : s.data.toList with
    | nil => exact absurd h hl0
    | cons b r => exact ⟨b, r, rfl⟩
  have hsz : s.size = r.length + 1 := by
    have := congrArg List.length hbr
    simpa using this
  have hb0 : ∀ h, (s[0]'h) = b := fun h => by
    have : s.data.toList[0]'(by rw [hbr]; simp) = b := by simp [hbr]
    exact this
  rw [hbr]
  have hbl : (b.toNat : Int) ≤ 255 := by have := b.toNat_lt; omega
  have hld := refLead_any b.toNat
  have bd := leadZ_bd b.toNat (by omega) hbl
  have NO := Lib.hid (refNx_no b r)
  have YES := Lib.hid (refNx_yes b r)
  obtain ⟨n, hn⟩ : ∃ n : Nat, (n : Int) = (leadZ b.toNat).1 := ⟨(leadZ b.toNat).1.toNat, by omega⟩
  obtain ⟨t, ht⟩ : ∃ t, t = (leadZ b.toNat).2 := ⟨_, rfl⟩
  rw [← hn] at hld bd NO YES
  rw [← ht] at hld bd NO
  obtain ⟨_, bn, bt0, bt1⟩ := bd
  have HB := Lib.hid hbr
  have HZ := Lib.hid hsz
  have B0 := Lib.hid hb0
  have LD := Lib.hid hld
  have hszp : 0 < s.size := by omega
  have hszi : (0 : Int) < (s.size : Int) := by omega
  have hs0 : ((s[0]'hszp).toNat : Int) ≤ 255 := by have := (s[0]'hszp).toNat_lt; omega
  clear hld hb0 hl0 hbr hn ht
  by_cases h0 : n = 0
  · rw [NO.out (.inl (by omega))]
    subst h0
    clear hsz
    go_enter Tryd.func30, Tryd.ntmps30
    go_wp2_with fail
    rw [B0.out]
    ((with_reducible refine (LD.out w (by omega) (by omega)).mono ?_))
    rintro e w' ⟨rfl, rfl⟩
    go_wp2_with fail
    go_ret2
    exact ⟨rfl, Below.refl _ _⟩
  by_cases h1 : s.size < n
  · rw [NO.out (.inr (.inl (by omega)))]
    clear hsz
    go_enter Tryd.func30, Tryd.ntmps30
    go_wp2_with fail
    rw [B0.out]
    ((with_reducible refine (LD.out w (by omega) (by omega)).mono ?_))
    rintro e w' ⟨rfl, rfl⟩
    go_wp2_with fail
    go_ret2
    exact ⟨rfl, Below.refl _ _⟩
  clear hsz
  go_enter Tryd.func30, Tryd.ntmps30
  go_wp2_with fail
  rw [B0.out]
  ((with_reducible refine (LD.out w (by omega) (by omega)).mono ?_))
  rintro e w' ⟨rfl, rfl⟩
  go_wp2_with fail
  go_loop [5, 6] (fun c i => ∃ k : Nat, 1 ≤ k ∧ k ≤ n ∧ i = .int .i64 k ∧ c = .int .i64 (accZ t (r.take (k - 1)))) (fun _ i => n - (intOf i).toNat)
  case atStart => exact ⟨1, by omega, by omega, rfl, ret_v (by simp [accZ])⟩
  case round =>
    obtain ⟨k, hk1, hk, rfl, rfl⟩ := hrel
    have hrl := HZ.out
    have hac := accZ_bd t bt0 bt1 (r.take (k - 1)) (by rw [List.length_take]; omega)
    by_cases hlt : k < n
    · have hks : k < s.size := by omega
      have hsk : ((s[k]'hks).toNat : Int) ≤ 255 := by have := (s[k]'hks).toNat_lt; omega
      have hel : s[k]'hks = r[k - 1]'(by omega) := by
        have e : s.data.toList[k]'(by simpa using hks) = (b :: r)[k]'(by simp; omega) := by simp [HB.out]
        rw [List.getElem_cons] at e
        rw [dif_neg (by omega)] at e
        exact e
      have hst := accZ_step t r (k - 1) (by omega)
      rw [← hel, show k - 1 + 1 = k by omega] at hst
      have HS := Lib.hid hst
      clear hst hel hrl
      obtain ⟨a, ha⟩ : ∃ a, a = accZ t (r.take (k - 1)) := ⟨_, rfl⟩
      rw [← ha] at hac HS
      rw [← ha]
      clear ha
      go_wp2
      go_round
      case rel => exact ⟨k + 1, by omega, by omega, by go_num, ret_v (by rw [Nat.add_sub_cancel, HS.out])⟩
      case measure => simp [intOf]; omega
    · obtain rfl : n = k := by omega
      clear hrl
      obtain ⟨a, ha⟩ : ∃ a, a = accZ t (r.take (n - 1)) := ⟨_, rfl⟩
      rw [← ha] at hac
      rw [← ha]
      have HA := Lib.hid ha
      clear ha
      by_cases hp : ptB a = true
      · have HP := Lib.hid hp
        clear hp
        have hb3 := ptB_iff a
        have hpa := hb3.1 HP.out
        obtain ⟨pa0, pa1, _⟩ := hpa
        clear hb3
        have hex : (s.extract 0 n).toList = (b :: r).take n := by
          rw [Lib.extract_eq, ByteArray.toList_eq, HB.out]
          simp
        have ne : (!Lib.encodeRune a == (s.extract 0 n).toList) = true → nx (b :: r) = (0, 0) := fun h => by
          refine NO.out (.inr (.inr ⟨n, rfl, .inr ?_⟩))
          rw [← HA.out, ← hex]
          simpa using h
        have eq : (!Lib.encodeRune a == (s.extract 0 n).toList) = false → nx (b :: r) = (a.toNat, n) := fun h => by
          refine YES.out n rfl (by rw [List.length_cons]; have := HZ.out; omega) a HP.out ?_
          rw [← hex]
          simpa using h
        have NE := Lib.hid ne
        have EQ := Lib.hid eq
        clear ne eq hex
        have kp := fun w => refPoint_any a w (by omega) (by omega)
        rw [HP.out] at kp
        have KP := Lib.hid kp
        have kb := fun w => refBytes_any a w HP.out
        have KB := Lib.hid kb
        have hcv := conv_bytes a w
        clear kp kb
        go_wp2_with fail
        go_region_with (first | (go_at_call 38; ((with_reducible refine (KP.out _).mono ?_)); rintro e w' ⟨rfl, rfl⟩) | (go_at_call 39; ((with_reducible refine (KB.out _).mono ?_)); rintro e w' ⟨rfl, rfl⟩))
        all_goals clear hcv
        all_goals go_wp2_with fail
        all_goals
          first
          | (have hq : (!Lib.encodeRune a == (s.extract 0 n).toList) = true := by assumption
             have hz := NE.out hq
             go_ret2
             exact ⟨by rw [hz]; rfl, ((Below.refl _ _).alloc (Nat.le_refl _) _).drew⟩)
          | (have hq : (!Lib.encodeRune a == (s.extract 0 n).toList) = false := by assumption
             have hz := EQ.out hq
             go_ret2
             exact ⟨by rw [hz]; exact ret_ii (by simp only; omega) rfl, ((Below.refl _ _).alloc (Nat.le_refl _) _).drew⟩)
      · have hpf : ptB a = false := by simpa using hp
        have hno := NO.out (.inr (.inr ⟨n, rfl, .inl (by rw [← HA.out]; exact hpf)⟩))
        have HN := Lib.hid hno
        have kp := fun w => refPoint_any a w (by omega) (by omega)
        rw [hpf] at kp
        have KP := Lib.hid kp
        clear hp hno kp hpf
        go_wp2_with fail
        go_quiet ((go_at_call 38; exact Calls.quiet_of_same ((KP.out _).mono fun e w' h => ⟨h.1, h.2.symm⟩)))
        go_wp2_with fail
        go_ret2
        exact ⟨by rw [HN.out]; rfl, below_drewN (Below.refl _ _) _⟩
end Go.Proofs.YtkgnhdebphaknaaDoor
namespace Go.Proofs.YtkgnhdebphaknaaDoor
open Go.RowKit Go
set_option linter.unusedVariables false
theorem elemI32t : Elem1 Tryd.prog 21 (.int .i32 0) 4 := by unfold Elem1; kernel_rfl
theorem elemIntt : Elem1 Tryd.prog 3 (.int .i64 0) 8 := by unfold Elem1; kernel_rfl
theorem elemU8t : Elem1 Tryd.prog 5 (.int .u8 0) 1 := by unfold Elem1; kernel_rfl
def optE (r : Option (List Int)) (q : IntKind) (w' : World) (e : Ending) : Prop :=
  (r = none ∧ e = .returned (.tuple #[.slice none 0 0, .int .i64 5])) ∨ (∃ ks A c, r = some ks ∧ e = .returned (.tuple #[.slice A ks.length c, .int .i64 0]) ∧ IntsAt w' q A ks.length ks)
theorem drop_bat (s : ByteArray) (k : Nat) (h : k ≤ s.size) : (s.extract k s.size).data.toList = s.data.toList.drop k := by
  rw [Lib.extract_eq]
  simp
  rw [List.take_of_length_le]
  simp
set_option maxHeartbeats 1000000 in
theorem runes_any (s0 : ByteArray) (w : World) (hT : U8 w) (hs : s0.size ≤ 4000) : Calls Tryd.prog 27 #[.string s0] w fun e w' => optE (runesL s0.data.toList) .i32 w' e ∧ Below w.heap.size w w' := by
  have RS := Lib.hid (rInv_start s0.data.toList)
  go_enter Tryd.func27, Tryd.ntmps27
  go_wp2_with fail
  go_loopw [0, 4] (fun sv v wr => ∃ s : ByteArray, ∃ A : List Int, sv = .string s ∧ RInv s0.data.toList A s.data.toList ∧ wr.ownsRow w.heap.size 21 1 v A.length (intVs .i32 A) ∧ Below w.heap.size w wr) (fun sv _ _ => match sv with | .string s => s.size | _ => 0)
  case atStart => exact ⟨s0, [], rfl, RS.out, World.ownsRow_nil _ _ _ _, Below.refl _ _⟩
  case round =>
    obtain ⟨s, A, rfl, hinv, hown, HB⟩ := hrel
    have hl := hinv.2
    by_cases he : s.toList.isEmpty = true
    · have hn : s.data.toList = [] := by rw [ByteArray.toList_eq] at he; simpa using he
      rw [hn] at hinv
      have hend := rInv_end hinv
      have HE := Lib.hid hend
      obtain ⟨B, c, rfl, hat⟩ := IntsAt.of_own hown
      clear hend hinv hn
      go_wp2_with fail
      go_ret2
      exact ⟨.inr ⟨A, B, c, HE.out, rfl, hat⟩, HB⟩
    · have he' : s.toList.isEmpty = false := by simpa using he
      have hne : s.data.toList ≠ [] := by
        rw [ByteArray.toList_eq] at he'
        intro h
        rw [h] at he'
        simp at he'
      clear he
      have hbd := nx_bd s.data.toList
      have hk := next_any s wr (hT.below HB)
      have hno := rInv_no hinv hne
      have hgo := rInv_step hinv hne
      have hdr := drop_bat s (nx s.data.toList).2
      obtain ⟨c, hc⟩ : ∃ c, c = (nx s.data.toList).1 := ⟨_, rfl⟩
      obtain ⟨k, hk2⟩ : ∃ k, k = (nx s.data.toList).2 := ⟨_, rfl⟩
      rw [← hc, ← hk2] at hk
      rw [← hc, ← hk2] at hbd hgo
      rw [← hk2] at hno hdr
      have HNO := Lib.hid hno
      have HGO := Lib.hid hgo
      have HDR := Lib.hid hdr
      have HK := Lib.hid hk
      obtain ⟨bd1, bd2, bd3⟩ := hbd
      have bd3' : k ≤ s.size := by simpa using bd3
      have hsl : s.data.toList.length = s.size := by simp
      have hsl0 : s0.data.toList.length = s0.size := by simp
      rw [hsl, hsl0] at hl
      clear hno hgo hdr hk hinv hne hc hk2 bd3 hsl hsl0
      by_cases h0 : k = 0
      · have hn := HNO.out h0
        have HN := Lib.hid hn
        have hd : decide (0 < k) = false := by simp [h0]
        clear hn h0
        rw [hd] at HK
        clear hd
        go_wp2_with fail
        ((with_reducible refine HK.out.mono ?_))
        rintro e w' ⟨rfl, hb⟩
        go_wp2_with fail
        go_ret2
        exact ⟨.inl ⟨HN.out, rfl⟩, HB.trans (hb.mono HB.size)⟩
      · have hd : decide (0 < k) = true := by simp; omega
        rw [hd] at HK
        clear hd
        have hwz := HB.size
        go_wp2_with fail
        ((with_reducible refine HK.out.mono ?_))
        rintro e w' ⟨rfl, hb⟩
        have HB' := HB.trans (hb.mono HB.size)
        have hown' := ownsRow_below hown hb
        have hwz' := HB'.size
        clear hown HB
        go_wp2_with (at_builtin; refine wpList_app1 rfl (.tmp 18) (.tmp 20) 38 21 rfl Tryd.underlying38 elemI32t rfl w.heap.size _ A.length _ _ rfl rfl hown' rfl (by omega) (by omega) hwz' ?_)
        intro v' w2 hown2 HB2 hne
        have hown3 := own_appInt hown2
        clear hown2 hown'
        go_wp2_with fail
        go_roundw
        case rel => exact ⟨s.extract k s.size, A ++ [(c : Int)], rfl, by rw [HDR.out bd3']; exact HGO.out h0, hown3, HB'.trans HB2⟩
        case measure => simp [ByteArray.size_extract]; omega
set_option maxHeartbeats 1000000 in
theorem refRunes_any (s0 : ByteArray) (w : World) (hs : s0.size ≤ 4000) : Calls Tryd.prog 18 #[.string s0] w fun e w' => optE (runesL s0.data.toList) .i64 w' e ∧ Below w.heap.size w w' := by
  have RS := Lib.hid (rInv_start s0.data.toList)
  go_enter Tryd.func18, Tryd.ntmps18
  go_wp2_with fail
  go_loopw [4, 5] (fun v i wr => ∃ k : Nat, ∃ A : List Int, k ≤ s0.size ∧ i = .int .i64 k ∧ RInv s0.data.toList A (s0.data.toList.drop k) ∧ wr.ownsRow w.heap.size 3 1 v A.length (intVs .i64 A) ∧ Below w.heap.size w wr) (fun _ i _ => s0.size - (intOf i).toNat)
  case atStart => exact ⟨0, [], Nat.zero_le _, rfl, by rw [List.drop_zero]; exact RS.out, World.ownsRow_nil _ _ _ _, Below.refl _ _⟩
  case round =>
    obtain ⟨k, A, hk, rfl, hinv, hown, HB⟩ := hrel
    have hl := hinv.2
    have hsl0 : s0.data.toList.length = s0.size := by simp
    by_cases hlt : k < s0.size
    · have hne : s0.data.toList.drop k ≠ [] := by
        intro h
        have := congrArg List.length h
        rw [List.length_drop, hsl0] at this
        simp at this
        omega
      have hdr := drop_bat s0 k hk
      have hc := refNext_any (s0.extract k s0.size) wr (by rw [ByteArray.size_extract]; omega)
      rw [hdr] at hc
      have hbd := nx_bd (s0.data.toList.drop k)
      have hno := rInv_no hinv hne
      have hgo := rInv_step hinv hne
      rw [List.drop_drop] at hgo
      obtain ⟨c, hc1⟩ : ∃ c, c = (nx (s0.data.toList.drop k)).1 := ⟨_, rfl⟩
      obtain ⟨n, hn⟩ : ∃ n, n = (nx (s0.data.toList.drop k)).2 := ⟨_, rfl⟩
      rw [← hc1, ← hn] at hc hbd hgo
      rw [← hn] at hno
      rw [List.length_drop, hsl0] at hbd hl
      have HNO := Lib.hid hno
      have HGO := Lib.hid hgo
      have HC := Lib.hid hc
      obtain ⟨bd1, bd2, bd3⟩ := hbd
      clear hno hgo hc hinv hne hc1 hn hdr hsl0
      by_cases h0 : n = 0
      · have hn := HNO.out h0
        have HN := Lib.hid hn
        clear hn
        subst h0
        go_wp2_with fail
        ((with_reducible refine HC.out.mono ?_))
        rintro e w' ⟨rfl, hb⟩
        go_wp2_with fail
        go_ret2
        exact ⟨.inl ⟨HN.out, rfl⟩, HB.trans (hb.mono HB.size)⟩
      · have hwz := HB.size
        go_wp2_with fail
        ((with_reducible refine HC.out.mono ?_))
        rintro e w' ⟨rfl, hb⟩
        have HB' := HB.trans (hb.mono HB.size)
        have hown' := ownsRow_below hown hb
        have hwz' := HB'.size
        clear hown HB
        go_wp2_with (at_builtin; refine wpList_app1 rfl (.tmp 21) (.tmp 23) 28 3 rfl Tryd.underlying28 elemIntt rfl w.heap.size _ A.length _ _ rfl rfl hown' rfl (by omega) (by omega) hwz' ?_)
        intro v' w2 hown2 HB2 hne
        have hown3 := own_appInt hown2
        clear hown2 hown'
        go_wp2_with fail
        go_roundw
        case rel => exact ⟨k + n, A ++ [(c : Int)], by omega, by go_num, HGO.out h0, hown3, HB'.trans HB2⟩
        case measure => simp [intOf]; omega
    · have hn : s0.data.toList.drop k = [] := by
        apply List.drop_eq_nil_of_le
        omega
      rw [hn] at hinv
      have hend := rInv_end hinv
      have HE := Lib.hid hend
      obtain ⟨B, c, rfl, hat⟩ := IntsAt.of_own hown
      clear hend hinv hn hsl0
      go_wp2_with fail
      go_ret2
      exact ⟨.inr ⟨A, B, c, HE.out, rfl, hat⟩, HB⟩
theorem own_bytes {w : World} {base n : Nat} {v : Value} {l : List UInt8} (h : w.ownsRow base 5 1 v n (Lib.byteCells l)) : (convert 33 9 v).run Tryd.prog w = .ok (.string ⟨l.toArray⟩) w :=
  own_string Tryd.underlying33 Tryd.underlying5 Tryd.underlying9 h
def textS (l : List Int) : ByteArray := ⟨((textL l).getD []).toArray⟩
def textE (l : List Int) : Int := if (textL l).isSome then 0 else 4
theorem textS_no {l : List Int} (h : textL l = none) : textS l = ⟨#[]⟩ ∧ textE l = 4 := by unfold textS textE; rw [h]; exact ⟨rfl, rfl⟩
theorem textS_yes {l : List Int} {t : List UInt8} (h : textL l = some t) : textS l = ⟨t.toArray⟩ ∧ textE l = 0 := by unfold textS textE; rw [h]; exact ⟨rfl, rfl⟩
theorem ret_se {a b : ByteArray} {x y : Int} (h : a = b) (k : x = y) : Ending.returned (.tuple #[.string a, .int .i64 x]) = .returned (.tuple #[.string b, .int .i64 y]) := by rw [h, k]
theorem byteCells_app (a b : List UInt8) : Lib.byteCells (a ++ b) = Lib.byteCells a ++ Lib.byteCells b := by simp [Lib.byteCells]
def flat (l : List Int) : List UInt8 := l.flatMap Lib.encodeRune
theorem own_enc {w : World} {base n : Nat} {v : Value} {l : List Int} {k : Nat} {x : Int} (hk : k < l.length) (hx : x = l[k]) (h : w.ownsRow base 5 1 v n (Lib.byteCells (flat (l.take k)) ++ Lib.runeCells x)) : w.ownsRow base 5 1 v n (Lib.byteCells (flat (l.take (k + 1)))) := by
  subst hx
  unfold flat at h ⊢
  rw [flat_take l k hk, byteCells_app, Lib.byteCells_encodeRune]
  exact h
set_option maxHeartbeats 1000000 in
theorem text_any (A : Option Addr) (n c : Nat) (l : List Int) (w : World) (hl : IntsAt w .i32 A n l) (hn : n ≤ 4000) (hx : ∀ x ∈ l, -2147483648 ≤ x ∧ x ≤ 2147483647) :
    Calls Tryd.prog 36 #[.slice A n c] w fun e w' => e = .returned (.tuple #[.string (textS l), .int .i64 (textE l)]) ∧ Below w.heap.size w w' := by
  have HLEN := Lib.hid hl.1
  go_enter Tryd.func36, Tryd.ntmps36
  go_wp2_with fail
  go_loopw [4, 9] (fun v i wr => ∃ k m : Nat, k ≤ n ∧ i = .int .i64 k ∧ (l.take k).all ptB = true ∧ m ≤ 4 * k ∧ wr.ownsRow w.heap.size 5 1 v m (Lib.byteCells (flat (l.take k))) ∧ Below w.heap.size w wr) (fun _ i _ => n - (intOf i).toNat)
  case atStart => exact ⟨0, 0, Nat.zero_le _, rfl, rfl, by omega, World.ownsRow_nil _ _ _ _, Below.refl _ _⟩
  case round =>
    obtain ⟨k, m, hk, rfl, hall, hm, hown, HB⟩ := hrel
    have hwz := HB.size
    by_cases hlt : k < n
    · obtain ⟨b, o, rfl, hb, hcell⟩ := hl.2 (by omega)
      have hkl : k < l.length := by have := HLEN.out; omega
      have h1 := hcell k hkl
      rw [← HB.cell (p := ⟨b, o + k, none⟩) hb] at h1
      have hxk := hx l[k] (List.getElem_mem _)
      have hgo := textL_snoc l k hkl hall
      have hbad := textL_bad l k hkl
      have hown2 := fun (w2 : World) (v : Value) n x => own_enc (w := w2) (base := w.heap.size) (n := n) (v := v) (x := x) hkl
      obtain ⟨x, hxe⟩ : ∃ x, x = l[k] := ⟨_, rfl⟩
      rw [← hxe] at h1 hxk hgo hbad hown2
      have GO := Lib.hid hgo
      have BAD := Lib.hid hbad
      have OWN := Lib.hid hown2
      have hel := enc_len_bd x
      rw [← Lib.runeCells_length] at hel
      clear hxe hcell hl hx hgo hbad hall hown2
      obtain ⟨x0, x1⟩ := hxk
      have kp := fun w => point_any x w
      by_cases hp : ptB x = true
      · rw [hp] at kp
        have KP := Lib.hid kp
        have HP := Lib.hid hp
        clear kp hp
        go_wp2_with fail
        ((with_reducible refine (KP.out _).mono ?_))
        rintro e w' ⟨rfl, rfl⟩
        go_wp2_with fail
        ((with_reducible refine (Tryd.utf8_AppendRune_plain w.heap.size _ m _ x x0 x1 _ hown (by omega) hwz).mono ?_))
        rintro e w2 ⟨v', rfl, hown3, ob, hgrow⟩
        have hown4 := OWN.out _ _ _ _ rfl hown3
        have HB2 : Below w.heap.size w w2 := HB.trans (((Below.refl _ _).alloc hwz _).grown hgrow (by simp; omega) (fun k hk => (hown.lt k hk).1))
        clear hown3 hown hgrow
        go_wp2_with fail
        go_roundw
        case rel => exact ⟨k + 1, _, by omega, by go_num, GO.out HP.out, by omega, hown4, HB2⟩
        case measure => simp [intOf]; omega
      · have hpf : ptB x = false := by simpa using hp
        rw [hpf] at kp
        have KP := Lib.hid kp
        have hb2 := textS_no (BAD.out hpf)
        have HB2 := Lib.hid hb2
        clear kp hp hpf hb2
        go_wp2_with fail
        ((with_reducible refine (KP.out _).mono ?_))
        rintro e w' ⟨rfl, rfl⟩
        go_wp2_with fail
        go_ret2
        exact ⟨ret_se HB2.out.1.symm HB2.out.2.symm, HB⟩
    · rw [List.take_of_length_le (by have := HLEN.out; omega)] at hown
      have hall2 : (l.take l.length).all ptB = true := by rw [← HLEN.out, show n = k by omega]; exact hall
      have hb2 := textS_yes (textL_good l hall2)
      have HB2 := Lib.hid hb2
      have hcv := own_bytes hown
      unfold flat at hcv
      clear hl hall hall2 hb2 hx
      go_wp2_with fail
      go_ret2
      exact ⟨ret_se HB2.out.1.symm HB2.out.2.symm, HB⟩
theorem cell_one (r : Int) : ∀ u ∈ Lib.runeCells r, u.oneCell' = true := by
  intro u hu
  unfold Lib.runeCells at hu
  obtain ⟨x, _, rfl⟩ := List.mem_map.1 hu
  rfl
theorem runeCells_lenZ (r : Int) : (Lib.runeCells r).length = (Lib.encodeRuneZ r).length := by simp [Lib.runeCells]
set_option maxHeartbeats 1000000 in
theorem refText_any (A : Option Addr) (n c : Nat) (l : List Int) (w : World) (hl : IntsAt w .i64 A n l) (hn : n ≤ 4000) (hx : ∀ x ∈ l, -2147483648 ≤ x ∧ x ≤ 2147483647) :
    Calls Tryd.prog 25 #[.slice A n c] w fun e w' => e = .returned (.tuple #[.string (textS l), .int .i64 (textE l)]) ∧ Below w.heap.size w w' := by
  have HLEN := Lib.hid hl.1
  go_enter Tryd.func25, Tryd.ntmps25
  go_wp2_with fail
  go_loopw [4, 5] (fun v i wr => ∃ k m : Nat, k ≤ n ∧ i = .int .i64 k ∧ (l.take k).all ptB = true ∧ m ≤ 4 * k ∧ wr.ownsRow w.heap.size 5 1 v m (Lib.byteCells (flat (l.take k))) ∧ Below w.heap.size w wr) (fun _ i _ => n - (intOf i).toNat)
  case atStart => exact ⟨0, 0, Nat.zero_le _, rfl, rfl, by omega, World.ownsRow_nil _ _ _ _, Below.refl _ _⟩
  case round =>
    obtain ⟨k, m, hk, rfl, hall, hm, hown, HB⟩ := hrel
    have hwz := HB.size
    by_cases hlt : k < n
    · obtain ⟨b, o, rfl, hb, hcell⟩ := hl.2 (by omega)
      have hkl : k < l.length := by have := HLEN.out; omega
      have h1 := hcell k hkl
      rw [← HB.cell (p := ⟨b, o + k, none⟩) hb] at h1
      have hxk := hx l[k] (List.getElem_mem _)
      have hgo := textL_snoc l k hkl hall
      have hbad := textL_bad l k hkl
      have hown2 := fun (w2 : World) (v : Value) n x => own_enc (w := w2) (base := w.heap.size) (n := n) (v := v) (x := x) hkl
      obtain ⟨x, hxe⟩ : ∃ x, x = l[k] := ⟨_, rfl⟩
      rw [← hxe] at h1 hxk hgo hbad hown2
      have GO := Lib.hid hgo
      have BAD := Lib.hid hbad
      have OWN := Lib.hid hown2
      have hel := enc_len_bd x
      rw [enc_len] at hel
      clear hxe hcell hl hx hgo hbad hall hown2
      obtain ⟨x0, x1⟩ := hxk
      have kp := fun w => refPoint_any x w (by omega) (by omega)
      by_cases hp : ptB x = true
      · rw [hp] at kp
        have KP := Lib.hid kp
        have HP := Lib.hid hp
        have RB := Lib.hid (fun w => refBytes_any x w hp)
        have LZ := Lib.hid (runeCells_lenZ x)
        clear kp hp
        obtain ⟨z, hz⟩ : ∃ z, z = (Lib.encodeRuneZ x).length := ⟨_, rfl⟩
        unfold BytesP at RB
        rw [← hz] at RB LZ hel
        clear hz
        go_wp2_with fail
        ((with_reducible refine (KP.out _).mono ?_))
        rintro e w' ⟨rfl, rfl⟩
        go_wp2_with fail
        ((with_reducible refine (RB.out _).mono ?_))
        rintro e w' ⟨rfl, rfl⟩
        go_wp2_with (at_builtin; refine wpList_appN rfl (.tmp 18) (.tmp 23) 33 5 rfl Tryd.underlying33 elemU8t rfl w.heap.size _ m z _ (Lib.runeCells x) rfl LZ.out rfl hown (cell_one x) (by omega) (by omega) (by omega) hwz ?_)
        intro v' w2 hown3 HB3
        have hown4 := OWN.out _ _ _ _ rfl hown3
        clear hown3 hown
        go_wp2_with fail
        go_roundw
        case rel => exact ⟨k + 1, _, by omega, by go_num, GO.out HP.out, by omega, hown4, HB.trans HB3⟩
        case measure => simp [intOf]; omega
      · have hpf : ptB x = false := by simpa using hp
        rw [hpf] at kp
        have KP := Lib.hid kp
        have hb2 := textS_no (BAD.out hpf)
        have HB2 := Lib.hid hb2
        clear kp hp hpf hb2
        go_wp2_with fail
        ((with_reducible refine (KP.out _).mono ?_))
        rintro e w' ⟨rfl, rfl⟩
        go_wp2_with fail
        go_ret2
        exact ⟨ret_se HB2.out.1.symm HB2.out.2.symm, HB⟩
    · rw [List.take_of_length_le (by have := HLEN.out; omega)] at hown
      have hall2 : (l.take l.length).all ptB = true := by rw [← HLEN.out, show n = k by omega]; exact hall
      have hb2 := textS_yes (textL_good l hall2)
      have HB2 := Lib.hid hb2
      have hcv := own_bytes hown
      unfold flat at hcv
      clear hl hall hall2 hb2 hx
      go_wp2_with fail
      go_ret2
      exact ⟨ret_se HB2.out.1.symm HB2.out.2.symm, HB⟩
end Go.Proofs.YtkgnhdebphaknaaDoor
