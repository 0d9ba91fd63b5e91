/- Texts behind a law of this seat, in order: Utf3. -/
import Derived.Test.YtbcnnjifndmdpaaDoorPa
import Derived.Test.YtbcnnjifndmdpaaDoorPb
import Derived.Test.YtbcnnjifndmdpaaDoorPc
import Derived.Test.YtbcnnjifndmdpaaDoorPe
import Derived.Test.YtbcnnjifndmdpaaDoorPf
import Derived.Test.YtbcnnjifndmdpaaDoorPq
import Derived.BigQuiet
import Derived.ChangeSlices
import Derived.Deep.QuietTactic
import Derived.Deep.RegionWith
import Derived.Handed
import Derived.Lib.DecodeN
import Derived.Lib.Hide
import Derived.Lib.RuneBytes
import Derived.Lib.Strings
import Derived.Shelf.LaysM
import Derived.Shelf.Small.Strs
import Derived.Shelf.Small.Utf8
import Derived.Shelf.Small.Wraps
import Derived.Shelf.Strings.Builder1
import Derived.Shelf.Strings.Builder2
import Derived.Shelf.Strings.Builder2Cap
import Derived.Shelf.Strings.BuilderCap
import Derived.Shelf.Strings.BuilderF
import Derived.Shelf.Strings.BuilderK
import Derived.Shelf.Strings.BuilderRune
import Derived.Shelf.Strings.Count
import Derived.Shelf.Strings.MapAny
import Derived.Shelf.Strings.OnBuilder
import Derived.Shelf.Strings.Prefix
import Derived.Shelf.Strings.Search1
import Derived.Shelf.Strings.Search2
import Derived.Shelf.Strings.Search3
import Derived.Shelf.Strings.Shaped
import Derived.Shelf.Strings.Split
import Derived.Shelf.Strings.SplitShaped
import Derived.Shelf.Unicode.Decode
import Derived.Shelf.Unicode.DecodeAny
import Derived.Shelf.Unicode.DecodeSlow
import Derived.Shelf.Utf8.AppendRunePlain
import Derived.SizedLaws
import Derived.SliceStrings
import Derived.Test.YtbcnnjifndmdpaaDoorProg
import Derived.WalkKit
import Derived.WalkLawsBesides
import Derived.WalkSmall
import Derived.WalkSpells
namespace Go.Proofs.YtbcnnjifndmdpaaDoor
open Go.RowKit Go
set_option linter.unusedVariables false
theorem elemI32t : Elem1 Tryd.prog 21 (.int .i32 0) 4 := by unfold Elem1; kernel_rfl
def optE (r : Option (List Int)) (q : IntKind) (w' : World) (e : Ending) : Prop :=
  (r = none ∧ e = .returned (.tuple #[.slice none 0 0, .int .i64 5])) ∨ (∃ ks A c, r = some ks ∧ e = .returned (.tuple #[.slice A ks.length c, .int .i64 0]) ∧ IntsAt w' q A ks.length ks)
theorem drop_bat (s : ByteArray) (k : Nat) (h : k ≤ s.size) : (s.extract k s.size).data.toList = s.data.toList.drop k := by
  rw [Lib.extract_eq]
  simp
  rw [List.take_of_length_le]
  simp
set_option maxHeartbeats 1000000 in
theorem runes_any (s0 : ByteArray) (w : World) (hT : U8 w) (hs : s0.size ≤ 4000) : Calls Tryd.prog 9 #[.string s0] w fun e w' => optE (runesL s0.data.toList) .i32 w' e ∧ Below w.heap.size w w' := by
  have RS := Lib.hid (rInv_start s0.data.toList)
  go_enter Tryd.func9, Tryd.ntmps9
  go_wp2_with fail
  go_loopw [0, 4] (fun sv v wr => ∃ s : ByteArray, ∃ A : List Int, sv = .string s ∧ RInv s0.data.toList A s.data.toList ∧ wr.ownsRow w.heap.size 21 1 v A.length (intVs .i32 A) ∧ Below w.heap.size w wr) (fun sv _ _ => match sv with | .string s => s.size | _ => 0)
  case atStart => exact ⟨s0, [], rfl, RS.out, World.ownsRow_nil _ _ _ _, Below.refl _ _⟩
  case round =>
    obtain ⟨s, A, rfl, hinv, hown, HB⟩ := hrel
    have hl := hinv.2
    by_cases he : s.toList.isEmpty = true
    · have hn : s.data.toList = [] := by rw [ByteArray.toList_eq] at he; simpa using he
      rw [hn] at hinv
      have hend := rInv_end hinv
      have HE := Lib.hid hend
      obtain ⟨B, c, rfl, hat⟩ := IntsAt.of_own hown
      clear hend hinv hn
      go_wp2_with fail
      go_ret2
      exact ⟨.inr ⟨A, B, c, HE.out, rfl, hat⟩, HB⟩
    · have he' : s.toList.isEmpty = false := by simpa using he
      have hne : s.data.toList ≠ [] := by
        rw [ByteArray.toList_eq] at he'
        intro h
        rw [h] at he'
        simp at he'
      clear he
      have hbd := nx_bd s.data.toList
      have hk := next_any s wr (hT.below HB)
      have hno := rInv_no hinv hne
      have hgo := rInv_step hinv hne
      have hdr := drop_bat s (nx s.data.toList).2
      obtain ⟨c, hc⟩ : ∃ c, c = (nx s.data.toList).1 := ⟨_, rfl⟩
      obtain ⟨k, hk2⟩ : ∃ k, k = (nx s.data.toList).2 := ⟨_, rfl⟩
      rw [← hc, ← hk2] at hk
      rw [← hc, ← hk2] at hbd hgo
      rw [← hk2] at hno hdr
      have HNO := Lib.hid hno
      have HGO := Lib.hid hgo
      have HDR := Lib.hid hdr
      have HK := Lib.hid hk
      obtain ⟨bd1, bd2, bd3⟩ := hbd
      have bd3' : k ≤ s.size := by simpa using bd3
      have hsl : s.data.toList.length = s.size := by simp
      have hsl0 : s0.data.toList.length = s0.size := by simp
      rw [hsl, hsl0] at hl
      clear hno hgo hdr hk hinv hne hc hk2 bd3 hsl hsl0
      by_cases h0 : k = 0
      · have hn := HNO.out h0
        have HN := Lib.hid hn
        have hd : decide (0 < k) = false := by simp [h0]
        clear hn h0
        rw [hd] at HK
        clear hd
        go_wp2_with fail
        ((with_reducible refine HK.out.mono ?_))
        rintro e w' ⟨rfl, hb⟩
        go_wp2_with fail
        go_ret2
        exact ⟨.inl ⟨HN.out, rfl⟩, HB.trans (hb.mono HB.size)⟩
      · have hd : decide (0 < k) = true := by simp; omega
        rw [hd] at HK
        clear hd
        have hwz := HB.size
        go_wp2_with fail
        ((with_reducible refine HK.out.mono ?_))
        rintro e w' ⟨rfl, hb⟩
        have HB' := HB.trans (hb.mono HB.size)
        have hown' := ownsRow_below hown hb
        have hwz' := HB'.size
        clear hown HB
        go_wp2_with (at_builtin; refine wpList_app1 rfl (.tmp 18) (.tmp 20) 33 21 rfl Tryd.underlying33 elemI32t rfl w.heap.size _ A.length _ _ rfl rfl hown' rfl (by omega) (by omega) hwz' ?_)
        intro v' w2 hown2 HB2 hne
        have hown3 := own_appInt hown2
        clear hown2 hown'
        go_wp2_with fail
        go_roundw
        case rel => exact ⟨s.extract k s.size, A ++ [(c : Int)], rfl, by rw [HDR.out bd3']; exact HGO.out h0, hown3, HB'.trans HB2⟩
        case measure => simp [ByteArray.size_extract]; omega
theorem own_bytes {w : World} {base n : Nat} {v : Value} {l : List UInt8} (h : w.ownsRow base 5 1 v n (Lib.byteCells l)) : (convert 51 9 v).run Tryd.prog w = .ok (.string ⟨l.toArray⟩) w :=
  own_string Tryd.underlying51 Tryd.underlying5 Tryd.underlying9 h
def textS (l : List Int) : ByteArray := ⟨((textL l).getD []).toArray⟩
def textE (l : List Int) : Int := if (textL l).isSome then 0 else 4
theorem textS_no {l : List Int} (h : textL l = none) : textS l = ⟨#[]⟩ ∧ textE l = 4 := by unfold textS textE; rw [h]; exact ⟨rfl, rfl⟩
theorem textS_yes {l : List Int} {t : List UInt8} (h : textL l = some t) : textS l = ⟨t.toArray⟩ ∧ textE l = 0 := by unfold textS textE; rw [h]; exact ⟨rfl, rfl⟩
theorem ret_se {a b : ByteArray} {x y : Int} (h : a = b) (k : x = y) : Ending.returned (.tuple #[.string a, .int .i64 x]) = .returned (.tuple #[.string b, .int .i64 y]) := by rw [h, k]
theorem byteCells_app (a b : List UInt8) : Lib.byteCells (a ++ b) = Lib.byteCells a ++ Lib.byteCells b := by simp [Lib.byteCells]
def flat (l : List Int) : List UInt8 := l.flatMap Lib.encodeRune
theorem own_enc {w : World} {base n : Nat} {v : Value} {l : List Int} {k : Nat} {x : Int} (hk : k < l.length) (hx : x = l[k]) (h : w.ownsRow base 5 1 v n (Lib.byteCells (flat (l.take k)) ++ Lib.runeCells x)) : w.ownsRow base 5 1 v n (Lib.byteCells (flat (l.take (k + 1)))) := by
  subst hx
  unfold flat at h ⊢
  rw [flat_take l k hk, byteCells_app, Lib.byteCells_encodeRune]
  exact h
set_option maxHeartbeats 1000000 in
theorem text_any (A : Option Addr) (n c : Nat) (l : List Int) (w : World) (hl : IntsAt w .i32 A n l) (hn : n ≤ 4000) (hx : ∀ x ∈ l, -2147483648 ≤ x ∧ x ≤ 2147483647) :
    Calls Tryd.prog 55 #[.slice A n c] w fun e w' => e = .returned (.tuple #[.string (textS l), .int .i64 (textE l)]) ∧ Below w.heap.size w w' := by
  have HLEN := Lib.hid hl.1
  go_enter Tryd.func55, Tryd.ntmps55
  go_wp2_with fail
  go_loopw [4, 9] (fun v i wr => ∃ k m : Nat, k ≤ n ∧ i = .int .i64 k ∧ (l.take k).all ptB = true ∧ m ≤ 4 * k ∧ wr.ownsRow w.heap.size 5 1 v m (Lib.byteCells (flat (l.take k))) ∧ Below w.heap.size w wr) (fun _ i _ => n - (intOf i).toNat)
  case atStart => exact ⟨0, 0, Nat.zero_le _, rfl, rfl, by omega, World.ownsRow_nil _ _ _ _, Below.refl _ _⟩
  case round =>
    obtain ⟨k, m, hk, rfl, hall, hm, hown, HB⟩ := hrel
    have hwz := HB.size
    by_cases hlt : k < n
    · obtain ⟨b, o, rfl, hb, hcell⟩ := hl.2 (by omega)
      have hkl : k < l.length := by have := HLEN.out; omega
      have h1 := hcell k hkl
      rw [← HB.cell (p := ⟨b, o + k, none⟩) hb] at h1
      have hxk := hx l[k] (List.getElem_mem _)
      have hgo := textL_snoc l k hkl hall
      have hbad := textL_bad l k hkl
      have hown2 := fun (w2 : World) (v : Value) n x => own_enc (w := w2) (base := w.heap.size) (n := n) (v := v) (x := x) hkl
      obtain ⟨x, hxe⟩ : ∃ x, x = l[k] := ⟨_, rfl⟩
      rw [← hxe] at h1 hxk hgo hbad hown2
      have GO := Lib.hid hgo
      have BAD := Lib.hid hbad
      have OWN := Lib.hid hown2
      have hel := enc_len_bd x
      rw [← Lib.runeCells_length] at hel
      clear hxe hcell hl hx hgo hbad hall hown2
      obtain ⟨x0, x1⟩ := hxk
      have kp := fun w => point_any x w
      by_cases hp : ptB x = true
      · rw [hp] at kp
        have KP := Lib.hid kp
        have HP := Lib.hid hp
        clear kp hp
        go_wp2_with fail
        ((with_reducible refine (KP.out _).mono ?_))
        rintro e w' ⟨rfl, rfl⟩
        go_wp2_with fail
        ((with_reducible refine (Tryd.utf8_AppendRune_plain w.heap.size _ m _ x x0 x1 _ hown (by omega) hwz).mono ?_))
        rintro e w2 ⟨v', rfl, hown3, ob, hgrow⟩
        have hown4 := OWN.out _ _ _ _ rfl hown3
        have HB2 : Below w.heap.size w w2 := HB.trans (((Below.refl _ _).alloc hwz _).grown hgrow (by simp; omega) (fun k hk => (hown.lt k hk).1))
        clear hown3 hown hgrow
        go_wp2_with fail
        go_roundw
        case rel => exact ⟨k + 1, _, by omega, by go_num, GO.out HP.out, by omega, hown4, HB2⟩
        case measure => simp [intOf]; omega
      · have hpf : ptB x = false := by simpa using hp
        rw [hpf] at kp
        have KP := Lib.hid kp
        have hb2 := textS_no (BAD.out hpf)
        have HB2 := Lib.hid hb2
        clear kp hp hpf hb2
        go_wp2_with fail
        ((with_reducible refine (KP.out _).mono ?_))
        rintro e w' ⟨rfl, rfl⟩
        go_wp2_with fail
        go_ret2
        exact ⟨ret_se HB2.out.1.symm HB2.out.2.symm, HB⟩
    · rw [List.take_of_length_le (by have := HLEN.out; omega)] at hown
      have hall2 : (l.take l.length).all ptB = true := by rw [← HLEN.out, show n = k by omega]; exact hall
      have hb2 := textS_yes (textL_good l hall2)
      have HB2 := Lib.hid hb2
      have hcv := own_bytes hown
      unfold flat at hcv
      clear hl hall hall2 hb2 hx
      go_wp2_with fail
      go_ret2
      exact ⟨ret_se HB2.out.1.symm HB2.out.2.symm, HB⟩
end Go.Proofs.YtbcnnjifndmdpaaDoor
