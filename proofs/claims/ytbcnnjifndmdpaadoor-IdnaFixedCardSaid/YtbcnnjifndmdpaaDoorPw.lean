/- Texts behind a law of this seat, in order: Dom5. -/
import Derived.Test.YtbcnnjifndmdpaaDoorPa
import Derived.Test.YtbcnnjifndmdpaaDoorPb
import Derived.Test.YtbcnnjifndmdpaaDoorPe
import Derived.Test.YtbcnnjifndmdpaaDoorPf
import Derived.Test.YtbcnnjifndmdpaaDoorPp
import Derived.Test.YtbcnnjifndmdpaaDoorPs
import Derived.Test.YtbcnnjifndmdpaaDoorPu
import Derived.Test.YtbcnnjifndmdpaaDoorPv
import Derived.BigQuiet
import Derived.ChangeSlices
import Derived.Deep.QuietTactic
import Derived.Handed
import Derived.Handy
import Derived.Lib.Bytealg
import Derived.Lib.Hide
import Derived.Lib.Join
import Derived.Lib.Strings
import Derived.Shelf.LaysM
import Derived.Shelf.Small.Strs
import Derived.Shelf.Small.Utf8
import Derived.Shelf.Small.Wraps
import Derived.Shelf.Strings.Builder1
import Derived.Shelf.Strings.Builder2
import Derived.Shelf.Strings.Builder2Cap
import Derived.Shelf.Strings.BuilderCap
import Derived.Shelf.Strings.BuilderF
import Derived.Shelf.Strings.BuilderK
import Derived.Shelf.Strings.BuilderRune
import Derived.Shelf.Strings.Count
import Derived.Shelf.Strings.MapAny
import Derived.Shelf.Strings.OnBuilder
import Derived.Shelf.Strings.Prefix
import Derived.Shelf.Strings.Search1
import Derived.Shelf.Strings.Search2
import Derived.Shelf.Strings.Search3
import Derived.Shelf.Strings.Shaped
import Derived.Shelf.Strings.Split
import Derived.Shelf.Strings.SplitShaped
import Derived.Shelf.Unicode.Decode
import Derived.Shelf.Unicode.DecodeAny
import Derived.Shelf.Unicode.DecodeSlow
import Derived.Shelf.Utf8.AppendRunePlain
import Derived.SizedLaws
import Derived.SliceStrings
import Derived.Test.YtbcnnjifndmdpaaDoorProg
import Derived.WalkKit
import Derived.WalkLawsBesides
import Derived.WalkSpells
namespace Go.Proofs.YtbcnnjifndmdpaaDoor
open Go.RowKit Go
set_option linter.unusedVariables false
def ParseP (s : ByteArray) (B : Nat) (w : World) (e : Ending) (w' : World) : Prop := ∃ A c, e = .returned (.tuple #[.slice A (parseL s.data.toList).2.1.length c, .bool (parseL s.data.toList).2.2, .int .i64 (parseL s.data.toList).1]) ∧ TextsAt w' A (parseL s.data.toList).2.1.length (parseL s.data.toList).2.1 ∧ Below B w w'
theorem parseP_err {s : ByteArray} {B : Nat} {w w' : World} (x : Int) (h : parseL s.data.toList = (x, [], false)) (hb : Below B w w') : ParseP s B w (.returned (.tuple #[.slice none 0 0, .bool false, .int .i64 x])) w' := by
  refine ⟨none, 0, ?_, ?_, hb⟩
  · rw [h]; rfl
  · rw [h]; exact ⟨rfl, fun h => absurd h (by simp)⟩
theorem parseP_dot {s : ByteArray} {B : Nat} {w : World} (h : s.data.toList = [46]) : ParseP s B w (.returned (.tuple #[.slice none 0 0, .bool true, .int .i64 0])) w := by
  have : parseL s.data.toList = (0, [], true) := by rw [h]; rfl
  refine ⟨none, 0, ?_, ?_, Below.refl _ _⟩
  · rw [this]; rfl
  · rw [this]; exact ⟨rfl, fun h => absurd h (by simp)⟩
theorem parseP_ok {s : ByteArray} {B : Nat} {w w' : World} {n : List (List UInt8)} {d : Bool} {A : Option Addr} {c : Nat} (h : parseL s.data.toList = (0, n, d)) (ht : TextsAt w' A n.length n) (hb : Below B w w') : ParseP s B w (.returned (.tuple #[.slice A n.length c, .bool d, .int .i64 0])) w' := by
  refine ⟨A, c, ?_, ?_, hb⟩
  · rw [h]
  · rw [h]; exact ht
theorem parse_mach {s : List UInt8} (h : s ≠ [46]) {x : Int} {n : List (List UInt8)} {d : Bool} (hm : mach s [] [] false = (x, n, d)) : parseL s = finL (x, n, d) := by
  unfold parseL; rw [if_neg h, hm]
theorem parse_merr {s : List UInt8} (h : s ≠ [46]) {x : Int} (hx : x ≠ 0) (hm : mach s [] [] false = (x, [], false)) : parseL s = (x, [], false) := by
  rw [parse_mach h hm]; unfold finL; rw [if_neg (fun e => hx e.1)]
theorem parse_big {s : List UInt8} (h : s ≠ [46]) {n : List (List UInt8)} {d : Bool} (hm : mach s [] [] false = (0, n, d)) (hz : 255 < sizeL n) : parseL s = (3, [], false) := by
  rw [parse_mach h hm]; unfold finL; rw [if_pos ⟨rfl, hz⟩]
theorem parse_small {s : List UInt8} (h : s ≠ [46]) {n : List (List UInt8)} {d : Bool} (hm : mach s [] [] false = (0, n, d)) (hz : ¬ 255 < sizeL n) : parseL s = (0, n, d) := by
  rw [parse_mach h hm]; unfold finL; rw [if_neg (fun e => hz e.2)]
theorem mach_check {s : List UInt8} {n : List (List UInt8)} {d : Bool} (hm : mach s [] [] false = (0, n, d)) : checkL n = if 255 < sizeL n then 3 else 0 := by
  rcases mach_good s.length s [] [] false (Nat.le_refl _) rfl with ⟨h1, h2⟩ | ⟨h1, h2⟩
  · rw [hm] at h2
    unfold checkL
    rw [if_pos h2]
  · rw [hm] at h1; exact absurd rfl h1
/-- a dot cut off -/
def CutDotP (l : List UInt8) (e : Ending) : Prop := (l = [] ∧ e = .returned (.tuple #[.string ⟨#[]⟩, .bool false])) ∨ (∃ t : ByteArray, l = 46 :: t.data.toList ∧ e = .returned (.tuple #[.string t, .bool true]))
theorem cut_dot (s : ByteArray) (w : World) (h : s.data.toList = [] ∨ ∃ r, s.data.toList = 46 :: r) :
    Calls Tryd.prog 18 #[.string s, .string ⟨#[46]⟩] w fun e w' => CutDotP s.data.toList e ∧ w = w' := by
  refine (Tryd.strings_CutPrefix s ⟨#[46]⟩ w).mono ?_
  rintro e w1 ⟨rfl, rfl⟩
  refine ⟨?_, rfl⟩
  rcases h with h | ⟨r, h⟩
  · rw [h]; exact .inl ⟨rfl, rfl⟩
  · rw [h]; exact .inr ⟨⟨r.toArray⟩, by simp, by simp [Lib.trimPrefix, Lib.hasPrefix]⟩
theorem size_snoc (n : List (List UInt8)) (b : List UInt8) : sizeL (n ++ [b]) = sizeL n + (b.length + 1) := by
  rw [size_app]; unfold sizeL; simp
theorem mach_first1 {l b : List UInt8} {n : List (List UInt8)} (h : lab l [] = some (b, [])) (h1 : b ≠ []) (h2 : ¬ 63 < b.length) : mach l [] n false = (0, n ++ [b], false) := by
  rw [mach_lab l.length l [] n (Nat.le_refl _), h]
  simp only
  rw [if_neg h1, if_neg h2]
theorem mach_first2 {l b : List UInt8} {n : List (List UInt8)} {x : UInt8} {t : List UInt8} (h : lab l [] = some (b, x :: t)) (h1 : b ≠ []) (h2 : ¬ 63 < b.length) : mach l [] n false = mach t [] (n ++ [b]) true := by
  rw [mach_lab l.length l [] n (Nat.le_refl _), h]
  simp only
  rw [if_neg h1, if_neg h2]
theorem mach_first0 {l b : List UInt8} {n : List (List UInt8)} {r : List UInt8} (h : lab l [] = some (b, r)) (h1 : b = []) : mach l [] n false = (8, [], false) := by
  rw [mach_lab l.length l [] n (Nat.le_refl _), h]
  simp only
  rw [if_pos h1]
theorem mach_first9 {l b : List UInt8} {n : List (List UInt8)} {r : List UInt8} (h : lab l [] = some (b, r)) (h1 : b ≠ []) (h2 : 63 < b.length) : mach l [] n false = (7, [], false) := by
  rw [mach_lab l.length l [] n (Nat.le_refl _), h]
  simp only
  rw [if_neg h1, if_pos h2]
theorem mach_firstN {l : List UInt8} {n : List (List UInt8)} (h : lab l [] = none) : mach l [] n false = (5, [], false) := by
  rw [mach_lab l.length l [] n (Nat.le_refl _), h]
theorem ba_list (s : ByteArray) : s = ⟨s.data.toList.toArray⟩ := by simp
set_option maxRecDepth 100000 in
set_option maxHeartbeats 2000000 in
theorem parse_any (s : ByteArray) (w : World) (hs : s.size ≤ 3000) :
    Calls Tryd.prog 7 #[.string s] w fun e w' => ParseP s w.heap.size w e w' := by
  by_cases hdot : s.data.toList = [46]
  · have H := Lib.hid (parseP_dot (B := w.heap.size) (w := w) hdot)
    have e : s = ⟨#[46]⟩ := by rw [ba_list s, hdot]
    subst e
    clear hdot
    go_enter Tryd.func7, Tryd.ntmps7
    go_wp2_with fail
    go_ret3
    exact H.out
  · have e : (s.toList == [46]) = false := by
      rw [ByteArray.toList_eq, beq_eq_false_iff_ne]; exact hdot
    have HD := Lib.hid hdot
    clear hdot
    go_enter Tryd.func7, Tryd.ntmps7
    go_wp2_with fail
    go_loopw [5, 0] (fun v x wr => ∃ (s2 : ByteArray) (n : List (List UInt8)), x = .string s2 ∧ wr.ownsRow w.heap.size 9 1 v n.length (strVs n) ∧ Below w.heap.size w wr ∧ sizeL n + s2.size ≤ s.size + 1 ∧ Hid (mach s2.data.toList [] n false = mach s.data.toList [] [] false)) (fun _ x _ => match x with | .string t => t.size | _ => 0)
    case atStart => exact ⟨s, [], rfl, World.ownsRow_nil _ _ _ _, Below.refl _ _, by simp [sizeL]; omega, Lib.hid rfl⟩
    case round =>
      obtain ⟨s2, n, rfl, hown, HB, hsum, HM⟩ := hrel
      have hsz := HB.size
      have hnl := size_len n
      have hfi := first_any s2 wr (by omega)
      have HFI := Lib.hid hfi
      clear hfi
      go_wp2_with fail
      with_reducible refine HFI.out.mono ?_
      rintro e w1 ⟨hp, hb1⟩
      have HB1 := HB.trans (hb1.mono hsz)
      have hend : ∀ c, mach s2.data.toList [] n false = c → mach s.data.toList [] [] false = c := fun c h => by rw [← HM.out]; exact h
      rcases hp with ⟨hl, rfl⟩ | ⟨b, k, hl, hk, hbk, hp⟩
      · have HF := Lib.hid (parse_merr HD.out (by decide) (hend _ (mach_firstN hl)))
        clear hend hl HM
        go_wp2_with fail
        go_ret3
        exact parseP_err _ HF.out HB1
      · rcases hp with ⟨h0, rfl⟩ | ⟨h0, h63, rfl⟩ | ⟨h0, h63, rfl⟩
        · have HF := Lib.hid (parse_merr HD.out (by decide) (hend _ (mach_first0 hl h0)))
          clear hend hl HM
          go_wp2_with fail
          go_ret3
          exact parseP_err _ HF.out HB1
        · have HF := Lib.hid (parse_merr HD.out (by decide) (hend _ (mach_first9 hl h0 h63)))
          clear hend hl HM
          go_wp2_with fail
          go_ret3
          exact parseP_err _ HF.out HB1
        · have hsz1 := HB1.size
          have hown1 := ownsRow_below hown hb1
          have hss := size_snoc n b
          have hcd := fun w => cut_dot (s2.extract k s2.size) w (by
            rw [ext_drop]
            cases hr : s2.data.toList.drop k with
            | nil => exact .inl rfl
            | cons x r =>
              rw [hr] at hl
              have := lab_rest s2.data.toList.length _ _ (Nat.le_refl _) _ _ _ hl
              exact .inr ⟨r, by rw [show x = 46 from UInt8.toNat_inj.1 this]⟩)
          have HCD := Lib.hid hcd
          have HL := Lib.hid hl; have HE := Lib.hid hend; have H0 := Lib.hid h0; have HSS := Lib.hid hss
          have hb0 : 0 < b.length := List.length_pos_iff.2 h0
          have hxl : (s2.data.toList.drop k).length = s2.size - k := by simp
          have HXL := Lib.hid hxl
          clear hcd hl hend h0 hss hxl hown hb1 HM HFI
          go_wp2_with (at_builtin; refine wpList_app1 rfl (.tmp 22) (.tmp 24) 28 9 rfl Tryd.underlying28 elem9 rfl w.heap.size _ n.length _ _ rfl rfl hown1 rfl (by omega) (by omega) hsz1 ?_)
          intro v' w' hown' HB' hne
          have hown2 := own_app1 hown'
          obtain ⟨N, hN⟩ : ∃ N, N = n ++ [b] := ⟨_, rfl⟩
          rw [← hN] at hown2 HSS
          have HN := Lib.hid hN
          have hNl : n.length + 1 = N.length := by rw [hN]; simp
          clear hN
          have HB2 := HB1.trans HB'
          have hsz2 := HB2.size
          clear hown' HB' hsz1 hsz
          go_wp2_with fail
          with_reducible refine (HCD.out _).mono ?_
          rintro e w2 ⟨hp, rfl⟩
          rw [ext_drop] at hp
          rcases hp with ⟨ht, rfl⟩ | ⟨t, ht, rfl⟩
          · have hl := HL.out
            rw [ht] at hl
            have hm := HE.out _ (mach_first1 hl H0.out h63)
            rw [← HN.out] at hm
            have hch := mach_check hm
            have HM1 := Lib.hid hm; have HCH := Lib.hid hch
            obtain ⟨A, c, rfl, hta⟩ := TextsAt.of_own hown2
            have hck := check_any A _ c _ _ hta (by rw [HSS.out]; omega)
            rw [HCH.out] at hck
            clear hm hch hl ht hown2 HE HL HCD HXL
            by_cases hbig : 255 < sizeL N
            · rw [if_pos hbig] at hck
              have HF := Lib.hid (parse_big HD.out HM1.out hbig)
              have HCK := Lib.hid hck
              clear hck hbig
              go_wp2_with fail
              with_reducible refine HCK.out.mono ?_
              rintro e w3 ⟨rfl, rfl⟩
              go_wp2_with fail
              go_ret3
              exact parseP_err _ HF.out HB2
            · rw [if_neg hbig] at hck
              have HF := Lib.hid (parse_small HD.out HM1.out hbig)
              have HCK := Lib.hid hck
              clear hck hbig
              go_wp2_with fail
              with_reducible refine HCK.out.mono ?_
              rintro e w3 ⟨rfl, rfl⟩
              go_wp2_with fail
              go_ret3
              exact parseP_ok HF.out hta HB2
          · have hl := HL.out
            rw [ht] at hl
            by_cases ht0 : t.data.toList = []
            · have e : t = ⟨#[]⟩ := by rw [ba_list t, ht0]
              have hm := HE.out _ ((mach_first2 hl H0.out h63).trans (by rw [ht0, mach_end, if_pos rfl]))
              rw [← HN.out] at hm
              have hch := mach_check hm
              subst e
              clear ht0
              have HM1 := Lib.hid hm; have HCH := Lib.hid hch
              obtain ⟨A, c, rfl, hta⟩ := TextsAt.of_own hown2
              have hck := check_any A _ c _ _ hta (by rw [HSS.out]; omega)
              rw [HCH.out] at hck
              clear hm hch hl ht hown2 HE HL HCD HXL
              by_cases hbig : 255 < sizeL N
              · rw [if_pos hbig] at hck
                have HF := Lib.hid (parse_big HD.out HM1.out hbig)
                have HCK := Lib.hid hck
                clear hck hbig
                go_wp2_with fail
                with_reducible refine HCK.out.mono ?_
                rintro e w3 ⟨rfl, rfl⟩
                go_wp2_with fail
                go_ret3
                exact parseP_err _ HF.out HB2
              · rw [if_neg hbig] at hck
                have HF := Lib.hid (parse_small HD.out HM1.out hbig)
                have HCK := Lib.hid hck
                clear hck hbig
                go_wp2_with fail
                with_reducible refine HCK.out.mono ?_
                rintro e w3 ⟨rfl, rfl⟩
                go_wp2_with fail
                go_ret3
                exact parseP_ok HF.out hta HB2
            · have e : t.toList.isEmpty = false := by rw [ByteArray.toList_eq]; simpa using ht0
              have hm : mach t.data.toList [] N false = mach s.data.toList [] [] false := by
                obtain ⟨x, r, hx⟩ : ∃ x r, t.data.toList = x :: r := List.exists_cons_of_ne_nil ht0
                have h1 := HE.out _ (mach_first2 hl H0.out h63)
                rw [HN.out, h1, hx, mach_any x r [] _ true]
              have hlen := HXL.out
              rw [ht] at hlen
              simp only [List.length_cons, Array.length_toList, ByteArray.size_data] at hlen
              have HM1 := Lib.hid hm
              clear hm ht hl ht0 HE HL HCD HXL
              go_wp2_with fail
              go_roundw
              case rel => exact ⟨t, N, rfl, hown2, HB2, by rw [HSS.out]; omega, HM1⟩
              case measure => show t.size < s2.size; omega
end Go.Proofs.YtbcnnjifndmdpaaDoor
