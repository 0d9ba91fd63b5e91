/- Texts behind a law of this seat, in order: Idna, Idna2, Idna3, Idna4, Law06. -/
import Derived.Test.YtbcnnjifndmdpaaDoorPa
import Derived.Test.YtbcnnjifndmdpaaDoorPb
import Derived.Test.YtbcnnjifndmdpaaDoorPc
import Derived.Test.YtbcnnjifndmdpaaDoorPd
import Derived.Test.YtbcnnjifndmdpaaDoorPe
import Derived.Test.YtbcnnjifndmdpaaDoorPf
import Derived.Test.YtbcnnjifndmdpaaDoorPg
import Derived.Test.YtbcnnjifndmdpaaDoorPh
import Derived.Test.YtbcnnjifndmdpaaDoorPi
import Derived.Test.YtbcnnjifndmdpaaDoorPj
import Derived.Test.YtbcnnjifndmdpaaDoorPk
import Derived.Test.YtbcnnjifndmdpaaDoorPl
import Derived.Test.YtbcnnjifndmdpaaDoorPm
import Derived.Test.YtbcnnjifndmdpaaDoorPn
import Derived.Test.YtbcnnjifndmdpaaDoorPo
import Derived.Test.YtbcnnjifndmdpaaDoorPp
import Derived.Test.YtbcnnjifndmdpaaDoorPq
import Derived.Test.YtbcnnjifndmdpaaDoorPr
import Derived.Test.YtbcnnjifndmdpaaDoorPs
import Derived.Test.YtbcnnjifndmdpaaDoorPt
import Derived.Test.YtbcnnjifndmdpaaDoorPu
import Derived.Test.YtbcnnjifndmdpaaDoorPv
import Derived.Test.YtbcnnjifndmdpaaDoorPw
import Derived.Test.YtbcnnjifndmdpaaDoorPx
import Derived.Test.YtbcnnjifndmdpaaDoorPy
import Derived.Below
import Derived.BigQuiet
import Derived.BigRegion
import Derived.ChangeSlices
import Derived.Deep.AppendLies
import Derived.Deep.Draws
import Derived.Deep.QuietTactic
import Derived.Deep.RegionHeld3
import Derived.Deep.RegionLaw
import Derived.Deep.RegionWith
import Derived.Handed
import Derived.Handy
import Derived.IntWalk
import Derived.Laws.CopyOwn
import Derived.Laws.Externs
import Derived.Laws.OwnMore
import Derived.Laws.Rows
import Derived.Lib.AppendZeros
import Derived.Lib.AppendZerosOnto
import Derived.Lib.Bytealg
import Derived.Lib.DecodeN
import Derived.Lib.Hide
import Derived.Lib.Join
import Derived.Lib.MapLaws
import Derived.Lib.Overlaps
import Derived.Lib.RuneBytes
import Derived.Lib.Split
import Derived.Lib.SplitLaws
import Derived.Lib.Strings
import Derived.Maps.AppendAt
import Derived.Shelf.LaysM
import Derived.Shelf.Small.Strs
import Derived.Shelf.Small.Utf8
import Derived.Shelf.Small.Wraps
import Derived.Shelf.Strings.Builder1
import Derived.Shelf.Strings.Builder2
import Derived.Shelf.Strings.Builder2Cap
import Derived.Shelf.Strings.BuilderCap
import Derived.Shelf.Strings.BuilderF
import Derived.Shelf.Strings.BuilderK
import Derived.Shelf.Strings.BuilderRune
import Derived.Shelf.Strings.Count
import Derived.Shelf.Strings.MapAny
import Derived.Shelf.Strings.OnBuilder
import Derived.Shelf.Strings.Prefix
import Derived.Shelf.Strings.Search1
import Derived.Shelf.Strings.Search2
import Derived.Shelf.Strings.Search3
import Derived.Shelf.Strings.Shaped
import Derived.Shelf.Strings.Split
import Derived.Shelf.Strings.SplitShaped
import Derived.Shelf.Unicode.Decode
import Derived.Shelf.Unicode.DecodeAny
import Derived.Shelf.Unicode.DecodeSlow
import Derived.Shelf.Utf8.AppendRunePlain
import Derived.SizedLaws
import Derived.SliceStrings
import Derived.StillTailTactics
import Derived.Test.YtbcnnjifndmdpaaDoorProg
import Derived.WalkKit
import Derived.WalkLawsBesides
import Derived.WalkSmall
import Derived.WalkSpells
namespace Go.Proofs.YtbcnnjifndmdpaaDoor
open Go.RowKit Go
set_option linter.unusedVariables false
theorem nuFn_any (c : Int) (w : World) (h0 : 0 ≤ c) (h1 : c ≤ 1114111) :
    Calls Tryd.prog 12 #[.int .i32 c] w fun e w' => e = .returned (.int .i32 (nuD c)) ∧ w' = w := by
  by_cases ha : c = 12290
  · subst ha
    go_enter Tryd.func12, Tryd.ntmps12
    go_wp2
    go_ret
    exact ⟨rfl, rfl⟩
  by_cases hb : c = 65294
  · subst hb
    go_enter Tryd.func12, Tryd.ntmps12
    go_wp2
    go_ret
    exact ⟨rfl, rfl⟩
  by_cases hc : c = 65377
  · subst hc
    go_enter Tryd.func12, Tryd.ntmps12
    go_wp2
    go_ret
    exact ⟨rfl, rfl⟩
  have e : nuD c = c := by unfold nuD; rw [if_neg (by omega)]
  rw [e]
  have ta : (c == 12290) = false := by simpa using ha
  have tb : (c == 65294) = false := by simpa using hb
  have tc : (c == 65377) = false := by simpa using hc
  clear e
  go_enter Tryd.func12, Tryd.ntmps12
  go_wp2
  go_ret
  exact ⟨rfl, rfl⟩
theorem nuMap_any (s : ByteArray) (w : World) (hT : U8 w) (hs : s.size ≤ 4000) :
    Calls Tryd.prog 11 #[.func (.func 12) #[] #[], .string s] w fun e w' => e = .returned (.string ⟨(Lib.mapD nuD s.data.toList).toArray⟩) ∧ Below w.heap.size w w' := by
  refine Tryd.strings_Map_runes 12 #[] (enters_of Tryd.func12 (by kernel_rfl) rfl) nuD s w (by omega) (fun W x hx _ => ?_) (fun x hx => ⟨nuD_pos (by omega), nuD_le (by omega)⟩) hT
  have := nuFn_any (x : Int) W (by omega) (by omega)
  exact this.mono fun e w' ⟨h1, h2⟩ => ⟨h1, 0, h2⟩
theorem dotIndex_any (x : ByteArray) (w : World) : Calls Tryd.prog 51 #[.string x, .string ⟨#[46]⟩] w fun e w' => e = .returned (.int .i64 (Lib.indexB x ⟨#[46]⟩)) ∧ w' = w := by
  refine (Tryd.strings_Index_one x 46 w).mono ?_
  rintro e w' ⟨rfl, rfl⟩
  refine ⟨?_, rfl⟩
  rw [← Lib.index_one]
theorem dotCount_any (x : ByteArray) (w : World) : Calls Tryd.prog 50 #[.string x, .string ⟨#[46]⟩] w fun e w' => e = .returned (.int .i64 (Lib.countB x ⟨#[46]⟩)) ∧ w' = w := by
  refine (Tryd.strings_Count_one x 46 w).mono ?_
  rintro e w' ⟨rfl, rfl⟩
  refine ⟨?_, rfl⟩
  unfold Lib.countByte
  rw [← Lib.count_one]
def splB (s : ByteArray) : List ByteArray := Lib.splitB ⟨#[46]⟩ 0 (Lib.countB s ⟨#[46]⟩) s
theorem splB_data (s : ByteArray) : (splB s).map (·.data.toList) = spl s.data.toList := by
  unfold splB
  rw [Lib.splitB_data]
  exact split_spl _ _ (Nat.le_refl _)
theorem splB_len (s : ByteArray) : (splB s).length = Lib.countB s ⟨#[46]⟩ + 1 := Lib.splitB_all ⟨#[46]⟩ (by decide) 0 _ s rfl
theorem splB_vals (s : ByteArray) : (splB s).map Value.string = strVs (spl s.data.toList) := by
  rw [← splB_data]
  unfold strVs
  rw [List.map_map]
  apply List.map_congr_left
  intro x _
  show Value.string x = strV x.data.toList
  unfold strV
  simp
theorem hi9 : (Tryd.prog.info? 9).map (fun i => (i.zero, i.size, i.bytes)) = some (some (.string ByteArray.empty), 1, 16) := by kernel_rfl
theorem genSplit_any (s : ByteArray) (w : World) (hs : s.size ≤ 4000) :
    Calls Tryd.prog 34 #[.string s, .string ⟨#[46]⟩, .int .i64 0, .int .i64 (-1)] w fun e w' =>
      e = .returned (.slice (some ⟨w.heap.size, 0, none⟩) (spl s.data.toList).length (spl s.data.toList).length) ∧ w' = w.alloc (.cells (strVs (spl s.data.toList)).toArray 9) := by
  have hle := Lib.countB_le ⟨#[46]⟩ (by decide) s.size s (Nat.le_refl _)
  have c := Any.strings_genSplit_core { Tryd.lays146 with } hi9 s ⟨#[46]⟩ 0 (-1) (Lib.countB s ⟨#[46]⟩ + 1) w (by omega) (by decide) (Nat.zero_le _)
    (fun x c _ => dotIndex_any x _) (dotCount_any s w) (by decide) (by decide) (by rw [if_pos (by decide)]; omega)
  rw [Nat.add_sub_cancel] at c
  have e1 : Lib.cellsOf (Lib.splitB ⟨#[46]⟩ 0 (Lib.countB s ⟨#[46]⟩) s) (Lib.countB s ⟨#[46]⟩ + 1) = (strVs (spl s.data.toList)).toArray := by
    rw [← splB_vals, ← splB_len]
    exact Lib.cellsOf_full (splB s)
  have e2 : (spl s.data.toList).length = Lib.countB s ⟨#[46]⟩ + 1 := by rw [← splB_data, List.length_map, splB_len]
  have e3 : (Lib.splitB ⟨#[46]⟩ 0 (Lib.countB s ⟨#[46]⟩) s).length = Lib.countB s ⟨#[46]⟩ + 1 := splB_len s
  rw [e1, e3, ← e2] at c
  exact c
set_option maxHeartbeats 1000000 in
theorem split_any (s : ByteArray) (w : World) (hs : s.size ≤ 4000) :
    Calls Tryd.prog 14 #[.string s, .string ⟨#[46]⟩] w fun e w' =>
      e = .returned (.slice (some ⟨w.heap.size, 0, none⟩) (spl s.data.toList).length (spl s.data.toList).length) ∧ w' = w.alloc (.cells (strVs (spl s.data.toList)).toArray 9) := by
  have H := Lib.hid (genSplit_any s w hs)
  go_enter Tryd.func14, Tryd.ntmps14
  go_wp2_with fail
  with_reducible refine H.out.mono ?_
  rintro e w' ⟨rfl, rfl⟩
  go_wp2_with fail
  go_ret
  exact ⟨rfl, rfl⟩
theorem suffix_end (l : List UInt8) : Lib.hasSuffix l [46] = endB l ∧ Lib.trimSuffix l [46] = cutE l := by
  have h : Lib.hasSuffix l [46] = endB l := by
    unfold Lib.hasSuffix endB
    rcases List.eq_nil_or_concat l with rfl | ⟨a, c, rfl⟩ <;> try rw [List.concat_eq_append]
    · rfl
    · by_cases hc : c = 46
      · subst hc
        simp
      · rw [show decide ((a ++ [c]).getLast? = some 46) = false by simp [hc]]
        rw [Bool.eq_false_iff]
        intro hs
        obtain ⟨a', ha⟩ := List.isSuffixOf_iff_suffix.1 hs
        have := congrArg List.getLast? ha
        simp at this
        exact hc this.symm
  refine ⟨h, ?_⟩
  unfold Lib.trimSuffix cutE
  rw [h, List.dropLast_eq_take]
  rfl
theorem cutDot_any (s : ByteArray) (w : World) (hs : s.size ≤ 4000) :
    Calls Tryd.prog 10 #[.string s, .string ⟨#[46]⟩] w fun e w' => e = .returned (.tuple #[.string ⟨(cutE s.data.toList).toArray⟩, .bool (endB s.data.toList)]) ∧ w' = w := by
  have := Tryd.strings_CutSuffix s ⟨#[46]⟩ w (by omega)
  have e := suffix_end s.data.toList
  rw [show (⟨#[46]⟩ : ByteArray).data.toList = [46] from rfl, e.1, e.2] at this
  exact this
theorem texts_own {w : World} {base e n : Nat} {v : Value} {l : List (List UInt8)} (h : w.ownsRow base e 1 v n (strVs l)) : ∃ A c, v = .slice A n c ∧ TextsAt w A n l ∧ n ≤ c := by
  have h' := h
  obtain ⟨A, c, rfl, ht⟩ := TextsAt.of_own h
  refine ⟨A, c, rfl, ht, ?_⟩
  rcases h'.2 with ⟨h1, h0⟩ | ⟨g, cap, cur, h1, _, _, h2, _⟩
  · injection h1; omega
  · injection h1; omega
end Go.Proofs.YtbcnnjifndmdpaaDoor
namespace Go.Proofs.YtbcnnjifndmdpaaDoor
open Go.RowKit Go
set_option linter.unusedVariables false
def NameP (ls : List (List UInt8)) (B : Nat) (w : World) (e : Ending) (w' : World) : Prop :=
  ∃ A c, e = .returned (.tuple #[.slice A (nameE ls).1.length c, .int .i64 (nameE ls).2]) ∧ TextsAt w' A (nameE ls).1.length (nameE ls).1 ∧ (nameE ls).1.length ≤ c ∧ Below B w w'
theorem nameP_err {ls : List (List UInt8)} {B : Nat} {w w' : World} (x : Int) (h : nameE ls = ([], x)) (hb : Below B w w') : NameP ls B w (.returned (.tuple #[.slice none 0 0, .int .i64 x])) w' := by
  refine ⟨none, 0, ?_, ?_, ?_, hb⟩
  · rw [h]; rfl
  · rw [h]; exact ⟨rfl, fun h => absurd h (by simp)⟩
  · rw [h]; exact Nat.le_refl _
theorem nameP_ok {ls n : List (List UInt8)} {B : Nat} {w w' : World} {A : Option Addr} {k c : Nat} (h : nameE ls = (n, 0)) (hk : k = n.length) (ht : TextsAt w' A k n) (hc : k ≤ c) (hb : Below B w w') : NameP ls B w (.returned (.tuple #[.slice A k c, .int .i64 0])) w' := by
  subst hk
  refine ⟨A, c, ?_, ?_, ?_, hb⟩
  · rw [h]
  · rw [h]; exact ht
  · rw [h]; exact hc
theorem firstE_at (ls : List (List UInt8)) (k : Nat) (h : k < ls.length) : firstE (ls.drop k) = if labE ls[k] = 0 then firstE (ls.drop (k + 1)) else labE ls[k] := by
  rw [List.drop_eq_getElem_cons h, firstE]
theorem firstE_end (ls : List (List UInt8)) (k : Nat) (h : ls.length ≤ k) : firstE (ls.drop k) = 0 := by
  rw [List.drop_of_length_le h]; rfl
theorem ascs_snoc (ls : List (List UInt8)) (k : Nat) (h : k < ls.length) : ascs (ls.take (k + 1)) = ascs (ls.take k) ++ [(asciiE ls[k]).1] := by
  unfold ascs
  rw [List.take_succ_eq_append_getElem h, List.map_append]; rfl
theorem ascs_size (ls : List (List UInt8)) : sizeL (ascs ls) ≤ 1 + 64 * ls.length := by
  induction ls with
  | nil => simp [ascs, sizeL]
  | cons x r ih =>
    have := ascii_len (s := x)
    unfold ascs sizeL at ih ⊢
    simp only [List.map_cons, List.sum_cons, List.length_cons] at ih ⊢
    omega
theorem nameE_err {ls : List (List UInt8)} {x : Int} (h : firstE ls = x) (hx : x ≠ 0) : nameE ls = ([], x) := by
  unfold nameE; rw [if_pos (by rw [h]; exact hx), h]
theorem nameE_long {ls : List (List UInt8)} (h : firstE ls = 0) (hs : 255 < sizeL (ascs ls)) : nameE ls = ([], 3) := by
  unfold nameE; rw [if_neg (by rw [h]; simp), if_pos hs]
theorem nameE_ok {ls : List (List UInt8)} (h : firstE ls = 0) (hs : ¬ 255 < sizeL (ascs ls)) : nameE ls = (ascs ls, 0) := by
  unfold nameE; rw [if_neg (by rw [h]; simp), if_neg hs]
theorem labE_nil : labE [] = 8 := rfl
theorem labE_some {l : List UInt8} (h : l ≠ []) : labE l = (asciiE l).2 := by unfold labE; rw [if_neg h]
set_option maxRecDepth 100000 in
set_option maxHeartbeats 2000000 in
theorem name_any (A : Option Addr) (n c : Nat) (ls : List (List UInt8)) (w : World) (hT : U8 w) (hl : TextsAt w A n ls) (hn : n ≤ 4000) (hz : ∀ x ∈ ls, x.length ≤ 4000) :
    Calls Tryd.prog 13 #[.slice A n c] w fun e w' => NameP ls w.heap.size w e w' := by
  obtain rfl := hl.1
  go_enter Tryd.func13, Tryd.ntmps13
  go_wp2_with fail
  go_loopw [4, 11] (fun v i wr => ∃ (k : Nat) (N : List (List UInt8)), k ≤ ls.length ∧ i = .int .i64 k ∧ Hid (k = N.length) ∧ Hid (N = ascs (ls.take k)) ∧ wr.ownsRow w.heap.size 9 1 v k (strVs N) ∧ Below w.heap.size w wr ∧ Hid (firstE (ls.drop k) = firstE ls)) (fun _ i _ => ls.length - (intOf i).toNat)
  case atStart => exact ⟨0, [], Nat.zero_le _, rfl, Lib.hid rfl, Lib.hid rfl, World.ownsRow_nil _ _ _ _, Below.refl _ _, Lib.hid rfl⟩
  case round =>
    obtain ⟨k, N, hk, rfl, hkN, HN, hown, HB, HF⟩ := hrel
    have hsz := HB.size
    by_cases hkl : k < ls.length
    · obtain ⟨b, o, rfl, hbh, hcell⟩ := hl.2 (by omega)
      have h1 := hcell k hkl
      rw [← HB.cell (p := ⟨b, o + k, none⟩) hbh] at h1
      have hm := hz _ (List.getElem_mem hkl)
      have hfa := firstE_at ls k hkl
      have hsn := ascs_snoc ls k hkl
      rw [HF.out] at hfa
      rw [← HN.out] at hsn
      obtain ⟨x, hx⟩ : ∃ x, x = ls[k] := ⟨_, rfl⟩
      rw [← hx] at h1 hm hfa hsn
      unfold strV at h1
      obtain ⟨s, hs1, rfl, hs2⟩ := ba_of x
      rw [hs1] at h1
      rw [hs2] at hm
      by_cases he : s.data.toList = []
      · have hs : s = ⟨#[]⟩ := by rw [ba_list s, he]
        rw [he, labE_nil, if_neg (by decide)] at hfa
        have HE := Lib.hid (nameE_err hfa (by decide))
        subst hs
        clear hcell hx hs1 hs2 hfa hsn he
        go_wp2_with fail
        go_ret2
        exact nameP_err _ HE.out HB
      · have hne : (s.toList.isEmpty) = false := by rw [ByteArray.toList_eq]; cases hq : s.data.toList with
          | nil => exact absurd hq he
          | cons _ _ => rfl
        have hasc := fun w hT => toAscii_any s w hT hm
        obtain ⟨a, ha⟩ : ∃ a : ByteArray, a = ⟨(asciiE s.data.toList).1.toArray⟩ := ⟨_, rfl⟩
        obtain ⟨e, hee⟩ : ∃ e, e = (asciiE s.data.toList).2 := ⟨_, rfl⟩
        rw [← ha, ← hee] at hasc
        rw [labE_some he, ← hee] at hfa
        rw [show (asciiE s.data.toList).1 = a.data.toList by rw [ha]] at hsn
        have HASC := Lib.hid (hasc wr (hT.below HB))
        have HSN := Lib.hid hsn
        have HFA := Lib.hid hfa
        clear hcell hx hs1 hs2 hasc hfa hsn he ha hee
        go_wp2_with fail
        with_reducible refine HASC.out.mono ?_
        rintro e1 w1 ⟨rfl, hb1⟩
        have HB1 := HB.trans (hb1.mono hsz)
        by_cases he0 : e = 0
        · subst he0
          have hgo := HFA.out
          rw [if_pos rfl] at hgo
          have HG := Lib.hid hgo.symm
          have hown1 := ownsRow_below hown hb1
          have hsz1 := HB1.size
          clear hgo HFA HASC hown hb1
          go_wp2_with (at_builtin; refine wpList_app1 rfl (.tmp 25) (.tmp 27) 28 9 rfl Tryd.underlying28 elem9 rfl w.heap.size _ k _ _ rfl rfl hown1 rfl (by omega) (by omega) hsz1 ?_)
          intro v' w' hown' HB' hne'
          rw [hkN.out] at hown'
          have hown2 := own_app1 hown'
          have HB2 := HB1.trans HB'
          obtain ⟨M, hM⟩ : ∃ M, M = N ++ [a.data.toList] := ⟨_, rfl⟩
          rw [← hM] at hown2
          have HM := Lib.hid (HSN.out.trans hM.symm).symm
          have HK : Hid (k + 1 = M.length) := Lib.hid (by rw [hM, List.length_append, hkN.out]; rfl)
          rw [← HK.out] at hown2
          clear hown' HB' HB1 HB hM hown1 HSN
          go_wp2_with fail
          go_roundw
          case rel => exact ⟨k + 1, M, by omega, by go_num, HK, HM, hown2, HB2, HG⟩
          case measure => simp [intOf]; omega
        · have hgo := HFA.out
          rw [if_neg he0] at hgo
          have HE := Lib.hid (nameE_err hgo he0)
          have he1 : (e == 0) = false := by simpa using he0
          clear hgo HFA HASC
          go_wp2_with fail
          go_ret2
          exact nameP_err _ HE.out HB1
    · obtain rfl : k = ls.length := by omega
      have hfe := firstE_end ls ls.length (Nat.le_refl _)
      rw [HF.out] at hfe
      have hNe := HN.out
      rw [List.take_length] at hNe
      have hsa := ascs_size ls
      rw [← hNe] at hsa
      obtain ⟨A', c', rfl, hta, hcc⟩ := texts_own hown
      have hsize := size_any A' ls.length c' N wr hta (by omega)
      have HSZ := Lib.hid hsize
      by_cases hbig : 255 < sizeL N
      · have HE := Lib.hid (nameE_long hfe (by rw [← hNe]; exact hbig))
        clear hsize hfe hNe HF HN hkN hown
        go_wp2_with fail
        with_reducible refine HSZ.out.mono ?_
        rintro e w3 ⟨rfl, rfl⟩
        go_wp2_with fail
        go_ret2
        exact nameP_err _ HE.out HB
      · have HE := Lib.hid (nameE_ok hfe (by rw [← hNe]; exact hbig))
        have HN2 := Lib.hid hNe
        clear hsize hfe hNe HF HN hown
        go_wp2_with fail
        with_reducible refine HSZ.out.mono ?_
        rintro e w3 ⟨rfl, rfl⟩
        go_wp2_with fail
        go_ret2
        have hE := HE.out
        rw [← HN2.out] at hE
        exact nameP_ok hE hkN.out hta hcc HB
end Go.Proofs.YtbcnnjifndmdpaaDoor
namespace Go.Proofs.YtbcnnjifndmdpaaDoor
open Go.RowKit Go
set_option linter.unusedVariables false
theorem nuD_enc (c : Int) : (Lib.encodeRune (nuD c)).length ≤ (Lib.encodeRune c).length := by
  unfold nuD
  split
  · have := (enc_len_bd c).1
    rw [show (Lib.encodeRune 46).length = 1 from by decide +kernel]
    exact this
  · exact Nat.le_refl _
theorem nuD_len {l : List UInt8} {ks : List Int} (h : runesL l = some ks) : (Lib.mapD nuD l).length ≤ l.length := by
  have h2 := (textL_some (runes_text l.length l ks (Nat.le_refl _) h)).2
  rw [mapD_runes nuD (fun x hx => nuD_pos hx) h]
  conv => rhs; rw [h2]
  clear h h2
  induction ks with
  | nil => simp
  | cons c r ih =>
    have := nuD_enc c
    simp only [List.map_cons, List.flatMap_cons, List.length_append]
    omega
theorem cutE_len (l : List UInt8) : (cutE l).length ≤ l.length := by
  unfold cutE; split
  · rw [List.length_dropLast]; omega
  · exact Nat.le_refl _
theorem texts_new (w : World) (l : List (List UInt8)) (t : TypeId) : TextsAt (w.alloc (.cells (strVs l).toArray t)) (some ⟨w.heap.size, 0, none⟩) l.length l := by
  refine ⟨rfl, fun _ => ⟨w.heap.size, 0, rfl, by simp, fun j hj => ?_⟩⟩
  rw [Nat.zero_add, (At.new w t (strVs l).toArray).cell, List.getElem?_toArray]
  unfold strVs
  rw [List.getElem?_map, List.getElem?_eq_getElem hj]
  rfl
theorem hostE_err {s : List UInt8} {ks : List Int} {t : List UInt8} {x : Int} (h : runesL s = some ks) (ht : t = Lib.mapD nuD s) (hn : (nameE (spl (cutE t))).2 = x) (hx : x ≠ 0) : hostE s = ([], x) := by
  rw [hostE_some h, ← ht]
  unfold hostT
  rw [if_pos (by rw [hn]; exact hx), hn]
theorem hostE_ok {s : List UInt8} {ks : List Int} {t : List UInt8} (h : runesL s = some ks) (ht : t = Lib.mapD nuD s) (hn : (nameE (spl (cutE t))).2 = 0) : hostE s = (joi (nameE (spl (cutE t))).1 ++ dotE t, 0) := by
  rw [hostE_some h, ← ht]
  unfold hostT
  rw [if_neg (by rw [hn]; simp)]
theorem ret_host {s p : List UInt8} {x : Int} (h : hostE s = (p, x)) : Ending.returned (.tuple #[.string ⟨p.toArray⟩, .int .i64 x]) = .returned (.tuple #[.string ⟨(hostE s).1.toArray⟩, .int .i64 (hostE s).2]) := by rw [h]
theorem ret_host1 {s p : List UInt8} {a : ByteArray} {x : Int} (h : hostE s = (p, x)) (ha : a = ⟨p.toArray⟩) : Ending.returned (.tuple #[.string a, .int .i64 x]) = .returned (.tuple #[.string ⟨(hostE s).1.toArray⟩, .int .i64 (hostE s).2]) := by rw [h, ha]
theorem joi_le (l : List (List UInt8)) : (joi l).length ≤ sizeL l := by
  by_cases h : l = []
  · subst h; simp [joi, sizeL, Lib.join]
  · have := joi_len l h; omega
theorem nameE_size (ls : List (List UInt8)) : sizeL (nameE ls).1 ≤ 255 ∧ (nameE ls).1.length ≤ 255 := by
  have key : sizeL (nameE ls).1 ≤ 255 := by
    unfold nameE
    split
    · simp [sizeL]
    · split
      · simp [sizeL]
      · simp only; omega
  refine ⟨key, ?_⟩
  have := size_len (nameE ls).1
  omega
set_option maxRecDepth 100000 in
set_option maxHeartbeats 2000000 in
theorem hostI_any (s : ByteArray) (w : World) (hT : U8 w) (hs : s.size ≤ 1100) :
    Calls Tryd.prog 5 #[.string s] w fun e w' => e = .returned (.tuple #[.string ⟨(hostE s.data.toList).1.toArray⟩, .int .i64 (hostE s.data.toList).2]) ∧ Below w.heap.size w w' := by
  have hsl : s.data.toList.length = s.size := by simp
  cases hr : runesL s.data.toList with
  | none =>
    have HRU := Lib.hid (runesNo_any s w hT (by omega) hr)
    have HE := Lib.hid (hostE_none hr)
    clear hr
    go_enter Tryd.func5, Tryd.ntmps5
    go_wp2_with fail
    with_reducible refine HRU.out.mono ?_
    rintro e w1 ⟨rfl, hb1⟩
    go_wp2_with fail
    go_ret2
    exact ⟨ret_host HE.out, hb1⟩
  | some ks =>
    obtain ⟨n, hn⟩ : ∃ n, n = ks.length := ⟨_, rfl⟩
    have HRU := Lib.hid (runesYes_any s ks n w hT (by omega) hr hn)
    have hml := nuD_len hr
    have hmap := fun w hT => nuMap_any s w hT (by omega)
    obtain ⟨t, ht⟩ : ∃ t : ByteArray, t = ⟨(Lib.mapD nuD s.data.toList).toArray⟩ := ⟨_, rfl⟩
    have htl : t.data.toList = Lib.mapD nuD s.data.toList := by rw [ht]
    have htz : t.size ≤ 1100 := by
      have : t.data.toList.length = t.size := by simp
      rw [htl] at this; omega
    rw [← ht] at hmap
    have hcut := fun w => cutDot_any t w (by omega)
    have hcl := cutE_len t.data.toList
    obtain ⟨u, hu⟩ : ∃ u : ByteArray, u = ⟨(cutE t.data.toList).toArray⟩ := ⟨_, rfl⟩
    have hul : u.data.toList = cutE t.data.toList := by rw [hu]
    have huz : u.size ≤ 1100 := by
      have h1 : u.data.toList.length = u.size := by simp
      have h2 : t.data.toList.length = t.size := by simp
      rw [hul] at h1; omega
    obtain ⟨d, hd⟩ : ∃ d, d = endB t.data.toList := ⟨_, rfl⟩
    rw [← hu, ← hd] at hcut
    have hsp := fun w => split_any u w (by omega)
    obtain ⟨ls, hls⟩ : ∃ ls, ls = spl u.data.toList := ⟨_, rfl⟩
    rw [← hls] at hsp
    have hlz : ∀ x ∈ ls, x.length ≤ 4000 := by
      intro x hx
      rw [hls] at hx
      have h1 := spl_mem hx
      have h2 : u.data.toList.length = u.size := by simp
      omega
    have hln : ls.length ≤ 4000 := by
      have h1 := spl_len u.data.toList
      have h2 : u.data.toList.length = u.size := by simp
      rw [← hls] at h1
      omega
    have hNE : (nameE (spl (cutE t.data.toList))) = nameE ls := by rw [hls, hul]
    have hbd := nameE_size ls
    obtain ⟨N, hN⟩ : ∃ N, N = (nameE ls).1 := ⟨_, rfl⟩
    obtain ⟨x, hx⟩ : ∃ x, x = (nameE ls).2 := ⟨_, rfl⟩
    have hname := fun (w : World) A c (hT : U8 w) (h : TextsAt w A ls.length ls) => name_any A ls.length c ls w hT h hln hlz
    unfold NameP at hname
    rw [← hN] at hbd
    rw [← hN, ← hx] at hname
    have hjl := joi_le N
    have hdot : dotE t.data.toList = if d then [46] else [] := by rw [hd]; rfl
    have HJ := Lib.hid hjl
    have hN255 := hbd.2
    have hS255 := hbd.1
    have HMAP := Lib.hid hmap
    have HCUT := Lib.hid hcut
    have HSP := Lib.hid hsp
    have HNA := Lib.hid hname
    have HDOT := Lib.hid hdot
    have HX : Hid ((nameE (spl (cutE t.data.toList))).2 = x) := Lib.hid (by rw [hNE, hx])
    have HNN : Hid ((nameE (spl (cutE t.data.toList))).1 = N) := Lib.hid (by rw [hNE, hN])
    have HR := Lib.hid hr
    have HTL := Lib.hid htl
    clear hr hn hml hmap ht htl hcut hcl hu hul hd hsp hls hlz hNE hbd hN hx hname hjl hdot hsl
    go_enter Tryd.func5, Tryd.ntmps5
    go_wp2_with fail
    with_reducible refine HRU.out.mono ?_
    rintro e w1 ⟨⟨A, c, rfl, hat⟩, hb1⟩
    go_wp2_with fail
    with_reducible refine (HMAP.out w1 (hT.below hb1)).mono ?_
    rintro e w2 ⟨rfl, hb2⟩
    have HB2 := hb1.trans (hb2.mono hb1.size)
    go_wp2_with fail
    with_reducible refine (HCUT.out w2).mono ?_
    rintro e w3 ⟨rfl, hw⟩
    subst w3
    go_wp2_with fail
    with_reducible refine (HSP.out _).mono ?_
    rintro e w4 ⟨rfl, rfl⟩
    have hts := texts_new w2 ls 9
    have HB3 := HB2.alloc HB2.size (.cells (strVs ls).toArray 9)
    generalize w2.alloc (.cells (strVs ls).toArray 9) = w5 at hts HB3 ⊢
    go_wp2_with fail
    with_reducible refine (HNA.out w5 _ _ (hT.below HB3) hts).mono ?_
    rintro e w6 ⟨A', c', rfl, hta, hcc, hb6⟩
    have HB6 := HB3.trans (hb6.mono HB3.size)
    by_cases hx0 : x = 0
    · have hje := hostE_ok HR.out HTL.out (HX.out.trans hx0)
      rw [HNN.out, HDOT.out] at hje
      have hjoin := join_any ⟨#[46]⟩ A' N.length c' N w6 hta (by omega) hcc (by
        show (joi N).length ≤ 100000000
        have := HJ.out; omega)
      rw [show joinL (⟨#[46]⟩ : ByteArray).data.toList N = joi N from rfl] at hjoin
      obtain ⟨j, hj⟩ : ∃ j : ByteArray, j = ⟨(joi N).toArray⟩ := ⟨_, rfl⟩
      have hjz : j.size ≤ 255 := by
        have h1 : j.size = (joi N).length := by rw [hj]; simp [ByteArray.size]
        have := HJ.out; omega
      rw [← hj] at hjoin
      have HJN := Lib.hid hjoin
      have HJJ := Lib.hid hj
      have HJE := Lib.hid hje
      subst hx0
      clear hjoin hj hje hta hcc HJ
      cases d with
      | true =>
        go_wp2_with fail
        with_reducible refine HJN.out.mono ?_
        rintro e w7 ⟨rfl, hb7⟩
        have HB7 := HB6.trans (hb7.mono HB6.size)
        go_wp2_with fail
        go_ret2
        refine ⟨ret_host1 HJE.out ?_, HB7⟩
        rw [HJJ.out]
        exact ba_app2 (joi N) [46]
      | false =>
        go_wp2_with fail
        with_reducible refine HJN.out.mono ?_
        rintro e w7 ⟨rfl, hb7⟩
        have HB7 := HB6.trans (hb7.mono HB6.size)
        go_wp2_with fail
        go_ret2
        refine ⟨ret_host1 HJE.out ?_, HB7⟩
        rw [HJJ.out]
        simp
    · have HE := Lib.hid (hostE_err HR.out HTL.out HX.out hx0)
      have hx1 : (x == 0) = false := by simpa using hx0
      clear hta hcc
      go_wp2_with fail
      go_ret2
      exact ⟨ret_host HE.out, HB6⟩
end Go.Proofs.YtbcnnjifndmdpaaDoor
namespace Go.Proofs.YtbcnnjifndmdpaaDoor
open Go.RowKit Go
set_option linter.unusedVariables false
def fillU (l : List (List UInt8)) (k : Nat) : Array Value := (strVs ((l.take k).map uniE) ++ strVs (l.drop k)).toArray
theorem fillU_start (l : List (List UInt8)) : (strVs l).toArray = fillU l 0 := by unfold fillU; simp [strVs]
theorem uniTake_len (l : List (List UInt8)) (k : Nat) (h : k ≤ l.length) : (strVs ((l.take k).map uniE)).length = k := by
  rw [strVs_len, List.length_map, List.length_take]; omega
theorem fillU_at {l : List (List UInt8)} {k : Nat} (h : k < l.length) : (fillU l k)[k]? = some (strV l[k]) := by
  unfold fillU
  rw [List.getElem?_toArray, List.getElem?_append_right (by rw [uniTake_len l k (by omega)]; omega), uniTake_len l k (by omega), Nat.sub_self, List.drop_eq_getElem_cons h]
  rfl
theorem fillU_put {l : List (List UInt8)} {k : Nat} (h : k < l.length) : (fillU l k).setIfInBounds k (strV (uniE l[k])) = fillU l (k + 1) := by
  unfold fillU
  rw [List.drop_eq_getElem_cons h, List.setIfInBounds_toArray]
  congr 1
  rw [List.set_append_right _ _ (by rw [uniTake_len l k (by omega)]; omega), uniTake_len l k (by omega), Nat.sub_self]
  rw [List.take_succ_eq_append_getElem h, List.map_append, List.map_cons, List.map_nil, strVs_app, List.append_assoc]
  rfl
theorem fillU_end {w : World} {g : Nat} {l : List (List UInt8)} (h : At w g 9 (fillU l l.length)) : TextsAt w (some ⟨g, 0, none⟩) l.length (l.map uniE) := by
  refine ⟨by simp, fun h0 => ⟨g, 0, rfl, h.lt, fun j hj => ?_⟩⟩
  rw [Nat.zero_add, h.cell]
  unfold fillU
  rw [List.take_of_length_le (Nat.le_refl _), List.drop_of_length_le (Nat.le_refl _)]
  unfold strVs
  rw [List.map_nil, List.append_nil, List.getElem?_toArray, List.getElem?_map, List.getElem?_eq_getElem hj]
  rfl
set_option maxRecDepth 100000 in
set_option maxHeartbeats 2000000 in
theorem uniI_any (s : ByteArray) (w : World) (hT : U8 w) (hs : s.size ≤ 1100) (hj : (uniN s.data.toList).length ≤ 100000000) :
    Calls Tryd.prog 6 #[.string s] w fun e w' => e = .returned (.string ⟨(uniN s.data.toList).toArray⟩) ∧ Below w.heap.size w w' := by
  have hsp := split_any s w (by omega)
  have hun : uniN s.data.toList = joi ((spl s.data.toList).map uniE) := rfl
  have hlz : ∀ x ∈ spl s.data.toList, x.length ≤ 4000 := by
    intro x hx
    have h1 := spl_mem hx
    have h2 : s.data.toList.length = s.size := by simp
    omega
  have hln : (spl s.data.toList).length ≤ 4000 := by
    have h1 := spl_len s.data.toList
    have h2 : s.data.toList.length = s.size := by simp
    omega
  obtain ⟨ls, hls⟩ : ∃ ls, ls = spl s.data.toList := ⟨_, rfl⟩
  obtain ⟨U, hU⟩ : ∃ U, U = uniN s.data.toList := ⟨_, rfl⟩
  rw [← hU] at hun hj ⊢
  rw [← hls] at hsp hun hlz hln
  have HSP := Lib.hid hsp
  have HUN := Lib.hid hun
  have HUL := Lib.hid hj
  clear hsp hun hls hU hj
  go_enter Tryd.func6, Tryd.ntmps6
  go_wp2_with fail
  with_reducible refine HSP.out.mono ?_
  rintro e w1 ⟨rfl, rfl⟩
  rw [fillU_start]
  have hat : At (w.alloc (.cells (fillU ls 0) 9)) w.heap.size 9 (fillU ls 0) := At.new w _ _
  have hbl : Below w.heap.size w (w.alloc (.cells (fillU ls 0) 9)) := (Below.refl _ w).alloc (Nat.le_refl _) _
  generalize w.alloc (.cells (fillU ls 0) 9) = w0 at hat hbl ⊢
  go_wp2_with fail
  go_loopw [9] (fun i wr => ∃ k : Nat, k ≤ ls.length ∧ i = .int .i64 k ∧ At wr w.heap.size 9 (fillU ls k) ∧ Below w.heap.size w wr) (fun i _ => ls.length - (intOf i).toNat)
  case atStart => exact ⟨0, Nat.zero_le _, rfl, hat, hbl⟩
  case round =>
    obtain ⟨k, hk, rfl, hAt, HB⟩ := hrel
    have hsz := HB.size
    by_cases hkl : k < ls.length
    · have hm := hlz _ (List.getElem_mem hkl)
      have hput := fillU_put hkl
      have h1 := hAt.cells k (fillU_at hkl)
      obtain ⟨x, hx⟩ : ∃ x, x = ls[k] := ⟨_, rfl⟩
      rw [← hx] at h1 hm hput
      unfold strV at h1
      obtain ⟨s, hs1, rfl, hs2⟩ := ba_of x
      rw [hs1] at h1
      rw [hs2] at hm
      have HP := Lib.hid hput
      have HTU := Lib.hid (toUni_any s wr (hT.below HB) hm)
      have hglt := hAt.lt
      clear hx hs1 hs2 hput
      go_wp2_with fail
      with_reducible refine HTU.out.mono ?_
      rintro e w1 ⟨rfl, hb1⟩
      have hAt1 := hAt.below hb1 hglt
      have HB1 := HB.trans (hb1.mono hsz)
      have hlt1 := hAt1.lt
      have hcl := hAt1.cells k (fillU_at hkl)
      have hfr := hAt1.ice k
      have hAt2 := hAt1.put k (strV (uniE s.data.toList))
      rw [HP.out] at hAt2
      unfold strV at hAt2
      have HB2 : Below w.heap.size w (w1.setCell ⟨w.heap.size, k, none⟩ (.string ⟨(uniE s.data.toList).toArray⟩)) := HB1.setCell (Nat.le_refl _) _
      clear HP HTU hAt hb1 h1
      go_wp2_with fail
      go_roundw
      case rel => exact ⟨k + 1, by omega, by go_num, hAt2, HB2⟩
      case measure => simp [intOf]; omega
    · obtain rfl : k = ls.length := by omega
      have hta := fillU_end hAt
      have hjoin := join_any ⟨#[46]⟩ _ ls.length ls.length (ls.map uniE) wr hta (by omega) (Nat.le_refl _) (by
        show (joi (ls.map uniE)).length ≤ 100000000
        rw [← HUN.out]; exact HUL.out)
      rw [show joinL (⟨#[46]⟩ : ByteArray).data.toList (ls.map uniE) = joi (ls.map uniE) from rfl, ← HUN.out] at hjoin
      have HJN := Lib.hid hjoin
      clear hjoin hta hAt
      go_wp2_with fail
      with_reducible refine HJN.out.mono ?_
      rintro e w7 ⟨rfl, hb7⟩
      have HB7 := HB.trans (hb7.mono hsz)
      go_wp2_with fail
      go_ret
      exact ⟨rfl, HB7⟩
end Go.Proofs.YtbcnnjifndmdpaaDoor
namespace Go.Proofs.YtbcnnjifndmdpaaDoor
open Go.RowKit Go
set_option linter.unusedVariables false
theorem far6_ex : farB [66, 195, 188, 99, 104, 101, 114] = true := by decide +kernel
theorem asc6_ex : asciiE [66, 195, 188, 99, 104, 101, 114] = ([120, 110, 45, 45, 98, 99, 104, 101, 114, 45, 107, 118, 97], 0) := by
  have hm : ([66, 195, 188, 99, 104, 101, 114] : List UInt8).map lowB = [98, 195, 188, 99, 104, 101, 114] := by decide +kernel
  have ht : textL [98, 252, 99, 104, 101, 114] = some [98, 195, 188, 99, 104, 101, 114] := by decide +kernel
  have hr : runesL (([66, 195, 188, 99, 104, 101, 114] : List UInt8).map lowB) = some [98, 252, 99, 104, 101, 114] := by rw [hm]; exact text_runes _ _ ht
  have hf : fitB [98, 252, 99, 104, 101, 114] = true := by decide +kernel
  rw [asciiE_ok far6_ex hr hf (by rw [enc_ex]) (by rw [enc_ex]; decide), enc_ex]
  rfl
theorem asc6_de : asciiE [68, 101] = ([100, 101], 0) := by
  rw [asciiE_host (by decide +kernel) (by decide +kernel)]
  decide +kernel
theorem runes6_ex : runesL [66, 195, 188, 99, 104, 101, 114, 227, 128, 130, 68, 101] = some [66, 252, 99, 104, 101, 114, 12290, 68, 101] := text_runes _ _ (by decide +kernel)
theorem map6_ex : Lib.mapD nuD [66, 195, 188, 99, 104, 101, 114, 227, 128, 130, 68, 101] = [66, 195, 188, 99, 104, 101, 114, 46, 68, 101] := by
  rw [mapD_runes nuD (fun x hx => nuD_pos hx) runes6_ex]
  decide +kernel
theorem name6_ex : nameE [[66, 195, 188, 99, 104, 101, 114], [68, 101]] = ([[120, 110, 45, 45, 98, 99, 104, 101, 114, 45, 107, 118, 97], [100, 101]], 0) := by
  have h1 : firstE [[66, 195, 188, 99, 104, 101, 114], [68, 101]] = 0 := firstE_of fun x hx => by
    rcases List.mem_cons.1 hx with rfl | hx
    · exact lbl_lab asc6_ex
    · obtain rfl := List.mem_singleton.1 hx
      exact lbl_lab asc6_de
  have h2 : ascs [[66, 195, 188, 99, 104, 101, 114], [68, 101]] = [[120, 110, 45, 45, 98, 99, 104, 101, 114, 45, 107, 118, 97], [100, 101]] := by
    unfold ascs
    rw [List.map_cons, List.map_cons, List.map_nil, asc6_ex, asc6_de]
  rw [nameE_ok h1 (by rw [h2]; decide), h2]
theorem host6_ex : hostE [66, 195, 188, 99, 104, 101, 114, 227, 128, 130, 68, 101] = ([120, 110, 45, 45, 98, 99, 104, 101, 114, 45, 107, 118, 97, 46, 100, 101], 0) := by
  have hc : spl (cutE [66, 195, 188, 99, 104, 101, 114, 46, 68, 101]) = [[66, 195, 188, 99, 104, 101, 114], [68, 101]] := by decide +kernel
  rw [hostE_ok runes6_ex map6_ex.symm (by rw [hc, name6_ex]), hc, name6_ex]
  decide +kernel
theorem uni6_ex : uniN [120, 110, 45, 45, 98, 99, 104, 101, 114, 45, 107, 118, 97, 46, 100, 101] = [98, 195, 188, 99, 104, 101, 114, 46, 100, 101] := by
  have hc : spl [120, 110, 45, 45, 98, 99, 104, 101, 114, 45, 107, 118, 97, 46, 100, 101] = [[120, 110, 45, 45, 98, 99, 104, 101, 114, 45, 107, 118, 97], [100, 101]] := by decide +kernel
  unfold uniN
  rw [hc, List.map_cons, List.map_cons, List.map_nil, ascii_back far6_ex asc6_ex, uniE_plain (s := [100, 101]) (by decide +kernel)]
  decide +kernel
set_option maxHeartbeats 1000000 in
theorem works06_any (w : World) (hT : U8 w) : Calls Tryd.prog 4 #[] w fun e w' => e = .returned (.bool true) ∧ Below w.heap.size w w' := by
  have h1 := hostI_any (⟨#[66, 195, 188, 99, 104, 101, 114, 227, 128, 130, 68, 101]⟩ : ByteArray) w hT (by decide)
  have e1 : hostE (⟨#[66, 195, 188, 99, 104, 101, 114, 227, 128, 130, 68, 101]⟩ : ByteArray).data.toList = ([120, 110, 45, 45, 98, 99, 104, 101, 114, 45, 107, 118, 97, 46, 100, 101], 0) := host6_ex
  have e2 : uniN (⟨#[120, 110, 45, 45, 98, 99, 104, 101, 114, 45, 107, 118, 97, 46, 100, 101]⟩ : ByteArray).data.toList = [98, 195, 188, 99, 104, 101, 114, 46, 100, 101] := uni6_ex
  have h2 := fun w1 (hb : Below w.heap.size w w1) => uniI_any (⟨#[120, 110, 45, 45, 98, 99, 104, 101, 114, 45, 107, 118, 97, 46, 100, 101]⟩ : ByteArray) w1 (hT.below hb) (by decide) (by rw [e2]; decide)
  rw [e1] at h1
  rw [e2] at h2
  have H1 := Lib.hid h1
  have H2 := Lib.hid h2
  clear h1 h2 e1 e2
  go_enter Tryd.func4, Tryd.ntmps4
  go_wp2_with fail
  ((with_reducible refine H1.out.mono ?_))
  rintro e w1 ⟨rfl, hb1⟩
  go_wp2_with fail
  ((with_reducible refine (H2.out _ hb1).mono ?_))
  rintro e w2 ⟨rfl, hb2⟩
  have HB2 := hb1.trans (hb2.mono hb1.size)
  go_wp2_with fail
  go_ret
  exact ⟨rfl, HB2⟩
theorem ret_tt6 {b : Bool} (h : b = true) : Ending.returned (.bool b) = .returned (.bool true) := by rw [h]
theorem good_hostN {a : List UInt8} {ls : List (List UInt8)} {d : Bool} (h : Good a ls d) : hostN ls = true := by
  unfold hostN
  have h1 : ls.all hostB = true := List.all_eq_true.2 h.hosts
  have h2 := h.size
  have h3 := h.ne
  rw [h1]
  cases ls with
  | nil => exact absurd rfl h3
  | cons _ _ => simp; exact h2
set_option maxHeartbeats 2000000 in
theorem fixed6_law (s : ByteArray) (w : World) (hT : U8 w) (hs : s.size ≤ 9223372036854775807) :
    Calls Tryd.prog 3 #[.string s] w fun e w' => e = .returned (.bool true) ∧ Below w.heap.size w w' := by
  by_cases hbig : 600 < s.size
  · go_enter Tryd.func3, Tryd.ntmps3
    go_wp2_with fail
    ((with_reducible refine (works06_any w hT).mono ?_))
    rintro e w1 ⟨rfl, hb1⟩
    go_wp2_with fail
    ((with_reducible refine (works06_any w1 (hT.below hb1)).mono ?_))
    rintro e w2 ⟨rfl, hb2⟩
    go_wp2
    go_ret
    exact ⟨rfl, hb1.trans (hb2.mono hb1.size)⟩
  obtain ⟨a, ha⟩ : ∃ a : ByteArray, a = ⟨(hostE s.data.toList).1.toArray⟩ := ⟨_, rfl⟩
  obtain ⟨x, hx⟩ : ∃ x, x = (hostE s.data.toList).2 := ⟨_, rfl⟩
  have c1 := fun w hT => hostI_any s w hT (by omega)
  rw [← ha, ← hx] at c1
  have C1 := Lib.hid c1
  by_cases hx0 : x = 0
  · have hal : a.data.toList = (hostE s.data.toList).1 := by rw [ha]
    have hp : hostE s.data.toList = (a.data.toList, 0) := by rw [hal, ← hx0, hx]
    obtain ⟨ls, d, hg⟩ := host_good hp
    have hlen := hg.len
    have haz : a.size ≤ 255 := by
      have : a.data.toList.length = a.size := by simp
      omega
    have c2 := fun w hT => hostI_any a w hT (by omega)
    rw [hg.fixed, ba_self] at c2
    have c3 := fun w hT => uniI_any a w hT (by omega) (by omega)
    obtain ⟨u, hu⟩ : ∃ u : ByteArray, u = ⟨(uniN a.data.toList).toArray⟩ := ⟨_, rfl⟩
    have hul : u.data.toList = uniN a.data.toList := by rw [hu]
    have huz : u.size ≤ 1100 := by
      have : u.data.toList.length = u.size := by simp
      rw [hul] at this
      omega
    rw [← hu] at c3
    have c4 := fun w hT => hostI_any u w hT huz
    rw [hul, hg.back, ba_self] at c4
    have c5 := fun w => parse_any a w (by omega)
    unfold ParseP at c5
    rw [hg.parse] at c5
    have hz := hg.size
    have c6 := fun w A c (h : TextsAt w A ls.length ls) => refHostD_any A ls.length c ls w h (by omega)
    rw [good_hostN hg] at c6
    have C2 := Lib.hid c2
    have C3 := Lib.hid c3
    have C4 := Lib.hid c4
    have C5 := Lib.hid c5
    have C6 := Lib.hid c6
    clear c1 c2 c3 c4 c5 c6 hul hu hp hal ha hx hg hlen hz
    subst hx0
    go_enter Tryd.func3, Tryd.ntmps3
    go_wp2_with fail
    ((with_reducible refine (works06_any w hT).mono ?_))
    rintro e w1 ⟨rfl, hb1⟩
    go_wp2_with fail
    ((with_reducible refine (C1.out w1 (hT.below hb1)).mono ?_))
    rintro e w2 ⟨rfl, hb2⟩
    have HB2 := hb1.trans (hb2.mono hb1.size)
    go_wp2_with fail
    ((with_reducible refine (C2.out w2 (hT.below HB2)).mono ?_))
    rintro e w3 ⟨rfl, hb3⟩
    have HB3 := HB2.trans (hb3.mono HB2.size)
    go_wp2_with fail
    ((with_reducible refine (C3.out w3 (hT.below HB3)).mono ?_))
    rintro e w4 ⟨rfl, hb4⟩
    have HB4 := HB3.trans (hb4.mono HB3.size)
    go_wp2_with fail
    ((with_reducible refine (C4.out w4 (hT.below HB4)).mono ?_))
    rintro e w5 ⟨rfl, hb5⟩
    have HB5 := HB4.trans (hb5.mono HB4.size)
    go_wp2_with fail
    ((with_reducible refine (C5.out w5).mono ?_))
    rintro e w6 ⟨A, c, rfl, hta, hb6⟩
    have HB6 := HB5.trans (hb6.mono HB5.size)
    go_wp2_with fail
    ((with_reducible refine (C6.out w6 _ _ hta).mono ?_))
    rintro e w7 ⟨rfl, rfl⟩
    go_wp2_with fail
    go_ret
    exact ⟨ret_tt6 (by simp), HB6⟩
  · have hn := host_err (s := s.data.toList) (a := (hostE s.data.toList).1) (x := x) (by rw [hx]) hx0
    have hae : a = ⟨#[]⟩ := by rw [ha, hn]
    have hx1 : (x == 0) = false := by simpa using hx0
    clear c1 ha hx hn
    subst hae
    go_enter Tryd.func3, Tryd.ntmps3
    go_wp2_with fail
    ((with_reducible refine (works06_any w hT).mono ?_))
    rintro e w1 ⟨rfl, hb1⟩
    go_wp2_with fail
    ((with_reducible refine (C1.out w1 (hT.below hb1)).mono ?_))
    rintro e w2 ⟨rfl, hb2⟩
    have HB2 := hb1.trans (hb2.mono hb1.size)
    go_wp2
    go_ret
    exact ⟨ret_tt6 (by decide), HB2⟩
theorem idnaFixed_law (a0 : ByteArray) (W : World) (w0 : a0.size ≤ maxLen) (hT : U8 W) :
    Calls Tryd.prog 3 #[.string a0] W fun e w' => e = .returned (.bool true) ∧ Below W.heap.size W w' := by
  unfold maxLen at w0
  exact fixed6_law a0 W hT w0
end Go.Proofs.YtbcnnjifndmdpaaDoor
