/- Texts behind a law of this seat, in order: Colon3. -/
import Derived.Test.YthbdeafbdmbabaaGreatDoorPa
import Derived.Test.YthbdeafbdmbabaaGreatDoorPb
import Derived.Test.YthbdeafbdmbabaaGreatDoorPc
import Derived.Test.YthbdeafbdmbabaaGreatDoorPd
import Derived.Test.YthbdeafbdmbabaaGreatDoorPe
import Derived.Test.YthbdeafbdmbabaaGreatDoorPf
import Derived.Test.YthbdeafbdmbabaaGreatDoorPg
import Derived.Test.YthbdeafbdmbabaaGreatDoorPh
import Derived.Test.YthbdeafbdmbabaaGreatDoorPi
import Derived.Test.YthbdeafbdmbabaaGreatDoorPj
import Derived.Test.YthbdeafbdmbabaaGreatDoorPk
import Derived.Test.YthbdeafbdmbabaaGreatDoorPm
import Derived.Test.YthbdeafbdmbabaaGreatDoorPn
import Derived.Test.YthbdeafbdmbabaaGreatDoorPo
import Derived.Test.YthbdeafbdmbabaaGreatDoorPp
import Derived.Test.YthbdeafbdmbabaaGreatDoorPq
import Derived.Test.YthbdeafbdmbabaaGreatDoorPr
import Derived.Test.YthbdeafbdmbabaaGreatDoorPs
import Derived.Test.YthbdeafbdmbabaaGreatDoorPt
import Derived.Below
import Derived.BigQuiet
import Derived.BigRegion
import Derived.ChangeSlices
import Derived.Deep.AppendLies
import Derived.Deep.Draws
import Derived.Deep.OwnRows
import Derived.Deep.QuietTactic
import Derived.Deep.RegionLaw
import Derived.Great.Ranges
import Derived.Handed
import Derived.Laws.Bits64b
import Derived.Laws.BitsAllLaws
import Derived.Laws.OwnMore
import Derived.Laws.Rows
import Derived.Laws.StructEq
import Derived.Lib.Bytealg
import Derived.Lib.Hide
import Derived.Lib.ItoaLen
import Derived.Lib.ItoaMem
import Derived.Lib.ItoaNum
import Derived.Lib.Join
import Derived.Lib.SmallJoins
import Derived.Lib.Split
import Derived.Lib.SplitLaws
import Derived.Lib.Strings
import Derived.OpenShut
import Derived.Shelf.LaysM
import Derived.Shelf.Small.Bits
import Derived.Shelf.Small.Strs
import Derived.Shelf.Strconv.Itoa0
import Derived.Shelf.Strconv.Itoa1
import Derived.Shelf.Strconv.Itoa2
import Derived.Shelf.Strconv.Itoa3
import Derived.Shelf.Strings.Builder1
import Derived.Shelf.Strings.Builder2
import Derived.Shelf.Strings.Builder2Cap
import Derived.Shelf.Strings.BuilderCap
import Derived.Shelf.Strings.BuilderF
import Derived.Shelf.Strings.BuilderK
import Derived.Shelf.Strings.Count
import Derived.Shelf.Strings.Cut
import Derived.Shelf.Strings.OnBuilder
import Derived.Shelf.Strings.Prefix
import Derived.Shelf.Strings.Search1
import Derived.Shelf.Strings.Search2
import Derived.Shelf.Strings.Search3
import Derived.Shelf.Strings.Shaped
import Derived.Shelf.Strings.Split
import Derived.Shelf.Strings.SplitShaped
import Derived.Shelf.Unicode.Decode
import Derived.Shelf.Unicode.DecodeAny
import Derived.Shelf.Unicode.DecodeSlow
import Derived.SizedLaws
import Derived.SliceStrings
import Derived.Stop.BytesEq
import Derived.Test.YthbdeafbdmbabaaGreatDoorProg
import Derived.WalkKit
import Derived.WalkLawsBesides
import Derived.WalkSpells
namespace Go.Proofs.YthbdeafbdmbabaaGreatDoor
open Go.RowKit Go
set_option linter.unusedVariables false
set_option maxRecDepth 100000
def gInts (g : List Nat) : List Int := g.map fun n : Nat => (n : Int)
def fillH (g : List Nat) (k : Nat) : Array Value := (strVs (hexs (g.take k)) ++ List.replicate (g.length - k) (Value.string ByteArray.empty)).toArray
theorem fillH_start (g : List Nat) : madeCells #[Value.string ByteArray.empty] g.length = fillH g 0 := by
  apply Array.toList_inj.1
  rw [toList_madeCells_one]
  simp [fillH, hexs, strVs]
theorem hexTake_len (g : List Nat) (k : Nat) (h : k ≤ g.length) : (strVs (hexs (g.take k))).length = k := by
  rw [strVs_len, hexs, List.length_map, List.length_take]; omega
theorem fillH_at {g : List Nat} {k : Nat} (h : k < g.length) : (fillH g k)[k]? = some (.string ByteArray.empty) := by
  unfold fillH
  rw [List.getElem?_toArray, List.getElem?_append_right (by rw [hexTake_len g k (by omega)]; omega), hexTake_len g k (by omega), Nat.sub_self]
  obtain ⟨j, hj⟩ : ∃ j, g.length - k = j + 1 := ⟨g.length - k - 1, by omega⟩
  rw [hj]
  rfl
theorem fillH_put {g : List Nat} {k : Nat} (h : k < g.length) : (fillH g k).setIfInBounds k (strV (hexL g[k])) = fillH g (k + 1) := by
  unfold fillH
  obtain ⟨j, hj⟩ : ∃ j, g.length - k = j + 1 := ⟨g.length - k - 1, by omega⟩
  rw [hj, show g.length - (k + 1) = j by omega, List.setIfInBounds_toArray]
  congr 1
  rw [List.set_append_right _ _ (by rw [hexTake_len g k (by omega)]; omega), hexTake_len g k (by omega), Nat.sub_self, List.replicate_succ, List.set_cons_zero, show hexs (g.take (k + 1)) = hexs (g.take k) ++ [hexL g[k]] by rw [hexs, List.take_succ_eq_append_getElem h, List.map_append]; rfl, strVs_app, List.append_assoc]
  rfl
theorem fillH_end {w : World} {b : Nat} {g : List Nat} (h : At w b 9 (fillH g g.length)) : TextsAt w (some ⟨b, 0, none⟩) (hexs g).length (hexs g) := by
  refine ⟨rfl, fun h0 => ⟨b, 0, rfl, h.lt, fun j hj => ?_⟩⟩
  rw [Nat.zero_add, h.cell]
  unfold fillH
  rw [List.take_of_length_le (Nat.le_refl _), Nat.sub_self, List.replicate_zero, List.append_nil, List.getElem?_toArray]
  unfold strVs
  rw [List.getElem?_map, List.getElem?_eq_getElem hj]
  rfl
theorem joinL_joiX (L : List (List UInt8)) : joinL [58] L = joiX 58 L := by
  induction L with
  | nil => rfl
  | cons p t ih =>
    cases t with
    | nil => exact joinL_one _ _
    | cons q t =>
      rw [joiX_cons 58 p (q :: t) (by simp), ← ih]
      unfold joinL
      rw [Lib.join_cons, Lib.join_cons]
      simp [Lib.joinTail]
set_option maxHeartbeats 1000000 in
theorem written_any (A : Option Addr) (n c : Nat) (g : List Nat) (w : World) (hl : IntsAt w .u64 A n (gInts g)) (hb : g.length ≤ 8) (hg : ∀ v ∈ g, v < 65536) (hD : DB w) :
    Calls Tryz.prog 77 #[.slice A n c] w fun e w' => e = .returned (.string ⟨(joiX 58 (hexs g)).toArray⟩) ∧ Below w.heap.size w w' := by
  have hn : n = g.length := by have := hl.1; simpa [gInts] using this
  subst hn
  have hmk := fun W => run_make_row' (P := Tryz.prog) 33 9 (.string ByteArray.empty) 16 Tryz.underlying33 elem9 rfl .i64 .i64 g.length (by omega) (by omega) W
  go_enter Tryz.func77, Tryz.ntmps77
  go_wp2_with fail
  clear hmk
  rw [fillH_start]
  have hat : At (w.alloc (.cells (fillH g 0) 9)) w.heap.size 9 (fillH g 0) := At.new w _ _
  have hbl : Below w.heap.size w (w.alloc (.cells (fillH g 0) 9)) := (Below.refl _ w).alloc (Nat.le_refl _) _
  generalize w.alloc (.cells (fillH g 0) 9) = w0 at hat hbl ⊢
  go_loopw [11] (fun i wr => ∃ k : Nat, k ≤ g.length ∧ i = .int .i64 k ∧ At wr w.heap.size 9 (fillH g k) ∧ Below w.heap.size w wr) (fun i _ => g.length - (intOf i).toNat)
  case atStart => exact ⟨0, Nat.zero_le _, rfl, hat, hbl⟩
  case round =>
    obtain ⟨k, hk, rfl, hAt, HB⟩ := hrel
    have hsz := HB.size
    by_cases hkl : k < g.length
    · obtain ⟨b, o, rfl, hbh, hcell⟩ := hl.2 (by omega)
      have h1 := hcell k (by simpa [gInts] using hkl)
      rw [← HB.cell (p := ⟨b, o + k, none⟩) hbh] at h1
      have hput := fillH_put hkl
      have hv := hg g[k] (List.getElem_mem _)
      have e1 : (gInts g)[k]'(by simpa [gInts] using hkl) = ((g[k] : Nat) : Int) := by simp [gInts]
      rw [e1] at h1
      obtain ⟨v, hvv⟩ : ∃ v, v = g[k] := ⟨_, rfl⟩
      rw [← hvv] at h1 hput hv
      have HF := Lib.hid (fmt16_any v wr hv (hD.below (Nat.le_refl _) HB))
      have HP := Lib.hid hput
      have hglt := hAt.lt
      clear hcell hvv hput e1
      go_wp2_with fail
      with_reducible refine HF.out.mono ?_
      rintro e w1 ⟨rfl, hb1⟩
      have hAt1 := hAt.below hb1 hglt
      have HB1 := HB.trans (hb1.mono hsz)
      have hlt1 := hAt1.lt
      have hcl := hAt1.cells k (fillH_at hkl)
      have hfr := hAt1.ice k
      have hAt2 := hAt1.put k (strV (hexL v))
      rw [HP.out] at hAt2
      unfold strV at hAt2
      have HB2 : Below w.heap.size w (w1.setCell ⟨w.heap.size, k, none⟩ (.string ⟨(hexL v).toArray⟩)) := HB1.setCell (Nat.le_refl _) _
      clear HP HF hAt hb1
      go_wp2_with fail
      go_roundw
      case rel => exact ⟨k + 1, by omega, by go_num, hAt2, HB2⟩
      case measure => simp [intOf]; omega
    · obtain rfl : k = g.length := by omega
      have hta := fillH_end hAt
      have hlen := hexs_len g hg
      have hll : (hexs g).length = g.length := by simp [hexs]
      have hJ := join_any ⟨#[58]⟩ (some ⟨w.heap.size, 0, none⟩) (hexs g).length g.length (hexs g) wr hta (by omega) (by omega) (by
        show (joinL [58] _).length ≤ _
        rw [joinL_joiX]
        omega)
      rw [show (⟨#[58]⟩ : ByteArray).data.toList = [58] from rfl, joinL_joiX, hll] at hJ
      have HJ := Lib.hid hJ
      clear hJ hta hAt hll hlen
      go_wp2_with (first
        | ((with_reducible refine HJ.out.mono ?_); rintro e w2 ⟨rfl, hb⟩))
      go_ret
      exact ⟨rfl, HB.trans (hb.mono hsz)⟩
end Go.Proofs.YthbdeafbdmbabaaGreatDoor
