/- Texts behind a law of this seat, in order: TabC. -/
import Derived.Test.YtnoabmkmnddkkaaPa
import Derived.Test.YtnoabmkmnddkkaaPb
import Derived.Test.YtnoabmkmnddkkaaPc
import Derived.Test.YtnoabmkmnddkkaaPd
import Derived.Test.YtnoabmkmnddkkaaPf
import Derived.Test.YtnoabmkmnddkkaaPg
import Derived.Test.YtnoabmkmnddkkaaPi
import Derived.Test.YtnoabmkmnddkkaaPj
import Derived.Test.YtnoabmkmnddkkaaPp
import Derived.Test.YtnoabmkmnddkkaaPq
import Derived.Below
import Derived.BigQuiet
import Derived.ChangeSlices
import Derived.Deep.AppendLies
import Derived.Deep.Draws
import Derived.Deep.OwnRows
import Derived.Deep.QuietTactic
import Derived.Deep.RegionLaw
import Derived.Great.Ranges
import Derived.Handed
import Derived.Handy
import Derived.Laws.OwnMore
import Derived.Laws.Rows
import Derived.Lib.Hide
import Derived.Lib.Strings
import Derived.Shelf.Strings.Builder1
import Derived.Shelf.Strings.BuilderF
import Derived.Shelf.Strings.BuilderK
import Derived.SizedLaws
import Derived.SliceStrings
import Derived.Test.YtnoabmkmnddkkaaProg
import Derived.WalkKit
import Derived.WalkLawsBesides
import Derived.WalkSpells
namespace Go.Proofs.Ytnoabmkmnddkkaa
open Go.RowKit Go
set_option linter.unusedVariables false
abbrev BdP (B b : Nat) (l : List UInt8) (w : World) : Prop := Lib.IsBuilderF 117 5 B b (Lib.byteCells l) w
theorem wsP (B b : Nat) (acc l : List UInt8) (w : World) (h : BdP B b acc w) (hlen : acc.length + l.length ≤ 1000000) (hB : B ≤ w.heap.size) :
    Calls Try.prog 71 #[.pointer (some ⟨b, 0, none⟩), .string ⟨l.toArray⟩] w fun e w' => ∃ v, e = .returned v ∧ BdP B b (acc ++ l) w' ∧ Below B w w' := by
  refine (writeString_k B b (Lib.byteCells acc) ⟨l.toArray⟩ w h (by rw [Lib.byteCells_length]; have : (⟨l.toArray⟩ : ByteArray).size = l.length := rfl; omega) hB).mono ?_
  rintro e w1 ⟨rfl, h1, h2, h3⟩
  refine ⟨_, rfl, ?_, h2⟩
  unfold BdP
  rw [Lib.byteCells_append]
  rw [show Lib.strCells ⟨l.toArray⟩ = Lib.byteCells l from rfl] at h1
  exact Or.inr h1
theorem wbP (B b : Nat) (acc : List UInt8) (w : World) (h : BdP B b acc w) (hlen : acc.length ≤ 1000000) (hB : B ≤ w.heap.size) :
    Calls Try.prog 72 #[.pointer (some ⟨b, 0, none⟩), .int .u8 0] w fun e w' => e = .returned .nilIface ∧ BdP B b (acc ++ [0]) w' ∧ Below B w w' := by
  refine (writeByte_k B b (Lib.byteCells acc) 0 w h (by rw [Lib.byteCells_length]; omega) hB).mono ?_
  rintro e w1 ⟨rfl, h1, h2, h3⟩
  refine ⟨rfl, ?_, h2⟩
  unfold BdP
  rw [Lib.byteCells_append]
  exact Or.inr h1
theorem bdP_below {B b : Nat} {l : List UInt8} {w w' : World} (h : BdP B b l w) (hb : Below w.heap.size w w') : BdP B b l w' := by
  have key : ∀ p, Lib.BuilderAtF 117 5 B b p (Lib.byteCells l) w → Lib.BuilderAtF 117 5 B b p (Lib.byteCells l) w' := fun p hp => by
    obtain ⟨hB, v, hbk, ho, hne⟩ := hp
    refine ⟨hB, v, (hb.block b (Array.getElem?_eq_some_iff.1 hbk).1).trans hbk, ⟨ho.1, ?_⟩, hne⟩
    rcases ho.2 with h0 | ⟨g', cap, cur, fz, hv, hB', hg, hr⟩
    · exact .inl h0
    · exact .inr ⟨g', cap, cur, fz, hv, hB', (hb.block g' (Array.getElem?_eq_some_iff.1 hg).1).trans hg, hr⟩
  exact h.elim (fun x => .inl (key _ x)) (fun x => .inr (key _ x))
set_option maxRecDepth 100000 in
set_option maxHeartbeats 2000000 in
theorem octets_any (A : Option Addr) (n c : Nat) (l : Lbs) (w : World) (hl : TextsAt w A n l) (hb : sizeL l ≤ 401) :
    Calls Try.prog 64 #[.slice A n c] w fun e w' => e = .returned (.string ⟨(wireB l).toArray⟩) ∧ Below w.heap.size w w' := by
  obtain rfl := hl.1
  have HL := Lib.hid hl
  have hsl := size_len l
  have HP := Lib.hid (fun (m n : Int) w => octPut_any m n w)
  have HWL := Lib.hid (labsB_len l)
  clear hl
  go_enter Try.func64, Try.ntmps64
  go_wp2_with fail
  go_loopw [8] (fun i wr => ∃ k : Nat, k ≤ l.length ∧ i = .int .i64 k ∧ BdP w.heap.size w.heap.size (labsB (l.take k)) wr ∧ Below w.heap.size w wr) (fun i _ => l.length - (intOf i).toNat)
  case atStart => exact ⟨0, Nat.zero_le _, rfl, Lib.IsBuilderF.of (Lib.fresh_isBuilder _ _ w), (Below.refl _ w).alloc (Nat.le_refl _) _⟩
  case round =>
    obtain ⟨k, hk, rfl, hbd, HB⟩ := hrel
    by_cases hlt : k < l.length
    · obtain ⟨b, o, rfl, hbh, hcell⟩ := HL.out.2 (by omega)
      have c1 := hcell k hlt
      rw [← HB.cell (p := ⟨b, o + k, none⟩) hbh] at c1
      have hz2 := size_at l k hlt
      have hlab := labsB_take l k hlt
      have hz1 := labsB_len (l.take k)
      obtain ⟨x, hx⟩ : ∃ x, x = l[k] := ⟨_, rfl⟩
      rw [← hx] at c1 hz2 hlab
      obtain ⟨xb, hxb⟩ : ∃ xb : ByteArray, xb = ⟨x.toArray⟩ := ⟨_, rfl⟩
      have hxz : xb.size = x.length := by rw [hxb]; rfl
      unfold strV at c1
      rw [← hxb] at c1
      have hp1 := fun w => HP.out 1 (xb.size : Int) w
      rw [show ocWide 1 = 1 by decide] at hp1
      have hgs := HB.size
      have h300 : xb.size ≤ 400 := by omega
      have HP1 := Lib.hid hp1
      have HW1 := Lib.hid (fun w' (h : BdP w.heap.size w.heap.size (labsB (l.take k)) w') (hs : w.heap.size ≤ w'.heap.size) => wsP w.heap.size w.heap.size (labsB (l.take k)) (ocT 1 (xb.size : Int)) w' h (by have := ocT_len 1 (xb.size : Int); omega) hs)
      have HW2 := Lib.hid (fun w' (h : BdP w.heap.size w.heap.size (labsB (l.take k) ++ ocT 1 (xb.size : Int)) w') (hs : w.heap.size ≤ w'.heap.size) => by
        have := wsP w.heap.size w.heap.size (labsB (l.take k) ++ ocT 1 (xb.size : Int)) x w' h (by rw [List.length_append]; have := ocT_len 1 (xb.size : Int); omega) hs
        rw [← hxb] at this
        exact this)
      have HCAT := Lib.hid (show labsB (l.take k) ++ ocT 1 (xb.size : Int) ++ x = labsB (l.take (k + 1)) by
        rw [hlab, hxz]; simp [labB, ocT])
      have HBD := Lib.hid hbd
      have HBH := Lib.hid (show b < wr.heap.size from Nat.lt_of_lt_of_le hbh hgs)
      have C1 := Lib.hid c1
      have HBB := Lib.hid HB
      clear hcell hbd hx hxb hxz hlab hz1 hz2 hp1 HB hbh
      go_wp2_with (first
        | ((with_reducible refine (HP1.out _).mono ?_); rintro e w2 ⟨rfl, hb2⟩; have HB2 := Lib.hid hb2; have HS2 := Lib.hid (Nat.le_trans hgs hb2.size); have HD2 := Lib.hid (bdP_below HBD.out hb2); clear hb2)
        | ((with_reducible refine (HW1.out _ HD2.out HS2.out).mono ?_); rintro e w3 ⟨v3, rfl, hd3, hb3⟩; have HD3 := Lib.hid hd3; have HB3 := Lib.hid (HBB.out.trans ((HB2.out.mono hgs).trans hb3)); clear hd3 hb3)
        | ((with_reducible refine (HW2.out _ HD3.out HB3.out.size).mono ?_); rintro e w4 ⟨v4, rfl, hd4, hb4⟩; have HD4 := Lib.hid hd4; have HB4 := Lib.hid (HB3.out.trans hb4); clear hd4 hb4))
      go_roundw
      case rel =>
        have h4 := HD4.out
        rw [HCAT.out] at h4
        exact ⟨k + 1, by omega, by go_num, h4, HB4.out⟩
      case measure => simp [intOf]; omega
    · have he : l.take k = l := List.take_of_length_le (by omega)
      rw [he] at hbd
      have hz := HWL.out
      have HW1 := Lib.hid (wbP w.heap.size w.heap.size (labsB l) wr hbd (by omega) HB.size)
      have HBB := Lib.hid HB
      have HS := Lib.hid (fun w' (h : BdP w.heap.size w.heap.size (labsB l ++ [0]) w') (hs : w.heap.size ≤ w'.heap.size) => Try.Builder_String_any_k w.heap.size w.heap.size (labsB l ++ [0]) w' h hs)
      clear hbd he hz HB
      go_wp2_with (first
        | ((with_reducible refine HW1.out.mono ?_); rintro e w2 ⟨rfl, hd2, hb2⟩; have HD2 := Lib.hid hd2; have HB2 := Lib.hid (HBB.out.trans hb2); clear hd2 hb2)
        | ((with_reducible refine (HS.out _ HD2.out HB2.out.size).mono ?_); rintro e w3 ⟨rfl, hd3, hb3, _⟩; have HB3 := Lib.hid hb3; clear hd3 hb3))
      go_ret
      exact ⟨rfl, HB2.out.trans HB3.out⟩
end Go.Proofs.Ytnoabmkmnddkkaa
