/- Texts behind a law of this seat, in order: Label, Label2, Label3, Label5. -/
import Derived.Test.YtbcnnjifndmdpaaDoorPa
import Derived.Test.YtbcnnjifndmdpaaDoorPb
import Derived.Test.YtbcnnjifndmdpaaDoorPc
import Derived.Test.YtbcnnjifndmdpaaDoorPe
import Derived.Test.YtbcnnjifndmdpaaDoorPf
import Derived.Test.YtbcnnjifndmdpaaDoorPg
import Derived.Test.YtbcnnjifndmdpaaDoorPh
import Derived.Test.YtbcnnjifndmdpaaDoorPi
import Derived.Test.YtbcnnjifndmdpaaDoorPj
import Derived.Test.YtbcnnjifndmdpaaDoorPk
import Derived.Test.YtbcnnjifndmdpaaDoorPl
import Derived.Test.YtbcnnjifndmdpaaDoorPm
import Derived.Test.YtbcnnjifndmdpaaDoorPn
import Derived.Test.YtbcnnjifndmdpaaDoorPo
import Derived.Test.YtbcnnjifndmdpaaDoorPp
import Derived.Test.YtbcnnjifndmdpaaDoorPq
import Derived.Test.YtbcnnjifndmdpaaDoorPr
import Derived.Test.YtbcnnjifndmdpaaDoorPs
import Derived.Below
import Derived.BigQuiet
import Derived.BigRegion
import Derived.ChangeSlices
import Derived.Deep.AppendLies
import Derived.Deep.Draws
import Derived.Deep.QuietTactic
import Derived.Deep.RegionHeld3
import Derived.Deep.RegionLaw
import Derived.Deep.RegionWith
import Derived.Handed
import Derived.Handy
import Derived.IntWalk
import Derived.Laws.CopyOwn
import Derived.Laws.Externs
import Derived.Laws.OwnMore
import Derived.Laws.Rows
import Derived.Lib.AppendZeros
import Derived.Lib.AppendZerosOnto
import Derived.Lib.Bytealg
import Derived.Lib.DecodeN
import Derived.Lib.Hide
import Derived.Lib.Join
import Derived.Lib.Overlaps
import Derived.Lib.RuneBytes
import Derived.Lib.Strings
import Derived.Maps.AppendAt
import Derived.Shelf.LaysM
import Derived.Shelf.Small.Strs
import Derived.Shelf.Small.Utf8
import Derived.Shelf.Small.Wraps
import Derived.Shelf.Strings.Builder1
import Derived.Shelf.Strings.Builder2
import Derived.Shelf.Strings.Builder2Cap
import Derived.Shelf.Strings.BuilderCap
import Derived.Shelf.Strings.BuilderF
import Derived.Shelf.Strings.BuilderK
import Derived.Shelf.Strings.BuilderRune
import Derived.Shelf.Strings.Count
import Derived.Shelf.Strings.MapAny
import Derived.Shelf.Strings.OnBuilder
import Derived.Shelf.Strings.Prefix
import Derived.Shelf.Strings.Search1
import Derived.Shelf.Strings.Search2
import Derived.Shelf.Strings.Search3
import Derived.Shelf.Strings.Shaped
import Derived.Shelf.Strings.Split
import Derived.Shelf.Strings.SplitShaped
import Derived.Shelf.Unicode.Decode
import Derived.Shelf.Unicode.DecodeAny
import Derived.Shelf.Unicode.DecodeSlow
import Derived.Shelf.Utf8.AppendRunePlain
import Derived.SizedLaws
import Derived.SliceStrings
import Derived.StillTailTactics
import Derived.Test.YtbcnnjifndmdpaaDoorProg
import Derived.WalkKit
import Derived.WalkLawsBesides
import Derived.WalkSmall
import Derived.WalkSpells
namespace Go.Proofs.YtbcnnjifndmdpaaDoor
open Go.RowKit Go
set_option linter.unusedVariables false
def dotB (c : Int) : Bool := decide (c = 12290) || decide (c = 65294) || decide (c = 65377)
theorem dot_any (c : Int) (w : World) : Calls Tryd.prog 72 #[.int .i32 c] w fun e w' => e = .returned (.bool (dotB c)) ∧ w = w' := by
  have key : ∀ b, (b = true ↔ c = 12290 ∨ c = 65294 ∨ c = 65377) → b = dotB c := fun b h => Bool.eq_iff_iff.2 (h.trans (by unfold dotB; simp [or_assoc]))
  have KEY := Lib.hid key
  clear key
  go_enter Tryd.func72, Tryd.ntmps72
  go_wp2
  all_goals (go_ret; exact ⟨ret_bool (KEY.out _ (by simp <;> omega)), rfl⟩)
end Go.Proofs.YtbcnnjifndmdpaaDoor
namespace Go.Proofs.YtbcnnjifndmdpaaDoor
open Go.RowKit Go
set_option linter.unusedVariables false
theorem fit_false {l : List Int} (h : ¬ (l.getD 0 0 ≠ 45 ∧ l.getD (l.length - 1) 0 ≠ 45 ∧ ∀ c ∈ l, ptOk c = true)) : fitB l = false := by
  cases hh : fitB l with
  | false => rfl
  | true => exact absurd ((fitB_iff l).1 hh) h
theorem getD_at {l : List Int} {k : Nat} (hk : k < l.length) : l.getD k 0 = l[k] := by
  rw [List.getD_eq_getElem?_getD, List.getElem?_eq_getElem hk]; rfl
theorem fit_first {l : List Int} (h : l.getD 0 0 = 45) : fitB l = false := fit_false fun a => a.1 h
theorem fit_last {l : List Int} (h : l.getD (l.length - 1) 0 = 45) : fitB l = false := fit_false fun a => a.2.1 h
theorem fit_bad {l : List Int} {k : Nat} (hk : k < l.length) (h : ptOk l[k] = false) : fitB l = false := fit_false fun a => by
  have := a.2.2 _ (List.getElem_mem hk)
  rw [h] at this
  cases this
theorem fit_step {l : List Int} {k : Nat} (hk : k < l.length) (ha : ∀ c ∈ l.take k, ptOk c = true) (h : ptOk l[k] = true) : ∀ c ∈ l.take (k + 1), ptOk c = true := by
  rw [List.take_succ_eq_append_getElem hk]
  intro c hc
  rcases List.mem_append.1 hc with hc | hc
  · exact ha c hc
  · obtain rfl := List.mem_singleton.1 hc
    exact h
theorem fit_end {l : List Int} (h1 : l.getD 0 0 ≠ 45) (h2 : l.getD (l.length - 1) 0 ≠ 45) (ha : ∀ c ∈ l.take l.length, ptOk c = true) : fitB l = true := by
  rw [List.take_length] at ha
  exact (fitB_iff l).2 ⟨h1, h2, ha⟩
theorem ptOk_small {x : Int} (h : x < 128) : ptOk x = plainB x := by
  apply Bool.eq_iff_iff.2
  rw [ptOk_iff]
  constructor
  · intro a; exact a.1 h
  · intro a; exact ⟨fun _ => a, by omega, by omega, by omega⟩
theorem ptOk_big {x : Int} (h : ¬ x < 128) : ptOk x = !dotB x := by
  unfold ptOk dotB
  simp [h]
theorem dot_small {x : Int} (h : x < 128) : dotB x = false := by
  unfold dotB
  simp
  omega
theorem fit_ends {A : Option Addr} {n : Nat} {l : List Int} {w : World} (hl : IntsAt w .i32 A n l) (hn0 : 0 < n) : ∃ b o, A = some ⟨b, o, none⟩ ∧ w.cell? ⟨b, o, none⟩ = some (.int .i32 (l.getD 0 0)) ∧ w.cell? ⟨b, o + (n - 1), none⟩ = some (.int .i32 (l.getD (l.length - 1) 0)) ∧ ∀ j (h : j < l.length), w.cell? ⟨b, o + j, none⟩ = some (.int .i32 l[j]) := by
  have hlen := hl.1
  obtain ⟨b, o, rfl, hb, hcell⟩ := hl.2 hn0
  refine ⟨b, o, rfl, ?_, ?_, hcell⟩
  · rw [getD_at (by omega)]; exact hcell 0 (by omega)
  · subst hlen; rw [getD_at (by omega)]; exact hcell (l.length - 1) (by omega)
set_option maxRecDepth 100000 in
theorem fit_any (A : Option Addr) (n c : Nat) (l : List Int) (w : World) (hl : IntsAt w .i32 A n l) (hn : n ≤ 4000) (hn0 : 0 < n) :
    Calls Tryd.prog 61 #[.slice A n c] w fun e w' => e = .returned (.bool (fitB l)) ∧ w = w' := by
  have HLEN := Lib.hid hl.1
  obtain ⟨b, o, rfl, q0, q9, hcell⟩ := fit_ends hl hn0
  have HC := Lib.hid hcell
  obtain ⟨x0, e0⟩ : ∃ x, x = l.getD 0 0 := ⟨_, rfl⟩
  obtain ⟨x9, e9⟩ : ∃ x, x = l.getD (l.length - 1) 0 := ⟨_, rfl⟩
  rw [← e0] at q0
  rw [← e9] at q9
  have E0 := Lib.hid e0
  have E9 := Lib.hid e9
  clear hl hcell e0 e9
  by_cases h2 : x0 = 45
  · have hno := fit_first (l := l) (by rw [← E0.out]; exact h2)
    have HNO := Lib.hid hno
    clear hno
    have e2 : (x0 == 45) = true := by simp; omega
    go_enter Tryd.func61, Tryd.ntmps61
    go_wp2
    all_goals (go_ret; exact ⟨ret_bool HNO.out.symm, rfl⟩)
  have e2 : (x0 == 45) = false := by simp; omega
  by_cases h3 : x9 = 45
  · have hno := fit_last (l := l) (by rw [← E9.out]; exact h3)
    have HNO := Lib.hid hno
    clear hno
    have e3 : (x9 == 45) = true := by simp; omega
    go_enter Tryd.func61, Tryd.ntmps61
    go_wp2
    all_goals (go_ret; exact ⟨ret_bool HNO.out.symm, rfl⟩)
  have e3 : (x9 == 45) = false := by simp; omega
  have HN2 := Lib.hid h2
  have HN3 := Lib.hid h3
  clear h2 h3
  go_enter Tryd.func61, Tryd.ntmps61
  go_wp2
  go_loop [20] (fun i => ∃ k : Nat, k ≤ n ∧ i = .int .i64 k ∧ Hid (∀ c ∈ l.take k, ptOk c = true)) (fun i => n - (intOf i).toNat)
  case atStart => exact ⟨0, Nat.zero_le _, rfl, Lib.hid (by simp)⟩
  case round =>
    obtain ⟨k, hk, rfl, hall⟩ := hrel
    by_cases hlt : k < n
    · have hkl : k < l.length := by have := HLEN.out; omega
      have h1 := HC.out k hkl
      have hbad := fit_bad hkl
      have hgo := fit_step hkl hall.out
      obtain ⟨x, hxe⟩ : ∃ x, x = l[k] := ⟨_, rfl⟩
      rw [← hxe] at h1 hbad hgo
      have HBAD := Lib.hid hbad
      have HGO := Lib.hid hgo
      clear hxe hbad hgo
      by_cases hx : x < 128
      · have hd := dot_small hx
        have hok := ptOk_small hx
        cases hp : plainB x with
        | false =>
          have hno := HBAD.out (by rw [hok, hp])
          have HNO := Lib.hid hno
          clear hok hno hd
          go_wp2_with fail
          ((with_reducible refine (common_any _ _).mono ?_))
          rintro e w2 ⟨rfl, rfl⟩
          rw [hp]
          go_wp2
          go_ret
          exact ⟨ret_bool HNO.out.symm, rfl⟩
        | true =>
          have hall2 := HGO.out (by rw [hok, hp])
          have HALL := Lib.hid hall2
          clear hall2 hok
          go_wp2_with fail
          ((with_reducible refine (common_any _ _).mono ?_))
          rintro e w2 ⟨rfl, rfl⟩
          rw [hp]
          go_wp2_with fail
          ((with_reducible refine (dot_any _ _).mono ?_))
          rintro e w2 ⟨rfl, rfl⟩
          rw [hd]
          go_wp2
          go_round
          case rel => exact ⟨k + 1, by omega, by go_num, HALL⟩
          case measure => simp [intOf]; omega
      · have hok := ptOk_big hx
        have hx2 : 128 ≤ x := by omega
        cases hp : dotB x with
        | true =>
          have hno := HBAD.out (by rw [hok, hp]; rfl)
          have HNO := Lib.hid hno
          clear hok hno
          go_wp2_with fail
          ((with_reducible refine (dot_any _ _).mono ?_))
          rintro e w2 ⟨rfl, rfl⟩
          rw [hp]
          go_wp2
          go_ret
          exact ⟨ret_bool HNO.out.symm, rfl⟩
        | false =>
          have hall2 := HGO.out (by rw [hok, hp]; rfl)
          have HALL := Lib.hid hall2
          clear hall2 hok
          go_wp2_with fail
          ((with_reducible refine (dot_any _ _).mono ?_))
          rintro e w2 ⟨rfl, rfl⟩
          rw [hp]
          go_wp2
          go_round
          case rel => exact ⟨k + 1, by omega, by go_num, HALL⟩
          case measure => simp [intOf]; omega
    · have hkn : k = n := by omega
      have hno := fit_end (l := l) (by rw [← E0.out]; exact HN2.out) (by rw [← E9.out]; exact HN3.out) (by rw [← HLEN.out, ← hkn]; exact hall.out)
      have HNO := Lib.hid hno
      clear hno
      go_wp2
      go_ret
      exact ⟨ret_bool HNO.out.symm, rfl⟩
end Go.Proofs.YtbcnnjifndmdpaaDoor
namespace Go.Proofs.YtbcnnjifndmdpaaDoor
open Go.RowKit Go
set_option linter.unusedVariables false
def wrtE (t : List UInt8) : List UInt8 × Int :=
  match runesL t with
  | none => ([], 5)
  | some ks => if fitB ks = false then ([], 7) else if (encE ks).2 ≠ 0 then ([], (encE ks).2) else if 59 < (encE ks).1.length then ([], 7) else (sgn ++ (encE ks).1, 0)
theorem asciiE_far {s : List UInt8} (h : farB s = true) : asciiE s = wrtE (s.map lowB) := by unfold asciiE; rw [if_neg (by simp [h])]; rfl
theorem wrtE_none {t : List UInt8} (h2 : runesL t = none) : wrtE t = ([], 5) := by unfold wrtE; rw [h2]
theorem wrtE_unfit {t : List UInt8} {ks : List Int} (h2 : runesL t = some ks) (h3 : fitB ks = false) : wrtE t = ([], 7) := by unfold wrtE; rw [h2]; simp only; rw [if_pos h3]
theorem wrtE_enc {t : List UInt8} {ks : List Int} (h2 : runesL t = some ks) (h3 : fitB ks = true) (h4 : (encE ks).2 ≠ 0) : wrtE t = ([], (encE ks).2) := by
  unfold wrtE; rw [h2]; simp only; rw [if_neg (by simp [h3]), if_pos h4]
theorem wrtE_long {t : List UInt8} {ks : List Int} (h2 : runesL t = some ks) (h3 : fitB ks = true) (h4 : (encE ks).2 = 0) (h5 : 59 < (encE ks).1.length) : wrtE t = ([], 7) := by
  unfold wrtE; rw [h2]; simp only; rw [if_neg (by simp [h3]), if_neg (by simp [h4]), if_pos h5]
theorem wrtE_ok {t : List UInt8} {ks : List Int} (h2 : runesL t = some ks) (h3 : fitB ks = true) (h4 : (encE ks).2 = 0) (h5 : ¬ 59 < (encE ks).1.length) : wrtE t = (sgn ++ (encE ks).1, 0) := by
  unfold wrtE; rw [h2]; simp only; rw [if_neg (by simp [h3]), if_neg (by simp [h4]), if_neg h5]
theorem ret_si {a b : ByteArray} {x y : Int} (h : a = b) (k : x = y) : Ending.returned (.tuple #[.string a, .int .i64 x]) = .returned (.tuple #[.string b, .int .i64 y]) := by rw [h, k]
theorem ret_wrt {t p : List UInt8} {x : Int} (h : wrtE t = (p, x)) : Ending.returned (.tuple #[.string ⟨p.toArray⟩, .int .i64 x]) = .returned (.tuple #[.string ⟨(wrtE t).1.toArray⟩, .int .i64 (wrtE t).2]) := by rw [h]
theorem ret_asc {t p : List UInt8} {x : Int} (h : asciiE t = (p, x)) : Ending.returned (.tuple #[.string ⟨p.toArray⟩, .int .i64 x]) = .returned (.tuple #[.string ⟨(asciiE t).1.toArray⟩, .int .i64 (asciiE t).2]) := by rw [h]
theorem runesNo_any (s : ByteArray) (w : World) (hT : U8 w) (hs : s.size ≤ 4000) (h : runesL s.data.toList = none) : Calls Tryd.prog 9 #[.string s] w fun e w' => e = .returned (.tuple #[.slice none 0 0, .int .i64 5]) ∧ Below w.heap.size w w' := by
  refine (runes_any s w hT hs).mono ?_
  rintro e w' ⟨h1, hb⟩
  rcases h1 with ⟨_, rfl⟩ | ⟨ks, A, c, h2, _⟩
  · exact ⟨rfl, hb⟩
  · rw [h] at h2; cases h2
theorem runesYes_any (s : ByteArray) (ks : List Int) (n : Nat) (w : World) (hT : U8 w) (hs : s.size ≤ 4000) (h : runesL s.data.toList = some ks) (hn : n = ks.length) : Calls Tryd.prog 9 #[.string s] w fun e w' => (∃ A c, e = .returned (.tuple #[.slice A n c, .int .i64 0]) ∧ IntsAt w' .i32 A n ks) ∧ Below w.heap.size w w' := by
  refine (runes_any s w hT hs).mono ?_
  rintro e w' ⟨h1, hb⟩
  rcases h1 with ⟨h2, _⟩ | ⟨ks', A, c, h2, he, ha⟩
  · rw [h] at h2; cases h2
  · rw [h] at h2
    obtain rfl := Option.some.inj h2
    rw [hn]
    exact ⟨⟨A, c, he, ha⟩, hb⟩
theorem encE_len {l : List Int} (hx : ∀ x ∈ l, 0 ≤ x ∧ x ≤ 1114111) : (encE l).1.length ≤ 60000 := by
  by_cases h : 4096 < l.length
  · rw [encE_long h]; simp
  · have ho := offB_no hx
    cases he : encO l with
    | none => rw [encE_over h ho he]; simp
    | some o =>
      rw [encE_ok h ho he]
      have := encO_len (by omega) hx he
      simp only
      omega
theorem runes_pts {t : List UInt8} {ks : List Int} (h : runesL t = some ks) : ∀ x ∈ ks, 0 ≤ x ∧ x ≤ 1114111 := by
  intro x hx
  have := (ptB_iff x).1 (List.all_eq_true.1 (textL_some (runes_text t.length t ks (Nat.le_refl _) h)).1 x hx)
  omega
theorem runes_ne {t : List UInt8} {ks : List Int} (h : runesL t = some ks) (ht : 0 < t.length) : 0 < ks.length := by
  have h2 := (textL_some (runes_text t.length t ks (Nat.le_refl _) h)).2
  apply Nat.pos_of_ne_zero
  intro h0
  obtain rfl := List.eq_nil_of_length_eq_zero h0
  simp at h2
  subst h2
  simp at ht
theorem sgn_app (p : List UInt8) : (⟨#[120, 110, 45, 45]⟩ : ByteArray) ++ ⟨p.toArray⟩ = ⟨(sgn ++ p).toArray⟩ := ba_app2 sgn p
theorem enc_str {ks : List Int} {x : Int} {sp : ByteArray} (h : sp = ⟨(encE ks).1.toArray⟩) : sp.size = (encE ks).1.length := by rw [h]; simp [ByteArray.size]
set_option maxHeartbeats 1000000 in
theorem write_any (s : ByteArray) (w : World) (hT : U8 w) (hs : s.size ≤ 4000) (h0 : 0 < s.size) :
    Calls Tryd.prog 48 #[.string s] w fun e w' => e = .returned (.tuple #[.string ⟨(wrtE s.data.toList).1.toArray⟩, .int .i64 (wrtE s.data.toList).2]) ∧ Below w.heap.size w w' := by
  have hsl : s.data.toList.length = s.size := by simp
  cases hr : runesL s.data.toList with
  | none =>
    have hru := runesNo_any s w hT hs hr
    have HRU := Lib.hid hru
    have hE := wrtE_none hr
    have HE := Lib.hid hE
    clear hru hE hr
    go_enter Tryd.func48, Tryd.ntmps48
    go_wp2_with fail
    ((with_reducible refine HRU.out.mono ?_))
    rintro e w1 ⟨rfl, hb1⟩
    go_wp2
    go_ret2
    exact ⟨ret_wrt HE.out, hb1⟩
  | some ks =>
    obtain ⟨n, hn⟩ : ∃ n, n = ks.length := ⟨_, rfl⟩
    have hru := runesYes_any s ks n w hT hs hr hn
    have HRU := Lib.hid hru
    have hk0 := runes_ne hr (by omega)
    have hkl := runesL_len s.data.toList.length s.data.toList ks (Nat.le_refl _) hr
    have hpts := runes_pts hr
    have hpl := encE_len hpts
    have hx : ∀ x ∈ ks, -2147483648 ≤ x ∧ x ≤ 2147483647 := fun x h => by have := hpts x h; omega
    have HX := Lib.hid hx
    have HR := Lib.hid hr
    have hn0 : 0 < n := by omega
    have hn1 : n ≤ 4000 := by omega
    obtain ⟨x, hxe⟩ : ∃ x, x = (encE ks).2 := ⟨_, rfl⟩
    obtain ⟨sp, hsp⟩ : ∃ sp : ByteArray, sp = ⟨(encE ks).1.toArray⟩ := ⟨_, rfl⟩
    have hspl := enc_str (x := x) hsp
    have HXE := Lib.hid hxe
    have HSP := Lib.hid hsp
    have HSL := Lib.hid hspl
    have hspz : sp.size ≤ 60000 := by omega
    clear hru hr hk0 hkl hpts hpl hx hn hxe hsp hspl hsl
    cases hf : fitB ks with
    | false =>
      have hE := wrtE_unfit HR.out hf
      have HE := Lib.hid hE
      clear hE
      go_enter Tryd.func48, Tryd.ntmps48
      go_wp2_with fail
      ((with_reducible refine HRU.out.mono ?_))
      rintro e w1 ⟨⟨A, c, rfl, hat⟩, hb1⟩
      go_wp2_with fail
      ((with_reducible refine (fit_any A n c ks w1 hat hn1 hn0).mono ?_))
      rintro e w2 ⟨rfl, rfl⟩
      rw [hf]
      go_wp2
      go_ret2
      exact ⟨ret_wrt HE.out, hb1⟩
    | true =>
      have HF := Lib.hid hf
      go_enter Tryd.func48, Tryd.ntmps48
      go_wp2_with fail
      ((with_reducible refine HRU.out.mono ?_))
      rintro e w1 ⟨⟨A, c, rfl, hat⟩, hb1⟩
      go_wp2_with fail
      ((with_reducible refine (fit_any A n c ks w1 hat hn1 hn0).mono ?_))
      rintro e w2 ⟨rfl, rfl⟩
      rw [hf]
      clear hf
      go_wp2_with fail
      ((with_reducible refine (encode_any w1 A n c ks hat (by omega) HX.out).mono ?_))
      rintro e w2 ⟨rfl, hb2⟩
      have HB := hb1.trans (hb2.mono hb1.size)
      rw [← HXE.out, ← HSP.out]
      by_cases hx0 : x = 0
      · by_cases hl : 59 < sp.size
        · have hE := wrtE_long HR.out HF.out (by rw [← HXE.out]; exact hx0) (by rw [← HSL.out]; exact hl)
          have HE := Lib.hid hE
          clear hE
          subst hx0
          go_wp2
          go_ret2
          exact ⟨ret_wrt HE.out, HB⟩
        · have hE := wrtE_ok HR.out HF.out (by rw [← HXE.out]; exact hx0) (by rw [← HSL.out]; exact hl)
          have HE := Lib.hid hE
          clear hE
          subst hx0
          go_wp2
          go_ret2
          refine ⟨?_, HB⟩
          rw [HE.out, HSP.out]
          exact ret_si (sgn_app _) rfl
      · have hE := wrtE_enc HR.out HF.out (by rw [← HXE.out]; exact hx0)
        rw [← HXE.out] at hE
        have HE := Lib.hid hE
        clear hE
        have hx1 : (x == 0) = false := by simpa using hx0
        go_wp2
        go_ret2
        exact ⟨ret_wrt HE.out, HB⟩
theorem low_size (s : ByteArray) : (⟨(s.data.toList.map lowB).toArray⟩ : ByteArray).size = s.size := by
  show (s.data.toList.map lowB).toArray.size = s.size
  rw [List.size_toArray, List.length_map]
  exact Array.length_toList
set_option maxHeartbeats 1000000 in
theorem toAscii_any (s : ByteArray) (w : World) (hT : U8 w) (hs : s.size ≤ 4000) :
    Calls Tryd.prog 32 #[.string s] w fun e w' => e = .returned (.tuple #[.string ⟨(asciiE s.data.toList).1.toArray⟩, .int .i64 (asciiE s.data.toList).2]) ∧ Below w.heap.size w w' := by
  obtain ⟨t, ht⟩ : ∃ t : ByteArray, t = ⟨(s.data.toList.map lowB).toArray⟩ := ⟨_, rfl⟩
  have htz : t.size = s.size := by rw [ht]; exact low_size s
  have htl : t.data.toList = s.data.toList.map lowB := by rw [ht]
  have HT := Lib.hid ht
  have HTL := Lib.hid htl
  clear ht htl
  cases hf : farB s.data.toList with
  | true =>
    have h0 : 0 < s.size := by
      apply Nat.pos_of_ne_zero
      intro h
      have : s.data.toList = [] := List.eq_nil_of_length_eq_zero (by simpa using h)
      rw [this] at hf
      simp [farB] at hf
    have hE := asciiE_far hf
    have HE := Lib.hid hE
    clear hE
    go_enter Tryd.func32, Tryd.ntmps32
    go_wp2_with fail
    ((with_reducible refine (lower_any s w hs).mono ?_))
    rintro e w1 ⟨rfl, hb1⟩
    rw [← HT.out]
    go_wp2_with fail
    ((with_reducible refine (far_any s w1 (by omega)).mono ?_))
    rintro e w2 ⟨rfl, hb2⟩
    have HB := hb1.trans (hb2.mono hb1.size)
    rw [hf]
    go_wp2_with fail
    ((with_reducible refine (write_any t w2 (hT.below HB) (by omega) (by omega)).mono ?_))
    rintro e w3 ⟨rfl, hb3⟩
    rw [HTL.out, ← HE.out]
    go_wp2
    go_ret2
    exact ⟨rfl, HB.trans (hb3.mono HB.size)⟩
  | false =>
    cases hh : hostB s.data.toList with
    | true =>
      have hE := asciiE_host hf hh
      have HE := Lib.hid hE
      clear hE
      go_enter Tryd.func32, Tryd.ntmps32
      go_wp2_with fail
      ((with_reducible refine (lower_any s w hs).mono ?_))
      rintro e w1 ⟨rfl, hb1⟩
      rw [← HT.out]
      go_wp2_with fail
      ((with_reducible refine (far_any s w1 (by omega)).mono ?_))
      rintro e w2 ⟨rfl, hb2⟩
      have HB := hb1.trans (hb2.mono hb1.size)
      rw [hf]
      go_wp2_with fail
      ((with_reducible refine (host_any s w2 (by omega)).mono ?_))
      rintro e w3 ⟨rfl, hb3⟩
      rw [hh]
      go_wp2
      go_ret2
      rw [HT.out]
      exact ⟨ret_asc HE.out, HB.trans (hb3.mono HB.size)⟩
    | false =>
      have hE := asciiE_bad hf hh
      have HE := Lib.hid hE
      clear hE
      go_enter Tryd.func32, Tryd.ntmps32
      go_wp2_with fail
      ((with_reducible refine (lower_any s w hs).mono ?_))
      rintro e w1 ⟨rfl, hb1⟩
      rw [← HT.out]
      go_wp2_with fail
      ((with_reducible refine (far_any s w1 (by omega)).mono ?_))
      rintro e w2 ⟨rfl, hb2⟩
      have HB := hb1.trans (hb2.mono hb1.size)
      rw [hf]
      go_wp2_with fail
      ((with_reducible refine (host_any s w2 (by omega)).mono ?_))
      rintro e w3 ⟨rfl, hb3⟩
      rw [hh]
      go_wp2
      go_ret2
      exact ⟨ret_asc HE.out, HB.trans (hb3.mono HB.size)⟩
end Go.Proofs.YtbcnnjifndmdpaaDoor
namespace Go.Proofs.YtbcnnjifndmdpaaDoor
open Go.RowKit Go
set_option linter.unusedVariables false
theorem pre_iff (t : List UInt8) : Lib.hasPrefix t sgn = true ↔ t.take 4 = sgn := by
  unfold Lib.hasPrefix
  rw [List.isPrefixOf_iff_prefix, List.prefix_iff_eq_take]
  constructor
  · intro h; exact h.symm
  · intro h; exact h.symm
theorem cutYes_any (t : ByteArray) (w : World) (h : t.data.toList.take 4 = sgn) : Calls Tryd.prog 18 #[.string t, .string ⟨#[120, 110, 45, 45]⟩] w fun e w' => e = .returned (.tuple #[.string ⟨(t.data.toList.drop 4).toArray⟩, .bool true]) ∧ w = w' := by
  refine (Tryd.strings_CutPrefix t ⟨#[120, 110, 45, 45]⟩ w).mono ?_
  rintro e w' ⟨rfl, rfl⟩
  have hp := (pre_iff t.data.toList).2 h
  have hq : (⟨#[120, 110, 45, 45]⟩ : ByteArray).data.toList = sgn := rfl
  rw [hq]
  unfold Lib.trimPrefix
  rw [hp, if_pos rfl]
  exact ⟨rfl, rfl⟩
theorem cutNo_any (t : ByteArray) (w : World) (h : ¬ t.data.toList.take 4 = sgn) : Calls Tryd.prog 18 #[.string t, .string ⟨#[120, 110, 45, 45]⟩] w fun e w' => e = .returned (.tuple #[.string t, .bool false]) ∧ w = w' := by
  refine (Tryd.strings_CutPrefix t ⟨#[120, 110, 45, 45]⟩ w).mono ?_
  rintro e w' ⟨rfl, rfl⟩
  have hp : Lib.hasPrefix t.data.toList sgn = false := by
    cases hh : Lib.hasPrefix t.data.toList sgn with
    | false => rfl
    | true => exact absurd ((pre_iff _).1 hh) h
  have hq : (⟨#[120, 110, 45, 45]⟩ : ByteArray).data.toList = sgn := rfl
  rw [hq]
  unfold Lib.trimPrefix
  rw [hp, if_neg (by simp)]
  exact ⟨rfl, rfl⟩
theorem decOk_any (s : ByteArray) (l : List Int) (n : Nat) (w : World) (hs : s.size ≤ 9223372036854775806) (hd : decE s.data.toList = (l, 0)) (hn : n = l.length) : Calls Tryd.prog 54 #[.string s] w fun e w' => (∃ A c, e = .returned (.tuple #[.slice A n c, .int .i64 0]) ∧ IntsAt w' .i32 A n l) ∧ Below w.heap.size w w' := by
  refine (decode_any s w hs).mono ?_
  rintro e w' ⟨hb, A, c, he, ha⟩
  rw [hd] at he ha
  rw [hn]
  exact ⟨⟨A, c, he, ha⟩, hb⟩
theorem decBad_any (s : ByteArray) (x : Int) (w : World) (hs : s.size ≤ 9223372036854775806) (hd : (decE s.data.toList).2 = x) : Calls Tryd.prog 54 #[.string s] w fun e w' => (∃ A n c, e = .returned (.tuple #[.slice A n c, .int .i64 x])) ∧ Below w.heap.size w w' := by
  refine (decode_any s w hs).mono ?_
  rintro e w' ⟨hb, A, c, he, ha⟩
  rw [hd] at he
  exact ⟨⟨A, _, c, he⟩, hb⟩
theorem read_any (s : ByteArray) (l : List Int) (w : World) (hs : s.size ≤ 4000) (hd : decE s.data.toList = (l, 0)) :
    Calls Tryd.prog 38 #[.string s] w fun e w' => e = .returned (.tuple #[.string (textS l), .int .i64 (textE l)]) ∧ Below w.heap.size w w' := by
  obtain ⟨n, hn⟩ : ∃ n, n = l.length := ⟨_, rfl⟩
  have hdc := decOk_any s l n w (by omega) hd hn
  have HDC := Lib.hid hdc
  have hsl : s.data.toList.length = s.size := by simp
  have hlen := decE_len s.data.toList
  have hok := decE_ok s.data.toList
  rw [hd] at hlen hok
  have hx : ∀ x ∈ l, -2147483648 ≤ x ∧ x ≤ 2147483647 := fun x h => by have := hok.2 x h; omega
  have HX := Lib.hid hx
  have hn1 : n ≤ 4000 := by simp only at hlen; omega
  clear hdc hlen hok hx hd hn hsl
  go_enter Tryd.func38, Tryd.ntmps38
  go_wp2_with fail
  ((with_reducible refine HDC.out.mono ?_))
  rintro e w1 ⟨⟨A, c, rfl, hat⟩, hb1⟩
  go_wp2_with fail
  ((with_reducible refine (text_any A n c l w1 hat hn1 HX.out).mono ?_))
  rintro e w2 ⟨rfl, hb2⟩
  go_wp2
  go_ret2
  exact ⟨rfl, hb1.trans (hb2.mono hb1.size)⟩
theorem readBad_any (s : ByteArray) (x : Int) (w : World) (hs : s.size ≤ 4000) (hd : (decE s.data.toList).2 = x) (hx : x ≠ 0) :
    Calls Tryd.prog 38 #[.string s] w fun e w' => e = .returned (.tuple #[.string ⟨#[]⟩, .int .i64 x]) ∧ Below w.heap.size w w' := by
  have hdc := decBad_any s x w (by omega) hd
  have HDC := Lib.hid hdc
  have hx1 : (x == 0) = false := by simpa using hx
  clear hdc hd
  go_enter Tryd.func38, Tryd.ntmps38
  go_wp2_with fail
  ((with_reducible refine HDC.out.mono ?_))
  rintro e w1 ⟨⟨A, n, c, rfl⟩, hb1⟩
  go_wp2
  go_ret2
  exact ⟨rfl, hb1⟩
/-- which way a text goes -/
def Way (s t : List UInt8) : Prop :=
  ((hostB t = false ∨ ¬ t.take 4 = sgn) ∧ uniE s = s) ∨
  (hostB t = true ∧ t.take 4 = sgn ∧ ∃ x : Int, (decE (t.drop 4)).2 = x ∧ x ≠ 0 ∧ uniE s = s) ∨
  (hostB t = true ∧ t.take 4 = sgn ∧ ∃ l, decE (t.drop 4) = (l, 0) ∧ textL l = none ∧ uniE s = s) ∨
  (hostB t = true ∧ t.take 4 = sgn ∧ ∃ l, decE (t.drop 4) = (l, 0) ∧ ∃ u, textL l = some u ∧ u.length ≤ 300 ∧ ∃ x : Int, (asciiE u).2 = x ∧ x ≠ 0 ∧ uniE s = s) ∨
  (hostB t = true ∧ t.take 4 = sgn ∧ ∃ l, decE (t.drop 4) = (l, 0) ∧ ∃ u, textL l = some u ∧ u.length ≤ 300 ∧ ∃ b, asciiE u = (b, 0) ∧ b ≠ t ∧ uniE s = s) ∨
  (hostB t = true ∧ t.take 4 = sgn ∧ ∃ l, decE (t.drop 4) = (l, 0) ∧ ∃ u, textL l = some u ∧ u.length ≤ 300 ∧ asciiE u = (t, 0) ∧ uniE s = u)
theorem way (s : List UInt8) : Way s (s.map lowB) := by
  unfold Way
  cases hh : hostB (s.map lowB) with
  | false => exact .inl ⟨.inl rfl, uniE_plain (by simp [hh])⟩
  | true =>
    by_cases hp : (s.map lowB).take 4 = sgn
    · by_cases hd : (decE ((s.map lowB).drop 4)).2 = 0
      · have hd2 : decE ((s.map lowB).drop 4) = ((decE ((s.map lowB).drop 4)).1, 0) := by rw [← hd]
        cases ht : textL (decE ((s.map lowB).drop 4)).1 with
        | none => exact .inr (.inr (.inl ⟨rfl, hp, _, hd2, ht, uniE_none hh hp hd ht⟩))
        | some u =>
          have hul : u.length ≤ 300 := by
            obtain ⟨_, rfl⟩ := textL_some ht
            have := flat_len (decE ((s.map lowB).drop 4)).1
            have h5 := decE_len ((s.map lowB).drop 4)
            have h6 := ((hostB_iff _).1 hh).2.1
            rw [List.length_drop] at h5
            omega
          by_cases ha : (asciiE u).2 = 0
          · have ha2 : asciiE u = ((asciiE u).1, 0) := by rw [← ha]
            by_cases hb : (asciiE u).1 = s.map lowB
            · rw [hb] at ha2
              exact .inr (.inr (.inr (.inr (.inr ⟨rfl, hp, _, hd2, u, ht, hul, ha2, uniE_yes hh hp hd ht ha2⟩))))
            · refine .inr (.inr (.inr (.inr (.inl ⟨rfl, hp, _, hd2, u, ht, hul, _, ha2, hb, uniE_no hh hp hd ht ?_⟩))))
              intro h
              rw [h] at hb
              exact hb rfl
          · refine .inr (.inr (.inr (.inl ⟨rfl, hp, _, hd2, u, ht, hul, _, rfl, ha, uniE_no hh hp hd ht ?_⟩)))
            intro h
            rw [h] at ha
            exact ha rfl
      · exact .inr (.inl ⟨rfl, hp, _, rfl, hd, uniE_dec hh hp hd⟩)
    · exact .inl ⟨.inr hp, uniE_plain (by simp [hp])⟩
theorem ba_self (s : ByteArray) : (⟨s.data.toList.toArray⟩ : ByteArray) = s := rfl
theorem ret_uni {s : ByteArray} (h : uniE s.data.toList = s.data.toList) : Ending.returned (.string s) = .returned (.string ⟨(uniE s.data.toList).toArray⟩) := by rw [h]
theorem ret_uni2 {s : ByteArray} {u : List UInt8} (h : uniE s.data.toList = u) : Ending.returned (.string ⟨u.toArray⟩) = .returned (.string ⟨(uniE s.data.toList).toArray⟩) := by rw [h]
theorem ba_size (l : List UInt8) : (⟨l.toArray⟩ : ByteArray).size = l.length := by show l.toArray.size = _; simp
theorem asc_at {u b : List UInt8} {x : Int} (w : World) (hT : U8 w) (hu : u.length ≤ 300) (h : asciiE u = (b, x)) : Calls Tryd.prog 32 #[.string ⟨u.toArray⟩] w fun e w' => e = .returned (.tuple #[.string ⟨b.toArray⟩, .int .i64 x]) ∧ Below w.heap.size w w' := by
  refine (toAscii_any ⟨u.toArray⟩ w hT (by rw [ba_size]; omega)).mono ?_
  rintro e w' ⟨rfl, hb⟩
  have : (⟨u.toArray⟩ : ByteArray).data.toList = u := rfl
  rw [this, h]
  exact ⟨rfl, hb⟩
theorem ba_ne {a t : ByteArray} (h : a.data.toList ≠ t.data.toList) : (a.toList == t.toList) = false := by
  rw [ByteArray.toList_eq, ByteArray.toList_eq]
  simpa using h
theorem text_no {l : List Int} (h : textL l = Option.none) : textS l = ⟨#[]⟩ ∧ textE l = 4 := textS_no h
theorem drop_size (t : ByteArray) : (⟨(t.data.toList.drop 4).toArray⟩ : ByteArray).size ≤ t.size := by
  rw [ba_size, List.length_drop]
  have : t.data.toList.length = t.size := by simp
  omega
set_option maxHeartbeats 4000000 in
theorem toUni_any (s : ByteArray) (w : World) (hT : U8 w) (hs : s.size ≤ 4000) :
    Calls Tryd.prog 16 #[.string s] w fun e w' => e = .returned (.string ⟨(uniE s.data.toList).toArray⟩) ∧ Below w.heap.size w w' := by
  obtain ⟨t, ht⟩ : ∃ t : ByteArray, t = ⟨(s.data.toList.map lowB).toArray⟩ := ⟨_, rfl⟩
  have htz : t.size = s.size := by rw [ht]; exact low_size s
  have htl : t.data.toList = s.data.toList.map lowB := by rw [ht]
  have HW := way s.data.toList
  have hl := lower_any s w hs
  rw [← ht] at hl
  rw [← htl] at HW
  have HL := Lib.hid hl
  clear hl ht htl
  obtain ⟨r, hr⟩ : ∃ r : ByteArray, r = ⟨(t.data.toList.drop 4).toArray⟩ := ⟨_, rfl⟩
  have hrz : r.size ≤ t.size := by rw [hr]; exact drop_size t
  have hrl : r.data.toList = t.data.toList.drop 4 := by rw [hr]
  have hcy := fun w h => cutYes_any t w h
  rw [← hr] at hcy
  have HCY := Lib.hid hcy
  have HRL := Lib.hid hrl
  clear hcy hr hrl
  rcases HW with ⟨h, e⟩ | ⟨hh, hp, x, d, hx, e⟩ | ⟨hh, hp, l, d, tx, e⟩ | ⟨hh, hp, l, d, u, tx, hu, x, a, hx, e⟩ | ⟨hh, hp, l, d, u, tx, hu, b, a, hb, e⟩ | ⟨hh, hp, l, d, u, tx, hu, a, e⟩
  · skip
    have HE := Lib.hid e
    clear e
    by_cases hp : t.data.toList.take 4 = sgn
    · have hh : hostB t.data.toList = false := by
        rcases h with h | h
        · exact h
        · exact absurd hp h
      have hc := fun w => HCY.out w hp
      have HC := Lib.hid hc
      clear hc hp h
      go_enter Tryd.func16, Tryd.ntmps16
      go_wp2_with fail
      ((with_reducible refine HL.out.mono ?_))
      rintro e w1 ⟨rfl, hb1⟩
      go_wp2_with fail
      ((with_reducible refine (HC.out w1).mono ?_))
      rintro e w2 ⟨rfl, rfl⟩
      go_wp2_with fail
      ((with_reducible refine (host_any t w1 (by omega)).mono ?_))
      rintro e w2 ⟨rfl, hb2⟩
      rw [hh]
      go_wp2
      go_ret
      exact ⟨ret_uni HE.out, hb1.trans (hb2.mono hb1.size)⟩
    · have hc := fun w => cutNo_any t w hp
      have HC := Lib.hid hc
      clear hc hp h
      go_enter Tryd.func16, Tryd.ntmps16
      go_wp2_with fail
      ((with_reducible refine HL.out.mono ?_))
      rintro e w1 ⟨rfl, hb1⟩
      go_wp2_with fail
      ((with_reducible refine (HC.out w1).mono ?_))
      rintro e w2 ⟨rfl, rfl⟩
      go_wp2
      go_ret
      exact ⟨ret_uni HE.out, hb1⟩
  · skip
    have HE := Lib.hid e
    rw [← HRL.out] at d
    have hrd := fun w => readBad_any r x w (by omega) d hx
    have HRD := Lib.hid hrd
    have hc := fun w => HCY.out w hp
    have HC := Lib.hid hc
    have hx1 : (x == 0) = false := by simpa using hx
    clear hc hp hrd d e
    go_enter Tryd.func16, Tryd.ntmps16
    go_wp2_with fail
    ((with_reducible refine HL.out.mono ?_))
    rintro e w1 ⟨rfl, hb1⟩
    go_wp2_with fail
    ((with_reducible refine (HC.out w1).mono ?_))
    rintro e w2 ⟨rfl, rfl⟩
    go_wp2_with fail
    ((with_reducible refine (host_any t w1 (by omega)).mono ?_))
    rintro e w2 ⟨rfl, hb2⟩
    have HB2 := hb1.trans (hb2.mono hb1.size)
    rw [hh]
    go_wp2_with fail
    ((with_reducible refine (HRD.out w2).mono ?_))
    rintro e w3 ⟨rfl, hb3⟩
    go_wp2
    go_ret
    exact ⟨ret_uni HE.out, HB2.trans (hb3.mono HB2.size)⟩
  · skip
    have HE := Lib.hid e
    rw [← HRL.out] at d
    have hrd := fun w => read_any r l w (by omega) d
    rw [(text_no tx).1, (text_no tx).2] at hrd
    have HRD := Lib.hid hrd
    have hc := fun w => HCY.out w hp
    have HC := Lib.hid hc
    clear hc hp hrd d e tx
    go_enter Tryd.func16, Tryd.ntmps16
    go_wp2_with fail
    ((with_reducible refine HL.out.mono ?_))
    rintro e w1 ⟨rfl, hb1⟩
    go_wp2_with fail
    ((with_reducible refine (HC.out w1).mono ?_))
    rintro e w2 ⟨rfl, rfl⟩
    go_wp2_with fail
    ((with_reducible refine (host_any t w1 (by omega)).mono ?_))
    rintro e w2 ⟨rfl, hb2⟩
    have HB2 := hb1.trans (hb2.mono hb1.size)
    rw [hh]
    go_wp2_with fail
    ((with_reducible refine (HRD.out w2).mono ?_))
    rintro e w3 ⟨rfl, hb3⟩
    go_wp2
    go_ret
    exact ⟨ret_uni HE.out, HB2.trans (hb3.mono HB2.size)⟩
  · skip
    have HE := Lib.hid e
    rw [← HRL.out] at d
    have hrd := fun w => read_any r l w (by omega) d
    rw [(textS_yes tx).1, (textS_yes tx).2] at hrd
    have HRD := Lib.hid hrd
    have hc := fun w => HCY.out w hp
    have HC := Lib.hid hc
    have hx1 : (x == 0) = false := by simpa using hx
    obtain ⟨b, hb⟩ : ∃ b, b = (asciiE u).1 := ⟨_, rfl⟩
    have ha := fun w hT => asc_at (b := b) (x := x) w hT hu (by rw [hb, ← a])
    obtain ⟨U, hU⟩ : ∃ U : ByteArray, U = ⟨u.toArray⟩ := ⟨_, rfl⟩
    obtain ⟨B, hB⟩ : ∃ B : ByteArray, B = ⟨b.toArray⟩ := ⟨_, rfl⟩
    rw [← hU] at ha HRD
    rw [← hB] at ha
    have HA := Lib.hid ha
    clear hc hp hrd d e tx ha a hb hU hB
    go_enter Tryd.func16, Tryd.ntmps16
    go_wp2_with fail
    ((with_reducible refine HL.out.mono ?_))
    rintro e w1 ⟨rfl, hb1⟩
    go_wp2_with fail
    ((with_reducible refine (HC.out w1).mono ?_))
    rintro e w2 ⟨rfl, rfl⟩
    go_wp2_with fail
    ((with_reducible refine (host_any t w1 (by omega)).mono ?_))
    rintro e w2 ⟨rfl, hb2⟩
    have HB2 := hb1.trans (hb2.mono hb1.size)
    rw [hh]
    go_wp2_with fail
    ((with_reducible refine (HRD.out w2).mono ?_))
    rintro e w3 ⟨rfl, hb3⟩
    have HB3 := HB2.trans (hb3.mono HB2.size)
    go_wp2_with fail
    ((with_reducible refine (HA.out w3 (hT.below HB3)).mono ?_))
    rintro e w4 ⟨rfl, hb4⟩
    go_wp2
    go_ret
    exact ⟨ret_uni HE.out, HB3.trans (hb4.mono HB3.size)⟩
  · skip
    have HE := Lib.hid e
    rw [← HRL.out] at d
    have hrd := fun w => read_any r l w (by omega) d
    rw [(textS_yes tx).1, (textS_yes tx).2] at hrd
    have HRD := Lib.hid hrd
    have hc := fun w => HCY.out w hp
    have HC := Lib.hid hc
    have ha := fun w hT => asc_at w hT hu a
    obtain ⟨U, hU⟩ : ∃ U : ByteArray, U = ⟨u.toArray⟩ := ⟨_, rfl⟩
    obtain ⟨B, hB⟩ : ∃ B : ByteArray, B = ⟨b.toArray⟩ := ⟨_, rfl⟩
    have hne : (B.toList == t.toList) = false := ba_ne (by rw [hB]; exact hb)
    rw [← hU] at ha HRD
    rw [← hB] at ha
    have HA := Lib.hid ha
    clear hc hp hrd d e tx ha a hb hU hB
    go_enter Tryd.func16, Tryd.ntmps16
    go_wp2_with fail
    ((with_reducible refine HL.out.mono ?_))
    rintro e w1 ⟨rfl, hb1⟩
    go_wp2_with fail
    ((with_reducible refine (HC.out w1).mono ?_))
    rintro e w2 ⟨rfl, rfl⟩
    go_wp2_with fail
    ((with_reducible refine (host_any t w1 (by omega)).mono ?_))
    rintro e w2 ⟨rfl, hb2⟩
    have HB2 := hb1.trans (hb2.mono hb1.size)
    rw [hh]
    go_wp2_with fail
    ((with_reducible refine (HRD.out w2).mono ?_))
    rintro e w3 ⟨rfl, hb3⟩
    have HB3 := HB2.trans (hb3.mono HB2.size)
    go_wp2_with fail
    ((with_reducible refine (HA.out w3 (hT.below HB3)).mono ?_))
    rintro e w4 ⟨rfl, hb4⟩
    go_wp2
    go_ret
    exact ⟨ret_uni HE.out, HB3.trans (hb4.mono HB3.size)⟩
  · skip
    have HE := Lib.hid e
    rw [← HRL.out] at d
    have hrd := fun w => read_any r l w (by omega) d
    rw [(textS_yes tx).1, (textS_yes tx).2] at hrd
    have HRD := Lib.hid hrd
    have hc := fun w => HCY.out w hp
    have HC := Lib.hid hc
    have ha := fun w hT => asc_at w hT hu a
    rw [ba_self] at ha
    obtain ⟨U, hU⟩ : ∃ U : ByteArray, U = ⟨u.toArray⟩ := ⟨_, rfl⟩
    rw [← hU] at ha HRD
    have HU := Lib.hid hU
    have HA := Lib.hid ha
    clear hc hp hrd d e tx ha a hU
    go_enter Tryd.func16, Tryd.ntmps16
    go_wp2_with fail
    ((with_reducible refine HL.out.mono ?_))
    rintro e w1 ⟨rfl, hb1⟩
    go_wp2_with fail
    ((with_reducible refine (HC.out w1).mono ?_))
    rintro e w2 ⟨rfl, rfl⟩
    go_wp2_with fail
    ((with_reducible refine (host_any t w1 (by omega)).mono ?_))
    rintro e w2 ⟨rfl, hb2⟩
    have HB2 := hb1.trans (hb2.mono hb1.size)
    rw [hh]
    go_wp2_with fail
    ((with_reducible refine (HRD.out w2).mono ?_))
    rintro e w3 ⟨rfl, hb3⟩
    have HB3 := HB2.trans (hb3.mono HB2.size)
    go_wp2_with fail
    ((with_reducible refine (HA.out w3 (hT.below HB3)).mono ?_))
    rintro e w4 ⟨rfl, hb4⟩
    go_wp2
    go_ret
    rw [HU.out]
    exact ⟨ret_uni2 HE.out, HB3.trans (hb4.mono HB3.size)⟩
end Go.Proofs.YtbcnnjifndmdpaaDoor
