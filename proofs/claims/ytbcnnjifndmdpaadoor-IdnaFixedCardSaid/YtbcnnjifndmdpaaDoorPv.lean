/- Texts behind a law of this seat, in order: Dom4. -/
import Derived.Test.YtbcnnjifndmdpaaDoorPa
import Derived.Test.YtbcnnjifndmdpaaDoorPb
import Derived.Test.YtbcnnjifndmdpaaDoorPe
import Derived.Test.YtbcnnjifndmdpaaDoorPp
import Derived.Test.YtbcnnjifndmdpaaDoorPs
import Derived.Test.YtbcnnjifndmdpaaDoorPu
import Derived.BigQuiet
import Derived.Deep.QuietTactic
import Derived.Handed
import Derived.Handy
import Derived.Lib.Bytealg
import Derived.Lib.Hide
import Derived.Lib.Join
import Derived.Lib.Strings
import Derived.Shelf.LaysM
import Derived.Shelf.Small.Strs
import Derived.Shelf.Small.Utf8
import Derived.Shelf.Small.Wraps
import Derived.Shelf.Strings.Builder1
import Derived.Shelf.Strings.Builder2
import Derived.Shelf.Strings.Builder2Cap
import Derived.Shelf.Strings.BuilderCap
import Derived.Shelf.Strings.BuilderF
import Derived.Shelf.Strings.BuilderK
import Derived.Shelf.Strings.BuilderRune
import Derived.Shelf.Strings.Count
import Derived.Shelf.Strings.MapAny
import Derived.Shelf.Strings.OnBuilder
import Derived.Shelf.Strings.Prefix
import Derived.Shelf.Strings.Search1
import Derived.Shelf.Strings.Search2
import Derived.Shelf.Strings.Search3
import Derived.Shelf.Strings.Shaped
import Derived.Shelf.Strings.Split
import Derived.Shelf.Strings.SplitShaped
import Derived.Shelf.Unicode.Decode
import Derived.Shelf.Unicode.DecodeAny
import Derived.Shelf.Unicode.DecodeSlow
import Derived.Shelf.Utf8.AppendRunePlain
import Derived.SizedLaws
import Derived.SliceStrings
import Derived.Test.YtbcnnjifndmdpaaDoorProg
import Derived.WalkKit
import Derived.WalkLawsBesides
import Derived.WalkSpells
namespace Go.Proofs.YtbcnnjifndmdpaaDoor
open Go.RowKit Go
set_option linter.unusedVariables false
def sgB (s : ByteArray) : Option (UInt8 × Nat) := match s.data.toList with
  | [] => none
  | x :: r => sgL x r
theorem sgB_plain (s : ByteArray) (h0 : 0 < s.size) (h : s[0].toNat ≠ 92) : sgB s = some (s[0], 0) := by
  obtain ⟨⟨l⟩⟩ := s
  match l, h0, h with
  | x :: r, _, h => exact if_neg h
theorem sgB_alone (s : ByteArray) (h0 : 0 < s.size) (h : s[0].toNat = 92) (h1 : s.size = 1) : sgB s = none := by
  obtain ⟨⟨l⟩⟩ := s
  match l, h0, h, h1 with
  | [x], _, h, _ => exact if_pos h
theorem sgB_esc (s : ByteArray) (h0 : 0 < s.size) (h : s[0].toNat = 92) (h1 : 1 < s.size) (h2 : digB s[1] = false) : sgB s = some (s[1], 1) := by
  obtain ⟨⟨l⟩⟩ := s
  match l, h0, h, h1, h2 with
  | x :: y :: r, _, h, _, h2 =>
    have h : x.toNat = 92 := h
    have h2 : digB y = false := h2
    show sgL x (y :: r) = some (y, 1)
    unfold sgL
    rw [if_pos h, escL_cons, if_pos h2]; rfl
theorem sgB_short (s : ByteArray) (h0 : 0 < s.size) (h : s[0].toNat = 92) (h1 : 1 < s.size) (h2 : digB s[1] = true) (h3 : s.size ≤ 3) : sgB s = none := by
  obtain ⟨⟨l⟩⟩ := s
  match l, h0, h, h1, h2, h3 with
  | x :: y :: r, _, h, _, h2, h3 =>
    show sgL x (y :: r) = none
    have h : x.toNat = 92 := h
    have h4 : r.length < 2 := by
      have : (x :: y :: r).length ≤ 3 := h3
      simp at this; omega
    have h2 : digB y = true := h2
    unfold sgL
    rw [if_pos h, escL_cons, if_neg (by rw [h2]; simp), if_pos h4]; rfl
theorem sgB_num (s : ByteArray) (h0 : 0 < s.size) (h : s[0].toNat = 92) (h1 : 3 < s.size) (h2 : digB s[1] = true) :
    sgB s = if digsB (s.extract 1 4).data.toList = true ∧ numL (s.extract 1 4).data.toList ≤ 255 then some (UInt8.ofNat (numL (s.extract 1 4).data.toList), 3) else none := by
  obtain ⟨⟨l⟩⟩ := s
  match l, h0, h, h1, h2 with
  | x :: y :: z :: u :: r, _, h, _, h2 =>
    have e : ((⟨⟨x :: y :: z :: u :: r⟩⟩ : ByteArray).extract 1 4).data.toList = [y, z, u] := by simp
    rw [e]
    show sgL x (y :: z :: u :: r) = _
    have h : x.toNat = 92 := h
    have h2 : digB y = true := h2
    have h4 : ¬ (z :: u :: r).length < 2 := by simp
    unfold sgL
    rw [if_pos h, escL_cons, if_neg (by rw [h2]; simp), if_neg h4]
    show Option.map _ (if digsB [y, z, u] = true ∧ numL [y, z, u] ≤ 255 then some (UInt8.ofNat (numL [y, z, u]), 2) else none) = _
    by_cases hh : digsB [y, z, u] = true ∧ numL [y, z, u] ≤ 255
    · rw [if_pos hh, if_pos hh]; rfl
    · rw [if_neg hh, if_neg hh]; rfl
def NextP (s : ByteArray) (e : Ending) : Prop := (sgB s = none ∧ ∃ a b, e = .returned (.tuple #[.int .u8 a, .int .i64 b, .bool false])) ∨ (∃ c k, sgB s = some (c, k) ∧ e = .returned (.tuple #[.int .u8 c.toNat, .int .i64 (k + 1), .bool true]))
theorem nextP_no {s : ByteArray} (h : sgB s = none) (a b : Int) : NextP s (.returned (.tuple #[.int .u8 a, .int .i64 b, .bool false])) := .inl ⟨h, a, b, rfl⟩
theorem nextP_yes {s : ByteArray} {c : UInt8} {k : Nat} (h : sgB s = some (c, k)) {a b : Int} (ha : a = c.toNat) (hb : b = k + 1) : NextP s (.returned (.tuple #[.int .u8 a, .int .i64 b, .bool true])) := .inr ⟨c, k, h, by rw [ha, hb]⟩
set_option maxHeartbeats 1000000 in
theorem dNext_any (s : ByteArray) (w : World) (hs0 : 0 < s.size) (hs : s.size ≤ 4000) :
    Calls Tryd.prog 39 #[.string s] w fun e w' => NextP s e ∧ w = w' := by
  have hc0 := s[0].toNat_lt
  by_cases h0 : s[0].toNat = 92
  · have t0 : ((s[0].toNat : Int) == 92) = true := by simp; omega
    by_cases h1 : s.size = 1
    · have H := Lib.hid (sgB_alone s hs0 h0 h1)
      have t1 : ((s.size : Int) == 1) = true := by simp; omega
      clear h0
      go_enter Tryd.func39, Tryd.ntmps39
      go_wp2_with fail
      go_ret3
      exact ⟨nextP_no H.out _ _, rfl⟩
    · have t1 : ((s.size : Int) == 1) = false := by simp; omega
      have h1 : 1 < s.size := by omega
      have hc1 := s[1].toNat_lt
      by_cases h2 : digB s[1] = true
      · have h3 : 48 ≤ s[1].toNat ∧ s[1].toNat ≤ 57 := by unfold digB at h2; simpa using h2
        have t2 : ¬ ((s[1].toNat : Int) < 48) := by omega
        have t3 : ¬ (57 < (s[1].toNat : Int)) := by omega
        by_cases h4 : s.size ≤ 3
        · have H := Lib.hid (sgB_short s hs0 h0 h1 h2 h4)
          have t4 : (s.size : Int) ≤ 3 := by omega
          clear h0 h2 h3
          go_enter Tryd.func39, Tryd.ntmps39
          go_wp2_with fail
          go_ret3
          exact ⟨nextP_no H.out _ _, rfl⟩
        · have H := Lib.hid (sgB_num s hs0 h0 (by omega) h2)
          have t4 : ¬ ((s.size : Int) ≤ 3) := by omega
          have h5 : 4 ≤ s.size := by omega
          have hnum := number_any (s.extract 1 4) 255 w (by simp [ByteArray.size_extract]; omega) (by decide) (by decide)
          have HN := Lib.hid hnum
          clear h0 h2 h3 h4 hnum
          go_enter Tryd.func39, Tryd.ntmps39
          go_wp2_with fail
          with_reducible refine HN.out.mono ?_
          rintro e w1 ⟨hp, rfl⟩
          rcases hp with ⟨hd, rfl⟩ | ⟨hd, hm, rfl⟩ | ⟨hd, hm, rfl⟩
          · have H2 := Lib.hid (H.out.trans (if_neg (by rw [hd]; simp)))
            clear H hd
            go_wp2_with fail
            go_ret3
            exact ⟨nextP_no H2.out _ _, rfl⟩
          · have H2 := Lib.hid (H.out.trans (if_neg (fun h => by have := h.2; omega)))
            clear H hd hm
            go_wp2_with fail
            go_ret3
            exact ⟨nextP_no H2.out _ _, rfl⟩
          · have hm2 : numL (s.extract 1 4).data.toList ≤ 255 := by omega
            have H2 := Lib.hid (H.out.trans (if_pos ⟨hd, hm2⟩))
            clear H hd hm
            obtain ⟨m, hmm⟩ : ∃ m, m = numL (s.extract 1 4).data.toList := ⟨_, rfl⟩
            rw [← hmm] at H2 hm2 ⊢
            clear hmm
            go_wp2_with fail
            go_ret3
            exact ⟨nextP_yes H2.out (by rw [UInt8.toNat_ofNat_of_lt' (by simp [UInt8.size]; omega)]; try go_arith) (by simp), rfl⟩
      · have h2 : digB s[1] = false := by simpa using h2
        have H := Lib.hid (sgB_esc s hs0 h0 h1 h2)
        have h3 : ¬ (48 ≤ s[1].toNat ∧ s[1].toNat ≤ 57) := by unfold digB at h2; simpa using h2
        have t2 : ((s[1].toNat : Int) < 48) ∨ (57 < (s[1].toNat : Int)) := by omega
        clear h0 h2 h3
        rcases t2 with t2 | t2
        all_goals
          go_enter Tryd.func39, Tryd.ntmps39
          go_wp2_with fail
          go_ret3
          exact ⟨nextP_yes H.out rfl rfl, rfl⟩
  · have t0 : ((s[0].toNat : Int) == 92) = false := by simp; omega
    have H := Lib.hid (sgB_plain s hs0 h0)
    clear h0
    go_enter Tryd.func39, Tryd.ntmps39
    go_wp2_with fail
    go_ret3
    exact ⟨nextP_yes H.out rfl rfl, rfl⟩
theorem escL_len (r : List UInt8) (c : UInt8) (k : Nat) (h : escL r = some (c, k)) : k + 1 ≤ r.length := by
  match r, h with
  | x :: r, h =>
    rw [escL_cons] at h
    by_cases h1 : digB x = false
    · rw [if_pos h1] at h; simp at h; simp; omega
    · rw [if_neg h1] at h
      by_cases h2 : r.length < 2
      · rw [if_pos h2] at h; cases h
      · rw [if_neg h2] at h
        by_cases h3 : digsB (x :: r.take 2) = true ∧ numL (x :: r.take 2) ≤ 255
        · rw [if_pos h3] at h; simp at h; simp; omega
        · rw [if_neg h3] at h; cases h
theorem sgL_len (x : UInt8) (r : List UInt8) (c : UInt8) (k : Nat) (h : sgL x r = some (c, k)) : k ≤ r.length := by
  unfold sgL at h
  by_cases h1 : x.toNat = 92
  · rw [if_pos h1] at h
    cases he : escL r with
    | none => rw [he] at h; cases h
    | some p =>
      obtain ⟨d, m⟩ := p
      have := escL_len r d m he
      rw [he] at h
      simp at h
      omega
  · rw [if_neg h1] at h; simp at h; omega
theorem dropB_at (s : ByteArray) (k : Nat) (h : k < s.size) : s.data.toList.drop k = s[k] :: s.data.toList.drop (k + 1) := by
  rw [List.drop_eq_getElem_cons (by simpa using h)]
  rfl
theorem ext_drop (s : ByteArray) (k : Nat) : (s.extract k s.size).data.toList = s.data.toList.drop k := by
  simp only [ByteArray.data_extract, Array.toList_extract, List.extract_eq_take_drop]
  exact List.take_of_length_le (by simp)
theorem sgB_drop (s : ByteArray) (k : Nat) (h : k < s.size) : sgB (s.extract k s.size) = sgL s[k] (s.data.toList.drop (k + 1)) := by
  unfold sgB
  rw [ext_drop, dropB_at s k h]
theorem lab_none (s : ByteArray) (k : Nat) (b : List UInt8) (h : k < s.size) (h46 : s[k].toNat ≠ 46) (hs : sgB (s.extract k s.size) = none) : lab (s.data.toList.drop k) b = none := by
  rw [sgB_drop s k h] at hs
  rw [dropB_at s k h, lab_bad _ _ _ h46 hs]
theorem lab_some (s : ByteArray) (k : Nat) (b : List UInt8) (h : k < s.size) (h46 : s[k].toNat ≠ 46) {c : UInt8} {m : Nat} (hs : sgB (s.extract k s.size) = some (c, m)) : k + m + 1 ≤ s.size ∧ lab (s.data.toList.drop k) b = lab (s.data.toList.drop (k + m + 1)) (b ++ [c]) := by
  rw [sgB_drop s k h] at hs
  have hl := sgL_len _ _ _ _ hs
  rw [List.length_drop] at hl
  simp only [Array.length_toList, ByteArray.size_data] at hl
  refine ⟨by omega, ?_⟩
  rw [dropB_at s k h, lab_go _ _ _ h46 hs, List.drop_drop, show k + 1 + m = k + m + 1 by omega]
theorem lab_stop (s : ByteArray) (k : Nat) (b : List UInt8) (h : k < s.size) (h46 : s[k].toNat = 46) : lab (s.data.toList.drop k) b = some (b, s.data.toList.drop k) := by
  rw [dropB_at s k h, lab_dot _ _ _ h46]
theorem lab_over (s : ByteArray) (k : Nat) (b : List UInt8) (h : ¬ k < s.size) : lab (s.data.toList.drop k) b = some (b, s.data.toList.drop k) := by
  rw [List.drop_eq_nil_of_le (by simp; omega), lab_nil]
theorem ownSlice_of {w : World} {base e s n : Nat} {v : Value} {xs : List Value} (h : w.ownsRow base e s v n xs) : ∃ A c, v = .slice A n c := by
  rcases h.2 with ⟨rfl, h0⟩ | ⟨g, cap, cur, rfl, _⟩
  · exact ⟨none, 0, by rw [show n = 0 from h0]⟩
  · exact ⟨_, _, rfl⟩
def u8Vs (b : List UInt8) : List Value := b.map fun c => Value.int .u8 (c.toNat : Int)
theorem u8Vs_app (b : List UInt8) (c : UInt8) : u8Vs b ++ [.int .u8 c.toNat] = u8Vs (b ++ [c]) := by simp [u8Vs]
def FirstP (s : ByteArray) (e : Ending) : Prop := (lab s.data.toList [] = none ∧ e = .returned (.tuple #[.string ⟨#[]⟩, .int .i64 0, .int .i64 5])) ∨
  ∃ b k, lab s.data.toList [] = some (b, s.data.toList.drop k) ∧ k ≤ s.size ∧ b.length ≤ k ∧ ((b = [] ∧ e = .returned (.tuple #[.string ⟨#[]⟩, .int .i64 0, .int .i64 8])) ∨ (b ≠ [] ∧ 63 < b.length ∧ e = .returned (.tuple #[.string ⟨#[]⟩, .int .i64 0, .int .i64 7])) ∨
    (b ≠ [] ∧ ¬ 63 < b.length ∧ e = .returned (.tuple #[.string ⟨b.toArray⟩, .int .i64 k, .int .i64 0])))
set_option maxRecDepth 100000 in
set_option maxHeartbeats 2000000 in
theorem first_any (s : ByteArray) (w : World) (hs : s.size ≤ 4000) :
    Calls Tryd.prog 17 #[.string s] w fun e w' => FirstP s e ∧ Below w.heap.size w w' := by
  go_enter Tryd.func17, Tryd.ntmps17
  go_wp2_with fail
  go_loopw [5, 6] (fun v i wr => ∃ (k : Nat) (b : List UInt8), k ≤ s.size ∧ i = .int .i64 k ∧ wr.ownsRow w.heap.size 5 1 v b.length (u8Vs b) ∧ Below w.heap.size w wr ∧ b.length ≤ k ∧ Hid (lab (s.data.toList.drop k) b = lab s.data.toList [])) (fun _ i _ => s.size - (intOf i).toNat)
  case atStart => exact ⟨0, [], Nat.zero_le _, rfl, World.ownsRow_nil _ _ _ _, Below.refl _ _, Nat.le_refl _, Lib.hid rfl⟩
  case round =>
    obtain ⟨k, b, hk, rfl, hown, HB, hbk, HL⟩ := hrel
    have hsz := HB.size
    have hend : ∀ c, lab (s.data.toList.drop k) b = c → lab s.data.toList [] = c := fun c h => by rw [← HL.out]; exact h
    have HE := Lib.hid hend
    clear hend
    by_cases hstop : (∃ h : k < s.size, s[k].toNat = 46) ∨ ¬ k < s.size
    · have hS : lab (s.data.toList.drop k) b = some (b, s.data.toList.drop k) := by
        rcases hstop with ⟨h, h46⟩ | h
        · exact lab_stop s k b h h46
        · exact lab_over s k b h
      have HF := Lib.hid (HE.out _ hS)
      clear HE HL hS
      have hcv := own_string Tryd.underlying51 Tryd.underlying5 Tryd.underlying9 hown
      obtain ⟨A, cp, rfl⟩ := ownSlice_of hown
      clear hown
      have h3 : (((b.length : Int) == 0) = true ∧ Hid (b = [])) ∨ (((b.length : Int) == 0) = false ∧ 63 < b.length ∧ Hid (b ≠ [])) ∨ (((b.length : Int) == 0) = false ∧ ¬ 63 < b.length ∧ Hid (b ≠ [])) := by
        by_cases hb : b = []
        · exact .inl ⟨by rw [hb]; rfl, Lib.hid hb⟩
        · have : ((b.length : Int) == 0) = false := by have := List.length_pos_iff.2 hb; simp; omega
          by_cases h63 : 63 < b.length
          · exact .inr (.inl ⟨this, h63, Lib.hid hb⟩)
          · exact .inr (.inr ⟨this, h63, Lib.hid hb⟩)
      have hP1 : Hid (b = []) → FirstP s (.returned (.tuple #[.string ⟨#[]⟩, .int .i64 0, .int .i64 8])) := fun h => .inr ⟨b, k, HF.out, hk, hbk, .inl ⟨h.out, rfl⟩⟩
      have hP2 : Hid (b ≠ []) → 63 < b.length → FirstP s (.returned (.tuple #[.string ⟨#[]⟩, .int .i64 0, .int .i64 7])) := fun h h2 => .inr ⟨b, k, HF.out, hk, hbk, .inr (.inl ⟨h.out, h2, rfl⟩)⟩
      have hP3 : Hid (b ≠ []) → ¬ 63 < b.length → FirstP s (.returned (.tuple #[.string ⟨b.toArray⟩, .int .i64 k, .int .i64 0])) := fun h h2 => .inr ⟨b, k, HF.out, hk, hbk, .inr (.inr ⟨h.out, h2, rfl⟩)⟩
      have P1 := Lib.hid hP1; have P2 := Lib.hid hP2; have P3 := Lib.hid hP3
      clear hP1 hP2 hP3 HF
      rcases hstop with ⟨hks, h46⟩ | hks
      · have t46 : ((s[k].toNat : Int) == 46) = true := by simp; omega
        clear h46
        rcases h3 with ⟨h0, hx⟩ | ⟨h0, h63, hx⟩ | ⟨h0, h63, hx⟩
        · go_wp2_with fail
          go_ret3
          exact ⟨P1.out hx, HB⟩
        · go_wp2_with fail
          go_ret3
          exact ⟨P2.out hx h63, HB⟩
        · go_wp2_with fail
          go_ret3
          exact ⟨P3.out hx h63, HB⟩
      · rcases h3 with ⟨h0, hx⟩ | ⟨h0, h63, hx⟩ | ⟨h0, h63, hx⟩
        · go_wp2_with fail
          go_ret3
          exact ⟨P1.out hx, HB⟩
        · go_wp2_with fail
          go_ret3
          exact ⟨P2.out hx h63, HB⟩
        · go_wp2_with fail
          go_ret3
          exact ⟨P3.out hx h63, HB⟩
    · have hks : k < s.size := Decidable.byContradiction fun h => hstop (.inr h)
      have h46 : s[k].toNat ≠ 46 := fun h => hstop (.inl ⟨hks, h⟩)
      clear hstop
      have t46 : ((s[k].toNat : Int) == 46) = false := by simp; omega
      have hbad := lab_none s k b hks h46
      have hgo := fun c m => lab_some s k b hks h46 (c := c) (m := m)
      have hnx := dNext_any (s.extract k s.size) wr (by simp [ByteArray.size_extract]; omega) (by simp [ByteArray.size_extract]; omega)
      have HBAD := Lib.hid hbad; have HGO := Lib.hid hgo; have HNX := Lib.hid hnx
      clear hbad hgo hnx h46
      go_wp2_with fail
      with_reducible refine HNX.out.mono ?_
      rintro e w1 ⟨hp, rfl⟩
      rcases hp with ⟨hn, x, y, rfl⟩ | ⟨c, m, hy, rfl⟩
      · have HF := Lib.hid (HE.out _ (HBAD.out hn))
        clear HE HL HBAD HGO hn
        go_wp2_with fail
        go_ret3
        exact ⟨.inl ⟨HF.out, rfl⟩, HB⟩
      · have hg := HGO.out c m hy
        obtain ⟨hg1, hg2⟩ := hg
        have HG := Lib.hid (hg2.symm.trans HL.out)
        clear HGO HBAD hy HE HL hg2
        have hc0 : (c.toNat : Int) ≤ 255 := by have := c.toNat_lt; omega
        have hc1 : (0 : Int) ≤ (c.toNat : Int) := by omega
        go_wp2_with (at_builtin; refine wpList_app1 rfl (.tmp 30) (.tmp 32) 51 5 rfl Tryd.underlying51 elem5 rfl w.heap.size _ b.length _ _ rfl rfl hown rfl (by omega) (by omega) hsz ?_)
        intro v' w' hown' HB' hne
        rw [u8Vs_app] at hown'
        go_wp2_with fail
        go_roundw
        case rel => exact ⟨k + m + 1, b ++ [c], by omega, by go_num, by simpa using hown', HB.trans HB', by simp; omega, HG⟩
        case measure => simp [intOf]; omega
end Go.Proofs.YtbcnnjifndmdpaaDoor
