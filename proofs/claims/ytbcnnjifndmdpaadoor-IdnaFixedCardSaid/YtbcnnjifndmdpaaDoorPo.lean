/- Texts behind a law of this seat, in order: Puny9, Puny10, Puny11, Puny12, Puny13. -/
import Derived.Test.YtbcnnjifndmdpaaDoorPa
import Derived.Test.YtbcnnjifndmdpaaDoorPb
import Derived.Test.YtbcnnjifndmdpaaDoorPe
import Derived.Test.YtbcnnjifndmdpaaDoorPf
import Derived.Test.YtbcnnjifndmdpaaDoorPg
import Derived.Test.YtbcnnjifndmdpaaDoorPi
import Derived.Test.YtbcnnjifndmdpaaDoorPj
import Derived.Test.YtbcnnjifndmdpaaDoorPk
import Derived.Test.YtbcnnjifndmdpaaDoorPl
import Derived.Test.YtbcnnjifndmdpaaDoorPm
import Derived.Test.YtbcnnjifndmdpaaDoorPn
import Derived.Below
import Derived.BigQuiet
import Derived.BigRegion
import Derived.ChangeSlices
import Derived.Deep.AppendLies
import Derived.Deep.Draws
import Derived.Deep.QuietTactic
import Derived.Deep.RegionHeld3
import Derived.Deep.RegionLaw
import Derived.Deep.RegionWith
import Derived.Handed
import Derived.IntWalk
import Derived.Laws.CopyOwn
import Derived.Laws.Externs
import Derived.Laws.OwnMore
import Derived.Laws.Rows
import Derived.Lib.AppendZeros
import Derived.Lib.AppendZerosOnto
import Derived.Lib.Bytealg
import Derived.Lib.Hide
import Derived.Lib.Overlaps
import Derived.Lib.Strings
import Derived.Shelf.LaysM
import Derived.Shelf.Small.Strs
import Derived.Shelf.Small.Utf8
import Derived.Shelf.Small.Wraps
import Derived.Shelf.Strings.Builder1
import Derived.Shelf.Strings.Builder2
import Derived.Shelf.Strings.Builder2Cap
import Derived.Shelf.Strings.BuilderCap
import Derived.Shelf.Strings.BuilderF
import Derived.Shelf.Strings.BuilderK
import Derived.Shelf.Strings.BuilderRune
import Derived.Shelf.Strings.Count
import Derived.Shelf.Strings.MapAny
import Derived.Shelf.Strings.OnBuilder
import Derived.Shelf.Strings.Prefix
import Derived.Shelf.Strings.Search1
import Derived.Shelf.Strings.Search2
import Derived.Shelf.Strings.Search3
import Derived.Shelf.Strings.Shaped
import Derived.Shelf.Strings.Split
import Derived.Shelf.Strings.SplitShaped
import Derived.Shelf.Unicode.Decode
import Derived.Shelf.Unicode.DecodeAny
import Derived.Shelf.Unicode.DecodeSlow
import Derived.Shelf.Utf8.AppendRunePlain
import Derived.SizedLaws
import Derived.SliceStrings
import Derived.StillTailTactics
import Derived.Test.YtbcnnjifndmdpaaDoorProg
import Derived.WalkKit
import Derived.WalkLawsBesides
import Derived.WalkSpells
namespace Go.Proofs.YtbcnnjifndmdpaaDoor
open Go.RowKit Go
set_option linter.unusedVariables false
theorem hyf_at (s : ByteArray) (j : Nat) (hj : j < s.size) (hd : ∀ c ∈ s.data.toList.drop (j + 1), c ≠ 45) (he : s[j].toNat = 45) : hyf s.data.toList = j + 1 := by
  have h1 : s.data.toList = s.data.toList.take (j + 1) ++ s.data.toList.drop (j + 1) := (List.take_append_drop _ _).symm
  rw [h1, hyf_app _ _ hd, take_snoc s j hj, show s[j] = 45 from UInt8.toNat_inj.1 he, hyf_yes, List.length_take]
  simp; omega
theorem hyf_none (s : ByteArray) (hd : ∀ c ∈ s.data.toList, c ≠ 45) : hyf s.data.toList = 0 := by
  have := hyf_app s.data.toList [] hd
  simpa [hyf_nil] using this
theorem ne45 (s : ByteArray) (j : Nat) (hj : j < s.size) (hd : ∀ c ∈ s.data.toList.drop (j + 1), c ≠ 45) (he : s[j].toNat ≠ 45) : ∀ c ∈ s.data.toList.drop j, c ≠ 45 := by
  have hjl : j < s.data.toList.length := by simpa using hj
  rw [List.drop_eq_getElem_cons hjl]
  intro c hc
  rcases List.mem_cons.1 hc with rfl | hc
  · intro e
    apply he
    have : s[j] = 45 := e
    rw [this]; rfl
  · exact hd c hc
set_option maxHeartbeats 1000000 in
theorem lastStr_any (s : ByteArray) (w : World) (hs : s.size ≤ 9223372036854775806) :
    Calls Tryd.prog 78 #[.string s, .int .u8 45] w fun e w' => e = .returned (.int .i64 ((hyf s.data.toList : Int) - 1)) ∧ w = w' := by
  go_enter Tryd.func78, Tryd.ntmps78
  go_wp2
  go_loop [5] (fun i => ∃ q : Int, i = .int .i64 q ∧ -1 ≤ q ∧ q < s.size ∧ Hid (∀ c ∈ s.data.toList.drop (q + 1).toNat, c ≠ 45)) (fun i => (intOf i + 1).toNat)
  case atStart => exact ⟨(s.size : Int) - 1, rfl, by omega, by omega, Lib.hid (by rw [List.drop_eq_nil_of_le (by simp)]; simp)⟩
  case round =>
    obtain ⟨q, rfl, q0, q1, hd⟩ := hrel
    by_cases hq : q < 0
    · obtain rfl : q = -1 := by omega
      have hh := hyf_none s hd.out
      have HH := Lib.hid hh
      clear hh
      go_wp2
      go_ret
      exact ⟨ret_int (by rw [HH.out]; rfl), rfl⟩
    · obtain ⟨j, rfl⟩ := Int.eq_ofNat_of_zero_le (show 0 ≤ q by omega)
      have hj : j < s.size := by omega
      have hd2 : ∀ c ∈ s.data.toList.drop (j + 1), c ≠ 45 := hd.out
      have HD := Lib.hid hd2
      clear hd hd2
      have hb : (s[j].toNat : Int) ≤ 255 := by have := s[j].toNat_lt; omega
      by_cases he : s[j].toNat = 45
      · have hh := hyf_at s j hj HD.out he
        have HH := Lib.hid hh
        have he2 : ((s[j].toNat : Int) == 45) = true := by simp [he]
        clear hh he
        go_wp2
        go_ret
        exact ⟨ret_int (by rw [HH.out]; omega), rfl⟩
      · have hn := ne45 s j hj HD.out he
        have HN := Lib.hid hn
        have he2 : ((s[j].toNat : Int) == 45) = false := by simp; omega
        clear hn he
        go_wp2
        go_round
        case rel => exact ⟨(j : Int) - 1, rfl, by omega, by omega, Lib.hid (by rw [show ((j : Int) - 1 + 1).toNat = j by omega]; exact HN.out)⟩
        case measure => simp [intOf] <;> omega
set_option maxHeartbeats 1000000 in
theorem last_any (s : ByteArray) (w : World) (hs : s.size ≤ 9223372036854775806) :
    Calls Tryd.prog 66 #[.string s, .int .u8 45] w fun e w' => e = .returned (.int .i64 ((hyf s.data.toList : Int) - 1)) ∧ w = w' := by
  have hk := lastStr_any s w hs
  obtain ⟨X, hX⟩ : ∃ X, X = (hyf s.data.toList : Int) - 1 := ⟨_, rfl⟩
  rw [← hX] at hk ⊢
  have HK := Lib.hid hk
  clear hk hX
  go_enter Tryd.func66, Tryd.ntmps66
  go_wp2_with fail
  ((with_reducible refine HK.out.mono ?_))
  rintro e w' ⟨rfl, rfl⟩
  go_wp2
  go_ret
  exact ⟨rfl, rfl⟩
theorem bigB_at (s : ByteArray) (k : Nat) (hk : k < s.size) (h : 128 ≤ s[k].toNat) : bigB s.data.toList = true := by
  unfold bigB
  rw [List.any_eq_true]
  exact ⟨s[k], by have : s.data.toList[k]'(by simpa using hk) ∈ s.data.toList := List.getElem_mem _; exact this, by simpa using h⟩
theorem bigB_none {l : List UInt8} (h : ∀ c ∈ l, c.toNat < 128) : bigB l = false := by
  unfold bigB
  rw [List.any_eq_false]
  intro c hc
  have := h c hc
  simp; omega
theorem ptsL_step (s : ByteArray) (k : Nat) (hk : k < s.size) : ptsL (s.data.toList.take (k + 1)) = ptsL (s.data.toList.take k) ++ [(s[k].toNat : Int)] := by
  rw [take_snoc s k hk]; simp [ptsL]
theorem ptsL_len (l : List UInt8) : (ptsL l).length = l.length := by simp [ptsL]
/-- what basicPoints hands back -/
def BasP (l : List UInt8) (w : World) (e : Ending) (w' : World) : Prop :=
  (bigB l = true ∧ e = .returned (.tuple #[.slice none 0 0, .int .i64 5]) ∧ Below w.heap.size w w') ∨
  (bigB l = false ∧ 4096 < l.length ∧ e = .returned (.tuple #[.slice none 0 0, .int .i64 3]) ∧ Below w.heap.size w w') ∨
  (bigB l = false ∧ l.length ≤ 4096 ∧ (∀ c ∈ l, c.toNat < 128) ∧ ∃ v, e = .returned (.tuple #[v, .int .i64 0]) ∧ w'.ownsRow w.heap.size 21 1 v l.length (intVs .i32 (ptsL l)) ∧ Below w.heap.size w w')
theorem own_mono {w : World} {B B' e n : Nat} {v : Value} {xs : List Value} (h : w.ownsRow B e 1 v n xs) (hb : B' ≤ B) : w.ownsRow B' e 1 v n xs := by
  refine ⟨h.1, ?_⟩
  rcases h.2 with h0 | ⟨g, cap, cur, hv, hB, hr⟩
  · exact .inl h0
  · exact .inr ⟨g, cap, cur, hv, by omega, hr⟩
set_option maxRecDepth 100000 in
set_option maxHeartbeats 2000000 in
theorem basic_any (s : ByteArray) (w : World) (hs : s.size ≤ 40000) : Calls Tryd.prog 67 #[.string s] w (BasP s.data.toList w) := by
  have kb := run_bytes_of_string (P := Tryd.prog) w 9 51 5 s Tryd.underlying9 Tryd.underlying51 Tryd.underlying5
  have hst := byAt_start s w
  have hb1 : Below w.heap.size w ((w.alloc (.cells (bytesRow s (grownCap w s.size 0 5)) 5 ((bytesRow s (grownCap w s.size 0 5)).size, (bytesRow s (grownCap w s.size 0 5)).size + 1))).drew) := ((Below.refl _ _).alloc (Nat.le_refl _) _).drew
  have hsz : ((w.alloc (.cells (bytesRow s (grownCap w s.size 0 5)) 5 ((bytesRow s (grownCap w s.size 0 5)).size, (bytesRow s (grownCap w s.size 0 5)).size + 1))).drew).heap.size = w.heap.size + 1 := by simp
  have HST := Lib.hid hst
  have HB1 := Lib.hid hb1
  have HSZ := Lib.hid hsz
  clear hst hb1 hsz
  go_enter Tryd.func67, Tryd.ntmps67
  go_wp2
  clear kb
  generalize ((w.alloc (.cells (bytesRow s (grownCap w s.size 0 5)) 5 ((bytesRow s (grownCap w s.size 0 5)).size, (bytesRow s (grownCap w s.size 0 5)).size + 1))).drew) = W1 at HST HB1 HSZ ⊢
  go_loopw [4, 10] (fun v i wr => ∃ k : Nat, k ≤ s.size ∧ i = .int .i64 k ∧ wr.ownsRow W1.heap.size 21 1 v k (intVs .i32 (ptsL (s.data.toList.take k))) ∧ Below W1.heap.size W1 wr ∧ Hid (∀ c ∈ s.data.toList.take k, c.toNat < 128)) (fun _ i _ => s.size - (intOf i).toNat)
  case atStart => exact ⟨0, Nat.zero_le _, rfl, World.ownsRow_nil _ _ _ _, Below.refl _ _, Lib.hid (by simp)⟩
  case round =>
    obtain ⟨k, hk, rfl, hown, HB, hall⟩ := hrel
    have HBW : Below w.heap.size w wr := HB1.out.trans (HB.mono (by rw [HSZ.out]; omega))
    by_cases hlt : k < s.size
    · have hc := HST.out.2 k hlt
      rw [← HB.cell (p := ⟨w.heap.size, k, none⟩) HST.out.1] at hc
      have hb : (s[k].toNat : Int) ≤ 255 := by have := s[k].toNat_lt; omega
      have hstep := ptsL_step s k hlt
      have HS := Lib.hid hstep
      have hwz := HB.size
      clear hstep
      by_cases h128 : 128 ≤ s[k].toNat
      · have hbig := bigB_at s k hlt h128
        have HBIG := Lib.hid hbig
        have h2 : (128 : Int) ≤ (s[k].toNat : Int) := by omega
        clear hbig
        go_wp2
        go_ret2
        exact .inl ⟨HBIG.out, rfl, HBW⟩
      · have h2 : (s[k].toNat : Int) < 128 := by omega
        have hall2 : ∀ c ∈ s.data.toList.take (k + 1), c.toNat < 128 := by
          rw [take_snoc s k hlt]
          intro c hc
          rcases List.mem_append.1 hc with hc | hc
          · exact hall.out c hc
          · obtain rfl := List.mem_singleton.1 hc
            omega
        have HALL := Lib.hid hall2
        clear hall2
        go_wp2_with (at_builtin; refine wpList_app1 rfl (.tmp 16) (.tmp 19) 33 21 rfl Tryd.underlying33 elemI32 rfl W1.heap.size _ k _ _ rfl rfl hown rfl (by omega) (by omega) hwz ?_)
        intro v' w2 hown2 HB2 hne
        have hown3 : w2.ownsRow W1.heap.size 21 1 v' (k + 1) (intVs .i32 (ptsL (s.data.toList.take (k + 1)))) := by
          rw [HS.out]; exact own_appInt1 hown2
        clear hown2 hown
        go_wp2_with fail
        go_roundw
        case rel => exact ⟨k + 1, by omega, by go_num, hown3, HB.trans HB2, HALL⟩
        case measure => simp [intOf]; omega
    · obtain rfl : k = s.size := by omega
      have htk : s.data.toList.take s.size = s.data.toList := List.take_of_length_le (by simp)
      rw [htk] at hown hall
      have hno := bigB_none hall.out
      have HNO := Lib.hid hno
      have hsl : s.data.toList.length = s.size := by simp
      have HSL := Lib.hid hsl
      obtain ⟨A, c, rfl⟩ := own_slice hown
      have hown2 := own_mono hown (show w.heap.size ≤ W1.heap.size by rw [HSZ.out]; omega)
      clear hno hsl htk hown
      by_cases hl : 4096 < s.size
      · go_wp2
        go_ret2
        exact .inr (.inl ⟨HNO.out, by rw [HSL.out]; exact hl, rfl, HBW⟩)
      · go_wp2
        go_ret2
        exact .inr (.inr ⟨HNO.out, by rw [HSL.out]; omega, hall.out, _, rfl, by rw [HSL.out]; exact hown2, HBW⟩)
end Go.Proofs.YtbcnnjifndmdpaaDoor
namespace Go.Proofs.YtbcnnjifndmdpaaDoor
open Go.RowKit Go
set_option linter.unusedVariables false
abbrev rdC (r : ByteArray) (v : Value) (n a b : Int) (f : Bool) : Array Value := #[.string r, v, .int .i64 n, .int .i64 a, .int .i64 b, .bool f]
theorem idx_tab : ∀ n : Fin 256, Lib.indexByte figTab.data.toList (UInt8.ofNat (if 65 ≤ n.val ∧ n.val ≤ 90 then n.val + 32 else n.val)) = valI (n.val : Int) := by decide +kernel
theorem idx_up {c : Int} (h0 : 65 ≤ c) (h1 : c ≤ 90) : Lib.indexByte figTab.data.toList (c + 32).toNat.toUInt8 = valI c := by
  obtain ⟨n, rfl⟩ := Int.eq_ofNat_of_zero_le (show 0 ≤ c by omega)
  have := idx_tab ⟨n, by omega⟩
  simp only at this
  rw [if_pos (by omega)] at this
  rw [← this]
  rfl
theorem idx_no {c : Int} (h0 : 0 ≤ c) (h1 : c ≤ 255) (h : c < 65 ∨ 90 < c) : Lib.indexByte figTab.data.toList c.toNat.toUInt8 = valI c := by
  obtain ⟨n, rfl⟩ := Int.eq_ofNat_of_zero_le (show 0 ≤ c by omega)
  have := idx_tab ⟨n, by omega⟩
  simp only at this
  rw [if_neg (by omega)] at this
  rw [← this]
  rfl
theorem idxUp_any (c : Int) (w : World) (h0 : 65 ≤ c) (h1 : c ≤ 90) : Calls Tryd.prog 88 #[.string figTab, .int .u8 (c + 32)] w fun e w' => e = .returned (.int .i64 (valI c)) ∧ w = w' := by
  refine (Tryd.strings_IndexByte figTab (c + 32) w).mono ?_
  rintro e w' ⟨rfl, rfl⟩
  exact ⟨ret_int (idx_up h0 h1), rfl⟩
theorem idxNo_any (c : Int) (w : World) (h0 : 0 ≤ c) (h1 : c ≤ 255) (h : c < 65 ∨ 90 < c) : Calls Tryd.prog 88 #[.string figTab, .int .u8 c] w fun e w' => e = .returned (.int .i64 (valI c)) ∧ w = w' := by
  refine (Tryd.strings_IndexByte figTab c w).mono ?_
  rintro e w' ⟨rfl, rfl⟩
  exact ⟨ret_int (idx_no h0 h1 h), rfl⟩
theorem head_ba (r : ByteArray) (h : 0 < r.size) : r.data.toList = r[0] :: (r.extract 1 r.size).data.toList := by
  have h1 : 0 < r.data.toList.length := by simpa using h
  have h2 : r.data.toList = r.data.toList[0] :: r.data.toList.drop 1 := by
    conv => lhs; rw [← List.drop_zero (l := r.data.toList)]
    exact List.drop_eq_getElem_cons h1
  have h3 : (r.extract 1 r.size).data.toList = r.data.toList.drop 1 := by
    rw [Lib.extract_eq]
    simp
    rw [List.take_of_length_le]
    simp
  rw [h3]
  exact h2
/-- what figure does: the text's head gone, and the figure, if it is one -/
def FigP (g : Nat) (r : ByteArray) (w : World) (e : Ending) (w' : World) : Prop :=
  (r.data.toList = [] ∧ e = .returned (.tuple #[.int .i64 0, .bool false]) ∧ w = w') ∨
  (∃ (c : UInt8) (t : ByteArray), r.data.toList = c :: t.data.toList ∧ w' = w.setCell ⟨g, 0, none⟩ (.string t) ∧ ((vB c < 0 ∧ e = .returned (.tuple #[.int .i64 0, .bool false])) ∨ (0 ≤ vB c ∧ e = .returned (.tuple #[.int .i64 (vB c), .bool true]))))
set_option maxHeartbeats 2000000 in
theorem figure_any (g : Nat) (r : ByteArray) (v : Value) (n a b : Int) (f : Bool) (w : World) (hat : At w g 96 (rdC r v n a b f)) (hs : r.size ≤ 40000) : Calls Tryd.prog 79 #[.pointer (some ⟨g, 0, none⟩)] w (FigP g r w) := by
  have c0 : w.cell? ⟨g, 0, none⟩ = some (.string r) := hat.cells 0 rfl
  have z0 := hat.ice 0
  clear hat
  by_cases he : r.toList.isEmpty = true
  · have hl : r.data.toList = [] := by rw [ByteArray.toList_eq] at he; simpa using he
    have HL := Lib.hid hl
    clear hl
    go_enter Tryd.func79, Tryd.ntmps79
    go_wp2
    go_ret2
    exact .inl ⟨HL.out, rfl, rfl⟩
  · have he' : r.toList.isEmpty = false := by simpa using he
    have hz : 0 < r.size := by
      rw [ByteArray.toList_eq] at he'
      rcases Nat.eq_zero_or_pos r.size with h | h
      · have : r.data.toList = [] := List.length_eq_zero_iff.1 (by simpa using h)
        rw [this] at he'; simp at he'
      · exact h
    clear he
    have hh := head_ba r hz
    have HH := Lib.hid hh
    clear hh
    have hb : (r[0].toNat : Int) ≤ 255 := by have := r[0].toNat_lt; omega
    have hv := vB_bd r[0]
    have hve : vB r[0] = valI (r[0].toNat : Int) := rfl
    obtain ⟨x, hx⟩ : ∃ x, x = valI (r[0].toNat : Int) := ⟨_, rfl⟩
    rw [hve, ← hx] at hv
    rw [← hx] at hve
    have HVE := Lib.hid hve
    obtain ⟨v0, v1⟩ := hv
    by_cases hup : 65 ≤ (r[0].toNat : Int) ∧ (r[0].toNat : Int) ≤ 90
    · obtain ⟨u0, u1⟩ := hup
      have hk := fun w => idxUp_any (r[0].toNat : Int) w u0 u1
      simp only [← hx] at hk
      have HK := Lib.hid hk
      have u0' : 65 ≤ r[0].toNat := by omega
      have u1' : r[0].toNat ≤ 90 := by omega
      clear hk hx hve
      by_cases hneg : x < 0
      · go_enter Tryd.func79, Tryd.ntmps79
        go_wp2_with ((with_reducible refine (HK.out _).mono ?_); rintro e w' ⟨rfl, rfl⟩)
        go_ret2
        exact .inr ⟨_, _, HH.out, rfl, .inl ⟨by rw [HVE.out]; exact hneg, rfl⟩⟩
      · go_enter Tryd.func79, Tryd.ntmps79
        go_wp2_with ((with_reducible refine (HK.out _).mono ?_); rintro e w' ⟨rfl, rfl⟩)
        go_ret2
        exact .inr ⟨_, _, HH.out, rfl, .inr ⟨by rw [HVE.out]; omega, by rw [HVE.out]; rfl⟩⟩
    · have hk := fun w => idxNo_any (r[0].toNat : Int) w (by omega) hb (by omega)
      simp only [← hx] at hk
      have HK := Lib.hid hk
      clear hk hx hve
      by_cases hlo : 65 ≤ (r[0].toNat : Int)
      all_goals
        by_cases hneg : x < 0
        · go_enter Tryd.func79, Tryd.ntmps79
          go_wp2_with ((with_reducible refine (HK.out _).mono ?_); rintro e w' ⟨rfl, rfl⟩)
          go_ret2
          exact .inr ⟨_, _, HH.out, rfl, .inl ⟨by rw [HVE.out]; exact hneg, rfl⟩⟩
        · go_enter Tryd.func79, Tryd.ntmps79
          go_wp2_with ((with_reducible refine (HK.out _).mono ?_); rintro e w' ⟨rfl, rfl⟩)
          go_ret2
          exact .inr ⟨_, _, HH.out, rfl, .inr ⟨by rw [HVE.out]; omega, by rw [HVE.out]; rfl⟩⟩
end Go.Proofs.YtbcnnjifndmdpaaDoor
namespace Go.Proofs.YtbcnnjifndmdpaaDoor
open Go.RowKit Go
set_option linter.unusedVariables false
set_option maxHeartbeats 400000 in
theorem boundL_any (k b : Int) (w : World) (k0 : 1 ≤ k) (k1 : k ≤ 100000) (b0 : 0 ≤ b) (b1 : b ≤ 1099511627776) :
    Calls Tryd.prog 80 #[.int .i64 k, .int .i64 b] w fun e w' => e = .returned (.int .i64 (bndI k b)) ∧ w = w' := by
  go_enter Tryd.func80, Tryd.ntmps80
  go_wp2
  all_goals
    go_ret
    exact ⟨ret_int (by unfold bndI; omega), rfl⟩
theorem only_setCell {a w : World} {g i : Nat} (h : a.grownBy w (some g)) (u : Value) : a.grownBy (w.setCell ⟨g, i, none⟩ u) (some g) :=
  ⟨h.os, h.tape, h.output, by simpa [World.setCell] using h.size, fun k hk hne => (Below.heap_setCell w ⟨g, i, none⟩ u k (by
    rintro rfl
    exact hne rfl)).trans (h.block k hk hne)⟩
/-- what number does: the number whose figures come next -/
def NumRP (g : Nat) (v : Value) (n a b : Int) (f : Bool) (l : List UInt8) (w : World) (e : Ending) (w' : World) : Prop :=
  w.grownBy w' (some g) ∧ ∃ r' : ByteArray, At w' g 96 (rdC r' v n a b f) ∧
  (((numb b l 1 0 1).1 ≠ 0 ∧ e = .returned (.tuple #[.int .i64 0, .int .i64 (numb b l 1 0 1).1])) ∨
   ((numb b l 1 0 1).1 = 0 ∧ e = .returned (.tuple #[.int .i64 (numb b l 1 0 1).2.1, .int .i64 0]) ∧ r'.data.toList = (numb b l 1 0 1).2.2))
theorem numRP_no {g : Nat} {v : Value} {n a b : Int} {f : Bool} {l : List UInt8} {w w' : World} {x d : Int} {t : List UInt8} {r' : ByteArray} (hg : w.grownBy w' (some g)) (ha : At w' g 96 (rdC r' v n a b f)) (h : numb b l 1 0 1 = (x, d, t)) (hx : x ≠ 0) :
    NumRP g v n a b f l w (.returned (.tuple #[.int .i64 0, .int .i64 x])) w' := ⟨hg, r', ha, .inl ⟨by rw [h]; exact hx, by rw [h]⟩⟩
theorem numRP_yes {g : Nat} {v : Value} {n a b : Int} {f : Bool} {l : List UInt8} {w w' : World} {d : Int} {r' : ByteArray} (hg : w.grownBy w' (some g)) (ha : At w' g 96 (rdC r' v n a b f)) (h : numb b l 1 0 1 = (0, d, r'.data.toList)) :
    NumRP g v n a b f l w (.returned (.tuple #[.int .i64 d, .int .i64 0])) w' := ⟨hg, r', ha, .inr ⟨by rw [h], by rw [h], by rw [h]⟩⟩
set_option maxRecDepth 100000 in
set_option maxHeartbeats 4000000 in
theorem rnumber_any (g : Nat) (r : ByteArray) (v : Value) (n a b : Int) (f : Bool) (w : World) (hat : At w g 96 (rdC r v n a b f)) (hs : r.size ≤ 40000) (b0 : 0 ≤ b) (b1 : b ≤ 1099511627776) :
    Calls Tryd.prog 68 #[.pointer (some ⟨g, 0, none⟩)] w (NumRP g v n a b f r.data.toList w) := by
  obtain ⟨R, hR⟩ : ∃ R, R = numb b r.data.toList 1 0 1 := ⟨_, rfl⟩
  have HR := Lib.hid hR
  have HAT := Lib.hid hat
  clear hR hat
  go_enter Tryd.func68, Tryd.ntmps68
  go_wp2
  go_loopw [4, 5, 6] (fun x y z wr => ∃ (D W K : Int) (rr : ByteArray), x = .int .i64 D ∧ y = .int .i64 W ∧ z = .int .i64 K ∧ At wr g 96 (rdC rr v n a b f) ∧ w.grownBy wr (some g) ∧ Hid (numb b r.data.toList 1 0 1 = numb b rr.data.toList K D W) ∧ 0 ≤ D ∧ D ≤ 4294967295 ∧ 1 ≤ W ∧ W ≤ 4294967295 ∧ 1 ≤ K ∧ K + (rr.size : Int) ≤ 40001) (fun _ _ z _ => (50000 - intOf z).toNat)
  case atStart => exact ⟨0, 1, 1, r, rfl, rfl, rfl, HAT.out, World.grownBy.refl _ _, Lib.hid rfl, by omega, by omega, by omega, by omega, by omega, by omega⟩
  case round =>
    obtain ⟨D, W, K, rr, rfl, rfl, rfl, hat, hgr, hnum, D0, D1, W0, W1, K0, K1⟩ := hrel
    have hfig := figure_any g rr v n a b f wr hat (by omega)
    have HFIG := Lib.hid hfig
    have hbd := bnd_bd K b
    have hk := fun w => boundL_any K b w K0 (by omega) b0 b1
    have HAT2 := Lib.hid hat
    obtain ⟨t, ht⟩ : ∃ t, t = bndI K b := ⟨_, rfl⟩
    rw [← ht] at hbd
    simp only [← ht] at hk
    have HK := Lib.hid hk
    have HTT := Lib.hid ht
    obtain ⟨t0, t1⟩ := hbd
    clear hfig hk ht hat
    go_wp2_with fail
    ((with_reducible refine HFIG.out.mono ?_))
    rintro e w' (⟨hl, rfl, rfl⟩ | ⟨c, q, hl, rfl, (⟨hc, rfl⟩ | ⟨hc, rfl⟩)⟩)
    · have hn : numb b r.data.toList 1 0 1 = (5, 0, []) := by rw [hnum.out, hl]; rfl
      have HN := Lib.hid hn
      clear hn hl
      go_wp2
      go_ret2
      exact numRP_no hgr HAT2.out HN.out (by decide)
    · have hn : numb b r.data.toList 1 0 1 = (5, 0, []) := by rw [hnum.out, hl]; exact numb_no hc
      have HN := Lib.hid hn
      clear hn hl hc
      go_wp2
      go_ret2
      exact numRP_no (only_setCell hgr _) (HAT2.out.put 0 (.string q)) HN.out (by decide)
    · have hat3 : At (wr.setCell ⟨g, 0, none⟩ (.string q)) g 96 (rdC q v n a b f) := HAT2.out.put 0 (.string q)
      have hgr3 := only_setCell (i := 0) hgr (.string q)
      have hqs : (q.size : Int) + 1 ≤ rr.size := by
        have := congrArg List.length hl
        simp at this
        omega
      have hbc := vB_bd c
      obtain ⟨F, hF⟩ : ∃ F, F = vB c := ⟨_, rfl⟩
      have hge := hnum.out
      rw [hl] at hge
      have hfw0 : 0 ≤ F * W := Int.mul_nonneg (by omega) (by omega)
      have hfw1 : F * W ≤ 35 * 4294967295 := Int.mul_le_mul (by omega) W1 (by omega) (by omega)
      rw [← hF] at hc hbc
      rw [← hF]
      have HGE := Lib.hid hge
      have HF := Lib.hid hF
      have HAT3 := Lib.hid hat3
      have HGR3 := Lib.hid hgr3
      clear hge hl hF hgr3 hnum
      generalize (wr.setCell ⟨g, 0, none⟩ (.string q)) = w3 at HAT3 HGR3 hat3 ⊢
      have c4 : w3.cell? ⟨g, 4, none⟩ = some (.int .i64 b) := hat3.cells 4 rfl
      clear hat3
      by_cases h2 : 4294967295 < D + F * W
      · have hn := HGE.out.trans (numb_over (by rw [← HF.out]; omega) (by rw [← HF.out]; exact h2))
        have HN := Lib.hid hn
        clear hn
        go_wp2
        go_ret2
        exact numRP_no HGR3.out HAT3.out HN.out (by decide)
      · by_cases h3 : F < t
        · have hn := HGE.out.trans (numb_end (by rw [← HF.out]; omega) (by rw [← HF.out]; exact h2) (by rw [← HF.out, ← HTT.out]; exact h3))
          rw [← HF.out] at hn
          have HN := Lib.hid hn
          clear hn
          go_wp2_with ((with_reducible refine (HK.out _).mono ?_); rintro e w' ⟨rfl, rfl⟩)
          go_ret2
          exact numRP_yes HGR3.out HAT3.out HN.out
        · have hw0 : 0 ≤ W * (36 - t) := Int.mul_nonneg (by omega) (by omega)
          have hw1 : W * (36 - t) ≤ 4294967295 * 35 := Int.mul_le_mul W1 (by omega) (by omega) (by omega)
          by_cases h4 : 4294967295 < W * (36 - t)
          · have hn := HGE.out.trans (numb_wide (by rw [← HF.out]; omega) (by rw [← HF.out]; exact h2) (by rw [← HF.out, ← HTT.out]; exact h3) (by rw [← HTT.out]; exact h4))
            have HN := Lib.hid hn
            clear hn
            go_wp2_with ((with_reducible refine (HK.out _).mono ?_); rintro e w' ⟨rfl, rfl⟩)
            go_ret2
            exact numRP_no HGR3.out HAT3.out HN.out (by decide)
          · have hn := HGE.out.trans (numb_go (by rw [← HF.out]; omega) (by rw [← HF.out]; exact h2) (by rw [← HF.out, ← HTT.out]; exact h3) (by rw [← HTT.out]; exact h4))
            rw [← HF.out, ← HTT.out] at hn
            have hw2 : 1 ≤ W * (36 - t) := by
              have : 1 * 1 ≤ W * (36 - t) := Int.mul_le_mul W0 (by omega) (by omega) (by omega)
              omega
            have HN := Lib.hid hn
            clear hn
            go_wp2_with ((with_reducible refine (HK.out _).mono ?_); rintro e w' ⟨rfl, rfl⟩)
            go_roundw
            case rel => exact ⟨D + F * W, W * (36 - t), K + 1, q, rfl, rfl, rfl, HAT3.out, HGR3.out, HN, by omega, by omega, hw2, by omega, by omega, by omega⟩
            case measure => simp [intOf]; omega
end Go.Proofs.YtbcnnjifndmdpaaDoor
namespace Go.Proofs.YtbcnnjifndmdpaaDoor
open Go.RowKit Go
set_option linter.unusedVariables false
/-- what is known of a reader: its block, and the row of points that it holds -/
def Rd (w : World) (B g : Nat) (r : ByteArray) (st : Ds) : Prop := ∃ v, At w g 96 (rdC r v st.2.1 st.2.2.1 st.2.2.2.1 st.2.2.2.2) ∧ w.ownsRow B 21 1 v st.1.length (intVs .i32 st.1)
def PutRP (B g : Nat) (r : ByteArray) (d : Int) (st : Ds) (w : World) (e : Ending) (w' : World) : Prop :=
  (∃ x : Int, x ≠ 0 ∧ (putS d st).1 = x ∧ e = .returned (.int .i64 x) ∧ Below B w w') ∨
  (∃ st', putS d st = (0, st') ∧ e = .returned (.int .i64 0) ∧ Rd w' B g r st' ∧ DInv st' ∧ Below B w w')
theorem putRP_no {B g : Nat} {r : ByteArray} {d x : Int} {st st' : Ds} {w w' : World} (h : putS d st = (x, st')) (hx : x ≠ 0) (hb : Below B w w') : PutRP B g r d st w (.returned (.int .i64 x)) w' := .inl ⟨x, hx, by rw [h], rfl, hb⟩
theorem below_only {B : Nat} {w w' : World} {g : Nat} (h : w.grownBy w' (some g)) (hB : B ≤ g) (hw : B ≤ w.heap.size) : Below B w w' :=
  ⟨h.os, h.tape, h.output, h.size, fun k hk => h.block k (by omega) (by intro e; injection e with e; omega)⟩
set_option maxRecDepth 100000 in
set_option maxHeartbeats 4000000 in
theorem rput_any (B g : Nat) (r : ByteArray) (d : Int) (pts : List Int) (n a b : Int) (f : Bool) (w : World) (hR : Rd w B g r (pts, n, a, b, f)) (hi : DInv (pts, n, a, b, f)) (hB : B ≤ g) (hBw : B ≤ w.heap.size) (d0 : 0 ≤ d) (d1 : d ≤ 4294967295) :
    Calls Tryd.prog 69 #[.pointer (some ⟨g, 0, none⟩), .int .i64 d] w (PutRP B g r d (pts, n, a, b, f) w) := by
  obtain ⟨v, hat, hown⟩ := hR
  simp only at hat hown
  have n0 : 128 ≤ n := hi.n0
  have n1 : n ≤ 1114111 := hi.n1
  have a0 : 0 ≤ a := hi.a0
  have a1 : a ≤ 5000 := hi.a1
  have l1 : pts.length ≤ 4096 := hi.l
  have HI := Lib.hid hi
  obtain ⟨A, c, rfl⟩ := own_slice hown
  have hL := fun h => putS_over (d := d) (st := (pts, n, a, b, f)) h
  have hRg := fun h => putS_range (d := d) (st := (pts, n, a, b, f)) h
  have hLg := fun h => putS_long (d := d) (st := (pts, n, a, b, f)) h
  have hOk := fun h => putS_ok (d := d) (st := (pts, n, a, b, f)) h
  have hIn := fun h h2 h3 => putS_inv (d := d) (st := (pts, n, a, b, f)) hi d0 d1 h h2 h3
  simp only at hL hRg hLg hOk hIn
  obtain ⟨L, hLen⟩ : ∃ L, L = pts.length := ⟨_, rfl⟩
  rw [← hLen] at l1 hown hat
  simp only [← hLen] at hRg hLg hOk hIn
  have HLEN := Lib.hid hLen
  have hbe := fun w => behind_any d ((L : Int) + 1) f w d0 (by omega) (by omega) (by omega)
  have hbb := adp_bd d ((L : Int) + 1) f d0 (by omega) (by omega)
  obtain ⟨D, hD⟩ : ∃ D, D = adp d ((L : Int) + 1) f := ⟨_, rfl⟩
  simp only [← hD] at hbe hOk hIn
  rw [← hD] at hbb
  have HBE := Lib.hid hbe
  have q0 := Int.ediv_nonneg (show 0 ≤ a + d by omega) (show (0 : Int) ≤ (L : Int) + 1 by omega)
  have q1 : (a + d) / ((L : Int) + 1) ≤ a + d := Int.ediv_le_self _ (by omega)
  have m0 := Int.emod_nonneg (a + d) (show (L : Int) + 1 ≠ 0 by omega)
  have m1 := Int.emod_lt_of_pos (a + d) (show (0 : Int) < (L : Int) + 1 by omega)
  have HL := Lib.hid hL
  have HRG := Lib.hid hRg
  have HLG := Lib.hid hLg
  have HOK := Lib.hid hOk
  have HIN := Lib.hid hIn
  have HAT := Lib.hid hat
  have HOWN := Lib.hid hown
  have c3 := hat.cells 3 rfl
  have c1 := hat.cells 1 rfl
  have c5 := hat.cells 5 rfl
  have c4 := hat.cells 4 rfl
  have z3 := hat.ice 3
  have z4 := hat.ice 4
  have z5 := hat.ice 5
  clear hi hL hRg hLg hOk hIn hat hown hLen hbe hD
  by_cases hov : 4294967295 < a + d
  · have hn := HL.out hov
    have HN := Lib.hid hn
    clear hn
    go_enter Tryd.func69, Tryd.ntmps69
    go_wp2
    go_ret
    exact putRP_no HN.out (by decide) ((Below.refl _ _).setCell hB _)
  have hat2 : At (((w.setCell ⟨g, 3, none⟩ (.int .i64 (a + d))).setCell ⟨g, 4, none⟩ (.int .i64 D)).setCell ⟨g, 5, none⟩ (.bool false)) g 96 (rdC r (.slice A L c) n (a + d) D false) := ((HAT.out.put 3 (.int .i64 (a + d))).put 4 (.int .i64 D)).put 5 (.bool false)
  have hown2 : (((w.setCell ⟨g, 3, none⟩ (.int .i64 (a + d))).setCell ⟨g, 4, none⟩ (.int .i64 D)).setCell ⟨g, 5, none⟩ (.bool false)).ownsRow B 21 1 (.slice A L c) L (intVs .i32 pts) :=
    own_put (own_put (own_put HOWN.out HAT.out (by decide)) (HAT.out.put 3 (.int .i64 (a + d))) (by decide)) ((HAT.out.put 3 (.int .i64 (a + d))).put 4 (.int .i64 D)) (by decide)
  have hb2 : Below B w (((w.setCell ⟨g, 3, none⟩ (.int .i64 (a + d))).setCell ⟨g, 4, none⟩ (.int .i64 D)).setCell ⟨g, 5, none⟩ (.bool false)) := (((Below.refl _ _).setCell hB _).setCell hB _).setCell hB _
  have HAT2 := Lib.hid hat2
  have HOWN2 := Lib.hid hown2
  have HB2 := Lib.hid hb2
  clear hat2 hown2 hb2
  go_enter Tryd.func69, Tryd.ntmps69
  go_wp2_with ((with_reducible refine (HBE.out _).mono ?_); rintro e w' ⟨rfl, rfl⟩)
  clear c1 c3 c4 c5 z3 z4 z5
  generalize (((w.setCell ⟨g, 3, none⟩ (.int .i64 (a + d))).setCell ⟨g, 4, none⟩ (.int .i64 D)).setCell ⟨g, 5, none⟩ (.bool false)) = w2 at HAT2 HOWN2 HB2 ⊢
  obtain ⟨N, hN⟩ : ∃ N, N = n + (a + d) / ((L : Int) + 1) := ⟨_, rfl⟩
  have hN0 : 128 ≤ N := by omega
  have hN1 : N ≤ 4294967296 + 1114111 := by omega
  have e1 : (a + d).tdiv ((L : Int) + 1) = (a + d) / ((L : Int) + 1) := Int.tdiv_eq_ediv_of_nonneg (by omega)
  have e2 : IntKind.i64.wrap ((a + d) / ((L : Int) + 1)) = (a + d) / ((L : Int) + 1) := IntWalk.i64_in _ (by omega)
  have e3 : IntKind.i64.wrap (n + (a + d) / ((L : Int) + 1)) = N := by rw [hN]; exact IntWalk.i64_in _ (by omega)
  have e5 : ¬ ((L : Int) + 1 = 0) := by omega
  rw [← hN] at HRG HLG HOK HIN
  have HNN := Lib.hid hN
  have K3 := Lib.hid (show (w2.setCell ⟨g, 2, none⟩ (.int .i64 N)).drew.cell? ⟨g, 3, none⟩ = some (.int .i64 (a + d)) from ((HAT2.out.put 2 (.int .i64 N)).drew).cells 3 rfl)
  have hat3 : At (w2.setCell ⟨g, 2, none⟩ (.int .i64 N)).drew g 96 (rdC r (.slice A L c) N (a + d) D false) := (HAT2.out.put 2 (.int .i64 N)).drew
  have hown3 : (w2.setCell ⟨g, 2, none⟩ (.int .i64 N)).drew.ownsRow B 21 1 (.slice A L c) L (intVs .i32 pts) := (own_put HOWN2.out HAT2.out (by decide)).drew
  have hb3 : Below B w (w2.setCell ⟨g, 2, none⟩ (.int .i64 N)).drew := (HB2.out.setCell (p := ⟨g, 2, none⟩) hB _).drew
  have HAT3 := Lib.hid hat3
  have HOWN3 := Lib.hid hown3
  have HB3 := Lib.hid hb3
  have c2 := HAT2.out.cells 2 rfl
  have c3 := HAT2.out.cells 3 rfl
  have z2 := HAT2.out.ice 2
  clear hat3 hown3 hb3 hN
  go_region
  all_goals
    clear c2 c3 z2 K3 e1 e2 e3
    generalize (w2.setCell ⟨g, 2, none⟩ (.int .i64 N)).drew = w3 at HAT3 HOWN3 HB3 ⊢
    have c2 := HAT3.out.cells 2 rfl
    have c3 := HAT3.out.cells 3 rfl
    have z3 := HAT3.out.ice 3
    have hz : ((L : Int) + 1 == 0) = false := by simp; omega
    by_cases hrg : 1114111 < N
    · have hn := HRG.out (by omega) hrg
      have HN := Lib.hid hn
      clear hn
      go_wp2
      go_ret
      exact putRP_no HN.out (by decide) (HB3.out.setCell hB _)
    have hrg2 : N ≤ 1114111 := by omega
    by_cases hlg : 4096 < L + 1
    · have hn := HLG.out (by omega) (by omega) hlg
      have HN := Lib.hid hn
      have hlg2 : (4096 : Int) < (L : Int) + 1 := by omega
      clear hn
      go_wp2
      go_ret
      exact putRP_no HN.out (by decide) (HB3.out.setCell hB _)
    have hlg2 : (L : Int) + 1 ≤ 4096 := by omega
    have hn := HOK.out (by omega) (by omega) hlg
    have hin := HIN.out (by omega) (by omega) hlg
    have HN := Lib.hid hn
    have HIN2 := Lib.hid hin
    clear hn hin
    obtain ⟨i, hii⟩ := Int.eq_ofNat_of_zero_le m0
    rw [hii] at HN HIN2 m1
    have HII := Lib.hid hii
    have hat4 : At (w3.setCell ⟨g, 3, none⟩ (.int .i64 (i : Int))) g 96 (rdC r (.slice A L c) N (i : Int) D false) := HAT3.out.put 3 (.int .i64 (i : Int))
    have hown4 : (w3.setCell ⟨g, 3, none⟩ (.int .i64 (i : Int))).ownsRow B 21 1 (.slice A L c) L (intVs .i32 pts) := own_put HOWN3.out HAT3.out (by decide)
    have hb4 : Below B w (w3.setCell ⟨g, 3, none⟩ (.int .i64 (i : Int))) := HB3.out.setCell (p := ⟨g, 3, none⟩) hB _
    have HAT4 := Lib.hid hat4
    have HOWN4 := Lib.hid hown4
    have HB4 := Lib.hid hb4
    clear hat4 hown4 hb4
    go_wp2_with fail
    clear c2 c3 z3 hz hii
    generalize w3.setCell ⟨g, 3, none⟩ (.int .i64 (i : Int)) = w4 at HAT4 HOWN4 HB4 ⊢
    have c1 : w4.cell? ⟨g, 1, none⟩ = some (.slice A L c) := HAT4.out.cells 1 rfl
    have c2 : w4.cell? ⟨g, 2, none⟩ = some (.int .i64 N) := HAT4.out.cells 2 rfl
    have c3 : w4.cell? ⟨g, 3, none⟩ = some (.int .i64 (i : Int)) := HAT4.out.cells 3 rfl
    have c1a : ∀ ob, (w4.alloc ob).cell? ⟨g, 1, none⟩ = some (.slice A L c) := fun ob => (HAT4.out.alloc ob).cells 1 rfl
    have c3a : ∀ ob, (w4.alloc ob).cell? ⟨g, 3, none⟩ = some (.int .i64 (i : Int)) := fun ob => (HAT4.out.alloc ob).cells 3 rfl
    have e6 : IntKind.i32.wrap N = N := by rw [IntKind.wrap_i32]; omega
    have hatA : At (w4.alloc (.cells #[.int .i32 N] 21)).drew g 96 (rdC r (.slice A L c) N (i : Int) D false) := (HAT4.out.alloc _).drew
    have hownA : (w4.alloc (.cells #[.int .i32 N] 21)).drew.ownsRow B 21 1 (.slice A L c) L (intVs .i32 pts) := (HOWN4.out.alloc _).drew
    have hneb : (Value.slice A L c).ownBlock ≠ some w4.heap.size := by
      intro e
      have h := (HOWN4.out.lt _ e).2
      omega
    have hbA : Below B w (w4.alloc (.cells #[.int .i32 N] 21)).drew := (HB4.out.alloc (Nat.le_trans hBw HB4.out.size) _).drew
    have hBA := Nat.le_trans hBw hbA.size
    have hin := insert_any (w4.alloc (.cells #[.int .i32 N] 21)).drew B L i (.slice A L c) pts hownA (by omega) (by omega) N w4.heap.size (At.new w4 21 #[.int .i32 N]).drew hBA hneb
    have hnegA := hatA.own_ne hownA (by decide)
    have HINS := Lib.hid hin
    have HATA := Lib.hid hatA
    have HOWNA := Lib.hid hownA
    have HBA := Lib.hid hbA
    have HNE := Lib.hid hnegA
    have HBAS := Lib.hid hBA
    clear hin hatA hownA hbA hneb hnegA hBA
    go_region_law (first | (go_simp; go_at_call 82; refine HINS.out.mono ?_; rintro e w5 ⟨gg, cap, rfl, hownI, hgrI⟩; have hatI := HATA.out.grown hgrI HNE.out; have c1' : w5.cell? ⟨g, 1, none⟩ = some (.slice A L c) := hatI.cells 1 rfl; have z1' := hatI.ice 1))
    all_goals
      clear c1 c2 c3 c1a c3a e6 c1' z1'
      have hat6 : At (w5.setCell ⟨g, 1, none⟩ (.slice (some ⟨gg, 0, none⟩) (L + 1) cap)) g 96 (rdC r (.slice (some ⟨gg, 0, none⟩) (L + 1) cap) N (i : Int) D false) := hatI.put 1 _
      have hown6 := own_put (i := 1) (u := .slice (some ⟨gg, 0, none⟩) (L + 1) cap) hownI hatI (by decide)
      have hb6 := (HBA.out.trans (below_own HOWNA.out hgrI HBAS.out)).setCell (p := ⟨g, 1, none⟩) hB (.slice (some ⟨gg, 0, none⟩) (L + 1) cap)
      generalize w5.setCell ⟨g, 1, none⟩ (.slice (some ⟨gg, 0, none⟩) (L + 1) cap) = w6 at hat6 hown6 hb6 ⊢
      have c3 : w6.cell? ⟨g, 3, none⟩ = some (.int .i64 (i : Int)) := hat6.cells 3 rfl
      have z3 := hat6.ice 3
      have HAT6 := Lib.hid hat6
      have HOWN6 := Lib.hid hown6
      clear hat6 hown6 hatI hownI hgrI
      go_wp2
      go_ret
      have hlen : (insL pts i N).length = L + 1 := by rw [insL_len _ _ _ (by have := HLEN.out; omega), HLEN.out]
      refine .inr ⟨_, HN.out, rfl, ⟨.slice (some ⟨gg, 0, none⟩) (L + 1) cap, HAT6.out.put 3 (.int .i64 ((i : Int) + 1)), ?_⟩, HIN2.out, hb6.setCell hB _⟩
      have := own_put (i := 3) (u := .int .i64 ((i : Int) + 1)) HOWN6.out HAT6.out (by decide)
      show World.ownsRow _ B 21 1 _ (insL pts i N).length (intVs .i32 (insL pts i N))
      rw [hlen]
      exact this
end Go.Proofs.YtbcnnjifndmdpaaDoor
namespace Go.Proofs.YtbcnnjifndmdpaaDoor
open Go.RowKit Go
set_option linter.unusedVariables false
theorem own_grown {w w' : World} {B e n g : Nat} {v : Value} {xs : List Value} (h : w.ownsRow B e 1 v n xs) (hne : v.ownBlock ≠ some g) (hg : w.grownBy w' (some g)) : w'.ownsRow B e 1 v n xs := by
  refine ⟨h.1, ?_⟩
  rcases h.2 with h0 | ⟨k, cap, cur, hv, hB, hk, hr⟩
  · exact .inl h0
  · refine .inr ⟨k, cap, cur, hv, hB, ?_, hr⟩
    rw [hg.block k (Array.getElem?_eq_some_iff.1 hk).1 (by rintro e; exact hne (by rw [hv, ← e]; rfl))]
    exact hk
theorem drop_ba (s : ByteArray) (k : Nat) (h : k ≤ s.size) : (s.extract k s.size).data.toList = s.data.toList.drop k := by
  rw [Lib.extract_eq]
  simp
  rw [List.take_of_length_le]
  simp
def restOf (w : World) (g : Nat) : Nat := match w.cell? ⟨g, 0, none⟩ with
  | some (.string r) => r.size
  | _ => 0
theorem restOf_rd {w : World} {B g : Nat} {r : ByteArray} {st : Ds} (h : Rd w B g r st) : restOf w g = r.size := by
  obtain ⟨v, hat, _⟩ := h
  have := hat.cells 0 rfl
  unfold restOf
  rw [this]
  rfl
/-- what reading hands back: the points, or none of them and why -/
def DecP (q : IntKind) (s : List UInt8) (w : World) (e : Ending) (w' : World) : Prop :=
  Below w.heap.size w w' ∧ ∃ A c, e = .returned (.tuple #[.slice A (decE s).1.length c, .int .i64 (decE s).2]) ∧ IntsAt w' q A (decE s).1.length (decE s).1
theorem decP_no {q : IntKind} {s : List UInt8} {w w' : World} {x : Int} (hb : Below w.heap.size w w') (h : decE s = ([], x)) : DecP q s w (.returned (.tuple #[.slice none 0 0, .int .i64 x])) w' :=
  ⟨hb, none, 0, by rw [h]; rfl, by rw [h]; exact ⟨rfl, fun h => absurd h (by simp)⟩⟩
theorem decP_yes {q : IntKind} {s : List UInt8} {w w' : World} {l : List Int} {A : Option Addr} {c : Nat} (hb : Below w.heap.size w w') (h : decE s = (l, 0)) (ha : IntsAt w' q A l.length l) : DecP q s w (.returned (.tuple #[.slice A l.length c, .int .i64 0])) w' :=
  ⟨hb, A, c, by rw [h], by rw [h]; exact ha⟩
theorem lastNo_any (s : ByteArray) (w : World) (hs : s.size ≤ 9223372036854775806) (h : hyf s.data.toList = 0) : Calls Tryd.prog 66 #[.string s, .int .u8 45] w fun e w' => e = .returned (.int .i64 (-1)) ∧ w = w' := by
  have := last_any s w hs
  rw [h] at this
  exact this
theorem lastYes_any (s : ByteArray) (j : Nat) (w : World) (hs : s.size ≤ 9223372036854775806) (h : hyf s.data.toList = j + 1) : Calls Tryd.prog 66 #[.string s, .int .u8 45] w fun e w' => e = .returned (.int .i64 (j : Int)) ∧ w = w' := by
  have := last_any s w hs
  rw [h] at this
  have e : ((j + 1 : Nat) : Int) - 1 = (j : Int) := by omega
  rw [e] at this
  exact this
set_option maxRecDepth 100000 in
set_option maxHeartbeats 4000000 in
theorem decode_any (s : ByteArray) (w : World) (hs : s.size ≤ 9223372036854775806) : Calls Tryd.prog 54 #[.string s] w (DecP .i32 s.data.toList w) := by
  have hsl : s.data.toList.length = s.size := by simp
  have HSL := Lib.hid hsl
  clear hsl
  by_cases hbig : 32768 < s.size
  · have he := decE_long (s := s.data.toList) (by rw [HSL.out]; exact hbig)
    have HE := Lib.hid he
    clear he
    go_enter Tryd.func54, Tryd.ntmps54
    go_wp2
    go_ret2
    exact decP_no (Below.refl _ _) HE.out
  have hle := hyf_le s.data.toList
  rw [HSL.out] at hle
  obtain ⟨H, hH⟩ : ∃ H, H = hyf s.data.toList := ⟨_, rfl⟩
  rw [← hH] at hle
  have HH := Lib.hid hH
  by_cases h0 : H = 0
  · have hk := fun w => lastNo_any s w hs (by rw [← hH, h0])
    have HK := Lib.hid hk
    subst h0
    clear hk hH
    have hpl : (s.extract 0 (max (-1 : Int) 0).toNat).data.toList = preL s.data.toList := by
      unfold preL
      rw [← HH.out, Lib.extract_eq]
      simp
      left
      omega
    have hps : (s.extract 0 (max (-1 : Int) 0).toNat).size ≤ 40000 := by rw [ByteArray.size_extract]; omega
    have hbas := basic_any (s.extract 0 (max (-1 : Int) 0).toNat) w hps
    rw [hpl] at hbas
    have HBAS := Lib.hid hbas
    clear hpl hps hbas
    go_enter Tryd.func54, Tryd.ntmps54
    go_wp2_with ((with_reducible refine (HK.out _).mono ?_); rintro e w' ⟨rfl, rfl⟩)
    ((with_reducible refine HBAS.out.mono ?_))
    rintro e w1 (⟨hb1, rfl, HB1⟩ | ⟨hb1, hm1, rfl, HB1⟩ | ⟨hb1, hm1, ha1, v, rfl, hown, HB1⟩)
    · have he := decE_big (s := s.data.toList) (by rw [HSL.out]; exact hbig) hb1
      have HE := Lib.hid he
      clear he hb1
      go_wp2
      go_ret2
      exact decP_no HB1 HE.out
    · have he := decE_many (s := s.data.toList) (by rw [HSL.out]; exact hbig) hb1 hm1
      have HE := Lib.hid he
      clear he hb1 hm1
      go_wp2
      go_ret2
      exact decP_no HB1 HE.out
    · have he := decE_go (s := s.data.toList) (by rw [HSL.out]; exact hbig) hb1 (by omega)
      have HE := Lib.hid he
      have hdi := dInv_start (l := preL s.data.toList) (by omega) ha1
      have HDI := Lib.hid hdi
      obtain ⟨A, c, rfl⟩ := own_slice hown
      have HOWN := Lib.hid hown
      clear he hb1 ha1 hdi hown
      have hwr : Rd (w1.alloc (.cells (rdC s (.slice A (preL s.data.toList).length c) 128 0 72 true) 96)) w.heap.size w1.heap.size (s) (ptsL (preL s.data.toList), 128, 0, 72, true) := ⟨_, At.new _ _ _, by
        show World.ownsRow _ _ _ _ _ (ptsL (preL s.data.toList)).length _
        rw [ptsL_len]
        exact HOWN.out.alloc _⟩
      have hbw : Below w.heap.size w (w1.alloc (.cells (rdC s (.slice A (preL s.data.toList).length c) 128 0 72 true) 96)) := HB1.alloc HB1.size _
      have hrl : (s).data.toList = s.data.toList.drop (hyf s.data.toList) := by
        rw [← HH.out]; rfl
      have hrs : (s).size ≤ s.size := by omega
      have HG := Lib.hid (show w.heap.size ≤ w1.heap.size from HB1.size)
      have hst : Hid (decE s.data.toList = decL s.size (s).data.toList (ptsL (preL s.data.toList), 128, 0, 72, true)) := Lib.hid (HE.out.trans (by rw [HSL.out]; exact congrArg (fun z => decL s.size z (ptsL (preL s.data.toList), 128, 0, 72, true)) hrl.symm))
      have HWR := Lib.hid hwr
      have HBW := Lib.hid hbw
      have HRS := Lib.hid hrs
      clear hwr hbw hrl hrs
      go_wp2_with fail
      go_loopw [32] (fun _ wr => ∃ (f : Nat) (rr : ByteArray) (st : Ds), Rd wr w.heap.size w1.heap.size rr st ∧ Hid (DInv st) ∧ Below w.heap.size w wr ∧ Hid (decE s.data.toList = decL f rr.data.toList st) ∧ Hid (rr.size ≤ f) ∧ rr.size ≤ s.size) (fun _ wr => restOf wr w1.heap.size)
      case atStart => exact ⟨s.size, _, _, HWR.out, HDI, HBW.out, hst, HRS, HRS.out⟩
      case round =>
        obtain ⟨f, rr, ⟨pts, n, a, b, fst⟩, hRd, hI, HB, hdec, hf, hrs⟩ := hrel
        have hro := restOf_rd hRd
        have HRO := Lib.hid hro
        have HRD := Lib.hid hRd
        obtain ⟨v, hat, hown⟩ := hRd
        simp only at hat hown hI hdec
        have b0 : 0 ≤ b := hI.out.b0
        have b1 : b ≤ 1099511627776 := hI.out.b1
        have c0 : wr.cell? ⟨w1.heap.size, 0, none⟩ = some (.string rr) := hat.cells 0 rfl
        clear hro
        by_cases he : rr.toList.isEmpty = true
        · have hnl : rr.data.toList = [] := by rw [ByteArray.toList_eq] at he; simpa using he
          have hd := hdec.out
          rw [hnl, decL_end] at hd
          have HD := Lib.hid hd
          have c1 := hat.cells 1 rfl
          obtain ⟨A2, c2, rfl, hia⟩ := IntsAt.of_own hown
          have HIA := Lib.hid hia
          clear hnl hd hat hown hia
          go_wp2
          go_ret2
          exact decP_yes HB HD.out HIA.out
        · have he' : rr.toList.isEmpty = false := by simpa using he
          have hrne : rr.data.toList ≠ [] := by
            rw [ByteArray.toList_eq] at he'
            intro h
            rw [h] at he'
            simp at he'
          have HRNE := Lib.hid hrne
          have hnum := rnumber_any w1.heap.size rr v n a b fst wr hat (by omega) b0 b1
          have HNUM := Lib.hid hnum
          have hown' := fun (w' : World) (h : wr.grownBy w' (some w1.heap.size)) => own_grown hown (hat.own_ne hown (by decide)) h
          have HOG := Lib.hid hown'
          clear he hrne hnum hat hown hown'
          go_wp2_with ((with_reducible refine HNUM.out.mono ?_))
          rintro e w2 ⟨hgr, r', hat2, (⟨hx, rfl⟩ | ⟨hx, rfl, hr'⟩)⟩
          · have hd := hdec.out.trans (decL_num (x := (numb b rr.data.toList 1 0 1).1) (by simpa using hf.out) HRNE.out rfl hx)
            have HD := Lib.hid hd
            obtain ⟨x, hxx⟩ : ∃ x, x = (numb b rr.data.toList 1 0 1).1 := ⟨_, rfl⟩
            rw [← hxx] at hx HD
            rw [← hxx]
            have x1 : (x == 0) = false := by simpa using hx
            have x2 : (x != 0) = true := by simpa using hx
            have HB2 := HB.trans (below_only hgr HG.out HB.size)
            clear hd hxx hx hat2 hgr
            go_wp2
            go_ret2
            exact decP_no HB2 HD.out
          · have hless := numb_less b rr.data.toList 1 0 1 (by omega) (by omega) (by omega)
            obtain ⟨d, hd⟩ : ∃ d, d = (numb b rr.data.toList 1 0 1).2.1 := ⟨_, rfl⟩
            have hnn : numb b rr.data.toList 1 0 1 = (0, d, r'.data.toList) := Prod.ext hx (Prod.ext hd.symm hr'.symm)
            rw [← hd] at hless
            rw [← hd]
            have d0 := hless.1
            have d1 := hless.2.1
            have HB2 := HB.trans (below_only hgr HG.out HB.size)
            have hput := rput_any w.heap.size w1.heap.size r' d pts n a b fst w2 ⟨v, hat2, HOG.out w2 hgr⟩ hI.out HG.out (HB2.size) d0 d1
            have HPUT := Lib.hid hput
            have HNN := Lib.hid hnn
            clear hless hnn hx hr' hd hat2 hput
            go_wp2_with ((with_reducible refine HPUT.out.mono ?_))
            rintro e w3 (⟨x, hx, hp, rfl, hb3⟩ | ⟨st', hp, rfl, hRd3, hI3, hb3⟩)
            · have hpp : putS d (pts, n, a, b, fst) = (x, (putS d (pts, n, a, b, fst)).2) := Prod.ext hp rfl
              have hd := hdec.out.trans (decL_put (by simpa using hf.out) HRNE.out HNN.out hpp hx)
              have HD := Lib.hid hd
              have x2 : (x != 0) = true := by simpa using hx
              have HB3 := HB2.trans hb3
              clear hd hx hp hpp
              go_wp2
              go_ret2
              exact decP_no HB3 HD.out
            · obtain ⟨f', hd, hf2, hlt⟩ := decL_go (by simpa using hf.out) HRNE.out HNN.out hp
              have HD := Lib.hid (hdec.out.trans hd)
              have HF2 : Hid (r'.size ≤ f') := Lib.hid (by simpa using hf2)
              have hlt2 : r'.size < rr.size := by simpa using hlt
              have HB3 := HB2.trans hb3
              have HI3 := Lib.hid hI3
              have HRO3 := Lib.hid (restOf_rd hRd3)
              have HRD3 := Lib.hid hRd3
              clear hd hp hf2 hlt hI3 hRd3
              go_wp2
              go_roundw
              case rel => exact ⟨f', r', st', HRD3.out, HI3, HB3, HD, HF2, by omega⟩
              case measure => simp only [HRO.out, HRO3.out]; omega
  · obtain ⟨j, rfl⟩ : ∃ j, H = j + 1 := ⟨H - 1, by omega⟩
    have hk := fun w => lastYes_any s j w hs hH.symm
    have HK := Lib.hid hk
    clear hk hH h0
    have hpl : (s.extract 0 j).data.toList = preL s.data.toList := by
      unfold preL
      rw [← HH.out, Lib.extract_eq]
      first | done | simp
    have hps : (s.extract 0 j).size ≤ 40000 := by rw [ByteArray.size_extract]; omega
    have hbas := basic_any (s.extract 0 j) w hps
    rw [hpl] at hbas
    have HBAS := Lib.hid hbas
    clear hpl hps hbas
    go_enter Tryd.func54, Tryd.ntmps54
    go_wp2_with ((with_reducible refine (HK.out _).mono ?_); rintro e w' ⟨rfl, rfl⟩)
    ((with_reducible refine HBAS.out.mono ?_))
    rintro e w1 (⟨hb1, rfl, HB1⟩ | ⟨hb1, hm1, rfl, HB1⟩ | ⟨hb1, hm1, ha1, v, rfl, hown, HB1⟩)
    · have he := decE_big (s := s.data.toList) (by rw [HSL.out]; exact hbig) hb1
      have HE := Lib.hid he
      clear he hb1
      go_wp2
      go_ret2
      exact decP_no HB1 HE.out
    · have he := decE_many (s := s.data.toList) (by rw [HSL.out]; exact hbig) hb1 hm1
      have HE := Lib.hid he
      clear he hb1 hm1
      go_wp2
      go_ret2
      exact decP_no HB1 HE.out
    · have he := decE_go (s := s.data.toList) (by rw [HSL.out]; exact hbig) hb1 (by omega)
      have HE := Lib.hid he
      have hdi := dInv_start (l := preL s.data.toList) (by omega) ha1
      have HDI := Lib.hid hdi
      obtain ⟨A, c, rfl⟩ := own_slice hown
      have HOWN := Lib.hid hown
      clear he hb1 ha1 hdi hown
      have hwr : Rd (w1.alloc (.cells (rdC (s.extract (j + 1) s.size) (.slice A (preL s.data.toList).length c) 128 0 72 true) 96)) w.heap.size w1.heap.size (s.extract (j + 1) s.size) (ptsL (preL s.data.toList), 128, 0, 72, true) := ⟨_, At.new _ _ _, by
        show World.ownsRow _ _ _ _ _ (ptsL (preL s.data.toList)).length _
        rw [ptsL_len]
        exact HOWN.out.alloc _⟩
      have hbw : Below w.heap.size w (w1.alloc (.cells (rdC (s.extract (j + 1) s.size) (.slice A (preL s.data.toList).length c) 128 0 72 true) 96)) := HB1.alloc HB1.size _
      have hrl : (s.extract (j + 1) s.size).data.toList = s.data.toList.drop (hyf s.data.toList) := by
        rw [← HH.out]; exact drop_ba s (j + 1) (by omega)
      have hrs : (s.extract (j + 1) s.size).size ≤ s.size := by rw [ByteArray.size_extract]; omega
      have HG := Lib.hid (show w.heap.size ≤ w1.heap.size from HB1.size)
      have hst : Hid (decE s.data.toList = decL s.size (s.extract (j + 1) s.size).data.toList (ptsL (preL s.data.toList), 128, 0, 72, true)) := Lib.hid (HE.out.trans (by rw [HSL.out]; exact congrArg (fun z => decL s.size z (ptsL (preL s.data.toList), 128, 0, 72, true)) hrl.symm))
      have HWR := Lib.hid hwr
      have HBW := Lib.hid hbw
      have HRS := Lib.hid hrs
      clear hwr hbw hrl hrs
      go_wp2_with fail
      go_loopw [32] (fun _ wr => ∃ (f : Nat) (rr : ByteArray) (st : Ds), Rd wr w.heap.size w1.heap.size rr st ∧ Hid (DInv st) ∧ Below w.heap.size w wr ∧ Hid (decE s.data.toList = decL f rr.data.toList st) ∧ Hid (rr.size ≤ f) ∧ rr.size ≤ s.size) (fun _ wr => restOf wr w1.heap.size)
      case atStart => exact ⟨s.size, _, _, HWR.out, HDI, HBW.out, hst, HRS, HRS.out⟩
      case round =>
        obtain ⟨f, rr, ⟨pts, n, a, b, fst⟩, hRd, hI, HB, hdec, hf, hrs⟩ := hrel
        have hro := restOf_rd hRd
        have HRO := Lib.hid hro
        have HRD := Lib.hid hRd
        obtain ⟨v, hat, hown⟩ := hRd
        simp only at hat hown hI hdec
        have b0 : 0 ≤ b := hI.out.b0
        have b1 : b ≤ 1099511627776 := hI.out.b1
        have c0 : wr.cell? ⟨w1.heap.size, 0, none⟩ = some (.string rr) := hat.cells 0 rfl
        clear hro
        by_cases he : rr.toList.isEmpty = true
        · have hnl : rr.data.toList = [] := by rw [ByteArray.toList_eq] at he; simpa using he
          have hd := hdec.out
          rw [hnl, decL_end] at hd
          have HD := Lib.hid hd
          have c1 := hat.cells 1 rfl
          obtain ⟨A2, c2, rfl, hia⟩ := IntsAt.of_own hown
          have HIA := Lib.hid hia
          clear hnl hd hat hown hia
          go_wp2
          go_ret2
          exact decP_yes HB HD.out HIA.out
        · have he' : rr.toList.isEmpty = false := by simpa using he
          have hrne : rr.data.toList ≠ [] := by
            rw [ByteArray.toList_eq] at he'
            intro h
            rw [h] at he'
            simp at he'
          have HRNE := Lib.hid hrne
          have hnum := rnumber_any w1.heap.size rr v n a b fst wr hat (by omega) b0 b1
          have HNUM := Lib.hid hnum
          have hown' := fun (w' : World) (h : wr.grownBy w' (some w1.heap.size)) => own_grown hown (hat.own_ne hown (by decide)) h
          have HOG := Lib.hid hown'
          clear he hrne hnum hat hown hown'
          go_wp2_with ((with_reducible refine HNUM.out.mono ?_))
          rintro e w2 ⟨hgr, r', hat2, (⟨hx, rfl⟩ | ⟨hx, rfl, hr'⟩)⟩
          · have hd := hdec.out.trans (decL_num (x := (numb b rr.data.toList 1 0 1).1) (by simpa using hf.out) HRNE.out rfl hx)
            have HD := Lib.hid hd
            obtain ⟨x, hxx⟩ : ∃ x, x = (numb b rr.data.toList 1 0 1).1 := ⟨_, rfl⟩
            rw [← hxx] at hx HD
            rw [← hxx]
            have x1 : (x == 0) = false := by simpa using hx
            have x2 : (x != 0) = true := by simpa using hx
            have HB2 := HB.trans (below_only hgr HG.out HB.size)
            clear hd hxx hx hat2 hgr
            go_wp2
            go_ret2
            exact decP_no HB2 HD.out
          · have hless := numb_less b rr.data.toList 1 0 1 (by omega) (by omega) (by omega)
            obtain ⟨d, hd⟩ : ∃ d, d = (numb b rr.data.toList 1 0 1).2.1 := ⟨_, rfl⟩
            have hnn : numb b rr.data.toList 1 0 1 = (0, d, r'.data.toList) := Prod.ext hx (Prod.ext hd.symm hr'.symm)
            rw [← hd] at hless
            rw [← hd]
            have d0 := hless.1
            have d1 := hless.2.1
            have HB2 := HB.trans (below_only hgr HG.out HB.size)
            have hput := rput_any w.heap.size w1.heap.size r' d pts n a b fst w2 ⟨v, hat2, HOG.out w2 hgr⟩ hI.out HG.out (HB2.size) d0 d1
            have HPUT := Lib.hid hput
            have HNN := Lib.hid hnn
            clear hless hnn hx hr' hd hat2 hput
            go_wp2_with ((with_reducible refine HPUT.out.mono ?_))
            rintro e w3 (⟨x, hx, hp, rfl, hb3⟩ | ⟨st', hp, rfl, hRd3, hI3, hb3⟩)
            · have hpp : putS d (pts, n, a, b, fst) = (x, (putS d (pts, n, a, b, fst)).2) := Prod.ext hp rfl
              have hd := hdec.out.trans (decL_put (by simpa using hf.out) HRNE.out HNN.out hpp hx)
              have HD := Lib.hid hd
              have x2 : (x != 0) = true := by simpa using hx
              have HB3 := HB2.trans hb3
              clear hd hx hp hpp
              go_wp2
              go_ret2
              exact decP_no HB3 HD.out
            · obtain ⟨f', hd, hf2, hlt⟩ := decL_go (by simpa using hf.out) HRNE.out HNN.out hp
              have HD := Lib.hid (hdec.out.trans hd)
              have HF2 : Hid (r'.size ≤ f') := Lib.hid (by simpa using hf2)
              have hlt2 : r'.size < rr.size := by simpa using hlt
              have HB3 := HB2.trans hb3
              have HI3 := Lib.hid hI3
              have HRO3 := Lib.hid (restOf_rd hRd3)
              have HRD3 := Lib.hid hRd3
              clear hd hp hf2 hlt hI3 hRd3
              go_wp2
              go_roundw
              case rel => exact ⟨f', r', st', HRD3.out, HI3, HB3, HD, HF2, by omega⟩
              case measure => simp only [HRO.out, HRO3.out]; omega
end Go.Proofs.YtbcnnjifndmdpaaDoor
