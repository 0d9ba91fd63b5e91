import Derived.Test.YtkgnhdebphaknaaDoorIns
import Derived.Test.YtkgnhdebphaknaaDoorMath03c
import Derived.Test.YtkgnhdebphaknaaDoorShelf
import Derived.Lib.Bytealg
namespace Go.Proofs.YtkgnhdebphaknaaDoor
open Go.RowKit Go
set_option linter.unusedVariables false
theorem hyf_at (s : ByteArray) (j : Nat) (hj : j < s.size) (hd : ∀ c ∈ s.data.toList.drop (j + 1), c ≠ 45) (he : s[j].toNat = 45) : hyf s.data.toList = j + 1 := by
  have h1 : s.data.toList = s.data.toList.take (j + 1) ++ s.data.toList.drop (j + 1) := (List.take_append_drop _ _).symm
  rw [h1, hyf_app _ _ hd, take_snoc s j hj, show s[j] = 45 from UInt8.toNat_inj.1 he, hyf_yes, List.length_take]
  simp; omega
theorem hyf_none (s : ByteArray) (hd : ∀ c ∈ s.data.toList, c ≠ 45) : hyf s.data.toList = 0 := by
  have := hyf_app s.data.toList [] hd
  simpa [hyf_nil] using this
theorem ne45 (s : ByteArray) (j : Nat) (hj : j < s.size) (hd : ∀ c ∈ s.data.toList.drop (j + 1), c ≠ 45) (he : s[j].toNat ≠ 45) : ∀ c ∈ s.data.toList.drop j, c ≠ 45 := by
  have hjl : j < s.data.toList.length := by simpa using hj
  rw [List.drop_eq_getElem_cons hjl]
  intro c hc
  rcases List.mem_cons.1 hc with rfl | hc
  · intro e
    apply he
    have : s[j] = 45 := e
    rw [this]; rfl
  · exact hd c hc
set_option maxHeartbeats 1000000 in
theorem lastStr_any (s : ByteArray) (w : World) (hs : s.size ≤ 9223372036854775806) :
    Calls Tryd.prog 56 #[.string s, .int .u8 45] w fun e w' => e = .returned (.int .i64 ((hyf s.data.toList : Int) - 1)) ∧ w = w' := by
  go_enter Tryd.func56, Tryd.ntmps56
  go_wp2
  go_loop [5] (fun i => ∃ q : Int, i = .int .i64 q ∧ -1 ≤ q ∧ q < s.size ∧ Hid (∀ c ∈ s.data.toList.drop (q + 1).toNat, c ≠ 45)) (fun i => (intOf i + 1).toNat)
  case atStart => exact ⟨(s.size : Int) - 1, rfl, by omega, by omega, Lib.hid (by rw [List.drop_eq_nil_of_le (by simp)]; simp)⟩
  case round =>
    obtain ⟨q, rfl, q0, q1, hd⟩ := hrel
    by_cases hq : q < 0
    · obtain rfl : q = -1 := by omega
      have hh := hyf_none s hd.out
      have HH := Lib.hid hh
      clear hh
      go_wp2
      go_ret
      exact ⟨ret_int (by rw [HH.out]; rfl), rfl⟩
    · obtain ⟨j, rfl⟩ := Int.eq_ofNat_of_zero_le (show 0 ≤ q by omega)
      have hj : j < s.size := by omega
      have hd2 : ∀ c ∈ s.data.toList.drop (j + 1), c ≠ 45 := hd.out
      have HD := Lib.hid hd2
      clear hd hd2
      have hb : (s[j].toNat : Int) ≤ 255 := by have := s[j].toNat_lt; omega
      by_cases he : s[j].toNat = 45
      · have hh := hyf_at s j hj HD.out he
        have HH := Lib.hid hh
        have he2 : ((s[j].toNat : Int) == 45) = true := by simp [he]
        clear hh he
        go_wp2
        go_ret
        exact ⟨ret_int (by rw [HH.out]; omega), rfl⟩
      · have hn := ne45 s j hj HD.out he
        have HN := Lib.hid hn
        have he2 : ((s[j].toNat : Int) == 45) = false := by simp; omega
        clear hn he
        go_wp2
        go_round
        case rel => exact ⟨(j : Int) - 1, rfl, by omega, by omega, Lib.hid (by rw [show ((j : Int) - 1 + 1).toNat = j by omega]; exact HN.out)⟩
        case measure => simp [intOf] <;> omega
set_option maxHeartbeats 1000000 in
theorem last_any (s : ByteArray) (w : World) (hs : s.size ≤ 9223372036854775806) :
    Calls Tryd.prog 46 #[.string s, .int .u8 45] w fun e w' => e = .returned (.int .i64 ((hyf s.data.toList : Int) - 1)) ∧ w = w' := by
  have hk := lastStr_any s w hs
  obtain ⟨X, hX⟩ : ∃ X, X = (hyf s.data.toList : Int) - 1 := ⟨_, rfl⟩
  rw [← hX] at hk ⊢
  have HK := Lib.hid hk
  clear hk hX
  go_enter Tryd.func46, Tryd.ntmps46
  go_wp2_with fail
  ((with_reducible refine HK.out.mono ?_))
  rintro e w' ⟨rfl, rfl⟩
  go_wp2
  go_ret
  exact ⟨rfl, rfl⟩
theorem bigB_at (s : ByteArray) (k : Nat) (hk : k < s.size) (h : 128 ≤ s[k].toNat) : bigB s.data.toList = true := by
  unfold bigB
  rw [List.any_eq_true]
  exact ⟨s[k], by have : s.data.toList[k]'(by simpa using hk) ∈ s.data.toList := List.getElem_mem _; exact this, by simpa using h⟩
theorem bigB_none {l : List UInt8} (h : ∀ c ∈ l, c.toNat < 128) : bigB l = false := by
  unfold bigB
  rw [List.any_eq_false]
  intro c hc
  have := h c hc
  simp; omega
theorem ptsL_step (s : ByteArray) (k : Nat) (hk : k < s.size) : ptsL (s.data.toList.take (k + 1)) = ptsL (s.data.toList.take k) ++ [(s[k].toNat : Int)] := by
  rw [take_snoc s k hk]; simp [ptsL]
theorem ptsL_len (l : List UInt8) : (ptsL l).length = l.length := by simp [ptsL]
/-- what basicPoints hands back -/
def BasP (l : List UInt8) (w : World) (e : Ending) (w' : World) : Prop :=
  (bigB l = true ∧ e = .returned (.tuple #[.slice none 0 0, .int .i64 5]) ∧ Below w.heap.size w w') ∨
  (bigB l = false ∧ 4096 < l.length ∧ e = .returned (.tuple #[.slice none 0 0, .int .i64 3]) ∧ Below w.heap.size w w') ∨
  (bigB l = false ∧ l.length ≤ 4096 ∧ (∀ c ∈ l, c.toNat < 128) ∧ ∃ v, e = .returned (.tuple #[v, .int .i64 0]) ∧ w'.ownsRow w.heap.size 21 1 v l.length (intVs .i32 (ptsL l)) ∧ Below w.heap.size w w')
def ByAt (s : ByteArray) (b : Nat) (wr : World) : Prop := b < wr.heap.size ∧ ∀ j (h : j < s.size), wr.cell? ⟨b, j, none⟩ = some (.int .u8 s[j].toNat)
theorem byAt_start (s : ByteArray) (w : World) : ByAt s w.heap.size ((w.alloc (.cells (bytesRow s (grownCap w s.size 0 5)) 5 ((bytesRow s (grownCap w s.size 0 5)).size, (bytesRow s (grownCap w s.size 0 5)).size + 1))).drew) := by
  refine ⟨by simp, fun j hj => ?_⟩
  show (w.alloc _).cell? _ = _
  rw [World.cell?_alloc_mark, bytesRow_at _ _ _ (by simpa using hj)]
  rfl
theorem own_mono {w : World} {B B' e n : Nat} {v : Value} {xs : List Value} (h : w.ownsRow B e 1 v n xs) (hb : B' ≤ B) : w.ownsRow B' e 1 v n xs := by
  refine ⟨h.1, ?_⟩
  rcases h.2 with h0 | ⟨g, cap, cur, hv, hB, hr⟩
  · exact .inl h0
  · exact .inr ⟨g, cap, cur, hv, by omega, hr⟩
set_option maxRecDepth 100000 in
set_option maxHeartbeats 2000000 in
theorem basic_any (s : ByteArray) (w : World) (hs : s.size ≤ 40000) : Calls Tryd.prog 47 #[.string s] w (BasP s.data.toList w) := by
  have kb := run_bytes_of_string (P := Tryd.prog) w 9 33 5 s Tryd.underlying9 Tryd.underlying33 Tryd.underlying5
  have hst := byAt_start s w
  have hb1 : Below w.heap.size w ((w.alloc (.cells (bytesRow s (grownCap w s.size 0 5)) 5 ((bytesRow s (grownCap w s.size 0 5)).size, (bytesRow s (grownCap w s.size 0 5)).size + 1))).drew) := ((Below.refl _ _).alloc (Nat.le_refl _) _).drew
  have hsz : ((w.alloc (.cells (bytesRow s (grownCap w s.size 0 5)) 5 ((bytesRow s (grownCap w s.size 0 5)).size, (bytesRow s (grownCap w s.size 0 5)).size + 1))).drew).heap.size = w.heap.size + 1 := by simp
  have HST := Lib.hid hst
  have HB1 := Lib.hid hb1
  have HSZ := Lib.hid hsz
  clear hst hb1 hsz
  go_enter Tryd.func47, Tryd.ntmps47
  go_wp2
  clear kb
  generalize ((w.alloc (.cells (bytesRow s (grownCap w s.size 0 5)) 5 ((bytesRow s (grownCap w s.size 0 5)).size, (bytesRow s (grownCap w s.size 0 5)).size + 1))).drew) = W1 at HST HB1 HSZ ⊢
  go_loopw [4, 10] (fun v i wr => ∃ k : Nat, k ≤ s.size ∧ i = .int .i64 k ∧ wr.ownsRow W1.heap.size 21 1 v k (intVs .i32 (ptsL (s.data.toList.take k))) ∧ Below W1.heap.size W1 wr ∧ Hid (∀ c ∈ s.data.toList.take k, c.toNat < 128)) (fun _ i _ => s.size - (intOf i).toNat)
  case atStart => exact ⟨0, Nat.zero_le _, rfl, World.ownsRow_nil _ _ _ _, Below.refl _ _, Lib.hid (by simp)⟩
  case round =>
    obtain ⟨k, hk, rfl, hown, HB, hall⟩ := hrel
    have HBW : Below w.heap.size w wr := HB1.out.trans (HB.mono (by rw [HSZ.out]; omega))
    by_cases hlt : k < s.size
    · have hc := HST.out.2 k hlt
      rw [← HB.cell (p := ⟨w.heap.size, k, none⟩) HST.out.1] at hc
      have hb : (s[k].toNat : Int) ≤ 255 := by have := s[k].toNat_lt; omega
      have hstep := ptsL_step s k hlt
      have HS := Lib.hid hstep
      have hwz := HB.size
      clear hstep
      by_cases h128 : 128 ≤ s[k].toNat
      · have hbig := bigB_at s k hlt h128
        have HBIG := Lib.hid hbig
        have h2 : (128 : Int) ≤ (s[k].toNat : Int) := by omega
        clear hbig
        go_wp2
        go_ret2
        exact .inl ⟨HBIG.out, rfl, HBW⟩
      · have h2 : (s[k].toNat : Int) < 128 := by omega
        have hall2 : ∀ c ∈ s.data.toList.take (k + 1), c.toNat < 128 := by
          rw [take_snoc s k hlt]
          intro c hc
          rcases List.mem_append.1 hc with hc | hc
          · exact hall.out c hc
          · obtain rfl := List.mem_singleton.1 hc
            omega
        have HALL := Lib.hid hall2
        clear hall2
        go_wp2_with (at_builtin; refine wpList_app1 rfl (.tmp 16) (.tmp 19) 38 21 rfl Tryd.underlying38 elemI32 rfl W1.heap.size _ k _ _ rfl rfl hown rfl (by omega) (by omega) hwz ?_)
        intro v' w2 hown2 HB2 hne
        have hown3 : w2.ownsRow W1.heap.size 21 1 v' (k + 1) (intVs .i32 (ptsL (s.data.toList.take (k + 1)))) := by
          rw [HS.out]; exact own_appInt1 hown2
        clear hown2 hown
        go_wp2_with fail
        go_roundw
        case rel => exact ⟨k + 1, by omega, by go_num, hown3, HB.trans HB2, HALL⟩
        case measure => simp [intOf]; omega
    · obtain rfl : k = s.size := by omega
      have htk : s.data.toList.take s.size = s.data.toList := List.take_of_length_le (by simp)
      rw [htk] at hown hall
      have hno := bigB_none hall.out
      have HNO := Lib.hid hno
      have hsl : s.data.toList.length = s.size := by simp
      have HSL := Lib.hid hsl
      obtain ⟨A, c, rfl⟩ := own_slice hown
      have hown2 := own_mono hown (show w.heap.size ≤ W1.heap.size by rw [HSZ.out]; omega)
      clear hno hsl htk hown
      by_cases hl : 4096 < s.size
      · go_wp2
        go_ret2
        exact .inr (.inl ⟨HNO.out, by rw [HSL.out]; exact hl, rfl, HBW⟩)
      · go_wp2
        go_ret2
        exact .inr (.inr ⟨HNO.out, by rw [HSL.out]; omega, hall.out, _, rfl, by rw [HSL.out]; exact hown2, HBW⟩)
end Go.Proofs.YtkgnhdebphaknaaDoor
