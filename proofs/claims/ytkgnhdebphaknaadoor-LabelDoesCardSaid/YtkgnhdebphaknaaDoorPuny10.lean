import Derived.Test.YtkgnhdebphaknaaDoorPuny9
namespace Go.Proofs.YtkgnhdebphaknaaDoor
open Go.RowKit Go
set_option linter.unusedVariables false
abbrev rdC (r : ByteArray) (v : Value) (n a b : Int) (f : Bool) : Array Value := #[.string r, v, .int .i64 n, .int .i64 a, .int .i64 b, .bool f]
theorem idx_tab : ∀ n : Fin 256, Lib.indexByte figTab.data.toList (UInt8.ofNat (if 65 ≤ n.val ∧ n.val ≤ 90 then n.val + 32 else n.val)) = valI (n.val : Int) := by decide +kernel
theorem idx_up {c : Int} (h0 : 65 ≤ c) (h1 : c ≤ 90) : Lib.indexByte figTab.data.toList (c + 32).toNat.toUInt8 = valI c := by
  obtain ⟨n, rfl⟩ := Int.eq_ofNat_of_zero_le (show 0 ≤ c by omega)
  have := idx_tab ⟨n, by omega⟩
  simp only at this
  rw [if_pos (by omega)] at this
  rw [← this]
  rfl
theorem idx_no {c : Int} (h0 : 0 ≤ c) (h1 : c ≤ 255) (h : c < 65 ∨ 90 < c) : Lib.indexByte figTab.data.toList c.toNat.toUInt8 = valI c := by
  obtain ⟨n, rfl⟩ := Int.eq_ofNat_of_zero_le (show 0 ≤ c by omega)
  have := idx_tab ⟨n, by omega⟩
  simp only at this
  rw [if_neg (by omega)] at this
  rw [← this]
  rfl
theorem idxUp_any (c : Int) (w : World) (h0 : 65 ≤ c) (h1 : c ≤ 90) : Calls Tryd.prog 65 #[.string figTab, .int .u8 (c + 32)] w fun e w' => e = .returned (.int .i64 (valI c)) ∧ w = w' := by
  refine (Tryd.strings_IndexByte figTab (c + 32) w).mono ?_
  rintro e w' ⟨rfl, rfl⟩
  exact ⟨ret_int (idx_up h0 h1), rfl⟩
theorem idxNo_any (c : Int) (w : World) (h0 : 0 ≤ c) (h1 : c ≤ 255) (h : c < 65 ∨ 90 < c) : Calls Tryd.prog 65 #[.string figTab, .int .u8 c] w fun e w' => e = .returned (.int .i64 (valI c)) ∧ w = w' := by
  refine (Tryd.strings_IndexByte figTab c w).mono ?_
  rintro e w' ⟨rfl, rfl⟩
  exact ⟨ret_int (idx_no h0 h1 h), rfl⟩
theorem head_ba (r : ByteArray) (h : 0 < r.size) : r.data.toList = r[0] :: (r.extract 1 r.size).data.toList := by
  have h1 : 0 < r.data.toList.length := by simpa using h
  have h2 : r.data.toList = r.data.toList[0] :: r.data.toList.drop 1 := by
    conv => lhs; rw [← List.drop_zero (l := r.data.toList)]
    exact List.drop_eq_getElem_cons h1
  have h3 : (r.extract 1 r.size).data.toList = r.data.toList.drop 1 := by
    rw [Lib.extract_eq]
    simp
    rw [List.take_of_length_le]
    simp
  rw [h3]
  exact h2
theorem ba_eta (r : ByteArray) : (⟨r.data.toList.toArray⟩ : ByteArray) = r := by simp
/-- what figure does: the text's head gone, and the figure, if it is one -/
def FigP (g : Nat) (r : ByteArray) (w : World) (e : Ending) (w' : World) : Prop :=
  (r.data.toList = [] ∧ e = .returned (.tuple #[.int .i64 0, .bool false]) ∧ w = w') ∨
  (∃ (c : UInt8) (t : ByteArray), r.data.toList = c :: t.data.toList ∧ w' = w.setCell ⟨g, 0, none⟩ (.string t) ∧ ((vB c < 0 ∧ e = .returned (.tuple #[.int .i64 0, .bool false])) ∨ (0 ≤ vB c ∧ e = .returned (.tuple #[.int .i64 (vB c), .bool true]))))
set_option maxHeartbeats 2000000 in
theorem figure_any (g : Nat) (r : ByteArray) (v : Value) (n a b : Int) (f : Bool) (w : World) (hat : At w g 60 (rdC r v n a b f)) (hs : r.size ≤ 40000) : Calls Tryd.prog 57 #[.pointer (some ⟨g, 0, none⟩)] w (FigP g r w) := by
  have c0 : w.cell? ⟨g, 0, none⟩ = some (.string r) := hat.cells 0 rfl
  have z0 := hat.ice 0
  clear hat
  by_cases he : r.toList.isEmpty = true
  · have hl : r.data.toList = [] := by rw [ByteArray.toList_eq] at he; simpa using he
    have HL := Lib.hid hl
    clear hl
    go_enter Tryd.func57, Tryd.ntmps57
    go_wp2
    go_ret2
    exact .inl ⟨HL.out, rfl, rfl⟩
  · have he' : r.toList.isEmpty = false := by simpa using he
    have hz : 0 < r.size := by
      rw [ByteArray.toList_eq] at he'
      rcases Nat.eq_zero_or_pos r.size with h | h
      · have : r.data.toList = [] := List.length_eq_zero_iff.1 (by simpa using h)
        rw [this] at he'; simp at he'
      · exact h
    clear he
    have hh := head_ba r hz
    have HH := Lib.hid hh
    clear hh
    have hb : (r[0].toNat : Int) ≤ 255 := by have := r[0].toNat_lt; omega
    have hv := vB_bd r[0]
    have hve : vB r[0] = valI (r[0].toNat : Int) := rfl
    obtain ⟨x, hx⟩ : ∃ x, x = valI (r[0].toNat : Int) := ⟨_, rfl⟩
    rw [hve, ← hx] at hv
    rw [← hx] at hve
    have HVE := Lib.hid hve
    obtain ⟨v0, v1⟩ := hv
    by_cases hup : 65 ≤ (r[0].toNat : Int) ∧ (r[0].toNat : Int) ≤ 90
    · obtain ⟨u0, u1⟩ := hup
      have hk := fun w => idxUp_any (r[0].toNat : Int) w u0 u1
      simp only [← hx] at hk
      have HK := Lib.hid hk
      have u0' : 65 ≤ r[0].toNat := by omega
      have u1' : r[0].toNat ≤ 90 := by omega
      clear hk hx hve
      by_cases hneg : x < 0
      · go_enter Tryd.func57, Tryd.ntmps57
        go_wp2_with ((with_reducible refine (HK.out _).mono ?_); rintro e w' ⟨rfl, rfl⟩)
        go_ret2
        exact .inr ⟨_, _, HH.out, rfl, .inl ⟨by rw [HVE.out]; exact hneg, rfl⟩⟩
      · go_enter Tryd.func57, Tryd.ntmps57
        go_wp2_with ((with_reducible refine (HK.out _).mono ?_); rintro e w' ⟨rfl, rfl⟩)
        go_ret2
        exact .inr ⟨_, _, HH.out, rfl, .inr ⟨by rw [HVE.out]; omega, by rw [HVE.out]; rfl⟩⟩
    · have hk := fun w => idxNo_any (r[0].toNat : Int) w (by omega) hb (by omega)
      simp only [← hx] at hk
      have HK := Lib.hid hk
      clear hk hx hve
      by_cases hlo : 65 ≤ (r[0].toNat : Int)
      all_goals
        by_cases hneg : x < 0
        · go_enter Tryd.func57, Tryd.ntmps57
          go_wp2_with ((with_reducible refine (HK.out _).mono ?_); rintro e w' ⟨rfl, rfl⟩)
          go_ret2
          exact .inr ⟨_, _, HH.out, rfl, .inl ⟨by rw [HVE.out]; exact hneg, rfl⟩⟩
        · go_enter Tryd.func57, Tryd.ntmps57
          go_wp2_with ((with_reducible refine (HK.out _).mono ?_); rintro e w' ⟨rfl, rfl⟩)
          go_ret2
          exact .inr ⟨_, _, HH.out, rfl, .inr ⟨by rw [HVE.out]; omega, by rw [HVE.out]; rfl⟩⟩
end Go.Proofs.YtkgnhdebphaknaaDoor
