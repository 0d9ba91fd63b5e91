/- Layers 7 and 8: the document's Parts: cut at dots, at colons. -/
import Derived.Test.YtkchgjakkogejaaDoorColon7
namespace Go.Proofs.YtkchgjakkogejaaDoor
open Go.RowKit Go
set_option linter.unusedVariables false
set_option maxRecDepth 100000
theorem cutX_len (x : UInt8) (l : List UInt8) : (cutX x l).length ≤ l.length + 1 := by
  induction l with
  | nil => simp [cutX]
  | cons c r ih =>
    rw [cutX]
    split
    · simp; omega
    · split
      · rename_i p t e
        rw [e] at ih
        simp at ih ⊢
        omega
      · simp
def PInv (x : UInt8) (l : List UInt8) (k a : Nat) (L : List (List UInt8)) : Prop := a ≤ k ∧ (∀ c ∈ (l.drop a).take (k - a), c ≠ x) ∧ cutX x l = L ++ cutX x (l.drop a)
theorem pInv_start (x : UInt8) (l : List UInt8) : PInv x l 0 0 [] := ⟨Nat.le_refl _, by simp, by simp⟩
theorem pInv_len {x : UInt8} {l : List UInt8} {k a : Nat} {L : List (List UInt8)} (h : PInv x l k a L) : L.length ≤ l.length + 1 := by
  have := cutX_len x l
  rw [h.2.2, List.length_append] at this
  omega
theorem pInv_go {x : UInt8} {l : List UInt8} {k a : Nat} {L : List (List UInt8)} (h : PInv x l k a L) (hk : k < l.length) (hc : l[k] ≠ x) : PInv x l (k + 1) a L := by
  obtain ⟨h1, h2, h3⟩ := h
  refine ⟨by omega, fun c hm => ?_, h3⟩
  rw [show k + 1 - a = (k - a) + 1 by omega, List.take_succ_eq_append_getElem (by rw [List.length_drop]; omega), List.mem_append, List.mem_singleton] at hm
  rcases hm with hm | hm
  · exact h2 c hm
  · rw [hm, List.getElem_drop]
    have e : a + (k - a) = k := by omega
    simp only [e]
    exact hc
theorem drop_split (l : List UInt8) (a k : Nat) (h : a ≤ k) (hk : k < l.length) : l.drop a = (l.drop a).take (k - a) ++ l[k] :: l.drop (k + 1) := by
  conv => lhs; rw [← List.take_append_drop (k - a) (l.drop a)]
  rw [List.drop_drop, show a + (k - a) = k by omega, List.drop_eq_getElem_cons hk]
theorem pInv_hit {x : UInt8} {l : List UInt8} {k a : Nat} {L : List (List UInt8)} (h : PInv x l k a L) (hk : k < l.length) (hc : l[k] = x) : PInv x l (k + 1) (k + 1) (L ++ [(l.drop a).take (k - a)]) := by
  obtain ⟨h1, h2, h3⟩ := h
  refine ⟨Nat.le_refl _, by simp, ?_⟩
  have e := drop_split l a k h1 hk
  rw [hc] at e
  rw [h3]
  conv => lhs; rw [e]
  rw [cutX_hit x _ _ (fun hm => h2 x hm rfl)]
  simp
theorem pInv_end {x : UInt8} {l : List UInt8} {k a : Nat} {L : List (List UInt8)} (h : PInv x l k a L) (hk : k = l.length) : L ++ [(l.drop a).take (k - a)] = cutX x l := by
  obtain ⟨h1, h2, h3⟩ := h
  have e : (l.drop a).take (k - a) = l.drop a := List.take_of_length_le (by rw [List.length_drop]; omega)
  rw [e] at h2 ⊢
  rw [h3, cutX_none x _ (fun hm => h2 x hm rfl)]
set_option maxHeartbeats 2000000 in
theorem refParts07_any (s : ByteArray) (w : World) (hs : s.size ≤ 4000) :
    Calls Tryd.prog 55 #[.string s] w fun e w' => (∃ A c, e = .returned (.slice A (cutX 46 s.data.toList).length c) ∧ TextsAt w' A (cutX 46 s.data.toList).length (cutX 46 s.data.toList)) ∧ Below w.heap.size w w' := by
  have hst := pInv_start 46 s.data.toList
  have HST := Lib.hid hst
  have HZ := Lib.hid (Lib.size_eq s)
  obtain ⟨C, hC⟩ : ∃ C, C = cutX 46 s.data.toList := ⟨_, rfl⟩
  rw [← hC]
  have HC := Lib.hid hC
  clear hst hC
  go_enter Tryd.func55, Tryd.ntmps55
  go_wp2_with fail
  go_loopw [3, 4, 5] (fun v f i wr => ∃ (k a : Nat) (L : List (List UInt8)), i = .int .i64 k ∧ f = .int .i64 a ∧ wr.ownsRow w.heap.size 9 1 v L.length (strVs L) ∧ Below w.heap.size w wr ∧ ((k ≤ s.size ∧ PInv 46 s.data.toList k a L) ∨ (k = s.size + 1 ∧ L = C))) (fun _ _ i _ => s.size + 1 - (intOf i).toNat)
  case atStart => exact ⟨0, 0, [], rfl, rfl, World.ownsRow_nil _ _ _ _, Below.refl _ _, .inl ⟨Nat.zero_le _, HST.out⟩⟩
  case round =>
    obtain ⟨k, a, L, rfl, rfl, hown, HB, hcase⟩ := hrel
    have hsz := HB.size
    rcases hcase with ⟨hk, hinv⟩ | ⟨hk, hLC⟩
    · have hL := pInv_len hinv
      rw [← HZ.out] at hL
      have hak := hinv.1
      by_cases hlt : k < s.size
      · have hkl : k < s.data.toList.length := by rw [← HZ.out]; exact hlt
        have hgo : s[k] ≠ 46 → PInv 46 s.data.toList (k + 1) a L := fun h => pInv_go hinv hkl h
        have hhit : s[k] = 46 → PInv 46 s.data.toList (k + 1) (k + 1) (L ++ [(s.data.toList.drop a).take (k - a)]) := fun h => pInv_hit hinv hkl h
        have HGO := Lib.hid hgo
        have HHIT := Lib.hid hhit
        clear hgo hhit hinv
        by_cases hc : s[k] = 46
        · have t20 : ((s[k].toNat : Int) == 46) = true := by rw [hc]; rfl
          have HC2 := Lib.hid hc
          clear hc
          go_wp2_with (at_builtin; refine wpList_app1 rfl (.tmp 22) (.tmp 27) 63 9 rfl Tryd.underlying63 elem9 rfl w.heap.size _ L.length _ _ rfl rfl hown rfl (by omega) (by omega) hsz ?_)
          intro v' w' hown' HB' _
          have ho := own_app hown'
          clear hown' hown
          go_wp2_with fail
          go_roundw
          case rel => exact ⟨k + 1, k + 1, _, by go_num, by go_num, ho, HB.trans HB', .inl ⟨by omega, HHIT.out HC2.out⟩⟩
          case measure => simp [intOf]; omega
        · have t20 : ((s[k].toNat : Int) == 46) = false := by
            rw [beq_eq_false_iff_ne]
            intro e
            exact hc (UInt8.toNat_inj.1 (by show s[k].toNat = 46; omega))
          have HC2 := Lib.hid hc
          clear hc
          go_wp2_with fail
          go_roundw
          case rel => exact ⟨k + 1, a, _, by go_num, rfl, hown, HB, .inl ⟨by omega, HGO.out HC2.out⟩⟩
          case measure => simp [intOf]; omega
      · have hks : k = s.size := by omega
        have hend := pInv_end hinv (by rw [← HZ.out]; exact hks)
        rw [← HC.out] at hend
        have HEND := Lib.hid hend
        have t15 : ((k : Int) == s.size) = true := by rw [beq_iff_eq]; omega
        have i1 : k ≤ s.size := hk
        have i2 : s.size ≤ k := by omega
        clear hend hks hinv hlt
        go_wp2_with (at_builtin; refine wpList_app1 rfl (.tmp 22) (.tmp 27) 63 9 rfl Tryd.underlying63 elem9 rfl w.heap.size _ L.length _ _ rfl rfl hown rfl (by omega) (by omega) hsz ?_)
        intro v' w' hown' HB' _
        have ho := own_app hown'
        clear hown' hown
        go_wp2_with fail
        go_roundw
        case rel => exact ⟨k + 1, k + 1, _, by go_num, by go_num, ho, HB.trans HB', .inr ⟨by omega, HEND.out⟩⟩
        case measure => simp [intOf]; omega
    · have d9 : decide ((k : Int) ≤ s.size) = false := by rw [decide_eq_false_iff_not]; omega
      have i2 : ¬ k ≤ s.size := by omega
      subst hLC
      obtain ⟨A, c, rfl, hta⟩ := TextsAt.of_own hown
      clear hk hown
      go_wp2_with fail
      go_ret
      exact ⟨⟨A, c, rfl, hta⟩, HB⟩
set_option maxHeartbeats 2000000 in
theorem refParts08_any (s : ByteArray) (w : World) (hs : s.size ≤ 4000) :
    Calls Tryd.prog 43 #[.string s] w fun e w' => (∃ A c, e = .returned (.slice A (cutX 58 s.data.toList).length c) ∧ TextsAt w' A (cutX 58 s.data.toList).length (cutX 58 s.data.toList)) ∧ Below w.heap.size w w' := by
  have hst := pInv_start 58 s.data.toList
  have HST := Lib.hid hst
  have HZ := Lib.hid (Lib.size_eq s)
  obtain ⟨C, hC⟩ : ∃ C, C = cutX 58 s.data.toList := ⟨_, rfl⟩
  rw [← hC]
  have HC := Lib.hid hC
  clear hst hC
  go_enter Tryd.func43, Tryd.ntmps43
  go_wp2_with fail
  go_loopw [3, 4, 5] (fun v f i wr => ∃ (k a : Nat) (L : List (List UInt8)), i = .int .i64 k ∧ f = .int .i64 a ∧ wr.ownsRow w.heap.size 9 1 v L.length (strVs L) ∧ Below w.heap.size w wr ∧ ((k ≤ s.size ∧ PInv 58 s.data.toList k a L) ∨ (k = s.size + 1 ∧ L = C))) (fun _ _ i _ => s.size + 1 - (intOf i).toNat)
  case atStart => exact ⟨0, 0, [], rfl, rfl, World.ownsRow_nil _ _ _ _, Below.refl _ _, .inl ⟨Nat.zero_le _, HST.out⟩⟩
  case round =>
    obtain ⟨k, a, L, rfl, rfl, hown, HB, hcase⟩ := hrel
    have hsz := HB.size
    rcases hcase with ⟨hk, hinv⟩ | ⟨hk, hLC⟩
    · have hL := pInv_len hinv
      rw [← HZ.out] at hL
      have hak := hinv.1
      by_cases hlt : k < s.size
      · have hkl : k < s.data.toList.length := by rw [← HZ.out]; exact hlt
        have hgo : s[k] ≠ 58 → PInv 58 s.data.toList (k + 1) a L := fun h => pInv_go hinv hkl h
        have hhit : s[k] = 58 → PInv 58 s.data.toList (k + 1) (k + 1) (L ++ [(s.data.toList.drop a).take (k - a)]) := fun h => pInv_hit hinv hkl h
        have HGO := Lib.hid hgo
        have HHIT := Lib.hid hhit
        clear hgo hhit hinv
        by_cases hc : s[k] = 58
        · have t20 : ((s[k].toNat : Int) == 58) = true := by rw [hc]; rfl
          have HC2 := Lib.hid hc
          clear hc
          go_wp2_with (at_builtin; refine wpList_app1 rfl (.tmp 22) (.tmp 27) 63 9 rfl Tryd.underlying63 elem9 rfl w.heap.size _ L.length _ _ rfl rfl hown rfl (by omega) (by omega) hsz ?_)
          intro v' w' hown' HB' _
          have ho := own_app hown'
          clear hown' hown
          go_wp2_with fail
          go_roundw
          case rel => exact ⟨k + 1, k + 1, _, by go_num, by go_num, ho, HB.trans HB', .inl ⟨by omega, HHIT.out HC2.out⟩⟩
          case measure => simp [intOf]; omega
        · have t20 : ((s[k].toNat : Int) == 58) = false := by
            rw [beq_eq_false_iff_ne]
            intro e
            exact hc (UInt8.toNat_inj.1 (by show s[k].toNat = 58; omega))
          have HC2 := Lib.hid hc
          clear hc
          go_wp2_with fail
          go_roundw
          case rel => exact ⟨k + 1, a, _, by go_num, rfl, hown, HB, .inl ⟨by omega, HGO.out HC2.out⟩⟩
          case measure => simp [intOf]; omega
      · have hks : k = s.size := by omega
        have hend := pInv_end hinv (by rw [← HZ.out]; exact hks)
        rw [← HC.out] at hend
        have HEND := Lib.hid hend
        have t15 : ((k : Int) == s.size) = true := by rw [beq_iff_eq]; omega
        have i1 : k ≤ s.size := hk
        have i2 : s.size ≤ k := by omega
        clear hend hks hinv hlt
        go_wp2_with (at_builtin; refine wpList_app1 rfl (.tmp 22) (.tmp 27) 63 9 rfl Tryd.underlying63 elem9 rfl w.heap.size _ L.length _ _ rfl rfl hown rfl (by omega) (by omega) hsz ?_)
        intro v' w' hown' HB' _
        have ho := own_app hown'
        clear hown' hown
        go_wp2_with fail
        go_roundw
        case rel => exact ⟨k + 1, k + 1, _, by go_num, by go_num, ho, HB.trans HB', .inr ⟨by omega, HEND.out⟩⟩
        case measure => simp [intOf]; omega
    · have d9 : decide ((k : Int) ≤ s.size) = false := by rw [decide_eq_false_iff_not]; omega
      have i2 : ¬ k ≤ s.size := by omega
      subst hLC
      obtain ⟨A, c, rfl, hta⟩ := TextsAt.of_own hown
      clear hk hown
      go_wp2_with fail
      go_ret
      exact ⟨⟨A, c, rfl, hta⟩, HB⟩
end Go.Proofs.YtkchgjakkogejaaDoor
