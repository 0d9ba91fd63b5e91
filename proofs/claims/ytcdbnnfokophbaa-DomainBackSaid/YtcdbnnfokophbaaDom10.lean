/- Names: sameness, lying below, both together, small letters: package domain. -/
import Derived.Test.YtcdbnnfokophbaaDom9
import Derived.Test.YtcdbnnfokophbaaMem03
import Derived.Deep.OwnRows
namespace Go.Proofs.Ytcdbnnfokophbaa
open Go.RowKit Go
set_option linter.unusedVariables false
theorem under_hit {la lb : List (List UInt8)} {k : Nat} (hle : lb.length ≤ la.length) (hk : k < lb.length) (h : sameB (la[la.length - lb.length + k]'(by omega)) lb[k] = false) : underN la lb = false := by
  unfold underN sameN
  rw [decide_eq_true hle, Bool.true_and, decide_eq_false_iff_not]
  intro e
  unfold sameB at h
  rw [decide_eq_false_iff_not] at h
  apply h
  have := congrArg (fun l => l[k]?) e
  unfold lowN at this
  rw [List.getElem?_map, List.getElem?_map, List.getElem?_drop, List.getElem?_eq_getElem hk, List.getElem?_eq_getElem (show la.length - lb.length + k < la.length by omega)] at this
  simpa using this
def UpTo (la lb : List (List UInt8)) (k : Nat) : Prop := ∀ j (h : j < lb.length) (h2 : la.length - lb.length + j < la.length), j < k → sameB la[la.length - lb.length + j] lb[j] = true
theorem upTo_step {la lb : List (List UInt8)} {k : Nat} (H : UpTo la lb k) (hk : k < lb.length) (hle : lb.length ≤ la.length) (h : sameB (la[la.length - lb.length + k]'(by omega)) lb[k] = true) : UpTo la lb (k + 1) := by
  intro j hj hj2 hlt
  by_cases e : j = k
  · subst e; exact h
  · exact H j hj hj2 (by omega)
theorem under_end {la lb : List (List UInt8)} (H : UpTo la lb lb.length) (hle : lb.length ≤ la.length) : underN la lb = true := by
  unfold underN sameN
  rw [decide_eq_true hle, Bool.true_and, decide_eq_true_iff]
  unfold lowN
  apply List.ext_getElem
  · simp; omega
  · intro j h1 h2
    simp only [List.length_map, List.length_drop] at h1 h2
    have := H j h2 (by omega) h2
    unfold sameB at this
    rw [decide_eq_true_iff] at this
    simpa using this
set_option maxHeartbeats 1000000 in
theorem under_any (A B : Option Addr) (n m c d : Nat) (la lb : List (List UInt8)) (w : World) (ha : TextsAt w A n la) (hb : TextsAt w B m lb) (hn : sizeL la ≤ 3000) (hm : sizeL lb ≤ 3000) :
    Calls Try.prog 29 #[.slice A n c, .slice B m d] w fun e w' => e = .returned (.bool (underN la lb)) ∧ Below w.heap.size w w' := by
  obtain rfl := ha.1
  obtain rfl := hb.1
  have hl1 := size_len la
  have hl2 := size_len lb
  by_cases hle : lb.length ≤ la.length
  · have HH := fun k hk h => @under_hit la lb k hle hk h
    have HS := fun k H hk h => @upTo_step la lb k H hk hle h
    have HE := Lib.hid (fun H => @under_end la lb H hle)
    have HH := Lib.hid HH
    have HS := Lib.hid HS
    have t0 : ¬ ((la.length : Int) - (lb.length : Int) < 0) := by omega
    go_enter Try.func29, Try.ntmps29
    go_wp2_with fail
    go_loopw [17] (fun i wr => ∃ k : Nat, k ≤ lb.length ∧ i = .int .i64 k ∧ Below w.heap.size w wr ∧ Hid (UpTo la lb k)) (fun i _ => lb.length - (intOf i).toNat)
    case atStart => exact ⟨0, Nat.zero_le _, rfl, Below.refl _ _, Lib.hid (fun j _ _ h => absurd h (by omega))⟩
    case round =>
      obtain ⟨k, hk, rfl, HB, HU⟩ := hrel
      have hsz := HB.size
      by_cases hkl : k < lb.length
      · obtain ⟨b1, o1, rfl, hbh1, hcell1⟩ := ha.2 (by omega)
        obtain ⟨b2, o2, rfl, hbh2, hcell2⟩ := hb.2 (by omega)
        have hka : la.length - lb.length + k < la.length := by omega
        have h1 := hcell1 _ hka
        have h2 := hcell2 k hkl
        rw [← HB.cell (p := ⟨b1, o1 + (la.length - lb.length + k), none⟩) hbh1] at h1
        rw [← HB.cell (p := ⟨b2, o2 + k, none⟩) hbh2] at h2
        have hm1 := size_at la _ hka
        have hm2 := size_at lb k hkl
        have hbad := HH.out k hkl
        have hgo := HS.out k HU.out hkl
        obtain ⟨x, hx⟩ : ∃ x, x = la[la.length - lb.length + k] := ⟨_, rfl⟩
        obtain ⟨y, hy⟩ : ∃ y, y = lb[k] := ⟨_, rfl⟩
        rw [← hx] at h1 hm1 hbad hgo
        rw [← hy] at h2 hm2 hbad hgo
        unfold strV at h1 h2
        obtain ⟨s, hs1, rfl, hs2⟩ := ba_of x
        obtain ⟨t, ht1, rfl, ht2⟩ := ba_of y
        rw [hs1] at h1
        rw [ht1] at h2
        rw [hs2] at hm1
        rw [ht2] at hm2
        have HBAD := Lib.hid hbad; have HGO := Lib.hid hgo
        have HSA := Lib.hid (same_any s t wr (by omega) (by omega))
        clear hcell1 hcell2 hx hy hs1 hs2 ht1 ht2 hbad hgo
        go_wp2_with fail
        with_reducible refine HSA.out.mono ?_
        rintro e w1 ⟨rfl, hb1⟩
        have HB1 := HB.trans (hb1.mono hsz)
        cases hh : sameB s.data.toList t.data.toList with
        | true =>
          have HG := Lib.hid (HGO.out hh)
          clear hh HBAD HGO HSA
          go_wp2_with fail
          go_roundw
          case rel => exact ⟨k + 1, by omega, by go_num, HB1, HG⟩
          case measure => simp [intOf]; omega
        | false =>
          have HF := Lib.hid (HBAD.out hh)
          clear hh HBAD HGO HSA
          go_wp2_with fail
          go_ret
          exact ⟨ret_bool HF.out.symm, HB1⟩
      · have hke : k = lb.length := by omega
        have hu := HU.out
        rw [hke] at hu
        have HF := Lib.hid (HE.out hu)
        clear hu hke
        go_wp2_with fail
        go_ret
        exact ⟨ret_bool HF.out.symm, HB⟩
  · have hf : underN la lb = false := by unfold underN; simp; omega
    have HF := Lib.hid hf
    have t0 : ((la.length : Int) - (lb.length : Int) < 0) := by omega
    clear hf hle
    go_enter Try.func29, Try.ntmps29
    go_wp2_with fail
    go_ret
    exact ⟨ret_bool HF.out.symm, Below.refl _ _⟩
theorem same_lens {la lb : List (List UInt8)} (h : la.length = lb.length) : underN la lb = sameN la lb := by
  unfold underN
  rw [decide_eq_true (by omega), Bool.true_and, show la.length - lb.length = 0 by omega, List.drop_zero]
theorem same_not {la lb : List (List UInt8)} (h : la.length ≠ lb.length) : sameN la lb = false := by
  unfold sameN
  rw [decide_eq_false_iff_not]
  intro e
  have := congrArg List.length e
  rw [lowN_len, lowN_len] at this
  exact h this
set_option maxHeartbeats 400000 in
theorem sameD_any (A B : Option Addr) (n m c d : Nat) (la lb : List (List UInt8)) (w : World) (ha : TextsAt w A n la) (hb : TextsAt w B m lb) (hn : sizeL la ≤ 3000) (hm : sizeL lb ≤ 3000) :
    Calls Try.prog 27 #[.slice A n c, .slice B m d] w fun e w' => e = .returned (.bool (sameN la lb)) ∧ Below w.heap.size w w' := by
  obtain rfl := ha.1
  obtain rfl := hb.1
  by_cases h : la.length = lb.length
  · have hu := under_any A B _ _ c d la lb w ha hb hn hm
    rw [same_lens h] at hu
    have HU := Lib.hid hu
    have t0 : ((la.length : Int) == (lb.length : Int)) = true := by simp; omega
    clear hu h
    go_enter Try.func27, Try.ntmps27
    go_wp2_with fail
    with_reducible refine HU.out.mono ?_
    rintro e w1 ⟨rfl, hb1⟩
    go_wp2_with fail
    go_ret
    exact ⟨rfl, hb1⟩
  · have HF := Lib.hid (same_not h)
    have t0 : ((la.length : Int) == (lb.length : Int)) = false := by simp; omega
    clear h
    go_enter Try.func27, Try.ntmps27
    go_wp2_with fail
    go_ret
    exact ⟨ret_bool HF.out.symm, Below.refl _ _⟩
set_option maxHeartbeats 1000000 in
theorem cat_any (A B : Option Addr) (n m c d : Nat) (la lb : List (List UInt8)) (w : World) (ha : TextsAt w A n la) (hb : TextsAt w B m lb) (hA : A = none → c = 0) (hB : B = none → d = 0) (hn : sizeL la ≤ 500) (hm : sizeL lb ≤ 500) :
    Calls Try.prog 25 #[.slice A n c, .slice B m d] w fun e w' => CatP la lb w.heap.size w e w' := by
  have e1 := ha.1
  have e2 := hb.1
  have HE1 := Lib.hid e1
  have HE2 := Lib.hid e2
  have hl1 := size_len la
  have hl2 := size_len lb
  have hn2 : n ≤ 500 := by omega
  have hm2 : m ≤ 500 := by omega
  clear e1 e2
  obtain ⟨ti, hi, hz, hs1, hs2⟩ := info_parts (P := Try.prog) elem9
  obtain ⟨w0, hmk, hown0, hg0⟩ := run_make_own (P := Try.prog) (w := w) w.heap.size 24 9 ti _ 1 Try.underlying24 hi hz hs1 .i64 .i64 (n + m) (by rw [hs2]; omega) (by unfold maxLen; omega) (Nat.le_refl _)
  rw [Int.natCast_add] at hmk
  have hb0 : Below w.heap.size w w0 := (Below.refl _ w).grown hg0 (Nat.le_refl _) (fun k hk => by cases hk)
  clear hi hz hs1 hs2 hg0
  have ha0 := ha.below hb0
  have hbb0 := hb.below hb0
  have HSZ0 := hb0.size
  go_enter Try.func25, Try.ntmps25
  go_wp2_with (at_builtin; refine wpList_appTexts rfl (.tmp 14) (.tmp 15) 24 9 rfl Try.underlying24 elem9 rfl w.heap.size _ 0 n c A _ la rfl rfl hA ha0 hown0 (by omega) (by omega) (by omega) HSZ0 ?_)
  intro v1 w1 hown1 hb1
  have HSZ1 := (hb0.trans hb1).size
  go_wp2_with (at_builtin; refine wpList_appTexts rfl (.tmp 17) (.tmp 18) 24 9 rfl Try.underlying24 elem9 rfl w.heap.size _ n m d B _ lb rfl rfl hB (hb.below (hb0.trans hb1)) hown1 (by omega) (by omega) (by omega) HSZ1 ?_)
  intro v2 w2 hown2 hb2
  have hown3 := own_cat HE1.out HE2.out hown2
  have HBB := hb0.trans (hb1.trans hb2)
  have hsz : sizeL (la ++ lb) ≤ 1000 := by rw [size_app]; omega
  have HYES := Lib.hid (fun (A : Option Addr) (c : Nat) (w' : World) => @catP_yes la lb w.heap.size w w' A c)
  have HNO := Lib.hid (fun (x : Int) (w' : World) => @catP_no la lb w.heap.size w w' x)
  obtain ⟨N, hN⟩ : ∃ N, N = la ++ lb := ⟨_, rfl⟩
  rw [← hN] at hown3 hsz HYES HNO
  clear hN hown1 hown2 hb1 hb2 hmk hown0 ha0 hbb0
  obtain ⟨A3, c3, rfl, hta⟩ := TextsAt.of_own hown3
  have HCK := Lib.hid (check_any A3 _ c3 _ w2 hta (by omega))
  clear hown3
  by_cases h0 : checkL N = 0
  · have H0 := Lib.hid h0
    rw [h0] at HCK
    clear h0
    go_wp2_with fail
    with_reducible refine HCK.out.mono ?_
    rintro e w3 ⟨rfl, rfl⟩
    go_wp2_with fail
    go_ret2
    exact HYES.out _ _ _ H0.out hta HBB
  · have hx : (checkL N == 0) = false := by simpa using h0
    have H0 := Lib.hid h0
    obtain ⟨y, hy⟩ : ∃ y, y = checkL N := ⟨_, rfl⟩
    rw [← hy] at hx HCK H0
    have HY := Lib.hid hy.symm
    clear h0 hy
    go_wp2_with fail
    with_reducible refine HCK.out.mono ?_
    rintro e w3 ⟨rfl, rfl⟩
    go_wp2_with fail
    go_ret2
    exact HNO.out _ _ HY.out H0.out HBB
def fillS (l : List (List UInt8)) (k : Nat) : Array Value := (strVs (lowN (l.take k)) ++ List.replicate (l.length - k) (Value.string ByteArray.empty)).toArray
theorem fillS_start (l : List (List UInt8)) : madeCells #[Value.string ByteArray.empty] l.length = fillS l 0 := by
  apply Array.toList_inj.1
  rw [toList_madeCells_one]
  simp [fillS, lowN, strVs]
theorem lowTake_len (l : List (List UInt8)) (k : Nat) (h : k ≤ l.length) : (strVs (lowN (l.take k))).length = k := by
  rw [strVs_len, lowN_len, List.length_take]; omega
theorem fillS_at {l : List (List UInt8)} {k : Nat} (h : k < l.length) : (fillS l k)[k]? = some (.string ByteArray.empty) := by
  unfold fillS
  rw [List.getElem?_toArray, List.getElem?_append_right (by rw [lowTake_len l k (by omega)]; omega), lowTake_len l k (by omega), Nat.sub_self]
  obtain ⟨j, hj⟩ : ∃ j, l.length - k = j + 1 := ⟨l.length - k - 1, by omega⟩
  rw [hj]
  rfl
theorem fillS_put {l : List (List UInt8)} {k : Nat} (h : k < l.length) : (fillS l k).setIfInBounds k (strV (l[k].map lowB)) = fillS l (k + 1) := by
  unfold fillS
  obtain ⟨j, hj⟩ : ∃ j, l.length - k = j + 1 := ⟨l.length - k - 1, by omega⟩
  rw [hj, show l.length - (k + 1) = j by omega, List.setIfInBounds_toArray]
  congr 1
  rw [List.set_append_right _ _ (by rw [lowTake_len l k (by omega)]; omega), lowTake_len l k (by omega), Nat.sub_self, List.replicate_succ, List.set_cons_zero, lowN_take l k h, strVs_app, List.append_assoc]
  rfl
theorem fillS_end {w : World} {g : Nat} {l : List (List UInt8)} (h : At w g 9 (fillS l l.length)) : TextsAt w (some ⟨g, 0, none⟩) (lowN l).length (lowN l) := by
  refine ⟨rfl, fun h0 => ⟨g, 0, rfl, h.lt, fun j hj => ?_⟩⟩
  rw [Nat.zero_add, h.cell]
  unfold fillS
  rw [List.take_of_length_le (Nat.le_refl _), Nat.sub_self, List.replicate_zero, List.append_nil, List.getElem?_toArray]
  unfold strVs
  rw [List.getElem?_map, List.getElem?_eq_getElem hj]
  rfl
set_option maxHeartbeats 1000000 in
theorem lowerD_any (A : Option Addr) (n c : Nat) (l : List (List UInt8)) (w : World) (hl : TextsAt w A n l) (hb : sizeL l ≤ 3000) :
    Calls Try.prog 23 #[.slice A n c] w fun e w' => ∃ A' c', e = .returned (.slice A' (lowN l).length c') ∧ TextsAt w' A' (lowN l).length (lowN l) ∧ Below w.heap.size w w' := by
  obtain rfl := hl.1
  have hsl := size_len l
  have hlen : l.length ≤ 3000 := by omega
  have hmk := fun W => run_make_row' (P := Try.prog) 24 9 (.string ByteArray.empty) 16 Try.underlying24 elem9 rfl .i64 .i64 l.length (by omega) (by omega) W
  go_enter Try.func23, Try.ntmps23
  go_wp2_with fail
  clear hmk
  rw [fillS_start]
  have hat : At (w.alloc (.cells (fillS l 0) 9)) w.heap.size 9 (fillS l 0) := At.new w _ _
  have hbl : Below w.heap.size w (w.alloc (.cells (fillS l 0) 9)) := (Below.refl _ w).alloc (Nat.le_refl _) _
  generalize w.alloc (.cells (fillS l 0) 9) = w0 at hat hbl ⊢
  go_loopw [11] (fun i wr => ∃ k : Nat, k ≤ l.length ∧ i = .int .i64 k ∧ At wr w.heap.size 9 (fillS l k) ∧ Below w.heap.size w wr) (fun i _ => l.length - (intOf i).toNat)
  case atStart => exact ⟨0, Nat.zero_le _, rfl, hat, hbl⟩
  case round =>
    obtain ⟨k, hk, rfl, hAt, HB⟩ := hrel
    have hsz := HB.size
    by_cases hkl : k < l.length
    · obtain ⟨b, o, rfl, hbh, hcell⟩ := hl.2 (by omega)
      have h1 := hcell k hkl
      rw [← HB.cell (p := ⟨b, o + k, none⟩) hbh] at h1
      have hm := size_at l k hkl
      have hput := fillS_put hkl
      obtain ⟨x, hx⟩ : ∃ x, x = l[k] := ⟨_, rfl⟩
      rw [← hx] at h1 hm hput
      unfold strV at h1
      obtain ⟨s, hs1, rfl, hs2⟩ := ba_of x
      rw [hs1] at h1
      rw [hs2] at hm
      have HP := Lib.hid hput
      have HLO := Lib.hid (lower_any s wr (by omega))
      have hglt := hAt.lt
      clear hcell hx hs1 hs2 hput
      go_wp2_with fail
      with_reducible refine HLO.out.mono ?_
      rintro e w1 ⟨rfl, hb1⟩
      have hAt1 := hAt.below hb1 hglt
      have HB1 := HB.trans (hb1.mono hsz)
      have hlt1 := hAt1.lt
      have hcl := hAt1.cells k (fillS_at hkl)
      have hfr := hAt1.ice k
      have hAt2 := hAt1.put k (strV (s.data.toList.map lowB))
      rw [HP.out] at hAt2
      unfold strV at hAt2
      have HB2 : Below w.heap.size w (w1.setCell ⟨w.heap.size, k, none⟩ (.string ⟨(s.data.toList.map lowB).toArray⟩)) := HB1.setCell (Nat.le_refl _) _
      clear HP HLO hAt hb1
      go_wp2_with fail
      go_roundw
      case rel => exact ⟨k + 1, by omega, by go_num, hAt2, HB2⟩
      case measure => simp [intOf]; omega
    · obtain rfl : k = l.length := by omega
      have hta := fillS_end hAt
      have hll := lowN_len l
      have HTA := Lib.hid hta
      have HQ := Lib.hid hll
      clear hAt hll hta
      go_wp2_with fail
      go_ret
      refine ⟨some ⟨w.heap.size, 0, none⟩, l.length, ?_, HTA.out, HB⟩
      rw [HQ.out]
      rfl
end Go.Proofs.Ytcdbnnfokophbaa
