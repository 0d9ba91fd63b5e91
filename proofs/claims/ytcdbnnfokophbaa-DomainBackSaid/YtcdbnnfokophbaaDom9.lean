/- Names: sameness, lying below, both together: the document's. -/
import Derived.Test.YtcdbnnfokophbaaDom8
import Derived.Laws.AppendOwnNone
namespace Go.Proofs.Ytcdbnnfokophbaa
open Go.RowKit Go
set_option linter.unusedVariables false
theorem refExact_any (A B : Option Addr) (n m c d : Nat) (la lb : List (List UInt8)) (w : World) (ha : TextsAt w A n la) (hb : TextsAt w B m lb) (hn : n ≤ 4000) (hm : m ≤ 4000) :
    Calls Try.prog 11 #[.slice A n c, .slice B m d] w fun e w' => e = .returned (.bool (decide (la = lb))) ∧ Below w.heap.size w w' := by
  have HS := Lib.hid (sameTexts_any A B n m c d la lb w ha hb hn hm)
  go_enter Try.func11, Try.ntmps11
  go_wp2_with fail
  with_reducible refine HS.out.mono ?_
  rintro e w1 ⟨rfl, hb1⟩
  go_wp2_with fail
  go_ret
  exact ⟨rfl, hb1⟩
theorem refSameD_any (A B : Option Addr) (n m c d : Nat) (la lb : List (List UInt8)) (w : World) (ha : TextsAt w A n la) (hb : TextsAt w B m lb) (hn : sizeL la ≤ 3000) (hm : sizeL lb ≤ 3000) :
    Calls Try.prog 28 #[.slice A n c, .slice B m d] w fun e w' => e = .returned (.bool (sameN la lb)) ∧ Below w.heap.size w w' := by
  have HL1 := Lib.hid (refLowerD_any A n c la w ha hn)
  have hl1 := size_len la
  have hl2 := size_len lb
  go_enter Try.func28, Try.ntmps28
  go_wp2_with fail
  with_reducible refine HL1.out.mono ?_
  rintro e w1 ⟨A1, c1, rfl, ht1, hb1⟩
  have HL2 := Lib.hid (refLowerD_any B m d lb w1 (hb.below hb1) hm)
  go_wp2_with fail
  with_reducible refine HL2.out.mono ?_
  rintro e w2 ⟨A2, c2, rfl, ht2, hb2⟩
  have HE := Lib.hid (refExact_any A1 A2 _ _ c1 c2 _ _ w2 (ht1.below hb2) ht2 (by rw [lowN_len]; omega) (by rw [lowN_len]; omega))
  go_wp2_with fail
  with_reducible refine HE.out.mono ?_
  rintro e w3 ⟨rfl, hb3⟩
  go_wp2_with fail
  go_ret
  exact ⟨rfl, hb1.trans ((hb2.mono hb1.size).trans (hb3.mono (Nat.le_trans hb1.size hb2.size)))⟩
theorem TextsAt.drop {w : World} {b o n : Nat} {l : List (List UInt8)} (h : TextsAt w (some ⟨b, o, none⟩) n l) (k : Nat) (hk : k ≤ n) : TextsAt w (some ⟨b, o + k, none⟩) (n - k) (l.drop k) := by
  refine ⟨by rw [List.length_drop, h.1], fun h0 => ?_⟩
  obtain ⟨b2, o2, hA, hlt, hc⟩ := h.2 (by omega)
  obtain ⟨rfl, rfl⟩ : b = b2 ∧ o = o2 := by simpa using hA
  refine ⟨b, o + k, rfl, hlt, fun j hj => ?_⟩
  rw [List.length_drop] at hj
  rw [Nat.add_assoc, hc (k + j) (by omega), List.getElem_drop]
theorem drop_size (l : List (List UInt8)) (k : Nat) : sizeL (l.drop k) ≤ sizeL l := by
  have := size_app (l.take k) (l.drop k)
  rw [List.take_append_drop] at this
  have := size_pos (l.take k)
  have := size_pos (l.drop k)
  omega
set_option maxHeartbeats 1000000 in
theorem refUnder_any (A B : Option Addr) (n m c d : Nat) (la lb : List (List UInt8)) (w : World) (ha : TextsAt w A n la) (hb : TextsAt w B m lb) (hnc : n ≤ c) (hA : A = none → c = 0) (hn : sizeL la ≤ 3000) (hm : sizeL lb ≤ 3000) :
    Calls Try.prog 30 #[.slice A n c, .slice B m d] w fun e w' => e = .returned (.bool (underN la lb)) ∧ Below w.heap.size w w' := by
  obtain rfl := ha.1
  obtain rfl := hb.1
  have hl1 := size_len la
  have hl2 := size_len lb
  by_cases hle : lb.length ≤ la.length
  · by_cases h0 : lb.length = 0
    · obtain rfl := List.length_eq_zero_iff.1 h0
      have hu : underN la [] = true := by unfold underN sameN; simp [lowN]
      have HU := Lib.hid hu
      have HSM := fun A2 c2 => Lib.hid (refSameD_any A2 B 0 0 c2 d [] [] w ⟨rfl, fun h => absurd h (by omega)⟩ hb (by simp [sizeL]) hm)
      clear hu h0 hle hb
      match A, hA with
      | none, hA =>
        have h0 : la.length = 0 := by
          refine Decidable.byContradiction fun h => ?_
          obtain ⟨b, o, h2, _⟩ := ha.2 (by omega)
          cases h2
        have hc := hA rfl
        rw [h0] at ha ⊢
        subst hc
        clear hA h0 hnc hl1
        go_enter Try.func30, Try.ntmps30
        go_wp2_with fail
        with_reducible refine (HSM _ _).out.mono ?_
        rintro e w1 ⟨rfl, hb1⟩
        go_wp2_with fail
        go_ret
        exact ⟨ret_bool HU.out.symm, hb1⟩
      | some ⟨b, o, sp⟩, hA =>
        clear hA
        go_enter Try.func30, Try.ntmps30
        go_wp2_with fail
        all_goals
          with_reducible refine (HSM _ _).out.mono ?_
          rintro e w1 ⟨rfl, hb1⟩
          go_wp2_with fail
          go_ret
          exact ⟨ret_bool HU.out.symm, hb1⟩
    · obtain ⟨b, o, rfl, hbh, hcell⟩ := ha.2 (by omega)
      have hsm := refSameD_any _ B _ _ (c - (la.length - lb.length)) d _ lb w (ha.drop (la.length - lb.length) (by omega)) hb (Nat.le_trans (drop_size _ _) hn) hm
      have hu : underN la lb = sameN (la.drop (la.length - lb.length)) lb := by unfold underN; rw [decide_eq_true hle, Bool.true_and]
      rw [← hu] at hsm
      have HSM := Lib.hid hsm
      have hcc : ¬ c = la.length - lb.length := by omega
      clear hu hsm hcell
      go_enter Try.func30, Try.ntmps30
      go_wp2_with fail
      with_reducible refine HSM.out.mono ?_
      rintro e w1 ⟨rfl, hb1⟩
      go_wp2_with fail
      go_ret
      exact ⟨rfl, hb1⟩
  · have hf : underN la lb = false := by unfold underN; simp; omega
    have HF := Lib.hid hf
    have t0 : ¬ (lb.length : Int) ≤ (la.length : Int) := by omega
    clear hf hle
    go_enter Try.func30, Try.ntmps30
    go_wp2_with fail
    go_ret
    exact ⟨ret_bool HF.out.symm, Below.refl _ _⟩
/-- 'out = append(out, x...)', x a slice that reads as texts -/
theorem wpList_appTexts {P : Program} {w : World} {ops : Array Oper} {rest : List Oper} {o : Oper} {a : Act} {Q : Exit → Act → World → Prop} (hgd : o.guard = none) (s x : Operand) (t e : TypeId)
    (ho : o.op = .call { callee := .builtin .append, args := #[s, x], argTypes := #[t, t] }) (ht : P.underlying t = some (.slice e)) {z : Value} {bytes : Nat} (hI : Elem1 P e z bytes) (hzs : z.cells.size = 1)
    (base : Nat) (v : Value) (n m c : Nat) (A : Option Addr) (xs : List Value) (l : List (List UInt8)) (hs : a.eval s = v) (hx : a.eval x = .slice A m c) (hA : A = none → c = 0) (hl : TextsAt w A m l) (hown : w.ownsRow base e 1 v n xs)
    (hm : m ≤ 1000) (hb : (n + m) * bytes ≤ 140737488355328) (hn : n + m ≤ 140737488355328) (hbase : base ≤ w.heap.size)
    (h : ∀ v' w', w'.ownsRow base e 1 v' (n + m) (xs ++ strVs l) → Below base w w' → wpList P ops Q rest (a.put o.dst v') w') : wpList P ops Q (o :: rest) a w := by
  obtain ⟨i, hi, hz, h1, h2⟩ := info_parts hI
  have hlen : l.length = m := hl.1.symm
  match A, hA with
  | none, hA =>
    have h0 : m = 0 := by
      refine Decidable.byContradiction fun h => ?_
      obtain ⟨b, o, h2, _⟩ := hl.2 (by omega)
      cases h2
    have hc := hA rfl
    subst h0
    subst hc
    obtain rfl := List.length_eq_zero_iff.1 hlen
    refine wpList_append_own_none hgd s x t ho base e i 1 ht hi v n xs hs hown hx ?_
    refine h v w ?_ (Below.refl _ _)
    simpa [strVs] using hown
  | some ad, _ =>
    refine wpList_append_own w hgd s x t ho base e i z 1 bytes ht hi hz h1 h2 hzs (by decide) v n xs hs hown ad m c (strVs l) hx (by rw [strVs_len]; omega) ?_ ?_ ?_ hb hbase ?_
    · intro j y hj
      have hjl : j < l.length := by
        have := (List.getElem?_eq_some_iff.1 hj).1
        rwa [strVs_len] at this
      obtain ⟨b, o, h2, hlt, hc⟩ := hl.2 (by omega)
      obtain rfl : ad = ⟨b, o, none⟩ := by simpa using h2
      have hadd : (⟨b, o, none⟩ : Addr).add j = ⟨b, o + j, none⟩ := by unfold Addr.add; split <;> simp_all
      rw [hadd, hc j hjl]
      simp [strVs, hjl] at hj
      rw [← hj]
    · intro y hy
      obtain ⟨q, _, rfl⟩ := List.mem_map.1 hy
      rfl
    · unfold maxLen; omega
    · intro v' w' hown' hgrow hnil
      refine h v' w' hown' ?_
      exact (Below.refl base w).grown hgrow hbase (fun k hk => (hown.lt k hk).1)
def CatP (la lb : List (List UInt8)) (B : Nat) (w : World) (e : Ending) (w' : World) : Prop := ∃ A c, e = .returned (.tuple #[.slice A (if checkL (la ++ lb) = 0 then la ++ lb else []).length c, .int .i64 (checkL (la ++ lb))]) ∧ TextsAt w' A (if checkL (la ++ lb) = 0 then la ++ lb else []).length (if checkL (la ++ lb) = 0 then la ++ lb else []) ∧ Below B w w'
theorem catP_no {la lb : List (List UInt8)} {B : Nat} {w w' : World} {x : Int} (h : checkL (la ++ lb) = x) (hx : x ≠ 0) (hb : Below B w w') : CatP la lb B w (.returned (.tuple #[.slice none 0 0, .int .i64 x])) w' := by
  subst h
  refine ⟨none, 0, ?_, ?_, hb⟩
  · rw [if_neg hx]; rfl
  · rw [if_neg hx]; exact ⟨rfl, fun h => absurd h (by simp)⟩
theorem catP_yes {la lb : List (List UInt8)} {B : Nat} {w w' : World} {A : Option Addr} {c : Nat} (h : checkL (la ++ lb) = 0) (ht : TextsAt w' A (la ++ lb).length (la ++ lb)) (hb : Below B w w') : CatP la lb B w (.returned (.tuple #[.slice A (la ++ lb).length c, .int .i64 0])) w' := by
  refine ⟨A, c, ?_, ?_, hb⟩
  · rw [if_pos h, h]
  · rw [if_pos h]; exact ht
theorem own_cat {w : World} {base e n m : Nat} {v : Value} {la lb : List (List UInt8)} (hn : n = la.length) (hm : m = lb.length) (h : w.ownsRow base e 1 v (n + m) (strVs la ++ strVs lb)) : w.ownsRow base e 1 v (la ++ lb).length (strVs (la ++ lb)) := by
  subst hn
  subst hm
  simpa [strVs] using h
set_option maxHeartbeats 1000000 in
theorem refCat_any (A B : Option Addr) (n m c d : Nat) (la lb : List (List UInt8)) (w : World) (ha : TextsAt w A n la) (hb : TextsAt w B m lb) (hA : A = none → c = 0) (hB : B = none → d = 0) (hn : sizeL la ≤ 500) (hm : sizeL lb ≤ 500) :
    Calls Try.prog 26 #[.slice A n c, .slice B m d] w fun e w' => CatP la lb w.heap.size w e w' := by
  have e1 := ha.1
  have e2 := hb.1
  have HE1 := Lib.hid e1
  have HE2 := Lib.hid e2
  have hl1 := size_len la
  have hl2 := size_len lb
  have hn2 : n ≤ 500 := by omega
  have hm2 : m ≤ 500 := by omega
  clear e1 e2
  go_enter Try.func26, Try.ntmps26
  go_wp2_with (at_builtin; refine wpList_appTexts rfl (.tmp 8) (.tmp 9) 23 9 rfl Try.underlying23 elem9 rfl w.heap.size _ 0 n c A _ la rfl rfl hA ha (World.ownsRow_nil _ _ _ _) (by omega) (by omega) (by omega) (Nat.le_refl _) ?_)
  intro v1 w1 hown1 hb1
  go_wp2_with (at_builtin; refine wpList_appTexts rfl (.tmp 11) (.tmp 12) 23 9 rfl Try.underlying23 elem9 rfl w.heap.size _ n m d B _ lb rfl rfl hB (hb.below hb1) hown1 (by omega) (by omega) (by omega) hb1.size ?_)
  intro v2 w2 hown2 hb2
  have hown3 := own_cat HE1.out HE2.out hown2
  have HBB := hb1.trans hb2
  have hsz : sizeL (la ++ lb) ≤ 1000 := by rw [size_app]; omega
  have HYES := Lib.hid (fun (A : Option Addr) (c : Nat) (w' : World) => @catP_yes la lb w.heap.size w w' A c)
  have HNO := Lib.hid (fun (x : Int) (w' : World) => @catP_no la lb w.heap.size w w' x)
  obtain ⟨N, hN⟩ : ∃ N, N = la ++ lb := ⟨_, rfl⟩
  rw [← hN] at hown3 hsz HYES HNO
  clear hN hown1 hown2 hb1 hb2
  obtain ⟨A3, c3, rfl, hta⟩ := TextsAt.of_own hown3
  have HCK := Lib.hid (refCheck_any A3 _ c3 _ w2 hta (by omega))
  clear hown3
  by_cases h0 : checkL N = 0
  · have H0 := Lib.hid h0
    rw [h0] at HCK
    clear h0
    go_wp2_with fail
    with_reducible refine HCK.out.mono ?_
    rintro e w3 ⟨rfl, rfl⟩
    go_wp2_with fail
    go_ret2
    exact HYES.out _ _ _ H0.out hta HBB
  · have hx : (checkL N == 0) = false := by simpa using h0
    have H0 := Lib.hid h0
    obtain ⟨y, hy⟩ : ∃ y, y = checkL N := ⟨_, rfl⟩
    rw [← hy] at hx HCK H0
    have HY := Lib.hid hy.symm
    clear h0 hy
    go_wp2_with fail
    with_reducible refine HCK.out.mono ?_
    rintro e w3 ⟨rfl, rfl⟩
    go_wp2_with fail
    go_ret2
    exact HNO.out _ _ HY.out H0.out HBB
end Go.Proofs.Ytcdbnnfokophbaa
