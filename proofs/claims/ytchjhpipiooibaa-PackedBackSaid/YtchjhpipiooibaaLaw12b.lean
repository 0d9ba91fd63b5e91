/- Layer 12: the law of Put. -/
import Derived.Test.YtchjhpipiooibaaLaw12
import Derived.Test.YtchjhpipiooibaaFew12
import Derived.Test.YtchjhpipiooibaaMemMix2
namespace Go.Proofs.Ytchjhpipiooibaa
open Go.RowKit Go
set_option linter.unusedVariables false
set_option linter.unusedSimpArgs false
theorem namesAt_below {w w' : World} {A : Option Addr} {n : Nat} {L : List Nm} (h : NamesAt w A n L) (hb : Below w.heap.size w w') : NamesAt w' A n L := by
  refine ⟨h.1, fun h0 => ?_, fun y hy => ⟨(h.2.2 y hy).1.below hb, (h.2.2 y hy).2⟩⟩
  obtain ⟨b, o, hA, hlt, hc⟩ := h.2.1 h0
  exact ⟨b, o, hA, Nat.lt_of_lt_of_le hlt hb.size, fun j hj => by rw [hb.cell (p := ⟨b, o + j, none⟩) hlt]; exact hc j hj⟩
theorem tok_nil : TOk [] := fun r hr => by cases hr
theorem fewN_le {L : List Nm} (h : fewN L = true) : L.length ≤ 40 ∧ ∀ y ∈ L, sizeL y.l ≤ 401 := by
  unfold fewN at h
  rw [Bool.and_eq_true, decide_eq_true_eq, List.all_eq_true] at h
  exact ⟨h.1, fun y hy => by simpa using h.2 y hy⟩
theorem rtab_new {W0 w : World} (hb : Below W0.heap.size W0 w) : RTab W0 (w.alloc (.cells #[.slice none 0 0] 40)) w.heap.size [] := by
  refine ⟨.slice none 0 0, [], ?_, ⟨rfl, .inl ⟨rfl, rfl⟩⟩, rfl, fun i h => by simp at h⟩
  have hn := below_new w (.cells #[.slice none 0 0] 40)
  have h1 := hb.size
  have h2 := hn.size
  exact ⟨bl hb hn, by omega, fun y hy => by simp at hy; subst hy; exact ⟨h1, At.new w _ _⟩, by simp⟩
theorem RTab.lt {W0 w : World} {q : Nat} {T : List (Lbs × Int)} (h : RTab W0 w q T) : q < w.heap.size := by
  obtain ⟨_, _, S, _⟩ := h
  exact (S.get (i := 0) rfl).lt
theorem RTab.bw {W0 w : World} {q : Nat} {T : List (Lbs × Int)} (h : RTab W0 w q T) : Below W0.heap.size W0 w := by
  obtain ⟨_, _, S, _⟩ := h
  exact S.below
theorem PTab.bw {W0 w : World} {q : Nat} {T : List (Lbs × Int)} (h : PTab W0 w q T) : Below W0.heap.size W0 w := by
  obtain ⟨_, S, _⟩ := h
  exact S.below
theorem PTab.ge {W0 w : World} {q : Nat} {T : List (Lbs × Int)} (h : PTab W0 w q T) : W0.heap.size ≤ q := by
  obtain ⟨_, S, _⟩ := h
  exact S.ge (i := 0) rfl
theorem tabs_ne {W0 w : World} {g q : Nat} {T T' : List (Lbs × Int)} (h : PTab W0 w g T) (k : RTab W0 w q T') : g ≠ q := by
  obtain ⟨_, S, _⟩ := h
  obtain ⟨_, _, S', _⟩ := k
  have h1 := S.get (i := 0) rfl
  have h2 := S'.get (i := 0) rfl
  intro e
  subst e
  unfold At at h1 h2
  rw [h1] at h2
  injection h2 with h2
  injection h2 with _ h2
  exact absurd h2 (by decide)
/-- the document's table stays while the program's is written -/
theorem RTab.over {W0 w w' : World} {g q : Nat} {T T' : List (Lbs × Int)} (h : RTab W0 w q T) (hp : PTab W0 w g T') (hk : Kept isMapO g w w') (hb : Below W0.heap.size W0 w') : RTab W0 w' q T := by
  have hne := tabs_ne hp h
  obtain ⟨mv, Sp, _⟩ := hp
  have hpg := Sp.get (i := 0) rfl
  obtain ⟨v, vals, S, ho, hl, hn⟩ := h
  refine ⟨v, vals, ⟨hb, hb.size, fun y hy => by simp at hy; subst hy; exact ⟨S.ge (i := 0) rfl, (S.get (i := 0) rfl).kept hk (Ne.symm hne) rfl⟩, by simp⟩, own_kept ho hk (row_ne ho hpg (by decide)) (fun _ => rfl), hl, hn⟩
/-- the program's table stays while the document's is written -/
theorem PTab.over {W0 w w' : World} {g q : Nat} {T T' : List (Lbs × Int)} (h : PTab W0 w g T) (hr : RTab W0 w q T') (hk : Kept (isRowO 67) q w w') (hb : Below W0.heap.size W0 w') : PTab W0 w' g T := by
  have hne := tabs_ne h hr
  obtain ⟨v, vals, Sr, _⟩ := hr
  have hrq := Sr.get (i := 0) rfl
  obtain ⟨mv, S, h2⟩ := h
  refine ⟨mv, ⟨hb, hb.size, fun y hy => by simp at hy; subst hy; exact ⟨S.ge (i := 0) rfl, (S.get (i := 0) rfl).kept hk hne rfl⟩, by simp⟩, ?_⟩
  rcases h2 with h2 | ⟨bm, D, he, hB, ho, hrep⟩
  · exact .inl h2
  · exact .inr ⟨bm, D, he, hB, map_kept ho hk (map_ne ho hrq) (fun _ _ => rfl), hrep⟩
theorem putO_len (tb : Bool) (n : Lbs) (a : Int) (T : List (Lbs × Int)) : (putO tb n a T).2.1.length ≤ T.length + n.length := by
  unfold putO
  split
  · exact pkPut_len _ n a T
  · exact Nat.le_add_right _ _
theorem putO_ok (tb : Bool) (n : Lbs) (a : Int) (T : List (Lbs × Int)) (h : TOk T) : TOk (putO tb n a T).2.1 := by
  unfold putO
  split
  · refine pkPut_ok _ n a T (fun e => ?_) h
    rw [Bool.and_eq_true] at e
    exact of_decide_eq_true e.2
  · exact h
/-- a cell that was there when the law began -/
theorem mix_oldB {P : Program} {ops : Array Oper} {Q : Act → World → Prop} {o : Oper} {a : Act} {l : List (Oper × Bool)} {w W : World} (hw : Region.wanted o (yielded ops a.tmps) = true) (ty : TypeId) (x : Operand) (ho : o.op = .load ty x) (p : Addr) (hx : a.eval x = .pointer (some p)) (v : Value) (hv : W.cell? p = some v)
    (d : TypeDesc) (hu : P.underlying ty = some d) (hd : (match d with | .struct _ | .array _ _ => false | _ => true) = true)
    (h : wpMixO P ops (fun w' => Below W.heap.size W w') Q l (a.put o.dst v) w) : wpMixO P ops (fun w' => Below W.heap.size W w') Q ((o, true) :: l) a w :=
  mix_val hw (fun w hb => by
    have hagg : (isAgg ty).run P w = .ok false w := by
      unfold isAgg
      rw [Sem.run_bind, run_underlying hu w]
      cases d <;> simp_all
    have hc : w.cell? p = some v := (hb.cell (block_lt_of_cell hv)).trans hv
    unfold execOp
    simp only [ho, hx, Instr.loadAt, Instr.sureAddr, loadVar, Sem.run_bind, Sem.run_pure, Result.andThen_ok, hagg, Bool.false_eq_true, if_false, run_load, hc]) h
/-- one round of the law -/
def PutsR (W w0 : World) (g q n m : Nat) (i : Value) (wr : World) : Prop :=
  ∃ (k : Nat) (T : List (Lbs × Int)), k ≤ n ∧ k ≤ m ∧ i = .int .i64 k ∧ PTab W wr g T ∧ RTab W wr q T ∧ TOk T ∧ T.length ≤ 401 * k
set_option maxRecDepth 100000 in
set_option maxHeartbeats 8000000 in
theorem puts_core (A B : Option Addr) (n m c d : Nat) (L : List Nm) (Z : List Int) (W : World) (hL : NamesAt W A n L) (hZ : IntsAt W .i64 B m Z) :
    Calls Try.prog 4 #[.slice A n c, .slice B m d] W fun e w' => e = .returned (.bool true) ∧ Below W.heap.size W w' := by
  have HO := Lib.hid (fun w => works12_any w)
  have HFW := Lib.hid (fun w (h : Below W.heap.size W w) => few12_any A n c L w (namesAt_below hL h))
  cases hf : fewN L with
  | false =>
    rw [hf] at HFW
    clear hL hZ hf
    go_enter Try.func4, Try.ntmps4
    go_wp2_with (first
      | ((with_reducible refine (HFW.out _ HB.out).mono ?_); rintro e w2 ⟨rfl, rfl⟩)
      | ((with_reducible refine (HO.out W).mono ?_); rintro e w2 ⟨rfl, hb⟩; have HB := Lib.hid hb; clear hb)
      | ((with_reducible refine (HO.out _).mono ?_); rintro e w3 ⟨rfl, hb⟩; have HB3 := Lib.hid hb; clear hb))
    go_ret
    exact ⟨rfl, bl HB.out HB3.out⟩
  | true =>
    rw [hf] at HFW
    obtain ⟨hn40, hsz⟩ := fewN_le hf
    have HSZ := Lib.hid hsz
    have HL := Lib.hid hL
    have HZ := Lib.hid hZ
    have hn4 : n ≤ 40 := by rw [hL.1]; exact hn40
    have HN := Lib.hid (fun w => newTab_any w)
    clear hL hZ hf hsz hn40
    go_enter Try.func4, Try.ntmps4
    go_wp2_with (first
      | ((with_reducible refine (HFW.out _ HB.out).mono ?_); rintro e w2 ⟨rfl, rfl⟩)
      | ((with_reducible refine (HO.out W).mono ?_); rintro e w2 ⟨rfl, hb⟩; have HB := Lib.hid hb; clear hb)
      | ((with_reducible refine (HN.out _).mono ?_); rintro e w3 ⟨g, rfl, hg, ha, hb⟩; have HPT := Lib.hid (ptab_new HB.out hg ha hb); clear hg ha hb))
    generalize hq : w3.heap.size = q
    have hR0 := rtab_new HPT.out.bw
    have hP0 := HPT.out.kept (below_new w3 (.cells #[.slice none 0 0] 40))
    rw [hq] at hR0
    have HST := Lib.hid (show PutsR W w3 g q n m (.int .i64 0) (w3.alloc (.cells #[.slice none 0 0] 40)) from ⟨0, [], Nat.zero_le _, Nat.zero_le _, rfl, hP0, hR0, tok_nil, Nat.zero_le _⟩)
    clear hR0 hP0
    go_loopw [9] (fun i wr => PutsR W w3 g q n m i wr) (fun i _ => n - (intOf i).toNat)
    case atStart => exact HST.out
    case round =>
      obtain ⟨k, T, hk, hkm, rfl, hPT, hRT, hTok, hTl⟩ := hrel
      by_cases hlt : k < n
      · by_cases hlm : k < m
        · obtain ⟨b, o, rfl, hbh, hcell⟩ := HL.out.2.1 (by omega)
          have hkl : k < L.length := by have := HL.out.1; omega
          have c1 := hcell k hkl
          obtain ⟨htx, hnc, hxx⟩ := HL.out.2.2 _ (List.getElem_mem hkl)
          have hs := HSZ.out _ (List.getElem_mem hkl)
          obtain ⟨b2, o2, rfl, hbh2, hcell2⟩ := HZ.out.2 (by omega)
          have hkz : k < Z.length := by have := HZ.out.1; omega
          have c2 := hcell2 k hkz
          obtain ⟨y, hy⟩ : ∃ y, y = L[k] := ⟨_, rfl⟩
          obtain ⟨a, ha⟩ : ∃ a, a = Z[k] := ⟨_, rfl⟩
          rw [← hy] at c1 htx hnc hs
          rw [← ha] at c2
          obtain ⟨Ay, ny, cy, ly⟩ := y
          have c1 : W.cell? ⟨b, o + k, none⟩ = some (.slice Ay ny cy) := c1
          have C1 := Lib.hid c1
          have C2 := Lib.hid c2
          have hTx : TextsAt W Ay ny ly := htx
          have hs : sizeL ly ≤ 401 := hs
          have hnc : ny ≤ cy := hnc
          have hnl := size_len ly
          have hTl2 : T.length ≤ 50000 := by omega
          have HP1 := Lib.hid (fun wr (h : PTab W wr g T) => putTab_any W wr g T h hTok hTl2 Ay ny cy ly (hTx.below h.bw) (fun b o h0 he => by
            have hge := h.ge
            obtain ⟨b', o', he', hlt', _⟩ := hTx.2 h0
            rw [he] at he'
            injection he' with he'
            injection he' with he' _
            omega) hs a)
          have HP2 := Lib.hid (fun wr (h : RTab W wr q T) => refPutTab_any W wr q T h hTok hTl2 Ay ny cy ly hTx hnc hs a)
          have HP3 := Lib.hid (fun wr (h : Below W.heap.size W wr) => putNil_any Ay ny cy ly wr (hTx.below h) hs a)
          have HP4 := Lib.hid (fun wr (h : Below W.heap.size W wr) => refPutNil_any W Ay ny cy ly hTx hnc hs a wr h)
          obtain ⟨O1, hO1⟩ : ∃ O1, O1 = putO true ly a T := ⟨_, rfl⟩
          obtain ⟨O2, hO2⟩ : ∃ O2, O2 = putO false ly a [] := ⟨_, rfl⟩
          rw [← hO1] at HP1 HP2
          rw [← hO2] at HP3 HP4
          have hT1 : TOk O1.2.1 := by rw [hO1]; exact putO_ok _ _ _ _ hTok
          have hT2 : O1.2.1.length ≤ 401 * (k + 1) := by rw [hO1]; have := putO_len true ly a T; omega
          clear hO1 hO2
          obtain ⟨x1, T1, e1⟩ := O1
          obtain ⟨x2, T2, e2⟩ := O2
          obtain ⟨s1, hs1⟩ : ∃ s1 : ByteArray, s1 = ⟨x1.toArray⟩ := ⟨_, rfl⟩
          obtain ⟨s2, hs2⟩ : ∃ s2 : ByteArray, s2 = ⟨x2.toArray⟩ := ⟨_, rfl⟩
          simp only [← hs1] at HP1 HP2
          simp only [← hs2] at HP3 HP4
          have HT1 := Lib.hid hT1
          have HT2 := Lib.hid hT2
          have HPT := Lib.hid (hPT.kept (Below.refl _ _).drew)
          have HRT := Lib.hid (hRT.kept (Below.refl _ _).drew)
          have HBW := Lib.hid hPT.bw
          clear hxx
          clear hs1 hs2 hT1 hT2 hPT hRT hTok hTl hTl2 hcell hcell2 c1 c2 htx hTx hs hnl hnc hy ha hkl hkz hbh hbh2
          go_wp2_with fail
          refine wp_region_mixO (C := fun w' => Below W.heap.size W w') [(0, true), (1, true), (2, true), (3, true), (4, true), (5, true), (6, true), (7, true), (8, true), (9, false), (10, true), (11, true), (12, true), (13, true), (14, true)] (by kernel_rfl) (by kernel_rfl) HBW.out.drew ?_
          simp only [List.map_cons, List.map_nil, List.getD_cons_zero, List.getD_cons_succ]
          repeat (first
            | (refine mix_move rfl _ rfl ?_; simp only [Act.put, Act.eval, Array.getD_eq_getD_getElem?, List.getElem?_toArray, List.getElem?_cons_succ, List.getElem?_cons_zero, Option.getD_some, List.setIfInBounds_toArray, List.set_cons_succ, List.set_cons_zero])
            | (refine mix_oldB rfl _ _ rfl _ rfl _ C1.out _ Try.underlying24 rfl ?_; simp only [Act.put, Act.eval, Array.getD_eq_getD_getElem?, List.getElem?_toArray, List.getElem?_cons_succ, List.getElem?_cons_zero, Option.getD_some, List.setIfInBounds_toArray, List.set_cons_succ, List.set_cons_zero])
            | (refine mix_oldB rfl _ _ rfl _ rfl _ C2.out _ Try.underlying3 rfl ?_; simp only [Act.put, Act.eval, Array.getD_eq_getD_getElem?, List.getElem?_toArray, List.getElem?_cons_succ, List.getElem?_cons_zero, Option.getD_some, List.setIfInBounds_toArray, List.set_cons_succ, List.set_cons_zero])
            | (refine mix_val rfl (v := ?_) ?_ ?_; rotate_left; (focus (intro w _; go_simp; try with_reducible rfl)); simp only [Act.put, List.setIfInBounds_toArray, List.set_cons_succ, List.set_cons_zero]))
          refine mix_call 12 _ _ rfl rfl (enters_of Try.func12 (by kernel_rfl) rfl) ?_ (HP1.out _ HPT.out) ?_
          · simp [Act.eval]
          rintro e w2 ⟨rfl, hp2, hk2, hb2⟩
          refine ⟨_, rfl, hb2, ?_⟩
          have HPT2 := Lib.hid (hp2.kept (Below.refl _ _).drew); have HRT2 := Lib.hid ((HRT.out.over HPT.out hk2 hb2).kept (Below.refl _ _).drew); have HB2 := Lib.hid hb2; clear hp2 hk2 hb2
          simp only [Act.put, Act.eval, Array.getD_eq_getD_getElem?, List.getElem?_toArray, List.getElem?_cons_succ, List.getElem?_cons_zero, Option.getD_some, List.setIfInBounds_toArray, List.set_cons_succ, List.set_cons_zero]
          repeat (first
            | (refine mix_move rfl _ rfl ?_; simp only [Act.put, Act.eval, Array.getD_eq_getD_getElem?, List.getElem?_toArray, List.getElem?_cons_succ, List.getElem?_cons_zero, Option.getD_some, List.setIfInBounds_toArray, List.set_cons_succ, List.set_cons_zero])
            | (refine mix_val rfl (v := ?_) ?_ ?_; rotate_left; (focus (intro w _; go_simp; try with_reducible rfl)); simp only [Act.put, List.setIfInBounds_toArray, List.set_cons_succ, List.set_cons_zero])
            | (refine mix_assign rfl _ rfl ?_; simp only [Act.put, Act.eval, Array.getD_eq_getD_getElem?, List.getElem?_toArray, List.getElem?_cons_succ, List.getElem?_cons_zero, Option.getD_some, List.setIfInBounds_toArray, List.set_cons_succ, List.set_cons_zero]))
          refine mix_nil ?_
          go_wp2_with fail
          refine wp_region_mixO (C := fun w' => Below W.heap.size W w') [(0, true), (1, true), (2, true), (3, true), (4, true), (5, true), (6, true), (7, true), (8, true), (9, false), (10, true), (11, true), (12, true), (13, true), (14, true)] (by kernel_rfl) (by kernel_rfl) HB2.out.drew ?_
          simp only [List.map_cons, List.map_nil, List.getD_cons_zero, List.getD_cons_succ]
          repeat (first
            | (refine mix_move rfl _ rfl ?_; simp only [Act.put, Act.eval, Array.getD_eq_getD_getElem?, List.getElem?_toArray, List.getElem?_cons_succ, List.getElem?_cons_zero, Option.getD_some, List.setIfInBounds_toArray, List.set_cons_succ, List.set_cons_zero])
            | (refine mix_oldB rfl _ _ rfl _ rfl _ C1.out _ Try.underlying24 rfl ?_; simp only [Act.put, Act.eval, Array.getD_eq_getD_getElem?, List.getElem?_toArray, List.getElem?_cons_succ, List.getElem?_cons_zero, Option.getD_some, List.setIfInBounds_toArray, List.set_cons_succ, List.set_cons_zero])
            | (refine mix_oldB rfl _ _ rfl _ rfl _ C2.out _ Try.underlying3 rfl ?_; simp only [Act.put, Act.eval, Array.getD_eq_getD_getElem?, List.getElem?_toArray, List.getElem?_cons_succ, List.getElem?_cons_zero, Option.getD_some, List.setIfInBounds_toArray, List.set_cons_succ, List.set_cons_zero])
            | (refine mix_val rfl (v := ?_) ?_ ?_; rotate_left; (focus (intro w _; go_simp; try with_reducible rfl)); simp only [Act.put, List.setIfInBounds_toArray, List.set_cons_succ, List.set_cons_zero]))
          refine mix_call 13 _ _ rfl rfl (enters_of Try.func13 (by kernel_rfl) rfl) ?_ (HP2.out _ HRT2.out) ?_
          · simp [Act.eval]
          rintro e w4 ⟨rfl, hr4, hk4, hb4⟩
          refine ⟨_, rfl, hb4, ?_⟩
          have HRT4 := Lib.hid (hr4.kept (Below.refl _ _).drew); have HPT4 := Lib.hid ((HPT2.out.over HRT2.out hk4 hb4).kept (Below.refl _ _).drew); have HB4 := Lib.hid hb4; clear hr4 hk4 hb4
          simp only [Act.put, Act.eval, Array.getD_eq_getD_getElem?, List.getElem?_toArray, List.getElem?_cons_succ, List.getElem?_cons_zero, Option.getD_some, List.setIfInBounds_toArray, List.set_cons_succ, List.set_cons_zero]
          repeat (first
            | (refine mix_move rfl _ rfl ?_; simp only [Act.put, Act.eval, Array.getD_eq_getD_getElem?, List.getElem?_toArray, List.getElem?_cons_succ, List.getElem?_cons_zero, Option.getD_some, List.setIfInBounds_toArray, List.set_cons_succ, List.set_cons_zero])
            | (refine mix_val rfl (v := ?_) ?_ ?_; rotate_left; (focus (intro w _; go_simp; try with_reducible rfl)); simp only [Act.put, List.setIfInBounds_toArray, List.set_cons_succ, List.set_cons_zero])
            | (refine mix_assign rfl _ rfl ?_; simp only [Act.put, Act.eval, Array.getD_eq_getD_getElem?, List.getElem?_toArray, List.getElem?_cons_succ, List.getElem?_cons_zero, Option.getD_some, List.setIfInBounds_toArray, List.set_cons_succ, List.set_cons_zero]))
          refine mix_nil ?_
          go_wp2_with fail
          refine wp_region_mixO (C := fun w' => Below W.heap.size W w') [(0, true), (1, true), (2, true), (3, true), (4, true), (5, true), (6, true), (7, true), (8, true), (9, false), (10, true), (11, true), (12, true), (13, true), (14, true)] (by kernel_rfl) (by kernel_rfl) HB4.out.drew ?_
          simp only [List.map_cons, List.map_nil, List.getD_cons_zero, List.getD_cons_succ]
          repeat (first
            | (refine mix_move rfl _ rfl ?_; simp only [Act.put, Act.eval, Array.getD_eq_getD_getElem?, List.getElem?_toArray, List.getElem?_cons_succ, List.getElem?_cons_zero, Option.getD_some, List.setIfInBounds_toArray, List.set_cons_succ, List.set_cons_zero])
            | (refine mix_oldB rfl _ _ rfl _ rfl _ C1.out _ Try.underlying24 rfl ?_; simp only [Act.put, Act.eval, Array.getD_eq_getD_getElem?, List.getElem?_toArray, List.getElem?_cons_succ, List.getElem?_cons_zero, Option.getD_some, List.setIfInBounds_toArray, List.set_cons_succ, List.set_cons_zero])
            | (refine mix_oldB rfl _ _ rfl _ rfl _ C2.out _ Try.underlying3 rfl ?_; simp only [Act.put, Act.eval, Array.getD_eq_getD_getElem?, List.getElem?_toArray, List.getElem?_cons_succ, List.getElem?_cons_zero, Option.getD_some, List.setIfInBounds_toArray, List.set_cons_succ, List.set_cons_zero])
            | (refine mix_val rfl (v := ?_) ?_ ?_; rotate_left; (focus (intro w _; go_simp; try with_reducible rfl)); simp only [Act.put, List.setIfInBounds_toArray, List.set_cons_succ, List.set_cons_zero]))
          refine mix_call 12 _ _ rfl rfl (enters_of Try.func12 (by kernel_rfl) rfl) ?_ (HP3.out _ HB4.out.drew) ?_
          · simp [Act.eval]
          rintro e w5 ⟨rfl, hb5⟩
          refine ⟨_, rfl, (bl HB4.out.drew hb5), ?_⟩
          have HB5 := Lib.hid (bl HB4.out.drew hb5); have HRT5 := Lib.hid ((HRT4.out.kept hb5).kept (Below.refl _ _).drew); have HPT5 := Lib.hid ((HPT4.out.kept hb5).kept (Below.refl _ _).drew); clear hb5
          simp only [Act.put, Act.eval, Array.getD_eq_getD_getElem?, List.getElem?_toArray, List.getElem?_cons_succ, List.getElem?_cons_zero, Option.getD_some, List.setIfInBounds_toArray, List.set_cons_succ, List.set_cons_zero]
          repeat (first
            | (refine mix_move rfl _ rfl ?_; simp only [Act.put, Act.eval, Array.getD_eq_getD_getElem?, List.getElem?_toArray, List.getElem?_cons_succ, List.getElem?_cons_zero, Option.getD_some, List.setIfInBounds_toArray, List.set_cons_succ, List.set_cons_zero])
            | (refine mix_val rfl (v := ?_) ?_ ?_; rotate_left; (focus (intro w _; go_simp; try with_reducible rfl)); simp only [Act.put, List.setIfInBounds_toArray, List.set_cons_succ, List.set_cons_zero])
            | (refine mix_assign rfl _ rfl ?_; simp only [Act.put, Act.eval, Array.getD_eq_getD_getElem?, List.getElem?_toArray, List.getElem?_cons_succ, List.getElem?_cons_zero, Option.getD_some, List.setIfInBounds_toArray, List.set_cons_succ, List.set_cons_zero]))
          refine mix_nil ?_
          go_wp2_with fail
          refine wp_region_mixO (C := fun w' => Below W.heap.size W w') [(0, true), (1, true), (2, true), (3, true), (4, true), (5, true), (6, true), (7, true), (8, true), (9, false), (10, true), (11, true), (12, true), (13, true), (14, true)] (by kernel_rfl) (by kernel_rfl) HB5.out.drew ?_
          simp only [List.map_cons, List.map_nil, List.getD_cons_zero, List.getD_cons_succ]
          repeat (first
            | (refine mix_move rfl _ rfl ?_; simp only [Act.put, Act.eval, Array.getD_eq_getD_getElem?, List.getElem?_toArray, List.getElem?_cons_succ, List.getElem?_cons_zero, Option.getD_some, List.setIfInBounds_toArray, List.set_cons_succ, List.set_cons_zero])
            | (refine mix_oldB rfl _ _ rfl _ rfl _ C1.out _ Try.underlying24 rfl ?_; simp only [Act.put, Act.eval, Array.getD_eq_getD_getElem?, List.getElem?_toArray, List.getElem?_cons_succ, List.getElem?_cons_zero, Option.getD_some, List.setIfInBounds_toArray, List.set_cons_succ, List.set_cons_zero])
            | (refine mix_oldB rfl _ _ rfl _ rfl _ C2.out _ Try.underlying3 rfl ?_; simp only [Act.put, Act.eval, Array.getD_eq_getD_getElem?, List.getElem?_toArray, List.getElem?_cons_succ, List.getElem?_cons_zero, Option.getD_some, List.setIfInBounds_toArray, List.set_cons_succ, List.set_cons_zero])
            | (refine mix_val rfl (v := ?_) ?_ ?_; rotate_left; (focus (intro w _; go_simp; try with_reducible rfl)); simp only [Act.put, List.setIfInBounds_toArray, List.set_cons_succ, List.set_cons_zero]))
          refine mix_call 13 _ _ rfl rfl (enters_of Try.func13 (by kernel_rfl) rfl) ?_ (HP4.out _ HB5.out.drew) ?_
          · simp [Act.eval]
          rintro e w6 ⟨rfl, hb6⟩
          refine ⟨_, rfl, (bl HB5.out.drew hb6), ?_⟩
          have HRT6 := Lib.hid (HRT5.out.kept hb6); have HPT6 := Lib.hid (HPT5.out.kept hb6); clear hb6
          simp only [Act.put, Act.eval, Array.getD_eq_getD_getElem?, List.getElem?_toArray, List.getElem?_cons_succ, List.getElem?_cons_zero, Option.getD_some, List.setIfInBounds_toArray, List.set_cons_succ, List.set_cons_zero]
          repeat (first
            | (refine mix_move rfl _ rfl ?_; simp only [Act.put, Act.eval, Array.getD_eq_getD_getElem?, List.getElem?_toArray, List.getElem?_cons_succ, List.getElem?_cons_zero, Option.getD_some, List.setIfInBounds_toArray, List.set_cons_succ, List.set_cons_zero])
            | (refine mix_val rfl (v := ?_) ?_ ?_; rotate_left; (focus (intro w _; go_simp; try with_reducible rfl)); simp only [Act.put, List.setIfInBounds_toArray, List.set_cons_succ, List.set_cons_zero])
            | (refine mix_assign rfl _ rfl ?_; simp only [Act.put, Act.eval, Array.getD_eq_getD_getElem?, List.getElem?_toArray, List.getElem?_cons_succ, List.getElem?_cons_zero, Option.getD_some, List.setIfInBounds_toArray, List.set_cons_succ, List.set_cons_zero]))
          refine mix_nil ?_
          go_wp2_with fail
          go_roundw
          case rel => exact ⟨k + 1, T1, by omega, by omega, by go_num, HPT6.out, HRT6.out, HT1.out, HT2.out⟩
          case measure => simp [intOf]; omega
        · have HBW := Lib.hid hPT.bw
          clear hPT hRT hTok hTl
          go_wp2_with fail
          go_ret
          exact ⟨rfl, HBW.out⟩
      · have HBW := Lib.hid hPT.bw
        clear hPT hRT hTok hTl
        go_wp2_with fail
        go_ret
        exact ⟨rfl, HBW.out⟩
theorem packedPuts_law {H : Type} {enc : TypeId × Value → H} {d0 d1 : DataW H} {p0 p1 : List MemPlace} {base : Nat} (v0 v1 : Value) (W : World) (o0 : Value.okWide Try.prog W .any base 32 v0)
    (k0 : DataW.Trod enc Try.prog W 0 (fun _ => true) true 32 v0 d0 p0) (z0 : (d0.weights Try.prog 32).all (· ≤ reachBytes) = true) (o1 : Value.okWide Try.prog W .any base 33 v1)
    (k1 : DataW.Trod enc Try.prog W 0 (fun _ => true) true 33 v1 d1 p1) (z1 : (d1.weights Try.prog 33).all (· ≤ reachBytes) = true) :
    Calls Try.prog 4 #[v0, v1] W fun e w' => e = .returned (.bool true) ∧ Below W.heap.size W w' := by
  obtain ⟨A, n, c, rfl⟩ := Go.WideShapes.okWide_slice Try.underlying32 o0
  obtain ⟨B, m, d, rfl⟩ := Go.WideShapes.okWide_slice Try.underlying33 o1
  obtain ⟨L, hL⟩ := open_names Try.underlying32 Try.underlying24 Try.underlying9 (by kernel_rfl) (by kernel_rfl) k0 z0
  obtain ⟨Z, hZ, _⟩ := open_intsAt Try.underlying33 Try.underlying3 (by kernel_rfl) k1
  exact puts_core A B n m c d L Z W hL hZ
end Go.Proofs.Ytchjhpipiooibaa
