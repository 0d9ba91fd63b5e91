/- Layer 12: the document's table. -/
import Derived.Test.YtchjhpipiooibaaMath18
import Derived.Test.YtchjhpipiooibaaMemKept
import Derived.Test.YtchjhpipiooibaaExact
import Derived.Test.YtchjhpipiooibaaDom
namespace Go.Proofs.Ytchjhpipiooibaa
open Go.RowKit Go
set_option linter.unusedVariables false
/-- a slice value that reads as a name in the world that one began with -/
def NameV (W0 : World) (v : Value) (l : Lbs) : Prop := ∃ A n c, v = .slice A n c ∧ TextsAt W0 A n l ∧ n ≤ 400
def rowCells (vals : List Value) (T : List (Lbs × Int)) : List Value := (List.zipWith (fun v (r : Lbs × Int) => [v, Value.int .i64 r.2]) vals T).flatten
theorem rowCells_len : ∀ (vals : List Value) (T : List (Lbs × Int)), vals.length = T.length → (rowCells vals T).length = T.length * 2
  | [], [], _ => rfl
  | v :: vals, r :: T, h => by
    have := rowCells_len vals T (by simpa using h)
    simp only [rowCells, List.zipWith_cons_cons, List.flatten_cons, List.length_append, List.length_cons, List.length_nil] at this ⊢
    omega
  | [], _ :: _, h => by simp at h
  | _ :: _, [], h => by simp at h
theorem rowCells_at : ∀ (vals : List Value) (T : List (Lbs × Int)), vals.length = T.length → ∀ i (h : i < T.length) (h' : i < vals.length), (rowCells vals T)[2 * i]? = some vals[i] ∧ (rowCells vals T)[2 * i + 1]? = some (.int .i64 T[i].2)
  | [], [], _, i, h, _ => by simp at h
  | v :: vals, r :: T, hl, 0, _, _ => ⟨rfl, rfl⟩
  | v :: vals, r :: T, hl, i + 1, h, h' => by
    have := rowCells_at vals T (by simpa using hl) i (by simpa using h) (by simpa using h')
    exact this
  | [], _ :: _, hl, _, _, _ => by simp at hl
  | _ :: _, [], hl, _, _, _ => by simp at hl
theorem rowCells_add (vals : List Value) (T : List (Lbs × Int)) (h : vals.length = T.length) (v : Value) (r : Lbs × Int) : rowCells (vals ++ [v]) (T ++ [r]) = rowCells vals T ++ [v, .int .i64 r.2] := by
  unfold rowCells
  rw [List.zipWith_append h]
  simp
/-- the document's table q, in a world that comes of W0 -/
def RTab (W0 w : World) (q : Nat) (T : List (Lbs × Int)) : Prop :=
  ∃ v vals, Ats W0.heap.size W0 w [(q, 40, #[v])] ∧ w.ownsRow W0.heap.size 67 2 v T.length (rowCells vals T) ∧ vals.length = T.length ∧ ∀ i (h : i < T.length) (h' : i < vals.length), NameV W0 vals[i] T[i].1
/-- the first place at which a table has a name, from k on -/
theorem find_drop {T : List (Lbs × Int)} {l : Lbs} {k : Nat} (h : k < T.length) : pkFind (T.drop k) l = if T[k].1 = l then some T[k].2 else pkFind (T.drop (k + 1)) l := by
  unfold pkFind
  rw [List.drop_eq_getElem_cons h, List.find?_cons]
  by_cases e : T[k].1 = l
  · simp [e]
  · simp [e]
def findI (T : List (Lbs × Int)) (l : Lbs) : Int := match pkFind T l with | some to => to | none => -1
theorem findI_some {T : List (Lbs × Int)} {l : Lbs} {to : Int} (h : pkFind T l = some to) : findI T l = to := by unfold findI; rw [h]
theorem findI_none {T : List (Lbs × Int)} {l : Lbs} (h : pkFind T l = none) : findI T l = -1 := by unfold findI; rw [h]
theorem refFindNil_any (A : Option Addr) (n c : Nat) (w : World) : Calls Try.prog 27 #[.pointer none, .slice A n c] w fun e w' => e = .returned (.int .i64 (-1)) ∧ w = w' := by
  go_enter Try.func27, Try.ntmps27
  go_wp2
  go_ret
  exact ⟨rfl, rfl⟩
set_option maxRecDepth 100000 in
set_option maxHeartbeats 4000000 in
theorem refFind_any (W0 w : World) (q : Nat) (T : List (Lbs × Int)) (hT : RTab W0 w q T) (hTl : T.length ≤ 100000) (A : Option Addr) (n c : Nat) (l : Lbs) (hl : TextsAt W0 A n l) (hn : n ≤ 400) (h0 : 0 < n) :
    Calls Try.prog 27 #[.pointer (some ⟨q, 0, none⟩), .slice A n c] w fun e w' => e = .returned (.int .i64 (findI T l)) ∧ Below w.heap.size w w' := by
  obtain ⟨v, vals, S, ho, hvl, hnv⟩ := hT
  obtain ⟨Av, cv, rfl⟩ := own_slice_of ho
  have hsl := fun wr (hb : Below w.heap.size w wr) => (S.get (i := 0) rfl).below hb (S.get (i := 0) rfl).lt
  have hcq := fun wr (hb : Below w.heap.size w wr) => (hsl wr hb).cells 0 rfl
  have HCQ := Lib.hid hcq
  have hown := fun wr (hb : Below w.heap.size w wr) => own_belowX ho hb
  have HOWN := Lib.hid hown
  have HSB := Lib.hid S.below
  have HVL := Lib.hid hvl
  have HNV := Lib.hid hnv
  have HL := Lib.hid hl
  have t0 : ((n : Int) == 0) = false := by rw [beq_eq_false_iff_ne]; omega
  obtain ⟨L, hL⟩ : ∃ L, L = T.length := ⟨_, rfl⟩
  rw [← hL] at hTl HCQ
  have HLL := Lib.hid hL
  clear hcq hown hvl hnv hl S ho hsl hL h0
  go_enter Try.func27, Try.ntmps27
  go_wp2_with fail
  go_loopw [5] (fun i wr => ∃ k : Nat, k ≤ L ∧ i = .int .i64 k ∧ findI T l = findI (T.drop k) l ∧ Below w.heap.size w wr) (fun i _ => L - (intOf i).toNat)
  case atStart => exact ⟨0, Nat.zero_le _, rfl, rfl, Below.refl _ _⟩
  case round =>
    obtain ⟨k, hk, rfl, hf, HB⟩ := hrel
    have cq : wr.cell? ⟨q, 0, none⟩ = some (.slice Av L cv) := HCQ.out wr HB
    by_cases hlt : k < L
    · have ow := HOWN.out wr HB
      obtain ⟨gv, rfl⟩ : ∃ gv, Av = some ⟨gv, 0, none⟩ := by
        rcases ow.2 with ⟨he, h0⟩ | ⟨gv, cap, cur, he, _⟩
        · have := HLL.out; omega
        · injection he with he; exact ⟨gv, he⟩
      have hLL := HLL.out
      have hVL := HVL.out
      obtain ⟨An, nn, cn, hvk, htk, hnk⟩ := HNV.out k (by omega) (by omega)
      have hcl := rowCells_at vals T hVL k (by omega) (by omega)
      have c0 := ow.cellAt (2 * k) (by omega)
      have c1 := ow.cellAt (2 * k + 1) (by omega)
      rw [hcl.1, hvk, Nat.mul_comm] at c0
      rw [hcl.2, Nat.mul_comm] at c1
      have HBL := Lib.hid (cell_lt c1)
      have hX := refExactX_any An A nn n cn c T[k].1 l wr ((htk.below HSB.out).below HB) ((HL.out.below HSB.out).below HB) (by omega) (by omega)
      have hfd := find_drop (T := T) (l := l) (k := k) (by omega)
      obtain ⟨nm, hnm⟩ : ∃ nm, nm = T[k].1 := ⟨_, rfl⟩
      obtain ⟨tk, htk2⟩ : ∃ tk, tk = T[k].2 := ⟨_, rfl⟩
      rw [← hnm] at hX hfd
      rw [← htk2] at c1 hfd
      by_cases he : nm = l
      · rw [decide_eq_true he] at hX
        have HX := Lib.hid hX
        rw [if_pos he] at hfd
        have HF := Lib.hid (hf.trans (findI_some hfd))
        clear hX hfd hf hcl hvk htk hnm htk2 he ow hLL hVL
        go_wp2_with ((with_reducible refine HX.out.mono ?_); rintro e w2 ⟨rfl, hb2⟩; have hb3 := HB.trans (hb2.mono HB.size); have cq2 : w2.cell? ⟨q, 0, none⟩ = some (.slice (some ⟨gv, 0, none⟩) L cv) := HCQ.out w2 hb3; have c2 : w2.cell? ⟨gv, k * 2 + 1, none⟩ = some (.int .i64 tk) := (hb2.cell HBL.out).trans c1)
        go_ret
        exact ⟨ret_int HF.out.symm, hb3⟩
      · rw [decide_eq_false he] at hX
        have HX := Lib.hid hX
        rw [if_neg he] at hfd
        have HF := Lib.hid (show findI T l = findI (T.drop (k + 1)) l by rw [hf]; unfold findI; rw [hfd])
        clear hX hfd hf hcl hvk htk hnm htk2 he ow hLL hVL
        go_wp2_with ((with_reducible refine HX.out.mono ?_); rintro e w2 ⟨rfl, hb2⟩; have hb3 := HB.trans (hb2.mono HB.size))
        go_roundw
        case rel => exact ⟨k + 1, by omega, by go_num, HF.out, hb3⟩
        case measure => simp [intOf]; omega
    · have HF := Lib.hid (show findI T l = -1 by
        rw [hf, List.drop_eq_nil_of_le (by have := HLL.out; omega)]; rfl)
      clear hf
      go_wp2_with fail
      go_ret
      exact ⟨ret_int HF.out.symm, HB⟩
end Go.Proofs.Ytchjhpipiooibaa
