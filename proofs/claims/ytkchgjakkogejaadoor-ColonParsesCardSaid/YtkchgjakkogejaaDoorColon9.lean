/- Layer 8: colon.octets. -/
import Derived.Test.YtkchgjakkogejaaDoorColon8
import Derived.Test.YtkchgjakkogejaaDoorMemIns
namespace Go.Proofs.YtkchgjakkogejaaDoor
open Go.RowKit Go
set_option linter.unusedVariables false
set_option maxRecDepth 100000
def MX (w : World) : Prop := ∃ m, w.cell? ⟨0, 0, none⟩ = some (.int .i64 m)
theorem MX.below {w w' : World} (h : MX w) {B : Nat} (hB : w.heap.size ≤ B) (hb : Below B w w') : MX w' := by
  obtain ⟨m, hm⟩ := h
  exact ⟨m, (hb.cell (Nat.lt_of_lt_of_le (cell_lt hm) hB)).trans hm⟩
/-- 'copy(d, s)' of integers that lie somewhere, onto a block that is known -/
theorem wpList_copyInts {P : Program} {ops : Array Oper} {rest : List Oper} {o : Oper} {a : Act} {w : World} {Q : Exit → Act → World → Prop} {B : Nat} {w0 : World} {L : List (Nat × TypeId × Array Value)} (hgd : o.guard = none) (d s : Operand) (dT sT : TypeId)
    (ho : o.op = .call { callee := .builtin .copy, args := #[d, s], argTypes := #[dT, sT] }) (elem : TypeId) (hu : P.underlying dT = some (.slice elem)) (hsz : (P.info? elem).map (·.size) = some 1) (S : Ats B w0 w L) (i g : Nat) (t : TypeId) (cur : List Value)
    (hi : L[i]? = some (g, t, cur.toArray)) (dp : Option Addr) (off dLen dCap n c : Nat) (A : Option Addr) (q : IntKind) (l : List Int) (hdp : 0 < n → dp = some ⟨g, off, none⟩) (hd : a.eval d = .slice dp dLen dCap) (hs : a.eval s = .slice A n c) (hl : IntsAt w q A n l) (hle : n ≤ dLen) (hfit : off + n ≤ cur.length)
    (h : ∀ w1, Ats B w0 w1 (L.set i (g, t, (splice cur off (intVs q l)).toArray)) → wpList P ops Q rest (a.put o.dst (.int .i64 n)) w1) : wpList P ops Q (o :: rest) a w := by
  have hlen : l.length = n := hl.1.symm
  by_cases h0 : 0 < n
  · obtain ⟨b, o', rfl, hlt, hc⟩ := hl.2 h0
    have hdp' := hdp h0
    subst hdp'
    refine wpList_copy_at hgd d s dT sT ho elem hu hsz g off dLen dCap ⟨b, o', none⟩ n c hd hs cur t (S.get hi) (intVs q l) ?_ ?_ ?_ ?_ ?_
    · rw [intVs_len, hlen]; exact (Nat.min_eq_left hle).symm
    · intro j v hj
      have hjl : j < l.length := by
        have := (List.getElem?_eq_some_iff.1 hj).1
        rwa [intVs_len] at this
      rw [Go.WideShapes.add_plain, hc j hjl]
      simp [intVs, hjl] at hj
      rw [← hj]
    · rw [intVs_len, hlen]; exact hfit
    · intro v hv
      obtain ⟨z, _, rfl⟩ := List.mem_map.1 hv
      rfl
    · intro w' ha hg
      have := h w' (S.grow hi hg ha.out)
      rw [intVs_len, hlen]
      exact this
  · obtain rfl : n = 0 := by omega
    obtain rfl : l = [] := List.length_eq_zero_iff.1 hlen
    refine wpList_copy_nothing hgd d s dT sT ho elem hu hsz dp A dLen dCap 0 c hd hs (Nat.zero_min _) ?_
    refine h w ?_
    have e : splice cur off (intVs q []) = cur := by simp [splice, intVs]
    rw [e]
    have hil : i < L.length := (List.getElem?_eq_some_iff.1 hi).1
    have e2 : L.set i (g, t, cur.toArray) = L := by
      have := (List.getElem?_eq_some_iff.1 hi).2
      rw [← this]
      exact List.set_getElem_self hil
    rw [e2]
    exact S
def z16 : List Value := List.replicate 16 (.int .u8 0)
theorem z16Zero : (Tryd.prog.info? 23).map (·.zero) = some (some (.agg z16.toArray)) := by kernel_rfl
theorem z16Size : (Tryd.prog.info? 23).map (·.size) = some 16 := by kernel_rfl
def at16 (g l : Nat) : Addr := if l = 16 then ⟨g, 0, none⟩ else ⟨g, l, none⟩
theorem slice16_all (g : Nat) (w : World) : (Instr.sliceAt 23 (.pointer (some ⟨g, 0, none⟩)) none none none).run Tryd.prog w = .ok (.slice (some ⟨g, 0, none⟩) 16 16) w := by
  have ha : Tryd.prog.arrayLen 23 = 16 := by kernel_rfl
  have he : Tryd.prog.elem 23 = 5 := by kernel_rfl
  rw [run_sliceAt_array_all w 23 _ (by kernel_rfl), he, Tryd.sizeOf5]
  simp [slicedAt, ha, Result.andThen, Addr.add]
theorem slice16_l (g l : Nat) (h : l ≤ 16) (w : World) : (Instr.sliceAt 23 (.pointer (some ⟨g, 0, none⟩)) (some (.int .i64 l)) none none).run Tryd.prog w = .ok (.slice (some (at16 g l)) (16 - l) (16 - l)) w := by
  have ha : Tryd.prog.arrayLen 23 = 16 := by kernel_rfl
  have he : Tryd.prog.elem 23 = 5 := by kernel_rfl
  rw [run_sliceAt_array_l w 23 _ (by kernel_rfl) .i64 l (by omega) (by rw [ha]; omega), he, Tryd.sizeOf5]
  simp [slicedAt, ha, Result.andThen, Addr.add, at16]
  by_cases h8 : l = 16
  · rw [if_pos h8.symm, if_pos h8]
  · rw [if_neg (Ne.symm h8), if_neg h8]
    by_cases h0 : l = 0
    · rw [if_pos h0, h0]
    · rw [if_neg h0]
theorem splice_two (X Y : List Value) (h : X.length + Y.length ≤ 16) : splice (splice z16 0 X) (16 - Y.length) Y = X ++ List.replicate (16 - X.length - Y.length) (.int .u8 0) ++ Y := by
  have e1 : splice z16 0 X = X ++ List.replicate (16 - X.length) (.int .u8 0) := by
    unfold splice z16
    rw [Nat.zero_add, List.drop_replicate]
    rfl
  rw [e1]
  unfold splice
  rw [List.take_append, List.take_of_length_le (by omega), List.take_replicate, List.drop_of_length_le (by simp; omega), List.append_nil, show min (16 - Y.length - X.length) (16 - X.length) = 16 - X.length - Y.length by omega, List.append_assoc]
theorem intVs_cells (l : List UInt8) : intVs .u8 (bInts l) = l.map cellU := by simp [intVs, bInts, cellU]
theorem cells_two (x y : List UInt8) (h : x.length + y.length ≤ 16) : splice (splice z16 0 (intVs .u8 (bInts x))) (16 - y.length) (intVs .u8 (bInts y)) = (x ++ List.replicate (16 - x.length - y.length) 0 ++ y).map cellU := by
  have e := splice_two (intVs .u8 (bInts x)) (intVs .u8 (bInts y)) (by rw [intVs_len, intVs_len, bInts_len, bInts_len]; exact h)
  rw [intVs_len, intVs_len, bInts_len, bInts_len] at e
  rw [e, intVs_cells, intVs_cells, List.map_append, List.map_append, List.map_replicate]
  rfl
/- what comes of two halves -/
def fitB (n : Nat) (gap : Bool) : Bool := if gap = true then decide (n ≤ 14) else decide (n = 16)
def octR (gap : Bool) (x y : Option (List Nat)) : Option (List UInt8) := match x, y with
  | some x, some y => if fitB (2 * x.length + 2 * y.length) gap = true then some (bytesG x ++ List.replicate (16 - 2 * x.length - 2 * y.length) 0 ++ bytesG y) else none
  | _, _ => none
theorem octR_gap (x y : Option (List Nat)) : octR true x y = octM x y := by
  unfold octR octM
  cases x with
  | none => rfl
  | some x =>
    cases y with
    | none => rfl
    | some y =>
      simp only [fitB, if_true, decide_eq_true_eq]
      by_cases h : x.length + y.length ≤ 7
      · rw [if_pos h, if_pos (by omega)]
      · rw [if_neg h, if_neg (by omega)]
theorem octR_whole (y : Option (List Nat)) : octR false (some []) y = octW y := by
  unfold octR octW
  cases y with
  | none => rfl
  | some y =>
    simp only [fitB, Bool.false_eq_true, if_false, decide_eq_true_eq, List.length_nil]
    by_cases h : y.length = 8
    · rw [if_pos h, if_pos (by omega), h]
      rfl
    · rw [if_neg h, if_neg (by omega)]
theorem cut_parts (l : List UInt8) : (∃ f b, Lib.cut l [58, 58] = (f, b, true) ∧ octE l = octR true (sideC false f) (sideC true b) ∧ f.length ≤ l.length ∧ b.length ≤ l.length) ∨ (Lib.cut l [58, 58] = (l, [], false) ∧ octE l = octR false (sideC false []) (sideC true l)) := by
  rcases Lib.index_spec l [58, 58] with ⟨h, _⟩ | ⟨i, h, _, _, _⟩
  · right
    refine ⟨?_, ?_⟩
    · unfold Lib.cut; rw [h, if_neg (by decide)]
    · rw [oct_whole l h, show sideC false [] = some [] from rfl, octR_whole]
  · left
    refine ⟨l.take i, l.drop (i + 2), ?_, ?_, ?_, ?_⟩
    · unfold Lib.cut; rw [h, if_pos (by omega), Int.toNat_natCast]; rfl
    · rw [oct_gap l i h, octR_gap]
    · rw [List.length_take]; exact Nat.min_le_right _ _
    · rw [List.length_drop]; omega
theorem octR_none1 (gap : Bool) (y : Option (List Nat)) : octR gap none y = none := rfl
theorem octR_none2 (gap : Bool) (x : Option (List Nat)) : octR gap x none = none := by cases x <;> rfl
theorem octR_unfit {gap : Bool} {x y : List Nat} (h : fitB (2 * x.length + 2 * y.length) gap = false) : octR gap (some x) (some y) = none := by
  unfold octR; simp only; rw [if_neg (by rw [h]; simp)]
theorem octR_fit {gap : Bool} {x y : List Nat} (h : fitB (2 * x.length + 2 * y.length) gap = true) : octR gap (some x) (some y) = some (bytesG x ++ List.replicate (16 - 2 * x.length - 2 * y.length) 0 ++ bytesG y) := by
  unfold octR; simp only; rw [if_pos h]
theorem fitB_le {n : Nat} {gap : Bool} (h : fitB n gap = true) : n ≤ 16 := by
  unfold fitB at h
  split at h <;> (have := of_decide_eq_true h; omega)
theorem halfN_any (f : List UInt8) (last : Bool) (w : World) (hs : f.length ≤ 4000) (hP : P10 w) (h : sideC last f = none) :
    Calls Tryd.prog 27 #[.string ⟨f.toArray⟩, .bool last] w fun e w' => e = .returned (.tuple #[.slice none 0 0, .bool false]) ∧ Below w.heap.size w w' := by
  refine (half_any ⟨f.toArray⟩ last w (by show f.length ≤ 4000; exact hs) hP).mono ?_
  rintro e w' h1
  have e0 : (⟨f.toArray⟩ : ByteArray).data.toList = f := rfl
  unfold HalfP at h1
  rw [e0] at h1
  rcases h1 with ⟨_, he, hb⟩ | ⟨m, hm, _⟩
  · exact ⟨he, hb⟩
  · rw [h] at hm; cases hm
theorem halfY_any (f : List UInt8) (m : List Nat) (last : Bool) (w : World) (hs : f.length ≤ 4000) (hP : P10 w) (h : sideC last f = some m) :
    Calls Tryd.prog 27 #[.string ⟨f.toArray⟩, .bool last] w fun e w' => HalfY m w.heap.size w e w' := by
  refine (half_any ⟨f.toArray⟩ last w (by show f.length ≤ 4000; exact hs) hP).mono ?_
  rintro e w' h1
  have e0 : (⟨f.toArray⟩ : ByteArray).data.toList = f := rfl
  unfold HalfP at h1
  rw [e0] at h1
  rcases h1 with ⟨hn, _⟩ | ⟨m', hm, hy⟩
  · rw [h] at hn; cases hn
  · rw [h] at hm
    injection hm with hm
    subst hm
    exact hy
theorem halfW_any (f : List UInt8) (last : Bool) (w : World) (hs : f.length ≤ 4000) (hP : P10 w) :
    Calls Tryd.prog 27 #[.string ⟨f.toArray⟩, .bool last] w fun e w' => (∃ A n c b, e = .returned (.tuple #[.slice A n c, .bool b])) ∧ Below w.heap.size w w' := by
  refine (half_any ⟨f.toArray⟩ last w (by show f.length ≤ 4000; exact hs) hP).mono ?_
  rintro e w' h1
  rcases h1 with ⟨_, he, hb⟩ | ⟨m, _, ⟨A, c, he, _⟩, hb⟩
  · exact ⟨⟨_, _, _, _, he⟩, hb⟩
  · exact ⟨⟨_, _, _, _, he⟩, hb⟩
theorem cutD_any (s : ByteArray) (w : World) (hs : s.size ≤ 4000) (hM : MX w) :
    Calls Tryd.prog 26 #[.string s, .string ⟨#[58, 58]⟩] w fun e w' => e = .returned (.tuple #[.string ⟨(Lib.cut s.data.toList [58, 58]).1.toArray⟩, .string ⟨(Lib.cut s.data.toList [58, 58]).2.1.toArray⟩, .bool (Lib.cut s.data.toList [58, 58]).2.2]) ∧ Below w.heap.size w w' := by
  obtain ⟨m, hm⟩ := hM
  refine (Tryd.strings_Cut s ⟨#[58, 58]⟩ m w (by omega) hm).mono ?_
  rintro e w' ⟨h, n, rfl⟩
  exact ⟨h, ⟨rfl, rfl, rfl, Nat.le_refl _, fun i hi => rfl⟩⟩
end Go.Proofs.YtkchgjakkogejaaDoor
