/- Texts behind a law of this seat, in order: Colon9, Colon10, Colon11, Addr, Addr2, Addr3, Addr4, Addr5, Ref9, Ref9b, Colon12, Ref7, Ref8e. -/
import Derived.Test.YthbdeafbdmbabaaGreatDoorPa
import Derived.Test.YthbdeafbdmbabaaGreatDoorPb
import Derived.Test.YthbdeafbdmbabaaGreatDoorPc
import Derived.Test.YthbdeafbdmbabaaGreatDoorPd
import Derived.Test.YthbdeafbdmbabaaGreatDoorPe
import Derived.Test.YthbdeafbdmbabaaGreatDoorPf
import Derived.Test.YthbdeafbdmbabaaGreatDoorPg
import Derived.Test.YthbdeafbdmbabaaGreatDoorPh
import Derived.Test.YthbdeafbdmbabaaGreatDoorPi
import Derived.Test.YthbdeafbdmbabaaGreatDoorPj
import Derived.Test.YthbdeafbdmbabaaGreatDoorPk
import Derived.Test.YthbdeafbdmbabaaGreatDoorPl
import Derived.Test.YthbdeafbdmbabaaGreatDoorPm
import Derived.Test.YthbdeafbdmbabaaGreatDoorPn
import Derived.Test.YthbdeafbdmbabaaGreatDoorPo
import Derived.Test.YthbdeafbdmbabaaGreatDoorPp
import Derived.Test.YthbdeafbdmbabaaGreatDoorPq
import Derived.Test.YthbdeafbdmbabaaGreatDoorPr
import Derived.Test.YthbdeafbdmbabaaGreatDoorPs
import Derived.Test.YthbdeafbdmbabaaGreatDoorPt
import Derived.Test.YthbdeafbdmbabaaGreatDoorPu
import Derived.Test.YthbdeafbdmbabaaGreatDoorPv
import Derived.Test.YthbdeafbdmbabaaGreatDoorQc
import Derived.Test.YthbdeafbdmbabaaGreatDoorQd
import Derived.Below
import Derived.BigQuiet
import Derived.BigRegion
import Derived.ChangeSlices
import Derived.Deep.AppendLies
import Derived.Deep.Draws
import Derived.Deep.OwnRows
import Derived.Deep.Quiet
import Derived.Deep.QuietTactic
import Derived.Deep.RegionLaw
import Derived.Great.Ranges
import Derived.Handed
import Derived.Laws.Bits64b
import Derived.Laws.BitsAllLaws
import Derived.Laws.CopyOwn
import Derived.Laws.OwnMore
import Derived.Laws.Rows
import Derived.Laws.StructEq
import Derived.Lib.AppendZeros
import Derived.Lib.AppendZerosOnto
import Derived.Lib.Bytealg
import Derived.Lib.Hide
import Derived.Lib.ItoaLen
import Derived.Lib.ItoaMem
import Derived.Lib.ItoaNum
import Derived.Lib.Join
import Derived.Lib.Overlaps
import Derived.Lib.SmallJoins
import Derived.Lib.Split
import Derived.Lib.SplitLaws
import Derived.Lib.Strings
import Derived.OpenShut
import Derived.Shelf.LaysM
import Derived.Shelf.Small.Bits
import Derived.Shelf.Small.Strs
import Derived.Shelf.Strconv.Itoa0
import Derived.Shelf.Strconv.Itoa1
import Derived.Shelf.Strconv.Itoa2
import Derived.Shelf.Strconv.Itoa3
import Derived.Shelf.Strings.Builder1
import Derived.Shelf.Strings.Builder2
import Derived.Shelf.Strings.Builder2Cap
import Derived.Shelf.Strings.BuilderCap
import Derived.Shelf.Strings.BuilderF
import Derived.Shelf.Strings.BuilderK
import Derived.Shelf.Strings.Count
import Derived.Shelf.Strings.Cut
import Derived.Shelf.Strings.OnBuilder
import Derived.Shelf.Strings.Prefix
import Derived.Shelf.Strings.Search1
import Derived.Shelf.Strings.Search2
import Derived.Shelf.Strings.Search3
import Derived.Shelf.Strings.Shaped
import Derived.Shelf.Strings.Split
import Derived.Shelf.Strings.SplitShaped
import Derived.Shelf.Unicode.Decode
import Derived.Shelf.Unicode.DecodeAny
import Derived.Shelf.Unicode.DecodeSlow
import Derived.SizedLaws
import Derived.SliceStrings
import Derived.Stop.BytesEq
import Derived.Test.YthbdeafbdmbabaaGreatDoorProg
import Derived.WalkKit
import Derived.WalkLawsBesides
import Derived.WalkSpells
namespace Go.Proofs.YthbdeafbdmbabaaGreatDoor
open Go.RowKit Go
set_option linter.unusedVariables false
set_option maxRecDepth 100000
def MX (w : World) : Prop := ∃ m, w.cell? ⟨2, 0, none⟩ = some (.int .i64 m)
theorem MX.below {w w' : World} (h : MX w) {B : Nat} (hB : w.heap.size ≤ B) (hb : Below B w w') : MX w' := by
  obtain ⟨m, hm⟩ := h
  exact ⟨m, (hb.cell (Nat.lt_of_lt_of_le (cell_lt hm) hB)).trans hm⟩
/-- 'copy(d, s)' of integers that lie somewhere, onto a block that is known -/
theorem wpList_copyInts {P : Program} {ops : Array Oper} {rest : List Oper} {o : Oper} {a : Act} {w : World} {Q : Exit → Act → World → Prop} {B : Nat} {w0 : World} {L : List (Nat × TypeId × Array Value)} (hgd : o.guard = none) (d s : Operand) (dT sT : TypeId)
    (ho : o.op = .call { callee := .builtin .copy, args := #[d, s], argTypes := #[dT, sT] }) (elem : TypeId) (hu : P.underlying dT = some (.slice elem)) (hsz : (P.info? elem).map (·.size) = some 1) (S : Ats B w0 w L) (i g : Nat) (t : TypeId) (cur : List Value)
    (hi : L[i]? = some (g, t, cur.toArray)) (dp : Option Addr) (off dLen dCap n c : Nat) (A : Option Addr) (q : IntKind) (l : List Int) (hdp : 0 < n → dp = some ⟨g, off, none⟩) (hd : a.eval d = .slice dp dLen dCap) (hs : a.eval s = .slice A n c) (hl : IntsAt w q A n l) (hle : n ≤ dLen) (hfit : off + n ≤ cur.length)
    (h : ∀ w1, Ats B w0 w1 (L.set i (g, t, (splice cur off (intVs q l)).toArray)) → wpList P ops Q rest (a.put o.dst (.int .i64 n)) w1) : wpList P ops Q (o :: rest) a w := by
  have hlen : l.length = n := hl.1.symm
  by_cases h0 : 0 < n
  · obtain ⟨b, o', rfl, hlt, hc⟩ := hl.2 h0
    have hdp' := hdp h0
    subst hdp'
    refine wpList_copy_at hgd d s dT sT ho elem hu hsz g off dLen dCap ⟨b, o', none⟩ n c hd hs cur t (S.get hi) (intVs q l) ?_ ?_ ?_ ?_ ?_
    · rw [intVs_len, hlen]; exact (Nat.min_eq_left hle).symm
    · intro j v hj
      have hjl : j < l.length := by
        have := (List.getElem?_eq_some_iff.1 hj).1
        rwa [intVs_len] at this
      rw [Go.WideShapes.add_plain, hc j hjl]
      simp [intVs, hjl] at hj
      rw [← hj]
    · rw [intVs_len, hlen]; exact hfit
    · intro v hv
      obtain ⟨z, _, rfl⟩ := List.mem_map.1 hv
      rfl
    · intro w' ha hg
      have := h w' (S.grow hi hg ha.out)
      rw [intVs_len, hlen]
      exact this
  · obtain rfl : n = 0 := by omega
    obtain rfl : l = [] := List.length_eq_zero_iff.1 hlen
    refine wpList_copy_nothing hgd d s dT sT ho elem hu hsz dp A dLen dCap 0 c hd hs (Nat.zero_min _) ?_
    refine h w ?_
    have e : splice cur off (intVs q []) = cur := by simp [splice, intVs]
    rw [e]
    have hil : i < L.length := (List.getElem?_eq_some_iff.1 hi).1
    have e2 : L.set i (g, t, cur.toArray) = L := by
      have := (List.getElem?_eq_some_iff.1 hi).2
      rw [← this]
      exact List.set_getElem_self hil
    rw [e2]
    exact S
def z16 : List Value := List.replicate 16 (.int .u8 0)
theorem z16Zero : (Tryz.prog.info? 22).map (·.zero) = some (some (.agg z16.toArray)) := by kernel_rfl
theorem z16Size : (Tryz.prog.info? 22).map (·.size) = some 16 := by kernel_rfl
def at16 (g l : Nat) : Addr := if l = 16 then ⟨g, 0, none⟩ else ⟨g, l, none⟩
theorem slice16_all (g : Nat) (w : World) : (Instr.sliceAt 22 (.pointer (some ⟨g, 0, none⟩)) none none none).run Tryz.prog w = .ok (.slice (some ⟨g, 0, none⟩) 16 16) w := by
  have ha : Tryz.prog.arrayLen 22 = 16 := by kernel_rfl
  have he : Tryz.prog.elem 22 = 5 := by kernel_rfl
  rw [run_sliceAt_array_all w 22 _ (by kernel_rfl), he, Tryz.sizeOf5]
  simp [slicedAt, ha, Result.andThen, Addr.add]
theorem slice16_l (g l : Nat) (h : l ≤ 16) (w : World) : (Instr.sliceAt 22 (.pointer (some ⟨g, 0, none⟩)) (some (.int .i64 l)) none none).run Tryz.prog w = .ok (.slice (some (at16 g l)) (16 - l) (16 - l)) w := by
  have ha : Tryz.prog.arrayLen 22 = 16 := by kernel_rfl
  have he : Tryz.prog.elem 22 = 5 := by kernel_rfl
  rw [run_sliceAt_array_l w 22 _ (by kernel_rfl) .i64 l (by omega) (by rw [ha]; omega), he, Tryz.sizeOf5]
  simp [slicedAt, ha, Result.andThen, Addr.add, at16]
  by_cases h8 : l = 16
  · rw [if_pos h8.symm, if_pos h8]
  · rw [if_neg (Ne.symm h8), if_neg h8]
    by_cases h0 : l = 0
    · rw [if_pos h0, h0]
    · rw [if_neg h0]
theorem splice_two (X Y : List Value) (h : X.length + Y.length ≤ 16) : splice (splice z16 0 X) (16 - Y.length) Y = X ++ List.replicate (16 - X.length - Y.length) (.int .u8 0) ++ Y := by
  have e1 : splice z16 0 X = X ++ List.replicate (16 - X.length) (.int .u8 0) := by
    unfold splice z16
    rw [Nat.zero_add, List.drop_replicate]
    rfl
  rw [e1]
  unfold splice
  rw [List.take_append, List.take_of_length_le (by omega), List.take_replicate, List.drop_of_length_le (by simp; omega), List.append_nil, show min (16 - Y.length - X.length) (16 - X.length) = 16 - X.length - Y.length by omega, List.append_assoc]
theorem intVs_cells (l : List UInt8) : intVs .u8 (bInts l) = l.map cellU := by simp [intVs, bInts, cellU]
theorem cells_two (x y : List UInt8) (h : x.length + y.length ≤ 16) : splice (splice z16 0 (intVs .u8 (bInts x))) (16 - y.length) (intVs .u8 (bInts y)) = (x ++ List.replicate (16 - x.length - y.length) 0 ++ y).map cellU := by
  have e := splice_two (intVs .u8 (bInts x)) (intVs .u8 (bInts y)) (by rw [intVs_len, intVs_len, bInts_len, bInts_len]; exact h)
  rw [intVs_len, intVs_len, bInts_len, bInts_len] at e
  rw [e, intVs_cells, intVs_cells, List.map_append, List.map_append, List.map_replicate]
  rfl
def fitB (n : Nat) (gap : Bool) : Bool := if gap = true then decide (n ≤ 14) else decide (n = 16)
def octR (gap : Bool) (x y : Option (List Nat)) : Option (List UInt8) := match x, y with
  | some x, some y => if fitB (2 * x.length + 2 * y.length) gap = true then some (bytesG x ++ List.replicate (16 - 2 * x.length - 2 * y.length) 0 ++ bytesG y) else none
  | _, _ => none
theorem octR_gap (x y : Option (List Nat)) : octR true x y = octM x y := by
  unfold octR octM
  cases x with
  | none => rfl
  | some x =>
    cases y with
    | none => rfl
    | some y =>
      simp only [fitB, if_true, decide_eq_true_eq]
      by_cases h : x.length + y.length ≤ 7
      · rw [if_pos h, if_pos (by omega)]
      · rw [if_neg h, if_neg (by omega)]
theorem octR_whole (y : Option (List Nat)) : octR false (some []) y = octW y := by
  unfold octR octW
  cases y with
  | none => rfl
  | some y =>
    simp only [fitB, Bool.false_eq_true, if_false, decide_eq_true_eq, List.length_nil]
    by_cases h : y.length = 8
    · rw [if_pos h, if_pos (by omega), h]
      rfl
    · rw [if_neg h, if_neg (by omega)]
theorem cut_parts (l : List UInt8) : (∃ f b, Lib.cut l [58, 58] = (f, b, true) ∧ octE l = octR true (sideC false f) (sideC true b) ∧ f.length ≤ l.length ∧ b.length ≤ l.length) ∨ (Lib.cut l [58, 58] = (l, [], false) ∧ octE l = octR false (sideC false []) (sideC true l)) := by
  rcases Lib.index_spec l [58, 58] with ⟨h, _⟩ | ⟨i, h, _, _, _⟩
  · right
    refine ⟨?_, ?_⟩
    · unfold Lib.cut; rw [h, if_neg (by decide)]
    · rw [oct_whole l h, show sideC false [] = some [] from rfl, octR_whole]
  · left
    refine ⟨l.take i, l.drop (i + 2), ?_, ?_, ?_, ?_⟩
    · unfold Lib.cut; rw [h, if_pos (by omega), Int.toNat_natCast]; rfl
    · rw [oct_gap l i h, octR_gap]
    · rw [List.length_take]; exact Nat.min_le_right _ _
    · rw [List.length_drop]; omega
theorem octR_none1 (gap : Bool) (y : Option (List Nat)) : octR gap none y = none := rfl
theorem octR_none2 (gap : Bool) (x : Option (List Nat)) : octR gap x none = none := by cases x <;> rfl
theorem fitB_le {n : Nat} {gap : Bool} (h : fitB n gap = true) : n ≤ 16 := by
  unfold fitB at h
  split at h <;> (have := of_decide_eq_true h; omega)
theorem halfN_any (f : List UInt8) (last : Bool) (w : World) (hs : f.length ≤ 4000) (hP : P10 w) (h : sideC last f = none) :
    Calls Tryz.prog 87 #[.string ⟨f.toArray⟩, .bool last] w fun e w' => e = .returned (.tuple #[.slice none 0 0, .bool false]) ∧ Below w.heap.size w w' := by
  refine (half_any ⟨f.toArray⟩ last w (by show f.length ≤ 4000; exact hs) hP).mono ?_
  rintro e w' h1
  have e0 : (⟨f.toArray⟩ : ByteArray).data.toList = f := rfl
  unfold HalfP at h1
  rw [e0] at h1
  rcases h1 with ⟨_, he, hb⟩ | ⟨m, hm, _⟩
  · exact ⟨he, hb⟩
  · rw [h] at hm; cases hm
theorem halfY_any (f : List UInt8) (m : List Nat) (last : Bool) (w : World) (hs : f.length ≤ 4000) (hP : P10 w) (h : sideC last f = some m) :
    Calls Tryz.prog 87 #[.string ⟨f.toArray⟩, .bool last] w fun e w' => HalfY m w.heap.size w e w' := by
  refine (half_any ⟨f.toArray⟩ last w (by show f.length ≤ 4000; exact hs) hP).mono ?_
  rintro e w' h1
  have e0 : (⟨f.toArray⟩ : ByteArray).data.toList = f := rfl
  unfold HalfP at h1
  rw [e0] at h1
  rcases h1 with ⟨hn, _⟩ | ⟨m', hm, hy⟩
  · rw [h] at hn; cases hn
  · rw [h] at hm
    injection hm with hm
    subst hm
    exact hy
theorem halfW_any (f : List UInt8) (last : Bool) (w : World) (hs : f.length ≤ 4000) (hP : P10 w) :
    Calls Tryz.prog 87 #[.string ⟨f.toArray⟩, .bool last] w fun e w' => (∃ A n c b, e = .returned (.tuple #[.slice A n c, .bool b])) ∧ Below w.heap.size w w' := by
  refine (half_any ⟨f.toArray⟩ last w (by show f.length ≤ 4000; exact hs) hP).mono ?_
  rintro e w' h1
  rcases h1 with ⟨_, he, hb⟩ | ⟨m, _, ⟨A, c, he, _⟩, hb⟩
  · exact ⟨⟨_, _, _, _, he⟩, hb⟩
  · exact ⟨⟨_, _, _, _, he⟩, hb⟩
theorem cutD_any (s : ByteArray) (w : World) (hs : s.size ≤ 4000) (hM : MX w) :
    Calls Tryz.prog 86 #[.string s, .string ⟨#[58, 58]⟩] w fun e w' => e = .returned (.tuple #[.string ⟨(Lib.cut s.data.toList [58, 58]).1.toArray⟩, .string ⟨(Lib.cut s.data.toList [58, 58]).2.1.toArray⟩, .bool (Lib.cut s.data.toList [58, 58]).2.2]) ∧ Below w.heap.size w w' := by
  obtain ⟨m, hm⟩ := hM
  refine (Tryz.strings_Cut s ⟨#[58, 58]⟩ m w (by omega) hm).mono ?_
  rintro e w' ⟨h, n, rfl⟩
  exact ⟨h, ⟨rfl, rfl, rfl, Nat.le_refl _, fun i hi => rfl⟩⟩
end Go.Proofs.YthbdeafbdmbabaaGreatDoor
namespace Go.Proofs.YthbdeafbdmbabaaGreatDoor
open Go.RowKit Go
set_option linter.unusedVariables false
set_option maxRecDepth 100000
theorem Ats.join {B : Nat} {w0 w w' : World} {L L2 : List (Nat × TypeId × Array Value)} (S : Ats B w0 w L) (S2 : Ats w.heap.size w w' L2) : Ats B w0 w' (L2 ++ L) := by
  refine ⟨S.below.trans (S2.below.mono S.big), Nat.le_trans S.big S2.below.size, fun x hx => ?_, ?_⟩
  · rcases List.mem_append.1 hx with h | h
    · exact ⟨Nat.le_trans S.big (S2.at_ x h).1, (S2.at_ x h).2⟩
    · exact (S.call S2.below).at_ x h
  · rw [List.map_append, List.nodup_append]
    refine ⟨S2.apart, S.apart, fun a ha b hb e => ?_⟩
    obtain ⟨x, hx, rfl⟩ := List.mem_map.1 ha
    obtain ⟨y, hy, rfl⟩ := List.mem_map.1 hb
    have h1 := (S2.at_ x hx).1
    have h2 := (S.at_ y hy).2.lt
    omega
def octV (o : Option (List UInt8)) : Value := match o with
  | some b => .tuple #[.agg (b.map cellU).toArray, .bool true]
  | none => .tuple #[.agg z16.toArray, .bool false]
theorem octR_X {gap : Bool} {x y : List Nat} {X Y : List UInt8} (hX : X = bytesG x) (hY : Y = bytesG y) : octR gap (some x) (some y) = if fitB (X.length + Y.length) gap = true then some (X ++ List.replicate (16 - X.length - Y.length) 0 ++ Y) else none := by
  rw [hX, hY, bytesG_len, bytesG_len]
  rfl
def HalfX (X : List UInt8) (n : Nat) (B : Nat) (w : World) (e : Ending) (w' : World) : Prop := (∃ A c, e = .returned (.tuple #[.slice A n c, .bool true]) ∧ IntsAt w' .u8 A n (bInts X)) ∧ Below B w w'
theorem halfX_any (f : List UInt8) (m : List Nat) (X : List UInt8) (n : Nat) (last : Bool) (w : World) (hs : f.length ≤ 4000) (hP : P10 w) (h : sideC last f = some m) (hX : X = bytesG m) (hn : n = X.length) :
    Calls Tryz.prog 87 #[.string ⟨f.toArray⟩, .bool last] w fun e w' => HalfX X n w.heap.size w e w' := by
  refine (halfY_any f m last w hs hP h).mono ?_
  rintro e w' ⟨⟨A, c, he, hi, _⟩, hb⟩
  have hl : n = 2 * m.length := by rw [hn, hX, bytesG_len]
  subst hX
  rw [← hl] at he hi
  exact ⟨⟨A, c, he, hi⟩, hb⟩
theorem fit_any2 (n m : Nat) (b : Bool) (w : World) :
    Calls Tryz.prog 88 #[.int .i64 ((n : Int) + m), .bool b] w fun e w' => e = .returned (.bool (fitB (n + m) b)) ∧ w = w' := by
  have := fit_any (n + m) b w
  rw [Int.natCast_add] at this
  exact this
theorem side_short (last : Bool) (f : List UInt8) (m : List Nat) (h : sideC last f = some m) : m.length ≤ 20 := by
  unfold sideC at h
  split at h
  · injection h with h; subst h; decide
  · have key : ∀ (L : List (List UInt8)) (m : List Nat), sideP last L = some m → m.length ≤ 2 * L.length := by
      intro L
      induction L with
      | nil => intro m h; rw [sideP] at h; injection h with h; subst h; simp
      | cons p r ih =>
        intro m h
        rw [sideP] at h
        split at h
        · obtain ⟨m', h1, rfl⟩ := Option.map_eq_some_iff.1 h
          have := ih m' h1
          simp; omega
        · split at h
          · obtain ⟨b, _, rfl⟩ := Option.map_eq_some_iff.1 h
            simp [grp2]; omega
          · cases h
    have h1 := key _ m h
    have h2 := cutXN_len 58 f 7
    omega
set_option maxHeartbeats 4000000 in
theorem octets_any (s : ByteArray) (w : World) (hs : s.size ≤ 4000) (hP : P10 w) (hM : MX w) :
    Calls Tryz.prog 64 #[.string s] w fun e w' => e = .returned (octV (octE s.data.toList)) ∧ Below w.heap.size w w' := by
  have S := Ats.start w
  have hsz := Lib.size_eq s
  have hPd : ∀ wr L, Ats w.heap.size w wr L → P10 wr := fun wr L h => hP.below (Nat.le_refl _) h.below
  have hMd : ∀ wr L, Ats w.heap.size w wr L → MX wr := fun wr L h => hM.below (Nat.le_refl _) h.below
  have HPd := Lib.hid hPd
  have HMd := Lib.hid hMd
  have hcut := fun wr (h : MX wr) => cutD_any s wr hs h
  have hpar := cut_parts s.data.toList
  obtain ⟨O, hO⟩ : ∃ O, O = octE s.data.toList := ⟨_, rfl⟩
  rw [← hO] at hpar ⊢
  have h16 : (Tryz.prog.info? 22).map (·.size) = some z16.toArray.size := z16Size
  clear hPd hMd hP hM hO
  rcases hpar with ⟨f, b, hc, ho, hf, hb⟩ | ⟨hc, ho⟩
  · rw [hc] at hcut
    simp only at hcut
    have HC := Lib.hid hcut
    rw [← hsz] at hf hb
    clear hcut hc hsz
    cases hx : sideC false f with
    | none =>
      rw [hx, octR_none1] at ho
      have HO := Lib.hid ho
      have HX := Lib.hid (fun wr (h : P10 wr) => halfN_any f false wr (by omega) h hx)
      have HY := Lib.hid (fun wr (h : P10 wr) => halfW_any b true wr (by omega) h)
      clear hx ho
      go_enter Tryz.func64, Tryz.ntmps64
      go_wp2_with (first | ((with_reducible show wpList _ _ _ (Oper.mk (some 2) (Op.alloc _) _ _ _ _ :: _) _ _); refine wpList_allocS rfl _ rfl _ z16Zero S ?_; clear S; intro gr w1 S))
      with_reducible refine (HC.out _ (HMd.out _ _ S)).mono ?_
      rintro e w2 ⟨rfl, hb⟩
      have S := S.call hb
      clear hb
      go_wp2_with fail
      with_reducible refine (HX.out _ (HPd.out _ _ S)).mono ?_
      rintro e w3 ⟨rfl, hb⟩
      have S := S.call hb
      clear hb
      go_wp2_with fail
      with_reducible refine (HY.out _ (HPd.out _ _ S)).mono ?_
      rintro e w4 ⟨⟨A, n, c, bb, rfl⟩, hb⟩
      have S := S.call hb
      clear hb
      cases bb
      all_goals
        go_wp2_with (first | ((with_reducible show wpList _ _ _ (Oper.mk _ (Op.store _ _ _) _ _ _ _ :: _) _ _); refine wpList_storeS rfl _ _ _ rfl S _ rfl _ rfl 0 _ _ rfl z16Size (by rfl) (by simp [Value.oneCell']) ?_; clear S; intro w1 S; (first | simp only [List.set_cons_zero] at S | simp only [List.set_cons_succ, List.set_cons_zero] at S | skip)))
        exact bodyPost_ret (results_cell2S rfl _ S _ 0 _ _ _ rfl rfl Tryz.underlying22 rfl h16) rfl ⟨by rw [HO.out]; rfl, S.below⟩
    | some x =>
      cases hy : sideC true b with
      | none =>
        rw [hx, hy, octR_none2] at ho
        have HO := Lib.hid ho
        have HX := Lib.hid (fun wr (h : P10 wr) => halfY_any f x false wr (by omega) h hx)
        have HY := Lib.hid (fun wr (h : P10 wr) => halfN_any b true wr (by omega) h hy)
        clear hx hy ho
        go_enter Tryz.func64, Tryz.ntmps64
        go_wp2_with (first | ((with_reducible show wpList _ _ _ (Oper.mk (some 2) (Op.alloc _) _ _ _ _ :: _) _ _); refine wpList_allocS rfl _ rfl _ z16Zero S ?_; clear S; intro gr w1 S))
        with_reducible refine (HC.out _ (HMd.out _ _ S)).mono ?_
        rintro e w2 ⟨rfl, hb⟩
        have S := S.call hb
        clear hb
        go_wp2_with fail
        with_reducible refine (HX.out _ (HPd.out _ _ S)).mono ?_
        rintro e w3 ⟨⟨A, c, rfl, _, _⟩, hb⟩
        have S := S.call hb
        clear hb
        go_wp2_with fail
        with_reducible refine (HY.out _ (HPd.out _ _ S)).mono ?_
        rintro e w4 ⟨rfl, hb⟩
        have S := S.call hb
        clear hb
        go_wp2_with (first | ((with_reducible show wpList _ _ _ (Oper.mk _ (Op.store _ _ _) _ _ _ _ :: _) _ _); refine wpList_storeS rfl _ _ _ rfl S _ rfl _ rfl 0 _ _ rfl z16Size (by rfl) (by simp [Value.oneCell']) ?_; clear S; intro w1 S; (first | simp only [List.set_cons_zero] at S | simp only [List.set_cons_succ, List.set_cons_zero] at S | skip)))
        exact bodyPost_ret (results_cell2S rfl _ S _ 0 _ _ _ rfl rfl Tryz.underlying22 rfl h16) rfl ⟨by rw [HO.out]; rfl, S.below⟩
      | some y =>
        have hxs := side_short _ _ _ hx
        have hys := side_short _ _ _ hy
        obtain ⟨X, hX⟩ : ∃ X, X = bytesG x := ⟨_, rfl⟩
        obtain ⟨Y, hY⟩ : ∃ Y, Y = bytesG y := ⟨_, rfl⟩
        have hXl : X.length = 2 * x.length := by rw [hX, bytesG_len]
        have hYl : Y.length = 2 * y.length := by rw [hY, bytesG_len]
        rw [hx, hy, octR_X hX hY] at ho
        obtain ⟨n1, hn1⟩ : ∃ n, n = X.length := ⟨_, rfl⟩
        obtain ⟨n2, hn2⟩ : ∃ n, n = Y.length := ⟨_, rfl⟩
        have b1 : n1 ≤ 40 := by omega
        have b2 : n2 ≤ 40 := by omega
        rw [← hn1, ← hn2] at ho
        have HX := Lib.hid (fun wr (h : P10 wr) => halfX_any f x X n1 false wr (by omega) h hx hX hn1)
        have HY := Lib.hid (fun wr (h : P10 wr) => halfX_any b y Y n2 true wr (by omega) h hy hY hn2)
        obtain ⟨fb, hfb⟩ : ∃ fb, fb = fitB (n1 + n2) true := ⟨_, rfl⟩
        have hft := fun wr => fit_any2 n1 n2 true wr
        rw [← hfb] at ho hft
        have HF := Lib.hid hft
        have HN1 := Lib.hid hn1
        have HN2 := Lib.hid hn2
        have hle : fb = true → n1 + n2 ≤ 16 := fun h => fitB_le (hfb.symm.trans h)
        clear hx hy hX hY hXl hYl hn1 hn2 hxs hys hft hfb
        cases fb with
        | false =>
          rw [if_neg (by simp)] at ho
          have HO := Lib.hid ho
          clear ho hle
          go_enter Tryz.func64, Tryz.ntmps64
          go_wp2_with (first | ((with_reducible show wpList _ _ _ (Oper.mk (some 2) (Op.alloc _) _ _ _ _ :: _) _ _); refine wpList_allocS rfl _ rfl _ z16Zero S ?_; clear S; intro gr w1 S))
          with_reducible refine (HC.out _ (HMd.out _ _ S)).mono ?_
          rintro e w2 ⟨rfl, hb⟩
          have S := S.call hb
          clear hb
          go_wp2_with fail
          with_reducible refine (HX.out _ (HPd.out _ _ S)).mono ?_
          rintro e w3 ⟨⟨A, c, rfl, _⟩, hb⟩
          have S := S.call hb
          clear hb
          go_wp2_with fail
          with_reducible refine (HY.out _ (HPd.out _ _ S)).mono ?_
          rintro e w4 ⟨⟨A', c', rfl, _⟩, hb⟩
          have S := S.call hb
          clear hb
          go_wp2_with (first
            | ((with_reducible refine (HF.out _).mono ?_); rintro e w5 ⟨rfl, hq⟩; subst hq)
            | ((with_reducible show wpList _ _ _ (Oper.mk _ (Op.store _ _ _) _ _ _ _ :: _) _ _); refine wpList_storeS rfl _ _ _ rfl S _ rfl _ rfl 0 _ _ rfl z16Size (by rfl) (by simp [Value.oneCell']) ?_; clear S; intro w1 S; (first | simp only [List.set_cons_zero] at S | simp only [List.set_cons_succ, List.set_cons_zero] at S | skip)))
          exact bodyPost_ret (results_cell2S rfl _ S _ 0 _ _ _ rfl rfl Tryz.underlying22 rfl h16) rfl ⟨by rw [HO.out]; rfl, S.below⟩
        | true =>
          rw [if_pos rfl] at ho
          have hle' := hle rfl
          have hcells := cells_two X Y (by rw [← HN1.out, ← HN2.out]; exact hle')
          rw [← HN1.out, ← HN2.out] at hcells
          have hsa := slice16_all
          have hsl := fun g w => slice16_l g (16 - n2) (by omega) w
          rw [show ((16 - n2 : Nat) : Int) = 16 - (n2 : Int) by omega, show 16 - (16 - n2) = n2 by omega] at hsl
          have hz1 : (splice z16 0 (intVs .u8 (bInts X))).length = 16 := by rw [length_splice _ _ _ (by rw [intVs_len, bInts_len, ← HN1.out]; show 0 + n1 ≤ 16; omega)]; rfl
          obtain ⟨R, hR⟩ : ∃ R, R = X ++ List.replicate (16 - n1 - n2) 0 ++ Y := ⟨_, rfl⟩
          have hRl : R.length = 16 := by rw [hR]; simp; rw [← HN1.out, ← HN2.out]; omega
          rw [← hR] at ho hcells
          have HO := Lib.hid ho
          have HCE := Lib.hid hcells
          have HZ1 := Lib.hid hz1
          have hRs : (Tryz.prog.info? 22).map (·.size) = some (R.map cellU).toArray.size := by rw [z16Size]; simp [hRl]
          have hR1 : (R.map cellU).toArray.all (·.oneCell') = true := by simp [cellU, Value.oneCell']
          clear ho hle hcells hz1 hR
          go_enter Tryz.func64, Tryz.ntmps64
          go_wp2_with (first | ((with_reducible show wpList _ _ _ (Oper.mk (some 2) (Op.alloc _) _ _ _ _ :: _) _ _); refine wpList_allocS rfl _ rfl _ z16Zero S ?_; clear S; intro gr w1 S))
          with_reducible refine (HC.out _ (HMd.out _ _ S)).mono ?_
          rintro e w2 ⟨rfl, hb⟩
          have S := S.call hb
          clear hb
          go_wp2_with fail
          with_reducible refine (HX.out _ (HPd.out _ _ S)).mono ?_
          rintro e w3 ⟨⟨A, c, rfl, hi⟩, hb⟩
          have S := S.call hb
          have HI := Lib.hid hi
          clear hb hi
          go_wp2_with fail
          with_reducible refine (HY.out _ (HPd.out _ _ S)).mono ?_
          rintro e w4 ⟨⟨A', c', rfl, hi'⟩, hb⟩
          have S0 := S.call hb
          have HI2 := Lib.hid (HI.out.below hb)
          have HI' := Lib.hid hi'
          clear hb hi' HI S
          have S := Ats.start w4
          go_wp2_with (first
            | ((with_reducible refine (HF.out _).mono ?_); rintro e w5 ⟨rfl, hq⟩; subst hq)
            | ((with_reducible show wpList _ _ _ (Oper.mk (some 11) (Op.alloc _) _ _ _ _ :: _) _ _); refine wpList_allocS rfl _ rfl _ z16Zero S ?_; clear S; intro gi w1 S)
            | ((with_reducible show wpList _ _ _ (Oper.mk (some 50) _ _ _ _ _ :: _) _ _); refine wpList_copyInts rfl (.tmp 48) (.tmp 49) 46 46 rfl 5 Tryz.underlying46 u8Size S 0 gi 22 z16 rfl (some ⟨gi, 0, none⟩) 0 16 16 n1 c A .u8 (bInts X) (fun _ => rfl) rfl rfl (HI2.out.below S.below) (by omega) (by show 0 + n1 ≤ 16; omega) ?_; clear S; intro w6 S; simp only [List.set_cons_zero] at S)
            | ((with_reducible show wpList _ _ _ (Oper.mk (some 56) _ _ _ _ _ :: _) _ _); refine wpList_copyInts rfl (.tmp 54) (.tmp 55) 46 46 rfl 5 Tryz.underlying46 u8Size S 0 gi 22 (splice z16 0 (intVs .u8 (bInts X))) rfl (some (at16 gi (16 - n2))) (16 - n2) n2 n2 n2 c' A' .u8 (bInts Y) (fun h => by unfold at16; rw [if_neg (by omega)]) rfl rfl (HI'.out.below S.below) (Nat.le_refl _) (by rw [HZ1.out]; omega) ?_; clear S; intro w7 S; simp only [List.set_cons_zero, HCE.out] at S; have S := S0.join S)
            | ((with_reducible show wpList _ _ _ (Oper.mk _ (Op.load _ _) _ _ _ _ :: _) _ _); refine wpList_loadS rfl _ _ rfl S _ rfl 0 _ _ rfl _ Tryz.underlying22 rfl hRs ?_)
            | ((with_reducible show wpList _ _ _ (Oper.mk _ (Op.store _ _ _) _ _ _ _ :: _) _ _); refine wpList_storeS rfl _ _ _ rfl S _ rfl _ rfl 1 _ _ rfl hRs (by simp [z16, hRl, Value.cells]) (by exact hR1) ?_; clear S; intro w1 S; (first | simp only [List.set_cons_zero] at S | simp only [List.set_cons_succ, List.set_cons_zero] at S | skip)))
          exact bodyPost_ret (results_cell2S rfl _ S _ 1 _ _ _ rfl rfl Tryz.underlying22 rfl hRs) rfl ⟨by rw [HO.out]; rfl, S.below⟩
  · rw [hc] at hcut
    simp only at hcut
    have HC := Lib.hid hcut
    have hb : s.data.toList.length ≤ 4000 := by rw [← hsz]; exact hs
    obtain ⟨b, hbb⟩ : ∃ b, b = s.data.toList := ⟨_, rfl⟩
    have hsb : s = ⟨b.toArray⟩ := by rw [hbb]
    rw [← hbb] at ho hb HC
    clear hcut hc hsz hbb
    subst hsb
    obtain ⟨x, hx⟩ : ∃ x, sideC false [] = some x := ⟨[], rfl⟩
    cases hy : sideC true b with
    | none =>
      rw [hx, hy, octR_none2] at ho
      have HO := Lib.hid ho
      have HX := Lib.hid (fun wr (h : P10 wr) => halfY_any ([] : List UInt8) x false wr (by decide) h hx)
      have HY := Lib.hid (fun wr (h : P10 wr) => halfN_any b true wr (by omega) h hy)
      clear hx hy ho
      go_enter Tryz.func64, Tryz.ntmps64
      go_wp2_with (first | ((with_reducible show wpList _ _ _ (Oper.mk (some 2) (Op.alloc _) _ _ _ _ :: _) _ _); refine wpList_allocS rfl _ rfl _ z16Zero S ?_; clear S; intro gr w1 S))
      with_reducible refine (HC.out _ (HMd.out _ _ S)).mono ?_
      rintro e w2 ⟨rfl, hb⟩
      have S := S.call hb
      clear hb
      go_wp2_with fail
      with_reducible refine (HX.out _ (HPd.out _ _ S)).mono ?_
      rintro e w3 ⟨⟨A, c, rfl, _, _⟩, hb⟩
      have S := S.call hb
      clear hb
      go_wp2_with fail
      with_reducible refine (HY.out _ (HPd.out _ _ S)).mono ?_
      rintro e w4 ⟨rfl, hb⟩
      have S := S.call hb
      clear hb
      go_wp2_with (first | ((with_reducible show wpList _ _ _ (Oper.mk _ (Op.store _ _ _) _ _ _ _ :: _) _ _); refine wpList_storeS rfl _ _ _ rfl S _ rfl _ rfl 0 _ _ rfl z16Size (by rfl) (by simp [Value.oneCell']) ?_; clear S; intro w1 S; (first | simp only [List.set_cons_zero] at S | simp only [List.set_cons_succ, List.set_cons_zero] at S | skip)))
      exact bodyPost_ret (results_cell2S rfl _ S _ 0 _ _ _ rfl rfl Tryz.underlying22 rfl h16) rfl ⟨by rw [HO.out]; rfl, S.below⟩
    | some y =>
      have hxs := side_short _ _ _ hx
      have hys := side_short _ _ _ hy
      obtain ⟨X, hX⟩ : ∃ X, X = bytesG x := ⟨_, rfl⟩
      obtain ⟨Y, hY⟩ : ∃ Y, Y = bytesG y := ⟨_, rfl⟩
      have hXl : X.length = 2 * x.length := by rw [hX, bytesG_len]
      have hYl : Y.length = 2 * y.length := by rw [hY, bytesG_len]
      rw [hx, hy, octR_X hX hY] at ho
      obtain ⟨n1, hn1⟩ : ∃ n, n = X.length := ⟨_, rfl⟩
      obtain ⟨n2, hn2⟩ : ∃ n, n = Y.length := ⟨_, rfl⟩
      have b1 : n1 ≤ 40 := by omega
      have b2 : n2 ≤ 40 := by omega
      rw [← hn1, ← hn2] at ho
      have HX := Lib.hid (fun wr (h : P10 wr) => halfX_any ([] : List UInt8) x X n1 false wr (by decide) h hx hX hn1)
      have HY := Lib.hid (fun wr (h : P10 wr) => halfX_any b y Y n2 true wr (by omega) h hy hY hn2)
      obtain ⟨fb, hfb⟩ : ∃ fb, fb = fitB (n1 + n2) false := ⟨_, rfl⟩
      have hft := fun wr => fit_any2 n1 n2 false wr
      rw [← hfb] at ho hft
      have HF := Lib.hid hft
      have HN1 := Lib.hid hn1
      have HN2 := Lib.hid hn2
      have hle : fb = true → n1 + n2 ≤ 16 := fun h => fitB_le (hfb.symm.trans h)
      clear hx hy hX hY hXl hYl hn1 hn2 hxs hys hft hfb
      cases fb with
      | false =>
        rw [if_neg (by simp)] at ho
        have HO := Lib.hid ho
        clear ho hle
        go_enter Tryz.func64, Tryz.ntmps64
        go_wp2_with (first | ((with_reducible show wpList _ _ _ (Oper.mk (some 2) (Op.alloc _) _ _ _ _ :: _) _ _); refine wpList_allocS rfl _ rfl _ z16Zero S ?_; clear S; intro gr w1 S))
        with_reducible refine (HC.out _ (HMd.out _ _ S)).mono ?_
        rintro e w2 ⟨rfl, hb⟩
        have S := S.call hb
        clear hb
        go_wp2_with fail
        with_reducible refine (HX.out _ (HPd.out _ _ S)).mono ?_
        rintro e w3 ⟨⟨A, c, rfl, _⟩, hb⟩
        have S := S.call hb
        clear hb
        go_wp2_with fail
        with_reducible refine (HY.out _ (HPd.out _ _ S)).mono ?_
        rintro e w4 ⟨⟨A', c', rfl, _⟩, hb⟩
        have S := S.call hb
        clear hb
        go_wp2_with (first
          | ((with_reducible refine (HF.out _).mono ?_); rintro e w5 ⟨rfl, hq⟩; subst hq)
          | ((with_reducible show wpList _ _ _ (Oper.mk _ (Op.store _ _ _) _ _ _ _ :: _) _ _); refine wpList_storeS rfl _ _ _ rfl S _ rfl _ rfl 0 _ _ rfl z16Size (by rfl) (by simp [Value.oneCell']) ?_; clear S; intro w1 S; (first | simp only [List.set_cons_zero] at S | simp only [List.set_cons_succ, List.set_cons_zero] at S | skip)))
        exact bodyPost_ret (results_cell2S rfl _ S _ 0 _ _ _ rfl rfl Tryz.underlying22 rfl h16) rfl ⟨by rw [HO.out]; rfl, S.below⟩
      | true =>
        rw [if_pos rfl] at ho
        have hle' := hle rfl
        have hcells := cells_two X Y (by rw [← HN1.out, ← HN2.out]; exact hle')
        rw [← HN1.out, ← HN2.out] at hcells
        have hsa := slice16_all
        have hsl := fun g w => slice16_l g (16 - n2) (by omega) w
        rw [show ((16 - n2 : Nat) : Int) = 16 - (n2 : Int) by omega, show 16 - (16 - n2) = n2 by omega] at hsl
        have hz1 : (splice z16 0 (intVs .u8 (bInts X))).length = 16 := by rw [length_splice _ _ _ (by rw [intVs_len, bInts_len, ← HN1.out]; show 0 + n1 ≤ 16; omega)]; rfl
        obtain ⟨R, hR⟩ : ∃ R, R = X ++ List.replicate (16 - n1 - n2) 0 ++ Y := ⟨_, rfl⟩
        have hRl : R.length = 16 := by rw [hR]; simp; rw [← HN1.out, ← HN2.out]; omega
        rw [← hR] at ho hcells
        have HO := Lib.hid ho
        have HCE := Lib.hid hcells
        have HZ1 := Lib.hid hz1
        have hRs : (Tryz.prog.info? 22).map (·.size) = some (R.map cellU).toArray.size := by rw [z16Size]; simp [hRl]
        have hR1 : (R.map cellU).toArray.all (·.oneCell') = true := by simp [cellU, Value.oneCell']
        clear ho hle hcells hz1 hR
        go_enter Tryz.func64, Tryz.ntmps64
        go_wp2_with (first | ((with_reducible show wpList _ _ _ (Oper.mk (some 2) (Op.alloc _) _ _ _ _ :: _) _ _); refine wpList_allocS rfl _ rfl _ z16Zero S ?_; clear S; intro gr w1 S))
        with_reducible refine (HC.out _ (HMd.out _ _ S)).mono ?_
        rintro e w2 ⟨rfl, hb⟩
        have S := S.call hb
        clear hb
        go_wp2_with fail
        with_reducible refine (HX.out _ (HPd.out _ _ S)).mono ?_
        rintro e w3 ⟨⟨A, c, rfl, hi⟩, hb⟩
        have S := S.call hb
        have HI := Lib.hid hi
        clear hb hi
        go_wp2_with fail
        with_reducible refine (HY.out _ (HPd.out _ _ S)).mono ?_
        rintro e w4 ⟨⟨A', c', rfl, hi'⟩, hb⟩
        have S0 := S.call hb
        have HI2 := Lib.hid (HI.out.below hb)
        have HI' := Lib.hid hi'
        clear hb hi' HI S
        have S := Ats.start w4
        go_wp2_with (first
          | ((with_reducible refine (HF.out _).mono ?_); rintro e w5 ⟨rfl, hq⟩; subst hq)
          | ((with_reducible show wpList _ _ _ (Oper.mk (some 11) (Op.alloc _) _ _ _ _ :: _) _ _); refine wpList_allocS rfl _ rfl _ z16Zero S ?_; clear S; intro gi w1 S)
          | ((with_reducible show wpList _ _ _ (Oper.mk (some 50) _ _ _ _ _ :: _) _ _); refine wpList_copyInts rfl (.tmp 48) (.tmp 49) 46 46 rfl 5 Tryz.underlying46 u8Size S 0 gi 22 z16 rfl (some ⟨gi, 0, none⟩) 0 16 16 n1 c A .u8 (bInts X) (fun _ => rfl) rfl rfl (HI2.out.below S.below) (by omega) (by show 0 + n1 ≤ 16; omega) ?_; clear S; intro w6 S; simp only [List.set_cons_zero] at S)
          | ((with_reducible show wpList _ _ _ (Oper.mk (some 56) _ _ _ _ _ :: _) _ _); refine wpList_copyInts rfl (.tmp 54) (.tmp 55) 46 46 rfl 5 Tryz.underlying46 u8Size S 0 gi 22 (splice z16 0 (intVs .u8 (bInts X))) rfl (some (at16 gi (16 - n2))) (16 - n2) n2 n2 n2 c' A' .u8 (bInts Y) (fun h => by unfold at16; rw [if_neg (by omega)]) rfl rfl (HI'.out.below S.below) (Nat.le_refl _) (by rw [HZ1.out]; omega) ?_; clear S; intro w7 S; simp only [List.set_cons_zero, HCE.out] at S; have S := S0.join S)
          | ((with_reducible show wpList _ _ _ (Oper.mk _ (Op.load _ _) _ _ _ _ :: _) _ _); refine wpList_loadS rfl _ _ rfl S _ rfl 0 _ _ rfl _ Tryz.underlying22 rfl hRs ?_)
          | ((with_reducible show wpList _ _ _ (Oper.mk _ (Op.store _ _ _) _ _ _ _ :: _) _ _); refine wpList_storeS rfl _ _ _ rfl S _ rfl _ rfl 1 _ _ rfl hRs (by simp [z16, hRl, Value.cells]) (by exact hR1) ?_; clear S; intro w1 S; (first | simp only [List.set_cons_zero] at S | simp only [List.set_cons_succ, List.set_cons_zero] at S | skip)))
        exact bodyPost_ret (results_cell2S rfl _ S _ 1 _ _ _ rfl rfl Tryz.underlying22 rfl hRs) rfl ⟨by rw [HO.out]; rfl, S.below⟩
end Go.Proofs.YthbdeafbdmbabaaGreatDoor
namespace Go.Proofs.YthbdeafbdmbabaaGreatDoor
open Go.RowKit Go
set_option linter.unusedVariables false
set_option maxRecDepth 100000
structure AdZ where
  fam : Int
  ip : List UInt8
  zone : Int
  err : Int
def adTupZ (r : AdZ) : Value := .tuple #[adV r.fam r.ip r.zone, .int .i64 r.err]
def colonE (l : List UInt8) : AdZ := match octE (l.take (cutK l 37)) with
  | none => ⟨0, zero16, 0, 5⟩
  | some b => if l.length ≤ cutK l 37 then ⟨6, b, 0, 0⟩ else if (numR (l.drop (cutK l 37 + 1)) 2147483647).2 ≠ 0 then ⟨0, zero16, 0, (numR (l.drop (cutK l 37 + 1)) 2147483647).2⟩ else if (numR (l.drop (cutK l 37 + 1)) 2147483647).1 = 0 then ⟨0, zero16, 0, 4⟩ else ⟨6, b, (numR (l.drop (cutK l 37 + 1)) 2147483647).1, 0⟩
theorem octE_len {l b : List UInt8} (h : octE l = some b) : b.length = 16 := by
  unfold octE at h
  obtain ⟨g, hg, rfl⟩ := Option.map_eq_some_iff.1 h
  rw [bytesG_len, plainE_len hg]
theorem colonE_len (l : List UInt8) : (colonE l).ip.length = 16 := by
  unfold colonE
  split
  · rfl
  · rename_i b h
    have := octE_len h
    split
    · exact this
    · split
      · rfl
      · split
        · rfl
        · exact this
theorem octV_some (b : List UInt8) : octV (some b) = .tuple #[.agg (b.map cellU).toArray, .bool true] := rfl
theorem octV_none : octV none = .tuple #[.agg z16.toArray, .bool false] := rfl
theorem ba_ext (s : ByteArray) (k : Nat) : s.extract 0 k = ⟨(s.data.toList.take k).toArray⟩ := by
  apply ByteArray.ext
  rw [← Array.toList_inj, Lib.extract_data]
  simp
theorem ba_ext2 (s : ByteArray) (k : Nat) : s.extract (k + 1) s.size = ⟨(s.data.toList.drop (k + 1)).toArray⟩ := by
  apply ByteArray.ext
  rw [← Array.toList_inj, extract_tail]
theorem bCells (b : List UInt8) (h : b.length = 16) : (Tryz.prog.info? 22).map (·.size) = some (b.map cellU).toArray.size := by rw [z16Size]; simp [h]
theorem bOne (b : List UInt8) : (b.map cellU).toArray.all (·.oneCell') = true := by simp [cellU, Value.oneCell']
theorem build_ad (b : List UInt8) (h : b.length = 16) : List.foldl (fun (cs : Array Value) (x : Value × Nat) => cs.setIfInBounds (1 + x.snd) x.fst)
    #[Value.int IntKind.i64 6, Value.int IntKind.u8 0, Value.int IntKind.u8 0, Value.int IntKind.u8 0, Value.int IntKind.u8 0, Value.int IntKind.u8 0, Value.int IntKind.u8 0, Value.int IntKind.u8 0, Value.int IntKind.u8 0, Value.int IntKind.u8 0, Value.int IntKind.u8 0, Value.int IntKind.u8 0, Value.int IntKind.u8 0, Value.int IntKind.u8 0, Value.int IntKind.u8 0, Value.int IntKind.u8 0, Value.int IntKind.u8 0, Value.int IntKind.i64 0]
    (List.map cellU b).zipIdx = (adCs 6 b 0).toArray := by
  obtain ⟨a0, a1, a2, a3, a4, a5, a6, a7, a8, a9, a10, a11, a12, a13, a14, a15, rfl⟩ : ∃ a0 a1 a2 a3 a4 a5 a6 a7 a8 a9 a10 a11 a12 a13 a14 a15, b = [a0, a1, a2, a3, a4, a5, a6, a7, a8, a9, a10, a11, a12, a13, a14, a15] := by
    match b, h with
    | [a0, a1, a2, a3, a4, a5, a6, a7, a8, a9, a10, a11, a12, a13, a14, a15], _ => exact ⟨_, _, _, _, _, _, _, _, _, _, _, _, _, _, _, _, rfl⟩
  simp [adCs, List.zipIdx]
theorem ad_setZone (f z z' : Int) (b : List UInt8) (h : b.length = 16) : (adCs f b z).toArray.setIfInBounds 17 (.int .i64 z') = (adCs f b z').toArray := by
  match b, h with
  | [a0, a1, a2, a3, a4, a5, a6, a7, a8, a9, a10, a11, a12, a13, a14, a15], _ => rfl
theorem intSize : (Tryz.prog.info? 3).map (·.size) = some 1 := by kernel_rfl
theorem ad_size18 (f z : Int) (b : List UInt8) (h : b.length = 16) : (adCs f b z).toArray.size = 18 := by rw [List.size_toArray, adCs_len, h]
set_option maxHeartbeats 4000000 in
theorem parse_any8 (s : ByteArray) (w : World) (hs : s.size ≤ 4000) (hP : P10 w) (hM : MX w) :
    Calls Tryz.prog 43 #[.string s] w fun e w' => e = .returned (adTupZ (colonE s.data.toList)) ∧ Below w.heap.size w w' := by
  have S := Ats.start w
  have hsz := Lib.size_eq s
  have hPd : ∀ wr L, Ats w.heap.size w wr L → P10 wr := fun wr L h => hP.below (Nat.le_refl _) h.below
  have hMd : ∀ wr L, Ats w.heap.size w wr L → MX wr := fun wr L h => hM.below (Nat.le_refl _) h.below
  have HPd := Lib.hid hPd
  have HMd := Lib.hid hMd
  have hcut := fun wr => cut_any s 37 wr (by omega) (by decide) (by decide)
  have hoct := fun wr (h : P10 wr) (h' : MX wr) => octets_any ⟨(s.data.toList.take (cutK s.data.toList 37)).toArray⟩ wr (by show (s.data.toList.take _).length ≤ 4000; rw [List.length_take]; omega) h h'
  have hnum := fun wr => number_any ⟨(s.data.toList.drop (cutK s.data.toList 37 + 1)).toArray⟩ 2147483647 wr (by show (s.data.toList.drop _).length ≤ 4000; rw [List.length_drop]; omega) (by decide) (by decide)
  have e1 : (⟨(s.data.toList.take (cutK s.data.toList 37)).toArray⟩ : ByteArray).data.toList = s.data.toList.take (cutK s.data.toList 37) := rfl
  have e2 : (⟨(s.data.toList.drop (cutK s.data.toList 37 + 1)).toArray⟩ : ByteArray).data.toList = s.data.toList.drop (cutK s.data.toList 37 + 1) := rfl
  rw [e1] at hoct
  rw [e2] at hnum
  have hE : colonE s.data.toList = colonE s.data.toList := rfl
  conv at hE => rhs; unfold colonE
  obtain ⟨R, hR⟩ : ∃ R, R = colonE s.data.toList := ⟨_, rfl⟩
  have hRl := colonE_len s.data.toList
  rw [← hR] at hE hRl ⊢
  obtain ⟨O, hO⟩ : ∃ O, O = octE (s.data.toList.take (cutK s.data.toList 37)) := ⟨_, rfl⟩
  have hOl : ∀ b, O = some b → b.length = 16 := fun b h => octE_len (hO ▸ h)
  rw [← hO] at hE hoct
  obtain ⟨k, hk⟩ : ∃ k, k = cutK s.data.toList 37 := ⟨_, rfl⟩
  have hx1 := ba_ext s k
  have hx2 := ba_ext2 s k
  rw [← hk] at hE hoct hnum
  obtain ⟨N, hN⟩ : ∃ N, N = numR (s.data.toList.drop (k + 1)) 2147483647 := ⟨_, rfl⟩
  have hnum2 : ∀ wr, Calls Tryz.prog 65 #[.string ⟨(s.data.toList.drop (k + 1)).toArray⟩, .int .i64 2147483647] wr fun e w' => e = .returned (.tuple #[.int .i64 N.1, .int .i64 N.2]) ∧ wr = w' := fun wr => (hnum wr).mono fun e w' ⟨h, h'⟩ => ⟨by rw [hN]; exact numP_R h, h'⟩
  rw [← hN] at hE
  by_cases hlt : k < s.size
  · have hcut2 : ∀ wr, Calls Tryz.prog 63 #[.string s, .int .u8 37] wr fun e w' => e = .returned (.tuple #[.string ⟨(s.data.toList.take k).toArray⟩, .string ⟨(s.data.toList.drop (k + 1)).toArray⟩, .bool true]) ∧ Below wr.heap.size wr w' := fun wr => (hcut wr).mono fun e w' ⟨h, h'⟩ => ⟨by
      rcases h with ⟨_, h⟩ | ⟨h, _⟩
      · rw [h, CutHit, ← hk, hx1, hx2]
      · omega, h'⟩
    have HC := Lib.hid hcut2
    have HO := Lib.hid hoct
    have HN := Lib.hid hnum2
    clear hcut hcut2 hoct hnum hnum2 hx1 hx2 hPd hMd hP hM hR hO e1 e2
    cases O with
    | none =>
      rw [octV_none] at HO
      simp only at hE
      have HE := Lib.hid hE
      clear hE hsz hk hN hOl
      go_enter Tryz.func43, Tryz.ntmps43
      go_wp2_with (first
        | ((with_reducible show wpList _ _ _ (Oper.mk (some 2) (Op.alloc _) _ _ _ _ :: _) _ _); refine wpList_allocS rfl _ rfl _ adZero S ?_; clear S; intro gr w1 S)
        | ((with_reducible show wpList _ _ _ (Oper.mk (some 6) (Op.alloc _) _ _ _ _ :: _) _ _); refine wpList_allocS rfl _ rfl _ z16Zero S ?_; clear S; intro gi w1 S)
        | ((with_reducible refine (HC.out _).mono ?_); rintro e w2 ⟨rfl, hb⟩; have S := S.call hb; clear hb)
        | ((with_reducible refine (HO.out _ (HPd.out _ _ S) (HMd.out _ _ S)).mono ?_); rintro e w2 ⟨rfl, hb⟩; have S := S.call hb; clear hb)
        | ((with_reducible show wpList _ _ _ (Oper.mk _ (Op.store _ (Operand.tmp 6) _) _ _ _ _ :: _) _ _); refine wpList_storeS rfl _ _ _ rfl S _ rfl _ rfl 0 _ _ rfl z16Size (by rfl) (by simp [z16, Value.oneCell']) ?_; clear S; intro w1 S; (first | simp only [List.set_cons_zero] at S | simp only [List.set_cons_succ, List.set_cons_zero] at S | skip))
        | ((with_reducible show wpList _ _ _ (Oper.mk _ (Op.store _ (Operand.tmp 2) _) _ _ _ _ :: _) _ _); refine wpList_storeS rfl _ _ _ rfl S _ rfl _ rfl 1 _ _ rfl adInfo (by rfl) (by first | exact adCs_one _ _ _ | simp [Value.oneCell']) ?_; clear S; intro w1 S; (first | simp only [List.set_cons_zero] at S | simp only [List.set_cons_succ, List.set_cons_zero] at S | skip)))
      exact bodyPost_ret (results_cell2S rfl _ S _ 1 _ _ _ rfl rfl Tryz.underlying24 rfl adInfo) rfl ⟨by rw [HE.out]; rfl, S.below⟩
    | some b =>
      have hbl := hOl b rfl
      rw [octV_some] at HO
      simp only at hE
      rw [if_neg (by omega)] at hE
      have HE := Lib.hid hE
      clear hE hsz hk hN hOl
      have hbc := bCells b hbl
      have hbo := bOne b
      have hbd := build_ad b hbl
      have has := adSize 6 b 0 hbl
      obtain ⟨n, er⟩ := N
      simp only at HN HE
      by_cases h0 : er = 0
      · have t36 : (er != 0) = false := by simpa using h0
        by_cases hn0 : n = 0
        · have t40 : (n == 0) = true := by simpa using hn0
          have hE := HE.out
          rw [if_neg (by simpa using h0), if_pos hn0] at hE
          have HE := Lib.hid hE
          clear hE h0 hn0
          go_enter Tryz.func43, Tryz.ntmps43
          go_wp2_with (first
            | ((with_reducible show wpList _ _ _ (Oper.mk (some 2) (Op.alloc _) _ _ _ _ :: _) _ _); refine wpList_allocS rfl _ rfl _ adZero S ?_; clear S; intro gr w1 S)
            | ((with_reducible show wpList _ _ _ (Oper.mk (some 6) (Op.alloc _) _ _ _ _ :: _) _ _); refine wpList_allocS rfl _ rfl _ z16Zero S ?_; clear S; intro gi w1 S)
            | ((with_reducible show wpList _ _ _ (Oper.mk (some 8) (Op.alloc _) _ _ _ _ :: _) _ _); refine wpList_allocS rfl _ rfl _ adZero S ?_; clear S; intro ga w1 S)
            | ((with_reducible refine (HC.out _).mono ?_); rintro e w2 ⟨rfl, hb⟩; have S := S.call hb; clear hb)
            | ((with_reducible refine (HO.out _ (HPd.out _ _ S) (HMd.out _ _ S)).mono ?_); rintro e w2 ⟨rfl, hb⟩; have S := S.call hb; clear hb)
            | ((with_reducible refine (HN.out _).mono ?_); rintro e w2 ⟨rfl, hq⟩; subst hq)
            | ((with_reducible show wpList _ _ _ (Oper.mk _ (Op.store _ (Operand.tmp 6) _) _ _ _ _ :: _) _ _); refine wpList_storeS rfl _ _ _ rfl S _ rfl _ rfl 0 _ _ rfl hbc (by simp [z16, hbl, Value.cells]) (by exact hbo) ?_; clear S; intro w1 S; (first | simp only [List.set_cons_zero] at S | simp only [List.set_cons_succ, List.set_cons_zero] at S | skip))
            | ((with_reducible show wpList _ _ _ (Oper.mk _ (Op.load _ (Operand.tmp 6)) _ _ _ _ :: _) _ _); refine wpList_loadS rfl _ _ rfl S _ rfl 1 _ _ rfl _ Tryz.underlying22 rfl hbc ?_)
            | ((with_reducible show wpList _ _ _ (Oper.mk _ (Op.load _ (Operand.tmp 6)) _ _ _ _ :: _) _ _); refine wpList_loadS rfl _ _ rfl S _ rfl 0 _ _ rfl _ Tryz.underlying22 rfl hbc ?_)
            | ((with_reducible show wpList _ _ _ (Oper.mk _ (Op.store _ (Operand.tmp 8) _) _ _ _ _ :: _) _ _); refine wpList_storeS rfl _ _ _ rfl S _ rfl _ rfl 0 _ _ rfl has (by exact ad_sizes _ _ _ _ _ _ rfl hbl) (by exact adCs_one _ _ _) ?_; clear S; intro w1 S; (first | simp only [List.set_cons_zero] at S | simp only [List.set_cons_succ, List.set_cons_zero] at S | skip))
            | ((with_reducible show wpList _ _ _ (Oper.mk _ (Op.load _ (Operand.tmp 8)) _ _ _ _ :: _) _ _); refine wpList_loadS rfl _ _ rfl S _ rfl 0 _ _ rfl _ Tryz.underlying24 rfl has ?_)
            | (((with_reducible show wpList _ _ _ (Oper.mk _ (Op.store _ (Operand.tmp 43) _) _ _ _ _ :: _) _ _); refine wpList_putS rfl _ _ _ rfl S _ _ rfl _ rfl rfl rfl 0 _ _ rfl intSize (by rw [ad_size18 _ _ _ hbl]; decide) ?_; clear S; intro w1 S; (first | simp only [List.set_cons_zero] at S | simp only [List.set_cons_succ, List.set_cons_zero] at S | skip)); try (have S : Ats w.heap.size w w1 [(ga, 24, (adCs 6 b n).toArray), (gi, 22, (b.map cellU).toArray), (gr, 24, (adCs 0 zero16 0).toArray)] := by rw [← hzn]; exact S))
            | ((with_reducible show wpList _ _ _ (Oper.mk _ (Op.store _ (Operand.tmp 2) _) _ _ _ _ :: _) _ _); refine wpList_storeS rfl _ _ _ rfl S _ rfl _ rfl 2 _ _ rfl has (by exact ad_sizes _ _ _ _ _ _ rfl hbl) (by exact adCs_one _ _ _) ?_; clear S; intro w1 S; (first | simp only [List.set_cons_zero] at S | simp only [List.set_cons_succ, List.set_cons_zero] at S | skip))
            | ((with_reducible show wpList _ _ _ (Oper.mk _ (Op.store _ (Operand.tmp 2) _) _ _ _ _ :: _) _ _); refine wpList_storeS rfl _ _ _ rfl S _ rfl _ rfl 2 _ _ rfl adInfo (by rfl) (by first | exact adCs_one _ _ _ | simp [Value.oneCell']) ?_; clear S; intro w1 S; (first | simp only [List.set_cons_zero] at S | simp only [List.set_cons_succ, List.set_cons_zero] at S | skip)))
          exact bodyPost_ret (results_cell2S rfl _ S _ 2 _ _ _ rfl rfl Tryz.underlying24 rfl adInfo) rfl ⟨by rw [HE.out]; rfl, S.below⟩
        · have t40 : (n == 0) = false := by simpa using hn0
          have hE := HE.out
          rw [if_neg (by simpa using h0), if_neg hn0] at hE
          have HE := Lib.hid hE
          have hzn := ad_setZone 6 0 n b hbl
          have has2 := adSize 6 b n hbl
          clear hE h0 hn0
          go_enter Tryz.func43, Tryz.ntmps43
          go_wp2_with (first
            | ((with_reducible show wpList _ _ _ (Oper.mk (some 2) (Op.alloc _) _ _ _ _ :: _) _ _); refine wpList_allocS rfl _ rfl _ adZero S ?_; clear S; intro gr w1 S)
            | ((with_reducible show wpList _ _ _ (Oper.mk (some 6) (Op.alloc _) _ _ _ _ :: _) _ _); refine wpList_allocS rfl _ rfl _ z16Zero S ?_; clear S; intro gi w1 S)
            | ((with_reducible show wpList _ _ _ (Oper.mk (some 8) (Op.alloc _) _ _ _ _ :: _) _ _); refine wpList_allocS rfl _ rfl _ adZero S ?_; clear S; intro ga w1 S)
            | ((with_reducible refine (HC.out _).mono ?_); rintro e w2 ⟨rfl, hb⟩; have S := S.call hb; clear hb)
            | ((with_reducible refine (HO.out _ (HPd.out _ _ S) (HMd.out _ _ S)).mono ?_); rintro e w2 ⟨rfl, hb⟩; have S := S.call hb; clear hb)
            | ((with_reducible refine (HN.out _).mono ?_); rintro e w2 ⟨rfl, hq⟩; subst hq)
            | ((with_reducible show wpList _ _ _ (Oper.mk _ (Op.store _ (Operand.tmp 6) _) _ _ _ _ :: _) _ _); refine wpList_storeS rfl _ _ _ rfl S _ rfl _ rfl 0 _ _ rfl hbc (by simp [z16, hbl, Value.cells]) (by exact hbo) ?_; clear S; intro w1 S; (first | simp only [List.set_cons_zero] at S | simp only [List.set_cons_succ, List.set_cons_zero] at S | skip))
            | ((with_reducible show wpList _ _ _ (Oper.mk _ (Op.load _ (Operand.tmp 6)) _ _ _ _ :: _) _ _); refine wpList_loadS rfl _ _ rfl S _ rfl 1 _ _ rfl _ Tryz.underlying22 rfl hbc ?_)
            | ((with_reducible show wpList _ _ _ (Oper.mk _ (Op.load _ (Operand.tmp 6)) _ _ _ _ :: _) _ _); refine wpList_loadS rfl _ _ rfl S _ rfl 0 _ _ rfl _ Tryz.underlying22 rfl hbc ?_)
            | ((with_reducible show wpList _ _ _ (Oper.mk _ (Op.store _ (Operand.tmp 8) _) _ _ _ _ :: _) _ _); refine wpList_storeS rfl _ _ _ rfl S _ rfl _ rfl 0 _ _ rfl has (by exact ad_sizes _ _ _ _ _ _ rfl hbl) (by exact adCs_one _ _ _) ?_; clear S; intro w1 S; (first | simp only [List.set_cons_zero] at S | simp only [List.set_cons_succ, List.set_cons_zero] at S | skip))
            | ((with_reducible show wpList _ _ _ (Oper.mk _ (Op.load _ (Operand.tmp 8)) _ _ _ _ :: _) _ _); refine wpList_loadS rfl _ _ rfl S _ rfl 0 _ _ rfl _ Tryz.underlying24 rfl has2 ?_)
            | (((with_reducible show wpList _ _ _ (Oper.mk _ (Op.store _ (Operand.tmp 43) _) _ _ _ _ :: _) _ _); refine wpList_putS rfl _ _ _ rfl S _ _ rfl _ rfl rfl rfl 0 _ _ rfl intSize (by rw [ad_size18 _ _ _ hbl]; decide) ?_; clear S; intro w1 S; (first | simp only [List.set_cons_zero] at S | simp only [List.set_cons_succ, List.set_cons_zero] at S | skip)); try (have S : Ats w.heap.size w w1 [(ga, 24, (adCs 6 b n).toArray), (gi, 22, (b.map cellU).toArray), (gr, 24, (adCs 0 zero16 0).toArray)] := by rw [← hzn]; exact S))
            | ((with_reducible show wpList _ _ _ (Oper.mk _ (Op.store _ (Operand.tmp 2) _) _ _ _ _ :: _) _ _); refine wpList_storeS rfl _ _ _ rfl S _ rfl _ rfl 2 _ _ rfl has2 (by exact ad_sizes _ _ _ _ _ _ rfl hbl) (by exact adCs_one _ _ _) ?_; clear S; intro w1 S; (first | simp only [List.set_cons_zero] at S | simp only [List.set_cons_succ, List.set_cons_zero] at S | skip))
            | ((with_reducible show wpList _ _ _ (Oper.mk _ (Op.store _ (Operand.tmp 2) _) _ _ _ _ :: _) _ _); refine wpList_storeS rfl _ _ _ rfl S _ rfl _ rfl 2 _ _ rfl adInfo (by rfl) (by first | exact adCs_one _ _ _ | simp [Value.oneCell']) ?_; clear S; intro w1 S; (first | simp only [List.set_cons_zero] at S | simp only [List.set_cons_succ, List.set_cons_zero] at S | skip)))
          exact bodyPost_ret (results_cell2S rfl _ S _ 2 _ _ _ rfl rfl Tryz.underlying24 rfl has2) rfl ⟨by rw [HE.out]; rfl, S.below⟩
      · have t36 : (er != 0) = true := by simpa using h0
        have hE := HE.out
        rw [if_pos h0] at hE
        have HE := Lib.hid hE
        clear hE h0
        go_enter Tryz.func43, Tryz.ntmps43
        go_wp2_with (first
          | ((with_reducible show wpList _ _ _ (Oper.mk (some 2) (Op.alloc _) _ _ _ _ :: _) _ _); refine wpList_allocS rfl _ rfl _ adZero S ?_; clear S; intro gr w1 S)
          | ((with_reducible show wpList _ _ _ (Oper.mk (some 6) (Op.alloc _) _ _ _ _ :: _) _ _); refine wpList_allocS rfl _ rfl _ z16Zero S ?_; clear S; intro gi w1 S)
          | ((with_reducible show wpList _ _ _ (Oper.mk (some 8) (Op.alloc _) _ _ _ _ :: _) _ _); refine wpList_allocS rfl _ rfl _ adZero S ?_; clear S; intro ga w1 S)
          | ((with_reducible refine (HC.out _).mono ?_); rintro e w2 ⟨rfl, hb⟩; have S := S.call hb; clear hb)
          | ((with_reducible refine (HO.out _ (HPd.out _ _ S) (HMd.out _ _ S)).mono ?_); rintro e w2 ⟨rfl, hb⟩; have S := S.call hb; clear hb)
          | ((with_reducible refine (HN.out _).mono ?_); rintro e w2 ⟨rfl, hq⟩; subst hq)
          | ((with_reducible show wpList _ _ _ (Oper.mk _ (Op.store _ (Operand.tmp 6) _) _ _ _ _ :: _) _ _); refine wpList_storeS rfl _ _ _ rfl S _ rfl _ rfl 0 _ _ rfl hbc (by simp [z16, hbl, Value.cells]) (by exact hbo) ?_; clear S; intro w1 S; (first | simp only [List.set_cons_zero] at S | simp only [List.set_cons_succ, List.set_cons_zero] at S | skip))
          | ((with_reducible show wpList _ _ _ (Oper.mk _ (Op.load _ (Operand.tmp 6)) _ _ _ _ :: _) _ _); refine wpList_loadS rfl _ _ rfl S _ rfl 1 _ _ rfl _ Tryz.underlying22 rfl hbc ?_)
          | ((with_reducible show wpList _ _ _ (Oper.mk _ (Op.load _ (Operand.tmp 6)) _ _ _ _ :: _) _ _); refine wpList_loadS rfl _ _ rfl S _ rfl 0 _ _ rfl _ Tryz.underlying22 rfl hbc ?_)
          | ((with_reducible show wpList _ _ _ (Oper.mk _ (Op.store _ (Operand.tmp 8) _) _ _ _ _ :: _) _ _); refine wpList_storeS rfl _ _ _ rfl S _ rfl _ rfl 0 _ _ rfl has (by exact ad_sizes _ _ _ _ _ _ rfl hbl) (by exact adCs_one _ _ _) ?_; clear S; intro w1 S; (first | simp only [List.set_cons_zero] at S | simp only [List.set_cons_succ, List.set_cons_zero] at S | skip))
          | ((with_reducible show wpList _ _ _ (Oper.mk _ (Op.load _ (Operand.tmp 8)) _ _ _ _ :: _) _ _); refine wpList_loadS rfl _ _ rfl S _ rfl 0 _ _ rfl _ Tryz.underlying24 rfl has ?_)
          | (((with_reducible show wpList _ _ _ (Oper.mk _ (Op.store _ (Operand.tmp 43) _) _ _ _ _ :: _) _ _); refine wpList_putS rfl _ _ _ rfl S _ _ rfl _ rfl rfl rfl 0 _ _ rfl intSize (by rw [ad_size18 _ _ _ hbl]; decide) ?_; clear S; intro w1 S; (first | simp only [List.set_cons_zero] at S | simp only [List.set_cons_succ, List.set_cons_zero] at S | skip)); try (have S : Ats w.heap.size w w1 [(ga, 24, (adCs 6 b n).toArray), (gi, 22, (b.map cellU).toArray), (gr, 24, (adCs 0 zero16 0).toArray)] := by rw [← hzn]; exact S))
          | ((with_reducible show wpList _ _ _ (Oper.mk _ (Op.store _ (Operand.tmp 2) _) _ _ _ _ :: _) _ _); refine wpList_storeS rfl _ _ _ rfl S _ rfl _ rfl 2 _ _ rfl has (by exact ad_sizes _ _ _ _ _ _ rfl hbl) (by exact adCs_one _ _ _) ?_; clear S; intro w1 S; (first | simp only [List.set_cons_zero] at S | simp only [List.set_cons_succ, List.set_cons_zero] at S | skip))
          | ((with_reducible show wpList _ _ _ (Oper.mk _ (Op.store _ (Operand.tmp 2) _) _ _ _ _ :: _) _ _); refine wpList_storeS rfl _ _ _ rfl S _ rfl _ rfl 2 _ _ rfl adInfo (by rfl) (by first | exact adCs_one _ _ _ | simp [Value.oneCell']) ?_; clear S; intro w1 S; (first | simp only [List.set_cons_zero] at S | simp only [List.set_cons_succ, List.set_cons_zero] at S | skip)))
        exact bodyPost_ret (results_cell2S rfl _ S _ 2 _ _ _ rfl rfl Tryz.underlying24 rfl adInfo) rfl ⟨by rw [HE.out]; rfl, S.below⟩
  · have hcut2 : ∀ wr, Calls Tryz.prog 63 #[.string s, .int .u8 37] wr fun e w' => e = .returned (.tuple #[.string s, .string ⟨#[]⟩, .bool false]) ∧ Below wr.heap.size wr w' := fun wr => (hcut wr).mono fun e w' ⟨h, h'⟩ => ⟨by
      rcases h with ⟨h, _⟩ | ⟨_, h⟩
      · omega
      · exact h, h'⟩
    have htk : (⟨(s.data.toList.take k).toArray⟩ : ByteArray) = s := by
      rw [List.take_of_length_le (by omega)]
    rw [htk] at hoct
    have HC := Lib.hid hcut2
    have HO := Lib.hid hoct
    have HN := Lib.hid hnum2
    clear hcut hcut2 hoct hnum hnum2 hx1 hx2 hPd hMd hP hM hR hO e1 e2 htk
    cases O with
    | none =>
      rw [octV_none] at HO
      simp only at hE
      have HE := Lib.hid hE
      clear hE hsz hk hN hOl
      go_enter Tryz.func43, Tryz.ntmps43
      go_wp2_with (first
        | ((with_reducible show wpList _ _ _ (Oper.mk (some 2) (Op.alloc _) _ _ _ _ :: _) _ _); refine wpList_allocS rfl _ rfl _ adZero S ?_; clear S; intro gr w1 S)
        | ((with_reducible show wpList _ _ _ (Oper.mk (some 6) (Op.alloc _) _ _ _ _ :: _) _ _); refine wpList_allocS rfl _ rfl _ z16Zero S ?_; clear S; intro gi w1 S)
        | ((with_reducible refine (HC.out _).mono ?_); rintro e w2 ⟨rfl, hb⟩; have S := S.call hb; clear hb)
        | ((with_reducible refine (HO.out _ (HPd.out _ _ S) (HMd.out _ _ S)).mono ?_); rintro e w2 ⟨rfl, hb⟩; have S := S.call hb; clear hb)
        | ((with_reducible show wpList _ _ _ (Oper.mk _ (Op.store _ (Operand.tmp 6) _) _ _ _ _ :: _) _ _); refine wpList_storeS rfl _ _ _ rfl S _ rfl _ rfl 0 _ _ rfl z16Size (by rfl) (by simp [z16, Value.oneCell']) ?_; clear S; intro w1 S; (first | simp only [List.set_cons_zero] at S | simp only [List.set_cons_succ, List.set_cons_zero] at S | skip))
        | ((with_reducible show wpList _ _ _ (Oper.mk _ (Op.store _ (Operand.tmp 2) _) _ _ _ _ :: _) _ _); refine wpList_storeS rfl _ _ _ rfl S _ rfl _ rfl 1 _ _ rfl adInfo (by rfl) (by first | exact adCs_one _ _ _ | simp [Value.oneCell']) ?_; clear S; intro w1 S; (first | simp only [List.set_cons_zero] at S | simp only [List.set_cons_succ, List.set_cons_zero] at S | skip)))
      exact bodyPost_ret (results_cell2S rfl _ S _ 1 _ _ _ rfl rfl Tryz.underlying24 rfl adInfo) rfl ⟨by rw [HE.out]; rfl, S.below⟩
    | some b =>
      have hbl := hOl b rfl
      rw [octV_some] at HO
      simp only at hE
      rw [if_pos (by omega)] at hE
      have HE := Lib.hid hE
      clear hE hsz hk hN hOl
      have hbc := bCells b hbl
      have hbo := bOne b
      have hbd := build_ad b hbl
      have has := adSize 6 b 0 hbl
      go_enter Tryz.func43, Tryz.ntmps43
      go_wp2_with (first
        | ((with_reducible show wpList _ _ _ (Oper.mk (some 2) (Op.alloc _) _ _ _ _ :: _) _ _); refine wpList_allocS rfl _ rfl _ adZero S ?_; clear S; intro gr w1 S)
        | ((with_reducible show wpList _ _ _ (Oper.mk (some 6) (Op.alloc _) _ _ _ _ :: _) _ _); refine wpList_allocS rfl _ rfl _ z16Zero S ?_; clear S; intro gi w1 S)
        | ((with_reducible show wpList _ _ _ (Oper.mk (some 8) (Op.alloc _) _ _ _ _ :: _) _ _); refine wpList_allocS rfl _ rfl _ adZero S ?_; clear S; intro ga w1 S)
        | ((with_reducible refine (HC.out _).mono ?_); rintro e w2 ⟨rfl, hb⟩; have S := S.call hb; clear hb)
        | ((with_reducible refine (HO.out _ (HPd.out _ _ S) (HMd.out _ _ S)).mono ?_); rintro e w2 ⟨rfl, hb⟩; have S := S.call hb; clear hb)
        | ((with_reducible refine (HN.out _).mono ?_); rintro e w2 ⟨rfl, hq⟩; subst hq)
        | ((with_reducible show wpList _ _ _ (Oper.mk _ (Op.store _ (Operand.tmp 6) _) _ _ _ _ :: _) _ _); refine wpList_storeS rfl _ _ _ rfl S _ rfl _ rfl 0 _ _ rfl hbc (by simp [z16, hbl, Value.cells]) (by exact hbo) ?_; clear S; intro w1 S; (first | simp only [List.set_cons_zero] at S | simp only [List.set_cons_succ, List.set_cons_zero] at S | skip))
        | ((with_reducible show wpList _ _ _ (Oper.mk _ (Op.load _ (Operand.tmp 6)) _ _ _ _ :: _) _ _); refine wpList_loadS rfl _ _ rfl S _ rfl 1 _ _ rfl _ Tryz.underlying22 rfl hbc ?_)
        | ((with_reducible show wpList _ _ _ (Oper.mk _ (Op.load _ (Operand.tmp 6)) _ _ _ _ :: _) _ _); refine wpList_loadS rfl _ _ rfl S _ rfl 0 _ _ rfl _ Tryz.underlying22 rfl hbc ?_)
        | ((with_reducible show wpList _ _ _ (Oper.mk _ (Op.store _ (Operand.tmp 8) _) _ _ _ _ :: _) _ _); refine wpList_storeS rfl _ _ _ rfl S _ rfl _ rfl 0 _ _ rfl has (by exact ad_sizes _ _ _ _ _ _ rfl hbl) (by exact adCs_one _ _ _) ?_; clear S; intro w1 S; (first | simp only [List.set_cons_zero] at S | simp only [List.set_cons_succ, List.set_cons_zero] at S | skip))
        | ((with_reducible show wpList _ _ _ (Oper.mk _ (Op.load _ (Operand.tmp 8)) _ _ _ _ :: _) _ _); refine wpList_loadS rfl _ _ rfl S _ rfl 0 _ _ rfl _ Tryz.underlying24 rfl has ?_)
        | (((with_reducible show wpList _ _ _ (Oper.mk _ (Op.store _ (Operand.tmp 43) _) _ _ _ _ :: _) _ _); refine wpList_putS rfl _ _ _ rfl S _ _ rfl _ rfl rfl rfl 0 _ _ rfl intSize (by rw [ad_size18 _ _ _ hbl]; decide) ?_; clear S; intro w1 S; (first | simp only [List.set_cons_zero] at S | simp only [List.set_cons_succ, List.set_cons_zero] at S | skip)); try (have S : Ats w.heap.size w w1 [(ga, 24, (adCs 6 b n).toArray), (gi, 22, (b.map cellU).toArray), (gr, 24, (adCs 0 zero16 0).toArray)] := by rw [← hzn]; exact S))
        | ((with_reducible show wpList _ _ _ (Oper.mk _ (Op.store _ (Operand.tmp 2) _) _ _ _ _ :: _) _ _); refine wpList_storeS rfl _ _ _ rfl S _ rfl _ rfl 2 _ _ rfl has (by exact ad_sizes _ _ _ _ _ _ rfl hbl) (by exact adCs_one _ _ _) ?_; clear S; intro w1 S; (first | simp only [List.set_cons_zero] at S | simp only [List.set_cons_succ, List.set_cons_zero] at S | skip))
        | ((with_reducible show wpList _ _ _ (Oper.mk _ (Op.store _ (Operand.tmp 2) _) _ _ _ _ :: _) _ _); refine wpList_storeS rfl _ _ _ rfl S _ rfl _ rfl 2 _ _ rfl adInfo (by rfl) (by first | exact adCs_one _ _ _ | simp [Value.oneCell']) ?_; clear S; intro w1 S; (first | simp only [List.set_cons_zero] at S | simp only [List.set_cons_succ, List.set_cons_zero] at S | skip)))
      exact bodyPost_ret (results_cell2S rfl _ S _ 2 _ _ _ rfl rfl Tryz.underlying24 rfl has) rfl ⟨by rw [HE.out]; rfl, S.below⟩
end Go.Proofs.YthbdeafbdmbabaaGreatDoor
namespace Go.Proofs.YthbdeafbdmbabaaGreatDoor
open Go.RowKit Go
set_option linter.unusedVariables false
set_option maxRecDepth 100000
theorem fam3 (f : Int) : (f = 4) ∨ (f = 6) ∨ (f ≠ 4 ∧ f ≠ 6) := by omega
theorem bitsF_no {f : Int} (h : f ≠ 4 ∧ f ≠ 6) : bitsF f = 0 := by unfold bitsF; rw [if_neg h.1, if_neg h.2]
set_option maxHeartbeats 1000000 in
theorem aBits_any (f z : Int) (ip : List UInt8) (w : World) (hip : ip.length = 16) :
    Calls Tryz.prog 8 #[adV f ip z] w fun e w' => e = .returned (.int .i64 (bitsF f)) ∧ Below w.heap.size w w' := by
  have S := Ats.start w
  have hf := ad_fam f z ip
  rcases fam3 f with rfl | rfl | hn
  · go_enter Tryz.func8, Tryz.ntmps8
    go_wp2_with (first
      | ((with_reducible show wpList _ _ _ (Oper.mk _ (Op.box _ _) _ _ _ _ :: _) _ _); refine wpList_boxS rfl _ _ rfl (adCs 4 ip z).toArray rfl S ?_; clear S; intro ga w1 S)
      | ((with_reducible show wpList _ _ _ (Oper.mk _ (Op.load _ _) _ _ _ _ :: _) _ _); refine wpList_cellS rfl _ _ rfl S _ _ rfl 0 _ _ rfl _ Tryz.underlying3 rfl _ (by with_reducible exact hf) ?_))
    go_ret
    exact ⟨rfl, S.below⟩
  · go_enter Tryz.func8, Tryz.ntmps8
    go_wp2_with (first
      | ((with_reducible show wpList _ _ _ (Oper.mk _ (Op.box _ _) _ _ _ _ :: _) _ _); refine wpList_boxS rfl _ _ rfl (adCs 6 ip z).toArray rfl S ?_; clear S; intro ga w1 S)
      | ((with_reducible show wpList _ _ _ (Oper.mk _ (Op.load _ _) _ _ _ _ :: _) _ _); refine wpList_cellS rfl _ _ rfl S _ _ rfl 0 _ _ rfl _ Tryz.underlying3 rfl _ (by with_reducible exact hf) ?_))
    go_ret
    exact ⟨rfl, S.below⟩
  · have h4 : (f == 4) = false := by simpa using hn.1
    have h6 : (f == 6) = false := by simpa using hn.2
    rw [bitsF_no hn]
    clear hn
    go_enter Tryz.func8, Tryz.ntmps8
    go_wp2_with (first
      | ((with_reducible show wpList _ _ _ (Oper.mk _ (Op.box _ _) _ _ _ _ :: _) _ _); refine wpList_boxS rfl _ _ rfl (adCs f ip z).toArray rfl S ?_; clear S; intro ga w1 S)
      | ((with_reducible show wpList _ _ _ (Oper.mk _ (Op.load _ _) _ _ _ _ :: _) _ _); refine wpList_cellS rfl _ _ rfl S _ _ rfl 0 _ _ rfl _ Tryz.underlying3 rfl _ (by with_reducible exact hf) ?_))
    go_ret
    exact ⟨rfl, S.below⟩
theorem u8_eq255 (c : UInt8) : (((c.toNat : Nat) : Int) == 255) = (c == 255) := by
  rw [Bool.eq_iff_iff, beq_iff_eq, beq_iff_eq]
  constructor
  · intro h
    apply UInt8.toNat_inj.1
    show c.toNat = 255
    omega
  · rintro rfl; rfl
theorem ad_at (f z : Int) (ip : List UInt8) (k : Nat) (hip : ip.length = 16) (hk : k < 16) : (adCs f ip z).toArray[1 + k]? = some (.int .u8 (ip.getD k 0).toNat) :=
  ad_byte f z ip k _ (by rw [List.getD_eq_getElem?_getD, List.getElem?_eq_getElem (by omega)]; rfl)
set_option maxHeartbeats 1000000 in
theorem multi6_any (f z : Int) (ip : List UInt8) (w : World) (hip : ip.length = 16) :
    Calls Tryz.prog 35 #[adV f ip z] w fun e w' => e = .returned (.bool (manyB f ip)) ∧ Below w.heap.size w w' := by
  have S := Ats.start w
  have hf := ad_fam f z ip
  have h0 : (adCs f ip z).toArray[1]? = some (.int .u8 (ip.getD 0 0).toNat) := ad_at f z ip 0 hip (by decide)
  by_cases h6 : f = 6
  · subst h6
    have h255 := u8_eq255 (ip.getD 0 0)
    have hm : manyB 6 ip = (ip.getD 0 0 == 255) := rfl
    obtain ⟨c, hc⟩ : ∃ c, c = ip.getD 0 0 := ⟨_, rfl⟩
    obtain ⟨r, hr⟩ : ∃ r, r = manyB 6 ip := ⟨_, rfl⟩
    rw [← hc] at h0 h255 hm
    rw [← hr] at hm ⊢
    rw [← hm] at h255
    clear hc hr hm
    go_enter Tryz.func35, Tryz.ntmps35
    go_wp2_with (first
      | ((with_reducible show wpList _ _ _ (Oper.mk _ (Op.box _ _) _ _ _ _ :: _) _ _); refine wpList_boxS rfl _ _ rfl (adCs 6 ip z).toArray rfl S ?_; clear S; intro ga w1 S)
      | ((with_reducible show wpList _ _ _ (Oper.mk _ (Op.load _ _) _ _ _ _ :: _) _ _); refine wpList_cellS rfl _ _ rfl S _ _ rfl 0 _ _ rfl _ Tryz.underlying3 rfl _ (by with_reducible exact hf) ?_)
      | ((with_reducible show wpList _ _ _ (Oper.mk _ (Op.load _ _) _ _ _ _ :: _) _ _); refine wpList_cellS rfl _ _ rfl S _ _ rfl 0 _ _ rfl _ Tryz.underlying5 rfl _ (by with_reducible exact h0) ?_))
    go_ret
    exact ⟨rfl, S.below⟩
  · have t6 : (f == 6) = false := by simpa using h6
    have hm : manyB f ip = false := by unfold manyB; rw [t6]; rfl
    rw [hm]
    clear h6 hm
    go_enter Tryz.func35, Tryz.ntmps35
    go_wp2_with (first
      | ((with_reducible show wpList _ _ _ (Oper.mk _ (Op.box _ _) _ _ _ _ :: _) _ _); refine wpList_boxS rfl _ _ rfl (adCs f ip z).toArray rfl S ?_; clear S; intro ga w1 S)
      | ((with_reducible show wpList _ _ _ (Oper.mk _ (Op.load _ _) _ _ _ _ :: _) _ _); refine wpList_cellS rfl _ _ rfl S _ _ rfl 0 _ _ rfl _ Tryz.underlying3 rfl _ (by with_reducible exact hf) ?_)
      | ((with_reducible show wpList _ _ _ (Oper.mk _ (Op.load _ _) _ _ _ _ :: _) _ _); refine wpList_cellS rfl _ _ rfl S _ _ rfl 0 _ _ rfl _ Tryz.underlying5 rfl _ (by with_reducible exact h0) ?_))
    go_ret
    exact ⟨rfl, S.below⟩
def textA (f : Int) (ip : List UInt8) (z : Int) : List UInt8 := if f = 4 then quadI ip else if f = 6 then textC ip z else []
set_option maxHeartbeats 1000000 in
theorem aText_any (f z : Int) (ip : List UInt8) (w : World) (hip : ip.length = 16) (hz0 : -9223372036854775808 ≤ z) (hz : z ≤ 9223372036854775807) (hP : P10 w) (hD : DB w) :
    Calls Tryz.prog 10 #[adV f ip z] w fun e w' => e = .returned (.string ⟨(textA f ip z).toArray⟩) ∧ Below w.heap.size w w' := by
  have S := Ats.start w
  have hf := ad_fam f z ip
  have h1 := fun w (h : P10 w) => text_any f z ip w hip h
  have h2 := fun w (h : P10 w) (h' : DB w) => text_any8 f z ip w hip hz0 hz h h'
  have hPd : ∀ wr L, Ats w.heap.size w wr L → P10 wr := fun wr L h => hP.below (Nat.le_refl _) h.below
  have hDd : ∀ wr L, Ats w.heap.size w wr L → DB wr := fun wr L h => hD.below (Nat.le_refl _) h.below
  have HPd := Lib.hid hPd
  have HDd := Lib.hid hDd
  have H1 := Lib.hid h1
  have H2 := Lib.hid h2
  clear hPd hDd h1 h2 hP hD hz0 hz
  obtain ⟨T, hT⟩ : ∃ T, T = textA f ip z := ⟨_, rfl⟩
  have hT' : T = if f = 4 then quadI ip else if f = 6 then textC ip z else [] := hT
  rw [← hT]
  clear hT
  rcases fam3 f with rfl | rfl | hn
  · rw [if_pos rfl] at hT'
    have HT := Lib.hid hT'
    clear hT'
    go_enter Tryz.func10, Tryz.ntmps10
    go_wp2_with (first
      | ((with_reducible show wpList _ _ _ (Oper.mk _ (Op.box _ _) _ _ _ _ :: _) _ _); refine wpList_boxS rfl _ _ rfl (adCs 4 ip z).toArray rfl S ?_; clear S; intro ga w1 S)
      | ((with_reducible refine (H1.out _ (HPd.out _ _ S)).mono ?_); rintro e w2 ⟨rfl, hb⟩; have S := S.call hb; clear hb)
      | ((with_reducible show wpList _ _ _ (Oper.mk _ (Op.load _ _) _ _ _ _ :: _) _ _); refine wpList_loadS rfl _ _ rfl S _ rfl 0 _ _ rfl _ Tryz.underlying24 rfl (adSize _ _ _ hip) ?_)
      | ((with_reducible show wpList _ _ _ (Oper.mk _ (Op.load _ _) _ _ _ _ :: _) _ _); refine wpList_cellS rfl _ _ rfl S _ _ rfl 0 _ _ rfl _ Tryz.underlying3 rfl _ (by with_reducible exact hf) ?_))
    go_ret
    exact ⟨by rw [HT.out]; rfl, S.below⟩
  · rw [if_neg (by decide), if_pos rfl] at hT'
    have HT := Lib.hid hT'
    clear hT'
    go_enter Tryz.func10, Tryz.ntmps10
    go_wp2_with (first
      | ((with_reducible show wpList _ _ _ (Oper.mk _ (Op.box _ _) _ _ _ _ :: _) _ _); refine wpList_boxS rfl _ _ rfl (adCs 6 ip z).toArray rfl S ?_; clear S; intro ga w1 S)
      | ((with_reducible refine (H2.out _ (HPd.out _ _ S) (HDd.out _ _ S)).mono ?_); rintro e w2 ⟨rfl, hb⟩; have S := S.call hb; clear hb)
      | ((with_reducible show wpList _ _ _ (Oper.mk _ (Op.load _ _) _ _ _ _ :: _) _ _); refine wpList_loadS rfl _ _ rfl S _ rfl 0 _ _ rfl _ Tryz.underlying24 rfl (adSize _ _ _ hip) ?_)
      | ((with_reducible show wpList _ _ _ (Oper.mk _ (Op.load _ _) _ _ _ _ :: _) _ _); refine wpList_cellS rfl _ _ rfl S _ _ rfl 0 _ _ rfl _ Tryz.underlying3 rfl _ (by with_reducible exact hf) ?_))
    go_ret
    exact ⟨by rw [HT.out]; rfl, S.below⟩
  · have h4 : (f == 4) = false := by simpa using hn.1
    have h6 : (f == 6) = false := by simpa using hn.2
    rw [if_neg hn.1, if_neg hn.2] at hT'
    subst hT'
    clear hn
    go_enter Tryz.func10, Tryz.ntmps10
    go_wp2_with (first
      | ((with_reducible show wpList _ _ _ (Oper.mk _ (Op.box _ _) _ _ _ _ :: _) _ _); refine wpList_boxS rfl _ _ rfl (adCs f ip z).toArray rfl S ?_; clear S; intro ga w1 S)
      | ((with_reducible show wpList _ _ _ (Oper.mk _ (Op.load _ _) _ _ _ _ :: _) _ _); refine wpList_cellS rfl _ _ rfl S _ _ rfl 0 _ _ rfl _ Tryz.underlying3 rfl _ (by with_reducible exact hf) ?_))
    go_ret
    exact ⟨rfl, S.below⟩
set_option maxHeartbeats 2000000 in
theorem aCheck_any (f z : Int) (ip : List UInt8) (w : World) (hip : ip.length = 16) :
    Calls Tryz.prog 6 #[adV f ip z] w fun e w' => e = .returned (.int .i64 (checkE f ip z)) ∧ Below w.heap.size w w' := by
  have S := Ats.start w
  have hf := ad_fam f z ip
  have hz := ad_zone f z ip hip
  have h1 := fun w => aBits_any f z ip w hip
  rcases fam3 f with rfl | rfl | hn
  · have h2 := fun w => of_any (ip.getD 0 0) (ip.getD 1 0) (ip.getD 2 0) (ip.getD 3 0) w
    have hN := ad_neq 4 4 z 0 ip (low4 ip) hip rfl
    rw [show quad16 (ip.getD 0 0) (ip.getD 1 0) (ip.getD 2 0) (ip.getD 3 0) = low4 ip from rfl] at h2
    have hG := ad_guard
    have c0 : (adCs 4 ip z).toArray[1]? = some (.int .u8 (ip.getD 0 0).toNat) := ad_at 4 z ip 0 hip (by decide)
    have c1 : (adCs 4 ip z).toArray[2]? = some (.int .u8 (ip.getD 1 0).toNat) := ad_at 4 z ip 1 hip (by decide)
    have c2 : (adCs 4 ip z).toArray[3]? = some (.int .u8 (ip.getD 2 0).toNat) := ad_at 4 z ip 2 hip (by decide)
    have c3 : (adCs 4 ip z).toArray[4]? = some (.int .u8 (ip.getD 3 0).toNat) := ad_at 4 z ip 3 hip (by decide)
    rw [show bitsF 4 = 32 from rfl] at h1
    obtain ⟨R, hR⟩ : ∃ R, R = checkE 4 ip z := ⟨_, rfl⟩
    have hR' : R = if ip = low4 ip ∧ z = 0 then 0 else 5 := hR
    rw [← hR]
    clear hR
    have ht : (!((4 : Int) == 4 && ip == low4 ip && z == 0)) = !(ip == low4 ip && z == 0) := by simp
    rw [ht] at hN
    obtain ⟨L4, hL⟩ : ∃ L4, L4 = low4 ip := ⟨_, rfl⟩
    obtain ⟨x0, hx0⟩ : ∃ x, x = ip.getD 0 0 := ⟨_, rfl⟩
    obtain ⟨x1, hx1⟩ : ∃ x, x = ip.getD 1 0 := ⟨_, rfl⟩
    obtain ⟨x2, hx2⟩ : ∃ x, x = ip.getD 2 0 := ⟨_, rfl⟩
    obtain ⟨x3, hx3⟩ : ∃ x, x = ip.getD 3 0 := ⟨_, rfl⟩
    rw [← hL] at h2 hN hR'
    rw [← hx0] at h2 c0
    rw [← hx1] at h2 c1
    rw [← hx2] at h2 c2
    rw [← hx3] at h2 c3
    obtain ⟨b, hb⟩ : ∃ b, b = (ip == L4 && z == 0) := ⟨_, rfl⟩
    rw [← hb] at hN
    have hz0 : b = true → z = 0 := by
      intro h
      rw [h] at hb
      have := hb.symm
      simp at this
      exact this.2
    have hRb : R = if b = true then 0 else 5 := by
      rw [hR', hb]
      simp
    have H1 := Lib.hid h1
    have H2 := Lib.hid h2
    clear h1 h2 hx0 hx1 hx2 hx3 hL hR' hb ht
    cases b with
    | true =>
      have hz0 := hz0 rfl
      rw [if_pos rfl] at hRb
      subst hz0
      have HR := Lib.hid hRb
      clear hRb
      rw [show (!true) = false from rfl] at hN
      go_enter Tryz.func6, Tryz.ntmps6
      go_wp2_with (first
        | ((with_reducible show wpList _ _ _ (Oper.mk _ (Op.box _ _) _ _ _ _ :: _) _ _); refine wpList_boxS rfl _ _ rfl (adCs 4 ip 0).toArray rfl S ?_; clear S; intro ga w1 S)
        | ((with_reducible refine (H1.out _).mono ?_); rintro e w2 ⟨rfl, hb⟩; have S := S.call hb; clear hb)
        | ((with_reducible show wpList _ _ _ (Oper.mk _ (Op.load _ _) _ _ _ _ :: _) _ _); refine wpList_loadS rfl _ _ rfl S _ rfl 0 _ _ rfl _ Tryz.underlying24 rfl (adSize _ _ _ hip) ?_))
      (try simp only [Act.put, List.setIfInBounds_toArray, List.set_cons_succ, List.set_cons_zero]); refine quietS_region (by kernel_rfl) (by kernel_rfl) S ?_
      repeat (first
        | go_big_quiet_skip
        | (go_big_quiet_want
           first
             | ((with_reducible show Oper.quiet _ (Oper.mk _ (Op.call { callee := Callee.value (Operand.func 29), args := _, argTypes := _ }) _ _ _ _) _ _ _); refine q_call 29 _ _ rfl (enters_of Tryz.func29 (by kernel_rfl) rfl) (fun w S => ((H2.out _).mono fun e w2 h => ⟨h.1, S.call h.2⟩)) (by simp [Act.eval]) ?_)
             | ((with_reducible show Oper.quiet _ (Oper.mk _ (Op.load _ (Operand.tmp 1)) _ _ _ _) _ _ _); refine q_loadS _ _ rfl _ rfl 0 _ _ rfl _ Tryz.underlying24 rfl (adSize _ _ _ hip) ?_)
             | ((with_reducible show Oper.quiet _ (Oper.mk _ (Op.load _ _) _ _ _ _) _ _ _); refine q_cellS _ _ rfl _ _ rfl 0 _ _ rfl _ Tryz.underlying3 rfl _ (by with_reducible exact hf) ?_)
             | ((with_reducible show Oper.quiet _ (Oper.mk _ (Op.load _ _) _ _ _ _) _ _ _); refine q_cellS _ _ rfl _ _ rfl 0 _ _ rfl _ Tryz.underlying5 rfl _ (by with_reducible exact c0) ?_)
             | ((with_reducible show Oper.quiet _ (Oper.mk _ (Op.load _ _) _ _ _ _) _ _ _); refine q_cellS _ _ rfl _ _ rfl 0 _ _ rfl _ Tryz.underlying5 rfl _ (by with_reducible exact c1) ?_)
             | ((with_reducible show Oper.quiet _ (Oper.mk _ (Op.load _ _) _ _ _ _) _ _ _); refine q_cellS _ _ rfl _ _ rfl 0 _ _ rfl _ Tryz.underlying5 rfl _ (by with_reducible exact c2) ?_)
             | ((with_reducible show Oper.quiet _ (Oper.mk _ (Op.load _ _) _ _ _ _) _ _ _); refine q_cellS _ _ rfl _ _ rfl 0 _ _ rfl _ Tryz.underlying5 rfl _ (by with_reducible exact c3) ?_)
             | (refine q_pure (v := ?_) ?_ ?_; rotate_left; focus (intro w; go_simp; try with_reducible rfl))
           (simp only [Act.put, List.setIfInBounds_toArray, List.set_cons_succ, List.set_cons_zero]; go_big_quiet_on)))
      (refine wpQuiet_nil ?_; clear S; intro w1 S)
      go_wp2_with (first
        | ((with_reducible show wpList _ _ _ (Oper.mk _ (Op.load _ _) _ _ _ _ :: _) _ _); refine wpList_cellS rfl _ _ rfl S _ _ rfl 0 _ _ rfl _ Tryz.underlying3 rfl _ (by with_reducible exact hz) ?_))
      go_ret
      exact ⟨by rw [HR.out]; rfl, S.below⟩
    | false =>
      rw [if_neg (by decide)] at hRb
      have HR := Lib.hid hRb
      clear hRb hz0
      rw [show (!false) = true from rfl] at hN
      go_enter Tryz.func6, Tryz.ntmps6
      go_wp2_with (first
        | ((with_reducible show wpList _ _ _ (Oper.mk _ (Op.box _ _) _ _ _ _ :: _) _ _); refine wpList_boxS rfl _ _ rfl (adCs 4 ip z).toArray rfl S ?_; clear S; intro ga w1 S)
        | ((with_reducible refine (H1.out _).mono ?_); rintro e w2 ⟨rfl, hb⟩; have S := S.call hb; clear hb)
        | ((with_reducible show wpList _ _ _ (Oper.mk _ (Op.load _ _) _ _ _ _ :: _) _ _); refine wpList_loadS rfl _ _ rfl S _ rfl 0 _ _ rfl _ Tryz.underlying24 rfl (adSize _ _ _ hip) ?_))
      (try simp only [Act.put, List.setIfInBounds_toArray, List.set_cons_succ, List.set_cons_zero]); refine quietS_region (by kernel_rfl) (by kernel_rfl) S ?_
      repeat (first
        | go_big_quiet_skip
        | (go_big_quiet_want
           first
             | ((with_reducible show Oper.quiet _ (Oper.mk _ (Op.call { callee := Callee.value (Operand.func 29), args := _, argTypes := _ }) _ _ _ _) _ _ _); refine q_call 29 _ _ rfl (enters_of Tryz.func29 (by kernel_rfl) rfl) (fun w S => ((H2.out _).mono fun e w2 h => ⟨h.1, S.call h.2⟩)) (by simp [Act.eval]) ?_)
             | ((with_reducible show Oper.quiet _ (Oper.mk _ (Op.load _ (Operand.tmp 1)) _ _ _ _) _ _ _); refine q_loadS _ _ rfl _ rfl 0 _ _ rfl _ Tryz.underlying24 rfl (adSize _ _ _ hip) ?_)
             | ((with_reducible show Oper.quiet _ (Oper.mk _ (Op.load _ _) _ _ _ _) _ _ _); refine q_cellS _ _ rfl _ _ rfl 0 _ _ rfl _ Tryz.underlying3 rfl _ (by with_reducible exact hf) ?_)
             | ((with_reducible show Oper.quiet _ (Oper.mk _ (Op.load _ _) _ _ _ _) _ _ _); refine q_cellS _ _ rfl _ _ rfl 0 _ _ rfl _ Tryz.underlying5 rfl _ (by with_reducible exact c0) ?_)
             | ((with_reducible show Oper.quiet _ (Oper.mk _ (Op.load _ _) _ _ _ _) _ _ _); refine q_cellS _ _ rfl _ _ rfl 0 _ _ rfl _ Tryz.underlying5 rfl _ (by with_reducible exact c1) ?_)
             | ((with_reducible show Oper.quiet _ (Oper.mk _ (Op.load _ _) _ _ _ _) _ _ _); refine q_cellS _ _ rfl _ _ rfl 0 _ _ rfl _ Tryz.underlying5 rfl _ (by with_reducible exact c2) ?_)
             | ((with_reducible show Oper.quiet _ (Oper.mk _ (Op.load _ _) _ _ _ _) _ _ _); refine q_cellS _ _ rfl _ _ rfl 0 _ _ rfl _ Tryz.underlying5 rfl _ (by with_reducible exact c3) ?_)
             | (refine q_pure (v := ?_) ?_ ?_; rotate_left; focus (intro w; go_simp; try with_reducible rfl))
           (simp only [Act.put, List.setIfInBounds_toArray, List.set_cons_succ, List.set_cons_zero]; go_big_quiet_on)))
      (refine wpQuiet_nil ?_; clear S; intro w1 S)
      go_wp2_with fail
      go_ret
      exact ⟨by rw [HR.out]; rfl, S.below⟩
  · rw [show bitsF 6 = 128 from rfl] at h1
    have H1 := Lib.hid h1
    clear h1
    obtain ⟨R, hR⟩ : ∃ R, R = checkE 6 ip z := ⟨_, rfl⟩
    have hR' : R = if z < 0 ∨ 2147483647 < z then 4 else 0 := hR
    rw [← hR]
    clear hR
    by_cases z0 : z < 0
    · rw [if_pos (.inl z0)] at hR'
      have d0 : decide (z < 0) = true := decide_eq_true z0
      subst hR'
      clear z0
      go_enter Tryz.func6, Tryz.ntmps6
      go_wp2_with (first
        | ((with_reducible show wpList _ _ _ (Oper.mk _ (Op.box _ _) _ _ _ _ :: _) _ _); refine wpList_boxS rfl _ _ rfl (adCs 6 ip z).toArray rfl S ?_; clear S; intro ga w1 S)
        | ((with_reducible refine (H1.out _).mono ?_); rintro e w2 ⟨rfl, hb⟩; have S := S.call hb; clear hb)
        | ((with_reducible show wpList _ _ _ (Oper.mk _ (Op.load _ _) _ _ _ _ :: _) _ _); refine wpList_loadS rfl _ _ rfl S _ rfl 0 _ _ rfl _ Tryz.underlying24 rfl (adSize _ _ _ hip) ?_))
      (try simp only [Act.put, List.setIfInBounds_toArray, List.set_cons_succ, List.set_cons_zero]); refine quietS_region (by kernel_rfl) (by kernel_rfl) S ?_
      repeat (first
        | go_big_quiet_skip
        | (go_big_quiet_want
           first
             | ((with_reducible show Oper.quiet _ (Oper.mk _ (Op.load _ _) _ _ _ _) _ _ _); refine q_cellS _ _ rfl _ _ rfl 0 _ _ rfl _ Tryz.underlying3 rfl _ (by with_reducible exact hf) ?_)
             | (refine q_pure (v := ?_) ?_ ?_; rotate_left; focus (intro w; go_simp; try with_reducible rfl))
           (simp only [Act.put, List.setIfInBounds_toArray, List.set_cons_succ, List.set_cons_zero]; go_big_quiet_on)))
      (refine wpQuiet_nil ?_; clear S; intro w1 S)
      go_wp2_with (first
        | ((with_reducible show wpList _ _ _ (Oper.mk _ (Op.load _ _) _ _ _ _ :: _) _ _); refine wpList_cellS rfl _ _ rfl S _ _ rfl 0 _ _ rfl _ Tryz.underlying3 rfl _ (by with_reducible exact hz) ?_))
      go_ret
      exact ⟨rfl, S.below⟩
    · have d0 : decide (z < 0) = false := decide_eq_false z0
      by_cases z1 : 2147483647 < z
      · rw [if_pos (.inr z1)] at hR'
        have d1 : decide (2147483647 < z) = true := decide_eq_true z1
        subst hR'
        clear z0 z1
        go_enter Tryz.func6, Tryz.ntmps6
        go_wp2_with (first
          | ((with_reducible show wpList _ _ _ (Oper.mk _ (Op.box _ _) _ _ _ _ :: _) _ _); refine wpList_boxS rfl _ _ rfl (adCs 6 ip z).toArray rfl S ?_; clear S; intro ga w1 S)
          | ((with_reducible refine (H1.out _).mono ?_); rintro e w2 ⟨rfl, hb⟩; have S := S.call hb; clear hb)
          | ((with_reducible show wpList _ _ _ (Oper.mk _ (Op.load _ _) _ _ _ _ :: _) _ _); refine wpList_loadS rfl _ _ rfl S _ rfl 0 _ _ rfl _ Tryz.underlying24 rfl (adSize _ _ _ hip) ?_))
        (try simp only [Act.put, List.setIfInBounds_toArray, List.set_cons_succ, List.set_cons_zero]); refine quietS_region (by kernel_rfl) (by kernel_rfl) S ?_
        repeat (first
          | go_big_quiet_skip
          | (go_big_quiet_want
             first
               | ((with_reducible show Oper.quiet _ (Oper.mk _ (Op.load _ _) _ _ _ _) _ _ _); refine q_cellS _ _ rfl _ _ rfl 0 _ _ rfl _ Tryz.underlying3 rfl _ (by with_reducible exact hf) ?_)
               | (refine q_pure (v := ?_) ?_ ?_; rotate_left; focus (intro w; go_simp; try with_reducible rfl))
             (simp only [Act.put, List.setIfInBounds_toArray, List.set_cons_succ, List.set_cons_zero]; go_big_quiet_on)))
        (refine wpQuiet_nil ?_; clear S; intro w1 S)
        go_wp2_with (first
          | ((with_reducible show wpList _ _ _ (Oper.mk _ (Op.load _ _) _ _ _ _ :: _) _ _); refine wpList_cellS rfl _ _ rfl S _ _ rfl 0 _ _ rfl _ Tryz.underlying3 rfl _ (by with_reducible exact hz) ?_))
        go_ret
        exact ⟨rfl, S.below⟩
      · rw [if_neg (fun h => h.elim z0 z1)] at hR'
        have d1 : decide (2147483647 < z) = false := decide_eq_false z1
        subst hR'
        clear z0 z1
        go_enter Tryz.func6, Tryz.ntmps6
        go_wp2_with (first
          | ((with_reducible show wpList _ _ _ (Oper.mk _ (Op.box _ _) _ _ _ _ :: _) _ _); refine wpList_boxS rfl _ _ rfl (adCs 6 ip z).toArray rfl S ?_; clear S; intro ga w1 S)
          | ((with_reducible refine (H1.out _).mono ?_); rintro e w2 ⟨rfl, hb⟩; have S := S.call hb; clear hb)
          | ((with_reducible show wpList _ _ _ (Oper.mk _ (Op.load _ _) _ _ _ _ :: _) _ _); refine wpList_loadS rfl _ _ rfl S _ rfl 0 _ _ rfl _ Tryz.underlying24 rfl (adSize _ _ _ hip) ?_))
        (try simp only [Act.put, List.setIfInBounds_toArray, List.set_cons_succ, List.set_cons_zero]); refine quietS_region (by kernel_rfl) (by kernel_rfl) S ?_
        repeat (first
          | go_big_quiet_skip
          | (go_big_quiet_want
             first
               | ((with_reducible show Oper.quiet _ (Oper.mk _ (Op.load _ _) _ _ _ _) _ _ _); refine q_cellS _ _ rfl _ _ rfl 0 _ _ rfl _ Tryz.underlying3 rfl _ (by with_reducible exact hf) ?_)
               | (refine q_pure (v := ?_) ?_ ?_; rotate_left; focus (intro w; go_simp; try with_reducible rfl))
             (simp only [Act.put, List.setIfInBounds_toArray, List.set_cons_succ, List.set_cons_zero]; go_big_quiet_on)))
        (refine wpQuiet_nil ?_; clear S; intro w1 S)
        go_wp2_with (first
          | ((with_reducible show wpList _ _ _ (Oper.mk _ (Op.load _ _) _ _ _ _ :: _) _ _); refine wpList_cellS rfl _ _ rfl S _ _ rfl 0 _ _ rfl _ Tryz.underlying3 rfl _ (by with_reducible exact hz) ?_))
        go_ret
        exact ⟨rfl, S.below⟩
  · have h4 : (f == 4) = false := by simpa using hn.1
    have h6 : (f == 6) = false := by simpa using hn.2
    rw [bitsF_no hn] at h1
    have H1 := Lib.hid h1
    have hR : checkE f ip z = 10 := by unfold checkE; rw [if_neg hn.1, if_neg hn.2]
    rw [hR]
    clear hn h1 hR
    go_enter Tryz.func6, Tryz.ntmps6
    go_wp2_with (first
      | ((with_reducible show wpList _ _ _ (Oper.mk _ (Op.box _ _) _ _ _ _ :: _) _ _); refine wpList_boxS rfl _ _ rfl (adCs f ip z).toArray rfl S ?_; clear S; intro ga w1 S)
      | ((with_reducible refine (H1.out _).mono ?_); rintro e w2 ⟨rfl, hb⟩; have S := S.call hb; clear hb)
      | ((with_reducible show wpList _ _ _ (Oper.mk _ (Op.load _ _) _ _ _ _ :: _) _ _); refine wpList_loadS rfl _ _ rfl S _ rfl 0 _ _ rfl _ Tryz.underlying24 rfl (adSize _ _ _ hip) ?_))
    go_ret
    exact ⟨rfl, S.below⟩
end Go.Proofs.YthbdeafbdmbabaaGreatDoor
namespace Go.Proofs.YthbdeafbdmbabaaGreatDoor
open Go.RowKit Go
set_option linter.unusedVariables false
set_option maxRecDepth 100000
/-- 'copy(d, s)' onto a block that is known, in a region that draws its order -/
theorem step_copyS {P : Program} {ops : Array Oper} {o : Oper} {a : Act} {w : World} {K : Act → World → Prop} {Q : Exit → Act → World → Prop} {E : Prop} {B : Nat} {w0 : World} {L : List (Nat × TypeId × Array Value)} (hgd : o.guard = none) (d s : Operand) (dT sT : TypeId)
    (ho : o.op = .call { callee := .builtin .copy, args := #[d, s], argTypes := #[dT, sT] }) (elem : TypeId) (hu : P.underlying dT = some (.slice elem)) (hsz : (P.info? elem).map (·.size) = some 1) (S : Ats B w0 w L) (i g : Nat) (t : TypeId) (cur : List Value)
    (hi : L[i]? = some (g, t, cur.toArray)) (off dLen dCap : Nat) (ad : Addr) (sLen sCap : Nat) (hd : a.eval d = .slice (some ⟨g, off, none⟩) dLen dCap) (hs : a.eval s = .slice (some ad) sLen sCap)
    (cs : List Value) (hn : cs.length = Nat.min sLen dLen) (hsrc : ∀ j v, cs[j]? = some v → w.cell? (ad.add j) = some v) (hfit : off + cs.length ≤ cur.length) (h1 : ∀ v ∈ cs, v.oneCell' = true)
    (h : ∀ w', Ats B w0 w' (L.set i (g, t, (splice cur off cs).toArray)) → K (a.put o.dst (goInt cs.length)) w') :
    if Region.wanted o (yielded ops a.tmps) = true then Oper.wp P o a w K Q else E :=
  step_copy_at hgd d s dT sT ho elem hu hsz g off dLen dCap ad sLen sCap hd hs cur t (S.get hi) cs hn hsrc hfit h1 fun w' ha hg => h w' (S.grow hi hg ha.out)
theorem slice16_1all (g : Nat) (w : World) : (Instr.sliceAt 22 (.pointer (some ⟨g, 1, none⟩)) none none none).run Tryz.prog w = .ok (.slice (some ⟨g, 1, none⟩) 16 16) w := by
  have ha : Tryz.prog.arrayLen 22 = 16 := by kernel_rfl
  have he : Tryz.prog.elem 22 = 5 := by kernel_rfl
  rw [run_sliceAt_array_all w 22 _ (by kernel_rfl), he, Tryz.sizeOf5]
  simp [slicedAt, ha, Result.andThen, Addr.add]
theorem slice16_1l (g : Nat) (w : World) : (Instr.sliceAt 22 (.pointer (some ⟨g, 1, none⟩)) (some (.int .i64 12)) none none).run Tryz.prog w = .ok (.slice (some ⟨g, 13, none⟩) 4 4) w := by
  have ha : Tryz.prog.arrayLen 22 = 16 := by kernel_rfl
  have he : Tryz.prog.elem 22 = 5 := by kernel_rfl
  rw [run_sliceAt_array_l w 22 _ (by kernel_rfl) .i64 12 (by omega) (by rw [ha]; omega), he, Tryz.sizeOf5]
  simp [slicedAt, ha, Result.andThen, Addr.add]
def four4 (a b c d : UInt8) : List Value := [cellU a, cellU b, cellU c, cellU d]
theorem four4_one (a b c d : UInt8) : ∀ v ∈ four4 a b c d, v.oneCell' = true := by
  intro v hv
  simp only [four4, List.mem_cons, List.not_mem_nil, or_false] at hv
  rcases hv with rfl | rfl | rfl | rfl <;> rfl
theorem four4_src {w : World} {g t : Nat} {f z : Int} {ip : List UInt8} (A : At w g t (adCs f ip z).toArray) (k : Nat) (hip : ip.length = 16) (hk : k + 4 ≤ 16) :
    ∀ j v, (four4 (ip.getD k 0) (ip.getD (k + 1) 0) (ip.getD (k + 2) 0) (ip.getD (k + 3) 0))[j]? = some v → w.cell? ((⟨g, 1 + k, none⟩ : Addr).add j) = some v := by
  intro j v hv
  rw [Go.WideShapes.add_plain]
  have key : ∀ i, i < 16 → w.cell? ⟨g, 1 + i, none⟩ = some (cellU (ip.getD i 0)) := fun i hi => A.cells _ (ad_at f z ip i hip hi)
  match j, hv with
  | 0, hv => injection hv with hv; subst hv; exact key k (by omega)
  | 1, hv => injection hv with hv; subst hv; exact key (k + 1) (by omega)
  | 2, hv => injection hv with hv; subst hv; exact key (k + 2) (by omega)
  | 3, hv => injection hv with hv; subst hv; exact key (k + 3) (by omega)
  | n + 4, hv => cases hv
theorem mapE_no {f : Int} (ip : List UInt8) (z : Int) (h : f ≠ 4) : mapE f ip z = ⟨f, ip, z⟩ := by unfold mapE; rw [if_neg h]
set_option maxHeartbeats 2000000 in
theorem aMap_any (f z : Int) (ip : List UInt8) (w : World) (hip : ip.length = 16) :
    Calls Tryz.prog 12 #[adV f ip z] w fun e w' => e = .returned (adV (mapE f ip z).fam (mapE f ip z).ip (mapE f ip z).zone) ∧ Below w.heap.size w w' := by
  have S := Ats.start w
  have hf := ad_fam f z ip
  by_cases h4 : f = 4
  · subst h4
    have hsa := slice16_1l
    have hsb := slice16_4
    have hm : mapE 4 ip z = ⟨6, map4 ip, 0⟩ := rfl
    rw [hm]
    clear hm
    have hm16 : (adCs 6 (map16 0 0 0 0) 0).length = 18 := rfl
    go_enter Tryz.func12, Tryz.ntmps12
    go_wp2_with (first
      | ((with_reducible show wpList _ _ _ (Oper.mk _ (Op.box _ _) _ _ _ _ :: _) _ _); refine wpList_boxS rfl _ _ rfl (adCs 4 ip z).toArray rfl S ?_; clear S; intro ga w1 S)
      | ((with_reducible show wpList _ _ _ (Oper.mk (some 2) (Op.alloc _) _ _ _ _ :: _) _ _); refine wpList_allocS rfl _ rfl _ adZero S ?_; clear S; intro gr w1 S)
      | ((with_reducible show wpList _ _ _ (Oper.mk (some 3) (Op.alloc _) _ _ _ _ :: _) _ _); refine wpList_allocS rfl _ rfl _ adZero S ?_; clear S; intro gl w1 S)
      | ((with_reducible show wpList _ _ _ (Oper.mk _ (Op.load _ _) _ _ _ _ :: _) _ _); refine wpList_cellS rfl _ _ rfl S _ _ rfl 1 _ _ rfl _ Tryz.underlying3 rfl _ (by with_reducible exact hf) ?_)
      | ((with_reducible show wpList _ _ _ (Oper.mk _ (Op.store _ (Operand.tmp 3) _) _ _ _ _ :: _) _ _); refine wpList_storeS rfl _ _ _ rfl S _ rfl _ rfl 0 _ _ rfl adInfo (by rfl) (by simp [Value.oneCell']) ?_; clear S; intro w1 S; (first | simp only [List.set_cons_zero] at S | simp only [List.set_cons_succ, List.set_cons_zero] at S | skip)))
    have S : Ats w.heap.size w w1 [(gl, 24, (adCs 6 (map16 0 0 0 0) 0).toArray), (gr, 24, (adCs 0 zero16 0).toArray), (ga, 24, (adCs 4 ip z).toArray)] := S
    go_region_law (refine step_copyS rfl _ _ 46 46 rfl 5 Tryz.underlying46 u8Size S.drew 0 gl 24 (adCs 6 (map16 0 0 0 0) 0) rfl 13 4 4 ⟨ga, 1, none⟩ 4 16 (by simp [Act.eval, Act.put]) (by simp [Act.eval, Act.put]) (four4 (ip.getD 0 0) (ip.getD 1 0) (ip.getD 2 0) (ip.getD 3 0)) rfl (four4_src (S.drew.get (i := 2) rfl) 0 hip (by decide)) (by show 13 + 4 ≤ 18; decide) (four4_one _ _ _ _) ?_; clear S; intro w2 S)
    have S : Ats w.heap.size w w2 [(gl, 24, (adCs 6 (map4 ip) 0).toArray), (gr, 24, (adCs 0 zero16 0).toArray), (ga, 24, (adCs 4 ip z).toArray)] := S
    go_wp2_with (first
      | ((with_reducible show wpList _ _ _ (Oper.mk _ (Op.load _ (Operand.tmp 3)) _ _ _ _ :: _) _ _); refine wpList_loadS rfl _ _ rfl S _ rfl 0 _ _ rfl _ Tryz.underlying24 rfl adInfo ?_)
      | ((with_reducible show wpList _ _ _ (Oper.mk _ (Op.store _ (Operand.tmp 2) _) _ _ _ _ :: _) _ _); refine wpList_storeS rfl _ _ _ rfl S _ rfl _ rfl 1 _ _ rfl adInfo (by rfl) (by exact adCs_one _ _ _) ?_; clear S; intro w1 S; (first | simp only [List.set_cons_zero] at S | simp only [List.set_cons_succ, List.set_cons_zero] at S | skip)))
    exact bodyPost_ret (results_cellS rfl _ S _ 1 _ _ _ rfl rfl Tryz.underlying24 rfl adInfo) rfl ⟨rfl, S.below⟩
  · have t4 : (f != 4) = true := by simpa using h4
    rw [mapE_no ip z h4]
    have has := adSize f ip z hip
    clear h4
    go_enter Tryz.func12, Tryz.ntmps12
    go_wp2_with (first
      | ((with_reducible show wpList _ _ _ (Oper.mk _ (Op.box _ _) _ _ _ _ :: _) _ _); refine wpList_boxS rfl _ _ rfl (adCs f ip z).toArray rfl S ?_; clear S; intro ga w1 S)
      | ((with_reducible show wpList _ _ _ (Oper.mk (some 2) (Op.alloc _) _ _ _ _ :: _) _ _); refine wpList_allocS rfl _ rfl _ adZero S ?_; clear S; intro gr w1 S)
      | ((with_reducible show wpList _ _ _ (Oper.mk _ (Op.load _ _) _ _ _ _ :: _) _ _); refine wpList_cellS rfl _ _ rfl S _ _ rfl 1 _ _ rfl _ Tryz.underlying3 rfl _ (by with_reducible exact hf) ?_)
      | ((with_reducible show wpList _ _ _ (Oper.mk _ (Op.load _ (Operand.tmp 1)) _ _ _ _ :: _) _ _); refine wpList_loadS rfl _ _ rfl S _ rfl 1 _ _ rfl _ Tryz.underlying24 rfl has ?_)
      | ((with_reducible show wpList _ _ _ (Oper.mk _ (Op.store _ (Operand.tmp 2) _) _ _ _ _ :: _) _ _); refine wpList_storeS rfl _ _ _ rfl S _ rfl _ rfl 0 _ _ rfl has (by exact ad_sizes _ _ _ _ _ _ rfl hip) (by exact adCs_one _ _ _) ?_; clear S; intro w1 S; (first | simp only [List.set_cons_zero] at S | simp only [List.set_cons_succ, List.set_cons_zero] at S | skip)))
    exact bodyPost_ret (results_cellS rfl _ S _ 0 _ _ _ rfl rfl Tryz.underlying24 rfl has) rfl ⟨rfl, S.below⟩
theorem unmapE_no {f : Int} (ip : List UInt8) (z : Int) (h : f ≠ 6) : unmapE f ip z = ⟨f, ip, z⟩ := by unfold unmapE; rw [if_neg (fun e => h e.1)]
theorem ad_field {a : Act} {o : Oper} (f z : Int) (ip : List UInt8) (hip : ip.length = 16) (x : Operand) (ho : o.op = .field 24 x 1) (hx : a.eval x = adV f ip z) (w : World) : (execOp a.eval o).run Tryz.prog w = .ok (.value (.agg (ip.map cellU).toArray)) w := by
  have hp := ad_part1 f z ip hip w
  have hr := run_underlying (P := Tryz.prog) Tryz.underlying24 w
  unfold execOp
  simp only [ho, hx, Instr.field, Sem.run_bind, hr, Result.andThen_ok, asAgg, Sem.run_pure]
  simp [hp]
set_option maxHeartbeats 4000000 in
theorem aUnmap_any (f z : Int) (ip : List UInt8) (w : World) (hip : ip.length = 16) :
    Calls Tryz.prog 14 #[adV f ip z] w fun e w' => e = .returned (adV (unmapE f ip z).fam (unmapE f ip z).ip (unmapE f ip z).zone) ∧ Below w.heap.size w w' := by
  have S := Ats.start w
  have hf := ad_fam f z ip
  by_cases h6 : f = 6
  · subst h6
    have hsa := slice16_1l
    have hsb := slice16_1all
    have hm := fun w => aMap_any 4 0 (top4 ip) w rfl
    have hN := fun w => ip_neq w (map4 (top4 ip)) ip rfl hip
    have hG := ip_guard
    have hin : (Tryz.prog.info? 22).map (·.size) = some (ip.map cellU).length := by rw [z16Size]; simp [hip]
    have hcl := ip_cells 6 z ip
    have has := adSize 6 ip z hip
    rw [show mapE 4 (top4 ip) 0 = ⟨6, map4 (top4 ip), 0⟩ from rfl] at hm
    simp only at hm
    have hU : unmapE 6 ip z = if ip = map4 (top4 ip) then ⟨4, top4 ip, 0⟩ else ⟨6, ip, z⟩ := by unfold unmapE; simp
    obtain ⟨U, hU'⟩ : ∃ U, U = unmapE 6 ip z := ⟨_, rfl⟩
    rw [← hU'] at hU ⊢
    obtain ⟨M, hM⟩ : ∃ M, M = map4 (top4 ip) := ⟨_, rfl⟩
    rw [← hM] at hm hN hU
    have hMl : M.length = 16 := by rw [hM]; rfl
    have HM := Lib.hid hm
    clear hm hU' hM
    by_cases he : ip = M
    · rw [if_pos he] at hU
      have hb : (!(M == ip)) = false := by simpa using he.symm
      rw [hb] at hN
      subst hU
      clear he hb
      go_enter Tryz.func14, Tryz.ntmps14
      go_wp2_with (first
        | ((with_reducible show wpList _ _ _ (Oper.mk _ (Op.box _ _) _ _ _ _ :: _) _ _); refine wpList_boxS rfl _ _ rfl (adCs 6 ip z).toArray rfl S ?_; clear S; intro ga w1 S)
        | ((with_reducible show wpList _ _ _ (Oper.mk (some 2) (Op.alloc _) _ _ _ _ :: _) _ _); refine wpList_allocS rfl _ rfl _ adZero S ?_; clear S; intro gr w1 S)
        | ((with_reducible show wpList _ _ _ (Oper.mk (some 3) (Op.alloc _) _ _ _ _ :: _) _ _); refine wpList_allocS rfl _ rfl _ adZero S ?_; clear S; intro gl w1 S)
        | ((with_reducible show wpList _ _ _ (Oper.mk _ (Op.load _ _) _ _ _ _ :: _) _ _); refine wpList_cellS rfl _ _ rfl S _ _ rfl 1 _ _ rfl _ Tryz.underlying3 rfl _ (by with_reducible exact hf) ?_)
        | ((with_reducible show wpList _ _ _ (Oper.mk _ (Op.store _ (Operand.tmp 3) _) _ _ _ _ :: _) _ _); refine wpList_storeS rfl _ _ _ rfl S _ rfl _ rfl 0 _ _ rfl adInfo (by rfl) (by simp [Value.oneCell']) ?_; clear S; intro w1 S; (first | simp only [List.set_cons_zero] at S | simp only [List.set_cons_succ, List.set_cons_zero] at S | skip)))
      have S : Ats w.heap.size w w1 [(gl, 24, (adCs 4 zero16 0).toArray), (gr, 24, (adCs 0 zero16 0).toArray), (ga, 24, (adCs 6 ip z).toArray)] := S
      go_region_law (refine step_copyS rfl _ _ 46 46 rfl 5 Tryz.underlying46 u8Size S.drew 0 gl 24 (adCs 4 zero16 0) rfl 1 16 16 ⟨ga, 13, none⟩ 4 4 (by simp [Act.eval, Act.put]) (by simp [Act.eval, Act.put]) (four4 (ip.getD 12 0) (ip.getD 13 0) (ip.getD 14 0) (ip.getD 15 0)) rfl (four4_src (S.drew.get (i := 2) rfl) 12 hip (by decide)) (by show 1 + 4 ≤ 18; decide) (four4_one _ _ _ _) ?_; clear S; intro w2 S)
      have S : Ats w.heap.size w w2 [(gl, 24, (adCs 4 (top4 ip) 0).toArray), (gr, 24, (adCs 0 zero16 0).toArray), (ga, 24, (adCs 6 ip z).toArray)] := S
      go_wp2_with fail
      (try simp only [Act.put, List.setIfInBounds_toArray, List.set_cons_succ, List.set_cons_zero]); refine quietS_region (by kernel_rfl) (by kernel_rfl) S ?_
      repeat (first
        | go_big_quiet_skip
        | (go_big_quiet_want
           first
             | ((with_reducible show Oper.quiet _ (Oper.mk _ (Op.call { callee := Callee.value (Operand.func 12), args := _, argTypes := _ }) _ _ _ _) _ _ _); refine q_call 12 _ _ rfl (enters_of Tryz.func12 (by kernel_rfl) rfl) (fun w S => ((HM.out _).mono fun e w2 h => ⟨h.1, S.call h.2⟩)) (by simp [Act.eval]) ?_)
             | ((with_reducible show Oper.quiet _ (Oper.mk _ (Op.load _ (Operand.tmp 3)) _ _ _ _) _ _ _); refine q_loadS _ _ rfl _ rfl 0 _ _ rfl _ Tryz.underlying24 rfl adInfo ?_)
             | ((with_reducible show Oper.quiet _ (Oper.mk (some 16) _ _ _ _ _) _ _ _); refine q_pure (v := .agg (M.map cellU).toArray) (fun w => ad_field 6 0 M hMl (.tmp 15) rfl rfl w) ?_)
             | ((with_reducible show Oper.quiet _ (Oper.mk (some 18) (Op.load _ _) _ _ _ _) _ _ _); refine q_partS _ _ rfl _ _ rfl 2 _ _ rfl _ Tryz.underlying22 rfl (ip.map cellU) hin hcl ?_)
             | (refine q_pure (v := ?_) ?_ ?_; rotate_left; focus (intro w; go_simp; try with_reducible rfl))
           (simp only [Act.put, List.setIfInBounds_toArray, List.set_cons_succ, List.set_cons_zero]; go_big_quiet_on)))
      (refine wpQuiet_nil ?_; clear S; intro w1 S)
      go_wp2_with (first
        | ((with_reducible show wpList _ _ _ (Oper.mk _ (Op.load _ (Operand.tmp 3)) _ _ _ _ :: _) _ _); refine wpList_loadS rfl _ _ rfl S _ rfl 0 _ _ rfl _ Tryz.underlying24 rfl adInfo ?_)
        | ((with_reducible show wpList _ _ _ (Oper.mk _ (Op.store _ (Operand.tmp 2) _) _ _ _ _ :: _) _ _); refine wpList_storeS rfl _ _ _ rfl S _ rfl _ rfl 1 _ _ rfl adInfo (by rfl) (by exact adCs_one _ _ _) ?_; clear S; intro w1 S; (first | simp only [List.set_cons_zero] at S | simp only [List.set_cons_succ, List.set_cons_zero] at S | skip)))
      exact bodyPost_ret (results_cellS rfl _ S _ 1 _ _ _ rfl rfl Tryz.underlying24 rfl adInfo) rfl ⟨rfl, S.below⟩
    · rw [if_neg he] at hU
      have hb : (!(M == ip)) = true := by simpa using fun h => he h.symm
      rw [hb] at hN
      subst hU
      clear he hb
      go_enter Tryz.func14, Tryz.ntmps14
      go_wp2_with (first
        | ((with_reducible show wpList _ _ _ (Oper.mk _ (Op.box _ _) _ _ _ _ :: _) _ _); refine wpList_boxS rfl _ _ rfl (adCs 6 ip z).toArray rfl S ?_; clear S; intro ga w1 S)
        | ((with_reducible show wpList _ _ _ (Oper.mk (some 2) (Op.alloc _) _ _ _ _ :: _) _ _); refine wpList_allocS rfl _ rfl _ adZero S ?_; clear S; intro gr w1 S)
        | ((with_reducible show wpList _ _ _ (Oper.mk (some 3) (Op.alloc _) _ _ _ _ :: _) _ _); refine wpList_allocS rfl _ rfl _ adZero S ?_; clear S; intro gl w1 S)
        | ((with_reducible show wpList _ _ _ (Oper.mk _ (Op.load _ _) _ _ _ _ :: _) _ _); refine wpList_cellS rfl _ _ rfl S _ _ rfl 1 _ _ rfl _ Tryz.underlying3 rfl _ (by with_reducible exact hf) ?_)
        | ((with_reducible show wpList _ _ _ (Oper.mk _ (Op.store _ (Operand.tmp 3) _) _ _ _ _ :: _) _ _); refine wpList_storeS rfl _ _ _ rfl S _ rfl _ rfl 0 _ _ rfl adInfo (by rfl) (by simp [Value.oneCell']) ?_; clear S; intro w1 S; (first | simp only [List.set_cons_zero] at S | simp only [List.set_cons_succ, List.set_cons_zero] at S | skip)))
      have S : Ats w.heap.size w w1 [(gl, 24, (adCs 4 zero16 0).toArray), (gr, 24, (adCs 0 zero16 0).toArray), (ga, 24, (adCs 6 ip z).toArray)] := S
      go_region_law (refine step_copyS rfl _ _ 46 46 rfl 5 Tryz.underlying46 u8Size S.drew 0 gl 24 (adCs 4 zero16 0) rfl 1 16 16 ⟨ga, 13, none⟩ 4 4 (by simp [Act.eval, Act.put]) (by simp [Act.eval, Act.put]) (four4 (ip.getD 12 0) (ip.getD 13 0) (ip.getD 14 0) (ip.getD 15 0)) rfl (four4_src (S.drew.get (i := 2) rfl) 12 hip (by decide)) (by show 1 + 4 ≤ 18; decide) (four4_one _ _ _ _) ?_; clear S; intro w2 S)
      have S : Ats w.heap.size w w2 [(gl, 24, (adCs 4 (top4 ip) 0).toArray), (gr, 24, (adCs 0 zero16 0).toArray), (ga, 24, (adCs 6 ip z).toArray)] := S
      go_wp2_with fail
      (try simp only [Act.put, List.setIfInBounds_toArray, List.set_cons_succ, List.set_cons_zero]); refine quietS_region (by kernel_rfl) (by kernel_rfl) S ?_
      repeat (first
        | go_big_quiet_skip
        | (go_big_quiet_want
           first
             | ((with_reducible show Oper.quiet _ (Oper.mk _ (Op.call { callee := Callee.value (Operand.func 12), args := _, argTypes := _ }) _ _ _ _) _ _ _); refine q_call 12 _ _ rfl (enters_of Tryz.func12 (by kernel_rfl) rfl) (fun w S => ((HM.out _).mono fun e w2 h => ⟨h.1, S.call h.2⟩)) (by simp [Act.eval]) ?_)
             | ((with_reducible show Oper.quiet _ (Oper.mk _ (Op.load _ (Operand.tmp 3)) _ _ _ _) _ _ _); refine q_loadS _ _ rfl _ rfl 0 _ _ rfl _ Tryz.underlying24 rfl adInfo ?_)
             | ((with_reducible show Oper.quiet _ (Oper.mk (some 16) _ _ _ _ _) _ _ _); refine q_pure (v := .agg (M.map cellU).toArray) (fun w => ad_field 6 0 M hMl (.tmp 15) rfl rfl w) ?_)
             | ((with_reducible show Oper.quiet _ (Oper.mk (some 18) (Op.load _ _) _ _ _ _) _ _ _); refine q_partS _ _ rfl _ _ rfl 2 _ _ rfl _ Tryz.underlying22 rfl (ip.map cellU) hin hcl ?_)
             | (refine q_pure (v := ?_) ?_ ?_; rotate_left; focus (intro w; go_simp; try with_reducible rfl))
           (simp only [Act.put, List.setIfInBounds_toArray, List.set_cons_succ, List.set_cons_zero]; go_big_quiet_on)))
      (refine wpQuiet_nil ?_; clear S; intro w1 S)
      go_wp2_with (first
        | ((with_reducible show wpList _ _ _ (Oper.mk _ (Op.load _ (Operand.tmp 1)) _ _ _ _ :: _) _ _); refine wpList_loadS rfl _ _ rfl S _ rfl 2 _ _ rfl _ Tryz.underlying24 rfl has ?_)
        | ((with_reducible show wpList _ _ _ (Oper.mk _ (Op.store _ (Operand.tmp 2) _) _ _ _ _ :: _) _ _); refine wpList_storeS rfl _ _ _ rfl S _ rfl _ rfl 1 _ _ rfl has (by exact ad_sizes _ _ _ _ _ _ rfl hip) (by exact adCs_one _ _ _) ?_; clear S; intro w1 S; (first | simp only [List.set_cons_zero] at S | simp only [List.set_cons_succ, List.set_cons_zero] at S | skip)))
      exact bodyPost_ret (results_cellS rfl _ S _ 1 _ _ _ rfl rfl Tryz.underlying24 rfl has) rfl ⟨rfl, S.below⟩
  · have t6 : (f != 6) = true := by simpa using h6
    rw [unmapE_no ip z h6]
    have has := adSize f ip z hip
    clear h6
    go_enter Tryz.func14, Tryz.ntmps14
    go_wp2_with (first
      | ((with_reducible show wpList _ _ _ (Oper.mk _ (Op.box _ _) _ _ _ _ :: _) _ _); refine wpList_boxS rfl _ _ rfl (adCs f ip z).toArray rfl S ?_; clear S; intro ga w1 S)
      | ((with_reducible show wpList _ _ _ (Oper.mk (some 2) (Op.alloc _) _ _ _ _ :: _) _ _); refine wpList_allocS rfl _ rfl _ adZero S ?_; clear S; intro gr w1 S)
      | ((with_reducible show wpList _ _ _ (Oper.mk _ (Op.load _ _) _ _ _ _ :: _) _ _); refine wpList_cellS rfl _ _ rfl S _ _ rfl 1 _ _ rfl _ Tryz.underlying3 rfl _ (by with_reducible exact hf) ?_)
      | ((with_reducible show wpList _ _ _ (Oper.mk _ (Op.load _ (Operand.tmp 1)) _ _ _ _ :: _) _ _); refine wpList_loadS rfl _ _ rfl S _ rfl 1 _ _ rfl _ Tryz.underlying24 rfl has ?_)
      | ((with_reducible show wpList _ _ _ (Oper.mk _ (Op.store _ (Operand.tmp 2) _) _ _ _ _ :: _) _ _); refine wpList_storeS rfl _ _ _ rfl S _ rfl _ rfl 0 _ _ rfl has (by exact ad_sizes _ _ _ _ _ _ rfl hip) (by exact adCs_one _ _ _) ?_; clear S; intro w1 S; (first | simp only [List.set_cons_zero] at S | simp only [List.set_cons_succ, List.set_cons_zero] at S | skip)))
    exact bodyPost_ret (results_cellS rfl _ S _ 0 _ _ _ rfl rfl Tryz.underlying24 rfl has) rfl ⟨rfl, S.below⟩
end Go.Proofs.YthbdeafbdmbabaaGreatDoor
namespace Go.Proofs.YthbdeafbdmbabaaGreatDoor
open Go.RowKit Go
set_option linter.unusedVariables false
set_option maxRecDepth 100000
/-- an operation that only reckons -/
theorem wpList_val {P : Program} {ops : Array Oper} {rest : List Oper} {o : Oper} {a : Act} {Q : Exit → Act → World → Prop} {w : World} (hgd : Region.wanted o (yielded ops a.tmps) = true) {v : Value} (hv : (execOp a.eval o).run P w = .ok (.value v) w)
    (h : wpList P ops Q rest (a.put o.dst v) w) : wpList P ops Q (o :: rest) a w := by
  refine wpList_want hgd fun K hK => ?_
  have := hK _ _ h
  unfold Oper.wp
  rw [hv]
  simp only [Oper.upon_value]
  exact this
theorem str_index {a : Act} {o : Oper} (x i : Operand) (ho : o.op = .index 9 x i) (s : ByteArray) (hx : a.eval x = .string s) (c : Nat) (b : UInt8) (hi : a.eval i = .int .u8 c) (hb : s.data.toList[c]? = some b) (w : World) : (execOp a.eval o).run Tryz.prog w = .ok (.value (.int .u8 b.toNat)) w := by
  have h := run_index_string (P := Tryz.prog) (w := w) 9 s .u8 c Tryz.underlying9
  obtain ⟨hlt0, hbe⟩ := List.getElem?_eq_some_iff.1 hb
  have hlt : c < s.size := by simpa using hlt0
  have e : s[c] = b := hbe
  rw [dif_pos ⟨by omega, by omega⟩] at h
  unfold execOp
  simp only [ho, hx, hi, Sem.run_bind, h]
  simp [e]
def len8L : List UInt8 := (([0, 1, 2, 2, 3, 3, 3, 3, 4, 4, 4, 4, 4, 4, 4, 4, 5, 5, 5, 5, 5, 5, 5, 5, 5, 5, 5, 5, 5, 5, 5, 5, 6, 6, 6, 6, 6, 6, 6, 6, 6, 6, 6, 6, 6, 6, 6, 6, 6, 6, 6, 6, 6, 6, 6, 6, 6, 6, 6, 6, 6, 6, 6, 6].append (List.replicate 64 7)).append (List.replicate 128 8))
def len8N (n : Nat) : Nat := 8 - lz8 n
theorem len8_at : ∀ c : Fin 256, len8L[c.val]? = some (UInt8.ofNat (len8N c.val)) := by decide +kernel
theorem len8_le : ∀ c : Fin 256, (UInt8.ofNat (len8N c.val)).toNat = len8N c.val ∧ len8N c.val ≤ 8 ∧ lz8 c.val = 8 - len8N c.val := by decide +kernel
set_option maxHeartbeats 1000000 in
theorem len8_any (c : UInt8) (w : World) : Calls Tryz.prog 100 #[.int .u8 c.toNat] w fun e w' => e = .returned (.int .i64 (len8N c.toNat)) ∧ w = w' := by
  have hT := len8_at ⟨c.toNat, UInt8.toNat_lt c⟩
  obtain ⟨h1, h2, _⟩ := len8_le ⟨c.toNat, UInt8.toNat_lt c⟩
  simp only at hT h1 h2
  obtain ⟨b, hb⟩ : ∃ b, b = UInt8.ofNat (len8N c.toNat) := ⟨_, rfl⟩
  rw [← hb] at hT h1
  rw [← h1]
  have hbl := UInt8.toNat_lt b
  have HT := Lib.hid hT
  clear h1 h2 hb hT
  go_enter Tryz.func100, Tryz.ntmps100
  go_wp2_with (first
    | ((with_reducible show wpList _ _ _ (Oper.mk (some 4) _ _ _ _ _ :: _) _ _); refine wpList_val rfl (str_index _ (.tmp 3) rfl _ rfl c.toNat b rfl HT.out _) ?_))
  go_ret
  exact ⟨rfl, rfl⟩
set_option maxHeartbeats 1000000 in
theorem lead8_any (c : UInt8) (w : World) : Calls Tryz.prog 79 #[.int .u8 c.toNat] w fun e w' => e = .returned (.int .i64 (lz8 c.toNat)) ∧ w = w' := by
  obtain ⟨_, h2, h3⟩ := len8_le ⟨c.toNat, UInt8.toNat_lt c⟩
  simp only at h2 h3
  have h1 := fun w => len8_any c w
  have h5 : (8 - (len8N c.toNat : Int)) = (lz8 c.toNat : Nat) := by omega
  have h4 : IntKind.i64.wrap (8 - (len8N c.toNat : Int)) = (lz8 c.toNat : Nat) := by rw [IntWalk.i64_in _ (by omega)]; exact h5
  clear h5
  have H1 := Lib.hid h1
  clear h1 h3
  go_enter Tryz.func79, Tryz.ntmps79
  go_wp2_with ((with_reducible refine (H1.out _).mono ?_); rintro e w2 ⟨rfl, hq⟩; subst hq)
  go_ret
  exact ⟨rfl, rfl⟩
theorem comL_nil (b : List UInt8) : comL [] b = 0 := by unfold comL; rfl
/-- what is left to look at behind k bytes of m -/
def comK (a b : List UInt8) (m k : Nat) : Nat := 8 * k + comL ((a.take m).drop k) ((b.take m).drop k)
theorem comK_end (a b : List UInt8) (m : Nat) : comK a b m m = 8 * m := by
  unfold comK
  rw [List.drop_of_length_le (by rw [List.length_take]; omega), comL_nil]
  omega
theorem comK_step (a b : List UInt8) (m k : Nat) (ha : a.length = 16) (hb : b.length = 16) (hm : m ≤ 16) (hk : k < m) :
    comK a b m k = if a.getD k 0 = b.getD k 0 then comK a b m (k + 1) else 8 * k + lz8 (a.getD k 0 ^^^ b.getD k 0).toNat := by
  have key : ∀ l : List UInt8, l.length = 16 → (l.take m).drop k = l.getD k 0 :: (l.take m).drop (k + 1) := by
    intro l hl
    rw [List.drop_eq_getElem_cons (by rw [List.length_take]; omega), List.getElem_take, List.getD_eq_getElem?_getD, List.getElem?_eq_getElem (by omega)]
    rfl
  unfold comK
  rw [key a ha, key b hb, comL]
  split
  · omega
  · rfl
theorem xor_u8 (a b : UInt8) : bits BinOp.xor IntKind.u8 (a.toNat : Int) (b.toNat : Int) = ((a ^^^ b).toNat : Nat) := by
  rw [u8_xor_nat _ _ (UInt8.toNat_lt a) (UInt8.toNat_lt b), UInt8.toNat_xor]
theorem bits_div (f : Int) : ∃ m, m ≤ 16 ∧ bitsF f = 8 * m ∧ bitsF f / 8 = m := by
  rcases bitsF_cases f with h | h | h <;> rw [h]
  · exact ⟨4, by decide, rfl, rfl⟩
  · exact ⟨16, by decide, rfl, rfl⟩
  · exact ⟨0, by decide, rfl, rfl⟩
set_option maxHeartbeats 4000000 in
theorem aCommon_any (f z g y : Int) (ip jp : List UInt8) (w : World) (hip : ip.length = 16) (hjp : jp.length = 16) :
    Calls Tryz.prog 58 #[adV f ip z, adV g jp y] w fun e w' => e = .returned (.int .i64 (comE f g ip jp)) ∧ Below w.heap.size w w' := by
  have S := Ats.start w
  have hf := ad_fam f z ip
  have hg := ad_fam g y jp
  by_cases hfg : f = g
  · subst hfg
    obtain ⟨m, hm, hm8, hmd⟩ := bits_div f
    have h1 := fun w => aBits_any f z ip w hip
    have hE : comE f f ip jp = comK ip jp m 0 := by unfold comE comK; rw [if_pos rfl, hmd]; simp
    rw [hE, hm8] at *
    obtain ⟨R, hR⟩ : ∃ R, R = comK ip jp m 0 := ⟨_, rfl⟩
    rw [← hR]
    have hq : (((8 * m : Nat) : Int)).tdiv 8 = m := by rw [Int.tdiv_eq_ediv_of_nonneg (by omega)]; omega
    have hq2 : IntKind.i64.wrap (m : Int) = m := IntWalk.i64_in _ (by omega)
    have has := adSize f ip z hip
    have H1 := Lib.hid h1
    have HR := Lib.hid hR
    have HF := Lib.hid hf
    have HG := Lib.hid hg
    have tf : (f != f) = false := by simp
    clear h1 hE hR hm8 hmd
    obtain ⟨N, hN⟩ : ∃ N, N = 8 * m := ⟨_, rfl⟩
    rw [← hN] at H1 hq
    have HN := Lib.hid hN
    have hNm : N ≤ 128 := by omega
    clear hN
    go_enter Tryz.func58, Tryz.ntmps58
    go_wp2_with (first
      | ((with_reducible show wpList _ _ _ (Oper.mk _ (Op.box _ _) _ _ _ _ :: _) _ _); refine wpList_boxS rfl _ _ rfl (adCs f ip z).toArray rfl S ?_; clear S; intro ga w1 S)
      | ((with_reducible show wpList _ _ _ (Oper.mk _ (Op.box _ _) _ _ _ _ :: _) _ _); refine wpList_boxS rfl _ _ rfl (adCs f jp y).toArray rfl S ?_; clear S; intro gb w1 S)
      | ((with_reducible refine (H1.out _).mono ?_); rintro e w2 ⟨rfl, hb⟩; have S := S.call hb; clear hb)
      | ((with_reducible show wpList _ _ _ (Oper.mk _ (Op.load _ _) _ _ _ _ :: _) _ _); refine wpList_cellS rfl _ _ rfl S _ _ rfl 1 _ _ rfl _ Tryz.underlying3 rfl _ (by with_reducible exact HF.out) ?_)
      | ((with_reducible show wpList _ _ _ (Oper.mk _ (Op.load _ _) _ _ _ _ :: _) _ _); refine wpList_cellS rfl _ _ rfl S _ _ rfl 0 _ _ rfl _ Tryz.underlying3 rfl _ (by with_reducible exact HG.out) ?_)
      | ((with_reducible show wpList _ _ _ (Oper.mk _ (Op.load _ _) _ _ _ _ :: _) _ _); refine wpList_loadS rfl _ _ rfl S _ rfl 1 _ _ rfl _ Tryz.underlying24 rfl has ?_))
    clear hf hg tf hq hq2 has H1
    go_loopw [17] (fun i wr => ∃ (k : Nat), i = .int .i64 k ∧ k ≤ m ∧ comK ip jp m k = R ∧ Ats w.heap.size w wr [(gb, 24, (adCs f jp y).toArray), (ga, 24, (adCs f ip z).toArray)]) (fun i _ => m - (intOf i).toNat)
    case atStart => exact ⟨0, rfl, Nat.zero_le _, HR.out.symm, S⟩
    case round =>
      obtain ⟨k, rfl, hk, hrest, S⟩ := hrel
      have HRE := Lib.hid hrest
      clear hrest
      by_cases hlt : k < m
      · have hst := comK_step ip jp m k hip hjp hm hlt
        rw [HRE.out] at hst
        have c0 := ad_at f z ip k hip (by omega)
        have c1 := ad_at f y jp k hjp (by omega)
        obtain ⟨x, hx⟩ : ∃ x, x = ip.getD k 0 := ⟨_, rfl⟩
        obtain ⟨v, hv⟩ : ∃ v, v = jp.getD k 0 := ⟨_, rfl⟩
        rw [← hx, ← hv] at hst
        rw [← hx] at c0
        rw [← hv] at c1
        have hxor := xor_u8 x v
        obtain ⟨d, hd⟩ : ∃ d, d = x ^^^ v := ⟨_, rfl⟩
        rw [← hd] at hxor hst
        have d1 : decide ((k : Int) < m) = true := decide_eq_true (by omega)
        have hk16 : k < 16 := by omega
        have hk16' : (k : Int) < 16 := by omega
        have C0 := Lib.hid c0
        have C1 := Lib.hid c1
        have HLT := Lib.hid hlt
        by_cases hxy : x = v
        · rw [if_pos hxy] at hst
          have hd0 : d = 0 := by rw [hd, hxy, UInt8.xor_self]
          have td : (((d.toNat : Nat) : Int) != 0) = false := by rw [hd0]; rfl
          have HST := Lib.hid hst
          clear hst hxy hd0 hd hx hv c0 c1
          go_wp2_with fail
          (try simp only [Act.put, List.setIfInBounds_toArray, List.set_cons_succ, List.set_cons_zero]); refine quietS_region (by kernel_rfl) (by kernel_rfl) S ?_
          repeat (first
            | go_big_quiet_skip
            | (go_big_quiet_want
               first
                 | ((with_reducible show Oper.quiet _ (Oper.mk _ (Op.load _ _) _ _ _ _) _ _ _); refine q_cellS _ _ rfl _ _ rfl 1 _ _ rfl _ Tryz.underlying5 rfl _ (by with_reducible exact C0.out) ?_)
                 | ((with_reducible show Oper.quiet _ (Oper.mk _ (Op.load _ _) _ _ _ _) _ _ _); refine q_cellS _ _ rfl _ _ rfl 0 _ _ rfl _ Tryz.underlying5 rfl _ (by with_reducible exact C1.out) ?_)
                 | (refine q_pure (v := ?_) ?_ ?_; rotate_left; focus (intro w; go_simp; try with_reducible rfl))
               (simp only [Act.put, List.setIfInBounds_toArray, List.set_cons_succ, List.set_cons_zero]; go_big_quiet_on)))
          (refine wpQuiet_nil ?_; clear S; intro w1 S)
          go_wp2_with fail
          go_roundw
          case rel => exact ⟨k + 1, by go_num, by have := HLT.out; omega, HST.out.symm, S⟩
          case measure => have := HLT.out; simp [intOf]; omega
        · rw [if_neg hxy] at hst
          have hz : lz8 d.toNat < 8 := by rw [hd]; exact (lz_byte x v hxy).1
          have hdn : d ≠ 0 := by
            intro e
            rw [e] at hd
            exact hxy (UInt8.xor_eq_zero_iff.1 hd.symm)
          have td : (((d.toNat : Nat) : Int) != 0) = true := by
            rw [bne_iff_ne]
            intro e
            apply hdn
            apply UInt8.toNat_inj.1
            show d.toNat = 0
            omega
          have h2 := fun w => lead8_any d w
          obtain ⟨q, hq⟩ : ∃ q, q = lz8 d.toNat := ⟨_, rfl⟩
          rw [← hq] at h2 hz hst
          have HST := Lib.hid hst
          have H2 := Lib.hid h2
          have e1 : IntKind.i64.wrap (8 * (k : Int)) = 8 * k := IntWalk.i64_in _ (by omega)
          have e2 : IntKind.i64.wrap (8 * (k : Int) + q) = 8 * k + q := IntWalk.i64_in _ (by omega)
          clear hst hxy hdn hd hx hv c0 c1 h2 hq hz
          go_wp2_with fail
          (try simp only [Act.put, List.setIfInBounds_toArray, List.set_cons_succ, List.set_cons_zero]); refine quietS_region (by kernel_rfl) (by kernel_rfl) S ?_
          repeat (first
            | go_big_quiet_skip
            | (go_big_quiet_want
               first
                 | ((with_reducible show Oper.quiet _ (Oper.mk _ (Op.load _ _) _ _ _ _) _ _ _); refine q_cellS _ _ rfl _ _ rfl 1 _ _ rfl _ Tryz.underlying5 rfl _ (by with_reducible exact C0.out) ?_)
                 | ((with_reducible show Oper.quiet _ (Oper.mk _ (Op.load _ _) _ _ _ _) _ _ _); refine q_cellS _ _ rfl _ _ rfl 0 _ _ rfl _ Tryz.underlying5 rfl _ (by with_reducible exact C1.out) ?_)
                 | (refine q_pure (v := ?_) ?_ ?_; rotate_left; focus (intro w; go_simp; try with_reducible rfl))
               (simp only [Act.put, List.setIfInBounds_toArray, List.set_cons_succ, List.set_cons_zero]; go_big_quiet_on)))
          (refine wpQuiet_nil ?_; clear S; intro w1 S)
          go_wp2_with ((with_reducible refine (H2.out _).mono ?_); rintro e w2 ⟨rfl, hq⟩; subst hq)
          go_ret
          exact ⟨by rw [HST.out]; rfl, S.below⟩
      · obtain rfl : k = m := by omega
        have hfin := HRE.out
        rw [comK_end] at hfin
        have hfin2 := HN.out
        have hRN : R = N := by omega
        have HRN := Lib.hid hRN
        have d1 : decide ((k : Int) < k) = false := decide_eq_false (by omega)
        clear hfin hfin2 hRN hlt
        go_wp2_with fail
        go_ret
        exact ⟨by rw [HRN.out]; rfl, S.below⟩
  · have hE : comE f g ip jp = 0 := by unfold comE; rw [if_neg hfg]
    have tf : (f != g) = true := by simpa using hfg
    rw [hE]
    have HF := Lib.hid hf
    have HG := Lib.hid hg
    clear hfg hE hf hg
    go_enter Tryz.func58, Tryz.ntmps58
    go_wp2_with (first
      | ((with_reducible show wpList _ _ _ (Oper.mk _ (Op.box _ _) _ _ _ _ :: _) _ _); refine wpList_boxS rfl _ _ rfl (adCs f ip z).toArray rfl S ?_; clear S; intro ga w1 S)
      | ((with_reducible show wpList _ _ _ (Oper.mk _ (Op.box _ _) _ _ _ _ :: _) _ _); refine wpList_boxS rfl _ _ rfl (adCs g jp y).toArray rfl S ?_; clear S; intro gb w1 S)
      | ((with_reducible show wpList _ _ _ (Oper.mk _ (Op.load _ _) _ _ _ _ :: _) _ _); refine wpList_cellS rfl _ _ rfl S _ _ rfl 1 _ _ rfl _ Tryz.underlying3 rfl _ (by with_reducible exact HF.out) ?_)
      | ((with_reducible show wpList _ _ _ (Oper.mk _ (Op.load _ _) _ _ _ _ :: _) _ _); refine wpList_cellS rfl _ _ rfl S _ _ rfl 0 _ _ rfl _ Tryz.underlying3 rfl _ (by with_reducible exact HG.out) ?_))
    go_ret
    exact ⟨rfl, S.below⟩
end Go.Proofs.YthbdeafbdmbabaaGreatDoor
namespace Go.Proofs.YthbdeafbdmbabaaGreatDoor
open Go.RowKit Go
set_option linter.unusedVariables false
set_option maxRecDepth 100000
def preCs (g : Int) (jp : List UInt8) (y n : Int) : List Value := adCs g jp y ++ [.int .i64 n]
abbrev preV (g : Int) (jp : List UInt8) (y n : Int) : Value := .agg (preCs g jp y n).toArray
theorem preCs_len (g : Int) (jp : List UInt8) (y n : Int) (h : jp.length = 16) : (preCs g jp y n).length = 19 := by simp [preCs, adCs_len, h]
theorem preInfo : (Tryz.prog.info? 49).map (·.size) = some 19 := by kernel_rfl
theorem preSize (g : Int) (jp : List UInt8) (y n : Int) (h : jp.length = 16) : (Tryz.prog.info? 49).map (·.size) = some (preCs g jp y n).toArray.size := by
  rw [preInfo, List.size_toArray, preCs_len _ _ _ _ h]
theorem pre_fam (g : Int) (jp : List UInt8) (y n : Int) : (preCs g jp y n).toArray[0]? = some (.int .i64 g) := rfl
theorem pre_bits (g : Int) (jp : List UInt8) (y n : Int) (h : jp.length = 16) : (preCs g jp y n).toArray[18]? = some (.int .i64 n) := by
  rw [List.getElem?_toArray]
  unfold preCs
  rw [List.getElem?_append_right (by rw [adCs_len, h]; decide), adCs_len, h]
  rfl
theorem pre_addr (g : Int) (jp : List UInt8) (y n : Int) (h : jp.length = 16) : ∀ (j : Nat) v, (adCs g jp y)[j]? = some v → (preCs g jp y n).toArray[0 + j]? = some v := by
  intro j v hv
  have hj := (List.getElem?_eq_some_iff.1 hv).1
  rw [List.getElem?_toArray, Nat.zero_add]
  unfold preCs
  rw [List.getElem?_append_left hj]
  exact hv
theorem adSizeL (f : Int) (ip : List UInt8) (z : Int) (h : ip.length = 16) : (Tryz.prog.info? 24).map (·.size) = some (adCs f ip z).length := by
  rw [adInfo, adCs_len, h]
set_option maxHeartbeats 4000000 in
theorem aHolds_any (g y n : Int) (jp : List UInt8) (w : World) (hjp : jp.length = 16) :
    Calls Tryz.prog 57 #[preV g jp y n] w fun e w' => e = .returned (.int .i64 (holdsE g jp y n)) ∧ Below w.heap.size w w' := by
  have S := Ats.start w
  have h1 := fun w => aCheck_any g y jp w hjp
  have h2 := fun w => aBits_any g y jp w hjp
  have hn := pre_bits g jp y n hjp
  have hpa := pre_addr g jp y n hjp
  have has := adSizeL g jp y hjp
  have hR : holdsE g jp y n = if checkE g jp y ≠ 0 then checkE g jp y else if n < 0 ∨ (bitsF g : Int) < n then 4 else 0 := rfl
  obtain ⟨R, hR'⟩ : ∃ R, R = holdsE g jp y n := ⟨_, rfl⟩
  obtain ⟨C, hC⟩ : ∃ C, C = checkE g jp y := ⟨_, rfl⟩
  obtain ⟨b, hb⟩ : ∃ b, b = bitsF g := ⟨_, rfl⟩
  rw [← hR', ← hC, ← hb] at hR
  rw [← hR']
  rw [← hC] at h1
  rw [← hb] at h2
  have H1 := Lib.hid h1
  have H2 := Lib.hid h2
  have HN := Lib.hid hn
  clear h1 h2 hn hR' hC hb
  by_cases hc : C = 0
  · rw [if_neg (by simpa using hc)] at hR
    subst hc
    by_cases hn0 : n < 0
    · rw [if_pos (.inl hn0)] at hR
      have HR := Lib.hid hR
      have d0 : decide (n < 0) = true := decide_eq_true hn0
      clear hR hn0
      go_enter Tryz.func57, Tryz.ntmps57
      go_wp2_with (first
        | ((with_reducible show wpList _ _ _ (Oper.mk _ (Op.box _ _) _ _ _ _ :: _) _ _); refine wpList_boxS rfl _ _ rfl (preCs g jp y n).toArray rfl S ?_; clear S; intro gp w1 S)
        | ((with_reducible refine (H1.out _).mono ?_); rintro e w2 ⟨rfl, hb⟩; have S := S.call hb; clear hb)
        | ((with_reducible show wpList _ _ _ (Oper.mk (some 5) (Op.load _ _) _ _ _ _ :: _) _ _); refine wpList_partS rfl _ _ rfl S _ _ rfl 0 _ _ rfl _ Tryz.underlying24 rfl (adCs g jp y) has hpa ?_))
      (try simp only [Act.put, List.setIfInBounds_toArray, List.set_cons_succ, List.set_cons_zero]); refine quietS_region (by kernel_rfl) (by kernel_rfl) S ?_
      repeat (first
        | go_big_quiet_skip
        | (go_big_quiet_want
           first
             | ((with_reducible show Oper.quiet _ (Oper.mk _ (Op.call { callee := Callee.value (Operand.func 8), args := _, argTypes := _ }) _ _ _ _) _ _ _); refine q_call 8 _ _ rfl (enters_of Tryz.func8 (by kernel_rfl) rfl) (fun w S => ((H2.out _).mono fun e w2 h => ⟨h.1, S.call h.2⟩)) (by simp [Act.eval]) ?_)
             | ((with_reducible show Oper.quiet _ (Oper.mk _ (Op.load _ _) _ _ _ _) _ _ _); refine q_cellS _ _ rfl _ _ rfl 0 _ _ rfl _ Tryz.underlying3 rfl _ (by with_reducible exact HN.out) ?_)
             | ((with_reducible show Oper.quiet _ (Oper.mk (some 17) (Op.load _ _) _ _ _ _) _ _ _); refine q_partS _ _ rfl _ _ rfl 0 _ _ rfl _ Tryz.underlying24 rfl (adCs g jp y) has hpa ?_)
             | (refine q_pure (v := ?_) ?_ ?_; rotate_left; focus (intro w; go_simp; try with_reducible rfl))
           (simp only [Act.put, List.setIfInBounds_toArray, List.set_cons_succ, List.set_cons_zero]; go_big_quiet_on)))
      (refine wpQuiet_nil ?_; clear S; intro w1 S)
      go_wp2_with fail
      go_ret
      exact ⟨by rw [HR.out]; rfl, S.below⟩
    · have d0 : decide (n < 0) = false := decide_eq_false hn0
      by_cases hn1 : (b : Int) < n
      · rw [if_pos (.inr hn1)] at hR
        have HR := Lib.hid hR
        have d1 : decide ((b : Int) < n) = true := decide_eq_true hn1
        clear hR hn0 hn1
        go_enter Tryz.func57, Tryz.ntmps57
        go_wp2_with (first
          | ((with_reducible show wpList _ _ _ (Oper.mk _ (Op.box _ _) _ _ _ _ :: _) _ _); refine wpList_boxS rfl _ _ rfl (preCs g jp y n).toArray rfl S ?_; clear S; intro gp w1 S)
          | ((with_reducible refine (H1.out _).mono ?_); rintro e w2 ⟨rfl, hb⟩; have S := S.call hb; clear hb)
          | ((with_reducible show wpList _ _ _ (Oper.mk (some 5) (Op.load _ _) _ _ _ _ :: _) _ _); refine wpList_partS rfl _ _ rfl S _ _ rfl 0 _ _ rfl _ Tryz.underlying24 rfl (adCs g jp y) has hpa ?_))
        (try simp only [Act.put, List.setIfInBounds_toArray, List.set_cons_succ, List.set_cons_zero]); refine quietS_region (by kernel_rfl) (by kernel_rfl) S ?_
        repeat (first
          | go_big_quiet_skip
          | (go_big_quiet_want
             first
               | ((with_reducible show Oper.quiet _ (Oper.mk _ (Op.call { callee := Callee.value (Operand.func 8), args := _, argTypes := _ }) _ _ _ _) _ _ _); refine q_call 8 _ _ rfl (enters_of Tryz.func8 (by kernel_rfl) rfl) (fun w S => ((H2.out _).mono fun e w2 h => ⟨h.1, S.call h.2⟩)) (by simp [Act.eval]) ?_)
               | ((with_reducible show Oper.quiet _ (Oper.mk _ (Op.load _ _) _ _ _ _) _ _ _); refine q_cellS _ _ rfl _ _ rfl 0 _ _ rfl _ Tryz.underlying3 rfl _ (by with_reducible exact HN.out) ?_)
               | ((with_reducible show Oper.quiet _ (Oper.mk (some 17) (Op.load _ _) _ _ _ _) _ _ _); refine q_partS _ _ rfl _ _ rfl 0 _ _ rfl _ Tryz.underlying24 rfl (adCs g jp y) has hpa ?_)
               | (refine q_pure (v := ?_) ?_ ?_; rotate_left; focus (intro w; go_simp; try with_reducible rfl))
             (simp only [Act.put, List.setIfInBounds_toArray, List.set_cons_succ, List.set_cons_zero]; go_big_quiet_on)))
        (refine wpQuiet_nil ?_; clear S; intro w1 S)
        go_wp2_with fail
        go_ret
        exact ⟨by rw [HR.out]; rfl, S.below⟩
      · rw [if_neg (fun h => h.elim hn0 hn1)] at hR
        have HR := Lib.hid hR
        have d1 : decide ((b : Int) < n) = false := decide_eq_false hn1
        clear hR hn0 hn1
        go_enter Tryz.func57, Tryz.ntmps57
        go_wp2_with (first
          | ((with_reducible show wpList _ _ _ (Oper.mk _ (Op.box _ _) _ _ _ _ :: _) _ _); refine wpList_boxS rfl _ _ rfl (preCs g jp y n).toArray rfl S ?_; clear S; intro gp w1 S)
          | ((with_reducible refine (H1.out _).mono ?_); rintro e w2 ⟨rfl, hb⟩; have S := S.call hb; clear hb)
          | ((with_reducible show wpList _ _ _ (Oper.mk (some 5) (Op.load _ _) _ _ _ _ :: _) _ _); refine wpList_partS rfl _ _ rfl S _ _ rfl 0 _ _ rfl _ Tryz.underlying24 rfl (adCs g jp y) has hpa ?_))
        (try simp only [Act.put, List.setIfInBounds_toArray, List.set_cons_succ, List.set_cons_zero]); refine quietS_region (by kernel_rfl) (by kernel_rfl) S ?_
        repeat (first
          | go_big_quiet_skip
          | (go_big_quiet_want
             first
               | ((with_reducible show Oper.quiet _ (Oper.mk _ (Op.call { callee := Callee.value (Operand.func 8), args := _, argTypes := _ }) _ _ _ _) _ _ _); refine q_call 8 _ _ rfl (enters_of Tryz.func8 (by kernel_rfl) rfl) (fun w S => ((H2.out _).mono fun e w2 h => ⟨h.1, S.call h.2⟩)) (by simp [Act.eval]) ?_)
               | ((with_reducible show Oper.quiet _ (Oper.mk _ (Op.load _ _) _ _ _ _) _ _ _); refine q_cellS _ _ rfl _ _ rfl 0 _ _ rfl _ Tryz.underlying3 rfl _ (by with_reducible exact HN.out) ?_)
               | ((with_reducible show Oper.quiet _ (Oper.mk (some 17) (Op.load _ _) _ _ _ _) _ _ _); refine q_partS _ _ rfl _ _ rfl 0 _ _ rfl _ Tryz.underlying24 rfl (adCs g jp y) has hpa ?_)
               | (refine q_pure (v := ?_) ?_ ?_; rotate_left; focus (intro w; go_simp; try with_reducible rfl))
             (simp only [Act.put, List.setIfInBounds_toArray, List.set_cons_succ, List.set_cons_zero]; go_big_quiet_on)))
        (refine wpQuiet_nil ?_; clear S; intro w1 S)
        go_wp2_with fail
        go_ret
        exact ⟨by rw [HR.out]; rfl, S.below⟩
  · rw [if_pos hc] at hR
    have HR := Lib.hid hR
    have d0 : (C != 0) = true := by simpa using hc
    clear hR hc
    go_enter Tryz.func57, Tryz.ntmps57
    go_wp2_with (first
      | ((with_reducible show wpList _ _ _ (Oper.mk _ (Op.box _ _) _ _ _ _ :: _) _ _); refine wpList_boxS rfl _ _ rfl (preCs g jp y n).toArray rfl S ?_; clear S; intro gp w1 S)
      | ((with_reducible refine (H1.out _).mono ?_); rintro e w2 ⟨rfl, hb⟩; have S := S.call hb; clear hb)
      | ((with_reducible show wpList _ _ _ (Oper.mk (some 5) (Op.load _ _) _ _ _ _ :: _) _ _); refine wpList_partS rfl _ _ rfl S _ _ rfl 0 _ _ rfl _ Tryz.underlying24 rfl (adCs g jp y) has hpa ?_))
    go_ret
    exact ⟨by rw [HR.out]; rfl, S.below⟩
theorem withinE_no1 (f : Int) (ip : List UInt8) (g : Int) (jp : List UInt8) (y n : Int) (h : holdsE g jp y n ≠ 0) : withinE f ip g jp y n = false := by
  have : (holdsE g jp y n == 0) = false := by simpa using h
  unfold withinE; rw [this]; rfl
theorem withinE_no2 (f : Int) (ip : List UInt8) (g : Int) (jp : List UInt8) (y n : Int) (h : f ≠ g) : withinE f ip g jp y n = false := by
  have : (f == g) = false := by simpa using h
  unfold withinE; rw [this]; simp
theorem withinE_yes (ip : List UInt8) (g : Int) (jp : List UInt8) (y n : Int) (h : holdsE g jp y n = 0) : withinE g ip g jp y n = decide (n ≤ (comE g g ip jp : Int)) := by
  unfold withinE; rw [h]; simp
set_option maxHeartbeats 4000000 in
theorem aWithin_any (f z g y n : Int) (ip jp : List UInt8) (w : World) (hip : ip.length = 16) (hjp : jp.length = 16) :
    Calls Tryz.prog 36 #[adV f ip z, preV g jp y n] w fun e w' => e = .returned (.bool (withinE f ip g jp y n)) ∧ Below w.heap.size w w' := by
  have S := Ats.start w
  have h1 := fun w => aHolds_any g y n jp w hjp
  have h2 := fun w => aCommon_any f z g y ip jp w hip hjp
  have hn := pre_bits g jp y n hjp
  have hg := pre_fam g jp y n
  have hf := ad_fam f z ip
  have hpa := pre_addr g jp y n hjp
  have has := adSizeL g jp y hjp
  have haf := adSize f ip z hip
  have hps := preSize g jp y n hjp
  have w1 := withinE_no1 f ip g jp y n
  have w2 := withinE_no2 f ip g jp y n
  have w3 := withinE_yes ip g jp y n
  obtain ⟨R, hR⟩ : ∃ R, R = withinE f ip g jp y n := ⟨_, rfl⟩
  obtain ⟨C, hC⟩ : ∃ C, C = holdsE g jp y n := ⟨_, rfl⟩
  rw [← hC] at h1 w1 w3
  rw [← hR] at w1 w2 ⊢
  have HF := Lib.hid hf
  have HG := Lib.hid hg
  have HN := Lib.hid hn
  have H1 := Lib.hid h1
  clear hC h1 hf hg hn
  by_cases hc : C = 0
  · by_cases hfg : f = g
    · have hw := w3 hc
      subst hc
      subst hfg
      have HR := Lib.hid (hR.trans hw)
      have t2 : (f == f) = true := by simp
      obtain ⟨c, hcc⟩ : ∃ c, c = comE f f ip jp := ⟨_, rfl⟩
      rw [← hcc] at h2 HR
      have H2 := Lib.hid h2
      clear h2 hcc hw w1 w2 w3 hR
      go_enter Tryz.func36, Tryz.ntmps36
      go_wp2_with (first
        | ((with_reducible show wpList _ _ _ (Oper.mk _ (Op.box _ _) _ _ _ _ :: _) _ _); refine wpList_boxS rfl _ _ rfl (adCs f ip z).toArray rfl S ?_; clear S; intro ga w1 S)
        | ((with_reducible show wpList _ _ _ (Oper.mk _ (Op.box _ _) _ _ _ _ :: _) _ _); refine wpList_boxS rfl _ _ rfl (preCs f jp y n).toArray rfl S ?_; clear S; intro gp w1 S))
      (try simp only [Act.put, List.setIfInBounds_toArray, List.set_cons_succ, List.set_cons_zero]); refine quietS_region (by kernel_rfl) (by kernel_rfl) S ?_
      repeat (first
        | go_big_quiet_skip
        | (go_big_quiet_want
           first
             | ((with_reducible show Oper.quiet _ (Oper.mk _ (Op.call { callee := Callee.value (Operand.func 57), args := _, argTypes := _ }) _ _ _ _) _ _ _); refine q_call 57 _ _ rfl (enters_of Tryz.func57 (by kernel_rfl) rfl) (fun w S => ((H1.out _).mono fun e w2 h => ⟨h.1, S.call h.2⟩)) (by simp [Act.eval]) ?_)
             | ((with_reducible show Oper.quiet _ (Oper.mk _ (Op.call { callee := Callee.value (Operand.func 58), args := _, argTypes := _ }) _ _ _ _) _ _ _); refine q_call 58 _ _ rfl (enters_of Tryz.func58 (by kernel_rfl) rfl) (fun w S => ((H2.out _).mono fun e w2 h => ⟨h.1, S.call h.2⟩)) (by simp [Act.eval]) ?_)
             | ((with_reducible show Oper.quiet _ (Oper.mk _ (Op.load _ (Operand.tmp 3)) _ _ _ _) _ _ _); refine q_loadS _ _ rfl _ rfl 0 _ _ rfl _ Tryz.underlying49 rfl hps ?_)
             | ((with_reducible show Oper.quiet _ (Oper.mk _ (Op.load _ (Operand.tmp 2)) _ _ _ _) _ _ _); refine q_loadS _ _ rfl _ rfl 1 _ _ rfl _ Tryz.underlying24 rfl haf ?_)
             | ((with_reducible show Oper.quiet _ (Oper.mk (some 19) (Op.load _ _) _ _ _ _) _ _ _); refine q_partS _ _ rfl _ _ rfl 0 _ _ rfl _ Tryz.underlying24 rfl (adCs f jp y) has hpa ?_)
             | ((with_reducible show Oper.quiet _ (Oper.mk _ (Op.load _ (Operand.tmp 9)) _ _ _ _) _ _ _); refine q_cellS _ _ rfl _ _ rfl 1 _ _ rfl _ Tryz.underlying3 rfl _ (by with_reducible exact HF.out) ?_)
             | ((with_reducible show Oper.quiet _ (Oper.mk _ (Op.load _ (Operand.tmp 12)) _ _ _ _) _ _ _); refine q_cellS _ _ rfl _ _ rfl 0 _ _ rfl _ Tryz.underlying3 rfl _ (by with_reducible exact HG.out) ?_)
             | ((with_reducible show Oper.quiet _ (Oper.mk _ (Op.load _ (Operand.tmp 21)) _ _ _ _) _ _ _); refine q_cellS _ _ rfl _ _ rfl 0 _ _ rfl _ Tryz.underlying3 rfl _ (by with_reducible exact HN.out) ?_)
             | (refine q_pure (v := ?_) ?_ ?_; rotate_left; focus (intro w; go_simp; try with_reducible rfl))
           (simp only [Act.put, List.setIfInBounds_toArray, List.set_cons_succ, List.set_cons_zero]; go_big_quiet_on)))
      (refine wpQuiet_nil ?_; clear S; intro w1 S)
      go_wp2_with fail
      go_ret
      exact ⟨by rw [HR.out]; rfl, S.below⟩
    · have HR := Lib.hid (w2 hfg)
      subst hc
      have t2 : (f == g) = false := by simpa using hfg
      have H2 := Lib.hid h2
      clear h2 w1 w2 w3 hR hfg
      go_enter Tryz.func36, Tryz.ntmps36
      go_wp2_with (first
        | ((with_reducible show wpList _ _ _ (Oper.mk _ (Op.box _ _) _ _ _ _ :: _) _ _); refine wpList_boxS rfl _ _ rfl (adCs f ip z).toArray rfl S ?_; clear S; intro ga w1 S)
        | ((with_reducible show wpList _ _ _ (Oper.mk _ (Op.box _ _) _ _ _ _ :: _) _ _); refine wpList_boxS rfl _ _ rfl (preCs g jp y n).toArray rfl S ?_; clear S; intro gp w1 S))
      (try simp only [Act.put, List.setIfInBounds_toArray, List.set_cons_succ, List.set_cons_zero]); refine quietS_region (by kernel_rfl) (by kernel_rfl) S ?_
      repeat (first
        | go_big_quiet_skip
        | (go_big_quiet_want
           first
             | ((with_reducible show Oper.quiet _ (Oper.mk _ (Op.call { callee := Callee.value (Operand.func 57), args := _, argTypes := _ }) _ _ _ _) _ _ _); refine q_call 57 _ _ rfl (enters_of Tryz.func57 (by kernel_rfl) rfl) (fun w S => ((H1.out _).mono fun e w2 h => ⟨h.1, S.call h.2⟩)) (by simp [Act.eval]) ?_)
             | ((with_reducible show Oper.quiet _ (Oper.mk _ (Op.call { callee := Callee.value (Operand.func 58), args := _, argTypes := _ }) _ _ _ _) _ _ _); refine q_call 58 _ _ rfl (enters_of Tryz.func58 (by kernel_rfl) rfl) (fun w S => ((H2.out _).mono fun e w2 h => ⟨h.1, S.call h.2⟩)) (by simp [Act.eval]) ?_)
             | ((with_reducible show Oper.quiet _ (Oper.mk _ (Op.load _ (Operand.tmp 3)) _ _ _ _) _ _ _); refine q_loadS _ _ rfl _ rfl 0 _ _ rfl _ Tryz.underlying49 rfl hps ?_)
             | ((with_reducible show Oper.quiet _ (Oper.mk _ (Op.load _ (Operand.tmp 2)) _ _ _ _) _ _ _); refine q_loadS _ _ rfl _ rfl 1 _ _ rfl _ Tryz.underlying24 rfl haf ?_)
             | ((with_reducible show Oper.quiet _ (Oper.mk (some 19) (Op.load _ _) _ _ _ _) _ _ _); refine q_partS _ _ rfl _ _ rfl 0 _ _ rfl _ Tryz.underlying24 rfl (adCs g jp y) has hpa ?_)
             | ((with_reducible show Oper.quiet _ (Oper.mk _ (Op.load _ (Operand.tmp 9)) _ _ _ _) _ _ _); refine q_cellS _ _ rfl _ _ rfl 1 _ _ rfl _ Tryz.underlying3 rfl _ (by with_reducible exact HF.out) ?_)
             | ((with_reducible show Oper.quiet _ (Oper.mk _ (Op.load _ (Operand.tmp 12)) _ _ _ _) _ _ _); refine q_cellS _ _ rfl _ _ rfl 0 _ _ rfl _ Tryz.underlying3 rfl _ (by with_reducible exact HG.out) ?_)
             | ((with_reducible show Oper.quiet _ (Oper.mk _ (Op.load _ (Operand.tmp 21)) _ _ _ _) _ _ _); refine q_cellS _ _ rfl _ _ rfl 0 _ _ rfl _ Tryz.underlying3 rfl _ (by with_reducible exact HN.out) ?_)
             | (refine q_pure (v := ?_) ?_ ?_; rotate_left; focus (intro w; go_simp; try with_reducible rfl))
           (simp only [Act.put, List.setIfInBounds_toArray, List.set_cons_succ, List.set_cons_zero]; go_big_quiet_on)))
      (refine wpQuiet_nil ?_; clear S; intro w1 S)
      go_wp2_with fail
      go_ret
      exact ⟨by rw [HR.out]; rfl, S.below⟩
  · have HR := Lib.hid (w1 hc)
    have t1 : (C == 0) = false := by simpa using hc
    have H2 := Lib.hid h2
    clear h2 w1 w2 w3 hR hc
    go_enter Tryz.func36, Tryz.ntmps36
    go_wp2_with (first
      | ((with_reducible show wpList _ _ _ (Oper.mk _ (Op.box _ _) _ _ _ _ :: _) _ _); refine wpList_boxS rfl _ _ rfl (adCs f ip z).toArray rfl S ?_; clear S; intro ga w1 S)
      | ((with_reducible show wpList _ _ _ (Oper.mk _ (Op.box _ _) _ _ _ _ :: _) _ _); refine wpList_boxS rfl _ _ rfl (preCs g jp y n).toArray rfl S ?_; clear S; intro gp w1 S))
    (try simp only [Act.put, List.setIfInBounds_toArray, List.set_cons_succ, List.set_cons_zero]); refine quietS_region (by kernel_rfl) (by kernel_rfl) S ?_
    repeat (first
      | go_big_quiet_skip
      | (go_big_quiet_want
         first
           | ((with_reducible show Oper.quiet _ (Oper.mk _ (Op.call { callee := Callee.value (Operand.func 57), args := _, argTypes := _ }) _ _ _ _) _ _ _); refine q_call 57 _ _ rfl (enters_of Tryz.func57 (by kernel_rfl) rfl) (fun w S => ((H1.out _).mono fun e w2 h => ⟨h.1, S.call h.2⟩)) (by simp [Act.eval]) ?_)
           | ((with_reducible show Oper.quiet _ (Oper.mk _ (Op.call { callee := Callee.value (Operand.func 58), args := _, argTypes := _ }) _ _ _ _) _ _ _); refine q_call 58 _ _ rfl (enters_of Tryz.func58 (by kernel_rfl) rfl) (fun w S => ((H2.out _).mono fun e w2 h => ⟨h.1, S.call h.2⟩)) (by simp [Act.eval]) ?_)
           | ((with_reducible show Oper.quiet _ (Oper.mk _ (Op.load _ (Operand.tmp 3)) _ _ _ _) _ _ _); refine q_loadS _ _ rfl _ rfl 0 _ _ rfl _ Tryz.underlying49 rfl hps ?_)
           | ((with_reducible show Oper.quiet _ (Oper.mk _ (Op.load _ (Operand.tmp 2)) _ _ _ _) _ _ _); refine q_loadS _ _ rfl _ rfl 1 _ _ rfl _ Tryz.underlying24 rfl haf ?_)
           | ((with_reducible show Oper.quiet _ (Oper.mk (some 19) (Op.load _ _) _ _ _ _) _ _ _); refine q_partS _ _ rfl _ _ rfl 0 _ _ rfl _ Tryz.underlying24 rfl (adCs g jp y) has hpa ?_)
           | ((with_reducible show Oper.quiet _ (Oper.mk _ (Op.load _ (Operand.tmp 9)) _ _ _ _) _ _ _); refine q_cellS _ _ rfl _ _ rfl 1 _ _ rfl _ Tryz.underlying3 rfl _ (by with_reducible exact HF.out) ?_)
           | ((with_reducible show Oper.quiet _ (Oper.mk _ (Op.load _ (Operand.tmp 12)) _ _ _ _) _ _ _); refine q_cellS _ _ rfl _ _ rfl 0 _ _ rfl _ Tryz.underlying3 rfl _ (by with_reducible exact HG.out) ?_)
           | ((with_reducible show Oper.quiet _ (Oper.mk _ (Op.load _ (Operand.tmp 21)) _ _ _ _) _ _ _); refine q_cellS _ _ rfl _ _ rfl 0 _ _ rfl _ Tryz.underlying3 rfl _ (by with_reducible exact HN.out) ?_)
           | (refine q_pure (v := ?_) ?_ ?_; rotate_left; focus (intro w; go_simp; try with_reducible rfl))
         (simp only [Act.put, List.setIfInBounds_toArray, List.set_cons_succ, List.set_cons_zero]; go_big_quiet_on)))
    (refine wpQuiet_nil ?_; clear S; intro w1 S)
    go_wp2_with fail
    go_ret
    exact ⟨by rw [HR.out]; rfl, S.below⟩
end Go.Proofs.YthbdeafbdmbabaaGreatDoor
namespace Go.Proofs.YthbdeafbdmbabaaGreatDoor
open Go.RowKit Go
set_option linter.unusedVariables false
set_option maxRecDepth 100000
def nearL : List (Int × List UInt8 × Int × Int) := [(4, ip127, 8, 2), (4, ip169, 16, 2), (6, ipFe80, 10, 2), (6, ipOne, 128, 2), (6, ipFec0, 10, 5)]
def reachCs (r : Int × List UInt8 × Int × Int) : List Value := preCs r.1 r.2.1 0 r.2.2.1 ++ [.int .i64 r.2.2.2]
def nearCs : List Value := nearL.flatMap reachCs
def NR (w : World) : Prop := ∀ (j : Nat) v, nearCs[j]? = some v → w.cell? ⟨0, j, none⟩ = some v
def M4 (w : World) : Prop := ∀ (j : Nat) v, (preCs 4 ip224 0 4)[j]? = some v → w.cell? ⟨1, j, none⟩ = some v
theorem NR.below {w w' : World} (h : NR w) {B : Nat} (hB : w.heap.size ≤ B) (hb : Below B w w') : NR w' :=
  fun j v hv => (hb.cell (Nat.lt_of_lt_of_le (cell_lt (h j v hv)) hB)).trans (h j v hv)
theorem M4.below {w w' : World} (h : M4 w) {B : Nat} (hB : w.heap.size ≤ B) (hb : Below B w w') : M4 w' := /- 1 -/
  fun j v hv => (hb.cell (Nat.lt_of_lt_of_le (cell_lt (h j v hv)) hB)).trans (h j v hv)
/-- a struct or an array that was there when the call began, read whole -/
theorem wpList_oldPartS {P : Program} {ops : Array Oper} {rest : List Oper} {o : Oper} {a : Act} {Q : Exit → Act → World → Prop} {w0 w : World} {L : List (Nat × TypeId × Array Value)} (hgd : Region.wanted o (yielded ops a.tmps) = true) (ty : TypeId) (x : Operand) (ho : o.op = .load ty x) (S : Ats w0.heap.size w0 w L) (g k : Nat) (hx : a.eval x = .pointer (some ⟨g, k, none⟩))
    (d : TypeDesc) (hu : P.underlying ty = some d) (hd : (match d with | .struct _ | .array _ _ => true | _ => false) = true) (part : List Value) (hn : (P.info? ty).map (·.size) = some part.length) (hc : ∀ (j : Nat) v, part[j]? = some v → w0.cell? ⟨g, k + j, none⟩ = some v)
    (h : wpList P ops Q rest (a.put o.dst (.agg part.toArray)) w) : wpList P ops Q (o :: rest) a w := by
  refine wpList_want hgd fun K hK => ?_
  have := hK _ _ h
  have hr := run_loadVar_part (P := P) w g k ty part d (fun j v hv => (S.below.cell (block_lt_of_cell (hc j v hv))).trans (hc j v hv)) hu hd hn
  unfold Oper.wp execOp
  simp only [ho, hx, Instr.loadAt, Instr.sureAddr, Sem.run_bind, Sem.run_pure, Result.andThen_ok, hr]
  exact this
theorem near_part (k : Nat) (hk : k < 5) (w : World) : ∃ r, nearL[k]? = some r ∧ r.2.1.length = 16 ∧ (part 51 nearCs.toArray (k * 20)).run Tryz.prog w = .ok (.agg (reachCs r).toArray) w := by
  have a := Tryz.isAgg51
  have s := Tryz.sizeOf51
  match k, hk with
  | 0, _ => exact ⟨_, rfl, rfl, by simp [part, a, s]; rfl⟩
  | 1, _ => exact ⟨_, rfl, rfl, by simp [part, a, s]; rfl⟩
  | 2, _ => exact ⟨_, rfl, rfl, by simp [part, a, s]; rfl⟩
  | 3, _ => exact ⟨_, rfl, rfl, by simp [part, a, s]; rfl⟩
  | 4, _ => exact ⟨_, rfl, rfl, by simp [part, a, s]; rfl⟩
theorem near_index {a : Act} {o : Oper} (x i : Operand) (ho : o.op = .index 52 x i) (hx : a.eval x = .agg nearCs.toArray) (k : Nat) (hk : k < 5) (hi : a.eval i = .int .i64 k) {r : Int × List UInt8 × Int × Int} (hr : nearL[k]? = some r) (w : World) :
    (execOp a.eval o).run Tryz.prog w = .ok (.value (.agg (reachCs r).toArray)) w := by
  obtain ⟨r', h1, _, h3⟩ := near_part k hk w
  obtain rfl : r = r' := Option.some.inj (hr.symm.trans h1)
  have hu := run_underlying (P := Tryz.prog) Tryz.underlying52 w
  have hs := Tryz.sizeOf51 w
  unfold execOp
  simp only [ho, hx, hi, Instr.index, Sem.run_bind, hu, Result.andThen_ok, asIntOf, Sem.run_pure]
  rw [if_pos ⟨by omega, by omega⟩]
  simp only [Sem.run_bind, hs, Result.andThen_ok, Int.toNat_natCast, h3]
def scanE (f : Int) (ip : List UInt8) : List (Int × List UInt8 × Int × Int) → Int
  | [] => 14
  | r :: t => if withinE f ip r.1 r.2.1 0 r.2.2.1 = true then r.2.2.2 else scanE f ip t
theorem scope_scan (f : Int) (ip : List UInt8) : (if nearB f ip = true then (2 : Int) else if withinE f ip 6 ipFec0 0 10 = true then 5 else 14) = scanE f ip nearL := by
  unfold nearB nearL
  simp only [scanE]
  cases withinE f ip 4 ip127 0 8 <;> cases withinE f ip 4 ip169 0 16 <;> cases withinE f ip 6 ipFe80 0 10 <;> cases withinE f ip 6 ipOne 0 128 <;> simp
theorem reachInfo : (Tryz.prog.info? 51).map (·.size) = some 20 := by kernel_rfl
theorem reachZero : (Tryz.prog.info? 51).map (·.zero) = some (some (.agg (reachCs (0, zero16, 0, 0)).toArray)) := by kernel_rfl
theorem nearInfo : (Tryz.prog.info? 52).map (·.size) = some nearCs.length := by kernel_rfl
theorem reach_len (r : Int × List UInt8 × Int × Int) (h : r.2.1.length = 16) : (reachCs r).length = 20 := by unfold reachCs; rw [List.length_append, preCs_len _ _ _ _ h]; rfl
theorem reach_one (r : Int × List UInt8 × Int × Int) : (reachCs r).toArray.all (·.oneCell') = true := by
  simp [reachCs, preCs, adCs, cellU, Value.oneCell']
theorem reach_pre (r : Int × List UInt8 × Int × Int) : ∀ (j : Nat) v, (preCs r.1 r.2.1 0 r.2.2.1)[j]? = some v → (reachCs r).toArray[0 + j]? = some v := by
  intro j v hv
  have hj := (List.getElem?_eq_some_iff.1 hv).1
  rw [List.getElem?_toArray, Nat.zero_add]
  unfold reachCs
  rw [List.getElem?_append_left hj]
  exact hv
theorem reach_scope (r : Int × List UInt8 × Int × Int) (h : r.2.1.length = 16) : (reachCs r).toArray[19]? = some (.int .i64 r.2.2.2) := by
  rw [List.getElem?_toArray]
  unfold reachCs
  rw [List.getElem?_append_right (by rw [preCs_len _ _ _ _ h]; decide), preCs_len _ _ _ _ h]
  rfl
theorem preSizeL (g : Int) (jp : List UInt8) (y n : Int) (h : jp.length = 16) : (Tryz.prog.info? 49).map (·.size) = some (preCs g jp y n).length := by
  rw [preInfo, preCs_len _ _ _ _ h]
theorem scan_drop (f : Int) (ip : List UInt8) (k : Nat) {r : Int × List UInt8 × Int × Int} (hr : nearL[k]? = some r) : scanE f ip (nearL.drop k) = if withinE f ip r.1 r.2.1 0 r.2.2.1 = true then r.2.2.2 else scanE f ip (nearL.drop (k + 1)) := by
  obtain ⟨hlt, hv⟩ := List.getElem?_eq_some_iff.1 hr
  rw [List.drop_eq_getElem_cons hlt, hv]
  rfl
theorem and15B (c : UInt8) : bits BinOp.and IntKind.u8 (c.toNat : Int) 15 = ((c.toNat % 16 : Nat) : Int) := by
  have h := u8_and_nat c.toNat 15 (UInt8.toNat_lt c) (by decide)
  rw [show (15 : Nat) = 2 ^ 4 - 1 from rfl, Nat.and_two_pow_sub_one_eq_mod] at h
  exact h
set_option maxHeartbeats 4000000 in
theorem aScope_any (f z : Int) (ip : List UInt8) (w : World) (hip : ip.length = 16) (hNR : NR w) :
    Calls Tryz.prog 16 #[adV f ip z] w fun e w' => e = .returned (.int .i64 (scopeE f ip z)) ∧ Below w.heap.size w w' := by
  have S := Ats.start w
  have h0 := fun w => aUnmap_any f z ip w hip
  have haf := adSize f ip z hip
  have hul := unmapE_len f ip z hip
  have hE : scopeE f ip z = scope1 (unmapE f ip z).fam (unmapE f ip z).ip := rfl
  obtain ⟨R, hR⟩ : ∃ R, R = scopeE f ip z := ⟨_, rfl⟩
  rw [← hR] at hE ⊢
  obtain ⟨u, hu⟩ : ∃ u, u = unmapE f ip z := ⟨_, rfl⟩
  rw [← hu] at h0 hul hE
  obtain ⟨f', ip', z'⟩ := u
  simp only at h0 hul hE
  have h1 := fun w => aBits_any f' z' ip' w hul
  have h2 := fun w => multi6_any f' z' ip' w hul
  have hau := adSize f' ip' z' hul
  have H0 := Lib.hid h0
  have HNR := Lib.hid hNR
  clear h0 hR hu hNR
  unfold scope1 at hE
  by_cases hn : f' ≠ 4 ∧ f' ≠ 6
  · rw [if_pos hn] at hE
    rw [bitsF_no hn] at h1
    have H1 := Lib.hid h1
    have HE := Lib.hid hE
    clear hE hn h1 h2
    go_enter Tryz.func16, Tryz.ntmps16
    go_wp2_with (first
      | ((with_reducible show wpList _ _ _ (Oper.mk _ (Op.box _ _) _ _ _ _ :: _) _ _); refine wpList_boxS rfl _ _ rfl (adCs f ip z).toArray rfl S ?_; clear S; intro ga w1 S)
      | ((with_reducible refine (H0.out _).mono ?_); rintro e w2 ⟨rfl, hb⟩; have S := S.call hb; clear hb)
      | ((with_reducible refine (H1.out _).mono ?_); rintro e w2 ⟨rfl, hb⟩; have S := S.call hb; clear hb)
      | ((with_reducible show wpList _ _ _ (Oper.mk _ (Op.load _ (Operand.tmp 1)) _ _ _ _ :: _) _ _); refine wpList_loadS rfl _ _ rfl S _ rfl 0 _ _ rfl _ Tryz.underlying24 rfl haf ?_)
      | ((with_reducible show wpList _ _ _ (Oper.mk _ (Op.load _ (Operand.tmp 1)) _ _ _ _ :: _) _ _); refine wpList_loadS rfl _ _ rfl S _ rfl 0 _ _ rfl _ Tryz.underlying24 rfl hau ?_)
      | ((with_reducible show wpList _ _ _ (Oper.mk _ (Op.store _ (Operand.tmp 1) _) _ _ _ _ :: _) _ _); refine wpList_storeS rfl _ _ _ rfl S _ rfl _ rfl 0 _ _ rfl hau (by exact ad_sizes _ _ _ _ _ _ hip hul) (by exact adCs_one _ _ _) ?_; clear S; intro w1 S; (first | simp only [List.set_cons_zero] at S | simp only [List.set_cons_succ, List.set_cons_zero] at S | skip)))
    go_ret
    exact ⟨by rw [HE.out]; rfl, S.below⟩
  · rw [if_neg hn] at hE
    obtain ⟨N, hN⟩ : ∃ N, N = bitsF f' := ⟨_, rfl⟩
    rw [← hN] at h1
    have hNp : (((N : Nat) : Int) == 0) = false := by
      rw [hN]
      have hn' : f' = 4 ∨ f' = 6 := by omega
      rcases hn' with rfl | rfl <;> rfl
    have H1 := Lib.hid h1
    obtain ⟨m, hm⟩ : ∃ m, m = manyB f' ip' := ⟨_, rfl⟩
    rw [← hm] at h2 hE
    have H2 := Lib.hid h2
    clear h1 h2 hn hN hm
    cases m with
    | true =>
      rw [if_pos rfl] at hE
      have c1 : (adCs f' ip' z').toArray[2]? = some (.int .u8 (ip'.getD 1 0).toNat) := ad_at f' z' ip' 1 hul (by decide)
      have ha := and15B (ip'.getD 1 0)
      obtain ⟨c, hc⟩ : ∃ c, c = ip'.getD 1 0 := ⟨_, rfl⟩
      rw [← hc] at ha c1 hE
      obtain ⟨q, hq⟩ : ∃ q : Nat, q = c.toNat % 16 := ⟨_, rfl⟩
      rw [← hq] at ha hE
      have hw : IntKind.i64.wrap (q : Int) = q := IntWalk.i64_in _ (by omega)
      have C1 := Lib.hid c1
      have HE := Lib.hid hE
      clear hE hc c1 hq
      go_enter Tryz.func16, Tryz.ntmps16
      go_wp2_with (first
        | ((with_reducible show wpList _ _ _ (Oper.mk _ (Op.box _ _) _ _ _ _ :: _) _ _); refine wpList_boxS rfl _ _ rfl (adCs f ip z).toArray rfl S ?_; clear S; intro ga w1 S)
        | ((with_reducible refine (H0.out _).mono ?_); rintro e w2 ⟨rfl, hb⟩; have S := S.call hb; clear hb)
        | ((with_reducible refine (H1.out _).mono ?_); rintro e w2 ⟨rfl, hb⟩; have S := S.call hb; clear hb)
        | ((with_reducible refine (H2.out _).mono ?_); rintro e w2 ⟨rfl, hb⟩; have S := S.call hb; clear hb)
        | ((with_reducible show wpList _ _ _ (Oper.mk _ (Op.load _ (Operand.tmp 1)) _ _ _ _ :: _) _ _); refine wpList_loadS rfl _ _ rfl S _ rfl 0 _ _ rfl _ Tryz.underlying24 rfl haf ?_)
        | ((with_reducible show wpList _ _ _ (Oper.mk _ (Op.load _ (Operand.tmp 1)) _ _ _ _ :: _) _ _); refine wpList_loadS rfl _ _ rfl S _ rfl 0 _ _ rfl _ Tryz.underlying24 rfl hau ?_)
        | ((with_reducible show wpList _ _ _ (Oper.mk _ (Op.load _ _) _ _ _ _ :: _) _ _); refine wpList_cellS rfl _ _ rfl S _ _ rfl 0 _ _ rfl _ Tryz.underlying5 rfl _ (by with_reducible exact C1.out) ?_)
        | ((with_reducible show wpList _ _ _ (Oper.mk _ (Op.store _ (Operand.tmp 1) _) _ _ _ _ :: _) _ _); refine wpList_storeS rfl _ _ _ rfl S _ rfl _ rfl 0 _ _ rfl hau (by exact ad_sizes _ _ _ _ _ _ hip hul) (by exact adCs_one _ _ _) ?_; clear S; intro w1 S; (first | simp only [List.set_cons_zero] at S | simp only [List.set_cons_succ, List.set_cons_zero] at S | skip)))
      go_ret
      exact ⟨by rw [HE.out]; rfl, S.below⟩
    | false =>
      rw [if_neg (by decide), scope_scan] at hE
      have HE := Lib.hid hE
      clear hE
      go_enter Tryz.func16, Tryz.ntmps16
      go_wp2_with (first
        | ((with_reducible show wpList _ _ _ (Oper.mk _ (Op.box _ _) _ _ _ _ :: _) _ _); refine wpList_boxS rfl _ _ rfl (adCs f ip z).toArray rfl S ?_; clear S; intro ga w1 S)
        | ((with_reducible refine (H0.out _).mono ?_); rintro e w2 ⟨rfl, hb⟩; have S := S.call hb; clear hb)
        | ((with_reducible refine (H1.out _).mono ?_); rintro e w2 ⟨rfl, hb⟩; have S := S.call hb; clear hb)
        | ((with_reducible refine (H2.out _).mono ?_); rintro e w2 ⟨rfl, hb⟩; have S := S.call hb; clear hb)
        | ((with_reducible show wpList _ _ _ (Oper.mk (some 19) _ _ _ _ _ :: _) _ _); refine wpList_oldPartS rfl _ _ rfl S _ 0 rfl _ Tryz.underlying52 rfl nearCs nearInfo (fun j v hv => by rw [Nat.zero_add]; exact HNR.out j v hv) ?_)
        | ((with_reducible show wpList _ _ _ (Oper.mk _ (Op.load _ (Operand.tmp 1)) _ _ _ _ :: _) _ _); refine wpList_loadS rfl _ _ rfl S _ rfl 0 _ _ rfl _ Tryz.underlying24 rfl haf ?_)
        | ((with_reducible show wpList _ _ _ (Oper.mk _ (Op.load _ (Operand.tmp 1)) _ _ _ _ :: _) _ _); refine wpList_loadS rfl _ _ rfl S _ rfl 0 _ _ rfl _ Tryz.underlying24 rfl hau ?_)
        | ((with_reducible show wpList _ _ _ (Oper.mk _ (Op.store _ (Operand.tmp 1) _) _ _ _ _ :: _) _ _); refine wpList_storeS rfl _ _ _ rfl S _ rfl _ rfl 0 _ _ rfl hau (by exact ad_sizes _ _ _ _ _ _ hip hul) (by exact adCs_one _ _ _) ?_; clear S; intro w1 S; (first | simp only [List.set_cons_zero] at S | simp only [List.set_cons_succ, List.set_cons_zero] at S | skip)))
      clear hNp H0 H1 H2 haf
      go_loopw [20] (fun i wr => ∃ (k : Nat), i = .int .i64 k ∧ k ≤ 5 ∧ scanE f' ip' (nearL.drop k) = R ∧ Ats w.heap.size w wr [(ga, 24, (adCs f' ip' z').toArray)]) (fun i _ => 5 - (intOf i).toNat)
      case atStart => exact ⟨0, rfl, Nat.zero_le _, HE.out.symm, S⟩
      case round =>
        obtain ⟨k, rfl, hk, hrest, S⟩ := hrel
        have HRE := Lib.hid hrest
        clear hrest
        by_cases hlt : k < 5
        · obtain ⟨r, hr, hrl, _⟩ := near_part k hlt w
          have hst := scan_drop f' ip' k hr
          rw [HRE.out] at hst
          have hw := fun w => aWithin_any f' z' r.1 0 r.2.2.1 ip' r.2.1 w hul hrl
          have hrs := reach_scope r hrl
          have hrp := reach_pre r
          have hps := preSizeL r.1 r.2.1 0 r.2.2.1 hrl
          have hix := fun (a : Act) (o : Oper) x i ho hx hi w => near_index (a := a) (o := o) x i ho hx k hlt hi hr w
          have hrz : (Tryz.prog.info? 51).map (·.size) = some (reachCs r).toArray.size := by rw [reachInfo, List.size_toArray, reach_len r hrl]
          have hrz2 : (reachCs (0, zero16, 0, 0)).toArray.size = (reachCs r).toArray.size := by rw [List.size_toArray, List.size_toArray, reach_len r hrl]; rfl
          have hr1 := reach_one r
          have d1 : decide ((k : Int) < 5) = true := decide_eq_true (by omega)
          obtain ⟨b, hb⟩ : ∃ b, b = withinE f' ip' r.1 r.2.1 0 r.2.2.1 := ⟨_, rfl⟩
          rw [← hb] at hst hw
          have HW := Lib.hid hw
          have HRS := Lib.hid hrs
          have HLT := Lib.hid hlt
          have HIX := Lib.hid hix
          clear hw hrs hb hlt hix
          cases b with
          | true =>
            rw [if_pos rfl] at hst
            have HST := Lib.hid hst
            clear hst
            go_wp2_with (first
              | ((with_reducible show wpList _ _ _ (Oper.mk (some 22) _ _ _ _ _ :: _) _ _); refine wpList_val rfl (HIX.out _ _ _ _ rfl rfl rfl _) ?_)
              | ((with_reducible show wpList _ _ _ (Oper.mk (some 4) (Op.alloc _) _ _ _ _ :: _) _ _); refine wpList_allocS rfl _ rfl _ reachZero S ?_; clear S; intro gr w1 S)
              | ((with_reducible refine (HW.out _).mono ?_); rintro e w2 ⟨rfl, hb⟩; have S := S.call hb; clear hb)
              | ((with_reducible show wpList _ _ _ (Oper.mk _ (Op.store _ (Operand.tmp 4) _) _ _ _ _ :: _) _ _); refine wpList_storeS rfl _ _ _ rfl S _ rfl _ rfl 0 _ _ rfl hrz (by exact hrz2) (by exact hr1) ?_; clear S; intro w1 S; (first | simp only [List.set_cons_zero] at S | simp only [List.set_cons_succ, List.set_cons_zero] at S | skip))
              | ((with_reducible show wpList _ _ _ (Oper.mk _ (Op.load _ (Operand.tmp 1)) _ _ _ _ :: _) _ _); refine wpList_loadS rfl _ _ rfl S _ rfl 1 _ _ rfl _ Tryz.underlying24 rfl hau ?_)
              | ((with_reducible show wpList _ _ _ (Oper.mk (some 25) (Op.load _ _) _ _ _ _ :: _) _ _); refine wpList_partS rfl _ _ rfl S _ _ rfl 0 _ _ rfl _ Tryz.underlying49 rfl (preCs r.1 r.2.1 0 r.2.2.1) hps hrp ?_)
              | ((with_reducible show wpList _ _ _ (Oper.mk _ (Op.load _ _) _ _ _ _ :: _) _ _); refine wpList_cellS rfl _ _ rfl S _ _ rfl 0 _ _ rfl _ Tryz.underlying3 rfl _ (by with_reducible exact HRS.out) ?_))
            go_ret
            exact ⟨by rw [HST.out]; rfl, S.below⟩
          | false =>
            rw [if_neg (by decide)] at hst
            have HST := Lib.hid hst
            clear hst
            go_wp2_with (first
              | ((with_reducible show wpList _ _ _ (Oper.mk (some 22) _ _ _ _ _ :: _) _ _); refine wpList_val rfl (HIX.out _ _ _ _ rfl rfl rfl _) ?_)
              | ((with_reducible show wpList _ _ _ (Oper.mk (some 4) (Op.alloc _) _ _ _ _ :: _) _ _); refine wpList_allocS rfl _ rfl _ reachZero S ?_; clear S; intro gr w1 S)
              | ((with_reducible refine (HW.out _).mono ?_); rintro e w2 ⟨rfl, hb⟩; have S := S.call hb; clear hb)
              | ((with_reducible show wpList _ _ _ (Oper.mk _ (Op.store _ (Operand.tmp 4) _) _ _ _ _ :: _) _ _); refine wpList_storeS rfl _ _ _ rfl S _ rfl _ rfl 0 _ _ rfl hrz (by exact hrz2) (by exact hr1) ?_; clear S; intro w1 S; (first | simp only [List.set_cons_zero] at S | simp only [List.set_cons_succ, List.set_cons_zero] at S | skip))
              | ((with_reducible show wpList _ _ _ (Oper.mk _ (Op.load _ (Operand.tmp 1)) _ _ _ _ :: _) _ _); refine wpList_loadS rfl _ _ rfl S _ rfl 1 _ _ rfl _ Tryz.underlying24 rfl hau ?_)
              | ((with_reducible show wpList _ _ _ (Oper.mk (some 25) (Op.load _ _) _ _ _ _ :: _) _ _); refine wpList_partS rfl _ _ rfl S _ _ rfl 0 _ _ rfl _ Tryz.underlying49 rfl (preCs r.1 r.2.1 0 r.2.2.1) hps hrp ?_))
            have S := S.drop (L' := [(ga, 24, (adCs f' ip' z').toArray)]) (List.sublist_cons_self _ _)
            go_roundw
            case rel => exact ⟨k + 1, by go_num, by have := HLT.out; omega, HST.out.symm, S⟩
            case measure => have := HLT.out; simp [intOf]; omega
        · obtain rfl : k = 5 := by omega
          have hfin : R = 14 := HRE.out.symm
          have HF := Lib.hid hfin
          clear hfin hlt
          go_wp2_with fail
          go_ret
          exact ⟨by rw [HF.out]; rfl, S.below⟩
theorem many4Size : (Tryz.prog.info? 49).map (·.size) = some (preCs 4 ip224 0 4).length := by kernel_rfl
set_option maxHeartbeats 2000000 in
theorem aMulti_any (f z : Int) (ip : List UInt8) (w : World) (hip : ip.length = 16) (hM : M4 w) :
    Calls Tryz.prog 18 #[adV f ip z] w fun e w' => e = .returned (.bool (multiE f ip)) ∧ Below w.heap.size w w' := by
  have S := Ats.start w
  have h1 := fun w => aWithin_any f z 4 0 4 ip ip224 w hip rfl
  have h2 := fun w => multi6_any f z ip w hip
  have haf := adSize f ip z hip
  have hE : multiE f ip = (withinE f ip 4 ip224 0 4 || manyB f ip) := rfl
  obtain ⟨R, hR⟩ : ∃ R, R = multiE f ip := ⟨_, rfl⟩
  obtain ⟨b, hb⟩ : ∃ b, b = withinE f ip 4 ip224 0 4 := ⟨_, rfl⟩
  obtain ⟨c, hc⟩ : ∃ c, c = manyB f ip := ⟨_, rfl⟩
  rw [← hR, ← hb, ← hc] at hE
  rw [← hR]
  rw [← hb] at h1
  rw [← hc] at h2
  have HM := Lib.hid hM
  have H1 := Lib.hid h1
  have H2 := Lib.hid h2
  have HE := Lib.hid hE
  clear h1 h2 hE hR hb hc hM
  cases b
  all_goals
    go_enter Tryz.func18, Tryz.ntmps18
    go_wp2_with (first
      | ((with_reducible show wpList _ _ _ (Oper.mk _ (Op.box _ _) _ _ _ _ :: _) _ _); refine wpList_boxS rfl _ _ rfl (adCs f ip z).toArray rfl S ?_; clear S; intro ga w1 S)
      | ((with_reducible refine (H1.out _).mono ?_); rintro e w2 ⟨rfl, hb⟩; have S := S.call hb; clear hb)
      | ((with_reducible refine (H2.out _).mono ?_); rintro e w2 ⟨rfl, hb⟩; have S := S.call hb; clear hb)
      | ((with_reducible show wpList _ _ _ (Oper.mk (some 4) _ _ _ _ _ :: _) _ _); refine wpList_oldPartS rfl _ _ rfl S _ 0 rfl _ Tryz.underlying49 rfl (preCs 4 ip224 0 4) many4Size (fun j v hv => by rw [Nat.zero_add]; exact HM.out j v hv) ?_)
      | ((with_reducible show wpList _ _ _ (Oper.mk _ (Op.load _ (Operand.tmp 1)) _ _ _ _ :: _) _ _); refine wpList_loadS rfl _ _ rfl S _ rfl 0 _ _ rfl _ Tryz.underlying24 rfl haf ?_))
    go_ret
    exact ⟨by rw [HE.out]; rfl, S.below⟩
end Go.Proofs.YthbdeafbdmbabaaGreatDoor
namespace Go.Proofs.YthbdeafbdmbabaaGreatDoor
open Go.RowKit Go
set_option linter.unusedVariables false
set_option maxRecDepth 100000
set_option maxHeartbeats 1000000 in
theorem rBits_any (f z : Int) (ip : List UInt8) (w : World) (hip : ip.length = 16) :
    Calls Tryz.prog 9 #[adV f ip z] w fun e w' => e = .returned (.int .i64 (bitsF f)) ∧ Below w.heap.size w w' := by
  have S := Ats.start w
  have hf := ad_fam f z ip
  rcases fam3 f with rfl | rfl | hn
  · go_enter Tryz.func9, Tryz.ntmps9
    go_wp2_with (first
      | ((with_reducible show wpList _ _ _ (Oper.mk _ (Op.box _ _) _ _ _ _ :: _) _ _); refine wpList_boxS rfl _ _ rfl (adCs 4 ip z).toArray rfl S ?_; clear S; intro ga w1 S)
      | ((with_reducible show wpList _ _ _ (Oper.mk _ (Op.load _ _) _ _ _ _ :: _) _ _); refine wpList_cellS rfl _ _ rfl S _ _ rfl 0 _ _ rfl _ Tryz.underlying3 rfl _ (by with_reducible exact hf) ?_))
    go_ret
    exact ⟨rfl, S.below⟩
  · go_enter Tryz.func9, Tryz.ntmps9
    go_wp2_with (first
      | ((with_reducible show wpList _ _ _ (Oper.mk _ (Op.box _ _) _ _ _ _ :: _) _ _); refine wpList_boxS rfl _ _ rfl (adCs 6 ip z).toArray rfl S ?_; clear S; intro ga w1 S)
      | ((with_reducible show wpList _ _ _ (Oper.mk _ (Op.load _ _) _ _ _ _ :: _) _ _); refine wpList_cellS rfl _ _ rfl S _ _ rfl 0 _ _ rfl _ Tryz.underlying3 rfl _ (by with_reducible exact hf) ?_))
    go_ret
    exact ⟨rfl, S.below⟩
  · have h4 : (f == 4) = false := by simpa using hn.1
    have h6 : (f == 6) = false := by simpa using hn.2
    rw [bitsF_no hn]
    clear hn
    go_enter Tryz.func9, Tryz.ntmps9
    go_wp2_with (first
      | ((with_reducible show wpList _ _ _ (Oper.mk _ (Op.box _ _) _ _ _ _ :: _) _ _); refine wpList_boxS rfl _ _ rfl (adCs f ip z).toArray rfl S ?_; clear S; intro ga w1 S)
      | ((with_reducible show wpList _ _ _ (Oper.mk _ (Op.load _ _) _ _ _ _ :: _) _ _); refine wpList_cellS rfl _ _ rfl S _ _ rfl 0 _ _ rfl _ Tryz.underlying3 rfl _ (by with_reducible exact hf) ?_))
    go_ret
    exact ⟨rfl, S.below⟩
set_option maxHeartbeats 1000000 in
theorem rText_any (f z : Int) (ip : List UInt8) (w : World) (hip : ip.length = 16) (hz0 : -9223372036854775808 ≤ z) (hz : z ≤ 9223372036854775807) :
    Calls Tryz.prog 11 #[adV f ip z] w fun e w' => e = .returned (.string ⟨(textA f ip z).toArray⟩) ∧ Below w.heap.size w w' := by
  have S := Ats.start w
  have hf := ad_fam f z ip
  have h1 := fun w => refText_any f z ip w hip
  have h2 := fun w => refText_any8 f z ip w hip hz0 hz
  have H1 := Lib.hid h1
  have H2 := Lib.hid h2
  clear h1 h2 hz0 hz
  obtain ⟨T, hT⟩ : ∃ T, T = textA f ip z := ⟨_, rfl⟩
  have hT' : T = if f = 4 then quadI ip else if f = 6 then textC ip z else [] := hT
  rw [← hT]
  clear hT
  rcases fam3 f with rfl | rfl | hn
  · rw [if_pos rfl] at hT'
    have HT := Lib.hid hT'
    clear hT'
    go_enter Tryz.func11, Tryz.ntmps11
    go_wp2_with (first
      | ((with_reducible show wpList _ _ _ (Oper.mk _ (Op.box _ _) _ _ _ _ :: _) _ _); refine wpList_boxS rfl _ _ rfl (adCs 4 ip z).toArray rfl S ?_; clear S; intro ga w1 S)
      | ((with_reducible refine (H1.out _).mono ?_); rintro e w2 ⟨rfl, hb⟩; have S := S.call hb; clear hb)
      | ((with_reducible show wpList _ _ _ (Oper.mk _ (Op.load _ _) _ _ _ _ :: _) _ _); refine wpList_loadS rfl _ _ rfl S _ rfl 0 _ _ rfl _ Tryz.underlying24 rfl (adSize _ _ _ hip) ?_)
      | ((with_reducible show wpList _ _ _ (Oper.mk _ (Op.load _ _) _ _ _ _ :: _) _ _); refine wpList_cellS rfl _ _ rfl S _ _ rfl 0 _ _ rfl _ Tryz.underlying3 rfl _ (by with_reducible exact hf) ?_))
    go_ret
    exact ⟨by rw [HT.out]; rfl, S.below⟩
  · rw [if_neg (by decide), if_pos rfl] at hT'
    have HT := Lib.hid hT'
    clear hT'
    go_enter Tryz.func11, Tryz.ntmps11
    go_wp2_with (first
      | ((with_reducible show wpList _ _ _ (Oper.mk _ (Op.box _ _) _ _ _ _ :: _) _ _); refine wpList_boxS rfl _ _ rfl (adCs 6 ip z).toArray rfl S ?_; clear S; intro ga w1 S)
      | ((with_reducible refine (H2.out _).mono ?_); rintro e w2 ⟨rfl, hb⟩; have S := S.call hb; clear hb)
      | ((with_reducible show wpList _ _ _ (Oper.mk _ (Op.load _ _) _ _ _ _ :: _) _ _); refine wpList_loadS rfl _ _ rfl S _ rfl 0 _ _ rfl _ Tryz.underlying24 rfl (adSize _ _ _ hip) ?_)
      | ((with_reducible show wpList _ _ _ (Oper.mk _ (Op.load _ _) _ _ _ _ :: _) _ _); refine wpList_cellS rfl _ _ rfl S _ _ rfl 0 _ _ rfl _ Tryz.underlying3 rfl _ (by with_reducible exact hf) ?_))
    go_ret
    exact ⟨by rw [HT.out]; rfl, S.below⟩
  · have h4 : (f == 4) = false := by simpa using hn.1
    have h6 : (f == 6) = false := by simpa using hn.2
    rw [if_neg hn.1, if_neg hn.2] at hT'
    subst hT'
    clear hn
    go_enter Tryz.func11, Tryz.ntmps11
    go_wp2_with (first
      | ((with_reducible show wpList _ _ _ (Oper.mk _ (Op.box _ _) _ _ _ _ :: _) _ _); refine wpList_boxS rfl _ _ rfl (adCs f ip z).toArray rfl S ?_; clear S; intro ga w1 S)
      | ((with_reducible show wpList _ _ _ (Oper.mk _ (Op.load _ _) _ _ _ _ :: _) _ _); refine wpList_cellS rfl _ _ rfl S _ _ rfl 0 _ _ rfl _ Tryz.underlying3 rfl _ (by with_reducible exact hf) ?_))
    go_ret
    exact ⟨rfl, S.below⟩
theorem low4_hi (a b c d : UInt8) (j : Nat) (h4 : 4 ≤ j) (h16 : j < 16) : (quad16 a b c d).getD j 0 = 0 := by
  have : j = 4 ∨ j = 5 ∨ j = 6 ∨ j = 7 ∨ j = 8 ∨ j = 9 ∨ j = 10 ∨ j = 11 ∨ j = 12 ∨ j = 13 ∨ j = 14 ∨ j = 15 := by omega
  rcases this with rfl | rfl | rfl | rfl | rfl | rfl | rfl | rfl | rfl | rfl | rfl | rfl <;> rfl
theorem low4_of (ip : List UInt8) (hip : ip.length = 16) (h : ∀ j, 4 ≤ j → j < 16 → ip.getD j 0 = 0) : ip = low4 ip := by
  refine List.ext_getElem (by rw [hip]; rfl) fun i h1 h2 => ?_
  have key : ∀ (l : List UInt8) (hl : i < l.length), l[i] = l.getD i 0 := fun l hl => by rw [List.getD_eq_getElem?_getD, List.getElem?_eq_getElem hl]; rfl
  rw [key _ h1, key _ h2]
  by_cases h4 : 4 ≤ i
  · rw [h i h4 (by omega)]
    exact (low4_hi _ _ _ _ i h4 (by omega)).symm
  · have : i = 0 ∨ i = 1 ∨ i = 2 ∨ i = 3 := by omega
    rcases this with rfl | rfl | rfl | rfl <;> rfl
theorem u8_ne0 (c : UInt8) : (((c.toNat : Nat) : Int) != 0) = (c != 0) := by
  have : (((c.toNat : Nat) : Int) == 0) = (c == 0) := by
    rw [Bool.eq_iff_iff, beq_iff_eq, beq_iff_eq]
    constructor
    · intro h
      apply UInt8.toNat_inj.1
      show c.toNat = 0
      omega
    · rintro rfl; rfl
  show (!_) = (!_)
  rw [this]
set_option maxHeartbeats 2000000 in
theorem rCheck_any (f z : Int) (ip : List UInt8) (w : World) (hip : ip.length = 16) :
    Calls Tryz.prog 7 #[adV f ip z] w fun e w' => e = .returned (.int .i64 (checkE f ip z)) ∧ Below w.heap.size w w' := by
  have S := Ats.start w
  have hf := ad_fam f z ip
  have hz := ad_zone f z ip hip
  rcases fam3 f with rfl | rfl | hn
  · have hR : checkE 4 ip z = if ip = low4 ip ∧ z = 0 then 0 else 5 := rfl
    obtain ⟨R, hR'⟩ : ∃ R, R = checkE 4 ip z := ⟨_, rfl⟩
    rw [← hR'] at hR ⊢
    have HR := Lib.hid hR
    have HZ := Lib.hid hz
    clear hR hR' hz
    go_enter Tryz.func7, Tryz.ntmps7
    go_wp2_with (first
      | ((with_reducible show wpList _ _ _ (Oper.mk _ (Op.box _ _) _ _ _ _ :: _) _ _); refine wpList_boxS rfl _ _ rfl (adCs 4 ip z).toArray rfl S ?_; clear S; intro ga w1 S)
      | ((with_reducible show wpList _ _ _ (Oper.mk _ (Op.load _ _) _ _ _ _ :: _) _ _); refine wpList_cellS rfl _ _ rfl S _ _ rfl 0 _ _ rfl _ Tryz.underlying3 rfl _ (by with_reducible exact hf) ?_))
    go_loopw [3] (fun i wr => ∃ k : Nat, 4 ≤ k ∧ k ≤ 16 ∧ i = .int .i64 k ∧ (∀ j, 4 ≤ j → j < k → ip.getD j 0 = 0) ∧ Ats w.heap.size w wr [(ga, 24, (adCs 4 ip z).toArray)]) (fun i _ => 16 - (intOf i).toNat)
    case atStart => exact ⟨4, Nat.le_refl _, by decide, rfl, fun j h1 h2 => absurd h2 (by omega), S⟩
    case round =>
      obtain ⟨k, hk4, hk, rfl, hall, S⟩ := hrel
      have HA := Lib.hid hall
      have HK4 := Lib.hid hk4
      clear hall hk4
      by_cases hlt : k < 16
      · have c0 := ad_at 4 z ip k hip hlt
        have hne := u8_ne0 (ip.getD k 0)
        obtain ⟨x, hx⟩ : ∃ x, x = ip.getD k 0 := ⟨_, rfl⟩
        rw [← hx] at c0 hne
        have C0 := Lib.hid c0
        have HX := Lib.hid hx
        have HLT := Lib.hid hlt
        have hlt' : (k : Int) < 16 := by omega
        have d1 : decide ((k : Int) < 16) = true := decide_eq_true hlt'
        clear c0 hx
        by_cases h0 : x = 0
        · have t0 : (x != 0) = false := by simpa using h0
          rw [t0] at hne
          have H0 := Lib.hid h0
          clear h0 t0
          go_wp2_with (first
            | ((with_reducible show wpList _ _ _ (Oper.mk _ (Op.load _ _) _ _ _ _ :: _) _ _); refine wpList_cellS rfl _ _ rfl S _ _ rfl 0 _ _ rfl _ Tryz.underlying5 rfl _ (by with_reducible exact C0.out) ?_))
          go_roundw
          case rel =>
            have hlt := HLT.out
            have hk4 := HK4.out
            refine ⟨k + 1, by omega, by omega, by go_num, fun j h1 h2 => ?_, S⟩
            by_cases hj : j = k
            · subst hj; rw [← HX.out]; exact H0.out
            · exact HA.out j h1 (by omega)
          case measure => have := HLT.out; simp [intOf]; omega
        · have t0 : (x != 0) = true := by simpa using h0
          rw [t0] at hne
          have hR5 : R = 5 := by
            rw [HR.out, if_neg]
            rintro ⟨h1, _⟩
            apply h0
            rw [HX.out, h1]
            exact low4_hi _ _ _ _ k HK4.out hlt
          have HR5 := Lib.hid hR5
          clear h0 t0 hR5
          go_wp2_with (first
            | ((with_reducible show wpList _ _ _ (Oper.mk _ (Op.load _ _) _ _ _ _ :: _) _ _); refine wpList_cellS rfl _ _ rfl S _ _ rfl 0 _ _ rfl _ Tryz.underlying5 rfl _ (by with_reducible exact C0.out) ?_))
          go_ret
          exact ⟨by rw [HR5.out]; rfl, S.below⟩
      · obtain rfl : k = 16 := by omega
        have hlow := low4_of ip hip HA.out
        have hR := HR.out
        by_cases h0 : z = 0
        · rw [if_pos ⟨hlow, h0⟩] at hR
          subst h0
          have HR2 := Lib.hid hR
          clear hR hlow hlt
          go_wp2_with (first
            | ((with_reducible show wpList _ _ _ (Oper.mk _ (Op.load _ _) _ _ _ _ :: _) _ _); refine wpList_cellS rfl _ _ rfl S _ _ rfl 0 _ _ rfl _ Tryz.underlying3 rfl _ (by with_reducible exact HZ.out) ?_))
          go_ret
          exact ⟨by rw [HR2.out]; rfl, S.below⟩
        · rw [if_neg (fun h => h0 h.2)] at hR
          have t0 : (z != 0) = true := by simpa using h0
          have HR2 := Lib.hid hR
          clear hR hlow hlt h0
          go_wp2_with (first
            | ((with_reducible show wpList _ _ _ (Oper.mk _ (Op.load _ _) _ _ _ _ :: _) _ _); refine wpList_cellS rfl _ _ rfl S _ _ rfl 0 _ _ rfl _ Tryz.underlying3 rfl _ (by with_reducible exact HZ.out) ?_))
          go_ret
          exact ⟨by rw [HR2.out]; rfl, S.below⟩
  · obtain ⟨R, hR⟩ : ∃ R, R = checkE 6 ip z := ⟨_, rfl⟩
    have hR' : R = if z < 0 ∨ 2147483647 < z then 4 else 0 := hR
    rw [← hR]
    clear hR
    by_cases z0 : z < 0
    · rw [if_pos (.inl z0)] at hR'
      have d0 : decide (z < 0) = true := decide_eq_true z0
      subst hR'
      clear z0
      go_enter Tryz.func7, Tryz.ntmps7
      go_wp2_with (first
        | ((with_reducible show wpList _ _ _ (Oper.mk _ (Op.box _ _) _ _ _ _ :: _) _ _); refine wpList_boxS rfl _ _ rfl (adCs 6 ip z).toArray rfl S ?_; clear S; intro ga w1 S)
        | ((with_reducible show wpList _ _ _ (Oper.mk _ (Op.load _ _) _ _ _ _ :: _) _ _); refine wpList_cellS rfl _ _ rfl S _ _ rfl 0 _ _ rfl _ Tryz.underlying3 rfl _ (by with_reducible exact hf) ?_)
        | ((with_reducible show wpList _ _ _ (Oper.mk _ (Op.load _ _) _ _ _ _ :: _) _ _); refine wpList_cellS rfl _ _ rfl S _ _ rfl 0 _ _ rfl _ Tryz.underlying3 rfl _ (by with_reducible exact hz) ?_))
      go_ret
      exact ⟨rfl, S.below⟩
    · have d0 : decide (z < 0) = false := decide_eq_false z0
      by_cases z1 : 2147483647 < z
      · rw [if_pos (.inr z1)] at hR'
        have d1 : decide (2147483647 < z) = true := decide_eq_true z1
        subst hR'
        clear z0 z1
        go_enter Tryz.func7, Tryz.ntmps7
        go_wp2_with (first
          | ((with_reducible show wpList _ _ _ (Oper.mk _ (Op.box _ _) _ _ _ _ :: _) _ _); refine wpList_boxS rfl _ _ rfl (adCs 6 ip z).toArray rfl S ?_; clear S; intro ga w1 S)
          | ((with_reducible show wpList _ _ _ (Oper.mk _ (Op.load _ _) _ _ _ _ :: _) _ _); refine wpList_cellS rfl _ _ rfl S _ _ rfl 0 _ _ rfl _ Tryz.underlying3 rfl _ (by with_reducible exact hf) ?_)
          | ((with_reducible show wpList _ _ _ (Oper.mk _ (Op.load _ _) _ _ _ _ :: _) _ _); refine wpList_cellS rfl _ _ rfl S _ _ rfl 0 _ _ rfl _ Tryz.underlying3 rfl _ (by with_reducible exact hz) ?_))
        go_ret
        exact ⟨rfl, S.below⟩
      · rw [if_neg (fun h => h.elim z0 z1)] at hR'
        have d1 : decide (2147483647 < z) = false := decide_eq_false z1
        subst hR'
        clear z0 z1
        go_enter Tryz.func7, Tryz.ntmps7
        go_wp2_with (first
          | ((with_reducible show wpList _ _ _ (Oper.mk _ (Op.box _ _) _ _ _ _ :: _) _ _); refine wpList_boxS rfl _ _ rfl (adCs 6 ip z).toArray rfl S ?_; clear S; intro ga w1 S)
          | ((with_reducible show wpList _ _ _ (Oper.mk _ (Op.load _ _) _ _ _ _ :: _) _ _); refine wpList_cellS rfl _ _ rfl S _ _ rfl 0 _ _ rfl _ Tryz.underlying3 rfl _ (by with_reducible exact hf) ?_)
          | ((with_reducible show wpList _ _ _ (Oper.mk _ (Op.load _ _) _ _ _ _ :: _) _ _); refine wpList_cellS rfl _ _ rfl S _ _ rfl 0 _ _ rfl _ Tryz.underlying3 rfl _ (by with_reducible exact hz) ?_))
        go_ret
        exact ⟨rfl, S.below⟩
  · have h4 : (f != 4) = true := by simpa using hn.1
    have h6 : (f != 6) = true := by simpa using hn.2
    have hR : checkE f ip z = 10 := by unfold checkE; rw [if_neg hn.1, if_neg hn.2]
    rw [hR]
    clear hn hR
    go_enter Tryz.func7, Tryz.ntmps7
    go_wp2_with (first
      | ((with_reducible show wpList _ _ _ (Oper.mk _ (Op.box _ _) _ _ _ _ :: _) _ _); refine wpList_boxS rfl _ _ rfl (adCs f ip z).toArray rfl S ?_; clear S; intro ga w1 S)
      | ((with_reducible show wpList _ _ _ (Oper.mk _ (Op.load _ _) _ _ _ _ :: _) _ _); refine wpList_cellS rfl _ _ rfl S _ _ rfl 0 _ _ rfl _ Tryz.underlying3 rfl _ (by with_reducible exact hf) ?_))
    go_ret
    exact ⟨rfl, S.below⟩
def mapP (ip : List UInt8) (k : Nat) : List UInt8 := map16 (if 0 < k then ip.getD 0 0 else 0) (if 1 < k then ip.getD 1 0 else 0) (if 2 < k then ip.getD 2 0 else 0) (if 3 < k then ip.getD 3 0 else 0)
theorem mapP_set (ip : List UInt8) (k : Nat) (hk : k < 4) : (adCs 6 (mapP ip k) 0).toArray.setIfInBounds (1 + (12 + k)) (.int .u8 (ip.getD k 0).toNat) = (adCs 6 (mapP ip (k + 1)) 0).toArray := by
  match k, hk with
  | 0, _ => rfl
  | 1, _ => rfl
  | 2, _ => rfl
  | 3, _ => rfl
set_option maxHeartbeats 2000000 in
theorem rMap_any (f z : Int) (ip : List UInt8) (w : World) (hip : ip.length = 16) :
    Calls Tryz.prog 13 #[adV f ip z] w fun e w' => e = .returned (adV (mapE f ip z).fam (mapE f ip z).ip (mapE f ip z).zone) ∧ Below w.heap.size w w' := by
  have S := Ats.start w
  have hf := ad_fam f z ip
  by_cases h4 : f = 4
  · subst h4
    have hm : mapE 4 ip z = ⟨6, map4 ip, 0⟩ := rfl
    rw [hm]
    clear hm
    go_enter Tryz.func13, Tryz.ntmps13
    go_wp2_with (first
      | ((with_reducible show wpList _ _ _ (Oper.mk _ (Op.box _ _) _ _ _ _ :: _) _ _); refine wpList_boxS rfl _ _ rfl (adCs 4 ip z).toArray rfl S ?_; clear S; intro ga w1 S)
      | ((with_reducible show wpList _ _ _ (Oper.mk (some 2) (Op.alloc _) _ _ _ _ :: _) _ _); refine wpList_allocS rfl _ rfl _ adZero S ?_; clear S; intro gr w1 S)
      | ((with_reducible show wpList _ _ _ (Oper.mk (some 3) (Op.alloc _) _ _ _ _ :: _) _ _); refine wpList_allocS rfl _ rfl _ adZero S ?_; clear S; intro gl w1 S)
      | ((with_reducible show wpList _ _ _ (Oper.mk _ (Op.load _ _) _ _ _ _ :: _) _ _); refine wpList_cellS rfl _ _ rfl S _ _ rfl 1 _ _ rfl _ Tryz.underlying3 rfl _ (by with_reducible exact hf) ?_)
      | ((with_reducible show wpList _ _ _ (Oper.mk _ (Op.store _ (Operand.tmp 3) _) _ _ _ _ :: _) _ _); refine wpList_storeS rfl _ _ _ rfl S _ rfl _ rfl 0 _ _ rfl adInfo (by rfl) (by simp [Value.oneCell']) ?_; clear S; intro w1 S; (first | simp only [List.set_cons_zero] at S | simp only [List.set_cons_succ, List.set_cons_zero] at S | skip))
      | ((with_reducible show wpList _ _ _ (Oper.mk _ (Op.store _ (Operand.tmp 11) _) _ _ _ _ :: _) _ _); refine wpList_putS rfl _ _ _ rfl S _ _ rfl _ rfl rfl rfl 0 _ _ rfl u8Size (by decide) ?_; clear S; intro w1 S; (first | simp only [List.set_cons_zero] at S | simp only [List.set_cons_succ, List.set_cons_zero] at S | skip))
      | ((with_reducible show wpList _ _ _ (Oper.mk _ (Op.store _ (Operand.tmp 13) _) _ _ _ _ :: _) _ _); refine wpList_putS rfl _ _ _ rfl S _ _ rfl _ rfl rfl rfl 0 _ _ rfl u8Size (by simp) ?_; clear S; intro w1 S; (first | simp only [List.set_cons_zero] at S | simp only [List.set_cons_succ, List.set_cons_zero] at S | skip)))
    have S : Ats w.heap.size w w1 [(gl, 24, (adCs 6 (mapP ip 0) 0).toArray), (gr, 24, (adCs 0 zero16 0).toArray), (ga, 24, (adCs 4 ip z).toArray)] := S
    go_loopw [4] (fun i wr => ∃ k : Nat, k ≤ 4 ∧ i = .int .i64 k ∧ Ats w.heap.size w wr [(gl, 24, (adCs 6 (mapP ip k) 0).toArray), (gr, 24, (adCs 0 zero16 0).toArray), (ga, 24, (adCs 4 ip z).toArray)]) (fun i _ => 4 - (intOf i).toNat)
    case atStart => exact ⟨0, Nat.zero_le _, rfl, S⟩
    case round =>
      obtain ⟨k, hk, rfl, S⟩ := hrel
      by_cases hlt : k < 4
      · have c0 := ad_at 4 z ip k hip (by omega)
        have hs := mapP_set ip k hlt
        obtain ⟨x, hx⟩ : ∃ x, x = ip.getD k 0 := ⟨_, rfl⟩
        rw [← hx] at c0 hs
        have C0 := Lib.hid c0
        have HS := Lib.hid hs
        have HLT := Lib.hid hlt
        have e1 : IntKind.i64.wrap (12 + (k : Int)) = ((12 + k : Nat) : Int) := by rw [IntWalk.i64_in _ (by omega)]; omega
        have b1 : k < 16 := by omega
        have b1' : (k : Int) < 16 := by omega
        have b2 : (12 + k : Nat) < 16 := by omega
        have b2' : (12 : Int) + k < 16 := by omega
        have d1 : decide ((k : Int) < 4) = true := decide_eq_true (by omega)
        have hpl : (mapP ip k).length = 16 := rfl
        obtain ⟨P0, hP0⟩ : ∃ P, P = mapP ip k := ⟨_, rfl⟩
        rw [← hP0] at hpl S HS
        have hsz0 : 1 + (12 + k) < (adCs 6 P0 0).toArray.size := by rw [List.size_toArray, adCs_len, hpl]; omega
        clear c0 hs hx hP0
        go_wp2_with (first
          | ((with_reducible show wpList _ _ _ (Oper.mk _ (Op.load _ _) _ _ _ _ :: _) _ _); refine wpList_cellS rfl _ _ rfl S _ _ rfl 2 _ _ rfl _ Tryz.underlying5 rfl _ (by with_reducible exact C0.out) ?_)
          | ((with_reducible show wpList _ _ _ (Oper.mk _ (Op.store _ (Operand.tmp 25) _) _ _ _ _ :: _) _ _); refine wpList_putS rfl _ _ _ rfl S _ _ rfl _ rfl rfl rfl 0 _ _ rfl u8Size (by exact hsz0) ?_; clear S; intro w1 S; (first | simp only [List.set_cons_zero] at S | simp only [List.set_cons_succ, List.set_cons_zero] at S | skip)))
        have S : Ats w.heap.size w w1 [(gl, 24, (adCs 6 P0 0).toArray.setIfInBounds (1 + (12 + k)) (.int .u8 x.toNat)), (gr, 24, (adCs 0 zero16 0).toArray), (ga, 24, (adCs 4 ip z).toArray)] := S
        rw [HS.out] at S
        go_roundw
        case rel => exact ⟨k + 1, by have := HLT.out; omega, by go_num, S⟩
        case measure => have := HLT.out; simp [intOf]; omega
      · obtain rfl : k = 4 := by omega
        have S : Ats w.heap.size w wr [(gl, 24, (adCs 6 (map4 ip) 0).toArray), (gr, 24, (adCs 0 zero16 0).toArray), (ga, 24, (adCs 4 ip z).toArray)] := S
        go_wp2_with (first
          | ((with_reducible show wpList _ _ _ (Oper.mk _ (Op.load _ (Operand.tmp 3)) _ _ _ _ :: _) _ _); refine wpList_loadS rfl _ _ rfl S _ rfl 0 _ _ rfl _ Tryz.underlying24 rfl adInfo ?_)
          | ((with_reducible show wpList _ _ _ (Oper.mk _ (Op.store _ (Operand.tmp 2) _) _ _ _ _ :: _) _ _); refine wpList_storeS rfl _ _ _ rfl S _ rfl _ rfl 1 _ _ rfl adInfo (by rfl) (by exact adCs_one _ _ _) ?_; clear S; intro w1 S; (first | simp only [List.set_cons_zero] at S | simp only [List.set_cons_succ, List.set_cons_zero] at S | skip)))
        exact bodyPost_ret (results_cellS rfl _ S _ 1 _ _ _ rfl rfl Tryz.underlying24 rfl adInfo) rfl ⟨rfl, S.below⟩
  · have t4 : (f != 4) = true := by simpa using h4
    rw [mapE_no ip z h4]
    have has := adSize f ip z hip
    clear h4
    go_enter Tryz.func13, Tryz.ntmps13
    go_wp2_with (first
      | ((with_reducible show wpList _ _ _ (Oper.mk _ (Op.box _ _) _ _ _ _ :: _) _ _); refine wpList_boxS rfl _ _ rfl (adCs f ip z).toArray rfl S ?_; clear S; intro ga w1 S)
      | ((with_reducible show wpList _ _ _ (Oper.mk (some 2) (Op.alloc _) _ _ _ _ :: _) _ _); refine wpList_allocS rfl _ rfl _ adZero S ?_; clear S; intro gr w1 S)
      | ((with_reducible show wpList _ _ _ (Oper.mk _ (Op.load _ _) _ _ _ _ :: _) _ _); refine wpList_cellS rfl _ _ rfl S _ _ rfl 1 _ _ rfl _ Tryz.underlying3 rfl _ (by with_reducible exact hf) ?_)
      | ((with_reducible show wpList _ _ _ (Oper.mk _ (Op.load _ (Operand.tmp 1)) _ _ _ _ :: _) _ _); refine wpList_loadS rfl _ _ rfl S _ rfl 1 _ _ rfl _ Tryz.underlying24 rfl has ?_)
      | ((with_reducible show wpList _ _ _ (Oper.mk _ (Op.store _ (Operand.tmp 2) _) _ _ _ _ :: _) _ _); refine wpList_storeS rfl _ _ _ rfl S _ rfl _ rfl 0 _ _ rfl has (by exact ad_sizes _ _ _ _ _ _ rfl hip) (by exact adCs_one _ _ _) ?_; clear S; intro w1 S; (first | simp only [List.set_cons_zero] at S | simp only [List.set_cons_succ, List.set_cons_zero] at S | skip)))
    exact bodyPost_ret (results_cellS rfl _ S _ 0 _ _ _ rfl rfl Tryz.underlying24 rfl has) rfl ⟨rfl, S.below⟩
set_option maxHeartbeats 4000000 in
theorem rUnmap_any (f z : Int) (ip : List UInt8) (w : World) (hip : ip.length = 16) :
    Calls Tryz.prog 15 #[adV f ip z] w fun e w' => e = .returned (adV (unmapE f ip z).fam (unmapE f ip z).ip (unmapE f ip z).zone) ∧ Below w.heap.size w w' := by
  have S := Ats.start w
  have hf := ad_fam f z ip
  have c12 : (adCs f ip z).toArray[13]? = some (.int .u8 (ip.getD 12 0).toNat) := ad_at f z ip 12 hip (by decide)
  have c13 : (adCs f ip z).toArray[14]? = some (.int .u8 (ip.getD 13 0).toNat) := ad_at f z ip 13 hip (by decide)
  have c14 : (adCs f ip z).toArray[15]? = some (.int .u8 (ip.getD 14 0).toNat) := ad_at f z ip 14 hip (by decide)
  have c15 : (adCs f ip z).toArray[16]? = some (.int .u8 (ip.getD 15 0).toNat) := ad_at f z ip 15 hip (by decide)
  have h1 := fun w => refOf_any (ip.getD 12 0) (ip.getD 13 0) (ip.getD 14 0) (ip.getD 15 0) w
  rw [show quad16 (ip.getD 12 0) (ip.getD 13 0) (ip.getD 14 0) (ip.getD 15 0) = top4 ip from rfl] at h1
  have h2 := fun w => rMap_any 4 0 (top4 ip) w rfl
  rw [show mapE 4 (top4 ip) 0 = ⟨6, map4 (top4 ip), 0⟩ from rfl] at h2
  simp only at h2
  have w12 := wrapU8 (ip.getD 12 0)
  have w13 := wrapU8 (ip.getD 13 0)
  have w14 := wrapU8 (ip.getD 14 0)
  have w15 := wrapU8 (ip.getD 15 0)
  have hN := fun w => ip_eqlB w ip (map4 (top4 ip)) hip rfl
  have hG := ip_guard
  have has := adSize f ip z hip
  have hin : (Tryz.prog.info? 22).map (·.size) = some (ip.map cellU).length := by rw [z16Size]; simp [hip]
  have hcl := ip_cells f z ip
  have htl : (top4 ip).length = 16 := rfl
  have hml : (map4 (top4 ip)).length = 16 := rfl
  have hU : unmapE f ip z = if f = 6 ∧ ip = map4 (top4 ip) then ⟨4, top4 ip, 0⟩ else ⟨f, ip, z⟩ := rfl
  obtain ⟨U, hU'⟩ : ∃ U, U = unmapE f ip z := ⟨_, rfl⟩
  rw [← hU'] at hU ⊢
  obtain ⟨x12, e12⟩ : ∃ x, x = ip.getD 12 0 := ⟨_, rfl⟩
  obtain ⟨x13, e13⟩ : ∃ x, x = ip.getD 13 0 := ⟨_, rfl⟩
  obtain ⟨x14, e14⟩ : ∃ x, x = ip.getD 14 0 := ⟨_, rfl⟩
  obtain ⟨x15, e15⟩ : ∃ x, x = ip.getD 15 0 := ⟨_, rfl⟩
  rw [← e12] at c12 h1 w12
  rw [← e13] at c13 h1 w13
  rw [← e14] at c14 h1 w14
  rw [← e15] at c15 h1 w15
  obtain ⟨M, hM⟩ : ∃ M, M = map4 (top4 ip) := ⟨_, rfl⟩
  rw [← hM] at h2 hN hU hml
  obtain ⟨T, hT⟩ : ∃ T, T = top4 ip := ⟨_, rfl⟩
  rw [← hT] at h1 h2 hU htl
  have hinM : (Tryz.prog.info? 22).map (·.size) = some (M.map cellU).length := by rw [z16Size]; simp [hml]
  have hclM := ip_cells 6 0 M
  have hasM := adSize 6 M 0 hml
  have hasT := adSize 4 T 0 htl
  have HF := Lib.hid hf
  have C12 := Lib.hid c12
  have C13 := Lib.hid c13
  have C14 := Lib.hid c14
  have C15 := Lib.hid c15
  have H1 := Lib.hid h1
  have H2 := Lib.hid h2
  clear hU' e12 e13 e14 e15 hM hT h1 h2 c12 c13 c14 c15 hf
  by_cases h6 : f = 6
  · subst h6
    by_cases he : ip = M
    · have hb : (ip == M) = true := by simpa using he
      rw [hb] at hN
      rw [if_pos ⟨rfl, he⟩] at hU
      subst hU
      clear he hb
      go_enter Tryz.func15, Tryz.ntmps15
      go_wp2_with (first
          | ((with_reducible show wpList _ _ _ (Oper.mk _ (Op.box _ _) _ _ _ _ :: _) _ _); refine wpList_boxS rfl _ _ rfl (adCs 6 ip z).toArray rfl S ?_; clear S; intro ga w1 S)
          | ((with_reducible show wpList _ _ _ (Oper.mk (some 2) (Op.alloc _) _ _ _ _ :: _) _ _); refine wpList_allocS rfl _ rfl _ adZero S ?_; clear S; intro gr w1 S)
          | ((with_reducible show wpList _ _ _ (Oper.mk (some 3) (Op.alloc _) _ _ _ _ :: _) _ _); refine wpList_allocS rfl _ rfl _ adZero S ?_; clear S; intro gb w1 S)
          | ((with_reducible show wpList _ _ _ (Oper.mk (some 4) (Op.alloc _) _ _ _ _ :: _) _ _); refine wpList_allocS rfl _ rfl _ adZero S ?_; clear S; intro gc w1 S)
          | ((with_reducible refine (H1.out _).mono ?_); rintro e w2 ⟨rfl, hb⟩; have S := S.call hb; clear hb)
          | ((with_reducible refine (H2.out _).mono ?_); rintro e w2 ⟨rfl, hb⟩; have S := S.call hb; clear hb)
          | ((with_reducible show wpList _ _ _ (Oper.mk _ (Op.load _ (Operand.tmp 6)) _ _ _ _ :: _) _ _); refine wpList_cellS rfl _ _ rfl S _ _ rfl 1 _ _ rfl _ Tryz.underlying5 rfl _ (by with_reducible exact C12.out) ?_)
          | ((with_reducible show wpList _ _ _ (Oper.mk _ (Op.load _ (Operand.tmp 10)) _ _ _ _ :: _) _ _); refine wpList_cellS rfl _ _ rfl S _ _ rfl 1 _ _ rfl _ Tryz.underlying5 rfl _ (by with_reducible exact C13.out) ?_)
          | ((with_reducible show wpList _ _ _ (Oper.mk _ (Op.load _ (Operand.tmp 14)) _ _ _ _ :: _) _ _); refine wpList_cellS rfl _ _ rfl S _ _ rfl 1 _ _ rfl _ Tryz.underlying5 rfl _ (by with_reducible exact C14.out) ?_)
          | ((with_reducible show wpList _ _ _ (Oper.mk _ (Op.load _ (Operand.tmp 18)) _ _ _ _ :: _) _ _); refine wpList_cellS rfl _ _ rfl S _ _ rfl 1 _ _ rfl _ Tryz.underlying5 rfl _ (by with_reducible exact C15.out) ?_)
          | ((with_reducible show wpList _ _ _ (Oper.mk _ (Op.load _ (Operand.tmp 24)) _ _ _ _ :: _) _ _); refine wpList_cellS rfl _ _ rfl S _ _ rfl 3 _ _ rfl _ Tryz.underlying3 rfl _ (by with_reducible exact HF.out) ?_)
          | ((with_reducible show wpList _ _ _ (Oper.mk (some 29) (Op.load _ _) _ _ _ _ :: _) _ _); refine wpList_partS rfl _ _ rfl S _ _ rfl 3 _ _ rfl _ Tryz.underlying22 rfl (ip.map cellU) hin hcl ?_)
          | ((with_reducible show wpList _ _ _ (Oper.mk (some 31) (Op.load _ _) _ _ _ _ :: _) _ _); refine wpList_partS rfl _ _ rfl S _ _ rfl 0 _ _ rfl _ Tryz.underlying22 rfl (M.map cellU) hinM hclM ?_)
          | ((with_reducible show wpList _ _ _ (Oper.mk _ (Op.store _ (Operand.tmp 3) _) _ _ _ _ :: _) _ _); refine wpList_storeS rfl _ _ _ rfl S _ rfl _ rfl 0 _ _ rfl hasT (by exact ad_sizes _ _ _ _ _ _ rfl htl) (by exact adCs_one _ _ _) ?_; clear S; intro w1 S; (first | simp only [List.set_cons_zero] at S | simp only [List.set_cons_succ, List.set_cons_zero] at S | skip))
          | ((with_reducible show wpList _ _ _ (Oper.mk _ (Op.load _ (Operand.tmp 3)) _ _ _ _ :: _) _ _); refine wpList_loadS rfl _ _ rfl S _ rfl 0 _ _ rfl _ Tryz.underlying24 rfl hasT ?_)
          | ((with_reducible show wpList _ _ _ (Oper.mk _ (Op.store _ (Operand.tmp 4) _) _ _ _ _ :: _) _ _); refine wpList_storeS rfl _ _ _ rfl S _ rfl _ rfl 0 _ _ rfl hasM (by exact ad_sizes _ _ _ _ _ _ rfl hml) (by exact adCs_one _ _ _) ?_; clear S; intro w1 S; (first | simp only [List.set_cons_zero] at S | simp only [List.set_cons_succ, List.set_cons_zero] at S | skip))
          | ((with_reducible show wpList _ _ _ (Oper.mk _ (Op.load _ (Operand.tmp 3)) _ _ _ _ :: _) _ _); refine wpList_loadS rfl _ _ rfl S _ rfl 1 _ _ rfl _ Tryz.underlying24 rfl hasT ?_)
          | ((with_reducible show wpList _ _ _ (Oper.mk _ (Op.store _ (Operand.tmp 2) _) _ _ _ _ :: _) _ _); refine wpList_storeS rfl _ _ _ rfl S _ rfl _ rfl 2 _ _ rfl hasT (by exact ad_sizes _ _ _ _ _ _ rfl htl) (by exact adCs_one _ _ _) ?_; clear S; intro w1 S; (first | simp only [List.set_cons_zero] at S | simp only [List.set_cons_succ, List.set_cons_zero] at S | skip)))
      exact bodyPost_ret (results_cellS rfl _ S _ 2 _ _ _ rfl rfl Tryz.underlying24 rfl hasT) rfl ⟨rfl, S.below⟩
    · have hb : (ip == M) = false := by simpa using he
      rw [hb] at hN
      rw [if_neg (fun h => he h.2)] at hU
      subst hU
      clear he hb
      go_enter Tryz.func15, Tryz.ntmps15
      go_wp2_with (first
          | ((with_reducible show wpList _ _ _ (Oper.mk _ (Op.box _ _) _ _ _ _ :: _) _ _); refine wpList_boxS rfl _ _ rfl (adCs 6 ip z).toArray rfl S ?_; clear S; intro ga w1 S)
          | ((with_reducible show wpList _ _ _ (Oper.mk (some 2) (Op.alloc _) _ _ _ _ :: _) _ _); refine wpList_allocS rfl _ rfl _ adZero S ?_; clear S; intro gr w1 S)
          | ((with_reducible show wpList _ _ _ (Oper.mk (some 3) (Op.alloc _) _ _ _ _ :: _) _ _); refine wpList_allocS rfl _ rfl _ adZero S ?_; clear S; intro gb w1 S)
          | ((with_reducible show wpList _ _ _ (Oper.mk (some 4) (Op.alloc _) _ _ _ _ :: _) _ _); refine wpList_allocS rfl _ rfl _ adZero S ?_; clear S; intro gc w1 S)
          | ((with_reducible refine (H1.out _).mono ?_); rintro e w2 ⟨rfl, hb⟩; have S := S.call hb; clear hb)
          | ((with_reducible refine (H2.out _).mono ?_); rintro e w2 ⟨rfl, hb⟩; have S := S.call hb; clear hb)
          | ((with_reducible show wpList _ _ _ (Oper.mk _ (Op.load _ (Operand.tmp 6)) _ _ _ _ :: _) _ _); refine wpList_cellS rfl _ _ rfl S _ _ rfl 1 _ _ rfl _ Tryz.underlying5 rfl _ (by with_reducible exact C12.out) ?_)
          | ((with_reducible show wpList _ _ _ (Oper.mk _ (Op.load _ (Operand.tmp 10)) _ _ _ _ :: _) _ _); refine wpList_cellS rfl _ _ rfl S _ _ rfl 1 _ _ rfl _ Tryz.underlying5 rfl _ (by with_reducible exact C13.out) ?_)
          | ((with_reducible show wpList _ _ _ (Oper.mk _ (Op.load _ (Operand.tmp 14)) _ _ _ _ :: _) _ _); refine wpList_cellS rfl _ _ rfl S _ _ rfl 1 _ _ rfl _ Tryz.underlying5 rfl _ (by with_reducible exact C14.out) ?_)
          | ((with_reducible show wpList _ _ _ (Oper.mk _ (Op.load _ (Operand.tmp 18)) _ _ _ _ :: _) _ _); refine wpList_cellS rfl _ _ rfl S _ _ rfl 1 _ _ rfl _ Tryz.underlying5 rfl _ (by with_reducible exact C15.out) ?_)
          | ((with_reducible show wpList _ _ _ (Oper.mk _ (Op.load _ (Operand.tmp 24)) _ _ _ _ :: _) _ _); refine wpList_cellS rfl _ _ rfl S _ _ rfl 3 _ _ rfl _ Tryz.underlying3 rfl _ (by with_reducible exact HF.out) ?_)
          | ((with_reducible show wpList _ _ _ (Oper.mk (some 29) (Op.load _ _) _ _ _ _ :: _) _ _); refine wpList_partS rfl _ _ rfl S _ _ rfl 3 _ _ rfl _ Tryz.underlying22 rfl (ip.map cellU) hin hcl ?_)
          | ((with_reducible show wpList _ _ _ (Oper.mk (some 31) (Op.load _ _) _ _ _ _ :: _) _ _); refine wpList_partS rfl _ _ rfl S _ _ rfl 0 _ _ rfl _ Tryz.underlying22 rfl (M.map cellU) hinM hclM ?_)
          | ((with_reducible show wpList _ _ _ (Oper.mk _ (Op.store _ (Operand.tmp 3) _) _ _ _ _ :: _) _ _); refine wpList_storeS rfl _ _ _ rfl S _ rfl _ rfl 0 _ _ rfl hasT (by exact ad_sizes _ _ _ _ _ _ rfl htl) (by exact adCs_one _ _ _) ?_; clear S; intro w1 S; (first | simp only [List.set_cons_zero] at S | simp only [List.set_cons_succ, List.set_cons_zero] at S | skip))
          | ((with_reducible show wpList _ _ _ (Oper.mk _ (Op.load _ (Operand.tmp 3)) _ _ _ _ :: _) _ _); refine wpList_loadS rfl _ _ rfl S _ rfl 0 _ _ rfl _ Tryz.underlying24 rfl hasT ?_)
          | ((with_reducible show wpList _ _ _ (Oper.mk _ (Op.store _ (Operand.tmp 4) _) _ _ _ _ :: _) _ _); refine wpList_storeS rfl _ _ _ rfl S _ rfl _ rfl 0 _ _ rfl hasM (by exact ad_sizes _ _ _ _ _ _ rfl hml) (by exact adCs_one _ _ _) ?_; clear S; intro w1 S; (first | simp only [List.set_cons_zero] at S | simp only [List.set_cons_succ, List.set_cons_zero] at S | skip))
          | ((with_reducible show wpList _ _ _ (Oper.mk _ (Op.load _ (Operand.tmp 1)) _ _ _ _ :: _) _ _); refine wpList_loadS rfl _ _ rfl S _ rfl 3 _ _ rfl _ Tryz.underlying24 rfl has ?_)
          | ((with_reducible show wpList _ _ _ (Oper.mk _ (Op.store _ (Operand.tmp 2) _) _ _ _ _ :: _) _ _); refine wpList_storeS rfl _ _ _ rfl S _ rfl _ rfl 2 _ _ rfl has (by exact ad_sizes _ _ _ _ _ _ rfl hip) (by exact adCs_one _ _ _) ?_; clear S; intro w1 S; (first | simp only [List.set_cons_zero] at S | simp only [List.set_cons_succ, List.set_cons_zero] at S | skip)))
      exact bodyPost_ret (results_cellS rfl _ S _ 2 _ _ _ rfl rfl Tryz.underlying24 rfl has) rfl ⟨rfl, S.below⟩
  · have t6 : (f == 6) = false := by simpa using h6
    rw [if_neg (fun h => h6 h.1)] at hU
    subst hU
    clear h6
    go_enter Tryz.func15, Tryz.ntmps15
    go_wp2_with (first
          | ((with_reducible show wpList _ _ _ (Oper.mk _ (Op.box _ _) _ _ _ _ :: _) _ _); refine wpList_boxS rfl _ _ rfl (adCs f ip z).toArray rfl S ?_; clear S; intro ga w1 S)
          | ((with_reducible show wpList _ _ _ (Oper.mk (some 2) (Op.alloc _) _ _ _ _ :: _) _ _); refine wpList_allocS rfl _ rfl _ adZero S ?_; clear S; intro gr w1 S)
          | ((with_reducible show wpList _ _ _ (Oper.mk (some 3) (Op.alloc _) _ _ _ _ :: _) _ _); refine wpList_allocS rfl _ rfl _ adZero S ?_; clear S; intro gb w1 S)
          | ((with_reducible show wpList _ _ _ (Oper.mk (some 4) (Op.alloc _) _ _ _ _ :: _) _ _); refine wpList_allocS rfl _ rfl _ adZero S ?_; clear S; intro gc w1 S)
          | ((with_reducible refine (H1.out _).mono ?_); rintro e w2 ⟨rfl, hb⟩; have S := S.call hb; clear hb)
          | ((with_reducible refine (H2.out _).mono ?_); rintro e w2 ⟨rfl, hb⟩; have S := S.call hb; clear hb)
          | ((with_reducible show wpList _ _ _ (Oper.mk _ (Op.load _ (Operand.tmp 6)) _ _ _ _ :: _) _ _); refine wpList_cellS rfl _ _ rfl S _ _ rfl 1 _ _ rfl _ Tryz.underlying5 rfl _ (by with_reducible exact C12.out) ?_)
          | ((with_reducible show wpList _ _ _ (Oper.mk _ (Op.load _ (Operand.tmp 10)) _ _ _ _ :: _) _ _); refine wpList_cellS rfl _ _ rfl S _ _ rfl 1 _ _ rfl _ Tryz.underlying5 rfl _ (by with_reducible exact C13.out) ?_)
          | ((with_reducible show wpList _ _ _ (Oper.mk _ (Op.load _ (Operand.tmp 14)) _ _ _ _ :: _) _ _); refine wpList_cellS rfl _ _ rfl S _ _ rfl 1 _ _ rfl _ Tryz.underlying5 rfl _ (by with_reducible exact C14.out) ?_)
          | ((with_reducible show wpList _ _ _ (Oper.mk _ (Op.load _ (Operand.tmp 18)) _ _ _ _ :: _) _ _); refine wpList_cellS rfl _ _ rfl S _ _ rfl 1 _ _ rfl _ Tryz.underlying5 rfl _ (by with_reducible exact C15.out) ?_)
          | ((with_reducible show wpList _ _ _ (Oper.mk _ (Op.load _ (Operand.tmp 24)) _ _ _ _ :: _) _ _); refine wpList_cellS rfl _ _ rfl S _ _ rfl 3 _ _ rfl _ Tryz.underlying3 rfl _ (by with_reducible exact HF.out) ?_)
          | ((with_reducible show wpList _ _ _ (Oper.mk (some 29) (Op.load _ _) _ _ _ _ :: _) _ _); refine wpList_partS rfl _ _ rfl S _ _ rfl 3 _ _ rfl _ Tryz.underlying22 rfl (ip.map cellU) hin hcl ?_)
          | ((with_reducible show wpList _ _ _ (Oper.mk (some 31) (Op.load _ _) _ _ _ _ :: _) _ _); refine wpList_partS rfl _ _ rfl S _ _ rfl 0 _ _ rfl _ Tryz.underlying22 rfl (M.map cellU) hinM hclM ?_)
          | ((with_reducible show wpList _ _ _ (Oper.mk _ (Op.store _ (Operand.tmp 3) _) _ _ _ _ :: _) _ _); refine wpList_storeS rfl _ _ _ rfl S _ rfl _ rfl 0 _ _ rfl hasT (by exact ad_sizes _ _ _ _ _ _ rfl htl) (by exact adCs_one _ _ _) ?_; clear S; intro w1 S; (first | simp only [List.set_cons_zero] at S | simp only [List.set_cons_succ, List.set_cons_zero] at S | skip))
          | ((with_reducible show wpList _ _ _ (Oper.mk _ (Op.load _ (Operand.tmp 3)) _ _ _ _ :: _) _ _); refine wpList_loadS rfl _ _ rfl S _ rfl 0 _ _ rfl _ Tryz.underlying24 rfl hasT ?_)
          | ((with_reducible show wpList _ _ _ (Oper.mk _ (Op.store _ (Operand.tmp 4) _) _ _ _ _ :: _) _ _); refine wpList_storeS rfl _ _ _ rfl S _ rfl _ rfl 0 _ _ rfl hasM (by exact ad_sizes _ _ _ _ _ _ rfl hml) (by exact adCs_one _ _ _) ?_; clear S; intro w1 S; (first | simp only [List.set_cons_zero] at S | simp only [List.set_cons_succ, List.set_cons_zero] at S | skip))
          | ((with_reducible show wpList _ _ _ (Oper.mk _ (Op.load _ (Operand.tmp 1)) _ _ _ _ :: _) _ _); refine wpList_loadS rfl _ _ rfl S _ rfl 3 _ _ rfl _ Tryz.underlying24 rfl has ?_)
          | ((with_reducible show wpList _ _ _ (Oper.mk _ (Op.store _ (Operand.tmp 2) _) _ _ _ _ :: _) _ _); refine wpList_storeS rfl _ _ _ rfl S _ rfl _ rfl 2 _ _ rfl has (by exact ad_sizes _ _ _ _ _ _ rfl hip) (by exact adCs_one _ _ _) ?_; clear S; intro w1 S; (first | simp only [List.set_cons_zero] at S | simp only [List.set_cons_succ, List.set_cons_zero] at S | skip)))
    exact bodyPost_ret (results_cellS rfl _ S _ 2 _ _ _ rfl rfl Tryz.underlying24 rfl has) rfl ⟨rfl, S.below⟩
end Go.Proofs.YthbdeafbdmbabaaGreatDoor
namespace Go.Proofs.YthbdeafbdmbabaaGreatDoor
open Go.RowKit Go
set_option linter.unusedVariables false
set_option maxRecDepth 100000
theorem half_pow (x a : Nat) : x / 2 ^ a / 2 = x / 2 ^ (a + 1) := by
  rw [Nat.div_div_eq_div_mul, Nat.pow_succ]
set_option maxHeartbeats 2000000 in
theorem rBit_any (f z : Int) (ip : List UInt8) (i : Nat) (w : World) (hip : ip.length = 16) (hi : i < 128) :
    Calls Tryz.prog 101 #[adV f ip z, .int .i64 i] w fun e w' => e = .returned (.int .i64 (bitN ip i)) ∧ Below w.heap.size w w' := by
  have S := Ats.start w
  have c0 := ad_at f z ip (i / 8) hip (by omega)
  obtain ⟨x, hx⟩ : ∃ x, x = ip.getD (i / 8) 0 := ⟨_, rfl⟩
  have hR : bitN ip i = x.toNat / 2 ^ (7 - i % 8) % 2 := by unfold bitN; rw [hx]
  rw [← hx] at c0
  obtain ⟨R, hR'⟩ : ∃ R, R = bitN ip i := ⟨_, rfl⟩
  rw [← hR'] at hR ⊢
  obtain ⟨q, hq⟩ : ∃ q, q = i / 8 := ⟨_, rfl⟩
  obtain ⟨m, hm⟩ : ∃ m, m = i % 8 := ⟨_, rfl⟩
  rw [← hq] at c0
  rw [← hm] at hR
  have e1 : (i : Int).tdiv 8 = q := by rw [Int.tdiv_eq_ediv_of_nonneg (by omega)]; omega
  have e1b : IntKind.i64.wrap (q : Int) = q := IntWalk.i64_in _ (by omega)
  have e2 : (i : Int).tmod 8 = m := by rw [Int.tmod_eq_emod_of_nonneg (by omega)]; omega
  have e2b : IntKind.i64.wrap (m : Int) = m := IntWalk.i64_in _ (by omega)
  have hq16 : q < 16 := by omega
  have hq16' : (q : Int) < 16 := by omega
  have hm7 : m ≤ 7 := by omega
  have hwx := wrapU8 x
  have hxl := UInt8.toNat_lt x
  have C0 := Lib.hid c0
  have HR := Lib.hid hR
  have HM := Lib.hid hm7
  have HXL := Lib.hid hxl
  clear c0 hx hR hR' hq hm hm7 hxl
  go_enter Tryz.func101, Tryz.ntmps101
  go_wp2_with (first
    | ((with_reducible show wpList _ _ _ (Oper.mk _ (Op.box _ _) _ _ _ _ :: _) _ _); refine wpList_boxS rfl _ _ rfl (adCs f ip z).toArray rfl S ?_; clear S; intro ga w1 S)
    | ((with_reducible show wpList _ _ _ (Oper.mk _ (Op.load _ _) _ _ _ _ :: _) _ _); refine wpList_cellS rfl _ _ rfl S _ _ rfl 0 _ _ rfl _ Tryz.underlying5 rfl _ (by with_reducible exact C0.out) ?_))
  clear e1 e1b e2 e2b hwx
  go_loopw [5, 6] (fun v i wr => ∃ (k y : Nat), m ≤ k ∧ k ≤ 7 ∧ v = .int .i64 y ∧ i = .int .i64 k ∧ y = x.toNat / 2 ^ (k - m) ∧ Ats w.heap.size w wr [(ga, 24, (adCs f ip z).toArray)]) (fun _ i _ => 7 - (intOf i).toNat)
  case atStart => exact ⟨m, x.toNat, Nat.le_refl _, HM.out, rfl, rfl, by simp, S⟩
  case round =>
    obtain ⟨k, y, hk1, hk2, rfl, rfl, hy, S⟩ := hrel
    have hyl : y ≤ 255 := by
      rw [hy]
      have := Nat.div_le_self x.toNat (2 ^ (k - m))
      have := HXL.out
      omega
    have HY := Lib.hid hy
    have HK1 := Lib.hid hk1
    clear hy hk1
    by_cases hlt : k < 7
    · have d1 : decide ((k : Int) < 7) = true := decide_eq_true (by omega)
      obtain ⟨h, hh⟩ : ∃ h, h = y / 2 := ⟨_, rfl⟩
      have e3 : (y : Int).tdiv 2 = h := by rw [Int.tdiv_eq_ediv_of_nonneg (by omega)]; omega
      have e3b : IntKind.i64.wrap (h : Int) = h := IntWalk.i64_in _ (by omega)
      have HH := Lib.hid hh
      have HLT := Lib.hid hlt
      clear hh hlt
      go_wp2_with fail
      go_roundw
      case rel =>
        have h1 := HK1.out
        have h2 := HLT.out
        refine ⟨k + 1, h, by omega, by omega, rfl, by go_num, ?_, S⟩
        rw [HH.out, HY.out, half_pow, show k + 1 - m = k - m + 1 by omega]
      case measure => have := HLT.out; simp [intOf]; omega
    · obtain rfl : k = 7 := by omega
      obtain ⟨h, hh⟩ : ∃ h, h = y % 2 := ⟨_, rfl⟩
      have e3 : (y : Int).tmod 2 = h := by rw [Int.tmod_eq_emod_of_nonneg (by omega)]; omega
      have e3b : IntKind.i64.wrap (h : Int) = h := IntWalk.i64_in _ (by omega)
      have hRh : R = h := by rw [HR.out, hh, HY.out]
      have HRH := Lib.hid hRh
      clear hh hlt hRh
      go_wp2_with fail
      go_ret
      exact ⟨by rw [HRH.out]; rfl, S.below⟩
theorem comR_step (N : Nat) (a b : List UInt8) (n : Nat) (h1 : n < N) (h2 : bitN a n = bitN b n) : comR N a b n = comR N a b (n + 1) := by
  rw [comR, if_pos ⟨h1, h2⟩]
theorem comR_stop (N : Nat) (a b : List UInt8) (n : Nat) (h : ¬ (n < N ∧ bitN a n = bitN b n)) : comR N a b n = n := by
  rw [comR, if_neg h]
theorem bitN_bd (ip : List UInt8) (i : Nat) : bitN ip i < 2 := by unfold bitN; exact Nat.mod_lt _ (by decide)
set_option maxHeartbeats 4000000 in
theorem rCommon_any (f z g y : Int) (ip jp : List UInt8) (w : World) (hip : ip.length = 16) (hjp : jp.length = 16) :
    Calls Tryz.prog 81 #[adV f ip z, adV g jp y] w fun e w' => e = .returned (.int .i64 (comE f g ip jp)) ∧ Below w.heap.size w w' := by
  have S := Ats.start w
  have hf := ad_fam f z ip
  have hg := ad_fam g y jp
  have haf := adSize f ip z hip
  have hag := adSize g jp y hjp
  have h1 := fun w => rBits_any f z ip w hip
  obtain ⟨N, hN⟩ : ∃ N, N = bitsF f := ⟨_, rfl⟩
  have hN128 : N ≤ 128 := by rw [hN]; rcases bitsF_cases f with h | h | h <;> rw [h] <;> decide
  rw [← hN] at h1
  have HF := Lib.hid hf
  have HG := Lib.hid hg
  have H1 := Lib.hid h1
  clear hf hg h1
  by_cases hfg : f = g
  · subst hfg
    have hE := com_bits f ip jp hip hjp
    rw [← hN] at hE
    rw [← hE]
    obtain ⟨R, hR⟩ : ∃ R, R = comR N ip jp 0 := ⟨_, rfl⟩
    rw [← hR]
    have HR := Lib.hid hR
    have tff : (f == f) = true := by simp
    clear hE hR hN
    go_enter Tryz.func81, Tryz.ntmps81
    go_wp2_with (first
      | ((with_reducible show wpList _ _ _ (Oper.mk _ (Op.box _ _) _ _ _ _ :: _) _ _); refine wpList_boxS rfl _ _ rfl (adCs f ip z).toArray rfl S ?_; clear S; intro ga w1 S)
      | ((with_reducible show wpList _ _ _ (Oper.mk _ (Op.box _ _) _ _ _ _ :: _) _ _); refine wpList_boxS rfl _ _ rfl (adCs f jp y).toArray rfl S ?_; clear S; intro gb w1 S))
    go_loopw [5] (fun i wr => ∃ (k : Nat), i = .int .i64 k ∧ k ≤ N ∧ comR N ip jp k = R ∧ Ats w.heap.size w wr [(gb, 24, (adCs f jp y).toArray), (ga, 24, (adCs f ip z).toArray)]) (fun i _ => N - (intOf i).toNat)
    case atStart => exact ⟨0, rfl, Nat.zero_le _, HR.out.symm, S⟩
    case round =>
      obtain ⟨k, rfl, hk, hrest, S⟩ := hrel
      have HRE := Lib.hid hrest
      clear hrest
      by_cases hlt : k < N
      · have hb1 := fun w => rBit_any f z ip k w hip (by omega)
        have hb2 := fun w => rBit_any f y jp k w hjp (by omega)
        have hst := comR_step N ip jp k hlt
        have hsp := comR_stop N ip jp k
        have hd1 := bitN_bd ip k
        have hd2 := bitN_bd jp k
        obtain ⟨b1, e1⟩ : ∃ b, b = bitN ip k := ⟨_, rfl⟩
        obtain ⟨b2, e2⟩ : ∃ b, b = bitN jp k := ⟨_, rfl⟩
        rw [← e1] at hb1 hst hsp
        rw [← e2] at hb2 hst hsp
        have HB1 := Lib.hid hb1
        have HB2 := Lib.hid hb2
        have HLT := Lib.hid hlt
        have d1 : decide ((k : Int) < N) = true := decide_eq_true (by omega)
        have d1b : decide (k < N) = true := decide_eq_true hlt
        clear hb1 hb2 e1 e2 hd1 hd2
        by_cases hbb : b1 = b2
        · have hst := hst hbb
          rw [HRE.out] at hst
          have HST := Lib.hid hst
          have tb : (((b1 : Nat) : Int) == (b2 : Nat)) = true := by rw [hbb]; simp
          clear hst hsp hbb hlt
          go_wp2_with fail
          (try simp only [Act.put, List.setIfInBounds_toArray, List.set_cons_succ, List.set_cons_zero]); refine quietS_region (by kernel_rfl) (by kernel_rfl) S ?_
          repeat (first
            | go_big_quiet_skip
            | (go_big_quiet_want
               first
                 | ((with_reducible show Oper.quiet _ (Oper.mk (some 8) (Op.call { callee := Callee.value (Operand.func 9), args := _, argTypes := _ }) _ _ _ _) _ _ _); refine q_call 9 _ _ rfl (enters_of Tryz.func9 (by kernel_rfl) rfl) (fun w S => ((H1.out _).mono fun e w2 h => ⟨h.1, S.call h.2⟩)) (by simp [Act.eval]) ?_)
                 | ((with_reducible show Oper.quiet _ (Oper.mk (some 20) (Op.call { callee := Callee.value (Operand.func 101), args := _, argTypes := _ }) _ _ _ _) _ _ _); refine q_call 101 _ _ rfl (enters_of Tryz.func101 (by kernel_rfl) rfl) (fun w S => ((HB1.out _).mono fun e w2 h => ⟨h.1, S.call h.2⟩)) (by simp [Act.eval]) ?_)
                 | ((with_reducible show Oper.quiet _ (Oper.mk (some 23) (Op.call { callee := Callee.value (Operand.func 101), args := _, argTypes := _ }) _ _ _ _) _ _ _); refine q_call 101 _ _ rfl (enters_of Tryz.func101 (by kernel_rfl) rfl) (fun w S => ((HB2.out _).mono fun e w2 h => ⟨h.1, S.call h.2⟩)) (by simp [Act.eval]) ?_)
                 | ((with_reducible show Oper.quiet _ (Oper.mk _ (Op.load _ (Operand.tmp 2)) _ _ _ _) _ _ _); refine q_loadS _ _ rfl _ rfl 1 _ _ rfl _ Tryz.underlying24 rfl haf ?_)
                 | ((with_reducible show Oper.quiet _ (Oper.mk _ (Op.load _ (Operand.tmp 3)) _ _ _ _) _ _ _); refine q_loadS _ _ rfl _ rfl 0 _ _ rfl _ Tryz.underlying24 rfl hag ?_)
                 | ((with_reducible show Oper.quiet _ (Oper.mk _ (Op.load _ (Operand.tmp 11)) _ _ _ _) _ _ _); refine q_cellS _ _ rfl _ _ rfl 1 _ _ rfl _ Tryz.underlying3 rfl _ (by with_reducible exact HF.out) ?_)
                 | ((with_reducible show Oper.quiet _ (Oper.mk _ (Op.load _ (Operand.tmp 13)) _ _ _ _) _ _ _); refine q_cellS _ _ rfl _ _ rfl 0 _ _ rfl _ Tryz.underlying3 rfl _ (by with_reducible exact HG.out) ?_)
                 | (refine q_pure (v := ?_) ?_ ?_; rotate_left; focus (intro w; go_simp; try with_reducible rfl))
               (simp only [Act.put, List.setIfInBounds_toArray, List.set_cons_succ, List.set_cons_zero]; go_big_quiet_on)))
          (refine wpQuiet_nil ?_; clear S; intro w1 S)
          go_wp2_with fail
          go_roundw
          case rel => exact ⟨k + 1, by go_num, by have := HLT.out; omega, HST.out.symm, S⟩
          case measure => have := HLT.out; simp [intOf]; omega
        · have hsp := hsp (fun h => hbb h.2)
          rw [HRE.out] at hsp
          have HSP := Lib.hid hsp
          have tb : (((b1 : Nat) : Int) == (b2 : Nat)) = false := by rw [beq_eq_false_iff_ne]; omega
          clear hst hsp hbb hlt
          go_wp2_with fail
          (try simp only [Act.put, List.setIfInBounds_toArray, List.set_cons_succ, List.set_cons_zero]); refine quietS_region (by kernel_rfl) (by kernel_rfl) S ?_
          repeat (first
            | go_big_quiet_skip
            | (go_big_quiet_want
               first
                 | ((with_reducible show Oper.quiet _ (Oper.mk (some 8) (Op.call { callee := Callee.value (Operand.func 9), args := _, argTypes := _ }) _ _ _ _) _ _ _); refine q_call 9 _ _ rfl (enters_of Tryz.func9 (by kernel_rfl) rfl) (fun w S => ((H1.out _).mono fun e w2 h => ⟨h.1, S.call h.2⟩)) (by simp [Act.eval]) ?_)
                 | ((with_reducible show Oper.quiet _ (Oper.mk (some 20) (Op.call { callee := Callee.value (Operand.func 101), args := _, argTypes := _ }) _ _ _ _) _ _ _); refine q_call 101 _ _ rfl (enters_of Tryz.func101 (by kernel_rfl) rfl) (fun w S => ((HB1.out _).mono fun e w2 h => ⟨h.1, S.call h.2⟩)) (by simp [Act.eval]) ?_)
                 | ((with_reducible show Oper.quiet _ (Oper.mk (some 23) (Op.call { callee := Callee.value (Operand.func 101), args := _, argTypes := _ }) _ _ _ _) _ _ _); refine q_call 101 _ _ rfl (enters_of Tryz.func101 (by kernel_rfl) rfl) (fun w S => ((HB2.out _).mono fun e w2 h => ⟨h.1, S.call h.2⟩)) (by simp [Act.eval]) ?_)
                 | ((with_reducible show Oper.quiet _ (Oper.mk _ (Op.load _ (Operand.tmp 2)) _ _ _ _) _ _ _); refine q_loadS _ _ rfl _ rfl 1 _ _ rfl _ Tryz.underlying24 rfl haf ?_)
                 | ((with_reducible show Oper.quiet _ (Oper.mk _ (Op.load _ (Operand.tmp 3)) _ _ _ _) _ _ _); refine q_loadS _ _ rfl _ rfl 0 _ _ rfl _ Tryz.underlying24 rfl hag ?_)
                 | ((with_reducible show Oper.quiet _ (Oper.mk _ (Op.load _ (Operand.tmp 11)) _ _ _ _) _ _ _); refine q_cellS _ _ rfl _ _ rfl 1 _ _ rfl _ Tryz.underlying3 rfl _ (by with_reducible exact HF.out) ?_)
                 | ((with_reducible show Oper.quiet _ (Oper.mk _ (Op.load _ (Operand.tmp 13)) _ _ _ _) _ _ _); refine q_cellS _ _ rfl _ _ rfl 0 _ _ rfl _ Tryz.underlying3 rfl _ (by with_reducible exact HG.out) ?_)
                 | (refine q_pure (v := ?_) ?_ ?_; rotate_left; focus (intro w; go_simp; try with_reducible rfl))
               (simp only [Act.put, List.setIfInBounds_toArray, List.set_cons_succ, List.set_cons_zero]; go_big_quiet_on)))
          (refine wpQuiet_nil ?_; clear S; intro w1 S)
          go_wp2_with fail
          go_ret
          exact ⟨by rw [HSP.out]; rfl, S.below⟩
      · have hsp := comR_stop N ip jp k (fun h => hlt h.1)
        rw [HRE.out] at hsp
        have HSP := Lib.hid hsp
        have d1 : decide ((k : Int) < N) = false := decide_eq_false (by omega)
        have d1b : decide (k < N) = false := decide_eq_false hlt
        clear hsp hlt
        go_wp2_with fail
        (try simp only [Act.put, List.setIfInBounds_toArray, List.set_cons_succ, List.set_cons_zero]); refine quietS_region (by kernel_rfl) (by kernel_rfl) S ?_
        repeat (first
          | go_big_quiet_skip
          | (go_big_quiet_want
             first
               | ((with_reducible show Oper.quiet _ (Oper.mk (some 8) (Op.call { callee := Callee.value (Operand.func 9), args := _, argTypes := _ }) _ _ _ _) _ _ _); refine q_call 9 _ _ rfl (enters_of Tryz.func9 (by kernel_rfl) rfl) (fun w S => ((H1.out _).mono fun e w2 h => ⟨h.1, S.call h.2⟩)) (by simp [Act.eval]) ?_)
               | ((with_reducible show Oper.quiet _ (Oper.mk _ (Op.load _ (Operand.tmp 2)) _ _ _ _) _ _ _); refine q_loadS _ _ rfl _ rfl 1 _ _ rfl _ Tryz.underlying24 rfl haf ?_)
               | (refine q_pure (v := ?_) ?_ ?_; rotate_left; focus (intro w; go_simp; try with_reducible rfl))
             (simp only [Act.put, List.setIfInBounds_toArray, List.set_cons_succ, List.set_cons_zero]; go_big_quiet_on)))
        (refine wpQuiet_nil ?_; clear S; intro w1 S)
        go_wp2_with fail
        go_ret
        exact ⟨by rw [HSP.out]; rfl, S.below⟩
  · have hE : comE f g ip jp = 0 := by unfold comE; rw [if_neg hfg]
    have tfg : (f == g) = false := by simpa using hfg
    rw [hE]
    clear hfg hE hN
    go_enter Tryz.func81, Tryz.ntmps81
    go_wp2_with (first
      | ((with_reducible show wpList _ _ _ (Oper.mk _ (Op.box _ _) _ _ _ _ :: _) _ _); refine wpList_boxS rfl _ _ rfl (adCs f ip z).toArray rfl S ?_; clear S; intro ga w1 S)
      | ((with_reducible show wpList _ _ _ (Oper.mk _ (Op.box _ _) _ _ _ _ :: _) _ _); refine wpList_boxS rfl _ _ rfl (adCs g jp y).toArray rfl S ?_; clear S; intro gb w1 S))
    go_loopw [5] (fun i wr => i = .int .i64 0 ∧ Ats w.heap.size w wr [(gb, 24, (adCs g jp y).toArray), (ga, 24, (adCs f ip z).toArray)]) (fun i _ => 0)
    case atStart => exact ⟨rfl, S⟩
    case round =>
      obtain ⟨rfl, S⟩ := hrel
      by_cases hlt : 0 < N
      · have d1 : decide ((0 : Int) < N) = true := decide_eq_true (by omega)
        have d1b : decide (0 < N) = true := decide_eq_true (by omega)
        go_wp2_with fail
        (try simp only [Act.put, List.setIfInBounds_toArray, List.set_cons_succ, List.set_cons_zero]); refine quietS_region (by kernel_rfl) (by kernel_rfl) S ?_
        repeat (first
          | go_big_quiet_skip
          | (go_big_quiet_want
             first
               | ((with_reducible show Oper.quiet _ (Oper.mk (some 8) (Op.call { callee := Callee.value (Operand.func 9), args := _, argTypes := _ }) _ _ _ _) _ _ _); refine q_call 9 _ _ rfl (enters_of Tryz.func9 (by kernel_rfl) rfl) (fun w S => ((H1.out _).mono fun e w2 h => ⟨h.1, S.call h.2⟩)) (by simp [Act.eval]) ?_)
               | ((with_reducible show Oper.quiet _ (Oper.mk _ (Op.load _ (Operand.tmp 2)) _ _ _ _) _ _ _); refine q_loadS _ _ rfl _ rfl 1 _ _ rfl _ Tryz.underlying24 rfl haf ?_)
               | ((with_reducible show Oper.quiet _ (Oper.mk _ (Op.load _ (Operand.tmp 11)) _ _ _ _) _ _ _); refine q_cellS _ _ rfl _ _ rfl 1 _ _ rfl _ Tryz.underlying3 rfl _ (by with_reducible exact HF.out) ?_)
               | ((with_reducible show Oper.quiet _ (Oper.mk _ (Op.load _ (Operand.tmp 13)) _ _ _ _) _ _ _); refine q_cellS _ _ rfl _ _ rfl 0 _ _ rfl _ Tryz.underlying3 rfl _ (by with_reducible exact HG.out) ?_)
               | (refine q_pure (v := ?_) ?_ ?_; rotate_left; focus (intro w; go_simp; try with_reducible rfl))
             (simp only [Act.put, List.setIfInBounds_toArray, List.set_cons_succ, List.set_cons_zero]; go_big_quiet_on)))
        (refine wpQuiet_nil ?_; clear S; intro w1 S)
        go_wp2_with fail
        go_ret
        exact ⟨rfl, S.below⟩
      · have d1 : decide ((0 : Int) < N) = false := decide_eq_false (by omega)
        have d1b : decide (0 < N) = false := decide_eq_false (by omega)
        go_wp2_with fail
        (try simp only [Act.put, List.setIfInBounds_toArray, List.set_cons_succ, List.set_cons_zero]); refine quietS_region (by kernel_rfl) (by kernel_rfl) S ?_
        repeat (first
          | go_big_quiet_skip
          | (go_big_quiet_want
             first
               | ((with_reducible show Oper.quiet _ (Oper.mk (some 8) (Op.call { callee := Callee.value (Operand.func 9), args := _, argTypes := _ }) _ _ _ _) _ _ _); refine q_call 9 _ _ rfl (enters_of Tryz.func9 (by kernel_rfl) rfl) (fun w S => ((H1.out _).mono fun e w2 h => ⟨h.1, S.call h.2⟩)) (by simp [Act.eval]) ?_)
               | ((with_reducible show Oper.quiet _ (Oper.mk _ (Op.load _ (Operand.tmp 2)) _ _ _ _) _ _ _); refine q_loadS _ _ rfl _ rfl 1 _ _ rfl _ Tryz.underlying24 rfl haf ?_)
               | ((with_reducible show Oper.quiet _ (Oper.mk _ (Op.load _ (Operand.tmp 11)) _ _ _ _) _ _ _); refine q_cellS _ _ rfl _ _ rfl 1 _ _ rfl _ Tryz.underlying3 rfl _ (by with_reducible exact HF.out) ?_)
               | ((with_reducible show Oper.quiet _ (Oper.mk _ (Op.load _ (Operand.tmp 13)) _ _ _ _) _ _ _); refine q_cellS _ _ rfl _ _ rfl 0 _ _ rfl _ Tryz.underlying3 rfl _ (by with_reducible exact HG.out) ?_)
               | (refine q_pure (v := ?_) ?_ ?_; rotate_left; focus (intro w; go_simp; try with_reducible rfl))
             (simp only [Act.put, List.setIfInBounds_toArray, List.set_cons_succ, List.set_cons_zero]; go_big_quiet_on)))
        (refine wpQuiet_nil ?_; clear S; intro w1 S)
        go_wp2_with fail
        go_ret
        exact ⟨rfl, S.below⟩
set_option maxHeartbeats 4000000 in
theorem rHolds_any (g y n : Int) (jp : List UInt8) (w : World) (hjp : jp.length = 16) :
    Calls Tryz.prog 80 #[preV g jp y n] w fun e w' => e = .returned (.int .i64 (holdsE g jp y n)) ∧ Below w.heap.size w w' := by
  have S := Ats.start w
  have h1 := fun w => rCheck_any g y jp w hjp
  have h2 := fun w => rBits_any g y jp w hjp
  have hn := pre_bits g jp y n hjp
  have hpa := pre_addr g jp y n hjp
  have has := adSizeL g jp y hjp
  have hR : holdsE g jp y n = if checkE g jp y ≠ 0 then checkE g jp y else if n < 0 ∨ (bitsF g : Int) < n then 4 else 0 := rfl
  obtain ⟨R, hR'⟩ : ∃ R, R = holdsE g jp y n := ⟨_, rfl⟩
  obtain ⟨C, hC⟩ : ∃ C, C = checkE g jp y := ⟨_, rfl⟩
  obtain ⟨b, hb⟩ : ∃ b, b = bitsF g := ⟨_, rfl⟩
  rw [← hR', ← hC, ← hb] at hR
  rw [← hR']
  rw [← hC] at h1
  rw [← hb] at h2
  have H1 := Lib.hid h1
  have H2 := Lib.hid h2
  have HN := Lib.hid hn
  clear h1 h2 hn hR' hC hb
  by_cases hc : C = 0
  · rw [if_neg (by simpa using hc)] at hR
    subst hc
    by_cases hn0 : n < 0
    · rw [if_pos (.inl hn0)] at hR
      have HR := Lib.hid hR
      have d0 : decide (n < 0) = true := decide_eq_true hn0
      clear hR hn0
      go_enter Tryz.func80, Tryz.ntmps80
      go_wp2_with (first
        | ((with_reducible show wpList _ _ _ (Oper.mk _ (Op.box _ _) _ _ _ _ :: _) _ _); refine wpList_boxS rfl _ _ rfl (preCs g jp y n).toArray rfl S ?_; clear S; intro gp w1 S)
        | ((with_reducible refine (H1.out _).mono ?_); rintro e w2 ⟨rfl, hb⟩; have S := S.call hb; clear hb)
        | ((with_reducible show wpList _ _ _ (Oper.mk (some 5) (Op.load _ _) _ _ _ _ :: _) _ _); refine wpList_partS rfl _ _ rfl S _ _ rfl 0 _ _ rfl _ Tryz.underlying24 rfl (adCs g jp y) has hpa ?_))
      (try simp only [Act.put, List.setIfInBounds_toArray, List.set_cons_succ, List.set_cons_zero]); refine quietS_region (by kernel_rfl) (by kernel_rfl) S ?_
      repeat (first
        | go_big_quiet_skip
        | (go_big_quiet_want
           first
             | ((with_reducible show Oper.quiet _ (Oper.mk _ (Op.call { callee := Callee.value (Operand.func 9), args := _, argTypes := _ }) _ _ _ _) _ _ _); refine q_call 9 _ _ rfl (enters_of Tryz.func9 (by kernel_rfl) rfl) (fun w S => ((H2.out _).mono fun e w2 h => ⟨h.1, S.call h.2⟩)) (by simp [Act.eval]) ?_)
             | ((with_reducible show Oper.quiet _ (Oper.mk _ (Op.load _ _) _ _ _ _) _ _ _); refine q_cellS _ _ rfl _ _ rfl 0 _ _ rfl _ Tryz.underlying3 rfl _ (by with_reducible exact HN.out) ?_)
             | ((with_reducible show Oper.quiet _ (Oper.mk (some 17) (Op.load _ _) _ _ _ _) _ _ _); refine q_partS _ _ rfl _ _ rfl 0 _ _ rfl _ Tryz.underlying24 rfl (adCs g jp y) has hpa ?_)
             | (refine q_pure (v := ?_) ?_ ?_; rotate_left; focus (intro w; go_simp; try with_reducible rfl))
           (simp only [Act.put, List.setIfInBounds_toArray, List.set_cons_succ, List.set_cons_zero]; go_big_quiet_on)))
      (refine wpQuiet_nil ?_; clear S; intro w1 S)
      go_wp2_with fail
      go_ret
      exact ⟨by rw [HR.out]; rfl, S.below⟩
    · have d0 : decide (n < 0) = false := decide_eq_false hn0
      by_cases hn1 : (b : Int) < n
      · rw [if_pos (.inr hn1)] at hR
        have HR := Lib.hid hR
        have d1 : decide ((b : Int) < n) = true := decide_eq_true hn1
        clear hR hn0 hn1
        go_enter Tryz.func80, Tryz.ntmps80
        go_wp2_with (first
          | ((with_reducible show wpList _ _ _ (Oper.mk _ (Op.box _ _) _ _ _ _ :: _) _ _); refine wpList_boxS rfl _ _ rfl (preCs g jp y n).toArray rfl S ?_; clear S; intro gp w1 S)
          | ((with_reducible refine (H1.out _).mono ?_); rintro e w2 ⟨rfl, hb⟩; have S := S.call hb; clear hb)
          | ((with_reducible show wpList _ _ _ (Oper.mk (some 5) (Op.load _ _) _ _ _ _ :: _) _ _); refine wpList_partS rfl _ _ rfl S _ _ rfl 0 _ _ rfl _ Tryz.underlying24 rfl (adCs g jp y) has hpa ?_))
        (try simp only [Act.put, List.setIfInBounds_toArray, List.set_cons_succ, List.set_cons_zero]); refine quietS_region (by kernel_rfl) (by kernel_rfl) S ?_
        repeat (first
          | go_big_quiet_skip
          | (go_big_quiet_want
             first
               | ((with_reducible show Oper.quiet _ (Oper.mk _ (Op.call { callee := Callee.value (Operand.func 9), args := _, argTypes := _ }) _ _ _ _) _ _ _); refine q_call 9 _ _ rfl (enters_of Tryz.func9 (by kernel_rfl) rfl) (fun w S => ((H2.out _).mono fun e w2 h => ⟨h.1, S.call h.2⟩)) (by simp [Act.eval]) ?_)
               | ((with_reducible show Oper.quiet _ (Oper.mk _ (Op.load _ _) _ _ _ _) _ _ _); refine q_cellS _ _ rfl _ _ rfl 0 _ _ rfl _ Tryz.underlying3 rfl _ (by with_reducible exact HN.out) ?_)
               | ((with_reducible show Oper.quiet _ (Oper.mk (some 17) (Op.load _ _) _ _ _ _) _ _ _); refine q_partS _ _ rfl _ _ rfl 0 _ _ rfl _ Tryz.underlying24 rfl (adCs g jp y) has hpa ?_)
               | (refine q_pure (v := ?_) ?_ ?_; rotate_left; focus (intro w; go_simp; try with_reducible rfl))
             (simp only [Act.put, List.setIfInBounds_toArray, List.set_cons_succ, List.set_cons_zero]; go_big_quiet_on)))
        (refine wpQuiet_nil ?_; clear S; intro w1 S)
        go_wp2_with fail
        go_ret
        exact ⟨by rw [HR.out]; rfl, S.below⟩
      · rw [if_neg (fun h => h.elim hn0 hn1)] at hR
        have HR := Lib.hid hR
        have d1 : decide ((b : Int) < n) = false := decide_eq_false hn1
        clear hR hn0 hn1
        go_enter Tryz.func80, Tryz.ntmps80
        go_wp2_with (first
          | ((with_reducible show wpList _ _ _ (Oper.mk _ (Op.box _ _) _ _ _ _ :: _) _ _); refine wpList_boxS rfl _ _ rfl (preCs g jp y n).toArray rfl S ?_; clear S; intro gp w1 S)
          | ((with_reducible refine (H1.out _).mono ?_); rintro e w2 ⟨rfl, hb⟩; have S := S.call hb; clear hb)
          | ((with_reducible show wpList _ _ _ (Oper.mk (some 5) (Op.load _ _) _ _ _ _ :: _) _ _); refine wpList_partS rfl _ _ rfl S _ _ rfl 0 _ _ rfl _ Tryz.underlying24 rfl (adCs g jp y) has hpa ?_))
        (try simp only [Act.put, List.setIfInBounds_toArray, List.set_cons_succ, List.set_cons_zero]); refine quietS_region (by kernel_rfl) (by kernel_rfl) S ?_
        repeat (first
          | go_big_quiet_skip
          | (go_big_quiet_want
             first
               | ((with_reducible show Oper.quiet _ (Oper.mk _ (Op.call { callee := Callee.value (Operand.func 9), args := _, argTypes := _ }) _ _ _ _) _ _ _); refine q_call 9 _ _ rfl (enters_of Tryz.func9 (by kernel_rfl) rfl) (fun w S => ((H2.out _).mono fun e w2 h => ⟨h.1, S.call h.2⟩)) (by simp [Act.eval]) ?_)
               | ((with_reducible show Oper.quiet _ (Oper.mk _ (Op.load _ _) _ _ _ _) _ _ _); refine q_cellS _ _ rfl _ _ rfl 0 _ _ rfl _ Tryz.underlying3 rfl _ (by with_reducible exact HN.out) ?_)
               | ((with_reducible show Oper.quiet _ (Oper.mk (some 17) (Op.load _ _) _ _ _ _) _ _ _); refine q_partS _ _ rfl _ _ rfl 0 _ _ rfl _ Tryz.underlying24 rfl (adCs g jp y) has hpa ?_)
               | (refine q_pure (v := ?_) ?_ ?_; rotate_left; focus (intro w; go_simp; try with_reducible rfl))
             (simp only [Act.put, List.setIfInBounds_toArray, List.set_cons_succ, List.set_cons_zero]; go_big_quiet_on)))
        (refine wpQuiet_nil ?_; clear S; intro w1 S)
        go_wp2_with fail
        go_ret
        exact ⟨by rw [HR.out]; rfl, S.below⟩
  · rw [if_pos hc] at hR
    have HR := Lib.hid hR
    have d0 : (C == 0) = false := by simpa using hc
    clear hR hc
    go_enter Tryz.func80, Tryz.ntmps80
    go_wp2_with (first
      | ((with_reducible show wpList _ _ _ (Oper.mk _ (Op.box _ _) _ _ _ _ :: _) _ _); refine wpList_boxS rfl _ _ rfl (preCs g jp y n).toArray rfl S ?_; clear S; intro gp w1 S)
      | ((with_reducible refine (H1.out _).mono ?_); rintro e w2 ⟨rfl, hb⟩; have S := S.call hb; clear hb)
      | ((with_reducible show wpList _ _ _ (Oper.mk (some 5) (Op.load _ _) _ _ _ _ :: _) _ _); refine wpList_partS rfl _ _ rfl S _ _ rfl 0 _ _ rfl _ Tryz.underlying24 rfl (adCs g jp y) has hpa ?_))
    (try simp only [Act.put, List.setIfInBounds_toArray, List.set_cons_succ, List.set_cons_zero]); refine quietS_region (by kernel_rfl) (by kernel_rfl) S ?_
    repeat (first
      | go_big_quiet_skip
      | (go_big_quiet_want
         first
           | ((with_reducible show Oper.quiet _ (Oper.mk _ (Op.call { callee := Callee.value (Operand.func 9), args := _, argTypes := _ }) _ _ _ _) _ _ _); refine q_call 9 _ _ rfl (enters_of Tryz.func9 (by kernel_rfl) rfl) (fun w S => ((H2.out _).mono fun e w2 h => ⟨h.1, S.call h.2⟩)) (by simp [Act.eval]) ?_)
           | ((with_reducible show Oper.quiet _ (Oper.mk _ (Op.load _ _) _ _ _ _) _ _ _); refine q_cellS _ _ rfl _ _ rfl 0 _ _ rfl _ Tryz.underlying3 rfl _ (by with_reducible exact HN.out) ?_)
           | ((with_reducible show Oper.quiet _ (Oper.mk (some 17) (Op.load _ _) _ _ _ _) _ _ _); refine q_partS _ _ rfl _ _ rfl 0 _ _ rfl _ Tryz.underlying24 rfl (adCs g jp y) has hpa ?_)
           | (refine q_pure (v := ?_) ?_ ?_; rotate_left; focus (intro w; go_simp; try with_reducible rfl))
         (simp only [Act.put, List.setIfInBounds_toArray, List.set_cons_succ, List.set_cons_zero]; go_big_quiet_on)))
    (refine wpQuiet_nil ?_; clear S; intro w1 S)
    go_wp2_with fail
    go_ret
    exact ⟨by rw [HR.out]; rfl, S.below⟩
set_option maxHeartbeats 4000000 in
theorem rWithin_any (f z g y n : Int) (ip jp : List UInt8) (w : World) (hip : ip.length = 16) (hjp : jp.length = 16) :
    Calls Tryz.prog 59 #[adV f ip z, preV g jp y n] w fun e w' => e = .returned (.bool (withinE f ip g jp y n)) ∧ Below w.heap.size w w' := by
  have S := Ats.start w
  have h1 := fun w => rHolds_any g y n jp w hjp
  have h2 := fun w => rCommon_any f z g y ip jp w hip hjp
  have hn := pre_bits g jp y n hjp
  have hg := pre_fam g jp y n
  have hf := ad_fam f z ip
  have hpa := pre_addr g jp y n hjp
  have has := adSizeL g jp y hjp
  have haf := adSize f ip z hip
  have hps := preSize g jp y n hjp
  have w1 := withinE_no1 f ip g jp y n
  have w2 := withinE_no2 f ip g jp y n
  have w3 := withinE_yes ip g jp y n
  obtain ⟨R, hR⟩ : ∃ R, R = withinE f ip g jp y n := ⟨_, rfl⟩
  obtain ⟨C, hC⟩ : ∃ C, C = holdsE g jp y n := ⟨_, rfl⟩
  rw [← hC] at h1 w1 w3
  rw [← hR] at w1 w2 ⊢
  have HF := Lib.hid hf
  have HG := Lib.hid hg
  have HN := Lib.hid hn
  have H1 := Lib.hid h1
  clear hC h1 hf hg hn
  by_cases hc : C = 0
  · by_cases hfg : f = g
    · have hw := w3 hc
      subst hc
      subst hfg
      have HR := Lib.hid (hR.trans hw)
      have t2 : (f == f) = true := by simp
      obtain ⟨c, hcc⟩ : ∃ c, c = comE f f ip jp := ⟨_, rfl⟩
      rw [← hcc] at h2 HR
      have H2 := Lib.hid h2
      clear h2 hcc hw w1 w2 w3 hR
      go_enter Tryz.func59, Tryz.ntmps59
      go_wp2_with (first
        | ((with_reducible show wpList _ _ _ (Oper.mk _ (Op.box _ _) _ _ _ _ :: _) _ _); refine wpList_boxS rfl _ _ rfl (adCs f ip z).toArray rfl S ?_; clear S; intro ga w1 S)
        | ((with_reducible show wpList _ _ _ (Oper.mk _ (Op.box _ _) _ _ _ _ :: _) _ _); refine wpList_boxS rfl _ _ rfl (preCs f jp y n).toArray rfl S ?_; clear S; intro gp w1 S))
      (try simp only [Act.put, List.setIfInBounds_toArray, List.set_cons_succ, List.set_cons_zero]); refine quietS_region (by kernel_rfl) (by kernel_rfl) S ?_
      repeat (first
        | go_big_quiet_skip
        | (go_big_quiet_want
           first
             | ((with_reducible show Oper.quiet _ (Oper.mk _ (Op.call { callee := Callee.value (Operand.func 80), args := _, argTypes := _ }) _ _ _ _) _ _ _); refine q_call 80 _ _ rfl (enters_of Tryz.func80 (by kernel_rfl) rfl) (fun w S => ((H1.out _).mono fun e w2 h => ⟨h.1, S.call h.2⟩)) (by simp [Act.eval]) ?_)
             | ((with_reducible show Oper.quiet _ (Oper.mk _ (Op.call { callee := Callee.value (Operand.func 81), args := _, argTypes := _ }) _ _ _ _) _ _ _); refine q_call 81 _ _ rfl (enters_of Tryz.func81 (by kernel_rfl) rfl) (fun w S => ((H2.out _).mono fun e w2 h => ⟨h.1, S.call h.2⟩)) (by simp [Act.eval]) ?_)
             | ((with_reducible show Oper.quiet _ (Oper.mk _ (Op.load _ (Operand.tmp 3)) _ _ _ _) _ _ _); refine q_loadS _ _ rfl _ rfl 0 _ _ rfl _ Tryz.underlying49 rfl hps ?_)
             | ((with_reducible show Oper.quiet _ (Oper.mk _ (Op.load _ (Operand.tmp 2)) _ _ _ _) _ _ _); refine q_loadS _ _ rfl _ rfl 1 _ _ rfl _ Tryz.underlying24 rfl haf ?_)
             | ((with_reducible show Oper.quiet _ (Oper.mk (some 19) (Op.load _ _) _ _ _ _) _ _ _); refine q_partS _ _ rfl _ _ rfl 0 _ _ rfl _ Tryz.underlying24 rfl (adCs f jp y) has hpa ?_)
             | ((with_reducible show Oper.quiet _ (Oper.mk _ (Op.load _ (Operand.tmp 9)) _ _ _ _) _ _ _); refine q_cellS _ _ rfl _ _ rfl 1 _ _ rfl _ Tryz.underlying3 rfl _ (by with_reducible exact HF.out) ?_)
             | ((with_reducible show Oper.quiet _ (Oper.mk _ (Op.load _ (Operand.tmp 12)) _ _ _ _) _ _ _); refine q_cellS _ _ rfl _ _ rfl 0 _ _ rfl _ Tryz.underlying3 rfl _ (by with_reducible exact HG.out) ?_)
             | ((with_reducible show Oper.quiet _ (Oper.mk _ (Op.load _ (Operand.tmp 21)) _ _ _ _) _ _ _); refine q_cellS _ _ rfl _ _ rfl 0 _ _ rfl _ Tryz.underlying3 rfl _ (by with_reducible exact HN.out) ?_)
             | (refine q_pure (v := ?_) ?_ ?_; rotate_left; focus (intro w; go_simp; try with_reducible rfl))
           (simp only [Act.put, List.setIfInBounds_toArray, List.set_cons_succ, List.set_cons_zero]; go_big_quiet_on)))
      (refine wpQuiet_nil ?_; clear S; intro w1 S)
      go_wp2_with fail
      go_ret
      exact ⟨by rw [HR.out]; rfl, S.below⟩
    · have HR := Lib.hid (w2 hfg)
      subst hc
      have t2 : (f == g) = false := by simpa using hfg
      have H2 := Lib.hid h2
      clear h2 w1 w2 w3 hR hfg
      go_enter Tryz.func59, Tryz.ntmps59
      go_wp2_with (first
        | ((with_reducible show wpList _ _ _ (Oper.mk _ (Op.box _ _) _ _ _ _ :: _) _ _); refine wpList_boxS rfl _ _ rfl (adCs f ip z).toArray rfl S ?_; clear S; intro ga w1 S)
        | ((with_reducible show wpList _ _ _ (Oper.mk _ (Op.box _ _) _ _ _ _ :: _) _ _); refine wpList_boxS rfl _ _ rfl (preCs g jp y n).toArray rfl S ?_; clear S; intro gp w1 S))
      (try simp only [Act.put, List.setIfInBounds_toArray, List.set_cons_succ, List.set_cons_zero]); refine quietS_region (by kernel_rfl) (by kernel_rfl) S ?_
      repeat (first
        | go_big_quiet_skip
        | (go_big_quiet_want
           first
             | ((with_reducible show Oper.quiet _ (Oper.mk _ (Op.call { callee := Callee.value (Operand.func 80), args := _, argTypes := _ }) _ _ _ _) _ _ _); refine q_call 80 _ _ rfl (enters_of Tryz.func80 (by kernel_rfl) rfl) (fun w S => ((H1.out _).mono fun e w2 h => ⟨h.1, S.call h.2⟩)) (by simp [Act.eval]) ?_)
             | ((with_reducible show Oper.quiet _ (Oper.mk _ (Op.call { callee := Callee.value (Operand.func 81), args := _, argTypes := _ }) _ _ _ _) _ _ _); refine q_call 81 _ _ rfl (enters_of Tryz.func81 (by kernel_rfl) rfl) (fun w S => ((H2.out _).mono fun e w2 h => ⟨h.1, S.call h.2⟩)) (by simp [Act.eval]) ?_)
             | ((with_reducible show Oper.quiet _ (Oper.mk _ (Op.load _ (Operand.tmp 3)) _ _ _ _) _ _ _); refine q_loadS _ _ rfl _ rfl 0 _ _ rfl _ Tryz.underlying49 rfl hps ?_)
             | ((with_reducible show Oper.quiet _ (Oper.mk _ (Op.load _ (Operand.tmp 2)) _ _ _ _) _ _ _); refine q_loadS _ _ rfl _ rfl 1 _ _ rfl _ Tryz.underlying24 rfl haf ?_)
             | ((with_reducible show Oper.quiet _ (Oper.mk (some 19) (Op.load _ _) _ _ _ _) _ _ _); refine q_partS _ _ rfl _ _ rfl 0 _ _ rfl _ Tryz.underlying24 rfl (adCs g jp y) has hpa ?_)
             | ((with_reducible show Oper.quiet _ (Oper.mk _ (Op.load _ (Operand.tmp 9)) _ _ _ _) _ _ _); refine q_cellS _ _ rfl _ _ rfl 1 _ _ rfl _ Tryz.underlying3 rfl _ (by with_reducible exact HF.out) ?_)
             | ((with_reducible show Oper.quiet _ (Oper.mk _ (Op.load _ (Operand.tmp 12)) _ _ _ _) _ _ _); refine q_cellS _ _ rfl _ _ rfl 0 _ _ rfl _ Tryz.underlying3 rfl _ (by with_reducible exact HG.out) ?_)
             | ((with_reducible show Oper.quiet _ (Oper.mk _ (Op.load _ (Operand.tmp 21)) _ _ _ _) _ _ _); refine q_cellS _ _ rfl _ _ rfl 0 _ _ rfl _ Tryz.underlying3 rfl _ (by with_reducible exact HN.out) ?_)
             | (refine q_pure (v := ?_) ?_ ?_; rotate_left; focus (intro w; go_simp; try with_reducible rfl))
           (simp only [Act.put, List.setIfInBounds_toArray, List.set_cons_succ, List.set_cons_zero]; go_big_quiet_on)))
      (refine wpQuiet_nil ?_; clear S; intro w1 S)
      go_wp2_with fail
      go_ret
      exact ⟨by rw [HR.out]; rfl, S.below⟩
  · have HR := Lib.hid (w1 hc)
    have t1 : (C == 0) = false := by simpa using hc
    have H2 := Lib.hid h2
    clear h2 w1 w2 w3 hR hc
    go_enter Tryz.func59, Tryz.ntmps59
    go_wp2_with (first
      | ((with_reducible show wpList _ _ _ (Oper.mk _ (Op.box _ _) _ _ _ _ :: _) _ _); refine wpList_boxS rfl _ _ rfl (adCs f ip z).toArray rfl S ?_; clear S; intro ga w1 S)
      | ((with_reducible show wpList _ _ _ (Oper.mk _ (Op.box _ _) _ _ _ _ :: _) _ _); refine wpList_boxS rfl _ _ rfl (preCs g jp y n).toArray rfl S ?_; clear S; intro gp w1 S))
    (try simp only [Act.put, List.setIfInBounds_toArray, List.set_cons_succ, List.set_cons_zero]); refine quietS_region (by kernel_rfl) (by kernel_rfl) S ?_
    repeat (first
      | go_big_quiet_skip
      | (go_big_quiet_want
         first
           | ((with_reducible show Oper.quiet _ (Oper.mk _ (Op.call { callee := Callee.value (Operand.func 80), args := _, argTypes := _ }) _ _ _ _) _ _ _); refine q_call 80 _ _ rfl (enters_of Tryz.func80 (by kernel_rfl) rfl) (fun w S => ((H1.out _).mono fun e w2 h => ⟨h.1, S.call h.2⟩)) (by simp [Act.eval]) ?_)
           | ((with_reducible show Oper.quiet _ (Oper.mk _ (Op.call { callee := Callee.value (Operand.func 81), args := _, argTypes := _ }) _ _ _ _) _ _ _); refine q_call 81 _ _ rfl (enters_of Tryz.func81 (by kernel_rfl) rfl) (fun w S => ((H2.out _).mono fun e w2 h => ⟨h.1, S.call h.2⟩)) (by simp [Act.eval]) ?_)
           | ((with_reducible show Oper.quiet _ (Oper.mk _ (Op.load _ (Operand.tmp 3)) _ _ _ _) _ _ _); refine q_loadS _ _ rfl _ rfl 0 _ _ rfl _ Tryz.underlying49 rfl hps ?_)
           | ((with_reducible show Oper.quiet _ (Oper.mk _ (Op.load _ (Operand.tmp 2)) _ _ _ _) _ _ _); refine q_loadS _ _ rfl _ rfl 1 _ _ rfl _ Tryz.underlying24 rfl haf ?_)
           | ((with_reducible show Oper.quiet _ (Oper.mk (some 19) (Op.load _ _) _ _ _ _) _ _ _); refine q_partS _ _ rfl _ _ rfl 0 _ _ rfl _ Tryz.underlying24 rfl (adCs g jp y) has hpa ?_)
           | ((with_reducible show Oper.quiet _ (Oper.mk _ (Op.load _ (Operand.tmp 9)) _ _ _ _) _ _ _); refine q_cellS _ _ rfl _ _ rfl 1 _ _ rfl _ Tryz.underlying3 rfl _ (by with_reducible exact HF.out) ?_)
           | ((with_reducible show Oper.quiet _ (Oper.mk _ (Op.load _ (Operand.tmp 12)) _ _ _ _) _ _ _); refine q_cellS _ _ rfl _ _ rfl 0 _ _ rfl _ Tryz.underlying3 rfl _ (by with_reducible exact HG.out) ?_)
           | ((with_reducible show Oper.quiet _ (Oper.mk _ (Op.load _ (Operand.tmp 21)) _ _ _ _) _ _ _); refine q_cellS _ _ rfl _ _ rfl 0 _ _ rfl _ Tryz.underlying3 rfl _ (by with_reducible exact HN.out) ?_)
           | (refine q_pure (v := ?_) ?_ ?_; rotate_left; focus (intro w; go_simp; try with_reducible rfl))
         (simp only [Act.put, List.setIfInBounds_toArray, List.set_cons_succ, List.set_cons_zero]; go_big_quiet_on)))
    (refine wpQuiet_nil ?_; clear S; intro w1 S)
    go_wp2_with fail
    go_ret
    exact ⟨by rw [HR.out]; rfl, S.below⟩
end Go.Proofs.YthbdeafbdmbabaaGreatDoor
namespace Go.Proofs.YthbdeafbdmbabaaGreatDoor
open Go.RowKit Go
set_option linter.unusedVariables false
set_option maxRecDepth 100000
theorem cutK_not (a : List UInt8) (h : (37 : UInt8) ∉ a) : cutK a 37 = a.length := by
  unfold cutK
  rw [List.findIdx_eq_length]
  intro x hx
  apply decide_eq_false
  intro e
  have : x = 37 := UInt8.toNat_inj.1 (by show x.toNat = 37; omega)
  exact h (this ▸ hx)
theorem numR_pos (z most : Int) (h : 0 ≤ z) : numR (Lib.itoa z) most = if most < z then (0, 4) else (z, 0) := by
  obtain ⟨n, rfl⟩ := Int.eq_ofNat_of_zero_le h
  rw [Lib.itoa_nonneg]
  have h1 := decDigits_all n
  have h2 := decDigits_num n
  have hne : Lib.decDigits n ≠ [] := by
    intro e
    rw [Lib.decDigits] at e
    split at e <;> simp at e
  have hd : digsB (Lib.decDigits n) = true := by
    unfold digsB
    rw [h1]
    simp [hne]
  unfold numR
  rw [if_neg (by rw [hd]; simp), h2]
end Go.Proofs.YthbdeafbdmbabaaGreatDoor
namespace Go.Proofs.YthbdeafbdmbabaaGreatDoor
open Go.RowKit Go
set_option linter.unusedVariables false
set_option maxRecDepth 100000
theorem quad_parts (a b c d : UInt8) : cutX 46 (quadT a b c d) = [Lib.decDigits a.toNat, Lib.decDigits b.toNat, Lib.decDigits c.toNat, Lib.decDigits d.toNat] := by
  have ha := (dec_byte a).2.1
  have hb := (dec_byte b).2.1
  have hc := (dec_byte c).2.1
  have hd := (dec_byte d).2.1
  unfold quadT
  rw [cutX_hit 46 _ _ ha, cutX_hit 46 _ _ hb, cutX_hit 46 _ _ hc, cutX_none 46 _ hd]
theorem numR_byte (a : UInt8) : numR (Lib.decDigits a.toNat) 255 = ((a.toNat : Int), 0) := by
  have := numR_pos (a.toNat : Int) 255 (by omega)
  rw [Lib.itoa_nonneg] at this
  have h := UInt8.toNat_lt a
  rw [this, if_neg (by omega)]
theorem p7_bad1 {l p : List UInt8} {k : Nat} (hk : k < 4) (hp : (cutX 46 l)[k]? = some p) (hb : (numR p 255).2 ≠ 0) : parseE l = ⟨0, zero16, 5⟩ := by
  refine parseE_not l fun a b c d e => ?_
  rw [e, quad_parts] at hp
  match k, hk with
  | 0, _ => simp at hp; rw [← hp, numR_byte] at hb; exact hb rfl
  | 1, _ => simp at hp; rw [← hp, numR_byte] at hb; exact hb rfl
  | 2, _ => simp at hp; rw [← hp, numR_byte] at hb; exact hb rfl
  | 3, _ => simp at hp; rw [← hp, numR_byte] at hb; exact hb rfl
theorem p7_bad2 {l : List UInt8} (h : (cutX 46 l).length ≠ 4) : parseE l = ⟨0, zero16, 5⟩ := by
  refine parseE_not l fun a b c d e => ?_
  rw [e, quad_parts] at h
  exact h rfl
theorem p7_bad3 {l ip : List UInt8} (h : ∀ j p, j < 4 → (cutX 46 l)[j]? = some p → (numR p 255).1 = ((ip.getD j 0).toNat : Int)) (hq : quadI ip ≠ l) : parseE l = ⟨0, zero16, 5⟩ := by
  refine parseE_not l fun a b c d e => ?_
  rw [e, quad_parts] at h
  have h0 := h 0 _ (by decide) rfl
  have h1 := h 1 _ (by decide) rfl
  have h2 := h 2 _ (by decide) rfl
  have h3 := h 3 _ (by decide) rfl
  rw [numR_byte] at h0 h1 h2 h3
  apply hq
  unfold quadI
  rw [e]
  have e0 : ip.getD 0 0 = a := UInt8.toNat_inj.1 (by simp only at h0; omega)
  have e1 : ip.getD 1 0 = b := UInt8.toNat_inj.1 (by simp only at h1; omega)
  have e2 : ip.getD 2 0 = c := UInt8.toNat_inj.1 (by simp only at h2; omega)
  have e3 : ip.getD 3 0 = d := UInt8.toNat_inj.1 (by simp only at h3; omega)
  rw [e0, e1, e2, e3]
theorem p7_good {l ip : List UInt8} (hl : ip.length = 16) (hz : ∀ j, 4 ≤ j → ip.getD j 0 = 0) (hq : quadI ip = l) : parseE l = ⟨4, ip, 0⟩ := by
  rw [← hq]
  unfold quadI
  rw [quadT_parse]
  congr 1
  match ip, hl with
  | [a0, a1, a2, a3, a4, a5, a6, a7, a8, a9, a10, a11, a12, a13, a14, a15], _ =>
    have z4 := hz 4 (by decide)
    have z5 := hz 5 (by decide)
    have z6 := hz 6 (by decide)
    have z7 := hz 7 (by decide)
    have z8 := hz 8 (by decide)
    have z9 := hz 9 (by decide)
    have z10 := hz 10 (by decide)
    have z11 := hz 11 (by decide)
    have z12 := hz 12 (by decide)
    have z13 := hz 13 (by decide)
    have z14 := hz 14 (by decide)
    have z15 := hz 15 (by decide)
    simp only [List.getD_cons_succ, List.getD_cons_zero] at z4 z5 z6 z7 z8 z9 z10 z11 z12 z13 z14 z15
    subst z4 z5 z6 z7 z8 z9 z10 z11 z12 z13 z14 z15
    rfl
theorem ad_setByte (f z : Int) (b : List UInt8) (k : Nat) (c : UInt8) (hk : k < b.length) : (adCs f b z).toArray.setIfInBounds (1 + k) (.int .u8 c.toNat) = (adCs f (b.set k c) z).toArray := by
  rw [List.setIfInBounds_toArray]
  congr 1
  unfold adCs
  rw [Nat.add_comm, List.set_cons_succ, List.set_append_left _ _ (by simpa using hk), List.map_set]
  rfl
theorem numR_bd (p : List UInt8) (m : Int) (h : (numR p m).2 = 0) : 0 ≤ (numR p m).1 ∧ (numR p m).1 ≤ m := by
  unfold numR at h ⊢
  split at h
  · simp at h
  · split at h
    · simp at h
    · rename_i h1 h2
      rw [if_neg h1, if_neg h2]
      simp only
      omega
set_option maxHeartbeats 4000000 in
theorem refParse07_any (s : ByteArray) (w : World) (hs : s.size ≤ 4000) :
    Calls Tryz.prog 46 #[.string s] w fun e w' => e = .returned (adTup (parseE s.data.toList)) ∧ Below w.heap.size w w' := by
  have S := Ats.start w
  have hpt := fun w => refParts07_any s w hs
  have hb1 := fun k p => p7_bad1 (l := s.data.toList) (k := k) (p := p)
  have hb2 := p7_bad2 (l := s.data.toList)
  have hb3 := fun ip => p7_bad3 (l := s.data.toList) (ip := ip)
  have hgd := fun ip => p7_good (l := s.data.toList) (ip := ip)
  have hln := cutX_len 46 s.data.toList
  have hmem := fun p (h : p ∈ cutXN 46 s.data.toList s.data.toList.length) => cutXN_mem 46 s.data.toList _ p h
  rw [cutXN_all 46 s.data.toList s.data.toList.length hln] at hmem
  rw [← Lib.size_eq] at hln hmem
  obtain ⟨ps, hps⟩ : ∃ ps, ps = cutX 46 s.data.toList := ⟨_, rfl⟩
  rw [← hps] at hpt hb1 hb2 hb3 hln hmem
  obtain ⟨R, hR⟩ : ∃ R, R = parseE s.data.toList := ⟨_, rfl⟩
  rw [← hR] at hb1 hb2 ⊢
  simp only [← hR] at hb3 hgd
  have HPT := Lib.hid hpt
  have HB1 := Lib.hid hb1
  have HB2 := Lib.hid hb2
  have HB3 := Lib.hid hb3
  have HGD := Lib.hid hgd
  have HM := Lib.hid hmem
  clear hpt hb1 hb2 hb3 hgd hmem hps hR
  go_enter Tryz.func46, Tryz.ntmps46
  go_wp2_with (first | ((with_reducible show wpList _ _ _ (Oper.mk (some 2) (Op.alloc _) _ _ _ _ :: _) _ _); refine wpList_allocS rfl _ rfl _ adZero S ?_; clear S; intro gr w1 S))
  with_reducible refine (HPT.out _).mono ?_
  rintro e w2 ⟨⟨A, c, rfl, hta⟩, hb⟩
  have S0 := S.call hb
  have HTA := Lib.hid hta
  clear hb hta S
  have S := Ats.start w2
  go_wp2_with (first
    | ((with_reducible show wpList _ _ _ (Oper.mk (some 5) (Op.alloc _) _ _ _ _ :: _) _ _); refine wpList_allocS rfl _ rfl _ adZero S ?_; clear S; intro ga w1 S)
    | ((with_reducible show wpList _ _ _ (Oper.mk _ (Op.store _ (Operand.tmp 5) _) _ _ _ _ :: _) _ _); refine wpList_storeS rfl _ _ _ rfl S _ rfl _ rfl 0 _ _ rfl adInfo (by rfl) (by simp [Value.oneCell']) ?_; clear S; intro w1 S; (first | simp only [List.set_cons_zero] at S | simp only [List.set_cons_succ, List.set_cons_zero] at S | skip)))
  go_loopw [6] (fun i wr => ∃ (k : Nat) (ip : List UInt8), i = .int .i64 k ∧ k ≤ 4 ∧ k ≤ ps.length ∧ ip.length = 16 ∧ (∀ j p, j < k → ps[j]? = some p → (numR p 255).1 = ((ip.getD j 0).toNat : Int)) ∧ (∀ j, k ≤ j → ip.getD j 0 = 0) ∧ Ats w2.heap.size w2 wr [(ga, 24, (adCs 4 ip 0).toArray)]) (fun i _ => 4 - (intOf i).toNat)
  case atStart => exact ⟨0, zero16, rfl, by decide, Nat.zero_le _, rfl, fun j p h => absurd h (Nat.not_lt_zero _), fun j _ => by
    by_cases h : j < 16
    · have hall : ∀ n : Fin 16, zero16.getD n.val 0 = 0 := by decide
      exact hall ⟨j, h⟩
    · rw [List.getD_eq_getElem?_getD, List.getElem?_eq_none (by show 16 ≤ j; omega)]; rfl, S⟩
  case round =>
    obtain ⟨k, ip, rfl, hk4, hkl, hipl, hval, hzer, S⟩ := hrel
    have HV := Lib.hid hval
    have HZ := Lib.hid hzer
    have hsz := adSize 4 ip 0 hipl
    clear hval hzer
    by_cases hlt : k < ps.length ∧ k < 4
    · obtain ⟨hl1, hl2⟩ := hlt
      obtain ⟨p, hp⟩ : ∃ p, ps[k]? = some p := ⟨_, List.getElem?_eq_getElem hl1⟩
      obtain ⟨bA, oA, rfl, hbA, hcell⟩ := HTA.out.2 (by omega)
      have h1 := hcell k hl1
      rw [← S.below.cell (p := ⟨bA, oA + k, none⟩) hbA] at h1
      have hpe : ps[k] = p := (List.getElem?_eq_some_iff.1 hp).2
      rw [hpe] at h1
      unfold strV at h1
      have hpl := HM.out p (List.mem_of_getElem? hp)
      have hnum := (refNumber_any ⟨p.toArray⟩ 255 wr (by show p.length ≤ 4000; omega) (by decide) (by decide))
      rw [show (⟨p.toArray⟩ : ByteArray).data.toList = p from rfl] at hnum
      have hnum2 : Calls Tryz.prog 69 #[.string ⟨p.toArray⟩, .int .i64 255] wr fun e w' => e = .returned (.tuple #[.int .i64 (numR p 255).1, .int .i64 (numR p 255).2]) ∧ wr = w' := hnum.mono fun e w' ⟨h, h'⟩ => ⟨numP_R h, h'⟩
      have hbad := HB1.out k p hl2 hp
      have hbd := numR_bd p 255
      obtain ⟨n, hn⟩ : ∃ n, n = (numR p 255).1 := ⟨_, rfl⟩
      obtain ⟨er, her⟩ : ∃ er, er = (numR p 255).2 := ⟨_, rfl⟩
      rw [← hn, ← her] at hnum2 hbd
      rw [← her] at hbad
      have HN := Lib.hid hnum2
      have HNV := Lib.hid hn
      clear hnum hnum2 hcell hn her hpe
      by_cases he : er = 0
      · have t31 : (er != 0) = false := by simpa using he
        obtain ⟨hn0, hn1⟩ := hbd he
        obtain ⟨c8, hc8⟩ : ∃ c8 : UInt8, n = (c8.toNat : Int) := ⟨UInt8.ofNat n.toNat, by rw [UInt8.toNat_ofNat']; omega⟩
        subst hc8
        have hw8 : IntKind.u8.wrap ((c8.toNat : Nat) : Int) = c8.toNat := by
          have := UInt8.toNat_lt c8
          simp [IntKind.wrap, IntKind.bits, IntKind.signed]
          omega
        have hset := ad_setByte 4 0 ip k c8 (by omega)
        have hkc : 1 + k < (adCs 4 ip 0).toArray.size := by rw [List.size_toArray, adCs_len, hipl]; omega
        have HP := Lib.hid hp
        clear he hbad hp
        have hval2 : ∀ j q, j < k + 1 → ps[j]? = some q → (numR q 255).1 = (((ip.set k c8).getD j 0).toNat : Int) := by
          intro j q hj hq
          by_cases hjk : j = k
          · subst hjk
            rw [HP.out] at hq
            injection hq with hq
            rw [← hq, ← HNV.out, List.getD_eq_getElem?_getD, List.getElem?_set_self (by omega)]
            rfl
          · rw [List.getD_eq_getElem?_getD, List.getElem?_set_ne (Ne.symm hjk), ← List.getD_eq_getElem?_getD]
            exact HV.out j q (by omega) hq
        have hzer2 : ∀ j, k + 1 ≤ j → (ip.set k c8).getD j 0 = 0 := by
          intro j hj
          rw [List.getD_eq_getElem?_getD, List.getElem?_set_ne (by omega), ← List.getD_eq_getElem?_getD]
          exact HZ.out j (by omega)
        have HV2 := Lib.hid hval2
        have HZ2 := Lib.hid hzer2
        clear hval2 hzer2
        go_wp2_with (first
          | ((with_reducible refine HN.out.mono ?_); rintro e w3 ⟨rfl, hq⟩; subst hq)
          | (((with_reducible show wpList _ _ _ (Oper.mk _ (Op.store _ (Operand.tmp 37) _) _ _ _ _ :: _) _ _); refine wpList_putS rfl _ _ _ rfl S _ _ rfl _ rfl rfl rfl 0 _ _ rfl u8Size (by exact hkc) ?_; clear S; intro w1 S; (first | simp only [List.set_cons_zero] at S | simp only [List.set_cons_succ, List.set_cons_zero] at S | skip)); have S : Ats w2.heap.size w2 w1 [(ga, 24, (adCs 4 (ip.set k c8) 0).toArray)] := by rw [← hset]; exact S))
        go_roundw
        case rel => exact ⟨k + 1, ip.set k c8, by go_num, by omega, by omega, by rw [List.length_set]; exact hipl, HV2.out, HZ2.out, S⟩
        case measure => simp [intOf]; omega
      · have t31 : (er != 0) = true := by simpa using he
        have hb := hbad he
        have HBD := Lib.hid hb
        clear he hbad hb hp
        go_wp2_with (first
          | ((with_reducible refine HN.out.mono ?_); rintro e w3 ⟨rfl, hq⟩; subst hq; have S1 := S0.join S; clear S; have S := S1; clear S1)
          | ((with_reducible show wpList _ _ _ (Oper.mk _ (Op.store _ (Operand.tmp 2) _) _ _ _ _ :: _) _ _); refine wpList_storeS rfl _ _ _ rfl S _ rfl _ rfl 1 _ _ rfl adInfo (by rfl) (by simp [Value.oneCell']) ?_; clear S; intro w1 S; (first | simp only [List.set_cons_zero] at S | simp only [List.set_cons_succ, List.set_cons_zero] at S | skip)))
        exact bodyPost_ret (results_cell2S rfl _ S _ 1 _ _ _ rfl rfl Tryz.underlying24 rfl adInfo) rfl ⟨by rw [HBD.out]; rfl, S.below⟩
    · by_cases h4 : ps.length = 4
      · have hk : k = 4 := by omega
        have t40 : ((ps.length : Int) != 4) = false := by rw [bne_eq_false_iff_eq]; omega
        have i15 : ¬ k < 4 := by omega
        have i16 : ¬ k < ps.length := by omega
        have htx := fun w => refText_any 4 0 ip w hipl
        have hgd := HGD.out ip hipl
        have hbd := HB3.out ip
        have HTX := Lib.hid htx
        have HK := Lib.hid hk
        have H4 := Lib.hid h4
        obtain ⟨qt, hqt⟩ : ∃ qt, qt = quadI ip := ⟨_, rfl⟩
        rw [← hqt] at hgd hbd HTX
        have hs0 : s = ⟨s.data.toList.toArray⟩ := rfl
        obtain ⟨sl, hsl⟩ : ∃ sl, sl = s.data.toList := ⟨_, rfl⟩
        rw [← hsl] at hgd hbd hs0
        by_cases hq : qt = sl
        · have hR := hgd (fun j hj => HZ.out j (by omega)) hq
          have t45 : (qt == s.toList) = true := by rw [ByteArray.toList_eq, ← hsl, hq]; simp
          have HR := Lib.hid hR
          clear htx hgd hbd hk h4 hlt hqt hsl hs0 hq hR
          have S1 := S0.join S
          clear S
          have S := S1
          clear S1
          go_wp2_with (first
            | ((with_reducible refine (HTX.out _).mono ?_); rintro e w3 ⟨rfl, hb⟩; have S := S.call hb; clear hb)
            | ((with_reducible show wpList _ _ _ (Oper.mk _ (Op.load _ (Operand.tmp 5)) _ _ _ _ :: _) _ _); refine wpList_loadS rfl _ _ rfl S _ rfl 0 _ _ rfl _ Tryz.underlying24 rfl hsz ?_)
            | ((with_reducible show wpList _ _ _ (Oper.mk _ (Op.store _ (Operand.tmp 2) _) _ _ _ _ :: _) _ _); refine wpList_storeS rfl _ _ _ rfl S _ rfl _ rfl 1 _ _ rfl hsz (by exact ad_sizes _ _ _ _ _ _ rfl hipl) (by exact adCs_one _ _ _) ?_; clear S; intro w1 S; (first | simp only [List.set_cons_zero] at S | simp only [List.set_cons_succ, List.set_cons_zero] at S | skip)))
          exact bodyPost_ret (results_cell2S rfl _ S _ 1 _ _ _ rfl rfl Tryz.underlying24 rfl hsz) rfl ⟨by rw [HR.out]; rfl, S.below⟩
        · have hR := hbd (fun j p hj hp => HV.out j p (by omega) hp) hq
          have t45 : (qt == s.toList) = false := by rw [ByteArray.toList_eq, ← hsl, beq_eq_false_iff_ne]; exact hq
          have HR := Lib.hid hR
          clear htx hgd hbd hk h4 hlt hqt hsl hs0 hq hR
          have S1 := S0.join S
          clear S
          have S := S1
          clear S1
          go_wp2_with (first
            | ((with_reducible refine (HTX.out _).mono ?_); rintro e w3 ⟨rfl, hb⟩; have S := S.call hb; clear hb)
            | ((with_reducible show wpList _ _ _ (Oper.mk _ (Op.load _ (Operand.tmp 5)) _ _ _ _ :: _) _ _); refine wpList_loadS rfl _ _ rfl S _ rfl 0 _ _ rfl _ Tryz.underlying24 rfl hsz ?_)
            | ((with_reducible show wpList _ _ _ (Oper.mk _ (Op.store _ (Operand.tmp 2) _) _ _ _ _ :: _) _ _); refine wpList_storeS rfl _ _ _ rfl S _ rfl _ rfl 1 _ _ rfl adInfo (by rfl) (by simp [Value.oneCell']) ?_; clear S; intro w1 S; (first | simp only [List.set_cons_zero] at S | simp only [List.set_cons_succ, List.set_cons_zero] at S | skip)))
          exact bodyPost_ret (results_cell2S rfl _ S _ 1 _ _ _ rfl rfl Tryz.underlying24 rfl adInfo) rfl ⟨by rw [HR.out]; rfl, S.below⟩
      · have hR := HB2.out h4
        have t40 : ((ps.length : Int) != 4) = true := by rw [bne_iff_ne]; omega
        have HR := Lib.hid hR
        have HL := Lib.hid hlt
        clear h4 hR
        have S1 := S0.join S
        clear S
        have S := S1
        clear S1
        by_cases hl1 : k < ps.length
        · have i18 : ¬ k < 4 := fun h => HL.out ⟨hl1, h⟩
          clear hlt
          go_wp2_with (first | ((with_reducible show wpList _ _ _ (Oper.mk _ (Op.store _ (Operand.tmp 2) _) _ _ _ _ :: _) _ _); refine wpList_storeS rfl _ _ _ rfl S _ rfl _ rfl 1 _ _ rfl adInfo (by rfl) (by simp [Value.oneCell']) ?_; clear S; intro w1 S; (first | simp only [List.set_cons_zero] at S | simp only [List.set_cons_succ, List.set_cons_zero] at S | skip)))
          exact bodyPost_ret (results_cell2S rfl _ S _ 1 _ _ _ rfl rfl Tryz.underlying24 rfl adInfo) rfl ⟨by rw [HR.out]; rfl, S.below⟩
        · clear hlt
          go_wp2_with (first | ((with_reducible show wpList _ _ _ (Oper.mk _ (Op.store _ (Operand.tmp 2) _) _ _ _ _ :: _) _ _); refine wpList_storeS rfl _ _ _ rfl S _ rfl _ rfl 1 _ _ rfl adInfo (by rfl) (by simp [Value.oneCell']) ?_; clear S; intro w1 S; (first | simp only [List.set_cons_zero] at S | simp only [List.set_cons_succ, List.set_cons_zero] at S | skip)))
          exact bodyPost_ret (results_cell2S rfl _ S _ 1 _ _ _ rfl rfl Tryz.underlying24 rfl adInfo) rfl ⟨by rw [HR.out]; rfl, S.below⟩
end Go.Proofs.YthbdeafbdmbabaaGreatDoor
namespace Go.Proofs.YthbdeafbdmbabaaGreatDoor
open Go.RowKit Go
set_option linter.unusedVariables false
set_option maxRecDepth 100000
theorem elemI : Elem1 Tryz.prog 3 (.int .i64 0) 8 := by unfold Elem1; kernel_rfl
def SideY (m : List Nat) (B : Nat) (w : World) (e : Ending) (w' : World) : Prop := (∃ A c, e = .returned (.tuple #[.slice A m.length c, .bool true]) ∧ IntsAt w' .i64 A m.length (gInts m) ∧ (A = none → c = 0)) ∧ Below B w w'
def SideR (last : Bool) (l : List UInt8) (w : World) (e : Ending) (w' : World) : Prop :=
  (sideE last l = none ∧ e = .returned (.tuple #[.slice none 0 0, .bool false]) ∧ Below w.heap.size w w') ∨ (∃ m, sideE last l = some m ∧ SideY m w.heap.size w e w')
theorem gInts_len (g : List Nat) : (gInts g).length = g.length := by simp [gInts]
theorem own_gInt {w : World} {B e n k : Nat} {v : Value} {acc : List Nat} (h : w.ownsRow B e 1 v n (intVs .i64 (gInts acc) ++ [.int .i64 (k : Int)])) : w.ownsRow B e 1 v n (intVs .i64 (gInts (acc ++ [k]))) := by
  have e : intVs .i64 (gInts (acc ++ [k])) = intVs .i64 (gInts acc) ++ [.int .i64 (k : Int)] := by simp [intVs, gInts]
  rw [e]; exact h
theorem of_own2 {w : World} {q : IntKind} {base e n : Nat} {v : Value} {l : List Int} (h : w.ownsRow base e 1 v n (intVs q l)) : ∃ A c, v = .slice A n c ∧ IntsAt w q A n l ∧ (A = none → c = 0) := by
  have hl : n = l.length := by have := h.1; simp [intVs] at this; omega
  rcases h.2 with ⟨rfl, h0⟩ | ⟨g, cap, cur, rfl, _, hg, _⟩
  · have : n = 0 := h0
    subst this
    exact ⟨none, 0, rfl, ⟨hl, fun h => absurd h (by omega)⟩, fun _ => rfl⟩
  · refine ⟨_, _, rfl, ⟨hl, fun h0 => ⟨g, 0, rfl, (Array.getElem?_eq_some_iff.1 hg).1, fun j hj => ?_⟩⟩, fun h => by cases h⟩
    rw [Nat.zero_add, h.cellAt j (by omega)]
    simp [intVs, hj]
theorem grp2_groups (ip : List UInt8) (h : ip.length = 16) : grp2 (ip.take 4) = [(groupsG ip).getD 0 0, (groupsG ip).getD 1 0] := by
  match ip, h with
  | [a0, a1, a2, a3, a4, a5, a6, a7, a8, a9, a10, a11, a12, a13, a14, a15], _ => rfl
theorem four_err {p : List UInt8} (h : (parseE p).err ≠ 0) : fourE p = none := by unfold fourE; rw [if_neg h]
theorem four_ok {p : List UInt8} (h : (parseE p).err = 0) : fourE p = some ((parseE p).ip.take 4) := by unfold fourE; rw [if_pos h]
set_option maxHeartbeats 4000000 in
theorem refSide_any (s : ByteArray) (last : Bool) (w : World) (hs : s.size ≤ 4000) :
    Calls Tryz.prog 93 #[.string s, .bool last] w fun e w' => SideR last s.data.toList w e w' := by
  by_cases h0 : s.data.toList = []
  · have hg : sideE last s.data.toList = some [] := by unfold sideE; rw [if_pos h0]
    have h0' : s.toList.isEmpty = true := by rw [ByteArray.toList_eq, h0]; rfl
    have HG := Lib.hid hg
    clear hg h0
    go_enter Tryz.func93, Tryz.ntmps93
    go_wp2
    go_ret2
    exact .inr ⟨[], HG.out, ⟨none, 0, rfl, ⟨rfl, fun h => absurd h (by decide)⟩, fun _ => rfl⟩, Below.refl _ _⟩
  · have h0' : s.toList.isEmpty = false := by rw [ByteArray.toList_eq]; simpa using h0
    have hg : sideE last s.data.toList = sideP last (cutX 58 s.data.toList) := by unfold sideE; rw [if_neg h0]
    have hpt := refParts08_any s w hs
    have hln := cutX_len 58 s.data.toList
    have hmem := fun p (h : p ∈ cutXN 58 s.data.toList s.data.toList.length) => cutXN_mem 58 s.data.toList _ p h
    rw [cutXN_all 58 s.data.toList s.data.toList.length hln] at hmem
    rw [← Lib.size_eq] at hln hmem
    obtain ⟨ps, hps⟩ : ∃ ps, ps = cutX 58 s.data.toList := ⟨_, rfl⟩
    rw [← hps] at hpt hmem hln hg
    obtain ⟨R, hR⟩ : ∃ R, R = sideE last s.data.toList := ⟨_, rfl⟩
    have hHP : ∀ e w', (R = none ∧ e = .returned (.tuple #[.slice none 0 0, .bool false]) ∧ Below w.heap.size w w') ∨ (∃ m, R = some m ∧ SideY m w.heap.size w e w') → SideR last s.data.toList w e w' := by
      intro e w' h
      rw [hR] at h
      exact h
    rw [← hR] at hg
    have HSP := Lib.hid hpt
    have HH := Lib.hid hHP
    have HG := Lib.hid hg
    have HM := Lib.hid hmem
    clear hps hpt hg h0 hR hHP hmem
    go_enter Tryz.func93, Tryz.ntmps93
    go_wp2_with fail
    with_reducible refine HSP.out.mono ?_
    rintro e w2 ⟨⟨A, c, rfl, hta⟩, hb⟩
    have HTA := Lib.hid hta
    have HB0 := Lib.hid hb
    have HW2 := hb.size
    clear hta hb HSP
    go_wp2_with fail
    go_loopw [6, 8] (fun v i wr => ∃ (k : Nat) (acc : List Nat), i = .int .i64 k ∧ k ≤ ps.length ∧ wr.ownsRow w2.heap.size 3 1 v acc.length (intVs .i64 (gInts acc)) ∧ R = (sideP last (ps.drop k)).map (acc ++ ·) ∧ acc.length ≤ 2 * k ∧ Below w2.heap.size w2 wr) (fun _ i _ => ps.length - (intOf i).toNat)
    case atStart => exact ⟨0, [], rfl, Nat.zero_le _, World.ownsRow_nil _ _ _ _, by rw [HG.out, List.drop_zero]; simp, Nat.zero_le _, Below.refl _ _⟩
    case round =>
      obtain ⟨k, acc, rfl, hk, hown, hr, hal, HB⟩ := hrel
      have HR := Lib.hid hr
      clear hr HG
      by_cases hlt : k < ps.length
      · obtain ⟨p, hp⟩ : ∃ p, ps[k]? = some p := ⟨_, List.getElem?_eq_getElem hlt⟩
        obtain ⟨bA, oA, rfl, hbA, hcell⟩ := HTA.out.2 (by omega)
        have h1 := hcell k hlt
        rw [← HB.cell (p := ⟨bA, oA + k, none⟩) hbA] at h1
        have hpe : ps[k] = p := (List.getElem?_eq_some_iff.1 hp).2
        rw [hpe] at h1
        unfold strV at h1
        have hpl := HM.out p (List.mem_of_getElem? hp)
        have hdr := drop_cons hp
        have hrest : ps.drop (k + 1) = [] ↔ k + 1 = ps.length := by rw [List.drop_eq_nil_iff]; omega
        have hgc := refGrp_any ⟨p.toArray⟩ wr (by show p.length ≤ 4000; omega)
        rw [show (⟨p.toArray⟩ : ByteArray).data.toList = p from rfl] at hgc
        cases hgp : groupE p with
        | some n =>
          rw [grpI_some hgp] at hgc
          have hnew : R = (sideP last (ps.drop (k + 1))).map ((acc ++ [n]) ++ ·) := by
            rw [HR.out, hdr, sideP_go hgp, Option.map_map]
            congr 1
            funext x
            simp
          have HGC := Lib.hid hgc
          have HN := Lib.hid hnew
          clear hgc hnew hdr hrest hgp hp hpe hcell
          go_wp2_with (first
            | ((with_reducible refine HGC.out.mono ?_); rintro e w3 ⟨rfl, hq⟩; subst hq)
            | (at_builtin; refine wpList_app1 rfl (.tmp 30) (.tmp 32) 102 3 rfl Tryz.underlying102 elemI rfl w2.heap.size _ acc.length _ _ rfl rfl hown rfl (by omega) (by omega) HB.size ?_; intro v' w' hown' HB' _))
          have ho := own_gInt hown'
          have HBB := HB.trans HB'
          clear hown' hown
          go_wp2_with fail
          go_roundw
          case rel => exact ⟨k + 1, acc ++ [n], by go_num, by omega, by rw [List.length_append]; exact ho, HN.out, by simp; omega, HBB⟩
          case measure => simp [intOf]; omega
        | none =>
          rw [grpI_none hgp] at hgc
          have HGC := Lib.hid hgc
          have hpc := refParse07_any ⟨p.toArray⟩ wr (by show p.length ≤ 4000; omega)
          rw [show (⟨p.toArray⟩ : ByteArray).data.toList = p from rfl] at hpc
          simp only [adTup] at hpc
          have hipl := parseE_len p
          have hferr := four_err (p := p)
          have hfok := four_ok (p := p)
          obtain ⟨r, hr⟩ : ∃ r, r = parseE p := ⟨_, rfl⟩
          rw [← hr] at hpc hipl hferr hfok
          obtain ⟨fam, ip, er⟩ := r
          simp only at hpc hipl hferr hfok
          have hsz := adSize fam ip 0 hipl
          have HPC := Lib.hid hpc
          clear hgc hpc hr hp hpe hcell
          by_cases he : er = 0
          · have t43 : (er != 0) = false := by simpa using he
            cases last with
            | false =>
              have hno : R = none := by
                rw [HR.out, hdr, sideP_no hgp (.inl (fun h => by cases h.1))]
                rfl
              have HNO := Lib.hid hno
              clear hno hdr hrest hgp hferr hfok he
              go_wp2_with (first
                | ((with_reducible refine HGC.out.mono ?_); rintro e w3 ⟨rfl, hq⟩; subst hq)
                | ((with_reducible refine HPC.out.mono ?_); rintro e w3 ⟨rfl, hb⟩; have S := (Ats.of_below HB HB.size).call hb; clear hb)
                | ((with_reducible show wpList _ _ _ (Oper.mk (some 10) (Op.alloc _) _ _ _ _ :: _) _ _); refine wpList_allocS rfl _ rfl _ adZero S ?_; clear S; intro ga w1 S)
                | ((with_reducible show wpList _ _ _ (Oper.mk _ (Op.store _ (Operand.tmp 10) _) _ _ _ _ :: _) _ _); refine wpList_storeS rfl _ _ _ rfl S _ rfl _ rfl 0 _ _ rfl hsz (by exact ad_sizes _ _ _ _ _ _ rfl hipl) (by exact adCs_one _ _ _) ?_; clear S; intro w1 S; (first | simp only [List.set_cons_zero] at S | simp only [List.set_cons_succ, List.set_cons_zero] at S | skip)))
              go_ret2
              exact HH.out _ _ (.inl ⟨HNO.out, rfl, HB0.out.trans (S.below.mono HW2)⟩)
            | true =>
              by_cases hkl : k + 1 = ps.length
              · have hfb := hfok he
                have hnew : R = (sideP true (ps.drop (k + 1))).map ((acc ++ [(groupsG ip).getD 0 0] ++ [(groupsG ip).getD 1 0]) ++ ·) := by
                  rw [HR.out, hdr, hrest.2 hkl, sideP_four hgp hfb, grp2_groups ip hipl]
                  simp [sideP]
                have HN := Lib.hid hnew
                have g0 : ∀ w, Calls Tryz.prog 55 #[adV fam ip 0, .int .i64 0] w fun e w' => e = .returned (.int .i64 ((groupsG ip).getD 0 0 : Nat)) ∧ Below w.heap.size w w' := fun w => refGroup_any fam 0 ip 0 w hipl (by decide)
                have g1 : ∀ w, Calls Tryz.prog 55 #[adV fam ip 0, .int .i64 1] w fun e w' => e = .returned (.int .i64 ((groupsG ip).getD 1 0 : Nat)) ∧ Below w.heap.size w w' := fun w => refGroup_any fam 0 ip 1 w hipl (by decide)
                have G0 := Lib.hid g0
                have G1 := Lib.hid g1
                have t53 : decide ((k : Int) < (ps.length : Int) - 1) = false := by rw [decide_eq_false_iff_not]; omega
                have i53 : ¬ k + 1 < ps.length := by omega
                obtain ⟨n0, hn0⟩ : ∃ n, n = (groupsG ip).getD 0 0 := ⟨_, rfl⟩
                obtain ⟨n1, hn1⟩ : ∃ n, n = (groupsG ip).getD 1 0 := ⟨_, rfl⟩
                rw [← hn0] at HN G0
                rw [← hn1] at HN G1
                clear hnew hdr hrest hgp hferr hfok he hfb g0 g1 hkl hn0 hn1
                have HO := Lib.hid hown
                clear hown
                go_wp2_with (first
                  | ((with_reducible refine HGC.out.mono ?_); rintro e w3 ⟨rfl, hq⟩; subst hq)
                  | ((with_reducible refine HPC.out.mono ?_); rintro e w3 ⟨rfl, hb⟩; have S := (Ats.of_below HB HB.size).call hb; have HO := Lib.hid (ownsRow_below HO.out hb); clear hb)
                  | ((with_reducible refine (G0.out _).mono ?_); rintro e w3 ⟨rfl, hb⟩; have S := S.call hb; have HO := Lib.hid (ownsRow_below HO.out hb); clear hb)
                  | ((with_reducible refine (G1.out _).mono ?_); rintro e w3 ⟨rfl, hb⟩; have S := S.call hb; have HO := Lib.hid (ownsRow_below HO.out hb); clear hb)
                  | ((with_reducible show wpList _ _ _ (Oper.mk (some 10) (Op.alloc _) _ _ _ _ :: _) _ _); refine wpList_allocT rfl _ rfl _ adZero S ?_; clear S; intro ga w1 S hb; have HO := Lib.hid (ownsRow_below HO.out hb); clear hb)
                  | ((with_reducible show wpList _ _ _ (Oper.mk _ (Op.store _ (Operand.tmp 10) _) _ _ _ _ :: _) _ _); refine wpList_storeT rfl _ _ _ rfl S _ rfl _ rfl 0 _ _ rfl hsz (by exact ad_sizes _ _ _ _ _ _ rfl hipl) (by exact adCs_one _ _ _) ?_; have HNE := (S.get (i := 0) rfl).own_ne HO.out (by decide); clear S; intro w1 S hg1; simp only [List.set_cons_zero] at S; have HO := Lib.hid (own_grown HO.out hg1 (.inl HNE)); clear HNE hg1)
                  | ((with_reducible show wpList _ _ _ (Oper.mk _ (Op.load _ (Operand.tmp 10)) _ _ _ _ :: _) _ _); refine wpList_loadS rfl _ _ rfl S _ rfl 0 _ _ rfl _ Tryz.underlying24 rfl hsz ?_)
                  | ((with_reducible show wpList _ _ _ (Oper.mk (some 59) _ _ _ _ _ :: _) _ _); refine wpList_app1S rfl (.tmp 55) (.tmp 58) 102 3 rfl Tryz.underlying102 elemI rfl w2.heap.size _ acc.length _ _ rfl rfl HO.out S (by intro y hy; simp at hy; subst hy; exact (by decide : (3 : Nat) ≠ 24)) (Nat.le_refl _) rfl (by omega) (by omega) S.big ?_; clear S HO; intro v4 w4 ho4 S; have HO := Lib.hid (own_gInt ho4); clear ho4)
                  | ((with_reducible show wpList _ _ _ (Oper.mk (some 64) _ _ _ _ _ :: _) _ _); refine wpList_app1S rfl (.tmp 60) (.tmp 63) 102 3 rfl Tryz.underlying102 elemI rfl w2.heap.size _ (acc.length + 1) _ _ rfl rfl HO.out S (by intro y hy; simp at hy; subst hy; exact (by decide : (3 : Nat) ≠ 24)) (Nat.le_refl _) rfl (by omega) (by omega) S.big ?_; clear S HO; intro v5 w5 ho5 S; have HO := Lib.hid (own_gInt ho5); clear ho5))
                go_roundw
                case rel => exact ⟨k + 1, _, by go_num, by omega, by rw [List.length_append, List.length_append]; exact HO.out, HN.out, by simp; omega, S.below⟩
                case measure => simp [intOf]; omega
              · have hno : R = none := by
                  rw [HR.out, hdr, sideP_no hgp (.inl (fun h => hkl (hrest.1 h.2)))]
                  rfl
                have HNO := Lib.hid hno
                have t53 : decide ((k : Int) < (ps.length : Int) - 1) = true := by rw [decide_eq_true_eq]; omega
                have i53 : k + 1 < ps.length := by omega
                clear hno hdr hrest hgp hferr hfok he hkl
                go_wp2_with (first
                  | ((with_reducible refine HGC.out.mono ?_); rintro e w3 ⟨rfl, hq⟩; subst hq)
                  | ((with_reducible refine HPC.out.mono ?_); rintro e w3 ⟨rfl, hb⟩; have S := (Ats.of_below HB HB.size).call hb; clear hb)
                  | ((with_reducible show wpList _ _ _ (Oper.mk (some 10) (Op.alloc _) _ _ _ _ :: _) _ _); refine wpList_allocS rfl _ rfl _ adZero S ?_; clear S; intro ga w1 S)
                  | ((with_reducible show wpList _ _ _ (Oper.mk _ (Op.store _ (Operand.tmp 10) _) _ _ _ _ :: _) _ _); refine wpList_storeS rfl _ _ _ rfl S _ rfl _ rfl 0 _ _ rfl hsz (by exact ad_sizes _ _ _ _ _ _ rfl hipl) (by exact adCs_one _ _ _) ?_; clear S; intro w1 S; (first | simp only [List.set_cons_zero] at S | simp only [List.set_cons_succ, List.set_cons_zero] at S | skip)))
                go_ret2
                exact HH.out _ _ (.inl ⟨HNO.out, rfl, HB0.out.trans (S.below.mono HW2)⟩)
          · have t43 : (er != 0) = true := by simpa using he
            have hno : R = none := by
              rw [HR.out, hdr, sideP_no hgp (.inr (hferr he))]
              rfl
            have HNO := Lib.hid hno
            clear hno hdr hrest hgp hferr hfok he
            go_wp2_with (first
              | ((with_reducible refine HGC.out.mono ?_); rintro e w3 ⟨rfl, hq⟩; subst hq)
              | ((with_reducible refine HPC.out.mono ?_); rintro e w3 ⟨rfl, hb⟩; have S := (Ats.of_below HB HB.size).call hb; clear hb)
              | ((with_reducible show wpList _ _ _ (Oper.mk (some 10) (Op.alloc _) _ _ _ _ :: _) _ _); refine wpList_allocS rfl _ rfl _ adZero S ?_; clear S; intro ga w1 S)
              | ((with_reducible show wpList _ _ _ (Oper.mk _ (Op.store _ (Operand.tmp 10) _) _ _ _ _ :: _) _ _); refine wpList_storeS rfl _ _ _ rfl S _ rfl _ rfl 0 _ _ rfl hsz (by exact ad_sizes _ _ _ _ _ _ rfl hipl) (by exact adCs_one _ _ _) ?_; clear S; intro w1 S; (first | simp only [List.set_cons_zero] at S | simp only [List.set_cons_succ, List.set_cons_zero] at S | skip)))
            go_ret2
            exact HH.out _ _ (.inl ⟨HNO.out, rfl, HB0.out.trans (S.below.mono HW2)⟩)
      · obtain rfl : k = ps.length := by omega
        have hfin : R = some acc := by
          rw [HR.out, List.drop_length]
          simp [sideP]
        have HF := Lib.hid hfin
        clear hfin HR
        obtain ⟨A', c', rfl, hi, hcz⟩ := of_own2 hown
        have HI := Lib.hid hi
        have HCZ := Lib.hid hcz
        clear hi hcz hown
        go_wp2_with fail
        go_ret2
        exact HH.out _ _ (.inr ⟨acc, HF.out, ⟨A', c', rfl, HI.out, HCZ.out⟩, HB0.out.trans (HB.mono HW2)⟩)
end Go.Proofs.YthbdeafbdmbabaaGreatDoor
