/- Layer 8: colon.Parse. -/
import Derived.Test.YtkchgjakkogejaaDoorColon10
import Derived.Test.YtkchgjakkogejaaDoorLaw01
namespace Go.Proofs.YtkchgjakkogejaaDoor
open Go.RowKit Go
set_option linter.unusedVariables false
set_option maxRecDepth 100000
structure AdZ where
  fam : Int
  ip : List UInt8
  zone : Int
  err : Int
def adTupZ (r : AdZ) : Value := .tuple #[adV r.fam r.ip r.zone, .int .i64 r.err]
def colonE (l : List UInt8) : AdZ := match octE (l.take (cutK l 37)) with
  | none => ⟨0, zero16, 0, 5⟩
  | some b => if l.length ≤ cutK l 37 then ⟨6, b, 0, 0⟩ else if (numR (l.drop (cutK l 37 + 1)) 2147483647).2 ≠ 0 then ⟨0, zero16, 0, (numR (l.drop (cutK l 37 + 1)) 2147483647).2⟩ else if (numR (l.drop (cutK l 37 + 1)) 2147483647).1 = 0 then ⟨0, zero16, 0, 4⟩ else ⟨6, b, (numR (l.drop (cutK l 37 + 1)) 2147483647).1, 0⟩
theorem octE_len {l b : List UInt8} (h : octE l = some b) : b.length = 16 := by
  unfold octE at h
  obtain ⟨g, hg, rfl⟩ := Option.map_eq_some_iff.1 h
  rw [bytesG_len, plainE_len hg]
theorem colonE_len (l : List UInt8) : (colonE l).ip.length = 16 := by
  unfold colonE
  split
  · rfl
  · rename_i b h
    have := octE_len h
    split
    · exact this
    · split
      · rfl
      · split
        · rfl
        · exact this
theorem z16_zero : (z16 : List Value) = zero16.map cellU := rfl
theorem octV_some (b : List UInt8) : octV (some b) = .tuple #[.agg (b.map cellU).toArray, .bool true] := rfl
theorem octV_none : octV none = .tuple #[.agg z16.toArray, .bool false] := rfl
theorem ba_ext (s : ByteArray) (k : Nat) : s.extract 0 k = ⟨(s.data.toList.take k).toArray⟩ := by
  apply ByteArray.ext
  rw [← Array.toList_inj, Lib.extract_data]
  simp
theorem ba_ext2 (s : ByteArray) (k : Nat) : s.extract (k + 1) s.size = ⟨(s.data.toList.drop (k + 1)).toArray⟩ := by
  apply ByteArray.ext
  rw [← Array.toList_inj, extract_tail]
theorem bCells (b : List UInt8) (h : b.length = 16) : (Tryd.prog.info? 23).map (·.size) = some (b.map cellU).toArray.size := by rw [z16Size]; simp [h]
theorem bOne (b : List UInt8) : (b.map cellU).toArray.all (·.oneCell') = true := by simp [cellU, Value.oneCell']
theorem build_ad (b : List UInt8) (h : b.length = 16) : List.foldl (fun (cs : Array Value) (x : Value × Nat) => cs.setIfInBounds (1 + x.snd) x.fst)
    #[Value.int IntKind.i64 6, Value.int IntKind.u8 0, Value.int IntKind.u8 0, Value.int IntKind.u8 0, Value.int IntKind.u8 0, Value.int IntKind.u8 0, Value.int IntKind.u8 0, Value.int IntKind.u8 0, Value.int IntKind.u8 0, Value.int IntKind.u8 0, Value.int IntKind.u8 0, Value.int IntKind.u8 0, Value.int IntKind.u8 0, Value.int IntKind.u8 0, Value.int IntKind.u8 0, Value.int IntKind.u8 0, Value.int IntKind.u8 0, Value.int IntKind.i64 0]
    (List.map cellU b).zipIdx = (adCs 6 b 0).toArray := by
  obtain ⟨a0, a1, a2, a3, a4, a5, a6, a7, a8, a9, a10, a11, a12, a13, a14, a15, rfl⟩ : ∃ a0 a1 a2 a3 a4 a5 a6 a7 a8 a9 a10 a11 a12 a13 a14 a15, b = [a0, a1, a2, a3, a4, a5, a6, a7, a8, a9, a10, a11, a12, a13, a14, a15] := by
    match b, h with
    | [a0, a1, a2, a3, a4, a5, a6, a7, a8, a9, a10, a11, a12, a13, a14, a15], _ => exact ⟨_, _, _, _, _, _, _, _, _, _, _, _, _, _, _, _, rfl⟩
  simp [adCs, List.zipIdx]
theorem ad_setZone (f z z' : Int) (b : List UInt8) (h : b.length = 16) : (adCs f b z).toArray.setIfInBounds 17 (.int .i64 z') = (adCs f b z').toArray := by
  match b, h with
  | [a0, a1, a2, a3, a4, a5, a6, a7, a8, a9, a10, a11, a12, a13, a14, a15], _ => rfl
theorem intSize : (Tryd.prog.info? 3).map (·.size) = some 1 := by kernel_rfl
theorem ad_size18 (f z : Int) (b : List UInt8) (h : b.length = 16) : (adCs f b z).toArray.size = 18 := by rw [List.size_toArray, adCs_len, h]
set_option maxHeartbeats 4000000 in
theorem parse_any8 (s : ByteArray) (w : World) (hs : s.size ≤ 4000) (hP : P10 w) (hM : MX w) :
    Calls Tryd.prog 6 #[.string s] w fun e w' => e = .returned (adTupZ (colonE s.data.toList)) ∧ Below w.heap.size w w' := by
  have S := Ats.start w
  have hsz := Lib.size_eq s
  have hPd : ∀ wr L, Ats w.heap.size w wr L → P10 wr := fun wr L h => hP.below (Nat.le_refl _) h.below
  have hMd : ∀ wr L, Ats w.heap.size w wr L → MX wr := fun wr L h => hM.below (Nat.le_refl _) h.below
  have HPd := Lib.hid hPd
  have HMd := Lib.hid hMd
  have hcut := fun wr => cut_any s 37 wr (by omega) (by decide) (by decide)
  have hoct := fun wr (h : P10 wr) (h' : MX wr) => octets_any ⟨(s.data.toList.take (cutK s.data.toList 37)).toArray⟩ wr (by show (s.data.toList.take _).length ≤ 4000; rw [List.length_take]; omega) h h'
  have hnum := fun wr => number_any ⟨(s.data.toList.drop (cutK s.data.toList 37 + 1)).toArray⟩ 2147483647 wr (by show (s.data.toList.drop _).length ≤ 4000; rw [List.length_drop]; omega) (by decide) (by decide)
  have e1 : (⟨(s.data.toList.take (cutK s.data.toList 37)).toArray⟩ : ByteArray).data.toList = s.data.toList.take (cutK s.data.toList 37) := rfl
  have e2 : (⟨(s.data.toList.drop (cutK s.data.toList 37 + 1)).toArray⟩ : ByteArray).data.toList = s.data.toList.drop (cutK s.data.toList 37 + 1) := rfl
  rw [e1] at hoct
  rw [e2] at hnum
  have hE : colonE s.data.toList = colonE s.data.toList := rfl
  conv at hE => rhs; unfold colonE
  obtain ⟨R, hR⟩ : ∃ R, R = colonE s.data.toList := ⟨_, rfl⟩
  have hRl := colonE_len s.data.toList
  rw [← hR] at hE hRl ⊢
  obtain ⟨O, hO⟩ : ∃ O, O = octE (s.data.toList.take (cutK s.data.toList 37)) := ⟨_, rfl⟩
  have hOl : ∀ b, O = some b → b.length = 16 := fun b h => octE_len (hO ▸ h)
  rw [← hO] at hE hoct
  obtain ⟨k, hk⟩ : ∃ k, k = cutK s.data.toList 37 := ⟨_, rfl⟩
  have hx1 := ba_ext s k
  have hx2 := ba_ext2 s k
  rw [← hk] at hE hoct hnum
  obtain ⟨N, hN⟩ : ∃ N, N = numR (s.data.toList.drop (k + 1)) 2147483647 := ⟨_, rfl⟩
  have hnum2 : ∀ wr, Calls Tryd.prog 12 #[.string ⟨(s.data.toList.drop (k + 1)).toArray⟩, .int .i64 2147483647] wr fun e w' => e = .returned (.tuple #[.int .i64 N.1, .int .i64 N.2]) ∧ wr = w' := fun wr => (hnum wr).mono fun e w' ⟨h, h'⟩ => ⟨by rw [hN]; exact numP_R h, h'⟩
  rw [← hN] at hE
  by_cases hlt : k < s.size
  · have hcut2 : ∀ wr, Calls Tryd.prog 10 #[.string s, .int .u8 37] wr fun e w' => e = .returned (.tuple #[.string ⟨(s.data.toList.take k).toArray⟩, .string ⟨(s.data.toList.drop (k + 1)).toArray⟩, .bool true]) ∧ Below wr.heap.size wr w' := fun wr => (hcut wr).mono fun e w' ⟨h, h'⟩ => ⟨by
      rcases h with ⟨_, h⟩ | ⟨h, _⟩
      · rw [h, CutHit, ← hk, hx1, hx2]
      · omega, h'⟩
    have HC := Lib.hid hcut2
    have HO := Lib.hid hoct
    have HN := Lib.hid hnum2
    clear hcut hcut2 hoct hnum hnum2 hx1 hx2 hPd hMd hP hM hR hO e1 e2
    cases O with
    | none =>
      rw [octV_none] at HO
      simp only at hE
      have HE := Lib.hid hE
      clear hE hsz hk hN hOl
      go_enter Tryd.func6, Tryd.ntmps6
      go_wp2_with (first
        | ((with_reducible show wpList _ _ _ (Oper.mk (some 2) (Op.alloc _) _ _ _ _ :: _) _ _); refine wpList_allocS rfl _ rfl _ adZero S ?_; clear S; intro gr w1 S)
        | ((with_reducible show wpList _ _ _ (Oper.mk (some 6) (Op.alloc _) _ _ _ _ :: _) _ _); refine wpList_allocS rfl _ rfl _ z16Zero S ?_; clear S; intro gi w1 S)
        | ((with_reducible refine (HC.out _).mono ?_); rintro e w2 ⟨rfl, hb⟩; have S := S.call hb; clear hb)
        | ((with_reducible refine (HO.out _ (HPd.out _ _ S) (HMd.out _ _ S)).mono ?_); rintro e w2 ⟨rfl, hb⟩; have S := S.call hb; clear hb)
        | ((with_reducible show wpList _ _ _ (Oper.mk _ (Op.store _ (Operand.tmp 6) _) _ _ _ _ :: _) _ _); refine wpList_storeS rfl _ _ _ rfl S _ rfl _ rfl 0 _ _ rfl z16Size (by rfl) (by simp [z16, Value.oneCell']) ?_; clear S; intro w1 S; (first | simp only [List.set_cons_zero] at S | simp only [List.set_cons_succ, List.set_cons_zero] at S | skip))
        | ((with_reducible show wpList _ _ _ (Oper.mk _ (Op.store _ (Operand.tmp 2) _) _ _ _ _ :: _) _ _); refine wpList_storeS rfl _ _ _ rfl S _ rfl _ rfl 1 _ _ rfl adInfo (by rfl) (by first | exact adCs_one _ _ _ | simp [Value.oneCell']) ?_; clear S; intro w1 S; (first | simp only [List.set_cons_zero] at S | simp only [List.set_cons_succ, List.set_cons_zero] at S | skip)))
      exact bodyPost_ret (results_cell2S rfl _ S _ 1 _ _ _ rfl rfl Tryd.underlying25 rfl adInfo) rfl ⟨by rw [HE.out]; rfl, S.below⟩
    | some b =>
      have hbl := hOl b rfl
      rw [octV_some] at HO
      simp only at hE
      rw [if_neg (by omega)] at hE
      have HE := Lib.hid hE
      clear hE hsz hk hN hOl
      have hbc := bCells b hbl
      have hbo := bOne b
      have hbd := build_ad b hbl
      have has := adSize 6 b 0 hbl
      obtain ⟨n, er⟩ := N
      simp only at HN HE
      by_cases h0 : er = 0
      · have t36 : (er != 0) = false := by simpa using h0
        by_cases hn0 : n = 0
        · have t40 : (n == 0) = true := by simpa using hn0
          have hE := HE.out
          rw [if_neg (by simpa using h0), if_pos hn0] at hE
          have HE := Lib.hid hE
          clear hE h0 hn0
          go_enter Tryd.func6, Tryd.ntmps6
          go_wp2_with (first
            | ((with_reducible show wpList _ _ _ (Oper.mk (some 2) (Op.alloc _) _ _ _ _ :: _) _ _); refine wpList_allocS rfl _ rfl _ adZero S ?_; clear S; intro gr w1 S)
            | ((with_reducible show wpList _ _ _ (Oper.mk (some 6) (Op.alloc _) _ _ _ _ :: _) _ _); refine wpList_allocS rfl _ rfl _ z16Zero S ?_; clear S; intro gi w1 S)
            | ((with_reducible show wpList _ _ _ (Oper.mk (some 8) (Op.alloc _) _ _ _ _ :: _) _ _); refine wpList_allocS rfl _ rfl _ adZero S ?_; clear S; intro ga w1 S)
            | ((with_reducible refine (HC.out _).mono ?_); rintro e w2 ⟨rfl, hb⟩; have S := S.call hb; clear hb)
            | ((with_reducible refine (HO.out _ (HPd.out _ _ S) (HMd.out _ _ S)).mono ?_); rintro e w2 ⟨rfl, hb⟩; have S := S.call hb; clear hb)
            | ((with_reducible refine (HN.out _).mono ?_); rintro e w2 ⟨rfl, hq⟩; subst hq)
            | ((with_reducible show wpList _ _ _ (Oper.mk _ (Op.store _ (Operand.tmp 6) _) _ _ _ _ :: _) _ _); refine wpList_storeS rfl _ _ _ rfl S _ rfl _ rfl 0 _ _ rfl hbc (by simp [z16, hbl, Value.cells]) (by exact hbo) ?_; clear S; intro w1 S; (first | simp only [List.set_cons_zero] at S | simp only [List.set_cons_succ, List.set_cons_zero] at S | skip))
            | ((with_reducible show wpList _ _ _ (Oper.mk _ (Op.load _ (Operand.tmp 6)) _ _ _ _ :: _) _ _); refine wpList_loadS rfl _ _ rfl S _ rfl 1 _ _ rfl _ Tryd.underlying23 rfl hbc ?_)
            | ((with_reducible show wpList _ _ _ (Oper.mk _ (Op.load _ (Operand.tmp 6)) _ _ _ _ :: _) _ _); refine wpList_loadS rfl _ _ rfl S _ rfl 0 _ _ rfl _ Tryd.underlying23 rfl hbc ?_)
            | ((with_reducible show wpList _ _ _ (Oper.mk _ (Op.store _ (Operand.tmp 8) _) _ _ _ _ :: _) _ _); refine wpList_storeS rfl _ _ _ rfl S _ rfl _ rfl 0 _ _ rfl has (by exact ad_sizes _ _ _ _ _ _ rfl hbl) (by exact adCs_one _ _ _) ?_; clear S; intro w1 S; (first | simp only [List.set_cons_zero] at S | simp only [List.set_cons_succ, List.set_cons_zero] at S | skip))
            | ((with_reducible show wpList _ _ _ (Oper.mk _ (Op.load _ (Operand.tmp 8)) _ _ _ _ :: _) _ _); refine wpList_loadS rfl _ _ rfl S _ rfl 0 _ _ rfl _ Tryd.underlying25 rfl has ?_)
            | (((with_reducible show wpList _ _ _ (Oper.mk _ (Op.store _ (Operand.tmp 43) _) _ _ _ _ :: _) _ _); refine wpList_putS rfl _ _ _ rfl S _ _ rfl _ rfl rfl rfl 0 _ _ rfl intSize (by rw [ad_size18 _ _ _ hbl]; decide) ?_; clear S; intro w1 S; (first | simp only [List.set_cons_zero] at S | simp only [List.set_cons_succ, List.set_cons_zero] at S | skip)); try (have S : Ats w.heap.size w w1 [(ga, 25, (adCs 6 b n).toArray), (gi, 23, (b.map cellU).toArray), (gr, 25, (adCs 0 zero16 0).toArray)] := by rw [← hzn]; exact S))
            | ((with_reducible show wpList _ _ _ (Oper.mk _ (Op.store _ (Operand.tmp 2) _) _ _ _ _ :: _) _ _); refine wpList_storeS rfl _ _ _ rfl S _ rfl _ rfl 2 _ _ rfl has (by exact ad_sizes _ _ _ _ _ _ rfl hbl) (by exact adCs_one _ _ _) ?_; clear S; intro w1 S; (first | simp only [List.set_cons_zero] at S | simp only [List.set_cons_succ, List.set_cons_zero] at S | skip))
            | ((with_reducible show wpList _ _ _ (Oper.mk _ (Op.store _ (Operand.tmp 2) _) _ _ _ _ :: _) _ _); refine wpList_storeS rfl _ _ _ rfl S _ rfl _ rfl 2 _ _ rfl adInfo (by rfl) (by first | exact adCs_one _ _ _ | simp [Value.oneCell']) ?_; clear S; intro w1 S; (first | simp only [List.set_cons_zero] at S | simp only [List.set_cons_succ, List.set_cons_zero] at S | skip)))
          exact bodyPost_ret (results_cell2S rfl _ S _ 2 _ _ _ rfl rfl Tryd.underlying25 rfl adInfo) rfl ⟨by rw [HE.out]; rfl, S.below⟩
        · have t40 : (n == 0) = false := by simpa using hn0
          have hE := HE.out
          rw [if_neg (by simpa using h0), if_neg hn0] at hE
          have HE := Lib.hid hE
          have hzn := ad_setZone 6 0 n b hbl
          have has2 := adSize 6 b n hbl
          clear hE h0 hn0
          go_enter Tryd.func6, Tryd.ntmps6
          go_wp2_with (first
            | ((with_reducible show wpList _ _ _ (Oper.mk (some 2) (Op.alloc _) _ _ _ _ :: _) _ _); refine wpList_allocS rfl _ rfl _ adZero S ?_; clear S; intro gr w1 S)
            | ((with_reducible show wpList _ _ _ (Oper.mk (some 6) (Op.alloc _) _ _ _ _ :: _) _ _); refine wpList_allocS rfl _ rfl _ z16Zero S ?_; clear S; intro gi w1 S)
            | ((with_reducible show wpList _ _ _ (Oper.mk (some 8) (Op.alloc _) _ _ _ _ :: _) _ _); refine wpList_allocS rfl _ rfl _ adZero S ?_; clear S; intro ga w1 S)
            | ((with_reducible refine (HC.out _).mono ?_); rintro e w2 ⟨rfl, hb⟩; have S := S.call hb; clear hb)
            | ((with_reducible refine (HO.out _ (HPd.out _ _ S) (HMd.out _ _ S)).mono ?_); rintro e w2 ⟨rfl, hb⟩; have S := S.call hb; clear hb)
            | ((with_reducible refine (HN.out _).mono ?_); rintro e w2 ⟨rfl, hq⟩; subst hq)
            | ((with_reducible show wpList _ _ _ (Oper.mk _ (Op.store _ (Operand.tmp 6) _) _ _ _ _ :: _) _ _); refine wpList_storeS rfl _ _ _ rfl S _ rfl _ rfl 0 _ _ rfl hbc (by simp [z16, hbl, Value.cells]) (by exact hbo) ?_; clear S; intro w1 S; (first | simp only [List.set_cons_zero] at S | simp only [List.set_cons_succ, List.set_cons_zero] at S | skip))
            | ((with_reducible show wpList _ _ _ (Oper.mk _ (Op.load _ (Operand.tmp 6)) _ _ _ _ :: _) _ _); refine wpList_loadS rfl _ _ rfl S _ rfl 1 _ _ rfl _ Tryd.underlying23 rfl hbc ?_)
            | ((with_reducible show wpList _ _ _ (Oper.mk _ (Op.load _ (Operand.tmp 6)) _ _ _ _ :: _) _ _); refine wpList_loadS rfl _ _ rfl S _ rfl 0 _ _ rfl _ Tryd.underlying23 rfl hbc ?_)
            | ((with_reducible show wpList _ _ _ (Oper.mk _ (Op.store _ (Operand.tmp 8) _) _ _ _ _ :: _) _ _); refine wpList_storeS rfl _ _ _ rfl S _ rfl _ rfl 0 _ _ rfl has (by exact ad_sizes _ _ _ _ _ _ rfl hbl) (by exact adCs_one _ _ _) ?_; clear S; intro w1 S; (first | simp only [List.set_cons_zero] at S | simp only [List.set_cons_succ, List.set_cons_zero] at S | skip))
            | ((with_reducible show wpList _ _ _ (Oper.mk _ (Op.load _ (Operand.tmp 8)) _ _ _ _ :: _) _ _); refine wpList_loadS rfl _ _ rfl S _ rfl 0 _ _ rfl _ Tryd.underlying25 rfl has2 ?_)
            | (((with_reducible show wpList _ _ _ (Oper.mk _ (Op.store _ (Operand.tmp 43) _) _ _ _ _ :: _) _ _); refine wpList_putS rfl _ _ _ rfl S _ _ rfl _ rfl rfl rfl 0 _ _ rfl intSize (by rw [ad_size18 _ _ _ hbl]; decide) ?_; clear S; intro w1 S; (first | simp only [List.set_cons_zero] at S | simp only [List.set_cons_succ, List.set_cons_zero] at S | skip)); try (have S : Ats w.heap.size w w1 [(ga, 25, (adCs 6 b n).toArray), (gi, 23, (b.map cellU).toArray), (gr, 25, (adCs 0 zero16 0).toArray)] := by rw [← hzn]; exact S))
            | ((with_reducible show wpList _ _ _ (Oper.mk _ (Op.store _ (Operand.tmp 2) _) _ _ _ _ :: _) _ _); refine wpList_storeS rfl _ _ _ rfl S _ rfl _ rfl 2 _ _ rfl has2 (by exact ad_sizes _ _ _ _ _ _ rfl hbl) (by exact adCs_one _ _ _) ?_; clear S; intro w1 S; (first | simp only [List.set_cons_zero] at S | simp only [List.set_cons_succ, List.set_cons_zero] at S | skip))
            | ((with_reducible show wpList _ _ _ (Oper.mk _ (Op.store _ (Operand.tmp 2) _) _ _ _ _ :: _) _ _); refine wpList_storeS rfl _ _ _ rfl S _ rfl _ rfl 2 _ _ rfl adInfo (by rfl) (by first | exact adCs_one _ _ _ | simp [Value.oneCell']) ?_; clear S; intro w1 S; (first | simp only [List.set_cons_zero] at S | simp only [List.set_cons_succ, List.set_cons_zero] at S | skip)))
          exact bodyPost_ret (results_cell2S rfl _ S _ 2 _ _ _ rfl rfl Tryd.underlying25 rfl has2) rfl ⟨by rw [HE.out]; rfl, S.below⟩
      · have t36 : (er != 0) = true := by simpa using h0
        have hE := HE.out
        rw [if_pos h0] at hE
        have HE := Lib.hid hE
        clear hE h0
        go_enter Tryd.func6, Tryd.ntmps6
        go_wp2_with (first
          | ((with_reducible show wpList _ _ _ (Oper.mk (some 2) (Op.alloc _) _ _ _ _ :: _) _ _); refine wpList_allocS rfl _ rfl _ adZero S ?_; clear S; intro gr w1 S)
          | ((with_reducible show wpList _ _ _ (Oper.mk (some 6) (Op.alloc _) _ _ _ _ :: _) _ _); refine wpList_allocS rfl _ rfl _ z16Zero S ?_; clear S; intro gi w1 S)
          | ((with_reducible show wpList _ _ _ (Oper.mk (some 8) (Op.alloc _) _ _ _ _ :: _) _ _); refine wpList_allocS rfl _ rfl _ adZero S ?_; clear S; intro ga w1 S)
          | ((with_reducible refine (HC.out _).mono ?_); rintro e w2 ⟨rfl, hb⟩; have S := S.call hb; clear hb)
          | ((with_reducible refine (HO.out _ (HPd.out _ _ S) (HMd.out _ _ S)).mono ?_); rintro e w2 ⟨rfl, hb⟩; have S := S.call hb; clear hb)
          | ((with_reducible refine (HN.out _).mono ?_); rintro e w2 ⟨rfl, hq⟩; subst hq)
          | ((with_reducible show wpList _ _ _ (Oper.mk _ (Op.store _ (Operand.tmp 6) _) _ _ _ _ :: _) _ _); refine wpList_storeS rfl _ _ _ rfl S _ rfl _ rfl 0 _ _ rfl hbc (by simp [z16, hbl, Value.cells]) (by exact hbo) ?_; clear S; intro w1 S; (first | simp only [List.set_cons_zero] at S | simp only [List.set_cons_succ, List.set_cons_zero] at S | skip))
          | ((with_reducible show wpList _ _ _ (Oper.mk _ (Op.load _ (Operand.tmp 6)) _ _ _ _ :: _) _ _); refine wpList_loadS rfl _ _ rfl S _ rfl 1 _ _ rfl _ Tryd.underlying23 rfl hbc ?_)
          | ((with_reducible show wpList _ _ _ (Oper.mk _ (Op.load _ (Operand.tmp 6)) _ _ _ _ :: _) _ _); refine wpList_loadS rfl _ _ rfl S _ rfl 0 _ _ rfl _ Tryd.underlying23 rfl hbc ?_)
          | ((with_reducible show wpList _ _ _ (Oper.mk _ (Op.store _ (Operand.tmp 8) _) _ _ _ _ :: _) _ _); refine wpList_storeS rfl _ _ _ rfl S _ rfl _ rfl 0 _ _ rfl has (by exact ad_sizes _ _ _ _ _ _ rfl hbl) (by exact adCs_one _ _ _) ?_; clear S; intro w1 S; (first | simp only [List.set_cons_zero] at S | simp only [List.set_cons_succ, List.set_cons_zero] at S | skip))
          | ((with_reducible show wpList _ _ _ (Oper.mk _ (Op.load _ (Operand.tmp 8)) _ _ _ _ :: _) _ _); refine wpList_loadS rfl _ _ rfl S _ rfl 0 _ _ rfl _ Tryd.underlying25 rfl has ?_)
          | (((with_reducible show wpList _ _ _ (Oper.mk _ (Op.store _ (Operand.tmp 43) _) _ _ _ _ :: _) _ _); refine wpList_putS rfl _ _ _ rfl S _ _ rfl _ rfl rfl rfl 0 _ _ rfl intSize (by rw [ad_size18 _ _ _ hbl]; decide) ?_; clear S; intro w1 S; (first | simp only [List.set_cons_zero] at S | simp only [List.set_cons_succ, List.set_cons_zero] at S | skip)); try (have S : Ats w.heap.size w w1 [(ga, 25, (adCs 6 b n).toArray), (gi, 23, (b.map cellU).toArray), (gr, 25, (adCs 0 zero16 0).toArray)] := by rw [← hzn]; exact S))
          | ((with_reducible show wpList _ _ _ (Oper.mk _ (Op.store _ (Operand.tmp 2) _) _ _ _ _ :: _) _ _); refine wpList_storeS rfl _ _ _ rfl S _ rfl _ rfl 2 _ _ rfl has (by exact ad_sizes _ _ _ _ _ _ rfl hbl) (by exact adCs_one _ _ _) ?_; clear S; intro w1 S; (first | simp only [List.set_cons_zero] at S | simp only [List.set_cons_succ, List.set_cons_zero] at S | skip))
          | ((with_reducible show wpList _ _ _ (Oper.mk _ (Op.store _ (Operand.tmp 2) _) _ _ _ _ :: _) _ _); refine wpList_storeS rfl _ _ _ rfl S _ rfl _ rfl 2 _ _ rfl adInfo (by rfl) (by first | exact adCs_one _ _ _ | simp [Value.oneCell']) ?_; clear S; intro w1 S; (first | simp only [List.set_cons_zero] at S | simp only [List.set_cons_succ, List.set_cons_zero] at S | skip)))
        exact bodyPost_ret (results_cell2S rfl _ S _ 2 _ _ _ rfl rfl Tryd.underlying25 rfl adInfo) rfl ⟨by rw [HE.out]; rfl, S.below⟩
  · have hcut2 : ∀ wr, Calls Tryd.prog 10 #[.string s, .int .u8 37] wr fun e w' => e = .returned (.tuple #[.string s, .string ⟨#[]⟩, .bool false]) ∧ Below wr.heap.size wr w' := fun wr => (hcut wr).mono fun e w' ⟨h, h'⟩ => ⟨by
      rcases h with ⟨h, _⟩ | ⟨_, h⟩
      · omega
      · exact h, h'⟩
    have htk : (⟨(s.data.toList.take k).toArray⟩ : ByteArray) = s := by
      rw [List.take_of_length_le (by omega)]
    rw [htk] at hoct
    have HC := Lib.hid hcut2
    have HO := Lib.hid hoct
    have HN := Lib.hid hnum2
    clear hcut hcut2 hoct hnum hnum2 hx1 hx2 hPd hMd hP hM hR hO e1 e2 htk
    cases O with
    | none =>
      rw [octV_none] at HO
      simp only at hE
      have HE := Lib.hid hE
      clear hE hsz hk hN hOl
      go_enter Tryd.func6, Tryd.ntmps6
      go_wp2_with (first
        | ((with_reducible show wpList _ _ _ (Oper.mk (some 2) (Op.alloc _) _ _ _ _ :: _) _ _); refine wpList_allocS rfl _ rfl _ adZero S ?_; clear S; intro gr w1 S)
        | ((with_reducible show wpList _ _ _ (Oper.mk (some 6) (Op.alloc _) _ _ _ _ :: _) _ _); refine wpList_allocS rfl _ rfl _ z16Zero S ?_; clear S; intro gi w1 S)
        | ((with_reducible refine (HC.out _).mono ?_); rintro e w2 ⟨rfl, hb⟩; have S := S.call hb; clear hb)
        | ((with_reducible refine (HO.out _ (HPd.out _ _ S) (HMd.out _ _ S)).mono ?_); rintro e w2 ⟨rfl, hb⟩; have S := S.call hb; clear hb)
        | ((with_reducible show wpList _ _ _ (Oper.mk _ (Op.store _ (Operand.tmp 6) _) _ _ _ _ :: _) _ _); refine wpList_storeS rfl _ _ _ rfl S _ rfl _ rfl 0 _ _ rfl z16Size (by rfl) (by simp [z16, Value.oneCell']) ?_; clear S; intro w1 S; (first | simp only [List.set_cons_zero] at S | simp only [List.set_cons_succ, List.set_cons_zero] at S | skip))
        | ((with_reducible show wpList _ _ _ (Oper.mk _ (Op.store _ (Operand.tmp 2) _) _ _ _ _ :: _) _ _); refine wpList_storeS rfl _ _ _ rfl S _ rfl _ rfl 1 _ _ rfl adInfo (by rfl) (by first | exact adCs_one _ _ _ | simp [Value.oneCell']) ?_; clear S; intro w1 S; (first | simp only [List.set_cons_zero] at S | simp only [List.set_cons_succ, List.set_cons_zero] at S | skip)))
      exact bodyPost_ret (results_cell2S rfl _ S _ 1 _ _ _ rfl rfl Tryd.underlying25 rfl adInfo) rfl ⟨by rw [HE.out]; rfl, S.below⟩
    | some b =>
      have hbl := hOl b rfl
      rw [octV_some] at HO
      simp only at hE
      rw [if_pos (by omega)] at hE
      have HE := Lib.hid hE
      clear hE hsz hk hN hOl
      have hbc := bCells b hbl
      have hbo := bOne b
      have hbd := build_ad b hbl
      have has := adSize 6 b 0 hbl
      go_enter Tryd.func6, Tryd.ntmps6
      go_wp2_with (first
        | ((with_reducible show wpList _ _ _ (Oper.mk (some 2) (Op.alloc _) _ _ _ _ :: _) _ _); refine wpList_allocS rfl _ rfl _ adZero S ?_; clear S; intro gr w1 S)
        | ((with_reducible show wpList _ _ _ (Oper.mk (some 6) (Op.alloc _) _ _ _ _ :: _) _ _); refine wpList_allocS rfl _ rfl _ z16Zero S ?_; clear S; intro gi w1 S)
        | ((with_reducible show wpList _ _ _ (Oper.mk (some 8) (Op.alloc _) _ _ _ _ :: _) _ _); refine wpList_allocS rfl _ rfl _ adZero S ?_; clear S; intro ga w1 S)
        | ((with_reducible refine (HC.out _).mono ?_); rintro e w2 ⟨rfl, hb⟩; have S := S.call hb; clear hb)
        | ((with_reducible refine (HO.out _ (HPd.out _ _ S) (HMd.out _ _ S)).mono ?_); rintro e w2 ⟨rfl, hb⟩; have S := S.call hb; clear hb)
        | ((with_reducible refine (HN.out _).mono ?_); rintro e w2 ⟨rfl, hq⟩; subst hq)
        | ((with_reducible show wpList _ _ _ (Oper.mk _ (Op.store _ (Operand.tmp 6) _) _ _ _ _ :: _) _ _); refine wpList_storeS rfl _ _ _ rfl S _ rfl _ rfl 0 _ _ rfl hbc (by simp [z16, hbl, Value.cells]) (by exact hbo) ?_; clear S; intro w1 S; (first | simp only [List.set_cons_zero] at S | simp only [List.set_cons_succ, List.set_cons_zero] at S | skip))
        | ((with_reducible show wpList _ _ _ (Oper.mk _ (Op.load _ (Operand.tmp 6)) _ _ _ _ :: _) _ _); refine wpList_loadS rfl _ _ rfl S _ rfl 1 _ _ rfl _ Tryd.underlying23 rfl hbc ?_)
        | ((with_reducible show wpList _ _ _ (Oper.mk _ (Op.load _ (Operand.tmp 6)) _ _ _ _ :: _) _ _); refine wpList_loadS rfl _ _ rfl S _ rfl 0 _ _ rfl _ Tryd.underlying23 rfl hbc ?_)
        | ((with_reducible show wpList _ _ _ (Oper.mk _ (Op.store _ (Operand.tmp 8) _) _ _ _ _ :: _) _ _); refine wpList_storeS rfl _ _ _ rfl S _ rfl _ rfl 0 _ _ rfl has (by exact ad_sizes _ _ _ _ _ _ rfl hbl) (by exact adCs_one _ _ _) ?_; clear S; intro w1 S; (first | simp only [List.set_cons_zero] at S | simp only [List.set_cons_succ, List.set_cons_zero] at S | skip))
        | ((with_reducible show wpList _ _ _ (Oper.mk _ (Op.load _ (Operand.tmp 8)) _ _ _ _ :: _) _ _); refine wpList_loadS rfl _ _ rfl S _ rfl 0 _ _ rfl _ Tryd.underlying25 rfl has ?_)
        | (((with_reducible show wpList _ _ _ (Oper.mk _ (Op.store _ (Operand.tmp 43) _) _ _ _ _ :: _) _ _); refine wpList_putS rfl _ _ _ rfl S _ _ rfl _ rfl rfl rfl 0 _ _ rfl intSize (by rw [ad_size18 _ _ _ hbl]; decide) ?_; clear S; intro w1 S; (first | simp only [List.set_cons_zero] at S | simp only [List.set_cons_succ, List.set_cons_zero] at S | skip)); try (have S : Ats w.heap.size w w1 [(ga, 25, (adCs 6 b n).toArray), (gi, 23, (b.map cellU).toArray), (gr, 25, (adCs 0 zero16 0).toArray)] := by rw [← hzn]; exact S))
        | ((with_reducible show wpList _ _ _ (Oper.mk _ (Op.store _ (Operand.tmp 2) _) _ _ _ _ :: _) _ _); refine wpList_storeS rfl _ _ _ rfl S _ rfl _ rfl 2 _ _ rfl has (by exact ad_sizes _ _ _ _ _ _ rfl hbl) (by exact adCs_one _ _ _) ?_; clear S; intro w1 S; (first | simp only [List.set_cons_zero] at S | simp only [List.set_cons_succ, List.set_cons_zero] at S | skip))
        | ((with_reducible show wpList _ _ _ (Oper.mk _ (Op.store _ (Operand.tmp 2) _) _ _ _ _ :: _) _ _); refine wpList_storeS rfl _ _ _ rfl S _ rfl _ rfl 2 _ _ rfl adInfo (by rfl) (by first | exact adCs_one _ _ _ | simp [Value.oneCell']) ?_; clear S; intro w1 S; (first | simp only [List.set_cons_zero] at S | simp only [List.set_cons_succ, List.set_cons_zero] at S | skip)))
      exact bodyPost_ret (results_cell2S rfl _ S _ 2 _ _ _ rfl rfl Tryd.underlying25 rfl has) rfl ⟨by rw [HE.out]; rfl, S.below⟩
end Go.Proofs.YtkchgjakkogejaaDoor
