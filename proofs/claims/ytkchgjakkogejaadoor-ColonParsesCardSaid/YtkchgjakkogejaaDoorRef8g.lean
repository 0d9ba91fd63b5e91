/- Layer 8: the document's Parse. -/
import Derived.Test.YtkchgjakkogejaaDoorRef8f
namespace Go.Proofs.YtkchgjakkogejaaDoor
open Go.RowKit Go
set_option linter.unusedVariables false
set_option maxRecDepth 100000
theorem plV_some (g : List Nat) : plV (some g) = .tuple #[adV 6 (bytesG g) 0, .bool true] := rfl
theorem plV_none : plV none = .tuple #[adV 0 zero16 0, .bool false] := rfl
set_option maxHeartbeats 4000000 in
theorem refParse8_any (s : ByteArray) (w : World) (hs : s.size ≤ 4000) :
    Calls Tryd.prog 7 #[.string s] w fun e w' => e = .returned (adTupZ (colonE s.data.toList)) ∧ Below w.heap.size w w' := by
  have S := Ats.start w
  have hsz := Lib.size_eq s
  have hcut := fun wr => refCut_any s 37 wr (by omega)
  have hpl := fun wr => refPlain8_any ⟨(s.data.toList.take (cutK s.data.toList 37)).toArray⟩ wr (by show (s.data.toList.take _).length ≤ 4000; rw [List.length_take]; omega)
  have hnum := fun wr => refNumber_any ⟨(s.data.toList.drop (cutK s.data.toList 37 + 1)).toArray⟩ 2147483647 wr (by show (s.data.toList.drop _).length ≤ 4000; rw [List.length_drop]; omega) (by decide) (by decide)
  have e1 : (⟨(s.data.toList.take (cutK s.data.toList 37)).toArray⟩ : ByteArray).data.toList = s.data.toList.take (cutK s.data.toList 37) := rfl
  have e2 : (⟨(s.data.toList.drop (cutK s.data.toList 37 + 1)).toArray⟩ : ByteArray).data.toList = s.data.toList.drop (cutK s.data.toList 37 + 1) := rfl
  rw [e1] at hpl
  rw [e2] at hnum
  have hE : colonE s.data.toList = colonE s.data.toList := rfl
  conv at hE => rhs; unfold colonE octE
  obtain ⟨R, hR⟩ : ∃ R, R = colonE s.data.toList := ⟨_, rfl⟩
  rw [← hR] at hE ⊢
  obtain ⟨O, hO⟩ : ∃ O, O = plainE (s.data.toList.take (cutK s.data.toList 37)) := ⟨_, rfl⟩
  have hOl : ∀ g, O = some g → (bytesG g).length = 16 := fun g h => by rw [bytesG_len, plainE_len (hO ▸ h)]
  rw [← hO] at hE hpl
  obtain ⟨k, hk⟩ : ∃ k, k = cutK s.data.toList 37 := ⟨_, rfl⟩
  have hx1 := ba_ext s k
  have hx2 := ba_ext2 s k
  rw [← hk] at hE hpl hnum
  obtain ⟨N, hN⟩ : ∃ N, N = numR (s.data.toList.drop (k + 1)) 2147483647 := ⟨_, rfl⟩
  have hnum2 : ∀ wr, Calls Tryd.prog 15 #[.string ⟨(s.data.toList.drop (k + 1)).toArray⟩, .int .i64 2147483647] wr fun e w' => e = .returned (.tuple #[.int .i64 N.1, .int .i64 N.2]) ∧ wr = w' := fun wr => (hnum wr).mono fun e w' ⟨h, h'⟩ => ⟨by rw [hN]; exact numP_R h, h'⟩
  rw [← hN] at hE
  by_cases hlt : k < s.size
  · have hcut2 : ∀ wr, Calls Tryd.prog 13 #[.string s, .int .u8 37] wr fun e w' => e = .returned (.tuple #[.string ⟨(s.data.toList.take k).toArray⟩, .string ⟨(s.data.toList.drop (k + 1)).toArray⟩, .bool true]) ∧ Below wr.heap.size wr w' := fun wr => (hcut wr).mono fun e w' ⟨h, h'⟩ => ⟨by
      rcases h with ⟨_, h⟩ | ⟨h, _⟩
      · rw [h, CutHit, ← hk, hx1, hx2]
      · omega, h'⟩
    have HC := Lib.hid hcut2
    have HO := Lib.hid hpl
    have HN := Lib.hid hnum2
    clear hcut hcut2 hpl hnum hnum2 hx1 hx2 hR hO e1 e2
    cases O with
    | none =>
      rw [plV_none] at HO
      simp only [Option.map_none] at hE
      have HE := Lib.hid hE
      have hbl : zero16.length = 16 := rfl
      have has := adSize 0 zero16 0 rfl
      clear hE hsz hk hN hOl
      go_enter Tryd.func7, Tryd.ntmps7
      go_wp2_with (first
        | ((with_reducible show wpList _ _ _ (Oper.mk (some 2) (Op.alloc _) _ _ _ _ :: _) _ _); refine wpList_allocS rfl _ rfl _ adZero S ?_; clear S; intro gr w1 S)
        | ((with_reducible show wpList _ _ _ (Oper.mk (some 7) (Op.alloc _) _ _ _ _ :: _) _ _); refine wpList_allocS rfl _ rfl _ adZero S ?_; clear S; intro ga w1 S)
        | ((with_reducible refine (HC.out _).mono ?_); rintro e w2 ⟨rfl, hb⟩; have S := S.call hb; clear hb)
        | ((with_reducible refine (HO.out _).mono ?_); rintro e w2 ⟨rfl, hb⟩; have S := S.call hb; clear hb)
        | ((with_reducible refine (HN.out _).mono ?_); rintro e w2 ⟨rfl, hq⟩; subst hq)
        | ((with_reducible show wpList _ _ _ (Oper.mk _ (Op.store _ (Operand.tmp 7) _) _ _ _ _ :: _) _ _); refine wpList_storeS rfl _ _ _ rfl S _ rfl _ rfl 0 _ _ rfl has (by exact ad_sizes _ _ _ _ _ _ rfl hbl) (by exact adCs_one _ _ _) ?_; clear S; intro w1 S; (first | simp only [List.set_cons_zero] at S | simp only [List.set_cons_succ, List.set_cons_zero] at S | skip))
        | (((with_reducible show wpList _ _ _ (Oper.mk _ (Op.store _ (Operand.tmp 42) _) _ _ _ _ :: _) _ _); refine wpList_putS rfl _ _ _ rfl S _ _ rfl _ rfl rfl rfl 0 _ _ rfl intSize (by rw [ad_size18 _ _ _ hbl]; decide) ?_; clear S; intro w1 S; (first | simp only [List.set_cons_zero] at S | simp only [List.set_cons_succ, List.set_cons_zero] at S | skip)); try (have S : Ats w.heap.size w w1 [(ga, 25, (adCs 6 b n).toArray), (gr, 25, (adCs 0 zero16 0).toArray)] := by rw [← hzn]; exact S))
        | ((with_reducible show wpList _ _ _ (Oper.mk _ (Op.load _ (Operand.tmp 7)) _ _ _ _ :: _) _ _); refine wpList_loadS rfl _ _ rfl S _ rfl 0 _ _ rfl _ Tryd.underlying25 rfl has ?_)
        | ((with_reducible show wpList _ _ _ (Oper.mk _ (Op.store _ (Operand.tmp 2) _) _ _ _ _ :: _) _ _); refine wpList_storeS rfl _ _ _ rfl S _ rfl _ rfl 1 _ _ rfl has (by exact ad_sizes _ _ _ _ _ _ rfl hbl) (by exact adCs_one _ _ _) ?_; clear S; intro w1 S; (first | simp only [List.set_cons_zero] at S | simp only [List.set_cons_succ, List.set_cons_zero] at S | skip))
        | ((with_reducible show wpList _ _ _ (Oper.mk _ (Op.store _ (Operand.tmp 2) _) _ _ _ _ :: _) _ _); refine wpList_storeS rfl _ _ _ rfl S _ rfl _ rfl 1 _ _ rfl adInfo (by rfl) (by first | exact adCs_one _ _ _ | simp [Value.oneCell']) ?_; clear S; intro w1 S; (first | simp only [List.set_cons_zero] at S | simp only [List.set_cons_succ, List.set_cons_zero] at S | skip)))
      exact bodyPost_ret (results_cell2S rfl _ S _ 1 _ _ _ rfl rfl Tryd.underlying25 rfl adInfo) rfl ⟨by rw [HE.out]; rfl, S.below⟩
    | some g =>
      have hbl := hOl g rfl
      rw [plV_some] at HO
      simp only [Option.map_some] at hE
      rw [if_neg (by omega)] at hE
      obtain ⟨b, hb⟩ : ∃ b, b = bytesG g := ⟨_, rfl⟩
      rw [← hb] at hbl HO hE
      have HE := Lib.hid hE
      clear hE hsz hk hN hOl hb
      have has := adSize 6 b 0 hbl
      obtain ⟨n, er⟩ := N
      simp only at HN HE
      by_cases h0 : er = 0
      · have t36 : (er != 0) = false := by simpa using h0
        have t32 : (er == 0) = true := by simpa using h0
        by_cases hn0 : n = 0
        · have t40 : (n == 0) = true := by simpa using hn0
          have hE := HE.out
          rw [if_neg (by simpa using h0), if_pos hn0] at hE
          have HE := Lib.hid hE
          clear hE h0 hn0
          go_enter Tryd.func7, Tryd.ntmps7
          go_wp2_with (first
            | ((with_reducible show wpList _ _ _ (Oper.mk (some 2) (Op.alloc _) _ _ _ _ :: _) _ _); refine wpList_allocS rfl _ rfl _ adZero S ?_; clear S; intro gr w1 S)
            | ((with_reducible show wpList _ _ _ (Oper.mk (some 7) (Op.alloc _) _ _ _ _ :: _) _ _); refine wpList_allocS rfl _ rfl _ adZero S ?_; clear S; intro ga w1 S)
            | ((with_reducible refine (HC.out _).mono ?_); rintro e w2 ⟨rfl, hb⟩; have S := S.call hb; clear hb)
            | ((with_reducible refine (HO.out _).mono ?_); rintro e w2 ⟨rfl, hb⟩; have S := S.call hb; clear hb)
            | ((with_reducible refine (HN.out _).mono ?_); rintro e w2 ⟨rfl, hq⟩; subst hq)
            | ((with_reducible show wpList _ _ _ (Oper.mk _ (Op.store _ (Operand.tmp 7) _) _ _ _ _ :: _) _ _); refine wpList_storeS rfl _ _ _ rfl S _ rfl _ rfl 0 _ _ rfl has (by exact ad_sizes _ _ _ _ _ _ rfl hbl) (by exact adCs_one _ _ _) ?_; clear S; intro w1 S; (first | simp only [List.set_cons_zero] at S | simp only [List.set_cons_succ, List.set_cons_zero] at S | skip))
            | (((with_reducible show wpList _ _ _ (Oper.mk _ (Op.store _ (Operand.tmp 42) _) _ _ _ _ :: _) _ _); refine wpList_putS rfl _ _ _ rfl S _ _ rfl _ rfl rfl rfl 0 _ _ rfl intSize (by rw [ad_size18 _ _ _ hbl]; decide) ?_; clear S; intro w1 S; (first | simp only [List.set_cons_zero] at S | simp only [List.set_cons_succ, List.set_cons_zero] at S | skip)); try (have S : Ats w.heap.size w w1 [(ga, 25, (adCs 6 b n).toArray), (gr, 25, (adCs 0 zero16 0).toArray)] := by rw [← hzn]; exact S))
            | ((with_reducible show wpList _ _ _ (Oper.mk _ (Op.load _ (Operand.tmp 7)) _ _ _ _ :: _) _ _); refine wpList_loadS rfl _ _ rfl S _ rfl 0 _ _ rfl _ Tryd.underlying25 rfl has ?_)
            | ((with_reducible show wpList _ _ _ (Oper.mk _ (Op.store _ (Operand.tmp 2) _) _ _ _ _ :: _) _ _); refine wpList_storeS rfl _ _ _ rfl S _ rfl _ rfl 1 _ _ rfl has (by exact ad_sizes _ _ _ _ _ _ rfl hbl) (by exact adCs_one _ _ _) ?_; clear S; intro w1 S; (first | simp only [List.set_cons_zero] at S | simp only [List.set_cons_succ, List.set_cons_zero] at S | skip))
            | ((with_reducible show wpList _ _ _ (Oper.mk _ (Op.store _ (Operand.tmp 2) _) _ _ _ _ :: _) _ _); refine wpList_storeS rfl _ _ _ rfl S _ rfl _ rfl 1 _ _ rfl adInfo (by rfl) (by first | exact adCs_one _ _ _ | simp [Value.oneCell']) ?_; clear S; intro w1 S; (first | simp only [List.set_cons_zero] at S | simp only [List.set_cons_succ, List.set_cons_zero] at S | skip)))
          exact bodyPost_ret (results_cell2S rfl _ S _ 1 _ _ _ rfl rfl Tryd.underlying25 rfl adInfo) rfl ⟨by rw [HE.out]; rfl, S.below⟩
        · have t40 : (n == 0) = false := by simpa using hn0
          have hE := HE.out
          rw [if_neg (by simpa using h0), if_neg hn0] at hE
          have HE := Lib.hid hE
          have hzn := ad_setZone 6 0 n b hbl
          have has2 := adSize 6 b n hbl
          clear hE h0 hn0
          go_enter Tryd.func7, Tryd.ntmps7
          go_wp2_with (first
            | ((with_reducible show wpList _ _ _ (Oper.mk (some 2) (Op.alloc _) _ _ _ _ :: _) _ _); refine wpList_allocS rfl _ rfl _ adZero S ?_; clear S; intro gr w1 S)
            | ((with_reducible show wpList _ _ _ (Oper.mk (some 7) (Op.alloc _) _ _ _ _ :: _) _ _); refine wpList_allocS rfl _ rfl _ adZero S ?_; clear S; intro ga w1 S)
            | ((with_reducible refine (HC.out _).mono ?_); rintro e w2 ⟨rfl, hb⟩; have S := S.call hb; clear hb)
            | ((with_reducible refine (HO.out _).mono ?_); rintro e w2 ⟨rfl, hb⟩; have S := S.call hb; clear hb)
            | ((with_reducible refine (HN.out _).mono ?_); rintro e w2 ⟨rfl, hq⟩; subst hq)
            | ((with_reducible show wpList _ _ _ (Oper.mk _ (Op.store _ (Operand.tmp 7) _) _ _ _ _ :: _) _ _); refine wpList_storeS rfl _ _ _ rfl S _ rfl _ rfl 0 _ _ rfl has (by exact ad_sizes _ _ _ _ _ _ rfl hbl) (by exact adCs_one _ _ _) ?_; clear S; intro w1 S; (first | simp only [List.set_cons_zero] at S | simp only [List.set_cons_succ, List.set_cons_zero] at S | skip))
            | (((with_reducible show wpList _ _ _ (Oper.mk _ (Op.store _ (Operand.tmp 42) _) _ _ _ _ :: _) _ _); refine wpList_putS rfl _ _ _ rfl S _ _ rfl _ rfl rfl rfl 0 _ _ rfl intSize (by rw [ad_size18 _ _ _ hbl]; decide) ?_; clear S; intro w1 S; (first | simp only [List.set_cons_zero] at S | simp only [List.set_cons_succ, List.set_cons_zero] at S | skip)); try (have S : Ats w.heap.size w w1 [(ga, 25, (adCs 6 b n).toArray), (gr, 25, (adCs 0 zero16 0).toArray)] := by rw [← hzn]; exact S))
            | ((with_reducible show wpList _ _ _ (Oper.mk _ (Op.load _ (Operand.tmp 7)) _ _ _ _ :: _) _ _); refine wpList_loadS rfl _ _ rfl S _ rfl 0 _ _ rfl _ Tryd.underlying25 rfl has2 ?_)
            | ((with_reducible show wpList _ _ _ (Oper.mk _ (Op.store _ (Operand.tmp 2) _) _ _ _ _ :: _) _ _); refine wpList_storeS rfl _ _ _ rfl S _ rfl _ rfl 1 _ _ rfl has2 (by exact ad_sizes _ _ _ _ _ _ rfl hbl) (by exact adCs_one _ _ _) ?_; clear S; intro w1 S; (first | simp only [List.set_cons_zero] at S | simp only [List.set_cons_succ, List.set_cons_zero] at S | skip))
            | ((with_reducible show wpList _ _ _ (Oper.mk _ (Op.store _ (Operand.tmp 2) _) _ _ _ _ :: _) _ _); refine wpList_storeS rfl _ _ _ rfl S _ rfl _ rfl 1 _ _ rfl adInfo (by rfl) (by first | exact adCs_one _ _ _ | simp [Value.oneCell']) ?_; clear S; intro w1 S; (first | simp only [List.set_cons_zero] at S | simp only [List.set_cons_succ, List.set_cons_zero] at S | skip)))
          exact bodyPost_ret (results_cell2S rfl _ S _ 1 _ _ _ rfl rfl Tryd.underlying25 rfl has2) rfl ⟨by rw [HE.out]; rfl, S.below⟩
      · have t36 : (er != 0) = true := by simpa using h0
        have t32 : (er == 0) = false := by simpa using h0
        have hE := HE.out
        rw [if_pos h0] at hE
        have HE := Lib.hid hE
        clear hE h0
        go_enter Tryd.func7, Tryd.ntmps7
        go_wp2_with (first
          | ((with_reducible show wpList _ _ _ (Oper.mk (some 2) (Op.alloc _) _ _ _ _ :: _) _ _); refine wpList_allocS rfl _ rfl _ adZero S ?_; clear S; intro gr w1 S)
          | ((with_reducible show wpList _ _ _ (Oper.mk (some 7) (Op.alloc _) _ _ _ _ :: _) _ _); refine wpList_allocS rfl _ rfl _ adZero S ?_; clear S; intro ga w1 S)
          | ((with_reducible refine (HC.out _).mono ?_); rintro e w2 ⟨rfl, hb⟩; have S := S.call hb; clear hb)
          | ((with_reducible refine (HO.out _).mono ?_); rintro e w2 ⟨rfl, hb⟩; have S := S.call hb; clear hb)
          | ((with_reducible refine (HN.out _).mono ?_); rintro e w2 ⟨rfl, hq⟩; subst hq)
          | ((with_reducible show wpList _ _ _ (Oper.mk _ (Op.store _ (Operand.tmp 7) _) _ _ _ _ :: _) _ _); refine wpList_storeS rfl _ _ _ rfl S _ rfl _ rfl 0 _ _ rfl has (by exact ad_sizes _ _ _ _ _ _ rfl hbl) (by exact adCs_one _ _ _) ?_; clear S; intro w1 S; (first | simp only [List.set_cons_zero] at S | simp only [List.set_cons_succ, List.set_cons_zero] at S | skip))
          | (((with_reducible show wpList _ _ _ (Oper.mk _ (Op.store _ (Operand.tmp 42) _) _ _ _ _ :: _) _ _); refine wpList_putS rfl _ _ _ rfl S _ _ rfl _ rfl rfl rfl 0 _ _ rfl intSize (by rw [ad_size18 _ _ _ hbl]; decide) ?_; clear S; intro w1 S; (first | simp only [List.set_cons_zero] at S | simp only [List.set_cons_succ, List.set_cons_zero] at S | skip)); try (have S : Ats w.heap.size w w1 [(ga, 25, (adCs 6 b n).toArray), (gr, 25, (adCs 0 zero16 0).toArray)] := by rw [← hzn]; exact S))
          | ((with_reducible show wpList _ _ _ (Oper.mk _ (Op.load _ (Operand.tmp 7)) _ _ _ _ :: _) _ _); refine wpList_loadS rfl _ _ rfl S _ rfl 0 _ _ rfl _ Tryd.underlying25 rfl has ?_)
          | ((with_reducible show wpList _ _ _ (Oper.mk _ (Op.store _ (Operand.tmp 2) _) _ _ _ _ :: _) _ _); refine wpList_storeS rfl _ _ _ rfl S _ rfl _ rfl 1 _ _ rfl has (by exact ad_sizes _ _ _ _ _ _ rfl hbl) (by exact adCs_one _ _ _) ?_; clear S; intro w1 S; (first | simp only [List.set_cons_zero] at S | simp only [List.set_cons_succ, List.set_cons_zero] at S | skip))
          | ((with_reducible show wpList _ _ _ (Oper.mk _ (Op.store _ (Operand.tmp 2) _) _ _ _ _ :: _) _ _); refine wpList_storeS rfl _ _ _ rfl S _ rfl _ rfl 1 _ _ rfl adInfo (by rfl) (by first | exact adCs_one _ _ _ | simp [Value.oneCell']) ?_; clear S; intro w1 S; (first | simp only [List.set_cons_zero] at S | simp only [List.set_cons_succ, List.set_cons_zero] at S | skip)))
        exact bodyPost_ret (results_cell2S rfl _ S _ 1 _ _ _ rfl rfl Tryd.underlying25 rfl adInfo) rfl ⟨by rw [HE.out]; rfl, S.below⟩
  · have hcut2 : ∀ wr, Calls Tryd.prog 13 #[.string s, .int .u8 37] wr fun e w' => e = .returned (.tuple #[.string s, .string ⟨#[]⟩, .bool false]) ∧ Below wr.heap.size wr w' := fun wr => (hcut wr).mono fun e w' ⟨h, h'⟩ => ⟨by
      rcases h with ⟨h, _⟩ | ⟨_, h⟩
      · omega
      · exact h, h'⟩
    have htk : (⟨(s.data.toList.take k).toArray⟩ : ByteArray) = s := by
      rw [List.take_of_length_le (by omega)]
    rw [htk] at hpl
    have HC := Lib.hid hcut2
    have HO := Lib.hid hpl
    have HN := Lib.hid hnum2
    clear hcut hcut2 hpl hnum hnum2 hx1 hx2 hR hO e1 e2 htk
    cases O with
    | none =>
      rw [plV_none] at HO
      simp only [Option.map_none] at hE
      have HE := Lib.hid hE
      have hbl : zero16.length = 16 := rfl
      have has := adSize 0 zero16 0 rfl
      clear hE hsz hk hN hOl
      go_enter Tryd.func7, Tryd.ntmps7
      go_wp2_with (first
        | ((with_reducible show wpList _ _ _ (Oper.mk (some 2) (Op.alloc _) _ _ _ _ :: _) _ _); refine wpList_allocS rfl _ rfl _ adZero S ?_; clear S; intro gr w1 S)
        | ((with_reducible show wpList _ _ _ (Oper.mk (some 7) (Op.alloc _) _ _ _ _ :: _) _ _); refine wpList_allocS rfl _ rfl _ adZero S ?_; clear S; intro ga w1 S)
        | ((with_reducible refine (HC.out _).mono ?_); rintro e w2 ⟨rfl, hb⟩; have S := S.call hb; clear hb)
        | ((with_reducible refine (HO.out _).mono ?_); rintro e w2 ⟨rfl, hb⟩; have S := S.call hb; clear hb)
        | ((with_reducible refine (HN.out _).mono ?_); rintro e w2 ⟨rfl, hq⟩; subst hq)
        | ((with_reducible show wpList _ _ _ (Oper.mk _ (Op.store _ (Operand.tmp 7) _) _ _ _ _ :: _) _ _); refine wpList_storeS rfl _ _ _ rfl S _ rfl _ rfl 0 _ _ rfl has (by exact ad_sizes _ _ _ _ _ _ rfl hbl) (by exact adCs_one _ _ _) ?_; clear S; intro w1 S; (first | simp only [List.set_cons_zero] at S | simp only [List.set_cons_succ, List.set_cons_zero] at S | skip))
        | (((with_reducible show wpList _ _ _ (Oper.mk _ (Op.store _ (Operand.tmp 42) _) _ _ _ _ :: _) _ _); refine wpList_putS rfl _ _ _ rfl S _ _ rfl _ rfl rfl rfl 0 _ _ rfl intSize (by rw [ad_size18 _ _ _ hbl]; decide) ?_; clear S; intro w1 S; (first | simp only [List.set_cons_zero] at S | simp only [List.set_cons_succ, List.set_cons_zero] at S | skip)); try (have S : Ats w.heap.size w w1 [(ga, 25, (adCs 6 b n).toArray), (gr, 25, (adCs 0 zero16 0).toArray)] := by rw [← hzn]; exact S))
        | ((with_reducible show wpList _ _ _ (Oper.mk _ (Op.load _ (Operand.tmp 7)) _ _ _ _ :: _) _ _); refine wpList_loadS rfl _ _ rfl S _ rfl 0 _ _ rfl _ Tryd.underlying25 rfl has ?_)
        | ((with_reducible show wpList _ _ _ (Oper.mk _ (Op.store _ (Operand.tmp 2) _) _ _ _ _ :: _) _ _); refine wpList_storeS rfl _ _ _ rfl S _ rfl _ rfl 1 _ _ rfl has (by exact ad_sizes _ _ _ _ _ _ rfl hbl) (by exact adCs_one _ _ _) ?_; clear S; intro w1 S; (first | simp only [List.set_cons_zero] at S | simp only [List.set_cons_succ, List.set_cons_zero] at S | skip))
        | ((with_reducible show wpList _ _ _ (Oper.mk _ (Op.store _ (Operand.tmp 2) _) _ _ _ _ :: _) _ _); refine wpList_storeS rfl _ _ _ rfl S _ rfl _ rfl 1 _ _ rfl adInfo (by rfl) (by first | exact adCs_one _ _ _ | simp [Value.oneCell']) ?_; clear S; intro w1 S; (first | simp only [List.set_cons_zero] at S | simp only [List.set_cons_succ, List.set_cons_zero] at S | skip)))
      exact bodyPost_ret (results_cell2S rfl _ S _ 1 _ _ _ rfl rfl Tryd.underlying25 rfl adInfo) rfl ⟨by rw [HE.out]; rfl, S.below⟩
    | some g =>
      have hbl := hOl g rfl
      rw [plV_some] at HO
      simp only [Option.map_some] at hE
      rw [if_pos (by omega)] at hE
      obtain ⟨b, hb⟩ : ∃ b, b = bytesG g := ⟨_, rfl⟩
      rw [← hb] at hbl HO hE
      have HE := Lib.hid hE
      clear hE hsz hk hN hOl hb
      have has := adSize 6 b 0 hbl
      go_enter Tryd.func7, Tryd.ntmps7
      go_wp2_with (first
        | ((with_reducible show wpList _ _ _ (Oper.mk (some 2) (Op.alloc _) _ _ _ _ :: _) _ _); refine wpList_allocS rfl _ rfl _ adZero S ?_; clear S; intro gr w1 S)
        | ((with_reducible show wpList _ _ _ (Oper.mk (some 7) (Op.alloc _) _ _ _ _ :: _) _ _); refine wpList_allocS rfl _ rfl _ adZero S ?_; clear S; intro ga w1 S)
        | ((with_reducible refine (HC.out _).mono ?_); rintro e w2 ⟨rfl, hb⟩; have S := S.call hb; clear hb)
        | ((with_reducible refine (HO.out _).mono ?_); rintro e w2 ⟨rfl, hb⟩; have S := S.call hb; clear hb)
        | ((with_reducible refine (HN.out _).mono ?_); rintro e w2 ⟨rfl, hq⟩; subst hq)
        | ((with_reducible show wpList _ _ _ (Oper.mk _ (Op.store _ (Operand.tmp 7) _) _ _ _ _ :: _) _ _); refine wpList_storeS rfl _ _ _ rfl S _ rfl _ rfl 0 _ _ rfl has (by exact ad_sizes _ _ _ _ _ _ rfl hbl) (by exact adCs_one _ _ _) ?_; clear S; intro w1 S; (first | simp only [List.set_cons_zero] at S | simp only [List.set_cons_succ, List.set_cons_zero] at S | skip))
        | (((with_reducible show wpList _ _ _ (Oper.mk _ (Op.store _ (Operand.tmp 42) _) _ _ _ _ :: _) _ _); refine wpList_putS rfl _ _ _ rfl S _ _ rfl _ rfl rfl rfl 0 _ _ rfl intSize (by rw [ad_size18 _ _ _ hbl]; decide) ?_; clear S; intro w1 S; (first | simp only [List.set_cons_zero] at S | simp only [List.set_cons_succ, List.set_cons_zero] at S | skip)); try (have S : Ats w.heap.size w w1 [(ga, 25, (adCs 6 b n).toArray), (gr, 25, (adCs 0 zero16 0).toArray)] := by rw [← hzn]; exact S))
        | ((with_reducible show wpList _ _ _ (Oper.mk _ (Op.load _ (Operand.tmp 7)) _ _ _ _ :: _) _ _); refine wpList_loadS rfl _ _ rfl S _ rfl 0 _ _ rfl _ Tryd.underlying25 rfl has ?_)
        | ((with_reducible show wpList _ _ _ (Oper.mk _ (Op.store _ (Operand.tmp 2) _) _ _ _ _ :: _) _ _); refine wpList_storeS rfl _ _ _ rfl S _ rfl _ rfl 1 _ _ rfl has (by exact ad_sizes _ _ _ _ _ _ rfl hbl) (by exact adCs_one _ _ _) ?_; clear S; intro w1 S; (first | simp only [List.set_cons_zero] at S | simp only [List.set_cons_succ, List.set_cons_zero] at S | skip))
        | ((with_reducible show wpList _ _ _ (Oper.mk _ (Op.store _ (Operand.tmp 2) _) _ _ _ _ :: _) _ _); refine wpList_storeS rfl _ _ _ rfl S _ rfl _ rfl 1 _ _ rfl adInfo (by rfl) (by first | exact adCs_one _ _ _ | simp [Value.oneCell']) ?_; clear S; intro w1 S; (first | simp only [List.set_cons_zero] at S | simp only [List.set_cons_succ, List.set_cons_zero] at S | skip)))
      exact bodyPost_ret (results_cell2S rfl _ S _ 1 _ _ _ rfl rfl Tryd.underlying25 rfl has) rfl ⟨by rw [HE.out]; rfl, S.below⟩
end Go.Proofs.YtkchgjakkogejaaDoor
