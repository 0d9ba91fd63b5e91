/- Layer 11: head.pack, head.unpack. -/
import Derived.Test.YtnomjjiohdinlaaHead
namespace Go.Proofs.Ytnomjjiohdinlaa
open Go.RowKit Go
set_option linter.unusedVariables false
set_option maxRecDepth 100000
def flK : Nat → Int
  | 0 => 32768 | 1 => 1024 | 2 => 512 | 3 => 256 | 4 => 128 | 5 => 32 | _ => 16
def flO : Nat → Nat
  | 0 => 1 | 1 => 3 | 2 => 4 | 3 => 5 | 4 => 6 | 5 => 7 | _ => 8
def flB (h : Hd) : Nat → Bool
  | 0 => h.qr | 1 => h.aa | 2 => h.tc | 3 => h.rd | 4 => h.ra | 5 => h.ad | _ => h.cd
def hdAcc (h : Hd) : Nat → Int
  | 0 => h.op * 2048 + h.rc
  | k + 1 => hdAcc h k + bN (flB h k) (flK k)
theorem hdAcc_all (h : Hd) : hdAcc h 7 = hdN h := by
  simp only [hdAcc, flB, flK, hdN]; omega
theorem seven {p : Nat → Prop} (h0 : p 0) (h1 : p 1) (h2 : p 2) (h3 : p 3) (h4 : p 4) (h5 : p 5) (h6 : p 6) : ∀ k, k < 7 → p k := by
  intro k hk
  rcases (show k = 0 ∨ k = 1 ∨ k = 2 ∨ k = 3 ∨ k = 4 ∨ k = 5 ∨ k = 6 by omega) with rfl | rfl | rfl | rfl | rfl | rfl | rfl <;> assumption
theorem flK_bd : ∀ k, 16 ≤ flK k ∧ flK k ≤ 32768
  | 0 => by decide
  | 1 => by decide
  | 2 => by decide
  | 3 => by decide
  | 4 => by decide
  | 5 => by decide
  | _ + 6 => (by decide : 16 ≤ (16 : Int) ∧ (16 : Int) ≤ 32768)
theorem hdAcc_bd {h : Hd} (k : hdOk h = true) : ∀ i, 0 ≤ hdAcc h i ∧ hdAcc h i ≤ 31000 + 32768 * i
  | 0 => by have := hdOk_bd k; simp only [hdAcc]; omega
  | i + 1 => by
    have h1 := hdAcc_bd k i
    have h2 := flK_bd i
    simp only [hdAcc]
    cases flB h i <;> simp [bN] <;> omega
theorem fl_index (g : Nat) : ∀ k, k < 7 → ∀ w, (Instr.index 52 (.agg (flC g)) (.int .i64 (k : Nat))).run Try.prog w = .ok (.agg #[.int .i64 (flK k), .pointer (some ⟨g, flO k, none⟩)]) w :=
  seven (fun w => by kernel_rfl) (fun w => by kernel_rfl) (fun w => by kernel_rfl) (fun w => by kernel_rfl) (fun w => by kernel_rfl) (fun w => by kernel_rfl) (fun w => by kernel_rfl)
theorem fl_cell (h : Hd) : ∀ k, k < 7 → (hdC h)[flO k]? = some (.bool (flB h k)) := seven rfl rfl rfl rfl rfl rfl rfl
theorem hd_0 (h : Hd) : (hdC h)[0]? = some (.int .i64 h.id) := rfl
theorem hd_1 (h : Hd) : (hdC h)[1]? = some (.bool h.qr) := rfl
theorem hd_2 (h : Hd) : (hdC h)[2]? = some (.int .i64 h.op) := rfl
theorem hd_3 (h : Hd) : (hdC h)[3]? = some (.bool h.aa) := rfl
theorem hd_4 (h : Hd) : (hdC h)[4]? = some (.bool h.tc) := rfl
theorem hd_5 (h : Hd) : (hdC h)[5]? = some (.bool h.rd) := rfl
theorem hd_6 (h : Hd) : (hdC h)[6]? = some (.bool h.ra) := rfl
theorem hd_7 (h : Hd) : (hdC h)[7]? = some (.bool h.ad) := rfl
theorem hd_8 (h : Hd) : (hdC h)[8]? = some (.bool h.cd) := rfl
theorem hd_9 (h : Hd) : (hdC h)[9]? = some (.int .i64 h.rc) := rfl
theorem flagInfo : (Try.prog.info? 51).map (·.size) = some 2 := by kernel_rfl
theorem flagZero : (Try.prog.info? 51).map (·.zero) = some (some (.agg #[.int .i64 0, .pointer none])) := by kernel_rfl
theorem boolInfo : (Try.prog.info? 4).map (·.size) = some 1 := by kernel_rfl
theorem intInfo : (Try.prog.info? 3).map (·.size) = some 1 := by kernel_rfl
set_option maxHeartbeats 4000000 in
theorem pack_any (h : Hd) (w : World) (hk : hdOk h = true) : Calls Try.prog 18 #[hdV h] w fun e w' => e = .returned (.int .i64 (hdN h)) ∧ Below w.heap.size w w' := by
  have S := Ats.start w
  have hF := fun g w => flags_any g w
  have HF := Lib.hid hF
  have HK := Lib.hid hk
  have hb := hdOk_bd hk
  clear hF hk
  obtain ⟨hb1, hb2, hb3, hb4, hb5, hb6⟩ := hb
  go_enter Try.func18, Try.ntmps18
  go_wp2_with (first
    | ((with_reducible show wpList _ _ _ (Oper.mk _ (Op.box _ _) _ _ _ _ :: _) _ _); refine wpList_boxS rfl _ _ rfl (hdC h) rfl S ?_; clear S; intro g w1 S)
    | ((with_reducible show wpList _ _ _ (Oper.mk _ (Op.load _ (Operand.tmp 6)) _ _ _ _ :: _) _ _); refine wpList_cellS rfl _ _ rfl S _ _ rfl 0 _ _ rfl _ Try.underlying3 rfl _ (by exact hd_2 h) ?_)
    | ((with_reducible show wpList _ _ _ (Oper.mk _ (Op.load _ (Operand.tmp 9)) _ _ _ _ :: _) _ _); refine wpList_cellS rfl _ _ rfl S _ _ rfl 0 _ _ rfl _ Try.underlying3 rfl _ (by exact hd_9 h) ?_)
    | ((with_reducible refine (HF.out _ _).mono ?_); rintro e w2 ⟨rfl, hb⟩; have S := S.call hb; clear hb))
  go_loopw [3, 13] (fun n i wr => ∃ k : Nat, k ≤ 7 ∧ i = .int .i64 k ∧ n = .int .i64 (hdAcc h k) ∧ Ats w.heap.size w wr [(g, 24, hdC h)]) (fun _ i _ => 7 - (intOf i).toNat)
  case atStart => exact ⟨0, Nat.zero_le _, rfl, rfl, S⟩
  case round =>
    obtain ⟨k, hk, rfl, rfl, S⟩ := hrel
    by_cases hlt : k < 7
    · have hidx := fl_index g k hlt
      have hc := fl_cell h k hlt
      have hb := hdAcc_bd HK.out k
      have hx : hdAcc h (k + 1) = hdAcc h k + bN (flB h k) (flK k) := rfl
      have hB := flK_bd k
      obtain ⟨x, hxe⟩ : ∃ x, x = hdAcc h k := ⟨_, rfl⟩
      obtain ⟨K, hK⟩ : ∃ x, x = flK k := ⟨_, rfl⟩
      obtain ⟨o, ho⟩ : ∃ x, x = flO k := ⟨_, rfl⟩
      obtain ⟨b, hbe⟩ : ∃ x, x = flB h k := ⟨_, rfl⟩
      rw [← hxe] at hb hx ⊢
      rw [← hK, ← ho] at hidx
      rw [← ho, ← hbe] at hc
      rw [← hbe, ← hK] at hx
      rw [← hK] at hB
      have HX := Lib.hid hx
      have HC := Lib.hid hc
      clear hxe hK ho hbe hx hc
      cases b
      all_goals
        go_wp2_with (first
          | ((with_reducible show wpList _ _ _ (Oper.mk _ (Op.alloc _) _ _ _ _ :: _) _ _); refine wpList_allocS rfl _ rfl _ flagZero S ?_; clear S; intro gf w1 S)
          | ((with_reducible show wpList _ _ _ (Oper.mk _ (Op.store _ _ _) _ _ _ _ :: _) _ _); refine wpList_storeS rfl _ _ _ rfl S _ rfl _ rfl 0 _ _ rfl flagInfo (by rfl) (by simp [Value.oneCell']) ?_; clear S; intro w1 S; (first | simp only [List.set_cons_zero] at S | simp only [List.set_cons_succ, List.set_cons_zero] at S | skip))
          | ((with_reducible show wpList _ _ _ (Oper.mk _ (Op.load _ (Operand.tmp 16)) _ _ _ _ :: _) _ _); refine wpList_cellS rfl _ _ rfl S _ _ rfl 0 _ _ rfl _ Try.underlying49 rfl _ (by rfl) ?_)
          | ((with_reducible show wpList _ _ _ (Oper.mk _ (Op.load _ (Operand.tmp 18)) _ _ _ _ :: _) _ _); refine wpList_cellS rfl _ _ rfl S _ _ rfl 1 _ _ rfl _ Try.underlying4 rfl _ (by exact HC.out) ?_)
          | ((with_reducible show wpList _ _ _ (Oper.mk _ (Op.load _ (Operand.tmp 21)) _ _ _ _ :: _) _ _); refine wpList_cellS rfl _ _ rfl S _ _ rfl 0 _ _ rfl _ Try.underlying3 rfl _ (by rfl) ?_))
        exact ⟨⟨k + 1, by omega, by go_num, by rw [HX.out]; simp [bN], S.drop (List.sublist_cons_self _ _)⟩, by simp [intOf]; omega⟩
    · obtain rfl : k = 7 := by omega
      go_wp2
      go_ret
      exact ⟨by rw [hdAcc_all]; rfl, S.below⟩
/-- a head that is made of a number, behind k of its bits -/
def hdUp (n : Int) (k : Nat) : Hd := ⟨0, decide (0 < k) && hdB n 32768, n / 2048 % 16, decide (1 < k) && hdB n 1024, decide (2 < k) && hdB n 512, decide (3 < k) && hdB n 256, decide (4 < k) && hdB n 128, decide (5 < k) && hdB n 32, decide (6 < k) && hdB n 16, n % 16⟩
theorem hdUp_set (n : Int) : ∀ k, k < 7 → (hdC (hdUp n k)).setIfInBounds (flO k) (.bool (hdB n (flK k))) = hdC (hdUp n (k + 1)) := seven rfl rfl rfl rfl rfl rfl rfl
theorem hdUp_all (n : Int) : hdUp n 7 = unH 0 n := rfl
theorem flO_lt (h : Hd) : ∀ k, k < 7 → flO k < (hdC h).size := seven (by show 1 < 10; decide) (by show 3 < 10; decide) (by show 4 < 10; decide) (by show 5 < 10; decide) (by show 6 < 10; decide) (by show 7 < 10; decide) (by show 8 < 10; decide)
theorem i64_andN (a b : Nat) (ha : a < 4294967296) (hb : b < 4294967296) : bits .and .i64 (a : Int) (b : Int) = ((a &&& b : Nat) : Int) := by
  have hx : a &&& b < 2 ^ 32 := Nat.and_lt_two_pow _ (by omega)
  show IntKind.i64.wrap ((BitVec.ofInt 64 (a : Int) &&& BitVec.ofInt 64 (b : Int)).toNat : Int) = _
  rw [BitVec.toNat_and, ofInt_u64 a (by omega), ofInt_u64 b (by omega), IntKind.wrap_i64]
  omega
theorem and_pow (n i : Nat) : n &&& 2 ^ i = if n.testBit i then 2 ^ i else 0 := by
  refine Nat.eq_of_testBit_eq fun j => ?_
  rw [Nat.testBit_and, Nat.testBit_two_pow]
  by_cases hij : i = j
  · subst hij
    cases h : n.testBit i <;> simp
  · cases h : n.testBit i <;> simp [hij]
theorem and_bit (n : Nat) (hn : n < 4294967296) (i : Nat) (hi : i < 16) : (bits .and .i64 (n : Int) ((2 ^ i : Nat) : Int) != 0) = hdB n ((2 ^ i : Nat) : Int) := by
  have h2 : 2 ^ i < 2 ^ 16 := Nat.pow_lt_pow_right (by decide) hi
  have h0 : 0 < 2 ^ i := Nat.two_pow_pos i
  rw [i64_andN n (2 ^ i) hn (by omega), and_pow, hdB, Nat.testBit_eq_decide_div_mod_eq]
  have e : ((n : Int) / ((2 ^ i : Nat) : Int) % 2) = ((n / 2 ^ i % 2 : Nat) : Int) := by simp
  rw [e]
  rcases (show n / 2 ^ i % 2 = 0 ∨ n / 2 ^ i % 2 = 1 by omega) with h | h
  · rw [h]; rfl
  · rw [h]
    have : ((2 ^ i : Nat) : Int) ≠ 0 := by omega
    simp only [decide_true, if_true]
    simpa using this
theorem and_15 (n : Nat) (hn : n < 4294967296) : bits .and .i64 (n : Int) 15 = (n : Int) % 16 := by
  have h := i64_andN n 15 hn (by decide)
  rw [show (15 : Nat) = 2 ^ 4 - 1 from rfl, Nat.and_two_pow_sub_one_eq_mod] at h
  rw [show (15 : Int) = ((2 ^ 4 - 1 : Nat) : Int) from rfl, h]
  simp
theorem and_fl (n : Nat) (hn : n < 65536) : ∀ k, k < 7 → (bits .and .i64 (n : Int) (flK k) != 0) = hdB n (flK k) :=
  seven (and_bit n (by omega) 15 (by decide)) (and_bit n (by omega) 10 (by decide)) (and_bit n (by omega) 9 (by decide)) (and_bit n (by omega) 8 (by decide)) (and_bit n (by omega) 7 (by decide)) (and_bit n (by omega) 5 (by decide)) (and_bit n (by omega) 4 (by decide))
set_option maxHeartbeats 4000000 in
theorem unpack_any (n : Nat) (w : World) (hn : n < 65536) : Calls Try.prog 14 #[.int .i64 n] w fun e w' => e = .returned (hdV (unH 0 n)) ∧ Below w.heap.size w w' := by
  have S := Ats.start w
  have hF := fun g w => flags_any g w
  have HF := Lib.hid hF
  have ha := and_15 n (by omega)
  have hd := and_15 (n / 2048) (by omega)
  have e1 : ((n / 2048 : Nat) : Int) = (n : Int) / 2048 := by simp
  rw [e1] at hd
  clear hF e1
  go_enter Try.func14, Try.ntmps14
  go_wp2_with (first
    | ((with_reducible show wpList _ _ _ (Oper.mk (some 2) (Op.alloc _) _ _ _ _ :: _) _ _); refine wpList_allocS rfl _ rfl _ hdZero S ?_; clear S; intro gr w1 S)
    | ((with_reducible show wpList _ _ _ (Oper.mk (some 3) (Op.alloc _) _ _ _ _ :: _) _ _); refine wpList_allocS rfl _ rfl _ hdZero S ?_; clear S; intro g w1 S)
    | ((with_reducible show wpList _ _ _ (Oper.mk _ (Op.store _ (Operand.tmp 3) _) _ _ _ _ :: _) _ _); refine wpList_storeS rfl _ _ _ rfl S _ rfl _ rfl 0 _ _ rfl hdInfo (by rfl) (by simp [Value.oneCell']) ?_; clear S; intro w1 S; (first | simp only [List.set_cons_zero] at S | simp only [List.set_cons_succ, List.set_cons_zero] at S | skip))
    | ((with_reducible refine (HF.out _ _).mono ?_); rintro e w2 ⟨rfl, hb⟩; have S := S.call hb; clear hb))
  have S : Ats w.heap.size w w2 [(g, 24, hdC (hdUp n 0)), (gr, 24, hdC zeroH)] := S
  clear ha hd
  go_loopw [13] (fun i wr => ∃ k : Nat, k ≤ 7 ∧ i = .int .i64 k ∧ Ats w.heap.size w wr [(g, 24, hdC (hdUp n k)), (gr, 24, hdC zeroH)]) (fun i _ => 7 - (intOf i).toNat)
  case atStart => exact ⟨0, Nat.zero_le _, rfl, S⟩
  case round =>
    obtain ⟨k, hk, rfl, S⟩ := hrel
    by_cases hlt : k < 7
    · have hidx := fl_index g k hlt
      have hx := hdUp_set n k hlt
      have ho := flO_lt (hdUp n k) k hlt
      have ha := and_fl n hn k hlt
      obtain ⟨x, hxe⟩ : ∃ x, x = hdC (hdUp n k) := ⟨_, rfl⟩
      obtain ⟨b, hb⟩ : ∃ x, x = hdB n (flK k) := ⟨_, rfl⟩
      obtain ⟨K, hK⟩ : ∃ x, x = flK k := ⟨_, rfl⟩
      obtain ⟨o, hoe⟩ : ∃ x, x = flO k := ⟨_, rfl⟩
      rw [← hxe] at hx ho S
      rw [← hoe] at hx ho hidx
      rw [← hb] at hx ha
      rw [← hK] at ha hidx
      have HX := Lib.hid hx
      have HO := Lib.hid ho
      clear hxe hb hK hoe hx ho
      go_wp2_with (first
        | ((with_reducible show wpList _ _ _ (Oper.mk _ (Op.alloc _) _ _ _ _ :: _) _ _); refine wpList_allocS rfl _ rfl _ flagZero S ?_; clear S; intro gf w1 S)
        | ((with_reducible show wpList _ _ _ (Oper.mk _ (Op.store _ _ _) _ _ _ _ :: _) _ _); refine wpList_storeS rfl _ _ _ rfl S _ rfl _ rfl 0 _ _ rfl flagInfo (by rfl) (by simp [Value.oneCell']) ?_; clear S; intro w1 S; (first | simp only [List.set_cons_zero] at S | simp only [List.set_cons_succ, List.set_cons_zero] at S | skip))
        | ((with_reducible show wpList _ _ _ (Oper.mk _ (Op.load _ (Operand.tmp 16)) _ _ _ _ :: _) _ _); refine wpList_cellS rfl _ _ rfl S _ _ rfl 0 _ _ rfl _ Try.underlying49 rfl _ (by rfl) ?_)
        | ((with_reducible show wpList _ _ _ (Oper.mk _ (Op.load _ (Operand.tmp 19)) _ _ _ _ :: _) _ _); refine wpList_cellS rfl _ _ rfl S _ _ rfl 0 _ _ rfl _ Try.underlying3 rfl _ (by rfl) ?_)
        | ((with_reducible show wpList _ _ _ (Oper.mk _ (Op.store _ (Operand.tmp 23) _) _ _ _ _ :: _) _ _); refine wpList_putS rfl _ _ _ rfl S _ _ rfl _ rfl rfl rfl 1 _ _ rfl boolInfo (by exact HO.out) ?_; clear S; intro w1 S; (first | simp only [List.set_cons_zero] at S | simp only [List.set_cons_succ, List.set_cons_zero] at S | skip)))
      have S : Ats w.heap.size w w1 [(gf, 51, #[.int .i64 K, .pointer (some ⟨g, o, none⟩)]), (g, 24, x.setIfInBounds o (.bool b)), (gr, 24, hdC zeroH)] := S
      rw [HX.out] at S
      exact ⟨⟨k + 1, by omega, by go_num, S.drop (List.sublist_cons_self _ _)⟩, by simp [intOf]; omega⟩
    · obtain rfl : k = 7 := by omega
      go_wp2_with (first
        | ((with_reducible show wpList _ _ _ (Oper.mk _ (Op.load _ (Operand.tmp 3)) _ _ _ _ :: _) _ _); refine wpList_loadS rfl _ _ rfl S _ rfl 0 _ _ rfl _ Try.underlying24 rfl hdInfo ?_)
        | ((with_reducible show wpList _ _ _ (Oper.mk _ (Op.store _ (Operand.tmp 2) _) _ _ _ _ :: _) _ _); refine wpList_storeS rfl _ _ _ rfl S _ rfl _ rfl 1 _ _ rfl hdInfo (by rfl) (by exact hdOne _) ?_; clear S; intro w1 S; (first | simp only [List.set_cons_zero] at S | simp only [List.set_cons_succ, List.set_cons_zero] at S | skip)))
      exact bodyPost_ret (results_cellS rfl _ S _ 1 _ _ _ rfl rfl Try.underlying24 rfl hdInfo) rfl ⟨rfl, S.below⟩
end Go.Proofs.Ytnomjjiohdinlaa
