/- Layer 8: colon.fit, group, four. -/
import Derived.Test.YtkchgjakkogejaaDoorColon5
namespace Go.Proofs.YtkchgjakkogejaaDoor
open Go.RowKit Go
set_option linter.unusedVariables false
set_option maxRecDepth 100000
def bInts (l : List UInt8) : List Int := l.map fun c : UInt8 => ((c.toNat : Nat) : Int)
theorem bInts_len (l : List UInt8) : (bInts l).length = l.length := by simp [bInts]
theorem elemB : Elem1 Tryd.prog 5 (.int .u8 0) 1 := by unfold Elem1; kernel_rfl
/-- 'append(out, b...)' of bytes that lie somewhere -/
theorem wpList_appInts {P : Program} {w : World} {ops : Array Oper} {rest : List Oper} {o : Oper} {a : Act} {Q : Exit → Act → World → Prop} (hgd : o.guard = none) (s x : Operand) (t e : TypeId)
    (ho : o.op = .call { callee := .builtin .append, args := #[s, x], argTypes := #[t, t] }) (ht : P.underlying t = some (.slice e)) {z : Value} {bytes : Nat} (hI : Elem1 P e z bytes) (hzs : z.cells.size = 1)
    (base : Nat) (v : Value) (n m c : Nat) (A : Option Addr) (q : IntKind) (xs : List Value) (l : List Int) (hs : a.eval s = v) (hx : a.eval x = .slice A m c) (hm0 : 0 < m) (hl : IntsAt w q A m l) (hown : w.ownsRow base e 1 v n xs)
    (hm : m ≤ 1000) (hb : (n + m) * bytes ≤ 140737488355328) (hn : n + m ≤ 140737488355328) (hbase : base ≤ w.heap.size)
    (h : ∀ v' w', w'.ownsRow base e 1 v' (n + m) (xs ++ intVs q l) → Below base w w' → wpList P ops Q rest (a.put o.dst v') w') : wpList P ops Q (o :: rest) a w := by
  obtain ⟨i, hi, hz, h1, h2⟩ := info_parts hI
  have hlen : l.length = m := hl.1.symm
  obtain ⟨b, o', rfl, hlt, hc⟩ := hl.2 hm0
  refine wpList_append_own w hgd s x t ho base e i z 1 bytes ht hi hz h1 h2 hzs (by decide) v n xs hs hown _ m c (intVs q l) hx (by rw [intVs_len]; omega) ?_ ?_ ?_ hb hbase ?_
  · intro j y hj
    have hjl : j < l.length := by
      have := (List.getElem?_eq_some_iff.1 hj).1
      rwa [intVs_len] at this
    have hadd : (⟨b, o', none⟩ : Addr).add j = ⟨b, o' + j, none⟩ := by unfold Addr.add; split <;> simp_all
    rw [hadd, hc j hjl]
    simp [intVs, hjl] at hj
    rw [← hj]
  · intro y hy
    obtain ⟨q, _, rfl⟩ := List.mem_map.1 hy
    rfl
  · unfold maxLen; omega
  · intro v' w' hown' hgrow hnil
    refine h v' w' hown' ?_
    exact (Below.refl base w).grown hgrow hbase (fun k hk => (hown.lt k hk).1)
theorem fit_any (n : Nat) (b : Bool) (w : World) :
    Calls Tryd.prog 28 #[.int .i64 n, .bool b] w fun e w' => e = .returned (.bool (if b = true then decide (n ≤ 14) else decide (n = 16))) ∧ w = w' := by
  cases b with
  | true =>
    have h1 : decide ((n : Int) ≤ 14) = decide (n ≤ 14) := decide_eq_decide.2 (by omega)
    go_enter Tryd.func28, Tryd.ntmps28
    go_wp2
    go_ret
    exact ⟨ret_bool (by first | rfl | simp), rfl⟩
  | false =>
    have h1 : ((n : Int) == 16) = decide (n = 16) := by rw [Bool.eq_iff_iff, beq_iff_eq, decide_eq_true_eq]; omega
    go_enter Tryd.func28, Tryd.ntmps28
    go_wp2
    go_ret
    exact ⟨ret_bool (by first | rfl | simp), rfl⟩
theorem i64_or_nat (a b : Nat) (ha : a < 4294967296) (hb : b < 4294967296) : bits .or .i64 (a : Int) (b : Int) = ((a ||| b : Nat) : Int) := by
  have hx : a ||| b < 2 ^ 32 := Nat.or_lt_two_pow (by omega) (by omega)
  show IntKind.i64.wrap ((BitVec.ofInt 64 (a : Int) ||| BitVec.ofInt 64 (b : Int)).toNat : Int) = _
  rw [BitVec.toNat_or, ofInt_u64 a (by omega), ofInt_u64 b (by omega), IntKind.wrap_i64]
  omega
theorem hex_or (n d : Nat) (hn : n < 65536) (hd : d < 16) : bits BinOp.or IntKind.i64 ((n : Int) * 16) (d : Int) = ((16 * n + d : Nat) : Int) := by
  have h := i64_or_nat (n * 16) d (by omega) (by omega)
  have e := Nat.shiftLeft_add_eq_or_of_lt (show d < 2 ^ 4 by omega) n
  rw [Nat.shiftLeft_eq] at e
  rw [← show n * 16 + d = n * 16 ||| d from e] at h
  rw [show ((n : Int) * 16) = ((n * 16 : Nat) : Int) by omega, h]
  omega
theorem hexN_take (s : ByteArray) (k : Nat) (h : k < s.size) : hexN (s.data.toList.take (k + 1)) = 16 * hexN (s.data.toList.take k) + (hexV s[k].toNat).toNat := by
  rw [take_snoc s k h, hexN_snoc]
theorem allH_take (s : ByteArray) (k : Nat) (h : k < s.size) (ha : allH (s.data.toList.take k) = true) (hb : hexB s[k].toNat = true) : allH (s.data.toList.take (k + 1)) = true := by
  rw [take_snoc s k h]
  unfold allH at ha ⊢
  rw [List.all_append, ha]
  simp [hb]
theorem allH_bad (s : ByteArray) (k : Nat) (h : k < s.size) (hb : hexB s[k].toNat = false) : allH s.data.toList = false := by
  unfold allH
  rw [List.all_eq_false]
  have hm : s[k] ∈ s.data.toList := by
    have : s.data.toList[k]'(by simpa using h) ∈ s.data.toList := List.getElem_mem _
    exact this
  exact ⟨_, hm, by rw [hb]; simp⟩
theorem group_none (l : List UInt8) (h : l = [] ∨ 4 < l.length ∨ allH l = false) : groupE l = none := by unfold groupE; rw [if_pos h]
theorem group_some (l : List UInt8) (h0 : l ≠ []) (h4 : l.length ≤ 4) (h : allH l = true) : groupE l = some (hexN l) := by unfold groupE; rw [if_neg (by simp [h0, h]; omega)]
def GroupP (l : List UInt8) (w : World) (e : Ending) (w' : World) : Prop :=
  ((groupE l = none ∧ e = .returned (.tuple #[.slice none 0 0, .bool false])) ∨ (∃ n A c, groupE l = some n ∧ e = .returned (.tuple #[.slice A 2 c, .bool true]) ∧ IntsAt w' .u8 A 2 (bInts [byN n 8, byN n 0]))) ∧ Below w.heap.size w w'
theorem byte2 (n : Nat) (h : n < 65536) : IntKind.u8.wrap ((n : Int) / 256) = ((byN n 8).toNat : Nat) ∧ IntKind.u8.wrap (n : Int) = ((byN n 0).toNat : Nat) := by
  rw [byN_toNat, byN_toNat, IntKind.wrap_u8', IntKind.wrap_u8']
  omega
set_option maxHeartbeats 2000000 in
theorem group_any (s : ByteArray) (w : World) (hs : s.size ≤ 4000) :
    Calls Tryd.prog 41 #[.string s] w fun e w' => GroupP s.data.toList w e w' := by
  have hz := Lib.size_eq s
  by_cases h0 : s.data.toList = []
  · have hg := group_none _ (.inl h0)
    have h0' : s.toList.isEmpty = true := by rw [ByteArray.toList_eq, h0]; rfl
    have HG := Lib.hid hg
    clear hg h0 hz
    go_enter Tryd.func41, Tryd.ntmps41
    go_wp2
    go_ret2
    exact ⟨.inl ⟨HG.out, rfl⟩, Below.refl _ _⟩
  · have h0' : s.toList.isEmpty = false := by rw [ByteArray.toList_eq]; simpa using h0
    by_cases h4 : 4 < s.size
    · have hg := group_none s.data.toList (.inr (.inl (by omega)))
      have HG := Lib.hid hg
      clear hg h0 hz
      go_enter Tryd.func41, Tryd.ntmps41
      go_wp2
      go_ret2
      exact ⟨.inl ⟨HG.out, rfl⟩, Below.refl _ _⟩
    · have H0 := Lib.hid h0
      have HZ := Lib.hid hz
      clear h0 hz
      go_enter Tryd.func41, Tryd.ntmps41
      go_wp2
      go_loop [4, 17] (fun n i => ∃ k : Nat, i = .int .i64 k ∧ k ≤ s.size ∧ n = .int .i64 (hexN (s.data.toList.take k)) ∧ allH (s.data.toList.take k) = true) (fun _ i => s.size - (intOf i).toNat)
      case atStart => exact ⟨0, rfl, Nat.zero_le _, rfl, rfl⟩
      case round =>
        obtain ⟨k, rfl, hk, rfl, hall⟩ := hrel
        have HA := Lib.hid hall
        clear hall
        have hlt65 : hexN (s.data.toList.take k) < 65536 := by
          have h1 := hexN_lt (s.data.toList.take k)
          have h2 : (s.data.toList.take k).length ≤ 4 := by rw [List.length_take]; have := HZ.out; omega
          have : 16 ^ (s.data.toList.take k).length ≤ 16 ^ 4 := Nat.pow_le_pow_right (by decide) h2
          omega
        by_cases hlt : k < s.size
        · have hc := UInt8.toNat_lt s[k]
          have hx := hex_any s[k].toNat w (by omega) (by omega)
          have hst := hexN_take s k hlt
          have hal := allH_take s k hlt HA.out
          have hba := allH_bad s k hlt
          have hv := hexV_bd s[k].toNat
          obtain ⟨d, hd⟩ : ∃ d : Nat, hexV s[k].toNat = d := ⟨(hexV s[k].toNat).toNat, by omega⟩
          rw [hd] at hx hst
          rw [Int.toNat_natCast] at hst
          have hd15 : d ≤ 15 := by omega
          obtain ⟨b, hb⟩ : ∃ b, b = hexB s[k].toNat := ⟨_, rfl⟩
          rw [← hb] at hx hal hba
          have hor := hex_or (hexN (s.data.toList.take k)) d hlt65 (by omega)
          cases b with
          | true =>
            have hal' := hal rfl
            have HX := Lib.hid hx
            have HS := Lib.hid hst
            have HL := Lib.hid hal'
            clear hx hst hal hba hal' hv hd hb
            go_wp2_with (first
              | ((with_reducible refine HX.out.mono ?_); rintro e w2 ⟨rfl, hq⟩; subst hq))
            go_round
            case rel => exact ⟨k + 1, by go_num, by omega, ret_v (by rw [HS.out]; omega), HL.out⟩
            case measure => simp [intOf]; omega
          | false =>
            have hg := group_none _ (.inr (.inr (hba rfl)))
            have HX := Lib.hid hx
            have HG := Lib.hid hg
            clear hx hst hal hba hg hv hd hb hor
            go_wp2_with (first
              | ((with_reducible refine HX.out.mono ?_); rintro e w2 ⟨rfl, hq⟩; subst hq))
            go_ret2
            exact ⟨.inl ⟨HG.out, rfl⟩, Below.refl _ _⟩
        · obtain rfl : k = s.size := by omega
          have ht : s.data.toList.take s.size = s.data.toList := List.take_of_length_le (by simp)
          have hg := group_some s.data.toList H0.out (by have := HZ.out; omega) (by rw [← ht]; exact HA.out)
          obtain ⟨e1, e2⟩ := byte2 _ hlt65
          rw [← ht] at hg
          obtain ⟨n, hn⟩ : ∃ n, n = hexN (s.data.toList.take s.size) := ⟨_, rfl⟩
          rw [← hn] at hg e1 e2 hlt65 ⊢
          rw [ht] at hg
          have HG := Lib.hid hg
          clear hg hn ht
          have hints : ∀ wr : World, IntsAt (wr.alloc (.cells #[.int .u8 (byN n 8).toNat, .int .u8 (byN n 0).toNat] 5)) .u8 (some ⟨wr.heap.size, 0, none⟩) 2 (bInts [byN n 8, byN n 0]) := by
            intro wr
            refine ⟨rfl, fun _ => ⟨_, 0, rfl, by simp, fun j hj => ?_⟩⟩
            have hj2 : j < 2 := hj
            rw [Nat.zero_add, World.cell?_alloc_mark]
            match j, hj2 with
            | 0, _ => rfl
            | 1, _ => rfl
          have HI := Lib.hid hints
          clear hints
          go_wp2_with fail
          go_ret2
          exact ⟨.inr ⟨n, _, 2, HG.out, rfl, HI.out w⟩, (Below.refl _ w).alloc (Nat.le_refl _) _⟩
theorem slice16_4 (g : Nat) (w : World) : (Instr.sliceAt 23 (.pointer (some ⟨g, 1, none⟩)) none (some (.int .i64 4)) none).run Tryd.prog w = .ok (.slice (some ⟨g, 1, none⟩) 4 16) w := by
  have ha : Tryd.prog.arrayLen 23 = 16 := by kernel_rfl
  have he : Tryd.prog.elem 23 = 5 := by kernel_rfl
  rw [run_sliceAt_array_h w 23 _ (by kernel_rfl) .i64 4 (by omega) (by rw [ha]; omega), he, Tryd.sizeOf5]
  simp [slicedAt, ha, Result.andThen, Addr.add]
theorem ad_ints4 {w : World} {g t : Nat} {f z : Int} {ip : List UInt8} (A : At w g t (adCs f ip z).toArray) (h : ip.length = 16) : IntsAt w .u8 (some ⟨g, 1, none⟩) 4 (bInts (ip.take 4)) := by
  refine ⟨by rw [bInts_len, List.length_take]; omega, fun _ => ⟨g, 1, rfl, A.lt, fun j hj => ?_⟩⟩
  have hj4 : j < 4 := by rw [bInts_len, List.length_take] at hj; omega
  refine A.cells (1 + j) ?_
  rw [ad_byte f z ip j (ip[j]'(by omega)) (List.getElem?_eq_getElem (by omega))]
  simp [bInts]
theorem parseE_len (l : List UInt8) : (parseE l).ip.length = 16 := by
  unfold parseE
  split
  · exact looseE_len l
  · rfl
set_option maxHeartbeats 2000000 in
theorem four_any (s : ByteArray) (w : World) (hs : s.size ≤ 4000) (hP : P10 w) :
    Calls Tryd.prog 42 #[.string s] w fun e w' => (∃ A, e = .returned (.tuple #[.slice A 4 16, .bool (decide ((parseE s.data.toList).err = 0))]) ∧ IntsAt w' .u8 A 4 (bInts ((parseE s.data.toList).ip.take 4))) ∧ Below w.heap.size w w' := by
  have S := Ats.start w
  have hp := parse_any s w hs hP
  have hl := parseE_len s.data.toList
  have hsl := slice16_4
  obtain ⟨r, hr⟩ : ∃ r, r = parseE s.data.toList := ⟨_, rfl⟩
  rw [← hr] at hp hl ⊢
  simp only [adTup] at hp
  obtain ⟨fam, ip, er⟩ := r
  simp only at hp hl ⊢
  have hb : (er == 0) = decide (er = 0) := by rw [Bool.eq_iff_iff, beq_iff_eq, decide_eq_true_eq]
  obtain ⟨b, hbb⟩ : ∃ b, b = decide (er = 0) := ⟨_, rfl⟩
  rw [← hbb] at hb ⊢
  have HP := Lib.hid hp
  clear hp hr hbb
  go_enter Tryd.func42, Tryd.ntmps42
  go_wp2_with (first
    | ((with_reducible refine HP.out.mono ?_); rintro e w2 ⟨rfl, hb⟩; have S := S.call hb; clear hb)
    | ((with_reducible show wpList _ _ _ (Oper.mk _ (Op.alloc _) _ _ _ _ :: _) _ _); refine wpList_allocS rfl _ rfl _ adZero S ?_; clear S; intro ga w1 S)
    | ((with_reducible show wpList _ _ _ (Oper.mk _ (Op.store _ _ _) _ _ _ _ :: _) _ _); refine wpList_storeS rfl _ _ _ rfl S _ rfl _ rfl 0 _ _ rfl (adSize _ _ _ hl) (by exact ad_sizes _ _ _ _ _ _ rfl hl) (by exact adCs_one _ _ _) ?_; clear S; intro w1 S; (first | simp only [List.set_cons_zero] at S | simp only [List.set_cons_succ, List.set_cons_zero] at S | skip)))
  go_ret2
  exact ⟨⟨_, rfl, ad_ints4 (S.get (i := 0) rfl) hl⟩, S.below⟩
end Go.Proofs.YtkchgjakkogejaaDoor
