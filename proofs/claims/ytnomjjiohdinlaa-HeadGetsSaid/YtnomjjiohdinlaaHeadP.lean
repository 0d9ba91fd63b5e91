/- Layer 11: head.Put, and the document's. -/
import Derived.Test.YtnomjjiohdinlaaHead3
import Derived.Test.YtnomjjiohdinlaaOctet4
namespace Go.Proofs.Ytnomjjiohdinlaa
open Go.RowKit Go
set_option linter.unusedVariables false
set_option maxRecDepth 100000
def hdPut (h : Hd) (c : Nat → Int) : List UInt8 × Int := if hdOk h && cntOk c then (hdT h c, 0) else ([], 4)
def oc2 (n : Int) : ByteArray := ⟨(ocT 2 n).toArray⟩
def hdTB (h : Hd) (c : Nat → Int) (k : Nat) : ByteArray := ⟨(hdTk h c k).toArray⟩
theorem oc2_size (n : Int) : (oc2 n).size = 2 := by show (ocT 2 n).toArray.size = 2; simp [ocT_len]
theorem hdTB_size (h : Hd) (c : Nat → Int) (k : Nat) : (hdTB h c k).size = 4 + 2 * k := by show (hdTk h c k).toArray.size = _; simp [hdTk_len]
theorem hd_app (a b : List UInt8) : (⟨a.toArray⟩ : ByteArray) ++ ⟨b.toArray⟩ = ⟨(a ++ b).toArray⟩ := by
  rw [ByteArray.mk_append_mk]; first | done | simp
theorem hdTB_0 (h : Hd) (c : Nat → Int) : oc2 h.id ++ oc2 (hdN h) = hdTB h c 0 := hd_app _ _
theorem hdTB_s (h : Hd) (c : Nat → Int) (k : Nat) : hdTB h c k ++ oc2 (c k) = hdTB h c (k + 1) := hd_app _ _
theorem cn_index (c : Nat → Int) (k : Nat) (hk : k < 4) : ∀ w, (Instr.index 25 (.agg (cnC c)) (.int .i64 (k : Nat))).run Try.prog w = .ok (.int .i64 (c k)) w := by
  rcases (show k = 0 ∨ k = 1 ∨ k = 2 ∨ k = 3 by omega) with rfl | rfl | rfl | rfl <;> exact fun w => by kernel_rfl
theorem cn_cell (c : Nat → Int) (k : Nat) (hk : k < 4) : (cnC c)[k]? = some (.int .i64 (c k)) := by
  rcases (show k = 0 ∨ k = 1 ∨ k = 2 ∨ k = 3 by omega) with rfl | rfl | rfl | rfl <;> rfl
theorem hdPut_head {h : Hd} (c : Nat → Int) (k : hdOk h = false) : hdPut h c = ([], 4) := by unfold hdPut; rw [k]; rfl
theorem hdPut_cnt {h : Hd} {c : Nat → Int} (k : cntOk c = false) : hdPut h c = ([], 4) := by unfold hdPut; rw [k, Bool.and_false]; rfl
theorem hdPut_yes {h : Hd} {c : Nat → Int} (k : hdOk h = true) (l : cntOk c = true) : hdPut h c = (hdT h c, 0) := by unfold hdPut; rw [k, l]; rfl
theorem cntOk_at {c : Nat → Int} {k : Nat} (hk : k < 4) (h : hdIn (c k) 65535 = false) : cntOk c = false := by
  unfold cntOk
  rcases (show k = 0 ∨ k = 1 ∨ k = 2 ∨ k = 3 by omega) with rfl | rfl | rfl | rfl <;> simp [h]
theorem cntOk_all {c : Nat → Int} (h : ∀ j, j < 4 → hdIn (c j) 65535 = true) : cntOk c = true := by
  unfold cntOk
  rw [h 0 (by decide), h 1 (by decide), h 2 (by decide), h 3 (by decide)]; rfl
abbrev putV (p : List UInt8 × Int) : Value := .tuple #[.string ⟨p.1.toArray⟩, .int .i64 p.2]
set_option maxHeartbeats 4000000 in
theorem put_any (h : Hd) (c : Nat → Int) (w : World) : Calls Try.prog 8 #[hdV h, cnV c] w fun e w' => e = .returned (putV (hdPut h c)) ∧ Below w.heap.size w w' := by
  have S := Ats.start w
  have hC := fun w => check_any h w
  have hO := fun (n : Int) w => octPut_any 2 n w
  simp only [show ocWide 2 = 2 by decide] at hO
  have hO : ∀ (n : Int) w, Calls Try.prog 17 #[.int .i64 2, .int .i64 n] w fun e w' => e = .returned (.string (oc2 n)) ∧ Below w.heap.size w w' := hO
  have hW := fun (n : Int) w => within_any n 65535 w
  have HO := Lib.hid hO
  have HW := Lib.hid hW
  clear hO hW
  by_cases hk : hdOk h = true
  · have hP := fun w => pack_any h w hk
    have HP := Lib.hid hP
    have HK := Lib.hid hk
    rw [hdE_yes hk] at hC
    have HC := Lib.hid hC
    clear hP hk hC
    have z0 := oc2_size h.id
    have z1 := oc2_size (hdN h)
    have hT0 := hdTB_0 h c
    have HT0 := Lib.hid hT0
    clear hT0
    go_enter Try.func8, Try.ntmps8
    go_wp2_with (first
      | ((with_reducible show wpList _ _ _ (Oper.mk (some 2) (Op.box _ _) _ _ _ _ :: _) _ _); refine wpList_boxS rfl _ _ rfl (hdC h) rfl S ?_; clear S; intro g w1 S)
      | ((with_reducible show wpList _ _ _ (Oper.mk (some 3) (Op.box _ _) _ _ _ _ :: _) _ _); refine wpList_boxS rfl _ _ rfl (cnC c) rfl S ?_; clear S; intro gc w1 S)
      | ((with_reducible show wpList _ _ _ (Oper.mk _ (Op.load _ (Operand.tmp 2)) _ _ _ _ :: _) _ _); refine wpList_loadS rfl _ _ rfl S _ rfl 1 _ _ rfl _ Try.underlying24 rfl hdInfo ?_)
      | ((with_reducible refine (HC.out _).mono ?_); rintro e w2 ⟨rfl, hb⟩; have S := S.call hb; clear hb))
    (try simp only [Act.put, List.setIfInBounds_toArray, List.set_cons_succ, List.set_cons_zero]); refine quietS_region (by kernel_rfl) (by kernel_rfl) S ?_
    repeat (first
      | go_big_quiet_skip
      | (go_big_quiet_want
         first
           | ((with_reducible show Oper.quiet _ (Oper.mk _ (Op.load _ (Operand.tmp 2)) _ _ _ _) _ _ _); refine q_loadS _ _ rfl _ rfl 1 _ _ rfl _ Try.underlying24 rfl hdInfo ?_)
           | ((with_reducible show Oper.quiet _ (Oper.mk _ (Op.load _ (Operand.tmp 15)) _ _ _ _) _ _ _); refine q_cellS _ _ rfl _ _ rfl 1 _ _ rfl _ Try.underlying3 rfl _ (by exact hd_0 h) ?_)
           | ((with_reducible show Oper.quiet _ (Oper.mk (some 17) (Op.call { callee := Callee.value (Operand.func 17), args := _, argTypes := _ }) _ _ _ _) _ _ _); refine q_call 17 _ _ rfl (enters_of Try.func17 (by kernel_rfl) rfl) (fun w S => (((HO.out h.id _)).mono fun e w2 h => ⟨h.1, S.call h.2⟩)) (by simp [Act.eval]) ?_)
           | ((with_reducible show Oper.quiet _ (Oper.mk (some 20) (Op.call { callee := Callee.value (Operand.func 17), args := _, argTypes := _ }) _ _ _ _) _ _ _); refine q_call 17 _ _ rfl (enters_of Try.func17 (by kernel_rfl) rfl) (fun w S => (((HO.out (hdN h) _)).mono fun e w2 h => ⟨h.1, S.call h.2⟩)) (by simp [Act.eval]) ?_)
           | ((with_reducible show Oper.quiet _ (Oper.mk (some 19) (Op.call { callee := Callee.value (Operand.func 18), args := _, argTypes := _ }) _ _ _ _) _ _ _); refine q_call 18 _ _ rfl (enters_of Try.func18 (by kernel_rfl) rfl) (fun w S => (((HP.out _)).mono fun e w2 h => ⟨h.1, S.call h.2⟩)) (by simp [Act.eval]) ?_)
           | (refine q_pure (v := ?_) ?_ ?_; rotate_left; focus (intro w; go_simp; rw [if_neg (by (simp [z0, z1]))]))
           | (refine q_pure (v := ?_) ?_ ?_; rotate_left; focus (intro w; go_simp; try with_reducible rfl))
         (simp only [Act.put, List.setIfInBounds_toArray, List.set_cons_succ, List.set_cons_zero]; go_big_quiet_on)))
    (refine wpQuiet_nil ?_; clear S; intro w1 S)
    rw [HT0.out]
    clear z0 z1
    go_wp2_with ((with_reducible show wpList _ _ _ (Oper.mk _ (Op.load _ (Operand.tmp 3)) _ _ _ _ :: _) _ _); refine wpList_loadS rfl _ _ rfl S _ rfl 0 _ _ rfl _ Try.underlying25 rfl cnInfo ?_)
    go_loopw [7, 23] (fun o i wr => ∃ k : Nat, k ≤ 4 ∧ i = .int .i64 k ∧ o = .string (hdTB h c k) ∧ (∀ j, j < k → hdIn (c j) 65535 = true) ∧ Ats w.heap.size w wr [(gc, 25, cnC c), (g, 24, hdC h)]) (fun _ i _ => 4 - (intOf i).toNat)
    case atStart => exact ⟨0, Nat.zero_le _, rfl, rfl, fun j hj => absurd hj (by omega), S⟩
    case round =>
      obtain ⟨k, hk, rfl, rfl, hall, S⟩ := hrel
      by_cases hlt : k < 4
      · have hidx := cn_index c k hlt
        have hw := fun w => within_any (c k) 65535 w
        have z0 := hdTB_size h c k
        have z1 := oc2_size (c k)
        have hs := hdTB_s h c k
        have hno := cntOk_at (c := c) hlt
        have hall2 : hdIn (c k) 65535 = true → ∀ j, j < k + 1 → hdIn (c j) 65535 = true := fun h1 j hj => by
          by_cases hjk : j = k
          · rw [hjk]; exact h1
          · exact hall j (by omega)
        obtain ⟨s, hse⟩ : ∃ s, s = hdTB h c k := ⟨_, rfl⟩
        obtain ⟨v, hv⟩ : ∃ v, v = c k := ⟨_, rfl⟩
        obtain ⟨b, hb⟩ : ∃ b, b = hdIn (c k) 65535 := ⟨_, rfl⟩
        rw [← hb] at hw hno hall2
        rw [← hv] at hw hidx z1 hs
        rw [← hse] at z0 hs ⊢
        have HS := Lib.hid hs
        have HN := Lib.hid hno
        have HA := Lib.hid hall2
        have HWK := Lib.hid hw
        clear hw hs hno hall2 hall hse hv hb
        cases b
        · have hno := HN.out rfl
          clear HN HA
          have HN := Lib.hid hno
          clear hno
          go_wp2_with (first
            | ((with_reducible refine (HWK.out _).mono ?_); rintro e w2 ⟨rfl, rfl⟩))
          go_ret2
          exact ⟨by rw [hdPut_cnt HN.out]; rfl, S.below⟩
        · have hal := HA.out rfl
          clear HN HA
          have HA := Lib.hid hal
          clear hal
          go_wp2_with (first
            | ((with_reducible refine (HWK.out _).mono ?_); rintro e w2 ⟨rfl, rfl⟩)
            | ((with_reducible refine (HO.out _ _).mono ?_); rintro e w2 ⟨rfl, hb⟩; have S := S.call hb; clear hb))
          exact ⟨⟨k + 1, by omega, by go_num, by rw [HS.out], HA.out, S⟩, by simp [intOf]; omega⟩
      · obtain rfl : k = 4 := by omega
        have hc := cntOk_all hall
        have HC2 := Lib.hid hc
        clear hall hc
        go_wp2
        go_ret2
        exact ⟨by rw [hdPut_yes HK.out HC2.out]; rfl, S.below⟩
  · have hk : hdOk h = false := by simpa using hk
    rw [hdE_no hk] at hC
    rw [hdPut_head c hk]
    have HC := Lib.hid hC
    clear hk hC
    go_enter Try.func8, Try.ntmps8
    go_wp2_with (first
      | ((with_reducible show wpList _ _ _ (Oper.mk (some 2) (Op.box _ _) _ _ _ _ :: _) _ _); refine wpList_boxS rfl _ _ rfl (hdC h) rfl S ?_; clear S; intro g w1 S)
      | ((with_reducible show wpList _ _ _ (Oper.mk (some 3) (Op.box _ _) _ _ _ _ :: _) _ _); refine wpList_boxS rfl _ _ rfl (cnC c) rfl S ?_; clear S; intro gc w1 S)
      | ((with_reducible show wpList _ _ _ (Oper.mk _ (Op.load _ (Operand.tmp 2)) _ _ _ _ :: _) _ _); refine wpList_loadS rfl _ _ rfl S _ rfl 1 _ _ rfl _ Try.underlying24 rfl hdInfo ?_)
      | ((with_reducible refine (HC.out _).mono ?_); rintro e w2 ⟨rfl, hb⟩; have S := S.call hb; clear hb))
    go_ret2
    exact ⟨rfl, S.below⟩
set_option maxHeartbeats 4000000 in
theorem refPut11_any (h : Hd) (c : Nat → Int) (w : World) : Calls Try.prog 9 #[hdV h, cnV c] w fun e w' => e = .returned (putV (hdPut h c)) ∧ Below w.heap.size w w' := by
  have S := Ats.start w
  have hC := fun w => refCheck_any h w
  have hO := fun (n : Int) w => refPut_any 2 n w
  simp only [show ocWide 2 = 2 by decide] at hO
  have hO : ∀ (n : Int) w, Calls Try.prog 21 #[.int .i64 2, .int .i64 n] w fun e w' => e = .returned (.string (oc2 n)) ∧ Below w.heap.size w w' := hO
  have HO := Lib.hid hO
  have HC := Lib.hid hC
  clear hO hC
  go_enter Try.func9, Try.ntmps9
  go_wp2_with (first
    | ((with_reducible show wpList _ _ _ (Oper.mk (some 2) (Op.box _ _) _ _ _ _ :: _) _ _); refine wpList_boxS rfl _ _ rfl (hdC h) rfl S ?_; clear S; intro g w1 S)
    | ((with_reducible show wpList _ _ _ (Oper.mk (some 3) (Op.box _ _) _ _ _ _ :: _) _ _); refine wpList_boxS rfl _ _ rfl (cnC c) rfl S ?_; clear S; intro gc w1 S))
  go_loopw [6] (fun i wr => ∃ k : Nat, k ≤ 4 ∧ i = .int .i64 k ∧ (∀ j, j < k → hdIn (c j) 65535 = true) ∧ Ats w.heap.size w wr [(gc, 25, cnC c), (g, 24, hdC h)]) (fun i _ => 4 - (intOf i).toNat)
  case atStart => exact ⟨0, Nat.zero_le _, rfl, fun j hj => absurd hj (by omega), S⟩
  case round =>
    obtain ⟨k, hk, rfl, hall, S⟩ := hrel
    by_cases hlt : k < 4
    · have hcell := cn_cell c k hlt
      have hno := cntOk_at (c := c) hlt
      have hall2 : hdIn (c k) 65535 = true → ∀ j, j < k + 1 → hdIn (c j) 65535 = true := fun h1 j hj => by
        by_cases hjk : j = k
        · rw [hjk]; exact h1
        · exact hall j (by omega)
      obtain ⟨v, hv⟩ : ∃ v, v = c k := ⟨_, rfl⟩
      rw [← hv] at hcell hno hall2
      have HCE := Lib.hid hcell
      have hd : (decide (v < 0) = true ∧ hdIn v 65535 = false) ∨ (decide (v < 0) = false ∧ decide (65535 < v) = true ∧ hdIn v 65535 = false) ∨ (decide (v < 0) = false ∧ decide (65535 < v) = false ∧ hdIn v 65535 = true) := by
        by_cases q1 : v < 0
        · exact .inl ⟨decide_eq_true q1, hdIn_no (by omega)⟩
        · by_cases q2 : 65535 < v
          · exact .inr (.inl ⟨decide_eq_false q1, decide_eq_true q2, hdIn_no (by omega)⟩)
          · exact .inr (.inr ⟨decide_eq_false q1, decide_eq_false q2, (hdIn_iff _ _).2 (by omega)⟩)
      clear hcell hv hall
      rcases hd with ⟨d1, q⟩ | ⟨d1, d2, q⟩ | ⟨d1, d2, q⟩
      · have HN := Lib.hid (hno q)
        clear hno hall2 q
        go_wp2_with (first
          | ((with_reducible show wpList _ _ _ (Oper.mk _ (Op.load _ (Operand.tmp 15)) _ _ _ _ :: _) _ _); refine wpList_cellS rfl _ _ rfl S _ _ rfl 0 _ _ rfl _ Try.underlying3 rfl _ (by exact HCE.out) ?_)
          | ((with_reducible show wpList _ _ _ (Oper.mk _ (Op.load _ (Operand.tmp 20)) _ _ _ _ :: _) _ _); refine wpList_cellS rfl _ _ rfl S _ _ rfl 0 _ _ rfl _ Try.underlying3 rfl _ (by exact HCE.out) ?_))
        go_ret2
        exact ⟨by rw [hdPut_cnt HN.out]; rfl, S.below⟩
      · have HN := Lib.hid (hno q)
        clear hno hall2 q
        go_wp2_with (first
          | ((with_reducible show wpList _ _ _ (Oper.mk _ (Op.load _ (Operand.tmp 15)) _ _ _ _ :: _) _ _); refine wpList_cellS rfl _ _ rfl S _ _ rfl 0 _ _ rfl _ Try.underlying3 rfl _ (by exact HCE.out) ?_)
          | ((with_reducible show wpList _ _ _ (Oper.mk _ (Op.load _ (Operand.tmp 20)) _ _ _ _ :: _) _ _); refine wpList_cellS rfl _ _ rfl S _ _ rfl 0 _ _ rfl _ Try.underlying3 rfl _ (by exact HCE.out) ?_))
        go_ret2
        exact ⟨by rw [hdPut_cnt HN.out]; rfl, S.below⟩
      · have HA := Lib.hid (hall2 q)
        clear hno hall2 q
        go_wp2_with (first
          | ((with_reducible show wpList _ _ _ (Oper.mk _ (Op.load _ (Operand.tmp 15)) _ _ _ _ :: _) _ _); refine wpList_cellS rfl _ _ rfl S _ _ rfl 0 _ _ rfl _ Try.underlying3 rfl _ (by exact HCE.out) ?_)
          | ((with_reducible show wpList _ _ _ (Oper.mk _ (Op.load _ (Operand.tmp 20)) _ _ _ _ :: _) _ _); refine wpList_cellS rfl _ _ rfl S _ _ rfl 0 _ _ rfl _ Try.underlying3 rfl _ (by exact HCE.out) ?_))
        exact ⟨⟨k + 1, by omega, by go_num, HA.out, S⟩, by simp [intOf]; omega⟩
    · obtain rfl : k = 4 := by omega
      have hc := cntOk_all hall
      have HC2 := Lib.hid hc
      clear hall hc
      by_cases hok : hdOk h = true
      · have hC2 := HC.out
        rw [hdE_yes hok] at hC2
        clear HC
        have HC := Lib.hid hC2
        have hp := hdPut_yes hok HC2.out
        have hbd := hdOk_bd hok
        have hnb := hdN_bd hok
        have HP := Lib.hid hp
        clear hok hp hC2
        go_wp2_with (first
          | ((with_reducible show wpList _ _ _ (Oper.mk _ (Op.load _ (Operand.tmp 2)) _ _ _ _ :: _) _ _); refine wpList_loadS rfl _ _ rfl S _ rfl 1 _ _ rfl _ Try.underlying24 rfl hdInfo ?_)
          | ((with_reducible refine (HC.out _).mono ?_); rintro e w2 ⟨rfl, hb⟩; have S := S.call hb; clear hb))
        have hF : ∀ (b : Bool) (n : Int) w, Calls Try.prog 20 #[.bool b, .int .i64 n] w fun e w' => e = .returned (.int .i64 (bN b n)) ∧ Below w.heap.size w w' := fun b n w => (refFlag_any b n w).mono fun e w' ⟨h, h'⟩ => ⟨h, h' ▸ Below.refl _ _⟩
        have HF := Lib.hid hF
        clear hF
        have bd : ∀ b n, 0 ≤ n → 0 ≤ bN b n ∧ bN b n ≤ n := fun b n h => by cases b <;> simp [bN] <;> omega
        have bqr := bd h.qr 32768 (by decide)
        have baa := bd h.aa 1024 (by decide)
        have btc := bd h.tc 512 (by decide)
        have brd := bd h.rd 256 (by decide)
        have bra := bd h.ra 128 (by decide)
        have bad := bd h.ad 32 (by decide)
        have bcd := bd h.cd 16 (by decide)
        have v0 : IntKind.i64.wrap (h.op * 2048) = h.op * 2048 := IntWalk.i64_in _ (by omega)
        have v1 : IntKind.i64.wrap (bN h.qr 32768 + h.op * 2048) = bN h.qr 32768 + h.op * 2048 := IntWalk.i64_in _ (by omega)
        have v2 : IntKind.i64.wrap (bN h.qr 32768 + h.op * 2048 + bN h.aa 1024) = bN h.qr 32768 + h.op * 2048 + bN h.aa 1024 := IntWalk.i64_in _ (by omega)
        have v3 : IntKind.i64.wrap (bN h.qr 32768 + h.op * 2048 + bN h.aa 1024 + bN h.tc 512) = bN h.qr 32768 + h.op * 2048 + bN h.aa 1024 + bN h.tc 512 := IntWalk.i64_in _ (by omega)
        have v4 : IntKind.i64.wrap (bN h.qr 32768 + h.op * 2048 + bN h.aa 1024 + bN h.tc 512 + bN h.rd 256) = bN h.qr 32768 + h.op * 2048 + bN h.aa 1024 + bN h.tc 512 + bN h.rd 256 := IntWalk.i64_in _ (by omega)
        have v5 : IntKind.i64.wrap (bN h.qr 32768 + h.op * 2048 + bN h.aa 1024 + bN h.tc 512 + bN h.rd 256 + bN h.ra 128) = bN h.qr 32768 + h.op * 2048 + bN h.aa 1024 + bN h.tc 512 + bN h.rd 256 + bN h.ra 128 := IntWalk.i64_in _ (by omega)
        have v6 : IntKind.i64.wrap (bN h.qr 32768 + h.op * 2048 + bN h.aa 1024 + bN h.tc 512 + bN h.rd 256 + bN h.ra 128 + bN h.ad 32) = bN h.qr 32768 + h.op * 2048 + bN h.aa 1024 + bN h.tc 512 + bN h.rd 256 + bN h.ra 128 + bN h.ad 32 := IntWalk.i64_in _ (by omega)
        have v7 : IntKind.i64.wrap (bN h.qr 32768 + h.op * 2048 + bN h.aa 1024 + bN h.tc 512 + bN h.rd 256 + bN h.ra 128 + bN h.ad 32 + bN h.cd 16) = bN h.qr 32768 + h.op * 2048 + bN h.aa 1024 + bN h.tc 512 + bN h.rd 256 + bN h.ra 128 + bN h.ad 32 + bN h.cd 16 := IntWalk.i64_in _ (by omega)
        have v8 : IntKind.i64.wrap (bN h.qr 32768 + h.op * 2048 + bN h.aa 1024 + bN h.tc 512 + bN h.rd 256 + bN h.ra 128 + bN h.ad 32 + bN h.cd 16 + h.rc) = bN h.qr 32768 + h.op * 2048 + bN h.aa 1024 + bN h.tc 512 + bN h.rd 256 + bN h.ra 128 + bN h.ad 32 + bN h.cd 16 + h.rc := IntWalk.i64_in _ (by omega)
        clear bd
        (try simp only [Act.put, List.setIfInBounds_toArray, List.set_cons_succ, List.set_cons_zero]); refine quietS_region (by kernel_rfl) (by kernel_rfl) S ?_
        repeat (first
          | go_big_quiet_skip
          | (go_big_quiet_want
             first
               | ((with_reducible show Oper.quiet _ (Oper.mk _ (Op.load _ (Operand.tmp 27)) _ _ _ _) _ _ _); refine q_cellS _ _ rfl _ _ rfl 1 _ _ rfl _ Try.underlying4 rfl _ (by exact hd_1 h) ?_)
               | ((with_reducible show Oper.quiet _ (Oper.mk _ (Op.load _ (Operand.tmp 30)) _ _ _ _) _ _ _); refine q_cellS _ _ rfl _ _ rfl 1 _ _ rfl _ Try.underlying3 rfl _ (by exact hd_2 h) ?_)
               | ((with_reducible show Oper.quiet _ (Oper.mk _ (Op.load _ (Operand.tmp 34)) _ _ _ _) _ _ _); refine q_cellS _ _ rfl _ _ rfl 1 _ _ rfl _ Try.underlying4 rfl _ (by exact hd_3 h) ?_)
               | ((with_reducible show Oper.quiet _ (Oper.mk _ (Op.load _ (Operand.tmp 38)) _ _ _ _) _ _ _); refine q_cellS _ _ rfl _ _ rfl 1 _ _ rfl _ Try.underlying4 rfl _ (by exact hd_4 h) ?_)
               | ((with_reducible show Oper.quiet _ (Oper.mk _ (Op.load _ (Operand.tmp 42)) _ _ _ _) _ _ _); refine q_cellS _ _ rfl _ _ rfl 1 _ _ rfl _ Try.underlying4 rfl _ (by exact hd_5 h) ?_)
               | ((with_reducible show Oper.quiet _ (Oper.mk _ (Op.load _ (Operand.tmp 46)) _ _ _ _) _ _ _); refine q_cellS _ _ rfl _ _ rfl 1 _ _ rfl _ Try.underlying4 rfl _ (by exact hd_6 h) ?_)
               | ((with_reducible show Oper.quiet _ (Oper.mk _ (Op.load _ (Operand.tmp 50)) _ _ _ _) _ _ _); refine q_cellS _ _ rfl _ _ rfl 1 _ _ rfl _ Try.underlying4 rfl _ (by exact hd_7 h) ?_)
               | ((with_reducible show Oper.quiet _ (Oper.mk _ (Op.load _ (Operand.tmp 54)) _ _ _ _) _ _ _); refine q_cellS _ _ rfl _ _ rfl 1 _ _ rfl _ Try.underlying4 rfl _ (by exact hd_8 h) ?_)
               | ((with_reducible show Oper.quiet _ (Oper.mk _ (Op.load _ (Operand.tmp 58)) _ _ _ _) _ _ _); refine q_cellS _ _ rfl _ _ rfl 1 _ _ rfl _ Try.underlying3 rfl _ (by exact hd_9 h) ?_)
               | ((with_reducible show Oper.quiet _ (Oper.mk (some 29) (Op.call { callee := Callee.value (Operand.func 20), args := _, argTypes := _ }) _ _ _ _) _ _ _); refine q_call 20 _ _ rfl (enters_of Try.func20 (by kernel_rfl) rfl) (fun w S => (((HF.out h.qr 32768 _)).mono fun e w2 h => ⟨h.1, S.call h.2⟩)) (by simp [Act.eval]) ?_)
               | ((with_reducible show Oper.quiet _ (Oper.mk (some 36) (Op.call { callee := Callee.value (Operand.func 20), args := _, argTypes := _ }) _ _ _ _) _ _ _); refine q_call 20 _ _ rfl (enters_of Try.func20 (by kernel_rfl) rfl) (fun w S => (((HF.out h.aa 1024 _)).mono fun e w2 h => ⟨h.1, S.call h.2⟩)) (by simp [Act.eval]) ?_)
               | ((with_reducible show Oper.quiet _ (Oper.mk (some 40) (Op.call { callee := Callee.value (Operand.func 20), args := _, argTypes := _ }) _ _ _ _) _ _ _); refine q_call 20 _ _ rfl (enters_of Try.func20 (by kernel_rfl) rfl) (fun w S => (((HF.out h.tc 512 _)).mono fun e w2 h => ⟨h.1, S.call h.2⟩)) (by simp [Act.eval]) ?_)
               | ((with_reducible show Oper.quiet _ (Oper.mk (some 44) (Op.call { callee := Callee.value (Operand.func 20), args := _, argTypes := _ }) _ _ _ _) _ _ _); refine q_call 20 _ _ rfl (enters_of Try.func20 (by kernel_rfl) rfl) (fun w S => (((HF.out h.rd 256 _)).mono fun e w2 h => ⟨h.1, S.call h.2⟩)) (by simp [Act.eval]) ?_)
               | ((with_reducible show Oper.quiet _ (Oper.mk (some 48) (Op.call { callee := Callee.value (Operand.func 20), args := _, argTypes := _ }) _ _ _ _) _ _ _); refine q_call 20 _ _ rfl (enters_of Try.func20 (by kernel_rfl) rfl) (fun w S => (((HF.out h.ra 128 _)).mono fun e w2 h => ⟨h.1, S.call h.2⟩)) (by simp [Act.eval]) ?_)
               | ((with_reducible show Oper.quiet _ (Oper.mk (some 52) (Op.call { callee := Callee.value (Operand.func 20), args := _, argTypes := _ }) _ _ _ _) _ _ _); refine q_call 20 _ _ rfl (enters_of Try.func20 (by kernel_rfl) rfl) (fun w S => (((HF.out h.ad 32 _)).mono fun e w2 h => ⟨h.1, S.call h.2⟩)) (by simp [Act.eval]) ?_)
               | ((with_reducible show Oper.quiet _ (Oper.mk (some 56) (Op.call { callee := Callee.value (Operand.func 20), args := _, argTypes := _ }) _ _ _ _) _ _ _); refine q_call 20 _ _ rfl (enters_of Try.func20 (by kernel_rfl) rfl) (fun w S => (((HF.out h.cd 16 _)).mono fun e w2 h => ⟨h.1, S.call h.2⟩)) (by simp [Act.eval]) ?_)
               | (refine q_pure (v := ?_) ?_ ?_; rotate_left; focus (intro w; go_simp; try with_reducible rfl))
             (simp only [Act.put, List.setIfInBounds_toArray, List.set_cons_succ, List.set_cons_zero]; go_big_quiet_on)))
        (refine wpQuiet_nil ?_; clear S; intro w1 S)
        clear v0 v1 v2 v3 v4 v5 v6 v7 v8 bqr baa btc brd bra bad bcd
        rw [show bN h.qr 32768 + h.op * 2048 + bN h.aa 1024 + bN h.tc 512 + bN h.rd 256 + bN h.ra 128 + bN h.ad 32 + bN h.cd 16 + h.rc = hdN h from rfl]
        have z0 := oc2_size h.id
        have z1 := oc2_size (hdN h)
        have hT0 := hdTB_0 h c
        have HT0 := Lib.hid hT0
        clear hT0
        go_wp2_with (first
          | ((with_reducible show wpList _ _ _ (Oper.mk _ (Op.load _ (Operand.tmp 61)) _ _ _ _ :: _) _ _); refine wpList_cellS rfl _ _ rfl S _ _ rfl 1 _ _ rfl _ Try.underlying3 rfl _ (by exact hd_0 h) ?_)
          | ((with_reducible refine (HO.out _ _).mono ?_); rintro e w2 ⟨rfl, hb⟩; have S := S.call hb; clear hb))
        rw [HT0.out]
        clear z0 z1
        go_loopw [8, 9] (fun o i wr => ∃ k : Nat, k ≤ 4 ∧ i = .int .i64 k ∧ o = .string (hdTB h c k) ∧ Ats w.heap.size w wr [(gc, 25, cnC c), (g, 24, hdC h)]) (fun _ i _ => 4 - (intOf i).toNat)
        case atStart => exact ⟨0, Nat.zero_le _, rfl, rfl, S⟩
        case round =>
          obtain ⟨k, hk, rfl, rfl, S⟩ := hrel
          by_cases hlt : k < 4
          · have hcell := cn_cell c k hlt
            have z0 := hdTB_size h c k
            have z1 := oc2_size (c k)
            have hs := hdTB_s h c k
            obtain ⟨s, hse⟩ : ∃ s, s = hdTB h c k := ⟨_, rfl⟩
            obtain ⟨v, hv⟩ : ∃ v, v = c k := ⟨_, rfl⟩
            rw [← hv] at hcell z1 hs
            rw [← hse] at z0 hs ⊢
            have HS := Lib.hid hs
            have HCE := Lib.hid hcell
            clear hcell hs hse hv
            go_wp2_with (first
              | ((with_reducible show wpList _ _ _ (Oper.mk _ (Op.load _ (Operand.tmp 73)) _ _ _ _ :: _) _ _); refine wpList_cellS rfl _ _ rfl S _ _ rfl 0 _ _ rfl _ Try.underlying3 rfl _ (by exact HCE.out) ?_)
              | ((with_reducible refine (HO.out _ _).mono ?_); rintro e w2 ⟨rfl, hb⟩; have S := S.call hb; clear hb))
            exact ⟨⟨k + 1, by omega, by go_num, by rw [HS.out], S⟩, by simp [intOf]; omega⟩
          · obtain rfl : k = 4 := by omega
            go_wp2
            go_ret2
            exact ⟨by rw [HP.out]; rfl, S.below⟩
      · have hok : hdOk h = false := by simpa using hok
        have hC2 := HC.out
        rw [hdE_no hok] at hC2
        clear HC
        have HC := Lib.hid hC2
        have hp := hdPut_head c hok
        have HP := Lib.hid hp
        clear hok hp hC2
        go_wp2_with (first
          | ((with_reducible show wpList _ _ _ (Oper.mk _ (Op.load _ (Operand.tmp 2)) _ _ _ _ :: _) _ _); refine wpList_loadS rfl _ _ rfl S _ rfl 1 _ _ rfl _ Try.underlying24 rfl hdInfo ?_)
          | ((with_reducible refine (HC.out _).mono ?_); rintro e w2 ⟨rfl, hb⟩; have S := S.call hb; clear hb))
        go_ret2
        exact ⟨by rw [HP.out]; rfl, S.below⟩
end Go.Proofs.Ytnomjjiohdinlaa
