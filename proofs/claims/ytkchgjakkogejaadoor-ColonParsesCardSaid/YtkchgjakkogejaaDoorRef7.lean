/- Layer 7: the document's Parse. -/
import Derived.Test.YtkchgjakkogejaaDoorParts
import Derived.Test.YtkchgjakkogejaaDoorQuad7
import Derived.Test.YtkchgjakkogejaaDoorColon10
import Derived.Test.YtkchgjakkogejaaDoorColon12
namespace Go.Proofs.YtkchgjakkogejaaDoor
open Go.RowKit Go
set_option linter.unusedVariables false
set_option maxRecDepth 100000
theorem quad_parts (a b c d : UInt8) : cutX 46 (quadT a b c d) = [Lib.decDigits a.toNat, Lib.decDigits b.toNat, Lib.decDigits c.toNat, Lib.decDigits d.toNat] := by
  have ha := (dec_byte a).2.1
  have hb := (dec_byte b).2.1
  have hc := (dec_byte c).2.1
  have hd := (dec_byte d).2.1
  unfold quadT
  rw [cutX_hit 46 _ _ ha, cutX_hit 46 _ _ hb, cutX_hit 46 _ _ hc, cutX_none 46 _ hd]
theorem numR_byte (a : UInt8) : numR (Lib.decDigits a.toNat) 255 = ((a.toNat : Int), 0) := by
  have := numR_pos (a.toNat : Int) 255 (by omega)
  rw [Lib.itoa_nonneg] at this
  have h := UInt8.toNat_lt a
  rw [this, if_neg (by omega)]
theorem p7_bad1 {l p : List UInt8} {k : Nat} (hk : k < 4) (hp : (cutX 46 l)[k]? = some p) (hb : (numR p 255).2 ≠ 0) : parseE l = ⟨0, zero16, 5⟩ := by
  refine parseE_not l fun a b c d e => ?_
  rw [e, quad_parts] at hp
  match k, hk with
  | 0, _ => simp at hp; rw [← hp, numR_byte] at hb; exact hb rfl
  | 1, _ => simp at hp; rw [← hp, numR_byte] at hb; exact hb rfl
  | 2, _ => simp at hp; rw [← hp, numR_byte] at hb; exact hb rfl
  | 3, _ => simp at hp; rw [← hp, numR_byte] at hb; exact hb rfl
theorem p7_bad2 {l : List UInt8} (h : (cutX 46 l).length ≠ 4) : parseE l = ⟨0, zero16, 5⟩ := by
  refine parseE_not l fun a b c d e => ?_
  rw [e, quad_parts] at h
  exact h rfl
theorem p7_bad3 {l ip : List UInt8} (h : ∀ j p, j < 4 → (cutX 46 l)[j]? = some p → (numR p 255).1 = ((ip.getD j 0).toNat : Int)) (hq : quadI ip ≠ l) : parseE l = ⟨0, zero16, 5⟩ := by
  refine parseE_not l fun a b c d e => ?_
  rw [e, quad_parts] at h
  have h0 := h 0 _ (by decide) rfl
  have h1 := h 1 _ (by decide) rfl
  have h2 := h 2 _ (by decide) rfl
  have h3 := h 3 _ (by decide) rfl
  rw [numR_byte] at h0 h1 h2 h3
  apply hq
  unfold quadI
  rw [e]
  have e0 : ip.getD 0 0 = a := UInt8.toNat_inj.1 (by simp only at h0; omega)
  have e1 : ip.getD 1 0 = b := UInt8.toNat_inj.1 (by simp only at h1; omega)
  have e2 : ip.getD 2 0 = c := UInt8.toNat_inj.1 (by simp only at h2; omega)
  have e3 : ip.getD 3 0 = d := UInt8.toNat_inj.1 (by simp only at h3; omega)
  rw [e0, e1, e2, e3]
theorem p7_good {l ip : List UInt8} (hl : ip.length = 16) (hz : ∀ j, 4 ≤ j → ip.getD j 0 = 0) (hq : quadI ip = l) : parseE l = ⟨4, ip, 0⟩ := by
  rw [← hq]
  unfold quadI
  rw [quadT_parse]
  congr 1
  match ip, hl with
  | [a0, a1, a2, a3, a4, a5, a6, a7, a8, a9, a10, a11, a12, a13, a14, a15], _ =>
    have z4 := hz 4 (by decide)
    have z5 := hz 5 (by decide)
    have z6 := hz 6 (by decide)
    have z7 := hz 7 (by decide)
    have z8 := hz 8 (by decide)
    have z9 := hz 9 (by decide)
    have z10 := hz 10 (by decide)
    have z11 := hz 11 (by decide)
    have z12 := hz 12 (by decide)
    have z13 := hz 13 (by decide)
    have z14 := hz 14 (by decide)
    have z15 := hz 15 (by decide)
    simp only [List.getD_cons_succ, List.getD_cons_zero] at z4 z5 z6 z7 z8 z9 z10 z11 z12 z13 z14 z15
    subst z4 z5 z6 z7 z8 z9 z10 z11 z12 z13 z14 z15
    rfl
theorem ad_setByte (f z : Int) (b : List UInt8) (k : Nat) (c : UInt8) (hk : k < b.length) : (adCs f b z).toArray.setIfInBounds (1 + k) (.int .u8 c.toNat) = (adCs f (b.set k c) z).toArray := by
  rw [List.setIfInBounds_toArray]
  congr 1
  unfold adCs
  rw [Nat.add_comm, List.set_cons_succ, List.set_append_left _ _ (by simpa using hk), List.map_set]
  rfl
theorem numR_bd (p : List UInt8) (m : Int) (h : (numR p m).2 = 0) : 0 ≤ (numR p m).1 ∧ (numR p m).1 ≤ m := by
  unfold numR at h ⊢
  split at h
  · simp at h
  · split at h
    · simp at h
    · rename_i h1 h2
      rw [if_neg h1, if_neg h2]
      simp only
      omega
set_option maxHeartbeats 4000000 in
theorem refParse07_any (s : ByteArray) (w : World) (hs : s.size ≤ 4000) :
    Calls Tryd.prog 45 #[.string s] w fun e w' => e = .returned (adTup (parseE s.data.toList)) ∧ Below w.heap.size w w' := by
  have S := Ats.start w
  have hpt := fun w => refParts07_any s w hs
  have hb1 := fun k p => p7_bad1 (l := s.data.toList) (k := k) (p := p)
  have hb2 := p7_bad2 (l := s.data.toList)
  have hb3 := fun ip => p7_bad3 (l := s.data.toList) (ip := ip)
  have hgd := fun ip => p7_good (l := s.data.toList) (ip := ip)
  have hln := cutX_len 46 s.data.toList
  have hmem := fun p (h : p ∈ cutXN 46 s.data.toList s.data.toList.length) => cutXN_mem 46 s.data.toList _ p h
  rw [cutXN_all 46 s.data.toList s.data.toList.length hln] at hmem
  rw [← Lib.size_eq] at hln hmem
  obtain ⟨ps, hps⟩ : ∃ ps, ps = cutX 46 s.data.toList := ⟨_, rfl⟩
  rw [← hps] at hpt hb1 hb2 hb3 hln hmem
  obtain ⟨R, hR⟩ : ∃ R, R = parseE s.data.toList := ⟨_, rfl⟩
  rw [← hR] at hb1 hb2 ⊢
  simp only [← hR] at hb3 hgd
  have HPT := Lib.hid hpt
  have HB1 := Lib.hid hb1
  have HB2 := Lib.hid hb2
  have HB3 := Lib.hid hb3
  have HGD := Lib.hid hgd
  have HM := Lib.hid hmem
  clear hpt hb1 hb2 hb3 hgd hmem hps hR
  go_enter Tryd.func45, Tryd.ntmps45
  go_wp2_with (first | ((with_reducible show wpList _ _ _ (Oper.mk (some 2) (Op.alloc _) _ _ _ _ :: _) _ _); refine wpList_allocS rfl _ rfl _ adZero S ?_; clear S; intro gr w1 S))
  with_reducible refine (HPT.out _).mono ?_
  rintro e w2 ⟨⟨A, c, rfl, hta⟩, hb⟩
  have S0 := S.call hb
  have HTA := Lib.hid hta
  clear hb hta S
  have S := Ats.start w2
  go_wp2_with (first
    | ((with_reducible show wpList _ _ _ (Oper.mk (some 5) (Op.alloc _) _ _ _ _ :: _) _ _); refine wpList_allocS rfl _ rfl _ adZero S ?_; clear S; intro ga w1 S)
    | ((with_reducible show wpList _ _ _ (Oper.mk _ (Op.store _ (Operand.tmp 5) _) _ _ _ _ :: _) _ _); refine wpList_storeS rfl _ _ _ rfl S _ rfl _ rfl 0 _ _ rfl adInfo (by rfl) (by simp [Value.oneCell']) ?_; clear S; intro w1 S; (first | simp only [List.set_cons_zero] at S | simp only [List.set_cons_succ, List.set_cons_zero] at S | skip)))
  go_loopw [6] (fun i wr => ∃ (k : Nat) (ip : List UInt8), i = .int .i64 k ∧ k ≤ 4 ∧ k ≤ ps.length ∧ ip.length = 16 ∧ (∀ j p, j < k → ps[j]? = some p → (numR p 255).1 = ((ip.getD j 0).toNat : Int)) ∧ (∀ j, k ≤ j → ip.getD j 0 = 0) ∧ Ats w2.heap.size w2 wr [(ga, 25, (adCs 4 ip 0).toArray)]) (fun i _ => 4 - (intOf i).toNat)
  case atStart => exact ⟨0, zero16, rfl, by decide, Nat.zero_le _, rfl, fun j p h => absurd h (Nat.not_lt_zero _), fun j _ => by
    by_cases h : j < 16
    · have hall : ∀ n : Fin 16, zero16.getD n.val 0 = 0 := by decide
      exact hall ⟨j, h⟩
    · rw [List.getD_eq_getElem?_getD, List.getElem?_eq_none (by show 16 ≤ j; omega)]; rfl, S⟩
  case round =>
    obtain ⟨k, ip, rfl, hk4, hkl, hipl, hval, hzer, S⟩ := hrel
    have HV := Lib.hid hval
    have HZ := Lib.hid hzer
    have hsz := adSize 4 ip 0 hipl
    clear hval hzer
    by_cases hlt : k < ps.length ∧ k < 4
    · obtain ⟨hl1, hl2⟩ := hlt
      obtain ⟨p, hp⟩ : ∃ p, ps[k]? = some p := ⟨_, List.getElem?_eq_getElem hl1⟩
      obtain ⟨bA, oA, rfl, hbA, hcell⟩ := HTA.out.2 (by omega)
      have h1 := hcell k hl1
      rw [← S.below.cell (p := ⟨bA, oA + k, none⟩) hbA] at h1
      have hpe : ps[k] = p := (List.getElem?_eq_some_iff.1 hp).2
      rw [hpe] at h1
      unfold strV at h1
      have hpl := HM.out p (List.mem_of_getElem? hp)
      have hnum := (refNumber_any ⟨p.toArray⟩ 255 wr (by show p.length ≤ 4000; omega) (by decide) (by decide))
      rw [show (⟨p.toArray⟩ : ByteArray).data.toList = p from rfl] at hnum
      have hnum2 : Calls Tryd.prog 15 #[.string ⟨p.toArray⟩, .int .i64 255] wr fun e w' => e = .returned (.tuple #[.int .i64 (numR p 255).1, .int .i64 (numR p 255).2]) ∧ wr = w' := hnum.mono fun e w' ⟨h, h'⟩ => ⟨numP_R h, h'⟩
      have hbad := HB1.out k p hl2 hp
      have hbd := numR_bd p 255
      obtain ⟨n, hn⟩ : ∃ n, n = (numR p 255).1 := ⟨_, rfl⟩
      obtain ⟨er, her⟩ : ∃ er, er = (numR p 255).2 := ⟨_, rfl⟩
      rw [← hn, ← her] at hnum2 hbd
      rw [← her] at hbad
      have HN := Lib.hid hnum2
      have HNV := Lib.hid hn
      clear hnum hnum2 hcell hn her hpe
      by_cases he : er = 0
      · have t31 : (er != 0) = false := by simpa using he
        obtain ⟨hn0, hn1⟩ := hbd he
        obtain ⟨c8, hc8⟩ : ∃ c8 : UInt8, n = (c8.toNat : Int) := ⟨UInt8.ofNat n.toNat, by rw [UInt8.toNat_ofNat']; omega⟩
        subst hc8
        have hw8 : IntKind.u8.wrap ((c8.toNat : Nat) : Int) = c8.toNat := by
          have := UInt8.toNat_lt c8
          simp [IntKind.wrap, IntKind.bits, IntKind.signed]
          omega
        have hset := ad_setByte 4 0 ip k c8 (by omega)
        have hkc : 1 + k < (adCs 4 ip 0).toArray.size := by rw [List.size_toArray, adCs_len, hipl]; omega
        have HP := Lib.hid hp
        clear he hbad hp
        have hval2 : ∀ j q, j < k + 1 → ps[j]? = some q → (numR q 255).1 = (((ip.set k c8).getD j 0).toNat : Int) := by
          intro j q hj hq
          by_cases hjk : j = k
          · subst hjk
            rw [HP.out] at hq
            injection hq with hq
            rw [← hq, ← HNV.out, List.getD_eq_getElem?_getD, List.getElem?_set_self (by omega)]
            rfl
          · rw [List.getD_eq_getElem?_getD, List.getElem?_set_ne (Ne.symm hjk), ← List.getD_eq_getElem?_getD]
            exact HV.out j q (by omega) hq
        have hzer2 : ∀ j, k + 1 ≤ j → (ip.set k c8).getD j 0 = 0 := by
          intro j hj
          rw [List.getD_eq_getElem?_getD, List.getElem?_set_ne (by omega), ← List.getD_eq_getElem?_getD]
          exact HZ.out j (by omega)
        have HV2 := Lib.hid hval2
        have HZ2 := Lib.hid hzer2
        clear hval2 hzer2
        go_wp2_with (first
          | ((with_reducible refine HN.out.mono ?_); rintro e w3 ⟨rfl, hq⟩; subst hq)
          | (((with_reducible show wpList _ _ _ (Oper.mk _ (Op.store _ (Operand.tmp 37) _) _ _ _ _ :: _) _ _); refine wpList_putS rfl _ _ _ rfl S _ _ rfl _ rfl rfl rfl 0 _ _ rfl u8Size (by exact hkc) ?_; clear S; intro w1 S; (first | simp only [List.set_cons_zero] at S | simp only [List.set_cons_succ, List.set_cons_zero] at S | skip)); have S : Ats w2.heap.size w2 w1 [(ga, 25, (adCs 4 (ip.set k c8) 0).toArray)] := by rw [← hset]; exact S))
        go_roundw
        case rel => exact ⟨k + 1, ip.set k c8, by go_num, by omega, by omega, by rw [List.length_set]; exact hipl, HV2.out, HZ2.out, S⟩
        case measure => simp [intOf]; omega
      · have t31 : (er != 0) = true := by simpa using he
        have hb := hbad he
        have HBD := Lib.hid hb
        clear he hbad hb hp
        go_wp2_with (first
          | ((with_reducible refine HN.out.mono ?_); rintro e w3 ⟨rfl, hq⟩; subst hq; have S1 := S0.join S; clear S; have S := S1; clear S1)
          | ((with_reducible show wpList _ _ _ (Oper.mk _ (Op.store _ (Operand.tmp 2) _) _ _ _ _ :: _) _ _); refine wpList_storeS rfl _ _ _ rfl S _ rfl _ rfl 1 _ _ rfl adInfo (by rfl) (by simp [Value.oneCell']) ?_; clear S; intro w1 S; (first | simp only [List.set_cons_zero] at S | simp only [List.set_cons_succ, List.set_cons_zero] at S | skip)))
        exact bodyPost_ret (results_cell2S rfl _ S _ 1 _ _ _ rfl rfl Tryd.underlying25 rfl adInfo) rfl ⟨by rw [HBD.out]; rfl, S.below⟩
    · by_cases h4 : ps.length = 4
      · have hk : k = 4 := by omega
        have t40 : ((ps.length : Int) != 4) = false := by rw [bne_eq_false_iff_eq]; omega
        have i15 : ¬ k < 4 := by omega
        have i16 : ¬ k < ps.length := by omega
        have htx := fun w => refText_any 4 0 ip w hipl
        have hgd := HGD.out ip hipl
        have hbd := HB3.out ip
        have HTX := Lib.hid htx
        have HK := Lib.hid hk
        have H4 := Lib.hid h4
        obtain ⟨qt, hqt⟩ : ∃ qt, qt = quadI ip := ⟨_, rfl⟩
        rw [← hqt] at hgd hbd HTX
        have hs0 : s = ⟨s.data.toList.toArray⟩ := rfl
        obtain ⟨sl, hsl⟩ : ∃ sl, sl = s.data.toList := ⟨_, rfl⟩
        rw [← hsl] at hgd hbd hs0
        by_cases hq : qt = sl
        · have hR := hgd (fun j hj => HZ.out j (by omega)) hq
          have t45 : (qt == s.toList) = true := by rw [ByteArray.toList_eq, ← hsl, hq]; simp
          have HR := Lib.hid hR
          clear htx hgd hbd hk h4 hlt hqt hsl hs0 hq hR
          have S1 := S0.join S
          clear S
          have S := S1
          clear S1
          go_wp2_with (first
            | ((with_reducible refine (HTX.out _).mono ?_); rintro e w3 ⟨rfl, hb⟩; have S := S.call hb; clear hb)
            | ((with_reducible show wpList _ _ _ (Oper.mk _ (Op.load _ (Operand.tmp 5)) _ _ _ _ :: _) _ _); refine wpList_loadS rfl _ _ rfl S _ rfl 0 _ _ rfl _ Tryd.underlying25 rfl hsz ?_)
            | ((with_reducible show wpList _ _ _ (Oper.mk _ (Op.store _ (Operand.tmp 2) _) _ _ _ _ :: _) _ _); refine wpList_storeS rfl _ _ _ rfl S _ rfl _ rfl 1 _ _ rfl hsz (by exact ad_sizes _ _ _ _ _ _ rfl hipl) (by exact adCs_one _ _ _) ?_; clear S; intro w1 S; (first | simp only [List.set_cons_zero] at S | simp only [List.set_cons_succ, List.set_cons_zero] at S | skip)))
          exact bodyPost_ret (results_cell2S rfl _ S _ 1 _ _ _ rfl rfl Tryd.underlying25 rfl hsz) rfl ⟨by rw [HR.out]; rfl, S.below⟩
        · have hR := hbd (fun j p hj hp => HV.out j p (by omega) hp) hq
          have t45 : (qt == s.toList) = false := by rw [ByteArray.toList_eq, ← hsl, beq_eq_false_iff_ne]; exact hq
          have HR := Lib.hid hR
          clear htx hgd hbd hk h4 hlt hqt hsl hs0 hq hR
          have S1 := S0.join S
          clear S
          have S := S1
          clear S1
          go_wp2_with (first
            | ((with_reducible refine (HTX.out _).mono ?_); rintro e w3 ⟨rfl, hb⟩; have S := S.call hb; clear hb)
            | ((with_reducible show wpList _ _ _ (Oper.mk _ (Op.load _ (Operand.tmp 5)) _ _ _ _ :: _) _ _); refine wpList_loadS rfl _ _ rfl S _ rfl 0 _ _ rfl _ Tryd.underlying25 rfl hsz ?_)
            | ((with_reducible show wpList _ _ _ (Oper.mk _ (Op.store _ (Operand.tmp 2) _) _ _ _ _ :: _) _ _); refine wpList_storeS rfl _ _ _ rfl S _ rfl _ rfl 1 _ _ rfl adInfo (by rfl) (by simp [Value.oneCell']) ?_; clear S; intro w1 S; (first | simp only [List.set_cons_zero] at S | simp only [List.set_cons_succ, List.set_cons_zero] at S | skip)))
          exact bodyPost_ret (results_cell2S rfl _ S _ 1 _ _ _ rfl rfl Tryd.underlying25 rfl adInfo) rfl ⟨by rw [HR.out]; rfl, S.below⟩
      · have hR := HB2.out h4
        have t40 : ((ps.length : Int) != 4) = true := by rw [bne_iff_ne]; omega
        have HR := Lib.hid hR
        have HL := Lib.hid hlt
        clear h4 hR
        have S1 := S0.join S
        clear S
        have S := S1
        clear S1
        by_cases hl1 : k < ps.length
        · have i18 : ¬ k < 4 := fun h => HL.out ⟨hl1, h⟩
          clear hlt
          go_wp2_with (first | ((with_reducible show wpList _ _ _ (Oper.mk _ (Op.store _ (Operand.tmp 2) _) _ _ _ _ :: _) _ _); refine wpList_storeS rfl _ _ _ rfl S _ rfl _ rfl 1 _ _ rfl adInfo (by rfl) (by simp [Value.oneCell']) ?_; clear S; intro w1 S; (first | simp only [List.set_cons_zero] at S | simp only [List.set_cons_succ, List.set_cons_zero] at S | skip)))
          exact bodyPost_ret (results_cell2S rfl _ S _ 1 _ _ _ rfl rfl Tryd.underlying25 rfl adInfo) rfl ⟨by rw [HR.out]; rfl, S.below⟩
        · clear hlt
          go_wp2_with (first | ((with_reducible show wpList _ _ _ (Oper.mk _ (Op.store _ (Operand.tmp 2) _) _ _ _ _ :: _) _ _); refine wpList_storeS rfl _ _ _ rfl S _ rfl _ rfl 1 _ _ rfl adInfo (by rfl) (by simp [Value.oneCell']) ?_; clear S; intro w1 S; (first | simp only [List.set_cons_zero] at S | simp only [List.set_cons_succ, List.set_cons_zero] at S | skip)))
          exact bodyPost_ret (results_cell2S rfl _ S _ 1 _ _ _ rfl rfl Tryd.underlying25 rfl adInfo) rfl ⟨by rw [HR.out]; rfl, S.below⟩
end Go.Proofs.YtkchgjakkogejaaDoor
