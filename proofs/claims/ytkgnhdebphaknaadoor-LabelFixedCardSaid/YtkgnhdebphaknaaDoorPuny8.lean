import Derived.Test.YtkgnhdebphaknaaDoorPuny7
namespace Go.Proofs.YtkgnhdebphaknaaDoor
open Go.RowKit Go
set_option linter.unusedVariables false
theorem over_yes {n : Int} (h : 4294967295 < n) : overB n = true := by unfold overB; simp [h]
theorem over_no {n : Int} (h : ¬ 4294967295 < n) : overB n = false := by unfold overB; simp; omega
theorem overY_any (n : Int) (w : World) (h : 4294967295 < n) : Calls Tryd.prog 31 #[.int .i64 n] w fun e w' => e = .returned (.bool true) ∧ w = w' := by
  have := over_any n w; rw [over_yes h] at this; exact this
theorem overN_any (n : Int) (w : World) (h : ¬ 4294967295 < n) : Calls Tryd.prog 31 #[.int .i64 n] w fun e w' => e = .returned (.bool false) ∧ w = w' := by
  have := over_any n w; rw [over_no h] at this; exact this
theorem own_bcs1 {w : World} (c : Int) (h0 : 0 ≤ c) (h1 : c < 256) : (convert 33 9 (.slice (some ⟨w.heap.size, 0, none⟩) 1 1)).run Tryd.prog (w.alloc (.cells #[.int .u8 c] 5)) = .ok (.string ⟨#[UInt8.ofNat c.toNat]⟩) (w.alloc (.cells #[.int .u8 c] 5)) := by
  refine run_convert_bytes_back (P := Tryd.prog) _ 33 9 5 ⟨w.heap.size, 0, none⟩ 1 [UInt8.ofNat c.toNat] Tryd.underlying33 Tryd.underlying5 Tryd.underlying9 (fun j hj => ?_)
  have hj0 : j = 0 := by simp at hj; omega
  subst hj0
  rw [addr_add0, World.cell?_alloc_mark]
  simp
  omega
theorem adaptE_any (d n a b : Int) (w : World) (d0 : 0 ≤ d) (d1 : d ≤ 8589934592) (n0 : 1 ≤ n) (n1 : n ≤ 1000000) :
    Calls Tryd.prog 33 #[.int .i64 d, .int .i64 n, .bool (a == b)] w fun e w' => e = .returned (.int .i64 (adp d n (decide (a = b)))) ∧ w = w' := by
  have h := adapt_any d n (a == b) w d0 d1 n0 n1
  have hb : (a == b) = decide (a = b) := by by_cases h : a = b <;> simp [h]
  rw [hb] at h ⊢
  exact h
set_option maxRecDepth 100000 in
set_option maxHeartbeats 4000000 in
theorem refEncode_any (w : World) (A : Option Addr) (N ca : Nat) (l : List Int) (hl : IntsAt w .i64 A N l) (hN : N ≤ 9223372036854775807) (hx : ∀ x ∈ l, -2147483648 ≤ x ∧ x ≤ 2147483647) :
    Calls Tryd.prog 20 #[.slice A N ca] w fun e w' => e = .returned (.tuple #[.string ⟨(encE l).1.toArray⟩, .int .i64 (encE l).2]) ∧ Below w.heap.size w w' := by
  have HLEN := Lib.hid hl.1
  have HL := Lib.hid hl
  have HX := Lib.hid hx
  by_cases hbig : 4096 < N
  · have he := encE_long (l := l) (by have := HLEN.out; omega)
    have HE := Lib.hid he
    clear he hl hx
    go_enter Tryd.func20, Tryd.ntmps20
    go_wp2
    go_ret2
    exact ⟨ret_encE HE.out, Below.refl _ _⟩
  clear hl hx
  go_enter Tryd.func20, Tryd.ntmps20
  go_wp2
  go_loopw [4, 5] (fun v i wr => ∃ k : Nat, k ≤ N ∧ i = .int .i64 k ∧ v = .string ⟨(basL (l.take k)).toArray⟩ ∧ Below w.heap.size w wr ∧ (basL (l.take k)).length ≤ k ∧ Hid (∀ x ∈ l.take k, 0 ≤ x ∧ x ≤ 1114111)) (fun _ i _ => N - (intOf i).toNat)
  case atStart => exact ⟨0, Nat.zero_le _, rfl, rfl, Below.refl _ _, by simp [basL], Lib.hid (by simp)⟩
  case round =>
    obtain ⟨k, hk, rfl, rfl, HB, hbl, hall⟩ := hrel
    by_cases hlt : k < N
    · obtain ⟨b, o, rfl, hb, hcell⟩ := HL.out.2 (by omega)
      have hkl : k < l.length := by have := HLEN.out; omega
      have h1 := hcell k hkl
      rw [← HB.cell (p := ⟨b, o + k, none⟩) hb] at h1
      have hxk := HX.out l[k] (List.getElem_mem _)
      have htk := List.take_succ_eq_append_getElem hkl
      have hoff := fun h => encE_off (l := l) (by have := HLEN.out; omega) (offB_at hkl h)
      obtain ⟨x, hxe⟩ : ∃ x, x = l[k] := ⟨_, rfl⟩
      rw [← hxe] at h1 hxk htk
      simp only [← hxe] at hoff
      have HT := Lib.hid htk
      have HO := Lib.hid hoff
      have hwz := HB.size
      obtain ⟨P, hP⟩ : ∃ P, P = basL (l.take k) := ⟨_, rfl⟩
      rw [← hP] at hbl
      rw [← hP]
      clear htk hxe hcell hoff
      obtain ⟨x0, x1⟩ := hxk
      by_cases hlo : x < 0
      · have he := HO.out (.inl hlo)
        have HE := Lib.hid he
        clear he hP
        go_wp2
        go_ret2
        exact ⟨ret_encE HE.out, HB⟩
      · by_cases hhi : 1114111 < x
        · have he := HO.out (.inr hhi)
          have HE := Lib.hid he
          have hlo2 : 0 ≤ x := by omega
          clear he hP
          go_wp2
          go_ret2
          exact ⟨ret_encE HE.out, HB⟩
        · have hlo2 : 0 ≤ x := by omega
          have hhi2 : x ≤ 1114111 := by omega
          have hall2 : ∀ y ∈ l.take (k + 1), 0 ≤ y ∧ y ≤ 1114111 := by
            rw [HT.out]
            intro y hy
            rcases List.mem_append.1 hy with hy | hy
            · exact hall.out y hy
            · obtain rfl := List.mem_singleton.1 hy
              omega
          have HALL := Lib.hid hall2
          clear hall2
          by_cases hba : x < 128
          · have hby := basL_yes (l.take k) hba
            rw [← HT.out, ← hP] at hby
            have HBY := Lib.hid hby
            have hcv := own_bcs1 (w := wr) x hlo2 (by omega)
            clear hby hP
            go_wp2
            go_roundw
            case rel => exact ⟨k + 1, by omega, by go_num, by rw [HBY.out, ba_app], HB.alloc hwz _, by rw [HBY.out]; simp; omega, HALL⟩
            case measure => simp [intOf]; omega
          · have hby := basL_no (l.take k) hba
            rw [← HT.out, ← hP] at hby
            have HBY := Lib.hid hby
            have hba2 : 128 ≤ x := by omega
            clear hby hP
            go_wp2
            go_roundw
            case rel => exact ⟨k + 1, by omega, by go_num, by rw [HBY.out], HB, by rw [HBY.out]; omega, HALL⟩
            case measure => simp [intOf]; omega
    · obtain rfl : k = N := by omega
      rw [List.take_of_length_le (by have := HLEN.out; omega)] at hall hbl
      rw [List.take_of_length_le (by have := HLEN.out; omega)]
      have hr : ∀ x ∈ l, 0 ≤ x ∧ x ≤ 1114111 := hall.out
      have hoff := offB_no hr
      have hst := eInv_start (l := l) (by have := HLEN.out; omega)
      have hO : encO l = encL l ((basL l).length : Int) (l.length + 1) 128 (hyp (basL l), 0, 72, (basL l).length) := rfl
      obtain ⟨z, hz⟩ : ∃ z, z = (basL l).length := ⟨_, rfl⟩
      obtain ⟨p, hp⟩ : ∃ p, p = hyp (basL l) := ⟨_, rfl⟩
      obtain ⟨q, hq⟩ : ∃ q, q = basL l := ⟨_, rfl⟩
      have hlq : z = q.length := by rw [hz, hq]
      have hpq : p = hyp q := by rw [hp, hq]
      rw [← hz, ← hp] at hst hO
      rw [← hq]
      rw [← hz] at hbl
      have hwz := HB.size
      have HR := Lib.hid hr
      have HOFF := Lib.hid hoff
      have HST := Lib.hid hst
      have HO := Lib.hid hO
      clear hall hr hoff hst hO hz hp hq
      by_cases h0 : z = 0
      · have hb0 : q = [] := List.length_eq_zero_iff.1 (by omega)
        subst hb0
        have hp2 : p = [] := by rw [hpq]; rfl
        subst hp2
        subst h0
        clear hlq hpq
        go_wp2
        go_loop [4, 6, 7, 8, 9] (fun u4 u6 u7 u8 u9 => ∃ (f : Nat) (n : Int) (st : St), u4 = .string ⟨st.1.toArray⟩ ∧ u6 = .int .i64 n ∧ u7 = .int .i64 st.2.1 ∧ u8 = .int .i64 st.2.2.1 ∧ u9 = .int .i64 st.2.2.2 ∧ Hid (EInv l n st) ∧ Hid (encO l = encL l 0 f n st) ∧ Hid ((l.length : Int) - st.2.2.2 < f)) (fun _ _ _ _ u9 => k - (intOf u9).toNat)
        case atStart => exact ⟨l.length + 1, 128, ([], 0, 72, 0), rfl, rfl, rfl, rfl, rfl, HST, HO, Lib.hid (by simp only; omega)⟩
        case round =>
          obtain ⟨f, n, ⟨o, s, b, d⟩, rfl, rfl, rfl, rfl, rfl, hI, hO, hf⟩ := hrel
          simp only at hI hO hf
          have hi := hI.out
          have hcl := cnt_le l n
          have hdc : d = cnt l n := hi.d
          have hd0 : 0 ≤ d := by omega
          have hd1 : d ≤ k := by have := HLEN.out; omega
          have s0 : 0 ≤ s := hi.s0
          have s1 : s ≤ 4294967296 := hi.s1
          have b0 : 0 ≤ b := hi.b0
          have b1 : b ≤ 1099511627776 := hi.b1
          have n0 : 128 ≤ n := hi.n0
          have n1 : n ≤ 1114112 := hi.n1
          have ho : (o.length : Int) ≤ 5000 + 40 * d := hi.o
          clear hi hcl hdc
          by_cases hlt : d < (k : Int)
          · have hdl : d < l.length := by have := HLEN.out; omega
            have hls := eInv_lst hI.out HR.out hdl
            have HLS := Lib.hid hls
            have hm1 := HR.out _ hls.1
            have hm2 := hls.2.1
            have HDL := Lib.hid hdl
            obtain ⟨bb, oo, rfl, hbb, hcell⟩ := HL.out.2 (by omega)
            have HC := Lib.hid hcell
            have hff := lst_is (l := l) (n := n) (m := 1114112) (by omega) (fun c hc => (HR.out c hc).2) (cnt_ex (by rw [← hI.out.d]; exact hdl))
            have hM := isLst_uniq hls hff
            have HM := Lib.hid hM
            clear hls hdl hcell hff hM
            obtain ⟨m, hmm⟩ : ∃ m, m = leastI l n := ⟨_, rfl⟩
            rw [← hmm] at HM hm1 hm2
            have HMM := Lib.hid hmm
            clear hmm
            obtain ⟨hm0, hm1⟩ := hm1
            have hu1 : 0 ≤ (m - n) * (d + 1) := Int.mul_nonneg (by omega) (by omega)
            have hu2 : (m - n) * (d + 1) ≤ 1114111 * 4097 := Int.mul_le_mul (by omega) (by omega) (by omega) (by omega)
            go_wp2
            go_loop [11, 12] (fun v i => ∃ (j : Nat) (a : Int), j ≤ k ∧ i = .int .i64 j ∧ v = .int .i64 a ∧ 0 ≤ a ∧ a ≤ 1114112 ∧ Hid (a = (l.take j).foldl (lstF n) 1114112)) (fun _ i => k - (intOf i).toNat)
            case atStart => exact ⟨0, 1114112, Nat.zero_le _, rfl, rfl, by omega, by omega, Lib.hid rfl⟩
            case round =>
              obtain ⟨j, a, hj, rfl, rfl, a0, a1, ha⟩ := hrel
              by_cases hjl : j < k
              · have hkl : j < l.length := by have := HLEN.out; omega
                have h1 := HC.out j hkl
                rw [← HB.cell (p := ⟨bb, oo + j, none⟩) hbb] at h1
                have hxk := HR.out l[j] (List.getElem_mem _)
                have htk := List.take_succ_eq_append_getElem hkl
                obtain ⟨x, hxe⟩ : ∃ x, x = l[j] := ⟨_, rfl⟩
                rw [← hxe] at h1 hxk htk
                have HT := Lib.hid htk
                clear htk hxe
                obtain ⟨x0, x1⟩ := hxk
                by_cases hn : n ≤ x ∧ x < a
                · obtain ⟨hn1, hn2⟩ := hn
                  go_wp2
                  go_round
                  case rel => exact ⟨j + 1, x, by omega, by go_num, rfl, by omega, by omega, Lib.hid (by rw [HT.out, List.foldl_append, ← ha.out]; simp only [List.foldl_cons, List.foldl_nil, lstF]; rw [if_pos hn1]; omega)⟩
                  case measure => simp [intOf]; omega
                · by_cases hn1 : n ≤ x
                  all_goals
                    first
                      | have hn2 : a ≤ x := by omega
                      | have hn2 : x < n := by omega
                    clear hn
                    go_wp2
                    go_round
                    case rel => exact ⟨j + 1, a, by omega, by go_num, rfl, by omega, by omega, Lib.hid (by rw [HT.out, List.foldl_append, ← ha.out]; simp only [List.foldl_cons, List.foldl_nil, lstF]; split <;> omega)⟩
                    case measure => simp [intOf]; omega
              · rw [List.take_of_length_le (by have := HLEN.out; omega)] at ha
                obtain rfl : m = a := HM.out.trans ha.out.symm
                have hMM : m = leastI l n := HMM.out
                obtain ⟨S, hS⟩ : ∃ S, S = s + (m - n) * (d + 1) := ⟨_, rfl⟩
                have hS0 : 0 ≤ S := by omega
                have HS := Lib.hid hS
                have hne : l ≠ [] := by intro h0; have := HLEN.out; rw [h0] at this; simp at this; omega
                have HNE := Lib.hid hne
                clear hMM hne ha
                have e1 : IntKind.i64.wrap (m - n) = m - n := IntWalk.i64_in _ (by omega)
                have e3 : IntKind.i64.wrap (d + 1) = d + 1 := IntWalk.i64_in _ (by omega)
                have e4 : IntKind.i64.wrap ((m - n) * (d + 1)) = (m - n) * (d + 1) := IntWalk.i64_in _ (by omega)
                have hs2 : s + (m - n) * (d + 1) = S := by omega
                clear hS
                by_cases hov : 4294967295 < S
                · have hK := fun w => overY_any S w hov
                  have HK := Lib.hid hK
                  have hn := rnd_over m 0 l (o, S, b, d) hov HNE.out
                  rw [HS.out, HMM.out] at hn
                  have he := encE_over (l := l) (by have := HLEN.out; omega) HOFF.out (enc_no hO.out hf.out HDL.out hn)
                  have HE := Lib.hid he
                  clear hK hn he
                  go_wp2_with fail
                  ((with_reducible refine (HK.out _).mono ?_))
                  rintro e w' ⟨rfl, rfl⟩
                  go_wp2
                  go_ret2
                  exact ⟨ret_encE HE.out, HB⟩
                · have hK := fun w => overN_any S w hov
                  have HK := Lib.hid hK
                  have HRN : Hid (rnd m 0 l (o, S, b, d) = rnd m 0 (l.drop 0) (o, S, b, d)) := Lib.hid rfl
                  have hS1 : S ≤ 4294967295 := by omega
                  clear hK
                  go_wp2_with fail
                  ((with_reducible refine (HK.out _).mono ?_))
                  rintro e w' ⟨rfl, rfl⟩
                  clear e1 e3 e4 hs2 hu1 hu2
                  go_wp2
                  go_loop [4, 7, 8, 9, 13] (fun u4 u7 u8 u9 i => ∃ (j : Nat) (st : St), i = .int .i64 j ∧ j ≤ k ∧ u4 = .string ⟨st.1.toArray⟩ ∧ u7 = .int .i64 st.2.1 ∧ u8 = .int .i64 st.2.2.1 ∧ u9 = .int .i64 st.2.2.2 ∧ Hid (rnd m 0 l (o, S, b, d) = rnd m 0 (l.drop j) st) ∧ 0 ≤ st.2.1 ∧ st.2.1 ≤ 4294967295 ∧ 0 ≤ st.2.2.1 ∧ st.2.2.1 ≤ 1099511627776 ∧ 0 ≤ st.2.2.2 ∧ st.2.2.2 ≤ d + j ∧ (st.1.length : Int) ≤ 5000 + 40 * st.2.2.2) (fun _ _ _ _ i => k - (intOf i).toNat)
                  case atStart => exact ⟨0, (o, S, b, d), rfl, by omega, rfl, rfl, rfl, rfl, HRN, hS0, hS1, b0, b1, hd0, by simp, ho⟩
                  case round =>
                    obtain ⟨j, ⟨p, x, y, z⟩, rfl, hj, rfl, rfl, rfl, rfl, hr, x0, x1, y0, y1, zz0, zz1, hp⟩ := hrel
                    simp only at x0 x1 y0 y1 zz0 zz1 hp hr
                    by_cases hjl : j < k
                    · have hkl : j < l.length := by have := HLEN.out; omega
                      have h1 := HC.out j hkl
                      rw [← HB.cell (p := ⟨bb, oo + j, none⟩) hbb] at h1
                      have hdr := List.drop_eq_getElem_cons hkl
                      have hxk := HR.out l[j] (List.getElem_mem _)
                      obtain ⟨c, hc⟩ : ∃ c, c = l[j] := ⟨_, rfl⟩
                      rw [← hc] at h1 hdr hxk
                      have hr2 := hr.out
                      rw [hdr] at hr2
                      have HRR := Lib.hid hr2
                      obtain ⟨q0, q1⟩ := hxk
                      clear hc hdr hr2 hr
                      by_cases hcm : c < m
                      · have hup : upS m c x = x + 1 := by unfold upS; rw [if_pos hcm]
                        by_cases hov2 : 4294967295 < x + 1
                        · have hn := HRR.out.trans (rnd_ov (by simp only; rw [hup]; exact hov2))
                          rw [HS.out, HMM.out] at hn
                          have he := encE_over (l := l) (by have := HLEN.out; omega) HOFF.out (enc_no hO.out hf.out HDL.out hn)
                          have HE := Lib.hid he
                          have hK := fun w => overY_any (x + 1) w hov2
                          have HK := Lib.hid hK
                          clear hn hup he hK
                          go_wp2_with fail
                          ((with_reducible refine (HK.out _).mono ?_))
                          rintro e w' ⟨rfl, rfl⟩
                          go_wp2
                          go_ret2
                          exact ⟨ret_encE HE.out, HB⟩
                        · have hn := HRR.out.trans (rnd_pass (by simp only; rw [hup]; exact hov2) (by omega))
                          simp only [hup] at hn
                          have HN := Lib.hid hn
                          have hcm2 : (c == m) = false := by simp; omega
                          have hK := fun w => overN_any (x + 1) w hov2
                          have HK := Lib.hid hK
                          clear hn hup hK
                          go_wp2_with fail
                          ((with_reducible refine (HK.out _).mono ?_))
                          rintro e w' ⟨rfl, rfl⟩
                          go_wp2
                          go_round
                          case rel => exact ⟨j + 1, (p, x + 1, y, z), by go_num, by omega, rfl, rfl, rfl, rfl, HN, by simp only; omega, by simp only; omega, y0, y1, zz0, by simp only; omega, hp⟩
                          case measure => simp [intOf]; omega
                      · have hup : upS m c x = x := by unfold upS; rw [if_neg hcm]
                        have hcm' : m ≤ c := by omega
                        have hov2 : ¬ 4294967295 < x := by omega
                        have hK := fun w => overN_any x w hov2
                        have HK := Lib.hid hK
                        clear hK
                        by_cases hce : c = m
                        · have hn := HRR.out.trans (rnd_put (by simp only; rw [hup]; exact hov2) hce)
                          simp only [hup] at hn
                          have HN := Lib.hid hn
                          have hce2 : (c == m) = true := by simp [hce]
                          have hfl := figs_len10 (k := 1) (b := y) x0 x1
                          have had := adp_bd x (z + 1) (decide (z = 0)) x0 (by omega) (by omega)
                          have hc1 := fun w => figures_any x y w x0 (by omega) y0 y1
                          have hc2 := fun w => adaptE_any x (z + 1) z 0 w x0 (by omega) (by omega) (by omega)
                          obtain ⟨G, hG⟩ : ∃ G, G = figs x 1 y := ⟨_, rfl⟩
                          obtain ⟨D, hD⟩ : ∃ D, D = adp x (z + 1) (decide (z = 0)) := ⟨_, rfl⟩
                          rw [← hG] at hfl HN
                          rw [← hD] at had HN
                          simp only [← hG] at hc1
                          simp only [← hD] at hc2
                          have HC1 := Lib.hid hc1
                          have HC2 := Lib.hid hc2
                          clear hn hup hce hc1 hc2 hG hD
                          go_wp2_with fail
                          ((with_reducible refine (HK.out _).mono ?_))
                          rintro e w' ⟨rfl, rfl⟩
                          go_wp2_with fail
                          ((with_reducible refine (HC1.out _).mono ?_))
                          rintro e w' ⟨rfl, rfl⟩
                          go_wp2_with fail
                          ((with_reducible refine (HC2.out _).mono ?_))
                          rintro e w' ⟨rfl, rfl⟩
                          go_wp2
                          go_round
                          case rel => exact ⟨j + 1, (p ++ G, 0, D, z + 1), by go_num, by omega, by rw [ba_app2], rfl, rfl, rfl, HN, by simp only; omega, by simp only; omega, had.1, had.2, by simp only; omega, by simp only; omega, by simp; omega⟩
                          case measure => simp [intOf]; omega
                        · have hn := HRR.out.trans (rnd_pass (by simp only; rw [hup]; exact hov2) hce)
                          simp only [hup] at hn
                          have HN := Lib.hid hn
                          have hce2 : (c == m) = false := by simpa using hce
                          clear hn hup
                          go_wp2_with fail
                          ((with_reducible refine (HK.out _).mono ?_))
                          rintro e w' ⟨rfl, rfl⟩
                          go_wp2
                          go_round
                          case rel => exact ⟨j + 1, (p, x, y, z), by go_num, by omega, rfl, rfl, rfl, rfl, HN, x0, x1, y0, y1, zz0, by simp only; omega, hp⟩
                          case measure => simp [intOf]; omega
                    · have hn := hr.out
                      rw [List.drop_eq_nil_of_le (by have := HLEN.out; omega)] at hn
                      rw [HS.out, HMM.out] at hn
                      have hst := eInv_step hI.out HR.out HDL.out hn x0 x1 y0 y1 hp
                      obtain ⟨f', hO2, hf2⟩ := enc_go hO.out hf.out HDL.out hn hst.2
                      rw [← HMM.out] at hst hO2
                      have HI2 := Lib.hid hst.1
                      have HO2 := Lib.hid hO2
                      have HF2 := Lib.hid hf2
                      have hdd : d < z := hst.2
                      clear hst hn hO2 hf2 hr
                      go_wp2
                      go_round
                      case rel => exact ⟨f', m + 1, (p, x + 1, y, z), rfl, rfl, rfl, rfl, rfl, HI2, HO2, HF2⟩
                      case measure => simp [intOf]; omega
          · have he := encE_ok (l := l) (by have := HLEN.out; omega) HOFF.out (enc_end hO.out hf.out (by have := HLEN.out; simp only; omega) (by have := HLEN.out; simp only; omega))
            have HE := Lib.hid he
            clear he
            go_wp2
            go_ret2
            exact ⟨ret_encE HE.out, HB⟩
      · have hp2 : p = q ++ [45] := by rw [hpq]; unfold hyp; rw [if_neg (by omega)]
        subst hp2
        have hz0 : 0 < z := by omega
        have hql : q.length ≤ 4096 := by omega
        have hzq : ((q.length : Nat) : Int) = (z : Int) := by omega
        clear h0 hpq
        subst hlq
        clear hzq
        go_wp2
        go_loop [4, 6, 7, 8, 9] (fun u4 u6 u7 u8 u9 => ∃ (f : Nat) (n : Int) (st : St), u4 = .string ⟨st.1.toArray⟩ ∧ u6 = .int .i64 n ∧ u7 = .int .i64 st.2.1 ∧ u8 = .int .i64 st.2.2.1 ∧ u9 = .int .i64 st.2.2.2 ∧ Hid (EInv l n st) ∧ Hid (encO l = encL l (q.length : Int) f n st) ∧ Hid ((l.length : Int) - st.2.2.2 < f)) (fun _ _ _ _ u9 => k - (intOf u9).toNat)
        case atStart => exact ⟨l.length + 1, 128, ((q ++ [45]), 0, 72, (q.length : Int)), by rw [← ba_app], rfl, rfl, rfl, rfl, HST, HO, Lib.hid (by simp only; omega)⟩
        case round =>
          obtain ⟨f, n, ⟨o, s, b, d⟩, rfl, rfl, rfl, rfl, rfl, hI, hO, hf⟩ := hrel
          simp only at hI hO hf
          have hi := hI.out
          have hcl := cnt_le l n
          have hdc : d = cnt l n := hi.d
          have hd0 : 0 ≤ d := by omega
          have hd1 : d ≤ k := by have := HLEN.out; omega
          have s0 : 0 ≤ s := hi.s0
          have s1 : s ≤ 4294967296 := hi.s1
          have b0 : 0 ≤ b := hi.b0
          have b1 : b ≤ 1099511627776 := hi.b1
          have n0 : 128 ≤ n := hi.n0
          have n1 : n ≤ 1114112 := hi.n1
          have ho : (o.length : Int) ≤ 5000 + 40 * d := hi.o
          clear hi hcl hdc
          by_cases hlt : d < (k : Int)
          · have hdl : d < l.length := by have := HLEN.out; omega
            have hls := eInv_lst hI.out HR.out hdl
            have HLS := Lib.hid hls
            have hm1 := HR.out _ hls.1
            have hm2 := hls.2.1
            have HDL := Lib.hid hdl
            obtain ⟨bb, oo, rfl, hbb, hcell⟩ := HL.out.2 (by omega)
            have HC := Lib.hid hcell
            have hff := lst_is (l := l) (n := n) (m := 1114112) (by omega) (fun c hc => (HR.out c hc).2) (cnt_ex (by rw [← hI.out.d]; exact hdl))
            have hM := isLst_uniq hls hff
            have HM := Lib.hid hM
            clear hls hdl hcell hff hM
            obtain ⟨m, hmm⟩ : ∃ m, m = leastI l n := ⟨_, rfl⟩
            rw [← hmm] at HM hm1 hm2
            have HMM := Lib.hid hmm
            clear hmm
            obtain ⟨hm0, hm1⟩ := hm1
            have hu1 : 0 ≤ (m - n) * (d + 1) := Int.mul_nonneg (by omega) (by omega)
            have hu2 : (m - n) * (d + 1) ≤ 1114111 * 4097 := Int.mul_le_mul (by omega) (by omega) (by omega) (by omega)
            go_wp2
            go_loop [11, 12] (fun v i => ∃ (j : Nat) (a : Int), j ≤ k ∧ i = .int .i64 j ∧ v = .int .i64 a ∧ 0 ≤ a ∧ a ≤ 1114112 ∧ Hid (a = (l.take j).foldl (lstF n) 1114112)) (fun _ i => k - (intOf i).toNat)
            case atStart => exact ⟨0, 1114112, Nat.zero_le _, rfl, rfl, by omega, by omega, Lib.hid rfl⟩
            case round =>
              obtain ⟨j, a, hj, rfl, rfl, a0, a1, ha⟩ := hrel
              by_cases hjl : j < k
              · have hkl : j < l.length := by have := HLEN.out; omega
                have h1 := HC.out j hkl
                rw [← HB.cell (p := ⟨bb, oo + j, none⟩) hbb] at h1
                have hxk := HR.out l[j] (List.getElem_mem _)
                have htk := List.take_succ_eq_append_getElem hkl
                obtain ⟨x, hxe⟩ : ∃ x, x = l[j] := ⟨_, rfl⟩
                rw [← hxe] at h1 hxk htk
                have HT := Lib.hid htk
                clear htk hxe
                obtain ⟨x0, x1⟩ := hxk
                by_cases hn : n ≤ x ∧ x < a
                · obtain ⟨hn1, hn2⟩ := hn
                  go_wp2
                  go_round
                  case rel => exact ⟨j + 1, x, by omega, by go_num, rfl, by omega, by omega, Lib.hid (by rw [HT.out, List.foldl_append, ← ha.out]; simp only [List.foldl_cons, List.foldl_nil, lstF]; rw [if_pos hn1]; omega)⟩
                  case measure => simp [intOf]; omega
                · by_cases hn1 : n ≤ x
                  all_goals
                    first
                      | have hn2 : a ≤ x := by omega
                      | have hn2 : x < n := by omega
                    clear hn
                    go_wp2
                    go_round
                    case rel => exact ⟨j + 1, a, by omega, by go_num, rfl, by omega, by omega, Lib.hid (by rw [HT.out, List.foldl_append, ← ha.out]; simp only [List.foldl_cons, List.foldl_nil, lstF]; split <;> omega)⟩
                    case measure => simp [intOf]; omega
              · rw [List.take_of_length_le (by have := HLEN.out; omega)] at ha
                obtain rfl : m = a := HM.out.trans ha.out.symm
                have hMM : m = leastI l n := HMM.out
                obtain ⟨S, hS⟩ : ∃ S, S = s + (m - n) * (d + 1) := ⟨_, rfl⟩
                have hS0 : 0 ≤ S := by omega
                have HS := Lib.hid hS
                have hne : l ≠ [] := by intro h0; have := HLEN.out; rw [h0] at this; simp at this; omega
                have HNE := Lib.hid hne
                clear hMM hne ha
                have e1 : IntKind.i64.wrap (m - n) = m - n := IntWalk.i64_in _ (by omega)
                have e3 : IntKind.i64.wrap (d + 1) = d + 1 := IntWalk.i64_in _ (by omega)
                have e4 : IntKind.i64.wrap ((m - n) * (d + 1)) = (m - n) * (d + 1) := IntWalk.i64_in _ (by omega)
                have hs2 : s + (m - n) * (d + 1) = S := by omega
                clear hS
                by_cases hov : 4294967295 < S
                · have hK := fun w => overY_any S w hov
                  have HK := Lib.hid hK
                  have hn := rnd_over m (q.length : Int) l (o, S, b, d) hov HNE.out
                  rw [HS.out, HMM.out] at hn
                  have he := encE_over (l := l) (by have := HLEN.out; omega) HOFF.out (enc_no hO.out hf.out HDL.out hn)
                  have HE := Lib.hid he
                  clear hK hn he
                  go_wp2_with fail
                  ((with_reducible refine (HK.out _).mono ?_))
                  rintro e w' ⟨rfl, rfl⟩
                  go_wp2
                  go_ret2
                  exact ⟨ret_encE HE.out, HB⟩
                · have hK := fun w => overN_any S w hov
                  have HK := Lib.hid hK
                  have HRN : Hid (rnd m (q.length : Int) l (o, S, b, d) = rnd m (q.length : Int) (l.drop 0) (o, S, b, d)) := Lib.hid rfl
                  have hS1 : S ≤ 4294967295 := by omega
                  clear hK
                  go_wp2_with fail
                  ((with_reducible refine (HK.out _).mono ?_))
                  rintro e w' ⟨rfl, rfl⟩
                  clear e1 e3 e4 hs2 hu1 hu2
                  go_wp2
                  go_loop [4, 7, 8, 9, 13] (fun u4 u7 u8 u9 i => ∃ (j : Nat) (st : St), i = .int .i64 j ∧ j ≤ k ∧ u4 = .string ⟨st.1.toArray⟩ ∧ u7 = .int .i64 st.2.1 ∧ u8 = .int .i64 st.2.2.1 ∧ u9 = .int .i64 st.2.2.2 ∧ Hid (rnd m (q.length : Int) l (o, S, b, d) = rnd m (q.length : Int) (l.drop j) st) ∧ 0 ≤ st.2.1 ∧ st.2.1 ≤ 4294967295 ∧ 0 ≤ st.2.2.1 ∧ st.2.2.1 ≤ 1099511627776 ∧ 0 ≤ st.2.2.2 ∧ st.2.2.2 ≤ d + j ∧ (st.1.length : Int) ≤ 5000 + 40 * st.2.2.2) (fun _ _ _ _ i => k - (intOf i).toNat)
                  case atStart => exact ⟨0, (o, S, b, d), rfl, by omega, rfl, rfl, rfl, rfl, HRN, hS0, hS1, b0, b1, hd0, by simp, ho⟩
                  case round =>
                    obtain ⟨j, ⟨p, x, y, z⟩, rfl, hj, rfl, rfl, rfl, rfl, hr, x0, x1, y0, y1, zz0, zz1, hp⟩ := hrel
                    simp only at x0 x1 y0 y1 zz0 zz1 hp hr
                    by_cases hjl : j < k
                    · have hkl : j < l.length := by have := HLEN.out; omega
                      have h1 := HC.out j hkl
                      rw [← HB.cell (p := ⟨bb, oo + j, none⟩) hbb] at h1
                      have hdr := List.drop_eq_getElem_cons hkl
                      have hxk := HR.out l[j] (List.getElem_mem _)
                      obtain ⟨c, hc⟩ : ∃ c, c = l[j] := ⟨_, rfl⟩
                      rw [← hc] at h1 hdr hxk
                      have hr2 := hr.out
                      rw [hdr] at hr2
                      have HRR := Lib.hid hr2
                      obtain ⟨q0, q1⟩ := hxk
                      clear hc hdr hr2 hr
                      by_cases hcm : c < m
                      · have hup : upS m c x = x + 1 := by unfold upS; rw [if_pos hcm]
                        by_cases hov2 : 4294967295 < x + 1
                        · have hn := HRR.out.trans (rnd_ov (by simp only; rw [hup]; exact hov2))
                          rw [HS.out, HMM.out] at hn
                          have he := encE_over (l := l) (by have := HLEN.out; omega) HOFF.out (enc_no hO.out hf.out HDL.out hn)
                          have HE := Lib.hid he
                          have hK := fun w => overY_any (x + 1) w hov2
                          have HK := Lib.hid hK
                          clear hn hup he hK
                          go_wp2_with fail
                          ((with_reducible refine (HK.out _).mono ?_))
                          rintro e w' ⟨rfl, rfl⟩
                          go_wp2
                          go_ret2
                          exact ⟨ret_encE HE.out, HB⟩
                        · have hn := HRR.out.trans (rnd_pass (by simp only; rw [hup]; exact hov2) (by omega))
                          simp only [hup] at hn
                          have HN := Lib.hid hn
                          have hcm2 : (c == m) = false := by simp; omega
                          have hK := fun w => overN_any (x + 1) w hov2
                          have HK := Lib.hid hK
                          clear hn hup hK
                          go_wp2_with fail
                          ((with_reducible refine (HK.out _).mono ?_))
                          rintro e w' ⟨rfl, rfl⟩
                          go_wp2
                          go_round
                          case rel => exact ⟨j + 1, (p, x + 1, y, z), by go_num, by omega, rfl, rfl, rfl, rfl, HN, by simp only; omega, by simp only; omega, y0, y1, zz0, by simp only; omega, hp⟩
                          case measure => simp [intOf]; omega
                      · have hup : upS m c x = x := by unfold upS; rw [if_neg hcm]
                        have hcm' : m ≤ c := by omega
                        have hov2 : ¬ 4294967295 < x := by omega
                        have hK := fun w => overN_any x w hov2
                        have HK := Lib.hid hK
                        clear hK
                        by_cases hce : c = m
                        · have hn := HRR.out.trans (rnd_put (by simp only; rw [hup]; exact hov2) hce)
                          simp only [hup] at hn
                          have HN := Lib.hid hn
                          have hce2 : (c == m) = true := by simp [hce]
                          have hfl := figs_len10 (k := 1) (b := y) x0 x1
                          have had := adp_bd x (z + 1) (decide (z = (q.length : Int))) x0 (by omega) (by omega)
                          have hc1 := fun w => figures_any x y w x0 (by omega) y0 y1
                          have hc2 := fun w => adaptE_any x (z + 1) z (q.length : Int) w x0 (by omega) (by omega) (by omega)
                          obtain ⟨G, hG⟩ : ∃ G, G = figs x 1 y := ⟨_, rfl⟩
                          obtain ⟨D, hD⟩ : ∃ D, D = adp x (z + 1) (decide (z = (q.length : Int))) := ⟨_, rfl⟩
                          rw [← hG] at hfl HN
                          rw [← hD] at had HN
                          simp only [← hG] at hc1
                          simp only [← hD] at hc2
                          have HC1 := Lib.hid hc1
                          have HC2 := Lib.hid hc2
                          clear hn hup hce hc1 hc2 hG hD
                          go_wp2_with fail
                          ((with_reducible refine (HK.out _).mono ?_))
                          rintro e w' ⟨rfl, rfl⟩
                          go_wp2_with fail
                          ((with_reducible refine (HC1.out _).mono ?_))
                          rintro e w' ⟨rfl, rfl⟩
                          go_wp2_with fail
                          ((with_reducible refine (HC2.out _).mono ?_))
                          rintro e w' ⟨rfl, rfl⟩
                          go_wp2
                          go_round
                          case rel => exact ⟨j + 1, (p ++ G, 0, D, z + 1), by go_num, by omega, by rw [ba_app2], rfl, rfl, rfl, HN, by simp only; omega, by simp only; omega, had.1, had.2, by simp only; omega, by simp only; omega, by simp; omega⟩
                          case measure => simp [intOf]; omega
                        · have hn := HRR.out.trans (rnd_pass (by simp only; rw [hup]; exact hov2) hce)
                          simp only [hup] at hn
                          have HN := Lib.hid hn
                          have hce2 : (c == m) = false := by simpa using hce
                          clear hn hup
                          go_wp2_with fail
                          ((with_reducible refine (HK.out _).mono ?_))
                          rintro e w' ⟨rfl, rfl⟩
                          go_wp2
                          go_round
                          case rel => exact ⟨j + 1, (p, x, y, z), by go_num, by omega, rfl, rfl, rfl, rfl, HN, x0, x1, y0, y1, zz0, by simp only; omega, hp⟩
                          case measure => simp [intOf]; omega
                    · have hn := hr.out
                      rw [List.drop_eq_nil_of_le (by have := HLEN.out; omega)] at hn
                      rw [HS.out, HMM.out] at hn
                      have hst := eInv_step hI.out HR.out HDL.out hn x0 x1 y0 y1 hp
                      obtain ⟨f', hO2, hf2⟩ := enc_go hO.out hf.out HDL.out hn hst.2
                      rw [← HMM.out] at hst hO2
                      have HI2 := Lib.hid hst.1
                      have HO2 := Lib.hid hO2
                      have HF2 := Lib.hid hf2
                      have hdd : d < z := hst.2
                      clear hst hn hO2 hf2 hr
                      go_wp2
                      go_round
                      case rel => exact ⟨f', m + 1, (p, x + 1, y, z), rfl, rfl, rfl, rfl, rfl, HI2, HO2, HF2⟩
                      case measure => simp [intOf]; omega
          · have he := encE_ok (l := l) (by have := HLEN.out; omega) HOFF.out (enc_end hO.out hf.out (by have := HLEN.out; simp only; omega) (by have := HLEN.out; simp only; omega))
            have HE := Lib.hid he
            clear he
            go_wp2
            go_ret2
            exact ⟨ret_encE HE.out, HB⟩
end Go.Proofs.YtkgnhdebphaknaaDoor
