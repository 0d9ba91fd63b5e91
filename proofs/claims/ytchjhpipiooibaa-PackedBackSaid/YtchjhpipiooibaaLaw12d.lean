/- Layer 12: the law of what is put and got. -/
import Derived.Test.YtchjhpipiooibaaLaw12c
namespace Go.Proofs.Ytchjhpipiooibaa
open Go.RowKit Go
set_option linter.unusedVariables false
set_option linter.unusedSimpArgs false
def BackR (W : World) (g n : Nat) (u9 u10 u11 u7 u8 u12 : Value) (wr : World) : Prop :=
  ∃ (k : Nat) (T : List (Lbs × Int)) (N : List Nm) (a b : List Int) (x y : List UInt8), k ≤ n ∧ u12 = .int .i64 k ∧ PTab W wr g T ∧ TOk T ∧ T.length ≤ 401 * k ∧
    wr.ownsRow W.heap.size 24 1 u9 N.length (N.map Nm.v) ∧ wr.ownsRow W.heap.size 3 1 u10 N.length (intVs .i64 a) ∧ wr.ownsRow W.heap.size 3 1 u11 N.length (intVs .i64 b) ∧ Apart u10 u11 ∧
    N.length ≤ k ∧ (∀ z ∈ N, NmOk W z ∧ checkL z.l = 0) ∧ u7 = .string ⟨x.toArray⟩ ∧ u8 = .string ⟨y.toArray⟩ ∧ x.length ≤ 20000 + 256 * k ∧ y.length ≤ 20000 + 256 * k ∧ TInv x T ∧ Got x a N ∧ Got y b N
set_option maxRecDepth 100000 in
set_option maxHeartbeats 16000000 in
theorem back_core (first : ByteArray) (A : Option Addr) (n c : Nat) (L : List Nm) (W : World) (hL : NamesAt W A n L) :
    Calls Try.prog 5 #[.string first, .slice A n c] W fun e w' => e = .returned (.bool true) ∧ Below W.heap.size W w' := by
  have HO := Lib.hid (fun w => works12_any w)
  have HFW := Lib.hid (fun w (h : Below W.heap.size W w) => few12_any A n c L w (namesAt_below hL h))
  cases hf : fewN L with
  | false =>
    rw [hf] at HFW
    clear hL hf
    go_enter Try.func5, Try.ntmps5
    go_wp2_with (first
      | ((with_reducible refine (HFW.out _ HB.out).mono ?_); rintro e w2 ⟨rfl, rfl⟩)
      | ((with_reducible refine (HO.out W).mono ?_); rintro e w2 ⟨rfl, hb⟩; have HB := Lib.hid hb; clear hb)
      | ((with_reducible refine (HO.out _).mono ?_); rintro e w3 ⟨rfl, hb⟩; have HB3 := Lib.hid hb; clear hb))
    go_ret
    exact ⟨rfl, bl HB.out HB3.out⟩
  | true =>
    rw [hf] at HFW
    obtain ⟨hn40, hsz⟩ := fewN_le hf
    by_cases hbig : (20000 : Int) < first.size
    · clear hL hf hsz hn40
      go_enter Try.func5, Try.ntmps5
      go_wp2_with (first
        | ((with_reducible refine (HFW.out _ HB.out).mono ?_); rintro e w2 ⟨rfl, rfl⟩)
        | ((with_reducible refine (HO.out W).mono ?_); rintro e w2 ⟨rfl, hb⟩; have HB := Lib.hid hb; clear hb)
        | ((with_reducible refine (HO.out _).mono ?_); rintro e w3 ⟨rfl, hb⟩; have HB3 := Lib.hid hb; clear hb))
      go_ret
      exact ⟨rfl, bl HB.out HB3.out⟩
    · have HSZ := Lib.hid hsz
      have HL := Lib.hid hL
      have hn4 : n ≤ 40 := by rw [hL.1]; exact hn40
      have HN := Lib.hid (fun w => newTab_any w)
      have hfs : first.data.toList.length = first.size := by rw [Array.length_toList]; rfl
      have HFS := Lib.hid (show first.data.toList.length ≤ 20000 by rw [hfs]; omega)
      have t20 : decide ((20000 : Int) < first.size) = false := decide_eq_false hbig
      clear hL hf hsz hn40 hfs hbig
      go_enter Try.func5, Try.ntmps5
      go_wp2_with (first
        | ((with_reducible refine (HFW.out _ HB.out).mono ?_); rintro e w2 ⟨rfl, rfl⟩)
        | ((with_reducible refine (HO.out W).mono ?_); rintro e w2 ⟨rfl, hb⟩; have HB := Lib.hid hb; clear hb)
        | ((with_reducible refine (HN.out _).mono ?_); rintro e w3 ⟨g, rfl, hg, ha, hb⟩; have HPT := Lib.hid (ptab_new HB.out hg ha hb); clear hg ha hb))
      go_loopw [9, 10, 11, 7, 8, 12] (fun u9 u10 u11 u7 u8 u12 wr => BackR W g n u9 u10 u11 u7 u8 u12 wr) (fun _ _ _ _ _ u12 _ => n - (intOf u12).toNat)
      case atStart => exact ⟨0, [], [], [], [], first.data.toList, first.data.toList, Nat.zero_le _, rfl, HPT.out, tok_nil, Nat.zero_le _, ⟨rfl, .inl ⟨rfl, rfl⟩⟩, ⟨rfl, .inl ⟨rfl, rfl⟩⟩, ⟨rfl, .inl ⟨rfl, rfl⟩⟩, .inr rfl, Nat.zero_le _, fun z hz => by simp at hz, (by cases first; simp), (by cases first; simp), HFS.out, HFS.out, fun n to h => by simp at h, got_nil _, got_nil _⟩
      case round =>
        obtain ⟨k, T, N, a, b, x, y, hk, rfl, hPT, hTok, hTl, ho9, ho10, ho11, hap, hNk, hNok, rfl, rfl, hxl, hyl, hTI, hGx, hGy⟩ := hrel
        by_cases hlt : k < n
        · obtain ⟨bb, oo, rfl, hbh, hcell⟩ := HL.out.2.1 (by omega)
          have hkl : k < L.length := by have := HL.out.1; omega
          have c1 := (hPT.bw.cell (p := ⟨bb, oo + k, none⟩) hbh).trans (hcell k hkl)
          have c0 := hcell k hkl
          have hzok := HL.out.2.2 _ (List.getElem_mem hkl)
          have hs := HSZ.out _ (List.getElem_mem hkl)
          obtain ⟨z, hz⟩ : ∃ z, z = L[k] := ⟨_, rfl⟩
          rw [← hz] at c0 c1 hzok hs
          obtain ⟨Az, nz, cz, lz⟩ := z
          change wr.cell? ⟨bb, oo + k, none⟩ = some (.slice Az nz cz) at c1
          change W.cell? ⟨bb, oo + k, none⟩ = some (.slice Az nz cz) at c0
          have CW := Lib.hid (fun w' (h : Below W.heap.size W w') => (h.cell (p := ⟨bb, oo + k, none⟩) hbh).trans c0)
          have htx : TextsAt W Az nz lz := hzok.1
          have hs : sizeL lz ≤ 401 := hs
          have HC := Lib.hid (refCheck_any Az nz cz lz wr (htx.below hPT.bw) (by omega))
          by_cases hck : checkL lz = 0
          · rw [hck] at HC
            have hsz255 := (checkL_ok.1 hck).2
            obtain ⟨xs, hxs⟩ : ∃ xs : ByteArray, xs = ⟨x.toArray⟩ := ⟨_, rfl⟩
            obtain ⟨ys, hys⟩ : ∃ ys : ByteArray, ys = ⟨y.toArray⟩ := ⟨_, rfl⟩
            have hxz : xs.size = x.length := by rw [hxs]; rfl
            have hyz : ys.size = y.length := by rw [hys]; rfl
            obtain ⟨o, ho1, hTI2, hG1, hol⟩ := putO_step hTI hck
            obtain ⟨hw1, hG2, hwl⟩ := putO_plain (x := y) hck
            have hT2len := putO_len true lz x.length T
            have hT2ok := putO_ok true lz x.length T hTok
            have he1 : (putO true lz x.length T).2.2 = 0 := by unfold putO; rw [if_pos hck]
            have he2 : (putO false lz y.length []).2.2 = 0 := by unfold putO; rw [if_pos hck]
            have hlz := size_len lz
            have hTl2 : T.length ≤ 50000 := by omega
            have hP1 := fun wr (h : PTab W wr g T) => putTab_any W wr g T h hTok hTl2 Az nz cz lz (htx.below h.bw) (fun b o h0 he => by
              have hge := h.ge
              obtain ⟨b', o', he', hlt', _⟩ := htx.2 h0
              rw [he] at he'
              injection he' with he'
              injection he' with he' _
              omega) hs x.length
            have hP3 := fun wr (h : Below W.heap.size W wr) => putNil_any Az nz cz lz wr (htx.below h) hs y.length
            rw [ho1, he1, ← hxz] at hP1
            rw [hw1, he2, ← hyz] at hP3
            obtain ⟨T2, hT2⟩ : ∃ T2, T2 = (putO true lz xs.size T).2.1 := ⟨_, rfl⟩
            rw [← hT2] at hP1
            rw [← hxz, ← hT2] at hTI2 hT2len hT2ok
            obtain ⟨s1, hs1⟩ : ∃ s1 : ByteArray, s1 = ⟨o.toArray⟩ := ⟨_, rfl⟩
            obtain ⟨s2, hs2⟩ : ∃ s2 : ByteArray, s2 = ⟨(wireB lz).toArray⟩ := ⟨_, rfl⟩
            have hz1 : s1.size = o.length := by rw [hs1]; rfl
            have hz2 : s2.size = (wireB lz).length := by rw [hs2]; rfl
            rw [← hs1] at hP1
            rw [← hs2] at hP3
            have hle : ¬ (s1.size : Int) > s2.size := by omega
            have hxb : xs.size ≤ 40000 := by omega
            have hyb : ys.size ≤ 40000 := by omega
            have hs1b : s1.size ≤ 255 := by omega
            have hs2b : s2.size ≤ 255 := by omega
            have HP1 := Lib.hid hP1
            have HP3 := Lib.hid hP3
            obtain ⟨Nl, hNl⟩ : ∃ Nl, Nl = N.length := ⟨_, rfl⟩
            have hNl40 : Nl ≤ 40 := by omega
            have L1 := Lib.hid (show (Nl + 1) * 24 ≤ 140737488355328 by omega)
            have L2 := Lib.hid (show Nl + 1 ≤ 140737488355328 by omega)
            have L3 := Lib.hid (show (Nl + 1) * 8 ≤ 140737488355328 by omega)
            rw [← hNl] at ho9 ho10 ho11
            have HPT1 := Lib.hid hPT
            have HO9 := Lib.hid ho9
            have HO10 := Lib.hid ho10
            have HO11 := Lib.hid ho11
            have HAP := Lib.hid hap
            have HEND := Lib.hid (fun (w8 : World) (v9 v10 v11 : Value) (h1 : PTab W w8 g T2) (h9 : w8.ownsRow W.heap.size 24 1 v9 (Nl + 1) (N.map Nm.v ++ [.slice Az nz cz])) (h10 : w8.ownsRow W.heap.size 3 1 v10 (Nl + 1) (intVs .i64 a ++ [.int .i64 xs.size])) (h11 : w8.ownsRow W.heap.size 3 1 v11 (Nl + 1) (intVs .i64 b ++ [.int .i64 ys.size])) (h12 : Apart v10 v11) =>
              (⟨k + 1, T2, N ++ [⟨Az, nz, cz, lz⟩], a ++ [(x.length : Int)], b ++ [(y.length : Int)], x ++ o, y ++ wireB lz, by omega, rfl, h1, hT2ok, by omega,
                by rw [List.length_append, List.length_singleton, List.map_append, ← hNl]; exact h9,
                by rw [List.length_append, List.length_singleton, intVs_app, ← hNl, ← hxz]; exact h10,
                by rw [List.length_append, List.length_singleton, intVs_app, ← hNl, ← hyz]; exact h11, h12,
                by rw [List.length_append, List.length_singleton]; omega,
                fun z hz => by
                  rcases List.mem_append.1 hz with hz | hz
                  · exact hNok z hz
                  · simp at hz; subst hz; exact ⟨hzok, hck⟩,
                by rw [hxs, hs1, ba_app], by rw [hys, hs2, ba_app], by rw [List.length_append]; omega, by rw [List.length_append]; omega, hTI2,
                hGx.step o ⟨Az, nz, cz, lz⟩ hG1, hGy.step (wireB lz) ⟨Az, nz, cz, lz⟩ hG2⟩ : BackR W g n v9 v10 v11 (.string (xs ++ s1)) (.string (ys ++ s2)) (.int .i64 ((k + 1 : Nat) : Int)) w8))
            rw [← hxs, ← hys]
            clear hP1 hP3 hcell c0 hzok hs htx hck hsz255 hxz hyz ho1 hTI2 hG1 hol hw1 hG2 hwl hT2len hT2ok he1 he2 hlz hTl2 hT2 hs1 hs2 hz1 hz2 hPT ho9 ho10 ho11 hap hNok hTI hGx hGy hTok hTl hxl hyl hxs hys hNl hkl hz hNk hbh
            go_wp2_with (first
              | ((with_reducible refine HC.out.mono ?_); rintro e w2 ⟨rfl, rfl⟩)
              | ((with_reducible refine (HP1.out _ HPT1.out).mono ?_); rintro e w3 ⟨rfl, hp3, hk3, hb3⟩; have c3 := CW.out w3 hb3; have HB3 := Lib.hid hb3; have HPT3 := Lib.hid hp3; have H9a := Lib.hid (own_over HPT1.out HO9.out hk3 (by decide)); have H10a := Lib.hid (own_over HPT1.out HO10.out hk3 (by decide)); have H11a := Lib.hid (own_over HPT1.out HO11.out hk3 (by decide)); clear hp3 hk3 hb3)
              | ((with_reducible refine (HP3.out _ HB3.out).mono ?_); rintro e w5 ⟨rfl, hb5⟩; have c5 := CW.out w5 (bl HB3.out hb5); have HPT5 := Lib.hid (HPT3.out.kept hb5); have H9b := Lib.hid (own_belowX H9a.out hb5); have H10b := Lib.hid (own_belowX H10a.out hb5); have H11b := Lib.hid (own_belowX H11a.out hb5); have HSZ5 := Lib.hid HPT5.out.bw.size; clear hb5)
              | ((with_reducible show wpList _ _ _ (Oper.mk (some 85) _ _ _ _ _ :: _) _ _); refine wpList_app1L rfl (.tmp 79) (.tmp 84) 32 24 rfl Try.underlying32 elemName rfl W.heap.size u9 Nl _ (.slice Az nz cz) rfl rfl H9b.out rfl L1.out L2.out HSZ5.out ?_; intro A9 c9 w6 hown hgr hloc; have HPT6 := Lib.hid (HPT5.out.row H9b.out hgr (by decide)); have H9c := Lib.hid hown; have H10c := Lib.hid (own_other H10b.out hgr (rows_apart H9b.out H10b.out (by decide))); have H11c := Lib.hid (own_other H11b.out hgr (rows_apart H9b.out H11b.out (by decide))); have HSZ6 := Lib.hid HPT6.out.bw.size; clear hown hgr hloc)
              | ((with_reducible show wpList _ _ _ (Oper.mk (some 90) _ _ _ _ _ :: _) _ _); refine wpList_app1L rfl (.tmp 86) (.tmp 89) 33 3 rfl Try.underlying33 elemInt12 rfl W.heap.size u10 Nl _ (.int .i64 xs.size) rfl rfl H10c.out rfl L3.out L2.out HSZ6.out ?_; intro A10 c10 w7 hown hgr hloc; have HPT7 := Lib.hid (HPT6.out.row H10c.out hgr (by decide)); have H10d := Lib.hid hown; have H9d := Lib.hid (own_other H9c.out hgr (rows_apart H10c.out H9c.out (by decide))); have H11d := Lib.hid (own_other H11c.out hgr HAP.out); have HAP7 := Lib.hid (HAP.out.grown H11c.out hloc); have HSZ7 := Lib.hid HPT7.out.bw.size; clear hown hgr hloc)
              | ((with_reducible show wpList _ _ _ (Oper.mk (some 95) _ _ _ _ _ :: _) _ _); refine wpList_app1L rfl (.tmp 91) (.tmp 94) 33 3 rfl Try.underlying33 elemInt12 rfl W.heap.size u11 Nl _ (.int .i64 ys.size) rfl rfl H11d.out rfl L3.out L2.out HSZ7.out ?_; intro A11 c11 w8 hown hgr hloc; have HPT8 := Lib.hid (HPT7.out.row H11d.out hgr (by decide)); have H11e := Lib.hid hown; have H9e := Lib.hid (own_other H9d.out hgr (rows_apart H11d.out H9d.out (by decide))); have H10e := Lib.hid (own_other H10d.out hgr HAP7.out.flip); have HAP8 := Lib.hid ((HAP7.out.flip.grown H10d.out hloc).flip); clear hown hgr hloc))
            go_roundw
            case rel => exact HEND.out _ _ _ _ HPT8.out H9e.out H10e.out H11e.out HAP8.out
            case measure => simp [intOf]; omega
          · have hb : (checkL lz != 0) = true := by simpa using hck
            obtain ⟨ck, hckv⟩ : ∃ ck, ck = checkL lz := ⟨_, rfl⟩
            rw [← hckv] at hb HC
            have HEND := Lib.hid (⟨k + 1, T, N, a, b, x, y, by omega, rfl, hPT, hTok, by omega, ho9, ho10, ho11, hap, by omega, hNok, rfl, rfl, by omega, by omega, hTI, hGx, hGy⟩ : BackR W g n _ _ _ (.string ⟨x.toArray⟩) (.string ⟨y.toArray⟩) (.int .i64 ((k + 1 : Nat) : Int)) wr)
            obtain ⟨xs, hxs⟩ : ∃ xs : ByteArray, xs = ⟨x.toArray⟩ := ⟨_, rfl⟩
            obtain ⟨ys, hys⟩ : ∃ ys : ByteArray, ys = ⟨y.toArray⟩ := ⟨_, rfl⟩
            rw [← hxs, ← hys] at HEND ⊢
            clear hckv hck hcell c0 hzok hs htx hPT ho9 ho10 ho11 hap hNok hTI hGx hGy hTok hTl hxl hyl hxs hys hkl hz hNk hbh
            go_wp2_with ((with_reducible refine HC.out.mono ?_); rintro e w2 ⟨rfl, rfl⟩)
            go_roundw
            case rel => exact HEND.out
            case measure => simp [intOf]; omega
        · have HPT := Lib.hid hPT
          obtain ⟨A9, c9, rfl⟩ := own_slice_of ho9
          obtain ⟨A10, c10, rfl⟩ := own_slice_of ho10
          obtain ⟨A11, c11, rfl⟩ := own_slice_of ho11
          obtain ⟨xs, hxs⟩ : ∃ xs : ByteArray, xs = ⟨x.toArray⟩ := ⟨_, rfl⟩
          obtain ⟨ys, hys⟩ : ∃ ys : ByteArray, ys = ⟨y.toArray⟩ := ⟨_, rfl⟩
          have hxz : xs.size = x.length := by rw [hxs]; rfl
          have hyz : ys.size = y.length := by rw [hys]; rfl
          have hxd : xs.data.toList = x := by rw [hxs]
          have hyd : ys.data.toList = y := by rw [hys]
          have hx70 : xs.size ≤ 70000 := by omega
          have hy70 : ys.size ≤ 70000 := by omega
          obtain ⟨Nl, hNl⟩ : ∃ Nl, Nl = N.length := ⟨_, rfl⟩
          have hNl40 : Nl ≤ 40 := by omega
          rw [← hNl] at ho9 ho10 ho11 ⊢
          rw [← hxs, ← hys]
          have HROUND := Lib.hid (fun (j : Nat) (hj : j < Nl) => got_round hPT.bw ho9 ho10 ho11 hNl hNok hGx hGy hxd hyd hxz hyz hx70 hy70 j hj)
          clear hPT ho9 ho10 ho11 hap hNok hTI hGx hGy hTok hTl hxl hyl hxs hys hxz hyz hxd hyd hNk hNl
          go_wp2_with fail
          go_loopw [17] (fun u17 w' => ∃ j : Nat, j ≤ Nl ∧ u17 = .int .i64 j ∧ Below wr.heap.size wr w') (fun u17 _ => Nl - (intOf u17).toNat)
          case atStart => exact ⟨0, Nat.zero_le _, rfl, Below.refl _ _⟩
          case round =>
            obtain ⟨j, hj, rfl, hb⟩ := hrel
            by_cases hjl : j < Nl
            · obtain ⟨b9, b10, b11, z, e1, e2, q1, q2, rfl, rfl, rfl, hcell, hz4, hzl4, hg1, hg2, hnext⟩ := HROUND.out j hjl
              have c9a := (hcell _ hb).1
              have c10a := (hcell _ hb).2.1
              have HCL := Lib.hid hcell
              have HB := Lib.hid hb
              have HG1 := Lib.hid hg1
              have HG2 := Lib.hid hg2
              have HE := Lib.hid (fun (A B : Option Addr) (c d : Nat) w (ha : TextsAt w A z.l.length z.l) (hb : TextsAt w B z.n z.l) => refExactX_any A B z.l.length z.n c d z.l z.l w ha hb (by omega) (by omega))
              have hE2 := HE.out
              simp only [decide_true] at hE2
              have HE2 := Lib.hid hE2
              obtain ⟨Az, nz, cz, lz⟩ := z
              rcases hnext with ⟨hn, hnx⟩ | ⟨hn, h1, h2⟩
              · have t1 : (j : Int) + 1 < Nl := by omega
                have t2 : ((j : Int) + 1 == Nl) = false := by rw [beq_eq_false_iff_ne]; omega
                have HNX := Lib.hid hnx
                clear hcell hb hg1 hg2 hE2 hnx HE
                go_wp2_with (first
                  | ((with_reducible refine (HG1.out _).mono ?_); rintro e w2 ⟨A2, k2, rfl, hta2, hb2⟩; have HT2 := Lib.hid hta2; have HB2 := Lib.hid (bl HB.out hb2); have c11b := (HCL.out w2 HB2.out).2.2.1; clear hta2 hb2)
                  | ((with_reducible refine (HG2.out _).mono ?_); rintro e w3 ⟨A3, k3, rfl, hta3, hb3⟩; have HT3 := Lib.hid hta3; have HT2b := Lib.hid (HT2.out.below hb3); have HB3 := Lib.hid (bl HB2.out hb3); have c9c := (HCL.out w3 HB3.out).1; clear hta3 hb3)
                  | ((with_reducible refine (HE2.out _ _ _ _ _ HT2b.out (HCL.out w3 HB3.out).2.2.2).mono ?_); rintro e w4 ⟨rfl, hb4⟩; have HT3b := Lib.hid (HT3.out.below hb4); have HB4 := Lib.hid (bl HB3.out hb4); have c9d := (HCL.out w4 HB4.out).1; clear hb4)
                  | ((with_reducible refine (HE2.out _ _ _ _ _ HT3b.out (HCL.out w4 HB4.out).2.2.2).mono ?_); rintro e w5 ⟨rfl, hb5⟩; have HB5 := Lib.hid (bl HB4.out hb5); have c10e := (HNX.out w5 HB5.out).1; have c11e := (HNX.out w5 HB5.out).2; clear hb5))
                go_roundw
                case rel => exact ⟨j + 1, by omega, by go_num, HB5.out⟩
                case measure => simp [intOf]; omega
              · have t1 : ¬ (j : Int) + 1 < Nl := by omega
                have t2 : ((j : Int) + 1 == Nl) = true := by rw [beq_iff_eq]; omega
                subst h1 h2
                clear hcell hb hg1 hg2 hE2 HE
                go_wp2_with (first
                  | ((with_reducible refine (HG1.out _).mono ?_); rintro e w2 ⟨A2, k2, rfl, hta2, hb2⟩; have HT2 := Lib.hid hta2; have HB2 := Lib.hid (bl HB.out hb2); have c11b := (HCL.out w2 HB2.out).2.2.1; clear hta2 hb2)
                  | ((with_reducible refine (HG2.out _).mono ?_); rintro e w3 ⟨A3, k3, rfl, hta3, hb3⟩; have HT3 := Lib.hid hta3; have HT2b := Lib.hid (HT2.out.below hb3); have HB3 := Lib.hid (bl HB2.out hb3); have c9c := (HCL.out w3 HB3.out).1; clear hta3 hb3)
                  | ((with_reducible refine (HE2.out _ _ _ _ _ HT2b.out (HCL.out w3 HB3.out).2.2.2).mono ?_); rintro e w4 ⟨rfl, hb4⟩; have HT3b := Lib.hid (HT3.out.below hb4); have HB4 := Lib.hid (bl HB3.out hb4); have c9d := (HCL.out w4 HB4.out).1; clear hb4)
                  | ((with_reducible refine (HE2.out _ _ _ _ _ HT3b.out (HCL.out w4 HB4.out).2.2.2).mono ?_); rintro e w5 ⟨rfl, hb5⟩; have HB5 := Lib.hid (bl HB4.out hb5); clear hb5))
                go_roundw
                case rel => exact ⟨j + 1, by omega, by go_num, HB5.out⟩
                case measure => simp [intOf]; omega
            · have HB := Lib.hid hb
              clear hb
              go_wp2_with fail
              go_ret
              exact ⟨rfl, bl HPT.out.bw HB.out⟩
end Go.Proofs.Ytchjhpipiooibaa
