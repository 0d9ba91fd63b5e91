/- Layer 8: the document's empty, row, hex, Mapped. -/
import Derived.Test.YtkchgjakkogejaaDoorRef8
namespace Go.Proofs.YtkchgjakkogejaaDoor
open Go.RowKit Go
set_option linter.unusedVariables false
set_option maxRecDepth 100000
theorem zsG_D (g : List Nat) (k : Nat) (h : k < g.length) : (zsG g).getD k false = (g.getD k 0 == 0) := by
  rw [zsG_at (List.getElem?_eq_getElem h), List.getD_eq_getElem?_getD, List.getElem?_eq_getElem h]
  rfl
theorem allZ_bad {z : List Bool} {a n j : Nat} (hj : j < n) (h : z.getD (a + j) false = false) : allZ z a n = false := by
  unfold allZ
  rw [List.all_eq_false]
  exact ⟨j, List.mem_range.2 hj, by rw [h]; simp⟩
theorem allZ_end {z : List Bool} {a n : Nat} (h : ∀ j, j < n → z.getD (a + j) false = true) : allZ z a n = true := by
  unfold allZ
  rw [List.all_eq_true]
  intro j hj
  exact h j (List.mem_range.1 hj)
set_option maxHeartbeats 2000000 in
theorem empty_any (f z : Int) (ip : List UInt8) (a n : Nat) (w : World) (hip : ip.length = 16) (hn : a + n ≤ 8) :
    Calls Tryd.prog 37 #[adV f ip z, .int .i64 a, .int .i64 n] w fun e w' => e = .returned (.bool (allZ (zsG (groupsG ip)) a n)) ∧ Below w.heap.size w w' := by
  have S := Ats.start w
  have hGl := groupsG_len ip
  have hgr := fun k w (h : k < 8) => refGroup_any f z ip k w hip h
  obtain ⟨G, hGG⟩ : ∃ G, G = groupsG ip := ⟨_, rfl⟩
  rw [← hGG] at hGl hgr ⊢
  have HG := Lib.hid hgr
  clear hgr hGG
  have hwr : IntKind.i64.wrap ((a : Int) + n) = a + n := IntWalk.i64_in _ (by omega)
  go_enter Tryd.func37, Tryd.ntmps37
  go_wp2_with (first
    | ((with_reducible show wpList _ _ _ (Oper.mk _ (Op.box _ _) _ _ _ _ :: _) _ _); refine wpList_boxS rfl _ _ rfl (adCs f ip z).toArray rfl S ?_; clear S; intro ga w1 S))
  go_loopw [7] (fun i wr => ∃ p : Nat, i = .int .i64 p ∧ a ≤ p ∧ p ≤ a + n ∧ (∀ j, a + j < p → (zsG G).getD (a + j) false = true) ∧ Ats w.heap.size w wr [(ga, 25, (adCs f ip z).toArray)]) (fun i _ => a + n - (intOf i).toNat)
  case atStart => exact ⟨a, rfl, Nat.le_refl _, by omega, fun j h => absurd h (by omega), S⟩
  case round =>
    obtain ⟨p, rfl, hap, hpn, hall, S⟩ := hrel
    have HA := Lib.hid hall
    clear hall
    by_cases hlt : p < a + n
    · have hc := HG.out p wr (by omega)
      have hz := zsG_D G p (by omega)
      have HC := Lib.hid hc
      clear hc
      have hc1 : decide ((p : Int) < (a : Int) + n) = true := by rw [decide_eq_true_eq]; omega
      obtain ⟨v, hv⟩ : ∃ v, v = G.getD p 0 := ⟨_, rfl⟩
      rw [← hv] at HC hz
      by_cases h0 : v = 0
      · have hd : ((v : Int) != 0) = false := by simpa using h0
        have hz1 : (zsG G).getD p false = true := by rw [hz, h0]; rfl
        have HZ := Lib.hid hz1
        clear hz hz1 hv h0
        go_wp2_with (first
          | ((with_reducible refine HC.out.mono ?_); rintro e w2 ⟨rfl, hb⟩; have S := S.call hb; clear hb)
          | ((with_reducible show wpList _ _ _ (Oper.mk _ (Op.load _ _) _ _ _ _ :: _) _ _); refine wpList_loadS rfl _ _ rfl S _ rfl 0 _ _ rfl _ Tryd.underlying25 rfl (adSize _ _ _ hip) ?_))
        go_roundw
        case rel => exact ⟨p + 1, by go_num, by omega, by omega, fun j hj => by
          by_cases e : a + j = p
          · rw [e]; exact HZ.out
          · exact HA.out j (by omega), S⟩
        case measure => simp [intOf]; omega
      · have hd : ((v : Int) != 0) = true := by simpa using h0
        have hz1 : allZ (zsG G) a n = false := allZ_bad (j := p - a) (by omega) (by rw [show a + (p - a) = p by omega, hz]; simpa using h0)
        have HZ := Lib.hid hz1
        clear hz hz1 hv h0
        go_wp2_with (first
          | ((with_reducible refine HC.out.mono ?_); rintro e w2 ⟨rfl, hb⟩; have S := S.call hb; clear hb)
          | ((with_reducible show wpList _ _ _ (Oper.mk _ (Op.load _ _) _ _ _ _ :: _) _ _); refine wpList_loadS rfl _ _ rfl S _ rfl 0 _ _ rfl _ Tryd.underlying25 rfl (adSize _ _ _ hip) ?_))
        go_ret
        exact ⟨ret_bool HZ.out.symm, S.below⟩
    · have hc1 : decide ((p : Int) < (a : Int) + n) = false := by rw [decide_eq_false_iff_not]; omega
      have HZ := Lib.hid (allZ_end (z := zsG G) (a := a) (n := n) (fun j hj => HA.out j (by omega)))
      go_wp2_with fail
      go_ret
      exact ⟨ret_bool HZ.out.symm, S.below⟩
theorem rowF_step (z : List Bool) (n : Nat) (nx : Nat × Nat) (j a : Nat) (h : a + n + j = 8) : rowF z n nx (j + 1) = if allZ z a n then (a, n) else rowF z n nx j := by
  rw [rowF, show 9 - n - (j + 1) = a by omega]
set_option maxHeartbeats 2000000 in
theorem row_any (f z : Int) (ip : List UInt8) (w : World) (hip : ip.length = 16) :
    Calls Tryd.prog 18 #[adV f ip z] w fun e w' => e = .returned (.tuple #[.int .i64 (rowE (zsG (groupsG ip))).1, .int .i64 (rowE (zsG (groupsG ip))).2]) ∧ Below w.heap.size w w' := by
  have S := Ats.start w
  have hem := fun a n w (h : a + n ≤ 8) => empty_any f z ip a n w hip h
  obtain ⟨Z, hZ⟩ : ∃ Z, Z = zsG (groupsG ip) := ⟨_, rfl⟩
  rw [← hZ] at hem ⊢
  have HM := Lib.hid hem
  clear hem hZ
  have hr8 : rowE Z = rowN Z 8 := rfl
  obtain ⟨R, hR⟩ : ∃ R, R = rowE Z := ⟨_, rfl⟩
  rw [← hR] at hr8 ⊢
  have HR := Lib.hid hr8
  clear hr8 hR
  go_enter Tryd.func18, Tryd.ntmps18
  go_wp2_with (first
    | ((with_reducible show wpList _ _ _ (Oper.mk _ (Op.box _ _) _ _ _ _ :: _) _ _); refine wpList_boxS rfl _ _ rfl (adCs f ip z).toArray rfl S ?_; clear S; intro ga w1 S))
  go_loopw [4] (fun i wr => ∃ n : Nat, i = .int .i64 n ∧ 1 ≤ n ∧ n ≤ 8 ∧ R = rowN Z n ∧ Ats w.heap.size w wr [(ga, 25, (adCs f ip z).toArray)]) (fun i _ => (intOf i).toNat)
  case atStart => exact ⟨8, rfl, by decide, Nat.le_refl _, HR.out, S⟩
  case round =>
    obtain ⟨n, rfl, hn1, hn8, hr, S⟩ := hrel
    have HN := Lib.hid hr
    clear hr HR
    by_cases hlt : 2 ≤ n
    · have hr2 : R = rowF Z n (rowN Z (n - 1)) (9 - n) := by
        rw [HN.out]
        obtain ⟨m, rfl⟩ : ∃ m, n = m + 1 := ⟨n - 1, by omega⟩
        rw [rowN, if_neg (by omega)]
        rfl
      have HN2 := Lib.hid hr2
      clear hr2 HN
      have hc1 : decide ((2 : Int) ≤ n) = true := by rw [decide_eq_true_eq]; omega
      go_wp2_with fail
      go_loopw [5] (fun i wr => ∃ a : Nat, i = .int .i64 a ∧ a + n ≤ 9 ∧ R = rowF Z n (rowN Z (n - 1)) (9 - n - a) ∧ Ats w.heap.size w wr [(ga, 25, (adCs f ip z).toArray)]) (fun i _ => 9 - (intOf i).toNat)
      case atStart => exact ⟨0, rfl, by omega, HN2.out, S⟩
      case round =>
        obtain ⟨a, rfl, ha, hr, S⟩ := hrel
        have HA := Lib.hid hr
        clear hr HN2
        have hwr : IntKind.i64.wrap ((a : Int) + n) = a + n := IntWalk.i64_in _ (by omega)
        by_cases hal : a + n ≤ 8
        · have hc2 : decide ((a : Int) + n ≤ 8) = true := by rw [decide_eq_true_eq]; omega
          have hst := rowF_step Z n (rowN Z (n - 1)) (9 - n - (a + 1)) a (by omega)
          rw [show 9 - n - (a + 1) + 1 = 9 - n - a by omega, ← HA.out] at hst
          have hcm := HM.out a n wr hal
          obtain ⟨b, hb⟩ : ∃ b, b = allZ Z a n := ⟨_, rfl⟩
          rw [← hb] at hst hcm
          have HC := Lib.hid hcm
          clear hb hcm HA
          cases b with
          | true =>
            rw [if_pos rfl] at hst
            have HS := Lib.hid hst
            clear hst
            go_wp2_with (first
              | ((with_reducible refine HC.out.mono ?_); rintro e w2 ⟨rfl, hb⟩; have S := S.call hb; clear hb)
              | ((with_reducible show wpList _ _ _ (Oper.mk _ (Op.load _ _) _ _ _ _ :: _) _ _); refine wpList_loadS rfl _ _ rfl S _ rfl 0 _ _ rfl _ Tryd.underlying25 rfl (adSize _ _ _ hip) ?_))
            go_ret2
            exact ⟨by rw [HS.out]; rfl, S.below⟩
          | false =>
            rw [if_neg (by simp)] at hst
            have HS := Lib.hid hst
            clear hst
            go_wp2_with (first
              | ((with_reducible refine HC.out.mono ?_); rintro e w2 ⟨rfl, hb⟩; have S := S.call hb; clear hb)
              | ((with_reducible show wpList _ _ _ (Oper.mk _ (Op.load _ _) _ _ _ _ :: _) _ _); refine wpList_loadS rfl _ _ rfl S _ rfl 0 _ _ rfl _ Tryd.underlying25 rfl (adSize _ _ _ hip) ?_))
            go_roundw
            case rel => exact ⟨a + 1, by go_num, by omega, HS.out, S⟩
            case measure => simp [intOf]; omega
        · have hc2 : decide ((a : Int) + n ≤ 8) = false := by rw [decide_eq_false_iff_not]; omega
          have hst : R = rowN Z (n - 1) := by rw [HA.out, show 9 - n - a = 0 by omega]; rfl
          have HS := Lib.hid hst
          clear hst HA
          go_wp2_with fail
          go_roundw
          case rel => exact ⟨n - 1, by go_num, by omega, by omega, HS.out, S⟩
          case measure => simp [intOf]; omega
    · have hc1 : decide ((2 : Int) ≤ n) = false := by rw [decide_eq_false_iff_not]; omega
      have hst : R = (8, 0) := by
        rw [HN.out]
        obtain rfl : n = 1 := by omega
        rfl
      have HS := Lib.hid hst
      clear hst HN
      go_wp2_with fail
      go_ret2
      exact ⟨by rw [HS.out]; rfl, S.below⟩
theorem hex_piece : ∀ d : Fin 16, (⟨#[48, 49, 50, 51, 52, 53, 54, 55, 56, 57, 97, 98, 99, 100, 101, 102]⟩ : ByteArray).extract d.val (d.val + 1) = ⟨#[hexC d.val]⟩ := by decide +kernel
theorem hexp_app (m : Nat) (S : List UInt8) : (⟨#[48, 49, 50, 51, 52, 53, 54, 55, 56, 57, 97, 98, 99, 100, 101, 102]⟩ : ByteArray).extract (m % 16) (m % 16 + 1) ++ ⟨S.toArray⟩ = ⟨(hexC (m % 16) :: S).toArray⟩ := by
  have := hex_piece ⟨m % 16, by omega⟩
  simp only at this
  rw [this, ByteArray.mk_append_mk]
  simp
theorem hex0 : hexL 0 = [48] := by rw [hexL_lo (by decide)]; rfl
set_option maxHeartbeats 2000000 in
theorem refHexN_any (n : Nat) (w : World) (hn : n < 65536) :
    Calls Tryd.prog 19 #[.int .i64 n] w fun e w' => e = .returned (.string ⟨(hexL n).toArray⟩) ∧ w = w' := by
  by_cases h0 : n = 0
  · subst h0
    rw [hex0]
    go_enter Tryd.func19, Tryd.ntmps19
    go_wp2
    go_loop [3, 0] (fun s v => s = .string ⟨#[]⟩ ∧ v = .int .i64 0) (fun _ _ => 0)
    case atStart => exact ⟨rfl, rfl⟩
    case round =>
      obtain ⟨rfl, rfl⟩ := hrel
      go_wp2
      go_ret
      exact ⟨rfl, rfl⟩
  · have hl4 := hexL_len4 hn
    have hne := (hexL_all n).2.2.1
    have HL := Lib.hid hl4
    have HNE := Lib.hid hne
    clear hl4 hne
    go_enter Tryd.func19, Tryd.ntmps19
    go_wp2
    go_loop [3, 0] (fun s v => ∃ (m : Nat) (T : List UInt8), s = .string ⟨T.toArray⟩ ∧ v = .int .i64 m ∧ m < 65536 ∧ hexL n = (if m = 0 then [] else hexL m) ++ T) (fun _ v => (intOf v).toNat)
    case atStart => exact ⟨n, [], rfl, rfl, hn, by rw [if_neg h0]; simp⟩
    case round =>
      obtain ⟨m, T, rfl, rfl, hm, hx⟩ := hrel
      have hT : T.length ≤ 4 := by
        have := HL.out
        rw [hx, List.length_append] at this
        omega
      have HX := Lib.hid hx
      clear hx
      by_cases hm0 : m = 0
      · subst hm0
        have hfin : hexL n = T := by rw [HX.out]; rfl
        have hte : (T.isEmpty) = false := by
          have := HNE.out
          rw [hfin] at this
          simpa using this
        have HF := Lib.hid hfin
        clear hfin
        go_wp2
        go_ret
        exact ⟨ret_str (by rw [HF.out]), rfl⟩
      · have hp := hexp_app m T
        have hst : hexL n = (if m / 16 = 0 then [] else hexL (m / 16)) ++ (hexC (m % 16) :: T) := by
          rw [HX.out, if_neg hm0]
          by_cases h16 : m < 16
          · rw [hexL_lo h16, if_pos (by omega), show m % 16 = m by omega]; rfl
          · rw [hexL_hi h16, if_neg (by omega)]; simp
        have HP := Lib.hid hp
        have HS := Lib.hid hst
        clear hp hst
        have hm1 : 0 < m := by omega
        clear hm0
        go_wp2
        go_round
        case rel => exact ⟨m / 16, _, ret_s HP.out, by go_num, by omega, HS.out⟩
        case measure => simp [intOf]; omega
end Go.Proofs.YtkchgjakkogejaaDoor
