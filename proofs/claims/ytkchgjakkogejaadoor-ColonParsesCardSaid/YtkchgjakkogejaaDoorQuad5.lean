/- Layer 7: quad.Loose. -/
import Derived.Test.YtkchgjakkogejaaDoorQuad3
import Derived.Test.YtkchgjakkogejaaDoorQuad4
namespace Go.Proofs.YtkchgjakkogejaaDoor
open Go.RowKit Go
set_option linter.unusedVariables false
theorem address_any (g c : Nat) (ns : List Nat) (w : World) (h0 : ns ≠ []) (h4 : ns.length ≤ 4) (hc : ns.length ≤ c) (hcell : ∀ (j v : Nat), ns[j]? = some v → w.cell? ⟨g, j, none⟩ = some (.int .u64 v)) (hb : ∀ v ∈ ns, v ≤ 4294967296) :
    Calls Tryd.prog 78 #[.slice (some ⟨g, 0, none⟩) ns.length c] w fun e w' => e = .returned (adTup (adR (adrE ns) 4)) ∧ Below w.heap.size w w' := by
  match ns, h0, h4, hc, hcell, hb with
  | [v], _, _, hc, hcell, hb => exact address1 g c v w (hcell 0 v rfl) hc (hb v (by simp))
  | [a, v], _, _, hc, hcell, hb => exact address2 g c a v w (hcell 0 a rfl) (hcell 1 v rfl) hc (hb a (by simp)) (hb v (by simp))
  | [a, b, v], _, _, hc, hcell, hb => exact address3 g c a b v w (hcell 0 a rfl) (hcell 1 b rfl) (hcell 2 v rfl) hc (hb a (by simp)) (hb b (by simp)) (hb v (by simp))
  | [a, b, x, v], _, _, hc, hcell, hb => exact address4 g c a b x v w (hcell 0 a rfl) (hcell 1 b rfl) (hcell 2 x rfl) (hcell 3 v rfl) hc (hb a (by simp)) (hb b (by simp)) (hb x (by simp)) (hb v (by simp))
  | [], h, _, _, _, _ => exact absurd rfl h
  | _ :: _ :: _ :: _ :: _ :: _, _, h, _, _, _ => simp at h
def arr4 : Array Value := #[.int .u64 0, .int .u64 0, .int .u64 0, .int .u64 0]
theorem arr4Zero : (Tryd.prog.info? 98).map (·.zero) = some (some (.agg arr4)) := by kernel_rfl
theorem u64Size : (Tryd.prog.info? 54).map (·.size) = some 1 := by kernel_rfl
theorem loose_bad (l p : List UInt8) (hp : p ∈ cutN l 3) (h : (numE p).2 = false) : looseE l = ⟨0, zero16, 5⟩ := by
  have : ¬ (cutN l 3).all (fun p => (numE p).2) = true := fun e => by
    have := List.all_eq_true.1 e _ hp
    rw [h] at this; simp at this
  unfold looseE
  rw [if_neg this]
  rfl
theorem loose_good (l : List UInt8) (h : (cutN l 3).all (fun p => (numE p).2) = true) : looseE l = adR (adrE ((cutN l 3).map fun p => (numE p).1)) 4 := by
  unfold looseE
  rw [if_pos h]
theorem adrE_len (ns : List Nat) (e : Int) : (adR (adrE ns) e).ip.length = 16 := by
  unfold adrE
  split <;> rfl
theorem looseE_len (l : List UInt8) : (looseE l).ip.length = 16 := by
  unfold looseE
  split
  · exact adrE_len _ _
  · rfl
theorem ad_sizes (f f' z z' : Int) (ip ip' : List UInt8) (h : ip.length = 16) (h' : ip'.length = 16) : (adCs f ip z).toArray.size = (adCs f' ip' z').toArray.size := by
  rw [List.size_toArray, List.size_toArray, adCs_len, adCs_len, h, h']
theorem slice4 (g n : Nat) (h : n ≤ 4) (w : World) : (Instr.sliceAt 98 (.pointer (some ⟨g, 0, none⟩)) none (some (.int .i64 n)) none).run Tryd.prog w = .ok (.slice (some ⟨g, 0, none⟩) n 4) w := by
  have ha : Tryd.prog.arrayLen 98 = 4 := by kernel_rfl
  have he : Tryd.prog.elem 98 = 54 := by kernel_rfl
  rw [run_sliceAt_array_h w 98 _ (by kernel_rfl) .i64 n (by omega) (by rw [ha]; omega), he, Tryd.sizeOf54]
  simp [slicedAt, ha, Result.andThen, Addr.add]
set_option maxRecDepth 100000 in
set_option maxHeartbeats 2000000 in
theorem loose_any (s : ByteArray) (w : World) (hs : s.size ≤ 4000) :
    Calls Tryd.prog 65 #[.string s] w fun e w' => e = .returned (adTup (looseE s.data.toList)) ∧ Below w.heap.size w w' := by
  have S := Ats.start w
  have hsp := fun w => splitN_any s 4 w hs (by decide) (by decide)
  have hmem := cutN_mem s.data.toList 3
  have hlen := cutN_len s.data.toList 3
  have hne := cutN_ne s.data.toList 3
  have hLB := loose_bad s.data.toList
  have hLG := loose_good s.data.toList
  rw [← Lib.size_eq] at hmem
  simp only [show 4 - 1 = 3 from rfl, Int.cast_ofNat_Int] at hsp
  obtain ⟨ps, hps⟩ : ∃ ps, ps = cutN s.data.toList 3 := ⟨_, rfl⟩
  rw [← hps] at hsp hmem hlen hne hLB hLG
  clear hps
  have HSP := Lib.hid hsp
  have HM := Lib.hid hmem
  have HLB := Lib.hid hLB
  have HLG := Lib.hid hLG
  have HNE := Lib.hid hne
  have hn1 : 1 ≤ ps.length := List.length_pos_iff.2 hne
  clear hsp hmem hLB hLG hne
  go_enter Tryd.func65, Tryd.ntmps65
  go_wp2_with (first
    | ((with_reducible refine (HSP.out _).mono ?_); rintro e w' ⟨R, hR, rfl, rfl⟩; have HR := Lib.hid hR; clear hR; have S := S.add 9 R; generalize w1.alloc (.cells R 9) = w2 at S ⊢; generalize w1.heap.size = gR at S ⊢)
    | ((with_reducible show wpList _ _ _ (Oper.mk _ (Op.alloc _) _ _ _ _ :: _) _ _); refine wpList_allocS rfl _ rfl _ adZero S ?_; clear S; intro g0 w1 S)
    | ((with_reducible show wpList _ _ _ (Oper.mk _ (Op.alloc _) _ _ _ _ :: _) _ _); refine wpList_allocS rfl _ rfl _ arr4Zero S ?_; clear S; intro gN w1 S))
  go_loopw [14] (fun i wr => ∃ (k : Nat) (C : Array Value), i = .int .i64 k ∧ k ≤ ps.length ∧ C.size = 4 ∧ (∀ (j v : Nat), ((ps.take k).map fun p => (numE p).1)[j]? = some v → C[j]? = some (.int .u64 v)) ∧ (ps.take k).all (fun p => (numE p).2) = true ∧ Ats w.heap.size w wr [(gN, 98, C), (gR, 9, R), (g0, 25, (adCs 0 zero16 0).toArray)]) (fun i _ => ps.length - (intOf i).toNat)
  case atStart => exact ⟨0, arr4, rfl, Nat.zero_le _, rfl, fun j v h => by simp at h, rfl, S⟩
  case round =>
    obtain ⟨k, C, rfl, hk, hC, hcell, hall, S⟩ := hrel
    have HC := Lib.hid hcell
    have HA := Lib.hid hall
    clear hcell hall
    by_cases hlt : k < ps.length
    · obtain ⟨p, hp⟩ : ∃ p, ps[k]? = some p := ⟨_, List.getElem?_eq_getElem hlt⟩
      have hpm : p ∈ ps := List.mem_of_getElem? hp
      have hR := HR.out k p hp
      obtain ⟨b, hb⟩ : ∃ b : ByteArray, b = ⟨p.toArray⟩ := ⟨_, rfl⟩
      have hbl : b.data.toList = p := by rw [hb]
      have hRb : R[k]? = some (.string b) := by rw [hR, hb]; rfl
      have hbs : b.size ≤ 4000 := by have := HM.out p hpm; rw [Lib.size_eq, hbl]; omega
      have hnum := fun w => number_quad b w hbs
      rw [hbl] at hnum
      obtain ⟨v, hv⟩ : ∃ v, v = (numE p).1 := ⟨_, rfl⟩
      cases ho : (numE p).2
      · have hE := HLB.out p hpm ho
        rw [← hv, ho] at hnum
        have HE := Lib.hid hE
        have HN := Lib.hid hnum
        have HRb := Lib.hid hRb
        clear hE hnum hRb hR hb hbl hp ho hv hpm
        go_wp2_with (first
          | ((with_reducible refine (HN.out _).mono ?_); rintro e w' ⟨rfl, rfl⟩)
          | ((with_reducible show wpList _ _ _ (Oper.mk _ (Op.load _ _) _ _ _ _ :: _) _ _); refine wpList_cellS rfl _ _ rfl S _ _ rfl 1 _ _ rfl _ Tryd.underlying9 rfl _ (by exact HRb.out) ?_)
          | ((with_reducible show wpList _ _ _ (Oper.mk _ (Op.store _ _ _) _ _ _ _ :: _) _ _); refine wpList_storeS rfl _ _ _ rfl S _ rfl _ rfl 2 _ _ rfl adInfo (by rfl) (by first | exact adCs_one _ _ _ | simp [Value.oneCell']) ?_; clear S; intro w1 S; (first | simp only [List.set_cons_zero] at S | simp only [List.set_cons_succ, List.set_cons_zero] at S | skip)))
        exact bodyPost_ret (results_cell2S rfl _ S _ 2 _ _ _ rfl rfl Tryd.underlying25 rfl adInfo) rfl ⟨by rw [HE.out]; rfl, S.below⟩
      · have hk4 : k < C.size := by omega
        have htake : ps.take (k + 1) = ps.take k ++ [p] := by rw [List.take_add_one, hp]; rfl
        have hall' : (ps.take (k + 1)).all (fun p => (numE p).2) = true := by rw [htake, List.all_append, HA.out]; simp [ho]
        have hcell' : ∀ (j u : Nat), ((ps.take (k + 1)).map fun p => (numE p).1)[j]? = some u → (C.setIfInBounds k (.int .u64 v))[j]? = some (.int .u64 u) := by
          intro j u hu
          have hl : ((ps.take k).map fun p => (numE p).1).length = k := by rw [List.length_map, List.length_take]; omega
          rw [htake, List.map_append] at hu
          by_cases hjk : j = k
          · subst hjk
            rw [List.getElem?_append_right (by omega), hl, Nat.sub_self] at hu
            simp only [ List.map_cons, List.getElem?_cons_zero, Option.some.injEq] at hu
            rw [← hu, ← hv, Array.getElem?_setIfInBounds_self_of_lt hk4]
          · rw [Array.getElem?_setIfInBounds_ne (Ne.symm hjk)]
            by_cases hjl : j < k
            · rw [List.getElem?_append_left (by omega)] at hu
              exact HC.out j u hu
            · rw [List.getElem?_append_right (by omega), hl] at hu
              have : ([p].map fun p => (numE p).1)[j - k]? = none := by
                apply List.getElem?_eq_none
                simp; omega
              rw [this] at hu
              cases hu
        have hC' : (C.setIfInBounds k (.int .u64 v)).size = 4 := by simpa using hC
        rw [← hv, ho] at hnum
        have HN := Lib.hid hnum
        have HRb := Lib.hid hRb
        have HC' := Lib.hid hcell'
        have HA' := Lib.hid hall'
        have HS' := Lib.hid hC'
        clear hnum hRb hR hb hbl hp ho hv hpm hcell' hall' htake hC' HC HA
        go_wp2_with (first
          | ((with_reducible refine (HN.out _).mono ?_); rintro e w' ⟨rfl, rfl⟩)
          | ((with_reducible show wpList _ _ _ (Oper.mk _ (Op.load _ _) _ _ _ _ :: _) _ _); refine wpList_cellS rfl _ _ rfl S _ _ rfl 1 _ _ rfl _ Tryd.underlying9 rfl _ (by exact HRb.out) ?_)
          | ((with_reducible show wpList _ _ _ (Oper.mk _ (Op.store _ _ _) _ _ _ _ :: _) _ _); refine wpList_putS rfl _ _ _ rfl S _ _ rfl _ rfl rfl rfl 0 _ _ rfl u64Size (by exact hk4) ?_; clear S; intro w1 S; (first | simp only [List.set_cons_zero] at S | simp only [List.set_cons_succ, List.set_cons_zero] at S | skip)))
        go_roundw
        case rel => exact ⟨k + 1, _, by go_num, by omega, HS'.out, HC'.out, HA'.out, S⟩
        case measure => simp [intOf]; omega
    · obtain rfl : k = ps.length := by omega
      rw [List.take_length] at HC HA
      have hE := HLG.out HA.out
      have hA := address_any gN 4 (ps.map fun p => (numE p).1) wr (by simpa using HNE.out) (by simpa using hlen) (by simpa using hlen) (fun j v hj => (S.get (i := 0) rfl).cells j (HC.out j v hj)) (fun v hv => by obtain ⟨q, _, rfl⟩ := List.mem_map.1 hv; exact numE_le q)
      rw [List.length_map, ← hE] at hA
      simp only [adTup] at hA
      have HL := Lib.hid (looseE_len s.data.toList)
      have HAd := Lib.hid hA
      have hsl := slice4 gN ps.length hlen
      clear hE hA
      go_wp2_with (first
        | ((with_reducible refine HAd.out.mono ?_); rintro e w2 ⟨rfl, hb⟩; have S := S.call hb; clear hb)
        | ((with_reducible show wpList _ _ _ (Oper.mk _ (Op.store _ _ _) _ _ _ _ :: _) _ _); refine wpList_storeS rfl _ _ _ rfl S _ rfl _ rfl 2 _ _ rfl (adSize _ _ _ HL.out) (by exact ad_sizes _ _ _ _ _ _ rfl HL.out) (by exact adCs_one _ _ _) ?_; clear S; intro w1 S; (first | simp only [List.set_cons_zero] at S | simp only [List.set_cons_succ, List.set_cons_zero] at S | skip)))
      exact bodyPost_ret (results_cell2S rfl _ S _ 2 _ _ _ rfl rfl Tryd.underlying25 rfl (adSize _ _ _ HL.out)) rfl ⟨rfl, S.below⟩
end Go.Proofs.YtkchgjakkogejaaDoor
