import Derived.Test.YtcdneaofgnofeaaLaw03c
namespace Go.Proofs.Ytcdneaofgnofeaa
open Go.RowKit Go
set_option linter.unusedVariables false
theorem upc_yes (c : UInt8) (h0 : 97 ≤ c.toNat) (h1 : c.toNat ≤ 122) : (upc c).toNat = c.toNat - 32 := by
  unfold upc
  rw [if_pos ⟨h0, h1⟩]
  have : (32 : UInt8) ≤ c := by rw [UInt8.le_iff_toNat_le]; show 32 ≤ c.toNat; omega
  rw [UInt8.toNat_sub_of_le _ _ this]
  rfl
theorem upc_no (c : UInt8) (h : c.toNat < 97 ∨ 122 < c.toNat) : upc c = c := by
  unfold upc
  rw [if_neg (by omega)]
def CaseInv (s : ByteArray) (b a k : Nat) (wr : World) : Prop :=
  b < wr.heap.size ∧ (∀ j (h : j < s.size), wr.cell? ⟨b, j, none⟩ = some (.int .u8 ((if a ≤ j ∧ j < k then (upc s[j]).toNat else s[j].toNat : Nat) : Int))) ∧ ∀ j, j < s.size → wr.frozen? ⟨b, j, none⟩ = false
theorem caseInv_start (s : ByteArray) (w : World) : CaseInv s w.heap.size 0 0 ((w.alloc (.cells (bytesRow s (grownCap w s.size 0 5)) 5 ((bytesRow s (grownCap w s.size 0 5)).size, (bytesRow s (grownCap w s.size 0 5)).size + 1))).drew) := by
  have hz : s.size ≤ (bytesRow s (grownCap w s.size 0 5)).size := by simp [bytesRow]
  refine ⟨by simp, fun j hj => ?_, fun j hj => ?_⟩
  · show (w.alloc _).cell? _ = _
    rw [World.cell?_alloc_mark, bytesRow_at _ _ _ (by simpa using hj), if_neg (by omega)]
    rfl
  · show (w.alloc _).frozen? _ = _
    rw [World.frozen?_alloc_mark]
    simp; omega
theorem caseInv_at {s : ByteArray} {b : Nat} {wr : World} (h : CaseInv s b 0 0 wr) (a : Nat) : CaseInv s b a a wr := by
  refine ⟨h.1, fun j hj => ?_, h.2.2⟩
  have := h.2.1 j hj
  rw [if_neg (by omega)] at this
  rw [if_neg (by omega)]
  exact this
theorem caseInv_put {s : ByteArray} {b a k : Nat} {wr : World} (h : CaseInv s b a k wr) (ha : a ≤ k) (hk : k < s.size) (v : Value) (hv : v = .int .u8 ((upc s[k]).toNat : Int)) : CaseInv s b a (k + 1) (wr.setCell ⟨b, k, none⟩ v) := by
  obtain ⟨h1, h2, h3⟩ := h
  refine ⟨by simpa using h1, fun j hj => ?_, fun j hj => ?_⟩
  · by_cases hjk : j = k
    · subst hjk
      rw [World.cell?_setCell_same _ _ _ (h2 j hj), if_pos (by omega), hv]
    · rw [World.cell?_setCell_other _ _ _ _ (fun e => by injection e with _ e2 _; exact hjk e2.symm), h2 j hj]
      by_cases hl : a ≤ j ∧ j < k
      · rw [if_pos hl, if_pos (by omega)]
      · rw [if_neg hl, if_neg (by omega)]
  · rw [World.frozen?_setCell]; exact h3 j hj
theorem caseInv_pass {s : ByteArray} {b a k : Nat} {wr : World} (h : CaseInv s b a k wr) (hk : k < s.size) (hu : upc s[k] = s[k]) : CaseInv s b a (k + 1) wr := by
  obtain ⟨h1, h2, h3⟩ := h
  refine ⟨h1, fun j hj => ?_, h3⟩
  rw [h2 j hj]
  by_cases hjk : j = k
  · subst hjk
    rw [if_neg (by omega)]
    split
    · rw [hu]
    · rfl
  · by_cases hl : a ≤ j ∧ j < k
    · rw [if_pos hl, if_pos (by omega)]
    · rw [if_neg hl, if_neg (by omega)]
def caseL (o : List UInt8) (a : Nat) : List UInt8 := o.take a ++ (o.drop a).map upc
theorem caseL_at (o : List UInt8) (a j : Nat) (ha : a ≤ o.length) (hj : j < o.length) : (caseL o a)[j]? = some (if a ≤ j then upc o[j] else o[j]) := by
  unfold caseL
  by_cases h : a ≤ j
  · rw [if_pos h, List.getElem?_append_right (by rw [List.length_take]; omega), List.getElem?_map, List.getElem?_drop, List.length_take]
    have : a + (j - min a o.length) = j := by omega
    rw [this, List.getElem?_eq_getElem hj]
    rfl
  · rw [if_neg h, List.getElem?_append_left (by rw [List.length_take]; omega), List.getElem?_take, if_pos (by omega), List.getElem?_eq_getElem hj]
theorem caseL_len (o : List UInt8) (a : Nat) : (caseL o a).length = o.length := by
  unfold caseL
  simp
  omega
theorem caseInv_end {s : ByteArray} {b a k cap : Nat} {wr : World} (h : CaseInv s b a k wr) (ha : a ≤ s.size) (hk : s.size ≤ k) : (convert 39 9 (.slice (some ⟨b, 0, none⟩) s.size cap)).run Try.prog wr = .ok (.string ⟨(caseL s.data.toList a).toArray⟩) wr := by
  have hsl : s.data.toList.length = s.size := by simp
  have := run_convert_bytes_back (P := Try.prog) wr 39 9 5 ⟨b, 0, none⟩ cap (caseL s.data.toList a) Try.underlying39 Try.underlying5 Try.underlying9 (fun j hj => by
    have hj' : j < s.size := by rw [caseL_len, hsl] at hj; exact hj
    have e := h.2.1 j hj'
    have hq := caseL_at s.data.toList a j (by omega) (by omega)
    rw [List.getElem?_eq_getElem hj] at hq
    have hq2 := Option.some.inj hq
    rw [addr_add0, e, hq2]
    by_cases haj : a ≤ j
    · rw [if_pos haj, if_pos ⟨haj, by omega⟩]; rfl
    · rw [if_neg haj, if_neg (by omega)]; rfl)
  rw [caseL_len, hsl] at this
  exact this
set_option maxRecDepth 100000 in
set_option maxHeartbeats 4000000 in
theorem case_law3 (A : Option Addr) (n ca : Nat) (l : List Int) (w : World) (hl : IntsAt w .i32 A n l) (hn : n ≤ 9223372036854775807) (hx : ∀ x ∈ l, -2147483648 ≤ x ∧ x ≤ 2147483647) :
    Calls Try.prog 7 #[.slice A n ca] w fun e w' => e = .returned (.bool true) ∧ Below w.heap.size w w' := by
  have HX := Lib.hid hx
  clear hx
  by_cases hbig : 150 < n
  · go_enter Try.func7, Try.ntmps7
    go_wp2_with fail
    ((with_reducible refine (works03_any _).mono ?_))
    rintro e w1 ⟨rfl, hb1⟩
    go_wp2_with fail
    ((with_reducible refine (works03_any _).mono ?_))
    rintro e w2 ⟨rfl, hb2⟩
    go_wp2_with fail
    go_ret
    exact ⟨rfl, hb1.trans (hb2.mono hb1.size)⟩
  have hlen := hl.1
  have HLEN := Lib.hid hlen
  rcases back_150 upc spell_up l (by omega) with he | ⟨b, F, he, hF, hsm, hol, hd, hr⟩
  · have HE := Lib.hid he
    clear he hlen
    go_enter Try.func7, Try.ntmps7
    go_wp2_with fail
    ((with_reducible refine (works03_any _).mono ?_))
    rintro e w1 ⟨rfl, hb1⟩
    have hl1 := hl.below hb1
    go_wp2_with fail
    ((with_reducible refine (encode_any w1 A n ca l hl1 hn HX.out).mono ?_))
    rintro e w2 ⟨rfl, hb2⟩
    rw [HE.out]
    go_wp2_with fail
    go_ret
    exact ⟨rfl, hb1.trans (hb2.mono hb1.size)⟩
  · have hno := figs_no45 spell_id hF
    rw [List.map_id] at hno
    obtain ⟨hy, _⟩ := hyf_hyp b F hno
    have hcl : caseL (hyp b ++ F) (hyp b).length = hyp b ++ F.map upc := by unfold caseL; rw [List.take_left, List.drop_left]
    rw [← hy] at hcl
    obtain ⟨o, ho⟩ : ∃ o, o = hyp b ++ F := ⟨_, rfl⟩
    rw [← ho] at he hol hy hcl
    rw [← hcl] at hd
    have HE := Lib.hid he
    obtain ⟨s, hs⟩ : ∃ s : ByteArray, s = ⟨o.toArray⟩ := ⟨_, rfl⟩
    have hsl : s.data.toList = o := by rw [hs]
    have hszl : s.data.toList.length = s.size := by simp
    have hsz : s.size ≤ 2000 := by rw [hsl] at hszl; omega
    rw [← hsl] at hd
    have hle := hyf_le s.data.toList
    rw [hszl] at hle
    obtain ⟨H, hH⟩ : ∃ H, H = hyf s.data.toList := ⟨_, rfl⟩
    rw [← hH] at hd hle
    have hxs : (caseL s.data.toList H).length = s.size := by rw [caseL_len, hszl]
    obtain ⟨X, hX⟩ : ∃ X : ByteArray, X = ⟨(caseL s.data.toList H).toArray⟩ := ⟨_, rfl⟩
    have hXl : X.data.toList = caseL s.data.toList H := by rw [hX]
    rw [← hXl] at hd
    have hXs : X.size ≤ 2000 := by
      have : X.data.toList.length = X.size := by simp
      rw [hXl, hxs] at this
      omega
    have HD := Lib.hid hd
    have HS := Lib.hid hs
    have HN := Lib.hid hlen
    have HH := Lib.hid hH
    have HXX := Lib.hid hX
    clear he hlen hd hF hr ho hs hsl hol hsm hno hy hcl hszl hxs hX hXl hH
    go_enter Try.func7, Try.ntmps7
    go_wp2_with fail
    ((with_reducible refine (works03_any _).mono ?_))
    rintro e w1 ⟨rfl, hb1⟩
    have hl1 := hl.below hb1
    go_wp2_with fail
    ((with_reducible refine (encode_any w1 A n ca l hl1 hn HX.out).mono ?_))
    rintro e w2 ⟨rfl, hb2⟩
    have hb2' := hb1.trans (hb2.mono hb1.size)
    have hl2 := hl1.below hb2
    rw [HE.out]
    simp only
    rw [← HS.out]
    clear hl hl1
    have kb := run_bytes_of_string (P := Try.prog) w2 9 39 5 s Try.underlying9 Try.underlying39 Try.underlying5
    have hst := caseInv_start s w2
    have hb3 : Below w2.heap.size w2 ((w2.alloc (.cells (bytesRow s (grownCap w2 s.size 0 5)) 5 ((bytesRow s (grownCap w2 s.size 0 5)).size, (bytesRow s (grownCap w2 s.size 0 5)).size + 1))).drew) := ((Below.refl _ _).alloc (Nat.le_refl _) _).drew
    have HST := Lib.hid hst
    have HB3 := Lib.hid hb3
    clear hst hb3
    go_wp2_with fail
    clear kb
    generalize ((w2.alloc (.cells (bytesRow s (grownCap w2 s.size 0 5)) 5 ((bytesRow s (grownCap w2 s.size 0 5)).size, (bytesRow s (grownCap w2 s.size 0 5)).size + 1))).drew) = W3 at HST HB3 ⊢
    have HB3' := hb2'.trans (HB3.out.mono hb2'.size)
    have hl3 := hl2.below HB3.out
    go_loop [6, 7] (fun u i => ∃ k : Nat, k ≤ s.size ∧ i = .int .i64 k ∧ u = .int .i64 (hyf (s.data.toList.take k) : Int)) (fun _ i => s.size - (intOf i).toNat)
    case atStart => exact ⟨0, by omega, rfl, rfl⟩
    case round =>
      obtain ⟨k, hk, rfl, rfl⟩ := hrel
      by_cases hlt : k < s.size
      · have hst := hyf_step s k hlt
        have HSTEP := Lib.hid hst
        have hc := HST.out.2.1 k hlt
        rw [if_neg (by omega)] at hc
        have hb8 : (s[k].toNat : Int) ≤ 255 := by have := s[k].toNat_lt; omega
        obtain ⟨Y, hY⟩ : ∃ Y, Y = hyf (s.data.toList.take k) := ⟨_, rfl⟩
        rw [← hY] at HSTEP
        rw [← hY]
        clear hst hY
        by_cases h45 : s[k].toNat = 45
        · have hq : ((s[k].toNat : Int) == 45) = true := by simp [h45]
          have HQ := Lib.hid h45
          clear h45
          go_wp2
          go_round
          case rel => exact ⟨k + 1, by omega, by go_num, by rw [HSTEP.out, if_pos HQ.out]; go_num⟩
          case measure => simp [intOf]; omega
        · have hq : ((s[k].toNat : Int) == 45) = false := by simp; omega
          have HQ := Lib.hid h45
          clear h45
          go_wp2
          go_round
          case rel => exact ⟨k + 1, by omega, by go_num, by rw [HSTEP.out, if_neg HQ.out]⟩
          case measure => simp [intOf]; omega
      · rw [show s.data.toList.take k = s.data.toList from List.take_of_length_le (by simp; omega), ← HH.out]
        go_wp2
        go_loopw [8] (fun i wr => ∃ j : Nat, H ≤ j ∧ j ≤ s.size ∧ i = .int .i64 j ∧ CaseInv s w2.heap.size H j wr ∧ Below w.heap.size w wr ∧ Below w2.heap.size w2 wr) (fun i _ => s.size - (intOf i).toNat)
        case atStart => exact ⟨H, by omega, by omega, rfl, caseInv_at HST.out H, HB3', HB3.out⟩
        case round =>
          obtain ⟨j, hHj, hj, rfl, hci, HB, HBB⟩ := hrel
          have HCI := Lib.hid hci
          clear hci
          by_cases hjl : j < s.size
          · have hc := HCI.out.2.1 j hjl
            rw [if_neg (by omega)] at hc
            have hf := HCI.out.2.2 j hjl
            have hb8 : (s[j].toNat : Int) ≤ 255 := by have := s[j].toNat_lt; omega
            by_cases hup : 97 ≤ s[j].toNat ∧ s[j].toNat ≤ 122
            · obtain ⟨u0, u1⟩ := hup
              have hput := caseInv_put HCI.out hHj hjl (.int .u8 ((s[j].toNat : Int) - 32)) (by rw [upc_yes _ u0 u1]; congr 1; omega)
              have HPUT := Lib.hid hput
              have v0 : (97 : Int) ≤ (s[j].toNat : Int) := by omega
              have v1 : (s[j].toNat : Int) ≤ 122 := by omega
              clear hput
              go_wp2
              go_roundw
              case rel => exact ⟨j + 1, by omega, by omega, by go_num, HPUT.out, HB.setCell hb2'.size _, HBB.setCell (Nat.le_refl _) _⟩
              case measure => simp [intOf]; omega
            · have hpa := caseInv_pass HCI.out hjl (upc_no _ (by omega))
              have HPA := Lib.hid hpa
              clear hpa
              by_cases v0 : 97 ≤ s[j].toNat
              all_goals
                first
                  | have v1 : (122 : Int) < (s[j].toNat : Int) := by omega
                  | have v1 : (s[j].toNat : Int) < 97 := by omega
                clear hup
                go_wp2
                go_roundw
                case rel => exact ⟨j + 1, by omega, by omega, by go_num, HPA.out, HB, HBB⟩
                case measure => simp [intOf]; omega
          · have hcv := fun cap => caseInv_end (cap := cap) HCI.out hle (by omega)
            rw [← HXX.out] at hcv
            have hl4 := hl2.below HBB
            have hdc := fun w => decodeTo_any X l n HN.out w (by omega) HD.out
            have HDC := Lib.hid hdc
            clear hdc
            go_wp2_with fail
            ((with_reducible refine (HDC.out _).mono ?_))
            rintro e w3 ⟨⟨B, d, rfl, hat3⟩, hb3⟩
            have hb3' := HB.trans (hb3.mono HB.size)
            have hl5 := hl4.below hb3
            clear hcv
            go_wp2_with fail
            ((with_reducible refine (ints_any B n d l w3 hat3 (by omega) HX.out).mono ?_))
            rintro e w4 ⟨⟨C, d4, rfl, hat4⟩, hb4⟩
            have hb4' := hb3'.trans (hb4.mono hb3'.size)
            have hl6 := hl5.below hb4
            go_wp2_with fail
            ((with_reducible refine (ints_any A n ca l w4 hl6 (by omega) HX.out).mono ?_))
            rintro e w5 ⟨⟨D, d5, rfl, hat5⟩, hb5⟩
            have hb5' := hb4'.trans (hb5.mono hb4'.size)
            have hat45 := hat4.below hb5
            go_wp2_with fail
            ((with_reducible refine (sameInts_any C D n n d4 d5 l l w5 hat45 hat5 (by omega) (by omega)).mono ?_))
            rintro e w6 ⟨rfl, hb6⟩
            rw [decide_eq_true rfl]
            go_wp2_with fail
            go_ret
            exact ⟨rfl, hb5'.trans (hb6.mono hb5'.size)⟩
theorem punyCase_law {H : Type} {enc : TypeId × Value → H} {d0 : DataW H} {p0 : List MemPlace} {base : Nat} (v0 : Value) (W : World) (o0 : Value.okWide Try.prog W .any base 22 v0)
    (k0 : DataW.Trod enc Try.prog W 0 (fun _ => true) true 22 v0 d0 p0) :
    Calls Try.prog 7 #[v0] W fun e w' => e = .returned (.bool true) ∧ Below W.heap.size W w' := by
  obtain ⟨A, n, c, rfl⟩ := Go.WideShapes.okWide_slice Try.underlying22 o0
  obtain ⟨l, hl, hc, hm, hx⟩ := open_intsAt Try.underlying22 Try.underlying21 (by kernel_rfl) k0
  unfold maxLen at hm
  exact case_law3 A n c l W hl (by omega) (fun x h => wf_i32 (hx x h))
end Go.Proofs.Ytcdneaofgnofeaa
