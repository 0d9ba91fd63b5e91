import Derived.Test.YtcdneaofgnofeaaLaw03d
import Derived.Test.YtcdneaofgnofeaaMath07
import Derived.Deep.OwnRows
import Derived.Laws.OwnMore
namespace Go.Proofs.Ytcdneaofgnofeaa
open Go.RowKit Go
set_option linter.unusedVariables false
def fillC (m k : Nat) (p : Int) : Array Value := (List.replicate k (Value.int .i32 p) ++ List.replicate (m - k) (Value.int .i32 0)).toArray
theorem fillC_start (m : Nat) (p : Int) : madeCells #[Value.int .i32 0] m = fillC m 0 p := by
  apply Array.toList_inj.1
  rw [toList_madeCells_one]
  simp [fillC]
theorem fillC_at {m k : Nat} (p : Int) (h : k < m) : (fillC m k p)[k]? = some (.int .i32 0) := by
  unfold fillC
  rw [List.getElem?_toArray, List.getElem?_append_right (by simp), List.length_replicate, Nat.sub_self]
  obtain ⟨j, hj⟩ : ∃ j, m - k = j + 1 := ⟨m - k - 1, by omega⟩
  rw [hj]
  rfl
theorem fillC_put {m k : Nat} (p : Int) (h : k < m) : (fillC m k p).setIfInBounds k (.int .i32 p) = fillC m (k + 1) p := by
  unfold fillC
  obtain ⟨j, hj⟩ : ∃ j, m - k = j + 1 := ⟨m - k - 1, by omega⟩
  rw [hj, show m - (k + 1) = j by omega, List.replicate_succ, List.setIfInBounds_toArray]
  congr 1
  rw [List.set_append_right _ _ (by simp), List.length_replicate, Nat.sub_self, List.set_cons_zero, List.replicate_succ', List.append_assoc]
  rfl
theorem fillC_end {w : World} {g m : Nat} {p : Int} (h : At w g 21 (fillC m m p)) : IntsAt w .i32 (some ⟨g, 0, none⟩) m (List.replicate m p) := by
  refine ⟨by simp, fun h0 => ⟨g, 0, rfl, h.lt, fun j hj => ?_⟩⟩
  rw [List.length_replicate] at hj
  rw [Nat.zero_add, h.cell]
  simp [fillC, hj]
theorem rep_at {m j : Nat} {p : Int} (h : j < (List.replicate m p).length) : (List.replicate m p)[j] = p := by simp
set_option maxRecDepth 100000 in
set_option maxHeartbeats 4000000 in
theorem long_core (n c : Int) (bs : Bool) (m : Nat) (p : Int) (w : World) (n0 : 0 ≤ n) (n1 : n ≤ 255) (c0 : 0 ≤ c) (c1 : c ≤ 65535) (hm : 4090 + n % 10 = (m : Int)) (hp : p = if bs then 97 else 128 + c % 50000) :
    Calls Try.prog 6 #[.int .u8 n, .int .u16 c, .bool bs] w fun e w' => e = .returned (.bool true) ∧ Below w.heap.size w w' := by
  have hm0 : 4090 ≤ m := by omega
  have hm1 : m ≤ 4099 := by omega
  have hmk := fun W => run_make_row' (P := Try.prog) 22 21 (.int .i32 0) 4 Try.underlying22 elemI32 rfl .i64 .i64 m (by omega) (by omega) W
  have hx : ∀ x ∈ List.replicate m p, -2147483648 ≤ x ∧ x ≤ 2147483647 := fun x h => by
    rw [mem_rep h, hp]
    split <;> omega
  have hst : madeCells #[Value.int .i32 0] m = fillC m 0 p := fillC_start m p
  have HX := Lib.hid hx
  have HST := Lib.hid hst
  have HM := Lib.hid hm
  have hlb := fun (h : m ≤ 4096) => long_back m p (by omega) h (by rw [hp]; cases bs <;> simp <;> omega)
  have HLB := Lib.hid hlb
  have hlg := fun (h : 4096 < m) => encE_long (l := List.replicate m p) (by rw [List.length_replicate]; exact h)
  have HLG := Lib.hid hlg
  have hp2 : 0 ≤ p ∧ p ≤ 1114111 := by rw [hp]; split <;> omega
  obtain ⟨p0, p1⟩ := hp2
  have q0 := Int.emod_nonneg n (show (10 : Int) ≠ 0 by omega)
  have q1 := Int.emod_nonneg c (show (50000 : Int) ≠ 0 by omega)
  clear hx hst hlb hlg
  cases bs
  · simp only [if_false, Bool.false_eq_true] at hp
    have hp3 : 128 + c % 50000 = p := hp.symm
    clear hp
    go_enter Try.func6, Try.ntmps6
    go_wp2_with fail
    ((with_reducible refine (works03_any _).mono ?_))
    rintro e w1 ⟨rfl, hb1⟩
    have hat0 : At (w1.alloc (.cells (madeCells #[Value.int .i32 0] m) 21)) w1.heap.size 21 (fillC m 0 p) := by rw [HST.out]; exact At.new _ _ _
    have hb0 := hb1.alloc hb1.size (.cells (madeCells #[Value.int .i32 0] m) 21)
    have HAT0 := Lib.hid hat0
    have HB0 := Lib.hid hb0
    have HG := Lib.hid hb1.size
    clear hat0 hb0
    go_wp2_with fail
    clear hmk
    go_loopw [10] (fun i wr => ∃ k : Nat, k ≤ m ∧ i = .int .i64 k ∧ At wr w1.heap.size 21 (fillC m k p) ∧ Below w.heap.size w wr) (fun i _ => m - (intOf i).toNat)
    case atStart => exact ⟨0, by omega, rfl, HAT0.out, HB0.out⟩
    case round =>
      obtain ⟨k, hk, rfl, hat, HB⟩ := hrel
      have HAT := Lib.hid hat
      by_cases hlt : k < m
      · have hc := hat.cells k (fillC_at p hlt)
        have hz := hat.ice k
        have hput := hat.put k (.int .i32 p)
        rw [fillC_put p hlt] at hput
        have HPUT := Lib.hid hput
        clear hput hat
        go_wp2
        go_roundw
        case rel => exact ⟨k + 1, by omega, by go_num, HPUT.out, HB.setCell HG.out _⟩
        case measure => simp [intOf]; omega
      · obtain rfl : k = m := by omega
        have hia := fillC_end hat
        clear hat hlt
        by_cases hbig : 4096 < k
        · have he := HLG.out hbig
          have HE := Lib.hid he
          have henc := encode_any wr _ k k _ hia (by omega) HX.out
          rw [he] at henc
          have HENC := Lib.hid henc
          clear he henc hia
          go_wp2_with fail
          ((with_reducible refine HENC.out.mono ?_))
          rintro e w2 ⟨rfl, hb2⟩
          go_wp2_with fail
          go_ret
          exact ⟨rfl, HB.trans (hb2.mono HB.size)⟩
        · obtain ⟨o, he, hol, hd⟩ := HLB.out (by omega)
          have henc := encode_any wr _ k k _ hia (by omega) HX.out
          rw [he] at henc
          obtain ⟨s, hs⟩ : ∃ s : ByteArray, s = ⟨o.toArray⟩ := ⟨_, rfl⟩
          have hsl : s.data.toList = o := by rw [hs]
          have hsz : s.size ≤ 5000 := by
            have : s.data.toList.length = s.size := by simp
            rw [hsl] at this
            omega
          rw [← hsl] at hd
          simp only [← hs] at henc
          have hdc := fun w => decodeTo_any s (List.replicate k p) k (by simp) w (by omega) hd
          have HENC := Lib.hid henc
          have HDC := Lib.hid hdc
          clear he henc hia hs hsl hd hdc hol
          go_wp2_with fail
          ((with_reducible refine HENC.out.mono ?_))
          rintro e w2 ⟨rfl, hb2⟩
          have HB2 := HB.trans (hb2.mono HB.size)
          go_wp2_with fail
          ((with_reducible refine (HDC.out _).mono ?_))
          rintro e w3 ⟨⟨A, d, rfl, hat3⟩, hb3⟩
          have HB3 := HB2.trans (hb3.mono HB2.size)
          obtain ⟨bb, oo, rfl, hbb, hcell⟩ := hat3.2 (by omega)
          have f0 := hcell 0 (by rw [List.length_replicate]; omega)
          have f1 := hcell (k - 1) (by rw [List.length_replicate]; omega)
          rw [rep_at] at f0 f1
          rw [Nat.add_zero] at f0
          have g1 : 1 ≤ k := by omega
          have g2 : ((k : Int) - 1).toNat = k - 1 := by omega
          have g3 : 0 < k := by omega
          clear hcell hat3 hb2 hb3
          go_wp2_with fail
          go_ret
          exact ⟨rfl, HB3⟩
  · simp only [if_true] at hp
    subst hp
    go_enter Try.func6, Try.ntmps6
    go_wp2_with fail
    ((with_reducible refine (works03_any _).mono ?_))
    rintro e w1 ⟨rfl, hb1⟩
    have hat0 : At (w1.alloc (.cells (madeCells #[Value.int .i32 0] m) 21)) w1.heap.size 21 (fillC m 0 97) := by rw [HST.out]; exact At.new _ _ _
    have hb0 := hb1.alloc hb1.size (.cells (madeCells #[Value.int .i32 0] m) 21)
    have HAT0 := Lib.hid hat0
    have HB0 := Lib.hid hb0
    have HG := Lib.hid hb1.size
    clear hat0 hb0
    go_wp2_with fail
    clear hmk
    go_loopw [10] (fun i wr => ∃ k : Nat, k ≤ m ∧ i = .int .i64 k ∧ At wr w1.heap.size 21 (fillC m k 97) ∧ Below w.heap.size w wr) (fun i _ => m - (intOf i).toNat)
    case atStart => exact ⟨0, by omega, rfl, HAT0.out, HB0.out⟩
    case round =>
      obtain ⟨k, hk, rfl, hat, HB⟩ := hrel
      have HAT := Lib.hid hat
      by_cases hlt : k < m
      · have hc := hat.cells k (fillC_at 97 hlt)
        have hz := hat.ice k
        have hput := hat.put k (.int .i32 97)
        rw [fillC_put 97 hlt] at hput
        have HPUT := Lib.hid hput
        clear hput hat
        go_wp2
        go_roundw
        case rel => exact ⟨k + 1, by omega, by go_num, HPUT.out, HB.setCell HG.out _⟩
        case measure => simp [intOf]; omega
      · obtain rfl : k = m := by omega
        have hia := fillC_end hat
        clear hat hlt
        by_cases hbig : 4096 < k
        · have he := HLG.out hbig
          have HE := Lib.hid he
          have henc := encode_any wr _ k k _ hia (by omega) HX.out
          rw [he] at henc
          have HENC := Lib.hid henc
          clear he henc hia
          go_wp2_with fail
          ((with_reducible refine HENC.out.mono ?_))
          rintro e w2 ⟨rfl, hb2⟩
          go_wp2_with fail
          go_ret
          exact ⟨rfl, HB.trans (hb2.mono HB.size)⟩
        · obtain ⟨o, he, hol, hd⟩ := HLB.out (by omega)
          have henc := encode_any wr _ k k _ hia (by omega) HX.out
          rw [he] at henc
          obtain ⟨s, hs⟩ : ∃ s : ByteArray, s = ⟨o.toArray⟩ := ⟨_, rfl⟩
          have hsl : s.data.toList = o := by rw [hs]
          have hsz : s.size ≤ 5000 := by
            have : s.data.toList.length = s.size := by simp
            rw [hsl] at this
            omega
          rw [← hsl] at hd
          simp only [← hs] at henc
          have hdc := fun w => decodeTo_any s (List.replicate k 97) k (by simp) w (by omega) hd
          have HENC := Lib.hid henc
          have HDC := Lib.hid hdc
          clear he henc hia hs hsl hd hdc hol
          go_wp2_with fail
          ((with_reducible refine HENC.out.mono ?_))
          rintro e w2 ⟨rfl, hb2⟩
          have HB2 := HB.trans (hb2.mono HB.size)
          go_wp2_with fail
          ((with_reducible refine (HDC.out _).mono ?_))
          rintro e w3 ⟨⟨A, d, rfl, hat3⟩, hb3⟩
          have HB3 := HB2.trans (hb3.mono HB2.size)
          obtain ⟨bb, oo, rfl, hbb, hcell⟩ := hat3.2 (by omega)
          have f0 := hcell 0 (by rw [List.length_replicate]; omega)
          have f1 := hcell (k - 1) (by rw [List.length_replicate]; omega)
          rw [rep_at] at f0 f1
          rw [Nat.add_zero] at f0
          have g1 : 1 ≤ k := by omega
          have g2 : ((k : Int) - 1).toNat = k - 1 := by omega
          have g3 : 0 < k := by omega
          clear hcell hat3 hb2 hb3
          go_wp2_with fail
          go_ret
          exact ⟨rfl, HB3⟩
theorem punyLong_law (a0 a1 : Int) (a2 : Bool) (W : World) (w0 : (Lit.int .u8 a0).wf = true) (w1 : (Lit.int .u16 a1).wf = true) :
    Calls Try.prog 6 #[.int .u8 a0, .int .u16 a1, .bool a2] W fun e w' => e = .returned (.bool true) ∧ Below W.heap.size W w' := by
  have b0 := bounds_u8 w0
  have b1 := bounds_u16 w1
  obtain ⟨m, hm⟩ := Int.eq_ofNat_of_zero_le (show 0 ≤ 4090 + a0 % 10 by omega)
  exact long_core a0 a1 a2 m _ W b0.1 b0.2 b1.1 b1.2 hm rfl
end Go.Proofs.Ytcdneaofgnofeaa
