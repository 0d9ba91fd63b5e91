/- Layer 8: what is written is read as it was; the examples. -/
import Derived.Test.YtkchgjakkogejaaDoorColon11
import Derived.Test.YtkchgjakkogejaaDoorDig01
namespace Go.Proofs.YtkchgjakkogejaaDoor
open Go.RowKit Go
set_option linter.unusedVariables false
set_option maxRecDepth 100000
theorem cutK_app (a b : List UInt8) (h : (37 : UInt8) ∉ a) : cutK (a ++ 37 :: b) 37 = a.length := by
  unfold cutK
  rw [List.findIdx_append, if_neg, List.findIdx_cons]
  · simp
  · have : a.findIdx (fun x => decide ((x.toNat : Int) = 37)) = a.length := by
      rw [List.findIdx_eq_length]
      intro x hx
      apply decide_eq_false
      intro e
      have : x = 37 := UInt8.toNat_inj.1 (by show x.toNat = 37; omega)
      exact h (this ▸ hx)
    omega
theorem cutK_not (a : List UInt8) (h : (37 : UInt8) ∉ a) : cutK a 37 = a.length := by
  unfold cutK
  rw [List.findIdx_eq_length]
  intro x hx
  apply decide_eq_false
  intro e
  have : x = 37 := UInt8.toNat_inj.1 (by show x.toNat = 37; omega)
  exact h (this ▸ hx)
theorem oct_addr (ip : List UInt8) (h : ip.length = 16) : octE (addrE ip) = some ip := by
  unfold octE
  rw [addr_back, Option.map_some, bytesG_groups ip h]
theorem numR_pos (z most : Int) (h : 0 ≤ z) : numR (Lib.itoa z) most = if most < z then (0, 4) else (z, 0) := by
  obtain ⟨n, rfl⟩ := Int.eq_ofNat_of_zero_le h
  rw [Lib.itoa_nonneg]
  have h1 := decDigits_all n
  have h2 := decDigits_num n
  have hne : Lib.decDigits n ≠ [] := by
    intro e
    rw [Lib.decDigits] at e
    split at e <;> simp at e
  have hd : digsB (Lib.decDigits n) = true := by
    unfold digsB
    rw [h1]
    simp [hne]
  unfold numR
  rw [if_neg (by rw [hd]; simp), h2]
theorem colon_zone (ip : List UInt8) (z : Int) (h : ip.length = 16) (h0 : 0 < z) : colonE (textC ip z) = if 2147483647 < z then ⟨0, zero16, 0, 4⟩ else ⟨6, ip, z, 0⟩ := by
  have e : textC ip z = addrE ip ++ 37 :: Lib.itoa z := by unfold textC; rw [if_pos h0]
  have hn := addr_no37 ip
  unfold colonE
  rw [e, cutK_app _ _ hn, List.take_left, oct_addr ip h]
  simp only
  rw [if_neg (by simp)]
  have e2 : List.drop ((addrE ip).length + 1) (addrE ip ++ 37 :: Lib.itoa z) = Lib.itoa z := by
    rw [List.drop_append, List.drop_of_length_le (by omega), List.nil_append, show (addrE ip).length + 1 - (addrE ip).length = 1 by omega]
    rfl
  rw [e2, numR_pos z _ (by omega)]
  by_cases hm : 2147483647 < z
  · rw [if_pos hm, if_pos hm, if_pos (by decide)]
  · rw [if_neg hm, if_neg hm, if_neg (by simp), if_neg (by simp; omega)]
theorem colon_plain (ip : List UInt8) (z : Int) (h : ip.length = 16) (h0 : ¬ 0 < z) : colonE (textC ip z) = ⟨6, ip, 0, 0⟩ := by
  have e : textC ip z = addrE ip := by unfold textC; rw [if_neg h0]
  have hn := addr_no37 ip
  unfold colonE
  rw [e, cutK_not _ hn, List.take_of_length_le (Nat.le_refl _), oct_addr ip h]
  simp only
  rw [if_pos (Nat.le_refl _)]
theorem textC_len (ip : List UInt8) (z : Int) (hz : z ≤ 9223372036854775807) : (textC ip z).length ≤ 200 := by
  have := addr_len ip
  unfold textC
  split
  · have := itoa_len20 z (by omega) hz
    simp only [List.length_append, List.length_cons]
    omega
  · omega
/- the examples -/
def ip1 : List UInt8 := [32, 1, 13, 184, 0, 0, 0, 0, 0, 1, 0, 0, 0, 0, 0, 1]
def ip2 : List UInt8 := [0, 0, 0, 0, 0, 0, 0, 0, 0, 0, 255, 255, 192, 0, 2, 1]
def lit1 : List UInt8 := [50, 48, 48, 49, 58, 100, 98, 56, 58, 48, 58, 48, 58, 49, 58, 48, 58, 48, 58, 49]
def lit2 : List UInt8 := [58, 58, 70, 70, 70, 70, 58, 49, 57, 50, 46, 48, 46, 50, 46, 49, 37, 55]
def lit3 : List UInt8 := [50, 48, 48, 49, 58, 100, 98, 56, 58, 58, 49, 58, 48, 58, 48, 58, 49]
def lit4 : List UInt8 := [58, 58, 102, 102, 102, 102, 58, 49, 57, 50, 46, 48, 46, 50, 46, 49, 37, 55]
theorem quad_ex : quadT 192 0 2 1 = [49, 57, 50, 46, 48, 46, 50, 46, 49] := by
  unfold quadT
  rw [decX_eq _ (by decide), decX_eq _ (by decide), decX_eq _ (by decide), decX_eq _ (by decide)]
  decide +kernel
def hexX (n : Nat) : List UInt8 := if n < 16 then [hexC n] else if n < 256 then [hexC (n / 16), hexC (n % 16)] else if n < 4096 then [hexC (n / 256), hexC (n / 16 % 16), hexC (n % 16)] else [hexC (n / 4096), hexC (n / 256 % 16), hexC (n / 16 % 16), hexC (n % 16)]
theorem hexX_eq {n : Nat} (h : n < 65536) : hexL n = hexX n := by
  unfold hexX
  by_cases h1 : n < 16
  · rw [if_pos h1, hexL_lo h1]
  · rw [if_neg h1, hexL_hi h1]
    by_cases h2 : n < 256
    · rw [if_pos h2, hexL_lo (by omega)]; rfl
    · rw [if_neg h2, hexL_hi (n := n / 16) (by omega)]
      by_cases h3 : n < 4096
      · rw [if_pos h3, hexL_lo (by omega), Nat.div_div_eq_div_mul]; rfl
      · rw [if_neg h3, hexL_hi (n := n / 16 / 16) (by omega), hexL_lo (by omega), show n / 16 / 16 / 16 = n / 4096 by omega, show n / 16 / 16 % 16 = n / 256 % 16 by omega]; rfl
theorem hexs_X {g : List Nat} (h : ∀ n ∈ g, n < 65536) : hexs g = g.map hexX := List.map_congr_left fun n hn => hexX_eq (h n hn)
theorem text_ex1 : textC ip1 0 = lit3 := by
  have hm : mapB (groupsG ip1) = false := by decide +kernel
  have hn : nouE (zsG (groupsG ip1)) = (2, 2) := by decide +kernel
  unfold textC
  rw [if_neg (by decide)]
  unfold addrE
  rw [if_neg (by rw [hm]; simp)]
  unfold coreE
  rw [hn, if_neg (by decide), hexs_X (by decide +kernel), hexs_X (by decide +kernel)]
  decide +kernel
theorem text_ex2 : textC ip2 7 = lit4 := by
  have hm : mapB (groupsG ip2) = true := by decide +kernel
  unfold textC
  rw [if_pos (by decide)]
  unfold addrE
  rw [if_pos hm]
  have e : mapT (ip2.getD 12 0) (ip2.getD 13 0) (ip2.getD 14 0) (ip2.getD 15 0) = 58 :: 58 :: 102 :: 102 :: 102 :: 102 :: 58 :: quadT 192 0 2 1 := rfl
  have e7 : Lib.itoa 7 = [55] := by rw [show (7 : Int) = ((7 : Nat) : Int) from rfl, Lib.itoa_nonneg, Lib.decDigits_one (by decide)]; rfl
  rw [e, quad_ex, e7]
  rfl
theorem plain_ex1 : plainE lit1 = some [8193, 3512, 0, 0, 1, 0, 0, 1] := by
  unfold plainE
  rw [if_pos (by decide +kernel)]
  have : sideE true lit1 = some [8193, 3512, 0, 0, 1, 0, 0, 1] := by
    unfold sideE
    rw [if_neg (by decide)]
    have hc : cutX 58 lit1 = [[50, 48, 48, 49], [100, 98, 56], [48], [48], [49], [48], [48], [49]] := by decide +kernel
    have g1 : groupE [50, 48, 48, 49] = some 8193 := by decide +kernel
    have g2 : groupE [100, 98, 56] = some 3512 := by decide +kernel
    have g3 : groupE [48] = some 0 := by decide +kernel
    have g4 : groupE [49] = some 1 := by decide +kernel
    rw [hc]
    simp [sideP, g1, g2, g3, g4]
  rw [this]
  rfl
theorem plain_ex2 : plainE [58, 58, 70, 70, 70, 70, 58, 49, 57, 50, 46, 48, 46, 50, 46, 49] = some [0, 0, 0, 0, 0, 65535, 49152, 513] := by
  have hi : Lib.index [58, 58, 70, 70, 70, 70, 58, 49, 57, 50, 46, 48, 46, 50, 46, 49] [58, 58] = 0 := by decide +kernel
  unfold plainE
  rw [hi, if_neg (by decide)]
  have s1 : sideE false (List.take (Int.toNat 0) [58, 58, 70, 70, 70, 70, 58, 49, 57, 50, 46, 48, 46, 50, 46, 49]) = some [] := rfl
  have s2 : sideE true (List.drop (Int.toNat 0 + 2) [58, 58, 70, 70, 70, 70, 58, 49, 57, 50, 46, 48, 46, 50, 46, 49]) = some [65535, 49152, 513] := by
    have ed : List.drop (Int.toNat 0 + 2) [58, 58, 70, 70, 70, 70, 58, 49, 57, 50, 46, 48, 46, 50, 46, 49] = ([70, 70, 70, 70, 58, 49, 57, 50, 46, 48, 46, 50, 46, 49] : List UInt8) := rfl
    rw [ed]
    unfold sideE
    rw [if_neg (by decide)]
    have hc : cutX 58 [70, 70, 70, 70, 58, 49, 57, 50, 46, 48, 46, 50, 46, 49] = [[70, 70, 70, 70], [49, 57, 50, 46, 48, 46, 50, 46, 49]] := by decide +kernel
    have g1 : groupE [70, 70, 70, 70] = some 65535 := by decide +kernel
    have g2 : groupE [49, 57, 50, 46, 48, 46, 50, 46, 49] = none := by decide +kernel
    have g3 : fourE [49, 57, 50, 46, 48, 46, 50, 46, 49] = some [192, 0, 2, 1] := by rw [← quad_ex]; exact four_quadT 192 0 2 1
    rw [hc]
    simp [sideP, g1, g2, g3, grp2]
  rw [s1, s2]
  rfl
theorem colon_ex1 : colonE lit1 = ⟨6, ip1, 0, 0⟩ := by
  have hk : cutK lit1 37 = 20 := by decide +kernel
  have ho : octE lit1 = some ip1 := by unfold octE; rw [plain_ex1]; decide +kernel
  unfold colonE
  rw [hk, show List.take 20 lit1 = lit1 from rfl, ho]
  rfl
theorem colon_ex2 : colonE lit2 = ⟨6, ip2, 7, 0⟩ := by
  have hk : cutK lit2 37 = 16 := by decide +kernel
  have ho : octE [58, 58, 70, 70, 70, 70, 58, 49, 57, 50, 46, 48, 46, 50, 46, 49] = some ip2 := by unfold octE; rw [plain_ex2]; decide +kernel
  have hn : numR [55] 2147483647 = (7, 0) := by decide +kernel
  unfold colonE
  rw [hk, show List.take 16 lit2 = [58, 58, 70, 70, 70, 70, 58, 49, 57, 50, 46, 48, 46, 50, 46, 49] from rfl, ho, show List.drop (16 + 1) lit2 = [55] from rfl, hn]
  rfl
end Go.Proofs.YtkchgjakkogejaaDoor
