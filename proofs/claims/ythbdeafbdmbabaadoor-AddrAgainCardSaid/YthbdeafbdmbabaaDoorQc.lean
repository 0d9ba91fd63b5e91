/- Texts behind a law of this seat, in order: Addr6, Addr7, Ref9c. -/
import Derived.Test.YthbdeafbdmbabaaDoorPa
import Derived.Test.YthbdeafbdmbabaaDoorPb
import Derived.Test.YthbdeafbdmbabaaDoorPc
import Derived.Test.YthbdeafbdmbabaaDoorPd
import Derived.Test.YthbdeafbdmbabaaDoorPe
import Derived.Test.YthbdeafbdmbabaaDoorPf
import Derived.Test.YthbdeafbdmbabaaDoorPg
import Derived.Test.YthbdeafbdmbabaaDoorPh
import Derived.Test.YthbdeafbdmbabaaDoorPi
import Derived.Test.YthbdeafbdmbabaaDoorPj
import Derived.Test.YthbdeafbdmbabaaDoorPk
import Derived.Test.YthbdeafbdmbabaaDoorPl
import Derived.Test.YthbdeafbdmbabaaDoorPm
import Derived.Test.YthbdeafbdmbabaaDoorPn
import Derived.Test.YthbdeafbdmbabaaDoorPo
import Derived.Test.YthbdeafbdmbabaaDoorPp
import Derived.Test.YthbdeafbdmbabaaDoorPq
import Derived.Test.YthbdeafbdmbabaaDoorPr
import Derived.Test.YthbdeafbdmbabaaDoorPs
import Derived.Test.YthbdeafbdmbabaaDoorPt
import Derived.Test.YthbdeafbdmbabaaDoorPu
import Derived.Test.YthbdeafbdmbabaaDoorPv
import Derived.Test.YthbdeafbdmbabaaDoorPw
import Derived.Test.YthbdeafbdmbabaaDoorPx
import Derived.Test.YthbdeafbdmbabaaDoorPy
import Derived.Test.YthbdeafbdmbabaaDoorPz
import Derived.Test.YthbdeafbdmbabaaDoorQa
import Derived.Test.YthbdeafbdmbabaaDoorQb
import Derived.Below
import Derived.BigQuiet
import Derived.BigRegion
import Derived.ChangeSlices
import Derived.Deep.AppendLies
import Derived.Deep.Draws
import Derived.Deep.OwnRows
import Derived.Deep.Quiet
import Derived.Deep.QuietTactic
import Derived.Deep.RegionLaw
import Derived.Great.Ranges
import Derived.Handed
import Derived.Handy
import Derived.Laws.AppendOwnNone
import Derived.Laws.Bits64b
import Derived.Laws.BitsAllLaws
import Derived.Laws.CopyOwn
import Derived.Laws.OwnMore
import Derived.Laws.Rows
import Derived.Laws.StructEq
import Derived.Lib.AppendZeros
import Derived.Lib.AppendZerosOnto
import Derived.Lib.Bytealg
import Derived.Lib.DecodeN
import Derived.Lib.Hide
import Derived.Lib.ItoaLen
import Derived.Lib.ItoaMem
import Derived.Lib.ItoaNum
import Derived.Lib.Join
import Derived.Lib.Overlaps
import Derived.Lib.RuneBytes
import Derived.Lib.SmallJoins
import Derived.Lib.Split
import Derived.Lib.SplitLaws
import Derived.Lib.Strings
import Derived.OpenShut
import Derived.Shelf.LaysM
import Derived.Shelf.Small.Bits
import Derived.Shelf.Small.Strs
import Derived.Shelf.Strconv.Itoa0
import Derived.Shelf.Strconv.Itoa1
import Derived.Shelf.Strconv.Itoa2
import Derived.Shelf.Strconv.Itoa3
import Derived.Shelf.Strings.Builder1
import Derived.Shelf.Strings.Builder2
import Derived.Shelf.Strings.Builder2Cap
import Derived.Shelf.Strings.BuilderCap
import Derived.Shelf.Strings.BuilderF
import Derived.Shelf.Strings.BuilderK
import Derived.Shelf.Strings.Count
import Derived.Shelf.Strings.Cut
import Derived.Shelf.Strings.Explode
import Derived.Shelf.Strings.OnBuilder
import Derived.Shelf.Strings.Prefix
import Derived.Shelf.Strings.RuneCount
import Derived.Shelf.Strings.Search1
import Derived.Shelf.Strings.Search2
import Derived.Shelf.Strings.Search3
import Derived.Shelf.Strings.Shaped
import Derived.Shelf.Strings.Split
import Derived.Shelf.Strings.SplitShaped
import Derived.Shelf.Unicode.Decode
import Derived.Shelf.Unicode.DecodeAny
import Derived.Shelf.Unicode.DecodeSlow
import Derived.Shelf.Utf8.RuneCount
import Derived.SizedLaws
import Derived.SliceStrings
import Derived.Stop.BytesEq
import Derived.Test.YthbdeafbdmbabaaDoorProg
import Derived.WalkKit
import Derived.WalkLawsBesides
import Derived.WalkSpells
namespace Go.Proofs.YthbdeafbdmbabaaDoor
open Go.RowKit Go
set_option linter.unusedVariables false
set_option maxRecDepth 100000
def lInaddr : List UInt8 := [105, 110, 45, 97, 100, 100, 114]
def lIp6 : List UInt8 := [105, 112, 54]
def lArpa : List UInt8 := [97, 114, 112, 97]
def hex2 (b : UInt8) : List (List UInt8) := [[hexC (b.toNat % 16)], [hexC (b.toNat / 16)]]
def rev4 (ip : List UInt8) (k : Nat) : List (List UInt8) := (List.range k).map fun i => Lib.decDigits (ip.getD (3 - i) 0).toNat
def rev6 (ip : List UInt8) (k : Nat) : List (List UInt8) := (List.range k).flatMap fun i => hex2 (ip.getD (15 - i) 0)
def revL (f : Int) (ip : List UInt8) : List (List UInt8) := if f = 4 then rev4 ip 4 ++ [lInaddr, lArpa] else if f = 6 then rev6 ip 16 ++ [lIp6, lArpa] else []
theorem rev4_succ (ip : List UInt8) (k : Nat) : rev4 ip (k + 1) = rev4 ip k ++ [Lib.decDigits (ip.getD (3 - k) 0).toNat] := by
  unfold rev4; rw [List.range_succ, List.map_append]; rfl
theorem rev6_succ (ip : List UInt8) (k : Nat) : rev6 ip (k + 1) = rev6 ip k ++ hex2 (ip.getD (15 - k) 0) := by
  unfold rev6; rw [List.range_succ, List.flatMap_append]; simp
theorem rev4_len (ip : List UInt8) (k : Nat) : (rev4 ip k).length = k := by simp [rev4]
theorem rev6_len (ip : List UInt8) (k : Nat) : (rev6 ip k).length = 2 * k := by
  induction k with
  | zero => rfl
  | succ k ih => rw [rev6_succ, List.length_append, ih]; simp [hex2]; omega
/-- 'out = append(out, x, y)' beside blocks of other types -/
theorem wpList_app2S {P : Program} {ops : Array Oper} {rest : List Oper} {o : Oper} {a : Act} {Q : Exit → Act → World → Prop} {B : Nat} {w0 : World} {L : List (Nat × TypeId × Array Value)} {w1 : World} (hgd : o.guard = none) (s x : Operand) (t e : TypeId)
    (ho : o.op = .call { callee := .builtin .append, args := #[s, x], argTypes := #[t, t] }) (ht : P.underlying t = some (.slice e)) {z : Value} {bytes : Nat} (hI : Elem1 P e z bytes) (hzs : z.cells.size = 1)
    (base : Nat) (v : Value) (n : Nat) (xs : List Value) (u1 u2 : Value) (hs : a.eval s = v) (hx : a.eval x = .slice (some ⟨w1.heap.size, 0, none⟩) 2 2) (hown : w1.ownsRow base e 1 v n xs) (S : Ats B w0 w1 L) (hne : ∀ y ∈ L, e ≠ y.2.1) (hBb : B ≤ base)
    (hu1 : u1.oneCell' = true) (hu2 : u2.oneCell' = true) (hb : (n + 2) * bytes ≤ 140737488355328) (hn : n + 2 ≤ 140737488355328) (hbase : base ≤ w1.heap.size)
    (h : ∀ v' w', w'.ownsRow base e 1 v' (n + 2) (xs ++ [u1, u2]) → Ats B w0 w' L → wpList P ops Q rest (a.put o.dst v') w') : wpList P ops Q (o :: rest) a (w1.alloc (.cells #[u1, u2] e)) := by
  obtain ⟨i, hi, hz, h1, h2⟩ := info_parts hI
  refine wpList_append_own (w1.alloc (.cells #[u1, u2] e)) hgd s x t ho base e i z 1 bytes ht hi hz h1 h2 hzs (by decide) v n xs hs (hown.alloc _) ⟨w1.heap.size, 0, none⟩ 2 2 [u1, u2] hx rfl ?_ ?_ ?_ hb ?_ ?_
  · intro j y hj
    match j, hj with
    | 0, hj => simp at hj; subst hj; simp [Addr.add]
    | 1, hj => simp at hj; subst hj; simp [Addr.add]
  · intro y hy
    simp at hy
    rcases hy with rfl | rfl
    · exact hu1
    · exact hu2
  · unfold maxLen; omega
  · simp; omega
  · intro v' w' hown' hgrow hnil
    refine h v' w' hown' ?_
    have Sa := S.add e #[u1, u2]
    refine ⟨S.below.trans ?_, ?_, fun y hy => ⟨(S.at_ y hy).1, ?_⟩, S.apart⟩
    · refine ((Below.refl B w1).alloc S.big _).grown hgrow (by simp; have := S.big; omega) (fun k hk => ?_)
      exact Nat.le_trans hBb (hown.lt k hk).1
    · have := hgrow.size
      simp at this
      have := S.big
      omega
    · exact ((S.at_ y hy).2.alloc _).grown hgrow ((S.at_ y hy).2.own_ne hown (hne y hy))
set_option maxHeartbeats 1000000 in
theorem digit_any (c : Nat) (hc : c < 16) (w : World) (hD : DB w) : Calls Tryd.prog 24 #[.int .u8 c] w fun e w' => e = .returned (.string ⟨#[hexC c]⟩) ∧ Below w.heap.size w w' := by
  have h1 := fmt16_any c w (by omega) hD
  rw [hexL_lo hc] at h1
  have H1 := Lib.hid h1
  have hw : IntKind.u64.wrap (c : Int) = c := by
    have h0 : ∀ d : Fin 16, IntKind.u64.wrap ((d.val : Nat) : Int) = d.val := by decide +kernel
    exact h0 ⟨c, hc⟩
  clear h1
  go_enter Tryd.func24, Tryd.ntmps24
  go_wp2_with ((with_reducible refine (H1.out).mono ?_); rintro e w2 ⟨rfl, hb⟩)
  go_ret
  exact ⟨rfl, hb⟩
theorem hex2_vals (b : UInt8) (L : List (List UInt8)) : strVs L ++ [Value.string ⟨#[hexC (b.toNat % 16)]⟩, Value.string ⟨#[hexC (b.toNat / 16)]⟩] = strVs (L ++ hex2 b) := by
  simp [strVs, hex2, strV]
theorem two_vals (x y : List UInt8) (L : List (List UInt8)) : strVs L ++ [Value.string ⟨x.toArray⟩, Value.string ⟨y.toArray⟩] = strVs (L ++ [x, y]) := by
  simp [strVs, strV]
theorem own_app2 {w : World} {base e : Nat} {v : Value} {L : List (List UInt8)} (x y : List UInt8) (h : w.ownsRow base e 1 v (L.length + 2) (strVs L ++ [Value.string ⟨x.toArray⟩, Value.string ⟨y.toArray⟩])) : w.ownsRow base e 1 v (L ++ [x, y]).length (strVs (L ++ [x, y])) := by
  rw [two_vals] at h
  simpa using h
theorem ne_ad (ga : Nat) (cs : Array Value) : ∀ y ∈ [((ga, 25, cs) : Nat × TypeId × Array Value)], 9 ≠ y.2.1 := by
  intro y hy
  rw [List.mem_singleton] at hy
  subst hy
  show (9 : Nat) ≠ 25
  decide
theorem shr4 (c : UInt8) : (c.toNat : Int) / 16 = ((c.toNat / 16 : Nat) : Int) := by omega
set_option maxHeartbeats 4000000 in
theorem aReverse_any (f z : Int) (ip : List UInt8) (w : World) (hip : ip.length = 16) (hP : P10 w) (hD : DB w) :
    Calls Tryd.prog 10 #[adV f ip z] w fun e w' => ∃ A' c', e = .returned (.slice A' (revL f ip).length c') ∧ TextsAt w' A' (revL f ip).length (revL f ip) ∧ Below w.heap.size w w' := by
  have S := Ats.start w
  have hf := ad_fam f z ip
  have hPd : ∀ wr L, Ats w.heap.size w wr L → P10 wr := fun wr L h => hP.below (Nat.le_refl _) h.below
  have hDd : ∀ wr L, Ats w.heap.size w wr L → DB wr := fun wr L h => hD.below (Nat.le_refl _) h.below
  have HPd := Lib.hid hPd
  have HDd := Lib.hid hDd
  clear hPd hDd hP hD
  rcases fam3 f with rfl | rfl | hn
  · have hr : revL 4 ip = rev4 ip 4 ++ [lInaddr, lArpa] := rfl
    obtain ⟨R, hR⟩ : ∃ R, R = revL 4 ip := ⟨_, rfl⟩
    rw [← hR] at hr ⊢
    have HR := Lib.hid hr
    clear hr hR
    go_enter Tryd.func10, Tryd.ntmps10
    go_wp2_with (first
      | ((with_reducible show wpList _ _ _ (Oper.mk _ (Op.box _ _) _ _ _ _ :: _) _ _); refine wpList_boxS rfl _ _ rfl (adCs 4 ip z).toArray rfl S ?_; clear S; intro ga w1 S)
      | ((with_reducible show wpList _ _ _ (Oper.mk _ (Op.load _ _) _ _ _ _ :: _) _ _); refine wpList_cellS rfl _ _ rfl S _ _ rfl 0 _ _ rfl _ Tryd.underlying3 rfl _ (by with_reducible exact hf) ?_))
    go_loopw [3, 11] (fun v i wr => ∃ k : Nat, k ≤ 4 ∧ i = .int .i64 k ∧ wr.ownsRow w.heap.size 9 1 v (rev4 ip k).length (strVs (rev4 ip k)) ∧ Ats w.heap.size w wr [(ga, 25, (adCs 4 ip z).toArray)]) (fun _ i _ => 4 - (intOf i).toNat)
    case atStart => exact ⟨0, Nat.zero_le _, rfl, World.ownsRow_nil _ _ _ _, S⟩
    case round =>
      obtain ⟨k, hk, rfl, hown, S⟩ := hrel
      by_cases hlt : k < 4
      · have c0 := ad_at 4 z ip (3 - k) hip (by omega)
        rw [show ((3 - k : Nat)) = 3 - k from rfl] at c0
        have e1 : IntKind.i64.wrap (3 - (k : Int)) = ((3 - k : Nat) : Int) := by rw [IntWalk.i64_in _ (by omega)]; omega
        have b1 : (3 - k : Nat) < 16 := by omega
        have hs := rev4_succ ip k
        have hl := rev4_len ip k
        obtain ⟨x, hx⟩ : ∃ x, x = ip.getD (3 - k) 0 := ⟨_, rfl⟩
        obtain ⟨j, hj⟩ : ∃ j : Nat, j = 3 - k := ⟨_, rfl⟩
        obtain ⟨L, hL⟩ : ∃ L, L = rev4 ip k := ⟨_, rfl⟩
        rw [← hx] at c0 hs
        rw [← hj] at c0 e1 b1
        rw [← hL] at hs hl hown
        have hdg := fun w (h : P10 w) => digitsU_any x w h
        have HDG := Lib.hid hdg
        have C0 := Lib.hid c0
        have HS := Lib.hid hs
        have HLT := Lib.hid hlt
        have HL := Lib.hid hl
        have hwx := wrapU8 x
        have d1 : decide ((k : Int) < 4) = true := decide_eq_true (by omega)
        have hL4 : L.length ≤ 4 := by omega
        clear c0 hs hx hj hL hdg hl
        go_wp2_with (first
          | ((with_reducible show wpList _ _ _ (Oper.mk _ (Op.load _ _) _ _ _ _ :: _) _ _); refine wpList_cellS rfl _ _ rfl S _ _ rfl 0 _ _ rfl _ Tryd.underlying5 rfl _ (by with_reducible exact C0.out) ?_))
        with_reducible refine (HDG.out _ (HPd.out _ _ S)).mono ?_
        rintro e w2 ⟨rfl, hb⟩
        have hown := ownsRow_below hown hb
        have S := S.call hb
        have hsz := S.below.size
        have hne := ne_ad ga (adCs 4 ip z).toArray
        clear hb
        go_wp2_with (at_builtin; refine wpList_app1S rfl (.tmp 14) (.tmp 22) 35 9 rfl Tryd.underlying35 elem9 rfl w.heap.size _ L.length _ _ rfl rfl hown S hne (Nat.le_refl _) rfl (by omega) (by omega) hsz ?_)
        intro v' w' hown' S'
        have hown2 := own_app1 hown'
        rw [← HS.out] at hown2
        clear hown' S hown
        go_wp2_with fail
        go_roundw
        case rel => exact ⟨k + 1, by have := HLT.out; omega, by go_num, hown2, S'⟩
        case measure => have := HLT.out; simp [intOf]; omega
      · obtain rfl : k = 4 := by omega
        have hl := rev4_len ip 4
        have hr := HR.out
        obtain ⟨L, hL⟩ : ∃ L, L = rev4 ip 4 := ⟨_, rfl⟩
        rw [← hL] at hl hown hr
        have HR2 := Lib.hid hr
        have hsz := S.below.size
        have hne := ne_ad ga (adCs 4 ip z).toArray
        have hL4 : L.length ≤ 4 := by omega
        clear hL hl HR hr hlt
        go_wp2_with (at_builtin; refine wpList_app2S rfl (.tmp 25) (.tmp 26) 35 9 rfl Tryd.underlying35 elem9 rfl w.heap.size _ L.length _ _ _ rfl rfl hown S hne (Nat.le_refl _) rfl rfl (by omega) (by omega) hsz ?_)
        intro v' w' hown' S'
        have hown2 := own_app2 lInaddr lArpa hown'
        rw [← HR2.out] at hown2
        obtain ⟨A2, c2, rfl, hta⟩ := TextsAt.of_own hown2
        clear hown' hown2 hown S
        go_wp2_with fail
        go_ret
        exact ⟨A2, c2, rfl, hta, S'.below⟩
  · have hr : revL 6 ip = rev6 ip 16 ++ [lIp6, lArpa] := rfl
    obtain ⟨R, hR⟩ : ∃ R, R = revL 6 ip := ⟨_, rfl⟩
    rw [← hR] at hr ⊢
    have HR := Lib.hid hr
    clear hr hR
    go_enter Tryd.func10, Tryd.ntmps10
    go_wp2_with (first
      | ((with_reducible show wpList _ _ _ (Oper.mk _ (Op.box _ _) _ _ _ _ :: _) _ _); refine wpList_boxS rfl _ _ rfl (adCs 6 ip z).toArray rfl S ?_; clear S; intro ga w1 S)
      | ((with_reducible show wpList _ _ _ (Oper.mk _ (Op.load _ _) _ _ _ _ :: _) _ _); refine wpList_cellS rfl _ _ rfl S _ _ rfl 0 _ _ rfl _ Tryd.underlying3 rfl _ (by with_reducible exact hf) ?_))
    go_loopw [3, 30] (fun v i wr => ∃ k : Nat, k ≤ 16 ∧ i = .int .i64 k ∧ wr.ownsRow w.heap.size 9 1 v (rev6 ip k).length (strVs (rev6 ip k)) ∧ Ats w.heap.size w wr [(ga, 25, (adCs 6 ip z).toArray)]) (fun _ i _ => 16 - (intOf i).toNat)
    case atStart => exact ⟨0, Nat.zero_le _, rfl, World.ownsRow_nil _ _ _ _, S⟩
    case round =>
      obtain ⟨k, hk, rfl, hown, S⟩ := hrel
      by_cases hlt : k < 16
      · have c0 := ad_at 6 z ip (15 - k) hip (by omega)
        have e1 : IntKind.i64.wrap (15 - (k : Int)) = ((15 - k : Nat) : Int) := by rw [IntWalk.i64_in _ (by omega)]; omega
        have b1 : (15 - k : Nat) < 16 := by omega
        have hs := rev6_succ ip k
        have hl := rev6_len ip k
        obtain ⟨x, hx⟩ : ∃ x, x = ip.getD (15 - k) 0 := ⟨_, rfl⟩
        obtain ⟨j, hj⟩ : ∃ j : Nat, j = 15 - k := ⟨_, rfl⟩
        obtain ⟨L, hL⟩ : ∃ L, L = rev6 ip k := ⟨_, rfl⟩
        rw [← hx] at c0 hs
        rw [← hj] at c0 e1 b1
        rw [← hL] at hs hl hown
        have hx256 := UInt8.toNat_lt x
        have ha := and15B x
        have hb := shr4 x
        have hd1 := fun w (h : DB w) => digit_any (x.toNat % 16) (by omega) w h
        have hd2 := fun w (h : DB w) => digit_any (x.toNat / 16) (by omega) w h
        have hv := hex2_vals x L
        obtain ⟨q1, hq1⟩ : ∃ q, q = x.toNat % 16 := ⟨_, rfl⟩
        obtain ⟨q2, hq2⟩ : ∃ q, q = x.toNat / 16 := ⟨_, rfl⟩
        rw [← hq1] at hd1 ha hv
        rw [← hq2] at hd2 hb hv
        have HD1 := Lib.hid hd1
        have HD2 := Lib.hid hd2
        have C0 := Lib.hid c0
        have HS := Lib.hid hs
        have HV := Lib.hid hv
        have HLT := Lib.hid hlt
        have d1 : decide ((k : Int) < 16) = true := decide_eq_true (by omega)
        have hL4 : L.length ≤ 32 := by omega
        have hLL : (L ++ hex2 x).length = L.length + 2 := by rw [List.length_append]; rfl
        have HLL := Lib.hid hLL
        clear c0 hs hx hj hL hl hd1 hd2 hq1 hq2 hv hLL hx256
        go_wp2_with (first
          | ((with_reducible show wpList _ _ _ (Oper.mk _ (Op.load _ _) _ _ _ _ :: _) _ _); refine wpList_cellS rfl _ _ rfl S _ _ rfl 0 _ _ rfl _ Tryd.underlying5 rfl _ (by with_reducible exact C0.out) ?_))
        with_reducible refine (HD1.out _ (HDd.out _ _ S)).mono ?_
        rintro e w2 ⟨rfl, hb1⟩
        have hown := ownsRow_below hown hb1
        have S := S.call hb1
        clear hb1
        go_wp2_with fail
        with_reducible refine (HD2.out _ (HDd.out _ _ S)).mono ?_
        rintro e w3 ⟨rfl, hb1⟩
        have hown := ownsRow_below hown hb1
        have S := S.call hb1
        have hsz := S.below.size
        have hne := ne_ad ga (adCs 6 ip z).toArray
        clear hb1
        go_wp2_with (at_builtin; refine wpList_app2S rfl (.tmp 38) (.tmp 45) 35 9 rfl Tryd.underlying35 elem9 rfl w.heap.size _ L.length _ _ _ rfl rfl hown S hne (Nat.le_refl _) rfl rfl (by omega) (by omega) hsz ?_)
        intro v' w' hown' S'
        rw [HV.out, ← HLL.out, ← HS.out] at hown'
        clear S hown
        go_wp2_with fail
        go_roundw
        case rel => exact ⟨k + 1, by have := HLT.out; omega, by go_num, hown', S'⟩
        case measure => have := HLT.out; simp [intOf]; omega
      · obtain rfl : k = 16 := by omega
        have hl := rev6_len ip 16
        have hr := HR.out
        obtain ⟨L, hL⟩ : ∃ L, L = rev6 ip 16 := ⟨_, rfl⟩
        rw [← hL] at hl hown hr
        have HR2 := Lib.hid hr
        have hsz := S.below.size
        have hne := ne_ad ga (adCs 6 ip z).toArray
        have hL4 : L.length ≤ 32 := by omega
        clear hL hl HR hr hlt
        go_wp2_with (at_builtin; refine wpList_app2S rfl (.tmp 48) (.tmp 49) 35 9 rfl Tryd.underlying35 elem9 rfl w.heap.size _ L.length _ _ _ rfl rfl hown S hne (Nat.le_refl _) rfl rfl (by omega) (by omega) hsz ?_)
        intro v' w' hown' S'
        have hown2 := own_app2 lIp6 lArpa hown'
        rw [← HR2.out] at hown2
        obtain ⟨A2, c2, rfl, hta⟩ := TextsAt.of_own hown2
        clear hown' hown2 hown S
        go_wp2_with fail
        go_ret
        exact ⟨A2, c2, rfl, hta, S'.below⟩
  · have h4 : (f == 4) = false := by simpa using hn.1
    have h6 : (f == 6) = false := by simpa using hn.2
    have hr : revL f ip = [] := by unfold revL; rw [if_neg hn.1, if_neg hn.2]
    rw [hr]
    clear hn hr
    go_enter Tryd.func10, Tryd.ntmps10
    go_wp2_with (first
      | ((with_reducible show wpList _ _ _ (Oper.mk _ (Op.box _ _) _ _ _ _ :: _) _ _); refine wpList_boxS rfl _ _ rfl (adCs f ip z).toArray rfl S ?_; clear S; intro ga w1 S)
      | ((with_reducible show wpList _ _ _ (Oper.mk _ (Op.load _ _) _ _ _ _ :: _) _ _); refine wpList_cellS rfl _ _ rfl S _ _ rfl 0 _ _ rfl _ Tryd.underlying3 rfl _ (by with_reducible exact hf) ?_))
    go_ret
    exact ⟨none, 0, rfl, ⟨rfl, fun h => absurd h (by decide)⟩, S.below⟩
end Go.Proofs.YthbdeafbdmbabaaDoor
namespace Go.Proofs.YthbdeafbdmbabaaDoor
open Go.RowKit Go
set_option linter.unusedVariables false
set_option maxRecDepth 100000
def colB (l : List UInt8) : Bool := decide ((58 : UInt8) ∈ l)
theorem colB_index (l : List UInt8) : decide ((0 : Int) ≤ Lib.index l [58]) = colB l := by
  unfold colB
  rw [decide_eq_decide]
  constructor
  · intro h
    exact Decidable.byContradiction fun hm => by
      rw [index_noneX 58 l hm] at h
      omega
  · intro hm
    obtain ⟨a, b, rfl, ha⟩ := List.eq_append_cons_of_mem hm
    rw [index_hitX 58 a b ha]
    omega
set_option maxHeartbeats 1000000 in
theorem contains_any (s : ByteArray) (w : World) : Calls Tryd.prog 14 #[.string s, .string ⟨#[58]⟩] w fun e w' => e = .returned (.bool (colB s.data.toList)) ∧ w = w' := by
  have h1 := fun w => colIndex_any s w
  have hd := colB_index s.data.toList
  have he : Lib.indexB s ⟨#[58]⟩ = Lib.index s.data.toList [58] := rfl
  rw [he] at h1
  obtain ⟨i, hi⟩ : ∃ i, i = Lib.index s.data.toList [58] := ⟨_, rfl⟩
  obtain ⟨b, hb⟩ : ∃ b, b = colB s.data.toList := ⟨_, rfl⟩
  rw [← hi, ← hb] at hd
  rw [← hi] at h1
  rw [← hb]
  have H1 := Lib.hid h1
  clear h1 he hi hb
  go_enter Tryd.func14, Tryd.ntmps14
  go_wp2_with ((with_reducible refine (H1.out _).mono ?_); rintro e w2 ⟨rfl, hq⟩; subst hq)
  go_ret
  exact ⟨rfl, rfl⟩
def parseA (l : List UInt8) : AdZ := if colB l = true then colonE l else ⟨(parseE l).fam, (parseE l).ip, 0, (parseE l).err⟩
theorem parseA_len (l : List UInt8) : (parseA l).ip.length = 16 := by
  unfold parseA
  split
  · exact colonE_len l
  · exact parseE_len l
set_option maxHeartbeats 1000000 in
theorem aParse_any (s : ByteArray) (w : World) (hs : s.size ≤ 4000) (hP : P10 w) (hM : MX w) :
    Calls Tryd.prog 5 #[.string s] w fun e w' => e = .returned (adTupZ (parseA s.data.toList)) ∧ Below w.heap.size w w' := by
  have S := Ats.start w
  have h1 := fun w => contains_any s w
  have h2 := fun w (h : P10 w) (h' : MX w) => parse_any8 s w hs h h'
  have h3 := fun w (h : P10 w) => parse_any s w hs h
  have hE : parseA s.data.toList = if colB s.data.toList = true then colonE s.data.toList else ⟨(parseE s.data.toList).fam, (parseE s.data.toList).ip, 0, (parseE s.data.toList).err⟩ := rfl
  have hl := parseA_len s.data.toList
  obtain ⟨R, hR⟩ : ∃ R, R = parseA s.data.toList := ⟨_, rfl⟩
  rw [← hR] at hE hl ⊢
  obtain ⟨b, hb⟩ : ∃ b, b = colB s.data.toList := ⟨_, rfl⟩
  rw [← hb] at hE h1
  have hPd : ∀ wr L, Ats w.heap.size w wr L → P10 wr := fun wr L h => hP.below (Nat.le_refl _) h.below
  have hMd : ∀ wr L, Ats w.heap.size w wr L → MX wr := fun wr L h => hM.below (Nat.le_refl _) h.below
  have HPd := Lib.hid hPd
  have HMd := Lib.hid hMd
  have H1 := Lib.hid h1
  have H2 := Lib.hid h2
  clear h1 h2 hPd hMd hP hM hR hb
  cases b with
  | true =>
    rw [if_pos rfl] at hE
    rw [← hE] at H2
    have H2' := H2
    simp only [adTupZ] at H2'
    have has := adSize R.fam R.ip R.zone hl
    obtain ⟨f, ip, z, er⟩ := R
    simp only at H2' has hl
    clear H2 hE h3
    go_enter Tryd.func5, Tryd.ntmps5
    go_wp2_with (first
      | ((with_reducible show wpList _ _ _ (Oper.mk (some 2) (Op.alloc _) _ _ _ _ :: _) _ _); refine wpList_allocS rfl _ rfl _ adZero S ?_; clear S; intro gr w1 S)
      | ((with_reducible refine (H1.out _).mono ?_); rintro e w2 ⟨rfl, hq⟩; subst hq)
      | ((with_reducible refine (H2'.out _ (HPd.out _ _ S) (HMd.out _ _ S)).mono ?_); rintro e w2 ⟨rfl, hb⟩; have S := S.call hb; clear hb)
      | ((with_reducible show wpList _ _ _ (Oper.mk _ (Op.store _ (Operand.tmp 2) _) _ _ _ _ :: _) _ _); refine wpList_storeS rfl _ _ _ rfl S _ rfl _ rfl 0 _ _ rfl has (by exact ad_sizes _ _ _ _ _ _ rfl hl) (by exact adCs_one _ _ _) ?_; clear S; intro w1 S; (first | simp only [List.set_cons_zero] at S | simp only [List.set_cons_succ, List.set_cons_zero] at S | skip)))
    exact bodyPost_ret (results_cell2S rfl _ S _ 0 _ _ _ rfl rfl Tryd.underlying25 rfl has) rfl ⟨rfl, S.below⟩
  | false =>
    rw [if_neg (by decide)] at hE
    simp only [adTup] at h3
    obtain ⟨f, ip, z, er⟩ := R
    injection hE with e1 e2 e3 e4
    rw [← e1, ← e2, ← e4] at h3
    subst e3
    have has := adSize f ip 0 hl
    have H3 := Lib.hid h3
    clear H2 h3 e1 e2 e4
    simp only at hl
    go_enter Tryd.func5, Tryd.ntmps5
    go_wp2_with (first
      | ((with_reducible show wpList _ _ _ (Oper.mk (some 2) (Op.alloc _) _ _ _ _ :: _) _ _); refine wpList_allocS rfl _ rfl _ adZero S ?_; clear S; intro gr w1 S)
      | ((with_reducible refine (H1.out _).mono ?_); rintro e w2 ⟨rfl, hq⟩; subst hq)
      | ((with_reducible refine (H3.out _ (HPd.out _ _ S)).mono ?_); rintro e w2 ⟨rfl, hb⟩; have S := S.call hb; clear hb)
      | ((with_reducible show wpList _ _ _ (Oper.mk _ (Op.store _ (Operand.tmp 2) _) _ _ _ _ :: _) _ _); refine wpList_storeS rfl _ _ _ rfl S _ rfl _ rfl 0 _ _ rfl has (by exact ad_sizes _ _ _ _ _ _ rfl hl) (by exact adCs_one _ _ _) ?_; clear S; intro w1 S; (first | simp only [List.set_cons_zero] at S | simp only [List.set_cons_succ, List.set_cons_zero] at S | skip)))
    exact bodyPost_ret (results_cell2S rfl _ S _ 0 _ _ _ rfl rfl Tryd.underlying25 rfl has) rfl ⟨rfl, S.below⟩
end Go.Proofs.YthbdeafbdmbabaaDoor
namespace Go.Proofs.YthbdeafbdmbabaaDoor
open Go.RowKit Go
set_option linter.unusedVariables false
set_option maxRecDepth 100000
theorem lit_quad (a b c d : UInt8) (h : colB (quadT a b c d) = false) : parseA (quadT a b c d) = ⟨4, quad16 a b c d, 0, 0⟩ := by
  unfold parseA
  rw [if_neg (by rw [h]; decide), quadT_parse]
theorem quadT_colB (a b c d : UInt8) : colB (quadT a b c d) = false := by
  unfold colB
  rw [decide_eq_false_iff_not]
  intro h
  rcases quadT_chars a b c d 58 h with h | h
  · revert h; decide
  · revert h; decide
def t127 : List UInt8 := [49, 50, 55, 46, 48, 46, 48, 46, 48]
theorem quadT_lit (a b c d : UInt8) (l : List UInt8) (h : decX a.toNat ++ 46 :: (decX b.toNat ++ 46 :: (decX c.toNat ++ 46 :: decX d.toNat)) = l) : quadT a b c d = l := by
  unfold quadT
  rw [decX_eq _ (by have := UInt8.toNat_lt a; omega), decX_eq _ (by have := UInt8.toNat_lt b; omega), decX_eq _ (by have := UInt8.toNat_lt c; omega), decX_eq _ (by have := UInt8.toNat_lt d; omega)]
  exact h
end Go.Proofs.YthbdeafbdmbabaaDoor
