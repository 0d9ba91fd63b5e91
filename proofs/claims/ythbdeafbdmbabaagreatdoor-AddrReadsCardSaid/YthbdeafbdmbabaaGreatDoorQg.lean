/- Texts behind a law of this seat, in order: Addr6, Addr7, Ref9c, Ref9d, Ref9e. -/
import Derived.Test.YthbdeafbdmbabaaGreatDoorPa
import Derived.Test.YthbdeafbdmbabaaGreatDoorPb
import Derived.Test.YthbdeafbdmbabaaGreatDoorPc
import Derived.Test.YthbdeafbdmbabaaGreatDoorPd
import Derived.Test.YthbdeafbdmbabaaGreatDoorPe
import Derived.Test.YthbdeafbdmbabaaGreatDoorPf
import Derived.Test.YthbdeafbdmbabaaGreatDoorPg
import Derived.Test.YthbdeafbdmbabaaGreatDoorPh
import Derived.Test.YthbdeafbdmbabaaGreatDoorPi
import Derived.Test.YthbdeafbdmbabaaGreatDoorPj
import Derived.Test.YthbdeafbdmbabaaGreatDoorPk
import Derived.Test.YthbdeafbdmbabaaGreatDoorPl
import Derived.Test.YthbdeafbdmbabaaGreatDoorPm
import Derived.Test.YthbdeafbdmbabaaGreatDoorPn
import Derived.Test.YthbdeafbdmbabaaGreatDoorPo
import Derived.Test.YthbdeafbdmbabaaGreatDoorPp
import Derived.Test.YthbdeafbdmbabaaGreatDoorPq
import Derived.Test.YthbdeafbdmbabaaGreatDoorPr
import Derived.Test.YthbdeafbdmbabaaGreatDoorPs
import Derived.Test.YthbdeafbdmbabaaGreatDoorPt
import Derived.Test.YthbdeafbdmbabaaGreatDoorPu
import Derived.Test.YthbdeafbdmbabaaGreatDoorPv
import Derived.Test.YthbdeafbdmbabaaGreatDoorPw
import Derived.Test.YthbdeafbdmbabaaGreatDoorPx
import Derived.Test.YthbdeafbdmbabaaGreatDoorPy
import Derived.Test.YthbdeafbdmbabaaGreatDoorPz
import Derived.Test.YthbdeafbdmbabaaGreatDoorQa
import Derived.Test.YthbdeafbdmbabaaGreatDoorQc
import Derived.Test.YthbdeafbdmbabaaGreatDoorQd
import Derived.Test.YthbdeafbdmbabaaGreatDoorQe
import Derived.Test.YthbdeafbdmbabaaGreatDoorQf
import Derived.Below
import Derived.BigQuiet
import Derived.BigRegion
import Derived.ChangeSlices
import Derived.Deep.AppendLies
import Derived.Deep.Draws
import Derived.Deep.OwnRows
import Derived.Deep.Quiet
import Derived.Deep.QuietTactic
import Derived.Deep.RegionLaw
import Derived.Great.Ranges
import Derived.Handed
import Derived.Handy
import Derived.Laws.AppendOwnNone
import Derived.Laws.Bits64b
import Derived.Laws.BitsAllLaws
import Derived.Laws.CopyOwn
import Derived.Laws.OwnMore
import Derived.Laws.Rows
import Derived.Laws.StructEq
import Derived.Lib.AppendZeros
import Derived.Lib.AppendZerosOnto
import Derived.Lib.Bytealg
import Derived.Lib.DecodeN
import Derived.Lib.Hide
import Derived.Lib.ItoaLen
import Derived.Lib.ItoaMem
import Derived.Lib.ItoaNum
import Derived.Lib.Join
import Derived.Lib.Overlaps
import Derived.Lib.RuneBytes
import Derived.Lib.SmallJoins
import Derived.Lib.Split
import Derived.Lib.SplitLaws
import Derived.Lib.Strings
import Derived.OpenShut
import Derived.Shelf.LaysM
import Derived.Shelf.Small.Bits
import Derived.Shelf.Small.Strs
import Derived.Shelf.Strconv.Itoa0
import Derived.Shelf.Strconv.Itoa1
import Derived.Shelf.Strconv.Itoa2
import Derived.Shelf.Strconv.Itoa3
import Derived.Shelf.Strings.Builder1
import Derived.Shelf.Strings.Builder2
import Derived.Shelf.Strings.Builder2Cap
import Derived.Shelf.Strings.BuilderCap
import Derived.Shelf.Strings.BuilderF
import Derived.Shelf.Strings.BuilderK
import Derived.Shelf.Strings.Count
import Derived.Shelf.Strings.Cut
import Derived.Shelf.Strings.OnBuilder
import Derived.Shelf.Strings.Prefix
import Derived.Shelf.Strings.Search1
import Derived.Shelf.Strings.Search2
import Derived.Shelf.Strings.Search3
import Derived.Shelf.Strings.Shaped
import Derived.Shelf.Strings.Split
import Derived.Shelf.Strings.SplitShaped
import Derived.Shelf.Unicode.Decode
import Derived.Shelf.Unicode.DecodeAny
import Derived.Shelf.Unicode.DecodeSlow
import Derived.SizedLaws
import Derived.SliceStrings
import Derived.Stop.BytesEq
import Derived.Test.YthbdeafbdmbabaaGreatDoorProg
import Derived.WalkKit
import Derived.WalkLawsBesides
import Derived.WalkSpells
namespace Go.Proofs.YthbdeafbdmbabaaGreatDoor
open Go.RowKit Go
set_option linter.unusedVariables false
set_option maxRecDepth 100000
def lInaddr : List UInt8 := [105, 110, 45, 97, 100, 100, 114]
def lIp6 : List UInt8 := [105, 112, 54]
def lArpa : List UInt8 := [97, 114, 112, 97]
def hex2 (b : UInt8) : List (List UInt8) := [[hexC (b.toNat % 16)], [hexC (b.toNat / 16)]]
def rev4 (ip : List UInt8) (k : Nat) : List (List UInt8) := (List.range k).map fun i => Lib.decDigits (ip.getD (3 - i) 0).toNat
def rev6 (ip : List UInt8) (k : Nat) : List (List UInt8) := (List.range k).flatMap fun i => hex2 (ip.getD (15 - i) 0)
def revL (f : Int) (ip : List UInt8) : List (List UInt8) := if f = 4 then rev4 ip 4 ++ [lInaddr, lArpa] else if f = 6 then rev6 ip 16 ++ [lIp6, lArpa] else []
theorem rev4_succ (ip : List UInt8) (k : Nat) : rev4 ip (k + 1) = rev4 ip k ++ [Lib.decDigits (ip.getD (3 - k) 0).toNat] := by
  unfold rev4; rw [List.range_succ, List.map_append]; rfl
theorem rev6_succ (ip : List UInt8) (k : Nat) : rev6 ip (k + 1) = rev6 ip k ++ hex2 (ip.getD (15 - k) 0) := by
  unfold rev6; rw [List.range_succ, List.flatMap_append]; simp
theorem rev4_len (ip : List UInt8) (k : Nat) : (rev4 ip k).length = k := by simp [rev4]
theorem rev6_len (ip : List UInt8) (k : Nat) : (rev6 ip k).length = 2 * k := by
  induction k with
  | zero => rfl
  | succ k ih => rw [rev6_succ, List.length_append, ih]; simp [hex2]; omega
/-- 'out = append(out, x, y)' beside blocks of other types -/
theorem wpList_app2S {P : Program} {ops : Array Oper} {rest : List Oper} {o : Oper} {a : Act} {Q : Exit → Act → World → Prop} {B : Nat} {w0 : World} {L : List (Nat × TypeId × Array Value)} {w1 : World} (hgd : o.guard = none) (s x : Operand) (t e : TypeId)
    (ho : o.op = .call { callee := .builtin .append, args := #[s, x], argTypes := #[t, t] }) (ht : P.underlying t = some (.slice e)) {z : Value} {bytes : Nat} (hI : Elem1 P e z bytes) (hzs : z.cells.size = 1)
    (base : Nat) (v : Value) (n : Nat) (xs : List Value) (u1 u2 : Value) (hs : a.eval s = v) (hx : a.eval x = .slice (some ⟨w1.heap.size, 0, none⟩) 2 2) (hown : w1.ownsRow base e 1 v n xs) (S : Ats B w0 w1 L) (hne : ∀ y ∈ L, e ≠ y.2.1) (hBb : B ≤ base)
    (hu1 : u1.oneCell' = true) (hu2 : u2.oneCell' = true) (hb : (n + 2) * bytes ≤ 140737488355328) (hn : n + 2 ≤ 140737488355328) (hbase : base ≤ w1.heap.size)
    (h : ∀ v' w', w'.ownsRow base e 1 v' (n + 2) (xs ++ [u1, u2]) → Ats B w0 w' L → wpList P ops Q rest (a.put o.dst v') w') : wpList P ops Q (o :: rest) a (w1.alloc (.cells #[u1, u2] e)) := by
  obtain ⟨i, hi, hz, h1, h2⟩ := info_parts hI
  refine wpList_append_own (w1.alloc (.cells #[u1, u2] e)) hgd s x t ho base e i z 1 bytes ht hi hz h1 h2 hzs (by decide) v n xs hs (hown.alloc _) ⟨w1.heap.size, 0, none⟩ 2 2 [u1, u2] hx rfl ?_ ?_ ?_ hb ?_ ?_
  · intro j y hj
    match j, hj with
    | 0, hj => simp at hj; subst hj; simp [Addr.add]
    | 1, hj => simp at hj; subst hj; simp [Addr.add]
  · intro y hy
    simp at hy
    rcases hy with rfl | rfl
    · exact hu1
    · exact hu2
  · unfold maxLen; omega
  · simp; omega
  · intro v' w' hown' hgrow hnil
    refine h v' w' hown' ?_
    have Sa := S.add e #[u1, u2]
    refine ⟨S.below.trans ?_, ?_, fun y hy => ⟨(S.at_ y hy).1, ?_⟩, S.apart⟩
    · refine ((Below.refl B w1).alloc S.big _).grown hgrow (by simp; have := S.big; omega) (fun k hk => ?_)
      exact Nat.le_trans hBb (hown.lt k hk).1
    · have := hgrow.size
      simp at this
      have := S.big
      omega
    · exact ((S.at_ y hy).2.alloc _).grown hgrow ((S.at_ y hy).2.own_ne hown (hne y hy))
set_option maxHeartbeats 1000000 in
theorem digit_any (c : Nat) (hc : c < 16) (w : World) (hD : DB w) : Calls Tryz.prog 40 #[.int .u8 c] w fun e w' => e = .returned (.string ⟨#[hexC c]⟩) ∧ Below w.heap.size w w' := by
  have h1 := fmt16_any c w (by omega) hD
  rw [hexL_lo hc] at h1
  have H1 := Lib.hid h1
  have hw : IntKind.u64.wrap (c : Int) = c := by
    have h0 : ∀ d : Fin 16, IntKind.u64.wrap ((d.val : Nat) : Int) = d.val := by decide +kernel
    exact h0 ⟨c, hc⟩
  clear h1
  go_enter Tryz.func40, Tryz.ntmps40
  go_wp2_with ((with_reducible refine (H1.out).mono ?_); rintro e w2 ⟨rfl, hb⟩)
  go_ret
  exact ⟨rfl, hb⟩
theorem hex2_vals (b : UInt8) (L : List (List UInt8)) : strVs L ++ [Value.string ⟨#[hexC (b.toNat % 16)]⟩, Value.string ⟨#[hexC (b.toNat / 16)]⟩] = strVs (L ++ hex2 b) := by
  simp [strVs, hex2, strV]
theorem two_vals (x y : List UInt8) (L : List (List UInt8)) : strVs L ++ [Value.string ⟨x.toArray⟩, Value.string ⟨y.toArray⟩] = strVs (L ++ [x, y]) := by
  simp [strVs, strV]
theorem own_app2 {w : World} {base e : Nat} {v : Value} {L : List (List UInt8)} (x y : List UInt8) (h : w.ownsRow base e 1 v (L.length + 2) (strVs L ++ [Value.string ⟨x.toArray⟩, Value.string ⟨y.toArray⟩])) : w.ownsRow base e 1 v (L ++ [x, y]).length (strVs (L ++ [x, y])) := by
  rw [two_vals] at h
  simpa using h
theorem ne_ad (ga : Nat) (cs : Array Value) : ∀ y ∈ [((ga, 24, cs) : Nat × TypeId × Array Value)], 9 ≠ y.2.1 := by
  intro y hy
  rw [List.mem_singleton] at hy
  subst hy
  show (9 : Nat) ≠ 24
  decide
theorem shr4 (c : UInt8) : (c.toNat : Int) / 16 = ((c.toNat / 16 : Nat) : Int) := by omega
set_option maxHeartbeats 4000000 in
theorem aReverse_any (f z : Int) (ip : List UInt8) (w : World) (hip : ip.length = 16) (hP : P10 w) (hD : DB w) :
    Calls Tryz.prog 21 #[adV f ip z] w fun e w' => ∃ A' c', e = .returned (.slice A' (revL f ip).length c') ∧ TextsAt w' A' (revL f ip).length (revL f ip) ∧ Below w.heap.size w w' := by
  have S := Ats.start w
  have hf := ad_fam f z ip
  have hPd : ∀ wr L, Ats w.heap.size w wr L → P10 wr := fun wr L h => hP.below (Nat.le_refl _) h.below
  have hDd : ∀ wr L, Ats w.heap.size w wr L → DB wr := fun wr L h => hD.below (Nat.le_refl _) h.below
  have HPd := Lib.hid hPd
  have HDd := Lib.hid hDd
  clear hPd hDd hP hD
  rcases fam3 f with rfl | rfl | hn
  · have hr : revL 4 ip = rev4 ip 4 ++ [lInaddr, lArpa] := rfl
    obtain ⟨R, hR⟩ : ∃ R, R = revL 4 ip := ⟨_, rfl⟩
    rw [← hR] at hr ⊢
    have HR := Lib.hid hr
    clear hr hR
    go_enter Tryz.func21, Tryz.ntmps21
    go_wp2_with (first
      | ((with_reducible show wpList _ _ _ (Oper.mk _ (Op.box _ _) _ _ _ _ :: _) _ _); refine wpList_boxS rfl _ _ rfl (adCs 4 ip z).toArray rfl S ?_; clear S; intro ga w1 S)
      | ((with_reducible show wpList _ _ _ (Oper.mk _ (Op.load _ _) _ _ _ _ :: _) _ _); refine wpList_cellS rfl _ _ rfl S _ _ rfl 0 _ _ rfl _ Tryz.underlying3 rfl _ (by with_reducible exact hf) ?_))
    go_loopw [3, 11] (fun v i wr => ∃ k : Nat, k ≤ 4 ∧ i = .int .i64 k ∧ wr.ownsRow w.heap.size 9 1 v (rev4 ip k).length (strVs (rev4 ip k)) ∧ Ats w.heap.size w wr [(ga, 24, (adCs 4 ip z).toArray)]) (fun _ i _ => 4 - (intOf i).toNat)
    case atStart => exact ⟨0, Nat.zero_le _, rfl, World.ownsRow_nil _ _ _ _, S⟩
    case round =>
      obtain ⟨k, hk, rfl, hown, S⟩ := hrel
      by_cases hlt : k < 4
      · have c0 := ad_at 4 z ip (3 - k) hip (by omega)
        rw [show ((3 - k : Nat)) = 3 - k from rfl] at c0
        have e1 : IntKind.i64.wrap (3 - (k : Int)) = ((3 - k : Nat) : Int) := by rw [IntWalk.i64_in _ (by omega)]; omega
        have b1 : (3 - k : Nat) < 16 := by omega
        have hs := rev4_succ ip k
        have hl := rev4_len ip k
        obtain ⟨x, hx⟩ : ∃ x, x = ip.getD (3 - k) 0 := ⟨_, rfl⟩
        obtain ⟨j, hj⟩ : ∃ j : Nat, j = 3 - k := ⟨_, rfl⟩
        obtain ⟨L, hL⟩ : ∃ L, L = rev4 ip k := ⟨_, rfl⟩
        rw [← hx] at c0 hs
        rw [← hj] at c0 e1 b1
        rw [← hL] at hs hl hown
        have hdg := fun w (h : P10 w) => digitsU_any x w h
        have HDG := Lib.hid hdg
        have C0 := Lib.hid c0
        have HS := Lib.hid hs
        have HLT := Lib.hid hlt
        have HL := Lib.hid hl
        have hwx := wrapU8 x
        have d1 : decide ((k : Int) < 4) = true := decide_eq_true (by omega)
        have hL4 : L.length ≤ 4 := by omega
        clear c0 hs hx hj hL hdg hl
        go_wp2_with (first
          | ((with_reducible show wpList _ _ _ (Oper.mk _ (Op.load _ _) _ _ _ _ :: _) _ _); refine wpList_cellS rfl _ _ rfl S _ _ rfl 0 _ _ rfl _ Tryz.underlying5 rfl _ (by with_reducible exact C0.out) ?_))
        with_reducible refine (HDG.out _ (HPd.out _ _ S)).mono ?_
        rintro e w2 ⟨rfl, hb⟩
        have hown := ownsRow_below hown hb
        have S := S.call hb
        have hsz := S.below.size
        have hne := ne_ad ga (adCs 4 ip z).toArray
        clear hb
        go_wp2_with (at_builtin; refine wpList_app1S rfl (.tmp 14) (.tmp 22) 34 9 rfl Tryz.underlying34 elem9 rfl w.heap.size _ L.length _ _ rfl rfl hown S hne (Nat.le_refl _) rfl (by omega) (by omega) hsz ?_)
        intro v' w' hown' S'
        have hown2 := own_app1 hown'
        rw [← HS.out] at hown2
        clear hown' S hown
        go_wp2_with fail
        go_roundw
        case rel => exact ⟨k + 1, by have := HLT.out; omega, by go_num, hown2, S'⟩
        case measure => have := HLT.out; simp [intOf]; omega
      · obtain rfl : k = 4 := by omega
        have hl := rev4_len ip 4
        have hr := HR.out
        obtain ⟨L, hL⟩ : ∃ L, L = rev4 ip 4 := ⟨_, rfl⟩
        rw [← hL] at hl hown hr
        have HR2 := Lib.hid hr
        have hsz := S.below.size
        have hne := ne_ad ga (adCs 4 ip z).toArray
        have hL4 : L.length ≤ 4 := by omega
        clear hL hl HR hr hlt
        go_wp2_with (at_builtin; refine wpList_app2S rfl (.tmp 25) (.tmp 26) 34 9 rfl Tryz.underlying34 elem9 rfl w.heap.size _ L.length _ _ _ rfl rfl hown S hne (Nat.le_refl _) rfl rfl (by omega) (by omega) hsz ?_)
        intro v' w' hown' S'
        have hown2 := own_app2 lInaddr lArpa hown'
        rw [← HR2.out] at hown2
        obtain ⟨A2, c2, rfl, hta⟩ := TextsAt.of_own hown2
        clear hown' hown2 hown S
        go_wp2_with fail
        go_ret
        exact ⟨A2, c2, rfl, hta, S'.below⟩
  · have hr : revL 6 ip = rev6 ip 16 ++ [lIp6, lArpa] := rfl
    obtain ⟨R, hR⟩ : ∃ R, R = revL 6 ip := ⟨_, rfl⟩
    rw [← hR] at hr ⊢
    have HR := Lib.hid hr
    clear hr hR
    go_enter Tryz.func21, Tryz.ntmps21
    go_wp2_with (first
      | ((with_reducible show wpList _ _ _ (Oper.mk _ (Op.box _ _) _ _ _ _ :: _) _ _); refine wpList_boxS rfl _ _ rfl (adCs 6 ip z).toArray rfl S ?_; clear S; intro ga w1 S)
      | ((with_reducible show wpList _ _ _ (Oper.mk _ (Op.load _ _) _ _ _ _ :: _) _ _); refine wpList_cellS rfl _ _ rfl S _ _ rfl 0 _ _ rfl _ Tryz.underlying3 rfl _ (by with_reducible exact hf) ?_))
    go_loopw [3, 30] (fun v i wr => ∃ k : Nat, k ≤ 16 ∧ i = .int .i64 k ∧ wr.ownsRow w.heap.size 9 1 v (rev6 ip k).length (strVs (rev6 ip k)) ∧ Ats w.heap.size w wr [(ga, 24, (adCs 6 ip z).toArray)]) (fun _ i _ => 16 - (intOf i).toNat)
    case atStart => exact ⟨0, Nat.zero_le _, rfl, World.ownsRow_nil _ _ _ _, S⟩
    case round =>
      obtain ⟨k, hk, rfl, hown, S⟩ := hrel
      by_cases hlt : k < 16
      · have c0 := ad_at 6 z ip (15 - k) hip (by omega)
        have e1 : IntKind.i64.wrap (15 - (k : Int)) = ((15 - k : Nat) : Int) := by rw [IntWalk.i64_in _ (by omega)]; omega
        have b1 : (15 - k : Nat) < 16 := by omega
        have hs := rev6_succ ip k
        have hl := rev6_len ip k
        obtain ⟨x, hx⟩ : ∃ x, x = ip.getD (15 - k) 0 := ⟨_, rfl⟩
        obtain ⟨j, hj⟩ : ∃ j : Nat, j = 15 - k := ⟨_, rfl⟩
        obtain ⟨L, hL⟩ : ∃ L, L = rev6 ip k := ⟨_, rfl⟩
        rw [← hx] at c0 hs
        rw [← hj] at c0 e1 b1
        rw [← hL] at hs hl hown
        have hx256 := UInt8.toNat_lt x
        have ha := and15B x
        have hb := shr4 x
        have hd1 := fun w (h : DB w) => digit_any (x.toNat % 16) (by omega) w h
        have hd2 := fun w (h : DB w) => digit_any (x.toNat / 16) (by omega) w h
        have hv := hex2_vals x L
        obtain ⟨q1, hq1⟩ : ∃ q, q = x.toNat % 16 := ⟨_, rfl⟩
        obtain ⟨q2, hq2⟩ : ∃ q, q = x.toNat / 16 := ⟨_, rfl⟩
        rw [← hq1] at hd1 ha hv
        rw [← hq2] at hd2 hb hv
        have HD1 := Lib.hid hd1
        have HD2 := Lib.hid hd2
        have C0 := Lib.hid c0
        have HS := Lib.hid hs
        have HV := Lib.hid hv
        have HLT := Lib.hid hlt
        have d1 : decide ((k : Int) < 16) = true := decide_eq_true (by omega)
        have hL4 : L.length ≤ 32 := by omega
        have hLL : (L ++ hex2 x).length = L.length + 2 := by rw [List.length_append]; rfl
        have HLL := Lib.hid hLL
        clear c0 hs hx hj hL hl hd1 hd2 hq1 hq2 hv hLL hx256
        go_wp2_with (first
          | ((with_reducible show wpList _ _ _ (Oper.mk _ (Op.load _ _) _ _ _ _ :: _) _ _); refine wpList_cellS rfl _ _ rfl S _ _ rfl 0 _ _ rfl _ Tryz.underlying5 rfl _ (by with_reducible exact C0.out) ?_))
        with_reducible refine (HD1.out _ (HDd.out _ _ S)).mono ?_
        rintro e w2 ⟨rfl, hb1⟩
        have hown := ownsRow_below hown hb1
        have S := S.call hb1
        clear hb1
        go_wp2_with fail
        with_reducible refine (HD2.out _ (HDd.out _ _ S)).mono ?_
        rintro e w3 ⟨rfl, hb1⟩
        have hown := ownsRow_below hown hb1
        have S := S.call hb1
        have hsz := S.below.size
        have hne := ne_ad ga (adCs 6 ip z).toArray
        clear hb1
        go_wp2_with (at_builtin; refine wpList_app2S rfl (.tmp 38) (.tmp 45) 34 9 rfl Tryz.underlying34 elem9 rfl w.heap.size _ L.length _ _ _ rfl rfl hown S hne (Nat.le_refl _) rfl rfl (by omega) (by omega) hsz ?_)
        intro v' w' hown' S'
        rw [HV.out, ← HLL.out, ← HS.out] at hown'
        clear S hown
        go_wp2_with fail
        go_roundw
        case rel => exact ⟨k + 1, by have := HLT.out; omega, by go_num, hown', S'⟩
        case measure => have := HLT.out; simp [intOf]; omega
      · obtain rfl : k = 16 := by omega
        have hl := rev6_len ip 16
        have hr := HR.out
        obtain ⟨L, hL⟩ : ∃ L, L = rev6 ip 16 := ⟨_, rfl⟩
        rw [← hL] at hl hown hr
        have HR2 := Lib.hid hr
        have hsz := S.below.size
        have hne := ne_ad ga (adCs 6 ip z).toArray
        have hL4 : L.length ≤ 32 := by omega
        clear hL hl HR hr hlt
        go_wp2_with (at_builtin; refine wpList_app2S rfl (.tmp 48) (.tmp 49) 34 9 rfl Tryz.underlying34 elem9 rfl w.heap.size _ L.length _ _ _ rfl rfl hown S hne (Nat.le_refl _) rfl rfl (by omega) (by omega) hsz ?_)
        intro v' w' hown' S'
        have hown2 := own_app2 lIp6 lArpa hown'
        rw [← HR2.out] at hown2
        obtain ⟨A2, c2, rfl, hta⟩ := TextsAt.of_own hown2
        clear hown' hown2 hown S
        go_wp2_with fail
        go_ret
        exact ⟨A2, c2, rfl, hta, S'.below⟩
  · have h4 : (f == 4) = false := by simpa using hn.1
    have h6 : (f == 6) = false := by simpa using hn.2
    have hr : revL f ip = [] := by unfold revL; rw [if_neg hn.1, if_neg hn.2]
    rw [hr]
    clear hn hr
    go_enter Tryz.func21, Tryz.ntmps21
    go_wp2_with (first
      | ((with_reducible show wpList _ _ _ (Oper.mk _ (Op.box _ _) _ _ _ _ :: _) _ _); refine wpList_boxS rfl _ _ rfl (adCs f ip z).toArray rfl S ?_; clear S; intro ga w1 S)
      | ((with_reducible show wpList _ _ _ (Oper.mk _ (Op.load _ _) _ _ _ _ :: _) _ _); refine wpList_cellS rfl _ _ rfl S _ _ rfl 0 _ _ rfl _ Tryz.underlying3 rfl _ (by with_reducible exact hf) ?_))
    go_ret
    exact ⟨none, 0, rfl, ⟨rfl, fun h => absurd h (by decide)⟩, S.below⟩
end Go.Proofs.YthbdeafbdmbabaaGreatDoor
namespace Go.Proofs.YthbdeafbdmbabaaGreatDoor
open Go.RowKit Go
set_option linter.unusedVariables false
set_option maxRecDepth 100000
def colB (l : List UInt8) : Bool := decide ((58 : UInt8) ∈ l)
theorem colB_index (l : List UInt8) : decide ((0 : Int) ≤ Lib.index l [58]) = colB l := by
  unfold colB
  rw [decide_eq_decide]
  constructor
  · intro h
    exact Decidable.byContradiction fun hm => by
      rw [index_noneX 58 l hm] at h
      omega
  · intro hm
    obtain ⟨a, b, rfl, ha⟩ := List.eq_append_cons_of_mem hm
    rw [index_hitX 58 a b ha]
    omega
set_option maxHeartbeats 1000000 in
theorem contains_any (s : ByteArray) (w : World) : Calls Tryz.prog 42 #[.string s, .string ⟨#[58]⟩] w fun e w' => e = .returned (.bool (colB s.data.toList)) ∧ w = w' := by
  have h1 := fun w => colIndex_any s w
  have hd := colB_index s.data.toList
  have he : Lib.indexB s ⟨#[58]⟩ = Lib.index s.data.toList [58] := rfl
  rw [he] at h1
  obtain ⟨i, hi⟩ : ∃ i, i = Lib.index s.data.toList [58] := ⟨_, rfl⟩
  obtain ⟨b, hb⟩ : ∃ b, b = colB s.data.toList := ⟨_, rfl⟩
  rw [← hi, ← hb] at hd
  rw [← hi] at h1
  rw [← hb]
  have H1 := Lib.hid h1
  clear h1 he hi hb
  go_enter Tryz.func42, Tryz.ntmps42
  go_wp2_with ((with_reducible refine (H1.out _).mono ?_); rintro e w2 ⟨rfl, hq⟩; subst hq)
  go_ret
  exact ⟨rfl, rfl⟩
def parseA (l : List UInt8) : AdZ := if colB l = true then colonE l else ⟨(parseE l).fam, (parseE l).ip, 0, (parseE l).err⟩
theorem parseA_len (l : List UInt8) : (parseA l).ip.length = 16 := by
  unfold parseA
  split
  · exact colonE_len l
  · exact parseE_len l
set_option maxHeartbeats 1000000 in
theorem aParse_any (s : ByteArray) (w : World) (hs : s.size ≤ 4000) (hP : P10 w) (hM : MX w) :
    Calls Tryz.prog 24 #[.string s] w fun e w' => e = .returned (adTupZ (parseA s.data.toList)) ∧ Below w.heap.size w w' := by
  have S := Ats.start w
  have h1 := fun w => contains_any s w
  have h2 := fun w (h : P10 w) (h' : MX w) => parse_any8 s w hs h h'
  have h3 := fun w (h : P10 w) => parse_any s w hs h
  have hE : parseA s.data.toList = if colB s.data.toList = true then colonE s.data.toList else ⟨(parseE s.data.toList).fam, (parseE s.data.toList).ip, 0, (parseE s.data.toList).err⟩ := rfl
  have hl := parseA_len s.data.toList
  obtain ⟨R, hR⟩ : ∃ R, R = parseA s.data.toList := ⟨_, rfl⟩
  rw [← hR] at hE hl ⊢
  obtain ⟨b, hb⟩ : ∃ b, b = colB s.data.toList := ⟨_, rfl⟩
  rw [← hb] at hE h1
  have hPd : ∀ wr L, Ats w.heap.size w wr L → P10 wr := fun wr L h => hP.below (Nat.le_refl _) h.below
  have hMd : ∀ wr L, Ats w.heap.size w wr L → MX wr := fun wr L h => hM.below (Nat.le_refl _) h.below
  have HPd := Lib.hid hPd
  have HMd := Lib.hid hMd
  have H1 := Lib.hid h1
  have H2 := Lib.hid h2
  clear h1 h2 hPd hMd hP hM hR hb
  cases b with
  | true =>
    rw [if_pos rfl] at hE
    rw [← hE] at H2
    have H2' := H2
    simp only [adTupZ] at H2'
    have has := adSize R.fam R.ip R.zone hl
    obtain ⟨f, ip, z, er⟩ := R
    simp only at H2' has hl
    clear H2 hE h3
    go_enter Tryz.func24, Tryz.ntmps24
    go_wp2_with (first
      | ((with_reducible show wpList _ _ _ (Oper.mk (some 2) (Op.alloc _) _ _ _ _ :: _) _ _); refine wpList_allocS rfl _ rfl _ adZero S ?_; clear S; intro gr w1 S)
      | ((with_reducible refine (H1.out _).mono ?_); rintro e w2 ⟨rfl, hq⟩; subst hq)
      | ((with_reducible refine (H2'.out _ (HPd.out _ _ S) (HMd.out _ _ S)).mono ?_); rintro e w2 ⟨rfl, hb⟩; have S := S.call hb; clear hb)
      | ((with_reducible show wpList _ _ _ (Oper.mk _ (Op.store _ (Operand.tmp 2) _) _ _ _ _ :: _) _ _); refine wpList_storeS rfl _ _ _ rfl S _ rfl _ rfl 0 _ _ rfl has (by exact ad_sizes _ _ _ _ _ _ rfl hl) (by exact adCs_one _ _ _) ?_; clear S; intro w1 S; (first | simp only [List.set_cons_zero] at S | simp only [List.set_cons_succ, List.set_cons_zero] at S | skip)))
    exact bodyPost_ret (results_cell2S rfl _ S _ 0 _ _ _ rfl rfl Tryz.underlying24 rfl has) rfl ⟨rfl, S.below⟩
  | false =>
    rw [if_neg (by decide)] at hE
    simp only [adTup] at h3
    obtain ⟨f, ip, z, er⟩ := R
    injection hE with e1 e2 e3 e4
    rw [← e1, ← e2, ← e4] at h3
    subst e3
    have has := adSize f ip 0 hl
    have H3 := Lib.hid h3
    clear H2 h3 e1 e2 e4
    simp only at hl
    go_enter Tryz.func24, Tryz.ntmps24
    go_wp2_with (first
      | ((with_reducible show wpList _ _ _ (Oper.mk (some 2) (Op.alloc _) _ _ _ _ :: _) _ _); refine wpList_allocS rfl _ rfl _ adZero S ?_; clear S; intro gr w1 S)
      | ((with_reducible refine (H1.out _).mono ?_); rintro e w2 ⟨rfl, hq⟩; subst hq)
      | ((with_reducible refine (H3.out _ (HPd.out _ _ S)).mono ?_); rintro e w2 ⟨rfl, hb⟩; have S := S.call hb; clear hb)
      | ((with_reducible show wpList _ _ _ (Oper.mk _ (Op.store _ (Operand.tmp 2) _) _ _ _ _ :: _) _ _); refine wpList_storeS rfl _ _ _ rfl S _ rfl _ rfl 0 _ _ rfl has (by exact ad_sizes _ _ _ _ _ _ rfl hl) (by exact adCs_one _ _ _) ?_; clear S; intro w1 S; (first | simp only [List.set_cons_zero] at S | simp only [List.set_cons_succ, List.set_cons_zero] at S | skip)))
    exact bodyPost_ret (results_cell2S rfl _ S _ 0 _ _ _ rfl rfl Tryz.underlying24 rfl has) rfl ⟨rfl, S.below⟩
def digV : List UInt8 → Nat
  | [] => 0
  | c :: _ => (hexV c.toNat).toNat
theorem digV_lt (l : List UInt8) : digV l < 16 := by
  cases l with
  | nil => exact (by decide : (0 : Nat) < 16)
  | cons c r => have := hexV_bd c.toNat; show (hexV c.toNat).toNat < 16; omega
set_option maxHeartbeats 1000000 in
theorem aValue_any (l : List UInt8) (w : World) : Calls Tryz.prog 71 #[.string ⟨l.toArray⟩] w fun e w' => e = .returned (.int .u8 (digV l)) ∧ w = w' := by
  cases l with
  | nil =>
    go_enter Tryz.func71, Tryz.ntmps71
    go_wp2
    go_ret
    exact ⟨rfl, rfl⟩
  | cons c r =>
    have hb := hexV_bd c.toNat
    have hc := UInt8.toNat_lt c
    have h1 := fun w => hex_any c.toNat w (by omega) (by omega)
    have hd : ((digV (c :: r) : Nat) : Int) = hexV c.toNat := by show (((hexV c.toNat).toNat : Nat) : Int) = _; omega
    rw [hd]
    obtain ⟨v, hv⟩ : ∃ v, v = hexV c.toNat := ⟨_, rfl⟩
    rw [← hv] at h1 hb ⊢
    have hw : IntKind.u8.wrap v = v := by
      have h0 : ∀ d : Fin 16, IntKind.u8.wrap ((d.val : Nat) : Int) = d.val := by decide +kernel
      obtain ⟨n, rfl⟩ := Int.eq_ofNat_of_zero_le hb.1
      exact h0 ⟨n, by omega⟩
    have H1 := Lib.hid h1
    have hi : (⟨(c :: r).toArray⟩ : ByteArray).data.toList[0]? = some c := rfl
    have he : ((c :: r) == ([] : List UInt8)) = false := rfl
    obtain ⟨s, hs⟩ : ∃ s : ByteArray, s = ⟨(c :: r).toArray⟩ := ⟨_, rfl⟩
    rw [← hs] at hi ⊢
    have hne : s.toList.isEmpty = false := by rw [hs, ByteArray.toList_eq]; rfl
    have hne2 : (s.toList == []) = false := by rw [hs, ByteArray.toList_eq]; rfl
    have hsz : 0 < s.size := by rw [hs]; show 0 < (c :: r).length; simp
    have hs0 : s[0] = c := by
      subst hs
      rfl
    clear h1 hv hd hs he
    go_enter Tryz.func71, Tryz.ntmps71
    go_wp2_with (first
      | ((with_reducible refine (H1.out _).mono ?_); rintro e w2 ⟨rfl, hq⟩; subst hq))
    go_ret
    exact ⟨rfl, rfl⟩
end Go.Proofs.YthbdeafbdmbabaaGreatDoor
namespace Go.Proofs.YthbdeafbdmbabaaGreatDoor
open Go.RowKit Go
set_option linter.unusedVariables false
set_option maxRecDepth 100000
set_option maxHeartbeats 2000000 in
theorem rParse_any (s : ByteArray) (w : World) (hs : s.size ≤ 4000) :
    Calls Tryz.prog 25 #[.string s] w fun e w' => e = .returned (adTupZ (parseA s.data.toList)) ∧ Below w.heap.size w w' := by
  have S := Ats.start w
  have h2 := fun w => refParse8_any s w hs
  have h3 := fun w => refParse07_any s w hs
  have hE : parseA s.data.toList = if colB s.data.toList = true then colonE s.data.toList else ⟨(parseE s.data.toList).fam, (parseE s.data.toList).ip, 0, (parseE s.data.toList).err⟩ := rfl
  have hl := parseA_len s.data.toList
  obtain ⟨R, hR⟩ : ∃ R, R = parseA s.data.toList := ⟨_, rfl⟩
  rw [← hR] at hE hl ⊢
  have HE := Lib.hid hE
  have H2 := Lib.hid h2
  have H3 := Lib.hid h3
  clear hE hR h2 h3
  go_enter Tryz.func25, Tryz.ntmps25
  go_wp2_with (first
    | ((with_reducible show wpList _ _ _ (Oper.mk (some 2) (Op.alloc _) _ _ _ _ :: _) _ _); refine wpList_allocS rfl _ rfl _ adZero S ?_; clear S; intro gr w1 S))
  go_loopw [4] (fun i wr => ∃ k : Nat, k ≤ s.size ∧ i = .int .i64 k ∧ (58 : UInt8) ∉ s.data.toList.take k ∧ Ats w.heap.size w wr [(gr, 24, (adCs 0 zero16 0).toArray)]) (fun i _ => s.size - (intOf i).toNat)
  case atStart => exact ⟨0, Nat.zero_le _, rfl, by simp, S⟩
  case round =>
    obtain ⟨k, hk, rfl, hno, S⟩ := hrel
    have HNO := Lib.hid hno
    clear hno
    by_cases hlt : k < s.size
    · have d1 : decide ((k : Int) < s.size) = true := decide_eq_true (by omega)
      have hts := take_snoc s k hlt
      have HTS := Lib.hid hts
      have hmem : s[k] ∈ s.data.toList := by
        have : s.data.toList[k]'(by simpa using hlt) ∈ s.data.toList := List.getElem_mem _
        exact this
      have HMEM := Lib.hid hmem
      have hbe : (((s[k].toNat : Nat) : Int) == 58) = (s[k] == 58) := by
        rw [Bool.eq_iff_iff, beq_iff_eq, beq_iff_eq]
        constructor
        · intro h
          apply UInt8.toNat_inj.1
          show s[k].toNat = 58
          omega
        · intro h; rw [h]; rfl
      clear hts hmem
      by_cases h58 : s[k] = 58
      · have t0 : (s[k] == 58) = true := by simpa using h58
        rw [t0] at hbe
        have hRE := HE.out
        have hcb : colB s.data.toList = true := by unfold colB; rw [decide_eq_true_eq, ← h58]; exact HMEM.out
        rw [if_pos hcb] at hRE
        have H2' := H2.out
        rw [← hRE] at H2'
        simp only [adTupZ] at H2'
        have has := adSize R.fam R.ip R.zone hl
        obtain ⟨f, ip, z, er⟩ := R
        simp only at H2' has hl
        have H2'' := Lib.hid H2'
        clear H2' hRE hcb t0 h58 HTS HMEM H3
        go_wp2_with (first
          | ((with_reducible refine (H2''.out _).mono ?_); rintro e w2 ⟨rfl, hb⟩; have S := S.call hb; clear hb)
          | ((with_reducible show wpList _ _ _ (Oper.mk _ (Op.store _ (Operand.tmp 2) _) _ _ _ _ :: _) _ _); refine wpList_storeS rfl _ _ _ rfl S _ rfl _ rfl 0 _ _ rfl has (by exact ad_sizes _ _ _ _ _ _ rfl hl) (by exact adCs_one _ _ _) ?_; clear S; intro w1 S; (first | simp only [List.set_cons_zero] at S | simp only [List.set_cons_succ, List.set_cons_zero] at S | skip)))
        exact bodyPost_ret (results_cell2S rfl _ S _ 0 _ _ _ rfl rfl Tryz.underlying24 rfl has) rfl ⟨rfl, S.below⟩
      · have t0 : (s[k] == 58) = false := by simpa using h58
        rw [t0] at hbe
        have H58 := Lib.hid h58
        have HLT := Lib.hid hlt
        clear t0 h58
        go_wp2_with fail
        go_roundw
        case rel =>
          refine ⟨k + 1, by have := HLT.out; omega, by go_num, ?_, S⟩
          rw [HTS.out, List.mem_append]
          rintro (h | h)
          · exact HNO.out h
          · rw [List.mem_singleton] at h
            exact H58.out h.symm
        case measure => have := HLT.out; simp [intOf]; omega
    · obtain rfl : k = s.size := by omega
      have d1 : decide ((s.size : Int) < s.size) = false := decide_eq_false (by omega)
      have hno := HNO.out
      rw [List.take_of_length_le (by simp)] at hno
      have hcb : ¬ colB s.data.toList = true := by unfold colB; rw [decide_eq_true_eq]; exact hno
      have hRE := HE.out
      rw [if_neg hcb] at hRE
      have h3 := H3.out
      simp only [adTup] at h3
      obtain ⟨f, ip, z, er⟩ := R
      injection hRE with e1 e2 e3 e4
      rw [← e1, ← e2, ← e4] at h3
      subst e3
      have has := adSize f ip 0 hl
      have H3' := Lib.hid h3
      clear h3 e1 e2 e4 hcb hno hlt H3 H2 HNO HE
      simp only at hl
      go_wp2_with (first
        | ((with_reducible refine (H3'.out _).mono ?_); rintro e w2 ⟨rfl, hb⟩; have S := S.call hb; clear hb)
        | ((with_reducible show wpList _ _ _ (Oper.mk _ (Op.store _ (Operand.tmp 2) _) _ _ _ _ :: _) _ _); refine wpList_storeS rfl _ _ _ rfl S _ rfl _ rfl 0 _ _ rfl has (by exact ad_sizes _ _ _ _ _ _ rfl hl) (by exact adCs_one _ _ _) ?_; clear S; intro w1 S; (first | simp only [List.set_cons_zero] at S | simp only [List.set_cons_succ, List.set_cons_zero] at S | skip)))
      exact bodyPost_ret (results_cell2S rfl _ S _ 0 _ _ _ rfl rfl Tryz.underlying24 rfl has) rfl ⟨rfl, S.below⟩
theorem build_pre (g : Int) (jp : List UInt8) (h : jp.length = 16) : List.foldl (fun (cs : Array Value) (x : Value × Nat) => cs.setIfInBounds x.snd x.fst)
    #[Value.int IntKind.i64 0, Value.int IntKind.u8 0, Value.int IntKind.u8 0, Value.int IntKind.u8 0, Value.int IntKind.u8 0, Value.int IntKind.u8 0, Value.int IntKind.u8 0, Value.int IntKind.u8 0, Value.int IntKind.u8 0, Value.int IntKind.u8 0, Value.int IntKind.u8 0, Value.int IntKind.u8 0, Value.int IntKind.u8 0, Value.int IntKind.u8 0, Value.int IntKind.u8 0, Value.int IntKind.u8 0, Value.int IntKind.u8 0, Value.int IntKind.i64 0, Value.int IntKind.i64 0]
    (adCs g jp 0).zipIdx = (preCs g jp 0 0).toArray := by
  match jp, h with
  | [a0, a1, a2, a3, a4, a5, a6, a7, a8, a9, a10, a11, a12, a13, a14, a15], _ => simp [preCs, adCs, List.zipIdx]
theorem pre_setBits (g : Int) (jp : List UInt8) (n : Int) (h : jp.length = 16) : (preCs g jp 0 0).toArray.setIfInBounds 18 (.int .i64 n) = (preCs g jp 0 n).toArray := by
  match jp, h with
  | [a0, a1, a2, a3, a4, a5, a6, a7, a8, a9, a10, a11, a12, a13, a14, a15], _ => rfl
set_option maxHeartbeats 2000000 in
theorem rIn_any (f z n : Int) (ip : List UInt8) (s : ByteArray) (g : Int) (jp : List UInt8) (w : World) (hip : ip.length = 16) (hs : s.size ≤ 4000) (hp : parseA s.data.toList = ⟨g, jp, 0, 0⟩) (hjp : jp.length = 16) :
    Calls Tryz.prog 37 #[adV f ip z, .string s, .int .i64 n] w fun e w' => e = .returned (.bool (withinE f ip g jp 0 n)) ∧ Below w.heap.size w w' := by
  have S := Ats.start w
  have h1 := fun w => rParse_any s w hs
  rw [hp] at h1
  simp only [adTupZ] at h1
  have h2 := fun w => rWithin_any f z g 0 n ip jp w hip hjp
  have haf := adSize f ip z hip
  have hag := adSize g jp 0 hjp
  have hB := build_pre g jp hjp
  have hB2 := pre_setBits g jp n hjp
  have hL1 : (adCs g jp 0).length = 18 := by rw [adCs_len, hjp]
  have hL2 := preCs_len g jp 0 0 hjp
  have H1 := Lib.hid h1
  have H2 := Lib.hid h2
  clear h1 h2 hp hs
  go_enter Tryz.func37, Tryz.ntmps37
  go_wp2_with (first
    | ((with_reducible show wpList _ _ _ (Oper.mk _ (Op.box _ _) _ _ _ _ :: _) _ _); refine wpList_boxS rfl _ _ rfl (adCs f ip z).toArray rfl S ?_; clear S; intro ga w1 S)
    | ((with_reducible refine (H1.out _).mono ?_); rintro e w2 ⟨rfl, hb⟩; have S := S.call hb; clear hb)
    | ((with_reducible show wpList _ _ _ (Oper.mk (some 7) (Op.alloc _) _ _ _ _ :: _) _ _); refine wpList_allocS rfl _ rfl _ adZero S ?_; clear S; intro gp w1 S)
    | ((with_reducible show wpList _ _ _ (Oper.mk _ (Op.store _ (Operand.tmp 7) _) _ _ _ _ :: _) _ _); refine wpList_storeS rfl _ _ _ rfl S _ rfl _ rfl 0 _ _ rfl hag (by exact ad_sizes _ _ _ _ _ _ rfl hjp) (by exact adCs_one _ _ _) ?_; clear S; intro w1 S; (first | simp only [List.set_cons_zero] at S | simp only [List.set_cons_succ, List.set_cons_zero] at S | skip))
    | ((with_reducible show wpList _ _ _ (Oper.mk _ (Op.load _ (Operand.tmp 3)) _ _ _ _ :: _) _ _); refine wpList_loadS rfl _ _ rfl S _ rfl 1 _ _ rfl _ Tryz.underlying24 rfl haf ?_)
    | ((with_reducible show wpList _ _ _ (Oper.mk _ (Op.load _ (Operand.tmp 7)) _ _ _ _ :: _) _ _); refine wpList_loadS rfl _ _ rfl S _ rfl 0 _ _ rfl _ Tryz.underlying24 rfl hag ?_)
    | ((with_reducible refine (H2.out _).mono ?_); rintro e w2 ⟨rfl, hb⟩; have S := S.call hb; clear hb))
  go_ret
  exact ⟨rfl, S.below⟩
theorem lit_quad (a b c d : UInt8) (h : colB (quadT a b c d) = false) : parseA (quadT a b c d) = ⟨4, quad16 a b c d, 0, 0⟩ := by
  unfold parseA
  rw [if_neg (by rw [h]; decide), quadT_parse]
theorem quadT_colB (a b c d : UInt8) : colB (quadT a b c d) = false := by
  unfold colB
  rw [decide_eq_false_iff_not]
  intro h
  rcases quadT_chars a b c d 58 h with h | h
  · revert h; decide
  · revert h; decide
theorem lit_colon (l b : List UInt8) (h1 : colB l = true) (h2 : cutK l 37 = l.length) (h3 : octE l = some b) : parseA l = ⟨6, b, 0, 0⟩ := by
  unfold parseA colonE
  rw [if_pos h1, h2, List.take_of_length_le (Nat.le_refl _), h3]
  simp only
  rw [if_pos (Nat.le_refl _)]
def t127 : List UInt8 := [49, 50, 55, 46, 48, 46, 48, 46, 48]
def t169 : List UInt8 := [49, 54, 57, 46, 50, 53, 52, 46, 48, 46, 48]
def t224 : List UInt8 := [50, 50, 52, 46, 48, 46, 48, 46, 48]
def tFe80 : List UInt8 := [102, 101, 56, 48, 58, 58]
def tFec0 : List UInt8 := [102, 101, 99, 48, 58, 58]
def tFf00 : List UInt8 := [102, 102, 48, 48, 58, 58]
def tOne : List UInt8 := [58, 58, 49]
theorem quadT_lit (a b c d : UInt8) (l : List UInt8) (h : decX a.toNat ++ 46 :: (decX b.toNat ++ 46 :: (decX c.toNat ++ 46 :: decX d.toNat)) = l) : quadT a b c d = l := by
  unfold quadT
  rw [decX_eq _ (by have := UInt8.toNat_lt a; omega), decX_eq _ (by have := UInt8.toNat_lt b; omega), decX_eq _ (by have := UInt8.toNat_lt c; omega), decX_eq _ (by have := UInt8.toNat_lt d; omega)]
  exact h
theorem p127 : parseA t127 = ⟨4, ip127, 0, 0⟩ := by rw [← quadT_lit 127 0 0 0 t127 (by decide +kernel)]; exact lit_quad _ _ _ _ (quadT_colB _ _ _ _)
theorem p169 : parseA t169 = ⟨4, ip169, 0, 0⟩ := by rw [← quadT_lit 169 254 0 0 t169 (by decide +kernel)]; exact lit_quad _ _ _ _ (quadT_colB _ _ _ _)
theorem p224 : parseA t224 = ⟨4, ip224, 0, 0⟩ := by rw [← quadT_lit 224 0 0 0 t224 (by decide +kernel)]; exact lit_quad _ _ _ _ (quadT_colB _ _ _ _)
theorem pFe80 : parseA tFe80 = ⟨6, ipFe80, 0, 0⟩ := lit_colon _ _ (by decide +kernel) (by decide +kernel) (by decide +kernel)
theorem pFec0 : parseA tFec0 = ⟨6, ipFec0, 0, 0⟩ := lit_colon _ _ (by decide +kernel) (by decide +kernel) (by decide +kernel)
theorem pFf00 : parseA tFf00 = ⟨6, ipFf00, 0, 0⟩ := lit_colon _ _ (by decide +kernel) (by decide +kernel) (by decide +kernel)
theorem pOne : parseA tOne = ⟨6, ipOne, 0, 0⟩ := lit_colon _ _ (by decide +kernel) (by decide +kernel) (by decide +kernel)
end Go.Proofs.YthbdeafbdmbabaaGreatDoor
namespace Go.Proofs.YthbdeafbdmbabaaGreatDoor
open Go.RowKit Go
set_option linter.unusedVariables false
set_option maxRecDepth 100000
theorem rIn2_any (n : Int) (l : List UInt8) (g : Int) (jp : List UInt8) (hl : l.length ≤ 4000) (hp : parseA l = ⟨g, jp, 0, 0⟩) (hjp : jp.length = 16) (f z : Int) (ip : List UInt8) (hip : ip.length = 16) (w : World) :
    Calls Tryz.prog 37 #[adV f ip z, .string ⟨l.toArray⟩, .int .i64 n] w fun e w' => e = .returned (.bool (withinE f ip g jp 0 n)) ∧ Below w.heap.size w w' :=
  rIn_any f z n ip ⟨l.toArray⟩ g jp w hip hl hp hjp
theorem rem16 (c : UInt8) : (c.toNat : Int).tmod 16 = ((c.toNat % 16 : Nat) : Int) := by
  rw [Int.tmod_eq_emod_of_nonneg (by omega)]; omega
theorem scope_chain (b1 b2 b3 b4 b5 : Bool) : (if (b1 || b2 || b3 || b4) = true then (2 : Int) else if b5 = true then 5 else 14) = if b1 = true then 2 else if b2 = true then 2 else if b3 = true then 2 else if b4 = true then 2 else if b5 = true then 5 else 14 := by
  cases b1 <;> cases b2 <;> cases b3 <;> cases b4 <;> simp
set_option maxHeartbeats 8000000 in
theorem rScopeC_any (f z : Int) (ip : List UInt8) (w : World) (hip : ip.length = 16) (hun : unmapE f ip z = ⟨f, ip, z⟩) :
    Calls Tryz.prog 17 #[adV f ip z] w fun e w' => e = .returned (.int .i64 (scope1 f ip)) ∧ Below w.heap.size w w' := by
  have S := Ats.start w
  have hf := ad_fam f z ip
  have haf := adSize f ip z hip
  have hE : scope1 f ip = if f ≠ 4 ∧ f ≠ 6 then (0 : Int) else if manyB f ip = true then (((ip.getD 1 0).toNat % 16 : Nat) : Int) else if nearB f ip = true then 2 else if withinE f ip 6 ipFec0 0 10 = true then 5 else 14 := rfl
  obtain ⟨R, hR⟩ : ∃ R, R = scope1 f ip := ⟨_, rfl⟩
  rw [← hR] at hE ⊢
  have HF := Lib.hid hf
  clear hR hf
  by_cases hn : f ≠ 4 ∧ f ≠ 6
  · rw [if_pos hn] at hE
    have HE := Lib.hid hE
    have t4 : (f != 4) = true := by simpa using hn.1
    have t6 : (f == 6) = false := by simpa using hn.2
    have t6n : (f != 6) = true := by simpa using hn.2
    clear hn hE
    go_enter Tryz.func17, Tryz.ntmps17
    go_wp2_with (first
      | ((with_reducible show wpList _ _ _ (Oper.mk _ (Op.box _ _) _ _ _ _ :: _) _ _); refine wpList_boxS rfl _ _ rfl (adCs f ip z).toArray rfl S ?_; clear S; intro ga w1 S))
    (try simp only [Act.put, List.setIfInBounds_toArray, List.set_cons_succ, List.set_cons_zero]); refine quietS_region (by kernel_rfl) (by kernel_rfl) S ?_
    repeat (first
      | go_big_quiet_skip
      | (go_big_quiet_want
         first
           | ((with_reducible show Oper.quiet _ (Oper.mk _ (Op.load _ _) _ _ _ _) _ _ _); refine q_cellS _ _ rfl _ _ rfl 0 _ _ rfl _ Tryz.underlying3 rfl _ (by with_reducible exact HF.out) ?_)
           | (refine q_pure (v := ?_) ?_ ?_; rotate_left; focus (intro w; go_simp; try with_reducible rfl))
         (simp only [Act.put, List.setIfInBounds_toArray, List.set_cons_succ, List.set_cons_zero]; go_big_quiet_on)))
    (refine wpQuiet_nil ?_; clear S; intro w1 S)
    go_wp2_with (first
      | ((with_reducible show wpList _ _ _ (Oper.mk _ (Op.load _ _) _ _ _ _ :: _) _ _); refine wpList_cellS rfl _ _ rfl S _ _ rfl 0 _ _ rfl _ Tryz.underlying3 rfl _ (by with_reducible exact HF.out) ?_))
    go_ret
    exact ⟨by rw [HE.out]; rfl, S.below⟩
  · rw [if_neg hn] at hE
    have h0 := fun w => rUnmap_any f z ip w hip
    rw [hun] at h0
    simp only at h0
    have hN := ad_neq f f z z ip ip hip hip
    have hb : (!(f == f && ip == ip && z == z)) = false := by simp
    rw [hb] at hN
    have hG := ad_guard
    have c0 : (adCs f ip z).toArray[1]? = some (.int .u8 (ip.getD 0 0).toNat) := ad_at f z ip 0 hip (by decide)
    have c1 : (adCs f ip z).toArray[2]? = some (.int .u8 (ip.getD 1 0).toNat) := ad_at f z ip 1 hip (by decide)
    have h255 := u8_eq255 (ip.getD 0 0)
    have h1 := rIn2_any 8 t127 4 ip127 (by decide) p127 rfl f z ip hip
    have h2 := rIn2_any 16 t169 4 ip169 (by decide) p169 rfl f z ip hip
    have h3 := rIn2_any 10 tFe80 6 ipFe80 (by decide) pFe80 rfl f z ip hip
    have h4 := rIn2_any 128 tOne 6 ipOne (by decide) pOne rfl f z ip hip
    have h5 := rIn2_any 10 tFec0 6 ipFec0 (by decide) pFec0 rfl f z ip hip
    unfold t127 at h1
    unfold t169 at h2
    unfold tFe80 at h3
    unfold tOne at h4
    unfold tFec0 at h5
    unfold nearB at hE
    obtain ⟨b1, e1⟩ : ∃ b, b = withinE f ip 4 ip127 0 8 := ⟨_, rfl⟩
    obtain ⟨b2, e2⟩ : ∃ b, b = withinE f ip 4 ip169 0 16 := ⟨_, rfl⟩
    obtain ⟨b3, e3⟩ : ∃ b, b = withinE f ip 6 ipFe80 0 10 := ⟨_, rfl⟩
    obtain ⟨b4, e4⟩ : ∃ b, b = withinE f ip 6 ipOne 0 128 := ⟨_, rfl⟩
    obtain ⟨b5, e5⟩ : ∃ b, b = withinE f ip 6 ipFec0 0 10 := ⟨_, rfl⟩
    rw [← e1] at h1 hE
    rw [← e2] at h2 hE
    rw [← e3] at h3 hE
    rw [← e4] at h4 hE
    rw [← e5] at h5 hE
    rw [scope_chain] at hE
    have H0 := Lib.hid h0
    have H1 := Lib.hid h1
    have H2 := Lib.hid h2
    have H3 := Lib.hid h3
    have H4 := Lib.hid h4
    have H5 := Lib.hid h5
    have hm6 : f = 6 → manyB f ip = (ip.getD 0 0 == 255) := fun h => by subst h; rfl
    have hm4 : f = 4 → manyB f ip = false := fun h => by subst h; rfl
    have hr16 := rem16 (ip.getD 1 0)
    have hw1 := wrapU8 (ip.getD 1 0)
    obtain ⟨x0, ex0⟩ : ∃ x, x = ip.getD 0 0 := ⟨_, rfl⟩
    obtain ⟨x1, ex1⟩ : ∃ x, x = ip.getD 1 0 := ⟨_, rfl⟩
    rw [← ex0] at c0 h255 hm6
    rw [← ex1] at c1 hE hr16 hw1
    have hx1 := UInt8.toNat_lt x1
    obtain ⟨q, hq⟩ : ∃ q : Nat, q = x1.toNat % 16 := ⟨_, rfl⟩
    rw [← hq] at hr16 hE
    have hwq : IntKind.i64.wrap (q : Int) = q := IntWalk.i64_in _ (by omega)
    have C0 := Lib.hid c0
    have C1 := Lib.hid c1
    clear hun h0 h1 h2 h3 h4 h5 e1 e2 e3 e4 e5 ex0 ex1 c0 c1 hb hx1 hq
    have h46 : f = 4 ∨ f = 6 := by omega
    clear hn
    rcases h46 with rfl | rfl
    · rw [hm4 rfl, if_neg (by decide)] at hE
      clear hm4 hm6 h255 hr16 hw1 hwq
      cases b1 with
      | true =>
        rw [if_pos rfl] at hE
        have HE := Lib.hid hE
        clear hE
        go_enter Tryz.func17, Tryz.ntmps17
        go_wp2_with (first
          | ((with_reducible show wpList _ _ _ (Oper.mk _ (Op.box _ _) _ _ _ _ :: _) _ _); refine wpList_boxS rfl _ _ rfl (adCs 4 ip z).toArray rfl S ?_; clear S; intro ga w1 S))
        (try simp only [Act.put, List.setIfInBounds_toArray, List.set_cons_succ, List.set_cons_zero]); refine quietS_region (by kernel_rfl) (by kernel_rfl) S ?_
        repeat (first
          | go_big_quiet_skip
          | (go_big_quiet_want
             first
               | ((with_reducible show Oper.quiet _ (Oper.mk (some 8) (Op.call { callee := Callee.value (Operand.func 15), args := _, argTypes := _ }) _ _ _ _) _ _ _); refine q_call 15 _ _ rfl (enters_of Tryz.func15 (by kernel_rfl) rfl) (fun w S => ((H0.out _).mono fun e w2 h => ⟨h.1, S.call h.2⟩)) (by simp [Act.eval]) ?_)
               | ((with_reducible show Oper.quiet _ (Oper.mk _ (Op.load _ (Operand.tmp 1)) _ _ _ _) _ _ _); refine q_loadS _ _ rfl _ rfl 0 _ _ rfl _ Tryz.underlying24 rfl haf ?_)
               | ((with_reducible show Oper.quiet _ (Oper.mk _ (Op.load _ _) _ _ _ _) _ _ _); refine q_cellS _ _ rfl _ _ rfl 0 _ _ rfl _ Tryz.underlying3 rfl _ (by with_reducible exact HF.out) ?_)
               | (refine q_pure (v := ?_) ?_ ?_; rotate_left; focus (intro w; go_simp; try with_reducible rfl))
             (simp only [Act.put, List.setIfInBounds_toArray, List.set_cons_succ, List.set_cons_zero]; go_big_quiet_on)))
        (refine wpQuiet_nil ?_; clear S; intro w1 S)
        go_wp2_with (first
          | ((with_reducible refine (H1.out _).mono ?_); rintro e w2 ⟨rfl, hb⟩; have S := S.call hb; clear hb)
          | ((with_reducible refine (H2.out _).mono ?_); rintro e w2 ⟨rfl, hb⟩; have S := S.call hb; clear hb)
          | ((with_reducible refine (H3.out _).mono ?_); rintro e w2 ⟨rfl, hb⟩; have S := S.call hb; clear hb)
          | ((with_reducible refine (H4.out _).mono ?_); rintro e w2 ⟨rfl, hb⟩; have S := S.call hb; clear hb)
          | ((with_reducible refine (H5.out _).mono ?_); rintro e w2 ⟨rfl, hb⟩; have S := S.call hb; clear hb)
          | ((with_reducible show wpList _ _ _ (Oper.mk _ (Op.load _ (Operand.tmp 1)) _ _ _ _ :: _) _ _); refine wpList_loadS rfl _ _ rfl S _ rfl 0 _ _ rfl _ Tryz.underlying24 rfl haf ?_)
          | ((with_reducible show wpList _ _ _ (Oper.mk _ (Op.load _ _) _ _ _ _ :: _) _ _); refine wpList_cellS rfl _ _ rfl S _ _ rfl 0 _ _ rfl _ Tryz.underlying3 rfl _ (by with_reducible exact HF.out) ?_)
          | ((with_reducible show wpList _ _ _ (Oper.mk _ (Op.load _ _) _ _ _ _ :: _) _ _); refine wpList_cellS rfl _ _ rfl S _ _ rfl 0 _ _ rfl _ Tryz.underlying5 rfl _ (by with_reducible exact C0.out) ?_)
          | ((with_reducible show wpList _ _ _ (Oper.mk _ (Op.load _ _) _ _ _ _ :: _) _ _); refine wpList_cellS rfl _ _ rfl S _ _ rfl 0 _ _ rfl _ Tryz.underlying5 rfl _ (by with_reducible exact C1.out) ?_))
        go_ret
        exact ⟨by rw [HE.out]; rfl, S.below⟩
      | false =>
        rw [if_neg (by decide)] at hE
        cases b2 with
        | true =>
          rw [if_pos rfl] at hE
          have HE := Lib.hid hE
          clear hE
          go_enter Tryz.func17, Tryz.ntmps17
          go_wp2_with (first
            | ((with_reducible show wpList _ _ _ (Oper.mk _ (Op.box _ _) _ _ _ _ :: _) _ _); refine wpList_boxS rfl _ _ rfl (adCs 4 ip z).toArray rfl S ?_; clear S; intro ga w1 S))
          (try simp only [Act.put, List.setIfInBounds_toArray, List.set_cons_succ, List.set_cons_zero]); refine quietS_region (by kernel_rfl) (by kernel_rfl) S ?_
          repeat (first
            | go_big_quiet_skip
            | (go_big_quiet_want
               first
                 | ((with_reducible show Oper.quiet _ (Oper.mk (some 8) (Op.call { callee := Callee.value (Operand.func 15), args := _, argTypes := _ }) _ _ _ _) _ _ _); refine q_call 15 _ _ rfl (enters_of Tryz.func15 (by kernel_rfl) rfl) (fun w S => ((H0.out _).mono fun e w2 h => ⟨h.1, S.call h.2⟩)) (by simp [Act.eval]) ?_)
                 | ((with_reducible show Oper.quiet _ (Oper.mk _ (Op.load _ (Operand.tmp 1)) _ _ _ _) _ _ _); refine q_loadS _ _ rfl _ rfl 0 _ _ rfl _ Tryz.underlying24 rfl haf ?_)
                 | ((with_reducible show Oper.quiet _ (Oper.mk _ (Op.load _ _) _ _ _ _) _ _ _); refine q_cellS _ _ rfl _ _ rfl 0 _ _ rfl _ Tryz.underlying3 rfl _ (by with_reducible exact HF.out) ?_)
                 | (refine q_pure (v := ?_) ?_ ?_; rotate_left; focus (intro w; go_simp; try with_reducible rfl))
               (simp only [Act.put, List.setIfInBounds_toArray, List.set_cons_succ, List.set_cons_zero]; go_big_quiet_on)))
          (refine wpQuiet_nil ?_; clear S; intro w1 S)
          go_wp2_with (first
            | ((with_reducible refine (H1.out _).mono ?_); rintro e w2 ⟨rfl, hb⟩; have S := S.call hb; clear hb)
            | ((with_reducible refine (H2.out _).mono ?_); rintro e w2 ⟨rfl, hb⟩; have S := S.call hb; clear hb)
            | ((with_reducible refine (H3.out _).mono ?_); rintro e w2 ⟨rfl, hb⟩; have S := S.call hb; clear hb)
            | ((with_reducible refine (H4.out _).mono ?_); rintro e w2 ⟨rfl, hb⟩; have S := S.call hb; clear hb)
            | ((with_reducible refine (H5.out _).mono ?_); rintro e w2 ⟨rfl, hb⟩; have S := S.call hb; clear hb)
            | ((with_reducible show wpList _ _ _ (Oper.mk _ (Op.load _ (Operand.tmp 1)) _ _ _ _ :: _) _ _); refine wpList_loadS rfl _ _ rfl S _ rfl 0 _ _ rfl _ Tryz.underlying24 rfl haf ?_)
            | ((with_reducible show wpList _ _ _ (Oper.mk _ (Op.load _ _) _ _ _ _ :: _) _ _); refine wpList_cellS rfl _ _ rfl S _ _ rfl 0 _ _ rfl _ Tryz.underlying3 rfl _ (by with_reducible exact HF.out) ?_)
            | ((with_reducible show wpList _ _ _ (Oper.mk _ (Op.load _ _) _ _ _ _ :: _) _ _); refine wpList_cellS rfl _ _ rfl S _ _ rfl 0 _ _ rfl _ Tryz.underlying5 rfl _ (by with_reducible exact C0.out) ?_)
            | ((with_reducible show wpList _ _ _ (Oper.mk _ (Op.load _ _) _ _ _ _ :: _) _ _); refine wpList_cellS rfl _ _ rfl S _ _ rfl 0 _ _ rfl _ Tryz.underlying5 rfl _ (by with_reducible exact C1.out) ?_))
          go_ret
          exact ⟨by rw [HE.out]; rfl, S.below⟩
        | false =>
          rw [if_neg (by decide)] at hE
          cases b3 with
          | true =>
            rw [if_pos rfl] at hE
            have HE := Lib.hid hE
            clear hE
            go_enter Tryz.func17, Tryz.ntmps17
            go_wp2_with (first
              | ((with_reducible show wpList _ _ _ (Oper.mk _ (Op.box _ _) _ _ _ _ :: _) _ _); refine wpList_boxS rfl _ _ rfl (adCs 4 ip z).toArray rfl S ?_; clear S; intro ga w1 S))
            (try simp only [Act.put, List.setIfInBounds_toArray, List.set_cons_succ, List.set_cons_zero]); refine quietS_region (by kernel_rfl) (by kernel_rfl) S ?_
            repeat (first
              | go_big_quiet_skip
              | (go_big_quiet_want
                 first
                   | ((with_reducible show Oper.quiet _ (Oper.mk (some 8) (Op.call { callee := Callee.value (Operand.func 15), args := _, argTypes := _ }) _ _ _ _) _ _ _); refine q_call 15 _ _ rfl (enters_of Tryz.func15 (by kernel_rfl) rfl) (fun w S => ((H0.out _).mono fun e w2 h => ⟨h.1, S.call h.2⟩)) (by simp [Act.eval]) ?_)
                   | ((with_reducible show Oper.quiet _ (Oper.mk _ (Op.load _ (Operand.tmp 1)) _ _ _ _) _ _ _); refine q_loadS _ _ rfl _ rfl 0 _ _ rfl _ Tryz.underlying24 rfl haf ?_)
                   | ((with_reducible show Oper.quiet _ (Oper.mk _ (Op.load _ _) _ _ _ _) _ _ _); refine q_cellS _ _ rfl _ _ rfl 0 _ _ rfl _ Tryz.underlying3 rfl _ (by with_reducible exact HF.out) ?_)
                   | (refine q_pure (v := ?_) ?_ ?_; rotate_left; focus (intro w; go_simp; try with_reducible rfl))
                 (simp only [Act.put, List.setIfInBounds_toArray, List.set_cons_succ, List.set_cons_zero]; go_big_quiet_on)))
            (refine wpQuiet_nil ?_; clear S; intro w1 S)
            go_wp2_with (first
              | ((with_reducible refine (H1.out _).mono ?_); rintro e w2 ⟨rfl, hb⟩; have S := S.call hb; clear hb)
              | ((with_reducible refine (H2.out _).mono ?_); rintro e w2 ⟨rfl, hb⟩; have S := S.call hb; clear hb)
              | ((with_reducible refine (H3.out _).mono ?_); rintro e w2 ⟨rfl, hb⟩; have S := S.call hb; clear hb)
              | ((with_reducible refine (H4.out _).mono ?_); rintro e w2 ⟨rfl, hb⟩; have S := S.call hb; clear hb)
              | ((with_reducible refine (H5.out _).mono ?_); rintro e w2 ⟨rfl, hb⟩; have S := S.call hb; clear hb)
              | ((with_reducible show wpList _ _ _ (Oper.mk _ (Op.load _ (Operand.tmp 1)) _ _ _ _ :: _) _ _); refine wpList_loadS rfl _ _ rfl S _ rfl 0 _ _ rfl _ Tryz.underlying24 rfl haf ?_)
              | ((with_reducible show wpList _ _ _ (Oper.mk _ (Op.load _ _) _ _ _ _ :: _) _ _); refine wpList_cellS rfl _ _ rfl S _ _ rfl 0 _ _ rfl _ Tryz.underlying3 rfl _ (by with_reducible exact HF.out) ?_)
              | ((with_reducible show wpList _ _ _ (Oper.mk _ (Op.load _ _) _ _ _ _ :: _) _ _); refine wpList_cellS rfl _ _ rfl S _ _ rfl 0 _ _ rfl _ Tryz.underlying5 rfl _ (by with_reducible exact C0.out) ?_)
              | ((with_reducible show wpList _ _ _ (Oper.mk _ (Op.load _ _) _ _ _ _ :: _) _ _); refine wpList_cellS rfl _ _ rfl S _ _ rfl 0 _ _ rfl _ Tryz.underlying5 rfl _ (by with_reducible exact C1.out) ?_))
            go_ret
            exact ⟨by rw [HE.out]; rfl, S.below⟩
          | false =>
            rw [if_neg (by decide)] at hE
            cases b4 with
            | true =>
              rw [if_pos rfl] at hE
              have HE := Lib.hid hE
              clear hE
              go_enter Tryz.func17, Tryz.ntmps17
              go_wp2_with (first
                | ((with_reducible show wpList _ _ _ (Oper.mk _ (Op.box _ _) _ _ _ _ :: _) _ _); refine wpList_boxS rfl _ _ rfl (adCs 4 ip z).toArray rfl S ?_; clear S; intro ga w1 S))
              (try simp only [Act.put, List.setIfInBounds_toArray, List.set_cons_succ, List.set_cons_zero]); refine quietS_region (by kernel_rfl) (by kernel_rfl) S ?_
              repeat (first
                | go_big_quiet_skip
                | (go_big_quiet_want
                   first
                     | ((with_reducible show Oper.quiet _ (Oper.mk (some 8) (Op.call { callee := Callee.value (Operand.func 15), args := _, argTypes := _ }) _ _ _ _) _ _ _); refine q_call 15 _ _ rfl (enters_of Tryz.func15 (by kernel_rfl) rfl) (fun w S => ((H0.out _).mono fun e w2 h => ⟨h.1, S.call h.2⟩)) (by simp [Act.eval]) ?_)
                     | ((with_reducible show Oper.quiet _ (Oper.mk _ (Op.load _ (Operand.tmp 1)) _ _ _ _) _ _ _); refine q_loadS _ _ rfl _ rfl 0 _ _ rfl _ Tryz.underlying24 rfl haf ?_)
                     | ((with_reducible show Oper.quiet _ (Oper.mk _ (Op.load _ _) _ _ _ _) _ _ _); refine q_cellS _ _ rfl _ _ rfl 0 _ _ rfl _ Tryz.underlying3 rfl _ (by with_reducible exact HF.out) ?_)
                     | (refine q_pure (v := ?_) ?_ ?_; rotate_left; focus (intro w; go_simp; try with_reducible rfl))
                   (simp only [Act.put, List.setIfInBounds_toArray, List.set_cons_succ, List.set_cons_zero]; go_big_quiet_on)))
              (refine wpQuiet_nil ?_; clear S; intro w1 S)
              go_wp2_with (first
                | ((with_reducible refine (H1.out _).mono ?_); rintro e w2 ⟨rfl, hb⟩; have S := S.call hb; clear hb)
                | ((with_reducible refine (H2.out _).mono ?_); rintro e w2 ⟨rfl, hb⟩; have S := S.call hb; clear hb)
                | ((with_reducible refine (H3.out _).mono ?_); rintro e w2 ⟨rfl, hb⟩; have S := S.call hb; clear hb)
                | ((with_reducible refine (H4.out _).mono ?_); rintro e w2 ⟨rfl, hb⟩; have S := S.call hb; clear hb)
                | ((with_reducible refine (H5.out _).mono ?_); rintro e w2 ⟨rfl, hb⟩; have S := S.call hb; clear hb)
                | ((with_reducible show wpList _ _ _ (Oper.mk _ (Op.load _ (Operand.tmp 1)) _ _ _ _ :: _) _ _); refine wpList_loadS rfl _ _ rfl S _ rfl 0 _ _ rfl _ Tryz.underlying24 rfl haf ?_)
                | ((with_reducible show wpList _ _ _ (Oper.mk _ (Op.load _ _) _ _ _ _ :: _) _ _); refine wpList_cellS rfl _ _ rfl S _ _ rfl 0 _ _ rfl _ Tryz.underlying3 rfl _ (by with_reducible exact HF.out) ?_)
                | ((with_reducible show wpList _ _ _ (Oper.mk _ (Op.load _ _) _ _ _ _ :: _) _ _); refine wpList_cellS rfl _ _ rfl S _ _ rfl 0 _ _ rfl _ Tryz.underlying5 rfl _ (by with_reducible exact C0.out) ?_)
                | ((with_reducible show wpList _ _ _ (Oper.mk _ (Op.load _ _) _ _ _ _ :: _) _ _); refine wpList_cellS rfl _ _ rfl S _ _ rfl 0 _ _ rfl _ Tryz.underlying5 rfl _ (by with_reducible exact C1.out) ?_))
              go_ret
              exact ⟨by rw [HE.out]; rfl, S.below⟩
            | false =>
              rw [if_neg (by decide)] at hE
              cases b5 with
              | true =>
                rw [if_pos rfl] at hE
                have HE := Lib.hid hE
                clear hE
                go_enter Tryz.func17, Tryz.ntmps17
                go_wp2_with (first
                  | ((with_reducible show wpList _ _ _ (Oper.mk _ (Op.box _ _) _ _ _ _ :: _) _ _); refine wpList_boxS rfl _ _ rfl (adCs 4 ip z).toArray rfl S ?_; clear S; intro ga w1 S))
                (try simp only [Act.put, List.setIfInBounds_toArray, List.set_cons_succ, List.set_cons_zero]); refine quietS_region (by kernel_rfl) (by kernel_rfl) S ?_
                repeat (first
                  | go_big_quiet_skip
                  | (go_big_quiet_want
                     first
                       | ((with_reducible show Oper.quiet _ (Oper.mk (some 8) (Op.call { callee := Callee.value (Operand.func 15), args := _, argTypes := _ }) _ _ _ _) _ _ _); refine q_call 15 _ _ rfl (enters_of Tryz.func15 (by kernel_rfl) rfl) (fun w S => ((H0.out _).mono fun e w2 h => ⟨h.1, S.call h.2⟩)) (by simp [Act.eval]) ?_)
                       | ((with_reducible show Oper.quiet _ (Oper.mk _ (Op.load _ (Operand.tmp 1)) _ _ _ _) _ _ _); refine q_loadS _ _ rfl _ rfl 0 _ _ rfl _ Tryz.underlying24 rfl haf ?_)
                       | ((with_reducible show Oper.quiet _ (Oper.mk _ (Op.load _ _) _ _ _ _) _ _ _); refine q_cellS _ _ rfl _ _ rfl 0 _ _ rfl _ Tryz.underlying3 rfl _ (by with_reducible exact HF.out) ?_)
                       | (refine q_pure (v := ?_) ?_ ?_; rotate_left; focus (intro w; go_simp; try with_reducible rfl))
                     (simp only [Act.put, List.setIfInBounds_toArray, List.set_cons_succ, List.set_cons_zero]; go_big_quiet_on)))
                (refine wpQuiet_nil ?_; clear S; intro w1 S)
                go_wp2_with (first
                  | ((with_reducible refine (H1.out _).mono ?_); rintro e w2 ⟨rfl, hb⟩; have S := S.call hb; clear hb)
                  | ((with_reducible refine (H2.out _).mono ?_); rintro e w2 ⟨rfl, hb⟩; have S := S.call hb; clear hb)
                  | ((with_reducible refine (H3.out _).mono ?_); rintro e w2 ⟨rfl, hb⟩; have S := S.call hb; clear hb)
                  | ((with_reducible refine (H4.out _).mono ?_); rintro e w2 ⟨rfl, hb⟩; have S := S.call hb; clear hb)
                  | ((with_reducible refine (H5.out _).mono ?_); rintro e w2 ⟨rfl, hb⟩; have S := S.call hb; clear hb)
                  | ((with_reducible show wpList _ _ _ (Oper.mk _ (Op.load _ (Operand.tmp 1)) _ _ _ _ :: _) _ _); refine wpList_loadS rfl _ _ rfl S _ rfl 0 _ _ rfl _ Tryz.underlying24 rfl haf ?_)
                  | ((with_reducible show wpList _ _ _ (Oper.mk _ (Op.load _ _) _ _ _ _ :: _) _ _); refine wpList_cellS rfl _ _ rfl S _ _ rfl 0 _ _ rfl _ Tryz.underlying3 rfl _ (by with_reducible exact HF.out) ?_)
                  | ((with_reducible show wpList _ _ _ (Oper.mk _ (Op.load _ _) _ _ _ _ :: _) _ _); refine wpList_cellS rfl _ _ rfl S _ _ rfl 0 _ _ rfl _ Tryz.underlying5 rfl _ (by with_reducible exact C0.out) ?_)
                  | ((with_reducible show wpList _ _ _ (Oper.mk _ (Op.load _ _) _ _ _ _ :: _) _ _); refine wpList_cellS rfl _ _ rfl S _ _ rfl 0 _ _ rfl _ Tryz.underlying5 rfl _ (by with_reducible exact C1.out) ?_))
                go_ret
                exact ⟨by rw [HE.out]; rfl, S.below⟩
              | false =>
                rw [if_neg (by decide)] at hE
                have HE := Lib.hid hE
                clear hE
                go_enter Tryz.func17, Tryz.ntmps17
                go_wp2_with (first
                  | ((with_reducible show wpList _ _ _ (Oper.mk _ (Op.box _ _) _ _ _ _ :: _) _ _); refine wpList_boxS rfl _ _ rfl (adCs 4 ip z).toArray rfl S ?_; clear S; intro ga w1 S))
                (try simp only [Act.put, List.setIfInBounds_toArray, List.set_cons_succ, List.set_cons_zero]); refine quietS_region (by kernel_rfl) (by kernel_rfl) S ?_
                repeat (first
                  | go_big_quiet_skip
                  | (go_big_quiet_want
                     first
                       | ((with_reducible show Oper.quiet _ (Oper.mk (some 8) (Op.call { callee := Callee.value (Operand.func 15), args := _, argTypes := _ }) _ _ _ _) _ _ _); refine q_call 15 _ _ rfl (enters_of Tryz.func15 (by kernel_rfl) rfl) (fun w S => ((H0.out _).mono fun e w2 h => ⟨h.1, S.call h.2⟩)) (by simp [Act.eval]) ?_)
                       | ((with_reducible show Oper.quiet _ (Oper.mk _ (Op.load _ (Operand.tmp 1)) _ _ _ _) _ _ _); refine q_loadS _ _ rfl _ rfl 0 _ _ rfl _ Tryz.underlying24 rfl haf ?_)
                       | ((with_reducible show Oper.quiet _ (Oper.mk _ (Op.load _ _) _ _ _ _) _ _ _); refine q_cellS _ _ rfl _ _ rfl 0 _ _ rfl _ Tryz.underlying3 rfl _ (by with_reducible exact HF.out) ?_)
                       | (refine q_pure (v := ?_) ?_ ?_; rotate_left; focus (intro w; go_simp; try with_reducible rfl))
                     (simp only [Act.put, List.setIfInBounds_toArray, List.set_cons_succ, List.set_cons_zero]; go_big_quiet_on)))
                (refine wpQuiet_nil ?_; clear S; intro w1 S)
                go_wp2_with (first
                  | ((with_reducible refine (H1.out _).mono ?_); rintro e w2 ⟨rfl, hb⟩; have S := S.call hb; clear hb)
                  | ((with_reducible refine (H2.out _).mono ?_); rintro e w2 ⟨rfl, hb⟩; have S := S.call hb; clear hb)
                  | ((with_reducible refine (H3.out _).mono ?_); rintro e w2 ⟨rfl, hb⟩; have S := S.call hb; clear hb)
                  | ((with_reducible refine (H4.out _).mono ?_); rintro e w2 ⟨rfl, hb⟩; have S := S.call hb; clear hb)
                  | ((with_reducible refine (H5.out _).mono ?_); rintro e w2 ⟨rfl, hb⟩; have S := S.call hb; clear hb)
                  | ((with_reducible show wpList _ _ _ (Oper.mk _ (Op.load _ (Operand.tmp 1)) _ _ _ _ :: _) _ _); refine wpList_loadS rfl _ _ rfl S _ rfl 0 _ _ rfl _ Tryz.underlying24 rfl haf ?_)
                  | ((with_reducible show wpList _ _ _ (Oper.mk _ (Op.load _ _) _ _ _ _ :: _) _ _); refine wpList_cellS rfl _ _ rfl S _ _ rfl 0 _ _ rfl _ Tryz.underlying3 rfl _ (by with_reducible exact HF.out) ?_)
                  | ((with_reducible show wpList _ _ _ (Oper.mk _ (Op.load _ _) _ _ _ _ :: _) _ _); refine wpList_cellS rfl _ _ rfl S _ _ rfl 0 _ _ rfl _ Tryz.underlying5 rfl _ (by with_reducible exact C0.out) ?_)
                  | ((with_reducible show wpList _ _ _ (Oper.mk _ (Op.load _ _) _ _ _ _ :: _) _ _); refine wpList_cellS rfl _ _ rfl S _ _ rfl 0 _ _ rfl _ Tryz.underlying5 rfl _ (by with_reducible exact C1.out) ?_))
                go_ret
                exact ⟨by rw [HE.out]; rfl, S.below⟩
    · have hm := hm6 rfl
      obtain ⟨m, hmm⟩ : ∃ m, m = manyB 6 ip := ⟨_, rfl⟩
      rw [← hmm] at hE hm
      rw [← hm] at h255
      clear hm4 hm6 hmm hm
      cases m with
      | true =>
        rw [if_pos rfl] at hE
        have HE := Lib.hid hE
        clear hE
        go_enter Tryz.func17, Tryz.ntmps17
        go_wp2_with (first
          | ((with_reducible show wpList _ _ _ (Oper.mk _ (Op.box _ _) _ _ _ _ :: _) _ _); refine wpList_boxS rfl _ _ rfl (adCs 6 ip z).toArray rfl S ?_; clear S; intro ga w1 S))
        (try simp only [Act.put, List.setIfInBounds_toArray, List.set_cons_succ, List.set_cons_zero]); refine quietS_region (by kernel_rfl) (by kernel_rfl) S ?_
        repeat (first
          | go_big_quiet_skip
          | (go_big_quiet_want
             first
               | ((with_reducible show Oper.quiet _ (Oper.mk (some 8) (Op.call { callee := Callee.value (Operand.func 15), args := _, argTypes := _ }) _ _ _ _) _ _ _); refine q_call 15 _ _ rfl (enters_of Tryz.func15 (by kernel_rfl) rfl) (fun w S => ((H0.out _).mono fun e w2 h => ⟨h.1, S.call h.2⟩)) (by simp [Act.eval]) ?_)
               | ((with_reducible show Oper.quiet _ (Oper.mk _ (Op.load _ (Operand.tmp 1)) _ _ _ _) _ _ _); refine q_loadS _ _ rfl _ rfl 0 _ _ rfl _ Tryz.underlying24 rfl haf ?_)
               | ((with_reducible show Oper.quiet _ (Oper.mk _ (Op.load _ _) _ _ _ _) _ _ _); refine q_cellS _ _ rfl _ _ rfl 0 _ _ rfl _ Tryz.underlying3 rfl _ (by with_reducible exact HF.out) ?_)
               | (refine q_pure (v := ?_) ?_ ?_; rotate_left; focus (intro w; go_simp; try with_reducible rfl))
             (simp only [Act.put, List.setIfInBounds_toArray, List.set_cons_succ, List.set_cons_zero]; go_big_quiet_on)))
        (refine wpQuiet_nil ?_; clear S; intro w1 S)
        go_wp2_with (first
          | ((with_reducible refine (H1.out _).mono ?_); rintro e w2 ⟨rfl, hb⟩; have S := S.call hb; clear hb)
          | ((with_reducible refine (H2.out _).mono ?_); rintro e w2 ⟨rfl, hb⟩; have S := S.call hb; clear hb)
          | ((with_reducible refine (H3.out _).mono ?_); rintro e w2 ⟨rfl, hb⟩; have S := S.call hb; clear hb)
          | ((with_reducible refine (H4.out _).mono ?_); rintro e w2 ⟨rfl, hb⟩; have S := S.call hb; clear hb)
          | ((with_reducible refine (H5.out _).mono ?_); rintro e w2 ⟨rfl, hb⟩; have S := S.call hb; clear hb)
          | ((with_reducible show wpList _ _ _ (Oper.mk _ (Op.load _ (Operand.tmp 1)) _ _ _ _ :: _) _ _); refine wpList_loadS rfl _ _ rfl S _ rfl 0 _ _ rfl _ Tryz.underlying24 rfl haf ?_)
          | ((with_reducible show wpList _ _ _ (Oper.mk _ (Op.load _ _) _ _ _ _ :: _) _ _); refine wpList_cellS rfl _ _ rfl S _ _ rfl 0 _ _ rfl _ Tryz.underlying3 rfl _ (by with_reducible exact HF.out) ?_)
          | ((with_reducible show wpList _ _ _ (Oper.mk _ (Op.load _ _) _ _ _ _ :: _) _ _); refine wpList_cellS rfl _ _ rfl S _ _ rfl 0 _ _ rfl _ Tryz.underlying5 rfl _ (by with_reducible exact C0.out) ?_)
          | ((with_reducible show wpList _ _ _ (Oper.mk _ (Op.load _ _) _ _ _ _ :: _) _ _); refine wpList_cellS rfl _ _ rfl S _ _ rfl 0 _ _ rfl _ Tryz.underlying5 rfl _ (by with_reducible exact C1.out) ?_))
        go_ret
        exact ⟨by rw [HE.out]; rfl, S.below⟩
      | false =>
        rw [if_neg (by decide)] at hE
        clear hr16 hw1 hwq
        cases b1 with
        | true =>
          rw [if_pos rfl] at hE
          have HE := Lib.hid hE
          clear hE
          go_enter Tryz.func17, Tryz.ntmps17
          go_wp2_with (first
            | ((with_reducible show wpList _ _ _ (Oper.mk _ (Op.box _ _) _ _ _ _ :: _) _ _); refine wpList_boxS rfl _ _ rfl (adCs 6 ip z).toArray rfl S ?_; clear S; intro ga w1 S))
          (try simp only [Act.put, List.setIfInBounds_toArray, List.set_cons_succ, List.set_cons_zero]); refine quietS_region (by kernel_rfl) (by kernel_rfl) S ?_
          repeat (first
            | go_big_quiet_skip
            | (go_big_quiet_want
               first
                 | ((with_reducible show Oper.quiet _ (Oper.mk (some 8) (Op.call { callee := Callee.value (Operand.func 15), args := _, argTypes := _ }) _ _ _ _) _ _ _); refine q_call 15 _ _ rfl (enters_of Tryz.func15 (by kernel_rfl) rfl) (fun w S => ((H0.out _).mono fun e w2 h => ⟨h.1, S.call h.2⟩)) (by simp [Act.eval]) ?_)
                 | ((with_reducible show Oper.quiet _ (Oper.mk _ (Op.load _ (Operand.tmp 1)) _ _ _ _) _ _ _); refine q_loadS _ _ rfl _ rfl 0 _ _ rfl _ Tryz.underlying24 rfl haf ?_)
                 | ((with_reducible show Oper.quiet _ (Oper.mk _ (Op.load _ _) _ _ _ _) _ _ _); refine q_cellS _ _ rfl _ _ rfl 0 _ _ rfl _ Tryz.underlying3 rfl _ (by with_reducible exact HF.out) ?_)
                 | (refine q_pure (v := ?_) ?_ ?_; rotate_left; focus (intro w; go_simp; try with_reducible rfl))
               (simp only [Act.put, List.setIfInBounds_toArray, List.set_cons_succ, List.set_cons_zero]; go_big_quiet_on)))
          (refine wpQuiet_nil ?_; clear S; intro w1 S)
          go_wp2_with (first
            | ((with_reducible refine (H1.out _).mono ?_); rintro e w2 ⟨rfl, hb⟩; have S := S.call hb; clear hb)
            | ((with_reducible refine (H2.out _).mono ?_); rintro e w2 ⟨rfl, hb⟩; have S := S.call hb; clear hb)
            | ((with_reducible refine (H3.out _).mono ?_); rintro e w2 ⟨rfl, hb⟩; have S := S.call hb; clear hb)
            | ((with_reducible refine (H4.out _).mono ?_); rintro e w2 ⟨rfl, hb⟩; have S := S.call hb; clear hb)
            | ((with_reducible refine (H5.out _).mono ?_); rintro e w2 ⟨rfl, hb⟩; have S := S.call hb; clear hb)
            | ((with_reducible show wpList _ _ _ (Oper.mk _ (Op.load _ (Operand.tmp 1)) _ _ _ _ :: _) _ _); refine wpList_loadS rfl _ _ rfl S _ rfl 0 _ _ rfl _ Tryz.underlying24 rfl haf ?_)
            | ((with_reducible show wpList _ _ _ (Oper.mk _ (Op.load _ _) _ _ _ _ :: _) _ _); refine wpList_cellS rfl _ _ rfl S _ _ rfl 0 _ _ rfl _ Tryz.underlying3 rfl _ (by with_reducible exact HF.out) ?_)
            | ((with_reducible show wpList _ _ _ (Oper.mk _ (Op.load _ _) _ _ _ _ :: _) _ _); refine wpList_cellS rfl _ _ rfl S _ _ rfl 0 _ _ rfl _ Tryz.underlying5 rfl _ (by with_reducible exact C0.out) ?_)
            | ((with_reducible show wpList _ _ _ (Oper.mk _ (Op.load _ _) _ _ _ _ :: _) _ _); refine wpList_cellS rfl _ _ rfl S _ _ rfl 0 _ _ rfl _ Tryz.underlying5 rfl _ (by with_reducible exact C1.out) ?_))
          go_ret
          exact ⟨by rw [HE.out]; rfl, S.below⟩
        | false =>
          rw [if_neg (by decide)] at hE
          cases b2 with
          | true =>
            rw [if_pos rfl] at hE
            have HE := Lib.hid hE
            clear hE
            go_enter Tryz.func17, Tryz.ntmps17
            go_wp2_with (first
              | ((with_reducible show wpList _ _ _ (Oper.mk _ (Op.box _ _) _ _ _ _ :: _) _ _); refine wpList_boxS rfl _ _ rfl (adCs 6 ip z).toArray rfl S ?_; clear S; intro ga w1 S))
            (try simp only [Act.put, List.setIfInBounds_toArray, List.set_cons_succ, List.set_cons_zero]); refine quietS_region (by kernel_rfl) (by kernel_rfl) S ?_
            repeat (first
              | go_big_quiet_skip
              | (go_big_quiet_want
                 first
                   | ((with_reducible show Oper.quiet _ (Oper.mk (some 8) (Op.call { callee := Callee.value (Operand.func 15), args := _, argTypes := _ }) _ _ _ _) _ _ _); refine q_call 15 _ _ rfl (enters_of Tryz.func15 (by kernel_rfl) rfl) (fun w S => ((H0.out _).mono fun e w2 h => ⟨h.1, S.call h.2⟩)) (by simp [Act.eval]) ?_)
                   | ((with_reducible show Oper.quiet _ (Oper.mk _ (Op.load _ (Operand.tmp 1)) _ _ _ _) _ _ _); refine q_loadS _ _ rfl _ rfl 0 _ _ rfl _ Tryz.underlying24 rfl haf ?_)
                   | ((with_reducible show Oper.quiet _ (Oper.mk _ (Op.load _ _) _ _ _ _) _ _ _); refine q_cellS _ _ rfl _ _ rfl 0 _ _ rfl _ Tryz.underlying3 rfl _ (by with_reducible exact HF.out) ?_)
                   | (refine q_pure (v := ?_) ?_ ?_; rotate_left; focus (intro w; go_simp; try with_reducible rfl))
                 (simp only [Act.put, List.setIfInBounds_toArray, List.set_cons_succ, List.set_cons_zero]; go_big_quiet_on)))
            (refine wpQuiet_nil ?_; clear S; intro w1 S)
            go_wp2_with (first
              | ((with_reducible refine (H1.out _).mono ?_); rintro e w2 ⟨rfl, hb⟩; have S := S.call hb; clear hb)
              | ((with_reducible refine (H2.out _).mono ?_); rintro e w2 ⟨rfl, hb⟩; have S := S.call hb; clear hb)
              | ((with_reducible refine (H3.out _).mono ?_); rintro e w2 ⟨rfl, hb⟩; have S := S.call hb; clear hb)
              | ((with_reducible refine (H4.out _).mono ?_); rintro e w2 ⟨rfl, hb⟩; have S := S.call hb; clear hb)
              | ((with_reducible refine (H5.out _).mono ?_); rintro e w2 ⟨rfl, hb⟩; have S := S.call hb; clear hb)
              | ((with_reducible show wpList _ _ _ (Oper.mk _ (Op.load _ (Operand.tmp 1)) _ _ _ _ :: _) _ _); refine wpList_loadS rfl _ _ rfl S _ rfl 0 _ _ rfl _ Tryz.underlying24 rfl haf ?_)
              | ((with_reducible show wpList _ _ _ (Oper.mk _ (Op.load _ _) _ _ _ _ :: _) _ _); refine wpList_cellS rfl _ _ rfl S _ _ rfl 0 _ _ rfl _ Tryz.underlying3 rfl _ (by with_reducible exact HF.out) ?_)
              | ((with_reducible show wpList _ _ _ (Oper.mk _ (Op.load _ _) _ _ _ _ :: _) _ _); refine wpList_cellS rfl _ _ rfl S _ _ rfl 0 _ _ rfl _ Tryz.underlying5 rfl _ (by with_reducible exact C0.out) ?_)
              | ((with_reducible show wpList _ _ _ (Oper.mk _ (Op.load _ _) _ _ _ _ :: _) _ _); refine wpList_cellS rfl _ _ rfl S _ _ rfl 0 _ _ rfl _ Tryz.underlying5 rfl _ (by with_reducible exact C1.out) ?_))
            go_ret
            exact ⟨by rw [HE.out]; rfl, S.below⟩
          | false =>
            rw [if_neg (by decide)] at hE
            cases b3 with
            | true =>
              rw [if_pos rfl] at hE
              have HE := Lib.hid hE
              clear hE
              go_enter Tryz.func17, Tryz.ntmps17
              go_wp2_with (first
                | ((with_reducible show wpList _ _ _ (Oper.mk _ (Op.box _ _) _ _ _ _ :: _) _ _); refine wpList_boxS rfl _ _ rfl (adCs 6 ip z).toArray rfl S ?_; clear S; intro ga w1 S))
              (try simp only [Act.put, List.setIfInBounds_toArray, List.set_cons_succ, List.set_cons_zero]); refine quietS_region (by kernel_rfl) (by kernel_rfl) S ?_
              repeat (first
                | go_big_quiet_skip
                | (go_big_quiet_want
                   first
                     | ((with_reducible show Oper.quiet _ (Oper.mk (some 8) (Op.call { callee := Callee.value (Operand.func 15), args := _, argTypes := _ }) _ _ _ _) _ _ _); refine q_call 15 _ _ rfl (enters_of Tryz.func15 (by kernel_rfl) rfl) (fun w S => ((H0.out _).mono fun e w2 h => ⟨h.1, S.call h.2⟩)) (by simp [Act.eval]) ?_)
                     | ((with_reducible show Oper.quiet _ (Oper.mk _ (Op.load _ (Operand.tmp 1)) _ _ _ _) _ _ _); refine q_loadS _ _ rfl _ rfl 0 _ _ rfl _ Tryz.underlying24 rfl haf ?_)
                     | ((with_reducible show Oper.quiet _ (Oper.mk _ (Op.load _ _) _ _ _ _) _ _ _); refine q_cellS _ _ rfl _ _ rfl 0 _ _ rfl _ Tryz.underlying3 rfl _ (by with_reducible exact HF.out) ?_)
                     | (refine q_pure (v := ?_) ?_ ?_; rotate_left; focus (intro w; go_simp; try with_reducible rfl))
                   (simp only [Act.put, List.setIfInBounds_toArray, List.set_cons_succ, List.set_cons_zero]; go_big_quiet_on)))
              (refine wpQuiet_nil ?_; clear S; intro w1 S)
              go_wp2_with (first
                | ((with_reducible refine (H1.out _).mono ?_); rintro e w2 ⟨rfl, hb⟩; have S := S.call hb; clear hb)
                | ((with_reducible refine (H2.out _).mono ?_); rintro e w2 ⟨rfl, hb⟩; have S := S.call hb; clear hb)
                | ((with_reducible refine (H3.out _).mono ?_); rintro e w2 ⟨rfl, hb⟩; have S := S.call hb; clear hb)
                | ((with_reducible refine (H4.out _).mono ?_); rintro e w2 ⟨rfl, hb⟩; have S := S.call hb; clear hb)
                | ((with_reducible refine (H5.out _).mono ?_); rintro e w2 ⟨rfl, hb⟩; have S := S.call hb; clear hb)
                | ((with_reducible show wpList _ _ _ (Oper.mk _ (Op.load _ (Operand.tmp 1)) _ _ _ _ :: _) _ _); refine wpList_loadS rfl _ _ rfl S _ rfl 0 _ _ rfl _ Tryz.underlying24 rfl haf ?_)
                | ((with_reducible show wpList _ _ _ (Oper.mk _ (Op.load _ _) _ _ _ _ :: _) _ _); refine wpList_cellS rfl _ _ rfl S _ _ rfl 0 _ _ rfl _ Tryz.underlying3 rfl _ (by with_reducible exact HF.out) ?_)
                | ((with_reducible show wpList _ _ _ (Oper.mk _ (Op.load _ _) _ _ _ _ :: _) _ _); refine wpList_cellS rfl _ _ rfl S _ _ rfl 0 _ _ rfl _ Tryz.underlying5 rfl _ (by with_reducible exact C0.out) ?_)
                | ((with_reducible show wpList _ _ _ (Oper.mk _ (Op.load _ _) _ _ _ _ :: _) _ _); refine wpList_cellS rfl _ _ rfl S _ _ rfl 0 _ _ rfl _ Tryz.underlying5 rfl _ (by with_reducible exact C1.out) ?_))
              go_ret
              exact ⟨by rw [HE.out]; rfl, S.below⟩
            | false =>
              rw [if_neg (by decide)] at hE
              cases b4 with
              | true =>
                rw [if_pos rfl] at hE
                have HE := Lib.hid hE
                clear hE
                go_enter Tryz.func17, Tryz.ntmps17
                go_wp2_with (first
                  | ((with_reducible show wpList _ _ _ (Oper.mk _ (Op.box _ _) _ _ _ _ :: _) _ _); refine wpList_boxS rfl _ _ rfl (adCs 6 ip z).toArray rfl S ?_; clear S; intro ga w1 S))
                (try simp only [Act.put, List.setIfInBounds_toArray, List.set_cons_succ, List.set_cons_zero]); refine quietS_region (by kernel_rfl) (by kernel_rfl) S ?_
                repeat (first
                  | go_big_quiet_skip
                  | (go_big_quiet_want
                     first
                       | ((with_reducible show Oper.quiet _ (Oper.mk (some 8) (Op.call { callee := Callee.value (Operand.func 15), args := _, argTypes := _ }) _ _ _ _) _ _ _); refine q_call 15 _ _ rfl (enters_of Tryz.func15 (by kernel_rfl) rfl) (fun w S => ((H0.out _).mono fun e w2 h => ⟨h.1, S.call h.2⟩)) (by simp [Act.eval]) ?_)
                       | ((with_reducible show Oper.quiet _ (Oper.mk _ (Op.load _ (Operand.tmp 1)) _ _ _ _) _ _ _); refine q_loadS _ _ rfl _ rfl 0 _ _ rfl _ Tryz.underlying24 rfl haf ?_)
                       | ((with_reducible show Oper.quiet _ (Oper.mk _ (Op.load _ _) _ _ _ _) _ _ _); refine q_cellS _ _ rfl _ _ rfl 0 _ _ rfl _ Tryz.underlying3 rfl _ (by with_reducible exact HF.out) ?_)
                       | (refine q_pure (v := ?_) ?_ ?_; rotate_left; focus (intro w; go_simp; try with_reducible rfl))
                     (simp only [Act.put, List.setIfInBounds_toArray, List.set_cons_succ, List.set_cons_zero]; go_big_quiet_on)))
                (refine wpQuiet_nil ?_; clear S; intro w1 S)
                go_wp2_with (first
                  | ((with_reducible refine (H1.out _).mono ?_); rintro e w2 ⟨rfl, hb⟩; have S := S.call hb; clear hb)
                  | ((with_reducible refine (H2.out _).mono ?_); rintro e w2 ⟨rfl, hb⟩; have S := S.call hb; clear hb)
                  | ((with_reducible refine (H3.out _).mono ?_); rintro e w2 ⟨rfl, hb⟩; have S := S.call hb; clear hb)
                  | ((with_reducible refine (H4.out _).mono ?_); rintro e w2 ⟨rfl, hb⟩; have S := S.call hb; clear hb)
                  | ((with_reducible refine (H5.out _).mono ?_); rintro e w2 ⟨rfl, hb⟩; have S := S.call hb; clear hb)
                  | ((with_reducible show wpList _ _ _ (Oper.mk _ (Op.load _ (Operand.tmp 1)) _ _ _ _ :: _) _ _); refine wpList_loadS rfl _ _ rfl S _ rfl 0 _ _ rfl _ Tryz.underlying24 rfl haf ?_)
                  | ((with_reducible show wpList _ _ _ (Oper.mk _ (Op.load _ _) _ _ _ _ :: _) _ _); refine wpList_cellS rfl _ _ rfl S _ _ rfl 0 _ _ rfl _ Tryz.underlying3 rfl _ (by with_reducible exact HF.out) ?_)
                  | ((with_reducible show wpList _ _ _ (Oper.mk _ (Op.load _ _) _ _ _ _ :: _) _ _); refine wpList_cellS rfl _ _ rfl S _ _ rfl 0 _ _ rfl _ Tryz.underlying5 rfl _ (by with_reducible exact C0.out) ?_)
                  | ((with_reducible show wpList _ _ _ (Oper.mk _ (Op.load _ _) _ _ _ _ :: _) _ _); refine wpList_cellS rfl _ _ rfl S _ _ rfl 0 _ _ rfl _ Tryz.underlying5 rfl _ (by with_reducible exact C1.out) ?_))
                go_ret
                exact ⟨by rw [HE.out]; rfl, S.below⟩
              | false =>
                rw [if_neg (by decide)] at hE
                cases b5 with
                | true =>
                  rw [if_pos rfl] at hE
                  have HE := Lib.hid hE
                  clear hE
                  go_enter Tryz.func17, Tryz.ntmps17
                  go_wp2_with (first
                    | ((with_reducible show wpList _ _ _ (Oper.mk _ (Op.box _ _) _ _ _ _ :: _) _ _); refine wpList_boxS rfl _ _ rfl (adCs 6 ip z).toArray rfl S ?_; clear S; intro ga w1 S))
                  (try simp only [Act.put, List.setIfInBounds_toArray, List.set_cons_succ, List.set_cons_zero]); refine quietS_region (by kernel_rfl) (by kernel_rfl) S ?_
                  repeat (first
                    | go_big_quiet_skip
                    | (go_big_quiet_want
                       first
                         | ((with_reducible show Oper.quiet _ (Oper.mk (some 8) (Op.call { callee := Callee.value (Operand.func 15), args := _, argTypes := _ }) _ _ _ _) _ _ _); refine q_call 15 _ _ rfl (enters_of Tryz.func15 (by kernel_rfl) rfl) (fun w S => ((H0.out _).mono fun e w2 h => ⟨h.1, S.call h.2⟩)) (by simp [Act.eval]) ?_)
                         | ((with_reducible show Oper.quiet _ (Oper.mk _ (Op.load _ (Operand.tmp 1)) _ _ _ _) _ _ _); refine q_loadS _ _ rfl _ rfl 0 _ _ rfl _ Tryz.underlying24 rfl haf ?_)
                         | ((with_reducible show Oper.quiet _ (Oper.mk _ (Op.load _ _) _ _ _ _) _ _ _); refine q_cellS _ _ rfl _ _ rfl 0 _ _ rfl _ Tryz.underlying3 rfl _ (by with_reducible exact HF.out) ?_)
                         | (refine q_pure (v := ?_) ?_ ?_; rotate_left; focus (intro w; go_simp; try with_reducible rfl))
                       (simp only [Act.put, List.setIfInBounds_toArray, List.set_cons_succ, List.set_cons_zero]; go_big_quiet_on)))
                  (refine wpQuiet_nil ?_; clear S; intro w1 S)
                  go_wp2_with (first
                    | ((with_reducible refine (H1.out _).mono ?_); rintro e w2 ⟨rfl, hb⟩; have S := S.call hb; clear hb)
                    | ((with_reducible refine (H2.out _).mono ?_); rintro e w2 ⟨rfl, hb⟩; have S := S.call hb; clear hb)
                    | ((with_reducible refine (H3.out _).mono ?_); rintro e w2 ⟨rfl, hb⟩; have S := S.call hb; clear hb)
                    | ((with_reducible refine (H4.out _).mono ?_); rintro e w2 ⟨rfl, hb⟩; have S := S.call hb; clear hb)
                    | ((with_reducible refine (H5.out _).mono ?_); rintro e w2 ⟨rfl, hb⟩; have S := S.call hb; clear hb)
                    | ((with_reducible show wpList _ _ _ (Oper.mk _ (Op.load _ (Operand.tmp 1)) _ _ _ _ :: _) _ _); refine wpList_loadS rfl _ _ rfl S _ rfl 0 _ _ rfl _ Tryz.underlying24 rfl haf ?_)
                    | ((with_reducible show wpList _ _ _ (Oper.mk _ (Op.load _ _) _ _ _ _ :: _) _ _); refine wpList_cellS rfl _ _ rfl S _ _ rfl 0 _ _ rfl _ Tryz.underlying3 rfl _ (by with_reducible exact HF.out) ?_)
                    | ((with_reducible show wpList _ _ _ (Oper.mk _ (Op.load _ _) _ _ _ _ :: _) _ _); refine wpList_cellS rfl _ _ rfl S _ _ rfl 0 _ _ rfl _ Tryz.underlying5 rfl _ (by with_reducible exact C0.out) ?_)
                    | ((with_reducible show wpList _ _ _ (Oper.mk _ (Op.load _ _) _ _ _ _ :: _) _ _); refine wpList_cellS rfl _ _ rfl S _ _ rfl 0 _ _ rfl _ Tryz.underlying5 rfl _ (by with_reducible exact C1.out) ?_))
                  go_ret
                  exact ⟨by rw [HE.out]; rfl, S.below⟩
                | false =>
                  rw [if_neg (by decide)] at hE
                  have HE := Lib.hid hE
                  clear hE
                  go_enter Tryz.func17, Tryz.ntmps17
                  go_wp2_with (first
                    | ((with_reducible show wpList _ _ _ (Oper.mk _ (Op.box _ _) _ _ _ _ :: _) _ _); refine wpList_boxS rfl _ _ rfl (adCs 6 ip z).toArray rfl S ?_; clear S; intro ga w1 S))
                  (try simp only [Act.put, List.setIfInBounds_toArray, List.set_cons_succ, List.set_cons_zero]); refine quietS_region (by kernel_rfl) (by kernel_rfl) S ?_
                  repeat (first
                    | go_big_quiet_skip
                    | (go_big_quiet_want
                       first
                         | ((with_reducible show Oper.quiet _ (Oper.mk (some 8) (Op.call { callee := Callee.value (Operand.func 15), args := _, argTypes := _ }) _ _ _ _) _ _ _); refine q_call 15 _ _ rfl (enters_of Tryz.func15 (by kernel_rfl) rfl) (fun w S => ((H0.out _).mono fun e w2 h => ⟨h.1, S.call h.2⟩)) (by simp [Act.eval]) ?_)
                         | ((with_reducible show Oper.quiet _ (Oper.mk _ (Op.load _ (Operand.tmp 1)) _ _ _ _) _ _ _); refine q_loadS _ _ rfl _ rfl 0 _ _ rfl _ Tryz.underlying24 rfl haf ?_)
                         | ((with_reducible show Oper.quiet _ (Oper.mk _ (Op.load _ _) _ _ _ _) _ _ _); refine q_cellS _ _ rfl _ _ rfl 0 _ _ rfl _ Tryz.underlying3 rfl _ (by with_reducible exact HF.out) ?_)
                         | (refine q_pure (v := ?_) ?_ ?_; rotate_left; focus (intro w; go_simp; try with_reducible rfl))
                       (simp only [Act.put, List.setIfInBounds_toArray, List.set_cons_succ, List.set_cons_zero]; go_big_quiet_on)))
                  (refine wpQuiet_nil ?_; clear S; intro w1 S)
                  go_wp2_with (first
                    | ((with_reducible refine (H1.out _).mono ?_); rintro e w2 ⟨rfl, hb⟩; have S := S.call hb; clear hb)
                    | ((with_reducible refine (H2.out _).mono ?_); rintro e w2 ⟨rfl, hb⟩; have S := S.call hb; clear hb)
                    | ((with_reducible refine (H3.out _).mono ?_); rintro e w2 ⟨rfl, hb⟩; have S := S.call hb; clear hb)
                    | ((with_reducible refine (H4.out _).mono ?_); rintro e w2 ⟨rfl, hb⟩; have S := S.call hb; clear hb)
                    | ((with_reducible refine (H5.out _).mono ?_); rintro e w2 ⟨rfl, hb⟩; have S := S.call hb; clear hb)
                    | ((with_reducible show wpList _ _ _ (Oper.mk _ (Op.load _ (Operand.tmp 1)) _ _ _ _ :: _) _ _); refine wpList_loadS rfl _ _ rfl S _ rfl 0 _ _ rfl _ Tryz.underlying24 rfl haf ?_)
                    | ((with_reducible show wpList _ _ _ (Oper.mk _ (Op.load _ _) _ _ _ _ :: _) _ _); refine wpList_cellS rfl _ _ rfl S _ _ rfl 0 _ _ rfl _ Tryz.underlying3 rfl _ (by with_reducible exact HF.out) ?_)
                    | ((with_reducible show wpList _ _ _ (Oper.mk _ (Op.load _ _) _ _ _ _ :: _) _ _); refine wpList_cellS rfl _ _ rfl S _ _ rfl 0 _ _ rfl _ Tryz.underlying5 rfl _ (by with_reducible exact C0.out) ?_)
                    | ((with_reducible show wpList _ _ _ (Oper.mk _ (Op.load _ _) _ _ _ _ :: _) _ _); refine wpList_cellS rfl _ _ rfl S _ _ rfl 0 _ _ rfl _ Tryz.underlying5 rfl _ (by with_reducible exact C1.out) ?_))
                  go_ret
                  exact ⟨by rw [HE.out]; rfl, S.below⟩
set_option maxHeartbeats 4000000 in
theorem rScope_any (f z : Int) (ip : List UInt8) (w : World) (hip : ip.length = 16) :
    Calls Tryz.prog 17 #[adV f ip z] w fun e w' => e = .returned (.int .i64 (scopeE f ip z)) ∧ Below w.heap.size w w' := by
  by_cases hm : f = 6 ∧ ip = map4 (top4 ip)
  · have S := Ats.start w
    obtain ⟨rfl, hm⟩ := hm
    have hU : unmapE 6 ip z = ⟨4, top4 ip, 0⟩ := by unfold unmapE; rw [if_pos ⟨rfl, hm⟩]
    have hE : scopeE 6 ip z = scope1 4 (top4 ip) := by unfold scopeE; rw [hU]
    rw [hE]
    have h0 := fun w => rUnmap_any 6 z ip w hip
    rw [hU] at h0
    simp only at h0
    have h1 := fun w => rScopeC_any 4 0 (top4 ip) w rfl (unmapE_no _ _ (by decide))
    have hN := ad_neq 4 6 0 z (top4 ip) ip rfl hip
    have hb : (!((4 : Int) == 6 && top4 ip == ip && (0 : Int) == z)) = true := by simp
    rw [hb] at hN
    have hG := ad_guard
    have hf := ad_fam 6 z ip
    have haf := adSize 6 ip z hip
    obtain ⟨T, hT⟩ : ∃ T, T = top4 ip := ⟨_, rfl⟩
    obtain ⟨R, hR⟩ : ∃ R, R = scope1 4 (top4 ip) := ⟨_, rfl⟩
    rw [← hR] at h1 ⊢
    rw [← hT] at h0 h1 hN
    have HF := Lib.hid hf
    have H0 := Lib.hid h0
    have H1 := Lib.hid h1
    clear hf h0 h1 hm hU hE hT hR hb
    go_enter Tryz.func17, Tryz.ntmps17
    go_wp2_with (first
      | ((with_reducible show wpList _ _ _ (Oper.mk _ (Op.box _ _) _ _ _ _ :: _) _ _); refine wpList_boxS rfl _ _ rfl (adCs 6 ip z).toArray rfl S ?_; clear S; intro ga w1 S))
    (try simp only [Act.put, List.setIfInBounds_toArray, List.set_cons_succ, List.set_cons_zero]); refine quietS_region (by kernel_rfl) (by kernel_rfl) S ?_
    repeat (first
      | go_big_quiet_skip
      | (go_big_quiet_want
         first
           | ((with_reducible show Oper.quiet _ (Oper.mk (some 8) (Op.call { callee := Callee.value (Operand.func 15), args := _, argTypes := _ }) _ _ _ _) _ _ _); refine q_call 15 _ _ rfl (enters_of Tryz.func15 (by kernel_rfl) rfl) (fun w S => ((H0.out _).mono fun e w2 h => ⟨h.1, S.call h.2⟩)) (by simp [Act.eval]) ?_)
           | ((with_reducible show Oper.quiet _ (Oper.mk _ (Op.load _ (Operand.tmp 1)) _ _ _ _) _ _ _); refine q_loadS _ _ rfl _ rfl 0 _ _ rfl _ Tryz.underlying24 rfl haf ?_)
           | ((with_reducible show Oper.quiet _ (Oper.mk _ (Op.load _ _) _ _ _ _) _ _ _); refine q_cellS _ _ rfl _ _ rfl 0 _ _ rfl _ Tryz.underlying3 rfl _ (by with_reducible exact HF.out) ?_)
           | (refine q_pure (v := ?_) ?_ ?_; rotate_left; focus (intro w; go_simp; try with_reducible rfl))
         (simp only [Act.put, List.setIfInBounds_toArray, List.set_cons_succ, List.set_cons_zero]; go_big_quiet_on)))
    (refine wpQuiet_nil ?_; clear S; intro w1 S)
    go_wp2_with (first
      | ((with_reducible refine (H0.out _).mono ?_); rintro e w2 ⟨rfl, hb⟩; have S := S.call hb; clear hb)
      | ((with_reducible refine (H1.out _).mono ?_); rintro e w2 ⟨rfl, hb⟩; have S := S.call hb; clear hb)
      | ((with_reducible show wpList _ _ _ (Oper.mk _ (Op.load _ (Operand.tmp 1)) _ _ _ _ :: _) _ _); refine wpList_loadS rfl _ _ rfl S _ rfl 0 _ _ rfl _ Tryz.underlying24 rfl haf ?_))
    go_ret
    exact ⟨rfl, S.below⟩
  · have hU : unmapE f ip z = ⟨f, ip, z⟩ := by unfold unmapE; rw [if_neg hm]
    have hE : scopeE f ip z = scope1 f ip := by unfold scopeE; rw [hU]
    rw [hE]
    exact rScopeC_any f z ip w hip hU
set_option maxHeartbeats 2000000 in
theorem rMulti_any (f z : Int) (ip : List UInt8) (w : World) (hip : ip.length = 16) :
    Calls Tryz.prog 19 #[adV f ip z] w fun e w' => e = .returned (.bool (multiE f ip)) ∧ Below w.heap.size w w' := by
  have S := Ats.start w
  have h1 := rIn2_any 4 t224 4 ip224 (by decide) p224 rfl f z ip hip
  have h2 := rIn2_any 8 tFf00 6 ipFf00 (by decide) pFf00 rfl f z ip hip
  rw [within_ff f ip hip] at h2
  unfold t224 at h1
  unfold tFf00 at h2
  have haf := adSize f ip z hip
  have hE : multiE f ip = (withinE f ip 4 ip224 0 4 || manyB f ip) := rfl
  obtain ⟨R, hR⟩ : ∃ R, R = multiE f ip := ⟨_, rfl⟩
  obtain ⟨b, hb⟩ : ∃ b, b = withinE f ip 4 ip224 0 4 := ⟨_, rfl⟩
  obtain ⟨c, hc⟩ : ∃ c, c = manyB f ip := ⟨_, rfl⟩
  rw [← hR, ← hb, ← hc] at hE
  rw [← hR]
  rw [← hb] at h1
  rw [← hc] at h2
  have H1 := Lib.hid h1
  have H2 := Lib.hid h2
  have HE := Lib.hid hE
  clear h1 h2 hE hR hb hc
  cases b
  all_goals
    go_enter Tryz.func19, Tryz.ntmps19
    go_wp2_with (first
      | ((with_reducible show wpList _ _ _ (Oper.mk _ (Op.box _ _) _ _ _ _ :: _) _ _); refine wpList_boxS rfl _ _ rfl (adCs f ip z).toArray rfl S ?_; clear S; intro ga w1 S)
      | ((with_reducible refine (H1.out _).mono ?_); rintro e w2 ⟨rfl, hb⟩; have S := S.call hb; clear hb)
      | ((with_reducible refine (H2.out _).mono ?_); rintro e w2 ⟨rfl, hb⟩; have S := S.call hb; clear hb)
      | ((with_reducible show wpList _ _ _ (Oper.mk _ (Op.load _ (Operand.tmp 1)) _ _ _ _ :: _) _ _); refine wpList_loadS rfl _ _ rfl S _ rfl 0 _ _ rfl _ Tryz.underlying24 rfl haf ?_))
    go_ret
    exact ⟨by rw [HE.out]; rfl, S.below⟩
end Go.Proofs.YthbdeafbdmbabaaGreatDoor
namespace Go.Proofs.YthbdeafbdmbabaaGreatDoor
open Go.RowKit Go
set_option linter.unusedVariables false
set_option maxRecDepth 100000
theorem hexd_at (x : UInt8) (j : Nat) (hj : j < 2) : ∃ q d : Nat, d < 16 ∧ q < 256 ∧ (x.toNat : Int).tdiv (1 + 15 * (j : Int)) = q ∧ (x.toNat : Int) / (1 + 15 * (j : Int)) = q ∧ (q : Int).tmod 16 = d ∧ (hex2 x).take (j + 1) = (hex2 x).take j ++ [[hexC d]] := by
  have hx := UInt8.toNat_lt x
  match j, hj with
  | 0, _ =>
    refine ⟨x.toNat, x.toNat % 16, by omega, by omega, ?_, ?_, ?_, rfl⟩
    · show (x.toNat : Int).tdiv (1 + 15 * 0) = _
      rw [show (1 + 15 * 0 : Int) = 1 by decide, Int.tdiv_one]
    · show (x.toNat : Int) / (1 + 15 * 0) = _
      omega
    · rw [Int.tmod_eq_emod_of_nonneg (by omega)]
      omega
  | 1, _ =>
    refine ⟨x.toNat / 16, x.toNat / 16, by omega, by omega, ?_, ?_, ?_, rfl⟩
    · show (x.toNat : Int).tdiv (1 + 15 * 1) = _
      rw [show (1 + 15 * 1 : Int) = 16 by decide, Int.tdiv_eq_ediv_of_nonneg (by omega)]
      omega
    · show (x.toNat : Int) / (1 + 15 * 1) = _
      omega
    · rw [Int.tmod_eq_emod_of_nonneg (by omega)]
      omega
theorem dec_itoa (x : UInt8) : Lib.itoa (x.toNat : Int) = Lib.decDigits x.toNat := Lib.itoa_nonneg _
set_option maxHeartbeats 8000000 in
theorem rReverse_any (f z : Int) (ip : List UInt8) (w : World) (hip : ip.length = 16) :
    Calls Tryz.prog 22 #[adV f ip z] w fun e w' => ∃ A' c', e = .returned (.slice A' (revL f ip).length c') ∧ TextsAt w' A' (revL f ip).length (revL f ip) ∧ Below w.heap.size w w' := by
  have S := Ats.start w
  have hf := ad_fam f z ip
  rcases fam3 f with rfl | rfl | hn
  · have hr : revL 4 ip = rev4 ip 4 ++ [lInaddr] ++ [lArpa] := by show rev4 ip 4 ++ [lInaddr, lArpa] = _; simp
    obtain ⟨R, hR⟩ : ∃ R, R = revL 4 ip := ⟨_, rfl⟩
    rw [← hR] at hr ⊢
    have HR := Lib.hid hr
    clear hr hR
    go_enter Tryz.func22, Tryz.ntmps22
    go_wp2_with (first
      | ((with_reducible show wpList _ _ _ (Oper.mk _ (Op.box _ _) _ _ _ _ :: _) _ _); refine wpList_boxS rfl _ _ rfl (adCs 4 ip z).toArray rfl S ?_; clear S; intro ga w1 S)
      | ((with_reducible show wpList _ _ _ (Oper.mk _ (Op.load _ _) _ _ _ _ :: _) _ _); refine wpList_cellS rfl _ _ rfl S _ _ rfl 0 _ _ rfl _ Tryz.underlying3 rfl _ (by with_reducible exact hf) ?_))
    go_loopw [3, 4] (fun v i wr => ∃ k : Nat, k ≤ 4 ∧ i = .int .i64 (3 - (k : Int)) ∧ wr.ownsRow w.heap.size 9 1 v (rev4 ip k).length (strVs (rev4 ip k)) ∧ Ats w.heap.size w wr [(ga, 24, (adCs 4 ip z).toArray)]) (fun _ i _ => (intOf i + 1).toNat)
    case atStart => exact ⟨0, Nat.zero_le _, rfl, World.ownsRow_nil _ _ _ _, S⟩
    case round =>
      obtain ⟨k, hk, rfl, hown, S⟩ := hrel
      by_cases hlt : k < 4
      · have c0 := ad_at 4 z ip (3 - k) hip (by omega)
        have hi : (3 - (k : Int)) = ((3 - k : Nat) : Int) := by omega
        rw [hi]
        have b1 : (3 - k : Nat) < 16 := by omega
        have hs := rev4_succ ip k
        have hl := rev4_len ip k
        obtain ⟨x, hx⟩ : ∃ x, x = ip.getD (3 - k) 0 := ⟨_, rfl⟩
        obtain ⟨j, hj⟩ : ∃ j : Nat, j = 3 - k := ⟨_, rfl⟩
        obtain ⟨L, hL⟩ : ∃ L, L = rev4 ip k := ⟨_, rfl⟩
        rw [← hx] at c0 hs
        rw [← hj] at c0 b1 ⊢
        rw [← hL] at hs hl hown
        have hxl := UInt8.toNat_lt x
        have hdg := fun w => refDigits_any (x.toNat : Int) w (by omega) (by omega)
        rw [dec_itoa] at hdg
        have HDG := Lib.hid hdg
        have C0 := Lib.hid c0
        have HS := Lib.hid hs
        have HLT := Lib.hid hlt
        have HJ := Lib.hid hj
        have hwx := wrapU8 x
        have d1 : decide ((0 : Int) ≤ (j : Int)) = true := decide_eq_true (by omega)
        have e1 : IntKind.i64.wrap ((j : Int) - 1) = (j : Int) - 1 := IntWalk.i64_in _ (by omega)
        have b2 : (j : Int) < 16 := by omega
        have hL4 : L.length ≤ 4 := by omega
        clear c0 hs hx hj hL hdg hl hi hxl
        go_wp2_with (first
          | ((with_reducible show wpList _ _ _ (Oper.mk _ (Op.load _ _) _ _ _ _ :: _) _ _); refine wpList_cellS rfl _ _ rfl S _ _ rfl 0 _ _ rfl _ Tryz.underlying5 rfl _ (by with_reducible exact C0.out) ?_))
        with_reducible refine (HDG.out _).mono ?_
        rintro e w2 ⟨rfl, hq⟩
        subst hq
        have hsz := S.below.size
        have hne := ne_ad ga (adCs 4 ip z).toArray
        go_wp2_with (at_builtin; refine wpList_app1S rfl (.tmp 15) (.tmp 22) 33 9 rfl Tryz.underlying33 elem9 rfl w.heap.size _ L.length _ _ rfl rfl hown S hne (Nat.le_refl _) rfl (by omega) (by omega) hsz ?_)
        intro v' w' hown' S'
        have hown2 := own_app1 hown'
        rw [← HS.out] at hown2
        clear hown' S hown
        go_wp2_with fail
        go_roundw
        case rel =>
          have h1 := HLT.out
          have h2 := HJ.out
          exact ⟨k + 1, by omega, congrArg (Value.int .i64) (by omega), hown2, S'⟩
        case measure => have := HLT.out; have := HJ.out; first | (simp [intOf]; done) | (simp [intOf]; omega)
      · obtain rfl : k = 4 := by omega
        have hl := rev4_len ip 4
        have hr := HR.out
        obtain ⟨L, hL⟩ : ∃ L, L = rev4 ip 4 := ⟨_, rfl⟩
        rw [← hL] at hl hown hr
        have HR2 := Lib.hid hr
        have hsz := S.below.size
        have hne := ne_ad ga (adCs 4 ip z).toArray
        have hL4 : L.length ≤ 4 := by omega
        have hL5 : (L ++ [lInaddr]).length ≤ 5 := by rw [List.length_append]; show L.length + 1 ≤ 5; omega
        clear hL hl HR hr hlt
        go_wp2_with (at_builtin; refine wpList_app1S rfl (.tmp 24) (.tmp 25) 33 9 rfl Tryz.underlying33 elem9 rfl w.heap.size _ L.length _ _ rfl rfl hown S hne (Nat.le_refl _) rfl (by omega) (by omega) hsz ?_)
        intro v1 w1 hown1 S1
        have hown1 := own_app1 (W := lInaddr) hown1
        have hsz1 := S1.below.size
        clear hown S
        go_wp2_with (at_builtin; refine wpList_app1S rfl (.tmp 26) (.tmp 27) 33 9 rfl Tryz.underlying33 elem9 rfl w.heap.size _ (L ++ [lInaddr]).length _ _ rfl rfl hown1 S1 hne (Nat.le_refl _) rfl (by omega) (by omega) hsz1 ?_)
        intro v2 w2 hown2 S2
        rw [show L.length + 1 + 1 = (L ++ [lInaddr]).length + 1 by simp] at hown2
        have hown2 := own_app1 (W := lArpa) hown2
        rw [← HR2.out] at hown2
        obtain ⟨A2, c2, rfl, hta⟩ := TextsAt.of_own hown2
        clear hown1 hown2 S1
        go_wp2_with fail
        go_ret
        exact ⟨A2, c2, rfl, hta, S2.below⟩
  · have hr : revL 6 ip = rev6 ip 16 ++ [lIp6] ++ [lArpa] := by show rev6 ip 16 ++ [lIp6, lArpa] = _; simp
    obtain ⟨R, hR⟩ : ∃ R, R = revL 6 ip := ⟨_, rfl⟩
    rw [← hR] at hr ⊢
    have HR := Lib.hid hr
    clear hr hR
    go_enter Tryz.func22, Tryz.ntmps22
    go_wp2_with (first
      | ((with_reducible show wpList _ _ _ (Oper.mk _ (Op.box _ _) _ _ _ _ :: _) _ _); refine wpList_boxS rfl _ _ rfl (adCs 6 ip z).toArray rfl S ?_; clear S; intro ga w1 S)
      | ((with_reducible show wpList _ _ _ (Oper.mk _ (Op.load _ _) _ _ _ _ :: _) _ _); refine wpList_cellS rfl _ _ rfl S _ _ rfl 0 _ _ rfl _ Tryz.underlying3 rfl _ (by with_reducible exact hf) ?_))
    go_loopw [3, 5] (fun v i wr => ∃ k : Nat, k ≤ 16 ∧ i = .int .i64 (15 - (k : Int)) ∧ wr.ownsRow w.heap.size 9 1 v (rev6 ip k).length (strVs (rev6 ip k)) ∧ Ats w.heap.size w wr [(ga, 24, (adCs 6 ip z).toArray)]) (fun _ i _ => (intOf i + 1).toNat)
    case atStart => exact ⟨0, Nat.zero_le _, rfl, World.ownsRow_nil _ _ _ _, S⟩
    case round =>
      obtain ⟨k, hk, rfl, hown, S⟩ := hrel
      by_cases hlt : k < 16
      · have c0 := ad_at 6 z ip (15 - k) hip (by omega)
        have hi : (15 - (k : Int)) = ((15 - k : Nat) : Int) := by omega
        rw [hi]
        have b1 : (15 - k : Nat) < 16 := by omega
        have hs := rev6_succ ip k
        have hl := rev6_len ip k
        obtain ⟨x, hx⟩ : ∃ x, x = ip.getD (15 - k) 0 := ⟨_, rfl⟩
        obtain ⟨j, hj⟩ : ∃ j : Nat, j = 15 - k := ⟨_, rfl⟩
        obtain ⟨L, hL⟩ : ∃ L, L = rev6 ip k := ⟨_, rfl⟩
        rw [← hx] at c0 hs
        rw [← hj] at c0 b1 ⊢
        rw [← hL] at hs hl hown
        have C0 := Lib.hid c0
        have HS := Lib.hid hs
        have HLT := Lib.hid hlt
        have HJ := Lib.hid hj
        have hwx := wrapU8 x
        have d1 : decide ((0 : Int) ≤ (j : Int)) = true := decide_eq_true (by omega)
        have b2 : (j : Int) < 16 := by omega
        have hL4 : L.length ≤ 32 := by omega
        have HL4 := Lib.hid hL4
        clear c0 hs hx hj hL hl hi hL4
        go_wp2_with fail
        go_loopw [3, 6] (fun v i wr => ∃ m : Nat, m ≤ 2 ∧ i = .int .i64 m ∧ wr.ownsRow w.heap.size 9 1 v (L ++ (hex2 x).take m).length (strVs (L ++ (hex2 x).take m)) ∧ Ats w.heap.size w wr [(ga, 24, (adCs 6 ip z).toArray)]) (fun _ i _ => 2 - (intOf i).toNat)
        case atStart => exact ⟨0, Nat.zero_le _, rfl, by simpa using hown, S⟩
        case round =>
          clear hown S
          obtain ⟨m, hm, rfl, hown, S⟩ := hrel
          by_cases hlm : m < 2
          · obtain ⟨q, d, hd, hq, hdv1, hdv2, hdv3, hts⟩ := hexd_at x m hlm
            have hpc := hex_piece ⟨d, hd⟩
            simp only at hpc
            have hll : (L ++ (hex2 x).take m).length ≤ 34 := by
              have := HL4.out
              rw [List.length_append, List.length_take]
              omega
            obtain ⟨M, hM⟩ : ∃ M, M = L ++ (hex2 x).take m := ⟨_, rfl⟩
            have hts2 : L ++ (hex2 x).take (m + 1) = M ++ [[hexC d]] := by rw [hts, hM]; simp
            rw [← hM] at hown hll
            have e1 : IntKind.i64.wrap (15 * (m : Int)) = 15 * m := IntWalk.i64_in _ (by omega)
            have e2 : IntKind.i64.wrap (1 + 15 * (m : Int)) = 1 + 15 * m := IntWalk.i64_in _ (by omega)
            have e3 : IntKind.i64.wrap (q : Int) = q := IntWalk.i64_in _ (by omega)
            have e4 : IntKind.i64.wrap (d : Int) = d := IntWalk.i64_in _ (by omega)
            have e5 : IntKind.i64.wrap ((d : Int) + 1) = (d : Int) + 1 := IntWalk.i64_in _ (by omega)
            have nz : (1 + 15 * (m : Int) == 0) = false := by rw [beq_eq_false_iff_ne]; omega
            have nz2 : ¬ (1 + 15 * (m : Int) = 0) := by omega
            have bd1 : (0 : Int) ≤ d ∧ (d : Int) ≤ (d : Int) + 1 ∧ (d : Int) + 1 ≤ 16 := by omega
            have bd2 : d + 1 ≤ 16 := by omega
            have d2 : decide ((m : Int) < 2) = true := decide_eq_true (by omega)
            have HPC := Lib.hid hpc
            have HTS := Lib.hid hts2
            have HLM := Lib.hid hlm
            have hsz := S.below.size
            have hne := ne_ad ga (adCs 6 ip z).toArray
            clear hts hM hts2 hlm hpc
            go_wp2_with (first
              | ((with_reducible show wpList _ _ _ (Oper.mk _ (Op.load _ _) _ _ _ _ :: _) _ _); refine wpList_cellS rfl _ _ rfl S _ _ rfl 0 _ _ rfl _ Tryz.underlying5 rfl _ (by with_reducible exact C0.out) ?_)
              | (at_builtin; refine wpList_app1S rfl (.tmp 50) (.tmp 55) 33 9 rfl Tryz.underlying33 elem9 rfl w.heap.size _ M.length _ _ rfl rfl hown S hne (Nat.le_refl _) rfl (by omega) (by omega) hsz ?_))
            intro v' w' hown' S'
            rw [show (⟨#[48, 49, 50, 51, 52, 53, 54, 55, 56, 57, 97, 98, 99, 100, 101, 102]⟩ : ByteArray).extract d (d + 1) = ⟨[hexC d].toArray⟩ from HPC.out] at hown'
            have hown2 := own_app1 hown'
            rw [← HTS.out] at hown2
            clear hown' S hown
            go_wp2_with fail
            go_roundw
            case rel =>
              have h1 := HLM.out
              exact ⟨m + 1, by omega, by go_num, hown2, S'⟩
            case measure => have := HLM.out; simp [intOf]; omega
          · obtain rfl : m = 2 := by omega
            have d2 : decide ((2 : Int) < 2) = false := by decide
            have e1 : IntKind.i64.wrap ((j : Int) - 1) = (j : Int) - 1 := IntWalk.i64_in _ (by omega)
            rw [show L ++ (hex2 x).take 2 = rev6 ip (k + 1) from HS.out.symm] at hown
            clear hlm
            go_wp2_with fail
            go_roundw
            case rel =>
              have h1 := HLT.out
              have h2 := HJ.out
              exact ⟨k + 1, by omega, congrArg (Value.int .i64) (by omega), hown, S⟩
            case measure => have := HLT.out; have := HJ.out; first | (simp [intOf]; done) | (simp [intOf]; omega)
      · obtain rfl : k = 16 := by omega
        have hl := rev6_len ip 16
        have hr := HR.out
        obtain ⟨L, hL⟩ : ∃ L, L = rev6 ip 16 := ⟨_, rfl⟩
        rw [← hL] at hl hown hr
        have HR2 := Lib.hid hr
        have hsz := S.below.size
        have hne := ne_ad ga (adCs 6 ip z).toArray
        have hL4 : L.length ≤ 32 := by omega
        have hL5 : (L ++ [lIp6]).length ≤ 33 := by rw [List.length_append]; show L.length + 1 ≤ 33; omega
        clear hL hl HR hr hlt
        go_wp2_with (at_builtin; refine wpList_app1S rfl (.tmp 57) (.tmp 58) 33 9 rfl Tryz.underlying33 elem9 rfl w.heap.size _ L.length _ _ rfl rfl hown S hne (Nat.le_refl _) rfl (by omega) (by omega) hsz ?_)
        intro v1 w1 hown1 S1
        have hown1 := own_app1 (W := lIp6) hown1
        have hsz1 := S1.below.size
        clear hown S
        go_wp2_with (at_builtin; refine wpList_app1S rfl (.tmp 59) (.tmp 60) 33 9 rfl Tryz.underlying33 elem9 rfl w.heap.size _ (L ++ [lIp6]).length _ _ rfl rfl hown1 S1 hne (Nat.le_refl _) rfl (by omega) (by omega) hsz1 ?_)
        intro v2 w2 hown2 S2
        rw [show L.length + 1 + 1 = (L ++ [lIp6]).length + 1 by simp] at hown2
        have hown2 := own_app1 (W := lArpa) hown2
        rw [← HR2.out] at hown2
        obtain ⟨A2, c2, rfl, hta⟩ := TextsAt.of_own hown2
        clear hown1 hown2 S1
        go_wp2_with fail
        go_ret
        exact ⟨A2, c2, rfl, hta, S2.below⟩
  · have h4 : (f == 4) = false := by simpa using hn.1
    have h6 : (f == 6) = false := by simpa using hn.2
    have hr : revL f ip = [] := by unfold revL; rw [if_neg hn.1, if_neg hn.2]
    rw [hr]
    clear hn hr
    go_enter Tryz.func22, Tryz.ntmps22
    go_wp2_with (first
      | ((with_reducible show wpList _ _ _ (Oper.mk _ (Op.box _ _) _ _ _ _ :: _) _ _); refine wpList_boxS rfl _ _ rfl (adCs f ip z).toArray rfl S ?_; clear S; intro ga w1 S)
      | ((with_reducible show wpList _ _ _ (Oper.mk _ (Op.load _ _) _ _ _ _ :: _) _ _); refine wpList_cellS rfl _ _ rfl S _ _ rfl 0 _ _ rfl _ Tryz.underlying3 rfl _ (by with_reducible exact hf) ?_))
    go_ret
    exact ⟨none, 0, rfl, ⟨rfl, fun h => absurd h (by decide)⟩, S.below⟩
end Go.Proofs.YthbdeafbdmbabaaGreatDoor
