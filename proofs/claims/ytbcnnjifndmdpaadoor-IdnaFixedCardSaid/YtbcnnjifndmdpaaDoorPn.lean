/- Texts behind a law of this seat, in order: Ins. -/
import Derived.Test.YtbcnnjifndmdpaaDoorPb
import Derived.Test.YtbcnnjifndmdpaaDoorPe
import Derived.Test.YtbcnnjifndmdpaaDoorPf
import Derived.Test.YtbcnnjifndmdpaaDoorPi
import Derived.Test.YtbcnnjifndmdpaaDoorPj
import Derived.Test.YtbcnnjifndmdpaaDoorPk
import Derived.Test.YtbcnnjifndmdpaaDoorPl
import Derived.Test.YtbcnnjifndmdpaaDoorPm
import Derived.Below
import Derived.BigQuiet
import Derived.BigRegion
import Derived.ChangeSlices
import Derived.Deep.AppendLies
import Derived.Deep.Draws
import Derived.Deep.QuietTactic
import Derived.Deep.RegionHeld3
import Derived.Deep.RegionLaw
import Derived.Deep.RegionWith
import Derived.Handed
import Derived.IntWalk
import Derived.Laws.CopyOwn
import Derived.Laws.Externs
import Derived.Laws.OwnMore
import Derived.Laws.Rows
import Derived.Lib.AppendZeros
import Derived.Lib.AppendZerosOnto
import Derived.Lib.Hide
import Derived.Lib.Overlaps
import Derived.Lib.Strings
import Derived.SizedLaws
import Derived.SliceStrings
import Derived.StillTailTactics
import Derived.Test.YtbcnnjifndmdpaaDoorProg
import Derived.WalkKit
import Derived.WalkLawsBesides
import Derived.WalkSpells
namespace Go.Proofs.YtbcnnjifndmdpaaDoor
open Go.RowKit Go
set_option linter.unusedVariables false
theorem elemI32 : Elem1 Tryd.prog 21 (.int .i32 0) 4 := by unfold Elem1; kernel_rfl
theorem size1_I32 : (Tryd.prog.info? 21).map (·.size) = some 1 := by kernel_rfl
def InsP (w : World) (B : Nat) (v : Value) (n : Nat) (l : List Int) (e : Ending) (w' : World) : Prop :=
  ∃ gg cap, e = .returned (.slice (some ⟨gg, 0, none⟩) (n + 1) cap) ∧ w'.ownsRow B 21 1 (.slice (some ⟨gg, 0, none⟩) (n + 1) cap) (n + 1) (intVs .i32 l) ∧ w.grownBy w' v.ownBlock
set_option maxHeartbeats 2000000 in
theorem insEnd_any (w : World) (B : Nat) (v : Value) (n : Nat) (pts : List Int) (hown : w.ownsRow B 21 1 v n (intVs .i32 pts)) (hn : n ≤ 100000) (x : Int) (hb : Nat) (hat : At w hb 21 #[.int .i32 x]) (hB : B ≤ w.heap.size) :
    Calls Tryd.prog 82 #[v, .int .i64 n, .slice (some ⟨hb, 0, none⟩) 1 1] w (InsP w B v n (pts ++ [x])) := by
  obtain ⟨i0, hi0, hz0, hz1, hz2⟩ := info_parts elemI32
  have hnews := World.news_of_block (cs := #[.int .i32 x]) (t := 21) (fr := (0, 0)) hat
  have HOWN := Lib.hid hown
  have HNEWS := Lib.hid hnews
  obtain ⟨A, c, rfl⟩ := own_slice hown
  have hc : n ≤ c := by rcases hown.2 with ⟨h, h0⟩ | ⟨_, _, _, h, _, _, hh, _⟩ <;> (injection h; omega)
  clear hown hnews hat
  have hz : ((n : Int) == (n : Int)) = true := by simp
  by_cases hcn : c = n
  · subst hcn
    go_enter Tryd.func82, Tryd.ntmps82
    go_wp2_with (at_builtin; refine wpList_append_lies _ rfl _ _ _ rfl B 21 i0 _ 1 4 Tryd.underlying33 hi0 hz0 hz1 hz2 rfl (by decide) _ c (intVs .i32 pts) rfl HOWN.out ⟨hb, 0, none⟩ 1 1 [.int .i32 x] rfl rfl HNEWS.out (by simp [Value.oneCell']) (by decide) (by unfold maxLen; omega) (by omega) hB w.heap.size rfl ?_)
    intro gg cap w' hown2 hgrow hat2 hlt
    go_wp2
    go_ret
    exact ⟨gg, cap, rfl, by rw [intVs_app]; exact hown2, hgrow⟩
  · go_enter Tryd.func82, Tryd.ntmps82
    go_wp2_with (at_builtin; refine wpList_append_lies _ rfl _ _ _ rfl B 21 i0 _ 1 4 Tryd.underlying33 hi0 hz0 hz1 hz2 rfl (by decide) _ n (intVs .i32 pts) rfl HOWN.out ⟨hb, 0, none⟩ 1 1 [.int .i32 x] rfl rfl HNEWS.out (by simp [Value.oneCell']) (by decide) (by unfold maxLen; omega) (by omega) hB w.heap.size rfl ?_)
    intro gg cap w' hown2 hgrow hat2 hlt
    go_wp2
    go_ret
    exact ⟨gg, cap, rfl, by rw [intVs_app]; exact hown2, hgrow⟩
set_option maxRecDepth 100000 in
set_option maxHeartbeats 4000000 in
theorem insRoom_any (w : World) (B gv n i c : Nat) (pts : List Int) (hown : w.ownsRow B 21 1 (.slice (some ⟨gv, 0, none⟩) n c) n (intVs .i32 pts)) (hn : n ≤ 100000) (hi : i < n) (hc : n + 1 ≤ c) (x : Int) (hb : Nat) (hat : At w hb 21 #[.int .i32 x]) (hB : B ≤ w.heap.size)
    (hne : hb ≠ gv) : Calls Tryd.prog 82 #[.slice (some ⟨gv, 0, none⟩) n c, .int .i64 i, .slice (some ⟨hb, 0, none⟩) 1 1] w (InsP w B (.slice (some ⟨gv, 0, none⟩) n c) n (insL pts i x)) := by
  have hlen : (intVs .i32 pts).length = n := by have := hown.1; simpa using this
  rcases hown.2 with ⟨h, _⟩ | ⟨g, cap, cur, hv, hBg, hg, hnc, hcm, hcs, htk⟩
  · cases h
  injection hv with hv1 _ hv2
  injection hv1 with hv1
  injection hv1 with hv1
  subst hv1
  subst hv2
  simp only [Nat.mul_one] at hcs htk
  have hgl : At w gv 21 cur.toList.toArray := hg
  have hsp := splice_room cur.toList (intVs .i32 pts) i n (.int .i32 x) htk hlen (by omega) (by simp; omega)
  have hcell : ∀ j u, (intVs .i32 pts)[j]? = some u → w.cell? ⟨gv, j, none⟩ = some u := fun j u hu => by
    rw [hgl.cell]
    rw [← htk] at hu
    rw [List.getElem?_take] at hu
    split at hu
    · simpa using hu
    · cases hu
  have hov : ∀ lb cb, (callFunc 89 #[.slice (some ⟨hb, 0, none⟩) 1 1, .slice (some ⟨gv, i + 1, none⟩) lb cb]).run Tryd.prog w = .ok (.value (.bool false)) w := fun lb cb => by
    rw [run_callFunc_extern Tryd.func89 (by kernel_rfl) (by kernel_rfl) (by kernel_rfl) (e := Extern.SlicesOverlaps.overlaps #[33, 33] #[4]) (by kernel_rfl),
      Lib.run_overlaps_apart w 33 4 21 Tryd.underlying33 1 Tryd.sizeOf21 ⟨hb, 0, none⟩ ⟨gv, i + 1, none⟩ 1 1 lb cb hne 21 21 1 cur.size (by unfold At at hat; simp [World.shape?, hat]) (by simp [World.shape?, hg]) (by omega) (hat.ice 0) (hat.ice 1)]
    rfl
  have hz2 : ((i : Int) == (n : Int)) = false := by simp; omega
  have e1 : IntKind.i64.wrap ((i : Int) + 1) = (i : Int) + 1 := IntWalk.i64_in _ (by omega)
  have e2 : ((i : Int) + 1).toNat = i + 1 := by omega
  have b1 : (0 : Int) ≤ (i : Int) + 1 := by omega
  have b2 : (i : Int) + 1 ≤ (n : Int) + 1 := by omega
  have b3 : (i : Int) ≤ (n : Int) + 1 := by omega
  have b4 : ¬ (c = i + 1) := by omega
  have b5 : ¬ (c = i) := by omega
  go_enter Tryd.func82, Tryd.ntmps82
  go_wp2_with (simp only [hov])
  have hl1 : ((intVs .i32 pts).drop i).length = Nat.min (n + 1 - i) (n - i) := by rw [List.length_drop, hlen]; simp only [Nat.min_def]; split <;> omega
  have hs1 : ∀ j u, ((intVs .i32 pts).drop i)[j]? = some u → w.drew.cell? ((⟨gv, i, none⟩ : Addr).add j) = some u := fun j u hu => by
    rw [List.getElem?_drop] at hu
    have : (⟨gv, i, none⟩ : Addr).add j = ⟨gv, i + j, none⟩ := by unfold Addr.add; split <;> simp_all
    rw [this]
    exact hcell _ _ hu
  have hf1 : i + 1 + ((intVs .i32 pts).drop i).length ≤ cur.toList.length := by rw [List.length_drop, hlen]; simp; omega
  have ho1 : ∀ u ∈ (intVs .i32 pts).drop i, u.oneCell' = true := fun u hu => by
    obtain ⟨z, _, rfl⟩ := List.mem_map.1 (List.mem_of_mem_drop hu)
    rfl
  go_region_law (refine step_copy_at rfl _ _ 33 33 rfl 21 Tryd.underlying33 size1_I32 gv (i + 1) (n - i) (c - (i + 1)) ⟨gv, i, none⟩ (n + 1 - i) (c - i) (by simp [Act.eval, Act.put]) (by simp [Act.eval, Act.put]) cur.toList 21 hgl.drew ((intVs .i32 pts).drop i) hl1 hs1 hf1 ho1 ?_; intro w1 ha1 hg1)
  have hg1' := only_of_drew hg1
  have hat1 : At w1 hb 21 #[.int .i32 x] := hat.grown hg1' (by intro e; injection e with e; exact hne e.symm)
  have hl2 : [Value.int .i32 x].length = Nat.min 1 (n + 1 - i) := by simp only [Nat.min_def, List.length_singleton]; split <;> omega
  have hs2 := World.news_of_block (cs := #[.int .i32 x]) (t := 21) (fr := (0, 0)) hat1
  have hf2 : i + [Value.int .i32 x].length ≤ (splice cur.toList (i + 1) ((intVs .i32 pts).drop i)).length := by rw [length_splice _ _ _ hf1]; simp; omega
  have HS2 := Lib.hid hs2
  have HL2 := Lib.hid hl2
  have HF2 := Lib.hid hf2
  clear e1 e2 b1 b2 hl1 hs1 hf1 ho1 hcell hov hs2 hl2 hf2
  go_wp2_with (with_reducible refine wpList_copy_at rfl (.tmp 80) (.tmp 81) 33 33 rfl 21 Tryd.underlying33 size1_I32 gv i (n + 1 - i) (c - i) ⟨hb, 0, none⟩ 1 1 rfl rfl (splice cur.toList (i + 1) ((intVs .i32 pts).drop i)) 21 ha1.out [.int .i32 x] HL2.out HS2.out HF2.out (by simp [Value.oneCell']) ?_)
  intro w2 ha2 hg2
  go_wp2
  go_ret
  refine ⟨gv, c, rfl, ?_, ?_⟩
  · refine ⟨by rw [intVs_len, insL_len _ _ _ (by rw [intVs_len] at hlen; omega)]; rw [intVs_len] at hlen; omega, .inr ⟨gv, c, _, rfl, hBg, ha2.out, hc, hcm, ?_, ?_⟩⟩
    · simp [hsp.2, hcs]
    · rw [intVs_ins]; simpa using hsp.1
  · exact only_next hg1' hg2 (.inl rfl)
set_option maxRecDepth 100000 in
set_option maxHeartbeats 4000000 in
theorem insGrow_any (w : World) (B gv n i : Nat) (pts : List Int) (hown : w.ownsRow B 21 1 (.slice (some ⟨gv, 0, none⟩) n n) n (intVs .i32 pts)) (hn : n ≤ 100000) (hi : i < n) (x : Int) (hb : Nat) (hat : At w hb 21 #[.int .i32 x]) (hB : B ≤ w.heap.size) :
    Calls Tryd.prog 82 #[.slice (some ⟨gv, 0, none⟩) n n, .int .i64 i, .slice (some ⟨hb, 0, none⟩) 1 1] w (InsP w B (.slice (some ⟨gv, 0, none⟩) n n) n (insL pts i x)) := by
  have hlen : (intVs .i32 pts).length = n := by have := hown.1; simpa using this
  rcases hown.2 with ⟨h, _⟩ | ⟨g, cap, cur, hv, hBg, hg, hnc, hcm, hcs, htk⟩
  · cases h
  injection hv with hv1 _ hv2
  injection hv1 with hv1
  injection hv1 with hv1
  subst hv1
  subst hv2
  simp only [Nat.mul_one] at hcs htk
  have hgl : At w gv 21 cur := hg
  have hcell : ∀ j u, (intVs .i32 pts)[j]? = some u → w.cell? ⟨gv, j, none⟩ = some u := fun j u hu => by
    rw [hgl.cell]
    rw [← htk] at hu
    rw [List.getElem?_take] at hu
    split at hu
    · simpa using hu
    · cases hu
  obtain ⟨i0, hi0, hz0, hz1, hz2⟩ := info_parts elemI32
  have hold : (Builtin.firstCells i0.size i (.slice (some ⟨gv, 0, none⟩) i n)).run Tryd.prog w.drew = .ok ((intVs .i32 pts).take i).toArray w.drew := by
    rw [hz1]
    exact run_firstCells_some w.drew 1 i ⟨gv, 0, none⟩ i n ((intVs .i32 pts).take i) (by rw [List.length_take]; omega) (fun j u hj => by
      rw [addr_add0]
      rw [List.getElem?_take] at hj
      split at hj
      · exact hcell j u hj
      · cases hj)
  obtain ⟨G, hG⟩ : ∃ G, G = grownCap w (n + 1) n 21 := ⟨_, rfl⟩
  obtain ⟨ROW, hROW⟩ : ∃ ROW : Array Value, ROW = ((intVs .i32 pts).take i).toArray ++ Builtin.zeroCells (Value.int .i32 0).cells (n + 1 - i) ++ Builtin.zeroCells (Value.int .i32 0).cells (G - (n + 1)) := ⟨_, rfl⟩
  have hrz : ∀ ty, (Builtin.append_ #[33, 3] ty #[.slice (some ⟨gv, 0, none⟩) i n, .int .i64 ((n : Int) + 1 - (i : Int))]).run Tryd.prog w = .ok (.slice (some ⟨w.heap.size, 0, none⟩) (n + 1) G) (w.drew.alloc (.cells ROW 21)) := fun ty => by
    have h := Lib.run_append_grow_zeros w 33 3 ty 21 i0 _ .i64 .i64 Tryd.underlying33 Tryd.underlying3 hi0 hz0 (some ⟨gv, 0, none⟩) i n ((intVs .i32 pts).take i) hold (n + 1 - i) (by omega) (by omega) (by omega) (by omega) (by rw [hz2]; omega) (by rw [hz2, show i + (n + 1 - i) = n + 1 by omega]; exact growslice_fits (by omega) (by omega))
    rw [show i + (n + 1 - i) = n + 1 by omega, ← hG, ← hROW] at h
    rw [show (n : Int) + 1 - (i : Int) = ((n + 1 - i : Nat) : Int) by omega]
    exact h
  have hGn : n + 1 ≤ G := by rw [hG]; exact grownCap_ge w _ _ _
  have hGm : G ≤ maxLen := by rw [hG]; exact grownCap_le_maxLen w (n + 1) n 21 (by unfold maxLen; omega)
  have hRs : ROW.size = G := by rw [hROW]; simp [Builtin.zeroCells, Value.cells]; omega
  have hRt : ROW.toList.take i = (intVs .i32 pts).take i := by
    rw [hROW]
    simp only [Array.toList_append]
    rw [List.append_assoc, List.take_append_of_le_length (by simp; omega), List.take_of_length_le (by simp; omega)]
  have hsp := splice_grow ROW.toList (intVs .i32 pts) i n (.int .i32 x) hRt hlen (by omega) (by simp; omega)
  have hwl : (w.drew.alloc (.cells ROW 21)).heap.size = w.heap.size + 1 := by simp
  have ha0 : At (w.drew.alloc (.cells ROW 21)) w.heap.size 21 ROW.toList.toArray := At.new w.drew 21 ROW
  have hb0 : At (w.drew.alloc (.cells ROW 21)) hb 21 #[.int .i32 x] := hat.drew.alloc _
  have hg0 : At (w.drew.alloc (.cells ROW 21)) gv 21 cur := hgl.drew.alloc _
  have hgr0 : w.grownBy (w.drew.alloc (.cells ROW 21)) (some gv) := only_alloc (only_drew (World.grownBy.refl w _)) _
  have hlb := hat.lt
  have hlg := hgl.lt
  obtain ⟨W1, hW1⟩ : ∃ W1, W1 = w.drew.alloc (.cells ROW 21) := ⟨_, rfl⟩
  obtain ⟨g2, hg2⟩ : ∃ g2, g2 = w.heap.size := ⟨_, rfl⟩
  rw [← hW1, ← hg2] at hrz
  rw [← hW1, ← hg2] at ha0
  rw [← hW1] at hb0 hg0 hgr0
  rw [← hg2] at hlb hlg
  have HG2 := Lib.hid hg2
  have HA0 := Lib.hid ha0
  have HB0 := Lib.hid hb0
  have HG0 := Lib.hid hg0
  have HSP := Lib.hid hsp
  have HRZ := Lib.hid hrz
  unfold maxLen at hGm
  clear hG hROW hW1 hg2 ha0 hb0 hg0 hsp hRt hwl hold hrz
  have hq2 : ((i : Int) == (n : Int)) = false := by simp; omega
  have b3 : (i : Int) ≤ (n : Int) := by omega
  have b4 : ¬ (G = i + 1) := by omega
  have b5 : ¬ (G = i) := by omega
  have b6 : ¬ (n = i) := by omega
  go_enter Tryd.func82, Tryd.ntmps82
  have hl2 : [Value.int .i32 x].length = Nat.min 1 (n + 1 - i) := by simp only [Nat.min_def, List.length_singleton]; split <;> omega
  have hs2 := World.news_of_block (cs := #[.int .i32 x]) (t := 21) (fr := (0, 0)) HB0.out
  have hf2 : i + [Value.int .i32 x].length ≤ ROW.toList.length := by simp [hRs]; omega
  have HS2 := Lib.hid hs2
  have HL2 := Lib.hid hl2
  have HF2 := Lib.hid hf2
  have hl1 : ((intVs .i32 pts).drop i).length = Nat.min (n - i) (n - i) := by rw [List.length_drop, hlen]; simp only [Nat.min_def]; split <;> omega
  have ho1 : ∀ u ∈ (intVs .i32 pts).drop i, u.oneCell' = true := fun u hu => by
    obtain ⟨z, _, rfl⟩ := List.mem_map.1 (List.mem_of_mem_drop hu)
    rfl
  have hf3 : i + 1 + ((intVs .i32 pts).drop i).length ≤ (splice ROW.toList i [.int .i32 x]).length := by rw [length_splice _ _ _ hf2, List.length_drop, hlen]; simp [hRs]; omega
  have HF3 := Lib.hid hf3
  have HL1 := Lib.hid hl1
  have HO1 := Lib.hid ho1
  have HCS := Lib.hid hcs
  have HRS := Lib.hid hRs
  have HTK := Lib.hid htk
  have HLEN := Lib.hid hlen
  clear hs2 hl2 hf2 hl1 ho1 hf3 hcs hRs htk hlen hcell hi0 hz0 hz1 hz2
  go_wp2_with (first | (at_builtin; refine Lib.wpList_append_run _ rfl _ _ _ _ rfl _ _ rfl rfl _ _ (HRZ.out _) ?_) | (with_reducible refine wpList_copy_at rfl (.tmp 43) (.tmp 44) 33 33 rfl 21 Tryd.underlying33 size1_I32 g2 i (n + 1 - i) (G - i) ⟨hb, 0, none⟩ 1 1 rfl rfl ROW.toList 21 HA0.out [.int .i32 x] HL2.out HS2.out HF2.out (by simp [Value.oneCell']) ?_))
  intro w1 ha1 hg1
  have hg1' : At w1 gv 21 cur := HG0.out.grown hg1 (by intro e; injection e with e; omega)
  have hs1 : ∀ j u, ((intVs .i32 pts).drop i)[j]? = some u → w1.drew.cell? ((⟨gv, i, none⟩ : Addr).add j) = some u := fun j u hu => by
    rw [List.getElem?_drop] at hu
    have : (⟨gv, i, none⟩ : Addr).add j = ⟨gv, i + j, none⟩ := by unfold Addr.add; split <;> simp_all
    rw [this]
    rw [← HTK.out, List.getElem?_take] at hu
    split at hu
    · have := hg1'.drew.cell (i + j)
      rw [this]
      simpa using hu
    · cases hu
  have HS1 := Lib.hid hs1
  clear hs1
  have e1 : IntKind.i64.wrap ((i : Int) + 1) = (i : Int) + 1 := IntWalk.i64_in _ (by omega)
  have e2 : ((i : Int) + 1).toNat = i + 1 := by omega
  have b1 : (0 : Int) ≤ (i : Int) + 1 := by omega
  have b2 : (i : Int) + 1 ≤ (n : Int) + 1 := by omega
  go_wp2_with fail
  go_region_law (refine step_copy_at rfl _ _ 33 33 rfl 21 Tryd.underlying33 size1_I32 g2 (i + 1) (n - i) (G - (i + 1)) ⟨gv, i, none⟩ (n - i) (n - i) (by simp [Act.eval, Act.put]) (by simp [Act.eval, Act.put]) (splice ROW.toList i [.int .i32 x]) 21 ha1.out.drew ((intVs .i32 pts).drop i) HL1.out HS1.out HF3.out HO1.out ?_; intro w2 ha2 hg2)
  have hgr1 := only_next hgr0 hg1 (.inr (by rw [HG2.out]; exact Nat.le_refl _))
  have hgr2 := only_next hgr1 (only_of_drew hg2) (.inr (by rw [HG2.out]; exact Nat.le_refl _))
  clear e1 e2 b1 b2
  go_wp2
  go_ret
  refine ⟨g2, G, rfl, ?_, hgr2⟩
  have hlp : pts.length = n := by have := HLEN.out; rw [intVs_len] at this; exact this
  refine ⟨by rw [intVs_len, insL_len _ _ _ (by omega)]; omega, .inr ⟨g2, G, _, rfl, by rw [HG2.out]; exact hB, ha2.out, hGn, by unfold maxLen; omega, ?_, ?_⟩⟩
  · simp [HSP.out.2, HRS.out]
  · rw [intVs_ins]; simpa using HSP.out.1
theorem insert_any (w : World) (B n i : Nat) (v : Value) (pts : List Int) (hown : w.ownsRow B 21 1 v n (intVs .i32 pts)) (hn : n ≤ 100000) (hi : i ≤ n) (x : Int) (hb : Nat) (hat : At w hb 21 #[.int .i32 x]) (hB : B ≤ w.heap.size) (hne : v.ownBlock ≠ some hb) :
    Calls Tryd.prog 82 #[v, .int .i64 i, .slice (some ⟨hb, 0, none⟩) 1 1] w (InsP w B v n (insL pts i x)) := by
  have hlp : pts.length = n := by have := hown.1; rw [intVs_len] at this; omega
  by_cases hin : i = n
  · subst hin
    have := insEnd_any w B v i pts hown hn x hb hat hB
    rw [show insL pts i x = pts ++ [x] by rw [← hlp]; exact insL_end pts x]
    exact this
  · rcases hown.2 with ⟨_, h0⟩ | ⟨g, cap, cur, rfl, hBg, hg, hnc, hcm, hcs, htk⟩
    · omega
    · by_cases hc : n + 1 ≤ cap
      · exact insRoom_any w B g n i cap pts hown hn (by omega) hc x hb hat hB (fun e => hne (by rw [e]; rfl))
      · obtain rfl : cap = n := by omega
        exact insGrow_any w B g cap i pts hown hn (by omega) x hb hat hB
end Go.Proofs.YtbcnnjifndmdpaaDoor
