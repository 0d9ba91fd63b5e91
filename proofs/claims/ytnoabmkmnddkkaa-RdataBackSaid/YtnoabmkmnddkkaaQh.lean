/- Texts behind a law of this seat, in order: Rec8, Rec9, Rec10, Rec10b, Law13c. -/
import Derived.Test.YtnoabmkmnddkkaaPa
import Derived.Test.YtnoabmkmnddkkaaPb
import Derived.Test.YtnoabmkmnddkkaaPc
import Derived.Test.YtnoabmkmnddkkaaPd
import Derived.Test.YtnoabmkmnddkkaaPe
import Derived.Test.YtnoabmkmnddkkaaPf
import Derived.Test.YtnoabmkmnddkkaaPg
import Derived.Test.YtnoabmkmnddkkaaPh
import Derived.Test.YtnoabmkmnddkkaaPi
import Derived.Test.YtnoabmkmnddkkaaPj
import Derived.Test.YtnoabmkmnddkkaaPk
import Derived.Test.YtnoabmkmnddkkaaPl
import Derived.Test.YtnoabmkmnddkkaaPm
import Derived.Test.YtnoabmkmnddkkaaPn
import Derived.Test.YtnoabmkmnddkkaaPo
import Derived.Test.YtnoabmkmnddkkaaPp
import Derived.Test.YtnoabmkmnddkkaaPq
import Derived.Test.YtnoabmkmnddkkaaPr
import Derived.Test.YtnoabmkmnddkkaaPs
import Derived.Test.YtnoabmkmnddkkaaPt
import Derived.Test.YtnoabmkmnddkkaaPu
import Derived.Test.YtnoabmkmnddkkaaPv
import Derived.Test.YtnoabmkmnddkkaaPw
import Derived.Test.YtnoabmkmnddkkaaPy
import Derived.Test.YtnoabmkmnddkkaaPz
import Derived.Test.YtnoabmkmnddkkaaQa
import Derived.Test.YtnoabmkmnddkkaaQb
import Derived.Test.YtnoabmkmnddkkaaQc
import Derived.Test.YtnoabmkmnddkkaaQd
import Derived.Test.YtnoabmkmnddkkaaQe
import Derived.Test.YtnoabmkmnddkkaaQf
import Derived.Test.YtnoabmkmnddkkaaQg
import Derived.Below
import Derived.BigQuiet
import Derived.BigRegion
import Derived.ChangeSlices
import Derived.Deep.AppendLies
import Derived.Deep.Draws
import Derived.Deep.OwnRows
import Derived.Deep.Quiet
import Derived.Deep.QuietTactic
import Derived.Deep.RegionLaw
import Derived.Deep.Slices
import Derived.Defers
import Derived.Great.Ranges
import Derived.Handed
import Derived.Handy
import Derived.Laws.CopyRow
import Derived.Laws.OwnMore
import Derived.Laws.Rows
import Derived.Laws.StructEq
import Derived.Lib.BufferWrite
import Derived.Lib.Hide
import Derived.Lib.ItoaNum
import Derived.Lib.Split
import Derived.Lib.SplitLaws
import Derived.Lib.Strings
import Derived.Maps.AppendAt
import Derived.Maps.OwnSet
import Derived.OpenShut
import Derived.Recover
import Derived.Shelf.Strings.Builder1
import Derived.Shelf.Strings.BuilderF
import Derived.Shelf.Strings.BuilderK
import Derived.SizedLaws
import Derived.SliceStrings
import Derived.StillTailTactics
import Derived.Stop.BytesEq
import Derived.StringKeys
import Derived.Test.YtnoabmkmnddkkaaProg
import Derived.WalkKit
import Derived.WalkLawsBesides
import Derived.WalkSpells
/- Layer 13: the parts' get, but names'. -/
namespace Go.Proofs.Ytnoabmkmnddkkaa
open Go.RowKit Go
set_option linter.unusedVariables false
set_option linter.unusedSimpArgs false
set_option maxRecDepth 100000
section
variable {P : Program} {ops : Array Oper} {Q : Act → World → Prop} {o : Oper} {a : Act} {l : List (Oper × Bool)} {w : World} {B : Nat} {w0 : World} {L L0 : List (Nat × TypeId × Array Value)} {idx : List Nat}
/-- one cell written, in a region that draws its order -/
theorem mix_putF (hw : Region.wanted o (yielded ops a.tmps) = true) (ty : TypeId) (x y : Operand) (ho : o.op = .store ty x y) (S : Ats B w0 w L) (hL : ∀ i ∈ idx, L[i]? = L0[i]?) (g k : Nat) (hx : a.eval x = .pointer (some ⟨g, k, none⟩)) (v : Value) (hy : a.eval y = v) (hc1 : v.cells = #[v]) (h1 : v.oneCell' = true) (i : Nat) (hm : i ∉ idx) (t : TypeId) (cs : Array Value)
    (hi : L[i]? = some (g, t, cs)) (hn : (P.info? ty).map (·.size) = some 1) (hk : k < cs.size)
    (h : ∀ w1, Ats B w0 w1 (L.set i (g, t, cs.setIfInBounds k v)) → (∀ j ∈ idx, (L.set i (g, t, cs.setIfInBounds k v))[j]? = L0[j]?) → wpMixO P ops (AtsF B w0 L0 idx) Q l (a.put o.dst undef) w1) : wpMixO P ops (AtsF B w0 L0 idx) Q ((o, false) :: l) a w := by
  show if _ then _ else _
  rw [if_pos hw]
  have A := S.get hi
  have S1 := S.grow hi (grown_setCell w ⟨g, k, none⟩ v) (A.put k v)
  have hL1 : ∀ j ∈ idx, (L.set i (g, t, cs.setIfInBounds k v))[j]? = L0[j]? := fun j hj => by
    rw [List.getElem?_set_ne (fun e => hm (by rw [e]; exact hj))]
    exact hL j hj
  have hc : w.cell? ⟨g, k, none⟩ = some cs[k] := A.cells k (by simp [hk])
  have hf := A.ice k
  have hst : (storeVar ty ⟨g, k, none⟩ v).run P w = .ok () (w.setCell ⟨g, k, none⟩ v) := by
    cases hq : P.info? ty with
    | none => simp [hq] at hn
    | some q =>
      have hs : q.size = 1 := by simpa [hq] using hn
      have := run_store P w ⟨g, k, none⟩ v .plain h1
      simp [storeVar, sizeOf, typeInfo, hq, hs, hc1, storeCells, Addr.add_zero', this, hc, hf]
  unfold tame execOp
  simp only [ho, hx, hy, Instr.storeAt, Instr.sureAddr, Sem.run_bind, Sem.run_pure, Result.andThen_ok, hst]
  exact ⟨⟨_, S1, hL1⟩, h _ S1 hL1⟩
/-- a text copied onto a block's front part, in a region that draws its order -/
theorem mix_copyF (hw : Region.wanted o (yielded ops a.tmps) = true) (d s : Operand) (dT sT elem : TypeId) (ho : o.op = .call { callee := .builtin .copy, args := #[d, s], argTypes := #[dT, sT] }) (hu : P.underlying dT = some (.slice elem)) (hs1 : (P.info? elem).map (·.size) = some 1) (S : Ats B w0 w L) (hL : ∀ i ∈ idx, L[i]? = L0[i]?) (g k dl dc : Nat) (hd : a.eval d = .slice (some ⟨g, k, none⟩) dl dc) (b : ByteArray) (hs : a.eval s = .string b) (i : Nat) (hm : i ∉ idx) (t : TypeId) (cs : Array Value)
    (hi : L[i]? = some (g, t, cs)) (hle : b.size ≤ dl) (hfit : k + b.size ≤ cs.size)
    (h : ∀ w1, Ats B w0 w1 (L.set i (g, t, (cs.toList.take k ++ b.data.toList.map cellU ++ cs.toList.drop (k + b.size)).toArray)) → (∀ j ∈ idx, (L.set i (g, t, (cs.toList.take k ++ b.data.toList.map cellU ++ cs.toList.drop (k + b.size)).toArray))[j]? = L0[j]?) → wpMixO P ops (AtsF B w0 L0 idx) Q l (a.put o.dst (goInt b.size)) w1) : wpMixO P ops (AtsF B w0 L0 idx) Q ((o, false) :: l) a w := by
  show if _ then _ else _
  rw [if_pos hw]
  have A := S.get hi
  have hr := Lib.run_copy_row_string (P := P) w dT sT o.type elem g k dl dc b cs t hu hs1 A hle hfit
  have hr : (Builtin.copy_ #[dT, sT] o.type #[.slice (some ⟨g, k, none⟩) dl dc, .string b]).run P w = .ok (goInt b.size) (w.setRow g (cs.toList.take k ++ b.data.toList.map cellU ++ cs.toList.drop (k + b.size)).toArray) := hr
  have S1 := S.grow hi (grown_setRow w g _) (setRow_heap w g cs (cs.toList.take k ++ b.data.toList.map cellU ++ cs.toList.drop (k + b.size)).toArray t (0, 0) A)
  have hL1 : ∀ j ∈ idx, (L.set i (g, t, (cs.toList.take k ++ b.data.toList.map cellU ++ cs.toList.drop (k + b.size)).toArray))[j]? = L0[j]? := fun j hj => by
    rw [List.getElem?_set_ne (fun e => hm (by rw [e]; exact hj))]
    exact hL j hj
  have hx : (execOp a.eval o).run P w = .ok (.value (goInt b.size)) (w.setRow g (cs.toList.take k ++ b.data.toList.map cellU ++ cs.toList.drop (k + b.size)).toArray) := by
    simp [execOp, ho, resolve, invoke, Act.eval, Deferred.ofValue] at hd hs ⊢
    simp [hd, hs, builtin, hr]
  unfold tame
  rw [hx]
  exact ⟨⟨_, S1, hL1⟩, h _ S1 hL1⟩
end
/-- a name whose row lies among known blocks -/
def RowIn (M : List (Nat × TypeId × Array Value)) (y : Nm) : Prop :=
  y.n = y.l.length ∧ (0 < y.n → ∃ b cs, y.A = some ⟨b, 0, none⟩ ∧ (b, 9, cs) ∈ M ∧ ∀ j (h : j < y.l.length), cs[j]? = some (strV y.l[j]))
theorem RowIn.mono {M M' : List (Nat × TypeId × Array Value)} {y : Nm} (h : RowIn M y) (hm : ∀ x ∈ M, x ∈ M') : RowIn M' y :=
  ⟨h.1, fun h0 => by obtain ⟨b, cs, h1, h2, h3⟩ := h.2 h0; exact ⟨b, cs, h1, hm _ h2, h3⟩⟩
theorem RowIn.nil (M : List (Nat × TypeId × Array Value)) : RowIn M nilN := ⟨rfl, fun h => absurd h (by decide)⟩
theorem RowIn.texts {M : List (Nat × TypeId × Array Value)} {y : Nm} (h : RowIn M y) {B : Nat} {w0 w : World} (S : Ats B w0 w M) : TextsAt w y.A y.n y.l := by
  refine ⟨h.1, fun h0 => ?_⟩
  obtain ⟨b, cs, hA, hm, hc⟩ := h.2 h0
  have ha := (S.at_ _ hm).2
  exact ⟨b, 0, hA, ha.lt, fun j hj => by rw [Nat.zero_add, ha.cell]; exact hc j hj⟩
theorem Ats.perm {B : Nat} {w0 w : World} {L L' : List (Nat × TypeId × Array Value)} (S : Ats B w0 w L) (h : L.Perm L') : Ats B w0 w L' :=
  ⟨S.below, S.big, fun x hx => S.at_ x (h.mem_iff.2 hx), (h.map _).nodup_iff.1 S.apart⟩
/-- what a part's get leaves -/
def GetQ (B : Nat) (w0 : World) (g gy : Nat) (M : List (Nat × TypeId × Array Value)) (G : GtR) (e : Ending) (w' : World) : Prop :=
  ∃ (R' : Rc Nm) (X : List (Nat × TypeId × Array Value)), e = .returned (.int .i64 G.err) ∧ R'.tx = G.R ∧ R'.ip.length = 16 ∧ Ats B w0 w' ((g, 34, rcC R') :: (gy, 73, eyeC G.l G.x) :: (X ++ M)) ∧ ∀ k, k ≤ 2 → RowIn (X ++ M) (R'.nm k)
section
variable {B : Nat} {w0 w : World} {g gy : Nat} {R : Rc Nm} {l : List UInt8} {M : List (Nat × TypeId × Array Value)}
theorem numGet_any (hip : R.ip.length = 16) (hN : ∀ k, k ≤ 2 → RowIn M (R.nm k)) (k wd : Nat) (hk : k < 8) (msg : ByteArray) (S : Ats B w0 w ((g, 34, rcC R) :: (gy, 73, eyeC l 0) :: M)) :
    Calls Try.prog 81 #[ptA g (.num k wd), .string msg, .pointer (some ⟨gy, 0, none⟩)] w (GetQ B w0 g gy M (getP msg.data.toList R.tx l 0 (.num k wd))) := by
  have HM := Lib.hid (fun w (h : EyeAt w gy l 0) => eyeNum_any gy l 0 (wd : Int) w h)
  obtain ⟨G, hG⟩ : ∃ G, G = ocNumT l 0 wd := ⟨_, rfl⟩
  have hgp : getP msg.data.toList R.tx l 0 (.num k wd) = ⟨0, { R.tx with nu := upd R.nu k (G.1 : Nat) }, G.2.1, G.2.2⟩ := by rw [hG]; rfl
  rw [hgp]
  rw [← hG] at HM
  have HP := Lib.hid (rc_put_nu hip (G.1 : Nat) k hk)
  have hs := rc_size hip
  have HEND := Lib.hid (show ∀ w', Ats B w0 w' ((g, 34, rcC { R with nu := upd R.nu k (G.1 : Nat) }) :: (gy, 73, eyeC G.2.1 G.2.2) :: M) → GetQ B w0 g gy M ⟨0, { R.tx with nu := upd R.nu k (G.1 : Nat) }, G.2.1, G.2.2⟩ (.returned (.int .i64 0)) w' from fun w' S' => ⟨{ R with nu := upd R.nu k (G.1 : Nat) }, [], rfl, rfl, hip, S', hN⟩)
  obtain ⟨o, ho⟩ : ∃ o, o = 24 + k := ⟨_, rfl⟩
  have hlt : o < 33 := by omega
  show Calls Try.prog _ #[.agg #[.pointer (some ⟨g, 24 + k, none⟩), .int .i64 wd], .string msg, .pointer (some ⟨gy, 0, none⟩)] w _
  rw [← ho] at HP ⊢
  obtain ⟨x, hx⟩ : ∃ x, x = rcC R := ⟨_, rfl⟩
  rw [← hx] at S hs HP
  have HS := Lib.hid (show o < x.size by rw [hs]; exact hlt)
  have b0 : (#[.pointer (some ⟨g, o, none⟩), .int .i64 wd] : Array Value)[0]? = some (.pointer (some ⟨g, o, none⟩)) := rfl
  have b1 : (#[.pointer (some ⟨g, o, none⟩), .int .i64 wd] : Array Value)[1]? = some (.int .i64 wd) := rfl
  obtain ⟨wi, hwi⟩ : ∃ wi : Int, wi = (wd : Int) := ⟨_, rfl⟩
  rw [← hwi] at b0 b1 HM ⊢
  obtain ⟨y, hy⟩ : ∃ y, y = eyeC l 0 := ⟨_, rfl⟩
  have HM2 := Lib.hid (show ∀ w, At w gy 73 y → _ from fun w h => HM.out w (by rw [hy] at h; exact h))
  rw [← hy] at S
  clear hx hs hip ho hk hlt hwi hG hgp HM hy hN
  go_enter Try.func81, Try.ntmps81
  go_wp2_with (first
    | ((with_reducible show wpList _ _ _ (Oper.mk _ (Op.box _ _) _ _ _ _ :: _) _ _); refine wpList_boxS rfl _ _ rfl #[.pointer (some ⟨g, o, none⟩), .int .i64 wi] rfl S ?_; clear S; intro gb w1 S))
  refine wp_region_mixO (C := AtsF B w0 ((gb, 71, #[.pointer (some ⟨g, o, none⟩), .int .i64 wi]) :: (g, 34, x) :: (gy, 73, y) :: M) [0]) [(0, true), (1, true), (2, true), (3, true), (4, true), (5, false), (6, true), (7, false)] (by kernel_rfl) (by kernel_rfl) (S.drew.toF [0]) ?_
  (simp only [List.map_cons, List.map_nil, List.getD_cons_zero, List.getD_cons_succ]; have S := S.drew; refine mix_begin fun hF => ?_)
  repeat (first
    | (refine mix_move rfl _ rfl ?_; simp only [Act.put, Act.eval, Array.getD_eq_getD_getElem?, List.getElem?_toArray, List.getElem?_cons_succ, List.getElem?_cons_zero, Option.getD_some, List.setIfInBounds_toArray, List.set_cons_succ, List.set_cons_zero])
    | (refine mix_cellF rfl _ (.tmp 7) rfl _ _ rfl 0 (by decide) _ _ rfl _ Try.underlying69 rfl _ b0 ?_; simp only [Act.put, Act.eval, Array.getD_eq_getD_getElem?, List.getElem?_toArray, List.getElem?_cons_succ, List.getElem?_cons_zero, Option.getD_some, List.setIfInBounds_toArray, List.set_cons_succ, List.set_cons_zero])
    | (refine mix_cellF rfl _ (.tmp 10) rfl _ _ rfl 0 (by decide) _ _ rfl _ Try.underlying3 rfl _ b1 ?_; simp only [Act.put, Act.eval, Array.getD_eq_getD_getElem?, List.getElem?_toArray, List.getElem?_cons_succ, List.getElem?_cons_zero, Option.getD_some, List.setIfInBounds_toArray, List.set_cons_succ, List.set_cons_zero])
    | (refine mix_val rfl (v := ?_) ?_ ?_; rotate_left; (focus (intro w _; go_simp; try with_reducible rfl)); simp only [Act.put, List.setIfInBounds_toArray, List.set_cons_succ, List.set_cons_zero]))
  refine mix_call 75 _ _ rfl rfl (enters_of Try.func75 (by kernel_rfl) rfl) ?_ (HM2.out _ (S.get (i := 2) rfl)) ?_
  · simp [Act.eval]
  rintro e w2 ⟨rfl, ha, hb⟩
  have S2 := S.grow (i := 2) rfl hb ha
  simp only [List.set_cons_succ, List.set_cons_zero] at S2
  have hF2 : ∀ i ∈ [0], ((gb, 71, #[.pointer (some ⟨g, o, none⟩), .int .i64 wi]) :: (g, 34, x) :: (gy, 73, eyeC G.2.1 G.2.2) :: M)[i]? = ((gb, 71, #[.pointer (some ⟨g, o, none⟩), .int .i64 wi]) :: (g, 34, x) :: (gy, 73, y) :: M)[i]? := fun i hi => by simp at hi; subst hi; rfl
  refine ⟨_, rfl, ⟨_, S2, hF2⟩, ?_⟩
  clear ha hb S hF
  simp only [Act.put, Act.eval, Array.getD_eq_getD_getElem?, List.getElem?_toArray, List.getElem?_cons_succ, List.getElem?_cons_zero, Option.getD_some, List.setIfInBounds_toArray, List.set_cons_succ, List.set_cons_zero]
  repeat (first
    | (refine mix_move rfl _ rfl ?_; simp only [Act.put, Act.eval, Array.getD_eq_getD_getElem?, List.getElem?_toArray, List.getElem?_cons_succ, List.getElem?_cons_zero, Option.getD_some, List.setIfInBounds_toArray, List.set_cons_succ, List.set_cons_zero])
    | (refine mix_val rfl (v := ?_) ?_ ?_; rotate_left; (focus (intro w _; go_simp; try with_reducible rfl)); simp only [Act.put, List.setIfInBounds_toArray, List.set_cons_succ, List.set_cons_zero]))
  refine mix_putF rfl _ _ _ rfl S2 hF2 _ _ rfl (.int .i64 (G.1 : Nat)) rfl rfl rfl 1 (by decide) _ _ rfl intInfo1 HS.out ?_
  clear S2 hF2
  intro w3 S3 hF3
  simp only [Act.put, List.set_cons_succ, List.set_cons_zero] at S3 ⊢
  refine mix_nil ?_
  clear hF3
  rw [HP.out] at S3
  go_wp2_with fail
  go_ret
  exact HEND.out _ (S3.drop (List.sublist_cons_self _ _))
theorem rawGet_any (hip : R.ip.length = 16) (hN : ∀ k, k ≤ 2 → RowIn M (R.nm k)) (msg : ByteArray) (S : Ats B w0 w ((g, 34, rcC R) :: (gy, 73, eyeC l 0) :: M)) :
    Calls Try.prog 42 #[ptA g .raw, .string msg, .pointer (some ⟨gy, 0, none⟩)] w (GetQ B w0 g gy M (getP msg.data.toList R.tx l 0 .raw)) := by
  have HM := Lib.hid (fun w (h : EyeAt w gy l 0) => eyeTake_any gy l 0 (l.length : Int) w h)
  have HL := Lib.hid (fun w (h : EyeAt w gy l 0) => eyeLeft_any gy l 0 w h)
  obtain ⟨G, hG⟩ : ∃ G, G = ocTake l 0 (l.length : Int) := ⟨_, rfl⟩
  have hgp : getP msg.data.toList R.tx l 0 .raw = ⟨0, { R.tx with raw := G.1 }, G.2.1, G.2.2⟩ := by rw [hG]; rfl
  rw [hgp]
  rw [← hG] at HM
  have HP := Lib.hid (rc_put_raw hip G.1)
  have hs := rc_size hip
  have HEND := Lib.hid (show ∀ w', Ats B w0 w' ((g, 34, rcC { R with raw := G.1 }) :: (gy, 73, eyeC G.2.1 G.2.2) :: M) → GetQ B w0 g gy M ⟨0, { R.tx with raw := G.1 }, G.2.1, G.2.2⟩ (.returned (.int .i64 0)) w' from fun w' S' => ⟨{ R with raw := G.1 }, [], rfl, rfl, hip, S', hN⟩)
  show Calls Try.prog _ #[.agg #[.pointer (some ⟨g, 32, none⟩)], .string msg, .pointer (some ⟨gy, 0, none⟩)] w _
  obtain ⟨x, hx⟩ : ∃ x, x = rcC R := ⟨_, rfl⟩
  rw [← hx] at S hs HP
  have HS := Lib.hid (show 32 < x.size by rw [hs]; decide)
  have b0 : (#[.pointer (some ⟨g, 32, none⟩)] : Array Value)[0]? = some (.pointer (some ⟨g, 32, none⟩)) := rfl
  obtain ⟨n, hn⟩ : ∃ n : Int, n = (l.length : Int) := ⟨_, rfl⟩
  rw [← hn] at HM HL
  obtain ⟨y, hy⟩ : ∃ y, y = eyeC l 0 := ⟨_, rfl⟩
  have HM2 := Lib.hid (show ∀ w, At w gy 73 y → _ from fun w h => HM.out w (by rw [hy] at h; exact h))
  have HL2 := Lib.hid (show ∀ w, At w gy 73 y → _ from fun w h => HL.out w (by rw [hy] at h; exact h))
  rw [← hy] at S
  obtain ⟨st, hst⟩ : ∃ st : ByteArray, st = ⟨G.1.toArray⟩ := ⟨_, rfl⟩
  rw [← hst] at HM2 HP
  clear hx hs hip hG hgp HM HL hy hN hn hst
  go_enter Try.func42, Try.ntmps42
  go_wp2_with (first
    | ((with_reducible show wpList _ _ _ (Oper.mk _ (Op.box _ _) _ _ _ _ :: _) _ _); refine wpList_boxS rfl _ _ rfl #[.pointer (some ⟨g, 32, none⟩)] rfl S ?_; clear S; intro gb w1 S))
  refine wp_region_mixO (C := AtsF B w0 ((gb, 62, #[.pointer (some ⟨g, 32, none⟩)]) :: (g, 34, x) :: (gy, 73, y) :: M) [0]) [(0, true), (1, true), (2, true), (3, true), (4, false), (5, false), (6, true), (7, false)] (by kernel_rfl) (by kernel_rfl) (S.drew.toF [0]) ?_
  (simp only [List.map_cons, List.map_nil, List.getD_cons_zero, List.getD_cons_succ]; have S := S.drew; refine mix_begin fun hF => ?_)
  repeat (first
    | (refine mix_move rfl _ rfl ?_; simp only [Act.put, Act.eval, Array.getD_eq_getD_getElem?, List.getElem?_toArray, List.getElem?_cons_succ, List.getElem?_cons_zero, Option.getD_some, List.setIfInBounds_toArray, List.set_cons_succ, List.set_cons_zero])
    | (refine mix_cellF rfl _ (.tmp 7) rfl _ _ rfl 0 (by decide) _ _ rfl _ Try.underlying60 rfl _ b0 ?_; simp only [Act.put, Act.eval, Array.getD_eq_getD_getElem?, List.getElem?_toArray, List.getElem?_cons_succ, List.getElem?_cons_zero, Option.getD_some, List.setIfInBounds_toArray, List.set_cons_succ, List.set_cons_zero])
    | (refine mix_val rfl (v := ?_) ?_ ?_; rotate_left; (focus (intro w _; go_simp; try with_reducible rfl)); simp only [Act.put, List.setIfInBounds_toArray, List.set_cons_succ, List.set_cons_zero]))
  refine mix_call 21 _ _ rfl rfl (enters_of Try.func21 (by kernel_rfl) rfl) ?_ (HL2.out _ (S.get (i := 2) rfl)) ?_
  · simp [Act.eval]
  rintro e w2 ⟨rfl, rfl⟩
  refine ⟨_, rfl, ⟨_, S, hF⟩, ?_⟩
  simp only [Act.put, Act.eval, Array.getD_eq_getD_getElem?, List.getElem?_toArray, List.getElem?_cons_succ, List.getElem?_cons_zero, Option.getD_some, List.setIfInBounds_toArray, List.set_cons_succ, List.set_cons_zero]
  refine mix_call 44 _ _ rfl rfl (enters_of Try.func44 (by kernel_rfl) rfl) ?_ (HM2.out _ (S.get (i := 2) rfl)) ?_
  · simp [Act.eval]
  rintro e w2 ⟨rfl, ha, hb⟩
  have S2 := S.grow (i := 2) rfl hb ha
  simp only [List.set_cons_succ, List.set_cons_zero] at S2
  have hF2 : ∀ i ∈ [0], ((gb, 62, #[.pointer (some ⟨g, 32, none⟩)]) :: (g, 34, x) :: (gy, 73, eyeC G.2.1 G.2.2) :: M)[i]? = ((gb, 62, #[.pointer (some ⟨g, 32, none⟩)]) :: (g, 34, x) :: (gy, 73, y) :: M)[i]? := fun i hi => by simp at hi; subst hi; rfl
  refine ⟨_, rfl, ⟨_, S2, hF2⟩, ?_⟩
  clear ha hb S hF
  simp only [Act.put, Act.eval, Array.getD_eq_getD_getElem?, List.getElem?_toArray, List.getElem?_cons_succ, List.getElem?_cons_zero, Option.getD_some, List.setIfInBounds_toArray, List.set_cons_succ, List.set_cons_zero]
  repeat (first
    | (refine mix_move rfl _ rfl ?_; simp only [Act.put, Act.eval, Array.getD_eq_getD_getElem?, List.getElem?_toArray, List.getElem?_cons_succ, List.getElem?_cons_zero, Option.getD_some, List.setIfInBounds_toArray, List.set_cons_succ, List.set_cons_zero])
    | (refine mix_val rfl (v := ?_) ?_ ?_; rotate_left; (focus (intro w _; go_simp; try with_reducible rfl)); simp only [Act.put, List.setIfInBounds_toArray, List.set_cons_succ, List.set_cons_zero]))
  refine mix_putF rfl _ _ _ rfl S2 hF2 _ _ rfl (.string st) rfl rfl rfl 1 (by decide) _ _ rfl strInfo1 HS.out ?_
  clear S2 hF2
  intro w3 S3 hF3
  simp only [Act.put, List.set_cons_succ, List.set_cons_zero] at S3 ⊢
  refine mix_nil ?_
  clear hF3
  rw [HP.out] at S3
  go_wp2_with fail
  go_ret
  exact HEND.out _ (S3.drop (List.sublist_cons_self _ _))
theorem u8Size13 : (Try.prog.info? 5).map (·.size) = some 1 := by kernel_rfl
theorem adGet_any (hip : R.ip.length = 16) (hN : ∀ k, k ≤ 2 → RowIn M (R.nm k)) (f : Int) (hf : f = 4 ∨ f = 6) (msg : ByteArray) (S : Ats B w0 w ((g, 34, rcC R) :: (gy, 73, eyeC l 0) :: M)) :
    Calls Try.prog 47 #[ptA g (.adr f), .string msg, .pointer (some ⟨gy, 0, none⟩)] w (GetQ B w0 g gy M (getP msg.data.toList R.tx l 0 (.adr f))) := by
  have HZ := Lib.hid (fun w => rdSize_any f hf w)
  have hn16 : bitsF f / 8 ≤ 16 := by rcases hf with rfl | rfl <;> decide
  obtain ⟨n, hn⟩ : ∃ n, n = bitsF f / 8 := ⟨_, rfl⟩
  have HM := Lib.hid (fun w (h : EyeAt w gy l 0) => eyeTake_any gy l 0 (n : Int) w h)
  have hlen := ocTake_len l 0 n
  obtain ⟨G, hG⟩ : ∃ G, G = ocTake l 0 (n : Int) := ⟨_, rfl⟩
  have hgp : getP msg.data.toList R.tx l 0 (.adr f) = ⟨0, { R.tx with fam := f, ip := G.1 ++ R.ip.drop G.1.length }, G.2.1, G.2.2⟩ := by rw [hG, hn]; rfl
  rw [hgp]
  rw [← hn] at HZ hn16
  rw [← hG] at HM hlen
  have hl16 : G.1.length ≤ 16 := by omega
  have hip2 : (G.1 ++ R.ip.drop G.1.length).length = 16 := by rw [List.length_append, List.length_drop, hip]; omega
  have hq := rc_put_ip (R := { R with fam := f }) hip G.1 hl16
  have hs := rc_size (R := { R with fam := f }) hip
  have hs0 := rc_size hip
  have HEND := Lib.hid (show ∀ w', Ats B w0 w' ((g, 34, rcC { R with fam := f, ip := G.1 ++ R.ip.drop G.1.length }) :: (gy, 73, eyeC G.2.1 G.2.2) :: M) → GetQ B w0 g gy M ⟨0, { R.tx with fam := f, ip := G.1 ++ R.ip.drop G.1.length }, G.2.1, G.2.2⟩ (.returned (.int .i64 0)) w' from fun w' S' => ⟨{ R with fam := f, ip := G.1 ++ R.ip.drop G.1.length }, [], rfl, rfl, hip2, S', hN⟩)
  have hpf := rc_put_fam (R := R) f
  obtain ⟨st, hst⟩ : ∃ st : ByteArray, st = ⟨G.1.toArray⟩ := ⟨_, rfl⟩
  have hst1 : st.data.toList = G.1 := by rw [hst]
  have hst2 : st.size = G.1.length := by rw [hst]; rfl
  rw [← hst] at HM
  rw [← hst1] at hq
  have hq : ((rcC { R with fam := f }).toList.take 5 ++ st.data.toList.map cellU ++ (rcC { R with fam := f }).toList.drop (5 + st.size)).toArray = rcC { R with fam := f, ip := G.1 ++ R.ip.drop G.1.length } := by
    rw [show st.size = st.data.toList.length by rw [hst2, hst1], hq, hst1]
  show Calls Try.prog _ #[.agg #[.pointer (some ⟨g, 4, none⟩), .int .i64 f], .string msg, .pointer (some ⟨gy, 0, none⟩)] w _
  obtain ⟨z, hz⟩ : ∃ z, z = rcC { R with fam := f } := ⟨_, rfl⟩
  rw [← hz] at hq hs hpf
  obtain ⟨x, hx⟩ : ∃ x, x = rcC R := ⟨_, rfl⟩
  rw [← hx] at S hpf hs0
  have HS0 := Lib.hid (show 4 < x.size by rw [hs0]; decide)
  have HSF := Lib.hid (show 5 + st.size ≤ z.size by rw [hs, hst2]; omega)
  have HSL := Lib.hid (show st.size ≤ 16 by rw [hst2]; exact hl16)
  have HPF := Lib.hid hpf
  have HP := Lib.hid hq
  have hsl := rdSliceA
  have b0 : (#[.pointer (some ⟨g, 4, none⟩), .int .i64 f] : Array Value)[0]? = some (.pointer (some ⟨g, 4, none⟩)) := rfl
  have b1 : (#[.pointer (some ⟨g, 4, none⟩), .int .i64 f] : Array Value)[1]? = some (.int .i64 f) := rfl
  obtain ⟨y, hy⟩ : ∃ y, y = eyeC l 0 := ⟨_, rfl⟩
  have HM2 := Lib.hid (show ∀ w, At w gy 73 y → _ from fun w h => HM.out w (by rw [hy] at h; exact h))
  rw [← hy] at S
  clear hx hs hs0 hip hG hgp HM hy hN hn hst hst1 hst2 hl16 hip2 hn16 hlen hz hpf hq hf
  go_enter Try.func47, Try.ntmps47
  go_wp2_with (first
    | ((with_reducible show wpList _ _ _ (Oper.mk _ (Op.box _ _) _ _ _ _ :: _) _ _); refine wpList_boxS rfl _ _ rfl #[.pointer (some ⟨g, 4, none⟩), .int .i64 f] rfl S ?_; clear S; intro gb w1 S)
    | ((with_reducible show wpList _ _ _ (Oper.mk _ (Op.load _ (Operand.tmp 7)) _ _ _ _ :: _) _ _); refine wpList_cellS rfl _ _ rfl S _ _ rfl 0 _ _ rfl _ Try.underlying63 rfl _ (by with_reducible exact b0) ?_)
    | ((with_reducible show wpList _ _ _ (Oper.mk _ (Op.load _ (Operand.tmp 9)) _ _ _ _ :: _) _ _); refine wpList_cellS rfl _ _ rfl S _ _ rfl 0 _ _ rfl _ Try.underlying3 rfl _ (by with_reducible exact b1) ?_)
    | ((with_reducible show wpList _ _ _ (Oper.mk _ (Op.store _ (Operand.tmp 12) _) _ _ _ _ :: _) _ _); refine wpList_putS rfl _ _ _ rfl S _ _ rfl _ rfl rfl rfl 1 _ _ rfl intInfo1 (by exact HS0.out) ?_; clear S; intro w1 S; (first | simp only [List.set_cons_zero] at S | simp only [List.set_cons_succ, List.set_cons_zero] at S | skip)))
  have S : Ats B w0 w1 ((gb, 65, #[.pointer (some ⟨g, 4, none⟩), .int .i64 f]) :: (g, 34, x.setIfInBounds 4 (.int .i64 f)) :: (gy, 73, y) :: M) := S
  rw [HPF.out] at S
  refine wp_region_mixO (C := AtsF B w0 ((gb, 65, #[.pointer (some ⟨g, 4, none⟩), .int .i64 f]) :: (g, 34, z) :: (gy, 73, y) :: M) [0]) [(0, true), (1, true), (2, true), (3, true), (4, true), (5, true), (6, true), (7, true), (8, false), (9, false), (10, false)] (by kernel_rfl) (by kernel_rfl) (S.drew.toF [0]) ?_
  (simp only [List.map_cons, List.map_nil, List.getD_cons_zero, List.getD_cons_succ]; have S := S.drew; refine mix_begin fun hF => ?_)
  repeat (first
    | (refine mix_move rfl _ rfl ?_; simp only [Act.put, Act.eval, Array.getD_eq_getD_getElem?, List.getElem?_toArray, List.getElem?_cons_succ, List.getElem?_cons_zero, Option.getD_some, List.setIfInBounds_toArray, List.set_cons_succ, List.set_cons_zero])
    | (refine mix_cellF rfl _ (.tmp 13) rfl _ _ rfl 0 (by decide) _ _ rfl _ Try.underlying63 rfl _ b0 ?_; simp only [Act.put, Act.eval, Array.getD_eq_getD_getElem?, List.getElem?_toArray, List.getElem?_cons_succ, List.getElem?_cons_zero, Option.getD_some, List.setIfInBounds_toArray, List.set_cons_succ, List.set_cons_zero])
    | (refine mix_cellF rfl _ (.tmp 19) rfl _ _ rfl 0 (by decide) _ _ rfl _ Try.underlying3 rfl _ b1 ?_; simp only [Act.put, Act.eval, Array.getD_eq_getD_getElem?, List.getElem?_toArray, List.getElem?_cons_succ, List.getElem?_cons_zero, Option.getD_some, List.setIfInBounds_toArray, List.set_cons_succ, List.set_cons_zero])
    | (refine mix_val rfl (v := ?_) ?_ ?_; rotate_left; (focus (intro w _; go_simp; try with_reducible rfl)); simp only [Act.put, List.setIfInBounds_toArray, List.set_cons_succ, List.set_cons_zero]))
  refine mix_call 50 _ _ rfl rfl (enters_of Try.func50 (by kernel_rfl) rfl) ?_ (HZ.out _) ?_
  · simp [Act.eval]
  rintro e w2 ⟨rfl, hb⟩
  have S2 := S.call hb
  refine ⟨_, rfl, ⟨_, S2, hF⟩, ?_⟩
  clear hb S
  simp only [Act.put, Act.eval, Array.getD_eq_getD_getElem?, List.getElem?_toArray, List.getElem?_cons_succ, List.getElem?_cons_zero, Option.getD_some, List.setIfInBounds_toArray, List.set_cons_succ, List.set_cons_zero]
  refine mix_call 44 _ _ rfl rfl (enters_of Try.func44 (by kernel_rfl) rfl) ?_ (HM2.out _ (S2.get (i := 2) rfl)) ?_
  · simp [Act.eval]
  rintro e w3 ⟨rfl, ha, hb⟩
  have S3 := S2.grow (i := 2) rfl hb ha
  simp only [List.set_cons_succ, List.set_cons_zero] at S3
  have hF2 : ∀ i ∈ [0], ((gb, 65, #[.pointer (some ⟨g, 4, none⟩), .int .i64 f]) :: (g, 34, z) :: (gy, 73, eyeC G.2.1 G.2.2) :: M)[i]? = ((gb, 65, #[.pointer (some ⟨g, 4, none⟩), .int .i64 f]) :: (g, 34, z) :: (gy, 73, y) :: M)[i]? := fun i hi => by simp at hi; subst hi; rfl
  refine ⟨_, rfl, ⟨_, S3, hF2⟩, ?_⟩
  clear ha hb S2 hF
  simp only [Act.put, Act.eval, Array.getD_eq_getD_getElem?, List.getElem?_toArray, List.getElem?_cons_succ, List.getElem?_cons_zero, Option.getD_some, List.setIfInBounds_toArray, List.set_cons_succ, List.set_cons_zero]
  refine mix_copyF rfl (.tmp 17) (.tmp 22) 94 9 5 rfl Try.underlying94 u8Size13 S3 hF2 g 5 16 16 rfl st rfl 1 (by decide) _ _ rfl HSL.out HSF.out ?_
  clear S3 hF2
  intro w4 S4 hF4
  simp only [Act.put, List.set_cons_succ, List.set_cons_zero] at S4 ⊢
  refine mix_nil ?_
  clear hF4
  rw [HP.out] at S4
  go_wp2_with fail
  go_ret
  exact HEND.out _ (S4.drop (List.sublist_cons_self _ _))
end
end Go.Proofs.Ytnoabmkmnddkkaa
/- Layer 13: goesOn; a name's get. -/
namespace Go.Proofs.Ytnoabmkmnddkkaa
open Go.RowKit Go
set_option linter.unusedVariables false
set_option linter.unusedSimpArgs false
set_option maxRecDepth 100000
theorem pkRun_fin_k : ∀ (k : Nat) (m : List UInt8) (p low size : Nat) (n : Lbs) (fin : Nat), low * (m.length + 1) + (m.length - p) ≤ k → fin ≤ m.length → (pkRun m p low size n fin).fin ≤ m.length := by
  intro k
  induction k with
  | zero =>
    intro m p low size n fin hk hf
    rw [pkRun_out (by omega)]
    exact Nat.zero_le _
  | succ k ih =>
    intro m p low size n fin hk hf
    by_cases h : p < m.length
    · by_cases h0 : m[p].toNat = 0
      · rw [pkRun_end h h0]
        show (if fin = 0 then p + 1 else fin) ≤ _
        split <;> omega
      · by_cases h1 : m[p].toNat ≤ 63
        · by_cases h2 : m.length < p + 1 + m[p].toNat
          · rw [pkRun_short h h0 h1 h2]; exact Nat.zero_le _
          · by_cases h3 : 255 < size + (m[p].toNat + 1)
            · rw [pkRun_long h h0 h1 h2 h3]; exact Nat.zero_le _
            · rw [pkRun_label h h0 h1 h2 h3]
              exact ih _ _ _ _ _ _ (by omega) hf
        · by_cases h2 : m[p].toNat < 192
          · rw [pkRun_lab h h1 h2]; exact Nat.zero_le _
          · by_cases h3 : p + 1 < m.length
            · by_cases h4 : ptrN (m[p]'h) (m[p + 1]'h3) < low
              · rw [pkRun_ptr h h2 h3 h4]
                refine ih _ _ _ _ _ _ ?_ (by split <;> omega)
                have := Nat.mul_le_mul_right (m.length + 1) h4
                rw [Nat.succ_mul] at this
                omega
              · rw [pkRun_far h h2 h3 h4]; exact Nat.zero_le _
            · rw [pkRun_half h h2 h3]; exact Nat.zero_le _
    · rw [pkRun_out h]; exact Nat.zero_le _
theorem pkGet_fin (m : List UInt8) (a : Int) : (pkGet m a).fin ≤ m.length := by
  unfold pkGet
  split
  · exact Nat.zero_le _
  · exact pkRun_fin_k _ m _ _ _ _ _ (Nat.le_refl _) (Nat.zero_le _)
theorem goesOn_any (s : ByteArray) (hs : s.size ≤ 50000000) (w : World) : Calls Try.prog 58 #[.string s] w fun e w' => e = .returned (.bool (decide ((pkGet s.data.toList 0).err = 1))) ∧ Below w.heap.size w w' := by
  have HG := Lib.hid (fun w => pGet_own s hs 0 w)
  obtain ⟨K, hK⟩ : ∃ K, K = pkGet s.data.toList 0 := ⟨_, rfl⟩
  rw [← hK] at HG ⊢
  have ht : (K.err == 1) = decide (K.err = 1) := by rw [Bool.eq_iff_iff]; simp
  have HT := Lib.hid ht
  clear hK hs ht
  go_enter Try.func58, Try.ntmps58
  go_wp2_with ((with_reducible refine (HG.out _).mono ?_); rintro e w2 ⟨A, c, rfl, hrow, hb⟩; have HB := Lib.hid hb; clear hrow hb)
  go_ret
  exact ⟨ret_bool HT.out, HB.out⟩
theorem Ats.row3 {B : Nat} {w0 w w' : World} {a b c : Nat × TypeId × Array Value} {M : List (Nat × TypeId × Array Value)} (S : Ats B w0 w (a :: b :: c :: M)) {A : Option Addr} {n k : Nat} {l : List (List UInt8)} (hr : RowAt w' w.heap.size A n l) (hb : Below w.heap.size w w') :
    ∃ X, Ats B w0 w' (a :: b :: c :: (X ++ M)) ∧ RowIn (X ++ M) ⟨A, n, k, l⟩ := by
  by_cases h0 : 0 < n
  · obtain ⟨g, cs, hA, hge, ha, hc⟩ := hr.2 h0
    have S1 := S.born hge ha hb
    refine ⟨[(g, 9, cs)], S1.perm ?_, hr.1, fun _ => ⟨g, cs, hA, by simp, hc⟩⟩
    exact (List.perm_middle (l₁ := [a, b, c]) (l₂ := M)).symm
  · exact ⟨[], S.call hb, hr.1, fun h => absurd h h0⟩
theorem ext_drop (s : ByteArray) (p : Nat) : (s.extract p s.size).data.toList = s.data.toList.drop p := by
  obtain ⟨⟨l⟩⟩ := s
  have := ba_drop l p
  rw [show (⟨⟨l⟩⟩ : ByteArray).size = l.length from rfl, this]
section
variable {B : Nat} {w0 w : World} {g gy : Nat} {R : Rc Nm} {l : List UInt8} {M : List (Nat × TypeId × Array Value)}
set_option maxHeartbeats 4000000 in
theorem nameGet_any (hip : R.ip.length = 16) (hN : ∀ k, k ≤ 2 → RowIn M (R.nm k)) (k : Nat) (tb : Bool) (hk : k = 1 ∨ k = 2) (msg : ByteArray) (hM : msg.size ≤ 50000000) (hl : l.length ≤ msg.size) (S : Ats B w0 w ((g, 34, rcC R) :: (gy, 73, eyeC l 0) :: M)) :
    Calls Try.prog 55 #[ptA g (.nam k tb), .string msg, .pointer (some ⟨gy, 0, none⟩)] w (GetQ B w0 g gy M (getP msg.data.toList R.tx l 0 (.nam k tb))) := by
  have hml : msg.data.toList.length = msg.size := by rw [Array.length_toList]; rfl
  obtain ⟨p, hp⟩ : ∃ p, p = msg.size - l.length := ⟨_, rfl⟩
  have hpe : (msg.data.toList.length : Int) - l.length = (p : Int) := by omega
  have hgp : getP msg.data.toList R.tx l 0 (.nam k tb) = getN msg.data.toList R.tx l 0 k := rfl
  rw [hgp]
  unfold getN
  rw [hpe, show msg.data.toList.length - l.length = p by omega, ← ext_drop msg p]
  have hfin := pkGet_fin msg.data.toList p
  rw [hml] at hfin
  have HG := Lib.hid (fun w => pGet_own msg hM p w)
  have hxs : (msg.extract p msg.size).size ≤ 50000000 := by
    have : (msg.extract p msg.size).size ≤ msg.size := by simp
    omega
  have HGO := Lib.hid (fun w => goesOn_any (msg.extract p msg.size) hxs w)
  obtain ⟨K, hK⟩ : ∃ K, K = pkGet msg.data.toList p := ⟨_, rfl⟩
  obtain ⟨xg, hgb⟩ : ∃ xg, xg = (pkGet (msg.extract p msg.size).data.toList 0).err := ⟨_, rfl⟩
  rw [← hgb, ← hK]
  rw [← hK] at HG hfin
  rw [← hgb] at HGO
  have hple : p ≤ msg.size := by omega
  have HL := Lib.hid (fun w (h : EyeAt w gy l 0) => eyeLeft_any gy l 0 w h)
  obtain ⟨x, hx⟩ : ∃ x, x = K.err := ⟨_, rfl⟩
  obtain ⟨fin, hfi⟩ : ∃ fin, fin = K.fin := ⟨_, rfl⟩
  obtain ⟨nl, hnl⟩ : ∃ nl, nl = K.n := ⟨_, rfl⟩
  have HG2 := Lib.hid (show ∀ w, Calls Try.prog 57 #[.string msg, .int .i64 (p : Int)] w fun e w' => ∃ A c, e = .returned (.tuple #[.slice A nl.length c, .int .i64 fin, .int .i64 x]) ∧ RowAt w' w.heap.size A nl.length nl ∧ Below w.heap.size w w' from fun w => by rw [hx, hfi, hnl]; exact HG.out w)
  rw [← hx, ← hfi, ← hnl]
  rw [← hfi] at hfin
  have HM := Lib.hid (fun w (h : EyeAt w gy l 0) => eyeTake_any gy l 0 ((fin : Int) - (p : Int)) w h)
  obtain ⟨H, hH⟩ : ∃ H, H = ocTake l 0 ((fin : Int) - (p : Int)) := ⟨_, rfl⟩
  rw [← hH] at HM ⊢
  obtain ⟨G, hG⟩ : ∃ G, G = (if x = 1 ∧ xg = 1 then (⟨5, R.tx, l, 0⟩ : GtR) else if x = 0 then ⟨0, { R.tx with nm := upd R.tx.nm k nl }, H.2.1, H.2.2⟩ else ⟨x, R.tx, l, 0⟩) := ⟨_, rfl⟩
  rw [← hG]
  have HBAD := Lib.hid (show ∀ y w' X, G = ⟨y, R.tx, l, 0⟩ → Ats B w0 w' ((g, 34, rcC R) :: (gy, 73, eyeC l 0) :: (X ++ M)) → GetQ B w0 g gy M G (.returned (.int .i64 y)) w' from fun y w' X e S' => by
    rw [e]
    exact ⟨R, X, rfl, rfl, hip, S', fun j hj => (hN j hj).mono fun z hz => List.mem_append_right _ hz⟩)
  have HGOOD := Lib.hid (show ∀ A c w' X, G = ⟨0, { R.tx with nm := upd R.tx.nm k nl }, H.2.1, H.2.2⟩ → RowIn (X ++ M) ⟨A, nl.length, c, nl⟩ → Ats B w0 w' ((g, 34, rcC { R with nm := upd R.nm k ⟨A, nl.length, c, nl⟩ }) :: (gy, 73, eyeC H.2.1 H.2.2) :: (X ++ M)) → GetQ B w0 g gy M G (.returned (.int .i64 0)) w' from fun A c w' X e hin S' => by
    rw [e]
    refine ⟨{ R with nm := upd R.nm k ⟨A, nl.length, c, nl⟩ }, X, rfl, ?_, hip, S', fun j hj => ?_⟩
    · have : (fun j => (upd R.nm k (⟨A, nl.length, c, nl⟩ : Nm) j).l) = upd (fun j => (R.nm j).l) k nl := by
        funext j
        unfold upd
        split <;> rfl
      show ({ R with nm := fun j => (upd R.nm k (⟨A, nl.length, c, nl⟩ : Nm) j).l } : Rc Lbs) = { R with nm := upd (fun j => (R.nm j).l) k nl }
      rw [this]
    · show RowIn _ (upd R.nm k ⟨A, nl.length, c, nl⟩ j)
      unfold upd
      split
      · exact hin
      · exact (hN j hj).mono fun z hz => List.mem_append_right _ hz)
  have HPU := Lib.hid (show ∀ A c, (rcC R).setIfInBounds (21 + k) (.slice A nl.length c) = rcC { R with nm := upd R.nm k ⟨A, nl.length, c, nl⟩ } from fun A c => rc_put_nm hip ⟨A, nl.length, c, nl⟩ k hk)
  have hs := rc_size hip
  show Calls Try.prog _ #[.agg #[.pointer (some ⟨g, 21 + k, none⟩), .bool tb], .string msg, .pointer (some ⟨gy, 0, none⟩)] w _
  obtain ⟨o, ho⟩ : ∃ o, o = 21 + k := ⟨_, rfl⟩
  have hlt : o < 33 := by omega
  rw [← ho] at HPU ⊢
  obtain ⟨z, hz⟩ : ∃ z, z = rcC R := ⟨_, rfl⟩
  rw [← hz] at hs HPU HBAD S
  have HS := Lib.hid (show o < z.size by rw [hs]; exact hlt)
  have b0 : (#[.pointer (some ⟨g, o, none⟩), .bool tb] : Array Value)[0]? = some (.pointer (some ⟨g, o, none⟩)) := rfl
  have hw : wrap64 ((msg.size : Int) - (l.length : Int)) = (p : Int) := by go_arith
  have hw2 : wrap64 ((fin : Int) - (p : Int)) = (fin : Int) - (p : Int) := by go_arith
  have hwp : (msg.size : Int) - (l.length : Int) = (p : Int) := by omega
  obtain ⟨n, hn⟩ : ∃ n : Int, n = (l.length : Int) := ⟨_, rfl⟩
  rw [← hn] at HL hw hwp
  obtain ⟨y, hy⟩ : ∃ y, y = eyeC l 0 := ⟨_, rfl⟩
  have HM2 := Lib.hid (show ∀ w, At w gy 73 y → _ from fun w h => HM.out w (by rw [hy] at h; exact h))
  have HL2 := Lib.hid (show ∀ w, At w gy 73 y → _ from fun w h => HL.out w (by rw [hy] at h; exact h))
  rw [← hy] at S HBAD
  obtain ⟨pe, hpp⟩ : ∃ pe, pe = msg.size := ⟨_, rfl⟩
  clear hml hp hpe hgp hxs hK hgb HG HM HL hx hfi hnl hH hs ho hlt hz hn hy hpp hip hN hk hl
  by_cases hx1 : x = 1
  · have t1 : (x == 1) = true := by simpa using hx1
    by_cases hxg : xg = 1
    · have HE := Lib.hid (show G = ⟨5, R.tx, l, 0⟩ by rw [hG, if_pos ⟨hx1, hxg⟩])
      rw [show decide (xg = 1) = true from decide_eq_true hxg] at HGO
      clear hG hx1 hxg
      go_enter Try.func55, Try.ntmps55
      go_wp2_with (first
        | ((with_reducible show wpList _ _ _ (Oper.mk _ (Op.box _ _) _ _ _ _ :: _) _ _); refine wpList_boxS rfl _ _ rfl #[.pointer (some ⟨g, o, none⟩), .bool tb] rfl S ?_; clear S; intro gb' w1 S)
        | ((with_reducible show wpList _ _ _ (Oper.mk _ (Op.load _ (Operand.tmp 34)) _ _ _ _ :: _) _ _); refine wpList_cellS rfl _ _ rfl S _ _ rfl 0 _ _ rfl _ Try.underlying66 rfl _ (by with_reducible exact b0) ?_)
        | ((with_reducible refine (HL2.out _ (S.get (i := 2) rfl)).mono ?_); rintro e w2 ⟨rfl, rfl⟩)
        | ((with_reducible refine (HG2.out _).mono ?_); rintro e w2 ⟨A, c, rfl, hrow, hb⟩; obtain ⟨X, S, hin⟩ := S.row3 (k := c) hrow hb; have HIN := Lib.hid hin; clear hrow hb hin)
        | ((with_reducible refine (HGO.out _).mono ?_); rintro e w3 ⟨rfl, hb⟩; have S := S.call hb; clear hb)
        | ((with_reducible show wpList _ _ _ (Oper.mk _ (Op.store _ (Operand.tmp 37) _) _ _ _ _ :: _) _ _); refine wpList_putS rfl _ _ _ rfl S _ _ rfl _ rfl rfl rfl 1 _ _ rfl nameInfo1 (by exact HS.out) ?_; clear S; intro w1 S; (first | simp only [List.set_cons_zero] at S | simp only [List.set_cons_succ, List.set_cons_zero] at S | skip))
        | ((with_reducible refine (HM2.out _ (S.get (i := 2) rfl)).mono ?_); rintro e w4 ⟨rfl, ha, hb⟩; have S := S.grow (i := 2) rfl hb ha; clear ha hb; simp only [List.set_cons_succ, List.set_cons_zero] at S))
      go_ret
      exact HBAD.out _ _ X HE.out (S.drop (List.sublist_cons_self _ _))
    · have t0 : (x != 0) = true := by rw [hx1]; rfl
      have HE := Lib.hid (show G = ⟨x, R.tx, l, 0⟩ by rw [hG, if_neg (fun h => hxg h.2), if_neg (by omega)])
      rw [show decide (xg = 1) = false from decide_eq_false hxg] at HGO
      clear hG hx1 hxg
      go_enter Try.func55, Try.ntmps55
      go_wp2_with (first
        | ((with_reducible show wpList _ _ _ (Oper.mk _ (Op.box _ _) _ _ _ _ :: _) _ _); refine wpList_boxS rfl _ _ rfl #[.pointer (some ⟨g, o, none⟩), .bool tb] rfl S ?_; clear S; intro gb' w1 S)
        | ((with_reducible show wpList _ _ _ (Oper.mk _ (Op.load _ (Operand.tmp 34)) _ _ _ _ :: _) _ _); refine wpList_cellS rfl _ _ rfl S _ _ rfl 0 _ _ rfl _ Try.underlying66 rfl _ (by with_reducible exact b0) ?_)
        | ((with_reducible refine (HL2.out _ (S.get (i := 2) rfl)).mono ?_); rintro e w2 ⟨rfl, rfl⟩)
        | ((with_reducible refine (HG2.out _).mono ?_); rintro e w2 ⟨A, c, rfl, hrow, hb⟩; obtain ⟨X, S, hin⟩ := S.row3 (k := c) hrow hb; have HIN := Lib.hid hin; clear hrow hb hin)
        | ((with_reducible refine (HGO.out _).mono ?_); rintro e w3 ⟨rfl, hb⟩; have S := S.call hb; clear hb)
        | ((with_reducible show wpList _ _ _ (Oper.mk _ (Op.store _ (Operand.tmp 37) _) _ _ _ _ :: _) _ _); refine wpList_putS rfl _ _ _ rfl S _ _ rfl _ rfl rfl rfl 1 _ _ rfl nameInfo1 (by exact HS.out) ?_; clear S; intro w1 S; (first | simp only [List.set_cons_zero] at S | simp only [List.set_cons_succ, List.set_cons_zero] at S | skip))
        | ((with_reducible refine (HM2.out _ (S.get (i := 2) rfl)).mono ?_); rintro e w4 ⟨rfl, ha, hb⟩; have S := S.grow (i := 2) rfl hb ha; clear ha hb; simp only [List.set_cons_succ, List.set_cons_zero] at S))
      go_ret
      exact HBAD.out _ _ X HE.out (S.drop (List.sublist_cons_self _ _))
  · have t1 : (x == 1) = false := by simpa using hx1
    by_cases hx0 : x = 0
    · have t0 : (x != 0) = false := by rw [hx0]; rfl
      have HE := Lib.hid (show G = ⟨0, { R.tx with nm := upd R.tx.nm k nl }, H.2.1, H.2.2⟩ by rw [hG, if_neg (fun h => hx1 h.1), if_pos hx0])
      clear hG hx1 hx0
      go_enter Try.func55, Try.ntmps55
      go_wp2_with (first
        | ((with_reducible show wpList _ _ _ (Oper.mk _ (Op.box _ _) _ _ _ _ :: _) _ _); refine wpList_boxS rfl _ _ rfl #[.pointer (some ⟨g, o, none⟩), .bool tb] rfl S ?_; clear S; intro gb' w1 S)
        | ((with_reducible show wpList _ _ _ (Oper.mk _ (Op.load _ (Operand.tmp 34)) _ _ _ _ :: _) _ _); refine wpList_cellS rfl _ _ rfl S _ _ rfl 0 _ _ rfl _ Try.underlying66 rfl _ (by with_reducible exact b0) ?_)
        | ((with_reducible refine (HL2.out _ (S.get (i := 2) rfl)).mono ?_); rintro e w2 ⟨rfl, rfl⟩)
        | ((with_reducible refine (HG2.out _).mono ?_); rintro e w2 ⟨A, c, rfl, hrow, hb⟩; obtain ⟨X, S, hin⟩ := S.row3 (k := c) hrow hb; have HIN := Lib.hid hin; clear hrow hb hin)
        | ((with_reducible refine (HGO.out _).mono ?_); rintro e w3 ⟨rfl, hb⟩; have S := S.call hb; clear hb)
        | ((with_reducible show wpList _ _ _ (Oper.mk _ (Op.store _ (Operand.tmp 37) _) _ _ _ _ :: _) _ _); refine wpList_putS rfl _ _ _ rfl S _ _ rfl _ rfl rfl rfl 1 _ _ rfl nameInfo1 (by exact HS.out) ?_; clear S; intro w1 S; (first | simp only [List.set_cons_zero] at S | simp only [List.set_cons_succ, List.set_cons_zero] at S | skip))
        | ((with_reducible refine (HM2.out _ (S.get (i := 2) rfl)).mono ?_); rintro e w4 ⟨rfl, ha, hb⟩; have S := S.grow (i := 2) rfl hb ha; clear ha hb; simp only [List.set_cons_succ, List.set_cons_zero] at S))
      go_ret
      have S : Ats B w0 _ ((gb', 68, #[.pointer (some ⟨g, o, none⟩), .bool tb]) :: (g, 34, z.setIfInBounds o (.slice A nl.length c)) :: (gy, 73, eyeC H.2.1 H.2.2) :: (X ++ M)) := S
      rw [HPU.out] at S
      exact HGOOD.out A c _ X HE.out HIN.out (S.drop (List.sublist_cons_self _ _))
    · have t0 : (x != 0) = true := by simpa using hx0
      have HE := Lib.hid (show G = ⟨x, R.tx, l, 0⟩ by rw [hG, if_neg (fun h => hx1 h.1), if_neg hx0])
      clear hG hx1 hx0
      go_enter Try.func55, Try.ntmps55
      go_wp2_with (first
        | ((with_reducible show wpList _ _ _ (Oper.mk _ (Op.box _ _) _ _ _ _ :: _) _ _); refine wpList_boxS rfl _ _ rfl #[.pointer (some ⟨g, o, none⟩), .bool tb] rfl S ?_; clear S; intro gb' w1 S)
        | ((with_reducible show wpList _ _ _ (Oper.mk _ (Op.load _ (Operand.tmp 34)) _ _ _ _ :: _) _ _); refine wpList_cellS rfl _ _ rfl S _ _ rfl 0 _ _ rfl _ Try.underlying66 rfl _ (by with_reducible exact b0) ?_)
        | ((with_reducible refine (HL2.out _ (S.get (i := 2) rfl)).mono ?_); rintro e w2 ⟨rfl, rfl⟩)
        | ((with_reducible refine (HG2.out _).mono ?_); rintro e w2 ⟨A, c, rfl, hrow, hb⟩; obtain ⟨X, S, hin⟩ := S.row3 (k := c) hrow hb; have HIN := Lib.hid hin; clear hrow hb hin)
        | ((with_reducible refine (HGO.out _).mono ?_); rintro e w3 ⟨rfl, hb⟩; have S := S.call hb; clear hb)
        | ((with_reducible show wpList _ _ _ (Oper.mk _ (Op.store _ (Operand.tmp 37) _) _ _ _ _ :: _) _ _); refine wpList_putS rfl _ _ _ rfl S _ _ rfl _ rfl rfl rfl 1 _ _ rfl nameInfo1 (by exact HS.out) ?_; clear S; intro w1 S; (first | simp only [List.set_cons_zero] at S | simp only [List.set_cons_succ, List.set_cons_zero] at S | skip))
        | ((with_reducible refine (HM2.out _ (S.get (i := 2) rfl)).mono ?_); rintro e w4 ⟨rfl, ha, hb⟩; have S := S.grow (i := 2) rfl hb ha; clear ha hb; simp only [List.set_cons_succ, List.set_cons_zero] at S))
      go_ret
      exact HBAD.out _ _ X HE.out (S.drop (List.sublist_cons_self _ _))
end
end Go.Proofs.Ytnoabmkmnddkkaa
namespace Go.Proofs.Ytnoabmkmnddkkaa
open Go.RowKit Go
set_option linter.unusedVariables false
set_option linter.unusedSimpArgs false
set_option maxRecDepth 100000
theorem rcZero : (Try.prog.info? 34).map (·.zero) = some (some (rcV (zeroR nilN))) := by kernel_rfl
theorem getP_len (m : List UInt8) (R : Rc Lbs) (l : List UInt8) (p : Pt) : (getP m R l 0 p).l.length ≤ l.length := by
  have ht : ∀ n : Int, (ocTake l 0 n).2.1.length ≤ l.length := fun n => by
    unfold ocTake
    rw [if_neg (by decide)]
    split
    · exact Nat.le_refl _
    · show (l.drop n.toNat).length ≤ _
      rw [List.length_drop]
      omega
  cases p with
  | raw => exact ht _
  | adr f => exact ht _
  | num k wd => exact ht _
  | nam k b =>
    show (getN m R l 0 k).l.length ≤ _
    unfold getN
    split
    · exact Nat.le_refl _
    · split
      · exact ht _
      · exact Nat.le_refl _
/-- what Get answers -/
def RdGetP (F : Int × Rc Lbs) (w : World) (e : Ending) (w' : World) : Prop :=
  ∃ Q : Rc Nm, e = .returned (.tuple #[rcV Q, .int .i64 F.1]) ∧ Q.tx = F.2 ∧ Q.ip.length = 16 ∧ ∃ X, Ats w.heap.size w w' X ∧ ∀ k, k ≤ 2 → RowIn X (Q.nm k)
theorem rdGet_bad {F : Int × Rc Lbs} {x : Int} {w w' : World} (h : F = (x, zeroR [])) (hb : Below w.heap.size w w') : RdGetP F w (.returned (.tuple #[rcV (zeroR nilN), .int .i64 x])) w' := by
  subst h
  exact ⟨zeroR nilN, rfl, rfl, rfl, [], Ats.of_below hb hb.size, fun k _ => RowIn.nil _⟩
theorem Ats.perm4 {B : Nat} {w0 w : World} {a b c d : Nat × TypeId × Array Value} {X M : List (Nat × TypeId × Array Value)} (S : Ats B w0 w (a :: b :: (X ++ c :: d :: M))) : Ats B w0 w (a :: b :: c :: d :: (X ++ M)) := by
  refine S.perm ((List.Perm.cons a (List.Perm.cons b ?_)))
  exact (List.perm_middle (l₁ := X) (l₂ := d :: M)).trans (List.Perm.cons c (List.perm_middle (l₁ := X) (l₂ := M)))
theorem ext_take (s : ByteArray) (p : Nat) : (s.extract 0 p).data.toList = s.data.toList.take p := by
  obtain ⟨⟨l⟩⟩ := s
  have := ba_take l p
  rw [this]
theorem RowIn.fall {M L : List (Nat × TypeId × Array Value)} {y : Nm} (h : RowIn M y) (hm : ∀ x ∈ M, x.2.1 = 9 → x ∈ L) : RowIn L y :=
  ⟨h.1, fun h0 => by obtain ⟨b, cs, h1, h2, h3⟩ := h.2 h0; exact ⟨b, cs, h1, hm _ h2 rfl, h3⟩⟩
theorem perm321 {A : Type} (a b c d : A) : [a, b, c, d].Perm [c, b, a, d] :=
  (List.reverse_perm [a, b, c]).symm.append_right [d]
/-- one round of Get -/
def GetR13 (w : World) (ga gy gp g10 N n : Nat) (m : List UInt8) (cs : Array Value) (z : Array Value) (ps : List Pt) (F : Int × Rc Lbs) (i : Value) (wr : World) : Prop :=
  ∃ (k : Nat) (R : Rc Nm) (l : List UInt8) (X : List (Nat × TypeId × Array Value)), k ≤ n ∧ i = .int .i64 k ∧ R.ip.length = 16 ∧ l.length ≤ N ∧
    Ats w.heap.size w wr ((ga, 34, rcC R) :: (gy, 73, eyeC l 0) :: (gp, 52, cs) :: (g10, 34, z) :: X) ∧ (∀ k, k ≤ 2 → RowIn ((gp, 52, cs) :: (g10, 34, z) :: X) (R.nm k)) ∧ getL m (ps.drop k) R.tx l 0 = F
set_option maxHeartbeats 40000000 in
theorem rdGet_core (msg : ByteArray) (hM : msg.size ≤ 50000000) (p q : Nat) (hpq : p + q ≤ msg.size) (kind class_ : Int) (w : World) :
    Calls Try.prog 8 #[.string msg, .int .i64 p, .int .i64 q, .int .i64 kind, .int .i64 class_] w (RdGetP (rGet msg.data.toList p q kind class_) w) := by
  have S := Ats.start w
  have hml : msg.data.toList.length = msg.size := by rw [Array.length_toList]; rfl
  obtain ⟨M2, hM2⟩ : ∃ M2, M2 = msg.extract 0 (p + q) := ⟨_, rfl⟩
  have hs2 : M2.size = p + q := by rw [hM2]; simp; omega
  have hm2 : M2.data.toList = msg.data.toList.take (p + q) := by rw [hM2]; exact ext_take msg (p + q)
  have hF : rGet msg.data.toList p q kind class_ = getL M2.data.toList (rParts kind class_) { zeroR [] with ty := kind, cl := class_ } (M2.data.toList.drop p) 0 := by
    unfold rGet
    rw [if_neg (by rw [hml]; omega), show ((p : Int) + (q : Int)).toNat = p + q by omega, show ((p : Int)).toNat = p by omega, hm2]
  obtain ⟨F, hFF⟩ : ∃ F, F = rGet msg.data.toList p q kind class_ := ⟨_, rfl⟩
  rw [← hFF] at hF ⊢
  have HNW := Lib.hid (show ∀ w, Calls Try.prog 14 #[.string (M2.extract p M2.size)] w fun e w' => ∃ g, e = .returned (.pointer (some ⟨g, 0, none⟩)) ∧ w.heap.size ≤ g ∧ EyeAt w' g (M2.data.toList.drop p) 0 ∧ Below w.heap.size w w' from fun w => by
    have := eyeNew_any (M2.extract p M2.size) w
    rw [ext_drop] at this
    exact this)
  have HERR := Lib.hid (fun g l x w (h : EyeAt w g l x) => eyeErr_any g l x w h)
  have HEND := Lib.hid (fun g l w (h : EyeAt w g l 0) => eyeEnd_any g l 0 w h)
  have HPT := Lib.hid (show ∀ ga w', At w' ga 34 (rcC { zeroR nilN with ty := kind, cl := class_ }) → Calls Try.prog 13 #[.pointer (some ⟨ga, 0, none⟩)] w' (PartsP w' ga (rParts kind class_)) from fun ga w' h => parts_any h)
  have HOK := Lib.hid (rParts_ok kind class_)
  have HL7 := Lib.hid (rParts_len kind class_)
  obtain ⟨ps, hps⟩ : ∃ ps, ps = rParts kind class_ := ⟨_, rfl⟩
  rw [← hps] at hF HPT HOK HL7
  obtain ⟨l0, hl0⟩ : ∃ l0, l0 = M2.data.toList.drop p := ⟨_, rfl⟩
  have hl0s : l0.length ≤ M2.size := by
    have : M2.data.toList.length = M2.size := by rw [Array.length_toList]; rfl
    rw [hl0, List.length_drop, this]; omega
  rw [← hl0] at HNW hF
  have hM50 : M2.size ≤ 50000000 := by omega
  have HM50 := Lib.hid hM50
  have HL0 := Lib.hid hl0s
  have HF := Lib.hid hF
  have HX := Lib.hid (show M2 = msg.extract 0 (p + q) from hM2)
  have HPS := Lib.hid (show p ≤ M2.size by omega)
  have HSZ2 := Lib.hid hs2
  have hx2 : msg.extract 0 (p + q) = M2 := hM2.symm
  clear hml hs2 hm2 hF hFF hps hl0 hl0s hM50 hM2
  have d0 : decide ((p : Int) < 0) = false := decide_eq_false (by omega)
  have d1 : decide ((q : Int) < 0) = false := decide_eq_false (by omega)
  have d2 : decide ((p : Int) > msg.size) = false := decide_eq_false (by omega)
  have d3 : decide ((q : Int) > (msg.size : Int) - p) = false := decide_eq_false (by omega)
  have d4 : decide ((msg.size : Int) - p < q) = false := decide_eq_false (by omega)
  go_enter Try.func8, Try.ntmps8
  go_wp2_with (first
    | ((with_reducible show wpList _ _ _ (Oper.mk (some 10) (Op.alloc _) _ _ _ _ :: _) _ _); refine wpList_allocS rfl _ rfl _ rcZero S ?_; clear S; intro g10 w1 S)
    | ((with_reducible show wpList _ _ _ (Oper.mk (some 12) (Op.alloc _) _ _ _ _ :: _) _ _); refine wpList_allocS rfl _ rfl _ rcZero S ?_; clear S; intro ga w1 S)
    | ((with_reducible show wpList _ _ _ (Oper.mk _ (Op.store _ (Operand.tmp 12) _) _ _ _ _ :: _) _ _); refine wpList_storeS rfl _ _ _ rfl S _ rfl _ rfl 0 _ _ rfl (rcSize (R := { zeroR nilN with ty := kind, cl := class_ }) rfl) rfl (rc_one (R := { zeroR nilN with ty := kind, cl := class_ })) ?_; clear S; intro w1 S; have S : Ats w.heap.size w w1 [(ga, 34, rcC { zeroR nilN with ty := kind, cl := class_ }), (g10, 34, rcC (zeroR nilN))] := S)
    | ((with_reducible refine (HNW.out _).mono ?_); rintro e w2 ⟨gy, rfl, hg, ha, hb⟩; have S := S.born hg ha hb; clear hg ha hb)
    | ((with_reducible refine (HPT.out _ _ (S.get (i := 1) rfl)).mono ?_); rintro e w2 ⟨gp, c, cs, rfl, hg, ha, hcs, hb⟩; have S := (S.born hg ha hb).perm (perm321 _ _ _ _); have HCS := Lib.hid hcs; clear hg ha hb hcs))
  clear d0 d1 d2 d3 d4
  obtain ⟨n, hn⟩ : ∃ n, n = ps.length := ⟨_, rfl⟩
  rw [← hn]
  have HN := Lib.hid hn
  obtain ⟨m, hm⟩ : ∃ m, m = M2.data.toList := ⟨_, rfl⟩
  obtain ⟨z, hz⟩ : ∃ z, z = rcC (zeroR nilN) := ⟨_, rfl⟩
  rw [← hz] at S
  have HZ := Lib.hid hz
  have HMM := Lib.hid hm
  obtain ⟨zs, hzs⟩ : ∃ zs, zs = rcC (zeroR nilN) := ⟨_, rfl⟩
  have hF2 := HF.out
  rw [← hm] at hF2
  have HF2 := Lib.hid hF2
  clear hn hz hm zs hzs hF2 HF
  go_loopw [52] (fun i wr => GetR13 w ga gy gp g10 M2.size n m cs z ps F i wr) (fun i _ => n - (intOf i).toNat)
  case atStart => exact ⟨0, { zeroR nilN with ty := kind, cl := class_ }, l0, [], Nat.zero_le _, rfl, rfl, HL0.out, S, fun k _ => RowIn.nil _, HF2.out.symm⟩
  case round =>
    clear S HF2
    obtain ⟨k, R', l, X, hk, rfl, hip, hls, S, hN, hE'⟩ := hrel
    have hn7 : n ≤ 7 := by rw [HN.out]; exact HL7.out
    by_cases hlt : k < n
    · have hlt' : k < ps.length := by rw [← HN.out]; exact hlt
      have hcell := HCS.out k hlt'
      have hpok := HOK.out ps[k] (List.getElem_mem hlt')
      rw [drop_at hlt'] at hE'
      obtain ⟨pt, hp⟩ : ∃ pt, pt = ps[k] := ⟨_, rfl⟩
      rw [← hp] at hcell hpok hE'
      have hE2 : (if (getP m R'.tx l 0 pt).err = 0 then (if (getP m R'.tx l 0 pt).x = 0 then getL m (ps.drop (k + 1)) (getP m R'.tx l 0 pt).R (getP m R'.tx l 0 pt).l (getP m R'.tx l 0 pt).x else (5, zeroR [])) else ((getP m R'.tx l 0 pt).err, zeroR [])) = F := hE'
      have hgl := getP_len m R'.tx l pt
      obtain ⟨⟨xe, RG, lG, xG⟩, hG⟩ : ∃ G, G = getP m R'.tx l 0 pt := ⟨_, rfl⟩
      rw [← hG] at hE2 hgl
      have hE3 : (if xe = 0 then (if xG = 0 then getL m (ps.drop (k + 1)) RG lG xG else (5, zeroR [])) else (xe, zeroR [])) = F := hE2
      have hls2 : lG.length ≤ M2.size := Nat.le_trans hgl hls
      have HLS2 := Lib.hid hls2
      have HE3 := Lib.hid hE3
      clear hp hE' hE2 hE3 hgl hls2 hlt'
      cases pt with
      | raw =>
        have hcell : cs[k]? = some (.iface 62 (.agg #[.pointer (some ⟨ga, 32, none⟩)])) := hcell
        have HGT := Lib.hid (fun w2 (S : Ats w.heap.size w w2 ((ga, 34, rcC R') :: (gy, 73, eyeC l 0) :: ((gp, 52, cs) :: (g10, 34, z) :: X))) => (show Calls Try.prog 42 #[.agg #[.pointer (some ⟨ga, 32, none⟩)], .string M2, .pointer (some ⟨gy, 0, none⟩)] w2 (GetQ w.heap.size w ga gy ((gp, 52, cs) :: (g10, 34, z) :: X) ⟨xe, RG, lG, xG⟩) by rw [hG, HMM.out]; exact rawGet_any hip hN M2 S))
        clear hpok hip hls hN hG
        by_cases hx0 : xe = 0
        · by_cases hx1 : xG = 0
          · subst hx0 hx1
            have HE4 := Lib.hid (show getL m (ps.drop (k + 1)) RG lG 0 = F by rw [← HE3.out, if_pos rfl, if_pos rfl])
            clear HE3
            go_wp2_with (first
              | ((with_reducible show wpList _ _ _ (Oper.mk _ (Op.load _ (Operand.tmp 54)) _ _ _ _ :: _) _ _); refine wpList_cellS rfl _ _ rfl S _ _ rfl 2 _ _ rfl _ Try.underlying52 rfl _ (by with_reducible exact hcell) ?_)
              | ((with_reducible refine (HGT.out _ S).mono ?_); rintro e w2 ⟨R2, X2, rfl, hR2, hip2, S2, hN2⟩; clear S; have S := S2.perm4; clear S2)
              | ((with_reducible refine (HERR.out _ _ _ _ (S.get (i := 1) rfl)).mono ?_); rintro e w3 ⟨rfl, rfl⟩))
            go_roundw
            case rel =>
              refine ⟨k + 1, R2, lG, X2 ++ X, by omega, by go_num, hip2, HLS2.out, S, fun j hj => (hN2 j hj).mono fun y hy => ?_, by rw [hR2]; exact HE4.out⟩
              simp only [List.mem_append, List.mem_cons] at hy ⊢
              rcases hy with hy | hy | hy | hy
              · exact .inr (.inr (.inl hy))
              · exact .inl hy
              · exact .inr (.inl hy)
              · exact .inr (.inr (.inr hy))
            case measure => simp [intOf]; omega
          · subst hx0
            have tx : (xG != 0) = true := by simpa using hx1
            have HFF := Lib.hid (show F = (5, zeroR []) by rw [← HE3.out, if_pos rfl, if_neg hx1])
            have HZL := Lib.hid (show z.size = (rcC (zeroR nilN)).size by rw [HZ.out])
            clear HE3 hx1
            go_wp2_with (first
              | ((with_reducible show wpList _ _ _ (Oper.mk _ (Op.load _ (Operand.tmp 54)) _ _ _ _ :: _) _ _); refine wpList_cellS rfl _ _ rfl S _ _ rfl 2 _ _ rfl _ Try.underlying52 rfl _ (by with_reducible exact hcell) ?_)
              | ((with_reducible refine (HGT.out _ S).mono ?_); rintro e w2 ⟨R2, X2, rfl, hR2, hip2, S2, hN2⟩; clear S; have S := S2.perm4; clear S2)
              | ((with_reducible refine (HERR.out _ _ _ _ (S.get (i := 1) rfl)).mono ?_); rintro e w3 ⟨rfl, rfl⟩)
              | ((with_reducible show wpList _ _ _ (Oper.mk _ (Op.store _ (Operand.tmp 10) _) _ _ _ _ :: _) _ _); refine wpList_storeS rfl _ _ _ rfl S _ rfl (rcC (zeroR nilN)) rfl 3 _ _ rfl (rcSize (R := zeroR nilN) rfl) HZL.out rc_one ?_; clear S; intro w1 S; simp only [List.set_cons_succ, List.set_cons_zero] at S))
            refine bodyPost_ret (results_cell2S rfl _ S _ 3 _ _ _ rfl rfl Try.underlying34 rfl (rcSize (R := zeroR nilN) rfl)) rfl ?_; exact rdGet_bad HFF.out S.below
        · have tx : (xe != 0) = true := by simpa using hx0
          have HFF := Lib.hid (show F = (xe, zeroR []) by rw [← HE3.out, if_neg hx0])
          have HZL := Lib.hid (show z.size = (rcC (zeroR nilN)).size by rw [HZ.out])
          clear HE3 hx0
          go_wp2_with (first
            | ((with_reducible show wpList _ _ _ (Oper.mk _ (Op.load _ (Operand.tmp 54)) _ _ _ _ :: _) _ _); refine wpList_cellS rfl _ _ rfl S _ _ rfl 2 _ _ rfl _ Try.underlying52 rfl _ (by with_reducible exact hcell) ?_)
            | ((with_reducible refine (HGT.out _ S).mono ?_); rintro e w2 ⟨R2, X2, rfl, hR2, hip2, S2, hN2⟩; clear S; have S := S2.perm4; clear S2)
            | ((with_reducible show wpList _ _ _ (Oper.mk _ (Op.store _ (Operand.tmp 10) _) _ _ _ _ :: _) _ _); refine wpList_storeS rfl _ _ _ rfl S _ rfl (rcC (zeroR nilN)) rfl 3 _ _ rfl (rcSize (R := zeroR nilN) rfl) HZL.out rc_one ?_; clear S; intro w1 S; simp only [List.set_cons_succ, List.set_cons_zero] at S))
          refine bodyPost_ret (results_cell2S rfl _ S _ 3 _ _ _ rfl rfl Try.underlying34 rfl (rcSize (R := zeroR nilN) rfl)) rfl ?_; exact rdGet_bad HFF.out S.below
      | adr f =>
        have hcell : cs[k]? = some (.iface 65 (.agg #[.pointer (some ⟨ga, 4, none⟩), .int .i64 f])) := hcell
        have HGT := Lib.hid (fun w2 (S : Ats w.heap.size w w2 ((ga, 34, rcC R') :: (gy, 73, eyeC l 0) :: ((gp, 52, cs) :: (g10, 34, z) :: X))) => (show Calls Try.prog 47 #[.agg #[.pointer (some ⟨ga, 4, none⟩), .int .i64 f], .string M2, .pointer (some ⟨gy, 0, none⟩)] w2 (GetQ w.heap.size w ga gy ((gp, 52, cs) :: (g10, 34, z) :: X) ⟨xe, RG, lG, xG⟩) by rw [hG, HMM.out]; exact adGet_any hip hN f hpok M2 S))
        clear hpok hip hls hN hG
        by_cases hx0 : xe = 0
        · by_cases hx1 : xG = 0
          · subst hx0 hx1
            have HE4 := Lib.hid (show getL m (ps.drop (k + 1)) RG lG 0 = F by rw [← HE3.out, if_pos rfl, if_pos rfl])
            clear HE3
            go_wp2_with (first
              | ((with_reducible show wpList _ _ _ (Oper.mk _ (Op.load _ (Operand.tmp 54)) _ _ _ _ :: _) _ _); refine wpList_cellS rfl _ _ rfl S _ _ rfl 2 _ _ rfl _ Try.underlying52 rfl _ (by with_reducible exact hcell) ?_)
              | ((with_reducible refine (HGT.out _ S).mono ?_); rintro e w2 ⟨R2, X2, rfl, hR2, hip2, S2, hN2⟩; clear S; have S := S2.perm4; clear S2)
              | ((with_reducible refine (HERR.out _ _ _ _ (S.get (i := 1) rfl)).mono ?_); rintro e w3 ⟨rfl, rfl⟩))
            go_roundw
            case rel =>
              refine ⟨k + 1, R2, lG, X2 ++ X, by omega, by go_num, hip2, HLS2.out, S, fun j hj => (hN2 j hj).mono fun y hy => ?_, by rw [hR2]; exact HE4.out⟩
              simp only [List.mem_append, List.mem_cons] at hy ⊢
              rcases hy with hy | hy | hy | hy
              · exact .inr (.inr (.inl hy))
              · exact .inl hy
              · exact .inr (.inl hy)
              · exact .inr (.inr (.inr hy))
            case measure => simp [intOf]; omega
          · subst hx0
            have tx : (xG != 0) = true := by simpa using hx1
            have HFF := Lib.hid (show F = (5, zeroR []) by rw [← HE3.out, if_pos rfl, if_neg hx1])
            have HZL := Lib.hid (show z.size = (rcC (zeroR nilN)).size by rw [HZ.out])
            clear HE3 hx1
            go_wp2_with (first
              | ((with_reducible show wpList _ _ _ (Oper.mk _ (Op.load _ (Operand.tmp 54)) _ _ _ _ :: _) _ _); refine wpList_cellS rfl _ _ rfl S _ _ rfl 2 _ _ rfl _ Try.underlying52 rfl _ (by with_reducible exact hcell) ?_)
              | ((with_reducible refine (HGT.out _ S).mono ?_); rintro e w2 ⟨R2, X2, rfl, hR2, hip2, S2, hN2⟩; clear S; have S := S2.perm4; clear S2)
              | ((with_reducible refine (HERR.out _ _ _ _ (S.get (i := 1) rfl)).mono ?_); rintro e w3 ⟨rfl, rfl⟩)
              | ((with_reducible show wpList _ _ _ (Oper.mk _ (Op.store _ (Operand.tmp 10) _) _ _ _ _ :: _) _ _); refine wpList_storeS rfl _ _ _ rfl S _ rfl (rcC (zeroR nilN)) rfl 3 _ _ rfl (rcSize (R := zeroR nilN) rfl) HZL.out rc_one ?_; clear S; intro w1 S; simp only [List.set_cons_succ, List.set_cons_zero] at S))
            refine bodyPost_ret (results_cell2S rfl _ S _ 3 _ _ _ rfl rfl Try.underlying34 rfl (rcSize (R := zeroR nilN) rfl)) rfl ?_; exact rdGet_bad HFF.out S.below
        · have tx : (xe != 0) = true := by simpa using hx0
          have HFF := Lib.hid (show F = (xe, zeroR []) by rw [← HE3.out, if_neg hx0])
          have HZL := Lib.hid (show z.size = (rcC (zeroR nilN)).size by rw [HZ.out])
          clear HE3 hx0
          go_wp2_with (first
            | ((with_reducible show wpList _ _ _ (Oper.mk _ (Op.load _ (Operand.tmp 54)) _ _ _ _ :: _) _ _); refine wpList_cellS rfl _ _ rfl S _ _ rfl 2 _ _ rfl _ Try.underlying52 rfl _ (by with_reducible exact hcell) ?_)
            | ((with_reducible refine (HGT.out _ S).mono ?_); rintro e w2 ⟨R2, X2, rfl, hR2, hip2, S2, hN2⟩; clear S; have S := S2.perm4; clear S2)
            | ((with_reducible show wpList _ _ _ (Oper.mk _ (Op.store _ (Operand.tmp 10) _) _ _ _ _ :: _) _ _); refine wpList_storeS rfl _ _ _ rfl S _ rfl (rcC (zeroR nilN)) rfl 3 _ _ rfl (rcSize (R := zeroR nilN) rfl) HZL.out rc_one ?_; clear S; intro w1 S; simp only [List.set_cons_succ, List.set_cons_zero] at S))
          refine bodyPost_ret (results_cell2S rfl _ S _ 3 _ _ _ rfl rfl Try.underlying34 rfl (rcSize (R := zeroR nilN) rfl)) rfl ?_; exact rdGet_bad HFF.out S.below
      | nam j b =>
        have hcell : cs[k]? = some (.iface 68 (.agg #[.pointer (some ⟨ga, 21 + j, none⟩), .bool b])) := hcell
        have HGT := Lib.hid (fun w2 (S : Ats w.heap.size w w2 ((ga, 34, rcC R') :: (gy, 73, eyeC l 0) :: ((gp, 52, cs) :: (g10, 34, z) :: X))) => (show Calls Try.prog 55 #[.agg #[.pointer (some ⟨ga, 21 + j, none⟩), .bool b], .string M2, .pointer (some ⟨gy, 0, none⟩)] w2 (GetQ w.heap.size w ga gy ((gp, 52, cs) :: (g10, 34, z) :: X) ⟨xe, RG, lG, xG⟩) by rw [hG, HMM.out]; exact nameGet_any hip hN j b hpok M2 HM50.out hls S))
        clear hpok hip hls hN hG
        by_cases hx0 : xe = 0
        · by_cases hx1 : xG = 0
          · subst hx0 hx1
            have HE4 := Lib.hid (show getL m (ps.drop (k + 1)) RG lG 0 = F by rw [← HE3.out, if_pos rfl, if_pos rfl])
            clear HE3
            go_wp2_with (first
              | ((with_reducible show wpList _ _ _ (Oper.mk _ (Op.load _ (Operand.tmp 54)) _ _ _ _ :: _) _ _); refine wpList_cellS rfl _ _ rfl S _ _ rfl 2 _ _ rfl _ Try.underlying52 rfl _ (by with_reducible exact hcell) ?_)
              | ((with_reducible refine (HGT.out _ S).mono ?_); rintro e w2 ⟨R2, X2, rfl, hR2, hip2, S2, hN2⟩; clear S; have S := S2.perm4; clear S2)
              | ((with_reducible refine (HERR.out _ _ _ _ (S.get (i := 1) rfl)).mono ?_); rintro e w3 ⟨rfl, rfl⟩))
            go_roundw
            case rel =>
              refine ⟨k + 1, R2, lG, X2 ++ X, by omega, by go_num, hip2, HLS2.out, S, fun j hj => (hN2 j hj).mono fun y hy => ?_, by rw [hR2]; exact HE4.out⟩
              simp only [List.mem_append, List.mem_cons] at hy ⊢
              rcases hy with hy | hy | hy | hy
              · exact .inr (.inr (.inl hy))
              · exact .inl hy
              · exact .inr (.inl hy)
              · exact .inr (.inr (.inr hy))
            case measure => simp [intOf]; omega
          · subst hx0
            have tx : (xG != 0) = true := by simpa using hx1
            have HFF := Lib.hid (show F = (5, zeroR []) by rw [← HE3.out, if_pos rfl, if_neg hx1])
            have HZL := Lib.hid (show z.size = (rcC (zeroR nilN)).size by rw [HZ.out])
            clear HE3 hx1
            go_wp2_with (first
              | ((with_reducible show wpList _ _ _ (Oper.mk _ (Op.load _ (Operand.tmp 54)) _ _ _ _ :: _) _ _); refine wpList_cellS rfl _ _ rfl S _ _ rfl 2 _ _ rfl _ Try.underlying52 rfl _ (by with_reducible exact hcell) ?_)
              | ((with_reducible refine (HGT.out _ S).mono ?_); rintro e w2 ⟨R2, X2, rfl, hR2, hip2, S2, hN2⟩; clear S; have S := S2.perm4; clear S2)
              | ((with_reducible refine (HERR.out _ _ _ _ (S.get (i := 1) rfl)).mono ?_); rintro e w3 ⟨rfl, rfl⟩)
              | ((with_reducible show wpList _ _ _ (Oper.mk _ (Op.store _ (Operand.tmp 10) _) _ _ _ _ :: _) _ _); refine wpList_storeS rfl _ _ _ rfl S _ rfl (rcC (zeroR nilN)) rfl 3 _ _ rfl (rcSize (R := zeroR nilN) rfl) HZL.out rc_one ?_; clear S; intro w1 S; simp only [List.set_cons_succ, List.set_cons_zero] at S))
            refine bodyPost_ret (results_cell2S rfl _ S _ 3 _ _ _ rfl rfl Try.underlying34 rfl (rcSize (R := zeroR nilN) rfl)) rfl ?_; exact rdGet_bad HFF.out S.below
        · have tx : (xe != 0) = true := by simpa using hx0
          have HFF := Lib.hid (show F = (xe, zeroR []) by rw [← HE3.out, if_neg hx0])
          have HZL := Lib.hid (show z.size = (rcC (zeroR nilN)).size by rw [HZ.out])
          clear HE3 hx0
          go_wp2_with (first
            | ((with_reducible show wpList _ _ _ (Oper.mk _ (Op.load _ (Operand.tmp 54)) _ _ _ _ :: _) _ _); refine wpList_cellS rfl _ _ rfl S _ _ rfl 2 _ _ rfl _ Try.underlying52 rfl _ (by with_reducible exact hcell) ?_)
            | ((with_reducible refine (HGT.out _ S).mono ?_); rintro e w2 ⟨R2, X2, rfl, hR2, hip2, S2, hN2⟩; clear S; have S := S2.perm4; clear S2)
            | ((with_reducible show wpList _ _ _ (Oper.mk _ (Op.store _ (Operand.tmp 10) _) _ _ _ _ :: _) _ _); refine wpList_storeS rfl _ _ _ rfl S _ rfl (rcC (zeroR nilN)) rfl 3 _ _ rfl (rcSize (R := zeroR nilN) rfl) HZL.out rc_one ?_; clear S; intro w1 S; simp only [List.set_cons_succ, List.set_cons_zero] at S))
          refine bodyPost_ret (results_cell2S rfl _ S _ 3 _ _ _ rfl rfl Try.underlying34 rfl (rcSize (R := zeroR nilN) rfl)) rfl ?_; exact rdGet_bad HFF.out S.below
      | num j wd =>
        have hcell : cs[k]? = some (.iface 71 (.agg #[.pointer (some ⟨ga, 24 + j, none⟩), .int .i64 wd])) := hcell
        have HGT := Lib.hid (fun w2 (S : Ats w.heap.size w w2 ((ga, 34, rcC R') :: (gy, 73, eyeC l 0) :: ((gp, 52, cs) :: (g10, 34, z) :: X))) => (show Calls Try.prog 81 #[.agg #[.pointer (some ⟨ga, 24 + j, none⟩), .int .i64 wd], .string M2, .pointer (some ⟨gy, 0, none⟩)] w2 (GetQ w.heap.size w ga gy ((gp, 52, cs) :: (g10, 34, z) :: X) ⟨xe, RG, lG, xG⟩) by rw [hG, HMM.out]; exact numGet_any hip hN j wd hpok.1 M2 S))
        clear hpok hip hls hN hG
        by_cases hx0 : xe = 0
        · by_cases hx1 : xG = 0
          · subst hx0 hx1
            have HE4 := Lib.hid (show getL m (ps.drop (k + 1)) RG lG 0 = F by rw [← HE3.out, if_pos rfl, if_pos rfl])
            clear HE3
            go_wp2_with (first
              | ((with_reducible show wpList _ _ _ (Oper.mk _ (Op.load _ (Operand.tmp 54)) _ _ _ _ :: _) _ _); refine wpList_cellS rfl _ _ rfl S _ _ rfl 2 _ _ rfl _ Try.underlying52 rfl _ (by with_reducible exact hcell) ?_)
              | ((with_reducible refine (HGT.out _ S).mono ?_); rintro e w2 ⟨R2, X2, rfl, hR2, hip2, S2, hN2⟩; clear S; have S := S2.perm4; clear S2)
              | ((with_reducible refine (HERR.out _ _ _ _ (S.get (i := 1) rfl)).mono ?_); rintro e w3 ⟨rfl, rfl⟩))
            go_roundw
            case rel =>
              refine ⟨k + 1, R2, lG, X2 ++ X, by omega, by go_num, hip2, HLS2.out, S, fun j hj => (hN2 j hj).mono fun y hy => ?_, by rw [hR2]; exact HE4.out⟩
              simp only [List.mem_append, List.mem_cons] at hy ⊢
              rcases hy with hy | hy | hy | hy
              · exact .inr (.inr (.inl hy))
              · exact .inl hy
              · exact .inr (.inl hy)
              · exact .inr (.inr (.inr hy))
            case measure => simp [intOf]; omega
          · subst hx0
            have tx : (xG != 0) = true := by simpa using hx1
            have HFF := Lib.hid (show F = (5, zeroR []) by rw [← HE3.out, if_pos rfl, if_neg hx1])
            have HZL := Lib.hid (show z.size = (rcC (zeroR nilN)).size by rw [HZ.out])
            clear HE3 hx1
            go_wp2_with (first
              | ((with_reducible show wpList _ _ _ (Oper.mk _ (Op.load _ (Operand.tmp 54)) _ _ _ _ :: _) _ _); refine wpList_cellS rfl _ _ rfl S _ _ rfl 2 _ _ rfl _ Try.underlying52 rfl _ (by with_reducible exact hcell) ?_)
              | ((with_reducible refine (HGT.out _ S).mono ?_); rintro e w2 ⟨R2, X2, rfl, hR2, hip2, S2, hN2⟩; clear S; have S := S2.perm4; clear S2)
              | ((with_reducible refine (HERR.out _ _ _ _ (S.get (i := 1) rfl)).mono ?_); rintro e w3 ⟨rfl, rfl⟩)
              | ((with_reducible show wpList _ _ _ (Oper.mk _ (Op.store _ (Operand.tmp 10) _) _ _ _ _ :: _) _ _); refine wpList_storeS rfl _ _ _ rfl S _ rfl (rcC (zeroR nilN)) rfl 3 _ _ rfl (rcSize (R := zeroR nilN) rfl) HZL.out rc_one ?_; clear S; intro w1 S; simp only [List.set_cons_succ, List.set_cons_zero] at S))
            refine bodyPost_ret (results_cell2S rfl _ S _ 3 _ _ _ rfl rfl Try.underlying34 rfl (rcSize (R := zeroR nilN) rfl)) rfl ?_; exact rdGet_bad HFF.out S.below
        · have tx : (xe != 0) = true := by simpa using hx0
          have HFF := Lib.hid (show F = (xe, zeroR []) by rw [← HE3.out, if_neg hx0])
          have HZL := Lib.hid (show z.size = (rcC (zeroR nilN)).size by rw [HZ.out])
          clear HE3 hx0
          go_wp2_with (first
            | ((with_reducible show wpList _ _ _ (Oper.mk _ (Op.load _ (Operand.tmp 54)) _ _ _ _ :: _) _ _); refine wpList_cellS rfl _ _ rfl S _ _ rfl 2 _ _ rfl _ Try.underlying52 rfl _ (by with_reducible exact hcell) ?_)
            | ((with_reducible refine (HGT.out _ S).mono ?_); rintro e w2 ⟨R2, X2, rfl, hR2, hip2, S2, hN2⟩; clear S; have S := S2.perm4; clear S2)
            | ((with_reducible show wpList _ _ _ (Oper.mk _ (Op.store _ (Operand.tmp 10) _) _ _ _ _ :: _) _ _); refine wpList_storeS rfl _ _ _ rfl S _ rfl (rcC (zeroR nilN)) rfl 3 _ _ rfl (rcSize (R := zeroR nilN) rfl) HZL.out rc_one ?_; clear S; intro w1 S; simp only [List.set_cons_succ, List.set_cons_zero] at S))
          refine bodyPost_ret (results_cell2S rfl _ S _ 3 _ _ _ rfl rfl Try.underlying34 rfl (rcSize (R := zeroR nilN) rfl)) rfl ?_; exact rdGet_bad HFF.out S.below
    · obtain rfl : k = n := by omega
      have hnil : ps.drop k = [] := List.drop_eq_nil_of_le (by rw [HN.out]; exact Nat.le_refl _)
      rw [hnil] at hE'
      have hE2 : (if l = [] ∧ (0 : Int) = 0 then (0, R'.tx) else (5, zeroR [])) = F := hE'
      have HSZ := Lib.hid (rcSize hip)
      have hzsz : z.size = (rcC R').size := by rw [rc_size hip, HZ.out]; rfl
      have HZS := Lib.hid hzsz
      clear hnil hE' hlt hzsz
      by_cases hl : l = []
      · have HFF := Lib.hid (show F = (0, R'.tx) by rw [← hE2, if_pos ⟨hl, rfl⟩])
        have HEN := Lib.hid (show ∀ w, EyeAt w gy l 0 → Calls Try.prog 16 #[.pointer (some ⟨gy, 0, none⟩)] w fun e w' => e = .returned (.int .i64 0) ∧ w = w' from fun w h => by
          have := HEND.out gy l w h
          rw [show ocEnd l 0 = 0 by unfold ocEnd; rw [if_neg (by decide), if_pos hl]] at this
          exact this)
        have HN2 := Lib.hid hN
        have HIP := Lib.hid hip
        clear hE2 hl hN hip
        go_wp2_with (first
          | ((with_reducible refine (HEN.out _ (S.get (i := 1) rfl)).mono ?_); rintro e w2 ⟨rfl, rfl⟩)
          | ((with_reducible show wpList _ _ _ (Oper.mk _ (Op.load _ (Operand.tmp 12)) _ _ _ _ :: _) _ _); refine wpList_loadS rfl _ _ rfl S _ rfl 0 _ _ rfl _ Try.underlying34 rfl HSZ.out ?_)
          | ((with_reducible show wpList _ _ _ (Oper.mk _ (Op.store _ (Operand.tmp 10) _) _ _ _ _ :: _) _ _); refine wpList_storeS rfl _ _ _ rfl S _ rfl _ rfl 3 _ _ rfl HSZ.out HZS.out rc_one ?_; clear S; intro w1 S; simp only [List.set_cons_succ, List.set_cons_zero] at S))
        refine bodyPost_ret (results_cell2S rfl _ S _ 3 _ _ _ rfl rfl Try.underlying34 rfl HSZ.out) rfl ⟨R', by rw [HFF.out]; rfl, by rw [HFF.out], HIP.out, X, S.drop ?_, fun j hj => (HN2.out j hj).fall fun y hy ht => ?_⟩
        · exact (((List.sublist_cons_self _ X).trans (List.sublist_cons_self _ _)).trans (List.sublist_cons_self _ _)).trans (List.sublist_cons_self _ _)
        · simp only [List.mem_cons] at hy
          rcases hy with rfl | rfl | hy
          · exact absurd (show (52 : TypeId) = 9 from ht) (by decide)
          · exact absurd (show (34 : TypeId) = 9 from ht) (by decide)
          · exact hy
      · have HFF := Lib.hid (show F = (5, zeroR []) by rw [← hE2, if_neg (fun h => hl h.1)])
        have HEN := Lib.hid (show ∀ w, EyeAt w gy l 0 → Calls Try.prog 16 #[.pointer (some ⟨gy, 0, none⟩)] w fun e w' => e = .returned (.int .i64 2) ∧ w = w' from fun w h => by
          have := HEND.out gy l w h
          rw [show ocEnd l 0 = 2 by unfold ocEnd; rw [if_neg (by decide), if_neg hl]] at this
          exact this)
        have HZL := Lib.hid (show z.size = (rcC (zeroR nilN)).size by rw [HZ.out])
        clear hE2 hl hN hip HSZ HZS
        go_wp2_with (first
          | ((with_reducible refine (HEN.out _ (S.get (i := 1) rfl)).mono ?_); rintro e w2 ⟨rfl, rfl⟩)
          | ((with_reducible show wpList _ _ _ (Oper.mk _ (Op.store _ (Operand.tmp 10) _) _ _ _ _ :: _) _ _); refine wpList_storeS rfl _ _ _ rfl S _ rfl (rcC (zeroR nilN)) rfl 3 _ _ rfl (rcSize (R := zeroR nilN) rfl) HZL.out rc_one ?_; clear S; intro w1 S; simp only [List.set_cons_succ, List.set_cons_zero] at S))
        refine bodyPost_ret (results_cell2S rfl _ S _ 3 _ _ _ rfl rfl Try.underlying34 rfl (rcSize (R := zeroR nilN) rfl)) rfl ?_; exact rdGet_bad HFF.out S.below
end Go.Proofs.Ytnoabmkmnddkkaa
namespace Go.Proofs.Ytnoabmkmnddkkaa
open Go.RowKit Go
set_option linter.unusedVariables false
set_option linter.unusedSimpArgs false
set_option maxRecDepth 100000
set_option maxHeartbeats 4000000 in
theorem rdGet_any (msg : ByteArray) (hM : msg.size ≤ 50000000) (at_ n kind class_ : Int) (w : World) :
    Calls Try.prog 8 #[.string msg, .int .i64 at_, .int .i64 n, .int .i64 kind, .int .i64 class_] w (RdGetP (rGet msg.data.toList at_ n kind class_) w) := by
  have hml : msg.data.toList.length = msg.size := by rw [Array.length_toList]; rfl
  by_cases h : at_ < 0 ∨ n < 0 ∨ (msg.size : Int) < at_ ∨ (msg.size : Int) - at_ < n
  · have hF : rGet msg.data.toList at_ n kind class_ = (4, zeroR []) := by
      unfold rGet
      rw [hml, if_pos h]
    have HF := Lib.hid hF
    have S := Ats.start w
    obtain ⟨F, hFF⟩ : ∃ F, F = rGet msg.data.toList at_ n kind class_ := ⟨_, rfl⟩
    rw [← hFF] at HF ⊢
    clear hml hF hFF
    have HSUB := Lib.hid (show 0 ≤ at_ → ¬ (msg.size : Int) < at_ → wrap64 ((msg.size : Int) - at_) = (msg.size : Int) - at_ from fun h1 h2 => by go_arith)
    by_cases h1 : at_ < 0
    · have d0 : decide (at_ < 0) = true := decide_eq_true h1
      clear h h1
      go_enter Try.func8, Try.ntmps8
      go_wp2_with (first
        | ((with_reducible show wpList _ _ _ (Oper.mk (some 10) (Op.alloc _) _ _ _ _ :: _) _ _); refine wpList_allocS rfl _ rfl _ rcZero S ?_; clear S; intro g10 w1 S)
        | ((with_reducible show wpList _ _ _ (Oper.mk _ (Op.store _ (Operand.tmp 10) _) _ _ _ _ :: _) _ _); refine wpList_storeS rfl _ _ _ rfl S _ rfl (rcC (zeroR nilN)) rfl 0 _ _ rfl (rcSize (R := zeroR nilN) rfl) rfl rc_one ?_; clear S; intro w1 S; simp only [List.set_cons_succ, List.set_cons_zero] at S))
      refine bodyPost_ret (results_cell2S rfl _ S _ 0 _ _ _ rfl rfl Try.underlying34 rfl (rcSize (R := zeroR nilN) rfl)) rfl ?_; exact rdGet_bad HF.out S.below
    · have d0 : decide (at_ < 0) = false := decide_eq_false h1
      by_cases h2 : n < 0
      · have d1 : decide (n < 0) = true := decide_eq_true h2
        clear h h1 h2
        go_enter Try.func8, Try.ntmps8
        go_wp2_with (first
          | ((with_reducible show wpList _ _ _ (Oper.mk (some 10) (Op.alloc _) _ _ _ _ :: _) _ _); refine wpList_allocS rfl _ rfl _ rcZero S ?_; clear S; intro g10 w1 S)
          | ((with_reducible show wpList _ _ _ (Oper.mk _ (Op.store _ (Operand.tmp 10) _) _ _ _ _ :: _) _ _); refine wpList_storeS rfl _ _ _ rfl S _ rfl (rcC (zeroR nilN)) rfl 0 _ _ rfl (rcSize (R := zeroR nilN) rfl) rfl rc_one ?_; clear S; intro w1 S; simp only [List.set_cons_succ, List.set_cons_zero] at S))
        refine bodyPost_ret (results_cell2S rfl _ S _ 0 _ _ _ rfl rfl Try.underlying34 rfl (rcSize (R := zeroR nilN) rfl)) rfl ?_; exact rdGet_bad HF.out S.below
      · have d1 : decide (n < 0) = false := decide_eq_false h2
        by_cases h3 : (msg.size : Int) < at_
        · have d2 : decide (at_ > (msg.size : Int)) = true := decide_eq_true h3
          have d3 : decide ((msg.size : Int) < at_) = true := decide_eq_true h3
          clear h h1 h2 h3
          go_enter Try.func8, Try.ntmps8
          go_wp2_with (first
            | ((with_reducible show wpList _ _ _ (Oper.mk (some 10) (Op.alloc _) _ _ _ _ :: _) _ _); refine wpList_allocS rfl _ rfl _ rcZero S ?_; clear S; intro g10 w1 S)
            | ((with_reducible show wpList _ _ _ (Oper.mk _ (Op.store _ (Operand.tmp 10) _) _ _ _ _ :: _) _ _); refine wpList_storeS rfl _ _ _ rfl S _ rfl (rcC (zeroR nilN)) rfl 0 _ _ rfl (rcSize (R := zeroR nilN) rfl) rfl rc_one ?_; clear S; intro w1 S; simp only [List.set_cons_succ, List.set_cons_zero] at S))
          refine bodyPost_ret (results_cell2S rfl _ S _ 0 _ _ _ rfl rfl Try.underlying34 rfl (rcSize (R := zeroR nilN) rfl)) rfl ?_; exact rdGet_bad HF.out S.below
        · have d2 : decide (at_ > (msg.size : Int)) = false := decide_eq_false h3
          have d3 : decide ((msg.size : Int) < at_) = false := decide_eq_false h3
          have h4 : (msg.size : Int) - at_ < n := by omega
          obtain ⟨p, rfl⟩ : ∃ p : Nat, at_ = (p : Int) := ⟨at_.toNat, by omega⟩
          have hp : p ≤ msg.size := by omega
          have d4 : decide (n > (msg.size : Int) - p) = true := decide_eq_true h4
          have d5 : decide ((msg.size : Int) - p < n) = true := decide_eq_true h4
          clear h h1 h2 h3 h4
          go_enter Try.func8, Try.ntmps8
          go_wp2_with (first
            | ((with_reducible show wpList _ _ _ (Oper.mk (some 10) (Op.alloc _) _ _ _ _ :: _) _ _); refine wpList_allocS rfl _ rfl _ rcZero S ?_; clear S; intro g10 w1 S)
            | ((with_reducible show wpList _ _ _ (Oper.mk _ (Op.store _ (Operand.tmp 10) _) _ _ _ _ :: _) _ _); refine wpList_storeS rfl _ _ _ rfl S _ rfl (rcC (zeroR nilN)) rfl 0 _ _ rfl (rcSize (R := zeroR nilN) rfl) rfl rc_one ?_; clear S; intro w1 S; simp only [List.set_cons_succ, List.set_cons_zero] at S))
          refine bodyPost_ret (results_cell2S rfl _ S _ 0 _ _ _ rfl rfl Try.underlying34 rfl (rcSize (R := zeroR nilN) rfl)) rfl ?_; exact rdGet_bad HF.out S.below
  · obtain ⟨p, rfl⟩ : ∃ p : Nat, at_ = (p : Int) := ⟨at_.toNat, by omega⟩
    obtain ⟨q, rfl⟩ : ∃ q : Nat, n = (q : Int) := ⟨n.toNat, by omega⟩
    exact rdGet_core msg hM p q (by omega) kind class_ w
end Go.Proofs.Ytnoabmkmnddkkaa
namespace Go.Proofs.Ytnoabmkmnddkkaa
open Go.RowKit Go
set_option linter.unusedVariables false
set_option linter.unusedSimpArgs false
set_option maxRecDepth 100000
def abL : Lbs := [[97], [98]]
def exT : Rc Lbs := { zeroR ([] : Lbs) with ty := 33, cl := 1, nu := fun k => if k = 0 then 10 else if k = 1 then 20 else if k = 2 then 5060 else 0, nm := fun k => if k = 1 then abL else [] }
def exO : List UInt8 := [0, 10, 0, 20, 19, 196, 1, 97, 1, 98, 0]
theorem exRec : recE exT = 0 := by decide +kernel
theorem exPut : octL false exT (rParts exT.ty exT.cl) 0 [] = (exO, []) := by
  have h1 : rParts exT.ty exT.cl = [.num 0 2, .num 1 2, .num 2 2, .nam 1 false] := rfl
  rw [h1]
  have h2 : (octL false exT [.num 0 2, .num 1 2, .num 2 2, .nam 1 false] 0 []).1 = exO := by decide +kernel
  have h3 : (octL false exT [.num 0 2, .num 1 2, .num 2 2, .nam 1 false] 0 []).2 = [] := rfl
  exact Prod.ext h2 h3
theorem exGet13 : ∃ Q, rGet exO 0 11 33 1 = (0, Q) ∧ Q.nu 2 = 5060 ∧ Q.nm 1 = abL := by
  have h0 : TInv [] [] := fun n to h => by simp at h
  obtain ⟨_, Q, h1, h2⟩ := rec_back false (R := exT) rfl exRec h0 (fun _ => rfl) exPut
  exact ⟨Q, h1, h2.2.2.2.2.2.1 2 (by decide), h2.2.2.2.1⟩
def exR (g : Nat) : Rc Nm := { zeroR nilN with ty := 33, cl := 1, nu := fun k => if k = 0 then 10 else if k = 1 then 20 else if k = 2 then 5060 else 0, nm := fun k => if k = 1 then ⟨some ⟨g, 0, none⟩, 2, 2, abL⟩ else nilN }
theorem exR_tx (g : Nat) : (exR g).tx = exT := by
  have : (fun k => ((exR g).nm k).l) = exT.nm := by
    funext k
    show (if k = 1 then (⟨some ⟨g, 0, none⟩, 2, 2, abL⟩ : Nm) else nilN).l = if k = 1 then abL else []
    split <;> rfl
  show ({ exR g with nm := fun k => ((exR g).nm k).l } : Rc Lbs) = exT
  rw [this]
  rfl
theorem exR_in {w : World} {g : Nat} (h : TextsAt w (some ⟨g, 0, none⟩) 2 abL) : RcIn w (exR g) := by
  refine ⟨rfl, fun k hk => ?_⟩
  show TextsAt w (if k = 1 then (⟨some ⟨g, 0, none⟩, 2, 2, abL⟩ : Nm) else nilN).A (if k = 1 then (⟨some ⟨g, 0, none⟩, 2, 2, abL⟩ : Nm) else nilN).n (if k = 1 then (⟨some ⟨g, 0, none⟩, 2, 2, abL⟩ : Nm) else nilN).l ∧ sizeL (if k = 1 then (⟨some ⟨g, 0, none⟩, 2, 2, abL⟩ : Nm) else nilN).l ≤ 401
  split
  · exact ⟨h, show sizeL abL ≤ 401 by decide⟩
  · exact ⟨textsAt_nil w, by decide⟩
theorem ab_texts {w : World} {g : Nat} (h : At w g 9 #[.string ⟨#[97]⟩, .string ⟨#[98]⟩]) : TextsAt w (some ⟨g, 0, none⟩) 2 abL := by
  refine ⟨rfl, fun _ => ⟨g, 0, rfl, h.lt, fun j hj => ?_⟩⟩
  have hj2 : j < 2 := hj
  match j, hj2 with
  | 0, _ => exact h.cells 0 rfl
  | 1, _ => exact h.cells 1 rfl
set_option maxHeartbeats 4000000 in
theorem works13_any (w : World) : Calls Try.prog 4 #[] w fun e w' => e = .returned (.bool true) ∧ Below w.heap.size w w' := by
  have S := (Ats.start w).add 9 #[.string ⟨#[97]⟩, .string ⟨#[98]⟩]
  obtain ⟨g0, hg0⟩ : ∃ g, g = w.heap.size := ⟨_, rfl⟩
  have HP := Lib.hid (show ∀ w1, At w1 w.heap.size 9 #[.string ⟨#[97]⟩, .string ⟨#[98]⟩] → Calls Try.prog 7 #[.agg (rcC (exR w.heap.size)), .int .i64 0, .pointer none] w1 fun e w' => e = .returned (.tuple #[.string ⟨#[0, 10, 0, 20, 19, 196, 1, 97, 1, 98, 0]⟩, .int .i64 0]) ∧ Below w1.heap.size w1 w' from fun w1 h => by
    have := rdPutN_any (exR w.heap.size) w1 w1 (exR_in (ab_texts h)) (Below.refl _ _) 0 (by decide) (by decide)
    rw [exR_tx, exRec, if_pos rfl] at this
    have e : (octL false exT (rParts (exR w.heap.size).ty (exR w.heap.size).cl) 0 []).1 = exO := congrArg Prod.fst exPut
    rw [e] at this
    exact this)
  have HG := Lib.hid (show ∀ w1, Calls Try.prog 8 #[.string ⟨#[0, 10, 0, 20, 19, 196, 1, 97, 1, 98, 0]⟩, .int .i64 0, .int .i64 11, .int .i64 33, .int .i64 1] w1 fun e w' => ∃ (Q : Rc Nm) (A : Option Addr) (c : Nat) (X : List (Nat × TypeId × Array Value)), e = .returned (.tuple #[rcV Q, .int .i64 0]) ∧ Q.ip.length = 16 ∧ Q.nu 2 = 5060 ∧ Q.nm 1 = ⟨A, 2, c, abL⟩ ∧ Ats w1.heap.size w1 w' X ∧ RowIn X ⟨A, 2, c, abL⟩ from fun w1 => by
    refine (rdGet_any ⟨#[0, 10, 0, 20, 19, 196, 1, 97, 1, 98, 0]⟩ (by decide) 0 11 33 1 w1).mono ?_
    rintro e w' ⟨Q, rfl, hQ, hip, X, hX, hr⟩
    obtain ⟨Q2, h1, h2, h3⟩ := exGet13
    have e1 : rGet (⟨#[0, 10, 0, 20, 19, 196, 1, 97, 1, 98, 0]⟩ : ByteArray).data.toList 0 11 33 1 = (0, Q2) := h1
    rw [e1] at hQ ⊢
    have hn := hr 1 (by decide)
    have hl : (Q.nm 1).l = abL := by rw [← h3]; exact congrFun (congrArg Rc.nm hQ) 1
    have hnu : Q.nu 2 = 5060 := by rw [← h2]; exact congrFun (congrArg Rc.nu hQ) 2
    have hnn := hn.1
    obtain ⟨y, hy⟩ : ∃ y, y = Q.nm 1 := ⟨_, rfl⟩
    rw [← hy] at hn hl hnn
    obtain ⟨A, n, c, l⟩ := y
    have hl : l = abL := hl
    subst hl
    have hnn : n = 2 := hnn
    subst hnn
    exact ⟨Q, A, c, X, rfl, hip, hnu, hy.symm, hX, hn⟩)
  have HX := Lib.hid (show ∀ w' A c, TextsAt w' A 2 abL → TextsAt w' (some ⟨w.heap.size, 0, none⟩) 2 abL → Calls Try.prog 10 #[.slice A 2 c, .slice (some ⟨w.heap.size, 0, none⟩) 2 2] w' fun e w2 => e = .returned (.bool true) ∧ Below w'.heap.size w' w2 from fun w' A c h1 h2 => by
    have := refExactX_any A (some ⟨w.heap.size, 0, none⟩) 2 2 c 2 abL abL w' h1 h2 (by decide) (by decide)
    rw [decide_eq_true rfl] at this
    exact this)
  have d1 : (rcC (exR w.heap.size))[22]? = some (.slice (some ⟨w.heap.size, 0, none⟩) 2 2) := rfl
  have hs1 : (rcC (exR w.heap.size)).size = 33 := rfl
  obtain ⟨x, hx⟩ : ∃ x, x = rcC (exR w.heap.size) := ⟨_, rfl⟩
  rw [← hx] at HP d1 hs1
  have HXX := Lib.hid hx
  have HS1 := Lib.hid (show (Try.prog.info? 34).map (·.size) = some x.size by rw [hs1]; kernel_rfl)
  have hzz : (rcV (zeroR nilN)).cells.size = 33 := rfl
  have HZ33 := Lib.hid hzz
  have HS33 := Lib.hid hs1
  clear hx hs1 hzz hg0
  go_enter Try.func4, Try.ntmps4
  go_wp2_with (first
    | ((with_reducible show wpList _ _ _ (Oper.mk (some 1) (Op.alloc _) _ _ _ _ :: _) _ _); refine wpList_allocS rfl _ rfl _ rcZero S ?_; clear S; intro g1 w1 S)
    | ((with_reducible show wpList _ _ _ (Oper.mk _ (Op.store _ (Operand.tmp 1) _) _ _ _ _ :: _) _ _); refine wpList_storeS rfl _ _ _ rfl S _ rfl x (by rw [HXX.out]; rfl) 0 _ _ rfl HS1.out (by rw [HZ33.out, HS33.out]) (by rw [HXX.out]; exact rc_one) ?_; clear S; intro w1 S; simp only [List.set_cons_succ, List.set_cons_zero] at S)
    | ((with_reducible show wpList _ _ _ (Oper.mk _ (Op.load _ (Operand.tmp 1)) _ _ _ _ :: _) _ _); refine wpList_loadS rfl _ _ rfl S _ rfl 0 _ _ rfl _ Try.underlying34 rfl HS1.out ?_)
    | ((with_reducible refine (HP.out _ (S.get (i := 1) rfl)).mono ?_); rintro e w2 ⟨rfl, hb⟩; have S := S.call hb; clear hb)
    | ((with_reducible refine (HG.out _).mono ?_); rintro e w3 ⟨Q, A, c, X, rfl, hip, hnu, hnm, hX, hrow⟩; have S := (S.join hX).perm List.perm_append_comm; have HROW := Lib.hid hrow; have HIP := Lib.hid (rcSize hip); have q26 := rc_nu hip 2 (by decide); have q22 := rc_nm1 hip; rw [hnu] at q26; rw [hnm] at q22; have HQS := Lib.hid (rc_size hip); clear hrow hX hip hnu hnm)
    | ((with_reducible show wpList _ _ _ (Oper.mk (some 4) (Op.alloc _) _ _ _ _ :: _) _ _); refine wpList_allocS rfl _ rfl _ rcZero S ?_; clear S; intro g4 w1 S)
    | ((with_reducible show wpList _ _ _ (Oper.mk _ (Op.store _ (Operand.tmp 4) _) _ _ _ _ :: _) _ _); refine wpList_storeS rfl _ _ _ rfl S _ rfl (rcC Q) rfl 0 _ _ rfl HIP.out (by rw [HZ33.out, HQS.out]) rc_one ?_; clear S; intro w1 S; simp only [List.set_cons_succ, List.set_cons_zero] at S)
    | ((with_reducible show wpList _ _ _ (Oper.mk _ (Op.load _ (Operand.tmp 31)) _ _ _ _ :: _) _ _); refine wpList_cellS rfl _ _ rfl S _ _ rfl 0 _ _ rfl _ Try.underlying3 rfl (.int .i64 5060) q26 ?_)
    | ((with_reducible show wpList _ _ _ (Oper.mk _ (Op.load _ (Operand.tmp 36)) _ _ _ _ :: _) _ _); refine wpList_cellS rfl _ _ rfl S _ _ rfl 0 _ _ rfl _ Try.underlying28 rfl (.slice A 2 c) q22 ?_)
    | ((with_reducible show wpList _ _ _ (Oper.mk _ (Op.load _ (Operand.tmp 38)) _ _ _ _ :: _) _ _); refine wpList_cellS rfl _ _ rfl S _ _ rfl 1 _ _ rfl _ Try.underlying28 rfl _ d1 ?_)
    | ((with_reducible refine (HX.out _ _ _ ((HROW.out.mono fun y hy => by simp [hy]).texts S) (ab_texts (S.get (i := 2) rfl))).mono ?_); rintro e w5 ⟨rfl, hb⟩; have S := S.call hb; clear hb))
  go_ret
  exact ⟨rfl, S.below⟩
end Go.Proofs.Ytnoabmkmnddkkaa
