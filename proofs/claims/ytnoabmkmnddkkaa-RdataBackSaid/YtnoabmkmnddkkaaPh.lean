/- Texts behind a law of this seat, in order: MemKept. -/
import Derived.Test.YtnoabmkmnddkkaaPa
import Derived.Test.YtnoabmkmnddkkaaPb
import Derived.Test.YtnoabmkmnddkkaaPc
import Derived.Test.YtnoabmkmnddkkaaPd
import Derived.Test.YtnoabmkmnddkkaaPg
import Derived.Below
import Derived.ChangeSlices
import Derived.Deep.AppendLies
import Derived.Deep.Draws
import Derived.Deep.RegionLaw
import Derived.Great.Ranges
import Derived.Handed
import Derived.Laws.OwnMore
import Derived.Laws.Rows
import Derived.Lib.Strings
import Derived.Maps.OwnSet
import Derived.SizedLaws
import Derived.SliceStrings
import Derived.WalkKit
import Derived.WalkLawsBesides
import Derived.WalkSpells
/- What a call leaves alone: all blocks but one, and those of one kind. -/
namespace Go.Proofs.Ytnoabmkmnddkkaa
open Go.RowKit Go
set_option linter.unusedVariables false
def isRowO (t : TypeId) : Obj → Bool
  | .cells _ t' _ => t' == t
  | _ => false
def isMapO : Obj → Bool
  | .map _ _ => true
  | _ => false
/-- all that is neither block g nor of the kind p stays -/
structure Kept (p : Obj → Bool) (g : Nat) (w w' : World) : Prop where
  size : w.heap.size ≤ w'.heap.size
  block : ∀ i < w.heap.size, i ≠ g → (∀ ob, w.heap[i]? = some ob → p ob = false) → w'.heap[i]? = w.heap[i]?
theorem own_slice_of {w : World} {base e s n : Nat} {v : Value} {xs : List Value} (h : w.ownsRow base e s v n xs) : ∃ A c, v = .slice A n c := by
  rcases h.2 with ⟨rfl, rfl⟩ | ⟨g, cap, cur, rfl, _⟩
  · exact ⟨_, _, rfl⟩
  · exact ⟨_, _, rfl⟩
theorem own_belowX {w w' : World} {base e s n : Nat} {v : Value} {xs : List Value} (ho : w.ownsRow base e s v n xs) (hb : Below w.heap.size w w') : w'.ownsRow base e s v n xs := by
  refine ⟨ho.1, ?_⟩
  rcases ho.2 with h0 | ⟨g', cap, cur, hv, hB, hg, hr⟩
  · exact .inl h0
  · exact .inr ⟨g', cap, cur, hv, hB, (hb.block g' (Array.getElem?_eq_some_iff.1 hg).1).trans hg, hr⟩
section
variable {p : Obj → Bool} {g : Nat} {w w' w'' : World}
theorem Kept.refl (w : World) : Kept p g w w := ⟨Nat.le_refl _, fun _ _ _ _ => rfl⟩
theorem Kept.trans (h : Kept p g w w') (k : Kept p g w' w'') : Kept p g w w'' :=
  ⟨Nat.le_trans h.size k.size, fun i hi hg hp => by
    have e := h.block i hi hg hp
    exact (k.block i (Nat.lt_of_lt_of_le hi h.size) hg (fun ob ho => hp ob (by rw [← e]; exact ho))).trans e⟩
theorem Kept.below (hb : Below w.heap.size w w') : Kept p g w w' := ⟨hb.size, fun i hi _ _ => hb.block i hi⟩
theorem Kept.at_ (hb : w.grownBy w' (some g)) : Kept p g w w' := ⟨hb.size, fun i hi hg _ => hb.block i hi (fun e => hg (by injection e))⟩
theorem Kept.non (hb : w.grownBy w' none) : Kept p g w w' := ⟨hb.size, fun i hi hg _ => hb.block i hi (by simp)⟩
theorem Kept.drew : Kept p g w w.drew := ⟨Nat.le_refl _, fun _ _ _ _ => rfl⟩
theorem Kept.put (i : Nat) (v : Value) : Kept p g w (w.setCell ⟨g, i, none⟩ v) := Kept.at_ (grown_setCell w ⟨g, i, none⟩ v)
theorem Kept.row {e base s n : Nat} {v : Value} {xs : List Value} (ho : w.ownsRow base e s v n xs) (hb : w.grownBy w' v.ownBlock) : Kept (isRowO e) g w w' := by
  refine ⟨hb.size, fun i hi hg hp => hb.block i hi fun h => ?_⟩
  rcases ho.2 with ⟨rfl, _⟩ | ⟨g', cap, cur, rfl, _, hh, _⟩
  · simp [Value.ownBlock] at h
  · have : g' = i := by simpa [Value.ownBlock] using h.symm
    subst this
    have := hp _ hh
    simp [isRowO] at this
theorem Kept.map {b : Nat} {es : Array MapEntry} {c : Nat} (hm : w.heap[b]? = some (.map es c)) (hb : w.grownBy w' (some b)) : Kept isMapO g w w' := by
  refine ⟨hb.size, fun i hi hg hp => hb.block i hi fun h => ?_⟩
  injection h with h
  subst h
  exact absurd (hp _ hm) (by simp [isMapO])
theorem At.kept {g' : Nat} {t : TypeId} {cs : Array Value} (h : At w g' t cs) (hk : Kept p g w w') (hne : g' ≠ g) (hp : p (.cells cs t (0, 0)) = false) : At w' g' t cs :=
  (hk.block g' h.lt hne (fun ob ho => by unfold At at h; rw [h] at ho; injection ho with ho; rw [← ho]; exact hp)).trans h
theorem own_kept {base e s n : Nat} {v : Value} {xs : List Value} (ho : w.ownsRow base e s v n xs) (hk : Kept p g w w') (hne : v.ownBlock ≠ some g) (hp : ∀ cur, p (.cells cur e (0, 0)) = false) : w'.ownsRow base e s v n xs := by
  refine ⟨ho.1, ?_⟩
  rcases ho.2 with h0 | ⟨g', cap, cur, rfl, hB, hg, hr⟩
  · exact .inl h0
  · refine .inr ⟨g', cap, cur, rfl, hB, ?_, hr⟩
    exact (hk.block g' (Array.getElem?_eq_some_iff.1 hg).1 (fun e => hne (by simp [Value.ownBlock, e])) (fun ob ho => by rw [hg] at ho; injection ho with ho; rw [← ho]; exact hp cur)).trans hg
theorem map_kept {H : Type} {P : Program} {k : TypeId} {R : Value → Option (DataW H × List MemPlace)} {b n : Nat} {D : DataW H} (h : w.ownsMap P k R b n D) (hk : Kept p g w w') (hne : b ≠ g) (hp : ∀ es c, p (.map es c) = false) : w'.ownsMap P k R b n D := by
  have hlt := h.lt
  obtain ⟨es, clock, hb, F, hs, hD⟩ := h
  exact ⟨es, clock, (hk.block b hlt hne (fun ob ho => by rw [hb] at ho; injection ho with ho; rw [← ho]; exact hp es clock)).trans hb, F, hs, hD⟩
theorem map_ne {H : Type} {P : Program} {k : TypeId} {R : Value → Option (DataW H × List MemPlace)} {b n : Nat} {D : DataW H} (h : w.ownsMap P k R b n D) {g' : Nat} {t : TypeId} {cs : Array Value} (ha : At w g' t cs) : b ≠ g' := by
  obtain ⟨es, clock, hb, _⟩ := h
  intro e
  subst e
  unfold At at ha
  rw [hb] at ha
  cases ha
theorem row_ne {base e s n : Nat} {v : Value} {xs : List Value} (ho : w.ownsRow base e s v n xs) {g' : Nat} {t : TypeId} {cs : Array Value} (ha : At w g' t cs) (hne : e ≠ t) : v.ownBlock ≠ some g' := by
  rcases ho.2 with ⟨rfl, _⟩ | ⟨g'', cap, cur, rfl, _, hh, _⟩
  · simp [Value.ownBlock]
  · intro he
    have : g'' = g' := by simpa [Value.ownBlock] using he
    subst this
    unfold At at ha
    rw [hh] at ha
    injection ha with h
    injection h with _ ht
    exact hne ht
end
/-- 'p.f = append(p.f, x)' in a region that draws its order, x of s cells -/
theorem step_appS {P : Program} {ops : Array Oper} {o : Oper} {a : Act} {K : Act → World → Prop} {Q : Exit → Act → World → Prop} {E : Prop} {w0 : World} (hgd : o.guard = none) (sl x : Operand) (t e : TypeId)
    (ho : o.op = .call { callee := .builtin .append, args := #[sl, x], argTypes := #[t, t] }) (ht : P.underlying t = some (.slice e)) {z : Value} {bytes s : Nat} (hI : (P.info? e).map (fun i => (i.zero, i.size, i.bytes)) = some (some z, s, bytes)) (hzs : z.cells.size = s) (hs0 : 0 < s)
    (B : Nat) (v : Value) (n : Nat) (xs : List Value) (us : List Value) (hul : us.length = s) (hs : a.eval sl = v) (hx : a.eval x = .slice (some ⟨w0.heap.size, 0, none⟩) 1 1) (hown : w0.ownsRow B e s v n xs)
    (hu : ∀ u ∈ us, u.oneCell' = true) (hb : (n + 1) * bytes ≤ 140737488355328) (hn : n + 1 ≤ 140737488355328) (hbase : B ≤ w0.heap.size)
    (h : ∀ v' w1, w1.ownsRow B e s v' (n + 1) (xs ++ us) → w0.grownBy w1 v.ownBlock → K (a.put o.dst v') w1) :
    if Region.wanted o (yielded ops a.tmps) = true then Oper.wp P o a ((w0.alloc (.cells us.toArray e)).drew) K Q else E := by
  obtain ⟨i0, hi0, hz, h1, h2⟩ := info_parts hI
  refine step_append_lies _ hgd sl x t ho B e i0 z s bytes ht hi0 hz h1 h2 hzs hs0 v n xs hs ((hown.alloc _).drew) ⟨w0.heap.size, 0, none⟩ 1 1 us hx (by rw [hul, Nat.one_mul])
    (World.news_of_block (cs := us.toArray) (t := e) (fr := (0, 0)) (by exact heap_alloc_new w0 _)) hu (by decide) (by unfold maxLen; omega) hb (by simp; omega) (w0.heap.size + 1) (by simp) ?_
  intro gg cap w1 hown1 hgrow _ _
  refine h _ w1 hown1 ⟨hgrow.os, hgrow.tape, hgrow.output, Nat.le_trans (by simp) hgrow.size, fun i hi hne => ?_⟩
  exact (hgrow.block i (by simp; omega) hne).trans (Below.heap_alloc w0 _ i hi)
theorem ats_row {B : Nat} {w0 w w' : World} {L : List (Nat × TypeId × Array Value)} (S : Ats B w0 w L) {e s n : Nat} {v : Value} {xs : List Value} (ho : w.ownsRow B e s v n xs) (hg : w.grownBy w' v.ownBlock) (hne : ∀ y ∈ L, e ≠ y.2.1) : Ats B w0 w' L :=
  ⟨S.below.grown hg S.big (fun k hk => (ho.lt k hk).1), Nat.le_trans S.big hg.size, fun y hy => ⟨(S.at_ y hy).1, (S.at_ y hy).2.grown hg (row_ne ho (S.at_ y hy).2 (hne y hy))⟩, S.apart⟩
theorem At.own_ne_s {w : World} {g : Nat} {t : TypeId} {cs : Array Value} {B e s n : Nat} {v : Value} {xs : List Value} (h : At w g t cs) (ho : w.ownsRow B e s v n xs) (hne : e ≠ t) : v.ownBlock ≠ some g := row_ne ho h hne
theorem own_putS {w : World} {B e s n g i t : Nat} {v u : Value} {xs : List Value} {cs : Array Value} (ho : w.ownsRow B e s v n xs) (h : At w g t cs) (hne : e ≠ t) : (w.setCell ⟨g, i, none⟩ u).ownsRow B e s v n xs := by
  have hn := row_ne ho h hne
  refine ⟨ho.1, ?_⟩
  rcases ho.2 with h0 | ⟨g', cap, cur, hv, hB, hg, hr⟩
  · exact .inl h0
  · refine .inr ⟨g', cap, cur, hv, hB, ?_, hr⟩
    rw [Below.heap_setCell w ⟨g, i, none⟩ u g' ?_]
    · exact hg
    · rintro rfl
      exact hn (by rw [hv]; simp [Value.ownBlock])
theorem below_new (w : World) (ob : Obj) : Below w.heap.size w (w.alloc ob) := (Below.refl _ _).alloc (Nat.le_refl _) _
theorem bl {a w w' : World} (h : Below a.heap.size a w) (k : Below w.heap.size w w') : Below a.heap.size a w' := h.trans (k.mono h.size)
theorem Ats.born {B : Nat} {w0 w w' : World} {L : List (Nat × TypeId × Array Value)} (S : Ats B w0 w L) {g : Nat} {t : TypeId} {cs : Array Value} (hg : w.heap.size ≤ g) (ha : At w' g t cs) (hb : Below w.heap.size w w') : Ats B w0 w' ((g, t, cs) :: L) := by
  have S2 := S.call hb
  refine ⟨S2.below, S2.big, fun x h => ?_, ?_⟩
  · rcases List.mem_cons.1 h with rfl | h
    · exact ⟨Nat.le_trans S.big hg, ha⟩
    · exact S2.at_ x h
  · rw [List.map_cons, List.nodup_cons]
    refine ⟨fun h => ?_, S.apart⟩
    obtain ⟨x, hx, he⟩ := List.mem_map.1 h
    have := (S.at_ x hx).2.lt
    simp only at he
    omega
theorem Ats.join {B : Nat} {w0 w w' : World} {L L2 : List (Nat × TypeId × Array Value)} (S : Ats B w0 w L) (S2 : Ats w.heap.size w w' L2) : Ats B w0 w' (L2 ++ L) := by
  refine ⟨S.below.trans (S2.below.mono S.big), Nat.le_trans S.big S2.below.size, fun x hx => ?_, ?_⟩
  · rcases List.mem_append.1 hx with h | h
    · exact ⟨Nat.le_trans S.big (S2.at_ x h).1, (S2.at_ x h).2⟩
    · exact (S.call S2.below).at_ x h
  · rw [List.map_append, List.nodup_append]
    refine ⟨S2.apart, S.apart, fun a ha b hb e => ?_⟩
    obtain ⟨x, hx, rfl⟩ := List.mem_map.1 ha
    obtain ⟨y, hy, rfl⟩ := List.mem_map.1 hb
    have h1 := (S2.at_ x hx).1
    have h2 := (S.at_ y hy).2.lt
    omega
end Go.Proofs.Ytnoabmkmnddkkaa
