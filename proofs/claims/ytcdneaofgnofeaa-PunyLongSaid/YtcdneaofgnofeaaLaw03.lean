import Derived.Test.YtcdneaofgnofeaaPuny16
import Derived.Test.YtcdneaofgnofeaaPuny8
import Derived.Deep.QuietTactic
import Derived.BigQuiet
import Derived.WalkSmall
namespace Go.Proofs.Ytcdneaofgnofeaa
open Go.RowKit Go
set_option linter.unusedVariables false
set_option maxHeartbeats 1000000 in
theorem ints_any (A : Option Addr) (n c : Nat) (l : List Int) (w : World) (hl : IntsAt w .i32 A n l) (hn : n ≤ 100000) (hx : ∀ x ∈ l, -2147483648 ≤ x ∧ x ≤ 2147483647) :
    Calls Try.prog 11 #[.slice A n c] w fun e w' => (∃ B d, e = .returned (.slice B n d) ∧ IntsAt w' .i64 B n l) ∧ Below w.heap.size w w' := by
  have HLEN := Lib.hid hl.1
  go_enter Try.func11, Try.ntmps11
  go_wp2_with fail
  go_loopw [3, 4] (fun v i wr => ∃ k : Nat, k ≤ n ∧ i = .int .i64 k ∧ wr.ownsRow w.heap.size 3 1 v k (intVs .i64 (l.take k)) ∧ Below w.heap.size w wr) (fun _ i _ => n - (intOf i).toNat)
  case atStart => exact ⟨0, Nat.zero_le _, rfl, World.ownsRow_nil _ _ _ _, Below.refl _ _⟩
  case round =>
    obtain ⟨k, hk, rfl, hown, HB⟩ := hrel
    by_cases hlt : k < n
    · obtain ⟨b, o, rfl, hb, hcell⟩ := hl.2 (by omega)
      have hkl : k < l.length := by have := HLEN.out; omega
      have h1 := hcell k hkl
      rw [← HB.cell (p := ⟨b, o + k, none⟩) hb] at h1
      have hxk := hx l[k] (List.getElem_mem _)
      have htk := List.take_succ_eq_append_getElem hkl
      obtain ⟨x, hxe⟩ : ∃ x, x = l[k] := ⟨_, rfl⟩
      rw [← hxe] at h1 hxk htk
      have HT := Lib.hid htk
      have hlk : (l.take k).length ≤ k := List.length_take_le _ _
      have hwz := HB.size
      clear htk hxe hcell hl hx
      obtain ⟨x0, x1⟩ := hxk
      go_wp2_with (at_builtin; refine wpList_app1 rfl (.tmp 11) (.tmp 17) 28 3 rfl Try.underlying28 elemInt rfl w.heap.size _ k _ _ rfl rfl hown rfl (by omega) (by omega) hwz ?_)
      intro v' w2 hown2 HB2 hne
      have hown3 := own_appInt1 hown2
      rw [← HT.out] at hown3
      clear hown2 hown
      go_wp2_with fail
      go_roundw
      case rel => exact ⟨k + 1, by omega, by go_num, hown3, HB.trans HB2⟩
      case measure => simp [intOf]; omega
    · rw [List.take_of_length_le (by have := HLEN.out; omega)] at hown
      obtain rfl : n = k := by omega
      obtain ⟨B, d, rfl, hat⟩ := IntsAt.of_own hown
      clear hl
      go_wp2_with fail
      go_ret
      exact ⟨⟨B, d, rfl, hat⟩, HB⟩
set_option maxHeartbeats 1000000 in
theorem sameInts_any (A B : Option Addr) (n m c d : Nat) (la lb : List Int) (w : World) (ha : IntsAt w .i64 A n la) (hb : IntsAt w .i64 B m lb) (hn : n ≤ 100000) (hm : m ≤ 100000) :
    Calls Try.prog 14 #[.slice A n c, .slice B m d] w fun e w' => e = .returned (.bool (decide (la = lb))) ∧ Below w.heap.size w w' := by
  by_cases hnm : n = m
  · subst hnm
    go_enter Try.func14, Try.ntmps14
    go_wp2_with fail
    go_loopw [5] (fun i wr => ∃ k : Nat, k ≤ n ∧ i = .int .i64 k ∧ la.take k = lb.take k ∧ Below w.heap.size w wr) (fun i _ => n - (intOf i).toNat)
    case atStart => exact ⟨0, Nat.zero_le _, rfl, rfl, Below.refl _ _⟩
    case round =>
      obtain ⟨k, hk, rfl, htk, HB⟩ := hrel
      by_cases hlt : k < n
      · obtain ⟨ba, oa, rfl, hba, hca⟩ := ha.2 (by omega)
        obtain ⟨bb, ob, rfl, hbb, hcb⟩ := hb.2 (by omega)
        have h1 := hca k (by have := ha.1; omega)
        have h2 := hcb k (by have := hb.1; omega)
        rw [← HB.cell (p := ⟨ba, oa + k, none⟩) hba] at h1
        rw [← HB.cell (p := ⟨bb, ob + k, none⟩) hbb] at h2
        have ka : k < la.length := by have := ha.1; omega
        have kb : k < lb.length := by have := hb.1; omega
        have hne := fun e => ints_ne ka kb e
        have hse := fun e => ints_step htk ka kb e
        have HN := Lib.hid hne; clear hne
        have HS := Lib.hid hse; clear hse
        obtain ⟨x, hx⟩ : ∃ x, x = la[k] := ⟨_, rfl⟩
        obtain ⟨y, hy⟩ : ∃ y, y = lb[k] := ⟨_, rfl⟩
        rw [← hx] at h1 HN HS
        rw [← hy] at h2 HN HS
        clear hx hy hca hcb ka kb htk ha hb
        by_cases hxy : x = y
        · have HX := Lib.hid hxy
          subst hxy
          go_wp2_with fail
          go_quiet (fail)
          go_wp2_with fail
          go_roundw
          case rel => exact ⟨k + 1, by omega, by go_num, HS.out trivial, HB.trans (below_drewN (Below.refl _ _) _)⟩
          case measure => simp [intOf]; omega
        · have hxy' : (x != y) = true := by simpa using hxy
          go_wp2_with fail
          go_quiet (fail)
          go_wp2_with fail
          go_ret
          exact ⟨ret_bool (decide_eq_false (HN.out hxy)).symm, HB.trans (below_drewN (Below.refl _ _) _)⟩
      · have he : la = lb := by
          have h1 := ha.1
          have h2 := hb.1
          rw [List.take_of_length_le (by omega), List.take_of_length_le (by omega)] at htk
          exact htk
        have HE := Lib.hid he; clear he htk
        go_wp2_with fail
        go_ret
        exact ⟨ret_bool (decide_eq_true HE.out).symm, HB⟩
  · have hne : la ≠ lb := by
      intro e
      have h1 := ha.1
      have h2 := hb.1
      rw [e] at h1; omega
    go_enter Try.func14, Try.ntmps14
    go_wp2_with fail
    go_ret
    exact ⟨ret_bool (decide_eq_false hne).symm, Below.refl _ _⟩
theorem figs_ex : figs 745 1 72 = [107, 118, 97] := by
  rw [figs_go (by decide), figs_go (by decide), figs_end (by decide)]
  decide +kernel
theorem enc_ex : encE [98, 252, 99, 104, 101, 114] = ([98, 99, 104, 101, 114, 45, 107, 118, 97], 0) := by
  refine encE_ok (by decide) (by decide) ?_
  have h1 : leastI [98, 252, 99, 104, 101, 114] 128 = 252 := by decide
  have h2 : hyp (basL [98, 252, 99, 104, 101, 114]) = [98, 99, 104, 101, 114, 45] := by decide +kernel
  have h3 : ((basL [98, 252, 99, 104, 101, 114]).length : Int) = 5 := by decide +kernel
  unfold encO
  rw [h2, h3]
  have hr : rnd (leastI [98, 252, 99, 104, 101, 114] 128) 5 [98, 252, 99, 104, 101, 114] ([98, 99, 104, 101, 114, 45], 0 + (leastI [98, 252, 99, 104, 101, 114] 128 - 128) * (5 + 1), 72, 5) = some ([98, 99, 104, 101, 114, 45, 107, 118, 97], 4, adp 745 6 true, 6) := by
    rw [h1]
    rw [rnd_pass (by decide) (by decide), rnd_put (by decide) (by decide), rnd_pass (by decide) (by decide), rnd_pass (by decide) (by decide), rnd_pass (by decide) (by decide), rnd_pass (by decide) (by decide)]
    have e : upS 252 252 (upS 252 98 (0 + (252 - 128) * (5 + 1))) = 745 := by decide
    simp only [e, figs_ex]
    simp [rnd]
    decide
  rw [encL_go (by decide) hr]
  exact encL_end (by decide)
theorem dec_ex : decE [66, 99, 104, 101, 114, 45, 75, 86, 65] = ([66, 252, 99, 104, 101, 114], 0) := by
  rw [decE_go (by decide) (by decide +kernel) (by decide +kernel)]
  have h1 : preL [66, 99, 104, 101, 114, 45, 75, 86, 65] = [66, 99, 104, 101, 114] := by decide +kernel
  have h2 : ([66, 99, 104, 101, 114, 45, 75, 86, 65] : List UInt8).drop (hyf [66, 99, 104, 101, 114, 45, 75, 86, 65]) = [75, 86, 65] := by decide +kernel
  have h3 : ptsL [66, 99, 104, 101, 114] = [66, 99, 104, 101, 114] := by decide +kernel
  rw [h1, h2, h3]
  have hn : numb 72 [75, 86, 65] 1 0 1 = (0, 745, []) := by decide +kernel
  have hp : putS 745 ([66, 99, 104, 101, 114], 128, 0, 72, true) = (0, ([66, 252, 99, 104, 101, 114], 252, 2, adp 745 6 true, false)) := by
    rw [putS_ok (by decide) (by decide) (by decide)]
    refine Prod.ext rfl (Prod.ext (by decide) (Prod.ext (by decide) (Prod.ext (by decide) (Prod.ext ?_ rfl))))
    rfl
  obtain ⟨f', h4, _, _⟩ := decL_go (f := 9) (by decide) (by simp) hn hp
  rw [show ([66, 99, 104, 101, 114, 45, 75, 86, 65] : List UInt8).length = 9 from rfl, h4, decL_end]
theorem intsAt_new (w : World) (q : IntKind) (e : TypeId) (l : List Int) (n : Nat) (hn : n = l.length) : IntsAt (w.alloc (.cells (intVs q l).toArray e)) q (some ⟨w.heap.size, 0, none⟩) n l := by
  refine ⟨hn, fun _ => ⟨_, 0, rfl, by simp, fun j hj => ?_⟩⟩
  rw [Nat.zero_add, World.cell?_alloc_mark]
  simp [intVs, hj]
set_option maxRecDepth 100000 in
set_option maxHeartbeats 4000000 in
theorem works03_any (w : World) : Calls Try.prog 8 #[] w fun e w' => e = .returned (.bool true) ∧ Below w.heap.size w w' := by
  have ha := intsAt_new w .i32 21 [98, 252, 99, 104, 101, 114] 6 rfl
  have h1 := encode_any _ _ 6 6 [98, 252, 99, 104, 101, 114] ha (by omega) (by decide)
  rw [enc_ex] at h1
  have hl1 : (intVs .i32 [98, 252, 99, 104, 101, 114]).toArray = #[.int .i32 98, .int .i32 252, .int .i32 99, .int .i32 104, .int .i32 101, .int .i32 114] := rfl
  have hl2 : (intVs .i64 [66, 252, 99, 104, 101, 114]).toArray = #[.int .i64 66, .int .i64 252, .int .i64 99, .int .i64 104, .int .i64 101, .int .i64 114] := rfl
  have h2 := fun w => decode_any ⟨#[66, 99, 104, 101, 114, 45, 75, 86, 65]⟩ w (by decide)
  have hdx : decE (⟨#[66, 99, 104, 101, 114, 45, 75, 86, 65]⟩ : ByteArray).data.toList = ([66, 252, 99, 104, 101, 114], 0) := dec_ex
  unfold DecP at h2
  simp only [hdx] at h2
  rw [hl1] at h1
  have H1 := Lib.hid h1
  have H2 := Lib.hid h2
  have HB0 := Lib.hid ((Below.refl w.heap.size w).alloc (Nat.le_refl _) (.cells (intVs .i32 [98, 252, 99, 104, 101, 114]).toArray 21))
  have hsz : w.heap.size ≤ (w.alloc (.cells (intVs .i32 [98, 252, 99, 104, 101, 114]).toArray 21)).heap.size := by simp
  have HSZ := Lib.hid hsz
  rw [hl1] at HB0 HSZ
  have HL2 := Lib.hid hl2
  clear ha h1 h2 hdx hsz hl1 hl2
  go_enter Try.func8, Try.ntmps8
  go_wp2_with fail
  ((with_reducible refine H1.out.mono ?_))
  rintro e w1 ⟨rfl, hb1⟩
  have HB1 := HB0.out.trans (hb1.mono HSZ.out)
  clear hb1
  go_wp2_with fail
  ((with_reducible refine (H2.out _).mono ?_))
  rintro e w2 ⟨hb2, A, c, rfl, hat⟩
  have HB2 := HB1.trans (hb2.mono HB1.size)
  clear hb2
  go_wp2_with fail
  ((with_reducible refine (ints_any A 6 c [66, 252, 99, 104, 101, 114] _ hat (by omega) (by decide)).mono ?_))
  rintro e w3 ⟨⟨C, d, rfl, hat3⟩, hb3⟩
  have HB3 := HB2.trans (hb3.mono HB2.size)
  have hn4 := intsAt_new w3 .i64 3 [66, 252, 99, 104, 101, 114] 6 rfl
  have hb4 := HB3.alloc HB3.size (.cells (intVs .i64 [66, 252, 99, 104, 101, 114]).toArray 3)
  have hat4 := hat3.below ((Below.refl w3.heap.size w3).alloc (Nat.le_refl _) (.cells (intVs .i64 [66, 252, 99, 104, 101, 114]).toArray 3))
  rw [HL2.out] at hn4 hb4 hat4
  have HN4 := Lib.hid hn4
  have HB4 := Lib.hid hb4
  have HAT4 := Lib.hid hat4
  clear hn4 hb4 hat4 hb3 hat hat3
  go_wp2_with fail
  ((with_reducible refine (sameInts_any C _ 6 6 d 6 [66, 252, 99, 104, 101, 114] [66, 252, 99, 104, 101, 114] _ HAT4.out HN4.out (by omega) (by omega)).mono ?_))
  rintro e w5 ⟨rfl, hb5⟩
  rw [decide_eq_true rfl]
  go_wp2_with fail
  go_ret
  exact ⟨rfl, HB4.out.trans (hb5.mono HB4.out.size)⟩
end Go.Proofs.Ytcdneaofgnofeaa
