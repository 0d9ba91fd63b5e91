/- Layer 4: the document's host's label; which points fit. -/
import Derived.Test.YtkgnhdebphaknaaDoorLabel
namespace Go.Proofs.YtkgnhdebphaknaaDoor
open Go.RowKit Go
set_option linter.unusedVariables false
theorem refHost_any (s : ByteArray) (w : World) (hs : s.size ≤ 9223372036854775807) : Calls Tryd.prog 10 #[.string s] w fun e w' => e = .returned (.bool (hostB s.data.toList)) ∧ w = w' := by
  by_cases h0 : s.size < 1
  · have hno := host_nil s (by omega)
    have HNO := Lib.hid hno
    clear hno
    go_enter Tryd.func10, Tryd.ntmps10
    go_wp2
    all_goals (go_ret; exact ⟨ret_bool HNO.out.symm, rfl⟩)
  by_cases h1 : 63 < s.size
  · have hno := host_long s h1
    have HNO := Lib.hid hno
    clear hno
    go_enter Tryd.func10, Tryd.ntmps10
    go_wp2
    all_goals (go_ret; exact ⟨ret_bool HNO.out.symm, rfl⟩)
  have hb0 : ((s[0]'(by omega)).toNat : Int) ≤ 255 := by have := (s[0]'(by omega)).toNat_lt; omega
  have hb9 : ((s[s.size - 1]'(by omega)).toNat : Int) ≤ 255 := by have := (s[s.size - 1]'(by omega)).toNat_lt; omega
  by_cases h2 : (s[0]'(by omega)).toNat = 45
  · have hno := host_first s (by omega) h2
    have HNO := Lib.hid hno
    clear hno
    have e2 : (((s[0]'(by omega)).toNat : Int) == 45) = true := by simp; omega
    go_enter Tryd.func10, Tryd.ntmps10
    go_wp2
    all_goals (go_ret; exact ⟨ret_bool HNO.out.symm, rfl⟩)
  have e2 : (((s[0]'(by omega)).toNat : Int) == 45) = false := by simp; omega
  by_cases h3 : (s[s.size - 1]'(by omega)).toNat = 45
  · have hno := host_last s (by omega) h3
    have HNO := Lib.hid hno
    clear hno
    have e3 : (((s[s.size - 1]'(by omega)).toNat : Int) == 45) = true := by simp; omega
    go_enter Tryd.func10, Tryd.ntmps10
    go_wp2
    all_goals (go_ret; exact ⟨ret_bool HNO.out.symm, rfl⟩)
  have e3 : (((s[s.size - 1]'(by omega)).toNat : Int) == 45) = false := by simp; omega
  go_enter Tryd.func10, Tryd.ntmps10
  go_wp2
  go_loop [3] (fun i => ∃ k : Nat, k ≤ s.size ∧ i = .int .i64 k ∧ Hid (∀ c ∈ s.data.toList.take k, ldhB c = true)) (fun i => s.size - (intOf i).toNat)
  case atStart => exact ⟨0, Nat.zero_le _, rfl, Lib.hid (by simp)⟩
  case round =>
    obtain ⟨k, hk, rfl, hall⟩ := hrel
    by_cases hlt : k < s.size
    · have hb : (s[k].toNat : Int) ≤ 255 := by have := s[k].toNat_lt; omega
      cases hp : plainB (s[k].toNat : Int) with
      | false =>
        have hbig := host_bad s k hlt hp
        have HBIG := Lib.hid hbig
        clear hbig
        go_wp2_with fail
        ((with_reducible refine (refPlain_any _ _).mono ?_))
        rintro e w2 ⟨rfl, rfl⟩
        rw [hp]
        go_wp2
        go_ret
        exact ⟨ret_bool HBIG.out.symm, rfl⟩
      | true =>
        have hall2 := host_step s k hlt hall.out hp
        have HALL := Lib.hid hall2
        clear hall2
        go_wp2_with fail
        ((with_reducible refine (refPlain_any _ _).mono ?_))
        rintro e w2 ⟨rfl, rfl⟩
        rw [hp]
        go_wp2
        go_round
        case rel => exact ⟨k + 1, by omega, by go_num, HALL⟩
        case measure => simp [intOf]; omega
    · obtain rfl : k = s.size := by omega
      have hno := host_end s (by omega) (by omega) h2 h3 hall.out
      have HNO := Lib.hid hno
      clear hno
      go_wp2
      go_ret
      exact ⟨ret_bool HNO.out.symm, rfl⟩
/- which points fit -/
theorem fit_false {l : List Int} (h : ¬ (l.getD 0 0 ≠ 45 ∧ l.getD (l.length - 1) 0 ≠ 45 ∧ ∀ c ∈ l, ptOk c = true)) : fitB l = false := by
  cases hh : fitB l with
  | false => rfl
  | true => exact absurd ((fitB_iff l).1 hh) h
theorem getD_at {l : List Int} {k : Nat} (hk : k < l.length) : l.getD k 0 = l[k] := by
  rw [List.getD_eq_getElem?_getD, List.getElem?_eq_getElem hk]; rfl
theorem fit_first {l : List Int} (h : l.getD 0 0 = 45) : fitB l = false := fit_false fun a => a.1 h
theorem fit_last {l : List Int} (h : l.getD (l.length - 1) 0 = 45) : fitB l = false := fit_false fun a => a.2.1 h
theorem fit_bad {l : List Int} {k : Nat} (hk : k < l.length) (h : ptOk l[k] = false) : fitB l = false := fit_false fun a => by
  have := a.2.2 _ (List.getElem_mem hk)
  rw [h] at this
  cases this
theorem fit_step {l : List Int} {k : Nat} (hk : k < l.length) (ha : ∀ c ∈ l.take k, ptOk c = true) (h : ptOk l[k] = true) : ∀ c ∈ l.take (k + 1), ptOk c = true := by
  rw [List.take_succ_eq_append_getElem hk]
  intro c hc
  rcases List.mem_append.1 hc with hc | hc
  · exact ha c hc
  · obtain rfl := List.mem_singleton.1 hc
    exact h
theorem fit_end {l : List Int} (h1 : l.getD 0 0 ≠ 45) (h2 : l.getD (l.length - 1) 0 ≠ 45) (ha : ∀ c ∈ l.take l.length, ptOk c = true) : fitB l = true := by
  rw [List.take_length] at ha
  exact (fitB_iff l).2 ⟨h1, h2, ha⟩
theorem ptOk_small {x : Int} (h : x < 128) : ptOk x = plainB x := by
  apply Bool.eq_iff_iff.2
  rw [ptOk_iff]
  constructor
  · intro a; exact a.1 h
  · intro a; exact ⟨fun _ => a, by omega, by omega, by omega⟩
theorem ptOk_big {x : Int} (h : ¬ x < 128) : ptOk x = !dotB x := by
  unfold ptOk dotB
  simp [h]
theorem dot_small {x : Int} (h : x < 128) : dotB x = false := by
  unfold dotB
  simp
  omega
theorem fit_ends {A : Option Addr} {n : Nat} {l : List Int} {w : World} (hl : IntsAt w .i32 A n l) (hn0 : 0 < n) : ∃ b o, A = some ⟨b, o, none⟩ ∧ w.cell? ⟨b, o, none⟩ = some (.int .i32 (l.getD 0 0)) ∧ w.cell? ⟨b, o + (n - 1), none⟩ = some (.int .i32 (l.getD (l.length - 1) 0)) ∧ ∀ j (h : j < l.length), w.cell? ⟨b, o + j, none⟩ = some (.int .i32 l[j]) := by
  have hlen := hl.1
  obtain ⟨b, o, rfl, hb, hcell⟩ := hl.2 hn0
  refine ⟨b, o, rfl, ?_, ?_, hcell⟩
  · rw [getD_at (by omega)]; exact hcell 0 (by omega)
  · subst hlen; rw [getD_at (by omega)]; exact hcell (l.length - 1) (by omega)
set_option maxRecDepth 100000 in
theorem fit_any (A : Option Addr) (n c : Nat) (l : List Int) (w : World) (hl : IntsAt w .i32 A n l) (hn : n ≤ 4000) (hn0 : 0 < n) :
    Calls Tryd.prog 28 #[.slice A n c] w fun e w' => e = .returned (.bool (fitB l)) ∧ w = w' := by
  have HLEN := Lib.hid hl.1
  obtain ⟨b, o, rfl, q0, q9, hcell⟩ := fit_ends hl hn0
  have HC := Lib.hid hcell
  obtain ⟨x0, e0⟩ : ∃ x, x = l.getD 0 0 := ⟨_, rfl⟩
  obtain ⟨x9, e9⟩ : ∃ x, x = l.getD (l.length - 1) 0 := ⟨_, rfl⟩
  rw [← e0] at q0
  rw [← e9] at q9
  have E0 := Lib.hid e0
  have E9 := Lib.hid e9
  clear hl hcell e0 e9
  by_cases h2 : x0 = 45
  · have hno := fit_first (l := l) (by rw [← E0.out]; exact h2)
    have HNO := Lib.hid hno
    clear hno
    have e2 : (x0 == 45) = true := by simp; omega
    go_enter Tryd.func28, Tryd.ntmps28
    go_wp2
    all_goals (go_ret; exact ⟨ret_bool HNO.out.symm, rfl⟩)
  have e2 : (x0 == 45) = false := by simp; omega
  by_cases h3 : x9 = 45
  · have hno := fit_last (l := l) (by rw [← E9.out]; exact h3)
    have HNO := Lib.hid hno
    clear hno
    have e3 : (x9 == 45) = true := by simp; omega
    go_enter Tryd.func28, Tryd.ntmps28
    go_wp2
    all_goals (go_ret; exact ⟨ret_bool HNO.out.symm, rfl⟩)
  have e3 : (x9 == 45) = false := by simp; omega
  have HN2 := Lib.hid h2
  have HN3 := Lib.hid h3
  clear h2 h3
  go_enter Tryd.func28, Tryd.ntmps28
  go_wp2
  go_loop [20] (fun i => ∃ k : Nat, k ≤ n ∧ i = .int .i64 k ∧ Hid (∀ c ∈ l.take k, ptOk c = true)) (fun i => n - (intOf i).toNat)
  case atStart => exact ⟨0, Nat.zero_le _, rfl, Lib.hid (by simp)⟩
  case round =>
    obtain ⟨k, hk, rfl, hall⟩ := hrel
    by_cases hlt : k < n
    · have hkl : k < l.length := by have := HLEN.out; omega
      have h1 := HC.out k hkl
      have hbad := fit_bad hkl
      have hgo := fit_step hkl hall.out
      obtain ⟨x, hxe⟩ : ∃ x, x = l[k] := ⟨_, rfl⟩
      rw [← hxe] at h1 hbad hgo
      have HBAD := Lib.hid hbad
      have HGO := Lib.hid hgo
      clear hxe hbad hgo
      by_cases hx : x < 128
      · have hd := dot_small hx
        have hok := ptOk_small hx
        cases hp : plainB x with
        | false =>
          have hno := HBAD.out (by rw [hok, hp])
          have HNO := Lib.hid hno
          clear hok hno hd
          go_wp2_with fail
          ((with_reducible refine (common_any _ _).mono ?_))
          rintro e w2 ⟨rfl, rfl⟩
          rw [hp]
          go_wp2
          go_ret
          exact ⟨ret_bool HNO.out.symm, rfl⟩
        | true =>
          have hall2 := HGO.out (by rw [hok, hp])
          have HALL := Lib.hid hall2
          clear hall2 hok
          go_wp2_with fail
          ((with_reducible refine (common_any _ _).mono ?_))
          rintro e w2 ⟨rfl, rfl⟩
          rw [hp]
          go_wp2_with fail
          ((with_reducible refine (dot_any _ _).mono ?_))
          rintro e w2 ⟨rfl, rfl⟩
          rw [hd]
          go_wp2
          go_round
          case rel => exact ⟨k + 1, by omega, by go_num, HALL⟩
          case measure => simp [intOf]; omega
      · have hok := ptOk_big hx
        have hx2 : 128 ≤ x := by omega
        cases hp : dotB x with
        | true =>
          have hno := HBAD.out (by rw [hok, hp]; rfl)
          have HNO := Lib.hid hno
          clear hok hno
          go_wp2_with fail
          ((with_reducible refine (dot_any _ _).mono ?_))
          rintro e w2 ⟨rfl, rfl⟩
          rw [hp]
          go_wp2
          go_ret
          exact ⟨ret_bool HNO.out.symm, rfl⟩
        | false =>
          have hall2 := HGO.out (by rw [hok, hp]; rfl)
          have HALL := Lib.hid hall2
          clear hall2 hok
          go_wp2_with fail
          ((with_reducible refine (dot_any _ _).mono ?_))
          rintro e w2 ⟨rfl, rfl⟩
          rw [hp]
          go_wp2
          go_round
          case rel => exact ⟨k + 1, by omega, by go_num, HALL⟩
          case measure => simp [intOf]; omega
    · have hkn : k = n := by omega
      have hno := fit_end (l := l) (by rw [← E0.out]; exact HN2.out) (by rw [← E9.out]; exact HN3.out) (by rw [← HLEN.out, ← hkn]; exact hall.out)
      have HNO := Lib.hid hno
      clear hno
      go_wp2
      go_ret
      exact ⟨ret_bool HNO.out.symm, rfl⟩
end Go.Proofs.YtkgnhdebphaknaaDoor
