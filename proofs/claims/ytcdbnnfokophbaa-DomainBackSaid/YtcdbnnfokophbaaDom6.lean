/- Names read: the document's Parse. -/
import Derived.Test.YtcdbnnfokophbaaDom5
namespace Go.Proofs.Ytcdbnnfokophbaa
open Go.RowKit Go
set_option linter.unusedVariables false
theorem own_apart {w : World} {B e1 e2 n1 n2 : Nat} {v1 v2 : Value} {x1 x2 : List Value} (h1 : w.ownsRow B e1 1 v1 n1 x1) (h2 : w.ownsRow B e2 1 v2 n2 x2) (hne : e1 ≠ e2) : v1.ownBlock = none ∨ v1.ownBlock ≠ v2.ownBlock := by
  rcases h1.2 with ⟨rfl, _⟩ | ⟨g1, c1, r1, rfl, _, hg1, _⟩
  · exact .inl rfl
  · right
    rcases h2.2 with ⟨rfl, _⟩ | ⟨g2, c2, r2, rfl, _, hg2, _⟩
    · simp [Value.ownBlock]
    · intro he
      have : g1 = g2 := by simpa [Value.ownBlock] using he
      subst this
      rw [hg1] at hg2
      injection hg2 with h
      injection h with _ ht
      exact hne ht
/-- 'out = append(out, x)', x of one cell, laid right ahead; rows of other element types stay -/
theorem wpList_app1k {P : Program} {w0 : World} {ops : Array Oper} {rest : List Oper} {o : Oper} {a : Act} {Q : Exit → Act → World → Prop} (hgd : o.guard = none) (s x : Operand) (t e : TypeId)
    (ho : o.op = .call { callee := .builtin .append, args := #[s, x], argTypes := #[t, t] }) (ht : P.underlying t = some (.slice e)) {z : Value} {bytes : Nat} (hI : Elem1 P e z bytes) (hzs : z.cells.size = 1)
    (base : Nat) (v : Value) (n : Nat) (xs : List Value) (u : Value) (hs : a.eval s = v) (hx : a.eval x = .slice (some ⟨w0.heap.size, 0, none⟩) 1 1) (hown : w0.ownsRow base e 1 v n xs)
    (hu : u.oneCell' = true) (hb : (n + 1) * bytes ≤ 140737488355328) (hn : n + 1 ≤ 140737488355328) (hbase : base ≤ w0.heap.size)
    (h : ∀ v' w', w'.ownsRow base e 1 v' (n + 1) (xs ++ [u]) → Below base w0 w' → (∀ e2 v2 n2 x2, e2 ≠ e → w0.ownsRow base e2 1 v2 n2 x2 → w'.ownsRow base e2 1 v2 n2 x2) → wpList P ops Q rest (a.put o.dst v') w') : wpList P ops Q (o :: rest) a (w0.alloc (.cells #[u] e)) := by
  obtain ⟨i, hi, hz, h1, h2⟩ := info_parts hI
  refine wpList_append_own (w0.alloc (.cells #[u] e)) hgd s x t ho base e i z 1 bytes ht hi hz h1 h2 hzs (by decide) v n xs hs (hown.alloc _) ⟨w0.heap.size, 0, none⟩ 1 1 [u] hx rfl ?_ ?_ ?_ hb ?_ ?_
  · intro j y hj
    match j, hj with
    | 0, hj => simp at hj; subst hj; simp [Addr.add]
  · intro y hy; simp at hy; subst hy; exact hu
  · unfold maxLen; omega
  · simp; omega
  · intro v' w' hown' hgrow hnil
    refine h v' w' hown' ?_ (fun e2 v2 n2 x2 hne h2 => ?_)
    · refine ((Below.refl base w0).alloc hbase _).grown hgrow (by simp; omega) (fun k hk => ?_)
      exact (hown.lt k hk).1
    · exact (h2.alloc _).kept hgrow (own_apart h2 hown hne)
def EscP (s : ByteArray) (e : Ending) : Prop := (escL s.data.toList = none ∧ e = .returned (.tuple #[.int .u8 0, .int .i64 0])) ∨ (∃ c k, escL s.data.toList = some (c, k) ∧ e = .returned (.tuple #[.int .u8 c.toNat, .int .i64 (k + 1)]))
theorem escP_no {s : ByteArray} (h : escL s.data.toList = none) : EscP s (.returned (.tuple #[.int .u8 0, .int .i64 0])) := .inl ⟨h, rfl⟩
theorem escP_yes {s : ByteArray} {c : UInt8} {k : Nat} (h : escL s.data.toList = some (c, k)) {a b : Int} (ha : a = c.toNat) (hb : b = k + 1) : EscP s (.returned (.tuple #[.int .u8 a, .int .i64 b])) := .inr ⟨c, k, h, by rw [ha, hb]⟩
theorem escB_plain (s : ByteArray) (h0 : 0 < s.size) (h : digB s[0] = false) : escL s.data.toList = some (s[0], 0) := by
  obtain ⟨⟨l⟩⟩ := s
  match l, h0, h with
  | x :: r, _, h => exact if_pos h
theorem escB_short (s : ByteArray) (h0 : 0 < s.size) (h : digB s[0] = true) (h1 : s.size < 3) : escL s.data.toList = none := by
  obtain ⟨⟨l⟩⟩ := s
  match l, h0, h, h1 with
  | x :: r, _, h, h1 =>
    have h : digB x = true := h
    have h4 : r.length < 2 := by
      have : (x :: r).length < 3 := h1
      simp at this; omega
    show escL (x :: r) = none
    rw [escL_cons, if_neg (by rw [h]; simp), if_pos h4]
theorem escB_num (s : ByteArray) (h0 : 2 < s.size) (h : digB s[0] = true) :
    escL s.data.toList = if digsB (s.extract 0 3).data.toList = true ∧ numL (s.extract 0 3).data.toList ≤ 255 then some (UInt8.ofNat (numL (s.extract 0 3).data.toList), 2) else none := by
  obtain ⟨⟨l⟩⟩ := s
  match l, h0, h with
  | x :: y :: z :: r, _, h =>
    have e : ((⟨⟨x :: y :: z :: r⟩⟩ : ByteArray).extract 0 3).data.toList = [x, y, z] := by simp
    rw [e]
    have h : digB x = true := h
    have h4 : ¬ (y :: z :: r).length < 2 := by simp
    show escL (x :: y :: z :: r) = _
    rw [escL_cons, if_neg (by rw [h]; simp), if_neg h4]
    rfl
set_option maxHeartbeats 1000000 in
theorem escaped_any (s : ByteArray) (w : World) (hs : s.size ≤ 4000) :
    Calls Try.prog 33 #[.string s] w fun e w' => EscP s e ∧ w = w' := by
  by_cases h0 : s.data.toList = []
  · have e : s = ⟨#[]⟩ := by rw [ba_list s, h0]
    subst e
    have H := Lib.hid (escP_no (s := ⟨#[]⟩) rfl)
    clear h0
    go_enter Try.func33, Try.ntmps33
    go_wp2_with fail
    go_ret2
    exact ⟨H.out, rfl⟩
  · have t0 : s.toList.isEmpty = false := by rw [ByteArray.toList_eq]; simpa using h0
    have hpos : 0 < s.size := by
      have := List.length_pos_iff.2 h0
      simpa using this
    clear h0
    have hc0 := s[0].toNat_lt
    by_cases h2 : digB s[0] = true
    · have h3 : 48 ≤ s[0].toNat ∧ s[0].toNat ≤ 57 := by unfold digB at h2; simpa using h2
      have t2 : ¬ ((s[0].toNat : Int) < 48) := by omega
      have t3 : ¬ (57 < (s[0].toNat : Int)) := by omega
      by_cases h4 : s.size < 3
      · have H := Lib.hid (escB_short s hpos h2 h4)
        have t4 : (s.size : Int) < 3 := by omega
        clear h2 h3 h4
        go_enter Try.func33, Try.ntmps33
        go_wp2_with fail
        go_ret2
        exact ⟨escP_no H.out, rfl⟩
      · have H := Lib.hid (escB_num s (by omega) h2)
        have t4 : ¬ ((s.size : Int) < 3) := by omega
        have h5 : 3 ≤ s.size := by omega
        have hnum := refNumber_any (s.extract 0 3) 255 w (by simp [ByteArray.size_extract]; omega) (by decide) (by decide)
        have HN := Lib.hid hnum
        clear h2 h3 h4 hnum
        go_enter Try.func33, Try.ntmps33
        go_wp2_with fail
        with_reducible refine HN.out.mono ?_
        rintro e w1 ⟨hp, rfl⟩
        rcases hp with ⟨hd, rfl⟩ | ⟨hd, hm, rfl⟩ | ⟨hd, hm, rfl⟩
        · have H2 := Lib.hid (H.out.trans (if_neg (by rw [hd]; simp)))
          clear H hd
          go_wp2_with fail
          go_ret2
          exact ⟨escP_no H2.out, rfl⟩
        · have H2 := Lib.hid (H.out.trans (if_neg (fun h => by have := h.2; omega)))
          clear H hd hm
          go_wp2_with fail
          go_ret2
          exact ⟨escP_no H2.out, rfl⟩
        · have hm2 : numL (s.extract 0 3).data.toList ≤ 255 := by omega
          have H2 := Lib.hid (H.out.trans (if_pos ⟨hd, hm2⟩))
          clear H hd hm
          obtain ⟨m, hmm⟩ : ∃ m, m = numL (s.extract 0 3).data.toList := ⟨_, rfl⟩
          rw [← hmm] at H2 hm2 ⊢
          clear hmm
          go_wp2_with fail
          go_ret2
          exact ⟨escP_yes H2.out (by rw [UInt8.toNat_ofNat_of_lt' (by simp [UInt8.size]; omega)]; try go_arith) (by simp), rfl⟩
    · have h2 : digB s[0] = false := by simpa using h2
      have H := Lib.hid (escB_plain s hpos h2)
      have h3 : ¬ (48 ≤ s[0].toNat ∧ s[0].toNat ≤ 57) := by unfold digB at h2; simpa using h2
      have t2 : ((s[0].toNat : Int) < 48) ∨ (57 < (s[0].toNat : Int)) := by omega
      clear h2 h3
      rcases t2 with t2 | t2
      all_goals
        go_enter Try.func33, Try.ntmps33
        go_wp2_with fail
        go_ret2
        exact ⟨escP_yes H.out rfl rfl, rfl⟩
end Go.Proofs.Ytcdbnnfokophbaa
