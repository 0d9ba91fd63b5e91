/- Layer 11: heads, over plain data. -/
import Derived.Test.YtnomjjiohdinlaaMath15
namespace Go.Proofs.Ytnomjjiohdinlaa
/-- a head -/
structure Hd where
  id : Int
  qr : Bool
  op : Int
  aa : Bool
  tc : Bool
  rd : Bool
  ra : Bool
  ad : Bool
  cd : Bool
  rc : Int
def hdIn (n m : Int) : Bool := decide (0 ≤ n) && decide (n ≤ m)
def hdOk (h : Hd) : Bool := hdIn h.id 65535 && hdIn h.op 15 && hdIn h.rc 15
def bN (b : Bool) (k : Int) : Int := if b then k else 0
def hdN (h : Hd) : Int := bN h.qr 32768 + h.op * 2048 + bN h.aa 1024 + bN h.tc 512 + bN h.rd 256 + bN h.ra 128 + bN h.ad 32 + bN h.cd 16 + h.rc
def hdB (n k : Int) : Bool := n / k % 2 == 1
def unH (id n : Int) : Hd := ⟨id, hdB n 32768, n / 2048 % 16, hdB n 1024, hdB n 512, hdB n 256, hdB n 128, hdB n 32, hdB n 16, n % 16⟩
def zeroH : Hd := ⟨0, false, 0, false, false, false, false, false, false, 0⟩
/-- four counts -/
def cntOk (c : Nat → Int) : Bool := hdIn (c 0) 65535 && hdIn (c 1) 65535 && hdIn (c 2) 65535 && hdIn (c 3) 65535
/-- the octets of the first k counts behind a head's -/
def hdTk (h : Hd) (c : Nat → Int) : Nat → List UInt8
  | 0 => ocT 2 h.id ++ ocT 2 (hdN h)
  | k + 1 => hdTk h c k ++ ocT 2 (c k)
def hdT (h : Hd) (c : Nat → Int) : List UInt8 := hdTk h c 4
theorem hdIn_iff (n m : Int) : hdIn n m = true ↔ 0 ≤ n ∧ n ≤ m := by simp [hdIn]
theorem hdOk_bd {h : Hd} (k : hdOk h = true) : 0 ≤ h.id ∧ h.id ≤ 65535 ∧ 0 ≤ h.op ∧ h.op ≤ 15 ∧ 0 ≤ h.rc ∧ h.rc ≤ 15 := by
  unfold hdOk at k
  simp only [Bool.and_eq_true, hdIn_iff] at k
  omega
theorem bN_bit (b : Bool) (k : Int) : ∃ q : Int, (q = 0 ∨ q = 1) ∧ bN b k = q * k ∧ b = (q == 1) := by
  cases b
  · exact ⟨0, .inl rfl, by simp [bN], rfl⟩
  · exact ⟨1, .inr rfl, by simp [bN], rfl⟩
theorem hdN_bd {h : Hd} (k : hdOk h = true) : 0 ≤ hdN h ∧ hdN h < 65536 := by
  have hb := hdOk_bd k
  unfold hdN
  obtain ⟨q1, h1, e1, _⟩ := bN_bit h.qr 32768
  obtain ⟨q2, h2, e2, _⟩ := bN_bit h.aa 1024
  obtain ⟨q3, h3, e3, _⟩ := bN_bit h.tc 512
  obtain ⟨q4, h4, e4, _⟩ := bN_bit h.rd 256
  obtain ⟨q5, h5, e5, _⟩ := bN_bit h.ra 128
  obtain ⟨q6, h6, e6, _⟩ := bN_bit h.ad 32
  obtain ⟨q7, h7, e7, _⟩ := bN_bit h.cd 16
  rw [e1, e2, e3, e4, e5, e6, e7]
  omega
theorem unH_N {h : Hd} (k : hdOk h = true) : unH h.id (hdN h) = h := by
  have hb := hdOk_bd k
  obtain ⟨id, qr, op, aa, tc, rd, ra, ad, cd, rc⟩ := h
  simp only [hdN, unH, hdB] at *
  obtain ⟨q1, h1, e1, f1⟩ := bN_bit qr 32768
  obtain ⟨q2, h2, e2, f2⟩ := bN_bit aa 1024
  obtain ⟨q3, h3, e3, f3⟩ := bN_bit tc 512
  obtain ⟨q4, h4, e4, f4⟩ := bN_bit rd 256
  obtain ⟨q5, h5, e5, f5⟩ := bN_bit ra 128
  obtain ⟨q6, h6, e6, f6⟩ := bN_bit ad 32
  obtain ⟨q7, h7, e7, f7⟩ := bN_bit cd 16
  rw [e1, e2, e3, e4, e5, e6, e7]
  obtain ⟨n, hn⟩ : ∃ n, n = q1 * 32768 + op * 2048 + q2 * 1024 + q3 * 512 + q4 * 256 + q5 * 128 + q6 * 32 + q7 * 16 + rc := ⟨_, rfl⟩
  rw [← hn]
  have b1 : n / 32768 % 2 = q1 := by omega
  have b2 : n / 1024 % 2 = q2 := by omega
  have b3 : n / 512 % 2 = q3 := by omega
  have b4 : n / 256 % 2 = q4 := by omega
  have b5 : n / 128 % 2 = q5 := by omega
  have b6 : n / 32 % 2 = q6 := by omega
  have b7 : n / 16 % 2 = q7 := by omega
  have b8 : n / 2048 % 16 = op := by omega
  have b9 : n % 16 = rc := by omega
  rw [b1, b2, b3, b4, b5, b6, b7, b8, b9, ← f1, ← f2, ← f3, ← f4, ← f5, ← f6, ← f7]
/-- the k-th number of octets, of two each -/
def hdW (l : List UInt8) (k : Nat) : Nat := ocN ((l.drop (2 * k)).take 2)
/-- what an Eye has behind k numbers of two octets: the last number, what is left, the error -/
def hdS (l : List UInt8) : Nat → Nat × List UInt8 × Int
  | 0 => (0, l, 0)
  | k + 1 => (ocN (ocTake (hdS l k).2.1 (hdS l k).2.2 2).1, (ocTake (hdS l k).2.1 (hdS l k).2.2 2).2)
theorem ocTake_two (l : List UInt8) (h : 2 ≤ l.length) : ocTake l 0 2 = (l.take 2, l.drop 2, 0) := by
  unfold ocTake
  rw [if_neg (by decide), if_neg (by omega)]
  rfl
theorem hdS_ok (l : List UInt8) : ∀ k, 2 * k ≤ l.length → (hdS l k).2 = (l.drop (2 * k), 0)
  | 0, _ => rfl
  | k + 1, h => by
    have e := hdS_ok l k (by omega)
    show (ocTake (hdS l k).2.1 (hdS l k).2.2 2).2 = _
    rw [e, ocTake_two _ (by rw [List.length_drop]; omega)]
    show (List.drop 2 (l.drop (2 * k)), (0 : Int)) = _
    rw [List.drop_drop]
    rfl
theorem hdS_val (l : List UInt8) (k : Nat) (h : 2 * (k + 1) ≤ l.length) : (hdS l (k + 1)).1 = hdW l k := by
  have e := hdS_ok l k (by omega)
  show ocN (ocTake (hdS l k).2.1 (hdS l k).2.2 2).1 = _
  rw [e, ocTake_two _ (by rw [List.length_drop]; omega)]
  rfl
theorem ocTake_err (l : List UInt8) (x n : Int) (h : x = 1) : (ocTake l x n).2.2 = 1 := by
  subst h; rfl
theorem hdS_bad (l : List UInt8) : ∀ k, l.length < 2 * k → (hdS l k).2.2 = 1
  | 0, h => absurd h (by omega)
  | k + 1, h => by
    show (ocTake (hdS l k).2.1 (hdS l k).2.2 2).2.2 = 1
    by_cases hk : 2 * k ≤ l.length
    · rw [hdS_ok l k hk]
      show (ocTake (l.drop (2 * k)) 0 2).2.2 = 1
      unfold ocTake
      rw [if_neg (by decide), if_pos (by rw [List.length_drop]; omega)]
    · exact ocTake_err _ _ _ (hdS_bad l k (by omega))
theorem ocTake_two_len (l : List UInt8) (x : Int) : (ocTake l x 2).1.length ≤ 2 := by
  unfold ocTake
  split
  · simp
  · split
    · simp
    · rw [List.length_take]; exact Nat.min_le_left _ _
theorem ocN_two (l : List UInt8) (h : l.length ≤ 2) : ocN l < 65536 := by
  have h1 := ocN_lt l
  have h2 : 256 ^ l.length ≤ 256 ^ 2 := Nat.pow_le_pow_right (by decide) h
  omega
theorem hdS_lt (l : List UInt8) (k : Nat) : (hdS l k).1 < 65536 := by
  cases k with
  | zero => exact (by decide : 0 < 65536)
  | succ k => exact ocN_two _ (ocTake_two_len _ _)
theorem hdW_lt (l : List UInt8) (k : Nat) : hdW l k < 65536 := ocN_two _ (by rw [List.length_take]; exact Nat.min_le_left _ _)
theorem hdTk_len (h : Hd) (c : Nat → Int) : ∀ k, (hdTk h c k).length = 4 + 2 * k
  | 0 => by simp [hdTk, ocT_len]
  | k + 1 => by simp [hdTk, ocT_len, hdTk_len h c k]; omega
theorem ocN_oct2 (n : Int) (h0 : 0 ≤ n) (h1 : n ≤ 65535) : (ocN (ocT 2 n) : Int) = n := by
  rw [ocN_oct]
  exact Int.emod_eq_of_lt h0 (by have : (256 : Int) ^ 2 = 65536 := by decide
                                 omega)
theorem take2 (a b : List UInt8) (n : Nat) (ha : a.length = n) (hb : ∃ m, b = ocT 2 m) (c : List UInt8) : ((a ++ b ++ c).drop n).take 2 = b := by
  obtain ⟨m, rfl⟩ := hb
  rw [List.append_assoc, ← ha, List.drop_left, List.take_left' (ocT_len 2 m)]
theorem hdT_id (h : Hd) (c : Nat → Int) (more : List UInt8) (k : 0 ≤ h.id ∧ h.id ≤ 65535) : (hdW (hdT h c ++ more) 0 : Int) = h.id := by
  have e : hdT h c ++ more = [] ++ ocT 2 h.id ++ (ocT 2 (hdN h) ++ ocT 2 (c 0) ++ ocT 2 (c 1) ++ ocT 2 (c 2) ++ ocT 2 (c 3) ++ more) := by simp [hdT, hdTk]
  unfold hdW
  rw [e, take2 [] _ (2 * 0) rfl ⟨_, rfl⟩]
  exact ocN_oct2 _ k.1 k.2
theorem hdT_n (h : Hd) (c : Nat → Int) (more : List UInt8) (k : 0 ≤ hdN h ∧ hdN h < 65536) : (hdW (hdT h c ++ more) 1 : Int) = hdN h := by
  have e : hdT h c ++ more = ocT 2 h.id ++ ocT 2 (hdN h) ++ (ocT 2 (c 0) ++ ocT 2 (c 1) ++ ocT 2 (c 2) ++ ocT 2 (c 3) ++ more) := by simp [hdT, hdTk]
  unfold hdW
  rw [e, take2 (ocT 2 h.id) _ (2 * 1) (by rw [ocT_len]) ⟨_, rfl⟩]
  exact ocN_oct2 _ k.1 (by omega)
theorem hdT_c (h : Hd) (c : Nat → Int) (more : List UInt8) (i : Nat) (hi : i < 4) (k : 0 ≤ c i ∧ c i ≤ 65535) : (hdW (hdT h c ++ more) (2 + i) : Int) = c i := by
  have e : ∃ r, hdT h c ++ more = hdTk h c i ++ ocT 2 (c i) ++ r := by
    rcases (show i = 0 ∨ i = 1 ∨ i = 2 ∨ i = 3 by omega) with rfl | rfl | rfl | rfl
    · exact ⟨ocT 2 (c 1) ++ ocT 2 (c 2) ++ ocT 2 (c 3) ++ more, by simp [hdT, hdTk]⟩
    · exact ⟨ocT 2 (c 2) ++ ocT 2 (c 3) ++ more, by simp [hdT, hdTk]⟩
    · exact ⟨ocT 2 (c 3) ++ more, by simp [hdT, hdTk]⟩
    · exact ⟨more, by simp [hdT, hdTk]⟩
  obtain ⟨r, e⟩ := e
  unfold hdW
  rw [e, take2 _ _ (2 * (2 + i)) (by rw [hdTk_len]; omega) ⟨_, rfl⟩]
  exact ocN_oct2 _ k.1 k.2
theorem cntOk_bd {c : Nat → Int} (k : cntOk c = true) (i : Nat) (hi : i < 4) : 0 ≤ c i ∧ c i ≤ 65535 := by
  unfold cntOk at k
  simp only [Bool.and_eq_true, hdIn_iff] at k
  rcases (show i = 0 ∨ i = 1 ∨ i = 2 ∨ i = 3 by omega) with rfl | rfl | rfl | rfl <;> omega
theorem cntOk_no {c : Nat → Int} (k : cntOk c = false) : ∃ i, i < 4 ∧ hdIn (c i) 65535 = false ∧ ∀ j, j < i → hdIn (c j) 65535 = true := by
  unfold cntOk at k
  cases h0 : hdIn (c 0) 65535
  · exact ⟨0, by decide, h0, fun j h => absurd h (by omega)⟩
  · cases h1 : hdIn (c 1) 65535
    · exact ⟨1, by decide, h1, fun j h => by obtain rfl : j = 0 := by omega
                                             exact h0⟩
    · cases h2 : hdIn (c 2) 65535
      · exact ⟨2, by decide, h2, fun j h => by rcases (show j = 0 ∨ j = 1 by omega) with rfl | rfl <;> assumption⟩
      · cases h3 : hdIn (c 3) 65535
        · exact ⟨3, by decide, h3, fun j h => by rcases (show j = 0 ∨ j = 1 ∨ j = 2 by omega) with rfl | rfl | rfl <;> assumption⟩
        · rw [h0, h1, h2, h3] at k; exact absurd k (by decide)
end Go.Proofs.Ytnomjjiohdinlaa
