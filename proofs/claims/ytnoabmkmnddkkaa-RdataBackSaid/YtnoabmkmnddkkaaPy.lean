/- Texts behind a law of this seat, in order: Math11, Math13, Math20, Math21. -/
import Derived.Test.YtnoabmkmnddkkaaPa
import Derived.Lib.ItoaNum
import Derived.Lib.Split
import Derived.Lib.SplitLaws
import Derived.Lib.Strings
import Derived.WalkKit
namespace Go.Proofs.Ytnoabmkmnddkkaa
open Go.RowKit Go
set_option linter.unusedVariables false
def quad16 (a b c d : UInt8) : List UInt8 := [a, b, c, d, 0, 0, 0, 0, 0, 0, 0, 0, 0, 0, 0, 0]
def zero16 : List UInt8 := [0, 0, 0, 0, 0, 0, 0, 0, 0, 0, 0, 0, 0, 0, 0, 0]
end Go.Proofs.Ytnoabmkmnddkkaa
namespace Go.Proofs.Ytnoabmkmnddkkaa
open Go.RowKit Go
set_option linter.unusedVariables false
def bitsF (f : Int) : Nat := if f = 4 then 32 else if f = 6 then 128 else 0
def low4 (ip : List UInt8) : List UInt8 := quad16 (ip.getD 0 0) (ip.getD 1 0) (ip.getD 2 0) (ip.getD 3 0)
def checkE (f : Int) (ip : List UInt8) (z : Int) : Int := if f = 4 then (if ip = low4 ip ∧ z = 0 then 0 else 5) else if f = 6 then (if z < 0 ∨ 2147483647 < z then 4 else 0) else 10
end Go.Proofs.Ytnoabmkmnddkkaa
namespace Go.Proofs.Ytnoabmkmnddkkaa
set_option linter.unusedVariables false
/-- a record: names (0 its own, 1 Target, 2 Mail), numbers (0 Pri, 1 Weight, 2 Port, 3 to 7 Nums) -/
structure Rc (N : Type) where
  nm : Nat → N
  ty : Int
  cl : Int
  tt : Int
  fam : Int
  ip : List UInt8
  zn : Int
  nu : Nat → Int
  raw : List UInt8
def upd {A : Type} (f : Nat → A) (k : Nat) (v : A) : Nat → A := fun j => if j = k then v else f j
inductive Pt where
  | raw
  | adr (f : Int)
  | nam (k : Nat) (tb : Bool)
  | num (k wd : Nat)
def rParts (ty cl : Int) : List Pt :=
  if cl ≠ 1 then [.raw] else if ty = 1 then [.adr 4] else if ty = 28 then [.adr 6] else if ty = 5 ∨ ty = 12 then [.nam 1 true]
  else if ty = 33 then [.num 0 2, .num 1 2, .num 2 2, .nam 1 false] else if ty = 6 then [.nam 1 true, .nam 2 true, .num 3 4, .num 4 4, .num 5 4, .num 6 4, .num 7 4] else [.raw]
def PtOk : Pt → Prop
  | .raw => True
  | .adr f => f = 4 ∨ f = 6
  | .nam k _ => k = 1 ∨ k = 2
  | .num k wd => k < 8 ∧ (wd = 2 ∨ wd = 4)
/-- the six lists of parts -/
theorem rParts_six (ty cl : Int) : rParts ty cl = [.raw] ∨ rParts ty cl = [.adr 4] ∨ rParts ty cl = [.adr 6] ∨ rParts ty cl = [.nam 1 true] ∨ rParts ty cl = [.num 0 2, .num 1 2, .num 2 2, .nam 1 false] ∨
    rParts ty cl = [.nam 1 true, .nam 2 true, .num 3 4, .num 4 4, .num 5 4, .num 6 4, .num 7 4] := by
  unfold rParts
  split
  · exact .inl rfl
  · split
    · exact .inr (.inl rfl)
    · split
      · exact .inr (.inr (.inl rfl))
      · split
        · exact .inr (.inr (.inr (.inl rfl)))
        · split
          · exact .inr (.inr (.inr (.inr (.inl rfl))))
          · split
            · exact .inr (.inr (.inr (.inr (.inr rfl))))
            · exact .inl rfl
theorem rParts_ok (ty cl : Int) : ∀ p ∈ rParts ty cl, PtOk p := by
  intro p hp
  rcases rParts_six ty cl with h | h | h | h | h | h <;> rw [h] at hp <;> simp at hp
  · subst hp; trivial
  · subst hp; exact .inl rfl
  · subst hp; exact .inr rfl
  · subst hp; exact .inl rfl
  · rcases hp with rfl | rfl | rfl | rfl
    · exact ⟨by decide, .inl rfl⟩
    · exact ⟨by decide, .inl rfl⟩
    · exact ⟨by decide, .inl rfl⟩
    · exact .inl rfl
  · rcases hp with rfl | rfl | rfl | rfl | rfl | rfl | rfl
    · exact .inl rfl
    · exact .inr rfl
    all_goals exact ⟨by decide, .inr rfl⟩
theorem rParts_len (ty cl : Int) : (rParts ty cl).length ≤ 7 := by
  rcases rParts_six ty cl with h | h | h | h | h | h <;> rw [h] <;> decide
def inW (wd : Nat) (n : Int) : Bool := decide (0 ≤ n) && decide (n < 256 ^ wd)
theorem inW_iff (wd : Nat) (n : Int) : inW wd n = true ↔ 0 ≤ n ∧ n < 256 ^ wd := by unfold inW; simp
def chkP (R : Rc Lbs) : Pt → Int
  | .raw => if 65535 < R.raw.length then 3 else 0
  | .adr f => if checkE R.fam R.ip R.zn = 0 ∧ R.fam = f ∧ R.zn = 0 then 0 else 10
  | .nam k _ => checkL (R.nm k)
  | .num k wd => if inW wd (R.nu k) = true then 0 else 4
def clrP {N : Type} (z : N) (R : Rc N) : Pt → Rc N
  | .raw => { R with raw := [] }
  | .adr _ => { R with fam := 0, ip := zero16, zn := 0 }
  | .nam k _ => { R with nm := upd R.nm k z }
  | .num k _ => { R with nu := upd R.nu k 0 }
def clrL {N : Type} (z : N) : List Pt → Rc N → Rc N
  | [], R => R
  | p :: ps, R => clrL z ps (clrP z R p)
def chkL : List Pt → Rc Lbs → Int
  | [], R => 0
  | p :: ps, R => if chkP R p = 0 then chkL ps (clrP [] R p) else chkP R p
def emptyB (R : Rc Lbs) : Bool :=
  (R.fam == 0 && R.ip == zero16 && R.zn == 0) && decide ((R.nm 1).length = 0) && decide ((R.nm 2).length = 0) && (R.nu 0 == 0) && (R.nu 1 == 0) && (R.nu 2 == 0) && (R.nu 3 == 0 && R.nu 4 == 0 && R.nu 5 == 0 && R.nu 6 == 0 && R.nu 7 == 0) && decide (R.raw.length = 0)
/-- what Check answers -/
def recE (R : Rc Lbs) : Int :=
  if checkL (R.nm 0) = 0 then
    if (inW 2 R.ty && inW 2 R.cl && inW 4 R.tt) = true then
      if chkL (rParts R.ty R.cl) R = 0 then (if emptyB (clrL [] (rParts R.ty R.cl) R) = true then 0 else 5) else chkL (rParts R.ty R.cl) R
    else 4
  else checkL (R.nm 0)
/-- a part's octets -/
def octP (tb : Bool) (R : Rc Lbs) (at_ : Int) (T : List (Lbs × Int)) : Pt → List UInt8 × List (Lbs × Int)
  | .raw => (R.raw, T)
  | .adr f => (R.ip.take (bitsF f / 8), T)
  | .nam k b => if (b && tb) = true then ((putO true (R.nm k) at_ T).1, (putO true (R.nm k) at_ T).2.1) else ((putO false (R.nm k) at_ []).1, T)
  | .num k wd => (ocT wd (R.nu k), T)
def octL (tb : Bool) (R : Rc Lbs) : List Pt → Int → List (Lbs × Int) → List UInt8 × List (Lbs × Int)
  | [], _, T => ([], T)
  | p :: ps, at_, T => ((octP tb R at_ T p).1 ++ (octL tb R ps (at_ + (octP tb R at_ T p).1.length) (octP tb R at_ T p).2).1, (octL tb R ps (at_ + (octP tb R at_ T p).1.length) (octP tb R at_ T p).2).2)
/-- what a part's get leaves: the error, the record, the Eye -/
structure GtR where
  err : Int
  R : Rc Lbs
  l : List UInt8
  x : Int
def getN (m : List UInt8) (R : Rc Lbs) (l : List UInt8) (x : Int) (k : Nat) : GtR :=
  if (pkGet m ((m.length : Int) - l.length)).err = 1 ∧ (pkGet (m.drop (m.length - l.length)) 0).err = 1 then ⟨5, R, l, x⟩
  else if (pkGet m ((m.length : Int) - l.length)).err = 0 then
    ⟨0, { R with nm := upd R.nm k (pkGet m ((m.length : Int) - l.length)).n }, (ocTake l x ((pkGet m ((m.length : Int) - l.length)).fin - ((m.length : Int) - l.length))).2.1, (ocTake l x ((pkGet m ((m.length : Int) - l.length)).fin - ((m.length : Int) - l.length))).2.2⟩
  else ⟨(pkGet m ((m.length : Int) - l.length)).err, R, l, x⟩
def getP (m : List UInt8) (R : Rc Lbs) (l : List UInt8) (x : Int) : Pt → GtR
  | .raw => ⟨0, { R with raw := (ocTake l x l.length).1 }, (ocTake l x l.length).2.1, (ocTake l x l.length).2.2⟩
  | .adr f => ⟨0, { R with fam := f, ip := (ocTake l x (bitsF f / 8 : Nat)).1 ++ R.ip.drop (ocTake l x (bitsF f / 8 : Nat)).1.length }, (ocTake l x (bitsF f / 8 : Nat)).2.1, (ocTake l x (bitsF f / 8 : Nat)).2.2⟩
  | .nam k _ => getN m R l x k
  | .num k wd => ⟨0, { R with nu := upd R.nu k ((ocNumT l x wd).1 : Nat) }, (ocNumT l x wd).2.1, (ocNumT l x wd).2.2⟩
def zeroR {N : Type} (z : N) : Rc N := ⟨fun _ => z, 0, 0, 0, 0, zero16, 0, fun _ => 0, []⟩
def getL (m : List UInt8) : List Pt → Rc Lbs → List UInt8 → Int → Int × Rc Lbs
  | [], R, l, x => if l = [] ∧ x = 0 then (0, R) else (5, zeroR [])
  | p :: ps, R, l, x =>
    if (getP m R l x p).err = 0 then
      if (getP m R l x p).x = 0 then getL m ps (getP m R l x p).R (getP m R l x p).l (getP m R l x p).x else (5, zeroR [])
    else ((getP m R l x p).err, zeroR [])
/-- what Get answers -/
def rGet (m : List UInt8) (at_ n ty cl : Int) : Int × Rc Lbs :=
  if at_ < 0 ∨ n < 0 ∨ (m.length : Int) < at_ ∨ (m.length : Int) - at_ < n then (4, zeroR [])
  else getL (m.take (at_ + n).toNat) (rParts ty cl) { zeroR [] with ty := ty, cl := cl } ((m.take (at_ + n).toNat).drop at_.toNat) 0
def setP (R Q : Rc Lbs) : Pt → Rc Lbs
  | .raw => { Q with raw := R.raw }
  | .adr _ => { Q with fam := R.fam, ip := R.ip }
  | .nam k _ => { Q with nm := upd Q.nm k (R.nm k) }
  | .num k _ => { Q with nu := upd Q.nu k (R.nu k) }
def setL (R : Rc Lbs) : List Pt → Rc Lbs → Rc Lbs
  | [], Q => Q
  | p :: ps, Q => setL R ps (setP R Q p)
/-- raw octets and addresses stand alone -/
def Lone : List Pt → Prop
  | [] => True
  | .raw :: ps => ps = []
  | .adr _ :: ps => ps = []
  | _ :: ps => Lone ps
theorem rParts_lone (ty cl : Int) : Lone (rParts ty cl) := by
  rcases rParts_six ty cl with h | h | h | h | h | h <;> rw [h] <;> simp [Lone]
theorem ocNumT_oct (wd : Nat) (hw : wd = 2 ∨ wd = 4) (n : Int) (hn : inW wd n = true) (b : List UInt8) : (ocNumT (ocT wd n ++ b) 0 wd) = (n.toNat, b, 0) := by
  rw [inW_iff] at hn
  have hl : (ocT wd n).length = wd := ocT_len wd n
  have hwd : (ocWide (wd : Int)) = wd := by unfold ocWide; rcases hw with rfl | rfl <;> decide
  unfold ocNumT
  rw [hwd]
  have h := ocTake_all (ocT wd n) b
  rw [hl] at h
  rw [h]
  have ho := ocN_oct wd n
  rw [Int.emod_eq_of_lt hn.1 hn.2] at ho
  show (ocN (ocT wd n), b, (0 : Int)) = _
  rw [show ocN (ocT wd n) = n.toNat by omega]
theorem octP_len (tb : Bool) (R : Rc Lbs) (at_ : Int) (T : List (Lbs × Int)) (p : Pt) (hp : PtOk p) (hc : chkP R p = 0) : (octP tb R at_ T p).1.length ≤ 65535 := by
  have hlen : ∀ k, checkL (R.nm k) = 0 → sizeL (R.nm k) ≤ 255 := fun k h => (checkL_ok.1 h).2
  cases p with
  | raw =>
    have hc : (if 65535 < R.raw.length then (3 : Int) else 0) = 0 := hc
    show R.raw.length ≤ _
    by_cases h : 65535 < R.raw.length
    · rw [if_pos h] at hc; exact absurd hc (by decide)
    · omega
  | adr f =>
    show (R.ip.take (bitsF f / 8)).length ≤ _
    rw [List.length_take]
    rcases hp with rfl | rfl
    · rw [show bitsF 4 / 8 = 4 from rfl]; omega
    · rw [show bitsF 6 / 8 = 16 from rfl]; omega
  | nam k b =>
    have h := hlen k hc
    have hc' : checkL (R.nm k) = 0 := hc
    show (if (b && tb) = true then ((putO true (R.nm k) at_ T).1, (putO true (R.nm k) at_ T).2.1) else ((putO false (R.nm k) at_ []).1, T)).1.length ≤ _
    split
    · unfold putO
      rw [if_pos hc']
      have := pkPut_size (true && decide (0 ≤ at_)) (R.nm k) at_ T
      show (pkPut _ _ _ _).1.length ≤ _
      omega
    · unfold putO
      rw [if_pos hc']
      have := pkPut_size (false && decide (0 ≤ at_)) (R.nm k) at_ []
      show (pkPut _ _ _ _).1.length ≤ _
      omega
  | num k wd =>
    show (ocT wd (R.nu k)).length ≤ _
    rw [ocT_len]
    rcases hp.2 with rfl | rfl <;> decide
theorem low4_take (ip : List UInt8) (h : ip = low4 ip) : ip.take 4 ++ zero16.drop 4 = ip := by
  rw [h]; rfl
/-- a part put is got -/
theorem part_back (tb : Bool) {m : List UInt8} {T : List (Lbs × Int)} (hT : TInv m T) (htb : tb = false → T = []) (R Q : Rc Lbs) (hip : R.ip.length = 16) (p : Pt) (hp : PtOk p) (hc : chkP R p = 0) (b : List UInt8) (hb : (p = .raw ∨ ∃ f, p = .adr f) → b = []) (hQ : (∃ f, p = .adr f) → Q.ip = zero16) :
    TInv (m ++ (octP tb R m.length T p).1) (octP tb R m.length T p).2 ∧ getP (m ++ (octP tb R m.length T p).1 ++ b) Q ((octP tb R m.length T p).1 ++ b) 0 p = ⟨0, setP R Q p, b, 0⟩ := by
  cases p with
  | raw =>
    obtain rfl := hb (.inl rfl)
    refine ⟨hT.mono _, ?_⟩
    show GtR.mk 0 { Q with raw := _ } _ _ = _
    have h := ocTake_all R.raw []
    rw [List.append_nil] at h
    show GtR.mk 0 { Q with raw := (ocTake (R.raw ++ []) 0 ((R.raw ++ []).length : Nat)).1 } (ocTake (R.raw ++ []) 0 ((R.raw ++ []).length : Nat)).2.1 (ocTake (R.raw ++ []) 0 ((R.raw ++ []).length : Nat)).2.2 = _
    rw [List.append_nil, h]
    rfl
  | adr f =>
    obtain rfl := hb (.inr ⟨f, rfl⟩)
    refine ⟨hT.mono _, ?_⟩
    have hc' : checkE R.fam R.ip R.zn = 0 ∧ R.fam = f ∧ R.zn = 0 := by
      have hc : (if checkE R.fam R.ip R.zn = 0 ∧ R.fam = f ∧ R.zn = 0 then (0 : Int) else 10) = 0 := hc
      by_cases h : checkE R.fam R.ip R.zn = 0 ∧ R.fam = f ∧ R.zn = 0
      · exact h
      · rw [if_neg h] at hc; exact absurd hc (by decide)
    have hz := hQ ⟨f, rfl⟩
    have h := ocTake_all (R.ip.take (bitsF f / 8)) []
    rw [List.append_nil] at h
    have hl : ((R.ip.take (bitsF f / 8)).length : Int) = (bitsF f / 8 : Nat) := by
      rw [List.length_take, hip]
      rcases hp with rfl | rfl <;> rfl
    rw [hl] at h
    show GtR.mk 0 { Q with fam := f, ip := (ocTake (R.ip.take (bitsF f / 8) ++ []) 0 (bitsF f / 8 : Nat)).1 ++ Q.ip.drop (ocTake (R.ip.take (bitsF f / 8) ++ []) 0 (bitsF f / 8 : Nat)).1.length } (ocTake (R.ip.take (bitsF f / 8) ++ []) 0 (bitsF f / 8 : Nat)).2.1 (ocTake (R.ip.take (bitsF f / 8) ++ []) 0 (bitsF f / 8 : Nat)).2.2 = _
    rw [List.append_nil, h]
    have e : R.ip.take (bitsF f / 8) ++ Q.ip.drop (R.ip.take (bitsF f / 8)).length = R.ip := by
      rw [hz, List.length_take, hip]
      rcases hp with rfl | rfl
      · have h4 : R.ip = low4 R.ip := by
          have := hc'.1
          rw [hc'.2.1] at this
          unfold checkE at this
          rw [if_pos rfl] at this
          by_cases h : R.ip = low4 R.ip ∧ R.zn = 0
          · exact h.1
          · rw [if_neg h] at this; exact absurd this (by decide)
        exact low4_take R.ip h4
      · show R.ip.take 16 ++ zero16.drop 16 = R.ip
        rw [List.take_of_length_le (by omega)]
        simp [zero16]
    show GtR.mk 0 { Q with fam := f, ip := R.ip.take (bitsF f / 8) ++ Q.ip.drop (R.ip.take (bitsF f / 8)).length } [] 0 = _
    rw [e, ← hc'.2.1]
    rfl
  | nam k tbl =>
    have hc' : checkL (R.nm k) = 0 := hc
    have key : ∀ (o : List UInt8), pkGet (m ++ o) m.length = ⟨R.nm k, m.length + o.length, 0⟩ → getP (m ++ o ++ b) Q (o ++ b) 0 (.nam k tbl) = ⟨0, setP R Q (.nam k tbl), b, 0⟩ := by
      intro o ho
      have hm := pkGet_mono b ho rfl
      have hlen : ((m ++ o ++ b).length : Int) - ((o ++ b).length : Nat) = m.length := by simp
      have ht := ocTake_all o b
      show getN _ _ _ _ k = _
      unfold getN
      rw [hlen, hm]
      rw [if_neg (fun h => absurd (show (0 : Int) = 1 from h.1) (by decide)), if_pos rfl]
      have hf : (((⟨R.nm k, m.length + o.length, 0⟩ : PkR).fin : Nat) : Int) - (m.length : Int) = (o.length : Int) := by
        show ((m.length + o.length : Nat) : Int) - _ = _
        omega
      rw [hf, ht]
      rfl
    by_cases hbt : (tbl && tb) = true
    · have e : octP tb R m.length T (.nam k tbl) = ((putO true (R.nm k) m.length T).1, (putO true (R.nm k) m.length T).2.1) := by
        show (if (tbl && tb) = true then ((putO true (R.nm k) m.length T).1, (putO true (R.nm k) m.length T).2.1) else ((putO false (R.nm k) m.length []).1, T)) = _
        rw [if_pos hbt]
      rw [e]
      have hs := put_step hT hc' (true && decide (0 ≤ (m.length : Int)))
      have hO : (putO true (R.nm k) m.length T).1 = pkOut T (R.nm k) ∧ (putO true (R.nm k) m.length T).2.1 = T ++ pkNew (true && decide (0 ≤ (m.length : Int))) T (R.nm k) m.length := by
        unfold putO
        rw [if_pos hc', pkPut_out _ (R.nm k) _ T T (fun _ _ => rfl)]
        exact ⟨rfl, rfl⟩
      rw [hO.1, hO.2]
      exact ⟨hs.1, key _ hs.2⟩
    · have e : octP tb R m.length T (.nam k tbl) = ((putO false (R.nm k) m.length []).1, T) := by
        show (if (tbl && tb) = true then ((putO true (R.nm k) m.length T).1, (putO true (R.nm k) m.length T).2.1) else ((putO false (R.nm k) m.length []).1, T)) = _
        rw [if_neg hbt]
      rw [e]
      have h0 : TInv m [] := fun n to h => by simp at h
      have hs := (put_step h0 hc' false).2
      rw [pkOut_nil] at hs
      have hO : (putO false (R.nm k) m.length []).1 = wireB (R.nm k) := by
        unfold putO
        rw [if_pos hc', Bool.false_and, pkPut_none]
      rw [hO]
      exact ⟨hT.mono _, key _ hs⟩
  | num k wd =>
    refine ⟨hT.mono _, ?_⟩
    have hn : inW wd (R.nu k) = true := by
      have hc : (if inW wd (R.nu k) = true then (0 : Int) else 4) = 0 := hc
      by_cases h : inW wd (R.nu k) = true
      · exact h
      · rw [if_neg h] at hc; exact absurd hc (by decide)
    show GtR.mk 0 { Q with nu := upd Q.nu k ((ocNumT (ocT wd (R.nu k) ++ b) 0 wd).1 : Nat) } (ocNumT (ocT wd (R.nu k) ++ b) 0 wd).2.1 (ocNumT (ocT wd (R.nu k) ++ b) 0 wd).2.2 = _
    rw [ocNumT_oct wd hp.2 _ hn b]
    have h0 := ((inW_iff wd (R.nu k)).1 hn).1
    show GtR.mk 0 { Q with nu := upd Q.nu k ((R.nu k).toNat : Nat) } b 0 = _
    rw [Int.toNat_of_nonneg h0]
    rfl
theorem parts_back (tb : Bool) (R : Rc Lbs) (hip : R.ip.length = 16) : ∀ (ps : List Pt) (m : List UInt8) (T : List (Lbs × Int)) (Q : Rc Lbs), TInv m T → (tb = false → T = []) → Lone ps → (∀ p ∈ ps, PtOk p ∧ chkP R p = 0) → ((∃ f, Pt.adr f ∈ ps) → Q.ip = zero16) →
    TInv (m ++ (octL tb R ps m.length T).1) (octL tb R ps m.length T).2 ∧ getL (m ++ (octL tb R ps m.length T).1) ps Q (octL tb R ps m.length T).1 0 = (0, setL R ps Q)
  | [], m, T, Q, hT, _, _, _, _ => by
    refine ⟨hT.mono _, ?_⟩
    show (if ([] : List UInt8) = [] ∧ (0 : Int) = 0 then _ else _) = _
    rw [if_pos ⟨rfl, rfl⟩]
    rfl
  | p :: ps, m, T, Q, hT, htb, hL, hok, hQ => by
    obtain ⟨a, ha⟩ : ∃ a, a = octP tb R m.length T p := ⟨_, rfl⟩
    have hu : octL tb R (p :: ps) m.length T = (a.1 ++ (octL tb R ps (m.length + a.1.length) a.2).1, (octL tb R ps (m.length + a.1.length) a.2).2) := by rw [ha]; rfl
    have hL' : Lone ps := by
      cases p with
      | raw => have : ps = [] := hL; subst this; trivial
      | adr f => have : ps = [] := hL; subst this; trivial
      | nam k b => exact hL
      | num k w => exact hL
    have hb : (p = .raw ∨ ∃ f, p = .adr f) → (octL tb R ps (m.length + a.1.length) a.2).1 = [] := by
      intro h
      have : ps = [] := by
        rcases h with rfl | ⟨f, rfl⟩
        · exact hL
        · exact hL
      subst this
      rfl
    have h1 := part_back tb hT htb R Q hip p (hok p (by simp)).1 (hok p (by simp)).2 (octL tb R ps (m.length + a.1.length) a.2).1 hb (fun ⟨f, hf⟩ => hQ ⟨f, by rw [hf]; simp⟩)
    rw [← ha] at h1
    have htb2 : tb = false → a.2 = [] := by
      intro h
      have hT0 := htb h
      subst h hT0
      rw [ha]
      cases p with
      | nam k b =>
        show (if (b && false) = true then ((putO true (R.nm k) m.length []).1, (putO true (R.nm k) m.length []).2.1) else ((putO false (R.nm k) m.length []).1, [])).2 = []
        rw [Bool.and_false, if_neg (by decide)]
      | raw => rfl
      | adr f => rfl
      | num k w => rfl
    have hlen : ((m ++ a.1).length : Int) = (m.length : Int) + (a.1.length : Int) := by rw [List.length_append]; omega
    have h2 := parts_back tb R hip ps (m ++ a.1) a.2 (setP R Q p) h1.1 htb2 hL' (fun q hq => hok q (List.mem_cons_of_mem _ hq)) (by
      intro ⟨f, hf⟩
      have hz := hQ ⟨f, List.mem_cons_of_mem _ hf⟩
      cases p with
      | raw => have : ps = [] := hL; subst this; simp at hf
      | adr g => have : ps = [] := hL; subst this; simp at hf
      | nam k b => exact hz
      | num k w => exact hz)
    rw [hlen] at h2
    rw [hu]
    refine ⟨by rw [← List.append_assoc]; exact h2.1, ?_⟩
    show (if (getP _ _ _ _ p).err = 0 then _ else _) = _
    rw [← List.append_assoc, h1.2, if_pos rfl, if_pos rfl]
    exact h2.2
/-- two records alike in what they have beside name, type, class and TTL -/
def Alike (A B : Rc Lbs) : Prop := A.fam = B.fam ∧ A.ip = B.ip ∧ A.zn = B.zn ∧ A.nm 1 = B.nm 1 ∧ A.nm 2 = B.nm 2 ∧ (∀ k, k < 8 → A.nu k = B.nu k) ∧ A.raw = B.raw
theorem lt8 {P : Nat → Prop} (h : P 0 ∧ P 1 ∧ P 2 ∧ P 3 ∧ P 4 ∧ P 5 ∧ P 6 ∧ P 7) : ∀ k, k < 8 → P k := by
  intro k hk
  match k, hk with
  | 0, _ => exact h.1
  | 1, _ => exact h.2.1
  | 2, _ => exact h.2.2.1
  | 3, _ => exact h.2.2.2.1
  | 4, _ => exact h.2.2.2.2.1
  | 5, _ => exact h.2.2.2.2.2.1
  | 6, _ => exact h.2.2.2.2.2.2.1
  | 7, _ => exact h.2.2.2.2.2.2.2
theorem chkL_all : ∀ (ps : List Pt) (R : Rc Lbs), (∀ p ∈ ps, PtOk p) → chkL ps R = 0 → (ps.Pairwise fun p q => ∀ R : Rc Lbs, chkP (clrP [] R p) q = chkP R q) → ∀ p ∈ ps, chkP R p = 0
  | [], _, _, _, _, p, hp => by simp at hp
  | q :: ps, R, hok, h, hpw, p, hp => by
    rw [List.pairwise_cons] at hpw
    have h : (if chkP R q = 0 then chkL ps (clrP [] R q) else chkP R q) = 0 := h
    split at h
    · rename_i h0
      rcases List.mem_cons.1 hp with rfl | hp
      · exact h0
      · have := chkL_all ps (clrP [] R q) (fun p hp => hok p (List.mem_cons_of_mem _ hp)) h hpw.2 p hp
        rw [hpw.1 p hp] at this
        exact this
    · rename_i h0
      exact absurd h h0
theorem rParts_free (ty cl : Int) : (rParts ty cl).Pairwise fun p q => ∀ R : Rc Lbs, chkP (clrP [] R p) q = chkP R q := by
  rcases rParts_six ty cl with h | h | h | h | h | h <;> rw [h] <;> simp [chkP, clrP, upd]
  refine ⟨⟨?_, ?_, ?_, ?_, ?_⟩, ?_, ?_, ?_, ?_, ?_⟩ <;> intro R <;> rfl
theorem alike_set (R : Rc Lbs) (ty cl tt : Int) (h : emptyB (clrL [] (rParts R.ty R.cl) R) = true) (hz : (∃ f, Pt.adr f ∈ rParts R.ty R.cl) → R.zn = 0) : Alike (setL R (rParts R.ty R.cl) { zeroR [] with ty := R.ty, cl := R.cl }) R := by
  have hz' := hz
  revert h hz
  rcases rParts_six R.ty R.cl with e | e | e | e | e | e <;> rw [e] at hz' ⊢ <;> intro h hz <;> simp [clrL, clrP, emptyB, upd] at h <;> simp [setL, setP, Alike, zeroR, upd] <;> simp at hz <;> (try refine ⟨?_, ?_⟩) <;> grind
theorem recE_zero {R : Rc Lbs} (h : recE R = 0) : checkL (R.nm 0) = 0 ∧ (inW 2 R.ty = true ∧ inW 2 R.cl = true ∧ inW 4 R.tt = true) ∧ (∀ p ∈ rParts R.ty R.cl, chkP R p = 0) ∧ emptyB (clrL [] (rParts R.ty R.cl) R) = true := by
  unfold recE at h
  by_cases h0 : checkL (R.nm 0) = 0
  · rw [if_pos h0] at h
    by_cases h1 : (inW 2 R.ty && inW 2 R.cl && inW 4 R.tt) = true
    · rw [if_pos h1] at h
      by_cases h2 : chkL (rParts R.ty R.cl) R = 0
      · rw [if_pos h2] at h
        by_cases h3 : emptyB (clrL [] (rParts R.ty R.cl) R) = true
        · rw [Bool.and_eq_true, Bool.and_eq_true] at h1
          exact ⟨h0, ⟨h1.1.1, h1.1.2, h1.2⟩, chkL_all _ R (rParts_ok _ _) h2 (rParts_free _ _), h3⟩
        · rw [if_neg h3] at h; exact absurd h (by decide)
      · rw [if_neg h2] at h; exact absurd h h2
    · rw [if_neg h1] at h; exact absurd h (by decide)
  · rw [if_neg h0] at h; exact absurd h h0
/-- 13.4, over plain lists -/
theorem rec_back (tb : Bool) {R : Rc Lbs} (hip : R.ip.length = 16) (h : recE R = 0) {m : List UInt8} {T : List (Lbs × Int)} (hT : TInv m T) (htb : tb = false → T = []) {O : List UInt8 × List (Lbs × Int)} (hO : octL tb R (rParts R.ty R.cl) m.length T = O) :
    TInv (m ++ O.1) O.2 ∧ ∃ Q, rGet (m ++ O.1) m.length O.1.length R.ty R.cl = (0, Q) ∧ Alike Q R := by
  obtain ⟨_, _, hok, he⟩ := recE_zero h
  have hz : (∃ f, Pt.adr f ∈ rParts R.ty R.cl) → R.zn = 0 := fun ⟨f, hf⟩ => by
    have hc : (if checkE R.fam R.ip R.zn = 0 ∧ R.fam = f ∧ R.zn = 0 then (0 : Int) else 10) = 0 := hok _ hf
    by_cases h : checkE R.fam R.ip R.zn = 0 ∧ R.fam = f ∧ R.zn = 0
    · exact h.2.2
    · rw [if_neg h] at hc; exact absurd hc (by decide)
  have hb := parts_back tb R hip (rParts R.ty R.cl) m T { zeroR [] with ty := R.ty, cl := R.cl } hT htb (rParts_lone _ _) (fun p hp => ⟨rParts_ok _ _ p hp, hok p hp⟩) (fun _ => rfl)
  rw [hO] at hb
  refine ⟨hb.1, _, ?_, alike_set R 0 0 0 he hz⟩
  unfold rGet
  rw [if_neg (by simp only [List.length_append]; omega)]
  have e1 : ((m.length : Int) + (O.1.length : Int)).toNat = (m ++ O.1).length := by simp only [List.length_append]; omega
  have e2 : ((m.length : Int)).toNat = m.length := by omega
  rw [e1, e2, List.take_length, List.drop_left]
  exact hb.2
theorem labs_len : ∀ n : Lbs, n.length ≤ (labsB n).length
  | [] => Nat.le_refl _
  | l :: n => by
    have := labs_len n
    rw [labsB_cons, List.length_append, labB_len]
    show n.length + 1 ≤ _
    omega
theorem octP_tab (tb : Bool) (R : Rc Lbs) (at_ : Int) (T : List (Lbs × Int)) (p : Pt) (h1 : sizeL (R.nm 1) ≤ 401) (h2 : sizeL (R.nm 2) ≤ 401) (hp : PtOk p) : (octP tb R at_ T p).2.length ≤ T.length + 401 ∧ (TOk T → TOk (octP tb R at_ T p).2) := by
  cases p with
  | raw => exact ⟨Nat.le_add_right _ _, id⟩
  | adr f => exact ⟨Nat.le_add_right _ _, id⟩
  | num k w => exact ⟨Nat.le_add_right _ _, id⟩
  | nam k b =>
    show (if (b && tb) = true then ((putO true (R.nm k) at_ T).1, (putO true (R.nm k) at_ T).2.1) else ((putO false (R.nm k) at_ []).1, T)).2.length ≤ _ ∧ (TOk T → TOk (if (b && tb) = true then ((putO true (R.nm k) at_ T).1, (putO true (R.nm k) at_ T).2.1) else ((putO false (R.nm k) at_ []).1, T)).2)
    split
    · refine ⟨?_, putO_ok true _ _ _⟩
      have h := putO_len true (R.nm k) at_ T
      have hl : (R.nm k).length ≤ sizeL (R.nm k) := by rw [← labsB_len]; exact Nat.le_succ_of_le (labs_len (R.nm k))
      have : sizeL (R.nm k) ≤ 401 := by rcases hp with rfl | rfl <;> assumption
      show (putO true (R.nm k) at_ T).2.1.length ≤ _
      omega
    · exact ⟨Nat.le_add_right _ _, id⟩
theorem octL_tab (tb : Bool) (R : Rc Lbs) (h1 : sizeL (R.nm 1) ≤ 401) (h2 : sizeL (R.nm 2) ≤ 401) : ∀ (ps : List Pt) (at_ : Int) (T : List (Lbs × Int)), (∀ p ∈ ps, PtOk p) → (octL tb R ps at_ T).2.length ≤ T.length + 401 * ps.length ∧ (TOk T → TOk (octL tb R ps at_ T).2)
  | [], _, T, _ => ⟨Nat.le_refl _, id⟩
  | p :: ps, at_, T, hok => by
    have a := octP_tab tb R at_ T p h1 h2 (hok p (by simp))
    have b := octL_tab tb R h1 h2 ps (at_ + (octP tb R at_ T p).1.length) (octP tb R at_ T p).2 (fun q hq => hok q (List.mem_cons_of_mem _ hq))
    refine ⟨?_, fun h => b.2 (a.2 h)⟩
    show (octL tb R ps _ _).2.length ≤ _
    have : (p :: ps).length = ps.length + 1 := rfl
    omega
theorem octL_len (tb : Bool) (R : Rc Lbs) : ∀ (ps : List Pt) (at_ : Int) (T : List (Lbs × Int)), (∀ p ∈ ps, PtOk p ∧ chkP R p = 0) → (octL tb R ps at_ T).1.length ≤ 65535 * ps.length
  | [], _, T, _ => Nat.le_refl _
  | p :: ps, at_, T, hok => by
    have a := octP_len tb R at_ T p (hok p (by simp)).1 (hok p (by simp)).2
    have b := octL_len tb R ps (at_ + (octP tb R at_ T p).1.length) (octP tb R at_ T p).2 (fun q hq => hok q (List.mem_cons_of_mem _ hq))
    show ((octP tb R at_ T p).1 ++ (octL tb R ps _ _).1).length ≤ _
    rw [List.length_append]
    have : (p :: ps).length = ps.length + 1 := rfl
    omega
end Go.Proofs.Ytnoabmkmnddkkaa
namespace Go.Proofs.Ytnoabmkmnddkkaa
set_option linter.unusedVariables false
def isNam : Pt → Bool
  | .nam _ _ => true
  | _ => false
theorem octL_tab2 (tb : Bool) (R : Rc Lbs) (h1 : sizeL (R.nm 1) ≤ 401) (h2 : sizeL (R.nm 2) ≤ 401) : ∀ (ps : List Pt) (at_ : Int) (T : List (Lbs × Int)), (∀ p ∈ ps, PtOk p) → (octL tb R ps at_ T).2.length ≤ T.length + 401 * (ps.filter isNam).length
  | [], _, T, _ => Nat.le_refl _
  | p :: ps, at_, T, hok => by
    have a := octP_tab tb R at_ T p h1 h2 (hok p (by simp))
    have b := octL_tab2 tb R h1 h2 ps (at_ + (octP tb R at_ T p).1.length) (octP tb R at_ T p).2 (fun q hq => hok q (List.mem_cons_of_mem _ hq))
    show (octL tb R ps _ _).2.length ≤ _
    cases p with
    | raw => exact b
    | adr f => exact b
    | num k w => exact b
    | nam k bb =>
      have e : ((Pt.nam k bb :: ps).filter isNam).length = (ps.filter isNam).length + 1 := rfl
      rw [e]
      omega
theorem rParts_two (ty cl : Int) : ((rParts ty cl).filter isNam).length ≤ 2 := by
  rcases rParts_six ty cl with h | h | h | h | h | h <;> rw [h] <;> decide
theorem octL_rec (R : Rc Lbs) (hR : recE R = 0) (h1 : sizeL (R.nm 1) ≤ 401) (h2 : sizeL (R.nm 2) ≤ 401) (at_ : Int) (T : List (Lbs × Int)) {O : List UInt8 × List (Lbs × Int)} (hO : octL true R (rParts R.ty R.cl) at_ T = O) :
    O.1.length ≤ 458745 ∧ O.2.length ≤ T.length + 802 ∧ (TOk T → TOk O.2) := by
  obtain ⟨_, _, hok, _⟩ := recE_zero hR
  have a := octL_len true R (rParts R.ty R.cl) at_ T (fun p hp => ⟨rParts_ok _ _ p hp, hok p hp⟩)
  have b := octL_tab2 true R h1 h2 (rParts R.ty R.cl) at_ T (rParts_ok _ _)
  have c := octL_tab true R h1 h2 (rParts R.ty R.cl) at_ T (rParts_ok _ _)
  have d := rParts_len R.ty R.cl
  have e := rParts_two R.ty R.cl
  rw [hO] at a b c
  refine ⟨?_, ?_, c.2⟩ <;> omega
end Go.Proofs.Ytnoabmkmnddkkaa
