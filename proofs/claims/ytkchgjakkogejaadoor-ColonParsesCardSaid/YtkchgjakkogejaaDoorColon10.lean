/- Layer 8: colon.octets. -/
import Derived.Test.YtkchgjakkogejaaDoorColon9
namespace Go.Proofs.YtkchgjakkogejaaDoor
open Go.RowKit Go
set_option linter.unusedVariables false
set_option maxRecDepth 100000
theorem Ats.join {B : Nat} {w0 w w' : World} {L L2 : List (Nat × TypeId × Array Value)} (S : Ats B w0 w L) (S2 : Ats w.heap.size w w' L2) : Ats B w0 w' (L2 ++ L) := by
  refine ⟨S.below.trans (S2.below.mono S.big), Nat.le_trans S.big S2.below.size, fun x hx => ?_, ?_⟩
  · rcases List.mem_append.1 hx with h | h
    · exact ⟨Nat.le_trans S.big (S2.at_ x h).1, (S2.at_ x h).2⟩
    · exact (S.call S2.below).at_ x h
  · rw [List.map_append, List.nodup_append]
    refine ⟨S2.apart, S.apart, fun a ha b hb e => ?_⟩
    obtain ⟨x, hx, rfl⟩ := List.mem_map.1 ha
    obtain ⟨y, hy, rfl⟩ := List.mem_map.1 hb
    have h1 := (S2.at_ x hx).1
    have h2 := (S.at_ y hy).2.lt
    omega
def octV (o : Option (List UInt8)) : Value := match o with
  | some b => .tuple #[.agg (b.map cellU).toArray, .bool true]
  | none => .tuple #[.agg z16.toArray, .bool false]
theorem octR_X {gap : Bool} {x y : List Nat} {X Y : List UInt8} (hX : X = bytesG x) (hY : Y = bytesG y) : octR gap (some x) (some y) = if fitB (X.length + Y.length) gap = true then some (X ++ List.replicate (16 - X.length - Y.length) 0 ++ Y) else none := by
  rw [hX, hY, bytesG_len, bytesG_len]
  rfl
def HalfX (X : List UInt8) (n : Nat) (B : Nat) (w : World) (e : Ending) (w' : World) : Prop := (∃ A c, e = .returned (.tuple #[.slice A n c, .bool true]) ∧ IntsAt w' .u8 A n (bInts X)) ∧ Below B w w'
theorem halfX_any (f : List UInt8) (m : List Nat) (X : List UInt8) (n : Nat) (last : Bool) (w : World) (hs : f.length ≤ 4000) (hP : P10 w) (h : sideC last f = some m) (hX : X = bytesG m) (hn : n = X.length) :
    Calls Tryd.prog 27 #[.string ⟨f.toArray⟩, .bool last] w fun e w' => HalfX X n w.heap.size w e w' := by
  refine (halfY_any f m last w hs hP h).mono ?_
  rintro e w' ⟨⟨A, c, he, hi, _⟩, hb⟩
  have hl : n = 2 * m.length := by rw [hn, hX, bytesG_len]
  subst hX
  rw [← hl] at he hi
  exact ⟨⟨A, c, he, hi⟩, hb⟩
theorem fit_any2 (n m : Nat) (b : Bool) (w : World) :
    Calls Tryd.prog 28 #[.int .i64 ((n : Int) + m), .bool b] w fun e w' => e = .returned (.bool (fitB (n + m) b)) ∧ w = w' := by
  have := fit_any (n + m) b w
  rw [Int.natCast_add] at this
  exact this
theorem side_short (last : Bool) (f : List UInt8) (m : List Nat) (h : sideC last f = some m) : m.length ≤ 20 := by
  unfold sideC at h
  split at h
  · injection h with h; subst h; decide
  · have key : ∀ (L : List (List UInt8)) (m : List Nat), sideP last L = some m → m.length ≤ 2 * L.length := by
      intro L
      induction L with
      | nil => intro m h; rw [sideP] at h; injection h with h; subst h; simp
      | cons p r ih =>
        intro m h
        rw [sideP] at h
        split at h
        · obtain ⟨m', h1, rfl⟩ := Option.map_eq_some_iff.1 h
          have := ih m' h1
          simp; omega
        · split at h
          · obtain ⟨b, _, rfl⟩ := Option.map_eq_some_iff.1 h
            simp [grp2]; omega
          · cases h
    have h1 := key _ m h
    have h2 := cutXN_len 58 f 7
    omega
set_option maxHeartbeats 4000000 in
theorem octets_any (s : ByteArray) (w : World) (hs : s.size ≤ 4000) (hP : P10 w) (hM : MX w) :
    Calls Tryd.prog 11 #[.string s] w fun e w' => e = .returned (octV (octE s.data.toList)) ∧ Below w.heap.size w w' := by
  have S := Ats.start w
  have hsz := Lib.size_eq s
  have hPd : ∀ wr L, Ats w.heap.size w wr L → P10 wr := fun wr L h => hP.below (Nat.le_refl _) h.below
  have hMd : ∀ wr L, Ats w.heap.size w wr L → MX wr := fun wr L h => hM.below (Nat.le_refl _) h.below
  have HPd := Lib.hid hPd
  have HMd := Lib.hid hMd
  have hcut := fun wr (h : MX wr) => cutD_any s wr hs h
  have hpar := cut_parts s.data.toList
  obtain ⟨O, hO⟩ : ∃ O, O = octE s.data.toList := ⟨_, rfl⟩
  rw [← hO] at hpar ⊢
  have h16 : (Tryd.prog.info? 23).map (·.size) = some z16.toArray.size := z16Size
  clear hPd hMd hP hM hO
  rcases hpar with ⟨f, b, hc, ho, hf, hb⟩ | ⟨hc, ho⟩
  · rw [hc] at hcut
    simp only at hcut
    have HC := Lib.hid hcut
    rw [← hsz] at hf hb
    clear hcut hc hsz
    cases hx : sideC false f with
    | none =>
      rw [hx, octR_none1] at ho
      have HO := Lib.hid ho
      have HX := Lib.hid (fun wr (h : P10 wr) => halfN_any f false wr (by omega) h hx)
      have HY := Lib.hid (fun wr (h : P10 wr) => halfW_any b true wr (by omega) h)
      clear hx ho
      go_enter Tryd.func11, Tryd.ntmps11
      go_wp2_with (first | ((with_reducible show wpList _ _ _ (Oper.mk (some 2) (Op.alloc _) _ _ _ _ :: _) _ _); refine wpList_allocS rfl _ rfl _ z16Zero S ?_; clear S; intro gr w1 S))
      with_reducible refine (HC.out _ (HMd.out _ _ S)).mono ?_
      rintro e w2 ⟨rfl, hb⟩
      have S := S.call hb
      clear hb
      go_wp2_with fail
      with_reducible refine (HX.out _ (HPd.out _ _ S)).mono ?_
      rintro e w3 ⟨rfl, hb⟩
      have S := S.call hb
      clear hb
      go_wp2_with fail
      with_reducible refine (HY.out _ (HPd.out _ _ S)).mono ?_
      rintro e w4 ⟨⟨A, n, c, bb, rfl⟩, hb⟩
      have S := S.call hb
      clear hb
      cases bb
      all_goals
        go_wp2_with (first | ((with_reducible show wpList _ _ _ (Oper.mk _ (Op.store _ _ _) _ _ _ _ :: _) _ _); refine wpList_storeS rfl _ _ _ rfl S _ rfl _ rfl 0 _ _ rfl z16Size (by rfl) (by simp [Value.oneCell']) ?_; clear S; intro w1 S; (first | simp only [List.set_cons_zero] at S | simp only [List.set_cons_succ, List.set_cons_zero] at S | skip)))
        exact bodyPost_ret (results_cell2S rfl _ S _ 0 _ _ _ rfl rfl Tryd.underlying23 rfl h16) rfl ⟨by rw [HO.out]; rfl, S.below⟩
    | some x =>
      cases hy : sideC true b with
      | none =>
        rw [hx, hy, octR_none2] at ho
        have HO := Lib.hid ho
        have HX := Lib.hid (fun wr (h : P10 wr) => halfY_any f x false wr (by omega) h hx)
        have HY := Lib.hid (fun wr (h : P10 wr) => halfN_any b true wr (by omega) h hy)
        clear hx hy ho
        go_enter Tryd.func11, Tryd.ntmps11
        go_wp2_with (first | ((with_reducible show wpList _ _ _ (Oper.mk (some 2) (Op.alloc _) _ _ _ _ :: _) _ _); refine wpList_allocS rfl _ rfl _ z16Zero S ?_; clear S; intro gr w1 S))
        with_reducible refine (HC.out _ (HMd.out _ _ S)).mono ?_
        rintro e w2 ⟨rfl, hb⟩
        have S := S.call hb
        clear hb
        go_wp2_with fail
        with_reducible refine (HX.out _ (HPd.out _ _ S)).mono ?_
        rintro e w3 ⟨⟨A, c, rfl, _, _⟩, hb⟩
        have S := S.call hb
        clear hb
        go_wp2_with fail
        with_reducible refine (HY.out _ (HPd.out _ _ S)).mono ?_
        rintro e w4 ⟨rfl, hb⟩
        have S := S.call hb
        clear hb
        go_wp2_with (first | ((with_reducible show wpList _ _ _ (Oper.mk _ (Op.store _ _ _) _ _ _ _ :: _) _ _); refine wpList_storeS rfl _ _ _ rfl S _ rfl _ rfl 0 _ _ rfl z16Size (by rfl) (by simp [Value.oneCell']) ?_; clear S; intro w1 S; (first | simp only [List.set_cons_zero] at S | simp only [List.set_cons_succ, List.set_cons_zero] at S | skip)))
        exact bodyPost_ret (results_cell2S rfl _ S _ 0 _ _ _ rfl rfl Tryd.underlying23 rfl h16) rfl ⟨by rw [HO.out]; rfl, S.below⟩
      | some y =>
        have hxs := side_short _ _ _ hx
        have hys := side_short _ _ _ hy
        obtain ⟨X, hX⟩ : ∃ X, X = bytesG x := ⟨_, rfl⟩
        obtain ⟨Y, hY⟩ : ∃ Y, Y = bytesG y := ⟨_, rfl⟩
        have hXl : X.length = 2 * x.length := by rw [hX, bytesG_len]
        have hYl : Y.length = 2 * y.length := by rw [hY, bytesG_len]
        rw [hx, hy, octR_X hX hY] at ho
        obtain ⟨n1, hn1⟩ : ∃ n, n = X.length := ⟨_, rfl⟩
        obtain ⟨n2, hn2⟩ : ∃ n, n = Y.length := ⟨_, rfl⟩
        have b1 : n1 ≤ 40 := by omega
        have b2 : n2 ≤ 40 := by omega
        rw [← hn1, ← hn2] at ho
        have HX := Lib.hid (fun wr (h : P10 wr) => halfX_any f x X n1 false wr (by omega) h hx hX hn1)
        have HY := Lib.hid (fun wr (h : P10 wr) => halfX_any b y Y n2 true wr (by omega) h hy hY hn2)
        obtain ⟨fb, hfb⟩ : ∃ fb, fb = fitB (n1 + n2) true := ⟨_, rfl⟩
        have hft := fun wr => fit_any2 n1 n2 true wr
        rw [← hfb] at ho hft
        have HF := Lib.hid hft
        have HN1 := Lib.hid hn1
        have HN2 := Lib.hid hn2
        have hle : fb = true → n1 + n2 ≤ 16 := fun h => fitB_le (hfb.symm.trans h)
        clear hx hy hX hY hXl hYl hn1 hn2 hxs hys hft hfb
        cases fb with
        | false =>
          rw [if_neg (by simp)] at ho
          have HO := Lib.hid ho
          clear ho hle
          go_enter Tryd.func11, Tryd.ntmps11
          go_wp2_with (first | ((with_reducible show wpList _ _ _ (Oper.mk (some 2) (Op.alloc _) _ _ _ _ :: _) _ _); refine wpList_allocS rfl _ rfl _ z16Zero S ?_; clear S; intro gr w1 S))
          with_reducible refine (HC.out _ (HMd.out _ _ S)).mono ?_
          rintro e w2 ⟨rfl, hb⟩
          have S := S.call hb
          clear hb
          go_wp2_with fail
          with_reducible refine (HX.out _ (HPd.out _ _ S)).mono ?_
          rintro e w3 ⟨⟨A, c, rfl, _⟩, hb⟩
          have S := S.call hb
          clear hb
          go_wp2_with fail
          with_reducible refine (HY.out _ (HPd.out _ _ S)).mono ?_
          rintro e w4 ⟨⟨A', c', rfl, _⟩, hb⟩
          have S := S.call hb
          clear hb
          go_wp2_with (first
            | ((with_reducible refine (HF.out _).mono ?_); rintro e w5 ⟨rfl, hq⟩; subst hq)
            | ((with_reducible show wpList _ _ _ (Oper.mk _ (Op.store _ _ _) _ _ _ _ :: _) _ _); refine wpList_storeS rfl _ _ _ rfl S _ rfl _ rfl 0 _ _ rfl z16Size (by rfl) (by simp [Value.oneCell']) ?_; clear S; intro w1 S; (first | simp only [List.set_cons_zero] at S | simp only [List.set_cons_succ, List.set_cons_zero] at S | skip)))
          exact bodyPost_ret (results_cell2S rfl _ S _ 0 _ _ _ rfl rfl Tryd.underlying23 rfl h16) rfl ⟨by rw [HO.out]; rfl, S.below⟩
        | true =>
          rw [if_pos rfl] at ho
          have hle' := hle rfl
          have hcells := cells_two X Y (by rw [← HN1.out, ← HN2.out]; exact hle')
          rw [← HN1.out, ← HN2.out] at hcells
          have hsa := slice16_all
          have hsl := fun g w => slice16_l g (16 - n2) (by omega) w
          rw [show ((16 - n2 : Nat) : Int) = 16 - (n2 : Int) by omega, show 16 - (16 - n2) = n2 by omega] at hsl
          have hz1 : (splice z16 0 (intVs .u8 (bInts X))).length = 16 := by rw [length_splice _ _ _ (by rw [intVs_len, bInts_len, ← HN1.out]; show 0 + n1 ≤ 16; omega)]; rfl
          obtain ⟨R, hR⟩ : ∃ R, R = X ++ List.replicate (16 - n1 - n2) 0 ++ Y := ⟨_, rfl⟩
          have hRl : R.length = 16 := by rw [hR]; simp; rw [← HN1.out, ← HN2.out]; omega
          rw [← hR] at ho hcells
          have HO := Lib.hid ho
          have HCE := Lib.hid hcells
          have HZ1 := Lib.hid hz1
          have hRs : (Tryd.prog.info? 23).map (·.size) = some (R.map cellU).toArray.size := by rw [z16Size]; simp [hRl]
          have hR1 : (R.map cellU).toArray.all (·.oneCell') = true := by simp [cellU, Value.oneCell']
          clear ho hle hcells hz1 hR
          go_enter Tryd.func11, Tryd.ntmps11
          go_wp2_with (first | ((with_reducible show wpList _ _ _ (Oper.mk (some 2) (Op.alloc _) _ _ _ _ :: _) _ _); refine wpList_allocS rfl _ rfl _ z16Zero S ?_; clear S; intro gr w1 S))
          with_reducible refine (HC.out _ (HMd.out _ _ S)).mono ?_
          rintro e w2 ⟨rfl, hb⟩
          have S := S.call hb
          clear hb
          go_wp2_with fail
          with_reducible refine (HX.out _ (HPd.out _ _ S)).mono ?_
          rintro e w3 ⟨⟨A, c, rfl, hi⟩, hb⟩
          have S := S.call hb
          have HI := Lib.hid hi
          clear hb hi
          go_wp2_with fail
          with_reducible refine (HY.out _ (HPd.out _ _ S)).mono ?_
          rintro e w4 ⟨⟨A', c', rfl, hi'⟩, hb⟩
          have S0 := S.call hb
          have HI2 := Lib.hid (HI.out.below hb)
          have HI' := Lib.hid hi'
          clear hb hi' HI S
          have S := Ats.start w4
          go_wp2_with (first
            | ((with_reducible refine (HF.out _).mono ?_); rintro e w5 ⟨rfl, hq⟩; subst hq)
            | ((with_reducible show wpList _ _ _ (Oper.mk (some 11) (Op.alloc _) _ _ _ _ :: _) _ _); refine wpList_allocS rfl _ rfl _ z16Zero S ?_; clear S; intro gi w1 S)
            | ((with_reducible show wpList _ _ _ (Oper.mk (some 50) _ _ _ _ _ :: _) _ _); refine wpList_copyInts rfl (.tmp 48) (.tmp 49) 47 47 rfl 5 Tryd.underlying47 u8Size S 0 gi 23 z16 rfl (some ⟨gi, 0, none⟩) 0 16 16 n1 c A .u8 (bInts X) (fun _ => rfl) rfl rfl (HI2.out.below S.below) (by omega) (by show 0 + n1 ≤ 16; omega) ?_; clear S; intro w6 S; simp only [List.set_cons_zero] at S)
            | ((with_reducible show wpList _ _ _ (Oper.mk (some 56) _ _ _ _ _ :: _) _ _); refine wpList_copyInts rfl (.tmp 54) (.tmp 55) 47 47 rfl 5 Tryd.underlying47 u8Size S 0 gi 23 (splice z16 0 (intVs .u8 (bInts X))) rfl (some (at16 gi (16 - n2))) (16 - n2) n2 n2 n2 c' A' .u8 (bInts Y) (fun h => by unfold at16; rw [if_neg (by omega)]) rfl rfl (HI'.out.below S.below) (Nat.le_refl _) (by rw [HZ1.out]; omega) ?_; clear S; intro w7 S; simp only [List.set_cons_zero, HCE.out] at S; have S := S0.join S)
            | ((with_reducible show wpList _ _ _ (Oper.mk _ (Op.load _ _) _ _ _ _ :: _) _ _); refine wpList_loadS rfl _ _ rfl S _ rfl 0 _ _ rfl _ Tryd.underlying23 rfl hRs ?_)
            | ((with_reducible show wpList _ _ _ (Oper.mk _ (Op.store _ _ _) _ _ _ _ :: _) _ _); refine wpList_storeS rfl _ _ _ rfl S _ rfl _ rfl 1 _ _ rfl hRs (by simp [z16, hRl, Value.cells]) (by exact hR1) ?_; clear S; intro w1 S; (first | simp only [List.set_cons_zero] at S | simp only [List.set_cons_succ, List.set_cons_zero] at S | skip)))
          exact bodyPost_ret (results_cell2S rfl _ S _ 1 _ _ _ rfl rfl Tryd.underlying23 rfl hRs) rfl ⟨by rw [HO.out]; rfl, S.below⟩
  · rw [hc] at hcut
    simp only at hcut
    have HC := Lib.hid hcut
    have hb : s.data.toList.length ≤ 4000 := by rw [← hsz]; exact hs
    obtain ⟨b, hbb⟩ : ∃ b, b = s.data.toList := ⟨_, rfl⟩
    have hsb : s = ⟨b.toArray⟩ := by rw [hbb]
    rw [← hbb] at ho hb HC
    clear hcut hc hsz hbb
    subst hsb
    obtain ⟨x, hx⟩ : ∃ x, sideC false [] = some x := ⟨[], rfl⟩
    cases hy : sideC true b with
    | none =>
      rw [hx, hy, octR_none2] at ho
      have HO := Lib.hid ho
      have HX := Lib.hid (fun wr (h : P10 wr) => halfY_any ([] : List UInt8) x false wr (by decide) h hx)
      have HY := Lib.hid (fun wr (h : P10 wr) => halfN_any b true wr (by omega) h hy)
      clear hx hy ho
      go_enter Tryd.func11, Tryd.ntmps11
      go_wp2_with (first | ((with_reducible show wpList _ _ _ (Oper.mk (some 2) (Op.alloc _) _ _ _ _ :: _) _ _); refine wpList_allocS rfl _ rfl _ z16Zero S ?_; clear S; intro gr w1 S))
      with_reducible refine (HC.out _ (HMd.out _ _ S)).mono ?_
      rintro e w2 ⟨rfl, hb⟩
      have S := S.call hb
      clear hb
      go_wp2_with fail
      with_reducible refine (HX.out _ (HPd.out _ _ S)).mono ?_
      rintro e w3 ⟨⟨A, c, rfl, _, _⟩, hb⟩
      have S := S.call hb
      clear hb
      go_wp2_with fail
      with_reducible refine (HY.out _ (HPd.out _ _ S)).mono ?_
      rintro e w4 ⟨rfl, hb⟩
      have S := S.call hb
      clear hb
      go_wp2_with (first | ((with_reducible show wpList _ _ _ (Oper.mk _ (Op.store _ _ _) _ _ _ _ :: _) _ _); refine wpList_storeS rfl _ _ _ rfl S _ rfl _ rfl 0 _ _ rfl z16Size (by rfl) (by simp [Value.oneCell']) ?_; clear S; intro w1 S; (first | simp only [List.set_cons_zero] at S | simp only [List.set_cons_succ, List.set_cons_zero] at S | skip)))
      exact bodyPost_ret (results_cell2S rfl _ S _ 0 _ _ _ rfl rfl Tryd.underlying23 rfl h16) rfl ⟨by rw [HO.out]; rfl, S.below⟩
    | some y =>
      have hxs := side_short _ _ _ hx
      have hys := side_short _ _ _ hy
      obtain ⟨X, hX⟩ : ∃ X, X = bytesG x := ⟨_, rfl⟩
      obtain ⟨Y, hY⟩ : ∃ Y, Y = bytesG y := ⟨_, rfl⟩
      have hXl : X.length = 2 * x.length := by rw [hX, bytesG_len]
      have hYl : Y.length = 2 * y.length := by rw [hY, bytesG_len]
      rw [hx, hy, octR_X hX hY] at ho
      obtain ⟨n1, hn1⟩ : ∃ n, n = X.length := ⟨_, rfl⟩
      obtain ⟨n2, hn2⟩ : ∃ n, n = Y.length := ⟨_, rfl⟩
      have b1 : n1 ≤ 40 := by omega
      have b2 : n2 ≤ 40 := by omega
      rw [← hn1, ← hn2] at ho
      have HX := Lib.hid (fun wr (h : P10 wr) => halfX_any ([] : List UInt8) x X n1 false wr (by decide) h hx hX hn1)
      have HY := Lib.hid (fun wr (h : P10 wr) => halfX_any b y Y n2 true wr (by omega) h hy hY hn2)
      obtain ⟨fb, hfb⟩ : ∃ fb, fb = fitB (n1 + n2) false := ⟨_, rfl⟩
      have hft := fun wr => fit_any2 n1 n2 false wr
      rw [← hfb] at ho hft
      have HF := Lib.hid hft
      have HN1 := Lib.hid hn1
      have HN2 := Lib.hid hn2
      have hle : fb = true → n1 + n2 ≤ 16 := fun h => fitB_le (hfb.symm.trans h)
      clear hx hy hX hY hXl hYl hn1 hn2 hxs hys hft hfb
      cases fb with
      | false =>
        rw [if_neg (by simp)] at ho
        have HO := Lib.hid ho
        clear ho hle
        go_enter Tryd.func11, Tryd.ntmps11
        go_wp2_with (first | ((with_reducible show wpList _ _ _ (Oper.mk (some 2) (Op.alloc _) _ _ _ _ :: _) _ _); refine wpList_allocS rfl _ rfl _ z16Zero S ?_; clear S; intro gr w1 S))
        with_reducible refine (HC.out _ (HMd.out _ _ S)).mono ?_
        rintro e w2 ⟨rfl, hb⟩
        have S := S.call hb
        clear hb
        go_wp2_with fail
        with_reducible refine (HX.out _ (HPd.out _ _ S)).mono ?_
        rintro e w3 ⟨⟨A, c, rfl, _⟩, hb⟩
        have S := S.call hb
        clear hb
        go_wp2_with fail
        with_reducible refine (HY.out _ (HPd.out _ _ S)).mono ?_
        rintro e w4 ⟨⟨A', c', rfl, _⟩, hb⟩
        have S := S.call hb
        clear hb
        go_wp2_with (first
          | ((with_reducible refine (HF.out _).mono ?_); rintro e w5 ⟨rfl, hq⟩; subst hq)
          | ((with_reducible show wpList _ _ _ (Oper.mk _ (Op.store _ _ _) _ _ _ _ :: _) _ _); refine wpList_storeS rfl _ _ _ rfl S _ rfl _ rfl 0 _ _ rfl z16Size (by rfl) (by simp [Value.oneCell']) ?_; clear S; intro w1 S; (first | simp only [List.set_cons_zero] at S | simp only [List.set_cons_succ, List.set_cons_zero] at S | skip)))
        exact bodyPost_ret (results_cell2S rfl _ S _ 0 _ _ _ rfl rfl Tryd.underlying23 rfl h16) rfl ⟨by rw [HO.out]; rfl, S.below⟩
      | true =>
        rw [if_pos rfl] at ho
        have hle' := hle rfl
        have hcells := cells_two X Y (by rw [← HN1.out, ← HN2.out]; exact hle')
        rw [← HN1.out, ← HN2.out] at hcells
        have hsa := slice16_all
        have hsl := fun g w => slice16_l g (16 - n2) (by omega) w
        rw [show ((16 - n2 : Nat) : Int) = 16 - (n2 : Int) by omega, show 16 - (16 - n2) = n2 by omega] at hsl
        have hz1 : (splice z16 0 (intVs .u8 (bInts X))).length = 16 := by rw [length_splice _ _ _ (by rw [intVs_len, bInts_len, ← HN1.out]; show 0 + n1 ≤ 16; omega)]; rfl
        obtain ⟨R, hR⟩ : ∃ R, R = X ++ List.replicate (16 - n1 - n2) 0 ++ Y := ⟨_, rfl⟩
        have hRl : R.length = 16 := by rw [hR]; simp; rw [← HN1.out, ← HN2.out]; omega
        rw [← hR] at ho hcells
        have HO := Lib.hid ho
        have HCE := Lib.hid hcells
        have HZ1 := Lib.hid hz1
        have hRs : (Tryd.prog.info? 23).map (·.size) = some (R.map cellU).toArray.size := by rw [z16Size]; simp [hRl]
        have hR1 : (R.map cellU).toArray.all (·.oneCell') = true := by simp [cellU, Value.oneCell']
        clear ho hle hcells hz1 hR
        go_enter Tryd.func11, Tryd.ntmps11
        go_wp2_with (first | ((with_reducible show wpList _ _ _ (Oper.mk (some 2) (Op.alloc _) _ _ _ _ :: _) _ _); refine wpList_allocS rfl _ rfl _ z16Zero S ?_; clear S; intro gr w1 S))
        with_reducible refine (HC.out _ (HMd.out _ _ S)).mono ?_
        rintro e w2 ⟨rfl, hb⟩
        have S := S.call hb
        clear hb
        go_wp2_with fail
        with_reducible refine (HX.out _ (HPd.out _ _ S)).mono ?_
        rintro e w3 ⟨⟨A, c, rfl, hi⟩, hb⟩
        have S := S.call hb
        have HI := Lib.hid hi
        clear hb hi
        go_wp2_with fail
        with_reducible refine (HY.out _ (HPd.out _ _ S)).mono ?_
        rintro e w4 ⟨⟨A', c', rfl, hi'⟩, hb⟩
        have S0 := S.call hb
        have HI2 := Lib.hid (HI.out.below hb)
        have HI' := Lib.hid hi'
        clear hb hi' HI S
        have S := Ats.start w4
        go_wp2_with (first
          | ((with_reducible refine (HF.out _).mono ?_); rintro e w5 ⟨rfl, hq⟩; subst hq)
          | ((with_reducible show wpList _ _ _ (Oper.mk (some 11) (Op.alloc _) _ _ _ _ :: _) _ _); refine wpList_allocS rfl _ rfl _ z16Zero S ?_; clear S; intro gi w1 S)
          | ((with_reducible show wpList _ _ _ (Oper.mk (some 50) _ _ _ _ _ :: _) _ _); refine wpList_copyInts rfl (.tmp 48) (.tmp 49) 47 47 rfl 5 Tryd.underlying47 u8Size S 0 gi 23 z16 rfl (some ⟨gi, 0, none⟩) 0 16 16 n1 c A .u8 (bInts X) (fun _ => rfl) rfl rfl (HI2.out.below S.below) (by omega) (by show 0 + n1 ≤ 16; omega) ?_; clear S; intro w6 S; simp only [List.set_cons_zero] at S)
          | ((with_reducible show wpList _ _ _ (Oper.mk (some 56) _ _ _ _ _ :: _) _ _); refine wpList_copyInts rfl (.tmp 54) (.tmp 55) 47 47 rfl 5 Tryd.underlying47 u8Size S 0 gi 23 (splice z16 0 (intVs .u8 (bInts X))) rfl (some (at16 gi (16 - n2))) (16 - n2) n2 n2 n2 c' A' .u8 (bInts Y) (fun h => by unfold at16; rw [if_neg (by omega)]) rfl rfl (HI'.out.below S.below) (Nat.le_refl _) (by rw [HZ1.out]; omega) ?_; clear S; intro w7 S; simp only [List.set_cons_zero, HCE.out] at S; have S := S0.join S)
          | ((with_reducible show wpList _ _ _ (Oper.mk _ (Op.load _ _) _ _ _ _ :: _) _ _); refine wpList_loadS rfl _ _ rfl S _ rfl 0 _ _ rfl _ Tryd.underlying23 rfl hRs ?_)
          | ((with_reducible show wpList _ _ _ (Oper.mk _ (Op.store _ _ _) _ _ _ _ :: _) _ _); refine wpList_storeS rfl _ _ _ rfl S _ rfl _ rfl 1 _ _ rfl hRs (by simp [z16, hRl, Value.cells]) (by exact hR1) ?_; clear S; intro w1 S; (first | simp only [List.set_cons_zero] at S | simp only [List.set_cons_succ, List.set_cons_zero] at S | skip)))
        exact bodyPost_ret (results_cell2S rfl _ S _ 1 _ _ _ rfl rfl Tryd.underlying23 rfl hRs) rfl ⟨by rw [HO.out]; rfl, S.below⟩
end Go.Proofs.YtkchgjakkogejaaDoor
