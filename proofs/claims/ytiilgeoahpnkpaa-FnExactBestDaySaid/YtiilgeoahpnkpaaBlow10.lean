/-
  Blowers: the cheapest set of enough power, for one hour: the program's walks and the model's.
-/
import Derived.Test.YtiilgeoahpnkpaaBlow5
namespace Go.Proofs.Ytiilgeoahpnkpaa
open Go.RowKit

/-- Enough power. -/
def pwB (ts : List TBlower) (n : Nat) (f : Int) (s : Nat) : Bool := decide (f ≤ sumS (pwN ts) s n)
/-- The first one of the cheapest, and its cost. -/
def chE (p : Nat → Bool) (c : Nat → Int) : Nat → Nat × Int
  | 0 => (0, 9223372036854775807)
  | i + 1 => if p i = true ∧ c i < (chE p c i).2 then (i, c i) else chE p c i
theorem chE_of {p : Nat → Bool} {c : Nat → Int} (hc : ∀ i, c i < 9223372036854775807) : ∀ i, ((chE p c i).2 = 9223372036854775807 ∧ ∀ j, j < i → p j = false) ∨ ((chE p c i).2 = c (chE p c i).1 ∧ p (chE p c i).1 = true ∧ (chE p c i).1 < i)
  | 0 => .inl ⟨rfl, fun j hj => by omega⟩
  | i + 1 => by
    have ih := chE_of (p := p) hc i
    rw [chE]
    by_cases h : p i = true ∧ c i < (chE p c i).2
    · rw [if_pos h]
      exact .inr ⟨rfl, h.1, by simp⟩
    · rw [if_neg h]
      rcases ih with ⟨h1, h2⟩ | ⟨h1, h2, h3⟩
      · have hp : p i = false := by
          cases hp : p i with
          | false => rfl
          | true => exact absurd ⟨hp, by rw [h1]; exact hc i⟩ h
        exact .inl ⟨h1, fun j hj => if e : j = i then (by rw [e]; exact hp) else h2 j (by omega)⟩
      · exact .inr ⟨h1, h2, by omega⟩
theorem sumS_top {f : Nat → Int} (hf : ∀ i, 0 ≤ f i) (s n : Nat) : ∀ k, k ≤ n → sumS f s k ≤ sumS f (2 ^ n - 1) k
  | 0, _ => Int.le_refl _
  | k + 1, hk => by
    have ih := sumS_top hf s n k (by omega)
    have hb : (2 ^ n - 1).testBit k = true := by rw [Nat.testBit_two_pow_sub_one]; simp; omega
    have := hf k
    rw [sumS, sumS, hb, if_pos rfl]
    split <;> omega
theorem pwN_nn {ts : List TBlower} (h : blsB ts = true) (i : Nat) : 0 ≤ pwN ts i := by
  by_cases hi : i < ts.length
  · rw [pwN_at hi]; have := (blsB_of h).2 i hi; omega
  · unfold pwN; rw [List.getD_eq_getElem?_getD, List.getElem?_eq_none (by omega)]; exact Int.le_refl _
theorem pwB_top {ts : List TBlower} (h : blsB ts = true) {n s : Nat} {f : Int} (hs : pwB ts n f s = true) : pwB ts n f (2 ^ n - 1) = true := by
  have := sumS_top (pwN_nn h) s n n (Nat.le_refl _)
  unfold pwB at hs ⊢
  have := of_decide_eq_true hs
  exact decide_eq_true (by omega)
def allS (ts : List TBlower) : Nat := 2 ^ ts.length - 1
def cheapOf (ts : List TBlower) (f : Int) : Int × Int :=
  if blsB ts = true then (if inB f 0 1000 = true then (if pwB ts ts.length f (allS ts) = true then (((chE (pwB ts ts.length f) (stepS ts 0) (2 ^ ts.length)).1 : Int), 0) else (0, 3)) else (0, 2)) else (0, 1)
set_option maxHeartbeats 1000000 in
theorem costAlone_any (g n c s : Nat) (ts : List TBlower) (N : Nat) (w : World) (hb : blsB ts = true) (hn : Hid (ts.length = n)) (hN : Hid (N = 2 ^ n)) (hr : RR 3 cBlower w (some ⟨g, 0, none⟩) (bankL ts n)) (hs : s < N) :
    Calls Try.prog 73 #[.slice (some ⟨g, 0, none⟩) N c, .int .i64 s] w fun e w' => e = .returned (.int .i64 (stepS ts 0 s)) ∧ ∃ m, w' = w.drewN m := by
  have CA := costAfter_any g n c 0 s ts N w hb hn hN hr hs (by omega)
  clear hr hb
  go_enter Try.func73, Try.ntmps73
  go_wp2_with (go_at_call 77; refine CA.mono ?_; rintro e w4 ⟨rfl, m2, rfl⟩)
  go_ret
  exact ⟨rfl, _, rfl⟩
set_option maxRecDepth 20000 in
set_option maxHeartbeats 2000000 in
theorem cheapAlone_any (g n c : Nat) (f : Int) (ts : List TBlower) (N : Nat) (cf : Nat → Int) (w : World) (hN : Hid (N = 2 ^ n)) (hr : RR 3 cBlower w (some ⟨g, 0, none⟩) (bankL ts n)) (h16 : N ≤ 16)
    (hcost : ∀ m i : Nat, i < N → Calls Try.prog 73 #[.slice (some ⟨g, 0, none⟩) N c, .int .i64 i] (w.drewN m) fun e w' => e = .returned (.int .i64 (cf i)) ∧ ∃ m2, w' = (w.drewN m).drewN m2) :
    Calls Try.prog 72 #[.slice (some ⟨g, 0, none⟩) N c, .int .i64 f, .func (.func 73) #[.slice (some ⟨g, 0, none⟩) N c] #[]] w fun e w' => e = .returned (.tuple #[.int .i64 (((chE (pwB ts n f) cf N).1 : Nat) : Int), .int .i64 (chE (pwB ts n f) cf N).2]) ∧ ∃ m, w' = w.drewN m := by
  have HC := Lib.hid hcost
  have HPW : Hid (∀ m i : Nat, i < N → Calls Try.prog 82 #[.slice (some ⟨g, 0, none⟩) N c, .int .i64 i, .int .i64 f] (w.drewN m) fun e w' => e = .returned (.bool (pwB ts n f i)) ∧ w.drewN m = w') := fun m i hi => hasPower_any g n c i f ts N _ hN (hr.below (Below.drewN' (Below.refl _ _) m)) hi
  clear hcost hr
  go_enter Try.func72, Try.ntmps72
  go_wp2
  go_loopw [8, 9, 14] (fun fv lv iv wr => ∃ (i x m : Nat) (y : Int), i ≤ N ∧ fv = .int .i64 x ∧ lv = .int .i64 y ∧ iv = .int .i64 i ∧ wr = w.drewN m ∧ Hid (chE (pwB ts n f) cf i = (x, y))) (fun _ _ iv _ => N - (intOf iv).toNat)
  case atStart => exact ⟨0, 0, 0, 9223372036854775807, by omega, rfl, rfl, rfl, rfl, rfl⟩
  case round =>
    obtain ⟨i, x, m, y, hi, rfl, rfl, rfl, rfl, HX⟩ := hrel
    by_cases hlt : i < N
    · have hk0 : (0 : Int) ≤ (i : Int) := by omega
      have hk1 : (i : Int) < (N : Int) := by omega
      have PW := HPW.out m i hlt
      have CC := Lib.hid (fun q => HC.out q i hlt)
      have HYES : Hid (pwB ts n f i = true → cf i < y → chE (pwB ts n f) cf (i + 1) = (i, cf i)) := fun h1 h2 => by rw [chE, HX.out, if_pos ⟨h1, h2⟩]
      have HN1 : Hid (pwB ts n f i = false → chE (pwB ts n f) cf (i + 1) = (x, y)) := fun h1 => by rw [chE, HX.out, if_neg (fun h => by rw [h1] at h; exact absurd h.1 (by decide))]
      have HN2 : Hid (¬ cf i < y → chE (pwB ts n f) cf (i + 1) = (x, y)) := fun h1 => by rw [chE, HX.out, if_neg (fun h => h1 h.2)]
      cases hp : pwB ts n f i with
      | false =>
        have HN := Lib.hid (HN1.out hp)
        rw [hp] at PW
        clear HYES HN1 HN2 hp
        go_wp2_with (first | (go_at_call 82; refine PW.mono ?_; rintro e w4 ⟨rfl, rfl⟩))
        go_roundw
        case rel => exact ⟨i + 1, x, m, y, by omega, rfl, rfl, by go_num, rfl, HN⟩
        case measure => simp [intOf]; omega
      | true =>
        rw [hp] at PW
        by_cases hc : cf i < y
        · have HN := Lib.hid (HYES.out hp hc)
          clear HYES HN1 HN2 hp
          generalize cf i = z at hc HN CC
          go_wp2_with (first | (go_at_call 82; refine PW.mono ?_; rintro e w4 ⟨rfl, rfl⟩) | (go_at_call 73; refine (CC.out _).mono ?_; rintro e w4 ⟨rfl, m2, rfl⟩))
          go_roundw
          case rel => exact ⟨i + 1, i, _, z, by omega, rfl, rfl, by go_num, rfl, HN⟩
          case measure => simp [intOf]; omega
        · have HN := Lib.hid (HN2.out hc)
          clear HYES HN1 HN2 hp
          generalize cf i = z at hc CC
          go_wp2_with (first | (go_at_call 82; refine PW.mono ?_; rintro e w4 ⟨rfl, rfl⟩) | (go_at_call 73; refine (CC.out _).mono ?_; rintro e w4 ⟨rfl, m2, rfl⟩))
          go_roundw
          case rel => exact ⟨i + 1, x, _, y, by omega, rfl, rfl, by go_num, rfl, HN⟩
          case measure => simp [intOf]; omega
    · have hkn : i = N := by omega
      subst hkn
      go_wp2
      go_ret2
      rw [HX.out]
      exact ⟨rfl, m, rfl⟩

set_option maxHeartbeats 1000000 in
theorem canMeet_any (g n c : Nat) (ts : List TBlower) (N : Nat) (a : Option Addr) (l : List Int) (m ca : Nat) (w : World) (hN : Hid (N = 2 ^ n)) (h16 : N ≤ 16) (hr : RR 3 cBlower w (some ⟨g, 0, none⟩) (bankL ts n)) (hm : Hid (l.length = m)) (ha : RI w a l) (hmax : m ≤ 1048576) :
    Calls Try.prog 59 #[.slice (some ⟨g, 0, none⟩) N c, .slice a m ca] w fun e w' => e = .returned (.bool (l.all fun f => pwB ts n f (2 ^ n - 1))) ∧ w = w' := by
  have hN1 : 1 ≤ N := by rw [hN.out]; exact Nat.two_pow_pos n
  have HPW : Hid (∀ f : Int, Calls Try.prog 82 #[.slice (some ⟨g, 0, none⟩) N c, .int .i64 ((N : Int) - 1), .int .i64 f] w fun e w' => e = .returned (.bool (pwB ts n f (2 ^ n - 1))) ∧ w = w') := fun f => by
    have h := hasPower_any g n c (N - 1) f ts N w hN hr (by omega)
    rw [show ((N - 1 : Nat) : Int) = (N : Int) - 1 by omega] at h
    have e : N - 1 = 2 ^ n - 1 := by rw [hN.out]
    rw [e] at h
    exact h
  have hw := wrI (x := (N : Int) - 1) (by omega)
  have HA := Lib.hid ha
  clear ha hr
  go_enter Try.func59, Try.ntmps59
  go_wp2
  go_loop [9] (fun i => ∃ k : Nat, k ≤ m ∧ i = .int .i64 k ∧ ∀ j (h : j < l.length), j < k → pwB ts n l[j] (2 ^ n - 1) = true) (fun i => m - (intOf i).toNat)
  case atStart => exact ⟨0, by omega, rfl, fun j _ hj => by omega⟩
  case round =>
    obtain ⟨k, hk, rfl, hall⟩ := hrel
    have HALL := Lib.hid hall
    clear hall
    by_cases hlt : k < m
    · have hka : k < l.length := by rw [hm.out]; exact hlt
      have HBAD : Hid (pwB ts n l[k] (2 ^ n - 1) = false → (l.all fun f => pwB ts n f (2 ^ n - 1)) = false) := fun h => all_no (f := fun f => pwB ts n f (2 ^ n - 1)) k hka h
      have HOK : Hid (pwB ts n l[k] (2 ^ n - 1) = true → ∀ j (h : j < l.length), j < k + 1 → pwB ts n l[j] (2 ^ n - 1) = true) := fun ht j h hj => if e : j = k then (by subst e; exact ht) else HALL.out j h (by omega)
      obtain ⟨b, off, rfl, _, x1⟩ := HA.out.at_ k hka
      generalize l[k] = t at x1 HBAD HOK
      have PW := HPW.out t
      have hk0 : (0 : Int) ≤ (k : Int) := by omega
      have hk1 : (k : Int) < (m : Int) := by omega
      cases ht : pwB ts n t (2 ^ n - 1) with
      | true =>
        have HOK2 := Lib.hid (HOK.out ht)
        rw [ht] at PW
        clear HOK HBAD ht
        go_wp2_with (go_at_call 82; refine PW.mono ?_; rintro e w' ⟨rfl, rfl⟩)
        go_round
        case rel => exact ⟨k + 1, by omega, by go_num, HOK2.out⟩
        case measure => simp [intOf]; omega
      | false =>
        have HR := Lib.hid (HBAD.out ht)
        rw [ht] at PW
        clear HOK HBAD ht
        go_wp2_with (go_at_call 82; refine PW.mono ?_; rintro e w' ⟨rfl, rfl⟩)
        go_ret
        exact ⟨ret_bool HR.out.symm, rfl⟩
    · have HR : Hid ((l.all fun f => pwB ts n f (2 ^ n - 1)) = true) := all_yes (f := fun f => pwB ts n f (2 ^ n - 1)) (fun j hj => HALL.out j hj (by rw [hm.out] at hj; omega))
      go_wp2
      go_ret
      exact ⟨ret_bool HR.out.symm, rfl⟩
theorem RI_one (w : World) (f : Int) (t : TypeId) : RI (w.alloc (.cells #[.int .i64 f] t)) (some ⟨w.heap.size, 0, none⟩) [f] := by
  refine .inr ⟨w.heap.size, 0, rfl, fun i hi => ?_⟩
  have : i = 0 := by simp at hi; omega
  subst this
  simp [go_sem]
def ccode (ts : List TBlower) (f : Int) : Int := rangeCode (bcode ts) f 1000
theorem ccode_of {ts : List TBlower} {f : Int} : (ccode ts f = 0 ∧ blsB ts = true ∧ cheapOf ts f = if pwB ts ts.length f (2 ^ ts.length - 1) = true then (((chE (pwB ts ts.length f) (stepS ts 0) (2 ^ ts.length)).1 : Int), 0) else (0, 3)) ∨ (ccode ts f ≠ 0 ∧ cheapOf ts f = (0, ccode ts f)) := by
  unfold ccode rangeCode bcode cheapOf allS
  by_cases h : blsB ts = true
  · by_cases h2 : inB f 0 1000 = true
    · left
      simp only [h, h2, if_true]
      exact ⟨trivial, trivial, trivial⟩
    · right
      simp only [h, h2, if_true, Bool.false_eq_true, if_false]
      exact ⟨by decide, trivial⟩
  · right
    simp only [h, if_false, Bool.false_eq_true]
    exact ⟨by simp, by simp⟩
set_option maxRecDepth 20000 in
set_option maxHeartbeats 2000000 in
theorem implCheapestHour_any (w : World) {a0 : Option Addr} {n0 c0 : Nat} (ts0 : List TBlower) (hn0 : Hid (ts0.length = n0)) (h0 : RR 3 cBlower w a0 ts0) (hs0 : n0 ≤ 1048576) (_wf0 : Hid (∀ t ∈ ts0, wfBlower t)) (f1 : Int) (_wf1 : (Lit.int .i64 f1).wf = true) :
    Calls Try.prog 21 #[.slice a0 n0 c0, .int .i64 f1] w fun e w' => e = .returned (.tuple #[.int .i64 (cheapOf ts0 f1).1, .int .i64 (cheapOf ts0 f1).2]) ∧ Below w.heap.size w w' := by
  have CB := checkBlowers_any a0 ts0 n0 c0 w hn0 h0 hs0
  have CR : Hid (∀ W, Calls Try.prog 70 #[.int .i64 (bcode ts0), .int .i64 f1, .int .i64 1000] W fun e w' => e = .returned (.int .i64 (ccode ts0 f1)) ∧ W = w') := fun W => checkRange_any _ _ _ W
  have HA : Hid (∀ W, Below w.heap.size w W → RR 3 cBlower W a0 ts0) := fun W h => h0.below h
  clear h0
  rcases ccode_of (ts := ts0) (f := f1) with ⟨hc, h, hr⟩ | ⟨hc, hr⟩
  rotate_left
  · have HR := Lib.hid hr
    obtain ⟨⟨k1, k2⟩, _⟩ | ⟨⟨k1, k2⟩, _⟩ := eq_ways (ccode ts0 f1) 0
    · exact absurd ‹ccode ts0 f1 = 0› hc
    · clear hc hr HA
      go_enter Try.func21, Try.ntmps21
      go_wp2_with (first | (go_at_call 71; refine CB.mono ?_; rintro e w1 ⟨rfl, hb1⟩) | (go_at_call 70; refine (CR.out _).mono ?_; rintro e w2 ⟨rfl, rfl⟩))
      go_ret2
      rw [HR.out]
      exact ⟨rfl, hb1⟩
  have h4 : n0 ≤ 4 := by rw [← hn0.out]; exact (blsB_of h).1
  have NB : Hid (∀ W, Below w.heap.size w W → Calls Try.prog 58 #[.slice a0 n0 c0] W fun e w' => (∃ g c, e = .returned (.slice (some ⟨g, 0, none⟩) (2 ^ n0) c) ∧ RR 3 cBlower w' (some ⟨g, 0, none⟩) (bankL ts0 n0)) ∧ Below W.heap.size W w') := fun W hW => newBank_any a0 ts0 n0 c0 W hn0 (HA.out W hW) h
  have HL : Hid (∀ N, N = 2 ^ n0 → N ≤ 16) := fun N e => by rw [e]; exact pow_le16 h4
  have HV := Lib.hid h
  rw [hc] at CR
  rw [hn0.out] at hr
  have HR := Lib.hid hr
  clear hc h hr HA
  have CM : Hid (∀ (g c N : Nat) (W : World), Hid (N = 2 ^ n0) → N ≤ 16 → RR 3 cBlower W (some ⟨g, 0, none⟩) (bankL ts0 n0) → Calls Try.prog 59 #[.slice (some ⟨g, 0, none⟩) N c, .slice (some ⟨W.heap.size, 0, none⟩) 1 1] (W.alloc (.cells #[.int .i64 f1] 2)) fun e w' => e = .returned (.bool (pwB ts0 n0 f1 (2 ^ n0 - 1))) ∧ W.alloc (.cells #[.int .i64 f1] 2) = w') := fun g c N W hN h16 hg => by
    have h := canMeet_any g n0 c ts0 N (some ⟨W.heap.size, 0, none⟩) [f1] 1 1 _ hN h16 (hg.below ((Below.refl _ _).alloc (Nat.le_refl _) (.cells #[.int .i64 f1] 2))) rfl (RI_one W f1 _) (by omega)
    have e : ([f1].all fun f => pwB ts0 n0 f (2 ^ n0 - 1)) = pwB ts0 n0 f1 (2 ^ n0 - 1) := by simp
    rw [e] at h
    exact h
  cases hp : pwB ts0 n0 f1 (2 ^ n0 - 1) with
  | false =>
    rw [hp] at HR CM
    simp only [Bool.false_eq_true, if_false] at HR
    clear hp
    go_enter Try.func21, Try.ntmps21
    go_wp2_with (first | (go_at_call 71; refine CB.mono ?_; rintro e w1 ⟨rfl, hb1⟩; have HB1 := Lib.hid hb1; clear hb1) | (go_at_call 70; refine (CR.out _).mono ?_; rintro e w2 ⟨rfl, rfl⟩) | (go_at_call 58; refine (NB.out _ HB1.out).mono ?_; rintro e w2 ⟨⟨g, c, rfl, hg⟩, hb2⟩; obtain ⟨N, hN⟩ : ∃ N, N = 2 ^ n0 := ⟨_, rfl⟩; have h16 := HL.out N hN; rw [← hN]; have HN := Lib.hid hN; clear hN; have HG := Lib.hid hg; clear hg; have HB2 := Lib.hid (HB1.out.trans (hb2.mono HB1.out.size)); clear hb2; have CM2 := CM.out g c N w2 HN h16 HG.out) | (go_at_call 59; refine CM2.mono ?_; rintro e w5 ⟨rfl, rfl⟩))
    go_ret2
    rw [HR.out]
    exact ⟨rfl, HB2.out.alloc HB2.out.size _⟩
  | true =>
    rw [hp] at HR CM
    simp only [if_true] at HR
    clear hp
    have CH : Hid (∀ (g c N : Nat) (W : World), Hid (N = 2 ^ n0) → N ≤ 16 → RR 3 cBlower W (some ⟨g, 0, none⟩) (bankL ts0 n0) → Calls Try.prog 72 #[.slice (some ⟨g, 0, none⟩) N c, .int .i64 f1, .func (.func 73) #[.slice (some ⟨g, 0, none⟩) N c] #[]] W fun e w' => e = .returned (.tuple #[.int .i64 (((chE (pwB ts0 n0 f1) (stepS ts0 0) N).1 : Nat) : Int), .int .i64 (chE (pwB ts0 n0 f1) (stepS ts0 0) N).2]) ∧ ∃ m, w' = W.drewN m) := fun g c N W hN h16 hg =>
      cheapAlone_any g n0 c f1 ts0 N (stepS ts0 0) W hN hg h16 fun m i hi => costAlone_any g n0 c i ts0 N (W.drewN m) HV.out hn0 hN (hg.below (Below.drewN' (Below.refl _ _) m)) hi
    go_enter Try.func21, Try.ntmps21
    go_wp2_with (first | (go_at_call 71; refine CB.mono ?_; rintro e w1 ⟨rfl, hb1⟩; have HB1 := Lib.hid hb1; clear hb1) | (go_at_call 70; refine (CR.out _).mono ?_; rintro e w2 ⟨rfl, rfl⟩) | (go_at_call 58; refine (NB.out _ HB1.out).mono ?_; rintro e w2 ⟨⟨g, c, rfl, hg⟩, hb2⟩; obtain ⟨N, hN⟩ : ∃ N, N = 2 ^ n0 := ⟨_, rfl⟩; have h16 := HL.out N hN; rw [← hN]; have HN := Lib.hid hN; clear hN; have HG := Lib.hid hg; clear hg; have HB2 := Lib.hid (HB1.out.trans (hb2.mono HB1.out.size)); clear hb2; have CM2 := CM.out g c N w2 HN h16 HG.out; have HG2 := Lib.hid (HG.out.below ((Below.refl _ _).alloc (Nat.le_refl _) (.cells #[.int .i64 f1] 2)))) | (go_at_call 59; refine CM2.mono ?_; rintro e w5 ⟨rfl, rfl⟩) | (go_at_call 72; refine (CH.out g c N _ HN h16 HG2.out).mono ?_; rintro e w6 ⟨rfl, m6, rfl⟩))
    go_ret2
    rw [HR.out, HN.out]
    exact ⟨rfl, Below.drewN' (HB2.out.alloc HB2.out.size _) _⟩
end Go.Proofs.Ytiilgeoahpnkpaa
