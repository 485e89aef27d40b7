/-
  GoOne: the program's.
-/
import Derived.Test.YtkfeihnapcfkgaaDoorRoomsQ
namespace Go.Proofs.YtkfeihnapcfkgaaDoor
open Go.RowKit

theorem setN_single (k m : Nat) (h : k < m) : 0 ||| 2 ^ k = setN (fun i => decide (i = k)) m := by
  apply Nat.eq_of_testBit_eq
  intro i
  rw [setN_bit, Nat.zero_or, Nat.testBit_two_pow]
  by_cases e : i = k
  · subst e; simp [h]
  · have e2 : ¬ k = i := fun h => e h.symm
    simp [e, e2]
theorem chP_single (ts : List TGuest) (k : Nat) (_h : k < ts.length) : chP goneG (fun i => decide (i = k)) ts = goneL ts k := by
  apply List.ext_getElem?
  intro i
  unfold goneL
  by_cases hi : i < ts.length
  · rw [chP_get _ _ _ i hi, List.getElem?_set]
    by_cases e : k = i
    · subst e
      rw [if_pos rfl, if_pos hi, List.getD_eq_getElem?_getD, List.getElem?_eq_getElem hi, Option.getD_some]
      simp
    · have e2 : ¬ i = k := fun h => e h.symm
      rw [if_neg e, List.getElem?_eq_getElem hi]
      simp [e2]
  · rw [List.getElem?_eq_none (by rw [chP_len]; omega), List.getElem?_eq_none (by rw [List.length_set]; omega)]

set_option maxHeartbeats 4000000 in
theorem implGoOne_any (w : World) {b0 o0 n0 c0 : Nat} (l0 : List Int) (hn0 : Hid (l0.length = n0)) (h0 : RI w (some ⟨b0, o0, none⟩) l0) (hs0 : n0 ≤ 1048576) (_wf0 : Hid (∀ k ∈ l0, (Lit.int .i64 k).wf = true)) {b1 o1 n1 c1 : Nat} (ts1 : List TGuest) (hn1 : Hid (ts1.length = n1)) (h1 : RR 2 cGuest w (some ⟨b1, o1, none⟩) ts1) (hs1 : n1 ≤ 1048576) (_wf1 : Hid (∀ t ∈ ts1, wfGuest t)) (f2 : Int) (_wf2 : (Lit.int .i64 f2).wf = true) (hT : BitTab w) :
    Calls Tryd.prog 18 #[.slice (some ⟨b0, o0, none⟩) n0 c0, .slice (some ⟨b1, o1, none⟩) n1 c1, .int .i64 f2] w (GivesRs 35 2 cGuest (goOf l0 ts1 f2) w) := by
  have OK := checkRooms_any b0 o0 (some ⟨b1, o1, none⟩) l0 ts1 n0 n1 c0 c1 w hn0 hn1 h0 h1 hs0 hs1
  have CR : Hid (∀ (W : World), Calls Tryd.prog 52 #[.int .i64 (rcode l0 ts1), .int .i64 f2, .int .i64 ((n1 : Int) - 1)] W fun e w' => e = .returned (.int .i64 (rangeCode (rcode l0 ts1) f2 ((n1 : Int) - 1))) ∧ W = w') := fun W => checkRange_any _ _ _ W
  have GO : Hid (∀ W, Below w.heap.size w W → 0 < n0 → n1 ≤ 8 → Pl l0 → guB n0 ts1 = true → Calls Tryd.prog 45 #[.slice (some ⟨b0, o0, none⟩) n0 c0, .slice (some ⟨b1, o1, none⟩) n1 c1] W fun e w' => e = .returned (.int .u64 ((setN (canN l0 ts1) n1 : Nat) : Int)) ∧ Below W.heap.size W w') := fun W h h2 h8 hp hg => goers_any b0 o0 (some ⟨b1, o1, none⟩) l0 ts1 n0 n1 c0 c1 W hn0 hn1 (h0.below h) (h1.below h) h2 hs0 h8 hp hg
  have CH : Hid (∀ W, Below w.heap.size w W → 0 < n1 → n1 ≤ 8 → ∀ p, Calls Tryd.prog 55 #[.slice (some ⟨b1, o1, none⟩) n1 c1, .int .u64 ((setN p n1 : Nat) : Int), .func (.func 57) #[] #[]] W (GivesC 35 2 ((chP goneG p ts1).flatMap cGuest) n1 W)) := fun W h h2 h8 p => changedGone_any p b1 o1 n1 c1 ts1 W hn1 (h1.below h) h2 h8 (hT.below h)
  have HA : Hid (∀ W, Below w.heap.size w W → RR 2 cGuest W (some ⟨b1, o1, none⟩) ts1) := fun W h => h1.below h
  clear h0 h1 hT
  cases hv : roB l0 ts1 with
  | false =>
    have HC : rcode l0 ts1 = 1 := by unfold rcode; rw [hv]; rfl
    rw [HC] at OK CR
    have HRC : rangeCode 1 f2 ((n1 : Int) - 1) = 1 := rfl
    rw [HRC] at CR
    have HR := Lib.hid (goOf_bad f2 hv)
    clear hv HC HRC
    go_enter Tryd.func18, Tryd.ntmps18
    go_wp2_with (first | (go_at_call 43; refine OK.mono ?_; rintro e w1 ⟨rfl, hb1⟩) | (go_at_call 52; refine (CR.out _).mono ?_; rintro e w' ⟨rfl, rfl⟩))
    go_ret2
    exact givesRs_nil HR.out hb1
  | true =>
    have HC : rcode l0 ts1 = 0 := by unfold rcode; rw [hv]; rfl
    rw [HC] at OK CR
    clear HC
    cases hk : inB f2 0 ((n1 : Int) - 1) with
    | false =>
      have HRC : rangeCode 0 f2 ((n1 : Int) - 1) = 2 := by unfold rangeCode; rw [hk]; rfl
      rw [HRC] at CR
      have HR := Lib.hid (goOf_range hv hn1.out hk)
      clear hv HRC
      go_enter Tryd.func18, Tryd.ntmps18
      go_wp2_with (first | (go_at_call 43; refine OK.mono ?_; rintro e w1 ⟨rfl, hb1⟩) | (go_at_call 52; refine (CR.out _).mono ?_; rintro e w' ⟨rfl, rfl⟩))
      go_ret2
      exact givesRs_nil HR.out hb1
    | true =>
      have HRC : rangeCode 0 f2 ((n1 : Int) - 1) = 0 := by unfold rangeCode; rw [hk]; rfl
      rw [HRC] at CR
      clear HRC
      obtain ⟨hk0, hk1⟩ := inB_of hk
      obtain ⟨k, rfl⟩ : ∃ k : Nat, f2 = k := ⟨f2.toNat, by omega⟩
      have hkn : k < n1 := by omega
      have hka : k < ts1.length := by rw [hn1.out]; exact hkn
      have HG := Lib.hid (goOf_in hv hn1.out hkn)
      obtain ⟨h4, h2, h3, _⟩ := roB_of hv
      rw [hn0.out] at h3
      rw [hn0.out, hn1.out] at h4
      have h8 : n1 ≤ 8 := h4.2.2
      have hx40 := setN_lt64 (canN l0 ts1) (k := n1) (by omega)
      have HS : ∀ W, Calls Tryd.prog 54 #[.int .u64 ((setN (canN l0 ts1) n1 : Nat) : Int), .int .i64 (k : Int)] W fun e w' => e = .returned (.bool (canN l0 ts1 k)) ∧ W = w' := fun W => by
        have := has_any (setN (canN l0 ts1) n1) k W hx40 (by omega)
        rw [setN_bit, decide_eq_true hkn, Bool.true_and] at this
        exact this
      have HS := Lib.hid HS
      have GK := Lib.hid (fun W hW => GO.out W hW (by omega) h8 h2 h3)
      have WT : Hid (∀ W, Calls Tryd.prog 56 #[.int .u64 0, .int .i64 (k : Int)] W fun e w' => e = .returned (.int .u64 ((setN (fun i => decide (i = k)) n1 : Nat) : Int)) ∧ W = w') := fun W => by
        have := with_any 0 k W (by omega) (by omega)
        rw [setN_single k n1 hkn] at this
        exact this
      have CG := Lib.hid (fun W hW => CH.out W hW (by omega) h8 (fun i => decide (i = k)))
      rw [chP_single ts1 k hka] at CG
      have HRS := Lib.hid (resG_at hka)
      have HLN : Hid ((goneL ts1 k).length = n1) := by unfold Hid goneL; rw [List.length_set]; exact hn1.out
      obtain ⟨b, off, he, hbl, hc⟩ := (HA.out _ (Below.refl _ _)).at_ k hka
      injection he with he
      injection he with e1 e2
      subst e1 e2
      have x0 := hc 0 _ rfl
      have x1 := hc 1 _ rfl
      simp only [Nat.add_zero] at x0
      have HX := Lib.hid (And.intro x0 x1)
      clear hv h2 h3 h4 hc x0 x1 CH GO hx40
      generalize setN (fun i => decide (i = k)) n1 = sx at WT CG
      generalize setN (canN l0 ts1) n1 = cx at HS GK
      generalize ts1[k] = t at HX HRS
      obtain ⟨t1, t2⟩ := t
      dsimp only at HX HRS
      have RS := fun W => rests_any t1 t2 W
      have hkl : (k : Int) < (n1 : Int) := by omega
      have HC8 : Hid (∀ W, Below w.heap.size w W → W.cell? ⟨b1, o1 + k * 2, none⟩ = some (.int .i64 t1) ∧ W.cell? ⟨b1, o1 + k * 2 + 1, none⟩ = some (.int .i64 t2)) := fun W h => ⟨(h.cell (p := ⟨_, _, none⟩) hbl).trans HX.out.1, (h.cell (p := ⟨_, _, none⟩) hbl).trans HX.out.2⟩
      by_cases e6 : t1 = t2
      · have HR : Hid (goOf l0 ts1 k = ([], 6)) := by unfold Hid; rw [HG.out, HRS.out, decide_eq_true e6, if_pos rfl]
        simp only [decide_eq_true e6] at RS
        clear e6
        go_enter Tryd.func18, Tryd.ntmps18
        go_wp2_with (first | (go_at_call 43; refine OK.mono ?_; rintro e w1 ⟨rfl, hb1⟩; obtain ⟨x0, x1⟩ := HC8.out _ hb1) | (go_at_call 52; refine (CR.out _).mono ?_; rintro e w' ⟨rfl, rfl⟩) | (go_at_call 53; refine (RS _).mono ?_; rintro e w2 ⟨rfl, hb2⟩))
        go_ret2
        exact givesRs_nil HR.out (two_worlds hb1 hb2)
      · simp only [decide_eq_false e6] at RS
        cases hq : canN l0 ts1 k with
        | false =>
          have HR : Hid (goOf l0 ts1 k = ([], 5)) := by unfold Hid; rw [HG.out, HRS.out, decide_eq_false e6, if_neg (by decide), hq, if_neg (by decide)]
          rw [hq] at HS
          clear e6 hq
          go_enter Tryd.func18, Tryd.ntmps18
          go_wp2_with (first | (go_at_call 43; refine OK.mono ?_; rintro e w1 ⟨rfl, hb1⟩; obtain ⟨x0, x1⟩ := HC8.out _ hb1) | (go_at_call 52; refine (CR.out _).mono ?_; rintro e w' ⟨rfl, rfl⟩) | (go_at_call 53; refine (RS _).mono ?_; rintro e w2 ⟨rfl, hb2⟩) | (go_at_call 45; refine (GK.out _ (two_worlds hb1 hb2)).mono ?_; rintro e w3 ⟨rfl, hb3⟩) | (go_at_call 54; refine (HS.out _).mono ?_; rintro e w' ⟨rfl, rfl⟩))
          go_ret2
          exact givesRs_nil HR.out (two_worlds (two_worlds hb1 hb2) hb3)
        | true =>
          have HR : Hid (goOf l0 ts1 k = (goneL ts1 k, 0)) := by unfold Hid; rw [HG.out, HRS.out, decide_eq_false e6, if_neg (by decide), hq, if_pos rfl]
          rw [hq] at HS
          clear e6 hq
          go_enter Tryd.func18, Tryd.ntmps18
          go_wp2_with (first | (go_at_call 43; refine OK.mono ?_; rintro e w1 ⟨rfl, hb1⟩; obtain ⟨x0, x1⟩ := HC8.out _ hb1) | (go_at_call 52; refine (CR.out _).mono ?_; rintro e w' ⟨rfl, rfl⟩) | (go_at_call 53; refine (RS _).mono ?_; rintro e w2 ⟨rfl, hb2⟩) | (go_at_call 45; refine (GK.out _ (two_worlds hb1 hb2)).mono ?_; rintro e w3 ⟨rfl, hb3⟩) | (go_at_call 54; refine (HS.out _).mono ?_; rintro e w' ⟨rfl, rfl⟩) | (go_at_call 56; refine (WT.out _).mono ?_; rintro e w' ⟨rfl, rfl⟩) | (go_at_call 55; refine (CG.out _ (two_worlds (two_worlds hb1 hb2) hb3)).mono ?_; rintro e w4 ⟨g, cap, rfl, hb4, _, ho⟩))
          have HB3 := Lib.hid (two_worlds (two_worlds hb1 hb2) hb3)
          have HB4 := Lib.hid (two_worlds HB3.out hb4)
          have HO := Lib.hid (own_lo ho HB3.out.size)
          clear hb1 hb2 hb3 hb4 ho
          go_wp2
          go_ret2
          exact givesRs_of HR.out HB4.out HLN.out HO.out
end Go.Proofs.YtkfeihnapcfkgaaDoor
