/-
  FewestOut: the guests without some of them; the program's walk.
-/
import Derived.Test.YtkfeihnapcfkgaaDoorRoomFx
import Derived.Test.YtkfeihnapcfkgaaDoorRoomGp
namespace Go.Proofs.YtkfeihnapcfkgaaDoor
open Go.RowKit Go.Maps Go.ChangeShapes

/-- The guests after those of a set have been put out. -/
def outS (ts : List TGuest) (s : Nat) : List TGuest := chP outG (fun i => s.testBit i) ts
theorem outS_len (ts : List TGuest) (s : Nat) : (outS ts s).length = ts.length := chP_len _ _ _
theorem outS_get (ts : List TGuest) (s i : Nat) (h : i < ts.length) : (outS ts s)[i]'(by rw [outS_len]; exact h) = if s.testBit i = true then (-1, -1) else ts[i] := by
  have := chP_get outG (fun i => s.testBit i) ts i h
  rw [List.getElem?_eq_getElem (by rw [chP_len]; exact h)] at this
  exact Option.some.inj this
def fewOk (l : List Int) (ts : List TGuest) (s : Nat) : Bool := okS l (outS ts s) 0
theorem fewOk_all (l : List Int) (ts : List TGuest) : fewOk l ts (2 ^ ts.length - 1) = true := by
  unfold fewOk
  refine (okS_done ?_).1
  unfold leftS
  rw [aftG_zero, cntN_nil]
  refine setN_zero.2 fun i hi => ?_
  have hi2 : i < ts.length := by rw [outS_len] at hi; exact hi
  unfold lessN
  rw [gsN_at hi, outS_get ts _ i hi2, if_pos (by rw [Nat.testBit_two_pow_sub_one]; exact decide_eq_true hi2)]
  rfl
theorem guB_out {R : Int} {ts : List TGuest} (hR : 0 ≤ R) (h : guB R ts = true) (s : Nat) : guB R (outS ts s) = true := by
  refine all_yes (f := gB R) (fun k hk => ?_)
  have hk2 : k < ts.length := by rw [outS_len] at hk; exact hk
  rw [outS_get ts s k hk2]
  split
  · unfold gB; rw [inB_yes ⟨by omega, by omega⟩]; rfl
  · exact all_at (f := gB R) h k hk2
def fewOf (l : List Int) (ts : List TGuest) : List Int × Int := if roB l ts = true then (filtN (fun i => (fewF (fewOk l ts) ts.length (2 ^ ts.length - 1)).testBit i) ts.length, 0) else ([], 1)
theorem fewOf_bad {l : List Int} {ts : List TGuest} (h : roB l ts = false) : fewOf l ts = ([], 1) := by unfold fewOf; rw [h]; rfl
theorem fewOf_good {l : List Int} {ts : List TGuest} (h : roB l ts = true) : fewOf l ts = (filtN (fun i => (fewF (fewOk l ts) ts.length (2 ^ ts.length - 1)).testBit i) ts.length, 0) := by unfold fewOf; rw [h]; rfl
theorem fewOf_len (l : List Int) (ts : List TGuest) : (fewOf l ts).1.length ≤ 1048576 := by
  cases h : roB l ts with
  | false => rw [fewOf_bad h]; exact Nat.zero_le _
  | true =>
    rw [fewOf_good h]
    have := filtN_len (fun i => (fewF (fewOk l ts) ts.length (2 ^ ts.length - 1)).testBit i) ts.length
    have h2 := (roB_of h).1
    show (filtN _ _).length ≤ _
    omega

set_option maxHeartbeats 8000000 in
theorem implFewestOut_any (w : World) {b0 o0 n0 c0 : Nat} (l0 : List Int) (hn0 : Hid (l0.length = n0)) (h0 : RI w (some ⟨b0, o0, none⟩) l0) (hs0 : n0 ≤ 1048576) (_wf0 : Hid (∀ k ∈ l0, (Lit.int .i64 k).wf = true)) {b1 o1 n1 c1 : Nat} (ts1 : List TGuest) (hn1 : Hid (ts1.length = n1)) (h1 : RR 2 cGuest w (some ⟨b1, o1, none⟩) ts1) (hs1 : n1 ≤ 1048576) (_wf1 : Hid (∀ t ∈ ts1, wfGuest t)) (hT : BitTab w) :
    Calls Tryd.prog 21 #[.slice (some ⟨b0, o0, none⟩) n0 c0, .slice (some ⟨b1, o1, none⟩) n1 c1] w (GivesIs 2 (fewOf l0 ts1) w) := by
  have OK := checkRooms_any b0 o0 (some ⟨b1, o1, none⟩) l0 ts1 n0 n1 c0 c1 w hn0 hn1 h0 h1 hs0 hs1
  cases hv : roB l0 ts1 with
  | false =>
    have HC : rcode l0 ts1 = 1 := by unfold rcode; rw [hv]; rfl
    rw [HC] at OK
    have HR := Lib.hid (fewOf_bad hv)
    clear hv HC h0 h1 hT
    go_enter Tryd.func21, Tryd.ntmps21
    go_wp2_with (go_at_call 43; refine OK.mono ?_; rintro e w1 ⟨rfl, hb1⟩)
    go_ret2
    exact givesIs_nil HR.out hb1
  | true =>
    have HC : rcode l0 ts1 = 0 := by unfold rcode; rw [hv]; rfl
    rw [HC] at OK
    have HR := Lib.hid (fewOf_good hv)
    obtain ⟨h4, h2, h3, _⟩ := roB_of hv
    rw [hn0.out] at h3
    rw [hn0.out, hn1.out] at h4
    rw [hn1.out] at HR
    have HALL := fewOk_all l0 ts1
    rw [hn1.out] at HALL
    have HF := Lib.hid (fun x (hx : x ≤ 2 ^ n1 - 1) => fewF_ok (ok := fewOk l0 ts1) (m := n1) (by omega) HALL x hx)
    obtain ⟨tol, htol⟩ : ∃ tol : Nat, tol = 9 ^ 8 := ⟨_, rfl⟩
    have hq1 : 0 + tol ≤ 1000000000000000 := by rw [htol]; decide
    have CA : Hid (∀ (W : World) (g o cap x : Nat), Below w.heap.size w W → RR 2 cGuest W (some ⟨g, o, none⟩) (outS ts1 x) → Calls Tryd.prog 49 #[.pointer (some ⟨W.heap.size + 1, 0, none⟩)] ((W.alloc (.map #[] 0)).alloc (.cells #[.slice (some ⟨b0, o0, none⟩) n0 c0, .slice (some ⟨g, o, none⟩) n1 cap, .map (some W.heap.size)] 97)) fun e w' => e = .returned (.bool (fewOk l0 ts1 x)) ∧ Below W.heap.size W w') := fun W g o cap x hW hr => by
      have hlen : Hid ((outS ts1 x).length = n1) := by unfold Hid; rw [outS_len]; exact hn1.out
      have hgu : guB n0 (outS ts1 x) = true := guB_out (by omega) h3 x
      have TD : Told tol W (W.heap.size + 1) W.heap.size n1 (.slice (some ⟨b0, o0, none⟩) n0 c0) (.slice (some ⟨g, o, none⟩) n1 cap) (mostS l0 (outS ts1 x)) := fun s W2 q hs hq hx hme => by
        rw [htol] at hq ⊢
        exact mostAfter_any W (W.heap.size + 1) W.heap.size b0 o0 g o n0 n1 c0 cap l0 (outS ts1 x) hn0 hlen (h0.below hW) hr (by omega) hs0 h4.2.2 h2 hgu (hT.below hW) 8 s W2 q hs (Nat.le_trans (remS_le _ _) h4.2.2) hq hx hme
      refine (canAllGo_any tol W (W.heap.size + 1) W.heap.size g o n1 cap 0 _ l0 (outS ts1 x) _ hlen hr h4.2.2 TD (exc_new _ _ W) (memo_new _ _ _ W) hq1).mono ?_
      rintro e w' ⟨he, ht, _⟩
      exact ⟨he, Below.trans (((Below.refl _ _).alloc (Nat.le_refl _) _).alloc (by simp) _) (ht.below (Nat.le_refl _) (by simp; omega))⟩
    have HNE := Lib.hid (fun v0 v1 n c m d W => newExchange_any v0 v1 n c m d W)
    have EV := fun W => everyone_any (some ⟨b1, o1, none⟩) n1 c1 W h4.2.2
    have IB : Hid (∀ (x f : Nat) (W : World), x < 2 ^ n1 → f < 2 ^ n1 → x ≠ f → Below w.heap.size w W → Calls Tryd.prog 63 #[.int .u64 (x : Int), .int .u64 (f : Int)] W fun e w' => e = .returned (.bool (befB n1 x f)) ∧ W = w') := fun x f W hx hf hne hW => isBefore_any n1 x f W h4.2.2 hx hf hne (hT.below hW)
    have CH : Hid (∀ (x : Nat) (W : World), x < 2 ^ n1 → 0 < n1 → Below w.heap.size w W → Calls Tryd.prog 55 #[.slice (some ⟨b1, o1, none⟩) n1 c1, .int .u64 (x : Int), .func (.func 64) #[] #[]] W fun e w' => ∃ g o cap, e = .returned (.slice (some ⟨g, o, none⟩) n1 cap) ∧ Below W.heap.size W w' ∧ RR 2 cGuest w' (some ⟨g, o, none⟩) (outS ts1 x)) := fun x W hx hm0 hW => by
      have := changedOut_any (fun i => x.testBit i) b1 o1 n1 c1 ts1 W hn1 (h1.below hW) hm0 h4.2.2 (hT.below hW)
      rw [setN_self hx] at this
      refine this.mono ?_
      rintro e w' ⟨g, cap, rfl, hb, _, ho⟩
      exact ⟨g, 0, cap, rfl, hb, own_RR cGuest_len (by unfold Hid; rw [← hn1.out]; exact outS_len ts1 x) ho⟩
    have ME : Hid (∀ (f : Nat) (W : World), f < 2 ^ n1 → Below w.heap.size w W → Calls Tryd.prog 46 #[.int .u64 (f : Int)] W fun e w' => Below W.heap.size W w' ∧ ∃ ao cap, e = .returned (.slice ao (filtN (fun i => f.testBit i) n1).length cap) ∧ w'.ownsRow W.heap.size 2 1 (.slice ao (filtN (fun i => f.testBit i) n1).length cap) (filtN (fun i => f.testBit i) n1).length ((filtN (fun i => f.testBit i) n1).map (Value.int .i64))) := fun f W hf hW => by
      have := members_any (fun i => f.testBit i) n1 W (by omega) (hT.below hW)
      rw [setN_self hf] at this
      exact this
    have hp : (2 : Nat) ^ n1 ≤ 2 ^ 8 := Nat.pow_le_pow_right (by decide) h4.2.2
    have hp0 := Nat.two_pow_pos n1
    have HN1 : Hid (1 < 2 ^ n1 → 0 < n1) := fun h => Nat.pos_of_ne_zero fun e => by rw [e] at h; exact absurd h (by decide)
    clear hv HC h0 h1 hT h2 h3 hq1 htol HALL h4 hs0 hs1
    go_enter Tryd.func21, Tryd.ntmps21
    go_wp2_with (first | (go_at_call 43; refine OK.mono ?_; rintro e w1 ⟨rfl, hb1⟩) | (go_at_call 62; refine (EV _).mono ?_; rintro e w2 ⟨rfl, rfl⟩))
    obtain ⟨ok, hok⟩ : ∃ ok, ok = fewOk l0 ts1 := ⟨_, rfl⟩
    rw [← hok] at HF HR
    obtain ⟨all, hall⟩ : ∃ all, all = 2 ^ n1 - 1 := ⟨_, rfl⟩
    rw [← hall] at HF HR
    have hall1 : all + 1 = 2 ^ n1 := by omega
    have hall2 : all < 256 := by omega
    go_loopw [8, 20] (fun fv xv wr => ∃ x : Nat, x ≤ all ∧ fv = .int .u64 ((fewF ok n1 x : Nat) : Int) ∧ xv = .int .u64 (x : Int) ∧ Hid (Below w.heap.size w wr)) (fun _ xv _ => all - (intOf xv).toNat)
    case atStart => exact ⟨0, by omega, rfl, rfl, hb1⟩
    case round =>
      obtain ⟨x, hx, rfl, rfl, HBEL⟩ := hrel
      by_cases hlt : x < all
      · obtain ⟨_, f2, f3, _⟩ := HF.out x hx
        have hm0 : 0 < n1 := HN1.out (by omega)
        have HN := Lib.hid (show fewF ok n1 (x + 1) = if befB n1 x (fewF ok n1 x) && ok x then x else fewF ok n1 x from rfl)
        generalize fewF ok n1 x = f at f2 f3 HN
        have IBx := Lib.hid (fun W hW => IB.out x f W (by omega) f2 (by omega) hW)
        have CHx := Lib.hid (fun W hW => CH.out x W (by omega) hm0 hW)
        have CAx := Lib.hid (fun W g o cap hW hr => CA.out W g o cap x hW hr)
        rw [← hok] at CAx
        have hx0 : (0 : Int) ≤ (x : Int) := by omega
        have hx1 : (x : Int) < (all : Int) := by omega
        have hws := HBEL.out.size
        have HWX := Lib.hid (wrap64 (x + 1) (by omega))
        cases hb : befB n1 x f with
        | false =>
          have HN2 : Hid (fewF ok n1 (x + 1) = f) := by unfold Hid; rw [HN.out, hb]; rfl
          rw [hb] at IBx
          clear HN hb f2 f3 hm0 IB CH CA CHx CAx
          go_wp2_with (go_at_call 63; refine (IBx.out _ HBEL.out).mono ?_; rintro e w3 ⟨rfl, rfl⟩)
          go_roundw
          case rel => exact ⟨x + 1, by omega, by rw [HN2.out], by go_num, HBEL⟩
          case measure => simp [intOf]; omega
        | true =>
          rw [hb] at IBx
          cases hk : ok x with
          | false =>
            have HN2 : Hid (fewF ok n1 (x + 1) = f) := by unfold Hid; rw [HN.out, hk, Bool.and_false]; rfl
            rw [hk] at CAx
            clear HN hb hk f2 f3 hm0 IB CH CA
            go_wp2_with (first | (go_at_call 63; refine (IBx.out _ HBEL.out).mono ?_; rintro e w3 ⟨rfl, rfl⟩) | (go_at_call 55; refine (CHx.out _ HBEL.out).mono ?_; rintro e w4 ⟨g, o, cap, rfl, hb4, hr4⟩) | (go_at_call 48; refine (HNE.out _ _ _ _ _ _ _).mono ?_; rintro e w5 ⟨rfl, rfl⟩) | (go_at_call 49; refine (CAx.out _ _ _ _ (two_worlds HBEL.out hb4) hr4).mono ?_; rintro e w6 ⟨rfl, hb6⟩))
            go_roundw
            case rel => exact ⟨x + 1, by omega, by rw [HN2.out], by go_num, two_worlds (two_worlds HBEL.out hb4) hb6⟩
            case measure => simp [intOf]; omega
          | true =>
            have HN2 : Hid (fewF ok n1 (x + 1) = x) := by unfold Hid; rw [HN.out, hk, hb]; rfl
            rw [hk] at CAx
            clear HN hb hk f2 f3 hm0 IB CH CA
            go_wp2_with (first | (go_at_call 63; refine (IBx.out _ HBEL.out).mono ?_; rintro e w3 ⟨rfl, rfl⟩) | (go_at_call 55; refine (CHx.out _ HBEL.out).mono ?_; rintro e w4 ⟨g, o, cap, rfl, hb4, hr4⟩) | (go_at_call 48; refine (HNE.out _ _ _ _ _ _ _).mono ?_; rintro e w5 ⟨rfl, rfl⟩) | (go_at_call 49; refine (CAx.out _ _ _ _ (two_worlds HBEL.out hb4) hr4).mono ?_; rintro e w6 ⟨rfl, hb6⟩))
            go_roundw
            case rel => exact ⟨x + 1, by omega, by rw [HN2.out], by go_num, two_worlds (two_worlds HBEL.out hb4) hb6⟩
            case measure => simp [intOf]; omega
      · have hxa : x = all := by omega
        subst hxa
        obtain ⟨_, f2, _, _⟩ := HF.out x hx
        obtain ⟨L, hL⟩ : ∃ L, L = filtN (fun i => (fewF ok n1 x).testBit i) n1 := ⟨_, rfl⟩
        have HME := Lib.hid (fun W hW => ME.out (fewF ok n1 x) W f2 hW)
        rw [← hL] at HME HR
        clear ME IB CH CA HF f2 hL
        generalize fewF ok n1 x = f at HME
        go_wp2_with (go_at_call 46; refine (HME.out _ HBEL.out).mono ?_; rintro e w3 ⟨hb3, ao, cap, rfl, ho3⟩)
        have B3 := two_worlds HBEL.out hb3
        have O3 := own_lo ho3 HBEL.out.size
        go_ret2
        exact givesIs_of HR.out B3 rfl O3
end Go.Proofs.YtkfeihnapcfkgaaDoor
