/-
  Blowers: CheapestHour: the model's walk.
-/
import Derived.Test.YtiilgeoahpnkpaaBlow10
namespace Go.Proofs.Ytiilgeoahpnkpaa
open Go.RowKit

/-- The model's best set so far: -1, or the first one of the cheapest. -/
def ChS (p : Nat → Bool) (c : Nat → Int) (i : Nat) (y : Int) : Prop := (y = -1 ∧ (chE p c i).2 = 9223372036854775807 ∧ ∀ j, j < i → p j = false) ∨ ∃ x : Nat, y = (x : Int) ∧ chE p c i = (x, c x) ∧ p x = true ∧ x < i
theorem ChS.zero (p : Nat → Bool) (c : Nat → Int) : ChS p c 0 (-1) := .inl ⟨rfl, rfl, fun j hj => by omega⟩
theorem ChS.skip {p : Nat → Bool} {c : Nat → Int} {i : Nat} {y : Int} (h : ChS p c i y) (hp : p i = false) : ChS p c (i + 1) y := by
  have e : chE p c (i + 1) = chE p c i := by rw [chE, if_neg (fun h => by rw [hp] at h; exact absurd h.1 (by decide))]
  rcases h with ⟨h1, h2, h3⟩ | ⟨x, h1, h2, h3, h4⟩
  · exact .inl ⟨h1, by rw [e]; exact h2, fun j hj => if q : j = i then (by rw [q]; exact hp) else h3 j (by omega)⟩
  · exact .inr ⟨x, h1, by rw [e]; exact h2, h3, by omega⟩
theorem ChS.first {p : Nat → Bool} {c : Nat → Int} {i : Nat} (h : ChS p c i (-1)) (hp : p i = true) (hc : c i < 9223372036854775807) : ChS p c (i + 1) i := by
  rcases h with ⟨_, h2, h3⟩ | ⟨x, h1, _⟩
  · exact .inr ⟨i, rfl, by rw [chE, if_pos ⟨hp, by rw [h2]; exact hc⟩], hp, by omega⟩
  · omega
theorem ChS.better {p : Nat → Bool} {c : Nat → Int} {i x : Nat} (h : ChS p c i x) (hp : p i = true) (hc : c i < c x) : ChS p c (i + 1) i := by
  rcases h with ⟨h1, _⟩ | ⟨z, h1, h2, h3, h4⟩
  · omega
  · have : z = x := by omega
    subst this
    exact .inr ⟨i, rfl, by rw [chE, h2, if_pos ⟨hp, hc⟩], hp, by omega⟩
theorem ChS.worse {p : Nat → Bool} {c : Nat → Int} {i x : Nat} (h : ChS p c i x) (hc : ¬ c i < c x) : ChS p c (i + 1) x := by
  rcases h with ⟨h1, _⟩ | ⟨z, h1, h2, h3, h4⟩
  · omega
  · have : z = x := by omega
    subst this
    exact .inr ⟨z, rfl, by rw [chE, h2, if_neg (fun h => hc h.2)], h3, by omega⟩
theorem ChS.split {p : Nat → Bool} {c : Nat → Int} {i : Nat} {y : Int} (h : ChS p c i y) : y = -1 ∨ ∃ x : Nat, y = (x : Int) ∧ x < i := by
  rcases h with ⟨h1, _⟩ | ⟨x, h1, _, _, h4⟩
  · exact .inl h1
  · exact .inr ⟨x, h1, h4⟩
theorem ChS.none {p : Nat → Bool} {c : Nat → Int} {i : Nat} (h : ChS p c i (-1)) : ∀ j, j < i → p j = false := by
  rcases h with ⟨_, _, h3⟩ | ⟨x, h1, _⟩
  · exact h3
  · omega
theorem ChS.some_ {p : Nat → Bool} {c : Nat → Int} {i x : Nat} (h : ChS p c i x) : p x = true ∧ (chE p c i).1 = x := by
  rcases h with ⟨h1, _⟩ | ⟨z, h1, h2, h3, h4⟩
  · omega
  · have : z = x := by omega
    subst this
    exact ⟨h3, by rw [h2]⟩
set_option maxRecDepth 20000 in
set_option maxHeartbeats 4000000 in
theorem specCheapestHour_any (w : World) {a0 : Option Addr} {n0 c0 : Nat} (ts0 : List TBlower) (hn0 : Hid (ts0.length = n0)) (h0 : RR 3 cBlower w a0 ts0) (hs0 : n0 ≤ 1048576) (_wf0 : Hid (∀ t ∈ ts0, wfBlower t)) (f1 : Int) (_wf1 : (Lit.int .i64 f1).wf = true) :
    Calls Try.prog 22 #[.slice a0 n0 c0, .int .i64 f1] w fun e w' => e = .returned (.tuple #[.int .i64 (cheapOf ts0 f1).1, .int .i64 (cheapOf ts0 f1).2]) ∧ Below w.heap.size w w' := by
  have OK := l11Ok_any a0 ts0 n0 c0 w hn0 h0 hs0
  have HIN := fun W => l00In_any f1 0 1000 W
  have HA : Hid (∀ W, Below w.heap.size w W → RR 3 cBlower W a0 ts0) := fun W h => h0.below h
  clear h0
  cases h : blsB ts0 with
  | false =>
    rw [h] at OK
    have HR : Hid (cheapOf ts0 f1 = (0, 1)) := by unfold Hid cheapOf; rw [h]; rfl
    clear h
    go_enter Try.func22, Try.ntmps22
    go_wp2_with (first | (go_at_call 63; refine OK.mono ?_; rintro e w1 ⟨rfl, hb1⟩))
    go_ret2
    rw [HR.out]
    exact ⟨rfl, hb1⟩
  | true =>
    rw [h] at OK
    cases h2 : inB f1 0 1000 with
    | false =>
      rw [h2] at HIN
      have HR : Hid (cheapOf ts0 f1 = (0, 2)) := by unfold Hid cheapOf; rw [if_pos h, h2]; rfl
      clear h h2
      go_enter Try.func22, Try.ntmps22
      go_wp2_with (first | (go_at_call 63; refine OK.mono ?_; rintro e w1 ⟨rfl, hb1⟩) | (go_at_call 74; refine (HIN _).mono ?_; rintro e w1 ⟨rfl, rfl⟩))
      go_ret2
      rw [HR.out]
      exact ⟨rfl, hb1⟩
    | true =>
      rw [h2] at HIN
      have h4 : n0 ≤ 4 := by rw [← hn0.out]; exact (blsB_of h).1
      have HR : Hid (cheapOf ts0 f1 = if pwB ts0 n0 f1 (2 ^ n0 - 1) = true then (((chE (pwB ts0 n0 f1) (stepS ts0 0) (2 ^ n0)).1 : Int), 0) else (0, 3)) := by unfold Hid cheapOf allS; rw [if_pos h, if_pos h2, hn0.out]
      obtain ⟨e1, e2⟩ := shlI h4
      have hp1 := Nat.two_pow_pos n0
      have hp2 := pow_le16 h4
      have HTOP : Hid (∀ s, pwB ts0 n0 f1 s = true → pwB ts0 n0 f1 (2 ^ n0 - 1) = true) := fun s hs => pwB_top h hs
      have HCS : Hid (∀ b s : Nat, 0 ≤ stepS ts0 b s ∧ stepS ts0 b s ≤ 80000) := fun b s => stepS_bd h b s
      have PW : Hid (∀ W, Below w.heap.size w W → ∀ s : Nat, s < 16 → Calls Try.prog 65 #[.slice a0 n0 c0, .int .i64 s] W fun e w' => e = .returned (.int .i64 (sumS (pwN ts0) s n0)) ∧ W = w') := fun W hW s hs => l11Power_any a0 ts0 n0 c0 s W hn0 (HA.out W hW) h (by omega)
      have ST : Hid (∀ W, Below w.heap.size w W → ∀ s : Nat, s < 16 → Calls Try.prog 66 #[.slice a0 n0 c0, .int .i64 0, .int .i64 s] W fun e w' => e = .returned (.int .i64 (stepS ts0 0 s)) ∧ W = w') := fun W hW s hs => l11Step_any a0 ts0 n0 c0 0 s W hn0 (HA.out W hW) h (by omega) (by omega)
      clear h h2 HA
      generalize hN : 2 ^ n0 = N at e1 e2 hp1 hp2 HTOP HR
      have HN := Lib.hid hN
      clear hN
      go_enter Try.func22, Try.ntmps22
      go_wp2_with (first | (go_at_call 63; refine OK.mono ?_; rintro e w1 ⟨rfl, hb1⟩; have HB1 := Lib.hid hb1; clear hb1) | (go_at_call 74; refine (HIN _).mono ?_; rintro e w2 ⟨rfl, rfl⟩))
      go_loop [6, 7] (fun bv iv => ∃ (i : Nat) (y : Int), i ≤ N ∧ iv = .int .i64 i ∧ bv = .int .i64 y ∧ Hid (ChS (pwB ts0 n0 f1) (stepS ts0 0) i y)) (fun _ iv => N - (intOf iv).toNat)
      case atStart => exact ⟨0, -1, by omega, rfl, rfl, ChS.zero _ _⟩
      case round =>
        obtain ⟨i, y, hi, rfl, rfl, HC⟩ := hrel
        by_cases hlt : i < N
        · have hk0 : (0 : Int) ≤ (i : Int) := by omega
          have hk1 : (i : Int) < (N : Int) := by omega
          have PI := PW.out _ HB1.out i (by omega)
          have HPB : Hid (pwB ts0 n0 f1 i = decide (f1 ≤ sumS (pwN ts0) i n0)) := rfl
          generalize sumS (pwN ts0) i n0 = p at PI HPB
          by_cases hp : f1 ≤ p
          · have HPT : Hid (pwB ts0 n0 f1 i = true) := HPB.out.trans (decide_eq_true hp)
            have SI := ST.out _ HB1.out i (by omega)
            have hsi := HCS.out 0 i
            rcases HC.out.split with rfl | ⟨x, rfl, hx⟩
            · have HC2 := Lib.hid (HC.out.first HPT.out (by omega))
              clear SI hsi
              go_wp2_with (first | (go_at_call 65; refine PI.mono ?_; rintro e w2 ⟨rfl, rfl⟩))
              go_round
              case rel => exact ⟨i + 1, (i : Int), by omega, by go_num, rfl, HC2⟩
              case measure => simp [intOf]; omega
            · have SX := ST.out _ HB1.out x (by omega)
              have hx0 : ¬ (x : Int) < 0 := by omega
              by_cases hc : stepS ts0 0 i < stepS ts0 0 x
              · have HC2 := Lib.hid (HC.out.better HPT.out hc)
                generalize stepS ts0 0 i = s1 at hc SI hsi
                generalize stepS ts0 0 x = s2 at hc SX
                go_wp2_with (first | (go_at_call 65; refine PI.mono ?_; rintro e w2 ⟨rfl, rfl⟩) | (go_at_call 66; first | (with_reducible refine Calls.mono SI ?_; rintro e w2 ⟨rfl, rfl⟩) | (with_reducible refine Calls.mono SX ?_; rintro e w2 ⟨rfl, rfl⟩)))
                go_round
                case rel => exact ⟨i + 1, (i : Int), by omega, by go_num, rfl, HC2⟩
                case measure => simp [intOf]; omega
              · have HC2 := Lib.hid (HC.out.worse hc)
                generalize stepS ts0 0 i = s1 at hc SI hsi
                generalize stepS ts0 0 x = s2 at hc SX
                go_wp2_with (first | (go_at_call 65; refine PI.mono ?_; rintro e w2 ⟨rfl, rfl⟩) | (go_at_call 66; first | (with_reducible refine Calls.mono SI ?_; rintro e w2 ⟨rfl, rfl⟩) | (with_reducible refine Calls.mono SX ?_; rintro e w2 ⟨rfl, rfl⟩)))
                go_round
                case rel => exact ⟨i + 1, (x : Int), by omega, by go_num, rfl, HC2⟩
                case measure => simp [intOf]; omega
          · have HC2 := Lib.hid (HC.out.skip (HPB.out.trans (decide_eq_false hp)))
            go_wp2_with (first | (go_at_call 65; refine PI.mono ?_; rintro e w2 ⟨rfl, rfl⟩))
            go_round
            case rel => exact ⟨i + 1, y, by omega, by go_num, rfl, HC2⟩
            case measure => simp [intOf]; omega
        · have hkn : i = N := by omega
          subst hkn
          rcases HC.out.split with rfl | ⟨x, rfl, hx⟩
          · have hno := HC.out.none (i - 1) (by omega)
            rw [hno] at HR
            simp only [Bool.false_eq_true, if_false] at HR
            clear hno
            go_wp2
            go_ret2
            rw [HR.out]
            exact ⟨rfl, HB1.out⟩
          · obtain ⟨hy, he⟩ := HC.out.some_
            have hy2 := HTOP.out x hy
            rw [if_pos hy2, he] at HR
            have hx0 : ¬ (x : Int) < 0 := by omega
            clear hy he hy2
            go_wp2
            go_ret2
            rw [HR.out]
            exact ⟨rfl, HB1.out⟩
end Go.Proofs.Ytiilgeoahpnkpaa
