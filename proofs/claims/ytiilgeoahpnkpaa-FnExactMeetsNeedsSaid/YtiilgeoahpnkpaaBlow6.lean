/-
  Blowers: MeetsNeeds: the model's walk and the program's.
-/
import Derived.Test.YtiilgeoahpnkpaaBlow5
namespace Go.Proofs.Ytiilgeoahpnkpaa
open Go.RowKit

theorem meetOf_bad {ts : List TBlower} {ns l : List Int} (h : ¬ mcode ts ns l = 0) : meetOf ts ns l = (false, mcode ts ns l) := by unfold meetOf; rw [if_neg h]
theorem meetOf_good {ts : List TBlower} {ns l : List Int} (h : mcode ts ns l = 0) : meetOf ts ns l = (meetB ts ns l, 0) := by unfold meetOf; rw [if_pos h]
theorem meetB_no {ts : List TBlower} {ns l : List Int} {k s : Nat} {q : Int} (hk : k < l.length) (h1 : l.getD k 0 = (s : Int)) (h2 : ns.getD k 0 = q) (h : decide (q ≤ sumS (pwN ts) s ts.length) = false) : meetB ts ns l = false := by
  unfold meetB
  rw [List.all_eq_false]
  refine ⟨k, List.mem_range.2 hk, ?_⟩
  rw [h1, h2, Int.toNat_natCast, h]
  decide
theorem meetB_yes {ts : List TBlower} {ns l : List Int} (h : ∀ k, k < l.length → decide (ns.getD k 0 ≤ sumS (pwN ts) (l.getD k 0).toNat ts.length) = true) : meetB ts ns l = true := by
  unfold meetB
  rw [List.all_eq_true]
  intro k hk
  exact h k (List.mem_range.1 hk)
/-- What the walks of MeetsNeeds take of valid arguments. -/
structure Meet (ts : List TBlower) (ns l : List Int) (n m : Nat) : Prop where
  four : n ≤ 4
  len : ns.length = m
  day : m ≤ 24
  sets : ∀ k, k < m → ∃ s : Nat, l.getD k 0 = (s : Int) ∧ s < 2 ^ n
  no : ∀ (k s : Nat) (q : Int), k < m → l.getD k 0 = (s : Int) → ns.getD k 0 = q → decide (q ≤ sumS (pwN ts) s n) = false → meetOf ts ns l = (false, 0)
  yes : (∀ k, k < m → decide (ns.getD k 0 ≤ sumS (pwN ts) (l.getD k 0).toNat n) = true) → meetOf ts ns l = (true, 0)
theorem meet_of {ts : List TBlower} {ns l : List Int} {n m : Nat} (hn : ts.length = n) (hm : l.length = m) (h : mcode ts ns l = 0) : Meet ts ns l n m := by
  obtain ⟨h1, h2, h3, h4⟩ := mcode_of h
  subst hn hm
  refine ⟨(blsB_of h1).1, h3.symm, (dayB_of h4).1, fun k hk => ?_, fun k s q hk e1 e2 e3 => ?_, fun ha => ?_⟩
  · rw [getD_atI hk]
    exact (dayB_of h4).2 k hk
  · rw [meetOf_good h, meetB_no hk e1 e2 e3]
  · rw [meetOf_good h, meetB_yes ha]
set_option maxRecDepth 20000 in
set_option maxHeartbeats 2000000 in
theorem implMeetsNeeds_any (w : World) {a0 : Option Addr} {n0 c0 : Nat} (ts0 : List TBlower) (hn0 : Hid (ts0.length = n0)) (h0 : RR 3 cBlower w a0 ts0) (hs0 : n0 ≤ 1048576) (_wf0 : Hid (∀ t ∈ ts0, wfBlower t)) {a1 : Option Addr} {n1 c1 : Nat} (l1 : List Int) (hn1 : Hid (l1.length = n1)) (h1 : RI w a1 l1) (hs1 : n1 ≤ 1048576) (_wf1 : Hid (∀ k ∈ l1, (Lit.int .i64 k).wf = true)) {a2 : Option Addr} {n2 c2 : Nat} (l2 : List Int) (hn2 : Hid (l2.length = n2)) (h2 : RI w a2 l2) (hs2 : n2 ≤ 1048576) (_wf2 : Hid (∀ k ∈ l2, (Lit.int .i64 k).wf = true)) :
    Calls Try.prog 27 #[.slice a0 n0 c0, .slice a1 n1 c1, .slice a2 n2 c2] w fun e w' => e = .returned (.tuple #[.bool (meetOf ts0 l1 l2).1, .int .i64 (meetOf ts0 l1 l2).2]) ∧ Below w.heap.size w w' := by
  have CS := checkMeeting_any a0 ts0 n0 c0 a1 l1 n1 c1 a2 l2 n2 c2 w hn0 h0 hs0 hn1 h1 hs1 hn2 h2 hs2
  rcases eq_ways (mcode ts0 l1 l2) 0 with ⟨⟨k1, k2⟩, hd⟩ | ⟨⟨k1, k2⟩, hd⟩
  rotate_left
  · have HR := Lib.hid (meetOf_bad hd)
    clear h0 h1 h2 hd
    go_enter Try.func27, Try.ntmps27
    go_wp2_with (first | (go_at_call 81; refine CS.mono ?_; rintro e w1 ⟨rfl, hb1⟩))
    go_ret2
    rw [HR.out]
    exact ⟨rfl, hb1⟩
  have HM := Lib.hid (meet_of hn0.out hn2.out hd)
  have h24 := HM.out.day
  have h12 : Hid (n1 = n2) := hn1.out.symm.trans HM.out.len
  have NB : Hid (∀ W, Below w.heap.size w W → Calls Try.prog 58 #[.slice a0 n0 c0] W fun e w' => (∃ g c, e = .returned (.slice (some ⟨g, 0, none⟩) (2 ^ n0) c) ∧ RR 3 cBlower w' (some ⟨g, 0, none⟩) (bankL ts0 n0)) ∧ Below W.heap.size W w') := fun W hW => newBank_any a0 ts0 n0 c0 W hn0 (h0.below hW) (mcode_of hd).1
  have HRI : Hid (∀ W, Below w.heap.size w W → RI W a1 l1 ∧ RI W a2 l2) := fun W h => ⟨h1.below h, h2.below h⟩
  rw [hd] at CS
  clear h0 h1 h2 hd k1 k2
  go_enter Try.func27, Try.ntmps27
  go_wp2_with (first | (go_at_call 81; refine CS.mono ?_; rintro e w1 ⟨rfl, hb1⟩; have HB1 := Lib.hid hb1; clear hb1) | (go_at_call 58; refine (NB.out _ HB1.out).mono ?_; rintro e w2 ⟨⟨g, c, rfl, hg⟩, hb2⟩; obtain ⟨N, hN⟩ : ∃ N, N = 2 ^ n0 := ⟨_, rfl⟩; rw [← hN]; have HN := Lib.hid hN; clear hN; have HG := Lib.hid hg; clear hg; have HB2 := Lib.hid (HB1.out.trans (hb2.mono HB1.out.size)); clear hb2))
  go_loop [23] (fun i => ∃ k : Nat, k ≤ n2 ∧ i = .int .i64 k ∧ Hid (∀ j, j < k → decide (l1.getD j 0 ≤ sumS (pwN ts0) (l2.getD j 0).toNat n0) = true)) (fun i => n2 - (intOf i).toNat)
  case atStart => exact ⟨0, by omega, rfl, fun j hj => by omega⟩
  case round =>
    obtain ⟨k, hk, rfl, HALL⟩ := hrel
    by_cases hlt : k < n2
    · have hka : k < l2.length := by rw [hn2.out]; exact hlt
      have hkb : k < l1.length := by rw [hn1.out, h12.out]; exact hlt
      obtain ⟨b2, o2, rfl, hbl2, x2⟩ := (HRI.out _ HB2.out).2.at_ k hka
      obtain ⟨b1, o1, rfl, hbl1, x1⟩ := (HRI.out _ HB2.out).1.at_ k hkb
      obtain ⟨s, hs, hs2⟩ := HM.out.sets k hlt
      rw [← getD_atI hka, hs] at x2
      rw [← getD_atI hkb] at x1
      have HNO : Hid (decide (l1.getD k 0 ≤ sumS (pwN ts0) s n0) = false → meetOf ts0 l1 l2 = (false, 0)) := HM.out.no k s _ hlt hs rfl
      have HYES : Hid (decide (l1.getD k 0 ≤ sumS (pwN ts0) s n0) = true → ∀ j, j < k + 1 → decide (l1.getD j 0 ≤ sumS (pwN ts0) (l2.getD j 0).toNat n0) = true) := fun h j hj => if e : j = k then (by subst e; rw [hs, Int.toNat_natCast]; exact h) else HALL.out j (by omega)
      generalize l1.getD k 0 = q at x1 HNO HYES
      have HP := hasPower_any g n0 c s q ts0 N w2 HN HG.out (by rw [HN.out]; exact hs2)
      have hk0 : (0 : Int) ≤ (k : Int) := by omega
      have hk1 : (k : Int) < (n2 : Int) := by omega
      have hk2 : (k : Int) < (n1 : Int) := by { have := h12.out; omega }
      clear hs hs2
      cases hdq : decide (q ≤ sumS (pwN ts0) s n0) with
      | true =>
        have HY := Lib.hid (HYES.out hdq)
        rw [hdq] at HP
        clear HNO HYES hdq
        go_wp2_with (go_at_call 82; refine HP.mono ?_; rintro e w4 ⟨rfl, rfl⟩)
        go_round
        case rel => exact ⟨k + 1, by omega, by go_num, HY⟩
        case measure => simp [intOf]; omega
      | false =>
        have HR := Lib.hid (HNO.out hdq)
        rw [hdq] at HP
        clear HNO HYES hdq
        go_wp2_with (go_at_call 82; refine HP.mono ?_; rintro e w4 ⟨rfl, rfl⟩)
        go_ret2
        rw [HR.out]
        exact ⟨rfl, HB2.out⟩
    · have HR : Hid (meetOf ts0 l1 l2 = (true, 0)) := HM.out.yes fun j hj => HALL.out j (by omega)
      go_wp2
      go_ret2
      rw [HR.out]
      exact ⟨rfl, HB2.out⟩
set_option maxRecDepth 20000 in
set_option maxHeartbeats 2000000 in
theorem specMeetsNeeds_any (w : World) {a0 : Option Addr} {n0 c0 : Nat} (ts0 : List TBlower) (hn0 : Hid (ts0.length = n0)) (h0 : RR 3 cBlower w a0 ts0) (hs0 : n0 ≤ 1048576) (_wf0 : Hid (∀ t ∈ ts0, wfBlower t)) {a1 : Option Addr} {n1 c1 : Nat} (l1 : List Int) (hn1 : Hid (l1.length = n1)) (h1 : RI w a1 l1) (hs1 : n1 ≤ 1048576) (_wf1 : Hid (∀ k ∈ l1, (Lit.int .i64 k).wf = true)) {a2 : Option Addr} {n2 c2 : Nat} (l2 : List Int) (hn2 : Hid (l2.length = n2)) (h2 : RI w a2 l2) (hs2 : n2 ≤ 1048576) (_wf2 : Hid (∀ k ∈ l2, (Lit.int .i64 k).wf = true)) :
    Calls Try.prog 28 #[.slice a0 n0 c0, .slice a1 n1 c1, .slice a2 n2 c2] w fun e w' => e = .returned (.tuple #[.bool (meetOf ts0 l1 l2).1, .int .i64 (meetOf ts0 l1 l2).2]) ∧ Below w.heap.size w w' := by
  have OK := l11Ok_any a0 ts0 n0 c0 w hn0 h0 hs0
  have NE : Hid (∀ W, Below w.heap.size w W → Calls Try.prog 64 #[.slice a1 n1 c1] W fun e w' => e = .returned (.bool (neB l1)) ∧ W = w') := fun W hW => l11Needs_any a1 l1 n1 c1 W hn1 (h1.below hW) hs1
  have CS : Hid (∀ W, Below w.heap.size w W → Calls Try.prog 78 #[.slice a0 n0 c0, .slice a2 n2 c2] W fun e w' => e = .returned (.int .i64 (dcode ts0 l2)) ∧ Below W.heap.size W w') := fun W hW => l11Sets_any a0 ts0 n0 c0 a2 l2 n2 c2 W hn0 (h0.below hW) hs0 hn2 (h2.below hW) hs2
  have HAA : Hid (∀ W, Below w.heap.size w W → RR 3 cBlower W a0 ts0) := fun W h => h0.below h
  have HRI : Hid (∀ W, Below w.heap.size w W → RI W a1 l1 ∧ RI W a2 l2) := fun W h => ⟨h1.below h, h2.below h⟩
  clear h0 h1 h2
  cases hb : blsB ts0 with
  | false =>
    rw [hb] at OK
    have HR : Hid (meetOf ts0 l1 l2 = (false, 1)) := by
      have e : mcode ts0 l1 l2 = 1 := by unfold mcode; rw [hb]; simp
      unfold Hid; rw [meetOf_bad (by rw [e]; decide), e]
    clear hb
    go_enter Try.func28, Try.ntmps28
    go_wp2_with (first | (go_at_call 63; refine OK.mono ?_; rintro e w1 ⟨rfl, hb1⟩))
    go_ret2
    rw [HR.out]
    exact ⟨rfl, hb1⟩
  | true =>
    rw [hb] at OK
    cases hq : neB l1 with
    | false =>
      rw [hq] at NE
      have HR : Hid (meetOf ts0 l1 l2 = (false, 1)) := by
        have e : mcode ts0 l1 l2 = 1 := by unfold mcode; rw [hq]; simp
        unfold Hid; rw [meetOf_bad (by rw [e]; decide), e]
      clear hb hq
      go_enter Try.func28, Try.ntmps28
      go_wp2_with (first | (go_at_call 63; refine OK.mono ?_; rintro e w1 ⟨rfl, hb1⟩) | (go_at_call 64; refine (NE.out _ hb1).mono ?_; rintro e w1 ⟨rfl, rfl⟩))
      go_ret2
      rw [HR.out]
      exact ⟨rfl, hb1⟩
    | true =>
      rw [hq] at NE
      rcases eq_ways (dcode ts0 l2) 0 with ⟨⟨k1, k2⟩, hd⟩ | ⟨⟨k1, k2⟩, hd⟩
      rotate_left
      · have HR : Hid (meetOf ts0 l1 l2 = (false, dcode ts0 l2)) := by
          have e : mcode ts0 l1 l2 = dcode ts0 l2 := by
            unfold mcode
            rw [if_pos ⟨hb, hq⟩]
            split
            · rfl
            · rename_i hne
              unfold dcode at hd ⊢
              rw [if_pos hb] at hd ⊢
              split at hd
              · exact absurd rfl hd
              · rename_i h3; rw [if_neg h3]
          unfold Hid; rw [meetOf_bad (by rw [e]; exact hd), e]
        clear hb hq hd
        go_enter Try.func28, Try.ntmps28
        go_wp2_with (first | (go_at_call 63; refine OK.mono ?_; rintro e w1 ⟨rfl, hb1⟩) | (go_at_call 64; refine (NE.out _ hb1).mono ?_; rintro e w1 ⟨rfl, rfl⟩) | (go_at_call 78; refine (CS.out _ hb1).mono ?_; rintro e w3 ⟨rfl, hb3⟩; have HB3 := Lib.hid (hb1.trans (hb3.mono hb1.size)); clear hb3))
        go_ret2
        rw [HR.out]
        exact ⟨rfl, HB3.out⟩
      · rw [hd] at CS
        rcases eq_ways (n2 : Int) (n1 : Int) with ⟨⟨j1, j2⟩, hmq⟩ | ⟨⟨j1, j2⟩, hmq⟩
        rotate_left
        · have HR : Hid (meetOf ts0 l1 l2 = (false, 2)) := by
            have e : mcode ts0 l1 l2 = 2 := by unfold mcode; rw [if_pos ⟨hb, hq⟩, if_neg (by rw [hn1.out, hn2.out]; omega)]
            unfold Hid; rw [meetOf_bad (by rw [e]; decide), e]
          clear hb hq hd k1 k2
          go_enter Try.func28, Try.ntmps28
          go_wp2_with (first | (go_at_call 63; refine OK.mono ?_; rintro e w1 ⟨rfl, hb1⟩) | (go_at_call 64; refine (NE.out _ hb1).mono ?_; rintro e w1 ⟨rfl, rfl⟩) | (go_at_call 78; refine (CS.out _ hb1).mono ?_; rintro e w3 ⟨rfl, hb3⟩; have HB3 := Lib.hid (hb1.trans (hb3.mono hb1.size)); clear hb3))
          go_ret2
          rw [HR.out]
          exact ⟨rfl, HB3.out⟩
        · have hmc : mcode ts0 l1 l2 = 0 := by unfold mcode; rw [if_pos ⟨hb, hq⟩, if_pos (by rw [hn1.out, hn2.out]; omega), hd]
          have HM := Lib.hid (meet_of hn0.out hn2.out hmc)
          have h24 := HM.out.day
          have h12 : Hid (n1 = n2) := by unfold Hid; omega
          have h16 := pow_le16 HM.out.four
          have PW : Hid (∀ W, Below w.heap.size w W → ∀ s : Nat, s < 16 → Calls Try.prog 65 #[.slice a0 n0 c0, .int .i64 s] W fun e w' => e = .returned (.int .i64 (sumS (pwN ts0) s n0)) ∧ W = w') := fun W hW s hs => l11Power_any a0 ts0 n0 c0 s W hn0 (HAA.out W hW) hb (by omega)
          clear hb hq hd k1 k2 hmc HAA
          go_enter Try.func28, Try.ntmps28
          go_wp2_with (first | (go_at_call 63; refine OK.mono ?_; rintro e w1 ⟨rfl, hb1⟩) | (go_at_call 64; refine (NE.out _ hb1).mono ?_; rintro e w1 ⟨rfl, rfl⟩) | (go_at_call 78; refine (CS.out _ hb1).mono ?_; rintro e w3 ⟨rfl, hb3⟩; have HB3 := Lib.hid (hb1.trans (hb3.mono hb1.size)); clear hb3))
          go_loopw [9] (fun i wr => ∃ k m : Nat, k ≤ n2 ∧ i = .int .i64 k ∧ wr = w3.drewN m ∧ Hid (∀ j, j < k → decide (l1.getD j 0 ≤ sumS (pwN ts0) (l2.getD j 0).toNat n0) = true)) (fun i _ => n2 - (intOf i).toNat)
          case atStart => exact ⟨0, 0, by omega, rfl, rfl, fun j hj => by omega⟩
          case round =>
            obtain ⟨k, m, hk, rfl, rfl, HALL⟩ := hrel
            by_cases hlt : k < n2
            · have hka : k < l2.length := by rw [hn2.out]; exact hlt
              have hkb : k < l1.length := by rw [hn1.out, h12.out]; exact hlt
              have HBM := Lib.hid (Below.drewN' HB3.out m)
              obtain ⟨b2, o2, rfl, hbl2, x2⟩ := (HRI.out _ HB3.out).2.at_ k hka
              obtain ⟨b1, o1, rfl, hbl1, x1⟩ := (HRI.out _ HB3.out).1.at_ k hkb
              obtain ⟨s, hs, hs2⟩ := HM.out.sets k hlt
              rw [← getD_atI hka, hs] at x2
              rw [← getD_atI hkb] at x1
              have HNO : Hid (decide (l1.getD k 0 ≤ sumS (pwN ts0) s n0) = false → meetOf ts0 l1 l2 = (false, 0)) := HM.out.no k s _ hlt hs rfl
              have HYES : Hid (decide (l1.getD k 0 ≤ sumS (pwN ts0) s n0) = true → ∀ j, j < k + 1 → decide (l1.getD j 0 ≤ sumS (pwN ts0) (l2.getD j 0).toNat n0) = true) := fun h j hj => if e : j = k then (by subst e; rw [hs, Int.toNat_natCast]; exact h) else HALL.out j (by omega)
              have HPP := fun W hW => PW.out W hW s (by omega)
              generalize l1.getD k 0 = q at x1 HNO HYES
              generalize sumS (pwN ts0) s n0 = p at HNO HYES HPP
              have hk0 : (0 : Int) ≤ (k : Int) := by omega
              have hk1 : (k : Int) < (n2 : Int) := by omega
              have hk2 : (k : Int) < (n1 : Int) := by { have := h12.out; omega }
              clear hs hs2
              by_cases hqp : q ≤ p
              · have hqp2 : ¬ p < q := by omega
                have HY := Lib.hid (HYES.out (decide_eq_true hqp))
                clear HNO HYES
                go_wp2_with fail
                go_quiet (first | (go_at_call 65; refine (HPP _ (Below.drewN' HB3.out _)).mono ?_; rintro e w4 ⟨rfl, rfl⟩; exact ⟨rfl, _, rfl⟩))
                go_wp2
                go_roundw
                case rel => exact ⟨k + 1, _, by omega, by go_num, rfl, HY⟩
                case measure => simp [intOf]; omega
              · have hqp2 : p < q := by omega
                have HR := Lib.hid (HNO.out (decide_eq_false hqp))
                clear HNO HYES
                go_wp2_with fail
                go_quiet (first | (go_at_call 65; refine (HPP _ (Below.drewN' HB3.out _)).mono ?_; rintro e w4 ⟨rfl, rfl⟩; exact ⟨rfl, _, rfl⟩))
                go_wp2
                go_ret2
                rw [HR.out]
                exact ⟨rfl, Below.drewN' HBM.out _⟩
            · have HR : Hid (meetOf ts0 l1 l2 = (true, 0)) := HM.out.yes fun j hj => HALL.out j (by omega)
              have HBM := Lib.hid (Below.drewN' HB3.out m)
              go_wp2
              go_ret2
              rw [HR.out]
              exact ⟨rfl, HBM.out⟩
end Go.Proofs.Ytiilgeoahpnkpaa
