/-
  Blowers: BestDay: the program's walk.
-/
import Derived.Test.YtiilgeoahpnkpaaBlowBd1
import Derived.OwnWalk
namespace Go.Proofs.Ytiilgeoahpnkpaa
open Go.RowKit

theorem dayOf_bad {ts : List TBlower} {ns : List Int} (h : ¬ ncode ts ns = 0) : dayOf ts ns = ([], 0, ncode ts ns) := by unfold dayOf; rw [if_neg h]
theorem dayOf_none {ts : List TBlower} {ns : List Int} (h : ncode ts ns = 0) (hf : feasB ts ns = false) : dayOf ts ns = ([], 0, 3) := by unfold dayOf; rw [if_pos h, hf]; rfl
theorem dayOf_good {ts : List TBlower} {ns : List Int} (h : ncode ts ns = 0) (hf : feasB ts ns = true) : dayOf ts ns = (pathL ts ns ns.length, restD ts ns ns.length 0, 0) := by unfold dayOf; rw [if_pos h, if_pos hf]
theorem ncode_of {ts : List TBlower} {ns : List Int} (h : ncode ts ns = 0) : blsB ts = true ∧ neB ns = true := by
  unfold ncode bcode at h
  split at h
  · split at h
    · exact ⟨by assumption, by assumption⟩
    · exact absurd h (by decide)
  · exact absurd h (by decide)
set_option maxRecDepth 20000 in
set_option maxHeartbeats 4000000 in
theorem implBestDay_any (w : World) {a0 : Option Addr} {n0 c0 : Nat} (ts0 : List TBlower) (hn0 : Hid (ts0.length = n0)) (h0 : RR 3 cBlower w a0 ts0) (hs0 : n0 ≤ 1048576) (_wf0 : Hid (∀ t ∈ ts0, wfBlower t)) {a1 : Option Addr} {n1 c1 : Nat} (l1 : List Int) (hn1 : Hid (l1.length = n1)) (h1 : RI w a1 l1) (hs1 : n1 ≤ 1048576) (_wf1 : Hid (∀ k ∈ l1, (Lit.int .i64 k).wf = true)) :
    Calls Try.prog 18 #[.slice a0 n0 c0, .slice a1 n1 c1] w (GivesIs2 2 (dayOf ts0 l1) w) := by
  have CN := checkNeeds_any a0 ts0 n0 c0 a1 l1 n1 c1 w hn0 h0 hs0 hn1 h1 hs1
  have HA : Hid (∀ W, Below w.heap.size w W → RR 3 cBlower W a0 ts0 ∧ RI W a1 l1) := fun W h => ⟨h0.below h, h1.below h⟩
  clear h0 h1
  rcases eq_ways (ncode ts0 l1) 0 with ⟨⟨k1, k2⟩, hd⟩ | ⟨⟨k1, k2⟩, hd⟩
  rotate_left
  · have HR := Lib.hid (dayOf_bad hd)
    clear hd HA
    go_enter Try.func18, Try.ntmps18
    go_wp2_with (first | (go_at_call 57; refine CN.mono ?_; rintro e w1 ⟨rfl, hb1⟩; have HB1 := Lib.hid hb1; clear hb1))
    go_ret3
    exact givesIs2_nil HR.out HB1.out
  obtain ⟨hv, hne⟩ := ncode_of hd
  have h4 : n0 ≤ 4 := by rw [← hn0.out]; exact (blsB_of hv).1
  have h24 : n1 ≤ 24 := by rw [← hn1.out]; exact (neB_of hne).1
  have NB : Hid (∀ W, Below w.heap.size w W → Calls Try.prog 58 #[.slice a0 n0 c0] W fun e w' => (∃ g c, e = .returned (.slice (some ⟨g, 0, none⟩) (2 ^ n0) c) ∧ RR 3 cBlower w' (some ⟨g, 0, none⟩) (bankL ts0 n0)) ∧ Below W.heap.size W w') := fun W hW => newBank_any a0 ts0 n0 c0 W hn0 (HA.out W hW).1 hv
  have HL : Hid (∀ N, N = 2 ^ n0 → N ≤ 16) := fun N e => by rw [e]; exact pow_le16 h4
  have CM : Hid (∀ (g c N : Nat) (W : World), Hid (N = 2 ^ n0) → N ≤ 16 → RR 3 cBlower W (some ⟨g, 0, none⟩) (bankL ts0 n0) → Below w.heap.size w W → Calls Try.prog 59 #[.slice (some ⟨g, 0, none⟩) N c, .slice a1 n1 c1] W fun e w' => e = .returned (.bool (feasB ts0 l1)) ∧ W = w') := fun g c N W hN h16 hg hW => by
    have h := canMeet_any g n0 c ts0 N a1 l1 n1 c1 W hN h16 hg hn1 (HA.out W hW).2 hs1
    have e : (l1.all fun f => pwB ts0 n0 f (2 ^ n0 - 1)) = feasB ts0 l1 := by unfold feasB; rw [hn0.out]
    rw [e] at h
    exact h
  rw [hd] at CN
  cases hf : feasB ts0 l1 with
  | false =>
    have HR := Lib.hid (dayOf_none hd hf)
    rw [hf] at CM
    clear hd hf hv hne k1 k2 HA
    go_enter Try.func18, Try.ntmps18
    go_wp2_with (first | (go_at_call 57; refine CN.mono ?_; rintro e w1 ⟨rfl, hb1⟩; have HB1 := Lib.hid hb1; clear hb1) | (go_at_call 58; refine (NB.out _ HB1.out).mono ?_; rintro e w2 ⟨⟨g, c, rfl, hg⟩, hb2⟩; obtain ⟨N, hN⟩ : ∃ N, N = 2 ^ n0 := ⟨_, rfl⟩; have h16 := HL.out N hN; rw [← hN]; have HN := Lib.hid hN; clear hN; have HG := Lib.hid hg; clear hg; have HB2 := Lib.hid (HB1.out.trans (hb2.mono HB1.out.size)); clear hb2; have CM2 := CM.out g c N w2 HN h16 HG.out HB2.out) | (go_at_call 59; refine CM2.mono ?_; rintro e w5 ⟨rfl, rfl⟩))
    go_ret3
    exact givesIs2_nil HR.out HB2.out
  | true =>
    have hr := dayOf_good hd hf
    rw [hn1.out] at hr
    have HR := Lib.hid hr
    have HP : Hid (∀ N, N = 2 ^ n0 → DayP ts0 l1 n0 n1 N) := fun N e => ⟨hv, hf, hn0.out, hn1.out, e, HL.out N e, h24⟩
    rw [hf] at CM
    clear hd hf hv hne k1 k2 hr
    go_enter Try.func18, Try.ntmps18
    go_wp2_with (first | (go_at_call 57; refine CN.mono ?_; rintro e w1 ⟨rfl, hb1⟩; have HB1 := Lib.hid hb1; clear hb1) | (go_at_call 58; refine (NB.out _ HB1.out).mono ?_; rintro e w2 ⟨⟨g, c, rfl, hg⟩, hb2⟩; obtain ⟨N, hN⟩ : ∃ N, N = 2 ^ n0 := ⟨_, rfl⟩; have h16 := HL.out N hN; rw [← hN]; have HN := Lib.hid hN; clear hN; have HG := Lib.hid hg; clear hg; have HB2 := Lib.hid (HB1.out.trans (hb2.mono HB1.out.size)); clear hb2; have CM2 := CM.out g c N w2 HN h16 HG.out HB2.out) | (go_at_call 59; refine CM2.mono ?_; rintro e w5 ⟨rfl, rfl⟩) | (go_at_call 60; refine (newDay_any (HP.out N HN.out) g c c1 a1 w2 HG.out (HA.out _ HB2.out).2).mono ?_; rintro e w6 ⟨rfl, hb6, R, hM, hT⟩; have HB6 := Lib.hid (HB2.out.trans (hb6.mono HB2.out.size)); have HG6 := Lib.hid (HG.out.below hb6); have HM6 := Lib.hid hM; have HT6 := Lib.hid hT; clear hb6 hM hT) | (go_at_call 61; refine (setsDay_any (HP.out N HN.out) w2.heap.size g c c1 a1 R w6 HM6.out HT6.out HG6.out (HA.out _ HB6.out).2).mono ?_; rintro e w7 ⟨hb7, ao, cap, rfl, ho7⟩; have HB7 := Lib.hid (HB6.out.trans (hb7.mono HB6.out.size)); have HM7 := Lib.hid (HM6.out.below hb7); have HO7 := Lib.hid ho7; clear hb7 ho7) | (go_at_call 62; refine (costDay_any (HP.out N HN.out) w2.heap.size g c c1 a1 R w7 HM7.out HT6.out).mono ?_; rintro e w8 ⟨rfl, rfl⟩))
    go_ret3
    exact givesIs2_of HR.out HB7.out (pathL_len n1) (own_lo HO7.out HB6.out.size)
end Go.Proofs.Ytiilgeoahpnkpaa
