/-
  The walks of the laws' own helpers that write marks into slices of lists of numbers and look for them again.
-/
import Derived.Test.YtgjbahnloladfaaInt64SNest
namespace Go.Proofs.Ytgjbahnloladfaa
open Go.RowKit

theorem cInt64S_marked {lo hi g n cap : Nat} {ts : List TInt64S} {q : Int} {j : Nat} {w1 : World} (_hn : ts.length = n) (hj : j < ts.length)
    (h : OwN lo hi 24 2 1 cInt64S (.slice (some ⟨g, 0, none⟩) n cap) ((markN 0 exInt64S q ts j).set j (marksI (startN 0 q ts j) ts[j].1.length, ts[j].2)) w1) :
    OwN lo hi 24 2 1 cInt64S (.slice (some ⟨g, 0, none⟩) n cap) (markN 0 exInt64S q ts (j + 1)) w1 := by
  rw [← markN_step _ _ _ _ _ hj]
  exact h
set_option maxHeartbeats 2000000 in
theorem markInt64SS_any (v : Value) (ts : List TInt64S) (lo hi n : Nat) (q : Int) (w : World) (hn : Hid (ts.length = n)) (hown : OwN lo hi 24 2 1 cInt64S v ts w) (hl : Hid (∀ i (h : i < ts.length), ts[i].1.length ≤ 1048577)) (hmax : n ≤ 1048577) (h0 : 0 ≤ q) (h1 : q ≤ 1000000000000000) :
    Calls Try.prog 35 #[v, .int .i64 q] w (MarksN 24 2 1 cInt64S 0 exInt64S v lo hi ts q w) := by
  obtain ⟨es, he, hrow, _, _⟩ := id hown
  rcases hrow.1.2 with ⟨hv, hz⟩ | ⟨g, cap, cur0, hv, _, _, _, hcm, _, _⟩
  · subst hv
    have HT : Hid (ts = []) := List.eq_nil_of_length_eq_zero hz
    have HR : Hid (MarksN 24 2 1 cInt64S 0 exInt64S (.slice none 0 0) lo hi ts q w (.returned (.int .i64 q)) w) := by
      unfold Hid MarksN
      rw [HT.out]
      exact ⟨by rw [List.length_nil, startN_zero], Turned.refl _ _ _, OwN.nil _ _ _⟩
    clear hown hrow he hz hl
    go_enter Try.func35, Try.ntmps35
    go_wp2
    go_loop [1, 5] (fun l i => i = .int .i64 0 ∧ l = .int .i64 q) (fun _ _ => 0)
    case atStart => exact ⟨rfl, rfl⟩
    case round =>
      obtain ⟨rfl, rfl⟩ := hrel
      go_wp2
      go_ret
      exact HR.out
  · subst hv
    have hb := hown.bounds g rfl
    have HGB := Lib.hid hb
    have HOWN := Lib.hid hown
    rw [hn.out]
    unfold maxLen at hcm
    clear hrow he hb hown hcm
    go_enter Try.func35, Try.ntmps35
    go_wp2
    go_loopw [1, 5] (fun l i wr => ∃ j : Nat, j ≤ n ∧ i = .int .i64 j ∧ l = .int .i64 (startN 0 q ts j) ∧ Hid (Turned lo hi w wr) ∧ Hid (OwN lo hi 24 2 1 cInt64S (.slice (some ⟨g, 0, none⟩) n cap) (markN 0 exInt64S q ts j) wr)) (fun _ i _ => n - (intOf i).toNat)
    case atStart => exact ⟨0, by omega, rfl, by rw [startN_zero], Turned.refl _ _ _, by rw [markN_zero, ← hn.out]; exact HOWN.out⟩
    case round =>
      obtain ⟨j, hj, rfl, rfl, HTN, HO⟩ := hrel
      by_cases hlt : j < n
      · have hka : j < ts.length := by rw [hn.out]; exact hlt
        obtain ⟨ai, ci, hc, ho, hbd, hnext⟩ := HO.out.mark_at cInt64S_len hka
        have HN : Hid (∀ w1, wr.grownBy w1 (Value.slice ai ts[j].1.length ci).ownBlock → w1.ownsRow lo 2 1 (.slice ai ts[j].1.length ci) ts[j].1.length ((marksI (startN 0 q ts j) ts[j].1.length).map (Value.int .i64)) → OwN lo hi 24 2 1 cInt64S (.slice (some ⟨g, 0, none⟩) n cap) ((markN 0 exInt64S q ts j).set j (marksI (startN 0 q ts j) ts[j].1.length, ts[j].2)) w1 ∧ (∀ (i : Nat) (v : Value), (cInt64S (.slice ai ts[j].1.length ci) ts[j].2)[i]? = some v → w1.cell? ⟨g, j * 1 + i, none⟩ = some v)) := hnext
        have HM : Hid (∀ w1, OwN lo hi 24 2 1 cInt64S (.slice (some ⟨g, 0, none⟩) n cap) ((markN 0 exInt64S q ts j).set j (marksI (startN 0 q ts j) ts[j].1.length, ts[j].2)) w1 → OwN lo hi 24 2 1 cInt64S (.slice (some ⟨g, 0, none⟩) n cap) (markN 0 exInt64S q ts (j + 1)) w1) := fun w1 h => cInt64S_marked hn.out hka h
        have HS := Lib.hid (startN_succ 0 q ts j hka)
        have hbs := startN_le 0 q ts (by omega) (by omega) hl.out j (by omega)
        have hlj := hl.out j hka
        have x0 := hc 0 _ rfl
        simp only [Nat.mul_one, Nat.add_zero] at x0
        generalize hst : startN 0 q ts j = st at hbs HN HM HS
        clear hst hnext hc
        have HO1 := Lib.hid ho
        have HBD := Lib.hid hbd
        clear ho hbd
        generalize ts[j] = t at x0 HO1 HBD HN HM HS hlj
        obtain ⟨t1, t2⟩ := t
        dsimp only at x0 HO1 HBD HN HM HS hlj
        generalize t1.length = r at x0 HO1 HBD HN HM HS hlj
        have hk0 : (0 : Int) ≤ (j : Int) := by omega
        have hk1 : (j : Int) < (n : Int) := by omega
        have hst0 : 0 ≤ st := by omega
        have hst1 : st ≤ 2000000000000000 := by omega
        clear hbs
        go_wp2_with fail
        refine (markInt64S_any ai (t1.map (Value.int .i64)) lo r ci st _ HO1.out hlj hst0 (by omega)).mono ?_
        rintro e w1 ⟨rfl, hg, ho1⟩
        obtain ⟨hq1, hc1⟩ := HN.out w1 hg ho1
        have HT1 := Lib.hid (HTN.out.trans (Turned.grown hg HBD.out))
        have HM1 := Lib.hid (HM.out w1 hq1)
        have HO1 := Lib.hid hq1
        clear hq1 hc1 ho1 hg x0
        go_wp2
        go_roundw
        case rel => exact ⟨j + 1, by omega, by go_num, by rw [HS.out]; simp, HT1.out, HM1.out⟩
        case measure => simp [intOf]; omega
      · have hjn : j = n := by omega
        have HR : Hid (MarksN 24 2 1 cInt64S 0 exInt64S (.slice (some ⟨g, 0, none⟩) n cap) lo hi ts q w (.returned (.int .i64 (startN 0 q ts j))) wr) := by
          subst hjn
          unfold Hid MarksN
          rw [hn.out]
          exact ⟨rfl, HTN.out, HO.out⟩
        clear hjn
        go_wp2
        go_ret
        exact HR.out
set_option maxHeartbeats 2000000 in
theorem heldInt64SS_any (M : Nat) (a : Option Addr) (ts : List TInt64S) (n ca : Nat) (q : Int) (w : World) (hn : Hid (ts.length = n)) (hr : RN M 1 cInt64S w a (markN 0 exInt64S q ts n)) (hl : Hid (∀ i (h : i < ts.length), ts[i].1.length ≤ 1048577)) (hmax : n ≤ 1048577) (h0 : 0 ≤ q) (h1 : q ≤ 1000000000000000) :
    Calls Try.prog 36 #[.slice a n ca, .int .i64 q] w fun e w' => e = .returned (.int .i64 (startN 0 q ts n)) ∧ w = w' := by
  by_cases hz : n = 0
  · have HZ := Lib.hid hz
    have HR : Hid (q = startN 0 q ts n) := by unfold Hid; rw [hz, startN_zero]
    clear hz hr
    go_enter Try.func36, Try.ntmps36
    go_wp2
    go_loop [1, 5] (fun l i => ∃ j : Nat, j ≤ n ∧ i = .int .i64 j ∧ l = .int .i64 q) (fun _ _ => 0)
    case atStart => exact ⟨0, by omega, rfl, rfl⟩
    case round =>
      obtain ⟨j, hj, rfl, rfl⟩ := hrel
      have hlt : ¬ j < n := by rw [HZ.out]; omega
      go_wp2
      go_ret
      exact ⟨ret_int HR.out, rfl⟩
  · obtain ⟨b, off, rfl, hb, hc⟩ := hr.addr (by rw [markN_length, hn.out]; omega)
    have HC := Lib.hid hc
    clear hc hr
    go_enter Try.func36, Try.ntmps36
    go_wp2
    go_loop [1, 5] (fun l i => ∃ j : Nat, j ≤ n ∧ i = .int .i64 j ∧ l = .int .i64 (startN 0 q ts j)) (fun _ i => n - (intOf i).toNat)
    case atStart => exact ⟨0, by omega, rfl, by rw [startN_zero]⟩
    case round =>
      obtain ⟨j, hj, rfl, rfl⟩ := hrel
      by_cases hlt : j < n
      · have hka : j < ts.length := by rw [hn.out]; exact hlt
        obtain ⟨ai, ci, hri, hq1, hc⟩ := HC.out j (by rw [markN_length]; exact hka)
        have hg := markN_get 0 exInt64S q ts n j hka hlt
        have HS := Lib.hid (startN_succ 0 q ts j hka)
        have hbs := startN_le 0 q ts (by omega) (by omega) hl.out j (by omega)
        have hlj := hl.out j hka
        rw [hg] at hri hq1 hc
        clear hg
        simp only [marksI_length] at hri hq1 hc
        generalize hst : startN 0 q ts j = st at hbs HS hri hc
        clear hst
        have x0 := hc 0 _ rfl
        simp only [Nat.mul_one, Nat.add_zero] at x0
        have HRI := Lib.hid hri
        clear hri hc hq1
        generalize ts[j] = t at x0 HRI HS hlj
        obtain ⟨t1, t2⟩ := t
        dsimp only at x0 HRI HS hlj
        generalize t1.length = r at x0 HRI HS hlj
        have hk0 : (0 : Int) ≤ (j : Int) := by omega
        have hk1 : (j : Int) < (n : Int) := by omega
        have hst0 : 0 ≤ st := by omega
        have hst1 : st ≤ 2000000000000000 := by omega
        clear hbs
        go_wp2_with fail
        refine (heldInt64S_any ai r ci st _ HRI.out hlj hst0 (by omega)).mono ?_
        rintro e w1 ⟨rfl, rfl⟩
        go_wp2
        go_round
        case rel => exact ⟨j + 1, by omega, by go_num, by rw [HS.out]; simp⟩
        case measure => simp [intOf]; omega
      · have hjn : j = n := by omega
        have HR : Hid (startN 0 q ts j = startN 0 q ts n) := by unfold Hid; rw [hjn]
        clear hjn
        go_wp2
        go_ret
        exact ⟨ret_int HR.out, rfl⟩
end Go.Proofs.Ytgjbahnloladfaa
