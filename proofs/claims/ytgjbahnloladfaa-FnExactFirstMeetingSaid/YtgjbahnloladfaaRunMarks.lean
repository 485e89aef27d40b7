/-
  The walks of the laws' own helpers that write marks into records (Run) and look for them again.
-/
import Derived.Test.YtgjbahnloladfaaRunNest
namespace Go.Proofs.Ytgjbahnloladfaa
open Go.RowKit

theorem cRun_marked {lo hi g n cap : Nat} {ts : List TRun} {q : Int} {j : Nat} {w1 : World} (hn : ts.length = n) (hj : j < ts.length)
    (h : OwN lo hi 34 2 2 cRun (.slice (some ⟨g, 0, none⟩) n cap) ((markN 1 exRun q ts j).set j (marksI (startN 1 q ts j) ts[j].1.length, ts[j].2)) w1) :
    OwN lo hi 34 2 2 cRun (.slice (some ⟨g, 0, none⟩) n cap) (markN 1 exRun q ts (j + 1)) (w1.setCell ⟨g, j * 2 + 1, none⟩ (.int .i64 (startN 1 q ts j + (ts[j].1.length : Int)))) := by
  rw [← markN_step _ _ _ _ _ hj]
  have hl : j < (markN 1 exRun q ts j).length := by rw [markN_length]; exact hj
  have h1 := h.store cRun_len (by simp [markN_length, hn]) j (by simpa using hl) 1 (by omega) (.int .i64 (startN 1 q ts j + (ts[j].1.length : Int))) (startN 1 q ts j + (ts[j].1.length : Int)) (fun v => by rw [set_get _ _ _ hl]; rfl)
  rw [set_get _ _ _ hl, List.set_set] at h1
  exact h1
set_option maxHeartbeats 2000000 in
theorem markRunS_any (v : Value) (ts : List TRun) (lo hi n : Nat) (q : Int) (w : World) (hn : Hid (ts.length = n)) (hown : OwN lo hi 34 2 2 cRun v ts w) (hl : Hid (∀ i (h : i < ts.length), ts[i].1.length ≤ 1048577)) (hmax : n ≤ 1048577) (h0 : 0 ≤ q) (h1 : q ≤ 1000000000000000) :
    Calls Try.prog 41 #[v, .int .i64 q] w (MarksN 34 2 2 cRun 1 exRun v lo hi ts q w) := by
  obtain ⟨es, he, hrow, _, _⟩ := id hown
  rcases hrow.1.2 with ⟨hv, hz⟩ | ⟨g, cap, cur0, hv, _, _, _, hcm, _, _⟩
  · subst hv
    have HT : Hid (ts = []) := List.eq_nil_of_length_eq_zero hz
    have HR : Hid (MarksN 34 2 2 cRun 1 exRun (.slice none 0 0) lo hi ts q w (.returned (.int .i64 q)) w) := by
      unfold Hid MarksN
      rw [HT.out]
      exact ⟨by rw [List.length_nil, startN_zero], Turned.refl _ _ _, OwN.nil _ _ _⟩
    clear hown hrow he hz hl
    go_enter Try.func41, Try.ntmps41
    go_wp2
    go_loop [1, 5] (fun l i => i = .int .i64 0 ∧ l = .int .i64 q) (fun _ _ => 0)
    case atStart => exact ⟨rfl, rfl⟩
    case round =>
      obtain ⟨rfl, rfl⟩ := hrel
      go_wp2
      go_ret
      exact HR.out
  · subst hv
    have hb := hown.bounds g rfl
    have HGB := Lib.hid hb
    have HOWN := Lib.hid hown
    rw [hn.out]
    unfold maxLen at hcm
    clear hrow he hb hown hcm
    go_enter Try.func41, Try.ntmps41
    go_wp2
    go_loopw [1, 5] (fun l i wr => ∃ j : Nat, j ≤ n ∧ i = .int .i64 j ∧ l = .int .i64 (startN 1 q ts j) ∧ Hid (Turned lo hi w wr) ∧ Hid (OwN lo hi 34 2 2 cRun (.slice (some ⟨g, 0, none⟩) n cap) (markN 1 exRun q ts j) wr)) (fun _ i _ => n - (intOf i).toNat)
    case atStart => exact ⟨0, by omega, rfl, by rw [startN_zero], Turned.refl _ _ _, by rw [markN_zero, ← hn.out]; exact HOWN.out⟩
    case round =>
      obtain ⟨j, hj, rfl, rfl, HTN, HO⟩ := hrel
      by_cases hlt : j < n
      · have hka : j < ts.length := by rw [hn.out]; exact hlt
        obtain ⟨ai, ci, hc, ho, hbd, hnext⟩ := HO.out.mark_at cRun_len hka
        have HN : Hid (∀ w1, wr.grownBy w1 (Value.slice ai ts[j].1.length ci).ownBlock → w1.ownsRow lo 2 1 (.slice ai ts[j].1.length ci) ts[j].1.length ((marksI (startN 1 q ts j) ts[j].1.length).map (Value.int .i64)) → OwN lo hi 34 2 2 cRun (.slice (some ⟨g, 0, none⟩) n cap) ((markN 1 exRun q ts j).set j (marksI (startN 1 q ts j) ts[j].1.length, ts[j].2)) w1 ∧ (∀ (i : Nat) (v : Value), (cRun (.slice ai ts[j].1.length ci) ts[j].2)[i]? = some v → w1.cell? ⟨g, j * 2 + i, none⟩ = some v)) := hnext
        have HM : Hid (∀ w1, OwN lo hi 34 2 2 cRun (.slice (some ⟨g, 0, none⟩) n cap) ((markN 1 exRun q ts j).set j (marksI (startN 1 q ts j) ts[j].1.length, ts[j].2)) w1 → OwN lo hi 34 2 2 cRun (.slice (some ⟨g, 0, none⟩) n cap) (markN 1 exRun q ts (j + 1)) (w1.setCell ⟨g, j * 2 + 1, none⟩ (.int .i64 (startN 1 q ts j + (ts[j].1.length : Int))))) := fun w1 h => cRun_marked hn.out hka h
        have HS := Lib.hid (startN_succ 1 q ts j hka)
        have hbs := startN_le 1 q ts (by omega) (by omega) hl.out j (by omega)
        have hlj := hl.out j hka
        have x0 := hc 0 _ rfl
        simp only [Nat.add_zero] at x0
        generalize hst : startN 1 q ts j = st at hbs HN HM HS
        clear hst hnext hc
        have HO1 := Lib.hid ho
        have HBD := Lib.hid hbd
        clear ho hbd
        generalize ts[j] = t at x0 HO1 HBD HN HM HS hlj
        obtain ⟨t1, t2⟩ := t
        dsimp only at x0 HO1 HBD HN HM HS hlj
        generalize t1.length = r at x0 HO1 HBD HN HM HS hlj
        have hk0 : (0 : Int) ≤ (j : Int) := by omega
        have hk1 : (j : Int) < (n : Int) := by omega
        have hst0 : 0 ≤ st := by omega
        have hst1 : st ≤ 2000000000000000 := by omega
        clear hbs
        go_wp2_with fail
        refine (markInt64S_any ai (t1.map (Value.int .i64)) lo r ci st _ HO1.out hlj hst0 (by omega)).mono ?_
        rintro e w1 ⟨rfl, hg, ho1⟩
        obtain ⟨hq1, hc1⟩ := HN.out w1 hg ho1
        have HT1 := Lib.hid (HTN.out.trans (Turned.grown hg HBD.out))
        have HM1 := Lib.hid (HM.out w1 hq1)
        have HO1 := Lib.hid hq1
        have y1 := hc1 1 _ rfl
        have z1 := HO1.out.frozen (by simp [markN_length, hn.out]) (j * 2 + 1)
        clear hq1 hc1 ho1 hg x0
        go_wp2
        go_roundw
        case rel => exact ⟨j + 1, by omega, by go_num, by rw [HS.out], (HT1.out.setCell HGB.out _), HM1.out⟩
        case measure => simp [intOf]; omega
      · have hjn : j = n := by omega
        have HR : Hid (MarksN 34 2 2 cRun 1 exRun (.slice (some ⟨g, 0, none⟩) n cap) lo hi ts q w (.returned (.int .i64 (startN 1 q ts j))) wr) := by
          subst hjn
          unfold Hid MarksN
          rw [hn.out]
          exact ⟨rfl, HTN.out, HO.out⟩
        clear hjn
        go_wp2
        go_ret
        exact HR.out
set_option maxHeartbeats 2000000 in
theorem heldRunS_any (M : Nat) (a : Option Addr) (ts : List TRun) (n ca : Nat) (q : Int) (w : World) (hn : Hid (ts.length = n)) (hr : RN M 2 cRun w a (markN 1 exRun q ts n)) (hl : Hid (∀ i (h : i < ts.length), ts[i].1.length ≤ 1048577)) (hmax : n ≤ 1048577) (h0 : 0 ≤ q) (h1 : q ≤ 1000000000000000) :
    Calls Try.prog 42 #[.slice a n ca, .int .i64 q] w fun e w' => e = .returned (.int .i64 (startN 1 q ts n)) ∧ w = w' := by
  by_cases hz : n = 0
  · have HZ := Lib.hid hz
    have HR : Hid (q = startN 1 q ts n) := by unfold Hid; rw [hz, startN_zero]
    clear hz hr
    go_enter Try.func42, Try.ntmps42
    go_wp2
    go_loop [1, 5] (fun l i => ∃ j : Nat, j ≤ n ∧ i = .int .i64 j ∧ l = .int .i64 q) (fun _ _ => 0)
    case atStart => exact ⟨0, by omega, rfl, rfl⟩
    case round =>
      obtain ⟨j, hj, rfl, rfl⟩ := hrel
      have hlt : ¬ j < n := by rw [HZ.out]; omega
      go_wp2
      go_ret
      exact ⟨ret_int HR.out, rfl⟩
  · obtain ⟨b, off, rfl, hb, hc⟩ := hr.addr (by rw [markN_length, hn.out]; omega)
    have HC := Lib.hid hc
    clear hc hr
    go_enter Try.func42, Try.ntmps42
    go_wp2
    go_loop [1, 5] (fun l i => ∃ j : Nat, j ≤ n ∧ i = .int .i64 j ∧ l = .int .i64 (startN 1 q ts j)) (fun _ i => n - (intOf i).toNat)
    case atStart => exact ⟨0, by omega, rfl, by rw [startN_zero]⟩
    case round =>
      obtain ⟨j, hj, rfl, rfl⟩ := hrel
      by_cases hlt : j < n
      · have hka : j < ts.length := by rw [hn.out]; exact hlt
        obtain ⟨ai, ci, hri, hq1, hc⟩ := HC.out j (by rw [markN_length]; exact hka)
        have hg := markN_get 1 exRun q ts n j hka hlt
        have HS := Lib.hid (startN_succ 1 q ts j hka)
        have hbs := startN_le 1 q ts (by omega) (by omega) hl.out j (by omega)
        have hlj := hl.out j hka
        rw [hg] at hri hq1 hc
        clear hg
        simp only [marksI_length] at hri hq1 hc
        generalize hst : startN 1 q ts j = st at hbs HS hri hc
        clear hst
        have x0 := hc 0 _ rfl
        have x1 := hc 1 _ rfl
        simp only [Nat.add_zero] at x0
        have HRI := Lib.hid hri
        simp only [exRun] at x1
        clear hri hc hq1
        generalize ts[j] = t at x0 x1 HRI HS hlj
        obtain ⟨t1, t2⟩ := t
        dsimp only at x0 x1 HRI HS hlj
        generalize t1.length = r at x0 x1 HRI HS hlj
        have hk0 : (0 : Int) ≤ (j : Int) := by omega
        have hk1 : (j : Int) < (n : Int) := by omega
        have hst0 : 0 ≤ st := by omega
        have hst1 : st ≤ 2000000000000000 := by omega
        clear hbs
        go_wp2_with fail
        refine (heldInt64S_any ai r ci st _ HRI.out hlj hst0 (by omega)).mono ?_
        rintro e w1 ⟨rfl, rfl⟩
        go_wp2
        go_round
        case rel => exact ⟨j + 1, by omega, by go_num, by rw [HS.out]⟩
        case measure => simp [intOf]; omega
      · have hjn : j = n := by omega
        have HR : Hid (startN 1 q ts j = startN 1 q ts n) := by unfold Hid; rw [hjn]
        clear hjn
        go_wp2
        go_ret
        exact ⟨ret_int HR.out, rfl⟩
/-- A call marks the list of a record of its caller's own. -/
theorem markRun_any (b : Int) (a : Option Addr) (xs : List Value) (lo n c : Nat) (k : Int) (w : World) (hown : w.ownsRow lo 2 1 (.slice a n c) n xs) (hmax : n ≤ 1048577) (h0 : 0 ≤ k) (h1 : k ≤ 4000000000000000) :
    Calls Try.prog 34 #[.agg #[.slice a n c, .int .i64 b], .int .i64 k] w (MarksI (.slice a n c) lo n k w) := by
  have HO := Lib.hid (hown.alloc (.cells #[.slice a n c, .int .i64 b] 34))
  clear hown
  go_enter Try.func34, Try.ntmps34
  go_wp2_with fail
  refine (markInt64S_any a xs lo n c k _ HO.out hmax h0 h1).mono ?_
  rintro e w1 ⟨rfl, hg, ho⟩
  have HF : Hid (w.grownBy w1 (Value.ownBlock (.slice a n c)) ∧ w1.ownsRow lo 2 1 (.slice a n c) n ((marksI k n).map (Value.int .i64))) :=
    ⟨⟨hg.os, hg.tape, hg.output, Nat.le_trans (by simp) hg.size, fun i hi hne => (hg.block i (by simp; omega) hne).trans (Below.heap_alloc w _ i hi)⟩, ho⟩
  clear hg ho
  go_wp2
  go_ret
  exact ⟨rfl, HF.out.1, HF.out.2⟩
end Go.Proofs.Ytgjbahnloladfaa
