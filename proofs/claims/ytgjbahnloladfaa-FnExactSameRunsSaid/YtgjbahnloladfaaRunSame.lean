/-
  The walks of SameRuns: the model's (by l00Same) and the program's (by slices.EqualFunc, isSameRun, slices.Equal).
-/
import Derived.Test.YtgjbahnloladfaaRunOk
namespace Go.Proofs.Ytgjbahnloladfaa
open Go.RowKit

set_option maxHeartbeats 1000000 in
theorem l00Same_any (a b : Option Addr) (ts us : List Int) (n m ca cb : Nat) (w : World) (hn : Hid (ts.length = n)) (hm : Hid (us.length = m)) (ha : RI w a ts) (hb : RI w b us) (hmax : n ≤ maxLen) :
    Calls Try.prog 56 #[.slice a n ca, .slice b m cb] w fun e w' => e = .returned (.bool (ts == us)) ∧ Below w.heap.size w w' := by
  unfold maxLen at hmax
  by_cases hl : n = m
  · subst hl
    have HLE : Hid (ts.length = us.length) := hn.out.trans hm.out.symm
    by_cases hz : n = 0
    · have HZ := Lib.hid hz
      have HR : Hid ((ts == us) = true) := ints_ext ts us HLE.out (fun i h1 _ => by rw [hn.out, HZ.out] at h1; omega)
      clear hz
      go_enter Try.func56, Try.ntmps56
      go_wp2
      go_loop [5] (fun i => ∃ k : Nat, k ≤ n ∧ i = .int .i64 k) (fun _ => 0)
      case atStart => exact ⟨0, by omega, rfl⟩
      case round =>
        obtain ⟨k, hk, rfl⟩ := hrel
        have hlt : ¬ k < n := by rw [HZ.out]; omega
        go_wp2
        go_ret
        exact ⟨ret_bool HR.out.symm, Below.refl _ _⟩
    · obtain ⟨ba, oa, rfl, hba, hca⟩ := ha.addr (by rw [hn.out]; omega)
      obtain ⟨bb, ob, rfl, hbb, hcb⟩ := hb.addr (by rw [hm.out]; omega)
      have HCA := Lib.hid hca
      have HCB := Lib.hid hcb
      clear hca hcb ha hb
      go_enter Try.func56, Try.ntmps56
      go_wp2
      go_loopw [5] (fun i wr => ∃ k : Nat, k ≤ n ∧ i = .int .i64 k ∧ Below w.heap.size w wr ∧ ∀ j (h1 : j < ts.length) (h2 : j < us.length), j < k → ts[j] = us[j]) (fun i _ => n - (intOf i).toNat)
      case atStart => exact ⟨0, by omega, rfl, Below.refl _ _, fun j _ _ hj => by omega⟩
      case round =>
        obtain ⟨k, hk, rfl, hbel, hall⟩ := hrel
        have HALL := Lib.hid hall
        clear hall
        by_cases hlt : k < n
        · have hka : k < ts.length := by rw [hn.out]; exact hlt
          have hkb : k < us.length := by rw [hm.out]; exact hlt
          have x1 := HCA.out k hka
          have y1 := HCB.out k hkb
          generalize hT : ts[k] = t at x1
          generalize hU : us[k] = u at y1
          have HT := Lib.hid hT
          have HU := Lib.hid hU
          clear hT hU
          rw [← hbel.cell (p := ⟨_, _, none⟩) hba] at x1
          rw [← hbel.cell (p := ⟨_, _, none⟩) hbb] at y1
          have hk0 : (0 : Int) ≤ (k : Int) := by omega
          have hk1 : (k : Int) < (n : Int) := by omega
          rcases eq_ways t u with ⟨⟨e1, e2⟩, e3⟩ | ⟨⟨e1, e2⟩, e3⟩
          · have E3 := Lib.hid e3
            clear e3
            go_wp2
            go_region_held3 (fun w' => w'.cell? ⟨ba, oa + k, none⟩ = some (.int .i64 t) ∧ w'.cell? ⟨bb, ob + k, none⟩ = some (.int .i64 u)) (exact ⟨x1, y1⟩) (fail)
            go_wp2
            go_roundw
            case rel => exact ⟨k + 1, by omega, by go_num, hbel.drew, fun j h1 h2 hj => if e : j = k then (by subst e; rw [HT.out, HU.out]; exact E3.out) else HALL.out j h1 h2 (by omega)⟩
            case measure => simp [intOf]; omega
          · have HR : Hid ((ts == us) = false) := ints_bad ts us k hka hkb (by rw [HT.out, HU.out]; exact e3)
            clear e3
            go_wp2
            go_region_held3 (fun w' => w'.cell? ⟨ba, oa + k, none⟩ = some (.int .i64 t) ∧ w'.cell? ⟨bb, ob + k, none⟩ = some (.int .i64 u)) (exact ⟨x1, y1⟩) (fail)
            go_wp2
            go_ret
            exact ⟨ret_bool HR.out.symm, hbel.drew⟩
        · have HR : Hid ((ts == us) = true) := ints_ext ts us HLE.out (fun i h1 h2 => HALL.out i h1 h2 (by rw [hn.out] at h1; omega))
          go_wp2
          go_ret
          exact ⟨ret_bool HR.out.symm, hbel⟩
  · have HR : Hid ((ts == us) = false) := ints_len ts us (by rw [hn.out, hm.out]; exact hl)
    have hne : ((n : Int) != (m : Int)) = true := by rw [bne_iff_ne]; omega
    go_enter Try.func56, Try.ntmps56
    go_wp2
    go_ret
    exact ⟨ret_bool HR.out.symm, Below.refl _ _⟩

set_option maxHeartbeats 1000000 in
theorem sliceEq_any (a b : Option Addr) (ts us : List Int) (n m ca cb : Nat) (w : World) (hn : Hid (ts.length = n)) (hm : Hid (us.length = m)) (ha : RI w a ts) (hb : RI w b us) (hmax : n ≤ maxLen) :
    Calls Try.prog 74 #[.slice a n ca, .slice b m cb] w fun e w' => e = .returned (.bool (ts == us)) ∧ Below w.heap.size w w' := by
  unfold maxLen at hmax
  by_cases hl : n = m
  · subst hl
    have HLE : Hid (ts.length = us.length) := hn.out.trans hm.out.symm
    by_cases hz : n = 0
    · have HZ := Lib.hid hz
      have HR : Hid ((ts == us) = true) := ints_ext ts us HLE.out (fun i h1 _ => by rw [hn.out, HZ.out] at h1; omega)
      clear hz
      go_enter Try.func74, Try.ntmps74
      go_wp2
      go_loop [13] (fun i => ∃ k : Nat, k ≤ n ∧ i = .int .i64 k) (fun _ => 0)
      case atStart => exact ⟨0, by omega, rfl⟩
      case round =>
        obtain ⟨k, hk, rfl⟩ := hrel
        have hlt : ¬ k < n := by rw [HZ.out]; omega
        go_wp2
        go_ret
        exact ⟨ret_bool HR.out.symm, Below.refl _ _⟩
    · obtain ⟨ba, oa, rfl, hba, hca⟩ := ha.addr (by rw [hn.out]; omega)
      obtain ⟨bb, ob, rfl, hbb, hcb⟩ := hb.addr (by rw [hm.out]; omega)
      have HCA := Lib.hid hca
      have HCB := Lib.hid hcb
      clear hca hcb ha hb
      go_enter Try.func74, Try.ntmps74
      go_wp2
      go_loopw [13] (fun i wr => ∃ k : Nat, k ≤ n ∧ i = .int .i64 k ∧ Below w.heap.size w wr ∧ ∀ j (h1 : j < ts.length) (h2 : j < us.length), j < k → ts[j] = us[j]) (fun i _ => n - (intOf i).toNat)
      case atStart => exact ⟨0, by omega, rfl, Below.refl _ _, fun j _ _ hj => by omega⟩
      case round =>
        obtain ⟨k, hk, rfl, hbel, hall⟩ := hrel
        have HALL := Lib.hid hall
        clear hall
        by_cases hlt : k < n
        · have hka : k < ts.length := by rw [hn.out]; exact hlt
          have hkb : k < us.length := by rw [hm.out]; exact hlt
          have x1 := HCA.out k hka
          have y1 := HCB.out k hkb
          generalize hT : ts[k] = t at x1
          generalize hU : us[k] = u at y1
          have HT := Lib.hid hT
          have HU := Lib.hid hU
          clear hT hU
          rw [← hbel.cell (p := ⟨_, _, none⟩) hba] at x1
          rw [← hbel.cell (p := ⟨_, _, none⟩) hbb] at y1
          have hk0 : (0 : Int) ≤ (k : Int) := by omega
          have hk1 : (k : Int) < (n : Int) := by omega
          rcases eq_ways t u with ⟨⟨e1, e2⟩, e3⟩ | ⟨⟨e1, e2⟩, e3⟩
          · have E3 := Lib.hid e3
            clear e3
            go_wp2
            go_region_held3 (fun w' => w'.cell? ⟨ba, oa + k, none⟩ = some (.int .i64 t) ∧ w'.cell? ⟨bb, ob + k, none⟩ = some (.int .i64 u)) (exact ⟨x1, y1⟩) (fail)
            go_wp2
            go_roundw
            case rel => exact ⟨k + 1, by omega, by go_num, hbel.drew, fun j h1 h2 hj => if e : j = k then (by subst e; rw [HT.out, HU.out]; exact E3.out) else HALL.out j h1 h2 (by omega)⟩
            case measure => simp [intOf]; omega
          · have HR : Hid ((ts == us) = false) := ints_bad ts us k hka hkb (by rw [HT.out, HU.out]; exact e3)
            clear e3
            go_wp2
            go_region_held3 (fun w' => w'.cell? ⟨ba, oa + k, none⟩ = some (.int .i64 t) ∧ w'.cell? ⟨bb, ob + k, none⟩ = some (.int .i64 u)) (exact ⟨x1, y1⟩) (fail)
            go_wp2
            go_ret
            exact ⟨ret_bool HR.out.symm, hbel.drew⟩
        · have HR : Hid ((ts == us) = true) := ints_ext ts us HLE.out (fun i h1 h2 => HALL.out i h1 h2 (by rw [hn.out] at h1; omega))
          go_wp2
          go_ret
          exact ⟨ret_bool HR.out.symm, hbel⟩
  · have HR : Hid ((ts == us) = false) := ints_len ts us (by rw [hn.out, hm.out]; exact hl)
    have hne : ((n : Int) != (m : Int)) = true := by rw [bne_iff_ne]; omega
    go_enter Try.func74, Try.ntmps74
    go_wp2
    go_ret
    exact ⟨ret_bool HR.out.symm, Below.refl _ _⟩


set_option maxHeartbeats 2000000 in
theorem isSameRun_any (a b : Option Addr) (t u : TRun) (n m ca cb : Nat) (w : World) (hn : Hid (t.1.length = n)) (hm : Hid (u.1.length = m)) (ha : RI w a t.1) (hb : RI w b u.1) (hmax : n ≤ maxLen) :
    Calls Try.prog 58 #[.agg #[.slice a n ca, .int .i64 t.2], .agg #[.slice b m cb, .int .i64 u.2]] w fun e w' => e = .returned (.bool (t == u)) ∧ Below w.heap.size w w' := by
  have HA : Hid (∀ w', Below w.heap.size w w' → RI w' a t.1) := fun w' h => ha.below h
  have HB : Hid (∀ w', Below w.heap.size w w' → RI w' b u.1) := fun w' h => hb.below h
  have HM := Lib.hid hmax
  clear ha hb hmax
  obtain ⟨l1, p1⟩ := t
  obtain ⟨l2, q1⟩ := u
  have CE : Hid (∀ W, Below w.heap.size w W → Calls Try.prog 74 #[.slice a n ca, .slice b m cb] W fun e w' => e = .returned (.bool (l1 == l2)) ∧ Below W.heap.size W w') := fun W h => sliceEq_any a b l1 l2 n m ca cb W hn hm (HA.out _ h) (HB.out _ h) HM.out
  clear hn hm HA HB HM
  rcases eq_ways p1 q1 with ⟨⟨a1, b1⟩, e1⟩ | ⟨⟨a1, b1⟩, e1⟩
  · have HR : Hid ((((l1, p1) : TRun) == (l2, q1)) = (l1 == l2)) := by unfold Hid; show ((l1 == l2) && (p1 == q1)) = (l1 == l2); rw [a1, Bool.and_true]
    clear e1
    go_enter Try.func58, Try.ntmps58
    go_wp2_with (go_at_call 74; refine (CE.out _ (by repeat (first | exact Below.refl _ _ | refine Below.alloc ?_ (by simp; try omega) _ | refine Below.setCell ?_ (by simp; try omega) _))).mono ?_; rintro e w1 ⟨rfl, hb1⟩)
    go_ret
    exact ⟨ret_bool HR.out.symm, Below.trans (by repeat (first | exact Below.refl _ _ | refine Below.alloc ?_ (by simp; try omega) _ | refine Below.setCell ?_ (by simp; try omega) _)) (hb1.mono (by simp; omega))⟩
  · have HR : Hid ((((l1, p1) : TRun) == (l2, q1)) = false) := by unfold Hid; show ((l1 == l2) && (p1 == q1)) = false; rw [a1, Bool.and_false]
    clear e1
    go_enter Try.func58, Try.ntmps58
    go_wp2
    go_ret
    exact ⟨ret_bool HR.out.symm, (by repeat (first | exact Below.refl _ _ | refine Below.alloc ?_ (by simp; try omega) _ | refine Below.setCell ?_ (by simp; try omega) _))⟩
set_option maxHeartbeats 8000000 in
theorem specSame_any (a b : Option Addr) (ts us : List TRun) (n m ca cb : Nat) (w : World) (hn : Hid (ts.length = n)) (hm : Hid (us.length = m)) (ha : RN 1048576 2 cRun w a ts) (hb : RN 1048576 2 cRun w b us) (hmax : n ≤ maxLen) :
    Calls Try.prog 27 #[.slice a n ca, .slice b m cb] w fun e w' => e = .returned (.bool (ts == us)) ∧ Below w.heap.size w w' := by
  unfold maxLen at hmax
  by_cases hl : n = m
  · subst hl
    have HLE : Hid (ts.length = us.length) := hn.out.trans hm.out.symm
    have HA := Lib.hid ha
    have HB := Lib.hid hb
    clear ha hb
    go_enter Try.func27, Try.ntmps27
    go_wp2
    go_loopw [5] (fun i wr => ∃ k : Nat, k ≤ n ∧ i = .int .i64 k ∧ Below w.heap.size w wr ∧ ∀ j (h1 : j < ts.length) (h2 : j < us.length), j < k → (ts[j] == us[j]) = true) (fun i _ => n - (intOf i).toNat)
    case atStart => exact ⟨0, by omega, rfl, Below.refl _ _, fun j _ _ hj => by omega⟩
    case round =>
      obtain ⟨k, hk, rfl, hbel, hall⟩ := hrel
      have HALL := Lib.hid hall
      clear hall
      by_cases hlt : k < n
      · have hka : k < ts.length := by rw [hn.out]; exact hlt
        have hkb : k < us.length := by rw [hm.out]; exact hlt
        obtain ⟨ba, oa, ai, ci, rfl, hba, hra, hqa, hca⟩ := HA.out.at_ k hka
        obtain ⟨bb, ob, bi, di, rfl, hbb, hrb, hqb, hcb⟩ := HB.out.at_ k hkb
        have HRA : Hid (∀ w', Below w.heap.size w w' → RI w' ai ts[k].1) := fun w' h => hra.below h
        have HRB : Hid (∀ w', Below w.heap.size w w' → RI w' bi us[k].1) := fun w' h => hrb.below h
        have hq1 : ts[k].1.length ≤ maxLen := Nat.le_trans hqa (by unfold maxLen; omega)
        have HBAD : Hid ((ts[k] == us[k]) = false → (ts == us) = false) := fun h => eqL_bad ts us k hka hkb h
        have HOK : Hid ((ts[k] == us[k]) = true → ∀ j (h1 : j < ts.length) (h2 : j < us.length), j < k + 1 → (ts[j] == us[j]) = true) := fun ht j h1 h2 hj => if e : j = k then (by subst e; exact ht) else HALL.out j h1 h2 (by omega)
        have x0 := (hbel.cell (p := ⟨ba, oa + k * 2 + 0, none⟩) hba).trans (hca 0 _ rfl)
        have x1 := (hbel.cell (p := ⟨ba, oa + k * 2 + 1, none⟩) hba).trans (hca 1 _ rfl)
        have y0 := (hbel.cell (p := ⟨bb, ob + k * 2 + 0, none⟩) hbb).trans (hcb 0 _ rfl)
        have y1 := (hbel.cell (p := ⟨bb, ob + k * 2 + 1, none⟩) hbb).trans (hcb 1 _ rfl)
        simp only [Nat.add_zero] at x0 y0
        clear hra hrb hqa hqb hca hcb
        generalize ts[k] = t at x0 x1 HRA hq1 HBAD HOK
        generalize us[k] = u at y0 y1 HRB HBAD HOK
        generalize hq : t.1.length = q at x0 hq1
        generalize hr : u.1.length = r at y0
        have HQ := Lib.hid hq
        have HR1 := Lib.hid hr
        clear hq hr
        have hk0 : (0 : Int) ≤ (k : Int) := by omega
        have hk1 : (k : Int) < (n : Int) := by omega
        have hba' : ba < wr.heap.size := by have := hbel.size; omega
        have hbb' : bb < wr.heap.size := by have := hbel.size; omega
        have hwr := hbel.size
        have HBEL := Lib.hid hbel
        clear hbel
        rcases eq_ways t.2 u.2 with ⟨⟨a1, b1⟩, e1⟩ | ⟨⟨a1, b1⟩, e1⟩
        · have HTU : Hid ((t == u) = (t.1 == u.1)) := by unfold Hid; show ((t.1 == u.1) && (t.2 == u.2)) = (t.1 == u.1); rw [a1, Bool.and_true]
          clear e1
          cases htu : (t.1 == u.1) with
          | true =>
            have HOK2 := Lib.hid (HOK.out (HTU.out.trans htu))
            clear HOK HBAD
            go_wp2
            go_region_held3 (fun w' => w'.cell? ⟨ba, oa + k * 2, none⟩ = some (.slice ai q ci) ∧ w'.cell? ⟨ba, oa + k * 2 + 1, none⟩ = some (.int .i64 t.2) ∧ w'.cell? ⟨bb, ob + k * 2, none⟩ = some (.slice bi r di) ∧ w'.cell? ⟨bb, ob + k * 2 + 1, none⟩ = some (.int .i64 u.2))
              (first | exact ⟨x0, x1, y0, y1⟩ | exact ⟨(hb1.cell (p := ⟨_, _, none⟩) hba').trans x0, (hb1.cell (p := ⟨_, _, none⟩) hba').trans x1, (hb1.cell (p := ⟨_, _, none⟩) hbb').trans y0, (hb1.cell (p := ⟨_, _, none⟩) hbb').trans y1⟩)
              (first | (go_at_call 56; refine (l00Same_any ai bi t.1 u.1 _ _ _ _ _ HQ HR1 (HRA.out _ HBEL.out.drew) (HRB.out _ HBEL.out.drew) hq1).mono ?_; rintro e w1 ⟨rfl, hb1⟩; rw [htu]))
            all_goals
              have hbel' := HBEL.out.drew.trans (hb1.mono hwr)
              go_wp2
              go_roundw
              case rel => exact ⟨k + 1, by omega, by go_num, hbel', HOK2.out⟩
              case measure => simp [intOf]; omega
          | false =>
            have HR := Lib.hid (HBAD.out (HTU.out.trans htu))
            clear HOK HBAD
            go_wp2
            go_region_held3 (fun w' => w'.cell? ⟨ba, oa + k * 2, none⟩ = some (.slice ai q ci) ∧ w'.cell? ⟨ba, oa + k * 2 + 1, none⟩ = some (.int .i64 t.2) ∧ w'.cell? ⟨bb, ob + k * 2, none⟩ = some (.slice bi r di) ∧ w'.cell? ⟨bb, ob + k * 2 + 1, none⟩ = some (.int .i64 u.2))
              (first | exact ⟨x0, x1, y0, y1⟩ | exact ⟨(hb1.cell (p := ⟨_, _, none⟩) hba').trans x0, (hb1.cell (p := ⟨_, _, none⟩) hba').trans x1, (hb1.cell (p := ⟨_, _, none⟩) hbb').trans y0, (hb1.cell (p := ⟨_, _, none⟩) hbb').trans y1⟩)
              (first | (go_at_call 56; refine (l00Same_any ai bi t.1 u.1 _ _ _ _ _ HQ HR1 (HRA.out _ HBEL.out.drew) (HRB.out _ HBEL.out.drew) hq1).mono ?_; rintro e w1 ⟨rfl, hb1⟩; rw [htu]))
            all_goals
              have hbel' := HBEL.out.drew.trans (hb1.mono hwr)
              go_wp2
              go_ret
              exact ⟨ret_bool HR.out.symm, hbel'⟩
        · have HR := Lib.hid (HBAD.out (by show ((t.1 == u.1) && (t.2 == u.2)) = false; rw [a1, Bool.and_false]))
          clear HOK HBAD e1
          go_wp2
          go_quiet (fail)
          go_wp2
          go_ret
          exact ⟨ret_bool HR.out.symm, two_worlds HBEL.out (by (repeat (first | exact Below.refl _ _ | refine Below.drew ?_ | refine Below.drewN' ?_ _ | refine Below.alloc ?_ (by first | (simp; done) | (simp; omega)) _ | refine Below.setCell ?_ (by first | (simp; done) | (simp; omega)) _)); done)⟩
      · have HR : Hid ((ts == us) = true) := eqL_ext ts us HLE.out (fun i h1 h2 => HALL.out i h1 h2 (by rw [hn.out] at h1; omega))
        go_wp2
        go_ret
        exact ⟨ret_bool HR.out.symm, hbel⟩
  · have HR : Hid ((ts == us) = false) := eqL_len ts us (by rw [hn.out, hm.out]; exact hl)
    have hne : ((n : Int) != (m : Int)) = true := by rw [bne_iff_ne]; omega
    go_enter Try.func27, Try.ntmps27
    go_wp2
    go_ret
    exact ⟨ret_bool HR.out.symm, Below.refl _ _⟩
set_option maxHeartbeats 8000000 in
theorem equalFunc_any (a b : Option Addr) (ts us : List TRun) (n m ca cb : Nat) (w : World) (hn : Hid (ts.length = n)) (hm : Hid (us.length = m)) (ha : RN 1048576 2 cRun w a ts) (hb : RN 1048576 2 cRun w b us) (hmax : n ≤ maxLen) :
    Calls Try.prog 57 #[.slice a n ca, .slice b m cb, .func (.func 58) #[] #[]] w fun e w' => e = .returned (.bool (ts == us)) ∧ Below w.heap.size w w' := by
  unfold maxLen at hmax
  by_cases hl : n = m
  · subst hl
    have HLE : Hid (ts.length = us.length) := hn.out.trans hm.out.symm
    have HA := Lib.hid ha
    have HB := Lib.hid hb
    clear ha hb
    go_enter Try.func57, Try.ntmps57
    go_wp2
    go_loopw [17] (fun i wr => ∃ k : Nat, k ≤ n ∧ i = .int .i64 k ∧ Below w.heap.size w wr ∧ ∀ j (h1 : j < ts.length) (h2 : j < us.length), j < k → (ts[j] == us[j]) = true) (fun i _ => n - (intOf i).toNat)
    case atStart => exact ⟨0, by omega, rfl, Below.refl _ _, fun j _ _ hj => by omega⟩
    case round =>
      obtain ⟨k, hk, rfl, hbel, hall⟩ := hrel
      have HALL := Lib.hid hall
      clear hall
      by_cases hlt : k < n
      · have hka : k < ts.length := by rw [hn.out]; exact hlt
        have hkb : k < us.length := by rw [hm.out]; exact hlt
        obtain ⟨ba, oa, ai, ci, rfl, hba, hra, hqa, hca⟩ := HA.out.at_ k hka
        obtain ⟨bb, ob, bi, di, rfl, hbb, hrb, hqb, hcb⟩ := HB.out.at_ k hkb
        have HRA : Hid (∀ w', Below w.heap.size w w' → RI w' ai ts[k].1) := fun w' h => hra.below h
        have HRB : Hid (∀ w', Below w.heap.size w w' → RI w' bi us[k].1) := fun w' h => hrb.below h
        have hq1 : ts[k].1.length ≤ maxLen := Nat.le_trans hqa (by unfold maxLen; omega)
        have HBAD : Hid ((ts[k] == us[k]) = false → (ts == us) = false) := fun h => eqL_bad ts us k hka hkb h
        have HOK : Hid ((ts[k] == us[k]) = true → ∀ j (h1 : j < ts.length) (h2 : j < us.length), j < k + 1 → (ts[j] == us[j]) = true) := fun ht j h1 h2 hj => if e : j = k then (by subst e; exact ht) else HALL.out j h1 h2 (by omega)
        have x0 := (hbel.cell (p := ⟨ba, oa + k * 2 + 0, none⟩) hba).trans (hca 0 _ rfl)
        have x1 := (hbel.cell (p := ⟨ba, oa + k * 2 + 1, none⟩) hba).trans (hca 1 _ rfl)
        have y0 := (hbel.cell (p := ⟨bb, ob + k * 2 + 0, none⟩) hbb).trans (hcb 0 _ rfl)
        have y1 := (hbel.cell (p := ⟨bb, ob + k * 2 + 1, none⟩) hbb).trans (hcb 1 _ rfl)
        simp only [Nat.add_zero] at x0 y0
        clear hra hrb hqa hqb hca hcb
        generalize ts[k] = t at x0 x1 HRA hq1 HBAD HOK
        generalize us[k] = u at y0 y1 HRB HBAD HOK
        generalize hq : t.1.length = q at x0 hq1
        generalize hr : u.1.length = r at y0
        have HQ := Lib.hid hq
        have HR1 := Lib.hid hr
        clear hq hr
        have hk0 : (0 : Int) ≤ (k : Int) := by omega
        have hk1 : (k : Int) < (n : Int) := by omega
        have hba' : ba < wr.heap.size := by have := hbel.size; omega
        have hbb' : bb < wr.heap.size := by have := hbel.size; omega
        have hwr := hbel.size
        have HBEL := Lib.hid hbel
        clear hbel
        have z0 := (Below.heap_alloc wr (.cells #[.slice ai q ci, .int .i64 t.2] 34))
        clear z0
        have IS : Hid (∀ W, Below w.heap.size w W → Calls Try.prog 58 #[.agg #[.slice ai q ci, .int .i64 t.2], .agg #[.slice bi r di, .int .i64 u.2]] W fun e w' => e = .returned (.bool (t == u)) ∧ Below W.heap.size W w') := fun W h => isSameRun_any ai bi t u q r ci di W HQ HR1 (HRA.out _ h) (HRB.out _ h) hq1
        clear HRA HRB
        cases htu : (t == u) with
        | true =>
          have HOK2 := Lib.hid (HOK.out htu)
          clear HOK HBAD
          go_wp2_with (go_at_call 58; refine (IS.out _ (by repeat (first | exact HBEL.out | refine Below.alloc ?_ (by first | omega | (simp; done) | (simp; omega)) _ | refine Below.setCell ?_ (by first | omega | (simp; done) | (simp; omega)) _))).mono ?_; rintro e w1 ⟨rfl, hb1⟩; rw [htu])
          go_roundw
          case rel => exact ⟨k + 1, by omega, by go_num, Below.trans (by repeat (first | exact HBEL.out | refine Below.alloc ?_ (by first | omega | (simp; done) | (simp; omega)) _ | refine Below.setCell ?_ (by first | omega | (simp; done) | (simp; omega)) _)) (hb1.mono (by simp; omega)), HOK2.out⟩
          case measure => simp [intOf]; omega
        | false =>
          have HR := Lib.hid (HBAD.out htu)
          clear HOK HBAD
          go_wp2_with (go_at_call 58; refine (IS.out _ (by repeat (first | exact HBEL.out | refine Below.alloc ?_ (by first | omega | (simp; done) | (simp; omega)) _ | refine Below.setCell ?_ (by first | omega | (simp; done) | (simp; omega)) _))).mono ?_; rintro e w1 ⟨rfl, hb1⟩; rw [htu])
          go_ret
          exact ⟨ret_bool HR.out.symm, Below.trans (by repeat (first | exact HBEL.out | refine Below.alloc ?_ (by first | omega | (simp; done) | (simp; omega)) _ | refine Below.setCell ?_ (by first | omega | (simp; done) | (simp; omega)) _)) (hb1.mono (by simp; omega))⟩
      · have HR : Hid ((ts == us) = true) := eqL_ext ts us HLE.out (fun i h1 h2 => HALL.out i h1 h2 (by rw [hn.out] at h1; omega))
        go_wp2
        go_ret
        exact ⟨ret_bool HR.out.symm, hbel⟩
  · have HR : Hid ((ts == us) = false) := eqL_len ts us (by rw [hn.out, hm.out]; exact hl)
    have hne : ((n : Int) != (m : Int)) = true := by rw [bne_iff_ne]; omega
    go_enter Try.func57, Try.ntmps57
    go_wp2
    go_ret
    exact ⟨ret_bool HR.out.symm, Below.refl _ _⟩
theorem specSameRuns_any (w : World) {a0 : Option Addr} {n0 c0 : Nat} (ts0 : List TRun) (hn0 : Hid (ts0.length = n0)) (h0 : RN 1048576 2 cRun w a0 ts0) (hs0 : n0 ≤ 1048576) (_wf0 : Hid (∀ t ∈ ts0, wfRun t)) {a1 : Option Addr} {n1 c1 : Nat} (ts1 : List TRun) (hn1 : Hid (ts1.length = n1)) (h1 : RN 1048576 2 cRun w a1 ts1) (_hs1 : n1 ≤ 1048576) (_wf1 : Hid (∀ t ∈ ts1, wfRun t)) :
    Calls Try.prog 27 #[.slice a0 n0 c0, .slice a1 n1 c1] w fun e w' => e = .returned (.bool (ts0 == ts1)) ∧ Below w.heap.size w w' := 
  specSame_any a0 a1 ts0 ts1 n0 n1 c0 c1 w hn0 hn1 h0 h1 (by unfold maxLen; omega)
theorem implSameRuns_any (w : World) {a0 : Option Addr} {n0 c0 : Nat} (ts0 : List TRun) (hn0 : Hid (ts0.length = n0)) (h0 : RN 1048576 2 cRun w a0 ts0) (hs0 : n0 ≤ 1048576) (_wf0 : Hid (∀ t ∈ ts0, wfRun t)) {a1 : Option Addr} {n1 c1 : Nat} (ts1 : List TRun) (hn1 : Hid (ts1.length = n1)) (h1 : RN 1048576 2 cRun w a1 ts1) (_hs1 : n1 ≤ 1048576) (_wf1 : Hid (∀ t ∈ ts1, wfRun t)) :
    Calls Try.prog 28 #[.slice a0 n0 c0, .slice a1 n1 c1] w fun e w' => e = .returned (.bool (ts0 == ts1)) ∧ Below w.heap.size w w' := by
  have HM : n0 ≤ maxLen := by unfold maxLen; omega
  have EF := equalFunc_any a0 a1 ts0 ts1 n0 n1 c0 c1 w hn0 hn1 h0 h1 HM
  clear h0 h1 HM
  go_enter Try.func28, Try.ntmps28
  go_wp2_with (go_at_call 57; refine EF.mono ?_; rintro e w1 ⟨rfl, hb1⟩)
  go_ret
  exact ⟨rfl, hb1⟩
end Go.Proofs.Ytgjbahnloladfaa
