/-
  The walk of the program's IsWay: it returns what the model's does.
-/
import Derived.Test.YtenjigifjkfiaaaNetIsWay
namespace Go.Proofs.Ytenjigifjkfiaaa
open Go.RowKit

set_option maxHeartbeats 1000000 in
theorem implIsWay_any (s x y : Int) (a b : Option Addr) (ts : List T3) (way : List Int) (n ca m cb : Nat) (w : World) (hn : Hid (ts.length = n)) (ha : RT w a ts) (hmax : n ≤ 1048576) (hm : Hid (way.length = m)) (hb : RI w b way) (hm1 : m ≤ 1048576) :
    Calls Try.prog 21 #[.agg #[.int .i64 s, .slice a n ca], .slice b m cb, .int .i64 x, .int .i64 y] w fun e w' => e = .returned (.tuple #[.bool (isWayOf s ts n way x y).1, .int .i64 (isWayOf s ts n way x y).2]) ∧ Below w.heap.size w w' := by
  have HA : Hid (∀ w', Below w.heap.size w w' → RT w' a ts) := fun w' h => ha.below h
  have HB : Hid (∀ w', Below w.heap.size w w' → RI w' b way) := fun w' h => hb.below h
  clear ha hb
  have hc3 : codeOf s ts [x, y] = 0 ∨ codeOf s ts [x, y] = 1 ∨ codeOf s ts [x, y] = 2 := by
    unfold codeOf; split
    · split <;> simp
    · simp
  have HXY : RI ((w.alloc (.cells #[.int .i64 s, .slice a n ca] 26)).alloc (.cells #[.int .i64 x, .int .i64 y] 2)) (some ⟨w.heap.size + 1, 0, none⟩) [x, y] := by
    refine .inr ⟨w.heap.size + 1, 0, rfl, ?_⟩
    rintro (_ | _ | k) hk
    · simp [go_sem]
    · simp [go_sem]
    · exact absurd hk (by simp)
  rcases hc3 with hc | hc
  · by_cases hz : m = 0
    · have HZ := Lib.hid hz
      clear hz
      have HR : Hid (isWayOf s ts n way x y = (x == y, 0)) := by
        have : way = [] := List.eq_nil_of_length_eq_zero (by rw [hm.out, HZ.out])
        subst this
        unfold Hid isWayOf
        rw [hc]
        simp [tubesB, isWayB, wayEnd]
      go_enter Try.func21, Try.ntmps21
      go_wp2_with fail
      refine (checkStations_any s a _ ts [x, y] n ca 2 _ _ hn (HA.out _ (by repeat (first | exact Below.refl _ _ | refine Below.alloc ?_ (by simp; try omega) _ | refine Below.setCell ?_ (by simp; try omega) _))) hmax rfl HXY (by omega) (by omega)).mono ?_
      rintro e w1 ⟨rfl, hb1⟩
      have q0 := (hb1.cell (p := ⟨w.heap.size, 0, none⟩) (by simp; omega)).trans (by simp [go_sem] : _ = some (.int .i64 s))
      have q1 := (hb1.cell (p := ⟨w.heap.size, 1, none⟩) (by simp; omega)).trans (by simp [go_sem] : _ = some (.slice a n ca))
      have B1 := Lib.hid (Below.trans (show Below w.heap.size w ((w.alloc (.cells #[.int .i64 s, .slice a n ca] 26)).alloc (.cells #[.int .i64 x, .int .i64 y] 2)) from (by repeat (first | exact Below.refl _ _ | refine Below.alloc ?_ (by simp; try omega) _ | refine Below.setCell ?_ (by simp; try omega) _))) (hb1.mono (by simp; omega)))
      have hz1 := World.block_lt_of_cell? _ _ q0
      simp only at hz1
      clear hb1
      go_wp2
      go_loop [25] (fun i => ∃ k : Nat, k ≤ m ∧ i = .int .i64 k) (fun _ => 0)
      case atStart => exact ⟨0, by omega, rfl⟩
      case round =>
        obtain ⟨k, hk, rfl⟩ := hrel
        have hlt : ¬ k < m := by rw [HZ.out]; omega
        go_wp2
        go_loop [2, 36] (fun f i => ∃ k : Nat, k ≤ m ∧ i = .int .i64 k ∧ f = .int .i64 x) (fun _ _ => 0)
        case atStart => exact ⟨0, by omega, rfl, rfl⟩
        case round =>
          obtain ⟨k', hk', rfl, rfl⟩ := hrel
          have hlt' : ¬ k' < m := by rw [HZ.out]; omega
          go_wp2
          go_ret2
          exact ⟨ret_two (by rw [HR.out]), B1.out⟩
    · obtain ⟨bb, ob, rfl, hbb, hcb⟩ := (HB.out w (Below.refl _ _)).addr (by rw [hm.out]; omega)
      have HC := Lib.hid hcb
      clear hcb
      go_enter Try.func21, Try.ntmps21
      go_wp2_with fail
      refine (checkStations_any s a _ ts [x, y] n ca 2 _ _ hn (HA.out _ (by repeat (first | exact Below.refl _ _ | refine Below.alloc ?_ (by simp; try omega) _ | refine Below.setCell ?_ (by simp; try omega) _))) hmax rfl HXY (by omega) (by omega)).mono ?_
      rintro e w1 ⟨rfl, hb1⟩
      have q0 := (hb1.cell (p := ⟨w.heap.size, 0, none⟩) (by simp; omega)).trans (by simp [go_sem] : _ = some (.int .i64 s))
      have q1 := (hb1.cell (p := ⟨w.heap.size, 1, none⟩) (by simp; omega)).trans (by simp [go_sem] : _ = some (.slice a n ca))
      have B1 := Lib.hid (Below.trans (show Below w.heap.size w ((w.alloc (.cells #[.int .i64 s, .slice a n ca] 26)).alloc (.cells #[.int .i64 x, .int .i64 y] 2)) from (by repeat (first | exact Below.refl _ _ | refine Below.alloc ?_ (by simp; try omega) _ | refine Below.setCell ?_ (by simp; try omega) _))) (hb1.mono (by simp; omega)))
      have hz1 := World.block_lt_of_cell? _ _ q0
      simp only at hz1
      clear hb1
      go_wp2
      go_loopw [25] (fun i wr => ∃ k : Nat, k ≤ m ∧ i = .int .i64 k ∧ Below w1.heap.size w1 wr ∧ ∀ j (h : j < way.length), j < k → stB n way[j] = true) (fun i _ => m - (intOf i).toNat)
      case atStart => exact ⟨0, by omega, rfl, Below.refl _ _, fun j _ hj => by omega⟩
      case round =>
        obtain ⟨k, hk, rfl, hbel, hall⟩ := hrel
        have HALL := Lib.hid hall
        clear hall
        have r0 := (hbel.cell (p := ⟨w.heap.size, 0, none⟩) hz1).trans q0
        have r1 := (hbel.cell (p := ⟨w.heap.size, 1, none⟩) hz1).trans q1
        have HQ := Lib.hid (And.intro q0 q1)
        clear q0 q1
        have B2 := Lib.hid (two_worldsC B1.out hbel)
        by_cases hlt : k < m
        · have hka : k < way.length := by rw [hm.out]; exact hlt
          have x1 := HC.out k hka
          have hbad := fun h => Lib.hid (tubesB_bad (n := n) (way := way) k hka h)
          have HSM : Hid (stB n way[k] = true → ∀ j (h : j < way.length), j < k + 1 → stB n way[j] = true) := fun ht j h hj => if e : j = k then (by subst e; exact ht) else HALL.out j h (by omega)
          generalize way[k] = z at x1 hbad HSM
          rw [← B2.out.cell (p := ⟨bb, _, none⟩) hbb] at x1
          have hk0 : (0 : Int) ≤ (k : Int) := by omega
          have hk1 : (k : Int) < (m : Int) := by omega
          have HBEL := Lib.hid hbel
          clear hbel
          cases hx : stB n z with
          | true =>
            have HSM2 := Lib.hid (HSM.out hx)
            clear hbad
            go_wp2_with (go_at_call 52; refine (isTube_any _ _ _ _ _ _).mono ?_; rintro e w' ⟨rfl, rfl⟩)
            go_roundw
            case rel => exact ⟨k + 1, by omega, by go_num, HBEL.out.alloc HBEL.out.size _, HSM2.out⟩
            case measure => simp [intOf]; omega
          | false =>
            have HT := hbad hx
            have HR : Hid (isWayOf s ts n way x y = (false, 2)) := by unfold Hid isWayOf; rw [hc, HT.out]; rfl
            clear hbad
            go_wp2_with (go_at_call 52; refine (isTube_any _ _ _ _ _ _).mono ?_; rintro e w' ⟨rfl, rfl⟩)
            go_ret2
            exact ⟨ret_two (by rw [HR.out]), B2.out.alloc B2.out.size _⟩
        · have hway : tubesB n way = true := tubesB_good (fun j hj => HALL.out j hj (by rw [hm.out] at hj; omega))
          have HR : Hid (isWayOf s ts n way x y = (isWayB ts way x y, 0)) := by unfold Hid isWayOf; rw [hc, hway]; rfl
          have HW : Hid (∀ k (hk : k < way.length), 0 ≤ way[k] ∧ way[k] < n) := fun k hk => tubesB_parts hway k hk
          have h0 := HW.out 0 (by rw [hm.out]; omega)
          obtain ⟨ba, oa, rfl, hba, hca⟩ := (HA.out w (Below.refl _ _)).addr (by rw [hn.out]; omega)
          have HAC := Lib.hid hca
          clear hca hway h0 hbel
          go_wp2
          go_loop [2, 36] (fun f i => ∃ (k : Nat) (fr : Int), k ≤ m ∧ i = .int .i64 k ∧ f = .int .i64 fr ∧ Hid (wayEnd ts way x = wayEnd ts (way.drop k) fr)) (fun _ i => m - (intOf i).toNat)
          case atStart => exact ⟨0, x, by omega, rfl, rfl, rfl⟩
          case round =>
            obtain ⟨k', fr, hk', rfl, rfl, HE⟩ := hrel
            by_cases hlt' : k' < m
            · have hka : k' < way.length := by rw [hm.out]; exact hlt'
              have x1 := HC.out k' hka
              obtain ⟨g0, g1⟩ := HW.out k' hka
              have hno := fun (t : T3) ht h => Lib.hid (wayEnd_no (ts := ts) (way := way) (f := fr) hka (t := t) ht h)
              have hstep := fun (t : T3) ht h => Lib.hid (wayEnd_step (ts := ts) (way := way) (f := fr) hka (t := t) ht h)
              generalize way[k'] = z at x1 g0 g1 hno hstep
              obtain ⟨j, rfl⟩ := Int.eq_ofNat_of_zero_le g0
              have hj : j < ts.length := by rw [hn.out]; omega
              obtain ⟨y1, y2, y3⟩ := HAC.out j hj
              have hget : ts[j]? = some ts[j] := List.getElem?_eq_getElem hj
              simp only [Int.toNat_natCast] at hno hstep
              have hno := hno _ hget
              have hstep := hstep _ hget
              clear hget
              generalize ts[j] = t at y1 y2 y3 hno hstep
              rw [← B2.out.cell (p := ⟨bb, _, none⟩) hbb] at x1
              rw [← B2.out.cell (p := ⟨ba, _, none⟩) hba] at y1 y2 y3
              have hk0 : (0 : Int) ≤ (k' : Int) := by omega
              have hk1 : (k' : Int) < (m : Int) := by omega
              rcases eq_ways t.1 fr with ⟨⟨e1, e2⟩, e3⟩ | ⟨⟨e1, e2⟩, e3⟩
              · have HS := hstep e3
                clear hno hstep e3
                go_wp2
                go_round
                case rel => exact ⟨k' + 1, t.2.1, by omega, by go_num, rfl, HE.out.trans HS.out⟩
                case measure => simp [intOf]; omega
              · have HS := hno e3
                have HF : Hid (isWayB ts way x y = false) := by unfold Hid isWayB; rw [HE.out, HS.out]; rfl
                clear hno hstep e3
                go_wp2
                go_ret2
                exact ⟨ret_two (by rw [HR.out, HF.out]), B2.out⟩
            · have HF : Hid (isWayB ts way x y = (fr == y)) := by unfold Hid isWayB; rw [HE.out, wayEnd_done (by rw [hm.out]; omega)]; rfl
              go_wp2
              go_ret2
              exact ⟨ret_two (by rw [HR.out, HF.out]), B2.out⟩
  · have hcne : codeOf s ts [x, y] ≠ 0 := by omega
    have HR : Hid (isWayOf s ts n way x y = (false, codeOf s ts [x, y])) := by unfold Hid isWayOf; rw [if_neg hcne]
    have e1 : (codeOf s ts [x, y] == 0) = false := by simpa using hcne
    have e2 : (codeOf s ts [x, y] != 0) = true := by simpa using hcne
    clear hc hcne
    go_enter Try.func21, Try.ntmps21
    go_wp2_with fail
    refine (checkStations_any s a _ ts [x, y] n ca 2 _ _ hn (HA.out _ (by repeat (first | exact Below.refl _ _ | refine Below.alloc ?_ (by simp; try omega) _ | refine Below.setCell ?_ (by simp; try omega) _))) hmax rfl HXY (by omega) (by omega)).mono ?_
    rintro e w1 ⟨rfl, hb1⟩
    have q0 := (hb1.cell (p := ⟨w.heap.size, 0, none⟩) (by simp; omega)).trans (by simp [go_sem] : _ = some (.int .i64 s))
    have q1 := (hb1.cell (p := ⟨w.heap.size, 1, none⟩) (by simp; omega)).trans (by simp [go_sem] : _ = some (.slice a n ca))
    have B1 := Lib.hid (Below.trans (show Below w.heap.size w ((w.alloc (.cells #[.int .i64 s, .slice a n ca] 26)).alloc (.cells #[.int .i64 x, .int .i64 y] 2)) from (by repeat (first | exact Below.refl _ _ | refine Below.alloc ?_ (by simp; try omega) _ | refine Below.setCell ?_ (by simp; try omega) _))) (hb1.mono (by simp; omega)))
    have hz1 := World.block_lt_of_cell? _ _ q0
    simp only at hz1
    clear hb1
    go_wp2
    go_ret2
    exact ⟨ret_two (by rw [HR.out]), B1.out⟩
end Go.Proofs.Ytenjigifjkfiaaa
