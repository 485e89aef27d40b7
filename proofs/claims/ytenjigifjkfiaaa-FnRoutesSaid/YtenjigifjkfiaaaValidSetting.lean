/-
  The walks of the checks on a setting: l04Ok, ValidSetting (the model's and the program's).
-/
import Derived.Test.YtenjigifjkfiaaaNetCode
import Derived.Test.YtenjigifjkfiaaaSetMath
namespace Go.Proofs.Ytenjigifjkfiaaa
open Go.RowKit

set_option maxHeartbeats 1000000 in
theorem l04Ok_any (pb : Nat) (s : Int) (a b : Option Addr) (ts : List T3) (set : List Int) (n ca m cb : Nat) (w : World) (hn : Hid (ts.length = n)) (ha : RT w a ts) (hmax : n ≤ 1048576)
    (p0 : w.cell? ⟨pb, 0, none⟩ = some (.int .i64 s)) (p1 : w.cell? ⟨pb, 1, none⟩ = some (.slice a n ca)) (hm : Hid (set.length = m)) (hb : RI w b set) (hm1 : m ≤ 1048576) :
    Calls Try.prog 49 #[.pointer (some ⟨pb, 0, none⟩), .slice b m cb] w fun e w' => e = .returned (.bool (setB s ts set)) ∧ Below w.heap.size w w' := by
  have HA : Hid (∀ w', Below w.heap.size w w' → RT w' a ts) := fun w' h => ha.below h
  have HB : Hid (∀ w', Below w.heap.size w w' → RI w' b set) := fun w' h => hb.below h
  have hpb := World.block_lt_of_cell? w _ p0
  simp only at hpb
  clear ha hb
  cases hv : netB s ts with
  | false =>
    have HR := Lib.hid (setB_inv (set := set) hv)
    go_enter Try.func49, Try.ntmps49
    go_wp2_with fail
    refine (l02Ok_any pb s a ts n ca _ hn (HA.out _ (Below.refl _ _)) hmax p0 p1).mono ?_
    rintro e w1 ⟨rfl, hb1⟩
    have B1 := Lib.hid hb1
    have q0 := (hb1.cell (p := ⟨pb, 0, none⟩) hpb).trans p0
    have q1 := (hb1.cell (p := ⟨pb, 1, none⟩) hpb).trans p1
    have hz1 := World.block_lt_of_cell? _ _ q0
    simp only at hz1
    clear hb1
    go_wp2
    go_ret
    exact ⟨ret_bool HR.out.symm, B1.out⟩
  | true =>
    obtain ⟨hs1, hs2, hs3, _⟩ := netB_parts hv
    rw [hn.out] at hs3
    have HS := Lib.hid (And.intro hs1 hs2)
    rcases eq_ways (m : Int) s with ⟨⟨e1, e2⟩, e3⟩ | ⟨⟨e1, e2⟩, e3⟩
    · have HV := Lib.hid hv
      obtain ⟨bb, ob, rfl, hbb, hcb⟩ := (HB.out w (Below.refl _ _)).addr (by rw [hm.out]; omega)
      have HC := Lib.hid hcb
      have HL : Hid ((set.length : Int) = s) := by unfold Hid; rw [hm.out]; exact e3
      have HM : Hid (m ≤ 10) := by unfold Hid; omega
      clear hcb HB hv e3 hs1 hs2
      go_enter Try.func49, Try.ntmps49
      go_wp2_with fail
      refine (l02Ok_any pb s a ts n ca _ hn (HA.out _ (Below.refl _ _)) hmax p0 p1).mono ?_
      rintro e w1 ⟨rfl, hb1⟩
      have B1 := Lib.hid hb1
      have q0 := (hb1.cell (p := ⟨pb, 0, none⟩) hpb).trans p0
      have q1 := (hb1.cell (p := ⟨pb, 1, none⟩) hpb).trans p1
      have hz1 := World.block_lt_of_cell? _ _ q0
      simp only at hz1
      clear hb1
      go_wp2
      go_loopw [5] (fun i wr => ∃ k : Nat, k ≤ m ∧ i = .int .i64 k ∧ Below w1.heap.size w1 wr ∧ ∀ i (h : i < set.length), i < k → okAt ts i set[i] = true) (fun i _ => m - (intOf i).toNat)
      case atStart => exact ⟨0, by omega, rfl, Below.refl _ _, fun j _ hj => by omega⟩
      case round =>
        obtain ⟨k, hk, rfl, hbel, hall⟩ := hrel
        have HALL := Lib.hid hall
        clear hall
        have r0 := (hbel.cell (p := ⟨pb, 0, none⟩) hz1).trans q0
        have r1 := (hbel.cell (p := ⟨pb, 1, none⟩) hz1).trans q1
        have HQ := Lib.hid (And.intro q0 q1)
        clear q0 q1
        have B2 := Lib.hid (two_worldsC B1.out hbel)
        by_cases hlt : k < m
        · have hka : k < set.length := by rw [hm.out]; exact hlt
          have x1 := HC.out k hka
          have HBAD : Hid (okAt ts k set[k] = false → setB s ts set = false) := fun h => setB_bad k hka h
          have HSM : Hid (okAt ts k set[k] = true → ∀ i (h : i < set.length), i < k + 1 → okAt ts i set[i] = true) := fun ht j h hj => if e : j = k then (by subst e; exact ht) else HALL.out j h (by omega)
          generalize set[k] = z at x1 HBAD HSM
          rw [← B2.out.cell (p := ⟨bb, _, none⟩) hbb] at x1
          have hk0 : (0 : Int) ≤ (k : Int) := by omega
          have hk1 : (k : Int) < (m : Int) := by omega
          have l1 : bb < wr.heap.size := by have := B2.out.size; omega
          have l3 : pb < wr.heap.size := by have := hbel.size; omega
          have HBEL := Lib.hid hbel
          clear hbel
          rcases eq_ways z (-1) with ⟨⟨e4, e5⟩, e6⟩ | ⟨⟨e4, e5⟩, e6⟩
          · have HSM2 := Lib.hid (HSM.out (by rw [e6]; exact okAt_stop ts k))
            subst e6
            clear HBAD HSM
            go_wp2
            go_roundw
            case rel => exact ⟨k + 1, by omega, by go_num, HBEL.out, HSM2.out⟩
            case measure => simp [intOf]; omega
          · cases hx : stB n z with
            | false =>
              have HT := Lib.hid (HBAD.out (okAt_out e6 (by rw [hn.out]; exact hx)))
              have hx' := (inB_stB n z).trans hx
              clear HBAD HSM e6
              go_wp2_with (go_at_call 74; refine (l00In_any _ _ _ _).mono ?_; rintro e w' ⟨rfl, rfl⟩)
              go_ret
              exact ⟨ret_bool HT.out.symm, B2.out⟩
            | true =>
              obtain ⟨g0, g1⟩ := stB_parts hx
              obtain ⟨j, rfl⟩ := Int.eq_ofNat_of_zero_le g0
              have hj : j < ts.length := by rw [hn.out]; omega
              obtain ⟨ba, oa, rfl, hba, hca⟩ := (HA.out w (Below.refl _ _)).addr (by omega)
              obtain ⟨y1, y2, y3⟩ := hca j hj
              have HIT := Lib.hid (okAt_hit (i := k) (List.getElem?_eq_getElem hj))
              generalize ts[j] = t at y1 y2 y3 HIT
              rw [← B2.out.cell (p := ⟨ba, _, none⟩) hba] at y1 y2 y3
              have l2 : ba < wr.heap.size := by have := B2.out.size; omega
              have hx' := (inB_stB n _).trans hx
              clear hca e6
              rcases eq_ways t.1 (k : Int) with ⟨⟨e7, e8⟩, e9⟩ | ⟨⟨e7, e8⟩, e9⟩
              · have HSM2 := Lib.hid (HSM.out (by rw [HIT.out]; exact e7))
                clear HBAD HSM e9
                go_wp2_with (go_at_call 74; refine (l00In_any _ _ _ _).mono ?_; rintro e w' ⟨rfl, rfl⟩)
                go_roundw
                case rel => exact ⟨k + 1, by omega, by go_num, HBEL.out, HSM2.out⟩
                case measure => simp [intOf]; omega
              · have HT := Lib.hid (HBAD.out (by rw [HIT.out]; exact e7))
                clear HBAD HSM e9
                go_wp2_with (go_at_call 74; refine (l00In_any _ _ _ _).mono ?_; rintro e w' ⟨rfl, rfl⟩)
                go_ret
                exact ⟨ret_bool HT.out.symm, B2.out⟩
        · have HT := Lib.hid (setB_good HV.out HL.out (fun j hj => HALL.out j hj (by rw [hm.out] at hj; omega)))
          clear hbel
          go_wp2
          go_ret
          exact ⟨ret_bool HT.out.symm, B2.out⟩
    · have HR : Hid (setB s ts set = false) := setB_len (by rw [hm.out]; exact e3)
      clear e3
      go_enter Try.func49, Try.ntmps49
      go_wp2_with fail
      refine (l02Ok_any pb s a ts n ca _ hn (HA.out _ (Below.refl _ _)) hmax p0 p1).mono ?_
      rintro e w1 ⟨rfl, hb1⟩
      have B1 := Lib.hid hb1
      have q0 := (hb1.cell (p := ⟨pb, 0, none⟩) hpb).trans p0
      have q1 := (hb1.cell (p := ⟨pb, 1, none⟩) hpb).trans p1
      have hz1 := World.block_lt_of_cell? _ _ q0
      simp only at hz1
      clear hb1
      go_wp2
      go_ret
      exact ⟨ret_bool HR.out.symm, B1.out⟩
theorem specValidSetting_any (s : Int) (a b : Option Addr) (ts : List T3) (set : List Int) (n ca m cb : Nat) (w : World) (hn : Hid (ts.length = n)) (ha : RT w a ts) (hmax : n ≤ 1048576) (hm : Hid (set.length = m)) (hb : RI w b set) (hm1 : m ≤ 1048576) :
    Calls Try.prog 14 #[.agg #[.int .i64 s, .slice a n ca], .slice b m cb] w fun e w' => e = .returned (.bool (setB s ts set)) ∧ Below w.heap.size w w' := by
  go_enter Try.func14, Try.ntmps14
  go_wp2_with fail
  refine (l04Ok_any _ s a b ts set n ca m cb _ hn (ha.below (by repeat (first | exact Below.refl _ _ | refine Below.alloc ?_ (by simp; try omega) _ | refine Below.setCell ?_ (by simp; try omega) _))) hmax (by simp [go_sem]) (by simp [go_sem]) hm (hb.below (by repeat (first | exact Below.refl _ _ | refine Below.alloc ?_ (by simp; try omega) _ | refine Below.setCell ?_ (by simp; try omega) _))) hm1).mono ?_
  rintro e w1 ⟨rfl, hb1⟩
  go_wp2
  go_ret
  exact ⟨rfl, Below.trans (show Below w.heap.size w (w.alloc (.cells #[.int .i64 s, .slice a n ca] 26)) from (by repeat (first | exact Below.refl _ _ | refine Below.alloc ?_ (by simp; try omega) _ | refine Below.setCell ?_ (by simp; try omega) _))) (hb1.mono (by simp))⟩

set_option maxHeartbeats 1000000 in
theorem implValidSetting_any (s : Int) (a b : Option Addr) (ts : List T3) (set : List Int) (n ca m cb : Nat) (w : World) (hn : Hid (ts.length = n)) (ha : RT w a ts) (hmax : n ≤ 1048576) (hm : Hid (set.length = m)) (hb : RI w b set) (hm1 : m ≤ 1048576) :
    Calls Try.prog 69 #[.agg #[.int .i64 s, .slice a n ca], .slice b m cb] w fun e w' => e = .returned (.bool (setB s ts set)) ∧ Below w.heap.size w w' := by
  have HA : Hid (∀ w', Below w.heap.size w w' → RT w' a ts) := fun w' h => ha.below h
  have HB : Hid (∀ w', Below w.heap.size w w' → RI w' b set) := fun w' h => hb.below h
  clear ha hb
  cases hv : netB s ts with
  | false =>
    have HR := Lib.hid (setB_inv (set := set) hv)
    go_enter Try.func69, Try.ntmps69
    go_wp2_with fail
    refine (implValidNet_any s a ts n ca _ hn (HA.out _ (by repeat (first | exact Below.refl _ _ | refine Below.alloc ?_ (by simp; try omega) _ | refine Below.setCell ?_ (by simp; try omega) _))) hmax).mono ?_
    rintro e w1 ⟨rfl, hb1⟩
    have q0 := (hb1.cell (p := ⟨w.heap.size, 0, none⟩) (by simp)).trans (by simp [go_sem] : _ = some (.int .i64 s))
    have q1 := (hb1.cell (p := ⟨w.heap.size, 1, none⟩) (by simp)).trans (by simp [go_sem] : _ = some (.slice a n ca))
    have B1 := Lib.hid (Below.trans (show Below w.heap.size w (w.alloc (.cells #[.int .i64 s, .slice a n ca] 26)) from (by repeat (first | exact Below.refl _ _ | refine Below.alloc ?_ (by simp; try omega) _ | refine Below.setCell ?_ (by simp; try omega) _))) (hb1.mono (by simp)))
    have hz1 := World.block_lt_of_cell? _ _ q0
    simp only at hz1
    clear hb1
    go_wp2
    go_ret
    exact ⟨ret_bool HR.out.symm, B1.out⟩
  | true =>
    obtain ⟨hs1, hs2, hs3, _⟩ := netB_parts hv
    rw [hn.out] at hs3
    have HS := Lib.hid (And.intro hs1 hs2)
    rcases eq_ways (m : Int) s with ⟨⟨e1, e2⟩, e3⟩ | ⟨⟨e1, e2⟩, e3⟩
    · have HV := Lib.hid hv
      obtain ⟨bb, ob, rfl, hbb, hcb⟩ := (HB.out w (Below.refl _ _)).addr (by rw [hm.out]; omega)
      have HC := Lib.hid hcb
      have HL : Hid ((set.length : Int) = s) := by unfold Hid; rw [hm.out]; exact e3
      have HM : Hid (m ≤ 10) := by unfold Hid; omega
      clear hcb HB hv e3 hs1 hs2
      go_enter Try.func69, Try.ntmps69
      go_wp2_with fail
      refine (implValidNet_any s a ts n ca _ hn (HA.out _ (by repeat (first | exact Below.refl _ _ | refine Below.alloc ?_ (by simp; try omega) _ | refine Below.setCell ?_ (by simp; try omega) _))) hmax).mono ?_
      rintro e w1 ⟨rfl, hb1⟩
      have q0 := (hb1.cell (p := ⟨w.heap.size, 0, none⟩) (by simp)).trans (by simp [go_sem] : _ = some (.int .i64 s))
      have q1 := (hb1.cell (p := ⟨w.heap.size, 1, none⟩) (by simp)).trans (by simp [go_sem] : _ = some (.slice a n ca))
      have B1 := Lib.hid (Below.trans (show Below w.heap.size w (w.alloc (.cells #[.int .i64 s, .slice a n ca] 26)) from (by repeat (first | exact Below.refl _ _ | refine Below.alloc ?_ (by simp; try omega) _ | refine Below.setCell ?_ (by simp; try omega) _))) (hb1.mono (by simp)))
      have hz1 := World.block_lt_of_cell? _ _ q0
      simp only at hz1
      clear hb1
      go_wp2
      go_loopw [19] (fun i wr => ∃ k : Nat, k ≤ m ∧ i = .int .i64 k ∧ Below w1.heap.size w1 wr ∧ ∀ i (h : i < set.length), i < k → okAt ts i set[i] = true) (fun i _ => m - (intOf i).toNat)
      case atStart => exact ⟨0, by omega, rfl, Below.refl _ _, fun j _ hj => by omega⟩
      case round =>
        obtain ⟨k, hk, rfl, hbel, hall⟩ := hrel
        have HALL := Lib.hid hall
        clear hall
        have r0 := (hbel.cell (p := ⟨w.heap.size, 0, none⟩) hz1).trans q0
        have r1 := (hbel.cell (p := ⟨w.heap.size, 1, none⟩) hz1).trans q1
        have HQ := Lib.hid (And.intro q0 q1)
        clear q0 q1
        have B2 := Lib.hid (two_worldsC B1.out hbel)
        by_cases hlt : k < m
        · have hka : k < set.length := by rw [hm.out]; exact hlt
          have x1 := HC.out k hka
          have HBAD : Hid (okAt ts k set[k] = false → setB s ts set = false) := fun h => setB_bad k hka h
          have HSM : Hid (okAt ts k set[k] = true → ∀ i (h : i < set.length), i < k + 1 → okAt ts i set[i] = true) := fun ht j h hj => if e : j = k then (by subst e; exact ht) else HALL.out j h (by omega)
          generalize set[k] = z at x1 HBAD HSM
          rw [← B2.out.cell (p := ⟨bb, _, none⟩) hbb] at x1
          have hk0 : (0 : Int) ≤ (k : Int) := by omega
          have hk1 : (k : Int) < (m : Int) := by omega
          have l1 : bb < wr.heap.size := by have := B2.out.size; omega
          have l3 : w.heap.size < wr.heap.size := by have := hbel.size; omega
          have HBEL := Lib.hid hbel
          clear hbel
          rcases eq_ways z (-1) with ⟨⟨e4, e5⟩, e6⟩ | ⟨⟨e4, e5⟩, e6⟩
          · have HSM2 := Lib.hid (HSM.out (by rw [e6]; exact okAt_stop ts k))
            subst e6
            clear HBAD HSM
            go_wp2
            go_roundw
            case rel => exact ⟨k + 1, by omega, by go_num, HBEL.out, HSM2.out⟩
            case measure => simp [intOf]; omega
          · cases hx : stB n z with
            | false =>
              have HT := Lib.hid (HBAD.out (okAt_out e6 (by rw [hn.out]; exact hx)))
              clear HBAD HSM e6
              go_wp2_with (go_at_call 52; refine (isTube_any _ _ _ _ _ _).mono ?_; rintro e w' ⟨rfl, rfl⟩)
              go_ret
              exact ⟨ret_bool HT.out.symm, B2.out.alloc B2.out.size _⟩
            | true =>
              obtain ⟨g0, g1⟩ := stB_parts hx
              obtain ⟨j, rfl⟩ := Int.eq_ofNat_of_zero_le g0
              have hj : j < ts.length := by rw [hn.out]; omega
              obtain ⟨ba, oa, rfl, hba, hca⟩ := (HA.out w (Below.refl _ _)).addr (by omega)
              obtain ⟨y1, y2, y3⟩ := hca j hj
              have HIT := Lib.hid (okAt_hit (i := k) (List.getElem?_eq_getElem hj))
              generalize ts[j] = t at y1 y2 y3 HIT
              rw [← B2.out.cell (p := ⟨ba, _, none⟩) hba] at y1 y2 y3
              have l2 : ba < wr.heap.size := by have := B2.out.size; omega
              clear hca e6
              rcases eq_ways t.1 (k : Int) with ⟨⟨e7, e8⟩, e9⟩ | ⟨⟨e7, e8⟩, e9⟩
              · have HSM2 := Lib.hid (HSM.out (by rw [HIT.out]; exact e7))
                clear HBAD HSM e9
                go_wp2_with (go_at_call 52; refine (isTube_any _ _ _ _ _ _).mono ?_; rintro e w' ⟨rfl, rfl⟩)
                go_roundw
                case rel => exact ⟨k + 1, by omega, by go_num, HBEL.out.alloc HBEL.out.size _, HSM2.out⟩
                case measure => simp [intOf]; omega
              · have HT := Lib.hid (HBAD.out (by rw [HIT.out]; exact e7))
                clear HBAD HSM e9
                go_wp2_with (go_at_call 52; refine (isTube_any _ _ _ _ _ _).mono ?_; rintro e w' ⟨rfl, rfl⟩)
                go_ret
                exact ⟨ret_bool HT.out.symm, B2.out.alloc B2.out.size _⟩
        · have HT := Lib.hid (setB_good HV.out HL.out (fun j hj => HALL.out j hj (by rw [hm.out] at hj; omega)))
          clear hbel
          go_wp2
          go_ret
          exact ⟨ret_bool HT.out.symm, B2.out⟩
    · have HR : Hid (setB s ts set = false) := setB_len (by rw [hm.out]; exact e3)
      clear e3
      go_enter Try.func69, Try.ntmps69
      go_wp2_with fail
      refine (implValidNet_any s a ts n ca _ hn (HA.out _ (by repeat (first | exact Below.refl _ _ | refine Below.alloc ?_ (by simp; try omega) _ | refine Below.setCell ?_ (by simp; try omega) _))) hmax).mono ?_
      rintro e w1 ⟨rfl, hb1⟩
      have q0 := (hb1.cell (p := ⟨w.heap.size, 0, none⟩) (by simp)).trans (by simp [go_sem] : _ = some (.int .i64 s))
      have q1 := (hb1.cell (p := ⟨w.heap.size, 1, none⟩) (by simp)).trans (by simp [go_sem] : _ = some (.slice a n ca))
      have B1 := Lib.hid (Below.trans (show Below w.heap.size w (w.alloc (.cells #[.int .i64 s, .slice a n ca] 26)) from (by repeat (first | exact Below.refl _ _ | refine Below.alloc ?_ (by simp; try omega) _ | refine Below.setCell ?_ (by simp; try omega) _))) (hb1.mono (by simp)))
      have hz1 := World.block_lt_of_cell? _ _ q0
      simp only at hz1
      clear hb1
      go_wp2
      go_ret
      exact ⟨ret_bool HR.out.symm, B1.out⟩
end Go.Proofs.Ytenjigifjkfiaaa
