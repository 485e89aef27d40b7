/-
  The walk of isSimpleWay, the program's test of a simple way.
-/
import Derived.Test.YtenjigifjkfiaaaSimple
namespace Go.Proofs.Ytenjigifjkfiaaa
open Go.RowKit

theorem hasB_snoc (xs : List Int) (y x : Int) : hasB (xs ++ [y]) x = (hasB xs x || x == y) := by
  unfold hasB
  rw [Bool.eq_iff_iff]
  simp
/-- The array tells which stations are among those. -/
def Told (cur : Array Value) (xs : List Int) : Prop := ∀ x : Nat, x < 10 → cur[x]? = some (.bool (hasB xs (x : Int)))
theorem Told.step {cur : Array Value} {xs : List Int} (h : Told cur xs) (hs : cur.size = 10) (f : Nat) (hf : f < 10) : Told (cur.setIfInBounds f (.bool true)) (xs ++ [(f : Int)]) := by
  intro x hx
  rw [hasB_snoc]
  by_cases e : x = f
  · subst e
    simp [Array.getElem?_setIfInBounds]
    omega
  · rw [Array.getElem?_setIfInBounds_ne (by omega), h x hx]
    have : ((x : Int) == (f : Int)) = false := by rw [beq_eq_false_iff_ne]; omega
    rw [this, Bool.or_false]
theorem told_nil : Told #[.bool false, .bool false, .bool false, .bool false, .bool false, .bool false, .bool false, .bool false, .bool false, .bool false] [] := by
  intro x hx
  have : x = 0 ∨ x = 1 ∨ x = 2 ∨ x = 3 ∨ x = 4 ∨ x = 5 ∨ x = 6 ∨ x = 7 ∨ x = 8 ∨ x = 9 := by omega
  rcases this with rfl | rfl | rfl | rfl | rfl | rfl | rfl | rfl | rfl | rfl <;> rfl
/-- The two ends of a tube of a valid network. -/
theorem ends_of {s : Int} {ts : List T3} (h : netB s ts = true) (j : Nat) (hj : j < ts.length) : ∃ f g : Nat, ts[j].1 = (f : Int) ∧ ts[j].2.1 = (g : Int) ∧ f < 10 ∧ g < 10 := by
  obtain ⟨_, h10, _, hT⟩ := netB_parts h
  have hm := hT _ (List.getElem_mem hj)
  unfold tubeB at hm
  have hm := of_decide_eq_true hm
  exact ⟨ts[j].1.toNat, ts[j].2.1.toNat, by omega, by omega, by omega, by omega⟩

theorem told_rel {w wr V : World} {cur : Array Value} {T : TypeId} {f : Nat} {x u v : Value} (hb : Below w.heap.size w wr) (q : wr.cell? ⟨w.heap.size, 0, none⟩ = some u ∧ wr.cell? ⟨w.heap.size, 1, none⟩ = some v) (hg : wr.heap[w.heap.size + 1]? = some (.cells cur T (0, 0))) (hv : Below wr.heap.size wr V) :
    Below w.heap.size w (V.setCell ⟨w.heap.size + 1, f, none⟩ x) ∧ ((V.setCell ⟨w.heap.size + 1, f, none⟩ x).cell? ⟨w.heap.size, 0, none⟩ = some u ∧ (V.setCell ⟨w.heap.size + 1, f, none⟩ x).cell? ⟨w.heap.size, 1, none⟩ = some v) ∧ (V.setCell ⟨w.heap.size + 1, f, none⟩ x).heap[w.heap.size + 1]? = some (.cells (cur.setIfInBounds f x) T (0, 0)) := by
  have hl : w.heap.size + 1 < wr.heap.size := (Array.getElem?_eq_some_iff.1 hg).1
  refine ⟨(two_worldsC hb hv).setCell (by show w.heap.size ≤ w.heap.size + 1; omega) _, ⟨?_, ?_⟩, heap_setCell_same _ _ _ _ _ _ ((hv.block _ hl).trans hg)⟩
  · exact (World.cell?_of_block (a := ⟨w.heap.size, 0, none⟩) (Below.heap_setCell _ _ _ _ (by simp only; omega))).trans ((hv.cell (p := ⟨w.heap.size, 0, none⟩) (by simp only; omega)).trans q.1)
  · exact (World.cell?_of_block (a := ⟨w.heap.size, 1, none⟩) (Below.heap_setCell _ _ _ _ (by simp only; omega))).trans ((hv.cell (p := ⟨w.heap.size, 1, none⟩) (by simp only; omega)).trans q.2)

set_option maxHeartbeats 2000000 in
theorem isSimpleWay_any (s : Int) (a b : Option Addr) (ts : List T3) (way : List Int) (n ca m cb : Nat) (w : World) (hn : Hid (ts.length = n)) (ha : RT w a ts) (hmax : n ≤ 1048576) (hm : Hid (way.length = m)) (hb : RI w b way) (hm1 : m ≤ 1048576) (hnet : netB s ts = true) :
    Calls Try.prog 68 #[.agg #[.int .i64 s, .slice a n ca], .slice b m cb] w fun e w' => e = .returned (.bool (simpleB ts way)) ∧ Below w.heap.size w w' := by
  have HA : Hid (∀ w', Below w.heap.size w w' → RT w' a ts) := fun w' h => ha.below h
  have HBB : Hid (0 < m → ∃ bb ob, b = some ⟨bb, ob, none⟩ ∧ bb < w.heap.size ∧ ∀ i (h : i < way.length), w.cell? ⟨bb, ob + i, none⟩ = some (.int .i64 way[i])) := fun h => hb.addr (by rw [hm.out]; exact h)
  have HNET := Lib.hid (ends_of hnet)
  clear ha hb hnet
  go_enter Try.func68, Try.ntmps68
  go_wp2
  go_loopw [11] (fun iv wr => ∃ (k : Nat) (cur : Array Value), k ≤ m ∧ iv = .int .i64 k ∧ Below w.heap.size w wr ∧ Hid (wr.cell? ⟨w.heap.size, 0, none⟩ = some (.int .i64 s) ∧ wr.cell? ⟨w.heap.size, 1, none⟩ = some (.slice a n ca)) ∧ Hid (wr.heap[w.heap.size + 1]? = some (.cells cur 105 (0, 0))) ∧ Hid (cur.size = 10) ∧ Hid (Told cur (frs ts way k)) ∧ Hid (∀ j, j < k → stepB ts way j = true)) (fun iv _ => m - (intOf iv).toNat)
  case atStart =>
    have e : (w.alloc (.cells #[.int .i64 s, .slice a n ca] 26)).heap.size = w.heap.size + 1 := by simp
    exact ⟨0, #[.bool false, .bool false, .bool false, .bool false, .bool false, .bool false, .bool false, .bool false, .bool false, .bool false], by omega, rfl, (by repeat (first | exact Below.refl _ _ | refine Below.alloc ?_ (by simp; try omega) _ | refine Below.setCell ?_ (by simp; try omega) _)), ⟨by simp [go_sem], by simp [go_sem]⟩, by unfold Hid; rw [← e]; exact heap_alloc_new _ _, rfl, told_nil, fun j hj => by omega⟩
  case round =>
    obtain ⟨k, cur, hk, rfl, hbel, HQ, HG, HS, HTL, HALL⟩ := hrel
    obtain ⟨q0, q1⟩ := HQ.out
    have hgl : w.heap.size + 1 < wr.heap.size := (Array.getElem?_eq_some_iff.1 HG.out).1
    have l3 : w.heap.size < wr.heap.size := by omega
    by_cases hlt : k < m
    · have hka : k < way.length := by rw [hm.out]; exact hlt
      obtain ⟨bb, ob, rfl, hbb, hcb⟩ := HBB.out (by omega)
      have x1 := hcb k hka
      have HC := Lib.hid hcb
      have HST : Hid (stepB ts way k = stepV ts (frs ts way k) k (way.getD (k - 1) 0) way[k]) := by unfold Hid stepB; congr 1; simp [hka]
      have HFR := Lib.hid (frs_succ (ts := ts) hka)
      have HBAD : Hid (stepB ts way k = false → simpleB ts way = false) := fun h => simpleB_bad hka h
      have HSM : Hid (stepB ts way k = true → ∀ j, j < k + 1 → stepB ts way j = true) := fun ht j hj => if e : j = k then (by subst e; exact ht) else HALL.out j (by omega)
      generalize way[k] = z at x1 HST HFR
      rw [← hbel.cell (p := ⟨bb, _, none⟩) hbb] at x1
      have hk0 : (0 : Int) ≤ (k : Int) := by omega
      have hk1 : (k : Int) < (m : Int) := by omega
      have l1 : bb < wr.heap.size := by have := hbel.size; omega
      have HBEL := Lib.hid hbel
      clear hbel hcb
      cases hx : stB n z with
      | false =>
        have HT := Lib.hid (HBAD.out (HST.out.trans (stepV_out (by rw [hn.out]; exact hx))))
        clear HBAD HSM
        go_wp2_with (go_at_call 52; refine (isTube_any _ _ _ _ _ _).mono ?_; rintro e w' ⟨rfl, rfl⟩)
        go_ret
        exact ⟨ret_bool HT.out.symm, HBEL.out.alloc HBEL.out.size _⟩
      | true =>
        obtain ⟨g0, g1⟩ := stB_parts hx
        obtain ⟨j, rfl⟩ := Int.eq_ofNat_of_zero_le g0
        have hj : j < ts.length := by rw [hn.out]; omega
        obtain ⟨ba, oa, rfl, hba, hca⟩ := (HA.out w (Below.refl _ _)).addr (by omega)
        have HCA := Lib.hid hca
        obtain ⟨y1, y2, y3⟩ := hca j hj
        obtain ⟨f, g, ef, eg, hf, hg⟩ := HNET.out j hj
        have HFA := Lib.hid (frAt_of (List.getElem?_eq_getElem hj))
        rw [ef] at y1
        have HFA := Lib.hid (HFA.out.trans ef)
        rw [← HBEL.out.cell (p := ⟨ba, _, none⟩) hba] at y1
        have l2 : ba < wr.heap.size := by have := HBEL.out.size; omega
        have hj0 : (0 : Int) ≤ (j : Int) := by omega
        have HX := Lib.hid (hn.out.symm ▸ hx : stB ts.length (j : Int) = true)
        have hf0 : (0 : Int) ≤ (f : Int) := by omega
        have hf1 : (f : Int) < 10 := by omega
        have c1 : wr.cell? ⟨w.heap.size + 1, f, none⟩ = some (.bool (hasB (frs ts way k) (f : Int))) := (cell_of_row wr _ f cur _ (0, 0) HG.out).trans (HTL.out f hf)
        have z1 := frozen_of_row wr (w.heap.size + 1) f cur _ HG.out
        have HF := Lib.hid hf
        clear hca y2 y3 ef eg hg hf
        cases hs : hasB (frs ts way k) (f : Int) with
        | true =>
          have HT := Lib.hid (HBAD.out (HST.out.trans (stepV_seen (by rw [HFA.out]; exact hs))))
          rw [hs] at c1
          clear HBAD HSM hs
          go_wp2_with (go_at_call 52; refine (isTube_any _ _ _ _ _ _).mono ?_; rintro e w' ⟨rfl, rfl⟩)
          go_quiet (fail)
          go_wp2
          go_ret
          exact ⟨ret_bool HT.out.symm, two_worldsC HBEL.out (by repeat (first | exact Below.refl _ _ | refine Below.drew ?_ | refine Below.drewN' ?_ _ | refine Below.alloc ?_ (by simp; try omega) _ | refine Below.setCell ?_ (by simp; try omega) _))⟩
        | false =>
          have HSF := Lib.hid hs
          rw [hs] at c1
          have HTN : Hid (Told (cur.setIfInBounds f (.bool true)) (frs ts way (k + 1))) := by unfold Hid; rw [HFR.out, HFA.out]; exact HTL.out.step HS.out f HF.out
          clear hs
          by_cases hk00 : k = 0
          · have HSM2 := Lib.hid (HSM.out (HST.out.trans (stepV_first HX.out (by rw [HFA.out]; exact HSF.out) hk00)))
            have hg0 : decide ((0 : Int) < (k : Int)) = false := decide_eq_false (by omega)
            have hg1 : decide (0 < k) = false := decide_eq_false (by omega)
            clear HBAD HSM hk00
            go_wp2_with (go_at_call 52; refine (isTube_any _ _ _ _ _ _).mono ?_; rintro e w' ⟨rfl, rfl⟩)
            go_quiet (fail)
            go_wp2
            go_roundw
            case rel => exact ⟨k + 1, _, by omega, by go_num, (told_rel (x := .bool true) HBEL.out HQ.out HG.out (by repeat (first | exact Below.refl _ _ | refine Below.drew ?_ | refine Below.drewN' ?_ _ | refine Below.alloc ?_ (by simp; try omega) _ | refine Below.setCell ?_ (by simp; try omega) _))).1, (told_rel (x := .bool true) HBEL.out HQ.out HG.out (by repeat (first | exact Below.refl _ _ | refine Below.drew ?_ | refine Below.drewN' ?_ _ | refine Below.alloc ?_ (by simp; try omega) _ | refine Below.setCell ?_ (by simp; try omega) _))).2.1, (told_rel (x := .bool true) HBEL.out HQ.out HG.out (by repeat (first | exact Below.refl _ _ | refine Below.drew ?_ | refine Below.drewN' ?_ _ | refine Below.alloc ?_ (by simp; try omega) _ | refine Below.setCell ?_ (by simp; try omega) _))).2.2, by unfold Hid; simp; exact HS.out, HTN.out, HSM2.out⟩
            case measure => simp [intOf]; omega
          · have hqa : k - 1 < way.length := by omega
            have x2 := HC.out (k - 1) hqa
            have hst := stepB_st hqa (HALL.out (k - 1) (by omega))
            have HGD : Hid (way.getD (k - 1) 0 = way[k - 1]) := by unfold Hid; simp [hqa]
            generalize way[k - 1] = z' at x2 hst HGD
            rw [hn.out] at hst
            obtain ⟨i0, i1⟩ := stB_parts hst
            obtain ⟨j', rfl⟩ := Int.eq_ofNat_of_zero_le i0
            have hj' : j' < ts.length := by rw [hn.out]; omega
            obtain ⟨_, z2, _⟩ := HCA.out j' hj'
            have HTO := Lib.hid (toAt_of (List.getElem?_eq_getElem hj'))
            generalize ts[j'] = t' at z2 HTO
            rw [← HBEL.out.cell (p := ⟨ba, _, none⟩) hba] at z2
            rw [← HBEL.out.cell (p := ⟨bb, _, none⟩) hbb] at x2
            have HNX : Hid (stepB ts way k = (t'.2.1 == (f : Int))) := by
              have h := HST.out.trans (stepV_next HX.out (by rw [HFA.out]; exact HSF.out) hk00)
              rw [HGD.out, HTO.out, HFA.out] at h
              exact h
            have hg0 : (0 : Int) < (k : Int) := by omega
            have hg1 : decide (0 < k) = true := decide_eq_true (by omega)
            have hg2 : decide ((0 : Int) < (k : Int)) = true := decide_eq_true (by omega)
            have hq0 : (0 : Int) ≤ (k : Int) - 1 := by omega
            have hq1 : (k : Int) - 1 < (m : Int) := by omega
            have hj2 : (0 : Int) ≤ (j' : Int) := by omega
            have hq2 : 1 ≤ k := by omega
            clear hqa hst hk00
            rcases eq_ways t'.2.1 (f : Int) with ⟨⟨e4, e5⟩, e6⟩ | ⟨⟨e4, e5⟩, e6⟩
            · have HSM2 := Lib.hid (HSM.out (HNX.out.trans e4))
              clear HBAD HSM e6
              go_wp2_with (go_at_call 52; refine (isTube_any _ _ _ _ _ _).mono ?_; rintro e w' ⟨rfl, rfl⟩)
              go_quiet (fail)
              go_wp2
              go_roundw
              case rel => exact ⟨k + 1, _, by omega, by go_num, (told_rel (x := .bool true) HBEL.out HQ.out HG.out (by repeat (first | exact Below.refl _ _ | refine Below.drew ?_ | refine Below.drewN' ?_ _ | refine Below.alloc ?_ (by simp; try omega) _ | refine Below.setCell ?_ (by simp; try omega) _))).1, (told_rel (x := .bool true) HBEL.out HQ.out HG.out (by repeat (first | exact Below.refl _ _ | refine Below.drew ?_ | refine Below.drewN' ?_ _ | refine Below.alloc ?_ (by simp; try omega) _ | refine Below.setCell ?_ (by simp; try omega) _))).2.1, (told_rel (x := .bool true) HBEL.out HQ.out HG.out (by repeat (first | exact Below.refl _ _ | refine Below.drew ?_ | refine Below.drewN' ?_ _ | refine Below.alloc ?_ (by simp; try omega) _ | refine Below.setCell ?_ (by simp; try omega) _))).2.2, by unfold Hid; simp; exact HS.out, HTN.out, HSM2.out⟩
              case measure => simp [intOf]; omega
            · have HT := Lib.hid (HBAD.out (HNX.out.trans e4))
              clear HBAD HSM e6
              go_wp2_with (go_at_call 52; refine (isTube_any _ _ _ _ _ _).mono ?_; rintro e w' ⟨rfl, rfl⟩)
              go_quiet (fail)
              go_wp2
              go_ret
              exact ⟨ret_bool HT.out.symm, two_worldsC HBEL.out (by repeat (first | exact Below.refl _ _ | refine Below.drew ?_ | refine Below.drewN' ?_ _ | refine Below.alloc ?_ (by simp; try omega) _ | refine Below.setCell ?_ (by simp; try omega) _))⟩
    · have hkm : m = k := by omega
      subst hkm
      have HR : Hid (simpleB ts way = endB ts way) := simpleB_end (fun j hj => HALL.out j (by rw [hm.out] at hj; exact hj))
      by_cases hz : m = 0
      · have HE : Hid (simpleB ts way = true) := HR.out.trans (endB_nil (hm.out.trans hz))
        have e1 : ((m : Int) == 0) = true := by simpa using hz
        have e2 : (m == 0) = true := by simpa using hz
        have HB1 := Lib.hid hbel
        clear hbel hz hlt
        go_wp2_with fail
        go_quiet (fail)
        go_wp2
        go_ret
        exact ⟨ret_bool HE.out.symm, two_worldsC HB1.out (by repeat (first | exact Below.refl _ _ | refine Below.drew ?_ | refine Below.drewN' ?_ _ | refine Below.alloc ?_ (by simp; try omega) _ | refine Below.setCell ?_ (by simp; try omega) _))⟩
      · obtain ⟨bb, ob, rfl, hbb, hcb⟩ := HBB.out (by omega)
        have hqa : m - 1 < way.length := by rw [hm.out]; omega
        have x2 := hcb (m - 1) hqa
        have hst := stepB_st hqa (HALL.out (m - 1) (by omega))
        have HEN := Lib.hid (endB_last (ts := ts) (q := m - 1) (by rw [hm.out]; omega) hqa)
        generalize way[m - 1] = z' at x2 hst HEN
        rw [hn.out] at hst
        obtain ⟨i0, i1⟩ := stB_parts hst
        obtain ⟨j', rfl⟩ := Int.eq_ofNat_of_zero_le i0
        have hj' : j' < ts.length := by rw [hn.out]; omega
        obtain ⟨ba, oa, rfl, hba, hca⟩ := (HA.out w (Below.refl _ _)).addr (by omega)
        obtain ⟨_, z2, _⟩ := hca j' hj'
        obtain ⟨_, f, _, ef, _, hf⟩ := HNET.out j' hj'
        have HTO := Lib.hid ((toAt_of (List.getElem?_eq_getElem hj')).trans ef)
        rw [ef] at z2
        rw [← hbel.cell (p := ⟨ba, _, none⟩) hba] at z2
        rw [← hbel.cell (p := ⟨bb, _, none⟩) hbb] at x2
        have HEQ : Hid (simpleB ts way = !(hasB (frs ts way m) (f : Int))) := by
          have h := HR.out.trans HEN.out
          rw [HTO.out, hm.out] at h
          exact h
        have c1 : wr.cell? ⟨w.heap.size + 1, f, none⟩ = some (.bool (hasB (frs ts way m) (f : Int))) := (cell_of_row wr _ f cur _ (0, 0) HG.out).trans (HTL.out f hf)
        have hf0 : (0 : Int) ≤ (f : Int) := by omega
        have hf1 : (f : Int) < 10 := by omega
        have e1 : ((m : Int) == 0) = false := by simpa using hz
        have e2 : (m == 0) = false := by simpa using hz
        have hq0 : (0 : Int) ≤ (m : Int) - 1 := by omega
        have hq1 : (m : Int) - 1 < (m : Int) := by omega
        have hj2 : (0 : Int) ≤ (j' : Int) := by omega
        have hq2 : 1 ≤ m := by omega
        have hm2 : (m : Int) ≤ 1048576 := by omega
        have HB1 := Lib.hid hbel
        clear hbel hz hlt hqa hst hcb hca ef
        cases hs : hasB (frs ts way m) (f : Int) with
        | true =>
          have HE : Hid (simpleB ts way = false) := HEQ.out.trans (by rw [hs]; rfl)
          rw [hs] at c1
          clear hs
          go_wp2_with fail
          go_quiet (fail)
          go_wp2
          go_ret
          exact ⟨ret_bool HE.out.symm, two_worldsC HB1.out (by repeat (first | exact Below.refl _ _ | refine Below.drew ?_ | refine Below.drewN' ?_ _ | refine Below.alloc ?_ (by simp; try omega) _ | refine Below.setCell ?_ (by simp; try omega) _))⟩
        | false =>
          have HE : Hid (simpleB ts way = true) := HEQ.out.trans (by rw [hs]; rfl)
          rw [hs] at c1
          clear hs
          go_wp2_with fail
          go_quiet (fail)
          go_wp2
          go_ret
          exact ⟨ret_bool HE.out.symm, two_worldsC HB1.out (by repeat (first | exact Below.refl _ _ | refine Below.drew ?_ | refine Below.drewN' ?_ _ | refine Below.alloc ?_ (by simp; try omega) _ | refine Below.setCell ?_ (by simp; try omega) _))⟩
end Go.Proofs.Ytenjigifjkfiaaa
