/-
  WaysFit: the model's walk.
-/
import Derived.Test.YtenjigifjkfiaaaFitMath
namespace Go.Proofs.Ytenjigifjkfiaaa
open Go.RowKit

set_option maxHeartbeats 4000000 in
theorem specWaysFit_any (s : Int) (a aw : Option Addr) (ts : List T3) (ws : List WayV) (n ca k cw : Nat) (w : World) (hn : Hid (ts.length = n)) (ha : RT w a ts) (hmax : n ≤ 1048576) (hk : Hid (ws.length = k)) (hk1 : k ≤ 1048576) (hw : RWays w aw ws) :
    Calls Try.prog 35 #[.agg #[.int .i64 s, .slice a n ca], .slice aw k cw] w fun e w' => e = .returned (.tuple #[.bool (fitOf s ts (ws.map (·.2))).1, .int .i64 (fitOf s ts (ws.map (·.2))).2]) ∧ Below w.heap.size w w' := by
  obtain ⟨r, hr⟩ : ∃ r, fitOf s ts (ws.map (·.2)) = r := ⟨_, rfl⟩
  have HFIT := Lib.hid hr
  rw [hr]
  clear hr
  have HA : Hid (∀ w', Below w.heap.size w w' → RT w' a ts) := fun w' h => ha.below h
  have HW : Hid (∀ w', Below w.heap.size w w' → RWays w' aw ws) := fun w' h => hw.below h
  have NB : Hid (Below w.heap.size w (w.alloc (.cells #[.int .i64 s, .slice a n ca] 26))) := (by repeat (first | exact Below.refl _ _ | refine Below.alloc ?_ (by simp; try omega) _ | refine Below.setCell ?_ (by simp; try omega) _))
  have NX : Hid (BoxN (w.alloc (.cells #[.int .i64 s, .slice a n ca] 26)) w.heap.size s (.slice a n ca)) := ⟨by simp [go_sem], by simp [go_sem]⟩
  have HNB : Hid (∀ w', Below (w.alloc (.cells #[.int .i64 s, .slice a n ca] 26)).heap.size (w.alloc (.cells #[.int .i64 s, .slice a n ca] 26)) w' → Below w.heap.size w w') := fun w' h => Below.trans NB.out (h.mono (by simp))
  have HSZ : Hid ((w.alloc (.cells #[.int .i64 s, .slice a n ca] 26)).heap.size = w.heap.size + 1) := by unfold Hid; simp
  clear ha hw
  obtain ⟨p0, p1⟩ := NX.out
  cases hv : netB s ts with
  | false =>
    have HR := Lib.hid (HFIT.out.symm.trans (fit_net hv))
    go_enter Try.func35, Try.ntmps35
    go_wp2_with fail
    refine (l02Ok_any w.heap.size s a ts n ca _ hn (HA.out _ NB.out) hmax p0 p1).mono ?_
    rintro e w1 ⟨rfl, hb1⟩
    have B1 := Lib.hid (HNB.out _ hb1)
    rw [hv]
    clear hb1 p0 p1 hv
    go_wp2
    go_ret2
    exact ⟨ret_bi HR.out, B1.out⟩
  | true =>
    have HNET := Lib.hid hv
    go_enter Try.func35, Try.ntmps35
    go_wp2_with fail
    refine (l02Ok_any w.heap.size s a ts n ca _ hn (HA.out _ NB.out) hmax p0 p1).mono ?_
    rintro e w1 ⟨rfl, hb1⟩
    have B1 := Lib.hid (HNB.out _ hb1)
    have X1 := Lib.hid (NX.out.below hb1)
    have S1 : Hid (w.heap.size < w1.heap.size) := by have := hb1.size; rw [HSZ.out] at this; exact this
    rw [hv]
    clear hb1 p0 p1 hv NX
    go_wp2
    go_loopw [6] (fun iv wr => ∃ i : Nat, i ≤ k ∧ iv = .int .i64 i ∧ Below w1.heap.size w1 wr ∧ Hid (∀ j (h : j < ws.length), j < i → simpleB ts ws[j].2 = true)) (fun iv _ => k - (intOf iv).toNat)
    case atStart => exact ⟨0, by omega, rfl, Below.refl _ _, fun j _ hj => by omega⟩
    case round =>
      obtain ⟨i, hi, rfl, hbel, HALL⟩ := hrel
      obtain ⟨q0, q1⟩ := BoxN.below X1.out hbel
      have HBW := Lib.hid (two_worldsC B1.out hbel)
      by_cases hlt : i < k
      · have hia : i < ws.length := by rw [hk.out]; exact hlt
        obtain ⟨bw, ow, rfl, hbw, hcw⟩ := (HW.out wr HBW.out).at_ (by omega)
        obtain ⟨x1, r1, r2⟩ := hcw i hia
        have HBAD : Hid (simpleB ts ws[i].2 = false → r = (false, 2)) := fun h => HFIT.out.symm.trans (fit_bad HNET.out i (by simpa using hia) (by rw [map_way_get]; exact h))
        have HSM : Hid (simpleB ts ws[i].2 = true → ∀ j (h : j < ws.length), j < i + 1 → simpleB ts ws[j].2 = true) := fun ht j h hj => if e : j = i then (by subst e; exact ht) else HALL.out j h (by omega)
        generalize ws[i] = v at x1 r1 r2 HBAD HSM
        obtain ⟨⟨vb, vc⟩, way⟩ := v
        simp only at x1 r1 r2 HBAD HSM
        have HR1 := Lib.hid r1
        have HR2 := Lib.hid r2
        have hi0 : (0 : Int) ≤ (i : Int) := by omega
        have hi1 : (i : Int) < (k : Int) := by omega
        have HBEL := Lib.hid hbel
        obtain ⟨wl, hwl⟩ : ∃ wl, way.length = wl := ⟨_, rfl⟩
        rw [hwl] at x1
        have HWL := Lib.hid hwl
        clear r1 r2 hbel hcw hwl
        go_wp2_with fail
        refine (l04Simple_any w.heap.size s a vb ts way n ca wl vc _ hn (HA.out _ HBW.out) hmax q0 q1 HWL HR1.out (by rw [← HWL.out]; exact HR2.out)).mono ?_
        rintro e w2 ⟨rfl, hb2⟩
        have B2 := Lib.hid (two_worldsC HBEL.out hb2)
        have C2 := Lib.hid (two_worldsC HBW.out hb2)
        clear hb2 q0 q1 x1
        cases hs : simpleB ts way with
        | true =>
          have HSM2 := Lib.hid (HSM.out hs)
          clear HBAD HSM hs
          go_wp2
          go_roundw
          case rel => exact ⟨i + 1, by omega, by go_num, B2.out, HSM2.out⟩
          case measure => simp [intOf]; omega
        | false =>
          have HT := Lib.hid (HBAD.out hs)
          clear HBAD HSM hs
          go_wp2
          go_ret2
          exact ⟨ret_bi HT.out, C2.out⟩
      · have HSA : Hid (∀ j (h : j < ws.length), simpleB ts ws[j].2 = true) := fun j h => HALL.out j h (by rw [hk.out] at h; omega)
        have HALLB : Hid ((ws.map (·.2)).all (simpleB ts) = true) := all_simple (fun j hj => by rw [map_way_get]; exact HSA.out j (by simpa using hj))
        have HB2 := Lib.hid hbel
        clear hbel q0 q1 HALL
        by_cases hlong : (20 : Int) < (k : Int)
        · have HT := Lib.hid (HFIT.out.symm.trans (fit_long HNET.out (by rw [List.length_map, hk.out]; omega)))
          go_wp2
          go_ret2
          exact ⟨ret_bi HT.out, HBW.out⟩
        · have HF2 := Lib.hid (HFIT.out.symm.trans (fit_pairs HNET.out HALLB.out (by rw [List.length_map, hk.out]; omega)))
          have XR := Lib.hid (BoxN.below X1.out HB2.out)
          obtain ⟨wo, hwo⟩ : ∃ wo, wo = wr := ⟨wr, rfl⟩
          subst hwo
          have SO : Hid (w.heap.size < wo.heap.size) := by have := HB2.out.size; have := S1.out; unfold Hid; omega
          clear HB2 B1 X1 S1 HFIT
          go_wp2
          go_loopw [7] (fun iv wr => ∃ i : Nat, i ≤ k ∧ iv = .int .i64 i ∧ Below wo.heap.size wo wr ∧ Hid (∀ q, q < i → ∀ p, p < q → firstC s ts ((ws.map (·.2)).getD p []) ((ws.map (·.2)).getD q []) < 0)) (fun iv _ => k - (intOf iv).toNat)
          case atStart => exact ⟨0, by omega, rfl, Below.refl _ _, fun q hq => by omega⟩
          case round =>
            obtain ⟨i, hi, rfl, hbel, HI⟩ := hrel
            by_cases hlt2 : i < k
            · have HBO := Lib.hid hbel
              obtain ⟨wi, hwi⟩ : ∃ wi, wi = wr := ⟨wr, rfl⟩
              subst hwi
              clear hbel
              go_wp2
              go_loopw [8] (fun iv wr => ∃ j : Nat, j ≤ i ∧ iv = .int .i64 j ∧ Below wi.heap.size wi wr ∧ Hid (∀ p, p < j → firstC s ts ((ws.map (·.2)).getD p []) ((ws.map (·.2)).getD i []) < 0)) (fun iv _ => i - (intOf iv).toNat)
              case atStart => exact ⟨0, by omega, rfl, Below.refl _ _, fun p hp => by omega⟩
              case round =>
                obtain ⟨j, hj, rfl, hbelj, HJ⟩ := hrel
                have HBJ := Lib.hid hbelj
                have HBOJ := Lib.hid (two_worldsC HBO.out hbelj)
                have HBWJ := Lib.hid (two_worldsC HBW.out HBOJ.out)
                clear hbelj
                by_cases hltj : j < i
                · have hia : i < ws.length := by rw [hk.out]; exact hlt2
                  have hja : j < ws.length := by omega
                  obtain ⟨bw, ow, rfl, hbw, hcw⟩ := (HW.out wr HBWJ.out).at_ (by omega)
                  obtain ⟨x1, r1, r2⟩ := hcw i hia
                  obtain ⟨y1, t1, t2⟩ := hcw j hja
                  have hsi := HSA.out i hia
                  have hsj := HSA.out j hja
                  have HYES : Hid (0 ≤ firstC s ts ws[j].2 ws[i].2 → r = (false, 0)) := fun h => by rw [HF2.out, pairs_no i j (by simpa using hia) hltj (by rw [getD_way _ _ hja, getD_way _ _ hia]; exact h)]
                  have HNO : Hid (firstC s ts ws[j].2 ws[i].2 < 0 → ∀ p, p < j + 1 → firstC s ts ((ws.map (·.2)).getD p []) ((ws.map (·.2)).getD i []) < 0) := fun ht p hp => if e : p = j then (by subst e; rw [getD_way _ _ hja, getD_way _ _ hia]; exact ht) else HJ.out p (by omega)
                  generalize ws[i] = v at x1 r1 r2 hsi HYES HNO
                  generalize ws[j] = u at y1 t1 t2 hsj HYES HNO
                  obtain ⟨⟨vb, vc⟩, wi1⟩ := v
                  obtain ⟨⟨ub, uc⟩, wj1⟩ := u
                  simp only at x1 r1 r2 hsi y1 t1 t2 hsj HYES HNO
                  have hi0 : (0 : Int) ≤ (i : Int) := by omega
                  have hi1 : (i : Int) < (k : Int) := by omega
                  have hj0 : (0 : Int) ≤ (j : Int) := by omega
                  have hj1 : (j : Int) < (k : Int) := by omega
                  obtain ⟨li, hli⟩ : ∃ wl, wi1.length = wl := ⟨_, rfl⟩
                  obtain ⟨lj, hlj⟩ : ∃ wl, wj1.length = wl := ⟨_, rfl⟩
                  rw [hli] at x1 r2
                  rw [hlj] at y1 t2
                  have HLI := Lib.hid hli
                  have HLJ := Lib.hid hlj
                  have HX := Lib.hid (And.intro x1 y1)
                  have HD : Hid (∀ W, Below wr.heap.size wr W → Calls Try.prog 62 #[.pointer (some ⟨w.heap.size, 0, none⟩), .slice ub lj uc, .slice vb li vc] W fun e w' => e = .returned (.int .i64 (firstC s ts wj1 wi1)) ∧ Below W.heap.size W w') := fun W h => by
                    obtain ⟨q0, q1⟩ := BoxN.below (BoxN.below XR.out HBOJ.out) h
                    exact l04Clash_any w.heap.size s a ub vb ts wj1 wi1 n ca lj uc li vc W hn (HA.out _ (two_worldsC HBWJ.out h)) q0 q1 HLJ (t1.below h) t2 HLI (r1.below h) r2 HNET.out hsj hsi
                  clear r1 t1 r2 t2 hsi hsj hcw hli hlj
                  have HBD : Hid (bw < wr.heap.size) := hbw
                  by_cases hneg : 0 ≤ firstC s ts wj1 wi1
                  · have HT := Lib.hid (HYES.out hneg)
                    clear HYES HNO
                    generalize firstC s ts wj1 wi1 = fc at hneg HD
                    go_wp2_with fail
                    go_region_held3 (fun w' => w'.cell? ⟨bw, ow + i, none⟩ = some (.slice vb li vc) ∧ w'.cell? ⟨bw, ow + j, none⟩ = some (.slice ub lj uc)) (first | exact ⟨x1, y1⟩ | exact ⟨(hb22.cell (p := ⟨bw, _, none⟩) (by exact HBD.out)).trans x1, (hb22.cell (p := ⟨bw, _, none⟩) (by exact HBD.out)).trans y1⟩) ((go_at_call 62; refine (HD.out _ ((by (repeat (first | exact Below.refl _ _ | refine Below.drew ?_ | refine Below.drewN' ?_ _ | refine Below.alloc ?_ (by first | (simp; done) | (simp; omega)) _ | refine Below.setCell ?_ (by first | (simp; done) | (simp; omega)) _)); done))).mono ?_; rintro e w22 ⟨rfl, hb22⟩))
                    all_goals
                      have D2 := Lib.hid (two_worldsC HBWJ.out (two_worldsC (show Below wr.heap.size wr wr.drew from (by (repeat (first | exact Below.refl _ _ | refine Below.drew ?_ | refine Below.drewN' ?_ _ | refine Below.alloc ?_ (by first | (simp; done) | (simp; omega)) _ | refine Below.setCell ?_ (by first | (simp; done) | (simp; omega)) _)); done)) hb22))
                      clear hb22
                      go_wp2
                      go_ret2
                      exact ⟨ret_bi HT.out, D2.out⟩
                  · have HT := Lib.hid (HNO.out (by omega))
                    clear HYES HNO
                    generalize firstC s ts wj1 wi1 = fc at hneg HD
                    go_wp2_with fail
                    go_region_held3 (fun w' => w'.cell? ⟨bw, ow + i, none⟩ = some (.slice vb li vc) ∧ w'.cell? ⟨bw, ow + j, none⟩ = some (.slice ub lj uc)) (first | exact ⟨x1, y1⟩ | exact ⟨(hb22.cell (p := ⟨bw, _, none⟩) (by exact HBD.out)).trans x1, (hb22.cell (p := ⟨bw, _, none⟩) (by exact HBD.out)).trans y1⟩) ((go_at_call 62; refine (HD.out _ ((by (repeat (first | exact Below.refl _ _ | refine Below.drew ?_ | refine Below.drewN' ?_ _ | refine Below.alloc ?_ (by first | (simp; done) | (simp; omega)) _ | refine Below.setCell ?_ (by first | (simp; done) | (simp; omega)) _)); done))).mono ?_; rintro e w22 ⟨rfl, hb22⟩))
                    all_goals
                      have D2 := Lib.hid (two_worldsC HBJ.out (two_worldsC (show Below wr.heap.size wr wr.drew from (by (repeat (first | exact Below.refl _ _ | refine Below.drew ?_ | refine Below.drewN' ?_ _ | refine Below.alloc ?_ (by first | (simp; done) | (simp; omega)) _ | refine Below.setCell ?_ (by first | (simp; done) | (simp; omega)) _)); done)) hb22))
                      clear hb22
                      go_wp2
                      go_roundw
                      case rel => exact ⟨j + 1, by omega, by go_num, D2.out, HT.out⟩
                      case measure => simp [intOf]; omega
                · have e : j = i := by omega
                  subst e
                  have HI2 : Hid (∀ q, q < j + 1 → ∀ p, p < q → firstC s ts ((ws.map (·.2)).getD p []) ((ws.map (·.2)).getD q []) < 0) := fun q hq => if e : q = j then (by subst e; exact HJ.out) else HI.out q (by omega)
                  go_wp2
                  go_roundw
                  case rel => exact ⟨j + 1, by omega, by go_num, HBOJ.out, HI2.out⟩
                  case measure => simp [intOf]; omega
            · have HT : Hid (r = (true, 0)) := by unfold Hid; rw [HF2.out, pairs_yes (fun q hq p hp => HI.out q (by rw [List.length_map, hk.out] at hq; omega) p hp)]
              have D2 := Lib.hid (two_worldsC HBW.out hbel)
              clear hbel
              go_wp2
              go_ret2
              exact ⟨ret_bi HT.out, D2.out⟩
end Go.Proofs.Ytenjigifjkfiaaa
