/-
  WaysFit: the program's walk.
-/
import Derived.Test.YtenjigifjkfiaaaFitMath
import Derived.Test.YtenjigifjkfiaaaClashImpl
namespace Go.Proofs.Ytenjigifjkfiaaa
open Go.RowKit

theorem waysCode_map (ts : List T3) (ws : List WayV) : waysCode ts ws = if (ws.map (·.2)).all (simpleB ts) = true then 0 else 2 := by
  unfold waysCode; rw [List.all_map]; rfl
theorem checkWays_at (v : Int) (s : Int) (a aw : Option Addr) (ts : List T3) (ws : List WayV) (n ca k cw : Nat) (hv : (if (ws.map (·.2)).all (simpleB ts) = true then (0 : Int) else 2) = v) (w : World) (hn : Hid (ts.length = n)) (ha : RT w a ts) (hmax : n ≤ 1048576) (hnet : netB s ts = true) (hk : Hid (ws.length = k)) (hk1 : k ≤ 1048576) (hw : RWays w aw ws) :
    Calls Try.prog 44 #[.int .i64 0, .agg #[.int .i64 s, .slice a n ca], .slice aw k cw] w fun e w' => e = .returned (.int .i64 v) ∧ Below w.heap.size w w' := by
  rw [← hv, ← waysCode_map]
  exact checkWays_any s a aw ts ws n ca k cw w hn ha hmax hnet hk hk1 hw
theorem checkStationsF_at (v : Int) (s : Int) (a : Option Addr) (ts : List T3) (n ca : Nat) (hv : codeOf s ts [] = v) (w : World) (hn : Hid (ts.length = n)) (ha : RT w a ts) (hmax : n ≤ 1048576) :
    Calls Try.prog 51 #[.agg #[.int .i64 s, .slice a n ca], .slice none 0 0] w fun e w' => e = .returned (.int .i64 v) ∧ Below w.heap.size w w' := by
  rw [← hv]
  exact checkStations0_any s a none ts n ca 0 w hn ha hmax

set_option maxHeartbeats 4000000 in
theorem implWaysFit_any (s : Int) (a aw : Option Addr) (ts : List T3) (ws : List WayV) (n ca k : Nat) (w : World) (hn : Hid (ts.length = n)) (ha : RT w a ts) (hmax : n ≤ 1048576) (hk : Hid (ws.length = k)) (hk1 : k ≤ 1048576) (hw : RWays w aw ws) :
    Calls Try.prog 37 #[.agg #[.int .i64 s, .slice a n ca], .slice aw k k] w fun e w' => e = .returned (.tuple #[.bool (fitOf s ts (ws.map (·.2))).1, .int .i64 (fitOf s ts (ws.map (·.2))).2]) ∧ Below w.heap.size w w' := by
  obtain ⟨r, hr⟩ : ∃ r, fitOf s ts (ws.map (·.2)) = r := ⟨_, rfl⟩
  have HFIT := Lib.hid hr
  rw [hr]
  clear hr
  have HA : Hid (∀ w', Below w.heap.size w w' → RT w' a ts) := fun w' h => ha.below h
  have HW : Hid (∀ w', Below w.heap.size w w' → RWays w' aw ws) := fun w' h => hw.below h
  have NB : Hid (Below w.heap.size w (w.alloc (.cells #[.int .i64 s, .slice a n ca] 26))) := (by repeat (first | exact Below.refl _ _ | refine Below.alloc ?_ (by simp; try omega) _ | refine Below.setCell ?_ (by simp; try omega) _))
  have NX : Hid (BoxN (w.alloc (.cells #[.int .i64 s, .slice a n ca] 26)) w.heap.size s (.slice a n ca)) := ⟨by simp [go_sem], by simp [go_sem]⟩
  have HNB : Hid (∀ w', Below (w.alloc (.cells #[.int .i64 s, .slice a n ca] 26)).heap.size (w.alloc (.cells #[.int .i64 s, .slice a n ca] 26)) w' → Below w.heap.size w w') := fun w' h => Below.trans NB.out (h.mono (by simp))
  have CS : Hid (∀ v, codeOf s ts [] = v → ∀ W, Below w.heap.size w W → Calls Try.prog 51 #[.agg #[.int .i64 s, .slice a n ca], .slice none 0 0] W fun e w' => e = .returned (.int .i64 v) ∧ Below W.heap.size W w') := fun v hv W h => checkStationsF_at v s a ts n ca hv W hn (HA.out _ h) hmax
  clear ha hw
  obtain ⟨p0, p1⟩ := NX.out
  cases hv : netB s ts with
  | false =>
    have HR := Lib.hid (HFIT.out.symm.trans (fit_net hv))
    have CS1 := CS.out 1 (codeOf_inv hv)
    clear hv CS
    go_enter Try.func37, Try.ntmps37
    go_wp2_with fail
    refine (CS1 _ NB.out).mono ?_
    rintro e w1 ⟨rfl, hb1⟩
    have B1 := Lib.hid (HNB.out _ hb1)
    obtain ⟨q0, q1⟩ := BoxN.below NX.out hb1
    clear hb1 p0 p1
    go_wp2_with fail
    refine (checkWaysBad_any 1 s a aw n ca k k _ (by decide)).mono ?_
    rintro e w2 ⟨rfl, hb2⟩
    have B2 := Lib.hid (two_worldsC B1.out hb2)
    clear hb2 q0 q1
    go_wp2
    go_ret2
    exact ⟨ret_bi HR.out, B2.out⟩
  | true =>
    have HNET := Lib.hid hv
    have CS1 := CS.out 0 (codeOf_ok hv (fun k hk => absurd hk (by simp)))
    clear hv CS
    by_cases hlong : (20 : Int) < (k : Int)
    · have HR := Lib.hid (HFIT.out.symm.trans (fit_long HNET.out (by rw [List.length_map, hk.out]; omega)))
      go_enter Try.func37, Try.ntmps37
      go_wp2_with fail
      refine (CS1 _ NB.out).mono ?_
      rintro e w1 ⟨rfl, hb1⟩
      have B1 := Lib.hid (HNB.out _ hb1)
      obtain ⟨q0, q1⟩ := BoxN.below NX.out hb1
      clear hb1 p0 p1
      go_wp2_with fail
      refine (checkWaysBad_any 2 s a aw n ca k k _ (by decide)).mono ?_
      rintro e w2 ⟨rfl, hb2⟩
      have B2 := Lib.hid (two_worldsC B1.out hb2)
      clear hb2 q0 q1
      go_wp2
      go_ret2
      exact ⟨ret_bi HR.out, B2.out⟩
    · cases hall : (ws.map (·.2)).all (simpleB ts) with
      | false =>
        have HR := Lib.hid (HFIT.out.symm.trans (fit_bad' HNET.out hall))
        have CW : Hid (∀ W, Below w.heap.size w W → Calls Try.prog 44 #[.int .i64 0, .agg #[.int .i64 s, .slice a n ca], .slice aw k k] W fun e w' => e = .returned (.int .i64 2) ∧ Below W.heap.size W w') := fun W h => checkWays_at 2 s a aw ts ws n ca k k (by rw [hall]; rfl) W hn (HA.out _ h) hmax HNET.out hk hk1 (HW.out _ h)
        clear hall
        go_enter Try.func37, Try.ntmps37
        go_wp2_with fail
        refine (CS1 _ NB.out).mono ?_
        rintro e w1 ⟨rfl, hb1⟩
        have B1 := Lib.hid (HNB.out _ hb1)
        obtain ⟨q0, q1⟩ := BoxN.below NX.out hb1
        clear hb1 p0 p1
        go_wp2_with fail
        refine (CW.out _ B1.out).mono ?_
        rintro e w2 ⟨rfl, hb2⟩
        have B2 := Lib.hid (two_worldsC B1.out hb2)
        clear hb2 q0 q1
        go_wp2
        go_ret2
        exact ⟨ret_bi HR.out, B2.out⟩
      | true =>
        have HF2 := Lib.hid (HFIT.out.symm.trans (fit_pairs HNET.out hall (by rw [List.length_map, hk.out]; omega)))
        have CW : Hid (∀ W, Below w.heap.size w W → Calls Try.prog 44 #[.int .i64 0, .agg #[.int .i64 s, .slice a n ca], .slice aw k k] W fun e w' => e = .returned (.int .i64 0) ∧ Below W.heap.size W w') := fun W h => checkWays_at 0 s a aw ts ws n ca k k (by rw [hall]; rfl) W hn (HA.out _ h) hmax HNET.out hk hk1 (HW.out _ h)
        have HSA : Hid (∀ j (h : j < ws.length), simpleB ts ws[j].2 = true) := fun j h => by
          rw [List.all_eq_true] at hall
          exact hall _ (List.mem_map.2 ⟨ws[j], List.getElem_mem h, rfl⟩)
        clear hall HFIT
        go_enter Try.func37, Try.ntmps37
        go_wp2_with fail
        refine (CS1 _ NB.out).mono ?_
        rintro e w1 ⟨rfl, hb1⟩
        have B1 := Lib.hid (HNB.out _ hb1)
        have X1 := Lib.hid (BoxN.below NX.out hb1)
        obtain ⟨q0, q1⟩ := X1.out
        clear hb1 p0 p1 CS1 NX HNB NB
        go_wp2_with fail
        refine (CW.out _ B1.out).mono ?_
        rintro e w2 ⟨rfl, hb2⟩
        have B2 := Lib.hid (two_worldsC B1.out hb2)
        have X2 := Lib.hid (BoxN.below X1.out hb2)
        clear hb2 q0 q1 X1 B1 CW
        go_wp2
        go_loopw [31] (fun iv wr => ∃ i : Nat, i ≤ k ∧ iv = .int .i64 i ∧ Below w2.heap.size w2 wr ∧ Hid (∀ p, p < i → ∀ q, p < q → q < k → firstC s ts ((ws.map (·.2)).getD p []) ((ws.map (·.2)).getD q []) < 0)) (fun iv _ => k - (intOf iv).toNat)
        case atStart => exact ⟨0, by omega, rfl, Below.refl _ _, fun q hq => by omega⟩
        case round =>
          obtain ⟨i, hi, rfl, hbel, HI⟩ := hrel
          have HBO := Lib.hid hbel
          have HBW := Lib.hid (two_worldsC B2.out hbel)
          obtain ⟨wi, hwi⟩ : ∃ wi, wi = wr := ⟨wr, rfl⟩
          subst hwi
          clear hbel
          by_cases hlt : i < k
          · have hia : i < ws.length := by rw [hk.out]; exact hlt
            obtain ⟨bw, ow, rfl, hbw, hcw⟩ := (HW.out wi HBW.out).at_ (by omega)
            obtain ⟨x1, r1, r2⟩ := hcw i hia
            have hsi := HSA.out i hia
            have HWI : Hid (ws[i].2 = (ws.map (·.2)).getD i []) := by unfold Hid; rw [getD_way _ _ hia]
            generalize ws[i] = v at x1 r1 r2 hsi HWI
            obtain ⟨⟨vb, vc⟩, wi1⟩ := v
            simp only at x1 r1 r2 hsi HWI
            have HSI := Lib.hid hsi
            have HRI1 := Lib.hid r1
            obtain ⟨li, hli⟩ : ∃ wl, wi1.length = wl := ⟨_, rfl⟩
            rw [hli] at x1 r2
            have HLI := Lib.hid hli
            have HCW := Lib.hid hcw
            have hi0 : (0 : Int) ≤ (i : Int) := by omega
            have hi1 : (i : Int) < (k : Int) := by omega
            clear r1 hcw hli hsi
            by_cases hz : k = i + 1
            · have HI2 : Hid (∀ p, p < i + 1 → ∀ q, p < q → q < i + 1 → firstC s ts ((ws.map (·.2)).getD p []) ((ws.map (·.2)).getD q []) < 0) := fun p hp q h1 h2 => HI.out p (by omega) q h1 (by omega)
              go_wp2
              go_loopw [41] (fun iv wr => ∃ j : Nat, j ≤ k - (i + 1) ∧ iv = .int .i64 j ∧ Below wi.heap.size wi wr) (fun iv _ => k - (i + 1) - (intOf iv).toNat)
              case atStart => exact ⟨0, by omega, rfl, Below.refl _ _⟩
              case round =>
                obtain ⟨j, hj, rfl, hbelj⟩ := hrel
                have hnb : ¬ ((j : Int) < ((k - (i + 1) : Nat) : Int)) := by omega
                have D2 := Lib.hid (two_worldsC HBO.out hbelj)
                clear hbelj
                go_wp2
                go_roundw
                case rel => exact ⟨_, _, _, _, _, _, _, .int .i64 ((i + 1 : Nat) : Int), ⟨i + 1, by omega, rfl, D2.out, Lib.hid (by have := HI2.out; simpa using this)⟩, rfl, rfl, rfl, rfl, rfl, rfl, rfl, by go_num⟩
                case measure => first | (simp [intOf]; done) | (simp [intOf]; omega)
            · have hz2 : i + 1 < k := by omega
              go_wp2
              go_loopw [41] (fun iv wr => ∃ j : Nat, j ≤ k - (i + 1) ∧ iv = .int .i64 j ∧ Below wi.heap.size wi wr ∧ Hid (∀ q, i < q → q < i + 1 + j → firstC s ts ((ws.map (·.2)).getD i []) ((ws.map (·.2)).getD q []) < 0)) (fun iv _ => k - (i + 1) - (intOf iv).toNat)
              case atStart => exact ⟨0, by omega, rfl, Below.refl _ _, fun p hp => by omega⟩
              case round =>
                obtain ⟨j, hj, rfl, hbelj, HJ⟩ := hrel
                have HBJ := Lib.hid hbelj
                have HBOJ := Lib.hid (two_worldsC HBO.out hbelj)
                have HBWJ := Lib.hid (two_worldsC HBW.out hbelj)
                clear hbelj
                by_cases hltj : j < k - (i + 1)
                · have hja : i + 1 + j < ws.length := by rw [hk.out]; omega
                  obtain ⟨y1, t1, t2⟩ := HCW.out (i + 1 + j) hja
                  rw [← HBJ.out.cell (p := ⟨bw, _, none⟩) hbw, show ow + (i + 1 + j) = ow + (i + 1) + j by omega] at y1
                  replace t1 := RI.below t1 HBJ.out
                  have hsj := HSA.out (i + 1 + j) hja
                  have HYES : Hid (0 ≤ firstC s ts wi1 ws[i + 1 + j].2 → r = (false, 0)) := fun h => by rw [HF2.out, pairs_no (i + 1 + j) i (by simpa using hja) (by omega) (by rw [← HWI.out, getD_way _ _ hja]; exact h)]
                  have HNO : Hid (firstC s ts wi1 ws[i + 1 + j].2 < 0 → ∀ q, i < q → q < i + 1 + (j + 1) → firstC s ts ((ws.map (·.2)).getD i []) ((ws.map (·.2)).getD q []) < 0) := fun ht q h1 h2 => if e : q = i + 1 + j then (by subst e; rw [← HWI.out, getD_way _ _ hja]; exact ht) else HJ.out q h1 (by omega)
                  generalize ws[i + 1 + j] = u at y1 t1 t2 hsj HYES HNO
                  obtain ⟨⟨ub, uc⟩, wj1⟩ := u
                  simp only at y1 t1 t2 hsj HYES HNO
                  obtain ⟨lj, hlj⟩ : ∃ wl, wj1.length = wl := ⟨_, rfl⟩
                  rw [hlj] at y1 t2
                  have HLJ := Lib.hid hlj
                  have hj0 : (0 : Int) ≤ (j : Int) := by omega
                  have hj1 : (j : Int) < ((k - (i + 1) : Nat) : Int) := by omega
                  obtain ⟨q0, q1⟩ := BoxN.below X2.out HBOJ.out
                  have HD := firstClash_any s a vb ub ts wi1 wj1 n ca li vc lj uc wr hn (HA.out _ HBWJ.out) HLI (RI.below HRI1.out HBJ.out) r2 HLJ t1 t2 HNET.out HSI.out hsj
                  have HGE := firstC_ge s ts wi1 wj1
                  clear t1 hsj hlj
                  go_wp2_with fail
                  refine HD.mono ?_
                  rintro e w3 ⟨rfl, hb3⟩
                  have D3 := Lib.hid (two_worldsC HBWJ.out hb3)
                  have E3 := Lib.hid (two_worldsC HBJ.out hb3)
                  clear hb3 q0 q1 y1 HD
                  by_cases hcl : firstC s ts wi1 wj1 = -1
                  · have HE : clashRes s ts wi1 wj1 = (0, false) := by unfold clashRes; rw [if_pos hcl]
                    have HN2 := Lib.hid (HNO.out (by omega))
                    rw [HE]
                    clear HE hcl HYES HNO HGE
                    go_wp2
                    go_roundw
                    case rel => exact ⟨j + 1, by omega, by go_num, E3.out, HN2.out⟩
                    case measure => simp [intOf]; omega
                  · have HE : clashRes s ts wi1 wj1 = (firstC s ts wi1 wj1, true) := by unfold clashRes; rw [if_neg hcl]
                    have HT := Lib.hid (HYES.out (by omega))
                    rw [HE]
                    clear HE hcl HYES HNO HGE
                    go_wp2
                    go_ret2
                    exact ⟨ret_bi HT.out, D3.out⟩
                · have HI2 : Hid (∀ p, p < i + 1 → ∀ q, p < q → q < k → firstC s ts ((ws.map (·.2)).getD p []) ((ws.map (·.2)).getD q []) < 0) := fun p hp q h1 h2 => if e : p = i then (by subst e; exact HJ.out q h1 (by omega)) else HI.out p (by omega) q h1 h2
                  go_wp2
                  go_roundw
                  case rel => exact ⟨i + 1, by omega, by go_num, HBOJ.out, HI2.out⟩
                  case measure => simp [intOf]; omega
          · have HT : Hid (r = (true, 0)) := by unfold Hid; rw [HF2.out, pairs_yes (fun q hq p hp => HI.out p (by rw [List.length_map, hk.out] at hq; omega) q hp (by rw [List.length_map, hk.out] at hq; omega))]
            go_wp2
            go_ret2
            exact ⟨ret_bi HT.out, HBW.out⟩
end Go.Proofs.Ytenjigifjkfiaaa
