/-
  The walk of the law FnSeals: it returns true at every input.
-/
import Derived.Test.YtabopjdcpllocaaDraw12
import Derived.Test.YtabopjdcpllocaaWorn
import Derived.Test.YtabopjdcpllocaaNextC
import Derived.Test.YtabopjdcpllocaaCost2
import Derived.Test.YtabopjdcpllocaaSealMath
import Derived.Deep.RegionHeld3
import Derived.Laws.StructEq
namespace Go.Proofs.Ytabopjdcpllocaa.fnSeals
open Go.RowKit

theorem neqSeal (t u : TSeal) (w : World) : (binOp .neq 54 (.agg #[.int .i64 t.1, .int .i64 t.2]) (.agg #[.int .i64 u.1, .int .i64 u.2])).run Try.prog w = .ok (.bool (!(t == u))) w := by
  obtain ⟨t1, t2⟩ := t
  obtain ⟨u1, u2⟩ := u
  have hS : Try.prog.underlying 54 = some (.struct (Try.prog.fieldsOf 54)) := by kernel_rfl
  have hp : Try.prog.stoodInHeld 54 = false := by kernel_rfl
  rw [run_neq_struct, run_equalIn_struct w 9999 _ _ _ hS hp]
  simp only [Program.fieldsOf, Try.underlying54]
  by_cases h1 : t1 = u1 <;> by_cases h2 : t2 = u2 <;> simp [go_sem, h1, h2]
attribute [local go_sem ↓] neqSeal

set_option maxRecDepth 100000 in
set_option maxHeartbeats 32000000 in
theorem walk {w : World} (v0 : Value) (x0 : Unit) (hw0 : CodeArg w v0 x0) :
    Calls Try.prog 8 #[v0] w fun e w' => e = .returned (.bool true) ∧ Below w.heap.size w w' := by
  obtain ⟨_, a, n, c, rfl, hn, hc⟩ := hw0
  have HC : Hid (∀ W, Below w.heap.size w W → CodeIn W.heap.size a n W) := fun W hB => hc.later hB
  clear hc
  by_cases hbig : 4096 < n
  · have FB := f6big_any a n c w hn
    rw [decide_eq_true hbig] at FB
    go_enter Try.func8, Try.ntmps8
    go_wp2_with (go_at_call 27; refine FB.mono ?_; rintro e w' ⟨rfl, rfl⟩)
    go_ret
    exact ⟨rfl, Below.refl _ _⟩
  have FB := f6big_any a n c w hn
  rw [decide_eq_false hbig] at FB
  have hs1 : n ≤ 4096 := by omega
  clear hbig
  have BB : Hid (Below w.heap.size w w) := Below.refl _ _
  go_enter Try.func8, Try.ntmps8
  go_wp2_with (go_at_call 27; refine FB.mono ?_; rintro e w' ⟨rfl, rfl⟩)
  clear FB
  refine (drawRunCarrier_any a n c _ (HC.out _ BB.out) hs1).mono ?_
  rintro e w1 ⟨ts, b1, n1, c1, kk, rfl, hn1, hn61, WFS, hkw, hbx, ho⟩
  have FS : Hid (RR 2 cSeal w1 (some ⟨b1, 0, none⟩) ts) := own_RR cSeal_len hn1 ho
  replace BB := Lib.hid (two_worlds BB.out hbx)
  have hs61 : n1 ≤ 1048576 := by omega
  clear hbx ho
  obtain ⟨rl, rc, hres⟩ : ∃ rl rc, runCar ts kk = (rl, rc) := ⟨_, _, rfl⟩
  have RES := Lib.hid hres
  obtain ⟨m1, hm1⟩ : ∃ m1, rl.length = m1 := ⟨_, rfl⟩
  have HM1 := Lib.hid hm1
  have hmb1 : m1 ≤ 61 := by have := runCar_few ts kk; rw [hres] at this; dsimp only at this; rw [hm1, hn1.out] at this; omega
  clear hres hm1
  go_wp2_with fail
  refine (implRunCarrier_any _ ts hn1 FS.out hs61 WFS kk hkw).mono ?_
  intro e w2 hgv
  rw [RES.out] at hgv
  obtain ⟨hbx, vx, rfl, ho⟩ := hgv
  dsimp only at ho
  obtain ⟨ax, cx, rfl⟩ := own_shape ho.1
  rw [HM1.out] at ho ⊢
  replace FS := Lib.hid (FS.out.below hbx)
  replace BB := Lib.hid (two_worlds BB.out hbx)
  have FX : Hid (RR 2 cSeal w2 ax rl) := own_RR cSeal_len HM1 ho.1
  clear hbx ho
  go_wp2_with fail
  refine (specRunCarrier_any _ ts hn1 FS.out hs61 WFS kk hkw).mono ?_
  intro e w3 hgv
  rw [RES.out] at hgv
  obtain ⟨hbx, vm, rfl, ho⟩ := hgv
  dsimp only at ho
  obtain ⟨am, cm, rfl⟩ := own_shape ho.1
  rw [HM1.out] at ho ⊢
  replace FS := Lib.hid (FS.out.below hbx)
  replace FX := Lib.hid (FX.out.below hbx)
  replace BB := Lib.hid (two_worlds BB.out hbx)
  have FM : Hid (RR 2 cSeal w3 am rl) := own_RR cSeal_len HM1 ho.1
  clear hbx ho
  obtain ⟨nx, nc, hres⟩ : ∃ nx nc, nextOf ts = (nx, nc) := ⟨_, _, rfl⟩
  have NES := Lib.hid hres
  clear hres
  go_wp2_with fail
  refine (implNextCarrier_any _ ts hn1 FS.out hs61 WFS).mono ?_
  rintro e w4 ⟨rfl, hbx⟩
  replace FS := Lib.hid (FS.out.below hbx)
  replace FX := Lib.hid (FX.out.below hbx)
  replace FM := Lib.hid (FM.out.below hbx)
  replace BB := Lib.hid (two_worlds BB.out hbx)
  clear hbx
  rw [NES.out]
  dsimp only
  go_wp2_with fail
  refine (specNextCarrier_any _ ts hn1 FS.out hs61 WFS).mono ?_
  rintro e w5 ⟨rfl, hbx⟩
  replace FS := Lib.hid (FS.out.below hbx)
  replace FX := Lib.hid (FX.out.below hbx)
  replace FM := Lib.hid (FM.out.below hbx)
  replace BB := Lib.hid (two_worlds BB.out hbx)
  clear hbx
  rw [NES.out]
  dsimp only
  obtain ⟨wl, wc', hres⟩ : ∃ wl wc, wornOf ts = (wl, wc) := ⟨_, _, rfl⟩
  have WES := Lib.hid hres
  obtain ⟨m2, hm2⟩ : ∃ m2, wl.length = m2 := ⟨_, rfl⟩
  have HM2 := Lib.hid hm2
  have hmb2 : m2 ≤ 61 := by have := wornOf_few ts; rw [hres] at this; dsimp only at this; rw [hm2, hn1.out] at this; omega
  clear hres hm2
  go_wp2_with fail
  refine (implWornSeals_any _ ts hn1 FS.out hs61 WFS).mono ?_
  intro e w6 hgv
  rw [WES.out] at hgv
  obtain ⟨hbx, vp, rfl, ho⟩ := hgv
  dsimp only at ho
  obtain ⟨ap, cp, rfl⟩ := own_shape ho.1
  rw [HM2.out] at ho ⊢
  replace FS := Lib.hid (FS.out.below hbx)
  replace FX := Lib.hid (FX.out.below hbx)
  replace FM := Lib.hid (FM.out.below hbx)
  replace BB := Lib.hid (two_worlds BB.out hbx)
  have FW : Hid (RI w6 ap wl) := rowI_RI HM2 ho.1
  clear hbx ho
  go_wp2_with fail
  refine (specWornSeals_any _ ts hn1 FS.out hs61 WFS).mono ?_
  intro e w7 hgv
  rw [WES.out] at hgv
  obtain ⟨hbx, vq, rfl, ho⟩ := hgv
  dsimp only at ho
  obtain ⟨aq, cq, rfl⟩ := own_shape ho.1
  rw [HM2.out] at ho ⊢
  replace FS := Lib.hid (FS.out.below hbx)
  replace FX := Lib.hid (FX.out.below hbx)
  replace FM := Lib.hid (FM.out.below hbx)
  replace FW := Lib.hid (FW.out.below hbx)
  replace BB := Lib.hid (two_worlds BB.out hbx)
  have FG : Hid (RI w7 aq wl) := rowI_RI HM2 ho.1
  clear hbx ho
  obtain ⟨rs, sc, hres⟩ : ∃ rs sc, runsLeft ts = (rs, sc) := ⟨_, _, rfl⟩
  have LES := Lib.hid hres
  clear hres
  go_wp2_with fail
  refine (implRunsLeft_any _ ts hn1 FS.out hs61 WFS).mono ?_
  rintro e w8 ⟨rfl, hbx⟩
  replace FS := Lib.hid (FS.out.below hbx)
  replace FX := Lib.hid (FX.out.below hbx)
  replace FM := Lib.hid (FM.out.below hbx)
  replace FW := Lib.hid (FW.out.below hbx)
  replace FG := Lib.hid (FG.out.below hbx)
  replace BB := Lib.hid (two_worlds BB.out hbx)
  clear hbx
  rw [LES.out]
  dsimp only
  go_wp2_with fail
  refine (specRunsLeft_any _ ts hn1 FS.out hs61 WFS).mono ?_
  rintro e w9 ⟨rfl, hbx⟩
  replace FS := Lib.hid (FS.out.below hbx)
  replace FX := Lib.hid (FX.out.below hbx)
  replace FM := Lib.hid (FM.out.below hbx)
  replace FW := Lib.hid (FW.out.below hbx)
  replace FG := Lib.hid (FG.out.below hbx)
  replace BB := Lib.hid (two_worlds BB.out hbx)
  clear hbx
  rw [LES.out]
  dsimp only
  go_wp2_with fail
  refine (drawSendCarriers_any a n c _ (HC.out _ BB.out) hs1).mono ?_
  rintro e w10 ⟨sk, b2, n2, c2, mv, rfl, hn2, hn11, WFK, hmw, hbx, FL⟩
  replace FS := Lib.hid (FS.out.below hbx)
  replace FX := Lib.hid (FX.out.below hbx)
  replace FM := Lib.hid (FM.out.below hbx)
  replace FW := Lib.hid (FW.out.below hbx)
  replace FG := Lib.hid (FG.out.below hbx)
  replace BB := Lib.hid (two_worlds BB.out hbx)
  replace FL := Lib.hid FL
  have WFM := Lib.hid hmw
  have hs11 : n2 ≤ 1048576 := by omega
  clear hbx hmw
  obtain ⟨sl, sd, hres⟩ : ∃ sl sd, sendOf sk mv = (sl, sd) := ⟨_, _, rfl⟩
  have SES := Lib.hid hres
  obtain ⟨m3, hm3⟩ : ∃ m3, sl.length = m3 := ⟨_, rfl⟩
  have HM3 := Lib.hid hm3
  have hmb3 : m3 ≤ 11 := by have := sendOf_few11 sk mv; rw [hres] at this; dsimp only at this; rw [hm3, hn2.out] at this; omega
  clear hres hm3
  obtain ⟨mf, mt, mx⟩ := mv
  dsimp only at SES ⊢
  have hbx : Below w10.heap.size w10 (w10.alloc (.cells #[.int .i64 mf, .int .i64 mt, .int .i64 mx] 44)) := (by repeat (first | exact Below.refl _ _ | refine Below.alloc ?_ (by simp; try omega) _ | refine Below.setCell ?_ (by simp; try omega) _))
  have BX := Lib.hid (Box.alloc w10 [.int .i64 mf, .int .i64 mt, .int .i64 mx] 44)
  replace FS := Lib.hid (FS.out.below hbx)
  replace FX := Lib.hid (FX.out.below hbx)
  replace FM := Lib.hid (FM.out.below hbx)
  replace FW := Lib.hid (FW.out.below hbx)
  replace FG := Lib.hid (FG.out.below hbx)
  replace FL := Lib.hid (FL.out.below hbx)
  replace BB := Lib.hid (two_worlds BB.out hbx)
  clear hbx
  have pc := BX.out.2
  have pc_0 := pc 0 _ rfl
  have pc_1 := pc 1 _ rfl
  have pc_2 := pc 2 _ rfl
  clear pc
  go_wp2_with fail
  refine (implSendCarriers_any _ sk hn2 FL.out hs11 WFK (mf, mt, mx) WFM).mono ?_
  intro e w11 hgv
  rw [SES.out] at hgv
  obtain ⟨hbx, vy, rfl, ho⟩ := hgv
  dsimp only at ho
  obtain ⟨ay, cy, rfl⟩ := own_shape ho.1
  rw [HM3.out] at ho ⊢
  replace FS := Lib.hid (FS.out.below hbx)
  replace FX := Lib.hid (FX.out.below hbx)
  replace FM := Lib.hid (FM.out.below hbx)
  replace FW := Lib.hid (FW.out.below hbx)
  replace FG := Lib.hid (FG.out.below hbx)
  replace FL := Lib.hid (FL.out.below hbx)
  replace BX := Lib.hid (BX.out.below hbx)
  replace BB := Lib.hid (two_worlds BB.out hbx)
  have FY : Hid (RI w11 ay sl) := rowI_RI HM3 ho.1
  clear hbx ho
  clear pc_0 pc_1 pc_2
  have pc := BX.out.2
  have pc_0 := pc 0 _ rfl
  have pc_1 := pc 1 _ rfl
  have pc_2 := pc 2 _ rfl
  clear pc
  go_wp2_with fail
  refine (specSendCarriers_any _ sk hn2 FL.out hs11 WFK (mf, mt, mx) WFM).mono ?_
  intro e w12 hgv
  rw [SES.out] at hgv
  obtain ⟨hbx, vz, rfl, ho⟩ := hgv
  dsimp only at ho
  obtain ⟨az, cz, rfl⟩ := own_shape ho.1
  rw [HM3.out] at ho ⊢
  replace FS := Lib.hid (FS.out.below hbx)
  replace FX := Lib.hid (FX.out.below hbx)
  replace FM := Lib.hid (FM.out.below hbx)
  replace FW := Lib.hid (FW.out.below hbx)
  replace FG := Lib.hid (FG.out.below hbx)
  replace FL := Lib.hid (FL.out.below hbx)
  replace BX := Lib.hid (BX.out.below hbx)
  replace FY := Lib.hid (FY.out.below hbx)
  replace BB := Lib.hid (two_worlds BB.out hbx)
  have FZ : Hid (RI w12 az sl) := rowI_RI HM3 ho.1
  clear hbx ho
  clear pc_0 pc_1 pc_2
  go_wp2_with fail
  refine (drawCostOfMoves_any a n c _ (HC.out _ BB.out) hs1).mono ?_
  rintro e w13 ⟨tm, b3, n3, c3, cs, b4, o4, n4, c4, rfl, hn3, hn41, WFT, hn4, hn4b, WFC, hbx, FT, FC⟩
  replace FS := Lib.hid (FS.out.below hbx)
  replace FX := Lib.hid (FX.out.below hbx)
  replace FM := Lib.hid (FM.out.below hbx)
  replace FW := Lib.hid (FW.out.below hbx)
  replace FG := Lib.hid (FG.out.below hbx)
  replace FL := Lib.hid (FL.out.below hbx)
  replace BX := Lib.hid (BX.out.below hbx)
  replace FY := Lib.hid (FY.out.below hbx)
  replace FZ := Lib.hid (FZ.out.below hbx)
  replace BB := Lib.hid (two_worlds BB.out hbx)
  replace FT := Lib.hid FT
  replace FC := Lib.hid FC
  have hs41 : n3 ≤ 1048576 := by omega
  have hs4b : n4 ≤ 1048576 := by omega
  clear hbx
  obtain ⟨cv, cc, hres⟩ : ∃ cv cc, costOf tm cs = (cv, cc) := ⟨_, _, rfl⟩
  have CES := Lib.hid hres
  clear hres
  go_wp2_with fail
  refine (implCostOfMoves_any _ tm hn3 FT.out hs41 WFT cs hn4 FC.out hs4b WFC).mono ?_
  rintro e w14 ⟨rfl, hbx⟩
  replace FS := Lib.hid (FS.out.below hbx)
  replace FX := Lib.hid (FX.out.below hbx)
  replace FM := Lib.hid (FM.out.below hbx)
  replace FW := Lib.hid (FW.out.below hbx)
  replace FG := Lib.hid (FG.out.below hbx)
  replace FL := Lib.hid (FL.out.below hbx)
  replace BX := Lib.hid (BX.out.below hbx)
  replace FY := Lib.hid (FY.out.below hbx)
  replace FZ := Lib.hid (FZ.out.below hbx)
  replace FT := Lib.hid (FT.out.below hbx)
  replace FC := Lib.hid (FC.out.below hbx)
  replace BB := Lib.hid (two_worlds BB.out hbx)
  clear hbx
  rw [CES.out]
  dsimp only
  go_wp2_with fail
  refine (specCostOfMoves_any _ tm hn3 FT.out hs41 WFT cs hn4 FC.out hs4b WFC).mono ?_
  rintro e w15 ⟨rfl, hbx⟩
  replace FS := Lib.hid (FS.out.below hbx)
  replace FX := Lib.hid (FX.out.below hbx)
  replace FM := Lib.hid (FM.out.below hbx)
  replace FW := Lib.hid (FW.out.below hbx)
  replace FG := Lib.hid (FG.out.below hbx)
  replace FL := Lib.hid (FL.out.below hbx)
  replace BX := Lib.hid (BX.out.below hbx)
  replace FY := Lib.hid (FY.out.below hbx)
  replace FZ := Lib.hid (FZ.out.below hbx)
  replace FT := Lib.hid (FT.out.below hbx)
  replace FC := Lib.hid (FC.out.below hbx)
  replace BB := Lib.hid (two_worlds BB.out hbx)
  clear hbx
  rw [CES.out]
  dsimp only
  clear FL FT FC BX HC
  go_wp2_with fail
  refine (f6ints_any ap aq wl wl m2 m2 cp cq _ HM2 HM2 FW.out FG.out (by unfold maxLen; omega)).mono ?_
  rintro e w16 ⟨rfl, hbx⟩
  replace FS := Lib.hid (FS.out.below hbx)
  replace FX := Lib.hid (FX.out.below hbx)
  replace FM := Lib.hid (FM.out.below hbx)
  replace FW := Lib.hid (FW.out.below hbx)
  replace FG := Lib.hid (FG.out.below hbx)
  replace FY := Lib.hid (FY.out.below hbx)
  replace FZ := Lib.hid (FZ.out.below hbx)
  replace BB := Lib.hid (two_worlds BB.out hbx)
  clear hbx
  rw [beqT wl]
  go_wp2_with fail
  refine (f6ints_any ay az sl sl m3 m3 cy cz _ HM3 HM3 FY.out FZ.out (by unfold maxLen; omega)).mono ?_
  rintro e w17 ⟨rfl, hbx⟩
  replace FS := Lib.hid (FS.out.below hbx)
  replace FX := Lib.hid (FX.out.below hbx)
  replace FM := Lib.hid (FM.out.below hbx)
  replace FW := Lib.hid (FW.out.below hbx)
  replace FG := Lib.hid (FG.out.below hbx)
  replace FY := Lib.hid (FY.out.below hbx)
  replace FZ := Lib.hid (FZ.out.below hbx)
  replace BB := Lib.hid (two_worlds BB.out hbx)
  clear hbx
  rw [beqT sl]
  obtain ⟨sb, hsb⟩ : ∃ sb, slB ts = sb := ⟨_, rfl⟩
  have HSB := Lib.hid hsb
  clear hsb
  go_wp2_with fail
  refine (implValidSeals_any _ ts hn1 FS.out hs61 WFS).mono ?_
  rintro e w18 ⟨rfl, hbx⟩
  replace FS := Lib.hid (FS.out.below hbx)
  replace FX := Lib.hid (FX.out.below hbx)
  replace FM := Lib.hid (FM.out.below hbx)
  replace FW := Lib.hid (FW.out.below hbx)
  replace FG := Lib.hid (FG.out.below hbx)
  replace FY := Lib.hid (FY.out.below hbx)
  replace FZ := Lib.hid (FZ.out.below hbx)
  replace BB := Lib.hid (two_worlds BB.out hbx)
  clear hbx
  rw [HSB.out]
  go_wp2_with fail
  refine (specValidSeals_any _ ts hn1 FS.out hs61 WFS).mono ?_
  rintro e w19 ⟨rfl, hbx⟩
  replace FS := Lib.hid (FS.out.below hbx)
  replace FX := Lib.hid (FX.out.below hbx)
  replace FM := Lib.hid (FM.out.below hbx)
  replace FW := Lib.hid (FW.out.below hbx)
  replace FG := Lib.hid (FG.out.below hbx)
  replace FY := Lib.hid (FY.out.below hbx)
  replace FZ := Lib.hid (FZ.out.below hbx)
  replace BB := Lib.hid (two_worlds BB.out hbx)
  clear hbx
  rw [HSB.out]
  have FSW : Hid (∀ W, Below w19.heap.size w19 W → RR 2 cSeal W (some ⟨b1, 0, none⟩) ts) := fun W hB => FS.out.below hB
  have FXW : Hid (∀ W, Below w19.heap.size w19 W → RR 2 cSeal W ax rl) := fun W hB => FX.out.below hB
  have FMW : Hid (∀ W, Below w19.heap.size w19 W → RR 2 cSeal W am rl) := fun W hB => FM.out.below hB
  have hnn : ∀ x : Int, (x != x) = false := fun x => by simp
  have hbb : (sb != sb) = false := by simp
  have hmm : ∀ x : Nat, ((x : Int) != (x : Int)) = false := fun x => by simp
  clear FS FX FM FW FG FY FZ
  go_wp2_with fail
  clear hnn hbb hmm
  go_loopw [33] (fun iv wr => ∃ i : Nat, i ≤ m1 ∧ iv = .int .i64 (i : Int) ∧ Hid (Below w19.heap.size w19 wr)) (fun iv _ => m1 - (intOf iv).toNat)
  case atStart => exact ⟨0, by omega, rfl, Below.refl _ _⟩
  case round => as_aux_lemma =>
    obtain ⟨i, hi, rfl, HBI⟩ := hrel
    by_cases hlt : i < m1
    · have hka : i < rl.length := by rw [HM1.out]; exact hlt
      obtain ⟨ba, oa, rfl, hba, hca⟩ := (FXW.out _ HBI.out).at_ i hka
      obtain ⟨bb, ob, rfl, hbb, hcb⟩ := (FMW.out _ HBI.out).at_ i hka
      have x1 := hca 0 _ rfl
      have x2 := hca 1 _ rfl
      have y1 := hcb 0 _ rfl
      have y2 := hcb 1 _ rfl
      simp only [Nat.add_zero] at x1 y1
      clear hca hcb
      generalize rl[i] = t at x1 x2 y1 y2
      have htn : (!(t == t)) = false := by simp
      have hk0 : (0 : Int) ≤ (i : Int) := by omega
      have hk1 : (i : Int) < (m1 : Int) := by omega
      go_wp2
      go_region_held3 (fun w' => w'.cell? ⟨ba, oa + i * 2, none⟩ = some (.int .i64 t.1) ∧ w'.cell? ⟨ba, oa + i * 2 + 1, none⟩ = some (.int .i64 t.2) ∧ w'.cell? ⟨bb, ob + i * 2, none⟩ = some (.int .i64 t.1) ∧ w'.cell? ⟨bb, ob + i * 2 + 1, none⟩ = some (.int .i64 t.2)) (exact ⟨x1, x2, y1, y2⟩) (fail)
      go_wp2
      go_roundw
      case rel => exact ⟨i + 1, by omega, by go_num, HBI.out.drew⟩
      case measure => simp [intOf]; omega
    · skip
      rcases eq_ways nc 0 with ⟨⟨e1, e2⟩, e3⟩ | ⟨⟨e1, e2⟩, e3⟩
      · subst e3
        obtain ⟨hv, b, rfl, hnx⟩ := nextOf_ok NES.out
        rw [hn1.out] at hnx
        obtain ⟨hbl, hbw, hleast⟩ := nextAt_least hv n1 (by rw [hn1.out]; exact Nat.le_refl _) b hnx
        have HLE := Lib.hid hleast
        have HV := Lib.hid hv
        have hbn : b < n1 := by rw [← hn1.out]; exact hbl
        clear hleast hv hnx e1 e2
        obtain ⟨wo, hwo⟩ : ∃ wo, wo = wr := ⟨wr, rfl⟩
        subst hwo
        go_wp2
        go_loopw [34] (fun iv wr => ∃ i : Nat, i ≤ n1 ∧ iv = .int .i64 (i : Int) ∧ Hid (Below w19.heap.size w19 wr)) (fun iv _ => n1 - (intOf iv).toNat)
        case atStart => exact ⟨0, by omega, rfl, HBI⟩
        case round => as_aux_lemma =>
          obtain ⟨i, hi, rfl, HBJ⟩ := hrel
          by_cases hlt : i < n1
          · have hka : i < ts.length := by rw [hn1.out]; exact hlt
            have hat := slB_at HV.out i hka
            have hau := slB_at HV.out b hbl
            have hle := HLE.out i hka hlt
            obtain ⟨bs, os, hbe, _, hc⟩ := (FSW.out _ HBJ.out).at_ i hka
            injection hbe with hbe
            injection hbe with e1 e2
            subst e1 e2
            obtain ⟨bs, os, hbe, _, hc2⟩ := (FSW.out _ HBJ.out).at_ b hbl
            injection hbe with hbe
            injection hbe with e1 e2
            subst e1 e2
            have x0 := hc 0 _ rfl
            have x1 := hc 1 _ rfl
            have y0 := hc2 0 _ rfl
            have y1 := hc2 1 _ rfl
            simp only [Nat.add_zero, Nat.zero_add] at x0 x1 y0 y1
            clear hc hc2
            generalize ts[i] = t at x0 x1 hat hle
            generalize ts[b] = u at y0 y1 hau hle
            obtain ⟨t1, t2⟩ := t
            obtain ⟨u1, u2⟩ := u
            dsimp only at x0 x1 y0 y1 hat hau hle
            have hk0 : (0 : Int) ≤ (i : Int) := by omega
            have hk1 : (i : Int) < (n1 : Int) := by omega
            have hb0 : (0 : Int) ≤ (b : Int) := by omega
            have hb1 : (b : Int) < (n1 : Int) := by omega
            have hp1 := mul_bd (a := t1) (b := u2) (by omega) (by omega) (by omega) (by omega)
            have hp2 := mul_bd (a := u1) (b := t2) (by omega) (by omega) (by omega) (by omega)
            have hw1 : IntKind.i64.wrap (t1 * u2) = t1 * u2 := IntWalk.i64_in _ (by omega)
            have hw2 : IntKind.i64.wrap (u1 * t2) = u1 * t2 := IntWalk.i64_in _ (by omega)
            cases d1 : decide (t1 < t2) with
            | false =>
              clear hw1 hw2 hp1 hp2 hat hau hle
              go_wp2_with fail
              go_quiet (fail)
              go_wp2
              go_roundw
              case rel => exact ⟨i + 1, by omega, by go_num, Below.drewN' HBJ.out _⟩
              case measure => simp [intOf]; omega
            | true =>
              have d3 : decide (t1 * u2 < u1 * t2) = false := decide_eq_false (by have := hle (of_decide_eq_true d1); omega)
              clear hp1 hp2 hat hau hle
              go_wp2_with fail
              go_quiet (fail)
              go_wp2
              go_roundw
              case rel => exact ⟨i + 1, by omega, by go_num, Below.drewN' HBJ.out _⟩
              case measure => simp [intOf]; omega
          · skip
            have LFT := LES.out
            rcases eq_ways sc 0 with ⟨⟨f1, f2⟩, f3⟩ | ⟨⟨f1, f2⟩, f3⟩
            · subst f3
              obtain ⟨hv, hrs⟩ := left_ok LES.out
              have hwl := WES.out
              rw [wornOf_good hv] at hwl
              injection hwl with hwl _
              have hml := HM2.out
              rw [← hwl, hn1.out] at hml
              have hall := worn_all hv n1 (by rw [hn1.out]; exact Nat.le_refl _)
              rw [hml] at hall
              rw [hn1.out] at hrs
              rw [← hrs] at hall
              have HV2 := Lib.hid hv
              clear hv hwl hml hrs LFT f1 f2
              by_cases hz : rs = 0
              · have hmn : m2 = n1 := hall.2 hz
                clear hall
                subst hmn hz
                rcases eq_ways rc 0 with ⟨⟨h1, h2⟩, h3⟩ | ⟨⟨h1, h2⟩, h3⟩
                · subst h3
                  have hlx := (runCar_left RES.out).2
                  have hvx := runCar_valid RES.out
                  rw [LES.out] at hlx
                  dsimp only at hlx
                  have hbd := left_bd ts
                  rw [LES.out] at hbd
                  dsimp only at hbd
                  have HLX := Lib.hid hlx
                  have HWX := Lib.hid (seals_wf' hvx)
                  clear hlx hvx h1 h2
                  go_wp2_with fail
                  refine (implRunsLeft_any _ rl HM1 (FXW.out _ HBJ.out) (by omega) HWX).mono ?_
                  rintro e wf ⟨rfl, hbf⟩
                  rw [HLX.out]
                  dsimp only
                  have BE := Lib.hid (two_worlds BB.out (two_worlds HBJ.out hbf))
                  clear hbf
                  go_wp2
                  go_ret
                  exact ⟨by simp, BE.out⟩
                · clear h3
                  have BE := Lib.hid (two_worlds BB.out HBJ.out)
                  go_wp2
                  go_ret
                  exact ⟨rfl, BE.out⟩
              · have hmn : ¬ m2 = n1 := fun h => hz (hall.1 h)
                have g1 : ((m2 : Int) == (n1 : Int)) = false := by rw [beq_eq_false_iff_ne]; omega
                have g2 : (rs == 0) = false := by rw [beq_eq_false_iff_ne]; exact hz
                clear hall hz hmn
                rcases eq_ways rc 0 with ⟨⟨h1, h2⟩, h3⟩ | ⟨⟨h1, h2⟩, h3⟩
                · subst h3
                  have hlx := (runCar_left RES.out).2
                  have hvx := runCar_valid RES.out
                  rw [LES.out] at hlx
                  dsimp only at hlx
                  have hbd := left_bd ts
                  rw [LES.out] at hbd
                  dsimp only at hbd
                  have HLX := Lib.hid hlx
                  have HWX := Lib.hid (seals_wf' hvx)
                  clear hlx hvx h1 h2
                  go_wp2_with fail
                  refine (implRunsLeft_any _ rl HM1 (FXW.out _ HBJ.out) (by omega) HWX).mono ?_
                  rintro e wf ⟨rfl, hbf⟩
                  rw [HLX.out]
                  dsimp only
                  have BE := Lib.hid (two_worlds BB.out (two_worlds HBJ.out hbf))
                  clear hbf
                  go_wp2
                  go_ret
                  exact ⟨by simp, BE.out⟩
                · clear h3
                  have BE := Lib.hid (two_worlds BB.out HBJ.out)
                  go_wp2
                  go_ret
                  exact ⟨rfl, BE.out⟩
            · clear f3 LFT
              rcases eq_ways rc 0 with ⟨⟨h1, h2⟩, h3⟩ | ⟨⟨h1, h2⟩, h3⟩
              · subst h3
                have hlx := (runCar_left RES.out).2
                have hvx := runCar_valid RES.out
                rw [LES.out] at hlx
                dsimp only at hlx
                have hbd := left_bd ts
                rw [LES.out] at hbd
                dsimp only at hbd
                have HLX := Lib.hid hlx
                have HWX := Lib.hid (seals_wf' hvx)
                clear hlx hvx h1 h2
                go_wp2_with fail
                refine (implRunsLeft_any _ rl HM1 (FXW.out _ HBJ.out) (by omega) HWX).mono ?_
                rintro e wf ⟨rfl, hbf⟩
                rw [HLX.out]
                dsimp only
                have BE := Lib.hid (two_worlds BB.out (two_worlds HBJ.out hbf))
                clear hbf
                go_wp2
                go_ret
                exact ⟨by simp, BE.out⟩
              · clear h3
                have BE := Lib.hid (two_worlds BB.out HBJ.out)
                go_wp2
                go_ret
                exact ⟨rfl, BE.out⟩
      · clear e3
        have HBJ := HBI
        have LFT := LES.out
        rcases eq_ways sc 0 with ⟨⟨f1, f2⟩, f3⟩ | ⟨⟨f1, f2⟩, f3⟩
        · subst f3
          obtain ⟨hv, hrs⟩ := left_ok LES.out
          have hwl := WES.out
          rw [wornOf_good hv] at hwl
          injection hwl with hwl _
          have hml := HM2.out
          rw [← hwl, hn1.out] at hml
          have hall := worn_all hv n1 (by rw [hn1.out]; exact Nat.le_refl _)
          rw [hml] at hall
          rw [hn1.out] at hrs
          rw [← hrs] at hall
          have HV2 := Lib.hid hv
          clear hv hwl hml hrs LFT f1 f2
          by_cases hz : rs = 0
          · have hmn : m2 = n1 := hall.2 hz
            clear hall
            subst hmn hz
            rcases eq_ways rc 0 with ⟨⟨h1, h2⟩, h3⟩ | ⟨⟨h1, h2⟩, h3⟩
            · subst h3
              have hlx := (runCar_left RES.out).2
              have hvx := runCar_valid RES.out
              rw [LES.out] at hlx
              dsimp only at hlx
              have hbd := left_bd ts
              rw [LES.out] at hbd
              dsimp only at hbd
              have HLX := Lib.hid hlx
              have HWX := Lib.hid (seals_wf' hvx)
              clear hlx hvx h1 h2
              go_wp2_with fail
              refine (implRunsLeft_any _ rl HM1 (FXW.out _ HBJ.out) (by omega) HWX).mono ?_
              rintro e wf ⟨rfl, hbf⟩
              rw [HLX.out]
              dsimp only
              have BE := Lib.hid (two_worlds BB.out (two_worlds HBJ.out hbf))
              clear hbf
              go_wp2
              go_ret
              exact ⟨by simp, BE.out⟩
            · clear h3
              have BE := Lib.hid (two_worlds BB.out HBJ.out)
              go_wp2
              go_ret
              exact ⟨rfl, BE.out⟩
          · have hmn : ¬ m2 = n1 := fun h => hz (hall.1 h)
            have g1 : ((m2 : Int) == (n1 : Int)) = false := by rw [beq_eq_false_iff_ne]; omega
            have g2 : (rs == 0) = false := by rw [beq_eq_false_iff_ne]; exact hz
            clear hall hz hmn
            rcases eq_ways rc 0 with ⟨⟨h1, h2⟩, h3⟩ | ⟨⟨h1, h2⟩, h3⟩
            · subst h3
              have hlx := (runCar_left RES.out).2
              have hvx := runCar_valid RES.out
              rw [LES.out] at hlx
              dsimp only at hlx
              have hbd := left_bd ts
              rw [LES.out] at hbd
              dsimp only at hbd
              have HLX := Lib.hid hlx
              have HWX := Lib.hid (seals_wf' hvx)
              clear hlx hvx h1 h2
              go_wp2_with fail
              refine (implRunsLeft_any _ rl HM1 (FXW.out _ HBJ.out) (by omega) HWX).mono ?_
              rintro e wf ⟨rfl, hbf⟩
              rw [HLX.out]
              dsimp only
              have BE := Lib.hid (two_worlds BB.out (two_worlds HBJ.out hbf))
              clear hbf
              go_wp2
              go_ret
              exact ⟨by simp, BE.out⟩
            · clear h3
              have BE := Lib.hid (two_worlds BB.out HBJ.out)
              go_wp2
              go_ret
              exact ⟨rfl, BE.out⟩
        · clear f3 LFT
          rcases eq_ways rc 0 with ⟨⟨h1, h2⟩, h3⟩ | ⟨⟨h1, h2⟩, h3⟩
          · subst h3
            have hlx := (runCar_left RES.out).2
            have hvx := runCar_valid RES.out
            rw [LES.out] at hlx
            dsimp only at hlx
            have hbd := left_bd ts
            rw [LES.out] at hbd
            dsimp only at hbd
            have HLX := Lib.hid hlx
            have HWX := Lib.hid (seals_wf' hvx)
            clear hlx hvx h1 h2
            go_wp2_with fail
            refine (implRunsLeft_any _ rl HM1 (FXW.out _ HBJ.out) (by omega) HWX).mono ?_
            rintro e wf ⟨rfl, hbf⟩
            rw [HLX.out]
            dsimp only
            have BE := Lib.hid (two_worlds BB.out (two_worlds HBJ.out hbf))
            clear hbf
            go_wp2
            go_ret
            exact ⟨by simp, BE.out⟩
          · clear h3
            have BE := Lib.hid (two_worlds BB.out HBJ.out)
            go_wp2
            go_ret
            exact ⟨rfl, BE.out⟩
end Go.Proofs.Ytabopjdcpllocaa.fnSeals
