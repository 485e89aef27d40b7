/-
  Blowers: LongestRun: the program's walk.
-/
import Derived.Test.YtiilgeoahpnkpaaBlow8
namespace Go.Proofs.Ytiilgeoahpnkpaa
open Go.RowKit

theorem RR.set_far {α : Type} {k : Nat} {c : α → List Value} {w : World} {a : Option Addr} {ts : List α} {B j : Nat} {v : Value} (h : RR k c w a ts) (hf : ∀ b off, a = some (⟨b, off, none⟩ : Addr) → b ≠ B) : RR k c (w.setCell ⟨B, j, none⟩ v) a ts := by
  rcases h with h | ⟨b, off, ha, hlt, h⟩
  · exact .inl h
  · refine .inr ⟨b, off, ha, by simpa using hlt, fun i hi q u hq => ?_⟩
    have hne := hf b off ha
    exact (World.cell?_setCell_other _ _ _ _ (fun e => hne (by injection e with e1 e2 e3; exact e1.symm))).trans (h i hi q u hq)
theorem box_two (w : World) (u v : Value) (t : TypeId) : (w.alloc (.cells #[u, v] t)).cell? ⟨w.heap.size, 0, none⟩ = some u ∧ (w.alloc (.cells #[u, v] t)).cell? ⟨w.heap.size, 1, none⟩ = some v := by constructor <;> simp [go_sem]
set_option maxRecDepth 20000 in
set_option maxHeartbeats 4000000 in
theorem implLongestRun_any (w : World) {a0 : Option Addr} {n0 c0 : Nat} (ts0 : List TBlower) (hn0 : Hid (ts0.length = n0)) (h0 : RR 3 cBlower w a0 ts0) (hs0 : n0 ≤ 1048576) (_wf0 : Hid (∀ t ∈ ts0, wfBlower t)) {a1 : Option Addr} {n1 c1 : Nat} (l1 : List Int) (hn1 : Hid (l1.length = n1)) (h1 : RI w a1 l1) (hs1 : n1 ≤ 1048576) (_wf1 : Hid (∀ k ∈ l1, (Lit.int .i64 k).wf = true)) (f2 : Int) (_wf2 : (Lit.int .i64 f2).wf = true) :
    Calls Try.prog 42 #[.slice a0 n0 c0, .slice a1 n1 c1, .int .i64 f2] w fun e w' => e = .returned (.tuple #[.int .i64 (longOf ts0 l1 f2).1, .int .i64 (longOf ts0 l1 f2).2.1, .int .i64 (longOf ts0 l1 f2).2.2]) ∧ Below w.heap.size w w' := by
  have CS := checkBlower_any a0 ts0 n0 c0 a1 l1 n1 c1 f2 w hn0 h0 hs0 hn1 h1 hs1
  rcases eq_ways (kcode ts0 l1 f2) 0 with ⟨⟨k1, k2⟩, hd⟩ | ⟨⟨k1, k2⟩, hd⟩
  rotate_left
  · have HR : Hid (longOf ts0 l1 f2 = (0, 0, kcode ts0 l1 f2)) := by unfold Hid longOf; rw [if_neg hd]
    clear h0 h1 hd
    go_enter Try.func42, Try.ntmps42
    go_wp2_with (first | (go_at_call 92; refine CS.mono ?_; rintro e w1 ⟨rfl, hb1⟩))
    go_ret3
    rw [HR.out]
    exact ⟨rfl, hb1⟩
  obtain ⟨k, rfl, HM⟩ := ofk_of hn0.out hn1.out hd
  have h24 := HM.out.day
  have HR : Hid (longOf ts0 l1 (k : Int) = if (longS (qB l1 k) n1).2.1 = 0 then (0, 0, 3) else ((longS (qB l1 k) n1).1, (longS (qB l1 k) n1).2.1, 0)) := by unfold Hid longOf; rw [if_pos hd, hn1.out, Int.toNat_natCast]
  have RU : Hid (∀ W, Below w.heap.size w W → Calls Try.prog 93 #[.slice a1 n1 c1, .int .i64 k] W (GivesRuns (runsL (qB l1 k) n1) W)) := fun W hW => hourRuns_any ts0 n0 a1 l1 n1 c1 k W hn1 (h1.below hW) HM
  have HP := Lib.hid (runsP (qB l1 k) n1)
  rw [hd] at CS
  clear h0 h1 hd k1 k2
  go_enter Try.func42, Try.ntmps42
  go_wp2_with (first | (go_at_call 92; refine CS.mono ?_; rintro e w1 ⟨rfl, hb1⟩; have HB1 := Lib.hid hb1; have hw1 := hb1.size; clear hb1) | (go_at_call 93; refine (RU.out _ (by repeat (first | exact HB1.out | refine Below.alloc ?_ (by first | omega | (simp; done) | (simp; omega)) _ | refine Below.setCell ?_ (by first | omega | (simp; done) | (simp; omega)) _))).mono ?_; intro e w2 hg2; obtain ⟨ao, R, cap, HRL, rfl, hb2, hrr, hge⟩ := hg2; have HFAR : Hid (∀ b off, ao = some (⟨b, off, none⟩ : Addr) → b ≠ w1.heap.size) := (fun b off e => by { subst e; have := hge b rfl; simp at this; omega }); have HB2 : Hid (Below w.heap.size w w2) := Below.trans (show Below w.heap.size w (w1.alloc _) from (by repeat (first | exact HB1.out | refine Below.alloc ?_ (by first | omega | (simp; done) | (simp; omega)) _ | refine Below.setCell ?_ (by first | omega | (simp; done) | (simp; omega)) _))) (hb2.mono (by simp; omega)); have HL2 : Hid (Below w1.heap.size w1 w2) := Below.trans (show Below w1.heap.size w1 (w1.alloc _) from (by repeat (first | exact Below.refl _ _ | refine Below.alloc ?_ (by simp; try omega) _ | refine Below.setCell ?_ (by simp; try omega) _))) (hb2.mono (by simp)); have hLZ : w2.cell? ⟨w1.heap.size, 0, none⟩ = some (.int .i64 0) ∧ w2.cell? ⟨w1.heap.size, 1, none⟩ = some (.int .i64 0) := ⟨(hb2.cell (p := ⟨w1.heap.size, 0, none⟩) (by simp)).trans (by simp [go_sem]), (hb2.cell (p := ⟨w1.heap.size, 1, none⟩) (by simp)).trans (by simp [go_sem])⟩; have hLF : w2.frozen? ⟨w1.heap.size, 0, none⟩ = false ∧ w2.frozen? ⟨w1.heap.size, 1, none⟩ = false := ⟨(hb2.frozen (p := ⟨w1.heap.size, 0, none⟩) (by simp)).trans (by simp [go_sem]), (hb2.frozen (p := ⟨w1.heap.size, 1, none⟩) (by simp)).trans (by simp [go_sem])⟩; have hws2 : w1.heap.size < w2.heap.size := by { have := hb2.size; simp at this; omega }; have HLZ := Lib.hid hLZ; have HLF := Lib.hid hLF; have HRR := Lib.hid hrr; clear hb2 hrr hLZ hLF))
  obtain ⟨B, hB⟩ : ∃ B, B = w1.heap.size := ⟨_, rfl⟩
  rw [← hB]
  rw [← hB] at HLZ HLF hws2 HL2 hw1 HFAR
  clear hB
  have hle := startsN_le (qB l1 k) n1
  rw [← HP.out.len, HRL.out] at hle
  go_loopw [24] (fun iv wr => ∃ (i : Nat) (b : TStay), i ≤ R ∧ iv = .int .i64 i ∧ Hid (b = longR (runsL (qB l1 k) n1) i) ∧ (0 ≤ b.1 ∧ b.1 ≤ b.2 ∧ b.2 ≤ 24) ∧ w2.heap.size ≤ wr.heap.size ∧ Hid (Below B w2 wr) ∧ Hid (RR 2 cStay wr ao (runsL (qB l1 k) n1)) ∧ Hid (wr.cell? ⟨B, 0, none⟩ = some (.int .i64 b.1) ∧ wr.cell? ⟨B, 1, none⟩ = some (.int .i64 b.2)) ∧ Hid (wr.frozen? ⟨B, 0, none⟩ = false ∧ wr.frozen? ⟨B, 1, none⟩ = false)) (fun iv _ => R - (intOf iv).toNat)
  case atStart => exact ⟨0, (0, 0), by omega, rfl, rfl, by decide, Nat.le_refl _, Below.refl _ _, HRR, HLZ, HLF⟩
  case round =>
    obtain ⟨i, b, hi, rfl, HLG, hb24, hws, HBW, HRW, HC, HFZ⟩ := hrel
    by_cases hlt : i < R
    · have hil : i < (runsL (qB l1 k) n1).length := by rw [HRL.out]; exact hlt
      obtain ⟨bb, ob, rfl, hbl, hx⟩ := HRW.out.at_ i hil
      have x0 := hx 0 _ rfl
      have x1 := hx 1 _ rfl
      simp only [Nat.add_zero] at x0
      have hbd := HP.out.bd _ (List.getElem_mem hil)
      have HNX : Hid (longer b (runsL (qB l1 k) n1)[i] = longR (runsL (qB l1 k) n1) (i + 1)) := by unfold Hid; rw [longR_succ hil, HLG.out]
      clear hx
      generalize (runsL (qB l1 k) n1)[i] = t at x0 x1 hbd HNX
      obtain ⟨t1, t2⟩ := t
      obtain ⟨b1, b2⟩ := b
      dsimp only at x0 x1 hbd hb24 HC
      have SL := Lib.hid (fun W => stayLen_any t1 t2 W (by omega) (by omega))
      have SB := Lib.hid (fun W => stayLen_any b1 b2 W (by omega) (by omega))
      have HLE1 : Hid (lenS (t1, t2) = t2 - t1) := rfl
      have HLE2 : Hid (lenS (b1, b2) = b2 - b1) := rfl
      have hBr : B < wr.heap.size := by omega
      have HK : Hid (∀ W, Below (wr.alloc (.cells #[.int .i64 t1, .int .i64 t2] 105)).heap.size (wr.alloc (.cells #[.int .i64 t1, .int .i64 t2] 105)) W → W.cell? ⟨wr.heap.size, 0, none⟩ = some (.int .i64 t1) ∧ W.cell? ⟨wr.heap.size, 1, none⟩ = some (.int .i64 t2) ∧ W.cell? ⟨B, 0, none⟩ = some (.int .i64 b1) ∧ W.cell? ⟨B, 1, none⟩ = some (.int .i64 b2)) := by
        intro W hW
        obtain ⟨z0, z1⟩ := box_two wr (.int .i64 t1) (.int .i64 t2) 105
        refine ⟨(hW.cell (p := ⟨wr.heap.size, 0, none⟩) (by simp)).trans z0, (hW.cell (p := ⟨wr.heap.size, 1, none⟩) (by simp)).trans z1, (hW.cell (p := ⟨B, 0, none⟩) (by simp; omega)).trans ?_, (hW.cell (p := ⟨B, 1, none⟩) (by simp; omega)).trans ?_⟩
        · exact (((Below.refl _ _).alloc (Nat.le_refl _) _).cell (p := ⟨B, 0, none⟩) hBr).trans HC.out.1
        · exact (((Below.refl _ _).alloc (Nat.le_refl _) _).cell (p := ⟨B, 1, none⟩) hBr).trans HC.out.2
      have HFF : Hid (∀ W, Below wr.heap.size wr W → W.frozen? ⟨B, 0, none⟩ = false ∧ W.frozen? ⟨B, 1, none⟩ = false) := fun W hW => ⟨(hW.frozen (p := ⟨B, 0, none⟩) hBr).trans HFZ.out.1, (hW.frozen (p := ⟨B, 1, none⟩) hBr).trans HFZ.out.2⟩
      have HA1 : Hid (Below wr.heap.size wr (wr.alloc (.cells #[.int .i64 t1, .int .i64 t2] 105))) := (Below.refl _ _).alloc (Nat.le_refl _) _
      have d := (Below.refl (wr.alloc (.cells #[.int .i64 t1, .int .i64 t2] 105)).heap.size (wr.alloc (.cells #[.int .i64 t1, .int .i64 t2] 105))).drew
      have hk0 : (0 : Int) ≤ (i : Int) := by omega
      have hk1 : (i : Int) < (R : Int) := by omega
      clear HC HFZ
      go_wp2_with fail
      go_region_held3 (fun w' => w'.cell? ⟨wr.heap.size, 0, none⟩ = some (.int .i64 t1) ∧ w'.cell? ⟨wr.heap.size, 1, none⟩ = some (.int .i64 t2) ∧ w'.cell? ⟨B, 0, none⟩ = some (.int .i64 b1) ∧ w'.cell? ⟨B, 1, none⟩ = some (.int .i64 b2))
        (first | exact HK.out _ d | exact HK.out _ (d.trans hb7) | exact HK.out _ ((d.trans hb7).trans (hb8.mono (d.trans hb7).size)))
        (first | (go_at_call 94; (with_reducible refine Calls.mono (SL.out _) ?_); rintro e w7 ⟨rfl, hb7⟩) | (go_at_call 94; (with_reducible refine Calls.mono (SB.out _) ?_); rintro e w8 ⟨rfl, hb8⟩))
      all_goals
        have HD : Hid (Below (wr.alloc (.cells #[.int .i64 t1, .int .i64 t2] 105)).heap.size (wr.alloc (.cells #[.int .i64 t1, .int .i64 t2] 105)) w8) := (d.trans hb7).trans (hb8.mono (d.trans hb7).size)
        have HBF : Hid (Below wr.heap.size wr w8) := HA1.out.trans (HD.out.mono (by simp))
        obtain ⟨y0, y1, y2, y3⟩ := HK.out _ HD.out
        obtain ⟨f0, f1⟩ := HFF.out _ HBF.out
        have hs8 := HBF.out.size
        have HRW8 := Lib.hid (HRW.out.below HBF.out)
        have HBW8 : Hid (Below B w2 w8) := HBW.out.trans (HBF.out.mono (by omega))
        clear hb7 hb8 d HD HBF HK HFF HRW HBW HA1
        by_cases hlt2 : lenS (b1, b2) < lenS (t1, t2)
        · have HN : Hid (((t1, t2) : TStay) = longR (runsL (qB l1 k) n1) (i + 1)) := by unfold Hid; rw [← HNX.out]; unfold longer; rw [if_pos hlt2]
          go_wp2
          go_roundw
          case rel =>
            refine ⟨i + 1, (t1, t2), by omega, by go_num, HN, by dsimp only; omega, by simp; omega, (HBW8.out.setCell (Nat.le_refl _) _).setCell (Nat.le_refl _) _, (HRW8.out.set_far HFAR.out).set_far HFAR.out, ⟨?_, ?_⟩, ⟨?_, ?_⟩⟩
            · simp [go_sem, y2]
            · simp [go_sem, y3]
            · simp [go_sem, f0]
            · simp [go_sem, f1]
          case measure => simp [intOf]; omega
        · have HN : Hid (((b1, b2) : TStay) = longR (runsL (qB l1 k) n1) (i + 1)) := by unfold Hid; rw [← HNX.out]; unfold longer; rw [if_neg hlt2]
          go_wp2
          go_roundw
          case rel => exact ⟨i + 1, (b1, b2), by omega, by go_num, HN, by dsimp only; omega, by omega, HBW8, HRW8, ⟨y2, y3⟩, ⟨f0, f1⟩⟩
          case measure => simp [intOf]; omega
    · have hkm : i = R := by omega
      subst hkm
      have HS := HP.out.long
      rw [HRL.out, ← HLG.out] at HS
      have HMO := HP.out.most
      generalize (longS (qB l1 k) n1).1 = x at HS HR HMO
      generalize (longS (qB l1 k) n1).2.1 = y at HS HR HMO
      subst HS
      have HBW2 : Hid (Below w.heap.size w wr) := HB2.out.trans (HBW.out.mono (by omega))
      have SB : Hid (∀ W, Calls Try.prog 94 #[.agg #[.int .i64 x, .int .i64 (x + y)]] W fun r w' => r = .returned (.int .i64 y) ∧ Below W.heap.size W w') := fun W => by
        have h := stayLen_any x (x + y) W (by omega) (by omega)
        have e : lenS (x, x + y) = y := by unfold lenS; dsimp only; omega
        rw [e] at h
        exact h
      have SG : Hid (∀ W, Calls Try.prog 95 #[.agg #[.int .i64 x, .int .i64 (x + y)]] W fun r w' => r = .returned (.int .i64 x) ∧ Below W.heap.size W w') := fun W => stayBeg_any x (x + y) W
      obtain ⟨y2, y3⟩ := HC.out
      dsimp only at y2 y3
      have hBr : B < wr.heap.size := by omega
      have HK : Hid (∀ W, Below wr.heap.size wr W → W.cell? ⟨B, 0, none⟩ = some (.int .i64 x) ∧ W.cell? ⟨B, 1, none⟩ = some (.int .i64 (x + y))) := fun W hW => ⟨(hW.cell (p := ⟨B, 0, none⟩) hBr).trans y2, (hW.cell (p := ⟨B, 1, none⟩) hBr).trans y3⟩
      clear HC HFZ HMO HLG
      rcases eq_ways y 0 with ⟨⟨j1, j2⟩, hy⟩ | ⟨⟨j1, j2⟩, hy⟩
      · rw [if_pos hy] at HR
        clear hy
        go_wp2_with (go_at_call 94; (with_reducible refine Calls.mono (SB.out _) ?_); rintro e w7 ⟨rfl, hb7⟩)
        go_ret3
        rw [HR.out]
        exact ⟨rfl, HBW2.out.trans (hb7.mono HBW2.out.size)⟩
      · rw [if_neg hy] at HR
        clear hy
        go_wp2_with (go_at_call 94; (with_reducible refine Calls.mono (SB.out _) ?_); rintro e w7 ⟨rfl, hb7⟩; obtain ⟨z2, z3⟩ := HK.out _ hb7)
        have d := hb7.drew
        go_region_held3 (fun w' => w'.cell? ⟨B, 0, none⟩ = some (.int .i64 x) ∧ w'.cell? ⟨B, 1, none⟩ = some (.int .i64 (x + y)))
          (first | exact HK.out _ d | exact HK.out _ (d.trans (hb8.mono d.size)) | exact HK.out _ ((d.trans (hb8.mono d.size)).trans (hb9.mono (d.trans (hb8.mono d.size)).size)))
          (first | (go_at_call 94; (with_reducible refine Calls.mono (SB.out _) ?_); rintro e w9 ⟨rfl, hb9⟩) | (go_at_call 95; (with_reducible refine Calls.mono (SG.out _) ?_); rintro e w8 ⟨rfl, hb8⟩))
        all_goals
          have HBF := (d.trans (hb8.mono d.size)).trans (hb9.mono (d.trans (hb8.mono d.size)).size)
          go_wp2
          go_ret3
          rw [HR.out]
          exact ⟨rfl, HBW2.out.trans (HBF.mono HBW2.out.size)⟩
end Go.Proofs.Ytiilgeoahpnkpaa
