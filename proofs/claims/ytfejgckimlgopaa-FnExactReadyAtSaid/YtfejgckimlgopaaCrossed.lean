/-
  ZonesCrossed: the model's walk and the program's: both count where neighbouring tubes of a way lie in different zones.
-/
import Derived.Test.YtfejgckimlgopaaZoneCode
namespace Go.Proofs.Ytfejgckimlgopaa
open Go.RowKit

def zoneAt (of_ way : List Int) (i : Nat) : Int := of_.getD (way.getD i 0).toNat 0
def crN (of_ way : List Int) : Nat → Int
  | 0 => 0
  | k + 1 => crN of_ way k + (if zoneAt of_ way k = zoneAt of_ way (k + 1) then 0 else 1)
theorem crN_bd (of_ way : List Int) (k : Nat) : 0 ≤ crN of_ way k ∧ crN of_ way k ≤ k := by
  induction k with
  | zero => simp [crN]
  | succ k ih => unfold crN; split <;> omega
noncomputable def crossR (t : TZoned) (way : List Int) : Int × Int := if wayC t way = 0 then (crN t.2.1 way (way.length - 1), 0) else (0, wayC t way)
theorem wayC_ok {t : TZoned} {way : List Int} (h : wayC t way = 0) : ZonP t ∧ way.length ≤ 24 ∧ ∀ i (h : i < way.length), ∃ j : Nat, way[i] = (j : Int) ∧ j < t.2.1.length := by
  unfold wayC at h
  cases hv : zonB t with
  | false => rw [zc_no hv] at h; simp at h
  | true =>
    rw [zc_yes hv, if_pos rfl] at h
    by_cases hh : way.length ≤ 24 ∧ (way.all fun k => inB k 0 ((t.2.1.length : Int) - 1)) = true
    · refine ⟨zonB_of hv, hh.1, fun i hi => ?_⟩
      have h2 := hh.2
      rw [List.all_eq_true] at h2
      have h3 := h2 _ (List.getElem_mem hi)
      unfold inB at h3
      simp at h3
      exact ⟨way[i].toNat, by omega, by omega⟩
    · rw [if_neg hh] at h; omega
theorem zoneAt_of {of_ way : List Int} {i j : Nat} (hi : i < way.length) (h : way[i] = (j : Int)) (hj : j < of_.length) : zoneAt of_ way i = of_[j] := by
  unfold zoneAt
  rw [List.getD_eq_getElem?_getD, List.getD_eq_getElem?_getD, List.getElem?_eq_getElem hi, Option.getD_some, h, Int.toNat_natCast, List.getElem?_eq_getElem hj]
  rfl

set_option maxRecDepth 20000 in
set_option maxHeartbeats 4000000 in
theorem specZonesCrossed_any (w : World) {a b : Option Addr} {n c m d : Nat} (t : TZoned) (hn : Hid (t.2.1.length = n)) (ha : RI w a t.2.1) (hs : n ≤ 1048576) (hm : Hid (t.2.2.length = m)) (hb : RR 3 cChange w b t.2.2) (hs2 : m ≤ 1048576) (wf : Hid (wfZoned t))
    {x : Option Addr} {q cq : Nat} (way : List Int) (hq : Hid (way.length = q)) (hx : RI w x way) (hqm : q ≤ 1048576) (_wfw : Hid (∀ k ∈ way, (Lit.int .i64 k).wf = true)) :
    Calls Try.prog 30 #[.agg #[.int .i64 t.1, .slice a n c, .slice b m d], .slice x q cq] w fun e w' => e = .returned (.tuple #[.int .i64 (crossR t way).1, .int .i64 (crossR t way).2]) ∧ Below w.heap.size w w' := by
  have HZ : Hid (∀ w', Below w.heap.size w w' → ZArg w' a n b m t) := fun w' h => (ZArg.mk hn ha hs hm hb hs2 wf).below h
  have HX : Hid (∀ w', Below w.heap.size w w' → RI w' x way) := fun w' h => hx.below h
  have HA : Hid (∀ w', Below w.heap.size w w' → RI w' a t.2.1) := fun w' h => ha.below h
  have X1 : Hid (∀ w', Below (w.alloc (.cells #[.int .i64 t.1, .slice a n c, .slice b m d] 27)).heap.size (w.alloc (.cells #[.int .i64 t.1, .slice a n c, .slice b m d] 27)) w' → w'.cell? ⟨w.heap.size, 1, none⟩ = some (.slice a n c)) := fun w' h => keepS h (by simp [go_sem])
  clear ha hb hx
  go_enter Try.func30, Try.ntmps30
  go_wp2_with fail
  refine (l09Way_any _ t a b n c m d x way q cq _ (HZ.out _ (by repeat (first | exact Below.refl _ _ | refine Below.alloc ?_ (by simp; try omega) _ | refine Below.setCell ?_ (by simp; try omega) _))) hq (HX.out _ (by repeat (first | exact Below.refl _ _ | refine Below.alloc ?_ (by simp; try omega) _ | refine Below.setCell ?_ (by simp; try omega) _))) hqm (by simp [go_sem]) (by simp [go_sem]) (by simp [go_sem])).mono ?_
  rintro e w1 ⟨rfl, hb1⟩
  have HB1 : Hid (Below w.heap.size w w1) := Below.trans (by repeat (first | exact Below.refl _ _ | refine Below.alloc ?_ (by simp; try omega) _ | refine Below.setCell ?_ (by simp; try omega) _)) (hb1.mono (by simp))
  have X2 : Hid (∀ w', Below w1.heap.size w1 w' → w'.cell? ⟨w.heap.size, 1, none⟩ = some (.slice a n c)) := fun w' h => X1.out _ (hb1.trans (h.mono hb1.size))
  clear hb1 X1
  rcases eq_ways (wayC t way) 0 with ⟨⟨e1, e2⟩, e3⟩ | ⟨⟨e1, e2⟩, e3⟩
  · obtain ⟨_, h24, hway⟩ := wayC_ok e3
    have HWAY := Lib.hid hway
    have HR : Hid (crossR t way = (crN t.2.1 way (q - 1), 0)) := by unfold Hid crossR; rw [if_pos e3, hq.out]
    rw [hq.out] at h24
    rw [e3]
    clear hway e3 e1 e2
    go_wp2
    go_loopw [7, 8] (fun s i wr => ∃ k : Nat, k + 1 ≤ max q 1 ∧ i = .int .i64 ((k : Int) + 1) ∧ s = .int .i64 (crN t.2.1 way k) ∧ Hid (Below w1.heap.size w1 wr)) (fun _ i _ => (max q 1) - (intOf i).toNat)
    case atStart => exact ⟨0, by omega, rfl, rfl, Below.refl _ _⟩
    case round =>
      obtain ⟨k, hk, rfl, rfl, HBEL⟩ := hrel
      have HBW : Hid (Below w.heap.size w wr) := HB1.out.trans (HBEL.out.mono HB1.out.size)
      have p1 := X2.out _ HBEL.out
      have hbd := crN_bd t.2.1 way k
      by_cases hlt : k + 1 < q
      · have hka : k < way.length := by rw [hq.out]; omega
        have hka1 : k + 1 < way.length := by rw [hq.out]; omega
        obtain ⟨i, hi, hin⟩ := HWAY.out k hka
        obtain ⟨j, hj, hjn⟩ := HWAY.out (k + 1) hka1
        have hz0 := zoneAt_of hka hi hin
        have hz1 := zoneAt_of hka1 hj hjn
        have HS : Hid (crN t.2.1 way (k + 1) = crN t.2.1 way k + (if t.2.1[i] = t.2.1[j] then 0 else 1)) := by unfold Hid; rw [← hz0, ← hz1]; rfl
        obtain ⟨bx, ox, rfl, hbx, x0⟩ := (HX.out _ HBW.out).at_ k hka
        obtain ⟨bx', ox', hxe, _, x1⟩ := (HX.out _ HBW.out).at_ (k + 1) hka1
        injection hxe with hxe
        injection hxe with e4 e5
        subst e4 e5
        rw [hi] at x0
        rw [hj] at x1
        obtain ⟨ba, oa, rfl, hba, y0⟩ := (HA.out _ HBW.out).at_ i hin
        obtain ⟨ba', oa', hae, _, y1⟩ := (HA.out _ HBW.out).at_ j hjn
        injection hae with hae
        injection hae with e4 e5
        subst e4 e5
        rw [hn.out] at hin hjn
        generalize crN t.2.1 way k = s at HS hbd
        generalize t.2.1[i] = u at y0 HS
        generalize t.2.1[j] = v at y1 HS
        clear hz0 hz1 hi hj hka hka1
        have hk0 : (0 : Int) ≤ (k : Int) := by omega
        have hk1 : (k : Int) + 1 < (q : Int) := by omega
        have hk2 : (k : Int) < (q : Int) := by omega
        have hi0 : (i : Int) < (n : Int) := by omega
        have hj0 : (j : Int) < (n : Int) := by omega
        rcases eq_ways u v with ⟨⟨f1, f2⟩, f3⟩ | ⟨⟨f1, f2⟩, f3⟩
        · have HN : Hid (crN t.2.1 way (k + 1) = s) := by unfold Hid; rw [HS.out, if_pos f3]; omega
          clear f3 HS
          go_wp2_with fail
          go_quiet (fail)
          go_wp2
          go_roundw
          case rel => exact ⟨k + 1, by omega, by go_num, by rw [HN.out], Below.drewN' HBEL.out _⟩
          case measure => simp [intOf]; omega
        · have HN : Hid (crN t.2.1 way (k + 1) = s + 1) := by unfold Hid; rw [HS.out, if_neg f3]
          clear f3 HS
          go_wp2_with fail
          go_quiet (fail)
          go_wp2
          go_roundw
          case rel => exact ⟨k + 1, by omega, by go_num, by rw [HN.out], Below.drewN' HBEL.out _⟩
          case measure => simp [intOf]; omega
      · have hkq : k = q - 1 := by omega
        have HB := Lib.hid HBW.out
        have hlt' : ¬ (k : Int) + 1 < (q : Int) := by omega
        go_wp2
        go_ret2
        rw [HR.out]
        exact ⟨rfl, HBW.out⟩
  · have HR : Hid (crossR t way = (0, wayC t way)) := by unfold Hid crossR; rw [if_neg e3]
    clear e3
    go_wp2
    go_ret2
    rw [HR.out]
    exact ⟨rfl, HB1.out⟩

set_option maxRecDepth 20000 in
set_option maxHeartbeats 4000000 in
theorem implZonesCrossed_any (w : World) {a b : Option Addr} {n c m d : Nat} (t : TZoned) (hn : Hid (t.2.1.length = n)) (ha : RI w a t.2.1) (hs : n ≤ 1048576) (hm : Hid (t.2.2.length = m)) (hb : RR 3 cChange w b t.2.2) (hs2 : m ≤ 1048576) (wf : Hid (wfZoned t))
    {x : Option Addr} {q cq : Nat} (way : List Int) (hq : Hid (way.length = q)) (hx : RI w x way) (hqm : q ≤ 1048576) (_wfw : Hid (∀ k ∈ way, (Lit.int .i64 k).wf = true)) :
    Calls Try.prog 29 #[.agg #[.int .i64 t.1, .slice a n c, .slice b m d], .slice x q cq] w fun e w' => e = .returned (.tuple #[.int .i64 (crossR t way).1, .int .i64 (crossR t way).2]) ∧ Below w.heap.size w w' := by
  have HZ : Hid (∀ w', Below w.heap.size w w' → ZArg w' a n b m t) := fun w' h => (ZArg.mk hn ha hs hm hb hs2 wf).below h
  have HX : Hid (∀ w', Below w.heap.size w w' → RI w' x way) := fun w' h => hx.below h
  have HA : Hid (∀ w', Below w.heap.size w w' → RI w' a t.2.1) := fun w' h => ha.below h
  have X1 : Hid (∀ w', Below (w.alloc (.cells #[.int .i64 t.1, .slice a n c, .slice b m d] 27)).heap.size (w.alloc (.cells #[.int .i64 t.1, .slice a n c, .slice b m d] 27)) w' → w'.cell? ⟨w.heap.size, 1, none⟩ = some (.slice a n c)) := fun w' h => keepS h (by simp [go_sem])
  clear ha hb hx
  go_enter Try.func29, Try.ntmps29
  go_wp2_with fail
  refine (checkZonedWay_any t a b n c m d x way q cq _ (HZ.out _ (by repeat (first | exact Below.refl _ _ | refine Below.alloc ?_ (by simp; try omega) _ | refine Below.setCell ?_ (by simp; try omega) _))) hq (HX.out _ (by repeat (first | exact Below.refl _ _ | refine Below.alloc ?_ (by simp; try omega) _ | refine Below.setCell ?_ (by simp; try omega) _))) hqm).mono ?_
  rintro e w1 ⟨rfl, hb1⟩
  have HB1 : Hid (Below w.heap.size w w1) := Below.trans (by repeat (first | exact Below.refl _ _ | refine Below.alloc ?_ (by simp; try omega) _ | refine Below.setCell ?_ (by simp; try omega) _)) (hb1.mono (by simp))
  have X2 : Hid (∀ w', Below w1.heap.size w1 w' → w'.cell? ⟨w.heap.size, 1, none⟩ = some (.slice a n c)) := fun w' h => X1.out _ (hb1.trans (h.mono hb1.size))
  clear hb1 X1
  rcases eq_ways (wayC t way) 0 with ⟨⟨e1, e2⟩, e3⟩ | ⟨⟨e1, e2⟩, e3⟩
  · obtain ⟨_, h24, hway⟩ := wayC_ok e3
    have HWAY := Lib.hid hway
    have HR : Hid (crossR t way = (crN t.2.1 way (q - 1), 0)) := by unfold Hid crossR; rw [if_pos e3, hq.out]
    rw [hq.out] at h24
    rw [e3]
    clear hway e3 e1 e2
    go_wp2
    go_loopw [7, 8] (fun s i wr => ∃ k : Nat, k + 1 ≤ max q 1 ∧ i = .int .i64 ((k : Int) + 1) ∧ s = .int .i64 (crN t.2.1 way k) ∧ Hid (Below w1.heap.size w1 wr)) (fun _ i _ => (max q 1) - (intOf i).toNat)
    case atStart => exact ⟨0, by omega, rfl, rfl, Below.refl _ _⟩
    case round =>
      obtain ⟨k, hk, rfl, rfl, HBEL⟩ := hrel
      have HBW : Hid (Below w.heap.size w wr) := HB1.out.trans (HBEL.out.mono HB1.out.size)
      have p1 := X2.out _ HBEL.out
      have hbd := crN_bd t.2.1 way k
      by_cases hlt : k + 1 < q
      · have hka : k < way.length := by rw [hq.out]; omega
        have hka1 : k + 1 < way.length := by rw [hq.out]; omega
        obtain ⟨i, hi, hin⟩ := HWAY.out k hka
        obtain ⟨j, hj, hjn⟩ := HWAY.out (k + 1) hka1
        have hz0 := zoneAt_of hka hi hin
        have hz1 := zoneAt_of hka1 hj hjn
        have HS : Hid (crN t.2.1 way (k + 1) = crN t.2.1 way k + (if t.2.1[i] = t.2.1[j] then 0 else 1)) := by unfold Hid; rw [← hz0, ← hz1]; rfl
        obtain ⟨bx, ox, rfl, hbx, x0⟩ := (HX.out _ HBW.out).at_ k hka
        obtain ⟨bx', ox', hxe, _, x1⟩ := (HX.out _ HBW.out).at_ (k + 1) hka1
        injection hxe with hxe
        injection hxe with e4 e5
        subst e4 e5
        rw [hi] at x0
        rw [hj] at x1
        obtain ⟨ba, oa, rfl, hba, y0⟩ := (HA.out _ HBW.out).at_ i hin
        obtain ⟨ba', oa', hae, _, y1⟩ := (HA.out _ HBW.out).at_ j hjn
        injection hae with hae
        injection hae with e4 e5
        subst e4 e5
        rw [hn.out] at hin hjn
        generalize crN t.2.1 way k = s at HS hbd
        generalize t.2.1[i] = u at y0 HS
        generalize t.2.1[j] = v at y1 HS
        clear hz0 hz1 hi hj hka hka1
        have hk0 : (0 : Int) ≤ (k : Int) := by omega
        have hk1 : (k : Int) + 1 < (q : Int) := by omega
        have hk2 : (k : Int) < (q : Int) := by omega
        have hi0 : (i : Int) < (n : Int) := by omega
        have hj0 : (j : Int) < (n : Int) := by omega
        rcases eq_ways u v with ⟨⟨f1, f2⟩, f3⟩ | ⟨⟨f1, f2⟩, f3⟩
        · have HN : Hid (crN t.2.1 way (k + 1) = s) := by unfold Hid; rw [HS.out, if_pos f3]; omega
          clear f3 HS
          go_wp2_with fail
          go_quiet (fail)
          go_wp2
          go_roundw
          case rel => exact ⟨k + 1, by omega, by go_num, by rw [HN.out], Below.drewN' HBEL.out _⟩
          case measure => simp [intOf]; omega
        · have HN : Hid (crN t.2.1 way (k + 1) = s + 1) := by unfold Hid; rw [HS.out, if_neg f3]
          clear f3 HS
          go_wp2_with fail
          go_quiet (fail)
          go_wp2
          go_roundw
          case rel => exact ⟨k + 1, by omega, by go_num, by rw [HN.out], Below.drewN' HBEL.out _⟩
          case measure => simp [intOf]; omega
      · have hkq : k = q - 1 := by omega
        have HB := Lib.hid HBW.out
        have hlt' : ¬ (k : Int) + 1 < (q : Int) := by omega
        go_wp2
        go_ret2
        rw [HR.out]
        exact ⟨rfl, HBW.out⟩
  · have HR : Hid (crossR t way = (0, wayC t way)) := by unfold Hid crossR; rw [if_neg e3]
    clear e3
    go_wp2
    go_ret2
    rw [HR.out]
    exact ⟨rfl, HB1.out⟩
end Go.Proofs.Ytfejgckimlgopaa
