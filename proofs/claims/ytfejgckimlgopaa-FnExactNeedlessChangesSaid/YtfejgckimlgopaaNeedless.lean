/-
  NeedlessChanges: the model's walk (a table of the zones' levels) and the program's (levels at the ticks before).
-/
import Derived.Test.YtfejgckimlgopaaSelZ
namespace Go.Proofs.Ytfejgckimlgopaa
open Go.RowKit

def needB (cs : List C3) (c : C3) : Bool := levH (hisL cs c.2.1) (c.1 - 1) == c.2.2
/-- The changes among the first k that change nothing. -/
def needL (cs : List C3) (k : Nat) : List Int := ((List.range k).filter fun (j : Nat) => (cs[j]?).any (needB cs)).map fun (j : Nat) => (j : Int)
theorem needL_hit {cs : List C3} {k : Nat} (hk : k < cs.length) (h : needB cs cs[k] = true) : needL cs (k + 1) = needL cs k ++ [(k : Int)] := by
  unfold needL
  rw [List.range_succ, List.filter_append, List.map_append]
  simp [hk, h]
theorem needL_miss {cs : List C3} {k : Nat} (hk : k < cs.length) (h : needB cs cs[k] = false) : needL cs (k + 1) = needL cs k := by
  unfold needL
  rw [List.range_succ, List.filter_append, List.map_append]
  simp [hk, h]
theorem needL_len (cs : List C3) (k : Nat) : (needL cs k).length ≤ k := by
  unfold needL
  rw [List.length_map]
  exact Nat.le_trans (List.length_filter_le _ _) (by simp)
noncomputable def needR (t : TZoned) : List Int × Int := if zc t = 0 then (needL t.2.2 t.2.2.length, 0) else ([], zc t)
theorem needR_len {t : TZoned} : (needR t).1.length ≤ 1048576 := by
  unfold needR
  split
  · rename_i h
    have := (zc_ok h).2.2.2.1
    exact Nat.le_trans (needL_len _ _) (by omega)
  · simp
/-- The level ahead of a change is that of the zone's changes before it. -/
theorem levH_before' {cs : List C3} (hs : cs.Pairwise ltC) {i : Nat} (hi : i < cs.length) {z τ : Int} (hz : (cs[i]).2.1 = z) (hτ : (cs[i]).1 = τ) : levH (hisL cs z) (τ - 1) = lastL (hisL (cs.take i) z) := by
  unfold levH hisL
  rw [List.filter_filter]
  have e1 : cs = cs.take i ++ cs.drop i := (List.take_append_drop i cs).symm
  have hd : (cs.drop i).filter (fun c => decide (c.1 ≤ τ - 1) && c.2.1 == z) = [] := by
    rw [List.filter_eq_nil_iff]
    intro x hx
    obtain ⟨j, hj, rfl⟩ := List.getElem_of_mem hx
    rw [List.getElem_drop]
    have hij : i + j < cs.length := by simp at hj; omega
    by_cases e : j = 0
    · subst e
      simp only [Nat.add_zero, hτ]
      simp; omega
    · have := List.pairwise_iff_getElem.1 hs i (i + j) hi hij (by omega)
      unfold ltC at this
      simp; omega
  have ht : (cs.take i).filter (fun c => decide (c.1 ≤ τ - 1) && c.2.1 == z) = (cs.take i).filter (fun c => c.2.1 == z) := by
    apply List.filter_congr
    intro x hx
    obtain ⟨j, hj, rfl⟩ := List.getElem_of_mem hx
    rw [List.getElem_take]
    have hj' : j < i := by simp at hj; omega
    have := List.pairwise_iff_getElem.1 hs j i (by omega) hi hj'
    unfold ltC at this
    by_cases e : (cs[j]).2.1 = z
    · simp [e]; omega
    · simp [e]
  congr 1
  conv => lhs; rw [e1]
  rw [List.filter_append, hd, List.append_nil, ht]
theorem levH_before {cs : List C3} (hs : cs.Pairwise ltC) {i : Nat} (hi : i < cs.length) : levH (hisL cs (cs[i]).2.1) ((cs[i]).1 - 1) = lastL (hisL (cs.take i) (cs[i]).2.1) := levH_before' hs hi rfl rfl
set_option maxRecDepth 20000 in
set_option maxHeartbeats 4000000 in
theorem implNeedlessChanges_any (w : World) {a b : Option Addr} {n c m d : Nat} (t : TZoned) (hn : Hid (t.2.1.length = n)) (ha : RI w a t.2.1) (hs : n ≤ 1048576) (hm : Hid (t.2.2.length = m)) (hb : RR 3 cChange w b t.2.2) (hs2 : m ≤ 1048576) (wf : Hid (wfZoned t)) :
    Calls Try.prog 53 #[.agg #[.int .i64 t.1, .slice a n c, .slice b m d]] w (GivesIs 2 (needR t) w) := by
  have HZ : Hid (∀ w', Below w.heap.size w w' → ZArg w' a n b m t) := fun w' h => (ZArg.mk hn ha hs hm hb hs2 wf).below h
  have HB : Hid (∀ w', Below w.heap.size w w' → RR 3 cChange w' b t.2.2) := fun w' h => hb.below h
  have ZB := Lib.hid (zbox w t.1 a n c b m d)
  have HI : Hid (∃ i0 : TypeInfo, Try.prog.info? 2 = some i0 ∧ i0.zero = some (.int .i64 0) ∧ i0.size = 1 ∧ i0.bytes = 8) := info_parts info2
  clear ha hb
  go_enter Try.func53, Try.ntmps53
  go_wp2_with fail
  refine (checkZoned_any t a b n c m d _ (HZ.out _ (by repeat (first | exact Below.refl _ _ | refine Below.alloc ?_ (by simp; try omega) _ | refine Below.setCell ?_ (by simp; try omega) _)))).mono ?_
  rintro e w1 ⟨rfl, hb1⟩
  have HB1 : Hid (Below w.heap.size w w1) := Below.trans (by repeat (first | exact Below.refl _ _ | refine Below.alloc ?_ (by simp; try omega) _ | refine Below.setCell ?_ (by simp; try omega) _)) (hb1.mono (by simp))
  have Z1 : Hid (∀ w', Below w1.heap.size w1 w' → w'.cell? ⟨w.heap.size, 0, none⟩ = some (.int .i64 t.1) ∧ w'.cell? ⟨w.heap.size, 1, none⟩ = some (.slice a n c) ∧ w'.cell? ⟨w.heap.size, 2, none⟩ = some (.slice b m d)) := fun w' h => ZB.out _ (hb1.trans (h.mono hb1.size))
  have hw1 := HB1.out.size
  obtain ⟨p0, p1, p2⟩ := Z1.out _ (Below.refl _ _)
  clear hb1
  rcases eq_ways (zc t) 0 with ⟨⟨e1, e2⟩, e3⟩ | ⟨⟨e1, e2⟩, e3⟩
  · have HR : Hid (needR t = (needL t.2.2 m, 0)) := by unfold Hid needR; rw [if_pos e3, hm.out]
    have hzp := zc_ok e3
    have HPW := Lib.hid (zon_pairs hzp)
    have HCH : Hid (∀ i (h : i < t.2.2.length), chB t.1 t.2.2[i] = true) := hzp.2.2.2.2.2.1
    have hfew : m ≤ 60 := by have := hzp.2.2.2.1; rw [hm.out] at this; exact this
    have HO := Lib.hid (historiesOf_any t a b n c m d w1 (HZ.out _ HB1.out))
    rw [e3]
    clear e3 e1 e2 hzp
    go_wp2_with fail
    refine HO.out.mono ?_
    rintro e w2 ⟨rfl, ⟨V, hV⟩, hb2⟩
    have HB2 : Hid (Below w.heap.size w w2) := HB1.out.trans (hb2.mono hw1)
    have Z2 : Hid (∀ w', Below w2.heap.size w2 w' → w'.cell? ⟨w.heap.size, 2, none⟩ = some (.slice b m d)) := fun w' h => (Z1.out _ (hb2.trans (h.mono hb2.size))).2.2
    have q2 := Z2.out _ (Below.refl _ _)
    have hw2 := HB2.out.size
    have HV : Hid (∀ W, Below w2.heap.size w2 W → Hist V (w1.heap.size + 1) m t.2.2 W) := fun W h => hV.below h
    clear hV hb2 p0 p1 p2 HO
    go_wp2
    go_loopw [6, 19] (fun vo iv wr => ∃ (k i cap : Nat) (ao : Option Addr) (l : List Int), k ≤ m ∧ i ≤ k ∧ vo = .slice ao i cap ∧ iv = .int .i64 (k : Int) ∧ Hid (Below w2.heap.size w2 wr) ∧ Hid (l = needL t.2.2 k) ∧ Hid (l.length = i) ∧ Hid (wr.ownsRow w2.heap.size 2 1 (.slice ao i cap) i (l.map (Value.int .i64)))) (fun _ iv _ => m - (intOf iv).toNat)
    case atStart => exact ⟨0, 0, 0, none, [], by omega, by omega, rfl, rfl, Below.refl _ _, rfl, rfl, World.ownsRow_nil _ _ _ _⟩
    case round =>
      obtain ⟨k, i, cap, ao, l, hk, hik, rfl, rfl, HBEL, HL, HLEN, HOWN⟩ := hrel
      have HBW : Hid (Below w.heap.size w wr) := HB2.out.trans (HBEL.out.mono hw2)
      have hwr := HBEL.out.size
      by_cases hlt : k < m
      · have hka : k < t.2.2.length := by rw [hm.out]; exact hlt
        have HHIT : Hid (needB t.2.2 t.2.2[k] = true → needL t.2.2 (k + 1) = needL t.2.2 k ++ [(k : Int)]) := fun h => needL_hit hka h
        have HMISS : Hid (needB t.2.2 t.2.2[k] = false → needL t.2.2 (k + 1) = needL t.2.2 k) := fun h => needL_miss hka h
        have hch := chB_parts (HCH.out k hka)
        have hwf : (Lit.int .i64 (t.2.2[k]).2.1).wf = true := (wf.out.2.2 _ (List.getElem_mem hka)).2.1
        obtain ⟨bb, ob, rfl, hbl, hx⟩ := (HB.out _ HBW.out).at_ k hka
        have x0 := hx 0 _ rfl
        have x1 := hx 1 _ rfl
        have x2 := hx 2 _ rfl
        simp only [Nat.add_zero] at x0
        generalize t.2.2[k] = u at x0 x1 x2 HHIT HMISS hch hwf
        obtain ⟨u1, u2, u3⟩ := u
        dsimp only at x0 x1 x2 hch hwf
        obtain ⟨hc1, hc2, hc3⟩ := hch
        have hk0 : (0 : Int) ≤ (k : Int) := by omega
        have hk1 : (k : Int) < (m : Int) := by omega
        have HO2 := HOWN
        have HGE : Hid (∀ q, (Value.slice ao i cap).ownBlock = some q → w2.heap.size ≤ q) := fun q hq => (HO2.out.lt q hq).1
        obtain ⟨ah, ch, hv, _⟩ := (HV.out _ HBEL.out).2.shape u2
        have HLK : Hid (∀ W, Below wr.heap.size wr W → (Instr.lookup 85 (.map (some (w1.heap.size + 1))) (.int .i64 u2) false).run Try.prog W = .ok (.slice ah (hisL t.2.2 u2).length ch) W) := fun W h => by
          have := (HV.out W (HBEL.out.trans (h.mono hwr))).1.look Try.underlying2 Try.underlying85 (zeroHist W) hwf
          rw [hv] at this
          exact this
        have hw : IntKind.i64.wrap (u1 - 1) = u1 - 1 := IntWalk.i64_in _ (by omega)
        have LV : Hid (∀ W, Below wr.heap.size wr W → Calls Try.prog 78 #[.slice ah (hisL t.2.2 u2).length ch, .int .i64 (IntKind.i64.wrap (u1 - 1))] W fun e w' => e = .returned (.int .i64 (levH (hisL t.2.2 u2) (u1 - 1))) ∧ Below W.heap.size W w') := fun W h => by
          rw [hw]
          obtain ⟨ah', ch', hv', hr'⟩ := (HV.out W (HBEL.out.trans (h.mono hwr))).2.shape u2
          rw [hv] at hv'
          injection hv' with h1 h2 h3
          subst h1 h3
          exact levelAt_any (hisL t.2.2 u2) ah _ ch (u1 - 1) W (Lib.hid rfl) (Nat.le_trans (hisL_len _ _) (by rw [hm.out]; exact hs2)) (hisL_rising HPW.out u2) hr'
        obtain ⟨lv, hlv⟩ : ∃ lv, levH (hisL t.2.2 u2) (u1 - 1) = lv := ⟨_, rfl⟩
        rw [hlv] at LV
        clear hx hv hw hwf
        rcases eq_ways lv u3 with ⟨⟨g1, g2⟩, g3⟩ | ⟨⟨g1, g2⟩, g3⟩
        · have HN := Lib.hid (HHIT.out (by unfold needB; dsimp only; rw [hlv]; exact g1))
          clear HHIT HMISS g3 hlv
          go_wp2_with fail
          go_region_held3 (fun w' => w'.cell? ⟨wr.heap.size, 0, none⟩ = some (.int .i64 u1) ∧ w'.cell? ⟨wr.heap.size, 1, none⟩ = some (.int .i64 u2) ∧ w'.cell? ⟨wr.heap.size, 2, none⟩ = some (.int .i64 u3)) (first | (simp [go_sem]; done) | exact ⟨keepS hb3 (by simp [go_sem]), keepS hb3 (by simp [go_sem]), keepS hb3 (by simp [go_sem])⟩) (first | (with_reducible refine upon_run (HLK.out _ ?_) ?_; (focus ((repeat (first | exact Below.refl _ _ | refine Below.drew ?_ | refine Below.drewN' ?_ _ | refine Below.alloc ?_ (by first | (simp; done) | (simp; omega)) _ | refine Below.setCell ?_ (by first | (simp; done) | (simp; omega)) _)); done))) | (go_at_call 78; refine (LV.out _ (by (repeat (first | exact Below.refl _ _ | refine Below.drew ?_ | refine Below.drewN' ?_ _ | refine Below.alloc ?_ (by first | (simp; done) | (simp; omega)) _ | refine Below.setCell ?_ (by first | (simp; done) | (simp; omega)) _)); done)).mono ?_; rintro e w3 ⟨rfl, hb3⟩))
          all_goals
            have HB3 : Hid (Below w2.heap.size w2 w3) := HBEL.out.trans (Below.trans (by (repeat (first | exact Below.refl _ _ | refine Below.drew ?_ | refine Below.drewN' ?_ _ | refine Below.alloc ?_ (by first | (simp; done) | (simp; omega)) _ | refine Below.setCell ?_ (by first | (simp; done) | (simp; omega)) _)); done) (hb3.mono (by simp)) |>.mono hwr)
            have HO3 : Hid (w3.ownsRow w2.heap.size 2 1 (.slice ao i cap) i (l.map (Value.int .i64))) := ((Row.of HO2.out).below (Below.trans (by (repeat (first | exact Below.refl _ _ | refine Below.drew ?_ | refine Below.drewN' ?_ _ | refine Below.alloc ?_ (by first | (simp; done) | (simp; omega)) _ | refine Below.setCell ?_ (by first | (simp; done) | (simp; omega)) _)); done) (hb3.mono (by simp)))).1
            have hw3 := HB3.out.size
            clear hb3 x0 x1 x2 LV HLK
            go_wp2_with (at_builtin; refine wpList_append_lies _ rfl _ _ 24 rfl w2.heap.size 2 HI.out.choose (.int .i64 0) 1 8 Try.underlying24 HI.out.choose_spec.1 HI.out.choose_spec.2.1 HI.out.choose_spec.2.2.1 HI.out.choose_spec.2.2.2 rfl (by decide) (.slice ao i cap) i (l.map (Value.int .i64)) rfl (HO3.out.alloc _) ⟨w3.heap.size, 0, none⟩ 1 1 [.int .i64 (k : Int)] rfl rfl (news_num _ _ _) (by intro u hu; simp at hu; subst hu; rfl) (by omega) (by unfold maxLen; omega) (by omega) (by simp; omega) (w3.heap.size + 1) (by simp) ?_)
            intro g cap' w4 hown1 hgrow hat hlt2
            have B5 : Hid (Below w2.heap.size w2 w4) := (HB3.out.alloc hw3 _).grown hgrow (by simp; omega) HGE.out
            have O1 : Hid (w4.ownsRow w2.heap.size 2 1 (.slice (some ⟨g, 0, none⟩) (i + 1) cap') (i + 1) ((l ++ [(k : Int)]).map (Value.int .i64))) := by
              unfold Hid; rw [List.map_append]; exact hown1
            clear hown1 hgrow hat hlt2
            go_wp2
            go_roundw
            case rel => exact ⟨k + 1, i + 1, cap', _, l ++ [(k : Int)], by omega, by omega, rfl, by go_num, B5, by unfold Hid; rw [HN.out, ← HL.out], by unfold Hid; rw [List.length_append, HLEN.out]; rfl, O1⟩
            case measure => simp [intOf]; omega
        · have HN := Lib.hid (HMISS.out (by unfold needB; dsimp only; rw [hlv]; exact g1))
          clear HHIT HMISS g3 hlv
          go_wp2_with fail
          go_region_held3 (fun w' => w'.cell? ⟨wr.heap.size, 0, none⟩ = some (.int .i64 u1) ∧ w'.cell? ⟨wr.heap.size, 1, none⟩ = some (.int .i64 u2) ∧ w'.cell? ⟨wr.heap.size, 2, none⟩ = some (.int .i64 u3)) (first | (simp [go_sem]; done) | exact ⟨keepS hb3 (by simp [go_sem]), keepS hb3 (by simp [go_sem]), keepS hb3 (by simp [go_sem])⟩) (first | (with_reducible refine upon_run (HLK.out _ ?_) ?_; (focus ((repeat (first | exact Below.refl _ _ | refine Below.drew ?_ | refine Below.drewN' ?_ _ | refine Below.alloc ?_ (by first | (simp; done) | (simp; omega)) _ | refine Below.setCell ?_ (by first | (simp; done) | (simp; omega)) _)); done))) | (go_at_call 78; refine (LV.out _ (by (repeat (first | exact Below.refl _ _ | refine Below.drew ?_ | refine Below.drewN' ?_ _ | refine Below.alloc ?_ (by first | (simp; done) | (simp; omega)) _ | refine Below.setCell ?_ (by first | (simp; done) | (simp; omega)) _)); done)).mono ?_; rintro e w3 ⟨rfl, hb3⟩))
          all_goals
            have HB3 : Hid (Below w2.heap.size w2 w3) := HBEL.out.trans (Below.trans (by (repeat (first | exact Below.refl _ _ | refine Below.drew ?_ | refine Below.drewN' ?_ _ | refine Below.alloc ?_ (by first | (simp; done) | (simp; omega)) _ | refine Below.setCell ?_ (by first | (simp; done) | (simp; omega)) _)); done) (hb3.mono (by simp)) |>.mono hwr)
            have HO3 : Hid (w3.ownsRow w2.heap.size 2 1 (.slice ao i cap) i (l.map (Value.int .i64))) := ((Row.of HO2.out).below (Below.trans (by (repeat (first | exact Below.refl _ _ | refine Below.drew ?_ | refine Below.drewN' ?_ _ | refine Below.alloc ?_ (by first | (simp; done) | (simp; omega)) _ | refine Below.setCell ?_ (by first | (simp; done) | (simp; omega)) _)); done) (hb3.mono (by simp)))).1
            clear hb3 x0 x1 x2 LV HLK
            go_wp2
            go_roundw
            case rel => exact ⟨k + 1, i, cap, ao, l, by omega, by omega, rfl, by go_num, HB3, by unfold Hid; rw [HN.out, ← HL.out], HLEN, HO3⟩
            case measure => simp [intOf]; omega
      · have hkm : k = m := by omega
        subst hkm
        have HO : Hid (wr.ownsRow w.heap.size 2 1 (.slice ao i cap) i (l.map (Value.int .i64))) := own_lo HOWN.out hw2
        have HR2 : Hid (needR t = (l, 0)) := by unfold Hid; rw [HR.out, HL.out]
        clear HOWN
        go_wp2
        go_ret2
        exact givesIs_of HR2.out HBW.out HLEN.out HO.out
  · have HR : Hid (needR t = ([], zc t)) := by unfold Hid needR; rw [if_neg e3]
    clear e3
    go_wp2
    go_ret2
    exact givesIs_nil HR.out HB1.out
end Go.Proofs.Ytfejgckimlgopaa
