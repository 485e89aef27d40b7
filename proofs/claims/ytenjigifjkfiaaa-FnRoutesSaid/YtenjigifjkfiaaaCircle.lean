/-
  The walks of CircleStations, the model's and the program's: the stations from which a carrier never stops.
-/
import Derived.Test.YtenjigifjkfiaaaEndOf
import Derived.Test.YtenjigifjkfiaaaLawRow
namespace Go.Proofs.Ytenjigifjkfiaaa
open Go.RowKit

/-- Those among the first k stations from which a carrier never stops. -/
def circ (s : Int) (ts : List T3) (set : List Int) (k : Nat) : List Int := ((List.range k).filter fun (i : Nat) => (runF ts set (-1) s.toNat (i : Int)).isNone).map fun (i : Nat) => (i : Int)
theorem circ_stop {s : Int} {ts : List T3} {set : List Int} {k : Nat} {p : List Int × Int} (h : runF ts set (-1) s.toNat (k : Int) = some p) : circ s ts set (k + 1) = circ s ts set k := by
  unfold circ
  rw [List.range_succ, List.filter_append]
  simp [h]
theorem circ_never {s : Int} {ts : List T3} {set : List Int} {k : Nat} (h : runF ts set (-1) s.toNat (k : Int) = none) : circ s ts set (k + 1) = circ s ts set k ++ [(k : Int)] := by
  unfold circ
  rw [List.range_succ, List.filter_append, List.map_append]
  simp [h]
theorem circ_len (s : Int) (ts : List T3) (set : List Int) (k : Nat) : (circ s ts set k).length ≤ k := by
  unfold circ
  rw [List.length_map]
  exact Nat.le_trans (List.length_filter_le _ _) (by simp)
/-- What CircleStations returns. -/
def circleOf (s : Int) (ts : List T3) (set : List Int) : List Int × Int := if setB s ts set = true then (circ s ts set s.toNat, 0) else ([], 1)
theorem circleOf_len (s : Int) (ts : List T3) (set : List Int) : (circleOf s ts set).1.length ≤ 1048576 := by
  unfold circleOf
  split
  · rename_i h
    obtain ⟨_, h10, _, _⟩ := netB_parts (setB_parts h).1
    have := circ_len s ts set s.toNat
    simp only
    omega
  · simp
theorem setCode_none (s : Int) (ts : List T3) (set : List Int) : setCode s ts set [] = if setB s ts set = true then 0 else 1 := by
  unfold setCode
  split
  · rename_i h
    exact codeOf_ok (setB_parts h).1 (fun k hk => absurd hk (by simp))
  · rfl

set_option maxHeartbeats 2000000 in
theorem implCircle_any (s : Int) (a b : Option Addr) (ts : List T3) (set : List Int) (n ca m cb : Nat) (w : World) (hn : Hid (ts.length = n)) (ha : RT w a ts) (hmax : n ≤ 1048576) (hm : Hid (set.length = m)) (hb : RI w b set) (hm1 : m ≤ 1048576) :
    Calls Try.prog 17 #[.agg #[.int .i64 s, .slice a n ca], .slice b m cb] w (GivesL (circleOf s ts set) w) := by
  have HA : Hid (∀ w', Below w.heap.size w w' → RT w' a ts) := fun w' h => ha.below h
  have HB : Hid (∀ w', Below w.heap.size w w' → RI w' b set) := fun w' h => hb.below h
  clear ha hb
  have HI : Hid (∃ i0 : TypeInfo, Try.prog.info? 2 = some i0 ∧ i0.zero = some (.int .i64 0) ∧ i0.size = 1 ∧ i0.bytes = 8) := info_parts info2
  go_enter Try.func17, Try.ntmps17
  go_wp2_with fail
  refine (checkSetting_any s a b none ts set [] n ca m cb 0 0 _ hn (HA.out _ (by repeat (first | exact Below.refl _ _ | refine Below.alloc ?_ (by simp; try omega) _ | refine Below.setCell ?_ (by simp; try omega) _))) hmax hm (HB.out _ (by repeat (first | exact Below.refl _ _ | refine Below.alloc ?_ (by simp; try omega) _ | refine Below.setCell ?_ (by simp; try omega) _))) hm1 rfl (.inl rfl) (by omega)).mono ?_
  rintro e w1 ⟨rfl, hb1⟩
  have q0 := (hb1.cell (p := ⟨w.heap.size, 0, none⟩) (by simp)).trans (by simp [go_sem] : _ = some (.int .i64 s))
  have q1 := (hb1.cell (p := ⟨w.heap.size, 1, none⟩) (by simp)).trans (by simp [go_sem] : _ = some (.slice a n ca))
  have B1 := Lib.hid (Below.trans (show Below w.heap.size w (w.alloc (.cells #[.int .i64 s, .slice a n ca] 26)) from (by repeat (first | exact Below.refl _ _ | refine Below.alloc ?_ (by simp; try omega) _ | refine Below.setCell ?_ (by simp; try omega) _))) (hb1.mono (by simp)))
  have hz1 := World.block_lt_of_cell? _ _ q0
  simp only at hz1
  clear hb1
  rw [setCode_none]
  cases hv : setB s ts set with
  | false =>
    have HR : Hid (circleOf s ts set = ([], 1)) := by unfold Hid circleOf; rw [hv]; rfl
    rw [if_neg (by decide)]
    go_wp2
    go_ret2
    exact givesL_nil HR.out B1.out
  | true =>
    have HR : Hid (circleOf s ts set = (circ s ts set s.toNat, 0)) := by unfold Hid circleOf; rw [hv]; rfl
    have HS := Lib.hid hv
    obtain ⟨hnet, _, _⟩ := setB_parts hv
    obtain ⟨hs1, hs2, _, _⟩ := netB_parts hnet
    have hsn : Hid (((s.toNat : Nat) : Int) = s) := by unfold Hid; omega
    have LO : Hid (w.heap.size ≤ w1.heap.size) := B1.out.size
    have CL : Hid (∀ k, (circ s ts set k).length ≤ k) := circ_len s ts set
    rw [if_pos rfl]
    clear hv hnet
    go_wp2
    go_loopw [7, 19] (fun vo iv wr => ∃ (i cap k : Nat) (ao : Option Addr) (l : List Int), i ≤ k ∧ k ≤ s.toNat ∧ vo = .slice ao i cap ∧ iv = .int .i64 (k : Int) ∧ Below w1.heap.size w1 wr ∧ Hid (l.length = i) ∧ Hid (l = circ s ts set k) ∧ Hid (wr.ownsRow w1.heap.size 2 1 (.slice ao i cap) i (l.map (Value.int .i64)))) (fun _ iv _ => s.toNat - (intOf iv).toNat)
    case atStart => exact ⟨0, 0, 0, none, [], Nat.le_refl _, Nat.zero_le _, rfl, rfl, Below.refl _ _, rfl, rfl, World.ownsRow_nil _ _ _ _⟩
    case round =>
      obtain ⟨i, cap, k, ao, l, hik, hk, rfl, rfl, hbel, HL, HC, HOWN⟩ := hrel
      have r0 := (hbel.cell (p := ⟨w.heap.size, 0, none⟩) hz1).trans q0
      have r1 := (hbel.cell (p := ⟨w.heap.size, 1, none⟩) hz1).trans q1
      have HP := Lib.hid (And.intro q0 q1)
      have B2 := Lib.hid (two_worldsC B1.out hbel)
      have HBEL := Lib.hid hbel
      clear hbel q0 q1
      by_cases hlt : (k : Int) < s
      · have HX : Hid (stB s (k : Int) = true) := by unfold Hid stB; exact decide_eq_true (by omega)
        have hlt' : Hid (k < s.toNat) := by unfold Hid; have := hsn.out; omega
        have hz2 := World.block_lt_of_cell? _ _ r0
        simp only at hz2
        go_wp2_with fail
        refine (endOf_any s (k : Int) a b ts set n ca m cb _ hn (HA.out _ B2.out) hm (HB.out _ B2.out) HS.out HX.out).mono ?_
        rintro e w2 ⟨rfl, hb2⟩
        have B3 := Lib.hid (two_worldsC HBEL.out hb2)
        have B4 := Lib.hid (two_worldsC B2.out hb2)
        have O2 := Lib.hid ((Row.of HOWN.out).below hb2).1
        have t0 := (hb2.cell (p := ⟨w.heap.size, 0, none⟩) hz2).trans r0
        have hws : w1.heap.size ≤ w2.heap.size := B3.out.size
        clear hb2 r0 r1 hz2
        cases hrun : runF ts set (-1) s.toNat (k : Int) with
        | none =>
          have HN := Lib.hid (circ_never hrun)
          have HGE : Hid (∀ q, (Value.slice ao i cap).ownBlock = some q → w1.heap.size ≤ q) := fun q hq => own_lo_block HOWN.out hq
          have HE : endRes s ts set (k : Int) = (0, false) := by unfold endRes; rw [hrun]
          rw [HE]
          clear HE
          clear hrun
          go_wp2_with (at_builtin; refine wpList_append_lies _ rfl _ _ 28 rfl w1.heap.size 2 HI.out.choose (.int .i64 0) 1 8 Try.underlying28 HI.out.choose_spec.1 HI.out.choose_spec.2.1 HI.out.choose_spec.2.2.1 HI.out.choose_spec.2.2.2 rfl (by decide) (.slice ao i cap) i (l.map (Value.int .i64)) rfl (O2.out.alloc _) ⟨w2.heap.size, 0, none⟩ 1 1 [.int .i64 (k : Int)] rfl rfl (news_one _ _ _) (by intro u hu; simp at hu; subst hu; rfl) (by omega) (by unfold maxLen; omega) (by omega) (by simp; omega) (w2.heap.size + 1) (by simp) ?_)
          intro g cap' w3 hown1 hgrow hat hlt2
          have B5 : Hid (Below w1.heap.size w1 w3) := (B3.out.alloc hws _).grown hgrow (by simp; omega) HGE.out
          have O1 : Hid (w3.ownsRow w1.heap.size 2 1 (.slice (some ⟨g, 0, none⟩) (i + 1) cap') (i + 1) ((l ++ [(k : Int)]).map (Value.int .i64))) := by
            unfold Hid; rw [List.map_append]; exact hown1
          have u0 := (B5.out.cell (p := ⟨w.heap.size, 0, none⟩) hz1).trans HP.out.1
          clear hown1 hgrow hat hlt2 t0
          go_wp2
          go_roundw
          case rel => exact ⟨i + 1, cap', k + 1, _, l ++ [(k : Int)], by omega, by have := hlt'.out; omega, rfl, by go_num, B5.out, by unfold Hid; rw [List.length_append, HL.out]; rfl, by unfold Hid; rw [HN.out, ← HC.out], O1.out⟩
          case measure => have := hlt'.out; simp [intOf]; omega
        | some p =>
          obtain ⟨l', z⟩ := p
          have HN := Lib.hid (circ_stop hrun)
          have HE : endRes s ts set (k : Int) = (z, true) := by unfold endRes; rw [hrun]
          rw [HE]
          clear HE
          clear hrun
          go_wp2
          go_roundw
          case rel => exact ⟨i, cap, k + 1, ao, l, by omega, by have := hlt'.out; omega, rfl, by go_num, B3.out, HL.out, by unfold Hid; rw [HN.out, ← HC.out], O2.out⟩
          case measure => have := hlt'.out; simp [intOf]; omega
      · have HE : Hid (l = circ s ts set s.toNat) := by unfold Hid; rw [HC.out]; congr 1; have := hsn.out; omega
        go_wp2
        go_ret2
        exact givesL_of (by rw [HR.out, ← HE.out]) B2.out HL.out (own_lo HOWN.out LO.out)

end Go.Proofs.Ytenjigifjkfiaaa
