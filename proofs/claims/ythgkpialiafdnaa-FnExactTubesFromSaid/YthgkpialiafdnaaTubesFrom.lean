/-
  The walks of TubesFrom, the model's and the program's.
-/
import Derived.Test.YthgkpialiafdnaaTubesFromBy
import Derived.Test.YthgkpialiafdnaaLawRow
import Derived.Deep.RegionHeld3
namespace Go.Proofs.Ythgkpialiafdnaa
open Go.RowKit Go.Maps

/-- What TubesFrom returns. -/
def tubesOf (s : Int) (ts : List T3) (n : Nat) (x : Int) : List Int × Int := if codeOf s ts [x] = 0 then (fromL ts n x, 0) else ([], codeOf s ts [x])
theorem fromL_len (ts : List T3) (k : Nat) (x : Int) : (fromL ts k x).length ≤ k := by
  unfold fromL
  rw [List.length_map]
  exact Nat.le_trans (List.length_filter_le _ _) (by simp)
theorem tubesOf_len {s : Int} {ts : List T3} {n : Nat} (hn : ts.length = n) (x : Int) : (tubesOf s ts n x).1.length ≤ 1048576 := by
  unfold tubesOf
  split
  · rename_i h
    obtain ⟨_, _, h24, _⟩ := netB_parts (codeOf_ok_parts h).1
    have := fromL_len ts n x
    simp only
    omega
  · simp

set_option maxHeartbeats 2000000 in
theorem implTubesFrom_any (s x : Int) (a : Option Addr) (ts : List T3) (n ca : Nat) (w : World) (hn : Hid (ts.length = n)) (ha : RT w a ts) (hmax : n ≤ 1048576) :
    Calls Try.prog 7 #[.agg #[.int .i64 s, .slice a n ca], .int .i64 x] w (GivesL (tubesOf s ts n x) w) := by
  have HA : Hid (∀ w', Below w.heap.size w w' → RT w' a ts) := fun w' h => ha.below h
  clear ha
  have HXY : RI ((w.alloc (.cells #[.int .i64 s, .slice a n ca] 31)).alloc (.cells #[.int .i64 x] 2)) (some ⟨w.heap.size + 1, 0, none⟩) [x] := by
    refine .inr ⟨w.heap.size + 1, 0, rfl, ?_⟩
    rintro (_ | k) hk
    · simp [go_sem]
    · exact absurd hk (by simp)
  go_enter Try.func7, Try.ntmps7
  go_wp2_with fail
  refine (checkStations_any s a _ ts [x] n ca 1 _ ((w.alloc (.cells #[.int .i64 s, .slice a n ca] 31)).alloc (.cells #[.int .i64 x] 2)) hn (HA.out _ (by repeat (first | exact Below.refl _ _ | refine Below.alloc ?_ (by simp; try omega) _ | refine Below.setCell ?_ (by simp; try omega) _))) hmax rfl HXY (by omega) (by omega)).mono ?_
  rintro e w1 ⟨rfl, hb1⟩
  have q0 := (hb1.cell (p := ⟨w.heap.size, 0, none⟩) (by simp; omega)).trans (by simp [go_sem] : _ = some (.int .i64 s))
  have q1 := (hb1.cell (p := ⟨w.heap.size, 1, none⟩) (by simp; omega)).trans (by simp [go_sem] : _ = some (.slice a n ca))
  have B1 := Lib.hid (Below.trans (show Below w.heap.size w ((w.alloc (.cells #[.int .i64 s, .slice a n ca] 31)).alloc (.cells #[.int .i64 x] 2)) from (by repeat (first | exact Below.refl _ _ | refine Below.alloc ?_ (by simp; try omega) _ | refine Below.setCell ?_ (by simp; try omega) _))) (hb1.mono (by simp; omega)))
  clear hb1 HXY
  rcases eq_ways (codeOf s ts [x]) 0 with ⟨⟨e1, e2⟩, e3⟩ | ⟨⟨e1, e2⟩, e3⟩
  · obtain ⟨hnet, hst⟩ := codeOf_ok_parts e3
    have hx := of_decide_eq_true (show decide (0 ≤ x ∧ x < s) = true from hst x (by simp))
    obtain ⟨_, h10, h24, _⟩ := netB_parts hnet
    have HR : Hid (tubesOf s ts n x = (fromL ts n x, 0)) := by unfold Hid tubesOf; rw [if_pos e3]
    have HN := Lib.hid hnet
    have hwf : (Lit.int .i64 x).wf = true := WalkArith.wf_i64 (by omega)
    have HMX : Hid (n < maxLen) := by unfold Hid maxLen; omega
    rw [e3]
    clear e1 e2 e3 hnet hst h10 h24
    go_wp2_with fail
    refine (tubesByFrom_any s a ts n ca _ hn (HA.out _ B1.out) HN.out).mono ?_
    rintro e w2 ⟨b, rfl, hg, hb2, hbs⟩
    have B2 := Lib.hid (two_worldsC B1.out hb2)
    have HLO : Hid (w.heap.size ≤ b + 1) := by unfold Hid; have := B1.out.size; omega
    obtain ⟨D, hown, hisD, hD⟩ := hg
    obtain ⟨v, hrun, hlk⟩ := groups_at hown HMX.out (keyOf_int_mk Try.underlying2 hwf)
    obtain ⟨zs, hat, hoi, _, _⟩ := looked_elim hlk
    have HZ : Hid (zs = fromL ts n x) := datum_eq hoi (hat.symm.trans (hD x))
    obtain ⟨va, vc, rfl⟩ := own_slice hoi
    have HOW := Lib.hid (own_lo hoi.1 HLO.out)
    clear hb2 hbs hown hisD hD hwf hlk hat hoi q0 q1
    go_wp2
    go_ret2
    exact givesL_of (by rw [HR.out, HZ.out]) B2.out rfl HOW.out
  · have HR : Hid (tubesOf s ts n x = ([], codeOf s ts [x])) := by unfold Hid tubesOf; rw [if_neg e3]
    clear e3
    generalize codeOf s ts [x] = c at HR e1 e2
    go_wp2
    go_ret2
    exact givesL_nil HR.out B1.out

set_option maxHeartbeats 2000000 in
theorem specTubesFrom_any (s x : Int) (a : Option Addr) (ts : List T3) (n ca : Nat) (w : World) (hn : Hid (ts.length = n)) (ha : RT w a ts) (hmax : n ≤ 1048576) :
    Calls Try.prog 5 #[.agg #[.int .i64 s, .slice a n ca], .int .i64 x] w (GivesL (tubesOf s ts n x) w) := by
  have HA : Hid (∀ w', Below w.heap.size w w' → RT w' a ts) := fun w' h => ha.below h
  have HI : Hid (∃ i0 : TypeInfo, Try.prog.info? 2 = some i0 ∧ i0.zero = some (.int .i64 0) ∧ i0.size = 1 ∧ i0.bytes = 8) := info_parts info2
  have HTW := Lib.hid (codeOf_twice s ts x)
  clear ha
  go_enter Try.func5, Try.ntmps5
  go_wp2_with fail
  refine (l02Code_any _ s x x a ts n ca (w.alloc (.cells #[.int .i64 s, .slice a n ca] 31)) hn (HA.out _ (by (repeat (first | exact Below.refl _ _ | refine Below.drew ?_ | refine Below.drewN' ?_ _ | refine Below.alloc ?_ (by first | (simp; done) | (simp; omega)) _ | refine Below.setCell ?_ (by first | (simp; done) | (simp; omega)) _)); done)) hmax (by simp [go_sem]) (by simp [go_sem])).mono ?_
  rintro e w1 ⟨rfl, hb1⟩
  have q0 := (hb1.cell (p := ⟨w.heap.size, 0, none⟩) (by simp)).trans (by simp [go_sem] : _ = some (.int .i64 s))
  have q1 := (hb1.cell (p := ⟨w.heap.size, 1, none⟩) (by simp)).trans (by simp [go_sem] : _ = some (.slice a n ca))
  have B1 := Lib.hid (Below.trans (show Below w.heap.size w (w.alloc (.cells #[.int .i64 s, .slice a n ca] 31)) from (by repeat (first | exact Below.refl _ _ | refine Below.alloc ?_ (by simp; try omega) _ | refine Below.setCell ?_ (by simp; try omega) _))) (hb1.mono (by simp)))
  have hz1 := World.block_lt_of_cell? _ _ q0
  simp only at hz1
  clear hb1
  rw [HTW.out]
  rcases eq_ways (codeOf s ts [x]) 0 with ⟨⟨e1, e2⟩, e3⟩ | ⟨⟨e1, e2⟩, e3⟩
  · obtain ⟨hnet, hst⟩ := codeOf_ok_parts e3
    obtain ⟨_, h10, h24, _⟩ := netB_parts hnet
    rw [hn.out] at h24
    have HR : Hid (tubesOf s ts n x = (fromL ts n x, 0)) := by unfold Hid tubesOf; rw [if_pos e3]
    have LO : Hid (w.heap.size ≤ w1.heap.size) := B1.out.size
    rw [e3]
    clear e1 e2 e3 hnet hst h10 HTW
    go_wp2
    go_loopw [7, 8] (fun vo iv wr => ∃ (k i cap : Nat) (ao : Option Addr) (l : List Int), k ≤ n ∧ i ≤ k ∧ vo = .slice ao i cap ∧ iv = .int .i64 (k : Int) ∧ Below w1.heap.size w1 wr ∧ Hid (l = fromL ts k x) ∧ Hid (l.length = i) ∧ Hid (wr.ownsRow w1.heap.size 2 1 (.slice ao i cap) i (l.map (Value.int .i64)))) (fun _ iv _ => n - (intOf iv).toNat)
    case atStart => exact ⟨0, 0, 0, _, [], by omega, by omega, rfl, rfl, (by repeat (first | exact Below.refl _ _ | refine Below.alloc ?_ (by simp; try omega) _ | refine Below.setCell ?_ (by simp; try omega) _)), rfl, rfl, World.ownsRow_made w1 #[] 0 (Nat.le_refl _) (by unfold maxLen; omega) rfl⟩
    case round =>
      obtain ⟨k, i, cap, ao, l, hk, hik, rfl, rfl, hbel, HL, HLEN, HOWN⟩ := hrel
      have r0 := (hbel.cell (p := ⟨w.heap.size, 0, none⟩) hz1).trans q0
      have r1 := (hbel.cell (p := ⟨w.heap.size, 1, none⟩) hz1).trans q1
      have HP := Lib.hid (And.intro q0 q1)
      have HBEL := Lib.hid hbel
      have B2 := Lib.hid (two_worldsC B1.out hbel)
      clear q0 q1
      by_cases hlt : k < n
      · have hka : k < ts.length := by rw [hn.out]; exact hlt
        obtain ⟨ba, oa, rfl, hba, hca⟩ := (HA.out w (Below.refl _ _)).addr (by omega)
        obtain ⟨y1, y2, y3⟩ := hca k hka
        have HHIT : Hid ((ts[k]).1 = x → fromL ts (k + 1) x = fromL ts k x ++ [(k : Int)]) := fun h => by rw [← h]; exact fromL_hit hka
        have HMISS : Hid (¬ (ts[k]).1 = x → fromL ts (k + 1) x = fromL ts k x) := fun h => fromL_miss hka h
        generalize ts[k] = t at y1 y2 y3 HHIT HMISS
        rw [← B2.out.cell (p := ⟨ba, _, none⟩) hba] at y1 y2 y3
        have hk0 : (0 : Int) ≤ (k : Int) := by omega
        have hk1 : (k : Int) < (n : Int) := by omega
        have hws : w1.heap.size ≤ wr.heap.size := HBEL.out.size
        have HGE : Hid (∀ q, (Value.slice ao i cap).ownBlock = some q → w1.heap.size ≤ q) := fun q hq => own_lo_block HOWN.out hq
        clear hca hbel
        rcases eq_ways t.1 x with ⟨⟨e4, e5⟩, e6⟩ | ⟨⟨e4, e5⟩, e6⟩
        · have HN := Lib.hid (HHIT.out e6)
          clear HHIT HMISS e6
          go_wp2_with (at_builtin; refine wpList_append_lies _ rfl _ _ 26 rfl w1.heap.size 2 HI.out.choose (.int .i64 0) 1 8 Try.underlying26 HI.out.choose_spec.1 HI.out.choose_spec.2.1 HI.out.choose_spec.2.2.1 HI.out.choose_spec.2.2.2 rfl (by decide) (.slice ao i cap) i (l.map (Value.int .i64)) rfl (HOWN.out.alloc _) ⟨wr.heap.size, 0, none⟩ 1 1 [.int .i64 (k : Int)] rfl rfl (news_one _ _ _) (by intro u hu; simp at hu; subst hu; rfl) (by omega) (by unfold maxLen; omega) (by omega) (by simp; omega) (wr.heap.size + 1) (by simp) ?_)
          intro g cap' w3 hown1 hgrow hat hlt2
          have B5 : Hid (Below w1.heap.size w1 w3) := (HBEL.out.alloc hws _).grown hgrow (by simp; omega) HGE.out
          have O1 : Hid (w3.ownsRow w1.heap.size 2 1 (.slice (some ⟨g, 0, none⟩) (i + 1) cap') (i + 1) ((l ++ [(k : Int)]).map (Value.int .i64))) := by
            unfold Hid; rw [List.map_append]; exact hown1
          clear hown1 hgrow hat hlt2 y1 y2 y3 r0 r1
          go_wp2
          go_roundw
          case rel => exact ⟨k + 1, i + 1, cap', _, l ++ [(k : Int)], by omega, by omega, rfl, by go_num, B5.out, by unfold Hid; rw [HN.out, ← HL.out], by unfold Hid; rw [List.length_append, HLEN.out]; rfl, O1.out⟩
          case measure => simp [intOf]; omega
        · have HN := Lib.hid (HMISS.out e6)
          clear HHIT HMISS e6
          go_wp2
          go_roundw
          case rel => exact ⟨k + 1, i, cap, ao, l, by omega, by omega, rfl, by go_num, HBEL.out, by unfold Hid; rw [HN.out, ← HL.out], HLEN.out, HOWN.out⟩
          case measure => simp [intOf]; omega
      · have hkn : k = n := by omega
        subst hkn
        clear hbel
        go_wp2
        go_ret2
        exact givesL_of (by rw [HR.out, ← HL.out]) B2.out HLEN.out (own_lo HOWN.out LO.out)
  · have HR : Hid (tubesOf s ts n x = ([], codeOf s ts [x])) := by unfold Hid tubesOf; rw [if_neg e3]
    clear e3 HTW
    generalize codeOf s ts [x] = c at HR e1 e2
    go_wp2
    go_ret2
    exact givesL_nil HR.out B1.out
end Go.Proofs.Ythgkpialiafdnaa
