/-
  The walks of TurnsFor, the model's and the program's.
-/
import Derived.Test.YtenjigifjkfiaaaTurnsDel
namespace Go.Proofs.Ytenjigifjkfiaaa
open Go.RowKit

/-- What TurnsFor returns. -/
def turnsOf (s : Int) (ts : List T3) (set way : List Int) : Int × Int := if wayCode s ts set way = 0 then (((leftN set (nds ts way way.length) : Nat) : Int), 0) else (0, wayCode s ts set way)
theorem leftN_perm {set : List Int} {l l' : List (Int × Int)} (h : l'.Perm l) : leftN set l' = leftN set l := h.countP_eq _
theorem leftN_le (set : List Int) (l : List (Int × Int)) : leftN set l ≤ l.length := List.countP_le_length
theorem nds_in {s : Int} {n : Nat} {ts : List T3} {way : List Int} (hn : ts.length = n) (hnet : netB s ts = true) (hsim : simpleB ts way = true) : ∀ x, x ∈ nds ts way way.length → 0 ≤ x.1 ∧ x.1 < s := by
  intro x hx
  obtain ⟨_, _, _, hT⟩ := netB_parts hnet
  unfold nds at hx
  rw [List.take_length, List.mem_map] at hx
  obtain ⟨z, hz, rfl⟩ := hx
  obtain ⟨i, hi, rfl⟩ := List.getElem_of_mem hz
  obtain ⟨i0, i1⟩ := stB_parts (way_st hn hsim i hi)
  have hj : (way[i]).toNat < ts.length := by rw [hn]; omega
  have hfa := frAt_of (List.getElem?_eq_getElem hj)
  rw [show (((way[i]).toNat : Nat) : Int) = way[i] by omega] at hfa
  have := hT _ (List.getElem_mem hj)
  unfold tubeB at this
  have := of_decide_eq_true this
  simp only
  rw [hfa]
  exact ⟨this.1, this.2.1⟩

set_option maxHeartbeats 1000000 in
theorem turnsFor_any (s : Int) (a b c : Option Addr) (ts : List T3) (set way : List Int) (n ca m cb k cc : Nat) (w : World) (hn : Hid (ts.length = n)) (ha : RT w a ts) (hm : Hid (set.length = m)) (hb : RI w b set) (hk : Hid (way.length = k)) (hc : RI w c way) (hk1 : k ≤ 1048576) (hset : setB s ts set = true) (hsim : simpleB ts way = true) :
    Calls Try.prog 48 #[.agg #[.int .i64 s, .slice a n ca], .slice b m cb, .slice c k cc] w fun e w' => e = .returned (.int .i64 ((leftN set (nds ts way way.length) : Nat) : Int)) ∧ Below w.heap.size w w' := by
  have HA : Hid (∀ w', Below w.heap.size w w' → RT w' a ts) := fun w' h => ha.below h
  have HB : Hid (∀ w', Below w.heap.size w w' → RI w' b set) := fun w' h => hb.below h
  have HC : Hid (∀ w', Below w.heap.size w w' → RI w' c way) := fun w' h => hc.below h
  obtain ⟨hnet, hlen, _⟩ := setB_parts hset
  rw [hm.out] at hlen
  have HML := Lib.hid hlen
  have HIN := Lib.hid (nds_in hn.out hnet hsim)
  have HWAY := Lib.hid (way_st hn.out hsim)
  clear ha hb hc hset hsim hnet hlen
  go_enter Try.func48, Try.ntmps48
  go_wp2_with fail
  refine (needsOf_any s a c ts way n ca k cc _ hn (HA.out _ (by (repeat (first | exact Below.refl _ _ | refine Below.drew ?_ | refine Below.drewN' ?_ _ | refine Below.alloc ?_ (by first | (simp; done) | (simp; omega)) _ | refine Below.setCell ?_ (by first | (simp; done) | (simp; omega)) _)); done)) hk (HC.out _ (by (repeat (first | exact Below.refl _ _ | refine Below.drew ?_ | refine Below.drewN' ?_ _ | refine Below.alloc ?_ (by first | (simp; done) | (simp; omega)) _ | refine Below.setCell ?_ (by first | (simp; done) | (simp; omega)) _)); done)) hk1 HWAY.out).mono ?_
  rintro e w1 ⟨hb1, ao, cap, l, rfl, hown, hperm, hll, _⟩
  have B1 := Lib.hid (Below.trans (show Below w.heap.size w (w.alloc (.cells #[.int .i64 s, .slice a n ca] 26)) from (by repeat (first | exact Below.refl _ _ | refine Below.alloc ?_ (by simp; try omega) _ | refine Below.setCell ?_ (by simp; try omega) _))) (hb1.mono (by simp)))
  have HOWN := Lib.hid hown
  have HLL := Lib.hid hll
  have HPM : Hid (leftN set l = leftN set (nds ts way way.length)) := leftN_perm (by rw [hk.out]; exact hperm)
  have HLM : Hid (∀ x, x ∈ l → 0 ≤ x.1 ∧ x.1 < (m : Int)) := fun x hx => by rw [HML.out]; exact HIN.out x (by rw [hk.out]; exact hperm.mem_iff.1 hx)
  have HLO : Hid ((w.alloc (.cells #[.int .i64 s, .slice a n ca] 26)).heap.size ≤ w1.heap.size) := hb1.size
  have HSETS : Hid (∀ W, Below (w.alloc (.cells #[.int .i64 s, .slice a n ca] 26)).heap.size w1 W → RI W b set) := fun W h => HB.out W (Below.trans B1.out (h.mono (by simp)))
  clear hb1 hown hperm hll
  go_wp2_with fail
  refine (deleteN_any b ao set l m cb k cap (w.alloc (.cells #[.int .i64 s, .slice a n ca] 26)).heap.size _ hm HSETS.out HLO.out HLL.out hk1 HOWN.out HLM.out).mono ?_
  rintro e w2 ⟨hb2, ao2, cap2, rfl⟩
  have B2 : Hid (Below w.heap.size w w2) := Below.trans B1.out (hb2.mono (by simp))
  clear hb2
  have hr : leftN set l ≤ 1048576 := Nat.le_trans (leftN_le set l) (by rw [HLL.out]; exact hk1)
  generalize leftN set l = r at HPM hr
  have hr0 : (0 : Int) ≤ (r : Int) := by omega
  have hr1 : (r : Int) ≤ 1048576 := by omega
  go_wp2
  go_ret
  exact ⟨ret_int (by rw [HPM.out]), B2.out⟩

theorem nds_step {set : List Int} {ts : List T3} {way : List Int} {k : Nat} (hk : k < way.length) : leftN set (nds ts way (k + 1)) = leftN set (nds ts way k) + (if metB set (frAt ts way[k], way[k]) = true then 0 else 1) := by
  rw [nds_succ hk]
  unfold leftN
  rw [List.countP_append]
  cases h : metB set (frAt ts way[k], way[k]) <;> simp [h]

set_option maxHeartbeats 2000000 in
theorem l04Turns_any (pb : Nat) (s : Int) (a b c : Option Addr) (ts : List T3) (set way : List Int) (n ca m cb k cc : Nat) (w : World) (hn : Hid (ts.length = n)) (ha : RT w a ts)
    (p0 : w.cell? ⟨pb, 0, none⟩ = some (.int .i64 s)) (p1 : w.cell? ⟨pb, 1, none⟩ = some (.slice a n ca)) (hm : Hid (set.length = m)) (hb : RI w b set) (hk : Hid (way.length = k)) (hc : RI w c way) (hk1 : k ≤ 1048576) (hset : setB s ts set = true) (hsim : simpleB ts way = true) :
    Calls Try.prog 59 #[.pointer (some ⟨pb, 0, none⟩), .slice b m cb, .slice c k cc] w fun e w' => e = .returned (.int .i64 ((leftN set (nds ts way way.length) : Nat) : Int)) ∧ Below w.heap.size w w' := by
  have HA : Hid (∀ w', Below w.heap.size w w' → RT w' a ts) := fun w' h => ha.below h
  have HC : Hid (0 < k → ∃ bc oc, c = some ⟨bc, oc, none⟩ ∧ bc < w.heap.size ∧ ∀ i (h : i < way.length), w.cell? ⟨bc, oc + i, none⟩ = some (.int .i64 way[i])) := fun h => hc.addr (by rw [hk.out]; exact h)
  have hpb := World.block_lt_of_cell? w _ p0
  simp only at hpb
  obtain ⟨hnet, hlen, _⟩ := setB_parts hset
  obtain ⟨hs1, hs2, _, hT⟩ := netB_parts hnet
  rw [hm.out] at hlen
  obtain ⟨bb, ob, rfl, hbb, hcb⟩ := hb.addr (by rw [hm.out]; omega)
  have HCB := Lib.hid hcb
  have HML := Lib.hid hlen
  have HT := Lib.hid hT
  have HWAY := Lib.hid (way_st hn.out hsim)
  have HEND := Lib.hid (ends_of hnet)
  have HP := Lib.hid (And.intro p0 p1)
  clear ha hb hc hcb hset hsim hnet hlen hT p0 p1
  go_enter Try.func59, Try.ntmps59
  go_wp2
  go_loopw [7, 8] (fun tv iv wr => ∃ i : Nat, i ≤ k ∧ iv = .int .i64 i ∧ tv = .int .i64 ((leftN set (nds ts way i) : Nat) : Int) ∧ Below w.heap.size w wr) (fun _ iv _ => k - (intOf iv).toNat)
  case atStart => exact ⟨0, by omega, rfl, rfl, Below.refl _ _⟩
  case round =>
    obtain ⟨i, hi, rfl, rfl, hbel⟩ := hrel
    by_cases hlt : i < k
    · have hia : i < way.length := by rw [hk.out]; exact hlt
      obtain ⟨bc, oc, rfl, hbc, hcc⟩ := HC.out (by omega)
      have x1 := hcc i hia
      have hst := HWAY.out i hia
      have HND := Lib.hid (nds_step (set := set) (ts := ts) hia)
      have HLE : Hid (leftN set (nds ts way i) ≤ i) := by
        have h := leftN_le set (nds ts way i)
        rw [nds_len (by omega)] at h
        exact h
      generalize leftN set (nds ts way i) = r at HND HLE
      generalize way[i] = z at x1 hst HND
      obtain ⟨g0, g1⟩ := stB_parts hst
      obtain ⟨j, rfl⟩ := Int.eq_ofNat_of_zero_le g0
      have hj : j < ts.length := by rw [hn.out]; omega
      obtain ⟨ba, oa, rfl, hba, hca⟩ := (HA.out w (Below.refl _ _)).addr (by omega)
      obtain ⟨y1, y2, y3⟩ := hca j hj
      obtain ⟨f, _, ef, _, hf, _⟩ := HEND.out j hj
      have hfs := HT.out _ (List.getElem_mem hj)
      unfold tubeB at hfs
      have hfs := (of_decide_eq_true hfs).2.1
      have hfa := (frAt_of (List.getElem?_eq_getElem hj)).trans ef
      rw [ef] at y1 hfs
      have hfm : f < m := by have := HML.out; omega
      have hfl : f < set.length := by rw [hm.out]; exact hfm
      have v1 := HCB.out f hfl
      have HMET : Hid (metB set (frAt ts (j : Int), (j : Int)) = (set[f] == (j : Int))) := by unfold Hid metB; simp only; rw [hfa, setAt_get hfl]
      generalize set[f] = v at v1 HMET
      rw [← hbel.cell (p := ⟨bc, _, none⟩) hbc] at x1
      rw [← hbel.cell (p := ⟨ba, _, none⟩) hba] at y1
      rw [← hbel.cell (p := ⟨bb, _, none⟩) hbb] at v1
      have q0 := (hbel.cell (p := ⟨pb, 0, none⟩) hpb).trans HP.out.1
      have q1 := (hbel.cell (p := ⟨pb, 1, none⟩) hpb).trans HP.out.2
      have hk0 : (0 : Int) ≤ (i : Int) := by omega
      have hk2 : (i : Int) < (k : Int) := by omega
      have hj0 : (0 : Int) ≤ (j : Int) := by omega
      have hf0 : (0 : Int) ≤ (f : Int) := by omega
      have hf1 : (f : Int) < (m : Int) := by omega
      have hr0 : (0 : Int) ≤ (r : Int) := by omega
      have hr1 : (r : Int) ≤ 1048576 := by have := HLE.out; omega
      have HBEL := Lib.hid hbel
      clear hbel hcc hca hst ef hfs hfa hs1 hs2 y2 y3
      rcases eq_ways v (j : Int) with ⟨⟨e4, e5⟩, e6⟩ | ⟨⟨e4, e5⟩, e6⟩
      · have HN1 : Hid (leftN set (nds ts way (i + 1)) = r) := by unfold Hid; rw [HND.out, HMET.out, e4, if_pos rfl, Nat.add_zero]
        clear e6
        go_wp2_with fail
        go_quiet (fail)
        go_wp2
        go_roundw
        case rel => exact ⟨i + 1, by omega, by go_num, by rw [HN1.out], two_worldsC HBEL.out (by (repeat (first | exact Below.refl _ _ | refine Below.drew ?_ | refine Below.drewN' ?_ _ | refine Below.alloc ?_ (by first | (simp; done) | (simp; omega)) _ | refine Below.setCell ?_ (by first | (simp; done) | (simp; omega)) _)); done)⟩
        case measure => simp [intOf]; omega
      · have HN1 : Hid (leftN set (nds ts way (i + 1)) = r + 1) := by unfold Hid; rw [HND.out, HMET.out, e4, if_neg (by decide)]
        clear e6
        go_wp2_with fail
        go_quiet (fail)
        go_wp2
        go_roundw
        case rel => exact ⟨i + 1, by omega, by go_num, by rw [HN1.out]; go_num, two_worldsC HBEL.out (by (repeat (first | exact Below.refl _ _ | refine Below.drew ?_ | refine Below.drewN' ?_ _ | refine Below.alloc ?_ (by first | (simp; done) | (simp; omega)) _ | refine Below.setCell ?_ (by first | (simp; done) | (simp; omega)) _)); done)⟩
        case measure => simp [intOf]; omega
    · have hik : i = k := by omega
      subst hik
      have HF : Hid (leftN set (nds ts way way.length) = leftN set (nds ts way i)) := by unfold Hid; rw [hk.out]
      generalize leftN set (nds ts way i) = r at HF
      have HBEL := Lib.hid hbel
      clear hbel
      go_wp2
      go_ret
      exact ⟨ret_int (by rw [HF.out]), HBEL.out⟩

set_option maxHeartbeats 1000000 in
theorem specTurnsFor_any (s : Int) (a b c : Option Addr) (ts : List T3) (set way : List Int) (n ca m cb k cc : Nat) (w : World) (hn : Hid (ts.length = n)) (ha : RT w a ts) (hmax : n ≤ 1048576) (hm : Hid (set.length = m)) (hb : RI w b set) (hm1 : m ≤ 1048576) (hk : Hid (way.length = k)) (hc : RI w c way) (hk1 : k ≤ 1048576) :
    Calls Try.prog 31 #[.agg #[.int .i64 s, .slice a n ca], .slice b m cb, .slice c k cc] w fun e w' => e = .returned (.tuple #[.int .i64 (turnsOf s ts set way).1, .int .i64 (turnsOf s ts set way).2]) ∧ Below w.heap.size w w' := by
  have HA : Hid (∀ w', Below w.heap.size w w' → RT w' a ts) := fun w' h => ha.below h
  have HB : Hid (∀ w', Below w.heap.size w w' → RI w' b set) := fun w' h => hb.below h
  have HC : Hid (∀ w', Below w.heap.size w w' → RI w' c way) := fun w' h => hc.below h
  clear ha hb hc
  go_enter Try.func31, Try.ntmps31
  go_wp2_with fail
  refine (l04Code_any _ s a b c ts set way n ca m cb k cc _ hn (HA.out _ (by repeat (first | exact Below.refl _ _ | refine Below.alloc ?_ (by simp; try omega) _ | refine Below.setCell ?_ (by simp; try omega) _))) hmax (by simp [go_sem]) (by simp [go_sem]) hm (HB.out _ (by repeat (first | exact Below.refl _ _ | refine Below.alloc ?_ (by simp; try omega) _ | refine Below.setCell ?_ (by simp; try omega) _))) hm1 hk (HC.out _ (by repeat (first | exact Below.refl _ _ | refine Below.alloc ?_ (by simp; try omega) _ | refine Below.setCell ?_ (by simp; try omega) _))) hk1).mono ?_
  rintro e w1 ⟨rfl, hb1⟩
  have q0 := (hb1.cell (p := ⟨w.heap.size, 0, none⟩) (by simp)).trans (by simp [go_sem] : _ = some (.int .i64 s))
  have q1 := (hb1.cell (p := ⟨w.heap.size, 1, none⟩) (by simp)).trans (by simp [go_sem] : _ = some (.slice a n ca))
  have B1 := Lib.hid (Below.trans (show Below w.heap.size w (w.alloc (.cells #[.int .i64 s, .slice a n ca] 26)) from (by repeat (first | exact Below.refl _ _ | refine Below.alloc ?_ (by simp; try omega) _ | refine Below.setCell ?_ (by simp; try omega) _))) (hb1.mono (by simp)))
  clear hb1
  rcases eq_ways (wayCode s ts set way) 0 with ⟨⟨e1, e2⟩, e3⟩ | ⟨⟨e1, e2⟩, e3⟩
  · have HR : Hid (turnsOf s ts set way = (((leftN set (nds ts way way.length) : Nat) : Int), 0)) := by unfold Hid turnsOf; rw [if_pos e3]
    obtain ⟨hset, hsim⟩ := wayCode_parts e3
    have HS := Lib.hid hset
    have HSIM := Lib.hid hsim
    rw [e3]
    clear e1 e2 e3 hset hsim
    go_wp2_with fail
    refine (l04Turns_any w.heap.size s a b c ts set way n ca m cb k cc _ hn (HA.out _ B1.out) q0 q1 hm (HB.out _ B1.out) hk (HC.out _ B1.out) hk1 HS.out HSIM.out).mono ?_
    rintro e w2 ⟨rfl, hb2⟩
    have B2 := Lib.hid (two_worldsC B1.out hb2)
    clear hb2 q0 q1
    go_wp2
    go_ret2
    exact ⟨ret_ints HR.out, B2.out⟩
  · have HR : Hid (turnsOf s ts set way = (0, wayCode s ts set way)) := by unfold Hid turnsOf; rw [if_neg e3]
    clear e3
    generalize wayCode s ts set way = cd at HR e1 e2
    go_wp2
    go_ret2
    exact ⟨ret_ints HR.out, B1.out⟩

set_option maxHeartbeats 4000000 in
theorem implTurnsFor_any (s : Int) (a b c : Option Addr) (ts : List T3) (set way : List Int) (n ca m cb k cc : Nat) (w : World) (hn : Hid (ts.length = n)) (ha : RT w a ts) (hmax : n ≤ 1048576) (hm : Hid (set.length = m)) (hb : RI w b set) (hm1 : m ≤ 1048576) (hk : Hid (way.length = k)) (hc : RI w c way) (hk1 : k ≤ 1048576) :
    Calls Try.prog 13 #[.agg #[.int .i64 s, .slice a n ca], .slice b m cb, .slice c k cc] w (fun e w' => e = .returned (.tuple #[.int .i64 (turnsOf s ts set way).1, .int .i64 (turnsOf s ts set way).2]) ∧ Below w.heap.size w w') := by
  have HA : Hid (∀ w', Below w.heap.size w w' → RT w' a ts) := fun w' h => ha.below h
  have HB : Hid (∀ w', Below w.heap.size w w' → RI w' b set) := fun w' h => hb.below h
  have HC : Hid (∀ w', Below w.heap.size w w' → RI w' c way) := fun w' h => hc.below h
  clear ha hb hc
  have NB : Hid (Below w.heap.size w (w.alloc (.cells #[.int .i64 s, .slice a n ca] 26))) := (by repeat (first | exact Below.refl _ _ | refine Below.alloc ?_ (by simp; try omega) _ | refine Below.setCell ?_ (by simp; try omega) _))
  have NX : Hid (BoxN (w.alloc (.cells #[.int .i64 s, .slice a n ca] 26)) w.heap.size s (.slice a n ca)) := ⟨by simp [go_sem], by simp [go_sem]⟩
  have HNB : Hid (∀ w', Below (w.alloc (.cells #[.int .i64 s, .slice a n ca] 26)).heap.size (w.alloc (.cells #[.int .i64 s, .slice a n ca] 26)) w' → Below w.heap.size w w') := fun w' h => Below.trans NB.out (h.mono (by simp))
  have p0 := NX.out.1
  have p1 := NX.out.2
  have CS : ∀ v, setCode s ts set [] = v → Hid (∀ W, Below w.heap.size w W → Calls Try.prog 45 #[.agg #[.int .i64 s, .slice a n ca], .slice b m cb, .slice none 0 0] W fun e w' => e = .returned (.int .i64 v) ∧ Below W.heap.size W w') := fun v hv W h => checkSetting0_at v s a b ts set n ca m cb hv W hn (HA.out _ h) hmax hm (HB.out _ h) hm1
  cases hv : setB s ts set with
  | false =>
    have HW : Hid (wayCode s ts set way = 1) := by unfold Hid wayCode; rw [hv]; rfl
    have CS1 := CS 1 (setCode_inv hv)
    clear CS hv
    go_enter Try.func13, Try.ntmps13
    go_wp2_with fail
    go_region_held3 (fun w' => w'.cell? ⟨w.heap.size, 0, none⟩ = some (.int .i64 s) ∧ w'.cell? ⟨w.heap.size, 1, none⟩ = some (.slice a n ca))
      (first | exact ⟨p0, p1⟩ | (refine BoxN.below NX.out ?_; (repeat (first | exact Below.refl _ _ | refine Below.drew ?_ | refine Below.alloc ?_ (Nat.le_refl _) _)); done) | (refine BoxN.below NX.out (two_worldsC ?_ hb1); (repeat (first | exact Below.refl _ _ | refine Below.drew ?_ | refine Below.alloc ?_ (Nat.le_refl _) _)); done) | (refine BoxN.below NX.out (two_worldsC (two_worldsC ?_ hb1) ((Below.refl _ _).alloc (Nat.le_refl _) _)); (repeat (first | exact Below.refl _ _ | refine Below.drew ?_ | refine Below.alloc ?_ (Nat.le_refl _) _)); done) | (refine BoxN.below NX.out (two_worldsC (two_worldsC ?_ hb1) hb2); (repeat (first | exact Below.refl _ _ | refine Below.drew ?_ | refine Below.alloc ?_ (Nat.le_refl _) _)); done) | (refine BoxN.below NX.out (two_worldsC (two_worldsC (two_worldsC ?_ hb1) ((Below.refl _ _).alloc (Nat.le_refl _) _)) hb2); (repeat (first | exact Below.refl _ _ | refine Below.drew ?_ | refine Below.alloc ?_ (Nat.le_refl _) _)); done))
      (first | (go_at_call 45; refine Calls.mono (CS1.out _ (HNB.out _ ?_)) ?_; (focus ((repeat (first | exact Below.refl _ _ | refine Below.drew ?_ | refine Below.alloc ?_ (Nat.le_refl _) _)); done)); rintro e w1 ⟨rfl, hb1⟩) | (go_at_call 44; refine (checkWaysBad_any 1 s a _ n ca 1 _ _ (by decide)).mono ?_; rintro e w2 ⟨rfl, hb2⟩))
    all_goals
      have E1 : Below (w.alloc (.cells #[.int .i64 s, .slice a n ca] 26)).heap.size (w.alloc (.cells #[.int .i64 s, .slice a n ca] 26)) w1 := two_worldsC (by (repeat (first | exact Below.refl _ _ | refine Below.drew ?_ | refine Below.drewN' ?_ _ | refine Below.alloc ?_ (by first | (simp; done) | (simp; omega)) _ | refine Below.setCell ?_ (by first | (simp; done) | (simp; omega)) _)); done) hb1
      have E2 : Below (w.alloc (.cells #[.int .i64 s, .slice a n ca] 26)).heap.size (w.alloc (.cells #[.int .i64 s, .slice a n ca] 26)) w2 := two_worldsC (by first | exact E1 | exact E1.alloc E1.size _) hb2
      have X2 := Lib.hid (BoxN.below NX.out E2)
      have B2 := Lib.hid (HNB.out _ E2)
      clear E1 E2 hb1 hb2 p0 p1
      have HR : Hid (turnsOf s ts set way = (0, 1)) := by unfold Hid turnsOf; rw [HW.out]; rfl
      go_wp2
      go_ret2
      exact ⟨ret_ints HR.out, B2.out⟩
  | true =>
    have HS := Lib.hid hv
    have HNT := Lib.hid (setB_parts hv).1
    have CS1 := CS 0 (setCode_nil_ok hv)
    have RW0 : Hid (∀ W T H, W.heap.size = H → Below w.heap.size w W → RWays (W.alloc (.cells #[.slice c k cc] T)) (some ⟨H, 0, none⟩) [((c, cc), way)]) := fun W T H e h => by subst e; exact rways_one hk.out (HC.out _ h) hk1 T
    have NS : Hid ((w.alloc (.cells #[.int .i64 s, .slice a n ca] 26)).heap.size = w.heap.size + 1) := by unfold Hid; simp
    cases hs : simpleB ts way with
    | false =>
      have HW : Hid (wayCode s ts set way = 2) := by unfold Hid wayCode; rw [hv, hs]; rfl
      have CW : Hid (∀ W aw cw, Below w.heap.size w W → RWays W aw [((c, cc), way)] → Calls Try.prog 44 #[.int .i64 0, .agg #[.int .i64 s, .slice a n ca], .slice aw 1 cw] W fun e w' => e = .returned (.int .i64 2) ∧ Below W.heap.size W w') := fun W aw cw h hw => checkWays1_at 2 s a aw c ts way n ca cw cc (by rw [hs]; rfl) W hn (HA.out _ h) hmax HNT.out hw
      have HSIM := Lib.hid hs
      clear CS hv hs
      go_enter Try.func13, Try.ntmps13
      go_wp2_with fail
      go_region_held3 (fun w' => w'.cell? ⟨w.heap.size, 0, none⟩ = some (.int .i64 s) ∧ w'.cell? ⟨w.heap.size, 1, none⟩ = some (.slice a n ca))
        (first | exact ⟨p0, p1⟩ | (refine BoxN.below NX.out ?_; (repeat (first | exact Below.refl _ _ | refine Below.drew ?_ | refine Below.alloc ?_ (Nat.le_refl _) _)); done) | (refine BoxN.below NX.out (two_worldsC ?_ hb1); (repeat (first | exact Below.refl _ _ | refine Below.drew ?_ | refine Below.alloc ?_ (Nat.le_refl _) _)); done) | (refine BoxN.below NX.out (two_worldsC (two_worldsC ?_ hb1) ((Below.refl _ _).alloc (Nat.le_refl _) _)); (repeat (first | exact Below.refl _ _ | refine Below.drew ?_ | refine Below.alloc ?_ (Nat.le_refl _) _)); done) | (refine BoxN.below NX.out (two_worldsC (two_worldsC ?_ hb1) hb2); (repeat (first | exact Below.refl _ _ | refine Below.drew ?_ | refine Below.alloc ?_ (Nat.le_refl _) _)); done) | (refine BoxN.below NX.out (two_worldsC (two_worldsC (two_worldsC ?_ hb1) ((Below.refl _ _).alloc (Nat.le_refl _) _)) hb2); (repeat (first | exact Below.refl _ _ | refine Below.drew ?_ | refine Below.alloc ?_ (Nat.le_refl _) _)); done))
        (first | (go_at_call 45; refine Calls.mono (CS1.out _ (HNB.out _ ?_)) ?_; (focus ((repeat (first | exact Below.refl _ _ | refine Below.drew ?_ | refine Below.alloc ?_ (Nat.le_refl _) _)); done)); rintro e w1 ⟨rfl, hb1⟩) | (go_at_call 44; have E1 : Below (w.alloc (.cells #[.int .i64 s, .slice a n ca] 26)).heap.size (w.alloc (.cells #[.int .i64 s, .slice a n ca] 26)) w1 := (by refine two_worldsC ?_ hb1; (repeat (first | exact Below.refl _ _ | refine Below.drew ?_ | refine Below.alloc ?_ (Nat.le_refl _) _)); done); refine Calls.mono (CW.out _ _ _ ?_ ?_) ?_; (focus (first | exact HNB.out _ E1 | exact HNB.out _ (E1.alloc E1.size _))); (focus (first | exact RW0.out _ _ _ rfl (HNB.out _ E1) | exact RWays.below (RW0.out _ _ _ NS.out (HNB.out _ (Below.refl _ _))) hb1 | exact RWays.below (RW0.out _ _ _ NS.out (HNB.out _ (Below.refl _ _).drew)) hb1 | exact RWays.below (RWays.below (RW0.out _ _ _ NS.out (HNB.out _ (Below.refl _ _))) (Below.refl _ _).drew) hb1)); rintro e w2 ⟨rfl, hb2⟩))
      all_goals
        have E1 : Below (w.alloc (.cells #[.int .i64 s, .slice a n ca] 26)).heap.size (w.alloc (.cells #[.int .i64 s, .slice a n ca] 26)) w1 := two_worldsC (by (repeat (first | exact Below.refl _ _ | refine Below.drew ?_ | refine Below.drewN' ?_ _ | refine Below.alloc ?_ (by first | (simp; done) | (simp; omega)) _ | refine Below.setCell ?_ (by first | (simp; done) | (simp; omega)) _)); done) hb1
        have E2 : Below (w.alloc (.cells #[.int .i64 s, .slice a n ca] 26)).heap.size (w.alloc (.cells #[.int .i64 s, .slice a n ca] 26)) w2 := two_worldsC (by first | exact E1 | exact E1.alloc E1.size _) hb2
        have X2 := Lib.hid (BoxN.below NX.out E2)
        have B2 := Lib.hid (HNB.out _ E2)
        clear E1 E2 hb1 hb2 p0 p1
        have HR : Hid (turnsOf s ts set way = (0, 2)) := by unfold Hid turnsOf; rw [HW.out]; rfl
        go_wp2
        go_ret2
        exact ⟨ret_ints HR.out, B2.out⟩
    | true =>
      have HW : Hid (wayCode s ts set way = 0) := by unfold Hid wayCode; rw [hv, hs]; rfl
      have CW : Hid (∀ W aw cw, Below w.heap.size w W → RWays W aw [((c, cc), way)] → Calls Try.prog 44 #[.int .i64 0, .agg #[.int .i64 s, .slice a n ca], .slice aw 1 cw] W fun e w' => e = .returned (.int .i64 0) ∧ Below W.heap.size W w') := fun W aw cw h hw => checkWays1_at 0 s a aw c ts way n ca cw cc (by rw [hs]; rfl) W hn (HA.out _ h) hmax HNT.out hw
      have HSIM := Lib.hid hs
      clear CS hv hs
      go_enter Try.func13, Try.ntmps13
      go_wp2_with fail
      go_region_held3 (fun w' => w'.cell? ⟨w.heap.size, 0, none⟩ = some (.int .i64 s) ∧ w'.cell? ⟨w.heap.size, 1, none⟩ = some (.slice a n ca))
        (first | exact ⟨p0, p1⟩ | (refine BoxN.below NX.out ?_; (repeat (first | exact Below.refl _ _ | refine Below.drew ?_ | refine Below.alloc ?_ (Nat.le_refl _) _)); done) | (refine BoxN.below NX.out (two_worldsC ?_ hb1); (repeat (first | exact Below.refl _ _ | refine Below.drew ?_ | refine Below.alloc ?_ (Nat.le_refl _) _)); done) | (refine BoxN.below NX.out (two_worldsC (two_worldsC ?_ hb1) ((Below.refl _ _).alloc (Nat.le_refl _) _)); (repeat (first | exact Below.refl _ _ | refine Below.drew ?_ | refine Below.alloc ?_ (Nat.le_refl _) _)); done) | (refine BoxN.below NX.out (two_worldsC (two_worldsC ?_ hb1) hb2); (repeat (first | exact Below.refl _ _ | refine Below.drew ?_ | refine Below.alloc ?_ (Nat.le_refl _) _)); done) | (refine BoxN.below NX.out (two_worldsC (two_worldsC (two_worldsC ?_ hb1) ((Below.refl _ _).alloc (Nat.le_refl _) _)) hb2); (repeat (first | exact Below.refl _ _ | refine Below.drew ?_ | refine Below.alloc ?_ (Nat.le_refl _) _)); done))
        (first | (go_at_call 45; refine Calls.mono (CS1.out _ (HNB.out _ ?_)) ?_; (focus ((repeat (first | exact Below.refl _ _ | refine Below.drew ?_ | refine Below.alloc ?_ (Nat.le_refl _) _)); done)); rintro e w1 ⟨rfl, hb1⟩) | (go_at_call 44; have E1 : Below (w.alloc (.cells #[.int .i64 s, .slice a n ca] 26)).heap.size (w.alloc (.cells #[.int .i64 s, .slice a n ca] 26)) w1 := (by refine two_worldsC ?_ hb1; (repeat (first | exact Below.refl _ _ | refine Below.drew ?_ | refine Below.alloc ?_ (Nat.le_refl _) _)); done); refine Calls.mono (CW.out _ _ _ ?_ ?_) ?_; (focus (first | exact HNB.out _ E1 | exact HNB.out _ (E1.alloc E1.size _))); (focus (first | exact RW0.out _ _ _ rfl (HNB.out _ E1) | exact RWays.below (RW0.out _ _ _ NS.out (HNB.out _ (Below.refl _ _))) hb1 | exact RWays.below (RW0.out _ _ _ NS.out (HNB.out _ (Below.refl _ _).drew)) hb1 | exact RWays.below (RWays.below (RW0.out _ _ _ NS.out (HNB.out _ (Below.refl _ _))) (Below.refl _ _).drew) hb1)); rintro e w2 ⟨rfl, hb2⟩))
      all_goals
        have E1 : Below (w.alloc (.cells #[.int .i64 s, .slice a n ca] 26)).heap.size (w.alloc (.cells #[.int .i64 s, .slice a n ca] 26)) w1 := two_worldsC (by (repeat (first | exact Below.refl _ _ | refine Below.drew ?_ | refine Below.drewN' ?_ _ | refine Below.alloc ?_ (by first | (simp; done) | (simp; omega)) _ | refine Below.setCell ?_ (by first | (simp; done) | (simp; omega)) _)); done) hb1
        have E2 : Below (w.alloc (.cells #[.int .i64 s, .slice a n ca] 26)).heap.size (w.alloc (.cells #[.int .i64 s, .slice a n ca] 26)) w2 := two_worldsC (by first | exact E1 | exact E1.alloc E1.size _) hb2
        have X2 := Lib.hid (BoxN.below NX.out E2)
        have B2 := Lib.hid (HNB.out _ E2)
        clear E1 E2 hb1 hb2 p0 p1
        have HR : Hid (turnsOf s ts set way = (((leftN set (nds ts way way.length) : Nat) : Int), 0)) := by unfold Hid turnsOf; rw [HW.out]; rfl
        clear RW0 CW CS1
        go_wp2_with fail
        refine (turnsFor_any s a b c ts set way n ca m cb k cc _ hn (HA.out _ B2.out) hm (HB.out _ B2.out) hk (HC.out _ B2.out) hk1 HS.out HSIM.out).mono ?_
        rintro e w3 ⟨rfl, hb3⟩
        have B3 := Lib.hid (two_worldsC B2.out hb3)
        clear hb3
        go_wp2
        go_ret2
        exact ⟨ret_ints HR.out, B3.out⟩
end Go.Proofs.Ytenjigifjkfiaaa
