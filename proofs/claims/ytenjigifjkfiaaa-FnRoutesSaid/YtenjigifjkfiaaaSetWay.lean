/-
  The walks of SetWay, the model's and the program's.
-/
import Derived.Test.YtenjigifjkfiaaaNeeds
namespace Go.Proofs.Ytenjigifjkfiaaa
open Go.RowKit

/-- A setting in which the needs are met. -/
def setBy (set : List Int) (l : List (Int × Int)) : List Int := l.foldl (fun acc p => acc.set p.1.toNat p.2) set
theorem setBy_len (set : List Int) (l : List (Int × Int)) : (setBy set l).length = set.length := by
  unfold setBy
  induction l generalizing set with
  | nil => rfl
  | cons p l ih => rw [List.foldl_cons, ih, List.length_set]
theorem setBy_snoc (set : List Int) (l : List (Int × Int)) (p : Int × Int) : setBy set (l ++ [p]) = (setBy set l).set p.1.toNat p.2 := by
  unfold setBy; rw [List.foldl_append]; rfl
theorem hasB_mem {xs : List Int} {x : Int} (h : hasB xs x = false) : x ∉ xs := by
  unfold hasB at h
  intro g
  rw [← List.contains_iff_mem, h] at g
  exact absurd g (by decide)
theorem simpleB_steps {ts : List T3} {way : List Int} (h : simpleB ts way = true) : ∀ k, k < way.length → stepB ts way k = true := by
  unfold simpleB at h
  rw [Bool.and_eq_true] at h
  exact of_decide_eq_true h.1
/-- The stations of a simple way's needs are different. -/
theorem simple_apart {ts : List T3} {way : List Int} (h : simpleB ts way = true) {i j : Nat} (hij : i < j) (hj : j < way.length) : ¬ frAt ts way[i] = frAt ts way[j] := by
  have hs := simpleB_steps h j hj
  unfold stepB stepV at hs
  have e : way.getD j 0 = way[j] := by simp [hj]
  rw [e] at hs
  simp only [Bool.and_eq_true, Bool.not_eq_true'] at hs
  have hn := hasB_mem hs.1.2
  intro he
  apply hn
  unfold frs
  rw [List.mem_map]
  refine ⟨way[i], ?_, he⟩
  rw [List.mem_take_iff_getElem]
  exact ⟨i, by omega, rfl⟩
theorem nds_same {ts : List T3} {way : List Int} (h : simpleB ts way = true) {x y : Int × Int} (hx : x ∈ nds ts way way.length) (hy : y ∈ nds ts way way.length) (he : x.1 = y.1) : x = y := by
  unfold nds at hx hy
  rw [List.take_length] at hx hy
  rw [List.mem_map] at hx hy
  obtain ⟨a, ha, rfl⟩ := hx
  obtain ⟨b, hb, rfl⟩ := hy
  obtain ⟨i, hi, rfl⟩ := List.getElem_of_mem ha
  obtain ⟨j, hj, rfl⟩ := List.getElem_of_mem hb
  simp only at he
  by_cases hij : i = j
  · subst hij; rfl
  · exfalso
    rcases Nat.lt_or_ge i j with h1 | h1
    · exact simple_apart h h1 hj he
    · exact simple_apart h (show j < i by omega) hi he.symm
theorem setBy_perm {set : List Int} {l l' : List (Int × Int)} (h : l'.Perm l) (hnn : ∀ x ∈ l, 0 ≤ x.1) (hs : ∀ x ∈ l, ∀ y ∈ l, x.1 = y.1 → x = y) : setBy set l' = setBy set l := by
  unfold setBy
  refine List.Perm.foldl_eq' h (fun x hx y hy z => ?_) set
  have hx' := h.mem_iff.1 hx
  have hy' := h.mem_iff.1 hy
  by_cases he : x.1.toNat = y.1.toNat
  · have h1 := hnn x hx'
    have h2 := hnn y hy'
    rw [hs x hx' y hy' (by omega)]
  · exact List.set_comm _ _ he

/-- What SetWay returns. -/
def setWayOf (s : Int) (ts : List T3) (set way : List Int) : List Int × Int := if wayCode s ts set way = 0 then (setBy set (nds ts way way.length), 0) else ([], wayCode s ts set way)
theorem wayCode_parts {s : Int} {ts : List T3} {set way : List Int} (h : wayCode s ts set way = 0) : setB s ts set = true ∧ simpleB ts way = true := by
  unfold wayCode at h
  split at h
  · rename_i h1
    split at h
    · rename_i h2; exact ⟨h1, h2⟩
    · omega
  · omega
theorem setWayOf_len (s : Int) (ts : List T3) (set way : List Int) : (setWayOf s ts set way).1.length ≤ 1048576 := by
  unfold setWayOf
  split
  · rename_i h
    obtain ⟨h1, _⟩ := wayCode_parts h
    obtain ⟨hnet, hl, _⟩ := setB_parts h1
    obtain ⟨_, h10, _, _⟩ := netB_parts hnet
    simp only
    rw [setBy_len]; omega
  · simp
theorem way_st {n : Nat} {ts : List T3} {way : List Int} (hn : ts.length = n) (h : simpleB ts way = true) : ∀ k (hk : k < way.length), stB n way[k] = true := fun k hk => by rw [← hn]; exact stepB_st hk (simpleB_steps h k hk)

/-- A row of numbers of the call's own, at the head of a block. -/
def IRow (w : World) (g cap : Nat) (xs : List Int) : Prop := ∃ cur, w.heap[g]? = some (.cells cur 2 (0, 0)) ∧ cur.size = cap ∧ xs.length ≤ cap ∧ cap ≤ maxLen ∧ FilledI xs cur xs.length
theorem IRow.own {w : World} {g cap lo m : Nat} {xs : List Int} (h : IRow w g cap xs) (hlo : lo ≤ g) (hm : xs.length = m) : w.ownsRow lo 2 1 (.slice (some ⟨g, 0, none⟩) m cap) m (xs.map (Value.int .i64)) := by
  subst hm
  obtain ⟨cur, h1, h2, h3, h4, h5⟩ := h
  exact rowI_ownM h1 hlo h3 h4 (by omega) rfl h5
theorem IRow.of {w : World} {g cap lo m : Nat} {xs : List Int} (hm : xs.length = m) (h : w.ownsRow lo 2 1 (.slice (some ⟨g, 0, none⟩) m cap) m (xs.map (Value.int .i64))) : IRow w g cap xs := by
  subst hm
  rcases h.2 with ⟨hv, _⟩ | ⟨g', cap', cur, hv, _, hg, h1, h2, h3, ht⟩
  · injection hv with h1; injection h1
  · injection hv with e1 _ e3
    injection e1 with e1
    injection e1 with e1
    subst e1 e3
    refine ⟨cur, hg, by omega, h1, h2, fun i hi _ => ?_⟩
    have h4 := ints_cell xs i hi
    rw [← ht, List.getElem?_take_of_lt (by omega)] at h4
    simpa using h4
theorem IRow.below {w w' : World} {g cap : Nat} {xs : List Int} (h : IRow w g cap xs) (hb : Below w.heap.size w w') : IRow w' g cap xs := by
  obtain ⟨cur, h1, h2⟩ := h
  exact ⟨cur, (hb.block g (Array.getElem?_eq_some_iff.1 h1).1).trans h1, h2⟩
theorem IRow.store {w : World} {g cap : Nat} {xs : List Int} (h : IRow w g cap xs) (f : Nat) (z : Int) (hf : f < xs.length) :
    (∃ o, w.cell? ⟨g, f, none⟩ = some o) ∧ w.frozen? ⟨g, f, none⟩ = false ∧ IRow (w.setCell ⟨g, f, none⟩ (.int .i64 z)) g cap (xs.set f z) := by
  obtain ⟨cur, h1, h2, h3, h4, h5⟩ := h
  refine ⟨⟨_, (cell_of_row w g f cur _ (0, 0) h1).trans (h5 f hf hf)⟩, frozen_of_row w g f cur _ h1, cur.setIfInBounds f (.int .i64 z), heap_setCell_same _ _ _ _ _ _ h1, by simpa using h2, by simpa using h3, h4, ?_⟩
  intro i hi _
  rw [List.length_set] at hi
  by_cases e : i = f
  · subst e
    simp [Array.getElem?_setIfInBounds]
    omega
  · rw [Array.getElem?_setIfInBounds_ne (by omega), h5 i hi hi, List.getElem_set_ne (by omega)]
theorem own_form1 {w : World} {lo n : Nat} {e : TypeId} {size : Nat} {v : Value} {xs : List Value} (h : w.ownsRow lo e size v n xs) (hne : ¬ v = .slice none 0 0) : ∃ g cap, v = .slice (some ⟨g, 0, none⟩) n cap ∧ lo ≤ g := by
  rcases h.2 with ⟨hv, _⟩ | ⟨g, cap, cur, hv, hg, _⟩
  · exact absurd hv hne
  · exact ⟨g, cap, hv, hg⟩
/-- A call hands back a list in memory of its own that reads as another one. -/
def CopyGives (set : List Int) (m : Nat) (w : World) (e : Ending) (w' : World) : Prop :=
  ∃ g c, e = .returned (.slice (some ⟨g, 0, none⟩) m c) ∧ w.heap.size ≤ g ∧ Below w.heap.size w w' ∧ IRow w' g c set

theorem news_of {w : World} {bb ob : Nat} {set : List Int} (h : ∀ i (h : i < set.length), w.cell? ⟨bb, ob + i, none⟩ = some (.int .i64 set[i])) : ∀ j u, (set.map (Value.int .i64))[j]? = some u → w.cell? ((⟨bb, ob, none⟩ : Addr).add j) = some u := by
  intro j u hu
  rw [Addr.add_lit]
  have hj : j < (set.map (Value.int .i64)).length := (List.getElem?_eq_some_iff.1 hu).1
  have hj' : j < set.length := by simpa using hj
  rw [h j hj', ← ints_cell set j hj', hu]

set_option maxHeartbeats 1000000 in
theorem cloneI_any (bb ob cb m : Nat) (set : List Int) (w : World) (hm : Hid (set.length = m)) (hm1 : m ≤ 1048576) (hbb : bb < w.heap.size) (hc : ∀ i (h : i < set.length), w.cell? ⟨bb, ob + i, none⟩ = some (.int .i64 set[i])) :
    Calls Try.prog 46 #[.slice (some ⟨bb, ob, none⟩) m cb] w (CopyGives set m w) := by
  have he : ∀ W : World, (binOp .eql 28 (.slice (some ⟨bb, ob, none⟩) m cb) (.slice none 0 0)).run Try.prog W = .ok (.bool false) W := fun W => by
    rw [Lib.run_eql_slice_nil W _ _ _ _ _ _ _ Try.underlying28]; rfl
  have HN : Hid (∀ w', Below w.heap.size w w' → ∀ j u, (set.map (Value.int .i64))[j]? = some u → w'.cell? ((⟨bb, ob, none⟩ : Addr).add j) = some u) := fun w' hb => news_of (fun i hi => (hb.cell (p := ⟨bb, ob + i, none⟩) hbb).trans (hc i hi))
  have HL : Hid ((set.map (Value.int .i64)).length = m * 1) := by unfold Hid; rw [List.length_map, hm.out]; omega
  have HF : Hid (∀ u ∈ set.map (Value.int .i64), u.oneCell' = true) := ints_oneCell .i64 set
  have HI : Hid (∃ i0 : TypeInfo, Try.prog.info? 2 = some i0 ∧ i0.zero = some (.int .i64 0) ∧ i0.size = 1 ∧ i0.bytes = 8) := info_parts info2
  clear hc hbb
  go_enter Try.func46, Try.ntmps46
  go_wp2_with (at_builtin; refine wpList_append_own _ rfl _ _ 28 rfl w.heap.size 2 HI.out.choose (.int .i64 0) 1 8 Try.underlying28 HI.out.choose_spec.1 HI.out.choose_spec.2.1 HI.out.choose_spec.2.2.1 HI.out.choose_spec.2.2.2 rfl (by decide) (.slice (some ⟨w.heap.size, 0, none⟩) 0 0) 0 [] rfl (World.ownsRow_made w #[] 0 (Nat.le_refl _) (by unfold maxLen; omega) rfl) ⟨bb, ob, none⟩ m cb (set.map (Value.int .i64)) rfl HL.out (HN.out _ ((Below.refl _ _).alloc (Nat.le_refl _) _)) HF.out (by unfold maxLen; omega) (by omega) (by simp) ?_)
  intro v' w1 hown1 hgrow hne
  obtain ⟨g, cap, hv, hlo⟩ := own_form1 hown1 hne
  subst hv
  have HB : Hid (Below w.heap.size w w1) := ((Below.refl _ _).alloc (Nat.le_refl _) _).grown hgrow (by simp) (fun k hk => by simp [Value.ownBlock] at hk; omega)
  have HO : Hid (IRow w1 g cap set) := IRow.of hm.out (by simpa using hown1)
  clear hown1 hgrow hne
  go_wp2
  go_ret
  exact ⟨g, cap, by simp, hlo, HB.out, HO.out⟩
set_option maxHeartbeats 1000000 in
theorem l00Own_any (bb ob cb m : Nat) (set : List Int) (w : World) (hm : Hid (set.length = m)) (hm1 : m ≤ 1048576) (hbb : bb < w.heap.size) (hc : ∀ i (h : i < set.length), w.cell? ⟨bb, ob + i, none⟩ = some (.int .i64 set[i])) :
    Calls Try.prog 55 #[.slice (some ⟨bb, ob, none⟩) m cb] w (CopyGives set m w) := by
  have HN : Hid (∀ w', Below w.heap.size w w' → ∀ j u, (set.map (Value.int .i64))[j]? = some u → w'.cell? ((⟨bb, ob, none⟩ : Addr).add j) = some u) := fun w' hb => news_of (fun i hi => (hb.cell (p := ⟨bb, ob + i, none⟩) hbb).trans (hc i hi))
  have HL : Hid ((set.map (Value.int .i64)).length = m * 1) := by unfold Hid; rw [List.length_map, hm.out]; omega
  have HF : Hid (∀ u ∈ set.map (Value.int .i64), u.oneCell' = true) := ints_oneCell .i64 set
  have HI : Hid (∃ i0 : TypeInfo, Try.prog.info? 2 = some i0 ∧ i0.zero = some (.int .i64 0) ∧ i0.size = 1 ∧ i0.bytes = 8) := info_parts info2
  clear hc hbb
  go_enter Try.func55, Try.ntmps55
  go_wp2_with (at_builtin; refine wpList_append_own _ rfl _ _ 28 rfl w.heap.size 2 HI.out.choose (.int .i64 0) 1 8 Try.underlying28 HI.out.choose_spec.1 HI.out.choose_spec.2.1 HI.out.choose_spec.2.2.1 HI.out.choose_spec.2.2.2 rfl (by decide) (.slice (some ⟨w.heap.size, 0, none⟩) 0 0) 0 [] rfl (World.ownsRow_made w #[] 0 (Nat.le_refl _) (by unfold maxLen; omega) rfl) ⟨bb, ob, none⟩ m cb (set.map (Value.int .i64)) rfl HL.out (HN.out _ ((Below.refl _ _).alloc (Nat.le_refl _) _)) HF.out (by unfold maxLen; omega) (by omega) (by simp) ?_)
  intro v' w1 hown1 hgrow hne
  obtain ⟨g, cap, hv, hlo⟩ := own_form1 hown1 hne
  subst hv
  have HB : Hid (Below w.heap.size w w1) := ((Below.refl _ _).alloc (Nat.le_refl _) _).grown hgrow (by simp) (fun k hk => by simp [Value.ownBlock] at hk; omega)
  have HO : Hid (IRow w1 g cap set) := IRow.of hm.out (by simpa using hown1)
  clear hown1 hgrow hne
  go_wp2
  go_ret
  exact ⟨g, cap, by simp, hlo, HB.out, HO.out⟩
theorem cell_so {W : World} {g f : Nat} {x v : Value} {p : Addr} (h : p.block < g) (hc : W.cell? p = some v) : ((W.setCell ⟨g, f, none⟩ x).drew).cell? p = some v :=
  (World.cell?_of_block (a := p) (Below.heap_setCell _ _ _ _ (Nat.ne_of_lt h))).trans hc

set_option maxHeartbeats 2000000 in
theorem specSetWay_any (s : Int) (a b c : Option Addr) (ts : List T3) (set way : List Int) (n ca m cb k cc : Nat) (w : World) (hn : Hid (ts.length = n)) (ha : RT w a ts) (hmax : n ≤ 1048576) (hm : Hid (set.length = m)) (hb : RI w b set) (hm1 : m ≤ 1048576) (hk : Hid (way.length = k)) (hc : RI w c way) (hk1 : k ≤ 1048576) :
    Calls Try.prog 23 #[.agg #[.int .i64 s, .slice a n ca], .slice b m cb, .slice c k cc] w (GivesL (setWayOf s ts set way) w) := by
  have HA : Hid (∀ w', Below w.heap.size w w' → RT w' a ts) := fun w' h => ha.below h
  have HB : Hid (∀ w', Below w.heap.size w w' → RI w' b set) := fun w' h => hb.below h
  have HC : Hid (∀ w', Below w.heap.size w w' → RI w' c way) := fun w' h => hc.below h
  clear ha hb hc
  go_enter Try.func23, Try.ntmps23
  go_wp2_with fail
  refine (l04Code_any _ s a b c ts set way n ca m cb k cc _ hn (HA.out _ (by repeat (first | exact Below.refl _ _ | refine Below.alloc ?_ (by simp; try omega) _ | refine Below.setCell ?_ (by simp; try omega) _))) hmax (by simp [go_sem]) (by simp [go_sem]) hm (HB.out _ (by repeat (first | exact Below.refl _ _ | refine Below.alloc ?_ (by simp; try omega) _ | refine Below.setCell ?_ (by simp; try omega) _))) hm1 hk (HC.out _ (by repeat (first | exact Below.refl _ _ | refine Below.alloc ?_ (by simp; try omega) _ | refine Below.setCell ?_ (by simp; try omega) _))) hk1).mono ?_
  rintro e w1 ⟨rfl, hb1⟩
  have q0 := (hb1.cell (p := ⟨w.heap.size, 0, none⟩) (by simp)).trans (by simp [go_sem] : _ = some (.int .i64 s))
  have q1 := (hb1.cell (p := ⟨w.heap.size, 1, none⟩) (by simp)).trans (by simp [go_sem] : _ = some (.slice a n ca))
  have B1 := Lib.hid (Below.trans (show Below w.heap.size w (w.alloc (.cells #[.int .i64 s, .slice a n ca] 26)) from (by repeat (first | exact Below.refl _ _ | refine Below.alloc ?_ (by simp; try omega) _ | refine Below.setCell ?_ (by simp; try omega) _))) (hb1.mono (by simp)))
  have hz1 := World.block_lt_of_cell? _ _ q0
  simp only at hz1
  clear hb1
  rcases eq_ways (wayCode s ts set way) 0 with ⟨⟨e1, e2⟩, e3⟩ | ⟨⟨e1, e2⟩, e3⟩
  · have E3 := Lib.hid e3
    obtain ⟨hset, hsim⟩ := wayCode_parts e3
    have HR : Hid (setWayOf s ts set way = (setBy set (nds ts way way.length), 0)) := by unfold Hid setWayOf; rw [if_pos e3]
    obtain ⟨hnet, hlen, _⟩ := setB_parts hset
    obtain ⟨hs1, hs2, _, _⟩ := netB_parts hnet
    rw [hm.out] at hlen
    obtain ⟨bb, ob, rfl, hbb, hcb⟩ := (HB.out w (Below.refl _ _)).addr (by rw [hm.out]; omega)
    have HWAY := Lib.hid (way_st hn.out hsim)
    have HEND := Lib.hid (ends_of hnet)
    have HM10 : Hid ((m : Int) = s) := hlen
    have HNETT : Hid (∀ t, t ∈ ts → tubeB s t = true) := (netB_parts hnet).2.2.2
    rw [e3]
    clear e1 e2 e3 hset hsim hnet hlen hs1 hs2 HB
    go_wp2_with fail
    refine (l00Own_any bb ob cb m set _ hm hm1 (by have := B1.out.size; omega) (fun i hi => (B1.out.cell (p := ⟨bb, ob + i, none⟩) hbb).trans (hcb i hi))).mono ?_
    rintro e w2 ⟨g, cap, rfl, hg, hb2, hrow⟩
    have r0 := (hb2.cell (p := ⟨w.heap.size, 0, none⟩) hz1).trans q0
    have r1 := (hb2.cell (p := ⟨w.heap.size, 1, none⟩) hz1).trans q1
    have HGB : Hid (w.heap.size < g) := by unfold Hid; omega
    have B2 := Lib.hid (two_worldsC B1.out hb2)
    have HROW : Hid (IRow w2 g cap set) := hrow
    have HP2 := Lib.hid (And.intro r0 r1)
    have HCCC : Hid (0 < k → ∃ bc oc, c = some ⟨bc, oc, none⟩ ∧ bc < w.heap.size ∧ ∀ i (h : i < way.length), w.cell? ⟨bc, oc + i, none⟩ = some (.int .i64 way[i])) := fun h => (HC.out w (Below.refl _ _)).addr (by rw [hk.out]; exact h)
    clear hb2 hrow hg q0 q1 r0 r1 hcb
    go_wp2
    go_loopw [10] (fun iv wr => ∃ i : Nat, i ≤ k ∧ iv = .int .i64 i ∧ Below w.heap.size w wr ∧ Hid (wr.cell? ⟨w.heap.size, 0, none⟩ = some (.int .i64 s) ∧ wr.cell? ⟨w.heap.size, 1, none⟩ = some (.slice a n ca)) ∧ Hid (IRow wr g cap (setBy set (nds ts way i)))) (fun iv _ => k - (intOf iv).toNat)
    case atStart => exact ⟨0, by omega, rfl, B2.out, HP2.out, HROW.out⟩
    case round =>
      obtain ⟨i, hi, rfl, hbel, HQ, HIR⟩ := hrel
      obtain ⟨q0, q1⟩ := HQ.out
      by_cases hlt : i < k
      · have hia : i < way.length := by rw [hk.out]; exact hlt
        obtain ⟨bc, oc, rfl, hbc, hcc⟩ := HCCC.out (by omega)
        have x1 := hcc i hia
        have hst := HWAY.out i hia
        have HND := Lib.hid (nds_succ (ts := ts) hia)
        generalize way[i] = z at x1 hst HND
        obtain ⟨g0, g1⟩ := stB_parts hst
        obtain ⟨j, rfl⟩ := Int.eq_ofNat_of_zero_le g0
        have hj : j < ts.length := by rw [hn.out]; omega
        obtain ⟨ba, oa, rfl, hba, hca⟩ := (HA.out w (Below.refl _ _)).addr (by omega)
        obtain ⟨y1, y2, y3⟩ := hca j hj
        obtain ⟨f, _, ef, _, hf, _⟩ := HEND.out j hj
        have hfs := HNETT.out _ (List.getElem_mem hj)
        unfold tubeB at hfs
        have hfs := (of_decide_eq_true hfs).2.1
        have HFA := Lib.hid ((frAt_of (List.getElem?_eq_getElem hj)).trans ef)
        rw [ef] at y1 hfs
        rw [← hbel.cell (p := ⟨bc, _, none⟩) hbc] at x1
        rw [← hbel.cell (p := ⟨ba, _, none⟩) hba] at y1
        have hk0 : (0 : Int) ≤ (i : Int) := by omega
        have hk1 : (i : Int) < (k : Int) := by omega
        have hj0 : (0 : Int) ≤ (j : Int) := by omega
        have hf0 : (0 : Int) ≤ (f : Int) := by omega
        have hf1 : (f : Int) < (m : Int) := by have := HM10.out; omega
        have HST := Lib.hid (HIR.out.store f (j : Int) (by rw [setBy_len, hm.out]; omega))
        obtain ⟨⟨o, o1⟩, z1, _⟩ := HST.out
        have l1 : bc < wr.heap.size := by have := hbel.size; omega
        have l2 : ba < wr.heap.size := by have := hbel.size; omega
        have l3 : w.heap.size < wr.heap.size := World.block_lt_of_cell? wr _ q0
        have l4 : g < wr.heap.size := World.block_lt_of_cell? wr _ o1
        have HBEL := Lib.hid hbel
        have HG1 : Hid (bc < g) := by unfold Hid; have := HGB.out; omega
        have HG2 : Hid (ba < g) := by unfold Hid; have := HGB.out; omega
        clear hbel hcc hca hst ef hfs y2 y3
        go_wp2_with fail
        go_region_held3 (fun w' => w'.cell? ⟨bc, oc + i, none⟩ = some (.int .i64 (j : Int)) ∧ w'.cell? ⟨ba, oa + j * 3, none⟩ = some (.int .i64 (f : Int)) ∧ w'.cell? ⟨w.heap.size, 0, none⟩ = some (.int .i64 s) ∧ w'.cell? ⟨w.heap.size, 1, none⟩ = some (.slice (some ⟨ba, oa, none⟩) n ca))
          (first | exact ⟨x1, y1, q0, q1⟩ | exact ⟨cell_so HG1.out x1, cell_so HG2.out y1, cell_so HGB.out q0, cell_so HGB.out q1⟩) (fail)
        go_wp2
        go_roundw
        case rel => exact ⟨i + 1, by omega, by go_num, (HBEL.out.setCell (by show w.heap.size ≤ g; have := HGB.out; omega) _).drew, ⟨cell_so HGB.out q0, cell_so HGB.out q1⟩, by unfold Hid; rw [HND.out, setBy_snoc, HFA.out]; exact HST.out.2.2⟩
        case measure => simp [intOf]; omega
      · have hik : i = k := by omega
        subst hik
        have HB1 := Lib.hid hbel
        have HF : Hid (nds ts way way.length = nds ts way i) := by unfold Hid; rw [hk.out]
        clear hbel q0 q1
        go_wp2
        go_ret2
        exact givesL_of (by rw [HR.out, HF.out]) HB1.out (by rw [setBy_len, hm.out]) (HIR.out.own (by have := HGB.out; omega) (by rw [setBy_len, hm.out]))
  · have HR : Hid (setWayOf s ts set way = ([], wayCode s ts set way)) := by unfold Hid setWayOf; rw [if_neg e3]
    clear e3
    generalize wayCode s ts set way = cd at HR e1 e2
    go_wp2
    go_ret2
    exact givesL_nil HR.out B1.out
end Go.Proofs.Ytenjigifjkfiaaa
