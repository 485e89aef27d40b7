/-
  Needs at a station, clashes; the walks of l04Needs, l04Clash, FirstClash (the model's), firstClash (the program's).
-/
import Derived.Test.YtenjigifjkfiaaaTurnsFor
namespace Go.Proofs.Ytenjigifjkfiaaa
open Go.RowKit Go.Shelf Go.Sort

def needIn : List (Int × Int) → Int → Int
  | [], _ => -1
  | p :: r, i => if p.1 = i then p.2 else needIn r i
theorem needIn_step {l : List (Int × Int)} {k : Nat} {i : Int} (hk : k < l.length) (h : ¬ (l[k]).1 = i) : needIn (l.drop k) i = needIn (l.drop (k + 1)) i := by
  rw [List.drop_eq_getElem_cons hk]; simp [needIn, h]
theorem needIn_hit {l : List (Int × Int)} {k : Nat} {i : Int} (hk : k < l.length) (h : (l[k]).1 = i) : needIn (l.drop k) i = (l[k]).2 := by
  rw [List.drop_eq_getElem_cons hk]; simp [needIn, h]
theorem needIn_none {l : List (Int × Int)} {i : Int} (h : ∀ x, x ∈ l → ¬ x.1 = i) : needIn l i = -1 := by
  induction l with
  | nil => rfl
  | cons p r ih =>
    unfold needIn
    rw [if_neg (h p (by simp))]
    exact ih (fun x hx => h x (by simp [hx]))
theorem needIn_of {l : List (Int × Int)} {x : Int × Int} (hx : x ∈ l) (hs : ∀ y, y ∈ l → y.1 = x.1 → y = x) : needIn l x.1 = x.2 := by
  induction l with
  | nil => exact absurd hx (by simp)
  | cons p r ih =>
    unfold needIn
    by_cases hp : p.1 = x.1
    · rw [if_pos hp, hs p (by simp) hp]
    · rw [if_neg hp]
      rcases List.mem_cons.1 hx with rfl | hx
      · exact absurd rfl hp
      · exact ih hx (fun y hy => hs y (by simp [hy]))
/-- Two ways need different settings at a station. -/
def clashB (la lb : List (Int × Int)) (i : Int) : Bool := decide (0 ≤ needIn la i ∧ 0 ≤ needIn lb i ∧ ¬ needIn la i = needIn lb i)
def firstFrom (p : Int → Bool) : Nat → Int → Int
  | 0, _ => -1
  | f + 1, i => if p i = true then i else firstFrom p f (i + 1)
theorem firstFrom_is (p : Int → Bool) (f : Nat) (i : Int) (x : Int) (h0 : i ≤ x) (h1 : x < i + f) (hp : p x = true) (hn : ∀ j, i ≤ j → j < x → p j = false) : firstFrom p f i = x := by
  induction f generalizing i with
  | zero => omega
  | succ f ih =>
    unfold firstFrom
    by_cases e : i = x
    · subst e; rw [if_pos hp]
    · rw [if_neg (by rw [hn i (by omega) (by omega)]; decide)]
      exact ih (i + 1) (by omega) (by omega) (fun j h2 h3 => hn j (by omega) h3)
theorem firstFrom_none (p : Int → Bool) (f : Nat) (i : Int) (hn : ∀ j, i ≤ j → p j = false) : firstFrom p f i = -1 := by
  induction f generalizing i with
  | zero => rfl
  | succ f ih =>
    unfold firstFrom
    rw [if_neg (by rw [hn i (by omega)]; decide)]
    exact ih (i + 1) (fun j h2 => hn j (by omega))
/-- The least station at which two ways clash; -1 if there is none. -/
def firstC (s : Int) (ts : List T3) (wa wb : List Int) : Int := firstFrom (clashB (nds ts wa wa.length) (nds ts wb wb.length)) s.toNat 0
/-- What FirstClash returns. -/
def firstClashOf (s : Int) (ts : List T3) (wa wb : List Int) : Int × Int := if netB s ts = true then (if (simpleB ts wa && simpleB ts wb) = true then (firstC s ts wa wb, 0) else (0, 2)) else (0, 1)

set_option maxHeartbeats 1000000 in
theorem l04Needs_any (pb : Nat) (s i : Int) (a c : Option Addr) (ts : List T3) (way : List Int) (n ca k cc : Nat) (w : World) (hn : Hid (ts.length = n)) (ha : RT w a ts)
    (p0 : w.cell? ⟨pb, 0, none⟩ = some (.int .i64 s)) (p1 : w.cell? ⟨pb, 1, none⟩ = some (.slice a n ca)) (hk : Hid (way.length = k)) (hc : RI w c way) (hk1 : k ≤ 1048576) (hway : ∀ q (h : q < way.length), stB n way[q] = true) :
    Calls Try.prog 80 #[.pointer (some ⟨pb, 0, none⟩), .slice c k cc, .int .i64 i] w fun e w' => e = .returned (.int .i64 (needIn (nds ts way way.length) i)) ∧ Below w.heap.size w w' := by
  have HA : Hid (∀ w', Below w.heap.size w w' → RT w' a ts) := fun w' h => ha.below h
  have HC : Hid (0 < k → ∃ bc oc, c = some ⟨bc, oc, none⟩ ∧ bc < w.heap.size ∧ ∀ i (h : i < way.length), w.cell? ⟨bc, oc + i, none⟩ = some (.int .i64 way[i])) := fun h => hc.addr (by rw [hk.out]; exact h)
  have hpb := World.block_lt_of_cell? w _ p0
  simp only at hpb
  have HWAY := Lib.hid hway
  have HP := Lib.hid (And.intro p0 p1)
  have HNL : Hid ((nds ts way way.length).length = k) := by unfold Hid; rw [nds_len (Nat.le_refl _), hk.out]
  clear ha hc p0 p1 hway
  go_enter Try.func80, Try.ntmps80
  go_wp2
  go_loopw [7] (fun iv wr => ∃ q : Nat, q ≤ k ∧ iv = .int .i64 q ∧ Below w.heap.size w wr ∧ Hid (needIn (nds ts way way.length) i = needIn ((nds ts way way.length).drop q) i)) (fun iv _ => k - (intOf iv).toNat)
  case atStart => exact ⟨0, by omega, rfl, Below.refl _ _, rfl⟩
  case round =>
    obtain ⟨q, hq, rfl, hbel, HE⟩ := hrel
    by_cases hlt : q < k
    · have hqa : q < way.length := by rw [hk.out]; exact hlt
      have hqn : q < (nds ts way way.length).length := by rw [HNL.out]; exact hlt
      obtain ⟨bc, oc, rfl, hbc, hcc⟩ := HC.out (by omega)
      have x1 := hcc q hqa
      have hst := HWAY.out q hqa
      have HGET : Hid ((nds ts way way.length)[q] = (frAt ts way[q], way[q])) := by unfold Hid nds; simp
      have HSTEP : Hid (¬ frAt ts way[q] = i → needIn ((nds ts way way.length).drop q) i = needIn ((nds ts way way.length).drop (q + 1)) i) := fun h => needIn_step hqn (by rw [HGET.out]; exact h)
      have HHIT : Hid (frAt ts way[q] = i → needIn ((nds ts way way.length).drop q) i = way[q]) := fun h => (needIn_hit hqn (by rw [HGET.out]; exact h)).trans (by rw [HGET.out])
      generalize way[q] = z at x1 hst HSTEP HHIT HGET
      obtain ⟨g0, g1⟩ := stB_parts hst
      obtain ⟨j, rfl⟩ := Int.eq_ofNat_of_zero_le g0
      have hj : j < ts.length := by rw [hn.out]; omega
      obtain ⟨ba, oa, rfl, hba, hca⟩ := (HA.out w (Below.refl _ _)).addr (by omega)
      obtain ⟨y1, y2, y3⟩ := hca j hj
      have HFA := Lib.hid (frAt_of (List.getElem?_eq_getElem hj))
      generalize ts[j] = t at y1 y2 y3 HFA
      rw [← hbel.cell (p := ⟨bc, _, none⟩) hbc] at x1
      rw [← hbel.cell (p := ⟨ba, _, none⟩) hba] at y1
      have q0 := (hbel.cell (p := ⟨pb, 0, none⟩) hpb).trans HP.out.1
      have q1 := (hbel.cell (p := ⟨pb, 1, none⟩) hpb).trans HP.out.2
      have hk0 : (0 : Int) ≤ (q : Int) := by omega
      have hk2 : (q : Int) < (k : Int) := by omega
      have hj0 : (0 : Int) ≤ (j : Int) := by omega
      have HBEL := Lib.hid hbel
      clear hbel hcc hca hst y2 y3
      rcases eq_ways t.1 i with ⟨⟨e4, e5⟩, e6⟩ | ⟨⟨e4, e5⟩, e6⟩
      · have HR : Hid (needIn (nds ts way way.length) i = (j : Int)) := HE.out.trans (HHIT.out (by rw [HFA.out]; exact e6))
        clear HHIT HSTEP e6
        go_wp2_with fail
        go_quiet (fail)
        go_wp2
        go_ret
        exact ⟨ret_int HR.out.symm, two_worldsC HBEL.out (by (repeat (first | exact Below.refl _ _ | refine Below.drew ?_ | refine Below.drewN' ?_ _ | refine Below.alloc ?_ (by first | (simp; done) | (simp; omega)) _ | refine Below.setCell ?_ (by first | (simp; done) | (simp; omega)) _)); done)⟩
      · have HE2 : Hid (needIn (nds ts way way.length) i = needIn ((nds ts way way.length).drop (q + 1)) i) := HE.out.trans (HSTEP.out (by rw [HFA.out]; exact e6))
        clear HHIT HSTEP e6
        go_wp2_with fail
        go_quiet (fail)
        go_wp2
        go_roundw
        case rel => exact ⟨q + 1, by omega, by go_num, two_worldsC HBEL.out (by (repeat (first | exact Below.refl _ _ | refine Below.drew ?_ | refine Below.drewN' ?_ _ | refine Below.alloc ?_ (by first | (simp; done) | (simp; omega)) _ | refine Below.setCell ?_ (by first | (simp; done) | (simp; omega)) _)); done), HE2.out⟩
        case measure => simp [intOf]; omega
    · have HR : Hid (needIn (nds ts way way.length) i = -1) := by
        unfold Hid
        rw [HE.out, List.drop_eq_nil_of_le (by rw [HNL.out]; omega)]; rfl
      have HBEL := Lib.hid hbel
      clear hbel
      go_wp2
      go_ret
      exact ⟨ret_int HR.out.symm, HBEL.out⟩

theorem needIn_ge {ts : List T3} {way : List Int} {n : Nat} (hway : ∀ q (h : q < way.length), stB n way[q] = true) (i : Int) : needIn (nds ts way way.length) i = -1 ∨ 0 ≤ needIn (nds ts way way.length) i := by
  have h : ∀ l : List (Int × Int), (∀ x, x ∈ l → 0 ≤ x.2) → needIn l i = -1 ∨ 0 ≤ needIn l i := by
    intro l
    induction l with
    | nil => intro _; exact .inl rfl
    | cons p r ih =>
      intro hp
      unfold needIn
      split
      · exact .inr (hp p (by simp))
      · exact ih (fun x hx => hp x (by simp [hx]))
  refine h _ (fun x hx => ?_)
  unfold nds at hx
  rw [List.take_length, List.mem_map] at hx
  obtain ⟨z, hz, rfl⟩ := hx
  obtain ⟨q, hq, rfl⟩ := List.getElem_of_mem hz
  exact (stB_parts (hway q hq)).1

set_option maxHeartbeats 1000000 in
theorem l04Clash_any (pb : Nat) (s : Int) (a b c : Option Addr) (ts : List T3) (wa wb : List Int) (n ca m cb k cc : Nat) (w : World) (hn : Hid (ts.length = n)) (ha : RT w a ts)
    (p0 : w.cell? ⟨pb, 0, none⟩ = some (.int .i64 s)) (p1 : w.cell? ⟨pb, 1, none⟩ = some (.slice a n ca)) (hm : Hid (wa.length = m)) (hb : RI w b wa) (hm1 : m ≤ 1048576) (hk : Hid (wb.length = k)) (hc : RI w c wb) (hk1 : k ≤ 1048576) (hnet : netB s ts = true) (hsa : simpleB ts wa = true) (hsb : simpleB ts wb = true) :
    Calls Try.prog 62 #[.pointer (some ⟨pb, 0, none⟩), .slice b m cb, .slice c k cc] w fun e w' => e = .returned (.int .i64 (firstC s ts wa wb)) ∧ Below w.heap.size w w' := by
  have HA : Hid (∀ w', Below w.heap.size w w' → RT w' a ts) := fun w' h => ha.below h
  have HB : Hid (∀ w', Below w.heap.size w w' → RI w' b wa) := fun w' h => hb.below h
  have HC : Hid (∀ w', Below w.heap.size w w' → RI w' c wb) := fun w' h => hc.below h
  have hpb := World.block_lt_of_cell? w _ p0
  simp only at hpb
  obtain ⟨hs1, hs2, _, _⟩ := netB_parts hnet
  have HWA := Lib.hid (way_st hn.out hsa)
  have HWB := Lib.hid (way_st hn.out hsb)
  have HP := Lib.hid (And.intro p0 p1)
  have hsn : Hid (((s.toNat : Nat) : Int) = s) := by unfold Hid; omega
  clear ha hb hc p0 p1 hnet hsa hsb
  go_enter Try.func62, Try.ntmps62
  go_wp2
  go_loopw [7] (fun iv wr => ∃ i : Nat, i ≤ s.toNat ∧ iv = .int .i64 (i : Int) ∧ Below w.heap.size w wr ∧ Hid (firstC s ts wa wb = firstFrom (clashB (nds ts wa wa.length) (nds ts wb wb.length)) (s.toNat - i) (i : Int))) (fun iv _ => s.toNat - (intOf iv).toNat)
  case atStart => exact ⟨0, by omega, rfl, Below.refl _ _, rfl⟩
  case round =>
    obtain ⟨i, hi, rfl, hbel, HE⟩ := hrel
    have q0 := (hbel.cell (p := ⟨pb, 0, none⟩) hpb).trans HP.out.1
    have q1 := (hbel.cell (p := ⟨pb, 1, none⟩) hpb).trans HP.out.2
    have HBEL := Lib.hid hbel
    by_cases hlt : (i : Int) < s
    · have hl3 : pb < wr.heap.size := by have := hbel.size; omega
      have HST : Hid (firstC s ts wa wb = if clashB (nds ts wa wa.length) (nds ts wb wb.length) (i : Int) = true then (i : Int) else firstFrom (clashB (nds ts wa wa.length) (nds ts wb wb.length)) (s.toNat - (i + 1)) ((i + 1 : Nat) : Int)) := by
        have h := HE.out
        rw [show s.toNat - i = (s.toNat - (i + 1)) + 1 by have := hsn.out; omega] at h
        unfold Hid
        rw [h]
        rfl
      clear hbel
      go_wp2_with fail
      refine (l04Needs_any pb s (i : Int) a b ts wa n ca m cb _ hn (HA.out _ HBEL.out) q0 q1 hm (HB.out _ HBEL.out) hm1 HWA.out).mono ?_
      rintro e w2 ⟨rfl, hb2⟩
      have B2 := Lib.hid (two_worldsC HBEL.out hb2)
      have r0 := (hb2.cell (p := ⟨pb, 0, none⟩) hl3).trans q0
      have r1 := (hb2.cell (p := ⟨pb, 1, none⟩) hl3).trans q1
      clear hb2 q0 q1
      go_wp2_with fail
      refine (l04Needs_any pb s (i : Int) a c ts wb n ca k cc _ hn (HA.out _ B2.out) r0 r1 hk (HC.out _ B2.out) hk1 HWB.out).mono ?_
      rintro e w3 ⟨rfl, hb3⟩
      have B3 := Lib.hid (two_worldsC B2.out hb3)
      clear hb3 r0 r1
      have hga := needIn_ge (ts := ts) HWA.out (i : Int)
      have hgb := needIn_ge (ts := ts) HWB.out (i : Int)
      have HCL : Hid (clashB (nds ts wa wa.length) (nds ts wb wb.length) (i : Int) = decide (0 ≤ needIn (nds ts wa wa.length) (i : Int) ∧ 0 ≤ needIn (nds ts wb wb.length) (i : Int) ∧ ¬ needIn (nds ts wa wa.length) (i : Int) = needIn (nds ts wb wb.length) (i : Int))) := rfl
      generalize needIn (nds ts wa wa.length) (i : Int) = x at hga HCL
      generalize needIn (nds ts wb wb.length) (i : Int) = y at hgb HCL
      by_cases hx : 0 ≤ x
      · by_cases hy : 0 ≤ y
        · rcases eq_ways x y with ⟨⟨e4, e5⟩, e6⟩ | ⟨⟨e4, e5⟩, e6⟩
          · have HN : Hid (firstC s ts wa wb = firstFrom (clashB (nds ts wa wa.length) (nds ts wb wb.length)) (s.toNat - (i + 1)) ((i + 1 : Nat) : Int)) := by unfold Hid; rw [HST.out, HCL.out, decide_eq_false (by omega)]; rfl
            clear e6 hga hgb
            go_wp2
            go_roundw
            case rel => exact ⟨i + 1, by have := hsn.out; omega, by go_num, B3.out, HN.out⟩
            case measure => have := hsn.out; simp [intOf]; omega
          · have HR : Hid (firstC s ts wa wb = (i : Int)) := by unfold Hid; rw [HST.out, HCL.out, decide_eq_true ⟨hx, hy, e6⟩, if_pos rfl]
            clear e6 hga hgb
            go_wp2
            go_ret
            exact ⟨ret_int HR.out.symm, B3.out⟩
        · have HN : Hid (firstC s ts wa wb = firstFrom (clashB (nds ts wa wa.length) (nds ts wb wb.length)) (s.toNat - (i + 1)) ((i + 1 : Nat) : Int)) := by unfold Hid; rw [HST.out, HCL.out, decide_eq_false (fun h => hy h.2.1)]; rfl
          clear hga hgb
          go_wp2
          go_roundw
          case rel => exact ⟨i + 1, by have := hsn.out; omega, by go_num, B3.out, HN.out⟩
          case measure => have := hsn.out; simp [intOf]; omega
      · have HN : Hid (firstC s ts wa wb = firstFrom (clashB (nds ts wa wa.length) (nds ts wb wb.length)) (s.toNat - (i + 1)) ((i + 1 : Nat) : Int)) := by unfold Hid; rw [HST.out, HCL.out, decide_eq_false (fun h => hx h.1)]; rfl
        clear hga hgb
        go_wp2
        go_roundw
        case rel => exact ⟨i + 1, by have := hsn.out; omega, by go_num, B3.out, HN.out⟩
        case measure => have := hsn.out; simp [intOf]; omega
    · have HR : Hid (firstC s ts wa wb = -1) := by
        unfold Hid
        rw [HE.out, show s.toNat - i = 0 by have := hsn.out; omega]; rfl
      clear hbel
      go_wp2
      go_ret
      exact ⟨ret_int HR.out.symm, HBEL.out⟩

set_option maxHeartbeats 1000000 in
theorem specFirstClash_any (s : Int) (a b c : Option Addr) (ts : List T3) (wa wb : List Int) (n ca m cb k cc : Nat) (w : World) (hn : Hid (ts.length = n)) (ha : RT w a ts) (hmax : n ≤ 1048576) (hm : Hid (wa.length = m)) (hb : RI w b wa) (hm1 : m ≤ 1048576) (hk : Hid (wb.length = k)) (hc : RI w c wb) (hk1 : k ≤ 1048576) :
    Calls Try.prog 32 #[.agg #[.int .i64 s, .slice a n ca], .slice b m cb, .slice c k cc] w fun e w' => e = .returned (.tuple #[.int .i64 (firstClashOf s ts wa wb).1, .int .i64 (firstClashOf s ts wa wb).2]) ∧ Below w.heap.size w w' := by
  have HA : Hid (∀ w', Below w.heap.size w w' → RT w' a ts) := fun w' h => ha.below h
  have HB : Hid (∀ w', Below w.heap.size w w' → RI w' b wa) := fun w' h => hb.below h
  have HC : Hid (∀ w', Below w.heap.size w w' → RI w' c wb) := fun w' h => hc.below h
  clear ha hb hc
  go_enter Try.func32, Try.ntmps32
  go_wp2_with fail
  refine (l02Ok_any _ s a ts n ca _ hn (HA.out _ (by repeat (first | exact Below.refl _ _ | refine Below.alloc ?_ (by simp; try omega) _ | refine Below.setCell ?_ (by simp; try omega) _))) hmax (by simp [go_sem]) (by simp [go_sem])).mono ?_
  rintro e w1 ⟨rfl, hb1⟩
  have q0 := (hb1.cell (p := ⟨w.heap.size, 0, none⟩) (by simp)).trans (by simp [go_sem] : _ = some (.int .i64 s))
  have q1 := (hb1.cell (p := ⟨w.heap.size, 1, none⟩) (by simp)).trans (by simp [go_sem] : _ = some (.slice a n ca))
  have B1 := Lib.hid (Below.trans (show Below w.heap.size w (w.alloc (.cells #[.int .i64 s, .slice a n ca] 26)) from (by repeat (first | exact Below.refl _ _ | refine Below.alloc ?_ (by simp; try omega) _ | refine Below.setCell ?_ (by simp; try omega) _))) (hb1.mono (by simp)))
  have hz1 := World.block_lt_of_cell? _ _ q0
  simp only at hz1
  clear hb1
  cases hv : netB s ts with
  | false =>
    have HR : Hid (firstClashOf s ts wa wb = (0, 1)) := by unfold Hid firstClashOf; rw [hv]; rfl
    go_wp2
    go_ret2
    exact ⟨ret_ints HR.out, B1.out⟩
  | true =>
    have HV := Lib.hid hv
    clear hv
    go_wp2_with fail
    refine (l04Simple_any w.heap.size s a b ts wa n ca m cb _ hn (HA.out _ B1.out) hmax q0 q1 hm (HB.out _ B1.out) hm1).mono ?_
    rintro e w2 ⟨rfl, hb2⟩
    have B2 := Lib.hid (two_worldsC B1.out hb2)
    have r0 := (hb2.cell (p := ⟨w.heap.size, 0, none⟩) hz1).trans q0
    have r1 := (hb2.cell (p := ⟨w.heap.size, 1, none⟩) hz1).trans q1
    have hz2 := World.block_lt_of_cell? _ _ r0
    simp only at hz2
    clear hb2 q0 q1 hz1
    cases hsa : simpleB ts wa with
    | false =>
      have HR : Hid (firstClashOf s ts wa wb = (0, 2)) := by unfold Hid firstClashOf; rw [HV.out, hsa]; rfl
      go_wp2
      go_ret2
      exact ⟨ret_ints HR.out, B2.out⟩
    | true =>
      have HSA := Lib.hid hsa
      clear hsa
      go_wp2_with fail
      refine (l04Simple_any w.heap.size s a c ts wb n ca k cc _ hn (HA.out _ B2.out) hmax r0 r1 hk (HC.out _ B2.out) hk1).mono ?_
      rintro e w3 ⟨rfl, hb3⟩
      have B3 := Lib.hid (two_worldsC B2.out hb3)
      have s0 := (hb3.cell (p := ⟨w.heap.size, 0, none⟩) hz2).trans r0
      have s1 := (hb3.cell (p := ⟨w.heap.size, 1, none⟩) hz2).trans r1
      clear hb3 r0 r1 hz2
      cases hsb : simpleB ts wb with
      | false =>
        have HR : Hid (firstClashOf s ts wa wb = (0, 2)) := by unfold Hid firstClashOf; rw [HV.out, HSA.out, hsb]; rfl
        go_wp2
        go_ret2
        exact ⟨ret_ints HR.out, B3.out⟩
      | true =>
        have HSB := Lib.hid hsb
        have HR : Hid (firstClashOf s ts wa wb = (firstC s ts wa wb, 0)) := by unfold Hid firstClashOf; rw [HV.out, HSA.out, hsb]; rfl
        clear hsb
        go_wp2_with fail
        refine (l04Clash_any w.heap.size s a b c ts wa wb n ca m cb k cc _ hn (HA.out _ B3.out) s0 s1 hm (HB.out _ B3.out) hm1 hk (HC.out _ B3.out) hk1 HV.out HSA.out HSB.out).mono ?_
        rintro e w4 ⟨rfl, hb4⟩
        have B4 := Lib.hid (two_worldsC B3.out hb4)
        clear hb4 s0 s1
        go_wp2
        go_ret2
        exact ⟨ret_ints HR.out, B4.out⟩
end Go.Proofs.Ytenjigifjkfiaaa
