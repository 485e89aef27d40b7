/-
  The walk of SetWay, the program's.
-/
import Derived.Test.YtenjigifjkfiaaaSetWay
namespace Go.Proofs.Ytenjigifjkfiaaa
open Go.RowKit

theorem checkSetting0_at (v : Int) (s : Int) (a b : Option Addr) (ts : List T3) (set : List Int) (n ca m cb : Nat) (hv : setCode s ts set [] = v) (w : World) (hn : Hid (ts.length = n)) (ha : RT w a ts) (hmax : n ≤ 1048576) (hm : Hid (set.length = m)) (hb : RI w b set) (hm1 : m ≤ 1048576) :
    Calls Try.prog 45 #[.agg #[.int .i64 s, .slice a n ca], .slice b m cb, .slice none 0 0] w fun e w' => e = .returned (.int .i64 v) ∧ Below w.heap.size w w' := by
  rw [← hv]
  exact checkSetting_any s a b none ts set [] n ca m cb 0 0 w hn ha hmax hm hb hm1 rfl (.inl rfl) (by omega)
theorem checkWays1_at (v : Int) (s : Int) (a aw c : Option Addr) (ts : List T3) (way : List Int) (n ca cw cc : Nat) (hv : (if simpleB ts way = true then (0 : Int) else 2) = v) (w : World) (hn : Hid (ts.length = n)) (ha : RT w a ts) (hmax : n ≤ 1048576) (hnet : netB s ts = true) (hw : RWays w aw [((c, cc), way)]) :
    Calls Try.prog 44 #[.int .i64 0, .agg #[.int .i64 s, .slice a n ca], .slice aw 1 cw] w fun e w' => e = .returned (.int .i64 v) ∧ Below w.heap.size w w' := by
  rw [← hv, ← waysCode_one ts (c, cc) way]
  exact checkWays_any s a aw ts _ n ca 1 cw w hn ha hmax hnet rfl (by omega) hw
theorem setCode_nil_ok {s : Int} {ts : List T3} {set : List Int} (h : setB s ts set = true) : setCode s ts set [] = 0 := (setCode_of h).trans (codeOf_ok (setB_parts h).1 (fun k hk => absurd hk (by simp)))
theorem Row.store {lo hi : Nat} {e : TypeId} {size n g : Nat} {v : Value} {xs : List Value} {w : World} (h : Row lo hi e size v n xs w) (hg : g < lo) (f : Nat) (x : Value) : Row lo hi e size v n xs (w.setCell ⟨g, f, none⟩ x) := by
  refine ⟨h.1.kept (grown_setCell (grown_refl w (some g)) x) ?_, h.2⟩
  cases hv : v.ownBlock with
  | none => exact .inl rfl
  | some k => exact .inr (fun e => by injection e with e; have := (h.2 k hv).1; omega)

set_option maxHeartbeats 4000000 in
theorem implSetWay_any (s : Int) (a b c : Option Addr) (ts : List T3) (set way : List Int) (n ca m cb k cc : Nat) (w : World) (hn : Hid (ts.length = n)) (ha : RT w a ts) (hmax : n ≤ 1048576) (hm : Hid (set.length = m)) (hb : RI w b set) (hm1 : m ≤ 1048576) (hk : Hid (way.length = k)) (hc : RI w c way) (hk1 : k ≤ 1048576) :
    Calls Try.prog 12 #[.agg #[.int .i64 s, .slice a n ca], .slice b m cb, .slice c k cc] w (GivesL (setWayOf s ts set way) w) := by
  have HA : Hid (∀ w', Below w.heap.size w w' → RT w' a ts) := fun w' h => ha.below h
  have HB : Hid (∀ w', Below w.heap.size w w' → RI w' b set) := fun w' h => hb.below h
  have HC : Hid (∀ w', Below w.heap.size w w' → RI w' c way) := fun w' h => hc.below h
  clear ha hb hc
  have NB : Hid (Below w.heap.size w (w.alloc (.cells #[.int .i64 s, .slice a n ca] 26))) := (by repeat (first | exact Below.refl _ _ | refine Below.alloc ?_ (by simp; try omega) _ | refine Below.setCell ?_ (by simp; try omega) _))
  have NX : Hid (BoxN (w.alloc (.cells #[.int .i64 s, .slice a n ca] 26)) w.heap.size s (.slice a n ca)) := ⟨by simp [go_sem], by simp [go_sem]⟩
  have HNB : Hid (∀ w', Below (w.alloc (.cells #[.int .i64 s, .slice a n ca] 26)).heap.size (w.alloc (.cells #[.int .i64 s, .slice a n ca] 26)) w' → Below w.heap.size w w') := fun w' h => Below.trans NB.out (h.mono (by simp))
  have p0 := NX.out.1
  have p1 := NX.out.2
  have CS : ∀ v, setCode s ts set [] = v → Hid (∀ W, Below w.heap.size w W → Calls Try.prog 45 #[.agg #[.int .i64 s, .slice a n ca], .slice b m cb, .slice none 0 0] W fun e w' => e = .returned (.int .i64 v) ∧ Below W.heap.size W w') := fun v hv W h => checkSetting0_at v s a b ts set n ca m cb hv W hn (HA.out _ h) hmax hm (HB.out _ h) hm1
  cases hv : setB s ts set with
  | false =>
    have HW : Hid (wayCode s ts set way = 1) := by unfold Hid wayCode; rw [hv]; rfl
    have CS1 := CS 1 (setCode_inv hv)
    clear CS hv
    go_enter Try.func12, Try.ntmps12
    go_wp2_with fail
    go_region_held3 (fun w' => w'.cell? ⟨w.heap.size, 0, none⟩ = some (.int .i64 s) ∧ w'.cell? ⟨w.heap.size, 1, none⟩ = some (.slice a n ca))
      (first | exact ⟨p0, p1⟩ | (refine BoxN.below NX.out ?_; (repeat (first | exact Below.refl _ _ | refine Below.drew ?_ | refine Below.alloc ?_ (Nat.le_refl _) _)); done) | (refine BoxN.below NX.out (two_worldsC ?_ hb1); (repeat (first | exact Below.refl _ _ | refine Below.drew ?_ | refine Below.alloc ?_ (Nat.le_refl _) _)); done) | (refine BoxN.below NX.out (two_worldsC (two_worldsC ?_ hb1) ((Below.refl _ _).alloc (Nat.le_refl _) _)); (repeat (first | exact Below.refl _ _ | refine Below.drew ?_ | refine Below.alloc ?_ (Nat.le_refl _) _)); done) | (refine BoxN.below NX.out (two_worldsC (two_worldsC ?_ hb1) hb2); (repeat (first | exact Below.refl _ _ | refine Below.drew ?_ | refine Below.alloc ?_ (Nat.le_refl _) _)); done) | (refine BoxN.below NX.out (two_worldsC (two_worldsC (two_worldsC ?_ hb1) ((Below.refl _ _).alloc (Nat.le_refl _) _)) hb2); (repeat (first | exact Below.refl _ _ | refine Below.drew ?_ | refine Below.alloc ?_ (Nat.le_refl _) _)); done))
      (first | (go_at_call 45; refine Calls.mono (CS1.out _ (HNB.out _ ?_)) ?_; (focus ((repeat (first | exact Below.refl _ _ | refine Below.drew ?_ | refine Below.alloc ?_ (Nat.le_refl _) _)); done)); rintro e w1 ⟨rfl, hb1⟩) | (go_at_call 44; refine (checkWaysBad_any 1 s a _ n ca 1 _ _ (by decide)).mono ?_; rintro e w2 ⟨rfl, hb2⟩))
    all_goals
      have E1 : Below (w.alloc (.cells #[.int .i64 s, .slice a n ca] 26)).heap.size (w.alloc (.cells #[.int .i64 s, .slice a n ca] 26)) w1 := two_worldsC (by (repeat (first | exact Below.refl _ _ | refine Below.drew ?_ | refine Below.drewN' ?_ _ | refine Below.alloc ?_ (by first | (simp; done) | (simp; omega)) _ | refine Below.setCell ?_ (by first | (simp; done) | (simp; omega)) _)); done) hb1
      have E2 : Below (w.alloc (.cells #[.int .i64 s, .slice a n ca] 26)).heap.size (w.alloc (.cells #[.int .i64 s, .slice a n ca] 26)) w2 := two_worldsC (by first | exact E1 | exact E1.alloc E1.size _) hb2
      have X2 := Lib.hid (BoxN.below NX.out E2)
      have B2 := Lib.hid (HNB.out _ E2)
      clear E1 E2 hb1 hb2 p0 p1
      have HR : Hid (setWayOf s ts set way = ([], 1)) := by unfold Hid setWayOf; rw [HW.out]; rfl
      go_wp2
      go_ret2
      exact givesL_nil HR.out B2.out
  | true =>
    have HS := Lib.hid hv
    have HNT := Lib.hid (setB_parts hv).1
    have CS1 := CS 0 (setCode_nil_ok hv)
    have RW0 : Hid (∀ W T H, W.heap.size = H → Below w.heap.size w W → RWays (W.alloc (.cells #[.slice c k cc] T)) (some ⟨H, 0, none⟩) [((c, cc), way)]) := fun W T H e h => by subst e; exact rways_one hk.out (HC.out _ h) hk1 T
    have NS : Hid ((w.alloc (.cells #[.int .i64 s, .slice a n ca] 26)).heap.size = w.heap.size + 1) := by unfold Hid; simp
    cases hs : simpleB ts way with
    | false =>
      have HW : Hid (wayCode s ts set way = 2) := by unfold Hid wayCode; rw [hv, hs]; rfl
      have CW : Hid (∀ W aw cw, Below w.heap.size w W → RWays W aw [((c, cc), way)] → Calls Try.prog 44 #[.int .i64 0, .agg #[.int .i64 s, .slice a n ca], .slice aw 1 cw] W fun e w' => e = .returned (.int .i64 2) ∧ Below W.heap.size W w') := fun W aw cw h hw => checkWays1_at 2 s a aw c ts way n ca cw cc (by rw [hs]; rfl) W hn (HA.out _ h) hmax HNT.out hw
      have HSIM := Lib.hid hs
      clear CS hv hs
      go_enter Try.func12, Try.ntmps12
      go_wp2_with fail
      go_region_held3 (fun w' => w'.cell? ⟨w.heap.size, 0, none⟩ = some (.int .i64 s) ∧ w'.cell? ⟨w.heap.size, 1, none⟩ = some (.slice a n ca))
        (first | exact ⟨p0, p1⟩ | (refine BoxN.below NX.out ?_; (repeat (first | exact Below.refl _ _ | refine Below.drew ?_ | refine Below.alloc ?_ (Nat.le_refl _) _)); done) | (refine BoxN.below NX.out (two_worldsC ?_ hb1); (repeat (first | exact Below.refl _ _ | refine Below.drew ?_ | refine Below.alloc ?_ (Nat.le_refl _) _)); done) | (refine BoxN.below NX.out (two_worldsC (two_worldsC ?_ hb1) ((Below.refl _ _).alloc (Nat.le_refl _) _)); (repeat (first | exact Below.refl _ _ | refine Below.drew ?_ | refine Below.alloc ?_ (Nat.le_refl _) _)); done) | (refine BoxN.below NX.out (two_worldsC (two_worldsC ?_ hb1) hb2); (repeat (first | exact Below.refl _ _ | refine Below.drew ?_ | refine Below.alloc ?_ (Nat.le_refl _) _)); done) | (refine BoxN.below NX.out (two_worldsC (two_worldsC (two_worldsC ?_ hb1) ((Below.refl _ _).alloc (Nat.le_refl _) _)) hb2); (repeat (first | exact Below.refl _ _ | refine Below.drew ?_ | refine Below.alloc ?_ (Nat.le_refl _) _)); done))
        (first | (go_at_call 45; refine Calls.mono (CS1.out _ (HNB.out _ ?_)) ?_; (focus ((repeat (first | exact Below.refl _ _ | refine Below.drew ?_ | refine Below.alloc ?_ (Nat.le_refl _) _)); done)); rintro e w1 ⟨rfl, hb1⟩) | (go_at_call 44; have E1 : Below (w.alloc (.cells #[.int .i64 s, .slice a n ca] 26)).heap.size (w.alloc (.cells #[.int .i64 s, .slice a n ca] 26)) w1 := (by refine two_worldsC ?_ hb1; (repeat (first | exact Below.refl _ _ | refine Below.drew ?_ | refine Below.alloc ?_ (Nat.le_refl _) _)); done); refine Calls.mono (CW.out _ _ _ ?_ ?_) ?_; (focus (first | exact HNB.out _ E1 | exact HNB.out _ (E1.alloc E1.size _))); (focus (first | exact RW0.out _ _ _ rfl (HNB.out _ E1) | exact RWays.below (RW0.out _ _ _ NS.out (HNB.out _ (Below.refl _ _))) hb1 | exact RWays.below (RW0.out _ _ _ NS.out (HNB.out _ (Below.refl _ _).drew)) hb1 | exact RWays.below (RWays.below (RW0.out _ _ _ NS.out (HNB.out _ (Below.refl _ _))) (Below.refl _ _).drew) hb1)); rintro e w2 ⟨rfl, hb2⟩))
      all_goals
        have E1 : Below (w.alloc (.cells #[.int .i64 s, .slice a n ca] 26)).heap.size (w.alloc (.cells #[.int .i64 s, .slice a n ca] 26)) w1 := two_worldsC (by (repeat (first | exact Below.refl _ _ | refine Below.drew ?_ | refine Below.drewN' ?_ _ | refine Below.alloc ?_ (by first | (simp; done) | (simp; omega)) _ | refine Below.setCell ?_ (by first | (simp; done) | (simp; omega)) _)); done) hb1
        have E2 : Below (w.alloc (.cells #[.int .i64 s, .slice a n ca] 26)).heap.size (w.alloc (.cells #[.int .i64 s, .slice a n ca] 26)) w2 := two_worldsC (by first | exact E1 | exact E1.alloc E1.size _) hb2
        have X2 := Lib.hid (BoxN.below NX.out E2)
        have B2 := Lib.hid (HNB.out _ E2)
        clear E1 E2 hb1 hb2 p0 p1
        have HR : Hid (setWayOf s ts set way = ([], 2)) := by unfold Hid setWayOf; rw [HW.out]; rfl
        go_wp2
        go_ret2
        exact givesL_nil HR.out B2.out
    | true =>
      have HW : Hid (wayCode s ts set way = 0) := by unfold Hid wayCode; rw [hv, hs]; rfl
      have CW : Hid (∀ W aw cw, Below w.heap.size w W → RWays W aw [((c, cc), way)] → Calls Try.prog 44 #[.int .i64 0, .agg #[.int .i64 s, .slice a n ca], .slice aw 1 cw] W fun e w' => e = .returned (.int .i64 0) ∧ Below W.heap.size W w') := fun W aw cw h hw => checkWays1_at 0 s a aw c ts way n ca cw cc (by rw [hs]; rfl) W hn (HA.out _ h) hmax HNT.out hw
      have HSIM := Lib.hid hs
      clear CS hv hs
      go_enter Try.func12, Try.ntmps12
      go_wp2_with fail
      go_region_held3 (fun w' => w'.cell? ⟨w.heap.size, 0, none⟩ = some (.int .i64 s) ∧ w'.cell? ⟨w.heap.size, 1, none⟩ = some (.slice a n ca))
        (first | exact ⟨p0, p1⟩ | (refine BoxN.below NX.out ?_; (repeat (first | exact Below.refl _ _ | refine Below.drew ?_ | refine Below.alloc ?_ (Nat.le_refl _) _)); done) | (refine BoxN.below NX.out (two_worldsC ?_ hb1); (repeat (first | exact Below.refl _ _ | refine Below.drew ?_ | refine Below.alloc ?_ (Nat.le_refl _) _)); done) | (refine BoxN.below NX.out (two_worldsC (two_worldsC ?_ hb1) ((Below.refl _ _).alloc (Nat.le_refl _) _)); (repeat (first | exact Below.refl _ _ | refine Below.drew ?_ | refine Below.alloc ?_ (Nat.le_refl _) _)); done) | (refine BoxN.below NX.out (two_worldsC (two_worldsC ?_ hb1) hb2); (repeat (first | exact Below.refl _ _ | refine Below.drew ?_ | refine Below.alloc ?_ (Nat.le_refl _) _)); done) | (refine BoxN.below NX.out (two_worldsC (two_worldsC (two_worldsC ?_ hb1) ((Below.refl _ _).alloc (Nat.le_refl _) _)) hb2); (repeat (first | exact Below.refl _ _ | refine Below.drew ?_ | refine Below.alloc ?_ (Nat.le_refl _) _)); done))
        (first | (go_at_call 45; refine Calls.mono (CS1.out _ (HNB.out _ ?_)) ?_; (focus ((repeat (first | exact Below.refl _ _ | refine Below.drew ?_ | refine Below.alloc ?_ (Nat.le_refl _) _)); done)); rintro e w1 ⟨rfl, hb1⟩) | (go_at_call 44; have E1 : Below (w.alloc (.cells #[.int .i64 s, .slice a n ca] 26)).heap.size (w.alloc (.cells #[.int .i64 s, .slice a n ca] 26)) w1 := (by refine two_worldsC ?_ hb1; (repeat (first | exact Below.refl _ _ | refine Below.drew ?_ | refine Below.alloc ?_ (Nat.le_refl _) _)); done); refine Calls.mono (CW.out _ _ _ ?_ ?_) ?_; (focus (first | exact HNB.out _ E1 | exact HNB.out _ (E1.alloc E1.size _))); (focus (first | exact RW0.out _ _ _ rfl (HNB.out _ E1) | exact RWays.below (RW0.out _ _ _ NS.out (HNB.out _ (Below.refl _ _))) hb1 | exact RWays.below (RW0.out _ _ _ NS.out (HNB.out _ (Below.refl _ _).drew)) hb1 | exact RWays.below (RWays.below (RW0.out _ _ _ NS.out (HNB.out _ (Below.refl _ _))) (Below.refl _ _).drew) hb1)); rintro e w2 ⟨rfl, hb2⟩))
      all_goals
        have E1 : Below (w.alloc (.cells #[.int .i64 s, .slice a n ca] 26)).heap.size (w.alloc (.cells #[.int .i64 s, .slice a n ca] 26)) w1 := two_worldsC (by (repeat (first | exact Below.refl _ _ | refine Below.drew ?_ | refine Below.drewN' ?_ _ | refine Below.alloc ?_ (by first | (simp; done) | (simp; omega)) _ | refine Below.setCell ?_ (by first | (simp; done) | (simp; omega)) _)); done) hb1
        have E2 : Below (w.alloc (.cells #[.int .i64 s, .slice a n ca] 26)).heap.size (w.alloc (.cells #[.int .i64 s, .slice a n ca] 26)) w2 := two_worldsC (by first | exact E1 | exact E1.alloc E1.size _) hb2
        have X2 := Lib.hid (BoxN.below NX.out E2)
        have B2 := Lib.hid (HNB.out _ E2)
        clear E1 E2 hb1 hb2 p0 p1
        have HR : Hid (setWayOf s ts set way = (setBy set (nds ts way way.length), 0)) := by unfold Hid setWayOf; rw [HW.out]; rfl
        obtain ⟨q0, q1⟩ := X2.out
        obtain ⟨hnet, hlen, _⟩ := setB_parts HS.out
        obtain ⟨hs1, hs2, _, hT⟩ := netB_parts hnet
        rw [hm.out] at hlen
        obtain ⟨bb, ob, rfl, hbb, hcb⟩ := (HB.out w (Below.refl _ _)).addr (by rw [hm.out]; omega)
        have HWAY := Lib.hid (way_st hn.out HSIM.out)
        have HM10 : Hid ((m : Int) = s) := hlen
        have hz2 := World.block_lt_of_cell? _ _ q0
        simp only at hz2
        have HCB : Hid (∀ W, Below w.heap.size w W → bb < W.heap.size ∧ ∀ i (h : i < set.length), W.cell? ⟨bb, ob + i, none⟩ = some (.int .i64 set[i])) := fun W h => ⟨by have := h.size; omega, fun i hi => (h.cell (p := ⟨bb, ob + i, none⟩) hbb).trans (hcb i hi)⟩
        have HNN : Hid (∀ x, x ∈ nds ts way way.length → 0 ≤ x.1 ∧ x.1 < s) := by
          intro x hx
          unfold nds at hx
          rw [List.take_length, List.mem_map] at hx
          obtain ⟨z, hz, rfl⟩ := hx
          obtain ⟨i, hi, rfl⟩ := List.getElem_of_mem hz
          obtain ⟨i0, i1⟩ := stB_parts (HWAY.out i hi)
          have hj : (way[i]).toNat < ts.length := by rw [hn.out]; omega
          have hfa := frAt_of (List.getElem?_eq_getElem hj)
          rw [show (((way[i]).toNat : Nat) : Int) = way[i] by omega] at hfa
          have := hT _ (List.getElem_mem hj)
          unfold tubeB at this
          have := of_decide_eq_true this
          simp only
          rw [hfa]
          exact ⟨this.1, this.2.1⟩
        clear hnet hlen hs1 hs2 hcb hT HB RW0 CW CS1
        go_wp2_with fail
        refine (cloneI_any bb ob cb m set _ hm hm1 (HCB.out _ B2.out).1 (HCB.out _ B2.out).2).mono ?_
        rintro e w3 ⟨g, cap, rfl, hg, hb3, hrow⟩
        have X3 := Lib.hid (BoxN.below ⟨q0, q1⟩ hb3)
        have B3 := Lib.hid (two_worldsC B2.out hb3)
        have HROW : Hid (IRow w3 g cap set) := hrow
        have HGB : Hid (w.heap.size < g) := by unfold Hid; omega
        have HG3 : Hid (g < w3.heap.size) := (Array.getElem?_eq_some_iff.1 hrow.choose_spec.1).1
        clear q0 q1 hb3 hrow hg hz2
        obtain ⟨q0, q1⟩ := X3.out
        have hz3 := World.block_lt_of_cell? _ _ q0
        simp only at hz3
        go_wp2_with fail
        refine (needsOf_any s a c ts way n ca k cc _ hn (HA.out _ B3.out) hk (HC.out _ B3.out) hk1 HWAY.out).mono ?_
        rintro e w4 ⟨hb4, ao, cap4, l, rfl, hown, hperm, hll, _⟩
        have X4 := Lib.hid (BoxN.below ⟨q0, q1⟩ hb4)
        have B4 := Lib.hid (two_worldsC B3.out hb4)
        have HR4 : Hid (IRow w4 g cap set) := HROW.out.below hb4
        have HN4 := Lib.hid (Row.of hown)
        have HLL := Lib.hid hll
        have HPM : Hid (setBy set l = setBy set (nds ts way way.length)) := setBy_perm (by rw [hk.out]; exact hperm) (fun x hx => (HNN.out x hx).1) (fun x hx y hy h => nds_same HSIM.out hx hy h)
        have HLM : Hid (∀ x, x ∈ l → 0 ≤ x.1 ∧ x.1 < s) := fun x hx => HNN.out x (by rw [hk.out]; exact hperm.mem_iff.1 hx)
        have HW34 : Hid (w3.heap.size ≤ w4.heap.size) := hb4.size
        clear q0 q1 hb4 hown hperm hll hz3
        go_wp2
        go_loopw [28] (fun iv wr => ∃ i : Nat, i ≤ k ∧ iv = .int .i64 i ∧ Below w.heap.size w wr ∧ Hid (IRow wr g cap (setBy set (l.take i))) ∧ Hid (Row w3.heap.size w4.heap.size 70 2 (.slice ao k cap4) k (flatN l) wr)) (fun iv _ => k - (intOf iv).toNat)
        case atStart => exact ⟨0, by omega, rfl, B4.out, HR4.out, HN4.out⟩
        case round =>
          obtain ⟨i, hi, rfl, hbel, HIR, HNR⟩ := hrel
          by_cases hlt : i < k
          · have hil : i < l.length := by rw [HLL.out]; exact hlt
            obtain ⟨g', hg'⟩ : ∃ g', ao = some ⟨g', 0, none⟩ := by
              rcases HNR.out.1.2 with ⟨hv, h0⟩ | ⟨g', _, _, hv, _⟩
              · omega
              · injection hv with e1; exact ⟨g', e1⟩
            subst hg'
            obtain ⟨hH, hlo, hgl, _⟩ := own_holds (d := l.toArray) (by simpa using HLL.out) HNR.out.1
            have c0 := hH.cell (i := i) (c := 0) (by simpa using hil) (by omega)
            have c1 := hH.cell (i := i) (c := 1) (by simpa using hil) (by omega)
            have hget : l.toArray[i]! = l[i] := by rw [getElem!_pos l.toArray i (by simpa using hil)]; simp
            rw [hget] at c0 c1
            have hmem := HLM.out l[i] (List.getElem_mem hil)
            have HTK : Hid (l.take (i + 1) = l.take i ++ [l[i]]) := List.take_succ_eq_append_getElem hil
            generalize l[i] = x at c0 c1 hmem HTK
            obtain ⟨x1, x2⟩ := x
            simp only at hmem
            obtain ⟨f, rfl⟩ := Int.eq_ofNat_of_zero_le hmem.1
            have hf1 : (f : Int) < (m : Int) := by have := HM10.out; omega
            have hf0 : (0 : Int) ≤ (f : Int) := by omega
            have hi0 : (0 : Int) ≤ (i : Int) := by omega
            have hi1 : (i : Int) < (k : Int) := by omega
            have HST := Lib.hid (fun (V : World) (hv : Below wr.heap.size wr V) => (HIR.out.below hv).store f x2 (by rw [setBy_len, hm.out]; omega))
            have l4 : g < wr.heap.size := (Array.getElem?_eq_some_iff.1 HIR.out.choose_spec.1).1
            have l5 : g' < wr.heap.size := hgl
            have HGG : Hid (g < g') := by unfold Hid; have := (HNR.out.2 g' rfl).1; have := HG3.out; omega
            obtain ⟨⟨o, o1⟩, z1, _⟩ := HST.out wr (Below.refl _ _)
            have HBEL := Lib.hid hbel
            have y0 : wr.cell? ⟨g', i * 2, none⟩ = some (.int .i64 (f : Int)) := by simpa [encN] using c0.1
            have y1 : wr.cell? ⟨g', i * 2 + 1, none⟩ = some (.int .i64 x2) := by simpa [encN] using c1.1
            have HS1 : Hid (Below w.heap.size w (wr.setCell ⟨g, f, none⟩ (.int .i64 x2))) := HBEL.out.setCell (by show w.heap.size ≤ g; have := HGB.out; omega) _
            have HI1 : Hid (IRow (wr.setCell ⟨g, f, none⟩ (.int .i64 x2)) g cap (setBy set (l.take (i + 1)))) := by unfold Hid; rw [HTK.out, setBy_snoc]; exact (HST.out wr (Below.refl _ _)).2.2
            have HN1 : Hid (Row w3.heap.size w4.heap.size 70 2 (.slice (some ⟨g', 0, none⟩) k cap4) k (flatN l) (wr.setCell ⟨g, f, none⟩ (.int .i64 x2))) := Row.store HNR.out HG3.out _ _
            clear hbel hmem hH hlo hgl c0 c1 hget
            go_wp2
            go_roundw
            case rel => exact ⟨i + 1, by omega, by go_num, HS1.out.alloc HS1.out.size _, HI1.out.below ((Below.refl _ _).alloc (Nat.le_refl _) _), HN1.out.below ((Below.refl _ _).alloc (Nat.le_refl _) _)⟩
            case measure => simp [intOf]; omega
          · have hik : i = k := by omega
            have HT : Hid (l.take i = l) := by unfold Hid; rw [List.take_of_length_le (by rw [HLL.out]; omega)]
            have HB1 := Lib.hid hbel
            clear hbel
            go_wp2
            go_ret2
            exact givesL_of (by rw [HR.out, HT.out, HPM.out]) HB1.out (by rw [setBy_len, hm.out]) (HIR.out.own (by have := HGB.out; omega) (by rw [setBy_len, hm.out]))
end Go.Proofs.Ytenjigifjkfiaaa
