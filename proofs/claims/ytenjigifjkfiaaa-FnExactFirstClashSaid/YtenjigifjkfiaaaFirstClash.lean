/-
  The walk of FirstClash, the program's.
-/
import Derived.Test.YtenjigifjkfiaaaClashImpl
namespace Go.Proofs.Ytenjigifjkfiaaa
open Go.RowKit

theorem rways_two {w : World} {b c : Option Addr} {m cb k cc : Nat} {wa wb : List Int} (hm : wa.length = m) (hb : RI w b wa) (hm1 : m ≤ 1048576) (hk : wb.length = k) (hc : RI w c wb) (hk1 : k ≤ 1048576) (T : TypeId) : RWays (w.alloc (.cells #[.slice b m cb, .slice c k cc] T)) (some ⟨w.heap.size, 0, none⟩) [((b, cb), wa), ((c, cc), wb)] := by
  subst hm; subst hk
  refine .inr ⟨w.heap.size, 0, rfl, by simp, ?_⟩
  rintro (_ | _ | i) hi
  · exact ⟨by simp [go_sem], hb.below ((Below.refl _ _).alloc (Nat.le_refl _) _), hm1⟩
  · exact ⟨by simp [go_sem], hc.below ((Below.refl _ _).alloc (Nat.le_refl _) _), hk1⟩
  · exact absurd hi (by simp)
theorem checkStations0_at (v : Int) (s : Int) (a : Option Addr) (ts : List T3) (n ca : Nat) (hv : codeOf s ts [] = v) (w : World) (hn : Hid (ts.length = n)) (ha : RT w a ts) (hmax : n ≤ 1048576) :
    Calls Try.prog 51 #[.agg #[.int .i64 s, .slice a n ca], .slice none 0 0] w fun e w' => e = .returned (.int .i64 v) ∧ Below w.heap.size w w' := by
  rw [← hv]
  exact checkStations0_any s a none ts n ca 0 w hn ha hmax
theorem checkWays2_at (v : Int) (s : Int) (a aw b c : Option Addr) (ts : List T3) (wa wb : List Int) (n ca cw cb cc : Nat) (hv : (if (simpleB ts wa && simpleB ts wb) = true then (0 : Int) else 2) = v) (w : World) (hn : Hid (ts.length = n)) (ha : RT w a ts) (hmax : n ≤ 1048576) (hnet : netB s ts = true) (hw : RWays w aw [((b, cb), wa), ((c, cc), wb)]) :
    Calls Try.prog 44 #[.int .i64 0, .agg #[.int .i64 s, .slice a n ca], .slice aw 2 cw] w fun e w' => e = .returned (.int .i64 v) ∧ Below w.heap.size w w' := by
  have : waysCode ts [((b, cb), wa), ((c, cc), wb)] = v := by rw [← hv]; unfold waysCode; simp
  rw [← this]
  exact checkWays_any s a aw ts _ n ca 2 cw w hn ha hmax hnet rfl (by omega) hw

set_option maxHeartbeats 4000000 in
theorem implFirstClash_any (s : Int) (a b c : Option Addr) (ts : List T3) (wa wb : List Int) (n ca m cb k cc : Nat) (w : World) (hn : Hid (ts.length = n)) (ha : RT w a ts) (hmax : n ≤ 1048576) (hm : Hid (wa.length = m)) (hb : RI w b wa) (hm1 : m ≤ 1048576) (hk : Hid (wb.length = k)) (hc : RI w c wb) (hk1 : k ≤ 1048576) :
    Calls Try.prog 33 #[.agg #[.int .i64 s, .slice a n ca], .slice b m cb, .slice c k cc] w fun e w' => e = .returned (.tuple #[.int .i64 (firstClashOf s ts wa wb).1, .int .i64 (firstClashOf s ts wa wb).2]) ∧ Below w.heap.size w w' := by
  have HA : Hid (∀ w', Below w.heap.size w w' → RT w' a ts) := fun w' h => ha.below h
  have HB : Hid (∀ w', Below w.heap.size w w' → RI w' b wa) := fun w' h => hb.below h
  have HC : Hid (∀ w', Below w.heap.size w w' → RI w' c wb) := fun w' h => hc.below h
  clear ha hb hc
  have NB : Hid (Below w.heap.size w (w.alloc (.cells #[.int .i64 s, .slice a n ca] 26))) := (by repeat (first | exact Below.refl _ _ | refine Below.alloc ?_ (by simp; try omega) _ | refine Below.setCell ?_ (by simp; try omega) _))
  have NX : Hid (BoxN (w.alloc (.cells #[.int .i64 s, .slice a n ca] 26)) w.heap.size s (.slice a n ca)) := ⟨by simp [go_sem], by simp [go_sem]⟩
  have HNB : Hid (∀ w', Below (w.alloc (.cells #[.int .i64 s, .slice a n ca] 26)).heap.size (w.alloc (.cells #[.int .i64 s, .slice a n ca] 26)) w' → Below w.heap.size w w') := fun w' h => Below.trans NB.out (h.mono (by simp))
  have p0 := NX.out.1
  have p1 := NX.out.2
  have CS : ∀ v, codeOf s ts [] = v → Hid (∀ W, Below w.heap.size w W → Calls Try.prog 51 #[.agg #[.int .i64 s, .slice a n ca], .slice none 0 0] W fun e w' => e = .returned (.int .i64 v) ∧ Below W.heap.size W w') := fun v hv W h => checkStations0_at v s a ts n ca hv W hn (HA.out _ h) hmax
  cases hv : netB s ts with
  | false =>
    have HR : Hid (firstClashOf s ts wa wb = (0, 1)) := by unfold Hid firstClashOf; rw [hv]; rfl
    have CS1 := CS 1 (codeOf_inv hv)
    clear CS hv
    go_enter Try.func33, Try.ntmps33
    go_wp2_with fail
    go_region_held3 (fun w' => w'.cell? ⟨w.heap.size, 0, none⟩ = some (.int .i64 s) ∧ w'.cell? ⟨w.heap.size, 1, none⟩ = some (.slice a n ca))
      (first | exact ⟨p0, p1⟩ | (refine BoxN.below NX.out ?_; (repeat (first | exact Below.refl _ _ | refine Below.drew ?_ | refine Below.alloc ?_ (Nat.le_refl _) _)); done) | (refine BoxN.below NX.out (two_worldsC ?_ hb1); (repeat (first | exact Below.refl _ _ | refine Below.drew ?_ | refine Below.alloc ?_ (Nat.le_refl _) _)); done) | (refine BoxN.below NX.out (two_worldsC (two_worldsC ?_ hb1) ((Below.refl _ _).alloc (Nat.le_refl _) _)); (repeat (first | exact Below.refl _ _ | refine Below.drew ?_ | refine Below.alloc ?_ (Nat.le_refl _) _)); done) | (refine BoxN.below NX.out (two_worldsC (two_worldsC ?_ hb1) hb2); (repeat (first | exact Below.refl _ _ | refine Below.drew ?_ | refine Below.alloc ?_ (Nat.le_refl _) _)); done) | (refine BoxN.below NX.out (two_worldsC (two_worldsC (two_worldsC ?_ hb1) ((Below.refl _ _).alloc (Nat.le_refl _) _)) hb2); (repeat (first | exact Below.refl _ _ | refine Below.drew ?_ | refine Below.alloc ?_ (Nat.le_refl _) _)); done))
      (first | (go_at_call 51; refine Calls.mono (CS1.out _ (HNB.out _ ?_)) ?_; (focus ((repeat (first | exact Below.refl _ _ | refine Below.drew ?_ | refine Below.alloc ?_ (Nat.le_refl _) _)); done)); rintro e w1 ⟨rfl, hb1⟩) | (go_at_call 44; refine (checkWaysBad_any 1 s a _ n ca 2 _ _ (by decide)).mono ?_; rintro e w2 ⟨rfl, hb2⟩))
    all_goals
      have E1 : Below (w.alloc (.cells #[.int .i64 s, .slice a n ca] 26)).heap.size (w.alloc (.cells #[.int .i64 s, .slice a n ca] 26)) w1 := two_worldsC (by (repeat (first | exact Below.refl _ _ | refine Below.drew ?_ | refine Below.drewN' ?_ _ | refine Below.alloc ?_ (by first | (simp; done) | (simp; omega)) _ | refine Below.setCell ?_ (by first | (simp; done) | (simp; omega)) _)); done) hb1
      have E2 : Below (w.alloc (.cells #[.int .i64 s, .slice a n ca] 26)).heap.size (w.alloc (.cells #[.int .i64 s, .slice a n ca] 26)) w2 := two_worldsC (by first | exact E1 | exact E1.alloc E1.size _) hb2
      have X2 := Lib.hid (BoxN.below NX.out E2)
      have B2 := Lib.hid (HNB.out _ E2)
      clear E1 E2 hb1 hb2 p0 p1
      go_wp2
      go_ret2
      exact ⟨ret_ints HR.out, B2.out⟩
  | true =>
    have HNT := Lib.hid hv
    have CS1 := CS 0 (codeOf_ok hv (fun k hk => absurd hk (by simp)))
    have RW0 : Hid (∀ W T H, W.heap.size = H → Below w.heap.size w W → RWays (W.alloc (.cells #[.slice b m cb, .slice c k cc] T)) (some ⟨H, 0, none⟩) [((b, cb), wa), ((c, cc), wb)]) := fun W T H e h => by subst e; exact rways_two hm.out (HB.out _ h) hm1 hk.out (HC.out _ h) hk1 T
    have NS : Hid ((w.alloc (.cells #[.int .i64 s, .slice a n ca] 26)).heap.size = w.heap.size + 1) := by unfold Hid; simp
    cases hs : (simpleB ts wa && simpleB ts wb) with
    | false =>
      have CW : Hid (∀ W aw cw, Below w.heap.size w W → RWays W aw [((b, cb), wa), ((c, cc), wb)] → Calls Try.prog 44 #[.int .i64 0, .agg #[.int .i64 s, .slice a n ca], .slice aw 2 cw] W fun e w' => e = .returned (.int .i64 2) ∧ Below W.heap.size W w') := fun W aw cw h hw => checkWays2_at 2 s a aw b c ts wa wb n ca cw cb cc (by rw [hs]; rfl) W hn (HA.out _ h) hmax HNT.out hw
      have HR : Hid (firstClashOf s ts wa wb = (0, 2)) := by unfold Hid firstClashOf; rw [hv, hs]; rfl
      clear CS hv hs
      go_enter Try.func33, Try.ntmps33
      go_wp2_with fail
      go_region_held3 (fun w' => w'.cell? ⟨w.heap.size, 0, none⟩ = some (.int .i64 s) ∧ w'.cell? ⟨w.heap.size, 1, none⟩ = some (.slice a n ca))
        (first | exact ⟨p0, p1⟩ | (refine BoxN.below NX.out ?_; (repeat (first | exact Below.refl _ _ | refine Below.drew ?_ | refine Below.alloc ?_ (Nat.le_refl _) _)); done) | (refine BoxN.below NX.out (two_worldsC ?_ hb1); (repeat (first | exact Below.refl _ _ | refine Below.drew ?_ | refine Below.alloc ?_ (Nat.le_refl _) _)); done) | (refine BoxN.below NX.out (two_worldsC (two_worldsC ?_ hb1) ((Below.refl _ _).alloc (Nat.le_refl _) _)); (repeat (first | exact Below.refl _ _ | refine Below.drew ?_ | refine Below.alloc ?_ (Nat.le_refl _) _)); done) | (refine BoxN.below NX.out (two_worldsC (two_worldsC ?_ hb1) hb2); (repeat (first | exact Below.refl _ _ | refine Below.drew ?_ | refine Below.alloc ?_ (Nat.le_refl _) _)); done) | (refine BoxN.below NX.out (two_worldsC (two_worldsC (two_worldsC ?_ hb1) ((Below.refl _ _).alloc (Nat.le_refl _) _)) hb2); (repeat (first | exact Below.refl _ _ | refine Below.drew ?_ | refine Below.alloc ?_ (Nat.le_refl _) _)); done))
        (first | (go_at_call 51; refine Calls.mono (CS1.out _ (HNB.out _ ?_)) ?_; (focus ((repeat (first | exact Below.refl _ _ | refine Below.drew ?_ | refine Below.alloc ?_ (Nat.le_refl _) _)); done)); rintro e w1 ⟨rfl, hb1⟩) | (go_at_call 44; have E1 : Below (w.alloc (.cells #[.int .i64 s, .slice a n ca] 26)).heap.size (w.alloc (.cells #[.int .i64 s, .slice a n ca] 26)) w1 := (by refine two_worldsC ?_ hb1; (repeat (first | exact Below.refl _ _ | refine Below.drew ?_ | refine Below.alloc ?_ (Nat.le_refl _) _)); done); refine Calls.mono (CW.out _ _ _ ?_ ?_) ?_; (focus (first | exact HNB.out _ E1 | exact HNB.out _ (E1.alloc E1.size _))); (focus (first | exact RW0.out _ _ _ rfl (HNB.out _ E1) | exact RWays.below (RW0.out _ _ _ NS.out (HNB.out _ (Below.refl _ _))) hb1 | exact RWays.below (RW0.out _ _ _ NS.out (HNB.out _ (Below.refl _ _).drew)) hb1 | exact RWays.below (RWays.below (RW0.out _ _ _ NS.out (HNB.out _ (Below.refl _ _))) (Below.refl _ _).drew) hb1)); rintro e w2 ⟨rfl, hb2⟩))
      all_goals
        have E1 : Below (w.alloc (.cells #[.int .i64 s, .slice a n ca] 26)).heap.size (w.alloc (.cells #[.int .i64 s, .slice a n ca] 26)) w1 := two_worldsC (by (repeat (first | exact Below.refl _ _ | refine Below.drew ?_ | refine Below.drewN' ?_ _ | refine Below.alloc ?_ (by first | (simp; done) | (simp; omega)) _ | refine Below.setCell ?_ (by first | (simp; done) | (simp; omega)) _)); done) hb1
        have E2 : Below (w.alloc (.cells #[.int .i64 s, .slice a n ca] 26)).heap.size (w.alloc (.cells #[.int .i64 s, .slice a n ca] 26)) w2 := two_worldsC (by first | exact E1 | exact E1.alloc E1.size _) hb2
        have X2 := Lib.hid (BoxN.below NX.out E2)
        have B2 := Lib.hid (HNB.out _ E2)
        clear E1 E2 hb1 hb2 p0 p1
        go_wp2
        go_ret2
        exact ⟨ret_ints HR.out, B2.out⟩
    | true =>
      have CW : Hid (∀ W aw cw, Below w.heap.size w W → RWays W aw [((b, cb), wa), ((c, cc), wb)] → Calls Try.prog 44 #[.int .i64 0, .agg #[.int .i64 s, .slice a n ca], .slice aw 2 cw] W fun e w' => e = .returned (.int .i64 0) ∧ Below W.heap.size W w') := fun W aw cw h hw => checkWays2_at 0 s a aw b c ts wa wb n ca cw cb cc (by rw [hs]; rfl) W hn (HA.out _ h) hmax HNT.out hw
      have HR : Hid (firstClashOf s ts wa wb = (firstC s ts wa wb, 0)) := by unfold Hid firstClashOf; rw [hv, hs]; rfl
      have HSS : Hid (simpleB ts wa = true ∧ simpleB ts wb = true) := by unfold Hid; rw [Bool.and_eq_true] at hs; exact hs
      clear CS hv hs
      go_enter Try.func33, Try.ntmps33
      go_wp2_with fail
      go_region_held3 (fun w' => w'.cell? ⟨w.heap.size, 0, none⟩ = some (.int .i64 s) ∧ w'.cell? ⟨w.heap.size, 1, none⟩ = some (.slice a n ca))
        (first | exact ⟨p0, p1⟩ | (refine BoxN.below NX.out ?_; (repeat (first | exact Below.refl _ _ | refine Below.drew ?_ | refine Below.alloc ?_ (Nat.le_refl _) _)); done) | (refine BoxN.below NX.out (two_worldsC ?_ hb1); (repeat (first | exact Below.refl _ _ | refine Below.drew ?_ | refine Below.alloc ?_ (Nat.le_refl _) _)); done) | (refine BoxN.below NX.out (two_worldsC (two_worldsC ?_ hb1) ((Below.refl _ _).alloc (Nat.le_refl _) _)); (repeat (first | exact Below.refl _ _ | refine Below.drew ?_ | refine Below.alloc ?_ (Nat.le_refl _) _)); done) | (refine BoxN.below NX.out (two_worldsC (two_worldsC ?_ hb1) hb2); (repeat (first | exact Below.refl _ _ | refine Below.drew ?_ | refine Below.alloc ?_ (Nat.le_refl _) _)); done) | (refine BoxN.below NX.out (two_worldsC (two_worldsC (two_worldsC ?_ hb1) ((Below.refl _ _).alloc (Nat.le_refl _) _)) hb2); (repeat (first | exact Below.refl _ _ | refine Below.drew ?_ | refine Below.alloc ?_ (Nat.le_refl _) _)); done))
        (first | (go_at_call 51; refine Calls.mono (CS1.out _ (HNB.out _ ?_)) ?_; (focus ((repeat (first | exact Below.refl _ _ | refine Below.drew ?_ | refine Below.alloc ?_ (Nat.le_refl _) _)); done)); rintro e w1 ⟨rfl, hb1⟩) | (go_at_call 44; have E1 : Below (w.alloc (.cells #[.int .i64 s, .slice a n ca] 26)).heap.size (w.alloc (.cells #[.int .i64 s, .slice a n ca] 26)) w1 := (by refine two_worldsC ?_ hb1; (repeat (first | exact Below.refl _ _ | refine Below.drew ?_ | refine Below.alloc ?_ (Nat.le_refl _) _)); done); refine Calls.mono (CW.out _ _ _ ?_ ?_) ?_; (focus (first | exact HNB.out _ E1 | exact HNB.out _ (E1.alloc E1.size _))); (focus (first | exact RW0.out _ _ _ rfl (HNB.out _ E1) | exact RWays.below (RW0.out _ _ _ NS.out (HNB.out _ (Below.refl _ _))) hb1 | exact RWays.below (RW0.out _ _ _ NS.out (HNB.out _ (Below.refl _ _).drew)) hb1 | exact RWays.below (RWays.below (RW0.out _ _ _ NS.out (HNB.out _ (Below.refl _ _))) (Below.refl _ _).drew) hb1)); rintro e w2 ⟨rfl, hb2⟩))
      all_goals
        have E1 : Below (w.alloc (.cells #[.int .i64 s, .slice a n ca] 26)).heap.size (w.alloc (.cells #[.int .i64 s, .slice a n ca] 26)) w1 := two_worldsC (by (repeat (first | exact Below.refl _ _ | refine Below.drew ?_ | refine Below.drewN' ?_ _ | refine Below.alloc ?_ (by first | (simp; done) | (simp; omega)) _ | refine Below.setCell ?_ (by first | (simp; done) | (simp; omega)) _)); done) hb1
        have E2 : Below (w.alloc (.cells #[.int .i64 s, .slice a n ca] 26)).heap.size (w.alloc (.cells #[.int .i64 s, .slice a n ca] 26)) w2 := two_worldsC (by first | exact E1 | exact E1.alloc E1.size _) hb2
        have X2 := Lib.hid (BoxN.below NX.out E2)
        have B2 := Lib.hid (HNB.out _ E2)
        clear E1 E2 hb1 hb2 p0 p1
        obtain ⟨q0, q1⟩ := X2.out
        clear RW0 CW CS1
        go_wp2_with fail
        refine (firstClash_any s a b c ts wa wb n ca m cb k cc _ hn (HA.out _ B2.out) hm (HB.out _ B2.out) hm1 hk (HC.out _ B2.out) hk1 HNT.out HSS.out.1 HSS.out.2).mono ?_
        rintro e w3 ⟨rfl, hb3⟩
        have B3 := Lib.hid (two_worldsC B2.out hb3)
        clear hb3 q0 q1
        by_cases hcl : firstC s ts wa wb = -1
        · have HE : clashRes s ts wa wb = (0, false) := by unfold clashRes; rw [if_pos hcl]
          have HR2 : Hid (firstClashOf s ts wa wb = (-1, 0)) := by unfold Hid; rw [HR.out, hcl]
          rw [HE]
          clear HE hcl
          go_wp2
          go_ret2
          exact ⟨ret_ints HR2.out, B3.out⟩
        · have HE : clashRes s ts wa wb = (firstC s ts wa wb, true) := by unfold clashRes; rw [if_neg hcl]
          rw [HE]
          clear HE hcl
          go_wp2
          go_ret2
          exact ⟨ret_ints HR.out, B3.out⟩
end Go.Proofs.Ytenjigifjkfiaaa
