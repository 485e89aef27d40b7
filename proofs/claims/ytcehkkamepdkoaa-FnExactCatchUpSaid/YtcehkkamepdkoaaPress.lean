/-
  The walks of withPressure, withWeight, isMetWith, isMissedWith, sort.Search over them, PressureFor and HeaviestFor, the model's and the program's.
-/
import Derived.Test.YtcehkkamepdkoaaPlace
namespace Go.Proofs.Ytcehkkamepdkoaa
open Go.RowKit

theorem ticks_le {t : R4} (hn : 0 < numR t) (x : Int) : ticksR t ≤ x ↔ t.1 * denR t ≤ x * numR t := by
  unfold ticksR
  generalize t.1 * denR t = A
  generalize numR t = N at *
  have h1 : (A + N - 1) / N ≤ x ↔ (A + N - 1) / N < x + 1 := by omega
  rw [h1, Int.ediv_lt_iff_lt_mul hn, Int.add_mul, Int.one_mul]
  omega
def wP (t : R4) (p : Int) : R4 := (t.1, t.2.1, p, t.2.2.2)
def wW (t : R4) (g : Int) : R4 := (t.1, g, t.2.2.1, t.2.2.2)
theorem wP_ok {t : R4} (h : rideB t = true) {p : Int} (h1 : 1 ≤ p) (h2 : p ≤ 100) : rideB (wP t p) = true := by
  have := rideB_parts h
  unfold rideB wP
  simp only [decide_eq_true_eq]
  omega
theorem wW_ok {t : R4} (h : rideB t = true) {g : Int} (h1 : 0 ≤ g) (h2 : g ≤ 500) : rideB (wW t g) = true := by
  have := rideB_parts h
  unfold rideB wW
  simp only [decide_eq_true_eq]
  omega
/-- The pressure k + 1 is enough. -/
def metQ (t : R4) (x : Int) (k : Nat) : Bool := decide (ticksR (wP t (1 + (k : Int))) ≤ x)
/-- The weight k is too much. -/
def missQ (t : R4) (x : Int) (k : Nat) : Bool := decide (x < ticksR (wW t (k : Int)))
theorem metQ_mono {t : R4} {x : Int} (hx : 0 ≤ x) (a b : Nat) (hab : a ≤ b) (ha : metQ t x a = true) : metQ t x b = true := by
  unfold metQ at *
  simp only [decide_eq_true_eq] at *
  rw [ticks_le (by unfold numR wP; simp only; omega)] at ha ⊢
  exact Int.le_trans ha (Int.mul_le_mul_of_nonneg_left (by unfold numR wP; simp only; omega) hx)
theorem missQ_mono {t : R4} (h : rideB t = true) {x : Int} (a b : Nat) (hab : a ≤ b) (ha : missQ t x a = true) : missQ t x b = true := by
  have hp := rideB_parts h
  unfold missQ at *
  simp only [decide_eq_true_eq] at *
  have e1 := ticks_le (t := wW t (a : Int)) (by unfold numR wW; simp only; omega) x
  have e2 := ticks_le (t := wW t (b : Int)) (by unfold numR wW; simp only; omega) x
  have e3 : (wW t (a : Int)).1 * denR (wW t (a : Int)) ≤ (wW t (b : Int)).1 * denR (wW t (b : Int)) := Int.mul_le_mul_of_nonneg_left (by unfold denR wW; simp only; omega) (by unfold wW; simp only; omega)
  have e4 : numR (wW t (a : Int)) = numR (wW t (b : Int)) := rfl
  rw [e4] at e1
  omega
/-- The first k from 0 on, and less than n, with q; n if there is none. -/
def firstN (q : Nat → Bool) : Nat → Nat → Nat
  | k, 0 => k
  | k, f + 1 => if q k then k else firstN q (k + 1) f
theorem firstN_is (q : Nat → Bool) (c : Nat) : ∀ f k, k ≤ c → c ≤ k + f → (∀ t, k ≤ t → t < c → q t = false) → (c < k + f → q c = true) → firstN q k f = c
  | 0, k, h1, h2, _, _ => by simp [firstN]; omega
  | f + 1, k, h1, h2, h3, h4 => by
    unfold firstN
    by_cases e : k = c
    · subst e; rw [if_pos (h4 (by omega))]
    · rw [if_neg (by rw [h3 k (by omega) (by omega)]; exact Bool.false_ne_true)]
      exact firstN_is q c f (k + 1) (by omega) (by omega) (fun t a b => h3 t (by omega) b) (fun h => h4 (by omega))
def pfA (t : R4) (x : Int) : Int × Int := if rangeC (okC (rideB t)) x 1000000 = 0 then (if firstN (metQ t x) 0 100 = 100 then (0, 3) else ((firstN (metQ t x) 0 100 : Nat) + 1, 0)) else (0, rangeC (okC (rideB t)) x 1000000)
def hfA (t : R4) (x : Int) : Int × Int := if rangeC (okC (rideB t)) x 1000000 = 0 then (if firstN (missQ t x) 0 501 = 0 then (0, 3) else ((firstN (missQ t x) 0 501 : Nat) - 1, 0)) else (0, rangeC (okC (rideB t)) x 1000000)
def pfV (t : R4) (x : Int) : Value := .tuple #[.int .i64 (pfA t x).1, .int .i64 (pfA t x).2]
def hfV (t : R4) (x : Int) : Value := .tuple #[.int .i64 (hfA t x).1, .int .i64 (hfA t x).2]
theorem pfA_code {t : R4} {x c : Int} (h : rangeC (okC (rideB t)) x 1000000 = c) (hc : ¬ c = 0) : pfA t x = (0, c) := by unfold pfA; rw [h, if_neg hc]
theorem hfA_code {t : R4} {x c : Int} (h : rangeC (okC (rideB t)) x 1000000 = c) (hc : ¬ c = 0) : hfA t x = (0, c) := by unfold hfA; rw [h, if_neg hc]
theorem pfA_none {t : R4} {x : Int} (h : rangeC (okC (rideB t)) x 1000000 = 0) (hf : firstN (metQ t x) 0 100 = 100) : pfA t x = (0, 3) := by unfold pfA; rw [h, hf]; rfl
theorem pfA_some {t : R4} {x : Int} {c : Nat} (h : rangeC (okC (rideB t)) x 1000000 = 0) (hf : firstN (metQ t x) 0 100 = c) (hc : ¬ c = 100) : pfA t x = ((c : Int) + 1, 0) := by unfold pfA; rw [h, hf]; simp [hc]
theorem hfA_none {t : R4} {x : Int} (h : rangeC (okC (rideB t)) x 1000000 = 0) (hf : firstN (missQ t x) 0 501 = 0) : hfA t x = (0, 3) := by unfold hfA; rw [h, hf]; rfl
theorem hfA_some {t : R4} {x : Int} {c : Nat} (h : rangeC (okC (rideB t)) x 1000000 = 0) (hf : firstN (missQ t x) 0 501 = c) (hc : ¬ c = 0) : hfA t x = ((c : Int) - 1, 0) := by unfold hfA; rw [h, hf]; simp [hc]

theorem withPressure_any (t : R4) (p : Int) (w : World) : Calls Try.prog 71 #[.agg #[.int .i64 t.1, .int .i64 t.2.1, .int .i64 t.2.2.1, .int .i64 t.2.2.2], .int .i64 p] w fun e w' => e = .returned (.agg #[.int .i64 t.1, .int .i64 t.2.1, .int .i64 p, .int .i64 t.2.2.2]) ∧ Below w.heap.size w w' := by
  go_enter Try.func71, Try.ntmps71
  go_wp2
  exact bodyPost_ret (v := .agg #[.int .i64 t.1, .int .i64 t.2.1, .int .i64 p, .int .i64 t.2.2.2]) (by simp [results, Try.results71, go_sem]) rfl ⟨rfl, (by repeat (first | exact Below.refl _ _ | exact HB.out | refine Below.drew ?_ | refine Below.drewN' ?_ _ | refine Below.alloc ?_ (by first | omega | (simp; try omega)) _ | refine Below.setCell ?_ (by first | omega | (simp; try omega)) _))⟩
theorem withWeight_any (t : R4) (p : Int) (w : World) : Calls Try.prog 85 #[.agg #[.int .i64 t.1, .int .i64 t.2.1, .int .i64 t.2.2.1, .int .i64 t.2.2.2], .int .i64 p] w fun e w' => e = .returned (.agg #[.int .i64 t.1, .int .i64 p, .int .i64 t.2.2.1, .int .i64 t.2.2.2]) ∧ Below w.heap.size w w' := by
  go_enter Try.func85, Try.ntmps85
  go_wp2
  exact bodyPost_ret (v := .agg #[.int .i64 t.1, .int .i64 p, .int .i64 t.2.2.1, .int .i64 t.2.2.2]) (by simp [results, Try.results85, go_sem]) rfl ⟨rfl, (by repeat (first | exact Below.refl _ _ | exact HB.out | refine Below.drew ?_ | refine Below.drewN' ?_ _ | refine Below.alloc ?_ (by first | omega | (simp; try omega)) _ | refine Below.setCell ?_ (by first | omega | (simp; try omega)) _))⟩


set_option maxRecDepth 100000 in
set_option maxHeartbeats 2000000 in
theorem isMetWith_any (t : R4) (x : Int) (i : Nat) (w : World) (hv : rideB t = true) (hi : i < 100) : Calls Try.prog 64 #[.agg #[.int .i64 t.1, .int .i64 t.2.1, .int .i64 t.2.2.1, .int .i64 t.2.2.2, .int .i64 x], .int .i64 (i : Int)] w fun e w' => e = .returned (.bool (metQ t x i)) ∧ Below w.heap.size w w' := by
  have hok : rideB (wP t (1 + (i : Int))) = true := wP_ok hv (by omega) (by omega)
  have P0 := Box.alloc w [.int .i64 t.1, .int .i64 t.2.1, .int .i64 t.2.2.1, .int .i64 t.2.2.2, .int .i64 x] 77
  have p0 := P0.2 0 _ rfl
  have p1 := P0.2 1 _ rfl
  have p2 := P0.2 2 _ rfl
  have p3 := P0.2 3 _ rfl
  have p4 := P0.2 4 _ rfl
  have HWI : IntKind.i64.wrap (1 + (i : Int)) = 1 + (i : Int) := IntWalk.i64_in _ (by omega)
  have HP : Hid (∀ w', Calls Try.prog 71 #[.agg #[.int .i64 t.1, .int .i64 t.2.1, .int .i64 t.2.2.1, .int .i64 t.2.2.2], .int .i64 (IntKind.i64.wrap (1 + (i : Int)))] w' fun e w'' => e = .returned (.agg #[.int .i64 t.1, .int .i64 t.2.1, .int .i64 (1 + (i : Int)), .int .i64 t.2.2.2]) ∧ Below w'.heap.size w' w'') := fun w' => by
    rw [HWI]
    exact withPressure_any t _ w'
  have HP2 : Hid (∀ w', Calls Try.prog 71 #[.agg #[.int .i64 t.1, .int .i64 t.2.1, .int .i64 t.2.2.1, .int .i64 t.2.2.2], .int .i64 (1 + (i : Int))] w' fun e w'' => e = .returned (.agg #[.int .i64 t.1, .int .i64 t.2.1, .int .i64 (1 + (i : Int)), .int .i64 t.2.2.2]) ∧ Below w'.heap.size w' w'') := fun w' => withPressure_any t _ w'
  have HT : Hid (∀ w', Calls Try.prog 56 #[.agg #[.int .i64 t.1, .int .i64 t.2.1, .int .i64 (1 + (i : Int)), .int .i64 t.2.2.2]] w' fun e w'' => e = .returned (.int .i64 (ticksR (wP t (1 + (i : Int))))) ∧ Below w'.heap.size w' w'') := fun w' => rticks_any (wP t (1 + (i : Int))) w' hok
  have HQ : Hid (metQ t x i = decide (ticksR (wP t (1 + (i : Int))) ≤ x)) := rfl
  have HB0 : Hid (Below w.heap.size w (w.alloc (.cells #[.int .i64 t.1, .int .i64 t.2.1, .int .i64 t.2.2.1, .int .i64 t.2.2.2, .int .i64 x] 77))) := (Below.refl _ _).alloc (Nat.le_refl _) _
  have HK : Hid (∀ w', Below (w.alloc (.cells #[.int .i64 t.1, .int .i64 t.2.1, .int .i64 t.2.2.1, .int .i64 t.2.2.2, .int .i64 x] 77)).heap.size (w.alloc (.cells #[.int .i64 t.1, .int .i64 t.2.1, .int .i64 t.2.2.1, .int .i64 t.2.2.2, .int .i64 x] 77)) w' → w'.cell? ⟨w.heap.size, 0, none⟩ = some (.int .i64 t.1) ∧ w'.cell? ⟨w.heap.size, 1, none⟩ = some (.int .i64 t.2.1) ∧ w'.cell? ⟨w.heap.size, 2, none⟩ = some (.int .i64 t.2.2.1) ∧ w'.cell? ⟨w.heap.size, 3, none⟩ = some (.int .i64 t.2.2.2) ∧ w'.cell? ⟨w.heap.size, 4, none⟩ = some (.int .i64 x)) := fun w' hh => ⟨(hh.cell (p := ⟨_, _, none⟩) (by simp)).trans p0, (hh.cell (p := ⟨_, _, none⟩) (by simp)).trans p1, (hh.cell (p := ⟨_, _, none⟩) (by simp)).trans p2, (hh.cell (p := ⟨_, _, none⟩) (by simp)).trans p3, (hh.cell (p := ⟨_, _, none⟩) (by simp)).trans p4⟩
  have d := (Below.refl (w.alloc (.cells #[.int .i64 t.1, .int .i64 t.2.1, .int .i64 t.2.2.1, .int .i64 t.2.2.2, .int .i64 x] 77)).heap.size (w.alloc (.cells #[.int .i64 t.1, .int .i64 t.2.1, .int .i64 t.2.2.1, .int .i64 t.2.2.2, .int .i64 x] 77))).drew
  clear p0 p1 p2 p3 p4 P0 hok HWI
  go_enter Try.func64, Try.ntmps64
  go_wp2_with fail
  generalize hq : (w.alloc (.cells #[.int .i64 t.1, .int .i64 t.2.1, .int .i64 t.2.2.1, .int .i64 t.2.2.2, .int .i64 x] 77)) = wa at HK d HB0 ⊢
  go_region_held3 (fun w' => w'.cell? ⟨w.heap.size, 0, none⟩ = some (.int .i64 t.1) ∧ w'.cell? ⟨w.heap.size, 1, none⟩ = some (.int .i64 t.2.1) ∧ w'.cell? ⟨w.heap.size, 2, none⟩ = some (.int .i64 t.2.2.1) ∧ w'.cell? ⟨w.heap.size, 3, none⟩ = some (.int .i64 t.2.2.2) ∧ w'.cell? ⟨w.heap.size, 4, none⟩ = some (.int .i64 x))
    (first | exact HK.out _ (Below.refl _ _) | exact HK.out _ d | exact HK.out _ (d.trans hb1) | exact HK.out _ (d.trans (hb1.trans (hb2.mono hb1.size))))
    (first | (go_at_call 71; refine (HP.out _).mono ?_; rintro e w2 ⟨rfl, hb1⟩) | (go_at_call 71; refine (HP2.out _).mono ?_; rintro e w2 ⟨rfl, hb1⟩) | (go_at_call 56; refine (HT.out _).mono ?_; rintro e w3 ⟨rfl, hb2⟩))
  have HB3 : Hid (Below w.heap.size w w3) := HB0.out.trans ((d.trans (hb1.trans (hb2.mono hb1.size))).mono HB0.out.size)
  clear hb1 hb2 d HK
  go_wp2
  go_ret
  exact ⟨ret_bool HQ.out.symm, HB3.out⟩

set_option maxRecDepth 100000 in
set_option maxHeartbeats 2000000 in
theorem isMissedWith_any (t : R4) (x : Int) (i : Nat) (w : World) (hv : rideB t = true) (hi : i < 501) : Calls Try.prog 65 #[.agg #[.int .i64 t.1, .int .i64 t.2.1, .int .i64 t.2.2.1, .int .i64 t.2.2.2, .int .i64 x], .int .i64 (i : Int)] w fun e w' => e = .returned (.bool (missQ t x i)) ∧ Below w.heap.size w w' := by
  have hok : rideB (wW t ((i : Int))) = true := wW_ok hv (by omega) (by omega)
  have P0 := Box.alloc w [.int .i64 t.1, .int .i64 t.2.1, .int .i64 t.2.2.1, .int .i64 t.2.2.2, .int .i64 x] 77
  have p0 := P0.2 0 _ rfl
  have p1 := P0.2 1 _ rfl
  have p2 := P0.2 2 _ rfl
  have p3 := P0.2 3 _ rfl
  have p4 := P0.2 4 _ rfl
  have HWI : IntKind.i64.wrap ((i : Int)) = (i : Int) := IntWalk.i64_in _ (by omega)
  have HP : Hid (∀ w', Calls Try.prog 85 #[.agg #[.int .i64 t.1, .int .i64 t.2.1, .int .i64 t.2.2.1, .int .i64 t.2.2.2], .int .i64 (IntKind.i64.wrap ((i : Int)))] w' fun e w'' => e = .returned (.agg #[.int .i64 t.1, .int .i64 (i : Int), .int .i64 t.2.2.1, .int .i64 t.2.2.2]) ∧ Below w'.heap.size w' w'') := fun w' => by
    rw [HWI]
    exact withWeight_any t _ w'
  have HP2 : Hid (∀ w', Calls Try.prog 85 #[.agg #[.int .i64 t.1, .int .i64 t.2.1, .int .i64 t.2.2.1, .int .i64 t.2.2.2], .int .i64 ((i : Int))] w' fun e w'' => e = .returned (.agg #[.int .i64 t.1, .int .i64 (i : Int), .int .i64 t.2.2.1, .int .i64 t.2.2.2]) ∧ Below w'.heap.size w' w'') := fun w' => withWeight_any t _ w'
  have HT : Hid (∀ w', Calls Try.prog 56 #[.agg #[.int .i64 t.1, .int .i64 (i : Int), .int .i64 t.2.2.1, .int .i64 t.2.2.2]] w' fun e w'' => e = .returned (.int .i64 (ticksR (wW t ((i : Int))))) ∧ Below w'.heap.size w' w'') := fun w' => rticks_any (wW t ((i : Int))) w' hok
  have HQ : Hid (missQ t x i = decide (x < ticksR (wW t (i : Int)))) := rfl
  have HB0 : Hid (Below w.heap.size w (w.alloc (.cells #[.int .i64 t.1, .int .i64 t.2.1, .int .i64 t.2.2.1, .int .i64 t.2.2.2, .int .i64 x] 77))) := (Below.refl _ _).alloc (Nat.le_refl _) _
  have HK : Hid (∀ w', Below (w.alloc (.cells #[.int .i64 t.1, .int .i64 t.2.1, .int .i64 t.2.2.1, .int .i64 t.2.2.2, .int .i64 x] 77)).heap.size (w.alloc (.cells #[.int .i64 t.1, .int .i64 t.2.1, .int .i64 t.2.2.1, .int .i64 t.2.2.2, .int .i64 x] 77)) w' → w'.cell? ⟨w.heap.size, 0, none⟩ = some (.int .i64 t.1) ∧ w'.cell? ⟨w.heap.size, 1, none⟩ = some (.int .i64 t.2.1) ∧ w'.cell? ⟨w.heap.size, 2, none⟩ = some (.int .i64 t.2.2.1) ∧ w'.cell? ⟨w.heap.size, 3, none⟩ = some (.int .i64 t.2.2.2) ∧ w'.cell? ⟨w.heap.size, 4, none⟩ = some (.int .i64 x)) := fun w' hh => ⟨(hh.cell (p := ⟨_, _, none⟩) (by simp)).trans p0, (hh.cell (p := ⟨_, _, none⟩) (by simp)).trans p1, (hh.cell (p := ⟨_, _, none⟩) (by simp)).trans p2, (hh.cell (p := ⟨_, _, none⟩) (by simp)).trans p3, (hh.cell (p := ⟨_, _, none⟩) (by simp)).trans p4⟩
  have d := (Below.refl (w.alloc (.cells #[.int .i64 t.1, .int .i64 t.2.1, .int .i64 t.2.2.1, .int .i64 t.2.2.2, .int .i64 x] 77)).heap.size (w.alloc (.cells #[.int .i64 t.1, .int .i64 t.2.1, .int .i64 t.2.2.1, .int .i64 t.2.2.2, .int .i64 x] 77))).drew
  clear p0 p1 p2 p3 p4 P0 hok HWI
  go_enter Try.func65, Try.ntmps65
  go_wp2_with fail
  generalize hq : (w.alloc (.cells #[.int .i64 t.1, .int .i64 t.2.1, .int .i64 t.2.2.1, .int .i64 t.2.2.2, .int .i64 x] 77)) = wa at HK d HB0 ⊢
  go_region_held3 (fun w' => w'.cell? ⟨w.heap.size, 0, none⟩ = some (.int .i64 t.1) ∧ w'.cell? ⟨w.heap.size, 1, none⟩ = some (.int .i64 t.2.1) ∧ w'.cell? ⟨w.heap.size, 2, none⟩ = some (.int .i64 t.2.2.1) ∧ w'.cell? ⟨w.heap.size, 3, none⟩ = some (.int .i64 t.2.2.2) ∧ w'.cell? ⟨w.heap.size, 4, none⟩ = some (.int .i64 x))
    (first | exact HK.out _ (Below.refl _ _) | exact HK.out _ d | exact HK.out _ (d.trans hb1) | exact HK.out _ (d.trans (hb1.trans (hb2.mono hb1.size))))
    (first | (go_at_call 85; refine (HP.out _).mono ?_; rintro e w2 ⟨rfl, hb1⟩) | (go_at_call 85; refine (HP2.out _).mono ?_; rintro e w2 ⟨rfl, hb1⟩) | (go_at_call 56; refine (HT.out _).mono ?_; rintro e w3 ⟨rfl, hb2⟩))
  have HB3 : Hid (Below w.heap.size w w3) := HB0.out.trans ((d.trans (hb1.trans (hb2.mono hb1.size))).mono HB0.out.size)
  clear hb1 hb2 d HK
  go_wp2
  go_ret
  exact ⟨ret_bool HQ.out.symm, HB3.out⟩


theorem search_any (g : Nat) (hg : g = 64 ∨ g = 65) (gv : Value) (n : Nat) (q : Nat → Bool) (w : World) (hsz : n < 4611686018427387904)
    (hf : ∀ (w' : World) (i : Nat), i < n → Calls Try.prog g #[gv, .int .i64 (i : Int)] w' fun e w'' => e = .returned (.bool (q i)) ∧ Below w'.heap.size w' w'')
    (hmono : ∀ a b, a ≤ b → q a = true → q b = true) :
    Calls Try.prog 63 #[.int .i64 (n : Int), .func (.func g) #[gv] #[]] w fun e w' => (∃ c : Nat, e = .returned (.int .i64 (c : Int)) ∧ c ≤ n ∧ firstN q 0 n = c) ∧ Below w.heap.size w w' := by
  have HF := Lib.hid hf
  have M := Lib.hid hmono
  clear hf hmono
  go_enter Try.func63, Try.ntmps63
  go_wp2
  go_loopw [5, 6] (fun x y wr => ∃ lo hi : Nat, x = .int .i64 lo ∧ y = .int .i64 hi ∧ lo ≤ hi ∧ hi ≤ n ∧ Below w.heap.size w wr ∧ Hid ((∀ t, t < lo → q t = false) ∧ (∀ t, hi ≤ t → t < n → q t = true))) (fun x y _ => (intOf y).toNat - (intOf x).toNat)
  case atStart => exact ⟨0, n, rfl, rfl, Nat.zero_le _, Nat.le_refl _, Below.refl _ _, (⟨fun t ht => absurd ht (Nat.not_lt_zero _), fun t h1 h2 => by omega⟩ : (∀ t, t < 0 → q t = false) ∧ (∀ t, n ≤ t → t < n → q t = true))⟩
  case round =>
    obtain ⟨lo, hi, rfl, rfl, hlh, hin, hbel, I⟩ := hrel
    by_cases hlt : lo < hi
    · have hc := HF.out wr ((lo + hi) / 2) (by omega)
      rw [show (((lo + hi) / 2 : Nat) : Int) = ((lo : Int) + (hi : Int)) / 2 by omega] at hc
      have hHC := Lib.hid hc
      have HBW := Lib.hid hbel
      clear hc hbel
      rcases hg with rfl | rfl
      all_goals
        go_wp2_with fail
        refine hHC.out.mono ?_
        rintro e w2 ⟨rfl, hb2⟩
        have HB2 : Hid (Below w.heap.size w w2) := HBW.out.trans (hb2.mono HBW.out.size)
        clear hb2 hHC HBW
        cases hp : q ((lo + hi) / 2) with
        | false =>
          have HI : Hid ((∀ t, t < (lo + hi) / 2 + 1 → q t = false) ∧ (∀ t, hi ≤ t → t < n → q t = true)) := ⟨fun t h => by
            cases hqt : q t with
            | false => rfl
            | true => rw [M.out t ((lo + hi) / 2) (by omega) hqt] at hp; exact absurd hp (by simp), I.out.2⟩
          clear I
          go_wp2
          go_roundw
          case rel => exact ⟨(lo + hi) / 2 + 1, hi, by go_num, rfl, by omega, hin, HB2.out, HI⟩
          case measure => simp [intOf]; omega
        | true =>
          have HI : Hid ((∀ t, t < lo → q t = false) ∧ (∀ t, (lo + hi) / 2 ≤ t → t < n → q t = true)) := ⟨I.out.1, fun t h _ => M.out _ t h hp⟩
          clear I
          go_wp2
          go_roundw
          case rel => exact ⟨lo, (lo + hi) / 2, rfl, by go_num, by omega, by omega, HB2.out, HI⟩
          case measure => simp [intOf]; omega
    · have e : lo = hi := by omega
      subst e
      have HI := Lib.hid (firstN_is q lo n 0 (by omega) (by omega) (fun t _ h => I.out.1 t h) (fun h => I.out.2 lo (Nat.le_refl _) (by omega)))
      go_wp2
      go_ret
      exact ⟨⟨lo, rfl, hin, HI.out⟩, hbel⟩
end Go.Proofs.Ytcehkkamepdkoaa
