/-
  The walks of the small functions on changes and zones: l09Change, isOf, compare (by cmp.Compare and cmp.Or).
-/
import Derived.Test.YtghpefdleiebmaaZoned
import Derived.Test.YtghpefdleiebmaaZMath
import Derived.Test.YtghpefdleiebmaaStock
import Derived.Test.YtghpefdleiebmaaIn
import Derived.Deep.RegionHeld3
namespace Go.Proofs.Ytghpefdleiebmaa
open Go.RowKit

/-- How two numbers compare. -/
def cc (x y : Int) : Int := if x < y then -1 else if y < x then 1 else 0
def orC (x y : Int) : Int := if x = 0 then y else x
def cmpC (a b : C3) : Int := orC (cc a.1 b.1) (cc a.2.1 b.2.1)
theorem cmpC_neg (a b : C3) : cmpC a b < 0 ↔ ltC a b := by
  unfold cmpC orC cc ltC
  split <;> split <;> (try split) <;> (try split) <;> omega
theorem cmpC_zero (a b : C3) : cmpC a b = 0 ↔ a.1 = b.1 ∧ a.2.1 = b.2.1 := by
  unfold cmpC orC cc
  split <;> split <;> (try split) <;> (try split) <;> omega
theorem cmpC_swap (a b : C3) : 0 < cmpC a b ↔ ltC b a := by
  unfold cmpC orC cc ltC
  split <;> split <;> (try split) <;> (try split) <;> omega
theorem cmpC_bd (a b : C3) : -1 ≤ cmpC a b ∧ cmpC a b ≤ 1 := by
  unfold cmpC orC cc
  split <;> split <;> (try split) <;> (try split) <;> omega
theorem isNaN_any (x : Int) (w : World) : Calls Try.prog 96 #[.int .i64 x] w fun e w' => e = .returned (.bool false) ∧ w = w' := by
  have hx : (x != x) = false := by simp
  go_enter Try.func96, Try.ntmps96
  go_wp2
  go_ret
  exact ⟨ret_bool (by simp), rfl⟩
theorem cmpCompare_any (x y : Int) (w : World) : Calls Try.prog 93 #[.int .i64 x, .int .i64 y] w fun e w' => e = .returned (.int .i64 (cc x y)) ∧ w = w' := by
  have h3 : (x < y ∧ cc x y = -1) ∨ (¬ x < y ∧ y < x ∧ cc x y = 1) ∨ (¬ x < y ∧ ¬ y < x ∧ cc x y = 0) := by unfold cc; split <;> (try split) <;> omega
  rcases h3 with ⟨h1, hr⟩ | ⟨h1, h2, hr⟩ | ⟨h1, h2, hr⟩
  all_goals
    have HR := Lib.hid hr
    clear hr
    go_enter Try.func93, Try.ntmps93
    go_wp2_with (go_at_call 96; refine (isNaN_any _ _).mono ?_; rintro e w' ⟨rfl, rfl⟩)
    go_ret
    exact ⟨ret_int HR.out.symm, rfl⟩
theorem cmpOr_any (g : Nat) (x y : Int) (w : World) (h0 : w.cell? ⟨g, 0, none⟩ = some (.int .i64 x)) (h1 : w.cell? ⟨g, 1, none⟩ = some (.int .i64 y)) : Calls Try.prog 92 #[.slice (some ⟨g, 0, none⟩) 2 2] w fun e w' => e = .returned (.int .i64 (orC x y)) ∧ w = w' := by
  by_cases hx : x = 0
  · have HR : Hid (orC x y = y) := by unfold Hid orC; rw [if_pos hx]
    have hxn : (x != 0) = false := by simp [hx]
    by_cases hy : y = 0
    · have hyn : (y != 0) = false := by simp [hy]
      have HY := Lib.hid hy
      clear hx hy
      go_enter Try.func92, Try.ntmps92
      go_wp2
      go_loop [8] (fun i => ∃ k : Nat, k ≤ 2 ∧ i = .int .i64 k) (fun i => 2 - (intOf i).toNat)
      case atStart => exact ⟨0, by omega, rfl⟩
      case round =>
        obtain ⟨k, hk, rfl⟩ := hrel
        have hk3 : k = 0 ∨ k = 1 ∨ k = 2 := by omega
        rcases hk3 with rfl | rfl | rfl
        · go_wp2
          go_round
          case rel => exact ⟨1, by omega, by go_num⟩
          case measure => simp [intOf]
        · go_wp2
          go_round
          case rel => exact ⟨2, by omega, by go_num⟩
          case measure => simp [intOf]
        · go_wp2
          go_ret
          exact ⟨ret_int (by rw [HR.out, HY.out]), rfl⟩
    · have hyn : (y != 0) = true := by simp [hy]
      clear hx hy
      go_enter Try.func92, Try.ntmps92
      go_wp2
      go_loop [8] (fun i => ∃ k : Nat, k ≤ 1 ∧ i = .int .i64 k) (fun i => 2 - (intOf i).toNat)
      case atStart => exact ⟨0, by omega, rfl⟩
      case round =>
        obtain ⟨k, hk, rfl⟩ := hrel
        have hk3 : k = 0 ∨ k = 1 := by omega
        rcases hk3 with rfl | rfl
        · go_wp2
          go_round
          case rel => exact ⟨1, by omega, by go_num⟩
          case measure => simp [intOf]
        · go_wp2
          go_ret
          exact ⟨ret_int HR.out.symm, rfl⟩
  · have HR : Hid (orC x y = x) := by unfold Hid orC; rw [if_neg hx]
    have hxn : (x != 0) = true := by simp [hx]
    clear hx
    go_enter Try.func92, Try.ntmps92
    go_wp2
    go_loop [8] (fun i => i = .int .i64 0) (fun i => 0)
    case atStart => rfl
    case round =>
      obtain rfl := hrel
      go_wp2
      go_ret
      exact ⟨ret_int HR.out.symm, rfl⟩
theorem isOf_any (c : C3) (z : Int) (w : World) (hz : -1000000 ≤ z ∧ z ≤ 1000000) : Calls Try.prog 72 #[.agg #[.int .i64 c.1, .int .i64 c.2.1, .int .i64 c.2.2], .int .i64 z] w fun e w' => e = .returned (.bool (chB z c)) ∧ Below w.heap.size w w' := by
  obtain ⟨c1, c2, c3⟩ := c
  have hr : (inB c1 0 10000 = false ∧ chB z (c1, c2, c3) = false) ∨ (inB c1 0 10000 = true ∧ inB c2 0 (z - 1) = false ∧ chB z (c1, c2, c3) = false) ∨ (inB c1 0 10000 = true ∧ inB c2 0 (z - 1) = true ∧ inB c3 (-100) 100 = false ∧ chB z (c1, c2, c3) = false) ∨ (inB c1 0 10000 = true ∧ inB c2 0 (z - 1) = true ∧ inB c3 (-100) 100 = true ∧ chB z (c1, c2, c3) = true) := by
    unfold chB
    cases inB c1 0 10000 <;> cases inB c2 0 (z - 1) <;> cases inB c3 (-100) 100 <;> simp
  rcases hr with ⟨a, hr⟩ | ⟨a, b, hr⟩ | ⟨a, b, d, hr⟩ | ⟨a, b, d, hr⟩
  all_goals
    have HR := Lib.hid hr
    clear hr
    go_enter Try.func72, Try.ntmps72
    go_wp2_with (go_at_call 42; refine (isWithin_any _ _ _ _).mono ?_; rintro e w' ⟨rfl, rfl⟩)
    go_ret
    exact ⟨ret_bool HR.out.symm, (by repeat (first | exact Below.refl _ _ | refine Below.alloc ?_ (by simp; try omega) _ | refine Below.setCell ?_ (by simp; try omega) _))⟩
theorem l09Change_any (c : C3) (z : Int) (b off : Nat) (w : World) (hz : -1000000 ≤ z ∧ z ≤ 1000000) (h0 : w.cell? ⟨b, off, none⟩ = some (.int .i64 c.1)) (h1 : w.cell? ⟨b, off + 1, none⟩ = some (.int .i64 c.2.1)) (h2 : w.cell? ⟨b, off + 2, none⟩ = some (.int .i64 c.2.2)) :
    Calls Try.prog 68 #[.int .i64 z, .pointer (some ⟨b, off, none⟩)] w fun e w' => e = .returned (.bool (chB z c)) ∧ w = w' := by
  obtain ⟨c1, c2, c3⟩ := c
  dsimp only at h0 h1 h2
  have hr : (inB c1 0 10000 = false ∧ chB z (c1, c2, c3) = false) ∨ (inB c1 0 10000 = true ∧ inB c2 0 (z - 1) = false ∧ chB z (c1, c2, c3) = false) ∨ (inB c1 0 10000 = true ∧ inB c2 0 (z - 1) = true ∧ inB c3 (-100) 100 = false ∧ chB z (c1, c2, c3) = false) ∨ (inB c1 0 10000 = true ∧ inB c2 0 (z - 1) = true ∧ inB c3 (-100) 100 = true ∧ chB z (c1, c2, c3) = true) := by
    unfold chB
    cases inB c1 0 10000 <;> cases inB c2 0 (z - 1) <;> cases inB c3 (-100) 100 <;> simp
  rcases hr with ⟨a, hr⟩ | ⟨a, b, hr⟩ | ⟨a, b, d, hr⟩ | ⟨a, b, d, hr⟩
  all_goals
    have HR := Lib.hid hr
    clear hr
    go_enter Try.func68, Try.ntmps68
    go_wp2_with (go_at_call 48; refine (l00In_any _ _ _ _).mono ?_; rintro e w' ⟨rfl, rfl⟩)
    go_ret
    exact ⟨ret_bool HR.out.symm, rfl⟩
theorem compare_any (c d : C3) (w : World) : Calls Try.prog 74 #[.agg #[.int .i64 c.1, .int .i64 c.2.1, .int .i64 c.2.2], .agg #[.int .i64 d.1, .int .i64 d.2.1, .int .i64 d.2.2]] w fun e w' => e = .returned (.int .i64 (cmpC c d)) ∧ Below w.heap.size w w' := by
  obtain ⟨c1, c2, c3⟩ := c
  obtain ⟨d1, d2, d3⟩ := d
  have HR : Hid (cmpC (c1, c2, c3) (d1, d2, d3) = orC (cc c1 d1) (cc c2 d2)) := rfl
  dsimp only
  have x0 : ((w.alloc (.cells #[.int .i64 c1, .int .i64 c2, .int .i64 c3] 53)).alloc (.cells #[.int .i64 d1, .int .i64 d2, .int .i64 d3] 53)).cell? ⟨w.heap.size, 0, none⟩ = some (.int .i64 c1) := by simp [go_sem]
  have x1 : ((w.alloc (.cells #[.int .i64 c1, .int .i64 c2, .int .i64 c3] 53)).alloc (.cells #[.int .i64 d1, .int .i64 d2, .int .i64 d3] 53)).cell? ⟨w.heap.size, 1, none⟩ = some (.int .i64 c2) := by simp [go_sem]
  have y0 : ((w.alloc (.cells #[.int .i64 c1, .int .i64 c2, .int .i64 c3] 53)).alloc (.cells #[.int .i64 d1, .int .i64 d2, .int .i64 d3] 53)).cell? ⟨w.heap.size + 1, 0, none⟩ = some (.int .i64 d1) := by simp [go_sem]
  have y1 : ((w.alloc (.cells #[.int .i64 c1, .int .i64 c2, .int .i64 c3] 53)).alloc (.cells #[.int .i64 d1, .int .i64 d2, .int .i64 d3] 53)).cell? ⟨w.heap.size + 1, 1, none⟩ = some (.int .i64 d2) := by simp [go_sem]
  go_enter Try.func74, Try.ntmps74
  go_wp2_with fail
  go_region_held3 (fun w' => w'.cell? ⟨w.heap.size, 0, none⟩ = some (.int .i64 c1) ∧ w'.cell? ⟨w.heap.size, 1, none⟩ = some (.int .i64 c2) ∧ w'.cell? ⟨w.heap.size + 1, 0, none⟩ = some (.int .i64 d1) ∧ w'.cell? ⟨w.heap.size + 1, 1, none⟩ = some (.int .i64 d2))
    (first | exact ⟨x0, x1, y0, y1⟩ | (simp [go_sem]; done))
    (first | (go_at_call 93; refine (cmpCompare_any _ _ _).mono ?_; rintro e w' ⟨rfl, rfl⟩) | (go_at_call 92; refine (cmpOr_any _ (cc c1 d1) (cc c2 d2) _ (by simp [go_sem]) (by simp [go_sem])).mono ?_; rintro e w' ⟨rfl, rfl⟩))
  all_goals
    go_wp2
    go_ret
    exact ⟨ret_int HR.out.symm, (by (repeat (first | exact Below.refl _ _ | refine Below.drew ?_ | refine Below.drewN' ?_ _ | refine Below.alloc ?_ (by first | (simp; done) | (simp; omega)) _ | refine Below.setCell ?_ (by first | (simp; done) | (simp; omega)) _)); done)⟩
end Go.Proofs.Ytghpefdleiebmaa
