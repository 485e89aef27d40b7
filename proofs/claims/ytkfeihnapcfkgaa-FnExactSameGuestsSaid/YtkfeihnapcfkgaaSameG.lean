/-
  SameGuests: the model's walk and the program's (by slices.Equal at guests).
-/
import Derived.Test.YtkfeihnapcfkgaaGuestRec
import Derived.Test.YtkfeihnapcfkgaaRowAt
import Derived.Deep.RegionHeld3
import Derived.Laws.StructEq
namespace Go.Proofs.Ytkfeihnapcfkgaa
open Go.RowKit

theorem neqGuest (t u : TGuest) (w : World) : (binOp .neq 40 (.agg #[.int .i64 t.1, .int .i64 t.2]) (.agg #[.int .i64 u.1, .int .i64 u.2])).run Try.prog w = .ok (.bool (!(t == u))) w := by
  obtain ⟨t1, t2⟩ := t
  obtain ⟨u1, u2⟩ := u
  have hS : Try.prog.underlying 40 = some (.struct (Try.prog.fieldsOf 40)) := by kernel_rfl
  have hp : Try.prog.stoodInHeld 40 = false := by kernel_rfl
  rw [run_neq_struct, run_equalIn_struct w 9999 _ _ _ hS hp]
  simp only [Program.fieldsOf, Try.underlying40]
  by_cases h1 : t1 = u1 <;> by_cases h2 : t2 = u2 <;> simp [go_sem, h1, h2]
attribute [local go_sem ↓] neqGuest
set_option maxHeartbeats 1000000 in
theorem specSameG_any (a b : Option Addr) (ts us : List TGuest) (n m ca cb : Nat) (w : World) (hn : Hid (ts.length = n)) (hm : Hid (us.length = m)) (ha : RR 2 cGuest w a ts) (hb : RR 2 cGuest w b us) (hmax : n ≤ 1048576) :
    Calls Try.prog 14 #[.slice a n ca, .slice b m cb] w fun e w' => e = .returned (.bool (ts == us)) ∧ Below w.heap.size w w' := by
  by_cases hl : n = m
  · subst hl
    have HLE : Hid (ts.length = us.length) := hn.out.trans hm.out.symm
    have HCA := Lib.hid ha
    have HCB := Lib.hid hb
    clear ha hb
    go_enter Try.func14, Try.ntmps14
    go_wp2
    go_loopw [5] (fun i wr => ∃ k : Nat, k ≤ n ∧ i = .int .i64 k ∧ Below w.heap.size w wr ∧ ∀ j (h1 : j < ts.length) (h2 : j < us.length), j < k → (ts[j] == us[j]) = true) (fun i _ => n - (intOf i).toNat)
    case atStart => exact ⟨0, by omega, rfl, Below.refl _ _, fun j _ _ hj => by omega⟩
    case round =>
      obtain ⟨k, hk, rfl, hbel, hall⟩ := hrel
      have HALL := Lib.hid hall
      clear hall
      by_cases hlt : k < n
      · have hka : k < ts.length := by rw [hn.out]; exact hlt
        have hkb : k < us.length := by rw [hm.out]; exact hlt
        obtain ⟨ba, oa, rfl, hba, hca⟩ := HCA.out.at_ k hka
        obtain ⟨bb, ob, rfl, hbb, hcb⟩ := HCB.out.at_ k hkb
        have x1 := hca 0 _ rfl
        have x2 := hca 1 _ rfl
        have y1 := hcb 0 _ rfl
        have y2 := hcb 1 _ rfl
        simp only [Nat.add_zero] at x1 y1
        clear hca hcb
        generalize hT : ts[k] = t at x1 x2
        generalize hU : us[k] = u at y1 y2
        have HT := Lib.hid hT
        have HU := Lib.hid hU
        clear hT hU
        rw [← hbel.cell (p := ⟨_, _, none⟩) hba] at x1 x2
        rw [← hbel.cell (p := ⟨_, _, none⟩) hbb] at y1 y2
        have hk0 : (0 : Int) ≤ (k : Int) := by omega
        have hk1 : (k : Int) < (n : Int) := by omega
        have hba' : ba < wr.heap.size := by have := hbel.size; omega
        have hbb' : bb < wr.heap.size := by have := hbel.size; omega
        cases htu : (t == u) with
        | true =>
          have htn : (!(t == u)) = false := by rw [htu]; rfl
          go_wp2
          go_region_held3 (fun w' => w'.cell? ⟨ba, oa + k * 2, none⟩ = some (.int .i64 t.1) ∧ w'.cell? ⟨ba, oa + k * 2 + 1, none⟩ = some (.int .i64 t.2) ∧ w'.cell? ⟨bb, ob + k * 2, none⟩ = some (.int .i64 u.1) ∧ w'.cell? ⟨bb, ob + k * 2 + 1, none⟩ = some (.int .i64 u.2)) (exact ⟨x1, x2, y1, y2⟩) (fail)
          have hbel' := hbel.drew
          go_wp2
          go_roundw
          case rel => exact ⟨k + 1, by omega, by go_num, hbel', fun j h1 h2 hj => if e : j = k then (by subst e; rw [HT.out, HU.out]; exact htu) else HALL.out j h1 h2 (by omega)⟩
          case measure => simp [intOf]; omega
        | false =>
          have HR : Hid ((ts == us) = false) := eqL_bad ts us k hka hkb (by rw [HT.out, HU.out]; exact htu)
          go_wp2
          go_region_held3 (fun w' => w'.cell? ⟨ba, oa + k * 2, none⟩ = some (.int .i64 t.1) ∧ w'.cell? ⟨ba, oa + k * 2 + 1, none⟩ = some (.int .i64 t.2) ∧ w'.cell? ⟨bb, ob + k * 2, none⟩ = some (.int .i64 u.1) ∧ w'.cell? ⟨bb, ob + k * 2 + 1, none⟩ = some (.int .i64 u.2)) (exact ⟨x1, x2, y1, y2⟩) (fail)
          have hbel' := hbel.drew
          go_wp2
          go_ret
          exact ⟨ret_bool HR.out.symm, hbel'⟩
      · have HR : Hid ((ts == us) = true) := eqL_ext ts us HLE.out (fun i h1 h2 => HALL.out i h1 h2 (by rw [hn.out] at h1; omega))
        go_wp2
        go_ret
        exact ⟨ret_bool HR.out.symm, hbel⟩
  · have HR : Hid ((ts == us) = false) := eqL_len ts us (by rw [hn.out, hm.out]; exact hl)
    have hne : ((n : Int) != (m : Int)) = true := by rw [bne_iff_ne]; omega
    go_enter Try.func14, Try.ntmps14
    go_wp2
    go_ret
    exact ⟨ret_bool HR.out.symm, Below.refl _ _⟩
set_option maxHeartbeats 1000000 in
theorem slicesEqualG_any (a b : Option Addr) (ts us : List TGuest) (n m ca cb : Nat) (w : World) (hn : Hid (ts.length = n)) (hm : Hid (us.length = m)) (ha : RR 2 cGuest w a ts) (hb : RR 2 cGuest w b us) (hmax : n ≤ 1048576) :
    Calls Try.prog 30 #[.slice a n ca, .slice b m cb] w fun e w' => e = .returned (.bool (ts == us)) ∧ Below w.heap.size w w' := by
  by_cases hl : n = m
  · subst hl
    have HLE : Hid (ts.length = us.length) := hn.out.trans hm.out.symm
    have HCA := Lib.hid ha
    have HCB := Lib.hid hb
    clear ha hb
    go_enter Try.func30, Try.ntmps30
    go_wp2
    go_loopw [13] (fun i wr => ∃ k : Nat, k ≤ n ∧ i = .int .i64 k ∧ Below w.heap.size w wr ∧ ∀ j (h1 : j < ts.length) (h2 : j < us.length), j < k → (ts[j] == us[j]) = true) (fun i _ => n - (intOf i).toNat)
    case atStart => exact ⟨0, by omega, rfl, Below.refl _ _, fun j _ _ hj => by omega⟩
    case round =>
      obtain ⟨k, hk, rfl, hbel, hall⟩ := hrel
      have HALL := Lib.hid hall
      clear hall
      by_cases hlt : k < n
      · have hka : k < ts.length := by rw [hn.out]; exact hlt
        have hkb : k < us.length := by rw [hm.out]; exact hlt
        obtain ⟨ba, oa, rfl, hba, hca⟩ := HCA.out.at_ k hka
        obtain ⟨bb, ob, rfl, hbb, hcb⟩ := HCB.out.at_ k hkb
        have x1 := hca 0 _ rfl
        have x2 := hca 1 _ rfl
        have y1 := hcb 0 _ rfl
        have y2 := hcb 1 _ rfl
        simp only [Nat.add_zero] at x1 y1
        clear hca hcb
        generalize hT : ts[k] = t at x1 x2
        generalize hU : us[k] = u at y1 y2
        have HT := Lib.hid hT
        have HU := Lib.hid hU
        clear hT hU
        rw [← hbel.cell (p := ⟨_, _, none⟩) hba] at x1 x2
        rw [← hbel.cell (p := ⟨_, _, none⟩) hbb] at y1 y2
        have hk0 : (0 : Int) ≤ (k : Int) := by omega
        have hk1 : (k : Int) < (n : Int) := by omega
        have hba' : ba < wr.heap.size := by have := hbel.size; omega
        have hbb' : bb < wr.heap.size := by have := hbel.size; omega
        cases htu : (t == u) with
        | true =>
          have htn : (!(t == u)) = false := by rw [htu]; rfl
          go_wp2
          go_region_held3 (fun w' => w'.cell? ⟨ba, oa + k * 2, none⟩ = some (.int .i64 t.1) ∧ w'.cell? ⟨ba, oa + k * 2 + 1, none⟩ = some (.int .i64 t.2) ∧ w'.cell? ⟨bb, ob + k * 2, none⟩ = some (.int .i64 u.1) ∧ w'.cell? ⟨bb, ob + k * 2 + 1, none⟩ = some (.int .i64 u.2)) (exact ⟨x1, x2, y1, y2⟩) (fail)
          have hbel' := hbel.drew
          go_wp2
          go_roundw
          case rel => exact ⟨k + 1, by omega, by go_num, hbel', fun j h1 h2 hj => if e : j = k then (by subst e; rw [HT.out, HU.out]; exact htu) else HALL.out j h1 h2 (by omega)⟩
          case measure => simp [intOf]; omega
        | false =>
          have HR : Hid ((ts == us) = false) := eqL_bad ts us k hka hkb (by rw [HT.out, HU.out]; exact htu)
          go_wp2
          go_region_held3 (fun w' => w'.cell? ⟨ba, oa + k * 2, none⟩ = some (.int .i64 t.1) ∧ w'.cell? ⟨ba, oa + k * 2 + 1, none⟩ = some (.int .i64 t.2) ∧ w'.cell? ⟨bb, ob + k * 2, none⟩ = some (.int .i64 u.1) ∧ w'.cell? ⟨bb, ob + k * 2 + 1, none⟩ = some (.int .i64 u.2)) (exact ⟨x1, x2, y1, y2⟩) (fail)
          have hbel' := hbel.drew
          go_wp2
          go_ret
          exact ⟨ret_bool HR.out.symm, hbel'⟩
      · have HR : Hid ((ts == us) = true) := eqL_ext ts us HLE.out (fun i h1 h2 => HALL.out i h1 h2 (by rw [hn.out] at h1; omega))
        go_wp2
        go_ret
        exact ⟨ret_bool HR.out.symm, hbel⟩
  · have HR : Hid ((ts == us) = false) := eqL_len ts us (by rw [hn.out, hm.out]; exact hl)
    have hne : ((n : Int) != (m : Int)) = true := by rw [bne_iff_ne]; omega
    go_enter Try.func30, Try.ntmps30
    go_wp2
    go_ret
    exact ⟨ret_bool HR.out.symm, Below.refl _ _⟩

theorem specSameGuests_any (w : World) {a0 : Option Addr} {n0 c0 : Nat} (ts0 : List TGuest) (hn0 : Hid (ts0.length = n0)) (h0 : RR 2 cGuest w a0 ts0) (hs0 : n0 ≤ 1048576) (_wf0 : Hid (∀ t ∈ ts0, wfGuest t)) {a1 : Option Addr} {n1 c1 : Nat} (ts1 : List TGuest) (hn1 : Hid (ts1.length = n1)) (h1 : RR 2 cGuest w a1 ts1) (_hs1 : n1 ≤ 1048576) (_wf1 : Hid (∀ t ∈ ts1, wfGuest t)) :
    Calls Try.prog 14 #[.slice a0 n0 c0, .slice a1 n1 c1] w fun e w' => e = .returned (.bool (ts0 == ts1)) ∧ Below w.heap.size w w' :=
  specSameG_any a0 a1 ts0 ts1 n0 n1 c0 c1 w hn0 hn1 h0 h1 hs0
theorem implSameGuests_any (w : World) {a0 : Option Addr} {n0 c0 : Nat} (ts0 : List TGuest) (hn0 : Hid (ts0.length = n0)) (h0 : RR 2 cGuest w a0 ts0) (hs0 : n0 ≤ 1048576) (_wf0 : Hid (∀ t ∈ ts0, wfGuest t)) {a1 : Option Addr} {n1 c1 : Nat} (ts1 : List TGuest) (hn1 : Hid (ts1.length = n1)) (h1 : RR 2 cGuest w a1 ts1) (_hs1 : n1 ≤ 1048576) (_wf1 : Hid (∀ t ∈ ts1, wfGuest t)) :
    Calls Try.prog 15 #[.slice a0 n0 c0, .slice a1 n1 c1] w fun e w' => e = .returned (.bool (ts0 == ts1)) ∧ Below w.heap.size w w' := by
  have SE := slicesEqualG_any a0 a1 ts0 ts1 n0 n1 c0 c1 w hn0 hn1 h0 h1 hs0
  clear h0 h1
  go_enter Try.func15, Try.ntmps15
  go_wp2_with (go_at_call 30; refine SE.mono ?_; rintro e w1 ⟨rfl, hb1⟩)
  go_ret
  exact ⟨rfl, hb1⟩
end Go.Proofs.Ytkfeihnapcfkgaa
