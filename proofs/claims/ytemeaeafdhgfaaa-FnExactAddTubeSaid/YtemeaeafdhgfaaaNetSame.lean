/-
  The walks of SameNet: the model's and the program's (by slices.Equal at tubes): both return whether the stations are equal and the tubes are.
-/
import Derived.Test.YtemeaeafdhgfaaaNetTo
import Derived.Deep.RegionHeld3
import Derived.Laws.StructEq
namespace Go.Proofs.Ytemeaeafdhgfaaa
open Go.RowKit

theorem neqTube (t u : T3) (w : World) : (binOp .neq 43 (.agg #[.int .i64 t.1, .int .i64 t.2.1, .int .i64 t.2.2]) (.agg #[.int .i64 u.1, .int .i64 u.2.1, .int .i64 u.2.2])).run Try.prog w = .ok (.bool (!(t == u))) w := by
  obtain ⟨t1, t2, t3⟩ := t
  obtain ⟨u1, u2, u3⟩ := u
  have hS : Try.prog.underlying 43 = some (.struct (Try.prog.fieldsOf 43)) := by kernel_rfl
  have hp : Try.prog.stoodInHeld 43 = false := by kernel_rfl
  rw [run_neq_struct, run_equalIn_struct w 9999 _ _ _ hS hp]
  simp only [Program.fieldsOf, Try.underlying43]
  by_cases h1 : t1 = u1 <;> by_cases h2 : t2 = u2 <;> by_cases h3 : t3 = u3 <;> simp [go_sem, h1, h2, h3]
attribute [local go_sem ↓] neqTube
set_option maxHeartbeats 1000000 in
theorem slicesEqualT_any (a b : Option Addr) (ts us : List T3) (n m ca cb : Nat) (w : World) (hn : Hid (ts.length = n)) (hm : Hid (us.length = m)) (ha : RT w a ts) (hb : RT w b us) (hmax : n ≤ maxLen) :
    Calls Try.prog 72 #[.slice a n ca, .slice b m cb] w fun e w' => e = .returned (.bool (ts == us)) ∧ Below w.heap.size w w' := by
  unfold maxLen at hmax
  by_cases hl : n = m
  · subst hl
    have HLE : Hid (ts.length = us.length) := hn.out.trans hm.out.symm
    by_cases hz : n = 0
    · subst hz
      have HR : Hid ((ts == us) = true) := T3.beq_ext ts us HLE.out (fun i h1 _ => by rw [hn.out] at h1; omega)
      go_enter Try.func72, Try.ntmps72
      go_wp2
      go_loop [13] (fun i => i = .int .i64 0) (fun _ => 0)
      case atStart => rfl
      case round =>
        obtain rfl := hrel
        go_wp2
        go_ret
        exact ⟨ret_bool HR.out.symm, Below.refl _ _⟩
    · obtain ⟨ba, oa, rfl, hba, hca⟩ := ha.addr (by rw [hn.out]; omega)
      obtain ⟨bb, ob, rfl, hbb, hcb⟩ := hb.addr (by rw [hm.out]; omega)
      have HCA := Lib.hid hca
      have HCB := Lib.hid hcb
      clear hca hcb ha hb
      go_enter Try.func72, Try.ntmps72
      go_wp2
      go_loopw [13] (fun i wr => ∃ k : Nat, k ≤ n ∧ i = .int .i64 k ∧ Below w.heap.size w wr ∧ ∀ j (h1 : j < ts.length) (h2 : j < us.length), j < k → (ts[j] == us[j]) = true) (fun i _ => n - (intOf i).toNat)
      case atStart => exact ⟨0, by omega, rfl, Below.refl _ _, fun j _ _ hj => by omega⟩
      case round =>
        obtain ⟨k, hk, rfl, hbel, hall⟩ := hrel
        have HALL := Lib.hid hall
        clear hall
        by_cases hlt : k < n
        · have hka : k < ts.length := by rw [hn.out]; exact hlt
          have hkb : k < us.length := by rw [hm.out]; exact hlt
          obtain ⟨x1, x2, x3⟩ := HCA.out k hka
          obtain ⟨y1, y2, y3⟩ := HCB.out k hkb
          generalize hT : ts[k] = t at x1 x2 x3
          generalize hU : us[k] = u at y1 y2 y3
          have HT := Lib.hid hT
          have HU := Lib.hid hU
          clear hT hU
          rw [← hbel.cell (p := ⟨_, _, none⟩) hba] at x1 x2 x3
          rw [← hbel.cell (p := ⟨_, _, none⟩) hbb] at y1 y2 y3
          have hk0 : (0 : Int) ≤ (k : Int) := by omega
          have hk1 : (k : Int) < (n : Int) := by omega
          have hba' : ba < wr.heap.size := by have := hbel.size; omega
          have hbb' : bb < wr.heap.size := by have := hbel.size; omega
          cases htu : (t == u) with
          | true =>
            have htn : (!(t == u)) = false := by rw [htu]; rfl
            go_wp2
            go_region_held3 (fun w' => w'.cell? ⟨ba, oa + k * 3, none⟩ = some (.int .i64 t.1) ∧ w'.cell? ⟨ba, oa + k * 3 + 1, none⟩ = some (.int .i64 t.2.1) ∧ w'.cell? ⟨ba, oa + k * 3 + 2, none⟩ = some (.int .i64 t.2.2) ∧ w'.cell? ⟨bb, ob + k * 3, none⟩ = some (.int .i64 u.1) ∧ w'.cell? ⟨bb, ob + k * 3 + 1, none⟩ = some (.int .i64 u.2.1) ∧ w'.cell? ⟨bb, ob + k * 3 + 2, none⟩ = some (.int .i64 u.2.2)) (exact ⟨x1, x2, x3, y1, y2, y3⟩) (fail)
            have hbel' := hbel.drew
            go_wp2
            go_roundw
            case rel => exact ⟨k + 1, by omega, by go_num, hbel', fun j h1 h2 hj => if e : j = k then (by subst e; rw [HT.out, HU.out]; exact htu) else HALL.out j h1 h2 (by omega)⟩
            case measure => simp [intOf]; omega
          | false =>
            have HR : Hid ((ts == us) = false) := T3.beq_bad ts us k hka hkb (by rw [HT.out, HU.out]; exact htu)
            go_wp2
            go_region_held3 (fun w' => w'.cell? ⟨ba, oa + k * 3, none⟩ = some (.int .i64 t.1) ∧ w'.cell? ⟨ba, oa + k * 3 + 1, none⟩ = some (.int .i64 t.2.1) ∧ w'.cell? ⟨ba, oa + k * 3 + 2, none⟩ = some (.int .i64 t.2.2) ∧ w'.cell? ⟨bb, ob + k * 3, none⟩ = some (.int .i64 u.1) ∧ w'.cell? ⟨bb, ob + k * 3 + 1, none⟩ = some (.int .i64 u.2.1) ∧ w'.cell? ⟨bb, ob + k * 3 + 2, none⟩ = some (.int .i64 u.2.2)) (exact ⟨x1, x2, x3, y1, y2, y3⟩) (fail)
            have hbel' := hbel.drew
            go_wp2
            go_ret
            exact ⟨ret_bool HR.out.symm, hbel'⟩
        · have HR : Hid ((ts == us) = true) := T3.beq_ext ts us HLE.out (fun i h1 h2 => HALL.out i h1 h2 (by rw [hn.out] at h1; omega))
          go_wp2
          go_ret
          exact ⟨ret_bool HR.out.symm, hbel⟩
  · have HR : Hid ((ts == us) = false) := T3.beq_len ts us (by rw [hn.out, hm.out]; exact hl)
    have hne : ((n : Int) != (m : Int)) = true := by rw [bne_iff_ne]; omega
    go_enter Try.func72, Try.ntmps72
    go_wp2
    go_ret
    exact ⟨ret_bool HR.out.symm, Below.refl _ _⟩

theorem implSameNet_any (s r : Int) (a b : Option Addr) (ts us : List T3) (n m ca cb : Nat) (w : World) (hn : Hid (ts.length = n)) (hm : Hid (us.length = m)) (ha : RT w a ts) (hb : RT w b us) (hmax : n ≤ maxLen) :
    Calls Try.prog 30 #[.agg #[.int .i64 s, .slice a n ca], .agg #[.int .i64 r, .slice b m cb]] w fun e w' => e = .returned (.bool (s == r && ts == us)) ∧ Below w.heap.size w w' := by
  have HA : Hid (∀ w', Below w.heap.size w w' → RT w' a ts) := fun w' h => ha.below h
  have HB : Hid (∀ w', Below w.heap.size w w' → RT w' b us) := fun w' h => hb.below h
  clear ha hb
  rcases eq_ways s r with ⟨⟨e1, e2⟩, e3⟩ | ⟨⟨e1, e2⟩, e3⟩
  · subst e3
    clear e1 e2
    go_enter Try.func30, Try.ntmps30
    go_wp2_with fail
    refine (slicesEqualT_any _ _ ts us _ _ _ _ _ hn hm (HA.out _ (by repeat (first | exact Below.refl _ _ | refine Below.alloc ?_ (by simp; try omega) _ | refine Below.setCell ?_ (by simp; try omega) _))) (HB.out _ (by repeat (first | exact Below.refl _ _ | refine Below.alloc ?_ (by simp; try omega) _ | refine Below.setCell ?_ (by simp; try omega) _))) hmax).mono ?_
    rintro e w1 ⟨rfl, hb1⟩
    go_wp2
    go_ret
    exact ⟨ret_bool (by simp), Below.trans (by repeat (first | exact Below.refl _ _ | refine Below.alloc ?_ (by simp; try omega) _ | refine Below.setCell ?_ (by simp; try omega) _)) (hb1.mono (by simp; omega))⟩
  · clear e3
    go_enter Try.func30, Try.ntmps30
    go_wp2
    go_ret
    exact ⟨ret_bool (by simp [e1]), (by repeat (first | exact Below.refl _ _ | refine Below.alloc ?_ (by simp; try omega) _ | refine Below.setCell ?_ (by simp; try omega) _))⟩

set_option maxHeartbeats 1000000 in
theorem specSameNet_any (s r : Int) (a b : Option Addr) (ts us : List T3) (n m ca cb : Nat) (w : World) (hn : Hid (ts.length = n)) (hm : Hid (us.length = m)) (ha : RT w a ts) (hb : RT w b us) (hmax : n ≤ maxLen) :
    Calls Try.prog 29 #[.agg #[.int .i64 s, .slice a n ca], .agg #[.int .i64 r, .slice b m cb]] w fun e w' => e = .returned (.bool (s == r && ts == us)) ∧ Below w.heap.size w w' := by
  unfold maxLen at hmax
  rcases eq_ways s r with ⟨⟨e1, e2⟩, e3⟩ | ⟨⟨e1, e2⟩, e3⟩
  · subst e3
    clear e1 e2
    by_cases hl : n = m
    · subst hl
      have HLE : Hid (ts.length = us.length) := hn.out.trans hm.out.symm
      by_cases hz : n = 0
      · have HZ := Lib.hid hz
        have HR : Hid ((s == s && ts == us) = true) := by unfold Hid; rw [T3.beq_ext ts us HLE.out (fun i h1 _ => by rw [hn.out, HZ.out] at h1; omega)]; simp
        clear hz
        go_enter Try.func29, Try.ntmps29
        go_wp2
        go_loop [5] (fun i => ∃ k : Nat, k ≤ n ∧ i = .int .i64 k) (fun _ => 0)
        case atStart => exact ⟨0, by omega, rfl⟩
        case round =>
          obtain ⟨k, hk, rfl⟩ := hrel
          have hlt : ¬ k < n := by rw [HZ.out]; omega
          go_wp2
          go_ret
          exact ⟨ret_bool (by have h := HR.out; simp only [beq_self_eq_true, Bool.true_and] at h; exact h.symm), (by repeat (first | exact Below.refl _ _ | refine Below.alloc ?_ (by simp; try omega) _ | refine Below.setCell ?_ (by simp; try omega) _))⟩
      · obtain ⟨ba, oa, rfl, hba, hca⟩ := ha.addr (by rw [hn.out]; omega)
        obtain ⟨bb, ob, rfl, hbb, hcb⟩ := hb.addr (by rw [hm.out]; omega)
        have HCA := Lib.hid hca
        have HCB := Lib.hid hcb
        clear hca hcb ha hb
        go_enter Try.func29, Try.ntmps29
        go_wp2
        go_loopw [5] (fun i wr => ∃ k : Nat, k ≤ n ∧ i = .int .i64 k ∧ Below (w.heap.size + 2) ((w.alloc (.cells #[.int .i64 s, .slice (some ⟨ba, oa, none⟩) n ca] 34)).alloc (.cells #[.int .i64 s, .slice (some ⟨bb, ob, none⟩) n cb] 34)) wr ∧ ∀ j (h1 : j < ts.length) (h2 : j < us.length), j < k → (ts[j] == us[j]) = true) (fun i _ => n - (intOf i).toNat)
        case atStart => exact ⟨0, by omega, rfl, Below.refl _ _, fun j _ _ hj => by omega⟩
        case round =>
          obtain ⟨k, hk, rfl, hbel, hall⟩ := hrel
          have HALL := Lib.hid hall
          clear hall
          have HB0 : Hid (Below w.heap.size w wr) := Below.trans (by repeat (first | exact Below.refl _ _ | refine Below.alloc ?_ (by simp; try omega) _ | refine Below.setCell ?_ (by simp; try omega) _)) (hbel.mono (by omega))
          have p1 := hbel.cell (p := ⟨w.heap.size, 1, none⟩) (by simp)
          have q1 := hbel.cell (p := ⟨w.heap.size + 1, 1, none⟩) (by simp)
          simp [go_sem] at p1 q1
          have HBEL := Lib.hid hbel
          clear hbel
          by_cases hlt : k < n
          · have hka : k < ts.length := by rw [hn.out]; exact hlt
            have hkb : k < us.length := by rw [hm.out]; exact hlt
            obtain ⟨x1, x2, x3⟩ := HCA.out k hka
            obtain ⟨y1, y2, y3⟩ := HCB.out k hkb
            generalize hT : ts[k] = t at x1 x2 x3
            generalize hU : us[k] = u at y1 y2 y3
            have HT := Lib.hid hT
            have HU := Lib.hid hU
            clear hT hU
            rw [← HB0.out.cell (p := ⟨_, _, none⟩) hba] at x1 x2 x3
            rw [← HB0.out.cell (p := ⟨_, _, none⟩) hbb] at y1 y2 y3
            have hk0 : (0 : Int) ≤ (k : Int) := by omega
            have hk1 : (k : Int) < (n : Int) := by omega
            cases htu : (t == u) with
            | true =>
              have htn : (!(t == u)) = false := by rw [htu]; rfl
              go_wp2
              go_region_held3 (fun w' => w'.cell? ⟨ba, oa + k * 3, none⟩ = some (.int .i64 t.1) ∧ w'.cell? ⟨ba, oa + k * 3 + 1, none⟩ = some (.int .i64 t.2.1) ∧ w'.cell? ⟨ba, oa + k * 3 + 2, none⟩ = some (.int .i64 t.2.2) ∧ w'.cell? ⟨bb, ob + k * 3, none⟩ = some (.int .i64 u.1) ∧ w'.cell? ⟨bb, ob + k * 3 + 1, none⟩ = some (.int .i64 u.2.1) ∧ w'.cell? ⟨bb, ob + k * 3 + 2, none⟩ = some (.int .i64 u.2.2) ∧ w'.cell? ⟨w.heap.size, 1, none⟩ = some (.slice (some ⟨ba, oa, none⟩) n ca) ∧ w'.cell? ⟨w.heap.size + 1, 1, none⟩ = some (.slice (some ⟨bb, ob, none⟩) n cb)) (exact ⟨x1, x2, x3, y1, y2, y3, p1, q1⟩) (fail)
              go_wp2
              go_roundw
              case rel => exact ⟨k + 1, by omega, by go_num, HBEL.out.drew, fun j h1 h2 hj => if e : j = k then (by subst e; rw [HT.out, HU.out]; exact htu) else HALL.out j h1 h2 (by omega)⟩
              case measure => simp [intOf]; omega
            | false =>
              have HR : Hid ((s == s && ts == us) = false) := by unfold Hid; rw [T3.beq_bad ts us k hka hkb (by rw [HT.out, HU.out]; exact htu)]; simp
              go_wp2
              go_region_held3 (fun w' => w'.cell? ⟨ba, oa + k * 3, none⟩ = some (.int .i64 t.1) ∧ w'.cell? ⟨ba, oa + k * 3 + 1, none⟩ = some (.int .i64 t.2.1) ∧ w'.cell? ⟨ba, oa + k * 3 + 2, none⟩ = some (.int .i64 t.2.2) ∧ w'.cell? ⟨bb, ob + k * 3, none⟩ = some (.int .i64 u.1) ∧ w'.cell? ⟨bb, ob + k * 3 + 1, none⟩ = some (.int .i64 u.2.1) ∧ w'.cell? ⟨bb, ob + k * 3 + 2, none⟩ = some (.int .i64 u.2.2) ∧ w'.cell? ⟨w.heap.size, 1, none⟩ = some (.slice (some ⟨ba, oa, none⟩) n ca) ∧ w'.cell? ⟨w.heap.size + 1, 1, none⟩ = some (.slice (some ⟨bb, ob, none⟩) n cb)) (exact ⟨x1, x2, x3, y1, y2, y3, p1, q1⟩) (fail)
              go_wp2
              go_ret
              exact ⟨ret_bool HR.out.symm, HB0.out.drew⟩
          · have HR : Hid ((s == s && ts == us) = true) := by unfold Hid; rw [T3.beq_ext ts us HLE.out (fun i h1 h2 => HALL.out i h1 h2 (by rw [hn.out] at h1; omega))]; simp
            go_wp2
            go_ret
            exact ⟨ret_bool HR.out.symm, HB0.out⟩
    · have HR : Hid ((s == s && ts == us) = false) := by unfold Hid; rw [T3.beq_len ts us (by rw [hn.out, hm.out]; exact hl)]; simp
      have hne : ((n : Int) != (m : Int)) = true := by rw [bne_iff_ne]; omega
      go_enter Try.func29, Try.ntmps29
      go_wp2
      go_ret
      exact ⟨ret_bool HR.out.symm, (by repeat (first | exact Below.refl _ _ | refine Below.alloc ?_ (by simp; try omega) _ | refine Below.setCell ?_ (by simp; try omega) _))⟩
  · have HR : Hid ((s == r && ts == us) = false) := by unfold Hid; rw [e1]; simp
    clear e3
    go_enter Try.func29, Try.ntmps29
    go_wp2
    go_ret
    exact ⟨ret_bool HR.out.symm, (by repeat (first | exact Below.refl _ _ | refine Below.alloc ?_ (by simp; try omega) _ | refine Below.setCell ?_ (by simp; try omega) _))⟩
end Go.Proofs.Ytemeaeafdhgfaaa
