/-
  SameZoned: the model's walk (by l00Same and a loop) and the program's (by slices.Equal at numbers and at changes).
-/
import Derived.Test.YtfejgckimlgopaaSelZ
import Derived.Laws.StructEq
namespace Go.Proofs.Ytfejgckimlgopaa
open Go.RowKit

theorem neqChange (t u : TChange) (w : World) : (binOp .neq 59 (.agg #[.int .i64 t.1, .int .i64 t.2.1, .int .i64 t.2.2]) (.agg #[.int .i64 u.1, .int .i64 u.2.1, .int .i64 u.2.2])).run Try.prog w = .ok (.bool (!(t == u))) w := by
  obtain ⟨t1, t2, t3⟩ := t
  obtain ⟨u1, u2, u3⟩ := u
  have hS : Try.prog.underlying 59 = some (.struct (Try.prog.fieldsOf 59)) := by kernel_rfl
  have hp : Try.prog.stoodInHeld 59 = false := by kernel_rfl
  rw [run_neq_struct, run_equalIn_struct w 9999 _ _ _ hS hp]
  simp only [Program.fieldsOf, Try.underlying59]
  by_cases h1 : t1 = u1 <;> by_cases h2 : t2 = u2 <;> by_cases h3 : t3 = u3 <;> simp [go_sem, h1, h2, h3]
attribute [local go_sem ↓] neqChange
set_option maxHeartbeats 1000000 in
theorem l00Same_any (a b : Option Addr) (ts us : List Int) (n m ca cb : Nat) (w : World) (hn : Hid (ts.length = n)) (hm : Hid (us.length = m)) (ha : RI w a ts) (hb : RI w b us) (hmax : n ≤ maxLen) :
    Calls Try.prog 96 #[.slice a n ca, .slice b m cb] w fun e w' => e = .returned (.bool (ts == us)) ∧ Below w.heap.size w w' := by
  unfold maxLen at hmax
  by_cases hl : n = m
  · subst hl
    have HLE : Hid (ts.length = us.length) := hn.out.trans hm.out.symm
    by_cases hz : n = 0
    · have HZ := Lib.hid hz
      have HR : Hid ((ts == us) = true) := ints_ext ts us HLE.out (fun i h1 _ => by rw [hn.out, HZ.out] at h1; omega)
      clear hz
      go_enter Try.func96, Try.ntmps96
      go_wp2
      go_loop [5] (fun i => ∃ k : Nat, k ≤ n ∧ i = .int .i64 k) (fun _ => 0)
      case atStart => exact ⟨0, by omega, rfl⟩
      case round =>
        obtain ⟨k, hk, rfl⟩ := hrel
        have hlt : ¬ k < n := by rw [HZ.out]; omega
        go_wp2
        go_ret
        exact ⟨ret_bool HR.out.symm, Below.refl _ _⟩
    · obtain ⟨ba, oa, rfl, hba, hca⟩ := ha.addr (by rw [hn.out]; omega)
      obtain ⟨bb, ob, rfl, hbb, hcb⟩ := hb.addr (by rw [hm.out]; omega)
      have HCA := Lib.hid hca
      have HCB := Lib.hid hcb
      clear hca hcb ha hb
      go_enter Try.func96, Try.ntmps96
      go_wp2
      go_loopw [5] (fun i wr => ∃ k : Nat, k ≤ n ∧ i = .int .i64 k ∧ Below w.heap.size w wr ∧ ∀ j (h1 : j < ts.length) (h2 : j < us.length), j < k → ts[j] = us[j]) (fun i _ => n - (intOf i).toNat)
      case atStart => exact ⟨0, by omega, rfl, Below.refl _ _, fun j _ _ hj => by omega⟩
      case round =>
        obtain ⟨k, hk, rfl, hbel, hall⟩ := hrel
        have HALL := Lib.hid hall
        clear hall
        by_cases hlt : k < n
        · have hka : k < ts.length := by rw [hn.out]; exact hlt
          have hkb : k < us.length := by rw [hm.out]; exact hlt
          have x1 := HCA.out k hka
          have y1 := HCB.out k hkb
          generalize hT : ts[k] = t at x1
          generalize hU : us[k] = u at y1
          have HT := Lib.hid hT
          have HU := Lib.hid hU
          clear hT hU
          rw [← hbel.cell (p := ⟨_, _, none⟩) hba] at x1
          rw [← hbel.cell (p := ⟨_, _, none⟩) hbb] at y1
          have hk0 : (0 : Int) ≤ (k : Int) := by omega
          have hk1 : (k : Int) < (n : Int) := by omega
          rcases eq_ways t u with ⟨⟨e1, e2⟩, e3⟩ | ⟨⟨e1, e2⟩, e3⟩
          · have E3 := Lib.hid e3
            clear e3
            go_wp2
            go_region_held3 (fun w' => w'.cell? ⟨ba, oa + k, none⟩ = some (.int .i64 t) ∧ w'.cell? ⟨bb, ob + k, none⟩ = some (.int .i64 u)) (exact ⟨x1, y1⟩) (fail)
            go_wp2
            go_roundw
            case rel => exact ⟨k + 1, by omega, by go_num, hbel.drew, fun j h1 h2 hj => if e : j = k then (by subst e; rw [HT.out, HU.out]; exact E3.out) else HALL.out j h1 h2 (by omega)⟩
            case measure => simp [intOf]; omega
          · have HR : Hid ((ts == us) = false) := ints_bad ts us k hka hkb (by rw [HT.out, HU.out]; exact e3)
            clear e3
            go_wp2
            go_region_held3 (fun w' => w'.cell? ⟨ba, oa + k, none⟩ = some (.int .i64 t) ∧ w'.cell? ⟨bb, ob + k, none⟩ = some (.int .i64 u)) (exact ⟨x1, y1⟩) (fail)
            go_wp2
            go_ret
            exact ⟨ret_bool HR.out.symm, hbel.drew⟩
        · have HR : Hid ((ts == us) = true) := ints_ext ts us HLE.out (fun i h1 h2 => HALL.out i h1 h2 (by rw [hn.out] at h1; omega))
          go_wp2
          go_ret
          exact ⟨ret_bool HR.out.symm, hbel⟩
  · have HR : Hid ((ts == us) = false) := ints_len ts us (by rw [hn.out, hm.out]; exact hl)
    have hne : ((n : Int) != (m : Int)) = true := by rw [bne_iff_ne]; omega
    go_enter Try.func96, Try.ntmps96
    go_wp2
    go_ret
    exact ⟨ret_bool HR.out.symm, Below.refl _ _⟩

set_option maxHeartbeats 1000000 in
theorem sliceEq_any (a b : Option Addr) (ts us : List Int) (n m ca cb : Nat) (w : World) (hn : Hid (ts.length = n)) (hm : Hid (us.length = m)) (ha : RI w a ts) (hb : RI w b us) (hmax : n ≤ maxLen) :
    Calls Try.prog 97 #[.slice a n ca, .slice b m cb] w fun e w' => e = .returned (.bool (ts == us)) ∧ Below w.heap.size w w' := by
  unfold maxLen at hmax
  by_cases hl : n = m
  · subst hl
    have HLE : Hid (ts.length = us.length) := hn.out.trans hm.out.symm
    by_cases hz : n = 0
    · have HZ := Lib.hid hz
      have HR : Hid ((ts == us) = true) := ints_ext ts us HLE.out (fun i h1 _ => by rw [hn.out, HZ.out] at h1; omega)
      clear hz
      go_enter Try.func97, Try.ntmps97
      go_wp2
      go_loop [13] (fun i => ∃ k : Nat, k ≤ n ∧ i = .int .i64 k) (fun _ => 0)
      case atStart => exact ⟨0, by omega, rfl⟩
      case round =>
        obtain ⟨k, hk, rfl⟩ := hrel
        have hlt : ¬ k < n := by rw [HZ.out]; omega
        go_wp2
        go_ret
        exact ⟨ret_bool HR.out.symm, Below.refl _ _⟩
    · obtain ⟨ba, oa, rfl, hba, hca⟩ := ha.addr (by rw [hn.out]; omega)
      obtain ⟨bb, ob, rfl, hbb, hcb⟩ := hb.addr (by rw [hm.out]; omega)
      have HCA := Lib.hid hca
      have HCB := Lib.hid hcb
      clear hca hcb ha hb
      go_enter Try.func97, Try.ntmps97
      go_wp2
      go_loopw [13] (fun i wr => ∃ k : Nat, k ≤ n ∧ i = .int .i64 k ∧ Below w.heap.size w wr ∧ ∀ j (h1 : j < ts.length) (h2 : j < us.length), j < k → ts[j] = us[j]) (fun i _ => n - (intOf i).toNat)
      case atStart => exact ⟨0, by omega, rfl, Below.refl _ _, fun j _ _ hj => by omega⟩
      case round =>
        obtain ⟨k, hk, rfl, hbel, hall⟩ := hrel
        have HALL := Lib.hid hall
        clear hall
        by_cases hlt : k < n
        · have hka : k < ts.length := by rw [hn.out]; exact hlt
          have hkb : k < us.length := by rw [hm.out]; exact hlt
          have x1 := HCA.out k hka
          have y1 := HCB.out k hkb
          generalize hT : ts[k] = t at x1
          generalize hU : us[k] = u at y1
          have HT := Lib.hid hT
          have HU := Lib.hid hU
          clear hT hU
          rw [← hbel.cell (p := ⟨_, _, none⟩) hba] at x1
          rw [← hbel.cell (p := ⟨_, _, none⟩) hbb] at y1
          have hk0 : (0 : Int) ≤ (k : Int) := by omega
          have hk1 : (k : Int) < (n : Int) := by omega
          rcases eq_ways t u with ⟨⟨e1, e2⟩, e3⟩ | ⟨⟨e1, e2⟩, e3⟩
          · have E3 := Lib.hid e3
            clear e3
            go_wp2
            go_region_held3 (fun w' => w'.cell? ⟨ba, oa + k, none⟩ = some (.int .i64 t) ∧ w'.cell? ⟨bb, ob + k, none⟩ = some (.int .i64 u)) (exact ⟨x1, y1⟩) (fail)
            go_wp2
            go_roundw
            case rel => exact ⟨k + 1, by omega, by go_num, hbel.drew, fun j h1 h2 hj => if e : j = k then (by subst e; rw [HT.out, HU.out]; exact E3.out) else HALL.out j h1 h2 (by omega)⟩
            case measure => simp [intOf]; omega
          · have HR : Hid ((ts == us) = false) := ints_bad ts us k hka hkb (by rw [HT.out, HU.out]; exact e3)
            clear e3
            go_wp2
            go_region_held3 (fun w' => w'.cell? ⟨ba, oa + k, none⟩ = some (.int .i64 t) ∧ w'.cell? ⟨bb, ob + k, none⟩ = some (.int .i64 u)) (exact ⟨x1, y1⟩) (fail)
            go_wp2
            go_ret
            exact ⟨ret_bool HR.out.symm, hbel.drew⟩
        · have HR : Hid ((ts == us) = true) := ints_ext ts us HLE.out (fun i h1 h2 => HALL.out i h1 h2 (by rw [hn.out] at h1; omega))
          go_wp2
          go_ret
          exact ⟨ret_bool HR.out.symm, hbel⟩
  · have HR : Hid ((ts == us) = false) := ints_len ts us (by rw [hn.out, hm.out]; exact hl)
    have hne : ((n : Int) != (m : Int)) = true := by rw [bne_iff_ne]; omega
    go_enter Try.func97, Try.ntmps97
    go_wp2
    go_ret
    exact ⟨ret_bool HR.out.symm, Below.refl _ _⟩


set_option maxHeartbeats 1000000 in
theorem slicesEqualC_any (a b : Option Addr) (ts us : List TChange) (n m ca cb : Nat) (w : World) (hn : Hid (ts.length = n)) (hm : Hid (us.length = m)) (ha : RR 3 cChange w a ts) (hb : RR 3 cChange w b us) (hmax : n ≤ 1048576) :
    Calls Try.prog 98 #[.slice a n ca, .slice b m cb] w fun e w' => e = .returned (.bool (ts == us)) ∧ Below w.heap.size w w' := by
  by_cases hl : n = m
  · subst hl
    have HLE : Hid (ts.length = us.length) := hn.out.trans hm.out.symm
    have HCA := Lib.hid ha
    have HCB := Lib.hid hb
    clear ha hb
    go_enter Try.func98, Try.ntmps98
    go_wp2
    go_loopw [13] (fun i wr => ∃ k : Nat, k ≤ n ∧ i = .int .i64 k ∧ Below w.heap.size w wr ∧ ∀ j (h1 : j < ts.length) (h2 : j < us.length), j < k → (ts[j] == us[j]) = true) (fun i _ => n - (intOf i).toNat)
    case atStart => exact ⟨0, by omega, rfl, Below.refl _ _, fun j _ _ hj => by omega⟩
    case round =>
      obtain ⟨k, hk, rfl, hbel, hall⟩ := hrel
      have HALL := Lib.hid hall
      clear hall
      by_cases hlt : k < n
      · have hka : k < ts.length := by rw [hn.out]; exact hlt
        have hkb : k < us.length := by rw [hm.out]; exact hlt
        obtain ⟨ba, oa, rfl, hba, hca⟩ := HCA.out.at_ k hka
        obtain ⟨bb, ob, rfl, hbb, hcb⟩ := HCB.out.at_ k hkb
        have x1 := hca 0 _ rfl
        have x2 := hca 1 _ rfl
        have x3 := hca 2 _ rfl
        have y1 := hcb 0 _ rfl
        have y2 := hcb 1 _ rfl
        have y3 := hcb 2 _ rfl
        simp only [Nat.add_zero] at x1 y1
        clear hca hcb
        generalize hT : ts[k] = t at x1 x2 x3
        generalize hU : us[k] = u at y1 y2 y3
        have HT := Lib.hid hT
        have HU := Lib.hid hU
        clear hT hU
        rw [← hbel.cell (p := ⟨_, _, none⟩) hba] at x1 x2 x3
        rw [← hbel.cell (p := ⟨_, _, none⟩) hbb] at y1 y2 y3
        have hk0 : (0 : Int) ≤ (k : Int) := by omega
        have hk1 : (k : Int) < (n : Int) := by omega
        have hba' : ba < wr.heap.size := by have := hbel.size; omega
        have hbb' : bb < wr.heap.size := by have := hbel.size; omega
        cases htu : (t == u) with
        | true =>
          have htn : (!(t == u)) = false := by rw [htu]; rfl
          go_wp2
          go_region_held3 (fun w' => w'.cell? ⟨ba, oa + k * 3, none⟩ = some (.int .i64 t.1) ∧ w'.cell? ⟨ba, oa + k * 3 + 1, none⟩ = some (.int .i64 t.2.1) ∧ w'.cell? ⟨ba, oa + k * 3 + 2, none⟩ = some (.int .i64 t.2.2) ∧ w'.cell? ⟨bb, ob + k * 3, none⟩ = some (.int .i64 u.1) ∧ w'.cell? ⟨bb, ob + k * 3 + 1, none⟩ = some (.int .i64 u.2.1) ∧ w'.cell? ⟨bb, ob + k * 3 + 2, none⟩ = some (.int .i64 u.2.2)) (exact ⟨x1, x2, x3, y1, y2, y3⟩) (fail)
          have hbel' := hbel.drew
          go_wp2
          go_roundw
          case rel => exact ⟨k + 1, by omega, by go_num, hbel', fun j h1 h2 hj => if e : j = k then (by subst e; rw [HT.out, HU.out]; exact htu) else HALL.out j h1 h2 (by omega)⟩
          case measure => simp [intOf]; omega
        | false =>
          have HR : Hid ((ts == us) = false) := eqL_bad ts us k hka hkb (by rw [HT.out, HU.out]; exact htu)
          go_wp2
          go_region_held3 (fun w' => w'.cell? ⟨ba, oa + k * 3, none⟩ = some (.int .i64 t.1) ∧ w'.cell? ⟨ba, oa + k * 3 + 1, none⟩ = some (.int .i64 t.2.1) ∧ w'.cell? ⟨ba, oa + k * 3 + 2, none⟩ = some (.int .i64 t.2.2) ∧ w'.cell? ⟨bb, ob + k * 3, none⟩ = some (.int .i64 u.1) ∧ w'.cell? ⟨bb, ob + k * 3 + 1, none⟩ = some (.int .i64 u.2.1) ∧ w'.cell? ⟨bb, ob + k * 3 + 2, none⟩ = some (.int .i64 u.2.2)) (exact ⟨x1, x2, x3, y1, y2, y3⟩) (fail)
          have hbel' := hbel.drew
          go_wp2
          go_ret
          exact ⟨ret_bool HR.out.symm, hbel'⟩
      · have HR : Hid ((ts == us) = true) := eqL_ext ts us HLE.out (fun i h1 h2 => HALL.out i h1 h2 (by rw [hn.out] at h1; omega))
        go_wp2
        go_ret
        exact ⟨ret_bool HR.out.symm, hbel⟩
  · have HR : Hid ((ts == us) = false) := eqL_len ts us (by rw [hn.out, hm.out]; exact hl)
    have hne : ((n : Int) != (m : Int)) = true := by rw [bne_iff_ne]; omega
    go_enter Try.func98, Try.ntmps98
    go_wp2
    go_ret
    exact ⟨ret_bool HR.out.symm, Below.refl _ _⟩


theorem eqZ_parts (z1 z2 : Int) (l1 l2 : List Int) (r1 r2 : List TChange) : (((z1, l1, r1) : TZoned) == (z2, l2, r2)) = ((z1 == z2) && ((l1 == l2) && (r1 == r2))) := rfl
set_option maxHeartbeats 2000000 in
theorem implSameZoned_any (w : World) {a b : Option Addr} {n c m d : Nat} (t : TZoned) (hn : Hid (t.2.1.length = n)) (ha : RI w a t.2.1) (hs : n ≤ 1048576) (hm : Hid (t.2.2.length = m)) (hb : RR 3 cChange w b t.2.2) (hs2 : m ≤ 1048576) (_wf : Hid (wfZoned t))
    {a' b' : Option Addr} {n' c' m' d' : Nat} (u : TZoned) (hn' : Hid (u.2.1.length = n')) (ha' : RI w a' u.2.1) (_hs' : n' ≤ 1048576) (hm' : Hid (u.2.2.length = m')) (hb' : RR 3 cChange w b' u.2.2) (_hs2' : m' ≤ 1048576) (_wf' : Hid (wfZoned u)) :
    Calls Try.prog 40 #[.agg #[.int .i64 t.1, .slice a n c, .slice b m d], .agg #[.int .i64 u.1, .slice a' n' c', .slice b' m' d']] w fun e w' => e = .returned (.bool (t == u)) ∧ Below w.heap.size w w' := by
  obtain ⟨z1, l1, r1⟩ := t
  obtain ⟨z2, l2, r2⟩ := u
  have CE : Hid (∀ W, Below w.heap.size w W → Calls Try.prog 97 #[.slice a n c, .slice a' n' c'] W fun e w' => e = .returned (.bool (l1 == l2)) ∧ Below W.heap.size W w') := fun W h => sliceEq_any a a' l1 l2 n n' c c' W hn hn' (ha.below h) (ha'.below h) (by unfold maxLen; omega)
  have CF : Hid (∀ W, Below w.heap.size w W → Calls Try.prog 98 #[.slice b m d, .slice b' m' d'] W fun e w' => e = .returned (.bool (r1 == r2)) ∧ Below W.heap.size W w') := fun W h => slicesEqualC_any b b' r1 r2 m m' d d' W hm hm' (hb.below h) (hb'.below h) hs2
  have EZ := Lib.hid (eqZ_parts z1 z2 l1 l2 r1 r2)
  clear hn hn' hm hm' ha ha' hb hb'
  dsimp only
  rcases eq_ways z1 z2 with ⟨⟨a1, b1⟩, e1⟩ | ⟨⟨a1, b1⟩, e1⟩
  · clear e1
    cases hl : (l1 == l2) with
    | false =>
      have HR : Hid ((((z1, l1, r1) : TZoned) == (z2, l2, r2)) = false) := by unfold Hid; rw [EZ.out, hl, a1]; rfl
      rw [hl] at CE
      clear hl EZ
      go_enter Try.func40, Try.ntmps40
      go_wp2_with fail
      refine (CE.out _ (by repeat (first | exact Below.refl _ _ | refine Below.alloc ?_ (by simp; try omega) _ | refine Below.setCell ?_ (by simp; try omega) _))).mono ?_
      rintro e w1 ⟨rfl, hb1⟩
      have HB1 : Hid (Below w.heap.size w w1) := Below.trans (by repeat (first | exact Below.refl _ _ | refine Below.alloc ?_ (by simp; try omega) _ | refine Below.setCell ?_ (by simp; try omega) _)) (hb1.mono (by simp; try omega))
      go_wp2
      go_ret
      exact ⟨ret_bool HR.out.symm, HB1.out⟩
    | true =>
      have HR : Hid ((((z1, l1, r1) : TZoned) == (z2, l2, r2)) = (r1 == r2)) := by unfold Hid; rw [EZ.out, hl, a1]; rfl
      rw [hl] at CE
      clear hl EZ
      go_enter Try.func40, Try.ntmps40
      go_wp2_with fail
      refine (CE.out _ (by repeat (first | exact Below.refl _ _ | refine Below.alloc ?_ (by simp; try omega) _ | refine Below.setCell ?_ (by simp; try omega) _))).mono ?_
      rintro e w1 ⟨rfl, hb1⟩
      obtain ⟨hc, hf⟩ := bcell hb1
      have hsz := hb1.size
      simp at hsz
      have HB1 : Hid (Below w.heap.size w w1) := Below.trans (by repeat (first | exact Below.refl _ _ | refine Below.alloc ?_ (by simp; try omega) _ | refine Below.setCell ?_ (by simp; try omega) _)) (hb1.mono (by simp; try omega))
      have hlt0 : w.heap.size < w1.heap.size := by omega
      have hlt1 : w.heap.size + 1 < w1.heap.size := by omega
      go_wp2_with fail
      refine (CF.out _ HB1.out).mono ?_
      rintro e w2 ⟨rfl, hb2⟩
      have HB2 : Hid (Below w.heap.size w w2) := Below.trans HB1.out (hb2.mono HB1.out.size)
      go_wp2
      go_ret
      exact ⟨ret_bool (by rw [HR.out]), HB2.out⟩
  · have HR : Hid ((((z1, l1, r1) : TZoned) == (z2, l2, r2)) = false) := by unfold Hid; rw [EZ.out, a1]; rfl
    clear e1 EZ
    go_enter Try.func40, Try.ntmps40
    go_wp2
    go_ret
    exact ⟨ret_bool HR.out.symm, (by repeat (first | exact Below.refl _ _ | refine Below.alloc ?_ (by simp; try omega) _ | refine Below.setCell ?_ (by simp; try omega) _))⟩
set_option maxRecDepth 20000 in
set_option maxHeartbeats 4000000 in
theorem specSameZoned_any (w : World) {a b : Option Addr} {n c m d : Nat} (t : TZoned) (hn : Hid (t.2.1.length = n)) (ha : RI w a t.2.1) (hs : n ≤ 1048576) (hm : Hid (t.2.2.length = m)) (hb : RR 3 cChange w b t.2.2) (hs2 : m ≤ 1048576) (_wf : Hid (wfZoned t))
    {a' b' : Option Addr} {n' c' m' d' : Nat} (u : TZoned) (hn' : Hid (u.2.1.length = n')) (ha' : RI w a' u.2.1) (_hs' : n' ≤ 1048576) (hm' : Hid (u.2.2.length = m')) (hb' : RR 3 cChange w b' u.2.2) (_hs2' : m' ≤ 1048576) (_wf' : Hid (wfZoned u)) :
    Calls Try.prog 39 #[.agg #[.int .i64 t.1, .slice a n c, .slice b m d], .agg #[.int .i64 u.1, .slice a' n' c', .slice b' m' d']] w fun e w' => e = .returned (.bool (t == u)) ∧ Below w.heap.size w w' := by
  obtain ⟨z1, l1, ts⟩ := t
  obtain ⟨z2, l2, us⟩ := u
  have CE : Hid (∀ W, Below w.heap.size w W → Calls Try.prog 96 #[.slice a n c, .slice a' n' c'] W fun e w' => e = .returned (.bool (l1 == l2)) ∧ Below W.heap.size W w') := fun W h => l00Same_any a a' l1 l2 n n' c c' W hn hn' (ha.below h) (ha'.below h) (by unfold maxLen; omega)
  have HCA : Hid (∀ W, Below w.heap.size w W → RR 3 cChange W b ts) := fun W h => hb.below h
  have HCB : Hid (∀ W, Below w.heap.size w W → RR 3 cChange W b' us) := fun W h => hb'.below h
  have EZ := Lib.hid (eqZ_parts z1 z2 l1 l2 ts us)
  clear hn hn' ha ha' hb hb'
  dsimp only at hm hm' ⊢
  rcases eq_ways z1 z2 with ⟨⟨a1, b1⟩, e1⟩ | ⟨⟨a1, b1⟩, e1⟩
  · clear e1
    cases hl : (l1 == l2) with
    | false =>
      have HR : Hid ((((z1, l1, ts) : TZoned) == (z2, l2, us)) = false) := by unfold Hid; rw [EZ.out, hl, a1]; rfl
      rw [hl] at CE
      clear hl EZ
      go_enter Try.func39, Try.ntmps39
      go_wp2_with fail
      refine (CE.out _ (by repeat (first | exact Below.refl _ _ | refine Below.alloc ?_ (by simp; try omega) _ | refine Below.setCell ?_ (by simp; try omega) _))).mono ?_
      rintro e w1 ⟨rfl, hb1⟩
      have HB1 : Hid (Below w.heap.size w w1) := Below.trans (by repeat (first | exact Below.refl _ _ | refine Below.alloc ?_ (by simp; try omega) _ | refine Below.setCell ?_ (by simp; try omega) _)) (hb1.mono (by simp; try omega))
      go_wp2
      go_ret
      exact ⟨ret_bool HR.out.symm, HB1.out⟩
    | true =>
      have HQ : Hid ((((z1, l1, ts) : TZoned) == (z2, l2, us)) = (ts == us)) := by unfold Hid; rw [EZ.out, hl, a1]; rfl
      rw [hl] at CE
      clear hl EZ
      by_cases hmm : m = m'
      · subst hmm
        have X0 : Hid (∀ w', Below ((w.alloc (.cells #[.int .i64 z1, .slice a n c, .slice b m d] 27)).alloc (.cells #[.int .i64 z2, .slice a' n' c', .slice b' m d'] 27)).heap.size ((w.alloc (.cells #[.int .i64 z1, .slice a n c, .slice b m d] 27)).alloc (.cells #[.int .i64 z2, .slice a' n' c', .slice b' m d'] 27)) w' → w'.cell? ⟨w.heap.size, 2, none⟩ = some (.slice b m d) ∧ w'.cell? ⟨w.heap.size + 1, 2, none⟩ = some (.slice b' m d')) := fun w' h => ⟨keepS h (by simp [go_sem]), keepS h (by simp [go_sem])⟩
        go_enter Try.func39, Try.ntmps39
        go_wp2_with fail
        refine (CE.out _ (by repeat (first | exact Below.refl _ _ | refine Below.alloc ?_ (by simp; try omega) _ | refine Below.setCell ?_ (by simp; try omega) _))).mono ?_
        rintro e w1 ⟨rfl, hb1⟩
        have HB1 : Hid (Below w.heap.size w w1) := Below.trans (by repeat (first | exact Below.refl _ _ | refine Below.alloc ?_ (by simp; try omega) _ | refine Below.setCell ?_ (by simp; try omega) _)) (hb1.mono (by simp; try omega))
        have X1 : Hid (∀ w', Below w1.heap.size w1 w' → w'.cell? ⟨w.heap.size, 2, none⟩ = some (.slice b m d) ∧ w'.cell? ⟨w.heap.size + 1, 2, none⟩ = some (.slice b' m d')) := fun w' h => X0.out _ (hb1.trans (h.mono hb1.size))
        have hw1 := HB1.out.size
        obtain ⟨p0, p1⟩ := X1.out _ (Below.refl _ _)
        clear hb1 X0
        go_wp2
        clear p0 p1
        go_loopw [5] (fun i wr => ∃ k : Nat, k ≤ m ∧ i = .int .i64 k ∧ Hid (Below w1.heap.size w1 wr) ∧ Hid (∀ j (h1 : j < ts.length) (h2 : j < us.length), j < k → (ts[j] == us[j]) = true)) (fun i _ => m - (intOf i).toNat)
        case atStart => exact ⟨0, by omega, rfl, Below.refl _ _, fun j _ _ hj => by omega⟩
        case round =>
          obtain ⟨k, hk, rfl, HBEL, HALL⟩ := hrel
          have HBW : Hid (Below w.heap.size w wr) := HB1.out.trans (HBEL.out.mono hw1)
          obtain ⟨p0, p1⟩ := X1.out _ HBEL.out
          by_cases hlt : k < m
          · have hka : k < ts.length := by rw [hm.out]; exact hlt
            have hkb : k < us.length := by rw [hm'.out]; exact hlt
            have HBAD : Hid ((ts[k] == us[k]) = false → (ts == us) = false) := fun h => eqL_bad ts us k hka hkb h
            have HOK : Hid ((ts[k] == us[k]) = true → ∀ j (h1 : j < ts.length) (h2 : j < us.length), j < k + 1 → (ts[j] == us[j]) = true) := fun ht j h1 h2 hj => if e : j = k then (by subst e; exact ht) else HALL.out j h1 h2 (by omega)
            obtain ⟨ba, oa, rfl, hba, hca⟩ := (HCA.out _ HBW.out).at_ k hka
            obtain ⟨bb, ob, rfl, hbb, hcb⟩ := (HCB.out _ HBW.out).at_ k hkb
            have x1 := hca 0 _ rfl
            have x2 := hca 1 _ rfl
            have x3 := hca 2 _ rfl
            have y1 := hcb 0 _ rfl
            have y2 := hcb 1 _ rfl
            have y3 := hcb 2 _ rfl
            simp only [Nat.add_zero] at x1 y1
            clear hca hcb
            generalize ts[k] = t at x1 x2 x3 HBAD HOK
            generalize us[k] = u at y1 y2 y3 HBAD HOK
            have hk0 : (0 : Int) ≤ (k : Int) := by omega
            have hk1 : (k : Int) < (m : Int) := by omega
            cases htu : (t == u) with
            | true =>
              have htn : (!(t == u)) = false := by rw [htu]; rfl
              have HOK2 := Lib.hid (HOK.out htu)
              clear HOK HBAD
              go_wp2_with fail
              go_region_held3 (fun w' => w'.cell? ⟨w.heap.size, 2, none⟩ = some (.slice (some ⟨ba, oa, none⟩) m d) ∧ w'.cell? ⟨w.heap.size + 1, 2, none⟩ = some (.slice (some ⟨bb, ob, none⟩) m d') ∧ w'.cell? ⟨ba, oa + k * 3, none⟩ = some (.int .i64 t.1) ∧ w'.cell? ⟨ba, oa + k * 3 + 1, none⟩ = some (.int .i64 t.2.1) ∧ w'.cell? ⟨ba, oa + k * 3 + 2, none⟩ = some (.int .i64 t.2.2) ∧ w'.cell? ⟨bb, ob + k * 3, none⟩ = some (.int .i64 u.1) ∧ w'.cell? ⟨bb, ob + k * 3 + 1, none⟩ = some (.int .i64 u.2.1) ∧ w'.cell? ⟨bb, ob + k * 3 + 2, none⟩ = some (.int .i64 u.2.2)) (first | exact ⟨p0, p1, x1, x2, x3, y1, y2, y3⟩) (fail)
              go_wp2
              go_roundw
              case rel => exact ⟨k + 1, by omega, by go_num, HBEL.out.drew, HOK2⟩
              case measure => simp [intOf]; omega
            | false =>
              have htn : (!(t == u)) = true := by rw [htu]; rfl
              have HR := Lib.hid (HBAD.out htu)
              clear HOK HBAD
              go_wp2_with fail
              go_region_held3 (fun w' => w'.cell? ⟨w.heap.size, 2, none⟩ = some (.slice (some ⟨ba, oa, none⟩) m d) ∧ w'.cell? ⟨w.heap.size + 1, 2, none⟩ = some (.slice (some ⟨bb, ob, none⟩) m d') ∧ w'.cell? ⟨ba, oa + k * 3, none⟩ = some (.int .i64 t.1) ∧ w'.cell? ⟨ba, oa + k * 3 + 1, none⟩ = some (.int .i64 t.2.1) ∧ w'.cell? ⟨ba, oa + k * 3 + 2, none⟩ = some (.int .i64 t.2.2) ∧ w'.cell? ⟨bb, ob + k * 3, none⟩ = some (.int .i64 u.1) ∧ w'.cell? ⟨bb, ob + k * 3 + 1, none⟩ = some (.int .i64 u.2.1) ∧ w'.cell? ⟨bb, ob + k * 3 + 2, none⟩ = some (.int .i64 u.2.2)) (first | exact ⟨p0, p1, x1, x2, x3, y1, y2, y3⟩) (fail)
              go_wp2
              go_ret
              exact ⟨ret_bool (by rw [HQ.out, HR.out]), HBW.out.drew⟩
          · have HR : Hid ((ts == us) = true) := eqL_ext ts us (hm.out.trans hm'.out.symm) (fun i h1 h2 => HALL.out i h1 h2 (by rw [hm.out] at h1; omega))
            go_wp2
            go_ret
            exact ⟨ret_bool (by rw [HQ.out, HR.out]), HBW.out⟩
      · have HR : Hid ((ts == us) = false) := eqL_len ts us (by rw [hm.out, hm'.out]; exact hmm)
        have hne : ((m : Int) != (m' : Int)) = true := by rw [bne_iff_ne]; omega
        go_enter Try.func39, Try.ntmps39
        go_wp2_with fail
        refine (CE.out _ (by repeat (first | exact Below.refl _ _ | refine Below.alloc ?_ (by simp; try omega) _ | refine Below.setCell ?_ (by simp; try omega) _))).mono ?_
        rintro e w1 ⟨rfl, hb1⟩
        obtain ⟨hc, hf⟩ := bcell hb1
        have hsz := hb1.size
        simp at hsz
        have HB1 : Hid (Below w.heap.size w w1) := Below.trans (by repeat (first | exact Below.refl _ _ | refine Below.alloc ?_ (by simp; try omega) _ | refine Below.setCell ?_ (by simp; try omega) _)) (hb1.mono (by simp; try omega))
        have hlt0 : w.heap.size < w1.heap.size := by omega
        have hlt1 : w.heap.size + 1 < w1.heap.size := by omega
        go_wp2
        go_ret
        exact ⟨ret_bool (by rw [HQ.out, HR.out]), HB1.out⟩
  · have HR : Hid ((((z1, l1, ts) : TZoned) == (z2, l2, us)) = false) := by unfold Hid; rw [EZ.out, a1]; rfl
    clear e1 EZ
    go_enter Try.func39, Try.ntmps39
    go_wp2
    go_ret
    exact ⟨ret_bool HR.out.symm, (by repeat (first | exact Below.refl _ _ | refine Below.alloc ?_ (by simp; try omega) _ | refine Below.setCell ?_ (by simp; try omega) _))⟩
end Go.Proofs.Ytfejgckimlgopaa
