/-
  Times, ways and runs: when they are valid; the walks of the tests, the model's and the program's.
-/
import Derived.Test.YtgjbahnloladfaaRunNest
import Derived.Test.YtgjbahnloladfaaIn
namespace Go.Proofs.Ytgjbahnloladfaa
open Go.RowKit

theorem RI.at_ {w : World} {a : Option Addr} {l : List Int} (h : RI w a l) (k : Nat) (hk : k < l.length) : ∃ b off, a = some ⟨b, off, none⟩ ∧ b < w.heap.size ∧ w.cell? ⟨b, off + k, none⟩ = some (.int .i64 l[k]) := by
  rcases h with rfl | ⟨b, off, ha, h⟩
  · simp at hk
  · exact ⟨b, off, ha, World.block_lt_of_cell? w _ (h k hk), h k hk⟩
theorem RN.at_ {β : Type} {M k : Nat} {c : Value → β → List Value} {w : World} {a : Option Addr} {ts : List (List Int × β)} (h : RN M k c w a ts) (i : Nat) (hi : i < ts.length) :
    ∃ b off ai ci, a = some ⟨b, off, none⟩ ∧ b < w.heap.size ∧ RI w ai ts[i].1 ∧ ts[i].1.length ≤ M ∧ ∀ (j : Nat) (v : Value), (c (.slice ai ts[i].1.length ci) ts[i].2)[j]? = some v → w.cell? ⟨b, off + i * k + j, none⟩ = some v := by
  obtain ⟨b, off, ha, hb, hc⟩ := h.addr (by omega)
  obtain ⟨ai, ci, h1, h2, h3⟩ := hc i hi
  exact ⟨b, off, ai, ci, ha, hb, h1, h2, h3⟩
theorem all_no {α : Type} {f : α → Bool} {l : List α} (k : Nat) (hk : k < l.length) (h : f l[k] = false) : l.all f = false := by
  rw [List.all_eq_false]
  exact ⟨l[k], List.getElem_mem hk, by simp [h]⟩
theorem all_yes {α : Type} {f : α → Bool} {l : List α} (h : ∀ k (hk : k < l.length), f l[k] = true) : l.all f = true := by
  rw [List.all_eq_true]
  intro c hc
  obtain ⟨k, hk, rfl⟩ := List.getElem_of_mem hc
  exact h k hk

def tmB (l : List Int) : Bool := inB (l.length : Int) 1 24 && l.all (fun t => inB t 1 1000)
def wyB (m : Int) (way : List Int) : Bool := inB (way.length : Int) 1 12 && way.all (fun t => inB t 0 (m - 1))
def rnB (m : Int) (t : TRun) : Bool := inB t.2 0 100000 && wyB m t.1
def rsB (l : List Int) (ts : List TRun) : Bool := tmB l && (decide (ts.length ≤ 12) && ts.all (rnB (l.length : Int)))

theorem isWithin_any (x lo hi : Int) (w : World) : Calls Try.prog 54 #[.int .i64 x, .int .i64 lo, .int .i64 hi] w fun e w' => e = .returned (.bool (inB x lo hi)) ∧ w = w' := by
  by_cases a : lo ≤ x <;> by_cases b : x ≤ hi
  all_goals
    go_enter Try.func54, Try.ntmps54
    go_wp2
    go_ret
    exact ⟨ret_bool (by simp [inB, *]), rfl⟩

theorem l06Times_any (a : Option Addr) (l : List Int) (n ca : Nat) (w : World) (hn : Hid (l.length = n)) (ha : RI w a l) (hmax : n ≤ 1048576) :
    Calls Try.prog 53 #[.slice a n ca] w fun e w' => e = .returned (.bool (tmB l)) ∧ w = w' := by
  have HA := Lib.hid ha
  clear ha
  go_enter Try.func53, Try.ntmps53
  go_wp2
  go_loop [3] (fun i => ∃ k : Nat, k ≤ n ∧ i = .int .i64 k ∧ ∀ j (h : j < l.length), j < k → inB l[j] 1 1000 = true) (fun i => n - (intOf i).toNat)
  case atStart => exact ⟨0, by omega, rfl, fun j _ hj => by omega⟩
  case round =>
    obtain ⟨k, hk, rfl, hall⟩ := hrel
    have HALL := Lib.hid hall
    clear hall
    by_cases hlt : k < n
    · have hka : k < l.length := by rw [hn.out]; exact hlt
      have HBAD : Hid (inB l[k] 1 1000 = false → tmB l = false) := fun h => by unfold tmB; rw [all_no (f := fun t => inB t 1 1000) k hka h]; simp
      have HOK : Hid (inB l[k] 1 1000 = true → ∀ j (h : j < l.length), j < k + 1 → inB l[j] 1 1000 = true) := fun ht j h hj => if e : j = k then (by subst e; exact ht) else HALL.out j h (by omega)
      obtain ⟨b, off, rfl, _, x1⟩ := HA.out.at_ k hka
      generalize l[k] = t at x1 HBAD HOK
      have hk0 : (0 : Int) ≤ (k : Int) := by omega
      have hk1 : (k : Int) < (n : Int) := by omega
      cases ht : inB t 1 1000 with
      | true =>
        have HOK2 := Lib.hid (HOK.out ht)
        clear HOK HBAD
        go_wp2_with (go_at_call 63; refine (l00In_any _ _ _ _).mono ?_; rintro e w' ⟨rfl, rfl⟩)
        go_round
        case rel => exact ⟨k + 1, by omega, by go_num, HOK2.out⟩
        case measure => simp [intOf]; omega
      | false =>
        have HR := Lib.hid (HBAD.out ht)
        clear HOK HBAD
        go_wp2_with (go_at_call 63; refine (l00In_any _ _ _ _).mono ?_; rintro e w' ⟨rfl, rfl⟩)
        go_ret
        exact ⟨ret_bool HR.out.symm, rfl⟩
    · have HR : Hid (tmB l = inB (n : Int) 1 24) := by
        unfold Hid tmB
        rw [hn.out, all_yes (fun j hj => HALL.out j hj (by rw [hn.out] at hj; omega)), Bool.and_true]
      go_wp2_with (go_at_call 63; refine (l00In_any _ _ _ _).mono ?_; rintro e w' ⟨rfl, rfl⟩)
      go_ret
      exact ⟨ret_bool HR.out.symm, rfl⟩

theorem specValidTimes_any (w : World) {a0 : Option Addr} {n0 c0 : Nat} (l0 : List Int) (hn0 : Hid (l0.length = n0)) (h0 : RI w a0 l0) (hs0 : n0 ≤ 1048576) (_wf0 : Hid (∀ k ∈ l0, (Lit.int .i64 k).wf = true)) :
    Calls Try.prog 18 #[.slice a0 n0 c0] w fun e w' => e = .returned (.bool (tmB l0)) ∧ Below w.heap.size w w' := by
  go_enter Try.func18, Try.ntmps18
  go_wp2_with (go_at_call 53; refine (l06Times_any a0 l0 n0 c0 _ hn0 h0 hs0).mono ?_; rintro e w' ⟨rfl, rfl⟩)
  go_ret
  exact ⟨rfl, Below.refl _ _⟩

theorem valTimes_any (a : Option Addr) (l : List Int) (n ca : Nat) (w : World) (hn : Hid (l.length = n)) (ha : RI w a l) (hmax : n ≤ 1048576) :
    Calls Try.prog 20 #[.slice a n ca] w fun e w' => e = .returned (.bool (tmB l)) ∧ w = w' := by
  have HA := Lib.hid ha
  clear ha
  by_cases h1 : n < 1
  · have HR : Hid (tmB l = false) := by unfold Hid tmB inB; rw [hn.out]; simp; omega
    go_enter Try.func20, Try.ntmps20
    go_wp2
    go_ret
    exact ⟨ret_bool HR.out.symm, rfl⟩
  by_cases h2 : 24 < n
  · have HR : Hid (tmB l = false) := by unfold Hid tmB inB; rw [hn.out]; simp; omega
    go_enter Try.func20, Try.ntmps20
    go_wp2
    go_ret
    exact ⟨ret_bool HR.out.symm, rfl⟩
  go_enter Try.func20, Try.ntmps20
  go_wp2
  go_loop [15] (fun i => ∃ k : Nat, k ≤ n ∧ i = .int .i64 k ∧ ∀ j (h : j < l.length), j < k → inB l[j] 1 1000 = true) (fun i => n - (intOf i).toNat)
  case atStart => exact ⟨0, by omega, rfl, fun j _ hj => by omega⟩
  case round =>
    obtain ⟨k, hk, rfl, hall⟩ := hrel
    have HALL := Lib.hid hall
    clear hall
    by_cases hlt : k < n
    · have hka : k < l.length := by rw [hn.out]; exact hlt
      have HBAD : Hid (inB l[k] 1 1000 = false → tmB l = false) := fun h => by unfold tmB; rw [all_no (f := fun t => inB t 1 1000) k hka h]; simp
      have HOK : Hid (inB l[k] 1 1000 = true → ∀ j (h : j < l.length), j < k + 1 → inB l[j] 1 1000 = true) := fun ht j h hj => if e : j = k then (by subst e; exact ht) else HALL.out j h (by omega)
      obtain ⟨b, off, rfl, _, x1⟩ := HA.out.at_ k hka
      generalize l[k] = t at x1 HBAD HOK
      have hk0 : (0 : Int) ≤ (k : Int) := by omega
      have hk1 : (k : Int) < (n : Int) := by omega
      cases ht : inB t 1 1000 with
      | true =>
        have HOK2 := Lib.hid (HOK.out ht)
        clear HOK HBAD
        go_wp2_with (go_at_call 54; refine (isWithin_any _ _ _ _).mono ?_; rintro e w' ⟨rfl, rfl⟩)
        go_round
        case rel => exact ⟨k + 1, by omega, by go_num, HOK2.out⟩
        case measure => simp [intOf]; omega
      | false =>
        have HR := Lib.hid (HBAD.out ht)
        clear HOK HBAD
        go_wp2_with (go_at_call 54; refine (isWithin_any _ _ _ _).mono ?_; rintro e w' ⟨rfl, rfl⟩)
        go_ret
        exact ⟨ret_bool HR.out.symm, rfl⟩
    · have HR : Hid (tmB l = true) := by
        unfold Hid tmB inB
        rw [hn.out, all_yes (fun j hj => HALL.out j hj (by rw [hn.out] at hj; omega)), Bool.and_true]
        simp; omega
      go_wp2
      go_ret
      exact ⟨ret_bool HR.out.symm, rfl⟩

theorem implValidTimes_any (w : World) {a0 : Option Addr} {n0 c0 : Nat} (l0 : List Int) (hn0 : Hid (l0.length = n0)) (h0 : RI w a0 l0) (hs0 : n0 ≤ 1048576) (_wf0 : Hid (∀ k ∈ l0, (Lit.int .i64 k).wf = true)) :
    Calls Try.prog 20 #[.slice a0 n0 c0] w fun e w' => e = .returned (.bool (tmB l0)) ∧ Below w.heap.size w w' :=
  (valTimes_any a0 l0 n0 c0 w hn0 h0 hs0).mono fun _ _ ⟨h1, h2⟩ => ⟨h1, h2 ▸ Below.refl _ _⟩

theorem l06Way_any (a b : Option Addr) (way : List Int) (n ca m cb : Nat) (w : World) (hmaxn : n ≤ 1048576) (hm : Hid (way.length = m)) (hb : RI w b way) (hmax : m ≤ 1048576) :
    Calls Try.prog 72 #[.slice a n ca, .slice b m cb] w fun e w' => e = .returned (.bool (wyB n way)) ∧ w = w' := by
  have HA := Lib.hid hb
  clear hb
  go_enter Try.func72, Try.ntmps72
  go_wp2
  go_loop [5] (fun i => ∃ k : Nat, k ≤ m ∧ i = .int .i64 k ∧ ∀ j (h : j < way.length), j < k → inB way[j] 0 ((n : Int) - 1) = true) (fun i => m - (intOf i).toNat)
  case atStart => exact ⟨0, by omega, rfl, fun j _ hj => by omega⟩
  case round =>
    obtain ⟨k, hk, rfl, hall⟩ := hrel
    have HALL := Lib.hid hall
    clear hall
    by_cases hlt : k < m
    · have hka : k < way.length := by rw [hm.out]; exact hlt
      have HBAD : Hid (inB way[k] 0 ((n : Int) - 1) = false → wyB n way = false) := fun h => by unfold wyB; rw [all_no (f := fun t => inB t 0 ((n : Int) - 1)) k hka h]; simp
      have HOK : Hid (inB way[k] 0 ((n : Int) - 1) = true → ∀ j (h : j < way.length), j < k + 1 → inB way[j] 0 ((n : Int) - 1) = true) := fun ht j h hj => if e : j = k then (by subst e; exact ht) else HALL.out j h (by omega)
      obtain ⟨b, off, rfl, _, x1⟩ := HA.out.at_ k hka
      generalize way[k] = t at x1 HBAD HOK
      have hk0 : (0 : Int) ≤ (k : Int) := by omega
      have hk1 : (k : Int) < (m : Int) := by omega
      cases ht : inB t 0 ((n : Int) - 1) with
      | true =>
        have HOK2 := Lib.hid (HOK.out ht)
        clear HOK HBAD
        go_wp2_with (go_at_call 63; refine (l00In_any _ _ _ _).mono ?_; rintro e w' ⟨rfl, rfl⟩)
        go_round
        case rel => exact ⟨k + 1, by omega, by go_num, HOK2.out⟩
        case measure => simp [intOf]; omega
      | false =>
        have HR := Lib.hid (HBAD.out ht)
        clear HOK HBAD
        go_wp2_with (go_at_call 63; refine (l00In_any _ _ _ _).mono ?_; rintro e w' ⟨rfl, rfl⟩)
        go_ret
        exact ⟨ret_bool HR.out.symm, rfl⟩
    · have HR : Hid (wyB n way = inB (m : Int) 1 12) := by
        unfold Hid wyB
        rw [hm.out, all_yes (fun j hj => HALL.out j hj (by rw [hm.out] at hj; omega)), Bool.and_true]
      go_wp2_with (go_at_call 63; refine (l00In_any _ _ _ _).mono ?_; rintro e w' ⟨rfl, rfl⟩)
      go_ret
      exact ⟨ret_bool HR.out.symm, rfl⟩

theorem isTimed_any (a : Option Addr) (n ca : Nat) (x : Int) (w : World) (hmax : n ≤ 1048576) :
    Calls Try.prog 73 #[.slice a n ca, .int .i64 x] w fun e w' => e = .returned (.bool (inB x 0 ((n : Int) - 1))) ∧ w = w' := by
  go_enter Try.func73, Try.ntmps73
  go_wp2_with (go_at_call 54; refine (isWithin_any _ _ _ _).mono ?_; rintro e w' ⟨rfl, rfl⟩)
  go_ret
  exact ⟨rfl, rfl⟩

theorem isRunWay_any (a b : Option Addr) (way : List Int) (n ca m cb : Nat) (w : World) (hmaxn : n ≤ 1048576) (hm : Hid (way.length = m)) (hb : RI w b way) (hmax : m ≤ 1048576) :
    Calls Try.prog 55 #[.slice a n ca, .slice b m cb] w fun e w' => e = .returned (.bool (wyB n way)) ∧ w = w' := by
  have HA := Lib.hid hb
  clear hb
  by_cases h1 : m < 1
  · have HR : Hid (wyB n way = false) := by unfold Hid wyB inB; rw [hm.out]; simp; omega
    go_enter Try.func55, Try.ntmps55
    go_wp2
    go_ret
    exact ⟨ret_bool HR.out.symm, rfl⟩
  by_cases h2 : 12 < m
  · have HR : Hid (wyB n way = false) := by unfold Hid wyB inB; rw [hm.out]; simp; omega
    go_enter Try.func55, Try.ntmps55
    go_wp2
    go_ret
    exact ⟨ret_bool HR.out.symm, rfl⟩
  go_enter Try.func55, Try.ntmps55
  go_wp2
  go_loop [17] (fun i => ∃ k : Nat, k ≤ m ∧ i = .int .i64 k ∧ ∀ j (h : j < way.length), j < k → inB way[j] 0 ((n : Int) - 1) = true) (fun i => m - (intOf i).toNat)
  case atStart => exact ⟨0, by omega, rfl, fun j _ hj => by omega⟩
  case round =>
    obtain ⟨k, hk, rfl, hall⟩ := hrel
    have HALL := Lib.hid hall
    clear hall
    by_cases hlt : k < m
    · have hka : k < way.length := by rw [hm.out]; exact hlt
      have HBAD : Hid (inB way[k] 0 ((n : Int) - 1) = false → wyB n way = false) := fun h => by unfold wyB; rw [all_no (f := fun t => inB t 0 ((n : Int) - 1)) k hka h]; simp
      have HOK : Hid (inB way[k] 0 ((n : Int) - 1) = true → ∀ j (h : j < way.length), j < k + 1 → inB way[j] 0 ((n : Int) - 1) = true) := fun ht j h hj => if e : j = k then (by subst e; exact ht) else HALL.out j h (by omega)
      obtain ⟨b, off, rfl, _, x1⟩ := HA.out.at_ k hka
      generalize way[k] = t at x1 HBAD HOK
      have hk0 : (0 : Int) ≤ (k : Int) := by omega
      have hk1 : (k : Int) < (m : Int) := by omega
      cases ht : inB t 0 ((n : Int) - 1) with
      | true =>
        have HOK2 := Lib.hid (HOK.out ht)
        clear HOK HBAD
        go_wp2_with (go_at_call 73; refine (isTimed_any _ _ _ _ _ hmaxn).mono ?_; rintro e w' ⟨rfl, rfl⟩)
        go_round
        case rel => exact ⟨k + 1, by omega, by go_num, HOK2.out⟩
        case measure => simp [intOf]; omega
      | false =>
        have HR := Lib.hid (HBAD.out ht)
        clear HOK HBAD
        go_wp2_with (go_at_call 73; refine (isTimed_any _ _ _ _ _ hmaxn).mono ?_; rintro e w' ⟨rfl, rfl⟩)
        go_ret
        exact ⟨ret_bool HR.out.symm, rfl⟩
    · have HR : Hid (wyB n way = true) := by
        unfold Hid wyB inB
        rw [hm.out, all_yes (fun j hj => HALL.out j hj (by rw [hm.out] at hj; omega)), Bool.and_true]
        simp; omega
      go_wp2
      go_ret
      exact ⟨ret_bool HR.out.symm, rfl⟩

theorem l06Start_any (x : Int) (w : World) : Calls Try.prog 64 #[.int .i64 x] w fun e w' => e = .returned (.bool (inB x 0 100000)) ∧ w = w' := by
  go_enter Try.func64, Try.ntmps64
  go_wp2_with (go_at_call 63; refine (l00In_any _ _ _ _).mono ?_; rintro e w' ⟨rfl, rfl⟩)
  go_ret
  exact ⟨rfl, rfl⟩

set_option maxHeartbeats 1000000 in
theorem l06Ok_any (a b : Option Addr) (l : List Int) (ts : List TRun) (n ca m cb : Nat) (w : World) (hn : Hid (l.length = n)) (ha : RI w a l) (hmaxn : n ≤ 1048576) (hm : Hid (ts.length = m)) (hb : RN 1048576 2 cRun w b ts) (hmax : m ≤ 1048576) :
    Calls Try.prog 51 #[.slice a n ca, .slice b m cb] w fun e w' => e = .returned (.bool (rsB l ts)) ∧ w = w' := by
  have HA := Lib.hid ha
  have HB := Lib.hid hb
  clear ha hb
  go_enter Try.func51, Try.ntmps51
  go_wp2
  go_loop [5] (fun i => ∃ k : Nat, k ≤ m ∧ i = .int .i64 k ∧ ∀ j (h : j < ts.length), j < k → rnB n ts[j] = true) (fun i => m - (intOf i).toNat)
  case atStart => exact ⟨0, by omega, rfl, fun j _ hj => by omega⟩
  case round =>
    obtain ⟨k, hk, rfl, hall⟩ := hrel
    have HALL := Lib.hid hall
    clear hall
    by_cases hlt : k < m
    · have hka : k < ts.length := by rw [hm.out]; exact hlt
      have HBAD : Hid (rnB n ts[k] = false → rsB l ts = false) := fun h => by unfold rsB; rw [hn.out, all_no (f := rnB (n : Int)) k hka h]; simp
      have HOK : Hid (rnB n ts[k] = true → ∀ j (h : j < ts.length), j < k + 1 → rnB n ts[j] = true) := fun ht j h hj => if e : j = k then (by subst e; exact ht) else HALL.out j h (by omega)
      obtain ⟨b, off, ai, ci, rfl, _, hri, hq, hc⟩ := HB.out.at_ k hka
      have x0 := hc 0 _ rfl
      have x1 := hc 1 _ rfl
      simp only [Nat.add_zero] at x0
      have HRI := Lib.hid hri
      clear hri hc
      generalize ts[k] = t at x0 x1 HRI hq HBAD HOK
      obtain ⟨t1, t2⟩ := t
      dsimp only at x0 x1 HRI hq HBAD HOK
      generalize hql : t1.length = q at x0 hq
      have HQ := Lib.hid hql
      clear hql
      have hk0 : (0 : Int) ≤ (k : Int) := by omega
      have hk1 : (k : Int) < (m : Int) := by omega
      cases ht : wyB n t1 with
      | false =>
        have HR := Lib.hid (HBAD.out (by unfold rnB; rw [ht]; simp))
        clear HOK HBAD
        go_wp2_with (go_at_call 72; refine (l06Way_any _ _ t1 _ _ _ _ _ hmaxn HQ HRI.out hq).mono ?_; rintro e w' ⟨rfl, rfl⟩)
        go_ret
        exact ⟨ret_bool HR.out.symm, rfl⟩
      | true =>
        cases ht2 : inB t2 0 100000 with
        | false =>
          have HR := Lib.hid (HBAD.out (by unfold rnB; rw [ht2]; simp))
          clear HOK HBAD
          go_wp2_with (first | (go_at_call 72; refine (l06Way_any _ _ t1 _ _ _ _ _ hmaxn HQ HRI.out hq).mono ?_; rintro e w' ⟨rfl, rfl⟩) | (go_at_call 64; refine (l06Start_any _ _).mono ?_; rintro e w' ⟨rfl, rfl⟩))
          go_ret
          exact ⟨ret_bool HR.out.symm, rfl⟩
        | true =>
          have HOK2 := Lib.hid (HOK.out (by unfold rnB; rw [ht, ht2]; rfl))
          clear HOK HBAD
          go_wp2_with (first | (go_at_call 72; refine (l06Way_any _ _ t1 _ _ _ _ _ hmaxn HQ HRI.out hq).mono ?_; rintro e w' ⟨rfl, rfl⟩) | (go_at_call 64; refine (l06Start_any _ _).mono ?_; rintro e w' ⟨rfl, rfl⟩))
          go_round
          case rel => exact ⟨k + 1, by omega, by go_num, HOK2.out⟩
          case measure => simp [intOf]; omega
    · have HR : Hid (rsB l ts = (tmB l && decide ((m : Int) ≤ 12))) := by
        unfold Hid rsB
        rw [hn.out, hm.out, all_yes (fun j hj => HALL.out j hj (by rw [hm.out] at hj; omega)), Bool.and_true, show decide (m ≤ 12) = decide ((m : Int) ≤ 12) from decide_eq_decide.2 (by omega)]
      cases htm : tmB l with
      | false =>
        rw [htm] at HR
        go_wp2_with (go_at_call 53; refine (l06Times_any a l n ca _ hn HA.out hmaxn).mono ?_; rintro e w' ⟨rfl, rfl⟩)
        go_ret
        exact ⟨ret_bool (by rw [HR.out]; rfl), rfl⟩
      | true =>
        rw [htm] at HR
        go_wp2_with (go_at_call 53; refine (l06Times_any a l n ca _ hn HA.out hmaxn).mono ?_; rintro e w' ⟨rfl, rfl⟩)
        go_ret
        exact ⟨ret_bool (by rw [HR.out]; rfl), rfl⟩

theorem specValidRuns_any (w : World) {a0 : Option Addr} {n0 c0 : Nat} (l0 : List Int) (hn0 : Hid (l0.length = n0)) (h0 : RI w a0 l0) (hs0 : n0 ≤ 1048576) (_wf0 : Hid (∀ k ∈ l0, (Lit.int .i64 k).wf = true)) {a1 : Option Addr} {n1 c1 : Nat} (ts1 : List TRun) (hn1 : Hid (ts1.length = n1)) (h1 : RN 1048576 2 cRun w a1 ts1) (hs1 : n1 ≤ 1048576) (_wf1 : Hid (∀ t ∈ ts1, wfRun t)) :
    Calls Try.prog 23 #[.slice a0 n0 c0, .slice a1 n1 c1] w fun e w' => e = .returned (.bool (rsB l0 ts1)) ∧ Below w.heap.size w w' := by
  go_enter Try.func23, Try.ntmps23
  go_wp2_with (go_at_call 51; refine (l06Ok_any a0 a1 l0 ts1 n0 c0 n1 c1 _ hn0 h0 hs0 hn1 h1 hs1).mono ?_; rintro e w' ⟨rfl, rfl⟩)
  go_ret
  exact ⟨rfl, Below.refl _ _⟩

set_option maxHeartbeats 2000000 in
theorem valRuns_any (a b : Option Addr) (l : List Int) (ts : List TRun) (n ca m cb : Nat) (w : World) (hn : Hid (l.length = n)) (ha : RI w a l) (hmaxn : n ≤ 1048576) (hm : Hid (ts.length = m)) (hb : RN 1048576 2 cRun w b ts) (hmax : m ≤ 1048576) :
    Calls Try.prog 25 #[.slice a n ca, .slice b m cb] w fun e w' => e = .returned (.bool (rsB l ts)) ∧ Below w.heap.size w w' := by
  have HB : Hid (RN 1048576 2 cRun w b ts) := hb
  have VT := valTimes_any a l n ca w hn ha hmaxn
  clear ha hb
  cases htm : tmB l with
  | false =>
    have HR : Hid (rsB l ts = false) := by unfold Hid rsB; rw [htm]; rfl
    rw [htm] at VT
    go_enter Try.func25, Try.ntmps25
    go_wp2_with (go_at_call 20; refine VT.mono ?_; rintro e w' ⟨rfl, rfl⟩)
    go_ret
    exact ⟨ret_bool HR.out.symm, Below.refl _ _⟩
  | true =>
  rw [htm] at VT
  by_cases h12 : 12 < m
  · have HR : Hid (rsB l ts = false) := by unfold Hid rsB; rw [hm.out, show decide (m ≤ 12) = false from decide_eq_false (by omega)]; simp
    go_enter Try.func25, Try.ntmps25
    go_wp2_with (go_at_call 20; refine VT.mono ?_; rintro e w' ⟨rfl, rfl⟩)
    go_ret
    exact ⟨ret_bool HR.out.symm, Below.refl _ _⟩
  have HTM := Lib.hid htm
  go_enter Try.func25, Try.ntmps25
  go_wp2_with (go_at_call 20; refine VT.mono ?_; rintro e w' ⟨rfl, rfl⟩)
  clear VT htm
  go_loopw [17] (fun i wr => ∃ k : Nat, k ≤ m ∧ i = .int .i64 k ∧ Below w.heap.size w wr ∧ ∀ j (h : j < ts.length), j < k → rnB n ts[j] = true) (fun i _ => m - (intOf i).toNat)
  case atStart => exact ⟨0, by omega, rfl, Below.refl _ _, fun j _ hj => by omega⟩
  case round =>
    obtain ⟨k, hk, rfl, hbel, hall⟩ := hrel
    have HALL := Lib.hid hall
    clear hall
    by_cases hlt : k < m
    · have hka : k < ts.length := by rw [hm.out]; exact hlt
      have HBAD : Hid (rnB n ts[k] = false → rsB l ts = false) := fun h => by unfold rsB; rw [hn.out, all_no (f := rnB (n : Int)) k hka h]; simp
      have HOK : Hid (rnB n ts[k] = true → ∀ j (h : j < ts.length), j < k + 1 → rnB n ts[j] = true) := fun ht j h hj => if e : j = k then (by subst e; exact ht) else HALL.out j h (by omega)
      obtain ⟨b, off, ai, ci, rfl, hbl, hri, hq, hc⟩ := HB.out.at_ k hka
      have x0 := hc 0 _ rfl
      have x1 := hc 1 _ rfl
      simp only [Nat.add_zero] at x0
      have HRI : Hid (∀ w', Below w.heap.size w w' → RI w' ai ts[k].1) := fun w' h => hri.below h
      clear hri hc
      rw [← hbel.cell (p := ⟨_, _, none⟩) hbl] at x0 x1
      generalize ts[k] = t at x0 x1 HRI hq HBAD HOK
      obtain ⟨t1, t2⟩ := t
      dsimp only at x0 x1 HRI hq HBAD HOK
      generalize hql : t1.length = q at x0 hq
      have HQ := Lib.hid hql
      clear hql
      have hk0 : (0 : Int) ≤ (k : Int) := by omega
      have hk1 : (k : Int) < (m : Int) := by omega
      have hwr : w.heap.size ≤ wr.heap.size := hbel.size
      have HBEL := Lib.hid hbel
      clear hbel
      cases ht2 : inB t2 0 100000 with
      | false =>
        have HR := Lib.hid (HBAD.out (by unfold rnB; rw [ht2]; simp))
        clear HOK HBAD
        go_wp2_with (first | (go_at_call 54; refine (isWithin_any _ _ _ _).mono ?_; rintro e w' ⟨rfl, rfl⟩))
        go_ret
        exact ⟨ret_bool HR.out.symm, (by repeat (first | exact HBEL.out | refine Below.alloc ?_ (by first | omega | (simp; done) | (simp; omega)) _ | refine Below.setCell ?_ (by first | omega | (simp; done) | (simp; omega)) _))⟩
      | true =>
        cases ht : wyB n t1 with
        | false =>
          have HR := Lib.hid (HBAD.out (by unfold rnB; rw [ht]; simp))
          clear HOK HBAD
          go_wp2_with (first | (go_at_call 54; refine (isWithin_any _ _ _ _).mono ?_; rintro e w' ⟨rfl, rfl⟩) | (go_at_call 55; refine (isRunWay_any _ _ t1 _ _ _ _ _ hmaxn HQ (HRI.out _ (by repeat (first | exact HBEL.out | refine Below.alloc ?_ (by first | omega | (simp; done) | (simp; omega)) _ | refine Below.setCell ?_ (by first | omega | (simp; done) | (simp; omega)) _))) hq).mono ?_; rintro e w' ⟨rfl, rfl⟩))
          go_ret
          exact ⟨ret_bool HR.out.symm, (by repeat (first | exact HBEL.out | refine Below.alloc ?_ (by first | omega | (simp; done) | (simp; omega)) _ | refine Below.setCell ?_ (by first | omega | (simp; done) | (simp; omega)) _))⟩
        | true =>
          have HOK2 := Lib.hid (HOK.out (by unfold rnB; rw [ht, ht2]; rfl))
          clear HOK HBAD
          go_wp2_with (first | (go_at_call 54; refine (isWithin_any _ _ _ _).mono ?_; rintro e w' ⟨rfl, rfl⟩) | (go_at_call 55; refine (isRunWay_any _ _ t1 _ _ _ _ _ hmaxn HQ (HRI.out _ (by repeat (first | exact HBEL.out | refine Below.alloc ?_ (by first | omega | (simp; done) | (simp; omega)) _ | refine Below.setCell ?_ (by first | omega | (simp; done) | (simp; omega)) _))) hq).mono ?_; rintro e w' ⟨rfl, rfl⟩))
          go_roundw
          case rel => exact ⟨k + 1, by omega, by go_num, (by repeat (first | exact HBEL.out | refine Below.alloc ?_ (by first | omega | (simp; done) | (simp; omega)) _ | refine Below.setCell ?_ (by first | omega | (simp; done) | (simp; omega)) _)), HOK2.out⟩
          case measure => simp [intOf]; omega
    · have HR : Hid (rsB l ts = true) := by
        unfold Hid rsB
        rw [HTM.out, hn.out, hm.out, all_yes (fun j hj => HALL.out j hj (by rw [hm.out] at hj; omega)), Bool.and_true, Bool.true_and]
        simp; omega
      go_wp2
      go_ret
      exact ⟨ret_bool HR.out.symm, hbel⟩

theorem implValidRuns_any (w : World) {a0 : Option Addr} {n0 c0 : Nat} (l0 : List Int) (hn0 : Hid (l0.length = n0)) (h0 : RI w a0 l0) (hs0 : n0 ≤ 1048576) (_wf0 : Hid (∀ k ∈ l0, (Lit.int .i64 k).wf = true)) {a1 : Option Addr} {n1 c1 : Nat} (ts1 : List TRun) (hn1 : Hid (ts1.length = n1)) (h1 : RN 1048576 2 cRun w a1 ts1) (hs1 : n1 ≤ 1048576) (_wf1 : Hid (∀ t ∈ ts1, wfRun t)) :
    Calls Try.prog 25 #[.slice a0 n0 c0, .slice a1 n1 c1] w fun e w' => e = .returned (.bool (rsB l0 ts1)) ∧ Below w.heap.size w w' :=
  valRuns_any a0 a1 l0 ts1 n0 c0 n1 c1 w hn0 h0 hs0 hn1 h1 hs1
def rcode (l : List Int) (ts : List TRun) : Int := if rsB l ts = true then 0 else 1
theorem checkRuns_any (a b : Option Addr) (l : List Int) (ts : List TRun) (n ca m cb : Nat) (w : World) (hn : Hid (l.length = n)) (ha : RI w a l) (hmaxn : n ≤ 1048576) (hm : Hid (ts.length = m)) (hb : RN 1048576 2 cRun w b ts) (hmax : m ≤ 1048576) :
    Calls Try.prog 46 #[.slice a n ca, .slice b m cb] w fun e w' => e = .returned (.int .i64 (rcode l ts)) ∧ Below w.heap.size w w' := by
  have VR := valRuns_any a b l ts n ca m cb w hn ha hmaxn hm hb hmax
  clear ha hb
  cases h : rsB l ts with
  | false =>
    have HR : Hid (rcode l ts = 1) := by unfold Hid rcode; rw [h]; rfl
    rw [h] at VR
    go_enter Try.func46, Try.ntmps46
    go_wp2_with (go_at_call 25; refine VR.mono ?_; rintro e w' ⟨rfl, hb1⟩)
    go_ret
    exact ⟨ret_int HR.out.symm, hb1⟩
  | true =>
    have HR : Hid (rcode l ts = 0) := by unfold Hid rcode; rw [h]; rfl
    rw [h] at VR
    go_enter Try.func46, Try.ntmps46
    go_wp2_with (go_at_call 25; refine VR.mono ?_; rintro e w' ⟨rfl, hb1⟩)
    go_ret
    exact ⟨ret_int HR.out.symm, hb1⟩
end Go.Proofs.Ytgjbahnloladfaa
