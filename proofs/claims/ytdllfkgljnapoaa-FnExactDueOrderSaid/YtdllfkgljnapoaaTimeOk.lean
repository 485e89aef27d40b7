/-
  Times and ways: when they are valid; the walks of the tests, the model's and the program's (no runs: for seats that lack them).
-/
import Derived.Test.YtdllfkgljnapoaaWishNest
import Derived.Test.YtdllfkgljnapoaaRowAt
namespace Go.Proofs.Ytdllfkgljnapoaa
open Go.RowKit

theorem RN.at_ {β : Type} {M k : Nat} {c : Value → β → List Value} {w : World} {a : Option Addr} {ts : List (List Int × β)} (h : RN M k c w a ts) (i : Nat) (hi : i < ts.length) :
    ∃ b off ai ci, a = some ⟨b, off, none⟩ ∧ b < w.heap.size ∧ RI w ai ts[i].1 ∧ ts[i].1.length ≤ M ∧ ∀ (j : Nat) (v : Value), (c (.slice ai ts[i].1.length ci) ts[i].2)[j]? = some v → w.cell? ⟨b, off + i * k + j, none⟩ = some v := by
  obtain ⟨b, off, ha, hb, hc⟩ := h.addr (by omega)
  obtain ⟨ai, ci, h1, h2, h3⟩ := hc i hi
  exact ⟨b, off, ai, ci, ha, hb, h1, h2, h3⟩
def tmB (l : List Int) : Bool := inB (l.length : Int) 1 24 && l.all (fun t => inB t 1 1000)
def wyB (m : Int) (way : List Int) : Bool := inB (way.length : Int) 1 12 && way.all (fun t => inB t 0 (m - 1))

theorem l06Times_any (a : Option Addr) (l : List Int) (n ca : Nat) (w : World) (hn : Hid (l.length = n)) (ha : RI w a l) (hmax : n ≤ 1048576) :
    Calls Try.prog 35 #[.slice a n ca] w fun e w' => e = .returned (.bool (tmB l)) ∧ w = w' := by
  have HA := Lib.hid ha
  clear ha
  go_enter Try.func35, Try.ntmps35
  go_wp2
  go_loop [3] (fun i => ∃ k : Nat, k ≤ n ∧ i = .int .i64 k ∧ ∀ j (h : j < l.length), j < k → inB l[j] 1 1000 = true) (fun i => n - (intOf i).toNat)
  case atStart => exact ⟨0, by omega, rfl, fun j _ hj => by omega⟩
  case round =>
    obtain ⟨k, hk, rfl, hall⟩ := hrel
    have HALL := Lib.hid hall
    clear hall
    by_cases hlt : k < n
    · have hka : k < l.length := by rw [hn.out]; exact hlt
      have HBAD : Hid (inB l[k] 1 1000 = false → tmB l = false) := fun h => by unfold tmB; rw [all_no (f := fun t => inB t 1 1000) k hka h]; simp
      have HOK : Hid (inB l[k] 1 1000 = true → ∀ j (h : j < l.length), j < k + 1 → inB l[j] 1 1000 = true) := fun ht j h hj => if e : j = k then (by subst e; exact ht) else HALL.out j h (by omega)
      obtain ⟨b, off, rfl, _, x1⟩ := HA.out.at_ k hka
      generalize l[k] = t at x1 HBAD HOK
      have hk0 : (0 : Int) ≤ (k : Int) := by omega
      have hk1 : (k : Int) < (n : Int) := by omega
      cases ht : inB t 1 1000 with
      | true =>
        have HOK2 := Lib.hid (HOK.out ht)
        clear HOK HBAD
        go_wp2_with (go_at_call 41; refine (l00In_any _ _ _ _).mono ?_; rintro e w' ⟨rfl, rfl⟩)
        go_round
        case rel => exact ⟨k + 1, by omega, by go_num, HOK2.out⟩
        case measure => simp [intOf]; omega
      | false =>
        have HR := Lib.hid (HBAD.out ht)
        clear HOK HBAD
        go_wp2_with (go_at_call 41; refine (l00In_any _ _ _ _).mono ?_; rintro e w' ⟨rfl, rfl⟩)
        go_ret
        exact ⟨ret_bool HR.out.symm, rfl⟩
    · have HR : Hid (tmB l = inB (n : Int) 1 24) := by
        unfold Hid tmB
        rw [hn.out, all_yes (fun j hj => HALL.out j hj (by rw [hn.out] at hj; omega)), Bool.and_true]
      go_wp2_with (go_at_call 41; refine (l00In_any _ _ _ _).mono ?_; rintro e w' ⟨rfl, rfl⟩)
      go_ret
      exact ⟨ret_bool HR.out.symm, rfl⟩

theorem valTimes_any (a : Option Addr) (l : List Int) (n ca : Nat) (w : World) (hn : Hid (l.length = n)) (ha : RI w a l) (hmax : n ≤ 1048576) :
    Calls Try.prog 23 #[.slice a n ca] w fun e w' => e = .returned (.bool (tmB l)) ∧ w = w' := by
  have HA := Lib.hid ha
  clear ha
  by_cases h1 : n < 1
  · have HR : Hid (tmB l = false) := by unfold Hid tmB inB; rw [hn.out]; simp; omega
    go_enter Try.func23, Try.ntmps23
    go_wp2
    go_ret
    exact ⟨ret_bool HR.out.symm, rfl⟩
  by_cases h2 : 24 < n
  · have HR : Hid (tmB l = false) := by unfold Hid tmB inB; rw [hn.out]; simp; omega
    go_enter Try.func23, Try.ntmps23
    go_wp2
    go_ret
    exact ⟨ret_bool HR.out.symm, rfl⟩
  go_enter Try.func23, Try.ntmps23
  go_wp2
  go_loop [15] (fun i => ∃ k : Nat, k ≤ n ∧ i = .int .i64 k ∧ ∀ j (h : j < l.length), j < k → inB l[j] 1 1000 = true) (fun i => n - (intOf i).toNat)
  case atStart => exact ⟨0, by omega, rfl, fun j _ hj => by omega⟩
  case round =>
    obtain ⟨k, hk, rfl, hall⟩ := hrel
    have HALL := Lib.hid hall
    clear hall
    by_cases hlt : k < n
    · have hka : k < l.length := by rw [hn.out]; exact hlt
      have HBAD : Hid (inB l[k] 1 1000 = false → tmB l = false) := fun h => by unfold tmB; rw [all_no (f := fun t => inB t 1 1000) k hka h]; simp
      have HOK : Hid (inB l[k] 1 1000 = true → ∀ j (h : j < l.length), j < k + 1 → inB l[j] 1 1000 = true) := fun ht j h hj => if e : j = k then (by subst e; exact ht) else HALL.out j h (by omega)
      obtain ⟨b, off, rfl, _, x1⟩ := HA.out.at_ k hka
      generalize l[k] = t at x1 HBAD HOK
      have hk0 : (0 : Int) ≤ (k : Int) := by omega
      have hk1 : (k : Int) < (n : Int) := by omega
      cases ht : inB t 1 1000 with
      | true =>
        have HOK2 := Lib.hid (HOK.out ht)
        clear HOK HBAD
        go_wp2_with (go_at_call 25; refine (isWithin_any _ _ _ _).mono ?_; rintro e w' ⟨rfl, rfl⟩)
        go_round
        case rel => exact ⟨k + 1, by omega, by go_num, HOK2.out⟩
        case measure => simp [intOf]; omega
      | false =>
        have HR := Lib.hid (HBAD.out ht)
        clear HOK HBAD
        go_wp2_with (go_at_call 25; refine (isWithin_any _ _ _ _).mono ?_; rintro e w' ⟨rfl, rfl⟩)
        go_ret
        exact ⟨ret_bool HR.out.symm, rfl⟩
    · have HR : Hid (tmB l = true) := by
        unfold Hid tmB inB
        rw [hn.out, all_yes (fun j hj => HALL.out j hj (by rw [hn.out] at hj; omega)), Bool.and_true]
        simp; omega
      go_wp2
      go_ret
      exact ⟨ret_bool HR.out.symm, rfl⟩

theorem implValidTimes_any (w : World) {a0 : Option Addr} {n0 c0 : Nat} (l0 : List Int) (hn0 : Hid (l0.length = n0)) (h0 : RI w a0 l0) (hs0 : n0 ≤ 1048576) (_wf0 : Hid (∀ k ∈ l0, (Lit.int .i64 k).wf = true)) :
    Calls Try.prog 23 #[.slice a0 n0 c0] w fun e w' => e = .returned (.bool (tmB l0)) ∧ Below w.heap.size w w' :=
  (valTimes_any a0 l0 n0 c0 w hn0 h0 hs0).mono fun _ _ ⟨h1, h2⟩ => ⟨h1, h2 ▸ Below.refl _ _⟩

theorem l06Way_any (a b : Option Addr) (way : List Int) (n ca m cb : Nat) (w : World) (hmaxn : n ≤ 1048576) (hm : Hid (way.length = m)) (hb : RI w b way) (hmax : m ≤ 1048576) :
    Calls Try.prog 33 #[.slice a n ca, .slice b m cb] w fun e w' => e = .returned (.bool (wyB n way)) ∧ w = w' := by
  have HA := Lib.hid hb
  clear hb
  go_enter Try.func33, Try.ntmps33
  go_wp2
  go_loop [5] (fun i => ∃ k : Nat, k ≤ m ∧ i = .int .i64 k ∧ ∀ j (h : j < way.length), j < k → inB way[j] 0 ((n : Int) - 1) = true) (fun i => m - (intOf i).toNat)
  case atStart => exact ⟨0, by omega, rfl, fun j _ hj => by omega⟩
  case round =>
    obtain ⟨k, hk, rfl, hall⟩ := hrel
    have HALL := Lib.hid hall
    clear hall
    by_cases hlt : k < m
    · have hka : k < way.length := by rw [hm.out]; exact hlt
      have HBAD : Hid (inB way[k] 0 ((n : Int) - 1) = false → wyB n way = false) := fun h => by unfold wyB; rw [all_no (f := fun t => inB t 0 ((n : Int) - 1)) k hka h]; simp
      have HOK : Hid (inB way[k] 0 ((n : Int) - 1) = true → ∀ j (h : j < way.length), j < k + 1 → inB way[j] 0 ((n : Int) - 1) = true) := fun ht j h hj => if e : j = k then (by subst e; exact ht) else HALL.out j h (by omega)
      obtain ⟨b, off, rfl, _, x1⟩ := HA.out.at_ k hka
      generalize way[k] = t at x1 HBAD HOK
      have hk0 : (0 : Int) ≤ (k : Int) := by omega
      have hk1 : (k : Int) < (m : Int) := by omega
      cases ht : inB t 0 ((n : Int) - 1) with
      | true =>
        have HOK2 := Lib.hid (HOK.out ht)
        clear HOK HBAD
        go_wp2_with (go_at_call 41; refine (l00In_any _ _ _ _).mono ?_; rintro e w' ⟨rfl, rfl⟩)
        go_round
        case rel => exact ⟨k + 1, by omega, by go_num, HOK2.out⟩
        case measure => simp [intOf]; omega
      | false =>
        have HR := Lib.hid (HBAD.out ht)
        clear HOK HBAD
        go_wp2_with (go_at_call 41; refine (l00In_any _ _ _ _).mono ?_; rintro e w' ⟨rfl, rfl⟩)
        go_ret
        exact ⟨ret_bool HR.out.symm, rfl⟩
    · have HR : Hid (wyB n way = inB (m : Int) 1 12) := by
        unfold Hid wyB
        rw [hm.out, all_yes (fun j hj => HALL.out j hj (by rw [hm.out] at hj; omega)), Bool.and_true]
      go_wp2_with (go_at_call 41; refine (l00In_any _ _ _ _).mono ?_; rintro e w' ⟨rfl, rfl⟩)
      go_ret
      exact ⟨ret_bool HR.out.symm, rfl⟩

theorem isTimed_any (a : Option Addr) (n ca : Nat) (x : Int) (w : World) (hmax : n ≤ 1048576) :
    Calls Try.prog 36 #[.slice a n ca, .int .i64 x] w fun e w' => e = .returned (.bool (inB x 0 ((n : Int) - 1))) ∧ w = w' := by
  go_enter Try.func36, Try.ntmps36
  go_wp2_with (go_at_call 25; refine (isWithin_any _ _ _ _).mono ?_; rintro e w' ⟨rfl, rfl⟩)
  go_ret
  exact ⟨rfl, rfl⟩

theorem isRunWay_any (a b : Option Addr) (way : List Int) (n ca m cb : Nat) (w : World) (hmaxn : n ≤ 1048576) (hm : Hid (way.length = m)) (hb : RI w b way) (hmax : m ≤ 1048576) :
    Calls Try.prog 24 #[.slice a n ca, .slice b m cb] w fun e w' => e = .returned (.bool (wyB n way)) ∧ w = w' := by
  have HA := Lib.hid hb
  clear hb
  by_cases h1 : m < 1
  · have HR : Hid (wyB n way = false) := by unfold Hid wyB inB; rw [hm.out]; simp; omega
    go_enter Try.func24, Try.ntmps24
    go_wp2
    go_ret
    exact ⟨ret_bool HR.out.symm, rfl⟩
  by_cases h2 : 12 < m
  · have HR : Hid (wyB n way = false) := by unfold Hid wyB inB; rw [hm.out]; simp; omega
    go_enter Try.func24, Try.ntmps24
    go_wp2
    go_ret
    exact ⟨ret_bool HR.out.symm, rfl⟩
  go_enter Try.func24, Try.ntmps24
  go_wp2
  go_loop [17] (fun i => ∃ k : Nat, k ≤ m ∧ i = .int .i64 k ∧ ∀ j (h : j < way.length), j < k → inB way[j] 0 ((n : Int) - 1) = true) (fun i => m - (intOf i).toNat)
  case atStart => exact ⟨0, by omega, rfl, fun j _ hj => by omega⟩
  case round =>
    obtain ⟨k, hk, rfl, hall⟩ := hrel
    have HALL := Lib.hid hall
    clear hall
    by_cases hlt : k < m
    · have hka : k < way.length := by rw [hm.out]; exact hlt
      have HBAD : Hid (inB way[k] 0 ((n : Int) - 1) = false → wyB n way = false) := fun h => by unfold wyB; rw [all_no (f := fun t => inB t 0 ((n : Int) - 1)) k hka h]; simp
      have HOK : Hid (inB way[k] 0 ((n : Int) - 1) = true → ∀ j (h : j < way.length), j < k + 1 → inB way[j] 0 ((n : Int) - 1) = true) := fun ht j h hj => if e : j = k then (by subst e; exact ht) else HALL.out j h (by omega)
      obtain ⟨b, off, rfl, _, x1⟩ := HA.out.at_ k hka
      generalize way[k] = t at x1 HBAD HOK
      have hk0 : (0 : Int) ≤ (k : Int) := by omega
      have hk1 : (k : Int) < (m : Int) := by omega
      cases ht : inB t 0 ((n : Int) - 1) with
      | true =>
        have HOK2 := Lib.hid (HOK.out ht)
        clear HOK HBAD
        go_wp2_with (go_at_call 36; refine (isTimed_any _ _ _ _ _ hmaxn).mono ?_; rintro e w' ⟨rfl, rfl⟩)
        go_round
        case rel => exact ⟨k + 1, by omega, by go_num, HOK2.out⟩
        case measure => simp [intOf]; omega
      | false =>
        have HR := Lib.hid (HBAD.out ht)
        clear HOK HBAD
        go_wp2_with (go_at_call 36; refine (isTimed_any _ _ _ _ _ hmaxn).mono ?_; rintro e w' ⟨rfl, rfl⟩)
        go_ret
        exact ⟨ret_bool HR.out.symm, rfl⟩
    · have HR : Hid (wyB n way = true) := by
        unfold Hid wyB inB
        rw [hm.out, all_yes (fun j hj => HALL.out j hj (by rw [hm.out] at hj; omega)), Bool.and_true]
        simp; omega
      go_wp2
      go_ret
      exact ⟨ret_bool HR.out.symm, rfl⟩
end Go.Proofs.Ytdllfkgljnapoaa
