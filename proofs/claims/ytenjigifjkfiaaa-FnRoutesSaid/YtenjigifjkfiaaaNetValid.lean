/-
  The walks of ValidNet, the model's (l02Ok behind it) and the program's: both return 'netB' of the stations and the tubes.
-/
import Derived.Test.YtenjigifjkfiaaaNetTo
import Derived.Deep.RegionHeld3
namespace Go.Proofs.Ytenjigifjkfiaaa
open Go.RowKit

set_option maxHeartbeats 1000000 in
theorem l02Ok_any (pb : Nat) (s : Int) (a : Option Addr) (ts : List T3) (n ca : Nat) (w : World) (hn : Hid (ts.length = n)) (ha : RT w a ts) (hmax : n ≤ 1048576)
    (p0 : w.cell? ⟨pb, 0, none⟩ = some (.int .i64 s)) (p1 : w.cell? ⟨pb, 1, none⟩ = some (.slice a n ca)) :
    Calls Try.prog 60 #[.pointer (some ⟨pb, 0, none⟩)] w fun e w' => e = .returned (.bool (netB s ts)) ∧ Below w.heap.size w w' := by
  by_cases h1 : s < 2
  · have HR := Lib.hid (netB_few s ts h1)
    have q : inB s 2 10 = false := by unfold inB; simp; omega
    go_enter Try.func60, Try.ntmps60
    go_wp2_with (go_at_call 74; refine (l00In_any _ _ _ _).mono ?_; rintro e w' ⟨rfl, rfl⟩)
    go_ret
    exact ⟨ret_bool HR.out.symm, Below.refl _ _⟩
  · by_cases h2 : 10 < s
    · have HR := Lib.hid (netB_many s ts h2)
      have q : inB s 2 10 = false := by unfold inB; simp; omega
      go_enter Try.func60, Try.ntmps60
      go_wp2_with (go_at_call 74; refine (l00In_any _ _ _ _).mono ?_; rintro e w' ⟨rfl, rfl⟩)
      go_ret
      exact ⟨ret_bool HR.out.symm, Below.refl _ _⟩
    · have q : inB s 2 10 = true := by unfold inB; simp; omega
      by_cases h3 : 24 < n
      · have HR := Lib.hid (netB_long s ts (by rw [hn.out]; exact h3))
        go_enter Try.func60, Try.ntmps60
        go_wp2_with (go_at_call 74; refine (l00In_any _ _ _ _).mono ?_; rintro e w' ⟨rfl, rfl⟩)
        go_ret
        exact ⟨ret_bool HR.out.symm, Below.refl _ _⟩
      · have hs1 : 2 ≤ s := by omega
        have hs2 : s ≤ 10 := by omega
        have hpb := World.block_lt_of_cell? w _ p0
        simp at hpb
        by_cases hz : n = 0
        · have HZ := Lib.hid hz
          clear hz
          have HR : Hid (netB s ts = true) := netB_good s ts hs1 hs2 (by rw [hn.out, HZ.out]; omega) (fun k hk => by rw [hn.out, HZ.out] at hk; omega)
          go_enter Try.func60, Try.ntmps60
          go_wp2_with (go_at_call 74; refine (l00In_any _ _ _ _).mono ?_; rintro e w' ⟨rfl, rfl⟩)
          go_loop [3] (fun i => ∃ k : Nat, k ≤ n ∧ i = .int .i64 k) (fun _ => 0)
          case atStart => exact ⟨0, by omega, rfl⟩
          case round =>
            obtain ⟨k, hk, rfl⟩ := hrel
            have hlt : ¬ k < n := by rw [HZ.out]; omega
            go_wp2
            go_ret
            exact ⟨ret_bool HR.out.symm, Below.refl _ _⟩
        · obtain ⟨b, off, rfl, hb, hc⟩ := ha.addr (by rw [hn.out]; omega)
          have HC := Lib.hid hc
          clear hc ha
          go_enter Try.func60, Try.ntmps60
          go_wp2_with (go_at_call 74; refine (l00In_any _ _ _ _).mono ?_; rintro e w' ⟨rfl, rfl⟩)
          go_loopw [3] (fun i wr => ∃ k : Nat, k ≤ n ∧ i = .int .i64 k ∧ Below w.heap.size w wr ∧ ∀ j (h : j < ts.length), j < k → tubeB s ts[j] = true) (fun i _ => n - (intOf i).toNat)
          case atStart => exact ⟨0, by omega, rfl, Below.refl _ _, fun j _ hj => by omega⟩
          case round =>
            obtain ⟨k, hk, rfl, hbel, hall⟩ := hrel
            have HALL := Lib.hid hall
            clear hall
            rw [← hbel.cell (p := ⟨_, _, none⟩) hpb] at p0 p1
            by_cases hlt : k < n
            · have hka : k < ts.length := by rw [hn.out]; exact hlt
              have hbad := fun h => Lib.hid (netB_bad s ts k hka h)
              obtain ⟨x1, x2, x3⟩ := HC.out k hka
              have HSM : Hid (tubeB s ts[k] = true → ∀ j (h : j < ts.length), j < k + 1 → tubeB s ts[j] = true) := fun ht j h hj => if e : j = k then (by subst e; exact ht) else HALL.out j h (by omega)
              generalize ts[k] = t at x1 x2 x3 HSM hbad
              rw [← hbel.cell (p := ⟨_, _, none⟩) hb] at x1 x2 x3
              have hk0 : (0 : Int) ≤ (k : Int) := by omega
              have hk1 : (k : Int) < (n : Int) := by omega
              have hb' : b < wr.heap.size := by have := hbel.size; omega
              have hpb' : pb < wr.heap.size := by have := hbel.size; omega
              cases ht : tubeB s t with
              | true =>
                have HSM2 := Lib.hid (HSM.out ht)
                clear hbad
                go_wp2_with fail
                go_region_held3 (fun w' => w'.cell? ⟨b, off + k * 3, none⟩ = some (.int .i64 t.1) ∧ w'.cell? ⟨b, off + k * 3 + 1, none⟩ = some (.int .i64 t.2.1) ∧ w'.cell? ⟨b, off + k * 3 + 2, none⟩ = some (.int .i64 t.2.2) ∧ w'.cell? ⟨pb, 0, none⟩ = some (.int .i64 s) ∧ w'.cell? ⟨pb, 1, none⟩ = some (.slice (some ⟨b, off, none⟩) n ca)) (first | exact ⟨x1, x2, x3, p0, p1⟩ | exact ⟨(hb1.cell (p := ⟨_, _, none⟩) hb').trans x1, (hb1.cell (p := ⟨_, _, none⟩) hb').trans x2, (hb1.cell (p := ⟨_, _, none⟩) hb').trans x3, (hb1.cell (p := ⟨_, _, none⟩) hpb').trans p0, (hb1.cell (p := ⟨_, _, none⟩) hpb').trans p1⟩)
                  (first | (go_at_call 79; refine (l02Tube_any t s _ hs1 hs2).mono ?_; rintro e w1 ⟨rfl, hb1⟩))
                have hbel' := hbel.drew.trans (hb1.mono hbel.size)
                go_wp2
                go_roundw
                case rel => exact ⟨k + 1, by omega, by go_num, hbel', HSM2.out⟩
                case measure => simp [intOf]; omega
              | false =>
                have HR := hbad ht
                clear hbad
                go_wp2_with fail
                go_region_held3 (fun w' => w'.cell? ⟨b, off + k * 3, none⟩ = some (.int .i64 t.1) ∧ w'.cell? ⟨b, off + k * 3 + 1, none⟩ = some (.int .i64 t.2.1) ∧ w'.cell? ⟨b, off + k * 3 + 2, none⟩ = some (.int .i64 t.2.2) ∧ w'.cell? ⟨pb, 0, none⟩ = some (.int .i64 s) ∧ w'.cell? ⟨pb, 1, none⟩ = some (.slice (some ⟨b, off, none⟩) n ca)) (first | exact ⟨x1, x2, x3, p0, p1⟩ | exact ⟨(hb1.cell (p := ⟨_, _, none⟩) hb').trans x1, (hb1.cell (p := ⟨_, _, none⟩) hb').trans x2, (hb1.cell (p := ⟨_, _, none⟩) hb').trans x3, (hb1.cell (p := ⟨_, _, none⟩) hpb').trans p0, (hb1.cell (p := ⟨_, _, none⟩) hpb').trans p1⟩)
                  (first | (go_at_call 79; refine (l02Tube_any t s _ hs1 hs2).mono ?_; rintro e w1 ⟨rfl, hb1⟩))
                have hbel' := hbel.drew.trans (hb1.mono hbel.size)
                go_wp2
                go_ret
                exact ⟨ret_bool HR.out.symm, hbel'⟩
            · have HR : Hid (netB s ts = true) := netB_good s ts hs1 hs2 (by rw [hn.out]; omega) (fun j hj => HALL.out j hj (by rw [hn.out] at hj; omega))
              go_wp2
              go_ret
              exact ⟨ret_bool HR.out.symm, hbel⟩

set_option maxHeartbeats 1000000 in
theorem implValidNet_any (s : Int) (a : Option Addr) (ts : List T3) (n ca : Nat) (w : World) (hn : Hid (ts.length = n)) (ha : RT w a ts) (hmax : n ≤ 1048576) :
    Calls Try.prog 75 #[.agg #[.int .i64 s, .slice a n ca]] w fun e w' => e = .returned (.bool (netB s ts)) ∧ Below w.heap.size w w' := by
  by_cases h1 : s < 2
  · have HR := Lib.hid (netB_few s ts h1)
    go_enter Try.func75, Try.ntmps75
    go_wp2
    go_ret
    exact ⟨ret_bool HR.out.symm, (by repeat (first | exact Below.refl _ _ | refine Below.alloc ?_ (by simp; try omega) _ | refine Below.setCell ?_ (by simp; try omega) _))⟩
  · by_cases h2 : 10 < s
    · have HR := Lib.hid (netB_many s ts h2)
      go_enter Try.func75, Try.ntmps75
      go_wp2
      go_ret
      exact ⟨ret_bool HR.out.symm, (by repeat (first | exact Below.refl _ _ | refine Below.alloc ?_ (by simp; try omega) _ | refine Below.setCell ?_ (by simp; try omega) _))⟩
    · by_cases h3 : 24 < n
      · have HR := Lib.hid (netB_long s ts (by rw [hn.out]; exact h3))
        go_enter Try.func75, Try.ntmps75
        go_wp2
        go_ret
        exact ⟨ret_bool HR.out.symm, (by repeat (first | exact Below.refl _ _ | refine Below.alloc ?_ (by simp; try omega) _ | refine Below.setCell ?_ (by simp; try omega) _))⟩
      · have hs1 : 2 ≤ s := by omega
        have hs2 : s ≤ 10 := by omega
        by_cases hz : n = 0
        · have HZ := Lib.hid hz
          clear hz
          have HR : Hid (netB s ts = true) := netB_good s ts hs1 hs2 (by rw [hn.out, HZ.out]; omega) (fun k hk => by rw [hn.out, HZ.out] at hk; omega)
          go_enter Try.func75, Try.ntmps75
          go_wp2
          go_loop [22] (fun i => ∃ k : Nat, k ≤ n ∧ i = .int .i64 k) (fun _ => 0)
          case atStart => exact ⟨0, by omega, rfl⟩
          case round =>
            obtain ⟨k, hk, rfl⟩ := hrel
            have hlt : ¬ k < n := by rw [HZ.out]; omega
            go_wp2
            go_ret
            exact ⟨ret_bool HR.out.symm, (by repeat (first | exact Below.refl _ _ | refine Below.alloc ?_ (by simp; try omega) _ | refine Below.setCell ?_ (by simp; try omega) _))⟩
        · obtain ⟨b, off, rfl, hb, hc⟩ := ha.addr (by rw [hn.out]; omega)
          have HC := Lib.hid hc
          clear hc ha
          go_enter Try.func75, Try.ntmps75
          go_wp2
          go_loopw [22] (fun i wr => ∃ k : Nat, k ≤ n ∧ i = .int .i64 k ∧ Below (w.heap.size + 1) (w.alloc (.cells #[.int .i64 s, .slice (some ⟨b, off, none⟩) n ca] 26)) wr ∧ ∀ j (h : j < ts.length), j < k → tubeB s ts[j] = true) (fun i _ => n - (intOf i).toNat)
          case atStart => exact ⟨0, by omega, rfl, Below.refl _ _, fun j _ hj => by omega⟩
          case round =>
            obtain ⟨k, hk, rfl, hbel, hall⟩ := hrel
            have HALL := Lib.hid hall
            clear hall
            have HB0 : Hid (Below w.heap.size w wr) := Below.trans ((Below.refl _ _).alloc (Nat.le_refl _) _) (hbel.mono (by omega))
            have p0 := hbel.cell (p := ⟨w.heap.size, 0, none⟩) (by simp)
            have p1 := hbel.cell (p := ⟨w.heap.size, 1, none⟩) (by simp)
            simp [go_sem] at p0 p1
            have hsz := hbel.size
            simp at hsz
            have hsz' : w.heap.size < wr.heap.size := by omega
            have hb' : b < wr.heap.size := by omega
            by_cases hlt : k < n
            · have hka : k < ts.length := by rw [hn.out]; exact hlt
              have hbad := fun h => Lib.hid (netB_bad s ts k hka h)
              obtain ⟨x1, x2, x3⟩ := HC.out k hka
              have HSM : Hid (tubeB s ts[k] = true → ∀ j (h : j < ts.length), j < k + 1 → tubeB s ts[j] = true) := fun ht j h hj => if e : j = k then (by subst e; exact ht) else HALL.out j h (by omega)
              generalize ts[k] = t at x1 x2 x3 HSM hbad
              rw [← HB0.out.cell (p := ⟨_, _, none⟩) hb] at x1 x2 x3
              have hk0 : (0 : Int) ≤ (k : Int) := by omega
              have hk1 : (k : Int) < (n : Int) := by omega
              have HBEL := Lib.hid hbel
              clear hbel
              cases ht : tubeB s t with
              | true =>
                have HSM2 := Lib.hid (HSM.out ht)
                clear hbad
                go_wp2_with (go_at_call 85; refine (fitsNet_any t s _ _ _ _).mono ?_; rintro e w1 ⟨rfl, hb1⟩)
                go_roundw
                case rel => exact ⟨k + 1, by omega, by go_num, (HBEL.out.alloc (by omega) _).trans (hb1.mono (by simp; omega)), HSM2.out⟩
                case measure => simp [intOf]; omega
              | false =>
                have HR := hbad ht
                clear hbad
                go_wp2_with (go_at_call 85; refine (fitsNet_any t s _ _ _ _).mono ?_; rintro e w1 ⟨rfl, hb1⟩)
                go_ret
                exact ⟨ret_bool HR.out.symm, (HB0.out.alloc (by omega) _).trans (hb1.mono (by simp; omega))⟩
            · have HR : Hid (netB s ts = true) := netB_good s ts hs1 hs2 (by rw [hn.out]; omega) (fun j hj => HALL.out j hj (by rw [hn.out] at hj; omega))
              go_wp2
              go_ret
              exact ⟨ret_bool HR.out.symm, HB0.out⟩
end Go.Proofs.Ytenjigifjkfiaaa
