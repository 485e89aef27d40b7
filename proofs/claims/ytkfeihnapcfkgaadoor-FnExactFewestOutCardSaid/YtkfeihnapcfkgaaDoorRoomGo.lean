/-
  GoOrder: the program's canAllGo, firstToGo.
-/
import Derived.Test.YtkfeihnapcfkgaaDoorRoomR2
import Derived.Test.YtkfeihnapcfkgaaDoorRoomOrd
namespace Go.Proofs.YtkfeihnapcfkgaaDoor
open Go.RowKit Go.Maps Go.ChangeShapes

set_option maxRecDepth 100000 in
theorem sizeG_any (x : Nat) (hx : x < 18446744073709551616) (w : World) : Calls Tryd.prog 84 #[.int .u64 (x : Int)] w fun e w' => e = .returned (.int .i64 (popA 64 x)) ∧ w = w' := by
  go_enter Tryd.func84, Tryd.ntmps84
  go_wp2_with fail
  refine (ones_any x hx _).mono ?_
  rintro e w' ⟨rfl, rfl⟩
  go_wp2
  go_ret
  exact ⟨rfl, rfl⟩
/-- What an exchange's memory and box are good for: the number of guests that can still go is told, whatever set has gone. -/
def Told (tol : Nat) (wb : World) (xb mb m : Nat) (v0 v1 : Value) (M : Nat → Nat) : Prop :=
  ∀ (s : Nat) (w : World) (q : Nat), s < 2 ^ m → q + tol ≤ 1000000000000000 → ExcAt wb xb mb v0 v1 w → MemoG Tryd.prog KeyG mb q M w →
    Calls Tryd.prog 51 #[.pointer (some ⟨xb, 0, none⟩), .int .u64 (s : Int)] w fun e w' => e = .returned (.int .i64 (M s : Nat)) ∧ Turned mb (mb + 1) w w' ∧ MemoG Tryd.prog KeyG mb (q + tol) M w'

set_option maxHeartbeats 2000000 in
theorem canAllGo_any (tol : Nat) (wb : World) (xb mb b1 o1 m d q : Nat) (v0 : Value) (l : List Int) (ts : List TGuest) (w : World) (hm : Hid (ts.length = m)) (ha : RR 2 cGuest wb (some ⟨b1, o1, none⟩) ts) (hm8 : m ≤ 8)
    (hT : Told tol wb xb mb m v0 (.slice (some ⟨b1, o1, none⟩) m d) (mostS l ts)) (hx : ExcAt wb xb mb v0 (.slice (some ⟨b1, o1, none⟩) m d) w) (hmem : MemoG Tryd.prog KeyG mb q (mostS l ts) w) (hq : q + tol ≤ 1000000000000000) :
    Calls Tryd.prog 49 #[.pointer (some ⟨xb, 0, none⟩)] w fun e w' => e = .returned (.bool (okS l ts 0)) ∧ Turned mb (mb + 1) w w' ∧ MemoG Tryd.prog KeyG mb (q + tol) (mostS l ts) w' := by
  have MA := Lib.hid (hT 0 w.drew q (Nat.two_pow_pos _) hq (hx.below (Below.refl _ _).drew) (hmem.below (Below.refl _ _).drew))
  have HX := Lib.hid hx
  have HXB := hx.size
  have HS : Hid (∀ w', Turned mb (mb + 1) w w' → w'.cell? ⟨xb, 1, none⟩ = some (.slice (some ⟨b1, o1, none⟩) m d)) := fun w' h => (hx.turned h).c1
  have RE : Hid (∀ W, Turned mb (mb + 1) w W → Calls Tryd.prog 47 #[.slice (some ⟨b1, o1, none⟩) m d] W fun e w' => e = .returned (.int .u64 ((setN (lessN ts) m : Nat) : Int)) ∧ Below W.heap.size W w') := fun W h => restless_any ts _ m d W hm (ha.below (hx.bel.trans (h.below hx.lo hx.bel.size))) hm8
  have h40 := setN_lt64 (lessN ts) (k := m) (by omega)
  have SZ : Hid (∀ W, Calls Tryd.prog 84 #[.int .u64 ((setN (lessN ts) m : Nat) : Int)] W fun e w' => e = .returned (.int .i64 (cntN (lessN ts) m : Nat)) ∧ W = w') := fun W => by
    have := sizeG_any (setN (lessN ts) m) (by omega) W
    rw [pop_setN _ _ (by omega)] at this
    exact this
  have HOK : Hid (okS l ts 0 = decide (mostS l ts 0 = cntN (lessN ts) m)) := by unfold Hid okS leftS; rw [aftG_zero, hm.out]
  have hle := mostS_le l ts 0
  have hlc := cntN_le (lessN ts) m
  rw [hm.out] at hle
  have HT0 : Hid (Turned mb (mb + 1) w w.drew) := Turned.of (Below.refl _ _).drew
  clear hT hx hmem ha h40
  generalize setN (lessN ts) m = x at RE SZ
  generalize cntN (lessN ts) m = y at SZ HOK hlc
  generalize hz : mostS l ts 0 = z at MA HOK hle
  clear hz
  rcases eq_ways (z : Int) (y : Int) with ⟨⟨e4, e5⟩, e6⟩ | ⟨⟨e4, e5⟩, e6⟩
  · have HR : Hid (okS l ts 0 = true) := by unfold Hid; rw [HOK.out]; exact decide_eq_true (by omega)
    clear e6 HOK
    go_enter Tryd.func49, Tryd.ntmps49
    go_wp2_with fail
    go_region_held3 (fun w' => w'.cell? ⟨xb, 1, none⟩ = some (.slice (some ⟨b1, o1, none⟩) m d)) (first | exact HS.out _ HT0.out | exact HS.out _ D2.out | exact HS.out _ D3.out) (first | (go_at_call 51; refine MA.out.mono ?_; rintro e w2 ⟨rfl, ht2, hm2⟩; have D2 : Hid (Turned mb (mb + 1) w w2) := HT0.out.trans ht2) | (go_at_call 47; refine (RE.out _ D2.out).mono ?_; rintro e w3 ⟨rfl, hb3⟩; have D3 : Hid (Turned mb (mb + 1) w w3) := D2.out.trans (Turned.of hb3)) | (go_at_call 84; refine (SZ.out _).mono ?_; rintro e w' ⟨rfl, rfl⟩))
    all_goals
      go_wp2
      go_ret
      exact ⟨ret_bool HR.out.symm, D3.out, hm2.below hb3⟩
  · have HR : Hid (okS l ts 0 = false) := by unfold Hid; rw [HOK.out]; exact decide_eq_false (by omega)
    clear e6 HOK
    go_enter Tryd.func49, Tryd.ntmps49
    go_wp2_with fail
    go_region_held3 (fun w' => w'.cell? ⟨xb, 1, none⟩ = some (.slice (some ⟨b1, o1, none⟩) m d)) (first | exact HS.out _ HT0.out | exact HS.out _ D2.out | exact HS.out _ D3.out) (first | (go_at_call 51; refine MA.out.mono ?_; rintro e w2 ⟨rfl, ht2, hm2⟩; have D2 : Hid (Turned mb (mb + 1) w w2) := HT0.out.trans ht2) | (go_at_call 47; refine (RE.out _ D2.out).mono ?_; rintro e w3 ⟨rfl, hb3⟩; have D3 : Hid (Turned mb (mb + 1) w w3) := D2.out.trans (Turned.of hb3)) | (go_at_call 84; refine (SZ.out _).mono ?_; rintro e w' ⟨rfl, rfl⟩))
    all_goals
      go_wp2
      go_ret
      exact ⟨ret_bool HR.out.symm, D3.out, hm2.below hb3⟩

set_option maxRecDepth 100000 in
set_option maxHeartbeats 4000000 in
theorem goodT_any (tol : Nat) (wb : World) (xb mb m q c1 c2 s k : Nat) (v0 v1 : Value) (l : List Int) (ts : List TGuest) (w : World) (hm8 : m ≤ 8) (hTS : Hid (ts.length = m))
    (hT : Told tol wb xb mb m v0 v1 (mostS l ts)) (hx : ExcAt wb xb mb v0 v1 w) (hmem : MemoG Tryd.prog KeyG mb q (mostS l ts) w) (hq : q + tol + tol ≤ 1000000000000000) (hs : s < 2 ^ m) (hk : k < m)
    (y1 : w.cell? ⟨c1, 0, none⟩ = some (.pointer (some ⟨xb, 0, none⟩))) (y2 : w.cell? ⟨c2, 0, none⟩ = some (.int .u64 (s : Int))) (hc1 : mb < c1) (hc2 : mb < c2) :
    Calls Tryd.prog 100 #[.int .i64 (k : Int), .pointer (some ⟨c1, 0, none⟩), .pointer (some ⟨c2, 0, none⟩)] w fun e w' => e = .returned (.bool (decide (1 + mostS l ts (s ||| 2 ^ k) = mostS l ts s))) ∧ Turned mb (mb + 1) w w' ∧ MemoG Tryd.prog KeyG mb (q + tol + tol) (mostS l ts) w' := by
  have h256 : s < 256 := Nat.lt_of_lt_of_le hs (Nat.le_trans (Nat.pow_le_pow_right (by decide) hm8) (by decide))
  have hlt1 : c1 < w.heap.size := World.block_lt_of_cell? w _ y1
  have hlt2 : c2 < w.heap.size := World.block_lt_of_cell? w _ y2
  have HS : Hid (∀ w', Turned mb (mb + 1) w w' → w'.cell? ⟨c1, 0, none⟩ = some (.pointer (some ⟨xb, 0, none⟩)) ∧ w'.cell? ⟨c2, 0, none⟩ = some (.int .u64 (s : Int))) := fun w' h =>
    ⟨(World.cell?_of_block (w := w) (a := ⟨c1, 0, none⟩) (h.block c1 hlt1 (.inr (by omega)))).trans y1, (World.cell?_of_block (w := w) (a := ⟨c2, 0, none⟩) (h.block c2 hlt2 (.inr (by omega)))).trans y2⟩
  have WI := fun W => with_any s k W (by omega) (by omega)
  have HT0 : Hid (Turned mb (mb + 1) w w.drew) := Turned.of (Below.refl _ _).drew
  have M1 := Lib.hid (hT (s ||| 2 ^ k) w.drew q (or_lt hs hk) (by omega) (hx.below (Below.refl _ _).drew) (hmem.below (Below.refl _ _).drew))
  have M2 : Hid (∀ W, Turned mb (mb + 1) w W → MemoG Tryd.prog KeyG mb (q + tol) (mostS l ts) W → Calls Tryd.prog 51 #[.pointer (some ⟨xb, 0, none⟩), .int .u64 (s : Int)] W fun e w' => e = .returned (.int .i64 (mostS l ts s : Nat)) ∧ Turned mb (mb + 1) W w' ∧ MemoG Tryd.prog KeyG mb (q + tol + tol) (mostS l ts) w') := fun W h hme => hT s W (q + tol) hs (by omega) (hx.turned h) hme
  have hl1 := mostS_le l ts (s ||| 2 ^ k)
  have hl2 := mostS_le l ts s
  rw [hTS.out] at hl1 hl2
  clear hT hx hmem y1 y2 hq
  generalize mostS l ts (s ||| 2 ^ k) = A at M1 hl1 ⊢
  generalize s ||| 2 ^ k = s2 at M1 WI
  generalize hB : mostS l ts s = B at M2 hl2 ⊢
  clear hB
  have hA0 : (0 : Int) ≤ (A : Int) := by omega
  have HW : Hid (IntKind.i64.wrap (1 + (A : Int)) = 1 + (A : Int)) := by unfold Hid; rw [IntKind.wrap_i64]; omega
  rcases eq_ways (1 + (A : Int)) (B : Int) with ⟨⟨e4, e5⟩, e6⟩ | ⟨⟨e4, e5⟩, e6⟩
  · have HR : Hid (decide (1 + A = B) = true) := decide_eq_true (by omega)
    clear e6
    go_enter Tryd.func100, Tryd.ntmps100
    go_wp2_with fail
    go_region_held3 (fun w' => w'.cell? ⟨c1, 0, none⟩ = some (.pointer (some ⟨xb, 0, none⟩)) ∧ w'.cell? ⟨c2, 0, none⟩ = some (.int .u64 (s : Int))) (first | exact HS.out _ HT0.out | exact HS.out _ D2.out | exact HS.out _ D3.out) (first | (go_at_call 56; refine (WI _).mono ?_; rintro e w' ⟨rfl, rfl⟩) | (go_at_call_of 51 s2; refine M1.out.mono ?_; rintro e w2 ⟨rfl, ht2, hm2⟩; have D2 : Hid (Turned mb (mb + 1) w w2) := HT0.out.trans ht2) | (go_at_call_of 51 s; refine (M2.out _ D2.out hm2).mono ?_; rintro e w3 ⟨rfl, ht3, hm3⟩; have D3 : Hid (Turned mb (mb + 1) w w3) := D2.out.trans ht3))
    all_goals
      go_wp2
      go_ret
      exact ⟨ret_bool (by rw [HW.out, e4]; exact HR.out.symm), D3.out, hm3⟩
  · have HR : Hid (decide (1 + A = B) = false) := decide_eq_false (by omega)
    clear e6
    go_enter Tryd.func100, Tryd.ntmps100
    go_wp2_with fail
    go_region_held3 (fun w' => w'.cell? ⟨c1, 0, none⟩ = some (.pointer (some ⟨xb, 0, none⟩)) ∧ w'.cell? ⟨c2, 0, none⟩ = some (.int .u64 (s : Int))) (first | exact HS.out _ HT0.out | exact HS.out _ D2.out | exact HS.out _ D3.out) (first | (go_at_call 56; refine (WI _).mono ?_; rintro e w' ⟨rfl, rfl⟩) | (go_at_call_of 51 s2; refine M1.out.mono ?_; rintro e w2 ⟨rfl, ht2, hm2⟩; have D2 : Hid (Turned mb (mb + 1) w w2) := HT0.out.trans ht2) | (go_at_call_of 51 s; refine (M2.out _ D2.out hm2).mono ?_; rintro e w3 ⟨rfl, ht3, hm3⟩; have D3 : Hid (Turned mb (mb + 1) w w3) := D2.out.trans ht3))
    all_goals
      go_wp2
      go_ret
      exact ⟨ret_bool (by rw [HW.out, e4]; exact HR.out.symm), D3.out, hm3⟩

theorem filtK_sorted (p : Nat → Bool) (m : Nat) : (filtK p m).Pairwise (· < ·) := by
  unfold filtK
  exact List.Pairwise.sublist List.filter_sublist List.pairwise_lt_range
/-- The first number of a list of those that can go which is good is the first good one. -/
theorem firstK_in {l : List Int} {ts : List TGuest} {s m j : Nat} (hm : Hid (ts.length = m)) (hm8 : m ≤ 8) (hj : j < (filtK (canS l ts s) m).length) (hg : 1 + mostS l ts (s ||| 2 ^ (filtK (canS l ts s) m)[j]) = mostS l ts s)
    (hb : ∀ i (h : i < (filtK (canS l ts s) m).length), i < j → ¬ 1 + mostS l ts (s ||| 2 ^ (filtK (canS l ts s) m)[i]) = mostS l ts s) : firstK l ts s = (filtK (canS l ts s) m)[j] := by
  obtain ⟨h1, h2⟩ := filtK_lt (List.getElem_mem hj)
  refine firstK_at (by rw [hm.out]; exact hm8) (by rw [hm.out]; exact h1) (by unfold goodP; rw [h2, decide_eq_true hg]; rfl) (fun i hi => ?_)
  cases hgi : goodP l ts s i with
  | false => rfl
  | true =>
    exfalso
    unfold goodP at hgi
    rw [Bool.and_eq_true] at hgi
    have hmem : i ∈ filtK (canS l ts s) m := filtK_mem (by omega) hgi.1
    obtain ⟨i2, hi2, rfl⟩ := List.getElem_of_mem hmem
    have hlt : i2 < j := by
      rcases Nat.lt_trichotomy i2 j with h | h | h
      · exact h
      · subst h; omega
      · have := List.pairwise_iff_getElem.1 (filtK_sorted (canS l ts s) m) j i2 hj hi2 h
        omega
    exact hb i2 hi2 hlt (of_decide_eq_true hgi.2)

set_option maxRecDepth 100000 in
set_option maxHeartbeats 4000000 in
theorem indexGood_any (tol : Nat) (wb : World) (xb mb m q c1 c2 s n cap : Nat) (a : Option Addr) (v0 v1 : Value) (l : List Int) (ts : List TGuest) (w : World) (hm8 : m ≤ 8) (hTS : Hid (ts.length = m))
    (hT : Told tol wb xb mb m v0 v1 (mostS l ts)) (hx : ExcAt wb xb mb v0 v1 w) (hmem : MemoG Tryd.prog KeyG mb q (mostS l ts) w) (hq : q + 16 * tol ≤ 1000000000000000) (hs : s < 2 ^ m)
    (y1 : w.cell? ⟨c1, 0, none⟩ = some (.pointer (some ⟨xb, 0, none⟩))) (y2 : w.cell? ⟨c2, 0, none⟩ = some (.int .u64 (s : Int))) (hc1 : mb < c1) (hc2 : mb < c2)
    (hr : ∀ W, Turned mb (mb + 1) w W → RI W a ((filtK (canS l ts s) m).map (fun (k : Nat) => (k : Int)))) (hn : Hid ((filtK (canS l ts s) m).length = n)) (hpos : 0 < mostS l ts s) :
    Calls Tryd.prog 99 #[.slice a n cap, .func (.func 100) #[] #[.pointer (some ⟨c1, 0, none⟩), .pointer (some ⟨c2, 0, none⟩)]] w fun e w' => (∃ j : Nat, j < n ∧ e = .returned (.int .i64 (j : Int)) ∧ Hid (∀ h : j < (filtK (canS l ts s) m).length, (filtK (canS l ts s) m)[j] = firstK l ts s)) ∧ Turned mb (mb + 1) w w' ∧ MemoG Tryd.prog KeyG mb (q + 16 * tol) (mostS l ts) w' := by
  have hlt1 : c1 < w.heap.size := World.block_lt_of_cell? w _ y1
  have hlt2 : c2 < w.heap.size := World.block_lt_of_cell? w _ y2
  have hn8 : n ≤ 8 := by
    have := filtN_len (canS l ts s) m
    rw [filtN_K, List.length_map, hn.out] at this
    omega
  have GT : Hid (∀ (W : World) (k q2 : Nat), Turned mb (mb + 1) w W → k < m → MemoG Tryd.prog KeyG mb q2 (mostS l ts) W → q2 + tol + tol ≤ 1000000000000000 → Calls Tryd.prog 100 #[.int .i64 (k : Int), .pointer (some ⟨c1, 0, none⟩), .pointer (some ⟨c2, 0, none⟩)] W fun e w' => e = .returned (.bool (decide (1 + mostS l ts (s ||| 2 ^ k) = mostS l ts s))) ∧ Turned mb (mb + 1) W w' ∧ MemoG Tryd.prog KeyG mb (q2 + tol + tol) (mostS l ts) w') := fun W k q2 h hk hme hq2 =>
    goodT_any tol wb xb mb m q2 c1 c2 s k v0 v1 l ts W hm8 hTS hT (hx.turned h) hme hq2 hs hk ((World.cell?_of_block (w := w) (a := ⟨c1, 0, none⟩) (h.block c1 hlt1 (.inr (by omega)))).trans y1) ((World.cell?_of_block (w := w) (a := ⟨c2, 0, none⟩) (h.block c2 hlt2 (.inr (by omega)))).trans y2) hc1 hc2
  have HFI : Hid (∀ j (hj : j < (filtK (canS l ts s) m).length), 1 + mostS l ts (s ||| 2 ^ (filtK (canS l ts s) m)[j]) = mostS l ts s → (∀ i (h : i < (filtK (canS l ts s) m).length), i < j → ¬ 1 + mostS l ts (s ||| 2 ^ (filtK (canS l ts s) m)[i]) = mostS l ts s) → (filtK (canS l ts s) m)[j] = firstK l ts s) := fun j hj h1 h2 => (firstK_in hTS hm8 hj h1 h2).symm
  have HEX : Hid (¬ ∀ i (h : i < (filtK (canS l ts s) m).length), ¬ 1 + mostS l ts (s ||| 2 ^ (filtK (canS l ts s) m)[i]) = mostS l ts s) := fun hno => by
    obtain ⟨k, h1, h2, h3⟩ := mostS_at hpos
    obtain ⟨i, hi, he⟩ := List.getElem_of_mem (filtK_mem (by rw [hTS.out] at h1; exact h1) h2)
    exact hno i hi (by rw [he]; exact h3)
  have HKM : Hid (∀ k ∈ filtK (canS l ts s) m, k < m) := fun k h => (filtK_lt h).1
  have HRI := Lib.hid hr
  have HQ := Lib.hid hq
  have HMEM := Lib.hid hmem
  clear hT hx hmem hr hq hpos hlt1 hlt2 y1 y2
  generalize filtK (canS l ts s) m = ks at HRI hn HFI HEX HKM ⊢
  go_enter Tryd.func99, Tryd.ntmps99
  go_wp2_with fail
  go_loopw [8] (fun iv wr => ∃ j : Nat, j ≤ n ∧ iv = .int .i64 (j : Int) ∧ Hid (Turned mb (mb + 1) w wr) ∧ Hid (MemoG Tryd.prog KeyG mb (q + 2 * j * tol) (mostS l ts) wr) ∧ Hid (∀ i (h : i < ks.length), i < j → ¬ 1 + mostS l ts (s ||| 2 ^ ks[i]) = mostS l ts s)) (fun iv _ => n - (intOf iv).toNat)
  case atStart => exact ⟨0, by omega, rfl, Turned.refl _ _ _, by unfold Hid; simpa using HMEM.out, fun i _ hi => by omega⟩
  case round =>
    obtain ⟨j, hj, rfl, HTU, HME, HALL⟩ := hrel
    by_cases hlt : j < n
    · have hjk : j < ks.length := by rw [hn.out]; exact hlt
      obtain ⟨bm, om, he, hbm, xm⟩ := (HRI.out _ HTU.out).at_ j (by rw [List.length_map]; exact hjk)
      subst he
      rw [List.getElem_map] at xm
      have hkm := HKM.out _ (List.getElem_mem hjk)
      have h2j : 2 * (j + 1) * tol ≤ 16 * tol := Nat.mul_le_mul_right _ (by omega)
      have hsj : 2 * (j + 1) * tol = 2 * j * tol + tol + tol := by rw [show 2 * (j + 1) = 2 * j + 1 + 1 by omega, Nat.succ_mul, Nat.succ_mul]
      have hq0 := HQ.out
      have GI := GT.out wr ks[j] (q + 2 * j * tol) HTU.out hkm HME.out (by omega)
      have hqe : q + 2 * j * tol + tol + tol = q + 2 * (j + 1) * tol := by omega
      rw [hqe] at GI
      have HYES : Hid (1 + mostS l ts (s ||| 2 ^ ks[j]) = mostS l ts s → ks[j] = firstK l ts s) := fun h => HFI.out j hjk h HALL.out
      have HNO : Hid (¬ 1 + mostS l ts (s ||| 2 ^ ks[j]) = mostS l ts s → ∀ i (h : i < ks.length), i < j + 1 → ¬ 1 + mostS l ts (s ||| 2 ^ ks[i]) = mostS l ts s) := fun h i hi hij => if e : i = j then (by subst e; exact h) else HALL.out i hi (by omega)
      have HMO : Hid (q + 2 * (j + 1) * tol ≤ q + 16 * tol) := by unfold Hid; omega
      have hj0 : (0 : Int) ≤ (j : Int) := by omega
      have hj1 : (j : Int) < (n : Int) := by omega
      clear h2j hsj hq0 hqe
      obtain ⟨k, hk⟩ : ∃ k, k = ks[j] := ⟨_, rfl⟩
      rw [← hk] at xm GI HYES HNO hkm
      by_cases hgd : 1 + mostS l ts (s ||| 2 ^ k) = mostS l ts s
      · have HR := Lib.hid (HYES.out hgd)
        have HK := Lib.hid hk
        rw [decide_eq_true hgd] at GI
        clear hgd HYES HNO hk
        go_wp2_with fail
        refine GI.mono ?_
        rintro e w2 ⟨rfl, ht2, hm2⟩
        go_wp2_with fail
        go_ret
        exact ⟨⟨j, hlt, rfl, fun h => by rw [← HK.out]; exact HR.out⟩, HTU.out.trans ht2, hm2.mono HMO.out⟩
      · have HN := Lib.hid (HNO.out hgd)
        rw [decide_eq_false hgd] at GI
        clear hgd HYES HNO hk
        go_wp2_with fail
        refine GI.mono ?_
        rintro e w2 ⟨rfl, ht2, hm2⟩
        go_wp2_with fail
        go_roundw
        case rel => exact ⟨j + 1, by omega, by go_num, HTU.out.trans ht2, hm2, HN⟩
        case measure => simp [intOf]; omega
    · exfalso
      exact HEX.out (fun i h => HALL.out i h (by rw [hn.out] at h; omega))
end Go.Proofs.YtkfeihnapcfkgaaDoor
