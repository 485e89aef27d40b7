/-
  The level of a zone at a tick: the program's levelAt (by sort.Search) and the model's l09Level.
-/
import Derived.Test.YtghpefdleiebmaaHistOf
namespace Go.Proofs.Ytghpefdleiebmaa
open Go.RowKit

theorem zon_pairs {t : TZoned} (h : ZonP t) : t.2.2.Pairwise ltC := pairs_of h.2.2.2.2.2.2
set_option maxHeartbeats 1000000 in
theorem levFn_any (hb tb : Nat) (h : List C3) (a : Option Addr) (n cap : Nat) (tick : Int) (i : Nat) (W : World) (hn : Hid (h.length = n)) (hi : i < h.length) (hr : RR 3 cChange W a h) (c0 : W.cell? ⟨hb, 0, none⟩ = some (.slice a n cap)) (c1 : W.cell? ⟨tb, 0, none⟩ = some (.int .i64 tick)) :
    Calls Try.prog 89 #[.int .i64 (i : Int), .pointer (some ⟨hb, 0, none⟩), .pointer (some ⟨tb, 0, none⟩)] W fun e w' => e = .returned (.bool (decide (tick < h[i].1))) ∧ Below W.heap.size W w' := by
  obtain ⟨bb, ob, rfl, _, hx⟩ := hr.at_ i hi
  have x0 := hx 0 _ rfl
  simp only [Nat.add_zero] at x0
  have hin : i < n := by rw [← hn.out]; exact hi
  have hi0 : (0 : Int) ≤ (i : Int) := by omega
  have hi1 : (i : Int) < (n : Int) := by omega
  generalize h[i] = u at x0
  clear hx hr hi
  go_enter Try.func89, Try.ntmps89
  go_wp2_with fail
  go_quiet (fail)
  go_wp2
  go_ret
  exact ⟨ret_bool (by first | rfl | simp), Below.drewN' (Below.refl _ _) _⟩
set_option maxHeartbeats 1000000 in
theorem searchLev_any (hb tb : Nat) (h : List C3) (a : Option Addr) (n cap : Nat) (tick : Int) (w : World) (hn : Hid (h.length = n)) (hmax : n ≤ 1048576) (hs : Rising h) (hr : RR 3 cChange w a h) (c0 : w.cell? ⟨hb, 0, none⟩ = some (.slice a n cap)) (c1 : w.cell? ⟨tb, 0, none⟩ = some (.int .i64 tick)) :
    Calls Try.prog 88 #[.int .i64 (n : Int), .func (.func 89) #[] #[.pointer (some ⟨hb, 0, none⟩), .pointer (some ⟨tb, 0, none⟩)]] w
      fun e w' => (∃ c : Nat, e = .returned (.int .i64 (c : Int)) ∧ c ≤ n ∧ Hid (levH h tick = lastL (h.take c))) ∧ Below w.heap.size w w' := by
  have FN : Hid (∀ W, Below w.heap.size w W → ∀ (i : Nat) (hi : i < h.length), Calls Try.prog 89 #[.int .i64 (i : Int), .pointer (some ⟨hb, 0, none⟩), .pointer (some ⟨tb, 0, none⟩)] W fun e w' => e = .returned (.bool (decide (tick < h[i].1))) ∧ Below W.heap.size W w') := fun W hW i hi => levFn_any hb tb h a n cap tick i W hn hi (hr.below hW) (keepS hW c0) (keepS hW c1)
  have HS := Lib.hid hs
  clear hr c0 c1 hs
  go_enter Try.func88, Try.ntmps88
  go_wp2
  go_loopw [5, 6] (fun x y wr => ∃ lo hi : Nat, x = .int .i64 lo ∧ y = .int .i64 hi ∧ lo ≤ hi ∧ hi ≤ n ∧ Hid (Below w.heap.size w wr) ∧ Hid ((∀ i (h1 : i < h.length), i < lo → h[i].1 ≤ tick) ∧ (∀ i (h1 : i < h.length), hi ≤ i → tick < h[i].1))) (fun x y _ => (intOf y).toNat - (intOf x).toNat)
  case atStart => exact ⟨0, n, rfl, rfl, Nat.zero_le _, Nat.le_refl _, Below.refl _ _, ⟨fun i _ hi => by omega, fun i h1 h2 => by rw [hn.out] at h1; omega⟩⟩
  case round =>
    obtain ⟨lo, hi, rfl, rfl, hlh, hin, HBEL, I⟩ := hrel
    by_cases hlt : lo < hi
    · have hmid : (lo + hi) / 2 < h.length := by rw [hn.out]; omega
      have hc := FN.out wr HBEL.out ((lo + hi) / 2) hmid
      rw [show (((lo + hi) / 2 : Nat) : Int) = ((lo : Int) + (hi : Int)) / 2 by omega] at hc
      have HC := Lib.hid hc
      clear hc
      by_cases hp : tick < (h[(lo + hi) / 2]).1
      · have HI : Hid ((∀ i (h1 : i < h.length), i < lo → h[i].1 ≤ tick) ∧ (∀ i (h1 : i < h.length), (lo + hi) / 2 ≤ i → tick < h[i].1)) := ⟨I.out.1, fun i h1 h2 => by
          by_cases e : (lo + hi) / 2 = i
          · subst e; exact hp
          · have := List.pairwise_iff_getElem.1 HS.out ((lo + hi) / 2) i hmid h1 (by omega)
            omega⟩
        rw [decide_eq_true hp] at HC
        clear I hp
        go_wp2_with fail
        refine HC.out.mono ?_
        rintro e w2 ⟨rfl, hb2⟩
        have HB2 : Hid (Below w.heap.size w w2) := HBEL.out.trans (hb2.mono HBEL.out.size)
        clear hb2 HC
        go_wp2
        go_roundw
        case rel => exact ⟨lo, (lo + hi) / 2, rfl, by go_num, by omega, by omega, HB2, HI⟩
        case measure => simp [intOf]; omega
      · have HI : Hid ((∀ i (h1 : i < h.length), i < (lo + hi) / 2 + 1 → h[i].1 ≤ tick) ∧ (∀ i (h1 : i < h.length), hi ≤ i → tick < h[i].1)) := ⟨fun i h1 h2 => by
          by_cases e : i = (lo + hi) / 2
          · subst e; omega
          · have := List.pairwise_iff_getElem.1 HS.out i ((lo + hi) / 2) h1 hmid (by omega)
            omega, I.out.2⟩
        rw [decide_eq_false hp] at HC
        clear I hp
        go_wp2_with fail
        refine HC.out.mono ?_
        rintro e w2 ⟨rfl, hb2⟩
        have HB2 : Hid (Below w.heap.size w w2) := HBEL.out.trans (hb2.mono HBEL.out.size)
        clear hb2 HC
        go_wp2
        go_roundw
        case rel => exact ⟨(lo + hi) / 2 + 1, hi, by go_num, rfl, by omega, hin, HB2, HI⟩
        case measure => simp [intOf]; omega
    · have e : lo = hi := by omega
      subst e
      have HR := Lib.hid (levH_take HS.out (by rw [hn.out]; exact hin) (fun i h1 h2 => I.out.1 i h1 h2) (fun i h1 h2 => I.out.2 i h1 h2))
      go_wp2
      go_ret
      exact ⟨⟨lo, rfl, hin, HR⟩, HBEL.out⟩
set_option maxHeartbeats 1000000 in
theorem levelAt_any (h : List C3) (a : Option Addr) (n cap : Nat) (tick : Int) (w : World) (hn : Hid (h.length = n)) (hmax : n ≤ 1048576) (hs : Rising h) (hr : RR 3 cChange w a h) :
    Calls Try.prog 55 #[.slice a n cap, .int .i64 tick] w fun e w' => e = .returned (.int .i64 (levH h tick)) ∧ Below w.heap.size w w' := by
  have SR : Hid (∀ W, Below w.heap.size w W → ∀ hb tb, W.cell? ⟨hb, 0, none⟩ = some (.slice a n cap) → W.cell? ⟨tb, 0, none⟩ = some (.int .i64 tick) → Calls Try.prog 88 #[.int .i64 (n : Int), .func (.func 89) #[] #[.pointer (some ⟨hb, 0, none⟩), .pointer (some ⟨tb, 0, none⟩)]] W
      fun e w' => (∃ c : Nat, e = .returned (.int .i64 (c : Int)) ∧ c ≤ n ∧ Hid (levH h tick = lastL (h.take c))) ∧ Below W.heap.size W w') := fun W hW hb tb c0 c1 => searchLev_any hb tb h a n cap tick W hn hmax hs (hr.below hW) c0 c1
  have HR : Hid (∀ W, Below w.heap.size w W → RR 3 cChange W a h) := fun W hW => hr.below hW
  clear hr hs
  go_enter Try.func55, Try.ntmps55
  go_wp2_with fail
  refine (SR.out _ (by repeat (first | exact Below.refl _ _ | refine Below.alloc ?_ (by simp; try omega) _ | refine Below.setCell ?_ (by simp; try omega) _)) _ _ (by simp [go_sem]) (by simp [go_sem])).mono ?_
  rintro e w1 ⟨⟨c, rfl, hc, HL⟩, hb1⟩
  have HB1 : Hid (Below w.heap.size w w1) := Below.trans (by repeat (first | exact Below.refl _ _ | refine Below.alloc ?_ (by simp; try omega) _ | refine Below.setCell ?_ (by simp; try omega) _)) (hb1.mono (by simp; omega))
  have q0 : w1.cell? ⟨w.heap.size, 0, none⟩ = some (.slice a n cap) := keepS hb1 (by simp [go_sem])
  clear hb1
  by_cases hz : c = 0
  · subst hz
    have HV : Hid (levH h tick = 0) := HL.out.trans rfl
    clear HL
    go_wp2
    go_ret
    exact ⟨ret_int HV.out.symm, HB1.out⟩
  · have hcl : c - 1 < h.length := by rw [hn.out]; omega
    have HV : Hid (levH h tick = (h[c - 1]).2.2) := by
      refine HL.out.trans ?_
      obtain ⟨c', rfl⟩ : ∃ c', c = c' + 1 := ⟨c - 1, by omega⟩
      exact lastL_take (by omega)
    obtain ⟨bb, ob, rfl, hbl, hx⟩ := (HR.out _ HB1.out).at_ (c - 1) hcl
    have x2 := hx 2 _ rfl
    generalize h[c - 1] = u at HV x2
    have hz2 : ((c : Int) == 0) = false := by simp [hz]
    have hq0 : (0 : Int) ≤ (c : Int) - 1 := by omega
    have hq1 : (c : Int) - 1 < (n : Int) := by omega
    have hq2 : (1 : Int) ≤ (c : Int) := by omega
    have hq3 : 1 ≤ c := by omega
    clear hx HL hz
    go_wp2
    go_ret
    exact ⟨ret_int HV.out.symm, HB1.out⟩
set_option maxHeartbeats 2000000 in
theorem l09Level_any (zb : Nat) (t : TZoned) (b : Option Addr) (m d : Nat) (zone tick : Int) (w : World) (hm : Hid (t.2.2.length = m)) (hb : RR 3 cChange w b t.2.2) (hmax : m ≤ 1048576) (hs : t.2.2.Pairwise ltC)
    (p2 : w.cell? ⟨zb, 2, none⟩ = some (.slice b m d)) :
    Calls Try.prog 49 #[.pointer (some ⟨zb, 0, none⟩), .int .i64 zone, .int .i64 tick] w fun e w' => e = .returned (.int .i64 (levH (hisL t.2.2 zone) tick)) ∧ w = w' := by
  have HB := Lib.hid hb
  have HS := Lib.hid hs
  clear hb hs
  go_enter Try.func49, Try.ntmps49
  go_wp2
  go_loop [7, 8] (fun l i => ∃ k : Nat, k ≤ m ∧ i = .int .i64 k ∧ l = .int .i64 (lastL (hisL (t.2.2.take k) zone)) ∧ Hid (∀ j (h1 : j < t.2.2.length), j < k → t.2.2[j].1 ≤ tick)) (fun _ i => m - (intOf i).toNat)
  case atStart => exact ⟨0, by omega, rfl, by rw [List.take_zero]; rfl, fun j _ hj => by omega⟩
  case round =>
    obtain ⟨k, hk, rfl, rfl, HALL⟩ := hrel
    by_cases hlt : k < m
    · have hka : k < t.2.2.length := by rw [hm.out]; exact hlt
      obtain ⟨bb, ob, rfl, hbl, hx⟩ := HB.out.at_ k hka
      have x0 := hx 0 _ rfl
      have x1 := hx 1 _ rfl
      have x2 := hx 2 _ rfl
      simp only [Nat.add_zero] at x0
      have HHIT : Hid ((t.2.2[k]).2.1 = zone → lastL (hisL (t.2.2.take (k + 1)) zone) = (t.2.2[k]).2.2) := fun e => by rw [hisL_hit hka e, lastL_snoc]
      have HMISS : Hid (¬ (t.2.2[k]).2.1 = zone → lastL (hisL (t.2.2.take (k + 1)) zone) = lastL (hisL (t.2.2.take k) zone)) := fun e => by rw [hisL_miss hka e]
      have HEND : Hid (tick < (t.2.2[k]).1 → levH (hisL t.2.2 zone) tick = lastL (hisL (t.2.2.take k) zone)) := fun e => levH_all HS.out zone (by omega) HALL.out (fun _ => e)
      have HON : Hid ((t.2.2[k]).1 ≤ tick → ∀ j (h1 : j < t.2.2.length), j < k + 1 → t.2.2[j].1 ≤ tick) := fun e j h1 hj => if e2 : j = k then (by subst e2; exact e) else HALL.out j h1 (by omega)
      generalize t.2.2[k] = u at x0 x1 x2 HHIT HMISS HEND HON
      obtain ⟨u1, u2, u3⟩ := u
      dsimp only at x0 x1 x2
      generalize lastL (hisL (t.2.2.take k) zone) = l at HMISS HEND
      have hk0 : (0 : Int) ≤ (k : Int) := by omega
      have hk1 : (k : Int) < (m : Int) := by omega
      clear hx
      by_cases ht : u1 ≤ tick
      · have HON2 := Lib.hid (HON.out ht)
        rcases eq_ways u2 zone with ⟨⟨f1, f2⟩, f3⟩ | ⟨⟨f1, f2⟩, f3⟩
        · have HN := Lib.hid (HHIT.out f3)
          clear HHIT HMISS HEND HON f3
          go_wp2
          go_round
          case rel => exact ⟨k + 1, by omega, by go_num, by rw [HN.out], HON2⟩
          case measure => simp [intOf]; omega
        · have HN := Lib.hid (HMISS.out f3)
          clear HHIT HMISS HEND HON f3
          go_wp2
          go_round
          case rel => exact ⟨k + 1, by omega, by go_num, by rw [HN.out], HON2⟩
          case measure => simp [intOf]; omega
      · have HR := Lib.hid (HEND.out (by show tick < u1; omega))
        clear HHIT HMISS HEND HON
        go_wp2
        go_ret
        exact ⟨ret_int HR.out.symm, rfl⟩
    · have HR := Lib.hid (levH_all HS.out zone (b := k) (by rw [hm.out]; exact hk) HALL.out (fun h => by rw [hm.out] at h; omega))
      generalize lastL (hisL (t.2.2.take k) zone) = l at HR
      go_wp2
      go_ret
      exact ⟨ret_int HR.out.symm, rfl⟩
end Go.Proofs.Ytghpefdleiebmaa
