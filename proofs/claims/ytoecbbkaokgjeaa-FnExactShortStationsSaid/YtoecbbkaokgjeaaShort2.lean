/-
  ShortStations: the program's walk (balanceOf, missing).
-/
import Derived.Test.YtoecbbkaokgjeaaShort
import Derived.StillTailTactics
namespace Go.Proofs.Ytoecbbkaokgjeaa
open Go.RowKit

theorem info2w : (Try.prog.info? 2).map (fun i => (i.zero, i.size, i.bytes)) = some (some (.int .i64 0), 1, 8) := by kernel_rfl
def negL (b : List Int) (k : Nat) : List Int := (List.range k).map fun i => max 0 (-(b.getD i 0))
theorem negL_len (b : List Int) (k : Nat) : (negL b k).length = k := by simp [negL]
theorem negL_get (b : List Int) (k i : Nat) (h : i < (negL b k).length) : (negL b k)[i] = max 0 (-(b.getD i 0)) := by simp [negL]
theorem neg_bal (l ws : List Int) (n : Nat) : negL (balL l ws n) n = missL l ws n := by
  apply List.ext_getElem (by rw [negL_len, missL_len])
  intro i h1 h2
  rw [negL_get, missL_get, getD_at (by rw [balL_len]; rw [negL_len] at h1; exact h1), balL_get]
  unfold missI
  omega
theorem filled_next {ns : List Int} {cur : Array Value} {k : Nat} {x : Int} (h : FilledI ns cur k) (hs : cur.size = ns.length) (hk : k < ns.length) (hx : ns[k] = x) : FilledI ns (cur.setIfInBounds k (.int .i64 x)) (k + 1) := by
  subst hx
  exact h.step hs hk

set_option maxRecDepth 20000 in
set_option maxHeartbeats 4000000 in
theorem balanceOf_any (a b : Option Addr) (l ws : List Int) (n ca cb : Nat) (w : World) (hn : Hid (l.length = n)) (ha : RI w a l) (hm : Hid (ws.length = n)) (hb : RI w b ws) (hn10 : n ≤ 10) (hl : ∀ i (h : i < l.length), 0 ≤ l[i] ∧ l[i] ≤ 200) (hw : ∀ i (h : i < ws.length), 0 ≤ ws[i] ∧ ws[i] ≤ 200) :
    Calls Try.prog 54 #[.slice a n ca, .slice b n cb] w (GivesInts (balL l ws n) n w) := by
  have HA : Hid (∀ w', Below w.heap.size w w' → RI w' a l) := fun w' h => ha.below h
  have HB : Hid (∀ w', Below w.heap.size w w' → RI w' b ws) := fun w' h => hb.below h
  have HL := Lib.hid hl
  have HW := Lib.hid hw
  clear ha hb hl hw
  obtain ⟨i0, hi, hz0, hz1, hz2⟩ := info_parts info2w
  have hmk := run_make_rowN (P := Try.prog) 65 2 i0 _ Try.underlying65 hi hz0 .i64 .i64 n n (Nat.le_refl _) (by rw [hz2]; omega) (by omega)
  rw [hz1] at hmk
  clear hi hz0 hz1 hz2
  have HSZ : Hid ((madeCells (Value.cells (.int .i64 0)) (n * 1)).size = n) := by unfold Hid; rw [size_madeCells]; omega
  generalize madeCells (Value.cells (.int .i64 0)) (n * 1) = cur0 at hmk HSZ
  go_enter Try.func54, Try.ntmps54
  go_wp2
  clear hmk
  go_loopw [12] (fun i wr => ∃ (k : Nat) (cur : Array Value), k ≤ n ∧ i = .int .i64 k ∧ Hid (Below w.heap.size w wr) ∧ Hid (wr.heap[w.heap.size]? = some (.cells cur 2 (0, 0))) ∧ Hid (cur.size = n) ∧ Hid (FilledI (balL l ws n) cur k)) (fun i _ => n - (intOf i).toNat)
  case atStart => exact ⟨0, cur0, by omega, rfl, (Below.refl _ _).alloc (Nat.le_refl _) _, heap_alloc_new w _, HSZ, fun _ _ h => by omega⟩
  case round =>
    obtain ⟨k, cur, hk, rfl, HBEL, HG, HS, HFIL⟩ := hrel
    by_cases hlt : k < n
    · have hka : k < l.length := by rw [hn.out]; exact hlt
      have hkb : k < ws.length := by rw [hm.out]; exact hlt
      have hkc : k < (balL l ws n).length := by rw [balL_len]; exact hlt
      have hat := HL.out k hka
      have hbt := HW.out k hkb
      have HST : Hid (FilledI (balL l ws n) (cur.setIfInBounds k (.int .i64 (l[k] - ws[k]))) (k + 1)) := filled_next HFIL.out (by rw [HS.out, balL_len]) hkc (by rw [balL_get, getD_at hka, getD_at hkb])
      obtain ⟨ba, oa, rfl, _, x1⟩ := (HA.out _ HBEL.out).at_ k hka
      obtain ⟨bb, ob, rfl, _, y1⟩ := (HB.out _ HBEL.out).at_ k hkb
      generalize l[k] = t at x1 hat HST
      generalize ws[k] = u at y1 hbt HST
      have hk0 : (0 : Int) ≤ (k : Int) := by omega
      have hk1 : (k : Int) < (n : Int) := by omega
      have o1 : wr.cell? ⟨w.heap.size, k, none⟩ = some (cur[k]'(by rw [HS.out]; exact hlt)) := by rw [cell_of_row wr _ _ cur _ (0, 0) HG.out]; exact Array.getElem?_eq_getElem _
      have z1 := frozen_of_row wr w.heap.size k cur _ HG.out
      generalize cur[k]'(by rw [HS.out]; exact hlt) = o at o1
      go_wp2_with fail
      go_still_tail 12, (by kernel_rfl)
      change wpList _ _ _ _ _ wr.drew
      have o2 : wr.drew.cell? ⟨w.heap.size, k, none⟩ = some o := o1
      have z2 : wr.drew.frozen? ⟨w.heap.size, k, none⟩ = false := z1
      have HB2 : Hid (Below w.heap.size w wr.drew) := HBEL.out.drew
      have HG2 : Hid (wr.drew.heap[w.heap.size]? = some (.cells cur 2 (0, 0))) := HG.out
      clear x1 y1 o1 z1 HBEL HG
      generalize wr.drew = w2 at o2 z2 HB2 HG2
      go_wp2
      go_roundw
      case rel => exact ⟨k + 1, _, by omega, by go_num, HB2.out.setCell (Nat.le_refl _) _, heap_setCell_same _ _ _ _ _ _ HG2.out, by unfold Hid; simp; exact HS.out, HST⟩
      case measure => simp [intOf]; omega
    · go_wp2
      go_ret
      exact givesI_of (balL_len _ _ _) rfl (Nat.le_refl _) HBEL.out HG.out HS.out (by rw [balL_len]; omega) (fun i hi _ => HFIL.out i hi (by rw [balL_len] at hi; omega))

set_option maxRecDepth 20000 in
set_option maxHeartbeats 4000000 in
theorem missing_any (a : Option Addr) (b : List Int) (n ca : Nat) (w : World) (hn : Hid (b.length = n)) (ha : RI w a b) (hn10 : n ≤ 10) (hb : ∀ i (h : i < b.length), -200 ≤ b[i] ∧ b[i] ≤ 200) :
    Calls Try.prog 55 #[.slice a n ca] w (GivesInts (negL b n) n w) := by
  have HA : Hid (∀ w', Below w.heap.size w w' → RI w' a b) := fun w' h => ha.below h
  have HL := Lib.hid hb
  clear ha hb
  obtain ⟨i0, hi, hz0, hz1, hz2⟩ := info_parts info2w
  have hmk := run_make_rowN (P := Try.prog) 22 2 i0 _ Try.underlying22 hi hz0 .i64 .i64 n n (Nat.le_refl _) (by rw [hz2]; omega) (by omega)
  rw [hz1] at hmk
  clear hi hz0 hz1 hz2
  have HSZ : Hid ((madeCells (Value.cells (.int .i64 0)) (n * 1)).size = n) := by unfold Hid; rw [size_madeCells]; omega
  generalize madeCells (Value.cells (.int .i64 0)) (n * 1) = cur0 at hmk HSZ
  go_enter Try.func55, Try.ntmps55
  go_wp2
  clear hmk
  go_loopw [11] (fun i wr => ∃ (k : Nat) (cur : Array Value), k ≤ n ∧ i = .int .i64 k ∧ Hid (Below w.heap.size w wr) ∧ Hid (wr.heap[w.heap.size]? = some (.cells cur 2 (0, 0))) ∧ Hid (cur.size = n) ∧ Hid (FilledI (negL b n) cur k)) (fun i _ => n - (intOf i).toNat)
  case atStart => exact ⟨0, cur0, by omega, rfl, (Below.refl _ _).alloc (Nat.le_refl _) _, heap_alloc_new w _, HSZ, fun _ _ h => by omega⟩
  case round =>
    obtain ⟨k, cur, hk, rfl, HBEL, HG, HS, HFIL⟩ := hrel
    by_cases hlt : k < n
    · have hka : k < b.length := by rw [hn.out]; exact hlt
      have hkc : k < (negL b n).length := by rw [negL_len]; exact hlt
      have hat := HL.out k hka
      have HST : Hid (FilledI (negL b n) (cur.setIfInBounds k (.int .i64 (max 0 (-b[k])))) (k + 1)) := filled_next HFIL.out (by rw [HS.out, negL_len]) hkc (by rw [negL_get, getD_at hka])
      obtain ⟨ba, oa, rfl, _, x1⟩ := (HA.out _ HBEL.out).at_ k hka
      generalize b[k] = t at x1 hat HST
      have hk0 : (0 : Int) ≤ (k : Int) := by omega
      have hk1 : (k : Int) < (n : Int) := by omega
      have o1 : wr.cell? ⟨w.heap.size, k, none⟩ = some (cur[k]'(by rw [HS.out]; exact hlt)) := by rw [cell_of_row wr _ _ cur _ (0, 0) HG.out]; exact Array.getElem?_eq_getElem _
      have z1 := frozen_of_row wr w.heap.size k cur _ HG.out
      generalize cur[k]'(by rw [HS.out]; exact hlt) = o at o1
      go_wp2
      go_roundw
      case rel => exact ⟨k + 1, _, by omega, by go_num, HBEL.out.setCell (Nat.le_refl _) _, heap_setCell_same _ _ _ _ _ _ HG.out, by unfold Hid; simp; exact HS.out, HST⟩
      case measure => simp [intOf]; omega
    · go_wp2
      go_ret
      exact givesI_of (negL_len _ _) rfl (Nat.le_refl _) HBEL.out HG.out HS.out (by rw [negL_len]; omega) (fun i hi _ => HFIL.out i hi (by rw [negL_len] at hi; omega))

theorem balL_bd {l ws : List Int} {n : Nat} (hn : l.length = n) (hm : ws.length = n) (hl : ∀ i (h : i < l.length), 0 ≤ l[i] ∧ l[i] ≤ 200) (hw : ∀ i (h : i < ws.length), 0 ≤ ws[i] ∧ ws[i] ≤ 200) : ∀ i (h : i < (balL l ws n).length), -200 ≤ (balL l ws n)[i] ∧ (balL l ws n)[i] ≤ 200 := by
  intro i h
  rw [balL_len] at h
  rw [balL_get, getD_at (by omega), getD_at (by omega)]
  have h1 := hl i (by omega)
  have h2 := hw i (by omega)
  omega

set_option maxHeartbeats 4000000 in
theorem implShortStations_any (w : World) {a0 : Option Addr} {n0 c0 : Nat} (l0 : List Int) (hn0 : Hid (l0.length = n0)) (h0 : RI w a0 l0) (hs0 : n0 ≤ 1048576) (_wf0 : Hid (∀ k ∈ l0, (Lit.int .i64 k).wf = true)) {a1 : Option Addr} {n1 c1 : Nat} (l1 : List Int) (hn1 : Hid (l1.length = n1)) (h1 : RI w a1 l1) (hs1 : n1 ≤ 1048576) (_wf1 : Hid (∀ k ∈ l1, (Lit.int .i64 k).wf = true)) :
    Calls Try.prog 28 #[.slice a0 n0 c0, .slice a1 n1 c1] w (GivesIs 2 (shortOf l0 l1) w) := by
  have CO := checkWants_any a0 a1 l0 l1 n0 c0 n1 c1 w hn0 h0 hs0 hn1 h1 hs1
  obtain ⟨c, hc⟩ : ∃ c, wcode l0 l1 = c := ⟨_, rfl⟩
  rw [hc] at CO
  rcases eq_ways c 0 with ⟨⟨e1, e2⟩, e3⟩ | ⟨⟨e1, e2⟩, e3⟩
  · subst e3
    obtain ⟨hst, hwt, hmn⟩ := wcode_ok hn0.out hn1.out hc
    have HR := Lib.hid (shortOf_good hn0.out hc)
    have hn10 : n0 ≤ 10 := by have := (stB_len hst).2; rw [hn0.out] at this; exact this
    subst hmn
    have BO := balanceOf_any a0 a1 l0 l1 n1 c0 c1 w hn0 h0 hn1 h1 hn10 (fun i hi => stB_at hst i hi) (fun i hi => wtB_at hwt i hi)
    have HBD := Lib.hid (balL_bd hn0.out hn1.out (fun i hi => stB_at hst i hi) (fun i hi => wtB_at hwt i hi))
    have HNB := Lib.hid (neg_bal l0 l1 n1)
    clear e1 e2 hst hwt hc h0 h1
    go_enter Try.func28, Try.ntmps28
    go_wp2_with (first | (go_at_call 53; refine CO.mono ?_; rintro e w' ⟨rfl, rfl⟩) | (go_at_call 54; refine BO.mono ?_; rintro e w1 ⟨g, rfl, hg, hb1, ho1⟩) | (go_at_call 55; refine (missing_any _ (balL l0 l1 n1) n1 n1 _ (balL_len _ _ _) (rowI_RI (balL_len _ _ _) ho1) hn10 HBD.out).mono ?_; rintro e w2 ⟨g2, rfl, hg2, hb2, ho2⟩))
    go_ret2
    rw [HNB.out] at ho2
    exact givesIs_of HR.out (two_worlds hb1 hb2) (missL_len _ _ _) (own_lo ho2 hb1.size)
  · have HR := Lib.hid (shortOf_bad hc e3)
    clear e3 hc h0 h1
    go_enter Try.func28, Try.ntmps28
    go_wp2_with (go_at_call 53; refine CO.mono ?_; rintro e w' ⟨rfl, rfl⟩)
    go_ret2
    exact givesIs_nil HR.out (Below.refl _ _)
end Go.Proofs.Ytoecbbkaokgjeaa
