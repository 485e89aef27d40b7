/-
  The walks of the ends of runs: the model's l06End and EndOfRun, the program's passagesOf, end and EndOfRun.
-/
import Derived.Test.YtgjbahnloladfaaRunMath
namespace Go.Proofs.Ytgjbahnloladfaa
open Go.RowKit

theorem infoPass : (Try.prog.info? 72).map (fun i => (i.zero, i.size, i.bytes)) = some (some (.agg #[.int .i64 0, .int .i64 0, .int .i64 0]), 3, 24) := by kernel_rfl
theorem cPass_cells {w : World} {g : Nat} {cur : Array Value} {e : TypeId} (h : w.heap[g]? = some (.cells cur e (0, 0))) (k : Nat) (hk : k * 3 + 2 < cur.size) :
    (∃ v, w.cell? ⟨g, k * 3, none⟩ = some v) ∧ (∃ v, w.cell? ⟨g, k * 3 + 1, none⟩ = some v) ∧ (∃ v, w.cell? ⟨g, k * 3 + 2, none⟩ = some v) ∧ w.frozen? ⟨g, k * 3, none⟩ = false ∧ w.frozen? ⟨g, k * 3 + 1, none⟩ = false ∧ w.frozen? ⟨g, k * 3 + 2, none⟩ = false := by
  refine ⟨⟨cur[k * 3], ?_⟩, ⟨cur[k * 3 + 1], ?_⟩, ⟨cur[k * 3 + 2], ?_⟩, ?_, ?_, ?_⟩
  · rw [cell_of_row w g _ cur e (0, 0) h]; exact Array.getElem?_eq_getElem _
  · rw [cell_of_row w g _ cur e (0, 0) h]; exact Array.getElem?_eq_getElem _
  · rw [cell_of_row w g _ cur e (0, 0) h]; exact Array.getElem?_eq_getElem _
  all_goals exact frozen_of_row w g _ cur e h
theorem passRR_len {l : List Int} {t : TRun} {n : Nat} (hn : t.1.length = n) : (passOf l t).length = n := by rw [passOf_length]; exact hn

set_option maxHeartbeats 2000000 in
theorem l06End_any (pb : Nat) (a b : Option Addr) (l way : List Int) (s : Int) (n ca m cb : Nat) (w : World) (hn : Hid (l.length = n)) (ha : RI w a l) (hm : Hid (way.length = m)) (hb : RI w b way) (hok : RunOk l way s)
    (p0 : w.cell? ⟨pb, 0, none⟩ = some (.slice b m cb)) (p1 : w.cell? ⟨pb, 1, none⟩ = some (.int .i64 s)) :
    Calls Try.prog 61 #[.slice a n ca, .pointer (some ⟨pb, 0, none⟩)] w fun e w' => e = .returned (.int .i64 (tickAt l way s m)) ∧ w = w' := by
  have HA := Lib.hid ha
  have HB := Lib.hid hb
  have hmax : m ≤ 12 := by have := hok.ways; rw [hm.out] at this; omega
  have hmaxn : n ≤ 24 := by have := hok.len; rw [hn.out] at this; omega
  have HOK := Lib.hid hok
  clear ha hb hok
  go_enter Try.func61, Try.ntmps61
  go_wp2
  go_loop [5, 6] (fun ev iv => ∃ k : Nat, k ≤ m ∧ iv = .int .i64 k ∧ ev = .int .i64 (tickAt l way s k)) (fun _ iv => m - (intOf iv).toNat)
  case atStart => exact ⟨0, by omega, rfl, by rw [tickAt_zero]⟩
  case round =>
    obtain ⟨k, hk, rfl, rfl⟩ := hrel
    have htk := HOK.out.tick k (by rw [hm.out]; exact hk)
    by_cases hlt : k < m
    · have hka : k < way.length := by rw [hm.out]; exact hlt
      have HS := Lib.hid (tickAt_succ l way s k hka)
      obtain ⟨hx, htm, ht1, ht2⟩ := HOK.out.tm_at k hka
      obtain ⟨bb, ob, rfl, _, x1⟩ := HB.out.at_ k hka
      obtain ⟨ba, oa, rfl, _, y1⟩ := HA.out.at_ _ hx
      rw [← htm] at y1
      have hw0 := (HOK.out.tube k hka).1
      have hlx : way[k].toNat < n := by rw [← hn.out]; exact hx
      clear htm hx
      generalize htt : tm l way[k] = tt at y1 ht1 ht2 HS
      clear htt
      generalize way[k] = x at x1 y1 hw0 hlx
      obtain ⟨xn, rfl⟩ : ∃ xn : Nat, x = xn := ⟨x.toNat, by omega⟩
      rw [Int.toNat_natCast] at y1 hlx
      generalize tickAt l way s k = tk at htk HS
      have hk0 : (0 : Int) ≤ (k : Int) := by omega
      have hk1 : (k : Int) < (m : Int) := by omega
      have hx0 : (0 : Int) ≤ (xn : Int) := by omega
      have hx1 : (xn : Int) < (n : Int) := by omega
      go_wp2
      go_round
      case rel => exact ⟨k + 1, by omega, by go_num, by rw [HS.out]⟩
      case measure => simp [intOf]; omega
    · have hkm : k = m := by omega
      subst hkm
      go_wp2
      go_ret
      exact ⟨rfl, rfl⟩

set_option maxHeartbeats 2000000 in
theorem specEndOfRun_any (w : World) {a0 : Option Addr} {n0 c0 : Nat} (l0 : List Int) (hn0 : Hid (l0.length = n0)) (h0 : RI w a0 l0) (hs0 : n0 ≤ 1048576) (_wf0 : Hid (∀ k ∈ l0, (Lit.int .i64 k).wf = true)) {a1 : Option Addr} {n1 c1 : Nat} (t1 : TRun) (hn1 : Hid (t1.1.length = n1)) (h1 : RI w a1 t1.1) (hs1 : n1 ≤ 1048576) (_wf1 : Hid (wfRun t1)) :
    Calls Try.prog 37 #[.slice a0 n0 c0, .agg #[.slice a1 n1 c1, .int .i64 t1.2]] w fun e w' => e = .returned (.tuple #[.int .i64 (endOf l0 t1).1, .int .i64 (endOf l0 t1).2]) ∧ Below w.heap.size w w' := by
  obtain ⟨way, s⟩ := t1
  dsimp only at hn1 h1 ⊢
  have HA : Hid (∀ w', Below w.heap.size w w' → RI w' a0 l0) := fun w' h => h0.below h
  have HB : Hid (∀ w', Below w.heap.size w w' → RI w' a1 way) := fun w' h => h1.below h
  have OK : Hid (∀ W B, Below w.heap.size w W → B = W.heap.size → Calls Try.prog 51 #[.slice a0 n0 c0, .slice (some ⟨B, 0, none⟩) 1 1] (W.alloc (.cells #[.slice a1 n1 c1, .int .i64 s] 34)) fun e w' => e = .returned (.bool (rsB l0 [(way, s)])) ∧ (W.alloc (.cells #[.slice a1 n1 c1, .int .i64 s] 34)) = w') := fun W B h hB => by
    subst hB
    exact l06Ok_any a0 _ l0 [(way, s)] n0 c0 1 1 _ hn0 (HA.out _ (h.alloc h.size _)) hs0 rfl (RN.one hn1.out (HB.out _ h) hs1 _) (by omega)
  clear h0 h1
  cases hv : rsB l0 [(way, s)] with
  | false =>
    rw [hv] at OK
    have HR := Lib.hid (endOf_bad hv)
    go_enter Try.func37, Try.ntmps37
    go_wp2_with (go_at_call 51; refine (OK.out (w.alloc (.cells #[.slice a1 n1 c1, .int .i64 s] 34)) _ (by repeat (first | exact Below.refl _ _ | refine Below.alloc ?_ (by simp; try omega) _ | refine Below.setCell ?_ (by simp; try omega) _)) (by simp)).mono ?_; rintro e w' ⟨rfl, rfl⟩)
    go_ret2
    rw [HR.out]
    exact ⟨rfl, (by repeat (first | exact Below.refl _ _ | refine Below.alloc ?_ (by simp; try omega) _ | refine Below.setCell ?_ (by simp; try omega) _))⟩
  | true =>
    rw [hv] at OK
    have HR := Lib.hid (endOf_good hv)
    have HOK := Lib.hid (rsB_one hv)
    clear hv
    go_enter Try.func37, Try.ntmps37
    go_wp2_with (first | (go_at_call 51; refine (OK.out (w.alloc (.cells #[.slice a1 n1 c1, .int .i64 s] 34)) _ (by repeat (first | exact Below.refl _ _ | refine Below.alloc ?_ (by simp; try omega) _ | refine Below.setCell ?_ (by simp; try omega) _)) (by simp)).mono ?_; rintro e w' ⟨rfl, rfl⟩) | (go_at_call 61; refine (l06End_any _ a0 a1 l0 way s n0 c0 n1 c1 _ hn0 (HA.out _ (by repeat (first | exact Below.refl _ _ | refine Below.alloc ?_ (by simp; try omega) _ | refine Below.setCell ?_ (by simp; try omega) _))) hn1 (HB.out _ (by repeat (first | exact Below.refl _ _ | refine Below.alloc ?_ (by simp; try omega) _ | refine Below.setCell ?_ (by simp; try omega) _))) HOK.out (by simp [go_sem]) (by simp [go_sem])).mono ?_; rintro e w' ⟨rfl, rfl⟩))
    go_ret2
    rw [HR.out]
    exact ⟨by dsimp only; rw [hn1.out]; rfl, (by repeat (first | exact Below.refl _ _ | refine Below.alloc ?_ (by simp; try omega) _ | refine Below.setCell ?_ (by simp; try omega) _))⟩

set_option maxHeartbeats 4000000 in
theorem passagesOf_any (a b : Option Addr) (l way : List Int) (s : Int) (n ca m cb : Nat) (w : World) (hn : Hid (l.length = n)) (ha : RI w a l) (hm : Hid (way.length = m)) (hb : RI w b way) (hok : RunOk l way s) :
    Calls Try.prog 48 #[.slice a n ca, .agg #[.slice b m cb, .int .i64 s]] w (GivesR 72 3 cPass (passOf l (way, s)) m w) := by
  have HA : Hid (∀ w', Below w.heap.size w w' → RI w' a l) := fun w' h => ha.below h
  have HB : Hid (∀ w', Below w.heap.size w w' → RI w' b way) := fun w' h => hb.below h
  have hmax : m ≤ 12 := by have := hok.ways; rw [hm.out] at this; omega
  have hmaxn : n ≤ 24 := by have := hok.len; rw [hn.out] at this; omega
  have HOK := Lib.hid hok
  clear ha hb hok
  obtain ⟨i0, hi, hz0, hz1, hz2⟩ := info_parts infoPass
  have hmk := fun W => run_make_rowN (P := Try.prog) 67 72 i0 _ Try.underlying67 hi hz0 .i64 .i64 m m (Nat.le_refl _) (by rw [hz2]; omega) (by omega) W
  rw [hz1] at hmk
  clear hi hz0 hz1 hz2
  have HSZ : Hid ((madeCells (Value.cells (.agg #[.int .i64 0, .int .i64 0, .int .i64 0])) (m * 3)).size = m * 3) := size_madeCells _ _
  generalize madeCells (Value.cells (.agg #[.int .i64 0, .int .i64 0, .int .i64 0])) (m * 3) = cur0 at hmk HSZ
  go_enter Try.func48, Try.ntmps48
  go_wp2
  clear hmk
  go_loopw [6, 18] (fun ev iv wr => ∃ (k : Nat) (cur : Array Value), k ≤ m ∧ iv = .int .i64 k ∧ ev = .int .i64 (tickAt l way s k) ∧ Below w.heap.size w wr ∧ Hid (wr.heap[w.heap.size + 1]? = some (.cells cur 72 (0, 0))) ∧ Hid (cur.size = m * 3) ∧ FilledR 3 cPass (passOf l (way, s)) cur k) (fun _ iv _ => m - (intOf iv).toNat)
  case atStart => exact ⟨0, cur0, by omega, rfl, by rw [tickAt_zero], (by repeat (first | exact Below.refl _ _ | refine Below.alloc ?_ (by simp; try omega) _ | refine Below.setCell ?_ (by simp; try omega) _)), heap_alloc_at _ _ _ (by simp), HSZ, FilledR.zero _ _ _ _⟩
  case round =>
    obtain ⟨k, cur, hk, rfl, rfl, hbel, HG, HS, hfil⟩ := hrel
    have htk := HOK.out.tick k (by rw [hm.out]; exact hk)
    by_cases hlt : k < m
    · have hka : k < way.length := by rw [hm.out]; exact hlt
      have hkp : k < (passOf l (way, s)).length := by rw [passOf_length]; exact hka
      have HST := fun (cur' : Array Value) (h1 : ∀ p, p < k * 3 → cur'[p]? = cur[p]?) (h2 : ∀ (j : Nat) (v : Value), (cPass (passOf l (way, s))[k])[j]? = some v → cur'[k * 3 + j]? = some v) => hfil.next cPass_len hkp h1 h2
      rw [passOf_get l (way, s) k hka, tickAt_succ l way s k hka] at HST
      have HST2 := Lib.hid HST
      have HS1 := Lib.hid (tickAt_succ l way s k hka)
      obtain ⟨hx, htm, ht1, ht2⟩ := HOK.out.tm_at k hka
      obtain ⟨bb, ob, rfl, hbb, x1⟩ := (HB.out _ (Below.refl _ _)).at_ k hka
      obtain ⟨ba, oa, rfl, hba, y1⟩ := (HA.out _ (Below.refl _ _)).at_ _ hx
      rw [← htm] at y1
      rw [← hbel.cell (p := ⟨_, _, none⟩) hbb] at x1
      rw [← hbel.cell (p := ⟨_, _, none⟩) hba] at y1
      have hw0 := (HOK.out.tube k hka).1
      have hlx : way[k].toNat < n := by rw [← hn.out]; exact hx
      clear htm hx HST hfil
      dsimp only at HST2
      generalize htt : tm l way[k] = tt at y1 ht1 ht2 HS1 HST2
      clear htt
      generalize way[k] = x at x1 y1 hw0 hlx HST2
      obtain ⟨xn, rfl⟩ : ∃ xn : Nat, x = xn := ⟨x.toNat, by omega⟩
      rw [Int.toNat_natCast] at y1 hlx
      generalize tickAt l way s k = tk at htk HS1 HST2
      have hk0 : (0 : Int) ≤ (k : Int) := by omega
      have hk1 : (k : Int) < (m : Int) := by omega
      have hx0 : (0 : Int) ≤ (xn : Int) := by omega
      have hx1 : (xn : Int) < (n : Int) := by omega
      have hgl : w.heap.size + 1 < wr.heap.size := (Array.getElem?_eq_some_iff.1 HG.out).1
      obtain ⟨⟨v0, o0⟩, ⟨v1, o1⟩, ⟨v2, o2⟩, z0, z1, z2⟩ := cPass_cells HG.out k (by rw [HS.out]; omega)
      have HBEL := Lib.hid hbel
      clear hbel
      go_wp2
      go_roundw
      case rel =>
        refine ⟨k + 1, ((cur.setIfInBounds (k * 3) (.int .i64 tk)).setIfInBounds (k * 3 + 1) (.int .i64 (tk + tt))).setIfInBounds (k * 3 + 2) (.int .i64 (xn : Int)), by omega, by go_num, by rw [HS1.out], ((HBEL.out.setCell (by simp) _).setCell (by simp) _).setCell (by simp) _, heap_setCell_same _ _ _ _ _ _ (heap_setCell_same _ _ _ _ _ _ (heap_setCell_same _ _ _ _ _ _ HG.out)), by unfold Hid; simp; exact HS.out, HST2.out _ (fun p hp => ?_) (fun j v hj => ?_)⟩
        · rw [Array.getElem?_setIfInBounds_ne (by omega), Array.getElem?_setIfInBounds_ne (by omega), Array.getElem?_setIfInBounds_ne (by omega)]
        · have hsz : k * 3 + 2 < cur.size := by rw [HS.out]; omega
          match j, hj with
          | 0, hj => obtain rfl : _ = v := Option.some.inj hj; simp [Array.getElem?_setIfInBounds]; omega
          | 1, hj => obtain rfl : _ = v := Option.some.inj hj; simp [Array.getElem?_setIfInBounds]; omega
          | 2, hj => obtain rfl : _ = v := Option.some.inj hj; simp [Array.getElem?_setIfInBounds]; omega
          | j + 3, hj => simp [cPass] at hj
      case measure => simp [intOf]; omega
    · have hkm : k = m := by omega
      subst hkm
      go_wp2
      go_ret
      exact givesR_of (by omega) cPass_len (passRR_len (t := (way, s)) hm.out) rfl (by omega) hbel HG.out HS.out (by rw [passRR_len (t := (way, s)) hm.out]; omega) (fun i hi j v hj => hfil i hi (by rw [passRR_len (t := (way, s)) hm.out] at hi; exact hi) j v hj)

theorem stayEnd_any (x y : Int) (w : World) : Calls Try.prog 50 #[.agg #[.int .i64 x, .int .i64 y]] w fun e w' => e = .returned (.int .i64 y) ∧ Below w.heap.size w w' := by
  go_enter Try.func50, Try.ntmps50
  go_wp2
  go_ret
  exact ⟨rfl, (by repeat (first | exact Below.refl _ _ | refine Below.alloc ?_ (by simp; try omega) _ | refine Below.setCell ?_ (by simp; try omega) _))⟩
theorem stayBegin_any (x y : Int) (w : World) : Calls Try.prog 49 #[.agg #[.int .i64 x, .int .i64 y]] w fun e w' => e = .returned (.int .i64 x) ∧ Below w.heap.size w w' := by
  go_enter Try.func49, Try.ntmps49
  go_wp2
  go_ret
  exact ⟨rfl, (by repeat (first | exact Below.refl _ _ | refine Below.alloc ?_ (by simp; try omega) _ | refine Below.setCell ?_ (by simp; try omega) _))⟩

set_option maxHeartbeats 4000000 in
theorem implEndOfRun_any (w : World) {a0 : Option Addr} {n0 c0 : Nat} (l0 : List Int) (hn0 : Hid (l0.length = n0)) (h0 : RI w a0 l0) (hs0 : n0 ≤ 1048576) (_wf0 : Hid (∀ k ∈ l0, (Lit.int .i64 k).wf = true)) {a1 : Option Addr} {n1 c1 : Nat} (t1 : TRun) (hn1 : Hid (t1.1.length = n1)) (h1 : RI w a1 t1.1) (hs1 : n1 ≤ 1048576) (_wf1 : Hid (wfRun t1)) :
    Calls Try.prog 16 #[.slice a0 n0 c0, .agg #[.slice a1 n1 c1, .int .i64 t1.2]] w fun e w' => e = .returned (.tuple #[.int .i64 (endOf l0 t1).1, .int .i64 (endOf l0 t1).2]) ∧ Below w.heap.size w w' := by
  obtain ⟨way, s⟩ := t1
  dsimp only at hn1 h1 ⊢
  have HA : Hid (∀ w', Below w.heap.size w w' → RI w' a0 l0) := fun w' h => h0.below h
  have HB : Hid (∀ w', Below w.heap.size w w' → RI w' a1 way) := fun w' h => h1.below h
  have OK : Hid (∀ W B, Below w.heap.size w W → B = W.heap.size → Calls Try.prog 46 #[.slice a0 n0 c0, .slice (some ⟨B, 0, none⟩) 1 1] (W.alloc (.cells #[.slice a1 n1 c1, .int .i64 s] 34)) fun e w' => e = .returned (.int .i64 (rcode l0 [(way, s)])) ∧ Below (W.alloc (.cells #[.slice a1 n1 c1, .int .i64 s] 34)).heap.size (W.alloc (.cells #[.slice a1 n1 c1, .int .i64 s] 34)) w') := fun W B h hB => by
    subst hB
    exact checkRuns_any a0 _ l0 [(way, s)] n0 c0 1 1 _ hn0 (HA.out _ (h.alloc h.size _)) hs0 rfl (RN.one hn1.out (HB.out _ h) hs1 _) (by omega)
  clear h0 h1
  cases hv : rsB l0 [(way, s)] with
  | false =>
    have HC : rcode l0 [(way, s)] = 1 := by unfold rcode; rw [hv]; rfl
    rw [HC] at OK
    have HR := Lib.hid (endOf_bad hv)
    clear HC hv
    go_enter Try.func16, Try.ntmps16
    go_wp2_with (go_at_call 46; refine (OK.out (w.alloc (.cells #[.slice a1 n1 c1, .int .i64 s] 34)) _ (by repeat (first | exact Below.refl _ _ | refine Below.alloc ?_ (by simp; try omega) _ | refine Below.setCell ?_ (by simp; try omega) _)) (by simp)).mono ?_; rintro e w1 ⟨rfl, hb1⟩)
    go_ret2
    rw [HR.out]
    exact ⟨rfl, Below.trans (by repeat (first | exact Below.refl _ _ | refine Below.alloc ?_ (by simp; try omega) _ | refine Below.setCell ?_ (by simp; try omega) _)) (hb1.mono (by simp; omega))⟩
  | true =>
    have HC : rcode l0 [(way, s)] = 0 := by unfold rcode; rw [hv]; rfl
    rw [HC] at OK
    have HR := Lib.hid (endOf_good hv)
    have HOK := Lib.hid (rsB_one hv)
    have hm1 : 1 ≤ n1 := by have := HOK.out.ways; rw [hn1.out] at this; omega
    have hm2 : n1 ≤ 12 := by have := HOK.out.ways; rw [hn1.out] at this; omega
    have HPO : Hid (∀ W, Below w.heap.size w W → Calls Try.prog 48 #[.slice a0 n0 c0, .agg #[.slice a1 n1 c1, .int .i64 s]] W (GivesR 72 3 cPass (passOf l0 (way, s)) n1 W)) := fun W h => passagesOf_any a0 a1 l0 way s n0 c0 n1 c1 W hn0 (HA.out _ h) hn1 (HB.out _ h) HOK.out
    have HL : Hid (∀ (W : World) (g : Nat), W.ownsRow w.heap.size 72 3 (.slice (some ⟨g, 0, none⟩) n1 n1) n1 ((passOf l0 (way, s)).flatMap cPass) → ∃ x, W.cell? ⟨g, (n1 - 1) * 3, none⟩ = some (.int .i64 x) ∧ W.cell? ⟨g, (n1 - 1) * 3 + 1, none⟩ = some (.int .i64 (tickAt l0 way s n1))) := fun W g h => by
      obtain ⟨b, off, hbe, _, hc⟩ := (own_RR cPass_len (passRR_len (t := (way, s)) hn1.out) h).addr (by rw [passRR_len (t := (way, s)) hn1.out]; omega)
      injection hbe with hbe
      injection hbe with e1 e2
      subst e1 e2
      have hi : n1 - 1 < (passOf l0 (way, s)).length := by rw [passRR_len (t := (way, s)) hn1.out]; omega
      have h0 := hc (n1 - 1) hi 0 _ rfl
      have h1 := hc (n1 - 1) hi 1 _ rfl
      rw [passOf_get l0 (way, s) (n1 - 1) (by rw [hn1.out]; omega)] at h0 h1
      simp only [Nat.zero_add, Nat.add_zero] at h0 h1
      rw [show n1 - 1 + 1 = n1 by omega] at h1
      exact ⟨_, h0, h1⟩
    clear HC hv
    go_enter Try.func16, Try.ntmps16
    go_wp2_with (go_at_call 46; refine (OK.out (w.alloc (.cells #[.slice a1 n1 c1, .int .i64 s] 34)) _ (by repeat (first | exact Below.refl _ _ | refine Below.alloc ?_ (by simp; try omega) _ | refine Below.setCell ?_ (by simp; try omega) _)) (by simp)).mono ?_; rintro e w1 ⟨rfl, hb1⟩; obtain ⟨hc, hf⟩ := bcell hb1; have hz1 := hb1.size; simp at hz1; have hlt0 : w.heap.size < w1.heap.size := by omega)
    have B1 := Lib.hid (Below.trans (by repeat (first | exact Below.refl _ _ | refine Below.alloc ?_ (by simp; try omega) _ | refine Below.setCell ?_ (by simp; try omega) _)) (hb1.mono (by simp; omega)) : Below w.heap.size w w1)
    clear hc hf hb1
    refine (HPO.out _ B1.out).mono ?_
    rintro e w2 ⟨g, rfl, hg, hb2, ho2⟩
    obtain ⟨x, y0, y1⟩ := HL.out w2 g (own_lo ho2 (by omega))
    have B2 := Lib.hid (two_worlds B1.out hb2)
    clear hb2 ho2
    have hj0 : ((n1 - 1 : Nat) : Int) = (n1 : Int) - 1 := by omega
    have hj1 : (0 : Int) ≤ (n1 : Int) - 1 := by omega
    have hj2 : (n1 : Int) - 1 < (n1 : Int) := by omega
    go_wp2_with (go_at_call 50; refine (stayEnd_any _ _ _).mono ?_; rintro e w3 ⟨rfl, hb3⟩)
    go_ret2
    rw [HR.out]
    exact ⟨by dsimp only; rw [hn1.out]; rfl, two_worlds B2.out hb3⟩
end Go.Proofs.Ytgjbahnloladfaa
