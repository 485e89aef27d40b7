/-
  The walks of the laws' own helpers that build and measure networks: eqNet, szTubeS, szNet, toTube, toTubeS, toNet.
-/
import Derived.Test.YtenjigifjkfiaaaNetEq
import Derived.Laws.MakeOwn
import Derived.OneCell
import Derived.Test.YtenjigifjkfiaaaNetMem
namespace Go.Proofs.Ytenjigifjkfiaaa
open Go.RowKit

set_option maxHeartbeats 1000000 in
theorem eqNet_any (s r : Int) (a b : Option Addr) (ts us : List T3) (n m ca cb : Nat) (w : World) (hn : Hid (ts.length = n)) (hm : Hid (us.length = m)) (ha : RT w a ts) (hb : RT w b us) (hmax : n ≤ maxLen) :
    Calls Try.prog 27 #[.agg #[.int .i64 s, .slice a n ca], .agg #[.int .i64 r, .slice b m cb]] w fun e w' => e = .returned (.bool (s == r && ts == us)) ∧ Below w.heap.size w w' := by
  have HA : Hid (∀ w', Below w.heap.size w w' → RT w' a ts) := fun w' h => ha.below h
  have HB : Hid (∀ w', Below w.heap.size w w' → RT w' b us) := fun w' h => hb.below h
  clear ha hb
  rcases eq_ways s r with ⟨⟨e1, e2⟩, e3⟩ | ⟨⟨e1, e2⟩, e3⟩
  · subst e3
    clear e1 e2
    go_enter Try.func27, Try.ntmps27
    go_wp2_with fail
    refine (eqTubeS_any _ _ ts us _ _ _ _ _ hn hm (HA.out _ (by repeat (first | exact Below.refl _ _ | refine Below.alloc ?_ (by simp; try omega) _))) (HB.out _ (by repeat (first | exact Below.refl _ _ | refine Below.alloc ?_ (by simp; try omega) _))) hmax).mono ?_
    rintro e w1 ⟨rfl, hb1⟩
    cases htu : (ts == us) with
    | true =>
      go_wp2
      go_ret
      exact ⟨ret_bool (by rw [htu]; simp), Below.trans (by repeat (first | exact Below.refl _ _ | refine Below.alloc ?_ (by simp; try omega) _)) (hb1.mono (by simp; omega))⟩
    | false =>
      go_wp2
      go_ret
      exact ⟨ret_bool (by rw [htu]; simp), Below.trans (by repeat (first | exact Below.refl _ _ | refine Below.alloc ?_ (by simp; try omega) _)) (hb1.mono (by simp; omega))⟩
  · clear e3
    go_enter Try.func27, Try.ntmps27
    go_wp2
    go_ret
    exact ⟨ret_bool (by simp [e1]), (by repeat (first | exact Below.refl _ _ | refine Below.alloc ?_ (by simp; try omega) _))⟩

theorem szTubeS_any (a : Option Addr) (n c : Nat) (left : Int) (w : World) (h0 : 0 ≤ left) (h1 : left ≤ 1048576) (hn : n ≤ maxLen) :
    Calls Try.prog 53 #[.slice a n c, .int .i64 left] w fun e w' => e = .returned (.int .i64 (leftOf left n)) ∧ w = w' := by
  unfold maxLen at hn
  by_cases h : left < n
  · have HR := Lib.hid (leftOf_less h)
    go_enter Try.func53, Try.ntmps53
    go_wp2
    go_ret
    exact ⟨ret_int HR.out.symm, rfl⟩
  · have HR := Lib.hid (leftOf_enough h)
    go_enter Try.func53, Try.ntmps53
    go_wp2
    go_ret
    exact ⟨ret_int HR.out.symm, rfl⟩
theorem szNet_any (s : Int) (a : Option Addr) (n c : Nat) (left : Int) (w : World) (h0 : 0 ≤ left) (h1 : left ≤ 1048576) (hn : n ≤ maxLen) :
    Calls Try.prog 22 #[.agg #[.int .i64 s, .slice a n c], .int .i64 left] w fun e w' => e = .returned (.int .i64 (leftOf left n)) ∧ Below w.heap.size w w' := by
  by_cases h : left < n
  · have HR := leftOf_less h
    have HQ := Lib.hid HR
    go_enter Try.func22, Try.ntmps22
    go_wp2_with (go_at_call 53; refine (szTubeS_any _ _ _ _ _ h0 h1 hn).mono ?_; rintro e w1 ⟨rfl, rfl⟩)
    go_ret
    exact ⟨ret_int HQ.out.symm, (by repeat (first | exact Below.refl _ _ | refine Below.alloc ?_ (by simp; try omega) _))⟩
  · have HR := leftOf_enough h
    have HQ := Lib.hid HR
    go_enter Try.func22, Try.ntmps22
    go_wp2_with (go_at_call 53; refine (szTubeS_any _ _ _ _ _ h0 h1 hn).mono ?_; rintro e w1 ⟨rfl, rfl⟩)
    go_ret
    exact ⟨ret_int HQ.out.symm, (by repeat (first | exact Below.refl _ _ | refine Below.alloc ?_ (by simp; try omega) _))⟩
theorem toTube_any (t : T3) (w : World) : Calls Try.prog 77 #[.agg #[.int .i64 t.1, .int .i64 t.2.1, .int .i64 t.2.2]] w fun e w' => e = .returned (.agg #[.int .i64 t.1, .int .i64 t.2.1, .int .i64 t.2.2]) ∧ Below w.heap.size w w' := by
  go_enter Try.func77, Try.ntmps77
  go_wp2
  exact bodyPost_ret (v := .agg #[.int .i64 t.1, .int .i64 t.2.1, .int .i64 t.2.2]) (by simp [results, Try.results77, go_sem]) rfl ⟨rfl, (by repeat (first | exact Below.refl _ _ | refine Below.alloc ?_ (by simp; try omega) _))⟩

theorem info36 : (Try.prog.info? 36).map (fun i => (i.zero, i.size, i.bytes)) = some (some (.agg #[.int .i64 0, .int .i64 0, .int .i64 0]), 3, 24) := by kernel_rfl

theorem row_own {w : World} {lo g : Nat} {e : TypeId} {ts : List T3} {cur : Array Value} (hg : w.heap[g]? = some (.cells cur e (0, 0))) (hlo : lo ≤ g) (hm : ts.length ≤ maxLen) (hs : cur.size = ts.length * 3)
    (h : ∀ i (h : i < ts.length), cur[i * 3]? = some (.int .i64 ts[i].1) ∧ cur[i * 3 + 1]? = some (.int .i64 ts[i].2.1) ∧ cur[i * 3 + 2]? = some (.int .i64 ts[i].2.2)) :
    w.ownsRow lo e 3 (.slice (some ⟨g, 0, none⟩) ts.length ts.length) ts.length (flat ts) :=
  ⟨flat_length ts, .inr ⟨g, ts.length, cur, rfl, hlo, hg, Nat.le_refl _, hm, hs, flat_take ts cur.toList (by simp; omega) (fun i hi => by simpa using h i hi)⟩⟩

/-- A call hands back a slice of its own that holds these tubes; nothing that was there has turned. -/
def GivesTubes (ts : List T3) (n : Nat) (w : World) (e : Ending) (w' : World) : Prop :=
  ∃ g, e = .returned (.slice (some ⟨g, 0, none⟩) n n) ∧ w.heap.size ≤ g ∧ Below w.heap.size w w' ∧ w'.ownsRow w.heap.size 36 3 (.slice (some ⟨g, 0, none⟩) n n) n (flat ts)
/-- A call hands back a network of its own that holds these tubes; nothing that was there has turned. -/
def GivesNet (s : Int) (ts : List T3) (n : Nat) (w : World) (e : Ending) (w' : World) : Prop :=
  ∃ g, e = .returned (.agg #[.int .i64 s, .slice (some ⟨g, 0, none⟩) n n]) ∧ w.heap.size ≤ g ∧ Below w.heap.size w w' ∧ w'.ownsRow w.heap.size 36 3 (.slice (some ⟨g, 0, none⟩) n n) n (flat ts)
theorem row_RT {w : World} {lo g n c : Nat} {e : TypeId} {ts : List T3} (hn : Hid (ts.length = n)) (h : w.ownsRow lo e 3 (.slice (some ⟨g, 0, none⟩) n c) n (flat ts)) : RT w (some ⟨g, 0, none⟩) ts := by
  have := hn.out
  subst this
  obtain ⟨a, cap, hv, hr⟩ := own_RT h
  injection hv with h1 h2 h3
  rw [h1]
  exact hr

def Filled (ts : List T3) (cur : Array Value) (k : Nat) : Prop := ∀ i (h : i < ts.length), i < k → cur[i * 3]? = some (.int .i64 ts[i].1) ∧ cur[i * 3 + 1]? = some (.int .i64 ts[i].2.1) ∧ cur[i * 3 + 2]? = some (.int .i64 ts[i].2.2)
theorem Filled.zero (ts : List T3) (cur : Array Value) : Filled ts cur 0 := fun _ _ h => by omega
theorem Filled.step {ts : List T3} {cur : Array Value} {k : Nat} (h : Filled ts cur k) (hs : cur.size = ts.length * 3) (hk : k < ts.length) :
    Filled ts (((cur.setIfInBounds (k * 3) (.int .i64 ts[k].1)).setIfInBounds (k * 3 + 1) (.int .i64 ts[k].2.1)).setIfInBounds (k * 3 + 2) (.int .i64 ts[k].2.2)) (k + 1) := by
  intro i hi hik
  by_cases e : i = k
  · subst e
    refine ⟨?_, ?_, ?_⟩
    all_goals simp [Array.getElem?_setIfInBounds]; omega
  · obtain ⟨h1, h2, h3⟩ := h i hi (by omega)
    refine ⟨?_, ?_, ?_⟩
    · rw [Array.getElem?_setIfInBounds_ne (by omega), Array.getElem?_setIfInBounds_ne (by omega), Array.getElem?_setIfInBounds_ne (by omega)]; exact h1
    · rw [Array.getElem?_setIfInBounds_ne (by omega), Array.getElem?_setIfInBounds_ne (by omega), Array.getElem?_setIfInBounds_ne (by omega)]; exact h2
    · rw [Array.getElem?_setIfInBounds_ne (by omega), Array.getElem?_setIfInBounds_ne (by omega), Array.getElem?_setIfInBounds_ne (by omega)]; exact h3

theorem gives_of {ts : List T3} {n g : Nat} {w w' : World} {e : Ending} {cur : Array Value} (hn : ts.length = n) (he : e = .returned (.slice (some ⟨g, 0, none⟩) n n)) (hg : w.heap.size ≤ g) (hb : Below w.heap.size w w')
    (hh : w'.heap[g]? = some (.cells cur 36 (0, 0))) (hs : cur.size = n * 3) (hm : ts.length ≤ 1048576)
    (h : ∀ i (h : i < ts.length), cur[i * 3]? = some (.int .i64 ts[i].1) ∧ cur[i * 3 + 1]? = some (.int .i64 ts[i].2.1) ∧ cur[i * 3 + 2]? = some (.int .i64 ts[i].2.2)) : GivesTubes ts n w e w' := by
  subst hn
  exact ⟨g, he, hg, hb, row_own hh hg (by unfold maxLen; omega) hs h⟩
theorem three_cells {w : World} {g : Nat} {cur : Array Value} {e : TypeId} (h : w.heap[g]? = some (.cells cur e (0, 0))) (k : Nat) (hk : k * 3 + 2 < cur.size) :
    (∃ v, w.cell? ⟨g, k * 3, none⟩ = some v) ∧ (∃ v, w.cell? ⟨g, k * 3 + 1, none⟩ = some v) ∧ (∃ v, w.cell? ⟨g, k * 3 + 2, none⟩ = some v) ∧ w.frozen? ⟨g, k * 3, none⟩ = false ∧ w.frozen? ⟨g, k * 3 + 1, none⟩ = false ∧ w.frozen? ⟨g, k * 3 + 2, none⟩ = false := by
  refine ⟨⟨cur[k * 3], ?_⟩, ⟨cur[k * 3 + 1], ?_⟩, ⟨cur[k * 3 + 2], ?_⟩, ?_, ?_, ?_⟩
  · rw [cell_of_row w g _ cur e (0, 0) h]; exact Array.getElem?_eq_getElem _
  · rw [cell_of_row w g _ cur e (0, 0) h]; exact Array.getElem?_eq_getElem _
  · rw [cell_of_row w g _ cur e (0, 0) h]; exact Array.getElem?_eq_getElem _
  all_goals exact frozen_of_row w g _ cur e h
set_option maxHeartbeats 1000000 in
theorem toTubeS_any (a : Option Addr) (ts : List T3) (n ca : Nat) (w : World) (hn : Hid (ts.length = n)) (ha : RT w a ts) (hmax : n ≤ 1048576) :
    Calls Try.prog 56 #[.slice a n ca] w (GivesTubes ts n w) := by
  obtain ⟨i0, hi, hz0, hz1, hz2⟩ := info_parts info36
  have hmk := run_make_rowN (P := Try.prog) 24 36 i0 _ Try.underlying24 hi hz0 .i64 .i64 n n (Nat.le_refl _) (by rw [hz2]; omega) (by omega)
  rw [hz1] at hmk
  clear hi hz0 hz1 hz2
  have HSZ : Hid ((madeCells (Value.cells (.agg #[.int .i64 0, .int .i64 0, .int .i64 0])) (n * 3)).size = n * 3) := size_madeCells _ _
  generalize madeCells (Value.cells (.agg #[.int .i64 0, .int .i64 0, .int .i64 0])) (n * 3) = cur0 at hmk HSZ
  by_cases hz : n = 0
  · have HZ := Lib.hid hz
    clear hz
    go_enter Try.func56, Try.ntmps56
    go_wp2
    go_loopw [4] (fun i wr => ∃ k : Nat, k ≤ n ∧ i = .int .i64 k ∧ wr = w.alloc (.cells cur0 36)) (fun _ _ => 0)
    case atStart => exact ⟨0, by omega, rfl, rfl⟩
    case round =>
      obtain ⟨k, hk, rfl, rfl⟩ := hrel
      have hlt : ¬ k < n := by rw [HZ.out]; omega
      go_wp2
      go_ret
      exact gives_of hn.out rfl (Nat.le_refl _) ((Below.refl _ _).alloc (Nat.le_refl _) _) (heap_alloc_new w _) HSZ.out (by rw [hn.out]; omega) (fun i hi => by have := hn.out; have := HZ.out; omega)
  · obtain ⟨b, off, rfl, hb, hc⟩ := ha.addr (by rw [hn.out]; omega)
    have HC := Lib.hid hc
    clear hc ha
    go_enter Try.func56, Try.ntmps56
    go_wp2
    go_loopw [4] (fun i wr => ∃ (k : Nat) (cur : Array Value), k ≤ n ∧ i = .int .i64 k ∧ Below w.heap.size w wr ∧ Hid (wr.heap[w.heap.size]? = some (.cells cur 36 (0, 0))) ∧ Hid (cur.size = n * 3) ∧ Filled ts cur k) (fun i _ => n - (intOf i).toNat)
    case atStart => exact ⟨0, cur0, by omega, rfl, (Below.refl _ _).alloc (Nat.le_refl _) _, heap_alloc_new w _, HSZ, Filled.zero _ _⟩
    case round =>
      obtain ⟨k, cur, hk, rfl, hbel, HG, HS, hfil⟩ := hrel
      by_cases hlt : k < n
      · have hka : k < ts.length := by rw [hn.out]; exact hlt
        obtain ⟨x1, x2, x3⟩ := HC.out k hka
        have HST := Lib.hid (hfil.step (by rw [HS.out, hn.out]) hka)
        generalize ts[k] = t at x1 x2 x3 HST
        rw [← hbel.cell (p := ⟨_, _, none⟩) hb] at x1 x2 x3
        have hk0 : (0 : Int) ≤ (k : Int) := by omega
        have hk1 : (k : Int) < (n : Int) := by omega
        have hgl : w.heap.size < wr.heap.size := (Array.getElem?_eq_some_iff.1 HG.out).1
        go_wp2_with fail
        refine (toTube_any t _).mono ?_
        rintro e w1 ⟨rfl, hb1⟩
        have HG1 : Hid (w1.heap[w.heap.size]? = some (.cells cur 36 (0, 0))) := (hb1.block _ hgl).trans HG.out
        obtain ⟨⟨v1, o1⟩, ⟨v2, o2⟩, ⟨v3, o3⟩, z1, z2, z3⟩ := three_cells HG1.out k (by rw [HS.out]; omega)
        have HB1 := Lib.hid (hbel.trans (hb1.mono hbel.size))
        clear hb1 hbel x1 x2 x3
        go_wp2
        go_roundw
        case rel => exact ⟨k + 1, _, by omega, by go_num, ((HB1.out.setCell (Nat.le_refl _) _).setCell (Nat.le_refl _) _).setCell (Nat.le_refl _) _, heap_setCell_same _ _ _ _ _ _ (heap_setCell_same _ _ _ _ _ _ (heap_setCell_same _ _ _ _ _ _ HG1.out)), by unfold Hid; simp; exact HS.out, HST.out⟩
        case measure => simp [intOf]; omega
      · go_wp2
        go_ret
        exact gives_of hn.out rfl (Nat.le_refl _) hbel HG.out HS.out (by rw [hn.out]; omega) (fun i hi => hfil i hi (by rw [hn.out] at hi; omega))

theorem toNet_any (s : Int) (a : Option Addr) (ts : List T3) (n ca : Nat) (w : World) (hn : Hid (ts.length = n)) (ha : RT w a ts) (hmax : n ≤ 1048576) :
    Calls Try.prog 24 #[.agg #[.int .i64 s, .slice a n ca]] w (GivesNet s ts n w) := by
  have HA : Hid (∀ w', Below w.heap.size w w' → RT w' a ts) := fun w' h => ha.below h
  clear ha
  go_enter Try.func24, Try.ntmps24
  go_wp2_with fail
  refine (toTubeS_any _ ts _ _ _ hn (HA.out _ (by repeat (first | exact Below.refl _ _ | refine Below.alloc ?_ (by simp; try omega) _ | refine Below.setCell ?_ (by simp; try omega) _))) hmax).mono ?_
  rintro e w1 ⟨g, rfl, hg, hb1, hown⟩
  obtain ⟨hc, hf⟩ := bcell hb1
  have HO := Lib.hid hown
  have hsz := hb1.size
  simp at hsz hg
  clear hown
  have hlt1 : w.heap.size + 1 < w1.heap.size := by omega
  have hlt2 : w.heap.size + 1 + 1 < w1.heap.size := by omega
  go_wp2
  refine bodyPost_ret (v := .agg #[.int .i64 s, .slice (some ⟨g, 0, none⟩) n n]) (by simp [results, Try.results24, go_sem, hc]) rfl ⟨g, rfl, by omega, ?_, ?_⟩
  · refine (Below.trans ?_ (hb1.mono (by simp; omega))).setCell (by simp; try omega) _ |>.setCell (by simp; try omega) _ |>.setCell (by simp; try omega) _
    exact (by repeat (first | exact Below.refl _ _ | refine Below.alloc ?_ (by simp; try omega) _ | refine Below.setCell ?_ (by simp; try omega) _))
  · exact own_lo (ownsRow_setCell_other (ownsRow_setCell_other (ownsRow_setCell_other HO.out (by simp [Value.ownBlock]; omega) _) (by simp [Value.ownBlock]; omega) _) (by simp [Value.ownBlock]; omega) _) (by simp; omega)
end Go.Proofs.Ytenjigifjkfiaaa
