/-
  Records of 3 numbers (Blower): how they lie in memory, the walks of the laws' own helpers on them, and how arguments of these types read.
-/
import Derived.Test.YtiilgeoahpnkpaaRec
import Derived.Test.YtiilgeoahpnkpaaProg
import Derived.Outline
import Derived.LoopTactic
import Derived.StillTailTactics
import Derived.BigQuiet
import Derived.Deep.QuietTactic
import Derived.Deep.RegionHeld3
namespace Go.Proofs.Ytiilgeoahpnkpaa
open Go.RowKit Go.ChangeShapes Go.WideShapes Go.Deep Go.Joins

abbrev TBlower := Int × Int × Int
/-- The cells of one. -/
def cBlower (t : TBlower) : List Value := [.int .i64 t.1, .int .i64 t.2.1, .int .i64 t.2.2]
theorem cBlower_len (t : TBlower) : (cBlower t).length = 3 := rfl
def wfBlower (t : TBlower) : Prop := (Lit.int .i64 t.1).wf = true ∧ (Lit.int .i64 t.2.1).wf = true ∧ (Lit.int .i64 t.2.2).wf = true
theorem cBlower_at {w : World} {b off : Nat} {ts : List TBlower} (h : ∀ i (h : i < ts.length) (j : Nat) (v : Value), (cBlower ts[i])[j]? = some v → w.cell? ⟨b, off + i * 3 + j, none⟩ = some v) (i : Nat) (hi : i < ts.length) :
    w.cell? ⟨b, off + i * 3, none⟩ = some (.int .i64 ts[i].1) ∧ w.cell? ⟨b, off + i * 3 + 1, none⟩ = some (.int .i64 ts[i].2.1) ∧ w.cell? ⟨b, off + i * 3 + 2, none⟩ = some (.int .i64 ts[i].2.2) := ⟨h i hi 0 _ rfl, h i hi 1 _ rfl, h i hi 2 _ rfl⟩
theorem cBlower_box {w : World} {b : Nat} {t : TBlower} (h : Box w b (cBlower t)) : w.cell? ⟨b, 0, none⟩ = some (.int .i64 t.1) ∧ w.cell? ⟨b, 1, none⟩ = some (.int .i64 t.2.1) ∧ w.cell? ⟨b, 2, none⟩ = some (.int .i64 t.2.2) := ⟨h.2 0 _ rfl, h.2 1 _ rfl, h.2 2 _ rfl⟩
set_option maxHeartbeats 2000000 in
theorem eqBlower_any (t u : TBlower) (w : World) : Calls Try.prog 98 #[.agg #[.int .i64 t.1, .int .i64 t.2.1, .int .i64 t.2.2], .agg #[.int .i64 u.1, .int .i64 u.2.1, .int .i64 u.2.2]] w fun e w' => e = .returned (.bool (t == u)) ∧ Below w.heap.size w w' := by
  obtain ⟨t1, t2, t3⟩ := t
  obtain ⟨u1, u2, u3⟩ := u
  rcases eq_ways t1 u1 with ⟨⟨a1, b1⟩, e1⟩ | ⟨⟨a1, b1⟩, e1⟩
  rotate_left
  · clear e1
    go_enter Try.func98, Try.ntmps98
    go_wp2
    go_ret
    exact ⟨ret_bool (by simp_all), by repeat (first | exact Below.refl _ _ | refine Below.alloc ?_ (by simp; try omega) _ | refine Below.setCell ?_ (by simp; try omega) _)⟩
  · clear e1
    rcases eq_ways t2 u2 with ⟨⟨a2, b2⟩, e2⟩ | ⟨⟨a2, b2⟩, e2⟩
    rotate_left
    · clear e2
      go_enter Try.func98, Try.ntmps98
      go_wp2
      go_ret
      exact ⟨ret_bool (by simp_all), by repeat (first | exact Below.refl _ _ | refine Below.alloc ?_ (by simp; try omega) _ | refine Below.setCell ?_ (by simp; try omega) _)⟩
    · clear e2
      rcases eq_ways t3 u3 with ⟨⟨a3, b3⟩, e3⟩ | ⟨⟨a3, b3⟩, e3⟩
      rotate_left
      · clear e3
        go_enter Try.func98, Try.ntmps98
        go_wp2
        go_ret
        exact ⟨ret_bool (by simp_all), by repeat (first | exact Below.refl _ _ | refine Below.alloc ?_ (by simp; try omega) _ | refine Below.setCell ?_ (by simp; try omega) _)⟩
      · clear e3
        go_enter Try.func98, Try.ntmps98
        go_wp2
        go_ret
        exact ⟨ret_bool (by simp_all), by repeat (first | exact Below.refl _ _ | refine Below.alloc ?_ (by simp; try omega) _ | refine Below.setCell ?_ (by simp; try omega) _)⟩
set_option maxHeartbeats 1000000 in
theorem toBlower_any (t : TBlower) (w : World) : Calls Try.prog 97 #[.agg #[.int .i64 t.1, .int .i64 t.2.1, .int .i64 t.2.2]] w fun e w' => e = .returned (.agg #[.int .i64 t.1, .int .i64 t.2.1, .int .i64 t.2.2]) ∧ Below w.heap.size w w' := by
  go_enter Try.func97, Try.ntmps97
  go_wp2
  exact bodyPost_ret (v := .agg #[.int .i64 t.1, .int .i64 t.2.1, .int .i64 t.2.2]) (by simp [results, Try.results97, go_sem]) rfl ⟨rfl, (by repeat (first | exact Below.refl _ _ | refine Below.alloc ?_ (by simp; try omega) _ | refine Below.setCell ?_ (by simp; try omega) _))⟩
/-- A value is one of the laws' own. -/
def BlowerIn (v : Value) (t : TBlower) : Prop := v = .agg #[.int .i64 t.1, .int .i64 t.2.1, .int .i64 t.2.2] ∧ wfBlower t
theorem cellsBlower : Try.prog.cellsOf 107 = 3 := by kernel_rfl
set_option maxRecDepth 100000 in
theorem open_Blower {H : Type} {enc : TypeId × Value → H} {w : World} {spare : Nat → Bool} {held : Bool} {r : Reach} {b0 : Nat} {v : Value} {d : DataW H} {p : List MemPlace}
    (hv : Value.okWide Try.prog w r b0 107 v) (h : DataW.Trod enc Try.prog w 0 spare held 107 v d p) : ∃ t, BlowerIn v t := by
  obtain ⟨c0, c1, c2, y0, y1, y2, m, rfl, rfl, rfl, hy0, hy1, hy2⟩ := Go.Joins.open_agg3 Try.underlying107 (by kernel_rfl) cellsBlower hv h
  obtain ⟨k0, e0, _, f0⟩ := DataW.trod_int Try.underlying2 hy0
  obtain ⟨k1, e1, _, f1⟩ := DataW.trod_int Try.underlying2 hy1
  obtain ⟨k2, e2, _, f2⟩ := DataW.trod_int Try.underlying2 hy2
  obtain rfl : c0 = .int .i64 k0 := by simpa using e0
  obtain rfl : c1 = .int .i64 k1 := by simpa using e1
  obtain rfl : c2 = .int .i64 k2 := by simpa using e2
  exact ⟨(k0, k1, k2), rfl, f0, f1, f2⟩
/-- A value is a slice of them. -/
def BlowersIn (w : World) (v : Value) (x : List TBlower) : Prop :=
  ∃ a n cap, v = .slice a n cap ∧ Hid (x.length = n) ∧ n ≤ maxLen ∧ RR 3 cBlower w a x ∧ ∀ t ∈ x, wfBlower t
set_option maxRecDepth 100000 in
theorem open_Blowers {H : Type} {enc : TypeId × Value → H} {w : World} {spare : Nat → Bool} {held : Bool} {r : Reach} {b0 : Nat} {v : Value} {d : DataW H} {p : List MemPlace}
    (hv : Value.okWide Try.prog w r b0 51 v) (h : DataW.Trod enc Try.prog w 0 spare held 51 v d p) : ∃ x, BlowersIn w v x := by
  obtain ⟨a0, len0, cap0, rfl⟩ := okWide_slice Try.underlying51 hv
  obtain ⟨fuel, hf⟩ := h
  rcases open_slice_fields Try.underlying51 Try.underlying107 (by kernel_rfl) cellsBlower hf with ⟨hcs, _⟩ | ⟨a, len, cap, m', D, Pl, hcs, _, hl, hm, hmm, _, hi⟩
  · simp [Value.cells] at hcs
    obtain ⟨rfl, rfl, rfl⟩ := hcs
    exact ⟨[], none, 0, 0, rfl, rfl, by omega, .inl rfl, fun k hk => by simp at hk⟩
  · simp [Value.cells] at hcs
    obtain ⟨rfl, rfl, rfl⟩ := hcs
    have hmlen : len0 ≤ m' := by rw [hmm]; split <;> omega
    have hrow : ∀ i, i < len0 → ∃ t : TBlower, wfBlower t ∧ ∀ (j : Nat) (v : Value), (cBlower t)[j]? = some v → w.cell? (a.add (i * 3 + j)) = some v := by
      intro i hlt
      obtain ⟨ys, n', _, _, _, hf⟩ := hi i (by omega)
      obtain ⟨v0, z0, g0, _, t0⟩ := hf 0 _ rfl
      obtain ⟨v1, z1, g1, _, t1⟩ := hf 1 _ rfl
      obtain ⟨v2, z2, g2, _, t2⟩ := hf 2 _ rfl
      obtain ⟨k0, q0, _, f0⟩ := DataW.trod_int Try.underlying2 t0
      obtain ⟨k1, q1, _, f1⟩ := DataW.trod_int Try.underlying2 t1
      obtain ⟨k2, q2, _, f2⟩ := DataW.trod_int Try.underlying2 t2
      obtain rfl : v0 = .int .i64 k0 := by simpa using q0
      obtain rfl : v1 = .int .i64 k1 := by simpa using q1
      obtain rfl : v2 = .int .i64 k2 := by simpa using q2
      refine ⟨(k0, k1, k2), ⟨f0, f1, f2⟩, fun j v hj => ?_⟩
      match j, hj with
      | 0, hj => obtain rfl : _ = v := Option.some.inj hj; exact g0
      | 1, hj => obtain rfl : _ = v := Option.some.inj hj; exact g1
      | 2, hj => obtain rfl : _ = v := Option.some.inj hj; exact g2
      | j + 3, hj => simp [cBlower] at hj
    obtain ⟨ts, hts, hq⟩ := pick_list len0 _ hrow
    refine ⟨ts, some a, len0, cap0, rfl, hts, by omega, ?_, fun t ht => ?_⟩
    · by_cases hz : ts.length = 0
      · exact .inl (List.eq_nil_of_length_eq_zero hz)
      · obtain ⟨b, off, spot⟩ := a
        have c0 := (hq 0 (by omega)).2 0 _ rfl
        have hspot : spot = none := by simpa [Addr.add] using World.cell?_spot c0
        subst hspot
        have hlt := World.block_lt_of_cell? w _ c0
        rw [Addr.add_lit] at hlt
        refine .inr ⟨b, off, rfl, hlt, fun i hi j v hj => ?_⟩
        have c1 := (hq i hi).2 j v hj
        rw [Addr.add_lit] at c1
        rw [Nat.add_assoc]; exact c1
    · obtain ⟨i, hi, rfl⟩ := List.getElem_of_mem ht
      exact (hq i hi).1
theorem szBlowerS_any (a : Option Addr) (n c : Nat) (left : Int) (w : World) (h0 : 0 ≤ left) (h1 : left ≤ 1048576) (hn : n ≤ maxLen) :
    Calls Try.prog 46 #[.slice a n c, .int .i64 left] w fun e w' => e = .returned (.int .i64 (leftOf left n)) ∧ w = w' := by
  unfold maxLen at hn
  by_cases h : left < n
  · have HR := Lib.hid (leftOf_less h)
    go_enter Try.func46, Try.ntmps46
    go_wp2
    go_ret
    exact ⟨ret_int HR.out.symm, rfl⟩
  · have HR := Lib.hid (leftOf_enough h)
    go_enter Try.func46, Try.ntmps46
    go_wp2
    go_ret
    exact ⟨ret_int HR.out.symm, rfl⟩
theorem info45 : (Try.prog.info? 45).map (fun i => (i.zero, i.size, i.bytes)) = some (some (.agg #[.int .i64 0, .int .i64 0, .int .i64 0]), 3, 24) := by kernel_rfl
theorem cBlower_cells {w : World} {g : Nat} {cur : Array Value} {e : TypeId} (h : w.heap[g]? = some (.cells cur e (0, 0))) (k : Nat) (hk : k * 3 + 2 < cur.size) :
    (∃ v, w.cell? ⟨g, k * 3, none⟩ = some v) ∧ (∃ v, w.cell? ⟨g, k * 3 + 1, none⟩ = some v) ∧ (∃ v, w.cell? ⟨g, k * 3 + 2, none⟩ = some v) ∧ w.frozen? ⟨g, k * 3, none⟩ = false ∧ w.frozen? ⟨g, k * 3 + 1, none⟩ = false ∧ w.frozen? ⟨g, k * 3 + 2, none⟩ = false := by
  refine ⟨⟨cur[k * 3], ?_⟩, ⟨cur[k * 3 + 1], ?_⟩, ⟨cur[k * 3 + 2], ?_⟩, ?_, ?_, ?_⟩
  · rw [cell_of_row w g _ cur e (0, 0) h]; exact Array.getElem?_eq_getElem _
  · rw [cell_of_row w g _ cur e (0, 0) h]; exact Array.getElem?_eq_getElem _
  · rw [cell_of_row w g _ cur e (0, 0) h]; exact Array.getElem?_eq_getElem _
  all_goals exact frozen_of_row w g _ cur e h
theorem cBlower_step {ts : List TBlower} {cur : Array Value} {k : Nat} (h : FilledR 3 cBlower ts cur k) (hs : cur.size = ts.length * 3) (hk : k < ts.length) : FilledR 3 cBlower ts (((cur.setIfInBounds (k * 3) (.int .i64 ts[k].1)).setIfInBounds (k * 3 + 1) (.int .i64 ts[k].2.1)).setIfInBounds (k * 3 + 2) (.int .i64 ts[k].2.2)) (k + 1) := by
  refine h.next cBlower_len hk (fun p hp => ?_) (fun j v hj => ?_)
  · rw [Array.getElem?_setIfInBounds_ne (by omega), Array.getElem?_setIfInBounds_ne (by omega), Array.getElem?_setIfInBounds_ne (by omega)]
  · match j, hj with
    | 0, hj => obtain rfl : _ = v := Option.some.inj hj; simp [Array.getElem?_setIfInBounds]; omega
    | 1, hj => obtain rfl : _ = v := Option.some.inj hj; simp [Array.getElem?_setIfInBounds]; omega
    | 2, hj => obtain rfl : _ = v := Option.some.inj hj; simp [Array.getElem?_setIfInBounds]; omega
    | j + 3, hj => simp [cBlower] at hj
set_option maxHeartbeats 1000000 in
theorem toBlowerS_any (a : Option Addr) (ts : List TBlower) (n ca : Nat) (w : World) (hn : Hid (ts.length = n)) (ha : RR 3 cBlower w a ts) (hmax : n ≤ 1048576) :
    Calls Try.prog 47 #[.slice a n ca] w (GivesR 45 3 cBlower ts n w) := by
  obtain ⟨i0, hi, hz0, hz1, hz2⟩ := info_parts info45
  have hmk := run_make_rowN (P := Try.prog) 24 45 i0 _ Try.underlying24 hi hz0 .i64 .i64 n n (Nat.le_refl _) (by rw [hz2]; omega) (by omega)
  rw [hz1] at hmk
  clear hi hz0 hz1 hz2
  have HSZ : Hid ((madeCells (Value.cells (.agg #[.int .i64 0, .int .i64 0, .int .i64 0])) (n * 3)).size = n * 3) := size_madeCells _ _
  generalize madeCells (Value.cells (.agg #[.int .i64 0, .int .i64 0, .int .i64 0])) (n * 3) = cur0 at hmk HSZ
  by_cases hz : n = 0
  · have HZ := Lib.hid hz
    clear hz
    go_enter Try.func47, Try.ntmps47
    go_wp2
    go_loopw [4] (fun i wr => ∃ k : Nat, k ≤ n ∧ i = .int .i64 k ∧ wr = w.alloc (.cells cur0 45)) (fun _ _ => 0)
    case atStart => exact ⟨0, by omega, rfl, rfl⟩
    case round =>
      obtain ⟨k, hk, rfl, rfl⟩ := hrel
      have hlt : ¬ k < n := by rw [HZ.out]; omega
      go_wp2
      go_ret
      exact givesR_of (by omega) cBlower_len hn.out rfl (Nat.le_refl _) ((Below.refl _ _).alloc (Nat.le_refl _) _) (heap_alloc_new w _) HSZ.out (by rw [hn.out]; omega) (fun i hi => by have := hn.out; have := HZ.out; omega)
  · obtain ⟨b, off, rfl, hb, hc⟩ := ha.addr (by rw [hn.out]; omega)
    have HC := Lib.hid hc
    clear hc ha
    go_enter Try.func47, Try.ntmps47
    go_wp2
    go_loopw [4] (fun i wr => ∃ (k : Nat) (cur : Array Value), k ≤ n ∧ i = .int .i64 k ∧ Below w.heap.size w wr ∧ Hid (wr.heap[w.heap.size]? = some (.cells cur 45 (0, 0))) ∧ Hid (cur.size = n * 3) ∧ FilledR 3 cBlower ts cur k) (fun i _ => n - (intOf i).toNat)
    case atStart => exact ⟨0, cur0, by omega, rfl, (Below.refl _ _).alloc (Nat.le_refl _) _, heap_alloc_new w _, HSZ, FilledR.zero _ _ _ _⟩
    case round =>
      obtain ⟨k, cur, hk, rfl, hbel, HG, HS, hfil⟩ := hrel
      by_cases hlt : k < n
      · have hka : k < ts.length := by rw [hn.out]; exact hlt
        obtain ⟨x0, x1, x2⟩ := cBlower_at HC.out k hka
        have HST := Lib.hid (cBlower_step hfil (by rw [HS.out, hn.out]) hka)
        generalize ts[k] = t at x0 x1 x2 HST
        rw [← hbel.cell (p := ⟨_, _, none⟩) hb] at x0 x1 x2
        have hk0 : (0 : Int) ≤ (k : Int) := by omega
        have hk1 : (k : Int) < (n : Int) := by omega
        have hgl : w.heap.size < wr.heap.size := (Array.getElem?_eq_some_iff.1 HG.out).1
        go_wp2_with fail
        refine (toBlower_any t _).mono ?_
        rintro e w1 ⟨rfl, hb1⟩
        have HG1 : Hid (w1.heap[w.heap.size]? = some (.cells cur 45 (0, 0))) := (hb1.block _ hgl).trans HG.out
        obtain ⟨⟨v0, o0⟩, ⟨v1, o1⟩, ⟨v2, o2⟩, z0, z1, z2⟩ := cBlower_cells HG1.out k (by rw [HS.out]; omega)
        have HB1 := Lib.hid (hbel.trans (hb1.mono hbel.size))
        clear hb1 hbel x0 x1 x2
        go_wp2
        go_roundw
        case rel => exact ⟨k + 1, _, by omega, by go_num, (((HB1.out.setCell (Nat.le_refl _) _).setCell (Nat.le_refl _) _).setCell (Nat.le_refl _) _), (heap_setCell_same _ _ _ _ _ _ (heap_setCell_same _ _ _ _ _ _ (heap_setCell_same _ _ _ _ _ _ HG1.out))), by unfold Hid; simp; exact HS.out, HST.out⟩
        case measure => simp [intOf]; omega
      · go_wp2
        go_ret
        exact givesR_of (by omega) cBlower_len hn.out rfl (Nat.le_refl _) hbel HG.out HS.out (by rw [hn.out]; omega) (fun i hi j v hj => hfil i hi (by rw [hn.out] at hi; omega) j v hj)

set_option maxHeartbeats 1000000 in
theorem eqBlowerS_any (a b : Option Addr) (ts us : List TBlower) (n m ca cb : Nat) (w : World) (hn : Hid (ts.length = n)) (hm : Hid (us.length = m)) (ha : RR 3 cBlower w a ts) (hb : RR 3 cBlower w b us) (hmax : n ≤ maxLen) :
    Calls Try.prog 48 #[.slice a n ca, .slice b m cb] w fun e w' => e = .returned (.bool (ts == us)) ∧ Below w.heap.size w w' := by
  unfold maxLen at hmax
  by_cases hl : n = m
  · subst hl
    have HLE : Hid (ts.length = us.length) := hn.out.trans hm.out.symm
    by_cases hz : n = 0
    · subst hz
      have HR : Hid ((ts == us) = true) := eqL_ext ts us HLE.out (fun i h1 _ => by rw [hn.out] at h1; omega)
      go_enter Try.func48, Try.ntmps48
      go_wp2
      go_loop [5] (fun i => i = .int .i64 0) (fun _ => 0)
      case atStart => rfl
      case round =>
        obtain rfl := hrel
        go_wp2
        go_ret
        exact ⟨ret_bool HR.out.symm, Below.refl _ _⟩
    · obtain ⟨ba, oa, rfl, hba, hca⟩ := ha.addr (by rw [hn.out]; omega)
      obtain ⟨bb, ob, rfl, hbb, hcb⟩ := hb.addr (by rw [hm.out]; omega)
      have HCA := Lib.hid hca
      have HCB := Lib.hid hcb
      clear hca hcb ha hb
      go_enter Try.func48, Try.ntmps48
      go_wp2
      go_loopw [5] (fun i wr => ∃ k : Nat, k ≤ n ∧ i = .int .i64 k ∧ Below w.heap.size w wr ∧ ∀ j (h1 : j < ts.length) (h2 : j < us.length), j < k → (ts[j] == us[j]) = true) (fun i _ => n - (intOf i).toNat)
      case atStart => exact ⟨0, by omega, rfl, Below.refl _ _, fun j _ _ hj => by omega⟩
      case round =>
        obtain ⟨k, hk, rfl, hbel, hall⟩ := hrel
        have HALL := Lib.hid hall
        clear hall
        by_cases hlt : k < n
        · have hka : k < ts.length := by rw [hn.out]; exact hlt
          have hkb : k < us.length := by rw [hm.out]; exact hlt
          obtain ⟨x0, x1, x2⟩ := cBlower_at HCA.out k hka
          obtain ⟨y0, y1, y2⟩ := cBlower_at HCB.out k hkb
          generalize hT : ts[k] = t at x0 x1 x2
          generalize hU : us[k] = u at y0 y1 y2
          have HT := Lib.hid hT
          have HU := Lib.hid hU
          clear hT hU
          rw [← hbel.cell (p := ⟨_, _, none⟩) hba] at x0 x1 x2
          rw [← hbel.cell (p := ⟨_, _, none⟩) hbb] at y0 y1 y2
          have hk0 : (0 : Int) ≤ (k : Int) := by omega
          have hk1 : (k : Int) < (n : Int) := by omega
          have hba' : ba < wr.heap.size := by have := hbel.size; omega
          have hbb' : bb < wr.heap.size := by have := hbel.size; omega
          cases htu : (t == u) with
          | true =>
            go_wp2
            go_region_held3 (fun w' => w'.cell? ⟨ba, oa + k * 3, none⟩ = some (.int .i64 t.1) ∧ w'.cell? ⟨ba, oa + k * 3 + 1, none⟩ = some (.int .i64 t.2.1) ∧ w'.cell? ⟨ba, oa + k * 3 + 2, none⟩ = some (.int .i64 t.2.2) ∧ w'.cell? ⟨bb, ob + k * 3, none⟩ = some (.int .i64 u.1) ∧ w'.cell? ⟨bb, ob + k * 3 + 1, none⟩ = some (.int .i64 u.2.1) ∧ w'.cell? ⟨bb, ob + k * 3 + 2, none⟩ = some (.int .i64 u.2.2)) (first | exact ⟨x0, x1, x2, y0, y1, y2⟩ | exact ⟨(hb1.cell (p := ⟨_, _, none⟩) hba').trans x0, (hb1.cell (p := ⟨_, _, none⟩) hba').trans x1, (hb1.cell (p := ⟨_, _, none⟩) hba').trans x2, (hb1.cell (p := ⟨_, _, none⟩) hbb').trans y0, (hb1.cell (p := ⟨_, _, none⟩) hbb').trans y1, (hb1.cell (p := ⟨_, _, none⟩) hbb').trans y2⟩)
              (first | (go_at_call 98; refine (eqBlower_any _ _ _).mono ?_; rintro e w1 ⟨rfl, hb1⟩))
            have hbel' := hbel.drew.trans (hb1.mono hbel.size)
            go_wp2
            go_roundw
            case rel => exact ⟨k + 1, by omega, by go_num, hbel', fun j h1 h2 hj => if e : j = k then (by subst e; rw [HT.out, HU.out]; exact htu) else HALL.out j h1 h2 (by omega)⟩
            case measure => simp [intOf]; omega
          | false =>
            have HR : Hid ((ts == us) = false) := eqL_bad ts us k hka hkb (by rw [HT.out, HU.out]; exact htu)
            go_wp2
            go_region_held3 (fun w' => w'.cell? ⟨ba, oa + k * 3, none⟩ = some (.int .i64 t.1) ∧ w'.cell? ⟨ba, oa + k * 3 + 1, none⟩ = some (.int .i64 t.2.1) ∧ w'.cell? ⟨ba, oa + k * 3 + 2, none⟩ = some (.int .i64 t.2.2) ∧ w'.cell? ⟨bb, ob + k * 3, none⟩ = some (.int .i64 u.1) ∧ w'.cell? ⟨bb, ob + k * 3 + 1, none⟩ = some (.int .i64 u.2.1) ∧ w'.cell? ⟨bb, ob + k * 3 + 2, none⟩ = some (.int .i64 u.2.2)) (first | exact ⟨x0, x1, x2, y0, y1, y2⟩ | exact ⟨(hb1.cell (p := ⟨_, _, none⟩) hba').trans x0, (hb1.cell (p := ⟨_, _, none⟩) hba').trans x1, (hb1.cell (p := ⟨_, _, none⟩) hba').trans x2, (hb1.cell (p := ⟨_, _, none⟩) hbb').trans y0, (hb1.cell (p := ⟨_, _, none⟩) hbb').trans y1, (hb1.cell (p := ⟨_, _, none⟩) hbb').trans y2⟩)
              (first | (go_at_call 98; refine (eqBlower_any _ _ _).mono ?_; rintro e w1 ⟨rfl, hb1⟩))
            have hbel' := hbel.drew.trans (hb1.mono hbel.size)
            go_wp2
            go_ret
            exact ⟨ret_bool HR.out.symm, hbel'⟩
        · have HR : Hid ((ts == us) = true) := eqL_ext ts us HLE.out (fun i h1 h2 => HALL.out i h1 h2 (by rw [hn.out] at h1; omega))
          go_wp2
          go_ret
          exact ⟨ret_bool HR.out.symm, hbel⟩
  · have HR : Hid ((ts == us) = false) := eqL_len ts us (by rw [hn.out, hm.out]; exact hl)
    have hne : ((n : Int) != (m : Int)) = true := by rw [bne_iff_ne]; omega
    go_enter Try.func48, Try.ntmps48
    go_wp2
    go_ret
    exact ⟨ret_bool HR.out.symm, Below.refl _ _⟩
end Go.Proofs.Ytiilgeoahpnkpaa
