/-
  Slices of lists of numbers: how they lie in memory, the walks of the laws' own helpers on them, and how arguments of these types read.
-/
import Derived.Test.YtenjigifjkfiaaaNest
import Derived.Test.YtenjigifjkfiaaaNums
import Derived.Test.YtenjigifjkfiaaaProg
import Derived.Outline
import Derived.LoopTactic
import Derived.StillTailTactics
import Derived.BigQuiet
import Derived.Deep.QuietTactic
import Derived.Deep.RegionHeld3
namespace Go.Proofs.Ytenjigifjkfiaaa
open Go.RowKit Go.ChangeShapes Go.WideShapes Go.Deep Go.Joins

abbrev TInt64S := List Int × Unit
/-- The cells of one. -/
def cInt64S (v : Value) (_b : Unit) : List Value := [v]
theorem cInt64S_len (v : Value) (b : Unit) : (cInt64S v b).length = 1 := rfl
/-- What the marks write behind a list. -/
def exInt64S (_k : Int) : Unit := ()
theorem pairU (t u : TInt64S) : (t == u) = (t.1 == u.1) := by obtain ⟨t1, t2⟩ := t; obtain ⟨u1, u2⟩ := u; show ((t1 == u1) && (t2 == u2)) = (t1 == u1); simp
theorem ints_ofInt64S {H : Type} {enc : TypeId × Value → H} {w : World} {spare : Nat → Bool} {held : Bool} {base fuel : Nat} {v : Value} {y : DataW H × List MemPlace}
    (h : DataW.trod enc Try.prog w base spare held fuel 28 [v] = some y) : ∃ (ns : List Int) (ai : Option Addr) (ci : Nat), v = .slice ai ns.length ci ∧ RI w ai ns ∧ ns.length ≤ maxLen ∧ ∀ k ∈ ns, (Lit.int .i64 k).wf = true := by
  rcases open_ints Try.underlying28 Try.underlying2 (by kernel_rfl) h with ⟨hcs, _⟩ | ⟨x, l, c, zs, hcs, _, hl, hm, hz, _, hcell, hwz⟩
  · obtain rfl : v = .slice none 0 0 := by simpa using hcs
    exact ⟨[], none, 0, rfl, .inl rfl, by simp, fun k hk => by simp at hk⟩
  · obtain rfl : v = .slice (some x) l c := by simpa using hcs
    have hz' : l ≤ zs.length := by rw [hz]; split <;> omega
    have hlen : (zs.take l).length = l := by rw [List.length_take]; omega
    refine ⟨zs.take l, some x, c, by rw [hlen], ?_, by omega, fun k hk => hwz k (List.mem_of_mem_take hk)⟩
    by_cases hz0 : l = 0
    · exact .inl (List.eq_nil_of_length_eq_zero (by omega))
    · obtain ⟨b, off, spot⟩ := x
      have c0 := hcell 0 (by omega)
      have hspot : spot = none := by simpa [Addr.add] using World.cell?_spot c0
      subst hspot
      refine .inr ⟨b, off, rfl, fun i hi => ?_⟩
      have hi' : i < zs.length := by simp at hi; omega
      have ci := hcell i hi'
      rw [Addr.add_lit] at ci
      rw [ci, List.getElem_take, List.getD_eq_getElem?_getD, List.getElem?_eq_getElem hi']
      rfl
def wfInt64S (t : TInt64S) : Prop := (∀ k ∈ t.1, (Lit.int .i64 k).wf = true)
/-- A value is a slice of them. -/
def Int64SsIn (w : World) (v : Value) (x : List TInt64S) : Prop :=
  ∃ a n cap, v = .slice a n cap ∧ Hid (x.length = n) ∧ n ≤ maxLen ∧ RN maxLen 1 cInt64S w a x ∧ ∀ t ∈ x, wfInt64S t
theorem cellsInt64S : Try.prog.cellsOf 28 = 1 := by kernel_rfl
set_option maxRecDepth 100000 in
theorem open_Int64Ss {H : Type} {enc : TypeId × Value → H} {w : World} {spare : Nat → Bool} {held : Bool} {r : Reach} {b0 : Nat} {v : Value} {d : DataW H} {p : List MemPlace}
    (hv : Value.okWide Try.prog w r b0 54 v) (h : DataW.Trod enc Try.prog w 0 spare held 54 v d p) : ∃ x, Int64SsIn w v x := by
  obtain ⟨a0, len0, cap0, rfl⟩ := okWide_slice Try.underlying54 hv
  obtain ⟨fuel, hf⟩ := h
  rcases open_slice Try.underlying54 hf with ⟨hcs, _⟩ | ⟨a, len, cap, m', n, D, Pl, hcs, _, hl, hm, hmm, _, hi⟩
  · simp [Value.cells] at hcs
    obtain ⟨rfl, rfl, rfl⟩ := hcs
    exact ⟨[], none, 0, 0, rfl, rfl, by omega, RN.nil _ _ _ _ _, fun k hk => by simp at hk⟩
  · simp [Value.cells] at hcs
    obtain ⟨rfl, rfl, rfl⟩ := hcs
    have hmlen : len0 ≤ m' := by rw [hmm]; split <;> omega
    have hrow : ∀ i, i < len0 → ∃ e : NE (Unit), (∃ ai ci, e.1 = .slice ai e.2.1.length ci ∧ RI w ai e.2.1 ∧ e.2.1.length ≤ maxLen) ∧ wfInt64S e.2 ∧ ∀ (j : Nat) (v : Value), (ceN cInt64S e)[j]? = some v → w.cell? (a.add (i * 1 + j)) = some v := by
      intro i hlt
      obtain ⟨cs', hc, ht'⟩ := hi i (by omega)
      rw [cellsInt64S] at hc
      obtain ⟨_, hcl, hat⟩ := World.cells?_some hc
      obtain ⟨v0, rfl⟩ : ∃ v0, cs' = [v0] := by
        match cs', hcl with
        | [v0], _ => exact ⟨v0, rfl⟩
      obtain ⟨ns, ai, ci, hv0, hr, hm0, hw⟩ := ints_ofInt64S ht'
      have g0 := hat (i := 0) (by omega)
      refine ⟨(v0, ns, ()), ⟨ai, ci, hv0, hr, hm0⟩, hw, fun j v hj => ?_⟩
      match j, hj with
      | 0, hj => obtain rfl : v0 = v := Option.some.inj hj; rw [Go.Deep.add_add] at g0; exact g0
      | j + 1, hj => simp [ceN, cInt64S] at hj
    obtain ⟨es, hes, hq⟩ := pick_list len0 _ hrow
    refine ⟨es.map (·.2), some a, len0, cap0, rfl, by unfold Hid; simp [hes], by omega, ⟨es, rfl, ?_, fun i hi => (hq i hi).1⟩, fun t ht => ?_⟩
    · by_cases hz : es.length = 0
      · exact .inl (List.eq_nil_of_length_eq_zero hz)
      · obtain ⟨b, off, spot⟩ := a
        have c0 := (hq 0 (by omega)).2.2 0 _ rfl
        have hspot : spot = none := by simpa [Addr.add] using World.cell?_spot c0
        subst hspot
        have hlt := World.block_lt_of_cell? w _ c0
        rw [Addr.add_lit] at hlt
        refine .inr ⟨b, off, rfl, hlt, fun i hi j v hj => ?_⟩
        have c1 := (hq i hi).2.2 j v hj
        rw [Addr.add_lit] at c1
        rw [Nat.add_assoc]; exact c1
    · obtain ⟨e, he, rfl⟩ := List.mem_map.1 ht
      obtain ⟨i, hi, rfl⟩ := List.getElem_of_mem he
      exact (hq i hi).2.1
theorem szInt64S_any (a : Option Addr) (n c : Nat) (left : Int) (w : World) (h0 : 0 ≤ left) (h1 : left ≤ 1048576) (hn : n ≤ maxLen) :
    Calls Try.prog 64 #[.slice a n c, .int .i64 left] w fun e w' => e = .returned (.int .i64 (leftOf left n)) ∧ Below w.heap.size w w' := by
  unfold maxLen at hn
  by_cases h : left < n
  · have HR := Lib.hid (leftOf_less h)
    go_enter Try.func64, Try.ntmps64
    go_wp2
    go_ret
    exact ⟨ret_int HR.out.symm, Below.refl _ _⟩
  · have HR := Lib.hid (leftOf_enough h)
    go_enter Try.func64, Try.ntmps64
    go_wp2
    go_ret
    exact ⟨ret_int HR.out.symm, Below.refl _ _⟩
set_option maxHeartbeats 1000000 in
theorem szInt64SS_any (a : Option Addr) (ts : List TInt64S) (n ca : Nat) (left : Int) (w : World) (hn : Hid (ts.length = n)) (ha : RN maxLen 1 cInt64S w a ts) (h0 : 0 ≤ left) (h1 : left ≤ 1048576) (hmax : n ≤ maxLen) :
    Calls Try.prog 34 #[.slice a n ca, .int .i64 left] w fun e w' => e = .returned (.int .i64 (szN left ts)) ∧ Below w.heap.size w w' := by
  unfold maxLen at hmax
  by_cases h : left < (n : Int)
  · have HR : Hid (szN left ts = -1) := by unfold Hid szN; rw [hn.out]; exact if_pos h
    go_enter Try.func34, Try.ntmps34
    go_wp2
    go_ret
    exact ⟨ret_int HR.out.symm, Below.refl _ _⟩
  · have HR : Hid (szN left ts = szGo (left - n) ts) := by unfold Hid szN; rw [hn.out]; exact if_neg h
    by_cases hz : n = 0
    · subst hz
      have HT : Hid (szGo left ts = left) := by
        have := List.eq_nil_of_length_eq_zero hn.out
        subst this
        simp [szGo, Hid]
      go_enter Try.func34, Try.ntmps34
      go_wp2
      go_loop [1, 5] (fun l i => i = .int .i64 0 ∧ l = .int .i64 left) (fun _ _ => 0)
      case atStart => exact ⟨rfl, by simp⟩
      case round =>
        obtain ⟨rfl, rfl⟩ := hrel
        go_wp2
        go_ret
        exact ⟨ret_int (by rw [HR.out]; simpa using HT.out.symm), Below.refl _ _⟩
    · obtain ⟨b, off, rfl, hb, hc⟩ := ha.addr (by rw [hn.out]; omega)
      have HC := Lib.hid hc
      clear hc ha
      go_enter Try.func34, Try.ntmps34
      go_wp2
      go_loopw [1, 5] (fun l i wr => ∃ (k : Nat) (L : Int), k ≤ n ∧ i = .int .i64 k ∧ l = .int .i64 L ∧ 0 ≤ L ∧ L ≤ left ∧ Hid (szGo (left - n) ts = szGo L (ts.drop k)) ∧ Below w.heap.size w wr) (fun _ i _ => n - (intOf i).toNat)
      case atStart => exact ⟨0, left - n, by omega, rfl, rfl, by omega, by omega, rfl, Below.refl _ _⟩
      case round =>
        obtain ⟨k, L, hk, rfl, rfl, hL0, hL1, HL, hbel⟩ := hrel
        by_cases hlt : k < n
        · have hka : k < ts.length := by rw [hn.out]; exact hlt
          obtain ⟨ai, ci, _, hm, hc⟩ := HC.out k hka
          have HG := Lib.hid (szGo_drop L ts k hka)
          have x0 := hc 0 _ rfl
          simp only [Nat.mul_one, Nat.add_zero] at x0
          clear hc
          generalize ts[k] = t at x0 hm HG
          rw [← hbel.cell (p := ⟨_, _, none⟩) hb] at x0
          have hk0 : (0 : Int) ≤ (k : Int) := by omega
          have hk1 : (k : Int) < (n : Int) := by omega
          have hL2 : L ≤ 1048576 := by omega
          obtain ⟨t1, t2⟩ := t
          dsimp only at x0 hm HG
          generalize hq : t1.length = q at x0 hm HG
          clear hq
          by_cases hless : L < (q : Int)
          · have HV := Lib.hid (leftOf_less hless)
            have hneg : leftOf L q < 0 := by rw [HV.out]; omega
            have HT : Hid (szN left ts = -1) := by unfold Hid; rw [HR.out, HL.out, HG.out, if_pos hless]
            clear hless
            go_wp2_with (go_at_call 64; refine (szInt64S_any _ _ _ _ _ hL0 hL2 hm).mono ?_; rintro e w1 ⟨rfl, hb1⟩)
            go_ret
            exact ⟨ret_int HT.out.symm, hbel.trans (hb1.mono hbel.size)⟩
          · have HV := Lib.hid (leftOf_enough hless)
            have hneg : ¬ leftOf L q < 0 := by rw [HV.out]; omega
            have HT : Hid (szGo (left - n) ts = szGo (leftOf L q) (ts.drop (k + 1))) := by unfold Hid; rw [HL.out, HG.out, if_neg hless, HV.out]
            have hle : leftOf L q ≤ left := by rw [HV.out]; omega
            have hge : 0 ≤ leftOf L q := by rw [HV.out]; omega
            clear hless
            go_wp2_with (go_at_call 64; refine (szInt64S_any _ _ _ _ _ hL0 hL2 hm).mono ?_; rintro e w1 ⟨rfl, hb1⟩)
            go_roundw
            case rel => exact ⟨k + 1, _, by omega, by go_num, rfl, hge, hle, HT.out, hbel.trans (hb1.mono hbel.size)⟩
            case measure => simp [intOf]; omega
        · have HT : Hid (szN left ts = L) := by
            unfold Hid
            rw [HR.out, HL.out, List.drop_eq_nil_of_le (by rw [hn.out]; omega)]
            rfl
          go_wp2
          go_ret
          exact ⟨ret_int HT.out.symm, hbel⟩
theorem info28 : (Try.prog.info? 28).map (fun i => (i.zero, i.size, i.bytes)) = some (some (.slice none 0 0), 1, 24) := by kernel_rfl
theorem cInt64S_cells {w : World} {g : Nat} {cur : Array Value} {e : TypeId} (h : w.heap[g]? = some (.cells cur e (0, 0))) (k : Nat) (hk : k * 1 + 0 < cur.size) :
    (∃ v, w.cell? ⟨g, k * 1, none⟩ = some v) ∧ w.frozen? ⟨g, k * 1, none⟩ = false := by
  refine ⟨⟨cur[k * 1], ?_⟩, ?_⟩
  · rw [cell_of_row w g _ cur e (0, 0) h]; exact Array.getElem?_eq_getElem _
  all_goals exact frozen_of_row w g _ cur e h
/-- A round that makes one more. -/
theorem cInt64S_made {ts : List TInt64S} {cur : Array Value} {g n k : Nat} {w w1 : World} {u : Value} (h : HalfN g 1 2 cInt64S ts cur w k) (hk : k < ts.length) (hg : g < w.heap.size) (hb : Below w.heap.size w w1) (hs : cur.size = n * 1) (hn : ts.length = n)
    (ho : w1.ownsRow w.heap.size 2 1 u ts[k].1.length (ts[k].1.map (Value.int .i64))) : HalfN g 1 2 cInt64S ts (cur.setIfInBounds (k * 1) (u)) (w1.setCell ⟨g, k * 1, none⟩ (u)) (k + 1) := by
  refine h.step cInt64S_len hk hg hb ho (fun p hp => ?_) (by simp) rfl rfl rfl (fun p hp => ?_) (fun j v hj => ?_)
  · rw [heap_setCell_other _ _ _ _ hp]
  · rw [Array.getElem?_setIfInBounds_ne (by omega)]
  · match j, hj with
    | 0, hj => obtain rfl : _ = v := Option.some.inj hj; simp [Array.getElem?_setIfInBounds]; omega
    | j + 1, hj => simp [cInt64S] at hj
set_option maxHeartbeats 1000000 in
theorem toInt64SS_any (a : Option Addr) (ts : List TInt64S) (n ca : Nat) (w : World) (hn : Hid (ts.length = n)) (ha : RN 1048576 1 cInt64S w a ts) (hmax : n ≤ 1048576) :
    Calls Try.prog 36 #[.slice a n ca] w (GivesN 28 2 1 cInt64S ts n w) := by
  obtain ⟨i0, hi, hz0, hz1, hz2⟩ := info_parts info28
  have hmk := run_make_rowN (P := Try.prog) 54 28 i0 _ Try.underlying54 hi hz0 .i64 .i64 n n (Nat.le_refl _) (by rw [hz2]; omega) (by omega)
  rw [hz1] at hmk
  clear hi hz0 hz1 hz2
  have HSZ : Hid ((madeCells (Value.cells (.slice none 0 0)) (n * 1)).size = n * 1) := size_madeCells _ _
  generalize madeCells (Value.cells (.slice none 0 0)) (n * 1) = cur0 at hmk HSZ
  by_cases hz : n = 0
  · have HZ := Lib.hid hz
    have HT : Hid (ts = []) := List.eq_nil_of_length_eq_zero (hn.out.trans hz)
    clear hz
    go_enter Try.func36, Try.ntmps36
    go_wp2
    go_loopw [4] (fun i wr => ∃ k : Nat, k ≤ n ∧ i = .int .i64 k ∧ wr = w.alloc (.cells cur0 28)) (fun _ _ => 0)
    case atStart => exact ⟨0, by omega, rfl, rfl⟩
    case round =>
      obtain ⟨k, hk, rfl, rfl⟩ := hrel
      have hlt : ¬ k < n := by rw [HZ.out]; omega
      go_wp2
      go_ret
      refine ⟨w.heap.size, rfl, Nat.le_refl _, (Below.refl _ _).alloc (Nat.le_refl _) _, ?_⟩
      exact HalfN.full (by omega) cInt64S_len (by rw [HT.out, HZ.out]; exact HalfN.zero _ _ _ _ _ cur0 _) hn.out (heap_alloc_new w _) HSZ.out (by unfold maxLen; omega)
  · obtain ⟨b, off, rfl, hb, hc⟩ := ha.addr (by rw [hn.out]; omega)
    have HC := Lib.hid hc
    clear hc ha
    go_enter Try.func36, Try.ntmps36
    go_wp2
    go_loopw [4] (fun i wr => ∃ (k : Nat) (cur : Array Value), k ≤ n ∧ i = .int .i64 k ∧ Below w.heap.size w wr ∧ Hid (wr.heap[w.heap.size]? = some (.cells cur 28 (0, 0))) ∧ Hid (cur.size = n * 1) ∧ HalfN w.heap.size 1 2 cInt64S ts cur wr k) (fun i _ => n - (intOf i).toNat)
    case atStart => exact ⟨0, cur0, by omega, rfl, (Below.refl _ _).alloc (Nat.le_refl _) _, heap_alloc_new w _, HSZ, HalfN.zero _ _ _ _ _ _ _⟩
    case round =>
      obtain ⟨k, cur, hk, rfl, hbel, HG, HS, hhalf⟩ := hrel
      have HH := Lib.hid hhalf
      clear hhalf
      by_cases hlt : k < n
      · have hka : k < ts.length := by rw [hn.out]; exact hlt
        obtain ⟨ai, ci, hri, hq1, hc⟩ := HC.out k hka
        have hgl : w.heap.size < wr.heap.size := (Array.getElem?_eq_some_iff.1 HG.out).1
        have HST : Hid (∀ w1 u, Below wr.heap.size wr w1 → w1.ownsRow wr.heap.size 2 1 u ts[k].1.length (ts[k].1.map (Value.int .i64)) → HalfN w.heap.size 1 2 cInt64S ts (cur.setIfInBounds (k * 1) (u)) (w1.setCell ⟨w.heap.size, k * 1, none⟩ (u)) (k + 1)) :=
          fun w1 u hb1 ho => cInt64S_made HH.out hka hgl hb1 HS.out hn.out ho
        have HRI : Hid (∀ w', Below w.heap.size w w' → RI w' ai ts[k].1) := fun w' h => hri.below h
        have x0 := hc 0 _ rfl
        simp only [Nat.mul_one, Nat.add_zero] at x0
        clear hc hri
        generalize ts[k] = t at x0 hq1 HST HRI
        rw [← hbel.cell (p := ⟨_, _, none⟩) hb] at x0
        have hk0 : (0 : Int) ≤ (k : Int) := by omega
        have hk1 : (k : Int) < (n : Int) := by omega
        obtain ⟨t1, t2⟩ := t
        dsimp only at x0 hq1 HST HRI
        generalize hq : t1.length = q at x0 hq1 HST
        have HQ := Lib.hid hq
        clear hq
        go_wp2_with fail
        refine (toInt64S_any ai t1 q ci _ HQ (HRI.out _ hbel) hq1).mono ?_
        rintro e w1 ⟨g, rfl, hg, hb1, ho1⟩
        have HG1 : Hid (w1.heap[w.heap.size]? = some (.cells cur 28 (0, 0))) := (hb1.block _ hgl).trans HG.out
        obtain ⟨⟨v0, o0⟩, z0⟩ := cInt64S_cells HG1.out k (by rw [HS.out]; omega)
        have HB1 := Lib.hid (hbel.trans (hb1.mono hbel.size))
        have HS1 := Lib.hid (HST.out w1 _ hb1 ho1)
        clear hb1 hbel ho1 x0
        simp only [Nat.mul_one] at o0 z0 HS1
        go_wp2
        go_roundw
        case rel => exact ⟨k + 1, _, by omega, by go_num, (HB1.out.setCell (Nat.le_refl _) _), (heap_setCell_same _ _ _ _ _ _ HG1.out), by unfold Hid; simp; exact (HS.out.trans (by omega)), HS1.out⟩
        case measure => simp [intOf]; omega
      · have hkn : k = n := by omega
        subst hkn
        go_wp2
        go_ret
        exact ⟨w.heap.size, rfl, Nat.le_refl _, hbel, HalfN.full (by omega) cInt64S_len HH.out hn.out HG.out HS.out (by unfold maxLen; omega)⟩
set_option maxHeartbeats 4000000 in
theorem eqInt64SS_any (M : Nat) (hM : M ≤ maxLen) (a b : Option Addr) (ts us : List TInt64S) (n m ca cb : Nat) (w : World) (hn : Hid (ts.length = n)) (hm : Hid (us.length = m)) (ha : RN M 1 cInt64S w a ts) (hb : RN M 1 cInt64S w b us) (hmax : n ≤ maxLen) :
    Calls Try.prog 38 #[.slice a n ca, .slice b m cb] w fun e w' => e = .returned (.bool (ts == us)) ∧ Below w.heap.size w w' := by
  have HMX := Lib.hid hM
  clear hM
  unfold maxLen at hmax
  by_cases hl : n = m
  · subst hl
    have HLE : Hid (ts.length = us.length) := hn.out.trans hm.out.symm
    by_cases hz : n = 0
    · subst hz
      have HR : Hid ((ts == us) = true) := eqL_ext ts us HLE.out (fun i h1 _ => by rw [hn.out] at h1; omega)
      go_enter Try.func38, Try.ntmps38
      go_wp2
      go_loop [5] (fun i => i = .int .i64 0) (fun _ => 0)
      case atStart => rfl
      case round =>
        obtain rfl := hrel
        go_wp2
        go_ret
        exact ⟨ret_bool HR.out.symm, Below.refl _ _⟩
    · obtain ⟨ba, oa, rfl, hba, hca⟩ := ha.addr (by rw [hn.out]; omega)
      obtain ⟨bb, ob, rfl, hbb, hcb⟩ := hb.addr (by rw [hm.out]; omega)
      have HCA := Lib.hid hca
      have HCB := Lib.hid hcb
      clear hca hcb ha hb
      go_enter Try.func38, Try.ntmps38
      go_wp2
      go_loopw [5] (fun i wr => ∃ k : Nat, k ≤ n ∧ i = .int .i64 k ∧ Below w.heap.size w wr ∧ ∀ j (h1 : j < ts.length) (h2 : j < us.length), j < k → (ts[j] == us[j]) = true) (fun i _ => n - (intOf i).toNat)
      case atStart => exact ⟨0, by omega, rfl, Below.refl _ _, fun j _ _ hj => by omega⟩
      case round =>
        obtain ⟨k, hk, rfl, hbel, hall⟩ := hrel
        have HALL := Lib.hid hall
        clear hall
        by_cases hlt : k < n
        · have hka : k < ts.length := by rw [hn.out]; exact hlt
          have hkb : k < us.length := by rw [hm.out]; exact hlt
          obtain ⟨ai, ci, hra, hqa, hca⟩ := HCA.out k hka
          obtain ⟨bi, di, hrb, hqb, hcb⟩ := HCB.out k hkb
          have HRA : Hid (∀ w', Below w.heap.size w w' → RI w' ai ts[k].1) := fun w' h => hra.below h
          have HRB : Hid (∀ w', Below w.heap.size w w' → RI w' bi us[k].1) := fun w' h => hrb.below h
          have hq1 : ts[k].1.length ≤ maxLen := Nat.le_trans hqa HMX.out
          have x0 := hca 0 _ rfl
          simp only [Nat.mul_one, Nat.add_zero] at x0
          have y0 := hcb 0 _ rfl
          simp only [Nat.mul_one, Nat.add_zero] at y0
          clear hra hrb hqa hqb hca hcb
          generalize hT : ts[k] = t at x0 HRA hq1
          generalize hU : us[k] = u at y0 HRB
          have HT := Lib.hid hT
          have HU := Lib.hid hU
          clear hT hU
          generalize hq : t.1.length = q at x0 hq1
          generalize hr : u.1.length = r at y0
          have HQ := Lib.hid hq
          have HR1 := Lib.hid hr
          clear hq hr
          rw [← hbel.cell (p := ⟨_, _, none⟩) hba] at x0
          rw [← hbel.cell (p := ⟨_, _, none⟩) hbb] at y0
          have hk0 : (0 : Int) ≤ (k : Int) := by omega
          have hk1 : (k : Int) < (n : Int) := by omega
          have hba' : ba < wr.heap.size := by have := hbel.size; omega
          have hbb' : bb < wr.heap.size := by have := hbel.size; omega
          cases htu : (t == u) with
          | true =>
            have HTU := Lib.hid htu
            rw [pairU] at htu
            go_wp2
            go_region_held3 (fun w' => w'.cell? ⟨ba, oa + k, none⟩ = some (.slice ai q ci) ∧ w'.cell? ⟨bb, ob + k, none⟩ = some (.slice bi r di)) (first | exact ⟨x0, y0⟩ | exact ⟨(hb1.cell (p := ⟨_, _, none⟩) hba').trans x0, (hb1.cell (p := ⟨_, _, none⟩) hbb').trans y0⟩)
              (first | (go_at_call 26; refine (eqInt64S_any ai bi t.1 u.1 _ _ _ _ _ HQ HR1 (HRA.out _ hbel.drew) (HRB.out _ hbel.drew) hq1).mono ?_; rintro e w1 ⟨rfl, hb1⟩))
            have hbel' := hbel.drew.trans (hb1.mono hbel.size)
            go_wp2
            go_roundw
            case rel => exact ⟨k + 1, by omega, by go_num, hbel', fun j h1 h2 hj => if e : j = k then (by subst e; rw [HT.out, HU.out]; exact HTU.out) else HALL.out j h1 h2 (by omega)⟩
            case measure => simp [intOf]; omega
          | false =>
            have HR : Hid ((ts == us) = false) := eqL_bad ts us k hka hkb (by rw [HT.out, HU.out]; exact htu)
            rw [pairU] at htu
            go_wp2
            go_region_held3 (fun w' => w'.cell? ⟨ba, oa + k, none⟩ = some (.slice ai q ci) ∧ w'.cell? ⟨bb, ob + k, none⟩ = some (.slice bi r di)) (first | exact ⟨x0, y0⟩ | exact ⟨(hb1.cell (p := ⟨_, _, none⟩) hba').trans x0, (hb1.cell (p := ⟨_, _, none⟩) hbb').trans y0⟩)
              (first | (go_at_call 26; refine (eqInt64S_any ai bi t.1 u.1 _ _ _ _ _ HQ HR1 (HRA.out _ hbel.drew) (HRB.out _ hbel.drew) hq1).mono ?_; rintro e w1 ⟨rfl, hb1⟩))
            have hbel' := hbel.drew.trans (hb1.mono hbel.size)
            go_wp2
            go_ret
            exact ⟨ret_bool HR.out.symm, hbel'⟩
        · have HR : Hid ((ts == us) = true) := eqL_ext ts us HLE.out (fun i h1 h2 => HALL.out i h1 h2 (by rw [hn.out] at h1; omega))
          go_wp2
          go_ret
          exact ⟨ret_bool HR.out.symm, hbel⟩
  · have HR : Hid ((ts == us) = false) := eqL_len ts us (by rw [hn.out, hm.out]; exact hl)
    have hne : ((n : Int) != (m : Int)) = true := by rw [bne_iff_ne]; omega
    go_enter Try.func38, Try.ntmps38
    go_wp2
    go_ret
    exact ⟨ret_bool HR.out.symm, Below.refl _ _⟩
end Go.Proofs.Ytenjigifjkfiaaa
