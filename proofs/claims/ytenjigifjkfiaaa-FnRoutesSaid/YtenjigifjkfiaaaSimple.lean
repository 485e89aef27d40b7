/-
  Simple ways: what they are, and the walks of the two functions that tell them (l04Simple, isSimpleWay).
-/
import Derived.Test.YtenjigifjkfiaaaSetRun
import Derived.Test.YtenjigifjkfiaaaLawRow
import Derived.Deep.AppendLies
import Derived.Deep.RegionHeld3
import Derived.OwnWalk
namespace Go.Proofs.Ytenjigifjkfiaaa
open Go.RowKit

def frAt (ts : List T3) (k : Int) : Int := ((ts[k.toNat]?).map (·.1)).getD 0
def toAt (ts : List T3) (k : Int) : Int := ((ts[k.toNat]?).map (·.2.1)).getD 0
theorem frAt_of {ts : List T3} {j : Nat} {t : T3} (h : ts[j]? = some t) : frAt ts (j : Int) = t.1 := by unfold frAt; rw [Int.toNat_natCast, h]; rfl
theorem toAt_of {ts : List T3} {j : Nat} {t : T3} (h : ts[j]? = some t) : toAt ts (j : Int) = t.2.1 := by unfold toAt; rw [Int.toNat_natCast, h]; rfl
/-- The stations at which the first k tubes begin. -/
def frs (ts : List T3) (way : List Int) (k : Nat) : List Int := (way.take k).map (frAt ts)
theorem frs_len {ts : List T3} {way : List Int} {k : Nat} (h : k ≤ way.length) : (frs ts way k).length = k := by unfold frs; simp; omega
theorem frs_succ {ts : List T3} {way : List Int} {k : Nat} (h : k < way.length) : frs ts way (k + 1) = frs ts way k ++ [frAt ts way[k]] := by
  unfold frs; rw [List.take_succ_eq_append_getElem h, List.map_append]; rfl
def hasB (xs : List Int) (x : Int) : Bool := xs.contains x
def stepV (ts : List T3) (seen : List Int) (k : Nat) (p z : Int) : Bool := stB ts.length z && !(hasB seen (frAt ts z)) && (k == 0 || toAt ts p == frAt ts z)
def stepB (ts : List T3) (way : List Int) (k : Nat) : Bool := stepV ts (frs ts way k) k (way.getD (k - 1) 0) (way.getD k 0)
def endB (ts : List T3) (way : List Int) : Bool := way.length == 0 || !(hasB (frs ts way way.length) (toAt ts (way.getD (way.length - 1) 0)))
def simpleB (ts : List T3) (way : List Int) : Bool := decide (∀ k, k < way.length → stepB ts way k = true) && endB ts way
theorem stepV_out {ts : List T3} {seen : List Int} {k : Nat} {p z : Int} (h : stB ts.length z = false) : stepV ts seen k p z = false := by unfold stepV; rw [h]; rfl
theorem stepV_seen {ts : List T3} {seen : List Int} {k : Nat} {p z : Int} (h : hasB seen (frAt ts z) = true) : stepV ts seen k p z = false := by unfold stepV; rw [h]; simp
theorem stepV_first {ts : List T3} {seen : List Int} {k : Nat} {p z : Int} (h1 : stB ts.length z = true) (h2 : hasB seen (frAt ts z) = false) (hk : k = 0) : stepV ts seen k p z = true := by unfold stepV; rw [h1, h2, hk]; rfl
theorem stepV_next {ts : List T3} {seen : List Int} {k : Nat} {p z : Int} (h1 : stB ts.length z = true) (h2 : hasB seen (frAt ts z) = false) (hk : ¬ k = 0) : stepV ts seen k p z = (toAt ts p == frAt ts z) := by
  unfold stepV; rw [h1, h2]
  have : (k == 0) = false := by simpa using hk
  rw [this]; simp
theorem stepB_st {ts : List T3} {way : List Int} {k : Nat} (hk : k < way.length) (h : stepB ts way k = true) : stB ts.length way[k] = true := by
  unfold stepB stepV at h
  have e : way.getD k 0 = way[k] := by simp [hk]
  rw [e] at h
  simp only [Bool.and_eq_true] at h
  exact h.1.1
theorem simpleB_bad {ts : List T3} {way : List Int} {k : Nat} (hk : k < way.length) (h : stepB ts way k = false) : simpleB ts way = false := by
  unfold simpleB
  have : ¬ ∀ k, k < way.length → stepB ts way k = true := fun g => by rw [g k hk] at h; exact absurd h (by decide)
  rw [decide_eq_false this]; rfl
theorem simpleB_end {ts : List T3} {way : List Int} (h : ∀ k, k < way.length → stepB ts way k = true) : simpleB ts way = endB ts way := by
  unfold simpleB; rw [decide_eq_true h]; rfl
theorem endB_nil {ts : List T3} {way : List Int} (h : way.length = 0) : endB ts way = true := by unfold endB; rw [h]; rfl
theorem endB_last {ts : List T3} {way : List Int} {q : Nat} (h : way.length = q + 1) (hq : q < way.length) : endB ts way = !(hasB (frs ts way way.length) (toAt ts way[q])) := by
  unfold endB
  have e : way.getD (way.length - 1) 0 = way[q] := by
    rw [show way.length - 1 = q by omega]; simp [hq]
  rw [e]
  have : (way.length == 0) = false := by rw [h]; simp
  rw [this]; rfl

theorem contains_at {xs : List Int} {x : Int} (k : Nat) (hk : k < xs.length) (h : xs[k] = x) : hasB xs x = true := by
  unfold hasB
  rw [List.contains_iff_mem, ← h]; exact List.getElem_mem hk
theorem contains_none {xs : List Int} {x : Int} (h : ∀ k (hk : k < xs.length), ¬ xs[k] = x) : hasB xs x = false := by
  unfold hasB
  cases hc : xs.contains x with
  | false => rfl
  | true =>
    rw [List.contains_iff_mem] at hc
    obtain ⟨k, hk, e⟩ := List.getElem_of_mem hc
    exact absurd e (h k hk)
theorem own_below {w w' : World} {lo n : Nat} {e : TypeId} {size : Nat} {v : Value} {xs : List Value} (h : w.ownsRow lo e size v n xs) (hb : Below w.heap.size w w') : w'.ownsRow lo e size v n xs := ((Row.of h).below hb).1

theorem l00Has_any (a : Option Addr) (xs : List Int) (n c : Nat) (x : Int) (w : World) (hn : Hid (xs.length = n)) (ha : RI w a xs) (hmax : n ≤ 1048576) :
    Calls Try.prog 43 #[.slice a n c, .int .i64 x] w fun e w' => e = .returned (.bool (hasB xs x)) ∧ w = w' := by
  by_cases hz : n = 0
  · have HZ := Lib.hid hz
    have HR : Hid (hasB xs x = false) := contains_none (fun k hk => by rw [hn.out, hz] at hk; omega)
    clear hz
    go_enter Try.func43, Try.ntmps43
    go_wp2
    go_loop [5] (fun i => ∃ k : Nat, k ≤ n ∧ i = .int .i64 k) (fun _ => 0)
    case atStart => exact ⟨0, by omega, rfl⟩
    case round =>
      obtain ⟨k, hk, rfl⟩ := hrel
      have hlt : ¬ k < n := by rw [HZ.out]; omega
      go_wp2
      go_ret
      exact ⟨ret_bool HR.out.symm, rfl⟩
  · obtain ⟨bb, ob, rfl, hbb, hcb⟩ := ha.addr (by rw [hn.out]; omega)
    have HC := Lib.hid hcb
    clear hcb ha
    go_enter Try.func43, Try.ntmps43
    go_wp2
    go_loop [5] (fun i => ∃ k : Nat, k ≤ n ∧ i = .int .i64 k ∧ ∀ j (h : j < xs.length), j < k → ¬ xs[j] = x) (fun i => n - (intOf i).toNat)
    case atStart => exact ⟨0, by omega, rfl, fun j _ hj => by omega⟩
    case round =>
      obtain ⟨k, hk, rfl, hall⟩ := hrel
      have HALL := Lib.hid hall
      clear hall
      by_cases hlt : k < n
      · have hka : k < xs.length := by rw [hn.out]; exact hlt
        have x1 := HC.out k hka
        have HIT : Hid (xs[k] = x → hasB xs x = true) := fun h => contains_at k hka h
        have HSM : Hid (¬ xs[k] = x → ∀ j (h : j < xs.length), j < k + 1 → ¬ xs[j] = x) := fun ht j h hj => if e : j = k then (by subst e; exact ht) else HALL.out j h (by omega)
        generalize xs[k] = z at x1 HIT HSM
        have hk0 : (0 : Int) ≤ (k : Int) := by omega
        have hk1 : (k : Int) < (n : Int) := by omega
        rcases eq_ways z x with ⟨⟨e4, e5⟩, e6⟩ | ⟨⟨e4, e5⟩, e6⟩
        · have HR := Lib.hid (HIT.out e6)
          clear HIT HSM e6
          go_wp2
          go_ret
          exact ⟨ret_bool HR.out.symm, rfl⟩
        · have HSM2 := Lib.hid (HSM.out e6)
          clear HIT HSM e6
          go_wp2
          go_round
          case rel => exact ⟨k + 1, by omega, by go_num, HSM2.out⟩
          case measure => simp [intOf]; omega
      · have HR : Hid (hasB xs x = false) := contains_none (fun j hj => HALL.out j hj (by rw [hn.out] at hj; omega))
        go_wp2
        go_ret
        exact ⟨ret_bool HR.out.symm, rfl⟩

theorem l00Has_at (a : Option Addr) (xs : List Int) (n c : Nat) (x : Int) (b : Bool) (hs : hasB xs x = b) (w : World) (hn : Hid (xs.length = n)) (ha : RI w a xs) (hmax : n ≤ 1048576) :
    Calls Try.prog 43 #[.slice a n c, .int .i64 x] w fun e w' => e = .returned (.bool b) ∧ w = w' := by
  rw [← hs]; exact l00Has_any a xs n c x w hn ha hmax

set_option maxHeartbeats 2000000 in
theorem l04Simple_any (pb : Nat) (s : Int) (a b : Option Addr) (ts : List T3) (way : List Int) (n ca m cb : Nat) (w : World) (hn : Hid (ts.length = n)) (ha : RT w a ts) (hmax : n ≤ 1048576)
    (p0 : w.cell? ⟨pb, 0, none⟩ = some (.int .i64 s)) (p1 : w.cell? ⟨pb, 1, none⟩ = some (.slice a n ca)) (hm : Hid (way.length = m)) (hb : RI w b way) (hm1 : m ≤ 1048576) :
    Calls Try.prog 61 #[.pointer (some ⟨pb, 0, none⟩), .slice b m cb] w fun e w' => e = .returned (.bool (simpleB ts way)) ∧ Below w.heap.size w w' := by
  have HA : Hid (∀ w', Below w.heap.size w w' → RT w' a ts) := fun w' h => ha.below h
  have HB : Hid (∀ w', Below w.heap.size w w' → RI w' b way) := fun w' h => hb.below h
  have hpb := World.block_lt_of_cell? w _ p0
  simp only at hpb
  have HI : Hid (∃ i0 : TypeInfo, Try.prog.info? 2 = some i0 ∧ i0.zero = some (.int .i64 0) ∧ i0.size = 1 ∧ i0.bytes = 8) := info_parts info2
  have HBB : Hid (0 < m → ∃ bb ob, b = some ⟨bb, ob, none⟩ ∧ bb < w.heap.size ∧ ∀ i (h : i < way.length), w.cell? ⟨bb, ob + i, none⟩ = some (.int .i64 way[i])) := fun h => hb.addr (by rw [hm.out]; exact h)
  have HP := Lib.hid (And.intro p0 p1)
  clear ha hb p0 p1
  go_enter Try.func61, Try.ntmps61
  go_wp2
  go_loopw [5, 6] (fun so iv wr => ∃ (k cap : Nat) (ao : Option Addr), k ≤ m ∧ so = .slice ao k cap ∧ iv = .int .i64 k ∧ Below w.heap.size w wr ∧ Hid (wr.ownsRow w.heap.size 2 1 (.slice ao k cap) k ((frs ts way k).map (Value.int .i64))) ∧ Hid (∀ j, j < k → stepB ts way j = true)) (fun _ iv _ => m - (intOf iv).toNat)
  case atStart => exact ⟨0, 0, _, by omega, rfl, rfl, (by repeat (first | exact Below.refl _ _ | refine Below.alloc ?_ (by simp; try omega) _ | refine Below.setCell ?_ (by simp; try omega) _)), World.ownsRow_made w #[] 0 (Nat.le_refl _) (by unfold maxLen; omega) rfl, fun j hj => by omega⟩
  case round =>
    obtain ⟨k, cap, ao, hk, rfl, rfl, hbel, HOWN, HALL⟩ := hrel
    by_cases hlt : k < m
    · have hka : k < way.length := by rw [hm.out]; exact hlt
      obtain ⟨bb, ob, rfl, hbb, hcb⟩ := HBB.out (by omega)
      have x1 := hcb k hka
      have HC := Lib.hid hcb
      have HST : Hid (stepB ts way k = stepV ts (frs ts way k) k (way.getD (k - 1) 0) way[k]) := by unfold Hid stepB; congr 1; simp [hka]
      have HFR := Lib.hid (frs_succ (ts := ts) hka)
      have HBAD : Hid (stepB ts way k = false → simpleB ts way = false) := fun h => simpleB_bad hka h
      have HSM : Hid (stepB ts way k = true → ∀ j, j < k + 1 → stepB ts way j = true) := fun ht j hj => if e : j = k then (by subst e; exact ht) else HALL.out j (by omega)
      generalize way[k] = z at x1 HST HFR
      rw [← hbel.cell (p := ⟨bb, _, none⟩) hbb] at x1
      have q0 := (hbel.cell (p := ⟨pb, 0, none⟩) hpb).trans HP.out.1
      have q1 := (hbel.cell (p := ⟨pb, 1, none⟩) hpb).trans HP.out.2
      have hk0 : (0 : Int) ≤ (k : Int) := by omega
      have hk1 : (k : Int) < (m : Int) := by omega
      have l1 : bb < wr.heap.size := by have := hbel.size; omega
      have l3 : pb < wr.heap.size := by have := hbel.size; omega
      have HBEL := Lib.hid hbel
      clear hbel hcb
      cases hx : stB n z with
      | false =>
        have HT := Lib.hid (HBAD.out (HST.out.trans (stepV_out (by rw [hn.out]; exact hx))))
        have hx' := (stB_wrap n z hmax).trans hx
        clear HBAD HSM
        go_wp2_with fail
        go_region_held3 (fun w' => w'.cell? ⟨bb, ob + k, none⟩ = some (.int .i64 z) ∧ w'.cell? ⟨pb, 0, none⟩ = some (.int .i64 s) ∧ w'.cell? ⟨pb, 1, none⟩ = some (.slice a n ca)) (exact ⟨x1, q0, q1⟩)
          (first | (go_at_call 74; refine (l00In_any _ _ _ _).mono ?_; rintro e w' ⟨rfl, rfl⟩))
        go_wp2
        go_ret
        exact ⟨ret_bool HT.out.symm, HBEL.out.drew⟩
      | true =>
        obtain ⟨g0, g1⟩ := stB_parts hx
        obtain ⟨j, rfl⟩ := Int.eq_ofNat_of_zero_le g0
        have hj : j < ts.length := by rw [hn.out]; omega
        obtain ⟨ba, oa, rfl, hba, hca⟩ := (HA.out w (Below.refl _ _)).addr (by omega)
        have HCA := Lib.hid hca
        obtain ⟨y1, y2, y3⟩ := hca j hj
        have HFA := Lib.hid (frAt_of (List.getElem?_eq_getElem hj))
        generalize ts[j] = t at y1 y2 y3 HFA
        rw [← HBEL.out.cell (p := ⟨ba, _, none⟩) hba] at y1 y2 y3
        have l2 : ba < wr.heap.size := by have := HBEL.out.size; omega
        have hx' := (stB_wrap n _ hmax).trans hx
        have hj0 : (0 : Int) ≤ (j : Int) := by omega
        have HX := Lib.hid (hn.out.symm ▸ hx : stB ts.length (j : Int) = true)
        have HRI : Hid (RI wr ao (frs ts way k)) := own_RI (frs_len (by omega)) HOWN.out
        clear hca hx
        go_wp2_with fail
        go_region_held3 (fun w' => w'.cell? ⟨bb, ob + k, none⟩ = some (.int .i64 (j : Int)) ∧ w'.cell? ⟨pb, 0, none⟩ = some (.int .i64 s) ∧ w'.cell? ⟨pb, 1, none⟩ = some (.slice (some ⟨ba, oa, none⟩) n ca)) (exact ⟨x1, q0, q1⟩)
          (first | (go_at_call 74; refine (l00In_any _ _ _ _).mono ?_; rintro e w' ⟨rfl, rfl⟩))
        go_wp2_with fail
        go_region_held3 (fun w' => w'.cell? ⟨bb, ob + k, none⟩ = some (.int .i64 (j : Int)) ∧ w'.cell? ⟨ba, oa + j * 3, none⟩ = some (.int .i64 t.1) ∧ w'.cell? ⟨ba, oa + j * 3 + 1, none⟩ = some (.int .i64 t.2.1) ∧ w'.cell? ⟨ba, oa + j * 3 + 2, none⟩ = some (.int .i64 t.2.2) ∧ w'.cell? ⟨pb, 0, none⟩ = some (.int .i64 s) ∧ w'.cell? ⟨pb, 1, none⟩ = some (.slice (some ⟨ba, oa, none⟩) n ca))
            (first | exact ⟨x1, y1, y2, y3, q0, q1⟩ | (simp [go_sem, x1, y1, y2, y3, q0, q1, l1, l2, l3]; done)) (fail)
        have W7 : Hid (Below wr.heap.size wr (wr.alloc (.cells #[.int .i64 t.1, .int .i64 t.2.1, .int .i64 t.2.2] 36)).drew) := ((Below.refl _ _).alloc (Nat.le_refl _) _).drew
        have HRW : Hid (∀ w', Below wr.heap.size wr w' → RI w' ao (frs ts way k)) := fun w' h => HRI.out.below h
        have HFL : Hid ((frs ts way k).length = k) := frs_len (by omega)
        have HK : Hid (k ≤ 1048576) := by unfold Hid; omega
        cases hs : hasB (frs ts way k) t.1 with
        | true =>
          have HT := Lib.hid (HBAD.out (HST.out.trans (stepV_seen (by rw [HFA.out]; exact hs))))
          have HCALL : Hid (∀ W, Below wr.heap.size wr W → Calls Try.prog 43 #[.slice ao k cap, .int .i64 t.1] W fun e w' => e = .returned (.bool true) ∧ W = w') := fun W h => l00Has_at ao (frs ts way k) k cap t.1 _ hs W HFL (HRW.out _ h) HK.out
          clear hs
          clear HBAD HSM
          go_wp2_with fail
          go_quiet (first | (go_at_call 43; have h9 := HCALL.out; refine Calls.mono (h9 _ ?_) ?_; exact (by repeat (first | exact Below.refl _ _ | refine Below.drew ?_ | refine Below.drewN' ?_ _ | refine Below.alloc ?_ (by simp; try omega) _ | refine Below.setCell ?_ (by simp; try omega) _)); rintro e w1 ⟨rfl, rfl⟩; exact ⟨rfl, _, rfl⟩))
          go_wp2
          go_ret
          exact ⟨ret_bool HT.out.symm, two_worldsC HBEL.out (by repeat (first | exact Below.refl _ _ | refine Below.drew ?_ | refine Below.drewN' ?_ _ | refine Below.alloc ?_ (by simp; try omega) _ | refine Below.setCell ?_ (by simp; try omega) _))⟩
        | false =>
          have HSF := Lib.hid hs
          have HCALL : Hid (∀ W, Below wr.heap.size wr W → Calls Try.prog 43 #[.slice ao k cap, .int .i64 t.1] W fun e w' => e = .returned (.bool false) ∧ W = w') := fun W h => l00Has_at ao (frs ts way k) k cap t.1 _ hs W HFL (HRW.out _ h) HK.out
          clear hs
          by_cases hk00 : k = 0
          · have HSM2 := Lib.hid (HSM.out (HST.out.trans (stepV_first HX.out (by rw [HFA.out]; exact HSF.out) hk00)))
            have hg0 : decide ((0 : Int) < (k : Int)) = false := decide_eq_false (by omega)
            have hg1 : decide (0 < k) = false := decide_eq_false (by omega)
            clear HBAD HSM hk00
            go_wp2_with fail
            go_quiet (first | (go_at_call 43; have h9 := HCALL.out; refine Calls.mono (h9 _ ?_) ?_; exact (by repeat (first | exact Below.refl _ _ | refine Below.drew ?_ | refine Below.drewN' ?_ _ | refine Below.alloc ?_ (by simp; try omega) _ | refine Below.setCell ?_ (by simp; try omega) _)); rintro e w1 ⟨rfl, rfl⟩; exact ⟨rfl, _, rfl⟩))
            generalize hW8 : (wr.alloc (.cells #[.int .i64 t.1, .int .i64 t.2.1, .int .i64 t.2.2] 36)).drew.drew.drewN _ = w8
            have B8 : Hid (Below wr.heap.size wr w8) := by unfold Hid; rw [← hW8]; exact (by repeat (first | exact Below.refl _ _ | refine Below.drew ?_ | refine Below.drewN' ?_ _ | refine Below.alloc ?_ (by simp; try omega) _ | refine Below.setCell ?_ (by simp; try omega) _))
            have b8 : w8.cell? ⟨wr.heap.size, 0, none⟩ = some (.int .i64 t.1) := by rw [← hW8]; simp [go_sem]
            have O8 := Lib.hid (own_below HOWN.out B8.out)
            have B9 := Lib.hid (two_worldsC HBEL.out B8.out)
            have hws : w.heap.size ≤ w8.heap.size := B9.out.size
            have HGE : Hid (∀ q, (Value.slice ao k cap).ownBlock = some q → w.heap.size ≤ q) := fun q hq => own_lo_block HOWN.out hq
            clear hW8 x1 y1 y2 y3 q0 q1 l1 l2 l3
            go_wp2_with (at_builtin; refine wpList_append_lies _ rfl _ _ 28 rfl w.heap.size 2 HI.out.choose (.int .i64 0) 1 8 Try.underlying28 HI.out.choose_spec.1 HI.out.choose_spec.2.1 HI.out.choose_spec.2.2.1 HI.out.choose_spec.2.2.2 rfl (by decide) (.slice ao k cap) k ((frs ts way k).map (Value.int .i64)) rfl (O8.out.alloc _) ⟨w8.heap.size, 0, none⟩ 1 1 [.int .i64 t.1] rfl rfl (news_one _ _ _) (by intro u hu; simp at hu; subst hu; rfl) (by omega) (by unfold maxLen; omega) (by omega) (by simp; omega) (w8.heap.size + 1) (by simp) ?_)
            intro g cap' w9 hown1 hgrow hat hlt9
            have BX : Hid (Below w.heap.size w w9) := (B9.out.alloc hws _).grown hgrow (by simp; omega) HGE.out
            have OX : Hid (w9.ownsRow w.heap.size 2 1 (.slice (some ⟨g, 0, none⟩) (k + 1) cap') (k + 1) ((frs ts way (k + 1)).map (Value.int .i64))) := by
              unfold Hid; rw [HFR.out, HFA.out, List.map_append]; exact hown1
            clear hown1 hgrow hat hlt9 b8
            go_wp2
            go_roundw
            case rel => exact ⟨k + 1, cap', _, by omega, rfl, by go_num, BX.out, OX.out, HSM2.out⟩
            case measure => simp [intOf]; omega
          · have hqa : k - 1 < way.length := by omega
            have x2 := HC.out (k - 1) hqa
            have hst := stepB_st hqa (HALL.out (k - 1) (by omega))
            have HGD : Hid (way.getD (k - 1) 0 = way[k - 1]) := by unfold Hid; simp [hqa]
            generalize way[k - 1] = z' at x2 hst HGD
            rw [hn.out] at hst
            obtain ⟨i0, i1⟩ := stB_parts hst
            obtain ⟨j', rfl⟩ := Int.eq_ofNat_of_zero_le i0
            have hj' : j' < ts.length := by rw [hn.out]; omega
            obtain ⟨_, z2, _⟩ := HCA.out j' hj'
            have HTO := Lib.hid (toAt_of (List.getElem?_eq_getElem hj'))
            generalize ts[j'] = t' at z2 HTO
            rw [← HBEL.out.cell (p := ⟨ba, _, none⟩) hba] at z2
            rw [← HBEL.out.cell (p := ⟨bb, _, none⟩) hbb] at x2
            have HNX : Hid (stepB ts way k = (t'.2.1 == t.1)) := by
              have h := HST.out.trans (stepV_next HX.out (by rw [HFA.out]; exact HSF.out) hk00)
              rw [HGD.out, HTO.out, HFA.out] at h
              exact h
            have hg0 : (0 : Int) < (k : Int) := by omega
            have hg1 : decide (0 < k) = true := decide_eq_true (by omega)
            have hg2 : decide ((0 : Int) < (k : Int)) = true := decide_eq_true (by omega)
            have hq0 : (0 : Int) ≤ (k : Int) - 1 := by omega
            have hq1 : (k : Int) - 1 < (m : Int) := by omega
            have hj2 : (0 : Int) ≤ (j' : Int) := by omega
            have hq2 : 1 ≤ k := by omega
            clear hqa
            clear hst hk00
            rcases eq_ways t'.2.1 t.1 with ⟨⟨e4, e5⟩, e6⟩ | ⟨⟨e4, e5⟩, e6⟩
            · have HSM2 := Lib.hid (HSM.out (HNX.out.trans e4))
              clear HBAD HSM e6
              go_wp2_with fail
              go_quiet (first | (go_at_call 43; have h9 := HCALL.out; refine Calls.mono (h9 _ ?_) ?_; exact (by repeat (first | exact Below.refl _ _ | refine Below.drew ?_ | refine Below.drewN' ?_ _ | refine Below.alloc ?_ (by simp; try omega) _ | refine Below.setCell ?_ (by simp; try omega) _)); rintro e w1 ⟨rfl, rfl⟩; exact ⟨rfl, _, rfl⟩))
              generalize hW8 : (wr.alloc (.cells #[.int .i64 t.1, .int .i64 t.2.1, .int .i64 t.2.2] 36)).drew.drew.drewN _ = w8
              have B8 : Hid (Below wr.heap.size wr w8) := by unfold Hid; rw [← hW8]; exact (by repeat (first | exact Below.refl _ _ | refine Below.drew ?_ | refine Below.drewN' ?_ _ | refine Below.alloc ?_ (by simp; try omega) _ | refine Below.setCell ?_ (by simp; try omega) _))
              have b8 : w8.cell? ⟨wr.heap.size, 0, none⟩ = some (.int .i64 t.1) := by rw [← hW8]; simp [go_sem]
              have O8 := Lib.hid (own_below HOWN.out B8.out)
              have B9 := Lib.hid (two_worldsC HBEL.out B8.out)
              have hws : w.heap.size ≤ w8.heap.size := B9.out.size
              have HGE : Hid (∀ q, (Value.slice ao k cap).ownBlock = some q → w.heap.size ≤ q) := fun q hq => own_lo_block HOWN.out hq
              clear hW8 x2 z2 x1 y1 y2 y3 q0 q1 l1 l2 l3
              go_wp2_with (at_builtin; refine wpList_append_lies _ rfl _ _ 28 rfl w.heap.size 2 HI.out.choose (.int .i64 0) 1 8 Try.underlying28 HI.out.choose_spec.1 HI.out.choose_spec.2.1 HI.out.choose_spec.2.2.1 HI.out.choose_spec.2.2.2 rfl (by decide) (.slice ao k cap) k ((frs ts way k).map (Value.int .i64)) rfl (O8.out.alloc _) ⟨w8.heap.size, 0, none⟩ 1 1 [.int .i64 t.1] rfl rfl (news_one _ _ _) (by intro u hu; simp at hu; subst hu; rfl) (by omega) (by unfold maxLen; omega) (by omega) (by simp; omega) (w8.heap.size + 1) (by simp) ?_)
              intro g cap' w9 hown1 hgrow hat hlt9
              have BX : Hid (Below w.heap.size w w9) := (B9.out.alloc hws _).grown hgrow (by simp; omega) HGE.out
              have OX : Hid (w9.ownsRow w.heap.size 2 1 (.slice (some ⟨g, 0, none⟩) (k + 1) cap') (k + 1) ((frs ts way (k + 1)).map (Value.int .i64))) := by
                unfold Hid; rw [HFR.out, HFA.out, List.map_append]; exact hown1
              clear hown1 hgrow hat hlt9 b8
              go_wp2
              go_roundw
              case rel => exact ⟨k + 1, cap', _, by omega, rfl, by go_num, BX.out, OX.out, HSM2.out⟩
              case measure => simp [intOf]; omega
            · have HT := Lib.hid (HBAD.out (HNX.out.trans e4))
              clear HBAD HSM e6
              go_wp2_with fail
              go_quiet (first | (go_at_call 43; have h9 := HCALL.out; refine Calls.mono (h9 _ ?_) ?_; exact (by repeat (first | exact Below.refl _ _ | refine Below.drew ?_ | refine Below.drewN' ?_ _ | refine Below.alloc ?_ (by simp; try omega) _ | refine Below.setCell ?_ (by simp; try omega) _)); rintro e w1 ⟨rfl, rfl⟩; exact ⟨rfl, _, rfl⟩))
              go_wp2
              go_ret
              exact ⟨ret_bool HT.out.symm, two_worldsC HBEL.out (by repeat (first | exact Below.refl _ _ | refine Below.drew ?_ | refine Below.drewN' ?_ _ | refine Below.alloc ?_ (by simp; try omega) _ | refine Below.setCell ?_ (by simp; try omega) _))⟩
    · have hkm : m = k := by omega
      subst hkm
      have HR : Hid (simpleB ts way = endB ts way) := simpleB_end (fun j hj => HALL.out j (by rw [hm.out] at hj; exact hj))
      have HFL : Hid ((frs ts way m).length = m) := frs_len (by rw [hm.out]; exact Nat.le_refl _)
      have HRI : Hid (RI wr ao (frs ts way m)) := own_RI HFL.out HOWN.out
      have HRW : Hid (∀ w', Below wr.heap.size wr w' → RI w' ao (frs ts way m)) := fun w' h => HRI.out.below h
      have HK : Hid (m ≤ 1048576) := hm1
      by_cases hz : m = 0
      · have HE : Hid (simpleB ts way = true) := HR.out.trans (endB_nil (hm.out.trans hz))
        have e1 : ((m : Int) == 0) = true := by simpa using hz
        have e2 : (m == 0) = true := by simpa using hz
        have HB1 := Lib.hid hbel
        clear hbel hz hlt
        go_wp2_with fail
        go_quiet (fail)
        go_wp2
        go_ret
        exact ⟨ret_bool HE.out.symm, two_worldsC HB1.out (by repeat (first | exact Below.refl _ _ | refine Below.drew ?_ | refine Below.drewN' ?_ _ | refine Below.alloc ?_ (by simp; try omega) _ | refine Below.setCell ?_ (by simp; try omega) _))⟩
      · obtain ⟨bb, ob, rfl, hbb, hcb⟩ := HBB.out (by omega)
        have hqa : m - 1 < way.length := by rw [hm.out]; omega
        have x2 := hcb (m - 1) hqa
        have hst := stepB_st hqa (HALL.out (m - 1) (by omega))
        have HEN := Lib.hid (endB_last (ts := ts) (q := m - 1) (by rw [hm.out]; omega) hqa)
        generalize way[m - 1] = z' at x2 hst HEN
        rw [hn.out] at hst
        obtain ⟨i0, i1⟩ := stB_parts hst
        obtain ⟨j', rfl⟩ := Int.eq_ofNat_of_zero_le i0
        have hj' : j' < ts.length := by rw [hn.out]; omega
        obtain ⟨ba, oa, rfl, hba, hca⟩ := (HA.out w (Below.refl _ _)).addr (by omega)
        obtain ⟨_, z2, _⟩ := hca j' hj'
        have HTO := Lib.hid (toAt_of (List.getElem?_eq_getElem hj'))
        generalize ts[j'] = t' at z2 HTO
        rw [← hbel.cell (p := ⟨ba, _, none⟩) hba] at z2
        rw [← hbel.cell (p := ⟨bb, _, none⟩) hbb] at x2
        have q0 := (hbel.cell (p := ⟨pb, 0, none⟩) hpb).trans HP.out.1
        have q1 := (hbel.cell (p := ⟨pb, 1, none⟩) hpb).trans HP.out.2
        have HEQ : Hid (simpleB ts way = !(hasB (frs ts way m) t'.2.1)) := by
          have h := HR.out.trans HEN.out
          rw [HTO.out, hm.out] at h
          exact h
        have e1 : ((m : Int) == 0) = false := by simpa using hz
        have e2 : (m == 0) = false := by simpa using hz
        have hq0 : (0 : Int) ≤ (m : Int) - 1 := by omega
        have hq1 : (m : Int) - 1 < (m : Int) := by omega
        have hj2 : (0 : Int) ≤ (j' : Int) := by omega
        have hq2 : 1 ≤ m := by omega
        have hm2 : (m : Int) ≤ 1048576 := by omega
        have HB1 := Lib.hid hbel
        clear hbel hz hlt hqa hst hcb hca
        cases hs : hasB (frs ts way m) t'.2.1 with
        | true =>
          have HE : Hid (simpleB ts way = false) := HEQ.out.trans (by rw [hs]; rfl)
          have HCALL : Hid (∀ W, Below wr.heap.size wr W → Calls Try.prog 43 #[.slice ao m cap, .int .i64 t'.2.1] W fun e w' => e = .returned (.bool true) ∧ W = w') := fun W h => l00Has_at ao (frs ts way m) m cap t'.2.1 _ hs W HFL (HRW.out _ h) HK.out
          clear hs
          go_wp2_with fail
          go_quiet (first | (go_at_call 43; have h9 := HCALL.out; refine Calls.mono (h9 _ ?_) ?_; exact (by repeat (first | exact Below.refl _ _ | refine Below.drew ?_ | refine Below.drewN' ?_ _ | refine Below.alloc ?_ (by simp; try omega) _ | refine Below.setCell ?_ (by simp; try omega) _)); rintro e w1 ⟨rfl, rfl⟩; exact ⟨rfl, _, rfl⟩))
          go_wp2
          go_ret
          exact ⟨ret_bool HE.out.symm, two_worldsC HB1.out (by repeat (first | exact Below.refl _ _ | refine Below.drew ?_ | refine Below.drewN' ?_ _ | refine Below.alloc ?_ (by simp; try omega) _ | refine Below.setCell ?_ (by simp; try omega) _))⟩
        | false =>
          have HE : Hid (simpleB ts way = true) := HEQ.out.trans (by rw [hs]; rfl)
          have HCALL : Hid (∀ W, Below wr.heap.size wr W → Calls Try.prog 43 #[.slice ao m cap, .int .i64 t'.2.1] W fun e w' => e = .returned (.bool false) ∧ W = w') := fun W h => l00Has_at ao (frs ts way m) m cap t'.2.1 _ hs W HFL (HRW.out _ h) HK.out
          clear hs
          go_wp2_with fail
          go_quiet (first | (go_at_call 43; have h9 := HCALL.out; refine Calls.mono (h9 _ ?_) ?_; exact (by repeat (first | exact Below.refl _ _ | refine Below.drew ?_ | refine Below.drewN' ?_ _ | refine Below.alloc ?_ (by simp; try omega) _ | refine Below.setCell ?_ (by simp; try omega) _)); rintro e w1 ⟨rfl, rfl⟩; exact ⟨rfl, _, rfl⟩))
          go_wp2
          go_ret
          exact ⟨ret_bool HE.out.symm, two_worldsC HB1.out (by repeat (first | exact Below.refl _ _ | refine Below.drew ?_ | refine Below.drewN' ?_ _ | refine Below.alloc ?_ (by simp; try omega) _ | refine Below.setCell ?_ (by simp; try omega) _))⟩
end Go.Proofs.Ytenjigifjkfiaaa
