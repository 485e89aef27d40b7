/-
  The walks of the checks on ways: checkWays (the program's), l04Code (the model's).
-/
import Derived.Test.YtenjigifjkfiaaaSimpleImpl
import Derived.Test.YtenjigifjkfiaaaEndOf
namespace Go.Proofs.Ytenjigifjkfiaaa
open Go.RowKit

/-- A slice of lists: where each lies, its capacity, and what it reads as. -/
abbrev WayV := (Option Addr × Nat) × List Int
def RWays (w : World) (a : Option Addr) (ws : List WayV) : Prop :=
  ws = [] ∨ ∃ b off, a = some ⟨b, off, none⟩ ∧ b < w.heap.size ∧ ∀ i (h : i < ws.length), w.cell? ⟨b, off + i, none⟩ = some (.slice ws[i].1.1 ws[i].2.length ws[i].1.2) ∧ RI w ws[i].1.1 ws[i].2 ∧ ws[i].2.length ≤ 1048576
theorem RWays.below {w w' : World} {a : Option Addr} {ws : List WayV} (h : RWays w a ws) (hb : Below w.heap.size w w') : RWays w' a ws := by
  rcases h with rfl | ⟨b, off, ha, hlt, h⟩
  · exact .inl rfl
  · refine .inr ⟨b, off, ha, Nat.lt_of_lt_of_le hlt hb.size, fun i hi => ?_⟩
    obtain ⟨h1, h2, h3⟩ := h i hi
    exact ⟨(hb.cell (p := ⟨b, off + i, none⟩) hlt).trans h1, h2.below hb, h3⟩
theorem rways_one {w : World} {b : Option Addr} {m cb : Nat} {way : List Int} (hm : way.length = m) (hb : RI w b way) (hm1 : m ≤ 1048576) (T : TypeId) : RWays (w.alloc (.cells #[.slice b m cb] T)) (some ⟨w.heap.size, 0, none⟩) [((b, cb), way)] := by
  subst hm
  refine .inr ⟨w.heap.size, 0, rfl, by simp, ?_⟩
  rintro (_ | i) hi
  · exact ⟨by simp [go_sem], hb.below ((Below.refl _ _).alloc (Nat.le_refl _) _), hm1⟩
  · exact absurd hi (by simp)
def waysCode (ts : List T3) (ws : List WayV) : Int := if ws.all (fun v => simpleB ts v.2) = true then 0 else 2
theorem waysCode_bad {ts : List T3} {ws : List WayV} (k : Nat) (hk : k < ws.length) (h : simpleB ts ws[k].2 = false) : waysCode ts ws = 2 := by
  unfold waysCode
  have : ws.all (fun v => simpleB ts v.2) = false := by
    rw [List.all_eq_false]
    exact ⟨ws[k], List.getElem_mem hk, by simp [h]⟩
  rw [this]; rfl
theorem waysCode_good {ts : List T3} {ws : List WayV} (h : ∀ k (hk : k < ws.length), simpleB ts ws[k].2 = true) : waysCode ts ws = 0 := by
  unfold waysCode
  have : ws.all (fun v => simpleB ts v.2) = true := by
    rw [List.all_eq_true]
    intro c hc
    obtain ⟨k, hk, rfl⟩ := List.getElem_of_mem hc
    exact h k hk
  rw [this]; rfl
theorem waysCode_one (ts : List T3) (p : Option Addr × Nat) (way : List Int) : waysCode ts [(p, way)] = if simpleB ts way = true then 0 else 2 := by
  unfold waysCode; simp

theorem checkWaysBad_any (code s : Int) (a aw : Option Addr) (n ca k cw : Nat) (w : World) (hc2 : (code != 0) = true) :
    Calls Try.prog 44 #[.int .i64 code, .agg #[.int .i64 s, .slice a n ca], .slice aw k cw] w fun e w' => e = .returned (.int .i64 code) ∧ Below w.heap.size w w' := by
  go_enter Try.func44, Try.ntmps44
  go_wp2
  go_ret
  exact ⟨rfl, (by repeat (first | exact Below.refl _ _ | refine Below.alloc ?_ (by simp; try omega) _ | refine Below.setCell ?_ (by simp; try omega) _))⟩

set_option maxHeartbeats 1000000 in
theorem checkWays_any (s : Int) (a aw : Option Addr) (ts : List T3) (ws : List WayV) (n ca k cw : Nat) (w : World) (hn : Hid (ts.length = n)) (ha : RT w a ts) (hmax : n ≤ 1048576) (hnet : netB s ts = true) (hk : Hid (ws.length = k)) (hk1 : k ≤ 1048576) (hw : RWays w aw ws) :
    Calls Try.prog 44 #[.int .i64 0, .agg #[.int .i64 s, .slice a n ca], .slice aw k cw] w fun e w' => e = .returned (.int .i64 (waysCode ts ws)) ∧ Below w.heap.size w w' := by
  have HA : Hid (∀ w', Below w.heap.size w w' → RT w' a ts) := fun w' h => ha.below h
  have HW : Hid (∀ w', Below w.heap.size w w' → RWays w' aw ws) := fun w' h => hw.below h
  have HNET := Lib.hid hnet
  clear ha hw hnet
  go_enter Try.func44, Try.ntmps44
  go_wp2
  go_loopw [14] (fun iv wr => ∃ i : Nat, i ≤ k ∧ iv = .int .i64 i ∧ Below w.heap.size w wr ∧ Hid (wr.cell? ⟨w.heap.size, 0, none⟩ = some (.int .i64 s) ∧ wr.cell? ⟨w.heap.size, 1, none⟩ = some (.slice a n ca)) ∧ ∀ j (h : j < ws.length), j < i → simpleB ts ws[j].2 = true) (fun iv _ => k - (intOf iv).toNat)
  case atStart => exact ⟨0, by omega, rfl, (by repeat (first | exact Below.refl _ _ | refine Below.alloc ?_ (by simp; try omega) _ | refine Below.setCell ?_ (by simp; try omega) _)), ⟨by simp [go_sem], by simp [go_sem]⟩, fun j _ hj => by omega⟩
  case round =>
    obtain ⟨i, hi, rfl, hbel, HQ, hall⟩ := hrel
    have HALL := Lib.hid hall
    clear hall
    obtain ⟨q0, q1⟩ := HQ.out
    have hz1 := World.block_lt_of_cell? _ _ q0
    simp only at hz1
    by_cases hlt : i < k
    · have hia : i < ws.length := by rw [hk.out]; exact hlt
      obtain rfl | ⟨bw, ow, rfl, hbw, hcw⟩ := HW.out wr hbel
      · simp at hia
      · obtain ⟨x1, r1, r2⟩ := hcw i hia
        have HBAD : Hid (simpleB ts ws[i].2 = false → waysCode ts ws = 2) := fun h => waysCode_bad i hia h
        have HSM : Hid (simpleB ts ws[i].2 = true → ∀ j (h : j < ws.length), j < i + 1 → simpleB ts ws[j].2 = true) := fun ht j h hj => if e : j = i then (by subst e; exact ht) else HALL.out j h (by omega)
        generalize ws[i] = v at x1 r1 r2 HBAD HSM
        obtain ⟨⟨vb, vc⟩, way⟩ := v
        simp only at x1 r1 r2 HBAD HSM
        have HR1 := Lib.hid r1
        have HR2 := Lib.hid r2
        have hi0 : (0 : Int) ≤ (i : Int) := by omega
        have hi1 : (i : Int) < (k : Int) := by omega
        have HBEL := Lib.hid hbel
        have HLEN : Hid (way.length = way.length) := rfl
        obtain ⟨wl, hwl⟩ : ∃ wl, way.length = wl := ⟨_, rfl⟩
        rw [hwl] at x1
        have HWL := Lib.hid hwl
        clear r1 r2 hbel hcw hwl
        go_wp2_with fail
        refine (isSimpleWay_any s a vb ts way n ca wl vc _ hn (HA.out _ HBEL.out) hmax HWL HR1.out (by rw [← HWL.out]; exact HR2.out) HNET.out).mono ?_
        rintro e w1 ⟨rfl, hb1⟩
        have B1 := Lib.hid (two_worldsC HBEL.out hb1)
        have s0 := (hb1.cell (p := ⟨w.heap.size, 0, none⟩) hz1).trans q0
        have s1 := (hb1.cell (p := ⟨w.heap.size, 1, none⟩) hz1).trans q1
        have HS1 := Lib.hid (And.intro s0 s1)
        clear hb1 q0 q1 s0 s1 x1
        cases hs : simpleB ts way with
        | true =>
          have HSM2 := Lib.hid (HSM.out hs)
          clear HBAD HSM hs
          go_wp2
          go_roundw
          case rel => exact ⟨i + 1, by omega, by go_num, B1.out, HS1.out, HSM2.out⟩
          case measure => simp [intOf]; omega
        | false =>
          have HT := Lib.hid (HBAD.out hs)
          clear HBAD HSM hs
          go_wp2
          go_ret
          exact ⟨ret_int HT.out.symm, B1.out⟩
    · have HT : Hid (waysCode ts ws = 0) := waysCode_good (fun j hj => HALL.out j hj (by rw [hk.out] at hj; omega))
      have HB1 := Lib.hid hbel
      clear hbel q0 q1
      go_wp2
      go_ret
      exact ⟨ret_int HT.out.symm, HB1.out⟩

/-- The code of a network, a setting and a way. -/
def wayCode (s : Int) (ts : List T3) (set way : List Int) : Int := if setB s ts set = true then (if simpleB ts way = true then 0 else 2) else 1

set_option maxHeartbeats 1000000 in
theorem l04Code_any (pb : Nat) (s : Int) (a b c : Option Addr) (ts : List T3) (set way : List Int) (n ca m cb k cc : Nat) (w : World) (hn : Hid (ts.length = n)) (ha : RT w a ts) (hmax : n ≤ 1048576)
    (p0 : w.cell? ⟨pb, 0, none⟩ = some (.int .i64 s)) (p1 : w.cell? ⟨pb, 1, none⟩ = some (.slice a n ca)) (hm : Hid (set.length = m)) (hb : RI w b set) (hm1 : m ≤ 1048576) (hk : Hid (way.length = k)) (hc : RI w c way) (hk1 : k ≤ 1048576) :
    Calls Try.prog 54 #[.pointer (some ⟨pb, 0, none⟩), .slice b m cb, .slice c k cc] w fun e w' => e = .returned (.int .i64 (wayCode s ts set way)) ∧ Below w.heap.size w w' := by
  have hpb := World.block_lt_of_cell? w _ p0
  simp only at hpb
  have HA : Hid (∀ w', Below w.heap.size w w' → RT w' a ts) := fun w' h => ha.below h
  have HC : Hid (∀ w', Below w.heap.size w w' → RI w' c way) := fun w' h => hc.below h
  cases hv : setB s ts set with
  | false =>
    have HR : Hid (wayCode s ts set way = 1) := by unfold Hid wayCode; rw [hv]; rfl
    go_enter Try.func54, Try.ntmps54
    go_wp2_with fail
    refine (l04Ok_any pb s a b ts set n ca m cb _ hn ha hmax p0 p1 hm hb hm1).mono ?_
    rintro e w1 ⟨rfl, hb1⟩
    rw [hv]
    go_wp2
    go_ret
    exact ⟨ret_int HR.out.symm, hb1⟩
  | true =>
    have HR : Hid (wayCode s ts set way = if simpleB ts way = true then 0 else 2) := by unfold Hid wayCode; rw [hv]; rfl
    go_enter Try.func54, Try.ntmps54
    go_wp2_with fail
    refine (l04Ok_any pb s a b ts set n ca m cb _ hn ha hmax p0 p1 hm hb hm1).mono ?_
    rintro e w1 ⟨rfl, hb1⟩
    have q0 := (hb1.cell (p := ⟨pb, 0, none⟩) hpb).trans p0
    have q1 := (hb1.cell (p := ⟨pb, 1, none⟩) hpb).trans p1
    have B1 := Lib.hid hb1
    clear hb1 ha hc hb
    rw [hv]
    go_wp2_with fail
    refine (l04Simple_any pb s a c ts way n ca k cc _ hn (HA.out _ B1.out) hmax q0 q1 hk (HC.out _ B1.out) hk1).mono ?_
    rintro e w2 ⟨rfl, hb2⟩
    have B2 := Lib.hid (two_worldsC B1.out hb2)
    clear hb2
    cases hs : simpleB ts way with
    | true =>
      have HT : Hid (wayCode s ts set way = 0) := HR.out.trans (by rw [hs]; rfl)
      go_wp2
      go_ret
      exact ⟨ret_int HT.out.symm, B2.out⟩
    | false =>
      have HT : Hid (wayCode s ts set way = 2) := HR.out.trans (by rw [hs]; rfl)
      go_wp2
      go_ret
      exact ⟨ret_int HT.out.symm, B2.out⟩
end Go.Proofs.Ytenjigifjkfiaaa
