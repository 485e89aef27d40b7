/-
  The walks of IsWay, the model's and the program's: whether tubes follow one another from a station to another one.
-/
import Derived.Test.YtemeaeafdhgfaaaNetCode
namespace Go.Proofs.Ytemeaeafdhgfaaa
open Go.RowKit

/-- Where one comes by tubes that follow one another; nothing where one does not follow. -/
def wayEnd (ts : List T3) : List Int → Int → Option Int
  | [], f => some f
  | k :: r, f => match ts[k.toNat]? with
    | some t => if t.1 = f then wayEnd ts r t.2.1 else none
    | none => none
def isWayB (ts : List T3) (way : List Int) (f to : Int) : Bool := wayEnd ts way f == some to
theorem wayEnd_no {ts : List T3} {way : List Int} {k : Nat} {f : Int} (hk : k < way.length) {t : T3} (ht : ts[(way[k]).toNat]? = some t) (h : ¬ t.1 = f) : wayEnd ts (way.drop k) f = none := by
  rw [List.drop_eq_getElem_cons hk]
  simp [wayEnd, ht, h]
theorem wayEnd_step {ts : List T3} {way : List Int} {k : Nat} {f : Int} (hk : k < way.length) {t : T3} (ht : ts[(way[k]).toNat]? = some t) (h : t.1 = f) : wayEnd ts (way.drop k) f = wayEnd ts (way.drop (k + 1)) t.2.1 := by
  rw [List.drop_eq_getElem_cons hk]
  simp [wayEnd, ht, h]
theorem wayEnd_done {ts : List T3} {way : List Int} {k : Nat} {f : Int} (hk : way.length ≤ k) : wayEnd ts (way.drop k) f = some f := by
  rw [List.drop_eq_nil_of_le hk]; rfl

theorem stB_parts {n : Nat} {x : Int} (h : stB n x = true) : 0 ≤ x ∧ x < n := by unfold stB at h; simpa using h
theorem tubesB_parts {n : Nat} {way : List Int} (h : tubesB n way = true) (k : Nat) (hk : k < way.length) : 0 ≤ way[k] ∧ way[k] < n := by
  unfold tubesB at h
  rw [List.all_eq_true] at h
  exact stB_parts (h _ (List.getElem_mem hk))

set_option maxHeartbeats 1000000 in
theorem l02Is_any (pb : Nat) (s f0 to : Int) (a b : Option Addr) (ts : List T3) (way : List Int) (n ca m cb : Nat) (w : World) (hn : Hid (ts.length = n)) (ha : RT w a ts) (hmax : n ≤ 1048576)
    (p0 : w.cell? ⟨pb, 0, none⟩ = some (.int .i64 s)) (p1 : w.cell? ⟨pb, 1, none⟩ = some (.slice a n ca)) (hm : Hid (way.length = m)) (hb : RI w b way) (hm1 : m ≤ 1048576) (hway : tubesB n way = true) :
    Calls Try.prog 90 #[.pointer (some ⟨pb, 0, none⟩), .slice b m cb, .int .i64 f0, .int .i64 to] w fun e w' => e = .returned (.bool (isWayB ts way f0 to)) ∧ Below w.heap.size w w' := by
  by_cases hz : m = 0
  · have HZ := Lib.hid hz
    clear hz hway
    have HR : Hid (isWayB ts way f0 to = (f0 == to)) := by
      unfold Hid isWayB
      have : way = [] := List.eq_nil_of_length_eq_zero (by rw [hm.out, HZ.out])
      subst this
      simp [wayEnd]
    go_enter Try.func90, Try.ntmps90
    go_wp2
    go_loop [2, 9] (fun f i => ∃ k : Nat, k ≤ m ∧ i = .int .i64 k ∧ f = .int .i64 f0) (fun _ _ => 0)
    case atStart => exact ⟨0, by omega, rfl, rfl⟩
    case round =>
      obtain ⟨k, hk, rfl, rfl⟩ := hrel
      have hlt : ¬ k < m := by rw [HZ.out]; omega
      go_wp2
      go_ret
      exact ⟨ret_bool HR.out.symm, Below.refl _ _⟩
  · obtain ⟨bb, ob, rfl, hbb, hcb⟩ := hb.addr (by rw [hm.out]; omega)
    have HW : Hid (∀ k (hk : k < way.length), 0 ≤ way[k] ∧ way[k] < n) := fun k hk => tubesB_parts hway k hk
    have h0 := HW.out 0 (by rw [hm.out]; omega)
    obtain ⟨ba, oa, rfl, hba, hca⟩ := ha.addr (by rw [hn.out]; omega)
    have HA := Lib.hid hca
    have HC := Lib.hid hcb
    have hpb := World.block_lt_of_cell? w _ p0
    simp only at hpb
    clear hcb hb hca ha hway h0
    go_enter Try.func90, Try.ntmps90
    go_wp2
    go_loopw [2, 9] (fun f i wr => ∃ (k : Nat) (fr : Int), k ≤ m ∧ i = .int .i64 k ∧ f = .int .i64 fr ∧ Below w.heap.size w wr ∧ Hid (wayEnd ts way f0 = wayEnd ts (way.drop k) fr)) (fun _ i _ => m - (intOf i).toNat)
    case atStart => exact ⟨0, f0, by omega, rfl, rfl, Below.refl _ _, rfl⟩
    case round =>
      obtain ⟨k, fr, hk, rfl, rfl, hbel, HE⟩ := hrel
      by_cases hlt : k < m
      · have hka : k < way.length := by rw [hm.out]; exact hlt
        have x1 := HC.out k hka
        obtain ⟨g0, g1⟩ := HW.out k hka
        have hno := fun (t : T3) ht h => Lib.hid (wayEnd_no (ts := ts) (way := way) (f := fr) hka (t := t) ht h)
        have hstep := fun (t : T3) ht h => Lib.hid (wayEnd_step (ts := ts) (way := way) (f := fr) hka (t := t) ht h)
        generalize way[k] = x at x1 g0 g1 hno hstep
        obtain ⟨j, rfl⟩ := Int.eq_ofNat_of_zero_le g0
        have hj : j < ts.length := by rw [hn.out]; omega
        obtain ⟨y1, y2, y3⟩ := HA.out j hj
        have hget : ts[j]? = some ts[j] := List.getElem?_eq_getElem hj
        simp only [Int.toNat_natCast] at hno hstep
        have hno := hno _ hget
        have hstep := hstep _ hget
        clear hget
        generalize ts[j] = t at y1 y2 y3 hno hstep
        rw [← hbel.cell (p := ⟨bb, _, none⟩) hbb] at x1
        rw [← hbel.cell (p := ⟨ba, _, none⟩) hba] at y1 y2 y3
        have q0 := (hbel.cell (p := ⟨pb, 0, none⟩) hpb).trans p0
        have q1 := (hbel.cell (p := ⟨pb, 1, none⟩) hpb).trans p1
        have hk0 : (0 : Int) ≤ (k : Int) := by omega
        have hk1 : (k : Int) < (m : Int) := by omega
        have l1 : bb < wr.heap.size := by have := hbel.size; omega
        have l2 : ba < wr.heap.size := by have := hbel.size; omega
        have l3 : pb < wr.heap.size := by have := hbel.size; omega
        have HBEL := Lib.hid hbel
        clear hbel
        rcases eq_ways t.1 fr with ⟨⟨e1, e2⟩, e3⟩ | ⟨⟨e1, e2⟩, e3⟩
        · have HS := hstep e3
          clear hno hstep e3
          go_wp2_with fail
          go_region_held3 (fun w' => w'.cell? ⟨bb, ob + k, none⟩ = some (.int .i64 j) ∧ w'.cell? ⟨ba, oa + j * 3, none⟩ = some (.int .i64 t.1) ∧ w'.cell? ⟨ba, oa + j * 3 + 1, none⟩ = some (.int .i64 t.2.1) ∧ w'.cell? ⟨ba, oa + j * 3 + 2, none⟩ = some (.int .i64 t.2.2) ∧ w'.cell? ⟨pb, 0, none⟩ = some (.int .i64 s) ∧ w'.cell? ⟨pb, 1, none⟩ = some (.slice (some ⟨ba, oa, none⟩) n ca))
            (first | exact ⟨x1, y1, y2, y3, q0, q1⟩ | (simp [go_sem, x1, y1, y2, y3, q0, q1, l1, l2, l3]; done)) (fail)
          go_wp2
          go_roundw
          case rel => exact ⟨k + 1, t.2.1, by omega, by go_num, rfl, (HBEL.out.alloc HBEL.out.size _).drew, HE.out.trans HS.out⟩
          case measure => simp [intOf]; omega
        · have HS := hno e3
          have HR : Hid (isWayB ts way f0 to = false) := by unfold Hid isWayB; rw [HE.out, HS.out]; rfl
          clear hno hstep e3
          go_wp2_with fail
          go_region_held3 (fun w' => w'.cell? ⟨bb, ob + k, none⟩ = some (.int .i64 j) ∧ w'.cell? ⟨ba, oa + j * 3, none⟩ = some (.int .i64 t.1) ∧ w'.cell? ⟨ba, oa + j * 3 + 1, none⟩ = some (.int .i64 t.2.1) ∧ w'.cell? ⟨ba, oa + j * 3 + 2, none⟩ = some (.int .i64 t.2.2) ∧ w'.cell? ⟨pb, 0, none⟩ = some (.int .i64 s) ∧ w'.cell? ⟨pb, 1, none⟩ = some (.slice (some ⟨ba, oa, none⟩) n ca))
            (first | exact ⟨x1, y1, y2, y3, q0, q1⟩ | (simp [go_sem, x1, y1, y2, y3, q0, q1, l1, l2, l3]; done)) (fail)
          go_wp2
          go_ret
          exact ⟨ret_bool HR.out.symm, (HBEL.out.alloc HBEL.out.size _).drew⟩
      · have HR : Hid (isWayB ts way f0 to = (fr == to)) := by unfold Hid isWayB; rw [HE.out, wayEnd_done (by rw [hm.out]; omega)]; rfl
        go_wp2
        go_ret
        exact ⟨ret_bool HR.out.symm, hbel⟩

/-- What IsWay returns: whether tubes are a way, and the code. -/
def isWayOf (s : Int) (ts : List T3) (n : Nat) (way : List Int) (x y : Int) : Bool × Int :=
  if codeOf s ts [x, y] = 0 then (if tubesB n way = true then (isWayB ts way x y, 0) else (false, 2)) else (false, codeOf s ts [x, y])

theorem ret_two {a c : Bool} {b d : Int} (h : (a, b) = (c, d)) : Ending.returned (.tuple #[.bool a, .int .i64 b]) = .returned (.tuple #[.bool c, .int .i64 d]) := by
  injection h with h1 h2; rw [h1, h2]

set_option maxHeartbeats 1000000 in
theorem specIsWay_any (s x y : Int) (a b : Option Addr) (ts : List T3) (way : List Int) (n ca m cb : Nat) (w : World) (hn : Hid (ts.length = n)) (ha : RT w a ts) (hmax : n ≤ 1048576) (hm : Hid (way.length = m)) (hb : RI w b way) (hm1 : m ≤ 1048576) :
    Calls Try.prog 51 #[.agg #[.int .i64 s, .slice a n ca], .slice b m cb, .int .i64 x, .int .i64 y] w fun e w' => e = .returned (.tuple #[.bool (isWayOf s ts n way x y).1, .int .i64 (isWayOf s ts n way x y).2]) ∧ Below w.heap.size w w' := by
  have HA : Hid (∀ w', Below w.heap.size w w' → RT w' a ts) := fun w' h => ha.below h
  have HB : Hid (∀ w', Below w.heap.size w w' → RI w' b way) := fun w' h => hb.below h
  clear ha hb
  have hc3 : codeOf s ts [x, y] = 0 ∨ codeOf s ts [x, y] = 1 ∨ codeOf s ts [x, y] = 2 := by
    unfold codeOf; split
    · split <;> simp
    · simp
  rcases hc3 with hc | hc
  · cases ht : tubesB n way with
    | true =>
      have HR : Hid (isWayOf s ts n way x y = (isWayB ts way x y, 0)) := by unfold Hid isWayOf; rw [hc, ht]; rfl
      go_enter Try.func51, Try.ntmps51
      go_wp2_with fail
      refine (l02Code_any _ s x y a ts n ca _ hn (HA.out _ (by repeat (first | exact Below.refl _ _ | refine Below.alloc ?_ (by simp; try omega) _ | refine Below.setCell ?_ (by simp; try omega) _))) hmax (by simp [go_sem]) (by simp [go_sem])).mono ?_
      rintro e w1 ⟨rfl, hb1⟩
      have q0 := (hb1.cell (p := ⟨w.heap.size, 0, none⟩) (by simp)).trans (by simp [go_sem] : _ = some (.int .i64 s))
      have q1 := (hb1.cell (p := ⟨w.heap.size, 1, none⟩) (by simp)).trans (by simp [go_sem] : _ = some (.slice a n ca))
      have B1 := Lib.hid (Below.trans (show Below w.heap.size w (w.alloc (.cells #[.int .i64 s, .slice a n ca] 34)) from (by repeat (first | exact Below.refl _ _ | refine Below.alloc ?_ (by simp; try omega) _ | refine Below.setCell ?_ (by simp; try omega) _))) (hb1.mono (by simp)))
      have hz1 := World.block_lt_of_cell? _ _ q0
      simp only at hz1
      clear hb1
      go_wp2_with fail
      refine (l02Tubes_any _ s a b way n ca m cb _ hmax q0 q1 hm (HB.out _ B1.out) hm1).mono ?_
      rintro e w2 ⟨rfl, hb2⟩
      have r0 := (hb2.cell (p := ⟨w.heap.size, 0, none⟩) hz1).trans q0
      have r1 := (hb2.cell (p := ⟨w.heap.size, 1, none⟩) hz1).trans q1
      have B2 := Lib.hid (two_worldsC B1.out hb2)
      clear hb2 q0 q1
      go_wp2_with fail
      refine (l02Is_any _ s x y a b ts way n ca m cb _ hn (HA.out _ B2.out) hmax r0 r1 hm (HB.out _ B2.out) hm1 ht).mono ?_
      rintro e w3 ⟨rfl, hb3⟩
      go_wp2
      go_ret2
      exact ⟨ret_two (by rw [HR.out]), two_worldsC B2.out hb3⟩
    | false =>
      have HR : Hid (isWayOf s ts n way x y = (false, 2)) := by unfold Hid isWayOf; rw [hc, ht]; rfl
      go_enter Try.func51, Try.ntmps51
      go_wp2_with fail
      refine (l02Code_any _ s x y a ts n ca _ hn (HA.out _ (by repeat (first | exact Below.refl _ _ | refine Below.alloc ?_ (by simp; try omega) _ | refine Below.setCell ?_ (by simp; try omega) _))) hmax (by simp [go_sem]) (by simp [go_sem])).mono ?_
      rintro e w1 ⟨rfl, hb1⟩
      have q0 := (hb1.cell (p := ⟨w.heap.size, 0, none⟩) (by simp)).trans (by simp [go_sem] : _ = some (.int .i64 s))
      have q1 := (hb1.cell (p := ⟨w.heap.size, 1, none⟩) (by simp)).trans (by simp [go_sem] : _ = some (.slice a n ca))
      have B1 := Lib.hid (Below.trans (show Below w.heap.size w (w.alloc (.cells #[.int .i64 s, .slice a n ca] 34)) from (by repeat (first | exact Below.refl _ _ | refine Below.alloc ?_ (by simp; try omega) _ | refine Below.setCell ?_ (by simp; try omega) _))) (hb1.mono (by simp)))
      clear hb1
      go_wp2_with fail
      refine (l02Tubes_any _ s a b way n ca m cb _ hmax q0 q1 hm (HB.out _ B1.out) hm1).mono ?_
      rintro e w2 ⟨rfl, hb2⟩
      have B2 := Lib.hid (two_worldsC B1.out hb2)
      clear hb2 q0 q1
      go_wp2
      go_ret2
      exact ⟨ret_two (by rw [HR.out]), B2.out⟩
  · have hcne : codeOf s ts [x, y] ≠ 0 := by omega
    have HR : Hid (isWayOf s ts n way x y = (false, codeOf s ts [x, y])) := by unfold Hid isWayOf; rw [if_neg hcne]
    have e1 : (codeOf s ts [x, y] == 0) = false := by simpa using hcne
    have e2 : (codeOf s ts [x, y] != 0) = true := by simpa using hcne
    clear hc hcne
    go_enter Try.func51, Try.ntmps51
    go_wp2_with fail
    refine (l02Code_any _ s x y a ts n ca _ hn (HA.out _ (by repeat (first | exact Below.refl _ _ | refine Below.alloc ?_ (by simp; try omega) _ | refine Below.setCell ?_ (by simp; try omega) _))) hmax (by simp [go_sem]) (by simp [go_sem])).mono ?_
    rintro e w1 ⟨rfl, hb1⟩
    have B1 := Lib.hid (Below.trans (show Below w.heap.size w (w.alloc (.cells #[.int .i64 s, .slice a n ca] 34)) from (by repeat (first | exact Below.refl _ _ | refine Below.alloc ?_ (by simp; try omega) _ | refine Below.setCell ?_ (by simp; try omega) _))) (hb1.mono (by simp)))
    clear hb1
    go_wp2
    go_ret2
    exact ⟨ret_two (by rw [HR.out]), B1.out⟩
end Go.Proofs.Ytemeaeafdhgfaaa
