/-
  The walks of RouteOf, the model's and the program's: the tubes through which a carrier runs, and the code.
-/
import Derived.Test.YtenjigifjkfiaaaEndOf
import Derived.Test.YtenjigifjkfiaaaLawRow
namespace Go.Proofs.Ytenjigifjkfiaaa
open Go.RowKit

/-- What RouteOf returns. -/
def routeOf (s : Int) (ts : List T3) (set : List Int) (x y : Int) : List Int × Int :=
  if setCode s ts set [x, y] = 0 then (match runF ts set y s.toNat x with
    | some p => if p.2 = y then (p.1, 0) else ([], 3)
    | none => ([], 9)) else ([], setCode s ts set [x, y])
theorem run_len {ts : List T3} {set : List Int} (to : Int) (f : Nat) (x : Int) {p : List Int × Int} (h : runF ts set to f x = some p) : p.1.length < f := by
  induction f generalizing x p with
  | zero => exact absurd h (by simp [runF])
  | succ f ih =>
    unfold runF at h
    by_cases hf : finAt set to x
    · rw [if_pos hf] at h
      injection h with h; subst h; simp
    · rw [if_neg hf] at h
      cases hr : runF ts set to f (nextAt ts set x) with
      | none => rw [hr] at h; exact absurd h (by simp)
      | some r =>
        rw [hr] at h
        injection h with h; subst h
        have := ih _ hr
        simp only [List.length_cons]; omega
theorem routeOf_len (s : Int) (ts : List T3) (set : List Int) (x y : Int) : (routeOf s ts set x y).1.length ≤ 1048576 := by
  unfold routeOf
  split
  · rename_i h
    obtain ⟨hset, _⟩ := setCode_ok h
    obtain ⟨_, h10, _, _⟩ := netB_parts (setB_parts hset).1
    split
    · rename_i p hp
      have := run_len y _ x hp
      split
      · simp only; omega
      · simp
    · simp
  · simp

set_option maxHeartbeats 2000000 in
theorem implRouteOf_any (s x0 y : Int) (a b : Option Addr) (ts : List T3) (set : List Int) (n ca m cb : Nat) (w : World) (hn : Hid (ts.length = n)) (ha : RT w a ts) (hmax : n ≤ 1048576) (hm : Hid (set.length = m)) (hb : RI w b set) (hm1 : m ≤ 1048576) :
    Calls Try.prog 15 #[.agg #[.int .i64 s, .slice a n ca], .slice b m cb, .int .i64 x0, .int .i64 y] w (GivesL (routeOf s ts set x0 y) w) := by
  have HA : Hid (∀ w', Below w.heap.size w w' → RT w' a ts) := fun w' h => ha.below h
  have HB : Hid (∀ w', Below w.heap.size w w' → RI w' b set) := fun w' h => hb.below h
  clear ha hb
  have HXY : RI ((w.alloc (.cells #[.int .i64 s, .slice a n ca] 26)).alloc (.cells #[.int .i64 x0, .int .i64 y] 2)) (some ⟨w.heap.size + 1, 0, none⟩) [x0, y] := by
    refine .inr ⟨w.heap.size + 1, 0, rfl, ?_⟩
    rintro (_ | _ | k) hk
    · simp [go_sem]
    · simp [go_sem]
    · exact absurd hk (by simp)
  have HI : Hid (∃ i0 : TypeInfo, Try.prog.info? 2 = some i0 ∧ i0.zero = some (.int .i64 0) ∧ i0.size = 1 ∧ i0.bytes = 8) := info_parts info2
  go_enter Try.func15, Try.ntmps15
  go_wp2_with fail
  refine (checkSetting_any s a b _ ts set [x0, y] n ca m cb 2 _ _ hn (HA.out _ (by repeat (first | exact Below.refl _ _ | refine Below.alloc ?_ (by simp; try omega) _ | refine Below.setCell ?_ (by simp; try omega) _))) hmax hm (HB.out _ (by repeat (first | exact Below.refl _ _ | refine Below.alloc ?_ (by simp; try omega) _ | refine Below.setCell ?_ (by simp; try omega) _))) hm1 rfl HXY (by omega)).mono ?_
  rintro e w1 ⟨rfl, hb1⟩
  have q0 := (hb1.cell (p := ⟨w.heap.size, 0, none⟩) (by simp; omega)).trans (by simp [go_sem] : _ = some (.int .i64 s))
  have q1 := (hb1.cell (p := ⟨w.heap.size, 1, none⟩) (by simp; omega)).trans (by simp [go_sem] : _ = some (.slice a n ca))
  have B1 := Lib.hid (Below.trans (show Below w.heap.size w ((w.alloc (.cells #[.int .i64 s, .slice a n ca] 26)).alloc (.cells #[.int .i64 x0, .int .i64 y] 2)) from (by repeat (first | exact Below.refl _ _ | refine Below.alloc ?_ (by simp; try omega) _ | refine Below.setCell ?_ (by simp; try omega) _))) (hb1.mono (by simp; omega)))
  have hz1 := World.block_lt_of_cell? _ _ q0
  simp only at hz1
  clear hb1 HXY
  rcases eq_ways (setCode s ts set [x0, y]) 0 with ⟨⟨e1, e2⟩, e3⟩ | ⟨⟨e1, e2⟩, e3⟩
  · obtain ⟨hset, hst⟩ := setCode_ok e3
    have hx := hst x0 (by simp)
    have hy := hst y (by simp)
    have HX := Lib.hid hx
    have HS := Lib.hid hset
    have E3 := Lib.hid e3
    obtain ⟨hnet, hlen, _⟩ := setB_parts hset
    obtain ⟨hs1, hs2, hs3, _⟩ := netB_parts hnet
    rw [hn.out] at hs3
    rw [hm.out] at hlen
    obtain ⟨bb, ob, rfl, hbb, hcb⟩ := (HB.out w (Below.refl _ _)).addr (by rw [hm.out]; omega)
    have HC := Lib.hid hcb
    have hsn : Hid (((s.toNat : Nat) : Int) = s) := by unfold Hid; omega
    rw [e3]
    clear hset hst hx hy e1 e2 e3 hcb hnet hlen HB
    go_wp2
    go_loopw [11, 12] (fun vo at' wr => ∃ (i cap : Nat) (ao : Option Addr) (l : List Int) (x : Int), i ≤ s.toNat ∧ vo = .slice ao i cap ∧ at' = .int .i64 x ∧ Below w1.heap.size w1 wr ∧ Hid (l.length = i) ∧ Hid (stB s x = true) ∧ Hid (wr.ownsRow w1.heap.size 2 1 (.slice ao i cap) i (l.map (Value.int .i64))) ∧ Hid (Runs ts set y (s.toNat + 1) x0 (s.toNat + 1 - i) l x)) (fun vo _ _ => s.toNat + 1 - lenOfV vo)
    case atStart => exact ⟨0, 0, none, [], x0, by omega, rfl, rfl, Below.refl _ _, rfl, HX.out, World.ownsRow_nil _ _ _ _, Runs.start ts set y _ x0⟩
    case round =>
      obtain ⟨i, cap, ao, l, x, hi, rfl, rfl, hbel, HL, HST, HOWN, HRUN⟩ := hrel
      obtain ⟨kx, rfl, hkx, ea, o⟩ := setB_at HS.out HST.out
      have HEA := Lib.hid ea
      have hkm : kx < m := by rw [← hm.out]; exact hkx
      have x1 := HC.out kx hkx
      have HO := Lib.hid o
      clear ea o
      generalize set[kx] = z at x1 HEA HO
      have B2 := Lib.hid (two_worldsC B1.out hbel)
      rw [← B2.out.cell (p := ⟨bb, _, none⟩) hbb] at x1
      have r0 := (hbel.cell (p := ⟨w.heap.size, 0, none⟩) hz1).trans q0
      have r1 := (hbel.cell (p := ⟨w.heap.size, 1, none⟩) hz1).trans q1
      have HP := Lib.hid (And.intro q0 q1)
      have hk0 : (0 : Int) ≤ (kx : Int) := by omega
      have hk1 : (kx : Int) < (m : Int) := by omega
      have l1 : bb < wr.heap.size := by have := B2.out.size; omega
      have l3 : w.heap.size < wr.heap.size := by have := hbel.size; omega
      have HBEL := Lib.hid hbel
      have LO : Hid (w.heap.size ≤ w1.heap.size) := B1.out.size
      clear hbel q0 q1
      rcases eq_ways (kx : Int) y with ⟨⟨e1, e2⟩, e3⟩ | ⟨⟨e1, e2⟩, e3⟩
      · have HR : Hid (routeOf s ts set x0 y = (l, 0)) := by
          have h := HRUN.out
          rw [show s.toNat + 1 - i = (s.toNat - i) + 1 by omega] at h
          have h := h.fin (.inl e3)
          rw [run_enough HS.out HX.out y 1] at h
          unfold Hid routeOf
          rw [if_pos E3.out, h]
          exact if_pos e3
        subst e3
        clear HRUN HO
        go_wp2
        go_ret2
        exact givesL_of HR.out B2.out HL.out (own_lo HOWN.out LO.out)
      · rcases HO.out with o | ⟨j, t, o1, o2, o3, o4⟩
        · have HR : Hid (routeOf s ts set x0 y = ([], 3)) := by
            have h := HRUN.out
            rw [show s.toNat + 1 - i = (s.toNat - i) + 1 by omega] at h
            have h := h.fin (.inr (by rw [HEA.out]; exact o))
            rw [run_enough HS.out HX.out y 1] at h
            unfold Hid routeOf
            rw [if_pos E3.out, h]
            exact if_neg e3
          subst o
          clear HRUN HO e3
          go_wp2
          go_ret2
          exact givesL_nil HR.out B2.out
        · have HNF : Hid (¬ finAt set y (kx : Int)) := by
            rintro (h | h)
            · exact e3 h
            · rw [HEA.out, o1] at h; omega
          have HNX : Hid (nextAt ts set (kx : Int) = t.2.1) := nextAt_of (HEA.out.trans o1) o2
          have HN4 := Lib.hid o4
          have hj : j < ts.length := (List.getElem?_eq_some_iff.1 o2).1
          have hjn : j < n := by rw [← hn.out]; exact hj
          have hjt : ts[j] = t := (List.getElem?_eq_some_iff.1 o2).2
          have hj0 : (0 : Int) ≤ (j : Int) := by omega
          have hj1 : (j : Int) < (n : Int) := by omega
          subst o1
          have e8 : ((j : Int) == -1) = false := by simp <;> omega
          by_cases hgt : (i : Int) = s
          · have HR : Hid (routeOf s ts set x0 y = ([], 9)) := by
              have h := HRUN.out
              rw [show s.toNat + 1 - i = 0 + 1 by have := hsn.out; omega] at h
              have h := (h.step HNF.out).never
              rw [run_enough HS.out HX.out y 1] at h
              unfold Hid routeOf
              rw [if_pos E3.out, h]
            have e9 : ((i : Int) == s) = true := by simpa using hgt
            clear HRUN HO e3 o2 o3 o4 hj hjt hgt
            go_wp2
            go_ret2
            exact givesL_nil HR.out B2.out
          · have HSTEP : Hid (Runs ts set y (s.toNat + 1) x0 (s.toNat + 1 - (i + 1)) (l ++ [(j : Int)]) t.2.1) := by
              have h := HRUN.out
              rw [show s.toNat + 1 - i = (s.toNat + 1 - (i + 1)) + 1 by have := hsn.out; omega] at h
              have h := h.step HNF.out
              rw [HNX.out, HEA.out] at h
              exact h
            obtain ⟨ba, oa, rfl, hba, hca⟩ := (HA.out w (Below.refl _ _)).addr (by omega)
            obtain ⟨y1, y2, y3⟩ := hca j hj
            rw [hjt] at y1 y2 y3
            have HY := Lib.hid (And.intro y1 (And.intro y2 y3))
            have HGE : Hid (∀ k, (Value.slice ao i cap).ownBlock = some k → w1.heap.size ≤ k) := fun k hk => own_lo_block HOWN.out hk
            have hws : w1.heap.size ≤ wr.heap.size := HBEL.out.size
            have hlt : Hid (i < s.toNat) := by unfold Hid; have := hsn.out; omega
            have e9 : ((i : Int) == s) = false := by simpa using hgt
            clear HRUN HO e3 o2 o3 o4 hj hjt hca y1 y2 y3 hgt
            go_wp2_with (at_builtin; refine wpList_append_lies _ rfl _ _ 28 rfl w1.heap.size 2 HI.out.choose (.int .i64 0) 1 8 Try.underlying28 HI.out.choose_spec.1 HI.out.choose_spec.2.1 HI.out.choose_spec.2.2.1 HI.out.choose_spec.2.2.2 rfl (by decide) (.slice ao i cap) i (l.map (Value.int .i64)) rfl (HOWN.out.alloc _) ⟨wr.heap.size, 0, none⟩ 1 1 [.int .i64 (j : Int)] rfl rfl (news_one _ _ _) (by intro u hu; simp at hu; subst hu; rfl) (by omega) (by unfold maxLen; omega) (by omega) (by simp; omega) (wr.heap.size + 1) (by simp) ?_)
            intro g cap' w2 hown1 hgrow hat hlt2
            have B3 : Hid (Below w1.heap.size w1 w2) := (HBEL.out.alloc hws _).grown hgrow (by simp; omega) HGE.out
            have B4 := Lib.hid (two_worldsC B1.out B3.out)
            have O1 : Hid (w2.ownsRow w1.heap.size 2 1 (.slice (some ⟨g, 0, none⟩) (i + 1) cap') (i + 1) ((l ++ [(j : Int)]).map (Value.int .i64))) := by
              unfold Hid; rw [List.map_append]; exact hown1
            have r0 := (B3.out.cell (p := ⟨w.heap.size, 0, none⟩) hz1).trans HP.out.1
            have r1 := (B3.out.cell (p := ⟨w.heap.size, 1, none⟩) hz1).trans HP.out.2
            have z1 := (B4.out.cell (p := ⟨bb, ob + kx, none⟩) hbb).trans ((B2.out.cell (p := ⟨bb, ob + kx, none⟩) hbb).symm.trans x1)
            have y2 := (B4.out.cell (p := ⟨ba, oa + j * 3 + 1, none⟩) hba).trans HY.out.2.1
            clear hown1 hgrow hat hlt2 x1 l1 l3
            go_wp2_with fail
            go_region_held3 (fun w' => w'.cell? ⟨bb, ob + kx, none⟩ = some (.int .i64 (j : Int)) ∧ w'.cell? ⟨ba, oa + j * 3 + 1, none⟩ = some (.int .i64 t.2.1) ∧ w'.cell? ⟨w.heap.size, 0, none⟩ = some (.int .i64 s) ∧ w'.cell? ⟨w.heap.size, 1, none⟩ = some (.slice (some ⟨ba, oa, none⟩) n ca))
              (first | exact ⟨z1, y2, r0, r1⟩ | (simp [go_sem, z1, y2, r0, r1]; done)) (fail)
            go_wp2
            go_roundw
            case rel => exact ⟨i + 1, cap', _, l ++ [(j : Int)], t.2.1, by have := hlt.out; omega, rfl, rfl, B3.out.drew, by unfold Hid; rw [List.length_append, HL.out]; rfl, HN4.out, O1.out, HSTEP.out⟩
            case measure => simp [lenOfV] <;> omega
  · have HR : Hid (routeOf s ts set x0 y = ([], setCode s ts set [x0, y])) := by unfold Hid routeOf; rw [if_neg e3]
    clear e3
    generalize setCode s ts set [x0, y] = c at HR e1 e2
    go_wp2
    go_ret2
    exact givesL_nil HR.out B1.out
end Go.Proofs.Ytenjigifjkfiaaa
