/-
  The walk of l04Run, the model's run of a carrier, and of endOf, the program's.
-/
import Derived.Test.YtenjigifjkfiaaaValidSetting
import Derived.Deep.AppendLies
import Derived.Deep.RegionHeld3
import Derived.OwnWalk
namespace Go.Proofs.Ytenjigifjkfiaaa
open Go.RowKit

theorem own_lo_block {w : World} {lo n k : Nat} {e : TypeId} {size : Nat} {v : Value} {xs : List Value} (h : w.ownsRow lo e size v n xs) (hk : v.ownBlock = some k) : lo ≤ k := by
  rcases h.2 with ⟨rfl, _⟩ | ⟨g, cap, cur, rfl, hg, _⟩
  · simp [Value.ownBlock] at hk
  · simp [Value.ownBlock] at hk; omega
theorem news_one (w : World) (z : Value) (e : TypeId) : ∀ j u, [z][j]? = some u → (w.alloc (.cells #[z] e)).cell? ((⟨w.heap.size, 0, none⟩ : Addr).add j) = some u := by
  intro j u hj
  match j, hj with
  | 0, hj => simp at hj; subst hj; simp [Addr.add, go_sem]
def lenOfV : Value → Nat
  | .slice _ n _ => n
  | _ => 0

/-- What a run hands back: the tubes in memory of its own, and where it ends; nothing and -1 if it never ends. -/
def RunGives (r : Option (List Int × Int)) (w : World) (e : Ending) (w' : World) : Prop :=
  Below w.heap.size w w' ∧ match r with
    | none => e = .returned (.tuple #[.slice none 0 0, .int .i64 (-1)])
    | some p => ∃ ao cap, e = .returned (.tuple #[.slice ao p.1.length cap, .int .i64 p.2]) ∧ w'.ownsRow w.heap.size 2 1 (.slice ao p.1.length cap) p.1.length (p.1.map (Value.int .i64))

theorem runGives_some {r : Option (List Int × Int)} {l : List Int} {y : Int} {w w' : World} {ao : Option Addr} {cap i : Nat} (h : r = some (l, y)) (hb : Below w.heap.size w w') (hl : l.length = i) (ho : w'.ownsRow w.heap.size 2 1 (.slice ao i cap) i (l.map (Value.int .i64))) :
    RunGives r w (.returned (.tuple #[.slice ao i cap, .int .i64 y])) w' := by
  subst hl; subst h
  exact ⟨hb, ao, cap, rfl, ho⟩
theorem runGives_none {r : Option (List Int × Int)} {w w' : World} (h : r = none) (hb : Below w.heap.size w w') : RunGives r w (.returned (.tuple #[.slice none 0 0, .int .i64 (-1)])) w' := by
  subst h
  exact ⟨hb, rfl⟩

/-- Where a carrier stops, and whether it does. -/
def endRes (s : Int) (ts : List T3) (set : List Int) (x : Int) : Int × Bool := match runF ts set (-1) s.toNat x with
  | some p => (p.2, true)
  | none => (0, false)

theorem ret_end {p : Int × Bool} {y : Int} {b : Bool} (h : p = (y, b)) : Ending.returned (.tuple #[.int .i64 y, .bool b]) = .returned (.tuple #[.int .i64 p.1, .bool p.2]) := by rw [h]
set_option maxHeartbeats 2000000 in
theorem endOf_any (s x0 : Int) (a b : Option Addr) (ts : List T3) (set : List Int) (n ca m cb : Nat) (w : World) (hn : Hid (ts.length = n)) (ha : RT w a ts)
    (hm : Hid (set.length = m)) (hb : RI w b set) (hset : setB s ts set = true) (hx0 : stB s x0 = true) :
    Calls Try.prog 50 #[.agg #[.int .i64 s, .slice a n ca], .slice b m cb, .int .i64 x0] w fun e w' => e = .returned (.tuple #[.int .i64 (endRes s ts set x0).1, .bool (endRes s ts set x0).2]) ∧ Below w.heap.size w w' := by
  have HA : Hid (∀ w', Below w.heap.size w w' → RT w' a ts) := fun w' h => ha.below h
  obtain ⟨hnet, hlen, _⟩ := setB_parts hset
  obtain ⟨hs1, hs2, hs3, _⟩ := netB_parts hnet
  rw [hn.out] at hs3
  rw [hm.out] at hlen
  obtain ⟨bb, ob, rfl, hbb, hcb⟩ := hb.addr (by rw [hm.out]; omega)
  have HC := Lib.hid hcb
  have HS := Lib.hid hset
  have HX := Lib.hid hx0
  have hsn : Hid (((s.toNat : Nat) : Int) = s) := by unfold Hid; omega
  clear ha hb hcb hset hx0 hnet hlen
  go_enter Try.func50, Try.ntmps50
  go_wp2
  go_loopw [2, 10] (fun at' iv wr => ∃ (i : Nat) (l : List Int) (x : Int), i ≤ s.toNat ∧ iv = .int .i64 (i : Int) ∧ at' = .int .i64 x ∧ Below w.heap.size w wr ∧ Hid (stB s x = true) ∧ Hid (wr.cell? ⟨w.heap.size, 0, none⟩ = some (.int .i64 s) ∧ wr.cell? ⟨w.heap.size, 1, none⟩ = some (.slice a n ca)) ∧ Hid (Runs ts set (-1) s.toNat x0 (s.toNat - i) l x)) (fun _ iv _ => s.toNat - (intOf iv).toNat)
  case atStart =>
    exact ⟨0, [], x0, by omega, rfl, rfl, (by repeat (first | exact Below.refl _ _ | refine Below.alloc ?_ (by simp; try omega) _ | refine Below.setCell ?_ (by simp; try omega) _)), HX.out, ⟨by simp [go_sem], by simp [go_sem]⟩, Runs.start ts set (-1) _ x0⟩
  case round =>
    obtain ⟨i, l, x, hi, rfl, rfl, hbel, HST, HQ, HRUN⟩ := hrel
    obtain ⟨kx, rfl, hkx, ea, o⟩ := setB_at HS.out HST.out
    have HEA := Lib.hid ea
    have hkm : kx < m := by rw [← hm.out]; exact hkx
    have x1 := HC.out kx hkx
    have HO := Lib.hid o
    clear ea o
    generalize set[kx] = z at x1 HEA HO
    rw [← hbel.cell (p := ⟨bb, _, none⟩) hbb] at x1
    obtain ⟨q0, q1⟩ := HQ.out
    have hk0 : (0 : Int) ≤ (kx : Int) := by omega
    have hk1 : (kx : Int) < (m : Int) := by omega
    have l1 : bb < wr.heap.size := by have := hbel.size; omega
    have l3 : w.heap.size < wr.heap.size := World.block_lt_of_cell? wr _ q0
    have HBEL := Lib.hid hbel
    clear hbel
    by_cases hlt : (i : Int) < s
    · rcases HO.out with o | ⟨j, t, o1, o2, o3, o4⟩
      · have HR : Hid (endRes s ts set x0 = ((kx : Int), true)) := by
          have h := HRUN.out
          rw [show s.toNat - i = (s.toNat - (i + 1)) + 1 by have := hsn.out; omega] at h
          have h := h.fin (.inr (by rw [HEA.out]; exact o))
          unfold Hid endRes
          rw [h]
        subst o
        clear HRUN HO
        go_wp2
        go_ret2
        exact ⟨ret_end HR.out, HBEL.out⟩
      · have HNF : Hid (¬ finAt set (-1) (kx : Int)) := by
          rintro (h | h)
          · omega
          · rw [HEA.out, o1] at h; omega
        have HNX : Hid (nextAt ts set (kx : Int) = t.2.1) := nextAt_of (HEA.out.trans o1) o2
        have HN4 := Lib.hid o4
        have hj : j < ts.length := (List.getElem?_eq_some_iff.1 o2).1
        have hjn : j < n := by rw [← hn.out]; exact hj
        have hjt : ts[j] = t := (List.getElem?_eq_some_iff.1 o2).2
        have hj0 : (0 : Int) ≤ (j : Int) := by omega
        have hj1 : (j : Int) < (n : Int) := by omega
        subst o1
        have HSTEP : Hid (Runs ts set (-1) s.toNat x0 (s.toNat - (i + 1)) (l ++ [(j : Int)]) t.2.1) := by
          have h := HRUN.out
          rw [show s.toNat - i = (s.toNat - (i + 1)) + 1 by have := hsn.out; omega] at h
          have h := h.step HNF.out
          rw [HNX.out, HEA.out] at h
          exact h
        obtain ⟨ba, oa, rfl, hba, hca⟩ := (HA.out w (Below.refl _ _)).addr (by omega)
        obtain ⟨y1, y2, y3⟩ := hca j hj
        rw [hjt] at y1 y2 y3
        rw [← HBEL.out.cell (p := ⟨ba, _, none⟩) hba] at y1 y2 y3
        have l2 : ba < wr.heap.size := by have := HBEL.out.size; omega
        clear HRUN HO o2 o3 o4 hj hjt hca
        go_wp2_with fail
        go_region_held3 (fun w' => w'.cell? ⟨bb, ob + kx, none⟩ = some (.int .i64 (j : Int)) ∧ w'.cell? ⟨ba, oa + j * 3 + 1, none⟩ = some (.int .i64 t.2.1) ∧ w'.cell? ⟨w.heap.size, 0, none⟩ = some (.int .i64 s) ∧ w'.cell? ⟨w.heap.size, 1, none⟩ = some (.slice (some ⟨ba, oa, none⟩) n ca))
          (first | exact ⟨x1, y2, q0, q1⟩ | (simp [go_sem, x1, y2, q0, q1]; done)) (fail)
        go_wp2
        go_roundw
        case rel => exact ⟨i + 1, l ++ [(j : Int)], t.2.1, by have := hsn.out; omega, by go_num, rfl, HBEL.out.drew, HN4.out, ⟨by simpa [go_sem] using q0, by simpa [go_sem] using q1⟩, HSTEP.out⟩
        case measure => have := hsn.out; simp [intOf]; omega
    · have HR : Hid (endRes s ts set x0 = (0, false)) := by
        have h := HRUN.out
        rw [show s.toNat - i = 0 by have := hsn.out; omega] at h
        unfold Hid endRes
        rw [h.never]
      clear HRUN HO
      go_wp2
      go_ret2
      exact ⟨ret_end HR.out, HBEL.out⟩
end Go.Proofs.Ytenjigifjkfiaaa
