/-
  The walk of turnsFor: slices.DeleteFunc at needs, and how many are left.
-/
import Derived.Test.YtenjigifjkfiaaaSetWayImpl
import Derived.Lib.SliceRun
namespace Go.Proofs.Ytenjigifjkfiaaa
open Go.RowKit Go.Shelf Go.Sort

/-- A setting meets a need. -/
def metB (set : List Int) (x : Int × Int) : Bool := setAt set x.1 == x.2
def leftN (set : List Int) (l : List (Int × Int)) : Nat := l.countP fun x => !(metB set x)

set_option maxHeartbeats 1000000 in
theorem has_any (b : Option Addr) (set : List Int) (m cb f : Nat) (z : Int) (w : World) (hm : Hid (set.length = m)) (hb : RI w b set) (hf : f < m) :
    Calls Try.prog 73 #[.slice b m cb, .agg #[.int .i64 (f : Int), .int .i64 z]] w fun e w' => e = .returned (.bool (metB set ((f : Int), z))) ∧ Below w.heap.size w w' := by
  obtain ⟨bb, ob, rfl, hbb, hcb⟩ := hb.addr (by rw [hm.out]; omega)
  have hfs : f < set.length := by rw [hm.out]; exact hf
  have x1 := hcb f hfs
  have HM : Hid (metB set ((f : Int), z) = (set[f] == z)) := by unfold Hid metB; rw [setAt_get hfs]
  generalize set[f] = v at x1 HM
  have hf0 : (0 : Int) ≤ (f : Int) := by omega
  have hf1 : (f : Int) < (m : Int) := by omega
  clear hcb hb hfs
  go_enter Try.func73, Try.ntmps73
  go_wp2_with fail
  go_quiet (fail)
  go_wp2
  go_ret
  exact ⟨ret_bool HM.out.symm, (by (repeat (first | exact Below.refl _ _ | refine Below.drew ?_ | refine Below.drewN' ?_ _ | refine Below.alloc ?_ (by first | (simp; done) | (simp; omega)) _ | refine Below.setCell ?_ (by first | (simp; done) | (simp; omega)) _)); done)⟩

theorem need_cells {w : World} {lo g m cap : Nat} {e : TypeId} {l : List (Int × Int)} (hm : l.length = m) (h : w.ownsRow lo e 2 (.slice (some ⟨g, 0, none⟩) m cap) m (flatN l)) :
    ∃ cur, w.heap[g]? = some (.cells cur e (0, 0)) ∧ cur.size = cap * 2 ∧ m ≤ cap ∧ ∀ t (ht : t < l.length), cur[t * 2]? = some (.int .i64 (l[t]).1) ∧ cur[t * 2 + 1]? = some (.int .i64 (l[t]).2) := by
  rcases h.2 with ⟨hv, _⟩ | ⟨g', cap', cur, hv, hlo, hg, h1, h2, h3, ht⟩
  · injection hv with h1; injection h1
  · injection hv with e1 e2 e3
    injection e1 with e1
    injection e1 with e1
    subst e1 e3
    refine ⟨cur, hg, h3, h1, fun t htl => ?_⟩
    have a0 := flatN_at l (t * 2) (by omega)
    have a1 := flatN_at l (t * 2 + 1) (by omega)
    rw [← ht, List.getElem?_take_of_lt (by omega)] at a0 a1
    rw [show t * 2 / 2 = t by omega, show t * 2 % 2 = 0 by omega, getElem!_pos l t htl] at a0
    rw [show (t * 2 + 1) / 2 = t by omega, show (t * 2 + 1) % 2 = 1 by omega, getElem!_pos l t htl] at a1
    exact ⟨by simpa [encN] using a0, by simpa [encN] using a1⟩

/-- What IndexFunc tells. -/
def FirstMet (set : List Int) (l : List (Int × Int)) (e : Ending) : Prop :=
  (∃ i, ∃ hi : i < l.length, e = .returned (.int .i64 (i : Int)) ∧ metB set l[i] = true ∧ ∀ j (hj : j < l.length), j < i → metB set l[j] = false) ∨ (e = .returned (.int .i64 (-1)) ∧ ∀ j (hj : j < l.length), metB set l[j] = false)

set_option maxHeartbeats 1000000 in
theorem indexN_any (b ao : Option Addr) (set : List Int) (l : List (Int × Int)) (m cb k cap lo : Nat) (w : World) (hm : Hid (set.length = m)) (hset : Hid (∀ W, Below lo w W → RI W b set)) (hlo : lo ≤ w.heap.size)
    (hk : Hid (l.length = k)) (hk1 : k ≤ 1048576) (hown : w.ownsRow lo 70 2 (.slice ao k cap) k (flatN l)) (hin : Hid (∀ x, x ∈ l → 0 ≤ x.1 ∧ x.1 < (m : Int))) :
    Calls Try.prog 84 #[.slice ao k cap, .func (.func 73) #[.slice b m cb] #[]] w fun e w' => FirstMet set l e ∧ Below w.heap.size w w' := by
  by_cases hz : k = 0
  · have HR : Hid (∀ j (hj : j < l.length), metB set l[j] = false) := fun j hj => by rw [hk.out, hz] at hj; omega
    have HZ := Lib.hid hz
    clear hz hown
    go_enter Try.func84, Try.ntmps84
    go_wp2
    go_loop [8] (fun i => i = .int .i64 0) (fun _ => 0)
    case atStart => rfl
    case round =>
      subst hrel
      have hlt : ¬ 0 < k := by rw [HZ.out]; omega
      go_wp2
      go_ret
      exact ⟨.inr ⟨rfl, HR.out⟩, Below.refl _ _⟩
  · obtain ⟨g, hg⟩ : ∃ g, ao = some ⟨g, 0, none⟩ := by
      rcases hown.2 with ⟨hv, h0⟩ | ⟨g, _, _, hv, _⟩
      · exact absurd h0 hz
      · injection hv with e1; exact ⟨g, e1⟩
    subst hg
    obtain ⟨cur, hcur, hcs, hcap, hcells⟩ := need_cells hk.out hown
    have hgl : g < w.heap.size := (Array.getElem?_eq_some_iff.1 hcur).1
    have HC : Hid (∀ t (ht : t < l.length), w.cell? ⟨g, t * 2, none⟩ = some (.int .i64 (l[t]).1) ∧ w.cell? ⟨g, t * 2 + 1, none⟩ = some (.int .i64 (l[t]).2)) := fun t ht => ⟨(cell_of_row w g _ cur _ (0, 0) hcur).trans (hcells t ht).1, (cell_of_row w g _ cur _ (0, 0) hcur).trans (hcells t ht).2⟩
    clear hcur hcs hcells hown
    go_enter Try.func84, Try.ntmps84
    go_wp2
    go_loopw [8] (fun iv wr => ∃ i : Nat, i ≤ k ∧ iv = .int .i64 i ∧ Below w.heap.size w wr ∧ ∀ j (hj : j < l.length), j < i → metB set l[j] = false) (fun iv _ => k - (intOf iv).toNat)
    case atStart => exact ⟨0, by omega, rfl, Below.refl _ _, fun j _ hj => by omega⟩
    case round =>
      obtain ⟨i, hi, rfl, hbel, hall⟩ := hrel
      have HALL := Lib.hid hall
      have HBEL := Lib.hid hbel
      clear hall
      by_cases hlt : i < k
      · have hia : i < l.length := by rw [hk.out]; exact hlt
        obtain ⟨x1, x2⟩ := HC.out i hia
        have hmem := hin.out l[i] (List.getElem_mem hia)
        have HIT : Hid (metB set l[i] = true → FirstMet set l (.returned (.int .i64 (i : Int)))) := fun h => .inl ⟨i, hia, rfl, h, HALL.out⟩
        have HSM : Hid (metB set l[i] = false → ∀ j (h : j < l.length), j < i + 1 → metB set l[j] = false) := fun ht j h hj => if e : j = i then (by subst e; exact ht) else HALL.out j h (by omega)
        generalize l[i] = x at x1 x2 hmem HIT HSM
        obtain ⟨y1, y2⟩ := x
        simp only at x1 x2 hmem
        obtain ⟨f, rfl⟩ := Int.eq_ofNat_of_zero_le hmem.1
        rw [← hbel.cell (p := ⟨g, _, none⟩) hgl] at x1 x2
        have hf : f < m := by omega
        have hi0 : (0 : Int) ≤ (i : Int) := by omega
        have hi1 : (i : Int) < (k : Int) := by omega
        have HRI : Hid (RI wr b set) := hset.out _ (hbel.mono hlo)
        clear hbel hmem
        go_wp2_with fail
        refine (has_any b set m cb f y2 _ hm HRI.out hf).mono ?_
        rintro e w1 ⟨rfl, hb1⟩
        have B1 := Lib.hid (two_worldsC HBEL.out hb1)
        clear hb1 x1 x2
        cases hs : metB set ((f : Int), y2) with
        | true =>
          have HR := Lib.hid (HIT.out hs)
          clear HIT HSM hs
          go_wp2
          go_ret
          exact ⟨HR.out, B1.out⟩
        | false =>
          have HS2 := Lib.hid (HSM.out hs)
          clear HIT HSM hs
          go_wp2
          go_roundw
          case rel => exact ⟨i + 1, by omega, by go_num, B1.out, HS2.out⟩
          case measure => simp [intOf]; omega
      · have HR : Hid (∀ j (hj : j < l.length), metB set l[j] = false) := fun j hj => HALL.out j hj (by rw [hk.out] at hj; omega)
        clear hbel
        go_wp2
        go_ret
        exact ⟨.inr ⟨rfl, HR.out⟩, HBEL.out⟩
end Go.Proofs.Ytenjigifjkfiaaa
