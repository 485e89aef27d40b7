/-
  The walks of slices.DeleteFunc at needs, turnsFor, l04Turns.
-/
import Derived.Test.YtenjigifjkfiaaaTurns
namespace Go.Proofs.Ytenjigifjkfiaaa
open Go.RowKit Go.Shelf Go.Sort

/-- 'clear(s)', s a slice of n > 0 elements of two cells each: 2n cells turn, and nothing else. -/
theorem run_clear_two {P : Program} (w : World) (t e ty : TypeId) (ht : P.underlying t = some (.slice e)) (hv : ∀ w, (zeroValue e).run P w = .ok (.agg #[.int .i64 0, .int .i64 0]) w) (b o n c : Nat) (hn : 0 < n)
    (hc : ∀ j, j < n * 2 → (w.cell? ⟨b, o + j, none⟩).isSome = true) (hf : ∀ j, j < n * 2 → w.frozen? ⟨b, o + j, none⟩ = false) :
    ∃ vs, ∀ ty', ty' = ty → (Builtin.clear_ #[t] ty' #[.slice (some ⟨b, o, none⟩) n c]).run P w = .ok (.tuple #[]) (w.setCells b o vs) := by
  have hz : (Value.agg #[.int .i64 0, .int .i64 0]).cells = #[.int .i64 0, .int .i64 0] := rfl
  have hlen : (Builtin.zeroCells #[.int .i64 0, .int .i64 0] n).toList.length = n * 2 := by simp [Builtin.zeroCells]
  have hone : ∀ v ∈ (Builtin.zeroCells #[.int .i64 0, .int .i64 0] n).toList, v.oneCell' = true := by
    intro v hv
    simp only [Builtin.zeroCells, Array.toList_map, List.mem_map] at hv
    obtain ⟨i, _, rfl⟩ := hv
    have : i % 2 = 0 ∨ i % 2 = 1 := by omega
    rcases this with h | h
    · show (#[Value.int .i64 0, Value.int .i64 0][i % 2]!).oneCell' = true
      rw [h]; rfl
    · show (#[Value.int .i64 0, Value.int .i64 0][i % 2]!).oneCell' = true
      rw [h]; rfl
  have hst := run_storeCells_cells (P := P) b o (Builtin.zeroCells #[.int .i64 0, .int .i64 0] n).toList 0 w (by rw [hlen]; simpa using hc) (by rw [hlen]; simpa using hf) hone
  simp only [Nat.add_zero] at hst
  obtain ⟨m, rfl⟩ : ∃ m, n = m + 1 := ⟨n - 1, by omega⟩
  exact ⟨(Builtin.zeroCells #[.int .i64 0, .int .i64 0] (m + 1)).toList, fun ty' _ => by simp [Builtin.clear_, run_underlying ht, hv, hz, hst]⟩
theorem below_setCells {B g : Nat} {a : World} (hg : B ≤ g) : ∀ (vs : List Value) (o : Nat) (w : World), Below B a w → Below B a (w.setCells g o vs)
  | [], _, _, h => h
  | v :: r, o, w, h => by
    rw [World.setCells]
    exact below_setCells hg r (o + 1) _ (h.setCell hg _)

/-- A call hands back a slice of so many elements. -/
def LenGive (n lo : Nat) (w : World) (e : Ending) (w' : World) : Prop := Below lo w w' ∧ ∃ ao cap, e = .returned (.slice ao n cap)

theorem lenGive_of {n i lo : Nat} {w w' : World} {ao : Option Addr} {cap : Nat} (h : n = i) (hb : Below lo w w') : LenGive n lo w (.returned (.slice ao i cap)) w' := by subst h; exact ⟨hb, ao, cap, rfl⟩
theorem leftN_step {set : List Int} {l : List (Int × Int)} {j : Nat} (hj : j < l.length) : leftN set (l.take (j + 1)) = leftN set (l.take j) + (if metB set l[j] = true then 0 else 1) := by
  unfold leftN
  rw [List.take_succ_eq_append_getElem hj, List.countP_append]
  cases h : metB set l[j] <;> simp [h]
theorem leftN_none {set : List Int} {l : List (Int × Int)} (h : ∀ j (hj : j < l.length), metB set l[j] = false) : leftN set l = l.length := by
  unfold leftN
  rw [List.countP_eq_length]
  intro x hx
  obtain ⟨j, hj, rfl⟩ := List.getElem_of_mem hx
  simp [h j hj]

set_option maxHeartbeats 2000000 in
theorem deleteN_any (b ao : Option Addr) (set : List Int) (l : List (Int × Int)) (m cb k cap lo : Nat) (w : World) (hm : Hid (set.length = m)) (hset : Hid (∀ W, Below lo w W → RI W b set)) (hlo : lo ≤ w.heap.size)
    (hk : Hid (l.length = k)) (hk1 : k ≤ 1048576) (hown : w.ownsRow lo 70 2 (.slice ao k cap) k (flatN l)) (hin : Hid (∀ x, x ∈ l → 0 ≤ x.1 ∧ x.1 < (m : Int))) :
    Calls Try.prog 72 #[.slice ao k cap, .func (.func 73) #[.slice b m cb] #[]] w (LenGive (leftN set l) lo w) := by
  have hidx := indexN_any b ao set l m cb k cap lo w hm hset hlo hk hk1 hown hin
  by_cases hz : k = 0
  · have HL : Hid (leftN set l = 0) := by
      have : l = [] := List.eq_nil_of_length_eq_zero (hk.out.trans hz)
      subst this; rfl
    have hnil : l = [] := List.eq_nil_of_length_eq_zero (hk.out.trans hz)
    have HO := Lib.hid hlo
    subst hz
    clear hown
    go_enter Try.func72, Try.ntmps72
    go_wp2_with fail
    refine hidx.mono ?_
    rintro e w1 ⟨hf, hb1⟩
    have B1 := Lib.hid (hb1.mono HO.out)
    rcases hf with ⟨i, hi, _⟩ | ⟨rfl, _⟩
    · rw [hnil] at hi; exact absurd hi (by simp)
    · clear hb1 hnil
      go_wp2
      go_ret
      exact lenGive_of HL.out B1.out
  · obtain ⟨g, hg⟩ : ∃ g, ao = some ⟨g, 0, none⟩ := by
      rcases hown.2 with ⟨hv, h0⟩ | ⟨g, _, _, hv, _⟩
      · exact absurd h0 hz
      · injection hv with e1; exact ⟨g, e1⟩
    subst hg
    obtain ⟨cur0, hcur, hcs, hcap, hcells⟩ := need_cells hk.out hown
    have hgl : g < w.heap.size := (Array.getElem?_eq_some_iff.1 hcur).1
    have hlg : Hid (lo ≤ g) := (hown.lt g rfl).1
    have HO := Lib.hid hlo
    have HCUR := Lib.hid hcur
    have HCS := Lib.hid hcs
    have HCELLS := Lib.hid hcells
    have HCAP := Lib.hid hcap
    clear hcur hcs hcells hown
    go_enter Try.func72, Try.ntmps72
    go_wp2_with fail
    refine hidx.mono ?_
    rintro e w1 ⟨hf, hb1⟩
    have B1 := Lib.hid (hb1.mono HO.out)
    have HG1 : Hid (w1.heap[g]? = some (.cells cur0 70 (0, 0))) := (hb1.block g hgl).trans HCUR.out
    clear hb1 hidx
    rcases hf with ⟨ix, hix, rfl, hmet, hbefore⟩ | ⟨rfl, hnone⟩
    · have e1 : ((ix : Int) == -1) = false := by simp <;> omega
      have hixk : ix < k := by rw [← hk.out]; exact hix
      have H0 : Hid (leftN set (l.take (ix + 1)) = ix) := by
        unfold Hid
        rw [leftN_step hix, hmet, if_pos rfl]
        have := leftN_none (set := set) (l := l.take ix) (fun j hj => by
          rw [List.length_take] at hj
          rw [List.getElem_take]
          exact hbefore j (by omega) (by omega))
        rw [this, List.length_take]; omega
      clear hmet hbefore
      go_wp2
      go_loopw [5, 6] (fun iv jv wr => ∃ (i j : Nat) (cur : Array Value), iv = .int .i64 i ∧ jv = .int .i64 j ∧ i < j ∧ j ≤ k ∧ Below lo w wr ∧ Hid (leftN set (l.take j) = i) ∧ Hid (wr.heap[g]? = some (.cells cur 70 (0, 0))) ∧ Hid (cur.size = cap * 2) ∧ Hid (∀ t (ht : t < l.length), j ≤ t → cur[t * 2]? = some (.int .i64 (l[t]).1) ∧ cur[t * 2 + 1]? = some (.int .i64 (l[t]).2))) (fun _ jv _ => k - (intOf jv).toNat)
      case atStart => exact ⟨ix, ix + 1, cur0, rfl, by go_num, by omega, by omega, B1.out, H0.out, HG1.out, HCS.out, fun t ht _ => HCELLS.out t ht⟩
      case round =>
        obtain ⟨i, j, cur, rfl, rfl, hij, hjk, hbel, HLEFT, HG, HS, HT⟩ := hrel
        have hgr : g < wr.heap.size := (Array.getElem?_eq_some_iff.1 HG.out).1
        have HBEL := Lib.hid hbel
        have HLOW : Hid (lo ≤ wr.heap.size) := by unfold Hid; have := hbel.size; have := HO.out; omega
        clear hbel
        by_cases hlt : j < k
        · have hja : j < l.length := by rw [hk.out]; exact hlt
          obtain ⟨x1, x2⟩ := HT.out j hja (Nat.le_refl _)
          have hmem := hin.out l[j] (List.getElem_mem hja)
          have HSTEP := Lib.hid (leftN_step (set := set) hja)
          generalize l[j] = x at x1 x2 hmem HSTEP
          obtain ⟨y1, y2⟩ := x
          simp only at x1 x2 hmem
          obtain ⟨f, rfl⟩ := Int.eq_ofNat_of_zero_le hmem.1
          have x1 := (cell_of_row wr g (j * 2) cur _ (0, 0) HG.out).trans x1
          have x2 := (cell_of_row wr g (j * 2 + 1) cur _ (0, 0) HG.out).trans x2
          have hf : f < m := by omega
          have hi0 : (0 : Int) ≤ (i : Int) := by omega
          have hi1 : (i : Int) < (k : Int) := by omega
          have hj0 : (0 : Int) ≤ (j : Int) := by omega
          have hj1 : (j : Int) < (k : Int) := by omega
          have HRI : Hid (∀ W, Below wr.heap.size wr W → RI W b set) := fun W h => hset.out _ (Below.trans HBEL.out (h.mono HLOW.out))
          clear hmem
          go_wp2_with fail
          refine (has_any b set m cb f y2 _ hm (HRI.out _ (by (repeat (first | exact Below.refl _ _ | refine Below.drew ?_ | refine Below.drewN' ?_ _ | refine Below.alloc ?_ (by first | (simp; done) | (simp; omega)) _ | refine Below.setCell ?_ (by first | (simp; done) | (simp; omega)) _)); done)) hf).mono ?_
          rintro e w2 ⟨rfl, hb2⟩
          have E2 : Hid (Below wr.heap.size wr w2) := two_worldsC (by (repeat (first | exact Below.refl _ _ | refine Below.drew ?_ | refine Below.drewN' ?_ _ | refine Below.alloc ?_ (by first | (simp; done) | (simp; omega)) _ | refine Below.setCell ?_ (by first | (simp; done) | (simp; omega)) _)); done) hb2
          have G2 : Hid (w2.heap[g]? = some (.cells cur 70 (0, 0))) := (E2.out.block g hgr).trans HG.out
          have BX : Hid (w2.cell? ⟨wr.heap.size, 0, none⟩ = some (.int .i64 (f : Int)) ∧ w2.cell? ⟨wr.heap.size, 1, none⟩ = some (.int .i64 y2)) := ⟨(hb2.cell (p := ⟨wr.heap.size, 0, none⟩) (by simp)).trans (by simp [go_sem]), (hb2.cell (p := ⟨wr.heap.size, 1, none⟩) (by simp)).trans (by simp [go_sem])⟩
          have B2 : Hid (Below lo w w2) := Below.trans HBEL.out (E2.out.mono HLOW.out)
          clear hb2 x1 x2
          cases hs : metB set ((f : Int), y2) with
          | true =>
            have HL2 : Hid (leftN set (l.take (j + 1)) = i) := by unfold Hid; rw [HSTEP.out, hs, if_pos rfl, HLEFT.out, Nat.add_zero]
            clear hs
            go_wp2
            go_roundw
            case rel => exact ⟨i, j + 1, cur, rfl, by go_num, by omega, by omega, B2.out, HL2.out, G2.out, HS.out, fun t ht h => HT.out t ht (by omega)⟩
            case measure => simp [intOf]; omega
          | false =>
            have HL2 : Hid (leftN set (l.take (j + 1)) = i + 1) := by unfold Hid; rw [HSTEP.out, hs, if_neg (by decide), HLEFT.out]
            obtain ⟨b0, b1⟩ := BX.out
            have hsz : i * 2 + 1 < cur.size := by rw [HS.out]; have := HCAP.out; omega
            have o0 := (cell_of_row w2 g (i * 2) cur _ (0, 0) G2.out).trans (Array.getElem?_eq_getElem (show i * 2 < cur.size by omega))
            have o1 := (cell_of_row w2 g (i * 2 + 1) cur _ (0, 0) G2.out).trans (Array.getElem?_eq_getElem hsz)
            generalize cur[i * 2]'(by omega) = u0 at o0
            generalize cur[i * 2 + 1]'hsz = u1 at o1
            have z0 := frozen_of_row w2 g (i * 2) cur _ G2.out
            have z1 := frozen_of_row w2 g (i * 2 + 1) cur _ G2.out
            have G3 : Hid (((w2.setCell ⟨g, i * 2, none⟩ (.int .i64 (f : Int))).setCell ⟨g, i * 2 + 1, none⟩ (.int .i64 y2)).heap[g]? = some (.cells ((cur.setIfInBounds (i * 2) (.int .i64 (f : Int))).setIfInBounds (i * 2 + 1) (.int .i64 y2)) 70 (0, 0))) := heap_setCell_same _ _ _ _ _ _ (heap_setCell_same _ _ _ _ _ _ G2.out)
            have B3 : Hid (Below lo w ((w2.setCell ⟨g, i * 2, none⟩ (.int .i64 (f : Int))).setCell ⟨g, i * 2 + 1, none⟩ (.int .i64 y2))) := (B2.out.setCell hlg.out _).setCell hlg.out _
            have T3' : Hid (∀ t (ht : t < l.length), j + 1 ≤ t → ((cur.setIfInBounds (i * 2) (.int .i64 (f : Int))).setIfInBounds (i * 2 + 1) (.int .i64 y2))[t * 2]? = some (.int .i64 (l[t]).1) ∧ ((cur.setIfInBounds (i * 2) (.int .i64 (f : Int))).setIfInBounds (i * 2 + 1) (.int .i64 y2))[t * 2 + 1]? = some (.int .i64 (l[t]).2)) := fun t ht h => by
              rw [Array.getElem?_setIfInBounds_ne (by omega), Array.getElem?_setIfInBounds_ne (by omega), Array.getElem?_setIfInBounds_ne (by omega), Array.getElem?_setIfInBounds_ne (by omega)]
              exact HT.out t ht (by omega)
            clear hs hsz
            go_wp2
            go_roundw
            case rel => exact ⟨i + 1, j + 1, _, by go_num, by go_num, by omega, by omega, B3.out, HL2.out, G3.out, by unfold Hid; simp; exact HS.out, T3'.out⟩
            case measure => simp [intOf]; omega
        · have hjk2 : j = k := by omega
          subst hjk2
          have HLL : Hid (leftN set l = i) := by
            have h := HLEFT.out
            rw [List.take_of_length_le (by rw [hk.out]; exact Nat.le_refl _)] at h
            exact h
          have hex : ∀ q, q < (j - i) * 2 → (wr.cell? ⟨g, i * 2 + q, none⟩).isSome = true := fun q hq => by
            rw [cell_of_row wr g (i * 2 + q) cur _ (0, 0) HG.out, Array.getElem?_eq_getElem (by rw [HS.out]; have := HCAP.out; omega)]; rfl
          obtain ⟨vs, hclr⟩ := run_clear_two (P := Try.prog) wr 67 70 0 Try.underlying67 (fun w => by kernel_rfl) g (i * 2) (j - i) (cap - i) (by omega) hex (fun q _ => frozen_of_row wr g (i * 2 + q) cur _ HG.out)
          have B9 : Hid (Below lo w (wr.setCells g (i * 2) vs)) := below_setCells hlg.out vs _ _ HBEL.out
          have hi0 : (0 : Int) ≤ (i : Int) := by omega
          have hi1 : (i : Int) ≤ (j : Int) := by omega
          have hcap2 : (j : Int) ≤ (cap : Int) := by have := HCAP.out; omega
          clear hex
          go_wp2
          go_ret
          exact lenGive_of HLL.out B9.out
    · have HLL : Hid (leftN set l = k) := (leftN_none hnone).trans hk.out
      clear hnone
      go_wp2
      go_ret
      exact lenGive_of HLL.out B1.out
end Go.Proofs.Ytenjigifjkfiaaa
