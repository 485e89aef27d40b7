/-
  The walks of the laws' own helpers on slices of numbers: eqInt64S, toInt64S, markInt64S, heldInt64S.
-/
import Derived.Test.YtiilgeoahpnkpaaProg
import Derived.Test.YtiilgeoahpnkpaaMem
import Derived.Outline
import Derived.LoopTactic
import Derived.BigQuiet
import Derived.Deep.QuietTactic
import Derived.Deep.RegionHeld3
namespace Go.Proofs.Ytiilgeoahpnkpaa
open Go.RowKit

theorem ints_ext (ts us : List Int) (hl : ts.length = us.length) (h : ∀ i (h1 : i < ts.length) (h2 : i < us.length), ts[i] = us[i]) : (ts == us) = true := by
  rw [beq_iff_eq]
  exact List.ext_getElem hl fun i h1 h2 => h i h1 h2
theorem ints_bad (ts us : List Int) (i : Nat) (h1 : i < ts.length) (h2 : i < us.length) (h : ¬ ts[i] = us[i]) : (ts == us) = false := by
  rw [beq_eq_false_iff_ne]
  rintro rfl
  exact h rfl
theorem ints_len (ts us : List Int) (h : ¬ ts.length = us.length) : (ts == us) = false := by
  rw [beq_eq_false_iff_ne]
  rintro rfl
  exact h rfl
theorem RI.addr {w : World} {a : Option Addr} {ns : List Int} (h : RI w a ns) (hp : 0 < ns.length) : ∃ b off, a = some ⟨b, off, none⟩ ∧ b < w.heap.size ∧ ∀ i (h : i < ns.length), w.cell? ⟨b, off + i, none⟩ = some (.int .i64 ns[i]) := by
  rcases h with rfl | ⟨b, off, ha, h⟩
  · simp at hp
  · exact ⟨b, off, ha, World.block_lt_of_cell? w _ (h 0 hp), h⟩
theorem ints_cell (ns : List Int) (i : Nat) (h : i < ns.length) : (ns.map (Value.int .i64))[i]? = some (.int .i64 ns[i]) := by
  rw [List.getElem?_map, List.getElem?_eq_getElem h]; rfl
/-- A row of the call's own that holds numbers reads as them. -/
theorem rowI_RI {w : World} {lo n : Nat} {e : TypeId} {a : Option Addr} {c : Nat} {ns : List Int} (hn : Hid (ns.length = n)) (h : w.ownsRow lo e 1 (.slice a n c) n (ns.map (Value.int .i64))) : RI w a ns := by
  have hcells := fun g hg => h.cells (g := g) hg
  rcases h.2 with ⟨hv, h0⟩ | ⟨g, cap, cur, hv, _⟩
  · exact .inl (List.eq_nil_of_length_eq_zero (by rw [hn.out, h0]))
  · injection hv with h1 h2 h3
    subst h1
    refine .inr ⟨g, 0, rfl, fun i hi => ?_⟩
    have e : ∀ j, (⟨g, 0, none⟩ : Addr).add j = ⟨g, j, none⟩ := fun j => by unfold Addr.add; split <;> simp_all
    have := hcells g rfl _ _ (ints_cell ns i hi)
    rw [e] at this
    simpa using this

set_option maxHeartbeats 1000000 in
theorem eqInt64S_any (a b : Option Addr) (ts us : List Int) (n m ca cb : Nat) (w : World) (hn : Hid (ts.length = n)) (hm : Hid (us.length = m)) (ha : RI w a ts) (hb : RI w b us) (hmax : n ≤ maxLen) :
    Calls Try.prog 50 #[.slice a n ca, .slice b m cb] w fun e w' => e = .returned (.bool (ts == us)) ∧ Below w.heap.size w w' := by
  unfold maxLen at hmax
  by_cases hl : n = m
  · subst hl
    have HLE : Hid (ts.length = us.length) := hn.out.trans hm.out.symm
    by_cases hz : n = 0
    · have HZ := Lib.hid hz
      have HR : Hid ((ts == us) = true) := ints_ext ts us HLE.out (fun i h1 _ => by rw [hn.out, HZ.out] at h1; omega)
      clear hz
      go_enter Try.func50, Try.ntmps50
      go_wp2
      go_loop [5] (fun i => ∃ k : Nat, k ≤ n ∧ i = .int .i64 k) (fun _ => 0)
      case atStart => exact ⟨0, by omega, rfl⟩
      case round =>
        obtain ⟨k, hk, rfl⟩ := hrel
        have hlt : ¬ k < n := by rw [HZ.out]; omega
        go_wp2
        go_ret
        exact ⟨ret_bool HR.out.symm, Below.refl _ _⟩
    · obtain ⟨ba, oa, rfl, hba, hca⟩ := ha.addr (by rw [hn.out]; omega)
      obtain ⟨bb, ob, rfl, hbb, hcb⟩ := hb.addr (by rw [hm.out]; omega)
      have HCA := Lib.hid hca
      have HCB := Lib.hid hcb
      clear hca hcb ha hb
      go_enter Try.func50, Try.ntmps50
      go_wp2
      go_loopw [5] (fun i wr => ∃ k : Nat, k ≤ n ∧ i = .int .i64 k ∧ Below w.heap.size w wr ∧ ∀ j (h1 : j < ts.length) (h2 : j < us.length), j < k → ts[j] = us[j]) (fun i _ => n - (intOf i).toNat)
      case atStart => exact ⟨0, by omega, rfl, Below.refl _ _, fun j _ _ hj => by omega⟩
      case round =>
        obtain ⟨k, hk, rfl, hbel, hall⟩ := hrel
        have HALL := Lib.hid hall
        clear hall
        by_cases hlt : k < n
        · have hka : k < ts.length := by rw [hn.out]; exact hlt
          have hkb : k < us.length := by rw [hm.out]; exact hlt
          have x1 := HCA.out k hka
          have y1 := HCB.out k hkb
          generalize hT : ts[k] = t at x1
          generalize hU : us[k] = u at y1
          have HT := Lib.hid hT
          have HU := Lib.hid hU
          clear hT hU
          rw [← hbel.cell (p := ⟨_, _, none⟩) hba] at x1
          rw [← hbel.cell (p := ⟨_, _, none⟩) hbb] at y1
          have hk0 : (0 : Int) ≤ (k : Int) := by omega
          have hk1 : (k : Int) < (n : Int) := by omega
          rcases eq_ways t u with ⟨⟨e1, e2⟩, e3⟩ | ⟨⟨e1, e2⟩, e3⟩
          · have E3 := Lib.hid e3
            clear e3
            go_wp2
            go_region_held3 (fun w' => w'.cell? ⟨ba, oa + k, none⟩ = some (.int .i64 t) ∧ w'.cell? ⟨bb, ob + k, none⟩ = some (.int .i64 u)) (exact ⟨x1, y1⟩) (fail)
            go_wp2
            go_roundw
            case rel => exact ⟨k + 1, by omega, by go_num, hbel.drew, fun j h1 h2 hj => if e : j = k then (by subst e; rw [HT.out, HU.out]; exact E3.out) else HALL.out j h1 h2 (by omega)⟩
            case measure => simp [intOf]; omega
          · have HR : Hid ((ts == us) = false) := ints_bad ts us k hka hkb (by rw [HT.out, HU.out]; exact e3)
            clear e3
            go_wp2
            go_region_held3 (fun w' => w'.cell? ⟨ba, oa + k, none⟩ = some (.int .i64 t) ∧ w'.cell? ⟨bb, ob + k, none⟩ = some (.int .i64 u)) (exact ⟨x1, y1⟩) (fail)
            go_wp2
            go_ret
            exact ⟨ret_bool HR.out.symm, hbel.drew⟩
        · have HR : Hid ((ts == us) = true) := ints_ext ts us HLE.out (fun i h1 h2 => HALL.out i h1 h2 (by rw [hn.out] at h1; omega))
          go_wp2
          go_ret
          exact ⟨ret_bool HR.out.symm, hbel⟩
  · have HR : Hid ((ts == us) = false) := ints_len ts us (by rw [hn.out, hm.out]; exact hl)
    have hne : ((n : Int) != (m : Int)) = true := by rw [bne_iff_ne]; omega
    go_enter Try.func50, Try.ntmps50
    go_wp2
    go_ret
    exact ⟨ret_bool HR.out.symm, Below.refl _ _⟩

theorem info2 : (Try.prog.info? 2).map (fun i => (i.zero, i.size, i.bytes)) = some (some (.int .i64 0), 1, 8) := by kernel_rfl

/-- A call hands back a slice of its own that holds these numbers; nothing that was there has turned. -/
def GivesInts (ns : List Int) (n : Nat) (w : World) (e : Ending) (w' : World) : Prop :=
  ∃ g, e = .returned (.slice (some ⟨g, 0, none⟩) n n) ∧ w.heap.size ≤ g ∧ Below w.heap.size w w' ∧ w'.ownsRow w.heap.size 2 1 (.slice (some ⟨g, 0, none⟩) n n) n (ns.map (Value.int .i64))
def FilledI (ns : List Int) (cur : Array Value) (k : Nat) : Prop := ∀ i (h : i < ns.length), i < k → cur[i]? = some (.int .i64 ns[i])
theorem FilledI.step {ns : List Int} {cur : Array Value} {k : Nat} (h : FilledI ns cur k) (hs : cur.size = ns.length) (hk : k < ns.length) : FilledI ns (cur.setIfInBounds k (.int .i64 ns[k])) (k + 1) := by
  intro i hi hik
  by_cases e : i = k
  · subst e
    simp [Array.getElem?_setIfInBounds]; omega
  · rw [Array.getElem?_setIfInBounds_ne (by omega)]
    exact h i hi (by omega)
theorem givesI_of {ns : List Int} {n g : Nat} {w w' : World} {e : Ending} {cur : Array Value} (hn : ns.length = n) (he : e = .returned (.slice (some ⟨g, 0, none⟩) n n)) (hg : w.heap.size ≤ g) (hb : Below w.heap.size w w')
    (hh : w'.heap[g]? = some (.cells cur 2 (0, 0))) (hs : cur.size = n) (hm : ns.length ≤ 1048576) (h : FilledI ns cur n) : GivesInts ns n w e w' := by
  subst hn
  refine ⟨g, he, hg, hb, by simp, .inr ⟨g, _, cur, rfl, hg, hh, Nat.le_refl _, by unfold maxLen; omega, by omega, ?_⟩⟩
  apply List.ext_getElem?
  intro j
  by_cases hj : j < ns.length
  · rw [List.getElem?_take_of_lt (by omega), ints_cell ns j hj]
    simpa using h j hj hj
  · rw [List.getElem?_eq_none (by simp; omega), List.getElem?_eq_none (by simp; omega)]

set_option maxHeartbeats 1000000 in
theorem toInt64S_any (a : Option Addr) (ts : List Int) (n ca : Nat) (w : World) (hn : Hid (ts.length = n)) (ha : RI w a ts) (hmax : n ≤ 1048576) :
    Calls Try.prog 49 #[.slice a n ca] w (GivesInts ts n w) := by
  obtain ⟨i0, hi, hz0, hz1, hz2⟩ := info_parts info2
  have hmk := run_make_rowN (P := Try.prog) 25 2 i0 _ Try.underlying25 hi hz0 .i64 .i64 n n (Nat.le_refl _) (by rw [hz2]; omega) (by omega)
  rw [hz1] at hmk
  clear hi hz0 hz1 hz2
  have HSZ : Hid ((madeCells (Value.cells (.int .i64 0)) (n * 1)).size = n) := by unfold Hid; rw [size_madeCells]; omega
  generalize madeCells (Value.cells (.int .i64 0)) (n * 1) = cur0 at hmk HSZ
  by_cases hz : n = 0
  · have HZ := Lib.hid hz
    clear hz
    go_enter Try.func49, Try.ntmps49
    go_wp2
    go_loopw [4] (fun i wr => ∃ k : Nat, k ≤ n ∧ i = .int .i64 k ∧ wr = w.alloc (.cells cur0 2)) (fun _ _ => 0)
    case atStart => exact ⟨0, by omega, rfl, rfl⟩
    case round =>
      obtain ⟨k, hk, rfl, rfl⟩ := hrel
      have hlt : ¬ k < n := by rw [HZ.out]; omega
      go_wp2
      go_ret
      exact givesI_of hn.out rfl (Nat.le_refl _) ((Below.refl _ _).alloc (Nat.le_refl _) _) (heap_alloc_new w _) HSZ.out (by rw [hn.out]; omega) (fun i hi => by have := hn.out; have := HZ.out; omega)
  · obtain ⟨b, off, rfl, hb, hc⟩ := ha.addr (by rw [hn.out]; omega)
    have HC := Lib.hid hc
    clear hc ha
    go_enter Try.func49, Try.ntmps49
    go_wp2
    go_loopw [4] (fun i wr => ∃ (k : Nat) (cur : Array Value), k ≤ n ∧ i = .int .i64 k ∧ Below w.heap.size w wr ∧ Hid (wr.heap[w.heap.size]? = some (.cells cur 2 (0, 0))) ∧ Hid (cur.size = n) ∧ FilledI ts cur k) (fun i _ => n - (intOf i).toNat)
    case atStart => exact ⟨0, cur0, by omega, rfl, (Below.refl _ _).alloc (Nat.le_refl _) _, heap_alloc_new w _, HSZ, fun _ _ h => by omega⟩
    case round =>
      obtain ⟨k, cur, hk, rfl, hbel, HG, HS, hfil⟩ := hrel
      by_cases hlt : k < n
      · have hka : k < ts.length := by rw [hn.out]; exact hlt
        have x1 := HC.out k hka
        have HST := Lib.hid (hfil.step (by rw [HS.out, hn.out]) hka)
        generalize ts[k] = t at x1 HST
        rw [← hbel.cell (p := ⟨_, _, none⟩) hb] at x1
        have hk0 : (0 : Int) ≤ (k : Int) := by omega
        have hk1 : (k : Int) < (n : Int) := by omega
        have hgl : w.heap.size < wr.heap.size := (Array.getElem?_eq_some_iff.1 HG.out).1
        have o1 : wr.cell? ⟨w.heap.size, k, none⟩ = some (cur[k]'(by rw [HS.out]; exact hlt)) := by rw [cell_of_row wr _ _ cur _ (0, 0) HG.out]; exact Array.getElem?_eq_getElem _
        have z1 := frozen_of_row wr w.heap.size k cur _ HG.out
        generalize cur[k]'(by rw [HS.out]; exact hlt) = o at o1
        have HB1 := Lib.hid hbel
        clear hbel
        go_wp2
        go_roundw
        case rel => exact ⟨k + 1, _, by omega, by go_num, HB1.out.setCell (Nat.le_refl _) _, heap_setCell_same _ _ _ _ _ _ HG.out, by unfold Hid; simp; exact HS.out, HST.out⟩
        case measure => simp [intOf]; omega
      · go_wp2
        go_ret
        exact givesI_of hn.out rfl (Nat.le_refl _) hbel HG.out HS.out (by rw [hn.out]; omega) (fun i hi _ => hfil i hi (by rw [hn.out] at hi; omega))
end Go.Proofs.Ytiilgeoahpnkpaa
