/-
  The walks of the copies of lists: slices.Clone, the model's l00Own.
-/
import Derived.Test.YtkfeihnapcfkgaaDoorNest2
import Derived.Test.YtkfeihnapcfkgaaDoorAppend
import Derived.Test.YtkfeihnapcfkgaaDoorProg
import Derived.Outline
import Derived.LoopTactic
import Derived.BigQuiet
import Derived.Deep.QuietTactic
import Derived.Lib.SliceRun
namespace Go.Proofs.YtkfeihnapcfkgaaDoor
open Go.RowKit

theorem RI.some_ {w : World} {a : Option Addr} {l : List Int} (h : RI w a l) (hp : 0 < l.length) : ∃ b off, a = some ⟨b, off, none⟩ ∧ b < w.heap.size ∧ ∀ i (h : i < l.length), w.cell? ⟨b, off + i, none⟩ = some (.int .i64 l[i]) := by
  rcases h with rfl | ⟨b, off, ha, h⟩
  · simp at hp
  · exact ⟨b, off, ha, World.block_lt_of_cell? w _ (h 0 hp), h⟩
set_option maxHeartbeats 1000000 in
theorem clone_any (a : Option Addr) (ca m : Nat) (l : List Int) (w : World) (hm : Hid (l.length = m)) (hm0 : 0 < m) (hm1 : m ≤ 1048576) (ha : RI w a l) :
    Calls Tryd.prog 79 #[.slice a m ca] w (GivesO 2 l m w) := by
  obtain ⟨bb, ob, rfl, hbb, hc⟩ := ha.some_ (by rw [hm.out]; exact hm0)
  have he : ∀ W : World, (binOp .eql 24 (.slice (some ⟨bb, ob, none⟩) m ca) (.slice none 0 0)).run Tryd.prog W = .ok (.bool false) W := fun W => by
    rw [Lib.run_eql_slice_nil W _ _ _ _ _ _ _ Tryd.underlying24]; rfl
  have HN : Hid (∀ w', Below w.heap.size w w' → ∀ j u, (l.map (Value.int .i64))[j]? = some u → w'.cell? ((⟨bb, ob, none⟩ : Addr).add j) = some u) := fun w' hb => news_ints (fun i hi => (hb.cell (p := ⟨bb, ob + i, none⟩) hbb).trans (hc i hi))
  have HL : Hid ((l.map (Value.int .i64)).length = m * 1) := by unfold Hid; rw [List.length_map, hm.out]; omega
  have HF : Hid (∀ u ∈ l.map (Value.int .i64), u.oneCell' = true) := by
    intro u hu
    obtain ⟨x, _, rfl⟩ := List.mem_map.1 hu
    rfl
  have HI : Hid (∃ i0 : TypeInfo, Tryd.prog.info? 2 = some i0 ∧ i0.zero = some (.int .i64 0) ∧ i0.size = 1 ∧ i0.bytes = 8) := info_parts info2
  clear hc hbb ha
  go_enter Tryd.func79, Tryd.ntmps79
  go_wp2_with (at_builtin; refine wpList_append_clone _ rfl _ _ 24 rfl w.heap.size 2 HI.out.choose (.int .i64 0) 1 8 Tryd.underlying24 HI.out.choose_spec.1 HI.out.choose_spec.2.1 HI.out.choose_spec.2.2.1 HI.out.choose_spec.2.2.2 rfl (by decide) w.heap.size rfl (World.ownsRow_made w #[] 0 (Nat.le_refl _) (by unfold maxLen; omega) rfl) ⟨bb, ob, none⟩ m ca _ rfl HL.out (HN.out _ ((Below.refl _ _).alloc (Nat.le_refl _) _)) HF.out (by unfold maxLen; omega) (by omega) (by simp) ?_)
  intro g cap w1 hown1 hgrow hat
  have HB : Hid (Below w.heap.size w w1) := ((Below.refl _ _).alloc (Nat.le_refl _) _).grown hgrow (by simp) (fun k hk => by simp at hk; omega)
  have HO := Lib.hid hown1
  clear hown1 hgrow hat
  go_wp2
  go_ret
  exact ⟨g, cap, rfl, HB.out, HO.out⟩
set_option maxHeartbeats 1000000 in
theorem own_any (a : Option Addr) (ca m : Nat) (l : List Int) (w : World) (hm : Hid (l.length = m)) (hm0 : 0 < m) (hm1 : m ≤ 1048576) (ha : RI w a l) :
    Calls Tryd.prog 92 #[.slice a m ca] w (GivesO 2 l m w) := by
  obtain ⟨bb, ob, rfl, hbb, hc⟩ := ha.some_ (by rw [hm.out]; exact hm0)
  have HN : Hid (∀ w', Below w.heap.size w w' → ∀ j u, (l.map (Value.int .i64))[j]? = some u → w'.cell? ((⟨bb, ob, none⟩ : Addr).add j) = some u) := fun w' hb => news_ints (fun i hi => (hb.cell (p := ⟨bb, ob + i, none⟩) hbb).trans (hc i hi))
  have HL : Hid ((l.map (Value.int .i64)).length = m * 1) := by unfold Hid; rw [List.length_map, hm.out]; omega
  have HF : Hid (∀ u ∈ l.map (Value.int .i64), u.oneCell' = true) := by
    intro u hu
    obtain ⟨x, _, rfl⟩ := List.mem_map.1 hu
    rfl
  have HI : Hid (∃ i0 : TypeInfo, Tryd.prog.info? 2 = some i0 ∧ i0.zero = some (.int .i64 0) ∧ i0.size = 1 ∧ i0.bytes = 8) := info_parts info2
  clear hc hbb ha
  go_enter Tryd.func92, Tryd.ntmps92
  go_wp2_with (at_builtin; refine wpList_append_clone _ rfl _ _ 24 rfl w.heap.size 2 HI.out.choose (.int .i64 0) 1 8 Tryd.underlying24 HI.out.choose_spec.1 HI.out.choose_spec.2.1 HI.out.choose_spec.2.2.1 HI.out.choose_spec.2.2.2 rfl (by decide) w.heap.size rfl (World.ownsRow_made w #[] 0 (Nat.le_refl _) (by unfold maxLen; omega) rfl) ⟨bb, ob, none⟩ m ca _ rfl HL.out (HN.out _ ((Below.refl _ _).alloc (Nat.le_refl _) _)) HF.out (by unfold maxLen; omega) (by omega) (by simp) ?_)
  intro g cap w1 hown1 hgrow hat
  have HB : Hid (Below w.heap.size w w1) := ((Below.refl _ _).alloc (Nat.le_refl _) _).grown hgrow (by simp) (fun k hk => by simp at hk; omega)
  have HO := Lib.hid hown1
  clear hown1 hgrow hat
  go_wp2
  go_ret
  exact ⟨g, cap, rfl, HB.out, HO.out⟩
end Go.Proofs.YtkfeihnapcfkgaaDoor
