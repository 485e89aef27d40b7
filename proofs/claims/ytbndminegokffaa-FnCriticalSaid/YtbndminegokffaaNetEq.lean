/-
  The walks of the laws' own helpers on networks: eqTubeS, eqNet, szTubeS, szNet.
-/
import Derived.Test.YtbndminegokffaaNetLeaf
import Derived.StillTailTactics
import Derived.Deep.RegionHeld3
namespace Go.Proofs.Ytbndminegokffaa
open Go.RowKit

theorem T3.beq_ext (ts us : List T3) (hl : ts.length = us.length) (h : ∀ i (h1 : i < ts.length) (h2 : i < us.length), (ts[i] == us[i]) = true) : (ts == us) = true := by
  rw [beq_iff_eq]
  exact List.ext_getElem hl fun i h1 h2 => by simpa using h i h1 h2
theorem T3.beq_bad (ts us : List T3) (i : Nat) (h1 : i < ts.length) (h2 : i < us.length) (h : (ts[i] == us[i]) = false) : (ts == us) = false := by
  rw [beq_eq_false_iff_ne]
  rintro rfl
  simp at h
theorem T3.beq_len (ts us : List T3) (h : ¬ ts.length = us.length) : (ts == us) = false := by
  rw [beq_eq_false_iff_ne]
  rintro rfl
  exact h rfl
theorem RT.addr {w : World} {a : Option Addr} {ts : List T3} (h : RT w a ts) (hp : 0 < ts.length) : ∃ b off, a = some ⟨b, off, none⟩ ∧ b < w.heap.size ∧ ∀ i (h : i < ts.length), w.cell? ⟨b, off + i * 3, none⟩ = some (.int .i64 ts[i].1) ∧ w.cell? ⟨b, off + i * 3 + 1, none⟩ = some (.int .i64 ts[i].2.1) ∧ w.cell? ⟨b, off + i * 3 + 2, none⟩ = some (.int .i64 ts[i].2.2) := by
  rcases h with rfl | ⟨b, off, ha, h⟩
  · simp at hp
  · exact ⟨b, off, ha, World.block_lt_of_cell? w _ (h 0 hp).1, h⟩

end Go.Proofs.Ytbndminegokffaa
