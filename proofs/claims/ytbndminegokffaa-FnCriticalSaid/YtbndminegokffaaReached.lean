/-
  ReachedFrom: the program's walk.
-/
import Derived.Test.YtbndminegokffaaDfs
import Derived.Test.YtbndminegokffaaReachSpec
import Derived.Laws.EntriesVeiled
namespace Go.Proofs.Ytbndminegokffaa
open Go.RowKit Go.Maps

/-- The stations that st reaches, in memory of their own. -/
def GivesReach (ts : List T3) (S st : Nat) (w : World) (e : Ending) (w' : World) : Prop :=
  ∃ g m cap, e = .returned (.slice (some ⟨g, 0, none⟩) m cap) ∧ Below w.heap.size w w' ∧ (reachK ts S st S).length = m ∧ w'.ownsRow w.heap.size 2 1 (.slice (some ⟨g, 0, none⟩) m cap) m ((reachK ts S st S).map (Value.int .i64))
theorem reach_row {w2 W : World} {K b bn v : Nat} {r : List Nat} (h : Dfs w2 K b bn r W) (hv : v ∈ r) : ∃ g m cap, r.length = m ∧ W.heap[K + 3]? = some (.cells #[.slice (some ⟨g, 0, none⟩) m cap] 28 (0, 0)) ∧ W.ownsRow (K + 5) 2 1 (.slice (some ⟨g, 0, none⟩) m cap) m ((rI r).map (Value.int .i64)) := by
  obtain ⟨ao, cap, h1, h2⟩ := h.hR
  rcases h2.2 with ⟨_, h0⟩ | ⟨g, cap', _, hv2, _⟩
  · have := List.length_pos_of_mem hv; omega
  · injection hv2 with e1 e2 e3
    subst e1
    exact ⟨g, r.length, cap, rfl, h1, h2⟩
set_option maxRecDepth 20000 in
set_option maxHeartbeats 4000000 in
theorem reachedFrom_any (S st : Nat) (a : Option Addr) (ts : List T3) (n ca : Nat) (w : World) (hn : Hid (ts.length = n)) (ha : RT w a ts) (hnet : netB (S : Int) ts = true) (hst : st < S) :
    Calls Try.prog 25 #[.agg #[.int .i64 (S : Int), .slice a n ca], .int .i64 (st : Int)] w (GivesReach ts S st w) := by
  obtain ⟨hs2, hs10, hn24, _⟩ := netB_parts hnet
  have HA : Hid (∀ w', Below w.heap.size w w' → RT w' a ts) := fun w' h => ha.below h
  have HN := Lib.hid hnet
  clear ha hnet
  have hmm := @run_makeMap Try.prog
  go_enter Try.func25, Try.ntmps25
  go_wp2_with fail
  refine (tubesByFrom_any (S : Int) a ts n ca _ hn (HA.out _ (by repeat (first | exact Below.refl _ _ | refine Below.alloc ?_ (by simp; try omega) _ | refine Below.setCell ?_ (by simp; try omega) _))) HN.out).mono ?_
  rintro e w1 ⟨b, rfl, hg, hb1, hbs⟩
  have q1 := (hb1.cell (p := ⟨w.heap.size, 1, none⟩) (by simp)).trans (by simp [go_sem] : _ = some (.slice a n ca))
  have B1 := Lib.hid (Below.trans (show Below w.heap.size w (w.alloc (.cells #[.int .i64 (S : Int), .slice a n ca] 26)) from (by repeat (first | exact Below.refl _ _ | refine Below.alloc ?_ (by simp; try omega) _ | refine Below.setCell ?_ (by simp; try omega) _))) (hb1.mono (by simp)))
  have HG := Lib.hid hg
  have Q1 := Lib.hid q1
  clear hb1 hg q1
  obtain ⟨K, hK⟩ : ∃ K, w1.heap.size = K := ⟨_, rfl⟩
  obtain ⟨W0, hW0⟩ : ∃ W, ((((w1.alloc (.cells #[.map (some b)] 62)).alloc (.map #[] 0)).alloc (.cells #[.map (some (K + 1))] 64)).alloc (.cells #[.slice none 0 0] 28)).alloc (.cells #[.nilFunc] 65) = W := ⟨_, rfl⟩
  have hwl : w.heap.size < w1.heap.size := by have := B1.out.size; have := World.block_lt_of_cell? w1 _ Q1.out; simpa using this
  have hB0 : Below K w1 W0 := by rw [← hW0]; rw [← hK]; exact (by repeat (first | exact Below.refl _ _ | refine Below.alloc ?_ (by simp; try omega) _ | refine Below.setCell ?_ (by simp; try omega) _))
  have hz0 : W0.heap.size = K + 5 := by rw [← hW0, ← hK]; simp
  have hT0 : W0.heap[K]? = some (.cells #[.map (some b)] 62 (0, 0)) := by
    rw [← hW0, ← hK, heap_alloc_old _ _ (by first | (simp; done) | (simp; omega)), heap_alloc_old _ _ (by first | (simp; done) | (simp; omega)), heap_alloc_old _ _ (by first | (simp; done) | (simp; omega)), heap_alloc_old _ _ (by first | (simp; done) | (simp; omega))]
    exact heap_alloc_new w1 _
  have hM0 : W0.heap[K + 1]? = some (.map #[] 0) := by
    rw [← hW0, ← hK, heap_alloc_old _ _ (by first | (simp; done) | (simp; omega)), heap_alloc_old _ _ (by first | (simp; done) | (simp; omega)), heap_alloc_old _ _ (by first | (simp; done) | (simp; omega))]
    exact heap_alloc_at _ _ _ (by simp)
  have hS0 : W0.heap[K + 2]? = some (.cells #[.map (some (K + 1))] 64 (0, 0)) := by
    rw [← hW0, ← hK, heap_alloc_old _ _ (by first | (simp; done) | (simp; omega)), heap_alloc_old _ _ (by first | (simp; done) | (simp; omega))]
    exact heap_alloc_at _ _ _ (by simp)
  have hR0 : W0.heap[K + 3]? = some (.cells #[.slice none 0 0] 28 (0, 0)) := by
    rw [← hW0, ← hK, heap_alloc_old _ _ (by first | (simp; done) | (simp; omega))]
    exact heap_alloc_at _ _ _ (by simp)
  have hV0 : W0.heap[K + 4]? = some (.cells #[.nilFunc] 65 (0, 0)) := by
    rw [← hW0, ← hK]
    exact heap_alloc_at _ _ _ (by simp)
  have c8 : W0.cell? ⟨K + 1 + 1 + 1 + 1, 0, none⟩ = some .nilFunc := cell_of hV0
  have z8 : W0.frozen? ⟨K + 1 + 1 + 1 + 1, 0, none⟩ = false := frozen_of_row W0 (K + 4) 0 _ _ hV0
  go_upto_region 5 with fail
  clear hW0 hmm
  have HD0 : Dfs w1 K b w.heap.size [] (W0.setCell ⟨K + 1 + 1 + 1 + 1, 0, none⟩ (.func (.func 33) #[] #[.pointer (some ⟨K + 2, 0, none⟩), .pointer (some ⟨K + 3, 0, none⟩), .pointer (some ⟨K, 0, none⟩), .pointer (some ⟨K + 4, 0, none⟩), .pointer (some ⟨w.heap.size, 0, none⟩)])) := by
    have other : ∀ k u, k ≠ K + 4 → (W0.setCell ⟨K + 1 + 1 + 1 + 1, 0, none⟩ u).heap[k]? = W0.heap[k]? := fun k u hk => heap_setCell_other _ _ _ _ (fun e => hk e)
    refine ⟨hB0.setCell (by show K ≤ K + 4; omega) _, by simp; omega, (other K _ (by omega)).trans hT0, (other (K + 2) _ (by omega)).trans hS0, ?_, ⟨none, 0, (other (K + 3) _ (by omega)).trans hR0, World.ownsRow_nil _ _ _ _⟩, ?_⟩
    · refine (heap_setCell_same W0 (K + 4) 0 _ _ _ hV0).trans ?_
      simp
    · refine SeenMap.kept (W := W0) ?_ (grown_set (k := K + 4) _) (by intro e; injection e with e; omega)
      refine ⟨.map [], ?_, fun v => by simp [DataW.atKey]⟩
      exact ⟨#[], 0, hM0, ⟨by simp, Go.MapKept.stamped_empty 0, by simp⟩, Nat.le_refl _, rfl⟩
  have VIS := visit_any S n ca w.heap.size b a ts w1 hn (HA.out _ B1.out) HN.out Q1.out HG.out S [] st _ (by simp) (by simp) (by simp) hst (by rw [hK]; exact HD0)
  rw [hK] at VIS
  have HVIS := Lib.hid VIS
  clear VIS HD0 hB0 hT0 hM0 hS0 hR0 hV0 hz0
  have NAT := Lib.hid (nats_of HN.out)
  have hBK : w.heap.size ≤ K := by omega
  go_wp2_with (first | (go_at_call 33; refine HVIS.out.mono ?_; rintro e w3 ⟨rfl, r', hvis, hdfs⟩; obtain ⟨g, m, cap, hm, hR3, hO3⟩ := reach_row hdfs hvis.has; have c9 : w3.cell? ⟨K + 1 + 1 + 1, 0, none⟩ = some (.slice (some ⟨g, 0, none⟩) m cap) := cell_of hR3) | (go_at_call 34; refine (sortInts_any g m cap (K + 5) (rI r') w3 (by simpa [rI] using hm) (by have := vis_len hvis; omega) hO3).mono ?_; rintro e w4 ⟨rfl, hgr4, ho4⟩; have c10 : w4.cell? ⟨K + 1 + 1 + 1, 0, none⟩ = some (.slice (some ⟨g, 0, none⟩) m cap) := cell_of ((hgr4.block (K + 3) (by have := hdfs.size; omega) (by intro e; injection e with e; have := own_ge hO3; omega)).trans hR3)))
  go_ret
  have e0 := dfs_end NAT.out hvis
  refine ⟨g, m, cap, rfl, ?_, ?_, ?_⟩
  · exact (B1.out.trans (hdfs.below.mono hBK)).grown hgr4 (by have := hdfs.size; omega) (fun q hq => by injection hq with hq; have := own_ge hO3; omega)
  · have := congrArg List.length e0
    rw [sortI_len] at this
    simp at this
    omega
  · have := own_lo ho4 (show w.heap.size ≤ K + 5 by omega)
    rwa [show sortI (rI r') = reachK ts S st S from e0] at this
end Go.Proofs.Ytbndminegokffaa
