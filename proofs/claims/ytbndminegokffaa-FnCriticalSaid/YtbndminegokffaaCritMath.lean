/-
  Critical tubes: plain facts on lists for the law of the chapter.
-/
import Derived.Test.YtbndminegokffaaCritical
import Derived.Test.YtbndminegokffaaA2List
namespace Go.Proofs.Ytbndminegokffaa
open Go.RowKit

theorem critK_mem {ts : List T3} {S n : Nat} (k : Nat) : (k : Int) ∈ critK ts S n ↔ k < n ∧ strongB ts (k : Int) S = false := by
  unfold critK
  rw [List.mem_map]
  constructor
  · rintro ⟨j, hj, e⟩
    obtain ⟨h1, h2⟩ := List.mem_filter.1 hj
    have : j = k := by omega
    subst this
    exact ⟨List.mem_range.1 h1, by simpa using h2⟩
  · rintro ⟨h1, h2⟩
    exact ⟨k, List.mem_filter.2 ⟨List.mem_range.2 h1, by simp [h2]⟩, rfl⟩
theorem critK_has {ts : List T3} {S n : Nat} (k : Nat) (hk : k < n) : hasB (critK ts S n) (k : Int) = !strongB ts (k : Int) S := by
  unfold hasB
  cases h : strongB ts (k : Int) S with
  | true => exact decide_eq_false (fun hm => by have := (critK_mem k).1 hm; rw [h] at this; cases this.2)
  | false => exact decide_eq_true ((critK_mem k).2 ⟨hk, h⟩)
theorem critK_rises (ts : List T3) (S n : Nat) : Rises (critK ts S n) (n : Int) := by
  have hp : (critK ts S n).Pairwise (· < ·) := by
    unfold critK
    refine List.Pairwise.map (fun i : Nat => (i : Int)) (R := (· < ·)) (fun a b hab => by omega) ?_
    exact List.Pairwise.filter _ List.pairwise_lt_range
  refine ⟨fun k hk => ?_, fun k hk => List.pairwise_iff_getElem.1 hp k (k + 1) (by omega) hk (by omega)⟩
  have hm := List.getElem_mem hk
  generalize (critK ts S n)[k] = x at hm ⊢
  unfold critK at hm
  rw [List.mem_map] at hm
  obtain ⟨j, hj, rfl⟩ := hm
  have := List.mem_range.1 (List.mem_filter.1 hj).1
  omega
/-- With another tube. -/
theorem ed_more {ts : List T3} {t : T3} {u v : Nat} (wo : Int) (hwo : ∀ i : Nat, i < ts.length → ¬ (i : Int) = wo) (h : Ed ts (-1) u v) : Ed (ts ++ [t]) wo u v := by
  obtain ⟨i, hi, _, h1, h2⟩ := h
  have e : (ts ++ [t])[i]'(by simp; omega) = ts[i] := List.getElem_append_left hi
  exact ⟨i, by simp; omega, hwo i hi, by rw [e]; exact h1, by rw [e]; exact h2⟩
theorem nats_more {ts : List T3} {t : T3} {S : Nat} (h : netB (S : Int) (ts ++ [t]) = true) : Nats (ts ++ [t]) S := nats_of h
theorem net_more {S : Nat} {ts : List T3} {t : T3} (h : netB (S : Int) ts = true) (ht : tubeB (S : Int) t = true) (hl : ts.length < 24) : netB (S : Int) (ts ++ [t]) = true := by
  obtain ⟨h2, h10, h24, hall⟩ := netB_parts h
  unfold netB
  simp only [Bool.and_eq_true, decide_eq_true_eq, List.all_eq_true]
  refine ⟨⟨h2, h10, by simp; omega⟩, fun z hz => ?_⟩
  rcases List.mem_append.1 hz with hz | hz
  · exact hall z hz
  · rw [List.mem_singleton] at hz; subst hz; exact ht
theorem strong_more {S : Nat} {ts : List T3} {t : T3} (h : netB (S : Int) ts = true) (ht : tubeB (S : Int) t = true) (hl : ts.length < 24) (hs : strongB ts (-1) S = true) : strongB (ts ++ [t]) (-1) S = true ∧ strongB (ts ++ [t]) (ts.length : Int) S = true := by
  have hN := nats_of h
  have hN2 := nats_of (net_more h ht hl)
  have h0 := (strong_iff hN).1 hs
  constructor
  · exact (strong_iff hN2).2 fun to v a b => rch_mono (fun u v he => ed_more (-1) (fun i hi => by omega) he) (h0 to v a b)
  · exact (strong_iff hN2).2 fun to v a b => rch_mono (fun u v he => ed_more (ts.length : Int) (fun i hi => by omega) he) (h0 to v a b)
theorem crit_more {S n : Nat} {ts : List T3} {t : T3} (hn : ts.length = n) (h : netB (S : Int) ts = true) (ht : tubeB (S : Int) t = true) (hl : n < 24) (hs : strongB ts (-1) S = true) : critOf (S : Int) (ts ++ [t]) = (critK (ts ++ [t]) S (n + 1), 0) ∧ hasB (critK (ts ++ [t]) S (n + 1)) (n : Int) = false := by
  obtain ⟨s1, s2⟩ := strong_more h ht (by omega) hs
  refine ⟨critOf_good (net_more h ht (by omega)) s1 (by simp; omega), ?_⟩
  rw [critK_has n (by omega), ← hn, s2]
  rfl
theorem tube_new {S : Nat} (hS : 2 ≤ S) (v : Int) (h0 : 0 ≤ v) (h1 : v ≤ 199) : tubeB (S : Int) (0, 1, 1 + v) = true := decide_eq_true (by simp only; omega)
theorem rowO_RT {w : World} {lo m c : Nat} {a : Option Addr} {e : TypeId} {ts : List T3} (hn : Hid (ts.length = m)) (h : w.ownsRow lo e 3 (.slice a m c) m (flat ts)) : RT w a ts := by
  have := hn.out
  subst this
  obtain ⟨a', cap, hv, hr⟩ := own_RT h
  injection hv with h1 h2 h3
  rw [h1]
  exact hr
/-- A block of memory. -/
def Blk (w : World) (k : Nat) (o : Obj) : Prop := w.heap[k]? = some o
end Go.Proofs.Ytbndminegokffaa
