/-
  Whether ways fit: the value, and rows of ways. No walk stands here.
-/
import Derived.Test.YtenjigifjkfiaaaCheckWays
import Derived.Test.YtenjigifjkfiaaaClash
import Derived.Test.YtenjigifjkfiaaaInt64SNest
namespace Go.Proofs.Ytenjigifjkfiaaa
open Go.RowKit

theorem ret_bi {b : Bool} {c : Int} {r : Bool × Int} (h : r = (b, c)) : Ending.returned (.tuple #[.bool b, .int .i64 c]) = Ending.returned (.tuple #[.bool r.1, .int .i64 r.2]) := by subst h; rfl
def pairsB (s : Int) (ts : List T3) (L : List (List Int)) : Bool := decide (∀ i, i < L.length → ∀ k, k < i → firstC s ts (L.getD k []) (L.getD i []) < 0)
/-- What WaysFit returns. -/
def fitOf (s : Int) (ts : List T3) (L : List (List Int)) : Bool × Int :=
  if netB s ts = true then (if L.all (simpleB ts) = true then (if L.length ≤ 20 then (pairsB s ts L, 0) else (false, 2)) else (false, 2)) else (false, 1)
theorem fit_net {s : Int} {ts : List T3} {L : List (List Int)} (h : netB s ts = false) : fitOf s ts L = (false, 1) := by unfold fitOf; rw [h]; rfl
theorem fit_bad {s : Int} {ts : List T3} {L : List (List Int)} (h : netB s ts = true) (k : Nat) (hk : k < L.length) (h2 : simpleB ts L[k] = false) : fitOf s ts L = (false, 2) := by
  have : L.all (simpleB ts) = false := by
    rw [List.all_eq_false]
    exact ⟨L[k], List.getElem_mem hk, by simp [h2]⟩
  unfold fitOf; rw [h, this]; rfl
theorem fit_bad' {s : Int} {ts : List T3} {L : List (List Int)} (h : netB s ts = true) (h2 : L.all (simpleB ts) = false) : fitOf s ts L = (false, 2) := by
  unfold fitOf; rw [h, h2]; rfl
theorem fit_long {s : Int} {ts : List T3} {L : List (List Int)} (h : netB s ts = true) (h2 : 20 < L.length) : fitOf s ts L = (false, 2) := by
  unfold fitOf; rw [h, if_pos rfl, if_neg (show ¬ L.length ≤ 20 by omega)]; split <;> rfl
theorem all_simple {ts : List T3} {L : List (List Int)} (h : ∀ k (hk : k < L.length), simpleB ts L[k] = true) : L.all (simpleB ts) = true := by
  rw [List.all_eq_true]
  intro c hc
  obtain ⟨k, hk, rfl⟩ := List.getElem_of_mem hc
  exact h k hk
theorem fit_pairs {s : Int} {ts : List T3} {L : List (List Int)} (h : netB s ts = true) (h1 : L.all (simpleB ts) = true) (h2 : L.length ≤ 20) : fitOf s ts L = (pairsB s ts L, 0) := by
  unfold fitOf; rw [h, if_pos rfl, h1, if_pos rfl, if_pos h2]
theorem pairs_no {s : Int} {ts : List T3} {L : List (List Int)} (i k : Nat) (hi : i < L.length) (hk : k < i) (h : 0 ≤ firstC s ts (L.getD k []) (L.getD i [])) : pairsB s ts L = false := by
  unfold pairsB
  exact decide_eq_false (fun g => by have := g i hi k hk; omega)
theorem pairs_yes {s : Int} {ts : List T3} {L : List (List Int)} (h : ∀ i, i < L.length → ∀ k, k < i → firstC s ts (L.getD k []) (L.getD i []) < 0) : pairsB s ts L = true := by
  unfold pairsB
  exact decide_eq_true h
theorem firstFrom_ge (p : Int → Bool) (f : Nat) (i : Int) (hi : 0 ≤ i) : firstFrom p f i = -1 ∨ 0 ≤ firstFrom p f i := by
  induction f generalizing i with
  | zero => exact .inl rfl
  | succ f ih =>
    unfold firstFrom
    split
    · exact .inr hi
    · exact ih (i + 1) (by omega)
theorem firstC_ge (s : Int) (ts : List T3) (wa wb : List Int) : firstC s ts wa wb = -1 ∨ 0 ≤ firstC s ts wa wb := firstFrom_ge _ _ 0 (by omega)

/-- The ways of a row as rows of numbers. -/
def wayE (e : NE Unit) : WayV := match e.1 with | .slice a _ c => ((a, c), e.2.1) | _ => ((none, 0), e.2.1)
theorem ways_of {w : World} {a : Option Addr} {ts : List TInt64S} (h : RN 1048576 1 cInt64S w a ts) : ∃ ws : List WayV, ws.map (·.2) = ts.map (·.1) ∧ RWays w a ws := by
  obtain ⟨es, he, hr, hl⟩ := h
  subst he
  refine ⟨es.map wayE, ?_, ?_⟩
  · rw [List.map_map, List.map_map]
    refine List.map_congr_left fun e _ => ?_
    obtain ⟨v, l, u⟩ := e
    show (wayE (v, l, u)).2 = l
    unfold wayE; dsimp only; split <;> rfl
  · rcases Nat.eq_zero_or_pos es.length with h0 | hp
    · exact .inl (by rw [List.map_eq_nil_iff]; exact List.eq_nil_of_length_eq_zero h0)
    · obtain ⟨b, off, rfl, hlt, hc⟩ := hr.addr hp
      refine .inr ⟨b, off, rfl, hlt, fun i hi => ?_⟩
      have hi' : i < es.length := by simpa using hi
      obtain ⟨ai, ci, e1, e2, e3⟩ := hl i hi'
      have hx := hc i hi' 0 (es[i].1) (by unfold ceN cInt64S; rfl)
      rw [List.getElem_map]
      have hw : wayE es[i] = ((ai, ci), es[i].2.1) := by unfold wayE; rw [e1]
      rw [hw]
      rw [e1] at hx
      simp only [Nat.mul_one, Nat.add_zero] at hx
      exact ⟨hx, e2, e3⟩
theorem RWays.at_ {w : World} {a : Option Addr} {ws : List WayV} (h : RWays w a ws) (hp : 0 < ws.length) : ∃ b off, a = some ⟨b, off, none⟩ ∧ b < w.heap.size ∧ ∀ i (h : i < ws.length), w.cell? ⟨b, off + i, none⟩ = some (.slice ws[i].1.1 ws[i].2.length ws[i].1.2) ∧ RI w ws[i].1.1 ws[i].2 ∧ ws[i].2.length ≤ 1048576 := by
  rcases h with rfl | h
  · simp at hp
  · exact h
theorem getD_way (ws : List WayV) (i : Nat) (h : i < ws.length) : (ws.map (·.2)).getD i [] = ws[i].2 := by
  rw [List.getD_eq_getElem?_getD, List.getElem?_map, List.getElem?_eq_getElem h]; rfl
theorem map_way_get (ws : List WayV) (i : Nat) (h : i < (ws.map (·.2)).length) : (ws.map (·.2))[i] = (ws[i]'(by simpa using h)).2 := by simp
end Go.Proofs.Ytenjigifjkfiaaa
