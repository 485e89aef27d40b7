/-
  Plain facts on records with lists that a call makes one by one: appended, copied. Nothing of the program stands here.
-/
import Derived.Test.YtiilgeoahpnkpaaNest
namespace Go.Proofs.Ytiilgeoahpnkpaa
open Go.RowKit

section
variable {β : Type} {k : Nat} {c : Value → β → List Value} {w w' : World} {ts : List (List Int × β)} {E EI : TypeId} {lo hi : Nat} {v : Value}
/-- Records of a call's own, to which one more is appended. -/
theorem OwN.grow (h : OwN lo hi E EI k c v ts w) (hlh : lo ≤ hi) :
    ∃ xs, w.ownsRow lo E k v ts.length xs ∧ ∀ (u : Value) (t : List Int × β) (w' : World) (g cap : Nat), w.ownsRow hi EI 1 u t.1.length (t.1.map (Value.int .i64)) → w'.ownsRow lo E k (.slice (some ⟨g, 0, none⟩) (ts.length + 1) cap) (ts.length + 1) (xs ++ c u t.2) → w.grownBy w' v.ownBlock →
      (v.ownBlock = some g ∨ g = w.heap.size) → g < w'.heap.size → hi ≤ w.heap.size → OwN lo w'.heap.size E EI k c (.slice (some ⟨g, 0, none⟩) (ts.length + 1) cap) (ts ++ [t]) w' := by
  obtain ⟨es, h1, h2, h3, h4⟩ := h
  have hle := nlen h1
  refine ⟨es.flatMap (ceN c), h2.1, fun u t w' g cap hu ho hg hat hlt hhi => ?_⟩
  have hin : ∀ i (h : i < es.length) p, es[i].1.ownBlock = some p → lo ≤ p ∧ p < hi := fun i hi p hp => (h3 i hi).2 p hp
  have hun : ∀ p, u.ownBlock = some p → hi ≤ p ∧ p < w.heap.size := fun p hp => hu.lt p hp
  have hvn : ∀ p, v.ownBlock = some p → lo ≤ p ∧ p < hi := h2.2
  have hget : ∀ q (hq : q < (es ++ [(u, t)]).length), (∃ hq' : q < es.length, (es ++ [(u, t)])[q] = es[q]) ∨ (q = es.length ∧ (es ++ [(u, t)])[q] = (u, t)) := by
    intro q hq
    by_cases hq' : q < es.length
    · exact .inl ⟨hq', List.getElem_append_left hq'⟩
    · have : q = es.length := by simp at hq; omega
      subst this
      refine .inr ⟨rfl, ?_⟩
      rw [List.getElem_append_right (by omega)]
      simp
  have hsz := hg.size
  refine ⟨es ++ [(u, t)], by simp [h1], ⟨?_, fun p hp => ?_⟩, fun q hq => ?_, fun q hq p hp => ⟨?_, fun j hj hne => ?_⟩⟩
  · have e : (es ++ [(u, t)]).flatMap (ceN c) = es.flatMap (ceN c) ++ c u t.2 := by simp [ceN]
    rw [e, List.length_append]
    exact ho
  · exact ⟨(ho.lt p hp).1, by simp [Value.ownBlock] at hp; omega⟩
  · rcases hget q hq with ⟨hq', hh⟩ | ⟨rfl, hh⟩
    · rw [hh]
      refine ⟨(h3 q hq').1.kept hg ?_, fun p hp => by have := hin q hq' p hp; omega⟩
      cases hb : es[q].1.ownBlock with
      | none => exact .inl rfl
      | some p => exact .inr (fun e => (h4 q hq' p hb).1 e.symm)
    · rw [hh]
      refine ⟨own_lo (hu.kept hg ?_) hlh, fun p hp => by have := hun p hp; omega⟩
      cases hb : u.ownBlock with
      | none => exact .inl rfl
      | some p => exact .inr (fun e => by have := hvn p e.symm; have := hun p hb; omega)
  · intro e
    have e' : g = p := by simpa [Value.ownBlock] using e
    subst e'
    rcases hget q hq with ⟨hq', hh⟩ | ⟨rfl, hh⟩
    · rw [hh] at hp
      rcases hat with hat | rfl
      · exact (h4 q hq' g hp).1 hat
      · have := hin q hq' _ hp; omega
    · rw [hh] at hp
      rcases hat with hat | rfl
      · have := hvn g hat; have := hun g hp; omega
      · have := hun _ hp; omega
  · rcases hget q hq with ⟨hq', hh⟩ | ⟨hqi, hh⟩ <;> rcases hget j hj with ⟨hj', hk⟩ | ⟨hji, hk⟩
    · rw [hh] at hp; rw [hk]; exact (h4 q hq' p hp).2 j hj' hne
    · rw [hh] at hp; rw [hk]
      intro e
      have := hin q hq' p hp; have := hun p e; omega
    · rw [hh] at hp; rw [hk]
      intro e
      have := hin j hj' p e; have := hun p hp; omega
    · exact absurd (hji.trans hqi.symm) hne
/-- The same where worlds lie between. -/
theorem OwN.grow2 {w2 : World} {n : Nat} (h : OwN lo w.heap.size E EI k c v ts w) (hlh : lo ≤ w.heap.size) (hn : ts.length = n) (hb : Below w.heap.size w w2) (u : Value) (t : List Int × β) (hu : w2.ownsRow w.heap.size EI 1 u t.1.length (t.1.map (Value.int .i64))) :
    ∃ xs, w2.ownsRow lo E k v n xs ∧ ∀ (g cap : Nat) (w' : World), w'.ownsRow lo E k (.slice (some ⟨g, 0, none⟩) (n + 1) cap) (n + 1) (xs ++ c u t.2) → w2.grownBy w' v.ownBlock →
      (v.ownBlock = some g ∨ g = w2.heap.size) → g < w'.heap.size → OwN lo w'.heap.size E EI k c (.slice (some ⟨g, 0, none⟩) (n + 1) cap) (ts ++ [t]) w' ∧ Below lo w w' := by
  subst hn
  obtain ⟨xs, hx, hnext⟩ := (h.below hb).grow hlh
  refine ⟨xs, hx, fun g cap w' ho hg hat hlt => ⟨hnext u t w' g cap hu ho hg hat hlt hb.size, ?_⟩⟩
  exact (hb.mono hlh).grown hg (Nat.le_trans hlh hb.size) (fun p hp => (h.bounds p hp).1)
theorem OwN.block (h : OwN lo hi E EI k c v ts w) (hne : 0 < ts.length) : ∃ g cap, v = .slice (some ⟨g, 0, none⟩) ts.length cap ∧ lo ≤ g ∧ g < hi := by
  have hb := h.bounds
  obtain ⟨es, h1, h2, h3, h4⟩ := h
  rcases h2.1.2 with ⟨hv, hz⟩ | ⟨g, cap, cur, hv, _⟩
  · omega
  · exact ⟨g, cap, hv, hb g (by rw [hv]; rfl)⟩
theorem OwN.made (w : World) (cur : Array Value) (hs : cur.size = 0) : OwN w.heap.size (w.alloc (.cells cur E)).heap.size E EI k c (.slice (some ⟨w.heap.size, 0, none⟩) 0 0) ([] : List (List Int × β)) (w.alloc (.cells cur E)) :=
  ⟨[], rfl, ⟨by simpa using World.ownsRow_made w cur 0 (Nat.le_refl _) (by unfold maxLen; omega) (by simpa using hs), fun p hp => by simp [Value.ownBlock] at hp; simp; omega⟩, fun i hi => by simp at hi, fun i hi => by simp at hi⟩
end
/-- A call hands back a list of its own. -/
def GivesO (EI : TypeId) (l : List Int) (n : Nat) (w : World) (e : Ending) (w' : World) : Prop := ∃ g cap, e = .returned (.slice (some ⟨g, 0, none⟩) n cap) ∧ Below w.heap.size w w' ∧ w'.ownsRow w.heap.size EI 1 (.slice (some ⟨g, 0, none⟩) n cap) n (l.map (Value.int .i64))
theorem own_block {w : World} {lo n : Nat} {e : TypeId} {size : Nat} {v : Value} {xs : List Value} (h : w.ownsRow lo e size v n xs) (hne : ¬ v = .slice none 0 0) : ∃ g cap, v = .slice (some ⟨g, 0, none⟩) n cap ∧ lo ≤ g := by
  rcases h.2 with ⟨hv, _⟩ | ⟨g, cap, cur, hv, hlo, _⟩
  · exact absurd hv hne
  · exact ⟨g, cap, hv, hlo⟩
theorem news_ints {w : World} {bb ob : Nat} {set : List Int} (h : ∀ i (h : i < set.length), w.cell? ⟨bb, ob + i, none⟩ = some (.int .i64 set[i])) : ∀ j u, (set.map (Value.int .i64))[j]? = some u → w.cell? ((⟨bb, ob, none⟩ : Addr).add j) = some u := by
  intro j u hu
  rw [Addr.add_lit]
  have hj : j < (set.map (Value.int .i64)).length := (List.getElem?_eq_some_iff.1 hu).1
  have hj' : j < set.length := by simpa using hj
  rw [h j hj', ← ints_cell set j hj', hu]
end Go.Proofs.Ytiilgeoahpnkpaa
