/-
  A map from each zone to its changes, each history a row of the call's own. Nothing of the program stands here but the type of a change.
-/
import Derived.Test.YtghpefdleiebmaaHeldMap
import Derived.Test.YtghpefdleiebmaaZMath
import Derived.Test.YtghpefdleiebmaaChangeRec
namespace Go.Proofs.Ytghpefdleiebmaa
open Go.RowKit Go.Maps Go.ChangeShapes

def HistV (V : Int → Value) (b : Nat) (cs : List C3) (w : World) : Prop :=
  (∀ i, w.ownsRow (b + 1) 53 3 (V i) (hisL cs i).length ((hisL cs i).flatMap cChange)) ∧ ∀ i j, ¬ i = j → ∀ p, (V i).ownBlock = some p → (V j).ownBlock ≠ some p
def Hist (V : Int → Value) (b n : Nat) (cs : List C3) (w : World) : Prop :=
  HeldMap Try.prog 2 (.slice none 0 0) b n V w ∧ HistV V b cs w
section
variable {V : Int → Value} {b n : Nat} {cs cs' : List C3} {w w1 w2 : World}
theorem HistV.below (h : HistV V b cs w) (hb : Below w.heap.size w w1) : HistV V b cs w1 :=
  ⟨fun i => (h.1 i).kept (grown_below hb none) (by cases (V i).ownBlock <;> simp), h.2⟩
theorem Hist.below (h : Hist V b n cs w) (hb : Below w.heap.size w w1) : Hist V b n cs w1 := ⟨h.1.below hb, h.2.below hb⟩
theorem Hist.zero (h : HeldMap Try.prog 2 (.slice none 0 0) b n (fun _ => .slice none 0 0) w) : Hist (fun _ => .slice none 0 0) b n [] w :=
  ⟨h, fun _ => ⟨rfl, .inl ⟨rfl, rfl⟩⟩, fun _ _ _ p hp => by simp [Value.ownBlock] at hp⟩
theorem HistV.step {z : Int} {v' : Value} {c : C3} (h : HistV V b cs w) (hg : w.grownBy w1 (V z).ownBlock) (ho : w1.ownsRow (b + 1) 53 3 v' ((hisL cs z).length + 1) ((hisL cs z).flatMap cChange ++ cChange c))
    (hloc : v'.ownBlock = (V z).ownBlock ∨ ∃ g, v'.ownBlock = some g ∧ w.heap.size ≤ g) (hg2 : w1.grownBy w2 (some b)) (hcs : hisL cs' z = hisL cs z ++ [c]) (hcs' : ∀ i, ¬ i = z → hisL cs' i = hisL cs i) :
    HistV (fun j => if j = z then v' else V j) b cs' w2 := by
  have hab : ∀ {u : Value} {m : Nat} {xs : List Value} {W : World}, W.ownsRow (b + 1) 53 3 u m xs → u.ownBlock = none ∨ u.ownBlock ≠ some b := by
    intro u m xs W hu
    cases hq : u.ownBlock with
    | none => exact .inl rfl
    | some g => refine .inr (fun e => ?_); have := (hu.lt g hq).1; injection e with e; omega
  refine ⟨fun i => ?_, fun i j hij p hp => ?_⟩
  · dsimp only
    by_cases e : i = z
    · subst e
      rw [if_pos rfl, hcs, List.length_append, List.flatMap_append]
      simp only [List.length_cons, List.length_nil, List.flatMap_cons, List.flatMap_nil, List.append_nil]
      exact ho.kept hg2 (hab ho)
    · rw [if_neg e, hcs' i e]
      have h1 : (V i).ownBlock = none ∨ (V i).ownBlock ≠ (V z).ownBlock := by
        cases hq : (V i).ownBlock with
        | none => exact .inl rfl
        | some p => exact .inr (fun e2 => h.2 i z e p hq e2.symm)
      have h2 := (h.1 i).kept hg h1
      exact h2.kept hg2 (hab h2)
  · dsimp only at hp ⊢
    have far : ∀ q j, ¬ j = z → v'.ownBlock = some q → (V j).ownBlock ≠ some q := by
      intro q j hj hq hjq
      rcases hloc with h1 | ⟨g, h1, h2⟩
      · exact h.2 j z hj q hjq (h1 ▸ hq)
      · rw [h1] at hq
        injection hq with hq
        have := ((h.1 j).lt q hjq).2
        omega
    by_cases e : i = z
    · have ej : ¬ j = z := fun e2 => hij (e.trans e2.symm)
      rw [if_pos e] at hp
      rw [if_neg ej]
      exact far p j ej hp
    · rw [if_neg e] at hp
      by_cases ej : j = z
      · rw [if_pos ej]
        exact fun hq => far p i e hq hp
      · rw [if_neg ej]
        exact h.2 i j hij p hp
/-- What a look-up hands back reads as the zone's changes. -/
theorem HistV.shape (h : HistV V b cs w) (i : Int) : ∃ a cap, V i = .slice a (hisL cs i).length cap ∧ RR 3 cChange w a (hisL cs i) := by
  have h1 := h.1 i
  rcases h1.2 with ⟨hv, hn⟩ | ⟨g, cap, cur, hv, _⟩
  · exact ⟨none, 0, by rw [hv, hn], .inl (List.eq_nil_of_length_eq_zero hn)⟩
  · rw [hv] at h1
    exact ⟨_, cap, hv, own_RR cChange_len (Lib.hid rfl) h1⟩
end
end Go.Proofs.Ytghpefdleiebmaa
