/-
  Moves: when they are between stations; the walks of one move in a stock of one's own, the model's and the program's.
-/
import Derived.Test.YtabopjdcpllocaaStock
import Derived.Test.YtabopjdcpllocaaMoveRec
import Derived.Test.YtabopjdcpllocaaCopies
import Derived.StillTailTactics
namespace Go.Proofs.Ytabopjdcpllocaa
open Go.RowKit

def mvB (m : Int) (t : TMove) : Bool := inB t.1 0 (m - 1) && inB t.2.1 0 (m - 1) && (t.1 != t.2.1) && inB t.2.2 1 200
theorem mvB_of {m : Int} {t : TMove} (h : mvB m t = true) : 0 ≤ t.1 ∧ t.1 < m ∧ 0 ≤ t.2.1 ∧ t.2.1 < m ∧ ¬ t.1 = t.2.1 ∧ 1 ≤ t.2.2 ∧ t.2.2 ≤ 200 := by
  unfold mvB at h
  rw [Bool.and_eq_true, Bool.and_eq_true, Bool.and_eq_true] at h
  obtain ⟨⟨⟨h1, h2⟩, h3⟩, h4⟩ := h
  have h1 := inB_of h1
  have h2 := inB_of h2
  have h4 := inB_of h4
  rw [bne_iff_ne] at h3
  omega

set_option maxHeartbeats 2000000 in
theorem l07Move_any (pb po : Nat) (m : Nat) (t : TMove) (w : World) (hmax : m ≤ 1048576) (p0 : w.cell? ⟨pb, po, none⟩ = some (.int .i64 t.1)) (p1 : w.cell? ⟨pb, po + 1, none⟩ = some (.int .i64 t.2.1)) (p2 : w.cell? ⟨pb, po + 2, none⟩ = some (.int .i64 t.2.2)) :
    Calls Try.prog 58 #[.int .i64 m, .pointer (some ⟨pb, po, none⟩)] w fun e w' => e = .returned (.bool (mvB m t)) ∧ Below w.heap.size w w' := by
  obtain ⟨t1, t2, t3⟩ := t
  dsimp only at p0 p1 p2
  have HF1 := fun W => l00In_any t1 0 ((m : Int) - 1) W
  have HF2 := fun W => l00In_any t2 0 ((m : Int) - 1) W
  have HF3 := fun W => l00In_any t3 1 200 W
  have HB : Hid (Below w.heap.size w w) := Below.refl _ _
  have hw : IntKind.i64.wrap ((m : Int) - 1) = (m : Int) - 1 := IntWalk.i64_in _ (by omega)
  cases h1 : inB t1 0 ((m : Int) - 1) with
  | false =>
    have HR : Hid (mvB m (t1, t2, t3) = false) := by unfold Hid mvB; rw [h1]; rfl
    rw [h1] at HF1
    clear h1
    go_enter Try.func58, Try.ntmps58
    go_wp2_with fail
    go_quiet (first | (go_at_call 40; with_reducible refine Calls.mono (HF1 _) ?_; rintro e w1 ⟨rfl, rfl⟩; exact ⟨rfl, _, rfl⟩))
    go_wp2
    go_ret
    exact ⟨ret_bool HR.out.symm, Below.drewN' HB.out _⟩
  | true =>
    rw [h1] at HF1
    cases h2 : inB t2 0 ((m : Int) - 1) with
    | false =>
      have HR : Hid (mvB m (t1, t2, t3) = false) := by unfold Hid mvB; rw [h1, h2]; rfl
      rw [h2] at HF2
      clear h1 h2
      go_enter Try.func58, Try.ntmps58
      go_wp2_with fail
      go_quiet (first | (go_at_call 40; with_reducible refine Calls.mono (HF1 _) ?_; rintro e w1 ⟨rfl, rfl⟩; exact ⟨rfl, _, rfl⟩) | (go_at_call 40; with_reducible refine Calls.mono (HF2 _) ?_; rintro e w1 ⟨rfl, rfl⟩; exact ⟨rfl, _, rfl⟩))
      go_wp2
      go_ret
      exact ⟨ret_bool HR.out.symm, Below.drewN' HB.out _⟩
    | true =>
      rw [h2] at HF2
      rcases eq_ways t1 t2 with ⟨⟨e1, e2⟩, e3⟩ | ⟨⟨e1, e2⟩, e3⟩
      · have HR : Hid (mvB m (t1, t2, t3) = false) := by unfold Hid mvB; rw [h1, h2]; dsimp only; rw [e2]; rfl
        clear h1 h2 e3
        go_enter Try.func58, Try.ntmps58
        go_wp2_with fail
        go_quiet (first | (go_at_call 40; with_reducible refine Calls.mono (HF1 _) ?_; rintro e w1 ⟨rfl, rfl⟩; exact ⟨rfl, _, rfl⟩) | (go_at_call 40; with_reducible refine Calls.mono (HF2 _) ?_; rintro e w1 ⟨rfl, rfl⟩; exact ⟨rfl, _, rfl⟩))
        go_wp2
        go_ret
        exact ⟨ret_bool HR.out.symm, Below.drewN' HB.out _⟩
      · have HR : Hid (mvB m (t1, t2, t3) = inB t3 1 200) := by unfold Hid mvB; rw [h1, h2]; dsimp only; rw [e2]; rfl
        clear h1 h2 e3
        go_enter Try.func58, Try.ntmps58
        go_wp2_with fail
        go_quiet (first | (go_at_call 40; with_reducible refine Calls.mono (HF1 _) ?_; rintro e w1 ⟨rfl, rfl⟩; exact ⟨rfl, _, rfl⟩) | (go_at_call 40; with_reducible refine Calls.mono (HF2 _) ?_; rintro e w1 ⟨rfl, rfl⟩; exact ⟨rfl, _, rfl⟩) | (go_at_call 40; with_reducible refine Calls.mono (HF3 _) ?_; rintro e w1 ⟨rfl, rfl⟩; exact ⟨rfl, _, rfl⟩))
        go_wp2
        go_ret
        exact ⟨ret_bool HR.out.symm, Below.drewN' HB.out _⟩

set_option maxHeartbeats 2000000 in
theorem isBetween_any (m : Nat) (t : TMove) (w : World) (hmax : m ≤ 1048576) :
    Calls Try.prog 71 #[.agg #[.int .i64 t.1, .int .i64 t.2.1, .int .i64 t.2.2], .int .i64 m] w fun e w' => e = .returned (.bool (mvB m t)) ∧ Below w.heap.size w w' := by
  obtain ⟨t1, t2, t3⟩ := t
  dsimp only
  have HF1 := fun W => isWithin_any t1 0 ((m : Int) - 1) W
  have HF2 := fun W => isWithin_any t2 0 ((m : Int) - 1) W
  have HF3 := fun W => isWithin_any t3 1 200 W
  cases h1 : inB t1 0 ((m : Int) - 1) with
  | false =>
    have HR : Hid (mvB m (t1, t2, t3) = false) := by unfold Hid mvB; rw [h1]; rfl
    rw [h1] at HF1
    clear h1
    go_enter Try.func71, Try.ntmps71
    go_wp2_with (first | (go_at_call 38; with_reducible refine Calls.mono (HF1 _) ?_; rintro e w1 ⟨rfl, rfl⟩))
    go_ret
    exact ⟨ret_bool HR.out.symm, (by repeat (first | exact Below.refl _ _ | refine Below.alloc ?_ (by simp; try omega) _ | refine Below.setCell ?_ (by simp; try omega) _))⟩
  | true =>
    rw [h1] at HF1
    cases h2 : inB t2 0 ((m : Int) - 1) with
    | false =>
      have HR : Hid (mvB m (t1, t2, t3) = false) := by unfold Hid mvB; rw [h1, h2]; rfl
      rw [h2] at HF2
      clear h1 h2
      go_enter Try.func71, Try.ntmps71
      go_wp2_with (first | (go_at_call 38; with_reducible refine Calls.mono (HF1 _) ?_; rintro e w1 ⟨rfl, rfl⟩) | (go_at_call 38; with_reducible refine Calls.mono (HF2 _) ?_; rintro e w1 ⟨rfl, rfl⟩))
      go_ret
      exact ⟨ret_bool HR.out.symm, (by repeat (first | exact Below.refl _ _ | refine Below.alloc ?_ (by simp; try omega) _ | refine Below.setCell ?_ (by simp; try omega) _))⟩
    | true =>
      rw [h2] at HF2
      rcases eq_ways t1 t2 with ⟨⟨e1, e2⟩, e3⟩ | ⟨⟨e1, e2⟩, e3⟩
      · have HR : Hid (mvB m (t1, t2, t3) = false) := by unfold Hid mvB; rw [h1, h2]; dsimp only; rw [e2]; rfl
        clear h1 h2 e3
        go_enter Try.func71, Try.ntmps71
        go_wp2_with (first | (go_at_call 38; with_reducible refine Calls.mono (HF1 _) ?_; rintro e w1 ⟨rfl, rfl⟩) | (go_at_call 38; with_reducible refine Calls.mono (HF2 _) ?_; rintro e w1 ⟨rfl, rfl⟩))
        go_ret
        exact ⟨ret_bool HR.out.symm, (by repeat (first | exact Below.refl _ _ | refine Below.alloc ?_ (by simp; try omega) _ | refine Below.setCell ?_ (by simp; try omega) _))⟩
      · have HR : Hid (mvB m (t1, t2, t3) = inB t3 1 200) := by unfold Hid mvB; rw [h1, h2]; dsimp only; rw [e2]; rfl
        clear h1 h2 e3
        go_enter Try.func71, Try.ntmps71
        go_wp2_with (first | (go_at_call 38; with_reducible refine Calls.mono (HF1 _) ?_; rintro e w1 ⟨rfl, rfl⟩) | (go_at_call 38; with_reducible refine Calls.mono (HF2 _) ?_; rintro e w1 ⟨rfl, rfl⟩) | (go_at_call 38; with_reducible refine Calls.mono (HF3 _) ?_; rintro e w1 ⟨rfl, rfl⟩))
        go_ret
        exact ⟨ret_bool HR.out.symm, (by repeat (first | exact Below.refl _ _ | refine Below.alloc ?_ (by simp; try omega) _ | refine Below.setCell ?_ (by simp; try omega) _))⟩

/-- The numbers behind a move of x from the station f to the station t. -/
def movL (l : List Int) (f t : Nat) (x : Int) : List Int := (l.set f (l.getD f 0 - x)).set t (l.getD t 0 + x)
theorem movL_len (l : List Int) (f t : Nat) (x : Int) : (movL l f t x).length = l.length := by simp [movL]
theorem getD_at {l : List Int} {i : Nat} (h : i < l.length) : l.getD i 0 = l[i] := by rw [List.getD_eq_getElem?_getD, List.getElem?_eq_getElem h]; rfl
theorem movL_get {l : List Int} {f t : Nat} {x : Int} (hf : f < l.length) (ht : t < l.length) (i : Nat) (hi : i < (movL l f t x).length) :
    (movL l f t x)[i] = if t = i then l[t] + x else if f = i then l[f] - x else l[i]'(by rw [movL_len] at hi; exact hi) := by
  simp only [movL, List.getElem_set, getD_at hf, getD_at ht]
/-- Numbers that do not come near the ends of int64. -/
def tameL (l : List Int) : Prop := ∀ i (h : i < l.length), -1000000 ≤ l[i] ∧ l[i] ≤ 1000000
abbrev OwnL (lo g n cap : Nat) (l : List Int) (w : World) : Prop := w.ownsRow lo 2 1 (.slice (some ⟨g, 0, none⟩) n cap) n (l.map (Value.int .i64))
theorem OwnL.cell {lo g n cap : Nat} {l : List Int} {w : World} (h : OwnL lo g n cap l w) (i : Nat) (hi : i < l.length) : w.cell? ⟨g, i, none⟩ = some (.int .i64 l[i]) := ownsRow_cell h i _ (ints_cell l i hi)
theorem OwnL.store {lo g n cap : Nat} {l : List Int} {w : World} (h : OwnL lo g n cap l w) (i : Nat) (x : Int) : OwnL lo g n cap (l.set i x) (w.setCell ⟨g, i, none⟩ (.int .i64 x)) := by
  have h2 := ownsRow_set h i (.int .i64 x)
  rw [← List.map_set] at h2
  exact h2
theorem OwnL.drew {lo g n cap : Nat} {l : List Int} {w : World} (h : OwnL lo g n cap l w) : OwnL lo g n cap l w.drew := h
theorem OwnL.drewN {lo g n cap : Nat} {l : List Int} {w : World} (h : OwnL lo g n cap l w) (q : Nat) : OwnL lo g n cap l (w.drewN q) := h
theorem OwnL.alloc {lo g n cap : Nat} {l : List Int} {w : World} (h : OwnL lo g n cap l w) (o : Obj) : OwnL lo g n cap l (w.alloc o) := World.ownsRow.alloc h o
end Go.Proofs.Ytabopjdcpllocaa
