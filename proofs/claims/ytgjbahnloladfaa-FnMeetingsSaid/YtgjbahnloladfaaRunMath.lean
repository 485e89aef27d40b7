/-
  Ticks of runs: when a run enters and leaves the tubes of its way. Plain facts.
-/
import Derived.Test.YtgjbahnloladfaaRunOk
namespace Go.Proofs.Ytgjbahnloladfaa
open Go.RowKit

def tm (l : List Int) (x : Int) : Int := l.getD x.toNat 0
def tickAt (l way : List Int) (s : Int) (i : Nat) : Int := s + ((way.take i).map (tm l)).sum
theorem tickAt_zero (l way : List Int) (s : Int) : tickAt l way s 0 = s := by simp [tickAt]
theorem tickAt_succ (l way : List Int) (s : Int) (i : Nat) (h : i < way.length) : tickAt l way s (i + 1) = tickAt l way s i + tm l way[i] := by
  unfold tickAt
  rw [List.take_succ_eq_append_getElem h, List.map_append, List.sum_append]
  simp
  omega
/-- Times and a run that are valid together. -/
structure RunOk (l way : List Int) (s : Int) : Prop where
  len : 1 ≤ l.length ∧ l.length ≤ 24
  time : ∀ i (h : i < l.length), 1 ≤ l[i] ∧ l[i] ≤ 1000
  ways : 1 ≤ way.length ∧ way.length ≤ 12
  tube : ∀ i (h : i < way.length), 0 ≤ way[i] ∧ way[i].toNat < l.length
  start : 0 ≤ s ∧ s ≤ 100000
theorem rsB_run {l : List Int} {ts : List TRun} (h : rsB l ts = true) (i : Nat) (hi : i < ts.length) : RunOk l ts[i].1 ts[i].2 := by
  unfold rsB at h
  simp only [Bool.and_eq_true, List.all_eq_true] at h
  obtain ⟨htm, _, hall⟩ := h
  have hr := hall ts[i] (List.getElem_mem hi)
  unfold tmB at htm
  unfold rnB wyB at hr
  simp only [Bool.and_eq_true, List.all_eq_true] at htm hr
  obtain ⟨h1, h2⟩ := htm
  obtain ⟨h3, h4, h5⟩ := hr
  unfold inB at h1 h2 h3 h4 h5
  simp only [decide_eq_true_eq] at h1 h2 h3 h4 h5
  refine ⟨by omega, fun j hj => h2 _ (List.getElem_mem hj), by omega, fun j hj => ?_, by omega⟩
  have := h5 _ (List.getElem_mem hj)
  omega
theorem rsB_one {l way : List Int} {s : Int} (h : rsB l [(way, s)] = true) : RunOk l way s := rsB_run h 0 (by simp)
theorem rsB_few {l : List Int} {ts : List TRun} (h : rsB l ts = true) : ts.length ≤ 12 := by
  unfold rsB at h
  simp only [Bool.and_eq_true, decide_eq_true_eq] at h
  exact h.2.1
theorem rsB_times {l : List Int} {ts : List TRun} (h : rsB l ts = true) : tmB l = true := by
  unfold rsB at h
  simp only [Bool.and_eq_true] at h
  exact h.1
theorem RunOk.tm_at {l way : List Int} {s : Int} (h : RunOk l way s) (i : Nat) (hi : i < way.length) : ∃ hx : way[i].toNat < l.length, tm l way[i] = l[way[i].toNat] ∧ 1 ≤ tm l way[i] ∧ tm l way[i] ≤ 1000 := by
  obtain ⟨h0, hx⟩ := h.tube i hi
  have e : tm l way[i] = l[way[i].toNat] := by unfold tm; rw [List.getD_eq_getElem?_getD, List.getElem?_eq_getElem hx]; rfl
  exact ⟨hx, e, by rw [e]; exact h.time _ hx⟩
theorem RunOk.tick {l way : List Int} {s : Int} (h : RunOk l way s) (i : Nat) (hi : i ≤ way.length) : 0 ≤ tickAt l way s i ∧ tickAt l way s i ≤ 100000 + 1000 * (i : Int) := by
  induction i with
  | zero => rw [tickAt_zero]; have := h.start; omega
  | succ i ih =>
    have h1 := ih (by omega)
    obtain ⟨_, _, h2, h3⟩ := h.tm_at i (by omega)
    rw [tickAt_succ _ _ _ _ (by omega)]
    omega
theorem RunOk.tick_lt {l way : List Int} {s : Int} (h : RunOk l way s) (i : Nat) (hi : i < way.length) : tickAt l way s i < tickAt l way s (i + 1) := by
  obtain ⟨_, _, h2, h3⟩ := h.tm_at i hi
  rw [tickAt_succ _ _ _ _ hi]
  omega

abbrev TPass := Int × Int × Int
def cPass (t : TPass) : List Value := [.int .i64 t.1, .int .i64 t.2.1, .int .i64 t.2.2]
theorem cPass_len (t : TPass) : (cPass t).length = 3 := rfl
/-- The passages of a run: enters, leaves, tube. -/
def passOf (l : List Int) (t : TRun) : List TPass := t.1.mapIdx fun i x => (tickAt l t.1 t.2 i, tickAt l t.1 t.2 (i + 1), x)
theorem passOf_length (l : List Int) (t : TRun) : (passOf l t).length = t.1.length := by simp [passOf]
theorem passOf_get (l : List Int) (t : TRun) (i : Nat) (h : i < t.1.length) : (passOf l t)[i]'(by rw [passOf_length]; exact h) = (tickAt l t.1 t.2 i, tickAt l t.1 t.2 (i + 1), t.1[i]) := by simp [passOf]
def rowOf (p : TPass) : TInt64S := ([p.2.2, p.1, p.2.1], ())
/-- What EndOfRun hands back. -/
def endOf (l : List Int) (t : TRun) : Int × Int := if rsB l [t] = true then (tickAt l t.1 t.2 t.1.length, 0) else (0, 1)
/-- What SpansOf hands back. -/
def spansOf (l : List Int) (t : TRun) : List TInt64S × Int := if rsB l [t] = true then ((passOf l t).map rowOf, 0) else ([], 1)
theorem endOf_bad {l : List Int} {t : TRun} (h : rsB l [t] = false) : endOf l t = (0, 1) := by unfold endOf; rw [h]; rfl
theorem endOf_good {l : List Int} {t : TRun} (h : rsB l [t] = true) : endOf l t = (tickAt l t.1 t.2 t.1.length, 0) := by unfold endOf; rw [h]; rfl
theorem spansOf_bad {l : List Int} {t : TRun} (h : rsB l [t] = false) : spansOf l t = ([], 1) := by unfold spansOf; rw [h]; rfl
theorem spansOf_good {l : List Int} {t : TRun} (h : rsB l [t] = true) : spansOf l t = ((passOf l t).map rowOf, 0) := by unfold spansOf; rw [h]; rfl
theorem spans_len (l : List Int) (t : TRun) (ht : t.1.length ≤ 1048576) : (spansOf l t).1.length ≤ 1048576 := by
  unfold spansOf
  split
  · simp [passOf_length]; exact ht
  · simp
theorem spans_leni (l : List Int) (t : TRun) : ∀ i (h : i < (spansOf l t).1.length), (spansOf l t).1[i].1.length ≤ 1048576 := by
  have key : ∀ x ∈ (spansOf l t).1, x.1.length ≤ 1048576 := by
    intro x hx
    unfold spansOf at hx
    split at hx
    · obtain ⟨p, _, rfl⟩ := List.mem_map.1 hx
      simp [rowOf]
    · simp at hx
  exact fun i h => key _ (List.getElem_mem h)
theorem RN.one {M : Nat} {a : Option Addr} {way : List Int} {s : Int} {n ca : Nat} {w : World} (hn : way.length = n) (ha : RI w a way) (hm : n ≤ M) (T : TypeId) :
    RN M 2 cRun (w.alloc (.cells #[.slice a n ca, .int .i64 s] T)) (some ⟨w.heap.size, 0, none⟩) [(way, s)] := by
  subst hn
  refine ⟨[(.slice a way.length ca, way, s)], rfl, .inr ⟨w.heap.size, 0, rfl, by simp, ?_⟩, ?_⟩
  · intro i hi j v hj
    have : i = 0 := by simp at hi; omega
    subst this
    match j, hj with
    | 0, hj => obtain rfl : _ = v := Option.some.inj hj; simp [go_sem]
    | 1, hj => obtain rfl : _ = v := Option.some.inj hj; simp [go_sem]
    | j + 2, hj => simp [ceN, cRun] at hj
  · intro i hi
    have : i = 0 := by simp at hi; omega
    subst this
    exact ⟨a, ca, rfl, ha.below ((Below.refl _ _).alloc (Nat.le_refl _) _), hm⟩
end Go.Proofs.Ytgjbahnloladfaa
