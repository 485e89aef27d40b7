/-
  Plain facts of rows of records and numbers at a place; the program's isWithin and checkRange.
-/
import Derived.Test.YtiilgeoahpnkpaaRec
import Derived.Test.YtiilgeoahpnkpaaIn
import Derived.Test.YtiilgeoahpnkpaaNest2
namespace Go.Proofs.Ytiilgeoahpnkpaa
open Go.RowKit

theorem RI.at_ {w : World} {a : Option Addr} {l : List Int} (h : RI w a l) (k : Nat) (hk : k < l.length) : ∃ b off, a = some ⟨b, off, none⟩ ∧ b < w.heap.size ∧ w.cell? ⟨b, off + k, none⟩ = some (.int .i64 l[k]) := by
  rcases h with rfl | ⟨b, off, ha, h⟩
  · simp at hk
  · exact ⟨b, off, ha, World.block_lt_of_cell? w _ (h k hk), h k hk⟩
theorem RR.at_ {α : Type} {k : Nat} {c : α → List Value} {w : World} {a : Option Addr} {ts : List α} (h : RR k c w a ts) (i : Nat) (hi : i < ts.length) :
    ∃ b off, a = some ⟨b, off, none⟩ ∧ b < w.heap.size ∧ ∀ (j : Nat) (v : Value), (c ts[i])[j]? = some v → w.cell? ⟨b, off + i * k + j, none⟩ = some v := by
  obtain ⟨b, off, ha, hb, hc⟩ := h.addr (by omega)
  exact ⟨b, off, ha, hb, hc i hi⟩
theorem all_no {α : Type} {f : α → Bool} {l : List α} (k : Nat) (hk : k < l.length) (h : f l[k] = false) : l.all f = false := by
  rw [List.all_eq_false]
  exact ⟨l[k], List.getElem_mem hk, by simp [h]⟩
theorem all_yes {α : Type} {f : α → Bool} {l : List α} (h : ∀ k (hk : k < l.length), f l[k] = true) : l.all f = true := by
  rw [List.all_eq_true]
  intro c hc
  obtain ⟨k, hk, rfl⟩ := List.getElem_of_mem hc
  exact h k hk
theorem all_at {α : Type} {f : α → Bool} {l : List α} (h : l.all f = true) (k : Nat) (hk : k < l.length) : f l[k] = true := by
  rw [List.all_eq_true] at h
  exact h _ (List.getElem_mem hk)
theorem inB_of {x lo hi : Int} (h : inB x lo hi = true) : lo ≤ x ∧ x ≤ hi := by unfold inB at h; simpa using h
theorem inB_yes {x lo hi : Int} (h : lo ≤ x ∧ x ≤ hi) : inB x lo hi = true := by unfold inB; simpa using h
theorem inB_no {x lo hi : Int} (h : ¬ (lo ≤ x ∧ x ≤ hi)) : inB x lo hi = false := by unfold inB; simpa using h

theorem isWithin_any (x lo hi : Int) (w : World) : Calls Try.prog 103 #[.int .i64 x, .int .i64 lo, .int .i64 hi] w fun e w' => e = .returned (.bool (inB x lo hi)) ∧ w = w' := by
  by_cases a : lo ≤ x <;> by_cases b : x ≤ hi
  all_goals
    go_enter Try.func103, Try.ntmps103
    go_wp2
    go_ret
    exact ⟨ret_bool (by simp [inB, *]), rfl⟩

theorem news_recs {α : Type} {k : Nat} {c : α → List Value} (hk : 0 < k) (hc : ∀ t, (c t).length = k) {w : World} {bb ob : Nat} {ts : List α} (h : ∀ i (hi : i < ts.length) (j : Nat) (v : Value), (c ts[i])[j]? = some v → w.cell? ⟨bb, ob + i * k + j, none⟩ = some v) :
    ∀ j u, (ts.flatMap c)[j]? = some u → w.cell? ((⟨bb, ob, none⟩ : Addr).add j) = some u := by
  intro p u hp
  have hlt : p < ts.length * k := by rw [← rflat_length hc]; exact (List.getElem?_eq_some_iff.1 hp).1
  have hi : p / k < ts.length := Nat.div_lt_of_lt_mul (by rw [Nat.mul_comm]; exact hlt)
  have hj := Nat.mod_lt p hk
  have e : p / k * k + p % k = p := by rw [Nat.mul_comm]; exact Nat.div_add_mod p k
  have h2 := rflat_get hc ts _ hi _ hj
  rw [e] at h2
  have h3 := h _ hi _ u (h2.symm.trans hp)
  rw [Nat.add_assoc, e] at h3
  rw [Addr.add_lit]
  exact h3
/-- A store into a row of one's own. -/
theorem ownsRow_set {w : World} {lo : Nat} {e : TypeId} {size g n cap : Nat} {xs : List Value} (h : w.ownsRow lo e size (.slice (some ⟨g, 0, none⟩) n cap) n xs) (p : Nat) (u : Value) :
    (w.setCell ⟨g, p, none⟩ u).ownsRow lo e size (.slice (some ⟨g, 0, none⟩) n cap) n (xs.set p u) := by
  rcases h.2 with ⟨hv, _⟩ | ⟨g', cap', cur, hv, hlo, hg, hnc, hm, hs, ht⟩
  · injection hv with h1; exact absurd h1 (by simp)
  · injection hv with h1 h2 h3
    injection h1 with h1
    injection h1 with h1
    subst h1 h3
    refine ⟨by rw [List.length_set]; exact h.1, .inr ⟨g, cap, cur.setIfInBounds p u, rfl, hlo, heap_setCell_same _ _ _ _ _ _ hg, hnc, hm, by simpa using hs, ?_⟩⟩
    rw [Array.toList_setIfInBounds, List.take_set, ht]
theorem ownsRow_frozen {w : World} {lo : Nat} {e : TypeId} {size g n cap : Nat} {xs : List Value} (h : w.ownsRow lo e size (.slice (some ⟨g, 0, none⟩) n cap) n xs) (p : Nat) : w.frozen? ⟨g, p, none⟩ = false := by
  rcases h.2 with ⟨hv, _⟩ | ⟨g', cap', cur, hv, hlo, hg, hnc, hm, hs, ht⟩
  · injection hv with h1; exact absurd h1 (by simp)
  · injection hv with h1 h2 h3
    injection h1 with h1
    injection h1 with h1
    subst h1
    exact frozen_of_row w g p cur e hg
theorem ownsRow_cell {w : World} {lo : Nat} {e : TypeId} {size g n cap : Nat} {xs : List Value} (h : w.ownsRow lo e size (.slice (some ⟨g, 0, none⟩) n cap) n xs) (p : Nat) (v : Value) (hp : xs[p]? = some v) : w.cell? ⟨g, p, none⟩ = some v := by
  have := h.cells (g := g) rfl p v hp
  rw [Addr.add_lit, Nat.zero_add] at this
  exact this
/-- A call hands back a copy of records, of its own. -/
def GivesC (E : TypeId) (k : Nat) (xs : List Value) (n : Nat) (w : World) (e : Ending) (w' : World) : Prop :=
  ∃ g cap, e = .returned (.slice (some ⟨g, 0, none⟩) n cap) ∧ Below w.heap.size w w' ∧ w.heap.size ≤ g ∧ w'.ownsRow w.heap.size E k (.slice (some ⟨g, 0, none⟩) n cap) n xs
theorem own_ge {w : World} {lo : Nat} {e : TypeId} {size g n cap : Nat} {xs : List Value} (h : w.ownsRow lo e size (.slice (some ⟨g, 0, none⟩) n cap) n xs) : lo ≤ g := by
  rcases h.2 with ⟨hv, _⟩ | ⟨g', cap', cur, hv, hlo, _⟩
  · injection hv with h1; exact absurd h1 (by simp)
  · injection hv with h1 h2 h3
    injection h1 with h1
    injection h1 with h1
    subst h1
    exact hlo

/-- A call hands back a slice of records of its own, and a code. -/
def GivesRs {α : Type} (E : TypeId) (k : Nat) (c : α → List Value) (r : List α × Int) (w : World) (e : Ending) (w' : World) : Prop :=
  Gv (fun lo hi v w => Row lo hi E k v r.1.length (r.1.flatMap c) w) (fun v => .returned (.tuple #[v, .int .i64 r.2])) w e w'
theorem givesRs_of {α : Type} {E : TypeId} {k : Nat} {c : α → List Value} {r : List α × Int} {ts : List α} {rc : Int} {v : Value} {n : Nat} {w w' : World} (h : r = (ts, rc)) (hb : Below w.heap.size w w') (hn : ts.length = n) (ho : w'.ownsRow w.heap.size E k v n (ts.flatMap c)) :
    GivesRs E k c r w (.returned (.tuple #[v, .int .i64 rc])) w' := by
  subst h hn
  exact ⟨hb, _, rfl, Row.of ho⟩
theorem givesRs_nil {α : Type} {E : TypeId} {k : Nat} {c : α → List Value} {r : List α × Int} {rc : Int} {w w' : World} (h : r = ([], rc)) (hb : Below w.heap.size w w') :
    GivesRs E k c r w (.returned (.tuple #[.slice none 0 0, .int .i64 rc])) w' :=
  givesRs_of h hb rfl (by simpa using World.ownsRow_nil w' w.heap.size E k)
/-- A call hands back a slice of numbers of its own, and a code. -/
def GivesIs (E : TypeId) (r : List Int × Int) (w : World) (e : Ending) (w' : World) : Prop :=
  Gv (fun lo hi v w => Row lo hi E 1 v r.1.length (r.1.map (Value.int .i64)) w) (fun v => .returned (.tuple #[v, .int .i64 r.2])) w e w'
theorem givesIs_of {E : TypeId} {r : List Int × Int} {ts : List Int} {rc : Int} {v : Value} {n : Nat} {w w' : World} (h : r = (ts, rc)) (hb : Below w.heap.size w w') (hn : ts.length = n) (ho : w'.ownsRow w.heap.size E 1 v n (ts.map (Value.int .i64))) :
    GivesIs E r w (.returned (.tuple #[v, .int .i64 rc])) w' := by
  subst h hn
  exact ⟨hb, _, rfl, Row.of ho⟩
theorem givesIs_nil {E : TypeId} {r : List Int × Int} {rc : Int} {w w' : World} (h : r = ([], rc)) (hb : Below w.heap.size w w') :
    GivesIs E r w (.returned (.tuple #[.slice none 0 0, .int .i64 rc])) w' :=
  givesIs_of h hb rfl (by simpa using World.ownsRow_nil w' w.heap.size E 1)
/-- A call hands back a slice of numbers of its own, and two numbers. -/
def GivesIs2 (E : TypeId) (r : List Int × Int × Int) (w : World) (e : Ending) (w' : World) : Prop :=
  Gv (fun lo hi v w => Row lo hi E 1 v r.1.length (r.1.map (Value.int .i64)) w) (fun v => .returned (.tuple #[v, .int .i64 r.2.1, .int .i64 r.2.2])) w e w'
theorem givesIs2_of {E : TypeId} {r : List Int × Int × Int} {ts : List Int} {x rc : Int} {v : Value} {n : Nat} {w w' : World} (h : r = (ts, x, rc)) (hb : Below w.heap.size w w') (hn : ts.length = n) (ho : w'.ownsRow w.heap.size E 1 v n (ts.map (Value.int .i64))) :
    GivesIs2 E r w (.returned (.tuple #[v, .int .i64 x, .int .i64 rc])) w' := by
  subst h hn
  exact ⟨hb, _, rfl, Row.of ho⟩
theorem givesIs2_nil {E : TypeId} {r : List Int × Int × Int} {x rc : Int} {w w' : World} (h : r = ([], x, rc)) (hb : Below w.heap.size w w') :
    GivesIs2 E r w (.returned (.tuple #[.slice none 0 0, .int .i64 x, .int .i64 rc])) w' :=
  givesIs2_of h hb rfl (by simpa using World.ownsRow_nil w' w.heap.size E 1)

def rangeCode (c x hi : Int) : Int := if c = 0 then (if inB x 0 hi = true then 0 else 2) else c
theorem checkRange_any (c x hi : Int) (w : World) : Calls Try.prog 70 #[.int .i64 c, .int .i64 x, .int .i64 hi] w fun e w' => e = .returned (.int .i64 (rangeCode c x hi)) ∧ w = w' := by
  rcases eq_ways c 0 with ⟨⟨e1, e2⟩, e3⟩ | ⟨⟨e1, e2⟩, e3⟩
  · subst e3
    cases h : inB x 0 hi with
    | true =>
      have HR : Hid (rangeCode 0 x hi = 0) := by unfold Hid rangeCode; rw [if_pos rfl, if_pos h]
      go_enter Try.func70, Try.ntmps70
      go_wp2_with (go_at_call 103; refine (isWithin_any _ _ _ _).mono ?_; rintro e w' ⟨rfl, rfl⟩)
      go_ret
      exact ⟨ret_int HR.out.symm, rfl⟩
    | false =>
      have HR : Hid (rangeCode 0 x hi = 2) := by unfold Hid rangeCode; rw [if_pos rfl, if_neg (by rw [h]; simp)]
      go_enter Try.func70, Try.ntmps70
      go_wp2_with (go_at_call 103; refine (isWithin_any _ _ _ _).mono ?_; rintro e w' ⟨rfl, rfl⟩)
      go_ret
      exact ⟨ret_int HR.out.symm, rfl⟩
  · have HR : Hid (rangeCode c x hi = c) := by unfold Hid rangeCode; rw [if_neg e3]
    clear e3
    go_enter Try.func70, Try.ntmps70
    go_wp2
    go_ret
    exact ⟨ret_int HR.out.symm, rfl⟩
end Go.Proofs.Ytiilgeoahpnkpaa
