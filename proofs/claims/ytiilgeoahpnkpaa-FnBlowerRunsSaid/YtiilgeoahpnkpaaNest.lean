/-
  Plain facts on rows of memory that hold records of which each holds a list of numbers of its own: how they read, how they are owned, how they are made, marked and looked at again. Nothing of the program stands here.
-/
import Derived.Test.YtiilgeoahpnkpaaRec
import Derived.Test.YtiilgeoahpnkpaaMem
import Derived.Test.YtiilgeoahpnkpaaMarksI
namespace Go.Proofs.Ytiilgeoahpnkpaa
open Go.RowKit

/-- Of what was there nothing has turned but blocks from a on and below c. -/
structure Turned (a c : Nat) (w w' : World) : Prop where
  os : w'.os = w.os
  tape : w'.tape = w.tape
  output : w'.output = w.output
  size : w.heap.size ≤ w'.heap.size
  block : ∀ k, k < w.heap.size → (k < a ∨ c ≤ k) → w'.heap[k]? = w.heap[k]?
theorem Turned.refl (a c : Nat) (w : World) : Turned a c w w := ⟨rfl, rfl, rfl, Nat.le_refl _, fun _ _ _ => rfl⟩
theorem Turned.of {a c : Nat} {w w' : World} (h : Below w.heap.size w w') : Turned a c w w' := ⟨h.os, h.tape, h.output, h.size, fun k hk _ => h.block k hk⟩
theorem Turned.trans {a c : Nat} {w w1 w2 : World} (h : Turned a c w w1) (k : Turned a c w1 w2) : Turned a c w w2 :=
  ⟨k.os.trans h.os, k.tape.trans h.tape, k.output.trans h.output, Nat.le_trans h.size k.size, fun i hi hd => (k.block i (by have := h.size; omega) hd).trans (h.block i hi hd)⟩
theorem Turned.mono {a c a' c' : Nat} {w w' : World} (h : Turned a c w w') (ha : a' ≤ a) (hc : c ≤ c') : Turned a' c' w w' :=
  ⟨h.os, h.tape, h.output, h.size, fun i hi hd => h.block i hi (by omega)⟩
theorem Turned.below {a c B : Nat} {w w' : World} (h : Turned a c w w') (hB : B ≤ a) (hs : B ≤ w.heap.size) : Below B w w' :=
  ⟨h.os, h.tape, h.output, h.size, fun i hi => h.block i (by omega) (by omega)⟩
theorem Turned.grown {a c : Nat} {w w' : World} {row : Option Nat} (h : w.grownBy w' row) (hr : ∀ k, row = some k → a ≤ k ∧ k < c) : Turned a c w w' :=
  ⟨h.os, h.tape, h.output, h.size, fun i hi hd => h.block i hi (fun e => by have := hr i e.symm; omega)⟩
theorem Turned.setCell {a c : Nat} {w w' : World} (h : Turned a c w w') {g o : Nat} (hg : a ≤ g ∧ g < c) (u : Value) : Turned a c w (w'.setCell ⟨g, o, none⟩ u) :=
  h.trans ⟨rfl, rfl, rfl, by simp [World.setCell], fun i _ hd => Below.heap_setCell _ _ _ _ (by simp; omega)⟩
theorem Row.turned {lo hi a c : Nat} {e : TypeId} {size n : Nat} {v : Value} {xs : List Value} {w w' : World} (h : Row lo hi e size v n xs w) (ht : Turned a c w w') (hd : hi ≤ a ∨ c ≤ lo) : Row lo hi e size v n xs w' := by
  obtain ⟨⟨l, r⟩, h2⟩ := h
  refine ⟨⟨l, ?_⟩, h2⟩
  rcases r with r | ⟨g, cap, cur, hv, hlo, hg, r⟩
  · exact .inl r
  · have hb := h2 g (by rw [hv]; rfl)
    have hlt : g < w.heap.size := (Array.getElem?_eq_some_iff.1 hg).1
    exact .inr ⟨g, cap, cur, hv, hlo, (ht.block g hlt (by omega)).trans hg, r⟩
theorem Row.widen {lo hi lo' hi' : Nat} {e : TypeId} {size n : Nat} {v : Value} {xs : List Value} {w : World} (h : Row lo hi e size v n xs w) (hl : lo' ≤ lo) (hh : hi ≤ hi') : Row lo' hi' e size v n xs w :=
  ⟨own_lo h.1 hl, fun k hk => by have := h.2 k hk; omega⟩
theorem Box.turned {w w' : World} {b a c : Nat} {vs : List Value} (h : Box w b vs) (ht : Turned a c w w') (hd : b < a ∨ c ≤ b) : Box w' b vs :=
  ⟨Nat.lt_of_lt_of_le h.1 ht.size, fun j v hj => (World.cell?_of_block (w := w) (a := ⟨b, j, none⟩) (ht.block b h.1 hd)).trans (h.2 j v hj)⟩
theorem own_shape {lo n : Nat} {e : TypeId} {size : Nat} {v : Value} {xs : List Value} {w : World} (h : w.ownsRow lo e size v n xs) : ∃ a cap, v = .slice a n cap := by
  rcases h.2 with ⟨h1, h2⟩ | ⟨g, cap, cur, hv, _⟩
  · exact ⟨none, 0, by rw [h1, h2]⟩
  · exact ⟨_, cap, hv⟩

/-- A record: the value of its list, the list's numbers, and what else it has. -/
abbrev NE (β : Type) := Value × List Int × β
def ceN {β : Type} (c : Value → β → List Value) (e : NE β) : List Value := c e.1 e.2.2
section
variable {β : Type} {M k : Nat} {c : Value → β → List Value} {w w' : World} {a : Option Addr} {ts : List (List Int × β)} {es : List (NE β)} {E EI : TypeId} {lo hi : Nat} {v : Value}
theorem nlen (h : es.map (·.2) = ts) : es.length = ts.length := by rw [← h]; simp
theorem nget (h : es.map (·.2) = ts) (i : Nat) (hi : i < ts.length) : (es[i]'(by rw [nlen h]; exact hi)).2 = ts[i] := by subst h; simp

/-- A slice at an address reads as these records, each with a list of at most M numbers. -/
def RN (M k : Nat) (c : Value → β → List Value) (w : World) (a : Option Addr) (ts : List (List Int × β)) : Prop :=
  ∃ es : List (NE β), es.map (·.2) = ts ∧ RR k (ceN c) w a es ∧ ∀ i (h : i < es.length), ∃ ai ci, es[i].1 = .slice ai es[i].2.1.length ci ∧ RI w ai es[i].2.1 ∧ es[i].2.1.length ≤ M
theorem RN.below (h : RN M k c w a ts) (hb : Below w.heap.size w w') : RN M k c w' a ts := by
  obtain ⟨es, he, h1, h2⟩ := h
  exact ⟨es, he, h1.below hb, fun i hi => by obtain ⟨ai, ci, e1, e2, e3⟩ := h2 i hi; exact ⟨ai, ci, e1, e2.below hb, e3⟩⟩
theorem RN.cut {M' : Nat} (h : RN M k c w a ts) (hc : ∀ i (h : i < ts.length), ts[i].1.length ≤ M') : RN M' k c w a ts := by
  obtain ⟨es, he, h1, h2⟩ := h
  refine ⟨es, he, h1, fun i hi => ?_⟩
  obtain ⟨ai, ci, e1, e2, e3⟩ := h2 i hi
  have := hc i (by rw [← nlen he]; exact hi)
  rw [← nget he i (by rw [← nlen he]; exact hi)] at this
  exact ⟨ai, ci, e1, e2, this⟩
theorem RN.most (h : RN M k c w a ts) (i : Nat) (hi : i < ts.length) : ts[i].1.length ≤ M := by
  obtain ⟨es, he, h1, h2⟩ := h
  obtain ⟨ai, ci, e1, e2, e3⟩ := h2 i (by rw [nlen he]; exact hi)
  rw [← nget he i hi]; exact e3
theorem RN.addr (h : RN M k c w a ts) (hp : 0 < ts.length) :
    ∃ b off, a = some ⟨b, off, none⟩ ∧ b < w.heap.size ∧ ∀ i (h : i < ts.length), ∃ ai ci, RI w ai ts[i].1 ∧ ts[i].1.length ≤ M ∧ ∀ (j : Nat) (v : Value), (c (.slice ai ts[i].1.length ci) ts[i].2)[j]? = some v → w.cell? ⟨b, off + i * k + j, none⟩ = some v := by
  obtain ⟨es, he, h1, h2⟩ := h
  obtain ⟨b, off, rfl, hlt, h3⟩ := h1.addr (by rw [nlen he]; exact hp)
  refine ⟨b, off, rfl, hlt, fun i hi => ?_⟩
  have hi' : i < es.length := by rw [nlen he]; exact hi
  obtain ⟨ai, ci, e1, e2, e3⟩ := h2 i hi'
  rw [← nget he i hi]
  refine ⟨ai, ci, e2, e3, fun j v hj => h3 i hi' j v ?_⟩
  unfold ceN; rw [e1]; exact hj
theorem RN.nil (M k : Nat) (c : Value → β → List Value) (w : World) (a : Option Addr) : RN M k c w a [] := ⟨[], rfl, .inl rfl, fun i hi => by simp at hi⟩

/-- No two of the lists lie in one block, and none in that of the records. -/
def DistN (v : Value) (es : List (NE β)) : Prop := ∀ i (h : i < es.length) p, es[i].1.ownBlock = some p → v.ownBlock ≠ some p ∧ ∀ j (hj : j < es.length), j ≠ i → es[j].1.ownBlock ≠ some p
/-- A slice of records and the lists of all of them lie in blocks of their own from lo on and below hi. -/
def OwN (lo hi : Nat) (E EI : TypeId) (k : Nat) (c : Value → β → List Value) (v : Value) (ts : List (List Int × β)) (w : World) : Prop :=
  ∃ es : List (NE β), es.map (·.2) = ts ∧ Row lo hi E k v ts.length (es.flatMap (ceN c)) w ∧ (∀ i (h : i < es.length), Row lo hi EI 1 es[i].1 es[i].2.1.length (es[i].2.1.map (Value.int .i64)) w) ∧ DistN v es
theorem OwN.turned {x y : Nat} (h : OwN lo hi E EI k c v ts w) (ht : Turned x y w w') (hd : hi ≤ x ∨ y ≤ lo) : OwN lo hi E EI k c v ts w' := by
  obtain ⟨es, h1, h2, h3, h4⟩ := h
  exact ⟨es, h1, h2.turned ht hd, fun i hi => (h3 i hi).turned ht hd, h4⟩
theorem OwN.below (h : OwN lo hi E EI k c v ts w) (hb : Below w.heap.size w w') : OwN lo hi E EI k c v ts w' := by
  obtain ⟨es, h1, h2, h3, h4⟩ := h
  exact ⟨es, h1, h2.below hb, fun i hi => (h3 i hi).below hb, h4⟩
theorem OwN.widen {lo' hi' : Nat} (h : OwN lo hi E EI k c v ts w) (hl : lo' ≤ lo) (hh : hi ≤ hi') : OwN lo' hi' E EI k c v ts w := by
  obtain ⟨es, h1, h2, h3, h4⟩ := h
  exact ⟨es, h1, h2.widen hl hh, fun i hi => (h3 i hi).widen hl hh, h4⟩
theorem OwN.rd (hc : ∀ v b, (c v b).length = k) {n cap : Nat} {ao : Option Addr} (h : OwN lo hi E EI k c (.slice ao n cap) ts w) (hn : Hid (ts.length = n)) (hM : ∀ i (h : i < ts.length), ts[i].1.length ≤ M) : RN M k c w ao ts := by
  obtain ⟨es, h1, h2, h3, h4⟩ := h
  refine ⟨es, h1, own_RR (fun e => hc _ _) (n := n) (by unfold Hid; rw [nlen h1]; exact hn.out) (by have := h2.1; rw [hn.out] at this; exact this), fun i hi => ?_⟩
  obtain ⟨ai, ci, hs⟩ := own_shape (h3 i hi).1
  have hr := (h3 i hi).1
  rw [hs] at hr
  refine ⟨ai, ci, hs, own_RI rfl hr, ?_⟩
  have := hM i (by rw [← nlen h1]; exact hi)
  rw [← nget h1 i (by rw [← nlen h1]; exact hi)] at this
  exact this
theorem OwN.nil (w : World) (lo hi : Nat) : OwN lo hi E EI k c (.slice none 0 0) ([] : List (List Int × β)) w :=
  ⟨[], rfl, ⟨by simpa using World.ownsRow_nil w lo E k, fun _ h => by cases h⟩, fun i hi => by simp at hi, fun i hi => by simp at hi⟩

/-- The first i records have been made in the block g. -/
def HalfN (g k : Nat) (EI : TypeId) (c : Value → β → List Value) (ts : List (List Int × β)) (cur : Array Value) (w : World) (i : Nat) : Prop :=
  ∃ es : List (NE β), es.length = i ∧ es.map (·.2) = ts.take i ∧ (∀ q (h : q < es.length) (j : Nat) (v : Value), (ceN c es[q])[j]? = some v → cur[q * k + j]? = some v) ∧
    (∀ q (h : q < es.length), Row (g + 1) w.heap.size EI 1 es[q].1 es[q].2.1.length (es[q].2.1.map (Value.int .i64)) w) ∧
    (∀ q (h : q < es.length) p, es[q].1.ownBlock = some p → ∀ j (hj : j < es.length), j ≠ q → es[j].1.ownBlock ≠ some p)
theorem HalfN.zero (g k : Nat) (EI : TypeId) (c : Value → β → List Value) (ts : List (List Int × β)) (cur : Array Value) (w : World) : HalfN g k EI c ts cur w 0 :=
  ⟨[], rfl, by simp, fun q h => by simp at h, fun q h => by simp at h, fun q h => by simp at h⟩
theorem HalfN.step {g i : Nat} {cur cur' : Array Value} {u : Value} {w1 w2 : World} (hc : ∀ v b, (c v b).length = k) (h : HalfN g k EI c ts cur w i) (hi : i < ts.length) (hg : g < w.heap.size) (hb : Below w.heap.size w w1)
    (ho : w1.ownsRow w.heap.size EI 1 u ts[i].1.length (ts[i].1.map (Value.int .i64))) (hw : ∀ p, p ≠ g → w2.heap[p]? = w1.heap[p]?) (hsz : w2.heap.size = w1.heap.size) (ho2 : w2.os = w1.os) (ht2 : w2.tape = w1.tape) (hp2 : w2.output = w1.output)
    (h1 : ∀ p, p < i * k → cur'[p]? = cur[p]?) (h2 : ∀ (j : Nat) (v : Value), (c u ts[i].2)[j]? = some v → cur'[i * k + j]? = some v) : HalfN g k EI c ts cur' w2 (i + 1) := by
  obtain ⟨es, e1, e2, e3, e4, e5⟩ := h
  have T2 : Turned g (g + 1) w1 w2 := ⟨ho2, ht2, hp2, by omega, fun p _ hd => hw p (by omega)⟩
  have R : Row (g + 1) w2.heap.size EI 1 u ts[i].1.length (ts[i].1.map (Value.int .i64)) w2 := by
    have := ((Row.of ho).turned T2 (.inr (by omega))).widen (lo' := g + 1) (hi' := w2.heap.size) (by omega) (by omega)
    exact this
  have hget : ∀ q (hq : q < (es ++ [(u, ts[i])]).length), (∃ hq' : q < es.length, (es ++ [(u, ts[i])])[q] = es[q]) ∨ (q = i ∧ (es ++ [(u, ts[i])])[q] = (u, ts[i])) := by
    intro q hq
    by_cases hq' : q < es.length
    · exact .inl ⟨hq', List.getElem_append_left hq'⟩
    · have : q = i := by simp at hq; omega
      subst this
      refine .inr ⟨rfl, ?_⟩
      rw [List.getElem_append_right (by omega)]
      simp
  refine ⟨es ++ [(u, ts[i])], by simp [e1], ?_, fun q hq j v hj => ?_, fun q hq => ?_, fun q hq p hp j hj hne => ?_⟩
  · rw [List.map_append, e2]; simp
  · rcases hget q hq with ⟨hq', hh⟩ | ⟨rfl, hh⟩
    · rw [hh] at hj
      have hjk : j < k := by rw [← hc es[q].1 es[q].2.2]; exact (List.getElem?_eq_some_iff.1 hj).1
      have : q * k + k ≤ i * k := by rw [← Nat.succ_mul]; exact Nat.mul_le_mul_right k (by omega)
      rw [h1 _ (by omega)]
      exact e3 q hq' j v hj
    · rw [hh] at hj
      exact h2 j v hj
  · rcases hget q hq with ⟨hq', hh⟩ | ⟨rfl, hh⟩
    · rw [hh]
      exact ((((e4 q hq').below hb).turned T2 (.inr (Nat.le_refl _))).widen (Nat.le_refl _) (by have := hb.size; omega))
    · rw [hh]; exact R
  · have old : ∀ q (hq' : q < es.length) p, es[q].1.ownBlock = some p → p < w.heap.size := fun q hq' p hp => ((e4 q hq').2 p hp).2
    have new : ∀ p, u.ownBlock = some p → w.heap.size ≤ p := fun p hp => (ho.lt p hp).1
    rcases hget q hq with ⟨hq', hh⟩ | ⟨hqi, hh⟩ <;> rcases hget j hj with ⟨hj', hk⟩ | ⟨hji, hk⟩
    · rw [hh] at hp; rw [hk]; exact e5 q hq' p hp j hj' hne
    · rw [hh] at hp; rw [hk]
      intro e
      have := old q hq' p hp
      have := new p e
      omega
    · rw [hh] at hp; rw [hk]
      intro e
      have := old j hj' p e
      have := new p hp
      omega
    · exact absurd (hji.trans hqi.symm) hne
theorem HalfN.full {g n : Nat} {cur : Array Value} (hk : 0 < k) (hc : ∀ v b, (c v b).length = k) (h : HalfN g k EI c ts cur w n) (hn : ts.length = n) (hg : w.heap[g]? = some (.cells cur E (0, 0))) (hs : cur.size = n * k) (hm : n ≤ maxLen) :
    OwN g w.heap.size E EI k c (.slice (some ⟨g, 0, none⟩) n n) ts w := by
  obtain ⟨es, e1, e2, e3, e4, e5⟩ := h
  subst hn
  rw [List.take_length] at e2
  have hlt : g < w.heap.size := (Array.getElem?_eq_some_iff.1 hg).1
  have hr := row_rown (c := ceN c) (ts := es) (lo := g) hk (fun e => hc _ _) hg (Nat.le_refl _) (by rw [e1]; exact hm) (by rw [hs, e1]) e3
  rw [e1] at hr
  refine ⟨es, e2, ⟨hr, fun p hp => ?_⟩, fun i hi => (e4 i hi).widen (by omega) (Nat.le_refl _), fun i hi p hp => ⟨fun e => ?_, e5 i hi p hp⟩⟩
  · obtain rfl : g = p := Option.some.inj hp
    exact ⟨Nat.le_refl _, hlt⟩
  · obtain rfl : g = p := Option.some.inj e
    have := (e4 i hi).2 g hp
    omega
/-- A call hands back records of its own. -/
def GivesN (E EI : TypeId) (k : Nat) (c : Value → β → List Value) (ts : List (List Int × β)) (n : Nat) (w : World) (e : Ending) (w' : World) : Prop :=
  ∃ g, e = .returned (.slice (some ⟨g, 0, none⟩) n n) ∧ w.heap.size ≤ g ∧ Below w.heap.size w w' ∧ OwN w.heap.size w'.heap.size E EI k c (.slice (some ⟨g, 0, none⟩) n n) ts w'

theorem rflat_set {α : Type} {k : Nat} {c : α → List Value} (hc : ∀ t, (c t).length = k) (ts : List α) (i : Nat) (h : i < ts.length) (j : Nat) (hj : j < k) (u : Value) (t' : α) (ht : (c ts[i]).set j u = c t') :
    (ts.flatMap c).set (i * k + j) u = (ts.set i t').flatMap c := by
  induction ts generalizing i with
  | nil => simp at h
  | cons t ts ih =>
    cases i with
    | zero =>
      simp only [List.set_cons_zero, List.flatMap_cons, Nat.zero_mul, Nat.zero_add]
      rw [List.set_append_left _ _ (by rw [hc]; exact hj)]
      simp only [List.getElem_cons_zero] at ht
      rw [ht]
    | succ i =>
      simp only [List.set_cons_succ, List.flatMap_cons]
      rw [List.set_append_right _ _ (by rw [hc, Nat.succ_mul]; omega), hc, show (i + 1) * k + j - k = i * k + j by rw [Nat.succ_mul]; omega]
      rw [ih i (by simpa using h) (by simpa using ht)]
/-- One of the records: where it lies, that its list is the call's own, and what is owned where its list has been written. -/
theorem OwN.at_ {g n cap : Nat} (hc : ∀ v b, (c v b).length = k) (h : OwN lo hi E EI k c (.slice (some ⟨g, 0, none⟩) n cap) ts w) (i : Nat) (hi' : i < ts.length) :
    ∃ ai ci, (∀ (j : Nat) (v : Value), (c (.slice ai ts[i].1.length ci) ts[i].2)[j]? = some v → w.cell? ⟨g, i * k + j, none⟩ = some v) ∧ w.ownsRow lo EI 1 (.slice ai ts[i].1.length ci) ts[i].1.length (ts[i].1.map (Value.int .i64)) ∧
      (∀ p, (Value.slice ai ts[i].1.length ci).ownBlock = some p → lo ≤ p ∧ p < hi) ∧
      ∀ (w1 : World) (new : List Int), new.length = ts[i].1.length → w.grownBy w1 (Value.slice ai ts[i].1.length ci).ownBlock → w1.ownsRow lo EI 1 (.slice ai ts[i].1.length ci) ts[i].1.length (new.map (Value.int .i64)) →
        OwN lo hi E EI k c (.slice (some ⟨g, 0, none⟩) n cap) (ts.set i (new, ts[i].2)) w1 ∧ (∀ (j : Nat) (v : Value), (c (.slice ai ts[i].1.length ci) ts[i].2)[j]? = some v → w1.cell? ⟨g, i * k + j, none⟩ = some v) := by
  obtain ⟨es, h1, h2, h3, h4⟩ := h
  have hie : i < es.length := by rw [nlen h1]; exact hi'
  obtain ⟨ai, ci, hs⟩ := own_shape (h3 i hie).1
  have hr := h3 i hie
  have hge := nget h1 i hi'
  have hcell : ∀ (w2 : World), w2.ownsRow lo E k (.slice (some ⟨g, 0, none⟩) n cap) ts.length (es.flatMap (ceN c)) → ∀ (j : Nat) (v : Value), (c (.slice ai ts[i].1.length ci) ts[i].2)[j]? = some v → w2.cell? ⟨g, i * k + j, none⟩ = some v := by
    intro w2 ho j v hj
    have hjk : j < k := by rw [← hc (.slice ai ts[i].1.length ci) ts[i].2]; exact (List.getElem?_eq_some_iff.1 hj).1
    have e : ∀ j, (⟨g, 0, none⟩ : Addr).add j = ⟨g, j, none⟩ := fun j => by unfold Addr.add; split <;> simp_all
    have := ho.cells (g := g) rfl (i * k + j) v ((rflat_get (c := ceN c) (fun e => hc _ _) es i hie j hjk).trans (by unfold ceN; rw [hs, hge]; exact hj))
    rw [e] at this
    exact this
  rw [hs, hge] at hr
  refine ⟨ai, ci, hcell w h2.1, hr.1, hr.2, fun w1 new hl hg ho => ?_⟩
  have hd := h4 i hie
  rw [hs, hge] at hd
  have ho1 : Row lo hi E k (.slice (some ⟨g, 0, none⟩) n cap) ts.length (es.flatMap (ceN c)) w1 := by
    refine ⟨h2.1.kept hg ?_, h2.2⟩
    cases hb : (Value.slice ai ts[i].1.length ci).ownBlock with
    | none => exact .inr (by simp [Value.ownBlock])
    | some p => exact .inr (hd p hb).1
  refine ⟨⟨es.set i (.slice ai ts[i].1.length ci, new, ts[i].2), ?_, ?_, fun q hq => ?_, fun q hq p hp => ?_⟩, hcell w1 ho1.1⟩
  · rw [List.map_set, h1]
  · have hf : (es.set i (.slice ai ts[i].1.length ci, new, ts[i].2)).flatMap (ceN c) = es.flatMap (ceN c) := by
      have hce : ∀ x : NE β, x = es[i] → ceN c (.slice ai ts[i].1.length ci, new, ts[i].2) = ceN c x := by
        rintro x rfl
        unfold ceN; rw [hs, hge]
      have : ∀ (l : List (NE β)) (i : Nat) (x : NE β) (hx : i < l.length), ceN c x = ceN c l[i] → (l.set i x).flatMap (ceN c) = l.flatMap (ceN c) := by
        intro l
        induction l with
        | nil => intro i x hx; simp at hx
        | cons t l ih =>
          intro i x hx he
          cases i with
          | zero => simp at he ⊢; rw [he]
          | succ i => simp at he ⊢; exact ih i x (by simpa using hx) he
      exact this es i _ hie (hce _ rfl)
    rw [hf, List.length_set]; exact ho1
  · rw [List.getElem_set]
    split
    · simp only
      rw [hl]
      exact ⟨ho, hr.2⟩
    · rename_i hne
      have hq' : q < es.length := by simpa using hq
      refine ⟨(h3 q hq').1.kept hg ?_, (h3 q hq').2⟩
      cases hb : (Value.slice ai ts[i].1.length ci).ownBlock with
      | none =>
        cases hz : es[q].1.ownBlock with
        | none => exact .inl rfl
        | some z => exact .inr (by simp)
      | some p => exact .inr ((hd p hb).2 q hq' (by omega))
  · have hq' : q < es.length := by simpa using hq
    have hval : ∀ z (hz : z < es.length), ((es.set i (.slice ai ts[i].1.length ci, new, ts[i].2))[z]'(by simpa using hz)).1 = es[z].1 := by
      intro z hz
      rw [List.getElem_set]
      split
      · rename_i e; subst e
        have := hs
        rw [hge] at this
        exact this.symm
      · rfl
    rw [hval q hq'] at hp
    refine ⟨(h4 q hq' p hp).1, fun j hj hne => ?_⟩
    have hj' : j < es.length := by simpa using hj
    rw [hval j hj']
    exact (h4 q hq' p hp).2 j hj' hne
theorem OwN.frozen {g n cap : Nat} (h : OwN lo hi E EI k c (.slice (some ⟨g, 0, none⟩) n cap) ts w) (hn : ts.length = n) (j : Nat) : w.frozen? ⟨g, j, none⟩ = false := by
  obtain ⟨es, h1, h2, h3, h4⟩ := h
  subst hn
  exact h2.1.frozenAt j
theorem OwN.bounds {v : Value} (h : OwN lo hi E EI k c v ts w) : ∀ p, v.ownBlock = some p → lo ≤ p ∧ p < hi := by
  obtain ⟨es, h1, h2, h3, h4⟩ := h
  exact h2.2
theorem OwN.store {g n cap : Nat} (hc : ∀ v b, (c v b).length = k) (h : OwN lo hi E EI k c (.slice (some ⟨g, 0, none⟩) n cap) ts w) (hn : ts.length = n) (i : Nat) (hi' : i < ts.length) (j : Nat) (hj : j < k) (u : Value) (b' : β)
    (hset : ∀ v, (c v ts[i].2).set j u = c v b') : OwN lo hi E EI k c (.slice (some ⟨g, 0, none⟩) n cap) (ts.set i (ts[i].1, b')) (w.setCell ⟨g, i * k + j, none⟩ u) := by
  obtain ⟨es, h1, h2, h3, h4⟩ := h
  have hie : i < es.length := by rw [nlen h1]; exact hi'
  have hge := nget h1 i hi'
  subst hn
  obtain ⟨s1, s2⟩ := h2.1.stored (i * k + j) u
  refine ⟨es.set i (es[i].1, ts[i].1, b'), ?_, ⟨?_, h2.2⟩, fun q hq => ?_, fun q hq p hp => ?_⟩
  · rw [List.map_set, h1]
  · rw [List.length_set]
    have hx := rflat_set (c := ceN c) (fun e => hc _ _) es i hie j hj u (es[i].1, ts[i].1, b') (by unfold ceN; rw [hge]; exact hset _)
    rw [← hx]
    exact s1
  · have keep : ∀ z (hz : z < es.length), Row lo hi EI 1 es[z].1 es[z].2.1.length (es[z].2.1.map (Value.int .i64)) (w.setCell ⟨g, i * k + j, none⟩ u) := fun z hz => by
      refine ⟨(h3 z hz).1.kept s2 ?_, (h3 z hz).2⟩
      refine .inr (fun e => ?_)
      exact (h4 z hz g e).1 rfl
    rw [List.getElem_set]
    split
    · have := keep i hie
      rw [hge] at this
      exact this
    · exact keep q (by simpa using hq)
  · have hq' : q < es.length := by simpa using hq
    have hval : ∀ z (hz : z < es.length), ((es.set i (es[i].1, ts[i].1, b'))[z]'(by simpa using hz)).1 = es[z].1 := by
      intro z hz
      rw [List.getElem_set]
      split
      · rename_i e; subst e; rfl
      · rfl
    rw [hval q hq'] at hp
    refine ⟨(h4 q hq' p hp).1, fun j hj hne => ?_⟩
    have hj' : j < es.length := by simpa using hj
    rw [hval j hj']
    exact (h4 q hq' p hp).2 j hj' hne

/-- Where the marks of the record i begin: each record takes one for each number of its list and e more. -/
def startN (e k : Int) (ts : List (List Int × β)) (i : Nat) : Int := k + ((ts.take i).map (fun t => (t.1.length : Int) + e)).sum
theorem startN_zero (e q : Int) (ts : List (List Int × β)) : startN e q ts 0 = q := by simp [startN]
theorem startN_succ (e q : Int) (ts : List (List Int × β)) (i : Nat) (h : i < ts.length) : startN e q ts (i + 1) = startN e q ts i + (ts[i].1.length : Int) + e := by
  unfold startN
  rw [List.take_succ_eq_append_getElem h, List.map_append, List.sum_append]
  simp
  omega
theorem startN_le (e q : Int) (ts : List (List Int × β)) (he : 0 ≤ e) (he8 : e ≤ 8) (hl : ∀ i (h : i < ts.length), ts[i].1.length ≤ 1048577) (i : Nat) (h : i ≤ ts.length) : q ≤ startN e q ts i ∧ startN e q ts i ≤ q + (i : Int) * 1048585 := by
  induction i with
  | zero => rw [startN_zero]; omega
  | succ i ih =>
    have h1 := ih (by omega)
    have h2 := hl i (by omega)
    rw [startN_succ e q ts i (by omega)]
    omega
/-- The records with marks in the first m of them. -/
def markN (e : Int) (ex : Int → β) (k : Int) (ts : List (List Int × β)) (m : Nat) : List (List Int × β) :=
  ts.mapIdx fun i t => if i < m then (marksI (startN e k ts i) t.1.length, ex (startN e k ts i + (t.1.length : Int))) else t
theorem markN_length (e : Int) (ex : Int → β) (q : Int) (ts : List (List Int × β)) (m : Nat) : (markN e ex q ts m).length = ts.length := by simp [markN]
theorem markN_zero (e : Int) (ex : Int → β) (q : Int) (ts : List (List Int × β)) : markN e ex q ts 0 = ts := by
  apply List.ext_getElem (markN_length _ _ _ _ _)
  intro i h1 h2
  simp [markN]
theorem markN_get (e : Int) (ex : Int → β) (q : Int) (ts : List (List Int × β)) (m i : Nat) (h : i < ts.length) (hm : i < m) :
    (markN e ex q ts m)[i]'(by rw [markN_length]; exact h) = (marksI (startN e q ts i) ts[i].1.length, ex (startN e q ts i + (ts[i].1.length : Int))) := by
  simp [markN, hm]
theorem markN_old (e : Int) (ex : Int → β) (q : Int) (ts : List (List Int × β)) (m i : Nat) (h : i < ts.length) (hm : m ≤ i) :
    (markN e ex q ts m)[i]'(by rw [markN_length]; exact h) = ts[i] := by
  simp [markN, show ¬ i < m by omega]
theorem markN_len (e : Int) (ex : Int → β) (q : Int) (ts : List (List Int × β)) (m i : Nat) (h : i < (markN e ex q ts m).length) :
    (markN e ex q ts m)[i].1.length = (ts[i]'(by rw [← markN_length e ex q ts m]; exact h)).1.length := by
  simp only [markN, List.getElem_mapIdx]
  split
  · simp [marksI_length]
  · rfl
theorem markN_step (e : Int) (ex : Int → β) (q : Int) (ts : List (List Int × β)) (m : Nat) (h : m < ts.length) :
    (markN e ex q ts m).set m (marksI (startN e q ts m) ts[m].1.length, ex (startN e q ts m + (ts[m].1.length : Int))) = markN e ex q ts (m + 1) := by
  apply List.ext_getElem (by simp [markN])
  intro i h1 h2
  rw [List.getElem_set]
  by_cases hi : m = i
  · subst hi
    simp [markN]
  · rw [if_neg hi]
    simp only [markN, List.getElem_mapIdx]
    by_cases hm : i < m
    · rw [if_pos hm, if_pos (by omega)]
    · rw [if_neg hm, if_neg (by omega)]

/-- What is left of a count behind records: -1 where it does not suffice. -/
def szGo : Int → List (List Int × β) → Int
  | l, [] => l
  | l, t :: r => if l < (t.1.length : Int) then -1 else szGo (l - (t.1.length : Int)) r
def szN (left : Int) (ts : List (List Int × β)) : Int := if left < (ts.length : Int) then -1 else szGo (left - (ts.length : Int)) ts
theorem szGo_bounds (l : Int) (ts : List (List Int × β)) (h : 0 ≤ l) : -1 ≤ szGo l ts ∧ szGo l ts ≤ l ∧ (0 ≤ szGo l ts → ∀ i (h : i < ts.length), (ts[i].1.length : Int) ≤ l) := by
  induction ts generalizing l with
  | nil => exact ⟨by simp [szGo]; omega, by simp [szGo], fun _ i hi => by simp at hi⟩
  | cons t r ih =>
    unfold szGo
    split
    · exact ⟨by omega, by omega, fun h => by omega⟩
    · obtain ⟨h1, h2, h3⟩ := ih (l - (t.1.length : Int)) (by omega)
      refine ⟨h1, by omega, fun hs i hi => ?_⟩
      cases i with
      | zero => simp; omega
      | succ i =>
        have := h3 hs i (by simpa using hi)
        simp only [List.getElem_cons_succ]
        omega
theorem szGo_drop (l : Int) (ts : List (List Int × β)) (i : Nat) (h : i < ts.length) : szGo l (ts.drop i) = if l < (ts[i].1.length : Int) then -1 else szGo (l - (ts[i].1.length : Int)) (ts.drop (i + 1)) := by
  rw [List.drop_eq_getElem_cons h, szGo]
theorem szN_bounds (left : Int) (ts : List (List Int × β)) (h : 0 ≤ left) : -1 ≤ szN left ts ∧ szN left ts ≤ left ∧ (0 ≤ szN left ts → (ts.length : Int) ≤ left ∧ ∀ i (h : i < ts.length), (ts[i].1.length : Int) ≤ left) := by
  unfold szN
  split
  · exact ⟨by omega, by omega, fun h => by omega⟩
  · obtain ⟨h1, h2, h3⟩ := szGo_bounds (left - (ts.length : Int)) ts (by omega)
    exact ⟨h1, by omega, fun hs => ⟨by omega, fun i hi => by have := h3 hs i hi; omega⟩⟩
end
section
variable {β : Type} {k : Nat} {c : Value → β → List Value} {w w' : World} {ts : List (List Int × β)} {E EI : TypeId} {lo hi : Nat}
/-- The next record to be marked. -/
theorem OwN.mark_at {g n cap : Nat} {e q : Int} {ex : Int → β} {j : Nat} (hc : ∀ v b, (c v b).length = k) (h : OwN lo hi E EI k c (.slice (some ⟨g, 0, none⟩) n cap) (markN e ex q ts j) w) (hj : j < ts.length) :
    ∃ ai ci, (∀ (i : Nat) (v : Value), (c (.slice ai ts[j].1.length ci) ts[j].2)[i]? = some v → w.cell? ⟨g, j * k + i, none⟩ = some v) ∧ w.ownsRow lo EI 1 (.slice ai ts[j].1.length ci) ts[j].1.length (ts[j].1.map (Value.int .i64)) ∧
      (∀ p, (Value.slice ai ts[j].1.length ci).ownBlock = some p → lo ≤ p ∧ p < hi) ∧
      ∀ (w1 : World), w.grownBy w1 (Value.slice ai ts[j].1.length ci).ownBlock → w1.ownsRow lo EI 1 (.slice ai ts[j].1.length ci) ts[j].1.length ((marksI (startN e q ts j) ts[j].1.length).map (Value.int .i64)) →
        OwN lo hi E EI k c (.slice (some ⟨g, 0, none⟩) n cap) ((markN e ex q ts j).set j (marksI (startN e q ts j) ts[j].1.length, ts[j].2)) w1 ∧ (∀ (i : Nat) (v : Value), (c (.slice ai ts[j].1.length ci) ts[j].2)[i]? = some v → w1.cell? ⟨g, j * k + i, none⟩ = some v) := by
  have hj' : j < (markN e ex q ts j).length := by rw [markN_length]; exact hj
  have hold := markN_old e ex q ts j j hj (Nat.le_refl _)
  obtain ⟨ai, ci, h1, h2, h3, h4⟩ := h.at_ hc j hj'
  rw [hold] at h1 h2 h3 h4
  exact ⟨ai, ci, h1, h2, h3, fun w1 hg ho => h4 w1 _ (marksI_length _ _) hg ho⟩
theorem set_get {α : Type} (l : List α) (i : Nat) (x : α) (h : i < l.length) : (l.set i x)[i]'(by simpa using h) = x := by simp
/-- A call marks records of its caller's own and turns nothing else. -/
def MarksN (E EI : TypeId) (k : Nat) (c : Value → β → List Value) (e : Int) (ex : Int → β) (v : Value) (lo hi : Nat) (ts : List (List Int × β)) (q : Int) (w : World) (en : Ending) (w' : World) : Prop :=
  en = .returned (.int .i64 (startN e q ts ts.length)) ∧ Turned lo hi w w' ∧ OwN lo hi E EI k c v (markN e ex q ts ts.length) w'
end
theorem beqT {α : Type} [BEq α] [ReflBEq α] (x : α) : (x == x) = true := by simp
theorem leftOf_bounds (left : Int) (n : Nat) (h : 0 ≤ left) : -1 ≤ leftOf left n ∧ leftOf left n ≤ left ∧ (0 ≤ leftOf left n → (n : Int) ≤ left) := by
  unfold leftOf
  split
  · exact ⟨by omega, by omega, fun h => by omega⟩
  · exact ⟨by omega, by omega, fun _ => by omega⟩
section
variable {β : Type} {k : Nat} {c : Value → β → List Value} {w : World} {ts : List (List Int × β)} {E EI : TypeId} {lo hi : Nat} {v : Value}
theorem OwN.shape (h : OwN lo hi E EI k c v ts w) : ∃ a cap, v = .slice a ts.length cap := by
  obtain ⟨es, h1, h2, h3, h4⟩ := h
  exact own_shape h2.1
end
/-- A call hands back what it owns. -/
def Gv (O : Nat → Nat → Value → World → Prop) (mk : Value → Ending) (w : World) (e : Ending) (w' : World) : Prop := Below w.heap.size w w' ∧ ∃ v, e = mk v ∧ O w.heap.size w'.heap.size v w'
end Go.Proofs.Ytiilgeoahpnkpaa
