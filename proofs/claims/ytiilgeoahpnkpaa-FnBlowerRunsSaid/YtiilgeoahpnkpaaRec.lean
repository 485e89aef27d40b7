/-
  Plain facts on rows of memory that hold records of k cells each; the cells of a record are told by a function. Nothing of the program stands here.
-/
import Derived.Test.YtiilgeoahpnkpaaBase
namespace Go.Proofs.Ytiilgeoahpnkpaa
open Go.RowKit

/-- A slice at address 'a' reads as the records 'ts', each of k cells 'c'. -/
def RR {α : Type} (k : Nat) (c : α → List Value) (w : World) (a : Option Addr) (ts : List α) : Prop :=
  ts = [] ∨ ∃ b off, a = some ⟨b, off, none⟩ ∧ b < w.heap.size ∧ ∀ i (h : i < ts.length) (j : Nat) (v : Value), (c ts[i])[j]? = some v → w.cell? ⟨b, off + i * k + j, none⟩ = some v
theorem RR.below {α : Type} {k : Nat} {c : α → List Value} {w w' : World} {a : Option Addr} {ts : List α} (h : RR k c w a ts) (hb : Below w.heap.size w w') : RR k c w' a ts := by
  rcases h with h | ⟨b, off, ha, hlt, h⟩
  · exact .inl h
  · refine .inr ⟨b, off, ha, by have := hb.size; omega, fun i hi j v hj => ?_⟩
    exact (hb.cell (p := ⟨b, off + i * k + j, none⟩) hlt).trans (h i hi j v hj)
theorem RR.addr {α : Type} {k : Nat} {c : α → List Value} {w : World} {a : Option Addr} {ts : List α} (h : RR k c w a ts) (hp : 0 < ts.length) :
    ∃ b off, a = some ⟨b, off, none⟩ ∧ b < w.heap.size ∧ ∀ i (h : i < ts.length) (j : Nat) (v : Value), (c ts[i])[j]? = some v → w.cell? ⟨b, off + i * k + j, none⟩ = some v := by
  rcases h with rfl | ⟨b, off, ha, hlt, h⟩
  · simp at hp
  · exact ⟨b, off, ha, hlt, h⟩
theorem rflat_length {α : Type} {k : Nat} {c : α → List Value} (hc : ∀ t, (c t).length = k) (ts : List α) : (ts.flatMap c).length = ts.length * k := by
  induction ts with
  | nil => simp
  | cons t ts ih => simp only [List.flatMap_cons, List.length_append, List.length_cons, ih, hc, Nat.succ_mul]; omega
theorem rflat_get {α : Type} {k : Nat} {c : α → List Value} (hc : ∀ t, (c t).length = k) (ts : List α) (i : Nat) (h : i < ts.length) (j : Nat) (hj : j < k) : (ts.flatMap c)[i * k + j]? = (c ts[i])[j]? := by
  induction ts generalizing i with
  | nil => simp at h
  | cons t ts ih =>
    rw [List.flatMap_cons]
    cases i with
    | zero => rw [List.getElem?_append_left (by rw [hc]; omega)]; simp
    | succ i =>
      rw [List.getElem?_append_right (by rw [hc, Nat.succ_mul]; omega), hc]
      rw [show (i + 1) * k + j - k = i * k + j by rw [Nat.succ_mul]; omega, ih i (by simpa using h)]
      rfl
theorem rflat_take {α : Type} {k : Nat} {c : α → List Value} (hk : 0 < k) (hc : ∀ t, (c t).length = k) (ts : List α) (cs : List Value) (hl : ts.length * k ≤ cs.length)
    (h : ∀ i (h : i < ts.length) (j : Nat) (v : Value), (c ts[i])[j]? = some v → cs[i * k + j]? = some v) : cs.take (ts.length * k) = ts.flatMap c := by
  apply List.ext_getElem?
  intro p
  by_cases hp : p < ts.length * k
  · rw [List.getElem?_take_of_lt hp]
    have hi : p / k < ts.length := Nat.div_lt_of_lt_mul (by rw [Nat.mul_comm]; exact hp)
    have hj := Nat.mod_lt p hk
    have e : p = p / k * k + p % k := by rw [Nat.mul_comm]; exact (Nat.div_add_mod p k).symm
    obtain ⟨v, hv⟩ : ∃ v, (c (ts[p / k]'hi))[p % k]? = some v := ⟨(c (ts[p / k]'hi))[p % k]'(by rw [hc]; exact hj), List.getElem?_eq_getElem _⟩
    have h1 := h _ hi _ v hv
    have h2 := rflat_get hc ts _ hi _ hj
    rw [← e] at h1 h2
    rw [h1, h2, hv]
  · rw [List.getElem?_eq_none (by simp; omega), List.getElem?_eq_none (by rw [rflat_length hc]; omega)]
theorem own_RR {α : Type} {k : Nat} {c : α → List Value} (hc : ∀ t, (c t).length = k) {w : World} {lo n : Nat} {e : TypeId} {a : Option Addr} {cap : Nat} {ts : List α} (hn : Hid (ts.length = n)) (h : w.ownsRow lo e k (.slice a n cap) n (ts.flatMap c)) : RR k c w a ts := by
  have hcells := fun g hg => h.cells (g := g) hg
  have := hn.out
  subst this
  rcases h.2 with ⟨hv, hn⟩ | ⟨g, cap', cur, hv, hlo, hh, _⟩
  · exact .inl (List.eq_nil_of_length_eq_zero hn)
  · injection hv with h1 h2 h3
    subst h1
    refine .inr ⟨g, 0, rfl, (Array.getElem?_eq_some_iff.1 hh).1, fun i hi j v hj => ?_⟩
    have hjk : j < k := by rw [← hc ts[i]]; exact (List.getElem?_eq_some_iff.1 hj).1
    have e : ∀ j, (⟨g, 0, none⟩ : Addr).add j = ⟨g, j, none⟩ := fun j => by unfold Addr.add; split <;> simp_all
    have := hcells g rfl _ _ ((rflat_get hc ts i hi j hjk).trans hj)
    rw [e] at this
    simpa using this
theorem row_rown {α : Type} {k : Nat} {c : α → List Value} (hk : 0 < k) (hc : ∀ t, (c t).length = k) {w : World} {lo g : Nat} {e : TypeId} {ts : List α} {cur : Array Value} (hg : w.heap[g]? = some (.cells cur e (0, 0))) (hlo : lo ≤ g) (hm : ts.length ≤ maxLen) (hs : cur.size = ts.length * k)
    (h : ∀ i (h : i < ts.length) (j : Nat) (v : Value), (c ts[i])[j]? = some v → cur[i * k + j]? = some v) :
    w.ownsRow lo e k (.slice (some ⟨g, 0, none⟩) ts.length ts.length) ts.length (ts.flatMap c) :=
  ⟨rflat_length hc ts, .inr ⟨g, ts.length, cur, rfl, hlo, hg, Nat.le_refl _, hm, hs, rflat_take hk hc ts cur.toList (by simp; omega) (fun i hi j v hj => by simpa using h i hi j v hj)⟩⟩
/-- The first m records of 'ts' stand in the cells. -/
def FilledR {α : Type} (k : Nat) (c : α → List Value) (ts : List α) (cur : Array Value) (m : Nat) : Prop := ∀ i (h : i < ts.length), i < m → ∀ (j : Nat) (v : Value), (c ts[i])[j]? = some v → cur[i * k + j]? = some v
theorem FilledR.zero {α : Type} (k : Nat) (c : α → List Value) (ts : List α) (cur : Array Value) : FilledR k c ts cur 0 := fun _ _ h => by omega
theorem FilledR.next {α : Type} {k : Nat} {c : α → List Value} (hc : ∀ t, (c t).length = k) {ts : List α} {cur cur' : Array Value} {m : Nat} (h : FilledR k c ts cur m) (hk : m < ts.length)
    (h1 : ∀ p, p < m * k → cur'[p]? = cur[p]?) (h2 : ∀ (j : Nat) (v : Value), (c ts[m])[j]? = some v → cur'[m * k + j]? = some v) : FilledR k c ts cur' (m + 1) := by
  intro i hi him j v hj
  by_cases e : i = m
  · subst e; exact h2 j v hj
  · have hjk : j < k := by rw [← hc ts[i]]; exact (List.getElem?_eq_some_iff.1 hj).1
    have : i * k + k ≤ m * k := by rw [← Nat.succ_mul]; exact Nat.mul_le_mul_right k (by omega)
    rw [h1 _ (by omega)]
    exact h i hi (by omega) j v hj
/-- A call hands back a slice of its own that holds these records; nothing that was there has turned. -/
def GivesR {α : Type} (E : TypeId) (k : Nat) (c : α → List Value) (ts : List α) (n : Nat) (w : World) (e : Ending) (w' : World) : Prop :=
  ∃ g, e = .returned (.slice (some ⟨g, 0, none⟩) n n) ∧ w.heap.size ≤ g ∧ Below w.heap.size w w' ∧ w'.ownsRow w.heap.size E k (.slice (some ⟨g, 0, none⟩) n n) n (ts.flatMap c)
theorem givesR_of {α : Type} {E : TypeId} {k : Nat} {c : α → List Value} (hk : 0 < k) (hc : ∀ t, (c t).length = k) {ts : List α} {n g : Nat} {w w' : World} {e : Ending} {cur : Array Value} (hn : ts.length = n) (he : e = .returned (.slice (some ⟨g, 0, none⟩) n n)) (hg : w.heap.size ≤ g) (hb : Below w.heap.size w w')
    (hh : w'.heap[g]? = some (.cells cur E (0, 0))) (hs : cur.size = n * k) (hm : ts.length ≤ 1048576)
    (h : ∀ i (h : i < ts.length) (j : Nat) (v : Value), (c ts[i])[j]? = some v → cur[i * k + j]? = some v) : GivesR E k c ts n w e w' := by
  subst hn
  exact ⟨g, he, hg, hb, row_rown hk hc hh hg (by unfold maxLen; omega) hs h⟩
theorem eqL_ext {α : Type} [BEq α] [LawfulBEq α] (ts us : List α) (hl : ts.length = us.length) (h : ∀ i (h1 : i < ts.length) (h2 : i < us.length), (ts[i] == us[i]) = true) : (ts == us) = true := by
  rw [beq_iff_eq]
  exact List.ext_getElem hl fun i h1 h2 => by simpa using h i h1 h2
theorem eqL_bad {α : Type} [BEq α] [LawfulBEq α] (ts us : List α) (i : Nat) (h1 : i < ts.length) (h2 : i < us.length) (h : (ts[i] == us[i]) = false) : (ts == us) = false := by
  rw [beq_eq_false_iff_ne]
  rintro rfl
  simp at h
theorem eqL_len {α : Type} [BEq α] [LawfulBEq α] (ts us : List α) (h : ¬ ts.length = us.length) : (ts == us) = false := by
  rw [beq_eq_false_iff_ne]
  rintro rfl
  exact h rfl
theorem heap_alloc_at (w : World) (o : Obj) (g : Nat) (h : g = w.heap.size) : (w.alloc o).heap[g]? = some o := by subst h; exact heap_alloc_new w o
/-- The cells of a box. -/
def Box (w : World) (b : Nat) (vs : List Value) : Prop := b < w.heap.size ∧ ∀ (j : Nat) (v : Value), vs[j]? = some v → w.cell? ⟨b, j, none⟩ = some v
theorem Box.below {w w' : World} {b : Nat} {vs : List Value} (h : Box w b vs) (hb : Below w.heap.size w w') : Box w' b vs :=
  ⟨Nat.lt_of_lt_of_le h.1 hb.size, fun j v hj => (hb.cell (p := ⟨b, j, none⟩) h.1).trans (h.2 j v hj)⟩
theorem Box.alloc (w : World) (vs : List Value) (e : TypeId) : Box (w.alloc (.cells vs.toArray e)) w.heap.size vs :=
  ⟨by simp, fun j v hj => by simp [go_sem, hj]⟩
theorem Box.alloc' (w : World) (vs : List Value) (e : TypeId) (g : Nat) (h : g = w.heap.size) : Box (w.alloc (.cells vs.toArray e)) g vs := by subst h; exact Box.alloc w vs e
theorem Box.RR {α : Type} {k : Nat} {c : α → List Value} {w : World} {b : Nat} {t : α} (h : Box w b (c t)) : RR k c w (some ⟨b, 0, none⟩) [t] := by
  refine .inr ⟨b, 0, rfl, h.1, fun i hi j v hj => ?_⟩
  have : i = 0 := by simp at hi; omega
  subst this
  rw [show 0 + 0 * k + j = j by omega]
  exact h.2 j v (by simpa using hj)
end Go.Proofs.Ytiilgeoahpnkpaa
