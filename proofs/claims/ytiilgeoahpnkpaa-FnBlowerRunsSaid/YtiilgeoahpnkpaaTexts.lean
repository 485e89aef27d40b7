/-
  Slices of texts: how they lie in memory, the walks of the laws' own helpers on them, and how an argument of this type reads.
-/
import Derived.Test.YtiilgeoahpnkpaaMem
import Derived.Test.YtiilgeoahpnkpaaProg
import Derived.Outline
import Derived.LoopTactic
import Derived.BigQuiet
import Derived.Deep.QuietTactic
import Derived.Deep.RegionHeld3
import Derived.Deep.Strs
namespace Go.Proofs.Ytiilgeoahpnkpaa
open Go.RowKit Go.ChangeShapes Go.WideShapes Go.Deep Go.Joins

theorem eq_waysS (a b : ByteArray) : (((a.toList == b.toList) = true ∧ (a.toList != b.toList) = false) ∧ a = b) ∨ (((a.toList == b.toList) = false ∧ (a.toList != b.toList) = true) ∧ ¬ a = b) := by
  by_cases h : a = b
  · exact .inl ⟨⟨by simp [h], by simp [h]⟩, h⟩
  · have h2 : ¬ a.toList = b.toList := fun e => h (by rw [ByteArray.toList_eq, ByteArray.toList_eq] at e; exact ByteArray.ext (Array.toList_inj.1 e))
    exact .inr ⟨⟨by simp [h2], by simp [h2]⟩, h⟩
/-- A slice at address 'a' reads as the texts 'ns'. -/
def RS (w : World) (a : Option Addr) (ns : List ByteArray) : Prop :=
  ns = [] ∨ ∃ b off, a = some ⟨b, off, none⟩ ∧ ∀ i (h : i < ns.length), w.cell? ⟨b, off + i, none⟩ = some (.string ns[i])
theorem RS.below {w w' : World} {a : Option Addr} {ns : List ByteArray} (h : RS w a ns) (hb : Below w.heap.size w w') : RS w' a ns := by
  rcases h with h | ⟨b, off, ha, h⟩
  · exact .inl h
  · refine .inr ⟨b, off, ha, fun i hi => ?_⟩
    have h1 := h i hi
    have hlt := World.block_lt_of_cell? w _ h1
    exact (hb.cell (p := ⟨b, off + i, none⟩) hlt).trans h1
theorem strs_ext (ts us : List ByteArray) (hl : ts.length = us.length) (h : ∀ i (h1 : i < ts.length) (h2 : i < us.length), ts[i] = us[i]) : decide (ts = us) = true :=
  decide_eq_true (List.ext_getElem hl fun i h1 h2 => h i h1 h2)
theorem strs_bad (ts us : List ByteArray) (i : Nat) (h1 : i < ts.length) (h2 : i < us.length) (h : ¬ ts[i] = us[i]) : decide (ts = us) = false := by
  refine decide_eq_false ?_
  rintro rfl
  exact h rfl
theorem strs_len (ts us : List ByteArray) (h : ¬ ts.length = us.length) : decide (ts = us) = false := by
  refine decide_eq_false ?_
  rintro rfl
  exact h rfl
theorem RS.addr {w : World} {a : Option Addr} {ns : List ByteArray} (h : RS w a ns) (hp : 0 < ns.length) : ∃ b off, a = some ⟨b, off, none⟩ ∧ b < w.heap.size ∧ ∀ i (h : i < ns.length), w.cell? ⟨b, off + i, none⟩ = some (.string ns[i]) := by
  rcases h with rfl | ⟨b, off, ha, h⟩
  · simp at hp
  · exact ⟨b, off, ha, World.block_lt_of_cell? w _ (h 0 hp), h⟩
theorem strs_cell (ns : List ByteArray) (i : Nat) (h : i < ns.length) : (ns.map Value.string)[i]? = some (.string ns[i]) := by
  rw [List.getElem?_map, List.getElem?_eq_getElem h]; rfl
/-- A row of the call's own that holds texts reads as them. -/
theorem rowS_RS {w : World} {lo n : Nat} {e : TypeId} {a : Option Addr} {c : Nat} {ns : List ByteArray} (hn : Hid (ns.length = n)) (h : w.ownsRow lo e 1 (.slice a n c) n (ns.map Value.string)) : RS w a ns := by
  have hcells := fun g hg => h.cells (g := g) hg
  rcases h.2 with ⟨hv, h0⟩ | ⟨g, cap, cur, hv, _⟩
  · exact .inl (List.eq_nil_of_length_eq_zero (by rw [hn.out, h0]))
  · injection hv with h1 h2 h3
    subst h1
    refine .inr ⟨g, 0, rfl, fun i hi => ?_⟩
    have e : ∀ j, (⟨g, 0, none⟩ : Addr).add j = ⟨g, j, none⟩ := fun j => by unfold Addr.add; split <;> simp_all
    have := hcells g rfl _ _ (strs_cell ns i hi)
    rw [e] at this
    simpa using this

theorem info9 : (Try.prog.info? 9).map (fun i => (i.zero, i.size, i.bytes)) = some (some (.string ByteArray.empty), 1, 16) := by kernel_rfl

/-- A call hands back a slice of its own that holds these texts; nothing that was there has turned. -/
def GivesStrs (ns : List ByteArray) (n : Nat) (w : World) (e : Ending) (w' : World) : Prop :=
  ∃ g, e = .returned (.slice (some ⟨g, 0, none⟩) n n) ∧ w.heap.size ≤ g ∧ Below w.heap.size w w' ∧ w'.ownsRow w.heap.size 9 1 (.slice (some ⟨g, 0, none⟩) n n) n (ns.map Value.string)
def FilledS (ns : List ByteArray) (cur : Array Value) (k : Nat) : Prop := ∀ i (h : i < ns.length), i < k → cur[i]? = some (.string ns[i])
theorem FilledS.step {ns : List ByteArray} {cur : Array Value} {k : Nat} (h : FilledS ns cur k) (hs : cur.size = ns.length) (hk : k < ns.length) : FilledS ns (cur.setIfInBounds k (.string ns[k])) (k + 1) := by
  intro i hi hik
  by_cases e : i = k
  · subst e
    simp [Array.getElem?_setIfInBounds]; omega
  · rw [Array.getElem?_setIfInBounds_ne (by omega)]
    exact h i hi (by omega)
theorem givesS_of {ns : List ByteArray} {n g : Nat} {w w' : World} {e : Ending} {cur : Array Value} (hn : ns.length = n) (he : e = .returned (.slice (some ⟨g, 0, none⟩) n n)) (hg : w.heap.size ≤ g) (hb : Below w.heap.size w w')
    (hh : w'.heap[g]? = some (.cells cur 9 (0, 0))) (hs : cur.size = n) (hm : ns.length ≤ 1048576) (h : FilledS ns cur n) : GivesStrs ns n w e w' := by
  subst hn
  refine ⟨g, he, hg, hb, by simp, .inr ⟨g, _, cur, rfl, hg, hh, Nat.le_refl _, by unfold maxLen; omega, by omega, ?_⟩⟩
  apply List.ext_getElem?
  intro j
  by_cases hj : j < ns.length
  · rw [List.getElem?_take_of_lt (by omega), strs_cell ns j hj]
    simpa using h j hj hj
  · rw [List.getElem?_eq_none (by simp; omega), List.getElem?_eq_none (by simp; omega)]

/-- What the laws write into a slice of texts: the texts m of the numbers k, k + 1, ... -/
def marksS (mt : Int → ByteArray) (k : Int) (n : Nat) : List ByteArray := (List.range n).map fun (i : Nat) => mt (k + (i : Int))
/-- A call marks a slice of texts of its caller's own, and turns nothing else. -/
def MarksS (mt : Int → ByteArray) (v : Value) (lo n : Nat) (k : Int) (w : World) (e : Ending) (w' : World) : Prop :=
  e = .returned (.int .i64 (k + (n : Int))) ∧ w.grownBy w' v.ownBlock ∧ w'.ownsRow lo 9 1 v n ((marksS mt k n).map Value.string)
theorem FilledS.stepM {ns : List ByteArray} {cur : Array Value} {k : Nat} (h : FilledS ns cur k) (hs : k < cur.size) (hk : k < ns.length) : FilledS ns (cur.setIfInBounds k (.string ns[k])) (k + 1) := by
  intro i hi hik
  by_cases e : i = k
  · subst e
    simp [Array.getElem?_setIfInBounds]; omega
  · rw [Array.getElem?_setIfInBounds_ne (by omega)]
    exact h i hi (by omega)
theorem rowS_ownM {w : World} {lo g n c : Nat} {e : TypeId} {ns : List ByteArray} {cur : Array Value} (hg : w.heap[g]? = some (.cells cur e (0, 0))) (hlo : lo ≤ g) (hnc : n ≤ c) (hm : c ≤ maxLen) (hs : cur.size = c * 1) (hl : ns.length = n) (h : FilledS ns cur n) :
    w.ownsRow lo e 1 (.slice (some ⟨g, 0, none⟩) n c) n (ns.map Value.string) := by
  subst hl
  refine ⟨by simp, .inr ⟨g, c, cur, rfl, hlo, hg, hnc, hm, hs, ?_⟩⟩
  apply List.ext_getElem?
  intro j
  by_cases hj : j < ns.length
  · rw [List.getElem?_take_of_lt (by omega), strs_cell ns j hj]
    simpa using h j hj hj
  · rw [List.getElem?_eq_none (by simp; omega), List.getElem?_eq_none (by simp; omega)]

theorem own_RS {w : World} {lo n c : Nat} {a : Option Addr} {e : TypeId} {ns : List ByteArray} (hn : Hid (ns.length = n)) (h : w.ownsRow lo e 1 (.slice a n c) n (ns.map Value.string)) : RS w a ns := by
  rcases h.2 with ⟨hv, hz⟩ | ⟨g, cap, cur, hv, _, hg, _, _, _, ht⟩
  · left
    exact List.eq_nil_of_length_eq_zero (by rw [hn.out]; exact hz)
  · injection hv with h1 h2 h3
    refine .inr ⟨g, 0, h1, fun i hi => ?_⟩
    have hc := cell_of_row w g (0 + i) cur e (0, 0) hg
    rw [hc]
    have h4 := strs_cell ns i hi
    rw [← ht, List.getElem?_take_of_lt (by rw [hn.out] at hi; omega)] at h4
    simpa using h4
/-- A value is a slice of texts: the texts lie in memory. -/
def TextsIn (w : World) (v : Value) (x : List ByteArray) : Prop :=
  ∃ a n cap, v = .slice a n cap ∧ Hid (x.length = n) ∧ n ≤ maxLen ∧ RS w a x ∧ ∀ s ∈ x, s.size ≤ maxLen
/-- So much is enough for so many texts, and for each. -/
def EnoughS (left : Int) (n : Nat) (ss : List ByteArray) : Prop := (n : Int) ≤ left ∧ ∀ s ∈ ss, (s.size : Int) ≤ left
end Go.Proofs.Ytiilgeoahpnkpaa
