/-
  Plain facts on zones: when they are valid; the changes of one zone; the level at a tick; ticks with a level, counted by phases and by changes; the first tick with a level for some ticks. Nothing of the program stands here.
-/
import Derived.Test.YtghpefdleiebmaaBase
namespace Go.Proofs.Ytghpefdleiebmaa

abbrev C3 := Int × Int × Int
def chB (z : Int) (c : C3) : Bool := inB c.1 0 10000 && (inB c.2.1 0 (z - 1) && inB c.2.2 (-100) 100)
def ltC (a b : C3) : Prop := a.1 < b.1 ∨ a.1 = b.1 ∧ a.2.1 < b.2.1
def ZonP (t : Int × List Int × List C3) : Prop :=
  1 ≤ t.1 ∧ t.1 ≤ 8 ∧ t.2.1.length ≤ 24 ∧ t.2.2.length ≤ 60 ∧ (t.2.1.all (fun k => inB k 0 (t.1 - 1))) = true ∧ (∀ i (h : i < t.2.2.length), chB t.1 t.2.2[i] = true) ∧ ∀ i (h : i + 1 < t.2.2.length), ltC (t.2.2[i]'(by omega)) t.2.2[i + 1]
open Classical in
noncomputable def zonB (t : Int × List Int × List C3) : Bool := decide (ZonP t)
open Classical in
theorem zonB_yes {t : Int × List Int × List C3} (h : ZonP t) : zonB t = true := by unfold zonB; exact decide_eq_true h
open Classical in
theorem zonB_no {t : Int × List Int × List C3} (h : ¬ ZonP t) : zonB t = false := by unfold zonB; exact decide_eq_false h
open Classical in
theorem zonB_of {t : Int × List Int × List C3} (h : zonB t = true) : ZonP t := by unfold zonB at h; exact of_decide_eq_true h
theorem chB_parts {z : Int} {c : C3} (h : chB z c = true) : (0 ≤ c.1 ∧ c.1 ≤ 10000) ∧ (0 ≤ c.2.1 ∧ c.2.1 ≤ z - 1) ∧ -100 ≤ c.2.2 ∧ c.2.2 ≤ 100 := by
  unfold chB inB at h
  simp only [Bool.and_eq_true, decide_eq_true_eq] at h
  exact ⟨h.1, h.2.1, h.2.2⟩
theorem ltC_trans {a b c : C3} (h : ltC a b) (k : ltC b c) : ltC a c := by unfold ltC at *; omega
theorem pairs_of {cs : List C3} (h : ∀ i (h : i + 1 < cs.length), ltC (cs[i]'(by omega)) cs[i + 1]) : cs.Pairwise ltC := by
  induction cs with
  | nil => exact .nil
  | cons a l ih =>
    have hl : l.Pairwise ltC := ih (fun i hi => by have := h (i + 1) (by simp; omega); simpa using this)
    refine .cons ?_ hl
    intro b hb
    cases l with
    | nil => simp at hb
    | cons c l =>
      have h0 : ltC a c := by simpa using h 0 (by simp)
      rcases List.mem_cons.1 hb with rfl | hb
      · exact h0
      · exact ltC_trans h0 ((List.pairwise_cons.1 hl).1 b hb)
/-- The changes of a zone. -/
def hisL (cs : List C3) (z : Int) : List C3 := cs.filter (fun c => c.2.1 == z)
abbrev Rising (h : List C3) : Prop := h.Pairwise (fun a b => a.1 < b.1)
theorem hisL_rising {cs : List C3} (h : cs.Pairwise ltC) (z : Int) : Rising (hisL cs z) := by
  unfold hisL Rising
  rw [List.pairwise_filter]
  refine h.imp ?_
  intro a b hab ha hb
  unfold ltC at hab
  simp only [beq_iff_eq] at ha hb
  omega
theorem hisL_mem {cs : List C3} {z : Int} {c : C3} (h : c ∈ hisL cs z) : c ∈ cs ∧ c.2.1 = z := by
  unfold hisL at h
  rw [List.mem_filter] at h
  exact ⟨h.1, by simpa using h.2⟩
theorem hisL_len (cs : List C3) (z : Int) : (hisL cs z).length ≤ cs.length := List.length_filter_le _ _
/-- The level of the last change. -/
def lastL (l : List C3) : Int := (l.getLast?.map (·.2.2)).getD 0
def levH (h : List C3) (t : Int) : Int := lastL (h.filter (fun c => decide (c.1 ≤ t)))
theorem lastL_nil : lastL [] = 0 := rfl
theorem lastL_snoc (l : List C3) (c : C3) : lastL (l ++ [c]) = c.2.2 := by simp [lastL]
theorem take_snoc {α : Type} (l : List α) (k : Nat) (h : k < l.length) : l.take (k + 1) = l.take k ++ [l[k]] := List.take_succ_eq_append_getElem h
theorem rising_filter {h : List C3} (hr : Rising h) {t : Int} {b : Nat} (hb : b ≤ h.length) (h1 : ∀ i (hi : i < h.length), i < b → h[i].1 ≤ t) (h2 : ∀ i (hi : i < h.length), b ≤ i → t < h[i].1) : h.filter (fun c => decide (c.1 ≤ t)) = h.take b := by
  induction h generalizing b with
  | nil => simp
  | cons c h ih =>
    have hr' := (List.pairwise_cons.1 hr).2
    cases b with
    | zero =>
      have h0 := h2 0 (by simp) (by omega)
      simp only [List.getElem_cons_zero] at h0
      rw [List.take_zero, List.filter_eq_nil_iff]
      intro x hx
      obtain ⟨i, hi, rfl⟩ := List.getElem_of_mem hx
      have := h2 i hi (by omega)
      simp; omega
    | succ b =>
      have h0 := h1 0 (by simp) (by omega)
      simp only [List.getElem_cons_zero] at h0
      rw [List.take_succ_cons, List.filter_cons_of_pos (by simpa using h0), ih hr' (by simpa using hb)]
      · intro i hi hib; have := h1 (i + 1) (by simp; omega) (by omega); simpa using this
      · intro i hi hib; have := h2 (i + 1) (by simp; omega) (by omega); simpa using this
theorem levH_take {h : List C3} (hr : Rising h) {t : Int} {b : Nat} (hb : b ≤ h.length) (h1 : ∀ i (hi : i < h.length), i < b → h[i].1 ≤ t) (h2 : ∀ i (hi : i < h.length), b ≤ i → t < h[i].1) : levH h t = lastL (h.take b) := by
  unfold levH
  rw [rising_filter hr hb h1 h2]
theorem lastL_take {h : List C3} {b : Nat} (hb : b + 1 ≤ h.length) : lastL (h.take (b + 1)) = (h[b]'(by omega)).2.2 := by
  rw [take_snoc _ _ (by omega), lastL_snoc]
/-- The model's way: the changes of all zones, up to the tick. -/
theorem levH_all {cs : List C3} (hs : cs.Pairwise ltC) (z : Int) {t : Int} {b : Nat} (hb : b ≤ cs.length) (h1 : ∀ i (hi : i < cs.length), i < b → cs[i].1 ≤ t) (h2 : ∀ (hi : b < cs.length), t < cs[b].1) : levH (hisL cs z) t = lastL (hisL (cs.take b) z) := by
  have h2' : ∀ i (hi : i < cs.length), b ≤ i → t < cs[i].1 := by
    intro i hi hbi
    have hb' : b < cs.length := by omega
    have h3 := h2 hb'
    by_cases e : b = i
    · subst e; exact h3
    · have := List.pairwise_iff_getElem.1 hs b i hb' hi (by omega)
      unfold ltC at this
      omega
  unfold levH hisL
  rw [List.filter_filter]
  have e1 : cs = cs.take b ++ cs.drop b := (List.take_append_drop b cs).symm
  have hd : (cs.drop b).filter (fun c => decide (c.1 ≤ t) && c.2.1 == z) = [] := by
    rw [List.filter_eq_nil_iff]
    intro x hx
    obtain ⟨i, hi, rfl⟩ := List.getElem_of_mem hx
    rw [List.getElem_drop]
    have := h2' (b + i) (by simp at hi; omega) (by omega)
    simp; omega
  have ht : (cs.take b).filter (fun c => decide (c.1 ≤ t) && c.2.1 == z) = (cs.take b).filter (fun c => c.2.1 == z) := by
    apply List.filter_congr
    intro x hx
    obtain ⟨i, hi, rfl⟩ := List.getElem_of_mem hx
    rw [List.getElem_take]
    have := h1 i (by simp at hi; omega) (by simp at hi; omega)
    simp [this]
  congr 1
  conv => lhs; rw [e1]
  rw [List.filter_append, hd, List.append_nil, ht]
theorem hisL_hit {cs : List C3} {z : Int} {k : Nat} (hk : k < cs.length) (h : cs[k].2.1 = z) : hisL (cs.take (k + 1)) z = hisL (cs.take k) z ++ [cs[k]] := by
  unfold hisL
  rw [take_snoc _ _ hk, List.filter_append]
  simp [h]
theorem hisL_miss {cs : List C3} {z : Int} {k : Nat} (hk : k < cs.length) (h : ¬ cs[k].2.1 = z) : hisL (cs.take (k + 1)) z = hisL (cs.take k) z := by
  unfold hisL
  rw [take_snoc _ _ hk, List.filter_append]
  simp [h]

/-- Ticks ahead of an end with at least a level, by phases; the last phase ends at the greatest number. -/
def tkI (least e : Int) : Int → Int → List C3 → Int
  | f, l, [] => if least ≤ l then max 0 (min 9223372036854775807 e - f) else 0
  | f, l, c :: h => (if least ≤ l then max 0 (min c.1 e - f) else 0) + tkI least e c.1 c.2.2 h
/-- .. by changes. -/
def tkS (least e : Int) : Int → Int → List C3 → Int
  | f, l, [] => if least ≤ l then e - f else 0
  | f, l, c :: h => if e ≤ c.1 then tkS least e f l h else (if least ≤ l then c.1 - f else 0) + tkS least e c.1 c.2.2 h
theorem tkI_late (least e : Int) : ∀ (h : List C3) (f l : Int), e ≤ f → Rising h → (∀ c ∈ h, f < c.1) → tkI least e f l h = 0
  | [], f, l, hf, _, _ => by unfold tkI; split <;> omega
  | c :: h, f, l, hf, hr, hm => by
    unfold tkI
    have h1 := hm c (by simp)
    have h2 := List.pairwise_cons.1 hr
    rw [tkI_late least e h c.1 c.2.2 (by omega) h2.2 h2.1]
    split <;> omega
theorem tkS_late (least e : Int) : ∀ (h : List C3) (f l : Int), (∀ c ∈ h, e ≤ c.1) → tkS least e f l h = if least ≤ l then e - f else 0
  | [], f, l, _ => rfl
  | c :: h, f, l, hm => by
    unfold tkS
    rw [if_pos (hm c (by simp)), tkS_late least e h f l (fun x hx => hm x (by simp [hx]))]
theorem tk_same (least e : Int) (he : e ≤ 9223372036854775807) : ∀ (h : List C3) (f l : Int), f ≤ e → Rising h → (∀ c ∈ h, f ≤ c.1) → tkI least e f l h = tkS least e f l h
  | [], f, l, hf, _, _ => by unfold tkI tkS; split <;> omega
  | c :: h, f, l, hf, hr, hm => by
    have h1 := hm c (by simp)
    have h2 := List.pairwise_cons.1 hr
    by_cases hc : e ≤ c.1
    · rw [tkS_late least e (c :: h) f l (fun x hx => by
        rcases List.mem_cons.1 hx with rfl | hx
        · exact hc
        · have := h2.1 x hx; omega)]
      unfold tkI
      rw [tkI_late least e h c.1 c.2.2 hc h2.2 h2.1]
      split <;> omega
    · unfold tkI tkS
      rw [if_neg hc, tk_same least e he h c.1 c.2.2 (by omega) h2.2 (fun x hx => by have := h2.1 x hx; omega)]
      split <;> omega
/-- The first tick with at least a level for some ticks, by phases. -/
def faI (least ticks : Int) : Int → Int → List C3 → Option Int
  | f, l, [] => if l < least then none else if ticks ≤ 9223372036854775807 - f then some f else none
  | f, l, c :: h => if l < least then faI least ticks (max f c.1) c.2.2 h else if ticks ≤ c.1 - f then some f else faI least ticks f c.2.2 h
/-- .. by the changes behind the first tick; the beginning is -1 where the level is lower. -/
def faS (least ticks : Int) : Int → List C3 → Option Int
  | b, [] => if b < 0 then none else some b
  | b, c :: h => if 0 ≤ b ∧ ticks ≤ c.1 - b then some b else faS least ticks (if c.2.2 < least then -1 else if b < 0 then c.1 else b) h
theorem fa_same (least ticks : Int) (ht : 1 ≤ ticks ∧ ticks ≤ 10000) : ∀ (h : List C3) (f l b : Int), 0 ≤ f → f ≤ 10000 → Rising h → (∀ c ∈ h, f ≤ c.1 ∧ c.1 ≤ 10000) → ((b = f ∧ least ≤ l) ∨ (b = -1 ∧ l < least)) → faI least ticks f l h = faS least ticks b h
  | [], f, l, b, h0, h1, _, _, hb => by
    unfold faI faS
    rcases hb with ⟨rfl, hl⟩ | ⟨rfl, hl⟩
    · rw [if_neg (by omega), if_pos (by omega), if_neg (by omega)]
    · rw [if_pos hl, if_pos (by omega)]
  | c :: h, f, l, b, h0, h1, hr, hm, hb => by
    obtain ⟨hc, hc2⟩ := hm c (by simp)
    obtain ⟨ha, hr'⟩ := List.pairwise_cons.1 hr
    have hm' : ∀ x ∈ h, c.1 ≤ x.1 ∧ x.1 ≤ 10000 := fun x hx => ⟨by have := ha x hx; omega, (hm x (by simp [hx])).2⟩
    unfold faI faS
    rcases hb with ⟨rfl, hl⟩ | ⟨rfl, hl⟩
    · rw [if_neg (by omega : ¬ l < least)]
      by_cases hk : ticks ≤ c.1 - b
      · rw [if_pos hk, if_pos ⟨h0, hk⟩]
      · rw [if_neg hk, if_neg (fun h => hk h.2)]
        refine fa_same least ticks ht h b c.2.2 _ h0 h1 hr' (fun x hx => ⟨by have := hm' x hx; omega, (hm' x hx).2⟩) ?_
        by_cases h3 : c.2.2 < least
        · rw [if_pos h3]; exact .inr ⟨rfl, h3⟩
        · rw [if_neg h3, if_neg (by omega)]; exact .inl ⟨rfl, by omega⟩
    · rw [if_pos hl, if_neg (by omega), show max f c.1 = c.1 by omega]
      refine fa_same least ticks ht h c.1 c.2.2 _ (by omega) hc2 hr' hm' ?_
      by_cases h3 : c.2.2 < least
      · rw [if_pos h3]; exact .inr ⟨rfl, h3⟩
      · rw [if_neg h3, if_pos (by omega)]; exact .inl ⟨rfl, by omega⟩
/-- Changes up to the first tick only turn the level. -/
theorem faI_cons (least ticks f l : Int) (c : C3) (h : List C3) : faI least ticks f l (c :: h) = if l < least then faI least ticks (max f c.1) c.2.2 h else if ticks ≤ c.1 - f then some f else faI least ticks f c.2.2 h := rfl
theorem lastD (c : C3) (h : List C3) (l : Int) : (((c :: h).getLast?).map (·.2.2)).getD l = ((h.getLast?).map (·.2.2)).getD c.2.2 := by
  rw [List.getLast?_cons]
  cases h.getLast? <;> rfl
theorem fa_skip (least ticks from_ : Int) (ht : 1 ≤ ticks) : ∀ (h g : List C3) (l : Int), (∀ c ∈ h, c.1 ≤ from_) → faI least ticks from_ l (h ++ g) = faI least ticks from_ (((h.getLast?).map (·.2.2)).getD l) g
  | [], g, l, _ => rfl
  | c :: h, g, l, hm => by
    have hc := hm c (by simp)
    rw [lastD, List.cons_append, faI_cons]
    by_cases hl : l < least
    · rw [if_pos hl, show max from_ c.1 = from_ by omega]
      exact fa_skip least ticks from_ ht h g c.2.2 (fun x hx => hm x (by simp [hx]))
    · rw [if_neg hl, if_neg (by omega)]
      exact fa_skip least ticks from_ ht h g c.2.2 (fun x hx => hm x (by simp [hx]))
end Go.Proofs.Ytghpefdleiebmaa
