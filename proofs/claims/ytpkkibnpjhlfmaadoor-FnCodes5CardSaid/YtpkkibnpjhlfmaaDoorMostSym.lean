/-
  All words are alike: the greatest set of words that fit each other has the first one, plain facts on lists.
-/
import Derived.Test.YtpkkibnpjhlfmaaDoorMostSpec
namespace Go.Proofs.YtpkkibnpjhlfmaaDoor
open Go.RowKit

theorem nodup_len {α : Type} [DecidableEq α] : ∀ (T U : List α), T.Nodup → (∀ a ∈ T, a ∈ U) → T.length ≤ U.length
  | [], _, _, _ => by simp
  | a :: T, U, hn, hs => by
    have hn' := List.nodup_cons.1 hn
    have ih := nodup_len T (U.filter (fun b => decide (b ≠ a))) hn'.2 (fun b hb => List.mem_filter.2 ⟨hs b (List.mem_cons_of_mem _ hb), by simp; rintro rfl; exact hn'.1 hb⟩)
    have hl : (U.filter (fun b => decide (b ≠ a))).length < U.length := List.length_filter_lt_length_iff_exists.2 ⟨a, hs a (by simp), by simp⟩
    simp
    omega
theorem pairwise_of {α : Type} {R : α → α → Prop} : ∀ {l : List α}, l.Nodup → (∀ a ∈ l, ∀ b ∈ l, a ≠ b → R a b) → l.Pairwise R
  | [], _, _ => List.Pairwise.nil
  | a :: l, hn, h => by
    have hn' := List.nodup_cons.1 hn
    exact List.pairwise_cons.2 ⟨fun b hb => h a (by simp) b (by simp [hb]) (by rintro rfl; exact hn'.1 hb), pairwise_of hn'.2 (fun x hx y hy => h x (by simp [hx]) y (by simp [hy]))⟩
/-- A set of elements that fit each other two by two is no greater than the greatest one. -/
theorem om_set {α : Type} [DecidableEq α] {F : α → α → Bool} {l T : List α} (hl : l.Nodup) (hn : T.Nodup) (hs : ∀ a ∈ T, a ∈ l) (hf : ∀ a ∈ T, ∀ b ∈ T, a ≠ b → F a b = true) : T.length ≤ om F l := by
  have h1 : T.length ≤ (l.filter (fun a => decide (a ∈ T))).length := nodup_len T _ hn (fun a ha => List.mem_filter.2 ⟨hs a ha, by simpa using ha⟩)
  have h2 : (l.filter (fun a => decide (a ∈ T))).length ≤ om F l := om_le List.filter_sublist (pairwise_of (hl.filter _) (fun a ha b hb hne => hf a (by simpa using (List.mem_filter.1 ha).2) b (by simpa using (List.mem_filter.1 hb).2) hne))
  omega

def fitL (d : Int) (a b : List UInt8) : Bool := decide (d ≤ ((farL a b : Nat) : Int))
theorem fitB_bas (d : Int) (a b : List UInt8) : fitB d ⟨a.toArray⟩ ⟨b.toArray⟩ = fitL d a b := rfl
theorem om_bas (d : Int) (l : List (List UInt8)) : om (fitB d) (bas l) = om (fitL d) l := om_map (fitB d) (fun l => ⟨l.toArray⟩) _ l (Nat.le_refl _)

/-- The letter x, moved so that s becomes the first letter. -/
def movC (g : Nat) (s x : UInt8) : UInt8 := UInt8.ofNat (97 + (x.toNat + g - s.toNat) % g)
theorem movC_mem : ∀ g : Fin 5, 2 ≤ g.val → ∀ s ∈ lettersL g.val, ∀ x ∈ lettersL g.val, movC g.val s x ∈ lettersL g.val ∧ movC g.val s s = 97 ∧ ∀ y ∈ lettersL g.val, movC g.val s x = movC g.val s y → x = y := by decide
def movW (g : Nat) (s x : List UInt8) : List UInt8 := List.zipWith (movC g) s x
theorem movW_length {g : Nat} {s x : List UInt8} (h : s.length = x.length) : (movW g s x).length = x.length := by simp [movW, h]
theorem movW_getD {g : Nat} {s x : List UInt8} (h : s.length = x.length) {j : Nat} (hj : j < x.length) : (movW g s x).getD j 0 = movC g (s.getD j 0) (x.getD j 0) := by
  have h1 : j < s.length := by omega
  simp [movW, List.getD_eq_getElem?_getD, List.getElem?_zipWith, List.getElem?_eq_getElem hj, List.getElem?_eq_getElem h1]
theorem getD_mem {x : List UInt8} {j : Nat} (h : j < x.length) : x.getD j 0 ∈ x := by
  rw [List.getD_eq_getElem?_getD, List.getElem?_eq_getElem h]; exact List.getElem_mem h
def InW (g r : Nat) (x : List UInt8) : Prop := x.length = r ∧ ∀ b ∈ x, b ∈ lettersL g
theorem farN_congr {x y u v : List UInt8} : ∀ k, (∀ j, j < k → (x.getD j 0 = y.getD j 0 ↔ u.getD j 0 = v.getD j 0)) → farN x y k = farN u v k
  | 0, _ => rfl
  | k + 1, h => by
    have ih := farN_congr k (fun j hj => h j (by omega))
    by_cases e : x.getD k 0 = y.getD k 0
    · rw [farN_same _ _ _ e, farN_same _ _ _ ((h k (by omega)).1 e), ih]
    · rw [farN_more _ _ _ e, farN_more _ _ _ (fun e2 => e ((h k (by omega)).2 e2)), ih]
theorem movW_far {g r : Nat} (h2 : 2 ≤ g) (h4 : g ≤ 4) {s x y : List UInt8} (hs : InW g r s) (hx : InW g r x) (hy : InW g r y) : farL (movW g s x) (movW g s y) = farL x y := by
  have e1 := movW_length (g := g) (s := s) (x := x) (by rw [hs.1, hx.1])
  unfold farL
  rw [e1]
  refine (farN_congr _ fun j hj => ?_).symm
  have hjy : j < y.length := by rw [hy.1, ← hx.1]; exact hj
  have hjs : j < s.length := by rw [hs.1, ← hx.1]; exact hj
  rw [movW_getD (by rw [hs.1, hx.1]) hj, movW_getD (by rw [hs.1, hy.1]) hjy]
  have hm := movC_mem ⟨g, by omega⟩ h2 _ (hs.2 _ (getD_mem hjs)) _ (hx.2 _ (getD_mem hj))
  exact ⟨fun e => by rw [e], fun e => hm.2.2 _ (hy.2 _ (getD_mem hjy)) e⟩
theorem movW_in {g r : Nat} (h2 : 2 ≤ g) (h4 : g ≤ 4) {s x : List UInt8} (hs : InW g r s) (hx : InW g r x) : InW g r (movW g s x) := by
  refine ⟨by rw [movW_length (by rw [hs.1, hx.1]), hx.1], fun b hb => ?_⟩
  obtain ⟨j, hj, rfl⟩ := List.getElem_of_mem hb
  have hjx : j < x.length := by rw [movW_length (by rw [hs.1, hx.1])] at hj; exact hj
  have hjs : j < s.length := by rw [hs.1, ← hx.1]; exact hjx
  have e := movW_getD (g := g) (s := s) (x := x) (by rw [hs.1, hx.1]) hjx
  rw [List.getD_eq_getElem?_getD, List.getElem?_eq_getElem hj] at e
  simp at e
  rw [e]
  have hm := movC_mem ⟨g, by omega⟩ h2 _ (hs.2 _ (getD_mem hjs)) _ (hx.2 _ (getD_mem hjx))
  simpa using hm.1
theorem movW_self {g r : Nat} (h2 : 2 ≤ g) (h4 : g ≤ 4) {s : List UInt8} (hs : InW g r s) : movW g s s = List.replicate r 97 := by
  apply List.ext_getElem?
  intro j
  by_cases hj : j < r
  · have hjs : j < s.length := by rw [hs.1]; exact hj
    have hm := movC_mem ⟨g, by omega⟩ h2 _ (hs.2 _ (List.getElem_mem hjs)) _ (hs.2 _ (List.getElem_mem hjs))
    rw [List.getElem?_replicate, if_pos hj]
    simp [movW, List.getElem?_eq_getElem hjs]
    exact hm.2.1
  · rw [List.getElem?_eq_none (by rw [movW_length rfl, hs.1]; omega), List.getElem?_eq_none (by simp; omega)]
theorem lettersL_nodup (g : Nat) : (lettersL g).Nodup := (by decide : ([97, 98, 99, 100] : List UInt8).Nodup).sublist (List.take_sublist _ _)
theorem allW_in {g r : Nat} {x : List UInt8} : x ∈ allW g r ↔ InW g r x := by
  constructor
  · intro h
    exact ⟨allW_each r x h, allW_letters r x h⟩
  · revert x
    induction r with
    | zero =>
      intro x h
      have := List.eq_nil_of_length_eq_zero h.1
      subst this
      simp [allW]
    | succ r ih =>
      intro x h
      have hne : x ≠ [] := by rintro rfl; have := h.1; simp at this
      rw [← List.dropLast_concat_getLast hne]
      unfold allW
      refine List.mem_flatMap.2 ⟨x.dropLast, ih ⟨by rw [List.length_dropLast, h.1]; rfl, fun b hb => h.2 b ((List.dropLast_sublist x).subset hb)⟩, ?_⟩
      unfold extW
      exact List.mem_map.2 ⟨x.getLast hne, h.2 _ (List.getLast_mem hne), rfl⟩
theorem allW_head {g : Nat} (h : 1 ≤ g) : ∀ r, ∃ l, allW g r = List.replicate r 97 :: l
  | 0 => ⟨[], rfl⟩
  | r + 1 => by
    obtain ⟨l, hl⟩ := allW_head h r
    obtain ⟨g', rfl⟩ : ∃ g', g = g' + 1 := ⟨g - 1, by omega⟩
    refine ⟨((([98, 99, 100] : List UInt8).take g').map fun c => List.replicate r 97 ++ [c]) ++ l.flatMap (extW (g' + 1)), ?_⟩
    unfold allW
    rw [hl, List.flatMap_cons, List.replicate_succ']
    rfl
theorem allW_nodup (g : Nat) : ∀ r, (allW g r).Nodup
  | 0 => by simp [allW]
  | r + 1 => by
    unfold allW
    refine List.pairwise_flatMap.2 ⟨fun a _ => ?_, ?_⟩
    · unfold extW
      exact List.pairwise_map.2 ((lettersL_nodup g).imp (fun hne e => hne (by simpa using e)))
    · refine (allW_nodup g r).imp (fun hne x hx y hy e => ?_)
      unfold extW at hx hy
      obtain ⟨c, _, rfl⟩ := List.mem_map.1 hx
      obtain ⟨c', _, e2⟩ := List.mem_map.1 hy
      rw [← e2] at e
      exact hne (List.append_inj_left' e rfl)
theorem pairwise_both {α : Type} {R : α → α → Prop} : ∀ {l : List α}, l.Pairwise R → (∀ a ∈ l, ∀ b ∈ l, R a b → R b a) → ∀ a ∈ l, ∀ b ∈ l, a ≠ b → R a b
  | [], _, _, a, ha, _, _, _ => by simp at ha
  | x :: l, h, hs, a, ha, b, hb, hne => by
    have h' := List.pairwise_cons.1 h
    rcases List.mem_cons.1 ha with rfl | ha'
    · rcases List.mem_cons.1 hb with rfl | hb'
      · exact absurd rfl hne
      · exact h'.1 b hb'
    · rcases List.mem_cons.1 hb with rfl | hb'
      · exact hs _ (by simp) _ ha (h'.1 a ha')
      · exact pairwise_both h'.2 (fun a ha b hb => hs a (by simp [ha]) b (by simp [hb])) a ha' b hb' hne
theorem farL_self (x : List UInt8) : farL x x = 0 := farN_zero_of _
/-- The first word is in one of the greatest sets. -/
theorem om_first {g r : Nat} {d : Int} (h2 : 2 ≤ g) (h4 : g ≤ 4) (hd : 1 ≤ d) : om (fitL d) (allW g r) = 1 + om (fitL d) (((allW g r).drop 1).filter (fitL d (List.replicate r 97))) := by
  obtain ⟨l, hl⟩ := allW_head (by omega : 1 ≤ g) r
  have hnd := allW_nodup g r
  rw [hl] at hnd
  have hin : ∀ x ∈ l, InW g r x := fun x hx => allW_in.1 (by rw [hl]; simp [hx])
  have h0 : InW g r (List.replicate r 97) := allW_in.1 (by rw [hl]; simp)
  rw [hl, om_cons, List.drop_succ_cons, List.drop_zero]
  suffices om (fitL d) l ≤ 1 + om (fitL d) (l.filter (fitL d (List.replicate r 97))) by omega
  obtain ⟨S, h1, hf, h3⟩ := om_is (fitL d) l
  match S, h1, hf, h3 with
  | [], _, _, h3 => simp at h3; omega
  | s :: S', h1, hf, h3 =>
    have hsl : ∀ x ∈ s :: S', InW g r x := fun x hx => hin x (h1.subset hx)
    have hs := hsl s (by simp)
    have hS : ∀ x ∈ S', InW g r x := fun x hx => hsl x (by simp [hx])
    have hf' := List.pairwise_cons.1 hf
    have hfar : ∀ x y, InW g r x → InW g r y → fitL d (movW g s x) (movW g s y) = fitL d x y := fun x y hx hy => by unfold fitL; rw [movW_far h2 h4 hs hx hy]
    have hne : ∀ x y, InW g r x → InW g r y → fitL d x y = true → movW g s x ≠ movW g s y := fun x y hx hy hxy e => by
      have h5 := hfar x y hx hy
      rw [e, hxy] at h5
      unfold fitL at h5
      rw [farL_self] at h5
      simp at h5
      omega
    have hsym : ∀ x y, InW g r x → InW g r y → fitL d x y = fitL d y x := fun x y hx hy => by unfold fitL; rw [farL_symm (by rw [hx.1, hy.1])]
    have key : (S'.map (movW g s)).length ≤ om (fitL d) (l.filter (fitL d (List.replicate r 97))) := by
      refine om_set ((List.nodup_cons.1 hnd).2.filter _) ?_ ?_ ?_
      · exact List.pairwise_map.2 (List.Pairwise.imp_of_mem (fun ha hb hab => hne _ _ (hS _ ha) (hS _ hb) hab) hf'.2)
      · intro y hy
        obtain ⟨x, hx, rfl⟩ := List.mem_map.1 hy
        have h5 : fitL d (List.replicate r 97) (movW g s x) = true := by
          rw [← movW_self h2 h4 hs, hfar s x hs (hS x hx)]
          exact hf'.1 x hx
        have h6 : movW g s x ∈ allW g r := allW_in.2 (movW_in h2 h4 hs (hS x hx))
        rw [hl] at h6
        rcases List.mem_cons.1 h6 with e | h6
        · rw [e] at h5
          unfold fitL at h5
          rw [farL_self] at h5
          simp at h5
          omega
        · exact List.mem_filter.2 ⟨h6, h5⟩
      · intro a ha b hb hab
        obtain ⟨x, hx, rfl⟩ := List.mem_map.1 ha
        obtain ⟨y, hy, rfl⟩ := List.mem_map.1 hb
        rw [hfar x y (hS x hx) (hS y hy)]
        exact pairwise_both hf'.2 (fun a ha b hb h => by rw [hsym b a (hS b hb) (hS a ha)]; exact h) x hx y hy (by rintro rfl; exact hab rfl)
    rw [List.length_map] at key
    simp at h3
    omega
end Go.Proofs.YtpkkibnpjhlfmaaDoor
