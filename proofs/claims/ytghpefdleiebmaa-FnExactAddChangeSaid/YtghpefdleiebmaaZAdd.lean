/-
  A change more: where it goes, and slices.BinarySearchFunc at changes.
-/
import Derived.Test.YtghpefdleiebmaaLevelOf
import Derived.Test.YtghpefdleiebmaaRegHand
namespace Go.Proofs.Ytghpefdleiebmaa
open Go.RowKit

def sameK (x c : C3) : Bool := x.1 == c.1 && x.2.1 == c.2.1
def exB (cs : List C3) (c : C3) : Bool := cs.any (fun x => sameK x c)
/-- The place of a change: what is ahead of it is less, the rest is greater. -/
def insP (cs : List C3) (c : C3) (p : Nat) : Prop := p ≤ cs.length ∧ (∀ i (h : i < cs.length), i < p → ltC cs[i] c) ∧ (∀ i (h : i < cs.length), p ≤ i → ltC c cs[i])
noncomputable def insL (cs : List C3) (c : C3) : List C3 := by
  classical exact cs.filter (fun x => decide (ltC x c)) ++ c :: cs.filter (fun x => decide (ltC c x))
theorem ltC_no {a b : C3} (h : ltC a b) : ¬ ltC b a := by unfold ltC at *; omega
theorem ltC_key {a b : C3} (h : ltC a b ∨ ltC b a) : sameK a b = false := by
  unfold ltC at h
  unfold sameK
  cases h1 : a.1 == b.1 <;> cases h2 : a.2.1 == b.2.1 <;> simp_all
theorem ltC_or {a b : C3} (h : sameK a b = false) (k : ¬ ltC b a) : ltC a b := by
  unfold sameK at h
  unfold ltC at *
  by_cases h1 : a.1 = b.1 <;> by_cases h2 : a.2.1 = b.2.1 <;> simp_all <;> omega
theorem insL_of {cs : List C3} {c : C3} {p : Nat} (h : insP cs c p) : insL cs c = cs.take p ++ c :: cs.drop p := by
  classical
  obtain ⟨h0, h1, h2⟩ := h
  have t1 : ∀ x ∈ cs.take p, ltC x c := fun x hx => by
    obtain ⟨i, hi, rfl⟩ := List.getElem_of_mem hx
    have hi' : i < p ∧ i < cs.length := by simp only [List.length_take] at hi; omega
    rw [List.getElem_take]
    exact h1 i hi'.2 hi'.1
  have t2 : ∀ x ∈ cs.drop p, ltC c x := fun x hx => by
    obtain ⟨i, hi, rfl⟩ := List.getElem_of_mem hx
    have hi' : p + i < cs.length := by simp only [List.length_drop] at hi; omega
    rw [List.getElem_drop]
    exact h2 (p + i) hi' (by omega)
  have e1 : (cs.take p).filter (fun x => decide (ltC x c)) = cs.take p := List.filter_eq_self.2 fun x hx => decide_eq_true (t1 x hx)
  have e2 : (cs.drop p).filter (fun x => decide (ltC x c)) = [] := List.filter_eq_nil_iff.2 fun x hx => by simp [ltC_no (t2 x hx)]
  have e3 : (cs.take p).filter (fun x => decide (ltC c x)) = [] := List.filter_eq_nil_iff.2 fun x hx => by simp [ltC_no (t1 x hx)]
  have e4 : (cs.drop p).filter (fun x => decide (ltC c x)) = cs.drop p := List.filter_eq_self.2 fun x hx => decide_eq_true (t2 x hx)
  have f1 : cs.filter (fun x => decide (ltC x c)) = cs.take p := by
    conv => lhs; rw [← List.take_append_drop p cs]
    rw [List.filter_append, e1, e2, List.append_nil]
  have f2 : cs.filter (fun x => decide (ltC c x)) = cs.drop p := by
    conv => lhs; rw [← List.take_append_drop p cs]
    rw [List.filter_append, e3, e4, List.nil_append]
  unfold insL
  rw [show (cs.filter (fun x => decide (ltC x c)) ++ c :: cs.filter (fun x => decide (ltC c x))) = cs.take p ++ c :: cs.drop p by rw [f1, f2]]
theorem exB_at {cs : List C3} {c : C3} (i : Nat) (h : i < cs.length) (hs : sameK cs[i] c = true) : exB cs c = true := List.any_eq_true.2 ⟨_, List.getElem_mem h, hs⟩
theorem exB_no {cs : List C3} {c : C3} (h : ∀ i (h : i < cs.length), sameK cs[i] c = false) : exB cs c = false := by
  refine Bool.eq_false_iff.2 fun hx => ?_
  obtain ⟨x, hm, hs⟩ := List.any_eq_true.1 hx
  obtain ⟨i, hi, rfl⟩ := List.getElem_of_mem hm
  rw [h i hi] at hs
  cases hs
theorem exB_ins {cs : List C3} {c : C3} {p : Nat} (h : insP cs c p) : exB cs c = false := exB_no fun i hi => ltC_key (if q : i < p then .inl (h.2.1 i hi q) else .inr (h.2.2 i hi (by omega)))
def BsI (cs : List C3) (c : C3) (lo hi : Nat) : Prop := (∀ i (h1 : i < cs.length), i < lo → cmpC cs[i] c < 0) ∧ (∀ i (h1 : i < cs.length), hi ≤ i → ¬ cmpC cs[i] c < 0)
/-- What the search hands back. -/
def BsP (cs : List C3) (c : C3) (p : Nat) (f : Bool) : Prop :=
  p ≤ cs.length ∧ (∀ i (h : i < cs.length), i < p → cmpC cs[i] c < 0) ∧ (∀ i (h : i < cs.length), p ≤ i → ¬ cmpC cs[i] c < 0) ∧ (f = true ↔ ∃ h : p < cs.length, cmpC cs[p] c = 0)
theorem bs_found {cs : List C3} {c : C3} {p : Nat} (h : BsP cs c p true) : exB cs c = true := by
  obtain ⟨hp, h0⟩ := h.2.2.2.1 rfl
  have := (cmpC_zero _ _).1 h0
  exact exB_at p hp (by unfold sameK; simp [this.1, this.2])
theorem bs_none {cs : List C3} {c : C3} {p : Nat} (hs : cs.Pairwise ltC) (h : BsP cs c p false) : insP cs c p := by
  obtain ⟨h0, h1, h2, h3⟩ := h
  have hp : ∀ (q : p < cs.length), ltC c cs[p] := fun q => by
    have a := h2 p q (Nat.le_refl _)
    have b : ¬ cmpC cs[p] c = 0 := fun e => by have := h3.2 ⟨q, e⟩; cases this
    exact (cmpC_swap _ _).1 (by omega)
  refine ⟨h0, fun i hi hlt => (cmpC_neg _ _).1 (h1 i hi hlt), fun i hi hle => ?_⟩
  by_cases e : p = i
  · subst e; exact hp hi
  · exact ltC_trans (hp (by omega)) (List.pairwise_iff_getElem.1 hs p i (by omega) hi (by omega))
theorem ins_of_last {cs : List C3} {c : C3} {k : Nat} (hs : cs.Pairwise ltC) (hx : ∀ i (h : i < cs.length), sameK cs[i] c = false) (hk : k ≤ cs.length) (h1 : ∀ i (h : i < cs.length), k ≤ i → ltC c cs[i])
    (h2 : ∀ q (e : k = q + 1), ¬ ltC c (cs[q]'(by omega))) : insP cs c k := by
  refine ⟨hk, fun i hi hlt => ?_, h1⟩
  obtain ⟨q, rfl⟩ : ∃ q, k = q + 1 := ⟨k - 1, by omega⟩
  have hq := ltC_or (hx q (by omega)) (h2 q rfl)
  by_cases e : i = q
  · subst e; exact hq
  · exact ltC_trans (List.pairwise_iff_getElem.1 hs i q hi (by omega) (by omega)) hq
noncomputable def addZ (t : TZoned) (c : C3) : TZoned × Int :=
  if zonB t = true then (if chB t.1 c = true then (if exB t.2.2 c = true then ((0, [], []), 4) else if 60 ≤ t.2.2.length then ((0, [], []), 5) else ((t.1, t.2.1, insL t.2.2 c), 0)) else ((0, [], []), 2)) else ((0, [], []), 1)
theorem addZ_bad {t : TZoned} {c : C3} (h : zonB t = false) : addZ t c = ((0, [], []), 1) := by unfold addZ; simp [h]
theorem addZ_range {t : TZoned} {c : C3} (h : zonB t = true) (h2 : chB t.1 c = false) : addZ t c = ((0, [], []), 2) := by unfold addZ; simp [h, h2]
theorem addZ_ex {t : TZoned} {c : C3} (h : zonB t = true) (h2 : chB t.1 c = true) (h3 : exB t.2.2 c = true) : addZ t c = ((0, [], []), 4) := by unfold addZ; simp [h, h2, h3]
theorem addZ_full {t : TZoned} {c : C3} (h : zonB t = true) (h2 : chB t.1 c = true) (h3 : exB t.2.2 c = false) (h4 : 60 ≤ t.2.2.length) : addZ t c = ((0, [], []), 5) := by unfold addZ; simp [h, h2, h3, h4]
theorem addZ_ok {t : TZoned} {c : C3} {p : Nat} (h : zonB t = true) (h2 : chB t.1 c = true) (h3 : insP t.2.2 c p) (h4 : ¬ 60 ≤ t.2.2.length) : addZ t c = ((t.1, t.2.1, t.2.2.take p ++ c :: t.2.2.drop p), 0) := by
  unfold addZ; rw [if_pos h, if_pos h2, if_neg (by rw [exB_ins h3]; exact Bool.false_ne_true), if_neg h4, insL_of h3]

set_option maxHeartbeats 2000000 in
theorem binSearch_any (cs : List C3) (c : C3) (a : Option Addr) (n cap : Nat) (w : World) (hn : Hid (cs.length = n)) (hmax : n ≤ 1048576) (hs : cs.Pairwise ltC) (hr : RR 3 cChange w a cs) :
    Calls Try.prog 73 #[.slice a n cap, .agg #[.int .i64 c.1, .int .i64 c.2.1, .int .i64 c.2.2], .func (.func 74) #[] #[]] w
      fun e w' => (∃ (p : Nat) (f : Bool), e = .returned (.tuple #[.int .i64 (p : Int), .bool f]) ∧ p ≤ n ∧ Hid (BsP cs c p f)) ∧ Below w.heap.size w w' := by
  have CM : Hid (∀ (x : C3) (W : World), Calls Try.prog 74 #[.agg #[.int .i64 x.1, .int .i64 x.2.1, .int .i64 x.2.2], .agg #[.int .i64 c.1, .int .i64 c.2.1, .int .i64 c.2.2]] W fun e w' => e = .returned (.int .i64 (cmpC x c)) ∧ Below W.heap.size W w') := fun x W => compare_any x c W
  have HS := Lib.hid hs
  have HRR : Hid (∀ W, Below w.heap.size w W → RR 3 cChange W a cs) := fun W hW => hr.below hW
  have HMONO : Hid (∀ i j (h1 : i < cs.length) (h2 : j < cs.length), i < j → cmpC cs[j] c < 0 → cmpC cs[i] c < 0) := fun i j h1 h2 hij h => (cmpC_neg _ _).2 (ltC_trans (List.pairwise_iff_getElem.1 hs i j h1 h2 hij) ((cmpC_neg _ _).1 h))
  obtain ⟨c1, c2, c3⟩ := c
  dsimp only at CM HMONO ⊢
  clear hr hs
  go_enter Try.func73, Try.ntmps73
  go_wp2
  obtain ⟨w1, hw1⟩ : ∃ w1, w.alloc (.cells #[.int .i64 c1, .int .i64 c2, .int .i64 c3] 53) = w1 := ⟨_, rfl⟩
  have HB1 : Hid (Below w.heap.size w w1) := by subst hw1; exact Below.alloc (Below.refl _ _) (Nat.le_refl _) _
  have d0 : w1.cell? ⟨w.heap.size, 0, none⟩ = some (.int .i64 c1) := by subst hw1; simp [go_sem]
  have d1 : w1.cell? ⟨w.heap.size, 1, none⟩ = some (.int .i64 c2) := by subst hw1; simp [go_sem]
  have d2 : w1.cell? ⟨w.heap.size, 2, none⟩ = some (.int .i64 c3) := by subst hw1; simp [go_sem]
  have HD : Hid (∀ W, Below w1.heap.size w1 W → W.cell? ⟨w.heap.size, 0, none⟩ = some (.int .i64 c1) ∧ W.cell? ⟨w.heap.size, 1, none⟩ = some (.int .i64 c2) ∧ W.cell? ⟨w.heap.size, 2, none⟩ = some (.int .i64 c3)) := fun W hW => ⟨keepS hW d0, keepS hW d1, keepS hW d2⟩
  rw [hw1]
  clear hw1 d0 d1 d2
  go_loopw [9, 10] (fun x y wr => ∃ lo hi : Nat, x = .int .i64 lo ∧ y = .int .i64 hi ∧ lo ≤ hi ∧ hi ≤ n ∧ Hid (Below w1.heap.size w1 wr) ∧ Hid (BsI cs (c1, c2, c3) lo hi)) (fun x y _ => (intOf y).toNat - (intOf x).toNat)
  case atStart => exact ⟨0, n, rfl, rfl, Nat.zero_le _, Nat.le_refl _, Below.refl _ _, ⟨fun i _ hi => by omega, fun i h1 h2 => by rw [hn.out] at h1; omega⟩⟩
  case round =>
    obtain ⟨lo, hi, rfl, rfl, hlh, hin, HB2, I⟩ := hrel
    have HBW : Hid (Below w.heap.size w wr) := HB1.out.trans (HB2.out.mono HB1.out.size)
    obtain ⟨y0, y1, y2⟩ := HD.out wr HB2.out
    by_cases hlt : lo < hi
    · have hmid : (lo + hi) / 2 < cs.length := by rw [hn.out]; omega
      obtain ⟨b, off, rfl, hbl, hx⟩ := (HRR.out wr HBW.out).at_ ((lo + hi) / 2) hmid
      have x0 := hx 0 _ rfl
      have x1 := hx 1 _ rfl
      have x2 := hx 2 _ rfl
      obtain ⟨u, hu⟩ : ∃ u, cs[(lo + hi) / 2] = u := ⟨_, rfl⟩
      rw [hu] at x0 x1 x2
      have HU := Lib.hid hu
      clear hu hx
      obtain ⟨u1, u2, u3⟩ := u
      simp only [Nat.add_zero] at x0 x1 x2
      have hcm := CM.out (u1, u2, u3)
      dsimp only at hcm
      have hm0 : (0 : Int) ≤ ((lo : Int) + (hi : Int)) / 2 := by omega
      have hm1 : ((lo : Int) + (hi : Int)) / 2 < (n : Int) := by omega
      have hm2 : (((lo : Int) + (hi : Int)) / 2).toNat = (lo + hi) / 2 := by omega
      by_cases hp : cmpC (u1, u2, u3) (c1, c2, c3) < 0
      · have HI : Hid (BsI cs (c1, c2, c3) ((lo + hi) / 2 + 1) hi) := ⟨fun i h1 h2 => by
          by_cases e : i = (lo + hi) / 2
          · subst e; rw [HU.out]; exact hp
          · exact HMONO.out i ((lo + hi) / 2) h1 hmid (by omega) (by rw [HU.out]; exact hp), I.out.2⟩
        generalize hq : cmpC (u1, u2, u3) (c1, c2, c3) = q at hcm hp
        clear I hq
        go_wp2
        refine wp_region_held_drew (S := (fun w' => Hid (Below w1.heap.size w1 w') ∧ w'.cell? ⟨w.heap.size, 0, none⟩ = some (.int .i64 c1) ∧ w'.cell? ⟨w.heap.size, 1, none⟩ = some (.int .i64 c2) ∧ w'.cell? ⟨w.heap.size, 2, none⟩ = some (.int .i64 c3) ∧ w'.cell? ⟨b, off + (lo + hi) / 2 * 3, none⟩ = some (.int .i64 u1) ∧ w'.cell? ⟨b, off + (lo + hi) / 2 * 3 + 1, none⟩ = some (.int .i64 u2) ∧ w'.cell? ⟨b, off + (lo + hi) / 2 * 3 + 2, none⟩ = some (.int .i64 u3))) (by kernel_rfl) ?_ (fun hHeld => ?_)
        · (try dsimp only); exact ⟨Lib.hid (Below.drew (by repeat (first | exact HB2.out | refine Below.alloc ?_ (by first | omega | (simp; done) | (simp; omega)) _ | refine Below.setCell ?_ (by first | omega | (simp; done) | (simp; omega)) _))), y0, y1, y2, x0, x1, x2⟩
        refine takeL (i := 0) (v := ?_) rfl (by kernel_rfl) (by kernel_rfl) (by kernel_rfl) (fun _ _ _ h => h) (Or.inl ⟨by rfl, ?_⟩) hHeld ?_
        rotate_left
        · intro w hSw; (try dsimp only at hSw); go_simp; (try with_reducible rfl)
        (try simp only [Act.put, List.setIfInBounds_toArray, List.set_cons_zero, List.set_cons_succ])
        refine takeL (i := 1) (v := ?_) rfl (by kernel_rfl) (by kernel_rfl) (by kernel_rfl) (fun _ _ _ h => h) (Or.inl ⟨by rfl, ?_⟩) hHeld ?_
        rotate_left
        · intro w hSw; (try dsimp only at hSw); go_simp; (try with_reducible rfl)
        (try simp only [Act.put, List.setIfInBounds_toArray, List.set_cons_zero, List.set_cons_succ])
        refine takeL (i := 2) (v := ?_) rfl (by kernel_rfl) (by kernel_rfl) (by kernel_rfl) (fun _ _ _ h => h) (Or.inl ⟨by rfl, ?_⟩) hHeld ?_
        rotate_left
        · intro w hSw; (try dsimp only at hSw); go_simp; (try with_reducible rfl)
        (try simp only [Act.put, List.setIfInBounds_toArray, List.set_cons_zero, List.set_cons_succ])
        refine takeL (i := 3) (v := ?_) rfl (by kernel_rfl) (by kernel_rfl) (by kernel_rfl) (fun _ _ _ h => h) (Or.inl ⟨by rfl, ?_⟩) hHeld ?_
        rotate_left
        · intro w hSw; (try dsimp only at hSw); go_simp; (try with_reducible rfl)
        (try simp only [Act.put, List.setIfInBounds_toArray, List.set_cons_zero, List.set_cons_succ])
        refine takeL (i := 4) (v := ?_) rfl (by kernel_rfl) (by kernel_rfl) (by kernel_rfl) (fun _ _ _ h => h) (Or.inl ⟨by rfl, ?_⟩) hHeld ?_
        rotate_left
        · intro w hSw; (try dsimp only at hSw); go_simp; (try with_reducible rfl)
        (try simp only [Act.put, List.setIfInBounds_toArray, List.set_cons_zero, List.set_cons_succ])
        refine takeL (i := 5) (v := ?_) rfl (by kernel_rfl) (by kernel_rfl) (by kernel_rfl) (fun _ _ _ h => h) (Or.inl ⟨by rfl, ?_⟩) hHeld ?_
        rotate_left
        · intro w hSw; (try dsimp only at hSw); go_simp; (try with_reducible rfl)
        (try simp only [Act.put, List.setIfInBounds_toArray, List.set_cons_zero, List.set_cons_succ])
        refine wpAnyH_ready (rs := [6]) (by kernel_rfl) (by simp) ?_
        refine readyL rfl (fun K hK => ?_) AllReadyH.nil
        go_simp
        go_at_call 74; refine (hcm _).mono ?_; rintro e w3 ⟨rfl, hb3⟩
        refine hK.out _ _ ?_ (fun hHeld => ?_)
        · (try dsimp only); exact ⟨Lib.hid (hHeld.1.out.trans (hb3.mono hHeld.1.out.size)), keepS hb3 hHeld.2.1, keepS hb3 hHeld.2.2.1, keepS hb3 hHeld.2.2.2.1, keepS hb3 hHeld.2.2.2.2.1, keepS hb3 hHeld.2.2.2.2.2.1, keepS hb3 hHeld.2.2.2.2.2.2⟩
        clear hK K
        (try simp only [Act.put, List.setIfInBounds_toArray, List.set_cons_zero, List.set_cons_succ])
        refine takeL (i := 7) (v := ?_) rfl (by kernel_rfl) (by kernel_rfl) (by kernel_rfl) (fun _ _ _ h => h) (Or.inl ⟨by rfl, ?_⟩) hHeld ?_
        rotate_left
        · intro w hSw; (try dsimp only at hSw); go_simp; (try with_reducible rfl)
        (try simp only [Act.put, List.setIfInBounds_toArray, List.set_cons_zero, List.set_cons_succ])
        refine wpAnyH_done (by kernel_rfl) ?_ _
        go_wp2
        go_roundw
        case rel => exact ⟨(lo + hi) / 2 + 1, hi, by go_num, rfl, by omega, hin, hHeld.1, HI⟩
        case measure => simp [intOf]; omega
      · have HI : Hid (BsI cs (c1, c2, c3) lo ((lo + hi) / 2)) := ⟨I.out.1, fun i h1 h2 h3 => by
          by_cases e : i = (lo + hi) / 2
          · subst e; rw [HU.out] at h3; exact hp h3
          · exact hp (by have := HMONO.out ((lo + hi) / 2) i hmid h1 (by omega) h3; rw [HU.out] at this; exact this)⟩
        generalize hq : cmpC (u1, u2, u3) (c1, c2, c3) = q at hcm hp
        clear I hq
        go_wp2
        refine wp_region_held_drew (S := (fun w' => Hid (Below w1.heap.size w1 w') ∧ w'.cell? ⟨w.heap.size, 0, none⟩ = some (.int .i64 c1) ∧ w'.cell? ⟨w.heap.size, 1, none⟩ = some (.int .i64 c2) ∧ w'.cell? ⟨w.heap.size, 2, none⟩ = some (.int .i64 c3) ∧ w'.cell? ⟨b, off + (lo + hi) / 2 * 3, none⟩ = some (.int .i64 u1) ∧ w'.cell? ⟨b, off + (lo + hi) / 2 * 3 + 1, none⟩ = some (.int .i64 u2) ∧ w'.cell? ⟨b, off + (lo + hi) / 2 * 3 + 2, none⟩ = some (.int .i64 u3))) (by kernel_rfl) ?_ (fun hHeld => ?_)
        · (try dsimp only); exact ⟨Lib.hid (Below.drew (by repeat (first | exact HB2.out | refine Below.alloc ?_ (by first | omega | (simp; done) | (simp; omega)) _ | refine Below.setCell ?_ (by first | omega | (simp; done) | (simp; omega)) _))), y0, y1, y2, x0, x1, x2⟩
        refine takeL (i := 0) (v := ?_) rfl (by kernel_rfl) (by kernel_rfl) (by kernel_rfl) (fun _ _ _ h => h) (Or.inl ⟨by rfl, ?_⟩) hHeld ?_
        rotate_left
        · intro w hSw; (try dsimp only at hSw); go_simp; (try with_reducible rfl)
        (try simp only [Act.put, List.setIfInBounds_toArray, List.set_cons_zero, List.set_cons_succ])
        refine takeL (i := 1) (v := ?_) rfl (by kernel_rfl) (by kernel_rfl) (by kernel_rfl) (fun _ _ _ h => h) (Or.inl ⟨by rfl, ?_⟩) hHeld ?_
        rotate_left
        · intro w hSw; (try dsimp only at hSw); go_simp; (try with_reducible rfl)
        (try simp only [Act.put, List.setIfInBounds_toArray, List.set_cons_zero, List.set_cons_succ])
        refine takeL (i := 2) (v := ?_) rfl (by kernel_rfl) (by kernel_rfl) (by kernel_rfl) (fun _ _ _ h => h) (Or.inl ⟨by rfl, ?_⟩) hHeld ?_
        rotate_left
        · intro w hSw; (try dsimp only at hSw); go_simp; (try with_reducible rfl)
        (try simp only [Act.put, List.setIfInBounds_toArray, List.set_cons_zero, List.set_cons_succ])
        refine takeL (i := 3) (v := ?_) rfl (by kernel_rfl) (by kernel_rfl) (by kernel_rfl) (fun _ _ _ h => h) (Or.inl ⟨by rfl, ?_⟩) hHeld ?_
        rotate_left
        · intro w hSw; (try dsimp only at hSw); go_simp; (try with_reducible rfl)
        (try simp only [Act.put, List.setIfInBounds_toArray, List.set_cons_zero, List.set_cons_succ])
        refine takeL (i := 4) (v := ?_) rfl (by kernel_rfl) (by kernel_rfl) (by kernel_rfl) (fun _ _ _ h => h) (Or.inl ⟨by rfl, ?_⟩) hHeld ?_
        rotate_left
        · intro w hSw; (try dsimp only at hSw); go_simp; (try with_reducible rfl)
        (try simp only [Act.put, List.setIfInBounds_toArray, List.set_cons_zero, List.set_cons_succ])
        refine takeL (i := 5) (v := ?_) rfl (by kernel_rfl) (by kernel_rfl) (by kernel_rfl) (fun _ _ _ h => h) (Or.inl ⟨by rfl, ?_⟩) hHeld ?_
        rotate_left
        · intro w hSw; (try dsimp only at hSw); go_simp; (try with_reducible rfl)
        (try simp only [Act.put, List.setIfInBounds_toArray, List.set_cons_zero, List.set_cons_succ])
        refine wpAnyH_ready (rs := [6]) (by kernel_rfl) (by simp) ?_
        refine readyL rfl (fun K hK => ?_) AllReadyH.nil
        go_simp
        go_at_call 74; refine (hcm _).mono ?_; rintro e w3 ⟨rfl, hb3⟩
        refine hK.out _ _ ?_ (fun hHeld => ?_)
        · (try dsimp only); exact ⟨Lib.hid (hHeld.1.out.trans (hb3.mono hHeld.1.out.size)), keepS hb3 hHeld.2.1, keepS hb3 hHeld.2.2.1, keepS hb3 hHeld.2.2.2.1, keepS hb3 hHeld.2.2.2.2.1, keepS hb3 hHeld.2.2.2.2.2.1, keepS hb3 hHeld.2.2.2.2.2.2⟩
        clear hK K
        (try simp only [Act.put, List.setIfInBounds_toArray, List.set_cons_zero, List.set_cons_succ])
        refine takeL (i := 7) (v := ?_) rfl (by kernel_rfl) (by kernel_rfl) (by kernel_rfl) (fun _ _ _ h => h) (Or.inl ⟨by rfl, ?_⟩) hHeld ?_
        rotate_left
        · intro w hSw; (try dsimp only at hSw); go_simp; (try with_reducible rfl)
        (try simp only [Act.put, List.setIfInBounds_toArray, List.set_cons_zero, List.set_cons_succ])
        refine wpAnyH_done (by kernel_rfl) ?_ _
        go_wp2
        go_roundw
        case rel => exact ⟨lo, (lo + hi) / 2, rfl, by go_num, by omega, by omega, hHeld.1, HI⟩
        case measure => simp [intOf]; omega
    · have e : lo = hi := by omega
      subst e
      by_cases hz : lo < n
      · have hlo : lo < cs.length := by rw [hn.out]; exact hz
        obtain ⟨b, off, rfl, hbl, hx⟩ := (HRR.out wr HBW.out).at_ lo hlo
        have x0 := hx 0 _ rfl
        have x1 := hx 1 _ rfl
        have x2 := hx 2 _ rfl
        obtain ⟨u, hu⟩ : ∃ u, cs[lo] = u := ⟨_, rfl⟩
        rw [hu] at x0 x1 x2
        have HU := Lib.hid hu
        clear hu hx
        obtain ⟨u1, u2, u3⟩ := u
        simp only [Nat.add_zero] at x0 x1 x2
        have hcm := CM.out (u1, u2, u3)
        dsimp only at hcm
        have HF : Hid (BsP cs (c1, c2, c3) lo (cmpC (u1, u2, u3) (c1, c2, c3) == 0)) := ⟨by rw [hn.out]; exact hin, I.out.1, I.out.2, by
          constructor
          · intro h
            exact ⟨hlo, by rw [HU.out]; exact eq_of_beq h⟩
          · rintro ⟨h1, h2⟩
            rw [HU.out] at h2
            rw [h2]
            rfl⟩
        generalize cmpC (u1, u2, u3) (c1, c2, c3) = q at hcm HF
        have hk0 : (0 : Int) ≤ (lo : Int) := by omega
        have hk1 : (lo : Int) < (n : Int) := by omega
        clear I
        go_wp2
        refine wp_region_held_drew (S := (fun w' => Hid (Below w1.heap.size w1 w') ∧ w'.cell? ⟨w.heap.size, 0, none⟩ = some (.int .i64 c1) ∧ w'.cell? ⟨w.heap.size, 1, none⟩ = some (.int .i64 c2) ∧ w'.cell? ⟨w.heap.size, 2, none⟩ = some (.int .i64 c3) ∧ w'.cell? ⟨b, off + lo * 3, none⟩ = some (.int .i64 u1) ∧ w'.cell? ⟨b, off + lo * 3 + 1, none⟩ = some (.int .i64 u2) ∧ w'.cell? ⟨b, off + lo * 3 + 2, none⟩ = some (.int .i64 u3))) (by kernel_rfl) ?_ (fun hHeld => ?_)
        · (try dsimp only); exact ⟨Lib.hid (Below.drew (by repeat (first | exact HB2.out | refine Below.alloc ?_ (by first | omega | (simp; done) | (simp; omega)) _ | refine Below.setCell ?_ (by first | omega | (simp; done) | (simp; omega)) _))), y0, y1, y2, x0, x1, x2⟩
        refine takeL (i := 0) (v := ?_) rfl (by kernel_rfl) (by kernel_rfl) (by kernel_rfl) (fun _ _ _ h => h) (Or.inl ⟨by rfl, ?_⟩) hHeld ?_
        rotate_left
        · intro w hSw; (try dsimp only at hSw); go_simp; (try with_reducible rfl)
        (try simp only [Act.put, List.setIfInBounds_toArray, List.set_cons_zero, List.set_cons_succ])
        refine takeL (i := 1) (v := ?_) rfl (by kernel_rfl) (by kernel_rfl) (by kernel_rfl) (fun _ _ _ h => h) (Or.inl ⟨by rfl, ?_⟩) hHeld ?_
        rotate_left
        · intro w hSw; (try dsimp only at hSw); go_simp; (try with_reducible rfl)
        (try simp only [Act.put, List.setIfInBounds_toArray, List.set_cons_zero, List.set_cons_succ])
        refine takeL (i := 2) (v := ?_) rfl (by kernel_rfl) (by kernel_rfl) (by kernel_rfl) (fun _ _ _ h => h) (Or.inl ⟨by rfl, ?_⟩) hHeld ?_
        rotate_left
        · intro w hSw; (try dsimp only at hSw); go_simp; (try with_reducible rfl)
        (try simp only [Act.put, List.setIfInBounds_toArray, List.set_cons_zero, List.set_cons_succ])
        refine takeL (i := 3) (v := ?_) rfl (by kernel_rfl) (by kernel_rfl) (by kernel_rfl) (fun _ _ _ h => h) (Or.inl ⟨by rfl, ?_⟩) hHeld ?_
        rotate_left
        · intro w hSw; (try dsimp only at hSw); go_simp; (try with_reducible rfl)
        (try simp only [Act.put, List.setIfInBounds_toArray, List.set_cons_zero, List.set_cons_succ])
        refine takeL (i := 4) (v := ?_) rfl (by kernel_rfl) (by kernel_rfl) (by kernel_rfl) (fun _ _ _ h => h) (Or.inl ⟨by rfl, ?_⟩) hHeld ?_
        rotate_left
        · intro w hSw; (try dsimp only at hSw); go_simp; (try with_reducible rfl)
        (try simp only [Act.put, List.setIfInBounds_toArray, List.set_cons_zero, List.set_cons_succ])
        refine takeL (i := 5) (v := ?_) rfl (by kernel_rfl) (by kernel_rfl) (by kernel_rfl) (fun _ _ _ h => h) (Or.inl ⟨by rfl, ?_⟩) hHeld ?_
        rotate_left
        · intro w hSw; (try dsimp only at hSw); go_simp; (try with_reducible rfl)
        (try simp only [Act.put, List.setIfInBounds_toArray, List.set_cons_zero, List.set_cons_succ])
        refine takeL (i := 6) (v := ?_) rfl (by kernel_rfl) (by kernel_rfl) (by kernel_rfl) (fun _ _ _ h => h) (Or.inl ⟨by rfl, ?_⟩) hHeld ?_
        rotate_left
        · intro w hSw; (try dsimp only at hSw); go_simp; (try with_reducible rfl)
        (try simp only [Act.put, List.setIfInBounds_toArray, List.set_cons_zero, List.set_cons_succ])
        refine takeL (i := 7) (v := ?_) rfl (by kernel_rfl) (by kernel_rfl) (by kernel_rfl) (fun _ _ _ h => h) (Or.inl ⟨by rfl, ?_⟩) hHeld ?_
        rotate_left
        · intro w hSw; (try dsimp only at hSw); go_simp; (try with_reducible rfl)
        (try simp only [Act.put, List.setIfInBounds_toArray, List.set_cons_zero, List.set_cons_succ])
        refine takeL (i := 8) (v := ?_) rfl (by kernel_rfl) (by kernel_rfl) (by kernel_rfl) (fun _ _ _ h => h) (Or.inl ⟨by rfl, ?_⟩) hHeld ?_
        rotate_left
        · intro w hSw; (try dsimp only at hSw); go_simp; (try with_reducible rfl)
        (try simp only [Act.put, List.setIfInBounds_toArray, List.set_cons_zero, List.set_cons_succ])
        refine takeL (i := 9) (v := ?_) rfl (by kernel_rfl) (by kernel_rfl) (by kernel_rfl) (fun _ _ _ h => h) (Or.inl ⟨by rfl, ?_⟩) hHeld ?_
        rotate_left
        · intro w hSw; (try dsimp only at hSw); go_simp; (try with_reducible rfl)
        (try simp only [Act.put, List.setIfInBounds_toArray, List.set_cons_zero, List.set_cons_succ])
        refine takeL (i := 10) (v := ?_) rfl (by kernel_rfl) (by kernel_rfl) (by kernel_rfl) (fun _ _ _ h => h) (Or.inl ⟨by rfl, ?_⟩) hHeld ?_
        rotate_left
        · intro w hSw; (try dsimp only at hSw); go_simp; (try with_reducible rfl)
        (try simp only [Act.put, List.setIfInBounds_toArray, List.set_cons_zero, List.set_cons_succ])
        refine wpAnyH_ready (rs := [11]) (by kernel_rfl) (by simp) ?_
        refine readyL rfl (fun K hK => ?_) AllReadyH.nil
        go_simp
        go_at_call 74; refine (hcm _).mono ?_; rintro e w3 ⟨rfl, hb3⟩
        refine hK.out _ _ ?_ (fun hHeld => ?_)
        · (try dsimp only); exact ⟨Lib.hid (hHeld.1.out.trans (hb3.mono hHeld.1.out.size)), keepS hb3 hHeld.2.1, keepS hb3 hHeld.2.2.1, keepS hb3 hHeld.2.2.2.1, keepS hb3 hHeld.2.2.2.2.1, keepS hb3 hHeld.2.2.2.2.2.1, keepS hb3 hHeld.2.2.2.2.2.2⟩
        clear hK K
        (try simp only [Act.put, List.setIfInBounds_toArray, List.set_cons_zero, List.set_cons_succ])
        refine takeL (i := 12) (v := ?_) rfl (by kernel_rfl) (by kernel_rfl) (by kernel_rfl) (fun _ _ _ h => h) (Or.inl ⟨by rfl, ?_⟩) hHeld ?_
        rotate_left
        · intro w hSw; (try dsimp only at hSw); go_simp; (try with_reducible rfl)
        (try simp only [Act.put, List.setIfInBounds_toArray, List.set_cons_zero, List.set_cons_succ])
        refine takeL (i := 13) (v := ?_) rfl (by kernel_rfl) (by kernel_rfl) (by kernel_rfl) (fun _ _ _ h => h) (Or.inl ⟨by rfl, ?_⟩) hHeld ?_
        rotate_left
        · intro w hSw; (try dsimp only at hSw); go_simp; (try with_reducible rfl)
        (try simp only [Act.put, List.setIfInBounds_toArray, List.set_cons_zero, List.set_cons_succ])
        refine takeL (i := 14) (v := ?_) rfl (by kernel_rfl) (by kernel_rfl) (by kernel_rfl) (fun _ _ _ h => h) (Or.inl ⟨by rfl, ?_⟩) hHeld ?_
        rotate_left
        · intro w hSw; (try dsimp only at hSw); go_simp; (try with_reducible rfl)
        (try simp only [Act.put, List.setIfInBounds_toArray, List.set_cons_zero, List.set_cons_succ])
        refine takeL (i := 15) (v := ?_) rfl (by kernel_rfl) (by kernel_rfl) (by kernel_rfl) (fun _ _ _ h => h) (Or.inl ⟨by rfl, ?_⟩) hHeld ?_
        rotate_left
        · intro w hSw; (try dsimp only at hSw); go_simp; (try with_reducible rfl)
        (try simp only [Act.put, List.setIfInBounds_toArray, List.set_cons_zero, List.set_cons_succ])
        refine wpAnyH_done (by kernel_rfl) ?_ _
        go_wp2
        exact bodyPost_ret (v := .tuple #[.int .i64 (lo : Int), .bool (q == 0)]) (by simp [results, Try.results73, go_sem]) rfl ⟨⟨lo, _, rfl, hin, HF⟩, HB1.out.trans (hHeld.1.out.mono HB1.out.size)⟩
      · have HF : Hid (BsP cs (c1, c2, c3) lo false) := ⟨by rw [hn.out]; exact hin, I.out.1, I.out.2, by
          constructor
          · intro h; cases h
          · rintro ⟨h1, _⟩
            rw [hn.out] at h1
            exact absurd h1 hz⟩
        clear I
        go_wp2
        refine wp_region_held_drew (S := (fun w' => Hid (Below w1.heap.size w1 w'))) (by kernel_rfl) ?_ (fun hHeld => ?_)
        · (try dsimp only); exact Lib.hid (Below.drew (by repeat (first | exact HB2.out | refine Below.alloc ?_ (by first | omega | (simp; done) | (simp; omega)) _ | refine Below.setCell ?_ (by first | omega | (simp; done) | (simp; omega)) _)))
        refine takeL (i := 0) (v := ?_) rfl (by kernel_rfl) (by kernel_rfl) (by kernel_rfl) (fun _ _ _ h => h) (Or.inl ⟨by rfl, ?_⟩) hHeld ?_
        rotate_left
        · intro w hSw; (try dsimp only at hSw); go_simp; (try with_reducible rfl)
        (try simp only [Act.put, List.setIfInBounds_toArray, List.set_cons_zero, List.set_cons_succ])
        refine takeL (i := 1) (v := ?_) rfl (by kernel_rfl) (by kernel_rfl) (by kernel_rfl) (fun _ _ _ h => h) (Or.inl ⟨by rfl, ?_⟩) hHeld ?_
        rotate_left
        · intro w hSw; (try dsimp only at hSw); go_simp; (try with_reducible rfl)
        (try simp only [Act.put, List.setIfInBounds_toArray, List.set_cons_zero, List.set_cons_succ])
        refine takeL (i := 2) (v := ?_) rfl (by kernel_rfl) (by kernel_rfl) (by kernel_rfl) (fun _ _ _ h => h) (Or.inl ⟨by rfl, ?_⟩) hHeld ?_
        rotate_left
        · intro w hSw; (try dsimp only at hSw); go_simp; (try with_reducible rfl)
        (try simp only [Act.put, List.setIfInBounds_toArray, List.set_cons_zero, List.set_cons_succ])
        refine takeL (i := 3) (v := ?_) rfl (by kernel_rfl) (by kernel_rfl) (by kernel_rfl) (fun _ _ _ h => h) (Or.inl ⟨by rfl, ?_⟩) hHeld ?_
        rotate_left
        · intro w hSw; (try dsimp only at hSw); go_simp; (try with_reducible rfl)
        (try simp only [Act.put, List.setIfInBounds_toArray, List.set_cons_zero, List.set_cons_succ])
        refine takeL (i := 4) (v := ?_) rfl (by kernel_rfl) (by kernel_rfl) (by kernel_rfl) (fun _ _ _ h => h) (Or.inl ⟨by rfl, ?_⟩) hHeld ?_
        rotate_left
        · intro w hSw; (try dsimp only at hSw); go_simp; (try with_reducible rfl)
        (try simp only [Act.put, List.setIfInBounds_toArray, List.set_cons_zero, List.set_cons_succ])
        refine takeL (i := 5) (v := undef) rfl (by kernel_rfl) (by kernel_rfl) (by kernel_rfl) (fun _ _ _ h => h) (Or.inr ⟨by rfl, rfl⟩) hHeld ?_
        (try simp only [Act.put, List.setIfInBounds_toArray, List.set_cons_zero, List.set_cons_succ])
        refine takeL (i := 6) (v := undef) rfl (by kernel_rfl) (by kernel_rfl) (by kernel_rfl) (fun _ _ _ h => h) (Or.inr ⟨by rfl, rfl⟩) hHeld ?_
        (try simp only [Act.put, List.setIfInBounds_toArray, List.set_cons_zero, List.set_cons_succ])
        refine takeL (i := 7) (v := undef) rfl (by kernel_rfl) (by kernel_rfl) (by kernel_rfl) (fun _ _ _ h => h) (Or.inr ⟨by rfl, rfl⟩) hHeld ?_
        (try simp only [Act.put, List.setIfInBounds_toArray, List.set_cons_zero, List.set_cons_succ])
        refine takeL (i := 8) (v := undef) rfl (by kernel_rfl) (by kernel_rfl) (by kernel_rfl) (fun _ _ _ h => h) (Or.inr ⟨by rfl, rfl⟩) hHeld ?_
        (try simp only [Act.put, List.setIfInBounds_toArray, List.set_cons_zero, List.set_cons_succ])
        refine takeL (i := 9) (v := undef) rfl (by kernel_rfl) (by kernel_rfl) (by kernel_rfl) (fun _ _ _ h => h) (Or.inr ⟨by rfl, rfl⟩) hHeld ?_
        (try simp only [Act.put, List.setIfInBounds_toArray, List.set_cons_zero, List.set_cons_succ])
        refine takeL (i := 10) (v := undef) rfl (by kernel_rfl) (by kernel_rfl) (by kernel_rfl) (fun _ _ _ h => h) (Or.inr ⟨by rfl, rfl⟩) hHeld ?_
        (try simp only [Act.put, List.setIfInBounds_toArray, List.set_cons_zero, List.set_cons_succ])
        refine takeL (i := 11) (v := undef) rfl (by kernel_rfl) (by kernel_rfl) (by kernel_rfl) (fun _ _ _ h => h) (Or.inr ⟨by rfl, rfl⟩) hHeld ?_
        (try simp only [Act.put, List.setIfInBounds_toArray, List.set_cons_zero, List.set_cons_succ])
        refine takeL (i := 12) (v := undef) rfl (by kernel_rfl) (by kernel_rfl) (by kernel_rfl) (fun _ _ _ h => h) (Or.inr ⟨by rfl, rfl⟩) hHeld ?_
        (try simp only [Act.put, List.setIfInBounds_toArray, List.set_cons_zero, List.set_cons_succ])
        refine takeL (i := 13) (v := ?_) rfl (by kernel_rfl) (by kernel_rfl) (by kernel_rfl) (fun _ _ _ h => h) (Or.inl ⟨by rfl, ?_⟩) hHeld ?_
        rotate_left
        · intro w hSw; (try dsimp only at hSw); go_simp; (try with_reducible rfl)
        (try simp only [Act.put, List.setIfInBounds_toArray, List.set_cons_zero, List.set_cons_succ])
        refine takeL (i := 14) (v := ?_) rfl (by kernel_rfl) (by kernel_rfl) (by kernel_rfl) (fun _ _ _ h => h) (Or.inl ⟨by rfl, ?_⟩) hHeld ?_
        rotate_left
        · intro w hSw; (try dsimp only at hSw); go_simp; (try with_reducible rfl)
        (try simp only [Act.put, List.setIfInBounds_toArray, List.set_cons_zero, List.set_cons_succ])
        refine takeL (i := 15) (v := ?_) rfl (by kernel_rfl) (by kernel_rfl) (by kernel_rfl) (fun _ _ _ h => h) (Or.inl ⟨by rfl, ?_⟩) hHeld ?_
        rotate_left
        · intro w hSw; (try dsimp only at hSw); go_simp; (try with_reducible rfl)
        (try simp only [Act.put, List.setIfInBounds_toArray, List.set_cons_zero, List.set_cons_succ])
        refine wpAnyH_done (by kernel_rfl) ?_ _
        go_wp2
        exact bodyPost_ret (v := .tuple #[.int .i64 (lo : Int), .bool false]) (by simp [results, Try.results73, go_sem]) rfl ⟨⟨lo, _, rfl, hin, HF⟩, HB1.out.trans (hHeld.out.mono HB1.out.size)⟩
end Go.Proofs.Ytghpefdleiebmaa
