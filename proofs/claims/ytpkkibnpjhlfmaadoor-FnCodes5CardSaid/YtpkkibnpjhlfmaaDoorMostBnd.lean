/-
  The bound by groups of elements that do not fit each other: plain facts on sets of bits. Nothing of the program stands here.
-/
import Derived.Test.YtpkkibnpjhlfmaaDoorMostMath
namespace Go.Proofs.YtpkkibnpjhlfmaaDoor

def ftF (F : Nat → Nat) (a b : Nat) : Bool := (F a).testBit b
/-- A set without a number; a set without those of another one. -/
def wo (x v : Nat) : Nat := x &&& (2 ^ 64 - 1 - 2 ^ v)
def dif (x f : Nat) : Nat := x &&& (2 ^ 64 - 1 - f)
theorem not_bits {f : Nat} (h : f < 2 ^ 64) (i : Nat) : (2 ^ 64 - 1 - f).testBit i = (decide (i < 64) && !f.testBit i) := by
  have e : 2 ^ 64 - 1 - f = (~~~(BitVec.ofNat 64 f)).toNat := by
    rw [BitVec.toNat_not, BitVec.toNat_ofNat, Nat.mod_eq_of_lt h]
  rw [e, BitVec.testBit_toNat, BitVec.getLsbD_not, BitVec.getLsbD_ofNat]
  cases decide (i < 64) <;> simp
theorem wo_bit {v : Nat} (hv : v < 64) (x i : Nat) : (wo x v).testBit i = (x.testBit i && (decide (i < 64) && !decide (i = v))) := by
  unfold wo; rw [Nat.testBit_and, not_pow hv]
theorem dif_bit {f : Nat} (hf : f < 2 ^ 64) (x i : Nat) : (dif x f).testBit i = (x.testBit i && (decide (i < 64) && !f.testBit i)) := by
  unfold dif; rw [Nat.testBit_and, not_bits hf]
theorem wo_le (x v : Nat) : wo x v ≤ x := Nat.and_le_left
theorem dif_le (x f : Nat) : dif x f ≤ x := Nat.and_le_left
theorem bitsL_len_and (x y : Nat) : (bitsL (x &&& y)).length ≤ (bitsL x).length := by
  rw [bitsL_and]; exact List.length_filter_le _ _
theorem wo_len {x : Nat} (h0 : x ≠ 0) (h : x < 2 ^ 64) : (bitsL (wo x (Lib.ctz 64 x))).length + 1 = (bitsL x).length := by
  rw [(bitsL_first h0 h).1]; rfl
/-- What is left of the open words behind a group. -/
def grp (F : Nat → Nat) : Nat → Nat → Nat → Nat
  | 0, x, _ => x
  | k + 1, x, y => if y = 0 then x else grp F k (wo x (Lib.ctz 64 y)) (dif (wo y (Lib.ctz 64 y)) (F (Lib.ctz 64 y)))
def bnd (F : Nat → Nat) : Nat → Nat → Nat
  | 0, _ => 0
  | k + 1, x => if x = 0 then 0 else 1 + bnd F k (grp F 64 x x)
theorem grp_zero (F : Nat → Nat) (k x : Nat) : grp F k x 0 = x := by cases k <;> simp [grp]
theorem grp_step {F : Nat → Nat} {k x y : Nat} (h : y ≠ 0) : grp F (k + 1) x y = grp F k (wo x (Lib.ctz 64 y)) (dif (wo y (Lib.ctz 64 y)) (F (Lib.ctz 64 y))) := if_neg h
theorem grp_le (F : Nat → Nat) : ∀ k x y, grp F k x y ≤ x
  | 0, _, _ => Nat.le_refl _
  | k + 1, x, y => by
    by_cases h : y = 0
    · subst h; rw [grp_zero]; exact Nat.le_refl _
    · rw [grp_step h]; exact Nat.le_trans (grp_le F k _ _) (wo_le _ _)
theorem bnd_zero (F : Nat → Nat) (k : Nat) : bnd F k 0 = 0 := by cases k <;> simp [bnd]
theorem bnd_step {F : Nat → Nat} {k x : Nat} (h : x ≠ 0) : bnd F (k + 1) x = 1 + bnd F k (grp F 64 x x) := if_neg h
theorem bnd_le (F : Nat → Nat) : ∀ k x, bnd F k x ≤ k
  | 0, _ => Nat.le_refl _
  | k + 1, x => by
    by_cases h : x = 0
    · subst h; rw [bnd_zero]; omega
    · rw [bnd_step h]; have := bnd_le F k (grp F 64 x x); omega
/-- The words of one group do not fit each other. -/
structure InG (F : Nat → Nat) (x0 x y : Nat) : Prop where
  sub : ∀ i, x.testBit i = true → x0.testBit i = true
  near : ∀ i, y.testBit i = true → x.testBit i = true
  out : ∀ a b, a < 64 → b < 64 → x0.testBit a = true → x.testBit a = false → x0.testBit b = true → x.testBit b = false → ftF F a b = false ∨ a = b
  both : ∀ a b, a < 64 → b < 64 → x0.testBit a = true → x.testBit a = false → y.testBit b = true → ftF F a b = false ∧ ftF F b a = false
theorem inG_start (F : Nat → Nat) (x : Nat) : InG F x x x := ⟨fun _ h => h, fun _ h => h, fun a _ _ _ h1 h2 => absurd h2 (by rw [h1]; simp), fun a _ _ _ h1 h2 => absurd h2 (by rw [h1]; simp)⟩
theorem inG_step {F : Nat → Nat} {x0 x y : Nat} (h : InG F x0 x y) (h0 : y ≠ 0) (hy : y < 2 ^ 64) (hF : ∀ a, a < 64 → F a < 2 ^ 64) (hs : ∀ a b, a < 64 → b < 64 → ftF F a b = ftF F b a) :
    InG F x0 (wo x (Lib.ctz 64 y)) (dif (wo y (Lib.ctz 64 y)) (F (Lib.ctz 64 y))) := by
  obtain ⟨c1, c2, _⟩ := ctz_bit h0 hy
  generalize Lib.ctz 64 y = v at c1 c2
  have hx : ∀ i, (wo x v).testBit i = (x.testBit i && (decide (i < 64) && !decide (i = v))) := wo_bit c2 x
  have hn : ∀ i, (dif (wo y v) (F v)).testBit i = true → y.testBit i = true ∧ i < 64 ∧ i ≠ v ∧ (F v).testBit i = false := fun i hi => by
    rw [dif_bit (hF v c2), wo_bit c2] at hi
    simp at hi
    exact ⟨hi.1.1, hi.1.2.1, hi.1.2.2, hi.2.2⟩
  have hold : ∀ a, a < 64 → x0.testBit a = true → (wo x v).testBit a = false → x.testBit a = false ∨ a = v := fun a ha _ h2 => by
    rw [hx] at h2
    cases hxa : x.testBit a with
    | false => exact .inl rfl
    | true => rw [hxa] at h2; simp [ha] at h2; exact .inr h2
  refine ⟨fun i hi => ?_, fun i hi => ?_, fun a b ha hb h1 h2 h3 h4 => ?_, fun a b ha hb h1 h2 h3 => ?_⟩
  · rw [hx] at hi
    simp at hi
    exact h.sub i hi.1
  · obtain ⟨e1, e2, e3, _⟩ := hn i hi
    rw [hx, h.near i e1]
    simp [e2, e3]
  · rcases hold a ha h1 h2 with e | e
    · rcases hold b hb h3 h4 with e' | e'
      · exact h.out a b ha hb h1 e h3 e'
      · subst e'
        exact .inl (h.both a b ha hb h1 e c1).1
    · rcases hold b hb h3 h4 with e' | e'
      · subst e
        exact .inl (h.both b a hb ha h3 e' c1).2
      · exact .inr (e.trans e'.symm)
  · obtain ⟨e1, e2, e3, e4⟩ := hn b h3
    rcases hold a ha h1 h2 with e | e
    · exact h.both a b ha hb h1 e e1
    · subst e
      have : ftF F a b = false := e4
      exact ⟨this, by rw [← hs a b ha hb]; exact this⟩
theorem grp_inG {F : Nat → Nat} {x0 : Nat} (hF : ∀ a, a < 64 → F a < 2 ^ 64) (hs : ∀ a b, a < 64 → b < 64 → ftF F a b = ftF F b a) : ∀ (k x y : Nat), (bitsL y).length ≤ k → y < 2 ^ 64 → InG F x0 x y → ∃ y', y' = 0 ∧ InG F x0 (grp F k x y) y'
  | 0, x, y, hk, hy, h => by
    have : y = 0 := by
      by_cases h0 : y = 0
      · exact h0
      · have := wo_len h0 hy; omega
    subst this
    exact ⟨0, rfl, h⟩
  | k + 1, x, y, hk, hy, h => by
    by_cases h0 : y = 0
    · subst h0; rw [grp_zero]; exact ⟨0, rfl, h⟩
    · rw [grp_step h0]
      refine grp_inG hF hs k _ _ ?_ ?_ (inG_step h h0 hy hF hs)
      · have h1 := wo_len h0 hy
        have h2 : (bitsL (dif (wo y (Lib.ctz 64 y)) (F (Lib.ctz 64 y)))).length ≤ (bitsL (wo y (Lib.ctz 64 y))).length := bitsL_len_and _ _
        omega
      · exact Nat.lt_of_le_of_lt (Nat.le_trans (dif_le _ _) (wo_le _ _)) hy
theorem grp_om {F : Nat → Nat} (hF : ∀ a, a < 64 → F a < 2 ^ 64) (hs : ∀ a b, a < 64 → b < 64 → ftF F a b = ftF F b a) {x : Nat} (hx : x < 2 ^ 64) : om (ftF F) (bitsL x) ≤ 1 + om (ftF F) (bitsL (grp F 64 x x)) := by
  obtain ⟨y', _, hg⟩ := grp_inG hF hs 64 x x (by unfold bitsL; have := List.length_filter_le (fun i => x.testBit i) (List.range 64); simpa using this) hx (inG_start F x)
  have h := om_group (F := ftF F) (l := bitsL x) (p := fun i => (grp F 64 x x).testBit i) (fun a ha b hb h1 h2 => hg.out a b (bitsL_mem.1 ha).1 (bitsL_mem.1 hb).1 (bitsL_mem.1 ha).2 h1 (bitsL_mem.1 hb).2 h2) (bitsL_nodup x)
  have e : (bitsL x).filter (fun i => (grp F 64 x x).testBit i) = bitsL (grp F 64 x x) := by
    rw [← bitsL_and]
    congr 1
    apply Nat.eq_of_testBit_eq
    intro i
    rw [Nat.testBit_and]
    cases hi : (grp F 64 x x).testBit i with
    | false => simp
    | true => simp [hg.sub i hi]
  rw [e] at h
  exact h
theorem grp_len {F : Nat → Nat} {x : Nat} (h0 : x ≠ 0) (hx : x < 2 ^ 64) : (bitsL (grp F 64 x x)).length < (bitsL x).length ∧ grp F 64 x x < x := by
  have key : ∀ k x' y, (bitsL (grp F k x' y)).length ≤ (bitsL x').length := by
    intro k
    induction k with
    | zero => intro x' y; exact Nat.le_refl _
    | succ k ih =>
      intro x' y
      by_cases h : y = 0
      · subst h; rw [grp_zero]; exact Nat.le_refl _
      · rw [grp_step h]; exact Nat.le_trans (ih _ _) (bitsL_len_and _ _)
  have h1 : grp F 64 x x = grp F 63 (wo x (Lib.ctz 64 x)) (dif (wo x (Lib.ctz 64 x)) (F (Lib.ctz 64 x))) := grp_step h0
  have h2 := key 63 (wo x (Lib.ctz 64 x)) (dif (wo x (Lib.ctz 64 x)) (F (Lib.ctz 64 x)))
  have h3 := wo_len h0 hx
  have h4 := grp_le F 63 (wo x (Lib.ctz 64 x)) (dif (wo x (Lib.ctz 64 x)) (F (Lib.ctz 64 x)))
  have h5 := wo_le x (Lib.ctz 64 x)
  have h6 : wo x (Lib.ctz 64 x) ≠ x := fun e => by rw [e] at h3; omega
  rw [h1]
  omega
theorem bnd_om {F : Nat → Nat} (hF : ∀ a, a < 64 → F a < 2 ^ 64) (hs : ∀ a b, a < 64 → b < 64 → ftF F a b = ftF F b a) : ∀ (k x : Nat), (bitsL x).length ≤ k → x < 2 ^ 64 → om (ftF F) (bitsL x) ≤ bnd F k x
  | 0, x, hk, _ => by
    have := om_len (ftF F) (bitsL x)
    omega
  | k + 1, x, hk, hx => by
    by_cases h : x = 0
    · subst h; rw [bitsL_zero, om_nil]; omega
    · rw [bnd_step h]
      have h1 := grp_om hF hs hx
      have h2 := grp_len (F := F) h hx
      have h3 := bnd_om hF hs k (grp F 64 x x) (by omega) (by omega)
      omega
/-- One step of the search. -/
theorem om_step {F : Nat → Nat} {x : Nat} (h0 : x ≠ 0) (hx : x < 2 ^ 64) : om (ftF F) (bitsL x) = max (1 + om (ftF F) (bitsL (wo x (Lib.ctz 64 x) &&& F (Lib.ctz 64 x)))) (om (ftF F) (bitsL (wo x (Lib.ctz 64 x)))) := by
  rw [(bitsL_first h0 hx).1, om_cons]
  have e : bitsL (wo x (Lib.ctz 64 x) &&& F (Lib.ctz 64 x)) = (bitsL (wo x (Lib.ctz 64 x))).filter (ftF F (Lib.ctz 64 x)) := bitsL_and _ _
  rw [e]
  rfl
theorem wo_lt {x : Nat} (h0 : x ≠ 0) (hx : x < 2 ^ 64) : wo x (Lib.ctz 64 x) < x := by
  have h3 := wo_len h0 hx
  have h5 := wo_le x (Lib.ctz 64 x)
  have h6 : wo x (Lib.ctz 64 x) ≠ x := fun e => by rw [e] at h3; omega
  omega
end Go.Proofs.YtpkkibnpjhlfmaaDoor
