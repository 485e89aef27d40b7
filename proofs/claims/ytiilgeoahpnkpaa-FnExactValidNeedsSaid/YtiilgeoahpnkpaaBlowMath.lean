/-
  Blowers: valid ones, what a set of them has together, the bank of all sets. Nothing of the program stands here.
-/
import Derived.Test.YtiilgeoahpnkpaaRowAt
import Derived.Test.YtiilgeoahpnkpaaBlowerRec
namespace Go.Proofs.Ytiilgeoahpnkpaa
open Go.RowKit

def blB (t : TBlower) : Bool := inB t.1 1 1000 && (inB t.2.1 0 10000 && inB t.2.2 0 10000)
def blsB (ts : List TBlower) : Bool := decide (ts.length ≤ 4) && ts.all blB
def neB (ns : List Int) : Bool := decide (ns.length ≤ 24) && ns.all (fun x => inB x 0 1000)
theorem blB_of {t : TBlower} (h : blB t = true) : (1 ≤ t.1 ∧ t.1 ≤ 1000) ∧ (0 ≤ t.2.1 ∧ t.2.1 ≤ 10000) ∧ 0 ≤ t.2.2 ∧ t.2.2 ≤ 10000 := by
  unfold blB at h
  rw [Bool.and_eq_true, Bool.and_eq_true] at h
  exact ⟨inB_of h.1, inB_of h.2.1, inB_of h.2.2⟩
theorem blsB_of {ts : List TBlower} (h : blsB ts = true) : ts.length ≤ 4 ∧ ∀ k (hk : k < ts.length), (1 ≤ ts[k].1 ∧ ts[k].1 ≤ 1000) ∧ (0 ≤ ts[k].2.1 ∧ ts[k].2.1 ≤ 10000) ∧ 0 ≤ ts[k].2.2 ∧ ts[k].2.2 ≤ 10000 := by
  unfold blsB at h
  rw [Bool.and_eq_true] at h
  exact ⟨of_decide_eq_true h.1, fun k hk => blB_of (all_at h.2 k hk)⟩
theorem blsB_many {ts : List TBlower} (h : ¬ ts.length ≤ 4) : blsB ts = false := by unfold blsB; rw [decide_eq_false h]; rfl
theorem blsB_few {ts : List TBlower} (h : ts.length ≤ 4) : blsB ts = ts.all blB := by unfold blsB; rw [decide_eq_true h]; rfl
theorem neB_of {ns : List Int} (h : neB ns = true) : ns.length ≤ 24 ∧ ∀ k (hk : k < ns.length), 0 ≤ ns[k] ∧ ns[k] ≤ 1000 := by
  unfold neB at h
  rw [Bool.and_eq_true] at h
  exact ⟨of_decide_eq_true h.1, fun k hk => inB_of (all_at (f := fun x => inB x 0 1000) h.2 k hk)⟩
theorem neB_many {ns : List Int} (h : ¬ ns.length ≤ 24) : neB ns = false := by unfold neB; rw [decide_eq_false h]; rfl
theorem neB_few {ns : List Int} (h : ns.length ≤ 24) : neB ns = ns.all (fun x => inB x 0 1000) := by unfold neB; rw [decide_eq_true h]; rfl

/-- A sum over those whose bit is set. -/
def sumS (f : Nat → Int) (s : Nat) : Nat → Int
  | 0 => 0
  | k + 1 => sumS f s k + (if s.testBit k = true then f k else 0)
theorem sumS_congr {f : Nat → Int} {s s' : Nat} : ∀ {k : Nat}, (∀ i, i < k → s.testBit i = s'.testBit i) → sumS f s k = sumS f s' k
  | 0, _ => rfl
  | k + 1, h => by rw [sumS, sumS, sumS_congr fun i hi => h i (by omega), h k (by omega)]
theorem sumS_bd {f : Nat → Int} {s : Nat} {M : Int} (hM : 0 ≤ M) : ∀ {k : Nat}, (∀ i, i < k → 0 ≤ f i ∧ f i ≤ M) → 0 ≤ sumS f s k ∧ sumS f s k ≤ k * M
  | 0, _ => by simp [sumS]
  | k + 1, h => by
    have ih := sumS_bd (s := s) hM (k := k) fun i hi => h i (by omega)
    have h1 := h k (by omega)
    have e : ((k + 1 : Nat) : Int) * M = (k : Int) * M + M := by rw [Int.natCast_add, Int.add_mul]; simp
    rw [sumS, e]
    split <;> omega
def pwN (ts : List TBlower) (k : Nat) : Int := (ts.getD k (0, 0, 0)).1
def hoN (ts : List TBlower) (k : Nat) : Int := (ts.getD k (0, 0, 0)).2.1
def stN (ts : List TBlower) (k : Nat) : Int := (ts.getD k (0, 0, 0)).2.2
theorem getD_atB {ts : List TBlower} {k : Nat} (h : k < ts.length) : ts.getD k (0, 0, 0) = ts[k] := by rw [List.getD_eq_getElem?_getD, List.getElem?_eq_getElem h, Option.getD_some]
theorem pwN_at {ts : List TBlower} {k : Nat} (h : k < ts.length) : pwN ts k = ts[k].1 := by unfold pwN; rw [getD_atB h]
theorem hoN_at {ts : List TBlower} {k : Nat} (h : k < ts.length) : hoN ts k = ts[k].2.1 := by unfold hoN; rw [getD_atB h]
theorem stN_at {ts : List TBlower} {k : Nat} (h : k < ts.length) : stN ts k = ts[k].2.2 := by unfold stN; rw [getD_atB h]
theorem sums_bd {ts : List TBlower} (h : blsB ts = true) (s : Nat) {k : Nat} (hk : k ≤ ts.length) : (0 ≤ sumS (pwN ts) s k ∧ sumS (pwN ts) s k ≤ 4000) ∧ (0 ≤ sumS (hoN ts) s k ∧ sumS (hoN ts) s k ≤ 40000) ∧ 0 ≤ sumS (stN ts) s k ∧ sumS (stN ts) s k ≤ 40000 := by
  obtain ⟨h1, h2⟩ := blsB_of h
  have a1 := sumS_bd (f := pwN ts) (s := s) (M := 1000) (by omega) (k := k) fun i hi => by rw [pwN_at (show i < ts.length by omega)]; have := h2 i (by omega); omega
  have a2 := sumS_bd (f := hoN ts) (s := s) (M := 10000) (by omega) (k := k) fun i hi => by rw [hoN_at (show i < ts.length by omega)]; have := h2 i (by omega); omega
  have a3 := sumS_bd (f := stN ts) (s := s) (M := 10000) (by omega) (k := k) fun i hi => by rw [stN_at (show i < ts.length by omega)]; have := h2 i (by omega); omega
  omega
/-- What the first k blowers of a set have together. -/
def bkA (ts : List TBlower) (k s : Nat) : TBlower := (sumS (pwN ts) s k, sumS (hoN ts) s k, sumS (stN ts) s k)
def bankL (ts : List TBlower) (k : Nat) : List TBlower := (List.range (2 ^ k)).map (bkA ts k)
def bankJ (ts : List TBlower) (k j : Nat) : List TBlower := (List.range (2 ^ k + j)).map (bkA ts (k + 1))
theorem bankL_len (ts : List TBlower) (k : Nat) : (bankL ts k).length = 2 ^ k := by simp [bankL]
theorem bankJ_len (ts : List TBlower) (k j : Nat) : (bankJ ts k j).length = 2 ^ k + j := by simp [bankJ]
theorem bankL_at (ts : List TBlower) (k s : Nat) (h : s < (bankL ts k).length) : (bankL ts k)[s] = bkA ts k s := by simp [bankL]
theorem bankL_zero (ts : List TBlower) : bankL ts 0 = [(0, 0, 0)] := rfl
theorem bkA_low (ts : List TBlower) {k s : Nat} (h : s < 2 ^ k) : bkA ts (k + 1) s = bkA ts k s := by
  have hb : s.testBit k = false := Nat.testBit_lt_two_pow h
  unfold bkA
  simp only [sumS, hb, Bool.false_eq_true, if_false, Int.add_zero]
theorem bkA_high (ts : List TBlower) {k j : Nat} (hj : j < 2 ^ k) (hk : k < ts.length) : bkA ts (k + 1) (2 ^ k + j) = ((bkA ts k j).1 + ts[k].1, (bkA ts k j).2.1 + ts[k].2.1, (bkA ts k j).2.2 + ts[k].2.2) := by
  have hb : (2 ^ k + j).testBit k = true := by rw [Nat.testBit_two_pow_add_eq, Nat.testBit_lt_two_pow hj]; rfl
  have hs : ∀ f, sumS f (2 ^ k + j) k = sumS f j k := fun f => sumS_congr fun i hi => Nat.testBit_two_pow_add_gt hi j
  unfold bkA
  simp only [sumS, hb, if_true, hs, pwN_at hk, hoN_at hk, stN_at hk]
theorem bankJ_zero (ts : List TBlower) (k : Nat) : bankJ ts k 0 = bankL ts k := by
  unfold bankJ bankL
  rw [Nat.add_zero]
  apply List.map_congr_left
  intro s hs
  exact bkA_low ts (List.mem_range.1 hs)
theorem bankJ_next (ts : List TBlower) {k j : Nat} (hj : j < 2 ^ k) (hk : k < ts.length) : bankJ ts k (j + 1) = bankJ ts k j ++ [((bkA ts k j).1 + ts[k].1, (bkA ts k j).2.1 + ts[k].2.1, (bkA ts k j).2.2 + ts[k].2.2)] := by
  unfold bankJ
  rw [← Nat.add_assoc, List.range_succ, List.map_append, List.map_singleton, bkA_high ts hj hk]
theorem bankJ_end (ts : List TBlower) (k : Nat) : bankJ ts k (2 ^ k) = bankL ts (k + 1) := by
  unfold bankJ bankL
  rw [Nat.pow_succ, Nat.mul_two]
theorem bankJ_pre (ts : List TBlower) (k j : Nat) : ∃ r, bankJ ts k j = bankL ts k ++ r := by
  rw [← bankJ_zero]
  unfold bankJ
  exact ⟨((List.range j).map (2 ^ k + ·)).map (bkA ts (k + 1)), by rw [Nat.add_zero (2 ^ k), List.range_add, List.map_append]⟩
theorem pow_le16 {k : Nat} (h : k ≤ 4) : 2 ^ k ≤ 16 := by
  match k, h with
  | 0, _ => decide
  | 1, _ => decide
  | 2, _ => decide
  | 3, _ => decide
  | 4, _ => decide
/-- A number is a set of blowers. -/
def setB (n : Nat) (s : Int) : Bool := inB s 0 (((2 ^ n : Nat) : Int) - 1)
/-- A set without another one. -/
def lessS (s b : Nat) : Nat := s &&& (15 ^^^ b)
theorem lessS_bit {s b i : Nat} (hi : i < 4) : (lessS s b).testBit i = (s.testBit i && !b.testBit i) := by
  have h15 : (15 : Nat).testBit i = true := by
    match i, hi with
    | 0, _ => rfl
    | 1, _ => rfl
    | 2, _ => rfl
    | 3, _ => rfl
  unfold lessS
  rw [Nat.testBit_and, Nat.testBit_xor, h15]
  simp
theorem lessS_le (s b : Nat) : lessS s b ≤ s := Nat.and_le_left
/-- What an hour costs with a set behind another one. -/
def stepS (ts : List TBlower) (b s : Nat) : Int := sumS (hoN ts) s ts.length + sumS (stN ts) (lessS s b) ts.length
theorem stepS_bd {ts : List TBlower} (h : blsB ts = true) (b s : Nat) : 0 ≤ stepS ts b s ∧ stepS ts b s ≤ 80000 := by
  have h1 := sums_bd h s (Nat.le_refl _)
  have h2 := sums_bd h (lessS s b) (Nat.le_refl _)
  unfold stepS
  omega
/-- What sets in hours cost, behind another one. -/
def costL (ts : List TBlower) : Nat → List Nat → Int
  | _, [] => 0
  | b, s :: l => stepS ts b s + costL ts s l
end Go.Proofs.Ytiilgeoahpnkpaa
