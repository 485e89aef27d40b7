/-
  The hours in which something runs: runs of hours, as a list and counted hour by hour. Nothing of the program stands here.
-/
import Derived.Test.YtiilgeoahpnkpaaBlow3
namespace Go.Proofs.Ytiilgeoahpnkpaa
open Go.RowKit

abbrev TStay := Int × Int
def cStay (t : TStay) : List Value := [.int .i64 t.1, .int .i64 t.2]
theorem cStay_len (t : TStay) : (cStay t).length = 2 := rfl
section
variable (q : Nat → Bool)
def befB : Nat → Bool
  | 0 => false
  | i + 1 => q i
def runsL : Nat → List TStay
  | 0 => []
  | i + 1 => if q i = true then (if befB q i = true then (runsL i).set ((runsL i).length - 1) (((runsL i).getD ((runsL i).length - 1) (0, 0)).1, (i : Int) + 1) else runsL i ++ [((i : Int), (i : Int) + 1)]) else runsL i
def startsN : Nat → Nat
  | 0 => 0
  | i + 1 => startsN i + if (q i && !befB q i) = true then 1 else 0
def hoursN : Nat → Nat
  | 0 => 0
  | i + 1 => hoursN i + if q i = true then 1 else 0
/-- The first hour and the hours of the longest run, and of the one that lasts. -/
def longS : Nat → Int × Int × Int
  | 0 => (0, 0, 0)
  | i + 1 => if q i = true then (if (longS i).2.1 < (longS i).2.2 + 1 then ((i : Int) - ((longS i).2.2 + 1) + 1, (longS i).2.2 + 1, (longS i).2.2 + 1) else ((longS i).1, (longS i).2.1, (longS i).2.2 + 1)) else ((longS i).1, (longS i).2.1, 0)
end
def lenS (t : TStay) : Int := t.2 - t.1
def sumR (rs : List TStay) (k : Nat) : Int := ((rs.take k).map lenS).sum
def longer (b r : TStay) : TStay := if lenS b < lenS r then r else b
def longR (rs : List TStay) (k : Nat) : TStay := (rs.take k).foldl longer (0, 0)
theorem sumR_succ {rs : List TStay} {k : Nat} (h : k < rs.length) : sumR rs (k + 1) = sumR rs k + lenS rs[k] := by
  have e : rs.take (k + 1) = rs.take k ++ [rs[k]] := by rw [List.take_add_one, List.getElem?_eq_getElem h]; rfl
  unfold sumR
  rw [e, List.map_append, List.sum_append]
  simp
theorem longR_succ {rs : List TStay} {k : Nat} (h : k < rs.length) : longR rs (k + 1) = longer (longR rs k) rs[k] := by
  have e : rs.take (k + 1) = rs.take k ++ [rs[k]] := by rw [List.take_add_one, List.getElem?_eq_getElem h]; rfl
  unfold longR
  rw [e, List.foldl_append]
  rfl
theorem longR_app (rs : List TStay) (r : TStay) : longR (rs ++ [r]) (rs ++ [r]).length = longer (longR rs rs.length) r := by
  unfold longR
  rw [List.take_length, List.take_length, List.foldl_append]
  rfl
theorem sumR_app (rs : List TStay) (r : TStay) : sumR (rs ++ [r]) (rs ++ [r]).length = sumR rs rs.length + lenS r := by
  unfold sumR
  rw [List.take_length, List.take_length]
  simp
/-- What holds of the runs of the first hours. -/
structure RunsP (q : Nat → Bool) (i : Nat) : Prop where
  len : (runsL q i).length = startsN q i
  sum : sumR (runsL q i) (runsL q i).length = (hoursN q i : Int)
  long : longR (runsL q i) (runsL q i).length = ((longS q i).1, (longS q i).1 + (longS q i).2.1)
  most : 0 ≤ (longS q i).2.1 ∧ (longS q i).2.1 ≤ i ∧ 0 ≤ (longS q i).1 ∧ (longS q i).1 ≤ i ∧ 0 ≤ (longS q i).2.2 ∧ (longS q i).2.2 ≤ i
  zero : (longS q i).2.1 = 0 → (longS q i).1 = 0
  open_ : befB q i = true → ∃ (init : List TStay) (e : Int), runsL q i = init ++ [(e, (i : Int))] ∧ 0 ≤ e ∧ e < i ∧ (longS q i).2.2 = i - e
  shut : befB q i = false → (longS q i).2.2 = 0
  bd : ∀ r ∈ runsL q i, 0 ≤ r.1 ∧ r.1 < r.2 ∧ r.2 ≤ (i : Int)
theorem runsL_no {q : Nat → Bool} {i : Nat} (h : q i = false) : runsL q (i + 1) = runsL q i := by rw [runsL, h]; rfl
theorem runsL_start {q : Nat → Bool} {i : Nat} (h : q i = true) (hb : befB q i = false) : runsL q (i + 1) = runsL q i ++ [((i : Int), (i : Int) + 1)] := by rw [runsL, if_pos h, hb]; rfl
theorem runsL_go {q : Nat → Bool} {i : Nat} (h : q i = true) (hb : befB q i = true) : runsL q (i + 1) = (runsL q i).set ((runsL q i).length - 1) (((runsL q i).getD ((runsL q i).length - 1) (0, 0)).1, (i : Int) + 1) := by rw [runsL, if_pos h, if_pos hb]
theorem set_last (init : List TStay) (e x y : Int) : (init ++ [(e, x)]).set ((init ++ [(e, x)]).length - 1) (((init ++ [(e, x)]).getD ((init ++ [(e, x)]).length - 1) (0, 0)).1, y) = init ++ [(e, y)] := by
  have hl : (init ++ [(e, x)]).length - 1 = init.length := by simp
  rw [hl, List.set_append_right _ _ (Nat.le_refl _), Nat.sub_self, List.set_cons_zero, List.getD_eq_getElem?_getD, List.getElem?_append_right (Nat.le_refl _), Nat.sub_self]
  rfl
theorem runsP (q : Nat → Bool) : ∀ i, RunsP q i
  | 0 => ⟨rfl, rfl, rfl, by simp [longS], fun _ => rfl, fun h => by simp [befB] at h, fun _ => rfl, fun r hr => by simp [runsL] at hr⟩
  | i + 1 => by
    have ih := runsP q i
    cases h : q i with
    | false =>
      have e := runsL_no h
      have el : longS q (i + 1) = ((longS q i).1, (longS q i).2.1, 0) := by rw [longS, h]; rfl
      have em := ih.most
      refine ⟨?_, ?_, ?_, ?_, ?_, ?_, ?_, ?_⟩
      · rw [e, ih.len, startsN, h]; simp
      · rw [e, ih.sum, hoursN, h]; simp
      · rw [e, ih.long, el]
      · rw [el]; dsimp only; omega
      · rw [el]; exact ih.zero
      · intro h2; rw [befB, h] at h2; cases h2
      · intro _; rw [el]
      · intro r hr; rw [e] at hr; have := ih.bd r hr; omega
    | true =>
      cases hb : befB q i with
      | false =>
        have e := runsL_start h hb
        have em := ih.most
        have es := ih.shut hb
        have el : longS q (i + 1) = if (longS q i).2.1 < 1 then ((i : Int), 1, 1) else ((longS q i).1, (longS q i).2.1, 1) := by
          rw [longS, if_pos h, es]
          simp
        have hlong := longR_app (runsL q i) ((i : Int), (i : Int) + 1)
        rw [ih.long] at hlong
        refine ⟨?_, ?_, ?_, ?_, ?_, ?_, ?_, ?_⟩
        · rw [e, List.length_append, ih.len, startsN, h, hb]; rfl
        · rw [e, sumR_app, ih.sum, hoursN, if_pos h]; unfold lenS; dsimp only; omega
        · rw [e, hlong, el]
          unfold longer lenS
          dsimp only
          by_cases hl : (longS q i).2.1 < 1
          · rw [if_pos (by omega), if_pos hl]
          · rw [if_neg (by omega), if_neg hl]
        · rw [el]; split <;> dsimp only <;> omega
        · rw [el]
          split
          · intro h0; dsimp only at h0; omega
          · exact ih.zero
        · intro _
          refine ⟨runsL q i, (i : Int), by rw [e]; simp, by omega, by omega, ?_⟩
          rw [el]; split <;> dsimp only <;> omega
        · intro h2; rw [befB, h] at h2; cases h2
        · intro r hr
          rw [e, List.mem_append] at hr
          rcases hr with hr | hr
          · have := ih.bd r hr; omega
          · simp at hr; subst hr; dsimp only; omega
      | true =>
        obtain ⟨init, e0, hi, he1, he2, he3⟩ := ih.open_ hb
        have e : runsL q (i + 1) = init ++ [(e0, (i : Int) + 1)] := by rw [runsL_go h hb, hi, set_last]
        have em := ih.most
        have el : longS q (i + 1) = if (longS q i).2.1 < (i : Int) - e0 + 1 then (e0, (i : Int) - e0 + 1, (i : Int) - e0 + 1) else ((longS q i).1, (longS q i).2.1, (i : Int) - e0 + 1) := by
          rw [longS, if_pos h, he3]
          have : (i : Int) - ((i : Int) - e0 + 1) + 1 = e0 := by omega
          rw [this]
        have hold := ih.long
        rw [hi, longR_app] at hold
        have hold2 := ih.sum
        rw [hi, sumR_app] at hold2
        have hlen := ih.len
        rw [hi] at hlen
        refine ⟨?_, ?_, ?_, ?_, ?_, ?_, ?_, ?_⟩
        · rw [e, startsN, h, hb, ← hlen]; simp
        · rw [e, sumR_app, hoursN, if_pos h]
          unfold lenS at hold2 ⊢
          dsimp only at hold2 ⊢
          omega
        · rw [e, longR_app, el]
          generalize longR init init.length = b at hold
          obtain ⟨b1, b2⟩ := b
          unfold longer lenS at hold ⊢
          dsimp only at hold ⊢
          by_cases hc : b2 - b1 < (i : Int) - e0
          · rw [if_pos hc] at hold
            injection hold with h1 h2
            rw [if_pos (by omega), if_pos (by omega)]
            have : e0 + ((i : Int) - e0 + 1) = (i : Int) + 1 := by omega
            rw [this]
          · rw [if_neg hc] at hold
            injection hold with h1 h2
            by_cases hc2 : b2 - b1 < (i : Int) + 1 - e0
            · rw [if_pos hc2, if_pos (by omega)]
              have : e0 + ((i : Int) - e0 + 1) = (i : Int) + 1 := by omega
              rw [this]
            · rw [if_neg hc2, if_neg (by omega), h1, h2]
        · rw [el]; split <;> dsimp only <;> omega
        · rw [el]
          split
          · intro h0; dsimp only at h0; omega
          · exact ih.zero
        · intro _
          refine ⟨init, e0, by rw [e]; simp, he1, by omega, ?_⟩
          rw [el]; split <;> dsimp only <;> omega
        · intro h2; rw [befB, h] at h2; cases h2
        · intro r hr
          rw [e, List.mem_append] at hr
          rcases hr with hr | hr
          · have := ih.bd r (by rw [hi, List.mem_append]; exact .inl hr); omega
          · simp at hr; subst hr; dsimp only; omega
theorem startsN_le (q : Nat → Bool) : ∀ i, startsN q i ≤ i
  | 0 => Nat.le_refl _
  | i + 1 => by have := startsN_le q i; rw [startsN]; split <;> omega
theorem hoursN_le (q : Nat → Bool) : ∀ i, hoursN q i ≤ i
  | 0 => Nat.le_refl _
  | i + 1 => by have := hoursN_le q i; rw [hoursN]; split <;> omega
/-- In which hours the blower k runs. -/
def qB (l : List Int) (k i : Nat) : Bool := (l.getD i 0).toNat.testBit k
theorem befB_qB (l : List Int) (k i : Nat) : befB (qB l k) i = (befN l i).testBit k := by
  cases i with
  | zero => simp [befB, befN]
  | succ i => rfl
def startOf (ts : List TBlower) (l : List Int) (f : Int) : Int × Int := if kcode ts l f = 0 then ((startsN (qB l f.toNat) l.length : Int), 0) else (0, kcode ts l f)
def hourOf (ts : List TBlower) (l : List Int) (f : Int) : Int × Int := if kcode ts l f = 0 then ((hoursN (qB l f.toNat) l.length : Int), 0) else (0, kcode ts l f)
def longOf (ts : List TBlower) (l : List Int) (f : Int) : Int × Int × Int := if kcode ts l f = 0 then (if (longS (qB l f.toNat) l.length).2.1 = 0 then (0, 0, 3) else ((longS (qB l f.toNat) l.length).1, (longS (qB l f.toNat) l.length).2.1, 0)) else (0, 0, kcode ts l f)
theorem kcode_of {ts : List TBlower} {l : List Int} {f : Int} (h : kcode ts l f = 0) : blsB ts = true ∧ dayB ts.length l = true ∧ ∃ k : Nat, f = (k : Int) ∧ k < ts.length := by
  unfold kcode rangeCode at h
  split at h
  · rename_i hd
    split at h
    · rename_i hi
      have := inB_of hi
      obtain ⟨h1, h2⟩ := dcode_of hd
      exact ⟨h1, h2, f.toNat, by omega, by omega⟩
    · exact absurd h (by decide)
  · rename_i hd
    exact absurd h hd
end Go.Proofs.Ytiilgeoahpnkpaa
