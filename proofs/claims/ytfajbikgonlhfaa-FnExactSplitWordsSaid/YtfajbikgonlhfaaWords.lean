/-
  SplitWords: the model's walks and the program's.
-/
import Derived.Test.YtfajbikgonlhfaaWordMath
import Derived.Test.YtfajbikgonlhfaaTexts
import Derived.Test.YtfajbikgonlhfaaAppend
import Derived.Laws.DeepStrings4
namespace Go.Proofs.Ytfajbikgonlhfaa
open Go.RowKit

def neB (t : ByteArray) : Bool := decide (0 < t.size)
def ext (s : ByteArray) (x : Nat × Nat) : ByteArray := s.extract x.1 x.2
/-- One byte more. -/
def stepB (s : ByteArray) (p : Nat) (x : List (Nat × Nat) × Option Nat) : List (Nat × Nat) × Option Nat :=
  if p < s.size then (if s.get! p = 32 then (match x.2 with | some a => (x.1 ++ [(a, p)], none) | none => (x.1, none)) else (match x.2 with | some a => (x.1, some a) | none => (x.1, some p))) else x
theorem spB_snoc (s : ByteArray) : ∀ (f pos : Nat) (st : Option Nat) (acc : List (Nat × Nat)), spB s (f + 1) pos st acc = stepB s (pos + f) (spB s f pos st acc)
  | 0, pos, st, acc => by
    show spB s 1 pos st acc = stepB s pos (acc, st)
    unfold stepB
    conv => lhs; unfold spB
    by_cases h : pos < s.size
    · rw [if_pos h, if_pos h]
      by_cases hb : s.get! pos = 32
      · rw [if_pos hb, if_pos hb]; cases st <;> rfl
      · rw [if_neg hb, if_neg hb]; cases st <;> rfl
    · rw [if_neg h, if_neg h]
  | f + 1, pos, st, acc => by
    by_cases h : pos < s.size
    · conv => lhs; unfold spB
      conv => rhs; unfold spB
      rw [if_pos h, if_pos h]
      by_cases hb : s.get! pos = 32
      · rw [if_pos hb, if_pos hb]
        cases st <;> (simp only []; rw [spB_snoc s f, show pos + 1 + f = pos + (f + 1) by omega])
      · rw [if_neg hb, if_neg hb]
        cases st <;> (simp only []; rw [spB_snoc s f, show pos + 1 + f = pos + (f + 1) by omega])
    · rw [spB_end s _ pos st acc h, spB_end s _ pos st acc h]
      unfold stepB
      rw [if_neg (by omega)]
def upB (s : ByteArray) (i : Nat) : List (Nat × Nat) × Option Nat := spB s i 0 none []
/-- What the model has found of the first i bytes. -/
def WS (s : ByteArray) (i : Nat) (P : List ByteArray) (fr : Nat) : Prop := P.filter neB = (upB s i).1.map (ext s) ∧ (upB s i).2 = (if fr = i then none else some fr) ∧ fr ≤ i ∧ P.length ≤ i
theorem ext_size (s : ByteArray) (a b : Nat) (h : b ≤ s.size) : (s.extract a b).size = b - a := by
  rw [ByteArray.size_extract]; omega
theorem neB_ext {s : ByteArray} {a b : Nat} (h : b ≤ s.size) : neB (s.extract a b) = decide (a < b) := by
  unfold neB
  rw [ext_size s a b h]
  by_cases h' : a < b
  · rw [decide_eq_true h', decide_eq_true (by omega)]
  · rw [decide_eq_false h', decide_eq_false (by omega)]
theorem WS_start (s : ByteArray) : WS s 0 [] 0 := ⟨rfl, rfl, Nat.le_refl _, Nat.le_refl _⟩
theorem WS_blank {s : ByteArray} {i fr : Nat} {P : List ByteArray} (h : WS s i P fr) (hi : i < s.size) (hb : s.get! i = 32) : WS s (i + 1) (P ++ [s.extract fr i]) (i + 1) := by
  obtain ⟨h1, h2, h3, h4⟩ := h
  have e : upB s (i + 1) = stepB s i (upB s i) := by unfold upB; rw [spB_snoc, Nat.zero_add]
  have hn := neB_ext (s := s) (a := fr) (b := i) (by omega)
  unfold stepB at e
  rw [if_pos hi, if_pos hb, h2] at e
  refine ⟨?_, ?_, Nat.le_refl _, by simp; omega⟩
  · rw [List.filter_append, h1, e]
    by_cases hf : fr = i
    · rw [if_pos hf]
      have : neB (s.extract fr i) = false := by rw [hn]; exact decide_eq_false (by omega)
      simp [this]
    · rw [if_neg hf]
      have : neB (s.extract fr i) = true := by rw [hn]; exact decide_eq_true (by omega)
      simp [this, ext]
  · rw [e, if_pos rfl]
    by_cases hf : fr = i
    · rw [if_pos hf]
    · rw [if_neg hf]
theorem WS_letter {s : ByteArray} {i fr : Nat} {P : List ByteArray} (h : WS s i P fr) (hi : i < s.size) (hb : ¬ s.get! i = 32) : WS s (i + 1) P fr := by
  obtain ⟨h1, h2, h3, h4⟩ := h
  have e : upB s (i + 1) = stepB s i (upB s i) := by unfold upB; rw [spB_snoc, Nat.zero_add]
  unfold stepB at e
  rw [if_pos hi, if_neg hb, h2] at e
  by_cases hf : fr = i
  · rw [if_pos hf] at e
    subst hf
    exact ⟨by rw [e]; exact h1, by rw [e, if_neg (by omega)], by omega, by omega⟩
  · rw [if_neg hf] at e
    exact ⟨by rw [e]; exact h1, by rw [e, if_neg (by omega)], by omega, by omega⟩
def wordsOf (s : ByteArray) : List ByteArray := Lib.goFieldsP (fun r => r == 32) s
theorem WS_end {s : ByteArray} {fr : Nat} {P : List ByteArray} (h : WS s s.size P fr) : (P ++ [s.extract fr s.size]).filter neB = wordsOf s := by
  obtain ⟨h1, h2, h3, h4⟩ := h
  have hn := neB_ext (s := s) (a := fr) (b := s.size) (Nat.le_refl _)
  unfold wordsOf Lib.goFieldsP Lib.spansOfP
  rw [spans_bytes s s.size s.size s.size 0 none [] (by omega) (by omega) (by omega)]
  have e : spB s s.size 0 none [] = upB s s.size := rfl
  rw [e, List.filter_append, h1]
  generalize upB s s.size = u at h2
  obtain ⟨acc, st⟩ := u
  simp only at h2
  subst h2
  by_cases hf : fr = s.size
  · rw [if_pos hf]
    have : neB (s.extract fr s.size) = false := by rw [hn]; exact decide_eq_false (by omega)
    simp [this, Lib.closeSpans, ext]
  · rw [if_neg hf]
    have : neB (s.extract fr s.size) = true := by rw [hn]; exact decide_eq_true (by omega)
    simp [this, Lib.closeSpans, ext]

set_option maxRecDepth 100000 in
set_option maxHeartbeats 8000000 in
theorem l01Split_any (s : ByteArray) (hs : s.size ≤ 1048576) (w : World) :
    Calls Try.prog 9 #[.string s, .int .u8 32] w fun e w' => ∃ (Q : List ByteArray) (m g c : Nat), e = .returned (.slice (some ⟨g, 0, none⟩) m c) ∧ Hid (Q.length = m) ∧ m ≤ 1048577 ∧ Hid (Q.filter neB = wordsOf s) ∧ Below w.heap.size w w' ∧ w'.ownsRow w.heap.size 9 1 (.slice (some ⟨g, 0, none⟩) m c) m (Q.map Value.string) := by
  have HI : Hid (∃ i0 : TypeInfo, Try.prog.info? 9 = some i0 ∧ i0.zero = some (.string ByteArray.empty) ∧ i0.size = 1 ∧ i0.bytes = 16) := info_parts info9
  go_enter Try.func9, Try.ntmps9
  go_wp2
  go_loopw [5, 6, 7] (fun q fv iv wr => ∃ (i fr m b c : Nat) (Q : List ByteArray), i ≤ s.size ∧ fr ≤ i ∧ m ≤ i ∧ iv = .int .i64 (i : Int) ∧ fv = .int .i64 (fr : Int) ∧ q = .slice (some ⟨b, 0, none⟩) m c ∧ Hid (Q.length = m) ∧ Hid (WS s i Q fr) ∧ Hid (Below w.heap.size w wr) ∧ Hid (wr.ownsRow w.heap.size 9 1 (.slice (some ⟨b, 0, none⟩) m c) m (Q.map Value.string))) (fun _ _ iv _ => s.size - (intOf iv).toNat)
  case atStart => exact ⟨0, 0, 0, _, _, [], by omega, by omega, by omega, rfl, rfl, rfl, rfl, WS_start s, (by repeat (first | exact Below.refl _ _ | refine Below.alloc ?_ (by simp; try omega) _ | refine Below.setCell ?_ (by simp; try omega) _)), by unfold Hid; simpa using World.ownsRow_made w #[] 0 (Nat.le_refl _) (by unfold maxLen; omega) rfl⟩
  case round =>
    obtain ⟨i, fr, m, b, c, Q, hi, hfr, hmi, rfl, rfl, rfl, HN, HW, HB, HO⟩ := hrel
    have HGE : Hid (∀ q, (Value.slice (some ⟨b, 0, none⟩) m c).ownBlock = some q → w.heap.size ≤ q) := fun q hq => (HO.out.lt q hq).1
    have hzq := HB.out.size
    generalize hxo : Q.map Value.string = xo at HO
    have HXO := Lib.hid hxo
    clear hxo
    by_cases hlt : i < s.size
    · have hk0 : (0 : Int) ≤ (i : Int) := by omega
      have hk1 : (i : Int) < (s.size : Int) := by omega
      have hget : s.get! i = s[i] := by show s.data[i]! = s.data[i]; exact getElem!_pos s.data i hlt
      by_cases hb : s.get! i = 32
      · have HWN := Lib.hid (WS_blank HW.out hlt hb)
        have hb1 : ((s[i].toNat : Int) == 32) = true := by rw [← hget, hb]; rfl
        clear hb hget
        go_wp2_with (first | (at_builtin; refine wpList_append_lies _ rfl _ _ 22 rfl w.heap.size 9 HI.out.choose (.string ByteArray.empty) 1 16 Try.underlying22 HI.out.choose_spec.1 HI.out.choose_spec.2.1 HI.out.choose_spec.2.2.1 HI.out.choose_spec.2.2.2 rfl (by decide) (.slice (some ⟨b, 0, none⟩) m c) m xo rfl (HO.out.alloc _) ⟨wr.heap.size, 0, none⟩ 1 1 [.string (s.extract fr i)] rfl rfl ?_ (by intro u hu; simp at hu; subst hu; rfl) (by omega) (by unfold maxLen; omega) (by omega) (by simp; omega) _ rfl ?_; (next => (intro j u hj; match j, hj with | 0, hj => (simp at hj; subst hj; simp [Addr.add, go_sem])))))
        intro g10 cap10 w10 hown10 hgrow10 _ _
        have B10 : Hid (Below w.heap.size w w10) := (HB.out.alloc hzq _).grown hgrow10 (by simp; omega) HGE.out
        have O10 : Hid (w10.ownsRow w.heap.size 9 1 (.slice (some ⟨g10, 0, none⟩) (m + 1) cap10) (m + 1) ((Q ++ [s.extract fr i]).map Value.string)) := by
          unfold Hid; rw [List.map_append, HXO.out]; exact hown10
        have M10 : Hid ((Q ++ [s.extract fr i]).length = m + 1) := by unfold Hid; rw [List.length_append, HN.out]; rfl
        clear hown10 hgrow10
        go_wp2
        go_roundw
        case rel => exact ⟨i + 1, i + 1, m + 1, g10, cap10, _, by omega, by omega, by omega, by go_num, by go_num, rfl, M10.out, HWN.out, B10.out, O10.out⟩
        case measure => simp [intOf]; omega
      · have HWN := Lib.hid (WS_letter HW.out hlt hb)
        have hb1 : ((s[i].toNat : Int) == 32) = false := by
          rw [← hget]
          simp only [beq_eq_false_iff_ne]
          intro h
          exact hb (UInt8.toNat_inj.1 (by have : (s.get! i).toNat = 32 := by omega
                                          rw [this]; rfl))
        have HO2 : Hid (wr.ownsRow w.heap.size 9 1 (.slice (some ⟨b, 0, none⟩) m c) m (Q.map Value.string)) := by unfold Hid; rw [HXO.out]; exact HO.out
        clear hb hget
        go_wp2
        go_roundw
        case rel => exact ⟨i + 1, fr, m, b, c, Q, by omega, by omega, by omega, by go_num, rfl, rfl, HN.out, HWN.out, HB.out, HO2.out⟩
        case measure => simp [intOf]; omega
    · have his : i = s.size := by omega
      subst his
      have HWE := Lib.hid (WS_end HW.out)
      go_wp2_with (first | (at_builtin; refine wpList_append_lies _ rfl _ _ 22 rfl w.heap.size 9 HI.out.choose (.string ByteArray.empty) 1 16 Try.underlying22 HI.out.choose_spec.1 HI.out.choose_spec.2.1 HI.out.choose_spec.2.2.1 HI.out.choose_spec.2.2.2 rfl (by decide) (.slice (some ⟨b, 0, none⟩) m c) m xo rfl (HO.out.alloc _) ⟨wr.heap.size, 0, none⟩ 1 1 [.string (s.extract fr s.size)] rfl rfl ?_ (by intro u hu; simp at hu; subst hu; rfl) (by omega) (by unfold maxLen; omega) (by omega) (by simp; omega) _ rfl ?_; (next => (intro j u hj; match j, hj with | 0, hj => (simp at hj; subst hj; simp [Addr.add, go_sem])))))
      intro g10 cap10 w10 hown10 hgrow10 _ _
      have B10 : Hid (Below w.heap.size w w10) := (HB.out.alloc hzq _).grown hgrow10 (by simp; omega) HGE.out
      have O10 : Hid (w10.ownsRow w.heap.size 9 1 (.slice (some ⟨g10, 0, none⟩) (m + 1) cap10) (m + 1) ((Q ++ [s.extract fr s.size]).map Value.string)) := by
        unfold Hid; rw [List.map_append, HXO.out]; exact hown10
      have M10 : Hid ((Q ++ [s.extract fr s.size]).length = m + 1) := by unfold Hid; rw [List.length_append, HN.out]; rfl
      clear hown10 hgrow10
      go_wp2
      go_ret
      exact ⟨_, m + 1, g10, cap10, rfl, M10.out, by omega, HWE.out, B10.out, O10.out⟩

/-- A call hands back a slice of its own that holds these texts. -/
def GivesS1 (ws : List ByteArray) (w : World) (e : Ending) (w' : World) : Prop := ∃ (ao : Option Addr) (m c : Nat), e = .returned (.slice ao m c) ∧ Hid (ws.length = m) ∧ Below w.heap.size w w' ∧ w'.ownsRow w.heap.size 9 1 (.slice ao m c) m (ws.map Value.string)
theorem GivesS1.elim {ws : List ByteArray} {m : Nat} {w w' : World} {e : Ending} (hm : Hid (ws.length = m)) (h : GivesS1 ws w e w') : ∃ (ao : Option Addr) (c : Nat), e = .returned (.slice ao m c) ∧ Below w.heap.size w w' ∧ w'.ownsRow w.heap.size 9 1 (.slice ao m c) m (ws.map Value.string) := by
  obtain ⟨ao, m', c, he, hm', hb, ho⟩ := h
  obtain rfl : m' = m := hm'.out.symm.trans hm.out
  exact ⟨ao, c, he, hb, ho⟩
theorem WS_some (s : ByteArray) : ∀ i, i ≤ s.size → ∃ P fr, WS s i P fr
  | 0, _ => ⟨[], 0, WS_start s⟩
  | i + 1, h => by
    obtain ⟨P, fr, hw⟩ := WS_some s i (by omega)
    by_cases hb : s.get! i = 32
    · exact ⟨_, _, WS_blank hw (by omega) hb⟩
    · exact ⟨_, _, WS_letter hw (by omega) hb⟩
theorem wordsOf_len (s : ByteArray) : (wordsOf s).length ≤ s.size + 1 := by
  obtain ⟨P, fr, hw⟩ := WS_some s s.size (Nat.le_refl _)
  rw [← WS_end hw]
  have h1 := List.length_filter_le neB (P ++ [s.extract fr s.size])
  have h2 := hw.2.2.2
  rw [List.length_append, List.length_singleton] at h1
  omega
theorem neB_ways (t : ByteArray) : (neB t = true ∧ (t.toList != (⟨#[]⟩ : ByteArray).toList) = true ∧ ¬ t.toList = [] ∧ t.toList.isEmpty = false ∧ (t.toList == []) = false ∧ (t.toList != []) = true) ∨ (neB t = false ∧ (t.toList != (⟨#[]⟩ : ByteArray).toList) = false ∧ t.toList = [] ∧ t.toList.isEmpty = true ∧ (t.toList == []) = true ∧ (t.toList != []) = false) := by
  have e0 : (⟨#[]⟩ : ByteArray).toList = [] := by rw [ByteArray.toList_eq]
  rcases eq_waysS t ⟨#[]⟩ with ⟨⟨e1, e2⟩, e3⟩ | ⟨⟨e1, e2⟩, e3⟩
  · right
    subst e3
    exact ⟨rfl, e2, e0, by rw [e0]; rfl, by rw [e0]; rfl, by rw [e0]; rfl⟩
  · left
    have hne : ¬ t.toList = [] := fun h => by rw [e0, h] at e1; simp at e1
    refine ⟨decide_eq_true ?_, e2, hne, by simpa using hne, by simpa using hne, by simpa using hne⟩
    by_cases h : 0 < t.size
    · exact h
    · exfalso
      refine e3 (ByteArray.ext (Array.eq_empty_of_size_eq_zero ?_))
      show t.size = 0
      omega
theorem filter_take {Q : List ByteArray} {i : Nat} (h : i < Q.length) : (Q.take (i + 1)).filter neB = if neB Q[i] = true then (Q.take i).filter neB ++ [Q[i]] else (Q.take i).filter neB := by
  rw [List.take_add_one, List.getElem?_eq_getElem h, List.filter_append]
  by_cases hf : neB Q[i] = true
  · rw [if_pos hf]; simp [hf]
  · rw [if_neg hf]; simp [hf]
theorem two_worldsW {a b c : World} (h : Below a.heap.size a b) (k : Below b.heap.size b c) : Below a.heap.size a c := h.trans (k.mono h.size)
theorem row_cellW {w : World} {lo g n cap : Nat} {e : TypeId} {ns : List ByteArray} (h : w.ownsRow lo e 1 (.slice (some ⟨g, 0, none⟩) n cap) n (ns.map Value.string)) (i : Nat) (hi : i < ns.length) : w.cell? ⟨g, i, none⟩ = some (.string ns[i]) := by
  have := h.cells (g := g) rfl i _ (strs_cell ns i hi)
  rw [Addr.add_lit] at this
  simpa using this

set_option maxRecDepth 100000 in
set_option maxHeartbeats 8000000 in
theorem specWords_any (s : ByteArray) (hs : s.size ≤ 1048576) (w : World) : Calls Try.prog 4 #[.string s] w (GivesS1 (wordsOf s) w) := by
  have HI : Hid (∃ i0 : TypeInfo, Try.prog.info? 9 = some i0 ∧ i0.zero = some (.string ByteArray.empty) ∧ i0.size = 1 ∧ i0.bytes = 16) := info_parts info9
  go_enter Try.func4, Try.ntmps4
  go_wp2_with fail
  refine (l01Split_any s hs _).mono ?_
  rintro e w2 ⟨Q, m, g, c, rfl, HQ, hm, HF, hb2, ho2⟩
  have HB2 := Lib.hid hb2
  have HO2 := Lib.hid ho2
  have hgl := (ho2.lt g rfl).2
  clear hb2 ho2
  go_wp2
  go_loopw [4, 5] (fun q iv wr => ∃ (i mo b co : Nat), i ≤ m ∧ mo ≤ i ∧ iv = .int .i64 (i : Int) ∧ q = .slice (some ⟨b, 0, none⟩) mo co ∧ Hid (((Q.take i).filter neB).length = mo) ∧ Hid (Below w2.heap.size w2 wr) ∧ Hid (wr.ownsRow w2.heap.size 9 1 (.slice (some ⟨b, 0, none⟩) mo co) mo (((Q.take i).filter neB).map Value.string))) (fun _ iv _ => m - (intOf iv).toNat)
  case atStart => exact ⟨0, 0, _, _, by omega, by omega, rfl, rfl, rfl, (by repeat (first | exact Below.refl _ _ | refine Below.alloc ?_ (by simp; try omega) _ | refine Below.setCell ?_ (by simp; try omega) _)), by unfold Hid; simpa using World.ownsRow_made w2 #[] 0 (Nat.le_refl _) (by unfold maxLen; omega) rfl⟩
  case round =>
    obtain ⟨i, mo, b, co, hi, hmi, rfl, rfl, HN, HB, HO⟩ := hrel
    by_cases hlt : i < m
    · have hil : i < Q.length := by rw [HQ.out]; exact hlt
      have x1 := (HB.out.cell (p := ⟨g, i, none⟩) hgl).trans (row_cellW HO2.out i hil)
      have HST := Lib.hid (filter_take hil)
      generalize Q[i] = t at x1 HST
      have hgw : g < wr.heap.size := Nat.lt_of_lt_of_le hgl HB.out.size
      have hk0 : (0 : Int) ≤ (i : Int) := by omega
      have hk1 : (i : Int) < (m : Int) := by omega
      have HGE : Hid (∀ q, (Value.slice (some ⟨b, 0, none⟩) mo co).ownBlock = some q → w2.heap.size ≤ q) := fun q hq => (HO.out.lt q hq).1
      have hzq := HB.out.size
      rcases neB_ways t with ⟨n1, n2, n3, n4, n5, n6⟩ | ⟨n1, n2, n3, n4, n5, n6⟩
      · have HE2 : Hid ((Q.take (i + 1)).filter neB = (Q.take i).filter neB ++ [t]) := by rw [if_pos n1] at HST; exact HST.out
        generalize hxo : ((Q.take i).filter neB).map Value.string = xo at HO
        have HXO := Lib.hid hxo
        clear hxo n1 HST
        go_wp2_with (first | (at_builtin; refine wpList_append_lies _ rfl _ _ 22 rfl w2.heap.size 9 HI.out.choose (.string ByteArray.empty) 1 16 Try.underlying22 HI.out.choose_spec.1 HI.out.choose_spec.2.1 HI.out.choose_spec.2.2.1 HI.out.choose_spec.2.2.2 rfl (by decide) (.slice (some ⟨b, 0, none⟩) mo co) mo xo rfl (HO.out.alloc _) ⟨wr.heap.size, 0, none⟩ 1 1 [.string t] rfl rfl ?_ (by intro u hu; simp at hu; subst hu; rfl) (by omega) (by unfold maxLen; omega) (by omega) (by simp; omega) _ rfl ?_; (next => (intro j u hj; match j, hj with | 0, hj => (simp at hj; subst hj; simp [Addr.add, go_sem])))))
        intro g10 cap10 w10 hown10 hgrow10 _ _
        have B10 : Hid (Below w2.heap.size w2 w10) := (HB.out.alloc hzq _).grown hgrow10 (by simp; omega) HGE.out
        have O10 : Hid (w10.ownsRow w2.heap.size 9 1 (.slice (some ⟨g10, 0, none⟩) (mo + 1) cap10) (mo + 1) (((Q.take (i + 1)).filter neB).map Value.string)) := by
          unfold Hid; rw [HE2.out, List.map_append, HXO.out]; exact hown10
        have M10 : Hid (((Q.take (i + 1)).filter neB).length = mo + 1) := by unfold Hid; rw [HE2.out, List.length_append, HN.out]; rfl
        clear hown10 hgrow10
        go_wp2
        go_roundw
        case rel => exact ⟨i + 1, mo + 1, g10, cap10, by omega, by omega, by go_num, rfl, M10.out, B10.out, O10.out⟩
        case measure => simp [intOf]; omega
      · have HE2 : Hid ((Q.take (i + 1)).filter neB = (Q.take i).filter neB) := by rw [if_neg (by rw [n1]; simp)] at HST; exact HST.out
        clear n1 HST
        go_wp2
        go_roundw
        case rel => exact ⟨i + 1, mo, b, co, by omega, by omega, by go_num, rfl, by unfold Hid; rw [HE2.out]; exact HN.out, HB.out, by unfold Hid; rw [HE2.out]; exact HO.out⟩
        case measure => simp [intOf]; omega
    · have him : i = m := by omega
      have hall : Q.take i = Q := List.take_of_length_le (by rw [HQ.out]; omega)
      have HFN : Hid ((wordsOf s).length = mo) := by rw [← HF.out, ← hall]; exact HN.out
      have HOW : Hid (wr.ownsRow w.heap.size 9 1 (.slice (some ⟨b, 0, none⟩) mo co) mo ((wordsOf s).map Value.string)) := by
        unfold Hid; rw [← HF.out, ← hall]; exact own_lo HO.out HB2.out.size
      have HBW := Lib.hid (two_worldsW HB2.out HB.out)
      clear hall
      go_wp2
      go_ret
      exact ⟨_, mo, co, rfl, HFN.out, HBW.out, HOW.out⟩
end Go.Proofs.Ytfajbikgonlhfaa
