/-
  The phases of a zone: the walk of phases, and of begin and end of a stay.
-/
import Derived.Test.YtfejgckimlgopaaSelZ
namespace Go.Proofs.Ytfejgckimlgopaa
open Go.RowKit

/-- The phases, from a tick and a level on. -/
def phs : Int → Int → List C3 → List C3
  | f, l, [] => [(f, 9223372036854775807, l)]
  | f, l, c :: h => (f, c.1, l) :: phs c.1 c.2.2 h
def stP (f l : Int) (h : List C3) : Nat → Int × Int
  | 0 => (f, l)
  | k + 1 => ((h.getD k (0, 0, 0)).1, (h.getD k (0, 0, 0)).2.2)
theorem phs_len : ∀ (h : List C3) (f l : Int), (phs f l h).length = h.length + 1
  | [], _, _ => rfl
  | c :: h, _, _ => by unfold phs; rw [List.length_cons, phs_len h]; rfl
theorem phs_at : ∀ (h : List C3) (f l : Int) (k : Nat), k < h.length → (phs f l h)[k]? = some ((stP f l h k).1, (h.getD k (0, 0, 0)).1, (stP f l h k).2)
  | [], _, _, k, hk => by simp at hk
  | c :: h, f, l, 0, _ => rfl
  | c :: h, f, l, k + 1, hk => by
    unfold phs
    rw [List.getElem?_cons_succ, phs_at h c.1 c.2.2 k (by simpa using hk)]
    cases k <;> rfl
theorem phs_last : ∀ (h : List C3) (f l : Int), (phs f l h)[h.length]? = some ((stP f l h h.length).1, 9223372036854775807, (stP f l h h.length).2)
  | [], _, _ => rfl
  | c :: h, f, l => by
    unfold phs
    rw [List.length_cons, List.getElem?_cons_succ, phs_last h c.1 c.2.2]
    cases h <;> rfl
/-- What stands there behind k rounds. -/
def phQ (h : List C3) (k : Nat) : List C3 := (phs 0 0 h).take k ++ [((stP 0 0 h k).1, 0, (stP 0 0 h k).2)]
theorem phQ_len {h : List C3} {k : Nat} (hk : k ≤ h.length) : (phQ h k).length = k + 1 := by
  unfold phQ
  rw [List.length_append, List.length_take, phs_len]
  simp; omega
theorem phQ_last {h : List C3} {k : Nat} (hk : k ≤ h.length) : (phQ h k)[k]? = some ((stP 0 0 h k).1, 0, (stP 0 0 h k).2) := by
  unfold phQ
  rw [List.getElem?_append_right (by rw [List.length_take, phs_len]; omega), List.length_take, phs_len, show k - min k (h.length + 1) = 0 by omega]
  rfl
theorem phQ_next {h : List C3} {k : Nat} (hk : k < h.length) : (phQ h k).set k ((stP 0 0 h k).1, (h[k]).1, (stP 0 0 h k).2) ++ [((h[k]).1, 0, (h[k]).2.2)] = phQ h (k + 1) := by
  have hg : h.getD k (0, 0, 0) = h[k] := by rw [List.getD_eq_getElem?_getD, List.getElem?_eq_getElem hk]; rfl
  unfold phQ
  rw [List.set_append_right _ _ (by rw [List.length_take, phs_len]; omega), List.length_take, phs_len, show k - min k (h.length + 1) = 0 by omega]
  have ht : (phs 0 0 h).take (k + 1) = (phs 0 0 h).take k ++ [((stP 0 0 h k).1, (h[k]).1, (stP 0 0 h k).2)] := by
    rw [List.take_add_one, phs_at h 0 0 k hk, hg]
    rfl
  rw [ht, List.set_cons_zero]
  show _ = _ ++ [((h.getD k (0, 0, 0)).1, 0, (h.getD k (0, 0, 0)).2.2)]
  rw [hg]
theorem phQ_end (h : List C3) : (phQ h h.length).set h.length ((stP 0 0 h h.length).1, 9223372036854775807, (stP 0 0 h h.length).2) = phs 0 0 h := by
  unfold phQ
  rw [List.set_append_right _ _ (by rw [List.length_take, phs_len]; omega), List.length_take, phs_len, show h.length - min h.length (h.length + 1) = 0 by omega, List.set_cons_zero]
  have := List.take_append_drop h.length (phs 0 0 h)
  conv => rhs; rw [← this]
  congr 1
  have hd : (phs 0 0 h).drop h.length = [((stP 0 0 h h.length).1, 9223372036854775807, (stP 0 0 h h.length).2)] := by
    apply List.ext_getElem?
    intro i
    rw [List.getElem?_drop]
    cases i with
    | zero => rw [Nat.add_zero, phs_last]; rfl
    | succ i => rw [List.getElem?_eq_none (by rw [phs_len]; omega), List.getElem?_eq_none (by simp)]
  rw [hd]
theorem infoPhase : (Try.prog.info? 91).map (fun i => (i.zero, i.size, i.bytes)) = some (some (.agg #[.int .i64 0, .int .i64 0, .int .i64 0]), 3, 24) := by kernel_rfl
theorem stayEnd_any (f e : Int) (w : World) : Calls Try.prog 68 #[.agg #[.int .i64 f, .int .i64 e]] w fun r w' => r = .returned (.int .i64 e) ∧ Below w.heap.size w w' := by
  go_enter Try.func68, Try.ntmps68
  go_wp2
  go_ret
  exact ⟨rfl, (by repeat (first | exact Below.refl _ _ | refine Below.alloc ?_ (by simp; try omega) _ | refine Below.setCell ?_ (by simp; try omega) _))⟩
theorem stayBegin_any (f e : Int) (w : World) : Calls Try.prog 87 #[.agg #[.int .i64 f, .int .i64 e]] w fun r w' => r = .returned (.int .i64 f) ∧ Below w.heap.size w w' := by
  go_enter Try.func87, Try.ntmps87
  go_wp2
  go_ret
  exact ⟨rfl, (by repeat (first | exact Below.refl _ _ | refine Below.alloc ?_ (by simp; try omega) _ | refine Below.setCell ?_ (by simp; try omega) _))⟩
set_option maxRecDepth 20000 in
set_option maxHeartbeats 4000000 in
theorem phases_any (h : List C3) (a : Option Addr) (n cap : Nat) (w : World) (hn : Hid (h.length = n)) (hmax : n ≤ 60) (hr : RR 3 cChange w a h) :
    Calls Try.prog 67 #[.slice a n cap] w fun e w' => (∃ g c, e = .returned (.slice (some ⟨g, 0, none⟩) (n + 1) c) ∧ RR 3 cChange w' (some ⟨g, 0, none⟩) (phs 0 0 h)) ∧ Below w.heap.size w w' := by
  have HR : Hid (∀ W, Below w.heap.size w W → RR 3 cChange W a h) := fun W hW => hr.below hW
  have HI : Hid (∃ i0 : TypeInfo, Try.prog.info? 91 = some i0 ∧ i0.zero = some (.agg #[.int .i64 0, .int .i64 0, .int .i64 0]) ∧ i0.size = 3 ∧ i0.bytes = 24) := info_parts infoPhase
  clear hr
  go_enter Try.func67, Try.ntmps67
  go_wp2
  go_loopw [3, 10] (fun vo iv wr => ∃ (k g c : Nat), k ≤ n ∧ vo = .slice (some ⟨g, 0, none⟩) (k + 1) c ∧ iv = .int .i64 (k : Int) ∧ Hid (Below w.heap.size w wr) ∧ Hid (wr.ownsRow w.heap.size 91 3 (.slice (some ⟨g, 0, none⟩) (k + 1) c) (k + 1) ((phQ h k).flatMap cChange))) (fun _ iv _ => n - (intOf iv).toNat)
  case atStart => 
    refine ⟨0, w.heap.size, 1, by omega, rfl, rfl, (by repeat (first | exact Below.refl _ _ | refine Below.alloc ?_ (by simp; try omega) _ | refine Below.setCell ?_ (by simp; try omega) _)), ?_⟩
    exact ⟨rfl, .inr ⟨w.heap.size, 1, #[.int .i64 0, .int .i64 0, .int .i64 0], rfl, Nat.le_refl _, heap_alloc_new w _, Nat.le_refl _, by unfold maxLen; omega, rfl, rfl⟩⟩
  case round =>
    obtain ⟨k, g, c, hk, rfl, rfl, HBEL, HOWN⟩ := hrel
    have hwr := HBEL.out.size
    have hgl : g < wr.heap.size := (HOWN.out.lt g rfl).2
    have hge : w.heap.size ≤ g := (HOWN.out.lt g rfl).1
    have HLEN : Hid ((phQ h k).length = k + 1) := phQ_len (by rw [hn.out]; exact hk)
    have HCELL : Hid (∀ (W : World) (c' : Nat), W.ownsRow w.heap.size 91 3 (.slice (some ⟨g, 0, none⟩) (k + 1) c') (k + 1) ((phQ h k).flatMap cChange) → (∃ v, W.cell? ⟨g, k * 3 + 1, none⟩ = some v) ∧ W.frozen? ⟨g, k * 3 + 1, none⟩ = false) := fun W c' ho => by
      refine ⟨⟨.int .i64 0, ?_⟩, ownsRow_frozen ho _⟩
      refine ownsRow_cell ho (k * 3 + 1) _ ?_
      have hl : k < (phQ h k).length := by rw [HLEN.out]; omega
      rw [rflat_get cChange_len (phQ h k) k hl 1 (by omega)]
      have := phQ_last (h := h) (k := k) (by rw [hn.out]; exact hk)
      rw [List.getElem?_eq_getElem hl] at this
      injection this with this
      rw [this]
      rfl
    by_cases hlt : k < n
    · have hka : k < h.length := by rw [hn.out]; exact hlt
      obtain ⟨bb, ob, rfl, hbl, hx⟩ := (HR.out _ HBEL.out).at_ k hka
      have x0 := hx 0 _ rfl
      have x1 := hx 1 _ rfl
      have x2 := hx 2 _ rfl
      simp only [Nat.add_zero] at x0
      have HNEXT := Lib.hid (phQ_next hka)
      have HSET : Hid (∀ (W : World) (c' : Nat), W.ownsRow w.heap.size 91 3 (.slice (some ⟨g, 0, none⟩) (k + 1) c') (k + 1) ((phQ h k).flatMap cChange) → (W.setCell ⟨g, k * 3 + 1, none⟩ (.int .i64 (h[k]).1)).ownsRow w.heap.size 91 3 (.slice (some ⟨g, 0, none⟩) (k + 1) c') (k + 1) (((phQ h k).set k ((stP 0 0 h k).1, (h[k]).1, (stP 0 0 h k).2)).flatMap cChange)) := fun W c' ho => by
        have hl : k < (phQ h k).length := by rw [HLEN.out]; omega
        have hq := phQ_last (h := h) (k := k) (by rw [hn.out]; exact hk)
        rw [List.getElem?_eq_getElem hl] at hq
        injection hq with hq
        rw [← rflat_set cChange_len (phQ h k) k hl 1 (by omega) (.int .i64 (h[k]).1) _ (by rw [hq]; rfl)]
        exact ownsRow_set ho _ _
      generalize h[k] = u at x0 x1 x2 HNEXT HSET
      obtain ⟨u1, u2, u3⟩ := u
      dsimp only at x0 x1 x2 HNEXT HSET
      have hk0 : (0 : Int) ≤ (k : Int) := by omega
      have hk1 : (k : Int) < (n : Int) := by omega
      have hk2 : (k : Int) < (k : Int) + 1 := by omega
      have HA1 : Hid (∀ o, Below wr.heap.size wr (wr.alloc o)) := fun o => (Below.refl _ _).alloc (Nat.le_refl _) _
      have HOA : Hid (∀ o, (wr.alloc o).ownsRow w.heap.size 91 3 (.slice (some ⟨g, 0, none⟩) (k + 1) c) (k + 1) ((phQ h k).flatMap cChange)) := fun o => HOWN.out.alloc o
      obtain ⟨⟨v1, f1⟩, f2⟩ := HCELL.out _ c HOWN.out
      have HO2 := Lib.hid (HSET.out _ c HOWN.out)
      have HGE : Hid (∀ q, (Value.slice (some (⟨g, 0, none⟩ : Addr)) (k + 1) c).ownBlock = some q → w.heap.size ≤ q) := fun q hq => (HOWN.out.lt q hq).1
      clear hx HSET HCELL HOA HOWN
      go_wp2_with (at_builtin; refine wpList_append_lies _ rfl _ _ 83 rfl w.heap.size 91 HI.out.choose (.agg #[.int .i64 0, .int .i64 0, .int .i64 0]) 3 24 Try.underlying83 HI.out.choose_spec.1 HI.out.choose_spec.2.1 HI.out.choose_spec.2.2.1 HI.out.choose_spec.2.2.2 rfl (by decide) (.slice (some ⟨g, 0, none⟩) (k + 1) c) (k + 1) (((phQ h k).set k ((stP 0 0 h k).1, u1, (stP 0 0 h k).2)).flatMap cChange) rfl ((HO2.out.alloc _).alloc _) ⟨wr.heap.size + 1, 0, none⟩ 1 1 [.int .i64 u1, .int .i64 0, .int .i64 u3] rfl rfl ?_ (by intro u hu; simp at hu; rcases hu with rfl | rfl | rfl <;> rfl) (by omega) (by unfold maxLen; omega) (by omega) (by simp; omega) (wr.heap.size + 1 + 1) (by simp) ?_)
      · intro j u hj
        match j, hj with
        | 0, hj => (simp at hj; subst hj; simp [Addr.add, go_sem])
        | 1, hj => (simp at hj; subst hj; simp [Addr.add, go_sem])
        | 2, hj => (simp at hj; subst hj; simp [Addr.add, go_sem])
      intro g2 c2 w3 hown1 hgrow hat hlt2
      have B5 : Hid (Below w.heap.size w w3) := Below.grown (by repeat (first | exact HBEL.out | refine Below.alloc ?_ (by first | omega | (simp; done) | (simp; omega)) _ | refine Below.setCell ?_ (by first | omega | (simp; done) | (simp; omega)) _)) hgrow (by simp; omega) HGE.out
      have O1 : Hid (w3.ownsRow w.heap.size 91 3 (.slice (some ⟨g2, 0, none⟩) (k + 1 + 1) c2) (k + 1 + 1) ((phQ h (k + 1)).flatMap cChange)) := by
        unfold Hid
        rw [← HNEXT.out, List.flatMap_append]
        exact hown1
      clear hown1 hgrow hat hlt2
      go_wp2
      go_roundw
      case rel => exact ⟨k + 1, g2, c2, by omega, by go_num, by go_num, B5, O1⟩
      case measure => simp [intOf]; omega
    · have hkn : k = n := by omega
      subst hkn
      obtain ⟨⟨v1, f1⟩, f2⟩ := HCELL.out _ c HOWN.out
      have HO2 : Hid ((wr.setCell ⟨g, k * 3 + 1, none⟩ (.int .i64 9223372036854775807)).ownsRow w.heap.size 91 3 (.slice (some ⟨g, 0, none⟩) (k + 1) c) (k + 1) ((phs 0 0 h).flatMap cChange)) := by
        have hl : k < (phQ h k).length := by rw [HLEN.out]; omega
        have hq := phQ_last (h := h) (k := k) (by rw [hn.out]; exact hk)
        rw [List.getElem?_eq_getElem hl] at hq
        injection hq with hq
        have he := phQ_end h
        rw [hn.out] at he
        unfold Hid
        rw [← he, ← rflat_set cChange_len (phQ h k) k hl 1 (by omega) (.int .i64 9223372036854775807) _ (by rw [hq]; rfl)]
        exact ownsRow_set HOWN.out _ _
      have HRR := Lib.hid (own_RR cChange_len (show Hid ((phs 0 0 h).length = k + 1) from (phs_len h 0 0).trans (by rw [hn.out])) HO2.out)
      have hk2 : (k : Int) < (k : Int) + 1 := by omega
      clear HOWN HO2 HCELL
      go_wp2
      go_ret
      exact ⟨⟨g, c, rfl, HRR.out⟩, HBEL.out.setCell (by simp; omega) _⟩
end Go.Proofs.Ytfejgckimlgopaa
