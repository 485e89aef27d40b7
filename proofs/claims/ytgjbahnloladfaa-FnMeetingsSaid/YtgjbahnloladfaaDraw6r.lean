/-
  The draw of runs; what A2Times and A2Runs hand back.
-/
import Derived.Test.YtgjbahnloladfaaDraw6
namespace Go.Proofs.Ytgjbahnloladfaa
open Go.RowKit

/-- A run as it is drawn for so many tubes. -/
def drawnRun (tubes : Nat) (t : TRun) : Prop := 1 ≤ t.1.length ∧ t.1.length ≤ 4 ∧ (∀ x ∈ t.1, 0 ≤ x ∧ x < (tubes : Int)) ∧ 0 ≤ t.2 ∧ t.2 < 50
/-- What a draw of runs leaves. -/
def DrawnR (B g K tubes : Nat) (w : World) (e : Ending) (w' : World) : Prop :=
  ∃ (ts : List TRun) (a n c : Nat), e = .returned (.slice (some ⟨a, 0, none⟩) n c) ∧ Hid (ts.length = n) ∧ n ≤ 4 ∧ Hid (∀ t ∈ ts, drawnRun tubes t) ∧ Src B g K w' ∧ w.grownBy w' (some g) ∧ OwN w.heap.size w'.heap.size 34 2 2 cRun (.slice (some ⟨a, 0, none⟩) n c) ts w'
theorem gb_turned {a b : World} {g : Nat} (h : a.grownBy b (some g)) : Turned g (g + 1) a b := Turned.grown h (fun k hk => by injection hk with hk; omega)

set_option maxRecDepth 100000 in
set_option maxHeartbeats 8000000 in
theorem drawRuns_any (B g K tubes : Nat) (ht : 1 ≤ tubes) (ht2 : tubes ≤ 1000) (w : World) (hK : K < 1000000) (h : Src B g K w) :
    Calls Try.prog 45 #[.pointer (some ⟨g, 0, none⟩), .int .i64 (tubes : Int)] w (DrawnR B g (K + 200) tubes w) := by
  have HI : Hid (∃ i0 : TypeInfo, Try.prog.info? 34 = some i0 ∧ i0.zero = some (.agg #[.slice none 0 0, .int .i64 0]) ∧ i0.size = 2 ∧ i0.bytes = 32) := info_parts info34
  have hgl := h.lt
  go_enter Try.func45, Try.ntmps45
  go_wp2_with fail
  refine (pick_any B g K 5 (by omega) _ (by omega) (h.below (by repeat (first | exact Below.refl _ _ | refine Below.alloc ?_ (by simp; try omega) _ | refine Below.setCell ?_ (by simp; try omega) _)))).mono ?_
  rintro e w1 ⟨x1, rfl, ⟨hx0, hx1, hx2⟩, hs1, hg1⟩
  have hxN : x1 ≤ 4 := by omega
  obtain ⟨N, rfl⟩ : ∃ N : Nat, x1 = N := ⟨x1.toNat, by omega⟩
  have hN : N ≤ 4 := by omega
  have G1 := Lib.hid (gb_trans (gb_alloc (grown_refl w (some g)) (.cells #[] 34)) hg1)
  have O1 : Hid (OwN w.heap.size w1.heap.size 34 2 2 cRun (.slice (some ⟨w.heap.size, 0, none⟩) 0 0) ([] : List TRun) w1) := ((OwN.made w #[] rfl).turned (gb_turned hg1) (.inr (by omega))).widen (Nat.le_refl _) hg1.size
  have S1 := Lib.hid hs1
  clear hs1 hg1 hx0 hx1 hx2 h hxN
  go_wp2
  go_loopw [5, 6] (fun q kv wr => ∃ (k m b c : Nat) (ts : List TRun), k + m = N ∧ kv = .int .i64 (k : Int) ∧ q = .slice (some ⟨b, 0, none⟩) m c ∧ Hid (ts.length = m) ∧ Hid (∀ t ∈ ts, drawnRun tubes t) ∧ Hid (Src B g (K + 2 + 40 * m) wr) ∧ Hid (w.grownBy wr (some g)) ∧ Hid (OwN w.heap.size wr.heap.size 34 2 2 cRun (.slice (some ⟨b, 0, none⟩) m c) ts wr)) (fun _ kv _ => (intOf kv).toNat)
  case atStart => exact ⟨N, 0, _, _, [], by omega, rfl, rfl, rfl, fun x hx => by simp at hx, S1.out, G1.out, O1.out⟩
  case round =>
    obtain ⟨k, m, b, c, ts, hkm, rfl, rfl, HN, HZ, HS6, HG6, HO6⟩ := hrel
    have hbw := HO6.out.bounds b rfl
    have hz0 := HG6.out.size
    by_cases hk : 0 < k
    · have hk0 : (0 : Int) < (k : Int) := by omega
      go_wp2_with fail
      refine (drawWay_any B g (K + 2 + 40 * m) tubes ht ht2 _ (by omega) HS6.out).mono ?_
      rintro e w5 ⟨l, a5, n5, c5, rfl, hn5, ⟨hl1, hl2, hl3⟩, hs5, hg5, ho5⟩
      have hz5 := hg5.size
      have S5 := Lib.hid hs5
      have G5 := Lib.hid (gb_trans HG6.out hg5)
      have O5 := Lib.hid (HO6.out.turned (gb_turned hg5) (.inr (by omega)))
      have U5 := Lib.hid ho5
      have hn4 : n5 ≤ 4 := by rw [← hn5.out]; exact hl2
      have HL3 := Lib.hid hl3
      have hl1' : 1 ≤ l.length := hl1
      clear hs5 hg5 ho5 HS6 HG6 HO6 hl3
      go_wp2_with fail
      refine (pick_any B g _ 50 (by omega) _ (by omega) (S5.out.below (by repeat (first | exact Below.refl _ _ | refine Below.alloc ?_ (by simp; try omega) _ | refine Below.setCell ?_ (by simp; try omega) _)))).mono ?_
      rintro e w6 ⟨x, rfl, ⟨hy0, hy1, hy2⟩, hs6, hg6⟩
      have hx0 : 0 ≤ x := hy0
      have hx1 : x < 50 := by omega
      have hz6 := hg6.size
      simp at hz6
      have HH : Hid (w6.heap[w5.heap.size]? = some (.cells #[.slice (some ⟨a5, 0, none⟩) n5 c5, .int .i64 0] 34 (0, 0))) := (hg6.block w5.heap.size (by simp) (by simp; omega)).trans (heap_alloc_new w5 _)
      have y0 := (cell_of_row w6 w5.heap.size 0 _ _ (0, 0) HH.out).trans (by rfl : _ = some (Value.slice (some ⟨a5, 0, none⟩) n5 c5))
      have y1 := (cell_of_row w6 w5.heap.size 1 _ _ (0, 0) HH.out).trans (by rfl : _ = some (Value.int .i64 0))
      have z1 := frozen_of_row w6 w5.heap.size 1 _ _ HH.out
      have S6 := Lib.hid hs6
      have G6 := Lib.hid (gb_trans (gb_alloc G5.out _) hg6)
      have O6 := Lib.hid (((O5.out.below ((Below.refl _ _).alloc (Nat.le_refl _) _)).turned (gb_turned hg6) (.inr (by omega))))
      have U6 : Hid (w6.ownsRow wr.heap.size 2 1 (.slice (some ⟨a5, 0, none⟩) n5 c5) n5 (l.map (Value.int .i64))) := (U5.out.alloc _).kept hg6 (.inr (by have := (U5.out.lt a5 rfl).1; simp [Value.ownBlock]; omega))
      have ha5 := U5.out.lt a5 rfl
      have HAPP : Hid (∃ xs, ((w6.setCell ⟨w5.heap.size, 1, none⟩ (.int .i64 x)).alloc (.cells #[.slice (some ⟨a5, 0, none⟩) n5 c5, .int .i64 x] 34)).ownsRow w.heap.size 34 2 (.slice (some ⟨b, 0, none⟩) m c) m xs ∧
          ∀ (g2 cap : Nat) (w8 : World), w8.ownsRow w.heap.size 34 2 (.slice (some ⟨g2, 0, none⟩) (m + 1) cap) (m + 1) (xs ++ [.slice (some ⟨a5, 0, none⟩) n5 c5, .int .i64 x]) → ((w6.setCell ⟨w5.heap.size, 1, none⟩ (.int .i64 x)).alloc (.cells #[.slice (some ⟨a5, 0, none⟩) n5 c5, .int .i64 x] 34)).grownBy w8 (Value.slice (some ⟨b, 0, none⟩) m c).ownBlock →
            ((Value.slice (some ⟨b, 0, none⟩) m c).ownBlock = some g2 ∨ g2 = ((w6.setCell ⟨w5.heap.size, 1, none⟩ (.int .i64 x)).alloc (.cells #[.slice (some ⟨a5, 0, none⟩) n5 c5, .int .i64 x] 34)).heap.size) → g2 < w8.heap.size →
            OwN w.heap.size w8.heap.size 34 2 2 cRun (.slice (some ⟨g2, 0, none⟩) (m + 1) cap) (ts ++ [(l, x)]) w8) := by
        have h1 := (O6.out.turned (Turned.setCell (a := w5.heap.size) (c := w5.heap.size + 1) (Turned.refl _ _ w6) (g := w5.heap.size) (o := 1) (by omega) (.int .i64 x)) (.inl hz5)).below ((Below.refl _ _).alloc (Nat.le_refl _) (.cells #[.slice (some ⟨a5, 0, none⟩) n5 c5, .int .i64 x] 34))
        obtain ⟨xs, hx, hnext⟩ := h1.grow hz0
        rw [HN.out] at hx hnext
        refine ⟨xs, hx, fun g2 cap w8 ho hg hat hlt => hnext (.slice (some ⟨a5, 0, none⟩) n5 c5) (l, x) w8 g2 cap ?_ ho hg hat hlt (by simp [World.setCell]; omega)⟩
        rw [hn5.out]
        exact (ownsRow_setCell_other U6.out (by simp [Value.ownBlock]; omega) _).alloc _
      obtain ⟨xs, hox, hnext⟩ := HAPP.out
      have HOX := Lib.hid hox
      have HNX := Lib.hid hnext
      have HGE : Hid (∀ q, (Value.slice (some ⟨b, 0, none⟩) m c).ownBlock = some q → w.heap.size ≤ q) := fun q hq => by simp [Value.ownBlock] at hq; omega
      have GS : w6.grownBy (w6.setCell ⟨w5.heap.size, 1, none⟩ (.int .i64 x)) (some w5.heap.size) := grown_setCell (grown_refl _ _) _
      have HR5 : ∀ q, (some w5.heap.size) = some q → w.heap.size ≤ q := fun q hq => by injection hq with hq; omega
      have G7 := Lib.hid (gb_own G6.out GS HR5)
      have S7 : Hid (Src B g (K + 2 + 40 * (m + 1)) (w6.setCell ⟨w5.heap.size, 1, none⟩ (.int .i64 x))) := (Src.own S6.out GS HR5 hgl).more (by omega)
      clear GS HR5
      clear hox hnext HAPP hs6 hg6 hy0 hy1 hy2
      go_wp2_with (first | (at_builtin; refine wpList_append_lies _ rfl _ _ 26 rfl w.heap.size 34 HI.out.choose (.agg #[.slice none 0 0, .int .i64 0]) 2 32 Try.underlying26 HI.out.choose_spec.1 HI.out.choose_spec.2.1 HI.out.choose_spec.2.2.1 HI.out.choose_spec.2.2.2 rfl (by decide) (.slice (some ⟨b, 0, none⟩) m c) m xs rfl HOX.out ⟨w6.heap.size, 0, none⟩ 1 1 [.slice (some ⟨a5, 0, none⟩) n5 c5, .int .i64 x] rfl rfl (World.news_of_block (heap_alloc_at _ _ _ (by simp [World.setCell]))) (by intro u hu; simp at hu; rcases hu with rfl | rfl <;> rfl) (by omega) (by unfold maxLen; omega) (by omega) (by simp [World.setCell]; omega) _ rfl ?_))
      intro g8 cap8 w8 hown8 hgrow8 hat8 hlt8
      have X8 := Lib.hid (HNX.out g8 cap8 w8 hown8 hgrow8 (by simpa [World.setCell] using hat8) hlt8)
      have G8 : Hid (w.grownBy w8 (some g)) := gb_own (gb_alloc G7.out _) hgrow8 HGE.out
      have S8 : Hid (Src B g (K + 2 + 40 * (m + 1)) w8) := (S7.out.below ((Below.refl _ _).alloc (Nat.le_refl _) _)).own hgrow8 HGE.out hgl
      have N8 : Hid ((ts ++ [(l, x)]).length = m + 1) := by unfold Hid; rw [List.length_append, HN.out]; rfl
      have Z8 : Hid (∀ t ∈ ts ++ [(l, x)], drawnRun tubes t) := fun z hz => by
        rcases List.mem_append.1 hz with hz | hz
        · exact HZ.out z hz
        · simp at hz; subst hz; exact ⟨hl1', hl2, HL3.out, hx0, hx1⟩
      clear hown8 hgrow8 hat8 hlt8 y0 y1 z1
      go_wp2
      go_roundw
      case rel => exact ⟨k - 1, m + 1, g8, cap8, ts ++ [(l, x)], by omega, by congr 1; omega, rfl, N8.out, Z8.out, S8.out, G8.out, X8.out⟩
      case measure => simp [intOf]; omega
    · have hk' : k = 0 := by omega
      subst hk'
      have HR : Hid (DrawnR B g (K + 200) tubes w (.returned (.slice (some ⟨b, 0, none⟩) m c)) wr) := ⟨ts, b, m, c, rfl, HN, by omega, HZ, HS6.out.more (by omega), HG6.out, HO6.out⟩
      go_wp2
      go_ret
      exact HR.out

/-- Times as they are drawn. -/
def GivesTimes (w : World) (e : Ending) (w' : World) : Prop :=
  ∃ (l : List Int) (a n c : Nat), e = .returned (.slice (some ⟨a, 0, none⟩) n c) ∧ Hid (l.length = n) ∧ Hid (∀ x ∈ l, 1 ≤ x ∧ x ≤ 12) ∧ 1 ≤ n ∧ n ≤ 6 ∧ Below w.heap.size w w' ∧ w'.ownsRow w.heap.size 2 1 (.slice (some ⟨a, 0, none⟩) n c) n (l.map (Value.int .i64))
/-- Runs as they are drawn. -/
def GivesDrawn (tubes : Nat) (w : World) (e : Ending) (w' : World) : Prop :=
  ∃ (ts : List TRun) (a n c : Nat), e = .returned (.slice (some ⟨a, 0, none⟩) n c) ∧ Hid (ts.length = n) ∧ n ≤ 4 ∧ Hid (∀ t ∈ ts, drawnRun tubes t) ∧ Below w.heap.size w w' ∧ OwN w.heap.size w'.heap.size 34 2 2 cRun (.slice (some ⟨a, 0, none⟩) n c) ts w'
set_option maxHeartbeats 2000000 in
theorem a2Times_any (a : Option Addr) (n c : Nat) (w : World) (hc : CodeIn w.heap.size a n w) (h1 : n ≤ 4096) : Calls Try.prog 12 #[.slice a n c] w (GivesTimes w) := by
  have FR := from_any a n c w hc h1
  clear hc
  go_enter Try.func12, Try.ntmps12
  go_wp2_with fail
  refine FR.mono ?_
  rintro e w1 ⟨g, rfl, hs1, hb1⟩
  have hgw : w.heap.size ≤ g := hs1.1
  go_wp2_with fail
  refine (drawTimes_any w.heap.size g 0 _ (by omega) hs1).mono ?_
  rintro e w2 ⟨l, b, m, cb, rfl, hm, ⟨hl1, hl2, hl3⟩, hs2, hg2, ho2⟩
  have HR : Hid (GivesTimes w (.returned (.slice (some ⟨b, 0, none⟩) m cb)) w2) := ⟨l, b, m, cb, rfl, hm, hl3, by rw [← hm.out]; exact hl1, by rw [← hm.out]; exact hl2, hb1.grown hg2 hb1.size (fun k hk => by injection hk with hk; omega), own_lo ho2 hb1.size⟩
  clear hm hl1 hl2 hl3 hs1 hs2 hg2 ho2 hb1 FR
  go_wp2
  go_ret
  exact HR.out
set_option maxHeartbeats 2000000 in
theorem a2Runs_any (a b : Option Addr) (n c tubes cb : Nat) (w : World) (hc : CodeIn w.heap.size a n w) (h1 : n ≤ 4096) (ht : 1 ≤ tubes) (ht2 : tubes ≤ 1000) : Calls Try.prog 13 #[.slice a n c, .slice b tubes cb] w (GivesDrawn tubes w) := by
  have FR := from_any a n c w hc h1
  clear hc
  go_enter Try.func13, Try.ntmps13
  go_wp2_with fail
  refine FR.mono ?_
  rintro e w1 ⟨g, rfl, hs1, hb1⟩
  have hgw : w.heap.size ≤ g := hs1.1
  go_wp2_with fail
  refine (drawRuns_any w.heap.size g 0 tubes ht ht2 _ (by omega) hs1).mono ?_
  rintro e w2 ⟨ts, b2, m, cb2, rfl, hm, hm4, hz, hs2, hg2, ho2⟩
  have HR : Hid (GivesDrawn tubes w (.returned (.slice (some ⟨b2, 0, none⟩) m cb2)) w2) := ⟨ts, b2, m, cb2, rfl, hm, hm4, hz, hb1.grown hg2 hb1.size (fun k hk => by injection hk with hk; omega), ho2.widen hb1.size (Nat.le_refl _)⟩
  clear hm hz hs1 hs2 hg2 ho2 hb1 FR
  go_wp2
  go_ret
  exact HR.out
theorem a2Long_yes (a b : Option Addr) (n m ca cb : Nat) (w : World) (_hn : n ≤ 9223372036854775807) (_hm : m ≤ 9223372036854775807) (h : 3000 < n ∨ 3000 < m) : Calls Try.prog 11 #[.slice a n ca, .slice b m cb] w fun e w' => e = .returned (.bool true) ∧ w = w' := by
  by_cases h1 : 3000 < n
  · clear h
    go_enter Try.func11, Try.ntmps11
    go_wp2
    go_ret
    exact ⟨rfl, rfl⟩
  · have h2 : 3000 < m := by omega
    clear h
    go_enter Try.func11, Try.ntmps11
    go_wp2
    go_ret
    exact ⟨ret_bool (by simp; omega), rfl⟩
theorem a2Long_no (a b : Option Addr) (n m ca cb : Nat) (w : World) (h1 : ¬ 3000 < n) (h2 : ¬ 3000 < m) : Calls Try.prog 11 #[.slice a n ca, .slice b m cb] w fun e w' => e = .returned (.bool false) ∧ w = w' := by
  go_enter Try.func11, Try.ntmps11
  go_wp2
  go_ret
  exact ⟨ret_bool (by simp; omega), rfl⟩
/-- Drawn times and runs are valid. -/
theorem drawn_ok {l : List Int} {ts : List TRun} (h1 : 1 ≤ l.length) (h2 : l.length ≤ 6) (hl : ∀ x ∈ l, 1 ≤ x ∧ x ≤ 12) (hn : ts.length ≤ 4) (hz : ∀ t ∈ ts, drawnRun l.length t) : rsB l ts = true := by
  unfold rsB tmB
  rw [Bool.and_eq_true, Bool.and_eq_true, Bool.and_eq_true, List.all_eq_true, List.all_eq_true]
  refine ⟨⟨by unfold inB; simp; omega, fun x hx => by have := hl x hx; unfold inB; simp; omega⟩, by simp; omega, fun t ht => ?_⟩
  obtain ⟨a1, a2, a3, a4, a5⟩ := hz t ht
  unfold rnB wyB
  rw [Bool.and_eq_true, Bool.and_eq_true, List.all_eq_true]
  exact ⟨by unfold inB; simp; omega, by unfold inB; simp; omega, fun x hx => by have := a3 x hx; unfold inB; simp; omega⟩
theorem drawn_one {l : List Int} {ts : List TRun} (h : rsB l ts = true) (i : Nat) (hi : i < ts.length) : rsB l [ts[i]] = true := by
  unfold rsB at h ⊢
  simp only [Bool.and_eq_true, decide_eq_true_eq, List.all_eq_true] at h ⊢
  exact ⟨h.1, by simp, fun t ht => by simp at ht; subst ht; exact h.2.2 _ (List.getElem_mem hi)⟩
end Go.Proofs.Ytgjbahnloladfaa
