/-
  The way that the laws on ways draw.
-/
import Derived.Test.YtenjigifjkfiaaaA2Set
import Derived.Test.YtenjigifjkfiaaaSimple
namespace Go.Proofs.Ytenjigifjkfiaaa
open Go.RowKit

/-- A way that passes no station twice, its end, and the stations that it has passed. -/
def Trail (ts : List T3) (l : List Int) (y : Int) (seen : List Int) : Prop :=
  (∀ x ∈ l, stB ts.length x = true) ∧ seen = l.map (frAt ts) ++ [y] ∧ seen.Nodup ∧ (∀ k (h : k + 1 < l.length), toAt ts (l[k]'(by omega)) = frAt ts l[k + 1]) ∧ ∀ h : 0 < l.length, toAt ts (l[l.length - 1]'(by omega)) = y
theorem trail_nil (ts : List T3) (y : Int) : Trail ts [] y [y] :=
  ⟨fun x hx => by simp at hx, rfl, by simp, fun k h => by simp at h, fun h => by simp at h⟩
theorem trail_more {ts : List T3} {l seen : List Int} {y : Int} {j : Nat} {t : T3} (h : Trail ts l y seen) (ht : ts[j]? = some t) (h1 : t.1 = y) (h2 : hasB seen t.2.1 = false) : Trail ts (l ++ [(j : Int)]) t.2.1 (seen ++ [t.2.1]) := by
  obtain ⟨a1, a2, a3, a4, a5⟩ := h
  have hj : j < ts.length := (List.getElem?_eq_some_iff.1 ht).1
  have hf : frAt ts (j : Int) = y := (frAt_of ht).trans h1
  refine ⟨fun x hx => ?_, ?_, ?_, fun k hk => ?_, fun h => ?_⟩
  · rcases List.mem_append.1 hx with hx | hx
    · exact a1 x hx
    · rw [List.mem_singleton] at hx
      subst hx
      unfold stB
      exact decide_eq_true (by omega)
  · rw [List.map_append, List.map_singleton, hf, ← a2]
  · rw [List.nodup_append]
    refine ⟨a3, by simp, fun x hx z hz => ?_⟩
    rw [List.mem_singleton] at hz
    subst hz
    intro e
    subst e
    unfold hasB at h2
    rw [← Bool.not_eq_true, List.contains_iff_mem] at h2
    exact h2 hx
  · by_cases h9 : k + 1 < l.length
    · rw [List.getElem_append_left h9, List.getElem_append_left (by omega)]
      exact a4 k h9
    · have hk1 : k + 1 = l.length := by simp at hk; omega
      have e1 : (l ++ [(j : Int)])[k + 1]'hk = (j : Int) := by
        rw [List.getElem_append_right (by omega)]; simp
      have e2 : (l ++ [(j : Int)])[k]'(by omega) = l[l.length - 1]'(by omega) := by
        rw [List.getElem_append_left (by omega)]
        congr 1; omega
      rw [e1, e2, hf]
      exact a5 (by omega)
  · have e1 : (l ++ [(j : Int)])[(l ++ [(j : Int)]).length - 1]'(by simp) = (j : Int) := by
      rw [List.getElem_append_right (by simp)]; simp
    rw [e1]
    exact toAt_of ht
theorem trail_simple {ts : List T3} {l seen : List Int} {y : Int} (h : Trail ts l y seen) : simpleB ts l = true := by
  obtain ⟨a1, a2, a3, a4, a5⟩ := h
  rw [a2, List.nodup_append] at a3
  obtain ⟨n1, _, n2⟩ := a3
  have hst : ∀ k, k < l.length → stepB ts l k = true := fun k hk => by
    unfold stepB
    have e : l.getD k 0 = l[k] := by simp [hk]
    have hno : hasB (frs ts l k) (frAt ts l[k]) = false := contains_none fun q hq => by
      have hq0 : q < k := by rw [frs_len (by omega)] at hq; exact hq
      have e1 : (frs ts l k)[q] = frAt ts l[q] := by unfold frs; simp
      rw [e1]
      intro e2
      have := List.pairwise_iff_getElem.1 n1 q k (by simp; omega) (by simpa using hk) hq0
      rw [List.getElem_map, List.getElem_map] at this
      exact this e2
    rw [e]
    by_cases hk0 : k = 0
    · exact stepV_first (a1 _ (List.getElem_mem hk)) hno hk0
    · rw [stepV_next (a1 _ (List.getElem_mem hk)) hno hk0]
      have e3 : l.getD (k - 1) 0 = l[k - 1]'(by omega) := by simp [show k - 1 < l.length by omega]
      have h9 := a4 (k - 1) (by omega)
      have e4 : l[k - 1 + 1]'(by omega) = l[k] := by congr 1; omega
      rw [e3, h9, e4]
      simp
  rw [simpleB_end hst]
  by_cases h0 : l.length = 0
  · exact endB_nil h0
  · obtain ⟨q, hq⟩ : ∃ q, l.length = q + 1 := ⟨l.length - 1, by omega⟩
    rw [endB_last hq (by omega)]
    have e1 : l[q]'(by omega) = l[l.length - 1]'(by omega) := by congr 1; omega
    rw [e1, a5 (by omega)]
    have : hasB (frs ts l l.length) y = false := contains_none fun r hr => by
      intro e2
      have hm : y ∈ l.map (frAt ts) := by
        have := List.getElem_mem hr
        rw [e2] at this
        unfold frs at this
        simpa using this
      exact n2 y hm y (by simp) rfl
    rw [this]
    rfl
/-- A tube by which a way goes on. -/
def Next (ts : List T3) (y : Int) (seen : List Int) (x : Int) : Prop := ∃ (j : Nat) (t : T3), x = (j : Int) ∧ ts[j]? = some t ∧ t.1 = y ∧ hasB seen t.2.1 = false
theorem next_more {ts : List T3} {y : Int} {seen l2 : List Int} {j : Nat} {t : T3} (h : ∀ x ∈ l2, Next ts y seen x) (ht : ts[j]? = some t) (h1 : t.1 = y) (h2 : hasB seen t.2.1 = false) : ∀ x ∈ l2 ++ [(j : Int)], Next ts y seen x := by
  intro x hx
  rcases List.mem_append.1 hx with hx | hx
  · exact h x hx
  · rw [List.mem_singleton] at hx
    exact ⟨j, t, hx, ht, h1, h2⟩
set_option maxRecDepth 100000 in
set_option maxHeartbeats 16000000 in
theorem a2Walk_any (ac : Option Addr) (nc cc : Nat) (S : Nat) (a : Option Addr) (ts : List T3) (n ca : Nat) (w : World) (hc : CodeIn w.heap.size ac nc w) (h1 : nc ≤ 4096) (hn : Hid (ts.length = n)) (ha : RT w a ts) (hnet : netB (S : Int) ts = true) :
    Calls Try.prog 11 #[.slice ac nc cc, .agg #[.int .i64 (S : Int), .slice a n ca]] w (GivesNs (fun l => simpleB ts l = true ∧ l.length ≤ 4) w) := by
  have HI : Hid (∃ i0 : TypeInfo, Try.prog.info? 2 = some i0 ∧ i0.zero = some (.int .i64 0) ∧ i0.size = 1 ∧ i0.bytes = 8) := info_parts infoI
  obtain ⟨hs2, hs10, hn24, _⟩ := netB_parts hnet
  rw [hn.out] at hn24
  have HA : Hid (∀ w', Below w.heap.size w w' → RT w' a ts) := fun w' h => ha.below h
  have hc1 : Hid (∀ o, CodeIn (w.alloc o).heap.size ac nc (w.alloc o)) := fun o => by
    rcases hc with h | ⟨b, off, ha, hb, hx⟩
    · exact .inl h
    · exact .inr ⟨b, off, ha, by simp; omega, fun i hi => by obtain ⟨x, x0, x1, x2⟩ := hx i hi; exact ⟨x, x0, x1, (((Below.refl w.heap.size w).alloc (Nat.le_refl _) o).cell (p := ⟨b, off + i, none⟩) hb).trans x2⟩⟩
  clear hc ha hnet
  go_enter Try.func11, Try.ntmps11
  go_wp2_with fail
  refine (from_any ac nc cc _ (hc1.out _) h1).mono ?_
  rintro e w1 ⟨g, rfl, hs1, hb1⟩
  have hg0 : w.heap.size + 1 ≤ g := by have := hs1.1; simpa using this
  have R1 : Hid (w1.heap[w.heap.size]? = some (.cells #[.int .i64 (S : Int), .slice a n ca] 26 (0, 0))) := (hb1.block w.heap.size (by simp)).trans (heap_alloc_new w _)
  have B1 := Lib.hid (Below.trans (show Below w.heap.size w (w.alloc (.cells #[.int .i64 (S : Int), .slice a n ca] 26 (0, 0))) from (by repeat (first | exact Below.refl _ _ | refine Below.alloc ?_ (by simp; try omega) _ | refine Below.setCell ?_ (by simp; try omega) _))) (hb1.mono (by simp)))
  have hgl := hs1.lt
  have hsz : (w.alloc (.cells #[.int .i64 (S : Int), .slice a n ca] 26 (0, 0))).heap.size = w.heap.size + 1 := by simp
  rw [hsz] at hs1
  have D1 : Hid (Drw g 0 (g + 1) w (.cells #[.int .i64 (S : Int), .slice a n ca] 26 (0, 0)) (w1.alloc (.cells #[] 2))) := Drw.far ⟨hs1, R1.out, B1.out, by omega, by omega⟩ ((show Below (g + 1) w1 w1 from ⟨rfl, rfl, rfl, Nat.le_refl _, fun _ _ => rfl⟩).alloc (by omega) _)
  have O1 : Hid ((w1.alloc (.cells #[] 2)).ownsRow (g + 1) 2 1 (.slice (some ⟨w1.heap.size, 0, none⟩) 0 0) 0 (([] : List Int).map (Value.int .i64))) := World.ownsRow_made w1 #[] 0 (by omega) (by unfold maxLen; omega) rfl
  have y0 : (w1.alloc (.cells #[] 2)).cell? ⟨w.heap.size, 0, none⟩ = some (.int .i64 (S : Int)) := by rw [cell_of_row _ _ 0 _ _ _ D1.out.box]; rfl
  have hz1 : w1.heap.size < (w1.alloc (.cells #[] 2)).heap.size := by simp
  clear hb1 hc1 hs1 R1 B1 hsz
  go_wp2_with fail
  refine (pick_any (w.heap.size + 1) g 0 (S : Int) (by omega) _ (by omega) D1.out.src).mono ?_
  rintro e w2 ⟨y, rfl, hy, hs2, hg2⟩
  have D2 : Hid (Drw g 2 (g + 1) w (.cells #[.int .i64 (S : Int), .slice a n ca] 26 (0, 0)) (w2.alloc (.cells #[.int .i64 y] 2))) := (D1.out.pick hs2 hg2).far ((show Below (g + 1) w2 w2 from ⟨rfl, rfl, rfl, Nat.le_refl _, fun _ _ => rfl⟩).alloc (by have := (D1.out.pick hs2 hg2).wlo; omega) _)
  have O2 : Hid ((w2.alloc (.cells #[.int .i64 y] 2)).ownsRow (g + 1) 2 1 (.slice (some ⟨w1.heap.size, 0, none⟩) 0 0) 0 (([] : List Int).map (Value.int .i64))) := (ownn_src O1.out hg2 (by omega)).alloc _
  have P2 : Hid ((w2.alloc (.cells #[.int .i64 y] 2)).ownsRow (g + 1) 2 1 (.slice (some ⟨w2.heap.size, 0, none⟩) 1 1) 1 ([y].map (Value.int .i64))) := own_lit w2 _ _ _ (by have := (D1.out.pick hs2 hg2).wlo; omega)
  have hz2 : w1.heap.size < w2.heap.size := Nat.lt_of_lt_of_le hz1 hg2.size
  clear hs2 hg2 hy D1 O1 y0 hz1
  go_wp2_with fail
  refine (pick_any (w.heap.size + 1) g 2 5 (by omega) _ (by omega) D2.out.src).mono ?_
  rintro e w3 ⟨q, rfl, ⟨hq0, _, hq1⟩, hs3, hg3⟩
  obtain ⟨k0, rfl⟩ : ∃ k0 : Nat, q = k0 := ⟨q.toNat, by omega⟩
  have hk4 : k0 ≤ 4 := by omega
  have D3 : Hid (Drw g 4 (g + 1) w (.cells #[.int .i64 (S : Int), .slice a n ca] 26 (0, 0)) w3) := D2.out.pick hs3 hg3
  have O3 : Hid (w3.ownsRow (g + 1) 2 1 (.slice (some ⟨w1.heap.size, 0, none⟩) 0 0) 0 (([] : List Int).map (Value.int .i64))) := ownn_src O2.out hg3 (by omega)
  have P3 : Hid (w3.ownsRow (g + 1) 2 1 (.slice (some ⟨w2.heap.size, 0, none⟩) 1 1) 1 ([y].map (Value.int .i64))) := ownn_src P2.out hg3 (by omega)
  have hne3 : w1.heap.size ≠ w2.heap.size := by omega
  clear hs3 hg3 D2 O2 P2 hz2 hq0 hq1
  go_wp2
  go_loopw [6, 7, 8, 9] (fun ov yv sv kv wr => ∃ (k i b c b2 c2 : Nat) (l seen : List Int) (y : Int), k ≤ 4 ∧ i + k ≤ 4 ∧ kv = .int .i64 (k : Int) ∧ ov = .slice (some ⟨b, 0, none⟩) i c ∧ sv = .slice (some ⟨b2, 0, none⟩) (i + 1) c2 ∧ yv = .int .i64 y ∧ b ≠ b2 ∧ Hid (l.length = i) ∧ Hid (seen.length = i + 1) ∧ Hid (Trail ts l y seen) ∧ Hid (Drw g (4 + 2 * (4 - k)) (g + 1) w (.cells #[.int .i64 (S : Int), .slice a n ca] 26 (0, 0)) wr) ∧ Hid (wr.ownsRow (g + 1) 2 1 (.slice (some ⟨b, 0, none⟩) i c) i (l.map (Value.int .i64))) ∧ Hid (wr.ownsRow (g + 1) 2 1 (.slice (some ⟨b2, 0, none⟩) (i + 1) c2) (i + 1) (seen.map (Value.int .i64)))) (fun _ _ _ kv _ => (intOf kv).toNat)
  case atStart => exact ⟨k0, 0, _, _, _, _, [], [y], y, hk4, by omega, rfl, rfl, rfl, rfl, hne3, rfl, rfl, trail_nil ts y, D3.out.more (by omega), O3.out, P3.out⟩
  case round =>
    obtain ⟨k, i, b, c, b2, c2, l, seen, y, hk, hik, rfl, rfl, rfl, rfl, hbb, HL, HSL, HTR, HD, HO, HP⟩ := hrel
    clear D3 O3 P3 hgl hne3 hk4
    obtain ⟨wo, hwo⟩ : ∃ wo, wo = wr := ⟨wr, rfl⟩
    subst hwo
    have hbo := own_in HO.out
    have hpo := own_in HP.out
    have hgb : g < b := (HO.out.lt b rfl).1
    have hgp : g < b2 := (HP.out.lt b2 rfl).1
    have hwlo := HD.out.wlo
    have hwb : w.heap.size < wo.heap.size := by omega
    have HR : Hid (GivesNs (fun l => simpleB ts l = true ∧ l.length ≤ 4) w (.returned (.slice (some ⟨b, 0, none⟩) i c)) wo) := ⟨l, b, i, c, rfl, ⟨trail_simple HTR.out, by rw [HL.out]; omega⟩, HL.out, HD.out.below, ownn_low HO.out (by omega)⟩
    by_cases hk0 : 0 < k
    · have hk1 : (0 : Int) < (k : Int) := by omega
      have y1 : Hid (∀ W, Below wo.heap.size wo W → W.cell? ⟨w.heap.size, 1, none⟩ = some (.slice a n ca)) := fun W hW => (hW.cell (p := ⟨w.heap.size, 1, none⟩) hwb).trans (by rw [cell_of_row wo _ 1 _ _ _ HD.out.box]; rfl)
      go_wp2
      go_loopw [10, 11] (fun q kv wr => ∃ (j m c3 g3 : Nat) (l2 : List Int), j ≤ n ∧ m ≤ j ∧ q = .slice (some ⟨g3, 0, none⟩) m c3 ∧ kv = .int .i64 (j : Int) ∧ Hid (l2.length = m) ∧ Hid (∀ x ∈ l2, Next ts y seen x) ∧ Hid (Below wo.heap.size wo wr) ∧ wo.heap.size ≤ g3 ∧ Hid (wr.ownsRow wo.heap.size 2 1 (.slice (some ⟨g3, 0, none⟩) m c3) m (l2.map (Value.int .i64)))) (fun _ kv _ => n - (intOf kv).toNat)
      case atStart => exact ⟨0, 0, 0, wo.heap.size, [], by omega, by omega, rfl, rfl, rfl, fun x hx => by simp at hx, (by repeat (first | exact Below.refl _ _ | refine Below.alloc ?_ (by simp; try omega) _ | refine Below.setCell ?_ (by simp; try omega) _)), by omega, World.ownsRow_made wo #[] 0 (Nat.le_refl _) (by unfold maxLen; omega) rfl⟩
      case round =>
        obtain ⟨j, m, c3, g3, l2, hj, hm1, rfl, rfl, HL2, HOK2, HB, hg3, HO2⟩ := hrel
        have z1 := y1.out _ HB.out
        have hj0 : (0 : Int) ≤ (j : Int) := by omega
        have HBZ := HB.out.size
        by_cases hjn : j < n
        · have hj1 : (j : Int) < (n : Int) := by omega
          have hjt : j < ts.length := by rw [hn.out]; exact hjn
          have HT : Hid (ts[j]? = some ts[j]) := List.getElem?_eq_getElem hjt
          obtain ⟨ba, oa, rfl, hba, hca⟩ := (HA.out wr (HD.out.below.trans (HB.out.mono (by omega)))).addr (by omega)
          obtain ⟨x0, x1, x2⟩ := hca j hjt
          have HMORE : Hid (ts[j].1 = y → hasB seen ts[j].2.1 = false → ∀ x ∈ l2 ++ [(j : Int)], Next ts y seen x) := fun h h' => next_more HOK2.out HT.out h h'
          have HSR : Hid (RI wr (some ⟨b2, 0, none⟩) seen) := rowI_RI HSL (own_keep HP.out hpo HB.out)
          generalize ts[j] = t at x0 x1 x2 HT HMORE
          clear x2 hca
          rcases eq_ways t.1 y with ⟨⟨e1, e2⟩, e3⟩ | ⟨⟨e1, e2⟩, e3⟩
          · have HH := l00Has_any (some ⟨b2, 0, none⟩) seen (i + 1) c2 t.2.1 wr HSL HSR.out (by omega)
            cases hb : hasB seen t.2.1 with
            | true =>
              rw [hb] at HH
              clear HMORE e3 hb
              go_wp2_with (go_at_call 43; refine HH.mono ?_; rintro e w5 ⟨rfl, rfl⟩)
              go_roundw
              case rel => exact ⟨j + 1, m, c3, g3, l2, by omega, by omega, rfl, by go_num, HL2.out, HOK2.out, HB.out, hg3, HO2.out⟩
              case measure => simp [intOf]; omega
            | false =>
              rw [hb] at HH
              have HOK4 := Lib.hid (HMORE.out e3 hb)
              clear HMORE e3 hb
              go_wp2_with (first | (go_at_call 43; refine HH.mono ?_; rintro e w5 ⟨rfl, rfl⟩) | (at_builtin; refine wpList_append_lies _ rfl _ _ 28 rfl wo.heap.size 2 HI.out.choose (.int .i64 0) 1 8 Try.underlying28 HI.out.choose_spec.1 HI.out.choose_spec.2.1 HI.out.choose_spec.2.2.1 HI.out.choose_spec.2.2.2 rfl (by decide) (.slice (some ⟨g3, 0, none⟩) m c3) m (l2.map (Value.int .i64)) rfl (HO2.out.alloc _) ⟨wr.heap.size, 0, none⟩ 1 1 [.int .i64 (j : Int)] rfl rfl (World.news_of_block (heap_alloc_new wr _)) (by intro u hu; simp at hu; subst hu; rfl) (by omega) (by unfold maxLen; omega) (by omega) (by simp; omega) _ rfl ?_))
              intro g4 c4 w4 ho4 hgr4 hat4 hlt4
              have B4 : Hid (Below wo.heap.size wo w4) := HB.out.trans ((show Below wo.heap.size wr (wr.alloc (.cells #[.int .i64 (j : Int)] 2)) from (show Below wo.heap.size wr wr from ⟨rfl, rfl, rfl, Nat.le_refl _, fun _ _ => rfl⟩).alloc HBZ _).trans (below_grown hgr4 (by simp; omega) (fun p hp => by simp [Value.ownBlock] at hp; omega)))
              have hg4 : wo.heap.size ≤ g4 := (ho4.lt g4 rfl).1
              have O4 : Hid (w4.ownsRow wo.heap.size 2 1 (.slice (some ⟨g4, 0, none⟩) (m + 1) c4) (m + 1) ((l2 ++ [(j : Int)]).map (Value.int .i64))) := by
                unfold Hid; rw [List.map_append]; exact ho4
              clear ho4 hgr4 hat4 hlt4
              go_wp2
              go_roundw
              case rel => exact ⟨j + 1, m + 1, c4, g4, l2 ++ [(j : Int)], by omega, by omega, rfl, by go_num, by unfold Hid; rw [List.length_append, HL2.out]; rfl, HOK4.out, B4.out, hg4, O4.out⟩
              case measure => simp [intOf]; omega
          · clear e3 HMORE
            go_wp2_with fail
            go_roundw
            case rel => exact ⟨j + 1, m, c3, g3, l2, by omega, by omega, rfl, by go_num, HL2.out, HOK2.out, HB.out, hg3, HO2.out⟩
            case measure => simp [intOf]; omega
        · have D5 : Hid (Drw g (4 + 2 * (4 - k)) (g + 1) w (.cells #[.int .i64 (S : Int), .slice a n ca] 26 (0, 0)) wr) := HD.out.far (HB.out.mono (by omega))
          have O5 : Hid (wr.ownsRow (g + 1) 2 1 (.slice (some ⟨b, 0, none⟩) i c) i (l.map (Value.int .i64))) := own_keep HO.out hbo HB.out
          have P5 : Hid (wr.ownsRow (g + 1) 2 1 (.slice (some ⟨b2, 0, none⟩) (i + 1) c2) (i + 1) (seen.map (Value.int .i64))) := own_keep HP.out hpo HB.out
          by_cases hm0 : m = 0
          · have HR5 : Hid (GivesNs (fun l => simpleB ts l = true ∧ l.length ≤ 4) w (.returned (.slice (some ⟨b, 0, none⟩) i c)) wr) := ⟨l, b, i, c, rfl, ⟨trail_simple HTR.out, by rw [HL.out]; omega⟩, HL.out, D5.out.below, ownn_low O5.out (by omega)⟩
            subst hm0
            go_wp2
            go_ret
            exact HR5.out
          · have hm2 : 0 < m := by omega
            have AM := among_any (w.heap.size + 1) g (4 + 2 * (4 - k)) g3 0 l2 m c3 wr (by omega) D5.out.src HL2.out hm2 (by omega) (by omega) (rowI_at HO2.out)
            have hwz : wo.heap.size ≤ wr.heap.size := HBZ
            go_wp2_with fail
            refine AM.mono ?_
            rintro e w5 ⟨x, rfl, hx, hs5, hg5⟩
            obtain ⟨j', t, rfl, ht, h1', h2'⟩ := HOK2.out x hx
            have HTR2 := Lib.hid (trail_more HTR.out ht h1' h2')
            have D6 : Hid (Drw g (4 + 2 * (4 - k) + 2) (g + 1) w (.cells #[.int .i64 (S : Int), .slice a n ca] 26 (0, 0)) w5) := D5.out.pick hs5 hg5
            have O6 : Hid (w5.ownsRow (g + 1) 2 1 (.slice (some ⟨b, 0, none⟩) i c) i (l.map (Value.int .i64))) := ownn_src O5.out hg5 (by omega)
            have P6 : Hid (w5.ownsRow (g + 1) 2 1 (.slice (some ⟨b2, 0, none⟩) (i + 1) c2) (i + 1) (seen.map (Value.int .i64))) := ownn_src P5.out hg5 (by omega)
            have hz5 := D6.out.wlo
            have hwz5 : wo.heap.size ≤ w5.heap.size := Nat.le_trans hwz hg5.size
            have HTJ := Lib.hid ht
            have hjt : j' < ts.length := (List.getElem?_eq_some_iff.1 ht).1
            have hjn2 : j' < n := by have := hn.out; omega
            have hj0' : (0 : Int) ≤ (j' : Int) := by omega
            have hj1' : (j' : Int) < (n : Int) := by omega
            clear AM hs5 hg5 hx z1 h1' h2' ht D5 O5 P5
            go_wp2_with (at_builtin; refine wpList_append_lies _ rfl _ _ 28 rfl (g + 1) 2 HI.out.choose (.int .i64 0) 1 8 Try.underlying28 HI.out.choose_spec.1 HI.out.choose_spec.2.1 HI.out.choose_spec.2.2.1 HI.out.choose_spec.2.2.2 rfl (by decide) (.slice (some ⟨b, 0, none⟩) i c) i (l.map (Value.int .i64)) rfl (O6.out.alloc _) ⟨w5.heap.size, 0, none⟩ 1 1 [.int .i64 (j' : Int)] rfl rfl (World.news_of_block (heap_alloc_new w5 _)) (by intro u hu; simp at hu; subst hu; rfl) (by omega) (by unfold maxLen; omega) (by omega) (by simp; omega) _ rfl ?_)
            intro g4 c4 w4 ho4 hgr4 hat4 hlt4
            have D4 : Hid (Drw g (4 + 2 * (4 - k) + 2) (g + 1) w (.cells #[.int .i64 (S : Int), .slice a n ca] 26 (0, 0)) w4) := D6.out.far ((show Below (g + 1) w5 (w5.alloc (.cells #[.int .i64 (j' : Int)] 2)) from (show Below (g + 1) w5 w5 from ⟨rfl, rfl, rfl, Nat.le_refl _, fun _ _ => rfl⟩).alloc hz5 _).trans (below_grown hgr4 (by simp; omega) (fun p hp => by simp [Value.ownBlock] at hp; omega)))
            have hg4 : g < g4 := (ho4.lt g4 rfl).1
            have hw4 : w5.heap.size + 1 ≤ w4.heap.size := by have := hgr4.size; simpa using this
            have hb24 : g4 ≠ b2 := by
              simp [Value.ownBlock] at hat4
              omega
            have O4 : Hid (w4.ownsRow (g + 1) 2 1 (.slice (some ⟨g4, 0, none⟩) (i + 1) c4) (i + 1) ((l ++ [(j' : Int)]).map (Value.int .i64))) := by
              unfold Hid; rw [List.map_append]; exact ho4
            have P4 : Hid (w4.ownsRow (g + 1) 2 1 (.slice (some ⟨b2, 0, none⟩) (i + 1) c2) (i + 1) (seen.map (Value.int .i64))) := (P6.out.alloc _).kept hgr4 (.inr (by simp [Value.ownBlock]; omega))
            have y2 : w4.cell? ⟨w.heap.size, 1, none⟩ = some (.slice a n ca) := by rw [cell_of_row _ _ 1 _ _ _ D4.out.box]; rfl
            obtain ⟨ba, oa, rfl, hba, hca⟩ := (HA.out w4 D4.out.below).addr (by omega)
            obtain ⟨_, x1, _⟩ := hca j' hjt
            have et : ts[j'] = t := by have := HTJ.out; rw [List.getElem?_eq_getElem hjt] at this; exact Option.some.inj this
            rw [et] at x1
            have hz4 := D4.out.wlo
            clear ho4 hgr4 hat4 hca et D6 O6 P6
            go_wp2_with (at_builtin; refine wpList_append_lies _ rfl _ _ 28 rfl (g + 1) 2 HI.out.choose (.int .i64 0) 1 8 Try.underlying28 HI.out.choose_spec.1 HI.out.choose_spec.2.1 HI.out.choose_spec.2.2.1 HI.out.choose_spec.2.2.2 rfl (by decide) (.slice (some ⟨b2, 0, none⟩) (i + 1) c2) (i + 1) (seen.map (Value.int .i64)) rfl (P4.out.alloc _) ⟨w4.heap.size, 0, none⟩ 1 1 [.int .i64 t.2.1] rfl rfl (World.news_of_block (heap_alloc_new w4 _)) (by intro u hu; simp at hu; subst hu; rfl) (by omega) (by unfold maxLen; omega) (by omega) (by simp; omega) _ rfl ?_)
            intro g6 c6 w6 ho6 hgr6 hat6 hlt6
            have D7 : Hid (Drw g (4 + 2 * (4 - (k - 1))) (g + 1) w (.cells #[.int .i64 (S : Int), .slice (some ⟨ba, oa, none⟩) n ca] 26 (0, 0)) w6) := (D4.out.far ((show Below (g + 1) w4 (w4.alloc (.cells #[.int .i64 t.2.1] 2)) from (show Below (g + 1) w4 w4 from ⟨rfl, rfl, rfl, Nat.le_refl _, fun _ _ => rfl⟩).alloc hz4 _).trans (below_grown hgr6 (by simp; omega) (fun p hp => by simp [Value.ownBlock] at hp; omega)))).more (by omega)
            have hb46 : g4 ≠ g6 := by
              simp [Value.ownBlock] at hat6
              omega
            have P7 : Hid (w6.ownsRow (g + 1) 2 1 (.slice (some ⟨g6, 0, none⟩) (i + 1 + 1) c6) (i + 1 + 1) ((seen ++ [t.2.1]).map (Value.int .i64))) := by
              unfold Hid; rw [List.map_append]; exact ho6
            have O7 : Hid (w6.ownsRow (g + 1) 2 1 (.slice (some ⟨g4, 0, none⟩) (i + 1) c4) (i + 1) ((l ++ [(j' : Int)]).map (Value.int .i64))) := (O4.out.alloc _).kept hgr6 (.inr (by simp [Value.ownBlock]; omega))
            clear ho6 hgr6 hat6 hlt6
            go_wp2
            go_roundw
            case rel => exact ⟨k - 1, i + 1, g4, c4, g6, c6, l ++ [(j' : Int)], seen ++ [t.2.1], t.2.1, by omega, by omega, by congr 1; omega, rfl, rfl, rfl, hb46, by unfold Hid; rw [List.length_append, HL.out]; rfl, by unfold Hid; rw [List.length_append, HSL.out]; rfl, HTR2.out, D7.out, O7.out, P7.out⟩
            case measure => simp [intOf]; omega
    · have hkz : k = 0 := by omega
      subst hkz
      go_wp2
      go_ret
      exact HR.out
end Go.Proofs.Ytenjigifjkfiaaa
