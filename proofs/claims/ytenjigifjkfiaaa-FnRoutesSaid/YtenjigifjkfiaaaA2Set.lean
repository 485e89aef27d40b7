/-
  The setting that the laws on ways draw.
-/
import Derived.Test.YtenjigifjkfiaaaA2Net
import Derived.Test.YtenjigifjkfiaaaSetMath
import Derived.Test.YtenjigifjkfiaaaIntList
import Derived.Test.YtenjigifjkfiaaaNetMem
import Derived.Test.YtenjigifjkfiaaaNetEq
import Derived.Deep.AppendLies
namespace Go.Proofs.Ytenjigifjkfiaaa
open Go.RowKit

theorem infoI : (Try.prog.info? 2).map (fun i => (i.zero, i.size, i.bytes)) = some (some (.int .i64 0), 1, 8) := by kernel_rfl
/-- A source that is being read behind a function's box. -/
structure Drw (g K lo : Nat) (w0 : World) (o : Obj) (w : World) : Prop where
  src : Src (w0.heap.size + 1) g K w
  box : w.heap[w0.heap.size]? = some o
  below : Below w0.heap.size w0 w
  glo : g < lo
  wlo : lo ≤ w.heap.size
theorem Drw.pick {g K L lo : Nat} {w0 w w' : World} {o : Obj} (h : Drw g K lo w0 o w) (hs : Src (w0.heap.size + 1) g L w') (hg : w.grownBy w' (some g)) : Drw g L lo w0 o w' := by
  have hb := hs.1
  have h1 := h.glo
  have h2 := h.wlo
  exact ⟨hs, heapn_src h.box hg (by omega), h.below.grown hg (by omega) (fun k hk => by injection hk with hk; omega), h.glo, Nat.le_trans h.wlo hg.size⟩
theorem Src.low {B g K lo : Nat} {w w' : World} (h : Src B g K w) (hlo : g < lo) (hb : Below lo w w') : Src B g K w' := by
  obtain ⟨h0, a, n, c, t, s, hc, h1, h2, h3⟩ := h
  refine ⟨h0, a, n, c, t, s, hc.same (fun b o hB => hb.cell (p := ⟨b, o, none⟩) (by show b < lo; omega)), h1, h2, ?_⟩
  rw [hb.block g hlo]
  exact h3
theorem Drw.far {g K lo : Nat} {w0 w w' : World} {o : Obj} (h : Drw g K lo w0 o w) (hb : Below lo w w') : Drw g K lo w0 o w' := by
  have hB := h.src.1
  have h1 := h.glo
  exact ⟨h.src.low h.glo hb, (hb.block w0.heap.size (by omega)).trans h.box, h.below.trans (hb.mono (by omega)), h.glo, Nat.le_trans h.wlo hb.size⟩
theorem Drw.more {g K L lo : Nat} {w0 w : World} {o : Obj} (h : Drw g K lo w0 o w) (hl : K ≤ L) : Drw g L lo w0 o w := ⟨h.src.more hl, h.box, h.below, h.glo, h.wlo⟩
theorem own_keep {w w' : World} {lo lo2 n m c b : Nat} {e : TypeId} {size : Nat} {xs : List Value} (h : w.ownsRow lo e size (.slice (some ⟨b, 0, none⟩) m c) n xs) (hlt : b < lo2) (hb : Below lo2 w w') : w'.ownsRow lo e size (.slice (some ⟨b, 0, none⟩) m c) n xs := by
  refine ⟨h.1, ?_⟩
  rcases h.2 with ⟨hv, h0⟩ | ⟨g, cap, cur, hv, h1, h2, r⟩
  · exact .inl ⟨hv, h0⟩
  · refine .inr ⟨g, cap, cur, hv, h1, ?_, r⟩
    injection hv with q1
    injection q1 with q1
    injection q1 with q1
    rw [hb.block g (by omega)]
    exact h2
theorem below_grown {lo : Nat} {w w' : World} {v : Value} (hg : w.grownBy w' v.ownBlock) (hz : lo ≤ w.heap.size) (h : ∀ k, v.ownBlock = some k → lo ≤ k) : Below lo w w' := (show Below lo w w from ⟨rfl, rfl, rfl, Nat.le_refl _, fun _ _ => rfl⟩).grown hg hz h
/-- A list of numbers of a law's own. -/
def GivesNs (Q : List Int → Prop) (w : World) (e : Ending) (w' : World) : Prop :=
  ∃ (l : List Int) (b m c : Nat), e = .returned (.slice (some ⟨b, 0, none⟩) m c) ∧ Q l ∧ Hid (l.length = m) ∧ Below w.heap.size w w' ∧ w'.ownsRow w.heap.size 2 1 (.slice (some ⟨b, 0, none⟩) m c) m (l.map (Value.int .i64))
theorem own_lit (w : World) (lo : Nat) (e : TypeId) (x : Value) (hb : lo ≤ w.heap.size) : (w.alloc (.cells #[x] e)).ownsRow lo e 1 (.slice (some ⟨w.heap.size, 0, none⟩) 1 1) 1 [x] :=
  ⟨by simp, .inr ⟨w.heap.size, 1, #[x], rfl, hb, heap_alloc_new w _, by omega, by unfold maxLen; omega, rfl, rfl⟩⟩
theorem own_in {w : World} {lo n m c b : Nat} {e : TypeId} {size : Nat} {xs : List Value} (h : w.ownsRow lo e size (.slice (some ⟨b, 0, none⟩) m c) n xs) : b < w.heap.size := (h.lt b rfl).2
theorem rowI_at {w : World} {lo n c b : Nat} {e : TypeId} {ns : List Int} (h : w.ownsRow lo e 1 (.slice (some ⟨b, 0, none⟩) n c) n (ns.map (Value.int .i64))) : ∀ i (h : i < ns.length), w.cell? ⟨b, 0 + i, none⟩ = some (.int .i64 ns[i]) := by
  intro i hi
  have h9 := h.cells (g := b) rfl i (.int .i64 ns[i]) (by rw [List.getElem?_map, List.getElem?_eq_getElem hi]; rfl)
  rw [Addr.add_lit] at h9
  exact h9
theorem ok_more {ts : List T3} {i k : Nat} {l2 : List Int} {t : T3} (h : ∀ x ∈ l2, okAt ts i x = true) (ht : ts[k]? = some t) (h1 : t.1 = (i : Int)) : ∀ x ∈ l2 ++ [(k : Int), (k : Int)], okAt ts i x = true := by
  intro x hx
  rcases List.mem_append.1 hx with hx | hx
  · exact h x hx
  · have : x = (k : Int) := by simpa using hx
    subst this
    rw [okAt_hit ht, h1]
    simp
theorem all_more {ts : List T3} {i : Nat} {l : List Int} {x : Int} (hl : l.length = i) (h : ∀ j (h : j < l.length), okAt ts j l[j] = true) (hx : okAt ts i x = true) : ∀ j (h : j < (l ++ [x]).length), okAt ts j (l ++ [x])[j] = true := by
  intro j hj
  by_cases h9 : j < l.length
  · rw [List.getElem_append_left h9]; exact h j h9
  · have : j = i := by simp at hj; omega
    subst this
    rw [List.getElem_append_right (by omega)]
    simpa using hx
set_option maxRecDepth 100000 in
set_option maxHeartbeats 8000000 in
theorem a2Setting_any (ac : Option Addr) (nc cc : Nat) (S : Nat) (a : Option Addr) (ts : List T3) (n ca : Nat) (w : World) (hc : CodeIn w.heap.size ac nc w) (h1 : nc ≤ 4096) (hn : Hid (ts.length = n)) (ha : RT w a ts) (hnet : netB (S : Int) ts = true) :
    Calls Try.prog 10 #[.slice ac nc cc, .agg #[.int .i64 (S : Int), .slice a n ca]] w (GivesNs (fun l => setB (S : Int) ts l = true) w) := by
  have HI : Hid (∃ i0 : TypeInfo, Try.prog.info? 2 = some i0 ∧ i0.zero = some (.int .i64 0) ∧ i0.size = 1 ∧ i0.bytes = 8) := info_parts infoI
  obtain ⟨hs2, hs10, hn24, _⟩ := netB_parts hnet
  rw [hn.out] at hn24
  have HNET := Lib.hid hnet
  have HA : Hid (∀ w', Below w.heap.size w w' → RT w' a ts) := fun w' h => ha.below h
  have hc1 : Hid (∀ o, CodeIn (w.alloc o).heap.size ac nc (w.alloc o)) := fun o => by
    rcases hc with h | ⟨b, off, ha, hb, hx⟩
    · exact .inl h
    · exact .inr ⟨b, off, ha, by simp; omega, fun i hi => by obtain ⟨x, x0, x1, x2⟩ := hx i hi; exact ⟨x, x0, x1, (((Below.refl w.heap.size w).alloc (Nat.le_refl _) o).cell (p := ⟨b, off + i, none⟩) hb).trans x2⟩⟩
  clear hc ha hnet
  go_enter Try.func10, Try.ntmps10
  go_wp2_with fail
  refine (from_any ac nc cc _ (hc1.out _) h1).mono ?_
  rintro e w1 ⟨g, rfl, hs1, hb1⟩
  have hg0 : w.heap.size + 1 ≤ g := by have := hs1.1; simpa using this
  have R1 : Hid (w1.heap[w.heap.size]? = some (.cells #[.int .i64 (S : Int), .slice a n ca] 26 (0, 0))) := (hb1.block w.heap.size (by simp)).trans (heap_alloc_new w _)
  have B1 := Lib.hid (Below.trans (show Below w.heap.size w (w.alloc (.cells #[.int .i64 (S : Int), .slice a n ca] 26 (0, 0))) from (by repeat (first | exact Below.refl _ _ | refine Below.alloc ?_ (by simp; try omega) _ | refine Below.setCell ?_ (by simp; try omega) _))) (hb1.mono (by simp)))
  have hgl := hs1.lt
  have hsz : (w.alloc (.cells #[.int .i64 (S : Int), .slice a n ca] 26 (0, 0))).heap.size = w.heap.size + 1 := by simp
  rw [hsz] at hs1
  have D1 : Hid (Drw g 0 (g + 1) w (.cells #[.int .i64 (S : Int), .slice a n ca] 26 (0, 0)) w1) := ⟨hs1, R1.out, B1.out, by omega, by omega⟩
  clear hb1 hc1 hs1 R1 B1 hsz
  go_wp2
  go_loopw [6, 7] (fun q iv wr => ∃ (i b c : Nat) (l : List Int), i ≤ S ∧ iv = .int .i64 (i : Int) ∧ q = .slice (some ⟨b, 0, none⟩) i c ∧ Hid (l.length = i) ∧ Hid (∀ j (h : j < l.length), okAt ts j l[j] = true) ∧ Hid (Drw g (2 * i) (g + 1) w (.cells #[.int .i64 (S : Int), .slice a n ca] 26 (0, 0)) wr) ∧ g < b ∧ b < wr.heap.size ∧ Hid (wr.ownsRow (g + 1) 2 1 (.slice (some ⟨b, 0, none⟩) i c) i (l.map (Value.int .i64)))) (fun _ iv _ => S - (intOf iv).toNat)
  case atStart =>
    refine ⟨0, w1.heap.size, 0, [], by omega, rfl, rfl, rfl, fun j hj => by simp at hj, D1.out.far ?_, by omega, by simp, ?_⟩
    · exact (show Below (g + 1) w1 w1 from ⟨rfl, rfl, rfl, Nat.le_refl _, fun _ _ => rfl⟩).alloc (by omega) _
    · exact World.ownsRow_made w1 #[] 0 (by omega) (by unfold maxLen; omega) rfl
  case round =>
    obtain ⟨i, b, c, l, hi, rfl, rfl, HL, HOK, HD, hgb, hbw, HO⟩ := hrel
    clear D1 hgl
    obtain ⟨wo, hwo⟩ : ∃ wo, wo = wr := ⟨wr, rfl⟩
    subst hwo
    have p0 : wo.cell? ⟨w.heap.size, 0, none⟩ = some (.int .i64 (S : Int)) := by rw [cell_of_row wo _ 0 _ _ _ HD.out.box]; rfl
    by_cases hlt : i < S
    · have hlt1 : (i : Int) < (S : Int) := by omega
      have hwlo := HD.out.wlo
      have hwb : w.heap.size < wo.heap.size := by omega
      have y1 : Hid (∀ W, Below wo.heap.size wo W → W.cell? ⟨w.heap.size, 1, none⟩ = some (.slice a n ca)) := fun W hW => (hW.cell (p := ⟨w.heap.size, 1, none⟩) hwb).trans (by rw [cell_of_row wo _ 1 _ _ _ HD.out.box]; rfl)
      go_wp2
      go_loopw [8, 9] (fun q kv wr => ∃ (k m c2 g2 : Nat) (l2 : List Int), k ≤ n ∧ m ≤ 1 + 2 * k ∧ 0 < m ∧ q = .slice (some ⟨g2, 0, none⟩) m c2 ∧ kv = .int .i64 (k : Int) ∧ Hid (l2.length = m) ∧ Hid (∀ x ∈ l2, okAt ts i x = true) ∧ Hid (Below wo.heap.size wo wr) ∧ wo.heap.size ≤ g2 ∧ Hid (wr.ownsRow wo.heap.size 2 1 (.slice (some ⟨g2, 0, none⟩) m c2) m (l2.map (Value.int .i64)))) (fun _ kv _ => n - (intOf kv).toNat)
      case atStart => exact ⟨0, 1, 1, wo.heap.size, [-1], by omega, by omega, by omega, rfl, rfl, rfl, fun x hx => by simp at hx; subst hx; rfl, (by repeat (first | exact Below.refl _ _ | refine Below.alloc ?_ (by simp; try omega) _ | refine Below.setCell ?_ (by simp; try omega) _)), by omega, own_lit wo _ _ _ (Nat.le_refl _)⟩
      case round =>
        obtain ⟨k, m, c2, g2, l2, hk, hm1, hm0, rfl, rfl, HL2, HOK2, HB, hg2, HO2⟩ := hrel
        have z1 := y1.out _ HB.out
        have hk0 : (0 : Int) ≤ (k : Int) := by omega
        by_cases hkn : k < n
        · have hk1 : (k : Int) < (n : Int) := by omega
          have hkt : k < ts.length := by rw [hn.out]; exact hkn
          have HT : Hid (ts[k]? = some ts[k]) := List.getElem?_eq_getElem hkt
          obtain ⟨ba, oa, rfl, hba, hca⟩ := (HA.out wr (HD.out.below.trans (HB.out.mono (by omega)))).addr (by omega)
          obtain ⟨x0, x1, x2⟩ := hca k hkt
          have HMORE : Hid (ts[k].1 = (i : Int) → ∀ x ∈ l2 ++ [(k : Int), (k : Int)], okAt ts i x = true) := fun h => ok_more HOK2.out HT.out h
          generalize ts[k] = t at x0 x1 x2 HT HMORE
          clear x1 x2 hca
          rcases eq_ways t.1 (i : Int) with ⟨⟨e1, e2⟩, e3⟩ | ⟨⟨e1, e2⟩, e3⟩
          · have NEWS : Hid (∀ W : World, ∀ j u, [Value.int .i64 (k : Int), .int .i64 (k : Int)][j]? = some u → (W.alloc (.cells #[.int .i64 (k : Int), .int .i64 (k : Int)] 2)).cell? ((⟨W.heap.size, 0, none⟩ : Addr).add j) = some u) := fun W => World.news_of_block (heap_alloc_new W _)
            have HBZ := HB.out.size
            go_wp2_with (at_builtin; refine wpList_append_lies _ rfl _ _ 28 rfl wo.heap.size 2 HI.out.choose (.int .i64 0) 1 8 Try.underlying28 HI.out.choose_spec.1 HI.out.choose_spec.2.1 HI.out.choose_spec.2.2.1 HI.out.choose_spec.2.2.2 rfl (by decide) (.slice (some ⟨g2, 0, none⟩) m c2) m (l2.map (Value.int .i64)) rfl (HO2.out.alloc _) ⟨wr.heap.size, 0, none⟩ 2 2 [.int .i64 (k : Int), .int .i64 (k : Int)] rfl rfl (NEWS.out wr) (by intro u hu; simp at hu; subst hu; rfl) (by omega) (by unfold maxLen; omega) (by omega) (by simp; omega) _ rfl ?_)
            intro g4 c4 w4 ho4 hgr4 hat4 hlt4
            have B4 : Hid (Below wo.heap.size wo w4) := HB.out.trans ((show Below wo.heap.size wr (wr.alloc (.cells #[.int .i64 (k : Int), .int .i64 (k : Int)] 2)) from (show Below wo.heap.size wr wr from ⟨rfl, rfl, rfl, Nat.le_refl _, fun _ _ => rfl⟩).alloc HBZ _).trans (below_grown hgr4 (by simp; omega) (fun p hp => by simp [Value.ownBlock] at hp; omega)))
            have hg4 : wo.heap.size ≤ g4 := (ho4.lt g4 rfl).1
            have O4 : Hid (w4.ownsRow wo.heap.size 2 1 (.slice (some ⟨g4, 0, none⟩) (m + 2) c4) (m + 2) ((l2 ++ [(k : Int), (k : Int)]).map (Value.int .i64))) := by
              unfold Hid; rw [List.map_append]; exact ho4
            have HOK4 := Lib.hid (HMORE.out e3)
            clear ho4 hgr4 hat4 hlt4 HMORE e3
            go_wp2
            go_roundw
            case rel => exact ⟨k + 1, m + 2, c4, g4, l2 ++ [(k : Int), (k : Int)], by omega, by omega, by omega, rfl, by go_num, by unfold Hid; rw [List.length_append, HL2.out]; rfl, HOK4.out, B4.out, hg4, O4.out⟩
            case measure => simp [intOf]; omega
          · clear e3 HMORE
            go_wp2
            go_roundw
            case rel => exact ⟨k + 1, m, c2, g2, l2, by omega, by omega, hm0, rfl, by go_num, HL2.out, HOK2.out, HB.out, hg2, HO2.out⟩
            case measure => simp [intOf]; omega
        · have hbo : b < wo.heap.size := hbw
          have D5 : Hid (Drw g (2 * i) (g + 1) w (.cells #[.int .i64 (S : Int), .slice a n ca] 26 (0, 0)) wr) := HD.out.far (HB.out.mono (by omega))
          have O5 : Hid (wr.ownsRow (g + 1) 2 1 (.slice (some ⟨b, 0, none⟩) i c) i (l.map (Value.int .i64))) := own_keep HO.out hbo HB.out
          have AM := among_any (w.heap.size + 1) g (2 * i) g2 0 l2 m c2 wr (by omega) D5.out.src HL2.out hm0 (by omega) (by omega) (rowI_at HO2.out)
          go_wp2_with fail
          clear z1
          refine AM.mono ?_
          rintro e w5 ⟨x, rfl, hx, hs5, hg5⟩
          have HX := Lib.hid (all_more HL.out HOK.out (HOK2.out x hx))
          have D6 : Hid (Drw g (2 * i + 2) (g + 1) w (.cells #[.int .i64 (S : Int), .slice a n ca] 26 (0, 0)) w5) := D5.out.pick hs5 hg5
          have O6 : Hid (w5.ownsRow (g + 1) 2 1 (.slice (some ⟨b, 0, none⟩) i c) i (l.map (Value.int .i64))) := ownn_src O5.out hg5 (by omega)
          have hz5 := D6.out.wlo
          clear AM hs5 hg5 hx
          go_wp2_with (at_builtin; refine wpList_append_lies _ rfl _ _ 28 rfl (g + 1) 2 HI.out.choose (.int .i64 0) 1 8 Try.underlying28 HI.out.choose_spec.1 HI.out.choose_spec.2.1 HI.out.choose_spec.2.2.1 HI.out.choose_spec.2.2.2 rfl (by decide) (.slice (some ⟨b, 0, none⟩) i c) i (l.map (Value.int .i64)) rfl (O6.out.alloc _) ⟨w5.heap.size, 0, none⟩ 1 1 [.int .i64 x] rfl rfl (World.news_of_block (heap_alloc_new w5 _)) (by intro u hu; simp at hu; subst hu; rfl) (by omega) (by unfold maxLen; omega) (by omega) (by simp; omega) _ rfl ?_)
          intro g4 c4 w4 ho4 hgr4 hat4 hlt4
          have D4 : Hid (Drw g (2 * (i + 1)) (g + 1) w (.cells #[.int .i64 (S : Int), .slice a n ca] 26 (0, 0)) w4) := (D6.out.far ((show Below (g + 1) w5 (w5.alloc (.cells #[.int .i64 x] 2)) from (show Below (g + 1) w5 w5 from ⟨rfl, rfl, rfl, Nat.le_refl _, fun _ _ => rfl⟩).alloc hz5 _).trans (below_grown hgr4 (by simp; omega) (fun p hp => by simp [Value.ownBlock] at hp; omega)))).more (by omega)
          have hg4 : g < g4 := (ho4.lt g4 rfl).1
          have O4 : Hid (w4.ownsRow (g + 1) 2 1 (.slice (some ⟨g4, 0, none⟩) (i + 1) c4) (i + 1) ((l ++ [x]).map (Value.int .i64))) := by
            unfold Hid; rw [List.map_append]; exact ho4
          clear ho4 hgr4 hat4
          go_wp2
          go_roundw
          case rel => exact ⟨i + 1, g4, c4, l ++ [x], by omega, by go_num, rfl, by unfold Hid; rw [List.length_append, HL.out]; rfl, HX.out, D4.out, hg4, hlt4, O4.out⟩
          case measure => simp [intOf]; omega
    · have hiS : i = S := by omega
      subst hiS
      have HR : Hid (GivesNs (fun l => setB (i : Int) ts l = true) w (.returned (.slice (some ⟨b, 0, none⟩) i c)) wo) := ⟨l, b, i, c, rfl, setB_good HNET.out (by rw [HL.out]) HOK.out, HL.out, HD.out.below, ownn_low HO.out (by omega)⟩
      go_wp2
      go_ret
      exact HR.out
end Go.Proofs.Ytenjigifjkfiaaa
