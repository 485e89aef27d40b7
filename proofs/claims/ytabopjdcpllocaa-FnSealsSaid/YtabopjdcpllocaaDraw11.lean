/-
  The draw of costs, and that of CostOfMoves.
-/
import Derived.Test.YtabopjdcpllocaaDraw10
import Derived.Test.YtabopjdcpllocaaCost
namespace Go.Proofs.Ytabopjdcpllocaa
open Go.RowKit

/-- A cell holds a row of few numbers. -/
def RowAt (W : World) (p : Addr) : Prop := ∃ bi oi qi ci, W.cell? p = some (.slice (some ⟨bi, oi, none⟩) qi ci) ∧ qi ≤ 11 ∧ ∀ j, j < qi → ∃ x, (Lit.int .i64 x).wf = true ∧ W.cell? ⟨bi, oi + j, none⟩ = some (.int .i64 x)
theorem rn_of {W : World} {a off n : Nat} (h : ∀ i, i < n → RowAt W ⟨a, off + i, none⟩) : ∃ cs : List TInt64S, cs.length = n ∧ RN 1048576 1 cInt64S W (some ⟨a, off, none⟩) cs ∧ ∀ t ∈ cs, wfInt64S t := by
  have key : ∀ i, i < n → ∃ e : NE Unit, (∃ ci, W.cell? ⟨a, off + i, none⟩ = some e.1 ∧ ∃ ai, e.1 = .slice ai e.2.1.length ci ∧ RI W ai e.2.1 ∧ e.2.1.length ≤ 1048576 ∧ ∀ k ∈ e.2.1, (Lit.int .i64 k).wf = true) := by
    intro i hi
    obtain ⟨bi, oi, qi, ci, h1, h2, h3⟩ := h i hi
    obtain ⟨l, hl, hq⟩ := pick_list qi (fun j x => (Lit.int .i64 x).wf = true ∧ W.cell? ⟨bi, oi + j, none⟩ = some (.int .i64 x)) h3
    refine ⟨(.slice (some ⟨bi, oi, none⟩) qi ci, l, ()), ci, h1, some ⟨bi, oi, none⟩, by rw [hl], .inr ⟨bi, oi, rfl, fun j hj => (hq j hj).2⟩, by dsimp only; omega, fun k hk => ?_⟩
    obtain ⟨j, hj, rfl⟩ := List.getElem_of_mem hk
    exact (hq j hj).1
  obtain ⟨es, hes, hq⟩ := pick_list n _ key
  refine ⟨es.map (·.2), by rw [List.length_map]; exact hes, ⟨es, rfl, ?_, fun i hi => ?_⟩, fun t ht => ?_⟩
  · by_cases hz : n = 0
    · exact .inl (List.eq_nil_of_length_eq_zero (by omega))
    · have hlt := (hq 0 (by omega)).choose_spec.1
      refine .inr ⟨a, off, rfl, World.block_lt_of_cell? W _ hlt, fun i hi j v hj => ?_⟩
      obtain ⟨ci, h1, _⟩ := hq i hi
      match j, hj with
      | 0, hj =>
        obtain rfl : _ = v := Option.some.inj hj
        rw [Nat.mul_one, Nat.add_zero]
        exact h1
      | j + 1, hj => simp [ceN, cInt64S] at hj
  · obtain ⟨ci, _, ai, h2, h3, h4, _⟩ := hq i hi
    exact ⟨ai, ci, h2, h3, h4⟩
  · obtain ⟨e, he, rfl⟩ := List.mem_map.1 ht
    obtain ⟨i, hi, rfl⟩ := List.getElem_of_mem he
    obtain ⟨_, _, _, _, _, _, h5⟩ := hq i hi
    exact h5
/-- A value is a row of its own, below the world's end. -/
def GoodRow (lo b q : Nat) (W : World) (v : Value) : Prop := ∃ bi ci, v = .slice (some ⟨bi, 0, none⟩) q ci ∧ q ≤ ci ∧ lo ≤ bi ∧ bi ≠ b ∧ bi < W.heap.size ∧ ∀ j, j < q → ∃ x, (Lit.int .i64 x).wf = true ∧ W.cell? ⟨bi, j, none⟩ = some (.int .i64 x) ∧ W.frozen? ⟨bi, j, none⟩ = false
theorem GoodRow.src {lo b q g : Nat} {W W' : World} {v : Value} (h : GoodRow lo b q W v) (hg : W.grownBy W' (some g)) (hlo : g < lo) : GoodRow lo b q W' v := by
  obtain ⟨bi, ci, h1, hc, h2, h3, h4, h5⟩ := h
  refine ⟨bi, ci, h1, hc, h2, h3, Nat.lt_of_lt_of_le h4 hg.size, fun j hj => ?_⟩
  obtain ⟨x, hx, hcell, hf⟩ := h5 j hj
  exact ⟨x, hx, hg.cell hcell (by simp; omega), (hg.frozen_far ⟨bi, j, none⟩ h4 (by simp; omega)).trans hf⟩
theorem GoodRow.app {lo b q g8 : Nat} {W W' : World} {o : Obj} {v : Value} {n c : Nat} (h : GoodRow lo b q W v) (hg : (W.alloc o).grownBy W' (Value.slice (some ⟨b, 0, none⟩) n c).ownBlock) (hat : g8 = b ∨ g8 = (W.alloc o).heap.size) : GoodRow lo g8 q W' v := by
  obtain ⟨bi, ci, h1, hc, h2, h3, h4, h5⟩ := h
  have hsz : (W.alloc o).heap.size = W.heap.size + 1 := by simp
  refine ⟨bi, ci, h1, hc, h2, by omega, by have := hg.size; omega, fun j hj => ?_⟩
  obtain ⟨x, hx, hcell, hf⟩ := h5 j hj
  refine ⟨x, hx, hg.cell (a := ⟨bi, j, none⟩) ?_ (by simp [Value.ownBlock]; exact h3), (hg.frozen_far ⟨bi, j, none⟩ (by simp; omega) (by simp [Value.ownBlock]; exact h3)).trans (((bcell ((Below.refl W.heap.size W).alloc (Nat.le_refl _) o)).2 bi j h4).trans hf)⟩
  exact kept_cell ((Below.refl _ _).alloc (Nat.le_refl _) o) hcell
theorem info35d : (Try.prog.info? 35).map (fun i => (i.zero, i.size, i.bytes)) = some (some (.slice none 0 0), 1, 24) := by kernel_rfl

theorem rowAt_of {lo b q : Nat} {W W' : World} {v : Value} {p : Addr} (h : GoodRow lo b q W v) (hq : q ≤ 11) (hp : W'.cell? p = some v) (hc : ∀ a u, lo ≤ a.block → a.block ≠ b → W.cell? a = some (.int .i64 u) → (Lit.int .i64 u).wf = true → ∃ x, (Lit.int .i64 x).wf = true ∧ W'.cell? a = some (.int .i64 x)) : RowAt W' p := by
  obtain ⟨bi, ci, h1, _, h2, h3, _, h5⟩ := h
  refine ⟨bi, 0, q, ci, by rw [hp, h1], hq, fun j hj => ?_⟩
  obtain ⟨x, hx, hcell, _⟩ := h5 j hj
  rw [Nat.zero_add]
  exact hc ⟨bi, j, none⟩ x h2 h3 hcell hx
/-- What the draw of costs leaves. -/
def DrawnC (B g K : Nat) (w : World) (e : Ending) (w' : World) : Prop :=
  ∃ (cs : List TInt64S) (a off n c : Nat), e = .returned (.slice (some ⟨a, off, none⟩) n c) ∧ Hid (cs.length = n) ∧ n ≤ 11 ∧ Hid (RN 1048576 1 cInt64S w' (some ⟨a, off, none⟩) cs) ∧ Hid (∀ t ∈ cs, wfInt64S t) ∧ Src B g K w' ∧ w.grownBy w' (some g)
theorem drawnC_of {B g K : Nat} {w w' : World} {a off n c : Nat} (hn : n ≤ 11) (h : ∀ i, i < n → RowAt w' ⟨a, off + i, none⟩) (hs : Src B g K w') (hg : w.grownBy w' (some g)) : DrawnC B g K w (.returned (.slice (some ⟨a, off, none⟩) n c)) w' := by
  obtain ⟨cs, h1, h2, h3⟩ := rn_of h
  exact ⟨cs, a, off, n, c, rfl, h1, hn, h2, h3, hs, hg⟩

set_option maxRecDepth 100000 in
set_option maxHeartbeats 16000000 in
theorem drawCosts_any (B g K st : Nat) (hst : 1 ≤ st ∧ st ≤ 11) (w : World) (hK : K < 10000) (h : Src B g K w) :
    Calls Try.prog 64 #[.pointer (some ⟨g, 0, none⟩), .int .i64 (st : Int)] w (DrawnC B g (K + 300) w) := by
  have HI : Hid (∃ i0 : TypeInfo, Try.prog.info? 35 = some i0 ∧ i0.zero = some (.slice none 0 0) ∧ i0.size = 1 ∧ i0.bytes = 24) := info_parts info35d
  have HJ : Hid (∃ i0 : TypeInfo, Try.prog.info? 2 = some i0 ∧ i0.zero = some (.int .i64 0) ∧ i0.size = 1 ∧ i0.bytes = 8) := info_parts infoI64d
  have hgl := h.lt
  have HS0 := Lib.hid h
  clear h
  go_enter Try.func64, Try.ntmps64
  go_wp2
  go_loopw [5, 6] (fun q iv wr => ∃ (i b c : Nat) (xs : List Value), i ≤ st ∧ iv = .int .i64 (i : Int) ∧ q = .slice (some ⟨b, 0, none⟩) i c ∧ Hid (xs.length = i) ∧ Hid (∀ v ∈ xs, GoodRow w.heap.size b st wr v) ∧ Hid (Src B g (K + 22 * i) wr) ∧ Hid (w.grownBy wr (some g)) ∧ Hid (wr.ownsRow w.heap.size 35 1 (.slice (some ⟨b, 0, none⟩) i c) i xs)) (fun _ iv _ => st - (intOf iv).toNat)
  case atStart => exact ⟨0, _, _, [], by omega, rfl, rfl, rfl, fun v hv => by simp at hv, HS0.out.alloc _, gb_alloc (grown_refl w (some g)) _, World.ownsRow_made w #[] 0 (Nat.le_refl _) (by unfold maxLen; omega) rfl⟩
  case round =>
    obtain ⟨i, b, c, xs, hi, rfl, rfl, HN, HX, HS, HG, HO⟩ := hrel
    have hbw := HO.out.lt b rfl
    have hz0 := HG.out.size
    by_cases hlt : i < st
    · have hi0 : (0 : Int) ≤ (i : Int) := by omega
      have hi1 : (i : Int) < (st : Int) := by omega
      obtain ⟨wo, hwo⟩ : ∃ wo, wo = wr := ⟨wr, rfl⟩
      subst hwo
      go_wp2
      go_loopw [7, 8] (fun q jv wr => ∃ (j b2 c2 : Nat) (l : List Int), j ≤ st ∧ jv = .int .i64 (j : Int) ∧ q = .slice (some ⟨b2, 0, none⟩) j c2 ∧ Hid (l.length = j) ∧ Hid (∀ x ∈ l, 0 ≤ x ∧ x ≤ 19) ∧ Hid (Src B g (K + 22 * i + 2 * j) wr) ∧ Hid (wo.grownBy wr (some g)) ∧ Hid (wr.ownsRow wo.heap.size 2 1 (.slice (some ⟨b2, 0, none⟩) j c2) j (l.map (Value.int .i64)))) (fun _ jv _ => st - (intOf jv).toNat)
      case atStart => exact ⟨0, _, _, [], by omega, rfl, rfl, rfl, fun v hv => by simp at hv, HS.out.alloc _, gb_alloc (grown_refl wo (some g)) _, World.ownsRow_made wo #[] 0 (Nat.le_refl _) (by unfold maxLen; omega) rfl⟩
      case round =>
        obtain ⟨j, b2, c2, l, hj, rfl, rfl, HN2, HX2, HS2, HG2, HO2⟩ := hrel
        by_cases hlj : j < st
        · have hj0 : (0 : Int) ≤ (j : Int) := by omega
          have hj1 : (j : Int) < (st : Int) := by omega
          go_wp2_with fail
          refine (pick_any B g (K + 22 * i + 2 * j) 20 (by omega) _ (by omega) HS2.out).mono ?_
          rintro e w6 ⟨x, rfl, ⟨hy0, hy1, hy2⟩, hs6, hg6⟩
          have hx0 : 0 ≤ x ∧ x ≤ 19 := by omega
          have G6 := Lib.hid (gb_trans HG2.out hg6)
          have O6 := Lib.hid (own_src HO2.out hg6 (by omega))
          have S6 := Lib.hid hs6
          have hz6 := G6.out.size
          have HGE : Hid (∀ q, (Value.slice (some ⟨b2, 0, none⟩) j c2).ownBlock = some q → wo.heap.size ≤ q) := fun q hq => (O6.out.lt q hq).1
          clear hs6 hg6 hy0 hy1 hy2 HS2 HG2 HO2
          go_wp2_with (first | (at_builtin; refine wpList_append_lies _ rfl _ _ 35 rfl wo.heap.size 2 HJ.out.choose (.int .i64 0) 1 8 Try.underlying35 HJ.out.choose_spec.1 HJ.out.choose_spec.2.1 HJ.out.choose_spec.2.2.1 HJ.out.choose_spec.2.2.2 rfl (by decide) (.slice (some ⟨b2, 0, none⟩) j c2) j (l.map (Value.int .i64)) rfl (World.ownsRow.alloc O6.out _) ⟨w6.heap.size, 0, none⟩ 1 1 [.int .i64 x] rfl rfl (World.news_of_block (heap_alloc_new w6 _)) (by intro u hu; simp at hu; subst hu; rfl) (by omega) (by unfold maxLen; omega) (by omega) (by simp; omega) _ rfl ?_))
          intro g8 cap8 w8 hown8 hgrow8 hat8 hlt8
          have G8 : Hid (wo.grownBy w8 (some g)) := gb_own (gb_alloc G6.out _) hgrow8 HGE.out
          have S8 : Hid (Src B g (K + 22 * i + 2 * (j + 1)) w8) := ((S6.out.alloc _).own hgrow8 HGE.out (by omega)).more (by omega)
          have X8 : Hid (w8.ownsRow wo.heap.size 2 1 (.slice (some ⟨g8, 0, none⟩) (j + 1) cap8) (j + 1) ((l ++ [x]).map (Value.int .i64))) := by
            unfold Hid; rw [List.map_append]; exact hown8
          have N8 : Hid ((l ++ [x]).length = j + 1) := by unfold Hid; rw [List.length_append, HN2.out]; rfl
          have Z8 : Hid (∀ t ∈ l ++ [x], 0 ≤ t ∧ t ≤ 19) := fun z hz => by
            rcases List.mem_append.1 hz with hz | hz
            · exact HX2.out z hz
            · simp at hz; subst hz; exact hx0
          clear hown8 hgrow8 hat8 hlt8 O6 G6 S6
          go_wp2
          go_roundw
          case rel => exact ⟨j + 1, g8, cap8, l ++ [x], by omega, by go_num, rfl, N8, Z8, S8, G8, X8⟩
          case measure => simp [intOf]; omega
        · have hjs : j = st := by omega
          subst hjs
          have hb2 := HO2.out.lt b2 rfl
          have hcap2 : j ≤ c2 := by
            rcases HO2.out.2 with ⟨hv, _⟩ | ⟨_, _, _, hv, _, _, h3, _⟩
            · injection hv with h1; exact absurd h1 (by simp)
            · injection hv with _ _ h5; omega
          have G6 := Lib.hid (gb_trans HG.out HG2.out)
          have O6 := Lib.hid (own_src HO.out HG2.out (by omega))
          have ROW : Hid (GoodRow w.heap.size b j wr (.slice (some ⟨b2, 0, none⟩) j c2)) := ⟨b2, c2, rfl, hcap2, by omega, by omega, hb2.2, fun k hk => by
            have hkl : k < l.length := by rw [HN2.out]; exact hk
            have := HX2.out l[k] (List.getElem_mem hkl)
            exact ⟨l[k], wf_i64 (by omega) (by omega), ownsRow_cell HO2.out k _ (ints_cell l k hkl), ownsRow_frozen HO2.out k⟩⟩
          have XS6 : Hid (∀ v ∈ xs ++ [.slice (some ⟨b2, 0, none⟩) j c2], GoodRow w.heap.size b j wr v) := fun v hv => by
            rcases List.mem_append.1 hv with hv | hv
            · exact (HX.out v hv).src HG2.out hgl
            · simp at hv; subst hv; exact ROW.out
          have S6 : Hid (Src B g (K + 22 * (i + 1)) wr) := HS2.out.more (by omega)
          have HGE : Hid (∀ q, (Value.slice (some ⟨b, 0, none⟩) i c).ownBlock = some q → w.heap.size ≤ q) := fun q hq => (O6.out.lt q hq).1
          have hz6 := G6.out.size
          clear HS HG HO HX HX2 HS2 HG2 HO2 ROW
          go_wp2_with (first | (at_builtin; refine wpList_append_lies _ rfl _ _ 49 rfl w.heap.size 35 HI.out.choose (.slice none 0 0) 1 24 Try.underlying49 HI.out.choose_spec.1 HI.out.choose_spec.2.1 HI.out.choose_spec.2.2.1 HI.out.choose_spec.2.2.2 rfl (by decide) (.slice (some ⟨b, 0, none⟩) i c) i xs rfl (World.ownsRow.alloc O6.out _) ⟨wr.heap.size, 0, none⟩ 1 1 [.slice (some ⟨b2, 0, none⟩) j c2] rfl rfl (World.news_of_block (heap_alloc_new wr _)) (by intro u hu; simp at hu; subst hu; rfl) (by omega) (by unfold maxLen; omega) (by omega) (by simp; omega) _ rfl ?_))
          intro g8 cap8 w8 hown8 hgrow8 hat8 hlt8
          have G8 : Hid (w.grownBy w8 (some g)) := gb_own (gb_alloc G6.out _) hgrow8 HGE.out
          have S8 : Hid (Src B g (K + 22 * (i + 1)) w8) := (S6.out.alloc _).own hgrow8 HGE.out hgl
          have X8 : Hid (w8.ownsRow w.heap.size 35 1 (.slice (some ⟨g8, 0, none⟩) (i + 1) cap8) (i + 1) (xs ++ [.slice (some ⟨b2, 0, none⟩) j c2])) := hown8
          have N8 : Hid ((xs ++ [Value.slice (some ⟨b2, 0, none⟩) j c2]).length = i + 1) := by unfold Hid; rw [List.length_append, HN.out]; rfl
          have Z8 : Hid (∀ v ∈ xs ++ [.slice (some ⟨b2, 0, none⟩) j c2], GoodRow w.heap.size g8 j w8 v) := fun v hv => (XS6.out v hv).app hgrow8 (by
            rcases hat8 with h | h
            · simp [Value.ownBlock] at h; omega
            · exact .inr (h.trans (by simp)))
          clear hown8 hgrow8 hat8 hlt8 O6 G6 S6
          go_wp2
          go_roundw
          case rel => exact ⟨i + 1, g8, cap8, _, by omega, by go_num, rfl, N8, Z8, S8, G8, X8⟩
          case measure => simp [intOf]; omega
    · have his : i = st := by omega
      subst his
      have hip : (0 : Int) < (i : Int) := by omega
      go_wp2_with fail
      refine (pick_any B g _ 16 (by omega) _ (by omega) HS.out).mono ?_
      rintro e w7 ⟨d, rfl, ⟨hd0, hd1, hd2⟩, hs7, hg7⟩
      have G7 := Lib.hid (gb_trans HG.out hg7)
      have O7 := Lib.hid (own_src HO.out hg7 hgl)
      have X7 : Hid (∀ v ∈ xs, GoodRow w.heap.size b i w7 v) := fun v hv => (HX.out v hv).src hg7 hgl
      have S7 := Lib.hid hs7
      have hbw7 := O7.out.lt b rfl
      clear hg7 hs7 HG HO HS HX
      have ROWS : Hid (∀ k, k < i → RowAt w7 ⟨b, 0 + k, none⟩) := fun k hk => by
        have hkx : k < xs.length := by rw [HN.out]; exact hk
        obtain ⟨bi, ci, h1, _, _, _, _, h5⟩ := X7.out xs[k] (List.getElem_mem hkx)
        have hcell := ownsRow_cell O7.out k xs[k] (List.getElem?_eq_getElem hkx)
        rw [h1] at hcell
        exact ⟨bi, 0, i, ci, by rw [Nat.zero_add]; exact hcell, by omega, fun j hj => by obtain ⟨x, hx, hcl, _⟩ := h5 j hj; rw [Nat.zero_add]; exact ⟨x, hx, hcl⟩⟩
      rcases (by omega : d = 0 ∨ d = 1 ∨ d = 2 ∨ (¬ d = 0 ∧ ¬ d = 1 ∧ ¬ d = 2)) with hd | hd | hd | hd
      · subst hd
        obtain ⟨b0, c0, hv0, hc0, hlo0, hne0, hlt0, hrow0⟩ := X7.out (xs[0]'(by rw [HN.out]; omega)) (List.getElem_mem _)
        have x0 := ownsRow_cell O7.out 0 _ (List.getElem?_eq_getElem (l := xs) (i := 0) (by rw [HN.out]; omega))
        rw [hv0] at x0
        obtain ⟨y, hyw, hy, hyf⟩ := hrow0 0 (by omega)
        have HXY := Lib.hid (And.intro x0 hy)
        have HYF := Lib.hid hyf
        have S7d : Hid (Src B g (K + 22 * i + 2) w7.drew) := S7.out.below (Below.refl _ _).drew
        have x1 := (((Below.refl w7.heap.size w7).drew.alloc (Nat.le_refl _) (.cells #[.int .i64 (-1), .int .i64 0, .int .i64 1000, .int .i64 1001] 2)).cell (p := ⟨b, 0, none⟩) hbw7.2).trans x0
        have G7d : Hid (w.grownBy w7.drew (some g)) := gb_drewN G7.out 1
        clear hv0 hrow0
        go_wp2_with fail
        go_region_held3 (fun w' => w'.cell? ⟨b, 0, none⟩ = some (.slice (some ⟨b0, 0, none⟩) i c0)) (first | exact x0 | exact x1 | exact c8 | exact (World.cell?_setCell_other _ _ _ _ (by simp <;> omega)).trans c8) (first | (go_at_call 62; refine (among_new B g _ [-1, 0, 1000, 1001] 4 w7.drew (by omega) S7d.out rfl (by omega) (by omega)).mono ?_; rintro e w8 ⟨v, rfl, hv, hs8, hg8⟩; have c8 := hg8.cell (a := ⟨b, 0, none⟩) (show w7.drew.cell? _ = _ from HXY.out.1) (by simp <;> omega); have e8 := hg8.cell (a := ⟨b0, 0, none⟩) (show w7.drew.cell? _ = _ from HXY.out.2) (by simp <;> omega); have f8 : w8.frozen? ⟨b0, 0, none⟩ = false := (hg8.frozen_far ⟨b0, 0, none⟩ (show b0 < w7.drew.heap.size from hlt0) (by simp <;> omega)).trans (show w7.drew.frozen? _ = false from HYF.out)))
        all_goals
          have hvw : (Lit.int .i64 v).wf = true := by
            simp at hv
            exact wf_i64 (by omega) (by omega)
          have HR : Hid (DrawnC B g (K + 300) w (.returned (.slice (some ⟨b, 0, none⟩) i c)) (w8.setCell ⟨b0, 0, none⟩ (.int .i64 v))) := drawnC_of hst.2 (fun k hk => by
            have hkx : k < xs.length := by rw [HN.out]; exact hk
            have hcell := hg8.cell (a := ⟨b, k, none⟩) (show w7.drew.cell? _ = _ from ownsRow_cell O7.out k xs[k] (List.getElem?_eq_getElem hkx)) (by simp <;> omega)
            rw [Nat.zero_add]
            refine rowAt_of (X7.out xs[k] (List.getElem_mem hkx)) hst.2 ((World.cell?_setCell_other _ _ _ _ (by simp <;> omega)).trans hcell) (fun a u hla ha hu hw => ?_)
            by_cases e : (⟨b0, 0, none⟩ : Addr) = a
            · subst e
              exact ⟨v, hvw, World.cell?_setCell_same _ _ _ e8⟩
            · have hu8 : w8.cell? a = some (.int .i64 u) := hg8.cell (show w7.drew.cell? _ = _ from hu) (by
                intro h
                injection h with h
                omega)
              exact ⟨u, hw, (World.cell?_setCell_other _ _ _ _ e).trans hu8⟩) ((hs8.set (by omega) _ _).more (by omega)) (gb_set (gb_trans G7d.out hg8) hlo0 _ _)
          clear hs8 hg8 x0 x1 c8 hv hy
          go_wp2
          go_ret
          exact HR.out
      · subst hd
        obtain ⟨b0, c0, hv0, hc0, hlo0, hne0, hlt0, hrow0⟩ := X7.out (xs[0]'(by rw [HN.out]; omega)) (List.getElem_mem _)
        have x0 := ownsRow_cell O7.out 0 _ (List.getElem?_eq_getElem (l := xs) (i := 0) (by rw [HN.out]; omega))
        rw [hv0] at x0
        have f0 := ownsRow_frozen O7.out 0
        have hi1 : (1 : Int) ≤ (i : Int) := by omega
        have hci : (i : Int) ≤ (c0 : Int) := by omega
        have HRR : ∀ (o2 c2 : Nat), (o2 = 1 ∨ i = 1) → DrawnC B g (K + 300) w (.returned (.slice (some ⟨b, 0, none⟩) i c)) (w7.setCell ⟨b, 0, none⟩ (.slice (some ⟨b0, o2, none⟩) (i - 1) c2)) := fun o2 c2 ho2 => drawnC_of hst.2 (fun k hk => by
          have hkx : k < xs.length := by rw [HN.out]; exact hk
          rw [Nat.zero_add]
          by_cases hk0 : k = 0
          · subst hk0
            refine ⟨b0, o2, i - 1, c2, World.cell?_setCell_same _ _ _ x0, by omega, fun j hj => ?_⟩
            obtain rfl : o2 = 1 := by omega
            obtain ⟨y, hyw, hy, _⟩ := hrow0 (1 + j) (by omega)
            exact ⟨y, hyw, cell_other (by simpa using hne0) hy⟩
          · refine rowAt_of (X7.out xs[k] (List.getElem_mem hkx)) hst.2 ((World.cell?_setCell_other _ _ _ _ (by simp <;> omega)).trans (ownsRow_cell O7.out k xs[k] (List.getElem?_eq_getElem hkx))) (fun a u _ ha hu hw => ⟨u, hw, cell_other ha hu⟩)) ((S7.out.set (by omega) _ _).more (by omega)) (gb_set G7.out hbw7.1 _ _)
        rcases (by omega : c0 = 1 ∨ 2 ≤ c0) with h1 | h1
        · subst h1
          have hr0 := HRR 0 0 (.inr (by omega))
          rw [show i - 1 = 0 by omega] at hr0
          have HR := Lib.hid hr0
          clear hr0
          clear hv0 hrow0 HRR
          go_wp2
          go_ret
          exact HR.out
        · have HR := Lib.hid (HRR 1 (c0 - 1) (.inl rfl))
          have h2 : ¬ c0 = 1 := by omega
          have h3 : ¬ c0 - 1 = 0 := by omega
          clear hv0 hrow0 HRR
          go_wp2
          go_ret
          exact HR.out
      · subst hd
        have hcap : i ≤ c := by
          rcases O7.out.2 with ⟨hv, _⟩ | ⟨_, _, _, hv, _, _, h3, _⟩
          · injection hv with h1; exact absurd h1 (by simp)
          · injection hv with _ _ h5; omega
        have hi1 : (1 : Int) ≤ (i : Int) := by omega
        rcases (by omega : c = 1 ∨ 2 ≤ c) with h1 | h1
        · subst h1
          have HR : Hid (DrawnC B g (K + 300) w (.returned (.slice (some ⟨b, 0, none⟩) 0 0)) w7) := drawnC_of (by omega) (fun k hk => by omega) (S7.out.more (by omega)) G7.out
          go_wp2
          go_ret
          exact HR.out
        · have HR : Hid (DrawnC B g (K + 300) w (.returned (.slice (some ⟨b, 1, none⟩) (i - 1) (c - 1))) w7) := drawnC_of (by omega) (fun k hk => by
            have := ROWS.out (k + 1) (by omega)
            rw [show 0 + (k + 1) = 1 + k by omega] at this
            exact this) (S7.out.more (by omega)) G7.out
          have h2 : ¬ c = 1 := by omega
          have h3 : ¬ c - 1 = 0 := by omega
          go_wp2
          go_ret
          exact HR.out
      · have g0 : (d == 0) = false := by simp; omega
        have g1 : (d == 1) = false := by simp; omega
        have g2 : (d == 2) = false := by simp; omega
        have HR : Hid (DrawnC B g (K + 300) w (.returned (.slice (some ⟨b, 0, none⟩) i c)) w7) := drawnC_of hst.2 ROWS.out (S7.out.more (by omega)) G7.out
        go_wp2
        go_ret
        exact HR.out
end Go.Proofs.Ytabopjdcpllocaa
