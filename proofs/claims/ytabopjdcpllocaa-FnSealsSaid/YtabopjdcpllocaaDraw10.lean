/-
  The draws of SendCarriers and of moves.
-/
import Derived.Test.YtabopjdcpllocaaDraw9
namespace Go.Proofs.Ytabopjdcpllocaa
open Go.RowKit

/-- A stock and a move as they are drawn. -/
def GivesSM (w : World) (e : Ending) (w' : World) : Prop :=
  ∃ (l : List Int) (a n c : Nat) (t : TMove), e = .returned (.tuple #[.slice (some ⟨a, 0, none⟩) n c, .agg #[.int .i64 t.1, .int .i64 t.2.1, .int .i64 t.2.2]]) ∧ Hid (l.length = n) ∧ n ≤ 11 ∧ Hid (∀ k ∈ l, (Lit.int .i64 k).wf = true) ∧ wfMove t ∧ Below w.heap.size w w' ∧ RI w' (some ⟨a, 0, none⟩) l

set_option maxRecDepth 100000 in
set_option maxHeartbeats 4000000 in
theorem drawSendCarriers_any (a : Option Addr) (n c : Nat) (w : World) (hc : CodeIn w.heap.size a n w) (h1 : n ≤ 4096) : Calls Try.prog 29 #[.slice a n c] w (GivesSM w) := by
  have HB0 : Hid (Below w.heap.size w (w.alloc (.cells #[.int .i64 0, .int .i64 0, .int .i64 0] 44))) := (by repeat (first | exact Below.refl _ _ | refine Below.alloc ?_ (by simp; try omega) _ | refine Below.setCell ?_ (by simp; try omega) _))
  have FR := from_any a n c _ (hc.later HB0.out) h1
  clear hc
  go_enter Try.func29, Try.ntmps29
  go_wp2_with fail
  refine FR.mono ?_
  rintro e w1 ⟨g, rfl, hs1, hb1⟩
  have hgw : w.heap.size + 1 ≤ g := by have := hs1.1; simp at this; omega
  have hgl := hs1.lt
  have R1 := (hb1.block w.heap.size (by simp)).trans (heap_alloc_new w _)
  have B1 := Lib.hid (two_worlds HB0.out hb1)
  clear hb1 FR
  go_wp2_with fail
  refine (drawStock_any _ g 0 _ (by omega) hs1).mono ?_
  rintro e w2 ⟨l, b, m, cb, rfl, hm, hm11, hwf, hs2, hg2, ho2⟩
  have R2 := heap_src R1 hg2 (by omega)
  have B2 := Lib.hid (B1.out.grown hg2 B1.out.size (fun k hk => by injection hk with hk; omega))
  clear R1 hg2 hs1
  go_wp2_with fail
  refine (drawMove_any _ g _ m (by omega) _ (by omega) hs2).mono ?_
  rintro e w3 ⟨f, t, x, rfl, hwm, hf0, hf1, hs3, hg3⟩
  have R3 := heap_src R2 hg3 (by omega)
  have B3 := Lib.hid (B2.out.grown hg3 B2.out.size (fun k hk => by injection hk with hk; omega))
  have O3 := own_src ho2 hg3 (lo := w1.heap.size) (by omega)
  obtain ⟨r0, r1, r2, y0, y1, y2⟩ := cells3 R3
  have hw13 := B1.out.size
  have hb0 := (O3.lt b rfl).1
  have hws : w.heap.size < w1.heap.size := by omega
  have HR : Hid (∀ W, W = (((w3.setCell ⟨w.heap.size, 0, none⟩ (.int .i64 f)).setCell ⟨w.heap.size, 1, none⟩ (.int .i64 t)).setCell ⟨w.heap.size, 2, none⟩ (.int .i64 x)) → GivesSM w (.returned (.tuple #[.slice (some ⟨b, 0, none⟩) m cb, .agg #[.int .i64 f, .int .i64 t, .int .i64 x]])) W) := by
    rintro W rfl
    refine ⟨l, b, m, cb, (f, t, x), rfl, hm, hm11, hwf, hwm, ((B3.out.setCell (Nat.le_refl _) _).setCell (Nat.le_refl _) _).setCell (Nat.le_refl _) _, ?_⟩
    have hne : ∀ k, (Value.slice (some ⟨b, 0, none⟩) m cb).ownBlock = some k → k ≠ w.heap.size := fun k hk => by simp [Value.ownBlock] at hk; omega
    exact rowI_RI hm (own_set (own_set (own_set O3 hne _ _) hne _ _) hne _ _)
  clear R2 R3 hs2 hs3 hg3 ho2 O3
  go_wp2
  exact bodyPost_ret (v := .tuple #[.slice (some ⟨b, 0, none⟩) m cb, .agg #[.int .i64 f, .int .i64 t, .int .i64 x]]) (by simp [results, Try.results29, go_sem, *]) rfl (HR.out _ rfl)

theorem info44d : (Try.prog.info? 44).map (fun i => (i.zero, i.size, i.bytes)) = some (some (.agg #[.int .i64 0, .int .i64 0, .int .i64 0]), 3, 24) := by kernel_rfl
def wfMoves (ts : List TMove) : Prop := ∀ t ∈ ts, wfMove t
theorem wfMoves_add {ts : List TMove} {t : TMove} (h : wfMoves ts) (ht : wfMove t) : wfMoves (ts ++ [t]) := fun z hz => by
  rcases List.mem_append.1 hz with hz | hz
  · exact h z hz
  · simp at hz; subst hz; exact ht
theorem tmod_bd {f n : Int} (h0 : 0 ≤ f) (h1 : f ≤ 65535) (hn : 0 < n) : 0 ≤ (f + 1) % n ∧ (f + 1) % n ≤ 65536 := by
  exact ⟨Int.emod_nonneg _ (by omega), mod_most (by omega) (by omega) hn⟩

set_option maxRecDepth 100000 in
set_option maxHeartbeats 8000000 in
theorem drawMoves_any (B g K st : Nat) (hst : st ≤ 11) (w : World) (hK : K < 10000) (h : Src B g K w) :
    Calls Try.prog 63 #[.pointer (some ⟨g, 0, none⟩), .int .i64 (st : Int)] w (DrawnRs 44 3 cMove B g (K + 500) 41 wfMoves w) := by
  have HI : Hid (∃ i0 : TypeInfo, Try.prog.info? 44 = some i0 ∧ i0.zero = some (.agg #[.int .i64 0, .int .i64 0, .int .i64 0]) ∧ i0.size = 3 ∧ i0.bytes = 24) := info_parts info44d
  have hgl := h.lt
  go_enter Try.func63, Try.ntmps63
  go_wp2_with fail
  refine (pick_any B g K 6 (by omega) _ (by omega) (h.below (by repeat (first | exact Below.refl _ _ | refine Below.alloc ?_ (by simp; try omega) _ | refine Below.setCell ?_ (by simp; try omega) _)))).mono ?_
  rintro e w1 ⟨x1, rfl, ⟨hx0, hx1, hx2⟩, hs1, hg1⟩
  have hxN : x1 ≤ 5 := by omega
  obtain ⟨N, rfl⟩ : ∃ N : Nat, x1 = N := ⟨x1.toNat, by omega⟩
  have hN : N ≤ 5 := by omega
  have G1 := Lib.hid (gb_trans (gb_alloc (grown_refl w (some g)) (.cells #[] 44)) hg1)
  have O1 : Hid (w1.ownsRow w.heap.size 44 3 (.slice (some ⟨w.heap.size, 0, none⟩) 0 0) 0 []) := own_src (World.ownsRow_made w #[] 0 (Nat.le_refl _) (by unfold maxLen; omega) rfl) hg1 hgl
  clear hg1 hx0 hx1 hx2 h hxN
  go_upto_if 13 with (go_at_call 61; refine (one_any B g (K + 2) 20 (by omega) _ (by omega) hs1).mono ?_; rintro e w4 ⟨bo, rfl, hs4, hg4⟩)
  have G4 := Lib.hid (gb_trans G1.out hg4)
  have O4 := Lib.hid (own_src O1.out hg4 hgl)
  have S4 := Lib.hid hs4
  clear hs4 hg4 hs1 G1 O1
  go_cut [6] (fun q wx => ∃ nn : Nat, q = .int .i64 (nn : Int) ∧ nn ≤ 41 ∧ Hid (Src B g (K + 6) wx) ∧ Hid (w.grownBy wx (some g)) ∧ Hid (wx.ownsRow w.heap.size 44 3 (.slice (some ⟨w.heap.size, 0, none⟩) 0 0) 0 []))
  case first =>
    cases bo with
    | false =>
      go_wp2_with fail
      go_meet
      exact ⟨N, rfl, by omega, S4.out.more (by omega), G4, O4⟩
    | true =>
      go_wp2_with fail
      refine (pick_any B g _ 2 (by omega) _ (by omega) S4.out).mono ?_
      rintro e w5 ⟨x5, rfl, ⟨hx5a, hx5b, hx5c⟩, hs5, hg5⟩
      have hx5 : x5 ≤ 1 := by omega
      clear hx5b hx5c
      obtain ⟨nn, rfl⟩ : ∃ nn : Nat, x5 = nn := ⟨x5.toNat, by omega⟩
      have G5 := Lib.hid (gb_trans G4.out hg5)
      have O5 := Lib.hid (own_src O4.out hg5 hgl)
      have S5 : Hid (Src B g (K + 6) w5) := hs5.more (by omega)
      clear hs5 hg5
      go_wp2_with fail
      go_meet
      exact ⟨40 + nn, by go_num, by omega, S5, G5, O5⟩
  case rest =>
    obtain ⟨nn, rfl, hnn, S5, G5, O5⟩ := hcut
    generalize wc = w5 at *
    clear G4 O4 S4
    go_wp2
    go_loopw [5, 7] (fun q kv wr => ∃ (k m b c : Nat) (ts : List TMove), k + m = nn ∧ kv = .int .i64 (k : Int) ∧ q = .slice (some ⟨b, 0, none⟩) m c ∧ Hid (ts.length = m) ∧ Hid (wfMoves ts) ∧ Hid (Src B g (K + 6 + 10 * m) wr) ∧ Hid (w.grownBy wr (some g)) ∧ Hid (wr.ownsRow w.heap.size 44 3 (.slice (some ⟨b, 0, none⟩) m c) m (ts.flatMap cMove))) (fun _ kv _ => (intOf kv).toNat)
    case atStart => exact ⟨nn, 0, _, _, [], by omega, rfl, rfl, rfl, fun x hx => by simp at hx, S5, G5, O5⟩
    case round =>
      obtain ⟨k, m, b, c, ts, hkm, rfl, rfl, HN, HZ, HS6, HG6, HO6⟩ := hrel
      have hbw := HO6.out.lt b rfl
      by_cases hk : 0 < k
      · have hk0 : (0 : Int) < (k : Int) := by omega
        go_wp2_with fail
        refine (drawMove_any B g (K + 6 + 10 * m) st hst _ (by omega) HS6.out).mono ?_
        rintro e w6 ⟨f, t, x, rfl, hwm, hf0, hf1, hs6, hg6⟩
        have G6 := Lib.hid (gb_trans HG6.out hg6)
        have O6 := Lib.hid (own_src HO6.out hg6 hgl)
        have S6 : Hid (Src B g (K + 6 + 10 * (m + 1)) w6) := hs6.more (by omega)
        have hz6 := G6.out.size
        have hb6 := (O6.out.lt b rfl).2
        have HGE : Hid (∀ q, (Value.slice (some ⟨b, 0, none⟩) m c).ownBlock = some q → w.heap.size ≤ q) := fun q hq => (O6.out.lt q hq).1
        clear hs6 hg6 HS6 HG6 HO6
        rcases eq_ways f t with ⟨⟨e1, e2⟩, e3⟩ | ⟨⟨e1, e2⟩, e3⟩
        · have htb := tmod_bd hf0 hf1 (n := max 1 (st : Int)) (by omega)
          have htw : (Lit.int .i64 (((f + 1) % max 1 (st : Int)))).wf = true := wf_i64 (by omega) (by omega)
          have MX := fun W => max_any 1 (st : Int) W
          have hmx0 : 0 < max 1 (st : Int) := by omega
          generalize max 1 (st : Int) = mx at MX htb htw hmx0
          have HWM : Hid (wfMove (f, (f + 1) % mx, x)) := ⟨hwm.1, htw, hwm.2.2⟩
          have c0 : (w6.alloc (.cells #[.int .i64 f, .int .i64 t, .int .i64 x] 44)).drew.cell? ⟨w6.heap.size, 0, none⟩ = some (.int .i64 f) := by simp [go_sem]
          have hwr : IntKind.i64.wrap (f + 1) = f + 1 := IntWalk.i64_in _ (by omega)
          have hmxn : ¬ mx = 0 := by omega
          have hmxb : (mx == 0) = false := by simp; omega
          have htm : Int.tmod (f + 1) mx = (f + 1) % mx := Int.tmod_eq_emod_of_nonneg (by omega)
          have hwt : IntKind.i64.wrap ((f + 1) % mx) = (f + 1) % mx := IntWalk.i64_in _ (by omega)
          clear e3
          go_wp2_with fail
          go_region_held3 (fun w' => w'.cell? ⟨w6.heap.size, 0, none⟩ = some (.int .i64 f)) (first | exact c0 | (simp [go_sem]; done)) (first | (go_at_call 73; refine (MX _).mono ?_; rintro e w' ⟨rfl, rfl⟩))
          all_goals
            clear htm hwt
            generalize hvv : (f + 1) % mx = v at HWM ⊢
            clear hvv
            have Q7 : (w6.alloc (.cells #[.int .i64 f, .int .i64 v, .int .i64 x] 44)).drew.heap[w6.heap.size]? = some (.cells #[.int .i64 f, .int .i64 v, .int .i64 x] 44 (0, 0)) := heap_alloc_new w6 _
            have S7 : Hid (Src B g (K + 6 + 10 * (m + 1)) (w6.alloc (.cells #[.int .i64 f, .int .i64 v, .int .i64 x] 44)).drew) := S6.out.below (by (repeat (first | exact Below.refl _ _ | refine Below.drew ?_ | refine Below.drewN' ?_ _ | refine Below.alloc ?_ (by first | (simp; done) | (simp; omega)) _ | refine Below.setCell ?_ (by first | (simp; done) | (simp; omega)) _)); done)
            have G7 : Hid (w.grownBy (w6.alloc (.cells #[.int .i64 f, .int .i64 v, .int .i64 x] 44)).drew (some g)) := gb_drewN (gb_alloc G6.out _) 1
            have O7 : Hid ((w6.alloc (.cells #[.int .i64 f, .int .i64 v, .int .i64 x] 44)).drew.ownsRow w.heap.size 44 3 (.slice (some ⟨b, 0, none⟩) m c) m (ts.flatMap cMove)) := World.ownsRow.alloc O6.out _
            generalize (w6.alloc (.cells #[.int .i64 f, .int .i64 v, .int .i64 x] 44)).drew = w7 at Q7 S7 G7 O7
            have hz7 := G7.out.size
            obtain ⟨d0, d1, d2, _, _, _⟩ := cells3 Q7
            have HOX := Lib.hid (World.ownsRow.alloc O7.out (.cells #[.int .i64 f, .int .i64 v, .int .i64 x] 44))
            clear Q7 c0 htb htw
            go_wp2_with (first | (at_builtin; refine wpList_append_lies _ rfl _ _ 48 rfl w.heap.size 44 HI.out.choose (.agg #[.int .i64 0, .int .i64 0, .int .i64 0]) 3 24 Try.underlying48 HI.out.choose_spec.1 HI.out.choose_spec.2.1 HI.out.choose_spec.2.2.1 HI.out.choose_spec.2.2.2 rfl (by decide) (.slice (some ⟨b, 0, none⟩) m c) m (ts.flatMap cMove) rfl HOX.out ⟨w7.heap.size, 0, none⟩ 1 1 [.int .i64 f, .int .i64 v, .int .i64 x] rfl rfl (World.news_of_block (heap_alloc_new w7 _)) (by intro u hu; simp at hu; rcases hu with rfl | rfl | rfl <;> rfl) (by omega) (by unfold maxLen; omega) (by omega) (by simp; omega) _ rfl ?_))
            intro g8 cap8 w8 hown8 hgrow8 hat8 hlt8
            have G8 : Hid (w.grownBy w8 (some g)) := gb_own (gb_alloc G7.out _) hgrow8 HGE.out
            have S8 : Hid (Src B g (K + 6 + 10 * (m + 1)) w8) := (S7.out.alloc _).own hgrow8 HGE.out hgl
            have X8 : Hid (w8.ownsRow w.heap.size 44 3 (.slice (some ⟨g8, 0, none⟩) (m + 1) cap8) (m + 1) ((ts ++ [(f, v, x)]).flatMap cMove)) := by
              unfold Hid; rw [List.flatMap_append]; exact hown8
            have N8 : Hid ((ts ++ [(f, v, x)]).length = m + 1) := by unfold Hid; rw [List.length_append, HN.out]; rfl
            have Z8 := Lib.hid (wfMoves_add HZ.out HWM.out)
            clear hown8 hgrow8 hat8 hlt8
            go_wp2
            go_roundw
            case rel => exact ⟨k - 1, m + 1, g8, cap8, ts ++ [(f, v, x)], by omega, by congr 1; omega, rfl, N8, Z8, S8, G8, X8⟩
            case measure => simp [intOf]; omega
        · have HWM : Hid (wfMove (f, t, x)) := hwm
          have HOX := Lib.hid (World.ownsRow.alloc (World.ownsRow.alloc O6.out (.cells #[.int .i64 f, .int .i64 t, .int .i64 x] 44)) (.cells #[.int .i64 f, .int .i64 t, .int .i64 x] 44))
          clear e3
          go_wp2_with (first | (at_builtin; refine wpList_append_lies _ rfl _ _ 48 rfl w.heap.size 44 HI.out.choose (.agg #[.int .i64 0, .int .i64 0, .int .i64 0]) 3 24 Try.underlying48 HI.out.choose_spec.1 HI.out.choose_spec.2.1 HI.out.choose_spec.2.2.1 HI.out.choose_spec.2.2.2 rfl (by decide) (.slice (some ⟨b, 0, none⟩) m c) m (ts.flatMap cMove) rfl HOX.out ⟨w6.heap.size + 1, 0, none⟩ 1 1 [.int .i64 f, .int .i64 t, .int .i64 x] rfl rfl (World.news_of_block (heap_alloc_at _ _ _ (by simp))) (by intro u hu; simp at hu; rcases hu with rfl | rfl | rfl <;> rfl) (by omega) (by unfold maxLen; omega) (by omega) (by simp; omega) _ rfl ?_))
          intro g8 cap8 w8 hown8 hgrow8 hat8 hlt8
          have G8 : Hid (w.grownBy w8 (some g)) := gb_own (gb_alloc (gb_alloc G6.out _) _) hgrow8 HGE.out
          have S8 : Hid (Src B g (K + 6 + 10 * (m + 1)) w8) := ((S6.out.alloc _).alloc _).own hgrow8 HGE.out hgl
          have X8 : Hid (w8.ownsRow w.heap.size 44 3 (.slice (some ⟨g8, 0, none⟩) (m + 1) cap8) (m + 1) ((ts ++ [(f, t, x)]).flatMap cMove)) := by
            unfold Hid; rw [List.flatMap_append]; exact hown8
          have N8 : Hid ((ts ++ [(f, t, x)]).length = m + 1) := by unfold Hid; rw [List.length_append, HN.out]; rfl
          have Z8 := Lib.hid (wfMoves_add HZ.out HWM.out)
          clear hown8 hgrow8 hat8 hlt8
          go_wp2
          go_roundw
          case rel => exact ⟨k - 1, m + 1, g8, cap8, ts ++ [(f, t, x)], by omega, by congr 1; omega, rfl, N8, Z8, S8, G8, X8⟩
          case measure => simp [intOf]; omega
      · have hk' : k = 0 := by omega
        subst hk'
        have HR : Hid (DrawnRs 44 3 cMove B g (K + 500) 41 wfMoves w (.returned (.slice (some ⟨b, 0, none⟩) m c)) wr) := ⟨ts, b, m, c, rfl, HN, by omega, HZ, HS6.out.more (by omega), HG6.out, HO6.out⟩
        go_wp2
        go_ret
        exact HR.out
end Go.Proofs.Ytabopjdcpllocaa
