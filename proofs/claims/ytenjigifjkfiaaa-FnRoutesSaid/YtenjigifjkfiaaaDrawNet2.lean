/-
  The draw of a network.
-/
import Derived.Test.YtenjigifjkfiaaaDrawNet
import Derived.Deep.RegionLaw
import Derived.Lib.Hide
import Derived.Deep.AppendLies
import Derived.Deep.DeepCutAuto
namespace Go.Proofs.Ytenjigifjkfiaaa
open Go.RowKit

def fl3 (ts : List T3) : List Value := ts.flatMap fun t => [.int .i64 t.1, .int .i64 t.2.1, .int .i64 t.2.2]
theorem infoTube : (Try.prog.info? 36).map (fun i => (i.zero, i.size, i.bytes)) = some (some (.agg #[.int .i64 0, .int .i64 0, .int .i64 0]), 3, 24) := by kernel_rfl
/-- The network that is being drawn: in block q, its result in block r. -/
structure NetAt (B g K lo q r : Nat) (st : Int) (w0 : World) (ao : Option Addr) (m c : Nat) (ts : List T3) (w : World) : Prop where
  len : ts.length = m
  ok : ∀ t ∈ ts, tubeB st t = true
  src : Src B g K w
  grown : w0.grownBy w (some g)
  at_ : w.heap[q]? = some (.cells #[.int .i64 st, .slice ao m c] 26 (0, 0))
  res : w.heap[r]? = some (.cells #[.int .i64 0, .slice none 0 0] 26 (0, 0))
  own : w.ownsRow lo 36 3 (.slice ao m c) m (fl3 ts)
/-- A network as it is drawn. -/
def DrawnNet (B g K : Nat) (w : World) (e : Ending) (w' : World) : Prop :=
  ∃ (s : Int) (ts : List T3) (ao : Option Addr) (m c : Nat), e = .returned (.agg #[.int .i64 s, .slice ao m c]) ∧ netB s ts = true ∧ Hid (ts.length = m) ∧ m ≤ 14 ∧ Src B g K w' ∧ w.grownBy w' (some g) ∧ w'.ownsRow w.heap.size 36 3 (.slice ao m c) m (fl3 ts)

theorem ownn_src {w w' : World} {lo : Nat} {e : TypeId} {size n g : Nat} {v : Value} {xs : List Value} (h : w.ownsRow lo e size v n xs) (hg : w.grownBy w' (some g)) (hlo : g < lo) : w'.ownsRow lo e size v n xs :=
  h.kept hg (by
    cases hv : v.ownBlock with
    | none => exact .inl rfl
    | some k => have := (h.lt k hv).1; exact .inr (by simp; omega))
theorem ownn_set {w : World} {lo : Nat} {e : TypeId} {size n : Nat} {v : Value} {xs : List Value} {q : Nat} (h : w.ownsRow lo e size v n xs) (hlo : q < lo) (o : Nat) (u : Value) : (w.setCell ⟨q, o, none⟩ u).ownsRow lo e size v n xs :=
  h.kept (grown_setCell (grown_refl w (some q)) u) (by
    cases hv : v.ownBlock with
    | none => exact .inl rfl
    | some k => have := (h.lt k hv).1; exact .inr (by simp; omega))
theorem ownn_low {w : World} {lo lo' : Nat} {e : TypeId} {size n : Nat} {v : Value} {xs : List Value} (h : w.ownsRow lo e size v n xs) (hl : lo' ≤ lo) : w.ownsRow lo' e size v n xs := by
  refine ⟨h.1, ?_⟩
  rcases h.2 with h2 | ⟨g, cap, cur, hv, hg, r⟩
  · exact .inl h2
  · exact .inr ⟨g, cap, cur, hv, by omega, r⟩
theorem NetAt.step {B g K lo q r : Nat} {st : Int} {w0 : World} {ao : Option Addr} {m c : Nat} {ts : List T3} {w w' : World} {L : Nat} (h : NetAt B g K lo q r st w0 ao m c ts w) (hgq : g < lo) (hqg : q ≠ g) (hrg : r ≠ g) (hs : Src B g L w') (hg : w.grownBy w' (some g)) : NetAt B g L lo q r st w0 ao m c ts w' :=
  ⟨h.len, h.ok, hs, gb_trans h.grown hg, heapn_src h.at_ hg hqg, heapn_src h.res hg hrg, ownn_src h.own hg hgq⟩
theorem NetAt.more {B g K lo q r : Nat} {st : Int} {w0 : World} {ao : Option Addr} {m c : Nat} {ts : List T3} {w : World} {L : Nat} (h : NetAt B g K lo q r st w0 ao m c ts w) (hl : K ≤ L) : NetAt B g L lo q r st w0 ao m c ts w :=
  ⟨h.len, h.ok, h.src.more hl, h.grown, h.at_, h.res, h.own⟩
/-- What an append of a tube leaves to be stored: the network in block q, one tube longer. -/
theorem NetAt.put {B g K lo q r : Nat} {st : Int} {w0 : World} {ao : Option Addr} {m c : Nat} {ts : List T3} {w : World} (h : NetAt B g K lo q r st w0 ao m c ts w) (hgq : g < lo) (hq : q < lo) (hr : r < lo) (hqr : r ≠ q) (hw0 : w0.heap.size ≤ q) (hgq2 : g < q)
    {w3 : World} {L : Nat} (hs3 : Src B g L w3) (hg3 : w.grownBy w3 (some g)) (hqg : q ≠ g) (hrg : r ≠ g) {t : T3} (ht : tubeB st t = true) (o : Obj) {g2 cap : Nat} {w5 : World}
    (hown : w5.ownsRow lo 36 3 (.slice (some ⟨g2, 0, none⟩) (m + 1) cap) (m + 1) (fl3 ts ++ [.int .i64 t.1, .int .i64 t.2.1, .int .i64 t.2.2])) (hgrow : (w3.alloc o).grownBy w5 (Value.slice ao m c).ownBlock) :
    w5.cell? ⟨q, 1, none⟩ = some (.slice ao m c) ∧ w5.frozen? ⟨q, 1, none⟩ = false ∧ NetAt B g L lo q r st w0 (some ⟨g2, 0, none⟩) (m + 1) cap (ts ++ [t]) (w5.setCell ⟨q, 1, none⟩ (.slice (some ⟨g2, 0, none⟩) (m + 1) cap)) := by
  have hlt : ∀ k, (Value.slice ao m c).ownBlock = some k → lo ≤ k := fun k hk => (h.own.lt k hk).1
  have Q3 := heapn_src h.at_ hg3 hqg
  have R3 := heapn_src h.res hg3 hrg
  have Q3a := (Below.heap_alloc w3 o q (Array.getElem?_eq_some_iff.1 Q3).1).trans Q3
  have R3a := (Below.heap_alloc w3 o r (Array.getElem?_eq_some_iff.1 R3).1).trans R3
  have Q5 := (hgrow.block q (Array.getElem?_eq_some_iff.1 Q3a).1 (fun e => by have := hlt q e.symm; omega)).trans Q3a
  have R5 := (hgrow.block r (Array.getElem?_eq_some_iff.1 R3a).1 (fun e => by have := hlt r e.symm; omega)).trans R3a
  refine ⟨by rw [cell_of_row w5 q 1 _ _ _ Q5]; rfl, frozen_of_row w5 q 1 _ _ Q5, ?_⟩
  exact ⟨by rw [List.length_append, h.len]; rfl, fun z hz => by
      rcases List.mem_append.1 hz with hz | hz
      · exact h.ok z hz
      · simp at hz; subst hz; exact ht,
    srcn_set (srcn_own (srcn_alloc hs3 o) hgrow hlt hgq) hgq2 _ _,
    gbn_set (gbn_own (gbn_alloc (gb_trans h.grown hg3) o) hgrow (fun k hk => by have := hlt k hk; omega)) hw0 _ _,
    heap_setCell_same _ _ 1 _ _ _ Q5, heapn_other R5 hqr,
    ownn_set (by unfold fl3 at hown ⊢; rw [List.flatMap_append]; exact hown) hq _ _⟩

set_option maxRecDepth 100000 in
set_option maxHeartbeats 8000000 in
theorem drawNet_any (B g K : Nat) (w : World) (hK : K < 10000) (h : Src B g K w) :
    Calls Try.prog 39 #[.pointer (some ⟨g, 0, none⟩)] w (DrawnNet B g (K + 200) w) := by
  have HI : Hid (∃ i0 : TypeInfo, Try.prog.info? 36 = some i0 ∧ i0.zero = some (.agg #[.int .i64 0, .int .i64 0, .int .i64 0]) ∧ i0.size = 3 ∧ i0.bytes = 24) := info_parts infoTube
  have hgl := h.lt
  go_enter Try.func39, Try.ntmps39
  go_wp2_with fail
  refine (pick_any B g K 5 (by omega) _ (by omega) (srcn_alloc h _)).mono ?_
  rintro e w1 ⟨x, rfl, ⟨hx0, hx1, hx2⟩, hs1, hg1⟩
  have hx5 : x ≤ 4 := by omega
  have R1 := heapn_src (heap_alloc_new w _) hg1 (by omega)
  have G1 := gb_trans (gbn_alloc (grown_refl w (some g)) _) hg1
  have hz1 := G1.size
  have hrl : w.heap.size < w1.heap.size := (Array.getElem?_eq_some_iff.1 R1).1
  have N1 : Hid (NetAt B g (K + 2) (w1.heap.size + 1) w1.heap.size w.heap.size (2 + x) w none 0 0 [] (w1.alloc (.cells #[.int .i64 (2 + x), .slice none 0 0] 26))) := ⟨rfl, fun t ht => by simp at ht, srcn_alloc hs1 _, gbn_alloc G1 _, heap_alloc_new w1 _, (Below.heap_alloc _ _ _ hrl).trans R1, World.ownsRow_nil _ _ _ _⟩
  go_wp2_with fail
  generalize hst : 2 + x = st at N1 ⊢
  have hst2 : 2 ≤ st := by omega
  have hst6 : st ≤ 6 := by omega
  clear R1 G1 hg1 hs1 h hst hx0 hx1 hx2 hx5
  have S1 := Lib.hid N1.out.src
  go_upto_if 11 with (go_at_call 65; refine (one_any B g (K + 2) 2 (by omega) _ (by omega) S1.out).mono ?_; rintro e w2 ⟨bo, rfl, hs2, hg2⟩)
  have N2 : Hid (NetAt B g (K + 4) (w1.heap.size + 1) w1.heap.size w.heap.size st w none 0 0 [] w2) := NetAt.step N1.out (by omega) (by omega) (by omega) hs2 hg2
  clear hs2 hg2 S1 N1
  go_cut [4] (fun _ wx => ∃ (m c : Nat) (ao : Option Addr) (ts : List T3), m ≤ 6 ∧ Hid (NetAt B g (K + 30) (w1.heap.size + 1) w1.heap.size w.heap.size st w ao m c ts wx))
  case first =>
   cases bo with
   | false =>
    go_wp2
    go_meet
    exact ⟨0, 0, none, [], by omega, N2.out.more (by omega)⟩
   | true =>
    go_wp2
    go_loopw [4] (fun iv wr => ∃ (i c : Nat) (ao : Option Addr) (ts : List T3), (i : Int) ≤ st ∧ iv = .int .i64 (i : Int) ∧ Hid (NetAt B g (K + 4 + 4 * i) (w1.heap.size + 1) w1.heap.size w.heap.size st w ao i c ts wr)) (fun iv _ => st.toNat - (intOf iv).toNat)
    case atStart => exact ⟨0, 0, none, [], by omega, rfl, N2⟩
    case round =>
      obtain ⟨i, c, ao, ts, hi, rfl, HN⟩ := hrel
      have y0 : wr.cell? ⟨w1.heap.size, 0, none⟩ = some (.int .i64 st) := by rw [cell_of_row wr _ 0 _ _ _ HN.out.at_]; rfl
      have y1 : wr.cell? ⟨w1.heap.size, 1, none⟩ = some (.slice ao i c) := by rw [cell_of_row wr _ 1 _ _ _ HN.out.at_]; rfl
      by_cases hlt : (i : Int) < st
      · have hw1 : IntKind.i64.wrap ((i : Int) + 1) = (i : Int) + 1 := IntWalk.i64_in _ (by omega)
        have hn0 : ¬ st = 0 := by omega
        have hnb : (st == 0) = false := by simp; omega
        have htm : Int.tmod ((i : Int) + 1) st = ((i : Int) + 1) % st := Int.tmod_eq_emod_of_nonneg (by omega)
        have hb0 := Int.emod_nonneg ((i : Int) + 1) hn0
        have hb1 := Int.emod_lt_of_pos ((i : Int) + 1) (show 0 < st by omega)
        have hwt : IntKind.i64.wrap (((i : Int) + 1) % st) = ((i : Int) + 1) % st := IntWalk.i64_in _ (by omega)
        have SD : Hid (Src B g (K + 4 + 4 * i) wr.drew) := HN.out.src.below (Below.refl _ _).drew
        go_wp2_with fail
        have HTB : Hid (∀ u : Int, 0 ≤ u → u ≤ 19 → tubeB st ((i : Int), ((i : Int) + 1) % st, 10 * (1 + u)) = true) := fun u h0 h1 => by
          have hne := step_apart (f := (i : Int)) (u := 0) (st := st) (by omega) hlt (by omega) (by omega)
          rw [show (i : Int) + 1 + 0 = (i : Int) + 1 by omega] at hne
          unfold tubeB
          exact decide_eq_true (by simp only; omega)
        have HOX : Hid (∀ w3 o, wr.drew.grownBy w3 (some g) → (w3.alloc o).ownsRow (w1.heap.size + 1) 36 3 (.slice ao i c) i (fl3 ts)) := fun w3 o hg => World.ownsRow.alloc (ownn_src (w := wr.drew) (HN.out.own) hg (by omega)) o
        have HSZ : Hid (∀ w3, wr.drew.grownBy w3 (some g) → w1.heap.size + 1 ≤ w3.heap.size) := fun w3 hg => by
          have h1 := (Array.getElem?_eq_some_iff.1 HN.out.at_).1
          have h2 : wr.heap.size ≤ w3.heap.size := hg.size
          omega
        generalize hvv : ((i : Int) + 1) % st = v at hb0 hb1 htm hwt HTB
        clear hvv
        go_region_law (first | (refine step_append_lies _ (by rfl) _ _ 24 (by rfl) (w1.heap.size + 1) 36 HI.out.choose (.agg #[.int .i64 0, .int .i64 0, .int .i64 0]) 3 24 Try.underlying24 HI.out.choose_spec.1 HI.out.choose_spec.2.1 HI.out.choose_spec.2.2.1 HI.out.choose_spec.2.2.2 rfl (by decide) (.slice ao i c) i (fl3 ts) (by rfl) (HOX.out _ _ hg3) ⟨w3.heap.size, 0, none⟩ 1 1 [.int .i64 (i : Int), .int .i64 v, .int .i64 (10 * (1 + u))] (by rfl) rfl (World.news_of_block (heap_alloc_new w3 _)) (by intro u hu; simp at hu; rcases hu with rfl | rfl | rfl <;> rfl) (by decide) (by unfold maxLen; omega) (by omega) (by have := HSZ.out _ hg3; simp; omega) _ rfl ?_; intro g2 cap w5 hown1 hgrow hat hlt5; obtain ⟨k1, f1, hN5⟩ := NetAt.put HN.out (by omega) (by omega) (by omega) (by omega) hz1 (by omega) hs3 (show wr.grownBy w3 (some g) from gb_drewN_left 1 hg3) (by omega) (by omega) (HTB.out u hu0 (by omega)) _ hown1 hgrow) | (go_simp; go_at_call 42; refine (pick_any B g _ 20 (by omega) _ (by omega) SD.out).mono ?_; rintro e w3 ⟨u, rfl, ⟨hu0, hu1, hu2⟩, hs3, hg3⟩; have e1 : IntKind.i64.wrap (1 + u) = 1 + u := IntWalk.i64_in _ (by omega); have e2 : IntKind.i64.wrap (10 * (1 + u)) = 10 * (1 + u) := IntWalk.i64_in _ (by omega); have z0 : w3.cell? ⟨w1.heap.size, 0, none⟩ = some (.int .i64 st) := hg3.cell (a := ⟨w1.heap.size, 0, none⟩) (show wr.drew.cell? _ = _ from y0) (by simp; omega); have z1 : w3.cell? ⟨w1.heap.size, 1, none⟩ = some (.slice ao i c) := hg3.cell (a := ⟨w1.heap.size, 1, none⟩) (show wr.drew.cell? _ = _ from y1) (by simp; omega); have za0 : ∀ o, (w3.alloc o).cell? ⟨w1.heap.size, 0, none⟩ = some (.int .i64 st) := fun o => (((Below.refl w3.heap.size w3).alloc (Nat.le_refl _) o).cell (p := ⟨w1.heap.size, 0, none⟩) (World.block_lt_of_cell? _ _ z0)).trans z0; have za1 : ∀ o, (w3.alloc o).cell? ⟨w1.heap.size, 1, none⟩ = some (.slice ao i c) := fun o => (((Below.refl w3.heap.size w3).alloc (Nat.le_refl _) o).cell (p := ⟨w1.heap.size, 1, none⟩) (World.block_lt_of_cell? _ _ z1)).trans z1))
        all_goals
          have HN5 := Lib.hid hN5
          clear hN5 hown1 hgrow hat hlt5 hs3 hg3 k1 f1 z0 z1 za0 za1
          go_wp2
          go_roundw
          case rel => exact ⟨i + 1, cap, _, _, by omega, by go_num, HN5.out.more (by omega)⟩
          case measure => simp [intOf]; omega
      · go_wp2
        go_meet
        exact ⟨i, c, ao, ts, by omega, HN.out.more (by omega)⟩
  case rest =>
    obtain ⟨m0, c0, ao0, ts0, hm6, N5⟩ := hcut
    generalize wc = w5 at *
    clear N2
    have S5 := Lib.hid N5.out.src
    go_wp2_with fail
    refine (pick_any B g (K + 30) 9 (by omega) _ (by omega) S5.out).mono ?_
    rintro e w6 ⟨y, rfl, ⟨hy0, hy1, hy2⟩, hs6, hg6⟩
    have N6 : Hid (NetAt B g (K + 32) (w1.heap.size + 1) w1.heap.size w.heap.size st w ao0 m0 c0 ts0 w6) := NetAt.step N5.out (by omega) (by omega) (by omega) hs6 hg6
    obtain ⟨kk, rfl⟩ : ∃ kk : Nat, y = kk := ⟨y.toNat, by omega⟩
    have hkk : kk ≤ 8 := by omega
    clear hs6 hg6 S5 N5 hy0 hy1 hy2
    go_wp2
    go_loopw [5] (fun iv wr => ∃ (k i c : Nat) (ao : Option Addr) (ts : List T3), k ≤ 8 ∧ i + k ≤ 14 ∧ iv = .int .i64 (k : Int) ∧ Hid (NetAt B g (K + 32 + 6 * (8 - k)) (w1.heap.size + 1) w1.heap.size w.heap.size st w ao i c ts wr)) (fun iv _ => (intOf iv).toNat)
    case atStart => exact ⟨kk, m0, c0, ao0, ts0, hkk, by omega, rfl, N6.out.more (by omega)⟩
    case round =>
      obtain ⟨k, i, c, ao, ts, hk8, hik, rfl, HN⟩ := hrel
      have y0 : wr.cell? ⟨w1.heap.size, 0, none⟩ = some (.int .i64 st) := by rw [cell_of_row wr _ 0 _ _ _ HN.out.at_]; rfl
      have y1 : wr.cell? ⟨w1.heap.size, 1, none⟩ = some (.slice ao i c) := by rw [cell_of_row wr _ 1 _ _ _ HN.out.at_]; rfl
      by_cases hlt : 0 < k
      · have hk0 : (0 : Int) < (k : Int) := by omega
        have SD : Hid (Src B g (K + 32 + 6 * (8 - k)) wr.drew) := HN.out.src.below (Below.refl _ _).drew
        have HOX : Hid (∀ w3 o, wr.drew.grownBy w3 (some g) → (w3.alloc o).ownsRow (w1.heap.size + 1) 36 3 (.slice ao i c) i (fl3 ts)) := fun w3 o hg => World.ownsRow.alloc (ownn_src (w := wr.drew) (HN.out.own) hg (by omega)) o
        have HSZ : Hid (∀ w3, wr.drew.grownBy w3 (some g) → w1.heap.size + 1 ≤ w3.heap.size) := fun w3 hg => by
          have h1 := (Array.getElem?_eq_some_iff.1 HN.out.at_).1
          have h2 : wr.heap.size ≤ w3.heap.size := hg.size
          omega
        go_wp2_with fail
        go_region_law (first | (refine step_append_lies _ (by rfl) _ _ 24 (by rfl) (w1.heap.size + 1) 36 HI.out.choose (.agg #[.int .i64 0, .int .i64 0, .int .i64 0]) 3 24 Try.underlying24 HI.out.choose_spec.1 HI.out.choose_spec.2.1 HI.out.choose_spec.2.2.1 HI.out.choose_spec.2.2.2 rfl (by decide) (.slice ao i c) i (fl3 ts) (by rfl) (HOX.out _ _ hg3) ⟨w3.heap.size, 0, none⟩ 1 1 [.int .i64 f, .int .i64 t, .int .i64 x] (by rfl) rfl (World.news_of_block (heap_alloc_new w3 _)) (by intro u hu; simp at hu; rcases hu with rfl | rfl | rfl <;> rfl) (by decide) (by unfold maxLen; omega) (by omega) (by have := HSZ.out _ hg3; simp; omega) _ rfl ?_; intro g2 cap w5 hown1 hgrow hat hlt5; obtain ⟨k1, f1, hN5⟩ := NetAt.put HN.out (by omega) (by omega) (by omega) (by omega) hz1 (by omega) hs3 (show wr.grownBy w3 (some g) from gb_drewN_left 1 hg3) (by omega) (by omega) htb _ hown1 hgrow) | (go_simp; go_at_call 66; refine (drawTube_any B g _ st hst2 (by omega) _ (by omega) SD.out).mono ?_; rintro e w3 ⟨f, t, x, rfl, htb, hs3, hg3⟩; have z0 : w3.cell? ⟨w1.heap.size, 0, none⟩ = some (.int .i64 st) := hg3.cell (a := ⟨w1.heap.size, 0, none⟩) (show wr.drew.cell? _ = _ from y0) (by simp; omega); have z1 : w3.cell? ⟨w1.heap.size, 1, none⟩ = some (.slice ao i c) := hg3.cell (a := ⟨w1.heap.size, 1, none⟩) (show wr.drew.cell? _ = _ from y1) (by simp; omega); have za0 : ∀ o, (w3.alloc o).cell? ⟨w1.heap.size, 0, none⟩ = some (.int .i64 st) := fun o => (((Below.refl w3.heap.size w3).alloc (Nat.le_refl _) o).cell (p := ⟨w1.heap.size, 0, none⟩) (World.block_lt_of_cell? _ _ z0)).trans z0; have za1 : ∀ o, (w3.alloc o).cell? ⟨w1.heap.size, 1, none⟩ = some (.slice ao i c) := fun o => (((Below.refl w3.heap.size w3).alloc (Nat.le_refl _) o).cell (p := ⟨w1.heap.size, 1, none⟩) (World.block_lt_of_cell? _ _ z1)).trans z1))
        all_goals
          have HN5 := Lib.hid hN5
          clear hN5 hown1 hgrow hat hlt5 hs3 hg3 k1 f1 z0 z1 za0 za1
          go_wp2
          go_roundw
          case rel => exact ⟨k - 1, i + 1, cap, _, _, by omega, by omega, by congr 1; omega, HN5.out.more (by omega)⟩
          case measure => simp [intOf]; omega
      · have hk0 : k = 0 := by omega
        subst hk0
        have r0 : wr.cell? ⟨w.heap.size, 0, none⟩ = some (.int .i64 0) := by rw [cell_of_row wr _ 0 _ _ _ HN.out.res]; rfl
        have r1 : wr.cell? ⟨w.heap.size, 1, none⟩ = some (.slice none 0 0) := by rw [cell_of_row wr _ 1 _ _ _ HN.out.res]; rfl
        have s0 := frozen_of_row wr w.heap.size 0 _ _ HN.out.res
        have s1 := frozen_of_row wr w.heap.size 1 _ _ HN.out.res
        have HR : Hid (∀ W, W = ((wr.setCell ⟨w.heap.size, 0, none⟩ (.int .i64 st)).setCell ⟨w.heap.size, 1, none⟩ (.slice ao i c)) → DrawnNet B g (K + 200) w (.returned (.agg #[.int .i64 st, .slice ao i c])) W) := by
          rintro W rfl
          have hl := HN.out.len
          refine ⟨st, ts, ao, i, c, rfl, netB_good st ts hst2 (by omega) (by omega) (fun k hk => HN.out.ok _ (List.getElem_mem hk)), hl, by omega, (srcn_set (srcn_set HN.out.src hgl _ _) hgl _ _).more (by omega), gbn_set (gbn_set HN.out.grown (Nat.le_refl _) _ _) (Nat.le_refl _) _ _, ownn_low (ownn_set (ownn_set HN.out.own (by omega) _ _) (by omega) _ _) (by omega)⟩
        have hne : w1.heap.size ≠ w.heap.size := by omega
        have hne2 : w.heap.size ≠ w1.heap.size := by omega
        clear N6
        go_wp2
        exact bodyPost_ret (v := .agg #[.int .i64 st, .slice ao i c]) (by simp [results, Try.results39, go_sem, *]) rfl (HR.out _ rfl)
end Go.Proofs.Ytenjigifjkfiaaa
