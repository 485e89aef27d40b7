/-
  The draws of RunCarrier and of SendCarriers.
-/
import Derived.Test.YtabopjdcpllocaaDraw7
import Derived.Test.YtabopjdcpllocaaSendC
import Derived.Test.YtabopjdcpllocaaLaws6
import Derived.Laws.OwnMore
namespace Go.Proofs.Ytabopjdcpllocaa
open Go.RowKit

/-- Seals and a number as they are drawn. -/
def GivesSK (w : World) (e : Ending) (w' : World) : Prop :=
  ∃ (ts : List TSeal) (a n cp : Nat) (k : Int), e = .returned (.tuple #[.slice (some ⟨a, 0, none⟩) n cp, .int .i64 k]) ∧ Hid (ts.length = n) ∧ n ≤ 61 ∧ Hid (wfSeals ts) ∧ (Lit.int .i64 k).wf = true ∧ Below w.heap.size w w' ∧ w'.ownsRow w.heap.size 54 2 (.slice (some ⟨a, 0, none⟩) n cp) n (ts.flatMap cSeal)
theorem quo15 {y : Int} (h0 : 0 ≤ y) (h1 : y ≤ 15) : 0 ≤ Int.tdiv y 15 ∧ Int.tdiv y 15 ≤ 1 := by
  rw [Int.tdiv_eq_ediv_of_nonneg h0]
  omega

set_option maxRecDepth 100000 in
set_option maxHeartbeats 4000000 in
theorem drawRunCarrier_any (a : Option Addr) (n c : Nat) (w : World) (hc : CodeIn w.heap.size a n w) (h1 : n ≤ 4096) : Calls Try.prog 28 #[.slice a n c] w (GivesSK w) := by
  have FR := from_any a n c w hc h1
  clear hc
  go_enter Try.func28, Try.ntmps28
  go_wp2_with fail
  refine FR.mono ?_
  rintro e w1 ⟨g, rfl, hs1, hb1⟩
  have hgw : w.heap.size ≤ g := hs1.1
  have hgl := hs1.lt
  go_wp2_with fail
  refine (drawSeals_any w.heap.size g 0 _ (by omega) hs1).mono ?_
  rintro e w2 ⟨ts, b, m, cb, rfl, hm, hm61, hz, hs2, hg2, ho2⟩
  go_wp2_with fail
  refine (pick_any _ g _ ((m : Int) + 1) (by omega) _ (by omega) hs2).mono ?_
  rintro e w3 ⟨x, rfl, ⟨hx0, hx1, hx2⟩, hs3, hg3⟩
  go_wp2_with fail
  refine (pick_any _ g _ 16 (by omega) _ (by omega) hs3).mono ?_
  rintro e w4 ⟨y, rfl, ⟨hy0, hy1, hy2⟩, hs4, hg4⟩
  have hq := quo15 hy0 (by omega)
  have hg := gb_trans (gb_trans hg2 hg3) hg4
  have HR : Hid (∀ k : Int, -2 ≤ k ∧ k ≤ 70000 → GivesSK w (.returned (.tuple #[.slice (some ⟨b, 0, none⟩) m cb, .int .i64 k])) w4) := fun k hk => ⟨ts, b, m, cb, k, rfl, hm, hm61, hz, wf_i64 (by omega) (by omega), hb1.grown hg hb1.size (fun k hk => by injection hk with hk; omega), own_lo (own_src (own_src ho2 hg3 hgl) hg4 hgl) hb1.size⟩
  clear hm hz hs1 hs2 hs3 hs4 hg2 hg3 hg4 hg ho2 hb1 FR
  go_wp2
  go_ret2
  exact HR.out _ (by omega)

/-- What a draw of numbers leaves. -/
def DrawnLi (B g K N : Nat) (w : World) (e : Ending) (w' : World) : Prop :=
  ∃ (l : List Int) (a n c : Nat), e = .returned (.slice (some ⟨a, 0, none⟩) n c) ∧ Hid (l.length = n) ∧ n ≤ N ∧ Hid (∀ k ∈ l, (Lit.int .i64 k).wf = true) ∧ Src B g K w' ∧ w.grownBy w' (some g) ∧ w'.ownsRow w.heap.size 2 1 (.slice (some ⟨a, 0, none⟩) n c) n (l.map (Value.int .i64))
theorem infoI64d : (Try.prog.info? 2).map (fun i => (i.zero, i.size, i.bytes)) = some (some (.int .i64 0), 1, 8) := by kernel_rfl
theorem made_own (w : World) (lo n : Nat) (hlo : lo ≤ w.heap.size) (hn : n ≤ 1000) : (w.alloc (.cells (madeCells #[.int .i64 0] n) 2)).ownsRow lo 2 1 (.slice (some ⟨w.heap.size, 0, none⟩) n n) n ((List.replicate n (0 : Int)).map (Value.int .i64)) := by
  refine ⟨by simp, .inr ⟨w.heap.size, n, _, rfl, hlo, heap_alloc_new w _, Nat.le_refl _, by unfold maxLen; omega, by rw [size_madeCells]; omega, ?_⟩⟩
  rw [toList_madeCells_one]
  simp
theorem wf_list {l : List Int} {i : Nat} {u : Int} (h : ∀ k ∈ l, 0 ≤ k ∧ k ≤ 65535) (hu : (Lit.int .i64 u).wf = true) : ∀ k ∈ l.set i u, (Lit.int .i64 k).wf = true := by
  intro t ht
  rcases List.mem_or_eq_of_mem_set ht with ht | rfl
  · have := h t ht
    exact wf_i64 (by omega) (by omega)
  · exact hu
theorem sum_small {l : List Int} (h : ∀ k ∈ l, 0 ≤ k ∧ k ≤ 200) (n : Nat) (hn : l.length ≤ n) : 0 ≤ l.sum ∧ l.sum ≤ 200 * (n : Int) := by
  induction l generalizing n with
  | nil => simp; omega
  | cons x l ih =>
    have h1 := h x (by simp)
    have h2 := ih (fun k hk => h k (by simp [hk])) (n - 1) (by simp at hn; omega)
    rw [List.sum_cons]
    have : 1 ≤ n := by simp at hn; omega
    omega

set_option maxRecDepth 100000 in
set_option maxHeartbeats 8000000 in
theorem drawStock_any (B g K : Nat) (w : World) (hK : K < 100000) (h : Src B g K w) :
    Calls Try.prog 50 #[.pointer (some ⟨g, 0, none⟩)] w (DrawnLi B g (K + 40) 11 w) := by
  have HI : Hid (∃ i0 : TypeInfo, Try.prog.info? 2 = some i0 ∧ i0.zero = some (.int .i64 0) ∧ i0.size = 1 ∧ i0.bytes = 8) := info_parts infoI64d
  have hgl := h.lt
  go_enter Try.func50, Try.ntmps50
  go_wp2_with fail
  refine (pick_any B g K 4 (by omega) _ (by omega) (h.below (by repeat (first | exact Below.refl _ _ | refine Below.alloc ?_ (by simp; try omega) _ | refine Below.setCell ?_ (by simp; try omega) _)))).mono ?_
  rintro e w1 ⟨x1, rfl, ⟨hx0, hx1, hx2⟩, hs1, hg1⟩
  have hxN : x1 ≤ 3 := by omega
  obtain ⟨N, rfl⟩ : ∃ N : Nat, x1 = N := ⟨x1.toNat, by omega⟩
  have hN : N ≤ 3 := by omega
  have G1 := Lib.hid (gb_trans (gb_alloc (grown_refl w (some g)) (.cells #[] 2)) hg1)
  have O1 : Hid (w1.ownsRow w.heap.size 2 1 (.slice (some ⟨w.heap.size, 0, none⟩) 0 0) 0 []) := own_src (World.ownsRow_made w #[] 0 (Nat.le_refl _) (by unfold maxLen; omega) rfl) hg1 hgl
  have S1 := Lib.hid hs1
  clear hg1 hx0 hx1 hx2 h hxN hs1
  go_wp2
  go_loopw [3, 4] (fun q kv wr => ∃ (k m b c : Nat) (ts : List Int), k + m = 2 + N ∧ kv = .int .i64 (k : Int) ∧ q = .slice (some ⟨b, 0, none⟩) m c ∧ Hid (ts.length = m) ∧ Hid (∀ t ∈ ts, 0 ≤ t ∧ t ≤ 5) ∧ Hid (Src B g (K + 2 + 2 * m) wr) ∧ Hid (w.grownBy wr (some g)) ∧ Hid (wr.ownsRow w.heap.size 2 1 (.slice (some ⟨b, 0, none⟩) m c) m (ts.map (Value.int .i64)))) (fun _ kv _ => (intOf kv).toNat)
  case atStart => exact ⟨2 + N, 0, _, _, [], by omega, by go_num, rfl, rfl, fun x hx => by simp at hx, S1, G1, O1⟩
  case round =>
    obtain ⟨k, m, b, c, ts, hkm, rfl, rfl, HN, HZ, HS6, HG6, HO6⟩ := hrel
    have hbw := HO6.out.lt b rfl
    by_cases hk : 0 < k
    · have hk0 : (0 : Int) < (k : Int) := by omega
      go_wp2_with fail
      refine (pick_any B g (K + 2 + 2 * m) 6 (by omega) _ (by omega) HS6.out).mono ?_
      rintro e w6 ⟨x, rfl, ⟨hy0, hy1, hy2⟩, hs6, hg6⟩
      have hx0 : 0 ≤ x ∧ x ≤ 5 := by omega
      have G6 := Lib.hid (gb_trans HG6.out hg6)
      have O6 := Lib.hid (own_src HO6.out hg6 hgl)
      have S6 := Lib.hid hs6
      have hz6 := G6.out.size
      have HGE : Hid (∀ q, (Value.slice (some ⟨b, 0, none⟩) m c).ownBlock = some q → w.heap.size ≤ q) := fun q hq => (O6.out.lt q hq).1
      clear hs6 hg6 hy0 hy1 hy2 HS6 HG6 HO6
      go_wp2_with (first | (at_builtin; refine wpList_append_lies _ rfl _ _ 35 rfl w.heap.size 2 HI.out.choose (.int .i64 0) 1 8 Try.underlying35 HI.out.choose_spec.1 HI.out.choose_spec.2.1 HI.out.choose_spec.2.2.1 HI.out.choose_spec.2.2.2 rfl (by decide) (.slice (some ⟨b, 0, none⟩) m c) m (ts.map (Value.int .i64)) rfl (World.ownsRow.alloc O6.out _) ⟨w6.heap.size, 0, none⟩ 1 1 [.int .i64 x] rfl rfl (World.news_of_block (heap_alloc_new w6 _)) (by intro u hu; simp at hu; subst hu; rfl) (by omega) (by unfold maxLen; omega) (by omega) (by simp; omega) _ rfl ?_))
      intro g8 cap8 w8 hown8 hgrow8 hat8 hlt8
      have G8 : Hid (w.grownBy w8 (some g)) := gb_own (gb_alloc G6.out _) hgrow8 HGE.out
      have S8 : Hid (Src B g (K + 2 + 2 * (m + 1)) w8) := ((S6.out.alloc _).own hgrow8 HGE.out hgl).more (by omega)
      have X8 : Hid (w8.ownsRow w.heap.size 2 1 (.slice (some ⟨g8, 0, none⟩) (m + 1) cap8) (m + 1) ((ts ++ [x]).map (Value.int .i64))) := by
        unfold Hid; rw [List.map_append]; exact hown8
      have N8 : Hid ((ts ++ [x]).length = m + 1) := by unfold Hid; rw [List.length_append, HN.out]; rfl
      have Z8 : Hid (∀ t ∈ ts ++ [x], 0 ≤ t ∧ t ≤ 5) := fun z hz => by
        rcases List.mem_append.1 hz with hz | hz
        · exact HZ.out z hz
        · simp at hz; subst hz; exact hx0
      clear hown8 hgrow8 hat8 hlt8 O6 G6 S6
      go_wp2
      go_roundw
      case rel => exact ⟨k - 1, m + 1, g8, cap8, ts ++ [x], by omega, by congr 1; omega, rfl, N8, Z8, S8, G8, X8⟩
      case measure => simp [intOf]; omega
    · have hk' : k = 0 := by omega
      subst hk'
      have hm2 : 2 ≤ m ∧ m ≤ 5 := by omega
      go_wp2_with fail
      refine (pick_any B g _ 20 (by omega) _ (by omega) HS6.out).mono ?_
      rintro e w7 ⟨d, rfl, ⟨hd0, hd1, hd2⟩, hs7, hg7⟩
      have G7 := Lib.hid (gb_trans HG6.out hg7)
      have O7 := Lib.hid (own_src HO6.out hg7 hgl)
      have S7 := Lib.hid hs7
      have hbw7 := O7.out.lt b rfl
      clear hg7 hs7 HG6 HO6 HS6
      rcases (by omega : d = 0 ∨ d = 1 ∨ (¬ d = 0 ∧ ¬ d = 1)) with hd | hd | hd
      · subst hd
        have HTL : Hid ((ts.drop 1).length = m - 1) := by unfold Hid; rw [List.length_drop, HN.out]
        have RT : RI w7 (some ⟨b, 1, none⟩) (ts.drop 1) := .inr ⟨b, 1, rfl, fun i hi => by
          have h2 := ownsRow_cell O7.out (1 + i) (.int .i64 (ts.drop 1)[i]) (by rw [List.getElem_drop]; exact ints_cell ts (1 + i) (by rw [HN.out]; rw [HTL.out] at hi; omega))
          exact h2⟩
        have hsm : smallL (ts.drop 1) := ⟨by rw [HTL.out]; omega, fun i hi => by have := HZ.out _ (List.mem_of_mem_drop (List.getElem_mem hi)); omega⟩
        have SU := fun cc => l00Sum_any (some ⟨b, 1, none⟩) (ts.drop 1) (m - 1) cc w7 HTL RT hsm
        have hsb := sum_small (l := ts.drop 1) (fun k hk => by have := HZ.out k (List.mem_of_mem_drop hk); omega) 5 (by rw [HTL.out]; omega)
        generalize (ts.drop 1).sum = sm at SU hsb
        have hcap : m ≤ c := by
          rcases O7.out.2 with ⟨hv, _⟩ | ⟨_, _, _, hv, _, _, h3, _⟩
          · injection hv with h1; exact absurd h1 (by simp)
          · injection hv with _ _ h5; omega
        have hm1 : ((1 : Int) ≤ (m : Int)) := by omega
        clear RT hsm
        have hmz : 0 < ts.length := by rw [HN.out]; omega
        go_wp2_with fail
        refine (SU (c - 1)).mono ?_
        rintro e w' ⟨rfl, rfl⟩
        clear SU
        go_wp2_with fail
        refine (among_new B g _ [-1, 0, 200 - sm, 200, 201, -9223372036854775808] 6 w7 (by omega) S7.out rfl (by omega) (by omega)).mono ?_
        rintro e w8 ⟨v, rfl, hv, hs8, hg8⟩
        have hvw : (Lit.int .i64 v).wf = true := by
          simp at hv
          exact wf_i64 (by omega) (by omega)
        have O8 := own_src O7.out hg8 hgl
        have e8 := ownsRow_cell O8 0 _ (ints_cell ts 0 hmz)
        have f8 := ownsRow_frozen O8 0
        have O9 := ownsRow_set O8 0 (.int .i64 v)
        rw [← List.map_set] at O9
        have HR : Hid (DrawnLi B g (K + 40) 11 w (.returned (.slice (some ⟨b, 0, none⟩) m c)) (w8.setCell ⟨b, 0, none⟩ (.int .i64 v))) := ⟨ts.set 0 v, b, m, c, rfl, by unfold Hid; rw [List.length_set]; exact HN.out, by omega, wf_list (fun k hk => by have := HZ.out k hk; omega) hvw, (hs8.set (by omega) _ _).more (by omega), gb_set (gb_trans G7.out hg8) hbw7.1 _ _, O9⟩
        generalize ts[0] = t0 at e8
        clear hs8 hg8 hv O8 O9
        go_wp2
        go_ret
        exact HR.out
      · subst hd
        go_wp2_with fail
        refine (among_new B g _ [1, 2, 10, 11] 4 w7 (by omega) S7.out rfl (by omega) (by omega)).mono ?_
        rintro e w8 ⟨v, rfl, hv, hs8, hg8⟩
        have hvb : 1 ≤ v ∧ v ≤ 11 := by simp at hv; omega
        obtain ⟨vn, rfl⟩ : ∃ vn : Nat, v = vn := ⟨v.toNat, by omega⟩
        have hvn : vn ≤ 11 := by omega
        obtain ⟨i0, hi, hz0, hz1, hz2⟩ := info_parts infoI64d
        have hmk := run_make_rowN (P := Try.prog) 35 2 i0 _ Try.underlying35 hi hz0 .i64 .i64 vn vn (Nat.le_refl _) (by rw [hz2]; omega) (by omega)
        rw [hz1, show madeCells (Value.cells (.int .i64 0)) (vn * 1) = madeCells #[.int .i64 0] vn by rw [Nat.mul_one]; rfl] at hmk
        have G8 := gb_trans G7.out hg8
        have HR : Hid (DrawnLi B g (K + 40) 11 w (.returned (.slice (some ⟨w8.heap.size, 0, none⟩) vn vn)) (w8.alloc (.cells (madeCells #[.int .i64 0] vn) 2))) := ⟨List.replicate vn 0, w8.heap.size, vn, vn, rfl, by unfold Hid; simp, hvn, fun k hk => by rw [List.eq_of_mem_replicate hk]; exact wf_i64 (by omega) (by omega), (hs8.alloc _).more (by omega), gb_alloc G8 _, made_own w8 _ vn G8.size (by omega)⟩
        clear hi hz0 hz1 hz2 hs8 hg8 hv G8
        go_wp2
        go_ret
        exact HR.out
      · have g0 : (d == 0) = false := by simp; omega
        have g1 : (d == 1) = false := by simp; omega
        have HR : Hid (DrawnLi B g (K + 40) 11 w (.returned (.slice (some ⟨b, 0, none⟩) m c)) w7) := ⟨ts, b, m, c, rfl, HN, by omega, fun k hk => by have := HZ.out k hk; exact wf_i64 (by omega) (by omega), S7.out.more (by omega), G7.out, O7.out⟩
        go_wp2
        go_ret
        exact HR.out
end Go.Proofs.Ytabopjdcpllocaa
