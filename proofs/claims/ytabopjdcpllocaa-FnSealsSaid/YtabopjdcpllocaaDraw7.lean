/-
  The draw of seals.
-/
import Derived.Test.YtabopjdcpllocaaSrc
import Derived.Test.YtabopjdcpllocaaSeals2
import Derived.Test.YtabopjdcpllocaaRunCar
import Derived.Deep.AppendLies
import Derived.Deep.DeepCutAuto
namespace Go.Proofs.Ytabopjdcpllocaa
open Go.RowKit

theorem gb_alloc {a b : World} {g : Nat} (h : a.grownBy b (some g)) (o : Obj) : a.grownBy (b.alloc o) (some g) :=
  ⟨h.os, h.tape, h.output, Nat.le_trans h.size (by simp), fun i hi hne => (Below.heap_alloc _ _ _ (Nat.lt_of_lt_of_le hi h.size)).trans (h.block i hi hne)⟩
theorem gb_own {a b c : World} {g : Nat} {row : Option Nat} (h : a.grownBy b (some g)) (k : b.grownBy c row) (hr : ∀ q, row = some q → a.heap.size ≤ q) : a.grownBy c (some g) :=
  ⟨k.os.trans h.os, k.tape.trans h.tape, k.output.trans h.output, Nat.le_trans h.size k.size, fun i hi hne => (k.block i (Nat.lt_of_lt_of_le hi h.size) (fun e => by have := hr i e.symm; omega)).trans (h.block i hi hne)⟩
theorem gb_set {a b : World} {g q : Nat} (h : a.grownBy b (some g)) (hq : a.heap.size ≤ q) (o : Nat) (v : Value) : a.grownBy (b.setCell ⟨q, o, none⟩ v) (some g) :=
  gb_own h (grown_setCell (grown_refl b (some q)) v) (fun k hk => by injection hk with hk; omega)
theorem Src.own {B g K lo : Nat} {w w' : World} {row : Option Nat} (hs : Src B g K w) (hg : w.grownBy w' row) (hr : ∀ q, row = some q → lo ≤ q) (hlo : g < lo) : Src B g K w' := by
  have hlt := hs.lt
  obtain ⟨h0, a, n, c, t, s, h1, h2, h3, h4⟩ := hs
  exact ⟨h0, a, n, c, t, s, h1.same (fun b o hbB => World.cell?_of_block (w := w) (hg.block b (by omega) (fun e => by have := hr b e.symm; omega))), h2, h3, (hg.block g hlt (fun e => by have := hr g e.symm; omega)).trans h4⟩
theorem Src.set {B g K q : Nat} {w : World} (hs : Src B g K w) (hq : g < q) (o : Nat) (v : Value) : Src B g K (w.setCell ⟨q, o, none⟩ v) :=
  hs.own (grown_setCell (grown_refl w (some q)) v) (lo := q) (fun k hk => by injection hk with hk; omega) hq
theorem Src.alloc {B g K : Nat} {w : World} (hs : Src B g K w) (o : Obj) : Src B g K (w.alloc o) := hs.below ((Below.refl _ _).alloc (Nat.le_refl _) _)
theorem own_set {w : World} {lo : Nat} {e : TypeId} {size n : Nat} {v : Value} {xs : List Value} {q : Nat} (h : w.ownsRow lo e size v n xs) (hne : ∀ k, v.ownBlock = some k → k ≠ q) (o : Nat) (u : Value) : (w.setCell ⟨q, o, none⟩ u).ownsRow lo e size v n xs :=
  h.kept (grown_setCell (grown_refl w (some q)) u) (by
    cases hv : v.ownBlock with
    | none => exact .inl rfl
    | some k => have := hne k hv; exact .inr (by simp; omega))
theorem own_src {w w' : World} {lo : Nat} {e : TypeId} {size n g : Nat} {v : Value} {xs : List Value} (h : w.ownsRow lo e size v n xs) (hg : w.grownBy w' (some g)) (hlo : g < lo) : w'.ownsRow lo e size v n xs :=
  h.kept hg (by
    cases hv : v.ownBlock with
    | none => exact .inl rfl
    | some k => have := (h.lt k hv).1; exact .inr (by simp; omega))
theorem among_new (B g K : Nat) (ns : List Int) (n : Nat) (w : World) (hK : K < 999999) (h : Src B g K w) (hn : ns.length = n) (hp : 0 < n) (hmax : n ≤ 1000) :
    Calls Try.prog 62 #[.pointer (some ⟨g, 0, none⟩), .slice (some ⟨w.heap.size, 0, none⟩) n n] (w.alloc (.cells (ns.map (Value.int .i64)).toArray 2)) fun e w' => ∃ x : Int, e = .returned (.int .i64 x) ∧ x ∈ ns ∧ Src B g (K + 2) w' ∧ w.grownBy w' (some g) := by
  have hgl := h.lt
  refine (among_any B g K w.heap.size 0 ns n n _ (by omega) (h.alloc _) hn hp (by omega) (by omega) ?_).mono ?_
  · intro i hi
    rw [cell_of_row _ _ _ _ _ _ (heap_alloc_new w _)]
    simp
  · rintro e w' ⟨x, he, hx, hs, hg⟩
    exact ⟨x, he, hx, hs, gb_trans (gb_alloc (grown_refl w (some g)) _) hg⟩
/-- What a draw of records leaves. -/
def DrawnRs {α : Type} (E : TypeId) (k : Nat) (c : α → List Value) (B g K N : Nat) (Q : List α → Prop) (w : World) (e : Ending) (w' : World) : Prop :=
  ∃ (ts : List α) (a n cp : Nat), e = .returned (.slice (some ⟨a, 0, none⟩) n cp) ∧ Hid (ts.length = n) ∧ n ≤ N ∧ Hid (Q ts) ∧ Src B g K w' ∧ w.grownBy w' (some g) ∧ w'.ownsRow w.heap.size E k (.slice (some ⟨a, 0, none⟩) n cp) n (ts.flatMap c)
theorem wf_i64 {x : Int} (h1 : -9223372036854775808 ≤ x) (h2 : x ≤ 9223372036854775807) : (Lit.int .i64 x).wf = true := by simp [Lit.wf, IntKind.min, IntKind.max, IntKind.signed, IntKind.bits]; omega
theorem seal_set {W : World} {lo g n cap : Nat} {ts : List TSeal} (h : W.ownsRow lo 54 2 (.slice (some ⟨g, 0, none⟩) n cap) n (ts.flatMap cSeal)) (kn : Nat) (hk : kn < ts.length) (x : Int) :
    W.cell? ⟨g, kn * 2 + 1, none⟩ = some (.int .i64 ts[kn].2) ∧ (W.setCell ⟨g, kn * 2 + 1, none⟩ (.int .i64 x)).ownsRow lo 54 2 (.slice (some ⟨g, 0, none⟩) n cap) n ((ts.set kn (ts[kn].1, x)).flatMap cSeal) := by
  refine ⟨ownsRow_cell h _ _ (rflat_get cSeal_len ts kn hk 1 (by omega)), ?_⟩
  have h2 := ownsRow_set h (kn * 2 + 1) (.int .i64 x)
  rw [rflat_set cSeal_len ts kn hk 1 (by omega) (.int .i64 x) (ts[kn].1, x) rfl] at h2
  exact h2
def wfSeals (ts : List TSeal) : Prop := ∀ t ∈ ts, wfSeal t
theorem seals_wf {ts : List TSeal} {kn : Nat} {u : TSeal} (h : ∀ t ∈ ts, 0 ≤ t.1 ∧ t.1 ≤ 65535 ∧ 1 ≤ t.2 ∧ t.2 ≤ 30) (hu : wfSeal u) : wfSeals (ts.set kn u) := by
  intro t ht
  rcases List.mem_or_eq_of_mem_set ht with ht | rfl
  · have := h t ht
    exact ⟨wf_i64 (by omega) (by omega), wf_i64 (by omega) (by omega)⟩
  · exact hu

set_option maxRecDepth 100000 in
set_option maxHeartbeats 8000000 in
theorem drawSeals_any (B g K : Nat) (w : World) (hK : K < 100000) (h : Src B g K w) :
    Calls Try.prog 48 #[.pointer (some ⟨g, 0, none⟩)] w (DrawnRs 54 2 cSeal B g (K + 300) 61 wfSeals w) := by
  have HI : Hid (∃ i0 : TypeInfo, Try.prog.info? 54 = some i0 ∧ i0.zero = some (.agg #[.int .i64 0, .int .i64 0]) ∧ i0.size = 2 ∧ i0.bytes = 16) := info_parts info54'
  have hgl := h.lt
  go_enter Try.func48, Try.ntmps48
  go_wp2_with fail
  refine (pick_any B g K 7 (by omega) _ (by omega) (h.below (by repeat (first | exact Below.refl _ _ | refine Below.alloc ?_ (by simp; try omega) _ | refine Below.setCell ?_ (by simp; try omega) _)))).mono ?_
  rintro e w1 ⟨x1, rfl, ⟨hx0, hx1, hx2⟩, hs1, hg1⟩
  have hxN : x1 ≤ 6 := by omega
  obtain ⟨N, rfl⟩ : ∃ N : Nat, x1 = N := ⟨x1.toNat, by omega⟩
  have hN : N ≤ 6 := by omega
  have G1 := Lib.hid (gb_trans (gb_alloc (grown_refl w (some g)) (.cells #[] 54)) hg1)
  have O1 : Hid (w1.ownsRow w.heap.size 54 2 (.slice (some ⟨w.heap.size, 0, none⟩) 0 0) 0 []) := own_src (World.ownsRow_made w #[] 0 (Nat.le_refl _) (by unfold maxLen; omega) rfl) hg1 hgl
  clear hg1 hx0 hx1 hx2 h hxN
  go_upto_if 12 with (go_at_call 61; refine (one_any B g (K + 2) 20 (by omega) _ (by omega) hs1).mono ?_; rintro e w4 ⟨bo, rfl, hs4, hg4⟩)
  have G4 := Lib.hid (gb_trans G1.out hg4)
  have O4 := Lib.hid (own_src O1.out hg4 hgl)
  have S4 := Lib.hid hs4
  clear hs4 hg4 hs1 G1 O1
  go_cut [4] (fun q wx => ∃ nn : Nat, q = .int .i64 (nn : Int) ∧ nn ≤ 61 ∧ Hid (Src B g (K + 6) wx) ∧ Hid (w.grownBy wx (some g)) ∧ Hid (wx.ownsRow w.heap.size 54 2 (.slice (some ⟨w.heap.size, 0, none⟩) 0 0) 0 []))
  case first =>
    cases bo with
    | false =>
      go_wp2_with fail
      go_meet
      exact ⟨N, rfl, by omega, S4.out.more (by omega), G4, O4⟩
    | true =>
      go_wp2_with fail
      refine (pick_any B g _ 2 (by omega) _ (by omega) S4.out).mono ?_
      rintro e w5 ⟨x5, rfl, ⟨hx5a, hx5b, hx5c⟩, hs5, hg5⟩
      have hx5 : x5 ≤ 1 := by omega
      clear hx5b hx5c
      obtain ⟨nn, rfl⟩ : ∃ nn : Nat, x5 = nn := ⟨x5.toNat, by omega⟩
      have G5 := Lib.hid (gb_trans G4.out hg5)
      have O5 := Lib.hid (own_src O4.out hg5 hgl)
      have S5 : Hid (Src B g (K + 6) w5) := hs5.more (by omega)
      clear hs5 hg5
      go_wp2_with fail
      go_meet
      exact ⟨60 + nn, by go_num, by omega, S5, G5, O5⟩
  case rest =>
    obtain ⟨nn, rfl, hnn, S5, G5, O5⟩ := hcut
    generalize wc = w5 at *
    clear G4 O4 S4
    go_wp2
    go_loopw [3, 5] (fun q kv wr => ∃ (k m b c : Nat) (ts : List TSeal), k + m = nn ∧ kv = .int .i64 (k : Int) ∧ q = .slice (some ⟨b, 0, none⟩) m c ∧ Hid (ts.length = m) ∧ Hid (∀ t ∈ ts, 0 ≤ t.1 ∧ t.1 ≤ 65535 ∧ 1 ≤ t.2 ∧ t.2 ≤ 30) ∧ Hid (Src B g (K + 6 + 4 * m) wr) ∧ Hid (w.grownBy wr (some g)) ∧ Hid (wr.ownsRow w.heap.size 54 2 (.slice (some ⟨b, 0, none⟩) m c) m (ts.flatMap cSeal))) (fun _ kv _ => (intOf kv).toNat)
    case atStart => exact ⟨nn, 0, _, _, [], by omega, rfl, rfl, rfl, fun x hx => by simp at hx, S5, G5, O5⟩
    case round =>
      obtain ⟨k, m, b, c, ts, hkm, rfl, rfl, HN, HZ, HS6, HG6, HO6⟩ := hrel
      have hbw := HO6.out.lt b rfl
      by_cases hk : 0 < k
      · have hk0 : (0 : Int) < (k : Int) := by omega
        go_wp2_with fail
        refine (pick_any B g (K + 6 + 4 * m) 30 (by omega) _ (by omega) HS6.out).mono ?_
        rintro e w6 ⟨x, rfl, ⟨hy0, hy1, hy2⟩, hs6, hg6⟩
        have hx0 : 0 ≤ x ∧ x < 30 := by omega
        have G6 := Lib.hid (gb_trans HG6.out hg6)
        have O6 := Lib.hid (own_src HO6.out hg6 hgl)
        have S6 := Lib.hid hs6
        have hz6 := G6.out.size
        clear hs6 hg6 hy0 hy1 hy2
        go_wp2_with fail
        refine (pick_any B g _ (1 + x + 1) (by omega) _ (by omega) (S6.out.alloc _)).mono ?_
        rintro e w7 ⟨y, rfl, ⟨hy0, hy1, hy2⟩, hs7, hg7⟩
        have hz7 := hg7.size
        simp at hz7
        have HH : Hid (w7.heap[w6.heap.size]? = some (.cells #[.int .i64 0, .int .i64 (1 + x)] 54 (0, 0))) := (hg7.block w6.heap.size (by simp) (by simp; omega)).trans (heap_alloc_new w6 _)
        have y0 := (cell_of_row w7 w6.heap.size 0 _ _ (0, 0) HH.out).trans (by rfl : _ = some (Value.int .i64 0))
        have y1 := (cell_of_row w7 w6.heap.size 1 _ _ (0, 0) HH.out).trans (by rfl : _ = some (Value.int .i64 (1 + x)))
        have z0 := frozen_of_row w7 w6.heap.size 0 _ _ HH.out
        have G7 := Lib.hid (gb_set (gb_trans (gb_alloc G6.out _) hg7) hz6 0 (.int .i64 y))
        have S7 : Hid (Src B g (K + 6 + 4 * (m + 1)) (w7.setCell ⟨w6.heap.size, 0, none⟩ (.int .i64 y))) := (hs7.set (by omega) _ _).more (by omega)
        have hb6 := (O6.out.lt b rfl).2
        have O7 : Hid ((w7.setCell ⟨w6.heap.size, 0, none⟩ (.int .i64 y)).ownsRow w.heap.size 54 2 (.slice (some ⟨b, 0, none⟩) m c) m (ts.flatMap cSeal)) := own_set (own_src (World.ownsRow.alloc O6.out _) hg7 hgl) (fun k hk => by simp [Value.ownBlock] at hk; omega) _ _
        have HOX := Lib.hid (World.ownsRow.alloc O7.out (.cells #[.int .i64 y, .int .i64 (1 + x)] 54))
        have HGE : Hid (∀ q, (Value.slice (some ⟨b, 0, none⟩) m c).ownBlock = some q → w.heap.size ≤ q) := fun q hq => (O6.out.lt q hq).1
        clear hs7 hg7 HS6 HG6 HO6 O6 G6 S6
        go_wp2_with (first | (at_builtin; refine wpList_append_lies _ rfl _ _ 25 rfl w.heap.size 54 HI.out.choose (.agg #[.int .i64 0, .int .i64 0]) 2 16 Try.underlying25 HI.out.choose_spec.1 HI.out.choose_spec.2.1 HI.out.choose_spec.2.2.1 HI.out.choose_spec.2.2.2 rfl (by decide) (.slice (some ⟨b, 0, none⟩) m c) m (ts.flatMap cSeal) rfl HOX.out ⟨w7.heap.size, 0, none⟩ 1 1 [.int .i64 y, .int .i64 (1 + x)] rfl rfl (World.news_of_block (heap_alloc_at _ _ _ (by simp [World.setCell]))) (by intro u hu; simp at hu; rcases hu with rfl | rfl <;> rfl) (by omega) (by unfold maxLen; omega) (by omega) (by simp [World.setCell]; omega) _ rfl ?_))
        intro g8 cap8 w8 hown8 hgrow8 hat8 hlt8
        have G8 : Hid (w.grownBy w8 (some g)) := gb_own (gb_alloc G7.out _) hgrow8 HGE.out
        have S8 : Hid (Src B g (K + 6 + 4 * (m + 1)) w8) := (S7.out.alloc _).own hgrow8 HGE.out hgl
        have X8 : Hid (w8.ownsRow w.heap.size 54 2 (.slice (some ⟨g8, 0, none⟩) (m + 1) cap8) (m + 1) ((ts ++ [(y, 1 + x)]).flatMap cSeal)) := by
          unfold Hid; rw [List.flatMap_append]; exact hown8
        have N8 : Hid ((ts ++ [(y, 1 + x)]).length = m + 1) := by unfold Hid; rw [List.length_append, HN.out]; rfl
        have Z8 : Hid (∀ t ∈ ts ++ [(y, 1 + x)], 0 ≤ t.1 ∧ t.1 ≤ 65535 ∧ 1 ≤ t.2 ∧ t.2 ≤ 30) := fun z hz => by
          rcases List.mem_append.1 hz with hz | hz
          · exact HZ.out z hz
          · simp at hz; subst hz; dsimp only; omega
        clear hown8 hgrow8 hat8 hlt8 y0 y1 z0
        go_wp2
        go_roundw
        case rel => exact ⟨k - 1, m + 1, g8, cap8, ts ++ [(y, 1 + x)], by omega, by congr 1; omega, rfl, N8, Z8, S8, G8, X8⟩
        case measure => simp [intOf]; omega
      · have hk' : k = 0 := by omega
        subst hk'
        have hmn : m = nn := by omega
        subst hmn
        by_cases hz : m = 0
        · have HR : Hid (DrawnRs 54 2 cSeal B g (K + 300) 61 wfSeals w (.returned (.slice (some ⟨b, 0, none⟩) m c)) wr) := ⟨ts, b, m, c, rfl, HN, by omega, fun t ht => (by have := List.eq_nil_of_length_eq_zero (HN.out.trans hz); subst this; simp at ht), HS6.out.more (by omega), HG6.out, HO6.out⟩
          subst hz
          go_wp2
          go_ret
          exact HR.out
        · have hmp : (0 : Int) < (m : Int) := by omega
          go_wp2_with fail
          refine (pick_any B g _ (m : Int) (by omega) _ (by omega) HS6.out).mono ?_
          rintro e w6 ⟨x, rfl, ⟨hy0, hy1, hy2⟩, hs6, hg6⟩
          obtain ⟨kn, rfl⟩ : ∃ kn : Nat, x = kn := ⟨x.toNat, by omega⟩
          have hkm' : kn < m := by omega
          have hka : kn < ts.length := by rw [HN.out]; exact hkm'
          have hka0 : (0 : Int) ≤ (kn : Int) := by omega
          have hka1 : (kn : Int) < (m : Int) := by omega
          have G6 := Lib.hid (gb_trans HG6.out hg6)
          have O6 := Lib.hid (own_src HO6.out hg6 hgl)
          clear hg6 hy0 hy1 hy2 HS6 HG6 HO6
          go_wp2_with fail
          refine (pick_any B g _ 20 (by omega) _ (by omega) hs6).mono ?_
          rintro e w7 ⟨d, rfl, ⟨hd0, hd1, hd2⟩, hs7, hg7⟩
          have G7 := Lib.hid (gb_trans G6.out hg7)
          have O7 := Lib.hid (own_src O6.out hg7 hgl)
          have hbw7 := O7.out.lt b rfl
          clear hg7 G6 O6 hs6
          obtain ⟨c0, f0, _⟩ := seal_own O7.out kn hka 0
          obtain ⟨c1, _⟩ := seal_set O7.out kn hka 0
          have f1 := ownsRow_frozen O7.out (kn * 2 + 1)
          have hzk := HZ.out ts[kn] (List.getElem_mem hka)
          have M0 : Hid (∀ (W : World) (v : Int), W.ownsRow w.heap.size 54 2 (.slice (some ⟨b, 0, none⟩) m c) m (ts.flatMap cSeal) → (Lit.int .i64 v).wf = true → Src B g (K + 300) W → w.grownBy W (some g) → DrawnRs 54 2 cSeal B g (K + 300) 61 wfSeals w (.returned (.slice (some ⟨b, 0, none⟩) m c)) (W.setCell ⟨b, kn * 2, none⟩ (.int .i64 v))) := fun W v ho hv hs hg => by
            have h2 := (seal_own ho kn hka v).2.2
            exact ⟨_, b, m, c, rfl, by unfold Hid; rw [List.length_set]; exact HN.out, by omega, seals_wf HZ.out ⟨hv, wf_i64 (by omega) (by omega)⟩, hs.set (by omega) _ _, gb_set hg hbw7.1 _ _, h2⟩
          have M1 : Hid (∀ (W : World) (v : Int), W.ownsRow w.heap.size 54 2 (.slice (some ⟨b, 0, none⟩) m c) m (ts.flatMap cSeal) → (Lit.int .i64 v).wf = true → Src B g (K + 300) W → w.grownBy W (some g) → DrawnRs 54 2 cSeal B g (K + 300) 61 wfSeals w (.returned (.slice (some ⟨b, 0, none⟩) m c)) (W.setCell ⟨b, kn * 2 + 1, none⟩ (.int .i64 v))) := fun W v ho hv hs hg => by
            have h2 := (seal_set ho kn hka v).2
            exact ⟨_, b, m, c, rfl, by unfold Hid; rw [List.length_set]; exact HN.out, by omega, seals_wf HZ.out ⟨wf_i64 (by omega) (by omega), hv⟩, hs.set (by omega) _ _, gb_set hg hbw7.1 _ _, h2⟩
          have HSAME : Hid (DrawnRs 54 2 cSeal B g (K + 300) 61 wfSeals w (.returned (.slice (some ⟨b, 0, none⟩) m c)) w7) := ⟨ts, b, m, c, rfl, HN, by omega, fun t ht => (by have := HZ.out t ht; exact ⟨wf_i64 (by omega) (by omega), wf_i64 (by omega) (by omega)⟩), hs7.more (by omega), G7.out, O7.out⟩
          generalize ts[kn] = t at c0 c1 hzk
          obtain ⟨t1, t2⟩ := t
          dsimp only at c0 c1 hzk
          have S7 := Lib.hid hs7
          clear hs7
          rcases (by omega : d = 0 ∨ d = 1 ∨ (¬ d = 0 ∧ ¬ d = 1)) with hd | hd | hd
          · subst hd
            go_wp2_with fail
            refine (among_new B g _ [-1, 0, t1, 1000, 1001] 5 w7 (by omega) S7.out rfl (by omega) (by omega)).mono ?_
            rintro e w8 ⟨v, rfl, hv, hs8, hg8⟩
            have hvw : (Lit.int .i64 v).wf = true := by
              simp at hv
              exact wf_i64 (by omega) (by omega)
            have e1 := hg8.cell (a := ⟨b, kn * 2 + 1, none⟩) c1 (by simp; omega)
            have f8 := ownsRow_frozen (own_src O7.out hg8 hgl) (kn * 2 + 1)
            have HR := Lib.hid (M1.out w8 v (own_src O7.out hg8 hgl) hvw (hs8.more (by omega)) (gb_trans G7.out hg8))
            clear hs8 hg8 c0 c1 f0 f1 hv
            go_wp2
            go_ret
            exact HR.out
          · subst hd
            have c2 : w7.drew.cell? ⟨b, kn * 2 + 1, none⟩ = some (.int .i64 t2) := c1
            have c3 : w7.drew.cell? ⟨b, kn * 2, none⟩ = some (.int .i64 t1) := c0
            have c4 := (((Below.refl w7.heap.size w7).drew.alloc (Nat.le_refl _) (.cells #[.int .i64 (-1), .int .i64 0, .int .i64 t2, .int .i64 (t2 + 1), .int .i64 (-9223372036854775808)] 2)).cell (p := ⟨b, kn * 2 + 1, none⟩) hbw7.2).trans c1
            have hwr : IntKind.i64.wrap (t2 + 1) = t2 + 1 := IntWalk.i64_in _ (by omega)
            have S7d : Hid (Src B g (K + 6 + 4 * m + 2 + 2) w7.drew) := S7.out.below (Below.refl _ _).drew
            have O7d : Hid (w7.drew.ownsRow w.heap.size 54 2 (.slice (some ⟨b, 0, none⟩) m c) m (ts.flatMap cSeal)) := O7.out
            have G7d : Hid (w.grownBy w7.drew (some g)) := ⟨G7.out.os, G7.out.tape, G7.out.output, G7.out.size, G7.out.block⟩
            go_wp2_with fail
            go_region_held3 (fun w' => w'.cell? ⟨b, kn * 2 + 1, none⟩ = some (.int .i64 t2)) (first | exact c1 | exact c4 | exact c8 | exact (World.cell?_setCell_other _ _ _ _ (by simp)).trans c8) (first | (go_at_call 62; refine (among_new B g _ [-1, 0, t2, t2 + 1, -9223372036854775808] 5 w7.drew (by omega) S7d.out rfl (by omega) (by omega)).mono ?_; rintro e w8 ⟨v, rfl, hv, hs8, hg8⟩; have c8 := hg8.cell (a := ⟨b, kn * 2 + 1, none⟩) c2 (by simp; omega); have d8 := hg8.cell (a := ⟨b, kn * 2, none⟩) c3 (by simp; omega); have f8 := ownsRow_frozen (own_src O7d.out hg8 hgl) (kn * 2)))
            all_goals
              have hvw : (Lit.int .i64 v).wf = true := by
                simp at hv
                exact wf_i64 (by omega) (by omega)
              have HR := Lib.hid (M0.out w8 v (own_src O7d.out hg8 hgl) hvw (hs8.more (by omega)) (gb_trans G7d.out hg8))
              clear hs8 hg8 c0 c1 c2 c3 c4 c8 d8 f8 f0 f1 hv
              go_wp2
              go_ret
              exact HR.out
          · have g0 : (d == 0) = false := by simp; omega
            have g1 : (d == 1) = false := by simp; omega
            go_wp2
            go_ret
            exact HSAME.out
end Go.Proofs.Ytabopjdcpllocaa
