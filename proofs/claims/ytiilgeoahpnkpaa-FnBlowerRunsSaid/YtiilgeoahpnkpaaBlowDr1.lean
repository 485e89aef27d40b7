/-
  The draw of blowers.
-/
import Derived.Test.YtiilgeoahpnkpaaSrc
import Derived.Test.YtiilgeoahpnkpaaBlow4
import Derived.Deep.AppendLies
import Derived.Deep.DeepCutAuto
namespace Go.Proofs.Ytiilgeoahpnkpaa
open Go.RowKit

theorem gb_alloc {a b : World} {g : Nat} (h : a.grownBy b (some g)) (o : Obj) : a.grownBy (b.alloc o) (some g) :=
  ⟨h.os, h.tape, h.output, Nat.le_trans h.size (by simp), fun i hi hne => (Below.heap_alloc _ _ _ (Nat.lt_of_lt_of_le hi h.size)).trans (h.block i hi hne)⟩
theorem gb_own {a b c : World} {g : Nat} {row : Option Nat} (h : a.grownBy b (some g)) (k : b.grownBy c row) (hr : ∀ q, row = some q → a.heap.size ≤ q) : a.grownBy c (some g) :=
  ⟨k.os.trans h.os, k.tape.trans h.tape, k.output.trans h.output, Nat.le_trans h.size k.size, fun i hi hne => (k.block i (Nat.lt_of_lt_of_le hi h.size) (fun e => by have := hr i e.symm; omega)).trans (h.block i hi hne)⟩
theorem gb_set {a b : World} {g q : Nat} (h : a.grownBy b (some g)) (hq : a.heap.size ≤ q) (o : Nat) (v : Value) : a.grownBy (b.setCell ⟨q, o, none⟩ v) (some g) :=
  gb_own h (grown_setCell (grown_refl b (some q)) v) (fun k hk => by injection hk with hk; omega)
theorem Src.own {B g K lo : Nat} {w w' : World} {row : Option Nat} (hs : Src B g K w) (hg : w.grownBy w' row) (hr : ∀ q, row = some q → lo ≤ q) (hlo : g < lo) : Src B g K w' := by
  have hlt := hs.lt
  obtain ⟨h0, a, n, c, t, s, h1, h2, h3, h4⟩ := hs
  exact ⟨h0, a, n, c, t, s, h1.same (fun b o hbB => World.cell?_of_block (w := w) (hg.block b (by omega) (fun e => by have := hr b e.symm; omega))), h2, h3, (hg.block g hlt (fun e => by have := hr g e.symm; omega)).trans h4⟩
theorem Src.set {B g K q : Nat} {w : World} (hs : Src B g K w) (hq : g < q) (o : Nat) (v : Value) : Src B g K (w.setCell ⟨q, o, none⟩ v) :=
  hs.own (grown_setCell (grown_refl w (some q)) v) (lo := q) (fun k hk => by injection hk with hk; omega) hq
theorem Src.alloc {B g K : Nat} {w : World} (hs : Src B g K w) (o : Obj) : Src B g K (w.alloc o) := hs.below ((Below.refl _ _).alloc (Nat.le_refl _) _)
theorem own_set {w : World} {lo : Nat} {e : TypeId} {size n : Nat} {v : Value} {xs : List Value} {q : Nat} (h : w.ownsRow lo e size v n xs) (hne : ∀ k, v.ownBlock = some k → k ≠ q) (o : Nat) (u : Value) : (w.setCell ⟨q, o, none⟩ u).ownsRow lo e size v n xs :=
  h.kept (grown_setCell (grown_refl w (some q)) u) (by
    cases hv : v.ownBlock with
    | none => exact .inl rfl
    | some k => have := hne k hv; exact .inr (by simp; omega))
theorem own_src {w w' : World} {lo : Nat} {e : TypeId} {size n g : Nat} {v : Value} {xs : List Value} (h : w.ownsRow lo e size v n xs) (hg : w.grownBy w' (some g)) (hlo : g < lo) : w'.ownsRow lo e size v n xs :=
  h.kept hg (by
    cases hv : v.ownBlock with
    | none => exact .inl rfl
    | some k => have := (h.lt k hv).1; exact .inr (by simp; omega))
theorem among_new (B g K : Nat) (ns : List Int) (n : Nat) (w : World) (hK : K < 999999) (h : Src B g K w) (hn : ns.length = n) (hp : 0 < n) (hmax : n ≤ 1000) :
    Calls Try.prog 68 #[.pointer (some ⟨g, 0, none⟩), .slice (some ⟨w.heap.size, 0, none⟩) n n] (w.alloc (.cells (ns.map (Value.int .i64)).toArray 2)) fun e w' => ∃ x : Int, e = .returned (.int .i64 x) ∧ x ∈ ns ∧ Src B g (K + 2) w' ∧ w.grownBy w' (some g) := by
  have hgl := h.lt
  refine (among_any B g K w.heap.size 0 ns n n _ (by omega) (h.alloc _) hn hp (by omega) (by omega) ?_).mono ?_
  · intro i hi
    rw [cell_of_row _ _ _ _ _ _ (heap_alloc_new w _)]
    simp
  · rintro e w' ⟨x, he, hx, hs, hg⟩
    exact ⟨x, he, hx, hs, gb_trans (gb_alloc (grown_refl w (some g)) _) hg⟩
/-- What a draw of records leaves. -/
def DrawnRs {α : Type} (E : TypeId) (k : Nat) (c : α → List Value) (B g K N : Nat) (Q : List α → Prop) (w : World) (e : Ending) (w' : World) : Prop :=
  ∃ (ts : List α) (a n cp : Nat), e = .returned (.slice (some ⟨a, 0, none⟩) n cp) ∧ Hid (ts.length = n) ∧ n ≤ N ∧ Hid (Q ts) ∧ Src B g K w' ∧ w.grownBy w' (some g) ∧ w'.ownsRow w.heap.size E k (.slice (some ⟨a, 0, none⟩) n cp) n (ts.flatMap c)
theorem wf_i64 {x : Int} (h1 : -9223372036854775808 ≤ x) (h2 : x ≤ 9223372036854775807) : (Lit.int .i64 x).wf = true := by simp [Lit.wf, IntKind.min, IntKind.max, IntKind.signed, IntKind.bits]; omega

def smB (t : TBlower) : Prop := (0 ≤ t.1 ∧ t.1 ≤ 1000) ∧ (0 ≤ t.2.1 ∧ t.2.1 ≤ 1000) ∧ 0 ≤ t.2.2 ∧ t.2.2 ≤ 1000
theorem smB_wf {t : TBlower} (h : smB t) : wfBlower t := by
  obtain ⟨h1, h2, h3⟩ := h
  exact ⟨wf_i64 (by omega) (by omega), wf_i64 (by omega) (by omega), wf_i64 (by omega) (by omega)⟩
def smBs (ts : List TBlower) : Prop := ∀ t ∈ ts, smB t
def wfBs (ts : List TBlower) : Prop := ∀ t ∈ ts, wfBlower t
set_option maxRecDepth 100000 in
set_option maxHeartbeats 8000000 in
theorem drawB_any (B g K : Nat) (w : World) (hK : K < 100000) (h : Src B g K w) :
    Calls Try.prog 99 #[.pointer (some ⟨g, 0, none⟩)] w (DrawnRs 45 3 cBlower B g (K + 40) 4 smBs w) := by
  have HI : Hid (∃ i0 : TypeInfo, Try.prog.info? 45 = some i0 ∧ i0.zero = some (.agg #[.int .i64 0, .int .i64 0, .int .i64 0]) ∧ i0.size = 3 ∧ i0.bytes = 24) := info_parts infoBlower
  have hgl := h.lt
  go_enter Try.func99, Try.ntmps99
  go_wp2_with fail
  refine (pick_any B g K 5 (by omega) _ (by omega) (h.below (by repeat (first | exact Below.refl _ _ | refine Below.alloc ?_ (by simp; try omega) _ | refine Below.setCell ?_ (by simp; try omega) _)))).mono ?_
  rintro e w1 ⟨x1, rfl, ⟨hx0, hx1, hx2⟩, hs1, hg1⟩
  obtain ⟨nn, rfl⟩ : ∃ nn : Nat, x1 = nn := ⟨x1.toNat, by omega⟩
  have hnn : nn ≤ 4 := by omega
  have G5 := Lib.hid (gb_trans (gb_alloc (grown_refl w (some g)) (.cells #[] 45)) hg1)
  have O5 : Hid (w1.ownsRow w.heap.size 45 3 (.slice (some ⟨w.heap.size, 0, none⟩) 0 0) 0 []) := own_src (World.ownsRow_made w #[] 0 (Nat.le_refl _) (by unfold maxLen; omega) rfl) hg1 hgl
  have S5 : Hid (Src B g (K + 2 + 6 * 0) w1) := hs1.more (by omega)
  clear hg1 hx0 hx1 hx2 h hs1
  go_wp2
  go_loopw [3, 5] (fun q kv wr => ∃ (k m b c : Nat) (ts : List TBlower), k + m = nn ∧ kv = .int .i64 (k : Int) ∧ q = .slice (some ⟨b, 0, none⟩) m c ∧ Hid (ts.length = m) ∧ Hid (smBs ts) ∧ Hid (Src B g (K + 2 + 6 * m) wr) ∧ Hid (w.grownBy wr (some g)) ∧ Hid (wr.ownsRow w.heap.size 45 3 (.slice (some ⟨b, 0, none⟩) m c) m (ts.flatMap cBlower))) (fun _ kv _ => (intOf kv).toNat)
  case atStart => exact ⟨nn, 0, _, _, [], by omega, rfl, rfl, rfl, fun x hx => by simp at hx, S5, G5, O5⟩
  case round =>
    obtain ⟨k, m, b, c, ts, hkm, rfl, rfl, HN, HZ, HS6, HG6, HO6⟩ := hrel
    have hbw := HO6.out.lt b rfl
    by_cases hk : 0 < k
    · have hk0 : (0 : Int) < (k : Int) := by omega
      go_wp2_with fail
      refine (pick_any B g (K + 2 + 6 * m) 12 (by omega) _ (by omega) HS6.out).mono ?_
      rintro e w6 ⟨x, rfl, ⟨hy0, hy1, hy2⟩, hs6, hg6⟩
      have hx0 : 0 ≤ x ∧ x < 12 := by omega
      have G6 := Lib.hid (gb_trans HG6.out hg6)
      have O6 := Lib.hid (own_src HO6.out hg6 hgl)
      have S6 := Lib.hid hs6
      have hz6 := G6.out.size
      clear hs6 hg6 hy0 hy1 hy2
      obtain ⟨p, hp⟩ : ∃ p, 10 * (1 + x) = p := ⟨_, rfl⟩
      have hpb : 0 ≤ p ∧ p ≤ 1000 := by omega
      have hwp1 := wrI (x := 1 + x) (by omega)
      have hwp := wrI (x := 10 * (1 + x)) (by omega)
      rw [hp] at hwp
      go_wp2_with fail
      refine (pick_any B g _ 40 (by omega) _ (by omega) (S6.out.alloc _)).mono ?_
      rintro e w7 ⟨y, rfl, ⟨hy0, hy1, hy2⟩, hs7, hg7⟩
      have hz7 := hg7.size
      simp at hz7
      have HH := Lib.hid ((hg7.block w6.heap.size (by simp) (by simp; omega)).trans (heap_alloc_new w6 (.cells #[.int .i64 p, .int .i64 0, .int .i64 0] 45)))
      have y0 := (cell_of_row w7 w6.heap.size 0 _ _ (0, 0) HH.out).trans (by rfl : _ = some (Value.int .i64 p))
      have y1 := (cell_of_row w7 w6.heap.size 1 _ _ (0, 0) HH.out).trans (by rfl : _ = some (Value.int .i64 0))
      have y2 := (cell_of_row w7 w6.heap.size 2 _ _ (0, 0) HH.out).trans (by rfl : _ = some (Value.int .i64 0))
      have z1 := frozen_of_row w7 w6.heap.size 1 _ _ HH.out
      have z2 := frozen_of_row w7 w6.heap.size 2 _ _ HH.out
      have k0 := (World.cell?_setCell_other w7 ⟨w6.heap.size, 1, none⟩ ⟨w6.heap.size, 0, none⟩ (.int .i64 y) (by simp)).trans y0
      have k1 := World.cell?_setCell_same w7 ⟨w6.heap.size, 1, none⟩ (.int .i64 y) y1
      have k2 := (World.cell?_setCell_other w7 ⟨w6.heap.size, 1, none⟩ ⟨w6.heap.size, 2, none⟩ (.int .i64 y) (by simp)).trans y2
      have G7 := Lib.hid (gb_set (gb_trans (gb_alloc G6.out _) hg7) hz6 1 (.int .i64 y))
      have S7 : Hid (Src B g (K + 2 + 6 * m + 2 + 2) (w7.setCell ⟨w6.heap.size, 1, none⟩ (.int .i64 y))) := hs7.set (by omega) _ _
      have hb6 := (O6.out.lt b rfl).2
      have O7 : Hid ((w7.setCell ⟨w6.heap.size, 1, none⟩ (.int .i64 y)).ownsRow w.heap.size 45 3 (.slice (some ⟨b, 0, none⟩) m c) m (ts.flatMap cBlower)) := own_set (own_src (World.ownsRow.alloc O6.out _) hg7 hgl) (fun k hk => by simp [Value.ownBlock] at hk; omega) _ _
      have hyb : 0 ≤ y ∧ y < 40 := by omega
      clear hs7 hg7 HS6 HG6 HO6 O6 G6 S6 hy0 hy1 hy2
      go_wp2_with fail
      refine (pick_any B g _ 60 (by omega) _ (by omega) S7.out).mono ?_
      rintro e w8 ⟨z, rfl, ⟨hy0, hy1, hy2⟩, hs8, hg8⟩
      have hzb : 0 ≤ z ∧ z < 60 := by omega
      have hz8 := hg8.size
      simp [World.setCell] at hz8
      have hne : ∀ o, some (⟨w6.heap.size, o, none⟩ : Addr).block ≠ some g := fun o => by simp; omega
      have e0 := hg8.cell (a := ⟨w6.heap.size, 0, none⟩) k0 (hne 0)
      have e1 := hg8.cell (a := ⟨w6.heap.size, 1, none⟩) k1 (hne 1)
      have e2 := hg8.cell (a := ⟨w6.heap.size, 2, none⟩) k2 (hne 2)
      have f2 : w8.frozen? ⟨w6.heap.size, 2, none⟩ = false := (hg8.frozen_far ⟨w6.heap.size, 2, none⟩ (by simp [World.setCell]; omega) (hne 2)).trans ((World.frozen?_setCell _ _ _ _).trans z2)
      have G8 := Lib.hid (gb_set (gb_trans G7.out hg8) hz6 2 (.int .i64 z))
      have S8 : Hid (Src B g (K + 2 + 6 * (m + 1)) (w8.setCell ⟨w6.heap.size, 2, none⟩ (.int .i64 z))) := (hs8.set (by omega) _ _).more (by omega)
      have O8 : Hid ((w8.setCell ⟨w6.heap.size, 2, none⟩ (.int .i64 z)).ownsRow w.heap.size 45 3 (.slice (some ⟨b, 0, none⟩) m c) m (ts.flatMap cBlower)) := own_set (own_src O7.out hg8 hgl) (fun k hk => by simp [Value.ownBlock] at hk; omega) _ _
      have HOX := Lib.hid (World.ownsRow.alloc O8.out (.cells #[.int .i64 p, .int .i64 y, .int .i64 z] 45))
      have HGE : Hid (∀ q, (Value.slice (some ⟨b, 0, none⟩) m c).ownBlock = some q → w.heap.size ≤ q) := fun q hq => (O8.out.lt q hq).1
      clear hs8 hg8 O7 G7 S7 y0 y1 y2 z1 z2 k0 k1 k2 hne HH hy0 hy1 hy2
      go_wp2_with (first | (at_builtin; refine wpList_append_lies _ rfl _ _ 24 rfl w.heap.size 45 HI.out.choose (.agg #[.int .i64 0, .int .i64 0, .int .i64 0]) 3 24 Try.underlying24 HI.out.choose_spec.1 HI.out.choose_spec.2.1 HI.out.choose_spec.2.2.1 HI.out.choose_spec.2.2.2 rfl (by decide) (.slice (some ⟨b, 0, none⟩) m c) m (ts.flatMap cBlower) rfl HOX.out ⟨w8.heap.size, 0, none⟩ 1 1 [.int .i64 p, .int .i64 y, .int .i64 z] rfl rfl (World.news_of_block (heap_alloc_at _ _ _ (by simp [World.setCell]))) (by intro u hu; simp at hu; rcases hu with rfl | rfl | rfl <;> rfl) (by omega) (by unfold maxLen; omega) (by omega) (by simp [World.setCell]; omega) _ rfl ?_))
      intro g9 cap9 w9 hown9 hgrow9 hat9 hlt9
      have G9 : Hid (w.grownBy w9 (some g)) := gb_own (gb_alloc G8.out _) hgrow9 HGE.out
      have S9 : Hid (Src B g (K + 2 + 6 * (m + 1)) w9) := (S8.out.alloc _).own hgrow9 HGE.out hgl
      have X9 : Hid (w9.ownsRow w.heap.size 45 3 (.slice (some ⟨g9, 0, none⟩) (m + 1) cap9) (m + 1) ((ts ++ [(p, y, z)]).flatMap cBlower)) := by
        unfold Hid; rw [List.flatMap_append]; exact hown9
      have N9 : Hid ((ts ++ [(p, y, z)]).length = m + 1) := by unfold Hid; rw [List.length_append, HN.out]; rfl
      have Z9 : Hid (smBs (ts ++ [(p, y, z)])) := fun q hq => by
        rcases List.mem_append.1 hq with hq | hq
        · exact HZ.out q hq
        · simp at hq; subst hq; exact ⟨hpb, ⟨hyb.1, by dsimp only; omega⟩, hzb.1, by dsimp only; omega⟩
      clear hown9 hgrow9 hat9 hlt9 e0 e1 e2 f2
      go_wp2
      go_roundw
      case rel => exact ⟨k - 1, m + 1, g9, cap9, ts ++ [(p, y, z)], by omega, by congr 1; omega, rfl, N9, Z9, S9, G9, X9⟩
      case measure => simp [intOf]; omega
    · have hk' : k = 0 := by omega
      subst hk'
      have hmn : m = nn := by omega
      subst hmn
      have HR : Hid (DrawnRs 45 3 cBlower B g (K + 40) 4 smBs w (.returned (.slice (some ⟨b, 0, none⟩) m c)) wr) := ⟨ts, b, m, c, rfl, HN, hnn, HZ, HS6.out.more (by omega), HG6.out, HO6.out⟩
      go_wp2
      go_ret
      exact HR.out
end Go.Proofs.Ytiilgeoahpnkpaa
