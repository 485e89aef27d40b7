/-
  The draws of times, of ways and of runs.
-/
import Derived.Test.YtgjbahnloladfaaSrc
import Derived.Test.YtgjbahnloladfaaNest2
import Derived.Test.YtgjbahnloladfaaRunMath
import Derived.Deep.AppendLies
namespace Go.Proofs.Ytgjbahnloladfaa
open Go.RowKit

theorem gb_alloc {a b : World} {g : Nat} (h : a.grownBy b (some g)) (o : Obj) : a.grownBy (b.alloc o) (some g) :=
  ⟨h.os, h.tape, h.output, Nat.le_trans h.size (by simp), fun i hi hne => (Below.heap_alloc _ _ _ (Nat.lt_of_lt_of_le hi h.size)).trans (h.block i hi hne)⟩
theorem gb_own {a b c : World} {g : Nat} {row : Option Nat} (h : a.grownBy b (some g)) (k : b.grownBy c row) (hr : ∀ q, row = some q → a.heap.size ≤ q) : a.grownBy c (some g) :=
  ⟨k.os.trans h.os, k.tape.trans h.tape, k.output.trans h.output, Nat.le_trans h.size k.size, fun i hi hne => (k.block i (Nat.lt_of_lt_of_le hi h.size) (fun e => by have := hr i e.symm; omega)).trans (h.block i hi hne)⟩
theorem Src.own {B g K lo : Nat} {w w' : World} {row : Option Nat} (hs : Src B g K w) (hg : w.grownBy w' row) (hr : ∀ q, row = some q → lo ≤ q) (hlo : g < lo) : Src B g K w' := by
  have hlt := hs.lt
  obtain ⟨h0, a, n, c, t, s, h1, h2, h3, h4⟩ := hs
  exact ⟨h0, a, n, c, t, s, h1.same (fun b o hbB => World.cell?_of_block (w := w) (hg.block b (by omega) (fun e => by have := hr b e.symm; omega))), h2, h3, (hg.block g hlt (fun e => by have := hr g e.symm; omega)).trans h4⟩
/-- What a draw of numbers leaves. -/
def DrawnI (B g K : Nat) (Q : List Int → Prop) (w : World) (e : Ending) (w' : World) : Prop :=
  ∃ (l : List Int) (a n c : Nat), e = .returned (.slice (some ⟨a, 0, none⟩) n c) ∧ Hid (l.length = n) ∧ Q l ∧ Src B g K w' ∧ w.grownBy w' (some g) ∧ w'.ownsRow w.heap.size 2 1 (.slice (some ⟨a, 0, none⟩) n c) n (l.map (Value.int .i64))

set_option maxRecDepth 100000 in
set_option maxHeartbeats 8000000 in
theorem drawTimes_any (B g K : Nat) (w : World) (hK : K < 10000000) (h : Src B g K w) :
    Calls Try.prog 43 #[.pointer (some ⟨g, 0, none⟩)] w (DrawnI B g (K + 20) (fun l => 1 ≤ l.length ∧ l.length ≤ 6 ∧ ∀ x ∈ l, 1 ≤ x ∧ x ≤ 12) w) := by
  have HI : Hid (∃ i0 : TypeInfo, Try.prog.info? 2 = some i0 ∧ i0.zero = some (.int .i64 0) ∧ i0.size = 1 ∧ i0.bytes = 8) := info_parts info2
  have hgl := h.lt
  go_enter Try.func43, Try.ntmps43
  go_wp2_with fail
  refine (pick_any B g K 6 (by omega) _ (by omega) (h.below (by repeat (first | exact Below.refl _ _ | refine Below.alloc ?_ (by simp; try omega) _ | refine Below.setCell ?_ (by simp; try omega) _)))).mono ?_
  rintro e w1 ⟨x1, rfl, ⟨hx0, hx1, hx2⟩, hs1, hg1⟩
  have hxN : x1 ≤ 5 := by omega
  obtain ⟨N, rfl⟩ : ∃ N : Nat, x1 = N := ⟨x1.toNat, by omega⟩
  have hN : N ≤ 5 := by omega
  have G1 := Lib.hid (gb_trans (gb_alloc (grown_refl w (some g)) (.cells #[] 2)) hg1)
  have O1 : Hid (w1.ownsRow w.heap.size 2 1 (.slice (some ⟨w.heap.size, 0, none⟩) 0 0) 0 []) := (World.ownsRow_made w #[] 0 (Nat.le_refl _) (by unfold maxLen; omega) rfl).kept hg1 (.inr (by simp [Value.ownBlock]; omega))
  have S1 := Lib.hid hs1
  clear hs1 hg1 hx0 hx1 hx2 h hxN
  go_wp2
  go_loopw [3, 4] (fun q kv wr => ∃ (k m b c : Nat) (ss : List Int), k + m = N + 1 ∧ kv = .int .i64 (k : Int) ∧ q = .slice (some ⟨b, 0, none⟩) m c ∧ Hid (ss.length = m) ∧ Hid (∀ x ∈ ss, 1 ≤ x ∧ x ≤ 12) ∧ Hid (Src B g (K + 2 + 2 * m) wr) ∧ Hid (w.grownBy wr (some g)) ∧ Hid (wr.ownsRow w.heap.size 2 1 (.slice (some ⟨b, 0, none⟩) m c) m (ss.map (Value.int .i64)))) (fun _ kv _ => (intOf kv).toNat)
  case atStart => exact ⟨N + 1, 0, _, _, [], by omega, by go_num, rfl, rfl, fun x hx => by simp at hx, S1.out, G1.out, O1.out⟩
  case round =>
    obtain ⟨k, m, b, c, ss, hkm, rfl, rfl, HN, HZ, HS6, HG6, HO6⟩ := hrel
    have hbw := (HO6.out.lt b rfl)
    by_cases hk : 0 < k
    · have hk0 : (0 : Int) < (k : Int) := by omega
      go_wp2_with fail
      refine (pick_any B g (K + 2 + 2 * m) 12 (by omega) _ (by omega) HS6.out).mono ?_
      rintro e w6 ⟨x, rfl, ⟨hy0, hy1, hy2⟩, hs6, hg6⟩
      have hxx : 0 ≤ x ∧ x < 12 := by omega
      have G6 := Lib.hid (gb_trans HG6.out hg6)
      have O6 : Hid (w6.ownsRow w.heap.size 2 1 (.slice (some ⟨b, 0, none⟩) m c) m (ss.map (Value.int .i64))) := HO6.out.kept hg6 (.inr (by simp [Value.ownBlock]; omega))
      have S6 := Lib.hid hs6
      have hz6 := G6.out.size
      generalize hxs : ss.map (Value.int .i64) = xs at O6
      have HXS := Lib.hid hxs
      have HGE : Hid (∀ q, (Value.slice (some ⟨b, 0, none⟩) m c).ownBlock = some q → w.heap.size ≤ q) := fun q hq => (O6.out.lt q hq).1
      have hx0 := hxx.1
      have hx1 := hxx.2
      clear hs6 hg6 HS6 HG6 HO6 hxs hy0 hy1 hy2 hxx
      go_wp2_with (first | (at_builtin; refine wpList_append_lies _ rfl _ _ 24 rfl w.heap.size 2 HI.out.choose (.int .i64 0) 1 8 Try.underlying24 HI.out.choose_spec.1 HI.out.choose_spec.2.1 HI.out.choose_spec.2.2.1 HI.out.choose_spec.2.2.2 rfl (by decide) (.slice (some ⟨b, 0, none⟩) m c) m xs rfl (O6.out.alloc _) ⟨w6.heap.size, 0, none⟩ 1 1 [.int .i64 (1 + x)] rfl rfl ?_ (by intro u hu; simp at hu; subst hu; rfl) (by omega) (by unfold maxLen; omega) (by omega) (by simp; omega) _ rfl ?_; (next => (intro j u hj; match j, hj with | 0, hj => (simp at hj; subst hj; simp [Addr.add, go_sem])))))
      intro g8 cap8 w8 hown8 hgrow8 _ _
      have G8 : Hid (w.grownBy w8 (some g)) := gb_own (gb_alloc G6.out _) hgrow8 HGE.out
      have S8 : Hid (Src B g (K + 2 + 2 * (m + 1)) w8) := ((S6.out.below (by repeat (first | exact Below.refl _ _ | refine Below.alloc ?_ (by simp; try omega) _ | refine Below.setCell ?_ (by simp; try omega) _))).own hgrow8 HGE.out hgl).more (by omega)
      have X8 : Hid (w8.ownsRow w.heap.size 2 1 (.slice (some ⟨g8, 0, none⟩) (m + 1) cap8) (m + 1) ((ss ++ [1 + x]).map (Value.int .i64))) := by
        unfold Hid; rw [List.map_append, HXS.out]; exact hown8
      have N8 : Hid ((ss ++ [1 + x]).length = m + 1) := by unfold Hid; rw [List.length_append, HN.out]; rfl
      have Z8 : Hid (∀ z ∈ ss ++ [1 + x], 1 ≤ z ∧ z ≤ 12) := fun z hz => by
        rcases List.mem_append.1 hz with hz | hz
        · exact HZ.out z hz
        · simp at hz; subst hz; omega
      clear hown8 hgrow8 S6 O6
      go_wp2
      go_roundw
      case rel => exact ⟨k - 1, m + 1, g8, cap8, ss ++ [1 + x], by omega, by congr 1; omega, rfl, N8.out, Z8.out, S8.out, G8.out, X8.out⟩
      case measure => simp [intOf]; omega
    · have hk' : k = 0 := by omega
      subst hk'
      have HR : Hid (DrawnI B g (K + 20) (fun l => 1 ≤ l.length ∧ l.length ≤ 6 ∧ ∀ x ∈ l, 1 ≤ x ∧ x ≤ 12) w (.returned (.slice (some ⟨b, 0, none⟩) m c)) wr) := ⟨ss, b, m, c, rfl, HN.out, ⟨by rw [HN.out]; omega, by rw [HN.out]; omega, HZ.out⟩, HS6.out.more (by omega), HG6.out, HO6.out⟩
      go_wp2
      go_ret
      exact HR.out

set_option maxRecDepth 100000 in
set_option maxHeartbeats 8000000 in
theorem drawWay_any (B g K : Nat) (tubes : Nat) (ht : 1 ≤ tubes) (ht2 : tubes ≤ 1000) (w : World) (hK : K < 10000000) (h : Src B g K w) :
    Calls Try.prog 69 #[.pointer (some ⟨g, 0, none⟩), .int .i64 (tubes : Int)] w (DrawnI B g (K + 20) (fun l => 1 ≤ l.length ∧ l.length ≤ 4 ∧ ∀ x ∈ l, 0 ≤ x ∧ x < (tubes : Int)) w) := by
  have HI : Hid (∃ i0 : TypeInfo, Try.prog.info? 2 = some i0 ∧ i0.zero = some (.int .i64 0) ∧ i0.size = 1 ∧ i0.bytes = 8) := info_parts info2
  have hgl := h.lt
  go_enter Try.func69, Try.ntmps69
  go_wp2_with fail
  refine (pick_any B g K 4 (by omega) _ (by omega) (h.below (by repeat (first | exact Below.refl _ _ | refine Below.alloc ?_ (by simp; try omega) _ | refine Below.setCell ?_ (by simp; try omega) _)))).mono ?_
  rintro e w1 ⟨x1, rfl, ⟨hx0, hx1, hx2⟩, hs1, hg1⟩
  have hxN : x1 ≤ 3 := by omega
  obtain ⟨N, rfl⟩ : ∃ N : Nat, x1 = N := ⟨x1.toNat, by omega⟩
  have hN : N ≤ 3 := by omega
  have G1 := Lib.hid (gb_trans (gb_alloc (grown_refl w (some g)) (.cells #[] 2)) hg1)
  have O1 : Hid (w1.ownsRow w.heap.size 2 1 (.slice (some ⟨w.heap.size, 0, none⟩) 0 0) 0 []) := (World.ownsRow_made w #[] 0 (Nat.le_refl _) (by unfold maxLen; omega) rfl).kept hg1 (.inr (by simp [Value.ownBlock]; omega))
  have S1 := Lib.hid hs1
  clear hs1 hg1 hx0 hx1 hx2 h hxN
  go_wp2
  go_loopw [5, 6] (fun q kv wr => ∃ (k m b c : Nat) (ss : List Int), k + m = N + 1 ∧ kv = .int .i64 (k : Int) ∧ q = .slice (some ⟨b, 0, none⟩) m c ∧ Hid (ss.length = m) ∧ Hid (∀ x ∈ ss, 0 ≤ x ∧ x < (tubes : Int)) ∧ Hid (Src B g (K + 2 + 2 * m) wr) ∧ Hid (w.grownBy wr (some g)) ∧ Hid (wr.ownsRow w.heap.size 2 1 (.slice (some ⟨b, 0, none⟩) m c) m (ss.map (Value.int .i64)))) (fun _ kv _ => (intOf kv).toNat)
  case atStart => exact ⟨N + 1, 0, _, _, [], by omega, by go_num, rfl, rfl, fun x hx => by simp at hx, S1.out, G1.out, O1.out⟩
  case round =>
    obtain ⟨k, m, b, c, ss, hkm, rfl, rfl, HN, HZ, HS6, HG6, HO6⟩ := hrel
    have hbw := (HO6.out.lt b rfl)
    by_cases hk : 0 < k
    · have hk0 : (0 : Int) < (k : Int) := by omega
      go_wp2_with fail
      refine (pick_any B g (K + 2 + 2 * m) (tubes : Int) (by omega) _ (by omega) HS6.out).mono ?_
      rintro e w6 ⟨x, rfl, ⟨hy0, hy1, hy2⟩, hs6, hg6⟩
      have hxx : 0 ≤ x ∧ x < (tubes : Int) := by omega
      have G6 := Lib.hid (gb_trans HG6.out hg6)
      have O6 : Hid (w6.ownsRow w.heap.size 2 1 (.slice (some ⟨b, 0, none⟩) m c) m (ss.map (Value.int .i64))) := HO6.out.kept hg6 (.inr (by simp [Value.ownBlock]; omega))
      have S6 := Lib.hid hs6
      have hz6 := G6.out.size
      generalize hxs : ss.map (Value.int .i64) = xs at O6
      have HXS := Lib.hid hxs
      have HGE : Hid (∀ q, (Value.slice (some ⟨b, 0, none⟩) m c).ownBlock = some q → w.heap.size ≤ q) := fun q hq => (O6.out.lt q hq).1
      have hx0 := hxx.1
      have hx1 := hxx.2
      clear hs6 hg6 HS6 HG6 HO6 hxs hy0 hy1 hy2 hxx
      go_wp2_with (first | (at_builtin; refine wpList_append_lies _ rfl _ _ 24 rfl w.heap.size 2 HI.out.choose (.int .i64 0) 1 8 Try.underlying24 HI.out.choose_spec.1 HI.out.choose_spec.2.1 HI.out.choose_spec.2.2.1 HI.out.choose_spec.2.2.2 rfl (by decide) (.slice (some ⟨b, 0, none⟩) m c) m xs rfl (O6.out.alloc _) ⟨w6.heap.size, 0, none⟩ 1 1 [.int .i64 (x)] rfl rfl ?_ (by intro u hu; simp at hu; subst hu; rfl) (by omega) (by unfold maxLen; omega) (by omega) (by simp; omega) _ rfl ?_; (next => (intro j u hj; match j, hj with | 0, hj => (simp at hj; subst hj; simp [Addr.add, go_sem])))))
      intro g8 cap8 w8 hown8 hgrow8 _ _
      have G8 : Hid (w.grownBy w8 (some g)) := gb_own (gb_alloc G6.out _) hgrow8 HGE.out
      have S8 : Hid (Src B g (K + 2 + 2 * (m + 1)) w8) := ((S6.out.below (by repeat (first | exact Below.refl _ _ | refine Below.alloc ?_ (by simp; try omega) _ | refine Below.setCell ?_ (by simp; try omega) _))).own hgrow8 HGE.out hgl).more (by omega)
      have X8 : Hid (w8.ownsRow w.heap.size 2 1 (.slice (some ⟨g8, 0, none⟩) (m + 1) cap8) (m + 1) ((ss ++ [x]).map (Value.int .i64))) := by
        unfold Hid; rw [List.map_append, HXS.out]; exact hown8
      have N8 : Hid ((ss ++ [x]).length = m + 1) := by unfold Hid; rw [List.length_append, HN.out]; rfl
      have Z8 : Hid (∀ z ∈ ss ++ [x], 0 ≤ z ∧ z < (tubes : Int)) := fun z hz => by
        rcases List.mem_append.1 hz with hz | hz
        · exact HZ.out z hz
        · simp at hz; subst hz; omega
      clear hown8 hgrow8 S6 O6
      go_wp2
      go_roundw
      case rel => exact ⟨k - 1, m + 1, g8, cap8, ss ++ [x], by omega, by congr 1; omega, rfl, N8.out, Z8.out, S8.out, G8.out, X8.out⟩
      case measure => simp [intOf]; omega
    · have hk' : k = 0 := by omega
      subst hk'
      have HR : Hid (DrawnI B g (K + 20) (fun l => 1 ≤ l.length ∧ l.length ≤ 4 ∧ ∀ x ∈ l, 0 ≤ x ∧ x < (tubes : Int)) w (.returned (.slice (some ⟨b, 0, none⟩) m c)) wr) := ⟨ss, b, m, c, rfl, HN.out, ⟨by rw [HN.out]; omega, by rw [HN.out]; omega, HZ.out⟩, HS6.out.more (by omega), HG6.out, HO6.out⟩
      go_wp2
      go_ret
      exact HR.out
end Go.Proofs.Ytgjbahnloladfaa
