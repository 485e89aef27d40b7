/-
  The source of choices from which the laws draw their inputs: its state in memory, and the walks of its methods.
-/
import Derived.Test.YtiilgeoahpnkpaaMem
import Derived.Test.YtiilgeoahpnkpaaProg
import Derived.Outline
import Derived.LoopTactic
import Derived.BigQuiet
import Derived.Deep.QuietTactic
import Derived.Deep.RegionHeld3
namespace Go.Proofs.Ytiilgeoahpnkpaa
open Go.RowKit

/-- The bytes of a code lie in memory, below a bound. -/
def CodeIn (B : Nat) (a : Option Addr) (n : Nat) (w : World) : Prop := n = 0 ∨ ∃ b off, a = some ⟨b, off, none⟩ ∧ b < B ∧ ∀ i : Nat, i < n → ∃ x : Int, 0 ≤ x ∧ x ≤ 255 ∧ w.cell? ⟨b, off + i, none⟩ = some (.int .u8 x)
theorem CodeIn.same {B : Nat} {a : Option Addr} {n : Nat} {w w' : World} (h : CodeIn B a n w) (hs : ∀ b o, b < B → w'.cell? ⟨b, o, none⟩ = w.cell? ⟨b, o, none⟩) : CodeIn B a n w' := by
  rcases h with h | ⟨b, off, ha, hb, hc⟩
  · exact .inl h
  · refine .inr ⟨b, off, ha, hb, fun i hi => ?_⟩
    obtain ⟨x, h0, h1, hx⟩ := hc i hi
    exact ⟨x, h0, h1, (hs b _ hb).trans hx⟩
/-- A source at block g, of which at most K bytes have been read. -/
def Src (B g K : Nat) (w : World) : Prop := B ≤ g ∧ ∃ (a : Option Addr) (n c t : Nat) (s : Int), CodeIn B a n w ∧ n ≤ 4096 ∧ t ≤ K ∧ w.heap[g]? = some (.cells #[.slice a n c, .int .i64 (t : Int), .int .u64 s] 111 (0, 0))
theorem Src.lt {B g K : Nat} {w : World} (h : Src B g K w) : g < w.heap.size := by
  obtain ⟨_, a, n, c, t, s, _, _, _, hg⟩ := h
  exact (Array.getElem?_eq_some_iff.1 hg).1
theorem Src.more {B g K L : Nat} {w : World} (h : Src B g K w) (hl : K ≤ L) : Src B g L w := by
  obtain ⟨h0, a, n, c, t, s, h1, h2, h3, h4⟩ := h
  exact ⟨h0, a, n, c, t, s, h1, h2, by omega, h4⟩
theorem Src.below {B g K : Nat} {w w' : World} (h : Src B g K w) (hb : Below w.heap.size w w') : Src B g K w' := by
  have hlt := h.lt
  obtain ⟨h0, a, n, c, t, s, h1, h2, h3, h4⟩ := h
  exact ⟨h0, a, n, c, t, s, h1.same (fun b o hbB => hb.cell (p := ⟨b, o, none⟩) (by simp; omega)), h2, h3, (hb.block g hlt).trans h4⟩
theorem Src.other {B g K h : Nat} {w w' : World} (hs : Src B g K w) (hg : w.grownBy w' (some h)) (hne : g < h) : Src B g K w' := by
  have hlt := hs.lt
  obtain ⟨h0, a, n, c, t, s, h1, h2, h3, h4⟩ := hs
  exact ⟨h0, a, n, c, t, s, h1.same (fun b o hbB => World.cell?_of_block (w := w) (hg.block b (by omega) (by simp; omega))), h2, h3, (hg.block g hlt (by simp; omega)).trans h4⟩
/-- A call hands back a number within bounds, and turns nothing but the source. -/
def Picks (B g K : Nat) (Q : Int → Prop) (w : World) (e : Ending) (w' : World) : Prop := ∃ x : Int, e = .returned (.int .i64 x) ∧ Q x ∧ Src B g K w' ∧ w.grownBy w' (some g)
theorem gb_trans {a b c : World} {g : Nat} (h : a.grownBy b (some g)) (k : b.grownBy c (some g)) : a.grownBy c (some g) :=
  ⟨k.os.trans h.os, k.tape.trans h.tape, k.output.trans h.output, Nat.le_trans h.size k.size, fun i hi hne => (k.block i (Nat.lt_of_lt_of_le hi h.size) hne).trans (h.block i hi hne)⟩
theorem gb_drewN {a b : World} {g : Option Nat} (h : a.grownBy b g) (n : Nat) : a.grownBy (b.drewN n) g := ⟨h.os, h.tape, h.output, h.size, h.block⟩
theorem gb_drewN_left {a b : World} {g : Option Nat} (n : Nat) (h : (a.drewN n).grownBy b g) : a.grownBy b g := ⟨h.os, h.tape, h.output, h.size, h.block⟩
theorem heap_drewN_same (W : World) (n g : Nat) : (W.drewN n).heap[g]? = W.heap[g]? := rfl
theorem and_255 (a : Int) : 0 ≤ wrap64 (bits BinOp.and IntKind.u64 a 255) ∧ wrap64 (bits BinOp.and IntKind.u64 a 255) ≤ 255 := by
  have e : bits BinOp.and IntKind.u64 a 255 = IntKind.u64.wrap ((BitVec.ofInt 64 a &&& BitVec.ofInt 64 255).toNat : Int) := rfl
  have h1 : (BitVec.ofInt 64 a &&& BitVec.ofInt 64 255).toNat ≤ 255 := by
    rw [BitVec.toNat_and]
    exact Nat.and_le_right
  rw [e, IntKind.wrap_u64]
  unfold wrap64
  omega
/-- What one step of the source leaves in memory. -/
theorem src_tick {B g K n c t : Nat} {a : Option Addr} {s s' : Int} {w w' : World} (h0 : B ≤ g) (hc : CodeIn B a n w) (h1 : n ≤ 4096) (h2 : t ≤ K) (hb : Below g w w')
    (hh : w'.heap[g]? = some (.cells ((#[.slice a n c, .int .i64 (t : Int), .int .u64 s].setIfInBounds 1 (.int .i64 ((t : Int) + 1))).setIfInBounds 2 (.int .u64 s')) 111 (0, 0))) : Src B g (K + 1) w' :=
  ⟨h0, a, n, c, t + 1, s', hc.same (fun b o hbB => hb.cell (p := ⟨b, o, none⟩) (by simp; omega)), h1, by omega, hh⟩

set_option maxRecDepth 100000 in
set_option maxHeartbeats 4000000 in
theorem next_any (B g K : Nat) (w : World) (hK : K < 1000000000) (h : Src B g K w) :
    Calls Try.prog 102 #[.pointer (some ⟨g, 0, none⟩)] w (Picks B g (K + 1) (fun x => 0 ≤ x ∧ x ≤ 255) w) := by
  have HS := Lib.hid h
  obtain ⟨h0, a, n, c, t, s, hc, h1, h2, h3⟩ := h
  have q0 := cell_of_row w g 0 _ _ _ h3
  have q1 := cell_of_row w g 1 _ _ _ h3
  have q2 := cell_of_row w g 2 _ _ _ h3
  have z1 := frozen_of_row w g 1 _ _ h3
  have z2 := frozen_of_row w g 2 _ _ h3
  simp only [List.getElem?_toArray, List.getElem?_cons_zero, List.getElem?_cons_succ] at q0 q1 q2
  have H3 := Lib.hid h3
  have HC := Lib.hid hc
  clear h3
  by_cases ht : t < n
  · rcases hc with rfl | ⟨b, off, rfl, hb, hcell⟩
    · omega
    obtain ⟨x, hx0, hx1, hx⟩ := hcell t ht
    clear hcell
    have htd : decide ((t : Int) < (n : Int)) = true := by simp; omega
    have htd' : decide (t < n) = true := by simp; omega
    have htl : decide ((t : Int) + 1 ≤ (n : Int)) = true := by simp; omega
    have htl' : decide (t + 1 ≤ n) = true := by simp; omega
    have ht0 : (0 : Int) ≤ (t : Int) := by omega
    have ht1 : (t : Int) < (n : Int) := by omega
    go_enter Try.func102, Try.ntmps102
    go_wp2
    go_quiet (fail)
    go_wp2
    go_quiet (fail)
    go_wp2
    go_quiet (fail)
    go_wp2
    go_ret
    refine ⟨_, rfl, ⟨hx0, hx1⟩, src_tick (c := c) (s := s) (s' := ?s') h0 HC.out h1 h2 (by (repeat (first | exact Below.refl _ _ | refine Below.drew ?_ | refine Below.drewN' ?_ _ | refine Below.alloc ?_ (by first | (simp; done) | (simp; omega)) _ | refine Below.setCell ?_ (by first | (simp; done) | (simp; omega)) _)); done) ?_, ?_⟩
    case refine_1 =>
      refine (heap_drewN_same _ _ _).trans ?_
      refine heap_setCell_same _ _ _ _ _ _ ?_
      refine heap_setCell_same _ _ _ _ _ _ ?_
      exact H3.out
    case refine_2 => repeat (first | exact grown_refl _ _ | refine gb_drewN ?_ _ | refine grown_setCell ?_ _)
  · have htd : decide ((t : Int) < (n : Int)) = false := by simp; omega
    have htd' : decide (t < n) = false := by simp; omega
    have htl : decide ((t : Int) + 1 ≤ (n : Int)) = false := by simp; omega
    have htl' : decide (t + 1 ≤ n) = false := by simp; omega
    go_enter Try.func102, Try.ntmps102
    go_wp2
    go_quiet (fail)
    go_wp2
    go_quiet (fail)
    go_wp2
    go_ret
    refine ⟨_, rfl, and_255 _, src_tick (c := c) (s := s) (s' := ?s2) h0 HC.out h1 h2 (by (repeat (first | exact Below.refl _ _ | refine Below.drew ?_ | refine Below.drewN' ?_ _ | refine Below.alloc ?_ (by first | (simp; done) | (simp; omega)) _ | refine Below.setCell ?_ (by first | (simp; done) | (simp; omega)) _)); done) ?_, ?_⟩
    case refine_1 =>
      try refine (heap_drewN_same _ _ _).trans ?_
      refine heap_setCell_same _ _ _ _ _ _ ?_
      refine heap_setCell_same _ _ _ _ _ _ ?_
      exact H3.out
    case refine_2 => repeat (first | exact grown_refl _ _ | refine gb_drewN ?_ _ | refine grown_setCell ?_ _)

theorem mod_most {x m c : Int} (h0 : 0 ≤ x) (h1 : x ≤ c) (hm : 0 < m) : x % m ≤ c := by
  by_cases h : x < m
  · rw [Int.emod_eq_of_lt h0 h]; exact h1
  · have := Int.emod_lt_of_pos x hm
    omega
set_option maxRecDepth 100000 in
set_option maxHeartbeats 4000000 in
theorem pick_any (B g K : Nat) (m : Int) (hm : m ≤ 9223372036854775807) (w : World) (hK : K < 999999999) (h : Src B g K w) :
    Calls Try.prog 69 #[.pointer (some ⟨g, 0, none⟩), .int .i64 m] w (Picks B g (K + 2) (fun x => 0 ≤ x ∧ x ≤ 65535 ∧ (x < m ∨ x = 0)) w) := by
  by_cases hm1 : m ≤ 1
  · go_enter Try.func69, Try.ntmps69
    go_wp2
    go_ret
    exact ⟨0, rfl, ⟨by omega, by omega, .inr rfl⟩, h.more (by omega), grown_refl _ _⟩
  · by_cases hm2 : m ≤ 200
    · go_enter Try.func69, Try.ntmps69
      go_wp2_with (go_at_call 102; refine (next_any B g K _ (by omega) h).mono ?_; rintro e w1 ⟨x, rfl, ⟨hx0, hx1⟩, hs, hg⟩)
      go_ret
      exact ⟨_, rfl, ⟨Int.emod_nonneg _ (by omega), mod_most (by omega) (by omega) (by omega), .inl (Int.emod_lt_of_pos _ (by omega))⟩, hs.more (by omega), hg⟩
    · go_enter Try.func69, Try.ntmps69
      go_wp2_with (first | (go_at_call 102; refine (next_any B g K _ (by omega) h).mono ?_; rintro e w1 ⟨x, rfl, ⟨hx0, hx1⟩, hs, hg⟩) | (go_at_call 102; refine (next_any B g (K + 1) _ (by omega) hs).mono ?_; rintro e w2 ⟨y, rfl, ⟨hy0, hy1⟩, hs2, hg2⟩))
      go_ret
      exact ⟨_, rfl, ⟨Int.emod_nonneg _ (by omega), mod_most (by omega) (by omega) (by omega), .inl (Int.emod_lt_of_pos _ (by omega))⟩, hs2.more (by omega), gb_trans hg hg2⟩

/-- A call hands back a truth, and turns nothing but the source. -/
def Says (B g K : Nat) (w : World) (e : Ending) (w' : World) : Prop := ∃ x : Bool, e = .returned (.bool x) ∧ Src B g K w' ∧ w.grownBy w' (some g)
set_option maxRecDepth 100000 in
theorem one_any (B g K : Nat) (m : Int) (hm : m ≤ 9223372036854775807) (w : World) (hK : K < 999999999) (h : Src B g K w) :
    Calls Try.prog 67 #[.pointer (some ⟨g, 0, none⟩), .int .i64 m] w (Says B g (K + 2) w) := by
  go_enter Try.func67, Try.ntmps67
  go_wp2_with (go_at_call 69; refine (pick_any B g K m hm _ hK h).mono ?_; rintro e w1 ⟨x, rfl, ⟨hx0, hx2, hx1⟩, hs, hg⟩)
  go_ret
  exact ⟨_, rfl, hs, hg⟩
set_option maxRecDepth 100000 in
theorem among_any (B g K b off : Nat) (ns : List Int) (n c : Nat) (w : World) (hK : K < 999999999) (h : Src B g K w) (hn : Hid (ns.length = n)) (hp : 0 < n) (hmax : n ≤ 1048576) (hne : b ≠ g) (ha : Hid (∀ i (h : i < ns.length), w.cell? ⟨b, off + i, none⟩ = some (.int .i64 ns[i]))) :
    Calls Try.prog 68 #[.pointer (some ⟨g, 0, none⟩), .slice (some ⟨b, off, none⟩) n c] w (Picks B g (K + 2) (fun x => x ∈ ns) w) := by
  have hb : b < w.heap.size := World.block_lt_of_cell? w _ (ha.out 0 (by have := hn.out; omega))
  go_enter Try.func68, Try.ntmps68
  go_wp2_with fail
  refine (pick_any B g K (n : Int) (by omega) _ hK h).mono ?_
  rintro e w1 ⟨x, rfl, ⟨hx0, hx2, hx1⟩, hs, hg⟩
  obtain ⟨k, rfl⟩ : ∃ k : Nat, x = k := ⟨x.toNat, by omega⟩
  have hk : k < ns.length := by rw [hn.out]; omega
  have hk1 : (k : Int) < (n : Int) := by omega
  have x1 := ha.out k hk
  have hm : ns[k] ∈ ns := List.getElem_mem hk
  generalize ns[k] = y at x1 hm
  rw [← World.cell?_of_block (w := w) (w' := w1) (hg.block b hb (by simp; omega))] at x1
  have HM := Lib.hid hm
  clear hm
  go_wp2
  go_ret
  exact ⟨_, rfl, HM.out, hs, hg⟩
/-- A call hands back one of some texts, and turns nothing but the source. -/
def PickT (B g K : Nat) (Q : ByteArray → Prop) (w : World) (e : Ending) (w' : World) : Prop := ∃ x : ByteArray, e = .returned (.string x) ∧ Q x ∧ Src B g K w' ∧ w.grownBy w' (some g)
set_option maxRecDepth 100000 in
theorem from_any (a : Option Addr) (n c : Nat) (w : World) (hc : CodeIn w.heap.size a n w) (h1 : n ≤ 4096) :
    Calls Try.prog 54 #[.slice a n c] w fun e w' => ∃ g, e = .returned (.pointer (some ⟨g, 0, none⟩)) ∧ Src w.heap.size g 0 w' ∧ Below w.heap.size w w' := by
  go_enter Try.func54, Try.ntmps54
  go_wp2
  go_ret
  refine ⟨_, rfl, ⟨Nat.le_refl _, a, n, c, 0, 0, ?_, h1, Nat.le_refl _, heap_alloc_new w _⟩, (by (repeat (first | exact Below.refl _ _ | refine Below.drew ?_ | refine Below.drewN' ?_ _ | refine Below.alloc ?_ (by first | (simp; done) | (simp; omega)) _ | refine Below.setCell ?_ (by first | (simp; done) | (simp; omega)) _)); done)⟩
  exact hc.same (fun b o hb => (show Below w.heap.size w _ from (by (repeat (first | exact Below.refl _ _ | refine Below.drew ?_ | refine Below.drewN' ?_ _ | refine Below.alloc ?_ (by first | (simp; done) | (simp; omega)) _ | refine Below.setCell ?_ (by first | (simp; done) | (simp; omega)) _)); done)).cell (p := ⟨b, o, none⟩) hb)
theorem min_any (x y : Int) (w : World) : Calls Try.prog 83 #[.int .i64 x, .int .i64 y] w fun e w' => e = .returned (.int .i64 (min x y)) ∧ w = w' := by
  by_cases h : x < y
  · go_enter Try.func83, Try.ntmps83
    go_wp2
    go_ret
    exact ⟨ret_int (by omega), rfl⟩
  · go_enter Try.func83, Try.ntmps83
    go_wp2
    go_ret
    exact ⟨ret_int (by omega), rfl⟩
end Go.Proofs.Ytiilgeoahpnkpaa
