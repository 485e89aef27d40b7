/-
  The draw of CostOfMoves.
-/
import Derived.Test.YtabopjdcpllocaaDraw11
namespace Go.Proofs.Ytabopjdcpllocaa
open Go.RowKit

/-- Moves and costs as they are drawn. -/
def GivesMC (w : World) (e : Ending) (w' : World) : Prop :=
  ∃ (ts : List TMove) (a n c : Nat) (cs : List TInt64S) (a2 off n2 c2 : Nat), e = .returned (.tuple #[.slice (some ⟨a, 0, none⟩) n c, .slice (some ⟨a2, off, none⟩) n2 c2]) ∧ Hid (ts.length = n) ∧ n ≤ 41 ∧ Hid (wfMoves ts) ∧ Hid (cs.length = n2) ∧ n2 ≤ 11 ∧ Hid (∀ t ∈ cs, wfInt64S t) ∧ Below w.heap.size w w' ∧ RR 3 cMove w' (some ⟨a, 0, none⟩) ts ∧ RN 1048576 1 cInt64S w' (some ⟨a2, off, none⟩) cs

set_option maxRecDepth 100000 in
set_option maxHeartbeats 8000000 in
theorem drawCostOfMoves_any (a : Option Addr) (n c : Nat) (w : World) (hc : CodeIn w.heap.size a n w) (h1 : n ≤ 4096) : Calls Try.prog 32 #[.slice a n c] w (GivesMC w) := by
  have FR := from_any a n c _ hc h1
  clear hc
  go_enter Try.func32, Try.ntmps32
  go_wp2_with fail
  refine FR.mono ?_
  rintro e w1 ⟨g, rfl, hs1, hb1⟩
  have hgw : w.heap.size ≤ g := hs1.1
  have hgl := hs1.lt
  have B1 := Lib.hid hb1
  clear hb1 FR
  go_wp2_with fail
  refine (pick_any _ g 0 4 (by omega) _ (by omega) hs1).mono ?_
  rintro e w2 ⟨x1, rfl, ⟨hx0, hx1, hx2⟩, hs2, hg2⟩
  obtain ⟨N, rfl⟩ : ∃ N : Nat, x1 = N := ⟨x1.toNat, by omega⟩
  have hN : N ≤ 3 := by omega
  clear hx0 hx1 hx2 hs1
  go_upto_if 13 with (go_at_call 61; refine (one_any _ g _ 12 (by omega) _ (by omega) hs2).mono ?_; rintro e w4 ⟨bo, rfl, hs4, hg4⟩)
  have G4 := Lib.hid (gb_trans hg2 hg4)
  have S4 := Lib.hid hs4
  clear hs4 hg4 hs2 hg2
  go_cut [5] (fun q wx => ∃ nn : Nat, q = .int .i64 (nn : Int) ∧ 1 ≤ nn ∧ nn ≤ 11 ∧ Hid (Src w.heap.size g 6 wx) ∧ Hid (w1.grownBy wx (some g)))
  case first =>
    cases bo with
    | false =>
      go_wp2_with fail
      go_meet
      exact ⟨N + 2, by go_num, by omega, by omega, S4.out.more (by omega), G4⟩
    | true =>
      go_wp2_with fail
      refine (among_new _ g _ [1, 10, 11] 3 w4 (by omega) S4.out rfl (by omega) (by omega)).mono ?_
      rintro e w5 ⟨v, rfl, hv, hs5, hg5⟩
      have hvb : 1 ≤ v ∧ v ≤ 11 := by simp at hv; omega
      obtain ⟨nn, rfl⟩ : ∃ nn : Nat, v = nn := ⟨v.toNat, by omega⟩
      have G5 := Lib.hid (gb_trans G4.out hg5)
      have S5 : Hid (Src w.heap.size g 6 w5) := hs5.more (by omega)
      clear hs5 hg5 hv
      go_wp2_with fail
      go_meet
      exact ⟨nn, rfl, by omega, by omega, S5, G5⟩
  case rest =>
    obtain ⟨nn, rfl, hn1, hn2, S5, G5⟩ := hcut
    generalize wc = w5 at *
    clear G4 S4
    go_wp2_with fail
    refine (drawMoves_any _ g _ nn hn2 _ (by omega) S5.out).mono ?_
    rintro e w6 ⟨ts, b, m, cb, rfl, hm, hm41, hwf, hs6, hg6, ho6⟩
    have G6 := Lib.hid (gb_trans G5.out hg6)
    have hgl5 := S5.out.lt
    clear hg6
    go_wp2_with fail
    refine (drawCosts_any _ g _ nn ⟨hn1, hn2⟩ _ (by omega) hs6).mono ?_
    rintro e w7 ⟨cs, a2, off, n2, c2, rfl, hm2, hn11, hrn, hwc, hs7, hg7⟩
    have G7 := gb_trans G6.out hg7
    have HR : Hid (GivesMC w (.returned (.tuple #[.slice (some ⟨b, 0, none⟩) m cb, .slice (some ⟨a2, off, none⟩) n2 c2])) w7) := ⟨ts, b, m, cb, cs, a2, off, n2, c2, rfl, hm, hm41, hwf, hm2, hn11, hwc, B1.out.grown G7 B1.out.size (fun k hk => by injection hk with hk; omega), own_RR cMove_len hm (own_src ho6 hg7 hgl5), hrn.out⟩
    clear hs6 hs7 hg7 G7 ho6
    go_wp2
    go_ret2
    exact HR.out
end Go.Proofs.Ytabopjdcpllocaa
