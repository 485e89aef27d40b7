/-
  Guests that can go when others have gone: the program's changed with no guests, goersAfter; maps that remember.
-/
import Derived.Test.YtkfeihnapcfkgaaDoorRoomMost
import Derived.Test.YtkfeihnapcfkgaaDoorRoomsQ
import Derived.Test.YtkfeihnapcfkgaaDoorHeldMap
namespace Go.Proofs.YtkfeihnapcfkgaaDoor
open Go.RowKit Go.Maps Go.ChangeShapes

set_option maxHeartbeats 2000000 in
theorem changedNone_any (bb ob d : Nat) (f : Value) (w : World) (hT : BitTab w) :
    Calls Tryd.prog 55 #[.slice (some ⟨bb, ob, none⟩) 0 d, .int .u64 0, f] w fun e w' => e = .returned (.slice (some ⟨bb, ob, none⟩) 0 0) ∧ Below w.heap.size w w' := by
  have ME := members_any (fun _ => false) 0 w (by omega) hT
  have e1 : setN (fun _ => false) 0 = 0 := rfl
  have e2 : filtN (fun _ => false) 0 = [] := rfl
  rw [e1, e2] at ME
  have ME := Lib.hid ME
  clear hT e1 e2
  go_enter Tryd.func55, Tryd.ntmps55
  go_wp2_with (go_at_call 46; refine ME.out.mono ?_; rintro e w2 ⟨hb2, ao, cap, rfl, ho⟩; clear ho; dsimp only [List.length_nil])
  go_loopw [17] (fun iv wr => iv = .int .i64 0 ∧ Hid (Below w.heap.size w wr)) (fun _ _ => 0)
  case atStart => exact ⟨rfl, hb2⟩
  case round =>
    obtain ⟨rfl, HBEL⟩ := hrel
    go_wp2
    go_ret
    exact ⟨rfl, HBEL.out⟩

/-- A box of an exchange: its rooms, its guests, its memory. -/
structure ExcAt (wb : World) (xb mb : Nat) (v0 v1 : Value) (w : World) : Prop where
  bel : Below wb.heap.size wb w
  lo : wb.heap.size ≤ mb
  lt : mb < xb
  c0 : w.cell? ⟨xb, 0, none⟩ = some v0
  c1 : w.cell? ⟨xb, 1, none⟩ = some v1
  c2 : w.cell? ⟨xb, 2, none⟩ = some (.map (some mb))
theorem ExcAt.size {wb : World} {xb mb : Nat} {v0 v1 : Value} {w : World} (h : ExcAt wb xb mb v0 v1 w) : xb < w.heap.size := World.block_lt_of_cell? w _ h.c0
theorem ExcAt.below {wb : World} {xb mb : Nat} {v0 v1 : Value} {w w' : World} (h : ExcAt wb xb mb v0 v1 w) (hb : Below w.heap.size w w') : ExcAt wb xb mb v0 v1 w' :=
  ⟨two_worlds h.bel hb, h.lo, h.lt, kept_g hb h.c0, kept_g hb h.c1, kept_g hb h.c2⟩
theorem ExcAt.turned {wb : World} {xb mb : Nat} {v0 v1 : Value} {w w' : World} (h : ExcAt wb xb mb v0 v1 w) (ht : Turned mb (mb + 1) w w') : ExcAt wb xb mb v0 v1 w' := by
  have hx := h.size
  have hl := h.lt
  have hk : ∀ (o : Nat) (v : Value), w.cell? ⟨xb, o, none⟩ = some v → w'.cell? ⟨xb, o, none⟩ = some v := fun o v hc => (World.cell?_of_block (w := w) (a := ⟨xb, o, none⟩) (ht.block xb hx (.inr (by omega)))).trans hc
  exact ⟨h.bel.trans (ht.below h.lo h.bel.size), h.lo, h.lt, hk _ _ h.c0, hk _ _ h.c1, hk _ _ h.c2⟩

set_option maxHeartbeats 4000000 in
theorem goersAfter_any (wb : World) (xb mb bb ob b1 o1 n m c d s : Nat) (l : List Int) (ts : List TGuest) (w : World) (hx : ExcAt wb xb mb (.slice (some ⟨bb, ob, none⟩) n c) (.slice (some ⟨b1, o1, none⟩) m d) w)
    (hn : Hid (l.length = n)) (hm : Hid (ts.length = m)) (hl : RI wb (some ⟨bb, ob, none⟩) l) (ha : RR 2 cGuest wb (some ⟨b1, o1, none⟩) ts) (hn0 : 0 < n) (hsn : n ≤ 1048576) (hm8 : m ≤ 8) (hp : Pl l) (hg : guB n ts = true) (hT : BitTab wb) (hs : s < 2 ^ m) :
    Calls Tryd.prog 86 #[.pointer (some ⟨xb, 0, none⟩), .int .u64 (s : Int)] w fun e w' => e = .returned (.int .u64 ((setN (canS l ts s) m : Nat) : Int)) ∧ Below w.heap.size w w' := by
  have HXB := hx.size
  have HX := Lib.hid hx
  have HS : Hid (∀ w', Below w.heap.size w w' → w'.cell? ⟨xb, 0, none⟩ = some (.slice (some ⟨bb, ob, none⟩) n c) ∧ w'.cell? ⟨xb, 1, none⟩ = some (.slice (some ⟨b1, o1, none⟩) m d)) := fun w' h => ⟨(hx.below h).c0, (hx.below h).c1⟩
  have CH : Hid (∀ W, Below w.heap.size w W → Calls Tryd.prog 55 #[.slice (some ⟨b1, o1, none⟩) m d, .int .u64 (s : Int), .func (.func 57) #[] #[]] W fun e w' => ∃ g o cap, e = .returned (.slice (some ⟨g, o, none⟩) m cap) ∧ Below W.heap.size W w' ∧ RR 2 cGuest w' (some ⟨g, o, none⟩) (aftG ts s)) := fun W hW => by
    by_cases h0 : m = 0
    · subst h0
      have : s = 0 := by simpa using hs
      subst this
      have h1 : ts = [] := List.eq_nil_of_length_eq_zero hm.out
      subst h1
      exact (changedNone_any b1 o1 d _ W (hT.below (two_worlds hx.bel hW))).mono fun e w' h => ⟨b1, o1, 0, h.1, h.2, .inl rfl⟩
    · have := changedGone_any (fun i => s.testBit i) b1 o1 m d ts W hm (ha.below (two_worlds hx.bel hW)) (by omega) hm8 (hT.below (two_worlds hx.bel hW))
      rw [setN_self hs] at this
      refine this.mono ?_
      rintro e w' ⟨g, cap, rfl, hb, _, ho⟩
      exact ⟨g, 0, cap, rfl, hb, own_RR cGuest_len (by unfold Hid; rw [← hm.out]; exact aftG_len ts s) ho⟩
  have GO : Hid (∀ (W : World) (g o cap : Nat), Below w.heap.size w W → RR 2 cGuest W (some ⟨g, o, none⟩) (aftG ts s) → Calls Tryd.prog 45 #[.slice (some ⟨bb, ob, none⟩) n c, .slice (some ⟨g, o, none⟩) m cap] W fun e w' => e = .returned (.int .u64 ((setN (canS l ts s) m : Nat) : Int)) ∧ Below W.heap.size W w') := fun W g o cap hW hr => goers_any bb ob (some ⟨g, o, none⟩) l (aftG ts s) n m c cap W hn (by unfold Hid; rw [aftG_len]; exact hm.out) (hl.below (two_worlds hx.bel hW)) hr hn0 hsn hm8 hp (guB_aft hg s)
  clear hx hl ha hp hg hT hs
  go_enter Tryd.func86, Tryd.ntmps86
  go_wp2_with fail
  go_region_held3 (fun w' => w'.cell? ⟨xb, 0, none⟩ = some (.slice (some ⟨bb, ob, none⟩) n c) ∧ w'.cell? ⟨xb, 1, none⟩ = some (.slice (some ⟨b1, o1, none⟩) m d)) (first | exact HS.out _ (Below.refl _ _).drew | exact HS.out _ D2.out | exact HS.out _ D3.out) (first | (go_at_call 55; refine (CH.out _ (Below.refl _ _).drew).mono ?_; rintro e w2 ⟨g2, o2, cap2, rfl, hb2, hr2⟩; have D2 : Hid (Below w.heap.size w w2) := two_worlds (Below.refl _ _).drew hb2) | (go_at_call 45; refine (GO.out _ _ _ _ D2.out hr2).mono ?_; rintro e w3 ⟨rfl, hb3⟩; have D3 : Hid (Below w.heap.size w w3) := two_worlds D2.out hb3))
  all_goals
    go_wp2
    go_ret
    exact ⟨rfl, D3.out⟩

/-- A map of the call's own that remembers what a function says of some numbers. -/
def MemoG (P : Program) (k : TypeId) (b n : Nat) (M : Nat → Nat) (w : World) : Prop :=
  ∃ D : DataW Value, w.ownsMap P k asHeld b n D ∧ ∀ s : Nat, s < 256 → Maps.has D (.int .u64 s) = true → D.atKey (.int .u64 s) (.held (.int .i64 0)) = .held (.int .i64 (M s : Nat))
section
variable {P : Program} {k : TypeId} {b n : Nat} {M : Nat → Nat} {w w' : World}
theorem key64 (s : Nat) (h : s < 256) : (Lit.int .u64 (s : Int)).wf = true := WalkArith.wf_u64 (by omega)
theorem MemoG.made (w : World) (P : Program) (k : TypeId) (M : Nat → Nat) : MemoG P k w.heap.size 0 M (w.alloc (.map #[] 0)) := ⟨_, World.ownsMap_made w P k asHeld, fun s _ h => by simp [Maps.has] at h⟩
theorem MemoG.below (h : MemoG P k b n M w) (hb : Below w.heap.size w w') : MemoG P k b n M w' := let ⟨D, h1, h2⟩ := h; ⟨D, h1.kept (grown_below hb none) (by simp), h2⟩
theorem MemoG.mono (h : MemoG P k b n M w) {n' : Nat} (hn : n ≤ n') : MemoG P k b n' M w := let ⟨D, h1, h2⟩ := h; ⟨D, h1.mono hn, h2⟩
theorem MemoG.look {t e : TypeId} (h : MemoG P k b n M w) (hk : P.underlying k = some (.int .u64)) (ht : P.underlying t = some (.map k e)) (hz : (zeroValue e).run P w = .ok (.int .i64 0) w) {s : Nat} (hs : s < 256) :
    (∃ v, (Instr.lookup t (.map (some b)) (.int .u64 (s : Int)) true).run P w = .ok (.tuple #[v, .bool false]) w) ∨ (Instr.lookup t (.map (some b)) (.int .u64 (s : Int)) true).run P w = .ok (.tuple #[.int .i64 (M s : Nat), .bool true]) w := by
  obtain ⟨D, h1, h2⟩ := h
  obtain ⟨v, ps, hrun, hv⟩ := h1.look_ok (int_keyed hk) ht hz (zd := .held (.int .i64 0)) (zp := []) rfl (keyOf_int_mk hk (key64 s hs))
  cases hh : Maps.has D (.int .u64 (s : Int)) with
  | false => rw [hh] at hrun; exact .inl ⟨v, hrun⟩
  | true =>
    rw [hh] at hrun
    rw [h2 s hs hh] at hv
    unfold asHeld at hv
    simp only [Option.some.injEq, Prod.mk.injEq, DataW.held.injEq] at hv
    rw [hv.1] at hrun
    exact .inr hrun
theorem MemoG.store {t e : TypeId} (h : MemoG P k b n M w) (hk : P.underlying k = some (.int .u64)) (ht : P.underlying t = some (.map k e)) (hn : n < maxLen) {s : Nat} (hs : s < 256) :
    ∃ w', (Instr.mapUpdate t (.map (some b)) (.int .u64 (s : Int)) (.int .i64 (M s : Nat))).run P w = .ok () w' ∧ MemoG P k b (n + 1) M w' ∧ w.grownBy w' (some b) := by
  obtain ⟨D, h1, h2⟩ := h
  obtain ⟨w', hrun, h3, h4⟩ := h1.update (int_keyed hk) ht hn (keyOf_int_mk hk (key64 s hs)) (val := .int .i64 (M s : Nat)) (d := .held (.int .i64 (M s : Nat))) (ps := []) rfl
  refine ⟨w', hrun, ⟨_, h3, fun j hj hh => ?_⟩, h4⟩
  by_cases e : j = s
  · subst e
    exact atKey_put_same h1.isMap (show WideAt.IsKeyLit (.int .u64 j) from trivial) _ _
  · have hne : (Lit.int .u64 (j : Int)) ≠ .int .u64 (s : Int) := fun he => e (by injection he with _ h; omega)
    rw [atKey_put_other hne]
    rw [has_put_other hne] at hh
    exact h2 j hj hh
end
end Go.Proofs.YtkfeihnapcfkgaaDoor
