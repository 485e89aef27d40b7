/-
  slices.SortFunc and cmp.Compare at the program's types: their contracts laid; the comparison of two needs.
-/
import Derived.Test.YtjegokklmdfflaaProg
import Derived.Test.YtjegokklmdfflaaBase
import Derived.Shelf.SlSortCmp.WholeK
import Derived.Shelf.SlSortCmp.NoneTotal
import Derived.Shelf.SlicesG.Cmp
import Derived.Shelf.Lay
import Derived.Ground.SlsfProg
import Derived.Ground.SlgcProg
import Derived.WalkKit
import Derived.Outline
import Derived.BigQuiet
namespace Go.Proofs
open Go.Shelf Go.RowKit Go.Lib Go.Sort
shelf_lay_g SlLaysF0.n6 Slsf 6 at Try 36 as Try.sortNeeds
shelf_lay_g SlLaysC2.n5 Slgc 5 at Try 40 as Try.cmpInt64
namespace Ytjegokklmdfflaa
/-- A need's two cells. -/
def encN (x : Int × Int) : List Value := [.int .i64 x.1, .int .i64 x.2]
def cmpN (x y : Int × Int) : Int := Lib.compareInt x.1 y.1
theorem ltN (x y : Int × Int) : ltOf cmpN x y = decide (x.1 < y.1) := by
  unfold ltOf cmpN Lib.compareInt
  by_cases h1 : x.1 < y.1
  · simp [h1]
  · by_cases h2 : y.1 < x.1 <;> simp [h1, h2]
theorem swoN : SWO (ltOf cmpN) where
  irrefl x := by rw [ltN]; simp
  trans x y z h1 h2 := by rw [ltN] at *; simp at *; omega
  ntrans x y z h1 h2 := by rw [ltN] at *; simp at *; omega

set_option maxHeartbeats 1000000 in
theorem compare_any (x y : Int × Int) (W : World) : Calls Try.prog 37 #[.agg #[.int .i64 x.1, .int .i64 x.2], .agg #[.int .i64 y.1, .int .i64 y.2]] W fun e w' => e = .returned (.int .i64 (cmpN x y)) ∧ ∃ q os', w' = grow (W.drewN q) os' := by
  have hcon := fun W' => AnyG.cmp_Compare_int Try.cmpInt64 x.1 y.1 W'
  change ∀ W', Calls Try.prog 40 _ _ _ at hcon
  unfold cmpN
  generalize Lib.compareInt x.1 y.1 = r at hcon ⊢
  go_enter Try.func37, Try.ntmps37
  go_wp2_with (go_at_call 40; refine (hcon _).mono ?_; rintro e w' ⟨rfl, rfl⟩)
  go_ret
  exact ⟨rfl, 0, _, by rw [alloc_eq_grow, alloc_eq_grow, grow_grow]; rfl⟩
theorem cmpLaysN (blk off size : Nat) (w : World) : CmpLays Try.prog 37 #[] encN 2 cmpN blk off size w :=
  fun _ _ _ _ x y => compare_any x y _

/-- slices.SortFunc(needs, need.compare): a permutation, sorted by the stations. -/
theorem sortN_any (blk cap : Nat) (d : Array (Int × Int)) (w : World) (hH : HoldsK encN 2 w blk 0 d) (hblk : blk < w.heap.size) (hsz : d.size < 4611686018427387904) :
    Calls Try.prog 36 #[.slice (some ⟨blk, 0, none⟩) d.size cap, .func (.func 37) #[] #[]] w fun e w' =>
      e = .returned (.tuple #[]) ∧ ∃ d' n os, PermIn 0 d.size d d' ∧ SortedIn (ltOf cmpN) 0 d.size d' ∧ w' = sortWorldK encN 2 w blk 0 n d' os := by
  have eg : ∀ args w, (callFunc 37 args).run Try.prog w = .ok (.enter 37 args) w := enters_of Try.func37 (by kernel_rfl) rfl
  exact AnyQ.slices_SortFunc Try.sortNeeds 2 (fun w => by kernel_rfl) (fun w => by kernel_rfl) encN (fun _ => rfl) (fun x v hv => by simp [encN] at hv; rcases hv with rfl | rfl <;> rfl) cmpN swoN 37 #[] blk 0 cap d w eg (cmpLaysN blk 0 d.size w) hH hblk hsz
end Ytjegokklmdfflaa
end Go.Proofs
