/-
  slices.SortStableFunc at a few indexes: the walks down to the insertion sort.
-/
import Derived.Test.YtdllfkgljnapoaaSortLay
namespace Go.Proofs.Ytdllfkgljnapoaa
open Go.RowKit Go.Shelf Go.Sort

theorem insertion_none (ao : Option Addr) (cap : Nat) (fv : Value) (w : World) :
    Calls Try.prog 44 #[.slice ao 0 cap, .int .i64 0, .int .i64 0, fv] w fun e w' => e = .returned (.tuple #[]) ∧ w = w' := by
  go_enter Try.func44, Try.ntmps44
  go_wp2
  go_loopw [8] (fun iv wr => iv = .int .i64 1 ∧ w = wr) (fun _ _ => 0)
  case atStart => exact ⟨rfl, rfl⟩
  case round =>
    obtain ⟨rfl, rfl⟩ := hrel
    go_wp2
    go_end0
    exact ⟨rfl, rfl⟩
/-- The insertion sort's contract, at whatever length. -/
def Sorts (K : Int → Int) (g n cap B : Nat) (w : World) (e : Ending) (w' : World) : Prop :=
  e = .returned (.tuple #[]) ∧ w.grownBy w' (some g) ∧ w'.ownsRow B 2 1 (.slice (some ⟨g, 0, none⟩) n cap) n ((srt K n).map (Value.int .i64))
theorem insertion_all (K : Int → Int) (F : Nat) (cb : Array Value) (eg : ∀ args w, (callFunc F args).run Try.prog w = .ok (.enter F args) w) (g n cap B : Nat) (hn6 : n ≤ 6) (wb w : World) (hc : CmpOk K F cb n B wb) (hb : Below B wb w) (hg : B ≤ g)
    (ho : w.ownsRow B 2 1 (.slice (some ⟨g, 0, none⟩) n cap) n ((up 0 n).map (Value.int .i64))) :
    Calls Try.prog 44 #[.slice (some ⟨g, 0, none⟩) n cap, .int .i64 0, .int .i64 (n : Int), .func (.func F) #[] cb] w (Sorts K g n cap B w) := by
  by_cases hn : 0 < n
  · exact insertion_any K F cb eg g n cap B hn (by omega) wb w hc hb hg ho
  · obtain rfl : n = 0 := by omega
    refine (insertion_none _ _ _ _).mono ?_
    rintro e w' ⟨rfl, rfl⟩
    exact ⟨rfl, ⟨rfl, rfl, rfl, Nat.le_refl _, fun _ _ _ => rfl⟩, by simpa [up, srt] using ho⟩
set_option maxHeartbeats 2000000 in
theorem stableCmp_any (K : Int → Int) (F : Nat) (cb : Array Value) (eg : ∀ args w, (callFunc F args).run Try.prog w = .ok (.enter F args) w) (g n cap B : Nat) (hn6 : n ≤ 6) (wb w : World) (hc : CmpOk K F cb n B wb) (hb : Below B wb w) (hg : B ≤ g)
    (ho : w.ownsRow B 2 1 (.slice (some ⟨g, 0, none⟩) n cap) n ((up 0 n).map (Value.int .i64))) :
    Calls Try.prog 42 #[.slice (some ⟨g, 0, none⟩) n cap, .int .i64 (n : Int), .func (.func F) #[] cb] w (Sorts K g n cap B w) := by
  have INS := insertion_all K F cb eg g n cap B hn6 wb w hc hb hg ho
  have hn20 : ¬ (20 : Int) ≤ (n : Int) := by omega
  have hn21 : ¬ (20 : Int) < (n : Int) := by omega
  clear ho hb hc eg
  go_enter Try.func42, Try.ntmps42
  go_wp2
  go_loopw [7, 8] (fun av bv wr => av = .int .i64 0 ∧ bv = .int .i64 20 ∧ w = wr) (fun _ _ _ => 0)
  case atStart => exact ⟨rfl, rfl, rfl⟩
  case round =>
    obtain ⟨rfl, rfl, rfl⟩ := hrel
    go_wp2_with (go_at_call 44; refine INS.mono ?_; rintro e w1 ⟨rfl, hgr, ho1⟩)
    go_loopw [6] (fun sv wr => sv = .int .i64 20 ∧ w1 = wr) (fun _ _ => 0)
    case atStart => exact ⟨rfl, rfl⟩
    case round =>
      obtain ⟨rfl, rfl⟩ := hrel
      go_wp2
      go_end0
      exact ⟨rfl, hgr, ho1⟩
theorem sortStable_any (K : Int → Int) (F : Nat) (cb : Array Value) (eg : ∀ args w, (callFunc F args).run Try.prog w = .ok (.enter F args) w) (g n cap B : Nat) (hn6 : n ≤ 6) (wb w : World) (hc : CmpOk K F cb n B wb) (hb : Below B wb w) (hg : B ≤ g)
    (ho : w.ownsRow B 2 1 (.slice (some ⟨g, 0, none⟩) n cap) n ((up 0 n).map (Value.int .i64))) :
    Calls Try.prog 38 #[.slice (some ⟨g, 0, none⟩) n cap, .func (.func F) #[] cb] w (Sorts K g n cap B w) := by
  have ST := stableCmp_any K F cb eg g n cap B hn6 wb w hc hb hg ho
  clear ho hb hc eg
  go_enter Try.func38, Try.ntmps38
  go_wp2_with (go_at_call 42; refine ST.mono ?_; rintro e w1 ⟨rfl, hgr, ho1⟩)
  go_end0
  exact ⟨rfl, hgr, ho1⟩
end Go.Proofs.Ytdllfkgljnapoaa
