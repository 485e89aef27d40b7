/-
  The walks of AllWords: the model's and the program's both hand back 'ansAll'.
-/
import Derived.Test.YtpkkibnpjhlfmaaDoorAllSpec
namespace Go.Proofs.YtpkkibnpjhlfmaaDoor
open Go.RowKit

/-- A function hands back a list of texts in memory of its own, and a number. -/
def GivesLS (r : List ByteArray × Int) (w : World) (e : Ending) (w' : World) : Prop :=
  Below w.heap.size w w' ∧ ∃ ao cap, e = .returned (.tuple #[.slice ao r.1.length cap, .int .i64 r.2]) ∧ w'.ownsRow w.heap.size 9 1 (.slice ao r.1.length cap) r.1.length (r.1.map Value.string)
theorem GivesLS.elim {ws : List ByteArray} {rc : Int} {m : Nat} {w w' : World} {e : Ending} (hm : Hid (ws.length = m)) (h : GivesLS (ws, rc) w e w') :
    ∃ ao cap, e = .returned (.tuple #[.slice ao m cap, .int .i64 rc]) ∧ Below w.heap.size w w' ∧ w'.ownsRow w.heap.size 9 1 (.slice ao m cap) m (ws.map Value.string) := by
  have := hm.out
  subst this
  obtain ⟨h1, ao, cap, h2, h3⟩ := h
  exact ⟨ao, cap, h2, h1, h3⟩
theorem givesLS_of {r : List ByteArray × Int} {l : List ByteArray} {c : Int} {w w' : World} {ao : Option Addr} {cap i : Nat} (h : r = (l, c)) (hb : Below w.heap.size w w') (hl : l.length = i) (ho : w'.ownsRow w.heap.size 9 1 (.slice ao i cap) i (l.map Value.string)) :
    GivesLS r w (.returned (.tuple #[.slice ao i cap, .int .i64 c])) w' := by
  subst hl; subst h
  exact ⟨hb, ao, cap, rfl, ho⟩
theorem givesLS_nil {r : List ByteArray × Int} {c : Int} {w w' : World} (h : r = ([], c)) (hb : Below w.heap.size w w') : GivesLS r w (.returned (.tuple #[.slice none 0 0, .int .i64 c])) w' :=
  givesLS_of h hb rfl (World.ownsRow_nil _ _ _ _)
def ansAll (g r : Int) : List ByteArray × Int := if codeW g r 1 300 = 0 then (bas (allW g.toNat r.toNat), 0) else ([], codeW g r 1 300)
theorem codeW_parts {g r d most : Int} (h : codeW g r d most = 0) : (2 ≤ g ∧ g ≤ 4 ∧ 1 ≤ r ∧ r ≤ 8 ∧ 1 ≤ d ∧ d ≤ r) ∧ ((g.toNat ^ r.toNat : Nat) : Int) ≤ most := by
  unfold codeW at h
  split at h
  · rename_i h1
    split at h
    · cases h
    · exact ⟨h1, by omega⟩
  · cases h
theorem ansAll_len (g r : Int) : (ansAll g r).1.length ≤ 1048576 := by
  unfold ansAll
  split
  · rename_i h
    obtain ⟨h1, h2⟩ := codeW_parts h
    rw [bas_length, allW_length (by omega)]
    omega
  · simp
theorem ne0_ways (a : Int) : ((a != 0) = false ∧ a = 0) ∨ ((a != 0) = true ∧ ¬ a = 0) := by
  by_cases h : a = 0
  · exact .inl ⟨by simp [h], h⟩
  · exact .inr ⟨by simp [h], h⟩

set_option maxRecDepth 100000 in
set_option maxHeartbeats 1000000 in
theorem specAll_any (g r : Int) (w : World) : Calls Tryd.prog 33 #[.int .i64 g, .int .i64 r] w (GivesLS (ansAll g r) w) := by
  have HC := fun W => l05Whole_any g r W
  rcases ne0_ways (codeW g r 1 300) with ⟨h1, h2⟩ | ⟨h1, h2⟩
  · obtain ⟨⟨p1, p2, p3, p4, _, _⟩, p5⟩ := codeW_parts h2
    have HA : Hid (ansAll g r = (bas (allW g.toNat r.toNat), 0)) := by unfold Hid ansAll; rw [if_pos h2]
    obtain ⟨gn, rfl⟩ : ∃ gn : Nat, g = gn := ⟨g.toNat, by omega⟩
    obtain ⟨rn, rfl⟩ : ∃ rn : Nat, r = rn := ⟨r.toNat, by omega⟩
    simp only [Int.toNat_natCast] at HA p5
    have HL := fun W => l05All_any gn rn (by omega) (by omega) (by omega) (by omega) W
    have HN : Hid ((bas (allW gn rn)).length = gn ^ rn) := by unfold Hid; rw [bas_length, allW_length (by omega)]
    rw [h2] at HC
    generalize ansAll (gn : Int) (rn : Int) = R at HA
    clear h1 h2 p5
    go_enter Tryd.func33, Tryd.ntmps33
    go_wp2_with (first | (go_at_call 78; refine (HC _).mono ?_; rintro e w' ⟨rfl, rfl⟩) | (go_at_call 72; refine (HL _).mono ?_; rintro e w1 ⟨ga, ca, rfl, hb1, ho1⟩))
    exact bodyPost_ret (v := .tuple #[.slice (some ⟨ga, 0, none⟩) (gn ^ rn) ca, .int .i64 0]) (by simp [results, Tryd.results33, go_sem]) rfl (givesLS_of HA.out hb1 HN.out ho1)
  · have HA : Hid (ansAll g r = ([], codeW g r 1 300)) := by unfold Hid ansAll; rw [if_neg h2]
    generalize codeW g r 1 300 = cc at HC HA h1
    generalize ansAll g r = R at HA
    clear h2
    go_enter Tryd.func33, Tryd.ntmps33
    go_wp2_with (first | (go_at_call 78; refine (HC _).mono ?_; rintro e w' ⟨rfl, rfl⟩))
    exact bodyPost_ret (v := .tuple #[.slice none 0 0, .int .i64 cc]) (by simp [results, Tryd.results33, go_sem]) rfl (givesLS_nil HA.out (Below.refl _ _))

set_option maxRecDepth 100000 in
set_option maxHeartbeats 1000000 in
theorem implAll_any (g r : Int) (w : World) : Calls Tryd.prog 32 #[.int .i64 g, .int .i64 r] w (GivesLS (ansAll g r) w) := by
  have HK := fun W => newKind_any g r 1 W
  have HC := fun W => check_any g r 1 300 W
  rcases ne0_ways (codeW g r 1 300) with ⟨h1, h2⟩ | ⟨h1, h2⟩
  · obtain ⟨⟨p1, p2, p3, p4, _, _⟩, p5⟩ := codeW_parts h2
    have HA : Hid (ansAll g r = (bas (allW g.toNat r.toNat), 0)) := by unfold Hid ansAll; rw [if_pos h2]
    obtain ⟨gn, rfl⟩ : ∃ gn : Nat, g = gn := ⟨g.toNat, by omega⟩
    obtain ⟨rn, rfl⟩ : ∃ rn : Nat, r = rn := ⟨r.toNat, by omega⟩
    simp only [Int.toNat_natCast] at HA p5
    have HL := fun W => words_any gn rn (by omega) (by omega) (by omega) (by omega) W
    have HN : Hid ((bas (allW gn rn)).length = gn ^ rn) := by unfold Hid; rw [bas_length, allW_length (by omega)]
    rw [h2] at HC
    generalize ansAll (gn : Int) (rn : Int) = R at HA
    clear h1 h2 p5
    go_enter Tryd.func32, Tryd.ntmps32
    go_wp2_with (first | (go_at_call 67; refine (HK _).mono ?_; rintro e w1 ⟨rfl, hb1⟩) | (go_at_call 68; refine (HC _).mono ?_; rintro e w2 ⟨rfl, hb2⟩; have hk0 := (hb2.cell (p := ⟨w1.heap.size, 0, none⟩) (by simp)); have hk1 := (hb2.cell (p := ⟨w1.heap.size, 1, none⟩) (by simp)); simp [go_sem] at hk0 hk1) | (go_at_call 69; refine (HL _).mono ?_; rintro e w3 ⟨ga, ca, rfl, hb3, ho3⟩))
    have B12 : Below w1.heap.size w1 w2 := Below.trans (by repeat (first | exact Below.refl _ _ | refine Below.alloc ?_ (by simp; try omega) _ | refine Below.setCell ?_ (by simp; try omega) _)) (hb2.mono (by simp))
    have B2 := two_worlds' hb1 B12
    have B3 := two_worlds' B2 hb3
    exact bodyPost_ret (v := .tuple #[.slice (some ⟨ga, 0, none⟩) (gn ^ rn) ca, .int .i64 0]) (by simp [results, Tryd.results32, go_sem]) rfl (givesLS_of HA.out B3 HN.out (own_lower ho3 B2.size))
  · have HA : Hid (ansAll g r = ([], codeW g r 1 300)) := by unfold Hid ansAll; rw [if_neg h2]
    generalize codeW g r 1 300 = cc at HC HA h1
    generalize ansAll g r = R at HA
    clear h2
    go_enter Tryd.func32, Tryd.ntmps32
    go_wp2_with (first | (go_at_call 67; refine (HK _).mono ?_; rintro e w1 ⟨rfl, hb1⟩) | (go_at_call 68; refine (HC _).mono ?_; rintro e w2 ⟨rfl, hb2⟩))
    have B12 : Below w1.heap.size w1 w2 := Below.trans (by repeat (first | exact Below.refl _ _ | refine Below.alloc ?_ (by simp; try omega) _ | refine Below.setCell ?_ (by simp; try omega) _)) (hb2.mono (by simp))
    have B2 := two_worlds' hb1 B12
    exact bodyPost_ret (v := .tuple #[.slice none 0 0, .int .i64 cc]) (by simp [results, Tryd.results32, go_sem]) rfl (givesLS_nil HA.out B2)
end Go.Proofs.YtpkkibnpjhlfmaaDoor
