/-
  ReachedFrom: the model's walk.
-/
import Derived.Test.YtkkpfdkclfcdmaaFar
import Derived.Test.YtkkpfdkclfcdmaaReachMath
import Derived.Test.YtkkpfdkclfcdmaaLawRow
import Derived.Test.YtkkpfdkclfcdmaaTubesFromBy
namespace Go.Proofs.Ytkkpfdkclfcdmaa
open Go.RowKit

theorem own_belowF {w w' : World} {lo n : Nat} {e : TypeId} {size : Nat} {v : Value} {xs : List Value} (h : w.ownsRow lo e size v n xs) (hb : Below w.heap.size w w') : w'.ownsRow lo e size v n xs :=
  h.kept (⟨hb.os, hb.tape, hb.output, hb.size, fun i hi _ => hb.block i hi⟩ : w.grownBy w' none) (by cases hv : v.ownBlock <;> simp)
/-- What ReachedFrom returns. -/
def reachOf (s : Int) (ts : List T3) (x : Int) : List Int × Int := if codeOf s ts [x] = 0 then (reachL ts s.toNat x.toNat, 0) else ([], codeOf s ts [x])
theorem reachL_eq (ts : List T3) (S st : Nat) : reachL ts S st = reachK ts S st S := rfl
theorem reachOf_len (s : Int) (ts : List T3) (x : Int) : (reachOf s ts x).1.length ≤ 1048576 := by
  unfold reachOf
  split
  · rename_i h
    obtain ⟨_, h10, _, _⟩ := netB_parts (codeOf_ok_parts h).1
    have := reachK_len ts s.toNat x.toNat s.toNat
    rw [reachL_eq]
    simp only
    omega
  · simp
set_option maxHeartbeats 4000000 in
theorem specReachedFrom_any (s x : Int) (a : Option Addr) (ts : List T3) (n ca : Nat) (w : World) (hn : Hid (ts.length = n)) (ha : RT w a ts) (hmax : n ≤ 1048576) :
    Calls Try.prog 7 #[.agg #[.int .i64 s, .slice a n ca], .int .i64 x] w (GivesL (reachOf s ts x) w) := by
  have HA : Hid (∀ w', Below w.heap.size w w' → RT w' a ts) := fun w' h => ha.below h
  have HI : Hid (∃ i0 : TypeInfo, Try.prog.info? 2 = some i0 ∧ i0.zero = some (.int .i64 0) ∧ i0.size = 1 ∧ i0.bytes = 8) := info_parts infoI64f
  have HTW := Lib.hid (codeOf_twice s ts x)
  clear ha
  go_enter Try.func7, Try.ntmps7
  go_wp2_with fail
  refine (l02Code_any _ s x x a ts n ca (w.alloc (.cells #[.int .i64 s, .slice a n ca] 31)) hn (HA.out _ (by (repeat (first | exact Below.refl _ _ | refine Below.drew ?_ | refine Below.drewN' ?_ _ | refine Below.alloc ?_ (by first | (simp; done) | (simp; omega)) _ | refine Below.setCell ?_ (by first | (simp; done) | (simp; omega)) _)); done)) hmax (by simp [go_sem]) (by simp [go_sem])).mono ?_
  rintro e w1 ⟨rfl, hb1⟩
  have q0 := (hb1.cell (p := ⟨w.heap.size, 0, none⟩) (by simp)).trans (by simp [go_sem] : _ = some (.int .i64 s))
  have q1 := (hb1.cell (p := ⟨w.heap.size, 1, none⟩) (by simp)).trans (by simp [go_sem] : _ = some (.slice a n ca))
  have B1 := Lib.hid (Below.trans (show Below w.heap.size w (w.alloc (.cells #[.int .i64 s, .slice a n ca] 31)) from (by repeat (first | exact Below.refl _ _ | refine Below.alloc ?_ (by simp; try omega) _ | refine Below.setCell ?_ (by simp; try omega) _))) (hb1.mono (by simp)))
  have hz1 := World.block_lt_of_cell? _ _ q0
  simp only at hz1
  clear hb1
  rw [HTW.out]
  rcases eq_ways (codeOf s ts [x]) 0 with ⟨⟨e1, e2⟩, e3⟩ | ⟨⟨e1, e2⟩, e3⟩
  · obtain ⟨hnet, hst⟩ := codeOf_ok_parts e3
    have hx := of_decide_eq_true (show decide (0 ≤ x ∧ x < s) = true from hst x (by simp))
    obtain ⟨S, rfl⟩ := Int.eq_ofNat_of_zero_le (show 0 ≤ s by omega)
    obtain ⟨st, rfl⟩ := Int.eq_ofNat_of_zero_le hx.1
    have hst2 : st < S := by omega
    obtain ⟨_, h10, _, _⟩ := netB_parts hnet
    have hS : S ≤ 10 := by omega
    have HR : Hid (reachOf (S : Int) ts (st : Int) = (reachK ts S st S, 0)) := by unfold Hid reachOf; rw [if_pos e3]; rfl
    have HRB : Hid (∀ to, to < S → (rB ts (-1) S to st = true ↔ Rch ts (-1) to st)) := fun to h => rB_iff (nats_of hnet) h st
    have FAR : Hid (∀ (to : Nat) W, to < S → Below w1.heap.size w1 W → Calls Try.prog 21 #[.pointer (some ⟨w.heap.size, 0, none⟩), .int .i64 (to : Int), .int .i64 (-1)] W (GivesFar ts (-1) S to W)) := fun to W h hW => l02Far_any w.heap.size S a ts n ca to (-1) W hn (HA.out _ (two_worldsC B1.out hW)) hnet h ((hW.cell (p := ⟨w.heap.size, 0, none⟩) hz1).trans q0) ((hW.cell (p := ⟨w.heap.size, 1, none⟩) hz1).trans q1)
    have LO : Hid (w.heap.size ≤ w1.heap.size) := B1.out.size
    have Q0 := Lib.hid q0
    rw [e3]
    clear e1 e2 e3 hnet hst HTW hx q0 q1 h10
    go_wp2
    go_loopw [7, 8] (fun vo iv wr => ∃ (k i cap g : Nat), k ≤ S ∧ i ≤ k ∧ vo = .slice (some ⟨g, 0, none⟩) i cap ∧ iv = .int .i64 (k : Int) ∧ Hid (Below w1.heap.size w1 wr) ∧ Hid ((reachK ts S st k).length = i) ∧ Hid (wr.ownsRow w1.heap.size 2 1 (.slice (some ⟨g, 0, none⟩) i cap) i ((reachK ts S st k).map (Value.int .i64)))) (fun _ iv _ => S - (intOf iv).toNat)
    case atStart => exact ⟨0, 0, 0, w1.heap.size, by omega, by omega, rfl, rfl, (by repeat (first | exact Below.refl _ _ | refine Below.alloc ?_ (by simp; try omega) _ | refine Below.setCell ?_ (by simp; try omega) _)), by rw [reachK_zero]; rfl, by rw [reachK_zero]; exact World.ownsRow_made w1 #[] 0 (Nat.le_refl _) (by unfold maxLen; omega) rfl⟩
    case round =>
      obtain ⟨k, i, cap, g, hk, hik, rfl, rfl, HBEL, HLEN, HOWN⟩ := hrel
      have r0 := (HBEL.out.cell (p := ⟨w.heap.size, 0, none⟩) hz1).trans Q0.out
      have hws : w1.heap.size ≤ wr.heap.size := HBEL.out.size
      have hge := own_ge HOWN.out
      have hgl := own_ltF HOWN.out
      have hk0 : (0 : Int) ≤ (k : Int) := by omega
      by_cases hlt : k < S
      · have hk1 : (k : Int) < (S : Int) := by omega
        have hs0 : (0 : Int) ≤ (st : Int) := by omega
        have hs1 : (st : Int) < (S : Int) := by omega
        have FK := FAR.out k wr hlt HBEL.out
        have HYES : Hid (rB ts (-1) S k st = true → reachK ts S st (k + 1) = reachK ts S st k ++ [(k : Int)]) := reachK_yes
        have HNO : Hid (rB ts (-1) S k st = false → reachK ts S st (k + 1) = reachK ts S st k) := reachK_no
        have HIFF := Lib.hid (HRB.out k hlt)
        go_wp2_with fail
        refine FK.mono ?_
        rintro e w2 ⟨l, g2, rfl, hll, hiff, hb2, ho2⟩
        have x2 := row_at ho2 st (by rw [hll]; exact hst2)
        have h2 := hiff st (by rw [hll]; exact hst2)
        generalize l[st]'(by rw [hll]; exact hst2) = y at x2 h2
        have HB2 := Lib.hid (HBEL.out.trans (hb2.mono hws))
        have HO2 : Hid (w2.ownsRow w1.heap.size 2 1 (.slice (some ⟨g, 0, none⟩) i cap) i ((reachK ts S st k).map (Value.int .i64))) := own_belowF HOWN.out hb2
        have hws2 : w1.heap.size ≤ w2.heap.size := HB2.out.size
        cases d1 : decide (y ≥ 0) with
        | true =>
          have HN := Lib.hid (HYES.out (HIFF.out.2 (h2.1 (of_decide_eq_true d1))))
          have d2 : decide (0 ≤ y) = true := d1
          clear HYES HNO HIFF ho2 hb2 hiff h2 r0 FK
          go_wp2_with (at_builtin; refine wpList_append_lies _ rfl _ _ 26 rfl w1.heap.size 2 HI.out.choose (.int .i64 0) 1 8 Try.underlying26 HI.out.choose_spec.1 HI.out.choose_spec.2.1 HI.out.choose_spec.2.2.1 HI.out.choose_spec.2.2.2 rfl (by decide) (.slice (some ⟨g, 0, none⟩) i cap) i _ rfl (HO2.out.alloc _) ⟨w2.heap.size, 0, none⟩ 1 1 [.int .i64 (k : Int)] rfl rfl (World.news_of_block (heap_alloc_new w2 _)) (by intro u hu; simp at hu; subst hu; rfl) (by omega) (by unfold maxLen; omega) (by omega) (by simp; omega) _ rfl ?_)
          intro g3 c3 w3 ho3 hgr3 hat3 hlt3
          have B3 : Hid (Below w1.heap.size w1 w3) := (HB2.out.alloc hws2 _).grown hgr3 (by simp; omega) (fun p hp => by simp [Value.ownBlock] at hp; omega)
          have O3 : Hid (w3.ownsRow w1.heap.size 2 1 (.slice (some ⟨g3, 0, none⟩) (i + 1) c3) (i + 1) ((reachK ts S st (k + 1)).map (Value.int .i64))) := by
            unfold Hid; rw [HN.out, List.map_append]; exact ho3
          have HL3 : Hid ((reachK ts S st (k + 1)).length = i + 1) := by unfold Hid; rw [HN.out, List.length_append, HLEN.out]; rfl
          clear ho3 hgr3 hat3 hlt3 x2
          go_wp2
          go_roundw
          case rel => exact ⟨k + 1, i + 1, c3, g3, by omega, by omega, rfl, by go_num, B3.out, HL3.out, O3.out⟩
          case measure => simp [intOf]; omega
        | false =>
          have HN := Lib.hid (HNO.out (by
            cases hr : rB ts (-1) S k st with
            | true => exact absurd (h2.2 (HIFF.out.1 hr)) (of_decide_eq_false d1)
            | false => rfl))
          have d2 : decide (0 ≤ y) = false := d1
          clear HYES HNO HIFF ho2 hb2 hiff h2 r0 FK
          go_wp2
          go_roundw
          case rel => exact ⟨k + 1, i, cap, g, by omega, by omega, rfl, by go_num, HB2.out, by rw [HN.out]; exact HLEN.out, by rw [HN.out]; exact HO2.out⟩
          case measure => simp [intOf]; omega
      · have hkS : k = S := by omega
        subst hkS
        have HR2 : Hid (GivesL (reachOf (k : Int) ts (st : Int)) w (.returned (.tuple #[.slice (some ⟨g, 0, none⟩) i cap, .int .i64 0])) wr) := givesL_of HR.out (two_worldsC B1.out HBEL.out) HLEN.out (own_lo HOWN.out LO.out)
        go_wp2
        go_ret2
        exact HR2.out
  · have HR : Hid (reachOf s ts x = ([], codeOf s ts [x])) := by unfold Hid reachOf; rw [if_neg e3]
    clear e3
    generalize codeOf s ts [x] = c at HR e1 e2
    go_wp2
    go_ret2
    exact givesL_nil HR.out B1.out
end Go.Proofs.Ytkkpfdkclfcdmaa
