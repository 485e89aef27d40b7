/-
  Meetings: the program's test of two passages.
-/
import Derived.Test.YtgjbahnloladfaaEndOf6
import Derived.Test.YtgjbahnloladfaaMeetMath
import Derived.Handy
import Derived.Lib.MinMax
namespace Go.Proofs.Ytgjbahnloladfaa
open Go.RowKit

/-- A passage as a value with methods. -/
def ifPass (p : TPass) : Value := .iface 72 (.agg #[.int .i64 p.1, .int .i64 p.2.1, .int .i64 p.2.2])
theorem staySize (h : 70 < Try.prog.types.size) : (Try.prog.types[70]'h).size = 2 := by kernel_rfl
set_option maxHeartbeats 2000000 in
theorem common_any (p1 p2 p3 q1 q2 q3 : Int) (w : World) : Calls Try.prog 78 #[.iface 72 (.agg #[.int .i64 p1, .int .i64 p2, .int .i64 p3]), .iface 72 (.agg #[.int .i64 q1, .int .i64 q2, .int .i64 q3])] w fun e w' => e = .returned (.bool (decide (max p1 q1 < min p2 q2))) ∧ Below w.heap.size w w' := by
  go_enter Try.func78, Try.ntmps78
  go_wp2_with fail
  simp only [staySize, List.take_succ_cons, List.take_zero]
  refine (stayBegin_any _ _ _).mono ?_
  rintro e w1 ⟨rfl, hb1⟩
  go_wp2_with fail
  simp only [staySize, List.take_succ_cons, List.take_zero]
  refine (stayBegin_any _ _ _).mono ?_
  rintro e w2 ⟨rfl, hb2⟩
  have B2 := Lib.hid (two_worlds hb1 hb2)
  clear hb1 hb2
  go_wp2_with fail
  simp only [staySize, List.take_succ_cons, List.take_zero]
  refine (stayEnd_any _ _ _).mono ?_
  rintro e w3 ⟨rfl, hb3⟩
  go_wp2_with fail
  simp only [staySize, List.take_succ_cons, List.take_zero]
  refine (stayEnd_any _ _ _).mono ?_
  rintro e w4 ⟨rfl, hb4⟩
  have B4 := Lib.hid (two_worlds B2.out (two_worlds hb3 hb4))
  clear hb3 hb4
  go_wp2
  go_ret
  exact ⟨rfl, B4.out⟩
set_option maxHeartbeats 2000000 in
theorem meets_any (p q : TPass) (w : World) : Calls Try.prog 71 #[.agg #[.int .i64 p.1, .int .i64 p.2.1, .int .i64 p.2.2], .agg #[.int .i64 q.1, .int .i64 q.2.1, .int .i64 q.2.2]] w fun e w' => e = .returned (.bool (meetP p q)) ∧ Below w.heap.size w w' := by
  obtain ⟨p1, p2, p3⟩ := p
  obtain ⟨q1, q2, q3⟩ := q
  dsimp only
  rcases eq_ways p3 q3 with ⟨⟨e1, e2⟩, e3⟩ | ⟨⟨e1, e2⟩, e3⟩
  · have HR : Hid (meetP (p1, p2, p3) (q1, q2, q3) = decide (max p1 q1 < min p2 q2)) := by unfold Hid meetP; dsimp only; rw [e1]; rfl
    clear e3
    go_enter Try.func71, Try.ntmps71
    go_wp2_with (go_at_call 78; refine (common_any p1 p2 p3 q1 q2 q3 _).mono ?_; rintro e w1 ⟨rfl, hb1⟩)
    go_ret
    exact ⟨ret_bool HR.out.symm, Below.trans (by repeat (first | exact Below.refl _ _ | refine Below.alloc ?_ (by simp; try omega) _ | refine Below.setCell ?_ (by simp; try omega) _)) (hb1.mono (by simp; omega))⟩
  · have HR : Hid (meetP (p1, p2, p3) (q1, q2, q3) = false) := by unfold Hid meetP; dsimp only; rw [e1]; rfl
    clear e3
    go_enter Try.func71, Try.ntmps71
    go_wp2
    go_ret
    exact ⟨ret_bool HR.out.symm, (by repeat (first | exact Below.refl _ _ | refine Below.alloc ?_ (by simp; try omega) _ | refine Below.setCell ?_ (by simp; try omega) _))⟩
theorem RR3 {w : World} {a : Option Addr} {ps : List TPass} (h : RR 3 cPass w a ps) (k : Nat) (hk : k < ps.length) : ∃ b off, a = some ⟨b, off, none⟩ ∧ b < w.heap.size ∧ w.cell? ⟨b, off + k * 3, none⟩ = some (.int .i64 ps[k].1) ∧ w.cell? ⟨b, off + k * 3 + 1, none⟩ = some (.int .i64 ps[k].2.1) ∧ w.cell? ⟨b, off + k * 3 + 2, none⟩ = some (.int .i64 ps[k].2.2) := by
  obtain ⟨b, off, ha, hb, hc⟩ := h.addr (by omega)
  exact ⟨b, off, ha, hb, hc k hk 0 _ rfl, hc k hk 1 _ rfl, hc k hk 2 _ rfl⟩
/-- A call hands back a place, or -1 where there is none. -/
def GivesIdx (b : Bool) (w : World) (e : Ending) (w' : World) : Prop := ∃ r : Int, e = .returned (.int .i64 r) ∧ decide (0 ≤ r) = b ∧ Below w.heap.size w w'
set_option maxHeartbeats 4000000 in
theorem indexFunc_any (p : TPass) (a : Option Addr) (qs : List TPass) (n ca : Nat) (w : World) (hn : Hid (qs.length = n)) (ha : RR 3 cPass w a qs) (hmax : n ≤ 1048576) :
    Calls Try.prog 77 #[.slice a n ca, .func (.func 71) #[.agg #[.int .i64 p.1, .int .i64 p.2.1, .int .i64 p.2.2]] #[]] w (GivesIdx (qs.any (meetP p)) w) := by
  have HA := Lib.hid ha
  clear ha
  go_enter Try.func77, Try.ntmps77
  go_wp2
  go_loopw [8] (fun iv wr => ∃ k : Nat, k ≤ n ∧ iv = .int .i64 k ∧ Below w.heap.size w wr ∧ ∀ j (h : j < qs.length), j < k → meetP p qs[j] = false) (fun iv _ => n - (intOf iv).toNat)
  case atStart => exact ⟨0, by omega, rfl, Below.refl _ _, fun j _ hj => by omega⟩
  case round =>
    obtain ⟨k, hk, rfl, hbel, hall⟩ := hrel
    have HALL := Lib.hid hall
    clear hall
    by_cases hlt : k < n
    · have hka : k < qs.length := by rw [hn.out]; exact hlt
      have HYES : Hid (meetP p qs[k] = true → qs.any (meetP p) = true) := fun h => any_yes k hka h
      have HNO : Hid (meetP p qs[k] = false → ∀ j (h : j < qs.length), j < k + 1 → meetP p qs[j] = false) := fun ht j h hj => if e : j = k then (by subst e; exact ht) else HALL.out j h (by omega)
      obtain ⟨b, off, rfl, hbl, x0, x1, x2⟩ := RR3 HA.out k hka
      rw [← hbel.cell (p := ⟨_, _, none⟩) hbl] at x0 x1 x2
      generalize qs[k] = q at x0 x1 x2 HYES HNO
      have hk0 : (0 : Int) ≤ (k : Int) := by omega
      have hk1 : (k : Int) < (n : Int) := by omega
      have HBEL := Lib.hid hbel
      clear hbel
      have MT := meets_any p q wr
      cases hm : meetP p q with
      | true =>
        rw [hm] at MT
        have HR := Lib.hid (HYES.out hm)
        clear HYES HNO
        go_wp2_with (go_at_call 71; refine MT.mono ?_; rintro e w1 ⟨rfl, hb1⟩)
        go_ret
        exact ⟨k, rfl, by rw [HR.out]; simp, two_worlds HBEL.out hb1⟩
      | false =>
        rw [hm] at MT
        have HN2 := Lib.hid (HNO.out hm)
        clear HYES HNO
        go_wp2_with (go_at_call 71; refine MT.mono ?_; rintro e w1 ⟨rfl, hb1⟩)
        go_roundw
        case rel => exact ⟨k + 1, by omega, by go_num, two_worlds HBEL.out hb1, HN2.out⟩
        case measure => simp [intOf]; omega
    · have HR : Hid (qs.any (meetP p) = false) := any_no (fun j hj => HALL.out j hj (by rw [hn.out] at hj; omega))
      go_wp2
      go_ret
      exact ⟨-1, rfl, by rw [HR.out]; rfl, hbel⟩
theorem containsFunc_any (p : TPass) (a : Option Addr) (qs : List TPass) (n ca : Nat) (w : World) (hn : Hid (qs.length = n)) (ha : RR 3 cPass w a qs) (hmax : n ≤ 1048576) :
    Calls Try.prog 70 #[.slice a n ca, .func (.func 71) #[.agg #[.int .i64 p.1, .int .i64 p.2.1, .int .i64 p.2.2]] #[]] w fun e w' => e = .returned (.bool (qs.any (meetP p))) ∧ Below w.heap.size w w' := by
  have IX := indexFunc_any p a qs n ca w hn ha hmax
  clear ha
  go_enter Try.func70, Try.ntmps70
  go_wp2_with (go_at_call 77; refine IX.mono ?_; rintro e w1 ⟨r, rfl, hr, hb1⟩)
  go_ret
  exact ⟨rfl, hb1⟩
/-- A call hands back a tube and whether there is one. -/
def GivesMT (r : Int × Bool) (w : World) (e : Ending) (w' : World) : Prop := e = .returned (.tuple #[.int .i64 r.1, .bool r.2]) ∧ Below w.heap.size w w'
set_option maxHeartbeats 4000000 in
theorem meetingTube_any (a b : Option Addr) (ps qs : List TPass) (n m ca cb : Nat) (w : World) (hn : Hid (ps.length = n)) (ha : RR 3 cPass w a ps) (hmax : n ≤ 1048576) (hm : Hid (qs.length = m)) (hb : RR 3 cPass w b qs) (hmaxm : m ≤ 1048576) :
    Calls Try.prog 47 #[.slice a n ca, .slice b m cb] w (GivesMT (mtube ps qs) w) := by
  have HA := Lib.hid ha
  have HB : Hid (∀ w', Below w.heap.size w w' → RR 3 cPass w' b qs) := fun w' h => hb.below h
  clear ha hb
  go_enter Try.func47, Try.ntmps47
  go_wp2
  go_loopw [10] (fun iv wr => ∃ k : Nat, k ≤ n ∧ iv = .int .i64 k ∧ Below w.heap.size w wr ∧ ∀ j (h : j < ps.length), j < k → qs.any (meetP ps[j]) = false) (fun iv _ => n - (intOf iv).toNat)
  case atStart => exact ⟨0, by omega, rfl, Below.refl _ _, fun j _ hj => by omega⟩
  case round =>
    obtain ⟨k, hk, rfl, hbel, hall⟩ := hrel
    have HALL := Lib.hid hall
    clear hall
    by_cases hlt : k < n
    · have hka : k < ps.length := by rw [hn.out]; exact hlt
      have HYES : Hid (qs.any (meetP ps[k]) = true → mtube ps qs = (ps[k].2.2, true)) := fun h => mtube_some (mx_some k hka h HALL.out) hka
      have HNO : Hid (qs.any (meetP ps[k]) = false → ∀ j (h : j < ps.length), j < k + 1 → qs.any (meetP ps[j]) = false) := fun ht j h hj => if e : j = k then (by subst e; exact ht) else HALL.out j h (by omega)
      obtain ⟨ba, off, rfl, hbl, x0, x1, x2⟩ := RR3 HA.out k hka
      rw [← hbel.cell (p := ⟨_, _, none⟩) hbl] at x0 x1 x2
      generalize ps[k] = p at x0 x1 x2 HYES HNO
      have hk0 : (0 : Int) ≤ (k : Int) := by omega
      have hk1 : (k : Int) < (n : Int) := by omega
      have hwr := hbel.size
      have HBEL := Lib.hid hbel
      clear hbel
      have CF : Hid (∀ W, Below w.heap.size w W → Calls Try.prog 70 #[.slice b m cb, .func (.func 71) #[.agg #[.int .i64 p.1, .int .i64 p.2.1, .int .i64 p.2.2]] #[]] W fun e w' => e = .returned (.bool (qs.any (meetP p))) ∧ Below W.heap.size W w') := fun W h => containsFunc_any p b qs m cb W hm (HB.out W h) hmaxm
      cases hmm : qs.any (meetP p) with
      | true =>
        rw [hmm] at CF
        have HR := Lib.hid (HYES.out hmm)
        clear HYES HNO hmm
        obtain ⟨p1, p2, p3⟩ := p
        dsimp only at x0 x1 x2 CF HR
        go_wp2_with (go_at_call 70; refine (CF.out _ (by repeat (first | exact HBEL.out | refine Below.alloc ?_ (by first | omega | (simp; done) | (simp; omega)) _ | refine Below.setCell ?_ (by first | omega | (simp; done) | (simp; omega)) _))).mono ?_; rintro e w1 ⟨rfl, hb1⟩; obtain ⟨hc, hf⟩ := bcell hb1; have hz1 := hb1.size; simp at hz1; have hlt0 : wr.heap.size < w1.heap.size := by omega)
        have HR1 : Hid (Below w.heap.size w w1) := Below.trans (by repeat (first | exact HBEL.out | refine Below.alloc ?_ (by first | omega | (simp; done) | (simp; omega)) _ | refine Below.setCell ?_ (by first | omega | (simp; done) | (simp; omega)) _)) (hb1.mono (by simp; omega))
        clear hb1
        go_ret2
        exact ⟨by rw [HR.out]; rfl, HR1.out⟩
      | false =>
        rw [hmm] at CF
        have HN2 := Lib.hid (HNO.out hmm)
        clear HYES HNO hmm
        obtain ⟨p1, p2, p3⟩ := p
        dsimp only at x0 x1 x2 CF
        go_wp2_with (go_at_call 70; refine (CF.out _ (by repeat (first | exact HBEL.out | refine Below.alloc ?_ (by first | omega | (simp; done) | (simp; omega)) _ | refine Below.setCell ?_ (by first | omega | (simp; done) | (simp; omega)) _))).mono ?_; rintro e w1 ⟨rfl, hb1⟩)
        go_roundw
        case rel => exact ⟨k + 1, by omega, by go_num, Below.trans (by repeat (first | exact HBEL.out | refine Below.alloc ?_ (by first | omega | (simp; done) | (simp; omega)) _ | refine Below.setCell ?_ (by first | omega | (simp; done) | (simp; omega)) _)) (hb1.mono (by simp; omega)), HN2.out⟩
        case measure => simp [intOf]; omega
    · have HR : Hid (mtube ps qs = (0, false)) := mtube_none (mx_none (fun j hj => HALL.out j hj (by rw [hn.out] at hj; omega)))
      go_wp2
      go_ret2
      exact ⟨by rw [HR.out]; rfl, hbel⟩
end Go.Proofs.Ytgjbahnloladfaa
