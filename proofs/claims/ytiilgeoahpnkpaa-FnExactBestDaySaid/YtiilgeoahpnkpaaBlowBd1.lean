/-
  Blowers: the program's memory of a day: the closure that tells what the rest of a day costs, and the best set of an hour.
-/
import Derived.Test.YtiilgeoahpnkpaaBlowDay
namespace Go.Proofs.Ytiilgeoahpnkpaa
open Go.RowKit

/-- What a day holds in memory: the bank, the needs, and what the rest costs. -/
structure DayM (W : World) (D g c N : Nat) (b : Option Addr) (m cb : Nat) (R : Nat → Nat → Int) : Prop where
  lt : D < W.heap.size
  c0 : W.cell? ⟨D, 0, none⟩ = some (.slice (some ⟨g, 0, none⟩) N c)
  c1 : W.cell? ⟨D, 1, none⟩ = some (.slice b m cb)
  rest : ∀ h s, h ≤ 24 → s < 16 → W.cell? ⟨D, 2 + h * 16 + s, none⟩ = some (.int .i64 (R h s))
  fz : ∀ o, W.frozen? ⟨D, o, none⟩ = false
theorem DayM.below {W W' : World} {D g c N : Nat} {b : Option Addr} {m cb : Nat} {R : Nat → Nat → Int} (h : DayM W D g c N b m cb R) (hB : Below W.heap.size W W') : DayM W' D g c N b m cb R :=
  ⟨Nat.lt_of_lt_of_le h.lt hB.size, (hB.cell (p := ⟨D, 0, none⟩) h.lt).trans h.c0, (hB.cell (p := ⟨D, 1, none⟩) h.lt).trans h.c1, fun i s hi hs => (hB.cell (p := ⟨D, 2 + i * 16 + s, none⟩) h.lt).trans (h.rest i s hi hs), fun o => (hB.frozen (p := ⟨D, o, none⟩) h.lt).trans (h.fz o)⟩
/-- A table with one place changed. -/
def upR (R : Nat → Nat → Int) (h s : Nat) (x : Int) : Nat → Nat → Int := fun i j => if i = h ∧ j = s then x else R i j
theorem DayM.set {W : World} {D g c N : Nat} {b : Option Addr} {m cb : Nat} {R : Nat → Nat → Int} (hM : DayM W D g c N b m cb R) {h s : Nat} (hh : h ≤ 24) (hs : s < 16) (x : Int) : DayM (W.setCell ⟨D, 2 + h * 16 + s, none⟩ (.int .i64 x)) D g c N b m cb (upR R h s x) := by
  have hx := hM.rest h s hh hs
  refine ⟨by simpa using hM.lt, ?_, ?_, fun i j hi hj => ?_, fun o => ?_⟩
  · exact (World.cell?_setCell_other _ _ _ _ (fun e => by injection e with _ e2 _; omega)).trans hM.c0
  · exact (World.cell?_setCell_other _ _ _ _ (fun e => by injection e with _ e2 _; omega)).trans hM.c1
  · unfold upR
    by_cases e : i = h ∧ j = s
    · obtain ⟨rfl, rfl⟩ := e
      rw [if_pos ⟨rfl, rfl⟩]
      exact World.cell?_setCell_same _ _ _ hx
    · rw [if_neg e]
      exact (World.cell?_setCell_other _ _ _ _ (fun e2 => by injection e2 with _ e2 _; omega)).trans (hM.rest i j hi hj)
  · rw [World.frozen?_setCell]
    exact hM.fz o
theorem zeros117 : (Try.zeroCells117).toList.drop 2 = List.replicate 400 (Value.int .i64 0) := by kernel_rfl
theorem zeros117s : (Try.zeroCells117).size = 402 := by kernel_rfl
theorem DayM.new (w : World) (g c N : Nat) (b : Option Addr) (m cb : Nat) : DayM (w.alloc (.cells ((Try.zeroCells117.setIfInBounds 0 (.slice (some ⟨g, 0, none⟩) N c)).setIfInBounds 1 (.slice b m cb)) 117)) w.heap.size g c N b m cb (fun _ _ => 0) := by
  have hs := zeros117s
  have hz := zeros117
  generalize Try.zeroCells117 = Z at hs hz
  refine ⟨by simp, ?_, ?_, fun i j hi hj => ?_, fun o => by simp [go_sem]⟩
  · simp [go_sem, hs]
  · simp [go_sem, hs]
  · have hlt : 2 + i * 16 + j < Z.size := by rw [hs]; omega
    have h1 : Z[2 + i * 16 + j]? = some (.int .i64 0) := by
      have := congrArg (fun l => l[i * 16 + j]?) hz
      simp only [List.getElem?_drop, List.getElem?_replicate] at this
      rw [if_pos (by omega)] at this
      rw [← this, Nat.add_assoc]
      simp
    have h0 : ¬ (0 = 2 + i * 16 + j) := by omega
    have h2 : ¬ (1 = 2 + i * 16 + j) := by omega
    simp [go_sem, h0, h2, h1]
set_option maxRecDepth 20000 in
set_option maxHeartbeats 2000000 in
theorem bestCl_any (B0 B1 B2 D g c N n bf h s m cb : Nat) (b : Option Addr) (R : Nat → Nat → Int) (ts : List TBlower) (W : World) (hM : DayM W D g c N b m cb R) (x0 : W.cell? ⟨B0, 0, none⟩ = some (.pointer (some ⟨D, 0, none⟩))) (x1 : W.cell? ⟨B1, 0, none⟩ = some (.int .i64 bf)) (x2 : W.cell? ⟨B2, 0, none⟩ = some (.int .i64 h))
    (hb : blsB ts = true) (hn : Hid (ts.length = n)) (hN : Hid (N = 2 ^ n)) (hr : RR 3 cBlower W (some ⟨g, 0, none⟩) (bankL ts n)) (hs : s < N) (hbf : bf < N) (h16 : N ≤ 16) (hh : h < 24) (hbd : 0 ≤ R (h + 1) s ∧ R (h + 1) s ≤ 100000000) :
    Calls Try.prog 108 #[.int .i64 s, .pointer (some ⟨B0, 0, none⟩), .pointer (some ⟨B1, 0, none⟩), .pointer (some ⟨B2, 0, none⟩)] W fun e w' => e = .returned (.int .i64 (stepS ts bf s + R (h + 1) s)) ∧ ∃ m, w' = W.drewN m := by
  have CA : Hid (∀ q, Calls Try.prog 77 #[.slice (some ⟨g, 0, none⟩) N c, .int .i64 bf, .int .i64 s] (W.drewN q) fun e w' => e = .returned (.int .i64 (stepS ts bf s)) ∧ ∃ m, w' = (W.drewN q).drewN m) := fun q => costAfter_any g n c bf s ts N (W.drewN q) hb hn hN (hr.below (Below.drewN' (Below.refl _ _) q)) hs hbf
  have hsb := stepS_bd hb bf s
  have y0 := hM.c0
  have y1 := hM.rest (h + 1) s (by omega) (by omega)
  have hw1 := wrI (x := (h : Int) + 1) (by omega)
  generalize R (h + 1) s = r at y1 hbd
  generalize stepS ts bf s = t at hsb CA
  have hw2 := wrI (x := t + r) (by omega)
  have hk0 : (0 : Int) ≤ (h : Int) + 1 := by omega
  have hk1 : (h : Int) + 1 < 25 := by omega
  have hk2 : (0 : Int) ≤ (s : Int) := by omega
  have hk3 : (s : Int) < 16 := by omega
  clear hr hM hb
  go_enter Try.func108, Try.ntmps108
  go_wp2_with fail
  go_quiet (first | (go_at_call 77; refine (CA.out _).mono ?_; rintro e w4 ⟨rfl, m2, rfl⟩; exact ⟨rfl, _, drewN2 _ _ _⟩))
  go_wp2
  go_ret
  exact ⟨rfl, ⟨_, rfl⟩⟩
set_option maxRecDepth 20000 in
set_option maxHeartbeats 2000000 in
theorem cheapBest_any (g n c : Nat) (f : Int) (ts : List TBlower) (N : Nat) (B0 B1 B2 : Nat) (cf : Nat → Int) (w : World) (hN : Hid (N = 2 ^ n)) (hr : RR 3 cBlower w (some ⟨g, 0, none⟩) (bankL ts n)) (h16 : N ≤ 16)
    (hcost : ∀ m i : Nat, i < N → Calls Try.prog 108 #[.int .i64 i, .pointer (some ⟨B0, 0, none⟩), .pointer (some ⟨B1, 0, none⟩), .pointer (some ⟨B2, 0, none⟩)] (w.drewN m) fun e w' => e = .returned (.int .i64 (cf i)) ∧ ∃ m2, w' = (w.drewN m).drewN m2) :
    Calls Try.prog 72 #[.slice (some ⟨g, 0, none⟩) N c, .int .i64 f, .func (.func 108) #[] #[.pointer (some ⟨B0, 0, none⟩), .pointer (some ⟨B1, 0, none⟩), .pointer (some ⟨B2, 0, none⟩)]] w fun e w' => e = .returned (.tuple #[.int .i64 (((chE (pwB ts n f) cf N).1 : Nat) : Int), .int .i64 (chE (pwB ts n f) cf N).2]) ∧ ∃ m, w' = w.drewN m := by
  have HC := Lib.hid hcost
  have HPW : Hid (∀ m i : Nat, i < N → Calls Try.prog 82 #[.slice (some ⟨g, 0, none⟩) N c, .int .i64 i, .int .i64 f] (w.drewN m) fun e w' => e = .returned (.bool (pwB ts n f i)) ∧ w.drewN m = w') := fun m i hi => hasPower_any g n c i f ts N _ hN (hr.below (Below.drewN' (Below.refl _ _) m)) hi
  clear hcost hr
  go_enter Try.func72, Try.ntmps72
  go_wp2
  go_loopw [8, 9, 14] (fun fv lv iv wr => ∃ (i x m : Nat) (y : Int), i ≤ N ∧ fv = .int .i64 x ∧ lv = .int .i64 y ∧ iv = .int .i64 i ∧ wr = w.drewN m ∧ Hid (chE (pwB ts n f) cf i = (x, y))) (fun _ _ iv _ => N - (intOf iv).toNat)
  case atStart => exact ⟨0, 0, 0, 9223372036854775807, by omega, rfl, rfl, rfl, rfl, rfl⟩
  case round =>
    obtain ⟨i, x, m, y, hi, rfl, rfl, rfl, rfl, HX⟩ := hrel
    by_cases hlt : i < N
    · have hk0 : (0 : Int) ≤ (i : Int) := by omega
      have hk1 : (i : Int) < (N : Int) := by omega
      have PW := HPW.out m i hlt
      have CC := Lib.hid (fun q => HC.out q i hlt)
      have HYES : Hid (pwB ts n f i = true → cf i < y → chE (pwB ts n f) cf (i + 1) = (i, cf i)) := fun h1 h2 => by rw [chE, HX.out, if_pos ⟨h1, h2⟩]
      have HN1 : Hid (pwB ts n f i = false → chE (pwB ts n f) cf (i + 1) = (x, y)) := fun h1 => by rw [chE, HX.out, if_neg (fun h => by rw [h1] at h; exact absurd h.1 (by decide))]
      have HN2 : Hid (¬ cf i < y → chE (pwB ts n f) cf (i + 1) = (x, y)) := fun h1 => by rw [chE, HX.out, if_neg (fun h => h1 h.2)]
      cases hp : pwB ts n f i with
      | false =>
        have HN := Lib.hid (HN1.out hp)
        rw [hp] at PW
        clear HYES HN1 HN2 hp
        go_wp2_with (first | (go_at_call 82; refine PW.mono ?_; rintro e w4 ⟨rfl, rfl⟩))
        go_roundw
        case rel => exact ⟨i + 1, x, m, y, by omega, rfl, rfl, by go_num, rfl, HN⟩
        case measure => simp [intOf]; omega
      | true =>
        rw [hp] at PW
        by_cases hc : cf i < y
        · have HN := Lib.hid (HYES.out hp hc)
          clear HYES HN1 HN2 hp
          generalize cf i = z at hc HN CC
          go_wp2_with (first | (go_at_call 82; refine PW.mono ?_; rintro e w4 ⟨rfl, rfl⟩) | (go_at_call 108; refine (CC.out _).mono ?_; rintro e w4 ⟨rfl, m2, rfl⟩))
          go_roundw
          case rel => exact ⟨i + 1, i, _, z, by omega, rfl, rfl, by go_num, rfl, HN⟩
          case measure => simp [intOf]; omega
        · have HN := Lib.hid (HN2.out hc)
          clear HYES HN1 HN2 hp
          generalize cf i = z at hc CC
          go_wp2_with (first | (go_at_call 82; refine PW.mono ?_; rintro e w4 ⟨rfl, rfl⟩) | (go_at_call 108; refine (CC.out _).mono ?_; rintro e w4 ⟨rfl, m2, rfl⟩))
          go_roundw
          case rel => exact ⟨i + 1, x, _, y, by omega, rfl, rfl, by go_num, rfl, HN⟩
          case measure => simp [intOf]; omega
    · have hkn : i = N := by omega
      subst hkn
      go_wp2
      go_ret2
      rw [HX.out]
      exact ⟨rfl, m, rfl⟩

set_option maxRecDepth 20000 in
set_option maxHeartbeats 4000000 in
theorem bestAfter_any (D g c N n bf h m cb : Nat) (b : Option Addr) (R : Nat → Nat → Int) (ts : List TBlower) (ns : List Int) (w : World) (hM : DayM w D g c N b m cb R) (hb : blsB ts = true) (hn : Hid (ts.length = n)) (hN : Hid (N = 2 ^ n)) (hr : RR 3 cBlower w (some ⟨g, 0, none⟩) (bankL ts n)) (hm : Hid (ns.length = m)) (hri : RI w b ns)
    (hbf : bf < N) (h16 : N ≤ 16) (hh : h < m) (h24 : m ≤ 24) (hbd : ∀ s, s < N → 0 ≤ R (h + 1) s ∧ R (h + 1) s ≤ 100000000) :
    Calls Try.prog 101 #[.pointer (some ⟨D, 0, none⟩), .int .i64 bf, .int .i64 h] w fun e w' => e = .returned (.tuple #[.int .i64 (((chE (pwB ts n (ns.getD h 0)) (fun s => stepS ts bf s + R (h + 1) s) N).1 : Nat) : Int), .int .i64 (chE (pwB ts n (ns.getD h 0)) (fun s => stepS ts bf s + R (h + 1) s) N).2]) ∧ Below w.heap.size w w' := by
  have hhl : h < ns.length := by rw [hm.out]; exact hh
  obtain ⟨bb, ob, rfl, hbl, x1⟩ := hri.at_ h hhl
  rw [← getD_atI hhl] at x1
  have HW : Hid (∀ W, Below w.heap.size w W → W.cell? ⟨w.heap.size, 0, none⟩ = some (.pointer (some ⟨D, 0, none⟩)) → W.cell? ⟨w.heap.size + 1, 0, none⟩ = some (.int .i64 bf) → W.cell? ⟨w.heap.size + 1 + 1, 0, none⟩ = some (.int .i64 h) →
      Calls Try.prog 72 #[.slice (some ⟨g, 0, none⟩) N c, .int .i64 (ns.getD h 0), .func (.func 108) #[] #[.pointer (some ⟨w.heap.size, 0, none⟩), .pointer (some ⟨w.heap.size + 1, 0, none⟩), .pointer (some ⟨w.heap.size + 1 + 1, 0, none⟩)]] W fun e w' => e = .returned (.tuple #[.int .i64 (((chE (pwB ts n (ns.getD h 0)) (fun s => stepS ts bf s + R (h + 1) s) N).1 : Nat) : Int), .int .i64 (chE (pwB ts n (ns.getD h 0)) (fun s => stepS ts bf s + R (h + 1) s) N).2]) ∧ ∃ m, w' = W.drewN m) := fun W hW y0 y1 y2 =>
    cheapBest_any g n c (ns.getD h 0) ts N w.heap.size (w.heap.size + 1) (w.heap.size + 1 + 1) (fun s => stepS ts bf s + R (h + 1) s) W hN (hr.below hW) h16 fun q i hi =>
      bestCl_any w.heap.size (w.heap.size + 1) (w.heap.size + 1 + 1) D g c N n bf h i m cb _ R ts (W.drewN q) (hM.below (Below.drewN' hW q)) y0 y1 y2 hb hn hN (hr.below (Below.drewN' hW q)) hi hbf h16 (by omega) (hbd i hi)
  have HK : Hid (∀ W, Below w.heap.size w W → W.cell? ⟨D, 0, none⟩ = some (.slice (some ⟨g, 0, none⟩) N c) ∧ W.cell? ⟨D, 1, none⟩ = some (.slice (some ⟨bb, ob, none⟩) m cb) ∧ W.cell? ⟨bb, ob + h, none⟩ = some (.int .i64 (ns.getD h 0))) := fun W hW => ⟨(hM.below hW).c0, (hM.below hW).c1, (hW.cell (p := ⟨bb, ob + h, none⟩) hbl).trans x1⟩
  have hDl := hM.lt
  generalize ns.getD h 0 = f at x1 HW HK
  have hk0 : (0 : Int) ≤ (h : Int) := by omega
  have hk1 : (h : Int) < (m : Int) := by omega
  clear hM hr hri hb hbd
  go_enter Try.func101, Try.ntmps101
  go_wp2_with fail
  obtain ⟨W3, hW3⟩ : ∃ W3, W3 = ((w.alloc (.cells #[.pointer (some ⟨D, 0, none⟩)] 71)).alloc (.cells #[.int .i64 bf] 2)).alloc (.cells #[.int .i64 h] 3) := ⟨_, rfl⟩
  rw [← hW3]
  have HB3 : Hid (Below w.heap.size w W3) := by unfold Hid; rw [hW3]; exact (by repeat (first | exact Below.refl _ _ | refine Below.alloc ?_ (by simp; try omega) _ | refine Below.setCell ?_ (by simp; try omega) _))
  have hz : W3.heap.size = w.heap.size + 1 + 1 + 1 := by rw [hW3]; simp
  have HS : Hid (∀ W, Below W3.heap.size W3 W → W.cell? ⟨w.heap.size, 0, none⟩ = some (.pointer (some ⟨D, 0, none⟩)) ∧ W.cell? ⟨w.heap.size + 1, 0, none⟩ = some (.int .i64 bf) ∧ W.cell? ⟨w.heap.size + 1 + 1, 0, none⟩ = some (.int .i64 h) ∧ W.cell? ⟨D, 0, none⟩ = some (.slice (some ⟨g, 0, none⟩) N c) ∧ W.cell? ⟨D, 1, none⟩ = some (.slice (some ⟨bb, ob, none⟩) m cb) ∧ W.cell? ⟨bb, ob + h, none⟩ = some (.int .i64 f)) := fun W hW => by
    obtain ⟨k1, k2, k3⟩ := HK.out _ (HB3.out.trans (hW.mono HB3.out.size))
    refine ⟨(hW.cell (p := ⟨w.heap.size, 0, none⟩) (by rw [hz]; show w.heap.size < _; omega)).trans ?_, (hW.cell (p := ⟨w.heap.size + 1, 0, none⟩) (by rw [hz]; show w.heap.size + 1 < _; omega)).trans ?_, (hW.cell (p := ⟨w.heap.size + 1 + 1, 0, none⟩) (by rw [hz]; show w.heap.size + 1 + 1 < _; omega)).trans ?_, k1, k2, k3⟩
    · rw [hW3]; simp [go_sem]
    · rw [hW3]; simp [go_sem]
    · rw [hW3]; simp [go_sem]
  have d := (Below.refl W3.heap.size W3).drew
  have HZ := Lib.hid hz
  clear hW3 hz HK x1
  go_region_held3 (fun w' => w'.cell? ⟨w.heap.size, 0, none⟩ = some (.pointer (some ⟨D, 0, none⟩)) ∧ w'.cell? ⟨w.heap.size + 1, 0, none⟩ = some (.int .i64 bf) ∧ w'.cell? ⟨w.heap.size + 1 + 1, 0, none⟩ = some (.int .i64 h) ∧ w'.cell? ⟨D, 0, none⟩ = some (.slice (some ⟨g, 0, none⟩) N c) ∧ w'.cell? ⟨D, 1, none⟩ = some (.slice (some ⟨bb, ob, none⟩) m cb) ∧ w'.cell? ⟨bb, ob + h, none⟩ = some (.int .i64 f))
    (first | exact HS.out _ d | exact HS.out _ (Below.drewN' (Below.refl _ _) _))
    (first | (go_at_call 72; refine (HW.out _ (HB3.out.trans (d.mono HB3.out.size)) (HS.out _ d).1 (HS.out _ d).2.1 (HS.out _ d).2.2.1).mono ?_; rintro e w7 ⟨rfl, m7, rfl⟩))
  all_goals
    clear d HS HW
    go_wp2
    go_ret2
    exact ⟨rfl, Below.drewN' HB3.out _⟩

/-- The table of what the rest costs, from the hour h on. -/
def TabOk (ts : List TBlower) (ns : List Int) (R : Nat → Nat → Int) (h N : Nat) : Prop := ∀ i s, h ≤ i → i ≤ ns.length → s < N → R i s = restD ts ns (ns.length - i) s
theorem tab_cost {ts : List TBlower} {ns : List Int} {R : Nat → Nat → Int} {h N : Nat} (hT : TabOk ts ns R (h + 1) N) (hh : h < ns.length) (b : Nat) {s : Nat} (hs : s < N) : stepS ts b s + R (h + 1) s = dayC ts ns h b s := by
  unfold dayC
  rw [hT (h + 1) s (Nat.le_refl _) (by omega) hs]
theorem chE_congr {p : Nat → Bool} {c c' : Nat → Int} : ∀ {N : Nat}, (∀ s, s < N → c s = c' s) → chE p c N = chE p c' N
  | 0, _ => rfl
  | N + 1, h => by rw [chE, chE, chE_congr fun s hs => h s (by omega), h N (by omega)]
/-- What the walks of a day take of valid arguments. -/
structure DayP (ts : List TBlower) (ns : List Int) (n m N : Nat) : Prop where
  val : blsB ts = true
  feas : feasB ts ns = true
  hn : ts.length = n
  hm : ns.length = m
  hN : N = 2 ^ n
  h16 : N ≤ 16
  h24 : m ≤ 24
theorem bestDay_any {ts : List TBlower} {ns : List Int} {n m N : Nat} (HP : Hid (DayP ts ns n m N)) (D g c bf h cb : Nat) (b : Option Addr) (R : Nat → Nat → Int) (w : World) (hM : DayM w D g c N b m cb R) (hr : RR 3 cBlower w (some ⟨g, 0, none⟩) (bankL ts n)) (hri : RI w b ns) (hT : TabOk ts ns R (h + 1) N) (hbf : bf < N) (hh : h < m) :
    Calls Try.prog 101 #[.pointer (some ⟨D, 0, none⟩), .int .i64 bf, .int .i64 h] w fun e w' => e = .returned (.tuple #[.int .i64 ((bestA ts ns h bf : Nat) : Int), .int .i64 (restD ts ns (m - h) bf)]) ∧ Below w.heap.size w w' := by
  obtain ⟨hv, hf, hn, hm, hN, h16, h24⟩ := HP.out
  have hhl : h < ns.length := by omega
  have h1 := bestAfter_any D g c N n bf h m cb b R ts ns w hM hv hn hN hr hm hri hbf h16 hh h24 fun s hs => by
    rw [hT (h + 1) s (Nat.le_refl _) (by omega) hs]
    have := restD_bd hv hf (ns.length - (h + 1)) (by omega) (by omega) s
    omega
  have e : chE (pwB ts n (ns.getD h 0)) (fun s => stepS ts bf s + R (h + 1) s) N = chE (dayP ts ns h) (dayC ts ns h bf) (allN ts) := by
    have e1 : pwB ts n (ns.getD h 0) = dayP ts ns h := by unfold dayP; rw [hn]
    have e2 : N = allN ts := by unfold allN; rw [hn]; exact hN
    rw [e1, ← e2]
    exact chE_congr fun s hs => tab_cost hT hhl bf hs
  rw [e] at h1
  have e3 := restD_at (ts := ts) (b := bf) hhl
  rw [hm] at e3
  rw [e3]
  exact h1
theorem TabOk.up {ts : List TBlower} {ns : List Int} {R : Nat → Nat → Int} {h N k : Nat} (hT : TabOk ts ns R (h + 1) N) (hQ : ∀ s, s < k → R h s = restD ts ns (ns.length - h) s) : TabOk ts ns (upR R h k (restD ts ns (ns.length - h) k)) (h + 1) N ∧ ∀ s, s < k + 1 → upR R h k (restD ts ns (ns.length - h) k) h s = restD ts ns (ns.length - h) s := by
  refine ⟨fun i s hi hi2 hs => ?_, fun s hs => ?_⟩
  · unfold upR
    rw [if_neg (by omega)]
    exact hT i s hi hi2 hs
  · unfold upR
    by_cases e : s = k
    · subst e; rw [if_pos ⟨rfl, rfl⟩]
    · rw [if_neg (by omega)]
      exact hQ s (by omega)
theorem TabOk.down {ts : List TBlower} {ns : List Int} {R : Nat → Nat → Int} {h N : Nat} (hT : TabOk ts ns R (h + 1) N) (hQ : ∀ s, s < N → R h s = restD ts ns (ns.length - h) s) : TabOk ts ns R h N := fun i s hi hi2 hs => by
  by_cases e : i = h
  · subst e; exact hQ s hs
  · exact hT i s (by omega) hi2 hs
theorem TabOk.zero (ts : List TBlower) (ns : List Int) (N : Nat) : TabOk ts ns (fun _ _ => 0) ns.length N := fun i s hi hi2 _ => by
  have : ns.length - i = 0 := by omega
  rw [this]
  rfl
set_option maxRecDepth 20000 in
set_option maxHeartbeats 4000000 in
theorem newDay_any {ts : List TBlower} {ns : List Int} {n m N : Nat} (HP : Hid (DayP ts ns n m N)) (g c cb : Nat) (b : Option Addr) (w : World) (hr : RR 3 cBlower w (some ⟨g, 0, none⟩) (bankL ts n)) (hri : RI w b ns) :
    Calls Try.prog 60 #[.slice (some ⟨g, 0, none⟩) N c, .slice b m cb] w fun e w' => e = .returned (.pointer (some ⟨w.heap.size, 0, none⟩)) ∧ Below w.heap.size w w' ∧ ∃ R, DayM w' w.heap.size g c N b m cb R ∧ TabOk ts ns R 0 N := by
  have HR : Hid (∀ W, Below w.heap.size w W → RR 3 cBlower W (some ⟨g, 0, none⟩) (bankL ts n) ∧ RI W b ns) := fun W h => ⟨hr.below h, hri.below h⟩
  have h16 := HP.out.h16
  have h24 := HP.out.h24
  have H0 := Lib.hid (DayM.new w g c N b m cb)
  have HT0 : Hid (TabOk ts ns (fun _ _ => 0) m N) := by have h := TabOk.zero ts ns N; rw [HP.out.hm] at h; exact h
  clear hr hri
  go_enter Try.func60, Try.ntmps60
  go_wp2_with fail
  generalize hZ : (w.alloc (.cells ((Try.zeroCells117.setIfInBounds 0 (.slice (some ⟨g, 0, none⟩) N c)).setIfInBounds 1 (.slice b m cb)) 117)) = W0 at H0
  have HB0 : Hid (Below w.heap.size w W0) := by unfold Hid; rw [← hZ]; exact (by repeat (first | exact Below.refl _ _ | refine Below.alloc ?_ (by simp; try omega) _ | refine Below.setCell ?_ (by simp; try omega) _))
  have HZ0 : Hid (w.heap.size < W0.heap.size) := by unfold Hid; rw [← hZ]; simp
  clear hZ
  go_loopw [6] (fun iv wr => ∃ (h : Nat) (hv : Int) (R : Nat → Nat → Int), h ≤ m ∧ hv = (h : Int) - 1 ∧ iv = .int .i64 hv ∧ Hid (Below w.heap.size w wr) ∧ Hid (DayM wr w.heap.size g c N b m cb R) ∧ Hid (TabOk ts ns R h N)) (fun iv _ => (intOf iv + 1).toNat)
  case atStart => exact ⟨m, (m : Int) - 1, _, Nat.le_refl _, rfl, rfl, HB0, H0, HT0⟩
  case round =>
    obtain ⟨wo, hwo⟩ : ∃ wo, wo = wr := ⟨wr, rfl⟩
    subst hwo
    obtain ⟨h, hv, R, hh, hhv, rfl, HBEL, HM, HT⟩ := hrel
    cases h with
    | zero =>
      have e : hv = -1 := by omega
      subst e
      have HF := HM.out
      clear hhv
      go_wp2
      go_ret
      exact ⟨rfl, HBEL.out, R, HF, HT.out⟩
    | succ h =>
      have e : hv = (h : Int) := by omega
      subst e
      have x0 := HM.out.c0
      have hk0 : (0 : Int) ≤ (h : Int) := by omega
      have hk0b : (h : Int) < 25 := by omega
      clear hhv
      go_wp2_with fail
      go_loopw [24] (fun iv wi => ∃ (k : Nat) (R : Nat → Nat → Int), k ≤ N ∧ iv = .int .i64 k ∧ Hid (Below w.heap.size w wi) ∧ Hid (DayM wi w.heap.size g c N b m cb R) ∧ Hid (TabOk ts ns R (h + 1) N) ∧ Hid (∀ s, s < k → R h s = restD ts ns (m - h) s)) (fun iv _ => N - (intOf iv).toNat)
      case atStart => exact ⟨0, R, by omega, rfl, HBEL, HM, HT, fun s hs => by omega⟩
      case round =>
        obtain ⟨k, R2, hk, rfl, HBI, HMI, HTI, HQI⟩ := hrel
        by_cases hlt : k < N
        · have hj0 : (0 : Int) ≤ (k : Int) := by omega
          have hj1 : (k : Int) < (N : Int) := by omega
          have hj2 : (k : Int) < 16 := by omega
          have d := (Below.refl wr.heap.size wr).drew
          have BA := bestDay_any HP w.heap.size g c k h cb b R2 wr.drew (HMI.out.below d) (HR.out _ HBI.out.drew).1 (HR.out _ HBI.out.drew).2 HTI.out hlt (by omega)
          have HNX : Hid (∀ W, Below wr.heap.size wr W → W.cell? ⟨w.heap.size, 2 + h * 16 + k, none⟩ = some (.int .i64 (R2 h k)) ∧ W.frozen? ⟨w.heap.size, 2 + h * 16 + k, none⟩ = false ∧ DayM (W.setCell ⟨w.heap.size, 2 + h * 16 + k, none⟩ (.int .i64 (restD ts ns (m - h) k))) w.heap.size g c N b m cb (upR R2 h k (restD ts ns (m - h) k))) := fun W hW =>
            ⟨(HMI.out.below hW).rest h k (by omega) (by omega), (HMI.out.below hW).fz _, (HMI.out.below hW).set (by omega) (by omega) _⟩
          have HTN : Hid (TabOk ts ns (upR R2 h k (restD ts ns (m - h) k)) (h + 1) N ∧ ∀ s, s < k + 1 → upR R2 h k (restD ts ns (m - h) k) h s = restD ts ns (m - h) s) := by
            have h1 := HQI.out
            rw [← HP.out.hm] at h1 ⊢
            exact HTI.out.up h1
          have hws := HBI.out.size
          clear HMI HTI HQI
          go_wp2_with fail
          go_region_with (first | (go_at_call 101; refine BA.mono ?_; rintro e w4 ⟨rfl, hb4⟩; obtain ⟨y1, y2, y3⟩ := HNX.out _ (d.trans hb4)))
          all_goals
            have HB4 : Hid (Below w.heap.size w w4) := HBI.out.trans ((d.trans hb4).mono hws)
            have hs4 := (d.trans hb4).size
            have HM5 := Lib.hid y3
            clear BA HNX d hb4 y3
            go_wp2
            go_roundw
            case rel => exact ⟨k + 1, upR R2 h k (restD ts ns (m - h) k), by omega, by go_num, HB4.out.setCell (Nat.le_refl _) _, HM5, HTN.out.1, HTN.out.2⟩
            case measure => simp [intOf]; omega
        · have hkn : k = N := by omega
          subst hkn
          have HT2 : Hid (TabOk ts ns R2 h k) := TabOk.down HTI.out (by have h1 := HQI.out; rw [← HP.out.hm] at h1; exact h1)
          have hw1 := wrI (x := (h : Int) - 1) (by omega)
          go_wp2
          go_roundw
          case rel => exact ⟨h, (h : Int) - 1, R2, by omega, rfl, by first | rfl | rw [hw1], HBI, HMI, HT2⟩
          case measure => simp [intOf]
set_option maxRecDepth 20000 in
set_option maxHeartbeats 2000000 in
theorem costDay_any {ts : List TBlower} {ns : List Int} {n m N : Nat} (HP : Hid (DayP ts ns n m N)) (D g c cb : Nat) (b : Option Addr) (R : Nat → Nat → Int) (w : World) (hM : DayM w D g c N b m cb R) (hT : TabOk ts ns R 0 N) :
    Calls Try.prog 62 #[.pointer (some ⟨D, 0, none⟩)] w fun e w' => e = .returned (.int .i64 (restD ts ns m 0)) ∧ w = w' := by
  have x0 := hM.rest 0 0 (by omega) (by omega)
  have hN1 : 0 < N := by rw [HP.out.hN]; exact Nat.two_pow_pos n
  have e := hT 0 0 (Nat.le_refl _) (by omega) hN1
  rw [HP.out.hm, Nat.sub_zero] at e
  rw [e] at x0
  simp only [Nat.zero_mul, Nat.add_zero] at x0
  clear hM hT e
  go_enter Try.func62, Try.ntmps62
  go_wp2
  go_ret
  exact ⟨rfl, rfl⟩
theorem infoI64 : (Try.prog.info? 2).map (fun i => (i.zero, i.size, i.bytes)) = some (some (.int .i64 0), 1, 8) := by kernel_rfl
set_option maxRecDepth 20000 in
set_option maxHeartbeats 4000000 in
theorem setsDay_any {ts : List TBlower} {ns : List Int} {n m N : Nat} (HP : Hid (DayP ts ns n m N)) (D g c cb : Nat) (b : Option Addr) (R : Nat → Nat → Int) (w : World) (hM : DayM w D g c N b m cb R) (hT : TabOk ts ns R 0 N) (hr : RR 3 cBlower w (some ⟨g, 0, none⟩) (bankL ts n)) (hri : RI w b ns) :
    Calls Try.prog 61 #[.pointer (some ⟨D, 0, none⟩)] w fun e w' => Below w.heap.size w w' ∧ ∃ (ao : Option Addr) (cap : Nat), e = .returned (.slice ao m cap) ∧ w'.ownsRow w.heap.size 2 1 (.slice ao m cap) m ((pathL ts ns m).map (Value.int .i64)) := by
  have HW : Hid (∀ W, Below w.heap.size w W → DayM W D g c N b m cb R ∧ RR 3 cBlower W (some ⟨g, 0, none⟩) (bankL ts n) ∧ RI W b ns) := fun W h => ⟨hM.below h, hr.below h, hri.below h⟩
  have HT := Lib.hid hT
  have h24 := HP.out.h24
  have HI : Hid (∃ i0 : TypeInfo, Try.prog.info? 2 = some i0 ∧ i0.zero = some (.int .i64 0) ∧ i0.size = 1 ∧ i0.bytes = 8) := info_parts infoI64
  have HPB : Hid (∀ h, h ≤ m → pathB ts ns h < N) := fun h hh => by
    have e : N = allN ts := by unfold allN; rw [HP.out.hn]; exact HP.out.hN
    rw [e]
    exact pathB_lt HP.out.val HP.out.feas (by rw [HP.out.hm]; exact h24) h (by rw [HP.out.hm]; exact hh)
  have x1 := hM.c1
  clear hM hr hri hT
  go_enter Try.func61, Try.ntmps61
  go_wp2
  go_loopw [3, 4, 11] (fun lv bv iv wr => ∃ (h bf cap : Nat) (ao : Option Addr) (l : List Int), h ≤ m ∧ lv = .slice ao h cap ∧ bv = .int .i64 bf ∧ iv = .int .i64 h ∧ Hid (l = pathL ts ns h) ∧ Hid (bf = pathB ts ns h) ∧ Hid (Below w.heap.size w wr) ∧ Hid (wr.ownsRow w.heap.size 2 1 (.slice ao h cap) h (l.map (Value.int .i64)))) (fun _ _ iv _ => m - (intOf iv).toNat)
  case atStart => exact ⟨0, 0, 0, none, [], by omega, rfl, rfl, rfl, rfl, rfl, Below.refl _ _, World.ownsRow_nil _ _ _ _⟩
  case round =>
    obtain ⟨h, bf, cap, ao, l, hh, rfl, rfl, rfl, HL, HBF, HBEL, HOWN⟩ := hrel
    by_cases hlt : h < m
    · have hbf := HPB.out h hh
      rw [← HBF.out] at hbf
      obtain ⟨hM, hr, hri⟩ := HW.out _ HBEL.out
      have BA := bestDay_any HP D g c bf h cb b R wr hM hr hri (fun i s hi hi2 hs => HT.out i s (Nat.zero_le _) hi2 hs) hbf hlt
      have HL2 : Hid (l ++ [((bestA ts ns h bf : Nat) : Int)] = pathL ts ns (h + 1)) := by unfold Hid; rw [pathL_succ, HL.out, HBF.out]
      have HBF2 : Hid (bestA ts ns h bf = pathB ts ns (h + 1)) := by unfold Hid; rw [HBF.out]; rfl
      generalize bestA ts ns h bf = x at BA HL2 HBF2
      generalize restD ts ns (m - h) bf = y at BA
      have hws : w.heap.size ≤ wr.heap.size := HBEL.out.size
      have HGE : Hid (∀ q, (Value.slice ao h cap).ownBlock = some q → w.heap.size ≤ q) := fun q hq => (HOWN.out.lt q hq).1
      have hk0 : (0 : Int) ≤ (h : Int) := by omega
      have hk1 : (h : Int) < (m : Int) := by omega
      clear hM hr hri
      go_wp2_with (first | (go_at_call 101; refine BA.mono ?_; rintro e w4 ⟨rfl, hb4⟩; have HB4 : Hid (Below w.heap.size w w4) := HBEL.out.trans (hb4.mono hws); have HO4 := Lib.hid (own_keptB HOWN.out hb4); have hw4 : w.heap.size ≤ w4.heap.size := HB4.out.size; clear hb4) | (at_builtin; refine wpList_append_lies _ rfl _ _ 25 rfl w.heap.size 2 HI.out.choose (.int .i64 0) 1 8 Try.underlying25 HI.out.choose_spec.1 HI.out.choose_spec.2.1 HI.out.choose_spec.2.2.1 HI.out.choose_spec.2.2.2 rfl (by decide) (.slice ao h cap) h (l.map (Value.int .i64)) rfl (HO4.out.alloc _) ⟨w4.heap.size, 0, none⟩ 1 1 [.int .i64 (x : Int)] rfl rfl ?_ (by intro u hu; simp at hu; subst hu; rfl) (by omega) (by unfold maxLen; omega) (by omega) (by simp; omega) (w4.heap.size + 1) (by simp) ?_))
      · intro j u hj
        match j, hj with
        | 0, hj => (simp at hj; subst hj; simp [Addr.add, go_sem])
      intro g' cap' w3 hown1 hgrow hat hlt2
      have B5 : Hid (Below w.heap.size w w3) := Below.grown (by repeat (first | exact HB4.out | refine Below.alloc ?_ (by first | omega | (simp; done) | (simp; omega)) _ | refine Below.setCell ?_ (by first | omega | (simp; done) | (simp; omega)) _)) hgrow (by simp; omega) HGE.out
      have O1 : Hid (w3.ownsRow w.heap.size 2 1 (.slice (some ⟨g', 0, none⟩) (h + 1) cap') (h + 1) ((l ++ [(x : Int)]).map (Value.int .i64))) := by
        unfold Hid; rw [List.map_append]; exact hown1
      clear hown1 hgrow hat hlt2
      go_wp2
      go_roundw
      case rel => exact ⟨h + 1, x, cap', _, l ++ [(x : Int)], by omega, rfl, rfl, by go_num, HL2, HBF2, B5, O1⟩
      case measure => simp [intOf]; omega
    · have hkm : h = m := by omega
      subst hkm
      go_wp2
      go_ret
      exact ⟨HBEL.out, ao, cap, rfl, by rw [← HL.out]; exact HOWN.out⟩
end Go.Proofs.Ytiilgeoahpnkpaa
