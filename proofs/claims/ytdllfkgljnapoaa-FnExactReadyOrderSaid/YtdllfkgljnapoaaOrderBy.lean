/-
  Orders by a number of each wish: the closures that compare, the copy that is sorted.
-/
import Derived.Test.YtdllfkgljnapoaaSortWalk
import Derived.Test.YtdllfkgljnapoaaWishOk
import Derived.Test.YtdllfkgljnapoaaRegHand
namespace Go.Proofs.Ytdllfkgljnapoaa
open Go.RowKit Go.Shelf Go.Sort

theorem infoI64o : (Try.prog.info? 2).map (fun i => (i.zero, i.size, i.bytes)) = some (some (.int .i64 0), 1, 8) := by kernel_rfl
theorem made_own1 (w : World) (lo n : Nat) (hlo : lo ≤ w.heap.size) (hn : n ≤ 1000) : (w.alloc (.cells (madeCells #[.int .i64 0] n) 2)).ownsRow lo 2 1 (.slice (some ⟨w.heap.size, 0, none⟩) n n) n ((List.replicate n (0 : Int)).map (Value.int .i64)) := by
  refine ⟨by simp, .inr ⟨w.heap.size, n, _, rfl, hlo, heap_alloc_new w _, Nat.le_refl _, by unfold maxLen; omega, by rw [size_madeCells]; omega, ?_⟩⟩
  rw [toList_madeCells_one]
  simp
/-- The row whose first k places hold their indexes. -/
def fillR (n k : Nat) : List Int := up 0 k ++ List.replicate (n - k) 0
theorem fillR_zero (n : Nat) : fillR n 0 = List.replicate n 0 := by simp [fillR, up]
theorem fillR_end (n : Nat) : fillR n n = up 0 n := by simp [fillR]
theorem fillR_len {n k : Nat} (h : k ≤ n) : (fillR n k).length = n := by simp [fillR, up_len]; omega
theorem up_snoc (k : Nat) : up 0 (k + 1) = up 0 k ++ [(k : Int)] := by
  unfold up
  rw [Nat.sub_zero, Nat.sub_zero, List.range'_1_concat, List.map_append]
  simp
theorem fillR_set {n k : Nat} (h : k < n) : (fillR n k).set k (k : Int) = fillR n (k + 1) := by
  unfold fillR
  obtain ⟨d, hd⟩ : ∃ d, n - k = d + 1 := ⟨n - k - 1, by omega⟩
  rw [List.set_append_right _ _ (by rw [up_len]; omega), up_len, hd, show n - (k + 1) = d by omega, up_snoc, List.replicate_succ, Nat.sub_zero, Nat.sub_self, List.set_cons_zero, List.append_assoc]
  rfl

/-- The number by which the wishes are ordered. -/
def kfR (t : TWish) : Int := t.2.1
def ksR (ts : List TWish) : List Int := ts.map kfR
theorem keyR_any (v : Value) (x y : Int) (W : World) : Calls Try.prog 30 #[.agg #[v, .int .i64 x, .int .i64 y]] W fun e w' => e = .returned (.int .i64 x) ∧ Grown W w' := by
  go_enter Try.func30, Try.ntmps30
  go_wp2
  go_ret
  exact ⟨rfl, (Grown.refl _).alloc _⟩
set_option maxHeartbeats 4000000 in
theorem byR_any (kb lb : Nat) (ts : List TWish) (a : Option Addr) (n ca x y : Nat) (W : World) (hx : x < ts.length) (hy : y < ts.length) (hn : Hid (ts.length = n)) (hk : W.cell? ⟨kb, 0, none⟩ = some (.func (.func 30) #[] #[])) (hl : W.cell? ⟨lb, 0, none⟩ = some (.slice a n ca)) (ha : RN 1048576 3 cWish W a ts) :
    Calls Try.prog 39 #[.int .i64 (x : Int), .int .i64 (y : Int), .pointer (some ⟨kb, 0, none⟩), .pointer (some ⟨lb, 0, none⟩)] W fun e w' => e = .returned (.int .i64 (cmp3 (keyOf (ksR ts) (x : Int)) (keyOf (ksR ts) (y : Int)))) ∧ Grown W w' := by
  have e1 : keyOf (ksR ts) (x : Int) = kfR ts[x] := by rw [keyOf_nat _ _ (by simpa [ksR] using hx)]; simp [ksR]
  have e2 : keyOf (ksR ts) (y : Int) = kfR ts[y] := by rw [keyOf_nat _ _ (by simpa [ksR] using hy)]; simp [ksR]
  rw [e1, e2]
  obtain ⟨b, off, ai, ci, rfl, _, _, _, hc⟩ := ha.at_ x hx
  obtain ⟨b2, off2, ai2, ci2, hbe, _, _, _, hc2⟩ := ha.at_ y hy
  injection hbe with hbe
  injection hbe with q1 q2
  subst q1 q2
  have x0 := hc 0 _ rfl
  have x1 := hc 1 _ rfl
  have x2 := hc 2 _ rfl
  have y0 := hc2 0 _ rfl
  have y1 := hc2 1 _ rfl
  have y2 := hc2 2 _ rfl
  simp only [Nat.add_zero] at x0 y0
  have hk0 : (0 : Int) ≤ (x : Int) := by omega
  have hk1 : (x : Int) < (n : Int) := by have := hn.out; omega
  have hj0 : (0 : Int) ≤ (y : Int) := by omega
  have hj1 : (y : Int) < (n : Int) := by have := hn.out; omega
  clear hc hc2 ha e1 e2
  unfold kfR
  generalize ts[x] = t at x0 x1 x2
  generalize ts[y] = u at y0 y1 y2
  obtain ⟨t1, t2, t3⟩ := t
  obtain ⟨u1, u2, u3⟩ := u
  dsimp only at x0 x1 x2 y0 y1 y2
  generalize Value.slice ai t1.length ci = vx at x0
  generalize Value.slice ai2 u1.length ci2 = vy at y0
  have KY := keyR_any
  go_enter Try.func39, Try.ntmps39
  go_wp2_with fail
  refine wp_region_held_drew (S := (fun w' => Hid (Grown W w') ∧ w'.cell? ⟨kb, 0, none⟩ = some (.func (.func 30) #[] #[]) ∧ w'.cell? ⟨lb, 0, none⟩ = some (.slice (some ⟨b, off, none⟩) n ca) ∧ w'.cell? ⟨b, off + x * 3, none⟩ = some vx ∧ w'.cell? ⟨b, off + x * 3 + 1, none⟩ = some (.int .i64 t2) ∧ w'.cell? ⟨b, off + x * 3 + 2, none⟩ = some (.int .i64 t3) ∧ w'.cell? ⟨b, off + y * 3, none⟩ = some vy ∧ w'.cell? ⟨b, off + y * 3 + 1, none⟩ = some (.int .i64 u2) ∧ w'.cell? ⟨b, off + y * 3 + 2, none⟩ = some (.int .i64 u3))) (by kernel_rfl) ?_ (fun hHeld => ?_)
  · (try dsimp only); exact ⟨(Grown.refl _).drew, hk, hl, x0, x1, x2, y0, y1, y2⟩
  refine takeL (i := 0) (v := ?_) rfl (by kernel_rfl) (by kernel_rfl) (by kernel_rfl) (fun _ _ _ h => h) (Or.inl ⟨by rfl, ?_⟩) hHeld ?_
  rotate_left
  · intro w hSw; (try dsimp only at hSw); go_simp; (try with_reducible rfl)
  (try simp only [Act.put, List.setIfInBounds_toArray, List.set_cons_zero, List.set_cons_succ])
  refine takeL (i := 1) (v := ?_) rfl (by kernel_rfl) (by kernel_rfl) (by kernel_rfl) (fun _ _ _ h => h) (Or.inl ⟨by rfl, ?_⟩) hHeld ?_
  rotate_left
  · intro w hSw; (try dsimp only at hSw); go_simp; (try with_reducible rfl)
  (try simp only [Act.put, List.setIfInBounds_toArray, List.set_cons_zero, List.set_cons_succ])
  refine takeL (i := 2) (v := ?_) rfl (by kernel_rfl) (by kernel_rfl) (by kernel_rfl) (fun _ _ _ h => h) (Or.inl ⟨by rfl, ?_⟩) hHeld ?_
  rotate_left
  · intro w hSw; (try dsimp only at hSw); go_simp; (try with_reducible rfl)
  (try simp only [Act.put, List.setIfInBounds_toArray, List.set_cons_zero, List.set_cons_succ])
  refine takeL (i := 3) (v := ?_) rfl (by kernel_rfl) (by kernel_rfl) (by kernel_rfl) (fun _ _ _ h => h) (Or.inl ⟨by rfl, ?_⟩) hHeld ?_
  rotate_left
  · intro w hSw; (try dsimp only at hSw); go_simp; (try with_reducible rfl)
  (try simp only [Act.put, List.setIfInBounds_toArray, List.set_cons_zero, List.set_cons_succ])
  refine takeL (i := 4) (v := ?_) rfl (by kernel_rfl) (by kernel_rfl) (by kernel_rfl) (fun _ _ _ h => h) (Or.inl ⟨by rfl, ?_⟩) hHeld ?_
  rotate_left
  · intro w hSw; (try dsimp only at hSw); go_simp; (try with_reducible rfl)
  (try simp only [Act.put, List.setIfInBounds_toArray, List.set_cons_zero, List.set_cons_succ])
  refine takeL (i := 6) (v := ?_) rfl (by kernel_rfl) (by kernel_rfl) (by kernel_rfl) (fun _ _ _ h => h) (Or.inl ⟨by rfl, ?_⟩) hHeld ?_
  rotate_left
  · intro w hSw; (try dsimp only at hSw); go_simp; (try with_reducible rfl)
  (try simp only [Act.put, List.setIfInBounds_toArray, List.set_cons_zero, List.set_cons_succ])
  refine takeL (i := 7) (v := ?_) rfl (by kernel_rfl) (by kernel_rfl) (by kernel_rfl) (fun _ _ _ h => h) (Or.inl ⟨by rfl, ?_⟩) hHeld ?_
  rotate_left
  · intro w hSw; (try dsimp only at hSw); go_simp; (try with_reducible rfl)
  (try simp only [Act.put, List.setIfInBounds_toArray, List.set_cons_zero, List.set_cons_succ])
  refine takeL (i := 8) (v := ?_) rfl (by kernel_rfl) (by kernel_rfl) (by kernel_rfl) (fun _ _ _ h => h) (Or.inl ⟨by rfl, ?_⟩) hHeld ?_
  rotate_left
  · intro w hSw; (try dsimp only at hSw); go_simp; (try with_reducible rfl)
  (try simp only [Act.put, List.setIfInBounds_toArray, List.set_cons_zero, List.set_cons_succ])
  refine takeL (i := 9) (v := ?_) rfl (by kernel_rfl) (by kernel_rfl) (by kernel_rfl) (fun _ _ _ h => h) (Or.inl ⟨by rfl, ?_⟩) hHeld ?_
  rotate_left
  · intro w hSw; (try dsimp only at hSw); go_simp; (try with_reducible rfl)
  (try simp only [Act.put, List.setIfInBounds_toArray, List.set_cons_zero, List.set_cons_succ])
  refine takeL (i := 10) (v := ?_) rfl (by kernel_rfl) (by kernel_rfl) (by kernel_rfl) (fun _ _ _ h => h) (Or.inl ⟨by rfl, ?_⟩) hHeld ?_
  rotate_left
  · intro w hSw; (try dsimp only at hSw); go_simp; (try with_reducible rfl)
  (try simp only [Act.put, List.setIfInBounds_toArray, List.set_cons_zero, List.set_cons_succ])
  refine wpAnyH_ready (rs := [5]) (by kernel_rfl) (by simp) ?_
  refine readyL rfl (fun K hK => ?_) AllReadyH.nil
  go_simp
  go_at_call 30; refine (KY _ _ _ _).mono ?_; rintro e w2 ⟨rfl, hb2⟩
  refine hK.out _ _ ?_ (fun hHeld => ?_)
  · (try dsimp only); exact ⟨hHeld.1.out.trans hb2, keepG hb2 hHeld.2.1, keepG hb2 hHeld.2.2.1, keepG hb2 hHeld.2.2.2.1, keepG hb2 hHeld.2.2.2.2.1, keepG hb2 hHeld.2.2.2.2.2.1, keepG hb2 hHeld.2.2.2.2.2.2.1, keepG hb2 hHeld.2.2.2.2.2.2.2.1, keepG hb2 hHeld.2.2.2.2.2.2.2.2⟩
  clear hK K
  (try simp only [Act.put, List.setIfInBounds_toArray, List.set_cons_zero, List.set_cons_succ])
  refine wpAnyH_ready (rs := [11]) (by kernel_rfl) (by simp) ?_
  refine readyL rfl (fun K hK => ?_) AllReadyH.nil
  go_simp
  go_at_call 30; refine (KY _ _ _ _).mono ?_; rintro e w2 ⟨rfl, hb2⟩
  refine hK.out _ _ ?_ (fun hHeld => ?_)
  · (try dsimp only); exact ⟨hHeld.1.out.trans hb2, keepG hb2 hHeld.2.1, keepG hb2 hHeld.2.2.1, keepG hb2 hHeld.2.2.2.1, keepG hb2 hHeld.2.2.2.2.1, keepG hb2 hHeld.2.2.2.2.2.1, keepG hb2 hHeld.2.2.2.2.2.2.1, keepG hb2 hHeld.2.2.2.2.2.2.2.1, keepG hb2 hHeld.2.2.2.2.2.2.2.2⟩
  clear hK K
  (try simp only [Act.put, List.setIfInBounds_toArray, List.set_cons_zero, List.set_cons_succ])
  refine wpAnyH_ready (rs := [12]) (by kernel_rfl) (by simp) ?_
  refine readyL rfl (fun K hK => ?_) AllReadyH.nil
  go_simp
  go_at_call 40; refine (compare_any _ _ _).mono ?_; rintro e w2 ⟨rfl, rfl⟩
  refine hK.out _ _ ?_ (fun hHeld => ?_)
  · (try dsimp only); exact hHeld
  clear hK K
  (try simp only [Act.put, List.setIfInBounds_toArray, List.set_cons_zero, List.set_cons_succ])
  refine takeL (i := 13) (v := ?_) rfl (by kernel_rfl) (by kernel_rfl) (by kernel_rfl) (fun _ _ _ h => h) (Or.inl ⟨by rfl, ?_⟩) hHeld ?_
  rotate_left
  · intro w hSw; (try dsimp only at hSw); go_simp; (try with_reducible rfl)
  (try simp only [Act.put, List.setIfInBounds_toArray, List.set_cons_zero, List.set_cons_succ])
  refine wpAnyH_done (by kernel_rfl) ?_ _
  go_wp2
  go_ret
  exact ⟨rfl, hHeld.1.out⟩

set_option maxHeartbeats 4000000 in
theorem orderByR_any (a : Option Addr) (ts : List TWish) (n ca : Nat) (w : World) (hn : Hid (ts.length = n)) (hn6 : n ≤ 6) (ha : RN 1048576 3 cWish w a ts) :
    Calls Try.prog 29 #[.slice a n ca, .func (.func 30) #[] #[]] w (GivesO 2 (srt (keyOf (ksR ts)) n) n w) := by
  obtain ⟨i0, hi, hz0, hz1, hz2⟩ := info_parts infoI64o
  have hmk := fun W => run_make_rowN (P := Try.prog) 22 2 i0 _ Try.underlying22 hi hz0 .i64 .i64 n n (Nat.le_refl _) (by rw [hz2]; omega) (by omega) W
  rw [hz1, show madeCells (Value.cells (.int .i64 0)) (n * 1) = madeCells #[.int .i64 0] n by rw [Nat.mul_one]; rfl] at hmk
  clear hi hz0 hz1 hz2
  obtain ⟨wb, hwb⟩ : ∃ wb, wb = (w.alloc (.cells #[.slice a n ca] 27)).alloc (.cells #[.func (.func 30) #[] #[]] 46) := ⟨_, rfl⟩
  have hsz : wb.heap.size = w.heap.size + 2 := by rw [hwb]; simp
  have HBW : Hid (Below w.heap.size w wb) := by rw [hwb]; exact (by repeat (first | exact Below.refl _ _ | refine Below.alloc ?_ (by simp; try omega) _ | refine Below.setCell ?_ (by simp; try omega) _))
  have hc0 : wb.cell? ⟨w.heap.size, 0, none⟩ = some (.slice a n ca) := by rw [hwb]; simp [go_sem]
  have hc1 : wb.cell? ⟨w.heap.size + 1, 0, none⟩ = some (.func (.func 30) #[] #[]) := by rw [hwb]; simp [go_sem]
  have CMP : Hid (CmpOk (keyOf (ksR ts)) 39 #[.pointer (some ⟨w.heap.size + 1, 0, none⟩), .pointer (some ⟨w.heap.size, 0, none⟩)] n (w.heap.size + 2) wb) := by
    intro W hW x y hx hy
    have hb1 : Below w.heap.size w W := HBW.out.trans (hW.mono (by omega))
    exact byR_any (w.heap.size + 1) w.heap.size ts a n ca x y W (by rw [hn.out]; exact hx) (by rw [hn.out]; exact hy) hn ((hW.cell (p := ⟨w.heap.size + 1, 0, none⟩) (by show w.heap.size + 1 < _; omega)).trans hc1) ((hW.cell (p := ⟨w.heap.size, 0, none⟩) (by show w.heap.size < _; omega)).trans hc0) (ha.below hb1)
  have EG : Hid (∀ args W, (callFunc 39 args).run Try.prog W = .ok (.enter 39 args) W) := enters_of Try.func39 (by kernel_rfl) rfl
  have HC := Lib.hid hc0
  clear ha hc0 hc1
  go_enter Try.func29, Try.ntmps29
  go_wp2
  clear hmk
  rw [← hwb]
  have HB0 : Hid (Below (w.heap.size + 2) wb (wb.alloc (.cells (madeCells #[.int .i64 0] n) 2))) := (Below.refl _ _).alloc (by omega) _
  have HO0 : Hid ((wb.alloc (.cells (madeCells #[.int .i64 0] n) 2)).ownsRow (w.heap.size + 2) 2 1 (.slice (some ⟨w.heap.size + 2, 0, none⟩) n n) n ((fillR n 0).map (Value.int .i64))) := by
    rw [fillR_zero]
    have := made_own1 wb (w.heap.size + 2) n (by omega) (by omega)
    rw [hsz] at this
    exact this
  generalize wb.alloc (.cells (madeCells #[.int .i64 0] n) 2) = w1 at HB0 HO0 ⊢
  go_loopw [12] (fun iv wr => ∃ k : Nat, k ≤ n ∧ iv = .int .i64 k ∧ Hid (Below (w.heap.size + 2) wb wr) ∧ Hid (wr.ownsRow (w.heap.size + 2) 2 1 (.slice (some ⟨w.heap.size + 2, 0, none⟩) n n) n ((fillR n k).map (Value.int .i64)))) (fun iv _ => n - (intOf iv).toNat)
  case atStart => exact ⟨0, by omega, rfl, HB0, HO0⟩
  case round =>
    clear HB0 HO0
    obtain ⟨k, hk, rfl, HB, HO⟩ := hrel
    by_cases hlt : k < n
    · have x1 := ownsRow_cell HO.out k (.int .i64 ((fillR n k)[k]'(by rw [fillR_len hk]; exact hlt))) (by rw [List.getElem?_map, List.getElem?_eq_getElem (by rw [fillR_len hk]; exact hlt)]; rfl)
      have z1 := ownsRow_frozen HO.out k
      have hk0 : (0 : Int) ≤ (k : Int) := by omega
      have hk1 : (k : Int) < (n : Int) := by omega
      have HO2 : Hid ((wr.setCell ⟨w.heap.size + 2, k, none⟩ (.int .i64 (k : Int))).ownsRow (w.heap.size + 2) 2 1 (.slice (some ⟨w.heap.size + 2, 0, none⟩) n n) n ((fillR n (k + 1)).map (Value.int .i64))) := by
        rw [← fillR_set hlt, List.map_set]
        exact ownsRow_set HO.out k _
      have HB2 : Hid (Below (w.heap.size + 2) wb (wr.setCell ⟨w.heap.size + 2, k, none⟩ (.int .i64 (k : Int)))) := HB.out.setCell (Nat.le_refl _) _
      generalize (fillR n k)[k]'(by rw [fillR_len hk]; exact hlt) = old at x1
      go_wp2
      go_roundw
      case rel => exact ⟨k + 1, by omega, by go_num, HB2, HO2⟩
      case measure => simp [intOf]; omega
    · have hkn : k = n := by omega
      subst hkn
      have HO2 := HO.out
      rw [fillR_end] at HO2
      have ST := sortStable_any _ _ _ EG.out (w.heap.size + 2) k k (w.heap.size + 2) hn6 wb wr CMP.out HB.out (Nat.le_refl _) HO2
      have hwr : w.heap.size ≤ wr.heap.size := by have := HB.out.size; omega
      clear HO2 HO
      go_wp2_with (go_at_call 38; refine ST.mono ?_; rintro e w2 ⟨rfl, hgr, ho2⟩)
      go_ret
      exact ⟨w.heap.size + 2, k, rfl, (HBW.out.trans (HB.out.mono (by omega))).grown hgr (by omega) (fun q hq => by injection hq with hq; omega), own_lo ho2 (by omega)⟩

/-- The number by which the wishes are ordered. -/
def kfD (t : TWish) : Int := t.2.2
def ksD (ts : List TWish) : List Int := ts.map kfD
theorem keyD_any (v : Value) (x y : Int) (W : World) : Calls Try.prog 31 #[.agg #[v, .int .i64 x, .int .i64 y]] W fun e w' => e = .returned (.int .i64 y) ∧ Grown W w' := by
  go_enter Try.func31, Try.ntmps31
  go_wp2
  go_ret
  exact ⟨rfl, (Grown.refl _).alloc _⟩
set_option maxHeartbeats 4000000 in
theorem byD_any (kb lb : Nat) (ts : List TWish) (a : Option Addr) (n ca x y : Nat) (W : World) (hx : x < ts.length) (hy : y < ts.length) (hn : Hid (ts.length = n)) (hk : W.cell? ⟨kb, 0, none⟩ = some (.func (.func 31) #[] #[])) (hl : W.cell? ⟨lb, 0, none⟩ = some (.slice a n ca)) (ha : RN 1048576 3 cWish W a ts) :
    Calls Try.prog 39 #[.int .i64 (x : Int), .int .i64 (y : Int), .pointer (some ⟨kb, 0, none⟩), .pointer (some ⟨lb, 0, none⟩)] W fun e w' => e = .returned (.int .i64 (cmp3 (keyOf (ksD ts) (x : Int)) (keyOf (ksD ts) (y : Int)))) ∧ Grown W w' := by
  have e1 : keyOf (ksD ts) (x : Int) = kfD ts[x] := by rw [keyOf_nat _ _ (by simpa [ksD] using hx)]; simp [ksD]
  have e2 : keyOf (ksD ts) (y : Int) = kfD ts[y] := by rw [keyOf_nat _ _ (by simpa [ksD] using hy)]; simp [ksD]
  rw [e1, e2]
  obtain ⟨b, off, ai, ci, rfl, _, _, _, hc⟩ := ha.at_ x hx
  obtain ⟨b2, off2, ai2, ci2, hbe, _, _, _, hc2⟩ := ha.at_ y hy
  injection hbe with hbe
  injection hbe with q1 q2
  subst q1 q2
  have x0 := hc 0 _ rfl
  have x1 := hc 1 _ rfl
  have x2 := hc 2 _ rfl
  have y0 := hc2 0 _ rfl
  have y1 := hc2 1 _ rfl
  have y2 := hc2 2 _ rfl
  simp only [Nat.add_zero] at x0 y0
  have hk0 : (0 : Int) ≤ (x : Int) := by omega
  have hk1 : (x : Int) < (n : Int) := by have := hn.out; omega
  have hj0 : (0 : Int) ≤ (y : Int) := by omega
  have hj1 : (y : Int) < (n : Int) := by have := hn.out; omega
  clear hc hc2 ha e1 e2
  unfold kfD
  generalize ts[x] = t at x0 x1 x2
  generalize ts[y] = u at y0 y1 y2
  obtain ⟨t1, t2, t3⟩ := t
  obtain ⟨u1, u2, u3⟩ := u
  dsimp only at x0 x1 x2 y0 y1 y2
  generalize Value.slice ai t1.length ci = vx at x0
  generalize Value.slice ai2 u1.length ci2 = vy at y0
  have KY := keyD_any
  go_enter Try.func39, Try.ntmps39
  go_wp2_with fail
  refine wp_region_held_drew (S := (fun w' => Hid (Grown W w') ∧ w'.cell? ⟨kb, 0, none⟩ = some (.func (.func 31) #[] #[]) ∧ w'.cell? ⟨lb, 0, none⟩ = some (.slice (some ⟨b, off, none⟩) n ca) ∧ w'.cell? ⟨b, off + x * 3, none⟩ = some vx ∧ w'.cell? ⟨b, off + x * 3 + 1, none⟩ = some (.int .i64 t2) ∧ w'.cell? ⟨b, off + x * 3 + 2, none⟩ = some (.int .i64 t3) ∧ w'.cell? ⟨b, off + y * 3, none⟩ = some vy ∧ w'.cell? ⟨b, off + y * 3 + 1, none⟩ = some (.int .i64 u2) ∧ w'.cell? ⟨b, off + y * 3 + 2, none⟩ = some (.int .i64 u3))) (by kernel_rfl) ?_ (fun hHeld => ?_)
  · (try dsimp only); exact ⟨(Grown.refl _).drew, hk, hl, x0, x1, x2, y0, y1, y2⟩
  refine takeL (i := 0) (v := ?_) rfl (by kernel_rfl) (by kernel_rfl) (by kernel_rfl) (fun _ _ _ h => h) (Or.inl ⟨by rfl, ?_⟩) hHeld ?_
  rotate_left
  · intro w hSw; (try dsimp only at hSw); go_simp; (try with_reducible rfl)
  (try simp only [Act.put, List.setIfInBounds_toArray, List.set_cons_zero, List.set_cons_succ])
  refine takeL (i := 1) (v := ?_) rfl (by kernel_rfl) (by kernel_rfl) (by kernel_rfl) (fun _ _ _ h => h) (Or.inl ⟨by rfl, ?_⟩) hHeld ?_
  rotate_left
  · intro w hSw; (try dsimp only at hSw); go_simp; (try with_reducible rfl)
  (try simp only [Act.put, List.setIfInBounds_toArray, List.set_cons_zero, List.set_cons_succ])
  refine takeL (i := 2) (v := ?_) rfl (by kernel_rfl) (by kernel_rfl) (by kernel_rfl) (fun _ _ _ h => h) (Or.inl ⟨by rfl, ?_⟩) hHeld ?_
  rotate_left
  · intro w hSw; (try dsimp only at hSw); go_simp; (try with_reducible rfl)
  (try simp only [Act.put, List.setIfInBounds_toArray, List.set_cons_zero, List.set_cons_succ])
  refine takeL (i := 3) (v := ?_) rfl (by kernel_rfl) (by kernel_rfl) (by kernel_rfl) (fun _ _ _ h => h) (Or.inl ⟨by rfl, ?_⟩) hHeld ?_
  rotate_left
  · intro w hSw; (try dsimp only at hSw); go_simp; (try with_reducible rfl)
  (try simp only [Act.put, List.setIfInBounds_toArray, List.set_cons_zero, List.set_cons_succ])
  refine takeL (i := 4) (v := ?_) rfl (by kernel_rfl) (by kernel_rfl) (by kernel_rfl) (fun _ _ _ h => h) (Or.inl ⟨by rfl, ?_⟩) hHeld ?_
  rotate_left
  · intro w hSw; (try dsimp only at hSw); go_simp; (try with_reducible rfl)
  (try simp only [Act.put, List.setIfInBounds_toArray, List.set_cons_zero, List.set_cons_succ])
  refine takeL (i := 6) (v := ?_) rfl (by kernel_rfl) (by kernel_rfl) (by kernel_rfl) (fun _ _ _ h => h) (Or.inl ⟨by rfl, ?_⟩) hHeld ?_
  rotate_left
  · intro w hSw; (try dsimp only at hSw); go_simp; (try with_reducible rfl)
  (try simp only [Act.put, List.setIfInBounds_toArray, List.set_cons_zero, List.set_cons_succ])
  refine takeL (i := 7) (v := ?_) rfl (by kernel_rfl) (by kernel_rfl) (by kernel_rfl) (fun _ _ _ h => h) (Or.inl ⟨by rfl, ?_⟩) hHeld ?_
  rotate_left
  · intro w hSw; (try dsimp only at hSw); go_simp; (try with_reducible rfl)
  (try simp only [Act.put, List.setIfInBounds_toArray, List.set_cons_zero, List.set_cons_succ])
  refine takeL (i := 8) (v := ?_) rfl (by kernel_rfl) (by kernel_rfl) (by kernel_rfl) (fun _ _ _ h => h) (Or.inl ⟨by rfl, ?_⟩) hHeld ?_
  rotate_left
  · intro w hSw; (try dsimp only at hSw); go_simp; (try with_reducible rfl)
  (try simp only [Act.put, List.setIfInBounds_toArray, List.set_cons_zero, List.set_cons_succ])
  refine takeL (i := 9) (v := ?_) rfl (by kernel_rfl) (by kernel_rfl) (by kernel_rfl) (fun _ _ _ h => h) (Or.inl ⟨by rfl, ?_⟩) hHeld ?_
  rotate_left
  · intro w hSw; (try dsimp only at hSw); go_simp; (try with_reducible rfl)
  (try simp only [Act.put, List.setIfInBounds_toArray, List.set_cons_zero, List.set_cons_succ])
  refine takeL (i := 10) (v := ?_) rfl (by kernel_rfl) (by kernel_rfl) (by kernel_rfl) (fun _ _ _ h => h) (Or.inl ⟨by rfl, ?_⟩) hHeld ?_
  rotate_left
  · intro w hSw; (try dsimp only at hSw); go_simp; (try with_reducible rfl)
  (try simp only [Act.put, List.setIfInBounds_toArray, List.set_cons_zero, List.set_cons_succ])
  refine wpAnyH_ready (rs := [5]) (by kernel_rfl) (by simp) ?_
  refine readyL rfl (fun K hK => ?_) AllReadyH.nil
  go_simp
  go_at_call 31; refine (KY _ _ _ _).mono ?_; rintro e w2 ⟨rfl, hb2⟩
  refine hK.out _ _ ?_ (fun hHeld => ?_)
  · (try dsimp only); exact ⟨hHeld.1.out.trans hb2, keepG hb2 hHeld.2.1, keepG hb2 hHeld.2.2.1, keepG hb2 hHeld.2.2.2.1, keepG hb2 hHeld.2.2.2.2.1, keepG hb2 hHeld.2.2.2.2.2.1, keepG hb2 hHeld.2.2.2.2.2.2.1, keepG hb2 hHeld.2.2.2.2.2.2.2.1, keepG hb2 hHeld.2.2.2.2.2.2.2.2⟩
  clear hK K
  (try simp only [Act.put, List.setIfInBounds_toArray, List.set_cons_zero, List.set_cons_succ])
  refine wpAnyH_ready (rs := [11]) (by kernel_rfl) (by simp) ?_
  refine readyL rfl (fun K hK => ?_) AllReadyH.nil
  go_simp
  go_at_call 31; refine (KY _ _ _ _).mono ?_; rintro e w2 ⟨rfl, hb2⟩
  refine hK.out _ _ ?_ (fun hHeld => ?_)
  · (try dsimp only); exact ⟨hHeld.1.out.trans hb2, keepG hb2 hHeld.2.1, keepG hb2 hHeld.2.2.1, keepG hb2 hHeld.2.2.2.1, keepG hb2 hHeld.2.2.2.2.1, keepG hb2 hHeld.2.2.2.2.2.1, keepG hb2 hHeld.2.2.2.2.2.2.1, keepG hb2 hHeld.2.2.2.2.2.2.2.1, keepG hb2 hHeld.2.2.2.2.2.2.2.2⟩
  clear hK K
  (try simp only [Act.put, List.setIfInBounds_toArray, List.set_cons_zero, List.set_cons_succ])
  refine wpAnyH_ready (rs := [12]) (by kernel_rfl) (by simp) ?_
  refine readyL rfl (fun K hK => ?_) AllReadyH.nil
  go_simp
  go_at_call 40; refine (compare_any _ _ _).mono ?_; rintro e w2 ⟨rfl, rfl⟩
  refine hK.out _ _ ?_ (fun hHeld => ?_)
  · (try dsimp only); exact hHeld
  clear hK K
  (try simp only [Act.put, List.setIfInBounds_toArray, List.set_cons_zero, List.set_cons_succ])
  refine takeL (i := 13) (v := ?_) rfl (by kernel_rfl) (by kernel_rfl) (by kernel_rfl) (fun _ _ _ h => h) (Or.inl ⟨by rfl, ?_⟩) hHeld ?_
  rotate_left
  · intro w hSw; (try dsimp only at hSw); go_simp; (try with_reducible rfl)
  (try simp only [Act.put, List.setIfInBounds_toArray, List.set_cons_zero, List.set_cons_succ])
  refine wpAnyH_done (by kernel_rfl) ?_ _
  go_wp2
  go_ret
  exact ⟨rfl, hHeld.1.out⟩

set_option maxHeartbeats 4000000 in
theorem orderByD_any (a : Option Addr) (ts : List TWish) (n ca : Nat) (w : World) (hn : Hid (ts.length = n)) (hn6 : n ≤ 6) (ha : RN 1048576 3 cWish w a ts) :
    Calls Try.prog 29 #[.slice a n ca, .func (.func 31) #[] #[]] w (GivesO 2 (srt (keyOf (ksD ts)) n) n w) := by
  obtain ⟨i0, hi, hz0, hz1, hz2⟩ := info_parts infoI64o
  have hmk := fun W => run_make_rowN (P := Try.prog) 22 2 i0 _ Try.underlying22 hi hz0 .i64 .i64 n n (Nat.le_refl _) (by rw [hz2]; omega) (by omega) W
  rw [hz1, show madeCells (Value.cells (.int .i64 0)) (n * 1) = madeCells #[.int .i64 0] n by rw [Nat.mul_one]; rfl] at hmk
  clear hi hz0 hz1 hz2
  obtain ⟨wb, hwb⟩ : ∃ wb, wb = (w.alloc (.cells #[.slice a n ca] 27)).alloc (.cells #[.func (.func 31) #[] #[]] 46) := ⟨_, rfl⟩
  have hsz : wb.heap.size = w.heap.size + 2 := by rw [hwb]; simp
  have HBW : Hid (Below w.heap.size w wb) := by rw [hwb]; exact (by repeat (first | exact Below.refl _ _ | refine Below.alloc ?_ (by simp; try omega) _ | refine Below.setCell ?_ (by simp; try omega) _))
  have hc0 : wb.cell? ⟨w.heap.size, 0, none⟩ = some (.slice a n ca) := by rw [hwb]; simp [go_sem]
  have hc1 : wb.cell? ⟨w.heap.size + 1, 0, none⟩ = some (.func (.func 31) #[] #[]) := by rw [hwb]; simp [go_sem]
  have CMP : Hid (CmpOk (keyOf (ksD ts)) 39 #[.pointer (some ⟨w.heap.size + 1, 0, none⟩), .pointer (some ⟨w.heap.size, 0, none⟩)] n (w.heap.size + 2) wb) := by
    intro W hW x y hx hy
    have hb1 : Below w.heap.size w W := HBW.out.trans (hW.mono (by omega))
    exact byD_any (w.heap.size + 1) w.heap.size ts a n ca x y W (by rw [hn.out]; exact hx) (by rw [hn.out]; exact hy) hn ((hW.cell (p := ⟨w.heap.size + 1, 0, none⟩) (by show w.heap.size + 1 < _; omega)).trans hc1) ((hW.cell (p := ⟨w.heap.size, 0, none⟩) (by show w.heap.size < _; omega)).trans hc0) (ha.below hb1)
  have EG : Hid (∀ args W, (callFunc 39 args).run Try.prog W = .ok (.enter 39 args) W) := enters_of Try.func39 (by kernel_rfl) rfl
  have HC := Lib.hid hc0
  clear ha hc0 hc1
  go_enter Try.func29, Try.ntmps29
  go_wp2
  clear hmk
  rw [← hwb]
  have HB0 : Hid (Below (w.heap.size + 2) wb (wb.alloc (.cells (madeCells #[.int .i64 0] n) 2))) := (Below.refl _ _).alloc (by omega) _
  have HO0 : Hid ((wb.alloc (.cells (madeCells #[.int .i64 0] n) 2)).ownsRow (w.heap.size + 2) 2 1 (.slice (some ⟨w.heap.size + 2, 0, none⟩) n n) n ((fillR n 0).map (Value.int .i64))) := by
    rw [fillR_zero]
    have := made_own1 wb (w.heap.size + 2) n (by omega) (by omega)
    rw [hsz] at this
    exact this
  generalize wb.alloc (.cells (madeCells #[.int .i64 0] n) 2) = w1 at HB0 HO0 ⊢
  go_loopw [12] (fun iv wr => ∃ k : Nat, k ≤ n ∧ iv = .int .i64 k ∧ Hid (Below (w.heap.size + 2) wb wr) ∧ Hid (wr.ownsRow (w.heap.size + 2) 2 1 (.slice (some ⟨w.heap.size + 2, 0, none⟩) n n) n ((fillR n k).map (Value.int .i64)))) (fun iv _ => n - (intOf iv).toNat)
  case atStart => exact ⟨0, by omega, rfl, HB0, HO0⟩
  case round =>
    clear HB0 HO0
    obtain ⟨k, hk, rfl, HB, HO⟩ := hrel
    by_cases hlt : k < n
    · have x1 := ownsRow_cell HO.out k (.int .i64 ((fillR n k)[k]'(by rw [fillR_len hk]; exact hlt))) (by rw [List.getElem?_map, List.getElem?_eq_getElem (by rw [fillR_len hk]; exact hlt)]; rfl)
      have z1 := ownsRow_frozen HO.out k
      have hk0 : (0 : Int) ≤ (k : Int) := by omega
      have hk1 : (k : Int) < (n : Int) := by omega
      have HO2 : Hid ((wr.setCell ⟨w.heap.size + 2, k, none⟩ (.int .i64 (k : Int))).ownsRow (w.heap.size + 2) 2 1 (.slice (some ⟨w.heap.size + 2, 0, none⟩) n n) n ((fillR n (k + 1)).map (Value.int .i64))) := by
        rw [← fillR_set hlt, List.map_set]
        exact ownsRow_set HO.out k _
      have HB2 : Hid (Below (w.heap.size + 2) wb (wr.setCell ⟨w.heap.size + 2, k, none⟩ (.int .i64 (k : Int)))) := HB.out.setCell (Nat.le_refl _) _
      generalize (fillR n k)[k]'(by rw [fillR_len hk]; exact hlt) = old at x1
      go_wp2
      go_roundw
      case rel => exact ⟨k + 1, by omega, by go_num, HB2, HO2⟩
      case measure => simp [intOf]; omega
    · have hkn : k = n := by omega
      subst hkn
      have HO2 := HO.out
      rw [fillR_end] at HO2
      have ST := sortStable_any _ _ _ EG.out (w.heap.size + 2) k k (w.heap.size + 2) hn6 wb wr CMP.out HB.out (Nat.le_refl _) HO2
      have hwr : w.heap.size ≤ wr.heap.size := by have := HB.out.size; omega
      clear HO2 HO
      go_wp2_with (go_at_call 38; refine ST.mono ?_; rintro e w2 ⟨rfl, hgr, ho2⟩)
      go_ret
      exact ⟨w.heap.size + 2, k, rfl, (HBW.out.trans (HB.out.mono (by omega))).grown hgr (by omega) (fun q hq => by injection hq with hq; omega), own_lo ho2 (by omega)⟩
end Go.Proofs.Ytdllfkgljnapoaa
