/-
  The walks of the laws' own helpers on networks: eqTubeS, eqNet, szTubeS, szNet.
-/
import Derived.Test.YtenjigifjkfiaaaNetLeaf
import Derived.StillTailTactics
import Derived.Deep.RegionHeld3
namespace Go.Proofs.Ytenjigifjkfiaaa
open Go.RowKit

theorem T3.beq_ext (ts us : List T3) (hl : ts.length = us.length) (h : ∀ i (h1 : i < ts.length) (h2 : i < us.length), (ts[i] == us[i]) = true) : (ts == us) = true := by
  rw [beq_iff_eq]
  exact List.ext_getElem hl fun i h1 h2 => by simpa using h i h1 h2
theorem T3.beq_bad (ts us : List T3) (i : Nat) (h1 : i < ts.length) (h2 : i < us.length) (h : (ts[i] == us[i]) = false) : (ts == us) = false := by
  rw [beq_eq_false_iff_ne]
  rintro rfl
  simp at h
theorem T3.beq_len (ts us : List T3) (h : ¬ ts.length = us.length) : (ts == us) = false := by
  rw [beq_eq_false_iff_ne]
  rintro rfl
  exact h rfl
theorem RT.addr {w : World} {a : Option Addr} {ts : List T3} (h : RT w a ts) (hp : 0 < ts.length) : ∃ b off, a = some ⟨b, off, none⟩ ∧ b < w.heap.size ∧ ∀ i (h : i < ts.length), w.cell? ⟨b, off + i * 3, none⟩ = some (.int .i64 ts[i].1) ∧ w.cell? ⟨b, off + i * 3 + 1, none⟩ = some (.int .i64 ts[i].2.1) ∧ w.cell? ⟨b, off + i * 3 + 2, none⟩ = some (.int .i64 ts[i].2.2) := by
  rcases h with rfl | ⟨b, off, ha, h⟩
  · simp at hp
  · exact ⟨b, off, ha, World.block_lt_of_cell? w _ (h 0 hp).1, h⟩

set_option maxHeartbeats 1000000 in
theorem eqTubeS_any (a b : Option Addr) (ts us : List T3) (n m ca cb : Nat) (w : World) (hn : Hid (ts.length = n)) (hm : Hid (us.length = m)) (ha : RT w a ts) (hb : RT w b us) (hmax : n ≤ maxLen) :
    Calls Try.prog 57 #[.slice a n ca, .slice b m cb] w fun e w' => e = .returned (.bool (ts == us)) ∧ Below w.heap.size w w' := by
  unfold maxLen at hmax
  by_cases hl : n = m
  · subst hl
    have HLE : Hid (ts.length = us.length) := hn.out.trans hm.out.symm
    by_cases hz : n = 0
    · subst hz
      have HR : Hid ((ts == us) = true) := T3.beq_ext ts us HLE.out (fun i h1 _ => by rw [hn.out] at h1; omega)
      go_enter Try.func57, Try.ntmps57
      go_wp2
      go_loop [5] (fun i => i = .int .i64 0) (fun _ => 0)
      case atStart => rfl
      case round =>
        obtain rfl := hrel
        go_wp2
        go_ret
        exact ⟨ret_bool HR.out.symm, Below.refl _ _⟩
    · obtain ⟨ba, oa, rfl, hba, hca⟩ := ha.addr (by rw [hn.out]; omega)
      obtain ⟨bb, ob, rfl, hbb, hcb⟩ := hb.addr (by rw [hm.out]; omega)
      have HCA := Lib.hid hca
      have HCB := Lib.hid hcb
      clear hca hcb ha hb
      go_enter Try.func57, Try.ntmps57
      go_wp2
      go_loopw [5] (fun i wr => ∃ k : Nat, k ≤ n ∧ i = .int .i64 k ∧ Below w.heap.size w wr ∧ ∀ j (h1 : j < ts.length) (h2 : j < us.length), j < k → (ts[j] == us[j]) = true) (fun i _ => n - (intOf i).toNat)
      case atStart => exact ⟨0, by omega, rfl, Below.refl _ _, fun j _ _ hj => by omega⟩
      case round =>
        obtain ⟨k, hk, rfl, hbel, hall⟩ := hrel
        have HALL := Lib.hid hall
        clear hall
        by_cases hlt : k < n
        · have hka : k < ts.length := by rw [hn.out]; exact hlt
          have hkb : k < us.length := by rw [hm.out]; exact hlt
          obtain ⟨x1, x2, x3⟩ := HCA.out k hka
          obtain ⟨y1, y2, y3⟩ := HCB.out k hkb
          generalize hT : ts[k] = t at x1 x2 x3
          generalize hU : us[k] = u at y1 y2 y3
          have HT := Lib.hid hT
          have HU := Lib.hid hU
          clear hT hU
          rw [← hbel.cell (p := ⟨_, _, none⟩) hba] at x1 x2 x3
          rw [← hbel.cell (p := ⟨_, _, none⟩) hbb] at y1 y2 y3
          have hk0 : (0 : Int) ≤ (k : Int) := by omega
          have hk1 : (k : Int) < (n : Int) := by omega
          have hba' : ba < wr.heap.size := by have := hbel.size; omega
          have hbb' : bb < wr.heap.size := by have := hbel.size; omega
          cases htu : (t == u) with
          | true =>
            go_wp2
            go_region_held3 (fun w' => w'.cell? ⟨ba, oa + k * 3, none⟩ = some (.int .i64 t.1) ∧ w'.cell? ⟨ba, oa + k * 3 + 1, none⟩ = some (.int .i64 t.2.1) ∧ w'.cell? ⟨ba, oa + k * 3 + 2, none⟩ = some (.int .i64 t.2.2) ∧ w'.cell? ⟨bb, ob + k * 3, none⟩ = some (.int .i64 u.1) ∧ w'.cell? ⟨bb, ob + k * 3 + 1, none⟩ = some (.int .i64 u.2.1) ∧ w'.cell? ⟨bb, ob + k * 3 + 2, none⟩ = some (.int .i64 u.2.2)) (first | exact ⟨x1, x2, x3, y1, y2, y3⟩ | exact ⟨(hb1.cell (p := ⟨_, _, none⟩) hba').trans x1, (hb1.cell (p := ⟨_, _, none⟩) hba').trans x2, (hb1.cell (p := ⟨_, _, none⟩) hba').trans x3, (hb1.cell (p := ⟨_, _, none⟩) hbb').trans y1, (hb1.cell (p := ⟨_, _, none⟩) hbb').trans y2, (hb1.cell (p := ⟨_, _, none⟩) hbb').trans y3⟩)
              (first | (go_at_call 78; refine (eqTube_any _ _ _).mono ?_; rintro e w1 ⟨rfl, hb1⟩))
            have hbel' := hbel.drew.trans (hb1.mono hbel.size)
            go_wp2
            go_roundw
            case rel => exact ⟨k + 1, by omega, by go_num, hbel', fun j h1 h2 hj => if e : j = k then (by subst e; rw [HT.out, HU.out]; exact htu) else HALL.out j h1 h2 (by omega)⟩
            case measure => simp [intOf]; omega
          | false =>
            have HR : Hid ((ts == us) = false) := T3.beq_bad ts us k hka hkb (by rw [HT.out, HU.out]; exact htu)
            go_wp2
            go_region_held3 (fun w' => w'.cell? ⟨ba, oa + k * 3, none⟩ = some (.int .i64 t.1) ∧ w'.cell? ⟨ba, oa + k * 3 + 1, none⟩ = some (.int .i64 t.2.1) ∧ w'.cell? ⟨ba, oa + k * 3 + 2, none⟩ = some (.int .i64 t.2.2) ∧ w'.cell? ⟨bb, ob + k * 3, none⟩ = some (.int .i64 u.1) ∧ w'.cell? ⟨bb, ob + k * 3 + 1, none⟩ = some (.int .i64 u.2.1) ∧ w'.cell? ⟨bb, ob + k * 3 + 2, none⟩ = some (.int .i64 u.2.2)) (first | exact ⟨x1, x2, x3, y1, y2, y3⟩ | exact ⟨(hb1.cell (p := ⟨_, _, none⟩) hba').trans x1, (hb1.cell (p := ⟨_, _, none⟩) hba').trans x2, (hb1.cell (p := ⟨_, _, none⟩) hba').trans x3, (hb1.cell (p := ⟨_, _, none⟩) hbb').trans y1, (hb1.cell (p := ⟨_, _, none⟩) hbb').trans y2, (hb1.cell (p := ⟨_, _, none⟩) hbb').trans y3⟩)
              (first | (go_at_call 78; refine (eqTube_any _ _ _).mono ?_; rintro e w1 ⟨rfl, hb1⟩))
            have hbel' := hbel.drew.trans (hb1.mono hbel.size)
            go_wp2
            go_ret
            exact ⟨ret_bool HR.out.symm, hbel'⟩
        · have HR : Hid ((ts == us) = true) := T3.beq_ext ts us HLE.out (fun i h1 h2 => HALL.out i h1 h2 (by rw [hn.out] at h1; omega))
          go_wp2
          go_ret
          exact ⟨ret_bool HR.out.symm, hbel⟩
  · have HR : Hid ((ts == us) = false) := T3.beq_len ts us (by rw [hn.out, hm.out]; exact hl)
    have hne : ((n : Int) != (m : Int)) = true := by rw [bne_iff_ne]; omega
    go_enter Try.func57, Try.ntmps57
    go_wp2
    go_ret
    exact ⟨ret_bool HR.out.symm, Below.refl _ _⟩
end Go.Proofs.Ytenjigifjkfiaaa
