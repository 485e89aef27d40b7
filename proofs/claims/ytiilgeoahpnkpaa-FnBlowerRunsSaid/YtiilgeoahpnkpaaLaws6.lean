/-
  The helpers of the laws on whole chapters: comparing lists, and how the code reads.
-/
import Derived.Test.YtiilgeoahpnkpaaSrc
import Derived.Test.YtiilgeoahpnkpaaIntList
import Derived.Test.YtiilgeoahpnkpaaTexts
namespace Go.Proofs.Ytiilgeoahpnkpaa
open Go.RowKit Go.ChangeShapes Go.WideShapes Go.Deep Go.Joins

theorem u8_wf {x : Int} (h : (Lit.int .u8 x).wf = true) : 0 ≤ x ∧ x ≤ 255 := by
  have h1 : (decide (IntKind.u8.min ≤ x) && decide (x ≤ IntKind.u8.max)) = true := h
  have e1 : IntKind.u8.min = 0 := rfl
  have e2 : IntKind.u8.max = 255 := rfl
  rw [e1, e2] at h1
  simpa using h1
set_option maxHeartbeats 1000000 in
theorem f6ints_any (a b : Option Addr) (ts us : List Int) (n m ca cb : Nat) (w : World) (hn : Hid (ts.length = n)) (hm : Hid (us.length = m)) (ha : RI w a ts) (hb : RI w b us) (hmax : n ≤ maxLen) :
    Calls Try.prog 32 #[.slice a n ca, .slice b m cb] w fun e w' => e = .returned (.bool (ts == us)) ∧ Below w.heap.size w w' := by
  unfold maxLen at hmax
  by_cases hl : n = m
  · subst hl
    have HLE : Hid (ts.length = us.length) := hn.out.trans hm.out.symm
    by_cases hz : n = 0
    · have HZ := Lib.hid hz
      have HR : Hid ((ts == us) = true) := ints_ext ts us HLE.out (fun i h1 _ => by rw [hn.out, HZ.out] at h1; omega)
      clear hz
      go_enter Try.func32, Try.ntmps32
      go_wp2
      go_loop [5] (fun i => ∃ k : Nat, k ≤ n ∧ i = .int .i64 k) (fun _ => 0)
      case atStart => exact ⟨0, by omega, rfl⟩
      case round =>
        obtain ⟨k, hk, rfl⟩ := hrel
        have hlt : ¬ k < n := by rw [HZ.out]; omega
        go_wp2
        go_ret
        exact ⟨ret_bool HR.out.symm, Below.refl _ _⟩
    · obtain ⟨ba, oa, rfl, hba, hca⟩ := ha.addr (by rw [hn.out]; omega)
      obtain ⟨bb, ob, rfl, hbb, hcb⟩ := hb.addr (by rw [hm.out]; omega)
      have HCA := Lib.hid hca
      have HCB := Lib.hid hcb
      clear hca hcb ha hb
      go_enter Try.func32, Try.ntmps32
      go_wp2
      go_loopw [5] (fun i wr => ∃ k : Nat, k ≤ n ∧ i = .int .i64 k ∧ Below w.heap.size w wr ∧ ∀ j (h1 : j < ts.length) (h2 : j < us.length), j < k → ts[j] = us[j]) (fun i _ => n - (intOf i).toNat)
      case atStart => exact ⟨0, by omega, rfl, Below.refl _ _, fun j _ _ hj => by omega⟩
      case round =>
        obtain ⟨k, hk, rfl, hbel, hall⟩ := hrel
        have HALL := Lib.hid hall
        clear hall
        by_cases hlt : k < n
        · have hka : k < ts.length := by rw [hn.out]; exact hlt
          have hkb : k < us.length := by rw [hm.out]; exact hlt
          have x1 := HCA.out k hka
          have y1 := HCB.out k hkb
          generalize hT : ts[k] = t at x1
          generalize hU : us[k] = u at y1
          have HT := Lib.hid hT
          have HU := Lib.hid hU
          clear hT hU
          rw [← hbel.cell (p := ⟨_, _, none⟩) hba] at x1
          rw [← hbel.cell (p := ⟨_, _, none⟩) hbb] at y1
          have hk0 : (0 : Int) ≤ (k : Int) := by omega
          have hk1 : (k : Int) < (n : Int) := by omega
          rcases eq_ways t u with ⟨⟨e1, e2⟩, e3⟩ | ⟨⟨e1, e2⟩, e3⟩
          · have E3 := Lib.hid e3
            clear e3
            go_wp2
            go_region_held3 (fun w' => w'.cell? ⟨ba, oa + k, none⟩ = some (.int .i64 t) ∧ w'.cell? ⟨bb, ob + k, none⟩ = some (.int .i64 u)) (exact ⟨x1, y1⟩) (fail)
            go_wp2
            go_roundw
            case rel => exact ⟨k + 1, by omega, by go_num, hbel.drew, fun j h1 h2 hj => if e : j = k then (by subst e; rw [HT.out, HU.out]; exact E3.out) else HALL.out j h1 h2 (by omega)⟩
            case measure => simp [intOf]; omega
          · have HR : Hid ((ts == us) = false) := ints_bad ts us k hka hkb (by rw [HT.out, HU.out]; exact e3)
            clear e3
            go_wp2
            go_region_held3 (fun w' => w'.cell? ⟨ba, oa + k, none⟩ = some (.int .i64 t) ∧ w'.cell? ⟨bb, ob + k, none⟩ = some (.int .i64 u)) (exact ⟨x1, y1⟩) (fail)
            go_wp2
            go_ret
            exact ⟨ret_bool HR.out.symm, hbel.drew⟩
        · have HR : Hid ((ts == us) = true) := ints_ext ts us HLE.out (fun i h1 h2 => HALL.out i h1 h2 (by rw [hn.out] at h1; omega))
          go_wp2
          go_ret
          exact ⟨ret_bool HR.out.symm, hbel⟩
  · have HR : Hid ((ts == us) = false) := ints_len ts us (by rw [hn.out, hm.out]; exact hl)
    have hne : ((n : Int) != (m : Int)) = true := by rw [bne_iff_ne]; omega
    go_enter Try.func32, Try.ntmps32
    go_wp2
    go_ret
    exact ⟨ret_bool HR.out.symm, Below.refl _ _⟩

theorem f6big_any (a : Option Addr) (n c : Nat) (w : World) (hm : n ≤ 9223372036854775807) : Calls Try.prog 16 #[.slice a n c] w fun e w' => e = .returned (.bool (decide (4096 < n))) ∧ w = w' := by
  by_cases h : 4096 < n
  · have h1 : (4096 : Int) < (n : Int) := by omega
    go_enter Try.func16, Try.ntmps16
    go_wp2
    go_ret
    exact ⟨ret_bool (by simp [h]), rfl⟩
  · have h1 : ¬ (4096 : Int) < (n : Int) := by omega
    go_enter Try.func16, Try.ntmps16
    go_wp2
    go_ret
    exact ⟨ret_bool (by simp), rfl⟩
/-- A value is a code: a slice of bytes that lie in memory. -/
def CodeArg (w : World) (v : Value) (x : Unit) : Prop := x = () ∧ ∃ a n c, v = .slice a n c ∧ n ≤ 9223372036854775807 ∧ CodeIn w.heap.size a n w
theorem CodeIn.later {a : Option Addr} {n : Nat} {w W : World} (h : CodeIn w.heap.size a n w) (hb : Below w.heap.size w W) : CodeIn W.heap.size a n W := by
  rcases h with h | ⟨b, off, ha, hbb, hc⟩
  · exact .inl h
  · refine .inr ⟨b, off, ha, Nat.lt_of_lt_of_le hbb hb.size, fun i hi => ?_⟩
    obtain ⟨x, h0, h1, hx⟩ := hc i hi
    exact ⟨x, h0, h1, (hb.cell (p := ⟨b, off + i, none⟩) hbb).trans hx⟩
set_option maxRecDepth 100000 in
theorem open_bytes {H : Type} {enc : TypeId × Value → H} {w : World} {spare : Nat → Bool} {held : Bool} {r : Reach} {b0 : Nat} {v : Value} {d : DataW H} {p : List MemPlace}
    (hv : Value.okWide Try.prog w r b0 22 v) (h : DataW.Trod enc Try.prog w 0 spare held 22 v d p) : ∃ x, CodeArg w v x := by
  obtain ⟨a0, len0, cap0, rfl⟩ := okWide_slice Try.underlying22 hv
  obtain ⟨fuel, hf⟩ := h
  rcases open_ints Try.underlying22 Try.underlying5 (by kernel_rfl) hf with ⟨hcs, _⟩ | ⟨x, l, c, zs, hcs, _, hl, hm, hz, _, hcell, hwz⟩
  · simp [Value.cells] at hcs
    obtain ⟨rfl, rfl, rfl⟩ := hcs
    exact ⟨(), rfl, none, 0, 0, rfl, by decide, .inl rfl⟩
  · simp [Value.cells] at hcs
    obtain ⟨rfl, rfl, rfl⟩ := hcs
    have hz' : len0 ≤ zs.length := by rw [hz]; split <;> omega
    unfold maxLen at hm
    refine ⟨(), rfl, some x, len0, cap0, rfl, by omega, ?_⟩
    by_cases hz0 : len0 = 0
    · exact .inl hz0
    · obtain ⟨b, off, spot⟩ := x
      have c0 := hcell 0 (by omega)
      have hspot : spot = none := by simpa [Addr.add] using World.cell?_spot c0
      subst hspot
      refine .inr ⟨b, off, rfl, ?_, fun i hi => ?_⟩
      · rw [Addr.add_lit] at c0
        exact World.block_lt_of_cell? w _ c0
      · have ci := hcell i (by omega)
        rw [Addr.add_lit] at ci
        have hi' : i < zs.length := by omega
        have hw := hwz (zs.getD i 0) (by rw [List.getD_eq_getElem?_getD, List.getElem?_eq_getElem hi']; exact List.getElem_mem hi')
        have hw2 := u8_wf hw
        exact ⟨_, hw2.1, hw2.2, ci⟩
end Go.Proofs.Ytiilgeoahpnkpaa
