/-
  The walks of firstClash and FirstClash, the program's.
-/
import Derived.Test.YtenjigifjkfiaaaClash
import Derived.Deep.LoopGhost
import Derived.WalkMore
namespace Go.Proofs.Ytenjigifjkfiaaa
open Go.RowKit Go.Shelf Go.Sort

theorem needIn_perm {l l' : List (Int × Int)} (h : l'.Perm l) (hs : ∀ x, x ∈ l → ∀ y, y ∈ l → x.1 = y.1 → x = y) (i : Int) : needIn l' i = needIn l i := by
  by_cases hx : ∃ x, x ∈ l ∧ x.1 = i
  · obtain ⟨x, hx, rfl⟩ := hx
    rw [needIn_of hx (fun y hy e => hs y hy x hx e), needIn_of (h.mem_iff.2 hx) (fun y hy e => hs y (h.mem_iff.1 hy) x hx e)]
  · rw [needIn_none (fun x h1 h2 => hx ⟨x, h1, h2⟩), needIn_none (fun x h1 h2 => hx ⟨x, h.mem_iff.1 h1, h2⟩)]
/-- The least clash, at a place of the sorted needs. -/
theorem clash_at {la lb l : List (Int × Int)} {s : Nat} (h : l.Perm la) (hsort : ∀ i j (hi : i < l.length) (hj : j < l.length), i < j → ¬ (l[j]).1 < (l[i]).1)
    (hin : ∀ x, x ∈ la → 0 ≤ x.1 ∧ x.1 < (s : Int)) {k : Nat} (hk : k < l.length) (hall : ∀ j (hj : j < l.length), j < k → clashB la lb (l[j]).1 = false) (hc : clashB la lb (l[k]).1 = true) : firstFrom (clashB la lb) s 0 = (l[k]).1 := by
  have hmem := hin _ (h.mem_iff.1 (List.getElem_mem hk))
  refine firstFrom_is _ _ _ _ hmem.1 (by omega) hc (fun j h0 h1 => ?_)
  by_cases hx : ∃ x, x ∈ la ∧ x.1 = j
  · obtain ⟨x, hx, rfl⟩ := hx
    obtain ⟨q, hq, rfl⟩ := List.getElem_of_mem (h.mem_iff.2 hx)
    by_cases hqk : q < k
    · exact hall q hq hqk
    · exfalso
      rcases Nat.lt_or_ge k q with h2 | h2
      · exact hsort k q hk hq h2 h1
      · have : q = k := by omega
        subst this; omega
  · unfold clashB
    rw [needIn_none (fun x h1 h2 => hx ⟨x, h1, h2⟩)]
    exact decide_eq_false (by omega)
theorem clash_never {la lb l : List (Int × Int)} {s : Nat} (h : l.Perm la) (hall : ∀ j (hj : j < l.length), clashB la lb (l[j]).1 = false) : firstFrom (clashB la lb) s 0 = -1 := by
  refine firstFrom_none _ _ _ (fun j _ => ?_)
  by_cases hx : ∃ x, x ∈ la ∧ x.1 = j
  · obtain ⟨x, hx, rfl⟩ := hx
    obtain ⟨q, hq, rfl⟩ := List.getElem_of_mem (h.mem_iff.2 hx)
    exact hall q hq
  · unfold clashB
    rw [needIn_none (fun x h1 h2 => hx ⟨x, h1, h2⟩)]
    exact decide_eq_false (by omega)
theorem clash_same {la lb : List (Int × Int)} {x : Int × Int} (ha : x ∈ la) (hb : x ∈ lb) (hsa : ∀ y, y ∈ la → y.1 = x.1 → y = x) (hsb : ∀ y, y ∈ lb → y.1 = x.1 → y = x) : clashB la lb x.1 = false := by
  unfold clashB
  rw [needIn_of ha hsa, needIn_of hb hsb]
  exact decide_eq_false (by omega)
theorem clash_diff {la lb : List (Int × Int)} {x y : Int × Int} (ha : x ∈ la) (hb : y ∈ lb) (e : y.1 = x.1) (ne : ¬ x.2 = y.2) (hx0 : 0 ≤ x.2) (hy0 : 0 ≤ y.2) (hsa : ∀ z, z ∈ la → z.1 = x.1 → z = x) (hsb : ∀ z, z ∈ lb → z.1 = y.1 → z = y) : clashB la lb x.1 = true := by
  unfold clashB
  rw [needIn_of ha hsa, ← e, needIn_of hb hsb]
  exact decide_eq_true ⟨hx0, hy0, ne⟩
theorem clash_no {la lb : List (Int × Int)} {i : Int} (h : ∀ x, x ∈ lb → ¬ x.1 = i) : clashB la lb i = false := by
  unfold clashB
  rw [needIn_none h]
  exact decide_eq_false (by omega)
theorem nds_snd {n : Nat} {ts : List T3} {way : List Int} (hway : ∀ q (h : q < way.length), stB n way[q] = true) : ∀ x, x ∈ nds ts way way.length → 0 ≤ x.2 := by
  intro x hx
  unfold nds at hx
  rw [List.take_length, List.mem_map] at hx
  obtain ⟨z, hz, rfl⟩ := hx
  obtain ⟨q, hq, rfl⟩ := List.getElem_of_mem hz
  exact (stB_parts (hway q hq)).1
/-- The cells of a row of needs. -/
theorem row_needs {w : World} {lo hi k cap : Nat} {ao : Option Addr} {l : List (Int × Int)} {e : TypeId} (hl : l.length = k) (h : Row lo hi e 2 (.slice ao k cap) k (flatN l) w) (hp : 0 < k) :
    ∃ g, ao = some ⟨g, 0, none⟩ ∧ g < w.heap.size ∧ ∀ t (ht : t < l.length), w.cell? ⟨g, t * 2, none⟩ = some (.int .i64 (l[t]).1) ∧ w.cell? ⟨g, t * 2 + 1, none⟩ = some (.int .i64 (l[t]).2) := by
  obtain ⟨g, hg⟩ : ∃ g, ao = some ⟨g, 0, none⟩ := by
    rcases h.1.2 with ⟨hv, h0⟩ | ⟨g, _, _, hv, _⟩
    · omega
    · injection hv with e1; exact ⟨g, e1⟩
  subst hg
  obtain ⟨cur, hcur, _, _, hcells⟩ := need_cells hl h.1
  exact ⟨g, rfl, (Array.getElem?_eq_some_iff.1 hcur).1, fun t ht => ⟨(cell_of_row w g _ cur _ (0, 0) hcur).trans (hcells t ht).1, (cell_of_row w g _ cur _ (0, 0) hcur).trans (hcells t ht).2⟩⟩
/-- What firstClash returns. -/
def clashRes (s : Int) (ts : List T3) (wa wb : List Int) : Int × Bool := if firstC s ts wa wb = -1 then (0, false) else (firstC s ts wa wb, true)

set_option maxHeartbeats 2000000 in
theorem firstClash_any (s : Int) (a b c : Option Addr) (ts : List T3) (wa wb : List Int) (n ca m cb k cc : Nat) (w : World) (hn : Hid (ts.length = n)) (ha : RT w a ts) (hm : Hid (wa.length = m)) (hb : RI w b wa) (hm1 : m ≤ 1048576) (hk : Hid (wb.length = k)) (hc : RI w c wb) (hk1 : k ≤ 1048576) (hnet : netB s ts = true) (hsa : simpleB ts wa = true) (hsb : simpleB ts wb = true) :
    Calls Try.prog 63 #[.agg #[.int .i64 s, .slice a n ca], .slice b m cb, .slice c k cc] w fun e w' => e = .returned (.tuple #[.int .i64 (clashRes s ts wa wb).1, .bool (clashRes s ts wa wb).2]) ∧ Below w.heap.size w w' := by
  have HA : Hid (∀ w', Below w.heap.size w w' → RT w' a ts) := fun w' h => ha.below h
  have HB : Hid (∀ w', Below w.heap.size w w' → RI w' b wa) := fun w' h => hb.below h
  have HC : Hid (∀ w', Below w.heap.size w w' → RI w' c wb) := fun w' h => hc.below h
  obtain ⟨hs1, hs2, _, _⟩ := netB_parts hnet
  have hsn : Hid (((s.toNat : Nat) : Int) = s) := by unfold Hid; omega
  have HWA := Lib.hid (way_st hn.out hsa)
  have HWB := Lib.hid (way_st hn.out hsb)
  have HINA := Lib.hid (nds_in hn.out hnet hsa)
  have HSA : Hid (∀ x, x ∈ nds ts wa wa.length → ∀ y, y ∈ nds ts wa wa.length → x.1 = y.1 → x = y) := fun x hx y hy e => nds_same hsa hx hy e
  have HSB : Hid (∀ x, x ∈ nds ts wb wb.length → ∀ y, y ∈ nds ts wb wb.length → x.1 = y.1 → x = y) := fun x hx y hy e => nds_same hsb hx hy e
  have HNA := Lib.hid (nds_snd (ts := ts) HWA.out)
  have HNB := Lib.hid (nds_snd (ts := ts) HWB.out)
  clear ha hb hc hnet hsa hsb
  go_enter Try.func63, Try.ntmps63
  go_wp2_with fail
  go_step3
  go_wp2_with fail
  refine (needsOf_any s a c ts wb n ca k cc (w.alloc (.cells #[.int .i64 s, .slice a n ca] 26)) hn (HA.out _ (by (repeat (first | exact Below.refl _ _ | refine Below.drew ?_ | refine Below.drewN' ?_ _ | refine Below.alloc ?_ (by first | (simp; done) | (simp; omega)) _ | refine Below.setCell ?_ (by first | (simp; done) | (simp; omega)) _)); done)) hk (HC.out _ (by (repeat (first | exact Below.refl _ _ | refine Below.drew ?_ | refine Below.drewN' ?_ _ | refine Below.alloc ?_ (by first | (simp; done) | (simp; omega)) _ | refine Below.setCell ?_ (by first | (simp; done) | (simp; omega)) _)); done)) hk1 HWB.out).mono ?_
  rintro e w1 ⟨hb1, ao, cap, lb, rfl, hown, hperm, hll, _⟩
  have q0 := (hb1.cell (p := ⟨w.heap.size, 0, none⟩) (by simp)).trans (by simp [go_sem] : _ = some (.int .i64 s))
  have q1 := (hb1.cell (p := ⟨w.heap.size, 1, none⟩) (by simp)).trans (by simp [go_sem] : _ = some (.slice a n ca))
  have B1 := Lib.hid (Below.trans (show Below w.heap.size w (w.alloc (.cells #[.int .i64 s, .slice a n ca] 26)) from (by repeat (first | exact Below.refl _ _ | refine Below.alloc ?_ (by simp; try omega) _ | refine Below.setCell ?_ (by simp; try omega) _))) (hb1.mono (by simp)))
  have RB := Lib.hid (Row.of hown)
  have HLB := Lib.hid hll
  have HPB : Hid (lb.Perm (nds ts wb wb.length)) := by unfold Hid; rw [hk.out]; exact hperm
  clear hb1 hown hperm hll
  go_wp2_with fail
  go_step3
  go_wp2_with fail
  refine (needsOf_any s a b ts wa n ca m cb _ hn (HA.out _ B1.out) hm (HB.out _ B1.out) hm1 HWA.out).mono ?_
  rintro e w2 ⟨hb2, ap, cap2, la, rfl, hown, hperm, hll, hsort⟩
  have B2 := Lib.hid (two_worldsC B1.out hb2)
  have RB2 := Lib.hid (RB.out.below hb2)
  have RA2 := Lib.hid (Row.of hown)
  have HLA := Lib.hid hll
  have HPA : Hid (la.Perm (nds ts wa wa.length)) := by unfold Hid; rw [hm.out]; exact hperm
  have HSORT := Lib.hid hsort
  clear hb2 hown hperm hll hsort q0 q1
  go_wp2
  go_loopg [20] m (fun gi iv wr => ∃ i : Nat, i + gi = m ∧ iv = .int .i64 i ∧ Below w2.heap.size w2 wr ∧ ∀ j (hj : j < la.length), j < i → clashB (nds ts wa wa.length) (nds ts wb wb.length) (la[j]).1 = false)
  case atStart => exact ⟨0, by omega, rfl, Below.refl _ _, fun j _ hj => by omega⟩
  case round =>
    obtain ⟨go, hgo⟩ : ∃ g, g = gk := ⟨gk, rfl⟩
    subst hgo
    obtain ⟨wo, hwo⟩ : ∃ W, W = wr := ⟨wr, rfl⟩
    subst hwo
    obtain ⟨i, hi, rfl, hbel, hall⟩ := hrel
    have HALL := Lib.hid hall
    have HBEL := Lib.hid hbel
    clear hall
    by_cases hlt : i < m
    · have hia : i < la.length := by rw [HLA.out]; exact hlt
      obtain ⟨g, rfl, hgl, hcg⟩ := row_needs HLA.out (RA2.out.below hbel) (by omega)
      obtain ⟨x1, x2⟩ := hcg i hia
      have HMEM : Hid (la[i] ∈ nds ts wa wa.length) := HPA.out.mem_iff.1 (List.getElem_mem hia)
      have HIT : Hid (clashB (nds ts wa wa.length) (nds ts wb wb.length) (la[i]).1 = true → firstC s ts wa wb = (la[i]).1) := fun h => clash_at HPA.out (fun i j hi hj h => by have := HSORT.out i j hi hj h; omega) (fun x hx => by rw [hsn.out]; exact HINA.out x hx) hia HALL.out h
      have HSM : Hid (clashB (nds ts wa wa.length) (nds ts wb wb.length) (la[i]).1 = false → ∀ j (h : j < la.length), j < i + 1 → clashB (nds ts wa wa.length) (nds ts wb wb.length) (la[j]).1 = false) := fun ht j h hj => if e : j = i then (by subst e; exact ht) else HALL.out j h (by omega)
      generalize la[i] = x at x1 x2 HMEM HIT HSM
      have hi0 : (0 : Int) ≤ (i : Int) := by omega
      have hi1 : (i : Int) < (m : Int) := by omega
      have HX0 : Hid (0 ≤ x.1 ∧ 0 ≤ x.2) := ⟨(HINA.out x HMEM.out).1, HNA.out x HMEM.out⟩
      obtain ⟨u, v⟩ := x
      simp only at x1 x2
      clear hbel hcg
      go_wp2
      go_loopg [26] k (fun gt jv wq => ∃ t : Nat, t + gt = k ∧ jv = .int .i64 t ∧ Below w2.heap.size w2 wq ∧ Hid (wq.cell? ⟨wo.heap.size, 0, none⟩ = some (.int .i64 u) ∧ wq.cell? ⟨wo.heap.size, 1, none⟩ = some (.int .i64 v)) ∧ ∀ j (hj : j < lb.length), j < t → ¬ (lb[j]).1 = u)
      case atStart => exact ⟨0, by omega, rfl, two_worldsC HBEL.out (by (repeat (first | exact Below.refl _ _ | refine Below.drew ?_ | refine Below.drewN' ?_ _ | refine Below.alloc ?_ (by first | (simp; done) | (simp; omega)) _ | refine Below.setCell ?_ (by first | (simp; done) | (simp; omega)) _)); done), ⟨by simp [go_sem], by simp [go_sem]⟩, fun j _ hj => by omega⟩
      case round =>
        obtain ⟨gt, hgt⟩ : ∃ g, g = gk := ⟨gk, rfl⟩
        subst hgt
        obtain ⟨wq, hwq⟩ : ∃ W, W = wr := ⟨wr, rfl⟩
        subst hwq
        obtain ⟨t, ht, rfl, hbq, HBX, hnone⟩ := hrel
        have HNONE := Lib.hid hnone
        have HBQ := Lib.hid hbq
        clear hnone
        obtain ⟨b0, b1⟩ := HBX.out
        have hwl : wo.heap.size < wq.heap.size := World.block_lt_of_cell? wq _ b0
        by_cases hlt2 : t < k
        · have hta : t < lb.length := by rw [HLB.out]; exact hlt2
          obtain ⟨g', rfl, hgl', hcg'⟩ := row_needs HLB.out (RB2.out.below hbq) (by omega)
          obtain ⟨y1, y2⟩ := hcg' t hta
          have HMB : Hid (lb[t] ∈ nds ts wb wb.length) := HPB.out.mem_iff.1 (List.getElem_mem hta)
          have HSM2 : Hid (¬ (lb[t]).1 = u → ∀ j (h : j < lb.length), j < t + 1 → ¬ (lb[j]).1 = u) := fun h0 j h hj => if e : j = t then (by subst e; exact h0) else HNONE.out j h (by omega)
          generalize lb[t] = y at y1 y2 HMB HSM2
          have hj0 : (0 : Int) ≤ (t : Int) := by omega
          have hj1 : (t : Int) < (k : Int) := by omega
          have HY0 : Hid (0 ≤ y.2) := HNB.out y HMB.out
          obtain ⟨p, q⟩ := y
          simp only at y1 y2
          clear hbq hcg'
          rcases eq_ways u p with ⟨⟨e1, e2⟩, e3⟩ | ⟨⟨e1, e2⟩, e3⟩
          · rcases eq_ways v q with ⟨⟨e4, e5⟩, e6⟩ | ⟨⟨e4, e5⟩, e6⟩
            · have HN : Hid (∀ j (h : j < la.length), j < i + 1 → clashB (nds ts wa wa.length) (nds ts wb wb.length) (la[j]).1 = false) := HSM.out (clash_same HMEM.out (by have h := HMB.out; rw [← e3, ← e6] at h; exact h) (fun z hz e => HSA.out z hz _ HMEM.out e) (fun z hz e => HSB.out z hz _ (by have h := HMB.out; rw [← e3, ← e6] at h; exact h) e))
              subst e3 e6
              clear HSM HIT HSM2
              go_wp2
              go_roundg (go - 1)
              case measure => omega
              case rel => exact ⟨i + 1, by omega, by go_num, two_worldsC HBQ.out (by (repeat (first | exact Below.refl _ _ | refine Below.drew ?_ | refine Below.drewN' ?_ _ | refine Below.alloc ?_ (by first | (simp; done) | (simp; omega)) _ | refine Below.setCell ?_ (by first | (simp; done) | (simp; omega)) _)); done), HN.out⟩
            · have HR : Hid (firstC s ts wa wb = u) := HIT.out (clash_diff (x := (u, v)) (y := (p, q)) HMEM.out HMB.out e3.symm e6 HX0.out.2 HY0.out (fun z hz e => HSA.out z hz _ HMEM.out e) (fun z hz e => HSB.out z hz _ HMB.out e))
              have HRES : Hid (clashRes s ts wa wb = (u, true)) := by unfold Hid clashRes; rw [HR.out, if_neg (by have := HX0.out.1; (try simp only at this); omega)]
              have HB2 := Lib.hid (two_worldsC B2.out HBQ.out)
              subst e3
              clear HSM HIT HSM2 e6
              go_wp2
              (try rw [Exit.noGoto_ret])
              go_ret2
              exact ⟨ret_end HRES.out, two_worldsC HB2.out (by (repeat (first | exact Below.refl _ _ | refine Below.drew ?_ | refine Below.drewN' ?_ _ | refine Below.alloc ?_ (by first | (simp; done) | (simp; omega)) _ | refine Below.setCell ?_ (by first | (simp; done) | (simp; omega)) _)); done)⟩
          · have HN2 := Lib.hid (HSM2.out (fun h => e3 h.symm))
            have HB0 := Lib.hid (And.intro b0 b1)
            clear HSM2 e3
            go_wp2
            go_roundg (gt - 1)
            case measure => omega
            case rel => exact ⟨t + 1, by omega, by go_num, two_worldsC HBQ.out (by (repeat (first | exact Below.refl _ _ | refine Below.drew ?_ | refine Below.drewN' ?_ _ | refine Below.alloc ?_ (by first | (simp; done) | (simp; omega)) _ | refine Below.setCell ?_ (by first | (simp; done) | (simp; omega)) _)); done), ⟨(((Below.refl wq.heap.size wq).alloc (Nat.le_refl _) _).cell (p := ⟨wo.heap.size, 0, none⟩) hwl).trans HB0.out.1, (((Below.refl wq.heap.size wq).alloc (Nat.le_refl _) _).cell (p := ⟨wo.heap.size, 1, none⟩) hwl).trans HB0.out.2⟩, HN2.out⟩
        · have HN : Hid (∀ j (h : j < la.length), j < i + 1 → clashB (nds ts wa wa.length) (nds ts wb wb.length) (la[j]).1 = false) := HSM.out (clash_no (fun z hz => by
            obtain ⟨j, hj, rfl⟩ := List.getElem_of_mem (HPB.out.mem_iff.2 hz)
            exact HNONE.out j hj (by rw [HLB.out] at hj; omega)))
          clear hbq HSM HIT
          go_wp2
          go_roundg (go - 1)
          case measure => omega
          case rel => exact ⟨i + 1, by omega, by go_num, two_worldsC HBQ.out (by (repeat (first | exact Below.refl _ _ | refine Below.drew ?_ | refine Below.drewN' ?_ _ | refine Below.alloc ?_ (by first | (simp; done) | (simp; omega)) _ | refine Below.setCell ?_ (by first | (simp; done) | (simp; omega)) _)); done), HN.out⟩
    · have HR : Hid (firstC s ts wa wb = -1) := clash_never HPA.out (fun j hj => HALL.out j hj (by rw [HLA.out] at hj; omega))
      have HRES : Hid (clashRes s ts wa wb = (0, false)) := by unfold Hid clashRes; rw [HR.out, if_pos rfl]
      have HB2 := Lib.hid (two_worldsC B2.out HBEL.out)
      clear hbel
      go_wp2
      (try rw [Exit.noGoto_ret])
      go_ret2
      exact ⟨ret_end HRES.out, HB2.out⟩
end Go.Proofs.Ytenjigifjkfiaaa
