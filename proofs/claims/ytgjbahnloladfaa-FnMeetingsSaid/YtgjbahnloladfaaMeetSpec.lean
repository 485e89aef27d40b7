/-
  FirstMeeting: the model's walk.
-/
import Derived.Test.YtgjbahnloladfaaSpans6
import Derived.Test.YtgjbahnloladfaaMeetMath
namespace Go.Proofs.Ytgjbahnloladfaa
open Go.RowKit

theorem wf_run {l : List Int} {ts : List TRun} (h : rsB l ts = true) (i : Nat) (hi : i < ts.length) {t : TRun} (ht : ts[i] = t) : RunOk l t.1 t.2 := by subst ht; exact rsB_run h i hi
theorem passPos {l way : List Int} {s : Int} (h : RunOk l way s) (i : Nat) (hi : i < (passOf l (way, s)).length) : (passOf l (way, s))[i].1 < (passOf l (way, s))[i].2.1 := by
  have hi' : i < way.length := by rw [passOf_length] at hi; exact hi
  rw [passOf_get l (way, s) i hi']
  exact h.tick_lt i hi'
/-- A row of three numbers: where it lies. -/
theorem row3 {M : Nat} {w : World} {a : Option Addr} {ps : List TPass} (h : RN M 1 cInt64S w a (ps.map rowOf)) (i : Nat) (hi : i < ps.length) :
    ∃ b off bi oi ci, a = some ⟨b, off, none⟩ ∧ b < w.heap.size ∧ bi < w.heap.size ∧ w.cell? ⟨b, off + i, none⟩ = some (.slice (some ⟨bi, oi, none⟩) 3 ci) ∧ w.cell? ⟨bi, oi, none⟩ = some (.int .i64 ps[i].2.2) ∧ w.cell? ⟨bi, oi + 1, none⟩ = some (.int .i64 ps[i].1) ∧ w.cell? ⟨bi, oi + 2, none⟩ = some (.int .i64 ps[i].2.1) := by
  have hi' : i < (ps.map rowOf).length := by simpa using hi
  obtain ⟨b, off, ha, hb, hc⟩ := h.addr (by omega)
  obtain ⟨ai, ci, hr, _, hcell⟩ := hc i hi'
  have hg : (ps.map rowOf)[i] = ([ps[i].2.2, ps[i].1, ps[i].2.1], ()) := by simp [rowOf]
  rw [hg] at hr hcell
  rcases hr with hr | ⟨bi, oi, rfl, hr⟩
  · simp at hr
  · have h0 := hr 0 (by simp)
    have h1 := hr 1 (by simp)
    have h2 := hr 2 (by simp)
    have hx := hcell 0 _ rfl
    simp only [Nat.mul_one, Nat.add_zero] at hx
    exact ⟨b, off, bi, oi, ci, ha, hb, World.block_lt_of_cell? w _ h0, hx, by simpa using h0, by simpa using h1, by simpa using h2⟩

set_option maxHeartbeats 16000000 in
theorem l06Meet_any (b1 o1 b2 o2 : Nat) (a x y : Option Addr) (l wi wj : List Int) (si sj : Int) (n ca qi ci qj cj : Nat) (w : World) (hn : Hid (l.length = n)) (ha : RI w a l) (hqi : Hid (wi.length = qi)) (hx : RI w x wi) (hoki : RunOk l wi si) (hqj : Hid (wj.length = qj)) (hy : RI w y wj) (hokj : RunOk l wj sj)
    (p0 : w.cell? ⟨b1, o1, none⟩ = some (.slice x qi ci)) (p1 : w.cell? ⟨b1, o1 + 1, none⟩ = some (.int .i64 si)) (r0 : w.cell? ⟨b2, o2, none⟩ = some (.slice y qj cj)) (r1 : w.cell? ⟨b2, o2 + 1, none⟩ = some (.int .i64 sj)) :
    Calls Try.prog 62 #[.slice a n ca, .pointer (some ⟨b1, o1, none⟩), .pointer (some ⟨b2, o2, none⟩)] w fun e w' => e = .returned (.int .i64 (midx (passOf l (wi, si)) (passOf l (wj, sj)))) ∧ Below w.heap.size w w' := by
  have hl1 := World.block_lt_of_cell? w _ p0
  have hl2 := World.block_lt_of_cell? w _ r0
  simp only at hl1 hl2
  have SI := l06Spans_any b1 o1 a x l wi si n ca qi ci w hn ha hqi hx hoki p0 p1
  have SJ : Hid (∀ W, Below w.heap.size w W → Calls Try.prog 52 #[.slice a n ca, .pointer (some ⟨b2, o2, none⟩)] W (GivesRows ((passOf l (wj, sj)).map rowOf) qj W)) := fun W h => l06Spans_any b2 o2 a y l wj sj n ca qj cj W hn (ha.below h) hqj (hy.below h) hokj ((h.cell (p := ⟨b2, o2, none⟩) hl2).trans r0) ((h.cell (p := ⟨b2, o2 + 1, none⟩) hl2).trans r1)
  have HPI : Hid (∀ i (h : i < (passOf l (wi, si)).length), (passOf l (wi, si))[i].1 < (passOf l (wi, si))[i].2.1) := passPos hoki
  have HPJ : Hid (∀ i (h : i < (passOf l (wj, sj)).length), (passOf l (wj, sj))[i].1 < (passOf l (wj, sj))[i].2.1) := passPos hokj
  have HLI : Hid ((passOf l (wi, si)).length = qi) := by unfold Hid; rw [passOf_length]; exact hqi.out
  have HLJ : Hid ((passOf l (wj, sj)).length = qj) := by unfold Hid; rw [passOf_length]; exact hqj.out
  have hq1 : qi ≤ 12 := by have := hoki.ways; rw [hqi.out] at this; omega
  have hq2 : qj ≤ 12 := by have := hokj.ways; rw [hqj.out] at this; omega
  have HM1 : Hid (∀ (ps : List TPass) (i : Nat) (h : i < (ps.map rowOf).length), (ps.map rowOf)[i].1.length ≤ 1048576) := fun ps i h => by simp [rowOf]
  clear ha hx hy hoki hokj p0 p1 r0 r1 hqi hqj hl1 hl2
  generalize passOf l (wi, si) = ps at SI HPI HLI
  generalize passOf l (wj, sj) = qs at SJ HPJ HLJ
  go_enter Try.func62, Try.ntmps62
  go_wp2_with fail
  refine SI.mono ?_
  rintro e w1 ⟨hb1, aI, cI, rfl, ho1⟩
  have HB1 := Lib.hid hb1
  have HO1 := Lib.hid ho1
  clear hb1 ho1 SI
  go_wp2_with fail
  refine (SJ.out _ HB1.out).mono ?_
  rintro e w2 ⟨hb2, aJ, cJ, rfl, ho2⟩
  have HB2 := Lib.hid (two_worlds HB1.out hb2)
  have HRI : Hid (RN 1048576 1 cInt64S w2 aI (ps.map rowOf)) := (HO1.out.below hb2).rd cInt64S_len (by unfold Hid; rw [List.length_map]; exact HLI.out) (HM1.out ps)
  have HRJ : Hid (RN 1048576 1 cInt64S w2 aJ (qs.map rowOf)) := ho2.rd cInt64S_len (by unfold Hid; rw [List.length_map]; exact HLJ.out) (HM1.out qs)
  clear hb2 ho2 SJ HO1
  go_wp2
  go_loopw [9] (fun iv wr => ∃ i : Nat, i ≤ qi ∧ iv = .int .i64 i ∧ Below w2.heap.size w2 wr ∧ Hid (∀ q (hq : q < ps.length), q < i → qs.any (meetP ps[q]) = false)) (fun iv _ => qi - (intOf iv).toNat)
  case atStart => exact ⟨0, by omega, rfl, Below.refl _ _, fun q _ hq => by omega⟩
  case round =>
    obtain ⟨i, hi, rfl, hbel, HI⟩ := hrel
    obtain ⟨wo, hwo⟩ : ∃ wo, wo = wr := ⟨wr, rfl⟩
    subst hwo
    by_cases hlt : i < qi
    · have hka : i < ps.length := by rw [HLI.out]; exact hlt
      obtain ⟨bA, oA, bi, oi, ki, rfl, hbA, hbi, x0, x1, x2, x3⟩ := row3 HRI.out i hka
      rw [← hbel.cell (p := ⟨_, _, none⟩) hbA] at x0
      rw [← hbel.cell (p := ⟨_, _, none⟩) hbi] at x1 x2 x3
      have HX := Lib.hid (And.intro x0 (And.intro x1 (And.intro x2 x3)))
      have hbA' : bA < wo.heap.size := by have := hbel.size; omega
      have hbi' : bi < wo.heap.size := by have := hbel.size; omega
      have hk0 : (0 : Int) ≤ (i : Int) := by omega
      have hk1 : (i : Int) < (qi : Int) := by omega
      have HBO := Lib.hid hbel
      have HPI1 := HPI.out i hka
      clear x0 x1 x2 x3 hbel
      go_wp2
      go_loopw [10] (fun iv wr => ∃ j : Nat, j ≤ qj ∧ iv = .int .i64 j ∧ Below wo.heap.size wo wr ∧ Hid (∀ q (hq : q < qs.length), q < j → meetP ps[i] qs[q] = false)) (fun iv _ => qj - (intOf iv).toNat)
      case atStart => exact ⟨0, by omega, rfl, Below.refl _ _, fun q _ hq => by omega⟩
      case round =>
        obtain ⟨j, hj, rfl, hbelj, HJ⟩ := hrel
        have hbw2 : Below w2.heap.size w2 wr := HBO.out.trans (hbelj.mono HBO.out.size)
        by_cases hltj : j < qj
        · have hkb : j < qs.length := by rw [HLJ.out]; exact hltj
          have HYES : Hid (meetP ps[i] qs[j] = true → midx ps qs = (i : Int)) := fun h => midx_some (mx_some i hka (any_yes j hkb h) HI.out)
          have HNO : Hid (meetP ps[i] qs[j] = false → ∀ q (hq : q < qs.length), q < j + 1 → meetP ps[i] qs[q] = false) := fun ht q hq hqj => if e : q = j then (by subst e; exact ht) else HJ.out q hq (by omega)
          obtain ⟨bB, oB, bj, oj, kj, rfl, hbB, hbj, y0, y1, y2, y3⟩ := row3 HRJ.out j hkb
          rw [← hbw2.cell (p := ⟨_, _, none⟩) hbB] at y0
          rw [← hbw2.cell (p := ⟨_, _, none⟩) hbj] at y1 y2 y3
          obtain ⟨x0, x1, x2, x3⟩ := HX.out
          rw [← hbelj.cell (p := ⟨_, _, none⟩) hbA'] at x0
          rw [← hbelj.cell (p := ⟨_, _, none⟩) hbi'] at x1 x2 x3
          have HPJ1 := HPJ.out j hkb
          have HPI2 := HPI1
          rw [meetP_S HPI2 HPJ1] at HYES HNO
          clear HPJ1 HPI2
          generalize ps[i] = p at x1 x2 x3 HYES HNO
          generalize qs[j] = q at y1 y2 y3 HYES HNO
          obtain ⟨pa, pb, pc⟩ := p
          obtain ⟨qa, qb, qc⟩ := q
          dsimp only at x1 x2 x3 y1 y2 y3
          have hj0 : (0 : Int) ≤ (j : Int) := by omega
          have hj1 : (j : Int) < (qj : Int) := by omega
          have h3a : (0 : Int) < 3 := by omega
          have h3b : (1 : Int) < 3 := by omega
          have h3c : (2 : Int) < 3 := by omega
          have HBJ := Lib.hid hbelj
          have HBW := Lib.hid hbw2
          clear hbelj hbw2
          rcases eq_ways pc qc with ⟨⟨e1, e2⟩, e3⟩ | ⟨⟨e1, e2⟩, e3⟩
          · clear e3
            cases d1 : decide (pa < qb) with
            | true =>
              cases d2 : decide (qa < pb) with
              | true =>
                have HR := Lib.hid (HYES.out (by unfold meetS; dsimp only; rw [e1, d1, d2]; rfl))
                clear HYES HNO
                go_wp2
                go_quiet (fail)
                go_wp2
                go_ret
                exact ⟨ret_int HR.out.symm, two_worlds HB2.out (two_worlds HBW.out (by (repeat (first | exact Below.refl _ _ | refine Below.drew ?_ | refine Below.drewN' ?_ _ | refine Below.alloc ?_ (by first | (simp; done) | (simp; omega)) _ | refine Below.setCell ?_ (by first | (simp; done) | (simp; omega)) _)); done))⟩
              | false =>
                have HN2 := Lib.hid (HNO.out (by unfold meetS; dsimp only; rw [e1, d1, d2]; rfl))
                clear HYES HNO
                go_wp2
                go_quiet (fail)
                go_wp2
                go_roundw
                case rel => exact ⟨j + 1, by omega, by go_num, two_worlds HBJ.out (by (repeat (first | exact Below.refl _ _ | refine Below.drew ?_ | refine Below.drewN' ?_ _ | refine Below.alloc ?_ (by first | (simp; done) | (simp; omega)) _ | refine Below.setCell ?_ (by first | (simp; done) | (simp; omega)) _)); done), HN2.out⟩
                case measure => simp [intOf]; omega
            | false =>
              have HN2 := Lib.hid (HNO.out (by unfold meetS; dsimp only; rw [e1, d1]; rfl))
              clear HYES HNO
              go_wp2
              go_quiet (fail)
              go_wp2
              go_roundw
              case rel => exact ⟨j + 1, by omega, by go_num, two_worlds HBJ.out (by (repeat (first | exact Below.refl _ _ | refine Below.drew ?_ | refine Below.drewN' ?_ _ | refine Below.alloc ?_ (by first | (simp; done) | (simp; omega)) _ | refine Below.setCell ?_ (by first | (simp; done) | (simp; omega)) _)); done), HN2.out⟩
              case measure => simp [intOf]; omega
          · have HN2 := Lib.hid (HNO.out (by unfold meetS; dsimp only; rw [e1]; rfl))
            clear HYES HNO e3
            go_wp2
            go_quiet (fail)
            go_wp2
            go_roundw
            case rel => exact ⟨j + 1, by omega, by go_num, two_worlds HBJ.out (by (repeat (first | exact Below.refl _ _ | refine Below.drew ?_ | refine Below.drewN' ?_ _ | refine Below.alloc ?_ (by first | (simp; done) | (simp; omega)) _ | refine Below.setCell ?_ (by first | (simp; done) | (simp; omega)) _)); done), HN2.out⟩
            case measure => simp [intOf]; omega
        · have HI2 : Hid (∀ q (hq : q < ps.length), q < i + 1 → qs.any (meetP ps[q]) = false) := fun q hq hqi => if e : q = i then (by subst e; exact any_no (fun z hz => HJ.out z hz (by rw [HLJ.out] at hz; omega))) else HI.out q hq (by omega)
          go_wp2
          go_roundw
          case rel => exact ⟨i + 1, by omega, by go_num, hbw2, HI2.out⟩
          case measure => simp [intOf]; omega
    · have HR : Hid (midx ps qs = -1) := midx_none (mx_none (fun q hq => HI.out q hq (by rw [HLI.out] at hq; omega)))
      go_wp2
      go_ret
      exact ⟨ret_int HR.out.symm, two_worlds HB2.out hbel⟩

set_option maxHeartbeats 16000000 in
theorem specFirstMeeting_any (w : World) {a0 : Option Addr} {n0 c0 : Nat} (l0 : List Int) (hn0 : Hid (l0.length = n0)) (h0 : RI w a0 l0) (hs0 : n0 ≤ 1048576) (_wf0 : Hid (∀ k ∈ l0, (Lit.int .i64 k).wf = true)) {a1 : Option Addr} {n1 c1 : Nat} (ts1 : List TRun) (hn1 : Hid (ts1.length = n1)) (h1 : RN 1048576 2 cRun w a1 ts1) (hs1 : n1 ≤ 1048576) (_wf1 : Hid (∀ t ∈ ts1, wfRun t)) :
    Calls Try.prog 38 #[.slice a0 n0 c0, .slice a1 n1 c1] w fun e w' => e = .returned (.tuple #[.int .i64 (meetOf l0 ts1).1, .int .i64 (meetOf l0 ts1).2.1, .int .i64 (meetOf l0 ts1).2.2.1, .int .i64 (meetOf l0 ts1).2.2.2]) ∧ Below w.heap.size w w' := by
  have HA : Hid (∀ w', Below w.heap.size w w' → RI w' a0 l0) := fun w' h => h0.below h
  have HB := Lib.hid h1
  have OK := l06Ok_any a0 a1 l0 ts1 n0 c0 n1 c1 w hn0 h0 hs0 hn1 h1 hs1
  clear h0 h1
  cases hv : rsB l0 ts1 with
  | false =>
    rw [hv] at OK
    have HR := Lib.hid (meetOf_bad hv)
    clear hv
    go_enter Try.func38, Try.ntmps38
    go_wp2_with (go_at_call 51; refine OK.mono ?_; rintro e w1 ⟨rfl, rfl⟩)
    refine bodyPost_ret (v := .tuple #[.int .i64 0, .int .i64 0, .int .i64 0, .int .i64 1]) (by simp [results, Try.results38, go_sem]) rfl ⟨by rw [HR.out], Below.refl _ _⟩
  | true =>
    rw [hv] at OK
    have HV := Lib.hid hv
    have hfew : n1 ≤ 12 := by have := rsB_few hv; rw [hn1.out] at this; exact this
    clear hv
    go_enter Try.func38, Try.ntmps38
    go_wp2_with (go_at_call 51; refine OK.mono ?_; rintro e w1 ⟨rfl, rfl⟩)
    clear OK
    go_loopw [8] (fun iv wr => ∃ i : Nat, i ≤ n1 ∧ iv = .int .i64 i ∧ Below w.heap.size w wr ∧ Hid (∀ q, q < i → seekJ l0 ts1 q = none)) (fun iv _ => n1 - (intOf iv).toNat)
    case atStart => exact ⟨0, by omega, rfl, Below.refl _ _, fun q hq => by omega⟩
    case round =>
      obtain ⟨i, hi, rfl, hbel, HBI⟩ := hrel
      obtain ⟨wo, hwo⟩ : ∃ wo, wo = wr := ⟨wr, rfl⟩
      subst hwo
      by_cases hlt : i < n1
      · have hka : i < ts1.length := by rw [hn1.out]; exact hlt
        obtain ⟨b, off, ai, ci, rfl, hbl, hri, hqi, hc⟩ := HB.out.at_ i hka
        have HX0 : Hid (∀ w', Below w.heap.size w w' → w'.cell? ⟨b, off + i * 2, none⟩ = some (.slice ai ts1[i].1.length ci) ∧ w'.cell? ⟨b, off + i * 2 + 1, none⟩ = some (.int .i64 ts1[i].2)) := fun w' h => ⟨(h.cell (p := ⟨b, off + i * 2 + 0, none⟩) hbl).trans (hc 0 _ rfl), (h.cell (p := ⟨b, off + i * 2 + 1, none⟩) hbl).trans (hc 1 _ rfl)⟩
        have HRI : Hid (∀ w', Below w.heap.size w w' → RI w' ai ts1[i].1) := fun w' h => hri.below h
        clear hri hc
        obtain ⟨ti, hti⟩ : ∃ ti, ts1[i] = ti := ⟨_, rfl⟩
        have HTI := Lib.hid hti
        rw [hti] at HX0 hqi HRI
        clear hti
        obtain ⟨wi, si⟩ := ti
        dsimp only at HX0 hqi HRI
        obtain ⟨qi, hql⟩ : ∃ qi, wi.length = qi := ⟨_, rfl⟩
        have HQI := Lib.hid hql
        rw [hql] at HX0 hqi
        clear hql
        have hk0 : (0 : Int) ≤ (i : Int) := by omega
        have hk1 : (i : Int) < (n1 : Int) := by omega
        have HBEL := Lib.hid hbel
        clear hbel
        go_wp2
        go_loopw [9] (fun iv wr => ∃ j : Nat, j ≤ i ∧ iv = .int .i64 j ∧ Below w.heap.size w wr ∧ Hid (∀ q, q < j → mx (psOf l0 ts1 i) (psOf l0 ts1 q) = none)) (fun iv _ => i - (intOf iv).toNat)
        case atStart => exact ⟨0, by omega, rfl, HBEL.out, fun q hq => by omega⟩
        case round =>
          obtain ⟨j, hj, rfl, hbelj, HBJ⟩ := hrel
          by_cases hltj : j < i
          · have hkb : j < ts1.length := by omega
            obtain ⟨b2, off2, aj, cj, hbe, hbl2, hrj, hqj, hcj⟩ := HB.out.at_ j hkb
            injection hbe with hbe
            injection hbe with e1 e2
            subst e1 e2
            have HY0 : Hid (∀ w', Below w.heap.size w w' → w'.cell? ⟨b, off + j * 2, none⟩ = some (.slice aj ts1[j].1.length cj) ∧ w'.cell? ⟨b, off + j * 2 + 1, none⟩ = some (.int .i64 ts1[j].2)) := fun w' h => ⟨(h.cell (p := ⟨b, off + j * 2 + 0, none⟩) hbl2).trans (hcj 0 _ rfl), (h.cell (p := ⟨b, off + j * 2 + 1, none⟩) hbl2).trans (hcj 1 _ rfl)⟩
            have HRJ : Hid (∀ w', Below w.heap.size w w' → RI w' aj ts1[j].1) := fun w' h => hrj.below h
            clear hrj hcj
            obtain ⟨tj, htj⟩ : ∃ tj, ts1[j] = tj := ⟨_, rfl⟩
            have HTJ := Lib.hid htj
            rw [htj] at HY0 hqj HRJ
            clear htj
            obtain ⟨wj, sj⟩ := tj
            dsimp only at HY0 hqj HRJ
            obtain ⟨qj, hql⟩ : ∃ qj, wj.length = qj := ⟨_, rfl⟩
            have HQJ := Lib.hid hql
            rw [hql] at HY0 hqj
            clear hql
            have hj0 : (0 : Int) ≤ (j : Int) := by omega
            have hj1 : (j : Int) < (i : Int) := by omega
            have hj2 : (j : Int) < (n1 : Int) := by omega
            have MT : Hid (∀ W, Below w.heap.size w W → Calls Try.prog 62 #[.slice a0 n0 c0, .pointer (some ⟨b, off + i * 2, none⟩), .pointer (some ⟨b, off + j * 2, none⟩)] W fun e w' => e = .returned (.int .i64 (midx (passOf l0 (wi, si)) (passOf l0 (wj, sj)))) ∧ Below W.heap.size W w') := fun W h => l06Meet_any b (off + i * 2) b (off + j * 2) a0 ai aj l0 wi wj si sj n0 c0 qi ci qj cj W hn0 (HA.out W h) HQI (HRI.out W h) (wf_run HV.out i hka HTI.out) HQJ (HRJ.out W h) (wf_run HV.out j hkb HTJ.out) (HX0.out W h).1 (HX0.out W h).2 (HY0.out W h).1 (HY0.out W h).2
            have HPI : Hid (psOf l0 ts1 i = passOf l0 (wi, si)) := by unfold Hid; rw [psOf_at l0 ts1 i hka, HTI.out]
            have HPJ : Hid (psOf l0 ts1 j = passOf l0 (wj, sj)) := by unfold Hid; rw [psOf_at l0 ts1 j hkb, HTJ.out]
            have HBW := Lib.hid hbelj
            clear hbelj
            cases hmx : mx (passOf l0 (wi, si)) (passOf l0 (wj, sj)) with
            | some k =>
              obtain ⟨hk, hr⟩ := meetOf_at HV.out hka hltj (by rw [HPI.out, HPJ.out]; exact hmx) HBJ.out HBI.out
              have hkw : k < wi.length := by have := mx_lt hmx; rw [passOf_length] at this; exact this
              have hy : ts1[i].1[k] = wi[k] := by simp only [HTI.out]
              rw [hy] at hr
              have HR := Lib.hid hr
              rw [midx_some hmx] at MT
              have hkq : k < qi := by rw [← HQI.out]; exact hkw
              obtain ⟨bw, ow, rfl, hbw, z0⟩ := (HRI.out w (Below.refl _ _)).at_ k hkw
              generalize wi[k] = x at z0 HR
              have HZ0 := Lib.hid z0
              clear hy hr hmx z0
              have hk0 : (0 : Int) ≤ (k : Int) := by omega
              have hk1 : (k : Int) < (qi : Int) := by omega
              go_wp2
              go_region_held3 (fun _ => True) (exact True.intro) (first | (go_at_call 62; refine (MT.out _ HBW.out.drew).mono ?_; rintro e w3 ⟨rfl, hb3⟩))
              all_goals
                have HB3 := Lib.hid (HBW.out.drew.trans (hb3.mono HBW.out.size))
                clear hb3
                obtain ⟨x0, x1⟩ := HX0.out _ HB3.out
                have z0 := (HB3.out.cell (p := ⟨bw, ow + k, none⟩) hbw).trans HZ0.out
                go_wp2
                go_quiet (fail)
                go_wp2
                refine bodyPost_ret (v := .tuple #[.int .i64 (i : Int), .int .i64 (j : Int), .int .i64 x, .int .i64 0]) (by simp [results, Try.results38, go_sem]) rfl ⟨by rw [HR.out], two_worlds HB3.out (by (repeat (first | exact Below.refl _ _ | refine Below.drew ?_ | refine Below.drewN' ?_ _ | refine Below.alloc ?_ (by first | (simp; done) | (simp; omega)) _ | refine Below.setCell ?_ (by first | (simp; done) | (simp; omega)) _)); done)⟩
            | none =>
              have HBJ2 : Hid (∀ q, q < j + 1 → mx (psOf l0 ts1 i) (psOf l0 ts1 q) = none) := fun q hq => if e : q = j then (by subst e; rw [HPI.out, HPJ.out]; exact hmx) else HBJ.out q (by omega)
              rw [midx_none hmx] at MT
              clear hmx
              go_wp2
              go_region_held3 (fun _ => True) (exact True.intro) (first | (go_at_call 62; refine (MT.out _ HBW.out.drew).mono ?_; rintro e w3 ⟨rfl, hb3⟩))
              all_goals
                have HB3 := Lib.hid (HBW.out.drew.trans (hb3.mono HBW.out.size))
                clear hb3
                go_wp2
                go_roundw
                case rel => exact ⟨j + 1, by omega, by go_num, HB3.out, HBJ2.out⟩
                case measure => simp [intOf]; omega
          · have hji : j = i := by omega
            subst hji
            have HSJ : Hid (∀ q, q < j + 1 → seekJ l0 ts1 q = none) := fun q hq => if e : q = j then (by subst e; exact seekJ_none HBJ.out) else HBI.out q (by omega)
            go_wp2
            go_roundw
            case rel => exact ⟨j + 1, by omega, by go_num, hbelj, HSJ.out⟩
            case measure => simp [intOf]; omega
      · have HR := Lib.hid (meetOf_none HV.out (fun q hq => HBI.out q (by rw [hn1.out] at hq; omega)))
        go_wp2
        refine bodyPost_ret (v := .tuple #[.int .i64 0, .int .i64 0, .int .i64 0, .int .i64 3]) (by simp [results, Try.results38, go_sem]) rfl ⟨by rw [HR.out], hbel⟩
end Go.Proofs.Ytgjbahnloladfaa
