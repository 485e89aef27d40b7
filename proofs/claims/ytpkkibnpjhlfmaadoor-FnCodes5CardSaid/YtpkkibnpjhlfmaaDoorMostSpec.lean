/-
  MostAddresses: the model's search.
-/
import Derived.Test.YtpkkibnpjhlfmaaDoorMostAns
import Derived.Test.YtpkkibnpjhlfmaaDoorAppend
namespace Go.Proofs.YtpkkibnpjhlfmaaDoor
open Go.RowKit

/-- The model's search: its distance, and the greatest number so far. -/
def SpS (d : Int) (gb m : Nat) (w : World) : Prop := w.heap[gb]? = some (.cells #[.int .i64 d, .int .i64 (m : Int)] 96 (0, 0))
def WalkEnd (d : Int) (gb r : Nat) (w : World) (e : Ending) (w' : World) : Prop := e = .returned (.tuple #[]) ∧ SpS d gb r w' ∧ w.grownBy w' (some gb)
def fitR (d : Int) (t : ByteArray) (ts : List ByteArray) : List ByteArray := ts.filter (fitB d t)
theorem head_tail {α : Type} {ts : List α} (h : 0 < ts.length) : ts = ts[0] :: ts.drop 1 := by
  match ts, h with
  | a :: l, _ => rfl
set_option maxRecDepth 100000 in
set_option maxHeartbeats 8000000 in
theorem walkS_any (d : Int) (L : Nat) (hL : L ≤ 8) (w0 : World) (gb : Nat) (hb0 : w0.heap.size ≤ gb) :
    ∀ (n : Nat) (ts : List ByteArray), ts.length = n → n ≤ 32 → (∀ t ∈ ts, t.size = L) → ∀ (k m b off ca : Nat) (w : World), k + n ≤ 33 → m ≤ 33 → n ≤ ca → ca ≤ 9223372036854775807 → b ≠ gb → b < w.heap.size → SpS d gb m w → Below w0.heap.size w0 w →
      (∀ i (h : i < ts.length), w.cell? ⟨b, off + i, none⟩ = some (.string ts[i])) →
      Calls Tryd.prog 77 #[.pointer (some ⟨gb, 0, none⟩), .int .i64 (k : Int), .slice (some ⟨b, off, none⟩) n ca] w (WalkEnd d gb (max m (k + om (fitB d) ts)) w) := by
  have HI : Hid (∃ i0 : TypeInfo, Tryd.prog.info? 9 = some i0 ∧ i0.zero = some (.string ByteArray.empty) ∧ i0.size = 1 ∧ i0.bytes = 16) := info_parts info9
  intro n
  induction n using Nat.strongRecOn with
  | ind n ih =>
    intro ts hn hn32 hsz k m b off ca w hkn hm hcap hcm hne hbl hs hbel hcell
    have IH := Lib.hid ih
    have HN := Lib.hid hn
    have HE := Lib.hid hsz
    have HS := Lib.hid hs
    have HB := Lib.hid hbel
    have HC := Lib.hid hcell
    have q0 := cell_of_row w gb 0 _ _ _ hs
    have q1 := cell_of_row w gb 1 _ _ _ hs
    have z1 := frozen_of_row w gb 1 _ _ hs
    simp only [List.getElem?_toArray, List.getElem?_cons_zero, List.getElem?_cons_succ] at q0 q1
    obtain ⟨r, hr⟩ : ∃ r, max m (k + om (fitB d) ts) = r := ⟨_, rfl⟩
    rw [hr]
    have HR := Lib.hid hr
    have hol := om_len (fitB d) ts
    clear ih hn hsz hs hbel hcell
    by_cases h1 : k + n ≤ m
    · have h1' : (k : Int) + (n : Int) ≤ (m : Int) := by omega
      have HM : Hid (m = r) := by have := HN.out; unfold Hid; omega
      clear hr
      go_enter Tryd.func77, Tryd.ntmps77
      go_wp2_with fail
      exact bodyPost_ret (v := .tuple #[]) (by simp [results, Tryd.results77, go_sem]) rfl ⟨rfl, by rw [← HM.out]; exact HS.out, grown_refl _ _⟩
    · have h1' : ¬ (k : Int) + (n : Int) ≤ (m : Int) := by omega
      by_cases hz : n = 0
      · have hz1 : ((n : Int) == 0) = true := by simp [hz]
        have HM : Hid (k = r) := by
          have h0 : ts = [] := List.eq_nil_of_length_eq_zero (by rw [HN.out, hz])
          rw [h0, om_nil] at hr
          unfold Hid; omega
        clear hr hz
        go_enter Tryd.func77, Tryd.ntmps77
        go_wp2_with fail
        exact bodyPost_ret (v := .tuple #[]) (by simp [results, Tryd.results77, go_sem]) rfl ⟨rfl, by rw [← HM.out]; exact heap_setCell_same _ _ _ _ _ _ HS.out, grown_setCell (grown_refl _ _) _⟩
      · have hz1 : ((n : Int) == 0) = false := by simp [hz]
        have hgl : gb < w.heap.size := (Array.getElem?_eq_some_iff.1 HS.out).1
        have h0l : 0 < ts.length := by rw [HN.out]; omega
        obtain ⟨t0, ht0⟩ : ∃ t0, ts[0] = t0 := ⟨_, rfl⟩
        have ht0s : t0.size = L := by rw [← ht0]; exact HE.out _ (List.getElem_mem _)
        have x0 := HC.out 0 h0l
        rw [ht0, Nat.add_zero] at x0
        obtain ⟨R, hRd⟩ : ∃ R : Nat → List ByteArray, ∀ i, R i = fitR d t0 ((ts.take i).drop 1) := ⟨_, fun _ => rfl⟩
        have hR1 : R 1 = [] := by
          rw [hRd]
          have : (ts.take 1).drop 1 = [] := List.drop_eq_nil_of_le (by rw [List.length_take]; omega)
          rw [this]; rfl
        have hRn : R n = fitR d t0 (ts.drop 1) := by rw [hRd, List.take_of_length_le (by rw [HN.out]; omega)]
        have hRs : ∀ i (h : i < ts.length), 1 ≤ i → R (i + 1) = if fitB d t0 ts[i] = true then R i ++ [ts[i]] else R i := fun i h h1 => by
          rw [hRd, hRd]
          unfold fitR
          rw [List.take_add_one, List.getElem?_eq_getElem h, List.drop_append_of_le_length (by rw [List.length_take]; omega), List.filter_append]
          by_cases hf : fitB d t0 ts[i] = true
          · rw [if_pos hf]; simp [hf]
          · rw [if_neg hf]; simp [hf]
        have hRl : ∀ i, 1 ≤ i → (R i).length ≤ i - 1 := fun i h1 => by
          rw [hRd]
          have h2 := List.length_filter_le (fitB d t0) ((ts.take i).drop 1)
          unfold fitR
          rw [List.length_drop, List.length_take] at h2
          omega
        have hRe : ∀ i, ∀ u ∈ R i, u.size = L := fun i u hu => by
          rw [hRd] at hu
          exact HE.out u (List.mem_of_mem_take (List.mem_of_mem_drop (List.mem_filter.1 hu).1))
        have hts : ts = t0 :: ts.drop 1 := by rw [← ht0]; exact head_tail h0l
        have HMX : Hid (max (max m (k + 1 + om (fitB d) (R n))) (k + om (fitB d) (ts.drop 1)) = r) := by
          have e : om (fitB d) ts = max (1 + om (fitB d) (R n)) (om (fitB d) (ts.drop 1)) := by
            conv => lhs; rw [hts, om_cons]
            rw [hRn]; rfl
          unfold Hid; omega
        have HRS := Lib.hid hRs
        have HR1 := Lib.hid hR1
        have HRL := Lib.hid hRl
        have HRE := Lib.hid hRe
        have hn1 : 1 ≤ n := by omega
        clear hr hz hRd hR1 hRn hRs hRl hRe hts ht0 h0l
        go_enter Tryd.func77, Tryd.ntmps77
        go_wp2
        go_loopw [6, 7] (fun q iv wr => ∃ (i mo bo co : Nat), 1 ≤ i ∧ i ≤ n ∧ iv = .int .i64 (i : Int) ∧ q = .slice (some ⟨bo, 0, none⟩) mo co ∧ Hid ((R i).length = mo) ∧ Hid (Below w.heap.size w wr) ∧ Hid (wr.ownsRow w.heap.size 9 1 (.slice (some ⟨bo, 0, none⟩) mo co) mo ((R i).map Value.string))) (fun _ iv _ => n - (intOf iv).toNat)
        case atStart => exact ⟨1, 0, _, _, by omega, by omega, rfl, rfl, by unfold Hid; rw [HR1.out]; rfl, (by repeat (first | exact Below.refl _ _ | refine Below.alloc ?_ (by simp; try omega) _ | refine Below.setCell ?_ (by simp; try omega) _)), by unfold Hid; rw [HR1.out]; simpa using World.ownsRow_made w #[] 0 (Nat.le_refl _) (by unfold maxLen; omega) rfl⟩
        case round =>
          obtain ⟨i, mo, bo, co, hi1, hi, rfl, rfl, HMO, HBW, HO⟩ := hrel
          have hm31 := HRL.out i hi1
          rw [HMO.out] at hm31
          have q0' := (HBW.out.cell (p := ⟨gb, 0, none⟩) hgl).trans q0
          have x0' := (HBW.out.cell (p := ⟨b, off, none⟩) hbl).trans x0
          by_cases hlt : i < n
          · have hil : i < ts.length := by rw [HN.out]; exact hlt
            have x1 := (HBW.out.cell (p := ⟨b, off + i, none⟩) hbl).trans (HC.out i hil)
            have hsz := HE.out _ (List.getElem_mem hil)
            have HST := Lib.hid (HRS.out i hil hi1)
            generalize ts[i] = u at x1 hsz HST
            have hF := fun W => l05Far_any t0 u (by omega) (by omega) W
            have hk0 : (0 : Int) ≤ (i : Int) := by omega
            have hk1 : (i : Int) < (n : Int) := by omega
            have hn0 : (0 : Int) < (n : Int) := by omega
            have hn0' : 0 < n := by omega
            by_cases hf : d ≤ ((farL (bl t0) (bl u) : Nat) : Int)
            · have HE2 : Hid (R (i + 1) = R i ++ [u]) := by
                have := HST.out
                rw [if_pos (by unfold fitB; exact decide_eq_true hf)] at this
                exact this
              generalize farL (bl t0) (bl u) = fl at hF hf
              have hfd : decide (d ≤ (fl : Int)) = true := by simp [hf]
              clear HST
              go_wp2_with fail
              go_quiet (first | (go_at_call 51; refine Calls.mono (hF _) ?_; rintro e w1 ⟨rfl, q, rfl⟩; exact ⟨rfl, _, World.drewN_drewN _ _ _⟩))
              have BQ : Hid (Below w.heap.size w (wr.drewN nq)) := Below.drewN' HBW.out nq
              have OQ : Hid ((wr.drewN nq).ownsRow w.heap.size 9 1 (.slice (some ⟨bo, 0, none⟩) mo co) mo ((R i).map Value.string)) := HO.out
              have x1q : (wr.drewN nq).cell? ⟨b, off + i, none⟩ = some (.string u) := x1
              generalize wr.drewN nq = wq at BQ OQ x1q
              generalize hxo : (R i).map Value.string = xo at OQ
              have HXO := Lib.hid hxo
              clear hxo
              have HGO : Hid (∀ q, (Value.slice (some ⟨bo, 0, none⟩) mo co).ownBlock = some q → w.heap.size ≤ q) := fun q hq => (OQ.out.lt q hq).1
              have hzq := BQ.out.size
              go_wp2_with (first | (at_builtin; refine wpList_append_lies _ rfl _ _ 24 rfl w.heap.size 9 HI.out.choose (.string ByteArray.empty) 1 16 Tryd.underlying24 HI.out.choose_spec.1 HI.out.choose_spec.2.1 HI.out.choose_spec.2.2.1 HI.out.choose_spec.2.2.2 rfl (by decide) (.slice (some ⟨bo, 0, none⟩) mo co) mo xo rfl (OQ.out.alloc _) ⟨wq.heap.size, 0, none⟩ 1 1 [.string u] rfl rfl ?_ (by intro u hu; simp at hu; subst hu; rfl) (by omega) (by unfold maxLen; omega) (by omega) (by simp; omega) _ rfl ?_; (next => (intro j u hj; match j, hj with | 0, hj => (simp at hj; subst hj; simp [Addr.add, go_sem])))))
              intro g10 cap10 w10 hown10 hgrow10 _ _
              have B10 : Hid (Below w.heap.size w w10) := (BQ.out.alloc hzq _).grown hgrow10 (by simp; omega) HGO.out
              have O10 : Hid (w10.ownsRow w.heap.size 9 1 (.slice (some ⟨g10, 0, none⟩) (mo + 1) cap10) (mo + 1) ((R (i + 1)).map Value.string)) := by
                unfold Hid; rw [HE2.out, List.map_append, HXO.out]; exact hown10
              have M10 : Hid ((R (i + 1)).length = mo + 1) := by unfold Hid; rw [HE2.out, List.length_append, HMO.out]; rfl
              clear hown10 hgrow10
              go_wp2
              go_roundw
              case rel => exact ⟨i + 1, mo + 1, g10, cap10, by omega, by omega, by go_num, rfl, M10.out, B10.out, O10.out⟩
              case measure => simp [intOf]; omega
            · have HE2 : Hid (R (i + 1) = R i) := by
                have := HST.out
                rw [if_neg (by unfold fitB; simp; omega)] at this
                exact this
              generalize farL (bl t0) (bl u) = fl at hF hf
              have hfd : decide (d ≤ (fl : Int)) = false := by simp; omega
              clear HST
              go_wp2_with fail
              go_quiet (first | (go_at_call 51; refine Calls.mono (hF _) ?_; rintro e w1 ⟨rfl, q, rfl⟩; exact ⟨rfl, _, World.drewN_drewN _ _ _⟩))
              go_wp2
              go_roundw
              case rel => exact ⟨i + 1, mo, bo, co, by omega, by omega, by go_num, rfl, by unfold Hid; rw [HE2.out]; exact HMO.out, Below.drewN' HBW.out _, by unfold Hid; rw [HE2.out]; exact HO.out⟩
              case measure => simp [intOf]; omega
          · have hin : i = n := by omega
            subst hin
            have hgo := HO.out.lt bo rfl
            have HRB : Hid (bo ≠ gb) := by unfold Hid; omega
            have hcap2 : mo ≤ co ∧ co ≤ 9223372036854775807 := by
              rcases HO.out.2 with ⟨hv, _⟩ | ⟨g', cap', cur, hv, _, _, h1, h2, _⟩
              · simp at hv
              · simp at hv
                unfold maxLen at h2
                omega
            have HSW : Hid (SpS d gb m wr) := (HBW.out.block gb hgl).trans HS.out
            have HBX : Hid (Below w0.heap.size w0 wr) := HB.out.trans (HBW.out.mono (by have := HB.out.size; omega))
            have HR1C := IH.out mo (by omega) (R i) HMO.out (by omega) (HRE.out i) (k + 1) m bo 0 co wr (by omega) hm hcap2.1 hcap2.2 HRB.out hgo.2 HSW.out HBX.out (fun j hj => by rw [Nat.zero_add]; exact row_cellD HO.out j hj)
            have e1 : ((k + 1 : Nat) : Int) = (k : Int) + 1 := by omega
            rw [e1] at HR1C
            have hom1 := om_len (fitB d) (R i)
            rw [HMO.out] at hom1
            generalize hmm : max m (k + 1 + om (fitB d) (R i)) = m2 at HR1C HMX
            have hm2 : m2 ≤ 33 := by omega
            clear e1 hom1 hmm q0' x0'
            go_wp2_with fail
            refine HR1C.mono ?_
            rintro e w3 ⟨rfl, hs3, hg3⟩
            have HG3 := Lib.hid hg3
            have HB3 : Hid (Below w0.heap.size w0 w3) := HBX.out.grown hg3 HBX.out.size (fun q hq => by injection hq with hq; omega)
            have hg0 : w.grownBy w3 (some gb) := ⟨hg3.os.trans HBW.out.os, hg3.tape.trans HBW.out.tape, hg3.output.trans HBW.out.output, Nat.le_trans HBW.out.size hg3.size, fun q hq hqne => (hg3.block q (Nat.lt_of_lt_of_le hq HBW.out.size) hqne).trans (HBW.out.block q hq)⟩
            have HG0 := Lib.hid hg0
            have hb3 : b < w3.heap.size := Nat.lt_of_lt_of_le hbl hg0.size
            have HC3 : Hid (∀ j (h : j < ts.length), w3.cell? ⟨b, off + j, none⟩ = some (.string ts[j])) := fun j h => (World.cell?_of_block (w := w) (hg0.block b hbl (by simp; omega))).trans (HC.out j h)
            have HS3 := Lib.hid hs3
            have hlen : (ts.drop 1).length = i - 1 := by rw [List.length_drop, HN.out]
            have hsz1 : ∀ t ∈ ts.drop 1, t.size = L := fun t ht => HE.out t (List.mem_of_mem_drop ht)
            clear hs3 hg3 hg0
            by_cases hca : ca = 1
            · have h1i : i = 1 := by omega
              subst hca h1i
              have hRC := IH.out 0 (by omega) (ts.drop 1) (by rw [hlen]) (by omega) hsz1 k m2 b off 0 w3 (by omega) hm2 (by omega) (by omega) hne hb3 HS3.out HB3.out (fun j hj => by rw [hlen] at hj; omega)
              rw [HMX.out] at hRC
              go_wp2_with fail
              refine hRC.mono ?_
              rintro e w4 ⟨rfl, hs4, hg4⟩
              go_wp2_with fail
              exact bodyPost_ret (v := .tuple #[]) (by simp [results, Tryd.results77, go_sem]) rfl ⟨rfl, hs4, gb_trans HG0.out hg4⟩
            · have hca2 : 1 < ca := by omega
              have hRC := IH.out (i - 1) (by omega) (ts.drop 1) hlen (by omega) hsz1 k m2 b (off + 1) (ca - 1) w3 (by omega) hm2 (by omega) (by omega) hne hb3 HS3.out HB3.out (fun j hj => by
                rw [hlen] at hj
                have := HC3.out (j + 1) (by rw [HN.out]; omega)
                rw [List.getElem_drop]
                have e2 : off + 1 + j = off + (j + 1) := by omega
                rw [e2, this]
                congr 2
                congr 1
                omega)
              rw [HMX.out] at hRC
              go_wp2_with fail
              refine hRC.mono ?_
              rintro e w4 ⟨rfl, hs4, hg4⟩
              go_wp2_with fail
              exact bodyPost_ret (v := .tuple #[]) (by simp [results, Tryd.results77, go_sem]) rfl ⟨rfl, hs4, gb_trans HG0.out hg4⟩
end Go.Proofs.YtpkkibnpjhlfmaaDoor
