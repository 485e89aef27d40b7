/-
  Blowers: BestDay: the model's walk.
-/
import Derived.Test.YtiilgeoahpnkpaaBlowBd2
import Derived.Test.YtiilgeoahpnkpaaAppendFull
namespace Go.Proofs.Ytiilgeoahpnkpaa
open Go.RowKit

/-- An append to a slice that is full: a new row. -/
theorem wpList_append_full {P : Program} (w : World) {ops : Array Oper} {rest : List Oper} {o : Oper} {a : Act} {Q : Exit → Act → World → Prop} (hgd : o.guard = none) (s x : Operand) (t : TypeId)
    (ho : o.op = .call { callee := .builtin .append, args := #[s, x], argTypes := #[t, t] })
    (e : TypeId) (i : TypeInfo) (z : Value) (size bytes : Nat) (ht : P.underlying t = some (.slice e)) (hi : P.info? e = some i) (hz : i.zero = some z)
    (hsize : i.size = size) (hby : i.bytes = bytes) (hzs : z.cells.size = size)
    (a0 : Addr) (n : Nat) (olds : List Value) (hs : a.eval s = .slice (some a0) n n) (hol : olds.length = n * size) (holds : ∀ j u, olds[j]? = some u → w.cell? (a0.add j) = some u) (ho1 : ∀ u ∈ olds, u.oneCell' = true)
    (ad : Addr) (m c : Nat) (news : List Value) (hx : a.eval x = .slice (some ad) m c) (hl : news.length = m * size) (hnews : ∀ j u, news[j]? = some u → w.cell? (ad.add j) = some u) (h1 : ∀ u ∈ news, u.oneCell' = true)
    (hm : 0 < m) (h63 : n + m ≤ maxLen) (hbytes : (n + m) * bytes ≤ 140737488355328)
    (h : ∀ cap w', w'.ownsRow w.heap.size e size (.slice (some ⟨w.heap.size, 0, none⟩) (n + m) cap) (n + m) (olds ++ news) → Below w.heap.size w w' → wpList P ops Q rest (a.put o.dst (.slice (some ⟨w.heap.size, 0, none⟩) (n + m) cap)) w') : wpList P ops Q (o :: rest) a w :=
  wpList_plain hgd fun _ hK => by
    obtain ⟨cap, w', hr, h2, h3⟩ := run_append_new (P := P) w t o.type e i z size bytes ht hi hz hsize hby hzs a0 n olds hol holds ho1 ad m c news hl hnews h1 hm h63 hbytes
    unfold Oper.wp execOp
    simp only [ho, resolve, invoke, builtin, Sem.run_bind, Sem.run_pure, Result.andThen_ok, List.map_toArray, List.map_cons, List.map_nil, hs, hx, hr]
    exact hK _ _ (h cap w' h2 h3)
/-- Rows of N numbers each, read through a slice of slices. -/
def RowsV (W : World) (g N : Nat) (rs : List (List Int)) : Prop := ∀ k (h : k < rs.length), ∃ b c, W.cell? ⟨g, k, none⟩ = some (.slice (some ⟨b, 0, none⟩) N c) ∧ RI W (some ⟨b, 0, none⟩) rs[k]
theorem RowsV.below {W W' : World} {g N : Nat} {rs : List (List Int)} (h : RowsV W g N rs) (hB : Below W.heap.size W W') : RowsV W' g N rs := fun k hk => by
  obtain ⟨b, c, h1, h2⟩ := h k hk
  exact ⟨b, c, (hB.cell (p := ⟨g, k, none⟩) (World.block_lt_of_cell? W _ h1)).trans h1, h2.below hB⟩
/-- The cells of the rows. -/
theorem RowsV.vals {W : World} {g N : Nat} {rs : List (List Int)} (h : RowsV W g N rs) : ∃ vs : List Value, vs.length = rs.length ∧ (∀ j u, vs[j]? = some u → W.cell? ((⟨g, 0, none⟩ : Addr).add j) = some u) ∧ (∀ u ∈ vs, u.oneCell' = true) ∧ ∀ k (hk : k < rs.length), ∃ b c, vs[k]? = some (.slice (some ⟨b, 0, none⟩) N c) ∧ RI W (some ⟨b, 0, none⟩) rs[k] := by
  have hc : ∀ k (hk : k < rs.length), ((List.range rs.length).map fun k => (W.cell? ⟨g, k, none⟩).getD undef)[k]? = some ((W.cell? ⟨g, k, none⟩).getD undef) := fun k hk => by
    rw [List.getElem?_map, List.getElem?_range hk]; rfl
  refine ⟨(List.range rs.length).map fun k => (W.cell? ⟨g, k, none⟩).getD undef, by simp, fun j u hj => ?_, fun u hu => ?_, fun k hk => ?_⟩
  · have hlt : j < rs.length := by have := (List.getElem?_eq_some_iff.1 hj).1; simpa using this
    obtain ⟨b, c, h1, _⟩ := h j hlt
    rw [hc j hlt, h1] at hj
    rw [Addr.add_lit, Nat.zero_add, h1]
    exact hj
  · obtain ⟨k, hk, rfl⟩ := List.mem_map.1 hu
    obtain ⟨b, c, h1, _⟩ := h k (List.mem_range.1 hk)
    rw [h1]; rfl
  · obtain ⟨b, c, h1, h2⟩ := h k hk
    exact ⟨b, c, by rw [hc k hk, h1]; rfl, h2⟩
section
variable (ts : List TBlower) (ns : List Int)
def rowS (N i : Nat) : List Int := (List.range N).map (specD ts ns i)
def rowsS (N : Nat) : Nat → List (List Int)
  | 0 => [rowS ts ns N 0]
  | j + 1 => rowS ts ns N (j + 1) :: rowsS N j
end
variable {ts : List TBlower} {ns : List Int}
theorem rowS_len (N i : Nat) : (rowS ts ns N i).length = N := by simp [rowS]
theorem rowS_at {N i s : Nat} (h : s < (rowS ts ns N i).length) : (rowS ts ns N i)[s] = specD ts ns i s := by simp [rowS]
theorem rowsS_len (N : Nat) : ∀ j, (rowsS ts ns N j).length = j + 1
  | 0 => rfl
  | j + 1 => by rw [rowsS, List.length_cons, rowsS_len N j]
theorem rowsS_at {N : Nat} : ∀ {j k : Nat} (h : k < (rowsS ts ns N j).length), (rowsS ts ns N j)[k] = rowS ts ns N (j - k)
  | 0, k, h => by
    have : k = 0 := by simp [rowsS] at h; omega
    subst this; rfl
  | j + 1, 0, h => rfl
  | j + 1, k + 1, h => by
    have e : (rowsS ts ns N (j + 1))[k + 1] = (rowsS ts ns N j)[k]'(by rw [rowsS_len] at h ⊢; omega) := rfl
    rw [e, rowsS_at, Nat.add_sub_add_right]
/-- A number of a row. -/
theorem RowsV.read {W : World} {g N j k : Nat} (h : RowsV W g N (rowsS ts ns N j)) (hk : k ≤ j) : ∃ b c, W.cell? ⟨g, k, none⟩ = some (.slice (some ⟨b, 0, none⟩) N c) ∧ ∀ s, s < N → W.cell? ⟨b, s, none⟩ = some (.int .i64 (specD ts ns (j - k) s)) := by
  have hlt : k < (rowsS ts ns N j).length := by rw [rowsS_len]; omega
  obtain ⟨b, c, h1, h2⟩ := h k hlt
  refine ⟨b, c, h1, fun s hs => ?_⟩
  rw [rowsS_at] at h2
  obtain ⟨bb, ob, e, _, h3⟩ := h2.at_ s (by rw [rowS_len]; exact hs)
  injection e with e
  injection e with e1 e2
  subst e1 e2
  rw [rowS_at, Nat.zero_add] at h3
  exact h3
theorem RowsV.cons {W : World} {g N r cr cap : Nat} {lo : Nat} {T : TypeId} {row : List Int} {rs : List (List Int)} {vs : List Value} (ho : W.ownsRow lo T 1 (.slice (some ⟨g, 0, none⟩) (1 + rs.length) cap) (1 + rs.length) ([.slice (some ⟨r, 0, none⟩) N cr] ++ vs)) (hrow : RI W (some ⟨r, 0, none⟩) row) (hvs : ∀ k (hk : k < rs.length), ∃ b c, vs[k]? = some (.slice (some ⟨b, 0, none⟩) N c) ∧ RI W (some ⟨b, 0, none⟩) rs[k]) : RowsV W g N (row :: rs) := by
  intro k hk
  cases k with
  | zero => exact ⟨r, cr, ownsRow_cell ho 0 _ rfl, hrow⟩
  | succ k =>
    obtain ⟨b, c, h1, h2⟩ := hvs k (by simpa using hk)
    exact ⟨b, c, ownsRow_cell ho (k + 1) _ (by simpa using h1), h2⟩
theorem RI_zeros {W : World} {b N : Nat} (h : ∀ i, i < N → W.cell? ⟨b, i, none⟩ = some (.int .i64 0)) : RI W (some ⟨b, 0, none⟩) (rowS ts ns N 0) := by
  refine .inr ⟨b, 0, rfl, fun i hi => ?_⟩
  have hi' : i < N := by rw [rowS_len] at hi; exact hi
  rw [rowS_at, Nat.zero_add]
  exact h i hi'
theorem made_ownB (w : World) (lo n : Nat) (hlo : lo ≤ w.heap.size) (hn : n ≤ 1000) : (w.alloc (.cells (madeCells #[.int .i64 0] n) 2)).ownsRow lo 2 1 (.slice (some ⟨w.heap.size, 0, none⟩) n n) n ((rowS ts ns n 0).map (Value.int .i64)) := by
  have e : (rowS ts ns n 0).map (Value.int .i64) = List.replicate n (Value.int .i64 0) := by
    apply List.ext_getElem?
    intro i
    by_cases h : i < n
    · simp [rowS, specD, h]
    · simp [rowS, h]
  refine ⟨by simp [rowS_len], .inr ⟨w.heap.size, n, _, rfl, hlo, heap_alloc_new w _, Nat.le_refl _, by unfold maxLen; omega, by rw [size_madeCells]; omega, ?_⟩⟩
  rw [toList_madeCells_one, e]
  simp
theorem RowsV.first {w : World} {N : Nat} (h16 : N ≤ 16) : RowsV ((w.alloc (.cells (madeCells #[.int .i64 0] N) 2)).alloc (.cells #[.slice (some ⟨w.heap.size, 0, none⟩) N N] 25)) (w.heap.size + 1) N (rowsS ts ns N 0) := by
  intro k hk
  have : k = 0 := by simp [rowsS] at hk; omega
  subst this
  refine ⟨w.heap.size, N, by simp [go_sem], ?_⟩
  have ho := (made_ownB (ts := ts) (ns := ns) w w.heap.size N (Nat.le_refl _) (by omega)).alloc (.cells #[.slice (some ⟨w.heap.size, 0, none⟩) N N] 25)
  exact rowI_RI (show Hid ((rowS ts ns N 0).length = N) from rowS_len N 0) ho
theorem bestV_skip {p : Nat → Bool} {c : Nat → Int} {i : Nat} (h : p i = false) : bestV p c (i + 1) = bestV p c i := by rw [bestV, if_neg (fun q => by rw [h] at q; exact absurd q.1 (by decide))]
theorem bestV_take {p : Nat → Bool} {c : Nat → Int} {i : Nat} (h : p i = true) (h2 : bestV p c i < 0 ∨ c i < bestV p c i) : bestV p c (i + 1) = c i := by rw [bestV, if_pos ⟨h, h2⟩]
theorem bestV_keep {p : Nat → Bool} {c : Nat → Int} {i : Nat} (h2 : ¬ (bestV p c i < 0 ∨ c i < bestV p c i)) : bestV p c (i + 1) = bestV p c i := by rw [bestV, if_neg (fun q => h2 q.2)]
theorem infoRow : (Try.prog.info? 25).map (fun i => (i.zero, i.size, i.bytes)) = some (some (.slice none 0 0), 1, 24) := by kernel_rfl
set_option maxRecDepth 20000 in
set_option maxHeartbeats 8000000 in
theorem specBestDay_any (w : World) {a0 : Option Addr} {n0 c0 : Nat} (ts0 : List TBlower) (hn0 : Hid (ts0.length = n0)) (h0 : RR 3 cBlower w a0 ts0) (hs0 : n0 ≤ 1048576) (_wf0 : Hid (∀ t ∈ ts0, wfBlower t)) {a1 : Option Addr} {n1 c1 : Nat} (l1 : List Int) (hn1 : Hid (l1.length = n1)) (h1 : RI w a1 l1) (hs1 : n1 ≤ 1048576) (_wf1 : Hid (∀ k ∈ l1, (Lit.int .i64 k).wf = true)) :
    Calls Try.prog 19 #[.slice a0 n0 c0, .slice a1 n1 c1] w (GivesIs2 2 (dayOf ts0 l1) w) := by
  have OK := l11Ok_any a0 ts0 n0 c0 w hn0 h0 hs0
  have NE : Hid (∀ W, Below w.heap.size w W → Calls Try.prog 64 #[.slice a1 n1 c1] W fun e w' => e = .returned (.bool (neB l1)) ∧ W = w') := fun W hW => l11Needs_any a1 l1 n1 c1 W hn1 (h1.below hW) hs1
  have HA : Hid (∀ W, Below w.heap.size w W → RR 3 cBlower W a0 ts0 ∧ RI W a1 l1) := fun W h => ⟨h0.below h, h1.below h⟩
  clear h0 h1
  cases hv : blsB ts0 with
  | false =>
    rw [hv] at OK
    have HR : Hid (dayOf ts0 l1 = ([], 0, 1)) := by
      have e : ncode ts0 l1 = 1 := by unfold ncode bcode; rw [hv]; split <;> rfl
      unfold Hid; rw [dayOf_bad (by rw [e]; decide), e]
    clear hv HA NE
    go_enter Try.func19, Try.ntmps19
    go_wp2_with (first | (go_at_call 63; refine OK.mono ?_; rintro e w1 ⟨rfl, hb1⟩; have HB1 := Lib.hid hb1; clear hb1))
    go_ret3
    exact givesIs2_nil HR.out HB1.out
  | true =>
    rw [hv] at OK
    cases hne : neB l1 with
    | false =>
      rw [hne] at NE
      have HR : Hid (dayOf ts0 l1 = ([], 0, 1)) := by
        have e : ncode ts0 l1 = 1 := by unfold ncode; rw [hne]; rfl
        unfold Hid; rw [dayOf_bad (by rw [e]; decide), e]
      clear hv hne HA
      go_enter Try.func19, Try.ntmps19
      go_wp2_with (first | (go_at_call 63; refine OK.mono ?_; rintro e w1 ⟨rfl, hb1⟩; have HB1 := Lib.hid hb1; clear hb1) | (go_at_call 64; refine (NE.out _ HB1.out).mono ?_; rintro e w2 ⟨rfl, rfl⟩))
      go_ret3
      exact givesIs2_nil HR.out HB1.out
    | true =>
      rw [hne] at NE
      have hd : ncode ts0 l1 = 0 := by unfold ncode bcode; rw [if_pos hne, if_pos hv]
      have h4 : n0 ≤ 4 := by rw [← hn0.out]; exact (blsB_of hv).1
      have h24 : n1 ≤ 24 := by rw [← hn1.out]; exact (neB_of hne).1
      obtain ⟨e1, e2⟩ := shlI h4
      have hp1 := Nat.two_pow_pos n0
      have hp2 := pow_le16 h4
      have PW : Hid (∀ W, Below w.heap.size w W → ∀ s : Nat, s < 16 → Calls Try.prog 65 #[.slice a0 n0 c0, .int .i64 s] W fun e w' => e = .returned (.int .i64 (sumS (pwN ts0) s n0)) ∧ W = w') := fun W hW s hs => l11Power_any a0 ts0 n0 c0 s W hn0 (HA.out W hW).1 hv (by omega)
      have ST : Hid (∀ W, Below w.heap.size w W → ∀ bf s : Nat, bf < 16 → s < 16 → Calls Try.prog 66 #[.slice a0 n0 c0, .int .i64 bf, .int .i64 s] W fun e w' => e = .returned (.int .i64 (stepS ts0 bf s)) ∧ W = w') := fun W hW bf s hb hs => l11Step_any a0 ts0 n0 c0 bf s W hn0 (HA.out W hW).1 hv (by omega) (by omega)
      have HV := Lib.hid hv
      have HCD := Lib.hid hd
      have HNA : Hid (2 ^ n0 = allN ts0) := by unfold Hid allN; rw [hn0.out]
      clear hv hne hd
      generalize hN : 2 ^ n0 = N at e1 e2 hp1 hp2 HNA
      clear hN
      obtain ⟨i0, hi, hz0, hz1, hz2⟩ := info_parts infoI64
      have hmk := fun W => run_make_rowN (P := Try.prog) 25 2 i0 _ Try.underlying25 hi hz0 .i64 .i64 N N (Nat.le_refl _) (by rw [hz2]; omega) (by omega) W
      rw [hz1] at hmk
      have HI : Hid (∃ i0 : TypeInfo, Try.prog.info? 2 = some i0 ∧ i0.zero = some (.int .i64 0) ∧ i0.size = 1 ∧ i0.bytes = 8) := ⟨i0, hi, hz0, hz1, hz2⟩
      have HJ : Hid (∃ i0 : TypeInfo, Try.prog.info? 25 = some i0 ∧ i0.zero = some (.slice none 0 0) ∧ i0.size = 1 ∧ i0.bytes = 24) := info_parts infoRow
      clear hi hz0 hz1 hz2
      go_enter Try.func19, Try.ntmps19
      go_wp2_with (first | (go_at_call 63; refine OK.mono ?_; rintro e w1 ⟨rfl, hb1⟩; have HB1 := Lib.hid hb1; clear hb1) | (go_at_call 64; refine (NE.out _ HB1.out).mono ?_; rintro e w2 ⟨rfl, rfl⟩))
      have HROW : Hid (RowsV ((w1.alloc (.cells (madeCells #[.int .i64 0] N) 2)).alloc (.cells #[.slice (some ⟨w1.heap.size, 0, none⟩) N N] 25)) (w1.heap.size + 1) N (rowsS ts0 l1 N 0)) := RowsV.first hp2
      have HBA : Hid (Below w.heap.size w ((w1.alloc (.cells (madeCells #[.int .i64 0] N) 2)).alloc (.cells #[.slice (some ⟨w1.heap.size, 0, none⟩) N N] 25))) := (HB1.out.alloc HB1.out.size _).alloc (by have := HB1.out.size; simp; omega) _
      clear hmk
      go_loopw [8, 9] (fun rv iv wr => ∃ (h g cap M : Nat) (hv : Int), h ≤ n1 ∧ hv = (h : Int) - 1 ∧ iv = .int .i64 hv ∧ rv = .slice (some ⟨g, 0, none⟩) M cap ∧ (1 ≤ M ∧ M ≤ 25) ∧ Hid (M = n1 - h + 1) ∧ Hid (Below w.heap.size w wr) ∧ Hid (RowsV wr g N (rowsS ts0 l1 N (n1 - h)))) (fun _ iv _ => (intOf iv + 1).toNat)
      case atStart => exact ⟨n1, w1.heap.size + 1, 1, 1, (n1 : Int) - 1, Nat.le_refl _, rfl, rfl, rfl, by omega, by unfold Hid; omega, HBA, by unfold Hid; rw [Nat.sub_self]; exact HROW.out⟩
      case round =>
        obtain ⟨wo, hwo⟩ : ∃ wo, wo = wr := ⟨wr, rfl⟩
        subst hwo
        obtain ⟨h, g, cap, M, hv, hh, hhv, rfl, rfl, hM, HM, HBEL, HRO⟩ := hrel
        clear HROW HBA
        cases h with
        | zero =>
          have e : hv = -1 := by omega
          subst e
          clear hhv
          have HMN : Hid (M = n1 + 1) := by unfold Hid; rw [HM.out]; omega
          clear HM
          have hrr := HRO.out
          rw [Nat.sub_zero] at hrr
          have HRR := Lib.hid hrr
          obtain ⟨b0, cc, y0, hy1⟩ := HRR.out.read (k := 0) (by omega)
          have y1 := hy1 0 (by omega)
          rw [Nat.sub_zero] at y1
          clear hrr hy1 HRO
          have hn24 : l1.length ≤ 24 := by rw [hn1.out]; exact h24
          have HN24 := Lib.hid hn24
          cases hf : feasB ts0 l1 with
          | false =>
            have HR := Lib.hid (dayOf_none HCD.out hf)
            have hm1 := specD_bad HV.out (Nat.le_refl _) (feas_no hf) 0
            rw [hn1.out] at hm1
            rw [hm1] at y1
            clear hm1 hf
            go_wp2
            go_ret3
            exact givesIs2_nil HR.out HBEL.out
          | true =>
            have hr := dayOf_good HCD.out hf
            rw [hn1.out] at hr
            have HR := Lib.hid hr
            have HF := Lib.hid hf
            have HSR : Hid (∀ j, j ≤ n1 → ∀ b, specD ts0 l1 j b = restD ts0 l1 j b ∧ 0 ≤ restD ts0 l1 j b ∧ restD ts0 l1 j b ≤ 2000000) := fun j hj b => by
              have h1 := restD_bd HV.out HF.out j (by rw [hn1.out]; exact hj) (by omega) b
              exact ⟨specD_good HV.out HF.out HN24.out j (by rw [hn1.out]; exact hj) b, by omega, by omega⟩
            have hs0 := HSR.out n1 (Nat.le_refl _) 0
            rw [hs0.1] at y1
            have HCOST : Hid (specD ts0 l1 n1 0 = restD ts0 l1 n1 0) := hs0.1
            obtain ⟨_, hs1, hs2⟩ := hs0
            clear hr hf hn24
            have hy : ¬ restD ts0 l1 n1 0 < 0 := by omega
            go_wp2_with fail
            go_loopw [15, 16, 17] (fun ov bv iv wr => ∃ (h bf cp : Nat) (ao : Option Addr) (l : List Int), h ≤ n1 ∧ ov = .slice ao h cp ∧ bv = .int .i64 bf ∧ iv = .int .i64 h ∧ bf < N ∧ Hid (l = pathL ts0 l1 h) ∧ Hid (bf = pathB ts0 l1 h) ∧ Hid (Below wo.heap.size wo wr) ∧ Hid (wr.ownsRow wo.heap.size 2 1 (.slice ao h cp) h (l.map (Value.int .i64)))) (fun _ _ iv _ => n1 - (intOf iv).toNat)
            case atStart => exact ⟨0, 0, 0, _, [], by omega, rfl, rfl, rfl, by omega, rfl, rfl, (by repeat (first | exact Below.refl _ _ | refine Below.alloc ?_ (by simp; try omega) _ | refine Below.setCell ?_ (by simp; try omega) _)), World.ownsRow_made wo #[] 0 (Nat.le_refl _) (by unfold maxLen; omega) rfl⟩
            case round =>
              obtain ⟨wi, hwi⟩ : ∃ wi, wi = wr := ⟨wr, rfl⟩
              subst hwi
              obtain ⟨h, bf, cp, ao, l, hh, rfl, rfl, rfl, hbf, HL, HBF, HBI, HOW⟩ := hrel
              have HBW : Hid (Below w.heap.size w wi) := HBEL.out.trans (HBI.out.mono HBEL.out.size)
              have hwi := HBI.out.size
              clear y0 y1
              by_cases hlt : h < n1
              · have hhl : h < l1.length := by rw [hn1.out]; exact hlt
                obtain ⟨bb, ob, rfl, hbl, x1⟩ := (HA.out _ HBW.out).2.at_ h hhl
                rw [← getD_atI hhl] at x1
                obtain ⟨bA, cA, yA, hyA⟩ := (HRR.out.below HBI.out).read (k := h + 1) (by omega)
                obtain ⟨bV, cV, yV, hyV⟩ := (HRR.out.below HBI.out).read (k := h) (by omega)
                have yVV := hyV bf hbf
                have HYA := Lib.hid hyA
                obtain ⟨eV, hV0, hV2⟩ := HSR.out (n1 - h) (by omega) bf
                rw [eV] at yVV
                have hbest := best_got HV.out HF.out HN24.out hhl bf
                rw [hn1.out, ← HNA.out] at hbest
                have HBEST := Lib.hid hbest
                have HFIRST : Hid (∀ s, s < bestA ts0 l1 h bf → dayP ts0 l1 h s = true → dayC ts0 l1 h bf s ≠ restD ts0 l1 (n1 - h) bf) := fun s hs hp => by
                  have := best_first HV.out HF.out HN24.out hhl bf hs hp
                  rw [hn1.out] at this
                  exact this
                have HL2 : Hid (l ++ [((bestA ts0 l1 h bf : Nat) : Int)] = pathL ts0 l1 (h + 1)) := by unfold Hid; rw [pathL_succ, HL.out, HBF.out]
                have HBF2 : Hid (bestA ts0 l1 h bf = pathB ts0 l1 (h + 1)) := by unfold Hid; rw [HBF.out]; rfl
                have HDC : Hid (∀ s, dayC ts0 l1 h bf s = stepS ts0 bf s + restD ts0 l1 (n1 - (h + 1)) s) := fun s => by unfold dayC; rw [hn1.out]
                have HDP : Hid (∀ s, dayP ts0 l1 h s = decide (l1.getD h 0 ≤ sumS (pwN ts0) s n0)) := fun s => by unfold dayP pwB; rw [hn0.out]
                have hSN := hbest.2.2
                generalize bestA ts0 l1 h bf = S at HBEST HFIRST HL2 HBF2 hSN
                generalize restD ts0 l1 (n1 - h) bf = V at yVV hV0 hV2 HBEST HFIRST
                have hh0 : (0 : Int) ≤ (h : Int) := by omega
                have hh1 : (h : Int) < (n1 : Int) := by omega
                have hhM : (h : Int) < (M : Int) := by { have := HMN.out; omega }
                have hhM1 : (h : Int) + 1 < (M : Int) := by { have := HMN.out; omega }
                have hb0 : (0 : Int) ≤ (bf : Int) := by omega
                have hb1 : (bf : Int) < (N : Int) := by omega
                clear hyA hyV hbest
                go_wp2_with fail
                go_loopw [15, 16, 18] (fun ov bv sv wj => ∃ s q : Nat, s ≤ S ∧ sv = .int .i64 s ∧ ov = .slice ao h cp ∧ bv = .int .i64 bf ∧ wj = wi.drewN q) (fun _ _ sv _ => N - (intOf sv).toNat)
                case atStart => exact ⟨0, 0, by omega, rfl, rfl, rfl, rfl⟩
                case round =>
                  obtain ⟨s, q, hsS, rfl, rfl, rfl, rfl⟩ := hrel
                  have hsN : s < N := by omega
                  have hs0 : (0 : Int) ≤ (s : Int) := by omega
                  have hs1 : (s : Int) < (N : Int) := by omega
                  have yAA := HYA.out s hsN
                  obtain ⟨eA, hA0, hA2⟩ := HSR.out (n1 - (h + 1)) (by omega) s
                  rw [eA] at yAA
                  have hst := stepS_bd HV.out bf s
                  have PWS := Lib.hid (fun q => PW.out _ (Below.drewN' HBW.out q) s (by omega))
                  have STS := Lib.hid (fun q => ST.out _ (Below.drewN' HBW.out q) bf s (by omega) (by omega))
                  have HDCs := Lib.hid (HDC.out s)
                  have HDPs := Lib.hid (HDP.out s)
                  generalize restD ts0 l1 (n1 - (h + 1)) s = A at yAA hA0 hA2 HDCs
                  generalize sumS (pwN ts0) s n0 = p at HDPs PWS
                  generalize l1.getD h 0 = f at x1 HDPs
                  generalize stepS ts0 bf s = st at hst STS HDCs
                  have hw := wrI (x := st + A) (by omega)
                  have hd2 : decide (0 ≤ A) = true := decide_eq_true hA0
                  by_cases hpf : f ≤ p
                  · have hd1 : decide (f ≤ p) = true := decide_eq_true hpf
                    have hdp : Hid (dayP ts0 l1 h s = true) := by unfold Hid; rw [HDPs.out]; exact hd1
                    rcases eq_ways (st + A) V with ⟨⟨k1, k2⟩, hav⟩ | ⟨⟨k1, k2⟩, hav⟩
                    · have hsS2 : s = S := by
                        by_cases hlt2 : s < S
                        · exact absurd (by rw [HDCs.out]; exact hav) (HFIRST.out s hlt2 hdp.out)
                        · omega
                      subst hsS2
                      clear hav HDCs HDPs HFIRST
                      have HOA : Hid (∀ q o, ((wi.drewN q).alloc o).ownsRow wo.heap.size 2 1 (.slice ao h cp) h (l.map (Value.int .i64))) := fun q o => (own_keptB HOW.out (Below.drewN' (Below.refl _ _) q)).alloc o
                      have HGE : Hid (∀ q, (Value.slice ao h cp).ownBlock = some q → wo.heap.size ≤ q) := fun q hq => (HOW.out.lt q hq).1
                      have HBQ : Hid (∀ q, Below wo.heap.size wo (wi.drewN q)) := fun q => Below.drewN' HBI.out q
                      go_wp2_with fail
                      go_big_quiet (first | (go_at_call 65; refine (PWS.out _).mono ?_; rintro e w4 ⟨rfl, rfl⟩; exact ⟨rfl, _, rfl⟩) | (go_at_call 66; refine (STS.out _).mono ?_; rintro e w4 ⟨rfl, rfl⟩; exact ⟨rfl, _, rfl⟩))
                      go_wp2_with (at_builtin; refine wpList_append_lies _ rfl _ _ 25 rfl wo.heap.size 2 HI.out.choose (.int .i64 0) 1 8 Try.underlying25 HI.out.choose_spec.1 HI.out.choose_spec.2.1 HI.out.choose_spec.2.2.1 HI.out.choose_spec.2.2.2 rfl (by decide) (.slice ao h cp) h (l.map (Value.int .i64)) rfl (HOA.out _ _) ⟨wi.heap.size, 0, none⟩ 1 1 [.int .i64 (s : Int)] rfl rfl ?_ (by intro u hu; simp at hu; subst hu; rfl) (by omega) (by unfold maxLen; omega) (by omega) (by simp; omega) (wi.heap.size + 1) (by simp) ?_)
                      · intro j u hj
                        match j, hj with
                        | 0, hj =>
                          simp at hj; subst hj
                          rw [Addr.add_lit]
                          exact (cell_of_row _ _ _ _ _ _ (heap_alloc_new (wi.drewN _) _)).trans rfl
                      intro g' cap' w3 hown1 hgrow hat hlt2
                      have B5 : Hid (Below wo.heap.size wo w3) := Below.grown ((HBQ.out _).alloc (by simp; omega) _) hgrow (by simp; omega) HGE.out
                      have O1 : Hid (w3.ownsRow wo.heap.size 2 1 (.slice (some ⟨g', 0, none⟩) (h + 1) cap') (h + 1) ((l ++ [(s : Int)]).map (Value.int .i64))) := by
                        unfold Hid; rw [List.map_append]; exact hown1
                      clear hown1 hgrow hat hlt2 HOA HGE
                      go_wp2
                      go_roundw
                      case rel => exact ⟨h + 1, s, cap', _, l ++ [(s : Int)], by omega, rfl, rfl, by go_num, hSN, HL2, HBF2, B5, O1⟩
                      case measure => simp [intOf]; omega
                    · have hne : s ≠ S := fun e => by
                        subst e
                        apply hav
                        rw [← HDCs.out]
                        exact HBEST.out.1.symm
                      clear hav HDCs HDPs
                      go_wp2_with fail
                      go_big_quiet (first | (go_at_call 65; refine (PWS.out _).mono ?_; rintro e w4 ⟨rfl, rfl⟩; exact ⟨rfl, _, rfl⟩) | (go_at_call 66; refine (STS.out _).mono ?_; rintro e w4 ⟨rfl, rfl⟩; exact ⟨rfl, _, rfl⟩))
                      go_wp2
                      go_roundw
                      case rel => exact ⟨s + 1, _, by omega, by go_num, rfl, rfl, rfl⟩
                      case measure => simp [intOf]; omega
                  · have hd1 : decide (f ≤ p) = false := decide_eq_false hpf
                    have hne : s ≠ S := fun e => by
                      subst e
                      have h3 := HBEST.out.2.1
                      rw [HDPs.out, hd1] at h3
                      cases h3
                    clear HDCs HDPs
                    go_wp2_with fail
                    go_big_quiet (first | (go_at_call 65; refine (PWS.out _).mono ?_; rintro e w4 ⟨rfl, rfl⟩; exact ⟨rfl, _, rfl⟩))
                    go_wp2
                    go_roundw
                    case rel => exact ⟨s + 1, _, by omega, by go_num, rfl, rfl, rfl⟩
                    case measure => simp [intOf]; omega
              · have hkm : h = n1 := by omega
                subst hkm
                obtain ⟨b0, cc, y0, hy1⟩ := (HRR.out.below HBI.out).read (k := 0) (by omega)
                have y1 := hy1 0 (by omega)
                rw [Nat.sub_zero, HCOST.out] at y1
                clear hy1
                go_wp2_with fail
                go_big_quiet (fail)
                go_wp2
                go_ret3
                rw [HL.out] at HOW
                exact givesIs2_of HR.out (Below.drewN' HBW.out _) (pathL_len h) (own_lo (own_keptB HOW.out (Below.drewN' (Below.refl _ _) _)) HBEL.out.size)
        | succ h =>
          have e : hv = (h : Int) := by omega
          subst e
          clear hhv
          obtain ⟨j, hj⟩ : ∃ j, n1 - (h + 1) = j := ⟨_, rfl⟩
          rw [hj] at HM HRO
          have hj1 : n1 - h = j + 1 := by omega
          have HJ1 := Lib.hid hj1
          have hHj : l1.length - 1 - j = h := by rw [hn1.out]; omega
          have HHJ := Lib.hid hHj
          have hjl : Hid (j ≤ l1.length) := by unfold Hid; rw [hn1.out]; omega
          clear hj hj1 hHj
          have hws := HBEL.out.size
          go_wp2_with fail
          go_loopw [10, 11] (fun rv bv wi => ∃ (k cp : Nat) (ao : Option Addr) (l : List Int), k ≤ N ∧ rv = .slice ao k cp ∧ bv = .int .i64 k ∧ Hid (l = (List.range k).map (specD ts0 l1 (j + 1))) ∧ Hid (Below wo.heap.size wo wi) ∧ Hid (wi.ownsRow wo.heap.size 2 1 (.slice ao k cp) k (l.map (Value.int .i64)))) (fun _ bv _ => N - (intOf bv).toNat)
          case atStart => exact ⟨0, 0, _, [], by omega, rfl, rfl, rfl, (by repeat (first | exact Below.refl _ _ | refine Below.alloc ?_ (by simp; try omega) _ | refine Below.setCell ?_ (by simp; try omega) _)), World.ownsRow_made wo #[] 0 (Nat.le_refl _) (by unfold maxLen; omega) rfl⟩
          case round =>
            obtain ⟨wi, hwi⟩ : ∃ wi, wi = wr := ⟨wr, rfl⟩
            subst hwi
            obtain ⟨k, cp, ao, l, hk, rfl, rfl, HL, HBI, HOW⟩ := hrel
            have HBW : Hid (Below w.heap.size w wi) := HBEL.out.trans (HBI.out.mono hws)
            have hwi := HBI.out.size
            by_cases hkN : k < N
            · have hk0 : (0 : Int) ≤ (k : Int) := by omega
              have hk1 : (k : Int) < (N : Int) := by omega
              go_wp2_with fail
              go_loopw [12, 13] (fun xv sv wj => ∃ (s q : Nat) (x : Int), s ≤ N ∧ sv = .int .i64 s ∧ xv = .int .i64 x ∧ wj = wi.drewN q ∧ (-1 ≤ x ∧ x ≤ 3000000) ∧ Hid (x = bestV (fun s => dayP ts0 l1 h s && decide (0 ≤ specD ts0 l1 j s)) (fun s => stepS ts0 k s + specD ts0 l1 j s) s)) (fun _ sv _ => N - (intOf sv).toNat)
              case atStart => exact ⟨0, 0, -1, by omega, rfl, rfl, rfl, by omega, rfl⟩
              case round =>
                obtain ⟨s, q, x, hs, rfl, rfl, rfl, hx, HX⟩ := hrel
                by_cases hsN : s < N
                · have hs0 : (0 : Int) ≤ (s : Int) := by omega
                  have hs1 : (s : Int) < (N : Int) := by omega
                  have HBQ : Hid (∀ q, Below w.heap.size w (wi.drewN q)) := fun q => Below.drewN' HBW.out q
                  obtain ⟨b0, cc, y0, hy1⟩ := (HRO.out.below HBI.out).read (k := 0) (by omega)
                  have y1 := hy1 s hsN
                  rw [Nat.sub_zero] at y1
                  have hhl : h < l1.length := by rw [hn1.out]; omega
                  obtain ⟨bb, ob, rfl, hbl, x1⟩ := (HA.out _ HBW.out).2.at_ h hhl
                  rw [← getD_atI hhl] at x1
                  have hh0 : (0 : Int) ≤ (h : Int) := by omega
                  have hh1 : (h : Int) < (n1 : Int) := by omega
                  have hA := specD_bd (ts := ts0) (ns := l1) HV.out (by rw [hn1.out]; exact h24) (j := j) hjl.out s
                  have hst := stepS_bd HV.out k s
                  have HPB : Hid (dayP ts0 l1 h s = decide (l1.getD h 0 ≤ sumS (pwN ts0) s n0)) := by unfold Hid dayP pwB; rw [hn0.out]
                  have PWS := Lib.hid (fun q => PW.out _ (HBQ.out q) s (by omega))
                  have STS := Lib.hid (fun q => ST.out _ (HBQ.out q) k s (by omega) (by omega))
                  have HSK : Hid (dayP ts0 l1 h s = false ∨ ¬ 0 ≤ specD ts0 l1 j s → x = bestV (fun s => dayP ts0 l1 h s && decide (0 ≤ specD ts0 l1 j s)) (fun s => stepS ts0 k s + specD ts0 l1 j s) (s + 1)) := fun hor => by
                    rw [bestV_skip (by rcases hor with h1 | h1 <;> simp [h1] <;> omega), HX.out]
                  have HTK : Hid (dayP ts0 l1 h s = true → 0 ≤ specD ts0 l1 j s → (x < 0 ∨ stepS ts0 k s + specD ts0 l1 j s < x) → stepS ts0 k s + specD ts0 l1 j s = bestV (fun s => dayP ts0 l1 h s && decide (0 ≤ specD ts0 l1 j s)) (fun s => stepS ts0 k s + specD ts0 l1 j s) (s + 1)) := fun h1 h2 h3 => by
                    rw [bestV_take (by simp [h1, h2]) (by rw [← HX.out]; exact h3)]
                  have HKP : Hid (¬ (x < 0 ∨ stepS ts0 k s + specD ts0 l1 j s < x) → x = bestV (fun s => dayP ts0 l1 h s && decide (0 ≤ specD ts0 l1 j s)) (fun s => stepS ts0 k s + specD ts0 l1 j s) (s + 1)) := fun h3 => by
                    rw [bestV_keep (by rw [← HX.out]; exact h3), HX.out]
                  generalize specD ts0 l1 j s = A at y1 hA HSK HTK HKP
                  generalize sumS (pwN ts0) s n0 = p at HPB PWS
                  generalize l1.getD h 0 = f at x1 HPB
                  generalize stepS ts0 k s = st at hst STS HTK HKP
                  clear hy1 HX
                  by_cases hpf : p < f
                  · have hd1 : decide (p < f) = true := decide_eq_true hpf
                    have HX2 := Lib.hid (HSK.out (.inl (by rw [HPB.out]; exact decide_eq_false (by omega))))
                    clear HSK HTK HKP STS HPB
                    go_wp2_with fail
                    go_big_quiet (first | (go_at_call 65; refine (PWS.out _).mono ?_; rintro e w4 ⟨rfl, rfl⟩; exact ⟨rfl, _, rfl⟩))
                    go_wp2
                    go_roundw
                    case rel => exact ⟨s + 1, _, x, by omega, by go_num, rfl, rfl, hx, HX2⟩
                    case measure => simp [intOf]; omega
                  · have hd1 : decide (p < f) = false := decide_eq_false hpf
                    by_cases hA0 : A < 0
                    · have hd2 : decide (A < 0) = true := decide_eq_true hA0
                      have HX2 := Lib.hid (HSK.out (.inr (by omega)))
                      clear HSK HTK HKP STS HPB
                      go_wp2_with fail
                      go_big_quiet (first | (go_at_call 65; refine (PWS.out _).mono ?_; rintro e w4 ⟨rfl, rfl⟩; exact ⟨rfl, _, rfl⟩))
                      go_wp2
                      go_roundw
                      case rel => exact ⟨s + 1, _, x, by omega, by go_num, rfl, rfl, hx, HX2⟩
                      case measure => simp [intOf]; omega
                    · have hd2 : decide (A < 0) = false := decide_eq_false hA0
                      have hdp : Hid (dayP ts0 l1 h s = true) := by unfold Hid; rw [HPB.out]; exact decide_eq_true (by omega)
                      have hw := wrI (x := st + A) (by omega)
                      by_cases hor : x < 0 ∨ st + A < x
                      · have HX2 := Lib.hid (HTK.out hdp.out (by omega) hor)
                        clear HSK HTK HKP HPB
                        rcases hor with hx0 | hx1
                        · go_wp2_with fail
                          go_big_quiet (first | (go_at_call 65; refine (PWS.out _).mono ?_; rintro e w4 ⟨rfl, rfl⟩; exact ⟨rfl, _, rfl⟩))
                          go_wp2
                          go_big_quiet (first | (go_at_call 66; refine (STS.out _).mono ?_; rintro e w4 ⟨rfl, rfl⟩; exact ⟨rfl, _, rfl⟩))
                          go_wp2
                          go_roundw
                          case rel => exact ⟨s + 1, _, st + A, by omega, by go_num, rfl, rfl, by omega, HX2⟩
                          case measure => simp [intOf]; omega
                        · by_cases hx0 : x < 0
                          · go_wp2_with fail
                            go_big_quiet (first | (go_at_call 65; refine (PWS.out _).mono ?_; rintro e w4 ⟨rfl, rfl⟩; exact ⟨rfl, _, rfl⟩))
                            go_wp2
                            go_big_quiet (first | (go_at_call 66; refine (STS.out _).mono ?_; rintro e w4 ⟨rfl, rfl⟩; exact ⟨rfl, _, rfl⟩))
                            go_wp2
                            go_roundw
                            case rel => exact ⟨s + 1, _, st + A, by omega, by go_num, rfl, rfl, by omega, HX2⟩
                            case measure => simp [intOf]; omega
                          · go_wp2_with fail
                            go_big_quiet (first | (go_at_call 65; refine (PWS.out _).mono ?_; rintro e w4 ⟨rfl, rfl⟩; exact ⟨rfl, _, rfl⟩))
                            go_wp2
                            go_big_quiet (first | (go_at_call 66; refine (STS.out _).mono ?_; rintro e w4 ⟨rfl, rfl⟩; exact ⟨rfl, _, rfl⟩))
                            go_wp2
                            go_roundw
                            case rel => exact ⟨s + 1, _, st + A, by omega, by go_num, rfl, rfl, by omega, HX2⟩
                            case measure => simp [intOf]; omega
                      · have HX2 := Lib.hid (HKP.out hor)
                        have hx0 : ¬ x < 0 := fun q => hor (.inl q)
                        have hx1 : ¬ st + A < x := fun q => hor (.inr q)
                        clear HSK HTK HKP HPB hor
                        go_wp2_with fail
                        go_big_quiet (first | (go_at_call 65; refine (PWS.out _).mono ?_; rintro e w4 ⟨rfl, rfl⟩; exact ⟨rfl, _, rfl⟩))
                        go_wp2
                        go_big_quiet (first | (go_at_call 66; refine (STS.out _).mono ?_; rintro e w4 ⟨rfl, rfl⟩; exact ⟨rfl, _, rfl⟩))
                        go_wp2
                        go_roundw
                        case rel => exact ⟨s + 1, _, x, by omega, by go_num, rfl, rfl, hx, HX2⟩
                        case measure => simp [intOf]; omega
                · have hsn : s = N := by omega
                  subst hsn
                  have HXS : Hid (x = specD ts0 l1 (j + 1) k) := by unfold Hid; rw [specD, HHJ.out, ← HNA.out, HX.out]
                  have HL2 : Hid (l ++ [x] = (List.range (k + 1)).map (specD ts0 l1 (j + 1))) := by unfold Hid; rw [List.range_succ, List.map_append, ← HL.out, HXS.out]; rfl
                  have HOA : Hid (∀ o, ((wi.drewN q).alloc o).ownsRow wo.heap.size 2 1 (.slice ao k cp) k (l.map (Value.int .i64))) := fun o => (own_keptB HOW.out (Below.drewN' (Below.refl _ _) q)).alloc o
                  have HGE : Hid (∀ q, (Value.slice ao k cp).ownBlock = some q → wo.heap.size ≤ q) := fun q hq => (HOW.out.lt q hq).1
                  have HBQ : Hid (Below wo.heap.size wo (wi.drewN q)) := Below.drewN' HBI.out q
                  clear HX HXS
                  go_wp2_with (at_builtin; refine wpList_append_lies _ rfl _ _ 25 rfl wo.heap.size 2 HI.out.choose (.int .i64 0) 1 8 Try.underlying25 HI.out.choose_spec.1 HI.out.choose_spec.2.1 HI.out.choose_spec.2.2.1 HI.out.choose_spec.2.2.2 rfl (by decide) (.slice ao k cp) k (l.map (Value.int .i64)) rfl (HOA.out _) ⟨wi.heap.size, 0, none⟩ 1 1 [.int .i64 x] rfl rfl ?_ (by intro u hu; simp at hu; subst hu; rfl) (by omega) (by unfold maxLen; omega) (by omega) (by simp; omega) (wi.heap.size + 1) (by simp) ?_)
                  · intro j u hj
                    match j, hj with
                    | 0, hj =>
                      simp at hj; subst hj
                      rw [Addr.add_lit]
                      exact (cell_of_row _ _ _ _ _ _ (heap_alloc_new (wi.drewN q) _)).trans rfl
                  intro g' cap' w3 hown1 hgrow hat hlt2
                  have B5 : Hid (Below wo.heap.size wo w3) := Below.grown (by repeat (first | exact HBQ.out | refine Below.alloc ?_ (by first | omega | (simp; done) | (simp; omega)) _ | refine Below.setCell ?_ (by first | omega | (simp; done) | (simp; omega)) _)) hgrow (by simp; omega) HGE.out
                  have O1 : Hid (w3.ownsRow wo.heap.size 2 1 (.slice (some ⟨g', 0, none⟩) (k + 1) cap') (k + 1) ((l ++ [x]).map (Value.int .i64))) := by
                    unfold Hid; rw [List.map_append]; exact hown1
                  clear hown1 hgrow hat hlt2 HOA HGE
                  go_wp2
                  go_roundw
                  case rel => exact ⟨k + 1, cap', _, l ++ [x], by omega, rfl, by go_num, HL2, B5, O1⟩
                  case measure => simp [intOf]; omega
            · have hkn : k = N := by omega
              subst hkn
              obtain ⟨r, cr, hv, hr1, hr2⟩ := HOW.out.form (by omega)
              injection hv with hv1 hv2 hv3
              subst hv1 hv3
              have hlrow : l = rowS ts0 l1 k (j + 1) := HL.out
              subst hlrow
              have hrow := (rowI_RI (show Hid ((rowS ts0 l1 k (j + 1)).length = k) from rowS_len k (j + 1)) HOW.out)
              have hR2 := (HRO.out.below HBI.out).below ((Below.refl _ _).alloc (Nat.le_refl _) (.cells #[.slice (some ⟨r, 0, none⟩) k cp] 25))
              have hrow2 := hrow.below ((Below.refl _ _).alloc (Nat.le_refl _) (.cells #[.slice (some ⟨r, 0, none⟩) k cp] 25))
              obtain ⟨vs, hvl, hvc, hv1, hvr⟩ := hR2.vals
              have hml : M = j + 1 := HM.out
              rw [rowsS_len, ← hml] at hvl
              have HVL := Lib.hid hvl
              have HVC := Lib.hid hvc
              have HV1 := Lib.hid hv1
              have HNXT : Hid (∀ (w5 : World) (cap' : Nat), w5.ownsRow (wi.heap.size + 1) 25 1 (.slice (some ⟨wi.heap.size + 1, 0, none⟩) (1 + M) cap') (1 + M) ([.slice (some ⟨r, 0, none⟩) k cp] ++ vs) → Below (wi.heap.size + 1) (wi.alloc (.cells #[.slice (some ⟨r, 0, none⟩) k cp] 25)) w5 → RowsV w5 (wi.heap.size + 1) k (rowsS ts0 l1 k (n1 - h))) := fun w5 cap' ho hb => by
                have hb' : Below (wi.alloc (.cells #[.slice (some ⟨r, 0, none⟩) k cp] 25)).heap.size (wi.alloc (.cells #[.slice (some ⟨r, 0, none⟩) k cp] 25)) w5 := hb.mono (by simp)
                rw [HJ1.out]
                have e : M = (rowsS ts0 l1 k j).length := by rw [rowsS_len, hml]
                rw [e] at ho
                exact RowsV.cons ho (hrow2.below hb') fun q hq => by
                  obtain ⟨b, c, k1, k2⟩ := hvr q hq
                  exact ⟨b, c, k1, k2.below hb'⟩
              have hMH : Hid (1 + M = n1 - h + 1) := by unfold Hid; rw [HJ1.out, hml]; omega
              have hw1 := wrI (x := (h : Int) - 1) (by omega)
              have hM25 : Hid (1 + M ≤ 25) := by unfold Hid; have := HJ1.out; omega
              have HOLD : Hid (∀ j u, [Value.slice (some ⟨r, 0, none⟩) k cp][j]? = some u → (wi.alloc (.cells #[.slice (some ⟨r, 0, none⟩) k cp] 25)).cell? ((⟨wi.heap.size, 0, none⟩ : Addr).add j) = some u) := by
                intro j u hj
                match j, hj with
                | 0, hj => (simp at hj; subst hj; simp [Addr.add, go_sem])
              clear hml hrow hrow2 hR2 hvl hvc hv1 hvr HL
              go_wp2_with (at_builtin; refine wpList_append_full _ rfl _ _ 75 rfl 25 HJ.out.choose (.slice none 0 0) 1 24 Try.underlying75 HJ.out.choose_spec.1 HJ.out.choose_spec.2.1 HJ.out.choose_spec.2.2.1 HJ.out.choose_spec.2.2.2 rfl ⟨wi.heap.size, 0, none⟩ 1 [.slice (some ⟨r, 0, none⟩) k cp] rfl rfl HOLD.out (by intro u hu; simp at hu; subst hu; rfl) ⟨g, 0, none⟩ M cap vs rfl (by rw [HVL.out, Nat.mul_one]) HVC.out HV1.out (by omega) (by unfold maxLen; omega) (by omega) ?_)
              intro cap' w5 hown5 hb5
              have hsz : (wi.alloc (.cells #[.slice (some ⟨r, 0, none⟩) k cp] 25)).heap.size = wi.heap.size + 1 := by simp
              (try rw [hsz] at hown5)
              (try rw [hsz] at hb5)
              have HR5 := Lib.hid (HNXT.out w5 cap' hown5 hb5)
              have HB5 : Hid (Below w.heap.size w w5) := (HBW.out.alloc HBW.out.size _).trans (hb5.mono (by have := HBW.out.size; omega))
              have hzz := hsz
              clear hown5 hb5 HNXT HVL HVC HV1 hzz hsz
              go_wp2
              go_roundw
              case rel => exact ⟨h, wi.heap.size + 1, cap', 1 + M, (h : Int) - 1, by omega, rfl, by first | rfl | rw [hw1], by go_num, ⟨by omega, hM25.out⟩, hMH, HB5, HR5⟩
              case measure => simp [intOf]
end Go.Proofs.Ytiilgeoahpnkpaa
