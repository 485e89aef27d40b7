/-
  The walk of the model's numbers of stations: l02Far.
-/
import Derived.Test.YtbndminegokffaaFarMath
import Derived.Test.YtbndminegokffaaNetCode
import Derived.Test.YtbndminegokffaaRowAt
import Derived.Deep.LoopGhost
namespace Go.Proofs.Ytbndminegokffaa
open Go.RowKit

theorem infoI64f : (Try.prog.info? 2).map (fun i => (i.zero, i.size, i.bytes)) = some (some (.int .i64 0), 1, 8) := by kernel_rfl
theorem made_ownF (w : World) (lo n : Nat) (hlo : lo ≤ w.heap.size) (hn : n ≤ 1000) : (w.alloc (.cells (madeCells #[.int .i64 0] n) 2)).ownsRow lo 2 1 (.slice (some ⟨w.heap.size, 0, none⟩) n n) n ((List.replicate n (0 : Int)).map (Value.int .i64)) := by
  refine ⟨by simp, .inr ⟨w.heap.size, n, _, rfl, hlo, heap_alloc_new w _, Nat.le_refl _, by unfold maxLen; omega, by rw [size_madeCells]; omega, ?_⟩⟩
  rw [toList_madeCells_one]
  simp
theorem own_ltF {w : World} {lo : Nat} {e : TypeId} {size g n cap : Nat} {xs : List Value} (h : w.ownsRow lo e size (.slice (some ⟨g, 0, none⟩) n cap) n xs) : g < w.heap.size := by
  rcases h.2 with ⟨hv, _⟩ | ⟨g', cap', cur, hv, hlo, hg, _⟩
  · injection hv with h1; exact absurd h1 (by simp)
  · injection hv with h1 h2 h3
    injection h1 with h1
    injection h1 with h1
    subst h1
    exact (Array.getElem?_eq_some_iff.1 hg).1
def negR (S k : Nat) : List Int := List.replicate k (-1) ++ List.replicate (S - k) 0
theorem negR_zero (S : Nat) : negR S 0 = List.replicate S 0 := by simp [negR]
theorem negR_end (S : Nat) : negR S S = List.replicate S (-1) := by simp [negR]
theorem negR_len {S k : Nat} (h : k ≤ S) : (negR S k).length = S := by simp [negR]; omega
theorem negR_set {S k : Nat} (h : k < S) : (negR S k).set k (-1) = negR S (k + 1) := by
  unfold negR
  obtain ⟨d, hd⟩ : ∃ d, S - k = d + 1 := ⟨S - k - 1, by omega⟩
  rw [List.set_append_right _ _ (by simp), List.length_replicate, Nat.sub_self, hd, show S - (k + 1) = d by omega, List.replicate_succ, List.set_cons_zero, List.replicate_succ', List.append_assoc]
  rfl
/-- The numbers of the stations, in memory of their own: none less than 0 just for those that reach 'to'. -/
def GivesFar (ts : List T3) (wo : Int) (S to : Nat) (w : World) (e : Ending) (w' : World) : Prop :=
  ∃ (l : List Int) (g : Nat), e = .returned (.slice (some ⟨g, 0, none⟩) S S) ∧ l.length = S ∧ (∀ v (h : v < l.length), (0 ≤ l[v]) ↔ Rch ts wo to v) ∧ Below w.heap.size w w' ∧ w'.ownsRow w.heap.size 2 1 (.slice (some ⟨g, 0, none⟩) S S) S (l.map (Value.int .i64))
theorem row_at {w : World} {lo : Nat} {e : TypeId} {g n cap : Nat} {l : List Int} (h : w.ownsRow lo e 1 (.slice (some ⟨g, 0, none⟩) n cap) n (l.map (Value.int .i64))) (k : Nat) (hk : k < l.length) : w.cell? ⟨g, k, none⟩ = some (.int .i64 l[k]) :=
  ownsRow_cell h k _ (by rw [List.getElem?_map, List.getElem?_eq_getElem hk]; rfl)

set_option maxRecDepth 20000 in
set_option maxHeartbeats 8000000 in
theorem l02Far_any (p S : Nat) (a : Option Addr) (ts : List T3) (n ca to : Nat) (wo : Int) (w : World) (hn : Hid (ts.length = n)) (ha : RT w a ts) (hnet : netB (S : Int) ts = true) (hto : to < S) (p0 : w.cell? ⟨p, 0, none⟩ = some (.int .i64 (S : Int))) (p1 : w.cell? ⟨p, 1, none⟩ = some (.slice a n ca)) :
    Calls Try.prog 29 #[.pointer (some ⟨p, 0, none⟩), .int .i64 (to : Int), .int .i64 wo] w (GivesFar ts wo S to w) := by
  obtain ⟨hs2, hs10, hn24, _⟩ := netB_parts hnet
  rw [hn.out] at hn24
  have hS : S ≤ 10 := by omega
  have HNAT : Hid (∀ i (hi : i < ts.length), ∃ f t : Nat, ts[i].1 = (f : Int) ∧ ts[i].2.1 = (t : Int) ∧ f < S ∧ t < S) := fun i hi => tube_nats hnet rfl i hi
  have HLEN : Hid (∀ i (hi : i < ts.length), 1 ≤ ts[i].2.2 ∧ ts[i].2.2 ≤ 2000) := fun i hi => by
    have := (netB_parts hnet).2.2.2 _ (List.getElem_mem hi)
    unfold tubeB at this
    have := of_decide_eq_true this
    omega
  obtain ⟨i0, hi, hz0, hz1, hz2⟩ := info_parts infoI64f
  have hmk := fun W => run_make_rowN (P := Try.prog) 28 2 i0 _ Try.underlying28 hi hz0 .i64 .i64 S S (Nat.le_refl _) (by rw [hz2]; omega) (by omega) W
  rw [hz1, show madeCells (Value.cells (.int .i64 0)) (S * 1) = madeCells #[.int .i64 0] S by rw [Nat.mul_one]; rfl] at hmk
  have hpl := World.block_lt_of_cell? w _ p0
  simp only at hpl
  have HP : Hid (∀ w', Below w.heap.size w w' → w'.cell? ⟨p, 0, none⟩ = some (.int .i64 (S : Int)) ∧ w'.cell? ⟨p, 1, none⟩ = some (.slice a n ca)) := fun w' h => ⟨(h.cell (p := ⟨p, 0, none⟩) hpl).trans p0, (h.cell (p := ⟨p, 1, none⟩) hpl).trans p1⟩
  have HA : Hid (∀ w', Below w.heap.size w w' → RT w' a ts) := fun w' h => ha.below h
  clear hi hz0 hz1 hz2 ha hnet p1
  go_enter Try.func29, Try.ntmps29
  go_wp2
  clear hmk p0
  have HO0 : Hid ((w.alloc (.cells (madeCells #[.int .i64 0] S) 2)).ownsRow w.heap.size 2 1 (.slice (some ⟨w.heap.size, 0, none⟩) S S) S ((negR S 0).map (Value.int .i64))) := by
    rw [negR_zero]; exact made_ownF w w.heap.size S (Nat.le_refl _) (by omega)
  go_loopw [8] (fun iv wr => ∃ k : Nat, k ≤ S ∧ iv = .int .i64 (k : Int) ∧ Hid (Below w.heap.size w wr) ∧ Hid (wr.ownsRow w.heap.size 2 1 (.slice (some ⟨w.heap.size, 0, none⟩) S S) S ((negR S k).map (Value.int .i64)))) (fun iv _ => S - (intOf iv).toNat)
  case atStart => exact ⟨0, by omega, rfl, (by repeat (first | exact Below.refl _ _ | refine Below.alloc ?_ (by simp; try omega) _ | refine Below.setCell ?_ (by simp; try omega) _)), HO0⟩
  case round =>
    clear HO0
    obtain ⟨k, hk, rfl, HB, HO⟩ := hrel
    by_cases hlt : k < S
    · have x1 := row_at HO.out k (by rw [negR_len hk]; exact hlt)
      have z1 := ownsRow_frozen HO.out k
      have hk0 : (0 : Int) ≤ (k : Int) := by omega
      have hk1 : (k : Int) < (S : Int) := by omega
      have HO2 : Hid ((wr.setCell ⟨w.heap.size, k, none⟩ (.int .i64 (-1))).ownsRow w.heap.size 2 1 (.slice (some ⟨w.heap.size, 0, none⟩) S S) S ((negR S (k + 1)).map (Value.int .i64))) := by
        rw [← negR_set hlt, List.map_set]
        exact ownsRow_set HO.out k _
      have HB2 : Hid (Below w.heap.size w (wr.setCell ⟨w.heap.size, k, none⟩ (.int .i64 (-1)))) := HB.out.setCell (Nat.le_refl _) _
      generalize (negR S k)[k]'(by rw [negR_len hk]; exact hlt) = old at x1
      go_wp2
      go_roundw
      case rel => exact ⟨k + 1, by omega, by go_num, HB2, HO2⟩
      case measure => simp [intOf]; omega
    · have hkS : k = S := by omega
      subst hkS
      have x1 := row_at HO.out to (by rw [negR_len (Nat.le_refl _)]; exact hto)
      have z1 := ownsRow_frozen HO.out to
      have HO2 : Hid ((wr.setCell ⟨w.heap.size, to, none⟩ (.int .i64 0)).ownsRow w.heap.size 2 1 (.slice (some ⟨w.heap.size, 0, none⟩) k k) k ((((List.replicate k (-1 : Int)).set to 0)).map (Value.int .i64))) := by
        rw [← negR_end, List.map_set]
        exact ownsRow_set HO.out to _
      have HB2 : Hid (Below w.heap.size w (wr.setCell ⟨w.heap.size, to, none⟩ (.int .i64 0))) := HB.out.setCell (Nat.le_refl _) _
      have HF0 := Lib.hid (far_start ts wo hto)
      generalize (negR k k)[to]'(by rw [negR_len (Nat.le_refl _)]; exact hto) = old at x1
      generalize (List.replicate k (-1 : Int)).set to 0 = l0 at HO2 HF0
      have ht0 : (0 : Int) ≤ (to : Int) := by omega
      have ht1 : (to : Int) < (k : Int) := by omega
      clear HO HB
      go_wp2
      clear x1 z1
      generalize wr.setCell ⟨w.heap.size, to, none⟩ (.int .i64 0) = w1 at HO2 HB2 ⊢
      go_loopg [9] ((pot l0).toNat + 1) (fun g mv wq => ∃ (l : List Int) (m : Bool), mv = .bool m ∧ Hid (FarI ts wo k to l) ∧ Hid (pot l + (if m = true then 1 else 0) ≤ (g : Int)) ∧ Hid (m = false → ∀ j, j < ts.length → ClosedAt ts wo l j) ∧ Hid (Below w.heap.size w wq) ∧ Hid (wq.ownsRow w.heap.size 2 1 (.slice (some ⟨w.heap.size, 0, none⟩) k k) k (l.map (Value.int .i64))))
      case atStart => exact ⟨l0, true, rfl, HF0, by have := pot_ge l0; unfold Hid; rw [if_pos rfl]; omega, fun h => (Bool.noConfusion h), HB2, HO2⟩
      case round =>
        clear HF0 HO2 HB2
        obtain ⟨go, hgo⟩ : ∃ g, g = gk := ⟨gk, rfl⟩
        subst hgo
        obtain ⟨wo1, hwo1⟩ : ∃ W, W = wr := ⟨wr, rfl⟩
        subst hwo1
        obtain ⟨l, m, rfl, HF, HG, HC, HB, HO⟩ := hrel
        cases m with
        | false =>
          have HR : Hid (GivesFar ts wo k to w (.returned (.slice (some ⟨w.heap.size, 0, none⟩) k k)) wo1) := ⟨l, w.heap.size, rfl, HF.out.len, far_end HF.out hto (HC.out rfl), HB.out, HO.out⟩
          go_wp2
          go_ret
          exact HR.out
        | true =>
          have HG2 : Hid (pot l + 1 ≤ (go : Int)) := by have h := HG.out; rw [if_pos rfl] at h; exact h
          clear HC HG
          go_wp2
          go_loopw [9, 10] (fun mv iv wr => ∃ (i : Nat) (l' : List Int) (m' : Bool), i ≤ n ∧ mv = .bool m' ∧ iv = .int .i64 (i : Int) ∧ Hid (FarI ts wo k to l') ∧ Hid (m' = false → l' = l ∧ ∀ j, j < i → ClosedAt ts wo l j) ∧ Hid (m' = true → pot l' < pot l) ∧ Hid (pot l' ≤ pot l) ∧ Hid (Below w.heap.size w wr) ∧ Hid (wr.ownsRow w.heap.size 2 1 (.slice (some ⟨w.heap.size, 0, none⟩) k k) k (l'.map (Value.int .i64)))) (fun _ iv _ => n - (intOf iv).toNat)
          case atStart => exact ⟨0, l, false, by omega, rfl, rfl, HF, fun _ => ⟨rfl, fun j hj => by omega⟩, fun h => (Bool.noConfusion h), Int.le_refl _, HB, HO⟩
          case round =>
            clear HF HB HO
            obtain ⟨i, l', m', hi, rfl, rfl, HF, HC, HD, HE, HB, HO⟩ := hrel
            have hgl := own_ltF HO.out
            have hws : w.heap.size ≤ wr.heap.size := HB.out.size
            obtain ⟨q0, q1⟩ := HP.out _ HB.out
            by_cases hlt : i < n
            · have hia : i < ts.length := by rw [hn.out]; exact hlt
              obtain ⟨ba, oa, rfl, hba, hca⟩ := (HA.out w (Below.refl _ _)).addr (by omega)
              obtain ⟨y1, y2, y3⟩ := hca i hia
              rw [← HB.out.cell (p := ⟨ba, _, none⟩) hba] at y1 y2 y3
              obtain ⟨f, t, ef, et, hf, ht⟩ := HNAT.out i hia
              have hlen := HLEN.out i hia
              have hll := HF.out.len
              have xf := row_at HO.out f (by rw [hll]; exact hf)
              have xt := row_at HO.out t (by rw [hll]; exact ht)
              have zf := ownsRow_frozen HO.out f
              have hlow := HF.out.low t (by rw [hll]; exact ht)
              have hhi := HF.out.hi t (by rw [hll]; exact ht)
              have hcn : cntN l' ≤ 10 := by have := cnt_le l'; rw [hll] at this; omega
              have HSTEP : Hid (¬ (i : Int) = wo → ¬ (l'[t]'(by rw [hll]; exact ht)) < 0 → ((l'[f]'(by rw [hll]; exact hf)) < 0 ∨ (l'[t]'(by rw [hll]; exact ht)) + ts[i].2.2 < (l'[f]'(by rw [hll]; exact hf))) → FarI ts wo k to (l'.set f ((l'[t]'(by rw [hll]; exact ht)) + ts[i].2.2)) ∧ pot (l'.set f ((l'[t]'(by rw [hll]; exact ht)) + ts[i].2.2)) < pot l') := fun h1 h2 h3 => far_step HF.out (by omega) hia h1 ef et (by rw [hll]; exact hf) (by rw [hll]; exact ht) hlen.1 hlen.2 h2 h3
              have HCL : Hid ((i : Int) = wo ∨ (l'[t]'(by rw [hll]; exact ht)) < 0 ∨ ¬ (l'[f]'(by rw [hll]; exact hf)) < 0 → ClosedAt ts wo l' i) := fun h _ hw f' t' e1 e2 h0 => by
                have e1' : f' = f := by omega
                have e2' : t' = t := by omega
                subst e1' e2'
                rw [getD_at (by rw [hll]; exact ht)] at h0
                rw [getD_at (by rw [hll]; exact hf)]
                omega
              have HSET : Hid (∀ x : Int, (wr.setCell ⟨w.heap.size, f, none⟩ (.int .i64 x)).ownsRow w.heap.size 2 1 (.slice (some ⟨w.heap.size, 0, none⟩) k k) k ((l'.set f x).map (Value.int .i64))) := fun x => by
                rw [List.map_set]; exact ownsRow_set HO.out f _
              generalize l'[t]'(by rw [hll]; exact ht) = vt at xt HSTEP HCL hlow hhi
              generalize l'[f]'(by rw [hll]; exact hf) = vf at xf HSTEP HCL
              generalize ts[i] = tb at y1 y2 y3 ef et hlen HSTEP
              obtain ⟨t1, t2, t3⟩ := tb
              dsimp only at y1 y2 y3 ef et hlen HSTEP
              subst ef et
              have hi0 : (0 : Int) ≤ (i : Int) := by omega
              have hi1 : (i : Int) < (n : Int) := by omega
              have hf0 : (0 : Int) ≤ (f : Int) := by omega
              have hf1 : (f : Int) < (k : Int) := by omega
              have ht0 : (0 : Int) ≤ (t : Int) := by omega
              have ht1 : (t : Int) < (k : Int) := by omega
              have hs1 : vt + t3 < 9223372036854775808 := by omega
              have hs2 : -9223372036854775808 ≤ vt + t3 := by omega
              clear hca hba hll hcn
              rcases eq_ways (i : Int) wo with ⟨⟨e1, e2⟩, e3⟩ | ⟨⟨e1, e2⟩, e3⟩
              · have HCI := Lib.hid (HCL.out (.inl e3))
                have HC2 : Hid (m' = false → l' = l ∧ ∀ j, j < i + 1 → ClosedAt ts wo l j) := fun h => ⟨(HC.out h).1, fun j hj => if e : j = i then (by subst e; have := HCI.out; rw [(HC.out h).1] at this; exact this) else (HC.out h).2 j (by omega)⟩
                have HB9 : Hid (∀ o, Below w.heap.size w (wr.alloc o)) := fun o => HB.out.alloc hws o
                have HO9 : Hid (∀ o, (wr.alloc o).ownsRow w.heap.size 2 1 (.slice (some ⟨w.heap.size, 0, none⟩) k k) k (l'.map (Value.int .i64))) := fun o => HO.out.alloc o
                clear HCL HSTEP HSET HC e3
                go_wp2
                go_roundw
                case rel => exact ⟨i + 1, l', m', by omega, rfl, by go_num, HF, HC2, HD, HE, HB9.out _, HO9.out _⟩
                case measure => simp [intOf]; omega
              · cases d1 : decide (vt < 0) with
                | true =>
                  have HCI := Lib.hid (HCL.out (.inr (.inl (of_decide_eq_true d1))))
                  have HC2 : Hid (m' = false → l' = l ∧ ∀ j, j < i + 1 → ClosedAt ts wo l j) := fun h => ⟨(HC.out h).1, fun j hj => if e : j = i then (by subst e; have := HCI.out; rw [(HC.out h).1] at this; exact this) else (HC.out h).2 j (by omega)⟩
                  have HB9 : Hid (∀ o, Below w.heap.size w (wr.alloc o)) := fun o => HB.out.alloc hws o
                  have HO9 : Hid (∀ o, (wr.alloc o).ownsRow w.heap.size 2 1 (.slice (some ⟨w.heap.size, 0, none⟩) k k) k (l'.map (Value.int .i64))) := fun o => HO.out.alloc o
                  clear HCL HSTEP HSET HC e3
                  go_wp2
                  go_roundw
                  case rel => exact ⟨i + 1, l', m', by omega, rfl, by go_num, HF, HC2, HD, HE, HB9.out _, HO9.out _⟩
                  case measure => simp [intOf]; omega
                | false =>
                  have hvt := of_decide_eq_false d1
                  have HB9 : Hid (∀ o, Below w.heap.size w (wr.alloc o).drew) := fun o => (HB.out.alloc hws o).drew
                  by_cases hup : vf < 0 ∨ vt + t3 < vf
                  · obtain ⟨hF2, hP2⟩ := HSTEP.out e3 hvt hup
                    have HF2 := Lib.hid hF2
                    have HD2 : Hid (pot (l'.set f (vt + t3)) < pot l) := Int.lt_of_lt_of_le hP2 HE.out
                    have HE2 : Hid (pot (l'.set f (vt + t3)) ≤ pot l) := Int.le_of_lt HD2.out
                    have HB8 : Hid (∀ o, Below w.heap.size w ((wr.alloc o).setCell ⟨w.heap.size, f, none⟩ (.int .i64 (vt + t3)))) := fun o => (HB.out.alloc hws o).setCell (Nat.le_refl _) _
                    have HO8 : Hid (∀ o q, (((wr.alloc o).setCell ⟨w.heap.size, f, none⟩ (.int .i64 (vt + t3))).drewN q).ownsRow w.heap.size 2 1 (.slice (some ⟨w.heap.size, 0, none⟩) k k) k ((l'.set f (vt + t3)).map (Value.int .i64))) := fun o _ => by
                      rw [List.map_set]; exact ownsRow_set (HO.out.alloc o) f _
                    have hw1 : IntKind.i64.wrap (vt + t3) = vt + t3 := IntWalk.i64_in _ (by omega)
                    clear HCL HSTEP HSET HC hF2 hP2 e3
                    cases d2 : decide (vf < 0) with
                    | true =>
                      clear hup
                      go_wp2
                      go_quiet (fail)
                      clear hw1
                      go_wp2
                      go_roundw
                      case rel => exact ⟨i + 1, l'.set f (vt + t3), true, by omega, rfl, by go_num, HF2, fun h => (Bool.noConfusion h), fun _ => HD2.out, HE2, Below.drewN' (HB8.out _) _, HO8.out _ _⟩
                      case measure => simp [intOf]; omega
                    | false =>
                      have d3 : decide (vt + t3 < vf) = true := decide_eq_true (hup.resolve_left (of_decide_eq_false d2))
                      clear hup
                      go_wp2
                      go_quiet (fail)
                      clear hw1
                      go_wp2
                      go_roundw
                      case rel => exact ⟨i + 1, l'.set f (vt + t3), true, by omega, rfl, by go_num, HF2, fun h => (Bool.noConfusion h), fun _ => HD2.out, HE2, Below.drewN' (HB8.out _) _, HO8.out _ _⟩
                      case measure => simp [intOf]; omega
                  · have hvf : ¬ vf < 0 := fun h => hup (.inl h)
                    have hvx : ¬ vt + t3 < vf := fun h => hup (.inr h)
                    have HCI := Lib.hid (HCL.out (.inr (.inr hvf)))
                    have HC2 : Hid (m' = false → l' = l ∧ ∀ j, j < i + 1 → ClosedAt ts wo l j) := fun h => ⟨(HC.out h).1, fun j hj => if e : j = i then (by subst e; have := HCI.out; rw [(HC.out h).1] at this; exact this) else (HC.out h).2 j (by omega)⟩
                    have d2 : decide (vf < 0) = false := decide_eq_false hvf
                    have d3 : decide (vt + t3 < vf) = false := decide_eq_false hvx
                    have HO9 : Hid (∀ o, (wr.alloc o).drew.ownsRow w.heap.size 2 1 (.slice (some ⟨w.heap.size, 0, none⟩) k k) k (l'.map (Value.int .i64))) := fun o => HO.out.alloc o
                    have hw1 : IntKind.i64.wrap (vt + t3) = vt + t3 := IntWalk.i64_in _ (by omega)
                    clear HCL HSTEP HSET HC e3 hup hvt hvf hvx
                    go_wp2
                    go_quiet (fail)
                    clear hw1
                    go_wp2
                    go_roundw
                    case rel => exact ⟨i + 1, l', m', by omega, rfl, by go_num, HF, HC2, HD, HE, Below.drewN' (HB.out.alloc hws _) _, HO.out.alloc _⟩
                    case measure => simp [intOf]; omega
            · have hin : i = n := by omega
              subst hin
              have HCF : Hid (m' = false → ∀ j, j < ts.length → ClosedAt ts wo l' j) := fun h j hj => by
                have := (HC.out h).2 j (by rw [hn.out] at hj; exact hj)
                rw [(HC.out h).1]; exact this
              have HGF : Hid (pot l' + (if m' = true then 1 else 0) ≤ ((go - 1 : Nat) : Int)) := by
                have h1 := HG2.out
                have h2 := HE.out
                have h3 := pot_ge l
                unfold Hid
                cases m' with
                | true => have h4 := HD.out rfl; rw [if_pos rfl]; omega
                | false => rw [if_neg (by simp)]; omega
              have hgo0 : 0 < go := by have h1 := HG2.out; have h3 := pot_ge l; omega
              clear HC HD HE HG2
              go_wp2
              go_roundg (go - 1)
              case measure => omega
              case rel => exact ⟨l', m', rfl, HF, HGF, HCF, HB, HO⟩
end Go.Proofs.Ytbndminegokffaa
