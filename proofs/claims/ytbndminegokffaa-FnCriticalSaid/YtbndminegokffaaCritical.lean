/-
  CriticalTubes: a network without a tube; the model's walk and the program's.
-/
import Derived.Test.YtbndminegokffaaIsStrong
import Derived.Test.YtbndminegokffaaConcat
namespace Go.Proofs.Ytbndminegokffaa
open Go.RowKit

theorem RT.at3 {w : World} {a : Option Addr} {ts : List T3} (h : RT w a ts) (hp : 0 < ts.length) : ∃ b off, a = some ⟨b, off, none⟩ ∧ b < w.heap.size ∧ ∀ W, Below w.heap.size w W → ∀ i (h : i < ts.length), W.cell? ⟨b, off + i * 3, none⟩ = some (.int .i64 ts[i].1) ∧ W.cell? ⟨b, off + i * 3 + 1, none⟩ = some (.int .i64 ts[i].2.1) ∧ W.cell? ⟨b, off + i * 3 + 2, none⟩ = some (.int .i64 ts[i].2.2) := by
  obtain ⟨b, off, ha, hb, hc⟩ := h.addr hp
  refine ⟨b, off, ha, hb, fun W hW i hi => ?_⟩
  obtain ⟨h1, h2, h3⟩ := hc i hi
  exact ⟨(hW.cell (p := ⟨b, _, none⟩) hb).trans h1, (hW.cell (p := ⟨b, _, none⟩) hb).trans h2, (hW.cell (p := ⟨b, _, none⟩) hb).trans h3⟩
/-- The tubes but one. -/
def outT (ts : List T3) (i : Nat) : List T3 := ts.take i ++ ts.drop (i + 1)
theorem outT_len {ts : List T3} {i n : Nat} (hn : ts.length = n) (hi : i < n) : (outT ts i).length = n - 1 := by
  unfold outT
  rw [List.length_append, List.length_take, List.length_drop]
  omega
theorem ownn_set1 {w : World} {lo n g cap : Nat} {e : TypeId} {size : Nat} {xs : List Value} (h : w.ownsRow lo e size (.slice (some ⟨g, 0, none⟩) n cap) n xs) {b : Nat} (hb : b < lo) (o : Nat) (u : Value) : (w.setCell ⟨b, o, none⟩ u).ownsRow lo e size (.slice (some ⟨g, 0, none⟩) n cap) n xs := by
  have hg : w.grownBy (w.setCell ⟨b, o, none⟩ u) (some b) := ⟨rfl, rfl, rfl, by simp, fun j _ hj => heap_setCell_other _ _ _ _ (fun e => hj (by rw [e]))⟩
  have hge := own_ge h
  exact h.kept hg (.inr (by simp only [Value.ownBlock]; intro e; first | (injection e with e; omega) | omega))
theorem newsT {w : World} {ba oa : Nat} {ts : List T3} (h : ∀ W, Below w.heap.size w W → ∀ i (h : i < ts.length), W.cell? ⟨ba, oa + i * 3, none⟩ = some (.int .i64 ts[i].1) ∧ W.cell? ⟨ba, oa + i * 3 + 1, none⟩ = some (.int .i64 ts[i].2.1) ∧ W.cell? ⟨ba, oa + i * 3 + 2, none⟩ = some (.int .i64 ts[i].2.2)) (k : Nat) :
    (∀ W, Below w.heap.size w W → ∀ j u, (flat (ts.take k))[j]? = some u → W.cell? ((⟨ba, oa, none⟩ : Addr).add j) = some u) ∧ (∀ W, Below w.heap.size w W → ∀ j u, (flat (ts.drop k))[j]? = some u → W.cell? ((⟨ba, oa + k * 3, none⟩ : Addr).add j) = some u) := by
  refine ⟨fun W hW => RT_newsC fun i hi => ?_, fun W hW => RT_newsC fun i hi => ?_⟩
  · rw [List.getElem_take]
    exact h W hW i (by rw [List.length_take] at hi; omega)
  · rw [List.getElem_drop, Nat.add_assoc oa, ← Nat.add_mul]
    exact h W hW (k + i) (by rw [List.length_drop] at hi; omega)
set_option maxRecDepth 20000 in
set_option maxHeartbeats 4000000 in
theorem withoutTube_any (S i : Nat) (a : Option Addr) (ts : List T3) (n ca : Nat) (w : World) (hn : Hid (ts.length = n)) (ha : RT w a ts) (hcap : n ≤ ca) (hi : i < n) (hn2 : 2 ≤ n) (hn24 : n ≤ 24) :
    Calls Try.prog 17 #[.agg #[.int .i64 (S : Int), .slice a n ca], .int .i64 (i : Int)] w fun e w' => ∃ g cap, e = .returned (.agg #[.int .i64 (S : Int), .slice (some ⟨g, 0, none⟩) (n - 1) cap]) ∧ Below w.heap.size w w' ∧ RT w' (some ⟨g, 0, none⟩) (outT ts i) := by
  obtain ⟨ba, oa, rfl, hba, hcb⟩ := ha.at3 (by rw [hn.out]; omega)
  obtain ⟨n0, n1⟩ := newsT hcb (i + 1)
  obtain ⟨n2, _⟩ := newsT hcb i
  have NEW0 := Lib.hid n2
  have HL0 : Hid ((ts.take i).length = i) := by unfold Hid; rw [List.length_take, hn.out]; omega
  have HL1 : Hid ((ts.drop (i + 1)).length = n - (i + 1)) := by unfold Hid; rw [List.length_drop, hn.out]
  have hi0 : (0 : Int) ≤ (i : Int) := by omega
  have hi1 : (i : Int) < (n : Int) := by omega
  have hi2 : (i : Int) + 1 ≤ (n : Int) := by omega
  have hi4 : (i : Int) ≤ (n : Int) := by omega
  have hi5 : (0 : Int) ≤ (i : Int) + 1 := by omega
  have hi6 : i ≤ n := by omega
  have hi7 : i + 1 ≤ n := by omega
  have hw1 : IntKind.i64.wrap ((i : Int) + 1) = (i : Int) + 1 := IntWalk.i64_in _ (by omega)
  clear ha n0 n2
  have hc4 : (n : Int) ≤ (ca : Int) := by omega
  have hc5 : (i : Int) + 1 ≤ (ca : Int) := by omega
  have hc6 : (i : Int) ≤ (ca : Int) := by omega
  have hc7 : i ≤ ca := by omega
  have hc8 : i + 1 ≤ ca := by omega
  by_cases hlast : i + 1 = ca
  · have NEW1 : Hid (∀ W, Below w.heap.size w W → ∀ j u, (flat (ts.drop (i + 1)))[j]? = some u → W.cell? ((⟨ba, oa, none⟩ : Addr).add j) = some u) := fun W _ j u hj => by
      rw [List.drop_of_length_le (by rw [hn.out]; omega)] at hj
      simp [flat] at hj
    obtain rfl : n = ca := by omega
    have hw2 : IntKind.i64.wrap ((i : Int) + 1) = (n : Int) := by rw [hw1]; omega
    have HLZ : Hid ((ts.drop (i + 1)).length = 0) := by unfold Hid; rw [List.length_drop, hn.out]; omega
    clear n1 hcb hw1
    go_enter Try.func17, Try.ntmps17
    go_wp2_with fail
    go_region_held3 (fun w' => w'.cell? ⟨w.heap.size, 0, none⟩ = some (.int .i64 (S : Int)) ∧ w'.cell? ⟨w.heap.size, 1, none⟩ = some (.slice (some ⟨ba, oa, none⟩) n n)) (first | (refine ⟨?_, ?_⟩ <;> simp [go_sem]; done) | exact ⟨d0, d1⟩ | (refine ⟨?_, ?_⟩ <;> simp [go_sem, d0, d1]; done)) (first | (go_at_call 26; refine (concat_any _ _ ⟨ba, oa, none⟩ ⟨ba, oa, none⟩ (ts.take i) (ts.drop (i + 1)) i 0 n 0 _ HL0 HLZ (by omega) (by omega) (by simp [go_sem]) (by first | (simp [go_sem]; done) | (simp [go_sem]; omega)) (fun W hW => NEW0.out W (two_worldsC (by (repeat (first | exact Below.refl _ _ | refine Below.drew ?_ | refine Below.drewN' ?_ _ | refine Below.alloc ?_ (by first | (simp; done) | (simp; omega)) _ | refine Below.setCell ?_ (by first | (simp; done) | (simp; omega)) _)); done) hW)) (fun W hW => NEW1.out W (two_worldsC (by (repeat (first | exact Below.refl _ _ | refine Below.drew ?_ | refine Below.drewN' ?_ _ | refine Below.alloc ?_ (by first | (simp; done) | (simp; omega)) _ | refine Below.setCell ?_ (by first | (simp; done) | (simp; omega)) _)); done) hW))).mono ?_; rintro e w5 ⟨g, cap, rfl, hb5, ho5⟩; have d0 : w5.cell? ⟨w.heap.size, 0, none⟩ = some (.int .i64 (S : Int)) := (hb5.cell (p := ⟨w.heap.size, 0, none⟩) (by simp; omega)).trans (by simp [go_sem]); have d1 : w5.cell? ⟨w.heap.size, 1, none⟩ = some (.slice (some ⟨ba, oa, none⟩) n n) := (hb5.cell (p := ⟨w.heap.size, 1, none⟩) (by simp; omega)).trans (by simp [go_sem]); have d2 : w5.cell? ⟨w.heap.size + 1, 0, none⟩ = some (.int .i64 0) := (hb5.cell (p := ⟨w.heap.size + 1, 0, none⟩) (by simp)).trans (by simp [go_sem]); have d3 : w5.cell? ⟨w.heap.size + 1, 1, none⟩ = some (.slice none 0 0) := (hb5.cell (p := ⟨w.heap.size + 1, 1, none⟩) (by simp)).trans (by simp [go_sem]); have d4 : w5.frozen? ⟨w.heap.size + 1, 0, none⟩ = false := ((bcell hb5).2 (w.heap.size + 1) 0 (by simp)).trans (by simp [go_sem]); have d5 : w5.frozen? ⟨w.heap.size + 1, 1, none⟩ = false := ((bcell hb5).2 (w.heap.size + 1) 1 (by simp)).trans (by simp [go_sem])))
    all_goals
      have hbw5 : Below w.heap.size w w5 := two_worldsC (by (repeat (first | exact Below.refl _ _ | refine Below.drew ?_ | refine Below.drewN' ?_ _ | refine Below.alloc ?_ (by first | (simp; done) | (simp; omega)) _ | refine Below.setCell ?_ (by first | (simp; done) | (simp; omega)) _)); done) hb5
      have HR : Hid (∃ g' cap', (Ending.returned (.agg #[.int .i64 (S : Int), .slice (some ⟨g, 0, none⟩) i cap]) : Ending) = .returned (.agg #[.int .i64 (S : Int), .slice (some ⟨g', 0, none⟩) (n - 1) cap']) ∧ Below w.heap.size w ((w5.setCell ⟨w.heap.size + 1, 0, none⟩ (.int .i64 (S : Int))).setCell ⟨w.heap.size + 1, 1, none⟩ (.slice (some ⟨g, 0, none⟩) i cap)) ∧ RT ((w5.setCell ⟨w.heap.size + 1, 0, none⟩ (.int .i64 (S : Int))).setCell ⟨w.heap.size + 1, 1, none⟩ (.slice (some ⟨g, 0, none⟩) i cap)) (some ⟨g', 0, none⟩) (outT ts i)) := by
        have e9 : i = n - 1 := by omega
        have hgb := own_ge ho5
        simp at hgb
        refine ⟨g, cap, by rw [← e9], (hbw5.setCell (by show w.heap.size ≤ w.heap.size + 1; omega) _).setCell (by show w.heap.size ≤ w.heap.size + 1; omega) _, ?_⟩
        have ho6 := ownn_set1 (ownn_set1 ho5 (b := w.heap.size + 1) (by simp; try omega) 0 (.int .i64 (S : Int))) (b := w.heap.size + 1) (by simp; try omega) 1 (.slice (some ⟨g, 0, none⟩) (i) cap)
        exact row_RT (by unfold Hid; rw [outT_len hn.out hi]; omega) ho6
      clear ho5 hb5 d4 d5
      go_wp2
      exact bodyPost_ret (v := .agg #[.int .i64 (S : Int), .slice (some ⟨g, 0, none⟩) i cap]) (by simp [results, Try.results17, go_sem, *]) rfl HR.out
  · have hi3 : (i : Int) + 1 < (ca : Int) := by omega
    have hi8 : ¬ ca = i + 1 := by omega
    have NEW1 := Lib.hid n1
    clear n1 hcb
    go_enter Try.func17, Try.ntmps17
    go_wp2_with fail
    go_region_held3 (fun w' => w'.cell? ⟨w.heap.size, 0, none⟩ = some (.int .i64 (S : Int)) ∧ w'.cell? ⟨w.heap.size, 1, none⟩ = some (.slice (some ⟨ba, oa, none⟩) n ca)) (first | (refine ⟨?_, ?_⟩ <;> simp [go_sem]; done) | exact ⟨d0, d1⟩ | (refine ⟨?_, ?_⟩ <;> simp [go_sem, d0, d1]; done)) (first | (go_at_call 26; refine (concat_any _ _ ⟨ba, oa, none⟩ ⟨ba, oa + (i + 1) * 3, none⟩ (ts.take i) (ts.drop (i + 1)) i (n - (i + 1)) ca (ca - (i + 1)) _ HL0 HL1 (by omega) (by omega) (by simp [go_sem]) (by first | (simp [go_sem]; done) | (simp [go_sem]; omega)) (fun W hW => NEW0.out W (two_worldsC (by (repeat (first | exact Below.refl _ _ | refine Below.drew ?_ | refine Below.drewN' ?_ _ | refine Below.alloc ?_ (by first | (simp; done) | (simp; omega)) _ | refine Below.setCell ?_ (by first | (simp; done) | (simp; omega)) _)); done) hW)) (fun W hW => NEW1.out W (two_worldsC (by (repeat (first | exact Below.refl _ _ | refine Below.drew ?_ | refine Below.drewN' ?_ _ | refine Below.alloc ?_ (by first | (simp; done) | (simp; omega)) _ | refine Below.setCell ?_ (by first | (simp; done) | (simp; omega)) _)); done) hW))).mono ?_; rintro e w5 ⟨g, cap, rfl, hb5, ho5⟩; have d0 : w5.cell? ⟨w.heap.size, 0, none⟩ = some (.int .i64 (S : Int)) := (hb5.cell (p := ⟨w.heap.size, 0, none⟩) (by simp; omega)).trans (by simp [go_sem]); have d1 : w5.cell? ⟨w.heap.size, 1, none⟩ = some (.slice (some ⟨ba, oa, none⟩) n ca) := (hb5.cell (p := ⟨w.heap.size, 1, none⟩) (by simp; omega)).trans (by simp [go_sem]); have d2 : w5.cell? ⟨w.heap.size + 1, 0, none⟩ = some (.int .i64 0) := (hb5.cell (p := ⟨w.heap.size + 1, 0, none⟩) (by simp)).trans (by simp [go_sem]); have d3 : w5.cell? ⟨w.heap.size + 1, 1, none⟩ = some (.slice none 0 0) := (hb5.cell (p := ⟨w.heap.size + 1, 1, none⟩) (by simp)).trans (by simp [go_sem]); have d4 : w5.frozen? ⟨w.heap.size + 1, 0, none⟩ = false := ((bcell hb5).2 (w.heap.size + 1) 0 (by simp)).trans (by simp [go_sem]); have d5 : w5.frozen? ⟨w.heap.size + 1, 1, none⟩ = false := ((bcell hb5).2 (w.heap.size + 1) 1 (by simp)).trans (by simp [go_sem])))
    all_goals
      have hbw5 : Below w.heap.size w w5 := two_worldsC (by (repeat (first | exact Below.refl _ _ | refine Below.drew ?_ | refine Below.drewN' ?_ _ | refine Below.alloc ?_ (by first | (simp; done) | (simp; omega)) _ | refine Below.setCell ?_ (by first | (simp; done) | (simp; omega)) _)); done) hb5
      have HR : Hid (∃ g' cap', (Ending.returned (.agg #[.int .i64 (S : Int), .slice (some ⟨g, 0, none⟩) (i + (n - (i + 1))) cap]) : Ending) = .returned (.agg #[.int .i64 (S : Int), .slice (some ⟨g', 0, none⟩) (n - 1) cap']) ∧ Below w.heap.size w ((w5.setCell ⟨w.heap.size + 1, 0, none⟩ (.int .i64 (S : Int))).setCell ⟨w.heap.size + 1, 1, none⟩ (.slice (some ⟨g, 0, none⟩) (i + (n - (i + 1))) cap)) ∧ RT ((w5.setCell ⟨w.heap.size + 1, 0, none⟩ (.int .i64 (S : Int))).setCell ⟨w.heap.size + 1, 1, none⟩ (.slice (some ⟨g, 0, none⟩) (i + (n - (i + 1))) cap)) (some ⟨g', 0, none⟩) (outT ts i)) := by
        have e9 : i + (n - (i + 1)) = n - 1 := by omega
        have hgb := own_ge ho5
        simp at hgb
        refine ⟨g, cap, by rw [e9], (hbw5.setCell (by show w.heap.size ≤ w.heap.size + 1; omega) _).setCell (by show w.heap.size ≤ w.heap.size + 1; omega) _, ?_⟩
        have ho6 := ownn_set1 (ownn_set1 ho5 (b := w.heap.size + 1) (by simp; try omega) 0 (.int .i64 (S : Int))) (b := w.heap.size + 1) (by simp; try omega) 1 (.slice (some ⟨g, 0, none⟩) (i + (n - (i + 1))) cap)
        exact row_RT (by unfold Hid; rw [outT_len hn.out hi]; omega) ho6
      clear ho5 hb5 d4 d5
      go_wp2
      exact bodyPost_ret (v := .agg #[.int .i64 (S : Int), .slice (some ⟨g, 0, none⟩) (i + (n - (i + 1))) cap]) (by simp [results, Try.results17, go_sem, *]) rfl HR.out

theorem ed_out {ts : List T3} {i n : Nat} (hn : ts.length = n) (hi : i < n) (u v : Nat) : Ed (outT ts i) (-1) u v ↔ Ed ts (i : Int) u v := by
  have hl : (ts.take i).length = i := by rw [List.length_take]; omega
  have at0 : ∀ j, j < i → (outT ts i)[j]? = ts[j]? := fun j hj => by
    unfold outT; rw [List.getElem?_append_left (by omega), List.getElem?_take_of_lt hj]
  have at1 : ∀ j, i ≤ j → (outT ts i)[j]? = ts[j + 1]? := fun j hj => by
    unfold outT; rw [List.getElem?_append_right (by omega), hl, List.getElem?_drop]; congr 1; omega
  have pick : ∀ (l : List T3) (j : Nat), (∃ h : j < l.length, l[j].1 = (u : Int) ∧ l[j].2.1 = (v : Int)) ↔ ∃ t, l[j]? = some t ∧ t.1 = (u : Int) ∧ t.2.1 = (v : Int) := fun l j => by
    constructor
    · rintro ⟨h, h1, h2⟩; exact ⟨l[j], List.getElem?_eq_getElem h, h1, h2⟩
    · rintro ⟨t, ht, h1, h2⟩
      obtain ⟨h, rfl⟩ := List.getElem?_eq_some_iff.1 ht
      exact ⟨h, h1, h2⟩
  constructor
  · rintro ⟨j, hj, _, h1, h2⟩
    obtain ⟨t, ht, q1, q2⟩ := (pick _ j).1 ⟨hj, h1, h2⟩
    rcases Nat.lt_or_ge j i with h | h
    · rw [at0 j h] at ht
      obtain ⟨h', r1, r2⟩ := (pick ts j).2 ⟨t, ht, q1, q2⟩
      exact ⟨j, h', by omega, r1, r2⟩
    · rw [at1 j h] at ht
      obtain ⟨h', r1, r2⟩ := (pick ts (j + 1)).2 ⟨t, ht, q1, q2⟩
      exact ⟨j + 1, h', by omega, r1, r2⟩
  · rintro ⟨j, hj, hne, h1, h2⟩
    obtain ⟨t, ht, q1, q2⟩ := (pick ts j).1 ⟨hj, h1, h2⟩
    rcases Nat.lt_or_ge j i with h | h
    · obtain ⟨h', r1, r2⟩ := (pick (outT ts i) j).2 ⟨t, by rw [at0 j h]; exact ht, q1, q2⟩
      exact ⟨j, h', by omega, r1, r2⟩
    · obtain ⟨h', r1, r2⟩ := (pick (outT ts i) (j - 1)).2 ⟨t, by rw [at1 (j - 1) (by omega), show j - 1 + 1 = j by omega]; exact ht, q1, q2⟩
      exact ⟨j - 1, h', by omega, r1, r2⟩
theorem rch_mono {ts us : List T3} {wo wu : Int} (h : ∀ u v, Ed ts wo u v → Ed us wu u v) {to v : Nat} (hr : Rch ts wo to v) : Rch us wu to v := by
  induction hr with
  | here => exact .here
  | step he _ ih => exact .step (h _ _ he) ih
theorem nats_out {ts : List T3} {S i : Nat} (h : Nats ts S) : Nats (outT ts i) S := by
  intro j hj
  have hm := List.getElem_mem hj
  generalize (outT ts i)[j] = t at hm ⊢
  have : t ∈ ts := by
    unfold outT at hm
    rcases List.mem_append.1 hm with hm | hm
    · exact List.mem_of_mem_take hm
    · exact List.mem_of_mem_drop hm
  obtain ⟨k, hk, rfl⟩ := List.getElem_of_mem this
  exact h k hk
theorem strong_out {ts : List T3} {S i n : Nat} (hn : ts.length = n) (hi : i < n) (hN : Nats ts S) : strongB (outT ts i) (-1) S = strongB ts (i : Int) S := by
  have h1 := strong_iff (ts := outT ts i) (wo := -1) (S := S) (nats_out hN)
  have h2 := strong_iff (ts := ts) (wo := (i : Int)) (S := S) hN
  have h3 : (∀ to v, to < S → v < S → Rch (outT ts i) (-1) to v) ↔ ∀ to v, to < S → v < S → Rch ts (i : Int) to v :=
    ⟨fun h to v a b => rch_mono (fun u v => (ed_out hn hi u v).1) (h to v a b), fun h to v a b => rch_mono (fun u v => (ed_out hn hi u v).2) (h to v a b)⟩
  rw [Bool.eq_iff_iff, h1, h2, h3]
theorem net_out {s : Int} {ts : List T3} {i : Nat} (h : netB s ts = true) : netB s (outT ts i) = true := by
  obtain ⟨h2, h10, h24, hall⟩ := netB_parts h
  unfold netB
  simp only [Bool.and_eq_true, decide_eq_true_eq, List.all_eq_true]
  refine ⟨⟨h2, h10, ?_⟩, fun t ht => hall t ?_⟩
  · unfold outT; rw [List.length_append, List.length_take, List.length_drop]; omega
  · unfold outT at ht
    rcases List.mem_append.1 ht with ht | ht
    · exact List.mem_of_mem_take ht
    · exact List.mem_of_mem_drop ht
/-- A strong network has two tubes at least. -/
theorem strong_two {ts : List T3} {S : Nat} (hN : Nats ts S) (hS : 2 ≤ S) (h : strongB ts (-1) S = true) : 2 ≤ ts.length := by
  have h0 := (strong_iff hN).1 h
  have ed : ∀ a b : Nat, a ≠ b → Rch ts (-1) b a → ∃ y, Ed ts (-1) a y := fun a b hab hr => by
    cases hr with
    | here => exact absurd rfl hab
    | step he _ => exact ⟨_, he⟩
  obtain ⟨y0, i0, hi0, _, e0, _⟩ := ed 0 1 (by omega) (h0 1 0 (by omega) (by omega))
  obtain ⟨y1, i1, hi1, _, e1, _⟩ := ed 1 0 (by omega) (h0 0 1 (by omega) (by omega))
  have : i0 ≠ i1 := fun e => by subst e; omega
  omega
/-- The first k tubes without which the network is not strong. -/
def critK (ts : List T3) (S k : Nat) : List Int := ((List.range k).filter fun i : Nat => !strongB ts (i : Int) S).map fun i : Nat => (i : Int)
theorem critK_zero (ts : List T3) (S : Nat) : critK ts S 0 = [] := by simp [critK]
theorem critK_yes {ts : List T3} {S k : Nat} (h : strongB ts (k : Int) S = false) : critK ts S (k + 1) = critK ts S k ++ [(k : Int)] := by
  unfold critK; rw [List.range_succ, List.filter_append, List.map_append]; simp [h]
theorem critK_no {ts : List T3} {S k : Nat} (h : strongB ts (k : Int) S = true) : critK ts S (k + 1) = critK ts S k := by
  unfold critK; rw [List.range_succ, List.filter_append, List.map_append]; simp [h]
theorem critK_len (ts : List T3) (S k : Nat) : (critK ts S k).length ≤ k := by
  unfold critK
  have := List.length_filter_le (fun i : Nat => !strongB ts (i : Int) S) (List.range k)
  simpa using this
def critOf (s : Int) (ts : List T3) : List Int × Int := if netB s ts = true then (if strongB ts (-1) s.toNat = true then (critK ts s.toNat ts.length, 0) else ([], 6)) else ([], 1)
theorem critOf_bad {s : Int} {ts : List T3} (h : netB s ts = false) : critOf s ts = ([], 1) := by unfold critOf; rw [h]; rfl
theorem critOf_weak {S : Nat} {ts : List T3} (h : netB (S : Int) ts = true) (h2 : strongB ts (-1) S = false) : critOf (S : Int) ts = ([], 6) := by unfold critOf; rw [if_pos h, Int.toNat_natCast, h2]; rfl
theorem critOf_good {S n : Nat} {ts : List T3} (h : netB (S : Int) ts = true) (h2 : strongB ts (-1) S = true) (hn : ts.length = n) : critOf (S : Int) ts = (critK ts S n, 0) := by unfold critOf; rw [if_pos h, Int.toNat_natCast, if_pos h2, hn]
theorem critOf_len (s : Int) (ts : List T3) : (critOf s ts).1.length ≤ 1048576 := by
  unfold critOf
  split
  · rename_i h
    obtain ⟨_, _, h24, _⟩ := netB_parts h
    split
    · have := critK_len ts s.toNat ts.length
      simp only
      omega
    · simp
  · simp
end Go.Proofs.Ytbndminegokffaa
