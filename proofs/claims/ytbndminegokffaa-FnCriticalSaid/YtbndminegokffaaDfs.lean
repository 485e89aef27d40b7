/-
  The program's walk from station to station: what stands in memory meanwhile, and the closure that visits.
-/
import Derived.Test.YtbndminegokffaaDfsMath
import Derived.Maps.OwnSet
import Derived.Deep.LoopGhost
import Derived.Deep.RegionHeld3
namespace Go.Proofs.Ytbndminegokffaa
open Go.RowKit Go.Maps Go.ChangeShapes Go.WideShapes Go.MapKept

/-- Looking up a number in a map of slices gives the same value in all worlds in which the map's block stands. -/
theorem look_const {w : World} {b : Nat} {es : Array MapEntry} {clock : Nat} {x : Int} {v : Value} (hb : w.heap[b]? = some (.map es clock)) (hks : ∀ e ∈ es.toList, ∃ l, keyOf Try.prog 2 e.key = some l) (hkey : keyOf Try.prog 2 (.int .i64 x) = some (.int .i64 x))
    (hrun : (Instr.lookup 62 (.map (some b)) (.int .i64 x) false).run Try.prog w = .ok v w) (W : World) (hW : W.heap[b]? = some (.map es clock)) : (Instr.lookup 62 (.map (some b)) (.int .i64 x) false).run Try.prog W = .ok v W := by
  have hk : Try.prog.underlying 2 = some (.int .i64) := Try.underlying2
  have hplain : ∀ v, keyOf Try.prog 2 v = mapKey Try.prog 2 v := fun v => by simp [keyOf, hk]
  have isK : ∀ {v : Value} {l : Lit}, keyOf Try.prog 2 v = some l → IsKey (.int .i64) v := fun {v l} h => by
    rw [hplain] at h
    obtain ⟨d', hd', h1, _⟩ := mapKey_isKey h
    rw [hk] at hd'
    cases hd'
    exact h1
  have hkk : ∀ y ∈ es.toList, IsKey (.int .i64) y.key := fun y hy => by
    obtain ⟨l, hl⟩ := hks y hy
    exact isK hl
  have K := int_keyed (P := Try.prog) Try.underlying2
  have ht := Try.underlying62
  obtain ⟨r, hr⟩ : ∃ r, Instr.findNow (.int .i64) (.int .i64 x) es.toList 0 = some r := by
    rcases findNow_spec (isK hkey) es.toList 0 hkk with ⟨h1, _⟩ | ⟨j, e0, h1, _⟩
    · exact ⟨_, h1⟩
    · exact ⟨_, h1⟩
  have key : ∀ W : World, W.heap[b]? = some (.map es clock) → (Instr.lookup 62 (.map (some b)) (.int .i64 x) false).run Try.prog W = .ok (match r with | none => .slice none 0 0 | some (_, v) => v) W := fun W hW => by
    cases r with
    | none => simp [Instr.lookup, run_underlying ht, MapKept.run_getObj_map hW, K.check W _ hkey, run_findKey hk hr, zeroSlice W, Result.andThen]
    | some p => simp [Instr.lookup, run_underlying ht, MapKept.run_getObj_map hW, K.check W _ hkey, run_findKey hk hr, Result.andThen]
  have e1 := hrun.symm.trans (key w hb)
  injection e1 with e1
  rw [e1]
  exact key W hW

/-- A map of truths whose keys are these stations. -/
def SeenMap (W : World) (sb : Nat) (r : List Nat) : Prop :=
  ∃ D : DataW Unit, W.ownsMap Try.prog 2 (plainElem Try.prog 4) sb r.length D ∧ ∀ v : Nat, D.atKey (.int .i64 (v : Int)) (.lit (.bool false)) = .lit (.bool (decide (v ∈ r)))
theorem zeroBool (w : World) : (zeroValue 4).run Try.prog w = .ok (.bool false) w := by kernel_rfl
theorem bool_inv {v : Value} {z : DataW Unit × List MemPlace} (h : plainElem Try.prog 4 v = some z) : ∃ x, v = .bool x ∧ z.1 = .lit (.bool x) := by
  unfold plainElem at h
  rw [Try.underlying4] at h
  cases v <;> simp at h
  subst h
  exact ⟨_, rfl, rfl⟩
theorem key_of (v : Nat) (h : v ≤ 10) : keyOf Try.prog 2 (.int .i64 (v : Int)) = some (.int .i64 (v : Int)) := keyOf_int_mk Try.underlying2 (WalkArith.wf_i64 (by omega))
theorem SeenMap.look {W : World} {sb v : Nat} {r : List Nat} (h : SeenMap W sb r) (hv : v ≤ 10) : (Instr.lookup 64 (.map (some sb)) (.int .i64 (v : Int)) false).run Try.prog W = .ok (.bool (decide (v ∈ r))) W := by
  obtain ⟨D, hown, hat⟩ := h
  obtain ⟨v', ps, hrun, hv'⟩ := hown.lookup (int_keyed Try.underlying2) Try.underlying64 (zeroBool W) (plainElem_bool Try.underlying4 false) (key_of v hv)
  obtain ⟨x, rfl, hx⟩ := bool_inv hv'
  have : D.atKey (.int .i64 (v : Int)) (.lit (.bool false)) = (.lit (.bool x) : DataW Unit) := hx
  rw [hat v] at this
  injection this with this
  injection this with this
  rw [hrun, this]
theorem SeenMap.mark {W : World} {sb v : Nat} {r : List Nat} (h : SeenMap W sb r) (hv : v ≤ 10) (hr : r.length ≤ 1000) :
    ∃ W', (Instr.mapUpdate 64 (.map (some sb)) (.int .i64 (v : Int)) (.bool true)).run Try.prog W = .ok () W' ∧ SeenMap W' sb (r ++ [v]) ∧ W.grownBy W' (some sb) := by
  obtain ⟨D, hown, hat⟩ := h
  have hisD := hown.isMap
  obtain ⟨W', hrun, hown', hg⟩ := hown.update (int_keyed Try.underlying2) Try.underlying64 (by unfold maxLen; omega) (key_of v hv) (plainElem_bool Try.underlying4 true)
  refine ⟨W', hrun, ⟨_, by simpa using hown', fun x => ?_⟩, hg⟩
  by_cases e : x = v
  · subst e
    rw [atKey_put_same hisD (show WideAt.IsKeyLit (.int .i64 (x : Int)) from trivial)]
    simp
  · rw [atKey_put_other (fun h => e (by injection h with _ h; omega)), hat x]
    simp [e]
theorem SeenMap.kept {W W' : World} {sb : Nat} {r : List Nat} {row : Option Nat} (h : SeenMap W sb r) (hg : W.grownBy W' row) (hne : some sb ≠ row) : SeenMap W' sb r := by
  obtain ⟨D, hown, hat⟩ := h
  exact ⟨D, hown.kept hg hne, hat⟩

def rI (r : List Nat) : List Int := r.map fun k : Nat => (k : Int)
/-- What stands in memory while the walk goes on; K is the heap's size at its beginning. -/
structure Dfs (w2 : World) (K b bn : Nat) (r : List Nat) (W : World) : Prop where
  below : Below K w2 W
  size : K + 5 ≤ W.heap.size
  hT : W.heap[K]? = some (.cells #[.map (some b)] 62 (0, 0))
  hS : W.heap[K + 2]? = some (.cells #[.map (some (K + 1))] 64 (0, 0))
  hV : W.heap[K + 4]? = some (.cells #[.func (.func 33) #[] #[.pointer (some ⟨K + 2, 0, none⟩), .pointer (some ⟨K + 3, 0, none⟩), .pointer (some ⟨K, 0, none⟩), .pointer (some ⟨K + 4, 0, none⟩), .pointer (some ⟨bn, 0, none⟩)]] 65 (0, 0))
  hR : ∃ ao cap, W.heap[K + 3]? = some (.cells #[.slice ao r.length cap] 28 (0, 0)) ∧ W.ownsRow (K + 5) 2 1 (.slice ao r.length cap) r.length ((rI r).map (Value.int .i64))
  hM : SeenMap W (K + 1) r
theorem Dfs.drewN {w2 W : World} {K b bn : Nat} {r : List Nat} (h : Dfs w2 K b bn r W) (n : Nat) : Dfs w2 K b bn r (W.drewN n) where
  below := Below.drewN' h.below n
  size := h.size
  hT := h.hT
  hS := h.hS
  hV := h.hV
  hR := h.hR
  hM := h.hM.kept (row := none) ⟨rfl, rfl, rfl, Nat.le_refl _, fun _ _ _ => rfl⟩ (by simp)
theorem cell_of {W : World} {k : Nat} {v : Value} {e : TypeId} (h : W.heap[k]? = some (.cells #[v] e (0, 0))) : W.cell? ⟨k, 0, none⟩ = some v := by
  rw [cell_of_row W k 0 _ e (0, 0) h]; rfl
theorem own_new {W W1 : World} {lo n : Nat} {e : TypeId} {size : Nat} {v : Value} {xs : List Value} (h : W.ownsRow lo e size v n xs) {k : Nat} (hg : W.grownBy W1 (some k)) (hk : k < lo) : W1.ownsRow lo e size v n xs :=
  h.kept hg (by
    rcases h.2 with ⟨rfl, _⟩ | ⟨g, cap, cur, rfl, hlo, _⟩
    · exact .inl rfl
    · exact .inr (by simp only [Value.ownBlock]; intro e; injection e with e; omega))
theorem grown_set {W : World} {k : Nat} (u : Value) : W.grownBy (W.setCell ⟨k, 0, none⟩ u) (some k) :=
  ⟨rfl, rfl, rfl, by simp, fun j _ hj => heap_setCell_other _ _ _ _ (fun e => hj (by rw [e]))⟩
/-- One station more has been marked and listed. -/
theorem dfs_more {w2 W1 W2 : World} {K b bn v g cap cap2 : Nat} {r : List Nat} {ao : Option Addr} {o : Obj} (hB1 : Below K w2 W1) (hsz1 : K + 5 ≤ W1.heap.size) (hT1 : W1.heap[K]? = some (.cells #[.map (some b)] 62 (0, 0)))
    (hS1 : W1.heap[K + 2]? = some (.cells #[.map (some (K + 1))] 64 (0, 0)))
    (hV1 : W1.heap[K + 4]? = some (.cells #[.func (.func 33) #[] #[.pointer (some ⟨K + 2, 0, none⟩), .pointer (some ⟨K + 3, 0, none⟩), .pointer (some ⟨K, 0, none⟩), .pointer (some ⟨K + 4, 0, none⟩), .pointer (some ⟨bn, 0, none⟩)]] 65 (0, 0)))
    (hR1 : W1.heap[K + 3]? = some (.cells #[.slice ao r.length cap] 28 (0, 0))) (hO1 : W1.ownsRow (K + 5) 2 1 (.slice ao r.length cap) r.length ((rI r).map (Value.int .i64))) (hM1 : SeenMap W1 (K + 1) (r ++ [v]))
    (hgr : (W1.alloc o).grownBy W2 (Value.slice ao r.length cap).ownBlock) (ho2 : W2.ownsRow (K + 5) 2 1 (.slice (some ⟨g, 0, none⟩) (r.length + 1) cap2) (r.length + 1) ((rI r).map (Value.int .i64) ++ [.int .i64 (v : Int)])) :
    W2.heap[K + 3]? = some (.cells #[.slice ao r.length cap] 28 (0, 0)) ∧ Dfs w2 K b bn (r ++ [v]) (W2.setCell ⟨K + 3, 0, none⟩ (.slice (some ⟨g, 0, none⟩) (r.length + 1) cap2)) := by
  have hne : ∀ k, k < K + 5 → some k ≠ (Value.slice ao r.length cap).ownBlock := fun k hk e => by have := own_lo_block hO1 e.symm; omega
  have kept : ∀ k, k < K + 5 → W2.heap[k]? = W1.heap[k]? := fun k hk => (hgr.block k (by simp; omega) (hne k hk)).trans ((World.grownBy_alloc W1 o none).block k (by omega) (by simp))
  have kept3 : ∀ k u, k ≠ K + 3 → (W2.setCell ⟨K + 3, 0, none⟩ u).heap[k]? = W2.heap[k]? := fun k u hk => heap_setCell_other _ _ _ _ (fun e => hk e)
  have hsz2 : K + 5 ≤ W2.heap.size := by have := hgr.size; simp at this; omega
  have h3 := (kept (K + 3) (by omega)).trans hR1
  refine ⟨h3, ?_, by simpa using hsz2, (kept3 K _ (by omega)).trans ((kept K (by omega)).trans hT1), (kept3 (K + 2) _ (by omega)).trans ((kept (K + 2) (by omega)).trans hS1), (kept3 (K + 4) _ (by omega)).trans ((kept (K + 4) (by omega)).trans hV1), ?_, ?_⟩
  · exact ((hB1.alloc (by omega) o).grown hgr (by simp; omega) (fun k hk => by have := own_lo_block hO1 hk; omega)).setCell (by show K ≤ K + 3; omega) _
  · refine ⟨some ⟨g, 0, none⟩, cap2, ?_, ?_⟩
    · rw [heap_setCell_same _ _ _ _ _ _ h3]
      simp
    · have := own_new ho2 (grown_set (W := W2) (k := K + 3) (.slice (some ⟨g, 0, none⟩) (r.length + 1) cap2)) (by omega)
      simpa [rI] using this
  · refine SeenMap.kept (W := W2) ?_ (grown_set _) (by intro e; injection e with e; omega)
    exact SeenMap.kept (W := W1.alloc o) (hM1.kept (World.grownBy_alloc W1 o none) (by simp)) hgr (hne (K + 1) (by omega))
/-- VISIT -/
def Visits (ts : List T3) (S v : Nat) (r : List Nat) (w2 : World) (K b bn : Nat) (e : Ending) (w' : World) : Prop :=
  e = .returned (.tuple #[]) ∧ ∃ r', Vis ts S v r r' ∧ Dfs w2 K b bn r' w'
theorem fromL_few (ts : List T3) (k : Nat) (x : Int) : (fromL ts k x).length ≤ k := by
  unfold fromL
  rw [List.length_map]
  exact Nat.le_trans (List.length_filter_le _ _) (by simp)
theorem infoI64g : (Try.prog.info? 2).map (fun i => (i.zero, i.size, i.bytes)) = some (some (.int .i64 0), 1, 8) := by kernel_rfl
set_option maxRecDepth 20000 in
set_option maxHeartbeats 8000000 in
theorem visit_any (S n ca bn b : Nat) (a : Option Addr) (ts : List T3) (w2 : World) (hn : Hid (ts.length = n)) (ha : RT w2 a ts) (hnet : netB (S : Int) ts = true) (p0 : w2.cell? ⟨bn, 1, none⟩ = some (.slice a n ca)) (hg : Groups w2 b ts n) :
    ∀ (m : Nat) (r : List Nat) (v : Nat) (W : World), S ≤ m + r.length → r.Nodup → (∀ x ∈ r, x < S) → v < S → Dfs w2 w2.heap.size b bn r W →
      Calls Try.prog 33 #[.int .i64 (v : Int), .pointer (some ⟨w2.heap.size + 2, 0, none⟩), .pointer (some ⟨w2.heap.size + 3, 0, none⟩), .pointer (some ⟨w2.heap.size, 0, none⟩), .pointer (some ⟨w2.heap.size + 4, 0, none⟩), .pointer (some ⟨bn, 0, none⟩)] W (Visits ts S v r w2 w2.heap.size b bn) := by
  obtain ⟨hs2, hs10, hn24, _⟩ := netB_parts hnet
  rw [hn.out] at hn24
  have hS : S ≤ 10 := by omega
  have HNAT : Hid (Nats ts S) := nats_of hnet
  have HMX : n < maxLen := by unfold maxLen; omega
  have HI : Hid (∃ i0 : TypeInfo, Try.prog.info? 2 = some i0 ∧ i0.zero = some (.int .i64 0) ∧ i0.size = 1 ∧ i0.bytes = 8) := info_parts infoI64g
  have hpl := World.block_lt_of_cell? w2 _ p0
  simp only at hpl
  obtain ⟨K, hK⟩ : ∃ K, w2.heap.size = K := ⟨_, rfl⟩
  have HP : Hid (∀ W, Below K w2 W → W.cell? ⟨bn, 1, none⟩ = some (.slice a n ca)) := fun W h => (h.cell (p := ⟨bn, 1, none⟩) (by show bn < K; omega)).trans p0
  have HA : Hid (∀ W, Below K w2 W → RT W a ts) := fun W h => ha.below (by rw [hK]; exact h)
  have HROW : Hid (∀ v : Nat, v ≤ 10 → ∃ (va : Option Addr) (vc : Nat), (∀ W, Below K w2 W → (Instr.lookup 62 (.map (some b)) (.int .i64 (v : Int)) false).run Try.prog W = .ok (.slice va (fromL ts n (v : Int)).length vc) W) ∧ ∀ W, Below K w2 W → RI W va (fromL ts n (v : Int))) := by
    intro v hv
    obtain ⟨D, hown, hisD, hD⟩ := hg
    obtain ⟨va0, hrun, hlk⟩ := groups_at hown HMX (key_of v hv)
    obtain ⟨zs, hat, hoi, _, _⟩ := looked_elim hlk
    have hz : zs = fromL ts n (v : Int) := datum_eq hoi (hat.symm.trans (hD v))
    subst hz
    obtain ⟨va, vc, rfl⟩ := own_slice hoi
    obtain ⟨es, clock, hb, F, _⟩ := hown
    have hbl : b < K := by have := (Array.getElem?_eq_some_iff.1 hb).1; omega
    refine ⟨va, vc, fun W h => look_const hb F.keys (key_of v hv) hrun W ((h.block b hbl).trans hb), fun W h => (own_RI rfl hoi.1).below (by rw [hK]; exact h)⟩
  rw [hK]
  clear ha hnet p0 hg hK HMX
  intro m
  induction m with
  | zero =>
    intro r v W hm hd hb hv hdfs
    have hvr : v ∈ r := by
      refine Classical.byContradiction fun h => ?_
      have := few_of (List.nodup_cons.2 ⟨h, hd⟩) (fun x hx => by
        rcases List.mem_cons.1 hx with rfl | hx
        · exact hv
        · exact hb x hx)
      simp only [List.length_cons] at this
      omega
    have hrun := hdfs.hM.look (v := v) (by omega)
    have hs := cell_of hdfs.hS
    have HR : Hid (Visits ts S v r w2 K b bn (.returned (.tuple #[])) W) := ⟨rfl, r, Vis.seen hd hb hvr, hdfs⟩
    rw [decide_eq_true hvr] at hrun
    clear hd hb hdfs hvr HP HA HROW HNAT
    go_enter Try.func33, Try.ntmps33
    go_wp2
    go_end0
    exact HR.out
  | succ m ih =>
    intro r v W hm hd hb hv hdfs
    have hrun := hdfs.hM.look (v := v) (by omega)
    have hs := cell_of hdfs.hS
    by_cases hvr : v ∈ r
    · have HR : Hid (Visits ts S v r w2 K b bn (.returned (.tuple #[])) W) := ⟨rfl, r, Vis.seen hd hb hvr, hdfs⟩
      rw [decide_eq_true hvr] at hrun
      clear hd hb hdfs hvr HP HA HROW HNAT ih
      go_enter Try.func33, Try.ntmps33
      go_wp2
      go_end0
      exact HR.out
    · rw [decide_eq_false hvr] at hrun
      have hrl : r.length ≤ S := few_of hd hb
      obtain ⟨W1, hrun1, hM1, hg1⟩ := hdfs.hM.mark (v := v) (by omega) (by omega)
      obtain ⟨ao, cap, hR, hO⟩ := hdfs.hR
      have hsz := hdfs.size
      have kept : ∀ k, k < W.heap.size → k ≠ K + 1 → W1.heap[k]? = W.heap[k]? := fun k hk hne => hg1.block k hk (by intro e; injection e with e; exact hne e)
      have hS1 := cell_of ((kept (K + 2) (by omega) (by omega)).trans hdfs.hS)
      have hR1 := (kept (K + 3) (by omega) (by omega)).trans hR
      have hc1 := cell_of hR1
      have hO1 := own_new hO hg1 (by omega)
      have hB1 : Below K w2 W1 := hdfs.below.grown hg1 (by omega) (fun k hk => by injection hk with hk; omega)
      have hT1 := (kept K (by omega) (by omega)).trans hdfs.hT
      have hS1h := (kept (K + 2) (by omega) (by omega)).trans hdfs.hS
      have hV1 := (kept (K + 4) (by omega) (by omega)).trans hdfs.hV
      have hsz1 : K + 5 ≤ W1.heap.size := by have := hg1.size; omega
      have IH := Lib.hid ih
      have HD := Lib.hid (And.intro hd hb)
      have HVR := Lib.hid hvr
      clear ih hdfs hd hb hvr kept hR hO hg1
      go_enter Try.func33, Try.ntmps33
      go_wp2_with (at_builtin; refine wpList_append_lies _ rfl _ _ 28 rfl (K + 5) 2 HI.out.choose (.int .i64 0) 1 8 Try.underlying28 HI.out.choose_spec.1 HI.out.choose_spec.2.1 HI.out.choose_spec.2.2.1 HI.out.choose_spec.2.2.2 rfl (by decide) (.slice ao r.length cap) r.length _ rfl (hO1.alloc _) ⟨W1.heap.size, 0, none⟩ 1 1 [.int .i64 (v : Int)] rfl rfl (World.news_of_block (heap_alloc_new W1 _)) (by intro u hu; simp at hu; subst hu; rfl) (by omega) (by unfold maxLen; omega) (by omega) (by simp; omega) _ rfl ?_)
      intro g cap2 W2 ho2 hgr2 hat2 hlt2
      obtain ⟨h3, hdfs3⟩ := dfs_more (v := v) hB1 hsz1 hT1 hS1h hV1 hR1 hO1 hM1 hgr2 ho2
      have z3 := frozen_of_row W2 (K + 3) 0 _ _ h3
      have c3 := cell_of h3
      obtain ⟨va, vc, hlook, hrow⟩ := HROW.out v (by omega)
      have hrun3 := hlook _ hdfs3.below
      have HD3 := Lib.hid hdfs3
      have HROWS := Lib.hid hrow
      have t3 := cell_of hdfs3.hT
      clear ho2 hgr2 hat2 hlt2 hdfs3 hM1 hO1 hR1 hc1 hT1 hS1h hV1 hB1 hsz1 hlook hrow hrun1 hrun hs hS1 h3
      obtain ⟨L, hL⟩ : ∃ L, (fromL ts n (v : Int)).length = L := ⟨_, rfl⟩
      have HL := Lib.hid hL
      have hL24 : L ≤ 24 := by have := fromL_few ts n (v : Int); omega
      rw [hL] at hrun3
      clear hL
      go_wp2
      clear hrun3 t3 z3 c3
      go_loopw [22] (fun iv wr => ∃ (k : Nat) (r' : List Nat), k ≤ L ∧ iv = .int .i64 (k : Int) ∧ Hid (VisK ts S v (fromL ts n (v : Int)) r k r') ∧ Hid (Dfs w2 K b bn r' wr)) (fun iv _ => L - (intOf iv).toNat)
      case atStart => exact ⟨0, r ++ [v], by omega, rfl, VisK.start HD.out.1 HD.out.2 hv HVR.out, HD3⟩
      case round =>
        clear HD3
        obtain ⟨k, r', hk, rfl, HV, HF⟩ := hrel
        by_cases hlt : k < L
        · have hka : k < (fromL ts n (v : Int)).length := by rw [HL.out]; exact hlt
          obtain ⟨i, hi, hli, hfi⟩ := fromL_at (x := (v : Int)) hn.out k hka
          obtain ⟨f0, u, ef, eu, _, hu⟩ := HNAT.out i hi
          obtain ⟨bg, og, rfl, _, x1⟩ := (HROWS.out wr HF.out.below).at_ k hka
          rw [hli] at x1
          obtain ⟨ba, oa, rfl, hba, hca⟩ := (HA.out wr HF.out.below).addr (by omega)
          obtain ⟨y1, y2, y3⟩ := hca i hi
          rw [eu] at y2
          have HY : Hid (∀ W, Below K w2 W → W.cell? ⟨ba, oa + i * 3 + 1, none⟩ = some (.int .i64 (u : Int))) := fun W h => by
            obtain ⟨ba', oa', he, _, hca'⟩ := (HA.out W h).addr (by omega)
            injection he with he
            injection he with e1 e2
            subst e1 e2
            rw [(hca' i hi).2.1, eu]
          have v1 := cell_of HF.out.hV
          have q1 := HP.out wr HF.out.below
          have hlen : r.length + 1 ≤ r'.length := by
            have h1 := List.Nodup.length_le_of_subset (VisK.start (ts := ts) (l := []) HD.out.1 HD.out.2 hv HVR.out).nodup (fun x hx => HV.out.sub x hx : r ++ [v] ⊆ r')
            simpa using h1
          have CALL : Hid (∀ q, Calls Try.prog 33 #[.int .i64 (u : Int), .pointer (some ⟨K + 2, 0, none⟩), .pointer (some ⟨K + 3, 0, none⟩), .pointer (some ⟨K, 0, none⟩), .pointer (some ⟨K + 4, 0, none⟩), .pointer (some ⟨bn, 0, none⟩)] (wr.drewN q) (Visits ts S u r' w2 K b bn)) := fun q => IH.out r' u _ (by omega) HV.out.nodup HV.out.bound hu (HF.out.drewN q)
          have HNEXT : Hid (∀ r'', Vis ts S u r' r'' → VisK ts S v (fromL ts n (v : Int)) r (k + 1) r'') := fun r'' h => HV.out.step hka hi hli hfi eu h
          have hi0 : (0 : Int) ≤ (i : Int) := by omega
          have hi1 : (i : Int) < (n : Int) := by have := hn.out; omega
          have hk0 : (0 : Int) ≤ (k : Int) := by omega
          have hk1 : (k : Int) < (L : Int) := by omega
          clear hca hli hfi ef eu HV HF hka y1 y3
          go_wp2_with fail
          go_region_held3 (fun w' => w'.cell? ⟨K + 4, 0, none⟩ = some (.func (.func 33) #[] #[.pointer (some ⟨K + 2, 0, none⟩), .pointer (some ⟨K + 3, 0, none⟩), .pointer (some ⟨K, 0, none⟩), .pointer (some ⟨K + 4, 0, none⟩), .pointer (some ⟨bn, 0, none⟩)]) ∧ w'.cell? ⟨bn, 1, none⟩ = some (.slice (some ⟨ba, oa, none⟩) n ca) ∧ w'.cell? ⟨ba, oa + i * 3 + 1, none⟩ = some (.int .i64 (u : Int))) (first | exact ⟨v1, q1, y2⟩ | exact ⟨cell_of hdfs5.hV, HP.out _ hdfs5.below, HY.out _ hdfs5.below⟩) (first | (go_at_call 33; refine (CALL.out 1).mono ?_; rintro e w5 ⟨rfl, r5, hvis5, hdfs5⟩))
          all_goals
            have HV5 := Lib.hid (HNEXT.out r5 hvis5)
            have HF5 := Lib.hid hdfs5
            clear hvis5 hdfs5 HNEXT CALL x1 y2 v1 q1
            go_wp2
            go_roundw
            case rel => exact ⟨k + 1, r5, by omega, by go_num, HV5, HF5⟩
            case measure => simp [intOf]; omega
        · have hkL : k = L := by omega
          subst hkL
          have HR : Hid (Visits ts S v r w2 K b bn (.returned (.tuple #[])) wr) := ⟨rfl, r', VisK.finish hn.out (by rw [HL.out]; exact HV.out), HF.out⟩
          go_wp2
          go_end0
          exact HR.out
end Go.Proofs.Ytbndminegokffaa
