/-
  What AddChange needs of memory: an append to a slice that came in and is full; copies of lists; parts of a list.
-/
import Derived.Test.YtghpefdleiebmaaZAdd
import Derived.Test.YtghpefdleiebmaaNest2
import Derived.Test.YtghpefdleiebmaaAppend
import Derived.Test.YtghpefdleiebmaaChangeMarks
import Derived.Deep.AppendSrc
import Derived.Lib.SliceRun
namespace Go
open RowKit
section
variable {P : Program} (w : World)
/-- An append to a slice that is full, whoever owns it: a new row. -/
theorem run_append_full (t ty e : TypeId) (i : TypeInfo) (z : Value) (size bytes : Nat) (ht : P.underlying t = some (.slice e)) (hi : P.info? e = some i) (hz : i.zero = some z)
    (hsize : i.size = size) (hby : i.bytes = bytes) (hzs : z.cells.size = size)
    (a0 : Addr) (n : Nat) (olds : List Value) (hol : olds.length = n * size) (holds : ∀ j u, olds[j]? = some u → w.cell? (a0.add j) = some u) (ho1 : ∀ u ∈ olds, u.oneCell' = true)
    (ad : Addr) (m c : Nat) (news : List Value) (hl : news.length = m * size) (hnews : ∀ j u, news[j]? = some u → w.cell? (ad.add j) = some u) (h1 : ∀ u ∈ news, u.oneCell' = true)
    (hm : 0 < m) (h63 : n + m ≤ maxLen) (hbytes : (n + m) * bytes ≤ 140737488355328) :
    ∃ cap w', (Builtin.append_ #[t, t] ty #[.slice (some a0) n n, .slice (some ad) m c]).run P w = .ok (.slice (some ⟨w.heap.size, 0, none⟩) (n + m) cap) w' ∧
      w'.ownsRow w.heap.size e size (.slice (some ⟨w.heap.size, 0, none⟩) (n + m) cap) (n + m) (olds ++ news) ∧ Below w.heap.size w w' := by
  subst hsize
  subst hby
  have hsmall : n + m ≤ 9223372036854775807 := by simp only [maxLen] at h63; omega
  have S0 : Src P i.size t (.slice (some a0) n n) n olds w := Src.ofSlice w ht a0 n n olds hol holds ho1
  have S1 : Src P i.size t (.slice (some ad) m c) m news w := Src.ofSlice w ht ad m c news hl hnews h1
  have hr := run_append_grow_src (P := P) w t t ty e i z ht hi hz (some a0) n n olds S0.cellsD (.slice (some ad) m c) m news S1 (by omega) (by omega) (growslice_fits (by omega) hbytes)
  have hge := grownCap_ge w (n + m) n e
  have hcm := grownCap_le_maxLen w (n + m) n e h63
  have hlen : (olds ++ news).length = (n + m) * i.size := by rw [List.length_append, hol, hl, Nat.add_mul]
  refine ⟨_, _, hr, ⟨hlen, .inr ⟨w.heap.size, _, _, rfl, Nat.le_refl _, heap_alloc_new w.drew _, hge, hcm, ?_, ?_⟩⟩, Below.alloc (Below.drew (Below.refl _ _)) (Nat.le_refl _) _⟩
  · rw [Array.size_append, List.size_toArray, hlen, size_zeroCells, hzs, ← Nat.add_mul]
    congr 1
    omega
  · rw [Array.toList_append, ← hlen]
    exact List.take_left
theorem step_append_full {ops : Array Oper} {o : Oper} {a : Act} {K : Act → World → Prop} {Q : Exit → Act → World → Prop} {E : Prop} (hgd : o.guard = none) (s x : Operand) (t : TypeId)
    (ho : o.op = .call { callee := .builtin .append, args := #[s, x], argTypes := #[t, t] })
    (e : TypeId) (i : TypeInfo) (z : Value) (size bytes : Nat) (ht : P.underlying t = some (.slice e)) (hi : P.info? e = some i) (hz : i.zero = some z)
    (hsize : i.size = size) (hby : i.bytes = bytes) (hzs : z.cells.size = size)
    (a0 : Addr) (n : Nat) (hs : a.eval s = .slice (some a0) n n) (olds : List Value) (hol : olds.length = n * size) (holds : ∀ j u, olds[j]? = some u → w.cell? (a0.add j) = some u) (ho1 : ∀ u ∈ olds, u.oneCell' = true)
    (ad : Addr) (m c : Nat) (news : List Value) (hx : a.eval x = .slice (some ad) m c) (hl : news.length = m * size) (hnews : ∀ j u, news[j]? = some u → w.cell? (ad.add j) = some u) (h1 : ∀ u ∈ news, u.oneCell' = true)
    (hm : 0 < m) (h63 : n + m ≤ maxLen) (hbytes : (n + m) * bytes ≤ 140737488355328) (H : Nat) (hH : w.heap.size = H)
    (h : ∀ cap w', w'.ownsRow H e size (.slice (some ⟨H, 0, none⟩) (n + m) cap) (n + m) (olds ++ news) → Below H w w' → K (a.put o.dst (.slice (some ⟨H, 0, none⟩) (n + m) cap)) w') :
    if Region.wanted o (yielded ops a.tmps) = true then Oper.wp P o a w K Q else E := by
  subst hH
  have hw : Region.wanted o (yielded ops a.tmps) = true := by simp [Region.wanted, hgd]
  rw [if_pos hw]
  obtain ⟨cap, w', hr, h2, h3⟩ := run_append_full (P := P) w t o.type e i z size bytes ht hi hz hsize hby hzs a0 n olds hol holds ho1 ad m c news hl hnews h1 hm h63 hbytes
  unfold Oper.wp execOp
  simp only [ho, resolve, invoke, builtin, Sem.run_bind, Sem.run_pure, Result.andThen_ok, List.map_toArray, List.map_cons, List.map_nil, hs, hx, hr]
  exact h cap w' h2 h3
/-- An append of whatever many (none, too) to a slice of one's own that is not empty. -/
theorem wpList_append_more {ops : Array Oper} {rest : List Oper} {o : Oper} {a : Act} {Q : Exit → Act → World → Prop} (hgd : o.guard = none) (s x : Operand) (t : TypeId)
    (ho : o.op = .call { callee := .builtin .append, args := #[s, x], argTypes := #[t, t] })
    (base : Nat) (e : TypeId) (i : TypeInfo) (z : Value) (size bytes : Nat) (ht : P.underlying t = some (.slice e)) (hi : P.info? e = some i) (hz : i.zero = some z)
    (hsize : i.size = size) (hby : i.bytes = bytes) (hzs : z.cells.size = size) (hsz : 0 < size)
    (v : Value) (n : Nat) (xs : List Value) (hs : a.eval s = v) (hown : w.ownsRow base e size v n xs) (hn : 0 < n)
    (ad : Addr) (m c : Nat) (news : List Value) (hx : a.eval x = .slice (some ad) m c) (hl : news.length = m * size) (hnews : ∀ j u, news[j]? = some u → w.cell? (ad.add j) = some u) (h1 : ∀ u ∈ news, u.oneCell' = true)
    (h63 : n + m ≤ maxLen) (hbytes : (n + m) * bytes ≤ 140737488355328) (hbase : base ≤ w.heap.size)
    (h : ∀ g cap w', w'.ownsRow base e size (.slice (some ⟨g, 0, none⟩) (n + m) cap) (n + m) (xs ++ news) → w.grownBy w' v.ownBlock → (v.ownBlock = some g ∨ w.heap.size = g) → wpList P ops Q rest (a.put o.dst (.slice (some ⟨g, 0, none⟩) (n + m) cap)) w') : wpList P ops Q (o :: rest) a w :=
  wpList_plain hgd fun _ hK => by
    obtain ⟨v', w', hr, h2, h3, _, h5⟩ := run_append_own_at (P := P) w base t o.type e i z size bytes ht hi hz hsize hby hzs hsz v n xs hown ad m c news hl hnews h1 h63 hbytes hbase
    obtain ⟨g, cap, rfl, _, _⟩ := h2.form (by omega)
    unfold Oper.wp execOp
    simp only [ho, resolve, invoke, builtin, Sem.run_bind, Sem.run_pure, Result.andThen_ok, List.map_toArray, List.map_cons, List.map_nil, hs, hx, hr]
    refine hK _ _ (h g cap w' h2 h3 ?_)
    rcases h5 with h5 | h5
    · exact .inl (by rw [← h5]; rfl)
    · exact .inr (by simpa [Value.ownBlock] using h5.symm)
end
end Go
namespace Go.Proofs.Ytghpefdleiebmaa
open Go.RowKit
theorem RI.cells_ {w : World} {b off : Nat} {l : List Int} (h : RI w (some ⟨b, off, none⟩) l) : ∀ i (h : i < l.length), w.cell? ⟨b, off + i, none⟩ = some (.int .i64 l[i]) := by
  intro i hi
  obtain ⟨b', off', e, _, hc⟩ := h.addr (by omega)
  injection e with e1
  injection e1 with e2 e3
  subst e2
  subst e3
  exact hc i hi
theorem RI.newsI {w : World} {b off : Nat} {l : List Int} (h : RI w (some ⟨b, off, none⟩) l) : ∀ j u, (l.map (Value.int .i64))[j]? = some u → w.cell? ((⟨b, off, none⟩ : Addr).add j) = some u := news_ints h.cells_
theorem RR.cells_ {w : World} {b off : Nat} {ts : List C3} (h : RR 3 cChange w (some ⟨b, off, none⟩) ts) : ∀ i (h : i < ts.length) (j : Nat) (v : Value), (cChange ts[i])[j]? = some v → w.cell? ⟨b, off + i * 3 + j, none⟩ = some v := by
  intro i hi
  obtain ⟨b', off', e, _, hc⟩ := h.addr (by omega)
  injection e with e1
  injection e1 with e2 e3
  subst e2
  subst e3
  exact hc i hi
theorem RR.newsC {w : World} {b off : Nat} {ts : List C3} (h : RR 3 cChange w (some ⟨b, off, none⟩) ts) : ∀ j u, (ts.flatMap cChange)[j]? = some u → w.cell? ((⟨b, off, none⟩ : Addr).add j) = some u := news_recs (by decide) cChange_len h.cells_
theorem RR.takeC {w : World} {b off : Nat} {ts : List C3} (h : RR 3 cChange w (some ⟨b, off, none⟩) ts) (k : Nat) : RR 3 cChange w (some ⟨b, off, none⟩) (ts.take k) := by
  rcases h with rfl | ⟨b', off', e, hl, hc⟩
  · exact .inl (by simp)
  · refine .inr ⟨b', off', e, hl, fun i hi j v hj => ?_⟩
    rw [List.getElem_take] at hj
    exact hc i (by simp at hi; omega) j v hj
theorem RR.dropC {w : World} {b off : Nat} {ts : List C3} (h : RR 3 cChange w (some ⟨b, off, none⟩) ts) (k : Nat) : RR 3 cChange w (some ⟨b, off + k * 3, none⟩) (ts.drop k) := by
  rcases h with rfl | ⟨b', off', e, hl, hc⟩
  · exact .inl (by simp)
  · injection e with e1
    injection e1 with e2 e3
    subst e2
    subst e3
    refine .inr ⟨b, off + k * 3, rfl, hl, fun i hi j v hj => ?_⟩
    rw [List.getElem_drop] at hj
    have := hc (k + i) (by simp at hi; omega) j v hj
    rw [show off + k * 3 + i * 3 + j = off + (k + i) * 3 + j by omega]
    exact this
theorem recsC_one (ts : List C3) : ∀ u ∈ ts.flatMap cChange, u.oneCell' = true := by
  intro u hu
  obtain ⟨t, _, ht⟩ := List.mem_flatMap.1 hu
  simp only [cChange, List.mem_cons, List.not_mem_nil, or_false] at ht
  rcases ht with rfl | rfl | rfl <;> rfl
theorem recsC_len (ts : List C3) : (ts.flatMap cChange).length = ts.length * 3 := by
  induction ts with
  | nil => rfl
  | cons t r ih => simp only [List.flatMap_cons, List.length_append, ih, cChange_len, List.length_cons]; omega
/-- The rest of a list, from the number k on. -/
theorem rest_run {b off m d k : Nat} {ts : List C3} {w : World} (hm : ts.length = m) (hd : m ≤ d) (hk : k ≤ m) (hr : RR 3 cChange w (some ⟨b, off, none⟩) ts) :
    ∃ ad : Addr, (∀ W : World, (Instr.slice 25 (.slice (some ⟨b, off, none⟩) m d) (some (.int .i64 (k : Int))) none none).run Try.prog W = .ok (.slice (some ad) (m - k) (d - k)) W) ∧
      Hid (∀ W, Below w.heap.size w W → ∀ j u, ((ts.drop k).flatMap cChange)[j]? = some u → W.cell? (ad.add j) = some u) := by
  have hu : Try.prog.underlying 25 = some (.slice (Try.prog.elem 25)) := by kernel_rfl
  have hz : ∀ W : World, (sizeOf (Try.prog.elem 25)).run Try.prog W = .ok 3 W := fun W => by kernel_rfl
  have hrun : ∀ W : World, (Instr.slice 25 (.slice (some ⟨b, off, none⟩) m d) (some (.int .i64 (k : Int))) none none).run Try.prog W = .ok (sliced (some ⟨b, off, none⟩) k m d 3) W := fun W => by
    have h := Go.run_slice_l (P := Try.prog) W 25 (some ⟨b, off, none⟩) m d hu .i64 (k : Int) (by omega) (by omega)
    rw [hz, Result.andThen] at h
    simpa using h
  by_cases e : d = k
  · refine ⟨⟨b, off, none⟩, fun W => ?_, fun W hW j u hu => ?_⟩
    · rw [hrun, sliced, if_pos e]
    · rw [List.drop_of_length_le (by omega)] at hu
      simp at hu
  · refine ⟨⟨b, off + k * 3, none⟩, fun W => ?_, fun W hW => ((hr.dropC k).below hW).newsC⟩
    rw [hrun, sliced, if_neg e]
    simp [Addr.add_lit]
set_option maxHeartbeats 1000000 in
theorem copyI_any (bb ob ca m : Nat) (l : List Int) (w : World) (hm : Hid (l.length = m)) (hm1 : m ≤ 1048576) (ha : RI w (some ⟨bb, ob, none⟩) l) :
    Calls Try.prog 75 #[.slice (some ⟨bb, ob, none⟩) m ca] w (GivesO 2 l m w) := by
  have he : ∀ W : World, (binOp .eql 24 (.slice (some ⟨bb, ob, none⟩) m ca) (.slice none 0 0)).run Try.prog W = .ok (.bool false) W := fun W => by
    rw [Lib.run_eql_slice_nil W _ _ _ _ _ _ _ Try.underlying24]; rfl
  have HN : Hid (∀ w', Below w.heap.size w w' → ∀ j u, (l.map (Value.int .i64))[j]? = some u → w'.cell? ((⟨bb, ob, none⟩ : Addr).add j) = some u) := fun w' hb => (ha.below hb).newsI
  have HL : Hid ((l.map (Value.int .i64)).length = m * 1) := by unfold Hid; rw [List.length_map, hm.out]; omega
  have HF : Hid (∀ u ∈ l.map (Value.int .i64), u.oneCell' = true) := by
    intro u hu
    obtain ⟨x, _, rfl⟩ := List.mem_map.1 hu
    rfl
  have HI : Hid (∃ i0 : TypeInfo, Try.prog.info? 2 = some i0 ∧ i0.zero = some (.int .i64 0) ∧ i0.size = 1 ∧ i0.bytes = 8) := info_parts info2
  clear ha
  go_enter Try.func75, Try.ntmps75
  go_wp2_with (at_builtin; refine wpList_append_clone _ rfl _ _ 24 rfl w.heap.size 2 HI.out.choose (.int .i64 0) 1 8 Try.underlying24 HI.out.choose_spec.1 HI.out.choose_spec.2.1 HI.out.choose_spec.2.2.1 HI.out.choose_spec.2.2.2 rfl (by decide) w.heap.size rfl (World.ownsRow_made w #[] 0 (Nat.le_refl _) (by unfold maxLen; omega) rfl) ⟨bb, ob, none⟩ m ca _ rfl HL.out (HN.out _ ((Below.refl _ _).alloc (Nat.le_refl _) _)) HF.out (by unfold maxLen; omega) (by omega) (by simp) ?_)
  intro g cap w1 hown1 hgrow hat
  have HB : Hid (Below w.heap.size w w1) := ((Below.refl _ _).alloc (Nat.le_refl _) _).grown hgrow (by simp) (fun k hk => by simp at hk; omega)
  have HO := Lib.hid hown1
  clear hown1 hgrow hat
  go_wp2
  go_ret
  exact ⟨g, cap, rfl, HB.out, HO.out⟩
set_option maxHeartbeats 1000000 in
theorem ownI_any (bb ob ca m : Nat) (l : List Int) (w : World) (hm : Hid (l.length = m)) (hm1 : m ≤ 1048576) (ha : RI w (some ⟨bb, ob, none⟩) l) :
    Calls Try.prog 91 #[.slice (some ⟨bb, ob, none⟩) m ca] w (GivesO 2 l m w) := by
  have HN : Hid (∀ w', Below w.heap.size w w' → ∀ j u, (l.map (Value.int .i64))[j]? = some u → w'.cell? ((⟨bb, ob, none⟩ : Addr).add j) = some u) := fun w' hb => (ha.below hb).newsI
  have HL : Hid ((l.map (Value.int .i64)).length = m * 1) := by unfold Hid; rw [List.length_map, hm.out]; omega
  have HF : Hid (∀ u ∈ l.map (Value.int .i64), u.oneCell' = true) := by
    intro u hu
    obtain ⟨x, _, rfl⟩ := List.mem_map.1 hu
    rfl
  have HI : Hid (∃ i0 : TypeInfo, Try.prog.info? 2 = some i0 ∧ i0.zero = some (.int .i64 0) ∧ i0.size = 1 ∧ i0.bytes = 8) := info_parts info2
  clear ha
  go_enter Try.func91, Try.ntmps91
  go_wp2_with (at_builtin; refine wpList_append_clone _ rfl _ _ 24 rfl w.heap.size 2 HI.out.choose (.int .i64 0) 1 8 Try.underlying24 HI.out.choose_spec.1 HI.out.choose_spec.2.1 HI.out.choose_spec.2.2.1 HI.out.choose_spec.2.2.2 rfl (by decide) w.heap.size rfl (World.ownsRow_made w #[] 0 (Nat.le_refl _) (by unfold maxLen; omega) rfl) ⟨bb, ob, none⟩ m ca _ rfl HL.out (HN.out _ ((Below.refl _ _).alloc (Nat.le_refl _) _)) HF.out (by unfold maxLen; omega) (by omega) (by simp) ?_)
  intro g cap w1 hown1 hgrow hat
  have HB : Hid (Below w.heap.size w w1) := ((Below.refl _ _).alloc (Nat.le_refl _) _).grown hgrow (by simp) (fun k hk => by simp at hk; omega)
  have HO := Lib.hid hown1
  clear hown1 hgrow hat
  go_wp2
  go_ret
  exact ⟨g, cap, rfl, HB.out, HO.out⟩
/-- What AddChange hands back: the zones in memory of its own, and the code. -/
def GivesAZ (r : TZoned × Int) (w : World) (e : Ending) (w' : World) : Prop :=
  ∃ a n c b m d, e = .returned (.tuple #[.agg #[.int .i64 r.1.1, .slice a n c, .slice b m d], .int .i64 r.2]) ∧ Below w.heap.size w w' ∧ Hid (r.1.2.1.length = n) ∧ Hid (r.1.2.2.length = m) ∧ OwZ w.heap.size w'.heap.size (.slice a n c) (.slice b m d) r.1 w'
theorem givesAZ_nil {r : TZoned × Int} {rc : Int} {w w' : World} (h : r = ((0, [], []), rc)) (hb : Below w.heap.size w w') :
    GivesAZ r w (.returned (.tuple #[.agg #[.int .i64 0, .slice none 0 0, .slice none 0 0], .int .i64 rc])) w' := by
  subst h
  exact ⟨none, 0, 0, none, 0, 0, rfl, hb, rfl, rfl, ⟨World.ownsRow_nil _ _ _ _, fun k hk => by simp [Value.ownBlock] at hk⟩, ⟨World.ownsRow_nil _ _ _ _, fun k hk => by simp [Value.ownBlock] at hk⟩, fun p hp => by simp [Value.ownBlock] at hp⟩
theorem givesAZ_of {r : TZoned × Int} {t : TZoned} {rc : Int} {g1 c g2 d n m : Nat} {w w' : World} (h : r = (t, rc)) (hb : Below w.heap.size w w') (hn : t.2.1.length = n) (hm : t.2.2.length = m)
    (h1 : w'.ownsRow w.heap.size 2 1 (.slice (some ⟨g1, 0, none⟩) n c) n (t.2.1.map (Value.int .i64))) (h2 : w'.ownsRow w.heap.size 53 3 (.slice (some ⟨g2, 0, none⟩) m d) m (t.2.2.flatMap cChange)) (hne : g1 ≠ g2) :
    GivesAZ r w (.returned (.tuple #[.agg #[.int .i64 t.1, .slice (some ⟨g1, 0, none⟩) n c, .slice (some ⟨g2, 0, none⟩) m d], .int .i64 rc])) w' := by
  subst h
  subst hn
  subst hm
  exact ⟨_, _, c, _, _, d, rfl, hb, rfl, rfl, Row.of h1, Row.of h2, fun p hp hq => hne (by simp [Value.ownBlock] at hp hq; omega)⟩
end Go.Proofs.Ytghpefdleiebmaa
