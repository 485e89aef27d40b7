/-
  FewestOut: the model's l10Without, l10Fewest, FewestOut (roomga, roomgb, roomgc, roomgd in one text: a claim has at most 60 files).
-/
import Derived.Test.YtkfeihnapcfkgaaDoorRoomGs
import Derived.Test.YtkfeihnapcfkgaaDoorRoomFy
namespace Go.Proofs.YtkfeihnapcfkgaaDoor
open Go.RowKit Go.Maps Go.ChangeShapes

theorem row_setCell_hi {lo hi : Nat} {e : TypeId} {size n : Nat} {v : Value} {xs : List Value} {w : World} (h : Row lo hi e size v n xs w) {b o : Nat} (hb : hi ≤ b) (u : Value) : Row lo hi e size v n xs (w.setCell ⟨b, o, none⟩ u) :=
  ⟨ownsRow_setCell_other h.1 (by intro hk; have := h.2 _ hk; dsimp only at this; omega) u, h.2⟩

set_option maxHeartbeats 4000000 in
theorem l10Without_any (lo bb ob m d c cap2 : Nat) (ao : Option Addr) (ks : List Nat) (ts : List TGuest) (w : World) (hm : Hid (ts.length = m)) (ha : RR 2 cGuest w (some ⟨bb, ob, none⟩) ts) (hsm : m ≤ 1048576) (HK : Hid (∀ k ∈ ks, k < m)) (HC : Hid (ks.length = c)) (hc8 : c ≤ 1048576)
    (hmem : w.ownsRow lo 2 1 (.slice ao c cap2) c ((ks.map (fun (k : Nat) => (k : Int))).map (Value.int .i64))) :
    Calls Tryd.prog 91 #[.slice (some ⟨bb, ob, none⟩) m d, .slice ao c cap2] w (GivesC 35 2 ((chM outG ks ts).flatMap cGuest) m w) := by
  have HA : Hid (∀ W, Below w.heap.size w W → RR 2 cGuest W (some ⟨bb, ob, none⟩) ts) := fun W h => ha.below h
  have HL : Hid ((ts.flatMap cGuest).length = m * 2) := by unfold Hid; rw [rflat_length cGuest_len, hm.out]
  have HF := Lib.hid (guest_one ts)
  have HI : Hid (∃ i0 : TypeInfo, Tryd.prog.info? 35 = some i0 ∧ i0.zero = some (.agg #[.int .i64 0, .int .i64 0]) ∧ i0.size = 2 ∧ i0.bytes = 16) := info_parts info35
  have HM0 := Lib.hid (Row.of hmem)
  clear ha hmem
  go_enter Tryd.func91, Tryd.ntmps91
  go_wp2_with (at_builtin; refine wpList_append_clone _ rfl _ _ 25 rfl w.heap.size 35 HI.out.choose (.agg #[.int .i64 0, .int .i64 0]) 2 16 Tryd.underlying25 HI.out.choose_spec.1 HI.out.choose_spec.2.1 HI.out.choose_spec.2.2.1 HI.out.choose_spec.2.2.2 rfl (by decide) w.heap.size rfl (World.ownsRow_made w #[] 0 (Nat.le_refl _) (by unfold maxLen; omega) rfl) ⟨bb, ob, none⟩ m d _ rfl HL.out ((HA.out _ ((Below.refl _ _).alloc (Nat.le_refl _) _)).addrR) HF.out (by unfold maxLen; omega) (by omega) (by simp) ?_)
  intro g cap w1 hown1 hgrow hat
  have HB : Hid (Below w.heap.size w w1) := ((Below.refl _ _).alloc (Nat.le_refl _) _).grown hgrow (by simp) (fun k hk => by simp at hk; omega)
  have HO := Lib.hid hown1
  have HG : Hid (w.heap.size ≤ g) := own_ge hown1
  have HM1 := Lib.hid (HM0.out.below HB.out)
  clear hown1 hgrow hat HM0
  go_wp2_with fail
  go_loopw [6] (fun iv wr => ∃ j : Nat, j ≤ c ∧ iv = .int .i64 (j : Int) ∧ Hid (Below w.heap.size w wr) ∧ Hid (wr.ownsRow w.heap.size 35 2 (.slice (some ⟨g, 0, none⟩) m cap) m ((chM outG (ks.take j) ts).flatMap cGuest)) ∧ Hid (Row lo w.heap.size 2 1 (.slice ao c cap2) c ((ks.map (fun (k : Nat) => (k : Int))).map (Value.int .i64)) wr)) (fun iv _ => c - (intOf iv).toNat)
  case atStart => exact ⟨0, by omega, rfl, HB, HO, HM1⟩
  case round =>
    obtain ⟨j, hj, rfl, HBEL, HOWN, HMEM⟩ := hrel
    by_cases hlt : j < c
    · have hjk : j < ks.length := by rw [HC.out]; exact hlt
      have hkm : ks[j] < m := HK.out _ (List.getElem_mem hjk)
      have hnx := chM_take outG ks ts j hjk
      have hcl : (chM outG (ks.take j) ts).length = m := by rw [chM_len]; exact hm.out
      obtain ⟨bm, om, rfl, hbm, xm⟩ := (rowI_RI (ns := ks.map (fun (k : Nat) => (k : Int))) (by unfold Hid; rw [List.length_map]; exact HC.out) HMEM.out.1).at_ j (by rw [List.length_map]; exact hjk)
      rw [List.getElem_map] at xm
      obtain ⟨k, hkd⟩ : ∃ k, k = ks[j] := ⟨_, rfl⟩
      rw [← hkd] at hkm hnx xm
      clear hkd
      obtain ⟨cur, hcur⟩ : ∃ cur, cur = chM outG (ks.take j) ts := ⟨_, rfl⟩
      rw [← hcur] at hnx hcl
      have HOWN1 : Hid (wr.ownsRow w.heap.size 35 2 (.slice (some ⟨g, 0, none⟩) m cap) m (cur.flatMap cGuest)) := by unfold Hid; rw [hcur]; exact HOWN.out
      clear hcur HOWN
      have hka : k < cur.length := by rw [hcl]; exact hkm
      obtain ⟨y0, y1, y2, y3⟩ := guest_cells HOWN1.out k hka
      have HST := Lib.hid (guest_store HOWN1.out k hka (-1, -1))
      have HNX : Hid (chM outG (ks.take (j + 1)) ts = cur.set k (-1, -1)) := hnx
      clear hcl hnx
      have hk0 : (0 : Int) ≤ (k : Int) := by omega
      have hk1 : (k : Int) < (m : Int) := by omega
      have hj0 : (0 : Int) ≤ (j : Int) := by omega
      have hj1 : (j : Int) < (c : Int) := by omega
      generalize cur[k] = t at y0 y1
      go_wp2_with fail
      go_roundw
      case rel =>
        have h3 := row_setCell_hi (row_setCell_hi HMEM.out (b := g) (o := k * 2) HG.out (.int .i64 (-1))) (b := g) (o := k * 2 + 1) HG.out (.int .i64 (-1))
        exact ⟨j + 1, by omega, by go_num, (HBEL.out.setCell HG.out _).setCell HG.out _, by unfold Hid; rw [HNX.out]; exact HST.out, h3⟩
      case measure => simp [intOf]; omega
    · have hjc : j = c := by omega
      subst hjc
      have HE : Hid (chM outG (ks.take j) ts = chM outG ks ts) := by unfold Hid; rw [← HC.out, List.take_length]
      go_wp2
      go_ret
      exact ⟨_, cap, rfl, HBEL.out, HG.out, by rw [← HE.out]; exact HOWN.out⟩

theorem filtN_or {x i m : Nat} (hx : x < 2 ^ i) (hi : i < m) : filtN (fun j => (x ||| 2 ^ i).testBit j) m = filtN (fun j => x.testBit j) m ++ [(i : Int)] := by
  have hb : ∀ j, (x ||| 2 ^ i).testBit j = (x.testBit j || decide (i = j)) := fun j => by rw [Nat.testBit_or, Nat.testBit_two_pow]
  have h1 : filtN (fun j => x.testBit j) m = filtN (fun j => x.testBit j) i := filtN_skip (by omega) fun j h1 _ => bit_below hx h1
  have h2 : filtN (fun j => (x ||| 2 ^ i).testBit j) m = filtN (fun j => (x ||| 2 ^ i).testBit j) (i + 1) := filtN_skip (by omega) fun j h1 _ => by
    show (x ||| 2 ^ i).testBit j = false
    rw [hb, bit_below hx (by omega), decide_eq_false (by omega)]; rfl
  have h3 : filtN (fun j => (x ||| 2 ^ i).testBit j) (i + 1) = filtN (fun j => (x ||| 2 ^ i).testBit j) i ++ [(i : Int)] := filtN_yes (by
    show (x ||| 2 ^ i).testBit i = true
    rw [hb, decide_eq_true rfl, Bool.or_true])
  have h4 : filtN (fun j => (x ||| 2 ^ i).testBit j) i = filtN (fun j => x.testBit j) i := filtN_congr fun j hj => by
    show (x ||| 2 ^ i).testBit j = x.testBit j
    rw [hb, decide_eq_false (by omega), Bool.or_false]
  rw [h2, h3, h4, h1]

/-- What the model's search for a set hands back. -/
def GivesFe (lo m : Nat) (r : Option Nat) (w : World) (e : Ending) (w' : World) : Prop := Below w.heap.size w w' ∧ match r with
  | none => ∃ v, e = .returned (.tuple #[v, .bool false])
  | some y => ∃ g cap k, e = .returned (.tuple #[.slice (some ⟨g, 0, none⟩) k cap, .bool true]) ∧ Hid ((filtN (fun i => y.testBit i) m).length = k) ∧ Hid (w'.ownsRow lo 2 1 (.slice (some ⟨g, 0, none⟩) k cap) k ((filtN (fun i => y.testBit i) m).map (Value.int .i64)))

theorem givesFe_zero {lo m x g cap k : Nat} {b : Bool} {r : Option Nat} {w w' : World} (hr : r = if b = true then some x else none) (hb : Below w.heap.size w w') (hk : Hid ((filtN (fun i => x.testBit i) m).length = k)) (ho : w'.ownsRow lo 2 1 (.slice (some ⟨g, 0, none⟩) k cap) k ((filtN (fun i => x.testBit i) m).map (Value.int .i64))) :
    GivesFe lo m r w (.returned (.tuple #[.slice (some ⟨g, 0, none⟩) k cap, .bool b])) w' := by
  subst hr
  cases b with
  | true => exact ⟨hb, g, cap, k, rfl, hk, ho⟩
  | false => exact ⟨hb, _, rfl⟩

set_option maxRecDepth 100000 in
set_option maxHeartbeats 8000000 in
theorem l10FewZero_any (lo bb ob b1 o1 n m c d : Nat) (l : List Int) (ts : List TGuest) (x a g k cap : Nat) (w : World)
    (hn : Hid (l.length = n)) (hm : Hid (ts.length = m)) (hl : RI w (some ⟨bb, ob, none⟩) l) (ha : RR 2 cGuest w (some ⟨b1, o1, none⟩) ts) (hn0 : 0 < n) (hsn : n ≤ 1048576) (hm8 : m ≤ 8) (hp : Pl l) (hg : guB n ts = true)
    (hk : Hid ((filtN (fun i => x.testBit i) m).length = k)) (ho : w.ownsRow lo 2 1 (.slice (some ⟨g, 0, none⟩) k cap) k ((filtN (fun i => x.testBit i) m).map (Value.int .i64))) :
    Calls Tryd.prog 73 #[.slice (some ⟨bb, ob, none⟩) n c, .slice (some ⟨b1, o1, none⟩) m d, .slice (some ⟨g, 0, none⟩) k cap, .int .i64 (a : Int), .int .i64 0] w (GivesFe lo m (if fewOk l ts x = true then some x else none) w) := by
  have HOX : Hid (∀ W, Below w.heap.size w W → W.ownsRow lo 2 1 (.slice (some ⟨g, 0, none⟩) k cap) k ((filtN (fun i => x.testBit i) m).map (Value.int .i64))) := fun W hW => ((Row.of ho).below hW).1
  have hk8 : k ≤ 8 := by have := filtN_len (fun i => x.testBit i) m; have := hk.out; omega
  have WO : Hid (∀ W, Below w.heap.size w W → Calls Tryd.prog 91 #[.slice (some ⟨b1, o1, none⟩) m d, .slice (some ⟨g, 0, none⟩) k cap] W (GivesC 35 2 ((outS ts x).flatMap cGuest) m W)) := fun W hW => by
    have h1 := HOX.out W hW
    have hk2 := hk.out
    rw [filtN_K] at h1 hk2
    rw [List.length_map] at hk2
    have := l10Without_any lo b1 o1 m d k cap (some ⟨g, 0, none⟩) (filtK (fun i => x.testBit i) m) ts W hm (ha.below hW) (by omega) (fun k h => (filtK_lt h).1) hk2 (by omega) h1
    unfold outS chP
    rw [hm.out]
    exact this
  have hlen : Hid ((outS ts x).length = m) := by unfold Hid; rw [outS_len]; exact hm.out
  have hgu : guB n (outS ts x) = true := guB_out (by omega) hg x
  have hib : (Tryd.prog.info? 4).map (fun i => (i.zero, i.size, i.bytes)) = some (some (.bool false), 1, 1) := by kernel_rfl
  obtain ⟨i0, hi, hz0, hz1, hz2⟩ := info_parts hib
  have hmk := run_make_rowN (P := Tryd.prog) 84 4 i0 _ Tryd.underlying84 hi hz0 .i64 .i64 256 256 (Nat.le_refl _) (by rw [hz2]; omega) (by omega)
  rw [hz1] at hmk
  clear hi hz0 hz1 hz2 hib
  have hcur : (madeCells (Value.cells (.bool false)) (256 * 1)).toList = (List.replicate 256 false).map Value.bool := by kernel_rfl
  have HSZ : Hid ((madeCells (Value.cells (.bool false)) (256 * 1)).size = 256 * 1) := size_madeCells _ _
  have HCUR := Lib.hid hcur
  clear hcur
  generalize madeCells (Value.cells (.bool false)) (256 * 1) = cur0 at hmk HSZ HCUR
  have hmk2 : ∀ W : World, (Instr.makeSlice 84 (.int .i64 256) (.int .i64 256)).run Tryd.prog W = .ok (.slice (some ⟨W.heap.size, 0, none⟩) 256 256) (W.alloc (.cells cur0 4)) := hmk
  have HKN : BadG (okS l (outS ts x)) (List.replicate 256 false) := ⟨List.length_replicate, fun s h hb => by rw [List.getElem_replicate] at hb; exact absurd hb (by decide)⟩
  have HOWN : ∀ (lo2 : Nat) (W : World), lo2 ≤ W.heap.size → (W.alloc (.cells cur0 4)).ownsRow lo2 4 1 (.slice (some ⟨W.heap.size, 0, none⟩) 256 256) 256 ((List.replicate 256 false).map Value.bool) := fun lo2 W hW => by
    refine ⟨by rw [List.length_map, List.length_replicate], .inr ⟨W.heap.size, 256, cur0, rfl, hW, heap_alloc_new W _, Nat.le_refl _, by unfold maxLen; omega, HSZ.out, ?_⟩⟩
    rw [HCUR.out, List.take_of_length_le (by rw [List.length_map, List.length_replicate]; omega)]
  have LO : ∀ (W : World) (kb g1 cap1 : Nat), Below w.heap.size w W → w.heap.size ≤ kb → W.ownsRow w.heap.size 4 1 (.slice (some ⟨kb, 0, none⟩) 256 256) 256 ((List.replicate 256 false).map Value.bool) → RR 2 cGuest W (some ⟨g1, 0, none⟩) (outS ts x) → (g1 < kb ∨ kb + 1 ≤ g1) →
      Calls Tryd.prog 69 #[.slice (some ⟨bb, ob, none⟩) n c, .slice (some ⟨g1, 0, none⟩) m cap1, .int .i64 0, .slice (some ⟨kb, 0, none⟩) 256 256] W fun e w' => ∃ v, e = .returned (.tuple #[v, .bool (fewOk l ts x)]) ∧ Below w.heap.size w w' := fun W kb g1 cap1 hW hkb hob hr hgk => by
    have h := l10Order_any w kb bb ob n m c 256 l (outS ts x) hn hlen hl hsn hm8 hp hgu hkb 8 0 W g1 0 cap1 (List.replicate 256 false) (Nat.two_pow_pos _) (Nat.le_trans (remS_le _ _) hm8) hW (fun W' h' => by rw [aftG_zero]; exact RR_turned hr h' hgk) hob HKN
    refine h.mono ?_
    rintro e w' ⟨v, he, ht, _, _⟩
    exact ⟨v, he, hW.trans (ht.below hkb hW.size)⟩
  have LOA : Hid (∀ (w1 : World) (g1 cap1 : Nat), Below w.heap.size w w1 → g1 < w1.heap.size → w1.ownsRow w.heap.size 35 2 (.slice (some ⟨g1, 0, none⟩) m cap1) m ((outS ts x).flatMap cGuest) →
      Calls Tryd.prog 69 #[.slice (some ⟨bb, ob, none⟩) n c, .slice (some ⟨g1, 0, none⟩) m cap1, .int .i64 0, .slice (some ⟨w1.heap.size, 0, none⟩) 256 256] (w1.alloc (.cells cur0 4)) fun e w' => ∃ v, e = .returned (.tuple #[v, .bool (fewOk l ts x)]) ∧ Below w.heap.size w w') := fun w1 g1 cap1 hb hlt ho1 =>
    LO _ _ g1 cap1 (hb.alloc hb.size _) hb.size (HOWN _ _ hb.size) ((own_RR cGuest_len hlen ho1).below ((Below.refl _ _).alloc (Nat.le_refl _) _)) (.inl hlt)
  have LOB : Hid (∀ (V w1 : World) (g1 cap1 : Nat), Below w.heap.size w V → w.heap.size < V.heap.size → V.ownsRow w.heap.size 4 1 (.slice (some ⟨w.heap.size, 0, none⟩) 256 256) 256 ((List.replicate 256 false).map Value.bool) → Below V.heap.size V w1 → V.heap.size ≤ g1 → w1.ownsRow V.heap.size 35 2 (.slice (some ⟨g1, 0, none⟩) m cap1) m ((outS ts x).flatMap cGuest) →
      Calls Tryd.prog 69 #[.slice (some ⟨bb, ob, none⟩) n c, .slice (some ⟨g1, 0, none⟩) m cap1, .int .i64 0, .slice (some ⟨w.heap.size, 0, none⟩) 256 256] w1 fun e w' => ∃ v, e = .returned (.tuple #[v, .bool (fewOk l ts x)]) ∧ Below w.heap.size w w') := fun V w1 g1 cap1 hu hlt hov hb hge ho1 =>
    LO w1 w.heap.size g1 cap1 (two_worlds hu hb) (Nat.le_refl _) ((Row.of hov).below hb).1 (own_RR cGuest_len hlen ho1) (.inr (by omega))
  have HV : Hid (Below w.heap.size w (w.alloc (.cells cur0 4)).drew ∧ w.heap.size < ((w.alloc (.cells cur0 4)).drew).heap.size ∧ ((w.alloc (.cells cur0 4)).drew).ownsRow w.heap.size 4 1 (.slice (some ⟨w.heap.size, 0, none⟩) 256 256) 256 ((List.replicate 256 false).map Value.bool)) := ⟨((Below.refl _ _).alloc (Nat.le_refl _) _).drew, (by simp [go_sem] : w.heap.size < (w.alloc (.cells cur0 4)).heap.size), (HOWN _ _ (Nat.le_refl _)).drew⟩
  clear hmk HKN HOWN LO hl ha hp hg hgu ho
  generalize fewOk l ts x = b at LOA LOB
  obtain ⟨res, hres⟩ : ∃ res, res = if b = true then some x else none := ⟨_, rfl⟩
  rw [← hres]
  have HRES := Lib.hid hres
  clear hres
  go_enter Tryd.func73, Tryd.ntmps73
  go_wp2_with fail
  go_region_with (first | (go_at_call 91; refine (WO.out _ ?_).mono ?_; (first | exact (Below.refl _ _).drew | exact HV.out.1); rintro e w1 ⟨g1, cap1, rfl, hb1, hg1, ho1⟩; have hlt1 := own_lt ho1) | (go_at_call 69; (first | refine (LOA.out w1 _ _ (two_worlds (Below.refl _ _).drew hb1) hlt1 ho1).mono ?_ | refine (LOB.out _ w1 _ _ HV.out.1 HV.out.2.1 HV.out.2.2 hb1 hg1 ho1).mono ?_); rintro e w2 ⟨v, rfl, hb2⟩))
  all_goals
    go_wp2
    go_ret2
    exact givesFe_zero HRES.out hb2 hk (HOX.out _ hb2)

set_option maxRecDepth 100000 in
set_option maxHeartbeats 8000000 in
theorem l10Fewest_any (wb : World) (bb ob b1 o1 n m c d : Nat) (l : List Int) (ts : List TGuest)
    (hn : Hid (l.length = n)) (hm : Hid (ts.length = m)) (hl : RI wb (some ⟨bb, ob, none⟩) l) (ha : RR 2 cGuest wb (some ⟨b1, o1, none⟩) ts) (hn0 : 0 < n) (hsn : n ≤ 1048576) (hm8 : m ≤ 8) (hp : Pl l) (hg : guB n ts = true) :
    ∀ (r x a g k cap : Nat) (w : World), x < 2 ^ a → a ≤ m → r ≤ m → Below wb.heap.size wb w → Hid ((filtN (fun i => x.testBit i) m).length = k) → w.ownsRow wb.heap.size 2 1 (.slice (some ⟨g, 0, none⟩) k cap) k ((filtN (fun i => x.testBit i) m).map (Value.int .i64)) →
    Calls Tryd.prog 73 #[.slice (some ⟨bb, ob, none⟩) n c, .slice (some ⟨b1, o1, none⟩) m d, .slice (some ⟨g, 0, none⟩) k cap, .int .i64 (a : Int), .int .i64 (r : Int)] w (GivesFe wb.heap.size m (fewN (fewOk l ts) m r a x) w) := by
  intro r
  induction r with
  | zero =>
    intro x a g k cap w _ _ _ hW hk ho
    exact l10FewZero_any wb.heap.size bb ob b1 o1 n m c d l ts x a g k cap w hn hm (hl.below hW) (ha.below hW) hn0 hsn hm8 hp hg hk ho
  | succ r ih =>
    intro x a g k cap w hx ha2 hr hW hk ho
    have IH := Lib.hid ih
    clear ih
    have HOX : Hid (∀ W, Below w.heap.size w W → RI W (some ⟨g, 0, none⟩) (filtN (fun i => x.testBit i) m)) := fun W h => own_RI hk ((Row.of ho).below h).1
    have hk8 : k ≤ 8 := by have := filtN_len (fun i => x.testBit i) m; have := hk.out; omega
    have OW : Hid (∀ W, Below w.heap.size w W → Calls Tryd.prog 92 #[.slice (some ⟨g, 0, none⟩) k cap] W (GivesO 2 (filtN (fun i => x.testBit i) m) k W)) := fun W h => ownR_any g 0 cap k _ W hk (by omega) (HOX.out W h)
    have HFE : Hid (fewN (fewOk l ts) m (r + 1) a x = firstSome (fun i => fewN (fewOk l ts) m r (i + 1) (x ||| 2 ^ i)) a (m - r - a)) := rfl
    have HI : Hid (∃ i0 : TypeInfo, Tryd.prog.info? 2 = some i0 ∧ i0.zero = some (.int .i64 0) ∧ i0.size = 1 ∧ i0.bytes = 8) := info_parts info2
    have hwb := hW.size
    have REC : Hid (∀ (i g2 cap2 : Nat) (W : World), a ≤ i → i < m → Below w.heap.size w W → W.ownsRow wb.heap.size 2 1 (.slice (some ⟨g2, 0, none⟩) (k + 1) cap2) (k + 1) ((filtN (fun j => x.testBit j) m ++ [(i : Int)]).map (Value.int .i64)) →
        Calls Tryd.prog 73 #[.slice (some ⟨bb, ob, none⟩) n c, .slice (some ⟨b1, o1, none⟩) m d, .slice (some ⟨g2, 0, none⟩) (k + 1) cap2, .int .i64 ((i : Int) + 1), .int .i64 (r : Int)] W (GivesFe wb.heap.size m (fewN (fewOk l ts) m r (i + 1) (x ||| 2 ^ i)) W)) := fun i g2 cap2 W hi him h ho2 => by
      have e := filtN_or (Nat.lt_of_lt_of_le hx (Nat.pow_le_pow_right (by decide) hi)) him
      rw [← e] at ho2
      have := IH.out (x ||| 2 ^ i) (i + 1) g2 (k + 1) cap2 W (Nat.or_lt_two_pow (Nat.lt_of_lt_of_le hx (Nat.pow_le_pow_right (by decide) (by omega))) (Nat.pow_lt_pow_right (by decide) (by omega))) (by omega) (by omega) (two_worlds hW h) (by unfold Hid; rw [e, List.length_append, hk.out]; rfl) ho2
      simpa using this
    clear IH hl ha hp hg ho
    obtain ⟨F, hF⟩ : ∃ F, F = fun i => fewN (fewOk l ts) m r (i + 1) (x ||| 2 ^ i) := ⟨_, rfl⟩
    have REC2 : Hid (∀ (i g2 cap2 : Nat) (W : World), a ≤ i → i < m → Below w.heap.size w W → W.ownsRow wb.heap.size 2 1 (.slice (some ⟨g2, 0, none⟩) (k + 1) cap2) (k + 1) ((filtN (fun j => x.testBit j) m ++ [(i : Int)]).map (Value.int .i64)) →
        Calls Tryd.prog 73 #[.slice (some ⟨bb, ob, none⟩) n c, .slice (some ⟨b1, o1, none⟩) m d, .slice (some ⟨g2, 0, none⟩) (k + 1) cap2, .int .i64 ((i : Int) + 1), .int .i64 (r : Int)] W (GivesFe wb.heap.size m (F i) W)) := by rw [hF]; exact REC.out
    rw [← hF] at HFE
    clear REC hF
    generalize fewN (fewOk l ts) m (r + 1) a x = res at HFE
    obtain ⟨R, hR⟩ : ∃ R : Int, R = ((r + 1 : Nat) : Int) := ⟨_, rfl⟩
    rw [← hR]
    have hRr : (r : Int) = R - 1 := by omega
    rw [hRr] at REC2
    have hR0 : (R == 0) = false := by simp; omega
    have hR1 : 1 ≤ R := by omega
    have hR2 : R ≤ m := by omega
    have HR := Lib.hid hR
    clear hR hRr
    go_enter Tryd.func73, Tryd.ntmps73
    go_wp2_with fail
    go_loopw [14] (fun iv wr => ∃ i : Nat, a ≤ i ∧ i ≤ m ∧ iv = .int .i64 (i : Int) ∧ Hid (Below w.heap.size w wr) ∧ Hid (res = firstSome F i (m - r - i))) (fun iv _ => m - (intOf iv).toNat)
    case atStart => exact ⟨a, by omega, by omega, rfl, Below.refl _ _, HFE⟩
    case round =>
      obtain ⟨i, hai, him, rfl, HBEL, HREM⟩ := hrel
      have hi0 : (0 : Int) ≤ (i : Int) := by omega
      by_cases hlt : i + (r + 1) ≤ m
      · have hlt2 : (i : Int) + R ≤ (m : Int) := by have := HR.out; omega
        have hws := HBEL.out.size
        have HST : Hid (m - r - i = (m - r - (i + 1)) + 1) := by unfold Hid; omega
        have RECi := Lib.hid (fun g2 cap2 W => REC2.out i g2 cap2 W hai (by omega))
        have OWi := OW.out wr HBEL.out
        have HRES : Hid (∀ y, F i = some y → res = some y) := fun y h => by rw [HREM.out, HST.out, firstSome, h]
        have HRNX : Hid (F i = none → res = firstSome F (i + 1) (m - r - (i + 1))) := fun h => by rw [HREM.out, HST.out, firstSome, h]
        clear HST HREM REC2 OW
        generalize hFi : F i = fi at RECi HRES HRNX
        clear hFi
        generalize hLL : filtN (fun j => x.testBit j) m = L at RECi OWi
        clear hLL
        go_wp2_with (first | (go_at_call 92; refine OWi.mono ?_; rintro e w5 ⟨g5, cap5, rfl, hb5, ho5⟩; have HB5 : Hid (Below w.heap.size w w5) := two_worlds HBEL.out hb5; have hw5 := HB5.out.size; have HO5 := own_lo ho5 hws) | (at_builtin; refine wpList_append_lies _ rfl _ _ 24 rfl w.heap.size 2 HI.out.choose (.int .i64 0) 1 8 Tryd.underlying24 HI.out.choose_spec.1 HI.out.choose_spec.2.1 HI.out.choose_spec.2.2.1 HI.out.choose_spec.2.2.2 rfl (by decide) (.slice (some ⟨g5, 0, none⟩) k cap5) k (L.map (Value.int .i64)) rfl (HO5.alloc _) ⟨w5.heap.size, 0, none⟩ 1 1 [.int .i64 (i : Int)] rfl rfl (news_oneG _ _ _) (by intro u hu; simp at hu; subst hu; rfl) (by omega) (by unfold maxLen; omega) (by omega) (by simp; omega) (w5.heap.size + 1) (by simp) ?_))
        intro g6 cap6 w6 hown6 hgrow6 hat6 hlt6
        have HB6 : Hid (Below w.heap.size w w6) := (HB5.out.alloc hw5 _).grown hgrow6 (by simp; omega) (fun q hq => (HO5.lt q hq).1)
        have HO6 : Hid (w6.ownsRow wb.heap.size 2 1 (.slice (some ⟨g6, 0, none⟩) (k + 1) cap6) (k + 1) ((L ++ [(i : Int)]).map (Value.int .i64))) := by unfold Hid; rw [List.map_append]; exact own_lo hown6 hwb
        clear hown6 hgrow6 hat6 hlt6 HO5 ho5 hb5
        cases fi with
        | none =>
          have HN := Lib.hid (HRNX.out rfl)
          clear HRES HRNX
          go_wp2_with (go_at_call 73; refine (RECi.out _ _ _ HB6.out HO6.out).mono ?_; rintro e w7 ⟨hb7, v, rfl⟩)
          go_roundw
          case rel => exact ⟨i + 1, by omega, by omega, by go_num, two_worlds HB6.out hb7, HN⟩
          case measure => simp [intOf]; omega
        | some y =>
          have HN := Lib.hid (HRES.out y rfl)
          clear HRES HRNX
          go_wp2_with (go_at_call 73; refine (RECi.out _ _ _ HB6.out HO6.out).mono ?_; rintro e w7 ⟨hb7, g7, cap7, k7, rfl, hk7, ho7⟩)
          go_ret2
          rw [HN.out]
          exact ⟨two_worlds HB6.out hb7, g7, cap7, k7, rfl, hk7, ho7⟩
      · have hlt2 : ¬ (i : Int) + R ≤ (m : Int) := by have := HR.out; omega
        have HN : Hid (res = none) := by unfold Hid; rw [HREM.out, show m - r - i = 0 by omega]; rfl
        clear REC2 OW
        go_wp2_with fail
        go_ret2
        rw [HN.out]
        exact ⟨HBEL.out, _, rfl⟩

set_option maxRecDepth 100000 in
set_option maxHeartbeats 8000000 in
theorem specFewestOut_any (w : World) {b0 o0 n0 c0 : Nat} (l0 : List Int) (hn0 : Hid (l0.length = n0)) (h0 : RI w (some ⟨b0, o0, none⟩) l0) (hs0 : n0 ≤ 1048576) (_wf0 : Hid (∀ k ∈ l0, (Lit.int .i64 k).wf = true)) {b1 o1 n1 c1 : Nat} (ts1 : List TGuest) (hn1 : Hid (ts1.length = n1)) (h1 : RR 2 cGuest w (some ⟨b1, o1, none⟩) ts1) (hs1 : n1 ≤ 1048576) (_wf1 : Hid (∀ t ∈ ts1, wfGuest t)) :
    Calls Tryd.prog 38 #[.slice (some ⟨b0, o0, none⟩) n0 c0, .slice (some ⟨b1, o1, none⟩) n1 c1] w (GivesIs 2 (fewOf l0 ts1) w) := by
  have OK := l10Ok_any b0 o0 (some ⟨b1, o1, none⟩) l0 ts1 n0 n1 c0 c1 w hn0 hn1 h0 h1 hs0 hs1
  cases hv : roB l0 ts1 with
  | false =>
    rw [hv] at OK
    have HR := Lib.hid (fewOf_bad hv)
    clear hv h0 h1
    go_enter Tryd.func38, Tryd.ntmps38
    go_wp2_with (go_at_call 58; refine OK.mono ?_; rintro e w1 ⟨rfl, hb1⟩)
    go_ret2
    exact givesIs_nil HR.out hb1
  | true =>
    rw [hv] at OK
    obtain ⟨h4, h2, h3, _⟩ := roB_of hv
    rw [hn0.out] at h3
    rw [hn0.out, hn1.out] at h4
    have hm8 := h4.2.2
    have HALL := fewOk_all l0 ts1
    rw [hn1.out] at HALL
    have HG := fewOf_good hv
    rw [hn1.out] at HG
    have HEQ : Hid (∀ n y, fewN (fewOk l0 ts1) n1 n 0 0 = some y → (∀ k, k < n → fewN (fewOk l0 ts1) n1 k 0 0 = none) → fewOf l0 ts1 = (filtN (fun i => y.testBit i) n1, 0)) := fun n y hy hb => by
      rw [HG, ← fewN_eq (by omega) HALL hy hb]
    have HNO : Hid (∀ n, n ≤ n1 → fewN (fewOk l0 ts1) n1 n 0 0 = none → (∀ k, k < n → fewN (fewOk l0 ts1) n1 k 0 0 = none) → n < n1) := fun n hn hy hb => by
      rcases Nat.lt_or_ge n n1 with h | h
      · exact h
      · exfalso
        have : n = n1 := by omega
        subst this
        exact fewN_all (by omega) HALL fun k hk => if e : k = n then (by rw [e]; exact hy) else hb k (by omega)
    have FE : Hid (∀ (n g : Nat) (W : World), n ≤ n1 → Below w.heap.size w W → W.ownsRow w.heap.size 2 1 (.slice (some ⟨g, 0, none⟩) 0 0) 0 [] → Calls Tryd.prog 73 #[.slice (some ⟨b0, o0, none⟩) n0 c0, .slice (some ⟨b1, o1, none⟩) n1 c1, .slice (some ⟨g, 0, none⟩) 0 0, .int .i64 0, .int .i64 (n : Int)] W (GivesFe w.heap.size n1 (fewN (fewOk l0 ts1) n1 n 0 0) W)) := fun n g W hn hW ho => by
      have hz : filtN (fun i => Nat.testBit 0 i) n1 = [] := filtN_skip (Nat.zero_le _) fun i _ _ => Nat.zero_testBit i
      exact l10Fewest_any w b0 o0 b1 o1 n0 n1 c0 c1 l0 ts1 hn0 hn1 h0 h1 (by omega) hs0 hm8 h2 h3 n 0 0 g 0 0 W (by decide) (Nat.zero_le _) hn hW (by unfold Hid; rw [hz]; rfl) (by rw [hz]; exact ho)
    clear hv h0 h1 h2 h3 HALL HG h4
    generalize fewOf l0 ts1 = res at HEQ
    generalize hf : (fun n => fewN (fewOk l0 ts1) n1 n 0 0) = F
    have hfa : ∀ n, fewN (fewOk l0 ts1) n1 n 0 0 = F n := fun n => congrFun hf n
    simp only [hfa] at HEQ HNO FE
    clear hf hfa
    go_enter Tryd.func38, Tryd.ntmps38
    go_wp2_with (go_at_call 58; refine OK.mono ?_; rintro e w1 ⟨rfl, hb1⟩)
    go_loopw [6] (fun iv wr => ∃ n : Nat, n ≤ n1 ∧ iv = .int .i64 (n : Int) ∧ Hid (Below w.heap.size w wr) ∧ Hid (∀ k, k < n → F k = none)) (fun iv _ => n1 - (intOf iv).toNat)
    case atStart => exact ⟨0, by omega, rfl, hb1, fun k hk => by omega⟩
    case round =>
      obtain ⟨n, hn, rfl, HBEL, HNONE⟩ := hrel
      have hi0 : (0 : Int) ≤ (n : Int) := by omega
      have hws := HBEL.out.size
      have FEn := Lib.hid (FE.out n wr.heap.size (wr.alloc (.cells #[] 2)) hn (HBEL.out.alloc hws _) (World.ownsRow_made wr #[] 0 hws (by unfold maxLen; omega) rfl))
      have HNn := Lib.hid (fun h => HNO.out n hn h HNONE.out)
      have HEn := Lib.hid (fun y h => HEQ.out n y h HNONE.out)
      have HNX : Hid (F n = none → ∀ k, k < n + 1 → F k = none) := fun h k hk => if e : k = n then (by rw [e]; exact h) else HNONE.out k (by omega)
      clear FE HNO HEQ
      generalize hfn : F n = fn at FEn HNn HEn HNX
      clear hfn
      cases fn with
      | none =>
        have hlt := HNn.out rfl
        have HN := Lib.hid (HNX.out rfl)
        clear HNn HEn HNX
        go_wp2_with (go_at_call 73; refine FEn.out.mono ?_; rintro e w7 ⟨hb7, v, rfl⟩)
        go_roundw
        case rel => exact ⟨n + 1, by omega, by go_num, two_worlds (HBEL.out.alloc hws _) hb7, HN⟩
        case measure => simp [intOf]; omega
      | some y =>
        have HR := Lib.hid (HEn.out y rfl)
        clear HNn HEn HNX
        go_wp2_with (go_at_call 73; refine FEn.out.mono ?_; rintro e w7 ⟨hb7, g7, cap7, k7, rfl, hk7, ho7⟩)
        go_ret2
        exact givesIs_of HR.out (two_worlds (HBEL.out.alloc hws _) hb7) hk7.out ho7.out
end Go.Proofs.YtkfeihnapcfkgaaDoor
