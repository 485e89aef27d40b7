/-
  ReadyAt: the model's walk (l09Ready) and the program's (closures over the histories, slices.ContainsFunc).
-/
import Derived.Test.YtfejgckimlgopaaSelZ
import Derived.Test.YtfejgckimlgopaaCrossed
namespace Go.Proofs.Ytfejgckimlgopaa
open Go.RowKit

def zOf (t : TZoned) (u : Int) : Int := t.2.1.getD u.toNat 0
def offB (t : TZoned) (tick u : Int) : Bool := levH (hisL t.2.2 (zOf t u)) tick == 0
/-- All zones of the way have pressure. -/
def rdB (t : TZoned) (way : List Int) (tick : Int) : Bool := !(way.any (offB t tick))
noncomputable def readyC (t : TZoned) (way : List Int) (fr : Int) : Int := rangeCode (wayC t way) fr 10000
def findR : Option C3 → Int × Int
  | some c => (c.1, 0)
  | none => (0, 3)
noncomputable def readyR (t : TZoned) (way : List Int) (fr : Int) : Int × Int :=
  if readyC t way fr = 0 then (if rdB t way fr = true then (fr, 0) else findR (t.2.2.find? (fun c => decide (fr < c.1) && rdB t way c.1))) else (0, readyC t way fr)
theorem zOf_at {t : TZoned} {j : Nat} (hj : j < t.2.1.length) : zOf t (j : Int) = t.2.1[j] := by
  unfold zOf
  rw [Int.toNat_natCast, List.getD_eq_getElem?_getD, List.getElem?_eq_getElem hj]
  rfl
theorem any_at {α : Type} {f : α → Bool} {l : List α} {k : Nat} (hk : k < l.length) (h : f l[k] = true) : l.any f = true := by
  rw [List.any_eq_true]
  exact ⟨_, List.getElem_mem hk, h⟩
theorem any_not {α : Type} {f : α → Bool} {l : List α} (h : ∀ k (hk : k < l.length), f l[k] = false) : l.any f = false := by
  rw [List.any_eq_false]
  intro x hx
  obtain ⟨k, hk, rfl⟩ := List.getElem_of_mem hx
  rw [h k hk]
  simp
def InWay (t : TZoned) (way : List Int) : Prop := ∀ i (h : i < way.length), ∃ j : Nat, way[i] = (j : Int) ∧ j < t.2.1.length
set_option maxHeartbeats 2000000 in
theorem l09Ready_any (zb : Nat) (t : TZoned) (a b : Option Addr) (n c m d : Nat) (x : Option Addr) (way : List Int) (q cq : Nat) (tick : Int) (w : World) (hz : ZArg w a n b m t) (hp : t.2.2.Pairwise ltC) (hq : Hid (way.length = q)) (hx : RI w x way) (hqm : q ≤ 1048576) (hin : InWay t way)
    (p1 : w.cell? ⟨zb, 1, none⟩ = some (.slice a n c)) (p2 : w.cell? ⟨zb, 2, none⟩ = some (.slice b m d)) :
    Calls Try.prog 81 #[.pointer (some ⟨zb, 0, none⟩), .slice x q cq, .int .i64 tick] w fun e w' => e = .returned (.bool (rdB t way tick)) ∧ Below w.heap.size w w' := by
  have P1 : Hid (∀ w', Below w.heap.size w w' → w'.cell? ⟨zb, 1, none⟩ = some (.slice a n c)) := fun w' h => keepS h p1
  have HX : Hid (∀ w', Below w.heap.size w w' → RI w' x way) := fun w' h => hx.below h
  have HA : Hid (∀ w', Below w.heap.size w w' → RI w' a t.2.1) := fun w' h => hz.ha.below h
  have HIN := Lib.hid hin
  have LV : Hid (∀ W, Below w.heap.size w W → ∀ z, Calls Try.prog 72 #[.pointer (some ⟨zb, 0, none⟩), .int .i64 z, .int .i64 tick] W fun e w' => e = .returned (.int .i64 (levH (hisL t.2.2 z) tick)) ∧ W = w') := fun W h z => l09Level_any zb t b m d z tick W hz.hm (hz.hb.below h) hz.hs2 hp (keepS h p2)
  have hn := hz.hn
  have hs := hz.hs
  clear hz p1 p2 hx hin hp
  go_enter Try.func81, Try.ntmps81
  go_wp2
  go_loopw [7] (fun i wr => ∃ k : Nat, k ≤ q ∧ i = .int .i64 k ∧ Hid (Below w.heap.size w wr) ∧ Hid (∀ j (h : j < way.length), j < k → offB t tick way[j] = false)) (fun i _ => q - (intOf i).toNat)
  case atStart => exact ⟨0, by omega, rfl, Below.refl _ _, fun j _ hj => by omega⟩
  case round =>
    obtain ⟨k, hk, rfl, HBEL, HALL⟩ := hrel
    have p1 := P1.out _ HBEL.out
    by_cases hlt : k < q
    · have hka : k < way.length := by rw [hq.out]; exact hlt
      have HBAD : Hid (offB t tick way[k] = true → rdB t way tick = false) := fun h => by unfold rdB; rw [any_at hka h]; rfl
      have HOK : Hid (offB t tick way[k] = false → ∀ j (h : j < way.length), j < k + 1 → offB t tick way[j] = false) := fun ht j h hj => if e : j = k then (by subst e; exact ht) else HALL.out j h (by omega)
      obtain ⟨j, hj, hjn⟩ := HIN.out k hka
      obtain ⟨bx, ox, rfl, _, x0⟩ := (HX.out _ HBEL.out).at_ k hka
      obtain ⟨ba, oa, rfl, _, y0⟩ := (HA.out _ HBEL.out).at_ j hjn
      have hoff : offB t tick way[k] = (levH (hisL t.2.2 t.2.1[j]) tick == 0) := by unfold offB; rw [hj, zOf_at hjn]
      rw [hoff] at HBAD HOK
      rw [hj] at x0
      rw [hn.out] at hjn
      have L2 : Hid (∀ W, Below w.heap.size w W → Calls Try.prog 72 #[.pointer (some ⟨zb, 0, none⟩), .int .i64 t.2.1[j], .int .i64 tick] W fun e w' => e = .returned (.int .i64 (levH (hisL t.2.2 t.2.1[j]) tick)) ∧ W = w') := fun W h => LV.out W h _
      generalize levH (hisL t.2.2 t.2.1[j]) tick = lv at HBAD HOK L2
      generalize t.2.1[j] = u at y0 L2
      have hk0 : (0 : Int) ≤ (k : Int) := by omega
      have hk1 : (k : Int) < (q : Int) := by omega
      have hj0 : (j : Int) < (n : Int) := by omega
      clear hoff hj
      rcases eq_ways lv 0 with ⟨⟨g1, g2⟩, g3⟩ | ⟨⟨g1, g2⟩, g3⟩
      · have HR := Lib.hid (HBAD.out g1)
        clear HOK HBAD g3
        go_wp2_with fail
        go_region_held3 (fun w' => w'.cell? ⟨zb, 1, none⟩ = some (.slice (some ⟨ba, oa, none⟩) n c) ∧ w'.cell? ⟨bx, ox + k, none⟩ = some (.int .i64 (j : Int)) ∧ w'.cell? ⟨ba, oa + j, none⟩ = some (.int .i64 u)) (first | exact ⟨p1, x0, y0⟩) (first | (go_at_call 72; refine (L2.out _ HBEL.out.drew).mono ?_; rintro e w' ⟨rfl, rfl⟩))
        go_wp2
        go_ret
        exact ⟨ret_bool HR.out.symm, HBEL.out.drew⟩
      · have HOK2 := Lib.hid (HOK.out g1)
        clear HOK HBAD g3
        go_wp2_with fail
        go_region_held3 (fun w' => w'.cell? ⟨zb, 1, none⟩ = some (.slice (some ⟨ba, oa, none⟩) n c) ∧ w'.cell? ⟨bx, ox + k, none⟩ = some (.int .i64 (j : Int)) ∧ w'.cell? ⟨ba, oa + j, none⟩ = some (.int .i64 u)) (first | exact ⟨p1, x0, y0⟩) (first | (go_at_call 72; refine (L2.out _ HBEL.out.drew).mono ?_; rintro e w' ⟨rfl, rfl⟩))
        go_wp2
        go_roundw
        case rel => exact ⟨k + 1, by omega, by go_num, HBEL.out.drew, HOK2⟩
        case measure => simp [intOf]; omega
    · have HR : Hid (rdB t way tick = true) := by
        unfold Hid rdB
        rw [any_not (fun j hj => HALL.out j hj (by rw [hq.out] at hj; omega))]
        rfl
      go_wp2
      go_ret
      exact ⟨ret_bool HR.out.symm, HBEL.out⟩
/-- What the closures of ReadyAt find in memory. -/
structure RdM (W : World) (wb hb zb B nn : Nat) (V : Int → Value) (t : TZoned) (way : List Int) (x : Option Addr) (q cq : Nat) (a : Option Addr) (n c : Nat) : Prop where
  cw : W.cell? ⟨wb, 0, none⟩ = some (.slice x q cq)
  ch : W.cell? ⟨hb, 0, none⟩ = some (.map (some B))
  cz : W.cell? ⟨zb, 1, none⟩ = some (.slice a n c)
  hV : Hist V B nn t.2.2 W
  hx : RI W x way
  ha : RI W a t.2.1
theorem RdM.below {W W' : World} {wb hb zb B nn : Nat} {V : Int → Value} {t : TZoned} {way : List Int} {x : Option Addr} {q cq : Nat} {a : Option Addr} {n c : Nat} (h : RdM W wb hb zb B nn V t way x q cq a n c) (hb' : Below W.heap.size W W') : RdM W' wb hb zb B nn V t way x q cq a n c :=
  ⟨keepS hb' h.cw, keepS hb' h.ch, keepS hb' h.cz, h.hV.below hb', h.hx.below hb', h.ha.below hb'⟩
set_option maxHeartbeats 2000000 in
theorem offFn_any (wb hb zb B nn tb : Nat) (V : Int → Value) (t : TZoned) (way : List Int) (x : Option Addr) (q cq : Nat) (a : Option Addr) (n c : Nat) (tick : Int) (j : Nat) (W : World) (hM : RdM W wb hb zb B nn V t way x q cq a n c) (hp : t.2.2.Pairwise ltC) (hl : t.2.2.length ≤ 1048576) (hn : Hid (t.2.1.length = n)) (_hs : n ≤ 1048576) (wf : Hid (wfZoned t)) (hj : j < t.2.1.length) (ct : W.cell? ⟨tb, 0, none⟩ = some (.int .i64 tick)) :
    Calls Try.prog 77 #[.int .i64 (j : Int), .pointer (some ⟨hb, 0, none⟩), .pointer (some ⟨zb, 0, none⟩), .pointer (some ⟨tb, 0, none⟩)] W fun e w' => e = .returned (.bool (offB t tick (j : Int))) ∧ Below W.heap.size W w' := by
  have ch := hM.ch
  have cz := hM.cz
  obtain ⟨ba, oa, rfl, _, y0⟩ := hM.ha.at_ j hj
  have hwf : (Lit.int .i64 t.2.1[j]).wf = true := wf.out.2.1 _ (List.getElem_mem hj)
  have HR : Hid (offB t tick (j : Int) = (levH (hisL t.2.2 t.2.1[j]) tick == 0)) := by unfold Hid offB; rw [zOf_at hj]
  obtain ⟨ah, chh, hv, _⟩ := hM.hV.2.shape t.2.1[j]
  have HLK : Hid (∀ W', Below W.heap.size W W' → (Instr.lookup 85 (.map (some B)) (.int .i64 t.2.1[j]) false).run Try.prog W' = .ok (.slice ah (hisL t.2.2 t.2.1[j]).length chh) W') := fun W' h => by
    have := (hM.hV.below h).1.look Try.underlying2 Try.underlying85 (zeroHist W') hwf
    rw [hv] at this
    exact this
  have LV : Hid (∀ W', Below W.heap.size W W' → Calls Try.prog 78 #[.slice ah (hisL t.2.2 t.2.1[j]).length chh, .int .i64 tick] W' fun e w' => e = .returned (.int .i64 (levH (hisL t.2.2 t.2.1[j]) tick)) ∧ Below W'.heap.size W' w') := fun W' h => by
    obtain ⟨ah', ch', hv', hr'⟩ := (hM.hV.below h).2.shape t.2.1[j]
    rw [hv] at hv'
    injection hv' with h1 h2 h3
    subst h1 h3
    exact levelAt_any (hisL t.2.2 t.2.1[j]) ah _ chh tick W' (Lib.hid rfl) (Nat.le_trans (hisL_len _ _) hl) (hisL_rising hp _) hr'
  rw [hn.out] at hj
  generalize (hisL t.2.2 t.2.1[j]).length = hlen at HLK LV
  generalize levH (hisL t.2.2 t.2.1[j]) tick = lv at LV HR
  generalize t.2.1[j] = u at y0 HLK
  have hj0 : (j : Int) < (n : Int) := by omega
  clear hM hv hwf wf hp
  go_enter Try.func77, Try.ntmps77
  go_wp2_with fail
  go_region_held3 (fun w' => w'.cell? ⟨hb, 0, none⟩ = some (.map (some B)) ∧ w'.cell? ⟨zb, 1, none⟩ = some (.slice (some ⟨ba, oa, none⟩) n c) ∧ w'.cell? ⟨ba, oa + j, none⟩ = some (.int .i64 u) ∧ w'.cell? ⟨tb, 0, none⟩ = some (.int .i64 tick)) (first | exact ⟨ch, cz, y0, ct⟩ | exact ⟨keepS hb3 ch, keepS hb3 cz, keepS hb3 y0, keepS hb3 ct⟩) (first | (with_reducible refine upon_run (HLK.out _ ?_) ?_; (focus ((repeat (first | exact Below.refl _ _ | refine Below.drew ?_ | refine Below.drewN' ?_ _ | refine Below.alloc ?_ (by first | (simp; done) | (simp; omega)) _ | refine Below.setCell ?_ (by first | (simp; done) | (simp; omega)) _)); done))) | (go_at_call 78; refine (LV.out _ (by (repeat (first | exact Below.refl _ _ | refine Below.drew ?_ | refine Below.drewN' ?_ _ | refine Below.alloc ?_ (by first | (simp; done) | (simp; omega)) _ | refine Below.setCell ?_ (by first | (simp; done) | (simp; omega)) _)); done)).mono ?_; rintro e w3 ⟨rfl, hb3⟩))
  all_goals
    have HB3 : Hid (Below W.heap.size W w3) := (Below.refl _ _).drew.trans hb3
    clear hb3
    go_wp2
    go_ret
    exact ⟨ret_bool HR.out.symm, HB3.out⟩
set_option maxHeartbeats 2000000 in
theorem idxOff_any (wb hb zb B nn tb : Nat) (V : Int → Value) (t : TZoned) (way : List Int) (x : Option Addr) (q cq : Nat) (a : Option Addr) (n c : Nat) (tick : Int) (W : World) (hM : RdM W wb hb zb B nn V t way x q cq a n c) (hp : t.2.2.Pairwise ltC) (hl : t.2.2.length ≤ 1048576) (hn : Hid (t.2.1.length = n)) (hs : n ≤ 1048576) (wf : Hid (wfZoned t)) (hq : Hid (way.length = q)) (hqm : q ≤ 1048576) (hin : InWay t way) (ct : W.cell? ⟨tb, 0, none⟩ = some (.int .i64 tick)) :
    Calls Try.prog 109 #[.slice x q cq, .func (.func 77) #[] #[.pointer (some ⟨hb, 0, none⟩), .pointer (some ⟨zb, 0, none⟩), .pointer (some ⟨tb, 0, none⟩)]] W fun e w' => (∃ r : Int, e = .returned (.int .i64 r) ∧ Hid (decide (0 ≤ r) = way.any (offB t tick))) ∧ Below W.heap.size W w' := by
  have HF : Hid (∀ W', Below W.heap.size W W' → ∀ j, j < t.2.1.length → Calls Try.prog 77 #[.int .i64 (j : Int), .pointer (some ⟨hb, 0, none⟩), .pointer (some ⟨zb, 0, none⟩), .pointer (some ⟨tb, 0, none⟩)] W' fun e w' => e = .returned (.bool (offB t tick (j : Int))) ∧ Below W'.heap.size W' w') := fun W' h j hj => offFn_any wb hb zb B nn tb V t way x q cq a n c tick j W' (hM.below h) hp hl hn hs wf hj (keepS h ct)
  have HX : Hid (∀ W', Below W.heap.size W W' → RI W' x way) := fun W' h => hM.hx.below h
  have HIN := Lib.hid hin
  clear hM ct hin hp
  go_enter Try.func109, Try.ntmps109
  go_wp2
  go_loopw [8] (fun i wr => ∃ k : Nat, k ≤ q ∧ i = .int .i64 k ∧ Hid (Below W.heap.size W wr) ∧ Hid (∀ j (h : j < way.length), j < k → offB t tick way[j] = false)) (fun i _ => q - (intOf i).toNat)
  case atStart => exact ⟨0, by omega, rfl, Below.refl _ _, fun j _ hj => by omega⟩
  case round =>
    obtain ⟨k, hk, rfl, HBEL, HALL⟩ := hrel
    by_cases hlt : k < q
    · have hka : k < way.length := by rw [hq.out]; exact hlt
      have HBAD : Hid (offB t tick way[k] = true → decide (0 ≤ (k : Int)) = way.any (offB t tick)) := fun h => by rw [any_at hka h]; simp
      have HOK : Hid (offB t tick way[k] = false → ∀ j (h : j < way.length), j < k + 1 → offB t tick way[j] = false) := fun ht j h hj => if e : j = k then (by subst e; exact ht) else HALL.out j h (by omega)
      obtain ⟨j, hj, hjn⟩ := HIN.out k hka
      obtain ⟨bx, ox, rfl, _, x0⟩ := (HX.out _ HBEL.out).at_ k hka
      rw [hj] at x0 HBAD HOK
      have HC := Lib.hid (HF.out wr HBEL.out j hjn)
      have hk0 : (0 : Int) ≤ (k : Int) := by omega
      have hk1 : (k : Int) < (q : Int) := by omega
      clear hj
      cases ho : offB t tick (j : Int) with
      | true =>
        have HR := Lib.hid (HBAD.out ho)
        rw [ho] at HC
        clear HBAD HOK ho
        go_wp2_with fail
        refine HC.out.mono ?_
        rintro e w2 ⟨rfl, hb2⟩
        have HB2 : Hid (Below W.heap.size W w2) := HBEL.out.trans (hb2.mono HBEL.out.size)
        clear hb2 x0
        go_wp2
        go_ret
        exact ⟨⟨_, rfl, HR⟩, HB2.out⟩
      | false =>
        have HN := Lib.hid (HOK.out ho)
        rw [ho] at HC
        clear HBAD HOK ho
        go_wp2_with fail
        refine HC.out.mono ?_
        rintro e w2 ⟨rfl, hb2⟩
        have HB2 : Hid (Below W.heap.size W w2) := HBEL.out.trans (hb2.mono HBEL.out.size)
        clear hb2 x0
        go_wp2
        go_roundw
        case rel => exact ⟨k + 1, by omega, by go_num, HB2, HN⟩
        case measure => simp [intOf]; omega
    · have HR : Hid (decide (0 ≤ (-1 : Int)) = way.any (offB t tick)) := by
        unfold Hid
        rw [any_not (fun j hj => HALL.out j hj (by rw [hq.out] at hj; omega))]
        rfl
      go_wp2
      go_ret
      exact ⟨⟨_, rfl, HR⟩, HBEL.out⟩
theorem hasOff_any (wb hb zb B nn tb : Nat) (V : Int → Value) (t : TZoned) (way : List Int) (x : Option Addr) (q cq : Nat) (a : Option Addr) (n c : Nat) (tick : Int) (W : World) (hM : RdM W wb hb zb B nn V t way x q cq a n c) (hp : t.2.2.Pairwise ltC) (hl : t.2.2.length ≤ 1048576) (hn : Hid (t.2.1.length = n)) (hs : n ≤ 1048576) (wf : Hid (wfZoned t)) (hq : Hid (way.length = q)) (hqm : q ≤ 1048576) (hin : InWay t way) (ct : W.cell? ⟨tb, 0, none⟩ = some (.int .i64 tick)) :
    Calls Try.prog 76 #[.slice x q cq, .func (.func 77) #[] #[.pointer (some ⟨hb, 0, none⟩), .pointer (some ⟨zb, 0, none⟩), .pointer (some ⟨tb, 0, none⟩)]] W fun e w' => e = .returned (.bool (way.any (offB t tick))) ∧ Below W.heap.size W w' := by
  have HI := Lib.hid (idxOff_any wb hb zb B nn tb V t way x q cq a n c tick W hM hp hl hn hs wf hq hqm hin ct)
  clear hM ct hin hp wf
  go_enter Try.func76, Try.ntmps76
  go_wp2_with fail
  refine HI.out.mono ?_
  rintro e w1 ⟨⟨r, rfl, HR⟩, hb1⟩
  go_wp2
  go_ret
  exact ⟨ret_bool HR.out, hb1⟩
theorem readyFn_any (wb hb zb B nn : Nat) (V : Int → Value) (t : TZoned) (way : List Int) (x : Option Addr) (q cq : Nat) (a : Option Addr) (n c : Nat) (tick : Int) (W : World) (hM : RdM W wb hb zb B nn V t way x q cq a n c) (hp : t.2.2.Pairwise ltC) (hl : t.2.2.length ≤ 1048576) (hn : Hid (t.2.1.length = n)) (hs : n ≤ 1048576) (wf : Hid (wfZoned t)) (hq : Hid (way.length = q)) (hqm : q ≤ 1048576) (hin : InWay t way) :
    Calls Try.prog 75 #[.int .i64 tick, .pointer (some ⟨wb, 0, none⟩), .pointer (some ⟨hb, 0, none⟩), .pointer (some ⟨zb, 0, none⟩)] W fun e w' => e = .returned (.bool (rdB t way tick)) ∧ Below W.heap.size W w' := by
  have cw := hM.cw
  have hwl : wb < W.heap.size := World.block_lt_of_cell? _ _ cw
  have HC : Hid (∀ W', Below W.heap.size W W' → W'.cell? ⟨W.heap.size, 0, none⟩ = some (.int .i64 tick) → Calls Try.prog 76 #[.slice x q cq, .func (.func 77) #[] #[.pointer (some ⟨hb, 0, none⟩), .pointer (some ⟨zb, 0, none⟩), .pointer (some ⟨W.heap.size, 0, none⟩)]] W' fun e w' => e = .returned (.bool (way.any (offB t tick))) ∧ Below W'.heap.size W' w') := fun W' h ct => hasOff_any wb hb zb B nn W.heap.size V t way x q cq a n c tick W' (hM.below h) hp hl hn hs wf hq hqm hin ct
  clear hM hp wf hin
  go_enter Try.func75, Try.ntmps75
  go_wp2_with fail
  refine (HC.out _ (by repeat (first | exact Below.refl _ _ | refine Below.alloc ?_ (by simp; try omega) _ | refine Below.setCell ?_ (by simp; try omega) _)) (by simp [go_sem])).mono ?_
  rintro e w1 ⟨rfl, hb1⟩
  go_wp2
  go_ret
  exact ⟨rfl, Below.trans (by repeat (first | exact Below.refl _ _ | refine Below.alloc ?_ (by simp; try omega) _ | refine Below.setCell ?_ (by simp; try omega) _)) (hb1.mono (by simp))⟩
theorem find_hit {α : Type} {p : α → Bool} {l : List α} {k : Nat} (hk : k < l.length) (h : p l[k] = true) : (l.drop k).find? p = some l[k] := by
  rw [List.drop_eq_getElem_cons hk, List.find?_cons_of_pos h]
theorem find_miss {α : Type} {p : α → Bool} {l : List α} {k : Nat} (hk : k < l.length) (h : p l[k] = false) : (l.drop k).find? p = (l.drop (k + 1)).find? p := by
  rw [List.drop_eq_getElem_cons hk, List.find?_cons_of_neg (by rw [h]; simp)]
set_option maxRecDepth 20000 in
set_option maxHeartbeats 4000000 in
theorem specReadyAt_any (w : World) {a b : Option Addr} {n c m d : Nat} (t : TZoned) (hn : Hid (t.2.1.length = n)) (ha : RI w a t.2.1) (hs : n ≤ 1048576) (hm : Hid (t.2.2.length = m)) (hb : RR 3 cChange w b t.2.2) (hs2 : m ≤ 1048576) (wf : Hid (wfZoned t))
    {x : Option Addr} {q cq : Nat} (way : List Int) (hq : Hid (way.length = q)) (hx : RI w x way) (hqm : q ≤ 1048576) (_wfw : Hid (∀ k ∈ way, (Lit.int .i64 k).wf = true)) (f2 : Int) (_wf2 : (Lit.int .i64 f2).wf = true) :
    Calls Try.prog 21 #[.agg #[.int .i64 t.1, .slice a n c, .slice b m d], .slice x q cq, .int .i64 f2] w fun e w' => e = .returned (.tuple #[.int .i64 (readyR t way f2).1, .int .i64 (readyR t way f2).2]) ∧ Below w.heap.size w w' := by
  have HZ : Hid (∀ w', Below w.heap.size w w' → ZArg w' a n b m t) := fun w' h => (ZArg.mk hn ha hs hm hb hs2 wf).below h
  have HX : Hid (∀ w', Below w.heap.size w w' → RI w' x way) := fun w' h => hx.below h
  have HB : Hid (∀ w', Below w.heap.size w w' → RR 3 cChange w' b t.2.2) := fun w' h => hb.below h
  have ZB := Lib.hid (zbox w t.1 a n c b m d)
  clear ha hb hx
  go_enter Try.func21, Try.ntmps21
  go_wp2_with fail
  refine (l09Way_any _ t a b n c m d x way q cq _ (HZ.out _ (by repeat (first | exact Below.refl _ _ | refine Below.alloc ?_ (by simp; try omega) _ | refine Below.setCell ?_ (by simp; try omega) _))) hq (HX.out _ (by repeat (first | exact Below.refl _ _ | refine Below.alloc ?_ (by simp; try omega) _ | refine Below.setCell ?_ (by simp; try omega) _))) hqm (by simp [go_sem]) (by simp [go_sem]) (by simp [go_sem])).mono ?_
  rintro e w1 ⟨rfl, hb1⟩
  have HB1 : Hid (Below w.heap.size w w1) := Below.trans (by repeat (first | exact Below.refl _ _ | refine Below.alloc ?_ (by simp; try omega) _ | refine Below.setCell ?_ (by simp; try omega) _)) (hb1.mono (by simp))
  have Z1 : Hid (∀ w', Below w1.heap.size w1 w' → w'.cell? ⟨w.heap.size, 1, none⟩ = some (.slice a n c) ∧ w'.cell? ⟨w.heap.size, 2, none⟩ = some (.slice b m d)) := fun w' h => (ZB.out _ (hb1.trans (h.mono hb1.size))).2
  have hw1 := HB1.out.size
  clear hb1
  rcases eq_ways (wayC t way) 0 with ⟨⟨e1, e2⟩, e3⟩ | ⟨⟨e1, e2⟩, e3⟩
  · cases ht : inB f2 0 10000 with
    | false =>
      have HR : Hid (readyR t way f2 = (0, 2)) := by
        have : readyC t way f2 = 2 := by unfold readyC rangeCode; rw [if_pos e3, ht]; rfl
        unfold Hid readyR; rw [this]; rfl
      rw [e3]
      clear e3 e1 e2
      go_wp2_with (go_at_call 80; refine (l09Tick_any _ _).mono ?_; rintro e w' ⟨rfl, rfl⟩)
      go_ret2
      rw [HR.out]
      exact ⟨rfl, HB1.out⟩
    | true =>
      have HR : Hid (readyR t way f2 = if rdB t way f2 = true then (f2, 0) else findR (t.2.2.find? (fun c => decide (f2 < c.1) && rdB t way c.1))) := by
        have : readyC t way f2 = 0 := by unfold readyC rangeCode; rw [if_pos e3, ht]; rfl
        unfold Hid readyR; rw [if_pos this]
      obtain ⟨hzp, _, hin⟩ := wayC_ok e3
      have hfew : m ≤ 60 := by have := hzp.2.2.2.1; rw [hm.out] at this; exact this
      have RD : Hid (∀ W, Below w1.heap.size w1 W → ∀ tick, Calls Try.prog 81 #[.pointer (some ⟨w.heap.size, 0, none⟩), .slice x q cq, .int .i64 tick] W fun e w' => e = .returned (.bool (rdB t way tick)) ∧ Below W.heap.size W w') := fun W h tick =>
        l09Ready_any w.heap.size t a b n c m d x way q cq tick W (HZ.out _ (HB1.out.trans (h.mono hw1))) (zon_pairs hzp) hq (HX.out _ (HB1.out.trans (h.mono hw1))) hqm hin (Z1.out _ h).1 (Z1.out _ h).2
      rw [e3]
      clear e3 e1 e2 hzp hin
      have RD0 := Lib.hid (RD.out w1 (Below.refl _ _) f2)
      cases hr : rdB t way f2 with
      | true =>
        rw [hr] at RD0 HR
        clear hr
        go_wp2_with (go_at_call 80; refine (l09Tick_any _ _).mono ?_; rintro e w' ⟨rfl, rfl⟩)
        refine RD0.out.mono ?_
        rintro e w2 ⟨rfl, hb2⟩
        have HB2 : Hid (Below w.heap.size w w2) := HB1.out.trans (hb2.mono hw1)
        clear hb2
        go_wp2
        go_ret2
        rw [HR.out]
        exact ⟨rfl, HB2.out⟩
      | false =>
        rw [hr, if_neg (by simp)] at HR
        rw [hr] at RD0
        clear hr
        go_wp2_with (go_at_call 80; refine (l09Tick_any _ _).mono ?_; rintro e w' ⟨rfl, rfl⟩)
        refine RD0.out.mono ?_
        rintro e w2 ⟨rfl, hb2⟩
        have HB2 := Lib.hid hb2
        have hw2 := hb2.size
        clear hb2
        go_wp2
        go_loopw [9] (fun i wr => ∃ (k : Nat), k ≤ m ∧ i = .int .i64 (k : Int) ∧ Hid (t.2.2.find? (fun c => decide (f2 < c.1) && rdB t way c.1) = (t.2.2.drop k).find? (fun c => decide (f2 < c.1) && rdB t way c.1)) ∧ Hid (Below w1.heap.size w1 wr)) (fun i _ => m - (intOf i).toNat)
        case atStart => exact ⟨0, by omega, rfl, by unfold Hid; rw [List.drop_zero], HB2⟩
        case round =>
          obtain ⟨k, hk, rfl, HT, HBEL⟩ := hrel
          have HBW : Hid (Below w.heap.size w wr) := HB1.out.trans (HBEL.out.mono hw1)
          have hwr := HBEL.out.size
          obtain ⟨p1, p2⟩ := Z1.out _ HBEL.out
          by_cases hlt : k < m
          · have hka : k < t.2.2.length := by rw [hm.out]; exact hlt
            obtain ⟨bb, ob, rfl, hbl, hx⟩ := (HB.out _ HBW.out).at_ k hka
            have x0 := hx 0 _ rfl
            simp only [Nat.add_zero] at x0
            have HHIT : Hid ((decide (f2 < (t.2.2[k]).1) && rdB t way (t.2.2[k]).1) = true → t.2.2.find? (fun c => decide (f2 < c.1) && rdB t way c.1) = some t.2.2[k]) := fun h => by rw [HT.out]; exact find_hit hka h
            have HMISS : Hid ((decide (f2 < (t.2.2[k]).1) && rdB t way (t.2.2[k]).1) = false → t.2.2.find? (fun c => decide (f2 < c.1) && rdB t way c.1) = (t.2.2.drop (k + 1)).find? (fun c => decide (f2 < c.1) && rdB t way c.1)) := fun h => by rw [HT.out]; exact find_miss hka h
            have RK := Lib.hid (RD.out wr HBEL.out (t.2.2[k]).1)
            have X0 : Hid (∀ w', Below wr.heap.size wr w' → w'.cell? ⟨bb, ob + k * 3, none⟩ = some (.int .i64 (t.2.2[k]).1)) := fun w' h => keepS h x0
            generalize t.2.2[k] = u at x0 HHIT HMISS RK X0
            obtain ⟨u1, u2, u3⟩ := u
            dsimp only at x0 HHIT HMISS RK X0
            have hk0 : (0 : Int) ≤ (k : Int) := by omega
            have hk1 : (k : Int) < (m : Int) := by omega
            clear hx
            by_cases hg : f2 < u1
            · cases hr : rdB t way u1 with
              | true =>
                have HE := Lib.hid (HHIT.out (by rw [hr, decide_eq_true hg]; rfl))
                rw [hr] at RK
                clear HHIT HMISS HT hr
                go_wp2_with fail
                refine RK.out.mono ?_
                rintro e w3 ⟨rfl, hb3⟩
                have HB3 : Hid (Below w.heap.size w w3) := HBW.out.trans (hb3.mono HBW.out.size)
                have y0 := X0.out _ hb3
                obtain ⟨p1', p2'⟩ := Z1.out _ (HBEL.out.trans (hb3.mono hwr))
                clear hb3 x0 p1 p2
                go_wp2
                go_ret2
                rw [HR.out, HE.out]
                exact ⟨rfl, HB3.out⟩
              | false =>
                have HE := Lib.hid (HMISS.out (by rw [hr, decide_eq_true hg]; rfl))
                rw [hr] at RK
                clear HHIT HMISS HT hr
                go_wp2_with fail
                refine RK.out.mono ?_
                rintro e w3 ⟨rfl, hb3⟩
                have HB3 : Hid (Below w1.heap.size w1 w3) := HBEL.out.trans (hb3.mono hwr)
                clear hb3 x0 p1 p2
                go_wp2
                go_roundw
                case rel => exact ⟨k + 1, by omega, by go_num, HE, HB3⟩
                case measure => simp [intOf]; omega
            · have HE := Lib.hid (HMISS.out (by rw [decide_eq_false hg]; rfl))
              clear HHIT HMISS HT
              go_wp2
              go_roundw
              case rel => exact ⟨k + 1, by omega, by go_num, HE, HBEL⟩
              case measure => simp [intOf]; omega
          · have HE : Hid (t.2.2.find? (fun c => decide (f2 < c.1) && rdB t way c.1) = none) := by
              unfold Hid
              rw [HT.out, List.drop_of_length_le (by rw [hm.out]; omega)]
              rfl
            clear HT
            go_wp2
            go_ret2
            rw [HR.out, HE.out]
            exact ⟨rfl, HBW.out⟩
  · have HR : Hid (readyR t way f2 = (0, wayC t way)) := by
      have : readyC t way f2 = wayC t way := by unfold readyC; exact rangeCode_bad e3 _ _
      unfold Hid readyR; rw [this, if_neg e3]
    clear e3
    go_wp2
    go_ret2
    rw [HR.out]
    exact ⟨rfl, HB1.out⟩
set_option maxRecDepth 20000 in
set_option maxHeartbeats 4000000 in
theorem implReadyAt_any (w : World) {a b : Option Addr} {n c m d : Nat} (t : TZoned) (hn : Hid (t.2.1.length = n)) (ha : RI w a t.2.1) (hs : n ≤ 1048576) (hm : Hid (t.2.2.length = m)) (hb : RR 3 cChange w b t.2.2) (hs2 : m ≤ 1048576) (wf : Hid (wfZoned t))
    {x : Option Addr} {q cq : Nat} (way : List Int) (hq : Hid (way.length = q)) (hx : RI w x way) (hqm : q ≤ 1048576) (_wfw : Hid (∀ k ∈ way, (Lit.int .i64 k).wf = true)) (f2 : Int) (_wf2 : (Lit.int .i64 f2).wf = true) :
    Calls Try.prog 20 #[.agg #[.int .i64 t.1, .slice a n c, .slice b m d], .slice x q cq, .int .i64 f2] w fun e w' => e = .returned (.tuple #[.int .i64 (readyR t way f2).1, .int .i64 (readyR t way f2).2]) ∧ Below w.heap.size w w' := by
  have HZ : Hid (∀ w', Below w.heap.size w w' → ZArg w' a n b m t) := fun w' h => (ZArg.mk hn ha hs hm hb hs2 wf).below h
  have HX : Hid (∀ w', Below w.heap.size w w' → RI w' x way) := fun w' h => hx.below h
  have HA : Hid (∀ w', Below w.heap.size w w' → RI w' a t.2.1) := fun w' h => ha.below h
  have HB : Hid (∀ w', Below w.heap.size w w' → RR 3 cChange w' b t.2.2) := fun w' h => hb.below h
  have ZB : Hid (∀ w', Below ((w.alloc (.cells #[.int .i64 t.1, .slice a n c, .slice b m d] 27)).alloc (.cells #[.slice x q cq] 24)).heap.size ((w.alloc (.cells #[.int .i64 t.1, .slice a n c, .slice b m d] 27)).alloc (.cells #[.slice x q cq] 24)) w' → w'.cell? ⟨w.heap.size, 0, none⟩ = some (.int .i64 t.1) ∧ w'.cell? ⟨w.heap.size, 1, none⟩ = some (.slice a n c) ∧ w'.cell? ⟨w.heap.size, 2, none⟩ = some (.slice b m d) ∧ w'.cell? ⟨w.heap.size + 1, 0, none⟩ = some (.slice x q cq)) := fun w' h => ⟨keepS h (by simp [go_sem]), keepS h (by simp [go_sem]), keepS h (by simp [go_sem]), keepS h (by simp [go_sem])⟩
  clear ha hb hx
  go_enter Try.func20, Try.ntmps20
  go_wp2_with fail
  refine (checkZonedWay_any t a b n c m d x way q cq _ (HZ.out _ (by repeat (first | exact Below.refl _ _ | refine Below.alloc ?_ (by simp; try omega) _ | refine Below.setCell ?_ (by simp; try omega) _))) hq (HX.out _ (by repeat (first | exact Below.refl _ _ | refine Below.alloc ?_ (by simp; try omega) _ | refine Below.setCell ?_ (by simp; try omega) _))) hqm).mono ?_
  rintro e w1 ⟨rfl, hb1⟩
  have HB1 : Hid (Below w.heap.size w w1) := Below.trans (by repeat (first | exact Below.refl _ _ | refine Below.alloc ?_ (by simp; try omega) _ | refine Below.setCell ?_ (by simp; try omega) _)) (hb1.mono (by simp; omega))
  have Z1 : Hid (∀ w', Below w1.heap.size w1 w' → w'.cell? ⟨w.heap.size, 0, none⟩ = some (.int .i64 t.1) ∧ w'.cell? ⟨w.heap.size, 1, none⟩ = some (.slice a n c) ∧ w'.cell? ⟨w.heap.size, 2, none⟩ = some (.slice b m d) ∧ w'.cell? ⟨w.heap.size + 1, 0, none⟩ = some (.slice x q cq)) := fun w' h => ZB.out _ (hb1.trans (h.mono hb1.size))
  have hw1 := HB1.out.size
  obtain ⟨p0, p1, p2, p3⟩ := Z1.out _ (Below.refl _ _)
  clear hb1 ZB
  rcases eq_ways (rangeCode (wayC t way) f2 10000) 0 with ⟨⟨e1, e2⟩, e3⟩ | ⟨⟨e1, e2⟩, e3⟩
  · have HR : Hid (readyR t way f2 = if rdB t way f2 = true then (f2, 0) else findR (t.2.2.find? (fun c => decide (f2 < c.1) && rdB t way c.1))) := by
      unfold Hid readyR; rw [if_pos (show readyC t way f2 = 0 from e3)]
    obtain ⟨hzp, _, hin⟩ := wayC_ok (range_ok e3).1
    have HIN : Hid (InWay t way) := hin
    have HPW := Lib.hid (zon_pairs hzp)
    have hfew : m ≤ 60 := by have := hzp.2.2.2.1; rw [hm.out] at this; exact this
    have HO := Lib.hid (historiesOf_any t a b n c m d w1 (HZ.out _ HB1.out))
    go_wp2_with fail
    refine (checkRange_any _ _ _ _).mono ?_
    rintro e w' ⟨rfl, rfl⟩
    rw [e3]
    clear e3 e1 e2 hzp hin
    go_wp2_with fail
    refine HO.out.mono ?_
    rintro e w2 ⟨rfl, ⟨V, hV⟩, hb2⟩
    have HB2 : Hid (Below w.heap.size w w2) := HB1.out.trans (hb2.mono hw1)
    have Z2 : Hid (∀ w', Below w2.heap.size w2 w' → w'.cell? ⟨w.heap.size, 0, none⟩ = some (.int .i64 t.1) ∧ w'.cell? ⟨w.heap.size, 1, none⟩ = some (.slice a n c) ∧ w'.cell? ⟨w.heap.size, 2, none⟩ = some (.slice b m d) ∧ w'.cell? ⟨w.heap.size + 1, 0, none⟩ = some (.slice x q cq)) := fun w' h => Z1.out _ (hb2.trans (h.mono hb2.size))
    have hw2 := HB2.out.size
    obtain ⟨q0, q1, q2, q3⟩ := Z2.out _ (Below.refl _ _)
    have hlt0 : w.heap.size < w2.heap.size := World.block_lt_of_cell? _ _ q0
    have hlt1 : w.heap.size + 1 < w2.heap.size := World.block_lt_of_cell? _ _ q3
    have W3 : Hid (∀ W, Below (w2.alloc (.cells #[.map (some (w1.heap.size + 1))] 85)).heap.size (w2.alloc (.cells #[.map (some (w1.heap.size + 1))] 85)) W → ∀ tick, Calls Try.prog 75 #[.int .i64 tick, .pointer (some ⟨w.heap.size + 1, 0, none⟩), .pointer (some ⟨w2.heap.size, 0, none⟩), .pointer (some ⟨w.heap.size, 0, none⟩)] W fun e w' => e = .returned (.bool (rdB t way tick)) ∧ Below W.heap.size W w') := fun W h tick => by
      have hW : Below w2.heap.size w2 W := Below.trans ((Below.refl _ _).alloc (Nat.le_refl _) _) (h.mono (by simp))
      obtain ⟨y0, y1, y2, y3⟩ := Z2.out _ hW
      exact readyFn_any (w.heap.size + 1) w2.heap.size w.heap.size (w1.heap.size + 1) m V t way x q cq a n c tick W ⟨y3, keepS h (by simp [go_sem]), y1, hV.below hW, HX.out _ (HB2.out.trans (hW.mono hw2)), HA.out _ (HB2.out.trans (hW.mono hw2))⟩ HPW.out (by rw [hm.out]; exact hs2) hn hs wf hq hqm HIN.out
    clear hV hb2 HO p0 p1 p2 p3
    obtain ⟨wa, hwa⟩ : ∃ wa, wa = w2.alloc (.cells #[.map (some (w1.heap.size + 1))] 85) := ⟨_, rfl⟩
    have HBa : Hid (Below w.heap.size w wa) := by rw [hwa]; exact HB2.out.alloc hw2 _
    have Za : Hid (∀ w', Below wa.heap.size wa w' → w'.cell? ⟨w.heap.size, 2, none⟩ = some (.slice b m d)) := fun w' h => by
      rw [hwa] at h
      exact (Z2.out _ (Below.trans ((Below.refl _ _).alloc (Nat.le_refl _) _) (h.mono (by simp)))).2.2.1
    rw [← hwa] at W3
    have R0 := Lib.hid (W3.out wa (Below.refl _ _) f2)
    have hwal := HBa.out.size
    cases hr : rdB t way f2 with
    | true =>
      rw [hr] at R0 HR
      clear hr
      go_wp2_with fail
      rw [← hwa]
      refine R0.out.mono ?_
      rintro e w3 ⟨rfl, hb3⟩
      have HB3 : Hid (Below w.heap.size w w3) := HBa.out.trans (hb3.mono hwal)
      clear hb3 hwa
      go_wp2
      go_ret2
      rw [HR.out]
      exact ⟨rfl, HB3.out⟩
    | false =>
      rw [hr, if_neg (by simp)] at HR
      rw [hr] at R0
      clear hr
      go_wp2_with fail
      rw [← hwa]
      refine R0.out.mono ?_
      rintro e w3 ⟨rfl, hb3⟩
      have HB3 := Lib.hid hb3
      have z2 := Za.out _ hb3
      clear hb3 hwa q0 q1 q2 q3
      go_wp2
      clear z2
      go_loopw [31] (fun i wr => ∃ (k : Nat), k ≤ m ∧ i = .int .i64 (k : Int) ∧ Hid (t.2.2.find? (fun c => decide (f2 < c.1) && rdB t way c.1) = (t.2.2.drop k).find? (fun c => decide (f2 < c.1) && rdB t way c.1)) ∧ Hid (Below wa.heap.size wa wr)) (fun i _ => m - (intOf i).toNat)
      case atStart => exact ⟨0, by omega, rfl, by unfold Hid; rw [List.drop_zero], HB3⟩
      case round =>
        obtain ⟨k, hk, rfl, HT, HBEL⟩ := hrel
        have HBW : Hid (Below w.heap.size w wr) := HBa.out.trans (HBEL.out.mono hwal)
        have hwr := HBEL.out.size
        by_cases hlt : k < m
        · have hka : k < t.2.2.length := by rw [hm.out]; exact hlt
          obtain ⟨bb, ob, rfl, hbl, hx⟩ := (HB.out _ HBW.out).at_ k hka
          have x0 := hx 0 _ rfl
          have x1 := hx 1 _ rfl
          have x2 := hx 2 _ rfl
          simp only [Nat.add_zero] at x0
          have HHIT : Hid ((decide (f2 < (t.2.2[k]).1) && rdB t way (t.2.2[k]).1) = true → t.2.2.find? (fun c => decide (f2 < c.1) && rdB t way c.1) = some t.2.2[k]) := fun h => by rw [HT.out]; exact find_hit hka h
          have HMISS : Hid ((decide (f2 < (t.2.2[k]).1) && rdB t way (t.2.2[k]).1) = false → t.2.2.find? (fun c => decide (f2 < c.1) && rdB t way c.1) = (t.2.2.drop (k + 1)).find? (fun c => decide (f2 < c.1) && rdB t way c.1)) := fun h => by rw [HT.out]; exact find_miss hka h
          generalize t.2.2[k] = u at x0 x1 x2 HHIT HMISS
          obtain ⟨u1, u2, u3⟩ := u
          dsimp only at x0 x1 x2 HHIT HMISS
          have RK : Hid (∀ o, Calls Try.prog 75 #[.int .i64 u1, .pointer (some ⟨w.heap.size + 1, 0, none⟩), .pointer (some ⟨w2.heap.size, 0, none⟩), .pointer (some ⟨w.heap.size, 0, none⟩)] (wr.alloc o) fun e w' => e = .returned (.bool (rdB t way u1)) ∧ Below (wr.alloc o).heap.size (wr.alloc o) w') := fun o => W3.out _ (HBEL.out.alloc hwr o) u1
          have hk0 : (0 : Int) ≤ (k : Int) := by omega
          have hk1 : (k : Int) < (m : Int) := by omega
          clear hx
          by_cases hg : f2 < u1
          · cases hr : rdB t way u1 with
            | true =>
              have HE := Lib.hid (HHIT.out (by rw [hr, decide_eq_true hg]; rfl))
              rw [hr] at RK
              clear HHIT HMISS HT hr
              go_wp2_with fail
              refine (RK.out _).mono ?_
              rintro e w4 ⟨rfl, hb4⟩
              have HB4 : Hid (Below w.heap.size w w4) := Below.trans (by repeat (first | exact HBW.out | refine Below.alloc ?_ (by first | omega | (simp; done) | (simp; omega)) _ | refine Below.setCell ?_ (by first | omega | (simp; done) | (simp; omega)) _)) (hb4.mono (by simp; have := HBW.out.size; omega))
              have y0 : w4.cell? ⟨wr.heap.size, 0, none⟩ = some (.int .i64 u1) := keepS hb4 (by simp [go_sem])
              clear hb4 x0 x1 x2
              go_wp2
              go_ret2
              rw [HR.out, HE.out]
              exact ⟨rfl, HB4.out⟩
            | false =>
              have HE := Lib.hid (HMISS.out (by rw [hr, decide_eq_true hg]; rfl))
              rw [hr] at RK
              clear HHIT HMISS HT hr
              go_wp2_with fail
              refine (RK.out _).mono ?_
              rintro e w4 ⟨rfl, hb4⟩
              have HB4 : Hid (Below wa.heap.size wa w4) := Below.trans (by repeat (first | exact HBEL.out | refine Below.alloc ?_ (by first | omega | (simp; done) | (simp; omega)) _ | refine Below.setCell ?_ (by first | omega | (simp; done) | (simp; omega)) _)) (hb4.mono (by simp; omega))
              clear hb4 x0 x1 x2
              go_wp2
              go_roundw
              case rel => exact ⟨k + 1, by omega, by go_num, HE, HB4⟩
              case measure => simp [intOf]; omega
          · have HE := Lib.hid (HMISS.out (by rw [decide_eq_false hg]; rfl))
            clear HHIT HMISS HT
            go_wp2
            go_roundw
            case rel => exact ⟨k + 1, by omega, by go_num, HE, (by repeat (first | exact HBEL.out | refine Below.alloc ?_ (by first | omega | (simp; done) | (simp; omega)) _ | refine Below.setCell ?_ (by first | omega | (simp; done) | (simp; omega)) _))⟩
            case measure => simp [intOf]; omega
        · have HE : Hid (t.2.2.find? (fun c => decide (f2 < c.1) && rdB t way c.1) = none) := by
            unfold Hid
            rw [HT.out, List.drop_of_length_le (by rw [hm.out]; omega)]
            rfl
          clear HT
          go_wp2
          go_ret2
          rw [HR.out, HE.out]
          exact ⟨rfl, HBW.out⟩
  · have HR : Hid (readyR t way f2 = (0, rangeCode (wayC t way) f2 10000)) := by
      unfold Hid readyR; rw [if_neg (show ¬ readyC t way f2 = 0 from e3)]; rfl
    clear e3
    go_wp2_with (go_at_call 63; refine (checkRange_any _ _ _ _).mono ?_; rintro e w' ⟨rfl, rfl⟩)
    go_ret2
    rw [HR.out]
    exact ⟨rfl, HB1.out⟩
end Go.Proofs.Ytfejgckimlgopaa
