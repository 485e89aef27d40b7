/-
  MisreadAs: what it answers, and the model's walk.
-/
import Derived.Test.YtpkkibnpjhlfmaaDoorNear
import Derived.Test.YtpkkibnpjhlfmaaDoorMarksI
namespace Go.Proofs.YtpkkibnpjhlfmaaDoor
open Go.RowKit

def misP (ss : List ByteArray) (k : Nat) (r : Int) (i : Nat) : Bool := !decide (i = k) && decide (((farS ss (ss.getD k ByteArray.empty) i : Nat) : Int) ≤ r)
def misAns (g : Int) (ss : List ByteArray) (k r : Int) : List Int × Int :=
  if okB g (bls ss) = true then (if 0 ≤ k ∧ k ≤ (ss.length : Int) - 1 then (if 0 ≤ r ∧ r ≤ 8 then (filtN (misP ss k.toNat r) ss.length, 0) else ([], 2)) else ([], 2)) else ([], 1)
theorem misAns_bad {g : Int} {ss : List ByteArray} {k r : Int} (h : okB g (bls ss) = false) : misAns g ss k r = ([], 1) := by unfold misAns; rw [if_neg (by rw [h]; simp)]
theorem misAns_k {g : Int} {ss : List ByteArray} {k r : Int} (h : okB g (bls ss) = true) (h2 : ¬ (0 ≤ k ∧ k ≤ (ss.length : Int) - 1)) : misAns g ss k r = ([], 2) := by unfold misAns; rw [if_pos h, if_neg h2]
theorem misAns_r {g : Int} {ss : List ByteArray} {k r : Int} (h : okB g (bls ss) = true) (h2 : 0 ≤ k ∧ k ≤ (ss.length : Int) - 1) (h3 : ¬ (0 ≤ r ∧ r ≤ 8)) : misAns g ss k r = ([], 2) := by unfold misAns; rw [if_pos h, if_pos h2, if_neg h3]
theorem misAns_ok {g : Int} {ss : List ByteArray} {k r : Int} (h : okB g (bls ss) = true) (h2 : 0 ≤ k ∧ k ≤ (ss.length : Int) - 1) (h3 : 0 ≤ r ∧ r ≤ 8) : misAns g ss k r = (filtN (misP ss k.toNat r) ss.length, 0) := by unfold misAns; rw [if_pos h, if_pos h2, if_pos h3]
theorem misAns_len (g : Int) (ss : List ByteArray) (k r : Int) (h : ss.length ≤ 1048576) : (misAns g ss k r).1.length ≤ 1048576 := by
  unfold misAns
  have := filtN_len (misP ss k.toNat r) ss.length
  repeat split
  all_goals first | (simp; done) | (show (filtN _ _).length ≤ _; omega)
theorem misP_self (ss : List ByteArray) (k : Nat) (r : Int) : misP ss k r k = false := by simp [misP]
theorem misP_in {ss : List ByteArray} {k i : Nat} {r : Int} {u : ByteArray} (hk : k < ss.length) (e : ss[k] = u) (h : ¬ i = k) (h2 : ((farS ss u i : Nat) : Int) ≤ r) : misP ss k r i = true := by
  unfold misP
  rw [List.getD_eq_getElem?_getD, List.getElem?_eq_getElem hk, e]
  simp [h, h2]
theorem misP_out {ss : List ByteArray} {k i : Nat} {r : Int} {u : ByteArray} (hk : k < ss.length) (e : ss[k] = u) (h2 : ¬ ((farS ss u i : Nat) : Int) ≤ r) : misP ss k r i = false := by
  unfold misP
  rw [List.getD_eq_getElem?_getD, List.getElem?_eq_getElem hk, e]
  simp; omega
theorem own_drewN {w : World} {lo n : Nat} {e : TypeId} {size : Nat} {v : Value} {xs : List Value} (h : w.ownsRow lo e size v n xs) (q : Nat) : (w.drewN q).ownsRow lo e size v n xs := h
theorem own_low_block {w : World} {lo n k : Nat} {e : TypeId} {size : Nat} {v : Value} {xs : List Value} (h : w.ownsRow lo e size v n xs) (hk : v.ownBlock = some k) : lo ≤ k := (h.lt k hk).1
theorem news_oneI (w : World) (z : Value) (e : TypeId) : ∀ j u, [z][j]? = some u → (w.alloc (.cells #[z] e)).cell? ((⟨w.heap.size, 0, none⟩ : Addr).add j) = some u := by
  intro j u hj
  match j, hj with
  | 0, hj => simp at hj; subst hj; simp [Addr.add, go_sem]

set_option maxRecDepth 100000 in
set_option maxHeartbeats 8000000 in
theorem specMis_any (g : Int) (a : Option Addr) (ss : List ByteArray) (n ca : Nat) (k r : Int) (w : World) (hn : Hid (ss.length = n)) (ha : RS w a ss) (hmax : n ≤ 1048576) (hsz : Hid (∀ s ∈ ss, s.size ≤ 1048576)) :
    Calls Tryd.prog 19 #[.int .i64 g, .slice a n ca, .int .i64 k, .int .i64 r] w (GivesL (misAns g ss k r) w) := by
  have HV := l05Ok_any g a ss n ca w hn ha hmax hsz
  have HA : Hid (∀ W, Below w.heap.size w W → RS W a ss) := fun W hB => ha.below hB
  have HI : Hid (∃ i0 : TypeInfo, Tryd.prog.info? 2 = some i0 ∧ i0.zero = some (.int .i64 0) ∧ i0.size = 1 ∧ i0.bytes = 8) := info_parts info2
  clear ha
  cases ho : okB g (bls ss) with
  | false =>
    have HR := Lib.hid (misAns_bad (k := k) (r := r) ho)
    rw [ho] at HV
    go_enter Tryd.func19, Tryd.ntmps19
    go_wp2_with (first | (go_at_call 49; refine HV.mono ?_; rintro e w1 ⟨rfl, hb1⟩))
    exact bodyPost_ret (v := .tuple #[.slice none 0 0, .int .i64 1]) (by simp [results, Tryd.results19, go_sem]) rfl (givesL_nil HR.out hb1)
  | true =>
    rw [ho] at HV
    obtain ⟨p1, p2, p3⟩ := ok_parts ho
    by_cases hk : 0 ≤ k ∧ k ≤ (n : Int) - 1
    · have ik := inB_of hk
      have hk' : 0 ≤ k ∧ k ≤ (ss.length : Int) - 1 := by rw [hn.out]; exact hk
      by_cases hr : 0 ≤ r ∧ r ≤ 8
      · have ir := inB_of hr
        obtain ⟨kn, rfl⟩ : ∃ kn : Nat, k = kn := ⟨k.toNat, by omega⟩
        have HR := Lib.hid (misAns_ok ho hk' hr)
        rw [Int.toNat_natCast, hn.out] at HR
        have hkn : kn < ss.length := by rw [hn.out]; omega
        obtain ⟨l1, l8, hle⟩ := ok_first ho (by omega)
        obtain ⟨b, off, rfl, hb, hc⟩ := (HA.out w (Below.refl _ _)).addr (by omega)
        have HC : Hid (∀ W, Below w.heap.size w W → ∀ i (h : i < ss.length), W.cell? ⟨b, off + i, none⟩ = some (.string ss[i])) := fun W hB i h => (hB.cell (p := ⟨b, off + i, none⟩) hb).trans (hc i h)
        have HLE := Lib.hid hle
        have HSELF := Lib.hid (misP_self ss kn r)
        obtain ⟨u, hu⟩ : ∃ u, ss[kn] = u := ⟨_, rfl⟩
        have HU := Lib.hid hu
        have hu8 : u.size = lenA ss := by rw [← hu]; exact hle _ (List.getElem_mem _)
        have hn40 : n ≤ 40 := by rw [← hn.out]; exact p3
        have hkn' : kn < n := by omega
        clear hk hk' hr hc hle ho hu
        go_enter Tryd.func19, Tryd.ntmps19
        go_wp2_with (first | (go_at_call 49; refine HV.mono ?_; rintro e w1 ⟨rfl, hb1⟩) | (go_at_call 61; refine (l00In_any _ _ _ _).mono ?_; rintro e w' ⟨rfl, rfl⟩))
        have HB1 := Lib.hid hb1
        have LO : Hid (w.heap.size ≤ w1.heap.size) := hb1.size
        clear hb1 HV
        go_loopw [10, 11] (fun vo iv wr => ∃ (i c cap : Nat) (ao : Option Addr) (l : List Int), i ≤ n ∧ c ≤ i ∧ vo = .slice ao c cap ∧ iv = .int .i64 (i : Int) ∧ Hid (Below w1.heap.size w1 wr) ∧ Hid (l = filtN (misP ss kn r) i) ∧ Hid (l.length = c) ∧ Hid (wr.ownsRow w1.heap.size 2 1 (.slice ao c cap) c (l.map (Value.int .i64)))) (fun _ iv _ => n - (intOf iv).toNat)
        case atStart => exact ⟨0, 0, 0, _, [], by omega, by omega, rfl, rfl, (by repeat (first | exact Below.refl _ _ | refine Below.alloc ?_ (by simp; try omega) _ | refine Below.setCell ?_ (by simp; try omega) _)), rfl, rfl, World.ownsRow_made w1 #[] 0 (Nat.le_refl _) (by unfold maxLen; omega) rfl⟩
        case round =>
          obtain ⟨i, c, cap, ao, l, hi, hci, rfl, rfl, HBEL, HL, HLEN, HOWN⟩ := hrel
          have B2 := Lib.hid (two_worldsC HB1.out HBEL.out)
          by_cases hlt : i < n
          · have hia : i < ss.length := by rw [hn.out]; exact hlt
            obtain ⟨t, ht⟩ : ∃ t, ss[i] = t := ⟨_, rfl⟩
            have x1 := HC.out wr B2.out i hia
            have x2 := HC.out wr B2.out kn hkn
            rw [ht] at x1
            rw [HU.out] at x2
            have hts : t.size = u.size := by rw [← ht, hu8]; exact HLE.out _ (List.getElem_mem _)
            have ht8 : t.size ≤ 1048576 := by rw [hts, hu8]; omega
            have HD := fun W => l05Far_any t u hts ht8 W
            rw [← farS_at hia ht] at HD
            have HD := Lib.hid HD
            have hk0 : (0 : Int) ≤ (i : Int) := by omega
            have hk1 : (i : Int) < (n : Int) := by omega
            have hj0 : (0 : Int) ≤ (kn : Int) := by omega
            have hj1 : (kn : Int) < (n : Int) := by omega
            have hws : w1.heap.size ≤ wr.heap.size := HBEL.out.size
            have HGE : Hid (∀ q, (Value.slice ao c cap).ownBlock = some q → w1.heap.size ≤ q) := fun q hq => own_low_block HOWN.out hq
            clear ht
            by_cases hik : i = kn
            · have HN : Hid (filtN (misP ss kn r) (i + 1) = filtN (misP ss kn r) i) := filtN_no (by rw [hik]; exact HSELF.out)
              have hne : ((i : Int) != (kn : Int)) = false := by simp [hik]
              clear hik HD
              go_wp2
              go_quiet (fail)
              go_wp2
              go_roundw
              case rel => exact ⟨i + 1, c, cap, ao, l, by omega, by omega, rfl, by go_num, Below.drewN' HBEL.out _, by unfold Hid; rw [HN.out, ← HL.out], HLEN.out, HOWN.out⟩
              case measure => simp [intOf]; omega
            · have hne : ((i : Int) != (kn : Int)) = true := by simp; omega
              by_cases hd : ((farS ss u i : Nat) : Int) ≤ r
              · have HN : Hid (filtN (misP ss kn r) (i + 1) = filtN (misP ss kn r) i ++ [(i : Int)]) := filtN_yes (misP_in hkn HU.out hik hd)
                have hd2 : decide (((farS ss u i : Nat) : Int) ≤ r) = true := by simp; omega
                generalize farS ss u i = d at HD hd hd2
                clear hik
                go_wp2
                go_quiet (first | (go_at_call 51; refine Calls.mono (HD.out _) ?_; rintro e w1 ⟨rfl, q, rfl⟩; exact ⟨rfl, _, World.drewN_drewN _ _ _⟩))
                go_wp2_with (at_builtin; refine wpList_append_lies _ rfl _ _ 36 rfl w1.heap.size 2 HI.out.choose (.int .i64 0) 1 8 Tryd.underlying36 HI.out.choose_spec.1 HI.out.choose_spec.2.1 HI.out.choose_spec.2.2.1 HI.out.choose_spec.2.2.2 rfl (by decide) (.slice ao c cap) c (l.map (Value.int .i64)) rfl ((own_drewN HOWN.out _).alloc _) ⟨wr.heap.size, 0, none⟩ 1 1 [.int .i64 (i : Int)] rfl rfl (news_oneI (World.drewN wr _) _ _) (by intro u hu; simp at hu; subst hu; rfl) (by omega) (by unfold maxLen; omega) (by omega) (by simp; omega) (wr.heap.size + 1) (by simp) ?_)
                intro g' cap' w3 hown1 hgrow hat hlt2
                have B5 : Hid (Below w1.heap.size w1 w3) := ((Below.drewN' HBEL.out _).alloc hws _).grown hgrow (by simp; omega) HGE.out
                have O1 : Hid (w3.ownsRow w1.heap.size 2 1 (.slice (some ⟨g', 0, none⟩) (c + 1) cap') (c + 1) ((l ++ [(i : Int)]).map (Value.int .i64))) := by
                  unfold Hid; rw [List.map_append]; exact hown1
                clear hown1 hgrow hat hlt2
                go_wp2
                go_roundw
                case rel => exact ⟨i + 1, c + 1, cap', _, l ++ [(i : Int)], by omega, by omega, rfl, by go_num, B5.out, by unfold Hid; rw [HN.out, ← HL.out], by unfold Hid; rw [List.length_append, HLEN.out]; rfl, O1.out⟩
                case measure => simp [intOf]; omega
              · have HN : Hid (filtN (misP ss kn r) (i + 1) = filtN (misP ss kn r) i) := filtN_no (misP_out hkn HU.out hd)
                have hd2 : decide (((farS ss u i : Nat) : Int) ≤ r) = false := by simp; omega
                generalize farS ss u i = d at HD hd hd2
                clear hik hd
                go_wp2
                go_quiet (first | (go_at_call 51; refine Calls.mono (HD.out _) ?_; rintro e w1 ⟨rfl, q, rfl⟩; exact ⟨rfl, _, World.drewN_drewN _ _ _⟩))
                go_wp2
                go_roundw
                case rel => exact ⟨i + 1, c, cap, ao, l, by omega, by omega, rfl, by go_num, Below.drewN' HBEL.out _, by unfold Hid; rw [HN.out, ← HL.out], HLEN.out, HOWN.out⟩
                case measure => simp [intOf]; omega
          · have hin : i = n := by omega
            subst hin
            go_wp2
            exact bodyPost_ret (v := .tuple #[.slice ao c cap, .int .i64 0]) (by simp [results, Tryd.results19, go_sem]) rfl (givesL_of (by rw [HR.out, ← HL.out]) B2.out HLEN.out (own_lower HOWN.out LO.out))
      · have ir := inB_no hr
        have HR := Lib.hid (misAns_r ho hk' hr)
        clear hk hk' hr
        go_enter Tryd.func19, Tryd.ntmps19
        go_wp2_with (first | (go_at_call 49; refine HV.mono ?_; rintro e w1 ⟨rfl, hb1⟩) | (go_at_call 61; refine (l00In_any _ _ _ _).mono ?_; rintro e w' ⟨rfl, rfl⟩))
        exact bodyPost_ret (v := .tuple #[.slice none 0 0, .int .i64 2]) (by simp [results, Tryd.results19, go_sem]) rfl (givesL_nil HR.out hb1)
    · have ik := inB_no hk
      have HR := Lib.hid (misAns_k (k := k) (r := r) ho (by rw [hn.out]; exact hk))
      clear hk
      go_enter Tryd.func19, Tryd.ntmps19
      go_wp2_with (first | (go_at_call 49; refine HV.mono ?_; rintro e w1 ⟨rfl, hb1⟩) | (go_at_call 61; refine (l00In_any _ _ _ _).mono ?_; rintro e w' ⟨rfl, rfl⟩))
      exact bodyPost_ret (v := .tuple #[.slice none 0 0, .int .i64 2]) (by simp [results, Tryd.results19, go_sem]) rfl (givesL_nil HR.out hb1)
end Go.Proofs.YtpkkibnpjhlfmaaDoor
