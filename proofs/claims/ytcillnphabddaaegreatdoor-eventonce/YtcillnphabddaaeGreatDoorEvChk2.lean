/-
  What is proved here: what package event's checkRule, checkLists and Check answer of any event (contracts over the translation).
-/
import Derived.Test.YtcillnphabddaaeGreatDoorEvChk1
import Derived.Test.YtcillnphabddaaeGreatDoorRlCheck2
import Derived.Deep.Cut
namespace Go.Proofs.YtcillnphabddaaeGreatDoor
open Go.RowKit Cal Txt

set_option maxHeartbeats 1000000 in
theorem checkRule_any (e : Evt) (s : Evs) (w : World) (hv : EvB w e s) :
    Calls Tryz.prog 12 #[.agg (ecells e s)] w fun x w' => x = .returned (fault (ruF e)) ∧ Below w.heap.size w w' := by
  obtain ⟨nm, tx, st, ln, rp, ru, mo, no, ch, al⟩ := e
  obtain ⟨vm, vd, vw, vp, vo, vn, vc, va⟩ := s
  have B0 := (Below.refl w.heap.size w).alloc (Nat.le_refl _) (.cells #[.string nm, .string tx, .int .i64 st, .int .i64 ln, .bool rp, .int .i64 ru.freq, .int .i64 ru.every, .int .i64 ru.count, .int .i64 ru.till, vm, vd, vw, vp, vo, vn, vc, va] 29)
  have HB := Lib.hid B0
  have hr := (hv.on B0).rule
  have K := Lib.hid (check_any ru _ _ hr)
  have KE := Lib.hid (isEmpty_any ru _ _ hr)
  clear hr hv B0
  dsimp only [ecells]
  rcases rp with _ | _
  · have N : Hid (ruF ⟨nm, tx, st, ln, false, ru, mo, no, ch, al⟩ = if emB ru = true then 0 else 3) := Lib.hid rfl
    clear K
    rcases h : emB ru with _ | _
    all_goals
      rw [h] at N KE
      go_enter Tryz.func12, Tryz.ntmps12
      go_wp2_with fail
      refine KE.out.mono ?_
      rintro x w1 ⟨rfl, hb⟩
      have HB1 := Lib.hid (HB.out.trans (hb.mono HB.out.size))
      clear hb KE HB
      go_wp2
      go_ret
      exact ⟨by rw [N.out]; rfl, HB1.out⟩
  · have N : Hid (ruF ⟨nm, tx, st, ln, true, ru, mo, no, ch, al⟩ = rf ru) := Lib.hid rfl
    clear KE
    go_enter Tryz.func12, Tryz.ntmps12
    go_wp2_with fail
    refine K.out.mono ?_
    rintro x w1 ⟨rfl, hb⟩
    have HB1 := Lib.hid (HB.out.trans (hb.mono HB.out.size))
    clear hb K HB
    go_wp2
    go_ret
    exact ⟨by rw [N.out]; rfl, HB1.out⟩
theorem max_three (ts : Array TypeId) (t : TypeId) (a b c : Int) : ∃ M : Int, (100 < M ↔ (100 < a ∨ 100 < b ∨ 100 < c)) ∧ ∀ W, (Builtin.max_ ts t #[.int .i64 a, .int .i64 b, .int .i64 c]).run Tryz.prog W = .ok (.int .i64 M) W := by
  refine ⟨if c > (if b > a then b else a) then c else (if b > a then b else a), ?_, fun W => rfl⟩
  split <;> split at * <;> omega
theorem liF_full {e : Evt} (h : 100 < e.more.length ∨ 100 < e.nots.length ∨ 100 < e.chg.length ∨ 4 < e.alm.length) : liF e = 4 := if_pos (decide_eq_true h)
theorem liF_one {e : Evt} (h : ¬ (100 < e.more.length ∨ 100 < e.nots.length ∨ 100 < e.chg.length ∨ 4 < e.alm.length)) (k : (e.more.all ist && e.nots.all ist && e.chg.all chB) = false) : liF e = 1 := by
  unfold liF full
  rw [decide_eq_false h, if_neg (by decide), if_pos k]
theorem liF_rest {e : Evt} (h : ¬ (100 < e.more.length ∨ 100 < e.nots.length ∨ 100 < e.chg.length ∨ 4 < e.alm.length)) (k : (e.more.all ist && e.nots.all ist && e.chg.all chB) = true) : liF e = if (risB e.more && risB e.nots && criB e.chg) = false then 7 else 0 := by
  unfold liF full
  rw [decide_eq_false h, if_neg (by decide), if_neg (by rw [k]; decide)]
set_option maxRecDepth 100000 in
set_option maxHeartbeats 4000000 in
theorem checkLists_any (e : Evt) (s : Evs) (w : World) (hv : EvB w e s) :
    Calls Tryz.prog 13 #[.agg (ecells e s)] w fun x w' => x = .returned (fault (liF e)) ∧ Below w.heap.size w w' := by
  have hF := @liF_full e
  have h1 := @liF_one e
  have hR := @liF_rest e
  generalize liF e = F at hF h1 hR ⊢
  have HF := Lib.hid hF
  have H1 := Lib.hid h1
  have HR := Lib.hid hR
  obtain ⟨nm, tx, st, ln, rp, ru, mo, no, ch, al⟩ := e
  obtain ⟨vm, vd, vw, vp, vo, vn, vc, va⟩ := s
  dsimp only at HF H1 HR
  clear hF h1 hR
  have HV := Lib.hid (fun W (q : Below w.heap.size w W) => hv.on q)
  obtain ⟨_, _, _, _, ⟨ao, co, e1, _⟩, ⟨an, cn, e2, _⟩, ⟨ac, cc, e3, _⟩, aa, ca, e4, _⟩ := hv
  dsimp only at e1 e2 e3 e4
  rename_i y0 y1 y2 y3 y4 y5 y6 y7
  clear y0 y1 y2 y3 y4 y5 y6 y7
  subst e1 e2 e3 e4
  obtain ⟨M, hM, mx⟩ := max_three #[3, 3, 3] 3 (mo.length : Int) (no.length : Int) (ch.length : Int)
  have HB := Lib.hid ((Below.refl w.heap.size w).alloc (Nat.le_refl _) (.cells #[.string nm, .string tx, .int .i64 st, .int .i64 ln, .bool rp, .int .i64 ru.freq, .int .i64 ru.every, .int .i64 ru.count, .int .i64 ru.till, vm, vd, vw, vp, .slice ao mo.length co, .slice an no.length cn, .slice ac ch.length cc, .slice aa al.length ca] 29))
  have R0 := Lib.hid (EBox.new w ⟨nm, tx, st, ln, rp, ru, mo, no, ch, al⟩ ⟨vm, vd, vw, vp, .slice ao mo.length co, .slice an no.length cn, .slice ac ch.length cc, .slice aa al.length ca⟩ 29)
  dsimp only [ecells] at R0 ⊢
  by_cases hm : 100 < M
  · have N : Hid (F = 4) := Lib.hid (HF.out (by omega))
    clear hM HF H1 HR HV
    go_enter Tryz.func13, Tryz.ntmps13
    go_wp2
    go_ret
    exact ⟨by rw [N.out]; rfl, HB.out⟩
  by_cases ha : 4 < (al.length : Int)
  · have N : Hid (F = 4) := Lib.hid (HF.out (by omega))
    clear hM HF H1 HR HV
    go_enter Tryz.func13, Tryz.ntmps13
    go_wp2
    go_ret
    exact ⟨by rw [N.out]; rfl, HB.out⟩
  have q := H1.out (by omega)
  have q2 := HR.out (by omega)
  have b1 : mo.length ≤ 1000 := by omega
  have b2 : no.length ≤ 1000 := by omega
  have b3 : ch.length ≤ 1000 := by omega
  have G1 := Lib.hid q
  have G2 := Lib.hid q2
  clear q q2 H1 HR HF hM
  go_enter Tryz.func13, Tryz.ntmps13
  go_wp2_with fail
  generalize w.alloc (.cells #[.string nm, .string tx, .int .i64 st, .int .i64 ln, .bool rp, .int .i64 ru.freq, .int .i64 ru.every, .int .i64 ru.count, .int .i64 ru.till, vm, vd, vw, vp, .slice ao mo.length co, .slice an no.length cn, .slice ac ch.length cc, .slice aa al.length ca] 29) = W0 at HB R0 ⊢
  clear hm ha mx
  refine (all_int 7 ist (enters_of Tryz.func7 (by kernel_rfl) rfl) isTime_any _ mo W0 (HV.out _ HB.out).2.2.2.2.1 b1).mono ?_
  rintro x w1 ⟨rfl, hw⟩
  replace hw := hw.symm
  subst hw
  rcases h1 : mo.all ist with _ | _
  · have N : Hid (F = 1) := Lib.hid (G1.out (by rw [h1]; rfl))
    go_wp2
    go_ret
    exact ⟨by rw [N.out]; rfl, HB.out⟩
  have rl := R0.out.lt
  have c13 := R0.out.2.2.1
  have c14 := R0.out.2.2.2.1
  have c15 := R0.out.2.2.2.2.1
  dsimp only at c13 c14 c15
  go_wp2_with fail
  clear c13 c14 c15 rl
  refine (all_int 7 ist (enters_of Tryz.func7 (by kernel_rfl) rfl) isTime_any _ no W0 (HV.out _ HB.out).2.2.2.2.2.1 b2).mono ?_
  rintro x w1 ⟨rfl, hw⟩
  replace hw := hw.symm
  subst hw
  rcases h2 : no.all ist with _ | _
  · have N : Hid (F = 1) := Lib.hid (G1.out (by rw [h1, h2]; rfl))
    go_wp2
    go_ret
    exact ⟨by rw [N.out]; rfl, HB.out⟩
  have rl := R0.out.lt
  have c13 := R0.out.2.2.1
  have c14 := R0.out.2.2.2.1
  have c15 := R0.out.2.2.2.2.1
  dsimp only at c13 c14 c15
  go_wp2_with fail
  clear c13 c14 c15 rl
  refine (all_chg 27 chB (enters_of Tryz.func27 (by kernel_rfl) rfl) isChange_any _ ch W0 (HV.out _ HB.out).2.2.2.2.2.2.1 b3).mono ?_
  rintro x w1 ⟨rfl, hb⟩
  have HB1 := Lib.hid (HB.out.trans (hb.mono HB.out.size))
  have R1 := Lib.hid (R0.out.on hb)
  clear hb R0 HB
  rcases h3 : ch.all chB with _ | _
  · have N : Hid (F = 1) := Lib.hid (G1.out (by rw [h1, h2, h3]; rfl))
    go_wp2
    go_ret
    exact ⟨by rw [N.out]; rfl, HB1.out⟩
  have q := G2.out (by rw [h1, h2, h3]; rfl)
  have G := Lib.hid q
  clear q G1 G2 h1 h2
  have rl := R1.out.lt
  have c13 := R1.out.2.2.1
  have c14 := R1.out.2.2.2.1
  have c15 := R1.out.2.2.2.2.1
  dsimp only at c13 c14 c15
  go_wp2_with fail
  clear c13 c14 c15 rl
  refine (rises_tim _ mo w1 (HV.out _ HB1.out).2.2.2.2.1 b1).mono ?_
  rintro x w2 ⟨rfl, hb⟩
  have HB2 := Lib.hid (HB1.out.trans (hb.mono HB1.out.size))
  have R2 := Lib.hid (R1.out.on hb)
  clear hb R1 HB1 h3
  rcases h1 : risB mo with _ | _
  · have N : Hid (F = 7) := Lib.hid (by rw [G.out, h1]; rfl)
    go_wp2
    go_ret
    exact ⟨by rw [N.out]; rfl, HB2.out⟩
  have rl := R2.out.lt
  have c13 := R2.out.2.2.1
  have c14 := R2.out.2.2.2.1
  have c15 := R2.out.2.2.2.2.1
  dsimp only at c13 c14 c15
  go_wp2_with fail
  clear c13 c14 c15 rl
  refine (rises_tim _ no w2 (HV.out _ HB2.out).2.2.2.2.2.1 b2).mono ?_
  rintro x w3 ⟨rfl, hb⟩
  have HB3 := Lib.hid (HB2.out.trans (hb.mono HB2.out.size))
  have R3 := Lib.hid (R2.out.on hb)
  clear hb R2 HB2
  rcases h2 : risB no with _ | _
  · have N : Hid (F = 7) := Lib.hid (by rw [G.out, h1, h2]; rfl)
    go_wp2
    go_ret
    exact ⟨by rw [N.out]; rfl, HB3.out⟩
  have rl := R3.out.lt
  have c13 := R3.out.2.2.1
  have c14 := R3.out.2.2.2.1
  have c15 := R3.out.2.2.2.2.1
  dsimp only at c13 c14 c15
  go_wp2_with fail
  clear c13 c14 c15 rl
  refine (rises_chg _ ch w3 (HV.out _ HB3.out).2.2.2.2.2.2.1 b3).mono ?_
  rintro x w4 ⟨rfl, hb⟩
  have HB4 := Lib.hid (HB3.out.trans (hb.mono HB3.out.size))
  clear hb R3 HB3
  rcases h3 : criB ch with _ | _
  · have N : Hid (F = 7) := Lib.hid (by rw [G.out, h1, h2, h3]; rfl)
    go_wp2
    go_ret
    exact ⟨by rw [N.out]; rfl, HB4.out⟩
  · have N : Hid (F = 0) := Lib.hid (by rw [G.out, h1, h2, h3]; rfl)
    go_wp2
    go_ret
    exact ⟨by rw [N.out]; rfl, HB4.out⟩
end Go.Proofs.YtcillnphabddaaeGreatDoor
