/-
  What is proved here: what the document's ShowRule answers of a rule with nothing wrong (a contract over the translation).
-/
import Derived.Test.YtoafdacgekmomabGreatDoorRlPrint
import Derived.Test.YtoafdacgekmomabGreatDoorRefList
import Derived.Test.YtoafdacgekmomabGreatDoorQN
import Derived.Deep.CutRange
namespace Go.Proofs.YtoafdacgekmomabGreatDoor
open Go.RowKit Cal Txt

/-- The words of frequencies, as a list that a call makes. -/
def FreqL : Array Value := #[.string ⟨#[]⟩, .string ⟨#[100, 97, 105, 108, 121]⟩, .string ⟨#[119, 101, 101, 107, 108, 121]⟩, .string ⟨#[109, 111, 110, 116, 104, 108, 121]⟩, .string ⟨#[121, 101, 97, 114, 108, 121]⟩]
theorem freq_lie (w : World) (t : TypeId) : ∀ j : Nat, j < 5 → (w.alloc (.cells FreqL t)).cell? ⟨w.heap.size, j, none⟩ = some (.string (tb (fq j))) := fun j hj => by
  rcases (by omega : j = 0 ∨ j = 1 ∨ j = 2 ∨ j = 3 ∨ j = 4) with rfl | rfl | rfl | rfl | rfl <;> simp [FreqL] <;> rfl
/-- How far a rule's text is written. -/
def ShK (w : World) (r : Rl) (vm vd vw vp : Value) (bd : Nat) (k : Nat) (v : Value) (W : World) : Prop :=
  v = .string (tb (tk r k)) ∧ Below w.heap.size w W ∧ RBox W w.heap.size r.freq r.every r.count r.till vm vd vw vp ∧ ∀ j : Nat, j < 8 → W.cell? ⟨bd, j, none⟩ = some (.string (tb (dn j)))
theorem ShK.next {w : World} {r : Rl} {vm vd vw vp : Value} {bd k : Nat} {v : Value} {W W' : World} (h : ShK w r vm vd vw vp bd k v W) (q : Below W.heap.size W W') {v' : Value} (hv : v' = .string (tb (tk r (k + 1)))) : ShK w r vm vd vw vp bd (k + 1) v' W' := by
  obtain ⟨_, h1, h2, h3⟩ := h
  exact ⟨hv, h1.trans (q.mono h1.size), h2.on q, fun j hj => (q.cell (p := ⟨bd, j, none⟩) (cell_lt (h3 j hj))).trans (h3 j hj)⟩
theorem tk_no {r : Rl} {k : Nat} (h : pt r k = []) : tk r (k + 1) = tk r k := by
  show tk r k ++ _ = _
  rw [if_pos h, List.append_nil]
theorem tk_yes {r : Rl} {k : Nat} (h : pt r k ≠ []) : tk r (k + 1) = tk r k ++ (32 :: kw k ++ 32 :: pt r k) := by
  show tk r k ++ _ = _
  rw [if_neg h]
/-- A rule's text as far as its weekdays, and so many of them. -/
def tw (r : Rl) (k : Nat) : List UInt8 := tk r 5 ++ (if k = 0 then [] else 32 :: kw 5 ++ 32 :: lt wt (r.weeks.take k))
theorem tw_first {r : Rl} (h : 0 < r.weeks.length) : tw r (0 + 1) = tw r 0 ++ [32, 111, 110, 32] ++ wt (r.weeks.getD 0 (0, 0)) := by
  unfold tw
  rw [if_neg (by omega), if_pos rfl, List.take_succ_eq_append_getElem h, List.getD_eq_getElem?_getD, List.getElem?_eq_getElem h, List.take_zero, List.append_nil]
  simp [kw, lt, joinBy]
theorem tw_next {r : Rl} {k : Nat} (h0 : 0 < k) (h : k < r.weeks.length) : tw r (k + 1) = tw r k ++ [44] ++ wt (r.weeks.getD k (0, 0)) := by
  unfold tw
  rw [if_neg (by omega), if_neg (by omega), List.take_succ_eq_append_getElem h, List.getD_eq_getElem?_getD, List.getElem?_eq_getElem h, lt_snoc wt _ _ (fun e => by
    have := congrArg List.length e
    rw [List.length_take, List.length_nil] at this; omega)]
  simp
theorem tw_all (r : Rl) (hw : wkB r.weeks = true) : tw r r.weeks.length = tk r 6 := by
  have e4 : lt wt r.weeks = [] ↔ r.weeks = [] := lt_nil wt _ (fun x hx => by
    have := of_decide_eq_true (List.all_eq_true.1 hw x hx)
    exact wt_ne this.1 this.2.1)
  by_cases h : r.weeks = []
  · rw [tk_no (k := 5) (show lt wt r.weeks = [] from e4.2 h)]
    unfold tw
    rw [if_pos (by rw [h]; rfl), List.append_nil]
  · rw [tk_yes (k := 5) (show lt wt r.weeks ≠ [] from fun e => h (e4.1 e))]
    unfold tw
    rw [if_neg (fun e => h (List.eq_nil_of_length_eq_zero e)), List.take_length]
    rfl
theorem item_bd {r : Rl} (h : itemsB r = true) : (∀ n ∈ r.months, -999999999 ≤ n ∧ n ≤ 999999999) ∧ (∀ n ∈ r.days, -999999999 ≤ n ∧ n ≤ 999999999) ∧ (∀ n ∈ r.pick, -999999999 ≤ n ∧ n ≤ 999999999) := by
  rw [itemsB_eq] at h
  simp only [Bool.and_eq_true, ok3] at h
  have k : ∀ (lo hi : Int) (l : List Int), -999999999 ≤ lo → hi ≤ 999999999 → inB lo hi l = true → ∀ n ∈ l, -999999999 ≤ n ∧ n ≤ 999999999 := fun lo hi l a b q n hn => by
    obtain ⟨j, hj, rfl⟩ := List.getElem_of_mem hn
    have := inB_iff.1 q j hj
    rw [List.getD_eq_getElem?_getD, List.getElem?_eq_getElem hj] at this
    simp at this
    omega
  exact ⟨k 1 12 _ (by omega) (by omega) h.1.1.1, k (-31) 31 _ (by omega) (by omega) h.1.1.2, k (-31) 31 _ (by omega) (by omega) h.1.2⟩
theorem len_bd {r : Rl} (h : ok2 r = true) : r.months.length ≤ 12 ∧ r.days.length ≤ 31 ∧ r.weeks.length ≤ 20 ∧ r.pick.length ≤ 20 := of_decide_eq_true h
set_option maxRecDepth 100000 in
set_option maxHeartbeats 4000000 in
theorem showRule_walk (r : Rl) (am ad aw ap : Option Addr) (cm cd cw cp : Nat) (w : World) (hm : Ints w (.slice am r.months.length cm) r.months) (hd : Ints w (.slice ad r.days.length cd) r.days) (hw : Nths w (.slice aw r.weeks.length cw) r.weeks) (hp : Ints w (.slice ap r.pick.length cp) r.pick) (h : rf r = 0) :
    Calls Tryz.prog 8 #[.agg #[.int .i64 r.freq, .int .i64 r.every, .int .i64 r.count, .int .i64 r.till, .slice am r.months.length cm, .slice ad r.days.length cd, .slice aw r.weeks.length cw, .slice ap r.pick.length cp]] w fun e w' => e = .returned (.string (tb (rt r))) ∧ Below w.heap.size w w' := by
  obtain ⟨o1, o2, o3, o4, o5, o6⟩ := rf_good h
  have hwk : wkB r.weeks = true := by rw [itemsB_eq] at o4; simp at o4; exact o4.2
  have TK := Lib.hid (tk_rt r hwk)
  have TL := Lib.hid (tk_len o1 o3 o4)
  have PL := Lib.hid (pt_len o1 o3 o4)
  obtain ⟨⟨a1, a2⟩, ⟨b1, b2⟩, ⟨c1, c2⟩, d1, d2'⟩ := of_decide_eq_true o1
  have HM := Lib.hid hm
  have HD := Lib.hid hd
  have HW := Lib.hid hw
  have HP := Lib.hid hp
  have HWK := Lib.hid hwk
  have HO4 := Lib.hid o4
  have HO3 := Lib.hid o3
  clear hm hd hw hp hwk o4 o1 o2 o3 o5 o6 h
  obtain ⟨W0, hW0⟩ : ∃ W0, W0 = ((w.alloc (.cells #[.int .i64 r.freq, .int .i64 r.every, .int .i64 r.count, .int .i64 r.till, .slice am r.months.length cm, .slice ad r.days.length cd, .slice aw r.weeks.length cw, .slice ap r.pick.length cp] 25)).alloc (.cells FreqL 9)).alloc (.cells DaysL 9) := ⟨_, rfl⟩
  have S0 : Hid (ShK w r (.slice am r.months.length cm) (.slice ad r.days.length cd) (.slice aw r.weeks.length cw) (.slice ap r.pick.length cp) (w.heap.size + 2) 0 (.string (tb (tk r 0))) W0) := by
    have B1 : Below w.heap.size w (w.alloc (.cells #[.int .i64 r.freq, .int .i64 r.every, .int .i64 r.count, .int .i64 r.till, .slice am r.months.length cm, .slice ad r.days.length cd, .slice aw r.weeks.length cw, .slice ap r.pick.length cp] 25)) := (Below.refl _ _).alloc (Nat.le_refl _) _
    have R1 := RBox.new w r.freq r.every r.count r.till (.slice am r.months.length cm) (.slice ad r.days.length cd) (.slice aw r.weeks.length cw) (.slice ap r.pick.length cp) 25
    have B2 : Below (w.alloc (.cells #[.int .i64 r.freq, .int .i64 r.every, .int .i64 r.count, .int .i64 r.till, .slice am r.months.length cm, .slice ad r.days.length cd, .slice aw r.weeks.length cw, .slice ap r.pick.length cp] 25)).heap.size (w.alloc (.cells #[.int .i64 r.freq, .int .i64 r.every, .int .i64 r.count, .int .i64 r.till, .slice am r.months.length cm, .slice ad r.days.length cd, .slice aw r.weeks.length cw, .slice ap r.pick.length cp] 25)) ((w.alloc (.cells #[.int .i64 r.freq, .int .i64 r.every, .int .i64 r.count, .int .i64 r.till, .slice am r.months.length cm, .slice ad r.days.length cd, .slice aw r.weeks.length cw, .slice ap r.pick.length cp] 25)).alloc (.cells FreqL 9)) := (Below.refl _ _).alloc (Nat.le_refl _) _
    have B3 : Below ((w.alloc (.cells #[.int .i64 r.freq, .int .i64 r.every, .int .i64 r.count, .int .i64 r.till, .slice am r.months.length cm, .slice ad r.days.length cd, .slice aw r.weeks.length cw, .slice ap r.pick.length cp] 25)).alloc (.cells FreqL 9)).heap.size ((w.alloc (.cells #[.int .i64 r.freq, .int .i64 r.every, .int .i64 r.count, .int .i64 r.till, .slice am r.months.length cm, .slice ad r.days.length cd, .slice aw r.weeks.length cw, .slice ap r.pick.length cp] 25)).alloc (.cells FreqL 9)) (((w.alloc (.cells #[.int .i64 r.freq, .int .i64 r.every, .int .i64 r.count, .int .i64 r.till, .slice am r.months.length cm, .slice ad r.days.length cd, .slice aw r.weeks.length cw, .slice ap r.pick.length cp] 25)).alloc (.cells FreqL 9)).alloc (.cells DaysL 9)) := (Below.refl _ _).alloc (Nat.le_refl _) _
    refine Lib.hid ⟨rfl, ?_, ?_, ?_⟩
    · rw [hW0]; exact (B1.trans (B2.mono B1.size)).trans (B3.mono (by simp; omega))
    · rw [hW0]; exact (R1.on B2).on B3
    · intro j hj
      have := days_lie ((w.alloc (.cells #[.int .i64 r.freq, .int .i64 r.every, .int .i64 r.count, .int .i64 r.till, .slice am r.months.length cm, .slice ad r.days.length cd, .slice aw r.weeks.length cw, .slice ap r.pick.length cp] 25)).alloc (.cells FreqL 9)) 9 j hj
      rw [hW0]
      simpa using this
  have HF0 : Hid (W0.cell? ⟨w.heap.size + 1, r.freq.toNat, none⟩ = some (.string (tb (tk r 0)))) := by
    have := freq_lie (w.alloc (.cells #[.int .i64 r.freq, .int .i64 r.every, .int .i64 r.count, .int .i64 r.till, .slice am r.months.length cm, .slice ad r.days.length cd, .slice aw r.weeks.length cw, .slice ap r.pick.length cp] 25)) 9 r.freq.toNat (by omega)
    have B3 : Below ((w.alloc (.cells #[.int .i64 r.freq, .int .i64 r.every, .int .i64 r.count, .int .i64 r.till, .slice am r.months.length cm, .slice ad r.days.length cd, .slice aw r.weeks.length cw, .slice ap r.pick.length cp] 25)).alloc (.cells FreqL 9)).heap.size ((w.alloc (.cells #[.int .i64 r.freq, .int .i64 r.every, .int .i64 r.count, .int .i64 r.till, .slice am r.months.length cm, .slice ad r.days.length cd, .slice aw r.weeks.length cw, .slice ap r.pick.length cp] 25)).alloc (.cells FreqL 9)) (((w.alloc (.cells #[.int .i64 r.freq, .int .i64 r.every, .int .i64 r.count, .int .i64 r.till, .slice am r.months.length cm, .slice ad r.days.length cd, .slice aw r.weeks.length cw, .slice ap r.pick.length cp] 25)).alloc (.cells FreqL 9)).alloc (.cells DaysL 9)) := (Below.refl _ _).alloc (Nat.le_refl _) _
    refine Lib.hid ?_
    rw [hW0]
    have k := (B3.cell (p := ⟨(w.alloc (.cells #[.int .i64 r.freq, .int .i64 r.every, .int .i64 r.count, .int .i64 r.till, .slice am r.months.length cm, .slice ad r.days.length cd, .slice aw r.weeks.length cw, .slice ap r.pick.length cp] 25)).heap.size, r.freq.toNat, none⟩) (cell_lt this)).trans this
    rw [show ((r.freq.toNat : Nat) : Int) = r.freq by omega] at k
    rw [show (w.alloc (.cells #[.int .i64 r.freq, .int .i64 r.every, .int .i64 r.count, .int .i64 r.till, .slice am r.months.length cm, .slice ad r.days.length cd, .slice aw r.weeks.length cw, .slice ap r.pick.length cp] 25)).heap.size = w.heap.size + 1 by simp] at k
    exact k
  go_enter Tryz.func8, Tryz.ntmps8
  go_upto_region 3 with fail
  change Code.wp _ _ _ _ (((w.alloc (.cells #[.int .i64 r.freq, .int .i64 r.every, .int .i64 r.count, .int .i64 r.till, .slice am r.months.length cm, .slice ad r.days.length cd, .slice aw r.weeks.length cw, .slice ap r.pick.length cp] 25)).alloc (.cells FreqL 9)).alloc (.cells DaysL 9))
  rw [← hW0]
  clear hW0
  go_cut [5] from 16 to 132 (fun s5 wc => ShK w r (.slice am r.months.length cm) (.slice ad r.days.length cd) (.slice aw r.weeks.length cw) (.slice ap r.pick.length cp) (w.heap.size + 2) 0 s5 wc)
  case first =>
    obtain ⟨_, _, ⟨q0, q1, q2, q3, q4, q5, q6, q7⟩, _⟩ := id S0.out
    have cf := HF0.out
    obtain ⟨fn, hfn⟩ : ∃ fn : Nat, r.freq = fn := ⟨r.freq.toNat, by omega⟩
    rw [hfn] at q0 cf
    rw [Int.toNat_natCast] at cf
    have f4 : (fn : Int) ≤ 4 := by omega
    go_wp2
    go_meet
    case rel => exact S0.out
  case rest =>
  have S1 := Lib.hid hcut
  clear hcut S0
  obtain ⟨rfl, hBc, ⟨q0, q1, q2, q3, q4, q5, q6, q7⟩, _⟩ := id S1.out
  have L0 : (tb (tk r 0)).size ≤ 40000 := by rw [tb_size]; have := TL.out 0; omega
  go_upto_if 25 with fail
  go_cut [5] from 16 to 132 (fun s5 wc => ShK w r (.slice am r.months.length cm) (.slice ad r.days.length cd) (.slice aw r.weeks.length cw) (.slice ap r.pick.length cp) (w.heap.size + 2) 1 s5 wc)
  case first =>
    rcases hc : (r.every != 1) with _ | _
    · have P0 : pt r 0 = [] := by
        show unt r.every 1 = []
        unfold unt; rw [if_pos (by simpa using hc)]
      go_wp2
      go_meet
      case rel => exact S1.out.next (Below.refl _ _) (by rw [tk_no P0])
    · have P0 : pt r 0 = nt r.every := by
        show unt r.every 1 = _
        unfold unt; rw [if_neg (by simpa using hc)]
      have E : Hid (tb (tk r 0) ++ ⟨#[32, 101, 118, 101, 114, 121, 32]⟩ ++ tb (nt r.every) = tb (tk r 1)) := Lib.hid (by
        rw [tk_yes (k := 0) (by rw [P0]; exact nt_ne _), P0]
        apply ByteArray.ext; simp [tb, kw])
      have ln := nt_len r.every (by omega) (by omega)
      clear P0
      go_wp2_with fail
      refine (refDigits_nt r.every _ (by omega) (by omega)).mono ?_
      rintro e w' ⟨rfl, hw⟩
      subst hw
      go_wp2_with fail
      go_meet
      case rel => exact S1.out.next (Below.refl _ _) (by rw [← E.out]; rfl)
  case rest =>
  have S2 := Lib.hid hcut
  clear hcut S1
  obtain ⟨rfl, hBc, ⟨q0, q1, q2, q3, q4, q5, q6, q7⟩, _⟩ := id S2.out
  have L0 : (tb (tk r 1)).size ≤ 40000 := by rw [tb_size]; have := TL.out 1; omega
  go_upto_if 35 with fail
  go_cut [5] from 16 to 132 (fun s5 wc => ShK w r (.slice am r.months.length cm) (.slice ad r.days.length cd) (.slice aw r.weeks.length cw) (.slice ap r.pick.length cp) (w.heap.size + 2) 2 s5 wc)
  case first =>
    rcases hc : (r.count != 0) with _ | _
    · have P0 : pt r 1 = [] := by
        show unt r.count 0 = []
        unfold unt; rw [if_pos (by simpa using hc)]
      go_wp2
      go_meet
      case rel => exact S2.out.next (Below.refl _ _) (by rw [tk_no P0])
    · have P0 : pt r 1 = nt r.count := by
        show unt r.count 0 = _
        unfold unt; rw [if_neg (by simpa using hc)]
      have E : Hid (tb (tk r 1) ++ ⟨#[32, 99, 111, 117, 110, 116, 32]⟩ ++ tb (nt r.count) = tb (tk r 2)) := Lib.hid (by
        rw [tk_yes (k := 1) (by rw [P0]; exact nt_ne _), P0]
        apply ByteArray.ext; simp [tb, kw])
      have ln := nt_len r.count (by omega) (by omega)
      clear P0
      go_wp2_with fail
      refine (refDigits_nt r.count _ (by omega) (by omega)).mono ?_
      rintro e w' ⟨rfl, hw⟩
      subst hw
      go_wp2_with fail
      go_meet
      case rel => exact S2.out.next (Below.refl _ _) (by rw [← E.out]; rfl)
  case rest =>
  have S3 := Lib.hid hcut
  clear hcut S2
  obtain ⟨rfl, hBc, ⟨q0, q1, q2, q3, q4, q5, q6, q7⟩, _⟩ := id S3.out
  have L0 : (tb (tk r 2)).size ≤ 40000 := by rw [tb_size]; have := TL.out 2; omega
  go_upto_if 45 with fail
  go_cut [5] from 16 to 132 (fun s5 wc => ShK w r (.slice am r.months.length cm) (.slice ad r.days.length cd) (.slice aw r.weeks.length cw) (.slice ap r.pick.length cp) (w.heap.size + 2) 3 s5 wc)
  case first =>
    rcases hc : (r.till != 0) with _ | _
    · have P0 : pt r 2 = [] := by
        show dayt r.till = []
        unfold dayt; rw [if_pos (by simpa using hc)]
      go_wp2
      go_meet
      case rel => exact S3.out.next (Below.refl _ _) (by rw [tk_no P0])
    · have hc' : ¬ r.till = 0 := by simpa using hc
      have P0 : pt r 2 = dt r.till := by
        show dayt r.till = _
        unfold dayt; rw [if_neg hc']
      obtain ⟨y1, y2, m1, m2, t1, t2⟩ := date_ok (n := r.till) (by omega) d2'
      have lb := ml_bd (yr r.till) (mo r.till)
      have DX : Hid (dtx (yr r.till) (mo r.till) (da r.till) = dt r.till) := Lib.hid (by
        unfold dtx dt dt3; rw [show (yr r.till / 100).toNat = (yr r.till).toNat / 100 by omega])
      have E : Hid (tb (tk r 2) ++ ⟨#[32, 117, 110, 116, 105, 108, 32]⟩ ++ tb (dt r.till) = tb (tk r 3)) := Lib.hid (by
        rw [tk_yes (k := 2) (by rw [P0]; intro e; have := congrArg List.length e; unfold dt at this; rw [dt3_len] at this; simp at this), P0]
        apply ByteArray.ext; simp [tb, kw])
      have ln : (dtx (yr r.till) (mo r.till) (da r.till)).length = 10 := rfl
      have KD := Lib.hid (refDate_yes r.till wc (by omega) d2')
      clear P0 hc'
      go_wp2_with fail
      refine KD.out.mono ?_
      rintro e w2 ⟨rfl, hb2⟩
      go_wp2_with fail
      refine (showDate_any _ _ _ _ (by omega) (by omega) (by omega) (by omega) (by omega) (by omega)).mono ?_
      rintro e w3 ⟨rfl, hb3⟩
      have BB := (hb2.alloc hb2.size (.cells #[.int .i64 (yr r.till), .int .i64 (mo r.till), .int .i64 (da r.till)] 50)).trans (hb3.mono (by have := hb2.size; simp; omega))
      clear hb2 hb3
      go_wp2_with fail
      go_meet
      case rel => exact S3.out.next BB (by rw [← E.out, ← DX.out]; rfl)
  case rest =>
  have S4 := Lib.hid hcut
  clear hcut S3
  obtain ⟨rfl, hBc, ⟨q0, q1, q2, q3, q4, q5, q6, q7⟩, _⟩ := id S4.out
  have L0 : (tb (tk r 3)).size ≤ 40000 := by rw [tb_size]; have := TL.out 3; omega
  have HL := Lib.hid (HM.out.on hBc)
  go_upto_if 61 with fail
  go_cut [5] from 16 to 132 (fun s5 wc => ShK w r (.slice am r.months.length cm) (.slice ad r.days.length cd) (.slice aw r.weeks.length cw) (.slice ap r.pick.length cp) (w.heap.size + 2) 4 s5 wc)
  case first =>
    by_cases hc : 0 < r.months.length
    · have P0 : pt r 3 = lt nt r.months := rfl
      have P1 : pt r 3 ≠ [] := fun e => by
        have := (lt_nil nt r.months (fun x _ => nt_ne x)).1 e
        rw [this] at hc; simp at hc
      have E : Hid (tb (tk r 3) ++ ⟨#[32, 109, 111, 110, 116, 104, 115, 32]⟩ ++ tb (lt nt r.months) = tb (tk r 4)) := Lib.hid (by
        rw [tk_yes (k := 3) P1, P0]
        apply ByteArray.ext; simp [tb, kw])
      have ln : (lt nt r.months).length ≤ 5000 := PL.out 3
      have KL := Lib.hid (list_any _ r.months wc HL.out (by have := len_bd HO3.out; omega) (item_bd HO4.out).1)
      have hc' : (0 : Int) < r.months.length := by omega
      clear P0 P1
      go_wp2_with fail
      refine KL.out.mono ?_
      rintro e w' ⟨rfl, hw⟩
      subst hw
      go_wp2_with fail
      go_meet
      case rel => exact S4.out.next (Below.refl _ _) (by rw [← E.out]; rfl)
    · have P0 : pt r 3 = [] := by
        show lt nt r.months = []
        rw [List.eq_nil_of_length_eq_zero (by omega : r.months.length = 0)]; rfl
      have hc' : ¬ (0 : Int) < r.months.length := by omega
      go_wp2
      go_meet
      case rel => exact S4.out.next (Below.refl _ _) (by rw [tk_no P0])
  case rest =>
  have S5 := Lib.hid hcut
  clear hcut S4
  obtain ⟨rfl, hBc, ⟨q0, q1, q2, q3, q4, q5, q6, q7⟩, _⟩ := id S5.out
  have L0 : (tb (tk r 4)).size ≤ 40000 := by rw [tb_size]; have := TL.out 4; omega
  have HL := Lib.hid (HD.out.on hBc)
  go_upto_if 72 with fail
  go_cut [5] from 16 to 132 (fun s5 wc => ShK w r (.slice am r.months.length cm) (.slice ad r.days.length cd) (.slice aw r.weeks.length cw) (.slice ap r.pick.length cp) (w.heap.size + 2) 5 s5 wc)
  case first =>
    by_cases hc : 0 < r.days.length
    · have P0 : pt r 4 = lt nt r.days := rfl
      have P1 : pt r 4 ≠ [] := fun e => by
        have := (lt_nil nt r.days (fun x _ => nt_ne x)).1 e
        rw [this] at hc; simp at hc
      have E : Hid (tb (tk r 4) ++ ⟨#[32, 100, 97, 121, 115, 32]⟩ ++ tb (lt nt r.days) = tb (tk r 5)) := Lib.hid (by
        rw [tk_yes (k := 4) P1, P0]
        apply ByteArray.ext; simp [tb, kw])
      have ln : (lt nt r.days).length ≤ 5000 := PL.out 4
      have KL := Lib.hid (list_any _ r.days wc HL.out (by have := len_bd HO3.out; omega) (item_bd HO4.out).2.1)
      have hc' : (0 : Int) < r.days.length := by omega
      clear P0 P1
      go_wp2_with fail
      refine KL.out.mono ?_
      rintro e w' ⟨rfl, hw⟩
      subst hw
      go_wp2_with fail
      go_meet
      case rel => exact S5.out.next (Below.refl _ _) (by rw [← E.out]; rfl)
    · have P0 : pt r 4 = [] := by
        show lt nt r.days = []
        rw [List.eq_nil_of_length_eq_zero (by omega : r.days.length = 0)]; rfl
      have hc' : ¬ (0 : Int) < r.days.length := by omega
      go_wp2
      go_meet
      case rel => exact S5.out.next (Below.refl _ _) (by rw [tk_no P0])
  case rest =>
  have S6 := Lib.hid hcut
  clear hcut S5
  obtain ⟨rfl, hBc, ⟨q0, q1, q2, q3, q4, q5, q6, q7⟩, _⟩ := id S6.out
  have L0 : (tb (tk r 5)).size ≤ 40000 := by rw [tb_size]; have := TL.out 5; omega
  have HL := Lib.hid (HW.out.on hBc)
  obtain ⟨_, _, _, hDY⟩ := id S6.out
  have HDY := Lib.hid hDY
  have L5 : Hid ((tw r 0).length ≤ 26000 + 40 * 0) := Lib.hid (by unfold tw; rw [if_pos rfl, List.append_nil]; have := TL.out 5; omega)
  have E5 : Hid (tb (tk r 5) = tb (tw r 0)) := Lib.hid (by unfold tw; rw [if_pos rfl, List.append_nil])
  have l20 := (len_bd HO3.out).2.2.1
  clear hDY
  rw [E5.out]
  go_wp2
  go_loop [5, 13] (fun v i => ∃ k : Nat, k ≤ r.weeks.length ∧ i = .int .i64 k ∧ v = .string (tb (tw r k)) ∧ (tw r k).length ≤ 26000 + 40 * k) (fun _ i => r.weeks.length - (intOf i).toNat)
  case atStart => exact ⟨0, Nat.zero_le _, rfl, rfl, L5.out⟩
  case round =>
    obtain ⟨k, hk, rfl, rfl, hlen⟩ := hrel
    by_cases hlt : k < r.weeks.length
    · obtain ⟨a', c', e', hc⟩ := HL.out
      rcases hc with hc | ⟨b', off', ea, hc⟩
      · rw [hc] at hlt; simp at hlt
      obtain ⟨rfl, rfl⟩ : aw = some ⟨b', off', none⟩ ∧ cw = c' := by simpa [ea] using e'
      have ck := hc k hlt
      obtain ⟨x, hx⟩ : ∃ x, x = r.weeks.getD k (0, 0) := ⟨_, rfl⟩
      have hb := wkB_iff.1 HWK.out k hlt
      rw [← hx] at ck hb
      obtain ⟨ck1, ck2⟩ := ck
      obtain ⟨x1, x7, x5, x5'⟩ := hb
      have HX := Lib.hid hx
      obtain ⟨dn0, hdn⟩ : ∃ m : Nat, x.2 = m := ⟨x.2.toNat, by omega⟩
      have cd := HDY.out dn0 (by omega)
      have dl := dn_len x1 x7
      have ls : (tb (tw r k)).size ≤ 27000 := by rw [tb_size]; omega
      have l2 : (tb (dn dn0)).size = 2 := by rw [tb_size, ← hdn]; exact dl
      have ln := nt_len x.1 (by omega) (by omega)
      have d8 : (dn0 : Int) < 8 := by omega
      rw [hdn] at ck2
      have HDN := Lib.hid hdn
      clear hdn dl
      clear hx hc ea e'
      rcases Nat.eq_zero_or_pos k with h0 | hk0
      · subst h0
        rw [show off' + 0 * 2 = off' by omega] at ck1
        rw [show off' + 0 * 2 + 1 = off' + 1 by omega] at ck2
        rcases hz : (x.1 != 0) with _ | _
        · have E : Hid (tb (tw r 0) ++ ⟨#[32, 111, 110, 32]⟩ ++ tb (dn dn0) = tb (tw r (0 + 1))) := Lib.hid (by
            rw [tw_first hlt, ← HX.out]
            unfold wt
            rw [if_pos (by simpa using hz), HDN.out]
            apply ByteArray.ext; simp [tb])
          have LE : Hid ((tw r (0 + 1)).length ≤ 26000 + 40 * (0 + 1)) := Lib.hid (by
            rw [tw_first hlt, ← HX.out]
            have := wt_len x x1 x7 (by omega) (by omega)
            simp only [List.length_append, List.length_cons, List.length_nil]; omega)
          go_wp2_with fail
          go_round
          case rel => exact ⟨0 + 1, by omega, by go_num, by first | (rw [← E.out]; done) | (rw [← E.out]; rfl), LE.out⟩
          case measure => simp [intOf]; omega
        · have E : Hid (tb (tw r 0) ++ ⟨#[32, 111, 110, 32]⟩ ++ tb (nt x.1) ++ tb (dn dn0) = tb (tw r (0 + 1))) := Lib.hid (by
            rw [tw_first hlt, ← HX.out]
            unfold wt
            rw [if_neg (by simpa using hz), HDN.out]
            apply ByteArray.ext; simp [tb])
          have LE : Hid ((tw r (0 + 1)).length ≤ 26000 + 40 * (0 + 1)) := Lib.hid (by
            rw [tw_first hlt, ← HX.out]
            have := wt_len x x1 x7 (by omega) (by omega)
            simp only [List.length_append, List.length_cons, List.length_nil]; omega)
          go_wp2_with fail
          refine (refDigits_nt x.1 _ (by omega) (by omega)).mono ?_
          rintro e w' ⟨rfl, hw⟩
          subst hw
          go_wp2_with fail
          go_round
          case rel => exact ⟨0 + 1, by omega, by go_num, by first | (rw [← E.out]; done) | (rw [← E.out]; rfl), LE.out⟩
          case measure => simp [intOf]; omega
      · have hkz : ((k : Int) == 0) = false := by rw [beq_eq_false_iff_ne]; omega
        rcases hz : (x.1 != 0) with _ | _
        · have E : Hid (tb (tw r k) ++ ⟨#[44]⟩ ++ tb (dn dn0) = tb (tw r (k + 1))) := Lib.hid (by
            rw [tw_next hk0 hlt, ← HX.out]
            unfold wt
            rw [if_pos (by simpa using hz), HDN.out]
            apply ByteArray.ext; simp [tb])
          have LE : Hid ((tw r (k + 1)).length ≤ 26000 + 40 * (k + 1)) := Lib.hid (by
            rw [tw_next hk0 hlt, ← HX.out]
            have := wt_len x x1 x7 (by omega) (by omega)
            simp only [List.length_append, List.length_cons, List.length_nil]; omega)
          go_wp2_with fail
          go_round
          case rel => exact ⟨k + 1, by omega, by go_num, by first | (rw [← E.out]; done) | (rw [← E.out]; rfl), LE.out⟩
          case measure => simp [intOf]; omega
        · have E : Hid (tb (tw r k) ++ ⟨#[44]⟩ ++ tb (nt x.1) ++ tb (dn dn0) = tb (tw r (k + 1))) := Lib.hid (by
            rw [tw_next hk0 hlt, ← HX.out]
            unfold wt
            rw [if_neg (by simpa using hz), HDN.out]
            apply ByteArray.ext; simp [tb])
          have LE : Hid ((tw r (k + 1)).length ≤ 26000 + 40 * (k + 1)) := Lib.hid (by
            rw [tw_next hk0 hlt, ← HX.out]
            have := wt_len x x1 x7 (by omega) (by omega)
            simp only [List.length_append, List.length_cons, List.length_nil]; omega)
          go_wp2_with fail
          refine (refDigits_nt x.1 _ (by omega) (by omega)).mono ?_
          rintro e w' ⟨rfl, hw⟩
          subst hw
          go_wp2_with fail
          go_round
          case rel => exact ⟨k + 1, by omega, by go_num, by first | (rw [← E.out]; done) | (rw [← E.out]; rfl), LE.out⟩
          case measure => simp [intOf]; omega
    · obtain rfl : k = r.weeks.length := by omega
      have E6 : Hid (tb (tw r r.weeks.length) = tb (tk r 6)) := Lib.hid (by rw [tw_all r HWK.out])
      rw [E6.out]
      have L0 : (tb (tk r 6)).size ≤ 40000 := by rw [tb_size]; have := TL.out 6; omega
      clear hlen hlt
      have HLp := Lib.hid (HP.out.on hBc)
      by_cases hc : 0 < r.pick.length
      · have P0 : pt r 6 = lt nt r.pick := rfl
        have P1 : pt r 6 ≠ [] := fun e => by
          have := (lt_nil nt r.pick (fun x _ => nt_ne x)).1 e
          rw [this] at hc; simp at hc
        have E : Hid (tb (tk r 6) ++ ⟨#[32, 112, 105, 99, 107, 32]⟩ ++ tb (lt nt r.pick) = tb (rt r)) := Lib.hid (by
          rw [← TK.out, tk_yes (k := 6) P1, P0]
          apply ByteArray.ext; simp [tb, kw])
        have ln : (lt nt r.pick).length ≤ 5000 := PL.out 6
        have KL := Lib.hid (list_any _ r.pick wc HLp.out (by have := len_bd HO3.out; omega) (item_bd HO4.out).2.2)
        have hc' : (0 : Int) < r.pick.length := by omega
        clear P0 P1
        go_wp2_with fail
        refine KL.out.mono ?_
        rintro e w' ⟨rfl, hw⟩
        subst hw
        go_wp2_with fail
        go_ret
        exact ⟨ret_ba E.out, hBc⟩
      · have P0 : pt r 6 = [] := by
          show lt nt r.pick = []
          rw [List.eq_nil_of_length_eq_zero (by omega : r.pick.length = 0)]; rfl
        have E : Hid (tb (tk r 6) = tb (rt r)) := Lib.hid (by rw [← TK.out, tk_no (k := 6) P0])
        have hc' : ¬ (0 : Int) < r.pick.length := by omega
        clear P0
        go_wp2
        go_ret
        exact ⟨ret_ba E.out, hBc⟩
end Go.Proofs.YtoafdacgekmomabGreatDoor
