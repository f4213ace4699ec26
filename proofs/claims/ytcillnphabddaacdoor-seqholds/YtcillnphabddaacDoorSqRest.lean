/-
  What is proved here: what package seq's Between, Has and Count answer (contracts over the translation).
-/
import Derived.Test.YtcillnphabddaacDoorSqFirst
namespace Go.Proofs.YtcillnphabddaacDoor
open Go.RowKit Cal Txt

/-- What is wrong with what Between is asked. -/
def bf (r : Rl) (s fr t : Int) : Int := if sf r s = 0 then (if 200 < (btL r s fr t).length then 4 else 0) else sf r s
set_option maxRecDepth 100000 in
set_option maxHeartbeats 4000000 in
theorem betw_any (r : Rl) (v : Value) (s fr t : Int) (w : World) (hv : RuleIn w v r) (hT : Tab w) (hfr : fr ≤ s ∨ fr ≤ 9223372036854775807) :
    Calls Tryd.prog 18 #[v, .int .i64 s, .int .i64 fr, .int .i64 t] w (LstA w (bf r s fr t) (btL r s fr t)) := by
  obtain ⟨am, ad, aw, ap, cm, cd, cw, cp, rfl⟩ := hv.form
  obtain ⟨W, hW⟩ : ∃ W, W = w.alloc (.cells #[.int .i64 r.freq, .int .i64 r.every, .int .i64 r.count, .int .i64 r.till, .slice am r.months.length cm, .slice ad r.days.length cd, .slice aw r.weeks.length cw, .slice ap r.pick.length cp] 30) := ⟨_, rfl⟩
  have hB : Below w.heap.size w W := by rw [hW]; exact (Below.refl _ _).alloc (Nat.le_refl _) _
  have zW : W.heap.size = w.heap.size + 1 := by rw [hW]; simp
  have KB := Lib.hid (between_any r _ s fr t W (hv.on hB) (hT.below hB) hfr)
  have HB := Lib.hid hB
  clear hv hT hB hfr
  go_enter Tryd.func18, Tryd.ntmps18
  go_wp2_with fail
  rw [← hW]
  clear hW
  refine KB.out.mono ?_
  rintro e w3 ⟨hb3, hc⟩
  have B3 := Lib.hid (HB.out.trans (hb3.mono HB.out.size))
  clear KB
  rcases hc with ⟨k1, rfl⟩ | ⟨k1, k2, lb, rfl, hI⟩
  · have FE : Hid (bf r s fr t = sf r s) := Lib.hid (if_neg k1)
    have K1 := Lib.hid k1
    rw [fault_ne k1]
    clear k1 hb3
    go_wp2
    exact bodyPost_ret (v := .tuple #[.slice none 0 0, .iface 54 (.int .i64 (sf r s))]) (by simp [results, Tryd.results18, go_sem]) rfl ⟨B3.out, Or.inl ⟨by rw [FE.out]; exact K1.out, by rw [FE.out, fault_ne K1.out]⟩⟩
  · have z3 : W.heap.size + 4 ≤ w3.heap.size := k2
    have KA := Lib.hid (atMost_any 201 lb _ _ w3 _ hI (by omega) (fun b hb => ⟨by have q : b < W.heap.size + 4 := hb.2; omega, hb.1⟩) (by omega) (by omega))
    have K1 := Lib.hid k1
    clear hI k1 k2 hb3
    go_wp2_with fail
    refine KA.out.mono ?_
    rintro e w4 ⟨v4, rfl, i4, b4⟩
    have B4 := Lib.hid (B3.out.trans (b4.mono (by omega)))
    have I4 := Lib.hid i4
    obtain ⟨a4, c4, rfl, _⟩ := i4
    have hl : ((btL r s fr t).take (201 : Int).toNat).length = min 201 (btL r s fr t).length := List.length_take
    obtain ⟨m, hm⟩ : ∃ m, m = ((btL r s fr t).take (201 : Int).toNat).length := ⟨_, rfl⟩
    rw [← hm]
    rw [← hm] at hl
    have HM := Lib.hid hm
    clear b4 KA hm
    by_cases hg : 200 < (btL r s fr t).length
    · have FE : Hid (bf r s fr t = 4) := Lib.hid ((if_pos K1.out).trans (if_pos hg))
      have t1 : decide ((m : Int) > 200) = true := decide_eq_true (by omega)
      clear hg hl
      go_wp2
      exact bodyPost_ret (v := .tuple #[.slice none 0 0, .iface 54 (.int .i64 4)]) (by simp [results, Tryd.results18, go_sem]) rfl ⟨B4.out, Or.inl ⟨by rw [FE.out]; decide, by rw [FE.out]; rfl⟩⟩
    · have FE : Hid (bf r s fr t = 0) := Lib.hid ((if_pos K1.out).trans (if_neg hg))
      have t1 : decide ((m : Int) > 200) = false := decide_eq_false (by omega)
      have ET : Hid ((btL r s fr t).take (201 : Int).toNat = btL r s fr t) := Lib.hid (List.take_of_length_le (by show (btL r s fr t).length ≤ 201; omega))
      clear hg hl
      go_wp2
      exact bodyPost_ret (v := .tuple #[.slice a4 m c4, .nilIface]) (by simp [results, Tryd.results18, go_sem]) rfl ⟨B4.out, Or.inr ⟨FE.out, _, rfl, by have q := I4.out; rw [← HM.out, ET.out] at q; exact q⟩⟩
set_option maxRecDepth 100000 in
set_option maxHeartbeats 4000000 in
theorem has_any (r : Rl) (v : Value) (s n : Int) (w : World) (hv : RuleIn w v r) (hT : Tab w) (hfr : n ≤ s ∨ n ≤ 9223372036854775807) :
    Calls Tryd.prog 16 #[v, .int .i64 s, .int .i64 n] w fun e w' => Below w.heap.size w w' ∧ ((sf r s ≠ 0 ∧ e = .returned (.tuple #[.bool false, fault (sf r s)])) ∨ (sf r s = 0 ∧ e = .returned (.tuple #[.bool (decide (btL r s n n ≠ [])), .nilIface]))) := by
  obtain ⟨am, ad, aw, ap, cm, cd, cw, cp, rfl⟩ := hv.form
  obtain ⟨W, hW⟩ : ∃ W, W = w.alloc (.cells #[.int .i64 r.freq, .int .i64 r.every, .int .i64 r.count, .int .i64 r.till, .slice am r.months.length cm, .slice ad r.days.length cd, .slice aw r.weeks.length cw, .slice ap r.pick.length cp] 30) := ⟨_, rfl⟩
  have hB : Below w.heap.size w W := by rw [hW]; exact (Below.refl _ _).alloc (Nat.le_refl _) _
  have zW : W.heap.size = w.heap.size + 1 := by rw [hW]; simp
  have KB := Lib.hid (between_any r _ s n n W (hv.on hB) (hT.below hB) hfr)
  have HB := Lib.hid hB
  clear hv hT hB hfr
  go_enter Tryd.func16, Tryd.ntmps16
  go_wp2_with fail
  rw [← hW]
  clear hW
  refine KB.out.mono ?_
  rintro e w3 ⟨hb3, hc⟩
  have B3 := Lib.hid (HB.out.trans (hb3.mono HB.out.size))
  clear KB
  rcases hc with ⟨k1, rfl⟩ | ⟨k1, k2, lb, rfl, hI⟩
  · have K1 := Lib.hid k1
    rw [fault_ne k1]
    clear k1 hb3
    go_wp2
    exact bodyPost_ret (v := .tuple #[.bool false, .iface 54 (.int .i64 (sf r s))]) (by simp [results, Tryd.results16, go_sem]) rfl ⟨B3.out, Or.inl ⟨K1.out, by rw [fault_ne K1.out]⟩⟩
  · have z3 : W.heap.size + 4 ≤ w3.heap.size := k2
    have KA := Lib.hid (atMost_any 1 lb _ _ w3 _ hI (by omega) (fun b hb => ⟨by have q : b < W.heap.size + 4 := hb.2; omega, hb.1⟩) (by omega) (by omega))
    have K1 := Lib.hid k1
    clear hI k1 k2 hb3
    go_wp2_with fail
    refine KA.out.mono ?_
    rintro e w4 ⟨v4, rfl, i4, b4⟩
    have B4 := Lib.hid (B3.out.trans (b4.mono (by omega)))
    obtain ⟨a4, c4, rfl, _⟩ := i4
    have hl : ((btL r s n n).take (1 : Int).toNat).length = min 1 (btL r s n n).length := List.length_take
    obtain ⟨m, hm⟩ : ∃ m, m = ((btL r s n n).take (1 : Int).toNat).length := ⟨_, rfl⟩
    rw [← hm]
    rw [← hm] at hl
    clear b4 KA hm
    by_cases hg : btL r s n n = []
    · have t1 : ((m : Int) == 1) = false := by rw [hg] at hl; simp at hl; simp; omega
      have DE : Hid (decide (btL r s n n ≠ []) = false) := Lib.hid (decide_eq_false (fun h => h hg))
      clear hg hl
      go_wp2
      exact bodyPost_ret (v := .tuple #[.bool false, .nilIface]) (by simp [results, Tryd.results16, go_sem]) rfl ⟨B4.out, Or.inr ⟨K1.out, by rw [DE.out]⟩⟩
    · have lp := List.length_pos_iff.2 hg
      have t1 : ((m : Int) == 1) = true := by simp; omega
      have DE : Hid (decide (btL r s n n ≠ []) = true) := Lib.hid (decide_eq_true hg)
      clear hg hl lp
      go_wp2
      exact bodyPost_ret (v := .tuple #[.bool true, .nilIface]) (by simp [results, Tryd.results16, go_sem]) rfl ⟨B4.out, Or.inr ⟨K1.out, by rw [DE.out]⟩⟩
set_option maxRecDepth 100000 in
set_option maxHeartbeats 4000000 in
theorem count_any (r : Rl) (v : Value) (s : Int) (w : World) (hv : RuleIn w v r) (hT : Tab w) :
    Calls Tryd.prog 15 #[v, .int .i64 s] w fun e w' => Below w.heap.size w w' ∧ ((sf r s ≠ 0 ∧ e = .returned (.tuple #[.int .i64 0, fault (sf r s)])) ∨ (sf r s = 0 ∧ e = .returned (.tuple #[.int .i64 ((min 201 (btL r s s 109573).length : Nat) : Int), .nilIface]))) := by
  obtain ⟨am, ad, aw, ap, cm, cd, cw, cp, rfl⟩ := hv.form
  obtain ⟨W, hW⟩ : ∃ W, W = w.alloc (.cells #[.int .i64 r.freq, .int .i64 r.every, .int .i64 r.count, .int .i64 r.till, .slice am r.months.length cm, .slice ad r.days.length cd, .slice aw r.weeks.length cw, .slice ap r.pick.length cp] 30) := ⟨_, rfl⟩
  have hB : Below w.heap.size w W := by rw [hW]; exact (Below.refl _ _).alloc (Nat.le_refl _) _
  have hR : RlB W w.heap.size r am ad aw ap cm cd cw cp := by rw [hW]; exact RlB.new _ _ _ _ _ _ _ _ _ _
  have zW : W.heap.size = w.heap.size + 1 := by rw [hW]; simp
  have HS : Hid (∀ X, Below W.heap.size W X → X.cell? ⟨w.heap.size, 0, none⟩ = some (.int .i64 r.freq) ∧ X.cell? ⟨w.heap.size, 1, none⟩ = some (.int .i64 r.every) ∧ X.cell? ⟨w.heap.size, 2, none⟩ = some (.int .i64 r.count) ∧ X.cell? ⟨w.heap.size, 3, none⟩ = some (.int .i64 r.till) ∧ X.cell? ⟨w.heap.size, 4, none⟩ = some (.slice am r.months.length cm) ∧ X.cell? ⟨w.heap.size, 5, none⟩ = some (.slice ad r.days.length cd) ∧ X.cell? ⟨w.heap.size, 6, none⟩ = some (.slice aw r.weeks.length cw) ∧ X.cell? ⟨w.heap.size, 7, none⟩ = some (.slice ap r.pick.length cp)) := Lib.hid (fun X q => RlB.box (show RlB X w.heap.size r am ad aw ap cm cd cw cp from (q.block _ (by omega)).trans hR))
  have KB : Hid (∀ X, Below W.heap.size W X → Calls Tryd.prog 30 #[(.agg #[.int .i64 r.freq, .int .i64 r.every, .int .i64 r.count, .int .i64 r.till, .slice am r.months.length cm, .slice ad r.days.length cd, .slice aw r.weeks.length cw, .slice ap r.pick.length cp]), .int .i64 s, .int .i64 s, .int .i64 109573] X (BetA X r s s 109573)) := Lib.hid (fun X q => by
    have hb : Below w.heap.size w X := hB.trans (q.mono hB.size)
    exact between_any r _ s s 109573 X (hv.on hb) (hT.below hb) (Or.inl (Int.le_refl _)))
  have HB := Lib.hid hB
  clear hv hT hB hR
  go_enter Tryd.func15, Tryd.ntmps15
  go_wp2_with fail
  rw [← hW]
  clear hW
  go_region_held3 (fun X => X.cell? ⟨w.heap.size, 0, none⟩ = some (.int .i64 r.freq) ∧ X.cell? ⟨w.heap.size, 1, none⟩ = some (.int .i64 r.every) ∧ X.cell? ⟨w.heap.size, 2, none⟩ = some (.int .i64 r.count) ∧ X.cell? ⟨w.heap.size, 3, none⟩ = some (.int .i64 r.till) ∧ X.cell? ⟨w.heap.size, 4, none⟩ = some (.slice am r.months.length cm) ∧ X.cell? ⟨w.heap.size, 5, none⟩ = some (.slice ad r.days.length cd) ∧ X.cell? ⟨w.heap.size, 6, none⟩ = some (.slice aw r.weeks.length cw) ∧ X.cell? ⟨w.heap.size, 7, none⟩ = some (.slice ap r.pick.length cp))
    (first | exact HS.out _ (Below.refl _ _).drew | exact HS.out _ (Below.trans (Below.drew (Below.refl _ W)) hb2.1)) (first
    | (go_at_call 12; refine (last_any _).mono ?_; rintro e w2 ⟨rfl, rfl⟩)
    | (go_at_call 30; refine (KB.out _ (Below.refl _ W).drew).mono ?_; rintro e w3 hb2; obtain ⟨vf, ve, hve⟩ : ∃ vf ve, e = .returned (.tuple #[vf, ve]) := (by rcases hb2.2 with ⟨_, q⟩ | ⟨_, _, _, q, _⟩ <;> exact ⟨_, _, q⟩); subst hve))
  obtain ⟨hb3, hc⟩ := hb2
  have h4 : Below W.heap.size W w3 := Below.trans (Below.drew (Below.refl _ W)) hb3
  have B3 := Lib.hid (HB.out.trans (h4.mono HB.out.size))
  clear h4 HS KB
  rcases hc with ⟨k1, k2⟩ | ⟨k1, k2, lb, k3, hI⟩
  · obtain ⟨rfl, rfl⟩ : vf = .nilFunc ∧ ve = fault (sf r s) := by simpa using k2
    have K1 := Lib.hid k1
    rw [fault_ne k1]
    clear k1 k2 hb3
    go_wp2
    exact bodyPost_ret (v := .tuple #[.int .i64 0, .iface 54 (.int .i64 (sf r s))]) (by simp [results, Tryd.results15, go_sem]) rfl ⟨B3.out, Or.inl ⟨K1.out, by rw [fault_ne K1.out]⟩⟩
  · obtain ⟨rfl, rfl⟩ : vf = .func (.func 61) #[] lb ∧ ve = .nilIface := by simpa using k3
    have z3 : W.heap.size + 4 ≤ w3.heap.size := k2
    have KA := Lib.hid (atMost_any 201 lb _ _ w3 _ hI (by show W.heap.size ≤ w3.heap.size; omega) (fun b hb => ⟨by have q : b < W.heap.size + 4 := hb.2; omega, hb.1⟩) (by omega) (by omega))
    have K1 := Lib.hid k1
    clear hI k3 k2 hb3 k1
    go_wp2_with fail
    refine KA.out.mono ?_
    rintro e w4 ⟨v4, rfl, i4, b4⟩
    have B4 := Lib.hid (B3.out.trans (b4.mono (by show w.heap.size ≤ W.heap.size; omega)))
    obtain ⟨a4, c4, rfl, _⟩ := i4
    have hl : ((btL r s s 109573).take (201 : Int).toNat).length = min 201 (btL r s s 109573).length := List.length_take
    rw [hl]
    obtain ⟨m, hm⟩ : ∃ m, min 201 (btL r s s 109573).length = m := ⟨_, rfl⟩
    rw [hm]
    have HM := Lib.hid hm
    clear hm
    clear b4 KA hl
    go_wp2
    exact bodyPost_ret (v := .tuple #[.int .i64 (m : Int), .nilIface]) (by simp [results, Tryd.results15, go_sem]) rfl ⟨B4.out, Or.inr ⟨K1.out, by rw [HM.out]⟩⟩
end Go.Proofs.YtcillnphabddaacDoor
