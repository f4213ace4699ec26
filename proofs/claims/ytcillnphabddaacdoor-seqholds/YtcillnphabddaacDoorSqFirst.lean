/-
  What is proved here: what package seq's First answers (a contract over the translation).
-/
import Derived.Test.YtcillnphabddaacDoorSqMost
import Derived.Deep.RegionHeld3
namespace Go.Proofs.YtcillnphabddaacDoor
open Go.RowKit Cal Txt

/-- A list, or an error. -/
def LstA (w : World) (k : Int) (l : List Int) (e : Ending) (w' : World) : Prop :=
  Below w.heap.size w w' ∧ ((k ≠ 0 ∧ e = .returned (.tuple #[.slice none 0 0, fault k])) ∨ (k = 0 ∧ ∃ v, e = .returned (.tuple #[v, .nilIface]) ∧ Ints w' v l))
/-- What is wrong with what First is asked. -/
def ff (r : Rl) (s n : Int) : Int := if sf r s = 0 then (if 0 ≤ n ∧ n ≤ 200 then 0 else 1) else sf r s
set_option maxRecDepth 100000 in
set_option maxHeartbeats 4000000 in
theorem first_any (r : Rl) (v : Value) (s n : Int) (w : World) (hv : RuleIn w v r) (hT : Tab w) :
    Calls Tryd.prog 14 #[v, .int .i64 s, .int .i64 n] w (LstA w (ff r s n) ((btL r s s 109573).take n.toNat)) := by
  obtain ⟨am, ad, aw, ap, cm, cd, cw, cp, rfl⟩ := hv.form
  obtain ⟨W, hW⟩ : ∃ W, W = w.alloc (.cells #[.int .i64 r.freq, .int .i64 r.every, .int .i64 r.count, .int .i64 r.till, .slice am r.months.length cm, .slice ad r.days.length cd, .slice aw r.weeks.length cw, .slice ap r.pick.length cp] 30) := ⟨_, rfl⟩
  have hB : Below w.heap.size w W := by rw [hW]; exact (Below.refl _ _).alloc (Nat.le_refl _) _
  have hR : RlB W w.heap.size r am ad aw ap cm cd cw cp := by rw [hW]; exact RlB.new _ _ _ _ _ _ _ _ _ _
  have zW : W.heap.size = w.heap.size + 1 := by rw [hW]; simp
  have HS : Hid (∀ X, Below W.heap.size W X → X.cell? ⟨w.heap.size, 0, none⟩ = some (.int .i64 r.freq) ∧ X.cell? ⟨w.heap.size, 1, none⟩ = some (.int .i64 r.every) ∧ X.cell? ⟨w.heap.size, 2, none⟩ = some (.int .i64 r.count) ∧ X.cell? ⟨w.heap.size, 3, none⟩ = some (.int .i64 r.till) ∧ X.cell? ⟨w.heap.size, 4, none⟩ = some (.slice am r.months.length cm) ∧ X.cell? ⟨w.heap.size, 5, none⟩ = some (.slice ad r.days.length cd) ∧ X.cell? ⟨w.heap.size, 6, none⟩ = some (.slice aw r.weeks.length cw) ∧ X.cell? ⟨w.heap.size, 7, none⟩ = some (.slice ap r.pick.length cp)) := Lib.hid (fun X q => RlB.box (show RlB X w.heap.size r am ad aw ap cm cd cw cp from (q.block _ (by omega)).trans hR))
  have KB : Hid (∀ X, Below W.heap.size W X → Calls Tryd.prog 30 #[(.agg #[.int .i64 r.freq, .int .i64 r.every, .int .i64 r.count, .int .i64 r.till, .slice am r.months.length cm, .slice ad r.days.length cd, .slice aw r.weeks.length cw, .slice ap r.pick.length cp]), .int .i64 s, .int .i64 s, .int .i64 109573] X (BetA X r s s 109573)) := Lib.hid (fun X q => by
    have hb : Below w.heap.size w X := hB.trans (q.mono hB.size)
    exact between_any r _ s s 109573 X (hv.on hb) (hT.below hb) (Or.inl (Int.le_refl _)))
  have HB := Lib.hid hB
  clear hv hT hB hR
  go_enter Tryd.func14, Tryd.ntmps14
  go_wp2_with fail
  rw [← hW]
  clear hW
  go_region_held3 (fun X => X.cell? ⟨w.heap.size, 0, none⟩ = some (.int .i64 r.freq) ∧ X.cell? ⟨w.heap.size, 1, none⟩ = some (.int .i64 r.every) ∧ X.cell? ⟨w.heap.size, 2, none⟩ = some (.int .i64 r.count) ∧ X.cell? ⟨w.heap.size, 3, none⟩ = some (.int .i64 r.till) ∧ X.cell? ⟨w.heap.size, 4, none⟩ = some (.slice am r.months.length cm) ∧ X.cell? ⟨w.heap.size, 5, none⟩ = some (.slice ad r.days.length cd) ∧ X.cell? ⟨w.heap.size, 6, none⟩ = some (.slice aw r.weeks.length cw) ∧ X.cell? ⟨w.heap.size, 7, none⟩ = some (.slice ap r.pick.length cp))
    (first | exact HS.out _ (Below.refl _ _).drew | exact HS.out _ (Below.trans (Below.drew (Below.refl _ W)) hb2.1)) (first
    | (go_at_call 12; refine (last_any _).mono ?_; rintro e w2 ⟨rfl, rfl⟩)
    | (go_at_call 30; refine (KB.out _ (Below.refl _ W).drew).mono ?_; rintro e w3 hb2; obtain ⟨vf, ve, hve⟩ : ∃ vf ve, e = .returned (.tuple #[vf, ve]) := (by rcases hb2.2 with ⟨_, q⟩ | ⟨_, _, _, q, _⟩ <;> exact ⟨_, _, q⟩); subst hve))
  obtain ⟨hb3, hc⟩ := hb2
  have h4 : Below W.heap.size W w3 := Below.trans (Below.drew (Below.refl _ W)) hb3
  have B3 := Lib.hid (HB.out.trans (h4.mono HB.out.size))
  clear h4
  clear HS KB
  rcases hc with ⟨k1, k2⟩ | ⟨k1, k2, lb, k3, hI⟩
  · obtain ⟨rfl, rfl⟩ : vf = .nilFunc ∧ ve = fault (sf r s) := by simpa using k2
    have FE : Hid (ff r s n = sf r s) := Lib.hid (if_neg k1)
    have K1 := Lib.hid k1
    rw [fault_ne k1]
    clear k1 k2 hb3
    go_wp2
    exact bodyPost_ret (v := .tuple #[.slice none 0 0, .iface 54 (.int .i64 (sf r s))]) (by simp [results, Tryd.results14, go_sem]) rfl ⟨B3.out, Or.inl ⟨by rw [FE.out]; exact K1.out, by rw [FE.out, fault_ne K1.out]⟩⟩
  · obtain ⟨rfl, rfl⟩ : vf = .func (.func 61) #[] lb ∧ ve = .nilIface := by simpa using k3
    have HI := Lib.hid hI
    have H3 := Lib.hid hb3
    have z3 : W.heap.size + 4 ≤ w3.heap.size := k2
    clear hI k3 k2 hb3
    by_cases n1 : 0 ≤ n
    · by_cases n2 : n ≤ 200
      · have FE : Hid (ff r s n = 0) := Lib.hid ((if_pos k1).trans (if_pos ⟨n1, n2⟩))
        have t1 : decide (n < 0) = false := decide_eq_false (by omega)
        have t2 : decide (n > 200) = false := decide_eq_false (by omega)
        have KA := Lib.hid (atMost_any n lb _ _ w3 _ HI.out (by show W.heap.size ≤ w3.heap.size; omega) (fun b hb => ⟨by have q : b < W.heap.size + 4 := hb.2; omega, hb.1⟩) n1 (by omega))
        clear k1
        go_wp2_with fail
        refine KA.out.mono ?_
        rintro e w4 ⟨v4, rfl, i4, b4⟩
        have I4 := Lib.hid i4
        have B4 := Lib.hid (B3.out.trans (b4.mono (by show w.heap.size ≤ W.heap.size; omega)))
        obtain ⟨a4, c4, rfl, _⟩ := i4
        clear b4 KA
        go_wp2
        exact bodyPost_ret (v := .tuple #[.slice a4 ((btL r s s 109573).take n.toNat).length c4, .nilIface]) (by simp [results, Tryd.results14, go_sem]) rfl ⟨B4.out, Or.inr ⟨FE.out, _, rfl, I4.out⟩⟩
      · have FE : Hid (ff r s n = 1) := Lib.hid ((if_pos k1).trans (if_neg (by omega)))
        have t1 : decide (n < 0) = false := decide_eq_false (by omega)
        have t2 : decide (n > 200) = true := decide_eq_true (by omega)
        clear k1
        go_wp2
        exact bodyPost_ret (v := .tuple #[.slice none 0 0, errRange]) (by simp [results, Tryd.results14, go_sem]) rfl ⟨B3.out, Or.inl ⟨by rw [FE.out]; decide, by rw [FE.out]; rfl⟩⟩
    · have FE : Hid (ff r s n = 1) := Lib.hid ((if_pos k1).trans (if_neg (by omega)))
      have t1 : decide (n < 0) = true := decide_eq_true (by omega)
      clear k1
      go_wp2
      exact bodyPost_ret (v := .tuple #[.slice none 0 0, errRange]) (by simp [results, Tryd.results14, go_sem]) rfl ⟨B3.out, Or.inl ⟨by rw [FE.out]; decide, by rw [FE.out]; rfl⟩⟩
end Go.Proofs.YtcillnphabddaacDoor
