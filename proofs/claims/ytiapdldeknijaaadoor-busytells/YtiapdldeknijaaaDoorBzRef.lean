/-
  What is proved here: what the document's Time, Busy and Slot (chimeref1, chimeref2) and chimesame.Busies answer at stretches (contracts over the translation).
-/
import Derived.Test.YtiapdldeknijaaaDoorBzSlot
namespace Go.Proofs.YtiapdldeknijaaaDoor.Bz
open Go.RowKit

theorem rTime_any (t : Int) (w : World) :
    Calls Tryd.prog 11 #[.int .i64 t] w fun e w' => e = .returned (.bool (ist t)) ∧ w' = w := by
  by_cases h : 1 ≤ t
  all_goals
    go_enter Tryd.func11, Tryd.ntmps11
    go_wp2
    go_ret
    exact ⟨ret_bool (by unfold ist; rw [Bool.eq_iff_iff]; simp; omega), rfl⟩
set_option maxRecDepth 100000 in
set_option maxHeartbeats 1000000 in
theorem rBusy_any (l : List Bz) (v : Value) (w : World) (hv : Rb w v l) (hl : l.length ≤ 9223372036854775807) :
    Calls Tryd.prog 4 #[v] w fun e w' => e = .returned (.int .i64 (bzF l)) ∧ Below w.heap.size w w' := by
  have HV := Lib.hid hv
  obtain ⟨a, cap, ev, _⟩ := hv
  subst ev
  by_cases h2 : 200 < l.length
  · have N : Hid (bzF l = 4) := Lib.hid (by unfold bzF; rw [if_pos h2])
    generalize bzF l = F at N ⊢
    go_enter Tryd.func4, Tryd.ntmps4
    go_wp2
    go_ret
    exact ⟨ret_int N.out.symm, Below.refl _ _⟩
  have N : Hid (bzF l = reF l 0) := Lib.hid (by unfold bzF reF; rw [if_neg h2]; rfl)
  generalize bzF l = F at N ⊢
  go_enter Tryd.func4, Tryd.ntmps4
  go_wp2
  go_loopw [3, 4, 5] (fun i _ _ wr => ∃ k : Nat, k ≤ l.length ∧ i = .int .i64 k ∧ Hid (F = reF l k) ∧ Below w.heap.size w wr) (fun i _ _ _ => l.length - (intOf i).toNat)
  case atStart => exact ⟨0, Nat.zero_le _, rfl, N, Below.refl _ _⟩
  case round =>
    obtain ⟨k, hk, rfl, HF, hB⟩ := hrel
    have HB := Lib.hid hB
    by_cases hlt : k < l.length
    · obtain ⟨b, off, ea, _, c1, c2⟩ := rb_at (HV.out.on hB) hlt
      subst ea
      have ST := Lib.hid (reF_step hlt)
      generalize l.getD k (0, 0) = X at c1 c2 ST
      have EX : Hid (onF X = if ist X.1 = false ∨ ist X.2 = false then 1 else if X.2 < X.1 then 3 else 0) := Lib.hid rfl
      generalize onF X = G at ST EX
      have bl := cell_in c1
      clear hB
      rcases h1 : ist X.1 with _ | _
      · have N2 : Hid (F = 1) := Lib.hid (by rw [HF.out, ST.out, EX.out]; simp [h1])
        go_wp2_with (go_at_call 11; refine (rTime_any _ _).mono ?_; rintro e w' ⟨rfl, hw⟩; replace hw := hw.symm; subst hw)
        go_ret
        exact ⟨ret_int N2.out.symm, HB.out⟩
      rcases h3 : ist X.2 with _ | _
      · have N2 : Hid (F = 1) := Lib.hid (by rw [HF.out, ST.out, EX.out]; simp [h3])
        go_wp2_with (go_at_call 11; refine (rTime_any _ _).mono ?_; rintro e w' ⟨rfl, hw⟩; replace hw := hw.symm; subst hw)
        go_ret
        exact ⟨ret_int N2.out.symm, HB.out⟩
      by_cases h4 : X.2 < X.1
      · have N2 : Hid (F = 3) := Lib.hid (by rw [HF.out, ST.out, EX.out]; simp [h1, h3, h4])
        have h5 : decide (X.2 < X.1) = true := decide_eq_true h4
        go_wp2_with (go_at_call 11; refine (rTime_any _ _).mono ?_; rintro e w' ⟨rfl, hw⟩; replace hw := hw.symm; subst hw)
        go_quiet (fail)
        have B9 := Lib.hid (HB.out.trans ((below_dr wr nq).mono HB.out.size))
        go_wp2
        go_ret
        exact ⟨ret_int N2.out.symm, B9.out⟩
      · have N2 : Hid (F = reF l (k + 1)) := Lib.hid (by rw [HF.out, ST.out, EX.out]; simp [h1, h3, h4])
        have h5 : decide (X.2 < X.1) = false := decide_eq_false h4
        go_wp2_with (go_at_call 11; refine (rTime_any _ _).mono ?_; rintro e w' ⟨rfl, hw⟩; replace hw := hw.symm; subst hw)
        go_quiet (fail)
        have B9 := Lib.hid (HB.out.trans ((below_dr wr nq).mono HB.out.size))
        go_wp2
        go_roundw
        case rel => exact ⟨k + 1, by omega, by go_num, N2, B9.out⟩
        case measure => simp [intOf]; omega
    · have N2 : Hid (F = 0) := Lib.hid (by rw [HF.out, show k = l.length by omega, reF_end])
      go_wp2
      go_ret
      exact ⟨ret_int N2.out.symm, HB.out⟩
set_option maxRecDepth 100000 in
theorem rSlot_any (n : Int) (l : List Bz) (v : Value) (w : World) (hv : Rb w v l) (hl : l.length ≤ 1000000) (hs : ∀ x ∈ l, Sm x) :
    Calls Tryd.prog 14 #[v, .int .i64 n] w fun e w' => e = .returned (.tuple #[.int .i64 (slT n l), .int .i64 (slE n l)]) ∧ Below w.heap.size w w' := by
  have HV := Lib.hid hv
  have HS := Lib.hid hs
  obtain ⟨a, cap, ev, _⟩ := hv
  subst ev
  clear hs
  by_cases h1 : n < 1 ∨ 1000000 < n
  · have EE : Hid (slE n l = 1 ∧ slT n l = 0) := Lib.hid ⟨if_pos h1, if_pos h1⟩
    generalize slE n l = E1 at EE ⊢
    generalize slT n l = T1 at EE ⊢
    by_cases h2 : n < 1
    all_goals
      try (have h3 : 1000000 < n := by omega)
      clear h1
      go_enter Tryd.func14, Tryd.ntmps14
      go_wp2
      go_ret2
      exact ⟨ret_two EE.out.2.symm EE.out.1.symm, Below.refl _ _⟩
  have h2 : ¬ n < 1 := by omega
  have h3 : ¬ 1000000 < n := by omega
  have EE : Hid (slE n l = (if l.any (loB n) = true then 0 else 5) ∧ slT n l = slI n l) := Lib.hid ⟨if_neg h1, if_neg h1⟩
  generalize slE n l = E1 at EE ⊢
  generalize slT n l = T1 at EE ⊢
  clear h1
  go_enter Tryd.func14, Tryd.ntmps14
  go_wp2
  go_loopw [6] (fun i wr => ∃ k : Nat, k ≤ l.length ∧ i = .int .i64 k ∧ Hid ((l.take k).any (loB n) = false) ∧ Below w.heap.size w wr) (fun i _ => l.length - (intOf i).toNat)
  case atStart => exact ⟨0, Nat.zero_le _, rfl, Lib.hid rfl, Below.refl _ _⟩
  case round =>
    obtain ⟨k, hk, rfl, HF, hB⟩ := hrel
    have HB := Lib.hid hB
    by_cases hlt : k < l.length
    · obtain ⟨b, off, ea, _, c1, c2⟩ := rb_at (HV.out.on hB) hlt
      subst ea
      have XM : l.getD k (0, 0) ∈ l := by rw [List.getD_eq_getElem?_getD, List.getElem?_eq_getElem hlt]; exact List.getElem_mem _
      obtain ⟨⟨s1, s2⟩, s3, s4⟩ := HS.out _ XM
      have bl := cell_in c1
      rcases hp : loB n (l.getD k (0, 0)) with _ | _
      · have N1 := Lib.hid (any_tk (loB n) l k hlt HF.out hp)
        unfold loB at hp
        clear XM hB
        generalize l.getD k (0, 0) = X at c1 c2 s1 s2 s3 s4 hp
        have w1 : IntKind.i64.wrap (X.2 - X.1) = X.2 - X.1 := by rw [IntKind.wrap_i64]; omega
        go_wp2_with fail
        go_quiet (fail)
        have B9 := Lib.hid (HB.out.trans ((below_dr wr nq).mono HB.out.size))
        go_wp2
        go_roundw
        case rel => exact ⟨k + 1, by omega, by go_num, N1, B9.out⟩
        case measure => simp [intOf]; omega
      · have N : Hid (E1 = 0 ∧ T1 = (l.getD k (0, 0)).1) := Lib.hid ⟨by rw [EE.out.1, if_pos (List.any_eq_true.2 ⟨_, XM, hp⟩)], by rw [EE.out.2, slI_at hlt HF.out hp]⟩
        unfold loB at hp
        clear XM hB
        generalize l.getD k (0, 0) = X at c1 c2 s1 s2 s3 s4 hp N
        have w1 : IntKind.i64.wrap (X.2 - X.1) = X.2 - X.1 := by rw [IntKind.wrap_i64]; omega
        go_wp2_with fail
        go_quiet (fail)
        have b9 := below_dr wr nq
        have B9 := Lib.hid (HB.out.trans (b9.mono HB.out.size))
        have d1 := (b9.cell (p := ⟨b, off + k * 2, none⟩) bl).trans c1
        generalize wr.drewN nq = W9 at B9 d1 ⊢
        have dl := cell_in d1
        clear c1 c2 bl b9
        go_wp2
        go_ret2
        exact ⟨ret_two N.out.2.symm N.out.1.symm, B9.out⟩
    · have N : Hid (E1 = 5 ∧ T1 = 0) := Lib.hid (by
        have ha := HF.out
        rw [List.take_of_length_le (by omega)] at ha
        exact ⟨by rw [EE.out.1, ha]; rfl, by rw [EE.out.2, slI_none ha]⟩)
      go_wp2
      go_ret2
      exact ⟨ret_two N.out.2.symm N.out.1.symm, HB.out⟩
set_option maxRecDepth 100000 in
theorem rSame_any (l : List Bz) (va vb : Value) (w : World) (ha : Rb w va l) (hb : Rb w vb l) (hl : l.length ≤ 2000000) :
    Calls Tryd.prog 8 #[va, vb] w fun e w' => e = .returned (.bool true) ∧ Below w.heap.size w w' := by
  have HA := Lib.hid ha
  have HBb := Lib.hid hb
  obtain ⟨aa, ca, ea, _⟩ := ha
  obtain ⟨ab, cb, eb, _⟩ := hb
  subst ea eb
  go_enter Tryd.func8, Tryd.ntmps8
  go_wp2
  go_loopw [5] (fun i wr => ∃ k : Nat, k ≤ l.length ∧ i = .int .i64 k ∧ Below w.heap.size w wr) (fun i _ => l.length - (intOf i).toNat)
  case atStart => exact ⟨0, Nat.zero_le _, rfl, Below.refl _ _⟩
  case round =>
    obtain ⟨k, hk, rfl, hB⟩ := hrel
    by_cases hlt : k < l.length
    · obtain ⟨b, off, e1, _, p0, p1⟩ := rb_at (HA.out.on hB) hlt
      obtain ⟨b2, off2, e2, _, q0, q1⟩ := rb_at (HBb.out.on hB) hlt
      subst e1 e2
      generalize l.getD k (0, 0) = Y at p0 p1 q0 q1
      obtain ⟨x, y⟩ := Y
      dsimp only at p0 p1 q0 q1
      go_wp2_with fail
      go_quiet (fail)
      have B9 := Lib.hid (hB.trans ((below_dr wr nq).mono hB.size))
      go_wp2
      go_roundw
      case rel => exact ⟨k + 1, by omega, by go_num, B9.out⟩
      case measure => simp [intOf]; omega
    · go_wp2
      go_ret
      exact ⟨rfl, hB⟩
end Go.Proofs.YtiapdldeknijaaaDoor.Bz
