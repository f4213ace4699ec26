/-
  What is proved here: what the document's Read answers, for every text, and that clock.Parse answers the same (contracts over the translation).
-/
import Derived.Test.YtdiijpjfkgnjkaaDoorRefRead2
import Derived.Test.YtdiijpjfkgnjkaaDoorRefShow
namespace Go.Proofs.YtdiijpjfkgnjkaaDoor
open Go.RowKit Cal Txt

theorem readDate_ten_no (s : ByteArray) (w : World) (hz : s.size = 16) (h : ¬ dfm s.data.toList) :
    Calls Tryd.prog 43 #[.string (s.extract 0 10)] w fun e w' => (∃ v : Int, e = .returned (.tuple #[.int .i64 v, .bool false])) ∧ Below w.heap.size w w' :=
  readDate_no _ w (ten_size s hz) (by rw [ten_list, ten_dfm]; exact h)
theorem readDate_ten_yes (s : ByteArray) (v : Int) (w : World) (hz : s.size = 16) (h : dfm s.data.toList)
    (hO : ∀ w : World, Calls Tryd.prog 11 #[.agg #[.int .i64 (nm s.data.toList 0 4 : Nat), .int .i64 (nm s.data.toList 5 7 : Nat), .int .i64 (nm s.data.toList 8 10 : Nat)]] w fun e w' => e = .returned (.int .i64 v) ∧ Below w.heap.size w w') :
    Calls Tryd.prog 43 #[.string (s.extract 0 10)] w fun e w' => e = .returned (.tuple #[.int .i64 v, .bool true]) ∧ Below w.heap.size w w' :=
  readDate_yes _ v w (ten_size s hz) (by rw [ten_list, ten_dfm]; exact h) (by rw [ten_list, ten_nm _ 0 4 (by omega), ten_nm _ 5 7 (by omega), ten_nm _ 8 10 (by omega)]; exact hO)
set_option maxRecDepth 100000 in
set_option maxHeartbeats 2000000 in
theorem read_bad (s : ByteArray) (w : World) (h : frm s.data.toList = false) :
    Calls Tryd.prog 25 #[.string s] w fun e w' => e = .returned (.tuple #[.int .i64 0, .int .i64 2]) ∧ Below w.heap.size w w' := by
  by_cases hz : s.size = 16
  case neg =>
    have hz2 : ((s.size : Int) != 16) = true := by rw [bne_iff_ne]; omega
    clear hz h
    go_enter Tryd.func25, Tryd.ntmps25
    go_wp2
    go_ret2
    exact ⟨rfl, Below.refl _ _⟩
  have hz2 : ((s.size : Int) != 16) = false := by rw [bne_eq_false_iff_eq]; omega
  have h10 : 10 < s.size := by omega
  have h13 : 13 < s.size := by omega
  by_cases q10 : s[10] = 32
  case neg =>
    have p10 : ((s[10].toNat : Int) != 32) = true := by rw [bne_iff_ne]; intro q; exact q10 ((byte_eq (c := 32) rfl).2 q)
    clear h q10
    go_enter Tryd.func25, Tryd.ntmps25
    go_wp2
    go_ret2
    exact ⟨rfl, Below.refl _ _⟩
  have p10 : ((s[10].toNat : Int) != 32) = false := by rw [bne_eq_false_iff_eq, q10]; rfl
  by_cases q13 : s[13] = 58
  case neg =>
    have p13 : ((s[13].toNat : Int) != 58) = true := by rw [bne_iff_ne]; intro q; exact q13 ((byte_eq (c := 58) rfl).2 q)
    clear h q10 q13
    go_enter Tryd.func25, Tryd.ntmps25
    go_wp2
    go_ret2
    exact ⟨rfl, Below.refl _ _⟩
  have p13 : ((s[13].toNat : Int) != 58) = false := by rw [bne_eq_false_iff_eq, q13]; rfl
  by_cases hd : dfm s.data.toList
  case neg =>
    have HD := Lib.hid hd
    have HZ := Lib.hid hz
    clear h q10 q13 hd
    go_enter Tryd.func25, Tryd.ntmps25
    go_wp2_with fail
    refine (readDate_ten_no s _ HZ.out HD.out).mono ?_
    rintro e w1 ⟨⟨v, rfl⟩, hb⟩
    go_wp2_with fail
    refine (digits_int s 11 13 11 13 _ rfl rfl (by omega) (by omega) (by omega) (by omega)).mono ?_
    rintro e w' ⟨rfl, hw⟩
    subst hw
    go_wp2_with fail
    refine (digits_int s 14 16 14 16 _ rfl rfl (by omega) (by omega) (by omega) (by omega)).mono ?_
    rintro e w' ⟨rfl, hw⟩
    subst hw
    go_wp2_with fail
    go_ret2
    exact ⟨rfl, hb⟩
  have hc : dgs s.data.toList 11 13 = false ∨ (dgs s.data.toList 11 13 = true ∧ dgs s.data.toList 14 16 = false) := by
    rcases a : dgs s.data.toList 11 13 with _ | _
    · exact Or.inl rfl
    rcases b : dgs s.data.toList 14 16 with _ | _
    · exact Or.inr ⟨rfl, rfl⟩
    · have := (frm_split (l := s.data.toList) (by rw [size_len]; exact hz)).2 ⟨by rw [getD_at s 10 h10, q10], by rw [getD_at s 13 h13, q13], hd, a, b⟩
      rw [h] at this; cases this
  obtain ⟨v, _, _, _, _, hO⟩ := refOf_ex (nm s.data.toList 0 4 : Nat) (nm s.data.toList 5 7 : Nat) (nm s.data.toList 8 10 : Nat)
  have HO := Lib.hid hO
  have HD := Lib.hid hd
  have HZ := Lib.hid hz
  clear h q10 q13 hd hO
  rcases hc with a | ⟨a, b⟩
  all_goals
    go_enter Tryd.func25, Tryd.ntmps25
    go_wp2_with fail
    refine (readDate_ten_yes s v _ HZ.out HD.out HO.out).mono ?_
    rintro e w1 ⟨rfl, hb⟩
    go_wp2_with fail
    refine (digits_int s 11 13 11 13 _ rfl rfl (by omega) (by omega) (by omega) (by omega)).mono ?_
    rintro e w' ⟨rfl, hw⟩
    subst hw
    go_wp2_with fail
    refine (digits_int s 14 16 14 16 _ rfl rfl (by omega) (by omega) (by omega) (by omega)).mono ?_
    rintro e w' ⟨rfl, hw⟩
    subst hw
    go_wp2_with fail
    go_ret2
    exact ⟨rfl, hb⟩
theorem ret_two' {a b c d : Int} (h : a = c) (g : b = d) : Ending.returned (.tuple #[.int .i64 a, .int .i64 b]) = .returned (.tuple #[.int .i64 c, .int .i64 d]) := by rw [h, g]
set_option maxRecDepth 100000 in
set_option maxHeartbeats 4000000 in
theorem read_form (s : ByteArray) (w : World) (h : frm s.data.toList = true) :
    Calls Tryd.prog 25 #[.string s] w fun e w' => ((good s.data.toList ∧ e = .returned (.tuple #[.int .i64 (raw s.data.toList), .int .i64 0])) ∨ (¬ good s.data.toList ∧ e = .returned (.tuple #[.int .i64 0, .int .i64 1]))) ∧ Below w.heap.size w w' := by
  have hl := frm_len h
  have hz : s.size = 16 := by rw [← size_len]; exact hl
  have hz2 : ((s.size : Int) != 16) = false := by rw [bne_eq_false_iff_eq]; omega
  have h10 : 10 < s.size := by omega
  have h13 : 13 < s.size := by omega
  obtain ⟨q10, q13, hd, a, b⟩ := (frm_split hl).1 h
  rw [getD_at s 10 h10] at q10
  rw [getD_at s 13 h13] at q13
  have p10 : ((s[10].toNat : Int) != 32) = false := by rw [bne_eq_false_iff_eq, q10]; rfl
  have p13 : ((s[13].toNat : Int) != 58) = false := by rw [bne_eq_false_iff_eq, q13]; rfl
  obtain ⟨b1, b2, b3, b4, b5⟩ := nm_lt h
  have e4 : dv s.data.toList 11 13 = nm s.data.toList 11 13 := by unfold dv; rw [if_pos a]
  have e5 : dv s.data.toList 14 16 = nm s.data.toList 14 16 := by unfold dv; rw [if_pos b]
  obtain ⟨v, hv1, hv2, v0, v9, hO⟩ := refOf_ex (nm s.data.toList 0 4 : Nat) (nm s.data.toList 5 7 : Nat) (nm s.data.toList 8 10 : Nat)
  have HO := Lib.hid hO
  have HD := Lib.hid hd
  have HZ := Lib.hid hz
  have hgood : good s.data.toList ↔ (¬ v = 0 ∧ nm s.data.toList 11 13 ≤ 23 ∧ nm s.data.toList 14 16 ≤ 59 ∧ 1 ≤ (v - 1) * 1440 + nm s.data.toList 11 13 * 60 + nm s.data.toList 14 16) := by
    unfold good
    constructor
    · rintro ⟨o, x, y, z⟩
      have := (hv1 o).1
      have := (hv1 o).2
      refine ⟨by omega, x, y, ?_⟩
      unfold raw at z; rw [← (hv1 o).1] at z; exact z
    · rintro ⟨n0, x, y, z⟩
      have o : okD (nm s.data.toList 0 4 : Nat) (nm s.data.toList 5 7 : Nat) (nm s.data.toList 8 10 : Nat) := Classical.byContradiction fun q => n0 (hv2 q)
      refine ⟨o, x, y, ?_⟩
      unfold raw; rw [← (hv1 o).1]; exact z
  have hraw : good s.data.toList → (v - 1) * 1440 + nm s.data.toList 11 13 * 60 + nm s.data.toList 14 16 = raw s.data.toList := by
    intro g; unfold raw; rw [← (hv1 g.1).1]
  have HG := Lib.hid hgood
  have HR := Lib.hid hraw
  have hc : v = 0 ∨ (¬ v = 0 ∧ 23 < nm s.data.toList 11 13) ∨ (¬ v = 0 ∧ nm s.data.toList 11 13 ≤ 23 ∧ 59 < nm s.data.toList 14 16) ∨ (¬ v = 0 ∧ nm s.data.toList 11 13 ≤ 23 ∧ nm s.data.toList 14 16 ≤ 59 ∧ (v - 1) * 1440 + nm s.data.toList 11 13 * 60 + nm s.data.toList 14 16 < 1) ∨ (¬ v = 0 ∧ nm s.data.toList 11 13 ≤ 23 ∧ nm s.data.toList 14 16 ≤ 59 ∧ 1 ≤ (v - 1) * 1440 + nm s.data.toList 11 13 * 60 + nm s.data.toList 14 16) := by omega
  clear h q10 q13 hd hO hgood hraw hv1 hv2 hl
  generalize nm s.data.toList 11 13 = H at *
  generalize nm s.data.toList 14 16 = M at *
  have bh : (H : Int) ≤ 99 := by omega
  have bm : (M : Int) ≤ 99 := by omega
  rcases hc with c | ⟨c, c1⟩ | ⟨c, c1, c2⟩ | ⟨c, c1, c2, c3⟩ | ⟨c, c1, c2, c3⟩
  · have NG : Hid (¬ good s.data.toList) := fun g => by
      have := HG.out.1 g
      omega
    have g0 : (v == 0) = true := by rw [beq_iff_eq]; exact c
    clear c
    go_enter Tryd.func25, Tryd.ntmps25
    go_wp2_with fail
    refine (readDate_ten_yes s v _ HZ.out HD.out HO.out).mono ?_
    rintro e w1 ⟨rfl, hb⟩
    go_wp2_with fail
    refine (digits_int s 11 13 11 13 _ rfl rfl (by omega) (by omega) (by omega) (by omega)).mono ?_
    rintro e w' ⟨rfl, hw⟩
    subst hw
    go_wp2_with fail
    refine (digits_int s 14 16 14 16 _ rfl rfl (by omega) (by omega) (by omega) (by omega)).mono ?_
    rintro e w' ⟨rfl, hw⟩
    subst hw
    go_wp2_with fail
    refine (refTime_any _ _).mono ?_
    rintro e w' ⟨rfl, hw⟩
    subst hw
    go_wp2_with fail
    go_ret2
    exact ⟨Or.inr ⟨NG.out, rfl⟩, hb⟩
  · have NG : Hid (¬ good s.data.toList) := fun g => by
      have := HG.out.1 g
      omega
    have g0 : (v == 0) = false := by rw [beq_eq_false_iff_ne]; exact c
    have g1 : (23 : Int) < H := by omega
    clear c
    go_enter Tryd.func25, Tryd.ntmps25
    go_wp2_with fail
    refine (readDate_ten_yes s v _ HZ.out HD.out HO.out).mono ?_
    rintro e w1 ⟨rfl, hb⟩
    go_wp2_with fail
    refine (digits_int s 11 13 11 13 _ rfl rfl (by omega) (by omega) (by omega) (by omega)).mono ?_
    rintro e w' ⟨rfl, hw⟩
    subst hw
    go_wp2_with fail
    refine (digits_int s 14 16 14 16 _ rfl rfl (by omega) (by omega) (by omega) (by omega)).mono ?_
    rintro e w' ⟨rfl, hw⟩
    subst hw
    go_wp2_with fail
    refine (refTime_any _ _).mono ?_
    rintro e w' ⟨rfl, hw⟩
    subst hw
    go_wp2_with fail
    go_ret2
    exact ⟨Or.inr ⟨NG.out, rfl⟩, hb⟩
  · have NG : Hid (¬ good s.data.toList) := fun g => by
      have := HG.out.1 g
      omega
    have g0 : (v == 0) = false := by rw [beq_eq_false_iff_ne]; exact c
    have g1 : ¬ (23 : Int) < H := by omega
    have g2 : (59 : Int) < M := by omega
    clear c
    go_enter Tryd.func25, Tryd.ntmps25
    go_wp2_with fail
    refine (readDate_ten_yes s v _ HZ.out HD.out HO.out).mono ?_
    rintro e w1 ⟨rfl, hb⟩
    go_wp2_with fail
    refine (digits_int s 11 13 11 13 _ rfl rfl (by omega) (by omega) (by omega) (by omega)).mono ?_
    rintro e w' ⟨rfl, hw⟩
    subst hw
    go_wp2_with fail
    refine (digits_int s 14 16 14 16 _ rfl rfl (by omega) (by omega) (by omega) (by omega)).mono ?_
    rintro e w' ⟨rfl, hw⟩
    subst hw
    go_wp2_with fail
    refine (refTime_any _ _).mono ?_
    rintro e w' ⟨rfl, hw⟩
    subst hw
    go_wp2_with fail
    go_ret2
    exact ⟨Or.inr ⟨NG.out, rfl⟩, hb⟩
  · have NG : Hid (¬ good s.data.toList) := fun g => by
      have := HG.out.1 g
      omega
    have g0 : (v == 0) = false := by rw [beq_eq_false_iff_ne]; exact c
    have g1 : ¬ (23 : Int) < H := by omega
    have g2 : ¬ (59 : Int) < M := by omega
    have g3 := ist_no (t := (v - 1) * 1440 + H * 60 + M) (by omega)
    clear c
    go_enter Tryd.func25, Tryd.ntmps25
    go_wp2_with fail
    refine (readDate_ten_yes s v _ HZ.out HD.out HO.out).mono ?_
    rintro e w1 ⟨rfl, hb⟩
    go_wp2_with fail
    refine (digits_int s 11 13 11 13 _ rfl rfl (by omega) (by omega) (by omega) (by omega)).mono ?_
    rintro e w' ⟨rfl, hw⟩
    subst hw
    go_wp2_with fail
    refine (digits_int s 14 16 14 16 _ rfl rfl (by omega) (by omega) (by omega) (by omega)).mono ?_
    rintro e w' ⟨rfl, hw⟩
    subst hw
    go_wp2_with fail
    refine (refTime_any _ _).mono ?_
    rintro e w' ⟨rfl, hw⟩
    subst hw
    go_wp2_with fail
    go_ret2
    exact ⟨Or.inr ⟨NG.out, rfl⟩, hb⟩
  · have GOOD := Lib.hid (HG.out.2 ⟨c, c1, c2, c3⟩)
    have g0 : (v == 0) = false := by rw [beq_eq_false_iff_ne]; exact c
    have g1 : ¬ (23 : Int) < H := by omega
    have g2 : ¬ (59 : Int) < M := by omega
    have g3 := ist_yes (t := (v - 1) * 1440 + H * 60 + M) (by omega) (by omega)
    clear c
    go_enter Tryd.func25, Tryd.ntmps25
    go_wp2_with fail
    refine (readDate_ten_yes s v _ HZ.out HD.out HO.out).mono ?_
    rintro e w1 ⟨rfl, hb⟩
    go_wp2_with fail
    refine (digits_int s 11 13 11 13 _ rfl rfl (by omega) (by omega) (by omega) (by omega)).mono ?_
    rintro e w' ⟨rfl, hw⟩
    subst hw
    go_wp2_with fail
    refine (digits_int s 14 16 14 16 _ rfl rfl (by omega) (by omega) (by omega) (by omega)).mono ?_
    rintro e w' ⟨rfl, hw⟩
    subst hw
    go_wp2_with fail
    refine (refTime_any _ _).mono ?_
    rintro e w' ⟨rfl, hw⟩
    subst hw
    go_wp2_with fail
    go_ret2
    exact ⟨Or.inl ⟨GOOD.out, ret_two' (HR.out GOOD.out) rfl⟩, hb⟩
end Go.Proofs.YtdiijpjfkgnjkaaDoor
