/-
  What is proved here: what clock.Time and Print answer, for every input (contracts over the translation); the tables are asked as premises.
  What is proved here: what clock.Print answers of a time (a contract over the translation); the tables are asked as premises.
-/
import Derived.Test.YtpplfcfhjpfckaaGreatDoorMem
namespace Go.Proofs.YtpplfcfhjpfckaaGreatDoor
open Go.RowKit Cal Txt

set_option maxHeartbeats 1000000 in
theorem time_yes (y m d i : Int) (w : World) (hT : Tab w) (h : okD y m d) (h0 : 0 ≤ i) (h1 : i ≤ 1439) (hp : 1 ≤ (num y m d - 1) * 1440 + i) :
    Calls Tryz.prog 96 #[.agg #[.int .i64 y, .int .i64 m, .int .i64 d], .int .i64 i] w fun e w' => e = .returned (.tuple #[.int .i64 ((num y m d - 1) * 1440 + i), .nilIface]) ∧ Below w.heap.size w w' := by
  have nb := num_bd h
  have hi := ist_yes hp (by omega)
  have H : Hid (okD y m d) := h
  clear h
  go_enter Tryz.func96, Tryz.ntmps96
  go_wp2_with fail
  refine (of_yes y m d _ (hT.alloc _) H.out).mono ?_
  rintro e w1 ⟨rfl, hb⟩
  go_wp2_with (go_at_call 25; refine (isTime_any _ _).mono ?_; rintro e w' ⟨rfl, rfl⟩)
  go_ret2
  exact ⟨rfl, ((Below.refl _ _).alloc (Nat.le_refl _) _).trans (hb.mono (by simp))⟩
set_option maxHeartbeats 1000000 in
theorem time_no (y m d i : Int) (w : World) (hT : Tab w) (h : ¬ (okD y m d ∧ 0 ≤ i ∧ i ≤ 1439 ∧ 1 ≤ (num y m d - 1) * 1440 + i)) :
    Calls Tryz.prog 96 #[.agg #[.int .i64 y, .int .i64 m, .int .i64 d], .int .i64 i] w fun e w' => e = .returned (.tuple #[.int .i64 0, errRange]) ∧ Below w.heap.size w w' := by
  by_cases ho : okD y m d
  · have nb := num_bd ho
    have H : Hid (okD y m d) := ho
    have hc : i < 0 ∨ (0 ≤ i ∧ 1440 ≤ i) ∨ (0 ≤ i ∧ i < 1440 ∧ (num y m d - 1) * 1440 + i < 1) := by
      by_cases a : i < 0
      · exact Or.inl a
      by_cases b : 1440 ≤ i
      · exact Or.inr (Or.inl ⟨by omega, b⟩)
      · refine Or.inr (Or.inr ⟨by omega, by omega, ?_⟩)
        rcases Int.lt_or_le ((num y m d - 1) * 1440 + i) 1 with q | q
        · exact q
        · exact absurd ⟨ho, by omega, by omega, q⟩ h
    clear h ho
    rcases hc with c | ⟨c, c'⟩ | ⟨c, c', c''⟩
    · go_enter Tryz.func96, Tryz.ntmps96
      go_wp2_with fail
      refine (of_yes y m d _ (hT.alloc _) H.out).mono ?_
      rintro e w1 ⟨rfl, hb⟩
      go_wp2
      go_ret2
      exact ⟨rfl, ((Below.refl _ _).alloc (Nat.le_refl _) _).trans (hb.mono (by simp))⟩
    · go_enter Tryz.func96, Tryz.ntmps96
      go_wp2_with fail
      refine (of_yes y m d _ (hT.alloc _) H.out).mono ?_
      rintro e w1 ⟨rfl, hb⟩
      go_wp2
      go_ret2
      exact ⟨rfl, ((Below.refl _ _).alloc (Nat.le_refl _) _).trans (hb.mono (by simp))⟩
    · have hi := ist_no (t := (num y m d - 1) * 1440 + i) (by omega)
      go_enter Tryz.func96, Tryz.ntmps96
      go_wp2_with fail
      refine (of_yes y m d _ (hT.alloc _) H.out).mono ?_
      rintro e w1 ⟨rfl, hb⟩
      go_wp2_with (go_at_call 25; refine (isTime_any _ _).mono ?_; rintro e w' ⟨rfl, rfl⟩)
      go_ret2
      exact ⟨rfl, ((Below.refl _ _).alloc (Nat.le_refl _) _).trans (hb.mono (by simp))⟩
  · have H : Hid (¬ okD y m d) := ho
    clear h ho
    go_enter Tryz.func96, Tryz.ntmps96
    go_wp2_with fail
    refine (of_no y m d _ (hT.alloc _) H.out).mono ?_
    rintro e w1 ⟨rfl, hb⟩
    go_wp2
    go_ret2
    exact ⟨rfl, ((Below.refl _ _).alloc (Nat.le_refl _) _).trans (hb.mono (by simp))⟩
theorem print_no (t : Int) (w : World) (h : ¬ (1 ≤ t ∧ t ≤ 157785119)) :
    Calls Tryz.prog 84 #[.int .i64 t] w fun e w' => e = .returned (.tuple #[.string ⟨#[]⟩, errRange]) ∧ Below w.heap.size w w' := by
  have H : Hid (¬ (1 ≤ t ∧ t ≤ 157785119)) := h
  clear h
  go_enter Tryz.func84, Tryz.ntmps84
  go_wp2_with fail
  refine (split_no t _ H.out).mono ?_
  rintro e w1 ⟨rfl, hb⟩
  subst hb
  go_wp2
  go_ret2
  exact ⟨rfl, Below.refl _ _⟩
theorem print_eq (a b c d e : List UInt8) : (⟨a.toArray⟩ : ByteArray) ++ ⟨#[45]⟩ ++ ⟨b.toArray⟩ ++ ⟨#[45]⟩ ++ ⟨c.toArray⟩ ++ ⟨#[32]⟩ ++ ⟨d.toArray⟩ ++ ⟨#[58]⟩ ++ ⟨e.toArray⟩ = ⟨(a ++ [45] ++ b ++ [45] ++ c ++ [32] ++ d ++ [58] ++ e).toArray⟩ := by
  apply ByteArray.ext; simp
end Go.Proofs.YtpplfcfhjpfckaaGreatDoor
namespace Go.Proofs.YtpplfcfhjpfckaaGreatDoor
open Go.RowKit Cal Txt
theorem ret_strNil {a : ByteArray} {b : List UInt8} (h : a = ⟨b.toArray⟩) : Ending.returned (.tuple #[.string a, .nilIface]) = .returned (.tuple #[.string ⟨b.toArray⟩, .nilIface]) := by rw [h]
set_option maxRecDepth 100000 in
set_option maxHeartbeats 2000000 in
theorem print_yes (t : Int) (w : World) (hT : Tab w) (hP : Pow w) (h1 : 1 ≤ t) (h2 : t ≤ 157785119) :
    Calls Tryz.prog 84 #[.int .i64 t] w fun e w' => e = .returned (.tuple #[.string ⟨(txt t).toArray⟩, .nilIface]) ∧ Below w.heap.size w w' := by
  have a1 : 1 ≤ t / 1440 + 1 := by omega
  have a2 : t / 1440 + 1 ≤ 109573 := by omega
  obtain ⟨o1, o2, o3, o4, o5, o6⟩ := date_ok a1 a2
  have m31 := ml_31 (yr (t / 1440 + 1)) (mo (t / 1440 + 1))
  have FIN : Hid (Lib.decDigits (yr (t / 1440 + 1)).toNat ++ [45] ++ d2 (mo (t / 1440 + 1)).toNat ++ [45] ++ d2 (da (t / 1440 + 1)).toNat ++ [32] ++ d2 (t % 1440 / 60).toNat ++ [58] ++ d2 (t % 60).toNat = txt t) := by
    show _ = tmt _ _ _ _ _
    unfold tmt
    rw [d2_year (n := (yr (t / 1440 + 1)).toNat) (by omega) (by omega)]
  have e1 : (d2 (mo (t / 1440 + 1)).toNat).length = 2 := rfl
  have e2 : (d2 (da (t / 1440 + 1)).toNat).length = 2 := rfl
  have e3 : (d2 (t % 1440 / 60).toNat).length = 2 := rfl
  have e4 : (d2 (t % 60).toNat).length = 2 := rfl
  have e0 : (Lib.decDigits (yr (t / 1440 + 1)).toNat).length ≤ 4 := dec_len _ 3 (by omega)
  go_enter Tryz.func84, Tryz.ntmps84
  go_wp2_with fail
  refine (split_yes t _ h1 h2).mono ?_
  rintro e w1 ⟨rfl, hw⟩
  subst hw
  go_wp2_with fail
  refine (date_yes (t / 1440 + 1) _ hT a1 a2).mono ?_
  rintro e w2 ⟨rfl, hb⟩
  have hP2 := (hP.below hb).alloc (.cells #[.int .i64 (yr (t / 1440 + 1)), .int .i64 (mo (t / 1440 + 1)), .int .i64 (da (t / 1440 + 1))] 133)
  have D2 := Dat.new w2 (yr (t / 1440 + 1)) (mo (t / 1440 + 1)) (da (t / 1440 + 1)) 133
  have hb2 := hb.alloc hb.size (.cells #[.int .i64 (yr (t / 1440 + 1)), .int .i64 (mo (t / 1440 + 1)), .int .i64 (da (t / 1440 + 1))] 133)
  clear hb
  go_wp2_with fail
  generalize w2.alloc (.cells #[.int .i64 (yr (t / 1440 + 1)), .int .i64 (mo (t / 1440 + 1)), .int .i64 (da (t / 1440 + 1))] 133) = W at hP2 D2 hb2 ⊢
  obtain ⟨D_0, D_1, D_2⟩ := id D2
  have k0 := cell_regrown D_0
  have k1 := cell_regrown D_1
  have k2 := cell_regrown D_2
  have n1 : ¬ 9223372036854775807 < (Lib.decDigits (yr (t / 1440 + 1)).toNat).length + 1 := by omega
  have n2 : ¬ 9223372036854775807 < (Lib.decDigits (yr (t / 1440 + 1)).toNat).length + 1 + 2 := by omega
  have n3 : ¬ 9223372036854775807 < (Lib.decDigits (yr (t / 1440 + 1)).toNat).length + 1 + 2 + 1 := by omega
  have n4 : ¬ 9223372036854775807 < (Lib.decDigits (yr (t / 1440 + 1)).toNat).length + 1 + 2 + 1 + 2 := by omega
  refine wp_region_quiet_below (by kernel_rfl) (by kernel_rfl) ?_
  repeat (quiet_step (first | (go_at_call 88; exact Calls.regrown_of (itoa_any _ _ (hP2.below (below_regrown W _ _)) (by omega) (by omega))) | (go_at_call 113; exact Calls.regrown_of (below_same (two_int _ _ (by omega) (by omega))))))
  refine wpQuiet_nil ?_
  intro _ hw'
  obtain ⟨⟨dq, osq⟩, hw''⟩ := hw'
  subst hw''
  have hb3 := hb2.trans ((below_regrown W dq osq).mono hb2.size)
  clear k0 k1 k2 D_0 D_1 D_2 D2 hP2 hb2
  generalize Sort.grow (redrawn W dq) osq = W3 at hb3 ⊢
  go_wp2_with fail
  refine (two_int _ _ (by omega) (by omega)).mono ?_
  rintro e w' ⟨rfl, hw⟩
  subst hw
  go_wp2_with fail
  refine (two_int _ _ (by omega) (by omega)).mono ?_
  rintro e w' ⟨rfl, hw⟩
  subst hw
  go_wp2_with fail
  go_ret2
  exact ⟨ret_strNil ((print_eq _ _ _ _ _).trans (by rw [FIN.out])), hb3⟩
end Go.Proofs.YtpplfcfhjpfckaaGreatDoor
