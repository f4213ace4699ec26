/-
  What is proved here: what clock.part answers, for every text and unit (a contract over the translation).
-/
import Derived.Test.YtdiijpjfkgnjkaaDoorClkParse
import Derived.Test.YtdiijpjfkgnjkaaDoorTxtSpan
namespace Go.Proofs.YtdiijpjfkgnjkaaDoor
open Go.RowKit Cal Txt
set_option linter.unusedVariables false

theorem toList_at (s : ByteArray) (k : Nat) (h : k < s.size) : s.data.toList[k]'(by simpa using h) = s[k] := rfl
theorem lead_in (s : ByteArray) (j : Nat) (h : j < dcnt s.data.toList) : ∃ h' : j < s.size, dgI (s[j].toNat : Int) = true := by
  have hl := dcnt_le s.data.toList
  have h' : j < s.size := by rw [← size_len]; omega
  refine ⟨h', ?_⟩
  rw [dgI_eq]
  refine dcnt_take s.data.toList _ ?_
  have e : (s.data.toList.take (dcnt s.data.toList))[j]'(by rw [List.length_take, size_len]; omega) = s[j] := by rw [List.getElem_take]; rfl
  rw [← e]; exact List.getElem_mem _
theorem lead_out (s : ByteArray) (h : dcnt s.data.toList < s.size) : dgI (s[dcnt s.data.toList].toNat : Int) = false := by
  rw [dgI_eq]; exact dcnt_none s.data.toList h
theorem number_lead (s : ByteArray) (w : World) (h : dcnt s.data.toList ≤ 9) :
    Calls Tryd.prog 46 #[.string (s.extract 0 (dcnt s.data.toList))] w fun e w' => e = .returned (.int .i64 (lv s.data.toList)) ∧ w' = w := by
  have := number_at s 0 (dcnt s.data.toList) w (by omega) (by simpa using dcnt_take s.data.toList)
  simpa [nm, lv] using this
theorem head_eq (s : ByteArray) (h : 0 < s.size) : s.data.toList.head? = some s[0] := by
  rw [List.head?_eq_getElem?, List.getElem?_eq_getElem (by rw [size_len]; exact h)]; rfl
theorem at_eq (s : ByteArray) (k : Nat) (h : k < s.size) : s.data.toList[k]? = some s[k] := by
  rw [List.getElem?_eq_getElem (by rw [size_len]; exact h)]; rfl
/-- The post of clock.part. -/
def PartSays (s : ByteArray) (c : UInt8) (most : Nat) (w : World) (e : Ending) (w' : World) : Prop :=
  e = .returned (.tuple #[.int .i64 ((prt s.data.toList c most).1 : Nat), .int .i64 ((prt s.data.toList c most).2 : Nat)]) ∧ Below w.heap.size w w'
set_option maxRecDepth 100000 in
set_option maxHeartbeats 2000000 in
theorem part_z0 (s : ByteArray) (c : UInt8) (ci mi : Int) (most : Nat) (w : World) (hs : s.size ≤ maxLen) (h : dcnt s.data.toList = 0) (hz : ¬ dcnt s.data.toList < s.size) :
    Calls Tryd.prog 56 #[.string s, .agg #[.int .u8 ci, .int .i64 mi, .int .i64 most]] w (PartSays s c most w) := by
  unfold maxLen at hs
  have hl : dcnt s.data.toList ≤ s.size := by have := dcnt_le s.data.toList; rwa [size_len] at this
  have LI := Lib.hid (lead_in s)
  have LO := Lib.hid (lead_out s)
  have RES : Hid ((0 : Int) = ((prt s.data.toList c most).1 : Nat) ∧ (0 : Int) = ((prt s.data.toList c most).2 : Nat)) := by rw [prt_bad (by unfold bad; exact decide_eq_true (Or.inl h)) c most]; exact ⟨rfl, rfl⟩
  have h1 : ((dcnt s.data.toList : Int) == 0) = true := by rw [beq_iff_eq]; omega
  clear h
  generalize hD : dcnt s.data.toList = D at *
  have HD := Lib.hid hD
  clear hD
  go_enter Tryd.func56, Tryd.ntmps56
  go_wp2
  go_loop [6] (fun t => ∃ j : Nat, j ≤ D ∧ t = .int .i64 j) (fun t => D - (intOf t).toNat)
  case atStart => exact ⟨0, Nat.zero_le _, rfl⟩
  case round =>
    obtain ⟨j, hj, rfl⟩ := hrel
    by_cases hlt : j < D
    · obtain ⟨hz, hd⟩ := LI.out j hlt
      go_wp2_with (go_at_call 54; refine (isDigit_any _ _).mono ?_; rintro e w' ⟨rfl, rfl⟩)
      go_round
      case rel => exact ⟨j + 1, by omega, by go_num⟩
      case measure => simp [intOf]; omega
    · have hj' : j = D := by omega
      subst hj'
      clear hlt hj
      go_wp2_with (go_at_call 54; refine (isDigit_any _ _).mono ?_; rintro e w' ⟨rfl, rfl⟩)
      go_ret2
      exact ⟨ret_two RES.out.1 RES.out.2, (Below.refl _ _).alloc (Nat.le_refl _) _⟩
set_option maxRecDepth 100000 in
set_option maxHeartbeats 2000000 in
theorem part_z1 (s : ByteArray) (c : UInt8) (ci mi : Int) (most : Nat) (w : World) (hs : s.size ≤ maxLen) (h : dcnt s.data.toList = 0) (hz : dcnt s.data.toList < s.size) :
    Calls Tryd.prog 56 #[.string s, .agg #[.int .u8 ci, .int .i64 mi, .int .i64 most]] w (PartSays s c most w) := by
  unfold maxLen at hs
  have hl : dcnt s.data.toList ≤ s.size := by have := dcnt_le s.data.toList; rwa [size_len] at this
  have LI := Lib.hid (lead_in s)
  have LO := Lib.hid (lead_out s)
  have RES : Hid ((0 : Int) = ((prt s.data.toList c most).1 : Nat) ∧ (0 : Int) = ((prt s.data.toList c most).2 : Nat)) := by rw [prt_bad (by unfold bad; exact decide_eq_true (Or.inl h)) c most]; exact ⟨rfl, rfl⟩
  have h1 : ((dcnt s.data.toList : Int) == 0) = true := by rw [beq_iff_eq]; omega
  clear h
  generalize hD : dcnt s.data.toList = D at *
  have HD := Lib.hid hD
  clear hD
  go_enter Tryd.func56, Tryd.ntmps56
  go_wp2
  go_loop [6] (fun t => ∃ j : Nat, j ≤ D ∧ t = .int .i64 j) (fun t => D - (intOf t).toNat)
  case atStart => exact ⟨0, Nat.zero_le _, rfl⟩
  case round =>
    obtain ⟨j, hj, rfl⟩ := hrel
    by_cases hlt : j < D
    · obtain ⟨hz, hd⟩ := LI.out j hlt
      go_wp2_with (go_at_call 54; refine (isDigit_any _ _).mono ?_; rintro e w' ⟨rfl, rfl⟩)
      go_round
      case rel => exact ⟨j + 1, by omega, by go_num⟩
      case measure => simp [intOf]; omega
    · have hj' : j = D := by omega
      subst hj'
      clear hlt hj
      have hd := LO.out hz
      go_wp2_with (go_at_call 54; refine (isDigit_any _ _).mono ?_; rintro e w' ⟨rfl, rfl⟩)
      go_ret2
      exact ⟨ret_two RES.out.1 RES.out.2, (Below.refl _ _).alloc (Nat.le_refl _) _⟩
set_option maxRecDepth 100000 in
set_option maxHeartbeats 2000000 in
theorem part_m0 (s : ByteArray) (c : UInt8) (ci mi : Int) (most : Nat) (w : World) (hs : s.size ≤ maxLen) (h : 9 < dcnt s.data.toList) (hz : ¬ dcnt s.data.toList < s.size) :
    Calls Tryd.prog 56 #[.string s, .agg #[.int .u8 ci, .int .i64 mi, .int .i64 most]] w (PartSays s c most w) := by
  unfold maxLen at hs
  have hl : dcnt s.data.toList ≤ s.size := by have := dcnt_le s.data.toList; rwa [size_len] at this
  have LI := Lib.hid (lead_in s)
  have LO := Lib.hid (lead_out s)
  have RES : Hid ((0 : Int) = ((prt s.data.toList c most).1 : Nat) ∧ (0 : Int) = ((prt s.data.toList c most).2 : Nat)) := by rw [prt_bad (by unfold bad; exact decide_eq_true (Or.inr (Or.inl h))) c most]; exact ⟨rfl, rfl⟩
  have h1 : ((dcnt s.data.toList : Int) == 0) = false := by rw [beq_eq_false_iff_ne]; omega
  have h2 : (9 : Int) < dcnt s.data.toList := by omega
  clear h
  generalize hD : dcnt s.data.toList = D at *
  have HD := Lib.hid hD
  clear hD
  go_enter Tryd.func56, Tryd.ntmps56
  go_wp2
  go_loop [6] (fun t => ∃ j : Nat, j ≤ D ∧ t = .int .i64 j) (fun t => D - (intOf t).toNat)
  case atStart => exact ⟨0, Nat.zero_le _, rfl⟩
  case round =>
    obtain ⟨j, hj, rfl⟩ := hrel
    by_cases hlt : j < D
    · obtain ⟨hz, hd⟩ := LI.out j hlt
      go_wp2_with (go_at_call 54; refine (isDigit_any _ _).mono ?_; rintro e w' ⟨rfl, rfl⟩)
      go_round
      case rel => exact ⟨j + 1, by omega, by go_num⟩
      case measure => simp [intOf]; omega
    · have hj' : j = D := by omega
      subst hj'
      clear hlt hj
      go_wp2_with (go_at_call 54; refine (isDigit_any _ _).mono ?_; rintro e w' ⟨rfl, rfl⟩)
      go_ret2
      exact ⟨ret_two RES.out.1 RES.out.2, (Below.refl _ _).alloc (Nat.le_refl _) _⟩
set_option maxRecDepth 100000 in
set_option maxHeartbeats 2000000 in
theorem part_m1 (s : ByteArray) (c : UInt8) (ci mi : Int) (most : Nat) (w : World) (hs : s.size ≤ maxLen) (h : 9 < dcnt s.data.toList) (hz : dcnt s.data.toList < s.size) :
    Calls Tryd.prog 56 #[.string s, .agg #[.int .u8 ci, .int .i64 mi, .int .i64 most]] w (PartSays s c most w) := by
  unfold maxLen at hs
  have hl : dcnt s.data.toList ≤ s.size := by have := dcnt_le s.data.toList; rwa [size_len] at this
  have LI := Lib.hid (lead_in s)
  have LO := Lib.hid (lead_out s)
  have RES : Hid ((0 : Int) = ((prt s.data.toList c most).1 : Nat) ∧ (0 : Int) = ((prt s.data.toList c most).2 : Nat)) := by rw [prt_bad (by unfold bad; exact decide_eq_true (Or.inr (Or.inl h))) c most]; exact ⟨rfl, rfl⟩
  have h1 : ((dcnt s.data.toList : Int) == 0) = false := by rw [beq_eq_false_iff_ne]; omega
  have h2 : (9 : Int) < dcnt s.data.toList := by omega
  clear h
  generalize hD : dcnt s.data.toList = D at *
  have HD := Lib.hid hD
  clear hD
  go_enter Tryd.func56, Tryd.ntmps56
  go_wp2
  go_loop [6] (fun t => ∃ j : Nat, j ≤ D ∧ t = .int .i64 j) (fun t => D - (intOf t).toNat)
  case atStart => exact ⟨0, Nat.zero_le _, rfl⟩
  case round =>
    obtain ⟨j, hj, rfl⟩ := hrel
    by_cases hlt : j < D
    · obtain ⟨hz, hd⟩ := LI.out j hlt
      go_wp2_with (go_at_call 54; refine (isDigit_any _ _).mono ?_; rintro e w' ⟨rfl, rfl⟩)
      go_round
      case rel => exact ⟨j + 1, by omega, by go_num⟩
      case measure => simp [intOf]; omega
    · have hj' : j = D := by omega
      subst hj'
      clear hlt hj
      have hd := LO.out hz
      go_wp2_with (go_at_call 54; refine (isDigit_any _ _).mono ?_; rintro e w' ⟨rfl, rfl⟩)
      go_ret2
      exact ⟨ret_two RES.out.1 RES.out.2, (Below.refl _ _).alloc (Nat.le_refl _) _⟩
set_option maxRecDepth 100000 in
set_option maxHeartbeats 2000000 in
theorem part_h0 (s : ByteArray) (c : UInt8) (ci mi : Int) (most : Nat) (w : World) (hs : s.size ≤ maxLen) (h : 1 ≤ dcnt s.data.toList) (h9 : dcnt s.data.toList ≤ 9) (hp : 0 < s.size) (h0 : s[0] = 48) (hz : ¬ dcnt s.data.toList < s.size) :
    Calls Tryd.prog 56 #[.string s, .agg #[.int .u8 ci, .int .i64 mi, .int .i64 most]] w (PartSays s c most w) := by
  unfold maxLen at hs
  have hl : dcnt s.data.toList ≤ s.size := by have := dcnt_le s.data.toList; rwa [size_len] at this
  have LI := Lib.hid (lead_in s)
  have LO := Lib.hid (lead_out s)
  have RES : Hid ((0 : Int) = ((prt s.data.toList c most).1 : Nat) ∧ (0 : Int) = ((prt s.data.toList c most).2 : Nat)) := by rw [prt_bad (by unfold bad; exact decide_eq_true (Or.inr (Or.inr (by rw [head_eq s hp, h0])))) c most]; exact ⟨rfl, rfl⟩
  have h1 : ((dcnt s.data.toList : Int) == 0) = false := by rw [beq_eq_false_iff_ne]; omega
  have h2 : ¬ (9 : Int) < dcnt s.data.toList := by omega
  have h3 : ((s[0].toNat : Int) == 48) = true := by rw [h0]; rfl
  clear h0
  generalize hD : dcnt s.data.toList = D at *
  have HD := Lib.hid hD
  clear hD
  go_enter Tryd.func56, Tryd.ntmps56
  go_wp2
  go_loop [6] (fun t => ∃ j : Nat, j ≤ D ∧ t = .int .i64 j) (fun t => D - (intOf t).toNat)
  case atStart => exact ⟨0, Nat.zero_le _, rfl⟩
  case round =>
    obtain ⟨j, hj, rfl⟩ := hrel
    by_cases hlt : j < D
    · obtain ⟨hz, hd⟩ := LI.out j hlt
      go_wp2_with (go_at_call 54; refine (isDigit_any _ _).mono ?_; rintro e w' ⟨rfl, rfl⟩)
      go_round
      case rel => exact ⟨j + 1, by omega, by go_num⟩
      case measure => simp [intOf]; omega
    · have hj' : j = D := by omega
      subst hj'
      clear hlt hj
      go_wp2_with (go_at_call 54; refine (isDigit_any _ _).mono ?_; rintro e w' ⟨rfl, rfl⟩)
      go_ret2
      exact ⟨ret_two RES.out.1 RES.out.2, (Below.refl _ _).alloc (Nat.le_refl _) _⟩
set_option maxRecDepth 100000 in
set_option maxHeartbeats 2000000 in
theorem part_h1 (s : ByteArray) (c : UInt8) (ci mi : Int) (most : Nat) (w : World) (hs : s.size ≤ maxLen) (h : 1 ≤ dcnt s.data.toList) (h9 : dcnt s.data.toList ≤ 9) (hp : 0 < s.size) (h0 : s[0] = 48) (hz : dcnt s.data.toList < s.size) :
    Calls Tryd.prog 56 #[.string s, .agg #[.int .u8 ci, .int .i64 mi, .int .i64 most]] w (PartSays s c most w) := by
  unfold maxLen at hs
  have hl : dcnt s.data.toList ≤ s.size := by have := dcnt_le s.data.toList; rwa [size_len] at this
  have LI := Lib.hid (lead_in s)
  have LO := Lib.hid (lead_out s)
  have RES : Hid ((0 : Int) = ((prt s.data.toList c most).1 : Nat) ∧ (0 : Int) = ((prt s.data.toList c most).2 : Nat)) := by rw [prt_bad (by unfold bad; exact decide_eq_true (Or.inr (Or.inr (by rw [head_eq s hp, h0])))) c most]; exact ⟨rfl, rfl⟩
  have h1 : ((dcnt s.data.toList : Int) == 0) = false := by rw [beq_eq_false_iff_ne]; omega
  have h2 : ¬ (9 : Int) < dcnt s.data.toList := by omega
  have h3 : ((s[0].toNat : Int) == 48) = true := by rw [h0]; rfl
  clear h0
  generalize hD : dcnt s.data.toList = D at *
  have HD := Lib.hid hD
  clear hD
  go_enter Tryd.func56, Tryd.ntmps56
  go_wp2
  go_loop [6] (fun t => ∃ j : Nat, j ≤ D ∧ t = .int .i64 j) (fun t => D - (intOf t).toNat)
  case atStart => exact ⟨0, Nat.zero_le _, rfl⟩
  case round =>
    obtain ⟨j, hj, rfl⟩ := hrel
    by_cases hlt : j < D
    · obtain ⟨hz, hd⟩ := LI.out j hlt
      go_wp2_with (go_at_call 54; refine (isDigit_any _ _).mono ?_; rintro e w' ⟨rfl, rfl⟩)
      go_round
      case rel => exact ⟨j + 1, by omega, by go_num⟩
      case measure => simp [intOf]; omega
    · have hj' : j = D := by omega
      subst hj'
      clear hlt hj
      have hd := LO.out hz
      go_wp2_with (go_at_call 54; refine (isDigit_any _ _).mono ?_; rintro e w' ⟨rfl, rfl⟩)
      go_ret2
      exact ⟨ret_two RES.out.1 RES.out.2, (Below.refl _ _).alloc (Nat.le_refl _) _⟩
set_option maxRecDepth 100000 in
set_option maxHeartbeats 2000000 in
theorem part_e (s : ByteArray) (c : UInt8) (ci mi : Int) (most : Nat) (w : World) (hs : s.size ≤ maxLen) (h : 1 ≤ dcnt s.data.toList) (h9 : dcnt s.data.toList ≤ 9) (hp : 0 < s.size) (h0 : ¬ s[0] = 48) (hz : ¬ dcnt s.data.toList < s.size) :
    Calls Tryd.prog 56 #[.string s, .agg #[.int .u8 ci, .int .i64 mi, .int .i64 most]] w (PartSays s c most w) := by
  unfold maxLen at hs
  have hl : dcnt s.data.toList ≤ s.size := by have := dcnt_le s.data.toList; rwa [size_len] at this
  have LI := Lib.hid (lead_in s)
  have LO := Lib.hid (lead_out s)
  have h1 : ((dcnt s.data.toList : Int) == 0) = false := by rw [beq_eq_false_iff_ne]; omega
  have h2 : ¬ (9 : Int) < dcnt s.data.toList := by omega
  have h3 : ((s[0].toNat : Int) == 48) = false := by
    rw [beq_eq_false_iff_ne]; intro q; exact h0 ((byte_eq (c := 48) rfl).2 q)
  have NL := Lib.hid (fun w => number_lead s w h9)
  have lb : lv s.data.toList ≤ 999999999 := val_le9 _ (dcnt_take _) (by rw [List.length_take]; omega)
  have RES : Hid ((0 : Int) = ((prt s.data.toList c most).1 : Nat) ∧ (0 : Int) = ((prt s.data.toList c most).2 : Nat)) := by rw [prt_miss (fun x => by have := (List.getElem?_eq_some_iff.1 x.1).1; rw [size_len] at this; omega)]; exact ⟨rfl, rfl⟩
  have h4 : ((dcnt s.data.toList : Int) == (s.size : Int)) = true := by rw [beq_iff_eq]; omega
  clear h0
  generalize hD : dcnt s.data.toList = D at *
  have HD := Lib.hid hD
  clear hD
  go_enter Tryd.func56, Tryd.ntmps56
  go_wp2
  go_loop [6] (fun t => ∃ j : Nat, j ≤ D ∧ t = .int .i64 j) (fun t => D - (intOf t).toNat)
  case atStart => exact ⟨0, Nat.zero_le _, rfl⟩
  case round =>
    obtain ⟨j, hj, rfl⟩ := hrel
    by_cases hlt : j < D
    · obtain ⟨hz, hd⟩ := LI.out j hlt
      go_wp2_with (go_at_call 54; refine (isDigit_any _ _).mono ?_; rintro e w' ⟨rfl, rfl⟩)
      go_round
      case rel => exact ⟨j + 1, by omega, by go_num⟩
      case measure => simp [intOf]; omega
    · have hj' : j = D := by omega
      subst hj'
      clear hlt hj
      go_wp2_with (first | (go_at_call 54; refine (isDigit_any _ _).mono ?_; rintro e w' ⟨rfl, rfl⟩) | (go_at_call 46; refine (NL.out _).mono ?_; rintro e w' ⟨rfl, rfl⟩))
      go_quiet (fail)
      go_wp2
      go_ret2
      exact ⟨ret_two RES.out.1 RES.out.2, below_drewN ((Below.refl _ _).alloc (Nat.le_refl _) _) _⟩
set_option maxRecDepth 100000 in
set_option maxHeartbeats 2000000 in
theorem part_l (s : ByteArray) (c : UInt8) (ci mi : Int) (most : Nat) (w : World) (hs : s.size ≤ maxLen) (hc : (c.toNat : Int) = ci) (h : 1 ≤ dcnt s.data.toList) (h9 : dcnt s.data.toList ≤ 9) (hp : 0 < s.size) (h0 : ¬ s[0] = 48) (hz : dcnt s.data.toList < s.size) (hx : ¬ s[dcnt s.data.toList] = c) :
    Calls Tryd.prog 56 #[.string s, .agg #[.int .u8 ci, .int .i64 mi, .int .i64 most]] w (PartSays s c most w) := by
  unfold maxLen at hs
  have hl : dcnt s.data.toList ≤ s.size := by have := dcnt_le s.data.toList; rwa [size_len] at this
  have LI := Lib.hid (lead_in s)
  have LO := Lib.hid (lead_out s)
  have h1 : ((dcnt s.data.toList : Int) == 0) = false := by rw [beq_eq_false_iff_ne]; omega
  have h2 : ¬ (9 : Int) < dcnt s.data.toList := by omega
  have h3 : ((s[0].toNat : Int) == 48) = false := by
    rw [beq_eq_false_iff_ne]; intro q; exact h0 ((byte_eq (c := 48) rfl).2 q)
  have NL := Lib.hid (fun w => number_lead s w h9)
  have lb : lv s.data.toList ≤ 999999999 := val_le9 _ (dcnt_take _) (by rw [List.length_take]; omega)
  have RES : Hid ((0 : Int) = ((prt s.data.toList c most).1 : Nat) ∧ (0 : Int) = ((prt s.data.toList c most).2 : Nat)) := by rw [prt_miss (fun x => hx (Option.some.inj ((at_eq s _ hz).symm.trans x.1)))]; exact ⟨rfl, rfl⟩
  have h4 : ((dcnt s.data.toList : Int) == (s.size : Int)) = false := by rw [beq_eq_false_iff_ne]; omega
  have h5 : ((s[dcnt s.data.toList].toNat : Int) != ci) = true := by rw [bne_iff_ne]; intro q; exact hx ((byte_eq hc).2 q)
  clear h0 hx
  generalize hD : dcnt s.data.toList = D at *
  have HD := Lib.hid hD
  clear hD
  go_enter Tryd.func56, Tryd.ntmps56
  go_wp2
  go_loop [6] (fun t => ∃ j : Nat, j ≤ D ∧ t = .int .i64 j) (fun t => D - (intOf t).toNat)
  case atStart => exact ⟨0, Nat.zero_le _, rfl⟩
  case round =>
    obtain ⟨j, hj, rfl⟩ := hrel
    by_cases hlt : j < D
    · obtain ⟨hz, hd⟩ := LI.out j hlt
      go_wp2_with (go_at_call 54; refine (isDigit_any _ _).mono ?_; rintro e w' ⟨rfl, rfl⟩)
      go_round
      case rel => exact ⟨j + 1, by omega, by go_num⟩
      case measure => simp [intOf]; omega
    · have hj' : j = D := by omega
      subst hj'
      clear hlt hj
      have hd := LO.out hz
      go_wp2_with (first | (go_at_call 54; refine (isDigit_any _ _).mono ?_; rintro e w' ⟨rfl, rfl⟩) | (go_at_call 46; refine (NL.out _).mono ?_; rintro e w' ⟨rfl, rfl⟩))
      go_quiet (fail)
      go_wp2
      go_ret2
      exact ⟨ret_two RES.out.1 RES.out.2, below_drewN ((Below.refl _ _).alloc (Nat.le_refl _) _) _⟩
set_option maxRecDepth 100000 in
set_option maxHeartbeats 2000000 in
theorem part_o (s : ByteArray) (c : UInt8) (ci mi : Int) (most : Nat) (w : World) (hs : s.size ≤ maxLen) (hc : (c.toNat : Int) = ci) (h : 1 ≤ dcnt s.data.toList) (h9 : dcnt s.data.toList ≤ 9) (hp : 0 < s.size) (h0 : ¬ s[0] = 48) (hz : dcnt s.data.toList < s.size) (hx : s[dcnt s.data.toList] = c) (ho : most < lv s.data.toList) :
    Calls Tryd.prog 56 #[.string s, .agg #[.int .u8 ci, .int .i64 mi, .int .i64 most]] w (PartSays s c most w) := by
  unfold maxLen at hs
  have hl : dcnt s.data.toList ≤ s.size := by have := dcnt_le s.data.toList; rwa [size_len] at this
  have LI := Lib.hid (lead_in s)
  have LO := Lib.hid (lead_out s)
  have h1 : ((dcnt s.data.toList : Int) == 0) = false := by rw [beq_eq_false_iff_ne]; omega
  have h2 : ¬ (9 : Int) < dcnt s.data.toList := by omega
  have h3 : ((s[0].toNat : Int) == 48) = false := by
    rw [beq_eq_false_iff_ne]; intro q; exact h0 ((byte_eq (c := 48) rfl).2 q)
  have NL := Lib.hid (fun w => number_lead s w h9)
  have lb : lv s.data.toList ≤ 999999999 := val_le9 _ (dcnt_take _) (by rw [List.length_take]; omega)
  have RES : Hid ((0 : Int) = ((prt s.data.toList c most).1 : Nat) ∧ (0 : Int) = ((prt s.data.toList c most).2 : Nat)) := by rw [prt_miss (fun x => by have := x.2; omega)]; exact ⟨rfl, rfl⟩
  have h4 : ((dcnt s.data.toList : Int) == (s.size : Int)) = false := by rw [beq_eq_false_iff_ne]; omega
  have h5 : ((s[dcnt s.data.toList].toNat : Int) != ci) = false := by rw [bne_eq_false_iff_eq]; exact (byte_eq hc).1 hx
  have h6 : (most : Int) < lv s.data.toList := by omega
  have h7 : decide ((most : Int) < lv s.data.toList) = true := by simpa using ho
  clear h0 hx ho
  generalize hD : dcnt s.data.toList = D at *
  have HD := Lib.hid hD
  clear hD
  go_enter Tryd.func56, Tryd.ntmps56
  go_wp2
  go_loop [6] (fun t => ∃ j : Nat, j ≤ D ∧ t = .int .i64 j) (fun t => D - (intOf t).toNat)
  case atStart => exact ⟨0, Nat.zero_le _, rfl⟩
  case round =>
    obtain ⟨j, hj, rfl⟩ := hrel
    by_cases hlt : j < D
    · obtain ⟨hz, hd⟩ := LI.out j hlt
      go_wp2_with (go_at_call 54; refine (isDigit_any _ _).mono ?_; rintro e w' ⟨rfl, rfl⟩)
      go_round
      case rel => exact ⟨j + 1, by omega, by go_num⟩
      case measure => simp [intOf]; omega
    · have hj' : j = D := by omega
      subst hj'
      clear hlt hj
      have hd := LO.out hz
      go_wp2_with (first | (go_at_call 54; refine (isDigit_any _ _).mono ?_; rintro e w' ⟨rfl, rfl⟩) | (go_at_call 46; refine (NL.out _).mono ?_; rintro e w' ⟨rfl, rfl⟩))
      go_quiet (fail)
      go_wp2
      go_ret2
      exact ⟨ret_two RES.out.1 RES.out.2, below_drewN ((Below.refl _ _).alloc (Nat.le_refl _) _) _⟩
set_option maxRecDepth 100000 in
set_option maxHeartbeats 2000000 in
theorem part_y (s : ByteArray) (c : UInt8) (ci mi : Int) (most : Nat) (w : World) (hs : s.size ≤ maxLen) (hc : (c.toNat : Int) = ci) (h : 1 ≤ dcnt s.data.toList) (h9 : dcnt s.data.toList ≤ 9) (hp : 0 < s.size) (h0 : ¬ s[0] = 48) (hz : dcnt s.data.toList < s.size) (hx : s[dcnt s.data.toList] = c) (ho : lv s.data.toList ≤ most) :
    Calls Tryd.prog 56 #[.string s, .agg #[.int .u8 ci, .int .i64 mi, .int .i64 most]] w (PartSays s c most w) := by
  unfold maxLen at hs
  have hl : dcnt s.data.toList ≤ s.size := by have := dcnt_le s.data.toList; rwa [size_len] at this
  have LI := Lib.hid (lead_in s)
  have LO := Lib.hid (lead_out s)
  have h1 : ((dcnt s.data.toList : Int) == 0) = false := by rw [beq_eq_false_iff_ne]; omega
  have h2 : ¬ (9 : Int) < dcnt s.data.toList := by omega
  have h3 : ((s[0].toNat : Int) == 48) = false := by
    rw [beq_eq_false_iff_ne]; intro q; exact h0 ((byte_eq (c := 48) rfl).2 q)
  have NL := Lib.hid (fun w => number_lead s w h9)
  have lb : lv s.data.toList ≤ 999999999 := val_le9 _ (dcnt_take _) (by rw [List.length_take]; omega)
  have RES : Hid ((lv s.data.toList : Int) = ((prt s.data.toList c most).1 : Nat) ∧ (dcnt s.data.toList : Int) + 1 = ((prt s.data.toList c most).2 : Nat)) := by
    rw [prt_hit (by unfold bad; exact decide_eq_false (by rintro (q | q | q) <;> first | omega | (rw [head_eq s hp] at q; exact h0 (Option.some.inj q)))) (by rw [at_eq s _ hz, hx]) ho]
    exact ⟨rfl, by simp⟩
  have h4 : ((dcnt s.data.toList : Int) == (s.size : Int)) = false := by rw [beq_eq_false_iff_ne]; omega
  have h5 : ((s[dcnt s.data.toList].toNat : Int) != ci) = false := by rw [bne_eq_false_iff_eq]; exact (byte_eq hc).1 hx
  have h6 : ¬ (most : Int) < lv s.data.toList := by omega
  have h7 : decide ((most : Int) < lv s.data.toList) = false := by simpa using ho
  clear h0 hx ho
  generalize hD : dcnt s.data.toList = D at *
  have HD := Lib.hid hD
  clear hD
  go_enter Tryd.func56, Tryd.ntmps56
  go_wp2
  go_loop [6] (fun t => ∃ j : Nat, j ≤ D ∧ t = .int .i64 j) (fun t => D - (intOf t).toNat)
  case atStart => exact ⟨0, Nat.zero_le _, rfl⟩
  case round =>
    obtain ⟨j, hj, rfl⟩ := hrel
    by_cases hlt : j < D
    · obtain ⟨hz, hd⟩ := LI.out j hlt
      go_wp2_with (go_at_call 54; refine (isDigit_any _ _).mono ?_; rintro e w' ⟨rfl, rfl⟩)
      go_round
      case rel => exact ⟨j + 1, by omega, by go_num⟩
      case measure => simp [intOf]; omega
    · have hj' : j = D := by omega
      subst hj'
      clear hlt hj
      have hd := LO.out hz
      go_wp2_with (first | (go_at_call 54; refine (isDigit_any _ _).mono ?_; rintro e w' ⟨rfl, rfl⟩) | (go_at_call 46; refine (NL.out _).mono ?_; rintro e w' ⟨rfl, rfl⟩))
      go_quiet (fail)
      go_wp2
      go_ret2
      exact ⟨ret_two RES.out.1 RES.out.2, below_drewN ((Below.refl _ _).alloc (Nat.le_refl _) _) _⟩
theorem part_any (s : ByteArray) (c : UInt8) (ci mi : Int) (most : Nat) (w : World) (hs : s.size ≤ maxLen) (hc : (c.toNat : Int) = ci) :
    Calls Tryd.prog 56 #[.string s, .agg #[.int .u8 ci, .int .i64 mi, .int .i64 most]] w (PartSays s c most w) := by
  have hl : dcnt s.data.toList ≤ s.size := by have := dcnt_le s.data.toList; rwa [size_len] at this
  by_cases hz : dcnt s.data.toList < s.size
  · by_cases h : dcnt s.data.toList = 0
    · exact part_z1 s c ci mi most w hs h hz
    by_cases h9 : 9 < dcnt s.data.toList
    · exact part_m1 s c ci mi most w hs h9 hz
    have hp : 0 < s.size := by omega
    by_cases h0 : s[0] = 48
    · exact part_h1 s c ci mi most w hs (by omega) (by omega) hp h0 hz
    by_cases hx : s[dcnt s.data.toList] = c
    · by_cases ho : lv s.data.toList ≤ most
      · exact part_y s c ci mi most w hs hc (by omega) (by omega) hp h0 hz hx ho
      · exact part_o s c ci mi most w hs hc (by omega) (by omega) hp h0 hz hx (by omega)
    · exact part_l s c ci mi most w hs hc (by omega) (by omega) hp h0 hz hx
  · by_cases h : dcnt s.data.toList = 0
    · exact part_z0 s c ci mi most w hs h hz
    by_cases h9 : 9 < dcnt s.data.toList
    · exact part_m0 s c ci mi most w hs h9 hz
    have hp : 0 < s.size := by omega
    by_cases h0 : s[0] = 48
    · exact part_h0 s c ci mi most w hs (by omega) (by omega) hp h0 hz
    · exact part_e s c ci mi most w hs (by omega) (by omega) hp h0 hz
end Go.Proofs.YtdiijpjfkgnjkaaDoor
