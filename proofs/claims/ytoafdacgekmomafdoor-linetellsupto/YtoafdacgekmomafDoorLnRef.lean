/-
  What is proved here: what the document's Escape, Plain, Fold, Unfold and Pair answer, for every text and list of pieces that is not too long (contracts over the translation).
-/
import Derived.Test.YtoafdacgekmomafDoorLnRefP
import Derived.Test.YtoafdacgekmomafDoorLnPair
namespace Go.Proofs.YtoafdacgekmomafDoor
open Go.RowKit Cal Ln

theorem app_list (a b : ByteArray) : (a ++ b).data.toList = a.data.toList ++ b.data.toList := by simp
theorem ext_one (s : ByteArray) (k : Nat) (h : k < s.size) : (s.extract k (k + 1)).data.toList = [s[k]] := by
  rw [ByteArray.data_extract, Array.toList_extract, List.extract_eq_take_drop, List.drop_eq_getElem_cons (show k < s.data.toList.length from h)]
  show List.take (k + 1 - k) _ = _
  rw [show k + 1 - k = 1 by omega]; rfl
theorem tb_of {t : ByteArray} {l : List UInt8} (h : t.data.toList = l) : t = tb l := by rw [← h]; rfl
theorem size_of_list {t : ByteArray} {l : List UInt8} (h : t.data.toList = l) : t.size = l.length := by rw [← h]; rfl
theorem u8n {b c : UInt8} (h : ¬ b = c) : ((b.toNat : Int) == (c.toNat : Int)) = false := by
  rw [beq_eq_false_iff_ne]
  exact fun k => h (UInt8.toNat_inj.1 (by omega))
theorem u8m {b c : UInt8} (h : ¬ b = c) : ((b.toNat : Int) != (c.toNat : Int)) = true := by
  rw [bne_iff_ne]
  exact fun k => h (UInt8.toNat_inj.1 (by omega))
theorem lof_else {b : UInt8} (h1 : ¬ b = 92) (h2 : ¬ b = 59) (h3 : ¬ b = 44) (h4 : ¬ b = 10) : lof b = none := by unfold lof; rw [if_neg h1, if_neg h2, if_neg h3, if_neg h4]
theorem bof_else {b : UInt8} (h1 : ¬ b = 92) (h2 : ¬ b = 59) (h3 : ¬ b = 44) (h4 : ¬ b = 110) : bof b = none := by unfold bof; rw [if_neg h1, if_neg h2, if_neg h3, if_neg h4]
set_option maxRecDepth 100000 in
set_option maxHeartbeats 2000000 in
theorem refEsc_any (s : ByteArray) (w : World) (hs : s.size ≤ 4194304) :
    Calls Tryd.prog 5 #[.string s] w fun e w' => e = .returned (.string (tb (esc s.data.toList))) ∧ w' = w := by
  go_enter Tryd.func5, Tryd.ntmps5
  go_wp2
  go_loop [3, 4] (fun o i => ∃ (k : Nat) (t : ByteArray), k ≤ s.size ∧ i = .int .i64 k ∧ o = .string t ∧ t.data.toList = esc (s.data.toList.take k)) (fun _ i => s.size - (intOf i).toNat)
  case atStart => exact ⟨0, ⟨#[]⟩, Nat.zero_le _, rfl, rfl, rfl⟩
  case round =>
    obtain ⟨k, t, hk, rfl, rfl, ht⟩ := hrel
    have HT := Lib.hid ht
    have tz := size_of_list ht
    have el := esc_len (s.data.toList.take k)
    rw [List.length_take] at el
    have tl : t.size ≤ 8388608 := by omega
    clear ht tz el
    by_cases hlt : k < s.size
    · obtain ⟨b, hb0⟩ : ∃ b, b = s[k] := ⟨_, rfl⟩
      have hb1 : (s[k].toNat : Int) = (b.toNat : Int) := by rw [hb0]
      have HX := Lib.hid (show (s.extract k (k + 1)).data.toList = [b] by rw [hb0]; exact ext_one s k hlt)
      have T1 := Lib.hid (show esc (s.data.toList.take (k + 1)) = esc (s.data.toList.take k) ++ esc1 b by rw [take_snoc s k hlt, ← hb0]; exact esc_snoc _ _)
      clear hb0
      by_cases e10 : b = 10
      · subst e10
        have T2 := Lib.hid (show esc1 10 = [92, 110] from rfl)
        go_wp2
        go_round
        case rel =>
          refine ⟨k + 1, _, by omega, by go_num, rfl, ?_⟩
          rw [app_list, HT.out, T1.out, T2.out]
        case measure => simp [intOf]; omega
      by_cases e92 : b = 92
      · subst e92
        have T2 := Lib.hid (show esc1 92 = [92, 92] from rfl)
        go_wp2
        go_round
        case rel =>
          refine ⟨k + 1, _, by omega, by go_num, rfl, ?_⟩
          rw [app_list, app_list, HT.out, HX.out, T1.out, T2.out, List.append_assoc]; rfl
        case measure => simp [intOf]; omega
      by_cases e59 : b = 59
      · subst e59
        have T2 := Lib.hid (show esc1 59 = [92, 59] from rfl)
        go_wp2
        go_round
        case rel =>
          refine ⟨k + 1, _, by omega, by go_num, rfl, ?_⟩
          rw [app_list, app_list, HT.out, HX.out, T1.out, T2.out, List.append_assoc]; rfl
        case measure => simp [intOf]; omega
      by_cases e44 : b = 44
      · subst e44
        have T2 := Lib.hid (show esc1 44 = [92, 44] from rfl)
        go_wp2
        go_round
        case rel =>
          refine ⟨k + 1, _, by omega, by go_num, rfl, ?_⟩
          rw [app_list, app_list, HT.out, HX.out, T1.out, T2.out, List.append_assoc]; rfl
        case measure => simp [intOf]; omega
      have T2 := Lib.hid (show esc1 b = [b] from esc1_none (lof_else e92 e59 e44 e10))
      have n10 : ((b.toNat : Int) == 10) = false := u8n e10
      have n92 : ((b.toNat : Int) == 92) = false := u8n e92
      have n59 : ((b.toNat : Int) == 59) = false := u8n e59
      have n44 : ((b.toNat : Int) == 44) = false := u8n e44
      clear e10 e92 e59 e44
      go_wp2
      go_round
      case rel =>
        refine ⟨k + 1, _, by omega, by go_num, rfl, ?_⟩
        rw [app_list, HT.out, HX.out, T1.out, T2.out]
      case measure => simp [intOf]; omega
    · have e : s.data.toList.take k = s.data.toList := List.take_of_length_le (by show s.size ≤ k; omega)
      have HE := Lib.hid (show t = tb (esc s.data.toList) from tb_of (by rw [HT.out, e]))
      clear e
      go_wp2
      go_ret
      exact ⟨by rw [← HE.out]; rfl, rfl⟩
/-- What the document's Plain answers. -/
def plB (s : ByteArray) : Bool := (pln s.data.toList).isSome
theorem plB_some {s : ByteArray} {c : List UInt8} (h : pln s.data.toList = some c) : plB s = true := by unfold plB; rw [h]; rfl
theorem plB_none {s : ByteArray} (h : pln s.data.toList = none) : plB s = false := by unfold plB; rw [h]; rfl
theorem drop_one (s : ByteArray) (k : Nat) (h : k < s.size) : s.data.toList.drop k = s[k] :: s.data.toList.drop (k + 1) := List.drop_eq_getElem_cons (show k < s.data.toList.length from h)
theorem PK_one {s x t : List UInt8} {b : UInt8} {r : List UInt8} (h : PK s x t) (hx : x = b :: r) (hl : lof b = none) : PK s r (t ++ [b]) := by
  subst hx
  have := PK_next h (by simp) (by rw [fb_plain hl]; simp)
  rw [fb_plain hl] at this
  exact this
theorem PK_two {s x t : List UInt8} {d p : UInt8} {r : List UInt8} (h : PK s x t) (hx : x = 92 :: d :: r) (hl : bof d = some p) : PK s r (t ++ [p]) := by
  subst hx
  have := PK_next h (by simp) (by rw [fb_two hl]; simp)
  rw [fb_two hl] at this
  exact this
theorem PK_bad {s x t : List UInt8} {b c : UInt8} {r : List UInt8} (h : PK s x t) (hx : x = b :: r) (hl : lof b = some c) (hb : b ≠ 92) : pln s = none := by
  subst hx
  exact PK_no h (by simp) (by rw [fb_other hl hb])
theorem PK_last {s x t : List UInt8} (h : PK s x t) (hx : x = [92]) : pln s = none := by
  subst hx
  exact PK_no h (by simp) (by rw [fb_last])
theorem PK_bad2 {s x t : List UInt8} {d : UInt8} {r : List UInt8} (h : PK s x t) (hx : x = 92 :: d :: r) (hl : bof d = none) : pln s = none := by
  subst hx
  exact PK_no h (by simp) (by rw [fb_bad hl])
set_option maxRecDepth 100000 in
set_option maxHeartbeats 4000000 in
theorem refPln_any (s : ByteArray) (w : World) (hs : s.size ≤ 4194304) :
    Calls Tryd.prog 6 #[.string s] w fun e w' => e = .returned (.tuple #[.string (plV s), .bool (plB s)]) ∧ w' = w := by
  go_enter Tryd.func6, Tryd.ntmps6
  go_wp2
  go_loop [4, 5] (fun o i => ∃ (k : Nat) (t : ByteArray), k ≤ s.size ∧ t.size ≤ k ∧ i = .int .i64 k ∧ o = .string t ∧ PK s.data.toList (s.data.toList.drop k) t.data.toList) (fun _ i => s.size - (intOf i).toNat)
  case atStart => exact ⟨0, ⟨#[]⟩, Nat.zero_le _, Nat.le_refl _, rfl, rfl, PK_start _⟩
  case round =>
    obtain ⟨k, t, hk, tk, rfl, rfl, hP⟩ := hrel
    have HP := Lib.hid hP
    clear hP
    by_cases hlt : k < s.size
    · obtain ⟨b, hb0⟩ : ∃ b, b = s[k] := ⟨_, rfl⟩
      have hb1 : (s[k].toNat : Int) = (b.toNat : Int) := by rw [hb0]
      have HX := Lib.hid (show (s.extract k (k + 1)).data.toList = [b] by rw [hb0]; exact ext_one s k hlt)
      have HD := Lib.hid (show s.data.toList.drop k = b :: s.data.toList.drop (k + 1) by rw [hb0]; exact drop_one s k hlt)
      clear hb0
      by_cases e10 : b = 10
      · subst e10
        have HE := Lib.hid (PK_bad (c := 110) HP.out HD.out rfl (by decide))
        go_wp2
        go_ret2
        exact ⟨by rw [plV_none HE.out, plB_none HE.out]; rfl, rfl⟩
      by_cases e59 : b = 59
      · subst e59
        have HE := Lib.hid (PK_bad (c := 59) HP.out HD.out rfl (by decide))
        go_wp2
        go_ret2
        exact ⟨by rw [plV_none HE.out, plB_none HE.out]; rfl, rfl⟩
      by_cases e44 : b = 44
      · subst e44
        have HE := Lib.hid (PK_bad (c := 44) HP.out HD.out rfl (by decide))
        go_wp2
        go_ret2
        exact ⟨by rw [plV_none HE.out, plB_none HE.out]; rfl, rfl⟩
      have n10 : ((b.toNat : Int) == 10) = false := u8n e10
      have n59 : ((b.toNat : Int) == 59) = false := u8n e59
      have n44 : ((b.toNat : Int) == 44) = false := u8n e44
      by_cases e92 : b = 92
      · subst e92
        clear n10 n59 n44 e10 e59 e44
        by_cases h2 : k + 1 = s.size
        · have HE := Lib.hid (PK_last HP.out (by rw [HD.out, List.drop_of_length_le (by show s.size ≤ k + 1; omega)]))
          have h2i : ((k : Int) + 1 == (s.size : Int)) = true := by rw [beq_iff_eq]; omega
          go_wp2
          go_ret2
          exact ⟨by rw [plV_none HE.out, plB_none HE.out]; rfl, rfl⟩
        have h3 : k + 1 < s.size := by omega
        have h2i : ((k : Int) + 1 == (s.size : Int)) = false := by rw [beq_eq_false_iff_ne]; omega
        obtain ⟨d, hd0⟩ : ∃ d, d = s[k + 1] := ⟨_, rfl⟩
        have hd1 : (s[k + 1].toNat : Int) = (d.toNat : Int) := by rw [hd0]
        have HX2 := Lib.hid (show (s.extract (k + 1) (k + 1 + 1)).data.toList = [d] by rw [hd0]; exact ext_one s (k + 1) h3)
        have HD2 := Lib.hid (show s.data.toList.drop k = 92 :: d :: s.data.toList.drop (k + 2) by rw [HD.out, drop_one s (k + 1) h3, ← hd0])
        clear hd0 h2 HX
        by_cases d92 : d = 92
        · subst d92
          have N1 := Lib.hid (PK_two (p := 92) HP.out HD2.out rfl)
          go_wp2
          go_round
          case rel =>
            refine ⟨k + 2, _, by omega, ?_, by go_num, rfl, ?_⟩
            · rw [ByteArray.size_append]; simp; omega
            · rw [app_list, HX2.out]; exact N1.out
          case measure => simp [intOf]; omega
        by_cases d59 : d = 59
        · subst d59
          have N1 := Lib.hid (PK_two (p := 59) HP.out HD2.out rfl)
          go_wp2
          go_round
          case rel =>
            refine ⟨k + 2, _, by omega, ?_, by go_num, rfl, ?_⟩
            · rw [ByteArray.size_append]; simp; omega
            · rw [app_list, HX2.out]; exact N1.out
          case measure => simp [intOf]; omega
        by_cases d44 : d = 44
        · subst d44
          have N1 := Lib.hid (PK_two (p := 44) HP.out HD2.out rfl)
          go_wp2
          go_round
          case rel =>
            refine ⟨k + 2, _, by omega, ?_, by go_num, rfl, ?_⟩
            · rw [ByteArray.size_append]; simp; omega
            · rw [app_list, HX2.out]; exact N1.out
          case measure => simp [intOf]; omega
        by_cases d110 : d = 110
        · subst d110
          have N1 := Lib.hid (PK_two (p := 10) HP.out HD2.out rfl)
          go_wp2
          go_round
          case rel =>
            refine ⟨k + 2, _, by omega, ?_, by go_num, rfl, ?_⟩
            · rw [ByteArray.size_append]; show t.size + 1 ≤ _; omega
            · rw [app_list]; exact N1.out
          case measure => simp [intOf]; omega
        have HE := Lib.hid (PK_bad2 HP.out HD2.out (bof_else d92 d59 d44 d110))
        have m92 : ((d.toNat : Int) != 92) = true := u8m d92
        have m59 : ((d.toNat : Int) != 59) = true := u8m d59
        have m44 : ((d.toNat : Int) != 44) = true := u8m d44
        have m110 : ((d.toNat : Int) != 110) = true := u8m d110
        clear d92 d59 d44 d110
        go_wp2
        go_ret2
        exact ⟨by rw [plV_none HE.out, plB_none HE.out]; rfl, rfl⟩
      have n92 : ((b.toNat : Int) != 92) = true := u8m e92
      have N1 := Lib.hid (PK_one HP.out HD.out (lof_else e92 e59 e44 e10))
      clear e10 e59 e44 e92
      go_wp2
      go_round
      case rel =>
        refine ⟨k + 1, _, by omega, ?_, by go_num, rfl, ?_⟩
        · rw [ByteArray.size_append]; simp; omega
        · rw [app_list, HX.out]; exact N1.out
      case measure => simp [intOf]; omega
    · have e : s.data.toList.drop k = [] := List.drop_of_length_le (by show s.size ≤ k; omega)
      have HE := Lib.hid (PK_end (by have := HP.out; rw [e] at this; exact this))
      clear e
      go_wp2
      go_ret2
      exact ⟨by rw [plV_some HE.out, plB_some HE.out]; rfl, rfl⟩
end Go.Proofs.YtoafdacgekmomafDoor
