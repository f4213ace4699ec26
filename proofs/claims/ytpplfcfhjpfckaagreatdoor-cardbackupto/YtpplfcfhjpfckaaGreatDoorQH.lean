/-
  What is proved here: what clock.isDigit, number, twoDigits and hasForm answer (contracts over the translation).
  What is proved here: what clock.hasForm answers, for every text (a contract over the translation).
-/
import Derived.Test.YtpplfcfhjpfckaaGreatDoorClk
import Derived.Test.YtpplfcfhjpfckaaGreatDoorShelf
import Derived.Test.YtpplfcfhjpfckaaGreatDoorQB
namespace Go.Proofs.YtpplfcfhjpfckaaGreatDoor
open Go.RowKit Cal Txt

/-- Is a byte's number a digit's? -/
def dgI (c : Int) : Bool := decide (48 ≤ c ∧ c ≤ 57)
theorem dgI_eq (c : UInt8) : dgI (c.toNat : Int) = isDg c := by
  unfold dgI isDg; rw [Bool.eq_iff_iff]; simp; omega
theorem isDigit_any (c : Int) (w : World) :
    Calls Tryz.prog 121 #[.int .u8 c] w fun e w' => e = .returned (.bool (dgI c)) ∧ w' = w := by
  by_cases h : 48 ≤ c
  all_goals
    go_enter Tryz.func121, Tryz.ntmps121
    go_wp2
    go_ret
    exact ⟨ret_bool (by unfold dgI; rw [Bool.eq_iff_iff]; simp; omega), rfl⟩
set_option maxHeartbeats 1000000 in
theorem number_any (s : ByteArray) (w : World) (hd : ∀ c ∈ s.data.toList, isDg c = true) (hs : s.size ≤ 9) :
    Calls Tryz.prog 95 #[.string s] w fun e w' => e = .returned (.int .i64 (val s.data.toList)) ∧ w' = w := by
  go_enter Tryz.func95, Tryz.ntmps95
  go_wp2
  go_loop [3, 7] (fun n i => ∃ k : Nat, k ≤ s.size ∧ i = .int .i64 k ∧ n = .int .i64 (val (s.data.toList.take k))) (fun _ i => s.size - (intOf i).toNat)
  case atStart => exact ⟨0, Nat.zero_le _, rfl, rfl⟩
  case round =>
    obtain ⟨k, hk, rfl, rfl⟩ := hrel
    have vb := val_le9 (s.data.toList.take k) (fun c hc => hd c (List.mem_of_mem_take hc)) (by have := List.length_take_le k s.data.toList; omega)
    by_cases hlt : k < s.size
    · have hc := isDg_iff.1 (hd _ (mem_at s k hlt))
      have c1 : (48 : Int) ≤ s[k].toNat := by omega
      have c2 : (s[k].toNat : Int) ≤ 57 := by omega
      have HS : Hid (val (s.data.toList.take (k + 1)) = val (s.data.toList.take k) * 10 + (s[k].toNat - 48)) := by rw [take_snoc s k hlt]; exact val_snoc _ _
      clear hc
      go_wp2
      go_round
      case rel => exact ⟨k + 1, by omega, by go_num, by rw [HS.out]; go_num⟩
      case measure => simp [intOf]; omega
    · go_wp2
      go_ret
      exact ⟨ret_int (by rw [List.take_of_length_le (by simp; omega)]), rfl⟩
theorem two_any (n : Nat) (w : World) (h : n < 100) :
    Calls Tryz.prog 113 #[.int .i64 n] w fun e w' => e = .returned (.string ⟨(d2 n).toArray⟩) ∧ w' = w := by
  have hl : (Lib.decDigits n).length ≤ 2 := dec_len n 1 (by omega)
  by_cases h9 : (n : Int) < 10
  · have H : Hid ([48] ++ Lib.decDigits n = d2 n) := d2_small (by omega)
    go_enter Tryz.func113, Tryz.ntmps113
    go_wp2_with (go_at_call 88; refine (Tryz.strconv_Itoa_small n h _).mono ?_; rintro e w' ⟨rfl, rfl⟩)
    go_ret
    exact ⟨by rw [← H.out]; exact congrArg (fun x => Ending.returned (.string x)) (ba_app [48] (Lib.decDigits n)), rfl⟩
  · have H : Hid (Lib.decDigits n = d2 n) := d2_big (by omega) h
    go_enter Tryz.func113, Tryz.ntmps113
    go_wp2_with (go_at_call 88; refine (Tryz.strconv_Itoa_small n h _).mono ?_; rintro e w' ⟨rfl, rfl⟩)
    go_ret
    exact ⟨ret_str H.out, rfl⟩
end Go.Proofs.YtpplfcfhjpfckaaGreatDoor
namespace Go.Proofs.YtpplfcfhjpfckaaGreatDoor
open Go.RowKit Cal Txt
theorem fm_at (k : Nat) (h : k < 16) (h' : k < (({ data := #[48, 48, 48, 48, 45, 48, 48, 45, 48, 48, 32, 48, 48, 58, 48, 48] } : ByteArray)).size) : ({ data := #[48, 48, 48, 48, 45, 48, 48, 45, 48, 48, 32, 48, 48, 58, 48, 48] } : ByteArray)[k] = fm.getD k 0 := by
  have hcs : k = 0 ∨ k = 1 ∨ k = 2 ∨ k = 3 ∨ k = 4 ∨ k = 5 ∨ k = 6 ∨ k = 7 ∨ k = 8 ∨ k = 9 ∨ k = 10 ∨ k = 11 ∨ k = 12 ∨ k = 13 ∨ k = 14 ∨ k = 15 := by omega
  rcases hcs with rfl | rfl | rfl | rfl | rfl | rfl | rfl | rfl | rfl | rfl | rfl | rfl | rfl | rfl | rfl | rfl <;> rfl
theorem fit_at (s : ByteArray) (k : Nat) (h : k < 16) (hz : k < s.size) (h' : k < (({ data := #[48, 48, 48, 48, 45, 48, 48, 45, 48, 48, 32, 48, 48, 58, 48, 48] } : ByteArray)).size := h) : fit (fm.getD k 0) (s.data.toList.getD k 0) = if ((({ data := #[48, 48, 48, 48, 45, 48, 48, 45, 48, 48, 32, 48, 48, 58, 48, 48] } : ByteArray)[k]).toNat : Int) = 48 then dgI (s[k].toNat : Int) else ((s[k].toNat : Int) == ((({ data := #[48, 48, 48, 48, 45, 48, 48, 45, 48, 48, 32, 48, 48, 58, 48, 48] } : ByteArray)[k]).toNat : Int)) := by
  rw [fm_at k h h']
  have e : s.data.toList.getD k 0 = s[k] := by
    rw [List.getD_eq_getElem?_getD, List.getElem?_eq_getElem (by simpa using hz)]; rfl
  rw [e, dgI_eq]
  unfold fit
  have e2 : ((fm.getD k 0).toNat : Int) = 48 ↔ fm.getD k 0 = 48 := by
    constructor
    · intro g; apply UInt8.toNat_inj.1; rw [show (48 : UInt8).toNat = 48 from rfl]; omega
    · intro g; rw [g]; rfl
  by_cases g : fm.getD k 0 = 48
  · rw [if_pos g, if_pos (e2.2 g)]
  · rw [if_neg g, if_neg (fun x => g (e2.1 x)), Bool.eq_iff_iff, beq_iff_eq, beq_iff_eq]
    constructor
    · intro x; rw [x]
    · intro x; exact UInt8.toNat_inj.1 (by omega)
set_option maxRecDepth 100000 in
set_option maxHeartbeats 1000000 in
theorem hasForm_any (s : ByteArray) (w : World) :
    Calls Tryz.prog 94 #[.string s] w fun e w' => e = .returned (.bool (frm s.data.toList)) ∧ Below w.heap.size w w' := by
  by_cases hl : s.size = 16
  · go_enter Tryz.func94, Tryz.ntmps94
    go_wp2
    go_loopw [7] (fun i wr => ∃ k : Nat, k ≤ 16 ∧ i = .int .i64 k ∧ Below w.heap.size w wr ∧ ∀ j, j < k → fit (fm.getD j 0) (s.data.toList.getD j 0) = true) (fun i _ => 16 - (intOf i).toNat)
    case atStart => exact ⟨0, Nat.zero_le _, rfl, Below.refl _ _, fun j hj => by omega⟩
    case round =>
      obtain ⟨k, hk, rfl, hb, hf⟩ := hrel
      by_cases hlt : k < 16
      · have hz : k < s.size := by omega
        have hlt' : k < (({ data := #[48, 48, 48, 48, 45, 48, 48, 45, 48, 48, 32, 48, 48, 58, 48, 48] } : ByteArray)).size := hlt
        have FS : Hid (fit (fm.getD k 0) (s.data.toList.getD k 0) = if ((({ data := #[48, 48, 48, 48, 45, 48, 48, 45, 48, 48, 32, 48, 48, 58, 48, 48] } : ByteArray)[k]).toNat : Int) = 48 then dgI (s[k].toNat : Int) else ((s[k].toNat : Int) == ((({ data := #[48, 48, 48, 48, 45, 48, 48, 45, 48, 48, 32, 48, 48, 58, 48, 48] } : ByteArray)[k]).toNat : Int))) := fit_at s k hlt hz
        have HF : Hid (∀ j, j < k → fit (fm.getD j 0) (s.data.toList.getD j 0) = true) := hf
        clear hf
        by_cases q : ((({ data := #[48, 48, 48, 48, 45, 48, 48, 45, 48, 48, 32, 48, 48, 58, 48, 48] } : ByteArray)[k]).toNat : Int) = 48
        · have q1 : (((({ data := #[48, 48, 48, 48, 45, 48, 48, 45, 48, 48, 32, 48, 48, 58, 48, 48] } : ByteArray)[k]).toNat : Int) == 48) = true := by rw [beq_iff_eq]; exact q
          have q2 : (((({ data := #[48, 48, 48, 48, 45, 48, 48, 45, 48, 48, 32, 48, 48, 58, 48, 48] } : ByteArray)[k]).toNat : Int) != 48) = false := by rw [bne_eq_false_iff_eq]; exact q
          have FS2 : Hid (fit (fm.getD k 0) (s.data.toList.getD k 0) = dgI (s[k].toNat : Int)) := FS.out.trans (if_pos q)
          clear FS q
          rcases hd : dgI (s[k].toNat : Int) with _ | _
          · rw [hd] at FS2
            go_wp2
            go_quiet ((go_at_call 121; exact Calls.quiet_of_same (isDigit_any _ _)))
            go_wp2
            go_ret
            exact ⟨ret_bool (frm_not k hlt FS2.out).symm, below_drewN hb _⟩
          · rw [hd] at FS2
            go_wp2
            go_quiet ((go_at_call 121; exact Calls.quiet_of_same (isDigit_any _ _)))
            go_wp2
            go_roundw
            case rel => exact ⟨k + 1, by omega, by go_num, below_drewN hb _, fun j hj => by
              rcases Nat.lt_or_ge j k with g | g
              · exact HF.out j g
              · obtain rfl : j = k := by omega
                exact FS2.out⟩
            case measure => simp [intOf]; omega
        · have q1 : (((({ data := #[48, 48, 48, 48, 45, 48, 48, 45, 48, 48, 32, 48, 48, 58, 48, 48] } : ByteArray)[k]).toNat : Int) == 48) = false := by rw [beq_eq_false_iff_ne]; exact q
          have q2 : (((({ data := #[48, 48, 48, 48, 45, 48, 48, 45, 48, 48, 32, 48, 48, 58, 48, 48] } : ByteArray)[k]).toNat : Int) != 48) = true := by rw [bne_iff_ne]; exact q
          have FS2 : Hid (fit (fm.getD k 0) (s.data.toList.getD k 0) = ((s[k].toNat : Int) == ((({ data := #[48, 48, 48, 48, 45, 48, 48, 45, 48, 48, 32, 48, 48, 58, 48, 48] } : ByteArray)[k]).toNat : Int))) := FS.out.trans (if_neg q)
          clear FS q
          rcases hd : ((s[k].toNat : Int) == ((({ data := #[48, 48, 48, 48, 45, 48, 48, 45, 48, 48, 32, 48, 48, 58, 48, 48] } : ByteArray)[k]).toNat : Int)) with _ | _
          · rw [hd] at FS2
            have hd2 : ((s[k].toNat : Int) != ((({ data := #[48, 48, 48, 48, 45, 48, 48, 45, 48, 48, 32, 48, 48, 58, 48, 48] } : ByteArray)[k]).toNat : Int)) = true := by rw [bne, hd]; rfl
            go_wp2
            go_quiet ((go_at_call 121; exact Calls.quiet_of_same (isDigit_any _ _)))
            go_wp2
            go_ret
            exact ⟨ret_bool (frm_not k hlt FS2.out).symm, below_drewN hb _⟩
          · rw [hd] at FS2
            have hd2 : ((s[k].toNat : Int) != ((({ data := #[48, 48, 48, 48, 45, 48, 48, 45, 48, 48, 32, 48, 48, 58, 48, 48] } : ByteArray)[k]).toNat : Int)) = false := by rw [bne, hd]; rfl
            go_wp2
            go_quiet ((go_at_call 121; exact Calls.quiet_of_same (isDigit_any _ _)))
            go_wp2
            go_roundw
            case rel => exact ⟨k + 1, by omega, by go_num, below_drewN hb _, fun j hj => by
              rcases Nat.lt_or_ge j k with g | g
              · exact HF.out j g
              · obtain rfl : j = k := by omega
                exact FS2.out⟩
            case measure => simp [intOf]; omega
      · have hk' : k = 16 := by omega
        subst hk'
        have HF : Hid (frm s.data.toList = true) := frm_mk (by simpa using hl) hf
        clear hf
        go_wp2
        go_ret
        exact ⟨ret_bool HF.out.symm, hb⟩
  · have H : Hid (frm s.data.toList = false) := frm_short (by simpa using hl)
    have hl2 : ((s.size : Int) != 16) = true := by rw [bne_iff_ne]; omega
    clear hl
    go_enter Tryz.func94, Tryz.ntmps94
    go_wp2
    go_ret
    exact ⟨ret_bool H.out.symm, Below.refl _ _⟩
end Go.Proofs.YtpplfcfhjpfckaaGreatDoor
