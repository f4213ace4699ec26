/-
  What is proved here: what clock.hasForm answers, for every text (a contract over the translation).
-/
import Derived.Test.YtdiijpjfkgnjkaaDoorClkText
namespace Go.Proofs.YtdiijpjfkgnjkaaDoor
open Go.RowKit Cal Txt
theorem fm_at (k : Nat) (h : k < 16) (h' : k < (({ data := #[48, 48, 48, 48, 45, 48, 48, 45, 48, 48, 32, 48, 48, 58, 48, 48] } : ByteArray)).size) : ({ data := #[48, 48, 48, 48, 45, 48, 48, 45, 48, 48, 32, 48, 48, 58, 48, 48] } : ByteArray)[k] = fm.getD k 0 := by
  have hcs : k = 0 ∨ k = 1 ∨ k = 2 ∨ k = 3 ∨ k = 4 ∨ k = 5 ∨ k = 6 ∨ k = 7 ∨ k = 8 ∨ k = 9 ∨ k = 10 ∨ k = 11 ∨ k = 12 ∨ k = 13 ∨ k = 14 ∨ k = 15 := by omega
  rcases hcs with rfl | rfl | rfl | rfl | rfl | rfl | rfl | rfl | rfl | rfl | rfl | rfl | rfl | rfl | rfl | rfl <;> rfl
theorem fit_at (s : ByteArray) (k : Nat) (h : k < 16) (hz : k < s.size) (h' : k < (({ data := #[48, 48, 48, 48, 45, 48, 48, 45, 48, 48, 32, 48, 48, 58, 48, 48] } : ByteArray)).size := h) : fit (fm.getD k 0) (s.data.toList.getD k 0) = if ((({ data := #[48, 48, 48, 48, 45, 48, 48, 45, 48, 48, 32, 48, 48, 58, 48, 48] } : ByteArray)[k]).toNat : Int) = 48 then dgI (s[k].toNat : Int) else ((s[k].toNat : Int) == ((({ data := #[48, 48, 48, 48, 45, 48, 48, 45, 48, 48, 32, 48, 48, 58, 48, 48] } : ByteArray)[k]).toNat : Int)) := by
  rw [fm_at k h h']
  have e : s.data.toList.getD k 0 = s[k] := by
    rw [List.getD_eq_getElem?_getD, List.getElem?_eq_getElem (by simpa using hz)]; rfl
  rw [e, dgI_eq]
  unfold fit
  have e2 : ((fm.getD k 0).toNat : Int) = 48 ↔ fm.getD k 0 = 48 := by
    constructor
    · intro g; apply UInt8.toNat_inj.1; rw [show (48 : UInt8).toNat = 48 from rfl]; omega
    · intro g; rw [g]; rfl
  by_cases g : fm.getD k 0 = 48
  · rw [if_pos g, if_pos (e2.2 g)]
  · rw [if_neg g, if_neg (fun x => g (e2.1 x)), Bool.eq_iff_iff, beq_iff_eq, beq_iff_eq]
    constructor
    · intro x; rw [x]
    · intro x; exact UInt8.toNat_inj.1 (by omega)
set_option maxRecDepth 100000 in
set_option maxHeartbeats 1000000 in
theorem hasForm_any (s : ByteArray) (w : World) :
    Calls Tryd.prog 45 #[.string s] w fun e w' => e = .returned (.bool (frm s.data.toList)) ∧ Below w.heap.size w w' := by
  by_cases hl : s.size = 16
  · go_enter Tryd.func45, Tryd.ntmps45
    go_wp2
    go_loopw [7] (fun i wr => ∃ k : Nat, k ≤ 16 ∧ i = .int .i64 k ∧ Below w.heap.size w wr ∧ ∀ j, j < k → fit (fm.getD j 0) (s.data.toList.getD j 0) = true) (fun i _ => 16 - (intOf i).toNat)
    case atStart => exact ⟨0, Nat.zero_le _, rfl, Below.refl _ _, fun j hj => by omega⟩
    case round =>
      obtain ⟨k, hk, rfl, hb, hf⟩ := hrel
      by_cases hlt : k < 16
      · have hz : k < s.size := by omega
        have hlt' : k < (({ data := #[48, 48, 48, 48, 45, 48, 48, 45, 48, 48, 32, 48, 48, 58, 48, 48] } : ByteArray)).size := hlt
        have FS : Hid (fit (fm.getD k 0) (s.data.toList.getD k 0) = if ((({ data := #[48, 48, 48, 48, 45, 48, 48, 45, 48, 48, 32, 48, 48, 58, 48, 48] } : ByteArray)[k]).toNat : Int) = 48 then dgI (s[k].toNat : Int) else ((s[k].toNat : Int) == ((({ data := #[48, 48, 48, 48, 45, 48, 48, 45, 48, 48, 32, 48, 48, 58, 48, 48] } : ByteArray)[k]).toNat : Int))) := fit_at s k hlt hz
        have HF : Hid (∀ j, j < k → fit (fm.getD j 0) (s.data.toList.getD j 0) = true) := hf
        clear hf
        by_cases q : ((({ data := #[48, 48, 48, 48, 45, 48, 48, 45, 48, 48, 32, 48, 48, 58, 48, 48] } : ByteArray)[k]).toNat : Int) = 48
        · have q1 : (((({ data := #[48, 48, 48, 48, 45, 48, 48, 45, 48, 48, 32, 48, 48, 58, 48, 48] } : ByteArray)[k]).toNat : Int) == 48) = true := by rw [beq_iff_eq]; exact q
          have q2 : (((({ data := #[48, 48, 48, 48, 45, 48, 48, 45, 48, 48, 32, 48, 48, 58, 48, 48] } : ByteArray)[k]).toNat : Int) != 48) = false := by rw [bne_eq_false_iff_eq]; exact q
          have FS2 : Hid (fit (fm.getD k 0) (s.data.toList.getD k 0) = dgI (s[k].toNat : Int)) := FS.out.trans (if_pos q)
          clear FS q
          rcases hd : dgI (s[k].toNat : Int) with _ | _
          · rw [hd] at FS2
            go_wp2
            go_quiet ((go_at_call 54; exact Calls.quiet_of_same (isDigit_any _ _)))
            go_wp2
            go_ret
            exact ⟨ret_bool (frm_not k hlt FS2.out).symm, below_drewN hb _⟩
          · rw [hd] at FS2
            go_wp2
            go_quiet ((go_at_call 54; exact Calls.quiet_of_same (isDigit_any _ _)))
            go_wp2
            go_roundw
            case rel => exact ⟨k + 1, by omega, by go_num, below_drewN hb _, fun j hj => by
              rcases Nat.lt_or_ge j k with g | g
              · exact HF.out j g
              · obtain rfl : j = k := by omega
                exact FS2.out⟩
            case measure => simp [intOf]; omega
        · have q1 : (((({ data := #[48, 48, 48, 48, 45, 48, 48, 45, 48, 48, 32, 48, 48, 58, 48, 48] } : ByteArray)[k]).toNat : Int) == 48) = false := by rw [beq_eq_false_iff_ne]; exact q
          have q2 : (((({ data := #[48, 48, 48, 48, 45, 48, 48, 45, 48, 48, 32, 48, 48, 58, 48, 48] } : ByteArray)[k]).toNat : Int) != 48) = true := by rw [bne_iff_ne]; exact q
          have FS2 : Hid (fit (fm.getD k 0) (s.data.toList.getD k 0) = ((s[k].toNat : Int) == ((({ data := #[48, 48, 48, 48, 45, 48, 48, 45, 48, 48, 32, 48, 48, 58, 48, 48] } : ByteArray)[k]).toNat : Int))) := FS.out.trans (if_neg q)
          clear FS q
          rcases hd : ((s[k].toNat : Int) == ((({ data := #[48, 48, 48, 48, 45, 48, 48, 45, 48, 48, 32, 48, 48, 58, 48, 48] } : ByteArray)[k]).toNat : Int)) with _ | _
          · rw [hd] at FS2
            have hd2 : ((s[k].toNat : Int) != ((({ data := #[48, 48, 48, 48, 45, 48, 48, 45, 48, 48, 32, 48, 48, 58, 48, 48] } : ByteArray)[k]).toNat : Int)) = true := by rw [bne, hd]; rfl
            go_wp2
            go_quiet ((go_at_call 54; exact Calls.quiet_of_same (isDigit_any _ _)))
            go_wp2
            go_ret
            exact ⟨ret_bool (frm_not k hlt FS2.out).symm, below_drewN hb _⟩
          · rw [hd] at FS2
            have hd2 : ((s[k].toNat : Int) != ((({ data := #[48, 48, 48, 48, 45, 48, 48, 45, 48, 48, 32, 48, 48, 58, 48, 48] } : ByteArray)[k]).toNat : Int)) = false := by rw [bne, hd]; rfl
            go_wp2
            go_quiet ((go_at_call 54; exact Calls.quiet_of_same (isDigit_any _ _)))
            go_wp2
            go_roundw
            case rel => exact ⟨k + 1, by omega, by go_num, below_drewN hb _, fun j hj => by
              rcases Nat.lt_or_ge j k with g | g
              · exact HF.out j g
              · obtain rfl : j = k := by omega
                exact FS2.out⟩
            case measure => simp [intOf]; omega
      · have hk' : k = 16 := by omega
        subst hk'
        have HF : Hid (frm s.data.toList = true) := frm_mk (by simpa using hl) hf
        clear hf
        go_wp2
        go_ret
        exact ⟨ret_bool HF.out.symm, hb⟩
  · have H : Hid (frm s.data.toList = false) := frm_short (by simpa using hl)
    have hl2 : ((s.size : Int) != 16) = true := by rw [bne_iff_ne]; omega
    clear hl
    go_enter Tryd.func45, Tryd.ntmps45
    go_wp2
    go_ret
    exact ⟨ret_bool H.out.symm, Below.refl _ _⟩
end Go.Proofs.YtdiijpjfkgnjkaaDoor
