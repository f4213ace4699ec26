/-
  What is proved here: what clock.hasForm answers, for every text (a contract over the translation).
-/
import Derived.Test.YtdiijpjfkgnjkacDoorClkText
namespace Go.Proofs.YtdiijpjfkgnjkacDoor
open Go.RowKit Cal Txt
theorem fm_at (k : Nat) (h : k < 16) (h' : k < (({ data := #[48, 48, 48, 48, 45, 48, 48, 45, 48, 48, 32, 48, 48, 58, 48, 48] } : ByteArray)).size) : ({ data := #[48, 48, 48, 48, 45, 48, 48, 45, 48, 48, 32, 48, 48, 58, 48, 48] } : ByteArray)[k] = fm.getD k 0 := by
  have hcs : k = 0 ∨ k = 1 ∨ k = 2 ∨ k = 3 ∨ k = 4 ∨ k = 5 ∨ k = 6 ∨ k = 7 ∨ k = 8 ∨ k = 9 ∨ k = 10 ∨ k = 11 ∨ k = 12 ∨ k = 13 ∨ k = 14 ∨ k = 15 := by omega
  rcases hcs with rfl | rfl | rfl | rfl | rfl | rfl | rfl | rfl | rfl | rfl | rfl | rfl | rfl | rfl | rfl | rfl <;> rfl
theorem fit_at (s : ByteArray) (k : Nat) (h : k < 16) (hz : k < s.size) (h' : k < (({ data := #[48, 48, 48, 48, 45, 48, 48, 45, 48, 48, 32, 48, 48, 58, 48, 48] } : ByteArray)).size := h) : fit (fm.getD k 0) (s.data.toList.getD k 0) = if ((({ data := #[48, 48, 48, 48, 45, 48, 48, 45, 48, 48, 32, 48, 48, 58, 48, 48] } : ByteArray)[k]).toNat : Int) = 48 then dgI (s[k].toNat : Int) else ((s[k].toNat : Int) == ((({ data := #[48, 48, 48, 48, 45, 48, 48, 45, 48, 48, 32, 48, 48, 58, 48, 48] } : ByteArray)[k]).toNat : Int)) := by
  rw [fm_at k h h']
  have e : s.data.toList.getD k 0 = s[k] := by
    rw [List.getD_eq_getElem?_getD, List.getElem?_eq_getElem (by simpa using hz)]; rfl
  rw [e, dgI_eq]
  unfold fit
  have e2 : ((fm.getD k 0).toNat : Int) = 48 ↔ fm.getD k 0 = 48 := by
    constructor
    · intro g; apply UInt8.toNat_inj.1; rw [show (48 : UInt8).toNat = 48 from rfl]; omega
    · intro g; rw [g]; rfl
  by_cases g : fm.getD k 0 = 48
  · rw [if_pos g, if_pos (e2.2 g)]
  · rw [if_neg g, if_neg (fun x => g (e2.1 x)), Bool.eq_iff_iff, beq_iff_eq, beq_iff_eq]
    constructor
    · intro x; rw [x]
    · intro x; exact UInt8.toNat_inj.1 (by omega)
end Go.Proofs.YtdiijpjfkgnjkacDoor
