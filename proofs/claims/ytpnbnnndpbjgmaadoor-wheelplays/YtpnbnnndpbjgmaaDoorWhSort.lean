/-
  What is proved here: what slices.SortFunc answers at rings, by alarm.Order (a contract over the translation).
-/
import Derived.Test.YtpnbnnndpbjgmaaDoorWhInv
import Derived.Test.YtpnbnnndpbjgmaaDoorOwK
import Derived.Test.YtpnbnnndpbjgmaaDoorShelfR
import Derived.Shelf.SlSortCmp.WholeK
import Derived.Shelf.SlSortCmp.NoneTotal
namespace Go.Proofs.YtpnbnnndpbjgmaaDoor.Qu
open Go.RowKit

theorem oc_lt (x y : Rq) : ltOf oc x y = decide (oc x y < 0) := rfl
theorem oc_swo : Sort.SWO (ltOf oc) where
  irrefl x := by rw [oc_lt, oc_self]; rfl
  trans x y z h1 h2 := by rw [oc_lt] at *; exact decide_eq_true (oc_cm.tr _ _ _ (of_decide_eq_true h1) (of_decide_eq_true h2))
  ntrans x y z h1 h2 := by
    rw [oc_lt] at *
    have h1' := of_decide_eq_false h1
    have h2' := of_decide_eq_false h2
    apply decide_eq_false
    intro h3
    have a1 : oc y x ≤ 0 := by
      rcases Int.lt_or_le 0 (oc y x) with q | q
      · exact absurd ((oc_cm.anti x y).2 q) h1'
      · exact q
    have a2 : oc z y ≤ 0 := by
      rcases Int.lt_or_le 0 (oc z y) with q | q
      · exact absurd ((oc_cm.anti y z).2 q) h2'
      · exact q
    rcases (by omega : oc y x = 0 ∨ oc y x < 0) with q | q
    · rw [(oc_cm.eq _ _).1 q] at h2'
      exact h2' h3
    · rcases (by omega : oc z y = 0 ∨ oc z y < 0) with q2 | q2
      · rw [(oc_cm.eq _ _).1 q2] at h3
        exact h1' h3
      · have := oc_cm.tr _ _ _ q2 q
        have := (oc_cm.anti _ _).1 this
        omega
/-- What is sorted. -/
def SrqA (n0 : Nat) (w : World) (v : Value) (l : List Rq) (e : Ending) (w' : World) : Prop := e = .returned (.tuple #[]) ∧ ∃ B, l.Perm B ∧ B.Pairwise (fun x y => ¬ oc y x < 0) ∧ w.grownBy w' v.ownBlock ∧ Ow w' n0 v B
theorem sortQ_any (l : List Rq) (n0 : Nat) (v : Value) (w : World) (h : Ow w n0 v l) (hl : l.length ≤ 1000000) :
    Calls Tryd.prog 26 #[v, .func (.func 27) #[] #[]] w (SrqA n0 w v l) := by
  rcases (own_openK encQ 5 (fun _ => rfl) (by decide) h).2 with ⟨rfl, rfl⟩ | ⟨g, cap, rfl, hg, hgl, _, hh⟩
  · refine (AnyF.slices_SortFunc_none Tryd.sortRg none 0 (.func (.func 27) #[] #[]) w).mono ?_
    rintro e w' ⟨rfl, rfl⟩
    exact ⟨rfl, [], List.Perm.refl _, by simp, grown_refl _ _, World.ownsRow_nil _ _ _ _⟩
  · have eg : ∀ args w, (callFunc 27 args).run Tryd.prog w = .ok (.enter 27 args) w := enters_of Tryd.func27 (by kernel_rfl) rfl
    have hcon := AnyQ.slices_SortFunc Tryd.sortRg 5 Tryd.isAgg34 Tryd.sizeOf34 encQ (fun _ => rfl) encQ_one oc oc_swo 27 #[] g 0 cap l.toArray w eg (fun _ _ _ _ x y => order_run x y _) hh hgl (by simp; omega)
    refine hcon.mono ?_
    rintro e w' ⟨rfl, d', n, os, hp, hs, rfl⟩
    have hsz : d'.size = l.toArray.size := hp.1
    have hperm : l.Perm d'.toList := by
      have := hp.2.2
      rw [← hsz, Array.extract_size, hsz, Array.extract_size] at this
      simpa using this.symm
    refine ⟨rfl, d'.toList, hperm, ?_, ?_, ?_⟩
    · rw [List.pairwise_iff_getElem]
      intro i j hi hj hij
      have := hs i j (Nat.zero_le _) hij (by rw [← hsz]; simpa using hj)
      rw [oc_lt, getElem!_pos _ i (by simpa using hi), getElem!_pos _ j (by simpa using hj)] at this
      simpa using this
    · have q1 : (Sort.ahead w n).grownBy (Sort.putRowK encQ 5 (Sort.ahead w n) g 0 d') (some g) := ⟨rfl, rfl, rfl, by simp [Sort.putRowK, Sort.putRow, Sort.mapBlock], fun j _ hne => by
        simp only [Sort.putRowK, Sort.putRow, Sort.mapBlock, Array.getElem?_modify]
        rw [if_neg (fun e => hne (by rw [e]))]⟩
      have q2 : (Sort.putRowK encQ 5 (Sort.ahead w n) g 0 d').grownBy (Sort.grow (Sort.putRowK encQ 5 (Sort.ahead w n) g 0 d') os) (some g) := grown_below (belowG os (Nat.le_refl _)) _
      have q3 := grown_tr q1 q2
      exact ⟨q3.os, q3.tape, q3.output, q3.size, q3.block⟩
    · have := ow_below (own_putK encQ 5 (fun _ => rfl) (by decide) (q := n) h d' (by simpa using hsz)) (belowG os (Nat.le_refl _))
      rw [hperm.length_eq] at this ⊢
      exact this
end Go.Proofs.YtpnbnnndpbjgmaaDoor.Qu
