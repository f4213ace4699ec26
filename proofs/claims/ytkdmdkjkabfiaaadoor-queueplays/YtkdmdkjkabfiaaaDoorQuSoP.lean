/-
  What is proved here: package queue's Push and Pop in the spelling in which a law asks them, and the plain facts of what is put in and comes out.
-/
import Derived.Test.YtkdmdkjkabfiaaaDoorQuEq
import Derived.Test.YtkdmdkjkabfiaaaDoorErrT
namespace Go.Proofs.YtkdmdkjkabfiaaaDoor.Qu
open Go.RowKit

theorem push_yes (w : World) (b : Nat) (v : Value) (M : List Rq) (r : Rq) (h : Qs w b v M) (hM : Rs M) (hl : M.length ≤ 1000000) (hp : pf M r = 0) :
    Calls Tryd.prog 6 #[.pointer (some ⟨b, 0, none⟩), agQ r] w fun e w' => e = .returned .nilIface ∧ ∃ v', Qs w' b v' (put M r) ∧ Kp b v v' w w' :=
  (push_any w b v M r h hM hl).mono (fun e w' ⟨he, v', M', q1, q2, q3⟩ => by
    rw [hp] at he
    unfold pus at q3
    rw [if_pos hp] at q3
    exact ⟨he, v', by rw [← q3]; exact q1, q2⟩)
theorem push_no (w : World) (b : Nat) (v : Value) (M : List Rq) (r : Rq) (h : Qs w b v M) (hM : Rs M) (hl : M.length ≤ 1000000) (hp : ¬ pf M r = 0) :
    Calls Tryd.prog 6 #[.pointer (some ⟨b, 0, none⟩), agQ r] w fun e w' => e = .returned (.iface 49 (.int .i64 (pf M r))) ∧ ∃ v', Qs w' b v' M ∧ Kp b v v' w w' :=
  (push_any w b v M r h hM hl).mono (fun e w' ⟨he, v', M', q1, q2, q3⟩ => by
    unfold pus at q3
    rw [if_neg hp] at q3
    unfold fault at he
    rw [if_neg hp] at he
    exact ⟨he, v', by rw [← q3]; exact q1, q2⟩)
theorem pop_yes (w : World) (b : Nat) (v : Value) (x : Rq) (M : List Rq) (h : Qs w b v (x :: M)) (hl : (x :: M).length ≤ 1000000) :
    Calls Tryd.prog 7 #[.pointer (some ⟨b, 0, none⟩)] w fun e w' => e = .returned (.tuple #[agQ x, .nilIface]) ∧ ∃ v', Qs w' b v' M ∧ Kp b v v' w w' :=
  (pop_any w b v (x :: M) h hl).mono (fun e w' ⟨he, v', M', q1, q2, q3⟩ => ⟨by rw [he]; simp [hdQ, eQ, fault], v', by rw [← show M' = M from q3]; exact q1, q2⟩)
theorem pop_no (w : World) (b : Nat) (v : Value) (h : Qs w b v []) :
    Calls Tryd.prog 7 #[.pointer (some ⟨b, 0, none⟩)] w fun e w' => e = .returned (.tuple #[agQ zq, .iface 49 (.int .i64 5)]) ∧ ∃ v', Qs w' b v' [] ∧ Kp b v v' w w' :=
  (pop_any w b v [] h (by simp)).mono (fun e w' ⟨he, v', M', q1, q2, q3⟩ => ⟨he, v', by rw [← show M' = [] from q3]; exact q1, q2⟩)
theorem pf_in {M : List Rq} {r : Rq} (h : pf M r = 0) : r ∉ M ∧ M.length < 400 := by
  unfold pf at h
  split at h
  · cases h
  · split at h
    · cases h
    · split at h
      · cases h
      · rename_i h1 h2 h3
        exact ⟨hasQ_not.1 (by simpa using h2), by omega⟩
theorem put_len0 {M : List Rq} {r : Rq} (h : Rs M) (hr : r ∉ M) : (put M r).length = M.length + 1 := by
  obtain ⟨p, hp⟩ : ∃ p, Fnd M r p := by
    refine ⟨(M.filter (fun x => decide (oc x r < 0))).length, ?_⟩
    have hsub : ∀ N : List Rq, Rs N → Fnd N r (N.filter (fun x => decide (oc x r < 0))).length := by
      intro N
      induction N with
      | nil => intro _; exact ⟨by simp, fun a ha => by simp at ha, fun a _ ha => by simp at ha⟩
      | cons y N ih =>
        intro hN
        have hc := List.pairwise_cons.1 hN
        have k := ih hc.2
        by_cases hy : oc y r < 0
        · rw [List.filter_cons_of_pos (by simpa using hy), List.length_cons]
          refine ⟨by have := k.le; simpa using this, fun a ha => ?_, fun a h1 h2 => ?_⟩
          · rcases a with _ | a
            · simpa using hy
            · simpa using k.lo a (by omega)
          · rcases a with _ | a
            · omega
            · simpa using k.hi a (by omega) (by simpa using h2)
        · have hall : ∀ z ∈ N, ¬ oc z r < 0 := fun z hz q => hy (oc_cm.tr _ _ _ (hc.1 z hz) q)
          have e0 : (y :: N).filter (fun x => decide (oc x r < 0)) = [] := by
            rw [List.filter_eq_nil_iff]
            intro z hz
            rcases List.mem_cons.1 hz with rfl | hz
            · simpa using hy
            · simpa using hall z hz
          rw [e0]
          refine ⟨by simp, fun a ha => by simp at ha, fun a _ h2 => ?_⟩
          rcases a with _ | a
          · simp only [List.getD_cons_zero]; omega
          · have : (N.getD a zq) ∈ N := getD_mem (by simpa using h2)
            have := hall _ this
            simp only [List.getD_cons_succ]; omega
    exact hsub M h
  exact put_len h hp hr
/-- The two rings of the fact. -/
def fa : Rq := (5, ⟨#[98]⟩, 0, 0, 0)
def fb : Rq := (5, ⟨#[97]⟩, 0, 0, 0)
theorem fab : oc fb fa < 0 ∧ oc fa fb = 1 := by
  constructor
  · unfold oc fa fb cmi cms
    rw [ByteArray.toList_eq, ByteArray.toList_eq]
    decide
  · unfold oc fa fb cmi cms
    rw [ByteArray.toList_eq, ByteArray.toList_eq]
    decide
theorem f_one : pf [] fa = 0 ∧ put [] fa = [fa] := ⟨by unfold pf fa; simp [ist, hasQ], by simp [put]⟩
theorem f_two : pf [fa] fb = 0 ∧ put [fa] fb = [fb, fa] := by
  have h := fab
  have h2 : ¬ oc fa fb = 0 := by rw [h.2]; decide
  constructor
  · unfold pf
    have e1 : ist fb.1 = true := by decide
    have e2 : hasQ [fa] fb = false := by unfold hasQ; simp [h2]
    rw [e1, e2]
    simp
  · unfold put
    simp [h.2]
end Go.Proofs.YtkdmdkjkabfiaaaDoor.Qu
