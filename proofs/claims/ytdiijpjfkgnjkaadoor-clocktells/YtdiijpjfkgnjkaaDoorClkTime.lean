/-
  What is proved here: what clock.Time and Print answer, for every input (contracts over the translation); the tables are asked as premises.
-/
import Derived.Test.YtdiijpjfkgnjkaaDoorMem
namespace Go.Proofs.YtdiijpjfkgnjkaaDoor
open Go.RowKit Cal Txt

set_option maxHeartbeats 1000000 in
theorem time_yes (y m d i : Int) (w : World) (hT : Tab w) (h : okD y m d) (h0 : 0 ≤ i) (h1 : i ≤ 1439) (hp : 1 ≤ (num y m d - 1) * 1440 + i) :
    Calls Tryd.prog 20 #[.agg #[.int .i64 y, .int .i64 m, .int .i64 d], .int .i64 i] w fun e w' => e = .returned (.tuple #[.int .i64 ((num y m d - 1) * 1440 + i), .nilIface]) ∧ Below w.heap.size w w' := by
  have nb := num_bd h
  have hi := ist_yes hp (by omega)
  have H : Hid (okD y m d) := h
  clear h
  go_enter Tryd.func20, Tryd.ntmps20
  go_wp2_with fail
  refine (of_yes y m d _ (hT.alloc _) H.out).mono ?_
  rintro e w1 ⟨rfl, hb⟩
  go_wp2_with (go_at_call 38; refine (isTime_any _ _).mono ?_; rintro e w' ⟨rfl, rfl⟩)
  go_ret2
  exact ⟨rfl, ((Below.refl _ _).alloc (Nat.le_refl _) _).trans (hb.mono (by simp))⟩
set_option maxHeartbeats 1000000 in
theorem time_no (y m d i : Int) (w : World) (hT : Tab w) (h : ¬ (okD y m d ∧ 0 ≤ i ∧ i ≤ 1439 ∧ 1 ≤ (num y m d - 1) * 1440 + i)) :
    Calls Tryd.prog 20 #[.agg #[.int .i64 y, .int .i64 m, .int .i64 d], .int .i64 i] w fun e w' => e = .returned (.tuple #[.int .i64 0, errRange]) ∧ Below w.heap.size w w' := by
  by_cases ho : okD y m d
  · have nb := num_bd ho
    have H : Hid (okD y m d) := ho
    have hc : i < 0 ∨ (0 ≤ i ∧ 1440 ≤ i) ∨ (0 ≤ i ∧ i < 1440 ∧ (num y m d - 1) * 1440 + i < 1) := by
      by_cases a : i < 0
      · exact Or.inl a
      by_cases b : 1440 ≤ i
      · exact Or.inr (Or.inl ⟨by omega, b⟩)
      · refine Or.inr (Or.inr ⟨by omega, by omega, ?_⟩)
        rcases Int.lt_or_le ((num y m d - 1) * 1440 + i) 1 with q | q
        · exact q
        · exact absurd ⟨ho, by omega, by omega, q⟩ h
    clear h ho
    rcases hc with c | ⟨c, c'⟩ | ⟨c, c', c''⟩
    · go_enter Tryd.func20, Tryd.ntmps20
      go_wp2_with fail
      refine (of_yes y m d _ (hT.alloc _) H.out).mono ?_
      rintro e w1 ⟨rfl, hb⟩
      go_wp2
      go_ret2
      exact ⟨rfl, ((Below.refl _ _).alloc (Nat.le_refl _) _).trans (hb.mono (by simp))⟩
    · go_enter Tryd.func20, Tryd.ntmps20
      go_wp2_with fail
      refine (of_yes y m d _ (hT.alloc _) H.out).mono ?_
      rintro e w1 ⟨rfl, hb⟩
      go_wp2
      go_ret2
      exact ⟨rfl, ((Below.refl _ _).alloc (Nat.le_refl _) _).trans (hb.mono (by simp))⟩
    · have hi := ist_no (t := (num y m d - 1) * 1440 + i) (by omega)
      go_enter Tryd.func20, Tryd.ntmps20
      go_wp2_with fail
      refine (of_yes y m d _ (hT.alloc _) H.out).mono ?_
      rintro e w1 ⟨rfl, hb⟩
      go_wp2_with (go_at_call 38; refine (isTime_any _ _).mono ?_; rintro e w' ⟨rfl, rfl⟩)
      go_ret2
      exact ⟨rfl, ((Below.refl _ _).alloc (Nat.le_refl _) _).trans (hb.mono (by simp))⟩
  · have H : Hid (¬ okD y m d) := ho
    clear h ho
    go_enter Tryd.func20, Tryd.ntmps20
    go_wp2_with fail
    refine (of_no y m d _ (hT.alloc _) H.out).mono ?_
    rintro e w1 ⟨rfl, hb⟩
    go_wp2
    go_ret2
    exact ⟨rfl, ((Below.refl _ _).alloc (Nat.le_refl _) _).trans (hb.mono (by simp))⟩
theorem print_no (t : Int) (w : World) (h : ¬ (1 ≤ t ∧ t ≤ 157785119)) :
    Calls Tryd.prog 24 #[.int .i64 t] w fun e w' => e = .returned (.tuple #[.string ⟨#[]⟩, errRange]) ∧ Below w.heap.size w w' := by
  have H : Hid (¬ (1 ≤ t ∧ t ≤ 157785119)) := h
  clear h
  go_enter Tryd.func24, Tryd.ntmps24
  go_wp2_with fail
  refine (split_no t _ H.out).mono ?_
  rintro e w1 ⟨rfl, hb⟩
  subst hb
  go_wp2
  go_ret2
  exact ⟨rfl, Below.refl _ _⟩
theorem print_eq (a b c d e : List UInt8) : (⟨a.toArray⟩ : ByteArray) ++ ⟨#[45]⟩ ++ ⟨b.toArray⟩ ++ ⟨#[45]⟩ ++ ⟨c.toArray⟩ ++ ⟨#[32]⟩ ++ ⟨d.toArray⟩ ++ ⟨#[58]⟩ ++ ⟨e.toArray⟩ = ⟨(a ++ [45] ++ b ++ [45] ++ c ++ [32] ++ d ++ [58] ++ e).toArray⟩ := by
  apply ByteArray.ext; simp
end Go.Proofs.YtdiijpjfkgnjkaaDoor
