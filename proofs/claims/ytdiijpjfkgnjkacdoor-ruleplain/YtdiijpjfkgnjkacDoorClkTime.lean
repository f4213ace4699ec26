/-
  What is proved here: what clock.Time and Print answer, for every input (contracts over the translation); the tables are asked as premises.
-/
import Derived.Test.YtdiijpjfkgnjkacDoorMem
namespace Go.Proofs.YtdiijpjfkgnjkacDoor
open Go.RowKit Cal Txt

theorem print_no (t : Int) (w : World) (h : ¬ (1 ≤ t ∧ t ≤ 157785119)) :
    Calls Tryd.prog 37 #[.int .i64 t] w fun e w' => e = .returned (.tuple #[.string ⟨#[]⟩, errRange]) ∧ Below w.heap.size w w' := by
  have H : Hid (¬ (1 ≤ t ∧ t ≤ 157785119)) := h
  clear h
  go_enter Tryd.func37, Tryd.ntmps37
  go_wp2_with fail
  refine (split_no t _ H.out).mono ?_
  rintro e w1 ⟨rfl, hb⟩
  subst hb
  go_wp2
  go_ret2
  exact ⟨rfl, Below.refl _ _⟩
theorem print_eq (a b c d e : List UInt8) : (⟨a.toArray⟩ : ByteArray) ++ ⟨#[45]⟩ ++ ⟨b.toArray⟩ ++ ⟨#[45]⟩ ++ ⟨c.toArray⟩ ++ ⟨#[32]⟩ ++ ⟨d.toArray⟩ ++ ⟨#[58]⟩ ++ ⟨e.toArray⟩ = ⟨(a ++ [45] ++ b ++ [45] ++ c ++ [32] ++ d ++ [58] ++ e).toArray⟩ := by
  apply ByteArray.ext; simp
end Go.Proofs.YtdiijpjfkgnjkacDoor
