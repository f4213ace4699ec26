/-
  What is proved here: what ClockTells's walks share: how an error is told, and that clock.Parse and the document's Read answer alike (contracts over the translation).
-/
import Derived.Test.YtdiijpjfkgnjkaaDoorRefSpan2
import Derived.Test.YtdiijpjfkgnjkaaDoorErrT
namespace Go.Proofs.YtdiijpjfkgnjkaaDoor
open Go.RowKit Cal Txt

/-- What a long law carries from call to call. -/
def KeepT (w W : World) : Prop := KeepC w W ∧ ErrTy W
theorem KeepT.on {w W W' : World} (h : KeepT w W) (b : Below W.heap.size W W') : KeepT w W' := ⟨h.1.on b, h.2.below b⟩
theorem KeepT.alloc {w W : World} (h : KeepT w W) (o : Obj) : KeepT w (W.alloc o) := h.on ((Below.refl _ _).alloc (Nat.le_refl _) _)
theorem parse_both (s : ByteArray) : ∃ p f : Int,
    (∀ w : World, Tab w → Calls Tryd.prog 26 #[.string s] w fun e w' => e = .returned (.tuple #[.int .i64 p, fault f]) ∧ Below w.heap.size w w') ∧
    (∀ w : World, Calls Tryd.prog 25 #[.string s] w fun e w' => e = .returned (.tuple #[.int .i64 p, .int .i64 f]) ∧ Below w.heap.size w w') := by
  rcases hf : frm s.data.toList with _ | _
  · exact ⟨0, 2, fun w hT => parse_bad s w hf, fun w => read_bad s w hf⟩
  · by_cases hg : good s.data.toList
    · refine ⟨raw s.data.toList, 0, fun w hT => parse_yes s w hT hf hg, fun w => (read_form s w hf).mono ?_⟩
      rintro e w' ⟨⟨_, he⟩ | ⟨hn, _⟩, hb⟩
      · exact ⟨he, hb⟩
      · exact absurd hg hn
    · refine ⟨0, 1, fun w hT => ?_, fun w => (read_form s w hf).mono ?_⟩
      · by_cases hm : nm s.data.toList 14 16 ≤ 59
        · exact parse_none s w hT hf hm hg
        · exact parse_min s w hT hf hm
      · rintro e w' ⟨⟨hn, _⟩ | ⟨_, he⟩, hb⟩
        · exact absurd hn hg
        · exact ⟨he, hb⟩
end Go.Proofs.YtdiijpjfkgnjkaaDoor
