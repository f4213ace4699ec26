/-
  What is proved here: what slices.Insert answers at a row of rings that has no room, and at any (contracts over the translation).
-/
import Derived.Test.YtpnbnnndpbjgmaaDoorQuIns
namespace Go.Proofs.YtpnbnnndpbjgmaaDoor.Qu
open Go.RowKit

theorem zero_at (n : Nat) : Builtin.zeroCells (Value.agg #[.int .i64 0, .string ⟨#[]⟩, .int .i64 0, .int .i64 0, .int .i64 0]).cells n = (zrs n).toArray := by
  have h := zero_cells n
  rw [← h]
  simp [zr5]
end Go.Proofs.YtpnbnnndpbjgmaaDoor.Qu
