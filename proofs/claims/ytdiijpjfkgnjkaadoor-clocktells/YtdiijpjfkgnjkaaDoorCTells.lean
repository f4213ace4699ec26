/-
  What is proved here: the walk of chimelaw1.ClockTells, for every input: it returns true, and turns nothing that was there; the tables are asked as premises.
-/
import Derived.Test.YtdiijpjfkgnjkaaDoorCTells1
import Derived.Test.YtdiijpjfkgnjkaaDoorCTells2
import Derived.Test.YtdiijpjfkgnjkaaDoorCTells3
import Derived.Test.YtdiijpjfkgnjkaaDoorCTells4
import Derived.Test.YtdiijpjfkgnjkaaDoorCTells5
namespace Go.Proofs.YtdiijpjfkgnjkaaDoor
open Go.RowKit Cal Txt

theorem ctells (y m d i t n : Int) (s u : ByteArray) (w : World) (K : KeepT w w) (hu : u.size ≤ maxLen) :
    Calls Tryd.prog 6 #[.agg #[.int .i64 y, .int .i64 m, .int .i64 d], .int .i64 i, .int .i64 t, .string s, .int .i64 n, .string u] w fun e w' => e = .returned (.bool true) ∧ Below w.heap.size w w' := by
  by_cases ho : okD y m d
  · by_cases i0 : i < 0
    · exact ctells_low y m d i t n s u w K hu ho i0
    by_cases i1 : 1439 < i
    · exact ctells_high y m d i t n s u w K hu ho (by omega) i1
    by_cases i2 : 0 < num y m d - 1 + i
    · exact ctells_yes y m d i t n s u w K hu ho (by omega) (by omega) i2
    · exact ctells_first y m d i t n s u w K hu ho (by omega) (by omega) i2
  · exact ctells_bad y m d i t n s u w K hu ho
end Go.Proofs.YtdiijpjfkgnjkaaDoor
