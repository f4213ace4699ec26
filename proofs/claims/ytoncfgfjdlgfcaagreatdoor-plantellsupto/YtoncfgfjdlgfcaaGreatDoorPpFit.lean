/-
  What is proved here: the walk of chimelaw2.PlanFits: it returns true for every two zones, lists of events and three numbers, and turns nothing that was there; the table of months, and what slices.SortFunc does, are asked as premises.
-/
import Derived.Test.YtoncfgfjdlgfcaaGreatDoorPF
import Derived.Test.YtoncfgfjdlgfcaaGreatDoorRA
import Derived.Deep.Cut
import Derived.Deep.CutRange
import Derived.BigQuiet
namespace Go.Proofs.YtoncfgfjdlgfcaaGreatDoor.Pp
open Go.RowKit Bz Cal Txt
theorem zz_boxes (w:World) (a:Int) (l:List (Int × Int)) (sa:Option Addr) (sc:Nat) (b:Int) (m:List (Int × Int)) (sb:Option Addr) (sd:Nat):∃ W,W=(w.alloc (.cells #[.int .i64 a,.slice sa l.length sc] 24)).alloc (.cells #[.int .i64 b,.slice sb m.length sd] 24)∧Below w.heap.size w W∧ZBx W w.heap.size a (.slice sa l.length sc)∧ZBx W (w.heap.size + 1) b (.slice sb m.length sd):=by
 obtain ⟨W1,hW1⟩:∃ W1,W1=w.alloc (.cells #[.int .i64 a,.slice sa l.length sc] 24):=⟨_,rfl⟩
 have g0:ZBx W1 w.heap.size a (.slice sa l.length sc):=by rw [hW1];constructor <;> simp
 have z1:W1.heap.size=w.heap.size + 1:=by rw [hW1,World.size_alloc]
 have b1:Below w.heap.size w W1:=by rw [hW1];exact (Below.refl _ _).alloc (Nat.le_refl _) _
 have g1:ZBx (W1.alloc (.cells #[.int .i64 b,.slice sb m.length sd] 24)) (w.heap.size + 1) b (.slice sb m.length sd):=by rw [← z1];constructor <;> simp
 exact ⟨_,by rw [hW1],b1.alloc b1.size _,g0.on ((Below.refl _ _).alloc (Nat.le_refl _) _),g1⟩
theorem bel_dn {n0:Nat} {w W:World} (h:Below n0 w W) (n:Nat):Below n0 w (W.drewN n):=⟨h.os,h.tape,h.output,h.size,h.block⟩
abbrev tw {α:Type} (x y:α):Nat→α
 | 0=>x
 | _=>y
end Go.Proofs.YtoncfgfjdlgfcaaGreatDoor.Pp
