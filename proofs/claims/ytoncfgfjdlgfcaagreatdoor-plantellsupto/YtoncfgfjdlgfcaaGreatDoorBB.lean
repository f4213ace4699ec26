/-
  Texts of our own that serve the card of this claim, joined into one.
-/
import Derived.Test.YtoncfgfjdlgfcaaGreatDoorPU
import Derived.Test.YtoncfgfjdlgfcaaGreatDoorBA
namespace Go.Proofs.YtoncfgfjdlgfcaaGreatDoor.Cal
def mon (n:Int):Int:=n - (n - 1) % 7
def wd (n:Int):Int:=(n - 1) % 7 + 1
def fst (y:Int):Int:=mon (bef y + 4)
theorem wd_bd (n:Int):1≤wd n∧wd n≤7:=by unfold wd;omega
theorem mon_bd (n:Int):mon n≤n∧n≤mon n + 6:=by unfold mon;omega
theorem num_first (y:Int):num y 1 1=bef y + 1:=by simp [num,cum]
theorem ok_first {y m:Int} (h1:1900≤y) (h2:y≤2199) (a:1≤m) (b:m≤12):okD y m 1:=⟨h1,h2,a,b,by omega,by have:=ml_bd y m;omega⟩
def cnt (size a:Int):Int:=(size - a - 1) / 7 + 1
def trn (N c:Int):Int:=if N<0 then N + (c + 1) else N
end Go.Proofs.YtoncfgfjdlgfcaaGreatDoor.Cal
namespace Go.Proofs.YtoncfgfjdlgfcaaGreatDoor
open Go.RowKit Cal
end Go.Proofs.YtoncfgfjdlgfcaaGreatDoor
namespace Go.Proofs.YtoncfgfjdlgfcaaGreatDoor
open Go.RowKit Cal
theorem weekday_wd (n:Int) (w:World) (h1:1≤n) (h2:n≤109573) :
 Calls Tryz.prog 284 #[.int .i64 n] w fun e w'=>e=.returned (.tuple #[.int .i64 (wd n),.nilIface])∧w'=w:=weekday_yes n w h1 h2
end Go.Proofs.YtoncfgfjdlgfcaaGreatDoor
namespace Go.Proofs.YtoncfgfjdlgfcaaGreatDoor
open Go.RowKit Cal
theorem two_kept {W w1:World} (t:TypeId) (hb:Below ((W.alloc (.cells #[.int .i64 0,.int .i64 0] t)).alloc (.cells #[.int .i64 0,.int .i64 0] t)).heap.size ((W.alloc (.cells #[.int .i64 0,.int .i64 0] t)).alloc (.cells #[.int .i64 0,.int .i64 0] t)) w1) :
 (w1.cell? ⟨W.heap.size,0,none⟩=some (.int .i64 0)∧w1.cell? ⟨W.heap.size,1,none⟩=some (.int .i64 0)∧w1.cell? ⟨W.heap.size + 1,0,none⟩=some (.int .i64 0)∧w1.cell? ⟨W.heap.size + 1,1,none⟩=some (.int .i64 0))∧
 (w1.frozen? ⟨W.heap.size,0,none⟩=false∧w1.frozen? ⟨W.heap.size,1,none⟩=false∧w1.frozen? ⟨W.heap.size + 1,0,none⟩=false∧w1.frozen? ⟨W.heap.size + 1,1,none⟩=false)∧W.heap.size<w1.heap.size∧W.heap.size + 1<w1.heap.size:=by
 obtain ⟨c,f⟩:=bcell hb
 refine ⟨⟨?_,?_,?_,?_⟩,⟨?_,?_,?_,?_⟩,?_,?_⟩
 ·rw [c _ _ (by simp;omega)];simp
 ·rw [c _ _ (by simp;omega)];simp
 ·rw [c _ _ (by simp)];simp
 ·rw [c _ _ (by simp)];simp
 ·rw [f _ _ (by simp;omega)];simp
 ·rw [f _ _ (by simp;omega)];simp
 ·rw [f _ _ (by simp)];simp
 ·rw [f _ _ (by simp)];simp
 ·have:=hb.size;simp at this;omega
 ·have:=hb.size;simp at this;omega
theorem two_below {W w1:World} (t:TypeId) (hb:Below ((W.alloc (.cells #[.int .i64 0,.int .i64 0] t)).alloc (.cells #[.int .i64 0,.int .i64 0] t)).heap.size ((W.alloc (.cells #[.int .i64 0,.int .i64 0] t)).alloc (.cells #[.int .i64 0,.int .i64 0] t)) w1):Below W.heap.size W w1:=
 (((Below.refl _ _).alloc (Nat.le_refl _) _).alloc (by simp) _).trans (hb.mono (by simp;omega))
set_option maxHeartbeats 2000000 in
theorem which_yes (n:Int) (w:World) (hT:Tab w) (h1:1≤n) (h2:n≤109573) :
 Calls Tryz.prog 268 #[.int .i64 n] w fun e w'=>e=.returned (.tuple #[.agg #[.int .i64 ((da n - 1) / 7 + 1),.int .i64 (wd n)],.agg #[.int .i64 (-((ml (yr n) (mo n) - da n) / 7) - 1),.int .i64 (wd n)],.nilIface])∧Below w.heap.size w w':=by
 obtain ⟨y1,y2,m1,m2,d1,d2⟩:=date_ok h1 h2
 have lb:=ml_bd (yr n) (mo n)
 have T0:=(hT.alloc (.cells #[.int .i64 0,.int .i64 0] 158)).alloc (.cells #[.int .i64 0,.int .i64 0] 158)
 go_enter Tryz.func268,Tryz.ntmps268
 go_wp2_with fail
 refine (date_yes n _ T0 h1 h2).mono ?_
 rintro e w1 ⟨rfl,hb⟩
 obtain ⟨⟨c1,c2,c3,c4⟩,⟨f1,f2,f3,f4⟩,s1,s2⟩:=two_kept _ hb
 have B1:=two_below _ hb
 have T2:=(T0.below hb).alloc (.cells #[.int .i64 (yr n),.int .i64 (mo n),.int .i64 (da n)] 88)
 clear hb T0
 go_wp2_with fail
 refine (weekday_wd n _ h1 h2).mono ?_
 rintro e w2 ⟨rfl,hw⟩
 subst hw
 go_wp2_with fail
 refine (days_yes (yr n) (mo n) _ T2 y1 y2 m1 m2).mono ?_
 rintro e w3 ⟨rfl,hw⟩
 subst hw
 go_wp2_with fail
 go_quiet (fail)
 go_wp2
 refine bodyPost_ret (v:=.tuple #[.agg #[.int .i64 ((da n - 1) / 7 + 1),.int .i64 (wd n)],.agg #[.int .i64 (-((ml (yr n) (mo n) - da n) / 7) - 1),.int .i64 (wd n)],.nilIface]) (by simp [results,Tryz.results268,go_sem,s1,s2,c1,c2,c3,c4]) rfl ⟨rfl,?_⟩
 repeat (first | exact B1 | refine Below.setCell ?_ (by first | omega | (simp <;> omega)) _ | refine Below.alloc ?_ (by first | omega | (simp <;> omega)) _ | refine below_drewN ?_ _)
end Go.Proofs.YtoncfgfjdlgfcaaGreatDoor
