/-
  Texts of our own that serve the card of this claim, joined into one.
-/
import Derived.Test.YtoncfgfjdlgfcaaGreatDoorLow
import Derived.Test.YtoncfgfjdlgfcaaGreatDoorBT
import Derived.Test.YtoncfgfjdlgfcaaGreatDoorRM
namespace Go.Proofs.YtoncfgfjdlgfcaaGreatDoor
open Go.RowKit Cal
theorem refLeap_any (y:Int) (w:World) :
 Calls Tryz.prog 49 #[.int .i64 y] w fun e w'=>e=.returned (.bool (lp y))∧w'=w:=by
 go_enter Tryz.func49,Tryz.ntmps49
 go_wp2
 ·go_ret;exact ⟨ret_bool (lp_t1 ‹_› ‹_›),rfl⟩
 ·go_ret;exact ⟨ret_bool (lp_t2 ‹_› ‹_›),rfl⟩
 ·go_ret;exact ⟨ret_bool (lp_t3 ‹_›),rfl⟩
theorem refDays_no (y m:Int) (w:World) (h:¬ (1900≤y∧y≤2199∧1≤m∧m≤12)) :
 Calls Tryz.prog 19 #[.int .i64 y,.int .i64 m] w fun e w'=>e=.returned (.int .i64 0)∧w'=w:=by
 have hc:y<1900∨(1900≤y∧2199<y)∨(1900≤y∧y≤2199∧m<1)∨(1900≤y∧y≤2199∧1≤m∧12<m):=by omega
 clear h
 rcases hc with h | ⟨h,g⟩ | ⟨h,g,k⟩ | ⟨h,g,k,l⟩
 all_goals
  go_enter Tryz.func19,Tryz.ntmps19
  go_wp2
  go_ret
  exact ⟨rfl,rfl⟩
set_option maxHeartbeats 2000000 in
theorem refDays_yes (y m:Int) (w:World) (a1:1900≤y) (a2:y≤2199) (h1:1≤m) (h2:m≤12) :
 Calls Tryz.prog 19 #[.int .i64 y,.int .i64 m] w fun e w'=>e=.returned (.int .i64 (ml y m))∧w'=w:=by
 by_cases hm2:m=2
 ·subst hm2
  rcases hl:lp y with _ | _
  all_goals
   go_enter Tryz.func19,Tryz.ntmps19
   go_wp2_with (go_at_call 49;refine (refLeap_any _ _).mono ?_;rintro e w' ⟨rfl,rfl⟩)
   go_ret
   exact ⟨ret_int (by simp [ml,lx,hl]),rfl⟩
 ·have hc:m=4∨m=6∨m=9∨m=11∨(¬ m=4∧¬ m=6∧¬ m=9∧¬ m=11):=by omega
  rcases hc with rfl | rfl | rfl | rfl | ⟨g1,g2,g3,g4⟩
  case inr.inr.inr.inr=>
   have E:ml y m=31:=by unfold ml md;rw [if_neg hm2,if_neg (by omega),if_neg (by omega)]
   rw [E]
   clear E
   have b1:(m == 4)=false:=by simp [g1]
   have b2:(m == 6)=false:=by simp [g2]
   have b3:(m == 9)=false:=by simp [g3]
   have b4:(m == 11)=false:=by simp [g4]
   have b5:(m == 2)=false:=by simp [hm2]
   go_enter Tryz.func19,Tryz.ntmps19
   go_wp2_with (go_at_call 49;refine (refLeap_any _ _).mono ?_;rintro e w' ⟨rfl,rfl⟩)
   go_ret
   exact ⟨rfl,rfl⟩
  all_goals
   go_enter Tryz.func19,Tryz.ntmps19
   go_wp2
   go_ret
   exact ⟨ret_int (by simp [ml,md]),rfl⟩
theorem ahead_any (y:Int) (w:World) (h0:1≤y) (h1:y≤10000) :
 Calls Tryz.prog 101 #[.int .i64 y] w fun e w'=>e=.returned (.int .i64 (bef y))∧w'=w:=by
 go_enter Tryz.func101,Tryz.ntmps101
 go_wp2
 go_ret
 exact ⟨ret_int (by unfold bef;omega),rfl⟩
theorem refWeekday_any (n:Int) (w:World) (h1:1≤n) (h2:n≤109573) :
 Calls Tryz.prog 234 #[.int .i64 n] w fun e w'=>e=.returned (.int .i64 ((n - 1) % 7 + 1))∧w'=w:=by
 go_enter Tryz.func234,Tryz.ntmps234
 go_wp2
 go_ret
 exact ⟨rfl,rfl⟩
theorem refOf_no (y m d:Int) (w:World) (h:¬ okD y m d) :
 Calls Tryz.prog 55 #[.agg #[.int .i64 y,.int .i64 m,.int .i64 d]] w fun e w'=>e=.returned (.int .i64 0)∧Below w.heap.size w w':=by
 by_cases hb:1900≤y∧y≤2199∧1≤m∧m≤12
 ·obtain ⟨a,b,c,g⟩:=hb
  have hd:d<1∨(1≤d∧ml y m<d):=by unfold okD at h;omega
  clear h
  rcases hd with k | ⟨k,l⟩
  all_goals
   go_enter Tryz.func55,Tryz.ntmps55
   go_wp2_with (go_at_call 19;refine (refDays_yes _ _ _ a b c g).mono ?_;rintro e w' ⟨rfl,rfl⟩)
   go_ret
   exact ⟨rfl,(Below.refl _ _).alloc (Nat.le_refl _) _⟩
 ·clear h
  have hd:d<1∨(1≤d∧0<d):=by omega
  rcases hd with k | ⟨k,l⟩
  all_goals
   go_enter Tryz.func55,Tryz.ntmps55
   go_wp2_with (go_at_call 19;refine (refDays_no _ _ _ hb).mono ?_;rintro e w' ⟨rfl,rfl⟩)
   go_ret
   exact ⟨rfl,(Below.refl _ _).alloc (Nat.le_refl _) _⟩
set_option maxHeartbeats 1000000 in
theorem refOf_yes (y m d:Int) (w:World) (h:okD y m d) :
 Calls Tryz.prog 55 #[.agg #[.int .i64 y,.int .i64 m,.int .i64 d]] w fun e w'=>e=.returned (.int .i64 (num y m d))∧Below w.heap.size w w':=by
 have hb:=bef_bd y h.1 (by have:=h.2.1;omega)
 have hml:=ml_bd y m
 obtain ⟨a,b,c,g,k,l⟩:=h
 go_enter Tryz.func55,Tryz.ntmps55
 go_wp2_with (go_at_call 19;refine (refDays_yes _ _ _ a b c g).mono ?_;rintro e w' ⟨rfl,rfl⟩)
 go_quiet ((go_at_call 101;exact Calls.quiet_of_same (ahead_any _ _ (by omega) (by omega))))
 go_wp2
 go_loop [4,5] (fun s i=>∃ k:Int,1≤k∧k≤m∧i=.int .i64 k∧s=.int .i64 (d + bef y + cum y k)) (fun _ i=>(13 - intOf i).toNat)
 case atStart=>exact ⟨1,by omega,by omega,rfl,by rw [cum_one];simp⟩
 case round=>
  obtain ⟨k,k1,k2,rfl,rfl⟩:=hrel
  have cb:=cum_bd y k k1 (by omega)
  have mb:=ml_bd y k
  have CS:Hid (cum y (k + 1)=cum y k + ml y k):=cum_succ y k k1 (by omega)
  by_cases hlt:k<m
  ·have k12:k≤12:=by omega
   go_wp2_with (go_at_call 19;refine (refDays_yes _ _ _ a b k1 k12).mono ?_;rintro e w' ⟨rfl,rfl⟩)
   go_round
   case rel=>exact ⟨k + 1,by omega,by omega,rfl,by rw [CS.out];go_num⟩
   case measure=>simp [intOf];omega
  ·have hk:k=m:=by omega
   subst hk
   go_wp2
   go_ret
   exact ⟨ret_int (by unfold num;omega),below_drewN ((Below.refl _ _).alloc (Nat.le_refl _) _) _⟩
set_option maxHeartbeats 2000000 in
theorem refDate_yes (n:Int) (w:World) (h1:1≤n) (h2:n≤109573) :
 Calls Tryz.prog 188 #[.int .i64 n] w fun e w'=>e=.returned (.tuple #[.agg #[.int .i64 (yr n),.int .i64 (mo n),.int .i64 (da n)],.bool true])∧Below w.heap.size w w':=by
 obtain ⟨g1,g2,g3⟩:=guess n h1 h2
 go_enter Tryz.func188,Tryz.ntmps188
 go_wp2
 go_loop [4] (fun t=>∃ y:Int,1900≤y∧y≤2199∧bef y<n∧t=.int .i64 y) (fun t=>(2200 - intOf t).toNat)
 case atStart=>exact ⟨_,g1,g2,g3,rfl⟩
 case round=>
  clear g1 g2 g3
  obtain ⟨y,a,b,c,rfl⟩:=hrel
  by_cases hlt:bef (y + 1)<n
  ·have hy:y<2199:=by
    rcases Int.lt_or_le y 2199 with q | q
    ·exact q
    ·have:y=2199:=by omega
     subst this
     have e:bef (2199 + 1)=109573:=bef_last
     omega
   go_wp2_with (go_at_call 101;refine (ahead_any _ _ (by omega) (by omega)).mono ?_;rintro e w' ⟨rfl,rfl⟩)
   go_round
   case rel=>exact ⟨y + 1,by omega,by omega,hlt,rfl⟩
   case measure=>simp [intOf];omega
  ·have Y:yr n=y:=yr_of h1 h2 c (by omega)
   subst Y
   have yb:=bef_bd (yr n) a (by omega)
   have ys:=bef_succ (yr n)
   have yl:=lx_01 (yr n)
   have hr:n - bef (yr n)≤365 + lx (yr n):=by omega
   clear ys
   go_wp2_with (go_at_call 101;refine (ahead_any _ _ (by omega) (by omega)).mono ?_;rintro e w' ⟨rfl,rfl⟩)
   go_loop [0,5] (fun s t=>∃ k:Int,1≤k∧k≤12∧t=.int .i64 k∧cum (yr n) k<n - bef (yr n)∧s=.int .i64 (n - bef (yr n) - cum (yr n) k)) (fun _ t=>(13 - intOf t).toNat)
   case atStart=>exact ⟨1,by omega,by omega,rfl,by rw [cum_one];omega,by rw [cum_one];simp⟩
   case round=>
    obtain ⟨k,k1,k2,rfl,k3,rfl⟩:=hrel
    have cb:=cum_bd (yr n) k k1 (by omega)
    have mb:=ml_bd (yr n) k
    have CS:Hid (cum (yr n) (k + 1)=cum (yr n) k + ml (yr n) k):=cum_succ (yr n) k k1 k2
    by_cases hlt:ml (yr n) k<n - bef (yr n) - cum (yr n) k
    ·have hk:k<12:=by
      rcases Int.lt_or_le k 12 with q | q
      ·exact q
      ·have:k=12:=by omega
       subst this
       have e1:=CS.out
       have e2:cum (yr n) (12 + 1)=365 + lx (yr n):=cum_end (yr n)
       omega
     go_wp2_with (go_at_call 19;refine (refDays_yes _ _ _ a b k1 k2).mono ?_;rintro e w' ⟨rfl,rfl⟩)
     go_round
     case rel=>exact ⟨k + 1,by omega,by omega,rfl,by rw [CS.out];omega,by rw [CS.out];go_num⟩
     case measure=>simp [intOf];omega
    ·have D:Hid (k=mo n∧n - bef (yr n) - cum (yr n) k=da n):=date_at h1 h2 k1 k2 k3 (by omega)
     go_wp2_with (go_at_call 19;refine (refDays_yes _ _ _ a b k1 k2).mono ?_;rintro e w' ⟨rfl,rfl⟩)
     refine bodyPost_ret (v:=.tuple #[.agg #[.int .i64 (yr n),.int .i64 k,.int .i64 (n - bef (yr n) - cum (yr n) k)],.bool true]) (by simp [results,Tryz.results188,go_sem]) rfl ⟨by rw [D.out.2,D.out.1],?_⟩
     repeat (first | exact Below.refl _ _ | refine Below.setCell ?_ (Nat.le_refl _) _ | refine Below.alloc ?_ (Nat.le_refl _) _)
end Go.Proofs.YtoncfgfjdlgfcaaGreatDoor
namespace Go.Proofs.YtoncfgfjdlgfcaaGreatDoor
open Go.RowKit Cal Txt
end Go.Proofs.YtoncfgfjdlgfcaaGreatDoor
namespace Go.Proofs.YtoncfgfjdlgfcaaGreatDoor
open Go.RowKit Cal Txt
end Go.Proofs.YtoncfgfjdlgfcaaGreatDoor
namespace Go.Proofs.YtoncfgfjdlgfcaaGreatDoor
open Go.RowKit Cal Txt
set_option maxHeartbeats 1000000 in
theorem within_any (v:Value) (l:List Int) (lo hi:Int) (w:World) (hv:Ints w v l) (hl:l.length≤1000) :
 Calls Tryz.prog 100 #[v,.int .i64 lo,.int .i64 hi] w fun e w'=>e=.returned (.bool (inB lo hi l))∧w'=w:=by
 obtain ⟨a,cap,rfl,hc⟩:=hv
 rcases hc with rfl | ⟨b,off,rfl,hc⟩
 ·go_enter Tryz.func100,Tryz.ntmps100
  go_wp2
  go_loop [7] (fun i=>i=.int .i64 0) (fun _=>0)
  case atStart=>rfl
  case round=>
   subst hrel
   go_wp2
   go_ret
   exact ⟨rfl,rfl⟩
 ·have HC:=Lib.hid hc
  clear hc
  go_enter Tryz.func100,Tryz.ntmps100
  go_wp2
  go_loop [7] (fun i=>∃ k:Nat,k≤l.length∧i=.int .i64 k∧∀ j,j<k→¬ l.getD j 0=0∧lo≤l.getD j 0∧l.getD j 0≤hi) (fun i=>l.length - (intOf i).toNat)
  case atStart=>exact ⟨0,Nat.zero_le _,rfl,fun j hj=>by omega⟩
  case round=>
   obtain ⟨k,hk,rfl,hF⟩:=hrel
   have HF:=Lib.hid hF
   clear hF
   by_cases hlt:k<l.length
   ·have ck:=HC.out k hlt
    obtain ⟨x,hx⟩:∃ x,x=l.getD k 0:=⟨_,rfl⟩
    rw [← hx] at ck
    have HX:=Lib.hid hx
    clear hx
    have hcs:(x == 0)=true∨((x == 0)=false∧x<lo)∨((x == 0)=false∧lo≤x∧hi<x)∨((x == 0)=false∧lo≤x∧x≤hi):=by
     have e:(x == 0)=false↔¬ x=0:=by simp
     have e':(x == 0)=true↔x=0:=by simp
     rw [e,e'];omega
    rcases hcs with c | ⟨c,d⟩ | ⟨c,d,f⟩ | ⟨c,d,f⟩
    case inr.inr.inr=>
     have c':¬ x=0:=by simpa using c
     have N1:Hid (¬ l.getD k 0=0∧lo≤l.getD k 0∧l.getD k 0≤hi):=Lib.hid (by rw [← HX.out];exact ⟨c',d,f⟩)
     clear c'
     go_wp2
     go_round
     case rel=>exact ⟨k + 1,by omega,by go_num,fun j hj=>by
      rcases Nat.lt_or_ge j k with g | g
      ·exact HF.out j g
      ·obtain rfl:j=k:=by omega
       exact N1.out⟩
     case measure=>simp [intOf];omega
    all_goals
     have N0:Hid (inB lo hi l=false):=Lib.hid (inB_not k hlt (by rw [← HX.out];have e:(x == 0)=true→x=0:=by simp
                                                                 first | omega | (have:=e c;omega)))
     go_wp2
     go_ret
     exact ⟨ret_bool N0.out.symm,rfl⟩
   ·have N1:Hid (inB lo hi l=true):=Lib.hid (inB_iff.2 (fun j hj=>HF.out j (by omega)))
    go_wp2
    go_ret
    exact ⟨ret_bool N1.out.symm,rfl⟩
set_option maxHeartbeats 1000000 in
theorem rises_any (v:Value) (l:List Int) (w:World) (hv:Ints w v l) (hl:l.length≤1000) :
 Calls Tryz.prog 53 #[v] w fun e w'=>e=.returned (.bool (risB l))∧Below w.heap.size w w':=by
 obtain ⟨a,cap,rfl,hc⟩:=hv
 rcases hc with rfl | ⟨b,off,rfl,hc⟩
 ·go_enter Tryz.func53,Tryz.ntmps53
  go_wp2
  go_loop [3] (fun i=>i=.int .i64 1) (fun _=>0)
  case atStart=>rfl
  case round=>
   subst hrel
   go_wp2
   go_ret
   exact ⟨rfl,Below.refl _ _⟩
 ·have HC:=Lib.hid hc
  clear hc
  have R1:Hid (l.length≤1→risB l=true):=Lib.hid (fun h=>risB_iff.2 (fun j hj=>by omega))
  go_enter Tryz.func53,Tryz.ntmps53
  go_wp2
  go_loopw [3] (fun i wr=>∃ k:Nat,1≤k∧(k≤l.length∨k=1)∧i=.int .i64 k∧Below w.heap.size w wr∧(∀ i,i<l.length→wr.cell? ⟨b,off + i,none⟩=some (.int .i64 (l.getD i 0)))∧∀ j,j + 1<k→l.getD j 0<l.getD (j + 1) 0) (fun i _=>l.length - (intOf i).toNat)
  case atStart=>exact ⟨1,by omega,Or.inr rfl,rfl,Below.refl _ _,HC.out,fun j hj=>by omega⟩
  case round=>
   obtain ⟨k,k1,hk,rfl,hB,hc,hF⟩:=hrel
   have HF:=Lib.hid hF
   have HK:=Lib.hid hc
   clear hF hc
   by_cases hlt:k<l.length
   ·have ck:=HK.out k hlt
    have cj:=HK.out (k - 1) (by omega)
    obtain ⟨x,hx⟩:∃ x,x=l.getD k 0:=⟨_,rfl⟩
    obtain ⟨y,hy⟩:∃ y,y=l.getD (k - 1) 0:=⟨_,rfl⟩
    rw [← hx] at ck
    rw [← hy] at cj
    have HX:=Lib.hid hx
    have HY:=Lib.hid hy
    clear hx hy hk
    have i1:(0:Int)≤(k:Int) - 1:=by omega
    have i2:(k:Int) - 1<(l.length:Int):=by omega
    have i3:((k:Int) - 1).toNat=k - 1:=by omega
    by_cases c:y<x
    ·have N1:Hid (∀ j,j + 1<k + 1→l.getD j 0<l.getD (j + 1) 0):=Lib.hid (fun j hj=>by
      rcases Nat.lt_or_ge (j + 1) k with g | g
      ·exact HF.out j g
      ·obtain rfl:j=k - 1:=by omega
       rw [show k - 1 + 1=k by omega,← HX.out,← HY.out];exact c)
     go_wp2
     go_quiet (fail)
     go_wp2
     go_roundw
     case rel=>exact ⟨k + 1,by omega,Or.inl (by omega),by go_num,below_drewN hB _,HK.out,N1.out⟩
     case measure=>simp [intOf];omega
    ·have N0:Hid (risB l=false):=Lib.hid (risB_not (k - 1) (by omega) (by rw [show k - 1 + 1=k by omega,← HX.out,← HY.out];exact c))
     go_wp2
     go_quiet (fail)
     go_wp2
     go_ret
     exact ⟨ret_bool N0.out.symm,below_drewN hB _⟩
   ·have N1:Hid (risB l=true):=Lib.hid (risB_iff.2 (fun j hj=>HF.out j (by omega)))
    clear hk
    go_wp2
    go_ret
    exact ⟨ret_bool N1.out.symm,hB⟩
end Go.Proofs.YtoncfgfjdlgfcaaGreatDoor
