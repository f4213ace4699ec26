/-
  Texts of our own that serve the card of this claim, joined into one.
-/
import Derived.Test.YtoncfgfjdlgfcaaGreatDoorRM
import Derived.Test.YtoncfgfjdlgfcaaGreatDoorRF
import Derived.Deep.CutRange
namespace Go.Proofs.YtoncfgfjdlgfcaaGreatDoor
open Go.RowKit Cal Txt
set_option maxRecDepth 100000 in
set_option maxHeartbeats 2000000 in
theorem refRule_1 (f ev c u:Int) (am ad aw ap:Option Addr) (lm ld lw lp cm cd cw cp:Nat) (w:World) (h:¬ ((1≤f∧f≤4)∧(1≤ev∧ev≤50)∧(0≤c∧c≤200)∧(0≤u∧u≤109573))) :
 Calls Tryz.prog 51 #[.agg #[.int .i64 f,.int .i64 ev,.int .i64 c,.int .i64 u,.slice am lm cm,.slice ad ld cd,.slice aw lw cw,.slice ap lp cp]] w fun e w'=>e=.returned (.int .i64 1)∧Below w.heap.size w w':=by
 have hc:f<1∨(1≤f∧4<f)∨(1≤f∧f≤4∧ev<1)∨(1≤f∧f≤4∧1≤ev∧50<ev)∨(1≤f∧f≤4∧1≤ev∧ev≤50∧c<0)∨(1≤f∧f≤4∧1≤ev∧ev≤50∧0≤c∧200<c)∨(1≤f∧f≤4∧1≤ev∧ev≤50∧0≤c∧c≤200∧u<0)∨(1≤f∧f≤4∧1≤ev∧ev≤50∧0≤c∧c≤200∧0≤u∧109573<u):=by omega
 clear h
 rcases hc with a | ⟨a,b⟩ | ⟨a,b,d⟩ | ⟨a,b,d,e⟩ | ⟨a,b,d,e,g⟩ | ⟨a,b,d,e,g,i⟩ | ⟨a,b,d,e,g,i,j⟩ | ⟨a,b,d,e,g,i,j,k⟩
 all_goals
  go_enter Tryz.func51,Tryz.ntmps51
  go_wp2
  go_ret
  exact ⟨rfl,(Below.refl _ _).alloc (Nat.le_refl _) _⟩
set_option maxRecDepth 100000 in
set_option maxHeartbeats 2000000 in
theorem refRule_3 (f ev c u:Int) (am ad aw ap:Option Addr) (lm ld lw lp cm cd cw cp:Nat) (w:World) (h1:1≤f) (h2:f≤4) (h3:1≤ev) (h4:ev≤50) (h5:0≤c) (h6:c≤200) (h7:0≤u) (h8:u≤109573) (hc:¬ c=0) (hu:¬ u=0) :
 Calls Tryz.prog 51 #[.agg #[.int .i64 f,.int .i64 ev,.int .i64 c,.int .i64 u,.slice am lm cm,.slice ad ld cd,.slice aw lw cw,.slice ap lp cp]] w fun e w'=>e=.returned (.int .i64 3)∧Below w.heap.size w w':=by
 have b1:(c != 0)=true:=by simp [hc]
 have b2:(u != 0)=true:=by simp [hu]
 go_enter Tryz.func51,Tryz.ntmps51
 go_wp2
 go_ret
 exact ⟨rfl,(Below.refl _ _).alloc (Nat.le_refl _) _⟩
theorem not_both {c u:Int} (h:¬ (¬ c=0∧¬ u=0)):(c != 0)=false∨((c != 0)=true∧(u != 0)=false):=by
 by_cases hc:c=0
 ·exact Or.inl (by simp [hc])
 ·exact Or.inr ⟨by simp [hc],by simp;omega⟩
set_option maxRecDepth 100000 in
set_option maxHeartbeats 4000000 in
theorem refRule_4 (f ev c u:Int) (am ad aw ap:Option Addr) (lm ld lw lp cm cd cw cp:Nat) (w:World) (h1:1≤f) (h2:f≤4) (h3:1≤ev) (h4:ev≤50) (h5:0≤c) (h6:c≤200) (h7:0≤u) (h8:u≤109573) (hcu:¬ (¬ c=0∧¬ u=0))
 (h:¬ (lm≤12∧ld≤31∧lw≤20∧lp≤20)) :
 Calls Tryz.prog 51 #[.agg #[.int .i64 f,.int .i64 ev,.int .i64 c,.int .i64 u,.slice am lm cm,.slice ad ld cd,.slice aw lw cw,.slice ap lp cp]] w fun e w'=>e=.returned (.int .i64 4)∧Below w.heap.size w w':=by
 have hx:(12:Int)<lm∨((lm:Int)≤12∧(31:Int)<ld)∨((lm:Int)≤12∧(ld:Int)≤31∧(20:Int)<lw)∨((lm:Int)≤12∧(ld:Int)≤31∧(lw:Int)≤20∧(20:Int)<lp):=by omega
 clear h
 rcases not_both hcu with b | ⟨b,b'⟩
 all_goals
  clear hcu
  rcases hx with a | ⟨a,d⟩ | ⟨a,d,e⟩ | ⟨a,d,e,g⟩
  all_goals
   go_enter Tryz.func51,Tryz.ntmps51
   go_wp2
   go_ret
   exact ⟨rfl,(Below.refl _ _).alloc (Nat.le_refl _) _⟩
end Go.Proofs.YtoncfgfjdlgfcaaGreatDoor
namespace Go.Proofs.YtoncfgfjdlgfcaaGreatDoor
open Go.RowKit Cal Txt
def rf5 (r:Rl):Int:=if ok3 r=false then 1 else if wkB r.weeks=false then 1 else if ok4 r=false then 7 else if oddB r=true then 3 else 0
theorem rf5_in {r:Rl} (h:(!inB 1 12 r.months)=true∨(!inB (-31) 31 r.days)=true∨(!inB (-31) 31 r.pick)=true):rf5 r=1:=by
 have:ok3 r=false:=by unfold ok3;rcases h with h | h | h <;> simp at h <;> simp [h]
 unfold rf5;rw [if_pos this]
theorem rf5_wk {r:Rl} (k:Nat) (hk:k<r.weeks.length) (h:¬ (1≤(r.weeks.getD k (0,0)).2∧(r.weeks.getD k (0,0)).2≤7∧-5≤(r.weeks.getD k (0,0)).1∧(r.weeks.getD k (0,0)).1≤5)):rf5 r=1:=by
 have:wkB r.weeks=false:=by
  rcases e:wkB r.weeks with _ | _
  ·rfl
  ·exact absurd (wkB_iff.1 e k hk) h
 unfold rf5
 rw [if_pos this]
 split <;> rfl
theorem nb_t {nb b:Bool} (h:nb=true):true=(nb || b):=by rw [h];rfl
theorem nb_f {nb:Bool} (h:¬ nb=true) (X:Int):(X != 0)=(nb || decide (¬ X=0)):=by
 have e:nb=false:=by simpa using h
 rw [e]
 by_cases hx:X=0 <;> simp [hx]
def wrK (l:List (Int × Int)) (k:Nat):Bool:=(List.range (k - 1)).all fun i=>decide ((l.getD i (0,0)).2<(l.getD (i + 1) (0,0)).2∨((l.getD i (0,0)).2=(l.getD (i + 1) (0,0)).2∧(l.getD i (0,0)).1<(l.getD (i + 1) (0,0)).1))
theorem wrK_one (l:List (Int × Int)):wrK l 1=true:=rfl
theorem wrK_next (l:List (Int × Int)) (k:Nat) (h:1≤k):wrK l (k + 1)=(wrK l k && decide ((l.getD (k - 1) (0,0)).2<(l.getD k (0,0)).2∨((l.getD (k - 1) (0,0)).2=(l.getD k (0,0)).2∧(l.getD (k - 1) (0,0)).1<(l.getD k (0,0)).1))):=by
 obtain ⟨m,rfl⟩:∃ m,k=m + 1:=⟨k - 1,by omega⟩
 unfold wrK
 rw [show m + 1 + 1 - 1=m + 1 by omega,show m + 1 - 1=m by omega,List.range_succ,List.all_append,List.all_cons,List.all_nil,Bool.and_true]
theorem wrK_end (l:List (Int × Int)) (j:Nat) (h:¬ j<l.length) (hj:j≤l.length∨j=1):wrK l j=wriB l:=by
 rcases hj with hj | rfl
 ·obtain rfl:j=l.length:=by omega
  rfl
 ·unfold wrK wriB
  rw [show l.length - 1=0 by omega]
theorem rf5_clash {r:Rl} (h3:ok3 r=true) (hw:wkB r.weeks=true) (h:ok4 r=false):rf5 r=7:=by
 unfold rf5;rw [if_neg (by rw [h3];decide),if_neg (by rw [hw];decide),if_pos h]
theorem rf5_odd {r:Rl} (h3:ok3 r=true) (hw:wkB r.weeks=true) (h4:ok4 r=true) (h:oddB r=true):rf5 r=3:=by
 unfold rf5;rw [if_neg (by rw [h3];decide),if_neg (by rw [hw];decide),if_neg (by rw [h4];decide),if_pos h]
theorem rf5_fine {r:Rl} (h3:ok3 r=true) (hw:wkB r.weeks=true) (h4:ok4 r=true) (h:oddB r=false):rf5 r=0:=by
 unfold rf5;rw [if_neg (by rw [h3];decide),if_neg (by rw [hw];decide),if_neg (by rw [h4];decide),if_neg (by rw [h];decide)]
theorem three_no {a b c:Bool} (h:((a && b) && c)=false):a=false∨(a=true∧b=false)∨(a=true∧b=true∧c=false):=by
 revert h;cases a <;> cases b <;> cases c <;> decide
theorem three_yes {a b c:Bool} (h:((a && b) && c)=true):a=true∧b=true∧c=true:=by
 revert h;cases a <;> cases b <;> cases c <;> decide
theorem odd_t1 {r:Rl} (a:true=anyN r.weeks) (b:r.freq≤2):oddB r=true:=by simp [oddB,← a,b]
theorem odd_t2 {r:Rl} (a:0<r.days.length) (b:r.freq=2):oddB r=true:=by simp [oddB,a,b]
theorem odd_t3 {r:Rl} (a:r.freq=4) (b:r.months.length=0) (c:0<r.days.length + r.weeks.length):oddB r=true:=by
 unfold oddB;rw [decide_eq_true a,decide_eq_true b,decide_eq_true c];simp
theorem odd_t4 {r:Rl} (a:0<r.pick.length) (b:r.months.length + r.days.length + r.weeks.length=0):oddB r=true:=by
 unfold oddB;rw [decide_eq_true a,decide_eq_true b];simp
theorem odd_f {r:Rl} (a:¬ (true=anyN r.weeks∧r.freq≤2)) (b:¬ (0<r.days.length∧r.freq=2)) (c:¬ (r.freq=4∧r.months.length=0∧0<r.days.length + r.weeks.length)) (d:¬ (0<r.pick.length∧r.months.length + r.days.length + r.weeks.length=0)):oddB r=false:=by
 rcases e:oddB r with _ | _
 ·rfl
 ·exfalso
  unfold oddB at e
  rcases Bool.or_eq_true _ _ ▸ e with e | e
  ·rcases Bool.or_eq_true _ _ ▸ e with e | e
   ·rcases Bool.or_eq_true _ _ ▸ e with e | e
    ·rw [Bool.and_eq_true] at e
     exact a ⟨e.1.symm,of_decide_eq_true e.2⟩
    ·rw [Bool.and_eq_true] at e
     exact b ⟨of_decide_eq_true e.1,of_decide_eq_true e.2⟩
   ·rw [Bool.and_eq_true,Bool.and_eq_true] at e
    exact c ⟨of_decide_eq_true e.1.1,of_decide_eq_true e.1.2,of_decide_eq_true e.2⟩
  ·rw [Bool.and_eq_true] at e
   exact d ⟨of_decide_eq_true e.1,of_decide_eq_true e.2⟩
end Go.Proofs.YtoncfgfjdlgfcaaGreatDoor
