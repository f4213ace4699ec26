/-
  Texts of our own that serve the card of this claim, joined into one.
-/
import Derived.Test.YtcadomjkjoiakaaGreatDoorQH
import Derived.Test.YtcadomjkjoiakaaGreatDoorQB
namespace Go.Proofs.YtcadomjkjoiakaaGreatDoor
open Go.RowKit Cal Txt
set_option linter.unusedVariables false
theorem lead_in (s:ByteArray) (j:Nat) (h:j<dcnt s.data.toList):∃ h':j<s.size,dgI (s[j].toNat:Int)=true:=by
 have hl:=dcnt_le s.data.toList
 have h':j<s.size:=by rw [← size_len];omega
 refine ⟨h',?_⟩
 rw [dgI_eq]
 refine dcnt_take s.data.toList _ ?_
 have e:(s.data.toList.take (dcnt s.data.toList))[j]'(by rw [List.length_take,size_len];omega)=s[j]:=by rw [List.getElem_take];rfl
 rw [← e];exact List.getElem_mem _
theorem lead_out (s:ByteArray) (h:dcnt s.data.toList<s.size):dgI (s[dcnt s.data.toList].toNat:Int)=false:=by
 rw [dgI_eq];exact dcnt_none s.data.toList h
theorem number_lead (s:ByteArray) (w:World) (h:dcnt s.data.toList≤9) :
 Calls Tryz.prog 169 #[.string (s.extract 0 (dcnt s.data.toList))] w fun e w'=>e=.returned (.int .i64 (lv s.data.toList))∧w'=w:=by
 have:=number_at s 0 (dcnt s.data.toList) w (by omega) (by simpa using dcnt_take s.data.toList)
 simpa [nm,lv] using this
theorem head_eq (s:ByteArray) (h:0<s.size):s.data.toList.head?=some s[0]:=by
 rw [List.head?_eq_getElem?,List.getElem?_eq_getElem (by rw [size_len];exact h)];rfl
theorem at_eq (s:ByteArray) (k:Nat) (h:k<s.size):s.data.toList[k]?=some s[k]:=by
 rw [List.getElem?_eq_getElem (by rw [size_len];exact h)];rfl
def PartSays (s:ByteArray) (c:UInt8) (most:Nat) (w:World) (e:Ending) (w':World):Prop:=
 e=.returned (.tuple #[.int .i64 ((prt s.data.toList c most).1:Nat),.int .i64 ((prt s.data.toList c most).2:Nat)])∧Below w.heap.size w w'
set_option maxRecDepth 100000 in
set_option maxHeartbeats 2000000 in
theorem part_z0 (s:ByteArray) (c:UInt8) (ci mi:Int) (most:Nat) (w:World) (hs:s.size≤maxLen) (h:dcnt s.data.toList=0) (hz:¬ dcnt s.data.toList<s.size) :
 Calls Tryz.prog 214 #[.string s,.agg #[.int .u8 ci,.int .i64 mi,.int .i64 most]] w (PartSays s c most w):=by
 unfold maxLen at hs
 have hl:dcnt s.data.toList≤s.size:=by have:=dcnt_le s.data.toList;rwa [size_len] at this
 have LI:=Lib.hid (lead_in s)
 have LO:=Lib.hid (lead_out s)
 have RES:Hid ((0:Int)=((prt s.data.toList c most).1:Nat)∧(0:Int)=((prt s.data.toList c most).2:Nat)):=by rw [prt_bad (by unfold bad;exact decide_eq_true (Or.inl h)) c most];exact ⟨rfl,rfl⟩
 have h1:((dcnt s.data.toList:Int) == 0)=true:=by rw [beq_iff_eq];omega
 clear h
 generalize hD:dcnt s.data.toList=D at *
 have HD:=Lib.hid hD
 clear hD
 go_enter Tryz.func214,Tryz.ntmps214
 go_wp2
 go_loop [6] (fun t=>∃ j:Nat,j≤D∧t=.int .i64 j) (fun t=>D - (intOf t).toNat)
 case atStart=>exact ⟨0,Nat.zero_le _,rfl⟩
 case round=>
  obtain ⟨j,hj,rfl⟩:=hrel
  by_cases hlt:j<D
  ·obtain ⟨hz,hd⟩:=LI.out j hlt
   go_wp2_with (go_at_call 211;refine (isDigit_any _ _).mono ?_;rintro e w' ⟨rfl,rfl⟩)
   go_round
   case rel=>exact ⟨j + 1,by omega,by go_num⟩
   case measure=>simp [intOf];omega
  ·have hj':j=D:=by omega
   subst hj'
   clear hlt hj
   go_wp2_with (go_at_call 211;refine (isDigit_any _ _).mono ?_;rintro e w' ⟨rfl,rfl⟩)
   go_ret2
   exact ⟨ret_two RES.out.1 RES.out.2,(Below.refl _ _).alloc (Nat.le_refl _) _⟩
set_option maxRecDepth 100000 in
set_option maxHeartbeats 2000000 in
theorem part_z1 (s:ByteArray) (c:UInt8) (ci mi:Int) (most:Nat) (w:World) (hs:s.size≤maxLen) (h:dcnt s.data.toList=0) (hz:dcnt s.data.toList<s.size) :
 Calls Tryz.prog 214 #[.string s,.agg #[.int .u8 ci,.int .i64 mi,.int .i64 most]] w (PartSays s c most w):=by
 unfold maxLen at hs
 have hl:dcnt s.data.toList≤s.size:=by have:=dcnt_le s.data.toList;rwa [size_len] at this
 have LI:=Lib.hid (lead_in s)
 have LO:=Lib.hid (lead_out s)
 have RES:Hid ((0:Int)=((prt s.data.toList c most).1:Nat)∧(0:Int)=((prt s.data.toList c most).2:Nat)):=by rw [prt_bad (by unfold bad;exact decide_eq_true (Or.inl h)) c most];exact ⟨rfl,rfl⟩
 have h1:((dcnt s.data.toList:Int) == 0)=true:=by rw [beq_iff_eq];omega
 clear h
 generalize hD:dcnt s.data.toList=D at *
 have HD:=Lib.hid hD
 clear hD
 go_enter Tryz.func214,Tryz.ntmps214
 go_wp2
 go_loop [6] (fun t=>∃ j:Nat,j≤D∧t=.int .i64 j) (fun t=>D - (intOf t).toNat)
 case atStart=>exact ⟨0,Nat.zero_le _,rfl⟩
 case round=>
  obtain ⟨j,hj,rfl⟩:=hrel
  by_cases hlt:j<D
  ·obtain ⟨hz,hd⟩:=LI.out j hlt
   go_wp2_with (go_at_call 211;refine (isDigit_any _ _).mono ?_;rintro e w' ⟨rfl,rfl⟩)
   go_round
   case rel=>exact ⟨j + 1,by omega,by go_num⟩
   case measure=>simp [intOf];omega
  ·have hj':j=D:=by omega
   subst hj'
   clear hlt hj
   have hd:=LO.out hz
   go_wp2_with (go_at_call 211;refine (isDigit_any _ _).mono ?_;rintro e w' ⟨rfl,rfl⟩)
   go_ret2
   exact ⟨ret_two RES.out.1 RES.out.2,(Below.refl _ _).alloc (Nat.le_refl _) _⟩
set_option maxRecDepth 100000 in
set_option maxHeartbeats 2000000 in
theorem part_m0 (s:ByteArray) (c:UInt8) (ci mi:Int) (most:Nat) (w:World) (hs:s.size≤maxLen) (h:9<dcnt s.data.toList) (hz:¬ dcnt s.data.toList<s.size) :
 Calls Tryz.prog 214 #[.string s,.agg #[.int .u8 ci,.int .i64 mi,.int .i64 most]] w (PartSays s c most w):=by
 unfold maxLen at hs
 have hl:dcnt s.data.toList≤s.size:=by have:=dcnt_le s.data.toList;rwa [size_len] at this
 have LI:=Lib.hid (lead_in s)
 have LO:=Lib.hid (lead_out s)
 have RES:Hid ((0:Int)=((prt s.data.toList c most).1:Nat)∧(0:Int)=((prt s.data.toList c most).2:Nat)):=by rw [prt_bad (by unfold bad;exact decide_eq_true (Or.inr (Or.inl h))) c most];exact ⟨rfl,rfl⟩
 have h1:((dcnt s.data.toList:Int) == 0)=false:=by rw [beq_eq_false_iff_ne];omega
 have h2:(9:Int)<dcnt s.data.toList:=by omega
 clear h
 generalize hD:dcnt s.data.toList=D at *
 have HD:=Lib.hid hD
 clear hD
 go_enter Tryz.func214,Tryz.ntmps214
 go_wp2
 go_loop [6] (fun t=>∃ j:Nat,j≤D∧t=.int .i64 j) (fun t=>D - (intOf t).toNat)
 case atStart=>exact ⟨0,Nat.zero_le _,rfl⟩
 case round=>
  obtain ⟨j,hj,rfl⟩:=hrel
  by_cases hlt:j<D
  ·obtain ⟨hz,hd⟩:=LI.out j hlt
   go_wp2_with (go_at_call 211;refine (isDigit_any _ _).mono ?_;rintro e w' ⟨rfl,rfl⟩)
   go_round
   case rel=>exact ⟨j + 1,by omega,by go_num⟩
   case measure=>simp [intOf];omega
  ·have hj':j=D:=by omega
   subst hj'
   clear hlt hj
   go_wp2_with (go_at_call 211;refine (isDigit_any _ _).mono ?_;rintro e w' ⟨rfl,rfl⟩)
   go_ret2
   exact ⟨ret_two RES.out.1 RES.out.2,(Below.refl _ _).alloc (Nat.le_refl _) _⟩
set_option maxRecDepth 100000 in
set_option maxHeartbeats 2000000 in
theorem part_m1 (s:ByteArray) (c:UInt8) (ci mi:Int) (most:Nat) (w:World) (hs:s.size≤maxLen) (h:9<dcnt s.data.toList) (hz:dcnt s.data.toList<s.size) :
 Calls Tryz.prog 214 #[.string s,.agg #[.int .u8 ci,.int .i64 mi,.int .i64 most]] w (PartSays s c most w):=by
 unfold maxLen at hs
 have hl:dcnt s.data.toList≤s.size:=by have:=dcnt_le s.data.toList;rwa [size_len] at this
 have LI:=Lib.hid (lead_in s)
 have LO:=Lib.hid (lead_out s)
 have RES:Hid ((0:Int)=((prt s.data.toList c most).1:Nat)∧(0:Int)=((prt s.data.toList c most).2:Nat)):=by rw [prt_bad (by unfold bad;exact decide_eq_true (Or.inr (Or.inl h))) c most];exact ⟨rfl,rfl⟩
 have h1:((dcnt s.data.toList:Int) == 0)=false:=by rw [beq_eq_false_iff_ne];omega
 have h2:(9:Int)<dcnt s.data.toList:=by omega
 clear h
 generalize hD:dcnt s.data.toList=D at *
 have HD:=Lib.hid hD
 clear hD
 go_enter Tryz.func214,Tryz.ntmps214
 go_wp2
 go_loop [6] (fun t=>∃ j:Nat,j≤D∧t=.int .i64 j) (fun t=>D - (intOf t).toNat)
 case atStart=>exact ⟨0,Nat.zero_le _,rfl⟩
 case round=>
  obtain ⟨j,hj,rfl⟩:=hrel
  by_cases hlt:j<D
  ·obtain ⟨hz,hd⟩:=LI.out j hlt
   go_wp2_with (go_at_call 211;refine (isDigit_any _ _).mono ?_;rintro e w' ⟨rfl,rfl⟩)
   go_round
   case rel=>exact ⟨j + 1,by omega,by go_num⟩
   case measure=>simp [intOf];omega
  ·have hj':j=D:=by omega
   subst hj'
   clear hlt hj
   have hd:=LO.out hz
   go_wp2_with (go_at_call 211;refine (isDigit_any _ _).mono ?_;rintro e w' ⟨rfl,rfl⟩)
   go_ret2
   exact ⟨ret_two RES.out.1 RES.out.2,(Below.refl _ _).alloc (Nat.le_refl _) _⟩
set_option maxRecDepth 100000 in
set_option maxHeartbeats 2000000 in
theorem part_h0 (s:ByteArray) (c:UInt8) (ci mi:Int) (most:Nat) (w:World) (hs:s.size≤maxLen) (h:1≤dcnt s.data.toList) (h9:dcnt s.data.toList≤9) (hp:0<s.size) (h0:s[0]=48) (hz:¬ dcnt s.data.toList<s.size) :
 Calls Tryz.prog 214 #[.string s,.agg #[.int .u8 ci,.int .i64 mi,.int .i64 most]] w (PartSays s c most w):=by
 unfold maxLen at hs
 have hl:dcnt s.data.toList≤s.size:=by have:=dcnt_le s.data.toList;rwa [size_len] at this
 have LI:=Lib.hid (lead_in s)
 have LO:=Lib.hid (lead_out s)
 have RES:Hid ((0:Int)=((prt s.data.toList c most).1:Nat)∧(0:Int)=((prt s.data.toList c most).2:Nat)):=by rw [prt_bad (by unfold bad;exact decide_eq_true (Or.inr (Or.inr (by rw [head_eq s hp,h0])))) c most];exact ⟨rfl,rfl⟩
 have h1:((dcnt s.data.toList:Int) == 0)=false:=by rw [beq_eq_false_iff_ne];omega
 have h2:¬ (9:Int)<dcnt s.data.toList:=by omega
 have h3:((s[0].toNat:Int) == 48)=true:=by rw [h0];rfl
 clear h0
 generalize hD:dcnt s.data.toList=D at *
 have HD:=Lib.hid hD
 clear hD
 go_enter Tryz.func214,Tryz.ntmps214
 go_wp2
 go_loop [6] (fun t=>∃ j:Nat,j≤D∧t=.int .i64 j) (fun t=>D - (intOf t).toNat)
 case atStart=>exact ⟨0,Nat.zero_le _,rfl⟩
 case round=>
  obtain ⟨j,hj,rfl⟩:=hrel
  by_cases hlt:j<D
  ·obtain ⟨hz,hd⟩:=LI.out j hlt
   go_wp2_with (go_at_call 211;refine (isDigit_any _ _).mono ?_;rintro e w' ⟨rfl,rfl⟩)
   go_round
   case rel=>exact ⟨j + 1,by omega,by go_num⟩
   case measure=>simp [intOf];omega
  ·have hj':j=D:=by omega
   subst hj'
   clear hlt hj
   go_wp2_with (go_at_call 211;refine (isDigit_any _ _).mono ?_;rintro e w' ⟨rfl,rfl⟩)
   go_ret2
   exact ⟨ret_two RES.out.1 RES.out.2,(Below.refl _ _).alloc (Nat.le_refl _) _⟩
set_option maxRecDepth 100000 in
set_option maxHeartbeats 2000000 in
theorem part_h1 (s:ByteArray) (c:UInt8) (ci mi:Int) (most:Nat) (w:World) (hs:s.size≤maxLen) (h:1≤dcnt s.data.toList) (h9:dcnt s.data.toList≤9) (hp:0<s.size) (h0:s[0]=48) (hz:dcnt s.data.toList<s.size) :
 Calls Tryz.prog 214 #[.string s,.agg #[.int .u8 ci,.int .i64 mi,.int .i64 most]] w (PartSays s c most w):=by
 unfold maxLen at hs
 have hl:dcnt s.data.toList≤s.size:=by have:=dcnt_le s.data.toList;rwa [size_len] at this
 have LI:=Lib.hid (lead_in s)
 have LO:=Lib.hid (lead_out s)
 have RES:Hid ((0:Int)=((prt s.data.toList c most).1:Nat)∧(0:Int)=((prt s.data.toList c most).2:Nat)):=by rw [prt_bad (by unfold bad;exact decide_eq_true (Or.inr (Or.inr (by rw [head_eq s hp,h0])))) c most];exact ⟨rfl,rfl⟩
 have h1:((dcnt s.data.toList:Int) == 0)=false:=by rw [beq_eq_false_iff_ne];omega
 have h2:¬ (9:Int)<dcnt s.data.toList:=by omega
 have h3:((s[0].toNat:Int) == 48)=true:=by rw [h0];rfl
 clear h0
 generalize hD:dcnt s.data.toList=D at *
 have HD:=Lib.hid hD
 clear hD
 go_enter Tryz.func214,Tryz.ntmps214
 go_wp2
 go_loop [6] (fun t=>∃ j:Nat,j≤D∧t=.int .i64 j) (fun t=>D - (intOf t).toNat)
 case atStart=>exact ⟨0,Nat.zero_le _,rfl⟩
 case round=>
  obtain ⟨j,hj,rfl⟩:=hrel
  by_cases hlt:j<D
  ·obtain ⟨hz,hd⟩:=LI.out j hlt
   go_wp2_with (go_at_call 211;refine (isDigit_any _ _).mono ?_;rintro e w' ⟨rfl,rfl⟩)
   go_round
   case rel=>exact ⟨j + 1,by omega,by go_num⟩
   case measure=>simp [intOf];omega
  ·have hj':j=D:=by omega
   subst hj'
   clear hlt hj
   have hd:=LO.out hz
   go_wp2_with (go_at_call 211;refine (isDigit_any _ _).mono ?_;rintro e w' ⟨rfl,rfl⟩)
   go_ret2
   exact ⟨ret_two RES.out.1 RES.out.2,(Below.refl _ _).alloc (Nat.le_refl _) _⟩
set_option maxRecDepth 100000 in
set_option maxHeartbeats 2000000 in
theorem part_e (s:ByteArray) (c:UInt8) (ci mi:Int) (most:Nat) (w:World) (hs:s.size≤maxLen) (h:1≤dcnt s.data.toList) (h9:dcnt s.data.toList≤9) (hp:0<s.size) (h0:¬ s[0]=48) (hz:¬ dcnt s.data.toList<s.size) :
 Calls Tryz.prog 214 #[.string s,.agg #[.int .u8 ci,.int .i64 mi,.int .i64 most]] w (PartSays s c most w):=by
 unfold maxLen at hs
 have hl:dcnt s.data.toList≤s.size:=by have:=dcnt_le s.data.toList;rwa [size_len] at this
 have LI:=Lib.hid (lead_in s)
 have LO:=Lib.hid (lead_out s)
 have h1:((dcnt s.data.toList:Int) == 0)=false:=by rw [beq_eq_false_iff_ne];omega
 have h2:¬ (9:Int)<dcnt s.data.toList:=by omega
 have h3:((s[0].toNat:Int) == 48)=false:=by
  rw [beq_eq_false_iff_ne];intro q;exact h0 ((byte_eq (c:=48) rfl).2 q)
 have NL:=Lib.hid (fun w=>number_lead s w h9)
 have lb:lv s.data.toList≤999999999:=val_le9 _ (dcnt_take _) (by rw [List.length_take];omega)
 have RES:Hid ((0:Int)=((prt s.data.toList c most).1:Nat)∧(0:Int)=((prt s.data.toList c most).2:Nat)):=by rw [prt_miss (fun x=>by have:=(List.getElem?_eq_some_iff.1 x.1).1;rw [size_len] at this;omega)];exact ⟨rfl,rfl⟩
 have h4:((dcnt s.data.toList:Int) == (s.size:Int))=true:=by rw [beq_iff_eq];omega
 clear h0
 generalize hD:dcnt s.data.toList=D at *
 have HD:=Lib.hid hD
 clear hD
 go_enter Tryz.func214,Tryz.ntmps214
 go_wp2
 go_loop [6] (fun t=>∃ j:Nat,j≤D∧t=.int .i64 j) (fun t=>D - (intOf t).toNat)
 case atStart=>exact ⟨0,Nat.zero_le _,rfl⟩
 case round=>
  obtain ⟨j,hj,rfl⟩:=hrel
  by_cases hlt:j<D
  ·obtain ⟨hz,hd⟩:=LI.out j hlt
   go_wp2_with (go_at_call 211;refine (isDigit_any _ _).mono ?_;rintro e w' ⟨rfl,rfl⟩)
   go_round
   case rel=>exact ⟨j + 1,by omega,by go_num⟩
   case measure=>simp [intOf];omega
  ·have hj':j=D:=by omega
   subst hj'
   clear hlt hj
   go_wp2_with (first | (go_at_call 211;refine (isDigit_any _ _).mono ?_;rintro e w' ⟨rfl,rfl⟩) | (go_at_call 169;refine (NL.out _).mono ?_;rintro e w' ⟨rfl,rfl⟩))
   go_quiet (fail)
   go_wp2
   go_ret2
   exact ⟨ret_two RES.out.1 RES.out.2,below_drewN ((Below.refl _ _).alloc (Nat.le_refl _) _) _⟩
set_option maxRecDepth 100000 in
set_option maxHeartbeats 2000000 in
theorem part_l (s:ByteArray) (c:UInt8) (ci mi:Int) (most:Nat) (w:World) (hs:s.size≤maxLen) (hc:(c.toNat:Int)=ci) (h:1≤dcnt s.data.toList) (h9:dcnt s.data.toList≤9) (hp:0<s.size) (h0:¬ s[0]=48) (hz:dcnt s.data.toList<s.size) (hx:¬ s[dcnt s.data.toList]=c) :
 Calls Tryz.prog 214 #[.string s,.agg #[.int .u8 ci,.int .i64 mi,.int .i64 most]] w (PartSays s c most w):=by
 unfold maxLen at hs
 have hl:dcnt s.data.toList≤s.size:=by have:=dcnt_le s.data.toList;rwa [size_len] at this
 have LI:=Lib.hid (lead_in s)
 have LO:=Lib.hid (lead_out s)
 have h1:((dcnt s.data.toList:Int) == 0)=false:=by rw [beq_eq_false_iff_ne];omega
 have h2:¬ (9:Int)<dcnt s.data.toList:=by omega
 have h3:((s[0].toNat:Int) == 48)=false:=by
  rw [beq_eq_false_iff_ne];intro q;exact h0 ((byte_eq (c:=48) rfl).2 q)
 have NL:=Lib.hid (fun w=>number_lead s w h9)
 have lb:lv s.data.toList≤999999999:=val_le9 _ (dcnt_take _) (by rw [List.length_take];omega)
 have RES:Hid ((0:Int)=((prt s.data.toList c most).1:Nat)∧(0:Int)=((prt s.data.toList c most).2:Nat)):=by rw [prt_miss (fun x=>hx (Option.some.inj ((at_eq s _ hz).symm.trans x.1)))];exact ⟨rfl,rfl⟩
 have h4:((dcnt s.data.toList:Int) == (s.size:Int))=false:=by rw [beq_eq_false_iff_ne];omega
 have h5:((s[dcnt s.data.toList].toNat:Int) != ci)=true:=by rw [bne_iff_ne];intro q;exact hx ((byte_eq hc).2 q)
 clear h0 hx
 generalize hD:dcnt s.data.toList=D at *
 have HD:=Lib.hid hD
 clear hD
 go_enter Tryz.func214,Tryz.ntmps214
 go_wp2
 go_loop [6] (fun t=>∃ j:Nat,j≤D∧t=.int .i64 j) (fun t=>D - (intOf t).toNat)
 case atStart=>exact ⟨0,Nat.zero_le _,rfl⟩
 case round=>
  obtain ⟨j,hj,rfl⟩:=hrel
  by_cases hlt:j<D
  ·obtain ⟨hz,hd⟩:=LI.out j hlt
   go_wp2_with (go_at_call 211;refine (isDigit_any _ _).mono ?_;rintro e w' ⟨rfl,rfl⟩)
   go_round
   case rel=>exact ⟨j + 1,by omega,by go_num⟩
   case measure=>simp [intOf];omega
  ·have hj':j=D:=by omega
   subst hj'
   clear hlt hj
   have hd:=LO.out hz
   go_wp2_with (first | (go_at_call 211;refine (isDigit_any _ _).mono ?_;rintro e w' ⟨rfl,rfl⟩) | (go_at_call 169;refine (NL.out _).mono ?_;rintro e w' ⟨rfl,rfl⟩))
   go_quiet (fail)
   go_wp2
   go_ret2
   exact ⟨ret_two RES.out.1 RES.out.2,below_drewN ((Below.refl _ _).alloc (Nat.le_refl _) _) _⟩
set_option maxRecDepth 100000 in
set_option maxHeartbeats 2000000 in
theorem part_o (s:ByteArray) (c:UInt8) (ci mi:Int) (most:Nat) (w:World) (hs:s.size≤maxLen) (hc:(c.toNat:Int)=ci) (h:1≤dcnt s.data.toList) (h9:dcnt s.data.toList≤9) (hp:0<s.size) (h0:¬ s[0]=48) (hz:dcnt s.data.toList<s.size) (hx:s[dcnt s.data.toList]=c) (ho:most<lv s.data.toList) :
 Calls Tryz.prog 214 #[.string s,.agg #[.int .u8 ci,.int .i64 mi,.int .i64 most]] w (PartSays s c most w):=by
 unfold maxLen at hs
 have hl:dcnt s.data.toList≤s.size:=by have:=dcnt_le s.data.toList;rwa [size_len] at this
 have LI:=Lib.hid (lead_in s)
 have LO:=Lib.hid (lead_out s)
 have h1:((dcnt s.data.toList:Int) == 0)=false:=by rw [beq_eq_false_iff_ne];omega
 have h2:¬ (9:Int)<dcnt s.data.toList:=by omega
 have h3:((s[0].toNat:Int) == 48)=false:=by
  rw [beq_eq_false_iff_ne];intro q;exact h0 ((byte_eq (c:=48) rfl).2 q)
 have NL:=Lib.hid (fun w=>number_lead s w h9)
 have lb:lv s.data.toList≤999999999:=val_le9 _ (dcnt_take _) (by rw [List.length_take];omega)
 have RES:Hid ((0:Int)=((prt s.data.toList c most).1:Nat)∧(0:Int)=((prt s.data.toList c most).2:Nat)):=by rw [prt_miss (fun x=>by have:=x.2;omega)];exact ⟨rfl,rfl⟩
 have h4:((dcnt s.data.toList:Int) == (s.size:Int))=false:=by rw [beq_eq_false_iff_ne];omega
 have h5:((s[dcnt s.data.toList].toNat:Int) != ci)=false:=by rw [bne_eq_false_iff_eq];exact (byte_eq hc).1 hx
 have h6:(most:Int)<lv s.data.toList:=by omega
 have h7:decide ((most:Int)<lv s.data.toList)=true:=by simpa using ho
 clear h0 hx ho
 generalize hD:dcnt s.data.toList=D at *
 have HD:=Lib.hid hD
 clear hD
 go_enter Tryz.func214,Tryz.ntmps214
 go_wp2
 go_loop [6] (fun t=>∃ j:Nat,j≤D∧t=.int .i64 j) (fun t=>D - (intOf t).toNat)
 case atStart=>exact ⟨0,Nat.zero_le _,rfl⟩
 case round=>
  obtain ⟨j,hj,rfl⟩:=hrel
  by_cases hlt:j<D
  ·obtain ⟨hz,hd⟩:=LI.out j hlt
   go_wp2_with (go_at_call 211;refine (isDigit_any _ _).mono ?_;rintro e w' ⟨rfl,rfl⟩)
   go_round
   case rel=>exact ⟨j + 1,by omega,by go_num⟩
   case measure=>simp [intOf];omega
  ·have hj':j=D:=by omega
   subst hj'
   clear hlt hj
   have hd:=LO.out hz
   go_wp2_with (first | (go_at_call 211;refine (isDigit_any _ _).mono ?_;rintro e w' ⟨rfl,rfl⟩) | (go_at_call 169;refine (NL.out _).mono ?_;rintro e w' ⟨rfl,rfl⟩))
   go_quiet (fail)
   go_wp2
   go_ret2
   exact ⟨ret_two RES.out.1 RES.out.2,below_drewN ((Below.refl _ _).alloc (Nat.le_refl _) _) _⟩
set_option maxRecDepth 100000 in
set_option maxHeartbeats 2000000 in
theorem part_y (s:ByteArray) (c:UInt8) (ci mi:Int) (most:Nat) (w:World) (hs:s.size≤maxLen) (hc:(c.toNat:Int)=ci) (h:1≤dcnt s.data.toList) (h9:dcnt s.data.toList≤9) (hp:0<s.size) (h0:¬ s[0]=48) (hz:dcnt s.data.toList<s.size) (hx:s[dcnt s.data.toList]=c) (ho:lv s.data.toList≤most) :
 Calls Tryz.prog 214 #[.string s,.agg #[.int .u8 ci,.int .i64 mi,.int .i64 most]] w (PartSays s c most w):=by
 unfold maxLen at hs
 have hl:dcnt s.data.toList≤s.size:=by have:=dcnt_le s.data.toList;rwa [size_len] at this
 have LI:=Lib.hid (lead_in s)
 have LO:=Lib.hid (lead_out s)
 have h1:((dcnt s.data.toList:Int) == 0)=false:=by rw [beq_eq_false_iff_ne];omega
 have h2:¬ (9:Int)<dcnt s.data.toList:=by omega
 have h3:((s[0].toNat:Int) == 48)=false:=by
  rw [beq_eq_false_iff_ne];intro q;exact h0 ((byte_eq (c:=48) rfl).2 q)
 have NL:=Lib.hid (fun w=>number_lead s w h9)
 have lb:lv s.data.toList≤999999999:=val_le9 _ (dcnt_take _) (by rw [List.length_take];omega)
 have RES:Hid ((lv s.data.toList:Int)=((prt s.data.toList c most).1:Nat)∧(dcnt s.data.toList:Int) + 1=((prt s.data.toList c most).2:Nat)):=by
  rw [prt_hit (by unfold bad;exact decide_eq_false (by rintro (q | q | q) <;> first | omega | (rw [head_eq s hp] at q;exact h0 (Option.some.inj q)))) (by rw [at_eq s _ hz,hx]) ho]
  exact ⟨rfl,by simp⟩
 have h4:((dcnt s.data.toList:Int) == (s.size:Int))=false:=by rw [beq_eq_false_iff_ne];omega
 have h5:((s[dcnt s.data.toList].toNat:Int) != ci)=false:=by rw [bne_eq_false_iff_eq];exact (byte_eq hc).1 hx
 have h6:¬ (most:Int)<lv s.data.toList:=by omega
 have h7:decide ((most:Int)<lv s.data.toList)=false:=by simpa using ho
 clear h0 hx ho
 generalize hD:dcnt s.data.toList=D at *
 have HD:=Lib.hid hD
 clear hD
 go_enter Tryz.func214,Tryz.ntmps214
 go_wp2
 go_loop [6] (fun t=>∃ j:Nat,j≤D∧t=.int .i64 j) (fun t=>D - (intOf t).toNat)
 case atStart=>exact ⟨0,Nat.zero_le _,rfl⟩
 case round=>
  obtain ⟨j,hj,rfl⟩:=hrel
  by_cases hlt:j<D
  ·obtain ⟨hz,hd⟩:=LI.out j hlt
   go_wp2_with (go_at_call 211;refine (isDigit_any _ _).mono ?_;rintro e w' ⟨rfl,rfl⟩)
   go_round
   case rel=>exact ⟨j + 1,by omega,by go_num⟩
   case measure=>simp [intOf];omega
  ·have hj':j=D:=by omega
   subst hj'
   clear hlt hj
   have hd:=LO.out hz
   go_wp2_with (first | (go_at_call 211;refine (isDigit_any _ _).mono ?_;rintro e w' ⟨rfl,rfl⟩) | (go_at_call 169;refine (NL.out _).mono ?_;rintro e w' ⟨rfl,rfl⟩))
   go_quiet (fail)
   go_wp2
   go_ret2
   exact ⟨ret_two RES.out.1 RES.out.2,below_drewN ((Below.refl _ _).alloc (Nat.le_refl _) _) _⟩
theorem part_any (s:ByteArray) (c:UInt8) (ci mi:Int) (most:Nat) (w:World) (hs:s.size≤maxLen) (hc:(c.toNat:Int)=ci) :
 Calls Tryz.prog 214 #[.string s,.agg #[.int .u8 ci,.int .i64 mi,.int .i64 most]] w (PartSays s c most w):=by
 have hl:dcnt s.data.toList≤s.size:=by have:=dcnt_le s.data.toList;rwa [size_len] at this
 by_cases hz:dcnt s.data.toList<s.size
 ·by_cases h:dcnt s.data.toList=0
  ·exact part_z1 s c ci mi most w hs h hz
  by_cases h9:9<dcnt s.data.toList
  ·exact part_m1 s c ci mi most w hs h9 hz
  have hp:0<s.size:=by omega
  by_cases h0:s[0]=48
  ·exact part_h1 s c ci mi most w hs (by omega) (by omega) hp h0 hz
  by_cases hx:s[dcnt s.data.toList]=c
  ·by_cases ho:lv s.data.toList≤most
   ·exact part_y s c ci mi most w hs hc (by omega) (by omega) hp h0 hz hx ho
   ·exact part_o s c ci mi most w hs hc (by omega) (by omega) hp h0 hz hx (by omega)
  ·exact part_l s c ci mi most w hs hc (by omega) (by omega) hp h0 hz hx
 ·by_cases h:dcnt s.data.toList=0
  ·exact part_z0 s c ci mi most w hs h hz
  by_cases h9:9<dcnt s.data.toList
  ·exact part_m0 s c ci mi most w hs h9 hz
  have hp:0<s.size:=by omega
  by_cases h0:s[0]=48
  ·exact part_h0 s c ci mi most w hs (by omega) (by omega) hp h0 hz
  ·exact part_e s c ci mi most w hs (by omega) (by omega) hp h0 hz
end Go.Proofs.YtcadomjkjoiakaaGreatDoor
namespace Go.Proofs.YtcadomjkjoiakaaGreatDoor
open Go.RowKit Cal Txt
def Uni (w:World):Prop:=(w.cell? ⟨2,0,none⟩=some (.int .u8 100)∧w.cell? ⟨2,1,none⟩=some (.int .i64 1440)∧w.cell? ⟨2,2,none⟩=some (.int .i64 999999999))∧
 (w.cell? ⟨2,3,none⟩=some (.int .u8 104)∧w.cell? ⟨2,4,none⟩=some (.int .i64 60)∧w.cell? ⟨2,5,none⟩=some (.int .i64 23))∧
 (w.cell? ⟨2,6,none⟩=some (.int .u8 109)∧w.cell? ⟨2,7,none⟩=some (.int .i64 1)∧w.cell? ⟨2,8,none⟩=some (.int .i64 59))
theorem Uni.pos {w:World} (h:Uni w):2<w.heap.size:=by
 have k:=h.1.1
 rcases Nat.lt_or_ge 2 w.heap.size with q | q
 ·exact q
 ·simp [World.cell?,Array.getElem?_eq_none q] at k
theorem Uni.below {w w':World} (h:Uni w) (b:Below w.heap.size w w'):Uni w':=by
 have hp:=h.pos
 obtain ⟨⟨a0,a1,a2⟩,⟨b0,b1,b2⟩,⟨c0,c1,c2⟩⟩:=h
 exact ⟨⟨(b.cell (p:=⟨2,0,none⟩) hp).trans a0,(b.cell (p:=⟨2,1,none⟩) hp).trans a1,(b.cell (p:=⟨2,2,none⟩) hp).trans a2⟩,
  ⟨(b.cell (p:=⟨2,3,none⟩) hp).trans b0,(b.cell (p:=⟨2,4,none⟩) hp).trans b1,(b.cell (p:=⟨2,5,none⟩) hp).trans b2⟩,
  ⟨(b.cell (p:=⟨2,6,none⟩) hp).trans c0,(b.cell (p:=⟨2,7,none⟩) hp).trans c1,(b.cell (p:=⟨2,8,none⟩) hp).trans c2⟩⟩
theorem unit_0 (W:World):(Instr.index 205 (.agg #[.int .u8 100,.int .i64 1440,.int .i64 999999999,.int .u8 104,.int .i64 60,.int .i64 23,.int .u8 109,.int .i64 1,.int .i64 59]) (.int .i64 0)).run Tryz.prog W=.ok (.agg #[.int .u8 100,.int .i64 1440,.int .i64 999999999]) W:=by kernel_rfl
theorem unit_1 (W:World):(Instr.index 205 (.agg #[.int .u8 100,.int .i64 1440,.int .i64 999999999,.int .u8 104,.int .i64 60,.int .i64 23,.int .u8 109,.int .i64 1,.int .i64 59]) (.int .i64 1)).run Tryz.prog W=.ok (.agg #[.int .u8 104,.int .i64 60,.int .i64 23]) W:=by kernel_rfl
theorem unit_2 (W:World):(Instr.index 205 (.agg #[.int .u8 100,.int .i64 1440,.int .i64 999999999,.int .u8 104,.int .i64 60,.int .i64 23,.int .u8 109,.int .i64 1,.int .i64 59]) (.int .i64 2)).run Tryz.prog W=.ok (.agg #[.int .u8 109,.int .i64 1,.int .i64 59]) W:=by kernel_rfl
theorem part_int (s:ByteArray) (c:UInt8) (ci mi mo:Int) (most:Nat) (w:World) (hs:s.size≤maxLen) (hc:(c.toNat:Int)=ci) (hm:(most:Int)=mo) :
 Calls Tryz.prog 214 #[.string s,.agg #[.int .u8 ci,.int .i64 mi,.int .i64 mo]] w (PartSays s c most w):=by
 subst hm;exact part_any s c ci mi most w hs hc
def txk (l:List UInt8):Nat→List UInt8
 | 0=>l
 | 1=>l1 l
 | 2=>l2 l
 | _=>l3 l
def smk (l:List UInt8):Nat→Nat
 | 0=>0
 | 1=>(prt l 100 999999999).1 * 1440
 | 2=>(prt l 100 999999999).1 * 1440 + (prt (l1 l) 104 23).1 * 60
 | _=>sum l
theorem drop_ext (s:ByteArray) (k:Nat):(s.extract k s.size).data.toList=s.data.toList.drop k:=by
 rw [ByteArray.data_extract,Array.toList_extract,List.extract_eq_take_drop]
 refine List.take_of_length_le ?_
 rw [List.length_drop]
 exact Nat.le_refl _
theorem size_ext (s:ByteArray) (k:Nat):(s.extract k s.size).size≤s.size:=by
 have:(s.extract k s.size).size=(s.extract k s.size).data.toList.length:=rfl
 rw [this,drop_ext,List.length_drop]
 have:s.data.toList.length=s.size:=rfl
 omega
theorem ret_sum {a b:Int} {c d:Bool} (h:a=b) (g:c=d):Ending.returned (.tuple #[.int .i64 a,.bool c])=.returned (.tuple #[.int .i64 b,.bool d]):=by rw [h,g]
set_option maxRecDepth 100000 in
set_option maxHeartbeats 4000000 in
theorem sumParts_any (s:ByteArray) (w:World) (hs:s.size≤maxLen) (hU:Uni w) :
 Calls Tryz.prog 172 #[.string s] w fun e w'=>e=.returned (.tuple #[.int .i64 (sum s.data.toList:Nat),.bool (decide (0<sum s.data.toList∧l3 s.data.toList=[]))])∧Below w.heap.size w w':=by
 obtain ⟨⟨a0,a1,a2⟩,⟨b0,b1,b2⟩,⟨c0,c1,c2⟩⟩:=hU
 go_enter Tryz.func172,Tryz.ntmps172
 go_wp2
 go_loopw [0,4,10] (fun t n i wr=>∃ (s':ByteArray) (k:Nat),t=.string s'∧n=.int .i64 (smk s.data.toList k:Nat)∧i=.int .i64 k∧s'.size≤s.size∧s'.data.toList=txk s.data.toList k∧Below w.heap.size w wr∧(k=0∨k=1∨k=2∨k=3)) (fun _ _ i _=>3 - (intOf i).toNat)
 case atStart=>exact ⟨s,0,rfl,rfl,rfl,Nat.le_refl _,rfl,Below.refl _ _,Or.inl rfl⟩
 case round=>
  clear a0 a1 a2 b0 b1 b2 c0 c1 c2
  obtain ⟨s',k,rfl,rfl,rfl,hz,hx,hb,hk⟩:=hrel
  rcases hk with rfl | hk
  ·have S0:Hid (s'.data.toList=txk s.data.toList 0):=hx
   have ix:=unit_0
   have pm:=prt_most s'.data.toList 100 999999999
   have pl:(prt s'.data.toList 100 999999999).2≤s'.size:=prt_len s'.data.toList 100 999999999
   have NX:Hid ((s'.data.toList.drop (prt s'.data.toList 100 999999999).2=txk s.data.toList 1)∧smk s.data.toList 0 + (prt s'.data.toList 100 999999999).1 * 1440=smk s.data.toList 1):=by
    rw [S0.out];exact ⟨rfl,by simp [smk,txk]⟩
   have sb:smk s.data.toList 0≤2000000000000:=by simp [smk]
   clear hx S0
   go_wp2_with fail
   have PI:=part_int s' 100 100 1440 999999999 999999999 (wr.alloc (.cells #[.int .u8 100,.int .i64 1440,.int .i64 999999999] 204)) (Nat.le_trans hz hs) rfl rfl
   unfold PartSays at PI
   refine PI.mono ?_
   clear PI
   rintro e w2 ⟨rfl,hb2⟩
   obtain ⟨hc2,hf2⟩:=bcell hb2
   have hz2:wr.heap.size + 1≤w2.heap.size:=by have:=hb2.size;simpa using this
   have hz2':wr.heap.size<w2.heap.size:=by omega
   have hb3:=(hb.alloc hb.size (.cells #[.int .u8 100,.int .i64 1440,.int .i64 999999999] 204)).trans (hb2.mono (by have:=hb.size;simp;omega))
   clear hb hb2
   generalize (prt s'.data.toList 100 999999999).1=p1 at *
   generalize (prt s'.data.toList 100 999999999).2=p2 at *
   go_wp2_with fail
   go_roundw
   case rel=>exact ⟨_,1,rfl,by rw [← NX.out.2];go_num,rfl,Nat.le_trans (size_ext _ _) hz,(drop_ext _ _).trans NX.out.1,hb3,by omega⟩
   case measure=>simp [intOf]
  rcases hk with rfl | hk
  ·have S0:Hid (s'.data.toList=txk s.data.toList 1):=hx
   have ix:=unit_1
   have pm:=prt_most s'.data.toList 104 23
   have pl:(prt s'.data.toList 104 23).2≤s'.size:=prt_len s'.data.toList 104 23
   have NX:Hid ((s'.data.toList.drop (prt s'.data.toList 104 23).2=txk s.data.toList 2)∧smk s.data.toList 1 + (prt s'.data.toList 104 23).1 * 60=smk s.data.toList 2):=by
    rw [S0.out];exact ⟨rfl,by simp [smk,txk]⟩
   have sb:smk s.data.toList 1≤2000000000000:=by have:=prt_most s.data.toList 100 999999999;simp only [smk];omega
   clear hx S0
   go_wp2_with fail
   have PI:=part_int s' 104 104 60 23 23 (wr.alloc (.cells #[.int .u8 104,.int .i64 60,.int .i64 23] 204)) (Nat.le_trans hz hs) rfl rfl
   unfold PartSays at PI
   refine PI.mono ?_
   clear PI
   rintro e w2 ⟨rfl,hb2⟩
   obtain ⟨hc2,hf2⟩:=bcell hb2
   have hz2:wr.heap.size + 1≤w2.heap.size:=by have:=hb2.size;simpa using this
   have hz2':wr.heap.size<w2.heap.size:=by omega
   have hb3:=(hb.alloc hb.size (.cells #[.int .u8 104,.int .i64 60,.int .i64 23] 204)).trans (hb2.mono (by have:=hb.size;simp;omega))
   clear hb hb2
   generalize (prt s'.data.toList 104 23).1=p1 at *
   generalize (prt s'.data.toList 104 23).2=p2 at *
   go_wp2_with fail
   go_roundw
   case rel=>exact ⟨_,2,rfl,by rw [← NX.out.2];go_num,rfl,Nat.le_trans (size_ext _ _) hz,(drop_ext _ _).trans NX.out.1,hb3,by omega⟩
   case measure=>simp [intOf]
  rcases hk with rfl | hk
  ·have S0:Hid (s'.data.toList=txk s.data.toList 2):=hx
   have ix:=unit_2
   have pm:=prt_most s'.data.toList 109 59
   have pl:(prt s'.data.toList 109 59).2≤s'.size:=prt_len s'.data.toList 109 59
   have NX:Hid ((s'.data.toList.drop (prt s'.data.toList 109 59).2=txk s.data.toList 3)∧smk s.data.toList 2 + (prt s'.data.toList 109 59).1 * 1=smk s.data.toList 3):=by
    rw [S0.out];exact ⟨rfl,by simp [smk,sum,txk]⟩
   have sb:smk s.data.toList 2≤2000000000000:=by have:=prt_most s.data.toList 100 999999999;have:=prt_most (l1 s.data.toList) 104 23;simp only [smk];omega
   clear hx S0
   go_wp2_with fail
   have PI:=part_int s' 109 109 1 59 59 (wr.alloc (.cells #[.int .u8 109,.int .i64 1,.int .i64 59] 204)) (Nat.le_trans hz hs) rfl rfl
   unfold PartSays at PI
   refine PI.mono ?_
   clear PI
   rintro e w2 ⟨rfl,hb2⟩
   obtain ⟨hc2,hf2⟩:=bcell hb2
   have hz2:wr.heap.size + 1≤w2.heap.size:=by have:=hb2.size;simpa using this
   have hz2':wr.heap.size<w2.heap.size:=by omega
   have hb3:=(hb.alloc hb.size (.cells #[.int .u8 109,.int .i64 1,.int .i64 59] 204)).trans (hb2.mono (by have:=hb.size;simp;omega))
   clear hb hb2
   generalize (prt s'.data.toList 109 59).1=p1 at *
   generalize (prt s'.data.toList 109 59).2=p2 at *
   go_wp2_with fail
   go_roundw
   case rel=>exact ⟨_,3,rfl,by rw [← NX.out.2];go_num,rfl,Nat.le_trans (size_ext _ _) hz,(drop_ext _ _).trans NX.out.1,hb3,by omega⟩
   case measure=>simp [intOf]
  subst hk
  have sb:sum s.data.toList≤2000000000000:=by
   have q1:=prt_most s.data.toList 100 999999999
   have q2:=prt_most (l1 s.data.toList) 104 23
   have q3:=prt_most (l2 s.data.toList) 109 59
   unfold sum;omega
  have E1:Hid (smk s.data.toList 3=sum s.data.toList):=rfl
  have E2:Hid (s'.data.toList=l3 s.data.toList):=hx
  clear hx
  rw [show smk s.data.toList 3=sum s.data.toList from rfl]
  by_cases hp:(0:Int)<(sum s.data.toList:Nat)
  ·rcases he:s'.toList.isEmpty with _ | _
   ·have R:Hid (false=decide (0<sum s.data.toList∧l3 s.data.toList=[])):=by
     refine (decide_eq_false ?_).symm
     rintro ⟨_,q⟩
     rw [← E2.out,← ByteArray.toList_eq] at q
     rw [q] at he;cases he
    go_wp2
    go_ret2
    exact ⟨ret_sum rfl R.out,hb⟩
   ·have R:Hid (true=decide (0<sum s.data.toList∧l3 s.data.toList=[])):=by
     refine (decide_eq_true ⟨by omega,?_⟩).symm
     rw [← E2.out,← ByteArray.toList_eq];exact List.isEmpty_iff.1 he
    go_wp2
    go_ret2
    exact ⟨ret_sum rfl R.out,hb⟩
  ·have R:Hid (false=decide (0<sum s.data.toList∧l3 s.data.toList=[])):=(decide_eq_false (fun q=>by omega)).symm
   go_wp2
   go_ret2
   exact ⟨ret_sum rfl (by first | exact R.out | rfl),hb⟩
end Go.Proofs.YtcadomjkjoiakaaGreatDoor
namespace Go.Proofs.YtcadomjkjoiakaaGreatDoor
open Go.RowKit Cal Txt
def neg (l:List UInt8):Bool:=l.head? == some 45
theorem trim_eq (l:List UInt8):Lib.trimPrefix l [45]=unsg l∧Lib.hasPrefix l [45]=neg l:=by
 unfold Lib.trimPrefix Lib.hasPrefix unsg neg
 cases l with
 | nil=>exact ⟨rfl,rfl⟩
 | cons c l=>
   by_cases h:c=45
   ·subst h;simp
   ·have h':¬ (45:UInt8)=c:=fun x=>h x.symm
    have e1:((45:UInt8) == c)=false:=beq_eq_false_iff_ne.2 h'
    have e2:(c == (45:UInt8))=false:=beq_eq_false_iff_ne.2 h
    simp [List.isPrefixOf,e1,e2,h]
theorem cut_any (s:ByteArray) (w:World) :
 Calls Tryz.prog 171 #[.string s,.string ⟨#[45]⟩] w fun e w'=>e=.returned (.tuple #[.string ⟨(unsg s.data.toList).toArray⟩,.bool (neg s.data.toList)])∧w'=w:=by
 have h:=Tryz.strings_CutPrefix s ⟨#[45]⟩ w
 have e:(⟨#[45]⟩:ByteArray).data.toList=[45]:=rfl
 rw [e,(trim_eq _).1,(trim_eq _).2] at h
 exact h
theorem unsg_len (l:List UInt8):(unsg l).length≤l.length:=by
 unfold unsg;split <;> simp
theorem ret_span {a b:Int} {c d:Value} (h:a=b) (g:c=d):Ending.returned (.tuple #[.int .i64 a,c])=.returned (.tuple #[.int .i64 b,d]):=by rw [h,g]
theorem span_zero (s:ByteArray) (w:World) (h:s.data.toList=[48,109]) :
 Calls Tryz.prog 112 #[.string s] w fun e w'=>e=.returned (.tuple #[.int .i64 (spn s.data.toList).1,fault (spn s.data.toList).2])∧Below w.heap.size w w':=by
 obtain rfl:s=⟨#[48,109]⟩:=by apply ByteArray.ext;apply Array.ext';exact h
 clear h
 go_enter Tryz.func112,Tryz.ntmps112
 go_wp2
 go_ret2
 exact ⟨rfl,Below.refl _ _⟩
set_option maxRecDepth 100000 in
set_option maxHeartbeats 1000000 in
theorem span_bad (s:ByteArray) (w:World) (hs:s.size≤maxLen) (hU:Uni w) (h:¬ s.data.toList=[48,109]) (hn:spOf (unsg s.data.toList)=none) :
 Calls Tryz.prog 112 #[.string s] w fun e w'=>e=.returned (.tuple #[.int .i64 (spn s.data.toList).1,fault (spn s.data.toList).2])∧Below w.heap.size w w':=by
 have q1:(s.toList == [48,109])=false:=by rw [ByteArray.toList_eq];exact beq_eq_false_iff_ne.2 h
 have r:spn s.data.toList=(0,2):=by unfold spn;rw [if_neg h,hn]
 have R:=Lib.hid r
 clear r
 have sp:decide (0<sum (unsg s.data.toList)∧l3 (unsg s.data.toList)=[])=false:=by
  unfold spOf at hn;split at hn
  ·cases hn
  ·exact decide_eq_false ‹_›
 have SP:=Lib.hid sp
 clear sp hn
 have hz:(⟨(unsg s.data.toList).toArray⟩:ByteArray).size≤maxLen:=by
  have:=unsg_len s.data.toList;rw [size_len] at this
  have e:(⟨(unsg s.data.toList).toArray⟩:ByteArray).size=(unsg s.data.toList).length:=rfl
  omega
 clear h
 go_enter Tryz.func112,Tryz.ntmps112
 go_wp2_with fail
 refine (cut_any s _).mono ?_
 rintro e w' ⟨rfl,rfl⟩
 go_wp2_with fail
 refine (sumParts_any _ _ hz hU).mono ?_
 rintro e w2 ⟨rfl,hb⟩
 rw [SP.out]
 go_wp2
 go_ret2
 exact ⟨ret_span (by rw [R.out]) (by rw [R.out];rfl),hb⟩
set_option maxRecDepth 100000 in
set_option maxHeartbeats 1000000 in
theorem span_big (s:ByteArray) (w:World) (hs:s.size≤maxLen) (hU:Uni w) (h:¬ s.data.toList=[48,109]) (n:Nat) (hn:spOf (unsg s.data.toList)=some n) (hb0:1000000<n) (hb1:n≤2000000000000) :
 Calls Tryz.prog 112 #[.string s] w fun e w'=>e=.returned (.tuple #[.int .i64 (spn s.data.toList).1,fault (spn s.data.toList).2])∧Below w.heap.size w w':=by
 have q1:(s.toList == [48,109])=false:=by rw [ByteArray.toList_eq];exact beq_eq_false_iff_ne.2 h
 have r:spn s.data.toList=(0,1):=by unfold spn;rw [if_neg h,hn];exact if_pos hb0
 have R:=Lib.hid r
 clear r
 have sp:decide (0<sum (unsg s.data.toList)∧l3 (unsg s.data.toList)=[])=true∧sum (unsg s.data.toList)=n:=by
  unfold spOf at hn;split at hn
  ·exact ⟨decide_eq_true ‹_›,Option.some.inj hn⟩
  ·cases hn
 have SP:=Lib.hid sp
 clear sp hn
 have hz:(⟨(unsg s.data.toList).toArray⟩:ByteArray).size≤maxLen:=by
  have:=unsg_len s.data.toList;rw [size_len] at this
  have e:(⟨(unsg s.data.toList).toArray⟩:ByteArray).size=(unsg s.data.toList).length:=rfl
  omega
 clear h
 go_enter Tryz.func112,Tryz.ntmps112
 go_wp2_with fail
 refine (cut_any s _).mono ?_
 rintro e w' ⟨rfl,rfl⟩
 go_wp2_with fail
 refine (sumParts_any _ _ hz hU).mono ?_
 rintro e w2 ⟨rfl,hb⟩
 rw [SP.out.1,SP.out.2]
 have hb2:(1000000:Int)<n:=by omega
 go_wp2
 go_ret2
 exact ⟨ret_span (by rw [R.out]) (by rw [R.out];rfl),hb⟩
set_option maxRecDepth 100000 in
set_option maxHeartbeats 1000000 in
theorem span_neg (s:ByteArray) (w:World) (hs:s.size≤maxLen) (hU:Uni w) (h:¬ s.data.toList=[48,109]) (n:Nat) (hn:spOf (unsg s.data.toList)=some n) (hb0:n≤1000000) (hg:neg s.data.toList=true) :
 Calls Tryz.prog 112 #[.string s] w fun e w'=>e=.returned (.tuple #[.int .i64 (spn s.data.toList).1,fault (spn s.data.toList).2])∧Below w.heap.size w w':=by
 have q1:(s.toList == [48,109])=false:=by rw [ByteArray.toList_eq];exact beq_eq_false_iff_ne.2 h
 have r:spn s.data.toList=(-(n:Int),0):=by
  unfold spn;rw [if_neg h,hn]
  exact (if_neg (by omega)).trans (by rw [if_pos (by unfold neg at hg;exact eq_of_beq hg)])
 have R:=Lib.hid r
 clear r
 have sp:decide (0<sum (unsg s.data.toList)∧l3 (unsg s.data.toList)=[])=true∧sum (unsg s.data.toList)=n:=by
  unfold spOf at hn;split at hn
  ·exact ⟨decide_eq_true ‹_›,Option.some.inj hn⟩
  ·cases hn
 have SP:=Lib.hid sp
 clear sp hn
 have hz:(⟨(unsg s.data.toList).toArray⟩:ByteArray).size≤maxLen:=by
  have:=unsg_len s.data.toList;rw [size_len] at this
  have e:(⟨(unsg s.data.toList).toArray⟩:ByteArray).size=(unsg s.data.toList).length:=rfl
  omega
 clear h
 go_enter Tryz.func112,Tryz.ntmps112
 go_wp2_with fail
 refine (cut_any s _).mono ?_
 rintro e w' ⟨rfl,rfl⟩
 go_wp2_with fail
 refine (sumParts_any _ _ hz hU).mono ?_
 rintro e w2 ⟨rfl,hb⟩
 rw [SP.out.1,SP.out.2]
 have hb2:¬ (1000000:Int)<n:=by omega
 go_wp2
 go_ret2
 exact ⟨ret_span (by rw [R.out]) (by rw [R.out];rfl),hb⟩
set_option maxRecDepth 100000 in
set_option maxHeartbeats 1000000 in
theorem span_pos (s:ByteArray) (w:World) (hs:s.size≤maxLen) (hU:Uni w) (h:¬ s.data.toList=[48,109]) (n:Nat) (hn:spOf (unsg s.data.toList)=some n) (hb0:n≤1000000) (hg:neg s.data.toList=false) :
 Calls Tryz.prog 112 #[.string s] w fun e w'=>e=.returned (.tuple #[.int .i64 (spn s.data.toList).1,fault (spn s.data.toList).2])∧Below w.heap.size w w':=by
 have q1:(s.toList == [48,109])=false:=by rw [ByteArray.toList_eq];exact beq_eq_false_iff_ne.2 h
 have r:spn s.data.toList=((n:Int),0):=by
  unfold spn;rw [if_neg h,hn]
  exact (if_neg (by omega)).trans (by rw [if_neg (by unfold neg at hg;exact beq_eq_false_iff_ne.1 hg)])
 have R:=Lib.hid r
 clear r
 have sp:decide (0<sum (unsg s.data.toList)∧l3 (unsg s.data.toList)=[])=true∧sum (unsg s.data.toList)=n:=by
  unfold spOf at hn;split at hn
  ·exact ⟨decide_eq_true ‹_›,Option.some.inj hn⟩
  ·cases hn
 have SP:=Lib.hid sp
 clear sp hn
 have hz:(⟨(unsg s.data.toList).toArray⟩:ByteArray).size≤maxLen:=by
  have:=unsg_len s.data.toList;rw [size_len] at this
  have e:(⟨(unsg s.data.toList).toArray⟩:ByteArray).size=(unsg s.data.toList).length:=rfl
  omega
 clear h
 go_enter Tryz.func112,Tryz.ntmps112
 go_wp2_with fail
 refine (cut_any s _).mono ?_
 rintro e w' ⟨rfl,rfl⟩
 go_wp2_with fail
 refine (sumParts_any _ _ hz hU).mono ?_
 rintro e w2 ⟨rfl,hb⟩
 rw [SP.out.1,SP.out.2]
 have hb2:¬ (1000000:Int)<n:=by omega
 go_wp2
 go_ret2
 exact ⟨ret_span (by rw [R.out]) (by rw [R.out];rfl),hb⟩
theorem sum_le (l:List UInt8):sum l≤2000000000000:=by
 have q1:=prt_most l 100 999999999
 have q2:=prt_most (l1 l) 104 23
 have q3:=prt_most (l2 l) 109 59
 unfold sum;omega
theorem span_any (s:ByteArray) (w:World) (hs:s.size≤maxLen) (hU:Uni w) :
 Calls Tryz.prog 112 #[.string s] w fun e w'=>e=.returned (.tuple #[.int .i64 (spn s.data.toList).1,fault (spn s.data.toList).2])∧Below w.heap.size w w':=by
 by_cases h:s.data.toList=[48,109]
 ·exact span_zero s w h
 cases hn:spOf (unsg s.data.toList) with
 | none=>exact span_bad s w hs hU h hn
 | some n=>
   by_cases hb:1000000<n
   ·refine span_big s w hs hU h n hn hb ?_
    unfold spOf at hn;split at hn
    ·have:=sum_le (unsg s.data.toList);have:=Option.some.inj hn;omega
    ·cases hn
   ·cases hg:neg s.data.toList
    ·exact span_pos s w hs hU h n hn (by omega) hg
    ·exact span_neg s w hs hU h n hn (by omega) hg
end Go.Proofs.YtcadomjkjoiakaaGreatDoor
namespace Go.Proofs.YtcadomjkjoiakaaGreatDoor
open Go.RowKit Cal Txt
theorem pspan_zero (w:World) :
 Calls Tryz.prog 103 #[.int .i64 0] w fun e w'=>e=.returned (.tuple #[.string ⟨(spt 0).toArray⟩,.nilIface])∧Below w.heap.size w w':=by
 go_enter Tryz.func103,Tryz.ntmps103
 go_wp2
 go_ret2
 exact ⟨rfl,Below.refl _ _⟩
def nk (a:Nat):Nat→Nat
 | 0=>a
 | 1=>a % 1440
 | 2=>a % 60
 | _=>0
def tkS (sg:List UInt8) (a:Nat):Nat→List UInt8
 | 0=>sg
 | 1=>sg++pc (a / 1440) 100
 | 2=>sg++pc (a / 1440) 100++pc (a % 1440 / 60) 104
 | _=>sg++prts a
theorem byte_str (W:World):(Go.convert 5 9 (.int .u8 100)).run Tryz.prog W=.ok (.string ⟨#[100]⟩) W∧(Go.convert 5 9 (.int .u8 104)).run Tryz.prog W=.ok (.string ⟨#[104]⟩) W∧(Go.convert 5 9 (.int .u8 109)).run Tryz.prog W=.ok (.string ⟨#[109]⟩) W:=⟨by kernel_rfl,by kernel_rfl,by kernel_rfl⟩
theorem app_list (s:ByteArray) (l:List UInt8) (c:UInt8):(s++((⟨l.toArray⟩:ByteArray)++⟨#[c]⟩)).data.toList=s.data.toList++(l++[c]):=by simp
theorem app_size (s:ByteArray) (l:List UInt8) (c:UInt8):(s++((⟨l.toArray⟩:ByteArray)++⟨#[c]⟩)).size=s.size + l.length + 1:=by
 have e:∀ x:ByteArray,x.size=x.data.toList.length:=fun _=>rfl
 rw [e,app_list];simp;omega
set_option maxRecDepth 100000 in
set_option maxHeartbeats 8000000 in
theorem pspan_walk (sg:List UInt8) (a:Nat) (n:Int) (w:World) (hP:Pow w) (hU:Uni w) (ha:1≤a) (ha2:a≤1000000)
 (hn:(n<0∧-n=a∧sg=[45])∨(¬ n<0∧n=a∧sg=[])) :
 Calls Tryz.prog 103 #[.int .i64 n] w fun e w'=>e=.returned (.tuple #[.string ⟨(sg++prts a).toArray⟩,.nilIface])∧Below w.heap.size w w':=by
 have nz:(n == 0)=false:=by rw [beq_eq_false_iff_ne];omega
 obtain ⟨⟨a0,a1,a2⟩,⟨b0,b1,b2⟩,⟨c0,c1,c2⟩⟩:=hU
 rcases hn with ⟨g,e,es⟩ | ⟨g,e,es⟩
 all_goals
  have E:=Lib.hid e
  have ES:=Lib.hid es
  have gb1:-1000000≤n:=by omega
  have gb2:n≤1000000:=by omega
  clear e es
  go_enter Tryz.func103,Tryz.ntmps103
  go_wp2
  go_loopw [0,4,22] (fun m t i wr=>∃ (s':ByteArray) (k:Nat),m=.int .i64 (nk a k:Nat)∧t=.string s'∧i=.int .i64 k∧s'.data.toList=tkS sg a k∧s'.size≤1 + 10 * k∧Pow wr∧Below w.heap.size w wr∧(k=0∨k=1∨k=2∨k=3)) (fun _ _ i _=>3 - (intOf i).toNat)
  case atStart=>exact ⟨_,0,by rw [E.out];rfl,rfl,rfl,by rw [ES.out];rfl,by decide,hP,Below.refl _ _,Or.inl rfl⟩
  case round=>
   clear a0 a1 a2 b0 b1 b2 c0 c1 c2 hP E ES gb1 gb2 g nz
   obtain ⟨s',k,rfl,rfl,rfl,hx,hz,hP,hb,hk⟩:=hrel
   rcases hk with rfl | hk
   ·have ix:=unit_0
    have bs:=fun W=>(byte_str W).1
    have X0:Hid (s'.data.toList=tkS sg a 0):=hx
    clear hx
    rw [show nk a 0=a from rfl]
    by_cases hq:0<((a:Int) / 1440)
    ·have dl:(Lib.decDigits ((a:Int) / 1440).toNat).length≤9:=dec_len _ 8 (by omega)
     have t1:s'.data.toList++(Lib.decDigits ((a:Int) / 1440).toNat++[100])=tkS sg a 1:=by
      rw [X0.out,show ((a:Int) / 1440).toNat=(a / 1440) by omega]
      have e:=pc_pos (k:=(a / 1440)) (by omega) 100
      simp only [tkS]
      rw [← e]
     have T1:=Lib.hid t1
     clear t1
     go_wp2_with fail
     have hP2:=hP.alloc (.cells #[.int .u8 100,.int .i64 1440,.int .i64 999999999] 204)
     have hb2:=hb.alloc hb.size (.cells #[.int .u8 100,.int .i64 1440,.int .i64 999999999] 204)
     have E_0:(wr.alloc (.cells #[.int .u8 100,.int .i64 1440,.int .i64 999999999] 204)).cell? ⟨wr.heap.size,0,none⟩=some (.int .u8 100):=by simp
     have E_1:(wr.alloc (.cells #[.int .u8 100,.int .i64 1440,.int .i64 999999999] 204)).cell? ⟨wr.heap.size,1,none⟩=some (.int .i64 1440):=by simp
     have E_l:wr.heap.size<(wr.alloc (.cells #[.int .u8 100,.int .i64 1440,.int .i64 999999999] 204)).heap.size:=by simp
     clear hP hb
     generalize (wr.alloc (.cells #[.int .u8 100,.int .i64 1440,.int .i64 999999999] 204))=W at hP2 hb2 E_0 E_1 E_l ⊢
     have k0:=cell_regrown E_0
     refine wp_region_quiet_below (by kernel_rfl) (by kernel_rfl) ?_
     have n1:¬ 9223372036854775807<(Lib.decDigits ((a:Int) / 1440).toNat).length + 1:=by omega
     have n2:¬ 9223372036854775807<s'.size + ((Lib.decDigits ((a:Int) / 1440).toNat).length + 1):=by omega
     repeat (quiet_step (first | (go_at_call 106;exact Calls.regrown_of (itoa_any _ _ (hP2.below (below_regrown W _ _)) (by omega) (by omega)))))
     refine wpQuiet_nil ?_
     intro _ hw'
     obtain ⟨⟨dq,osq⟩,hw''⟩:=hw'
     subst hw''
     have hP3:=hP2.below (below_regrown W dq osq)
     have hb3:=hb2.trans ((below_regrown W dq osq).mono hb2.size)
     have E_1':=cell_regrown E_1 dq osq
     have E_l':wr.heap.size<(Sort.grow (redrawn W dq) osq).heap.size:=Nat.lt_of_lt_of_le E_l (below_regrown W dq osq).size
     clear k0 E_0 E_1 E_l hP2 hb2
     generalize Sort.grow (redrawn W dq) osq=W3 at hP3 hb3 E_1' E_l' ⊢
     go_wp2_with fail
     go_roundw
     case rel=>exact ⟨_,1,by rw [show nk a 1=a % 1440 from rfl];go_num,rfl,rfl,(app_list _ _ _).trans T1.out,by rw [app_size];omega,hP3,hb3,by omega⟩
     case measure=>simp [intOf]
    ·have t1:s'.data.toList=tkS sg a 1:=by
      rw [X0.out]
      have e:(a / 1440)=0:=by omega
      simp only [tkS]
      rw [e]
      simp [pc_zero]
     have T1:=Lib.hid t1
     clear t1
     go_wp2_with fail
     have hP2:=hP.alloc (.cells #[.int .u8 100,.int .i64 1440,.int .i64 999999999] 204)
     have hb2:=hb.alloc hb.size (.cells #[.int .u8 100,.int .i64 1440,.int .i64 999999999] 204)
     clear hP hb
     go_roundw
     case rel=>exact ⟨_,1,by rw [show nk a 1=a % 1440 from rfl];go_num,rfl,rfl,T1.out,by omega,hP2,hb2,by omega⟩
     case measure=>simp [intOf]
   rcases hk with rfl | hk
   ·have ix:=unit_1
    have bs:=fun W=>(byte_str W).2.1
    have X0:Hid (s'.data.toList=tkS sg a 1):=hx
    clear hx
    rw [show nk a 1=a % 1440 from rfl]
    by_cases hq:0<((a:Int) % 1440 / 60)
    ·have dl:(Lib.decDigits ((a:Int) % 1440 / 60).toNat).length≤9:=dec_len _ 8 (by omega)
     have t1:s'.data.toList++(Lib.decDigits ((a:Int) % 1440 / 60).toNat++[104])=tkS sg a 2:=by
      rw [X0.out,show ((a:Int) % 1440 / 60).toNat=(a % 1440 / 60) by omega]
      have e:=pc_pos (k:=(a % 1440 / 60)) (by omega) 104
      simp only [tkS,List.append_assoc]
      rw [← e]
     have T1:=Lib.hid t1
     clear t1
     go_wp2_with fail
     have hP2:=hP.alloc (.cells #[.int .u8 104,.int .i64 60,.int .i64 23] 204)
     have hb2:=hb.alloc hb.size (.cells #[.int .u8 104,.int .i64 60,.int .i64 23] 204)
     have E_0:(wr.alloc (.cells #[.int .u8 104,.int .i64 60,.int .i64 23] 204)).cell? ⟨wr.heap.size,0,none⟩=some (.int .u8 104):=by simp
     have E_1:(wr.alloc (.cells #[.int .u8 104,.int .i64 60,.int .i64 23] 204)).cell? ⟨wr.heap.size,1,none⟩=some (.int .i64 60):=by simp
     have E_l:wr.heap.size<(wr.alloc (.cells #[.int .u8 104,.int .i64 60,.int .i64 23] 204)).heap.size:=by simp
     clear hP hb
     generalize (wr.alloc (.cells #[.int .u8 104,.int .i64 60,.int .i64 23] 204))=W at hP2 hb2 E_0 E_1 E_l ⊢
     have k0:=cell_regrown E_0
     refine wp_region_quiet_below (by kernel_rfl) (by kernel_rfl) ?_
     have n1:¬ 9223372036854775807<(Lib.decDigits ((a:Int) % 1440 / 60).toNat).length + 1:=by omega
     have n2:¬ 9223372036854775807<s'.size + ((Lib.decDigits ((a:Int) % 1440 / 60).toNat).length + 1):=by omega
     repeat (quiet_step (first | (go_at_call 106;exact Calls.regrown_of (itoa_any _ _ (hP2.below (below_regrown W _ _)) (by omega) (by omega)))))
     refine wpQuiet_nil ?_
     intro _ hw'
     obtain ⟨⟨dq,osq⟩,hw''⟩:=hw'
     subst hw''
     have hP3:=hP2.below (below_regrown W dq osq)
     have hb3:=hb2.trans ((below_regrown W dq osq).mono hb2.size)
     have E_1':=cell_regrown E_1 dq osq
     have E_l':wr.heap.size<(Sort.grow (redrawn W dq) osq).heap.size:=Nat.lt_of_lt_of_le E_l (below_regrown W dq osq).size
     clear k0 E_0 E_1 E_l hP2 hb2
     generalize Sort.grow (redrawn W dq) osq=W3 at hP3 hb3 E_1' E_l' ⊢
     go_wp2_with fail
     go_roundw
     case rel=>exact ⟨_,2,by rw [show nk a 2=a % 60 from rfl];go_num,rfl,rfl,(app_list _ _ _).trans T1.out,by rw [app_size];omega,hP3,hb3,by omega⟩
     case measure=>simp [intOf]
    ·have t1:s'.data.toList=tkS sg a 2:=by
      rw [X0.out]
      have e:(a % 1440 / 60)=0:=by omega
      simp only [tkS]
      rw [e]
      simp [pc_zero]
     have T1:=Lib.hid t1
     clear t1
     go_wp2_with fail
     have hP2:=hP.alloc (.cells #[.int .u8 104,.int .i64 60,.int .i64 23] 204)
     have hb2:=hb.alloc hb.size (.cells #[.int .u8 104,.int .i64 60,.int .i64 23] 204)
     clear hP hb
     go_roundw
     case rel=>exact ⟨_,2,by rw [show nk a 2=a % 60 from rfl];go_num,rfl,rfl,T1.out,by omega,hP2,hb2,by omega⟩
     case measure=>simp [intOf]
   rcases hk with rfl | hk
   ·have ix:=unit_2
    have bs:=fun W=>(byte_str W).2.2
    have X0:Hid (s'.data.toList=tkS sg a 2):=hx
    clear hx
    rw [show nk a 2=a % 60 from rfl]
    by_cases hq:0<((a:Int) % 60)
    ·have dl:(Lib.decDigits ((a:Int) % 60).toNat).length≤9:=dec_len _ 8 (by omega)
     have t1:s'.data.toList++(Lib.decDigits ((a:Int) % 60).toNat++[109])=tkS sg a 3:=by
      rw [X0.out,show ((a:Int) % 60).toNat=(a % 60) by omega]
      have e:=pc_pos (k:=(a % 60)) (by omega) 109
      simp only [tkS,prts,List.append_assoc]
      rw [← e]
     have T1:=Lib.hid t1
     clear t1
     go_wp2_with fail
     have hP2:=hP.alloc (.cells #[.int .u8 109,.int .i64 1,.int .i64 59] 204)
     have hb2:=hb.alloc hb.size (.cells #[.int .u8 109,.int .i64 1,.int .i64 59] 204)
     have E_0:(wr.alloc (.cells #[.int .u8 109,.int .i64 1,.int .i64 59] 204)).cell? ⟨wr.heap.size,0,none⟩=some (.int .u8 109):=by simp
     have E_1:(wr.alloc (.cells #[.int .u8 109,.int .i64 1,.int .i64 59] 204)).cell? ⟨wr.heap.size,1,none⟩=some (.int .i64 1):=by simp
     have E_l:wr.heap.size<(wr.alloc (.cells #[.int .u8 109,.int .i64 1,.int .i64 59] 204)).heap.size:=by simp
     clear hP hb
     generalize (wr.alloc (.cells #[.int .u8 109,.int .i64 1,.int .i64 59] 204))=W at hP2 hb2 E_0 E_1 E_l ⊢
     have k0:=cell_regrown E_0
     refine wp_region_quiet_below (by kernel_rfl) (by kernel_rfl) ?_
     have n1:¬ 9223372036854775807<(Lib.decDigits ((a:Int) % 60).toNat).length + 1:=by omega
     have n2:¬ 9223372036854775807<s'.size + ((Lib.decDigits ((a:Int) % 60).toNat).length + 1):=by omega
     repeat (quiet_step (first | (go_at_call 106;exact Calls.regrown_of (itoa_any _ _ (hP2.below (below_regrown W _ _)) (by omega) (by omega)))))
     refine wpQuiet_nil ?_
     intro _ hw'
     obtain ⟨⟨dq,osq⟩,hw''⟩:=hw'
     subst hw''
     have hP3:=hP2.below (below_regrown W dq osq)
     have hb3:=hb2.trans ((below_regrown W dq osq).mono hb2.size)
     have E_1':=cell_regrown E_1 dq osq
     have E_l':wr.heap.size<(Sort.grow (redrawn W dq) osq).heap.size:=Nat.lt_of_lt_of_le E_l (below_regrown W dq osq).size
     clear k0 E_0 E_1 E_l hP2 hb2
     generalize Sort.grow (redrawn W dq) osq=W3 at hP3 hb3 E_1' E_l' ⊢
     go_wp2_with fail
     go_roundw
     case rel=>exact ⟨_,3,by rw [show nk a 3=0 from rfl];go_num,rfl,rfl,(app_list _ _ _).trans T1.out,by rw [app_size];omega,hP3,hb3,by omega⟩
     case measure=>simp [intOf]
    ·have t1:s'.data.toList=tkS sg a 3:=by
      rw [X0.out]
      have e:(a % 60)=0:=by omega
      simp only [tkS,prts]
      rw [e]
      simp [pc_zero]
     have T1:=Lib.hid t1
     clear t1
     go_wp2_with fail
     have hP2:=hP.alloc (.cells #[.int .u8 109,.int .i64 1,.int .i64 59] 204)
     have hb2:=hb.alloc hb.size (.cells #[.int .u8 109,.int .i64 1,.int .i64 59] 204)
     clear hP hb
     go_roundw
     case rel=>exact ⟨_,3,by rw [show nk a 3=0 from rfl];go_num,rfl,rfl,T1.out,by omega,hP2,hb2,by omega⟩
     case measure=>simp [intOf]
   subst hk
   have X:Hid (s'=⟨(sg++prts a).toArray⟩):=by
    apply ByteArray.ext;apply Array.ext';exact hx
   clear hx
   go_wp2
   go_ret2
   exact ⟨ret_strNil X.out,hb⟩
theorem pspan_yes (n:Int) (w:World) (hP:Pow w) (hU:Uni w) (h1:-1000000≤n) (h2:n≤1000000) :
 Calls Tryz.prog 103 #[.int .i64 n] w fun e w'=>e=.returned (.tuple #[.string ⟨(spt n).toArray⟩,.nilIface])∧Below w.heap.size w w':=by
 by_cases h:n=0
 ·subst h;exact pspan_zero w
 ·have:=pspan_walk (if n<0 then [45] else []) n.natAbs n w hP hU (by omega) (by omega) (by
   by_cases g:n<0
   ·exact Or.inl ⟨g,by omega,if_pos g⟩
   ·exact Or.inr ⟨g,by omega,if_neg g⟩)
  have e:spt n=(if n<0 then [45] else [])++prts n.natAbs:=by unfold spt;rw [if_neg h]
  rw [e];exact this
end Go.Proofs.YtcadomjkjoiakaaGreatDoor
namespace Go.Proofs.YtcadomjkjoiakaaGreatDoor
open Go.RowKit Cal Txt
def KeepC (w W:World):Prop:=Tab W∧Pow W∧Uni W∧Below w.heap.size w W
theorem KeepC.start {w:World} (hT:Tab w) (hP:Pow w) (hU:Uni w):KeepC w w:=⟨hT,hP,hU,Below.refl _ _⟩
theorem KeepC.on {w W W':World} (h:KeepC w W) (b:Below W.heap.size W W'):KeepC w W':=⟨h.1.below b,h.2.1.below b,h.2.2.1.below b,h.2.2.2.trans (b.mono h.2.2.2.size)⟩
theorem KeepC.alloc {w W:World} (h:KeepC w W) (o:Obj):KeepC w (W.alloc o):=h.on ((Below.refl _ _).alloc (Nat.le_refl _) _)
theorem parse_err (s:ByteArray) (w:World) (hT:Tab w) (h:¬ (frm s.data.toList=true∧good s.data.toList)) :
 Calls Tryz.prog 111 #[.string s] w fun e w'=>∃ k:Int,e=.returned (.tuple #[.int .i64 0,.iface 73 (.int .i64 k)])∧Below w.heap.size w w':=by
 rcases hf:frm s.data.toList with _ | _
 ·exact (parse_bad s w hf).mono fun e w' h=>⟨2,h⟩
 ·by_cases hm:nm s.data.toList 14 16≤59
  ·exact (parse_none s w hT hf hm (fun g=>h ⟨hf,g⟩)).mono fun e w' h=>⟨1,h⟩
  ·exact (parse_min s w hT hf hm).mono fun e w' h=>⟨1,h⟩
theorem span_nil (u:ByteArray) (w:World) (hs:u.size≤maxLen) (hU:Uni w) (h:(spn u.data.toList).2=0) :
 Calls Tryz.prog 112 #[.string u] w fun e w'=>e=.returned (.tuple #[.int .i64 (spn u.data.toList).1,.nilIface])∧Below w.heap.size w w':=by
 have:=span_any u w hs hU
 unfold fault at this
 rw [if_pos h] at this
 exact this
theorem span_err (u:ByteArray) (w:World) (hs:u.size≤maxLen) (hU:Uni w) (h:¬ (spn u.data.toList).2=0) :
 Calls Tryz.prog 112 #[.string u] w fun e w'=>e=.returned (.tuple #[.int .i64 (spn u.data.toList).1,.iface 73 (.int .i64 (spn u.data.toList).2)])∧Below w.heap.size w w':=by
 have:=span_any u w hs hU
 unfold fault at this
 rw [if_neg h] at this
 exact this
end Go.Proofs.YtcadomjkjoiakaaGreatDoor
