/-
  Texts of our own that serve the card of this claim, joined into one.
-/
import Derived.Test.YtcadomjkjoiakaaGreatDoorQM
import Derived.Test.YtcadomjkjoiakaaGreatDoorCP
namespace Go.Proofs.YtcadomjkjoiakaaGreatDoor
open Go.RowKit Go Cal Txt Ln Cb
set_option maxRecDepth 100000 in
set_option maxHeartbeats 1600000 in
theorem read_4 (e:Evt) (nx b n1:Nat) (s:Evs) (S:Nat→Prop) (val:ByteArray) (w:World) (h:RdJ b n1 e nx s S w) (hK:∀ W,Below n1 w W→KeepK W) (hs:val.size≤2000000) :
 Calls Tryz.prog 81 #[.pointer (some ⟨b,0,none⟩),.string ⟨#[82,85,76,69]⟩,.string val] w (RdA 4 e s nx b n1 S val.data.toList w):=by
 obtain ⟨p1,p2⟩:=h.put 4 (.bool true) (e':={ e with rep:=true }) rfl ⟨rfl,rfl,rfl,rfl,rfl⟩
 have b4:Below n1 w (w.setCell ⟨b,4,none⟩ (.bool true)):=p2.below (fun k hk=>(h.lt k hk).1) (Nat.le_trans h.hn (Nat.le_of_lt h.rb.lt))
 have K:=Lib.hid (parse_far val (w.setCell ⟨b,4,none⟩ (.bool true)) (hK _ b4).kp hs)
 have c0:=h.rb.cell 4 _ rfl
 have f0:=h.rb.fz 4
 have bl:=h.rb.lt
 have HP1:=Lib.hid p1
 have HP2:=Lib.hid p2
 have HL:=Lib.hid h.lt
 have sz4:(w.setCell ⟨b,4,none⟩ (.bool true)).heap.size=w.heap.size:=by simp [World.setCell]
 clear h hK p1 p2 b4
 go_enter Tryz.func81,Tryz.ntmps81
 go_wp2_with fail
 refine K.out.mono ?_
 rintro x0 w1 ⟨hb,hx⟩
 have J1:=HP1.out.keep hb
 have c5:=J1.rb.cell 5 _ rfl
 have f5:=J1.rb.fz 5
 have c6:=J1.rb.cell 6 _ rfl
 have f6:=J1.rb.fz 6
 have c7:=J1.rb.cell 7 _ rfl
 have f7:=J1.rb.fz 7
 have c8:=J1.rb.cell 8 _ rfl
 have f8:=J1.rb.fz 8
 have c9:=J1.rb.cell 9 _ rfl
 have f9:=J1.rb.fz 9
 have c10:=J1.rb.cell 10 _ rfl
 have f10:=J1.rb.fz 10
 have c11:=J1.rb.cell 11 _ rfl
 have f11:=J1.rb.fz 11
 have c12:=J1.rb.cell 12 _ rfl
 have f12:=J1.rb.fz 12
 have bl1:=J1.rb.lt
 have HB:=Lib.hid hb
 have HJ:=Lib.hid J1
 clear K c0 f0 HP1
 rcases hx with ⟨hp,rfl⟩ | ⟨r,v,hr,hf,rfl,vm,vd,vw,vp,rfl,⟨hm,fm⟩,⟨hd,fd⟩,⟨hw,fw⟩,hq,fq⟩
 ·have RN:rd 4 e val.data.toList=none:=by
   rw [rd4]
   have:ruO val.data.toList=none:=by
    unfold ruO
    unfold pe at hp
    cases hr:rr val.data.toList with
    | none=>rfl
    | some r=>rw [hr] at hp;exact if_neg hp
   rw [this];rfl
  have Z:Hid (RdA 4 e s nx b n1 S val.data.toList w (.returned (.bool false)) (w1.setCells b 5 [.int .i64 0,.int .i64 0,.int .i64 0,.int .i64 0,.slice none 0 0,.slice none 0 0,.slice none 0 0,.slice none 0 0])):=Lib.hid (Or.inr ⟨RN,rfl,(HP2.out.trans (Kps.of_below (S:=S) HB.out) (Gr.refl _ _)).trans ((kps_cells b _ _ _).mono (S1:=S) (fun k z=>by rw [z];exact (HJ.out.hs b).2 (Or.inl rfl))) (Gr.refl _ _)⟩)
  clear hp RN HJ HB hb J1 HP2
  simp only [World.setCells] at Z
  go_wp2
  go_ret
  exact Z.out
 ·obtain ⟨am,cm,rfl,_⟩:=id hm
  obtain ⟨ad,cd,rfl,_⟩:=id hd
  obtain ⟨aw,cw,rfl,_⟩:=id hw
  obtain ⟨ap,cp,rfl,_⟩:=id hq
  have RN:rd 4 e val.data.toList=some { e with rep:=true,rule:=r }:=by
   rw [rd4]
   have:ruO val.data.toList=some r:=by unfold ruO;rw [hr];exact if_pos hf
   rw [this];rfl
  have kc:=kps_cells b [.int .i64 r.freq,.int .i64 r.every,.int .i64 r.count,.int .i64 r.till,.slice am r.months.length cm,.slice ad r.days.length cd,.slice aw r.weeks.length cw,.slice ap r.pick.length cp] 5 w1
  have off:∀ v,Far (w.setCell ⟨b,4,none⟩ (.bool true)).heap.size v→∀ a n c,v=.slice (some a) n c→¬ S a.block:=fun v fv a n c ev z=>by
   have z1:=fv a n c ev
   have z2:=(HL.out _ z).2
   omega
  have offb:∀ v,Far (w.setCell ⟨b,4,none⟩ (.bool true)).heap.size v→∀ a n c,v=.slice (some a) n c→a.block≠b:=fun v fv a n c ev z=>by
   have z1:=fv a n c ev
   omega
  have RI:∀ {v:Value} {l:List Int},Ints w1 v l→Far (w.setCell ⟨b,4,none⟩ (.bool true)).heap.size v→IntO (w1.setCells b 5 [.int .i64 r.freq,.int .i64 r.every,.int .i64 r.count,.int .i64 r.till,.slice am r.months.length cm,.slice ad r.days.length cd,.slice aw r.weeks.length cw,.slice ap r.pick.length cp]) S v l:=fun {v l} hi hfv=>by
   have q:IntO w1 (fun k=>k=b) v l:=⟨hi,Or.inr (fun a n c ev=>offb v hfv a n c ev)⟩
   exact ⟨(q.on (Gr.refl _ _) kc).1,Or.inr (off v hfv)⟩
  have RNt:NthO (w1.setCells b 5 [.int .i64 r.freq,.int .i64 r.every,.int .i64 r.count,.int .i64 r.till,.slice am r.months.length cm,.slice ad r.days.length cd,.slice aw r.weeks.length cw,.slice ap r.pick.length cp]) S (.slice aw r.weeks.length cw) r.weeks:=by
   have q:NthO w1 (fun k=>k=b) (.slice aw r.weeks.length cw) r.weeks:=⟨hw,Or.inr (fun a n c ev=>offb _ fw a n c ev)⟩
   exact ⟨(q.on (Gr.refl _ _) kc).1,Or.inr (off _ fw)⟩
  obtain ⟨n5,n6,n7,n8⟩:=J1.ne
  have JJ:RdJ b n1 { e with rep:=true,rule:=r } nx { s with vm:=.slice am r.months.length cm,vd:=.slice ad r.days.length cd,vw:=.slice aw r.weeks.length cw,vp:=.slice ap r.pick.length cp } S (w1.setCells b 5 [.int .i64 r.freq,.int .i64 r.every,.int .i64 r.count,.int .i64 r.till,.slice am r.months.length cm,.slice ad r.days.length cd,.slice aw r.weeks.length cw,.slice ap r.pick.length cp]):=by
   refine ⟨?_,own_keep J1.r5 kc (fun g hg z=>n5 (by rw [hg,z])),own_keep J1.r6 kc (fun g hg z=>n6 (by rw [hg,z])),own_keep J1.r7 kc (fun g hg z=>n7 (by rw [hg,z])),own_keep J1.r8 kc (fun g hg z=>n8 (by rw [hg,z])),J1.d,⟨RI hm fm,RI hd fd,RNt,RI hq fq⟩,J1.hs,J1.hn⟩
   exact put8 _ _ _ _ _ _ _ _ J1.rb
  have Z:Hid (RdA 4 e s nx b n1 S val.data.toList w (.returned (.bool true)) (w1.setCells b 5 [.int .i64 r.freq,.int .i64 r.every,.int .i64 r.count,.int .i64 r.till,.slice am r.months.length cm,.slice ad r.days.length cd,.slice aw r.weeks.length cw,.slice ap r.pick.length cp])):=Lib.hid (Or.inl ⟨_,S,RN,rfl,Gr.refl _ _,(HP2.out.trans (Kps.of_below (S:=S) HB.out) (Gr.refl _ _)).trans (kc.mono (S1:=S) (fun k z=>by rw [z];exact (HJ.out.hs b).2 (Or.inl rfl))) (Gr.refl _ _),_,JJ,Or.inr ⟨by rw [← sz4];exact fm,by rw [← sz4];exact fd,by rw [← sz4];exact fw,by rw [← sz4];exact fq⟩⟩)
  clear RN HJ HB hb J1 HP2 JJ RI RNt off offb kc hm fm hd fd hw fw hq fq hr hf HL
  simp only [World.setCells] at Z
  go_wp2
  go_ret
  exact Z.out
end Go.Proofs.YtcadomjkjoiakaaGreatDoor
namespace Go.Proofs.YtcadomjkjoiakaaGreatDoor
open Go.RowKit Go Cal Txt Ln Cb
set_option maxRecDepth 100000 in
set_option maxHeartbeats 1600000 in
theorem read_5 (e:Evt) (nx b n1:Nat) (s:Evs) (S:Nat→Prop) (val:ByteArray) (w:World) (h:RdJ b n1 e nx s S w) (hK:∀ W,Below n1 w W→KeepK W) (hl:e.more.length≤2000000∧e.nots.length≤2000000∧e.chg.length≤2000000∧e.alm.length≤2000000) :
 Calls Tryz.prog 81 #[.pointer (some ⟨b,0,none⟩),.string ⟨#[77,79,82,69]⟩,.string val] w (RdA 5 e s nx b n1 S val.data.toList w):=by
 have K:=Lib.hid (with_int 111 (enters_of Tryz.func111 (by kernel_rfl) rfl) _ val s.vo e.more n1 w h.r5 (Nat.le_trans h.hn (Nat.le_of_lt h.rb.lt)) hl.1 (time_op val w (hK w (Below.refl _ _)).kp.tab))
 have H:=Lib.hid h
 have c0:=h.rb.cell 13 _ rfl
 have bl:=h.rb.lt
 clear h hK hl
 go_enter Tryz.func81,Tryz.ntmps81
 go_wp2_with fail
 refine K.out.mono ?_
 rintro x0 w1 hx
 clear K c0
 rcases hx with ⟨t,v',ht,rfl,hown,ha,hk⟩ | ⟨ht,⟨j,rfl⟩,hb⟩
 ·obtain ⟨rb1,S',g1,g2,g3⟩:=H.out.row_5 hown ha hk
  have c1:=rb1.cell 13 _ rfl
  have f1:=rb1.fz 13
  have bl1:=rb1.lt
  have Z:Hid (RdA 5 e s nx b n1 S val.data.toList w (.returned (.bool true)) (w1.setCell ⟨b,13,none⟩ v')):=Lib.hid (Or.inl ⟨_,S',by rw [rd5,ht];rfl,rfl,g1,g2,g3⟩)
  obtain ⟨av,nv,cv,rfl⟩:∃ a n c,v'=.slice a n c:=by
   obtain ⟨a,c,q⟩:=slice_form hown
   exact ⟨a,_,c,q⟩
  clear rb1 g1 g2 g3 hown ha hk ht H
  go_wp2
  go_ret
  exact Z.out
 ·have J1:=H.out.keep hb
  have c1:=J1.rb.cell 13 _ rfl
  have f1:=J1.rb.fz 13
  have bl1:=J1.rb.lt
  have Z:Hid (RdA 5 e s nx b n1 S val.data.toList w (.returned (.bool false)) (w1.setCell ⟨b,13,none⟩ (.slice none 0 0))):=Lib.hid (Or.inr ⟨by rw [rd5,ht];rfl,rfl,H.out.set hb 13 _⟩)
  clear J1 hb ht H
  go_wp2
  go_ret
  exact Z.out
end Go.Proofs.YtcadomjkjoiakaaGreatDoor
namespace Go.Proofs.YtcadomjkjoiakaaGreatDoor
open Go.RowKit Go Cal Txt Ln Cb
set_option maxRecDepth 100000 in
set_option maxHeartbeats 1600000 in
theorem read_6 (e:Evt) (nx b n1:Nat) (s:Evs) (S:Nat→Prop) (val:ByteArray) (w:World) (h:RdJ b n1 e nx s S w) (hK:∀ W,Below n1 w W→KeepK W) (hl:e.more.length≤2000000∧e.nots.length≤2000000∧e.chg.length≤2000000∧e.alm.length≤2000000) :
 Calls Tryz.prog 81 #[.pointer (some ⟨b,0,none⟩),.string ⟨#[78,79,84]⟩,.string val] w (RdA 6 e s nx b n1 S val.data.toList w):=by
 have K:=Lib.hid (with_int 111 (enters_of Tryz.func111 (by kernel_rfl) rfl) _ val s.vn e.nots n1 w h.r6 (Nat.le_trans h.hn (Nat.le_of_lt h.rb.lt)) hl.2.1 (time_op val w (hK w (Below.refl _ _)).kp.tab))
 have H:=Lib.hid h
 have c0:=h.rb.cell 14 _ rfl
 have bl:=h.rb.lt
 clear h hK hl
 go_enter Tryz.func81,Tryz.ntmps81
 go_wp2_with fail
 refine K.out.mono ?_
 rintro x0 w1 hx
 clear K c0
 rcases hx with ⟨t,v',ht,rfl,hown,ha,hk⟩ | ⟨ht,⟨j,rfl⟩,hb⟩
 ·obtain ⟨rb1,S',g1,g2,g3⟩:=H.out.row_6 hown ha hk
  have c1:=rb1.cell 14 _ rfl
  have f1:=rb1.fz 14
  have bl1:=rb1.lt
  have Z:Hid (RdA 6 e s nx b n1 S val.data.toList w (.returned (.bool true)) (w1.setCell ⟨b,14,none⟩ v')):=Lib.hid (Or.inl ⟨_,S',by rw [rd6,ht];rfl,rfl,g1,g2,g3⟩)
  obtain ⟨av,nv,cv,rfl⟩:∃ a n c,v'=.slice a n c:=by
   obtain ⟨a,c,q⟩:=slice_form hown
   exact ⟨a,_,c,q⟩
  clear rb1 g1 g2 g3 hown ha hk ht H
  go_wp2
  go_ret
  exact Z.out
 ·have J1:=H.out.keep hb
  have c1:=J1.rb.cell 14 _ rfl
  have f1:=J1.rb.fz 14
  have bl1:=J1.rb.lt
  have Z:Hid (RdA 6 e s nx b n1 S val.data.toList w (.returned (.bool false)) (w1.setCell ⟨b,14,none⟩ (.slice none 0 0))):=Lib.hid (Or.inr ⟨by rw [rd6,ht];rfl,rfl,H.out.set hb 14 _⟩)
  clear J1 hb ht H
  go_wp2
  go_ret
  exact Z.out
end Go.Proofs.YtcadomjkjoiakaaGreatDoor
namespace Go.Proofs.YtcadomjkjoiakaaGreatDoor
open Go.RowKit Go Cal Txt Ln Cb
set_option maxRecDepth 100000 in
set_option maxHeartbeats 1600000 in
theorem read_7 (e:Evt) (nx b n1:Nat) (s:Evs) (S:Nat→Prop) (val:ByteArray) (w:World) (h:RdJ b n1 e nx s S w) (hK:∀ W,Below n1 w W→KeepK W) (hs:val.size≤2000000) (hl:e.more.length≤2000000∧e.nots.length≤2000000∧e.chg.length≤2000000∧e.alm.length≤2000000) :
 Calls Tryz.prog 81 #[.pointer (some ⟨b,0,none⟩),.string ⟨#[77,79,86,69]⟩,.string val] w (RdA 7 e s nx b n1 S val.data.toList w):=by
 have K:=Lib.hid (with_chg 116 (enters_of Tryz.func116 (by kernel_rfl) rfl) _ val s.vc e.chg n1 w h.r7 (Nat.le_trans h.hn (Nat.le_of_lt h.rb.lt)) hl.2.2.1 (change_op val w (hK w (Below.refl _ _)).kp.tab hs))
 have H:=Lib.hid h
 have c0:=h.rb.cell 15 _ rfl
 have bl:=h.rb.lt
 clear h hK hl
 go_enter Tryz.func81,Tryz.ntmps81
 go_wp2_with fail
 refine K.out.mono ?_
 rintro x0 w1 hx
 clear K c0
 rcases hx with ⟨t,v',ht,rfl,hown,ha,hk⟩ | ⟨ht,⟨j,rfl⟩,hb⟩
 ·obtain ⟨rb1,S',g1,g2,g3⟩:=H.out.row_7 hown ha hk
  have c1:=rb1.cell 15 _ rfl
  have f1:=rb1.fz 15
  have bl1:=rb1.lt
  have Z:Hid (RdA 7 e s nx b n1 S val.data.toList w (.returned (.bool true)) (w1.setCell ⟨b,15,none⟩ v')):=Lib.hid (Or.inl ⟨_,S',by rw [rd7,ht];rfl,rfl,g1,g2,g3⟩)
  obtain ⟨av,nv,cv,rfl⟩:∃ a n c,v'=.slice a n c:=by
   obtain ⟨a,c,q⟩:=slice_form hown
   exact ⟨a,_,c,q⟩
  clear rb1 g1 g2 g3 hown ha hk ht H
  go_wp2
  go_ret
  exact Z.out
 ·have J1:=H.out.keep hb
  have c1:=J1.rb.cell 15 _ rfl
  have f1:=J1.rb.fz 15
  have bl1:=J1.rb.lt
  have Z:Hid (RdA 7 e s nx b n1 S val.data.toList w (.returned (.bool false)) (w1.setCell ⟨b,15,none⟩ (.slice none 0 0))):=Lib.hid (Or.inr ⟨by rw [rd7,ht];rfl,rfl,H.out.set hb 15 _⟩)
  clear J1 hb ht H
  go_wp2
  go_ret
  exact Z.out
end Go.Proofs.YtcadomjkjoiakaaGreatDoor
namespace Go.Proofs.YtcadomjkjoiakaaGreatDoor
open Go.RowKit Go Cal Txt Ln Cb
set_option maxRecDepth 100000 in
set_option maxHeartbeats 1600000 in
theorem read_8 (e:Evt) (nx b n1:Nat) (s:Evs) (S:Nat→Prop) (val:ByteArray) (w:World) (h:RdJ b n1 e nx s S w) (hK:∀ W,Below n1 w W→KeepK W) (hs:val.size≤2000000) (hl:e.more.length≤2000000∧e.nots.length≤2000000∧e.chg.length≤2000000∧e.alm.length≤2000000) :
 Calls Tryz.prog 81 #[.pointer (some ⟨b,0,none⟩),.string ⟨#[65,76,65,82,77]⟩,.string val] w (RdA 8 e s nx b n1 S val.data.toList w):=by
 have K:=Lib.hid (with_alm 118 (enters_of Tryz.func118 (by kernel_rfl) rfl) _ val s.va e.alm n1 w h.r8 (Nat.le_trans h.hn (Nat.le_of_lt h.rb.lt)) hl.2.2.2 (alarm_op val w (hK w (Below.refl _ _)).kp.pow (hK w (Below.refl _ _)).kp.ers (hK w (Below.refl _ _)).uni hs))
 have H:=Lib.hid h
 have c0:=h.rb.cell 16 _ rfl
 have bl:=h.rb.lt
 clear h hK hl
 go_enter Tryz.func81,Tryz.ntmps81
 go_wp2_with fail
 refine K.out.mono ?_
 rintro x0 w1 hx
 clear K c0
 rcases hx with ⟨t,v',ht,rfl,hown,ha,hk⟩ | ⟨ht,⟨j,rfl⟩,hb⟩
 ·obtain ⟨rb1,S',g1,g2,g3⟩:=H.out.row_8 hown ha hk
  have c1:=rb1.cell 16 _ rfl
  have f1:=rb1.fz 16
  have bl1:=rb1.lt
  have Z:Hid (RdA 8 e s nx b n1 S val.data.toList w (.returned (.bool true)) (w1.setCell ⟨b,16,none⟩ v')):=Lib.hid (Or.inl ⟨_,S',by rw [rd8,ht];rfl,rfl,g1,g2,g3⟩)
  obtain ⟨av,nv,cv,rfl⟩:∃ a n c,v'=.slice a n c:=by
   obtain ⟨a,c,q⟩:=slice_form hown
   exact ⟨a,_,c,q⟩
  clear rb1 g1 g2 g3 hown ha hk ht H
  go_wp2
  go_ret
  exact Z.out
 ·have J1:=H.out.keep hb
  have c1:=J1.rb.cell 16 _ rfl
  have f1:=J1.rb.fz 16
  have bl1:=J1.rb.lt
  have Z:Hid (RdA 8 e s nx b n1 S val.data.toList w (.returned (.bool false)) (w1.setCell ⟨b,16,none⟩ (.slice none 0 0))):=Lib.hid (Or.inr ⟨by rw [rd8,ht];rfl,rfl,H.out.set hb 16 _⟩)
  clear J1 hb ht H
  go_wp2
  go_ret
  exact Z.out
end Go.Proofs.YtcadomjkjoiakaaGreatDoor
namespace Go.Proofs.YtcadomjkjoiakaaGreatDoor
open Go.RowKit Go Cal Txt Ln Cb
theorem read_any (k:Nat) (hk:k<9) (e:Evt) (nx b n1:Nat) (s:Evs) (S:Nat→Prop) (val:ByteArray) (w:World) (h:RdJ b n1 e nx s S w) (hK:∀ W,Below n1 w W→KeepK W) (hs:val.size≤2000000) (hl:e.more.length≤2000000∧e.nots.length≤2000000∧e.chg.length≤2000000∧e.alm.length≤2000000) :
 Calls Tryz.prog 81 #[.pointer (some ⟨b,0,none⟩),.string (tb (ky k)),.string val] w (RdA k e s nx b n1 S val.data.toList w):=by
 rcases nine hk with rfl | rfl | rfl | rfl | rfl | rfl | rfl | rfl | rfl
 ·exact read_0 e nx b n1 s S val w h
 ·exact read_1 e nx b n1 s S val w h hK hs
 ·exact read_2 e nx b n1 s S val w h hK
 ·exact read_3 e nx b n1 s S val w h hK hs
 ·exact read_4 e nx b n1 s S val w h hK hs
 ·exact read_5 e nx b n1 s S val w h hK hl
 ·exact read_6 e nx b n1 s S val w h hK hl
 ·exact read_7 e nx b n1 s S val w h hK hs hl
 ·exact read_8 e nx b n1 s S val w h hK hs hl
end Go.Proofs.YtcadomjkjoiakaaGreatDoor
namespace Go.Proofs.YtcadomjkjoiakaaGreatDoor
open Go.RowKit Go Cal Txt Ln Cb
theorem pa_pr (s:ByteArray):paB s=pr s.data.toList:=by
 unfold paB pr ctF
 by_cases h:at1 58 s.data.toList<s.size
 ·rw [ctA_list h];rfl
 ·have:¬ at1 58 s.data.toList<s.data.toList.length:=h
  rw [decide_eq_false h,decide_eq_false this];rfl
theorem pr_lt {s:ByteArray} (h:paB s=true):at1 58 s.data.toList<s.size:=by
 unfold paB ctF at h
 rw [Bool.and_eq_true,decide_eq_true_eq] at h
 exact h.1
theorem paK_list {s:ByteArray} (h:paB s=true):(paK s).data.toList=s.data.toList.take (at1 58 s.data.toList):=by
 unfold paK
 rw [if_pos h]
 exact ctA_list (pr_lt h)
theorem paV_list {s:ByteArray} (h:paB s=true):(paV s).data.toList=s.data.toList.drop (at1 58 s.data.toList + 1):=by
 unfold paV
 rw [if_pos h]
 exact ctB_list (pr_lt h)
def TkA (st:Evt × Nat) (s:Evs) (b n1:Nat) (S:Nat→Prop) (l:List UInt8) (w:World) (x:Ending) (w':World):Prop:=
 (∃ st' S',tk1 st l=some st'∧x=.returned (.bool true)∧Gr S w S'∧Kps S w w'∧RdI b n1 st.1 s w.heap.size st' S' w')∨(tk1 st l=none∧x=.returned (.bool false)∧Kps S w w')
theorem kn_many {W:World} (h:KnW W) {k:Nat} (hk:k<9):W.cell? ⟨0,k * 3 + 2,none⟩=some (.bool (decide (5≤k))):=by
 rcases nine hk with rfl | rfl | rfl | rfl | rfl | rfl | rfl | rfl | rfl
 ·exact h 2 _ rfl
 ·exact h 5 _ rfl
 ·exact h 8 _ rfl
 ·exact h 11 _ rfl
 ·exact h 14 _ rfl
 ·exact h 17 _ rfl
 ·exact h 20 _ rfl
 ·exact h 23 _ rfl
 ·exact h 26 _ rfl
theorem tk_no {st:Evt × Nat} {l:List UInt8} (h:pr l=false):tk1 st l=none:=by unfold tk1;rw [h];rfl
theorem tk_pl {st:Evt × Nat} {l:List UInt8} (h:pr l=true) (hp:plc st.2 (l.take (at1 58 l))=none):tk1 st l=none:=by unfold tk1;rw [if_pos h,hp]
theorem tk_rd {st:Evt × Nat} {l:List UInt8} {k:Nat} (h:pr l=true) (hp:plc st.2 (l.take (at1 58 l))=some k) (hr:rd k st.1 (l.drop (at1 58 l + 1))=none):tk1 st l=none:=by unfold tk1;rw [if_pos h,hp];dsimp only;rw [hr]
theorem tk_yes {st:Evt × Nat} {l:List UInt8} {k:Nat} {e:Evt} (h:pr l=true) (hp:plc st.2 (l.take (at1 58 l))=some k) (hr:rd k st.1 (l.drop (at1 58 l + 1))=some e):tk1 st l=some (e,nxt k):=by unfold tk1;rw [if_pos h,hp];dsimp only;rw [hr]
set_option maxRecDepth 100000 in
set_option maxHeartbeats 1600000 in
theorem take_any (e:Evt) (nx b n1:Nat) (s:Evs) (S:Nat→Prop) (wh:ByteArray) (w:World) (h:RdJ b n1 e nx s S w) (hK:∀ W,Below n1 w W→KeepK W) (hs:wh.size≤2000000) (hl:e.more.length≤2000000∧e.nots.length≤2000000∧e.chg.length≤2000000∧e.alm.length≤2000000) :
 Calls Tryz.prog 35 #[.pointer (some ⟨b,0,none⟩),.string wh] w (TkA (e,nx) s b n1 S wh.data.toList w):=by
 have hnw:n1≤w.heap.size:=Nat.le_trans h.hn (Nat.le_of_lt h.rb.lt)
 have KP:=Lib.hid (pair_any wh w (by omega))
 rcases hp:paB wh with _ | _
 ·have E:=Lib.hid (tk_no (st:=(e,nx)) (l:=wh.data.toList) (by rw [← pa_pr];exact hp))
  have F2:paF wh=2:=by unfold paF;rw [hp];rfl
  rw [F2,show fault 2=.iface 73 (.int .i64 2) from rfl] at KP
  clear F2 hp h hK hl
  go_enter Tryz.func35,Tryz.ntmps35
  go_wp2_with fail
  refine KP.out.mono ?_
  rintro x w1 ⟨rfl,hb⟩
  go_wp2
  go_ret
  exact Or.inr ⟨E.out,rfl,Kps.of_below hb⟩
 have F0:paF wh=0:=by unfold paF;rw [hp];rfl
 rw [F0,show fault 0=.nilIface from rfl] at KP
 have hpr:pr wh.data.toList=true:=by rw [← pa_pr];exact hp
 have eK:=paK_list hp
 have eV:=paV_list hp
 have zV:(paV wh).size≤2000000:=by
  show (paV wh).data.toList.length≤_
  rw [eV,List.length_drop]
  have:wh.data.toList.length=wh.size:=rfl
  omega
 have N1:=Lib.hid (tk_pl (st:=(e,nx)) hpr)
 have N2:=Lib.hid (fun k=>tk_rd (st:=(e,nx)) (k:=k) hpr)
 have N3:=Lib.hid (fun k e'=>tk_yes (st:=(e,nx)) (k:=k) (e:=e') hpr)
 rw [← eK] at N1
 rw [← eK,← eV] at N2 N3
 clear hp F0 hpr eK eV
 generalize paK wh=key at KP N1 N2 N3
 generalize paV wh=val at KP N2 N3 zV
 have H:=Lib.hid h
 have HK:=Lib.hid hK
 have HL:=Lib.hid hl
 clear h hK hl
 unfold TkA
 dsimp only
 generalize tk1 (e,nx) wh.data.toList=TO at N1 N2 N3 ⊢
 dsimp only at N1 N2 N3
 go_enter Tryz.func35,Tryz.ntmps35
 go_wp2_with fail
 refine KP.out.mono ?_
 rintro x w1 ⟨rfl,hb⟩
 have J1:=H.out.keep hb
 have b1:Below n1 w w1:=hb.mono hnw
 have K1:=HK.out w1 b1
 have HB:=Lib.hid hb
 have HB1:=Lib.hid b1
 have HJ:=Lib.hid J1
 have KPL:=Lib.hid (place_any b nx key w1 K1.knd (J1.rb.cell 17 _ rfl))
 clear KP hb b1 J1 K1
 go_wp2_with fail
 refine KPL.out.mono ?_
 rintro x w2 ⟨rfl,hb⟩
 clear KPL
 have HB2:=Lib.hid (HB.out.trans (hb.mono HB.out.size))
 have BN2:=Lib.hid (HB1.out.trans (hb.mono (Nat.le_trans hnw HB1.out.size)))
 have HJ2:=Lib.hid (HJ.out.keep hb)
 clear hb HB HB1 HJ
 rcases hpl:plc nx key.data.toList with _ | k
 ·have E:=Lib.hid (N1.out hpl)
  clear N1 N2 N3 hpl
  rw [show pcV none=.tuple #[.int .i64 0,.bool false] from rfl]
  go_wp2
  go_ret
  exact Or.inr ⟨E.out,rfl,Kps.of_below HB2.out⟩
 obtain ⟨hk,hx,hkey,_⟩:=plc_in hpl
 have ekey:key=tb (ky k):=by rw [← hkey];rfl
 rw [show pcV (some k)=.tuple #[.int .i64 k,.bool true] from rfl]
 have KR:=Lib.hid (read_any k hk e nx b n1 s S val w2 HJ2.out (fun W q=>HK.out W (BN2.out.trans q)) zV HL.out)
 have HPL:=Lib.hid hpl
 subst ekey
 clear hkey hpl N1
 go_wp2_with fail
 refine KR.out.mono ?_
 rintro x w3 hx3
 clear KR
 rcases hx3 with ⟨e',S',hr,rfl,g3,k3,s3,J3,N3r⟩ | ⟨hr,rfl,k3⟩
 ·have E:=Lib.hid (N3.out k e' HPL.out hr)
  have k3w:Kps S w w3:=(Kps.of_below (S:=S) HB2.out).trans k3 (Gr.refl _ _)
  have b3:Below n1 w w3:=k3w.below (fun j hj=>(H.out.lt j hj).1) hnw
  obtain ⟨J4,k4⟩:=J3.put 17 (.int .i64 k) (e':=e') (nx':=k) rfl ⟨rfl,rfl,rfl,rfl,rfl⟩
  have k4w:Kps S w (w3.setCell ⟨b,17,none⟩ (.int .i64 k)):=k3w.trans k4 (fun j hj=>(g3 j hj).imp id (fun z=>Nat.le_trans HB2.out.size z))
  have gw:Gr S w S':=fun j hj=>(g3 j hj).imp id (fun z=>Nat.le_trans HB2.out.size z)
  have b4:Below n1 w (w3.setCell ⟨b,17,none⟩ (.int .i64 k)):=k4w.below (fun j hj=>(H.out.lt j hj).1) hnw
  have mc:=kn_many (HK.out _ b4).knd hk
  have c3:=J3.rb.cell 17 _ rfl
  have f3:=J3.rb.fz 17
  have bl3:=J3.rb.lt
  have hk9:(k:Int)<9:=by omega
  rcases h5:decide (5≤k) with _ | _
  ·have q5:¬ 5≤k:=of_decide_eq_false h5
   rw [h5] at mc
   obtain ⟨J5,k5⟩:=J4.put 17 (.int .i64 ((k:Int) + 1)) (e':=e') (nx':=k + 1) (by rfl) ⟨rfl,rfl,rfl,rfl,rfl⟩
   have c4:=J4.rb.cell 17 _ rfl
   have f4:=J4.rb.fz 17
   have bl4:=J4.rb.lt
   have Z:Hid ((∃ st' S',TO=some st'∧Gr S w S'∧Kps S w ((w3.setCell ⟨b,17,none⟩ (.int .i64 k)).setCell ⟨b,17,none⟩ (.int .i64 ((k:Int) + 1)))∧RdI b n1 e s w.heap.size st' S' ((w3.setCell ⟨b,17,none⟩ (.int .i64 k)).setCell ⟨b,17,none⟩ (.int .i64 ((k:Int) + 1))))):=Lib.hid ⟨(e',k + 1),S',by rw [E.out,nxt,if_neg q5],gw,k4w.trans k5 (fun j hj=>(g3 j hj).imp id (fun z=>Nat.le_trans HB2.out.size z)),s3,J5,N3r.le HB2.out.size⟩
   clear J4 k4 J5 k5 J3 k3 k3w k4w g3 gw b3 b4 hr N2 N3 E H HK HJ2 HL HB2 BN2
   go_wp2
   go_ret
   obtain ⟨st',S2,z1,z2,z3,z4⟩:=Z.out
   exact Or.inl ⟨st',S2,z1,rfl,z2,z3,z4⟩
  ·have q5:5≤k:=of_decide_eq_true h5
   rw [h5] at mc
   have Z:Hid ((∃ st' S',TO=some st'∧Gr S w S'∧Kps S w (w3.setCell ⟨b,17,none⟩ (.int .i64 k))∧RdI b n1 e s w.heap.size st' S' (w3.setCell ⟨b,17,none⟩ (.int .i64 k)))):=Lib.hid ⟨(e',k),S',by rw [E.out,nxt,if_pos q5],gw,k4w,s3,J4,N3r.le HB2.out.size⟩
   clear J4 k4 J3 k3 k3w k4w g3 gw b3 b4 hr N2 N3 E H HK HJ2 HL HB2 BN2
   go_wp2
   go_ret
   obtain ⟨st',S2,z1,z2,z3,z4⟩:=Z.out
   exact Or.inl ⟨st',S2,z1,rfl,z2,z3,z4⟩
 ·have E:=Lib.hid (N2.out k HPL.out hr)
  have Z:=Lib.hid ((Kps.of_below (S:=S) HB2.out).trans k3 (Gr.refl _ _))
  clear N2 N3 hr k3 HJ2 H HK
  go_wp2
  go_ret
  exact Or.inr ⟨E.out,rfl,Z.out⟩
end Go.Proofs.YtcadomjkjoiakaaGreatDoor
