/-
  Texts of our own that serve the card of this claim, joined into one.
-/
import Derived.Test.YtoncfgfjdlgfcaaGreatDoorPP
import Derived.Test.YtoncfgfjdlgfcaaGreatDoorBZO
import Derived.Test.YtoncfgfjdlgfcaaGreatDoorBZ
import Derived.Great.Walk
namespace Go.Proofs.YtoncfgfjdlgfcaaGreatDoor.Pp
open Go.RowKit Bz Cal Txt
theorem flat_step {LL:List (List Bz)} {k:Nat} (h:k<LL.length):(LL.take (k + 1)).flatten=(LL.take k).flatten++LL.getD k []:=by
 rw [List.take_succ_eq_append_getElem h,List.flatten_append,List.getD_eq_getElem?_getD,List.getElem?_eq_getElem h]
 simp
theorem flat_le (LL:List (List Bz)) (k:Nat):(LL.take k).flatten.length≤LL.flatten.length:=by
 have:LL.flatten=(LL.take k).flatten++(LL.drop k).flatten:=by rw [← List.flatten_append,List.take_append_drop]
 rw [this,List.length_append]
 omega
set_option maxRecDepth 100000 in
set_option maxHeartbeats 4000000 in
theorem catL_any (LL:List (List Bz)) (v:Value) (w:World) (hv:Bss w v LL) (hl:LL.length≤1000) (hn:LL.flatten.length≤1000) :
 Calls Tryz.prog 45 #[v] w fun e w'=>∃ x,e=.returned x∧Ob w' w.heap.size x LL.flatten∧Below w.heap.size w w':=by
 obtain ⟨us,hus,hec⟩:=hv
 have UL:us.length=LL.length:=hec.1
 obtain ⟨ua,uc,eu,_⟩:=id hus
 subst eu
 have ROW:=Lib.hid (row_of hus hec)
 have LE:=Lib.hid (fun k=>flat_le LL k)
 have HN:=Lib.hid hn
 rw [UL]
 clear hus hec UL
 go_enter Tryz.func45,Tryz.ntmps45
 go_wp2_with fail
 go_loop [11,3,5] (fun i s _=>∃ k:Nat,k≤LL.length∧i=.int .i64 k∧s=.int .i64 ((LL.take k).flatten.length:Int)) (fun i _ _=>LL.length - (intOf i).toNat)
 case atStart=>exact ⟨0,Nat.zero_le _,rfl,rfl⟩
 case round=>
  obtain ⟨k,hk,rfl,rfl⟩:=hrel
  have l1:=LE.out k
  by_cases hlt:k<LL.length
  case neg=>
   have e1:(LL.take k).flatten.length=LL.flatten.length:=by rw [List.take_of_length_le (by omega)]
   rw [e1]
   obtain ⟨S,hS⟩:∃ S,S=LL.flatten.length:=⟨_,rfl⟩
   rw [← hS]
   have hS2:S≤1000:=by omega
   clear hS e1 l1
   go_wp2_with fail
   refine (grw_any S w hS2).mono ?_
   rintro e w1 ⟨x,rfl,ho,hb⟩
   have O1:=Lib.hid ho
   have B1:=Lib.hid hb
   clear ho hb
   go_wp2_with fail
   go_loopw [27,6,8] (fun i s _ wr=>∃ (j:Nat) (x:Value),j≤LL.length∧i=.int .i64 j∧s=x∧Below w.heap.size w wr∧Hid (Ob wr w.heap.size x (LL.take j).flatten)) (fun i _ _ _=>LL.length - (intOf i).toNat)
   case atStart=>exact ⟨0,x,Nat.zero_le _,rfl,rfl,B1.out,O1⟩
   case round=>
    obtain ⟨j,x2,hj,rfl,hx,hB,HO⟩:=hrel
    replace hx:=hx.symm
    subst hx
    have HB:=Lib.hid hB
    by_cases hjl:j<LL.length
    case neg=>
     have O9:Hid (Ob wr w.heap.size x2 LL.flatten):=Lib.hid (by have:=HO.out;rwa [List.take_of_length_le (by omega)] at this)
     clear hB
     go_wp2
     go_ret
     exact ⟨x2,rfl,O9.out,HB.out⟩
    obtain ⟨ub,uoff,p,c,ea,hc⟩:=ROW.out j hjl
    subst ea
    obtain ⟨c0,r0⟩:=hc wr hB
    have cl:=cell_in c0
    have ST:=flat_step hjl
    have l2:=LE.out (j + 1)
    rw [ST,List.length_append] at l2
    obtain ⟨v6,w6,ap,o6,b6⟩:=appB_any HO.out r0 hB.size (by have:=HN.out;omega)
    have AP:=Lib.hid ap
    have O6:Hid (Ob w6 w.heap.size v6 (LL.take (j + 1)).flatten):=Lib.hid (by rw [ST];exact o6)
    have B6:=Lib.hid (HB.out.trans b6)
    generalize (LL.getD j []).length=m at c0 AP l2
    clear ap o6 b6 hB r0 hc ST l2
    go_wp2_with (at_builtin;refine wpl_app rfl _ _ 46 rfl _ _ _ _ rfl rfl AP.out ?_)
    go_roundw
    case rel=>exact ⟨j + 1,v6,by omega,by go_num,rfl,B6.out,O6⟩
    case measure=>simp [intOf];omega
  obtain ⟨ub,uoff,p,c,ea,hc⟩:=ROW.out k hlt
  subst ea
  obtain ⟨c0,_⟩:=hc w (Below.refl _ _)
  have cl:=cell_in c0
  have l2:=LE.out (k + 1)
  have l3:=HN.out
  rw [flat_step hlt,List.length_append] at l2
  have ST:Hid ((((LL.take k).flatten.length:Nat):Int) + (((LL.getD k []).length:Nat):Int)=(((LL.take (k + 1)).flatten.length:Nat):Int)):=Lib.hid (by rw [flat_step hlt,List.length_append];omega)
  generalize (LL.getD k []).length=m at c0 l2 ST
  generalize (LL.take k).flatten.length=n at l1 l2 ST ⊢
  clear hc
  go_wp2
  go_round
  case rel=>exact ⟨k + 1,by omega,by go_num,by rw [← ST.out]⟩
  case measure=>simp [intOf];omega
def pbF (F:Int) (LL:List (List Bz)):Int:=if F=0 then bzF LL.flatten else F
def pbL (F:Int) (LL:List (List Bz)):List Bz:=if F=0 then nmL LL.flatten else []
set_option maxRecDepth 100000 in
set_option maxHeartbeats 4000000 in
theorem busy_of (hS:SrtH) (LL:List (List Bz)) (F:Int) (a:Int) (l:List (Int × Int)) (fr t:Int) (v vl:Value) (w:World) (hz:ZoneIn w v a l)
 (hE:∀ W,Below w.heap.size w W→Calls Tryz.prog 43 #[v,vl,.int .i64 fr,.int .i64 t] W (TeA W LL F))
 (hl:LL.length≤1000) (hn:LL.flatten.length≤1000) :
 Calls Tryz.prog 10 #[v,vl,.int .i64 fr,.int .i64 t] w (NmA w (pbL F LL) (pbF F LL)):=by
 have HS:=Lib.hid hS
 obtain ⟨sa,sc,rfl⟩:=hz.form
 have b0:Below w.heap.size w (w.alloc (.cells #[.int .i64 a,.slice sa l.length sc] 24)):=(Below.refl _ _).alloc (Nat.le_refl _) _
 have z0:(w.alloc (.cells #[.int .i64 a,.slice sa l.length sc] 24)).cell? ⟨w.heap.size,0,none⟩=some (.int .i64 a)∧(w.alloc (.cells #[.int .i64 a,.slice sa l.length sc] 24)).cell? ⟨w.heap.size,1,none⟩=some (.slice sa l.length sc):=⟨by simp,by simp⟩
 obtain ⟨W0,hW0⟩:∃ W0,W0=w.alloc (.cells #[.int .i64 a,.slice sa l.length sc] 24):=⟨_,rfl⟩
 rw [← hW0] at b0 z0
 have HW0:=Lib.hid hW0
 have B0:=Lib.hid b0
 have K:=Lib.hid (hE W0 b0)
 obtain ⟨y0,y1⟩:=z0
 have yl:=cell_in y0
 clear hz hE hW0 b0 hS
 by_cases h:F=0
 case neg=>
  have H1:=Lib.hid h
  have N1:Hid (pbL F LL=[]∧pbF F LL=F):=Lib.hid ⟨if_neg h,if_neg h⟩
  rw [N1.out.1,N1.out.2]
  clear h N1
  go_enter Tryz.func10,Tryz.ntmps10
  go_upto_region 1 with fail
  rw [← HW0.out]
  go_wp2_with fail
  refine K.out.mono ?_
  rintro e w1 ⟨u1,rfl,_,hb⟩
  have B1:=Lib.hid (B0.out.trans (hb.mono B0.out.size))
  rw [fault_not H1.out]
  clear hb K HW0 y0 y1 yl
  go_wp2
  go_ret2
  exact ⟨_,by rw [fault_not H1.out];rfl,World.ownsRow_nil _ _ _ _,B1.out⟩
 subst h
 have N1:Hid (pbL 0 LL=nmL LL.flatten∧pbF 0 LL=bzF LL.flatten):=Lib.hid ⟨if_pos rfl,if_pos rfl⟩
 rw [N1.out.1,N1.out.2]
 have KC:=Lib.hid (fun v W (q:Bss W v LL)=>catL_any LL v W q hl hn)
 have KN:=Lib.hid (fun v W (q:Rb W v LL.flatten)=>nrm_any HS.out LL.flatten v W q (Nat.le_trans hn (by decide)))
 generalize nmL LL.flatten=M at KN ⊢
 generalize bzF LL.flatten=F at KN ⊢
 clear N1 hl hn
 go_enter Tryz.func10,Tryz.ntmps10
 go_upto_region 1 with fail
 rw [← HW0.out]
 go_wp2_with fail
 refine K.out.mono ?_
 rintro e w1 ⟨u1,rfl,hu,hb⟩
 have B1:=Lib.hid (B0.out.trans (hb.mono B0.out.size))
 have K2:=Lib.hid (KC.out u1 w1 hu)
 rw [fault_zero rfl]
 clear hb K HW0 y0 y1 yl hu KC
 go_wp2_with fail
 refine K2.out.mono ?_
 rintro e w2 ⟨u2,rfl,ho,hb⟩
 have B2:=Lib.hid (B1.out.trans (hb.mono B1.out.size))
 have K3:=Lib.hid (KN.out u2 w2 ho.rb)
 clear hb ho K2 KN
 go_wp2_with fail
 refine K3.out.mono ?_
 rintro e w3 ⟨u3,rfl,ho,hb⟩
 have O3:=Lib.hid (own_mono ho B2.out.size)
 have B3:=Lib.hid (B2.out.trans (hb.mono B2.out.size))
 clear hb ho K3
 go_wp2
 go_ret2
 exact ⟨u3,rfl,O3.out,B3.out⟩
end Go.Proofs.YtoncfgfjdlgfcaaGreatDoor.Pp
namespace Go.Proofs.YtoncfgfjdlgfcaaGreatDoor.Pp
open Go.RowKit Bz Cal Txt
def meG (BF:Nat→Int):Nat→Nat→Int
 | _,0=>0
 | k,m + 1=>if BF k=0 then meG BF (k + 1) m else BF k
def meC (BL:Nat→List Bz):Nat→List Bz
 | 0=>[]
 | k + 1=>meC BL k++BL k
theorem meC_len {BL:Nat→List Bz} {n:Nat} (h:∀ i,i<n→(BL i).length≤200):∀ k,k≤n→(meC BL k).length≤200 * k
 | 0,_=>by simp [meC]
 | k + 1,hk=>by
   have:=meC_len h k (by omega)
   have:=h k (by omega)
   show (meC BL k++BL k).length≤_
   rw [List.length_append]
   omega
def meF (BL:Nat→List Bz) (BF:Nat→Int) (n:Nat) (fr t len:Int):Int:=if meG BF 0 n=0 then saF (meC BL n) fr t len else meG BF 0 n
def meT (BL:Nat→List Bz) (BF:Nat→Int) (n:Nat) (fr t len:Int):Int:=if meG BF 0 n=0 then saT (meC BL n) fr t len else 0
set_option maxRecDepth 100000 in
set_option maxHeartbeats 4000000 in
theorem meet_of (hS:SrtH) (n:Nat) (hn:n≤4) (za:Nat→Int) (zs lv:Nat→Sv) (BL:Nat→List Bz) (BF:Nat→Int) (bz zo bl lo:Nat) (fr t len:Int) (w:World)
 (hzc:∀ i,i<n→w.cell? ⟨bz,zo + i * 2,none⟩=some (.int .i64 (za i))∧w.cell? ⟨bz,zo + i * 2 + 1,none⟩=some (svV (zs i))) (hlc:∀ i,i<n→w.cell? ⟨bl,lo + i,none⟩=some (svV (lv i)))
 (hB:∀ i,i<n→∀ W,Below w.heap.size w W→Calls Tryz.prog 10 #[.agg #[.int .i64 (za i),svV (zs i)],svV (lv i),.int .i64 fr,.int .i64 t] W (NmA W (BL i) (BF i)))
 (hl:∀ i,i<n→(BL i).length≤200) :
 Calls Tryz.prog 7 #[.slice (some ⟨bz,zo,none⟩) n n,.slice (some ⟨bl,lo,none⟩) n n,.int .i64 fr,.int .i64 t,.int .i64 len] w (TtA w (meT BL BF n fr t len) (meF BL BF n fr t len)):=by
 have HS:=Lib.hid hS
 have HZ:=Lib.hid hzc
 have HC:=Lib.hid hlc
 have HB:=Lib.hid hB
 have HL:=Lib.hid hl
 have ET:Hid (meT BL BF n fr t len=if meG BF 0 n=0 then saT (meC BL n) fr t len else 0):=Lib.hid rfl
 have EF:Hid (meF BL BF n fr t len=if meG BF 0 n=0 then saF (meC BL n) fr t len else meG BF 0 n):=Lib.hid rfl
 generalize meT BL BF n fr t len=RT at ET ⊢
 generalize meF BL BF n fr t len=RF at EF ⊢
 clear hS hzc hlc hB hl
 go_enter Tryz.func7,Tryz.ntmps7
 go_wp2_with fail
 go_loopw [29,12,13,14,15,16] (fun iv xv _ _ _ _ wr=>∃ (k:Nat) (x:Value),k≤n∧iv=.int .i64 k∧xv=x∧Hid (Ob wr w.heap.size x (meC BL k))∧Hid (meG BF 0 n=meG BF k (n - k))∧Below w.heap.size w wr) (fun iv _ _ _ _ _ _=>n - (intOf iv).toNat)
 case atStart=>exact ⟨0,_,Nat.zero_le _,rfl,rfl,Lib.hid (World.ownsRow_nil _ _ _ _),Lib.hid rfl,Below.refl _ _⟩
 case round=>
  obtain ⟨k,x,hk,rfl,hx,HO,HG,hB⟩:=hrel
  replace hx:=hx.symm
  subst hx
  have HBB:=Lib.hid hB
  by_cases hlt:k<n
  case neg=>
   have hk2:k=n:=by omega
   have G0:meG BF 0 n=0:=by rw [HG.out,hk2,Nat.sub_self];rfl
   have N:Hid (RT=saT (meC BL n) fr t len∧RF=saF (meC BL n) fr t len):=Lib.hid ⟨by rw [ET.out,if_pos G0],by rw [EF.out,if_pos G0]⟩
   have O9:Hid (Ob wr w.heap.size x (meC BL n)):=Lib.hid (by have:=HO.out;rwa [hk2] at this)
   have CL:=meC_len HL.out n (Nat.le_refl _)
   have KS:=Lib.hid (sla_any HS.out (meC BL n) fr t len x wr O9.out.rb (by omega))
   rw [← N.out.1,← N.out.2] at KS
   clear hB HO ET EF G0 N HG
   go_wp2_with fail
   refine KS.out.mono ?_
   rintro e w3 ⟨rfl,hb⟩
   have B3:=Lib.hid (HBB.out.trans (hb.mono HBB.out.size))
   clear hb KS
   go_wp2
   go_ret2
   exact ⟨rfl,B3.out⟩
  have GS:meG BF k (n - k)=if BF k=0 then meG BF (k + 1) (n - (k + 1)) else BF k:=by
   rw [show n - k=(n - (k + 1)) + 1 by omega]
   rfl
  have NO:Hid (¬ BF k=0→RF=BF k∧RT=0):=Lib.hid (fun q=>by
   have g:meG BF 0 n=BF k:=by rw [HG.out,GS,if_neg q]
   exact ⟨by rw [EF.out,g,if_neg q],by rw [ET.out,g,if_neg q]⟩)
  have GN:Hid (BF k=0→meG BF 0 n=meG BF (k + 1) (n - (k + 1))):=Lib.hid (fun q=>by rw [HG.out,GS,if_pos q])
  obtain ⟨z0,z1⟩:=HZ.out k hlt
  have l0:=HC.out k hlt
  have y0:=(hB.cell (p:=⟨bz,zo + k * 2,none⟩) (cell_in z0)).trans z0
  have y1:=(hB.cell (p:=⟨bz,zo + k * 2 + 1,none⟩) (cell_in z1)).trans z1
  have x0:=(hB.cell (p:=⟨bl,lo + k,none⟩) (cell_in l0)).trans l0
  have yl:=cell_in y0
  have xl:=cell_in x0
  have K:=Lib.hid (HB.out k hlt wr hB)
  have LK:=HL.out k hlt
  have CL:=meC_len HL.out k (by omega)
  have MS:Hid (meC BL (k + 1)=meC BL k++BL k):=Lib.hid rfl
  generalize BF k=F at K NO GN
  generalize BL k=M at K LK MS
  rcases hzk:zs k with ⟨p1,p2,p3⟩
  rcases hlk:lv k with ⟨q1,q2,q3⟩
  rw [hzk] at y1 K
  rw [hlk] at x0 K
  clear hzk hlk z0 z1 l0 hB GS
  go_wp2_with fail
  refine K.out.mono ?_
  rintro e w3 ⟨u3,rfl,ho,hb⟩
  have B3:=Lib.hid (HBB.out.trans (hb.mono HBB.out.size))
  have O3:=Lib.hid (ow_below HO.out hb)
  have R3:=ho.rb
  obtain ⟨ua,uc,eu,_⟩:=id R3
  subst eu
  by_cases h:F=0
  case neg=>
   have N:=Lib.hid (NO.out h)
   have H1:=Lib.hid h
   rw [fault_not h]
   clear h K hb ho R3 y0 y1 x0 yl xl NO GN
   go_wp2
   go_ret2
   exact ⟨by rw [N.out.1,N.out.2,fault_not H1.out];rfl,B3.out⟩
  have G2:=Lib.hid (GN.out h)
  rw [fault_zero h]
  obtain ⟨v6,w6,ap,o6,b6⟩:=appB_any O3.out R3 B3.out.size (by omega)
  have AP:=Lib.hid ap
  have O6:Hid (Ob w6 w.heap.size v6 (meC BL (k + 1))):=Lib.hid (by rw [MS.out];exact o6)
  have B6:=Lib.hid (B3.out.trans b6)
  clear h K hb ho R3 y0 y1 x0 yl xl NO GN ap o6 b6
  go_wp2_with (at_builtin;refine wpl_app rfl _ _ 46 rfl _ _ _ _ rfl rfl AP.out ?_)
  go_roundw
  case rel=>exact ⟨k + 1,v6,by omega,by go_num,rfl,O6,G2,B6.out⟩
  case measure=>simp [intOf];omega
end Go.Proofs.YtoncfgfjdlgfcaaGreatDoor.Pp
namespace Go.Proofs.YtoncfgfjdlgfcaaGreatDoor.Pp
open Go.RowKit Bz Cal Txt
theorem tb_few {a:Int} {l:List (Int × Int)} {e:Evt} {fr t:Int} (h:tbF a l e fr t=0):(tbL a l e fr t).length≤200:=by
 obtain ⟨_,_,h3,h4⟩:=tb_good h
 rw [h3]
 exact h4
theorem tb_few2 {a:Int} {l:List (Int × Int)} {e:Evt} {fr t:Int}:(tbL a l e fr t).length≤200:=by
 by_cases h:tbF a l e fr t=0
 ·exact tb_few h
 ·unfold tbL
  rw [if_neg h]
  simp
section
variable {g:Evt→Int} {tm:Evt→List Tm} {x:Evt × Evs}
end
end Go.Proofs.YtoncfgfjdlgfcaaGreatDoor.Pp
namespace Go.Proofs.YtoncfgfjdlgfcaaGreatDoor.Pp
open Go.RowKit Bz Cal Txt
end Go.Proofs.YtoncfgfjdlgfcaaGreatDoor.Pp
namespace Go.Proofs.YtoncfgfjdlgfcaaGreatDoor.Pp
open Go.RowKit Bz Cal Txt
theorem teL_ok (g:Evt→Int) (tm:Evt→List Tm) (L:List (Evt × Evs)) (h:∀ x∈L,(tm x.1).length≤200):(teL g tm L).length≤20∧∀ T∈teL g tm L,T.length≤1000:=by
 unfold teL
 split
 ·rename_i q
  refine ⟨?_,fun T hT=>?_⟩
  ·unfold teM
   rw [List.length_map]
   unfold teF at q
   split at q
   ·cases q
   ·omega
  ·unfold teM at hT
   obtain ⟨x,hx,rfl⟩:=List.mem_map.1 hT
   rw [tkb_len]
   have:=h x hx
   omega
 ·exact ⟨by simp,fun T hT=>by simp at hT⟩
theorem clash_any (a:Int) (l:List (Int × Int)) (L:List (Evt × Evs)) (fr t:Int) (v vl:Value) (w:World) (hz:ZoneIn w v a l) (hL:Evl w vl L) (hl:L.length≤9223372036854775807) (hT:Tab w) :
 Calls Tryz.prog 15 #[v,vl,.int .i64 fr,.int .i64 t] w (ClA w (clL (teF (fun e=>tbF a l e fr t) (fun e=>tbL a l e fr t) L) (teL (fun e=>tbF a l e fr t) (fun e=>tbL a l e fr t) L)) (teF (fun e=>tbF a l e fr t) (fun e=>tbL a l e fr t) L)):=by
 obtain ⟨h1,h2⟩:=teL_ok (fun e=>tbF a l e fr t) (fun e=>tbL a l e fr t) L (fun _ _=>tb_few2)
 exact clash_of _ _ a l fr t v vl w hz (fun W q=>each_of _ _ a l L fr t v vl W (hz.on q) (hL.on q) hl (fun _ _ _=>tb_few2) (fun x hx W' q'=>tbetween_any a l v x.1 x.2 fr t W' ((hz.on q).on q') (((hL.on q).2 x hx).on q') ((hT.below q).below q'))) h1 h2
end Go.Proofs.YtoncfgfjdlgfcaaGreatDoor.Pp
namespace Go.Proofs.YtoncfgfjdlgfcaaGreatDoor.Pp
open Go.RowKit Bz Cal Txt
theorem teM_flat (tm:Evt→List Tm):∀ L:List (Evt × Evs),(teM tm L).flatten.length=teN tm L
 | []=>rfl
 | x :: r=>by
   have ih:=teM_flat tm r
   show (tkb (tm x.1)++(teM tm r).flatten).length=(tm x.1).length + teN tm r
   rw [List.length_append,ih,tkb_len]
theorem teL_flat (g:Evt→Int) (tm:Evt→List Tm) (L:List (Evt × Evs)):(teL g tm L).flatten.length≤200:=by
 unfold teL
 split
 ·rename_i q
  rw [teM_flat]
  unfold teF at q
  split at q
  ·exact absurd q (by decide)
  ·split at q
   ·rename_i q2;exact absurd q q2
   ·split at q
    ·exact absurd q (by decide)
    ·omega
 ·simp
def bsF (a:Int) (l:List (Int × Int)) (fr t:Int) (L:List (Evt × Evs)):Int:=pbF (teF (fun e=>tbF a l e fr t) (fun e=>tbL a l e fr t) L) (teL (fun e=>tbF a l e fr t) (fun e=>tbL a l e fr t) L)
def bsL (a:Int) (l:List (Int × Int)) (fr t:Int) (L:List (Evt × Evs)):List Bz:=pbL (teF (fun e=>tbF a l e fr t) (fun e=>tbL a l e fr t) L) (teL (fun e=>tbF a l e fr t) (fun e=>tbL a l e fr t) L)
theorem bsL_len (a:Int) (l:List (Int × Int)) (fr t:Int) (L:List (Evt × Evs)):(bsL a l fr t L).length≤200:=by
 unfold bsL pbL
 split
 ·exact nmL_len _
 ·simp
theorem bsy_any (hS:SrtH) (a:Int) (l:List (Int × Int)) (L:List (Evt × Evs)) (fr t:Int) (v vl:Value) (w:World) (hz:ZoneIn w v a l) (hL:Evl w vl L) (hl:L.length≤9223372036854775807) (hT:Tab w) :
 Calls Tryz.prog 10 #[v,vl,.int .i64 fr,.int .i64 t] w (NmA w (bsL a l fr t L) (bsF a l fr t L)):=by
 obtain ⟨h1,_⟩:=teL_ok (fun e=>tbF a l e fr t) (fun e=>tbL a l e fr t) L (fun _ _=>tb_few2)
 have h2:=teL_flat (fun e=>tbF a l e fr t) (fun e=>tbL a l e fr t) L
 exact busy_of hS _ _ a l fr t v vl w hz (fun W q=>each_of _ _ a l L fr t v vl W (hz.on q) (hL.on q) hl (fun _ _ _=>tb_few2) (fun x hx W' q'=>tbetween_any a l v x.1 x.2 fr t W' ((hz.on q).on q') (((hL.on q).2 x hx).on q') ((hT.below q).below q'))) (by omega) (by omega)
theorem meet_any (hS:SrtH) (n:Nat) (hn:n≤4) (za:Nat→Int) (zl:Nat→List (Int × Int)) (zs lv:Nat→Sv) (Ls:Nat→List (Evt × Evs)) (bz zo bl lo:Nat) (fr t len:Int) (w:World)
 (hzc:∀ i,i<n→w.cell? ⟨bz,zo + i * 2,none⟩=some (.int .i64 (za i))∧w.cell? ⟨bz,zo + i * 2 + 1,none⟩=some (svV (zs i))) (hlc:∀ i,i<n→w.cell? ⟨bl,lo + i,none⟩=some (svV (lv i)))
 (hz:∀ i,i<n→ZoneIn w (.agg #[.int .i64 (za i),svV (zs i)]) (za i) (zl i)) (hL:∀ i,i<n→Evl w (svV (lv i)) (Ls i)) (hl:∀ i,i<n→(Ls i).length≤9223372036854775807) (hT:Tab w) :
 Calls Tryz.prog 7 #[.slice (some ⟨bz,zo,none⟩) n n,.slice (some ⟨bl,lo,none⟩) n n,.int .i64 fr,.int .i64 t,.int .i64 len] w (TtA w (meT (fun i=>bsL (za i) (zl i) fr t (Ls i)) (fun i=>bsF (za i) (zl i) fr t (Ls i)) n fr t len) (meF (fun i=>bsL (za i) (zl i) fr t (Ls i)) (fun i=>bsF (za i) (zl i) fr t (Ls i)) n fr t len)):=
 meet_of hS n hn za zs lv _ _ bz zo bl lo fr t len w hzc hlc (fun i hi W q=>bsy_any hS (za i) (zl i) (Ls i) fr t _ _ W ((hz i hi).on q) ((hL i hi).on q) (hl i hi) (hT.below q)) (fun _ _=>bsL_len _ _ _ _ _)
end Go.Proofs.YtoncfgfjdlgfcaaGreatDoor.Pp
namespace Go.Proofs.YtoncfgfjdlgfcaaGreatDoor.Pp
open Go.RowKit Bz Cal Txt
end Go.Proofs.YtoncfgfjdlgfcaaGreatDoor.Pp
